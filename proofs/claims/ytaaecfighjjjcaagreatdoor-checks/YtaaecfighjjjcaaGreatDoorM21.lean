import Derived.Test.YtaaecfighjjjcaaGreatDoorM20
namespace Go.Proofs.YtaaecfighjjjcaaGreatDoor
open Go.RowKit
open R (Tok tk)
open K (Nm S Scans Ex Do)

theorem K.here_i (T : List Tok) (e : Int) (σ : S) : (K.here T e σ).i = T.length - 1 := K.fail_i T _ _ _
/-- Behind the end nothing moves. -/
theorem K.Fwd.last {T : List Tok} {σ σ' : S} (h : K.Fwd T σ σ') (hp : 0 < T.length) (e : σ.i = T.length - 1) : σ'.i = T.length - 1 := by
  have := h (by omega)
  omega

set_option maxHeartbeats 4000000 in
theorem loop_c {w : World} {b : Nat} {s : ByteArray} {T : List Tok} {σ : S} {v : Value} {f : Nat} (hS : Scans s T) (h2 : 2 ≤ b) (hD : DosK b s T f) (h : CR w b s T σ v) (hv : K.Vars w) (hvb : ∀ k, v.ownBlock = some k → 2 ≤ k) (hk : KB σ) (d1 : σ.depth ≤ 10) (df : 11 - σ.depth ≤ f) (l1 : σ.loops ≤ 2) (hfw : Few σ) (p : Int) :
    Calls Tryz.prog 145 #[PT b, .int .i64 p] w fun x w' => ∃ u, x = .returned u ∧ DoIs (From w.heap.size) w' (K.forX T (K.dos T f) p σ).2 u ∧ CR w' b s T (K.forX T (K.dos T f) p σ).1 v ∧ ButV b v w w' := by
  have hE := kexpr_c hS h2 hvb 11
  have hlt := h.cells.lt
  have hvl : ∀ k, v.ownBlock = some k → k < w.heap.size := fun k hk => (h.ne hk).2
  have hnn : σ.names.length ≤ 1000 := by have := hk.nm; omega
  have d0 := hk.d0
  have l0 := hk.l0
  have w0 := hfw.1
  have w1 := hfw.2
  have k0 := K.loop0_keeps T σ
  have k1 := k0.trans (K.step_keeps T (K.loop0 T σ))
  have k2 := k1.trans (K.newName_keeps T (K.step T (K.loop0 T σ)))
  have k3 := k2.trans (K.expr_keeps T 11 (K.newName T (K.step T (K.loop0 T σ))))
  have hfh := failHere_c hS h 6
  have hst := fun (w : World) (h' : CR w b s T (K.loop0 T σ) v) => kstep_c hS h'
  have hnm := fun (w : World) (h' : CR w b s T (K.step T (K.loop0 T σ)) v) => newName_c hS h' (by rw [k1.names]; exact hnn)
  have hex := fun (w : World) (h' : CR w b s T (K.newName T (K.step T (K.loop0 T σ))) v) (hv : K.Vars w) => hE w _ h' hv (by rw [k2.depth]; exact d0) (by rw [k2.depth]; exact d1) (by rw [k2.depth]; omega) (by rw [k2.names]; exact hnn)
  have hlive : Live T f (K.seeing (K.counter T σ) (K.expr T 11 (K.newName T (K.step T (K.loop0 T σ)))).1) := by
    by_cases e2 : σ.loops = 2
    · refine Or.inr ⟨?_, ?_, ?_⟩
      · show (K.expr T 11 (K.newName T (K.step T (K.loop0 T σ)))).1.i = T.length - 1
        have e0 : (K.loop0 T σ).i = T.length - 1 := by unfold K.loop0; rw [if_pos e2]; exact K.here_i T _ _
        exact (((K.step_fwd T (K.loop0 T σ)).trans (K.newName_fwd T _)).trans (K.expr_fwd T 11 _)).last hS.pos e0
      · show (K.expr T 11 (K.newName T (K.step T (K.loop0 T σ)))).1.depth ≤ 11
        rw [k3.depth]; omega
      · show (K.expr T 11 (K.newName T (K.step T (K.loop0 T σ)))).1.loops + 1 ≤ 3
        rw [k3.loops]; omega
    · refine Or.inl ⟨?_, ?_, ?_, (hfw.keeps k3 : Few (K.expr T 11 (K.newName T (K.step T (K.loop0 T σ)))).1)⟩
      · show (K.expr T 11 (K.newName T (K.step T (K.loop0 T σ)))).1.depth ≤ 10
        rw [k3.depth]; omega
      · show 11 - (K.expr T 11 (K.newName T (K.step T (K.loop0 T σ)))).1.depth ≤ f
        rw [k3.depth]; omega
      · show (K.expr T 11 (K.newName T (K.step T (K.loop0 T σ)))).1.loops + 1 ≤ 2
        rw [k3.loops]; omega
  have hbd := fun (w : World) (h' : CR w b s T (K.expr T 11 (K.newName T (K.step T (K.loop0 T σ)))).1 v) (hv : K.Vars w) => body_c h2 hD h' hv hvb (hk.keeps k3) (by rw [k3.loops]; omega) (K.counter T σ) hlive
  have HG : Hid (K.forX T (K.dos T f) p σ = ((K.body (K.dos T f) (K.counter T σ) (K.expr T 11 (K.newName T (K.step T (K.loop0 T σ)))).1).1, .fors p (K.counter T σ) (K.expr T 11 (K.newName T (K.step T (K.loop0 T σ)))).2 (K.body (K.dos T f) (K.counter T σ) (K.expr T 11 (K.newName T (K.step T (K.loop0 T σ)))).1).2)) := rfl
  have HC : Hid (K.counter T σ = ⟨(tk T (K.step T (K.loop0 T σ)).i).s, 2, false, 0, σ.words + σ.loops⟩) := rfl
  have H0 : Hid (K.loop0 T σ = if σ.loops = 2 then K.here T 6 σ else σ) := rfl
  have HW := hide (show (K.step T (K.loop0 T σ)).words = σ.words ∧ (K.newName T (K.step T (K.loop0 T σ))).words = σ.words ∧ (K.step T (K.loop0 T σ)).loops = σ.loops ∧ (K.newName T (K.step T (K.loop0 T σ))).loops = σ.loops from ⟨k1.words, k2.words, k1.loops, k2.loops⟩)
  clear k0 k1 k2 k3 hlive hE hD
  generalize K.forX T (K.dos T f) p σ = G at *
  generalize K.counter T σ = N at *
  generalize K.expr T 11 (K.newName T (K.step T (K.loop0 T σ))) = E at *
  generalize K.body (K.dos T f) N E.1 = BD at *
  generalize K.newName T (K.step T (K.loop0 T σ)) = σ2 at *
  generalize K.step T (K.loop0 T σ) = σ1 at *
  generalize K.loop0 T σ = σ0 at *
  generalize (tk T σ1.i).s = tx at *
  have eN := HC.out
  subst eN
  unfold nmV at hbd
  dsimp only at *
  have HG1 : Hid (G.1 = BD.1) := by show _ = _; rw [HG.out]
  have HV : Hid (∀ w' lv, DosIs w.heap.size BD.2 w' lv → DoIs (From w.heap.size) w' G.2 (Value.iface 167 (.agg #[.int .i64 p, .string tx, .int .i64 2, .bool false, .int .i64 0, .int .i64 (σ.words + σ.loops), exV E.2, lv]))) := fun w' lv ⟨ls, a1, a2⟩ => by
    rw [HG.out]; unfold DoIs; exact ⟨lv, ls, rfl, a1, a2⟩
  have f1 := exV_form E.2
  generalize exV E.2 = ev at *
  have c6 := h.c 6 _ rfl
  clear HG HC hk hfw
  go_enter Tryz.func145, Tryz.ntmps145
  go_upto_if 11 with fail
  go_cut [11] (fun _ wr => CR wr b s T σ0 v ∧ But b w wr)
  case first =>
    by_cases e2 : σ.loops = 2
    · have e := H0.out
      rw [if_pos e2] at e
      have HE := hide e
      have e2' := beq_yes e2
      clear e e2
      rw [e2']
      go_wp2_with fail
      refine hfh.mono ?_
      rintro x w1 ⟨rfl, hr1, hb1⟩
      go_wp2_with fail
      go_meet
      case rel => rw [HE.out]; exact ⟨hr1, hb1⟩
    · have e := H0.out
      rw [if_neg e2] at e
      have HE := hide e
      have e2' := beq_no e2
      clear e e2
      rw [e2']
      go_wp2_with fail
      go_meet
      case rel => rw [HE.out]; exact ⟨h, But.refl _ _⟩
  case rest =>
    obtain ⟨hr0, hb0⟩ := hcut
    clear hfh H0 c6
    go_wp2_with fail
    refine (hst _ hr0).mono ?_
    rintro x w2 ⟨rfl, hr2, hb2⟩
    have B2 := hb0.trans hb2
    have x4 : w2.cell? ⟨b, 4, none⟩ = some (.int .i64 σ.words) := by rw [← HW.out.1]; exact hr2.c 4 _ rfl
    have x6 : w2.cell? ⟨b, 6, none⟩ = some (.int .i64 σ.loops) := by rw [← HW.out.2.2.1]; exact hr2.c 6 _ rfl
    have hwr : IntKind.i64.wrap (σ.words + σ.loops) = σ.words + σ.loops := k64 _ (by omega)
    clear hst hr0 hb0
    go_upto_region 4 with fail
    go_cut [5] from 16 to 27 (fun q wr => ∃ Z, q = .pointer (some ⟨Z, 0, none⟩) ∧ w.heap.size ≤ Z ∧ At wr Z 82 [.string tx, .int .i64 2, .bool false, .int .i64 0, .int .i64 (σ.words + σ.loops)] ∧ CR wr b s T σ2 v ∧ But b w wr)
    case first =>
      have nb2 := hr2.cells.lt
      have hv2 : ∀ k, v.ownBlock = some k → k < w2.heap.size := fun k e => (hr2.ne e).2
      have s2 := B2.size
      have hn1 := hnm _ hr2.drew
      have hn2 := hnm _ (hr2.alloc (.cells #[.string ⟨#[]⟩, .int .i64 0, .bool false, .int .i64 0, .int .i64 0] 82 (0, 0))).drew
      go_region_with (go_at_call 109; first | (refine hn1.mono ?_; rintro x w4 ⟨rfl, hr4, hb4⟩; have nb4 := hr4.cells.lt; have x4' : w4.cell? ⟨b, 4, none⟩ = some (.int .i64 σ.words) := (by rw [← HW.out.2.1]; exact hr4.c 4 _ rfl); have x6' : w4.cell? ⟨b, 6, none⟩ = some (.int .i64 σ.loops) := (by rw [← HW.out.2.2.2]; exact hr4.c 6 _ rfl)) | (refine hn2.mono ?_; rintro x w4 ⟨rfl, hr4, hb4⟩; have nb4 := hr4.cells.lt; have x4' : w4.cell? ⟨b, 4, none⟩ = some (.int .i64 σ.words) := (by rw [← HW.out.2.1]; exact hr4.c 4 _ rfl); have x6' : w4.cell? ⟨b, 6, none⟩ = some (.int .i64 σ.loops) := (by rw [← HW.out.2.2.2]; exact hr4.c 6 _ rfl); have hb4' : But b (w2.alloc (.cells #[.string ⟨#[]⟩, .int .i64 0, .bool false, .int .i64 0, .int .i64 0] 82 (0, 0))) w4 := ((But.refl b _).drew).trans hb4; have RB := zero_box hb4' nb2; have r0 := RB.cell 0; have r1 := RB.cell 1; have r2 := RB.cell 2; have r3 := RB.cell 3; have r4 := RB.cell 4; simp only [List.getElem?_cons_zero, List.getElem?_cons_succ] at r0 r1 r2 r3 r4; have q0 := RB.frozen 0; have q1 := RB.frozen 1; have q2 := RB.frozen 2; have q3 := RB.frozen 3; have q4 := RB.frozen 4))
      all_goals
        first
        | (have RZ := (((((RB.set 0 (.string tx)).set 1 (.int .i64 2)).set 2 (.bool false)).set 3 (.int .i64 0)).set 4 (.int .i64 (σ.words + σ.loops)))
           have CZ := put5 hr4 hb4' nb2 hv2 (.string tx) (.int .i64 2) (.bool false) (.int .i64 0) (.int .i64 (σ.words + σ.loops))
           go_wp2_with fail
           go_meet
           case rel => exact ⟨w2.heap.size, rfl, s2, RZ, CZ.1, B2.trans CZ.2⟩)
        | (have aN := At.alloc_new w4 [.string tx, .int .i64 2, .bool false, .int .i64 0, .int .i64 (σ.words + σ.loops)] 82
           have s4' : w2.heap.size ≤ w4.heap.size := hb4.size
           go_wp2_with fail
           go_meet
           case rel => exact ⟨w4.heap.size, rfl, by omega, aN, hr4.alloc _, (B2.drew.trans hb4).alloc _⟩)
    case rest =>
      obtain ⟨Z, rfl, hZ, aZ, hr3, B3⟩ := hcut
      clear hnm hr2 hb2 x4 x6 hwr B2
      have V3 := hv.but B3 h2 hlt
      have nvz : ∀ k, v.ownBlock = some k → k ≠ Z := fun k e => by have := hvl k e; omega
      go_wp2_with fail
      refine (hex _ hr3 V3).mono ?_
      rintro x w5 ⟨rfl, hr5, hb5⟩
      have V5 := V3.butV hb5 h2 hr3.cells.lt hvb
      have aZ5 := aZ.of_block (hb5.block _ aZ.lt (by omega) (fun e => nvz _ e rfl))
      have j0 := aZ5.cell 0
      have j1 := aZ5.cell 1
      have j2 := aZ5.cell 2
      have j3 := aZ5.cell 3
      have j4 := aZ5.cell 4
      simp only [List.getElem?_cons_zero, List.getElem?_cons_succ] at j0 j1 j2 j3 j4
      have nZ := aZ5.lt
      have B5 := (B3.toV v).trans hb5
      have s5 := B5.size
      clear hex aZ hr3 V3
      rcases f1 with ⟨et, ex, rfl⟩ | rfl
      all_goals
        go_upto_region 6 with fail
        go_region_with (go_at_call 173; refine (hbd _ hr5.drew V5).mono ?_; rintro x w6 ⟨lv, rfl, ⟨ls, l1', l2'⟩, hr6, hb6⟩; have aZ6 := aZ5.of_block (hb6.block _ nZ (by omega) (fun e => nvz _ e rfl)); have k0 := aZ6.cell 0; have k1 := aZ6.cell 1; have k2 := aZ6.cell 2; have k3 := aZ6.cell 3; have k4 := aZ6.cell 4; simp only [List.getElem?_cons_zero, List.getElem?_cons_succ] at k0 k1 k2 k3 k4; obtain ⟨la, ln, lc, rfl⟩ := l1'.form)
        all_goals
          go_wp2_with fail
          go_ret
          rw [HG1.out]
          have s5' : w.heap.size ≤ w5.drew.heap.size := s5
          exact ⟨_, rfl, HV.out _ _ ⟨ls, l1'.lower (From.le s5'), l2'.lower (From.le s5')⟩, hr6, B5.trans (((But.refl b _).drew.toV v).trans hb6)⟩
end Go.Proofs.YtaaecfighjjjcaaGreatDoor
