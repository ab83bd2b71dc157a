import Derived.Test.YtejbgcloblpbfaaGreatDoorR10
namespace Go.Proofs.YtejbgcloblpbfaaGreatDoor
open Go.RowKit
open R (Tok tk)
open K (Nm S Scans Ex)
def ExDoes (b : Nat) (s : ByteArray) (T : List Tok) (v : Value) (f : Nat) : Prop := ∀ (w : World) (σ : S), CR w b s T σ v → K.Vars w → 0 ≤ σ.depth → σ.depth ≤ 10 → 11 - σ.depth ≤ f → σ.names.length ≤ 1000 →
  Calls Tryz.prog 205 #[PT b] w fun x w' => x = .returned (exV (K.expr T f σ).2) ∧ CR w' b s T (K.expr T f σ).1 v ∧ ButV b v w w'
theorem exV_form (e : Ex) : (∃ t x, exV e = .iface t x) ∨ exV e = .nilIface := by cases e <;> first | exact Or.inl ⟨_, _, rfl⟩ | exact Or.inr rfl
set_option maxHeartbeats 1000000 in
theorem get_c {w : World} {b : Nat} {s : ByteArray} {T : List Tok} {σ : S} {v : Value} (hS : Scans s T) (h : CR w b s T σ v) (hv : K.Vars w) (h2 : 5 ≤ b) (hn : σ.names.length ≤ 1000) (p : Int)
    (f : Nat) (hE : ExDoes b s T v f) (d0 : 0 ≤ σ.depth) (d1 : σ.depth ≤ 10) (df : 11 - σ.depth ≤ f) :
    Calls Tryz.prog 226 #[PT b, .int .i64 p] w fun x w' => x = .returned (exV (K.getX T (K.expr T f) p σ).2) ∧ CR w' b s T (K.getX T (K.expr T f) p σ).1 v ∧ ButV b v w w' := by
  have hlt := h.cells.lt
  have hvl : ∀ k, v.ownBlock = some k → k < w.heap.size := fun k hk => (h.ne hk).2
  have k1 := K.step_keeps T σ
  have k2 := k1.trans (K.known_keeps T K.hasWords (K.step T σ))
  have hst := kstep_c hS h
  have hkn := fun (w : World) (h' : CR w b s T (K.step T σ) v) => known_words hS h' (by rw [k1.names]; exact hn)
  have hex := fun (w : World) (h' : CR w b s T (K.known T K.hasWords (K.step T σ)) v) (hv : K.Vars w) => hE w _ h' hv (by rw [k2.depth]; exact d0) (by rw [k2.depth]; exact d1) (by rw [k2.depth]; exact df) (by rw [k2.names]; exact hn)
  have HG : Hid (K.getX T (K.expr T f) p σ = ((K.expr T f (K.known T K.hasWords (K.step T σ))).1, .get p (K.knownN T (K.step T σ)) (K.expr T f (K.known T K.hasWords (K.step T σ))).2)) := rfl
  generalize K.getX T (K.expr T f) p σ = G at *
  generalize K.expr T f (K.known T K.hasWords (K.step T σ)) = E at *
  generalize K.knownN T (K.step T σ) = N at *
  generalize K.known T K.hasWords (K.step T σ) = σ2 at *
  generalize K.step T σ = σ1 at *
  obtain ⟨x0, x1, x2, x3, x4⟩ := N
  have HV : Hid (exV G.2 = .iface 210 (.agg #[.int .i64 p, .string x0, .int .i64 x1, .bool x2, .int .i64 x3, .int .i64 x4, exV E.2])) := by show _ = _; rw [HG.out]; rfl
  have HG1 : Hid (G.1 = E.1) := by show _ = _; rw [HG.out]
  have hce := exV_form E.2
  generalize exV E.2 = ev at *
  clear HG k1 k2 hE
  unfold nmV at hkn
  dsimp only at *
  rcases hce with ⟨et, ex, rfl⟩ | rfl
  all_goals
    go_enter Tryz.func226, Tryz.ntmps226
    go_wp2_with fail
    refine hst.mono ?_
    rintro x w1 ⟨rfl, hr1, hb1⟩
    go_wp2_with fail
    refine (hkn _ hr1).mono ?_
    rintro x w2 ⟨rfl, hr2, hb2⟩
    have hr3 := hr2.alloc (.cells #[.string x0, .int .i64 x1, .bool x2, .int .i64 x3, .int .i64 x4] 96 (0, 0))
    have nb := At.alloc_new w2 [.string x0, .int .i64 x1, .bool x2, .int .i64 x3, .int .i64 x4] 96
    have B3 := (hb1.trans hb2).alloc (.cells #[.string x0, .int .i64 x1, .bool x2, .int .i64 x3, .int .i64 x4] 96 (0, 0))
    have V3 := hv.but B3 h2 hlt
    have hl2 := hr2.cells.lt
    have hvl2 : ∀ k, v.ownBlock = some k → k ≠ w2.heap.size := fun k hk => by have := (hr2.ne hk).2; omega
    clear hst hkn hr1
    go_upto_region 3 with fail
    go_region_with (go_at_call 205; refine (hex _ hr3.drew V3).mono ?_; rintro x w4 ⟨rfl, hr4, hb4⟩; have nb4 := nb.of_block (hb4.block _ nb.lt (by omega) (fun e => hvl2 _ e rfl)); have k0 := nb4.cell 0; have k1 := nb4.cell 1; have k2 := nb4.cell 2; have k3 := nb4.cell 3; have k4 := nb4.cell 4; simp only [List.getElem?_cons_zero, List.getElem?_cons_succ] at k0 k1 k2 k3 k4)
    all_goals
      go_wp2_with fail
      go_ret
      rw [HV.out, HG1.out]
      exact ⟨rfl, hr4, ((B3.drew).toV v).trans hb4⟩
end Go.Proofs.YtejbgcloblpbfaaGreatDoor
namespace Go.Proofs.YtejbgcloblpbfaaGreatDoor
open Go.RowKit
open R (Tok tk)
open K (Nm S Scans Ex)
set_option maxHeartbeats 1000000 in
theorem choose_c {w : World} {b : Nat} {s : ByteArray} {T : List Tok} {σ : S} {v : Value} (hS : Scans s T) (h : CR w b s T σ v) (hv : K.Vars w) (h2 : 5 ≤ b) (hvb : ∀ k, v.ownBlock = some k → 5 ≤ k) (hn : σ.names.length ≤ 1000) (p : Int)
    (f : Nat) (hE : ExDoes b s T v f) (d0 : 0 ≤ σ.depth) (d1 : σ.depth ≤ 10) (df : 11 - σ.depth ≤ f) :
    Calls Tryz.prog 227 #[PT b, .int .i64 p] w fun x w' => x = .returned (exV (K.choX T (K.expr T f) p σ).2) ∧ CR w' b s T (K.choX T (K.expr T f) p σ).1 v ∧ ButV b v w w' := by
  have hlt := h.cells.lt
  have k1 := K.step_keeps T σ
  have hst := kstep_c hS h
  have HG : Hid (K.choX T (K.expr T f) p σ = ((K.expr T f (K.expr T f (K.expr T f (K.step T σ)).1).1).1, .cho p (K.expr T f (K.step T σ)).2 (K.expr T f (K.expr T f (K.step T σ)).1).2 (K.expr T f (K.expr T f (K.expr T f (K.step T σ)).1).1).2)) := rfl
  generalize K.choX T (K.expr T f) p σ = G at *
  generalize K.step T σ = σ1 at *
  have k2 := k1.trans (K.expr_keeps T f σ1)
  have k3 := k2.trans (K.expr_keeps T f (K.expr T f σ1).1)
  have hx1 := fun (w : World) (h' : CR w b s T σ1 v) (hv : K.Vars w) => hE w _ h' hv (by rw [k1.depth]; exact d0) (by rw [k1.depth]; exact d1) (by rw [k1.depth]; exact df) (by rw [k1.names]; exact hn)
  have hx2 := fun (w : World) (h' : CR w b s T (K.expr T f σ1).1 v) (hv : K.Vars w) => hE w _ h' hv (by rw [k2.depth]; exact d0) (by rw [k2.depth]; exact d1) (by rw [k2.depth]; exact df) (by rw [k2.names]; exact hn)
  have hx3 := fun (w : World) (h' : CR w b s T (K.expr T f (K.expr T f σ1).1).1 v) (hv : K.Vars w) => hE w _ h' hv (by rw [k3.depth]; exact d0) (by rw [k3.depth]; exact d1) (by rw [k3.depth]; exact df) (by rw [k3.names]; exact hn)
  clear k1 k2 k3 hE
  generalize K.expr T f (K.expr T f (K.expr T f σ1).1).1 = E3 at *
  generalize K.expr T f (K.expr T f σ1).1 = E2 at *
  generalize K.expr T f σ1 = E1 at *
  have HV : Hid (exV G.2 = .iface 214 (.agg #[.int .i64 p, exV E1.2, exV E2.2, exV E3.2])) := by show _ = _; rw [HG.out]; rfl
  have HG1 : Hid (G.1 = E3.1) := by show _ = _; rw [HG.out]
  have f1 := exV_form E1.2
  have f2 := exV_form E2.2
  have f3 := exV_form E3.2
  generalize exV E1.2 = e1 at *
  generalize exV E2.2 = e2 at *
  generalize exV E3.2 = e3 at *
  clear HG
  rcases f1 with ⟨t1, x1, rfl⟩ | rfl <;> rcases f2 with ⟨t2, x2, rfl⟩ | rfl <;> rcases f3 with ⟨t3, x3, rfl⟩ | rfl
  all_goals
    go_enter Tryz.func227, Tryz.ntmps227
    go_wp2_with fail
    refine hst.mono ?_
    rintro x w1 ⟨rfl, hr1, hb1⟩
    have V1 := hv.but hb1 h2 hlt
    go_wp2_with fail
    refine (hx1 _ hr1 V1).mono ?_
    rintro x w2 ⟨rfl, hr2, hb2⟩
    have V2 := V1.butV hb2 h2 hr1.cells.lt hvb
    go_wp2_with fail
    refine (hx2 _ hr2 V2).mono ?_
    rintro x w3 ⟨rfl, hr3, hb3⟩
    have V3 := V2.butV hb3 h2 hr2.cells.lt hvb
    go_wp2_with fail
    refine (hx3 _ hr3 V3).mono ?_
    rintro x w4 ⟨rfl, hr4, hb4⟩
    go_wp2_with fail
    go_ret
    rw [HV.out, HG1.out]
    exact ⟨rfl, hr4, (((hb1.toV v).trans hb2).trans hb3).trans hb4⟩
set_option maxHeartbeats 1000000 in
theorem operation_c {w : World} {b : Nat} {s : ByteArray} {T : List Tok} {σ : S} {v : Value} (hS : Scans s T) (h : CR w b s T σ v) (hv : K.Vars w) (h2 : 5 ≤ b) (hvb : ∀ k, v.ownBlock = some k → 5 ≤ k) (hn : σ.names.length ≤ 1000) (p : Int)
    (f : Nat) (hE : ExDoes b s T v f) (d0 : 0 ≤ σ.depth) (d1 : σ.depth ≤ 10) (df : 11 - σ.depth ≤ f) (hop : K.isOpS (tk T σ.i).s = true) :
    Calls Tryz.prog 229 #[PT b, .int .i64 p] w fun x w' => x = .returned (exV (K.opX T (K.expr T f) p σ).2) ∧ CR w' b s T (K.opX T (K.expr T f) p σ).1 v ∧ ButV b v w w' := by
  have hlt := h.cells.lt
  have hz := hS.tsize h.lt
  have k1 := K.take_keeps T K.isOpS σ
  have ht := ktake_isOp hS h K.isOpS (isOp_c _ w (by omega))
  have hs0 : 0 < (tk T σ.i).s.size := by
    by_cases e : (tk T σ.i).s.size = 1
    · omega
    · exact absurd hop (by unfold K.isOpS; rw [sign_long e]; decide)
  have HG : Hid (K.opX T (K.expr T f) p σ = ((K.expr T f (K.expr T f (K.take T K.isOpS σ)).1).1, .op p (R.byteAt (tk T σ.i).s 0) (K.expr T f (K.take T K.isOpS σ)).2 (K.expr T f (K.expr T f (K.take T K.isOpS σ)).1).2)) := rfl
  generalize K.opX T (K.expr T f) p σ = G at *
  generalize K.take T K.isOpS σ = σ1 at *
  have k2 := k1.trans (K.expr_keeps T f σ1)
  have hx1 := fun (w : World) (h' : CR w b s T σ1 v) (hv : K.Vars w) => hE w _ h' hv (by rw [k1.depth]; exact d0) (by rw [k1.depth]; exact d1) (by rw [k1.depth]; exact df) (by rw [k1.names]; exact hn)
  have hx2 := fun (w : World) (h' : CR w b s T (K.expr T f σ1).1 v) (hv : K.Vars w) => hE w _ h' hv (by rw [k2.depth]; exact d0) (by rw [k2.depth]; exact d1) (by rw [k2.depth]; exact df) (by rw [k2.names]; exact hn)
  clear k1 k2 hE
  generalize K.expr T f (K.expr T f σ1).1 = E2 at *
  generalize K.expr T f σ1 = E1 at *
  generalize tk T σ.i = t at *
  obtain ⟨ts, tp⟩ := t
  dsimp only at *
  have HV : Hid (exV G.2 = .iface 212 (.agg #[.int .i64 p, .int .u8 ts[0].toNat, exV E1.2, exV E2.2])) := by show _ = _; rw [HG.out, ← R.byte_get ts 0 hs0]; rfl
  have HG1 : Hid (G.1 = E2.1) := by show _ = _; rw [HG.out]
  have f1 := exV_form E1.2
  have f2 := exV_form E2.2
  generalize exV E1.2 = e1 at *
  generalize exV E2.2 = e2 at *
  clear HG hop
  have hs0' : (0 : Int) < (ts.size : Int) := by omega
  rcases f1 with ⟨t1, x1, rfl⟩ | rfl <;> rcases f2 with ⟨t2, x2, rfl⟩ | rfl
  all_goals
    go_enter Tryz.func229, Tryz.ntmps229
    go_wp2_with fail
    refine ht.mono ?_
    rintro x w1 ⟨rfl, hr1, hb1⟩
    have V1 := hv.but hb1 h2 hlt
    go_wp2_with fail
    refine (hx1 _ hr1 V1).mono ?_
    rintro x w2 ⟨rfl, hr2, hb2⟩
    have V2 := V1.butV hb2 h2 hr1.cells.lt hvb
    go_wp2_with fail
    refine (hx2 _ hr2 V2).mono ?_
    rintro x w3 ⟨rfl, hr3, hb3⟩
    go_wp2_with fail
    go_ret
    rw [HV.out, HG1.out]
    exact ⟨rfl, hr3, ((hb1.toV v).trans hb2).trans hb3⟩
end Go.Proofs.YtejbgcloblpbfaaGreatDoor
