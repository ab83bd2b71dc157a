import Derived.Test.YtejbgcloblpbfaaGreatDoorR15
import Derived.Test.YtejbgcloblpbfaaGreatDoorR13
namespace Go.Proofs.YtejbgcloblpbfaaGreatDoor
open Go.RowKit
open R (Tok tk)
open K (Nm S Scans Ex Do)
theorem row_head {w1 w2 : World} {e size n m : Nat} {v v' : Value} {xs ys : List Value} (hsz : 0 < size) (h1 : w1.ownsRow 0 e size v n xs) (h1' : w1.ownsRow 0 e size v' (n + m) (xs ++ ys)) (h2' : w2.ownsRow 0 e size v' (n + m) (xs ++ ys))
    (ho : ∀ k, v.ownBlock = some k → v'.ownBlock ≠ some k → w2.heap[k]? = w1.heap[k]?) : w2.ownsRow 0 e size v n xs := by
  obtain ⟨hl, h0 | ⟨g, cap, cur, rfl, _, hg, hn, hc, hs, hx⟩⟩ := h1
  · exact ⟨hl, Or.inl h0⟩
  · by_cases hb : v'.ownBlock = some g
    · obtain ⟨_, ⟨h0, _⟩ | ⟨g', cap', cur', rfl, _, hg', hn', hc', hs', hx'⟩⟩ := h1'
      · rw [h0] at hb; simp [Value.ownBlock] at hb
      · simp only [Value.ownBlock, Option.some.injEq] at hb
        subst hb
        rw [hg] at hg'
        simp only [Option.some.injEq, Obj.cells.injEq, and_true] at hg'
        obtain ⟨rfl⟩ := hg'
        have hcc : cap = cap' := Nat.eq_of_mul_eq_mul_right hsz (hs.symm.trans hs')
        subst hcc
        obtain ⟨_, ⟨h0, _⟩ | ⟨g2, cap2, cur2, hv2, _, hg2, hn2, hc2, hs2, hx2⟩⟩ := h2'
        · simp at h0
        · simp only [Value.slice.injEq, Option.some.injEq, Addr.mk.injEq] at hv2
          obtain ⟨⟨rfl, _⟩, _, rfl⟩ := hv2
          refine ⟨hl, Or.inr ⟨g', cap, cur2, rfl, Nat.zero_le _, hg2, hn, hc, hs2, ?_⟩⟩
          have e7 := congrArg (List.take (n * size)) hx2
          rw [List.take_take, Nat.min_eq_left (Nat.mul_le_mul_right _ (by omega)), List.take_append_of_le_length (by omega)] at e7
          rw [e7]
          exact List.take_of_length_le (by omega)
    · exact ⟨hl, Or.inr ⟨g, cap, cur, rfl, Nat.zero_le _, by rw [ho g rfl hb]; exact hg, hn, hc, hs, hx⟩⟩
theorem CR.push {w w1 : World} {b : Nat} {s : ByteArray} {T : List Tok} {σ : S} {v v' : Value} (h : CR w b s T σ v) (n : Nm) (row : w1.ownsRow 0 96 5 v' (σ.names.length + 1) (σ.names.flatMap nmCells ++ nmCells n)) (g : Grew w w1 v v') :
    CR (w1.setCell ⟨b, 3, none⟩ v') b s T { σ with names := σ.names ++ [n] } v' := by
  have hb : w1.heap[b]? = w.heap[b]? := g.block b h.cells.lt (fun e => (h.ne e).1 rfl)
  have nb : ∀ k, v'.ownBlock = some k → k ≠ b := fun k e => by
    obtain ⟨cur, hc⟩ := own_block row e
    rintro rfl
    have := h.cells.of_block hb
    unfold At at this
    rw [this] at hc
    simp at hc
  refine ⟨(h.cells.of_block hb).set 3 v', ?_, h.lt⟩
  refine row_of ?_ fun k e => Below.heap_setCell _ _ _ _ (nb k e)
  simpa using row
def quietly (Q : Exit → Act → World → Prop) : Exit → Act → World → Prop
  | .normal, a, w => Q .normal a w
  | _, _, _ => False
theorem wp_quietly {P : Program} {c : Code} {Q : Exit → Act → World → Prop} {a : Act} {w : World} (h : c.wp P (quietly Q) a w) : c.wp P Q a w :=
  Code.wp_mono (fun e a w hh => by cases e <;> first | exact hh | exact hh.elim) h
theorem unbody_d (q0 q2 b : Nat) (a : Option Addr) (n c : Nat) (v' : Value) (d : Int) (u : FrameMode) (w : World) (hd : 0 ≤ d ∧ d ≤ 100) (c0 : w.cell? ⟨q0, 0, none⟩ = some (PT b)) (c2 : w.cell? ⟨q2, 0, none⟩ = some (.slice a n c))
    (c3 : w.cell? ⟨b, 3, none⟩ = some v') (f3 : w.frozen? ⟨b, 3, none⟩ = false) (c6 : w.cell? ⟨b, 6, none⟩ = some (.int .i64 d)) (f6 : w.frozen? ⟨b, 6, none⟩ = false) :
    CallsD Tryz.prog 222 #[.pointer (some ⟨q2, 0, none⟩), .pointer (some ⟨q0, 0, none⟩)] u w fun e u' w' => u' = u ∧ (e = .returned (.tuple #[]) ∧ w' = (w.setCell ⟨b, 3, none⟩ (.slice a n c)).setCell ⟨b, 6, none⟩ (.int .i64 (d - 1))) := by
  obtain ⟨d0, d1⟩ := hd
  go_enter_d Tryz.func222, Tryz.ntmps222
  go_wp2
  go_end0
  exact ⟨rfl, rfl⟩
structure Sees (w w' : World) (b : Nat) (s : ByteArray) (T : List Tok) (σ : S) (v : Value) (n : Nm) (v' : Value) (Z : Nat) : Prop where
  cr : CR w' b s T { σ with names := σ.names ++ [n] } v'
  bv : ButV b v w w'
  old : w'.ownsRow 0 96 5 v σ.names.length (σ.names.flatMap nmCells)
  a0 : At w' Z 134 [PT b]
  a2 : At w' (Z + 2) 81 [v]
  own : ∀ k, v'.ownBlock = some k → v.ownBlock = some k ∨ Z + 2 < k
set_option maxHeartbeats 2000000 in
theorem body_c {w : World} {b : Nat} {s : ByteArray} {T : List Tok} {σ : S} {v : Value} {f : Nat} (h2 : 5 ≤ b) (hD : DosK b s T f) (h : CR w b s T σ v) (hv : K.Vars w) (hvb : ∀ k, v.ownBlock = some k → 5 ≤ k) (hk : KB σ) (l1 : σ.loops ≤ 10) (n : Nm) (hl : Live T f (K.seeing n σ)) :
    Calls Tryz.prog 209 #[PT b, nmV n] w fun x w' => ∃ u, x = .returned u ∧ DosIs w.heap.size (K.body (K.dos T f) n σ).2 w' u ∧ CR w' b s T (K.body (K.dos T f) n σ).1 v ∧ ButV b v w w' := by
  have hmf : ∀ (fn : Fn) (first cap : Array Value) (w : World), (Instr.makeFunc fn first cap).run Tryz.prog w = .ok (.func fn first cap) w := fun _ _ _ _ => rfl
  obtain ⟨i0, hi, hz0, hz1, hz2⟩ := info_parts info_name
  obtain ⟨va, vc, hvv⟩ := h.len
  subst hvv
  have hlt := h.cells.lt
  have hvl : ∀ k, (Value.slice va σ.names.length vc).ownBlock = some k → k < w.heap.size := fun k hk => (h.ne hk).2
  have hnl : σ.names.length ≤ 1000 := by have := hk.nm; omega
  have l0 := hk.l0
  have hks : KB (K.seeing n σ) := by
    obtain ⟨a1, a2, a3⟩ := hk
    refine ⟨a1, ?_, ?_⟩
    · show 0 ≤ σ.loops + 1; omega
    · show ((σ.names ++ [n]).length : Int) ≤ 900 + (σ.loops + 1); simp; omega
  have HB1 : Hid ((K.body (K.dos T f) n σ).1 = K.unseen σ (K.dos T f (K.seeing n σ)).1) := rfl
  have HB2 : Hid ((K.body (K.dos T f) n σ).2 = (K.dos T f (K.seeing n σ)).2) := rfl
  have kd := K.dos_keeps T f (K.seeing n σ)
  have HKD := hide (show (K.dos T f (K.seeing n σ)).1.loops = σ.loops + 1 ∧ (K.dos T f (K.seeing n σ)).1.names = σ.names ++ [n] from ⟨kd.loops, kd.names⟩)
  have hds := fun (w : World) (v' : Value) (h' : CR w b s T (K.seeing n σ) v') (hv : K.Vars w) (hvb : ∀ k, v'.ownBlock = some k → 5 ≤ k) => hD w _ v' h' hv hvb hks hl
  generalize K.body (K.dos T f) n σ = BD at *
  generalize K.dos T f (K.seeing n σ) = D at *
  obtain ⟨x0, x1, x2, x3, x4⟩ := n
  unfold nmV
  dsimp only
  have hone : ∀ u ∈ [Value.string x0, .int .i64 x1, .bool x2, .int .i64 x3, .int .i64 x4], u.oneCell' = true := by
    intro u hu
    simp only [List.mem_cons, List.not_mem_nil, or_false] at hu
    rcases hu with rfl | rfl | rfl | rfl | rfl <;> rfl
  have c3 := h.c 3 _ rfl
  clear hD kd
  go_enter_defers Tryz.func209, Tryz.ntmps209
  go_upto_region 2 with fail
  have hW := ((h.alloc (.cells #[PT b] 134 (0, 0))).alloc (.cells #[.string x0, .int .i64 x1, .bool x2, .int .i64 x3, .int .i64 x4] 96 (0, 0))).alloc (.cells #[.slice va σ.names.length vc] 81 (0, 0))
  have BW := ((((But.refl b w).alloc (.cells #[PT b] 134 (0, 0))).alloc (.cells #[.string x0, .int .i64 x1, .bool x2, .int .i64 x3, .int .i64 x4] 96 (0, 0))).alloc (.cells #[.slice va σ.names.length vc] 81 (0, 0)))
  have a0 : At (((w.alloc (.cells #[PT b] 134 (0, 0))).alloc (.cells #[.string x0, .int .i64 x1, .bool x2, .int .i64 x3, .int .i64 x4] 96 (0, 0))).alloc (.cells #[.slice va σ.names.length vc] 81 (0, 0))) w.heap.size 134 [PT b] := ((At.alloc_new w [PT b] _).alloc _).alloc _
  have a1 : At (((w.alloc (.cells #[PT b] 134 (0, 0))).alloc (.cells #[.string x0, .int .i64 x1, .bool x2, .int .i64 x3, .int .i64 x4] 96 (0, 0))).alloc (.cells #[.slice va σ.names.length vc] 81 (0, 0))) (w.heap.size + 1) 96 [.string x0, .int .i64 x1, .bool x2, .int .i64 x3, .int .i64 x4] := by
    have e : (w.alloc (.cells #[PT b] 134 (0, 0))).heap.size = w.heap.size + 1 := by simp
    have := (At.alloc_new (w.alloc (.cells #[PT b] 134 (0, 0))) [.string x0, .int .i64 x1, .bool x2, .int .i64 x3, .int .i64 x4] 96).alloc (.cells #[.slice va σ.names.length vc] 81 (0, 0))
    rw [e] at this
    exact this
  have a2 : At (((w.alloc (.cells #[PT b] 134 (0, 0))).alloc (.cells #[.string x0, .int .i64 x1, .bool x2, .int .i64 x3, .int .i64 x4] 96 (0, 0))).alloc (.cells #[.slice va σ.names.length vc] 81 (0, 0))) (w.heap.size + 2) 81 [.slice va σ.names.length vc] := by
    have e : ((w.alloc (.cells #[PT b] 134 (0, 0))).alloc (.cells #[.string x0, .int .i64 x1, .bool x2, .int .i64 x3, .int .i64 x4] 96 (0, 0))).heap.size = w.heap.size + 2 := by simp
    have := At.alloc_new ((w.alloc (.cells #[PT b] 134 (0, 0))).alloc (.cells #[.string x0, .int .i64 x1, .bool x2, .int .i64 x3, .int .i64 x4] 96 (0, 0))) [.slice va σ.names.length vc] 81
    rw [e] at this
    exact this
  have VW := hv.but BW h2 hlt
  generalize ((w.alloc (.cells #[PT b] 134 (0, 0))).alloc (.cells #[.string x0, .int .i64 x1, .bool x2, .int .i64 x3, .int .i64 x4] 96 (0, 0))).alloc (.cells #[.slice va σ.names.length vc] 81 (0, 0)) = W at *
  generalize HQ : w.heap.size = Z at *
  have z0 := a0.cell 0
  have z10 := a1.cell 0
  have z11 := a1.cell 1
  have z12 := a1.cell 2
  have z13 := a1.cell 3
  have z14 := a1.cell 4
  simp only [List.getElem?_cons_zero, List.getElem?_cons_succ] at z0 z10 z11 z12 z13 z14
  have y3 : W.cell? ⟨b, 3, none⟩ = some (.slice va σ.names.length vc) := hW.c 3 _ rfl
  have g3 := hW.cells.frozen 3
  have rS := hW.names
  have nb := hW.cells.lt
  have n0 := a0.lt
  have n1 := a1.lt
  have n2 := a2.lt
  have nv0 : (Value.slice va σ.names.length vc).ownBlock ≠ some b := fun e => (hW.ne e).1 rfl
  have nvz : ∀ j, (Value.slice va σ.names.length vc).ownBlock ≠ some (Z + j) := fun j e => by have := hvl _ e; omega
  clear c3
  go_cut [] from 10 to 19 (fun wr => ∃ gg cap3, Sees w wr b s T σ (.slice va σ.names.length vc) ⟨x0, x1, x2, x3, x4⟩ (.slice (some ⟨gg, 0, none⟩) (σ.names.length + 1) cap3) Z)
  case first =>
    refine wp_quietly ?_
    go_region_law (refine step_append_keep rfl (.tmp 14) (.tmp 16) 81 rfl 96 i0 _ 5 48 Tryz.underlying81 hi hz0 hz1 hz2 rfl (by decide) (.slice va σ.names.length vc) σ.names.length (σ.names.flatMap nmCells) rfl (by exact (World.ownsRow.alloc rS _).drew) ⟨W.heap.size, 0, none⟩ 1 1 [.string x0, .int .i64 x1, .bool x2, .int .i64 x3, .int .i64 x4] rfl rfl (by exact row_new W [.string x0, .int .i64 x1, .bool x2, .int .i64 x3, .int .i64 x4] _) hone (few_le (by omega)) (by omega) Nat.one_pos ?_; intro gg cap3 w3 hrow hg hkk hold; have gr := Grew.of ((More.refl W).alloc _).drew hg hkk; have y3' : w3.cell? ⟨b, 3, none⟩ = some (.slice va σ.names.length vc) := (World.cell?_of_block (gr.block b nb nv0)).trans y3; have g3' : w3.frozen? ⟨b, 3, none⟩ = false := (World.frozen?_of_block (gr.block b nb nv0)).trans g3; have z0' : w3.cell? ⟨Z, 0, none⟩ = some (PT b) := (World.cell?_of_block (gr.block Z n0 (nvz 0))).trans z0; clear hg hkk)
    all_goals
      dsimp only [quietly]
      have C3 := hW.push ⟨x0, x1, x2, x3, x4⟩ hrow gr
      have bne : ∀ k, k ≠ b → (w3.setCell ⟨b, 3, none⟩ (.slice (some ⟨gg, 0, none⟩) (σ.names.length + 1) cap3)).heap[k]? = w3.heap[k]? := fun k hkb => Below.heap_setCell _ _ _ _ hkb
      have hgg := gr.own
      have BV3 : ButV b (.slice va σ.names.length vc) w (w3.setCell ⟨b, 3, none⟩ (.slice (some ⟨gg, 0, none⟩) (σ.names.length + 1) cap3)) := by
        refine ⟨gr.os.trans BW.os, gr.tape.trans BW.tape, gr.output.trans BW.output, by have := gr.size; have := BW.size; simpa [World.setCell] using (by omega : w.heap.size ≤ w3.heap.size), fun k h1 h3 h4 => ?_⟩
        have := BW.size
        rw [bne k h3, gr.block k (by omega) h4, BW.block k h1 h3]
      have SE : Sees w (w3.setCell ⟨b, 3, none⟩ (.slice (some ⟨gg, 0, none⟩) (σ.names.length + 1) cap3)) b s T σ (.slice va σ.names.length vc) ⟨x0, x1, x2, x3, x4⟩ (.slice (some ⟨gg, 0, none⟩) (σ.names.length + 1) cap3) Z :=
        ⟨C3, BV3, row_of hold fun k e => bne k (fun e' => nv0 (by rw [← e']; exact e)), (a0.of_block (gr.block Z n0 (nvz 0))).of_block (bne Z (by omega)), (a2.of_block (gr.block _ n2 (nvz 2))).of_block (bne (Z + 2) (by omega)), fun k e => (hgg k e).imp id (fun h => by omega)⟩
      clear hrow hold gr C3 BV3 bne hgg y3' g3' z0'
      go_wp2_with fail
      go_meet
      case rel => exact ⟨_, _, SE⟩
  case rest =>
    obtain ⟨gg, cap3, SE⟩ := hcut
    clear hW BW a0 a1 a2 VW z0 z10 z11 z12 z13 z14 y3 g3 rS nb n0 n1 n2 nv0
    have hbz : b < Z := by omega
    have V3 := hv.butV SE.bv h2 (by omega) hvb
    have zq : wc.cell? ⟨Z, 0, none⟩ = some (PT b) := SE.a0.cell 0
    have c6 := SE.cr.c 6 _ rfl
    have f6 := SE.cr.cells.frozen 6
    have ob := SE.own
    have C4 : CR (wc.setCell ⟨b, 6, none⟩ (.int .i64 (σ.loops + 1))) b s T (K.seeing ⟨x0, x1, x2, x3, x4⟩ σ) (.slice (some ⟨gg, 0, none⟩) (σ.names.length + 1) cap3) := SE.cr.turn (SE.cr.cells.set 6 _) ((But.refl b wc).set 6 _) rfl SE.cr.lt
    have B4 : But b wc (wc.setCell ⟨b, 6, none⟩ (.int .i64 (σ.loops + 1))) := (But.refl b wc).set 6 _
    have V4 := V3.but B4 h2 SE.cr.cells.lt
    have a04 := SE.a0.of_block (B4.block _ SE.a0.lt (by omega))
    have a24 := SE.a2.of_block (B4.block _ SE.a2.lt (by omega))
    have old4 : (wc.setCell ⟨b, 6, none⟩ (.int .i64 (σ.loops + 1))).ownsRow 0 96 5 (.slice va σ.names.length vc) σ.names.length (σ.names.flatMap nmCells) := row_of SE.old fun k e => B4.block k (by have := hvl k e; have := SE.bv.size; omega) (fun e' => by have := hvl k e; have := (h.ne e).1; omega)
    have bv4 := SE.bv.trans (B4.toV _)
    have zq4 : (wc.setCell ⟨b, 6, none⟩ (.int .i64 (σ.loops + 1))).cell? ⟨Z, 0, none⟩ = some (PT b) := a04.cell 0
    have vb' : ∀ k, (Value.slice (some ⟨gg, 0, none⟩) (σ.names.length + 1) cap3).ownBlock = some k → 5 ≤ k := fun k e => (ob k e).elim (hvb k) (fun e' => by omega)
    go_wp2_with fail
    have hdd := hds _ _ C4 V4 vb'
    generalize wc.setCell ⟨b, 6, none⟩ (.int .i64 (σ.loops + 1)) = W4 at *
    refine hdd.mono ?_
    rintro x w5 ⟨u, us, rfl, dr, de, C5, B5⟩
    have nz : ∀ j, j ≤ 2 → (Value.slice (some ⟨gg, 0, none⟩) (σ.names.length + 1) cap3).ownBlock ≠ some (Z + j) := fun j hj e => by
      rcases ob _ e with e' | e'
      · exact nvz j e'
      · omega
    have a05 := a04.of_block (B5.block _ a04.lt (by omega) (nz 0 (by omega)))
    have a25 := a24.of_block (B5.block _ a24.lt (by omega) (nz 2 (by omega)))
    have u0 : w5.cell? ⟨Z, 0, none⟩ = some (PT b) := a05.cell 0
    have u2 : w5.cell? ⟨Z + 2, 0, none⟩ = some (.slice va σ.names.length vc) := a25.cell 0
    have u3 := C5.c 3 _ rfl
    have u6 : w5.cell? ⟨b, 6, none⟩ = some (.int .i64 (σ.loops + 1)) := by rw [← HKD.out.1]; exact C5.c 6 _ rfl
    have new4 : W4.ownsRow 0 96 5 (.slice (some ⟨gg, 0, none⟩) (σ.names.length + 1) cap3) (σ.names.length + 1) (σ.names.flatMap nmCells ++ nmCells ⟨x0, x1, x2, x3, x4⟩) := by simpa [K.seeing] using C4.names
    have new5 : w5.ownsRow 0 96 5 (.slice (some ⟨gg, 0, none⟩) (σ.names.length + 1) cap3) (σ.names.length + 1) (σ.names.flatMap nmCells ++ nmCells ⟨x0, x1, x2, x3, x4⟩) := by
      have := C5.names
      rw [HKD.out.2] at this
      simpa using this
    have s4 := bv4.size
    have old5 := row_head (by decide) old4 new4 new5 fun k e ne => B5.block k (by have := hvl k e; omega) (fun e' => (h.ne e).1 e') ne
    have c53 := C5.cells.frozen 3
    have c56 := C5.cells.frozen 6
    go_wp2_with fail
    refine leaves_cons (f := 222) (args := #[.pointer (some ⟨Z + 2, 0, none⟩), .pointer (some ⟨Z, 0, none⟩)]) (by simp) (by simp [go_sem]) ?_
    refine (unbody_d Z (Z + 2) b va σ.names.length vc _ (σ.loops + 1) .returning _ ⟨by omega, by omega⟩ u0 u2 u3 c53 u6 c56).mono ?_
    rintro e u' w6 ⟨rfl, rfl, rfl⟩
    refine ⟨_, results_tmp rfl _ _ _, u, rfl, ?_, ?_, ?_⟩
    · rw [HB2.out, HQ]
      have hkk : ∀ k, Z ≤ k → k < w5.heap.size → ((w5.setCell ⟨b, 3, none⟩ (.slice va σ.names.length vc)).setCell ⟨b, 6, none⟩ (.int .i64 (σ.loops + 1 - 1))).heap[k]? = w5.heap[k]? := fun k h1 _ => by
        rw [Below.heap_setCell _ _ _ _ (by show k ≠ b; omega), Below.heap_setCell _ _ _ _ (by show k ≠ b; omega)]
      have hle : Z ≤ W4.heap.size := by omega
      exact ⟨us, (dr.lower (From.le hle)).keep hkk, (de.lower (From.le hle)).keep hkk⟩
    · rw [HB1.out]
      have e2 : rcs s (tk T D.1.i) (K.unseen σ D.1) (.slice va σ.names.length vc) = ((rcs s (tk T D.1.i) D.1 (.slice (some ⟨gg, 0, none⟩) (σ.names.length + 1) cap3)).set 3 (.slice va σ.names.length vc)).set 6 (.int .i64 (σ.loops + 1 - 1)) := by rw [← HKD.out.1]; rfl
      refine ⟨?_, ?_, C5.lt⟩
      · show At _ b _ (rcs s (tk T D.1.i) (K.unseen σ D.1) (.slice va σ.names.length vc))
        rw [e2]
        exact (C5.cells.set 3 _).set 6 _
      · exact row_of old5 fun k e => by rw [Below.heap_setCell _ _ _ _ (fun e' => (h.ne e).1 e'), Below.heap_setCell _ _ _ _ (fun e' => (h.ne e).1 e')]
    · refine ⟨B5.os.trans bv4.os, B5.tape.trans bv4.tape, B5.output.trans bv4.output, by have := B5.size; simpa [World.setCell] using (by omega : w.heap.size ≤ w5.heap.size), fun k h1 h3 h4 => ?_⟩
      rw [Below.heap_setCell _ _ _ _ h3, Below.heap_setCell _ _ _ _ h3, B5.block k (by omega) h3 (fun e => by
        rcases ob _ e with e' | e'
        · exact h4 e'
        · omega), bv4.block k h1 h3 h4]
end Go.Proofs.YtejbgcloblpbfaaGreatDoor
namespace Go.Proofs.YtejbgcloblpbfaaGreatDoor
open Go.RowKit
open R (Tok tk)
open K (Nm S Scans Ex Do)
theorem K.here_i (T : List Tok) (e : Int) (σ : S) : (K.here T e σ).i = T.length - 1 := K.fail_i T _ _ _
theorem K.Fwd.last {T : List Tok} {σ σ' : S} (h : K.Fwd T σ σ') (hp : 0 < T.length) (e : σ.i = T.length - 1) : σ'.i = T.length - 1 := by
  have := h (by omega)
  omega
set_option maxHeartbeats 4000000 in
theorem loop_c {w : World} {b : Nat} {s : ByteArray} {T : List Tok} {σ : S} {v : Value} {f : Nat} (hS : Scans s T) (h2 : 5 ≤ b) (hD : DosK b s T f) (h : CR w b s T σ v) (hv : K.Vars w) (hvb : ∀ k, v.ownBlock = some k → 5 ≤ k) (hk : KB σ) (d1 : σ.depth ≤ 10) (df : 11 - σ.depth ≤ f) (l1 : σ.loops ≤ 2) (hfw : Few σ) (p : Int) :
    Calls Tryz.prog 176 #[PT b, .int .i64 p] w fun x w' => ∃ u, x = .returned u ∧ DoIs (From w.heap.size) w' (K.forX T (K.dos T f) p σ).2 u ∧ CR w' b s T (K.forX T (K.dos T f) p σ).1 v ∧ ButV b v w w' := by
  have hE := kexpr_c hS h2 hvb 11
  have hlt := h.cells.lt
  have hvl : ∀ k, v.ownBlock = some k → k < w.heap.size := fun k hk => (h.ne hk).2
  have hnn : σ.names.length ≤ 1000 := by have := hk.nm; omega
  have d0 := hk.d0
  have l0 := hk.l0
  have w0 := hfw.1
  have w1 := hfw.2
  have k0 := K.loop0_keeps T σ
  have k1 := k0.trans (K.step_keeps T (K.loop0 T σ))
  have k2 := k1.trans (K.newName_keeps T (K.step T (K.loop0 T σ)))
  have k3 := k2.trans (K.expr_keeps T 11 (K.newName T (K.step T (K.loop0 T σ))))
  have hfh := failHere_c hS h 6
  have hst := fun (w : World) (h' : CR w b s T (K.loop0 T σ) v) => kstep_c hS h'
  have hnm := fun (w : World) (h' : CR w b s T (K.step T (K.loop0 T σ)) v) => newName_c hS h' (by rw [k1.names]; exact hnn)
  have hex := fun (w : World) (h' : CR w b s T (K.newName T (K.step T (K.loop0 T σ))) v) (hv : K.Vars w) => hE w _ h' hv (by rw [k2.depth]; exact d0) (by rw [k2.depth]; exact d1) (by rw [k2.depth]; omega) (by rw [k2.names]; exact hnn)
  have hlive : Live T f (K.seeing (K.counter T σ) (K.expr T 11 (K.newName T (K.step T (K.loop0 T σ)))).1) := by
    by_cases e2 : σ.loops = 2
    · refine Or.inr ⟨?_, ?_, ?_⟩
      · show (K.expr T 11 (K.newName T (K.step T (K.loop0 T σ)))).1.i = T.length - 1
        have e0 : (K.loop0 T σ).i = T.length - 1 := by unfold K.loop0; rw [if_pos e2]; exact K.here_i T _ _
        exact (((K.step_fwd T (K.loop0 T σ)).trans (K.newName_fwd T _)).trans (K.expr_fwd T 11 _)).last hS.pos e0
      · show (K.expr T 11 (K.newName T (K.step T (K.loop0 T σ)))).1.depth ≤ 11
        rw [k3.depth]; omega
      · show (K.expr T 11 (K.newName T (K.step T (K.loop0 T σ)))).1.loops + 1 ≤ 3
        rw [k3.loops]; omega
    · refine Or.inl ⟨?_, ?_, ?_, (hfw.keeps k3 : Few (K.expr T 11 (K.newName T (K.step T (K.loop0 T σ)))).1)⟩
      · show (K.expr T 11 (K.newName T (K.step T (K.loop0 T σ)))).1.depth ≤ 10
        rw [k3.depth]; omega
      · show 11 - (K.expr T 11 (K.newName T (K.step T (K.loop0 T σ)))).1.depth ≤ f
        rw [k3.depth]; omega
      · show (K.expr T 11 (K.newName T (K.step T (K.loop0 T σ)))).1.loops + 1 ≤ 2
        rw [k3.loops]; omega
  have hbd := fun (w : World) (h' : CR w b s T (K.expr T 11 (K.newName T (K.step T (K.loop0 T σ)))).1 v) (hv : K.Vars w) => body_c h2 hD h' hv hvb (hk.keeps k3) (by rw [k3.loops]; omega) (K.counter T σ) hlive
  have HG : Hid (K.forX T (K.dos T f) p σ = ((K.body (K.dos T f) (K.counter T σ) (K.expr T 11 (K.newName T (K.step T (K.loop0 T σ)))).1).1, .fors p (K.counter T σ) (K.expr T 11 (K.newName T (K.step T (K.loop0 T σ)))).2 (K.body (K.dos T f) (K.counter T σ) (K.expr T 11 (K.newName T (K.step T (K.loop0 T σ)))).1).2)) := rfl
  have HC : Hid (K.counter T σ = ⟨(tk T (K.step T (K.loop0 T σ)).i).s, 2, false, 0, σ.words + σ.loops⟩) := rfl
  have H0 : Hid (K.loop0 T σ = if σ.loops = 2 then K.here T 6 σ else σ) := rfl
  have HW := hide (show (K.step T (K.loop0 T σ)).words = σ.words ∧ (K.newName T (K.step T (K.loop0 T σ))).words = σ.words ∧ (K.step T (K.loop0 T σ)).loops = σ.loops ∧ (K.newName T (K.step T (K.loop0 T σ))).loops = σ.loops from ⟨k1.words, k2.words, k1.loops, k2.loops⟩)
  clear k0 k1 k2 k3 hlive hE hD
  generalize K.forX T (K.dos T f) p σ = G at *
  generalize K.counter T σ = N at *
  generalize K.expr T 11 (K.newName T (K.step T (K.loop0 T σ))) = E at *
  generalize K.body (K.dos T f) N E.1 = BD at *
  generalize K.newName T (K.step T (K.loop0 T σ)) = σ2 at *
  generalize K.step T (K.loop0 T σ) = σ1 at *
  generalize K.loop0 T σ = σ0 at *
  generalize (tk T σ1.i).s = tx at *
  have eN := HC.out
  subst eN
  unfold nmV at hbd
  dsimp only at *
  have HG1 : Hid (G.1 = BD.1) := by show _ = _; rw [HG.out]
  have HV : Hid (∀ w' lv, DosIs w.heap.size BD.2 w' lv → DoIs (From w.heap.size) w' G.2 (Value.iface 186 (.agg #[.int .i64 p, .string tx, .int .i64 2, .bool false, .int .i64 0, .int .i64 (σ.words + σ.loops), exV E.2, lv]))) := fun w' lv ⟨ls, a1, a2⟩ => by
    rw [HG.out]; unfold DoIs; exact ⟨lv, ls, rfl, a1, a2⟩
  have f1 := exV_form E.2
  generalize exV E.2 = ev at *
  have c6 := h.c 6 _ rfl
  clear HG HC hk hfw
  go_enter Tryz.func176, Tryz.ntmps176
  go_upto_if 11 with fail
  go_cut [11] (fun _ wr => CR wr b s T σ0 v ∧ But b w wr)
  case first =>
    by_cases e2 : σ.loops = 2
    · have e := H0.out
      rw [if_pos e2] at e
      have HE := hide e
      have e2' := beq_yes e2
      clear e e2
      rw [e2']
      go_wp2_with fail
      refine hfh.mono ?_
      rintro x w1 ⟨rfl, hr1, hb1⟩
      go_wp2_with fail
      go_meet
      case rel => rw [HE.out]; exact ⟨hr1, hb1⟩
    · have e := H0.out
      rw [if_neg e2] at e
      have HE := hide e
      have e2' := beq_no e2
      clear e e2
      rw [e2']
      go_wp2_with fail
      go_meet
      case rel => rw [HE.out]; exact ⟨h, But.refl _ _⟩
  case rest =>
    obtain ⟨hr0, hb0⟩ := hcut
    clear hfh H0 c6
    go_wp2_with fail
    refine (hst _ hr0).mono ?_
    rintro x w2 ⟨rfl, hr2, hb2⟩
    have B2 := hb0.trans hb2
    have x4 : w2.cell? ⟨b, 4, none⟩ = some (.int .i64 σ.words) := by rw [← HW.out.1]; exact hr2.c 4 _ rfl
    have x6 : w2.cell? ⟨b, 6, none⟩ = some (.int .i64 σ.loops) := by rw [← HW.out.2.2.1]; exact hr2.c 6 _ rfl
    have hwr : IntKind.i64.wrap (σ.words + σ.loops) = σ.words + σ.loops := k64 _ (by omega)
    clear hst hr0 hb0
    go_upto_region 4 with fail
    go_cut [5] from 16 to 27 (fun q wr => ∃ Z, q = .pointer (some ⟨Z, 0, none⟩) ∧ w.heap.size ≤ Z ∧ At wr Z 96 [.string tx, .int .i64 2, .bool false, .int .i64 0, .int .i64 (σ.words + σ.loops)] ∧ CR wr b s T σ2 v ∧ But b w wr)
    case first =>
      have nb2 := hr2.cells.lt
      have hv2 : ∀ k, v.ownBlock = some k → k < w2.heap.size := fun k e => (hr2.ne e).2
      have s2 := B2.size
      have hn1 := hnm _ hr2.drew
      have hn2 := hnm _ (hr2.alloc (.cells #[.string ⟨#[]⟩, .int .i64 0, .bool false, .int .i64 0, .int .i64 0] 96 (0, 0))).drew
      go_region_with (go_at_call 137; first | (refine hn1.mono ?_; rintro x w4 ⟨rfl, hr4, hb4⟩; have nb4 := hr4.cells.lt; have x4' : w4.cell? ⟨b, 4, none⟩ = some (.int .i64 σ.words) := (by rw [← HW.out.2.1]; exact hr4.c 4 _ rfl); have x6' : w4.cell? ⟨b, 6, none⟩ = some (.int .i64 σ.loops) := (by rw [← HW.out.2.2.2]; exact hr4.c 6 _ rfl)) | (refine hn2.mono ?_; rintro x w4 ⟨rfl, hr4, hb4⟩; have nb4 := hr4.cells.lt; have x4' : w4.cell? ⟨b, 4, none⟩ = some (.int .i64 σ.words) := (by rw [← HW.out.2.1]; exact hr4.c 4 _ rfl); have x6' : w4.cell? ⟨b, 6, none⟩ = some (.int .i64 σ.loops) := (by rw [← HW.out.2.2.2]; exact hr4.c 6 _ rfl); have hb4' : But b (w2.alloc (.cells #[.string ⟨#[]⟩, .int .i64 0, .bool false, .int .i64 0, .int .i64 0] 96 (0, 0))) w4 := ((But.refl b _).drew).trans hb4; have RB := zero_box hb4' nb2; have r0 := RB.cell 0; have r1 := RB.cell 1; have r2 := RB.cell 2; have r3 := RB.cell 3; have r4 := RB.cell 4; simp only [List.getElem?_cons_zero, List.getElem?_cons_succ] at r0 r1 r2 r3 r4; have q0 := RB.frozen 0; have q1 := RB.frozen 1; have q2 := RB.frozen 2; have q3 := RB.frozen 3; have q4 := RB.frozen 4))
      all_goals
        first
        | (have RZ := (((((RB.set 0 (.string tx)).set 1 (.int .i64 2)).set 2 (.bool false)).set 3 (.int .i64 0)).set 4 (.int .i64 (σ.words + σ.loops)))
           have CZ := put5 hr4 hb4' nb2 hv2 (.string tx) (.int .i64 2) (.bool false) (.int .i64 0) (.int .i64 (σ.words + σ.loops))
           go_wp2_with fail
           go_meet
           case rel => exact ⟨w2.heap.size, rfl, s2, RZ, CZ.1, B2.trans CZ.2⟩)
        | (have aN := At.alloc_new w4 [.string tx, .int .i64 2, .bool false, .int .i64 0, .int .i64 (σ.words + σ.loops)] 96
           have s4' : w2.heap.size ≤ w4.heap.size := hb4.size
           go_wp2_with fail
           go_meet
           case rel => exact ⟨w4.heap.size, rfl, by omega, aN, hr4.alloc _, (B2.drew.trans hb4).alloc _⟩)
    case rest =>
      obtain ⟨Z, rfl, hZ, aZ, hr3, B3⟩ := hcut
      clear hnm hr2 hb2 x4 x6 hwr B2
      have V3 := hv.but B3 h2 hlt
      have nvz : ∀ k, v.ownBlock = some k → k ≠ Z := fun k e => by have := hvl k e; omega
      go_wp2_with fail
      refine (hex _ hr3 V3).mono ?_
      rintro x w5 ⟨rfl, hr5, hb5⟩
      have V5 := V3.butV hb5 h2 hr3.cells.lt hvb
      have aZ5 := aZ.of_block (hb5.block _ aZ.lt (by omega) (fun e => nvz _ e rfl))
      have j0 := aZ5.cell 0
      have j1 := aZ5.cell 1
      have j2 := aZ5.cell 2
      have j3 := aZ5.cell 3
      have j4 := aZ5.cell 4
      simp only [List.getElem?_cons_zero, List.getElem?_cons_succ] at j0 j1 j2 j3 j4
      have nZ := aZ5.lt
      have B5 := (B3.toV v).trans hb5
      have s5 := B5.size
      clear hex aZ hr3 V3
      rcases f1 with ⟨et, ex, rfl⟩ | rfl
      all_goals
        go_upto_region 6 with fail
        go_region_with (go_at_call 209; refine (hbd _ hr5.drew V5).mono ?_; rintro x w6 ⟨lv, rfl, ⟨ls, l1', l2'⟩, hr6, hb6⟩; have aZ6 := aZ5.of_block (hb6.block _ nZ (by omega) (fun e => nvz _ e rfl)); have k0 := aZ6.cell 0; have k1 := aZ6.cell 1; have k2 := aZ6.cell 2; have k3 := aZ6.cell 3; have k4 := aZ6.cell 4; simp only [List.getElem?_cons_zero, List.getElem?_cons_succ] at k0 k1 k2 k3 k4; obtain ⟨la, ln, lc, rfl⟩ := l1'.form)
        all_goals
          go_wp2_with fail
          go_ret
          rw [HG1.out]
          have s5' : w.heap.size ≤ w5.drew.heap.size := s5
          exact ⟨_, rfl, HV.out _ _ ⟨ls, l1'.lower (From.le s5'), l2'.lower (From.le s5')⟩, hr6, B5.trans (((But.refl b _).drew.toV v).trans hb6)⟩
end Go.Proofs.YtejbgcloblpbfaaGreatDoor
namespace Go.Proofs.YtejbgcloblpbfaaGreatDoor
open Go.RowKit
open R (Tok tk)
open K (Nm S Scans Ex Do)
def LiveD (T : List Tok) (f : Nat) (σ : S) : Prop := (σ.depth ≤ 10 ∧ 12 - σ.depth ≤ f ∧ σ.loops ≤ 2 ∧ Few σ) ∨ (σ.i = T.length - 1 ∧ σ.depth ≤ 11 ∧ σ.loops ≤ 3)
theorem LiveD.opened {T : List Tok} {f : Nat} {σ : S} (d1 : σ.depth ≤ 10) (df : 11 - σ.depth ≤ f) (l1 : σ.loops ≤ 2) (hw : Few σ) : LiveD T f (K.opened T σ) := by
  have e := K.opened_depth T σ
  have l : (K.opened T σ).loops = σ.loops := (K.op2_keeps T σ).loops
  by_cases h : σ.depth = 10
  · exact Or.inr ⟨K.opened_deep h, by omega, by omega⟩
  · exact Or.inl ⟨by omega, by omega, by omega, (hw.keeps (K.op2_keeps T σ) : Few (K.op2 T σ))⟩
def DoK (b : Nat) (s : ByteArray) (T : List Tok) (f : Nat) : Prop := ∀ (w : World) (σ : S) (v : Value) (p : Int), CR w b s T σ v → K.Vars w → (∀ k, v.ownBlock = some k → 5 ≤ k) → KB σ → LiveD T f σ →
  Calls Tryz.prog 139 #[PT b, .int .i64 p] w fun x w' => ∃ u, x = .returned u ∧ DoIs (From w.heap.size) w' (K.doF T f p σ).2 u ∧ CR w' b s T (K.doF T f p σ).1 v ∧ ButV b v w w'
set_option maxHeartbeats 1000000 in
theorem do_k {b : Nat} {s : ByteArray} {T : List Tok} {f : Nat} (hS : Scans s T) (h2 : 5 ≤ b) (hD : DosK b s T f) : DoK b s T (f + 1) := by
  intro w σ v p h hv hvb hk hl
  have hnn : σ.names.length ≤ 1000 := by have := hk.nm; rcases hl with hl | hl <;> omega
  have c1 := h.c 1 _ rfl
  show Calls _ _ _ _ fun x w' => ∃ u, x = .returned u ∧ DoIs (From w.heap.size) w' (K.doX T (K.dos T f) p σ).2 u ∧ CR w' b s T (K.doX T (K.dos T f) p σ).1 v ∧ ButV b v w w'
  have HC : Hid (K.doX T (K.dos T f) p σ = if K.isW [115, 101, 116] (tk T σ.i) = true then K.setX T p σ else if K.isW [112, 117, 116] (tk T σ.i) = true then K.putX T p σ else if K.isW [105, 102] (tk T σ.i) = true then K.ifX T (K.dos T f) p σ else if K.isW [102, 111, 114] (tk T σ.i) = true then K.forX T (K.dos T f) p σ else (K.here T 2 σ, .none)) := rfl
  have hdead : K.isW [115, 101, 116] (tk T σ.i) = true ∨ K.isW [112, 117, 116] (tk T σ.i) = true ∨ K.isW [105, 102] (tk T σ.i) = true ∨ K.isW [102, 111, 114] (tk T σ.i) = true → σ.depth ≤ 10 ∧ 12 - σ.depth ≤ ((f + 1 : Nat) : Int) ∧ σ.loops ≤ 2 ∧ Few σ := fun hh => by
    rcases hl with hl | hl
    · exact hl
    · rw [hl.1, hS.last] at hh
      unfold K.isW at hh
      dsimp only at hh
      rw [emptyL] at hh
      exact absurd hh (by decide)
  have d0 := hk.d0
  generalize HDX : K.doX T (K.dos T f) p σ = X at *
  cases e1 : K.isW [115, 101, 116] (tk T σ.i) with
  | true =>
    obtain ⟨a1, a2, a3, a4⟩ := hdead (Or.inl e1)
    have hg := set_c hS h hv h2 hvb hnn p d0 a1
    rw [e1, if_pos rfl] at HC
    rw [← HC.out] at hg
    have t1 : ((tk T σ.i).s.toList == [115, 101, 116]) = true := e1
    clear HC hdead hl HDX e1
    generalize tk T σ.i = t at *
    go_enter Tryz.func139, Tryz.ntmps139
    go_wp2_with fail
    refine hg.mono ?_
    rintro x w' ⟨u, rfl, hd, hr, hb⟩
    go_wp2_with fail
    go_ret
    exact ⟨u, rfl, hd, hr, hb⟩
  | false =>
  rw [e1, if_neg (by decide)] at HC
  have t1 : ((tk T σ.i).s.toList == [115, 101, 116]) = false := e1
  cases e2 : K.isW [112, 117, 116] (tk T σ.i) with
  | true =>
    obtain ⟨a1, a2, a3, a4⟩ := hdead (Or.inr (Or.inl e2))
    have hg := put_c hS h hv h2 hvb hnn p d0 a1
    rw [e2, if_pos rfl] at HC
    rw [← HC.out] at hg
    have t2 : ((tk T σ.i).s.toList == [112, 117, 116]) = true := e2
    clear HC hdead hl HDX e1 e2
    generalize tk T σ.i = t at *
    go_enter Tryz.func139, Tryz.ntmps139
    go_wp2_with fail
    refine hg.mono ?_
    rintro x w' ⟨u, rfl, hd, hr, hb⟩
    go_wp2_with fail
    go_ret
    exact ⟨u, rfl, hd, hr, hb⟩
  | false =>
  rw [e2, if_neg (by decide)] at HC
  have t2 : ((tk T σ.i).s.toList == [112, 117, 116]) = false := e2
  cases e3 : K.isW [105, 102] (tk T σ.i) with
  | true =>
    obtain ⟨a1, a2, a3, a4⟩ := hdead (Or.inr (Or.inr (Or.inl e3)))
    have hg := branch_c hS h2 hD h hv hvb hk a1 (by omega) a3 a4 p
    rw [e3, if_pos rfl] at HC
    rw [← HC.out] at hg
    have t3 : ((tk T σ.i).s.toList == [105, 102]) = true := e3
    clear HC hdead hl HDX e1 e2 e3
    generalize tk T σ.i = t at *
    go_enter Tryz.func139, Tryz.ntmps139
    go_wp2_with fail
    refine hg.mono ?_
    rintro x w' ⟨u, rfl, hd, hr, hb⟩
    go_wp2_with fail
    go_ret
    exact ⟨u, rfl, hd, hr, hb⟩
  | false =>
  rw [e3, if_neg (by decide)] at HC
  have t3 : ((tk T σ.i).s.toList == [105, 102]) = false := e3
  cases e4 : K.isW [102, 111, 114] (tk T σ.i) with
  | true =>
    obtain ⟨a1, a2, a3, a4⟩ := hdead (Or.inr (Or.inr (Or.inr e4)))
    have hg := loop_c hS h2 hD h hv hvb hk a1 (by omega) a3 a4 p
    rw [e4, if_pos rfl] at HC
    rw [← HC.out] at hg
    have t4 : ((tk T σ.i).s.toList == [102, 111, 114]) = true := e4
    clear HC hdead hl HDX e1 e2 e3 e4
    generalize tk T σ.i = t at *
    go_enter Tryz.func139, Tryz.ntmps139
    go_wp2_with fail
    refine hg.mono ?_
    rintro x w' ⟨u, rfl, hd, hr, hb⟩
    go_wp2_with fail
    go_ret
    exact ⟨u, rfl, hd, hr, hb⟩
  | false =>
    rw [e4, if_neg (by decide)] at HC
    have t4 : ((tk T σ.i).s.toList == [102, 111, 114]) = false := e4
    have hg := failHere_c hS h 2
    have HX1 : Hid (X.1 = K.here T 2 σ) := by show _ = _; rw [HC.out]
    have HX2 : Hid (X.2 = .none) := by show _ = _; rw [HC.out]
    clear HC hdead hl HDX e1 e2 e3 e4
    generalize K.here T 2 σ = σ1 at *
    generalize tk T σ.i = t at *
    go_enter Tryz.func139, Tryz.ntmps139
    go_wp2_with fail
    refine hg.mono ?_
    rintro x w' ⟨rfl, hr, hb⟩
    go_wp2_with fail
    go_ret
    rw [HX1.out, HX2.out]
    exact ⟨_, rfl, by unfold DoIs; rfl, hr, hb.toV v⟩
theorem CR.grew {w w' : World} {b : Nat} {s : ByteArray} {T : List Tok} {σ : S} {v lv lv' : Value} (h : CR w b s T σ v) (g : Grew w w' lv lv') (hb : lv.ownBlock ≠ some b) (hn : ∀ k, v.ownBlock = some k → lv.ownBlock ≠ some k) : CR w' b s T σ v :=
  ⟨h.cells.of_block (g.block b h.cells.lt hb), row_of h.names fun k e => g.block k (h.ne e).2 (hn k e), h.lt⟩
theorem brkDo_k {w : World} {b : Nat} {s : ByteArray} {T : List Tok} {σ : S} {v : Value} {f : Nat} (hS : Scans s T) (h2 : 5 ≤ b) (hO : DoK b s T f) (h : CR w b s T σ v) (hv : K.Vars w) (hvb : ∀ k, v.ownBlock = some k → 5 ≤ k) (hk : KB σ) (d1 : σ.depth ≤ 10) (df : 11 - σ.depth ≤ f) (l1 : σ.loops ≤ 2) (hw : Few σ) :
    Calls Tryz.prog 138 #[PT b, .func (.func 139) #[PT b] #[]] w fun x w' => ∃ u, x = .returned u ∧ DoIs (From w.heap.size) w' (K.brkDo T (K.doF T f) σ).2 u ∧ CR w' b s T (K.brkDo T (K.doF T f) σ).1 v ∧ ButV b v w w' := by
  have hlt := h.cells.lt
  have hvl : ∀ k, v.ownBlock = some k → k < w.heap.size := fun k hk => (h.ne hk).2
  exact inBr_do hS h hk.d0 (by omega) (σ4 := (K.doF T f (tk T σ.i).p (K.opened T σ)).1) (by rw [(K.doF_keeps T f _ _).depth, K.opened_depth]) (fun w' u => DoIs (From w.heap.size) w' (K.doF T f (tk T σ.i).p (K.opened T σ)).2 u)
    (fun w1 h1 hb1 => (hO w1 _ v _ h1 (hv.but hb1 h2 hlt) hvb hk.opened (LiveD.opened d1 df l1 hw)).mono (by
      rintro x w' ⟨u, rfl, r1, h3, h4⟩
      exact ⟨u, rfl, r1.lower (From.le hb1.size), h3, h4⟩))
    (fun w1 w2 rv _ hb r1 => r1.keep (hb.keeps hlt hvl))
end Go.Proofs.YtejbgcloblpbfaaGreatDoor
