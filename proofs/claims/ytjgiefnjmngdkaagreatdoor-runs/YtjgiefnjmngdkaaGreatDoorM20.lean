import Derived.Test.YtjgiefnjmngdkaaGreatDoorM16
namespace Go.Proofs.YtjgiefnjmngdkaaGreatDoor
open Go.RowKit
open R (Tok tk)
open K (Nm S Scans)

theorem less_name (q b : Nat) (d : Int) (u : FrameMode) (w : World) (hd : 0 ≤ d ∧ d ≤ 100) (cq : w.cell? ⟨q, 0, none⟩ = some (PT b)) (c5 : w.cell? ⟨b, 5, none⟩ = some (.int .i64 d)) (f5 : w.frozen? ⟨b, 5, none⟩ = false) :
    CallsD Tryz.prog 134 #[.pointer (some ⟨q, 0, none⟩)] u w fun e u' w' => u' = u ∧ (e = .returned (.tuple #[]) ∧ w' = w.setCell ⟨b, 5, none⟩ (.int .i64 (d + -1))) := by
  obtain ⟨d0, d1⟩ := hd
  have e : d - 1 = d + -1 := by omega
  have HE := hide e
  clear e
  go_enter_d Tryz.func134, Tryz.ntmps134
  go_wp2
  go_end0
  exact ⟨rfl, by rw [← HE.out]⟩

set_option maxHeartbeats 1000000 in
theorem inBr_name {w : World} {b : Nat} {s : ByteArray} {T : List Tok} {σ σ4 : S} {v : Value} (hS : Scans s T) (h : CR w b s T σ v) (d0 : 0 ≤ σ.depth) (d1 : σ.depth ≤ 50) (hd4 : σ4.depth = σ.depth + 1) (N : Nm)
    (hI : ∀ w1, CR w1 b s T (K.opened T σ) v → But b w w1 → Calls Tryz.prog 105 #[PT b, .int .i64 (tk T σ.i).p] w1 fun x w' => x = .returned (nmV N) ∧ CR w' b s T σ4 v ∧ But b w1 w') :
    Calls Tryz.prog 104 #[PT b, .func (.func 105) #[PT b] #[]] w fun x w' => x = .returned (nmV N) ∧ CR w' b s T (K.closed T σ4) v ∧ But b w w' := by
  have hmf : ∀ (fn : Fn) (first cap : Array Value) (w : World), (Instr.makeFunc fn first cap).run Tryz.prog w = .ok (.func fn first cap) w := fun _ _ _ _ => rfl
  have h0 := (h.alloc (.cells #[PT b] 134 (0, 0))).alloc (.cells #[.string ⟨#[]⟩, .int .i64 0, .bool false, .int .i64 0, .int .i64 0] 96 (0, 0))
  have hlt := h.cells.lt
  have hvl : ∀ k, v.ownBlock = some k → k < w.heap.size := fun k hk => (h.ne hk).2
  have nq : w.heap.size ≠ b := by omega
  have q0 := (At.alloc_new w [PT b] 134).alloc (.cells #[.string ⟨#[]⟩, .int .i64 0, .bool false, .int .i64 0, .int .i64 0] 96 (0, 0))
  have e0 : At ((w.alloc (.cells #[PT b] 134 (0, 0))).alloc (.cells #[.string ⟨#[]⟩, .int .i64 0, .bool false, .int .i64 0, .int .i64 0] 96 (0, 0))) (w.heap.size + 1) 96 [.string ⟨#[]⟩, .int .i64 0, .bool false, .int .i64 0, .int .i64 0] := by
    have e : (w.alloc (.cells #[PT b] 134 (0, 0))).heap.size = w.heap.size + 1 := by simp
    have := At.alloc_new (w.alloc (.cells #[PT b] 134 (0, 0))) [.string ⟨#[]⟩, .int .i64 0, .bool false, .int .i64 0, .int .i64 0] 96
    rw [e] at this
    exact this
  have nr : w.heap.size + 1 ≠ b := by omega
  have BB : But b w ((w.alloc (.cells #[PT b] 134 (0, 0))).alloc (.cells #[.string ⟨#[]⟩, .int .i64 0, .bool false, .int .i64 0, .int .i64 0] 96 (0, 0))) := ((But.refl b w).alloc _).alloc _
  obtain ⟨x0, x1, x2, x3, x4⟩ := N
  unfold nmV at hI
  dsimp only at hI
  have c2 := h.c 2 _ rfl
  have hex := expect_c hS h0 ⟨#[40]⟩
  rw [list40] at hex
  have E1 : K.expect T [40] σ = K.op1 T σ := rfl
  rw [E1] at hex
  have hfl := fun (w' : World) (h' : CR w' b s T (K.op1 T σ) v) => kfail_c hS h' 6 (tk T σ.i).p
  have hcl := fun (w' : World) (h' : CR w' b s T σ4 v) => expect_c hS h' ⟨#[41]⟩
  rw [list41] at hcl
  have E2 : K.expect T [41] σ4 = K.cl1 T σ4 := rfl
  rw [E2] at hcl
  have HO : Hid (K.op2 T σ = if (K.op1 T σ).depth = 10 then K.fail T 6 (tk T σ.i).p (K.op1 T σ) else K.op1 T σ) := rfl
  have HOP : Hid (K.opened T σ = K.deeper 1 (K.op2 T σ)) := rfl
  have HCL : Hid (K.closed T σ4 = K.deeper (-1) (K.cl1 T σ4)) := rfl
  have kd1 : Hid ((K.op1 T σ).depth = σ.depth) := (K.op1_keeps T σ).depth
  have kd2 : Hid ((K.op2 T σ).depth = σ.depth) := (K.op2_keeps T σ).depth
  have kd4 : Hid ((K.cl1 T σ4).depth = σ.depth + 1) := (K.cl1_keeps T σ4).depth.trans hd4
  generalize K.opened T σ = σ3 at *
  generalize K.closed T σ4 = σ6 at *
  generalize K.op2 T σ = σ2 at *
  generalize K.op1 T σ = σ1 at *
  generalize K.cl1 T σ4 = σ5 at *
  generalize (tk T σ.i).p = tp at *
  clear E1 E2 hd4
  go_enter_defers Tryz.func104, Tryz.ntmps104
  go_wp2_with fail
  refine hex.mono ?_
  rintro x w1 ⟨rfl, hr1, hb1⟩
  have qa := q0.of_block (hb1.block _ q0.lt nq)
  have qc := qa.cell 0
  have c5 := hr1.c 5 _ rfl
  simp only [List.getElem?_cons_zero] at qc
  clear hex
  go_upto_if 18 with fail
  go_cut [18] from 19 to 21 (fun _ wr => CR wr b s T σ2 v ∧ But b ((w.alloc (.cells #[PT b] 134 (0, 0))).alloc (.cells #[.string ⟨#[]⟩, .int .i64 0, .bool false, .int .i64 0, .int .i64 0] 96 (0, 0))) wr)
  case first =>
    by_cases h10 : σ1.depth = 10
    · have e := HO.out
      rw [if_pos h10] at e
      have HE := hide e
      have h10' := beq_yes h10
      clear e h10
      rw [h10']
      go_wp2_with fail
      refine (hfl _ hr1).mono ?_
      rintro x w2 ⟨rfl, hr2, hb2⟩
      go_wp2_with fail
      go_meet
      case rel => rw [HE.out]; exact ⟨hr2, hb1.trans hb2⟩
    · have e := HO.out
      rw [if_neg h10] at e
      have HE := hide e
      have h10' := beq_no h10
      clear e h10
      rw [h10']
      go_wp2_with fail
      go_meet
      case rel => rw [HE.out]; exact ⟨hr1, hb1⟩
  case rest =>
    obtain ⟨hr2, hb2⟩ := hcut
    clear hr1 hb1 qa qc c5 hfl HO
    have qa := q0.of_block (hb2.block _ q0.lt nq)
    have qc := qa.cell 0
    simp only [List.getElem?_cons_zero] at qc
    have c5 : wc.cell? ⟨b, 5, none⟩ = some (.int .i64 σ.depth) := by rw [← kd2.out]; exact hr2.c 5 _ rfl
    have f5 := hr2.cells.frozen 5
    have D := hr2.depth 1
    rw [kd2.out, ← HOP.out] at D
    go_wp2_with fail
    generalize wc.setCell ⟨b, 5, none⟩ (.int .i64 (σ.depth + 1)) = w3 at *
    have B3 := hb2.trans D.2
    have qa3 := q0.of_block (B3.block _ q0.lt nq)
    refine (hI _ D.1 (BB.trans B3)).mono ?_
    rintro x w4 ⟨rfl, hr4, hb4⟩
    have B4 := B3.trans hb4
    have qa4 := q0.of_block (B4.block _ q0.lt nq)
    have qc4 := qa4.cell 0
    have lq4 := qa4.lt
    simp only [List.getElem?_cons_zero] at qc4
    have hr4a := hr4.alloc (.cells #[.string x0, .int .i64 x1, .bool x2, .int .i64 x3, .int .i64 x4] 96 (0, 0))
    have B4a := B4.alloc (.cells #[.string x0, .int .i64 x1, .bool x2, .int .i64 x3, .int .i64 x4] 96 (0, 0))
    have m4 := At.alloc_new w4 [.string x0, .int .i64 x1, .bool x2, .int .i64 x3, .int .i64 x4] 96
    have n4 := hr4.cells.lt
    clear hI D qc c5 f5 qa hr2 hb2
    go_wp2_with fail
    refine (hcl _ hr4a).mono ?_
    rintro x w5 ⟨rfl, hr5, hb5⟩
    have B5 := B4a.trans hb5
    have qa5 := q0.of_block (B5.block _ q0.lt nq)
    have qc5 := qa5.cell 0
    simp only [List.getElem?_cons_zero] at qc5
    have m5 := m4.of_block (hb5.block _ m4.lt (by omega))
    have j0 := m5.cell 0
    have j1 := m5.cell 1
    have j2 := m5.cell 2
    have j3 := m5.cell 3
    have j4 := m5.cell 4
    simp only [List.getElem?_cons_zero, List.getElem?_cons_succ] at j0 j1 j2 j3 j4
    have RB := e0.of_block (B5.block _ e0.lt nr)
    have r0 := RB.cell 0
    have r1 := RB.cell 1
    have r2 := RB.cell 2
    have r3 := RB.cell 3
    have r4 := RB.cell 4
    simp only [List.getElem?_cons_zero, List.getElem?_cons_succ] at r0 r1 r2 r3 r4
    have y0 := RB.frozen 0
    have y1 := RB.frozen 1
    have y2 := RB.frozen 2
    have y3 := RB.frozen 3
    have y4 := RB.frozen 4
    have RZ := ((((RB.set 0 (.string x0)).set 1 (.int .i64 x1)).set 2 (.bool x2)).set 3 (.int .i64 x3)).set 4 (.int .i64 x4)
    have sz1 : (w.alloc (.cells #[PT b] 134 (0, 0))).heap.size = w.heap.size + 1 := by simp
    have CZ := put5 (w := w.alloc (.cells #[PT b] 134 (0, 0))) hr5 B5 (by omega) (fun k e => by have := hvl k e; omega) (.string x0) (.int .i64 x1) (.bool x2) (.int .i64 x3) (.int .i64 x4)
    rw [sz1] at CZ
    go_wp2_with fail
    generalize ((((w5.setCell ⟨w.heap.size + 1, 0, none⟩ (.string x0)).setCell ⟨w.heap.size + 1, 1, none⟩ (.int .i64 x1)).setCell ⟨w.heap.size + 1, 2, none⟩ (.bool x2)).setCell ⟨w.heap.size + 1, 3, none⟩ (.int .i64 x3)).setCell ⟨w.heap.size + 1, 4, none⟩ (.int .i64 x4) = W6 at *
    have qa6 := (At.alloc_new w [PT b] 134).of_block (CZ.2.block w.heap.size (by omega) nq)
    have qc6 := qa6.cell 0
    simp only [List.getElem?_cons_zero] at qc6
    have x5 : W6.cell? ⟨b, 5, none⟩ = some (.int .i64 (σ.depth + 1)) := by rw [← kd4.out]; exact CZ.1.c 5 _ rfl
    have y5 := CZ.1.cells.frozen 5
    have D5 := CZ.1.depth (-1)
    rw [kd4.out, ← HCL.out] at D5
    have RF := RZ.set_other (a := ⟨b, 5, none⟩) nr (.int .i64 (σ.depth + 1 + -1))
    refine leaves_cons (f := 134) (args := #[.pointer (some ⟨w.heap.size, 0, none⟩)]) (by simp) (by simp [go_sem]) ?_
    refine (less_name w.heap.size b (σ.depth + 1) .returning _ ⟨by omega, by omega⟩ qc6 x5 y5).mono ?_
    rintro e u' w6 ⟨rfl, rfl, rfl⟩
    generalize W6.setCell ⟨b, 5, none⟩ (.int .i64 (σ.depth + 1 + -1)) = W7 at *
    have z0 : W7.cell? ⟨w.heap.size + 1, 0, none⟩ = some (.string x0) := RF.cell 0
    have z1 : W7.cell? ⟨w.heap.size + 1, 1, none⟩ = some (.int .i64 x1) := RF.cell 1
    have z2 : W7.cell? ⟨w.heap.size + 1, 2, none⟩ = some (.bool x2) := RF.cell 2
    have z3 : W7.cell? ⟨w.heap.size + 1, 3, none⟩ = some (.int .i64 x3) := RF.cell 3
    have z4 : W7.cell? ⟨w.heap.size + 1, 4, none⟩ = some (.int .i64 x4) := RF.cell 4
    refine ⟨nmV ⟨x0, x1, x2, x3, x4⟩, by simp [results, Tryz.results104, go_sem, nmV, z0, z1, z2, z3, z4], rfl, D5.1, (((But.refl b w).alloc _).trans CZ.2).trans D5.2⟩

end Go.Proofs.YtjgiefnjmngdkaaGreatDoor
