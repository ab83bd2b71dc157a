import Derived.Test.YtejbgcloblpbfaaGreatDoorB07
namespace Go.Proofs.YtejbgcloblpbfaaGreatDoor
open Go.RowKit
open R (Tok tk)
open K (Nm S Scans)
def K.canSet (n : Nm) : Bool := n.kind == 0
def K.hasWords (n : Nm) : Bool := n.kind == 1
def K.canRead (n : Nm) : Bool := n.kind == 0 || n.kind == 2
def K.known (T : List Tok) (fits : Nm → Bool) (σ : S) : S := if ((K.findN (tk T σ.i).s.toList σ.names).2 && fits (K.findN (tk T σ.i).s.toList σ.names).1) = true then K.take T R.isName σ else K.fail T 3 (tk T σ.i).p (K.take T R.isName σ)
def K.knownN (T : List Tok) (σ : S) : Nm := (K.findN (tk T σ.i).s.toList σ.names).1
theorem canSet_c (x0 : ByteArray) (x1 : Int) (x2 : Bool) (x3 x4 : Int) (w : World) : Calls Tryz.prog 204 #[.agg #[.string x0, .int .i64 x1, .bool x2, .int .i64 x3, .int .i64 x4]] w fun x w' => x = .returned (.bool (K.canSet ⟨x0, x1, x2, x3, x4⟩)) ∧ Below w.heap.size w w' := by
  go_enter Tryz.func204, Tryz.ntmps204
  go_wp2
  go_ret
  exact ⟨rfl, (Below.refl _ _).alloc (Nat.le_refl _) _⟩
theorem hasWords_c (x0 : ByteArray) (x1 : Int) (x2 : Bool) (x3 x4 : Int) (w : World) : Calls Tryz.prog 206 #[.agg #[.string x0, .int .i64 x1, .bool x2, .int .i64 x3, .int .i64 x4]] w fun x w' => x = .returned (.bool (K.hasWords ⟨x0, x1, x2, x3, x4⟩)) ∧ Below w.heap.size w w' := by
  go_enter Tryz.func206, Tryz.ntmps206
  go_wp2
  go_ret
  exact ⟨rfl, (Below.refl _ _).alloc (Nat.le_refl _) _⟩
theorem canRead_c (x0 : ByteArray) (x1 : Int) (x2 : Bool) (x3 x4 : Int) (w : World) : Calls Tryz.prog 220 #[.agg #[.string x0, .int .i64 x1, .bool x2, .int .i64 x3, .int .i64 x4]] w fun x w' => x = .returned (.bool (K.canRead ⟨x0, x1, x2, x3, x4⟩)) ∧ Below w.heap.size w w' := by
  have HK : Hid (K.canRead ⟨x0, x1, x2, x3, x4⟩ = (x1 == 0 || x1 == 2)) := rfl
  cases e1 : (x1 == 0) with
  | true =>
    rw [e1] at HK
    rw [HK.out]
    go_enter Tryz.func220, Tryz.ntmps220
    go_wp2
    go_ret
    exact ⟨rfl, (Below.refl _ _).alloc (Nat.le_refl _) _⟩
  | false =>
    rw [e1] at HK
    rw [HK.out]
    go_enter Tryz.func220, Tryz.ntmps220
    go_wp2
    go_ret
    exact ⟨rfl, (Below.refl _ _).alloc (Nat.le_refl _) _⟩
theorem zero_box {w w1 : World} {b : Nat} (hb : But b (w.alloc (.cells #[.string ⟨#[]⟩, .int .i64 0, .bool false, .int .i64 0, .int .i64 0] 96 (0, 0))) w1) (hlt : b < w.heap.size) : At w1 w.heap.size 96 [.string ⟨#[]⟩, .int .i64 0, .bool false, .int .i64 0, .int .i64 0] :=
  (At.alloc_new w [.string ⟨#[]⟩, .int .i64 0, .bool false, .int .i64 0, .int .i64 0] 96).of_block (hb.block _ (by simp) (by omega))
theorem put5 {w w1 : World} {b : Nat} {s : ByteArray} {T : List Tok} {σ : S} {v : Value} {o : Obj} (h : CR w1 b s T σ v) (hb : But b (w.alloc o) w1) (hlt : b < w.heap.size) (hv : ∀ k, v.ownBlock = some k → k < w.heap.size) (a0 a1 a2 a3 a4 : Value) :
    CR (((((w1.setCell ⟨w.heap.size, 0, none⟩ a0).setCell ⟨w.heap.size, 1, none⟩ a1).setCell ⟨w.heap.size, 2, none⟩ a2).setCell ⟨w.heap.size, 3, none⟩ a3).setCell ⟨w.heap.size, 4, none⟩ a4) b s T σ v ∧
    But b w (((((w1.setCell ⟨w.heap.size, 0, none⟩ a0).setCell ⟨w.heap.size, 1, none⟩ a1).setCell ⟨w.heap.size, 2, none⟩ a2).setCell ⟨w.heap.size, 3, none⟩ a3).setCell ⟨w.heap.size, 4, none⟩ a4) := by
  have hs : ∀ k, k ≠ w.heap.size → (((((w1.setCell ⟨w.heap.size, 0, none⟩ a0).setCell ⟨w.heap.size, 1, none⟩ a1).setCell ⟨w.heap.size, 2, none⟩ a2).setCell ⟨w.heap.size, 3, none⟩ a3).setCell ⟨w.heap.size, 4, none⟩ a4).heap[k]? = w1.heap[k]? := fun k hk => by
    rw [Below.heap_setCell _ _ _ _ hk, Below.heap_setCell _ _ _ _ hk, Below.heap_setCell _ _ _ _ hk, Below.heap_setCell _ _ _ _ hk, Below.heap_setCell _ _ _ _ hk]
  have B := ((But.refl b w).alloc o).trans hb
  refine ⟨⟨h.cells.of_block (hs b (by omega)), row_of h.names fun k hk => hs k (by have := hv k hk; omega), h.lt⟩, ((((B.set_new (Nat.le_refl _) _).set_new (Nat.le_refl _) _).set_new (Nat.le_refl _) _).set_new (Nat.le_refl _) _).set_new (Nat.le_refl _) _⟩
set_option maxHeartbeats 1000000 in
theorem known_set {w : World} {b : Nat} {s : ByteArray} {T : List Tok} {σ : S} {v : Value} (hS : Scans s T) (h : CR w b s T σ v) (hn : σ.names.length ≤ 1000) :
    Calls Tryz.prog 203 #[PT b, .func (.func 204) #[] #[]] w fun x w' => x = .returned (nmV (K.knownN T σ)) ∧ CR w' b s T (K.known T K.canSet σ) v ∧ But b w w' := by
  have h0 := h.alloc (.cells #[.string ⟨#[]⟩, .int .i64 0, .bool false, .int .i64 0, .int .i64 0] 96 (0, 0))
  have hlt := h.cells.lt
  have c2 := h.c 2 _ rfl
  have hz := hS.tsize h.lt
  have ht := ktake_isName hS h0 R.isName (kisName_c _ _ (by omega))
  have kn := (K.take_keeps T R.isName σ).names
  have HK : Hid (K.known T K.canSet σ = if ((K.findN (tk T σ.i).s.toList σ.names).2 && K.canSet (K.findN (tk T σ.i).s.toList σ.names).1) = true then K.take T R.isName σ else K.fail T 3 (tk T σ.i).p (K.take T R.isName σ)) := rfl
  have HN : Hid (K.knownN T σ = (K.findN (tk T σ.i).s.toList σ.names).1) := rfl
  have hfi := fun (w' : World) (h' : CR w' b s T (K.take T R.isName σ) v) => kfind_c h' (by rw [kn]; exact hn) (tk T σ.i).s
  rw [kn] at hfi
  have hfl := fun (w' : World) (h' : CR w' b s T (K.take T R.isName σ) v) => kfail_c hS h' 3 (tk T σ.i).p
  rw [HN.out]
  generalize K.known T K.canSet σ = σ2 at *
  generalize K.take T R.isName σ = σ1 at *
  generalize tk T σ.i = t at *
  obtain ⟨ts, tp⟩ := t
  dsimp only at *
  clear HN
  generalize K.findN ts.toList σ.names = F at *
  obtain ⟨⟨x0, x1, x2, x3, x4⟩, q⟩ := F
  unfold nmV at hfi
  dsimp only at *
  have hft := fun w => canSet_c x0 x1 x2 x3 x4 w
  have hvl : ∀ k, v.ownBlock = some k → k < w.heap.size := fun k hk => (h.ne hk).2
  cases q with
  | true =>
    cases e1 : K.canSet ⟨x0, x1, x2, x3, x4⟩ with
    | true =>
      rw [e1] at HK hft
      have e := HK.out
      rw [if_pos (by decide)] at e
      subst e
      clear HK kn hfl
      go_enter Tryz.func203, Tryz.ntmps203
      go_wp2_with fail
      refine ht.mono ?_
      rintro x w1 ⟨rfl, hr1, hb1⟩
      go_wp2_with fail
      refine (hfi _ hr1).mono ?_
      rintro x w2 ⟨rfl, hb2⟩
      have hr2 := hr1.below hb2
      have hB2 := hb1.below hb2
      have hr3 := hr2.alloc (.cells #[.string x0, .int .i64 x1, .bool x2, .int .i64 x3, .int .i64 x4] 96 (0, 0))
      have nb := At.alloc_new w2 [.string x0, .int .i64 x1, .bool x2, .int .i64 x3, .int .i64 x4] 96
      go_wp2_with fail
      refine (hft _).mono ?_
      rintro x w3 ⟨rfl, hb3⟩
      have nb3 := nb.of_block (hb3.block _ nb.lt)
      have k0 := nb3.cell 0
      have k1 := nb3.cell 1
      have k2 := nb3.cell 2
      have k3 := nb3.cell 3
      have k4 := nb3.cell 4
      have RB := zero_box ((hB2.alloc _).below hb3) hlt
      simp only [List.getElem?_cons_zero, List.getElem?_cons_succ] at k0 k1 k2 k3 k4
      have r0 := RB.cell 0
      have r1 := RB.cell 1
      have r2 := RB.cell 2
      have r3 := RB.cell 3
      have r4 := RB.cell 4
      simp only [List.getElem?_cons_zero, List.getElem?_cons_succ] at r0 r1 r2 r3 r4
      have q0 := RB.frozen 0
      have q1 := RB.frozen 1
      have q2 := RB.frozen 2
      have q3 := RB.frozen 3
      have q4 := RB.frozen 4
      have RZ := ((((RB.set 0 (.string x0)).set 1 (.int .i64 x1)).set 2 (.bool x2)).set 3 (.int .i64 x3)).set 4 (.int .i64 x4)
      have CZ := put5 (hr3.below hb3) ((hB2.alloc _).below hb3) hlt hvl (.string x0) (.int .i64 x1) (.bool x2) (.int .i64 x3) (.int .i64 x4)
      go_wp2_with fail
      generalize (((((w3.setCell ⟨w.heap.size, 0, none⟩ (.string x0)).setCell ⟨w.heap.size, 1, none⟩ (.int .i64 x1)).setCell ⟨w.heap.size, 2, none⟩ (.bool x2)).setCell ⟨w.heap.size, 3, none⟩ (.int .i64 x3)).setCell ⟨w.heap.size, 4, none⟩ (.int .i64 x4)) = WZ at *
      have z0 : WZ.cell? ⟨w.heap.size, 0, none⟩ = some (.string x0) := RZ.cell 0
      have z1 : WZ.cell? ⟨w.heap.size, 1, none⟩ = some (.int .i64 x1) := RZ.cell 1
      have z2 : WZ.cell? ⟨w.heap.size, 2, none⟩ = some (.bool x2) := RZ.cell 2
      have z3 : WZ.cell? ⟨w.heap.size, 3, none⟩ = some (.int .i64 x3) := RZ.cell 3
      have z4 : WZ.cell? ⟨w.heap.size, 4, none⟩ = some (.int .i64 x4) := RZ.cell 4
      exact bodyPost_ret (v := nmV ⟨x0, x1, x2, x3, x4⟩) (by simp [results, Tryz.results203, go_sem, nmV, z0, z1, z2, z3, z4]) rfl ⟨rfl, CZ.1, CZ.2⟩
    | false =>
      rw [e1] at HK hft
      have e := HK.out
      rw [if_neg (by decide)] at e
      subst e
      clear HK kn
      go_enter Tryz.func203, Tryz.ntmps203
      go_wp2_with fail
      refine ht.mono ?_
      rintro x w1 ⟨rfl, hr1, hb1⟩
      go_wp2_with fail
      refine (hfi _ hr1).mono ?_
      rintro x w2 ⟨rfl, hb2⟩
      have hr2 := hr1.below hb2
      have hB2 := hb1.below hb2
      have hr3 := hr2.alloc (.cells #[.string x0, .int .i64 x1, .bool x2, .int .i64 x3, .int .i64 x4] 96 (0, 0))
      have nb := At.alloc_new w2 [.string x0, .int .i64 x1, .bool x2, .int .i64 x3, .int .i64 x4] 96
      go_wp2_with fail
      refine (hft _).mono ?_
      rintro x w3 ⟨rfl, hb3⟩
      go_wp2_with fail
      refine (hfl _ (hr3.below hb3)).mono ?_
      rintro x w4 ⟨rfl, hr4, hb4⟩
      have nb3 := (nb.of_block (hb3.block _ nb.lt)).of_block (hb4.block _ (by have := hb3.size; have := nb.lt; omega) (by have := hr2.cells.lt; omega))
      have k0 := nb3.cell 0
      have k1 := nb3.cell 1
      have k2 := nb3.cell 2
      have k3 := nb3.cell 3
      have k4 := nb3.cell 4
      have RB := zero_box (((hB2.alloc _).below hb3).trans hb4) hlt
      simp only [List.getElem?_cons_zero, List.getElem?_cons_succ] at k0 k1 k2 k3 k4
      have r0 := RB.cell 0
      have r1 := RB.cell 1
      have r2 := RB.cell 2
      have r3 := RB.cell 3
      have r4 := RB.cell 4
      simp only [List.getElem?_cons_zero, List.getElem?_cons_succ] at r0 r1 r2 r3 r4
      have q0 := RB.frozen 0
      have q1 := RB.frozen 1
      have q2 := RB.frozen 2
      have q3 := RB.frozen 3
      have q4 := RB.frozen 4
      have RZ := ((((RB.set 0 (.string x0)).set 1 (.int .i64 x1)).set 2 (.bool x2)).set 3 (.int .i64 x3)).set 4 (.int .i64 x4)
      have CZ := put5 hr4 (((hB2.alloc _).below hb3).trans hb4) hlt hvl (.string x0) (.int .i64 x1) (.bool x2) (.int .i64 x3) (.int .i64 x4)
      go_wp2_with fail
      generalize (((((w4.setCell ⟨w.heap.size, 0, none⟩ (.string x0)).setCell ⟨w.heap.size, 1, none⟩ (.int .i64 x1)).setCell ⟨w.heap.size, 2, none⟩ (.bool x2)).setCell ⟨w.heap.size, 3, none⟩ (.int .i64 x3)).setCell ⟨w.heap.size, 4, none⟩ (.int .i64 x4)) = WZ at *
      have z0 : WZ.cell? ⟨w.heap.size, 0, none⟩ = some (.string x0) := RZ.cell 0
      have z1 : WZ.cell? ⟨w.heap.size, 1, none⟩ = some (.int .i64 x1) := RZ.cell 1
      have z2 : WZ.cell? ⟨w.heap.size, 2, none⟩ = some (.bool x2) := RZ.cell 2
      have z3 : WZ.cell? ⟨w.heap.size, 3, none⟩ = some (.int .i64 x3) := RZ.cell 3
      have z4 : WZ.cell? ⟨w.heap.size, 4, none⟩ = some (.int .i64 x4) := RZ.cell 4
      exact bodyPost_ret (v := nmV ⟨x0, x1, x2, x3, x4⟩) (by simp [results, Tryz.results203, go_sem, nmV, z0, z1, z2, z3, z4]) rfl ⟨rfl, CZ.1, CZ.2⟩
  | false =>
    have e := HK.out
    rw [Bool.false_and, if_neg (by decide)] at e
    subst e
    clear HK kn
    go_enter Tryz.func203, Tryz.ntmps203
    go_wp2_with fail
    refine ht.mono ?_
    rintro x w1 ⟨rfl, hr1, hb1⟩
    go_wp2_with fail
    refine (hfi _ hr1).mono ?_
    rintro x w2 ⟨rfl, hb2⟩
    have hr2 := hr1.below hb2
    have hB2 := hb1.below hb2
    have hr3 := hr2.alloc (.cells #[.string x0, .int .i64 x1, .bool x2, .int .i64 x3, .int .i64 x4] 96 (0, 0))
    have nb := At.alloc_new w2 [.string x0, .int .i64 x1, .bool x2, .int .i64 x3, .int .i64 x4] 96
    go_wp2_with fail
    refine (hfl _ hr3).mono ?_
    rintro x w4 ⟨rfl, hr4, hb4⟩
    have nb3 := nb.of_block (hb4.block _ nb.lt (by have := hr2.cells.lt; omega))
    have k0 := nb3.cell 0
    have k1 := nb3.cell 1
    have k2 := nb3.cell 2
    have k3 := nb3.cell 3
    have k4 := nb3.cell 4
    have RB := zero_box ((hB2.alloc _).trans hb4) hlt
    simp only [List.getElem?_cons_zero, List.getElem?_cons_succ] at k0 k1 k2 k3 k4
    have r0 := RB.cell 0
    have r1 := RB.cell 1
    have r2 := RB.cell 2
    have r3 := RB.cell 3
    have r4 := RB.cell 4
    simp only [List.getElem?_cons_zero, List.getElem?_cons_succ] at r0 r1 r2 r3 r4
    have q0 := RB.frozen 0
    have q1 := RB.frozen 1
    have q2 := RB.frozen 2
    have q3 := RB.frozen 3
    have q4 := RB.frozen 4
    have RZ := ((((RB.set 0 (.string x0)).set 1 (.int .i64 x1)).set 2 (.bool x2)).set 3 (.int .i64 x3)).set 4 (.int .i64 x4)
    have CZ := put5 hr4 ((hB2.alloc _).trans hb4) hlt hvl (.string x0) (.int .i64 x1) (.bool x2) (.int .i64 x3) (.int .i64 x4)
    go_wp2_with fail
    generalize (((((w4.setCell ⟨w.heap.size, 0, none⟩ (.string x0)).setCell ⟨w.heap.size, 1, none⟩ (.int .i64 x1)).setCell ⟨w.heap.size, 2, none⟩ (.bool x2)).setCell ⟨w.heap.size, 3, none⟩ (.int .i64 x3)).setCell ⟨w.heap.size, 4, none⟩ (.int .i64 x4)) = WZ at *
    have z0 : WZ.cell? ⟨w.heap.size, 0, none⟩ = some (.string x0) := RZ.cell 0
    have z1 : WZ.cell? ⟨w.heap.size, 1, none⟩ = some (.int .i64 x1) := RZ.cell 1
    have z2 : WZ.cell? ⟨w.heap.size, 2, none⟩ = some (.bool x2) := RZ.cell 2
    have z3 : WZ.cell? ⟨w.heap.size, 3, none⟩ = some (.int .i64 x3) := RZ.cell 3
    have z4 : WZ.cell? ⟨w.heap.size, 4, none⟩ = some (.int .i64 x4) := RZ.cell 4
    exact bodyPost_ret (v := nmV ⟨x0, x1, x2, x3, x4⟩) (by simp [results, Tryz.results203, go_sem, nmV, z0, z1, z2, z3, z4]) rfl ⟨rfl, CZ.1, CZ.2⟩
set_option maxHeartbeats 1000000 in
theorem known_words {w : World} {b : Nat} {s : ByteArray} {T : List Tok} {σ : S} {v : Value} (hS : Scans s T) (h : CR w b s T σ v) (hn : σ.names.length ≤ 1000) :
    Calls Tryz.prog 203 #[PT b, .func (.func 206) #[] #[]] w fun x w' => x = .returned (nmV (K.knownN T σ)) ∧ CR w' b s T (K.known T K.hasWords σ) v ∧ But b w w' := by
  have h0 := h.alloc (.cells #[.string ⟨#[]⟩, .int .i64 0, .bool false, .int .i64 0, .int .i64 0] 96 (0, 0))
  have hlt := h.cells.lt
  have c2 := h.c 2 _ rfl
  have hz := hS.tsize h.lt
  have ht := ktake_isName hS h0 R.isName (kisName_c _ _ (by omega))
  have kn := (K.take_keeps T R.isName σ).names
  have HK : Hid (K.known T K.hasWords σ = if ((K.findN (tk T σ.i).s.toList σ.names).2 && K.hasWords (K.findN (tk T σ.i).s.toList σ.names).1) = true then K.take T R.isName σ else K.fail T 3 (tk T σ.i).p (K.take T R.isName σ)) := rfl
  have HN : Hid (K.knownN T σ = (K.findN (tk T σ.i).s.toList σ.names).1) := rfl
  have hfi := fun (w' : World) (h' : CR w' b s T (K.take T R.isName σ) v) => kfind_c h' (by rw [kn]; exact hn) (tk T σ.i).s
  rw [kn] at hfi
  have hfl := fun (w' : World) (h' : CR w' b s T (K.take T R.isName σ) v) => kfail_c hS h' 3 (tk T σ.i).p
  rw [HN.out]
  generalize K.known T K.hasWords σ = σ2 at *
  generalize K.take T R.isName σ = σ1 at *
  generalize tk T σ.i = t at *
  obtain ⟨ts, tp⟩ := t
  dsimp only at *
  clear HN
  generalize K.findN ts.toList σ.names = F at *
  obtain ⟨⟨x0, x1, x2, x3, x4⟩, q⟩ := F
  unfold nmV at hfi
  dsimp only at *
  have hft := fun w => hasWords_c x0 x1 x2 x3 x4 w
  have hvl : ∀ k, v.ownBlock = some k → k < w.heap.size := fun k hk => (h.ne hk).2
  cases q with
  | true =>
    cases e1 : K.hasWords ⟨x0, x1, x2, x3, x4⟩ with
    | true =>
      rw [e1] at HK hft
      have e := HK.out
      rw [if_pos (by decide)] at e
      subst e
      clear HK kn hfl
      go_enter Tryz.func203, Tryz.ntmps203
      go_wp2_with fail
      refine ht.mono ?_
      rintro x w1 ⟨rfl, hr1, hb1⟩
      go_wp2_with fail
      refine (hfi _ hr1).mono ?_
      rintro x w2 ⟨rfl, hb2⟩
      have hr2 := hr1.below hb2
      have hB2 := hb1.below hb2
      have hr3 := hr2.alloc (.cells #[.string x0, .int .i64 x1, .bool x2, .int .i64 x3, .int .i64 x4] 96 (0, 0))
      have nb := At.alloc_new w2 [.string x0, .int .i64 x1, .bool x2, .int .i64 x3, .int .i64 x4] 96
      go_wp2_with fail
      refine (hft _).mono ?_
      rintro x w3 ⟨rfl, hb3⟩
      have nb3 := nb.of_block (hb3.block _ nb.lt)
      have k0 := nb3.cell 0
      have k1 := nb3.cell 1
      have k2 := nb3.cell 2
      have k3 := nb3.cell 3
      have k4 := nb3.cell 4
      have RB := zero_box ((hB2.alloc _).below hb3) hlt
      simp only [List.getElem?_cons_zero, List.getElem?_cons_succ] at k0 k1 k2 k3 k4
      have r0 := RB.cell 0
      have r1 := RB.cell 1
      have r2 := RB.cell 2
      have r3 := RB.cell 3
      have r4 := RB.cell 4
      simp only [List.getElem?_cons_zero, List.getElem?_cons_succ] at r0 r1 r2 r3 r4
      have q0 := RB.frozen 0
      have q1 := RB.frozen 1
      have q2 := RB.frozen 2
      have q3 := RB.frozen 3
      have q4 := RB.frozen 4
      have RZ := ((((RB.set 0 (.string x0)).set 1 (.int .i64 x1)).set 2 (.bool x2)).set 3 (.int .i64 x3)).set 4 (.int .i64 x4)
      have CZ := put5 (hr3.below hb3) ((hB2.alloc _).below hb3) hlt hvl (.string x0) (.int .i64 x1) (.bool x2) (.int .i64 x3) (.int .i64 x4)
      go_wp2_with fail
      generalize (((((w3.setCell ⟨w.heap.size, 0, none⟩ (.string x0)).setCell ⟨w.heap.size, 1, none⟩ (.int .i64 x1)).setCell ⟨w.heap.size, 2, none⟩ (.bool x2)).setCell ⟨w.heap.size, 3, none⟩ (.int .i64 x3)).setCell ⟨w.heap.size, 4, none⟩ (.int .i64 x4)) = WZ at *
      have z0 : WZ.cell? ⟨w.heap.size, 0, none⟩ = some (.string x0) := RZ.cell 0
      have z1 : WZ.cell? ⟨w.heap.size, 1, none⟩ = some (.int .i64 x1) := RZ.cell 1
      have z2 : WZ.cell? ⟨w.heap.size, 2, none⟩ = some (.bool x2) := RZ.cell 2
      have z3 : WZ.cell? ⟨w.heap.size, 3, none⟩ = some (.int .i64 x3) := RZ.cell 3
      have z4 : WZ.cell? ⟨w.heap.size, 4, none⟩ = some (.int .i64 x4) := RZ.cell 4
      exact bodyPost_ret (v := nmV ⟨x0, x1, x2, x3, x4⟩) (by simp [results, Tryz.results203, go_sem, nmV, z0, z1, z2, z3, z4]) rfl ⟨rfl, CZ.1, CZ.2⟩
    | false =>
      rw [e1] at HK hft
      have e := HK.out
      rw [if_neg (by decide)] at e
      subst e
      clear HK kn
      go_enter Tryz.func203, Tryz.ntmps203
      go_wp2_with fail
      refine ht.mono ?_
      rintro x w1 ⟨rfl, hr1, hb1⟩
      go_wp2_with fail
      refine (hfi _ hr1).mono ?_
      rintro x w2 ⟨rfl, hb2⟩
      have hr2 := hr1.below hb2
      have hB2 := hb1.below hb2
      have hr3 := hr2.alloc (.cells #[.string x0, .int .i64 x1, .bool x2, .int .i64 x3, .int .i64 x4] 96 (0, 0))
      have nb := At.alloc_new w2 [.string x0, .int .i64 x1, .bool x2, .int .i64 x3, .int .i64 x4] 96
      go_wp2_with fail
      refine (hft _).mono ?_
      rintro x w3 ⟨rfl, hb3⟩
      go_wp2_with fail
      refine (hfl _ (hr3.below hb3)).mono ?_
      rintro x w4 ⟨rfl, hr4, hb4⟩
      have nb3 := (nb.of_block (hb3.block _ nb.lt)).of_block (hb4.block _ (by have := hb3.size; have := nb.lt; omega) (by have := hr2.cells.lt; omega))
      have k0 := nb3.cell 0
      have k1 := nb3.cell 1
      have k2 := nb3.cell 2
      have k3 := nb3.cell 3
      have k4 := nb3.cell 4
      have RB := zero_box (((hB2.alloc _).below hb3).trans hb4) hlt
      simp only [List.getElem?_cons_zero, List.getElem?_cons_succ] at k0 k1 k2 k3 k4
      have r0 := RB.cell 0
      have r1 := RB.cell 1
      have r2 := RB.cell 2
      have r3 := RB.cell 3
      have r4 := RB.cell 4
      simp only [List.getElem?_cons_zero, List.getElem?_cons_succ] at r0 r1 r2 r3 r4
      have q0 := RB.frozen 0
      have q1 := RB.frozen 1
      have q2 := RB.frozen 2
      have q3 := RB.frozen 3
      have q4 := RB.frozen 4
      have RZ := ((((RB.set 0 (.string x0)).set 1 (.int .i64 x1)).set 2 (.bool x2)).set 3 (.int .i64 x3)).set 4 (.int .i64 x4)
      have CZ := put5 hr4 (((hB2.alloc _).below hb3).trans hb4) hlt hvl (.string x0) (.int .i64 x1) (.bool x2) (.int .i64 x3) (.int .i64 x4)
      go_wp2_with fail
      generalize (((((w4.setCell ⟨w.heap.size, 0, none⟩ (.string x0)).setCell ⟨w.heap.size, 1, none⟩ (.int .i64 x1)).setCell ⟨w.heap.size, 2, none⟩ (.bool x2)).setCell ⟨w.heap.size, 3, none⟩ (.int .i64 x3)).setCell ⟨w.heap.size, 4, none⟩ (.int .i64 x4)) = WZ at *
      have z0 : WZ.cell? ⟨w.heap.size, 0, none⟩ = some (.string x0) := RZ.cell 0
      have z1 : WZ.cell? ⟨w.heap.size, 1, none⟩ = some (.int .i64 x1) := RZ.cell 1
      have z2 : WZ.cell? ⟨w.heap.size, 2, none⟩ = some (.bool x2) := RZ.cell 2
      have z3 : WZ.cell? ⟨w.heap.size, 3, none⟩ = some (.int .i64 x3) := RZ.cell 3
      have z4 : WZ.cell? ⟨w.heap.size, 4, none⟩ = some (.int .i64 x4) := RZ.cell 4
      exact bodyPost_ret (v := nmV ⟨x0, x1, x2, x3, x4⟩) (by simp [results, Tryz.results203, go_sem, nmV, z0, z1, z2, z3, z4]) rfl ⟨rfl, CZ.1, CZ.2⟩
  | false =>
    have e := HK.out
    rw [Bool.false_and, if_neg (by decide)] at e
    subst e
    clear HK kn
    go_enter Tryz.func203, Tryz.ntmps203
    go_wp2_with fail
    refine ht.mono ?_
    rintro x w1 ⟨rfl, hr1, hb1⟩
    go_wp2_with fail
    refine (hfi _ hr1).mono ?_
    rintro x w2 ⟨rfl, hb2⟩
    have hr2 := hr1.below hb2
    have hB2 := hb1.below hb2
    have hr3 := hr2.alloc (.cells #[.string x0, .int .i64 x1, .bool x2, .int .i64 x3, .int .i64 x4] 96 (0, 0))
    have nb := At.alloc_new w2 [.string x0, .int .i64 x1, .bool x2, .int .i64 x3, .int .i64 x4] 96
    go_wp2_with fail
    refine (hfl _ hr3).mono ?_
    rintro x w4 ⟨rfl, hr4, hb4⟩
    have nb3 := nb.of_block (hb4.block _ nb.lt (by have := hr2.cells.lt; omega))
    have k0 := nb3.cell 0
    have k1 := nb3.cell 1
    have k2 := nb3.cell 2
    have k3 := nb3.cell 3
    have k4 := nb3.cell 4
    have RB := zero_box ((hB2.alloc _).trans hb4) hlt
    simp only [List.getElem?_cons_zero, List.getElem?_cons_succ] at k0 k1 k2 k3 k4
    have r0 := RB.cell 0
    have r1 := RB.cell 1
    have r2 := RB.cell 2
    have r3 := RB.cell 3
    have r4 := RB.cell 4
    simp only [List.getElem?_cons_zero, List.getElem?_cons_succ] at r0 r1 r2 r3 r4
    have q0 := RB.frozen 0
    have q1 := RB.frozen 1
    have q2 := RB.frozen 2
    have q3 := RB.frozen 3
    have q4 := RB.frozen 4
    have RZ := ((((RB.set 0 (.string x0)).set 1 (.int .i64 x1)).set 2 (.bool x2)).set 3 (.int .i64 x3)).set 4 (.int .i64 x4)
    have CZ := put5 hr4 ((hB2.alloc _).trans hb4) hlt hvl (.string x0) (.int .i64 x1) (.bool x2) (.int .i64 x3) (.int .i64 x4)
    go_wp2_with fail
    generalize (((((w4.setCell ⟨w.heap.size, 0, none⟩ (.string x0)).setCell ⟨w.heap.size, 1, none⟩ (.int .i64 x1)).setCell ⟨w.heap.size, 2, none⟩ (.bool x2)).setCell ⟨w.heap.size, 3, none⟩ (.int .i64 x3)).setCell ⟨w.heap.size, 4, none⟩ (.int .i64 x4)) = WZ at *
    have z0 : WZ.cell? ⟨w.heap.size, 0, none⟩ = some (.string x0) := RZ.cell 0
    have z1 : WZ.cell? ⟨w.heap.size, 1, none⟩ = some (.int .i64 x1) := RZ.cell 1
    have z2 : WZ.cell? ⟨w.heap.size, 2, none⟩ = some (.bool x2) := RZ.cell 2
    have z3 : WZ.cell? ⟨w.heap.size, 3, none⟩ = some (.int .i64 x3) := RZ.cell 3
    have z4 : WZ.cell? ⟨w.heap.size, 4, none⟩ = some (.int .i64 x4) := RZ.cell 4
    exact bodyPost_ret (v := nmV ⟨x0, x1, x2, x3, x4⟩) (by simp [results, Tryz.results203, go_sem, nmV, z0, z1, z2, z3, z4]) rfl ⟨rfl, CZ.1, CZ.2⟩
set_option maxHeartbeats 1000000 in
theorem known_read {w : World} {b : Nat} {s : ByteArray} {T : List Tok} {σ : S} {v : Value} (hS : Scans s T) (h : CR w b s T σ v) (hn : σ.names.length ≤ 1000) :
    Calls Tryz.prog 203 #[PT b, .func (.func 220) #[] #[]] w fun x w' => x = .returned (nmV (K.knownN T σ)) ∧ CR w' b s T (K.known T K.canRead σ) v ∧ But b w w' := by
  have h0 := h.alloc (.cells #[.string ⟨#[]⟩, .int .i64 0, .bool false, .int .i64 0, .int .i64 0] 96 (0, 0))
  have hlt := h.cells.lt
  have c2 := h.c 2 _ rfl
  have hz := hS.tsize h.lt
  have ht := ktake_isName hS h0 R.isName (kisName_c _ _ (by omega))
  have kn := (K.take_keeps T R.isName σ).names
  have HK : Hid (K.known T K.canRead σ = if ((K.findN (tk T σ.i).s.toList σ.names).2 && K.canRead (K.findN (tk T σ.i).s.toList σ.names).1) = true then K.take T R.isName σ else K.fail T 3 (tk T σ.i).p (K.take T R.isName σ)) := rfl
  have HN : Hid (K.knownN T σ = (K.findN (tk T σ.i).s.toList σ.names).1) := rfl
  have hfi := fun (w' : World) (h' : CR w' b s T (K.take T R.isName σ) v) => kfind_c h' (by rw [kn]; exact hn) (tk T σ.i).s
  rw [kn] at hfi
  have hfl := fun (w' : World) (h' : CR w' b s T (K.take T R.isName σ) v) => kfail_c hS h' 3 (tk T σ.i).p
  rw [HN.out]
  generalize K.known T K.canRead σ = σ2 at *
  generalize K.take T R.isName σ = σ1 at *
  generalize tk T σ.i = t at *
  obtain ⟨ts, tp⟩ := t
  dsimp only at *
  clear HN
  generalize K.findN ts.toList σ.names = F at *
  obtain ⟨⟨x0, x1, x2, x3, x4⟩, q⟩ := F
  unfold nmV at hfi
  dsimp only at *
  have hft := fun w => canRead_c x0 x1 x2 x3 x4 w
  have hvl : ∀ k, v.ownBlock = some k → k < w.heap.size := fun k hk => (h.ne hk).2
  cases q with
  | true =>
    cases e1 : K.canRead ⟨x0, x1, x2, x3, x4⟩ with
    | true =>
      rw [e1] at HK hft
      have e := HK.out
      rw [if_pos (by decide)] at e
      subst e
      clear HK kn hfl
      go_enter Tryz.func203, Tryz.ntmps203
      go_wp2_with fail
      refine ht.mono ?_
      rintro x w1 ⟨rfl, hr1, hb1⟩
      go_wp2_with fail
      refine (hfi _ hr1).mono ?_
      rintro x w2 ⟨rfl, hb2⟩
      have hr2 := hr1.below hb2
      have hB2 := hb1.below hb2
      have hr3 := hr2.alloc (.cells #[.string x0, .int .i64 x1, .bool x2, .int .i64 x3, .int .i64 x4] 96 (0, 0))
      have nb := At.alloc_new w2 [.string x0, .int .i64 x1, .bool x2, .int .i64 x3, .int .i64 x4] 96
      go_wp2_with fail
      refine (hft _).mono ?_
      rintro x w3 ⟨rfl, hb3⟩
      have nb3 := nb.of_block (hb3.block _ nb.lt)
      have k0 := nb3.cell 0
      have k1 := nb3.cell 1
      have k2 := nb3.cell 2
      have k3 := nb3.cell 3
      have k4 := nb3.cell 4
      have RB := zero_box ((hB2.alloc _).below hb3) hlt
      simp only [List.getElem?_cons_zero, List.getElem?_cons_succ] at k0 k1 k2 k3 k4
      have r0 := RB.cell 0
      have r1 := RB.cell 1
      have r2 := RB.cell 2
      have r3 := RB.cell 3
      have r4 := RB.cell 4
      simp only [List.getElem?_cons_zero, List.getElem?_cons_succ] at r0 r1 r2 r3 r4
      have q0 := RB.frozen 0
      have q1 := RB.frozen 1
      have q2 := RB.frozen 2
      have q3 := RB.frozen 3
      have q4 := RB.frozen 4
      have RZ := ((((RB.set 0 (.string x0)).set 1 (.int .i64 x1)).set 2 (.bool x2)).set 3 (.int .i64 x3)).set 4 (.int .i64 x4)
      have CZ := put5 (hr3.below hb3) ((hB2.alloc _).below hb3) hlt hvl (.string x0) (.int .i64 x1) (.bool x2) (.int .i64 x3) (.int .i64 x4)
      go_wp2_with fail
      generalize (((((w3.setCell ⟨w.heap.size, 0, none⟩ (.string x0)).setCell ⟨w.heap.size, 1, none⟩ (.int .i64 x1)).setCell ⟨w.heap.size, 2, none⟩ (.bool x2)).setCell ⟨w.heap.size, 3, none⟩ (.int .i64 x3)).setCell ⟨w.heap.size, 4, none⟩ (.int .i64 x4)) = WZ at *
      have z0 : WZ.cell? ⟨w.heap.size, 0, none⟩ = some (.string x0) := RZ.cell 0
      have z1 : WZ.cell? ⟨w.heap.size, 1, none⟩ = some (.int .i64 x1) := RZ.cell 1
      have z2 : WZ.cell? ⟨w.heap.size, 2, none⟩ = some (.bool x2) := RZ.cell 2
      have z3 : WZ.cell? ⟨w.heap.size, 3, none⟩ = some (.int .i64 x3) := RZ.cell 3
      have z4 : WZ.cell? ⟨w.heap.size, 4, none⟩ = some (.int .i64 x4) := RZ.cell 4
      exact bodyPost_ret (v := nmV ⟨x0, x1, x2, x3, x4⟩) (by simp [results, Tryz.results203, go_sem, nmV, z0, z1, z2, z3, z4]) rfl ⟨rfl, CZ.1, CZ.2⟩
    | false =>
      rw [e1] at HK hft
      have e := HK.out
      rw [if_neg (by decide)] at e
      subst e
      clear HK kn
      go_enter Tryz.func203, Tryz.ntmps203
      go_wp2_with fail
      refine ht.mono ?_
      rintro x w1 ⟨rfl, hr1, hb1⟩
      go_wp2_with fail
      refine (hfi _ hr1).mono ?_
      rintro x w2 ⟨rfl, hb2⟩
      have hr2 := hr1.below hb2
      have hB2 := hb1.below hb2
      have hr3 := hr2.alloc (.cells #[.string x0, .int .i64 x1, .bool x2, .int .i64 x3, .int .i64 x4] 96 (0, 0))
      have nb := At.alloc_new w2 [.string x0, .int .i64 x1, .bool x2, .int .i64 x3, .int .i64 x4] 96
      go_wp2_with fail
      refine (hft _).mono ?_
      rintro x w3 ⟨rfl, hb3⟩
      go_wp2_with fail
      refine (hfl _ (hr3.below hb3)).mono ?_
      rintro x w4 ⟨rfl, hr4, hb4⟩
      have nb3 := (nb.of_block (hb3.block _ nb.lt)).of_block (hb4.block _ (by have := hb3.size; have := nb.lt; omega) (by have := hr2.cells.lt; omega))
      have k0 := nb3.cell 0
      have k1 := nb3.cell 1
      have k2 := nb3.cell 2
      have k3 := nb3.cell 3
      have k4 := nb3.cell 4
      have RB := zero_box (((hB2.alloc _).below hb3).trans hb4) hlt
      simp only [List.getElem?_cons_zero, List.getElem?_cons_succ] at k0 k1 k2 k3 k4
      have r0 := RB.cell 0
      have r1 := RB.cell 1
      have r2 := RB.cell 2
      have r3 := RB.cell 3
      have r4 := RB.cell 4
      simp only [List.getElem?_cons_zero, List.getElem?_cons_succ] at r0 r1 r2 r3 r4
      have q0 := RB.frozen 0
      have q1 := RB.frozen 1
      have q2 := RB.frozen 2
      have q3 := RB.frozen 3
      have q4 := RB.frozen 4
      have RZ := ((((RB.set 0 (.string x0)).set 1 (.int .i64 x1)).set 2 (.bool x2)).set 3 (.int .i64 x3)).set 4 (.int .i64 x4)
      have CZ := put5 hr4 (((hB2.alloc _).below hb3).trans hb4) hlt hvl (.string x0) (.int .i64 x1) (.bool x2) (.int .i64 x3) (.int .i64 x4)
      go_wp2_with fail
      generalize (((((w4.setCell ⟨w.heap.size, 0, none⟩ (.string x0)).setCell ⟨w.heap.size, 1, none⟩ (.int .i64 x1)).setCell ⟨w.heap.size, 2, none⟩ (.bool x2)).setCell ⟨w.heap.size, 3, none⟩ (.int .i64 x3)).setCell ⟨w.heap.size, 4, none⟩ (.int .i64 x4)) = WZ at *
      have z0 : WZ.cell? ⟨w.heap.size, 0, none⟩ = some (.string x0) := RZ.cell 0
      have z1 : WZ.cell? ⟨w.heap.size, 1, none⟩ = some (.int .i64 x1) := RZ.cell 1
      have z2 : WZ.cell? ⟨w.heap.size, 2, none⟩ = some (.bool x2) := RZ.cell 2
      have z3 : WZ.cell? ⟨w.heap.size, 3, none⟩ = some (.int .i64 x3) := RZ.cell 3
      have z4 : WZ.cell? ⟨w.heap.size, 4, none⟩ = some (.int .i64 x4) := RZ.cell 4
      exact bodyPost_ret (v := nmV ⟨x0, x1, x2, x3, x4⟩) (by simp [results, Tryz.results203, go_sem, nmV, z0, z1, z2, z3, z4]) rfl ⟨rfl, CZ.1, CZ.2⟩
  | false =>
    have e := HK.out
    rw [Bool.false_and, if_neg (by decide)] at e
    subst e
    clear HK kn
    go_enter Tryz.func203, Tryz.ntmps203
    go_wp2_with fail
    refine ht.mono ?_
    rintro x w1 ⟨rfl, hr1, hb1⟩
    go_wp2_with fail
    refine (hfi _ hr1).mono ?_
    rintro x w2 ⟨rfl, hb2⟩
    have hr2 := hr1.below hb2
    have hB2 := hb1.below hb2
    have hr3 := hr2.alloc (.cells #[.string x0, .int .i64 x1, .bool x2, .int .i64 x3, .int .i64 x4] 96 (0, 0))
    have nb := At.alloc_new w2 [.string x0, .int .i64 x1, .bool x2, .int .i64 x3, .int .i64 x4] 96
    go_wp2_with fail
    refine (hfl _ hr3).mono ?_
    rintro x w4 ⟨rfl, hr4, hb4⟩
    have nb3 := nb.of_block (hb4.block _ nb.lt (by have := hr2.cells.lt; omega))
    have k0 := nb3.cell 0
    have k1 := nb3.cell 1
    have k2 := nb3.cell 2
    have k3 := nb3.cell 3
    have k4 := nb3.cell 4
    have RB := zero_box ((hB2.alloc _).trans hb4) hlt
    simp only [List.getElem?_cons_zero, List.getElem?_cons_succ] at k0 k1 k2 k3 k4
    have r0 := RB.cell 0
    have r1 := RB.cell 1
    have r2 := RB.cell 2
    have r3 := RB.cell 3
    have r4 := RB.cell 4
    simp only [List.getElem?_cons_zero, List.getElem?_cons_succ] at r0 r1 r2 r3 r4
    have q0 := RB.frozen 0
    have q1 := RB.frozen 1
    have q2 := RB.frozen 2
    have q3 := RB.frozen 3
    have q4 := RB.frozen 4
    have RZ := ((((RB.set 0 (.string x0)).set 1 (.int .i64 x1)).set 2 (.bool x2)).set 3 (.int .i64 x3)).set 4 (.int .i64 x4)
    have CZ := put5 hr4 ((hB2.alloc _).trans hb4) hlt hvl (.string x0) (.int .i64 x1) (.bool x2) (.int .i64 x3) (.int .i64 x4)
    go_wp2_with fail
    generalize (((((w4.setCell ⟨w.heap.size, 0, none⟩ (.string x0)).setCell ⟨w.heap.size, 1, none⟩ (.int .i64 x1)).setCell ⟨w.heap.size, 2, none⟩ (.bool x2)).setCell ⟨w.heap.size, 3, none⟩ (.int .i64 x3)).setCell ⟨w.heap.size, 4, none⟩ (.int .i64 x4)) = WZ at *
    have z0 : WZ.cell? ⟨w.heap.size, 0, none⟩ = some (.string x0) := RZ.cell 0
    have z1 : WZ.cell? ⟨w.heap.size, 1, none⟩ = some (.int .i64 x1) := RZ.cell 1
    have z2 : WZ.cell? ⟨w.heap.size, 2, none⟩ = some (.bool x2) := RZ.cell 2
    have z3 : WZ.cell? ⟨w.heap.size, 3, none⟩ = some (.int .i64 x3) := RZ.cell 3
    have z4 : WZ.cell? ⟨w.heap.size, 4, none⟩ = some (.int .i64 x4) := RZ.cell 4
    exact bodyPost_ret (v := nmV ⟨x0, x1, x2, x3, x4⟩) (by simp [results, Tryz.results203, go_sem, nmV, z0, z1, z2, z3, z4]) rfl ⟨rfl, CZ.1, CZ.2⟩
end Go.Proofs.YtejbgcloblpbfaaGreatDoor
