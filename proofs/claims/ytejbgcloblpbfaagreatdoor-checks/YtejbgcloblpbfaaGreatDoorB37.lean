import Derived.Test.YtejbgcloblpbfaaGreatDoorB35
import Derived.Deep.RegionHeld
import Derived.Test.YtejbgcloblpbfaaGreatDoorB03
import Derived.Deep.OwnRows
namespace Go.Proofs.YtejbgcloblpbfaaGreatDoor
open Go.RowKit
open K (Nm Ex Do)
theorem info_rword : (Tryz.prog.info? 121).map (fun i => (i.zero, i.size, i.bytes)) = some (some (.int .i64 0), 1, 8) := by kernel_rfl
theorem info_rint : (Tryz.prog.info? 3).map (fun i => (i.zero, i.size, i.bytes)) = some (some (.int .i64 0), 1, 8) := by kernel_rfl
def Built (t : Array Value) : Prop := ∀ s : Value, Array.foldl (fun cs x => cs.setIfInBounds (1 + x.snd) x.fst) (Tryz.zeroCells120.setIfInBounds 0 s) t.zipIdx 0 256 = #[s] ++ t
theorem is_built : Built ((((((((Tryz.zeroCells117.setIfInBounds 43 (.func (.func 82) #[] #[])).setIfInBounds 45 (.func (.func 83) #[] #[])).setIfInBounds 42 (.func (.func 84) #[] #[])).setIfInBounds 47 (.func (.func 85) #[] #[])).setIfInBounds 38 (.func (.func 86) #[] #[])).setIfInBounds 94 (.func (.func 87) #[] #[])).setIfInBounds 60 (.func (.func 88) #[] #[])).setIfInBounds 61 (.func (.func 89) #[] #[])) := by
  intro s
  kernel_rfl
theorem made_list (z : Value) (n : Nat) : madeCells #[z] n = (List.replicate n z).toArray := by
  apply Array.toList_inj.1
  rw [toList_madeCells_one]
set_option maxRecDepth 100000 in
set_option maxHeartbeats 2000000 in
theorem operations_b (w : World) : Calls Tryz.prog 63 #[] w fun x w' => (∃ t, (IsTab t ∧ Built t) ∧ x = .returned (.agg t)) ∧ Below w.heap.size w w' := by
  have h0 := is_tab
  have hb0 := is_built
  obtain ⟨tb, htb⟩ : ∃ tb, tb = (((((((Tryz.zeroCells117.setIfInBounds 43 (.func (.func 82) #[] #[])).setIfInBounds 45 (.func (.func 83) #[] #[])).setIfInBounds 42 (.func (.func 84) #[] #[])).setIfInBounds 47 (.func (.func 85) #[] #[])).setIfInBounds 38 (.func (.func 86) #[] #[])).setIfInBounds 94 (.func (.func 87) #[] #[])).setIfInBounds 60 (.func (.func 88) #[] #[])).setIfInBounds 61 (.func (.func 89) #[] #[]) := ⟨_, rfl⟩
  rw [← htb] at h0 hb0
  have hst := run_storeCells_new (P := Tryz.prog) w 117 Tryz.zeroCells117 tb (by rw [h0.size]; exact tabType) (by rw [h0.size]; kernel_rfl) h0.one
  have hl := congrArg Array.toList htb
  simp only [Array.toList_setIfInBounds] at hl
  rw [hl] at hst
  go_enter Tryz.func63, Tryz.ntmps63
  go_wp2_with fail
  rw [← htb]
  clear hst hl htb
  exact bodyPost_ret (v := .agg tb) (results_cell_row Tryz.results63 _ _ w.heap.size 117 tb (0, 0) _ rfl (heap_alloc_last w _) Tryz.underlying117 rfl (by rw [h0.size]; exact tabType)) rfl ⟨⟨tb, ⟨h0, hb0⟩, rfl⟩, (Below.refl _ _).alloc (Nat.le_refl _) _⟩
theorem rat_of {w : World} {g N : Nat} {tb : Array Value} (htb : IsTab tb) (ha : At w g 121 (List.replicate (N + 2) (.int .i64 0))) (hN : N + 2 ≤ 60) :
    RAt (w.alloc (.cells (#[.slice (some ⟨g, 0, none⟩) (N + 2) (N + 2)] ++ tb) 120 (0, 0))) w.heap.size g tb (List.replicate (N + 2) 0) := by
  refine ⟨?_, ?_, htb, by rw [List.length_replicate]; exact hN⟩
  · rw [List.length_replicate]
    have := At.alloc_new w (.slice (some ⟨g, 0, none⟩) (N + 2) (N + 2) :: tb.toList) 120
    have e : (Value.slice (some ⟨g, 0, none⟩) (N + 2) (N + 2) :: tb.toList).toArray = #[.slice (some ⟨g, 0, none⟩) (N + 2) (N + 2)] ++ tb := by
      apply Array.toList_inj.1
      simp
    rw [e] at this
    exact this
  · rw [List.map_replicate]
    exact ha.alloc _
theorem made_at (w : World) (n : Nat) (t : TypeId) : At (w.alloc (.cells (madeCells #[.int .i64 0] n) t (0, 0))) w.heap.size t (List.replicate n (.int .i64 0)) := by
  rw [made_list]
  exact At.alloc_new w _ t
theorem but_lower {b B : Nat} {w w' : World} (h : But b w w') (hB : B ≤ b) (hs : B ≤ w.heap.size) : Below B w w' :=
  ⟨h.os, h.tape, h.output, h.size, fun k hk => h.block k (by omega) (by omega)⟩
theorem V.fill_step {ms : List Int} {N k : Nat} (hN : ms.length = N) (hk : k < N) (m : Nat) : (ms.take k ++ List.replicate (m - k) 0).set k (ms.getD k 0) = ms.take (k + 1) ++ List.replicate (m - (k + 1)) 0 ∨ m ≤ k := by
  by_cases hm : m ≤ k
  · exact Or.inr hm
  · refine Or.inl ?_
    have hl : (ms.take k).length = k := by rw [List.length_take]; omega
    rw [List.set_append_right _ _ (by omega), hl, Nat.sub_self, show m - k = (m - (k + 1)) + 1 by omega, List.replicate_succ, List.set_cons_zero, List.take_succ_eq_append_getElem (by omega), List.append_assoc, List.getD_eq_getElem?_getD, List.getElem?_eq_getElem (by omega)]
    rfl
set_option maxRecDepth 100000 in
set_option maxHeartbeats 4000000 in
theorem prog_c (N : Nat) (hN : N ≤ 54) (ms : List Int) (hms : ms.length = N) (l : List Do) (hwf : V.wfL (N + 2) l) (na : Option Addr) (nn nc : Nat) (da : Option Addr) (dn dc : Nat) (aM : Option Addr) (cM : Nat) (us : List Value) (w : World)
    (dr : DRow (fun k => k < w.heap.size) w (.slice da dn dc) us) (de : Each (fun k => k < w.heap.size) w l us)
    (hM : ∀ (j : Nat) u, ms[j]? = some u → ∃ gm o, aM = some ⟨gm, o, none⟩ ∧ gm < w.heap.size ∧ w.cell? ⟨gm, o + j, none⟩ = some (.int .i64 u)) :
    Calls Tryz.prog 47 #[.agg #[.slice na nn nc, .int .i64 (N : Int), .slice da dn dc], .slice aM N cM] w fun x w' => (∃ g, x = .returned (.slice (some ⟨g, 0, none⟩) N N) ∧ w.heap.size ≤ g ∧ At w' g 3 (((V.rds l (ms ++ [0, 0])).take N).map fun n => .int .i64 n)) ∧ Below w.heap.size w w' := by
  have hop := fun (w : World) => operations_b w
  have hmk := run_make_row' (P := Tryz.prog) 114 121 (.int .i64 0) 8 Tryz.underlying114 info_rword rfl .i64 .i64 (N + 2) (by omega) (by omega)
  have hmk2 := run_make_row' (P := Tryz.prog) 32 3 (.int .i64 0) 8 Tryz.underlying32 info_rint rfl .i64 .i64 N (by omega) (by omega)
  have ecast : ((N + 2 : Nat) : Int) = (N : Int) + 2 := by omega
  rw [ecast] at hmk
  have hwr : IntKind.i64.wrap ((N : Int) + 2) = (N : Int) + 2 := k64 _ (by omega)
  have HM := hide hM
  have HW := hide hwf
  have HDR := hide dr
  have HDE := hide de
  clear hM hwf dr de
  go_enter Tryz.func47, Tryz.ntmps47
  go_upto_region 1 with fail
  have bx := At.alloc_new w [.slice na nn nc, .int .i64 (N : Int), .slice da dn dc] 84
  have B0 : Below w.heap.size w (w.alloc (.cells #[.slice na nn nc, .int .i64 (N : Int), .slice da dn dc] 84 (0, 0))) := (Below.refl _ _).alloc (Nat.le_refl _) _
  generalize w.alloc (.cells #[.slice na nn nc, .int .i64 (N : Int), .slice da dn dc] 84 (0, 0)) = w0 at *
  have hlL := bx.lt
  generalize hLL : w.heap.size = L at *
  go_cut [5] from 10 to 16 (fun q wr => ∃ b g tb, q = .pointer (some ⟨b, 0, none⟩) ∧ RAt wr b g tb (List.replicate (N + 2) 0) ∧ Below w0.heap.size w0 wr ∧ w0.heap.size ≤ g)
  case first =>
    have KS : ∀ w' : World, Below w0.heap.size w0 w' → w'.cell? ⟨L, 1, none⟩ = some (.int .i64 (N : Int)) := fun w' hb => (hb.cell (p := ⟨L, 1, none⟩) hlL).trans (bx.cell 1)
    have Bd : Below w0.heap.size w0 w0.drew := ⟨rfl, rfl, rfl, Nat.le_refl _, fun _ _ => rfl⟩
    have bm := (Below.refl w0.heap.size w0).alloc (Nat.le_refl _) (.cells (madeCells #[.int .i64 0] (N + 2)) 121 (0, 0))
    have Bm : Below w0.heap.size w0 (w0.alloc (.cells (madeCells #[.int .i64 0] (N + 2)) 121 (0, 0))).drew := ⟨bm.os, bm.tape, bm.output, bm.size, bm.block⟩
    go_region_held (fun (w' : World) => w'.cell? ⟨L, 1, none⟩ = some (.int .i64 (N : Int))) (first | exact KS _ Bm | exact KS _ Bd | exact KS _ B1 | exact KS _ (B1.alloc B1.size _) | exact KS _ ((B1.alloc B1.size _).alloc (Nat.le_trans B1.size (by simp)) _)) (first | (go_at_call 63; refine (hop _).mono ?_; rintro z w1 ⟨⟨tb, ⟨htb, hbt⟩, rfl⟩, hb1⟩; have hsz := htb.size; first | (have B1 := Bd.trans (hb1.mono Bd.size)) | (have B1 := Bm.trans (hb1.mono Bm.size))))
    all_goals
      rw [hbt]
      go_wp2_with fail
      go_meet
      case rel =>
        first
        | exact ⟨w1.heap.size, w0.heap.size, tb, rfl, rat_of htb ((made_at w0 (N + 2) 121).of_block (hb1.block _ (by simp))) (by omega), B1.alloc B1.size _, Nat.le_refl _⟩
        | exact ⟨w1.heap.size + 1, w1.heap.size, tb, rfl, by have := rat_of htb (made_at w1 (N + 2) 121) (by omega : N + 2 ≤ 60); simpa using this, (B1.alloc B1.size _).alloc (Nat.le_trans B1.size (by simp)) _, B1.size⟩
  case rest =>
    obtain ⟨b, g, tb, rfl, r1, B1, hg⟩ := hcut
    obtain ⟨wX, rfl⟩ : ∃ wX : World, wX = wc := ⟨_, rfl⟩
    have zX := B1.size
    have lb := r1.cells.lt
    have lg := r1.words.lt
    have hne := r1.ne
    have bxX := bx.of_block (B1.block _ hlL)
    clear hop hmk hwr ecast
    go_wp2_with fail
    go_loopg [19] N (fun gk i wr => ∃ k : Nat, k + gk = N ∧ i = .int .i64 (k : Int) ∧ RAt wr b g tb (ms.take k ++ List.replicate (N + 2 - k) 0) ∧ But g wX wr)
    case atStart => exact ⟨0, by omega, rfl, by simpa using r1, But.refl _ _⟩
    case round =>
      obtain ⟨k, hk, rfl, rr, Bk⟩ := hrel
      have zk := Bk.size
      cases gk with
      | succ g1 =>
        have hz : (k : Int) < (N : Int) := by omega
        obtain ⟨u, hu⟩ : ∃ u, ms[k]? = some u := ⟨_, List.getElem?_eq_getElem (by omega)⟩
        obtain ⟨gm, o, rfl, hgm, hcm⟩ := HM.out k u hu
        have vm : wr.cell? ⟨gm, o + k, none⟩ = some (.int .i64 u) := (World.cell?_of_block (a := ⟨gm, o + k, none⟩) (Bk.block gm (by omega) (by omega))).trans (((B1.cell (p := ⟨gm, o + k, none⟩) (show gm < w0.heap.size by omega)).trans (B0.cell (p := ⟨gm, o + k, none⟩) hgm)).trans hcm)
        have hlen : (ms.take k ++ List.replicate (N + 2 - k) (0 : Int)).length = N + 2 := by rw [List.length_append, List.length_take, List.length_replicate]; omega
        have c0 := rr.cells.cell 0
        simp only [List.getElem?_cons_zero] at c0
        rw [hlen] at c0
        have hz2 : (k : Int) < (N : Int) + 2 := by omega
        have cw := rr.word (k := k) (by rw [hlen]; omega)
        have fw := rr.words.frozen k
        have rs := rr.set hne k u
        have e := (V.fill_step hms (show k < N by omega) (N + 2)).resolve_right (by omega)
        rw [List.getD_eq_getElem?_getD, hu, Option.getD_some] at e
        rw [e] at rs
        have lb' := rr.cells.lt
        clear e
        go_wp2_with fail
        go_roundg g1
        case measure => omega
        case rel => exact ⟨k + 1, by omega, by go_num, rs, Bk.set k _⟩
      | zero =>
        have hz : ¬ ((k : Int) < (N : Int)) := by omega
        have e : ms.take k ++ List.replicate (N + 2 - k) 0 = ms ++ [0, 0] := by rw [List.take_of_length_le (by omega), show N + 2 - k = 2 by omega]; rfl
        rw [e] at rr
        obtain ⟨wY, rfl⟩ : ∃ wY : World, wY = wr := ⟨_, rfl⟩
        have nLg : L ≠ g := by omega
        have bxY := bxX.of_block (Bk.block _ bxX.lt nLg)
        have p2 := bxY.cell 2
        simp only [List.getElem?_cons_zero, List.getElem?_cons_succ] at p2
        have kp : ∀ q, q < L → q < w.heap.size → wY.heap[q]? = w.heap[q]? := fun q h1 h2 => (Bk.block q (by omega) (by omega)).trans ((B1.block q (by omega)).trans (B0.block q h1))
        have hcall := rds_c l (fun k => k < L) wY b g tb (ms ++ [0, 0]) (.slice da dn dc) us rr (HDR.out.keep kp) (HDE.out.keep kp) (by rw [List.length_append, hms]; exact HW.out) (fun q hq => by omega)
        have hW1 : (V.rds l (ms ++ [0, 0])).length = N + 2 := by rw [V.rds_len, List.length_append, hms]; rfl
        clear HDR HDE HM e rr
        generalize hWW : V.rds l (ms ++ [0, 0]) = W1 at *
        go_wp2_with fail
        refine hcall.mono ?_
        rintro x w5 ⟨rfl, r5, hb5⟩
        have bx5 := bxY.of_block (hb5.block _ bxY.lt nLg)
        have p1 := bx5.cell 1
        simp only [List.getElem?_cons_zero, List.getElem?_cons_succ] at p1
        have z5 := hb5.size
        have aR := made_at w5 N 3
        have l5b := r5.cells.lt
        have l5g := r5.words.lt
        have BW5 : Below L w w5 := (B0.trans (B1.mono (by omega))).trans ((but_lower (Bk.trans hb5) (show L ≤ g by omega) (show L ≤ wX.heap.size by omega)))
        have BW6 := BW5.alloc (show L ≤ w5.heap.size by omega) (.cells (madeCells #[.int .i64 0] N) 3 (0, 0))
        have r6 := r5.below ((Below.refl _ _).alloc (Nat.le_refl _) (.cells (madeCells #[.int .i64 0] N) 3 (0, 0)))
        go_wp2_with fail
        generalize w5.alloc (.cells (madeCells #[.int .i64 0] N) 3 (0, 0)) = w6 at *
        generalize hG2 : w5.heap.size = G2 at *
        go_loopg [41] N (fun gk i wr => ∃ k : Nat, k + gk = N ∧ i = .int .i64 (k : Int) ∧ At wr G2 3 ((W1.take k ++ List.replicate (N - k) 0).map fun n => .int .i64 n) ∧ But G2 w6 wr)
        case atStart => exact ⟨0, by omega, rfl, by simpa using aR, But.refl _ _⟩
        case round =>
          obtain ⟨j, hj, rfl, aJ, Bj⟩ := hrel
          have lJ := aJ.lt
          cases gk with
          | succ g1 =>
            have hy : (j : Int) < (N : Int) := by omega
            have rj := r6.keep (Bj.block b r6.cells.lt (by omega)) (Bj.block g r6.words.lt (by omega))
            have c0 := rj.cells.cell 0
            simp only [List.getElem?_cons_zero] at c0
            rw [hW1] at c0
            have hz2 : (j : Int) < (N : Int) + 2 := by omega
            have cw := rj.word (k := j) (by omega)
            have lj := rj.cells.lt
            obtain ⟨u, hu⟩ : ∃ u, W1[j]? = some u := ⟨_, List.getElem?_eq_getElem (by omega)⟩
            rw [List.getD_eq_getElem?_getD, hu, Option.getD_some] at cw
            have hJl : ((W1.take j ++ List.replicate (N - j) (0 : Int)).map fun n => Value.int .i64 n)[j]? = some (.int .i64 0) := by
              rw [List.getElem?_map, List.getElem?_append_right (by rw [List.length_take]; omega), List.length_take, List.getElem?_replicate, if_pos (by omega)]
              rfl
            have cj := (aJ.cell j).trans hJl
            have fj := aJ.frozen j
            have asj := aJ.set j (.int .i64 u)
            have e : ((W1.take j ++ List.replicate (N - j) (0 : Int)).map fun n => Value.int .i64 n).set j (.int .i64 u) = (W1.take (j + 1) ++ List.replicate (N - (j + 1)) 0).map fun n => .int .i64 n := by
              rw [← List.map_set]
              congr 1
              have hl : (W1.take j).length = j := by rw [List.length_take]; omega
              rw [List.set_append_right _ _ (by omega), hl, Nat.sub_self, show N - j = (N - (j + 1)) + 1 by omega, List.replicate_succ, List.set_cons_zero, List.take_add_one, hu, List.append_assoc]
              rfl
            rw [e] at asj
            clear e hJl
            go_wp2_with fail
            go_roundg g1
            case measure => omega
            case rel => exact ⟨j + 1, by omega, by go_num, asj, Bj.set j _⟩
          | zero =>
            have hy : ¬ ((j : Int) < (N : Int)) := by omega
            have ej : j = N := by omega
            subst ej
            rw [Nat.sub_self, List.replicate_zero, List.append_nil] at aJ
            go_wp2_with fail
            go_ret
            exact ⟨⟨G2, rfl, by omega, by rw [← List.map_take]; exact aJ⟩, BW6.trans (but_lower Bj (by omega) (by have := BW6.size; have := r6.cells.lt; omega))⟩
end Go.Proofs.YtejbgcloblpbfaaGreatDoor
