import Derived.Test.YtejbgcloblpbfaaGreatDoorR03
import Derived.Lib.SmallJoins
import Derived.ArgAppend
import Derived.Deep.LoopGhost
import Derived.Test.YtejbgcloblpbfaaGreatDoorR29
import Derived.Test.YtejbgcloblpbfaaGreatDoorR23
import Derived.Test.YtejbgcloblpbfaaGreatDoorR40
import Derived.Deep.RegionHeld
import Derived.Deep.OwnRows
import Derived.Test.YtejbgcloblpbfaaGreatDoorR39
import Derived.Test.YtejbgcloblpbfaaGreatDoorR38
import Derived.Test.YtejbgcloblpbfaaGreatDoorR41
import Derived.Test.YtejbgcloblpbfaaGreatDoorR21
import Derived.Laws.AppendOwnNone
namespace Go.Proofs.YtejbgcloblpbfaaGreatDoor
open Go.RowKit
structure Three (w : World) (lo hi h : Nat) (v : Bool) : Prop where
  rows : ∀ i, i < 3 → ∃ g n c, w.cell? ⟨h, i, none⟩ = some (.slice (some ⟨g, 0, none⟩) n c) ∧ n ≤ 100 ∧ (lo ≤ g ∧ g < hi) ∧ ∀ j, j < n → w.cell? ⟨g, j, none⟩ = some (.bool v)
  own : lo ≤ h ∧ h < hi
theorem Three.keep {w w' : World} {lo hi h : Nat} {v : Bool} (t : Three w lo hi h v) (hb : ∀ k, lo ≤ k → k < hi → w'.heap[k]? = w.heap[k]?) : Three w' lo hi h v := by
  refine ⟨fun i hi => ?_, t.own⟩
  obtain ⟨g, n, c, h1, h2, h3, h4⟩ := t.rows i hi
  exact ⟨g, n, c, (World.cell?_of_block (hb h t.own.1 t.own.2)).trans h1, h2, h3, fun j hj => (World.cell?_of_block (hb g h3.1 h3.2)).trans (h4 j hj)⟩
set_option maxHeartbeats 1000000 in
theorem flagged_c {lo hi h : Nat} {v : Bool} {w : World} (t : Three w lo hi h v) :
    Calls Tryz.prog 19 #[.slice (some ⟨h, 0, none⟩) 3 3, .bool v] w fun x w' => x = .returned (.bool true) ∧ w' = w := by
  have HT := hide t.rows
  clear t
  go_enter Tryz.func19, Tryz.ntmps19
  go_wp2_with fail
  go_loopg [5, 6] 3 (fun gk i _ wr => ∃ k : Nat, k + gk = 3 ∧ i = .int .i64 (k : Int) ∧ w = wr)
  case atStart => exact ⟨0, rfl, rfl, rfl⟩
  case round =>
    obtain ⟨k, hk, rfl, rfl⟩ := hrel
    cases gk with
    | zero =>
      have hz : ¬ ((k : Int) < 3) := by omega
      go_wp2_with fail
      go_ret
      exact ⟨rfl, rfl⟩
    | succ g1 =>
      have hz : (k : Int) < 3 := by omega
      obtain ⟨g, n, c, hc, hn, _, hcell⟩ := HT.out k (by omega)
      have HC := hide hcell
      clear hcell
      go_wp2_with fail
      go_loopg [6] n (fun g2 kk wy => ∃ m : Nat, m + g2 = n ∧ kk = .int .i64 (m : Int) ∧ w = wy)
      case atStart => exact ⟨0, by omega, rfl, rfl⟩
      case round =>
        obtain ⟨m, hm, rfl, rfl⟩ := hrel
        cases gk with
        | zero =>
          have hy : ¬ ((m : Int) < (n : Int)) := by omega
          go_wp2_with fail
          go_roundg g1
          case measure => omega
          case rel => exact ⟨k + 1, by omega, by go_num, rfl⟩
        | succ g2 =>
          have hy : (m : Int) < (n : Int) := by omega
          have hx := HC.out m (by omega)
          go_wp2_with fail
          go_roundg g2
          case measure => omega
          case rel => exact ⟨m + 1, by omega, by go_num, rfl⟩
end Go.Proofs.YtejbgcloblpbfaaGreatDoor
namespace Go.Proofs.YtejbgcloblpbfaaGreatDoor
open Go.RowKit
theorem olds_of {w : World} {g : Nat} {t : TypeId} {l : List Value} (a : At w g t l) : ∀ b, (some ⟨g, 0, none⟩ : Option Addr) = some b → ∀ (j : Nat) u, l[j]? = some u → w.cell? (b.add j) = some u := by
  intro b hb j u hu
  cases hb
  have ea : (⟨g, 0, none⟩ : Addr).add j = ⟨g, j, none⟩ := by unfold Addr.add; split <;> simp_all
  rw [ea, a.cell, hu]
theorem own_cells {w : World} {base n cap g : Nat} {e : TypeId} {xs : List Value} (h : w.ownsRow base e 1 (.slice (some ⟨g, 0, none⟩) n cap) n xs) :
    base ≤ g ∧ g < w.heap.size ∧ ∀ (j : Nat) u, xs[j]? = some u → w.cell? ⟨g, j, none⟩ = some u := by
  obtain ⟨hl, ⟨h0, _⟩ | ⟨g', cap', cur, hv, hb, hg, hc, _, hs, hx⟩⟩ := h
  · simp at h0
  · simp only [Value.slice.injEq, Option.some.injEq, Addr.mk.injEq] at hv
    obtain ⟨⟨rfl, _⟩, _, rfl⟩ := hv
    refine ⟨hb, heap_lt hg, fun j u hu => ?_⟩
    have hj : j < n * 1 := by rw [← hl]; exact (List.getElem?_eq_some_iff.1 hu).1
    rw [← hx, List.getElem?_take_of_lt hj] at hu
    simp [World.cell?, hg]
    simpa using hu
theorem all_v {l : List Value} {v : Bool} {L : Nat} (hl : l.length = L) (h : ∀ j, j < L → l[j]? = some (.bool v)) (m : Nat) : ∀ j, j < L + m → (l ++ List.replicate m (.bool v))[j]? = some (.bool v) := by
  intro j hj
  by_cases e : j < L
  · rw [List.getElem?_append_left (by omega)]; exact h j e
  · rw [List.getElem?_append_right (by omega), List.getElem?_replicate, if_pos (by omega)]
theorem size_alloc (w : World) (o : Obj) : (w.alloc o).heap.size = w.heap.size + 1 := by simp
theorem But.grown {b : Nat} {a w w' : World} (h : But b a w) (hg : w.grownBy w' none) : But b a w' :=
  h.trans ⟨hg.os, hg.tape, hg.output, hg.size, fun k hk _ => hg.block k hk (by simp)⟩
set_option maxRecDepth 100000 in
set_option maxHeartbeats 2000000 in
theorem flags_c {g L lo : Nat} {l : List Value} {w : World} (v : Bool) (hl : l.length = L) (hL : L ≤ 54) (ha : At w g 4 l) (hlo : lo ≤ g) :
    Calls Tryz.prog 18 #[.slice (some ⟨g, 0, none⟩) L L, .bool v] w fun x w' => ∃ h, x = .returned (.slice (some ⟨h, 0, none⟩) 3 3) ∧ Three w' lo w'.heap.size h v ∧ But g w w' := by
  obtain ⟨j0, ji, jz0, jz1, jz2⟩ := info_parts info_bool
  go_enter Tryz.func18, Tryz.ntmps18
  go_wp2_with fail
  go_loopg [5] L (fun gk i wr => ∃ (k : Nat) (l' : List Value), k + gk = L ∧ i = .int .i64 (k : Int) ∧ At wr g 4 l' ∧ l'.length = L ∧ Hid (∀ j, j < k → l'[j]? = some (.bool v)) ∧ But g w wr)
  case atStart => exact ⟨0, l, by omega, rfl, ha, hl, fun j h => by omega, But.refl _ _⟩
  case round =>
    obtain ⟨k, l', hk, rfl, a', hl', HJ, hb⟩ := hrel
    have nlt := a'.lt
    cases gk with
    | succ g1 =>
      have hz : (k : Int) < (L : Int) := by omega
      obtain ⟨u, hu⟩ : ∃ u, l'[k]? = some u := ⟨_, List.getElem?_eq_getElem (by omega)⟩
      have c0 := a'.cell k
      rw [hu] at c0
      have f0 := a'.frozen k
      go_wp2_with fail
      go_roundg g1
      case measure => omega
      case rel =>
        refine ⟨k + 1, l'.set k (.bool v), by omega, by go_num, a'.set k _, by simpa using hl', fun j h => ?_, hb.set k _⟩
        by_cases e : k = j
        · subst e; rw [List.getElem?_set_self (by omega)]
        · rw [List.getElem?_set_ne e]; exact HJ.out j (by omega)
    | zero =>
      have hz : ¬ ((k : Int) < (L : Int)) := by omega
      have hkL : k = L := by omega
      subst hkL
      go_wp2_with (first | (at_builtin; refine wpList_append_grows _ rfl (.tmp 17) (.tmp 19) 33 rfl 4 j0 (.bool false) 1 1 Tryz.underlying33 ji jz0 jz1 jz2 rfl (by decide) (some ⟨g, 0, none⟩) k k l' rfl (fun h => by cases h) (by omega) (by exact olds_of (a'.alloc _)) ⟨wr.heap.size, 0, none⟩ 1 1 [.bool v] rfl rfl (by exact row_new wr [.bool v] _) (by intro u hu; simp only [List.mem_singleton] at hu; subst hu; rfl) (by omega) (by unfold maxLen; omega) (by omega) ?_; intro v1 w2 own1 gr1; have a2 := (a'.alloc _).of_block (gr1.block g (a'.alloc _).lt (by simp)); obtain ⟨g1, c1, e1⟩ := Joins.ownsRow_form own1 (by omega); subst e1; have nlt2 := a2.lt) | (at_builtin; refine wpList_append_grows _ rfl (.tmp 21) (.tmp 28) 33 rfl 4 j0 (.bool false) 1 1 Tryz.underlying33 ji jz0 jz1 jz2 rfl (by decide) (some ⟨g, 0, none⟩) k k l' rfl (fun h => by cases h) (by omega) (by exact olds_of (a2.alloc _)) ⟨w2.heap.size, 0, none⟩ 6 6 [.bool v, .bool v, .bool v, .bool v, .bool v, .bool v] rfl rfl (by exact row_new w2 [.bool v, .bool v, .bool v, .bool v, .bool v, .bool v] _) (by intro u hu; simp only [List.mem_cons, List.not_mem_nil, or_false, or_self] at hu; subst hu; rfl) (by omega) (by unfold maxLen; omega) (by omega) ?_; intro v2 w3 own2 gr2; have a3 := (a2.alloc _).of_block (gr2.block g (a2.alloc _).lt (by simp)); obtain ⟨g2, c2, e2⟩ := Joins.ownsRow_form own2 (by omega); subst e2))
      go_wp2_with fail
      go_ret
      obtain ⟨p1, q1, r1⟩ := own_cells own1
      obtain ⟨p2, q2, r2⟩ := own_cells own2
      have hall := HJ.out
      have at3 := At.alloc_new w3 [.slice (some ⟨g, 0, none⟩) k k, .slice (some ⟨g1, 0, none⟩) (k + 1) c1, .slice (some ⟨g2, 0, none⟩) (k + 6) c2] 33
      have z1 := gr1.size
      have z2 := gr2.size
      simp only [size_alloc] at p1 p2 z1 z2
      have l3 : g < w3.heap.size := a3.lt
      refine ⟨_, rfl, ⟨fun i hi => ?_, by simp only [size_alloc]; omega⟩, (((((hb.alloc _).grown gr1).alloc _).grown gr2).alloc _)⟩
      match i, hi with
      | 0, _ => exact ⟨g, k, k, at3.cell 0, by omega, ⟨hlo, by simp only [size_alloc]; omega⟩, fun j hj => ((a3.alloc _).cell j).trans (hall j hj)⟩
      | 1, _ =>
        refine ⟨g1, k + 1, c1, at3.cell 1, by omega, ⟨by omega, by simp only [size_alloc]; omega⟩, fun j hj => ?_⟩
        refine (World.cell?_of_block (w := w2) (a := ⟨g1, j, none⟩) ?_).trans (r1 j _ (all_v hl' hall 1 j hj))
        exact (heap_alloc_old w3 _ g1 (by omega)).trans ((gr2.block g1 (by simp only [size_alloc]; omega) (by simp)).trans (heap_alloc_old _ _ _ q1))
      | 2, _ =>
        refine ⟨g2, k + 6, c2, at3.cell 2, by omega, ⟨by omega, by simp only [size_alloc]; omega⟩, fun j hj => ?_⟩
        refine (World.cell?_of_block (w := w3) (a := ⟨g2, j, none⟩) ?_).trans (r2 j _ (all_v hl' hall 6 j hj))
        exact heap_alloc_old _ _ _ q2
end Go.Proofs.YtejbgcloblpbfaaGreatDoor
namespace Go.Proofs.YtejbgcloblpbfaaGreatDoor
open K (Nm Ex Do)
theorem ev_c : ∀ e : Ex, EvDoes e
  | .num v => ev_num v
  | .use n => ev_use n
  | .get p n e => ev_get p n e (ev_c e)
  | .op p o l r => ev_op p o l r (ev_c l) (ev_c r)
  | .cho p q y n => ev_cho p q y n (ev_c q) (ev_c y) (ev_c n)
  | .none => fun _ _ _ _ _ _ h => by unfold V.wfE at h; exact h.elim
mutual
theorem rd_c : ∀ d : Do, RdDoes d
  | .set p n e => rd_set p n e (ev_c e)
  | .put p n i e => rd_put p n i e (ev_c i) (ev_c e)
  | .ifs p q y n => rd_if p q y n (ev_c q) (rds_of y (rdl_c y)) (rds_of n (rdl_c n))
  | .fors p n r l => rd_for p n r l (ev_c r) (rds_of l (rdl_c l))
  | .none => fun _ _ _ _ _ _ _ _ _ h _ => by unfold V.wfD at h; exact h.elim
theorem rdl_c : ∀ l : List Do, ∀ d ∈ l, RdDoes d
  | [], _, h => by cases h
  | d :: l, d', h => by
    rcases List.mem_cons.1 h with h | h
    · rw [h]; exact rd_c d
    · exact rdl_c l d' h
end
theorem rds_c (l : List Do) : RdsDoes l := rds_of l (rdl_c l)
end Go.Proofs.YtejbgcloblpbfaaGreatDoor
namespace Go.Proofs.YtejbgcloblpbfaaGreatDoor
open Go.RowKit
open K (Nm Ex Do)
theorem info_rword : (Tryz.prog.info? 121).map (fun i => (i.zero, i.size, i.bytes)) = some (some (.int .i64 0), 1, 8) := by kernel_rfl
theorem info_rint : (Tryz.prog.info? 3).map (fun i => (i.zero, i.size, i.bytes)) = some (some (.int .i64 0), 1, 8) := by kernel_rfl
def Built (t : Array Value) : Prop := ∀ s : Value, Array.foldl (fun cs x => cs.setIfInBounds (1 + x.snd) x.fst) (Tryz.zeroCells120.setIfInBounds 0 s) t.zipIdx 0 256 = #[s] ++ t
theorem is_built : Built ((((((((Tryz.zeroCells117.setIfInBounds 43 (.func (.func 82) #[] #[])).setIfInBounds 45 (.func (.func 83) #[] #[])).setIfInBounds 42 (.func (.func 84) #[] #[])).setIfInBounds 47 (.func (.func 85) #[] #[])).setIfInBounds 38 (.func (.func 86) #[] #[])).setIfInBounds 94 (.func (.func 87) #[] #[])).setIfInBounds 60 (.func (.func 88) #[] #[])).setIfInBounds 61 (.func (.func 89) #[] #[])) := by
  intro s
  kernel_rfl
theorem made_list (z : Value) (n : Nat) : madeCells #[z] n = (List.replicate n z).toArray := by
  apply Array.toList_inj.1
  rw [toList_madeCells_one]
set_option maxRecDepth 100000 in
set_option maxHeartbeats 2000000 in
theorem operations_b (w : World) : Calls Tryz.prog 63 #[] w fun x w' => (∃ t, (IsTab t ∧ Built t) ∧ x = .returned (.agg t)) ∧ Below w.heap.size w w' := by
  have h0 := is_tab
  have hb0 := is_built
  obtain ⟨tb, htb⟩ : ∃ tb, tb = (((((((Tryz.zeroCells117.setIfInBounds 43 (.func (.func 82) #[] #[])).setIfInBounds 45 (.func (.func 83) #[] #[])).setIfInBounds 42 (.func (.func 84) #[] #[])).setIfInBounds 47 (.func (.func 85) #[] #[])).setIfInBounds 38 (.func (.func 86) #[] #[])).setIfInBounds 94 (.func (.func 87) #[] #[])).setIfInBounds 60 (.func (.func 88) #[] #[])).setIfInBounds 61 (.func (.func 89) #[] #[]) := ⟨_, rfl⟩
  rw [← htb] at h0 hb0
  have hst := run_storeCells_new (P := Tryz.prog) w 117 Tryz.zeroCells117 tb (by rw [h0.size]; exact tabType) (by rw [h0.size]; kernel_rfl) h0.one
  have hl := congrArg Array.toList htb
  simp only [Array.toList_setIfInBounds] at hl
  rw [hl] at hst
  go_enter Tryz.func63, Tryz.ntmps63
  go_wp2_with fail
  rw [← htb]
  clear hst hl htb
  exact bodyPost_ret (v := .agg tb) (results_cell_row Tryz.results63 _ _ w.heap.size 117 tb (0, 0) _ rfl (heap_alloc_last w _) Tryz.underlying117 rfl (by rw [h0.size]; exact tabType)) rfl ⟨⟨tb, ⟨h0, hb0⟩, rfl⟩, (Below.refl _ _).alloc (Nat.le_refl _) _⟩
theorem rat_of {w : World} {g N : Nat} {tb : Array Value} (htb : IsTab tb) (ha : At w g 121 (List.replicate (N + 2) (.int .i64 0))) (hN : N + 2 ≤ 60) :
    RAt (w.alloc (.cells (#[.slice (some ⟨g, 0, none⟩) (N + 2) (N + 2)] ++ tb) 120 (0, 0))) w.heap.size g tb (List.replicate (N + 2) 0) := by
  refine ⟨?_, ?_, htb, by rw [List.length_replicate]; exact hN⟩
  · rw [List.length_replicate]
    have := At.alloc_new w (.slice (some ⟨g, 0, none⟩) (N + 2) (N + 2) :: tb.toList) 120
    have e : (Value.slice (some ⟨g, 0, none⟩) (N + 2) (N + 2) :: tb.toList).toArray = #[.slice (some ⟨g, 0, none⟩) (N + 2) (N + 2)] ++ tb := by
      apply Array.toList_inj.1
      simp
    rw [e] at this
    exact this
  · rw [List.map_replicate]
    exact ha.alloc _
theorem made_at (w : World) (n : Nat) (t : TypeId) : At (w.alloc (.cells (madeCells #[.int .i64 0] n) t (0, 0))) w.heap.size t (List.replicate n (.int .i64 0)) := by
  rw [made_list]
  exact At.alloc_new w _ t
theorem but_lower {b B : Nat} {w w' : World} (h : But b w w') (hB : B ≤ b) (hs : B ≤ w.heap.size) : Below B w w' :=
  ⟨h.os, h.tape, h.output, h.size, fun k hk => h.block k (by omega) (by omega)⟩
theorem V.fill_step {ms : List Int} {N k : Nat} (hN : ms.length = N) (hk : k < N) (m : Nat) : (ms.take k ++ List.replicate (m - k) 0).set k (ms.getD k 0) = ms.take (k + 1) ++ List.replicate (m - (k + 1)) 0 ∨ m ≤ k := by
  by_cases hm : m ≤ k
  · exact Or.inr hm
  · refine Or.inl ?_
    have hl : (ms.take k).length = k := by rw [List.length_take]; omega
    rw [List.set_append_right _ _ (by omega), hl, Nat.sub_self, show m - k = (m - (k + 1)) + 1 by omega, List.replicate_succ, List.set_cons_zero, List.take_succ_eq_append_getElem (by omega), List.append_assoc, List.getD_eq_getElem?_getD, List.getElem?_eq_getElem (by omega)]
    rfl
set_option maxRecDepth 100000 in
set_option maxHeartbeats 4000000 in
theorem prog_c (N : Nat) (hN : N ≤ 54) (ms : List Int) (hms : ms.length = N) (l : List Do) (hwf : V.wfL (N + 2) l) (na : Option Addr) (nn nc : Nat) (da : Option Addr) (dn dc : Nat) (aM : Option Addr) (cM : Nat) (us : List Value) (w : World)
    (dr : DRow (fun k => k < w.heap.size) w (.slice da dn dc) us) (de : Each (fun k => k < w.heap.size) w l us)
    (hM : ∀ (j : Nat) u, ms[j]? = some u → ∃ gm o, aM = some ⟨gm, o, none⟩ ∧ gm < w.heap.size ∧ w.cell? ⟨gm, o + j, none⟩ = some (.int .i64 u)) :
    Calls Tryz.prog 47 #[.agg #[.slice na nn nc, .int .i64 (N : Int), .slice da dn dc], .slice aM N cM] w fun x w' => (∃ g, x = .returned (.slice (some ⟨g, 0, none⟩) N N) ∧ w.heap.size ≤ g ∧ At w' g 3 (((V.rds l (ms ++ [0, 0])).take N).map fun n => .int .i64 n)) ∧ Below w.heap.size w w' := by
  have hop := fun (w : World) => operations_b w
  have hmk := run_make_row' (P := Tryz.prog) 114 121 (.int .i64 0) 8 Tryz.underlying114 info_rword rfl .i64 .i64 (N + 2) (by omega) (by omega)
  have hmk2 := run_make_row' (P := Tryz.prog) 32 3 (.int .i64 0) 8 Tryz.underlying32 info_rint rfl .i64 .i64 N (by omega) (by omega)
  have ecast : ((N + 2 : Nat) : Int) = (N : Int) + 2 := by omega
  rw [ecast] at hmk
  have hwr : IntKind.i64.wrap ((N : Int) + 2) = (N : Int) + 2 := k64 _ (by omega)
  have HM := hide hM
  have HW := hide hwf
  have HDR := hide dr
  have HDE := hide de
  clear hM hwf dr de
  go_enter Tryz.func47, Tryz.ntmps47
  go_upto_region 1 with fail
  have bx := At.alloc_new w [.slice na nn nc, .int .i64 (N : Int), .slice da dn dc] 84
  have B0 : Below w.heap.size w (w.alloc (.cells #[.slice na nn nc, .int .i64 (N : Int), .slice da dn dc] 84 (0, 0))) := (Below.refl _ _).alloc (Nat.le_refl _) _
  generalize w.alloc (.cells #[.slice na nn nc, .int .i64 (N : Int), .slice da dn dc] 84 (0, 0)) = w0 at *
  have hlL := bx.lt
  generalize hLL : w.heap.size = L at *
  go_cut [5] from 10 to 16 (fun q wr => ∃ b g tb, q = .pointer (some ⟨b, 0, none⟩) ∧ RAt wr b g tb (List.replicate (N + 2) 0) ∧ Below w0.heap.size w0 wr ∧ w0.heap.size ≤ g)
  case first =>
    have KS : ∀ w' : World, Below w0.heap.size w0 w' → w'.cell? ⟨L, 1, none⟩ = some (.int .i64 (N : Int)) := fun w' hb => (hb.cell (p := ⟨L, 1, none⟩) hlL).trans (bx.cell 1)
    have Bd : Below w0.heap.size w0 w0.drew := ⟨rfl, rfl, rfl, Nat.le_refl _, fun _ _ => rfl⟩
    have bm := (Below.refl w0.heap.size w0).alloc (Nat.le_refl _) (.cells (madeCells #[.int .i64 0] (N + 2)) 121 (0, 0))
    have Bm : Below w0.heap.size w0 (w0.alloc (.cells (madeCells #[.int .i64 0] (N + 2)) 121 (0, 0))).drew := ⟨bm.os, bm.tape, bm.output, bm.size, bm.block⟩
    go_region_held (fun (w' : World) => w'.cell? ⟨L, 1, none⟩ = some (.int .i64 (N : Int))) (first | exact KS _ Bm | exact KS _ Bd | exact KS _ B1 | exact KS _ (B1.alloc B1.size _) | exact KS _ ((B1.alloc B1.size _).alloc (Nat.le_trans B1.size (by simp)) _)) (first | (go_at_call 63; refine (hop _).mono ?_; rintro z w1 ⟨⟨tb, ⟨htb, hbt⟩, rfl⟩, hb1⟩; have hsz := htb.size; first | (have B1 := Bd.trans (hb1.mono Bd.size)) | (have B1 := Bm.trans (hb1.mono Bm.size))))
    all_goals
      rw [hbt]
      go_wp2_with fail
      go_meet
      case rel =>
        first
        | exact ⟨w1.heap.size, w0.heap.size, tb, rfl, rat_of htb ((made_at w0 (N + 2) 121).of_block (hb1.block _ (by simp))) (by omega), B1.alloc B1.size _, Nat.le_refl _⟩
        | exact ⟨w1.heap.size + 1, w1.heap.size, tb, rfl, by have := rat_of htb (made_at w1 (N + 2) 121) (by omega : N + 2 ≤ 60); simpa using this, (B1.alloc B1.size _).alloc (Nat.le_trans B1.size (by simp)) _, B1.size⟩
  case rest =>
    obtain ⟨b, g, tb, rfl, r1, B1, hg⟩ := hcut
    obtain ⟨wX, rfl⟩ : ∃ wX : World, wX = wc := ⟨_, rfl⟩
    have zX := B1.size
    have lb := r1.cells.lt
    have lg := r1.words.lt
    have hne := r1.ne
    have bxX := bx.of_block (B1.block _ hlL)
    clear hop hmk hwr ecast
    go_wp2_with fail
    go_loopg [19] N (fun gk i wr => ∃ k : Nat, k + gk = N ∧ i = .int .i64 (k : Int) ∧ RAt wr b g tb (ms.take k ++ List.replicate (N + 2 - k) 0) ∧ But g wX wr)
    case atStart => exact ⟨0, by omega, rfl, by simpa using r1, But.refl _ _⟩
    case round =>
      obtain ⟨k, hk, rfl, rr, Bk⟩ := hrel
      have zk := Bk.size
      cases gk with
      | succ g1 =>
        have hz : (k : Int) < (N : Int) := by omega
        obtain ⟨u, hu⟩ : ∃ u, ms[k]? = some u := ⟨_, List.getElem?_eq_getElem (by omega)⟩
        obtain ⟨gm, o, rfl, hgm, hcm⟩ := HM.out k u hu
        have vm : wr.cell? ⟨gm, o + k, none⟩ = some (.int .i64 u) := (World.cell?_of_block (a := ⟨gm, o + k, none⟩) (Bk.block gm (by omega) (by omega))).trans (((B1.cell (p := ⟨gm, o + k, none⟩) (show gm < w0.heap.size by omega)).trans (B0.cell (p := ⟨gm, o + k, none⟩) hgm)).trans hcm)
        have hlen : (ms.take k ++ List.replicate (N + 2 - k) (0 : Int)).length = N + 2 := by rw [List.length_append, List.length_take, List.length_replicate]; omega
        have c0 := rr.cells.cell 0
        simp only [List.getElem?_cons_zero] at c0
        rw [hlen] at c0
        have hz2 : (k : Int) < (N : Int) + 2 := by omega
        have cw := rr.word (k := k) (by rw [hlen]; omega)
        have fw := rr.words.frozen k
        have rs := rr.set hne k u
        have e := (V.fill_step hms (show k < N by omega) (N + 2)).resolve_right (by omega)
        rw [List.getD_eq_getElem?_getD, hu, Option.getD_some] at e
        rw [e] at rs
        have lb' := rr.cells.lt
        clear e
        go_wp2_with fail
        go_roundg g1
        case measure => omega
        case rel => exact ⟨k + 1, by omega, by go_num, rs, Bk.set k _⟩
      | zero =>
        have hz : ¬ ((k : Int) < (N : Int)) := by omega
        have e : ms.take k ++ List.replicate (N + 2 - k) 0 = ms ++ [0, 0] := by rw [List.take_of_length_le (by omega), show N + 2 - k = 2 by omega]; rfl
        rw [e] at rr
        obtain ⟨wY, rfl⟩ : ∃ wY : World, wY = wr := ⟨_, rfl⟩
        have nLg : L ≠ g := by omega
        have bxY := bxX.of_block (Bk.block _ bxX.lt nLg)
        have p2 := bxY.cell 2
        simp only [List.getElem?_cons_zero, List.getElem?_cons_succ] at p2
        have kp : ∀ q, q < L → q < w.heap.size → wY.heap[q]? = w.heap[q]? := fun q h1 h2 => (Bk.block q (by omega) (by omega)).trans ((B1.block q (by omega)).trans (B0.block q h1))
        have hcall := rds_c l (fun k => k < L) wY b g tb (ms ++ [0, 0]) (.slice da dn dc) us rr (HDR.out.keep kp) (HDE.out.keep kp) (by rw [List.length_append, hms]; exact HW.out) (fun q hq => by omega)
        have hW1 : (V.rds l (ms ++ [0, 0])).length = N + 2 := by rw [V.rds_len, List.length_append, hms]; rfl
        clear HDR HDE HM e rr
        generalize hWW : V.rds l (ms ++ [0, 0]) = W1 at *
        go_wp2_with fail
        refine hcall.mono ?_
        rintro x w5 ⟨rfl, r5, hb5⟩
        have bx5 := bxY.of_block (hb5.block _ bxY.lt nLg)
        have p1 := bx5.cell 1
        simp only [List.getElem?_cons_zero, List.getElem?_cons_succ] at p1
        have z5 := hb5.size
        have aR := made_at w5 N 3
        have l5b := r5.cells.lt
        have l5g := r5.words.lt
        have BW5 : Below L w w5 := (B0.trans (B1.mono (by omega))).trans ((but_lower (Bk.trans hb5) (show L ≤ g by omega) (show L ≤ wX.heap.size by omega)))
        have BW6 := BW5.alloc (show L ≤ w5.heap.size by omega) (.cells (madeCells #[.int .i64 0] N) 3 (0, 0))
        have r6 := r5.below ((Below.refl _ _).alloc (Nat.le_refl _) (.cells (madeCells #[.int .i64 0] N) 3 (0, 0)))
        go_wp2_with fail
        generalize w5.alloc (.cells (madeCells #[.int .i64 0] N) 3 (0, 0)) = w6 at *
        generalize hG2 : w5.heap.size = G2 at *
        go_loopg [41] N (fun gk i wr => ∃ k : Nat, k + gk = N ∧ i = .int .i64 (k : Int) ∧ At wr G2 3 ((W1.take k ++ List.replicate (N - k) 0).map fun n => .int .i64 n) ∧ But G2 w6 wr)
        case atStart => exact ⟨0, by omega, rfl, by simpa using aR, But.refl _ _⟩
        case round =>
          obtain ⟨j, hj, rfl, aJ, Bj⟩ := hrel
          have lJ := aJ.lt
          cases gk with
          | succ g1 =>
            have hy : (j : Int) < (N : Int) := by omega
            have rj := r6.keep (Bj.block b r6.cells.lt (by omega)) (Bj.block g r6.words.lt (by omega))
            have c0 := rj.cells.cell 0
            simp only [List.getElem?_cons_zero] at c0
            rw [hW1] at c0
            have hz2 : (j : Int) < (N : Int) + 2 := by omega
            have cw := rj.word (k := j) (by omega)
            have lj := rj.cells.lt
            obtain ⟨u, hu⟩ : ∃ u, W1[j]? = some u := ⟨_, List.getElem?_eq_getElem (by omega)⟩
            rw [List.getD_eq_getElem?_getD, hu, Option.getD_some] at cw
            have hJl : ((W1.take j ++ List.replicate (N - j) (0 : Int)).map fun n => Value.int .i64 n)[j]? = some (.int .i64 0) := by
              rw [List.getElem?_map, List.getElem?_append_right (by rw [List.length_take]; omega), List.length_take, List.getElem?_replicate, if_pos (by omega)]
              rfl
            have cj := (aJ.cell j).trans hJl
            have fj := aJ.frozen j
            have asj := aJ.set j (.int .i64 u)
            have e : ((W1.take j ++ List.replicate (N - j) (0 : Int)).map fun n => Value.int .i64 n).set j (.int .i64 u) = (W1.take (j + 1) ++ List.replicate (N - (j + 1)) 0).map fun n => .int .i64 n := by
              rw [← List.map_set]
              congr 1
              have hl : (W1.take j).length = j := by rw [List.length_take]; omega
              rw [List.set_append_right _ _ (by omega), hl, Nat.sub_self, show N - j = (N - (j + 1)) + 1 by omega, List.replicate_succ, List.set_cons_zero, List.take_add_one, hu, List.append_assoc]
              rfl
            rw [e] at asj
            clear e hJl
            go_wp2_with fail
            go_roundg g1
            case measure => omega
            case rel => exact ⟨j + 1, by omega, by go_num, asj, Bj.set j _⟩
          | zero =>
            have hy : ¬ ((j : Int) < (N : Int)) := by omega
            have ej : j = N := by omega
            subst ej
            rw [Nat.sub_self, List.replicate_zero, List.append_nil] at aJ
            go_wp2_with fail
            go_ret
            exact ⟨⟨G2, rfl, by omega, by rw [← List.map_take]; exact aJ⟩, BW6.trans (but_lower Bj (by omega) (by have := BW6.size; have := r6.cells.lt; omega))⟩
end Go.Proofs.YtejbgcloblpbfaaGreatDoor
namespace Go.Proofs.YtejbgcloblpbfaaGreatDoor
open R (Nd)
open K (Nm Ex Do)
theorem va_c (N : Nat) (nodes : List Nd) : ∀ e : Ex, VaDoes N nodes e
  | .num v => va_num N nodes v
  | .use n => va_use N nodes n
  | .get p n e => va_get N nodes p n e (va_c N nodes e)
  | .op p o l r => va_op N nodes p o l r (va_c N nodes l) (va_c N nodes r)
  | .cho p q y n => va_cho N nodes p q y n (va_c N nodes q) (va_c N nodes y) (va_c N nodes n)
  | .none => fun _ _ _ _ _ _ _ _ _ _ _ _ _ _ _ h => by unfold NE at h; exact h.elim
mutual
theorem st_c (N : Nat) (nodes : List Nd) : ∀ d : Do, StDoes N nodes d
  | .set p n e => st_set N nodes p n e (va_c N nodes e)
  | .put p n i e => st_put N nodes p n i e (va_c N nodes i) (va_c N nodes e)
  | .ifs p q y n => st_if N nodes p q y n (va_c N nodes q) (all_of N nodes y (stl_c N nodes y)) (all_of N nodes n (stl_c N nodes n))
  | .fors p n r l => st_for N nodes p n r l (va_c N nodes r) (all_of N nodes l (stl_c N nodes l))
  | .none => fun _ _ _ _ _ _ _ _ _ _ _ _ h => by unfold ND at h; exact h.elim
theorem stl_c (N : Nat) (nodes : List Nd) : ∀ l : List Do, ∀ d ∈ l, StDoes N nodes d
  | [], _, h => by cases h
  | d :: l, d', h => by
    rcases List.mem_cons.1 h with h | h
    · rw [h]; exact st_c N nodes d
    · exact stl_c N nodes l d' h
end
theorem all_c (N : Nat) (nodes : List Nd) (l : List Do) : AllDoes N nodes l := all_of N nodes l (stl_c N nodes l)
end Go.Proofs.YtejbgcloblpbfaaGreatDoor
namespace Go.Proofs.YtejbgcloblpbfaaGreatDoor
open Go.RowKit
open R (Nd)
open K (Nm Ex Do)
theorem size_alloc' (w : World) (o : Obj) : (w.alloc o).heap.size = w.heap.size + 1 := by simp
theorem own_at {w : World} {base n : Nat} {v : Value} {l : List Int} (h : w.ownsRow base 3 1 v n (ints l)) (hn : 0 < n) : ∃ g cap rest, v = .slice (some ⟨g, 0, none⟩) n cap ∧ base ≤ g ∧ At w g 3 ((l.map fun n => .int .i64 n) ++ rest) := by
  obtain ⟨hx, ⟨_, h0⟩ | ⟨g, cap, cur, hv, hb, hg, hc, _, hs, ht⟩⟩ := h
  · omega
  · refine ⟨g, cap, cur.toList.drop n, hv, hb, ?_⟩
    unfold At
    have e : (l.map fun n => Value.int .i64 n) ++ cur.toList.drop n = cur.toList := by
      have : (l.map fun n => Value.int .i64 n) = cur.toList.take n := by
        have h2 := ht
        rw [Nat.mul_one] at h2
        exact h2.symm
      rw [this, List.take_append_drop]
    rw [hg, e]
set_option maxRecDepth 100000 in
set_option maxHeartbeats 2000000 in
theorem refrun_pos (N : Nat) (hN : N ≤ 54) (h0 : 0 < N) (nodes : List Nd) (l : List Do) (ms : List Int) (hms : ms.length = N) (w : World) (b : Nat) (a : Option Addr) (c : Nat) (ks : List Nat) (gm o cM : Nat) (hP : PAt w w.heap.size b nodes) (hn : NDs N nodes l ks)
    (hd : w.cell? ⟨b, 8, none⟩ = some (.slice a ks.length c)) (hks : ∀ (j : Nat) u, ks[j]? = some u → ∃ q, a = some ⟨q, 0, none⟩ ∧ q < w.heap.size ∧ w.cell? ⟨q, 0 + j, none⟩ = some (.int .i64 (u : Int))) (h100 : ks.length ≤ 9223372036854775807)
    (hgm : gm < w.heap.size) (hM : ∀ (j : Nat) u, ms[j]? = some u → w.cell? ⟨gm, o + j, none⟩ = some (.int .i64 u)) :
    Calls Tryz.prog 23 #[P b, .slice (some ⟨gm, o, none⟩) N cM] w fun x w' => (∃ g cR rest, x = .returned (.slice (some ⟨g, 0, none⟩) N cR) ∧ w.heap.size ≤ g ∧ At w' g 3 ((((V.rds l (ms ++ [0, 0])).take N).map fun n => .int .i64 n) ++ rest)) ∧ Below w.heap.size w w' := by
  obtain ⟨j0, ji, jz0, jz1, jz2⟩ := info_parts info_int
  have hmk := run_make_row' (P := Tryz.prog) 32 3 (.int .i64 0) 8 Tryz.underlying32 info_int rfl .i64 .i64 2 (by omega) (by omega)
  have e2 : ((2 : Nat) : Int) = 2 := rfl
  rw [e2] at hmk
  have aC := made_at w 2 3
  have bS := At.alloc_new (w.alloc (.cells (madeCells #[.int .i64 0] 2) 3 (0, 0))) [.slice none 0 0, .slice (some ⟨w.heap.size, 0, none⟩) 2 2] 100
  have B0 : Below w.heap.size w ((w.alloc (.cells (madeCells #[.int .i64 0] 2) 3 (0, 0))).alloc (.cells #[.slice none 0 0, .slice (some ⟨w.heap.size, 0, none⟩) 2 2] 100 (0, 0))) := ((Below.refl _ _).alloc (Nat.le_refl _) _).alloc (by simp) _
  have aC1 := aC.alloc (.cells #[.slice none 0 0, .slice (some ⟨w.heap.size, 0, none⟩) 2 2] 100 (0, 0))
  have HC := hide aC1
  rw [size_alloc'] at bS
  have HS := hide bS
  have hlen : (ints ms).length = N * 1 := by unfold ints; rw [List.length_map, Nat.mul_one]; exact hms
  have hone : ∀ u ∈ ints ms, u.oneCell' = true := by
    intro u hu
    unfold ints at hu
    obtain ⟨x, _, rfl⟩ := List.mem_map.1 hu
    rfl
  have hsrc : ∀ W : World, Below w.heap.size w W → ∀ (j : Nat) u, (ints ms)[j]? = some u → W.cell? ((⟨gm, o, none⟩ : Addr).add j) = some u := by
    intro W hb j u hu
    unfold ints at hu
    rw [List.getElem?_map] at hu
    cases hx : ms[j]? with
    | none => rw [hx] at hu; simp at hu
    | some x =>
      rw [hx] at hu
      have ea : (⟨gm, o, none⟩ : Addr).add j = ⟨gm, o + j, none⟩ := by unfold Addr.add; split <;> simp_all
      rw [ea, hb.cell (p := ⟨gm, o + j, none⟩) hgm, hM j x hx]
      simpa using hu
  have nb1 : w.heap.size + 1 ≠ b := by have := hP.lt; omega
  have nb2 : b ≠ w.heap.size + 1 := by omega
  go_enter Tryz.func23, Tryz.ntmps23
  go_wp2_with (at_builtin; refine wpList_append_grows _ rfl (.tmp 13) (.tmp 14) 32 rfl 3 j0 (.int .i64 0) 1 8 Tryz.underlying32 ji jz0 jz1 jz2 rfl (by decide) none 0 0 [] rfl (fun _ => ⟨rfl, rfl⟩) rfl (by intro _ h; cases h) ⟨gm, o, none⟩ N cM (ints ms) rfl hlen (by exact hsrc _ B0) hone (by omega) (by unfold maxLen; omega) (by omega) ?_; intro v1 w2 own1 gr1; have zz := gr1.size; simp only [size_alloc'] at zz own1; obtain ⟨gM, cR, rest, hv1, hgM, aM⟩ := own_at (by simpa using own1) h0; subst hv1; have bS2 := HS.out.of_block (gr1.block _ HS.out.lt (by simp)); have s0 := bS2.cell 0; have s1 := bS2.cell 1; simp only [List.getElem?_cons_zero, List.getElem?_cons_succ] at s0 s1; have f0 := bS2.frozen 0; have sl := bS2.lt; have B2 : Below w.heap.size w w2 := B0.grown gr1 (by simp only [size_alloc']; omega) (fun k hk => by simp at hk); have d8 := (B2.cell (p := ⟨b, 8, none⟩) hP.lt).trans hd)
  have aC2 := HC.out.of_block (gr1.block _ HC.out.lt (by simp))
  have B3 := B2.setCell (p := ⟨w.heap.size + 1, 0, none⟩) (show w.heap.size ≤ w.heap.size + 1 by omega) (.slice (some ⟨gM, 0, none⟩) N cR)
  have A3 : Left2 (w2.setCell ⟨w.heap.size + 1, 0, none⟩ (.slice (some ⟨gM, 0, none⟩) N cR)) w.heap.size (w.heap.size + 1) gM w.heap.size N (ms ++ [0, 0]) := by
    refine ⟨?_, by rw [List.length_append, hms]; rfl⟩
    rw [List.take_left' hms, List.drop_left' hms]
    refine ⟨⟨some ⟨gM, 0, none⟩, cR, ?_, fun _ => rfl⟩, fun _ => ⟨rest, ?_⟩, ?_, ⟨by omega, by omega, Nat.le_refl _⟩, ⟨fun _ => ⟨by omega, by omega⟩, by omega⟩, ?_⟩
    · rw [hms]; exact bS2.set 0 _
    · exact aM.set_other (a := ⟨w.heap.size + 1, 0, none⟩) (show gM ≠ w.heap.size + 1 by omega) _
    · exact aC2.set_other (a := ⟨w.heap.size + 1, 0, none⟩) (show w.heap.size ≠ w.heap.size + 1 by omega) _
    · have := aM.lt
      simpa [World.setCell] using this
  have hall := all_c N nodes l _ w.heap.size b (w.heap.size + 1) gM w.heap.size (ms ++ [0, 0]) a 0 c ks (hP.keep B3) A3 hN B3.size hn (fun j u hu => by
    obtain ⟨q, e1, e2, e3⟩ := hks j u hu
    exact ⟨q, e1, e2, (B3.cell (p := ⟨q, 0 + j, none⟩) e2).trans e3⟩) h100
  have hW1 : (V.rds l (ms ++ [0, 0])).length = N + 2 := by rw [V.rds_len, List.length_append, hms]; rfl
  generalize hWW : V.rds l (ms ++ [0, 0]) = W1 at *
  refine hall.mono ?_
  rintro x w5 ⟨rfl, h5, hb5⟩
  obtain ⟨aM', cM', hs5, ha5⟩ := h5.at_.cells
  have hML : (W1.take N).length = N := by rw [List.length_take]; omega
  have sa := ha5 (by omega)
  subst sa
  rw [hML] at hs5
  have q0 := hs5.cell 0
  simp only [List.getElem?_cons_zero] at q0
  have ql := hs5.lt
  obtain ⟨rest5, m5⟩ := h5.at_.mem (by omega)
  go_wp2_with fail
  go_ret
  refine ⟨⟨gM, cM', rest5, rfl, by omega, ?_⟩, B3.trans (hb5.low (by omega) (Nat.le_refl _) B3.size)⟩
  first | exact m5 | (rw [hWW]; exact m5) | (rw [← List.map_take]; exact m5)
end Go.Proofs.YtejbgcloblpbfaaGreatDoor
namespace Go.Proofs.YtejbgcloblpbfaaGreatDoor
open Go.RowKit
open R (Nd)
open K (Nm Ex Do)
theorem run_append_zero (W : World) (ad : Addr) (c : Nat) :
    (Builtin.append_ #[32, 32] 32 #[.slice none 0 0, .slice (some ad) 0 c]).run Tryz.prog W = .ok (.slice none 0 0) W := by
  simp [Builtin.append_, go_sem]
set_option maxRecDepth 100000 in
set_option maxHeartbeats 2000000 in
theorem refrun_zero (nodes : List Nd) (l : List Do) (w : World) (b : Nat) (a : Option Addr) (c : Nat) (ks : List Nat) (aM : Option Addr) (cM : Nat) (hcM : aM = none → cM = 0) (hP : PAt w w.heap.size b nodes) (hn : NDs 0 nodes l ks)
    (hd : w.cell? ⟨b, 8, none⟩ = some (.slice a ks.length c)) (hks : ∀ (j : Nat) u, ks[j]? = some u → ∃ q, a = some ⟨q, 0, none⟩ ∧ q < w.heap.size ∧ w.cell? ⟨q, 0 + j, none⟩ = some (.int .i64 (u : Int))) (h100 : ks.length ≤ 9223372036854775807) :
    Calls Tryz.prog 23 #[P b, .slice aM 0 cM] w fun x w' => (∃ aR cR, x = .returned (.slice aR 0 cR)) ∧ Below w.heap.size w w' := by
  obtain ⟨j0, ji, jz0, jz1, jz2⟩ := info_parts info_int
  have hmk := run_make_row' (P := Tryz.prog) 32 3 (.int .i64 0) 8 Tryz.underlying32 info_int rfl .i64 .i64 2 (by omega) (by omega)
  have e2 : ((2 : Nat) : Int) = 2 := rfl
  rw [e2] at hmk
  have aC := made_at w 2 3
  have bS := At.alloc_new (w.alloc (.cells (madeCells #[.int .i64 0] 2) 3 (0, 0))) [.slice none 0 0, .slice (some ⟨w.heap.size, 0, none⟩) 2 2] 100
  have B0 : Below w.heap.size w ((w.alloc (.cells (madeCells #[.int .i64 0] 2) 3 (0, 0))).alloc (.cells #[.slice none 0 0, .slice (some ⟨w.heap.size, 0, none⟩) 2 2] 100 (0, 0))) := ((Below.refl _ _).alloc (Nat.le_refl _) _).alloc (by simp) _
  have aC1 := aC.alloc (.cells #[.slice none 0 0, .slice (some ⟨w.heap.size, 0, none⟩) 2 2] 100 (0, 0))
  rw [size_alloc'] at bS
  have nb1 : w.heap.size + 1 ≠ b := by have := hP.lt; omega
  have nb2 : b ≠ w.heap.size + 1 := by omega
  have d8 := (B0.cell (p := ⟨b, 8, none⟩) hP.lt).trans hd
  have s0 := bS.cell 0
  have s1 := bS.cell 1
  simp only [List.getElem?_cons_zero, List.getElem?_cons_succ] at s0 s1
  have f0 := bS.frozen 0
  have B3 := B0
  have A3 : Left2 ((w.alloc (.cells (madeCells #[.int .i64 0] 2) 3 (0, 0))).alloc (.cells #[.slice none 0 0, .slice (some ⟨w.heap.size, 0, none⟩) 2 2] 100 (0, 0))) w.heap.size (w.heap.size + 1) w.heap.size w.heap.size 0 [0, 0] := by
    refine ⟨⟨⟨none, 0, bS, fun h => by simp at h⟩, fun h => by simp at h, aC1, ⟨by omega, by omega, by omega⟩, ⟨fun h => by simp at h, by omega⟩, ?_⟩, rfl⟩
    exact aC1.lt
  have hall := all_c 0 nodes l _ w.heap.size b (w.heap.size + 1) w.heap.size w.heap.size [0, 0] a 0 c ks (hP.keep B3) A3 (by omega) B3.size hn (fun j u hu => by
    obtain ⟨q, e1, e2, e3⟩ := hks j u hu
    exact ⟨q, e1, e2, (B3.cell (p := ⟨q, 0 + j, none⟩) e2).trans e3⟩) h100
  have HA := hide A3
  clear A3
  cases aM with
  | none =>
    have ec := hcM rfl
    subst ec
    go_enter Tryz.func23, Tryz.ntmps23
    go_wp2_with (at_builtin; refine wpList_append_own_none rfl (.tmp 13) (.tmp 14) 32 rfl 0 3 j0 1 Tryz.underlying32 ji (.slice none 0 0) 0 [] rfl (World.ownsRow_nil _ 0 _ 1) (by rfl) ?_)
    refine hall.mono ?_
    rintro x w5 ⟨rfl, h5, hb5⟩
    obtain ⟨aM', cM', hs5, _⟩ := h5.at_.cells
    have q0 := hs5.cell 0
    simp only [List.getElem?_cons_zero] at q0
    rw [show ((V.rds l [0, 0]).take 0).length = 0 from rfl] at q0
    have ql := hs5.lt
    go_wp2_with fail
    go_ret
    exact ⟨⟨aM', cM', rfl⟩, B3.trans (hb5.low (Nat.le_refl _) (Nat.le_refl _) B3.size)⟩
  | some ad =>
    have hap : ∀ W : World, (Builtin.append_ #[32, 32] 32 #[.slice none 0 0, .slice (some ad) 0 cM]).run Tryz.prog W = .ok (.slice none 0 0) W := fun W => run_append_zero W ad cM
    go_enter Tryz.func23, Tryz.ntmps23
    go_wp2_with fail
    refine hall.mono ?_
    rintro x w5 ⟨rfl, h5, hb5⟩
    obtain ⟨aM', cM', hs5, _⟩ := h5.at_.cells
    have q0 := hs5.cell 0
    simp only [List.getElem?_cons_zero] at q0
    rw [show ((V.rds l [0, 0]).take 0).length = 0 from rfl] at q0
    have ql := hs5.lt
    go_wp2_with fail
    go_ret
    exact ⟨⟨aM', cM', rfl⟩, B3.trans (hb5.low (Nat.le_refl _) (Nat.le_refl _) B3.size)⟩
end Go.Proofs.YtejbgcloblpbfaaGreatDoor
namespace Go.Proofs.YtejbgcloblpbfaaGreatDoor
open Go.RowKit
open R (Nd Tok PS)
open K (Nm Ex Do)
theorem fl10 (s : Nat) (hs : s < 10) : ∀ (ys : List (List Value)) (q : Nat), (∀ c ∈ ys, c.length = 10) → (hq : q < ys.length) → ys.flatten[q * 10 + s]? = ys[q][s]?
  | [], q, _, hq => by simp at hq
  | c :: ys, 0, h, _ => by
    have := h c List.mem_cons_self
    rw [List.flatten_cons, List.getElem?_append_left (by omega)]
    simp
  | c :: ys, q + 1, h, hq => by
    have hc := h c List.mem_cons_self
    rw [List.flatten_cons, List.getElem?_append_right (by rw [hc, Nat.add_mul]; omega)]
    have e : (q + 1) * 10 + s - c.length = q * 10 + s := by rw [hc, Nat.add_mul]; omega
    rw [e, fl10 s hs ys q (fun d hd => h d (List.mem_cons_of_mem _ hd)) (by simpa using hq)]
    simp
theorem ints_at {w : World} {v : Value} {l : List Int} (h : Ints w v l) : IntsAt w w.heap.size v l := by
  obtain ⟨hl, ⟨rfl, h0⟩ | ⟨g, cap, cur, hv, _, hg, hc, hm, hs, hx⟩⟩ := h
  · refine ⟨none, 0, by rw [h0], ⟨by omega, by omega⟩, fun j u hu => ?_⟩
    have := (List.getElem?_eq_some_iff.1 hu).1
    omega
  · unfold maxLen at hm
    refine ⟨some ⟨g, 0, none⟩, cap, hv, ⟨hc, by omega⟩, fun j u hu => ⟨g, rfl, heap_lt hg, ?_⟩⟩
    have hj : j < l.length := (List.getElem?_eq_some_iff.1 hu).1
    have e : (ints l)[j]? = some (.int .i64 u) := by unfold ints; rw [List.getElem?_map, hu]; rfl
    rw [← hx, List.getElem?_take_of_lt (by omega)] at e
    simp [World.cell?, hg]
    simpa using e
theorem rep_pat {w : World} {b : Nat} {T : List Tok} {σ : PS} {r : RV} (h : Rep w b T σ r) (hf : σ.nodes.length ≤ 100000) : PAt w w.heap.size b σ.nodes := by
  refine ⟨h.cells.lt, hf, fun k n hn => ?_⟩
  obtain ⟨xs, hx, hl, hnd⟩ := h.nodes
  have hk : k < σ.nodes.length := (List.getElem?_eq_some_iff.1 hn).1
  have h10 : ∀ c ∈ xs, c.length = 10 := fun c hc => by
    obtain ⟨i, hi, rfl⟩ := List.getElem_of_mem hc
    obtain ⟨lv, tv, e, _, _⟩ := hnd i xs[i] σ.nodes[i] (List.getElem?_eq_getElem hi) (List.getElem?_eq_getElem (by omega))
    rw [e]
    rfl
  obtain ⟨lv, tv, e, hL, hT⟩ := hnd k xs[k] n (List.getElem?_eq_getElem (by omega)) hn
  obtain ⟨_, ⟨_, h0⟩ | ⟨g, cap, cur, hv, _, hg, hc, hm, hs, ht⟩⟩ := hx
  · omega
  · refine ⟨g, cap, by rw [h.c1 7 _ rfl, hv], heap_lt hg, lv, tv, fun j v hj => ?_, ints_at hL, ints_at hT⟩
    have hj10 : j < 10 := (List.getElem?_eq_some_iff.1 hj).1
    have hfl := fl10 j hj10 xs k h10 (by omega)
    rw [e, hj, ← ht, List.getElem?_take_of_lt (by omega)] at hfl
    simp [World.cell?, hg]
    simpa using hfl
end Go.Proofs.YtejbgcloblpbfaaGreatDoor
