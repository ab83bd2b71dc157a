import Derived.Test.YtjgiefnjmngdkaaGreatDoorM03
import Derived.Deep.WholeRow
import Derived.Test.YtjgiefnjmngdkaaGreatDoorM24
import Derived.Deep.QuietTactic
import Derived.BigQuiet
import Derived.Deep.CutBlock
import Derived.Deep.RegionWith
namespace Go.Proofs.YtjgiefnjmngdkaaGreatDoor
open Go.RowKit

/-- What an Op does, by its byte. -/
def V.opf (o : UInt8) (a b : Int) : Int :=
  if o = 43 then wrap64 (a + b) else if o = 45 then wrap64 (a - b) else if o = 42 then wrap64 (a * b)
  else if o = 47 then (if b = 0 then 0 else wrap64 (a.tdiv b)) else if o = 38 then bits .and .i64 a b else if o = 94 then bits .xor .i64 a b
  else if o = 60 then (if a < b then 1 else 0) else (if a = b then 1 else 0)
def V.isOp (o : UInt8) : Bool := o == 43 || o == 45 || o == 42 || o == 47 || o == 38 || o == 94 || o == 60 || o == 61
/-- The function of an Op. -/
def V.fn (o : UInt8) : Nat :=
  if o = 43 then 82 else if o = 45 then 83 else if o = 42 then 84 else if o = 47 then 85
  else if o = 38 then 86 else if o = 94 then 87 else if o = 60 then 88 else 89

theorem truth_c (q : Bool) (w : World) : Calls Tryz.prog 111 #[.bool q] w fun x w' => x = .returned (.int .i64 (if q = true then 1 else 0)) ∧ w' = w := by
  cases q <;>
  · go_enter Tryz.func111, Tryz.ntmps111
    go_wp2_with fail
    go_ret
    exact ⟨rfl, rfl⟩
theorem w_plus (a b : Int) (w : World) : Calls Tryz.prog 82 #[.int .i64 a, .int .i64 b] w fun x w' => x = .returned (.int .i64 (wrap64 (a + b))) ∧ w' = w := by
  go_enter Tryz.func82, Tryz.ntmps82
  go_wp2_with fail
  go_ret
  exact ⟨rfl, rfl⟩
theorem w_minus (a b : Int) (w : World) : Calls Tryz.prog 83 #[.int .i64 a, .int .i64 b] w fun x w' => x = .returned (.int .i64 (wrap64 (a - b))) ∧ w' = w := by
  go_enter Tryz.func83, Tryz.ntmps83
  go_wp2_with fail
  go_ret
  exact ⟨rfl, rfl⟩
theorem w_times (a b : Int) (w : World) : Calls Tryz.prog 84 #[.int .i64 a, .int .i64 b] w fun x w' => x = .returned (.int .i64 (wrap64 (a * b))) ∧ w' = w := by
  go_enter Tryz.func84, Tryz.ntmps84
  go_wp2_with fail
  go_ret
  exact ⟨rfl, rfl⟩
theorem w_and (a b : Int) (w : World) : Calls Tryz.prog 86 #[.int .i64 a, .int .i64 b] w fun x w' => x = .returned (.int .i64 (bits .and .i64 a b)) ∧ w' = w := by
  go_enter Tryz.func86, Tryz.ntmps86
  go_wp2_with fail
  go_ret
  exact ⟨rfl, rfl⟩
theorem w_xor (a b : Int) (w : World) : Calls Tryz.prog 87 #[.int .i64 a, .int .i64 b] w fun x w' => x = .returned (.int .i64 (bits .xor .i64 a b)) ∧ w' = w := by
  go_enter Tryz.func87, Tryz.ntmps87
  go_wp2_with fail
  go_ret
  exact ⟨rfl, rfl⟩
theorem w_over (a b : Int) (w : World) : Calls Tryz.prog 85 #[.int .i64 a, .int .i64 b] w fun x w' => x = .returned (.int .i64 (if b = 0 then 0 else wrap64 (a.tdiv b))) ∧ w' = w := by
  by_cases hb : b = 0
  · subst hb
    go_enter Tryz.func85, Tryz.ntmps85
    go_wp2_with fail
    go_ret
    exact ⟨rfl, rfl⟩
  · rw [if_neg hb]
    go_enter Tryz.func85, Tryz.ntmps85
    go_wp2_with fail
    go_ret
    exact ⟨rfl, rfl⟩
theorem w_less (a b : Int) (w : World) : Calls Tryz.prog 88 #[.int .i64 a, .int .i64 b] w fun x w' => x = .returned (.int .i64 (if a < b then 1 else 0)) ∧ w' = w := by
  have ht := truth_c (decide (a < b)) w
  have e : (if decide (a < b) = true then (1 : Int) else 0) = if a < b then 1 else 0 := by simp
  rw [e] at ht
  generalize (if a < b then (1 : Int) else 0) = v at *
  go_enter Tryz.func88, Tryz.ntmps88
  go_wp2_with fail
  refine ht.mono ?_
  rintro x w1 ⟨rfl, rfl⟩
  go_wp2_with fail
  go_ret
  exact ⟨rfl, rfl⟩
theorem w_equal (a b : Int) (w : World) : Calls Tryz.prog 89 #[.int .i64 a, .int .i64 b] w fun x w' => x = .returned (.int .i64 (if a = b then 1 else 0)) ∧ w' = w := by
  have ht := truth_c (a == b) w
  have e : (if (a == b) = true then (1 : Int) else 0) = if a = b then 1 else 0 := by simp
  rw [e] at ht
  generalize (if a = b then (1 : Int) else 0) = v at *
  go_enter Tryz.func89, Tryz.ntmps89
  go_wp2_with fail
  refine ht.mono ?_
  rintro x w1 ⟨rfl, rfl⟩
  go_wp2_with fail
  go_ret
  exact ⟨rfl, rfl⟩
/-- An Op's function does what the Op does. -/
theorem opfn_c (o : UInt8) (ho : V.isOp o = true) (a b : Int) (w : World) : Calls Tryz.prog (V.fn o) #[.int .i64 a, .int .i64 b] w fun x w' => x = .returned (.int .i64 (V.opf o a b)) ∧ w' = w := by
  unfold V.isOp at ho
  simp only [Bool.or_eq_true, beq_iff_eq] at ho
  rcases ho with ((((((rfl | rfl) | rfl) | rfl) | rfl) | rfl) | rfl) | rfl
  · exact w_plus a b w
  · exact w_minus a b w
  · exact w_times a b w
  · exact w_over a b w
  · exact w_and a b w
  · exact w_xor a b w
  · exact w_less a b w
  · exact w_equal a b w

/-- A number in an array. -/
def V.md (a s : Int) : Int := (wrap64 (a.tmod s + s)).tmod s
theorem modulo_c (a s : Int) (hs : 1 ≤ s) (w : World) : Calls Tryz.prog 146 #[.int .i64 a, .int .i64 s] w fun x w' => x = .returned (.int .i64 (V.md a s)) ∧ w' = w := by
  go_enter Tryz.func146, Tryz.ntmps146
  go_wp2_with fail
  go_ret
  exact ⟨rfl, rfl⟩
theorem V.md_eq (a : Int) {s : Int} (h1 : 1 ≤ s) (h6 : s ≤ 6) : V.md a s = a % s := by
  unfold V.md wrap64
  have e := Int.tmod_eq_emod (a := a) (b := s)
  have h := Int.emod_nonneg a (show s ≠ 0 by omega)
  have h' := Int.emod_lt_of_pos a (show 0 < s by omega)
  have hm : a.tmod s = a % s ∨ a.tmod s = a % s - s := by
    rw [e]
    split
    · left; omega
    · right; omega
  rcases hm with hm | hm
  · rw [hm]
    have : ((a % s + s + 9223372036854775808) % 18446744073709551616 - 9223372036854775808) = a % s + s := by omega
    rw [this, Int.tmod_eq_emod_of_nonneg (by omega), Int.add_emod_right, Int.emod_emod_of_dvd _ (Int.dvd_refl s)]
  · rw [hm]
    have : ((a % s - s + s + 9223372036854775808) % 18446744073709551616 - 9223372036854775808) = a % s := by omega
    rw [this, Int.tmod_eq_emod_of_nonneg (by omega), Int.emod_emod_of_dvd _ (Int.dvd_refl s)]

/-- The table. -/
structure IsTab (t : Array Value) : Prop where
  size : t.size = 256
  one : t.all (·.oneCell') = true
  fn : ∀ o, V.isOp o = true → t.toList[o.toNat]? = some (.func (.func (V.fn o)) #[] #[])
theorem is_tab : IsTab ((((((((Tryz.zeroCells117.setIfInBounds 43 (.func (.func 82) #[] #[])).setIfInBounds 45 (.func (.func 83) #[] #[])).setIfInBounds 42 (.func (.func 84) #[] #[])).setIfInBounds 47 (.func (.func 85) #[] #[])).setIfInBounds 38 (.func (.func 86) #[] #[])).setIfInBounds 94 (.func (.func 87) #[] #[])).setIfInBounds 60 (.func (.func 88) #[] #[])).setIfInBounds 61 (.func (.func 89) #[] #[])) := by
  refine ⟨by kernel_rfl, by kernel_rfl, fun o ho => ?_⟩
  unfold V.isOp at ho
  simp only [Bool.or_eq_true, beq_iff_eq] at ho
  rcases ho with ((((((rfl | rfl) | rfl) | rfl) | rfl) | rfl) | rfl) | rfl <;> kernel_rfl
theorem tabType : (Tryz.prog.info? 117).map (·.size) = some 256 := by kernel_rfl

set_option maxRecDepth 100000 in
set_option maxHeartbeats 2000000 in
theorem operations_c (w : World) : Calls Tryz.prog 63 #[] w fun x w' => (∃ t, IsTab t ∧ x = .returned (.agg t)) ∧ Below w.heap.size w w' := by
  have h0 := is_tab
  obtain ⟨tb, htb⟩ : ∃ tb, tb = (((((((Tryz.zeroCells117.setIfInBounds 43 (.func (.func 82) #[] #[])).setIfInBounds 45 (.func (.func 83) #[] #[])).setIfInBounds 42 (.func (.func 84) #[] #[])).setIfInBounds 47 (.func (.func 85) #[] #[])).setIfInBounds 38 (.func (.func 86) #[] #[])).setIfInBounds 94 (.func (.func 87) #[] #[])).setIfInBounds 60 (.func (.func 88) #[] #[])).setIfInBounds 61 (.func (.func 89) #[] #[]) := ⟨_, rfl⟩
  rw [← htb] at h0
  have hst := run_storeCells_new (P := Tryz.prog) w 117 Tryz.zeroCells117 tb (by rw [h0.size]; exact tabType) (by rw [h0.size]; kernel_rfl) h0.one
  have hl := congrArg Array.toList htb
  simp only [Array.toList_setIfInBounds] at hl
  rw [hl] at hst
  go_enter Tryz.func63, Tryz.ntmps63
  go_wp2_with fail
  rw [← htb]
  clear hst hl htb
  exact bodyPost_ret (v := .agg tb) (results_cell_row Tryz.results63 _ _ w.heap.size 117 tb (0, 0) _ rfl (heap_alloc_last w _) Tryz.underlying117 rfl (by rw [h0.size]; exact tabType)) rfl ⟨⟨tb, h0, rfl⟩, (Below.refl _ _).alloc (Nat.le_refl _) _⟩
end Go.Proofs.YtjgiefnjmngdkaaGreatDoor
namespace Go.Proofs.YtjgiefnjmngdkaaGreatDoor
open Go.RowKit
open K (Nm Ex Do)

theorem as_Number_Number (x : Value) (w : World) : (Instr.typeAssert (.iface 206 x) 176 206 true).run Tryz.prog w = .ok (.tuple #[x, .bool true]) w := by kernel_rfl
theorem as_Use_Number (x : Value) (w : World) : (Instr.typeAssert (.iface 208 x) 176 206 true).run Tryz.prog w = .ok (.tuple #[.agg #[.int .i64 0], .bool false]) w := by kernel_rfl
theorem as_Use_Use (x : Value) (w : World) : (Instr.typeAssert (.iface 208 x) 176 208 true).run Tryz.prog w = .ok (.tuple #[x, .bool true]) w := by kernel_rfl
theorem as_Get_Number (x : Value) (w : World) : (Instr.typeAssert (.iface 210 x) 176 206 true).run Tryz.prog w = .ok (.tuple #[.agg #[.int .i64 0], .bool false]) w := by kernel_rfl
theorem as_Get_Use (x : Value) (w : World) : (Instr.typeAssert (.iface 210 x) 176 208 true).run Tryz.prog w = .ok (.tuple #[.agg #[.string ⟨#[]⟩, .int .i64 0, .bool false, .int .i64 0, .int .i64 0], .bool false]) w := by kernel_rfl
theorem as_Operation_Number (x : Value) (w : World) : (Instr.typeAssert (.iface 212 x) 176 206 true).run Tryz.prog w = .ok (.tuple #[.agg #[.int .i64 0], .bool false]) w := by kernel_rfl
theorem as_Operation_Use (x : Value) (w : World) : (Instr.typeAssert (.iface 212 x) 176 208 true).run Tryz.prog w = .ok (.tuple #[.agg #[.string ⟨#[]⟩, .int .i64 0, .bool false, .int .i64 0, .int .i64 0], .bool false]) w := by kernel_rfl
theorem as_Choose_Number (x : Value) (w : World) : (Instr.typeAssert (.iface 214 x) 176 206 true).run Tryz.prog w = .ok (.tuple #[.agg #[.int .i64 0], .bool false]) w := by kernel_rfl
theorem as_Choose_Use (x : Value) (w : World) : (Instr.typeAssert (.iface 214 x) 176 208 true).run Tryz.prog w = .ok (.tuple #[.agg #[.string ⟨#[]⟩, .int .i64 0, .bool false, .int .i64 0, .int .i64 0], .bool false]) w := by kernel_rfl

theorem below_dN {B : Nat} {w w' : World} (h : Below B w w') (n : Nat) : Below B w (w'.drewN n) := ⟨h.os, h.tape, h.output, h.size, h.block⟩
/-- What an Expr is worth, the words being W. -/
def V.ev (W : List Int) : Ex → Int
  | .num v => v
  | .use n => W.getD n.place.toNat 0
  | .get _ n e => W.getD (n.place + V.md (V.ev W e) n.size).toNat 0
  | .op _ o l r => V.opf o (V.ev W l) (V.ev W r)
  | .cho _ q y n => if V.ev W q = 0 then V.ev W n else V.ev W y
  | .none => 0
/-- Its places are there. -/
def V.wfE (N : Nat) : Ex → Prop
  | .num _ => True
  | .use n => 0 ≤ n.place ∧ n.place < N
  | .get _ n e => 0 ≤ n.place ∧ 1 ≤ n.size ∧ n.size ≤ 6 ∧ n.place + n.size ≤ N ∧ V.wfE N e
  | .op _ o l r => V.isOp o = true ∧ V.wfE N l ∧ V.wfE N r
  | .cho _ q y n => V.wfE N q ∧ V.wfE N y ∧ V.wfE N n
  | .none => False
theorem V.wf_good {N : Nat} : ∀ {e : Ex}, V.wfE N e → K.good e = true
  | .num _, _ => rfl
  | .use _, _ => rfl
  | .get _ _ e, h => by unfold V.wfE at h; rw [K.good]; exact V.wf_good h.2.2.2.2
  | .op _ _ l r, h => by unfold V.wfE at h; rw [K.good, V.wf_good h.2.1, V.wf_good h.2.2]; rfl
  | .cho _ q y n, h => by unfold V.wfE at h; rw [K.good, V.wf_good h.1, V.wf_good h.2.1, V.wf_good h.2.2]; rfl
  | .none, h => by unfold V.wfE at h; exact h.elim

/-- A runner in block b, its words W in block g. -/
structure RAt (w : World) (b g : Nat) (tb : Array Value) (W : List Int) : Prop where
  cells : At w b 120 (.slice (some ⟨g, 0, none⟩) W.length W.length :: tb.toList)
  words : At w g 121 (W.map fun n => .int .i64 n)
  tab : IsTab tb
  few : W.length ≤ 60
theorem RAt.keep {w w' : World} {b g : Nat} {tb : Array Value} {W : List Int} (h : RAt w b g tb W) (hb : w'.heap[b]? = w.heap[b]?) (hg : w'.heap[g]? = w.heap[g]?) : RAt w' b g tb W :=
  ⟨h.cells.of_block hb, h.words.of_block hg, h.tab, h.few⟩
theorem RAt.below {w w' : World} {b g : Nat} {tb : Array Value} {W : List Int} (h : RAt w b g tb W) (hb : Below w.heap.size w w') : RAt w' b g tb W :=
  h.keep (hb.block b h.cells.lt) (hb.block g h.words.lt)
theorem RAt.word {w : World} {b g : Nat} {tb : Array Value} {W : List Int} (h : RAt w b g tb W) {k : Nat} (hk : k < W.length) : w.cell? ⟨g, k, none⟩ = some (.int .i64 (W.getD k 0)) := by
  rw [h.words.cell, List.getElem?_map, List.getElem?_eq_getElem hk, List.getD_eq_getElem?_getD, List.getElem?_eq_getElem hk]
  rfl
def EvDoes (e : Ex) : Prop := ∀ (w : World) (b g : Nat) (tb : Array Value) (W : List Int), RAt w b g tb W → V.wfE W.length e → Calls Tryz.prog 112 #[PT b, exV e] w fun x w' => x = .returned (.int .i64 (V.ev W e)) ∧ Below w.heap.size w w'

set_option maxRecDepth 100000 in
set_option maxHeartbeats 1000000 in
theorem ev_num (v : Int) : EvDoes (.num v) := by
  intro w b g tb W h _
  have a1 := as_Number_Number
  show Calls Tryz.prog _ #[PT b, .iface 206 (.agg #[.int .i64 v])] w _
  go_enter Tryz.func112, Tryz.ntmps112
  go_wp2_with fail
  go_ret
  exact ⟨rfl, (Below.refl _ _).alloc (Nat.le_refl _) _⟩
set_option maxRecDepth 100000 in
set_option maxHeartbeats 1000000 in
theorem ev_use (n : Nm) : EvDoes (.use n) := by
  intro w b g tb W h hw
  have a1 := as_Use_Number
  have a2 := as_Use_Use
  unfold V.wfE at hw
  obtain ⟨k, hk⟩ := Int.eq_ofNat_of_zero_le hw.1
  have hkl : k < W.length := by omega
  have few := h.few
  have hz : (k : Int) < (W.length : Int) := by omega
  have HV : Hid (V.ev W (.use n) = W.getD k 0) := by show W.getD n.place.toNat 0 = _; rw [hk]; rfl
  obtain ⟨x0, x1, x2, x3, x4⟩ := n
  dsimp only at hk
  subst hk
  have h0 := h.below ((Below.refl _ _).alloc (Nat.le_refl _) (.cells #[.string x0, .int .i64 x1, .bool x2, .int .i64 x3, .int .i64 (k : Int)] 208 (0, 0)))
  have c0 := h0.cells.cell 0
  simp only [List.getElem?_cons_zero] at c0
  have cw := h0.word hkl
  have lb := h.cells.lt
  have lg := h.words.lt
  generalize V.ev W (.use ⟨x0, x1, x2, x3, (k : Int)⟩) = q at *
  generalize W.getD k 0 = q' at *
  have e := HV.out
  subst e
  show Calls Tryz.prog _ #[PT b, .iface 208 (.agg #[.string x0, .int .i64 x1, .bool x2, .int .i64 x3, .int .i64 (k : Int)])] w _
  go_enter Tryz.func112, Tryz.ntmps112
  go_upto_region 7 with fail
  go_quiet (fail)
  go_wp2_with fail
  go_ret
  exact ⟨rfl, below_dN ((Below.refl _ _).alloc (Nat.le_refl _) _) _⟩
set_option maxHeartbeats 1000000 in
theorem rchoose_c (p : Int) (q y n : Ex) (hq : EvDoes q) (hy : EvDoes y) (hn : EvDoes n) (w : World) (b g : Nat) (tb : Array Value) (W : List Int) (h : RAt w b g tb W) (wq : V.wfE W.length q) (wy : V.wfE W.length y) (wn : V.wfE W.length n) :
    Calls Tryz.prog 145 #[PT b, .agg #[.int .i64 p, exV q, exV y, exV n]] w fun x w' => x = .returned (.int .i64 (if V.ev W q = 0 then V.ev W n else V.ev W y)) ∧ Below w.heap.size w w' := by
  have hx := fun (w : World) (h' : RAt w b g tb W) => hq w b g tb W h' wq
  have hx2 := fun (w : World) (h' : RAt w b g tb W) => hy w b g tb W h' wy
  have hx3 := fun (w : World) (h' : RAt w b g tb W) => hn w b g tb W h' wn
  rw [exV_good (V.wf_good wq)] at hx ⊢
  rw [exV_good (V.wf_good wy)] at hx2 ⊢
  rw [exV_good (V.wf_good wn)] at hx3 ⊢
  generalize V.ev W q = vq at *
  generalize V.ev W y = vy at *
  generalize V.ev W n = vn at *
  generalize exT q = t at *
  generalize exP q = x at *
  generalize exT y = t2 at *
  generalize exP y = x2 at *
  generalize exT n = t3 at *
  generalize exP n = x3 at *
  have B0 : Below w.heap.size w (w.alloc (.cells #[.int .i64 p, .iface t x, .iface t2 x2, .iface t3 x3] 214 (0, 0))) := (Below.refl _ _).alloc (Nat.le_refl _) _
  have bx := At.alloc_new w [.int .i64 p, .iface t x, .iface t2 x2, .iface t3 x3] 214
  have h0 := h.below B0
  by_cases hv : vq = 0
  · subst hv
    rw [if_pos rfl]
    go_enter Tryz.func145, Tryz.ntmps145
    go_wp2_with fail
    refine (hx _ h0).mono ?_
    rintro z w2 ⟨rfl, hb2⟩
    have bx2 := bx.of_block (hb2.block _ bx.lt)
    have k3 := bx2.cell 3
    simp only [List.getElem?_cons_zero, List.getElem?_cons_succ] at k3
    go_wp2_with fail
    refine (hx3 _ (h0.below hb2)).mono ?_
    rintro z w3 ⟨rfl, hb3⟩
    go_wp2_with fail
    go_ret
    exact ⟨rfl, (B0.trans (hb2.mono B0.size)).trans (hb3.mono (Nat.le_trans B0.size hb2.size))⟩
  · rw [if_neg hv]
    go_enter Tryz.func145, Tryz.ntmps145
    go_wp2_with fail
    refine (hx _ h0).mono ?_
    rintro z w2 ⟨rfl, hb2⟩
    have bx2 := bx.of_block (hb2.block _ bx.lt)
    have k2 := bx2.cell 2
    simp only [List.getElem?_cons_zero, List.getElem?_cons_succ] at k2
    go_wp2_with fail
    refine (hx2 _ (h0.below hb2)).mono ?_
    rintro z w3 ⟨rfl, hb3⟩
    go_wp2_with fail
    go_ret
    exact ⟨rfl, (B0.trans (hb2.mono B0.size)).trans (hb3.mono (Nat.le_trans B0.size hb2.size))⟩
set_option maxRecDepth 100000 in
set_option maxHeartbeats 1000000 in
theorem ev_cho (p : Int) (q y n : Ex) (hq : EvDoes q) (hy : EvDoes y) (hn : EvDoes n) : EvDoes (.cho p q y n) := by
  intro w b g tb W h hw
  have a1 := as_Choose_Number
  have a2 := as_Choose_Use
  have a3 := as_Choose_Get
  have a4 := as_Choose_Operation
  have a5 := as_Choose_Choose
  unfold V.wfE at hw
  have hc := fun (w : World) (h' : RAt w b g tb W) => rchoose_c p q y n hq hy hn w b g tb W h' hw.1 hw.2.1 hw.2.2
  have HV : Hid (V.ev W (.cho p q y n) = if V.ev W q = 0 then V.ev W n else V.ev W y) := rfl
  show Calls Tryz.prog _ #[PT b, .iface 214 (.agg #[.int .i64 p, exV q, exV y, exV n])] w _
  rw [exV_good (V.wf_good hw.1), exV_good (V.wf_good hw.2.1), exV_good (V.wf_good hw.2.2)] at *
  rw [HV.out]
  clear HV
  generalize (if V.ev W q = 0 then V.ev W n else V.ev W y) = v at *
  generalize exT q = t at *
  generalize exP q = x at *
  generalize exT y = t2 at *
  generalize exP y = x2 at *
  generalize exT n = t3 at *
  generalize exP n = x3 at *
  have B0 : Below w.heap.size w (w.alloc (.cells #[.int .i64 p, .iface t x, .iface t2 x2, .iface t3 x3] 214 (0, 0))) := (Below.refl _ _).alloc (Nat.le_refl _) _
  have h0 := h.below B0
  go_enter Tryz.func112, Tryz.ntmps112
  go_wp2_with fail
  refine (hc _ h0).mono ?_
  rintro z w2 ⟨rfl, hb2⟩
  go_wp2_with fail
  go_ret
  exact ⟨rfl, B0.trans (hb2.mono B0.size)⟩
end Go.Proofs.YtjgiefnjmngdkaaGreatDoor
namespace Go.Proofs.YtjgiefnjmngdkaaGreatDoor
open Go.RowKit
open K (Nm Ex Do)

theorem w64 {n : Int} (h : -9223372036854775808 ≤ n ∧ n ≤ 9223372036854775807) : wrap64 n = n := by unfold wrap64; omega
theorem V.md_lt (a : Int) {s : Int} (h1 : 1 ≤ s) (h6 : s ≤ 6) : 0 ≤ V.md a s ∧ V.md a s < s := by
  rw [V.md_eq a h1 h6]
  exact ⟨Int.emod_nonneg a (by omega), Int.emod_lt_of_pos a (by omega)⟩

set_option maxRecDepth 100000 in
set_option maxHeartbeats 2000000 in
theorem placeIn_c (n : Nm) (e : Ex) (he : EvDoes e) (w : World) (b g : Nat) (tb : Array Value) (W : List Int) (h : RAt w b g tb W) (h0 : 0 ≤ n.place) (h1 : 1 ≤ n.size) (h6 : n.size ≤ 6) (hp : n.place + n.size ≤ W.length) (we : V.wfE W.length e) :
    Calls Tryz.prog 113 #[PT b, nmV n, exV e] w fun x w' => x = .returned (.int .i64 (n.place + V.md (V.ev W e) n.size)) ∧ Below w.heap.size w w' := by
  have hx := fun (w : World) (h' : RAt w b g tb W) => he w b g tb W h' we
  have hmd := fun (w : World) => modulo_c (V.ev W e) n.size h1 w
  have few := h.few
  have hm := V.md_lt (V.ev W e) h1 h6
  rw [exV_good (V.wf_good we)] at hx ⊢
  have hwr : Hid (IntKind.i64.wrap (n.place + V.md (V.ev W e) n.size) = n.place + V.md (V.ev W e) n.size) := k64 _ (by omega)
  unfold nmV
  generalize V.md (V.ev W e) n.size = M at *
  generalize V.ev W e = v at *
  generalize exT e = t at *
  generalize exP e = x at *
  obtain ⟨x0, x1, x2, x3, x4⟩ := n
  dsimp only at *
  have B0 : Below w.heap.size w (w.alloc (.cells #[.string x0, .int .i64 x1, .bool x2, .int .i64 x3, .int .i64 x4] 96 (0, 0))) := (Below.refl _ _).alloc (Nat.le_refl _) _
  have bx := At.alloc_new w [.string x0, .int .i64 x1, .bool x2, .int .i64 x3, .int .i64 x4] 96
  have Bd : Below w.heap.size w (w.alloc (.cells #[.string x0, .int .i64 x1, .bool x2, .int .i64 x3, .int .i64 x4] 96 (0, 0))).drew := ⟨B0.os, B0.tape, B0.output, B0.size, B0.block⟩
  have r0 := h.below B0
  have rd : RAt (w.alloc (.cells #[.string x0, .int .i64 x1, .bool x2, .int .i64 x3, .int .i64 x4] 96 (0, 0))).drew b g tb W := r0.keep rfl rfl
  clear h0 h1 h6 hp hm
  go_enter Tryz.func113, Tryz.ntmps113
  go_upto_region 1 with fail
  go_region_with (first | (go_at_call 146; refine (hmd _).mono ?_; rintro z w2 ⟨rfl, rfl⟩) | (go_at_call 112; refine (hx _ rd).mono ?_; rintro z w1 ⟨rfl, hb1⟩; have bx1 : At w1 w.heap.size 96 [.string x0, .int .i64 x1, .bool x2, .int .i64 x3, .int .i64 x4] := bx.of_block (hb1.block _ bx.lt); have k4 := bx1.cell 4; have k3 := bx1.cell 3; simp only [List.getElem?_cons_zero, List.getElem?_cons_succ] at k3 k4))
  all_goals
    go_wp2_with fail
    go_ret
    exact ⟨congrArg (fun v => Ending.returned (Value.int IntKind.i64 v)) hwr.out, Bd.trans (hb1.mono Bd.size)⟩

set_option maxRecDepth 100000 in
set_option maxHeartbeats 4000000 in
theorem ev_get (p : Int) (n : Nm) (e : Ex) (he : EvDoes e) : EvDoes (.get p n e) := by
  intro w b g tb W h hw
  have a1 := as_Get_Number
  have a2 := as_Get_Use
  have a3 := as_Get_Get
  unfold V.wfE at hw
  obtain ⟨h0, h1, h6, hp, we⟩ := hw
  have hpl := fun (w : World) (h' : RAt w b g tb W) => placeIn_c n e he w b g tb W h' h0 h1 h6 hp we
  have hm := V.md_lt (V.ev W e) h1 h6
  have few := h.few
  have HV : Hid (V.ev W (.get p n e) = W.getD (n.place + V.md (V.ev W e) n.size).toNat 0) := rfl
  obtain ⟨k, hk⟩ := Int.eq_ofNat_of_zero_le (show 0 ≤ n.place + V.md (V.ev W e) n.size by omega)
  have hkl : k < W.length := by omega
  have hz : (k : Int) < (W.length : Int) := by omega
  rw [hk] at hpl HV
  have HV' : Hid (V.ev W (.get p n e) = W.getD k 0) := HV.out
  rw [HV'.out]
  show Calls Tryz.prog _ #[PT b, .iface 210 (.agg #[.int .i64 p, .string n.text, .int .i64 n.kind, .bool n.sec, .int .i64 n.size, .int .i64 n.place, exV e])] w _
  unfold nmV at hpl
  rw [exV_good (V.wf_good we)] at hpl ⊢
  clear HV HV' hk hm h0 h1 h6 hp
  have hcw := fun (w : World) (h' : RAt w b g tb W) => h'.word hkl
  generalize W.getD k 0 = q at *
  generalize exT e = t at *
  generalize exP e = x at *
  obtain ⟨x0, x1, x2, x3, x4⟩ := n
  dsimp only at *
  have B0 : Below w.heap.size w (w.alloc (.cells #[.int .i64 p, .string x0, .int .i64 x1, .bool x2, .int .i64 x3, .int .i64 x4, .iface t x] 210 (0, 0))) := (Below.refl _ _).alloc (Nat.le_refl _) _
  have Bd : Below w.heap.size w (w.alloc (.cells #[.int .i64 p, .string x0, .int .i64 x1, .bool x2, .int .i64 x3, .int .i64 x4, .iface t x] 210 (0, 0))).drew := ⟨B0.os, B0.tape, B0.output, B0.size, B0.block⟩
  have rd : RAt (w.alloc (.cells #[.int .i64 p, .string x0, .int .i64 x1, .bool x2, .int .i64 x3, .int .i64 x4, .iface t x] 210 (0, 0))).drew b g tb W := (h.below B0).keep rfl rfl
  have c0 := (h.below B0).cells.cell 0
  simp only [List.getElem?_cons_zero] at c0
  have lb := h.cells.lt
  go_enter Tryz.func112, Tryz.ntmps112
  go_upto_region 10 with fail
  go_region_with (go_at_call 113; refine (hpl _ rd).mono ?_; rintro z w1 ⟨rfl, hb1⟩; have r1 := rd.below hb1; have c1 := r1.cells.cell 0; simp only [List.getElem?_cons_zero] at c1; have cw := hcw _ r1)
  all_goals
    go_wp2_with fail
    go_ret
    exact ⟨rfl, Bd.trans (hb1.mono Bd.size)⟩
end Go.Proofs.YtjgiefnjmngdkaaGreatDoor
