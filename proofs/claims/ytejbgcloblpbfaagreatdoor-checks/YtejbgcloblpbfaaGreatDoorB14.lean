import Derived.Test.YtejbgcloblpbfaaGreatDoorB01
import Derived.Deep.WholeRow
import Derived.Orders
import Derived.Test.YtejbgcloblpbfaaGreatDoorB09
namespace Go.Proofs.YtejbgcloblpbfaaGreatDoor
open Go.RowKit
def V.opf (o : UInt8) (a b : Int) : Int :=
  if o = 43 then wrap64 (a + b) else if o = 45 then wrap64 (a - b) else if o = 42 then wrap64 (a * b)
  else if o = 47 then (if b = 0 then 0 else wrap64 (a.tdiv b)) else if o = 38 then bits .and .i64 a b else if o = 94 then bits .xor .i64 a b
  else if o = 60 then (if a < b then 1 else 0) else (if a = b then 1 else 0)
def V.isOp (o : UInt8) : Bool := o == 43 || o == 45 || o == 42 || o == 47 || o == 38 || o == 94 || o == 60 || o == 61
def V.fn (o : UInt8) : Nat :=
  if o = 43 then 82 else if o = 45 then 83 else if o = 42 then 84 else if o = 47 then 85
  else if o = 38 then 86 else if o = 94 then 87 else if o = 60 then 88 else 89
theorem truth_c (q : Bool) (w : World) : Calls Tryz.prog 111 #[.bool q] w fun x w' => x = .returned (.int .i64 (if q = true then 1 else 0)) ∧ w' = w := by
  cases q <;>
  · go_enter Tryz.func111, Tryz.ntmps111
    go_wp2_with fail
    go_ret
    exact ⟨rfl, rfl⟩
theorem w_plus (a b : Int) (w : World) : Calls Tryz.prog 82 #[.int .i64 a, .int .i64 b] w fun x w' => x = .returned (.int .i64 (wrap64 (a + b))) ∧ w' = w := by
  go_enter Tryz.func82, Tryz.ntmps82
  go_wp2_with fail
  go_ret
  exact ⟨rfl, rfl⟩
theorem w_minus (a b : Int) (w : World) : Calls Tryz.prog 83 #[.int .i64 a, .int .i64 b] w fun x w' => x = .returned (.int .i64 (wrap64 (a - b))) ∧ w' = w := by
  go_enter Tryz.func83, Tryz.ntmps83
  go_wp2_with fail
  go_ret
  exact ⟨rfl, rfl⟩
theorem w_times (a b : Int) (w : World) : Calls Tryz.prog 84 #[.int .i64 a, .int .i64 b] w fun x w' => x = .returned (.int .i64 (wrap64 (a * b))) ∧ w' = w := by
  go_enter Tryz.func84, Tryz.ntmps84
  go_wp2_with fail
  go_ret
  exact ⟨rfl, rfl⟩
theorem w_and (a b : Int) (w : World) : Calls Tryz.prog 86 #[.int .i64 a, .int .i64 b] w fun x w' => x = .returned (.int .i64 (bits .and .i64 a b)) ∧ w' = w := by
  go_enter Tryz.func86, Tryz.ntmps86
  go_wp2_with fail
  go_ret
  exact ⟨rfl, rfl⟩
theorem w_xor (a b : Int) (w : World) : Calls Tryz.prog 87 #[.int .i64 a, .int .i64 b] w fun x w' => x = .returned (.int .i64 (bits .xor .i64 a b)) ∧ w' = w := by
  go_enter Tryz.func87, Tryz.ntmps87
  go_wp2_with fail
  go_ret
  exact ⟨rfl, rfl⟩
theorem w_over (a b : Int) (w : World) : Calls Tryz.prog 85 #[.int .i64 a, .int .i64 b] w fun x w' => x = .returned (.int .i64 (if b = 0 then 0 else wrap64 (a.tdiv b))) ∧ w' = w := by
  by_cases hb : b = 0
  · subst hb
    go_enter Tryz.func85, Tryz.ntmps85
    go_wp2_with fail
    go_ret
    exact ⟨rfl, rfl⟩
  · rw [if_neg hb]
    go_enter Tryz.func85, Tryz.ntmps85
    go_wp2_with fail
    go_ret
    exact ⟨rfl, rfl⟩
theorem w_less (a b : Int) (w : World) : Calls Tryz.prog 88 #[.int .i64 a, .int .i64 b] w fun x w' => x = .returned (.int .i64 (if a < b then 1 else 0)) ∧ w' = w := by
  have ht := truth_c (decide (a < b)) w
  have e : (if decide (a < b) = true then (1 : Int) else 0) = if a < b then 1 else 0 := by simp
  rw [e] at ht
  generalize (if a < b then (1 : Int) else 0) = v at *
  go_enter Tryz.func88, Tryz.ntmps88
  go_wp2_with fail
  refine ht.mono ?_
  rintro x w1 ⟨rfl, rfl⟩
  go_wp2_with fail
  go_ret
  exact ⟨rfl, rfl⟩
theorem w_equal (a b : Int) (w : World) : Calls Tryz.prog 89 #[.int .i64 a, .int .i64 b] w fun x w' => x = .returned (.int .i64 (if a = b then 1 else 0)) ∧ w' = w := by
  have ht := truth_c (a == b) w
  have e : (if (a == b) = true then (1 : Int) else 0) = if a = b then 1 else 0 := by simp
  rw [e] at ht
  generalize (if a = b then (1 : Int) else 0) = v at *
  go_enter Tryz.func89, Tryz.ntmps89
  go_wp2_with fail
  refine ht.mono ?_
  rintro x w1 ⟨rfl, rfl⟩
  go_wp2_with fail
  go_ret
  exact ⟨rfl, rfl⟩
theorem opfn_c (o : UInt8) (ho : V.isOp o = true) (a b : Int) (w : World) : Calls Tryz.prog (V.fn o) #[.int .i64 a, .int .i64 b] w fun x w' => x = .returned (.int .i64 (V.opf o a b)) ∧ w' = w := by
  unfold V.isOp at ho
  simp only [Bool.or_eq_true, beq_iff_eq] at ho
  rcases ho with ((((((rfl | rfl) | rfl) | rfl) | rfl) | rfl) | rfl) | rfl
  · exact w_plus a b w
  · exact w_minus a b w
  · exact w_times a b w
  · exact w_over a b w
  · exact w_and a b w
  · exact w_xor a b w
  · exact w_less a b w
  · exact w_equal a b w
def V.md (a s : Int) : Int := (wrap64 (a.tmod s + s)).tmod s
theorem modulo_c (a s : Int) (hs : 1 ≤ s) (w : World) : Calls Tryz.prog 146 #[.int .i64 a, .int .i64 s] w fun x w' => x = .returned (.int .i64 (V.md a s)) ∧ w' = w := by
  go_enter Tryz.func146, Tryz.ntmps146
  go_wp2_with fail
  go_ret
  exact ⟨rfl, rfl⟩
theorem V.md_eq (a : Int) {s : Int} (h1 : 1 ≤ s) (h6 : s ≤ 6) : V.md a s = a % s := by
  unfold V.md wrap64
  have e := Int.tmod_eq_emod (a := a) (b := s)
  have h := Int.emod_nonneg a (show s ≠ 0 by omega)
  have h' := Int.emod_lt_of_pos a (show 0 < s by omega)
  have hm : a.tmod s = a % s ∨ a.tmod s = a % s - s := by
    rw [e]
    split
    · left; omega
    · right; omega
  rcases hm with hm | hm
  · rw [hm]
    have : ((a % s + s + 9223372036854775808) % 18446744073709551616 - 9223372036854775808) = a % s + s := by omega
    rw [this, Int.tmod_eq_emod_of_nonneg (by omega), Int.add_emod_right, Int.emod_emod_of_dvd _ (Int.dvd_refl s)]
  · rw [hm]
    have : ((a % s - s + s + 9223372036854775808) % 18446744073709551616 - 9223372036854775808) = a % s := by omega
    rw [this, Int.tmod_eq_emod_of_nonneg (by omega), Int.emod_emod_of_dvd _ (Int.dvd_refl s)]
structure IsTab (t : Array Value) : Prop where
  size : t.size = 256
  one : t.all (·.oneCell') = true
  fn : ∀ o, V.isOp o = true → t.toList[o.toNat]? = some (.func (.func (V.fn o)) #[] #[])
theorem is_tab : IsTab ((((((((Tryz.zeroCells117.setIfInBounds 43 (.func (.func 82) #[] #[])).setIfInBounds 45 (.func (.func 83) #[] #[])).setIfInBounds 42 (.func (.func 84) #[] #[])).setIfInBounds 47 (.func (.func 85) #[] #[])).setIfInBounds 38 (.func (.func 86) #[] #[])).setIfInBounds 94 (.func (.func 87) #[] #[])).setIfInBounds 60 (.func (.func 88) #[] #[])).setIfInBounds 61 (.func (.func 89) #[] #[])) := by
  refine ⟨by kernel_rfl, by kernel_rfl, fun o ho => ?_⟩
  unfold V.isOp at ho
  simp only [Bool.or_eq_true, beq_iff_eq] at ho
  rcases ho with ((((((rfl | rfl) | rfl) | rfl) | rfl) | rfl) | rfl) | rfl <;> kernel_rfl
theorem tabType : (Tryz.prog.info? 117).map (·.size) = some 256 := by kernel_rfl
set_option maxRecDepth 100000 in
set_option maxHeartbeats 2000000 in
theorem operations_c (w : World) : Calls Tryz.prog 63 #[] w fun x w' => (∃ t, IsTab t ∧ x = .returned (.agg t)) ∧ Below w.heap.size w w' := by
  have h0 := is_tab
  obtain ⟨tb, htb⟩ : ∃ tb, tb = (((((((Tryz.zeroCells117.setIfInBounds 43 (.func (.func 82) #[] #[])).setIfInBounds 45 (.func (.func 83) #[] #[])).setIfInBounds 42 (.func (.func 84) #[] #[])).setIfInBounds 47 (.func (.func 85) #[] #[])).setIfInBounds 38 (.func (.func 86) #[] #[])).setIfInBounds 94 (.func (.func 87) #[] #[])).setIfInBounds 60 (.func (.func 88) #[] #[])).setIfInBounds 61 (.func (.func 89) #[] #[]) := ⟨_, rfl⟩
  rw [← htb] at h0
  have hst := run_storeCells_new (P := Tryz.prog) w 117 Tryz.zeroCells117 tb (by rw [h0.size]; exact tabType) (by rw [h0.size]; kernel_rfl) h0.one
  have hl := congrArg Array.toList htb
  simp only [Array.toList_setIfInBounds] at hl
  rw [hl] at hst
  go_enter Tryz.func63, Tryz.ntmps63
  go_wp2_with fail
  rw [← htb]
  clear hst hl htb
  exact bodyPost_ret (v := .agg tb) (results_cell_row Tryz.results63 _ _ w.heap.size 117 tb (0, 0) _ rfl (heap_alloc_last w _) Tryz.underlying117 rfl (by rw [h0.size]; exact tabType)) rfl ⟨⟨tb, h0, rfl⟩, (Below.refl _ _).alloc (Nat.le_refl _) _⟩
end Go.Proofs.YtejbgcloblpbfaaGreatDoor
namespace Go.Proofs.YtejbgcloblpbfaaGreatDoor
open Go.RowKit
def cnt (n : Nat) (listed : Array Bool) : Nat := ((List.range n).filter fun i => !listed.getD i true).length
theorem filter_lt {α : Type} {p q : α → Bool} (h : ∀ x, q x = true → p x = true) {x : α} (hp : p x = true) (hq : q x = false) : ∀ {l : List α}, x ∈ l → (l.filter q).length < (l.filter p).length
  | y :: l, hx => by
    have le : ∀ l : List α, (l.filter q).length ≤ (l.filter p).length := by
      intro l
      induction l with
      | nil => simp
      | cons z l ih =>
        rw [List.filter_cons, List.filter_cons]
        by_cases c : q z = true
        · rw [if_pos c, if_pos (h z c)]; simpa using ih
        · rw [if_neg c]
          split
          · rw [List.length_cons]; omega
          · exact ih
    rw [List.filter_cons, List.filter_cons]
    rcases List.mem_cons.1 hx with rfl | hx
    · rw [if_pos hp, if_neg (by rw [hq]; decide)]
      have := le l
      rw [List.length_cons]; omega
    · have := filter_lt h hp hq hx
      by_cases c : q y = true
      · rw [if_pos c, if_pos (h y c)]; simpa using this
      · rw [if_neg c]
        split
        · rw [List.length_cons]; omega
        · exact this
theorem mem_ready {md : Region.Mode} {ops : Array Oper} {listed : Array Bool} {i : Nat} (h : i ∈ Region.ready md ops listed) :
    i < ops.size ∧ listed.getD i true = false ∧ ∀ o, ops[i]? = some o → ∀ e ∈ o.after, Region.binds md e = true → listed.getD e.on false = true := by
  unfold Region.ready at h
  rw [List.mem_filter] at h
  obtain ⟨h1, h2⟩ := h
  rw [Bool.and_eq_true] at h2
  refine ⟨List.mem_range.1 h1, by simpa using h2.1, fun o ho e he hb => ?_⟩
  have h3 := h2.2
  rw [ho] at h3
  simp only [Option.map_some, Option.getD_some] at h3
  rw [Array.all_eq_true_iff_forall_mem] at h3
  have := h3 e he
  rw [hb] at this
  simpa using this
theorem ready_none {md : Region.Mode} {ops : Array Oper} {listed : Array Bool} (h : cnt ops.size listed = 0) : Region.ready md ops listed = [] := by
  unfold Region.ready
  rw [List.filter_eq_nil_iff]
  intro i hi hc
  unfold cnt at h
  have := List.eq_nil_of_length_eq_zero h
  rw [List.filter_eq_nil_iff] at this
  rw [Bool.and_eq_true] at hc
  exact this i hi hc.1
theorem getD_set {listed : Array Bool} {i : Nat} (hi : i < listed.size) (j : Nat) (d : Bool) : (listed.setIfInBounds i true).getD j d = if j = i then true else listed.getD j d := by
  rw [Array.getD_eq_getD_getElem?, Array.getD_eq_getD_getElem?]
  by_cases c : j = i
  · subst c
    rw [Array.getElem?_setIfInBounds_self_of_lt hi, if_pos rfl]; rfl
  · rw [Array.getElem?_setIfInBounds_ne (fun e => c e.symm), if_neg c]
theorem wpAny_inv {P : Program} {ops : Array Oper} {Q : Exit → Act → World → Prop} {md : Region.Mode} (I : Array Bool → Act → World → Prop)
    (step : ∀ listed a w i, listed.size = ops.size → I listed a w → i ∈ Region.ready md ops listed → wpOp P ops Q i (I (listed.setIfInBounds i true)) a w)
    (fin : ∀ listed a w, listed.size = ops.size → I listed a w → Region.ready md ops listed = [] → Q .normal a w) :
    ∀ (fuel : Nat) (listed : Array Bool) (a : Act) (w : World), listed.size = ops.size → cnt ops.size listed ≤ fuel → I listed a w → wpAny P md ops Q fuel listed a w := by
  intro fuel
  induction fuel with
  | zero =>
    intro listed a w hs hc hI
    have hr := ready_none (md := md) (ops := ops) (listed := listed) (by omega)
    exact ⟨hr, fin listed a w hs hI hr⟩
  | succ fuel ih =>
    intro listed a w hs hc hI
    refine ⟨fun hr => fin listed a w hs hI hr, fun i hi => ?_⟩
    obtain ⟨m1, m2, _⟩ := mem_ready hi
    refine wpOp_mono (fun a' w' h => ih _ a' w' (by rw [Array.size_setIfInBounds]; exact hs) ?_ h) (step listed a w i hs hI hi)
    have : cnt ops.size (listed.setIfInBounds i true) < cnt ops.size listed := by
      unfold cnt
      refine filter_lt (x := i) (fun x hx => ?_) ?_ ?_ (List.mem_range.2 m1)
      · rw [getD_set (by omega)] at hx
        by_cases c : x = i
        · rw [if_pos c] at hx; cases hx
        · rw [if_neg c] at hx; exact hx
      · rw [m2]; rfl
      · rw [getD_set (by omega), if_pos rfl]; rfl
    omega
theorem all_listed {md : Region.Mode} {ops : Array Oper} {listed : Array Bool} (hb : (List.range ops.size).all (fun i => ((ops[i]?).map (·.after.all fun e => decide (e.on < i))).getD true) = true) (h : Region.ready md ops listed = []) :
    ∀ i, i < ops.size → listed.getD i true = true := by
  intro i
  induction i using Nat.strongRecOn with
  | ind i ih =>
    intro hi
    cases c : listed.getD i true with
    | true => rfl
    | false =>
      exfalso
      have : i ∈ Region.ready md ops listed := by
        unfold Region.ready
        rw [List.mem_filter]
        refine ⟨List.mem_range.2 hi, ?_⟩
        rw [Bool.and_eq_true]
        refine ⟨by rw [c]; rfl, ?_⟩
        obtain ⟨o, ho⟩ : ∃ o, ops[i]? = some o := ⟨_, Array.getElem?_eq_getElem hi⟩
        rw [ho]
        simp only [Option.map_some, Option.getD_some]
        rw [Array.all_eq_true_iff_forall_mem]
        intro e he
        have hb' := (List.all_eq_true.1 hb) i (List.mem_range.2 hi)
        rw [ho] at hb'
        simp only [Option.map_some, Option.getD_some] at hb'
        rw [Array.all_eq_true_iff_forall_mem] at hb'
        have hlt : e.on < i := by simpa using hb' e he
        have hl := ih e.on hlt (by omega)
        rw [Bool.or_eq_true]
        right
        rw [Array.getD_eq_getD_getElem?] at hl ⊢
        cases hx : listed[e.on]? with
        | none =>
          exfalso
          have := Array.getElem?_eq_none_iff.1 hx
          have hc := c
          rw [Array.getD_eq_getD_getElem?, Array.getElem?_eq_none (by omega)] at hc
          cases hc
        | some u => rw [hx] at hl; simpa using hl
      rw [h] at this
      cases this
def Cl (md : Region.Mode) (ops : Array Oper) (listed : Array Bool) : Prop := ∀ i o, ops[i]? = some o → listed.getD i false = true → ∀ e ∈ o.after, Region.binds md e = true → listed.getD e.on false = true
theorem wpAny_cl {P : Program} {ops : Array Oper} {Q : Exit → Act → World → Prop} {md : Region.Mode} (I : Array Bool → Act → World → Prop)
    (step : ∀ listed a w i, listed.size = ops.size → Cl md ops listed → I listed a w → i ∈ Region.ready md ops listed → wpOp P ops Q i (I (listed.setIfInBounds i true)) a w)
    (fin : ∀ listed a w, listed.size = ops.size → I listed a w → Region.ready md ops listed = [] → Q .normal a w) (a : Act) (w : World) (h0 : I (Array.replicate ops.size false) a w) :
    wpAny P md ops Q ops.size (Array.replicate ops.size false) a w := by
  refine wpAny_inv (I := fun listed a w => Cl md ops listed ∧ I listed a w) ?_ ?_ _ _ _ _ (by simp) ?_ ⟨?_, h0⟩
  · intro listed a w i hs hI hi
    obtain ⟨m1, m2, m3⟩ := mem_ready hi
    refine wpOp_mono (fun a' w' h => ⟨?_, h⟩) (step listed a w i hs hI.1 hI.2 hi)
    intro j o ho hj e he hb
    rw [getD_set (by omega)] at hj ⊢
    by_cases c : e.on = i
    · rw [if_pos c]
    · rw [if_neg c]
      by_cases d : j = i
      · subst d; exact m3 o ho e he hb
      · rw [if_neg d] at hj; exact hI.1 j o ho hj e he hb
  · intro listed a w hs hI hr
    exact fin listed a w hs hI.2 hr
  · unfold cnt
    exact Nat.le_trans (List.length_filter_le _ _) (by simp)
  · intro j o ho hj
    exfalso
    rw [Array.getD_eq_getD_getElem?] at hj
    cases hx : (Array.replicate ops.size false)[j]? with
    | none => rw [hx] at hj; cases hj
    | some u =>
      rw [hx] at hj
      have := Array.mem_of_getElem? hx
      rw [Array.mem_replicate] at this
      rw [this.2] at hj
      cases hj
theorem eval_put_self {a : Act} {d : Nat} {v : Value} (h : d < a.tmps.size) : (a.put (some d) v).eval (.tmp d) = v := by
  show ((a.put (some d) v).tmps.getD d undef) = v
  unfold Act.put
  simp only
  rw [Array.getD_eq_getD_getElem?, Array.getElem?_setIfInBounds_self_of_lt h]
  rfl
theorem eval_put_ne {a : Act} {d t : Nat} {v : Value} (h : ¬ t = d) : (a.put (some d) v).eval (.tmp t) = a.eval (.tmp t) :=
  Act.eval_put (fun d' hd e => by cases hd; cases e; exact h rfl)
theorem put_size {a : Act} {d : Option Nat} {v : Value} : (a.put d v).tmps.size = a.tmps.size := by
  unfold Act.put
  cases d <;> simp
theorem put_defers {a : Act} {d : Option Nat} {v : Value} : (a.put d v).defers = a.defers := by
  unfold Act.put
  cases d <;> rfl
end Go.Proofs.YtejbgcloblpbfaaGreatDoor
namespace Go.Proofs.YtejbgcloblpbfaaGreatDoor
open Go.RowKit
open R (Tok tk)
open K (Nm S Scans)
theorem less_name (q b : Nat) (d : Int) (u : FrameMode) (w : World) (hd : 0 ≤ d ∧ d ≤ 100) (cq : w.cell? ⟨q, 0, none⟩ = some (PT b)) (c5 : w.cell? ⟨b, 5, none⟩ = some (.int .i64 d)) (f5 : w.frozen? ⟨b, 5, none⟩ = false) :
    CallsD Tryz.prog 134 #[.pointer (some ⟨q, 0, none⟩)] u w fun e u' w' => u' = u ∧ (e = .returned (.tuple #[]) ∧ w' = w.setCell ⟨b, 5, none⟩ (.int .i64 (d + -1))) := by
  obtain ⟨d0, d1⟩ := hd
  have e : d - 1 = d + -1 := by omega
  have HE := hide e
  clear e
  go_enter_d Tryz.func134, Tryz.ntmps134
  go_wp2
  go_end0
  exact ⟨rfl, by rw [← HE.out]⟩
set_option maxHeartbeats 1000000 in
theorem inBr_name {w : World} {b : Nat} {s : ByteArray} {T : List Tok} {σ σ4 : S} {v : Value} (hS : Scans s T) (h : CR w b s T σ v) (d0 : 0 ≤ σ.depth) (d1 : σ.depth ≤ 50) (hd4 : σ4.depth = σ.depth + 1) (N : Nm)
    (hI : ∀ w1, CR w1 b s T (K.opened T σ) v → But b w w1 → Calls Tryz.prog 105 #[PT b, .int .i64 (tk T σ.i).p] w1 fun x w' => x = .returned (nmV N) ∧ CR w' b s T σ4 v ∧ But b w1 w') :
    Calls Tryz.prog 104 #[PT b, .func (.func 105) #[PT b] #[]] w fun x w' => x = .returned (nmV N) ∧ CR w' b s T (K.closed T σ4) v ∧ But b w w' := by
  have hmf : ∀ (fn : Fn) (first cap : Array Value) (w : World), (Instr.makeFunc fn first cap).run Tryz.prog w = .ok (.func fn first cap) w := fun _ _ _ _ => rfl
  have h0 := (h.alloc (.cells #[PT b] 134 (0, 0))).alloc (.cells #[.string ⟨#[]⟩, .int .i64 0, .bool false, .int .i64 0, .int .i64 0] 96 (0, 0))
  have hlt := h.cells.lt
  have hvl : ∀ k, v.ownBlock = some k → k < w.heap.size := fun k hk => (h.ne hk).2
  have nq : w.heap.size ≠ b := by omega
  have q0 := (At.alloc_new w [PT b] 134).alloc (.cells #[.string ⟨#[]⟩, .int .i64 0, .bool false, .int .i64 0, .int .i64 0] 96 (0, 0))
  have e0 : At ((w.alloc (.cells #[PT b] 134 (0, 0))).alloc (.cells #[.string ⟨#[]⟩, .int .i64 0, .bool false, .int .i64 0, .int .i64 0] 96 (0, 0))) (w.heap.size + 1) 96 [.string ⟨#[]⟩, .int .i64 0, .bool false, .int .i64 0, .int .i64 0] := by
    have e : (w.alloc (.cells #[PT b] 134 (0, 0))).heap.size = w.heap.size + 1 := by simp
    have := At.alloc_new (w.alloc (.cells #[PT b] 134 (0, 0))) [.string ⟨#[]⟩, .int .i64 0, .bool false, .int .i64 0, .int .i64 0] 96
    rw [e] at this
    exact this
  have nr : w.heap.size + 1 ≠ b := by omega
  have BB : But b w ((w.alloc (.cells #[PT b] 134 (0, 0))).alloc (.cells #[.string ⟨#[]⟩, .int .i64 0, .bool false, .int .i64 0, .int .i64 0] 96 (0, 0))) := ((But.refl b w).alloc _).alloc _
  obtain ⟨x0, x1, x2, x3, x4⟩ := N
  unfold nmV at hI
  dsimp only at hI
  have c2 := h.c 2 _ rfl
  have hex := expect_c hS h0 ⟨#[40]⟩
  rw [list40] at hex
  have E1 : K.expect T [40] σ = K.op1 T σ := rfl
  rw [E1] at hex
  have hfl := fun (w' : World) (h' : CR w' b s T (K.op1 T σ) v) => kfail_c hS h' 6 (tk T σ.i).p
  have hcl := fun (w' : World) (h' : CR w' b s T σ4 v) => expect_c hS h' ⟨#[41]⟩
  rw [list41] at hcl
  have E2 : K.expect T [41] σ4 = K.cl1 T σ4 := rfl
  rw [E2] at hcl
  have HO : Hid (K.op2 T σ = if (K.op1 T σ).depth = 10 then K.fail T 6 (tk T σ.i).p (K.op1 T σ) else K.op1 T σ) := rfl
  have HOP : Hid (K.opened T σ = K.deeper 1 (K.op2 T σ)) := rfl
  have HCL : Hid (K.closed T σ4 = K.deeper (-1) (K.cl1 T σ4)) := rfl
  have kd1 : Hid ((K.op1 T σ).depth = σ.depth) := (K.op1_keeps T σ).depth
  have kd2 : Hid ((K.op2 T σ).depth = σ.depth) := (K.op2_keeps T σ).depth
  have kd4 : Hid ((K.cl1 T σ4).depth = σ.depth + 1) := (K.cl1_keeps T σ4).depth.trans hd4
  generalize K.opened T σ = σ3 at *
  generalize K.closed T σ4 = σ6 at *
  generalize K.op2 T σ = σ2 at *
  generalize K.op1 T σ = σ1 at *
  generalize K.cl1 T σ4 = σ5 at *
  generalize (tk T σ.i).p = tp at *
  clear E1 E2 hd4
  go_enter_defers Tryz.func104, Tryz.ntmps104
  go_wp2_with fail
  refine hex.mono ?_
  rintro x w1 ⟨rfl, hr1, hb1⟩
  have qa := q0.of_block (hb1.block _ q0.lt nq)
  have qc := qa.cell 0
  have c5 := hr1.c 5 _ rfl
  simp only [List.getElem?_cons_zero] at qc
  clear hex
  go_upto_if 18 with fail
  go_cut [18] from 19 to 21 (fun _ wr => CR wr b s T σ2 v ∧ But b ((w.alloc (.cells #[PT b] 134 (0, 0))).alloc (.cells #[.string ⟨#[]⟩, .int .i64 0, .bool false, .int .i64 0, .int .i64 0] 96 (0, 0))) wr)
  case first =>
    by_cases h10 : σ1.depth = 10
    · have e := HO.out
      rw [if_pos h10] at e
      have HE := hide e
      have h10' := beq_yes h10
      clear e h10
      rw [h10']
      go_wp2_with fail
      refine (hfl _ hr1).mono ?_
      rintro x w2 ⟨rfl, hr2, hb2⟩
      go_wp2_with fail
      go_meet
      case rel => rw [HE.out]; exact ⟨hr2, hb1.trans hb2⟩
    · have e := HO.out
      rw [if_neg h10] at e
      have HE := hide e
      have h10' := beq_no h10
      clear e h10
      rw [h10']
      go_wp2_with fail
      go_meet
      case rel => rw [HE.out]; exact ⟨hr1, hb1⟩
  case rest =>
    obtain ⟨hr2, hb2⟩ := hcut
    clear hr1 hb1 qa qc c5 hfl HO
    have qa := q0.of_block (hb2.block _ q0.lt nq)
    have qc := qa.cell 0
    simp only [List.getElem?_cons_zero] at qc
    have c5 : wc.cell? ⟨b, 5, none⟩ = some (.int .i64 σ.depth) := by rw [← kd2.out]; exact hr2.c 5 _ rfl
    have f5 := hr2.cells.frozen 5
    have D := hr2.depth 1
    rw [kd2.out, ← HOP.out] at D
    go_wp2_with fail
    generalize wc.setCell ⟨b, 5, none⟩ (.int .i64 (σ.depth + 1)) = w3 at *
    have B3 := hb2.trans D.2
    have qa3 := q0.of_block (B3.block _ q0.lt nq)
    refine (hI _ D.1 (BB.trans B3)).mono ?_
    rintro x w4 ⟨rfl, hr4, hb4⟩
    have B4 := B3.trans hb4
    have qa4 := q0.of_block (B4.block _ q0.lt nq)
    have qc4 := qa4.cell 0
    have lq4 := qa4.lt
    simp only [List.getElem?_cons_zero] at qc4
    have hr4a := hr4.alloc (.cells #[.string x0, .int .i64 x1, .bool x2, .int .i64 x3, .int .i64 x4] 96 (0, 0))
    have B4a := B4.alloc (.cells #[.string x0, .int .i64 x1, .bool x2, .int .i64 x3, .int .i64 x4] 96 (0, 0))
    have m4 := At.alloc_new w4 [.string x0, .int .i64 x1, .bool x2, .int .i64 x3, .int .i64 x4] 96
    have n4 := hr4.cells.lt
    clear hI D qc c5 f5 qa hr2 hb2
    go_wp2_with fail
    refine (hcl _ hr4a).mono ?_
    rintro x w5 ⟨rfl, hr5, hb5⟩
    have B5 := B4a.trans hb5
    have qa5 := q0.of_block (B5.block _ q0.lt nq)
    have qc5 := qa5.cell 0
    simp only [List.getElem?_cons_zero] at qc5
    have m5 := m4.of_block (hb5.block _ m4.lt (by omega))
    have j0 := m5.cell 0
    have j1 := m5.cell 1
    have j2 := m5.cell 2
    have j3 := m5.cell 3
    have j4 := m5.cell 4
    simp only [List.getElem?_cons_zero, List.getElem?_cons_succ] at j0 j1 j2 j3 j4
    have RB := e0.of_block (B5.block _ e0.lt nr)
    have r0 := RB.cell 0
    have r1 := RB.cell 1
    have r2 := RB.cell 2
    have r3 := RB.cell 3
    have r4 := RB.cell 4
    simp only [List.getElem?_cons_zero, List.getElem?_cons_succ] at r0 r1 r2 r3 r4
    have y0 := RB.frozen 0
    have y1 := RB.frozen 1
    have y2 := RB.frozen 2
    have y3 := RB.frozen 3
    have y4 := RB.frozen 4
    have RZ := ((((RB.set 0 (.string x0)).set 1 (.int .i64 x1)).set 2 (.bool x2)).set 3 (.int .i64 x3)).set 4 (.int .i64 x4)
    have sz1 : (w.alloc (.cells #[PT b] 134 (0, 0))).heap.size = w.heap.size + 1 := by simp
    have CZ := put5 (w := w.alloc (.cells #[PT b] 134 (0, 0))) hr5 B5 (by omega) (fun k e => by have := hvl k e; omega) (.string x0) (.int .i64 x1) (.bool x2) (.int .i64 x3) (.int .i64 x4)
    rw [sz1] at CZ
    go_wp2_with fail
    generalize ((((w5.setCell ⟨w.heap.size + 1, 0, none⟩ (.string x0)).setCell ⟨w.heap.size + 1, 1, none⟩ (.int .i64 x1)).setCell ⟨w.heap.size + 1, 2, none⟩ (.bool x2)).setCell ⟨w.heap.size + 1, 3, none⟩ (.int .i64 x3)).setCell ⟨w.heap.size + 1, 4, none⟩ (.int .i64 x4) = W6 at *
    have qa6 := (At.alloc_new w [PT b] 134).of_block (CZ.2.block w.heap.size (by omega) nq)
    have qc6 := qa6.cell 0
    simp only [List.getElem?_cons_zero] at qc6
    have x5 : W6.cell? ⟨b, 5, none⟩ = some (.int .i64 (σ.depth + 1)) := by rw [← kd4.out]; exact CZ.1.c 5 _ rfl
    have y5 := CZ.1.cells.frozen 5
    have D5 := CZ.1.depth (-1)
    rw [kd4.out, ← HCL.out] at D5
    have RF := RZ.set_other (a := ⟨b, 5, none⟩) nr (.int .i64 (σ.depth + 1 + -1))
    refine leaves_cons (f := 134) (args := #[.pointer (some ⟨w.heap.size, 0, none⟩)]) (by simp) (by simp [go_sem]) ?_
    refine (less_name w.heap.size b (σ.depth + 1) .returning _ ⟨by omega, by omega⟩ qc6 x5 y5).mono ?_
    rintro e u' w6 ⟨rfl, rfl, rfl⟩
    generalize W6.setCell ⟨b, 5, none⟩ (.int .i64 (σ.depth + 1 + -1)) = W7 at *
    have z0 : W7.cell? ⟨w.heap.size + 1, 0, none⟩ = some (.string x0) := RF.cell 0
    have z1 : W7.cell? ⟨w.heap.size + 1, 1, none⟩ = some (.int .i64 x1) := RF.cell 1
    have z2 : W7.cell? ⟨w.heap.size + 1, 2, none⟩ = some (.bool x2) := RF.cell 2
    have z3 : W7.cell? ⟨w.heap.size + 1, 3, none⟩ = some (.int .i64 x3) := RF.cell 3
    have z4 : W7.cell? ⟨w.heap.size + 1, 4, none⟩ = some (.int .i64 x4) := RF.cell 4
    refine ⟨nmV ⟨x0, x1, x2, x3, x4⟩, by simp [results, Tryz.results104, go_sem, nmV, z0, z1, z2, z3, z4], rfl, D5.1, (((But.refl b w).alloc _).trans CZ.2).trans D5.2⟩
end Go.Proofs.YtejbgcloblpbfaaGreatDoor
