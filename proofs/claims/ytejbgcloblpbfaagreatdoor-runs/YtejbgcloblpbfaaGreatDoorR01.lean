import Derived.Test.YtejbgcloblpbfaaGreatDoorProg
import Derived.WalkKit
import Derived.WalkSpells
import Derived.WalkLawsBesides
import Derived.BigRegion
import Derived.BigQuiet
import Derived.Deep.RegionLaw
import Derived.Orders
import Derived.Deep.WholeRow
namespace Go.Proofs.YtejbgcloblpbfaaGreatDoor
open Go.RowKit
theorem hide {p : Prop} (h : p) : Hid p := h
theorem beq_no {α : Type} [BEq α] [LawfulBEq α] {a b : α} (h : ¬ a = b) : (a == b) = false := by simpa using h
theorem beq_yes {α : Type} [BEq α] [LawfulBEq α] {a b : α} (h : a = b) : (a == b) = true := by simpa using h
def At (w : World) (b : Nat) (t : TypeId) (cs : List Value) : Prop := w.heap[b]? = some (.cells cs.toArray t (0, 0))
theorem At.lt {w : World} {b : Nat} {t : TypeId} {cs : List Value} (h : At w b t cs) : b < w.heap.size := by
  unfold At at h
  exact (Array.getElem?_eq_some_iff.1 h).1
theorem At.cell {w : World} {b : Nat} {t : TypeId} {cs : List Value} (h : At w b t cs) (i : Nat) : w.cell? ⟨b, i, none⟩ = cs[i]? := by
  unfold At at h
  simp [World.cell?, h]
theorem At.frozen {w : World} {b : Nat} {t : TypeId} {cs : List Value} (h : At w b t cs) (i : Nat) : w.frozen? ⟨b, i, none⟩ = false := by
  unfold At at h
  simp [World.frozen?, h]
theorem At.of_block {w w' : World} {b : Nat} {t : TypeId} {cs : List Value} (h : At w b t cs) (e : w'.heap[b]? = w.heap[b]?) : At w' b t cs := by
  unfold At at *
  rw [e]; exact h
theorem At.drew {w : World} {b : Nat} {t : TypeId} {cs : List Value} (h : At w b t cs) : At w.drew b t cs := h
theorem heap_alloc_old (w : World) (o : Obj) (k : Nat) (h : k < w.heap.size) : (w.alloc o).heap[k]? = w.heap[k]? := Below.heap_alloc w o k h
theorem At.alloc {w : World} {b : Nat} {t : TypeId} {cs : List Value} (h : At w b t cs) (o : Obj) : At (w.alloc o) b t cs :=
  h.of_block (heap_alloc_old _ _ _ h.lt)
theorem At.alloc_new (w : World) (cs : List Value) (t : TypeId) : At (w.alloc (.cells cs.toArray t (0, 0))) w.heap.size t cs := by
  show (w.heap.push _)[w.heap.size]? = _
  simp
theorem At.set {w : World} {b : Nat} {t : TypeId} {cs : List Value} (h : At w b t cs) (i : Nat) (v : Value) : At (w.setCell ⟨b, i, none⟩ v) b t (cs.set i v) := by
  unfold At at *
  simp [World.setCell, Array.getElem?_modify, h]
theorem At.set_other {w : World} {b : Nat} {t : TypeId} {cs : List Value} (h : At w b t cs) {a : Addr} (ne : b ≠ a.block) (v : Value) : At (w.setCell a v) b t cs :=
  h.of_block (Below.heap_setCell _ _ _ _ ne)
structure But (b : Nat) (w w' : World) : Prop where
  os : w'.os = w.os
  tape : w'.tape = w.tape
  output : w'.output = w.output
  size : w.heap.size ≤ w'.heap.size
  block : ∀ k, k < w.heap.size → k ≠ b → w'.heap[k]? = w.heap[k]?
theorem But.refl (b : Nat) (w : World) : But b w w := ⟨rfl, rfl, rfl, Nat.le_refl _, fun _ _ _ => rfl⟩
theorem But.trans {b : Nat} {a c d : World} (h : But b a c) (k : But b c d) : But b a d :=
  ⟨k.os.trans h.os, k.tape.trans h.tape, k.output.trans h.output, Nat.le_trans h.size k.size, fun i hi ne => (k.block i (Nat.lt_of_lt_of_le hi h.size) ne).trans (h.block i hi ne)⟩
theorem But.drew {b : Nat} {a w : World} (h : But b a w) : But b a w.drew := ⟨h.os, h.tape, h.output, h.size, h.block⟩
theorem But.alloc {b : Nat} {a w : World} (h : But b a w) (o : Obj) : But b a (w.alloc o) :=
  h.trans ⟨rfl, rfl, rfl, by simp, fun k hk _ => heap_alloc_old _ _ _ hk⟩
theorem But.set {b : Nat} {a w : World} (h : But b a w) (i : Nat) (v : Value) : But b a (w.setCell ⟨b, i, none⟩ v) :=
  h.trans ⟨rfl, rfl, rfl, by simp [World.setCell], fun _ _ ne => Below.heap_setCell _ _ _ _ ne⟩
theorem But.set_new {b : Nat} {a w : World} (h : But b a w) {p : Addr} (hp : a.heap.size ≤ p.block) (v : Value) : But b a (w.setCell p v) :=
  ⟨h.os, h.tape, h.output, by simpa [World.setCell] using h.size, fun k hk ne => (Below.heap_setCell _ _ _ _ (by omega)).trans (h.block k hk ne)⟩
def Foot (w : World) (b k : Nat) : Prop := k = b ∨ (∃ i v, w.cell? ⟨b, i, none⟩ = some v ∧ v.ownBlock = some k) ∨
  ∃ g len cap j u, w.cell? ⟨b, 7, none⟩ = some (.slice (some ⟨g, 0, none⟩) len cap) ∧ j < len * 10 ∧ w.cell? ⟨g, j, none⟩ = some u ∧ u.ownBlock = some k
def Tight (w : World) (b : Nat) : Prop := ∀ k, Foot w b k → k < w.heap.size
theorem Foot.of_same {w w' : World} {b k : Nat} (e : ∀ k, Foot w b k → w'.heap[k]? = w.heap[k]?) (h : Foot w' b k) : Foot w b k := by
  have hc : ∀ i, w'.cell? ⟨b, i, none⟩ = w.cell? ⟨b, i, none⟩ := fun i => World.cell?_of_block (w := w) (w' := w') (a := ⟨b, i, none⟩) (e b (Or.inl rfl))
  rcases h with h | ⟨i, v, h1, h2⟩ | ⟨g, len, cap, j, u, h1, h2, h3, h4⟩
  · exact Or.inl h
  · exact Or.inr (Or.inl ⟨i, v, by rw [← hc]; exact h1, h2⟩)
  · rw [hc] at h1
    have hg : w'.heap[g]? = w.heap[g]? := e g (Or.inr (Or.inl ⟨7, _, h1, rfl⟩))
    exact Or.inr (Or.inr ⟨g, len, cap, j, u, h1, h2, by rw [← World.cell?_of_block (w := w) (w' := w') (a := ⟨g, j, none⟩) hg]; exact h3, h4⟩)
structure Moves (b : Nat) (w w' : World) : Prop where
  os : w'.os = w.os
  tape : w'.tape = w.tape
  output : w'.output = w.output
  size : w.heap.size ≤ w'.heap.size
  main : Tight w b → Tight w' b ∧ (∀ k, k < w.heap.size → ¬ Foot w b k → w'.heap[k]? = w.heap[k]?) ∧ (∀ k, k < w.heap.size → Foot w' b k → Foot w b k)
theorem Moves.refl (b : Nat) (w : World) : Moves b w w := ⟨rfl, rfl, rfl, Nat.le_refl _, fun t => ⟨t, fun _ _ _ => rfl, fun _ _ h => h⟩⟩
theorem Moves.trans {b : Nat} {a c d : World} (h : Moves b a c) (k : Moves b c d) : Moves b a d :=
  ⟨k.os.trans h.os, k.tape.trans h.tape, k.output.trans h.output, Nat.le_trans h.size k.size, fun t => by
    obtain ⟨h1, h2, h3⟩ := h.main t
    obtain ⟨k1, k2, k3⟩ := k.main h1
    exact ⟨k1, fun i hi ne => (k2 i (Nat.lt_of_lt_of_le hi h.size) (fun f => ne (h3 i hi f))).trans (h2 i hi ne), fun i hi f => h3 i hi (k3 i (Nat.lt_of_lt_of_le hi h.size) f)⟩⟩
theorem Moves.of_same {b : Nat} {w w' : World} (h1 : w'.os = w.os) (h2 : w'.tape = w.tape) (h3 : w'.output = w.output) (h4 : w.heap.size ≤ w'.heap.size) (h5 : ∀ k, k < w.heap.size → w'.heap[k]? = w.heap[k]?) : Moves b w w' :=
  ⟨h1, h2, h3, h4, fun t => ⟨fun k f => Nat.lt_of_lt_of_le (t k (Foot.of_same (fun k f => h5 k (t k f)) f)) h4, fun k hk _ => h5 k hk, fun _ _ f => Foot.of_same (fun k f => h5 k (t k f)) f⟩⟩
theorem Moves.drew {b : Nat} {a w : World} (h : Moves b a w) : Moves b a w.drew := h.trans (Moves.of_same rfl rfl rfl (Nat.le_refl _) (fun _ _ => rfl))
theorem Moves.alloc {b : Nat} {a w : World} (h : Moves b a w) (o : Obj) : Moves b a (w.alloc o) :=
  h.trans (Moves.of_same rfl rfl rfl (by simp) (fun _ hk => heap_alloc_old _ _ _ hk))
structure MovesX (X : Nat → Prop) (b : Nat) (w w' : World) : Prop where
  os : w'.os = w.os
  tape : w'.tape = w.tape
  output : w'.output = w.output
  size : w.heap.size ≤ w'.heap.size
  main : Tight w b → Tight w' b ∧ (∀ k, k < w.heap.size → ¬ Foot w b k → w'.heap[k]? = w.heap[k]?) ∧ (∀ k, k < w.heap.size → Foot w' b k → Foot w b k ∨ X k)
theorem Moves.transX {X : Nat → Prop} {b : Nat} {a c d : World} (h : Moves b a c) (k : MovesX X b c d) (hX : ∀ k, X k → a.heap.size ≤ k) : Moves b a d :=
  ⟨k.os.trans h.os, k.tape.trans h.tape, k.output.trans h.output, Nat.le_trans h.size k.size, fun t => by
    obtain ⟨h1, h2, h3⟩ := h.main t
    obtain ⟨k1, k2, k3⟩ := k.main h1
    refine ⟨k1, fun i hi ne => (k2 i (Nat.lt_of_lt_of_le hi h.size) (fun f => ne (h3 i hi f))).trans (h2 i hi ne), fun i hi f => ?_⟩
    rcases k3 i (Nat.lt_of_lt_of_le hi h.size) f with f | f
    · exact h3 i hi f
    · have := hX i f; omega⟩
structure Box (w : World) (b k : Nat) (t : TypeId) (cs : List Value) : Prop where
  here : At w k t cs
  off : ¬ Foot w b k
  tight : Tight w b
theorem Box.moves {w w' : World} {b k : Nat} {t : TypeId} {cs : List Value} (h : Box w b k t cs) (m : Moves b w w') : Box w' b k t cs :=
  ⟨h.here.of_block ((m.main h.tight).2.1 k h.here.lt h.off), fun f => h.off ((m.main h.tight).2.2 k h.here.lt f), (m.main h.tight).1⟩
theorem Box.alloc {w : World} {b k : Nat} {t : TypeId} {cs : List Value} (h : Box w b k t cs) (o : Obj) : Box (w.alloc o) b k t cs :=
  h.moves ((Moves.refl b w).alloc o)
theorem Box.drew {w : World} {b k : Nat} {t : TypeId} {cs : List Value} (h : Box w b k t cs) : Box w.drew b k t cs := h.moves (Moves.refl b w).drew
theorem Box.ne {w : World} {b k : Nat} {t : TypeId} {cs : List Value} (h : Box w b k t cs) : k ≠ b := fun e => h.off (Or.inl e)
theorem Box.c {w : World} {b k : Nat} {t : TypeId} {cs : List Value} (h : Box w b k t cs) (i : Nat) (v : Value) (e : cs[i]? = some v) : w.cell? ⟨k, i, none⟩ = some v := by
  rw [h.here.cell, e]
theorem Box.f {w : World} {b k : Nat} {t : TypeId} {cs : List Value} (h : Box w b k t cs) (i : Nat) : w.frozen? ⟨k, i, none⟩ = false := h.here.frozen i
theorem foot_set {w : World} {b : Nat} {p : Addr} (nf : ¬ Foot w b p.block) (v : Value) {k : Nat} (f : Foot (w.setCell p v) b k) : Foot w b k :=
  Foot.of_same (fun _ f' => Below.heap_setCell _ _ _ _ (fun e => nf (e ▸ f'))) f
theorem tight_set {w : World} {b : Nat} {p : Addr} (nf : ¬ Foot w b p.block) (v : Value) (t : Tight w b) : Tight (w.setCell p v) b :=
  fun k f => by have := t k (foot_set nf v f); simpa [World.setCell] using this
theorem Box.set {w : World} {b k : Nat} {t : TypeId} {cs : List Value} (h : Box w b k t cs) (i : Nat) (v : Value) : Box (w.setCell ⟨k, i, none⟩ v) b k t (cs.set i v) :=
  ⟨h.here.set i v, fun f => h.off (foot_set h.off v f), tight_set h.off v h.tight⟩
theorem Box.set_other {w : World} {b k k' : Nat} {t t' : TypeId} {cs cs' : List Value} (h : Box w b k t cs) (h' : Box w b k' t' cs') (ne : k ≠ k') (i : Nat) (v : Value) : Box (w.setCell ⟨k', i, none⟩ v) b k t cs :=
  ⟨h.here.set_other ne v, fun f => h.off (foot_set h'.off v f), tight_set h'.off v h.tight⟩
theorem Moves.set_box {a w : World} {b k : Nat} {t : TypeId} {cs : List Value} (m : Moves b a w) (h : Box w b k t cs) (hk : a.heap.size ≤ k) (i : Nat) (v : Value) : Moves b a (w.setCell ⟨k, i, none⟩ v) :=
  ⟨m.os, m.tape, m.output, by simpa [World.setCell] using m.size, fun ta => by
    obtain ⟨h1, h2, h3⟩ := m.main ta
    exact ⟨tight_set h.off v h1, fun k' hk' nf => (Below.heap_setCell _ _ _ _ (by show k' ≠ k; omega)).trans (h2 k' hk' nf), fun k' hk' f => h3 k' hk' (foot_set h.off v f)⟩⟩
end Go.Proofs.YtejbgcloblpbfaaGreatDoor
namespace Go.Proofs.YtejbgcloblpbfaaGreatDoor
open Go.RowKit
def cnt (n : Nat) (listed : Array Bool) : Nat := ((List.range n).filter fun i => !listed.getD i true).length
theorem filter_lt {α : Type} {p q : α → Bool} (h : ∀ x, q x = true → p x = true) {x : α} (hp : p x = true) (hq : q x = false) : ∀ {l : List α}, x ∈ l → (l.filter q).length < (l.filter p).length
  | y :: l, hx => by
    have le : ∀ l : List α, (l.filter q).length ≤ (l.filter p).length := by
      intro l
      induction l with
      | nil => simp
      | cons z l ih =>
        rw [List.filter_cons, List.filter_cons]
        by_cases c : q z = true
        · rw [if_pos c, if_pos (h z c)]; simpa using ih
        · rw [if_neg c]
          split
          · rw [List.length_cons]; omega
          · exact ih
    rw [List.filter_cons, List.filter_cons]
    rcases List.mem_cons.1 hx with rfl | hx
    · rw [if_pos hp, if_neg (by rw [hq]; decide)]
      have := le l
      rw [List.length_cons]; omega
    · have := filter_lt h hp hq hx
      by_cases c : q y = true
      · rw [if_pos c, if_pos (h y c)]; simpa using this
      · rw [if_neg c]
        split
        · rw [List.length_cons]; omega
        · exact this
theorem mem_ready {md : Region.Mode} {ops : Array Oper} {listed : Array Bool} {i : Nat} (h : i ∈ Region.ready md ops listed) :
    i < ops.size ∧ listed.getD i true = false ∧ ∀ o, ops[i]? = some o → ∀ e ∈ o.after, Region.binds md e = true → listed.getD e.on false = true := by
  unfold Region.ready at h
  rw [List.mem_filter] at h
  obtain ⟨h1, h2⟩ := h
  rw [Bool.and_eq_true] at h2
  refine ⟨List.mem_range.1 h1, by simpa using h2.1, fun o ho e he hb => ?_⟩
  have h3 := h2.2
  rw [ho] at h3
  simp only [Option.map_some, Option.getD_some] at h3
  rw [Array.all_eq_true_iff_forall_mem] at h3
  have := h3 e he
  rw [hb] at this
  simpa using this
theorem ready_none {md : Region.Mode} {ops : Array Oper} {listed : Array Bool} (h : cnt ops.size listed = 0) : Region.ready md ops listed = [] := by
  unfold Region.ready
  rw [List.filter_eq_nil_iff]
  intro i hi hc
  unfold cnt at h
  have := List.eq_nil_of_length_eq_zero h
  rw [List.filter_eq_nil_iff] at this
  rw [Bool.and_eq_true] at hc
  exact this i hi hc.1
theorem getD_set {listed : Array Bool} {i : Nat} (hi : i < listed.size) (j : Nat) (d : Bool) : (listed.setIfInBounds i true).getD j d = if j = i then true else listed.getD j d := by
  rw [Array.getD_eq_getD_getElem?, Array.getD_eq_getD_getElem?]
  by_cases c : j = i
  · subst c
    rw [Array.getElem?_setIfInBounds_self_of_lt hi, if_pos rfl]; rfl
  · rw [Array.getElem?_setIfInBounds_ne (fun e => c e.symm), if_neg c]
theorem wpAny_inv {P : Program} {ops : Array Oper} {Q : Exit → Act → World → Prop} {md : Region.Mode} (I : Array Bool → Act → World → Prop)
    (step : ∀ listed a w i, listed.size = ops.size → I listed a w → i ∈ Region.ready md ops listed → wpOp P ops Q i (I (listed.setIfInBounds i true)) a w)
    (fin : ∀ listed a w, listed.size = ops.size → I listed a w → Region.ready md ops listed = [] → Q .normal a w) :
    ∀ (fuel : Nat) (listed : Array Bool) (a : Act) (w : World), listed.size = ops.size → cnt ops.size listed ≤ fuel → I listed a w → wpAny P md ops Q fuel listed a w := by
  intro fuel
  induction fuel with
  | zero =>
    intro listed a w hs hc hI
    have hr := ready_none (md := md) (ops := ops) (listed := listed) (by omega)
    exact ⟨hr, fin listed a w hs hI hr⟩
  | succ fuel ih =>
    intro listed a w hs hc hI
    refine ⟨fun hr => fin listed a w hs hI hr, fun i hi => ?_⟩
    obtain ⟨m1, m2, _⟩ := mem_ready hi
    refine wpOp_mono (fun a' w' h => ih _ a' w' (by rw [Array.size_setIfInBounds]; exact hs) ?_ h) (step listed a w i hs hI hi)
    have : cnt ops.size (listed.setIfInBounds i true) < cnt ops.size listed := by
      unfold cnt
      refine filter_lt (x := i) (fun x hx => ?_) ?_ ?_ (List.mem_range.2 m1)
      · rw [getD_set (by omega)] at hx
        by_cases c : x = i
        · rw [if_pos c] at hx; cases hx
        · rw [if_neg c] at hx; exact hx
      · rw [m2]; rfl
      · rw [getD_set (by omega), if_pos rfl]; rfl
    omega
theorem all_listed {md : Region.Mode} {ops : Array Oper} {listed : Array Bool} (hb : (List.range ops.size).all (fun i => ((ops[i]?).map (·.after.all fun e => decide (e.on < i))).getD true) = true) (h : Region.ready md ops listed = []) :
    ∀ i, i < ops.size → listed.getD i true = true := by
  intro i
  induction i using Nat.strongRecOn with
  | ind i ih =>
    intro hi
    cases c : listed.getD i true with
    | true => rfl
    | false =>
      exfalso
      have : i ∈ Region.ready md ops listed := by
        unfold Region.ready
        rw [List.mem_filter]
        refine ⟨List.mem_range.2 hi, ?_⟩
        rw [Bool.and_eq_true]
        refine ⟨by rw [c]; rfl, ?_⟩
        obtain ⟨o, ho⟩ : ∃ o, ops[i]? = some o := ⟨_, Array.getElem?_eq_getElem hi⟩
        rw [ho]
        simp only [Option.map_some, Option.getD_some]
        rw [Array.all_eq_true_iff_forall_mem]
        intro e he
        have hb' := (List.all_eq_true.1 hb) i (List.mem_range.2 hi)
        rw [ho] at hb'
        simp only [Option.map_some, Option.getD_some] at hb'
        rw [Array.all_eq_true_iff_forall_mem] at hb'
        have hlt : e.on < i := by simpa using hb' e he
        have hl := ih e.on hlt (by omega)
        rw [Bool.or_eq_true]
        right
        rw [Array.getD_eq_getD_getElem?] at hl ⊢
        cases hx : listed[e.on]? with
        | none =>
          exfalso
          have := Array.getElem?_eq_none_iff.1 hx
          have hc := c
          rw [Array.getD_eq_getD_getElem?, Array.getElem?_eq_none (by omega)] at hc
          cases hc
        | some u => rw [hx] at hl; simpa using hl
      rw [h] at this
      cases this
def Cl (md : Region.Mode) (ops : Array Oper) (listed : Array Bool) : Prop := ∀ i o, ops[i]? = some o → listed.getD i false = true → ∀ e ∈ o.after, Region.binds md e = true → listed.getD e.on false = true
theorem wpAny_cl {P : Program} {ops : Array Oper} {Q : Exit → Act → World → Prop} {md : Region.Mode} (I : Array Bool → Act → World → Prop)
    (step : ∀ listed a w i, listed.size = ops.size → Cl md ops listed → I listed a w → i ∈ Region.ready md ops listed → wpOp P ops Q i (I (listed.setIfInBounds i true)) a w)
    (fin : ∀ listed a w, listed.size = ops.size → I listed a w → Region.ready md ops listed = [] → Q .normal a w) (a : Act) (w : World) (h0 : I (Array.replicate ops.size false) a w) :
    wpAny P md ops Q ops.size (Array.replicate ops.size false) a w := by
  refine wpAny_inv (I := fun listed a w => Cl md ops listed ∧ I listed a w) ?_ ?_ _ _ _ _ (by simp) ?_ ⟨?_, h0⟩
  · intro listed a w i hs hI hi
    obtain ⟨m1, m2, m3⟩ := mem_ready hi
    refine wpOp_mono (fun a' w' h => ⟨?_, h⟩) (step listed a w i hs hI.1 hI.2 hi)
    intro j o ho hj e he hb
    rw [getD_set (by omega)] at hj ⊢
    by_cases c : e.on = i
    · rw [if_pos c]
    · rw [if_neg c]
      by_cases d : j = i
      · subst d; exact m3 o ho e he hb
      · rw [if_neg d] at hj; exact hI.1 j o ho hj e he hb
  · intro listed a w hs hI hr
    exact fin listed a w hs hI.2 hr
  · unfold cnt
    exact Nat.le_trans (List.length_filter_le _ _) (by simp)
  · intro j o ho hj
    exfalso
    rw [Array.getD_eq_getD_getElem?] at hj
    cases hx : (Array.replicate ops.size false)[j]? with
    | none => rw [hx] at hj; cases hj
    | some u =>
      rw [hx] at hj
      have := Array.mem_of_getElem? hx
      rw [Array.mem_replicate] at this
      rw [this.2] at hj
      cases hj
theorem eval_put_self {a : Act} {d : Nat} {v : Value} (h : d < a.tmps.size) : (a.put (some d) v).eval (.tmp d) = v := by
  show ((a.put (some d) v).tmps.getD d undef) = v
  unfold Act.put
  simp only
  rw [Array.getD_eq_getD_getElem?, Array.getElem?_setIfInBounds_self_of_lt h]
  rfl
theorem eval_put_ne {a : Act} {d t : Nat} {v : Value} (h : ¬ t = d) : (a.put (some d) v).eval (.tmp t) = a.eval (.tmp t) :=
  Act.eval_put (fun d' hd e => by cases hd; cases e; exact h rfl)
theorem put_size {a : Act} {d : Option Nat} {v : Value} : (a.put d v).tmps.size = a.tmps.size := by
  unfold Act.put
  cases d <;> simp
theorem put_defers {a : Act} {d : Option Nat} {v : Value} : (a.put d v).defers = a.defers := by
  unfold Act.put
  cases d <;> rfl
end Go.Proofs.YtejbgcloblpbfaaGreatDoor
namespace Go.Proofs.YtejbgcloblpbfaaGreatDoor
open Go.RowKit
def V.opf (o : UInt8) (a b : Int) : Int :=
  if o = 43 then wrap64 (a + b) else if o = 45 then wrap64 (a - b) else if o = 42 then wrap64 (a * b)
  else if o = 47 then (if b = 0 then 0 else wrap64 (a.tdiv b)) else if o = 38 then bits .and .i64 a b else if o = 94 then bits .xor .i64 a b
  else if o = 60 then (if a < b then 1 else 0) else (if a = b then 1 else 0)
def V.isOp (o : UInt8) : Bool := o == 43 || o == 45 || o == 42 || o == 47 || o == 38 || o == 94 || o == 60 || o == 61
def V.fn (o : UInt8) : Nat :=
  if o = 43 then 82 else if o = 45 then 83 else if o = 42 then 84 else if o = 47 then 85
  else if o = 38 then 86 else if o = 94 then 87 else if o = 60 then 88 else 89
theorem truth_c (q : Bool) (w : World) : Calls Tryz.prog 111 #[.bool q] w fun x w' => x = .returned (.int .i64 (if q = true then 1 else 0)) ∧ w' = w := by
  cases q <;>
  · go_enter Tryz.func111, Tryz.ntmps111
    go_wp2_with fail
    go_ret
    exact ⟨rfl, rfl⟩
theorem w_plus (a b : Int) (w : World) : Calls Tryz.prog 82 #[.int .i64 a, .int .i64 b] w fun x w' => x = .returned (.int .i64 (wrap64 (a + b))) ∧ w' = w := by
  go_enter Tryz.func82, Tryz.ntmps82
  go_wp2_with fail
  go_ret
  exact ⟨rfl, rfl⟩
theorem w_minus (a b : Int) (w : World) : Calls Tryz.prog 83 #[.int .i64 a, .int .i64 b] w fun x w' => x = .returned (.int .i64 (wrap64 (a - b))) ∧ w' = w := by
  go_enter Tryz.func83, Tryz.ntmps83
  go_wp2_with fail
  go_ret
  exact ⟨rfl, rfl⟩
theorem w_times (a b : Int) (w : World) : Calls Tryz.prog 84 #[.int .i64 a, .int .i64 b] w fun x w' => x = .returned (.int .i64 (wrap64 (a * b))) ∧ w' = w := by
  go_enter Tryz.func84, Tryz.ntmps84
  go_wp2_with fail
  go_ret
  exact ⟨rfl, rfl⟩
theorem w_and (a b : Int) (w : World) : Calls Tryz.prog 86 #[.int .i64 a, .int .i64 b] w fun x w' => x = .returned (.int .i64 (bits .and .i64 a b)) ∧ w' = w := by
  go_enter Tryz.func86, Tryz.ntmps86
  go_wp2_with fail
  go_ret
  exact ⟨rfl, rfl⟩
theorem w_xor (a b : Int) (w : World) : Calls Tryz.prog 87 #[.int .i64 a, .int .i64 b] w fun x w' => x = .returned (.int .i64 (bits .xor .i64 a b)) ∧ w' = w := by
  go_enter Tryz.func87, Tryz.ntmps87
  go_wp2_with fail
  go_ret
  exact ⟨rfl, rfl⟩
theorem w_over (a b : Int) (w : World) : Calls Tryz.prog 85 #[.int .i64 a, .int .i64 b] w fun x w' => x = .returned (.int .i64 (if b = 0 then 0 else wrap64 (a.tdiv b))) ∧ w' = w := by
  by_cases hb : b = 0
  · subst hb
    go_enter Tryz.func85, Tryz.ntmps85
    go_wp2_with fail
    go_ret
    exact ⟨rfl, rfl⟩
  · rw [if_neg hb]
    go_enter Tryz.func85, Tryz.ntmps85
    go_wp2_with fail
    go_ret
    exact ⟨rfl, rfl⟩
theorem w_less (a b : Int) (w : World) : Calls Tryz.prog 88 #[.int .i64 a, .int .i64 b] w fun x w' => x = .returned (.int .i64 (if a < b then 1 else 0)) ∧ w' = w := by
  have ht := truth_c (decide (a < b)) w
  have e : (if decide (a < b) = true then (1 : Int) else 0) = if a < b then 1 else 0 := by simp
  rw [e] at ht
  generalize (if a < b then (1 : Int) else 0) = v at *
  go_enter Tryz.func88, Tryz.ntmps88
  go_wp2_with fail
  refine ht.mono ?_
  rintro x w1 ⟨rfl, rfl⟩
  go_wp2_with fail
  go_ret
  exact ⟨rfl, rfl⟩
theorem w_equal (a b : Int) (w : World) : Calls Tryz.prog 89 #[.int .i64 a, .int .i64 b] w fun x w' => x = .returned (.int .i64 (if a = b then 1 else 0)) ∧ w' = w := by
  have ht := truth_c (a == b) w
  have e : (if (a == b) = true then (1 : Int) else 0) = if a = b then 1 else 0 := by simp
  rw [e] at ht
  generalize (if a = b then (1 : Int) else 0) = v at *
  go_enter Tryz.func89, Tryz.ntmps89
  go_wp2_with fail
  refine ht.mono ?_
  rintro x w1 ⟨rfl, rfl⟩
  go_wp2_with fail
  go_ret
  exact ⟨rfl, rfl⟩
theorem opfn_c (o : UInt8) (ho : V.isOp o = true) (a b : Int) (w : World) : Calls Tryz.prog (V.fn o) #[.int .i64 a, .int .i64 b] w fun x w' => x = .returned (.int .i64 (V.opf o a b)) ∧ w' = w := by
  unfold V.isOp at ho
  simp only [Bool.or_eq_true, beq_iff_eq] at ho
  rcases ho with ((((((rfl | rfl) | rfl) | rfl) | rfl) | rfl) | rfl) | rfl
  · exact w_plus a b w
  · exact w_minus a b w
  · exact w_times a b w
  · exact w_over a b w
  · exact w_and a b w
  · exact w_xor a b w
  · exact w_less a b w
  · exact w_equal a b w
def V.md (a s : Int) : Int := (wrap64 (a.tmod s + s)).tmod s
theorem modulo_c (a s : Int) (hs : 1 ≤ s) (w : World) : Calls Tryz.prog 146 #[.int .i64 a, .int .i64 s] w fun x w' => x = .returned (.int .i64 (V.md a s)) ∧ w' = w := by
  go_enter Tryz.func146, Tryz.ntmps146
  go_wp2_with fail
  go_ret
  exact ⟨rfl, rfl⟩
theorem V.md_eq (a : Int) {s : Int} (h1 : 1 ≤ s) (h6 : s ≤ 6) : V.md a s = a % s := by
  unfold V.md wrap64
  have e := Int.tmod_eq_emod (a := a) (b := s)
  have h := Int.emod_nonneg a (show s ≠ 0 by omega)
  have h' := Int.emod_lt_of_pos a (show 0 < s by omega)
  have hm : a.tmod s = a % s ∨ a.tmod s = a % s - s := by
    rw [e]
    split
    · left; omega
    · right; omega
  rcases hm with hm | hm
  · rw [hm]
    have : ((a % s + s + 9223372036854775808) % 18446744073709551616 - 9223372036854775808) = a % s + s := by omega
    rw [this, Int.tmod_eq_emod_of_nonneg (by omega), Int.add_emod_right, Int.emod_emod_of_dvd _ (Int.dvd_refl s)]
  · rw [hm]
    have : ((a % s - s + s + 9223372036854775808) % 18446744073709551616 - 9223372036854775808) = a % s := by omega
    rw [this, Int.tmod_eq_emod_of_nonneg (by omega), Int.emod_emod_of_dvd _ (Int.dvd_refl s)]
structure IsTab (t : Array Value) : Prop where
  size : t.size = 256
  one : t.all (·.oneCell') = true
  fn : ∀ o, V.isOp o = true → t.toList[o.toNat]? = some (.func (.func (V.fn o)) #[] #[])
theorem is_tab : IsTab ((((((((Tryz.zeroCells117.setIfInBounds 43 (.func (.func 82) #[] #[])).setIfInBounds 45 (.func (.func 83) #[] #[])).setIfInBounds 42 (.func (.func 84) #[] #[])).setIfInBounds 47 (.func (.func 85) #[] #[])).setIfInBounds 38 (.func (.func 86) #[] #[])).setIfInBounds 94 (.func (.func 87) #[] #[])).setIfInBounds 60 (.func (.func 88) #[] #[])).setIfInBounds 61 (.func (.func 89) #[] #[])) := by
  refine ⟨by kernel_rfl, by kernel_rfl, fun o ho => ?_⟩
  unfold V.isOp at ho
  simp only [Bool.or_eq_true, beq_iff_eq] at ho
  rcases ho with ((((((rfl | rfl) | rfl) | rfl) | rfl) | rfl) | rfl) | rfl <;> kernel_rfl
theorem tabType : (Tryz.prog.info? 117).map (·.size) = some 256 := by kernel_rfl
set_option maxRecDepth 100000 in
set_option maxHeartbeats 2000000 in
theorem operations_c (w : World) : Calls Tryz.prog 63 #[] w fun x w' => (∃ t, IsTab t ∧ x = .returned (.agg t)) ∧ Below w.heap.size w w' := by
  have h0 := is_tab
  obtain ⟨tb, htb⟩ : ∃ tb, tb = (((((((Tryz.zeroCells117.setIfInBounds 43 (.func (.func 82) #[] #[])).setIfInBounds 45 (.func (.func 83) #[] #[])).setIfInBounds 42 (.func (.func 84) #[] #[])).setIfInBounds 47 (.func (.func 85) #[] #[])).setIfInBounds 38 (.func (.func 86) #[] #[])).setIfInBounds 94 (.func (.func 87) #[] #[])).setIfInBounds 60 (.func (.func 88) #[] #[])).setIfInBounds 61 (.func (.func 89) #[] #[]) := ⟨_, rfl⟩
  rw [← htb] at h0
  have hst := run_storeCells_new (P := Tryz.prog) w 117 Tryz.zeroCells117 tb (by rw [h0.size]; exact tabType) (by rw [h0.size]; kernel_rfl) h0.one
  have hl := congrArg Array.toList htb
  simp only [Array.toList_setIfInBounds] at hl
  rw [hl] at hst
  go_enter Tryz.func63, Tryz.ntmps63
  go_wp2_with fail
  rw [← htb]
  clear hst hl htb
  exact bodyPost_ret (v := .agg tb) (results_cell_row Tryz.results63 _ _ w.heap.size 117 tb (0, 0) _ rfl (heap_alloc_last w _) Tryz.underlying117 rfl (by rw [h0.size]; exact tabType)) rfl ⟨⟨tb, h0, rfl⟩, (Below.refl _ _).alloc (Nat.le_refl _) _⟩
end Go.Proofs.YtejbgcloblpbfaaGreatDoor
