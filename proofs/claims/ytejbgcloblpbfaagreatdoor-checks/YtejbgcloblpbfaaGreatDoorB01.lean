import Derived.Test.YtejbgcloblpbfaaGreatDoorProg
import Derived.WalkKit
import Derived.WalkSpells
import Derived.WalkLawsBesides
import Derived.BigRegion
import Derived.BigQuiet
import Derived.Deep.RegionLaw
namespace Go.Proofs.YtejbgcloblpbfaaGreatDoor
open Go.RowKit
theorem hide {p : Prop} (h : p) : Hid p := h
theorem beq_no {α : Type} [BEq α] [LawfulBEq α] {a b : α} (h : ¬ a = b) : (a == b) = false := by simpa using h
theorem beq_yes {α : Type} [BEq α] [LawfulBEq α] {a b : α} (h : a = b) : (a == b) = true := by simpa using h
def At (w : World) (b : Nat) (t : TypeId) (cs : List Value) : Prop := w.heap[b]? = some (.cells cs.toArray t (0, 0))
theorem At.lt {w : World} {b : Nat} {t : TypeId} {cs : List Value} (h : At w b t cs) : b < w.heap.size := by
  unfold At at h
  exact (Array.getElem?_eq_some_iff.1 h).1
theorem At.cell {w : World} {b : Nat} {t : TypeId} {cs : List Value} (h : At w b t cs) (i : Nat) : w.cell? ⟨b, i, none⟩ = cs[i]? := by
  unfold At at h
  simp [World.cell?, h]
theorem At.frozen {w : World} {b : Nat} {t : TypeId} {cs : List Value} (h : At w b t cs) (i : Nat) : w.frozen? ⟨b, i, none⟩ = false := by
  unfold At at h
  simp [World.frozen?, h]
theorem At.of_block {w w' : World} {b : Nat} {t : TypeId} {cs : List Value} (h : At w b t cs) (e : w'.heap[b]? = w.heap[b]?) : At w' b t cs := by
  unfold At at *
  rw [e]; exact h
theorem At.drew {w : World} {b : Nat} {t : TypeId} {cs : List Value} (h : At w b t cs) : At w.drew b t cs := h
theorem heap_alloc_old (w : World) (o : Obj) (k : Nat) (h : k < w.heap.size) : (w.alloc o).heap[k]? = w.heap[k]? := Below.heap_alloc w o k h
theorem At.alloc {w : World} {b : Nat} {t : TypeId} {cs : List Value} (h : At w b t cs) (o : Obj) : At (w.alloc o) b t cs :=
  h.of_block (heap_alloc_old _ _ _ h.lt)
theorem At.alloc_new (w : World) (cs : List Value) (t : TypeId) : At (w.alloc (.cells cs.toArray t (0, 0))) w.heap.size t cs := by
  show (w.heap.push _)[w.heap.size]? = _
  simp
theorem At.set {w : World} {b : Nat} {t : TypeId} {cs : List Value} (h : At w b t cs) (i : Nat) (v : Value) : At (w.setCell ⟨b, i, none⟩ v) b t (cs.set i v) := by
  unfold At at *
  simp [World.setCell, Array.getElem?_modify, h]
theorem At.set_other {w : World} {b : Nat} {t : TypeId} {cs : List Value} (h : At w b t cs) {a : Addr} (ne : b ≠ a.block) (v : Value) : At (w.setCell a v) b t cs :=
  h.of_block (Below.heap_setCell _ _ _ _ ne)
structure But (b : Nat) (w w' : World) : Prop where
  os : w'.os = w.os
  tape : w'.tape = w.tape
  output : w'.output = w.output
  size : w.heap.size ≤ w'.heap.size
  block : ∀ k, k < w.heap.size → k ≠ b → w'.heap[k]? = w.heap[k]?
theorem But.refl (b : Nat) (w : World) : But b w w := ⟨rfl, rfl, rfl, Nat.le_refl _, fun _ _ _ => rfl⟩
theorem But.trans {b : Nat} {a c d : World} (h : But b a c) (k : But b c d) : But b a d :=
  ⟨k.os.trans h.os, k.tape.trans h.tape, k.output.trans h.output, Nat.le_trans h.size k.size, fun i hi ne => (k.block i (Nat.lt_of_lt_of_le hi h.size) ne).trans (h.block i hi ne)⟩
theorem But.drew {b : Nat} {a w : World} (h : But b a w) : But b a w.drew := ⟨h.os, h.tape, h.output, h.size, h.block⟩
theorem But.alloc {b : Nat} {a w : World} (h : But b a w) (o : Obj) : But b a (w.alloc o) :=
  h.trans ⟨rfl, rfl, rfl, by simp, fun k hk _ => heap_alloc_old _ _ _ hk⟩
theorem But.set {b : Nat} {a w : World} (h : But b a w) (i : Nat) (v : Value) : But b a (w.setCell ⟨b, i, none⟩ v) :=
  h.trans ⟨rfl, rfl, rfl, by simp [World.setCell], fun _ _ ne => Below.heap_setCell _ _ _ _ ne⟩
theorem But.set_new {b : Nat} {a w : World} (h : But b a w) {p : Addr} (hp : a.heap.size ≤ p.block) (v : Value) : But b a (w.setCell p v) :=
  ⟨h.os, h.tape, h.output, by simpa [World.setCell] using h.size, fun k hk ne => (Below.heap_setCell _ _ _ _ (by omega)).trans (h.block k hk ne)⟩
def Foot (w : World) (b k : Nat) : Prop := k = b ∨ (∃ i v, w.cell? ⟨b, i, none⟩ = some v ∧ v.ownBlock = some k) ∨
  ∃ g len cap j u, w.cell? ⟨b, 7, none⟩ = some (.slice (some ⟨g, 0, none⟩) len cap) ∧ j < len * 10 ∧ w.cell? ⟨g, j, none⟩ = some u ∧ u.ownBlock = some k
def Tight (w : World) (b : Nat) : Prop := ∀ k, Foot w b k → k < w.heap.size
theorem Foot.of_same {w w' : World} {b k : Nat} (e : ∀ k, Foot w b k → w'.heap[k]? = w.heap[k]?) (h : Foot w' b k) : Foot w b k := by
  have hc : ∀ i, w'.cell? ⟨b, i, none⟩ = w.cell? ⟨b, i, none⟩ := fun i => World.cell?_of_block (w := w) (w' := w') (a := ⟨b, i, none⟩) (e b (Or.inl rfl))
  rcases h with h | ⟨i, v, h1, h2⟩ | ⟨g, len, cap, j, u, h1, h2, h3, h4⟩
  · exact Or.inl h
  · exact Or.inr (Or.inl ⟨i, v, by rw [← hc]; exact h1, h2⟩)
  · rw [hc] at h1
    have hg : w'.heap[g]? = w.heap[g]? := e g (Or.inr (Or.inl ⟨7, _, h1, rfl⟩))
    exact Or.inr (Or.inr ⟨g, len, cap, j, u, h1, h2, by rw [← World.cell?_of_block (w := w) (w' := w') (a := ⟨g, j, none⟩) hg]; exact h3, h4⟩)
structure Moves (b : Nat) (w w' : World) : Prop where
  os : w'.os = w.os
  tape : w'.tape = w.tape
  output : w'.output = w.output
  size : w.heap.size ≤ w'.heap.size
  main : Tight w b → Tight w' b ∧ (∀ k, k < w.heap.size → ¬ Foot w b k → w'.heap[k]? = w.heap[k]?) ∧ (∀ k, k < w.heap.size → Foot w' b k → Foot w b k)
theorem Moves.refl (b : Nat) (w : World) : Moves b w w := ⟨rfl, rfl, rfl, Nat.le_refl _, fun t => ⟨t, fun _ _ _ => rfl, fun _ _ h => h⟩⟩
theorem Moves.trans {b : Nat} {a c d : World} (h : Moves b a c) (k : Moves b c d) : Moves b a d :=
  ⟨k.os.trans h.os, k.tape.trans h.tape, k.output.trans h.output, Nat.le_trans h.size k.size, fun t => by
    obtain ⟨h1, h2, h3⟩ := h.main t
    obtain ⟨k1, k2, k3⟩ := k.main h1
    exact ⟨k1, fun i hi ne => (k2 i (Nat.lt_of_lt_of_le hi h.size) (fun f => ne (h3 i hi f))).trans (h2 i hi ne), fun i hi f => h3 i hi (k3 i (Nat.lt_of_lt_of_le hi h.size) f)⟩⟩
theorem Moves.of_same {b : Nat} {w w' : World} (h1 : w'.os = w.os) (h2 : w'.tape = w.tape) (h3 : w'.output = w.output) (h4 : w.heap.size ≤ w'.heap.size) (h5 : ∀ k, k < w.heap.size → w'.heap[k]? = w.heap[k]?) : Moves b w w' :=
  ⟨h1, h2, h3, h4, fun t => ⟨fun k f => Nat.lt_of_lt_of_le (t k (Foot.of_same (fun k f => h5 k (t k f)) f)) h4, fun k hk _ => h5 k hk, fun _ _ f => Foot.of_same (fun k f => h5 k (t k f)) f⟩⟩
theorem Moves.drew {b : Nat} {a w : World} (h : Moves b a w) : Moves b a w.drew := h.trans (Moves.of_same rfl rfl rfl (Nat.le_refl _) (fun _ _ => rfl))
theorem Moves.alloc {b : Nat} {a w : World} (h : Moves b a w) (o : Obj) : Moves b a (w.alloc o) :=
  h.trans (Moves.of_same rfl rfl rfl (by simp) (fun _ hk => heap_alloc_old _ _ _ hk))
structure MovesX (X : Nat → Prop) (b : Nat) (w w' : World) : Prop where
  os : w'.os = w.os
  tape : w'.tape = w.tape
  output : w'.output = w.output
  size : w.heap.size ≤ w'.heap.size
  main : Tight w b → Tight w' b ∧ (∀ k, k < w.heap.size → ¬ Foot w b k → w'.heap[k]? = w.heap[k]?) ∧ (∀ k, k < w.heap.size → Foot w' b k → Foot w b k ∨ X k)
theorem Moves.transX {X : Nat → Prop} {b : Nat} {a c d : World} (h : Moves b a c) (k : MovesX X b c d) (hX : ∀ k, X k → a.heap.size ≤ k) : Moves b a d :=
  ⟨k.os.trans h.os, k.tape.trans h.tape, k.output.trans h.output, Nat.le_trans h.size k.size, fun t => by
    obtain ⟨h1, h2, h3⟩ := h.main t
    obtain ⟨k1, k2, k3⟩ := k.main h1
    refine ⟨k1, fun i hi ne => (k2 i (Nat.lt_of_lt_of_le hi h.size) (fun f => ne (h3 i hi f))).trans (h2 i hi ne), fun i hi f => ?_⟩
    rcases k3 i (Nat.lt_of_lt_of_le hi h.size) f with f | f
    · exact h3 i hi f
    · have := hX i f; omega⟩
structure Box (w : World) (b k : Nat) (t : TypeId) (cs : List Value) : Prop where
  here : At w k t cs
  off : ¬ Foot w b k
  tight : Tight w b
theorem Box.moves {w w' : World} {b k : Nat} {t : TypeId} {cs : List Value} (h : Box w b k t cs) (m : Moves b w w') : Box w' b k t cs :=
  ⟨h.here.of_block ((m.main h.tight).2.1 k h.here.lt h.off), fun f => h.off ((m.main h.tight).2.2 k h.here.lt f), (m.main h.tight).1⟩
theorem Box.alloc {w : World} {b k : Nat} {t : TypeId} {cs : List Value} (h : Box w b k t cs) (o : Obj) : Box (w.alloc o) b k t cs :=
  h.moves ((Moves.refl b w).alloc o)
theorem Box.drew {w : World} {b k : Nat} {t : TypeId} {cs : List Value} (h : Box w b k t cs) : Box w.drew b k t cs := h.moves (Moves.refl b w).drew
theorem Box.ne {w : World} {b k : Nat} {t : TypeId} {cs : List Value} (h : Box w b k t cs) : k ≠ b := fun e => h.off (Or.inl e)
theorem Box.c {w : World} {b k : Nat} {t : TypeId} {cs : List Value} (h : Box w b k t cs) (i : Nat) (v : Value) (e : cs[i]? = some v) : w.cell? ⟨k, i, none⟩ = some v := by
  rw [h.here.cell, e]
theorem Box.f {w : World} {b k : Nat} {t : TypeId} {cs : List Value} (h : Box w b k t cs) (i : Nat) : w.frozen? ⟨k, i, none⟩ = false := h.here.frozen i
theorem foot_set {w : World} {b : Nat} {p : Addr} (nf : ¬ Foot w b p.block) (v : Value) {k : Nat} (f : Foot (w.setCell p v) b k) : Foot w b k :=
  Foot.of_same (fun _ f' => Below.heap_setCell _ _ _ _ (fun e => nf (e ▸ f'))) f
theorem tight_set {w : World} {b : Nat} {p : Addr} (nf : ¬ Foot w b p.block) (v : Value) (t : Tight w b) : Tight (w.setCell p v) b :=
  fun k f => by have := t k (foot_set nf v f); simpa [World.setCell] using this
theorem Box.set {w : World} {b k : Nat} {t : TypeId} {cs : List Value} (h : Box w b k t cs) (i : Nat) (v : Value) : Box (w.setCell ⟨k, i, none⟩ v) b k t (cs.set i v) :=
  ⟨h.here.set i v, fun f => h.off (foot_set h.off v f), tight_set h.off v h.tight⟩
theorem Box.set_other {w : World} {b k k' : Nat} {t t' : TypeId} {cs cs' : List Value} (h : Box w b k t cs) (h' : Box w b k' t' cs') (ne : k ≠ k') (i : Nat) (v : Value) : Box (w.setCell ⟨k', i, none⟩ v) b k t cs :=
  ⟨h.here.set_other ne v, fun f => h.off (foot_set h'.off v f), tight_set h'.off v h.tight⟩
theorem Moves.set_box {a w : World} {b k : Nat} {t : TypeId} {cs : List Value} (m : Moves b a w) (h : Box w b k t cs) (hk : a.heap.size ≤ k) (i : Nat) (v : Value) : Moves b a (w.setCell ⟨k, i, none⟩ v) :=
  ⟨m.os, m.tape, m.output, by simpa [World.setCell] using m.size, fun ta => by
    obtain ⟨h1, h2, h3⟩ := m.main ta
    exact ⟨tight_set h.off v h1, fun k' hk' nf => (Below.heap_setCell _ _ _ _ (by show k' ≠ k; omega)).trans (h2 k' hk' nf), fun k' hk' f => h3 k' hk' (foot_set h.off v f)⟩⟩
end Go.Proofs.YtejbgcloblpbfaaGreatDoor
namespace Go.Proofs.YtejbgcloblpbfaaGreatDoor
namespace Y
def hg (h : List Int) (i : Nat) : Int := h.getD i 0
def sw (h : List Int) (i j : Nat) : List Int := (h.set i (hg h j)).set j (hg h i)
def upL : Nat → List Int → Nat → List Int
  | 0, h, _ => h
  | f + 1, h, j => if (j - 1) / 2 = j ∨ ¬ hg h j < hg h ((j - 1) / 2) then h else upL f (sw h ((j - 1) / 2) j) ((j - 1) / 2)
def son (h : List Int) (i n : Nat) : Nat := if 2 * i + 2 < n ∧ hg h (2 * i + 2) < hg h (2 * i + 1) then 2 * i + 2 else 2 * i + 1
def downL : Nat → List Int → Nat → Nat → List Int
  | 0, h, _, _ => h
  | f + 1, h, i, n => if 2 * i + 1 < n ∧ hg h (son h i n) < hg h i then downL f (sw h i (son h i n)) (son h i n) n else h
def Heap (h : List Int) (n : Nat) : Prop := ∀ k, 0 < k → k < n → hg h ((k - 1) / 2) ≤ hg h k
theorem sw_len (h : List Int) (i j : Nat) : (sw h i j).length = h.length := by simp [sw]
theorem hg_sw {h : List Int} {i j : Nat} (hi : i < h.length) (hj : j < h.length) (k : Nat) : hg (sw h i j) k = if k = j then hg h i else if k = i then hg h j else hg h k := by
  unfold sw hg
  rw [List.getD_eq_getElem?_getD, List.getD_eq_getElem?_getD, List.getD_eq_getElem?_getD, List.getD_eq_getElem?_getD]
  by_cases c : k = j
  · subst c
    rw [if_pos rfl, List.getElem?_set_self (by simpa using hj)]; rfl
  · rw [if_neg c, List.getElem?_set_ne (fun e => c e.symm)]
    by_cases d : k = i
    · subst d
      rw [if_pos rfl, List.getElem?_set_self hi]; rfl
    · rw [if_neg d, List.getElem?_set_ne (fun e => d e.symm)]
theorem sw_perm {h : List Int} {i j : Nat} (hi : i < h.length) (hj : j < h.length) : (sw h i j).Perm h := by
  have e1 : hg h j = h[j] := by simp [hg, List.getD_eq_getElem?_getD, hj]
  have e2 : hg h i = h[i] := by simp [hg, List.getD_eq_getElem?_getD, hi]
  unfold sw
  rw [e1, e2]
  exact List.set_set_perm hi hj
theorem upL_len : ∀ (f : Nat) (h : List Int) (j : Nat), (upL f h j).length = h.length
  | 0, _, _ => rfl
  | f + 1, h, j => by
    unfold upL
    split
    · rfl
    · rw [upL_len, sw_len]
theorem upL_perm : ∀ (f : Nat) (h : List Int) (j : Nat), j < h.length → (upL f h j).Perm h
  | 0, _, _, _ => List.Perm.refl _
  | f + 1, h, j, hj => by
    unfold upL
    split
    · exact List.Perm.refl _
    · have : (j - 1) / 2 < h.length := by omega
      exact (upL_perm f _ _ (by rw [sw_len]; exact this)).trans (sw_perm this hj)
theorem downL_len : ∀ (f : Nat) (h : List Int) (i n : Nat), (downL f h i n).length = h.length
  | 0, _, _, _ => rfl
  | f + 1, h, i, n => by
    unfold downL
    split
    · rw [downL_len, sw_len]
    · rfl
theorem son_lt {h : List Int} {i n : Nat} (hi : 2 * i + 1 < n) : son h i n < n ∧ i < son h i n := by
  unfold son
  split <;> omega
theorem downL_perm : ∀ (f : Nat) (h : List Int) (i n : Nat), i < h.length → n ≤ h.length → (downL f h i n).Perm h
  | 0, _, _, _, _, _ => List.Perm.refl _
  | f + 1, h, i, n, hi, hn => by
    unfold downL
    split
    · rename_i c
      have := son_lt (h := h) c.1
      exact (downL_perm f _ _ n (by rw [sw_len]; omega) (by rw [sw_len]; exact hn)).trans (sw_perm hi (by omega))
    · exact List.Perm.refl _
theorem downL_far : ∀ (f : Nat) (h : List Int) (i n : Nat), i < n → n ≤ h.length → ∀ k, n ≤ k → hg (downL f h i n) k = hg h k
  | 0, _, _, _, _, _, _, _ => rfl
  | f + 1, h, i, n, hi, hn, k, hk => by
    unfold downL
    split
    · rename_i c
      have := son_lt (h := h) c.1
      rw [downL_far f _ _ n this.1 (by rw [sw_len]; exact hn) k hk, hg_sw (by omega) (by omega), if_neg (by omega), if_neg (by omega)]
    · rfl
theorem upL_heap : ∀ (f : Nat) (h : List Int) (j n : Nat), j < n → n ≤ h.length → j < f → (∀ k, 0 < k → k < n → k ≠ j → hg h ((k - 1) / 2) ≤ hg h k) → (∀ k, 0 < k → k < n → (k - 1) / 2 = j → 0 < j → hg h ((j - 1) / 2) ≤ hg h k) → Heap (upL f h j) n
  | 0, _, _, _, _, _, h, _, _ => by omega
  | f + 1, h, j, n, hj, hn, hf, h1, h2 => by
    unfold upL
    split
    · rename_i c
      intro k k0 kn
      by_cases e : k = j
      · subst e
        rcases c with c | c
        · omega
        · omega
      · exact h1 k k0 kn e
    · rename_i c
      have c1 : ¬ (j - 1) / 2 = j := fun e => c (Or.inl e)
      have c2 : hg h j < hg h ((j - 1) / 2) := Int.not_le.1 (fun e => c (Or.inr (by omega)))
      have j0 : 0 < j := by omega
      have hi : (j - 1) / 2 < h.length := by omega
      have hjl : j < h.length := by omega
      have S := hg_sw hi hjl
      refine upL_heap f _ _ n (by omega) (by rw [sw_len]; exact hn) (by omega) ?_ ?_
      · intro k k0 kn kne
        rw [S, S]
        by_cases a : k = j
        · rw [if_pos a, if_neg (by omega), if_pos (by rw [a])]; omega
        · rw [if_neg a, if_neg kne]
          by_cases b : (k - 1) / 2 = j
          · rw [if_pos b]; exact h2 k k0 kn b j0
          · rw [if_neg b]
            by_cases d : (k - 1) / 2 = (j - 1) / 2
            · rw [if_pos d]
              have := h1 k k0 kn a
              rw [d] at this
              omega
            · rw [if_neg d]; exact h1 k k0 kn a
      · intro k k0 kn kp i0
        have e1 := h1 ((j - 1) / 2) i0 (by omega) (by omega)
        rw [S, S, if_neg (show ¬ ((j - 1) / 2 - 1) / 2 = j by omega), if_neg (show ¬ ((j - 1) / 2 - 1) / 2 = (j - 1) / 2 by omega)]
        by_cases a : k = j
        · rw [if_pos a]; exact e1
        · rw [if_neg a, if_neg (by omega)]
          have := h1 k k0 kn a
          rw [kp] at this
          omega
theorem downL_heap : ∀ (f : Nat) (h : List Int) (i n : Nat), i < n → n ≤ h.length → n ≤ i + f → (∀ k, 0 < k → k < n → (k - 1) / 2 ≠ i → hg h ((k - 1) / 2) ≤ hg h k) → (∀ k, 0 < k → k < n → (k - 1) / 2 = i → 0 < i → hg h ((i - 1) / 2) ≤ hg h k) → Heap (downL f h i n) n
  | 0, _, _, _, h1, _, h2, _, _ => by omega
  | f + 1, h, i, n, hi, hn, hf, h1, h2 => by
    unfold downL
    split
    · rename_i c
      have hs := son_lt (h := h) c.1
      have hle : ∀ k, 0 < k → k < n → (k - 1) / 2 = i → hg h (son h i n) ≤ hg h k := by
        intro k k0 kn kp
        have : k = 2 * i + 1 ∨ k = 2 * i + 2 := by omega
        unfold son
        rcases this with rfl | rfl
        · split <;> omega
        · split
          · omega
          · rename_i d
            exact Int.not_lt.1 (fun x => d ⟨kn, x⟩)
      have hpar : (son h i n - 1) / 2 = i := by unfold son; split <;> omega
      have S := hg_sw (h := h) (i := i) (j := son h i n) (by omega) (by omega)
      generalize son h i n = j at *
      refine downL_heap f _ _ n hs.1 (by rw [sw_len]; exact hn) (by omega) ?_ ?_
      · intro k k0 kn kp
        rw [S, S]
        by_cases a : k = j
        · subst a
          rw [if_pos rfl, if_neg (by omega), if_pos hpar]; omega
        · rw [if_neg a, if_neg kp]
          by_cases b : k = i
          · rw [if_pos b, if_neg (by omega)]
            subst b
            exact h2 j (by omega) hs.1 hpar k0
          · rw [if_neg b]
            by_cases d : (k - 1) / 2 = i
            · rw [if_pos d]; exact hle k k0 kn d
            · rw [if_neg d]; exact h1 k k0 kn d
      · intro k k0 kn kp j0
        rw [S, S, if_neg (by omega), hpar, if_pos rfl, if_neg (by omega), if_neg (by omega)]
        have := h1 k k0 kn (by omega)
        rw [kp] at this
        exact this
    · rename_i c
      intro k k0 kn
      by_cases e : (k - 1) / 2 = i
      · have h21 : 2 * i + 1 < n := by omega
        have c2 : hg h i ≤ hg h (son h i n) := Int.not_lt.1 (fun x => c ⟨h21, x⟩)
        have hle : hg h (son h i n) ≤ hg h k := by
          have : k = 2 * i + 1 ∨ k = 2 * i + 2 := by omega
          unfold son
          rcases this with rfl | rfl
          · split <;> omega
          · split
            · omega
            · rename_i d
              exact Int.not_lt.1 (fun x => d ⟨kn, x⟩)
        rw [e]; omega
      · exact h1 k k0 kn e
theorem Heap.min {h : List Int} {n : Nat} (H : Heap h n) : ∀ k, k < n → hg h 0 ≤ hg h k := by
  intro k
  induction k using Nat.strongRecOn with
  | ind k ih =>
    intro kn
    by_cases e : k = 0
    · subst e; exact Int.le_refl _
    · exact Int.le_trans (ih ((k - 1) / 2) (by omega) (by omega)) (H k (by omega) kn)
def popL (h : List Int) : List Int := downL h.length (sw h 0 (h.length - 1)) 0 (h.length - 1)
theorem popL_len (h : List Int) : (popL h).length = h.length := by unfold popL; rw [downL_len, sw_len]
theorem pop_last {h : List Int} (h0 : 0 < h.length) : hg (popL h) (h.length - 1) = hg h 0 := by
  unfold popL
  by_cases c : h.length = 1
  · rw [c]
    have : downL 1 (sw h 0 (1 - 1)) 0 (1 - 1) = sw h 0 0 := by unfold downL; rw [if_neg (by omega)]
    rw [this, hg_sw h0 h0]
    rfl
  · rw [downL_far _ _ _ _ (by omega) (by rw [sw_len]; omega) _ (Nat.le_refl _), hg_sw h0 (by omega), if_pos rfl]
theorem pop_perm {h : List Int} (h0 : 0 < h.length) : (popL h).Perm h := by
  unfold popL
  exact (downL_perm _ _ _ _ (by rw [sw_len]; exact h0) (by rw [sw_len]; omega)).trans (sw_perm h0 (by omega))
theorem pop_heap {h : List Int} (H : Heap h h.length) (h0 : 0 < h.length) : Heap (popL h) (h.length - 1) := by
  unfold popL
  by_cases c : h.length = 1
  · intro k k0 kn; omega
  · have S := hg_sw (h := h) (i := 0) (j := h.length - 1) h0 (by omega)
    refine downL_heap _ _ _ _ (by omega) (by rw [sw_len]; omega) (by omega) ?_ (fun k _ _ _ x => by omega)
    intro k k0 kn kp
    rw [S, S, if_neg (by omega), if_neg (by omega), if_neg (by omega), if_neg (by omega)]
    exact H k k0 (by omega)
theorem hg_take {h : List Int} {n k : Nat} (hk : k < n) : hg (h.take n) k = hg h k := by
  unfold hg
  rw [List.getD_eq_getElem?_getD, List.getD_eq_getElem?_getD, List.getElem?_take_of_lt hk]
theorem Heap.take {h : List Int} {n : Nat} (H : Heap h n) : Heap (h.take n) n := fun k k0 kn => by
  rw [hg_take (by omega), hg_take kn]
  exact H k k0 kn
def pushL (h : List Int) (x : Int) : List Int := upL (h.length + 1) (h ++ [x]) h.length
theorem push_perm (h : List Int) (x : Int) : (pushL h x).Perm (x :: h) := by
  unfold pushL
  exact (upL_perm _ _ _ (by simp)).trans List.perm_append_comm
theorem push_len (h : List Int) (x : Int) : (pushL h x).length = h.length + 1 := by unfold pushL; rw [upL_len]; simp
theorem push_heap {h : List Int} (H : Heap h h.length) (x : Int) : Heap (pushL h x) (h.length + 1) := by
  unfold pushL
  have e : ∀ k, k < h.length → hg (h ++ [x]) k = hg h k := by
    intro k hk
    unfold hg
    rw [List.getD_eq_getElem?_getD, List.getD_eq_getElem?_getD, List.getElem?_append_left hk]
  refine upL_heap _ _ _ _ (by omega) (by simp) (by omega) ?_ ?_
  · intro k k0 kn kne
    rw [e _ (by omega), e _ (by omega)]
    exact H k k0 (by omega)
  · intro k k0 kn kp j0
    omega
end Y
end Go.Proofs.YtejbgcloblpbfaaGreatDoor
