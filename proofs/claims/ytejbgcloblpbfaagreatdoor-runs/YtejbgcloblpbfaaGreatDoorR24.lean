import Derived.Test.YtejbgcloblpbfaaGreatDoorR21
import Derived.Test.YtejbgcloblpbfaaGreatDoorR04
import Derived.Deep.CutBlock
namespace Go.Proofs.YtejbgcloblpbfaaGreatDoor
open Go.RowKit
open R (Tok Thing Nd PS)
theorem Rep.newS {w w' : World} {b : Nat} {T : List Tok} {σ : PS} {r : RV} (h : Rep w b T σ r) {v' : Value} {l : List Thing} (hat : At w' b 35 ((pcs σ r).set 4 v')) (row : w'.ownsRow 0 111 5 v' l.length (l.flatMap thingCells))
    (own : ∀ k, v'.ownBlock = some k → r.S.ownBlock = some k ∨ w.heap.size ≤ k) (os : w'.os = w.os) (tape : w'.tape = w.tape) (output : w'.output = w.output) (size : w.heap.size ≤ w'.heap.size)
    (block : ∀ k, k < w.heap.size → k ≠ b → r.S.ownBlock ≠ some k → w'.heap[k]? = w.heap[k]?) : Rep w' b T { σ with seen := l } { r with S := v' } ∧ Moves b w w' := by
  obtain ⟨xs, hx, hxl, hxs, hf⟩ := h.foot
  have hb := h.cells
  unfold At at hb
  have keep : ∀ {e size u m ys}, w.ownsRow 0 e size u m ys → e ≠ 35 → e ≠ 111 → w'.ownsRow 0 e size u m ys := by
    intro e size u m ys hu he he2
    refine ownsRow_of hu fun k hk => ?_
    obtain ⟨cur, hc⟩ := ownsRow_block hu hk
    refine block k (heap_lt hc) (fun e' => ?_) (fun e' => ?_)
    · rw [e', hb] at hc
      simp at hc
      exact he hc.2.symm
    · obtain ⟨cur', hc'⟩ := ownsRow_block h.seen e'
      rw [hc'] at hc
      simp at hc
      exact he2 hc.2.symm
  have hx' : w'.ownsRow 0 145 10 r.N σ.nodes.length xs.flatten := keep hx (by decide) (by decide)
  have hrep : Rep w' b T { σ with seen := l } { r with S := v' } :=
    ⟨hat, keep h.toks (by decide) (by decide), row, ⟨xs, hx', hxl, fun k c n hc hnn => by
      obtain ⟨lv, tv, e, i1, i2⟩ := hxs k c n hc hnn
      exact ⟨lv, tv, e, keep i1 (by decide) (by decide), keep i2 (by decide) (by decide)⟩⟩, keep h.shape (by decide) (by decide), keep h.does (by decide) (by decide), h.lt, h.few⟩
  have hf' := foot_iff (σ := { σ with seen := l }) (r := { r with S := v' }) hat hx' hxl fun k c n hc hnn => by obtain ⟨lv, tv, e, _⟩ := hxs k c n hc hnn; exact ⟨lv, tv, e⟩
  refine ⟨hrep, os, tape, output, size, fun _ => ⟨hrep.tight, fun k hk nf => ?_, fun k hk f => ?_⟩⟩
  · exact block k hk (fun e => nf ((hf k).2 (Or.inl e))) (fun e => nf ((hf k).2 (Or.inr (Or.inl (Or.inr (Or.inl e))))))
  · rcases (hf' k).1 f with f | f | f
    · exact (hf k).2 (Or.inl f)
    · rcases f with f | f | f | f | f
      · exact (hf k).2 (Or.inr (Or.inl (Or.inl f)))
      · rcases own k f with f | f
        · exact (hf k).2 (Or.inr (Or.inl (Or.inr (Or.inl f))))
        · omega
      · exact (hf k).2 (Or.inr (Or.inl (Or.inr (Or.inr (Or.inl f)))))
      · exact (hf k).2 (Or.inr (Or.inl (Or.inr (Or.inr (Or.inr (Or.inl f))))))
      · exact (hf k).2 (Or.inr (Or.inl (Or.inr (Or.inr (Or.inr (Or.inr f))))))
    · exact (hf k).2 (Or.inr (Or.inr f))
theorem Rep.pushS {w w1 : World} {b : Nat} {T : List Tok} {σ : PS} {r : RV} (h : Rep w b T σ r) {v' : Value} (t : Thing) (row : w1.ownsRow 0 111 5 v' (σ.seen.length + 1) (σ.seen.flatMap thingCells ++ thingCells t)) (g : Grew w w1 r.S v') :
    Rep (w1.setCell ⟨b, 4, none⟩ v') b T { σ with seen := σ.seen ++ [t] } { r with S := v' } ∧ Moves b w (w1.setCell ⟨b, 4, none⟩ v') := by
  obtain ⟨k1, k2, k3, k4⟩ := grow_core h.cells 4 (v := r.S) h.seen row (by decide) g
  exact h.newS k1 (by simpa using k2) g.own g.os g.tape g.output (by simpa [World.setCell] using g.size) k3
theorem flat_take (l : List Thing) : (l.flatMap thingCells).take (l.dropLast.length * 5) = l.dropLast.flatMap thingCells := by
  cases h : l.reverse with
  | nil => have : l = [] := by simpa using h
           subst this; simp
  | cons t m =>
    have e : l = m.reverse ++ [t] := by
      have := congrArg List.reverse h
      simpa using this
    subst e
    rw [List.dropLast_concat, List.flatMap_append]
    have hlen : ∀ l : List Thing, (l.flatMap thingCells).length = l.length * 5 := by
      intro l
      induction l with
      | nil => rfl
      | cons a l ih => rw [List.flatMap_cons, List.length_append, ih, List.length_cons, Nat.add_mul]; simp [thingCells]; omega
    rw [List.take_append_of_le_length (by rw [hlen]; exact Nat.le_refl _), List.take_of_length_le (by rw [hlen]; exact Nat.le_refl _)]
theorem Rep.popS {w : World} {b : Nat} {T : List Tok} {σ : PS} {r : RV} (h : Rep w b T σ r) {g n cap : Nat} (hS : r.S = .slice (some ⟨g, 0, none⟩) (n + 1) cap) (hn : σ.seen.length = n + 1) :
    Rep (w.setCell ⟨b, 4, none⟩ (.slice (some ⟨g, 0, none⟩) n cap)) b T { σ with seen := σ.seen.dropLast } { r with S := .slice (some ⟨g, 0, none⟩) n cap } ∧ Moves b w (w.setCell ⟨b, 4, none⟩ (.slice (some ⟨g, 0, none⟩) n cap)) := by
  have hd : σ.seen.dropLast.length = n := by rw [List.length_dropLast, hn]; rfl
  have hs := h.seen
  have hbk : g ≠ b := fun e => by
    obtain ⟨cur, hc⟩ := ownsRow_block hs (k := g) (by rw [hS]; rfl)
    have hb := h.cells
    unfold At at hb
    rw [e, hb] at hc
    simp at hc
  have other : ∀ k, k ≠ b → (w.setCell ⟨b, 4, none⟩ (.slice (some ⟨g, 0, none⟩) n cap)).heap[k]? = w.heap[k]? := fun k ne => Below.heap_setCell _ _ _ _ ne
  refine h.newS (h.cells.set 4 _) ?_ (fun k hk => Or.inl (by rw [hS]; exact hk)) rfl rfl rfl (by simp [World.setCell]) (fun k _ ne _ => other k ne)
  obtain ⟨hl, ⟨h0, _⟩ | ⟨g', cap', cur, hv, hB, hg, hc, hcm, hcs, hcx⟩⟩ := hs
  · rw [hS] at h0; simp at h0
  · rw [hS] at hv
    simp only [Value.slice.injEq, Option.some.injEq, Addr.mk.injEq] at hv
    obtain ⟨⟨rfl, _⟩, _, rfl⟩ := hv
    rw [hd]
    have e5 : (σ.seen.dropLast.flatMap thingCells) = cur.toList.take (n * 5) := by
      rw [← flat_take, hd, ← hcx, List.take_take, Nat.min_eq_left (by omega)]
    refine ⟨?_, Or.inr ⟨g, cap, cur, rfl, hB, by rw [other g hbk]; exact hg, by omega, hcm, hcs, e5.symm⟩⟩
    rw [e5, List.length_take, Array.length_toList, hcs]
    have : n * 5 ≤ cap * 5 := Nat.mul_le_mul_right 5 (by omega)
    omega
theorem Rep.loop {w : World} {b : Nat} {T : List Tok} {σ : PS} {r : RV} (h : Rep w b T σ r) (n : Int) : Rep (w.setCell ⟨b, 11, none⟩ (.int .i64 n)) b T { σ with loops := n } r ∧ Moves b w (w.setCell ⟨b, 11, none⟩ (.int .i64 n)) :=
  h.scalar (σ' := { σ with loops := n }) (h.cells.set 11 _) ((But.refl b w).set 11 _) rfl rfl rfl rfl h.lt
theorem fresh_err {T : List Tok} {σ : PS} (h : (R.fresh T σ).err = 0) : σ.err = 0 := by
  by_cases e : σ.err = 0
  · exact e
  · unfold R.fresh at h; rw [if_neg e] at h; exact h
theorem ex_err {T : List Tok} {σ : PS} (h : (R.ex T σ).1.err = 0) : σ.err = 0 := by
  by_cases e : σ.err = 0
  · exact e
  · rw [R.ex_dead T e] at h; exact h
theorem for_seen {T : List Tok} {f : Nat} {σ : PS} (hb : BdD T (f + 1) σ) : ((R.take T (R.opens T σ)).seen.length : Int) ≤ 399 + (R.take T (R.opens T σ)).nest := by
  have o1 := R.opens_core T σ
  have u1 := R.take_core T (R.opens T σ)
  have a3 : (R.take T (R.opens T σ)).seen = σ.seen := congrArg (fun c => c.1) (u1.1.trans o1.1)
  have b2 := u1.2.2.2.trans o1.2.2.2
  have := hb.seen
  rw [a3]; omega
theorem dw_for {T : List Tok} {does : PS → PS × List Int} {p : Int} {s : ByteArray} {q : Int} {σ : PS} (h : s.toList = R.kFor) : R.doWord T does p ⟨s, q⟩ σ = R.doFor T does p q σ := by
  unfold R.doWord; rw [if_neg (by rw [h]; decide), if_neg (by rw [h]; decide), if_neg (by rw [h]; decide), if_pos h]
theorem for_bd {T : List Tok} {f : Nat} {σ2 σ : PS} {t : Thing} (hb : BdI T σ2) (hs : (σ2.seen.length : Int) ≤ 399 + σ2.nest) (hf : 11 - σ2.nest ≤ f) (k : R.Ok T σ2 σ) (e : σ.err = 0) (hl : σ2.loops ≠ 2) : BdD T f (R.push t σ) := by
  have a1 := k.n3 e
  have a2 := k.p2 e
  have a3 : σ.seen = σ2.seen := congrArg (fun c => c.1) k.core
  have a4 : σ.loops = σ2.loops := congrArg (fun c => c.2.2.2.2.1) k.core
  have a5 : σ.hidden = σ2.hidden := congrArg (fun c => c.2.2.2.2.2.1) k.core
  obtain ⟨b1, b2, b3, b4, b5, b6, b7, b8⟩ := hb
  exact ⟨by show 0 ≤ σ.nest; omega, by show σ.nest ≤ 10; omega, by show 11 - σ.nest ≤ _; omega, by show ((σ.seen ++ [t]).length : Int) ≤ 400 + σ.nest; rw [a3]; simp; omega, by show 0 ≤ σ.hidden; omega, by show σ.hidden ≤ 40 + σ.nest; omega, by show 0 ≤ σ.loops + 1; omega, by show σ.loops + 1 ≤ 2; omega, by show σ.nodes.length + (T.length - σ.i) ≤ 15000; omega⟩
end Go.Proofs.YtejbgcloblpbfaaGreatDoor
namespace Go.Proofs.YtejbgcloblpbfaaGreatDoor
open Go.RowKit
open R (Tok Thing Nd PS)
structure Sd (w0 w : World) (b : Nat) (T : List Tok) (σ : PS) (r : RV) (k3 k4 : Nat) (c3 c4 : List Value) : Prop where
  rep : Rep w b T σ r
  mv : Moves b w0 w
  b3 : Box w b k3 111 c3
  b4 : Box w b k4 90 c4
  lo3 : w0.heap.size ≤ k3
  lo4 : w0.heap.size ≤ k4
  ne : k3 ≠ k4
theorem Sd.moves {w0 w w' : World} {b : Nat} {T : List Tok} {σ σ' : PS} {r r' : RV} {k3 k4 : Nat} {c3 c4 : List Value} (h : Sd w0 w b T σ r k3 k4 c3 c4) (hr : Rep w' b T σ' r') (hm : Moves b w w') : Sd w0 w' b T σ' r' k3 k4 c3 c4 :=
  ⟨hr, h.mv.trans hm, h.b3.moves hm, h.b4.moves hm, h.lo3, h.lo4, h.ne⟩
theorem Sd.set3 {w0 w : World} {b : Nat} {T : List Tok} {σ : PS} {r : RV} {k3 k4 : Nat} {c3 c4 : List Value} (h : Sd w0 w b T σ r k3 k4 c3 c4) (i : Nat) (v : Value) : Sd w0 (w.setCell ⟨k3, i, none⟩ v) b T σ r k3 k4 (c3.set i v) c4 :=
  ⟨h.rep.set_box h.b3 i v, h.mv.set_box h.b3 h.lo3 i v, h.b3.set i v, h.b4.set_other h.b3 (fun e => h.ne e.symm) i v, h.lo3, h.lo4, h.ne⟩
theorem Sd.set4 {w0 w : World} {b : Nat} {T : List Tok} {σ : PS} {r : RV} {k3 k4 : Nat} {c3 c4 : List Value} (h : Sd w0 w b T σ r k3 k4 c3 c4) (i : Nat) (v : Value) : Sd w0 (w.setCell ⟨k4, i, none⟩ v) b T σ r k3 k4 c3 (c4.set i v) :=
  ⟨h.rep.set_box h.b4 i v, h.mv.set_box h.b4 h.lo4 i v, h.b3.set_other h.b4 h.ne i v, h.b4.set i v, h.lo3, h.lo4, h.ne⟩
theorem Sd.d3 {w0 w : World} {b : Nat} {T : List Tok} {σ : PS} {r : RV} {k3 k4 : Nat} {c3 c4 : List Value} (h : Sd w0 w b T σ r k3 k4 c3 c4) (i : Nat) (v : Value) (e : c3[i]? = some v) : w.cell? ⟨k3, i, none⟩ = some v := h.b3.c i v e
theorem Sd.d4 {w0 w : World} {b : Nat} {T : List Tok} {σ : PS} {r : RV} {k3 k4 : Nat} {c3 c4 : List Value} (h : Sd w0 w b T σ r k3 k4 c3 c4) (i : Nat) (v : Value) (e : c4[i]? = some v) : w.cell? ⟨k4, i, none⟩ = some v := h.b4.c i v e
theorem Sd.p {w0 w : World} {b : Nat} {T : List Tok} {σ : PS} {r : RV} {k3 k4 : Nat} {c3 c4 : List Value} (h : Sd w0 w b T σ r k3 k4 c3 c4) (i : Nat) (v : Value) (e : (pcs σ r)[i]? = some v) : w.cell? ⟨b, i, none⟩ = some v := h.rep.c1 i v e
theorem Rep.pushH {w w1 : World} {b : Nat} {T : List Tok} {σ : PS} {r : RV} (h : Rep w b T σ r) {v' : Value} (s : Bool) (row : w1.ownsRow 0 4 1 v' (σ.shape.length + 1) (bools σ.shape ++ [.bool s])) (g : Grew w w1 r.H v') :
    Rep (w1.setCell ⟨b, 9, none⟩ v') b T { σ with shape := σ.shape ++ [s] } { r with H := v' } ∧ Moves b w (w1.setCell ⟨b, 9, none⟩ v') := by
  obtain ⟨xs, hx, hxl, hxs, hf⟩ := h.foot
  obtain ⟨k1, k2, k3, k4⟩ := grow_core h.cells 9 (v := r.H) h.shape row (by decide) g
  have hx' : (w1.setCell ⟨b, 9, none⟩ v').ownsRow 0 145 10 r.N σ.nodes.length xs.flatten := k4 _ _ _ _ _ hx (by decide) (by decide)
  have hrep : Rep (w1.setCell ⟨b, 9, none⟩ v') b T { σ with shape := σ.shape ++ [s] } { r with H := v' } :=
    ⟨k1, k4 _ _ _ _ _ h.toks (by decide) (by decide), k4 _ _ _ _ _ h.seen (by decide) (by decide), ⟨xs, hx', hxl, fun k c n hc hnn => by
      obtain ⟨lv, tv, e, i1, i2⟩ := hxs k c n hc hnn
      exact ⟨lv, tv, e, k4 _ _ _ _ _ i1 (by decide) (by decide), k4 _ _ _ _ _ i2 (by decide) (by decide)⟩⟩, by simpa [bools] using k2, k4 _ _ _ _ _ h.does (by decide) (by decide), h.lt, h.few⟩
  have hf' := foot_iff (σ := { σ with shape := σ.shape ++ [s] }) (r := { r with H := v' }) k1 hx' hxl fun k c n hc hnn => by obtain ⟨lv, tv, e, _⟩ := hxs k c n hc hnn; exact ⟨lv, tv, e⟩
  refine ⟨hrep, g.os, g.tape, g.output, by simpa [World.setCell] using g.size, fun _ => ⟨hrep.tight, fun k hk nf => ?_, fun k hk f => ?_⟩⟩
  · exact k3 k hk (fun e => nf ((hf k).2 (Or.inl e))) (fun e => nf ((hf k).2 (Or.inr (Or.inl (Or.inr (Or.inr (Or.inr (Or.inr e))))))))
  · rcases (hf' k).1 f with f | f | f
    · exact (hf k).2 (Or.inl f)
    · rcases f with f | f | f | f | f
      · exact (hf k).2 (Or.inr (Or.inl (Or.inl f)))
      · exact (hf k).2 (Or.inr (Or.inl (Or.inr (Or.inl f))))
      · exact (hf k).2 (Or.inr (Or.inl (Or.inr (Or.inr (Or.inl f)))))
      · exact (hf k).2 (Or.inr (Or.inl (Or.inr (Or.inr (Or.inr (Or.inl f))))))
      · rcases g.own k f with f | f
        · exact (hf k).2 (Or.inr (Or.inl (Or.inr (Or.inr (Or.inr (Or.inr f))))))
        · omega
    · exact (hf k).2 (Or.inr (Or.inr f))
theorem Rep.names {w : World} {b : Nat} {T : List Tok} {σ : PS} {r : RV} (h : Rep w b T σ r) (n : Int) : Rep (w.setCell ⟨b, 5, none⟩ (.int .i64 n)) b T { σ with names := n } r ∧ Moves b w (w.setCell ⟨b, 5, none⟩ (.int .i64 n)) :=
  h.scalar (σ' := { σ with names := n }) (h.cells.set 5 _) ((But.refl b w).set 5 _) rfl rfl rfl rfl h.lt
theorem Rep.size {w : World} {b : Nat} {T : List Tok} {σ : PS} {r : RV} (h : Rep w b T σ r) (n : Int) : Rep (w.setCell ⟨b, 6, none⟩ (.int .i64 n)) b T { σ with size := n } r ∧ Moves b w (w.setCell ⟨b, 6, none⟩ (.int .i64 n)) :=
  h.scalar (σ' := { σ with size := n }) (h.cells.set 6 _) ((But.refl b w).set 6 _) rfl rfl rfl rfl h.lt
end Go.Proofs.YtejbgcloblpbfaaGreatDoor
