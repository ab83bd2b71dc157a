import Derived.Test.YtejbgcloblpbfaaGreatDoorR14
import Derived.Test.YtejbgcloblpbfaaGreatDoorR03
import Derived.Test.YtejbgcloblpbfaaGreatDoorR02
import Derived.Deep.DeepCutAuto
import Derived.Deep.LoopGhost
import Derived.Deep.CutBlock
namespace Go.Proofs.YtejbgcloblpbfaaGreatDoor
open Go.RowKit
open R (Tok Thing Nd PS)
theorem grow_core {w w1 : World} {b : Nat} {cs : List Value} (hat : At w b 35 cs) (fi : Nat) {v v' : Value} {eN : TypeId} {sz n n' : Nat} {xs xs' : List Value}
    (ho : w.ownsRow 0 eN sz v n xs) (ho' : w1.ownsRow 0 eN sz v' n' xs') (hne : eN ≠ 35) (g : Grew w w1 v v') :
    At (w1.setCell ⟨b, fi, none⟩ v') b 35 (cs.set fi v') ∧ (w1.setCell ⟨b, fi, none⟩ v').ownsRow 0 eN sz v' n' xs' ∧
    (∀ k, k < w.heap.size → k ≠ b → v.ownBlock ≠ some k → (w1.setCell ⟨b, fi, none⟩ v').heap[k]? = w.heap[k]?) ∧
    (∀ e size u m ys, w.ownsRow 0 e size u m ys → e ≠ 35 → e ≠ eN → (w1.setCell ⟨b, fi, none⟩ v').ownsRow 0 e size u m ys) := by
  have hb := hat
  unfold At at hb
  have nb : v.ownBlock ≠ some b := fun e => by
    obtain ⟨cur, hc⟩ := ownsRow_block ho e
    rw [hb] at hc
    simp at hc
    exact hne hc.2.symm
  have hat1 : At w1 b 35 cs := hat.of_block (g.block b hat.lt nb)
  have hb1 := hat1
  unfold At at hb1
  have nb' : v'.ownBlock ≠ some b := fun e => by
    obtain ⟨cur, hc⟩ := ownsRow_block ho' e
    rw [hb1] at hc
    simp at hc
    exact hne hc.2.symm
  have other : ∀ k, k ≠ b → (w1.setCell ⟨b, fi, none⟩ v').heap[k]? = w1.heap[k]? := fun k ne => Below.heap_setCell _ _ _ _ ne
  refine ⟨hat1.set fi v', ownsRow_of ho' fun k hk => other k (fun e => nb' (e ▸ hk)), fun k hk ne nv => by rw [other k ne, g.block k hk nv], fun e size u m ys hu he heN => ownsRow_of hu fun k hk => ?_⟩
  obtain ⟨cur, hc⟩ := ownsRow_block hu hk
  have ne : k ≠ b := fun e' => by
    rw [e', hb] at hc
    simp at hc
    exact he hc.2.symm
  have nv : v.ownBlock ≠ some k := fun e' => by
    obtain ⟨cur', hc'⟩ := ownsRow_block ho e'
    rw [hc'] at hc
    simp at hc
    exact heN hc.2.symm
  rw [other k ne, g.block k (heap_lt hc) nv]
set_option maxHeartbeats 400000 in
theorem node_w (b : Nat) (v : Value) (n : Nat) (xs : List Value) (c0 c1 c2 c3 c4 c5 c6 c7 c8 c9 : Value) (w : World) (nb : b < w.heap.size)
   (q7 : w.cell? ⟨b, 7, none⟩ = some v) (f7 : w.frozen? ⟨b, 7, none⟩ = false) (hvb : v.ownBlock ≠ some b)
   (hown : w.ownsRow 0 145 10 v n xs) (hone : ∀ u ∈ [c0, c1, c2, c3, c4, c5, c6, c7, c8, c9], u.oneCell' = true) (hn : n ≤ 100000) :
    Calls Tryz.prog 81 #[P b, .agg #[c0, c1, c2, c3, c4, c5, c6, c7, c8, c9]] w fun x w' => x = .returned (.int .i64 (n : Int)) ∧
      ∃ v' w1, w' = w1.setCell ⟨b, 7, none⟩ v' ∧ w1.ownsRow 0 145 10 v' (n + 1) (xs ++ [c0, c1, c2, c3, c4, c5, c6, c7, c8, c9]) ∧ Grew w w1 v v' := by
  obtain ⟨i0, hi, hz0, hz1, hz2⟩ := info_parts info_node
  go_enter Tryz.func81, Tryz.ntmps81
  go_wp2
  go_region_law (refine step_append_row1 rfl (.tmp 9) (.tmp 11) 31 rfl 145 i0 _ 10 128 Tryz.underlying31 hi hz0 hz1 hz2 rfl (by decide) v n xs rfl (by exact ((hown.alloc _).alloc _).drew) ⟨w.heap.size + 1, 0, none⟩ 1 1 [c0, c1, c2, c3, c4, c5, c6, c7, c8, c9] rfl rfl (by exact (row_new1 w _ [c0, c1, c2, c3, c4, c5, c6, c7, c8, c9] _)) hone (few_le (by omega)) (by omega) Nat.one_pos ?_; intro g cap w1 hv hg hk; have gr := Grew.of (((More.refl w).alloc _).alloc _).drew hg hk; have q7' : w1.cell? ⟨b, 7, none⟩ = some v := (World.cell?_of_block (gr.block b nb hvb)).trans q7; have f7' : w1.frozen? ⟨b, 7, none⟩ = false := (World.frozen?_of_block (gr.block b nb hvb)).trans f7; clear hg hk)
  all_goals
    go_wp2
    go_ret
    exact ⟨by simp, _, w1, rfl, hv, gr⟩
theorem node_c {w : World} {b : Nat} {T : List Tok} {σ : PS} {r : RV} (h : Rep w b T σ r) (nd : Nd) (lv tv : Value) (hl : Ints w lv nd.L) (ht : Ints w tv nd.two) (hn : σ.nodes.length ≤ 100000) :
    Calls Tryz.prog 81 #[P b, .agg (nodeCells nd lv tv).toArray] w fun x w' => x = .returned (.int .i64 (σ.nodes.length : Int)) ∧ ∃ r', Rep w' b T (R.addNode nd σ) r' ∧ MovesX (fun k => lv.ownBlock = some k ∨ tv.ownBlock = some k) b w w' := by
  obtain ⟨xs, hx, hxl, hxs, hf⟩ := h.foot
  have nbk : r.N.ownBlock ≠ some b := fun e => by
    obtain ⟨cur, hc⟩ := ownsRow_block hx e
    have hb := h.cells
    unfold At at hb
    rw [hb] at hc
    simp at hc
  refine (node_w b r.N σ.nodes.length xs.flatten _ _ _ _ _ _ _ _ _ _ w h.cells.lt (h.c1 7 _ rfl) (h.cells.frozen 7) nbk hx ?_ hn).mono ?_
  · intro u hu
    have o1 := ownsRow_one hl
    have o2 := ownsRow_one ht
    simp only [List.mem_cons, List.not_mem_nil, or_false] at hu
    rcases hu with rfl | rfl | rfl | rfl | rfl | rfl | rfl | rfl | rfl | rfl
    all_goals first | exact o1 | exact o2 | rfl
  · rintro x w' ⟨rfl, v', w1, rfl, hr, hg⟩
    obtain ⟨k1, k2, k3, k4⟩ := grow_core h.cells 7 (v := r.N) hx hr (by decide) hg
    have hx' : (w1.setCell ⟨b, 7, none⟩ v').ownsRow 0 145 10 v' (σ.nodes ++ [nd]).length (xs ++ [nodeCells nd lv tv]).flatten := by
      rw [List.flatten_append]
      simpa [nodeCells] using k2
    have hn' : ∀ (k : Nat) c n, (xs ++ [nodeCells nd lv tv])[k]? = some c → (σ.nodes ++ [nd])[k]? = some n → NodeRow (w1.setCell ⟨b, 7, none⟩ v') c n := by
      intro k c n hc hnn
      by_cases hk : k < xs.length
      · rw [List.getElem?_append_left hk] at hc
        rw [List.getElem?_append_left (by omega)] at hnn
        obtain ⟨lv', tv', e, i1, i2⟩ := hxs k c n hc hnn
        exact ⟨lv', tv', e, k4 _ _ _ _ _ i1 (by decide) (by decide), k4 _ _ _ _ _ i2 (by decide) (by decide)⟩
      · rw [List.getElem?_append_right (by omega)] at hc hnn
        rw [hxl] at hc
        cases e : k - σ.nodes.length with
        | zero =>
          rw [e] at hc hnn
          simp only [List.getElem?_cons_zero, Option.some.injEq] at hc hnn
          subst hc hnn
          exact ⟨lv, tv, rfl, k4 _ _ _ _ _ hl (by decide) (by decide), k4 _ _ _ _ _ ht (by decide) (by decide)⟩
        | succ j => rw [e] at hc; simp at hc
    have hrep : Rep (w1.setCell ⟨b, 7, none⟩ v') b T (R.addNode nd σ) { r with N := v' } :=
      ⟨k1, k4 _ _ _ _ _ h.toks (by decide) (by decide), k4 _ _ _ _ _ h.seen (by decide) (by decide), ⟨_, hx', by simp [hxl, R.addNode], hn'⟩, k4 _ _ _ _ _ h.shape (by decide) (by decide), k4 _ _ _ _ _ h.does (by decide) (by decide), h.lt, h.few⟩
    have hf' := foot_iff (σ := R.addNode nd σ) (r := { r with N := v' }) k1 hx' (by simp [hxl]) fun k c n hc hnn => by obtain ⟨lv, tv, e, _⟩ := hn' k c n hc hnn; exact ⟨lv, tv, e⟩
    refine ⟨rfl, { r with N := v' }, hrep, hg.os, hg.tape, hg.output, by simpa [World.setCell] using hg.size, fun _ => ⟨hrep.tight, fun k hk nf => ?_, fun k hk f => ?_⟩⟩
    · exact k3 k hk (fun e => nf ((hf k).2 (Or.inl e))) (fun e => nf ((hf k).2 (Or.inr (Or.inl (Or.inr (Or.inr (Or.inl e)))))))
    · rcases (hf' k).1 f with f | f | ⟨c, n, lv', tv', f1, f2, f3⟩
      · exact Or.inl ((hf k).2 (Or.inl f))
      · rcases f with f | f | f | f | f
        · exact Or.inl ((hf k).2 (Or.inr (Or.inl (Or.inl f))))
        · exact Or.inl ((hf k).2 (Or.inr (Or.inl (Or.inr (Or.inl f)))))
        · rcases hg.own k f with f | f
          · exact Or.inl ((hf k).2 (Or.inr (Or.inl (Or.inr (Or.inr (Or.inl f))))))
          · omega
        · exact Or.inl ((hf k).2 (Or.inr (Or.inl (Or.inr (Or.inr (Or.inr (Or.inl f)))))))
        · exact Or.inl ((hf k).2 (Or.inr (Or.inl (Or.inr (Or.inr (Or.inr (Or.inr f)))))))
      · rcases List.mem_append.1 f1 with f1 | f1
        · exact Or.inl ((hf k).2 (Or.inr (Or.inr ⟨c, n, lv', tv', f1, f2, f3⟩)))
        · simp only [List.mem_singleton] at f1
          rw [f1] at f2
          simp only [nodeCells, List.cons.injEq, and_true] at f2
          obtain ⟨_, _, _, _, _, _, _, rfl, rfl, _⟩ := f2
          exact Or.inr f3
end Go.Proofs.YtejbgcloblpbfaaGreatDoor
namespace Go.Proofs.YtejbgcloblpbfaaGreatDoor
open Go.RowKit
open R (Tok Thing Nd PS)
theorem known_k {w : World} {b : Nat} {T : List Tok} {σ : PS} {r : RV} (h : Rep w b T σ r) (hT : R.Small T) (hn : σ.seen.length ≤ 1000) (ar se : Bool) {q : Thing} (hq : R.knownT T ar se σ = q) :
    Calls Tryz.prog 77 #[P b, .bool ar, .bool se] w fun x w' => x = .returned (.agg #[.string q.name, .int .i64 q.kind, .bool q.sec, .int .i64 q.pos, .int .i64 q.size]) ∧ Rep w' b T (R.known T ar se σ) r ∧ Moves b w w' := by
  subst hq
  exact known_c h hT hn ar se
theorem node_k {w : World} {b : Nat} {T : List Tok} {σ : PS} {r : RV} (h : Rep w b T σ r) (wd : ByteArray) (n : Int) (q : Thing) (L two : List Int) (sec : Bool) (lv tv : Value) (hl : Ints w lv L) (ht : Ints w tv two) (hn : σ.nodes.length ≤ 100000) :
    Calls Tryz.prog 81 #[P b, .agg #[.string wd, .int .i64 n, .string q.name, .int .i64 q.kind, .bool q.sec, .int .i64 q.pos, .int .i64 q.size, lv, tv, .bool sec]] w fun x w' => x = .returned (.int .i64 (R.lastN (R.addNode ⟨wd, n, q, L, two, sec⟩ σ))) ∧ ∃ r', Rep w' b T (R.addNode ⟨wd, n, q, L, two, sec⟩ σ) r' ∧ MovesX (fun k => lv.ownBlock = some k ∨ tv.ownBlock = some k) b w w' := by
  have e : R.lastN (R.addNode ⟨wd, n, q, L, two, sec⟩ σ) = (σ.nodes.length : Int) := by simp [R.lastN, R.addNode]
  rw [e]
  exact node_c h ⟨wd, n, q, L, two, sec⟩ lv tv hl ht hn
theorem ints_nil (w : World) : Ints w (.slice none 0 0) [] := World.ownsRow_nil w 0 _ 1
structure Bd (T : List Tok) (σ : PS) : Prop where
  n0 : 0 ≤ σ.nest
  n1 : σ.nest ≤ 11
  n2 : σ.err = 0 → σ.nest ≤ 10
  seen : σ.seen.length ≤ 1000
  nodes : σ.nodes.length + (T.length - σ.i) ≤ 20000
def ExprDoes (T : List Tok) (f : Nat) : Prop := ∀ (w : World) (b : Nat) (σ : PS) (r : RV), Rep w b T σ r → T.length - σ.i ≤ f → Bd T σ →
  Calls Tryz.prog 78 #[P b] w fun x w' => x = .returned (.int .i64 (R.expr T f σ).2) ∧ ∃ r', Rep w' b T (R.expr T f σ).1 r' ∧ Moves b w w'
set_option maxHeartbeats 1000000 in
theorem expr_dead_w {T : List Tok} (f : Nat) (w : World) (b : Nat) (σ : PS) (r : RV) (h : Rep w b T σ r) (hE : σ.err ≠ 0) :
    Calls Tryz.prog 78 #[P b] w fun x w' => x = .returned (.int .i64 (R.expr T (f + 1) σ).2) ∧ ∃ r', Rep w' b T (R.expr T (f + 1) σ).1 r' ∧ Moves b w w' := by
  have c2 := h.c1 2 _ rfl
  have hE' := beq_no hE
  rw [R.expr, if_neg hE]
  clear hE
  go_enter Tryz.func78, Tryz.ntmps78
  go_wp2_with fail
  go_ret
  exact ⟨rfl, r, h, Moves.refl _ _⟩
set_option maxHeartbeats 1000000 in
theorem expr_num {T : List Tok} (hT : R.Small T) (w : World) (b : Nat) (σ : PS) (r : RV) (h : Rep w b T σ r) (hb : Bd T σ) (hE : σ.err = 0) (h40 : ¬ (R.tk T σ.i).s.toList = [40])
    (hn : (R.number (R.tk T σ.i).s.data.toList).2 = true) :
    Calls Tryz.prog 78 #[P b] w fun x w' => x = .returned (.int .i64 (R.lastN (R.addNode ⟨⟨#[35]⟩, (R.number (R.tk T σ.i).s.data.toList).1, R.noThing, [], [], false⟩ (R.take T σ)))) ∧
      ∃ r', Rep w' b T (R.addNode ⟨⟨#[35]⟩, (R.number (R.tk T σ.i).s.data.toList).1, R.noThing, [], [], false⟩ (R.take T σ)) r' ∧ Moves b w w' := by
  have c2 := h.c1 2 _ rfl
  have hE' := beq_yes hE
  have hpk := peek_c h
  have hnu := fun w => number_c (R.tk T σ.i).s w (by have := hT σ.i; unfold maxLen; omega)
  have htc := fun (w : World) (hr : Rep w b T σ r) => take_c hr
  have hnn : (R.take T σ).nodes.length ≤ 100000 := by rw [(R.take_core T σ).2.1]; have := hb.nodes; omega
  generalize R.tk T σ.i = t at *
  obtain ⟨ts, tp⟩ := t
  dsimp only at *
  have h40' := beq_no h40
  clear hE h40
  rw [hn] at hnu
  clear hn
  generalize (R.number ts.data.toList).1 = nv at *
  go_enter Tryz.func78, Tryz.ntmps78
  go_wp2_with (go_at_call 43; refine hpk.mono ?_; rintro x w1 ⟨rfl, hr, hm⟩)
  refine (hnu _).mono ?_
  rintro x w2 ⟨rfl, rfl⟩
  go_wp2_with fail
  refine (htc _ (hr.alloc _)).mono ?_
  rintro x w3 ⟨rfl, hr3, hm3⟩
  go_wp2_with fail
  refine (node_k hr3 ⟨#[35]⟩ nv R.noThing [] [] false (.slice none 0 0) (.slice none 0 0) (ints_nil _) (ints_nil _) hnn).mono ?_
  rintro x w4 ⟨rfl, r4, hr4, hm4⟩
  go_wp2_with fail
  go_ret
  exact ⟨rfl, r4, hr4, ((hm.alloc _).trans hm3).transX hm4 (fun k hk => by simp [Value.ownBlock] at hk)⟩
set_option maxHeartbeats 1000000 in
theorem expr_name {T : List Tok} (hT : R.Small T) (w : World) (b : Nat) (σ : PS) (r : RV) (h : Rep w b T σ r) (hb : Bd T σ) (hE : σ.err = 0) (h40 : ¬ (R.tk T σ.i).s.toList = [40])
    (hn : ¬ (R.number (R.tk T σ.i).s.data.toList).2 = true) :
    Calls Tryz.prog 78 #[P b] w fun x w' => x = .returned (.int .i64 (R.lastN (R.addNode ⟨⟨#[64]⟩, 0, R.knownT T false false σ, [], [], (R.knownT T false false σ).sec⟩ (R.known T false false σ)))) ∧
      ∃ r', Rep w' b T (R.addNode ⟨⟨#[64]⟩, 0, R.knownT T false false σ, [], [], (R.knownT T false false σ).sec⟩ (R.known T false false σ)) r' ∧ Moves b w w' := by
  have c2 := h.c1 2 _ rfl
  have hE' := beq_yes hE
  have hpk := peek_c h
  have hnu := fun w => number_c (R.tk T σ.i).s w (by have := hT σ.i; unfold maxLen; omega)
  have hkc := fun (w : World) (q : Thing) (hq : R.knownT T false false σ = q) (hr : Rep w b T σ r) => known_k hr hT hb.seen false false hq
  have hnn : (R.known T false false σ).nodes.length ≤ 100000 := by rw [(R.known_core T false false σ).2.1]; have := hb.nodes; omega
  generalize R.known T false false σ = σ1 at *
  generalize hq : R.knownT T false false σ = q at *
  have HQ := hide hq
  clear hq
  generalize R.tk T σ.i = t at *
  obtain ⟨ts, tp⟩ := t
  dsimp only at *
  have h40' := beq_no h40
  clear hE h40
  rw [Bool.not_eq_true] at hn
  rw [hn] at hnu
  clear hn
  go_enter Tryz.func78, Tryz.ntmps78
  go_wp2_with (go_at_call 43; refine hpk.mono ?_; rintro x w1 ⟨rfl, hr, hm⟩)
  refine (hnu _).mono ?_
  rintro x w2 ⟨rfl, rfl⟩
  go_wp2_with fail
  refine (hkc _ q rfl (hr.alloc _)).mono ?_
  rintro x w3 ⟨rfl, hr3, hm3⟩
  go_wp2_with fail
  refine (node_k (hr3.alloc _) ⟨#[64]⟩ 0 q [] [] q.sec (.slice none 0 0) (.slice none 0 0) (ints_nil _) (ints_nil _) hnn).mono ?_
  rintro x w4 ⟨rfl, r4, hr4, hm4⟩
  go_wp2_with fail
  go_ret
  exact ⟨rfl, r4, hr4, (((hm.alloc _).trans hm3).alloc _).transX hm4 (fun k hk => by simp [Value.ownBlock] at hk)⟩
end Go.Proofs.YtejbgcloblpbfaaGreatDoor
namespace Go.Proofs.YtejbgcloblpbfaaGreatDoor
open Go.RowKit
open R (Tok Thing Nd PS)
theorem put2 {w w0 : World} {b : Nat} {T : List Tok} {σ : PS} {r : RV} {k : Nat} {t : TypeId} {a0 a1 : Value} (h : Rep w b T σ r) (B : Box w b k t [a0, a1]) (m : Moves b w0 w) (hk : w0.heap.size ≤ k) (v0 v1 : Value) :
    Rep ((w.setCell ⟨k, 0, none⟩ v0).setCell ⟨k, 1, none⟩ v1) b T σ r ∧ Moves b w0 ((w.setCell ⟨k, 0, none⟩ v0).setCell ⟨k, 1, none⟩ v1) ∧ Box ((w.setCell ⟨k, 0, none⟩ v0).setCell ⟨k, 1, none⟩ v1) b k t [v0, v1] :=
  ⟨(h.set_box B 0 v0).set_box (B.set 0 v0) 1 v1, (m.set_box B hk 0 v0).set_box (B.set 0 v0) hk 1 v1, (B.set 0 v0).set 1 v1⟩
set_option maxHeartbeats 1000000 in
theorem expr_deep {T : List Tok} (w : World) (b : Nat) (σ : PS) (r : RV) (h : Rep w b T σ r) (hb : Bd T σ) (hE : σ.err = 0) (h40 : (R.tk T σ.i).s.toList = [40]) (hO : ¬ (R.opens T σ).err = 0) :
    Calls Tryz.prog 78 #[P b] w fun x w' => x = .returned (.int .i64 0) ∧ ∃ r', Rep w' b T (R.opens T σ) r' ∧ Moves b w w' := by
  have c2 := h.c1 2 _ rfl
  have hE' := beq_yes hE
  have hpk := peek_c h
  have hoc := fun (w : World) (hr : Rep w b T σ r) => open_c hr (by have := hb.n0; omega) (by have := hb.n1; omega)
  generalize R.tk T σ.i = t at *
  obtain ⟨ts, tp⟩ := t
  dsimp only at *
  have h40' := beq_yes h40
  clear hE h40
  have hO' := beq_no hO
  clear hO
  generalize R.opens T σ = σ1 at *
  go_enter Tryz.func78, Tryz.ntmps78
  go_wp2_with (go_at_call 43; refine hpk.mono ?_; rintro x w1 ⟨rfl, hr, hm⟩)
  refine (hoc _ (hr.alloc _)).mono ?_
  rintro x w2 ⟨rfl, hr2, hm2⟩
  have q2 := hr2.c1 2 _ rfl
  go_wp2_with fail
  go_ret
  exact ⟨rfl, r, hr2, (hm.alloc _).trans hm2⟩
theorem head_get {T : List Tok} {σ : PS} (h : (R.tk T σ.i).s.toList = R.kGet) : R.headOf T σ = (R.known T true false (R.take T σ), R.knownT T true false (R.take T σ), 1) := by
  unfold R.headOf; rw [if_pos h]
theorem head_choose {T : List Tok} {σ : PS} (h0 : ¬ (R.tk T σ.i).s.toList = R.kGet) (h : (R.tk T σ.i).s.toList = R.kChoose) : R.headOf T σ = (R.take T σ, R.noThing, 3) := by
  unfold R.headOf; rw [if_neg h0, if_pos h]
theorem head_op {T : List Tok} {σ : PS} (h0 : ¬ (R.tk T σ.i).s.toList = R.kGet) (h1 : ¬ (R.tk T σ.i).s.toList = R.kChoose) (h : R.sign (R.tk T σ.i).s.toList = true) : R.headOf T σ = (R.take T σ, R.noThing, 2) := by
  unfold R.headOf; rw [if_neg h0, if_neg h1, if_pos h]
theorem head_none {T : List Tok} {σ : PS} (h0 : ¬ (R.tk T σ.i).s.toList = R.kGet) (h1 : ¬ (R.tk T σ.i).s.toList = R.kChoose) (h : R.sign (R.tk T σ.i).s.toList = false) : R.headOf T σ = (R.fail 2 (R.tk T σ.i).p (R.take T σ), R.noThing, 2) := by
  unfold R.headOf; rw [if_neg h0, if_neg h1, if_neg (by rw [h]; decide)]
theorem put_thing {w w0 : World} {b : Nat} {T : List Tok} {σ : PS} {r : RV} {k k' : Nat} {t t' : TypeId} {a0 a1 a2 a3 a4 a5 a6 a7 a8 a9 : Value} {cs : List Value} (h : Rep w b T σ r) (B : Box w b k t [a0, a1, a2, a3, a4, a5, a6, a7, a8, a9]) (C : Box w b k' t' cs) (ne : k' ≠ k)
    (m : Moves b w0 w) (hk : w0.heap.size ≤ k) (v2 v3 v4 v5 v6 v9 : Value) :
    Rep ((((((w.setCell ⟨k, 2, none⟩ v2).setCell ⟨k, 3, none⟩ v3).setCell ⟨k, 4, none⟩ v4).setCell ⟨k, 5, none⟩ v5).setCell ⟨k, 6, none⟩ v6).setCell ⟨k, 9, none⟩ v9) b T σ r ∧
    Moves b w0 ((((((w.setCell ⟨k, 2, none⟩ v2).setCell ⟨k, 3, none⟩ v3).setCell ⟨k, 4, none⟩ v4).setCell ⟨k, 5, none⟩ v5).setCell ⟨k, 6, none⟩ v6).setCell ⟨k, 9, none⟩ v9) ∧
    Box ((((((w.setCell ⟨k, 2, none⟩ v2).setCell ⟨k, 3, none⟩ v3).setCell ⟨k, 4, none⟩ v4).setCell ⟨k, 5, none⟩ v5).setCell ⟨k, 6, none⟩ v6).setCell ⟨k, 9, none⟩ v9) b k' t' cs ∧
    Box ((((((w.setCell ⟨k, 2, none⟩ v2).setCell ⟨k, 3, none⟩ v3).setCell ⟨k, 4, none⟩ v4).setCell ⟨k, 5, none⟩ v5).setCell ⟨k, 6, none⟩ v6).setCell ⟨k, 9, none⟩ v9) b k t [a0, a1, v2, v3, v4, v5, v6, a7, a8, v9] := by
  have B1 := B.set 2 v2
  have B2 := B1.set 3 v3
  have B3 := B2.set 4 v4
  have B4 := B3.set 5 v5
  have B5 := B4.set 6 v6
  exact ⟨(((((h.set_box B 2 v2).set_box B1 3 v3).set_box B2 4 v4).set_box B3 5 v5).set_box B4 6 v6).set_box B5 9 v9,
    (((((m.set_box B hk 2 v2).set_box B1 hk 3 v3).set_box B2 hk 4 v4).set_box B3 hk 5 v5).set_box B4 hk 6 v6).set_box B5 hk 9 v9,
    (((((C.set_other B ne 2 v2).set_other B1 ne 3 v3).set_other B2 ne 4 v4).set_other B3 ne 5 v5).set_other B4 ne 6 v6).set_other B5 ne 9 v9, B5.set 9 v9⟩
theorem Grew.same {w w' : World} {b : Nat} {v v' : Value} (g : Grew w w' v v') (t : Tight w b) (off : ∀ k, v.ownBlock = some k → ¬ Foot w b k) : ∀ k, Foot w b k → w'.heap[k]? = w.heap[k]? :=
  fun k f => g.block k (t k f) (fun e => off k e f)
theorem Moves.grew {a w w' : World} {b : Nat} {v v' : Value} (m : Moves b a w) (g : Grew w w' v v') (off : ∀ k, v.ownBlock = some k → ¬ Foot w b k) (hi : ∀ k, v.ownBlock = some k → a.heap.size ≤ k) : Moves b a w' :=
  ⟨g.os.trans m.os, g.tape.trans m.tape, g.output.trans m.output, Nat.le_trans m.size g.size, fun ta => by
    obtain ⟨h1, h2, h3⟩ := m.main ta
    have same := g.same h1 off
    exact ⟨fun k f => Nat.lt_of_lt_of_le (h1 k (Foot.of_same same f)) g.size, fun k hk nf => (g.block k (Nat.lt_of_lt_of_le hk m.size) (fun e => by have := hi k e; omega)).trans (h2 k hk nf), fun k hk f => h3 k hk (Foot.of_same same f)⟩⟩
theorem Box.grew {w w' : World} {b k : Nat} {t : TypeId} {cs : List Value} {v v' : Value} (h : Box w b k t cs) (g : Grew w w' v v') (off : ∀ k, v.ownBlock = some k → ¬ Foot w b k) (ne : v.ownBlock ≠ some k) : Box w' b k t cs :=
  ⟨h.here.of_block (g.block k h.here.lt ne), fun f => h.off (Foot.of_same (g.same h.tight off) f), fun k f => Nat.lt_of_lt_of_le (h.tight k (Foot.of_same (g.same h.tight off) f)) g.size⟩
theorem IntRow.grew {w w' : World} {b : Nat} {v v' : Value} {L L' : List Int} (h : IntRow w b v L) (g : Grew w w' v v') (row : Ints w' v' L') : IntRow w' b v' L' :=
  ⟨row, fun k hk f => by
      have f' := Foot.of_same (g.same h.tight h.off) f
      rcases g.own k hk with e | e
      · exact h.off k e f'
      · have := h.tight k f'; omega,
    fun k f => Nat.lt_of_lt_of_le (h.tight k (Foot.of_same (g.same h.tight h.off) f)) g.size⟩
theorem IntRow.set_box {w : World} {b k : Nat} {t : TypeId} {cs : List Value} {v : Value} {L : List Int} (h : IntRow w b v L) (B : Box w b k t cs) (ht : t ≠ 3) (i : Nat) (u : Value) : IntRow (w.setCell ⟨k, i, none⟩ u) b v L :=
  ⟨ownsRow_of h.row fun k' hk => Below.heap_setCell _ _ _ _ (fun (e : k' = k) => by
      obtain ⟨cur, hg⟩ := ownsRow_block h.row hk
      have := B.here
      unfold At at this
      rw [e, this] at hg
      simp at hg
      exact ht hg.2), fun k' hk f => h.off k' hk (foot_set B.off u f), tight_set B.off u h.tight⟩
theorem IntRow.ne_box {w : World} {b k : Nat} {t : TypeId} {cs : List Value} {v : Value} {L : List Int} (h : IntRow w b v L) (B : Box w b k t cs) (ht : t ≠ 3) : v.ownBlock ≠ some k := fun e => by
  obtain ⟨cur, hg⟩ := ownsRow_block h.row e
  have := B.here
  unfold At at this
  rw [this] at hg
  simp at hg
  exact ht hg.2
theorem Rep.node {w : World} {b : Nat} {T : List Tok} {σ : PS} {r : RV} (h : Rep w b T σ r) {x : Nat} (hx : x < σ.nodes.length) :
    ∃ g cap, r.N = .slice (some ⟨g, 0, none⟩) σ.nodes.length cap ∧ Foot w b g ∧ w.cell? ⟨g, x * 10 + 9, none⟩ = some (.bool (R.nodeAt σ (x : Int)).sec) := by
  obtain ⟨xs, ho, hl, hn, hf⟩ := h.foot
  have ho0 := ho
  obtain ⟨hxl, h0 | ⟨g, cap, cur, hv, _, hg, hc, _, hcs, hcx⟩⟩ := ho
  · omega
  · refine ⟨g, cap, hv, (hf g).2 (Or.inr (Or.inl (Or.inr (Or.inr (Or.inl (by rw [hv]; rfl)))))), ?_⟩
    have hlen : ∀ c ∈ xs, c.length = 10 := by
      intro c hc
      obtain ⟨q, hq, rfl⟩ := List.getElem_of_mem hc
      obtain ⟨lv, tv, e, _⟩ := hn q xs[q] σ.nodes[q] (List.getElem?_eq_getElem hq) (List.getElem?_eq_getElem (by omega))
      rw [e]; rfl
    obtain ⟨lv, tv, e, _⟩ := hn x xs[x] σ.nodes[x] (List.getElem?_eq_getElem (by omega)) (List.getElem?_eq_getElem hx)
    have key : xs.flatten[x * 10 + 9]? = xs[x][9]? := by
      have h10 : x * 10 + 9 < xs.flatten.length := by rw [hxl]; omega
      obtain ⟨q, s, c, e1, e2, e3, e4⟩ := flat_at xs 10 hlen (x * 10 + 9) xs.flatten[x * 10 + 9] (List.getElem?_eq_getElem h10)
      have : q = x := by omega
      subst this
      have : s = 9 := by omega
      subst this
      rw [List.getElem?_eq_getElem (by omega)] at e1
      rw [List.getElem?_eq_getElem h10, ← e2, ← Option.some.inj e1]
    have : cur[x * 10 + 9]? = some (.bool σ.nodes[x].sec) := by
      have h2 : cur.toList[x * 10 + 9]? = some (.bool σ.nodes[x].sec) := by
        rw [← List.getElem?_take_of_lt (show x * 10 + 9 < σ.nodes.length * 10 by omega), hcx, key, e]
        rfl
      simpa using h2
    have e5 : R.nodeAt σ (x : Int) = σ.nodes[x] := by simp [R.nodeAt, hx]
    rw [e5]
    simp [World.cell?, hg, this]
end Go.Proofs.YtejbgcloblpbfaaGreatDoor
