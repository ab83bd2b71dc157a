import Derived.Test.YtejbgcloblpbfaaGreatDoorR01
import Derived.Test.YtejbgcloblpbfaaGreatDoorR02
import Derived.Lib.SmallJoins
import Derived.Deep.RegionLawGrows
namespace Go.Proofs.YtejbgcloblpbfaaGreatDoor
open Go.RowKit
open R (Tok Thing Nd PS)
structure RV where
  W : Value
  S : Value
  N : Value
  D : Value
  H : Value
def RV.has (r : RV) (k : Nat) : Prop := r.W.ownBlock = some k ∨ r.S.ownBlock = some k ∨ r.N.ownBlock = some k ∨ r.D.ownBlock = some k ∨ r.H.ownBlock = some k
def pcs (σ : PS) (r : RV) : List Value :=
  [r.W, .int .i64 (σ.i : Int), .int .i64 σ.err, .int .i64 σ.place, r.S, .int .i64 σ.names, .int .i64 σ.size, r.N, r.D, r.H, .int .i64 σ.nest, .int .i64 σ.loops, .int .i64 σ.hidden, .int .i64 σ.leak]
def tokCells (t : Tok) : List Value := [.string t.s, .int .i64 t.p]
def thingCells (t : Thing) : List Value := [.string t.name, .int .i64 t.kind, .bool t.sec, .int .i64 t.pos, .int .i64 t.size]
def ints (l : List Int) : List Value := l.map fun n => .int .i64 n
def bools (l : List Bool) : List Value := l.map fun n => .bool n
def Ints (w : World) (v : Value) (l : List Int) : Prop := w.ownsRow 0 3 1 v l.length (ints l)
structure IntRow (w : World) (b : Nat) (v : Value) (l : List Int) : Prop where
  row : Ints w v l
  off : ∀ k, v.ownBlock = some k → ¬ Foot w b k
  tight : Tight w b
def nodeCells (n : Nd) (lv tv : Value) : List Value := [.string n.word, .int .i64 n.n, .string n.t.name, .int .i64 n.t.kind, .bool n.t.sec, .int .i64 n.t.pos, .int .i64 n.t.size, lv, tv, .bool n.sec]
def NodeRow (w : World) (cs : List Value) (n : Nd) : Prop := ∃ lv tv, cs = nodeCells n lv tv ∧ Ints w lv n.L ∧ Ints w tv n.two
def NodesRow (w : World) (v : Value) (ns : List Nd) : Prop :=
  ∃ xs : List (List Value), w.ownsRow 0 145 10 v ns.length xs.flatten ∧ xs.length = ns.length ∧ ∀ (k : Nat) c n, xs[k]? = some c → ns[k]? = some n → NodeRow w c n
structure Rep (w : World) (b : Nat) (T : List Tok) (σ : PS) (r : RV) : Prop where
  cells : At w b 35 (pcs σ r)
  toks : w.ownsRow 0 90 2 r.W T.length (T.flatMap tokCells)
  seen : w.ownsRow 0 111 5 r.S σ.seen.length (σ.seen.flatMap thingCells)
  nodes : NodesRow w r.N σ.nodes
  shape : w.ownsRow 0 4 1 r.H σ.shape.length (bools σ.shape)
  does : w.ownsRow 0 3 1 r.D σ.does.length (ints σ.does)
  lt : σ.i < T.length
  few : T.length ≤ 1000
theorem ownsRow_block {w : World} {B : Nat} {e : TypeId} {size : Nat} {v : Value} {n : Nat} {xs : List Value} (h : w.ownsRow B e size v n xs) {k : Nat} (hk : v.ownBlock = some k) :
    ∃ cur, w.heap[k]? = some (.cells cur e (0, 0)) := by
  obtain ⟨_, h | ⟨g, cap, cur, rfl, _, hg, _⟩⟩ := h
  · rw [h.1] at hk; simp [Value.ownBlock] at hk
  · simp [Value.ownBlock] at hk; subst hk; exact ⟨cur, hg⟩
theorem heap_lt {w : World} {k : Nat} {o : Obj} (h : w.heap[k]? = some o) : k < w.heap.size := (Array.getElem?_eq_some_iff.1 h).1
theorem ownsRow_of {w w' : World} {B : Nat} {e : TypeId} {size : Nat} {v : Value} {n : Nat} {xs : List Value} (h : w.ownsRow B e size v n xs)
    (hk : ∀ k, v.ownBlock = some k → w'.heap[k]? = w.heap[k]?) : w'.ownsRow B e size v n xs := by
  obtain ⟨hl, h | ⟨g, cap, cur, rfl, hB, hg, r⟩⟩ := h
  · exact ⟨hl, Or.inl h⟩
  · exact ⟨hl, Or.inr ⟨g, cap, cur, rfl, hB, by rw [hk g rfl]; exact hg, r⟩⟩
theorem flat_cell {α : Type} (f : α → List Value) (size : Nat) (hf : ∀ a, (f a).length = size) (l : List α) : ∀ (i : Nat) (a : α), l[i]? = some a → ∀ j, j < size → (l.flatMap f)[i * size + j]? = (f a)[j]? := by
  induction l with
  | nil => intro i a h; simp at h
  | cons t l ih =>
    intro i a hi j hj
    cases i with
    | zero =>
      simp only [List.getElem?_cons_zero, Option.some.injEq] at hi
      subst hi
      rw [List.flatMap_cons, List.getElem?_append_left (by rw [hf]; omega)]
      simp
    | succ i =>
      rw [List.flatMap_cons, List.getElem?_append_right (by rw [hf, Nat.add_mul]; omega)]
      have : (i + 1) * size + j - (f t).length = i * size + j := by rw [hf, Nat.add_mul]; omega
      rw [this]
      exact ih i a (by simpa using hi) j hj
theorem row_cell {w : World} {B : Nat} {e : TypeId} {size : Nat} {v : Value} {α : Type} (f : α → List Value) (hf : ∀ a, (f a).length = size) {l : List α} (h : w.ownsRow B e size v l.length (l.flatMap f)) {i : Nat} {a : α} (hi : l[i]? = some a) :
    ∃ g cap, v = .slice (some ⟨g, 0, none⟩) l.length cap ∧ g < w.heap.size ∧ ∀ j, j < size → w.cell? ⟨g, i * size + j, none⟩ = (f a)[j]? := by
  obtain ⟨hil, _⟩ := List.getElem?_eq_some_iff.1 hi
  obtain ⟨hl, h' | ⟨g, cap, cur, hv, _, hg, hc, _, hs, hx⟩⟩ := h
  · omega
  · refine ⟨g, cap, hv, heap_lt hg, fun j hj => ?_⟩
    rw [← flat_cell f size hf l i a hi j hj, ← hx, List.getElem?_take_of_lt (by
      have : (i + 1) * size ≤ l.length * size := Nat.mul_le_mul_right _ hil
      rw [Nat.add_mul] at this
      omega)]
    simp [World.cell?, hg]
theorem flat_at (xs : List (List Value)) (size : Nat) (hs : ∀ c ∈ xs, c.length = size) (j : Nat) (u : Value) (h : xs.flatten[j]? = some u) : ∃ q s c, xs[q]? = some c ∧ c[s]? = some u ∧ j = q * size + s ∧ s < size := by
  induction xs generalizing j with
  | nil => simp at h
  | cons c xs ih =>
    have hc := hs c (List.mem_cons_self)
    by_cases hj : j < c.length
    · rw [List.flatten_cons, List.getElem?_append_left hj] at h
      exact ⟨0, j, c, rfl, h, by omega, by omega⟩
    · rw [List.flatten_cons, List.getElem?_append_right (by omega)] at h
      obtain ⟨q, s, c', h1, h2, h3, h4⟩ := ih (fun c hc => hs c (List.mem_cons_of_mem _ hc)) _ h
      exact ⟨q + 1, s, c', by simpa using h1, h2, by rw [Nat.add_mul]; omega, h4⟩
theorem nodeCells_own {n : Nd} {lv tv : Value} {s : Nat} {u : Value} {k : Nat} (h : (nodeCells n lv tv)[s]? = some u) (hk : u.ownBlock = some k) : lv.ownBlock = some k ∨ tv.ownBlock = some k := by
  match s with
  | 0 => simp [nodeCells] at h; subst h; simp [Value.ownBlock] at hk
  | 1 => simp [nodeCells] at h; subst h; simp [Value.ownBlock] at hk
  | 2 => simp [nodeCells] at h; subst h; simp [Value.ownBlock] at hk
  | 3 => simp [nodeCells] at h; subst h; simp [Value.ownBlock] at hk
  | 4 => simp [nodeCells] at h; subst h; simp [Value.ownBlock] at hk
  | 5 => simp [nodeCells] at h; subst h; simp [Value.ownBlock] at hk
  | 6 => simp [nodeCells] at h; subst h; simp [Value.ownBlock] at hk
  | 7 => simp [nodeCells] at h; subst h; exact Or.inl hk
  | 8 => simp [nodeCells] at h; subst h; exact Or.inr hk
  | 9 => simp [nodeCells] at h; subst h; simp [Value.ownBlock] at hk
  | j + 10 => simp [nodeCells] at h
def Inner (ns : List (List Value)) (k : Nat) : Prop := ∃ c n lv tv, c ∈ ns ∧ c = nodeCells n lv tv ∧ (lv.ownBlock = some k ∨ tv.ownBlock = some k)
theorem foot_first {w : World} {b : Nat} {t : TypeId} {σ : PS} {r : RV} (h : At w b t (pcs σ r)) (k : Nat) : (∃ i v, w.cell? ⟨b, i, none⟩ = some v ∧ v.ownBlock = some k) ↔ r.has k := by
  constructor
  · rintro ⟨i, v, hc, hv⟩
    rw [h.cell i] at hc
    unfold RV.has
    match i with
    | 0 => simp [pcs] at hc; subst hc; simp [hv]
    | 1 => simp [pcs] at hc; subst hc; simp [Value.ownBlock] at hv
    | 2 => simp [pcs] at hc; subst hc; simp [Value.ownBlock] at hv
    | 3 => simp [pcs] at hc; subst hc; simp [Value.ownBlock] at hv
    | 4 => simp [pcs] at hc; subst hc; simp [hv]
    | 5 => simp [pcs] at hc; subst hc; simp [Value.ownBlock] at hv
    | 6 => simp [pcs] at hc; subst hc; simp [Value.ownBlock] at hv
    | 7 => simp [pcs] at hc; subst hc; simp [hv]
    | 8 => simp [pcs] at hc; subst hc; simp [hv]
    | 9 => simp [pcs] at hc; subst hc; simp [hv]
    | 10 => simp [pcs] at hc; subst hc; simp [Value.ownBlock] at hv
    | 11 => simp [pcs] at hc; subst hc; simp [Value.ownBlock] at hv
    | 12 => simp [pcs] at hc; subst hc; simp [Value.ownBlock] at hv
    | 13 => simp [pcs] at hc; subst hc; simp [Value.ownBlock] at hv
    | j + 14 => simp [pcs] at hc
  · rintro (h' | h' | h' | h' | h')
    · exact ⟨0, r.W, by rw [h.cell]; rfl, h'⟩
    · exact ⟨4, r.S, by rw [h.cell]; rfl, h'⟩
    · exact ⟨7, r.N, by rw [h.cell]; rfl, h'⟩
    · exact ⟨8, r.D, by rw [h.cell]; rfl, h'⟩
    · exact ⟨9, r.H, by rw [h.cell]; rfl, h'⟩
theorem foot_iff {w : World} {b : Nat} {t : TypeId} {σ : PS} {r : RV} (h : At w b t (pcs σ r)) {xs : List (List Value)} {ns : List Nd} (hx : w.ownsRow 0 145 10 r.N ns.length xs.flatten) (hl : xs.length = ns.length)
    (hn : ∀ (k : Nat) c n, xs[k]? = some c → ns[k]? = some n → ∃ lv tv, c = nodeCells n lv tv) (k : Nat) : Foot w b k ↔ k = b ∨ r.has k ∨ Inner xs k := by
  have hlen : ∀ c ∈ xs, c.length = 10 := by
    intro c hc
    obtain ⟨q, hq, rfl⟩ := List.getElem_of_mem hc
    obtain ⟨lv, tv, e⟩ := hn q xs[q] ns[q] (List.getElem?_eq_getElem hq) (List.getElem?_eq_getElem (by omega))
    rw [e]; rfl
  have hx0 := hx
  obtain ⟨hxl, hnil | ⟨g, cap, cur, hv, _, hg, hc, _, hcs, hcx⟩⟩ := hx
  · have hn0 : ns.length = 0 := hnil.2
    have hx0' : xs = [] := List.eq_nil_of_length_eq_zero (by omega)
    constructor
    · rintro (f | f | ⟨g, len, cap, j, u, f1, _⟩)
      · exact Or.inl f
      · exact Or.inr (Or.inl ((foot_first h k).1 f))
      · rw [h.cell] at f1
        simp [pcs, hnil.1] at f1
    · rintro (f | f | ⟨c, n, lv, tv, f1, _⟩)
      · exact Or.inl f
      · exact Or.inr (Or.inl ((foot_first h k).2 f))
      · rw [hx0'] at f1; simp at f1
  · have hcell : ∀ j, j < ns.length * 10 → w.cell? ⟨g, j, none⟩ = xs.flatten[j]? := by
      intro j hj
      rw [← hcx, List.getElem?_take_of_lt hj]
      simp [World.cell?, hg]
    constructor
    · rintro (f | f | ⟨g', len, cap', j, u, f1, f2, f3, f4⟩)
      · exact Or.inl f
      · exact Or.inr (Or.inl ((foot_first h k).1 f))
      · rw [h.cell] at f1
        simp only [pcs, hv] at f1
        simp only [List.getElem?_cons_succ, List.getElem?_cons_zero, Option.some.injEq, Value.slice.injEq, Addr.mk.injEq] at f1
        obtain ⟨⟨rfl, _⟩, rfl, rfl⟩ := f1
        rw [hcell j f2] at f3
        obtain ⟨q, s, c, e1, e2, _, _⟩ := flat_at xs 10 hlen j u f3
        have hq : q < xs.length := (List.getElem?_eq_some_iff.1 e1).1
        obtain ⟨lv, tv, e⟩ := hn q c ns[q] e1 (List.getElem?_eq_getElem (by omega))
        rw [e] at e2
        exact Or.inr (Or.inr ⟨c, _, lv, tv, List.mem_of_getElem? e1, e, nodeCells_own e2 f4⟩)
    · rintro (f | f | ⟨c, n, lv, tv, f1, f2, f3⟩)
      · exact Or.inl f
      · exact Or.inr (Or.inl ((foot_first h k).2 f))
      · obtain ⟨q, hq, e⟩ := List.getElem_of_mem f1
        have fl : ∀ s, s < 10 → xs.flatten[q * 10 + s]? = c[s]? := by
          intro s hs
          have : ∀ (ys : List (List Value)) (q : Nat), (∀ c ∈ ys, c.length = 10) → (hq : q < ys.length) → ys.flatten[q * 10 + s]? = ys[q][s]? := by
            intro ys
            induction ys with
            | nil => intro q _ hq; simp at hq
            | cons y ys ih =>
              intro q hy hq
              have hy0 := hy y List.mem_cons_self
              cases q with
              | zero => rw [List.flatten_cons, List.getElem?_append_left (by omega)]; simp
              | succ q =>
                rw [List.flatten_cons, List.getElem?_append_right (by rw [Nat.add_mul]; omega)]
                have e' : (q + 1) * 10 + s - y.length = q * 10 + s := by rw [Nat.add_mul]; omega
                rw [e', ih q (fun c hc => hy c (List.mem_cons_of_mem _ hc)) (by simpa using hq)]
                simp
          rw [this xs q hlen hq, e]
        have hj : ∀ s, s < 10 → q * 10 + s < ns.length * 10 := fun s hs => by omega
        have h7 : w.cell? ⟨b, 7, none⟩ = some (.slice (some ⟨g, 0, none⟩) ns.length cap) := by rw [h.cell, ← hv]; rfl
        rcases f3 with f3 | f3
        · exact Or.inr (Or.inr ⟨g, ns.length, cap, q * 10 + 7, lv, h7, hj 7 (by omega), by rw [hcell _ (hj 7 (by omega)), fl 7 (by omega), f2]; rfl, f3⟩)
        · exact Or.inr (Or.inr ⟨g, ns.length, cap, q * 10 + 8, tv, h7, hj 8 (by omega), by rw [hcell _ (hj 8 (by omega)), fl 8 (by omega), f2]; rfl, f3⟩)
theorem IntRow.moves {w w' : World} {b : Nat} {v : Value} {l : List Int} (h : IntRow w b v l) (m : Moves b w w') : IntRow w' b v l :=
  ⟨ownsRow_of h.row fun k hk => by
      obtain ⟨_, hg⟩ := ownsRow_block h.row hk
      exact (m.main h.tight).2.1 k (heap_lt hg) (h.off k hk),
    fun k hk f => by
      obtain ⟨_, hg⟩ := ownsRow_block h.row hk
      exact h.off k hk ((m.main h.tight).2.2 k (heap_lt hg) f), (m.main h.tight).1⟩
theorem Rep.foot {w : World} {b : Nat} {T : List Tok} {σ : PS} {r : RV} (h : Rep w b T σ r) : ∃ xs : List (List Value), w.ownsRow 0 145 10 r.N σ.nodes.length xs.flatten ∧ xs.length = σ.nodes.length ∧
    (∀ (k : Nat) c n, xs[k]? = some c → σ.nodes[k]? = some n → NodeRow w c n) ∧ ∀ k, Foot w b k ↔ k = b ∨ r.has k ∨ Inner xs k := by
  obtain ⟨xs, hx, hl, hn⟩ := h.nodes
  exact ⟨xs, hx, hl, hn, foot_iff h.cells hx hl fun k c n hc hnn => by obtain ⟨lv, tv, e, _⟩ := hn k c n hc hnn; exact ⟨lv, tv, e⟩⟩
theorem Rep.tight {w : World} {b : Nat} {T : List Tok} {σ : PS} {r : RV} (h : Rep w b T σ r) : Tight w b := by
  obtain ⟨xs, hx, hl, hn, hf⟩ := h.foot
  intro k f
  rcases (hf k).1 f with rfl | f | ⟨c, n, lv, tv, f1, f2, f3⟩
  · exact h.cells.lt
  · rcases f with f | f | f | f | f
    · exact heap_lt (ownsRow_block h.toks f).choose_spec
    · exact heap_lt (ownsRow_block h.seen f).choose_spec
    · exact heap_lt (ownsRow_block hx f).choose_spec
    · exact heap_lt (ownsRow_block h.does f).choose_spec
    · exact heap_lt (ownsRow_block h.shape f).choose_spec
  · obtain ⟨q, hq, e⟩ := List.getElem_of_mem f1
    obtain ⟨lv', tv', e', i1, i2⟩ := hn q c σ.nodes[q] (by rw [List.getElem?_eq_getElem hq, e]) (List.getElem?_eq_getElem (by omega))
    rw [f2] at e'
    simp only [nodeCells, List.cons.injEq, and_true] at e'
    obtain ⟨_, _, _, _, _, _, _, rfl, rfl, _⟩ := e'
    rcases f3 with f3 | f3
    · exact heap_lt (ownsRow_block i1 f3).choose_spec
    · exact heap_lt (ownsRow_block i2 f3).choose_spec
theorem Rep.foot_lt {w : World} {b : Nat} {T : List Tok} {σ : PS} {r : RV} (h : Rep w b T σ r) {k : Nat} (f : Foot w b k) : k < w.heap.size := h.tight k f
theorem Rep.not_foot {w : World} {b : Nat} {T : List Tok} {σ : PS} {r : RV} (h : Rep w b T σ r) {k : Nat} (hk : w.heap.size ≤ k) : ¬ Foot w b k := fun f => by
  have := h.foot_lt f
  omega
theorem Rep.same {w w' : World} {b : Nat} {T : List Tok} {σ : PS} {r : RV} (h : Rep w b T σ r) (hb : ∀ k, Foot w b k → w'.heap[k]? = w.heap[k]?) : Rep w' b T σ r := by
  obtain ⟨xs, hx, hl, hn, hf⟩ := h.foot
  have own : ∀ k, r.has k → w'.heap[k]? = w.heap[k]? := fun k hk => hb k ((hf k).2 (Or.inr (Or.inl hk)))
  refine ⟨h.cells.of_block (hb b (Or.inl rfl)), ?_, ?_, ?_, ?_, ?_, h.lt, h.few⟩
  · exact ownsRow_of h.toks fun k hk => own k (Or.inl hk)
  · exact ownsRow_of h.seen fun k hk => own k (Or.inr (Or.inl hk))
  · refine ⟨xs, ownsRow_of hx fun k hk => own k (Or.inr (Or.inr (Or.inl hk))), hl, fun k c n hc hnn => ?_⟩
    obtain ⟨lv, tv, e, i1, i2⟩ := hn k c n hc hnn
    exact ⟨lv, tv, e, ownsRow_of i1 fun q hq => hb q ((hf q).2 (Or.inr (Or.inr ⟨c, n, lv, tv, List.mem_of_getElem? hc, e, Or.inl hq⟩))),
      ownsRow_of i2 fun q hq => hb q ((hf q).2 (Or.inr (Or.inr ⟨c, n, lv, tv, List.mem_of_getElem? hc, e, Or.inr hq⟩)))⟩
  · exact ownsRow_of h.shape fun k hk => own k (Or.inr (Or.inr (Or.inr (Or.inr hk))))
  · exact ownsRow_of h.does fun k hk => own k (Or.inr (Or.inr (Or.inr (Or.inl hk))))
theorem Rep.alloc {w : World} {b : Nat} {T : List Tok} {σ : PS} {r : RV} (h : Rep w b T σ r) (o : Obj) : Rep (w.alloc o) b T σ r :=
  h.same fun _ hk => heap_alloc_old _ _ _ (h.foot_lt hk)
theorem Rep.drew {w : World} {b : Nat} {T : List Tok} {σ : PS} {r : RV} (h : Rep w b T σ r) : Rep w.drew b T σ r :=
  h.same fun _ _ => rfl
theorem Rep.box {w : World} {b : Nat} {T : List Tok} {σ : PS} {r : RV} (h : Rep w b T σ r) (cs : List Value) (t : TypeId) : Box (w.alloc (.cells cs.toArray t (0, 0))) b w.heap.size t cs :=
  ⟨At.alloc_new w cs t, fun f => h.not_foot (Nat.le_refl _) (Foot.of_same (fun _ f => heap_alloc_old _ _ _ (h.foot_lt f)) f), (h.alloc _).tight⟩
theorem Rep.set_box {w : World} {b : Nat} {T : List Tok} {σ : PS} {r : RV} (h : Rep w b T σ r) {k : Nat} {t : TypeId} {cs : List Value} (hx : Box w b k t cs) (i : Nat) (v : Value) : Rep (w.setCell ⟨k, i, none⟩ v) b T σ r :=
  h.same fun k' f => Below.heap_setCell _ _ _ _ (fun (e : k' = k) => hx.off (e ▸ f))
theorem Rep.scalar {w w' : World} {b : Nat} {T : List Tok} {σ σ' : PS} {r : RV} (h : Rep w b T σ r) (hat : At w' b 35 (pcs σ' r)) (hb : But b w w')
    (e1 : σ'.seen = σ.seen) (e2 : σ'.nodes = σ.nodes) (e3 : σ'.shape = σ.shape) (e4 : σ'.does = σ.does) (hi : σ'.i < T.length) : Rep w' b T σ' r ∧ Moves b w w' := by
  obtain ⟨xs, hx, hl, hn, hf⟩ := h.foot
  have hc := h.cells
  unfold At at hc
  have ne : ∀ {B e size v n xs}, w.ownsRow B e size v n xs → e ≠ 35 → ∀ k, v.ownBlock = some k → w'.heap[k]? = w.heap[k]? := by
    intro B e size v n xs ho he k hk
    obtain ⟨cur, hg⟩ := ownsRow_block ho hk
    refine hb.block k (heap_lt hg) ?_
    rintro rfl
    rw [hg] at hc
    simp at hc
    exact he hc.2
  have hx' : w'.ownsRow 0 145 10 r.N σ.nodes.length xs.flatten := ownsRow_of hx (ne hx (by decide))
  have hf' := foot_iff hat hx' hl fun k c n hc hnn => by obtain ⟨lv, tv, e, _⟩ := hn k c n hc hnn; exact ⟨lv, tv, e⟩
  have ft : ∀ k, Foot w' b k → Foot w b k := fun k f => (hf k).2 ((hf' k).1 f)
  have mv : Moves b w w' := ⟨hb.os, hb.tape, hb.output, hb.size, fun t => ⟨fun k f => Nat.lt_of_lt_of_le (t k (ft k f)) hb.size, fun k hk f => hb.block k hk (fun e => f (Or.inl e)), fun k _ f => ft k f⟩⟩
  refine ⟨⟨hat, ?_, ?_, ?_, ?_, ?_, hi, h.few⟩, mv⟩
  · exact ownsRow_of h.toks (ne h.toks (by decide))
  · rw [e1]; exact ownsRow_of h.seen (ne h.seen (by decide))
  · rw [e2]
    refine ⟨xs, hx', hl, fun k c n hc' hnn => ?_⟩
    obtain ⟨lv, tv, e, i1, i2⟩ := hn k c n hc' hnn
    exact ⟨lv, tv, e, ownsRow_of i1 (ne i1 (by decide)), ownsRow_of i2 (ne i2 (by decide))⟩
  · rw [e3]; exact ownsRow_of h.shape (ne h.shape (by decide))
  · rw [e4]; exact ownsRow_of h.does (ne h.does (by decide))
end Go.Proofs.YtejbgcloblpbfaaGreatDoor
namespace Go.Proofs.YtejbgcloblpbfaaGreatDoor
open Go.RowKit
theorem run_append_row {P : Program} (w : World) (t ty e : TypeId) (i : TypeInfo) (z : Value) (size bytes : Nat) (ht : P.underlying t = some (.slice e)) (hi : P.info? e = some i) (hz : i.zero = some z)
    (hsize : i.size = size) (hby : i.bytes = bytes) (hzs : z.cells.size = size) (hsz : 0 < size)
    (v : Value) (n : Nat) (xs : List Value) (hown : w.ownsRow 0 e size v n xs)
    (a : Addr) (m c : Nat) (news : List Value) (hl : news.length = m * size) (hnews : ∀ (j : Nat) u, news[j]? = some u → w.cell? (a.add j) = some u) (h1 : ∀ u ∈ news, u.oneCell' = true)
    (h63 : n + m ≤ maxLen) (hbytes : (n + m) * bytes ≤ 140737488355328) :
    ∃ v' w', (Builtin.append_ #[t, t] ty #[v, .slice (some a) m c]).run P w = .ok v' w' ∧ w'.ownsRow 0 e size v' (n + m) (xs ++ news) ∧ w.grownBy w' v.ownBlock ∧
      ∀ k, v'.ownBlock = some k → v.ownBlock = some k ∨ w.heap.size ≤ k := by
  obtain ⟨v', w', hr, h2, h3, _⟩ := run_append_own (P := P) w 0 t ty e i z size bytes ht hi hz hsize hby hzs hsz v n xs hown a m c news hl hnews h1 h63 hbytes (Nat.zero_le _)
  refine ⟨v', w', hr, h2, h3, fun k hk => ?_⟩
  obtain ⟨hxl, ⟨rfl, rfl⟩ | ⟨g, cap, cur, rfl, _, hg, hnc, hcap, hcs, hcx⟩⟩ := hown
  · have hxs : xs = [] := List.eq_nil_of_length_eq_zero (by simpa using hxl)
    subst hxs
    obtain ⟨v2, w2, hr2, k2, _, _⟩ := run_append_own (P := P) w w.heap.size t ty e i z size bytes ht hi hz hsize hby hzs hsz (.slice none 0 0) 0 [] (World.ownsRow_nil w _ e size) a m c news hl hnews h1 h63 hbytes (Nat.le_refl _)
    rw [hr] at hr2
    simp only [Result.ok.injEq] at hr2
    obtain ⟨rfl, rfl⟩ := hr2
    refine Or.inr ?_
    obtain ⟨_, ⟨h0, _⟩ | ⟨g', cap', cur', rfl, hb, _⟩⟩ := k2
    · rw [h0] at hk; simp [Value.ownBlock] at hk
    · simp only [Value.ownBlock, Option.some.injEq] at hk; omega
  · by_cases hroom : n + m ≤ cap
    · left
      have hr2 := run_append_room_cells (P := P) w t ty e i ht hi g 0 n cap a m c news (by rw [hsize]; exact hl) hnews h1 hroom
        (fun j hj => by
          have : 0 + n * i.size + j < cur.size := by
            have := Nat.mul_le_mul_right size hroom
            rw [Nat.add_mul] at this
            rw [hsize]
            omega
          simp [World.cell?, hg]
          simpa using this)
        (fun j hj => by simp [World.frozen?, hg])
      rw [hr] at hr2
      simp only [Result.ok.injEq] at hr2
      rw [hr2.1] at hk
      exact hk
    · right
      obtain ⟨v2, w2, hr2, k2, _⟩ := run_append_arg_grows (P := P) w t ty e i z size bytes ht hi hz hsize hby hzs hsz ⟨g, 0, none⟩ n cap xs hxl
        (fun j u hu => by
          have hj : j < n * size := by rw [← hxl]; exact (List.getElem?_eq_some_iff.1 hu).1
          rw [← hcx, List.getElem?_take_of_lt hj] at hu
          have ea : (⟨g, 0, none⟩ : Addr).add j = ⟨g, j, none⟩ := by unfold Addr.add; split <;> simp_all
          rw [ea]
          simp [World.cell?, hg]
          simpa using hu)
        a m c news hl hnews (by omega) h63 hbytes
      rw [hr] at hr2
      simp only [Result.ok.injEq] at hr2
      obtain ⟨rfl, rfl⟩ := hr2
      obtain ⟨_, ⟨h0, _⟩ | ⟨g', cap', cur', rfl, hb, _⟩⟩ := k2
      · rw [h0] at hk; simp [Value.ownBlock] at hk
      · simp only [Value.ownBlock, Option.some.injEq] at hk; omega
theorem wp_append_row {P : Program} (w : World) {o : Oper} {a : Act} {K : Act → World → Prop} {Q : Exit → Act → World → Prop} (s x : Operand) (t : TypeId)
    (ho : o.op = .call { callee := .builtin .append, args := #[s, x], argTypes := #[t, t] })
    (e : TypeId) (i : TypeInfo) (z : Value) (size bytes : Nat) (ht : P.underlying t = some (.slice e)) (hi : P.info? e = some i) (hz : i.zero = some z)
    (hsize : i.size = size) (hby : i.bytes = bytes) (hzs : z.cells.size = size) (hsz : 0 < size)
    (v : Value) (n : Nat) (xs : List Value) (hs : a.eval s = v) (hown : w.ownsRow 0 e size v n xs)
    (ad : Addr) (m c : Nat) (news : List Value) (hx : a.eval x = .slice (some ad) m c) (hl : news.length = m * size) (hnews : ∀ (j : Nat) u, news[j]? = some u → w.cell? (ad.add j) = some u) (h1 : ∀ u ∈ news, u.oneCell' = true)
    (h63 : n + m ≤ maxLen) (hbytes : (n + m) * bytes ≤ 140737488355328)
    (h : ∀ v' w', w'.ownsRow 0 e size v' (n + m) (xs ++ news) → w.grownBy w' v.ownBlock → (∀ k, v'.ownBlock = some k → v.ownBlock = some k ∨ w.heap.size ≤ k) → K (a.put o.dst v') w') : o.wp P a w K Q := by
  obtain ⟨v', w', hr, h2, h3, h4⟩ := run_append_row (P := P) w t o.type e i z size bytes ht hi hz hsize hby hzs hsz v n xs hown ad m c news hl hnews h1 h63 hbytes
  unfold Oper.wp execOp
  simp only [ho, resolve, invoke, builtin, Sem.run_bind, Sem.run_pure, Result.andThen_ok, List.map_toArray, List.map_cons, List.map_nil, hs, hx, hr]
  exact h v' w' h2 h3 h4
theorem wpList_append_row {P : Program} (w : World) {ops : Array Oper} {rest : List Oper} {o : Oper} {a : Act} {Q : Exit → Act → World → Prop} (hgd : o.guard = none) (s x : Operand) (t : TypeId)
    (ho : o.op = .call { callee := .builtin .append, args := #[s, x], argTypes := #[t, t] })
    (e : TypeId) (i : TypeInfo) (z : Value) (size bytes : Nat) (ht : P.underlying t = some (.slice e)) (hi : P.info? e = some i) (hz : i.zero = some z)
    (hsize : i.size = size) (hby : i.bytes = bytes) (hzs : z.cells.size = size) (hsz : 0 < size)
    (v : Value) (n : Nat) (xs : List Value) (hs : a.eval s = v) (hown : w.ownsRow 0 e size v n xs)
    (ad : Addr) (m c : Nat) (news : List Value) (hx : a.eval x = .slice (some ad) m c) (hl : news.length = m * size) (hnews : ∀ (j : Nat) u, news[j]? = some u → w.cell? (ad.add j) = some u) (h1 : ∀ u ∈ news, u.oneCell' = true)
    (h63 : n + m ≤ maxLen) (hbytes : (n + m) * bytes ≤ 140737488355328)
    (h : ∀ v' w', w'.ownsRow 0 e size v' (n + m) (xs ++ news) → w.grownBy w' v.ownBlock → (∀ k, v'.ownBlock = some k → v.ownBlock = some k ∨ w.heap.size ≤ k) → wpList P ops Q rest (a.put o.dst v') w') : wpList P ops Q (o :: rest) a w :=
  wpList_plain hgd fun _ hK => wp_append_row w s x t ho e i z size bytes ht hi hz hsize hby hzs hsz v n xs hs hown ad m c news hx hl hnews h1 h63 hbytes fun v' w' h2 h3 h4 => hK _ _ (h v' w' h2 h3 h4)
theorem step_append_row {P : Program} {ops : Array Oper} {o : Oper} {a : Act} {w : World} {K : Act → World → Prop} {Q : Exit → Act → World → Prop} {E : Prop}
    (hg : o.guard = none) (s x : Operand) (t : TypeId) (hop : o.op = Op.call { callee := Callee.builtin Builtin.append, args := #[s, x], argTypes := #[t, t] })
    (e : TypeId) (i : TypeInfo) (z : Value) (size bytes : Nat) (ht : P.underlying t = some (.slice e)) (hi : P.info? e = some i) (hz : i.zero = some z)
    (hsize : i.size = size) (hby : i.bytes = bytes) (hzs : z.cells.size = size) (hsz : 0 < size)
    (v : Value) (n : Nat) (xs : List Value) (hs : a.eval s = v) (hown : w.ownsRow 0 e size v n xs)
    (ad : Addr) (m c : Nat) (news : List Value) (hx : a.eval x = .slice (some ad) m c) (hl : news.length = m * size) (hnews : ∀ (j : Nat) u, news[j]? = some u → w.cell? (ad.add j) = some u) (h1 : ∀ u ∈ news, u.oneCell' = true)
    (h63 : n + m ≤ maxLen) (hbytes : (n + m) * bytes ≤ 140737488355328)
    (hK : ∀ v' w', w'.ownsRow 0 e size v' (n + m) (xs ++ news) → w.grownBy w' v.ownBlock → (∀ k, v'.ownBlock = some k → v.ownBlock = some k ∨ w.heap.size ≤ k) → K (a.put o.dst v') w') :
    if Region.wanted o (yielded ops a.tmps) = true then Oper.wp P o a w K Q else E := by
  have hw : Region.wanted o (yielded ops a.tmps) = true := by simp [Region.wanted, hg]
  rw [if_pos hw]
  exact wp_append_row w s x t hop e i z size bytes ht hi hz hsize hby hzs hsz v n xs hs hown ad m c news hx hl hnews h1 h63 hbytes hK
theorem step_append_row1 {P : Program} {ops : Array Oper} {o : Oper} {a : Act} {w : World} {K : Act → World → Prop} {Q : Exit → Act → World → Prop} {E : Prop}
    (hg : o.guard = none) (s x : Operand) (t : TypeId) (hop : o.op = Op.call { callee := Callee.builtin Builtin.append, args := #[s, x], argTypes := #[t, t] })
    (e : TypeId) (i : TypeInfo) (z : Value) (size bytes : Nat) (ht : P.underlying t = some (.slice e)) (hi : P.info? e = some i) (hz : i.zero = some z)
    (hsize : i.size = size) (hby : i.bytes = bytes) (hzs : z.cells.size = size) (hsz : 0 < size)
    (v : Value) (n : Nat) (xs : List Value) (hs : a.eval s = v) (hown : w.ownsRow 0 e size v n xs)
    (ad : Addr) (m c : Nat) (news : List Value) (hx : a.eval x = .slice (some ad) m c) (hl : news.length = m * size) (hnews : ∀ (j : Nat) u, news[j]? = some u → w.cell? (ad.add j) = some u) (h1 : ∀ u ∈ news, u.oneCell' = true)
    (h63 : n + m ≤ maxLen) (hbytes : (n + m) * bytes ≤ 140737488355328) (hm : 0 < m)
    (hK : ∀ g cap w', w'.ownsRow 0 e size (.slice (some ⟨g, 0, none⟩) (n + m) cap) (n + m) (xs ++ news) → w.grownBy w' v.ownBlock → (∀ k, (Value.slice (some ⟨g, 0, none⟩) (n + m) cap).ownBlock = some k → v.ownBlock = some k ∨ w.heap.size ≤ k) → K (a.put o.dst (.slice (some ⟨g, 0, none⟩) (n + m) cap)) w') :
    if Region.wanted o (yielded ops a.tmps) = true then Oper.wp P o a w K Q else E :=
  step_append_row hg s x t hop e i z size bytes ht hi hz hsize hby hzs hsz v n xs hs hown ad m c news hx hl hnews h1 h63 hbytes fun v' w' h2 h3 h4 => by
    obtain ⟨g, cap, rfl⟩ := Joins.ownsRow_form h2 (by omega)
    exact hK g cap w' h2 h3 h4
theorem wpList_append_row1 {P : Program} (w : World) {ops : Array Oper} {rest : List Oper} {o : Oper} {a : Act} {Q : Exit → Act → World → Prop} (hgd : o.guard = none) (s x : Operand) (t : TypeId)
    (ho : o.op = .call { callee := .builtin .append, args := #[s, x], argTypes := #[t, t] })
    (e : TypeId) (i : TypeInfo) (z : Value) (size bytes : Nat) (ht : P.underlying t = some (.slice e)) (hi : P.info? e = some i) (hz : i.zero = some z)
    (hsize : i.size = size) (hby : i.bytes = bytes) (hzs : z.cells.size = size) (hsz : 0 < size)
    (v : Value) (n : Nat) (xs : List Value) (hs : a.eval s = v) (hown : w.ownsRow 0 e size v n xs)
    (ad : Addr) (m c : Nat) (news : List Value) (hx : a.eval x = .slice (some ad) m c) (hl : news.length = m * size) (hnews : ∀ (j : Nat) u, news[j]? = some u → w.cell? (ad.add j) = some u) (h1 : ∀ u ∈ news, u.oneCell' = true)
    (h63 : n + m ≤ maxLen) (hbytes : (n + m) * bytes ≤ 140737488355328) (hm : 0 < m)
    (h : ∀ g cap w', w'.ownsRow 0 e size (.slice (some ⟨g, 0, none⟩) (n + m) cap) (n + m) (xs ++ news) → w.grownBy w' v.ownBlock → (∀ k, (Value.slice (some ⟨g, 0, none⟩) (n + m) cap).ownBlock = some k → v.ownBlock = some k ∨ w.heap.size ≤ k) → wpList P ops Q rest (a.put o.dst (.slice (some ⟨g, 0, none⟩) (n + m) cap)) w') : wpList P ops Q (o :: rest) a w :=
  wpList_append_row w hgd s x t ho e i z size bytes ht hi hz hsize hby hzs hsz v n xs hs hown ad m c news hx hl hnews h1 h63 hbytes fun v' w' h2 h3 h4 => by
    obtain ⟨g, cap, rfl⟩ := Joins.ownsRow_form h2 (by omega)
    exact h g cap w' h2 h3 h4
theorem ownsRow_one {w : World} {B : Nat} {e : TypeId} {size : Nat} {v : Value} {n : Nat} {xs : List Value} (h : w.ownsRow B e size v n xs) : v.oneCell' = true := by
  obtain ⟨_, ⟨h, _⟩ | ⟨g, cap, cur, rfl, _⟩⟩ := h
  · rw [h]; rfl
  · rfl
structure Grew (w w' : World) (v v' : Value) : Prop where
  os : w'.os = w.os
  tape : w'.tape = w.tape
  output : w'.output = w.output
  size : w.heap.size ≤ w'.heap.size
  block : ∀ k, k < w.heap.size → v.ownBlock ≠ some k → w'.heap[k]? = w.heap[k]?
  own : ∀ k, v'.ownBlock = some k → v.ownBlock = some k ∨ w.heap.size ≤ k
structure More (w w' : World) : Prop where
  os : w'.os = w.os
  tape : w'.tape = w.tape
  output : w'.output = w.output
  size : w.heap.size ≤ w'.heap.size
  block : ∀ k, k < w.heap.size → w'.heap[k]? = w.heap[k]?
theorem More.refl (w : World) : More w w := ⟨rfl, rfl, rfl, Nat.le_refl _, fun _ _ => rfl⟩
theorem More.alloc {a w : World} (h : More a w) (o : Obj) : More a (w.alloc o) :=
  ⟨h.os, h.tape, h.output, by have := h.size; simp; omega, fun k hk => (heap_alloc_old _ _ _ (Nat.lt_of_lt_of_le hk h.size)).trans (h.block k hk)⟩
theorem More.drew {a w : World} (h : More a w) : More a w.drew := ⟨h.os, h.tape, h.output, h.size, h.block⟩
theorem Grew.of {w W w' : World} {v v' : Value} (m : More w W) (g : W.grownBy w' v.ownBlock) (o : ∀ k, v'.ownBlock = some k → v.ownBlock = some k ∨ W.heap.size ≤ k) : Grew w w' v v' :=
  ⟨g.os.trans m.os, g.tape.trans m.tape, g.output.trans m.output, Nat.le_trans m.size g.size,
    fun k hk ne => (g.block k (Nat.lt_of_lt_of_le hk m.size) (fun e => ne e.symm)).trans (m.block k hk),
    fun k hk => (o k hk).imp id (fun h => Nat.le_trans m.size h)⟩
theorem row_new (w : World) (cs : List Value) (t : TypeId) : ∀ (j : Nat) u, cs[j]? = some u → (w.alloc (.cells cs.toArray t (0, 0))).cell? ((⟨w.heap.size, 0, none⟩ : Addr).add j) = some u := by
  intro j u hu
  have ea : (⟨w.heap.size, 0, none⟩ : Addr).add j = ⟨w.heap.size, j, none⟩ := by unfold Addr.add; split <;> simp_all
  rw [ea, (At.alloc_new w cs t).cell, hu]
theorem row_new1 (w : World) (o : Obj) (cs : List Value) (t : TypeId) : ∀ (j : Nat) u, cs[j]? = some u → ((w.alloc o).alloc (.cells cs.toArray t (0, 0))).cell? ((⟨w.heap.size + 1, 0, none⟩ : Addr).add j) = some u := by
  intro j u hu
  have h := row_new (w.alloc o) cs t j u hu
  have e : (w.alloc o).heap.size = w.heap.size + 1 := by simp
  rw [e] at h
  exact h
theorem few_le {n m : Nat} (h : n + m ≤ 1000000) : n + m ≤ maxLen := by unfold maxLen; omega
theorem info_int : (Tryz.prog.info? 3).map (fun i => (i.zero, i.size, i.bytes)) = some (some (.int .i64 0), 1, 8) := by kernel_rfl
theorem info_bool : (Tryz.prog.info? 4).map (fun i => (i.zero, i.size, i.bytes)) = some (some (.bool false), 1, 1) := by kernel_rfl
theorem info_word : (Tryz.prog.info? 90).map (fun i => (i.zero, i.size, i.bytes)) = some (some (.agg #[.string ⟨#[]⟩, .int .i64 0]), 2, 24) := by kernel_rfl
theorem info_thing : (Tryz.prog.info? 111).map (fun i => (i.zero, i.size, i.bytes)) = some (some (.agg #[.string ⟨#[]⟩, .int .i64 0, .bool false, .int .i64 0, .int .i64 0]), 5, 48) := by kernel_rfl
theorem info_node : (Tryz.prog.info? 145).map (fun i => (i.zero, i.size, i.bytes)) = some (some (.agg #[.string ⟨#[]⟩, .int .i64 0, .string ⟨#[]⟩, .int .i64 0, .bool false, .int .i64 0, .int .i64 0, .slice none 0 0, .slice none 0 0, .bool false]), 10, 128) := by kernel_rfl
end Go.Proofs.YtejbgcloblpbfaaGreatDoor
namespace Go.Proofs.YtejbgcloblpbfaaGreatDoor
open Go.RowKit
open R (Tok Thing Nd PS)
abbrev P (b : Nat) : Value := .pointer (some ⟨b, 0, none⟩)
theorem Rep.c1 {w : World} {b : Nat} {T : List Tok} {σ : PS} {r : RV} (h : Rep w b T σ r) (i : Nat) (v : Value) (e : (pcs σ r)[i]? = some v) : w.cell? ⟨b, i, none⟩ = some v := by
  rw [h.cells.cell, e]
set_option maxHeartbeats 400000 in
theorem fail_w (b : Nat) (e p E Q : Int) (w : World) (c2 : w.cell? ⟨b, 2, none⟩ = some (.int .i64 E)) (c3 : w.cell? ⟨b, 3, none⟩ = some (.int .i64 Q)) (f2 : w.frozen? ⟨b, 2, none⟩ = false) (f3 : w.frozen? ⟨b, 3, none⟩ = false) :
    Calls Tryz.prog 41 #[P b, .int .i64 e, .int .i64 p] w fun x w' => x = .returned (.tuple #[]) ∧ w' = if E = 0 then (w.setCell ⟨b, 2, none⟩ (.int .i64 e)).setCell ⟨b, 3, none⟩ (.int .i64 p) else w := by
  by_cases h : E = 0
  · subst h
    go_enter Tryz.func41, Tryz.ntmps41
    go_wp2
    go_end0
    exact ⟨rfl, rfl⟩
  · have hb : (E == 0) = false := by simpa using h
    rw [if_neg h]
    go_enter Tryz.func41, Tryz.ntmps41
    go_wp2
    go_end0
    exact ⟨rfl, rfl⟩
theorem fail_c {w : World} {b : Nat} {T : List Tok} {σ : PS} {r : RV} (h : Rep w b T σ r) (e p : Int) :
    Calls Tryz.prog 41 #[P b, .int .i64 e, .int .i64 p] w fun x w' => x = .returned (.tuple #[]) ∧ Rep w' b T (R.fail e p σ) r ∧ Moves b w w' := by
  refine (fail_w b e p σ.err σ.place w (h.c1 2 _ rfl) (h.c1 3 _ rfl) (h.cells.frozen 2) (h.cells.frozen 3)).mono ?_
  rintro x w' ⟨rfl, rfl⟩
  refine ⟨rfl, ?_⟩
  unfold R.fail
  by_cases hE : σ.err = 0
  · rw [if_pos hE, if_pos hE]
    exact h.scalar ((h.cells.set 2 _).set 3 _) (((But.refl b w).set 2 _).set 3 _) rfl rfl rfl rfl h.lt
  · rw [if_neg hE, if_neg hE]
    exact ⟨h, Moves.refl _ _⟩
theorem Rep.tok {w : World} {b : Nat} {T : List Tok} {σ : PS} {r : RV} (h : Rep w b T σ r) (i : Nat) (hi : i < T.length) :
    ∃ g cap, r.W = .slice (some ⟨g, 0, none⟩) T.length cap ∧ g < w.heap.size ∧ w.cell? ⟨g, i * 2, none⟩ = some (.string (R.tk T i).s) ∧ w.cell? ⟨g, i * 2 + 1, none⟩ = some (.int .i64 (R.tk T i).p) := by
  obtain ⟨hl, h' | ⟨g, cap, cur, hv, _, hg, hc, _, hs, hx⟩⟩ := h.toks
  · omega
  · refine ⟨g, cap, hv, heap_lt hg, ?_⟩
    have key : ∀ j, j < 2 → cur[i * 2 + j]? = (T.flatMap tokCells)[i * 2 + j]? := by
      intro j hj
      rw [← hx, List.getElem?_take_of_lt (by omega)]
      simp
    have flat : ∀ (l : List Tok) (i : Nat) (j : Nat), j < 2 → i < l.length → (l.flatMap tokCells)[i * 2 + j]? = (tokCells (R.tk l i))[j]? := by
      intro l
      induction l with
      | nil => intro i j _ hi; simp at hi
      | cons t l ih =>
        intro i j hj hi
        cases i with
        | zero =>
          rw [List.flatMap_cons, List.getElem?_append_left (by simp [tokCells]; omega)]
          simp [R.tk]
        | succ i =>
          rw [List.flatMap_cons, List.getElem?_append_right (by simp [tokCells]; omega)]
          have : (i + 1) * 2 + j - (tokCells t).length = i * 2 + j := by simp [tokCells]; omega
          rw [this, ih i j hj (by simpa using hi)]
          simp [R.tk]
    have k0 := key 0 (by omega)
    have k1 := key 1 (by omega)
    rw [flat T i 0 (by omega) hi] at k0
    rw [flat T i 1 (by omega) hi] at k1
    constructor
    · simp [World.cell?, hg]; simpa [tokCells] using k0
    · simp [World.cell?, hg]; simpa [tokCells] using k1
set_option maxHeartbeats 400000 in
theorem take_w (b g I n cap : Nat) (s : ByteArray) (q : Int) (w : World) (hI : I < n) (hn : n ≤ 1000) (hb : b < w.heap.size) (hg : g < w.heap.size)
    (c0 : w.cell? ⟨b, 0, none⟩ = some (.slice (some ⟨g, 0, none⟩) n cap)) (c1 : w.cell? ⟨b, 1, none⟩ = some (.int .i64 I)) (f1 : w.frozen? ⟨b, 1, none⟩ = false)
    (k0 : w.cell? ⟨g, I * 2, none⟩ = some (.string s)) (k1 : w.cell? ⟨g, I * 2 + 1, none⟩ = some (.int .i64 q)) :
    Calls Tryz.prog 59 #[P b] w fun x w' => x = .returned (.agg #[.string s, .int .i64 q]) ∧ But b w w' ∧
      ∀ t cs, At w b t cs → At w' b t (if I + 1 < n then cs.set 1 (.int .i64 ((I + 1 : Nat) : Int)) else cs) := by
  by_cases hl : I + 1 < n
  · have hl' : (I : Int) < (n : Int) - 1 := by omega
    go_enter Tryz.func59, Tryz.ntmps59
    go_wp2
    go_region
    go_wp2
    go_region
    go_wp2
    exact bodyPost_ret (v := .agg #[.string s, .int .i64 q]) (by simp [results, Tryz.results59, go_sem]) rfl
      ⟨rfl, ((((But.refl b w).set 1 _).alloc _).alloc _).drew.drew, fun t cs hat => (((hat.set 1 _).alloc _).alloc _).drew.drew⟩
  · have hl' : ¬ (I : Int) < (n : Int) - 1 := by omega
    go_enter Tryz.func59, Tryz.ntmps59
    go_wp2
    go_region
    go_wp2
    go_region
    go_wp2
    exact bodyPost_ret (v := .agg #[.string s, .int .i64 q]) (by simp [results, Tryz.results59, go_sem]) rfl
      ⟨rfl, (((But.refl b w).alloc _).alloc _).drew.drew, fun t cs hat => ((hat.alloc _).alloc _).drew.drew⟩
theorem take_c {w : World} {b : Nat} {T : List Tok} {σ : PS} {r : RV} (h : Rep w b T σ r) :
    Calls Tryz.prog 59 #[P b] w fun x w' => x = .returned (.agg #[.string (R.tk T σ.i).s, .int .i64 (R.tk T σ.i).p]) ∧ Rep w' b T (R.take T σ) r ∧ Moves b w w' := by
  obtain ⟨g, cap, hW, hg, k0, k1⟩ := h.tok σ.i h.lt
  refine (take_w b g σ.i T.length cap _ _ w h.lt h.few h.cells.lt hg (h.c1 0 _ (by rw [← hW]; rfl)) (h.c1 1 _ rfl) (h.cells.frozen 1) k0 k1).mono ?_
  rintro x w' ⟨rfl, hb, hat⟩
  refine ⟨rfl, ?_⟩
  have hat' := hat _ _ h.cells
  unfold R.take
  by_cases hl : σ.i + 1 < T.length
  · rw [if_pos hl] at hat' ⊢
    exact h.scalar hat' hb rfl rfl rfl rfl hl
  · rw [if_neg hl] at hat' ⊢
    exact h.scalar hat' hb rfl rfl rfl rfl h.lt
set_option maxHeartbeats 400000 in
theorem peek_w (b g I n cap : Nat) (s : ByteArray) (q : Int) (w : World) (hI : I < n) (hb : b < w.heap.size) (hg : g < w.heap.size)
    (c0 : w.cell? ⟨b, 0, none⟩ = some (.slice (some ⟨g, 0, none⟩) n cap)) (c1 : w.cell? ⟨b, 1, none⟩ = some (.int .i64 I))
    (k0 : w.cell? ⟨g, I * 2, none⟩ = some (.string s)) (k1 : w.cell? ⟨g, I * 2 + 1, none⟩ = some (.int .i64 q)) :
    Calls Tryz.prog 43 #[P b] w fun x w' => x = .returned (.agg #[.string s, .int .i64 q]) ∧ But b w w' ∧ ∀ t cs, At w b t cs → At w' b t cs := by
  go_enter Tryz.func43, Tryz.ntmps43
  go_wp2
  go_region
  go_wp2
  exact bodyPost_ret (v := .agg #[.string s, .int .i64 q]) (by simp [results, Tryz.results43, go_sem]) rfl
      ⟨rfl, ((But.refl b w).alloc _).drew, fun t cs hat => (hat.alloc _).drew⟩
theorem peek_c {w : World} {b : Nat} {T : List Tok} {σ : PS} {r : RV} (h : Rep w b T σ r) :
    Calls Tryz.prog 43 #[P b] w fun x w' => x = .returned (.agg #[.string (R.tk T σ.i).s, .int .i64 (R.tk T σ.i).p]) ∧ Rep w' b T σ r ∧ Moves b w w' := by
  obtain ⟨g, cap, hW, hg, k0, k1⟩ := h.tok σ.i h.lt
  refine (peek_w b g σ.i T.length cap _ _ w h.lt h.cells.lt hg (h.c1 0 _ (by rw [← hW]; rfl)) (h.c1 1 _ rfl) k0 k1).mono ?_
  rintro x w' ⟨rfl, hb, hat⟩
  exact ⟨rfl, h.scalar (hat _ _ h.cells) hb rfl rfl rfl rfl h.lt⟩
set_option maxHeartbeats 400000 in
theorem want_c {w : World} {b : Nat} {T : List Tok} {σ : PS} {r : RV} (h : Rep w b T σ r) (s : ByteArray) :
    Calls Tryz.prog 46 #[P b, .string s] w fun x w' => x = .returned (.int .i64 (R.tk T σ.i).p) ∧ Rep w' b T (R.want T s.toList σ) r ∧ Moves b w w' := by
  have ht := take_c h
  have nb := h.cells.lt
  unfold R.want
  generalize R.tk T σ.i = t at *
  obtain ⟨ts, tp⟩ := t
  have H := h
  clear h
  by_cases hs : ts.toList = s.toList
  · rw [if_pos hs]
    go_enter Tryz.func46, Tryz.ntmps46
    go_wp2_with (go_at_call 59; refine ht.mono ?_; rintro x w1 ⟨rfl, hr, hm⟩)
    go_ret
    exact ⟨rfl, hr.alloc _, hm.alloc _⟩
  · rw [if_neg hs]
    have hs' := beq_no hs
    clear hs
    go_enter Tryz.func46, Tryz.ntmps46
    go_wp2_with (go_at_call 59; refine ht.mono ?_; rintro x w1 ⟨rfl, hr, hm⟩)
    refine (fail_c (hr.alloc _) 2 tp).mono ?_
    rintro x w2 ⟨rfl, hr2, hm2⟩
    have d1 := ((hr.box _ _).moves hm2).c 1 _ rfl
    go_wp2_with fail
    go_ret
    exact ⟨rfl, hr2, (hm.alloc _).trans hm2⟩
set_option maxHeartbeats 400000 in
theorem open_c {w : World} {b : Nat} {T : List Tok} {σ : PS} {r : RV} (h : Rep w b T σ r) (n1 : -100 ≤ σ.nest) (n2 : σ.nest ≤ 100) :
    Calls Tryz.prog 58 #[P b] w fun x w' => x = .returned (.int .i64 (R.tk T σ.i).p) ∧ Rep w' b T (R.opens T σ) r ∧ Moves b w w' := by
  have ht := want_c h ⟨#[40]⟩
  have hl : (⟨#[40]⟩ : ByteArray).toList = [40] := by decide +kernel
  rw [hl] at ht
  have hn := R.want_nest T [40] σ
  have nb := h.cells.lt
  unfold R.opens R.open1
  generalize R.want T [40] σ = σ1 at *
  generalize (R.tk T σ.i).p = tp at *
  clear h
  rw [← hn] at n1 n2 ⊢
  clear hn
  by_cases hs : σ1.nest = 10
  · rw [if_pos hs]
    have hs' := beq_yes hs
    clear hs
    go_enter Tryz.func58, Tryz.ntmps58
    go_wp2_with (go_at_call 46; refine ht.mono ?_; rintro x w1 ⟨rfl, hr, hm⟩; have q1 := hr.c1 10 _ rfl)
    refine (fail_c hr 6 tp).mono ?_
    rintro x w2 ⟨rfl, hr2, hm2⟩
    have hn := R.fail_nest 6 tp σ1
    rw [← hn] at n1 n2
    have q3 := hr2.c1 10 _ rfl
    have q2 := hr2.cells.frozen 10
    have Hn := hide hn
    clear hn q1
    go_wp2_with fail
    go_ret
    refine ⟨rfl, ?_⟩
    have := hr2.scalar (σ' := R.up (R.fail 6 tp σ1)) (hr2.cells.set 10 _) ((But.refl b w2).set 10 _) rfl rfl rfl rfl hr2.lt
    exact ⟨this.1, (hm.trans hm2).trans this.2⟩
  · rw [if_neg hs]
    have hs' := beq_no hs
    clear hs
    go_enter Tryz.func58, Tryz.ntmps58
    go_wp2_with (go_at_call 46; refine ht.mono ?_; rintro x w1 ⟨rfl, hr, hm⟩; have q1 := hr.c1 10 _ rfl; have q2 := hr.cells.frozen 10)
    go_ret
    refine ⟨rfl, ?_⟩
    have := hr.scalar (σ' := R.up σ1) (hr.cells.set 10 _) ((But.refl b w1).set 10 _) rfl rfl rfl rfl hr.lt
    exact ⟨this.1, hm.trans this.2⟩
set_option maxHeartbeats 400000 in
theorem shut_c {w : World} {b : Nat} {T : List Tok} {σ : PS} {r : RV} (h : Rep w b T σ r) (n1 : -100 ≤ σ.nest) (n2 : σ.nest ≤ 100) :
    Calls Tryz.prog 61 #[P b] w fun x w' => x = .returned (.tuple #[]) ∧ Rep w' b T (R.shut T σ) r ∧ Moves b w w' := by
  have ht := want_c h ⟨#[41]⟩
  have hl : (⟨#[41]⟩ : ByteArray).toList = [41] := by decide +kernel
  rw [hl] at ht
  have hn := R.want_nest T [41] σ
  unfold R.shut
  have c2 := h.c1 2 _ rfl
  by_cases hs : σ.err = 0
  · rw [if_pos hs]
    have hs' := beq_yes hs
    clear hs
    generalize R.want T [41] σ = σ1 at *
    rw [← hn] at n1 n2
    clear hn
    go_enter Tryz.func61, Tryz.ntmps61
    go_wp2_with (go_at_call 46; refine ht.mono ?_; rintro x w1 ⟨rfl, hr, hm⟩; have q1 := hr.c1 10 _ rfl; have q2 := hr.cells.frozen 10)
    go_end0
    refine ⟨rfl, ?_⟩
    have := hr.scalar (σ' := R.down σ1) (hr.cells.set 10 _) ((But.refl b w1).set 10 _) rfl rfl rfl rfl hr.lt
    exact ⟨this.1, hm.trans this.2⟩
  · rw [if_neg hs]
    have hs' := beq_no hs
    clear hs ht
    have q1 := h.c1 10 _ rfl
    have q2 := h.cells.frozen 10
    go_enter Tryz.func61, Tryz.ntmps61
    go_wp2_with fail
    go_end0
    refine ⟨rfl, ?_⟩
    exact h.scalar (σ' := R.down σ) (h.cells.set 10 _) ((But.refl b w).set 10 _) rfl rfl rfl rfl h.lt
set_option maxHeartbeats 400000 in
theorem leaks_c {w : World} {b : Nat} {T : List Tok} {σ : PS} {r : RV} (h : Rep w b T σ r) (p : Int) (is : Bool) :
    Calls Tryz.prog 79 #[P b, .int .i64 p, .bool is] w fun x w' => x = .returned (.tuple #[]) ∧ Rep w' b T (R.leaks p is σ) r ∧ Moves b w w' := by
  have q1 := h.c1 13 _ rfl
  have q2 := h.cells.frozen 13
  unfold R.leaks
  cases is with
  | false =>
    rw [if_neg (by simp)]
    go_enter Tryz.func79, Tryz.ntmps79
    go_wp2
    go_end0
    exact ⟨rfl, h, Moves.refl _ _⟩
  | true =>
    by_cases l1 : σ.leak < 0
    · rw [if_pos (by simp [l1])]
      go_enter Tryz.func79, Tryz.ntmps79
      go_wp2
      go_end0
      exact ⟨rfl, h.scalar (h.cells.set 13 _) ((But.refl b w).set 13 _) rfl rfl rfl rfl h.lt⟩
    · by_cases l2 : p < σ.leak
      · rw [if_pos (by simp [l2])]
        go_enter Tryz.func79, Tryz.ntmps79
        go_wp2
        go_end0
        exact ⟨rfl, h.scalar (h.cells.set 13 _) ((But.refl b w).set 13 _) rfl rfl rfl rfl h.lt⟩
      · rw [if_neg (by simp [l1, l2])]
        go_enter Tryz.func79, Tryz.ntmps79
        go_wp2
        go_end0
        exact ⟨rfl, h, Moves.refl _ _⟩
end Go.Proofs.YtejbgcloblpbfaaGreatDoor
