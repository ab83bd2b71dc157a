import Derived.Test.YtejbgcloblpbfaaGreatDoorR48
import Derived.Test.YtejbgcloblpbfaaGreatDoorR47
import Derived.Test.YtejbgcloblpbfaaGreatDoorR46
namespace Go.Proofs.YtejbgcloblpbfaaGreatDoor
open Go.RowKit
def Book (w : World) (b : Nat) (U : Nat → Prop) (vs : List Value) : Prop := ∃ (bv : Value) (E : Nat → Prop), At w b 45 [bv] ∧ w.ownsRow 0 103 1 bv vs.length vs ∧ (∀ k, bv.ownBlock = some k → U k ∧ ¬ E k ∧ ¬ k = b) ∧ U b ∧ ¬ E b ∧ (∀ q, E q → U q) ∧ (∀ q, U q → q < w.heap.size) ∧ (∀ (i : Nat) v, vs[i]? = some v → Entry w E (-7000 - (i : Int)) v) ∧ vs.length ≤ 10
theorem Book.keep {w w' : World} {b : Nat} {U : Nat → Prop} {vs : List Value} (h : Book w b U vs) (hb : ∀ q, U q → w'.heap[q]? = w.heap[q]?) (hs : w.heap.size ≤ w'.heap.size) : Book w' b U vs := by
  obtain ⟨bv, E, h1, h2, h3, h4, h5, h6, h7, h8, h9⟩ := h
  refine ⟨bv, E, h1.of_block (hb b h4), ?_, h3, h4, h5, h6, fun q hq => Nat.lt_of_lt_of_le (h7 q hq) hs, fun i v hv => (h8 i v hv).keep (fun k hk _ => hb k (h6 k hk)) (fun _ x => x), h9⟩
  obtain ⟨hx, ⟨e1, e2⟩ | ⟨g, cap, cur, hv, hb', hg, hc, hm, hs, ht⟩⟩ := h2
  · exact ⟨hx, Or.inl ⟨e1, e2⟩⟩
  · exact ⟨hx, Or.inr ⟨g, cap, cur, hv, hb', (hb g (h3 g (by rw [hv]; rfl)).1).trans hg, hc, hm, hs, ht⟩⟩
theorem Book.below {w w' : World} {b : Nat} {U : Nat → Prop} {vs : List Value} (h : Book w b U vs) (hb : Below w.heap.size w w') : Book w' b U vs := by
  have h7 := h
  obtain ⟨bv, E, _, _, _, _, _, _, h7, _⟩ := h7
  exact h.keep (fun q hq => hb.block q (h7 q hq)) hb.size
theorem Book.lt {w : World} {b : Nat} {U : Nat → Prop} {vs : List Value} (h : Book w b U vs) : ∀ q, U q → q < w.heap.size := by
  obtain ⟨bv, E, _, _, _, _, _, _, h7, _⟩ := h
  exact h7
theorem Book.own {w : World} {b : Nat} {U : Nat → Prop} {vs : List Value} (h : Book w b U vs) : U b := by
  obtain ⟨bv, E, _, _, _, h4, _⟩ := h
  exact h4
theorem keep_book {w : World} {b n : Nat} {ao : Option Addr} {U : Nat → Prop} {vs : List Value} {l : List Value} (hB : Book w b U vs) (hvs : vs.length ≤ 9) (hn : n ≤ 54) (hnil : ao = none → n = 0) (hform : ∀ a, ao = some a → ∃ g, a = ⟨g, 0, none⟩ ∧ At w g 3 l ∧ l.length = n ∧ ¬ U g) :
    Calls Tryz.prog 24 #[.pointer (some ⟨b, 0, none⟩), .slice ao n n] w fun x w' => x = .returned (.tuple #[]) ∧ (∃ e, Book w' b (fun q => U q ∨ ao = some ⟨q, 0, none⟩ ∨ w.heap.size ≤ q ∧ q < w'.heap.size) (vs ++ [e])) ∧ Out (fun q => U q ∨ ao = some ⟨q, 0, none⟩) w w' := by
  obtain ⟨bv, E, h1, h2, h3, h4, h5, h6, h7, h8, h9⟩ := hB
  refine (keep_c (l := l) hn hnil (fun a e => ?_) h1 h2 (fun k hk => (h3 k hk).2.2) h9).mono fun x w' h => ⟨h.1, ?_⟩
  · obtain ⟨g, e1, e2, e3, e4⟩ := hform a e
    exact ⟨g, e1, e2, e3, fun x => e4 (by rw [x]; exact h4), fun k hk x => e4 (by rw [x]; exact (h3 k hk).1)⟩
  · obtain ⟨_, p, ok, rfl, rfl, pm, rfl, rfl, ps, pb, p1, p2, p3, v, f1, ⟨hh, c, e, z, rfl, f3, f4, f5, f6⟩, q1, q2, q3, q4, q5⟩ := h
    have gU : ∀ q, U q → ¬ p.ao = some ⟨q, 0, none⟩ := fun q hq e => by
      obtain ⟨g, e1, _, _, e4⟩ := hform _ e
      cases e1
      exact e4 hq
    have same : ∀ q, q < w.heap.size → ¬ p.ao = some ⟨q, 0, none⟩ → ¬ p.bv.ownBlock = some q → ¬ q = p.b → w'.heap[q]? = w.heap[q]? := fun q hq a1 a2 a3 => (q5 q (by rw [ps]; exact hq) a2 a3).trans (pb q a1)
    have sz : w.heap.size ≤ w'.heap.size := by rw [← ps]; exact q4
    refine ⟨⟨e, _, fun q => E q ∨ p.N q ∧ q < z, f1, by rw [List.length_append]; exact f3, ?_, Or.inl h4, ?_, ?_, ?_, ?_, by rw [List.length_append]; show _ + 1 ≤ _; omega⟩, ⟨q1.trans p1, q2.trans p2, q3.trans p3, sz, fun k hk hx => ?_⟩⟩
    · intro k hk
      have hkk : k = hh := by cases hk; rfl
      subst hkk
      have hlt : k < w'.heap.size := (f3.lt k rfl).2
      rcases f5 with f5 | ⟨f5, f5'⟩
      · obtain ⟨u1, u2, u3⟩ := h3 k f5
        exact ⟨Or.inl u1, fun x => x.elim u2 (fun y => (ok.off k f5).1 y.1), u3⟩
      · rw [ps] at f5'
        refine ⟨Or.inr (Or.inr ⟨f5', hlt⟩), fun x => x.elim (fun y => ?_) (fun y => ?_), fun x => ?_⟩
        · have := h7 k (h6 k y); omega
        · have := y.2; omega
        · have := h1.lt; omega
    · rintro (x | x)
      · exact h5 x
      · exact ok.offb x.1
    · rintro q (x | ⟨x | x, x2⟩)
      · exact Or.inl (h6 q x)
      · exact Or.inr (Or.inr ⟨by rw [← ps]; exact x, by omega⟩)
      · exact Or.inr (Or.inl x)
    · rintro q (x | x | x)
      · have := h7 q x; omega
      · obtain ⟨g, e1, e2, _⟩ := hform _ x
        cases e1
        have := e2.lt; omega
      · exact x.2
    · intro i u hu
      by_cases c : i < p.vs.length
      · rw [List.getElem?_append_left c] at hu
        exact (h8 i u hu).keep (fun k hk hl => same k hl (gU k (h6 k hk)) (fun x => (h3 k x).2.1 hk) (fun x => h5 (x ▸ hk))) (fun k hk => Or.inl hk)
      · have hi : i = p.vs.length := by
          have := (List.getElem?_eq_some_iff.1 hu).1
          rw [List.length_append] at this
          simp at this
          omega
        subst hi
        rw [List.getElem?_append_right (Nat.le_refl _), Nat.sub_self] at hu
        cases hu
        rw [← pm]
        exact f4.keep (fun _ _ _ => rfl) (fun k hk => Or.inr hk)
    · refine same k hk (fun x => hx (Or.inr x)) (fun x => hx (Or.inl (h3 k x).1)) (fun x => hx (Or.inl (by rw [x]; exact h4)))
set_option maxRecDepth 100000 in
set_option maxHeartbeats 4000000 in
theorem looks_c {w : World} {b : Nat} {U : Nat → Prop} {vs : List Value} (hB : Book w b U vs) :
    Calls Tryz.prog 26 #[.pointer (some ⟨b, 0, none⟩)] w fun x w' => x = .returned (.bool true) ∧ Still w w' := by
  obtain ⟨bv, E, h1, h2, h3, h4, h5, h6, h7, h8, h9⟩ := hB
  obtain ⟨ba, bc, rfl, hrow⟩ : ∃ ba bc, bv = .slice ba vs.length bc ∧ Hid (∀ (i : Nat) v, vs[i]? = some v → ∃ g, ba = some ⟨g, 0, none⟩ ∧ w.cell? ⟨g, i, none⟩ = some v) := by
    rcases Joins.ownsRow_forms h2 with ⟨rfl, h0⟩ | ⟨g, c, rfl⟩
    · refine ⟨none, 0, by rw [h0], fun i v hv => ?_⟩
      have := (List.getElem?_eq_some_iff.1 hv).1
      omega
    · exact ⟨_, _, rfl, fun i v hv => ⟨g, rfl, (own_cells h2).2.2 i v hv⟩⟩
  have cb := h1.cell 0
  simp only [List.getElem?_cons_zero] at cb
  have H8 := hide h8
  have bl := h1.lt
  clear h1 h2 h3 h4 h5 h6 h7 h8
  go_enter Tryz.func26, Tryz.ntmps26
  go_wp2_with fail
  go_loopg [3, 4, 5] 4 (fun gk kk _ _ wr => ∃ k : Nat, k + gk = 4 ∧ kk = .int .i64 (k : Int) ∧ Still w wr)
  case atStart => exact ⟨0, rfl, rfl, ⟨rfl, rfl, rfl, rfl⟩⟩
  case round =>
    obtain ⟨k, hk, rfl, hs⟩ := hrel
    cases gk with
    | zero =>
      have hz : ¬ ((k : Int) < 4) := by omega
      go_wp2_with fail
      go_ret
      exact ⟨rfl, hs⟩
    | succ g1 =>
      have hz : (k : Int) < 4 := by omega
      have hk4 : k < 4 := by omega
      go_wp2_with fail
      go_loopg [4, 5] vs.length (fun g2 ii _ wy => ∃ i : Nat, i + g2 = vs.length ∧ ii = .int .i64 (i : Int) ∧ Still w wy)
      case atStart => exact ⟨0, by omega, rfl, hs⟩
      case round =>
        obtain ⟨i, hi, rfl, hs2⟩ := hrel
        have cb2 := cb
        rw [← hs2.cell] at cb2
        cases gk with
        | zero =>
          have hy : ¬ ((i : Int) < (vs.length : Int)) := by omega
          go_wp2_with fail
          go_roundg g1
          case measure => omega
          case rel => exact ⟨k + 1, by omega, by go_num, hs2⟩
        | succ g2 =>
          have hy : (i : Int) < (vs.length : Int) := by omega
          obtain ⟨v, hv⟩ : ∃ v, vs[i]? = some v := ⟨_, List.getElem?_eq_getElem (by omega)⟩
          obtain ⟨gb, rfl, c1⟩ := hrow.out i v hv
          obtain ⟨h, rfl, _, hf⟩ := H8.out i v hv
          obtain ⟨u, c2, ao, n, c, rfl, hn, hc⟩ := hf k hk4
          have HC := hide hc
          clear hc hf
          obtain ⟨m, hmm⟩ : ∃ m : Int, Hid (m = -7000 - (i : Int)) := ⟨_, rfl⟩
          have hmk := fun (w : World) => mark_c (i : Int) (by omega) (by omega) w
          rw [← hmm.out] at hmk HC
          go_wp2_with fail
          go_loopg [5] n (fun g3 jj wz => ∃ j : Nat, j + g3 = n ∧ jj = .int .i64 (j : Int) ∧ Still w wz)
          case atStart => exact ⟨0, by omega, rfl, hs2⟩
          case round =>
            obtain ⟨j, hj, rfl, hs3⟩ := hrel
            have cb3 := cb
            have c1' := c1
            have c2' := c2
            rw [← hs3.cell] at cb3 c1' c2'
            cases gk with
            | zero =>
              have hx : ¬ ((j : Int) < (n : Int)) := by omega
              go_wp2_with fail
              go_roundg g2
              case measure => omega
              case rel => exact ⟨i + 1, by omega, by go_num, hs3⟩
            | succ g3 =>
              have hx : (j : Int) < (n : Int) := by omega
              obtain ⟨g, rfl, _, c3⟩ := HC.out j (by omega)
              have c3' := c3
              rw [← hs3.cell] at c3'
              go_upto_region 10 with fail
              go_quiet (first | (go_at_call 49; refine Calls.quiet_of_same (hmk _)))
              go_wp2_with fail
              go_roundg g3
              case measure => omega
              case rel => exact ⟨j + 1, by omega, by go_num, hs3.drewN _⟩
end Go.Proofs.YtejbgcloblpbfaaGreatDoor
namespace Go.Proofs.YtejbgcloblpbfaaGreatDoor
open Go.RowKit
open K (Nm)
def BookAt (w : World) (b : Nat) : Prop := ∃ c f, w.heap[b]? = some (.cells c 45 f)
theorem at_but {w w' : World} {b g : Nat} {t : TypeId} {l : List Value} (h : At w g t l) (hB : BookAt w b) (ht : ¬ t = 45) (hb : But b w w') : At w' g t l := by
  refine h.of_block (hb.block g h.lt ?_)
  rintro rfl
  obtain ⟨c, f, hc⟩ := hB
  unfold At at h
  rw [h] at hc
  cases hc
  exact ht rfl
theorem own_but {w w' : World} {b B n size : Nat} {t : TypeId} {v : Value} {xs : List Value} (h : w.ownsRow B t size v n xs) (hB : BookAt w b) (ht : ¬ t = 45) (hb : But b w w') : w'.ownsRow B t size v n xs := by
  obtain ⟨hx, ⟨e1, e2⟩ | ⟨g, cap, cur, hv, hb', hg, hc, hm, hs, ht'⟩⟩ := h
  · exact ⟨hx, Or.inl ⟨e1, e2⟩⟩
  · refine ⟨hx, Or.inr ⟨g, cap, cur, hv, hb', (hb.block g (heap_lt hg) ?_).trans hg, hc, hm, hs, ht'⟩⟩
    rintro rfl
    obtain ⟨c, f, hc'⟩ := hB
    rw [hg] at hc'
    cases hc'
    exact ht rfl
theorem Rep.but {w w' : World} {b q : Nat} {T : List R.Tok} {σ : R.PS} {r : RV} (h : Rep w q T σ r) (hB : BookAt w b) (hb : But b w w') : Rep w' q T σ r := by
  refine ⟨at_but h.cells hB (by decide) hb, own_but h.toks hB (by decide) hb, own_but h.seen hB (by decide) hb, ?_, own_but h.shape hB (by decide) hb, own_but h.does hB (by decide) hb, h.lt, h.few⟩
  obtain ⟨xs, hx, hl, hnd⟩ := h.nodes
  refine ⟨xs, own_but hx hB (by decide) hb, hl, fun i c n h1 h2 => ?_⟩
  obtain ⟨lv, tv, e, hL, hT⟩ := hnd i c n h1 h2
  exact ⟨lv, tv, e, own_but hL hB (by decide) hb, own_but hT hB (by decide) hb⟩
theorem ref_go {s : ByteArray} (hs : s.size ≤ 800) (he : (R.read s).err = 0) {w : World} {b : Nat} {r : RV} (h : Rep w b (R.toks s) (R.read s) r) {aM : Option Addr} {cM : Nat} {ms : List Int} (hms : ms.length = (R.read s).shape.length) (hcM : aM = none → cM = 0)
    (hM : ∀ (j : Nat) u, ms[j]? = some u → ∃ gm o, aM = some ⟨gm, o, none⟩ ∧ gm < w.heap.size ∧ w.cell? ⟨gm, o + j, none⟩ = some (.int .i64 u)) :
    Calls Tryz.prog 23 #[P b, .slice aM ms.length cM] w fun x w' => (∃ aR cR, x = .returned (.slice aR ms.length cR) ∧ IntsFrom w' aR ((V.rds (K.progD (R.toks s)) (ms ++ [0, 0])).take ms.length)) ∧ Below w.heap.size w w' := by
  obtain ⟨p1, p2, p3, p4, p5, p6, p7, p8⟩ := Q.shape_ok hs he
  obtain ⟨ks, k1, k2, k3⟩ := Q.prog_node hs he
  have hf := h.few
  obtain ⟨a, c, i1, i2, i3⟩ := ints_at (l := (R.read s).does) h.does
  rw [k1] at i1 i2 i3
  rw [List.length_map] at i1 i2
  have hP := rep_pat h (by omega)
  have hd : w.cell? ⟨b, 8, none⟩ = some (.slice a ks.length c) := by rw [h.c1 8 _ rfl, i1]
  have hks : ∀ (j : Nat) u, ks[j]? = some u → ∃ q, a = some ⟨q, 0, none⟩ ∧ q < w.heap.size ∧ w.cell? ⟨q, 0 + j, none⟩ = some (.int .i64 (u : Int)) := fun j u hj => by
    have := i3 j (u : Int) (by rw [List.getElem?_map, hj]; rfl)
    simpa using this
  rw [← hms] at k2 p5
  by_cases h0 : 0 < ms.length
  · obtain ⟨u, hu⟩ : ∃ u, ms[0]? = some u := ⟨_, List.getElem?_eq_getElem h0⟩
    obtain ⟨gm, o, rfl, hg, _⟩ := hM 0 u hu
    refine (refrun_pos ms.length p5 h0 (R.read s).nodes (K.progD (R.toks s)) ms rfl w b a c ks gm o cM hP k2 hd hks (by omega) hg (fun j u hj => ?_)).mono fun x w' hx => ⟨?_, hx.2⟩
    · obtain ⟨_, _, e1, _, e3⟩ := hM j u hj
      cases e1
      exact e3
    · obtain ⟨g, cR, rest, e1, e2, e3⟩ := hx.1
      refine ⟨_, _, e1, fun j u hj => ⟨g, 0, rfl, ?_⟩⟩
      rw [Nat.zero_add, e3.cell, List.getElem?_append_left (by rw [List.length_map]; exact (List.getElem?_eq_some_iff.1 hj).1), List.getElem?_map, hj]
      rfl
  · have hz : ms.length = 0 := by omega
    have hnil : ms = [] := List.eq_nil_of_length_eq_zero hz
    subst hnil
    refine (refrun_zero (R.read s).nodes (K.progD (R.toks s)) w b a c ks aM cM hcM hP k2 hd hks (by omega)).mono fun x w' hx => ⟨?_, hx.2⟩
    obtain ⟨aR, cR, e1⟩ := hx.1
    exact ⟨aR, cR, e1, fun j u hj => by simp at hj⟩
end Go.Proofs.YtejbgcloblpbfaaGreatDoor
namespace Go.Proofs.YtejbgcloblpbfaaGreatDoor
open Go.RowKit
structure MAt (w : World) (L : Nat) (aM : Option Addr) (cM : Nat) (ms : List Int) : Prop where
  nil : aM = none → ms = [] ∧ cM = 0
  form : ∀ a, aM = some a → ∃ gm om, a = ⟨gm, om, none⟩ ∧ gm < L
  cell : ∀ (j : Nat) u gm om, ms[j]? = some u → aM = some ⟨gm, om, none⟩ → w.cell? ⟨gm, om + j, none⟩ = some (.int .i64 u)
  room : (ms.length + 8) * 8 ≤ 140737488355328
theorem MAt.keep {w w' : World} {L : Nat} {aM : Option Addr} {cM : Nat} {ms : List Int} (h : MAt w L aM cM ms) (hb : ∀ k, k < L → w'.heap[k]? = w.heap[k]?) : MAt w' L aM cM ms := by
  refine ⟨h.nil, h.form, fun j u gm om hu e => ?_, h.room⟩
  obtain ⟨gm', om', e1, e2⟩ := h.form _ e
  cases e1
  exact (World.cell?_of_block (hb gm e2)).trans (h.cell j u gm om hu e)
def RA (w : World) (aM : Option Addr) (ms : List Int) (ra : Option Addr) (rc : Nat) : Prop := (ra = none ∧ aM = none ∧ rc = 0) ∨ ∃ g rest gm om, ra = some ⟨g, 0, none⟩ ∧ aM = some ⟨gm, om, none⟩ ∧ ms.length + 8 ≤ rc ∧ At w g 3 (ints (ms ++ List.replicate 8 (-77)) ++ rest)
theorem RA.keep {w w' : World} {aM : Option Addr} {ms : List Int} {ra : Option Addr} {rc : Nat} (h : RA w aM ms ra rc) (hb : ∀ g, ra = some ⟨g, 0, none⟩ → w'.heap[g]? = w.heap[g]?) : RA w' aM ms ra rc := by
  rcases h with h | ⟨g, rest, gm, om, h1, h2, h3, h4⟩
  · exact Or.inl h
  · exact Or.inr ⟨g, rest, gm, om, h1, h2, h3, h4.of_block (hb g h1)⟩
theorem roomy_all {w : World} {L : Nat} {aM : Option Addr} {cM : Nat} {ms : List Int} (h : MAt w L aM cM ms) :
    Calls Tryz.prog 20 #[.slice aM ms.length cM] w fun x w' => (∃ ra rc, x = .returned (.slice ra ms.length rc) ∧ RA w' aM ms ra rc ∧ ∀ g, ra = some ⟨g, 0, none⟩ → w.heap.size ≤ g) ∧ Below w.heap.size w w' := by
  cases aM with
  | none =>
    obtain ⟨rfl, rfl⟩ := h.nil rfl
    refine (roomy_nil w).mono fun x w' ⟨h1, h2⟩ => ?_
    subst h2
    exact ⟨⟨none, 0, h1, Or.inl ⟨rfl, rfl, rfl⟩, fun g e => by cases e⟩, Below.refl _ _⟩
  | some a =>
    obtain ⟨gm, om, rfl, _⟩ := h.form a rfl
    refine (roomy_c (gm := gm) (om := om) (cm := cM) h.room (fun j u hu => h.cell j u gm om hu rfl)).mono fun x w' h1 => ⟨?_, h1.2⟩
    obtain ⟨g, c, rest, e1, e2, e3, e4⟩ := h1.1
    exact ⟨some ⟨g, 0, none⟩, c, e1, Or.inr ⟨g, rest, gm, om, rfl, rfl, e3, e4⟩, fun g' e => by cases e; exact e2⟩
theorem ints_cell {w : World} {g : Nat} {l : List Int} {rest : List Value} (h : At w g 3 (ints l ++ rest)) {j : Nat} {u : Int} (hu : l[j]? = some u) : w.cell? ⟨g, j, none⟩ = some (.int .i64 u) := by
  have hj : j < l.length := (List.getElem?_eq_some_iff.1 hu).1
  rw [h.cell, List.getElem?_append_left (by unfold ints; rw [List.length_map]; exact hj)]
  unfold ints
  rw [List.getElem?_map, hu]
  rfl
theorem kept_all {w : World} {L : Nat} {aM ra : Option Addr} {cM rc : Nat} {ms : List Int} (h : MAt w L aM cM ms) (hr : RA w aM ms ra rc) :
    Calls Tryz.prog 25 #[.slice ra ms.length rc, .slice aM ms.length cM] w fun x w' => x = .returned (.bool true) ∧ Still w w' := by
  rcases hr with ⟨rfl, rfl, rfl⟩ | ⟨g, rest, gm, om, rfl, rfl, h3, h4⟩
  · obtain ⟨rfl, rfl⟩ := h.nil rfl
    refine (kept_nil w).mono fun x w' ⟨h1, h2⟩ => ?_
    subst h2
    exact ⟨h1, ⟨rfl, rfl, rfl, rfl⟩⟩
  · have := h.room
    refine kept_c (by unfold maxLen; omega) h3 (fun j u hu => ⟨gm, om, rfl, h.cell j u gm om hu rfl⟩) (fun j u hu => ⟨g, 0, rfl, ?_⟩)
    rw [Nat.zero_add]
    exact ints_cell h4 hu
theorem RA.mem {w : World} {aM ra : Option Addr} {rc : Nat} {ms : List Int} (h : RA w aM ms ra rc) (hn : aM = none → ms = []) : ∀ (j : Nat) u, ms[j]? = some u → ∃ gm o, ra = some ⟨gm, o, none⟩ ∧ gm < w.heap.size ∧ w.cell? ⟨gm, o + j, none⟩ = some (.int .i64 u) := by
  intro j u hu
  rcases h with ⟨rfl, h2, rfl⟩ | ⟨g, rest, gm, om, rfl, rfl, h3, h4⟩
  · rw [hn h2] at hu; simp at hu
  · refine ⟨g, 0, rfl, h4.lt, ?_⟩
    rw [Nat.zero_add]
    refine ints_cell h4 ?_
    rw [List.getElem?_append_left (List.getElem?_eq_some_iff.1 hu).1]
    exact hu
abbrev fortyS : ByteArray := { data := #[40, 112, 117, 98, 108, 105, 99, 32, 97, 41, 40, 115, 101, 116, 32, 97, 32, 40, 43, 32, 97, 32, 49, 41, 41] }
theorem forty_err : (R.read fortyS).err = 0 := by decide +kernel
theorem forty_len : (R.read fortyS).shape.length = 1 := by decide +kernel
theorem forty_run : (V.rds (K.progD (R.toks fortyS)) ([41] ++ [0, 0])).take 1 = [42] := by decide +kernel
theorem forty_c (w : World) (hv : K.Vars w) (hw : 5 ≤ w.heap.size) (g : Nat) (hg : At w g 3 [.int .i64 41]) :
    Calls Tryz.prog 21 #[.string fortyS, .slice (some ⟨g, 0, none⟩) 1 1] w fun x w' => (∃ h, x = .returned (.tuple #[.slice (some ⟨h, 0, none⟩) 1 1, .int .i64 0]) ∧ At w' h 3 [.int .i64 42]) ∧ Below w.heap.size w w' := by
  refine (run_c fortyS w (by decide) hv hw (some ⟨g, 0, none⟩) 1 [41] (fun j u hu => ?_)).mono fun x w' h => ⟨?_, h.2⟩
  · refine ⟨g, 0, rfl, hg.lt, ?_⟩
    match j, hu with
    | 0, hu => cases hu; exact hg.cell 0
    | j + 1, hu => simp at hu
  · rcases h.1 with ⟨h1, _⟩ | ⟨_, h1, _⟩ | ⟨_, _, h, h1, _, h2⟩
    · exact absurd forty_err h1
    · exact absurd (by rw [forty_len]; rfl) h1
    · refine ⟨h, h1, ?_⟩
      have e : ([41] : List Int).length = 1 := rfl
      rw [e, forty_run] at h2
      exact h2
end Go.Proofs.YtejbgcloblpbfaaGreatDoor
