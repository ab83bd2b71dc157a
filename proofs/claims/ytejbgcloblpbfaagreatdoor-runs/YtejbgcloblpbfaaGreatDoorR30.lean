import Derived.Test.YtejbgcloblpbfaaGreatDoorR23
import Derived.Test.YtejbgcloblpbfaaGreatDoorR22
import Derived.Test.YtejbgcloblpbfaaGreatDoorR25
import Derived.Test.YtejbgcloblpbfaaGreatDoorR27
import Derived.Deep.QuietTactic
import Derived.BigQuiet
import Derived.Deep.CutBlock
import Derived.Deep.RegionHeld
import Derived.Test.YtejbgcloblpbfaaGreatDoorR28
import Derived.Test.YtejbgcloblpbfaaGreatDoorR29
namespace Go.Proofs.YtejbgcloblpbfaaGreatDoor
open Go.RowKit
open R (Tok Thing Nd PS)
set_option maxRecDepth 100000 in
set_option maxHeartbeats 1000000 in
theorem do_deep {T : List Tok} {f : Nat} (w : World) (b : Nat) (σ : PS) (r : RV) (h : Rep w b T σ r) (hb : BdD T (f + 1) σ) (hO : ¬ (R.opens T σ).err = 0) :
    Calls Tryz.prog 62 #[P b] w fun x w' => x = .returned (.int .i64 0) ∧ ∃ r', Rep w' b T (R.opens T σ) r' ∧ Moves b w w' := by
  have hoc := open_c h (by have := hb.n0; omega) (by have := hb.n1; omega)
  have hO' := beq_no hO
  clear hO
  generalize R.opens T σ = σ1 at *
  go_enter Tryz.func62, Tryz.ntmps62
  go_wp2_with fail
  refine hoc.mono ?_
  rintro x w2 ⟨rfl, hr2, hm2⟩
  have q2 := hr2.c1 2 _ rfl
  go_wp2_with fail
  go_ret
  exact ⟨rfl, r, hr2, hm2⟩
theorem do_c {T : List Tok} (hT : R.Small T) (hEnd : R.Ended T) (f : Nat) : DoDoes T f := by
  induction f with
  | zero => intro w b σ r _ _ _ hb; have := hb.fu; have := hb.n1; omega
  | succ f ih =>
    have hds := does_c hEnd f ih
    have hbl := block_c f hEnd hds
    intro w b σ r h _ _ hb
    show Calls _ _ _ _ fun x w' => x = .returned (.int .i64 (R.doB T (R.does T f) σ).2) ∧ ∃ r', Rep w' b T (R.doB T (R.does T f) σ).1 r' ∧ Moves b w w'
    unfold R.doB
    by_cases hO : (R.opens T σ).err = 0
    · rw [if_pos hO]
      by_cases h1 : (R.tk T (R.opens T σ).i).s.toList = R.kSet
      · exact do_set hT hEnd f w b σ r h hb hO h1
      · by_cases h2 : (R.tk T (R.opens T σ).i).s.toList = R.kPut
        · exact do_put hT hEnd f w b σ r h hb hO h2
        · by_cases h3 : (R.tk T (R.opens T σ).i).s.toList = R.kIf
          · exact do_if hT hEnd f hbl w b σ r h hb hO h3
          · by_cases h4 : (R.tk T (R.opens T σ).i).s.toList = R.kFor
            · exact do_for hT hEnd f hds w b σ r h hb hO h4
            · exact do_none hT hEnd f w b σ r h hb hO h1 h2 h3 h4
    · rw [if_neg hO]
      exact do_deep w b σ r h hb hO
theorem doesAll_c {T : List Tok} (hT : R.Small T) (hEnd : R.Ended T) (f : Nat) : DoesDoes T f := does_c hEnd f (do_c hT hEnd f)
end Go.Proofs.YtejbgcloblpbfaaGreatDoor
namespace Go.Proofs.YtejbgcloblpbfaaGreatDoor
open Go.RowKit
theorem read_c (s : ByteArray) (w : World) (hs : s.size ≤ 800) :
    Calls Tryz.prog 15 #[.string s] w fun x w' => ∃ b r, x = .returned (P b) ∧ Rd w w' b (R.toks s) (R.readT (R.toks s)) r :=
  read_short s w hs (doesAll_c (R.toks_small (by omega)) (R.toks_ended s) 12)
end Go.Proofs.YtejbgcloblpbfaaGreatDoor
namespace Go.Proofs.YtejbgcloblpbfaaGreatDoor
open Go.RowKit
open R (Nd)
open K (Nm Ex Do)
def IntsAt (w : World) (lim : Nat) (v : Value) (l : List Int) : Prop :=
  ∃ a c, v = .slice a l.length c ∧ (l.length ≤ c ∧ c ≤ 9223372036854775807) ∧ ∀ (j : Nat) u, l[j]? = some u → ∃ g, a = some ⟨g, 0, none⟩ ∧ g < lim ∧ w.cell? ⟨g, j, none⟩ = some (.int .i64 u)
def NodeAt (w : World) (lim g k : Nat) (n : Nd) : Prop :=
  ∃ lv tv, (∀ (j : Nat) v, (nodeCells n lv tv)[j]? = some v → w.cell? ⟨g, k * 10 + j, none⟩ = some v) ∧ IntsAt w lim lv n.L ∧ IntsAt w lim tv n.two
structure PAt (w : World) (lim b : Nat) (nodes : List Nd) : Prop where
  lt : b < lim
  few : nodes.length ≤ 100000
  node : ∀ (k : Nat) n, nodes[k]? = some n → ∃ g cap, w.cell? ⟨b, 7, none⟩ = some (.slice (some ⟨g, 0, none⟩) nodes.length cap) ∧ g < lim ∧ NodeAt w lim g k n
theorem IntsAt.keep {w w' : World} {lim : Nat} {v : Value} {l : List Int} (h : IntsAt w lim v l) (hb : Below lim w w') : IntsAt w' lim v l := by
  obtain ⟨a, c, hv, hb', hc⟩ := h
  exact ⟨a, c, hv, hb', fun j u hu => by
    obtain ⟨g, e1, e2, e3⟩ := hc j u hu
    exact ⟨g, e1, e2, (hb.cell (p := ⟨g, j, none⟩) e2).trans e3⟩⟩
theorem PAt.keep {w w' : World} {lim b : Nat} {nodes : List Nd} (h : PAt w lim b nodes) (hb : Below lim w w') : PAt w' lim b nodes := by
  refine ⟨h.lt, h.few, fun k n hn => ?_⟩
  obtain ⟨g, cap, e1, e2, lv, tv, e3, e4, e5⟩ := h.node k n hn
  exact ⟨g, cap, (hb.cell (p := ⟨b, 7, none⟩) h.lt).trans e1, e2, lv, tv, fun j v hv => (hb.cell (p := ⟨g, k * 10 + j, none⟩) e2).trans (e3 j v hv), e4.keep hb, e5.keep hb⟩
structure SAt (w : World) (lim sb gM gC : Nat) (M C : List Int) : Prop where
  cells : ∃ aM cM, At w sb 100 [.slice aM M.length cM, .slice (some ⟨gC, 0, none⟩) C.length C.length] ∧ (0 < M.length → aM = some ⟨gM, 0, none⟩)
  mem : 0 < M.length → ∃ rest, At w gM 3 ((M.map fun n => .int .i64 n) ++ rest)
  cnt : At w gC 3 (C.map fun n => .int .i64 n)
  lo : lim ≤ sb ∧ lim ≤ gM ∧ lim ≤ gC
  ne : (0 < M.length → gM ≠ gC ∧ sb ≠ gM) ∧ sb ≠ gC
  lt : gM < w.heap.size
theorem SAt.below {w w' : World} {lim sb gM gC : Nat} {M C : List Int} (h : SAt w lim sb gM gC M C) (hb : Below w.heap.size w w') : SAt w' lim sb gM gC M C := by
  obtain ⟨⟨aM, cM, h1, h2⟩, h3, h4, h5, h6, h7⟩ := h
  refine ⟨⟨aM, cM, h1.of_block (hb.block _ h1.lt), h2⟩, fun hp => ?_, h4.of_block (hb.block _ h4.lt), h5, h6, Nat.lt_of_lt_of_le h7 hb.size⟩
  obtain ⟨rest, h8⟩ := h3 hp
  exact ⟨rest, h8.of_block (hb.block _ h7)⟩
theorem SAt.word {w : World} {lim sb gM gC : Nat} {M C : List Int} (h : SAt w lim sb gM gC M C) {k : Nat} (hk : k < M.length) : w.cell? ⟨gM, k, none⟩ = some (.int .i64 (M.getD k 0)) := by
  obtain ⟨rest, h1⟩ := h.mem (by omega)
  rw [h1.cell, List.getElem?_append_left (by rw [List.length_map]; exact hk), List.getElem?_map, List.getElem?_eq_getElem hk, List.getD_eq_getElem?_getD, List.getElem?_eq_getElem hk]
  rfl
theorem SAt.count {w : World} {lim sb gM gC : Nat} {M C : List Int} (h : SAt w lim sb gM gC M C) {k : Nat} (hk : k < C.length) : w.cell? ⟨gC, k, none⟩ = some (.int .i64 (C.getD k 0)) := by
  rw [h.cnt.cell, List.getElem?_map, List.getElem?_eq_getElem hk, List.getD_eq_getElem?_getD, List.getElem?_eq_getElem hk]
  rfl
def NE (N : Nat) (nodes : List Nd) : Ex → Nat → Prop
  | .num v, k => ∃ n, nodes[k]? = some n ∧ n.word = ⟨#[35]⟩ ∧ n.n = v
  | .use m, k => ∃ n, nodes[k]? = some n ∧ n.word = ⟨#[64]⟩ ∧ 0 ≤ n.t.pos ∧ ((n.t.kind = 3 ∧ m.place = N + n.t.pos ∧ n.t.pos < 2) ∨ (¬ n.t.kind = 3 ∧ m.place = n.t.pos ∧ n.t.pos < N))
  | .get _ m e, k => ∃ n, ∃ x : Nat, nodes[k]? = some n ∧ n.word = ⟨#[103, 101, 116]⟩ ∧ n.L = [(x : Int)] ∧ n.t.pos = m.place ∧ n.t.size = m.size ∧ 0 ≤ m.place ∧ 1 ≤ m.size ∧ m.size ≤ 6 ∧ m.place + m.size ≤ N ∧ NE N nodes e x
  | .op _ o l r, k => ∃ n, ∃ x y : Nat, nodes[k]? = some n ∧ n.word = ⟨#[o]⟩ ∧ V.isOp o = true ∧ n.L = [(x : Int), (y : Int)] ∧ NE N nodes l x ∧ NE N nodes r y
  | .cho _ q y z, k => ∃ n, ∃ a b c : Nat, nodes[k]? = some n ∧ n.word = ⟨#[99, 104, 111, 111, 115, 101]⟩ ∧ n.L = [(a : Int), (b : Int), (c : Int)] ∧ NE N nodes q a ∧ NE N nodes y b ∧ NE N nodes z c
  | .none, _ => False
theorem bit_c (q : Bool) (w : World) : Calls Tryz.prog 69 #[.bool q] w fun x w' => x = .returned (.int .i64 (if q = true then 1 else 0)) ∧ w' = w := by
  cases q <;>
  · go_enter Tryz.func69, Tryz.ntmps69
    go_wp2_with fail
    go_ret
    exact ⟨rfl, rfl⟩
theorem quotient_c (a b : Int) (w : World) : Calls Tryz.prog 70 #[.int .i64 a, .int .i64 b] w fun x w' => x = .returned (.int .i64 (if b = 0 then 0 else wrap64 (a.tdiv b))) ∧ w' = w := by
  by_cases hb : b = 0
  · subst hb
    go_enter Tryz.func70, Tryz.ntmps70
    go_wp2_with fail
    go_ret
    exact ⟨rfl, rfl⟩
  · rw [if_neg hb]
    go_enter Tryz.func70, Tryz.ntmps70
    go_wp2_with fail
    go_ret
    exact ⟨rfl, rfl⟩
theorem place_c (t : R.Thing) (a : Int) (w : World) (h0 : 0 ≤ t.pos) (h1 : 1 ≤ t.size) (h6 : t.size ≤ 6) (hp : t.pos ≤ 1000) :
    Calls Tryz.prog 92 #[.agg #[.string t.name, .int .i64 t.kind, .bool t.sec, .int .i64 t.pos, .int .i64 t.size], .int .i64 a] w fun x w' => x = .returned (.int .i64 (t.pos + V.md a t.size)) ∧ Below w.heap.size w w' := by
  have hm := V.md_eq a h1 h6
  have h2 := Int.emod_nonneg a (show t.size ≠ 0 by omega)
  have h3 := Int.emod_lt_of_pos a (show 0 < t.size by omega)
  have e := Int.tmod_eq_emod (a := a) (b := t.size)
  have hor : a.tmod t.size = a % t.size ∨ a.tmod t.size = a % t.size - t.size := by
    rw [e]
    split
    · left; omega
    · right; omega
  rw [hm]
  obtain ⟨x0, x1, x2, x3, x4⟩ := t
  dsimp only at *
  clear e hm
  have bx := At.alloc_new w [.string x0, .int .i64 x1, .bool x2, .int .i64 x3, .int .i64 x4] 111
  have B0 : Below w.heap.size w (w.alloc (.cells #[.string x0, .int .i64 x1, .bool x2, .int .i64 x3, .int .i64 x4] 111 (0, 0))) := (Below.refl _ _).alloc (Nat.le_refl _) _
  have hx4 : ¬ x4 = 0 := by omega
  have HW : Hid (wrap64 (x3 + a % x4) = x3 + a % x4) := w64 (by omega)
  by_cases hneg : a.tmod x4 < 0
  · have ht : a.tmod x4 = a % x4 - x4 := by omega
    have HQ : Hid (wrap64 (a.tmod x4 + x4) = a % x4) := (w64 (by omega)).trans (by omega)
    clear ht hor h2 h3
    go_enter Tryz.func92, Tryz.ntmps92
    go_wp2_with fail
    go_ret
    refine ⟨?_, B0⟩
    show Ending.returned (Value.int IntKind.i64 (wrap64 (x3 + wrap64 (a.tmod x4 + x4)))) = _
    rw [HQ.out, HW.out]
  · have ht : a.tmod x4 = a % x4 := by omega
    rw [← ht] at HW ⊢
    clear ht hor h2 h3
    go_enter Tryz.func92, Tryz.ntmps92
    go_wp2_with fail
    go_ret
    refine ⟨?_, B0⟩
    show Ending.returned (Value.int IntKind.i64 (wrap64 (x3 + a.tmod x4))) = _
    rw [HW.out]
end Go.Proofs.YtejbgcloblpbfaaGreatDoor
namespace Go.Proofs.YtejbgcloblpbfaaGreatDoor
open Go.RowKit
open R (Nd)
open K (Nm Ex Do)
def VaDoes (N : Nat) (nodes : List Nd) (e : Ex) : Prop := ∀ (w : World) (lim b sb gM gC k : Nat) (M C : List Int), PAt w lim b nodes → SAt w lim sb gM gC M C → M.length = N → C.length = 2 → N ≤ 54 → lim ≤ w.heap.size → NE N nodes e k →
  Calls Tryz.prog 91 #[P b, P sb, .int .i64 (k : Int)] w fun x w' => x = .returned (.int .i64 (V.ev (M ++ C) e)) ∧ Below w.heap.size w w'
structure NC (w : World) (b k len g : Nat) (n : Nd) (la : Option Addr) (lc : Nat) (ta : Option Addr) (tc : Nat) (cap : Nat) : Prop where
  c7 : w.cell? ⟨b, 7, none⟩ = some (.slice (some ⟨g, 0, none⟩) len cap)
  d0 : w.cell? ⟨g, k * 10, none⟩ = some (.string n.word)
  d1 : w.cell? ⟨g, k * 10 + 1, none⟩ = some (.int .i64 n.n)
  d2 : w.cell? ⟨g, k * 10 + 2, none⟩ = some (.string n.t.name)
  d3 : w.cell? ⟨g, k * 10 + 3, none⟩ = some (.int .i64 n.t.kind)
  d4 : w.cell? ⟨g, k * 10 + 4, none⟩ = some (.bool n.t.sec)
  d5 : w.cell? ⟨g, k * 10 + 5, none⟩ = some (.int .i64 n.t.pos)
  d6 : w.cell? ⟨g, k * 10 + 6, none⟩ = some (.int .i64 n.t.size)
  d7 : w.cell? ⟨g, k * 10 + 7, none⟩ = some (.slice la n.L.length lc)
  d8 : w.cell? ⟨g, k * 10 + 8, none⟩ = some (.slice ta n.two.length tc)
  d9 : w.cell? ⟨g, k * 10 + 9, none⟩ = some (.bool n.sec)
theorem PAt.nc {w : World} {lim b : Nat} {nodes : List Nd} (h : PAt w lim b nodes) {k : Nat} {n : Nd} (hn : nodes[k]? = some n) :
    ∃ g la lc ta tc cap, NC w b k nodes.length g n la lc ta tc cap ∧ g < lim ∧ (∀ (j : Nat) u, n.L[j]? = some u → ∃ q, la = some ⟨q, 0, none⟩ ∧ q < lim ∧ w.cell? ⟨q, j, none⟩ = some (.int .i64 u)) ∧
      (∀ (j : Nat) u, n.two[j]? = some u → ∃ q, ta = some ⟨q, 0, none⟩ ∧ q < lim ∧ w.cell? ⟨q, j, none⟩ = some (.int .i64 u)) ∧ (n.L.length ≤ lc ∧ lc ≤ 9223372036854775807) ∧ (n.two.length ≤ tc ∧ tc ≤ 9223372036854775807) := by
  obtain ⟨g, cap, c7, hg, lv, tv, hc, ⟨la, lc, rfl, hlc, hl⟩, ⟨ta, tc, rfl, htc, ht⟩⟩ := h.node k n hn
  exact ⟨g, la, lc, ta, tc, cap, ⟨c7, hc 0 _ rfl, hc 1 _ rfl, hc 2 _ rfl, hc 3 _ rfl, hc 4 _ rfl, hc 5 _ rfl, hc 6 _ rfl, hc 7 _ rfl, hc 8 _ rfl, hc 9 _ rfl⟩, hg, hl, ht, hlc, htc⟩
set_option maxRecDepth 100000 in
set_option maxHeartbeats 2000000 in
theorem va_num (N : Nat) (nodes : List Nd) (v : Int) : VaDoes N nodes (.num v) := by
  intro w lim b sb gM gC k M C hP hS hM hC h54 hlim hn
  unfold NE at hn
  obtain ⟨n, hn, hw, hv⟩ := hn
  obtain ⟨g, la, lc, ta, tc, cap, nc, hg, _, _⟩ := hP.nc hn
  have hkl : k < nodes.length := (List.getElem?_eq_some_iff.1 hn).1
  have hkz : (k : Int) < (nodes.length : Int) := by omega
  have few := hP.few
  have hbl := hP.lt
  have HV : Hid (V.ev (M ++ C) (.num v) = v) := rfl
  rw [HV.out]
  obtain ⟨wd, n1, ⟨t0, t1, t2, t3, t4⟩, nL, n2, n5⟩ := n
  obtain ⟨c7, d0, d1, d2, d3, d4, d5, d6, d7, d8, d9⟩ := nc
  dsimp only at *
  subst hw hv
  generalize nL.length = ln at *
  generalize n2.length = tn at *
  generalize nodes.length = NL at *
  go_enter Tryz.func91, Tryz.ntmps91
  go_wp2_with fail
  go_ret
  exact ⟨rfl, (Below.refl _ _).alloc (Nat.le_refl _) _⟩
set_option maxRecDepth 100000 in
set_option maxHeartbeats 2000000 in
theorem va_use (N : Nat) (nodes : List Nd) (m : Nm) : VaDoes N nodes (.use m) := by
  intro w lim b sb gM gC k M C hP hS hM hC h54 hlim hn
  unfold NE at hn
  obtain ⟨n, hn, hw, h0, hv⟩ := hn
  obtain ⟨g, la, lc, ta, tc, cap, nc, hg, _, _⟩ := hP.nc hn
  have hkl : k < nodes.length := (List.getElem?_eq_some_iff.1 hn).1
  have hkz : (k : Int) < (nodes.length : Int) := by omega
  have few := hP.few
  have hbl := hP.lt
  obtain ⟨j, hj⟩ := Int.eq_ofNat_of_zero_le h0
  have HV : Hid (V.ev (M ++ C) (.use m) = (M ++ C).getD m.place.toNat 0) := rfl
  rw [HV.out]
  obtain ⟨wd, n1, ⟨t0, t1, t2, t3, t4⟩, nL, n2, n5⟩ := n
  obtain ⟨c7, d0, d1, d2, d3, d4, d5, d6, d7, d8, d9⟩ := nc
  obtain ⟨aM, cM, hs, haM⟩ := hS.cells
  dsimp only at *
  subst hw hj
  rcases hv with ⟨hk3, hpl, hlt⟩ | ⟨hk3, hpl, hlt⟩
  · subst hk3
    have B0 : Below w.heap.size w (w.alloc (.cells #[.string ⟨#[64]⟩, .int .i64 n1, .string t0, .int .i64 3, .bool t2, .int .i64 (j : Int), .int .i64 t4, .slice la nL.length lc, .slice ta n2.length tc, .bool n5] 145 (0, 0))) := (Below.refl _ _).alloc (Nat.le_refl _) _
    have S0 := hS.below B0
    have ss := hs.of_block (B0.block _ hs.lt)
    have s0 := ss.cell 0
    have s1 := ss.cell 1
    simp only [List.getElem?_cons_zero, List.getElem?_cons_succ] at s0 s1
    have sl := ss.lt
    have ew : (M ++ C).getD m.place.toNat 0 = C.getD j 0 := by
      rw [hpl, show ((N : Int) + (j : Int)).toNat = N + j by omega, List.getD_eq_getElem?_getD, List.getElem?_append_right (by omega), hM, Nat.add_sub_cancel_left, ← List.getD_eq_getElem?_getD]
    rw [ew]
    have cc := S0.count (k := j) (by omega)
    generalize C.getD j 0 = v at *
    have hz : (j : Int) < (C.length : Int) := by omega
    generalize C.length = CL at *
    generalize nL.length = ln at *
    generalize n2.length = tn at *
    generalize nodes.length = NL at *
    go_enter Tryz.func91, Tryz.ntmps91
    go_upto_region 7 with fail
    go_quiet (fail)
    go_wp2_with fail
    go_ret
    exact ⟨rfl, below_dN B0 _⟩
  · have B0 : Below w.heap.size w (w.alloc (.cells #[.string ⟨#[64]⟩, .int .i64 n1, .string t0, .int .i64 t1, .bool t2, .int .i64 (j : Int), .int .i64 t4, .slice la nL.length lc, .slice ta n2.length tc, .bool n5] 145 (0, 0))) := (Below.refl _ _).alloc (Nat.le_refl _) _
    have S0 := hS.below B0
    have ss := hs.of_block (B0.block _ hs.lt)
    have s0 := ss.cell 0
    have s1 := ss.cell 1
    simp only [List.getElem?_cons_zero, List.getElem?_cons_succ] at s0 s1
    have sl := ss.lt
    have ew : (M ++ C).getD m.place.toNat 0 = M.getD j 0 := by
      rw [hpl, Int.toNat_natCast, List.getD_eq_getElem?_getD, List.getElem?_append_left (by omega), ← List.getD_eq_getElem?_getD]
    rw [ew]
    have cc := S0.word (k := j) (by omega)
    rw [haM (by omega)] at s0
    generalize M.getD j 0 = v at *
    have hz : (j : Int) < (M.length : Int) := by omega
    generalize M.length = ML at *
    generalize nL.length = ln at *
    generalize n2.length = tn at *
    generalize nodes.length = NL at *
    go_enter Tryz.func91, Tryz.ntmps91
    go_upto_region 8 with fail
    go_quiet (fail)
    go_wp2_with fail
    go_ret
    exact ⟨rfl, below_dN B0 _⟩
end Go.Proofs.YtejbgcloblpbfaaGreatDoor
namespace Go.Proofs.YtejbgcloblpbfaaGreatDoor
open K (Nm Ex Do)
theorem gd_put (p : Int) (n : Nm) (i e : Ex) (hgi : K.good i = true) (hg : K.good e = true) : GdDoes (.put p n i e) := by
  cases hq : K.sec i with
  | true => exact gd_putT p n i e hgi hg hq
  | false => exact gd_putF p n i e hgi hg hq
end Go.Proofs.YtejbgcloblpbfaaGreatDoor
