import Derived.Test.YtjgiefnjmngdkaaGreatDoorN2
import Derived.Deep.LoopGhost
import Derived.Test.YtjgiefnjmngdkaaGreatDoorN1
import Derived.Test.YtjgiefnjmngdkaaGreatDoorM09
import Derived.ArgAppend
import Derived.Deep.OwnRows
import Derived.Test.YtjgiefnjmngdkaaGreatDoorW2
import Derived.Laws.AppendOwnNone
namespace Go.Proofs.YtjgiefnjmngdkaaGreatDoor
open Go.RowKit
open R (Nd)
open K (Nm Ex Do)

set_option maxRecDepth 100000 in
set_option maxHeartbeats 4000000 in
theorem st_put (N : Nat) (nodes : List Nd) (p : Int) (m : Nm) (i e : Ex) (hi : VaDoes N nodes i) (he : VaDoes N nodes e) : StDoes N nodes (.put p m i e) := by
  intro w lim b sb gM gC k W hP hS h54 hlim hn
  unfold ND at hn
  obtain ⟨n, x, y, hn, hw, hL, hpo, hsi, p0, p1, p6, pN, ni, ne⟩ := hn
  obtain ⟨g, la, lc, ta, tc, cap, nc, hg, hl, _⟩ := hP.nc hn
  obtain ⟨q, rfl, hq, hqc⟩ := hl 0 x (by rw [hL]; rfl)
  obtain ⟨q', e', _, hqc1⟩ := hl 1 y (by rw [hL]; rfl)
  cases e'
  have hkl : k < nodes.length := (List.getElem?_eq_some_iff.1 hn).1
  have hkz : (k : Int) < (nodes.length : Int) := by omega
  have few := hP.few
  have hbl := hP.lt
  have hmd := V.md_lt (V.ev W i) p1 p6
  obtain ⟨j, hj⟩ := Int.eq_ofNat_of_zero_le (show 0 ≤ m.place + V.md (V.ev W i) m.size by omega)
  have hjN : j < N := by omega
  have HV : Hid (V.rd (.put p m i e) W = W.set j (V.ev W e)) := by show _ = _; rw [V.rd, hj]; rfl
  rw [HV.out]
  clear HV
  obtain ⟨wd, n1, ⟨t0, t1, t2, t3, t4⟩, nL, n2, n5⟩ := n
  obtain ⟨c7, d0, d1, d2, d3, d4, d5, d6, d7, d8, d9⟩ := nc
  obtain ⟨m0, m1, m2, m3, m4⟩ := m
  dsimp only at *
  subst hw hL hpo hsi
  generalize n2.length = tn at *
  have B0 : Below w.heap.size w (w.alloc (.cells #[.string ⟨#[112, 117, 116]⟩, .int .i64 n1, .string t0, .int .i64 t1, .bool t2, .int .i64 t3, .int .i64 t4, .slice (some ⟨q, 0, none⟩) 2 lc, .slice ta tn tc, .bool n5] 145 (0, 0))) := (Below.refl _ _).alloc (Nat.le_refl _) _
  have bx := At.alloc_new w [.string ⟨#[112, 117, 116]⟩, .int .i64 n1, .string t0, .int .i64 t1, .bool t2, .int .i64 t3, .int .i64 t4, .slice (some ⟨q, 0, none⟩) 2 lc, .slice ta tn tc, .bool n5] 145
  have S0 := hS.below B0
  have hcall := va_all hi (hP.keep (B0.mono hlim)) S0 h54 (Nat.le_trans hlim B0.size) ni
  have hcall2 := fun (w' : World) (hb : Below w.heap.size w w') => va_all he (hP.keep (hb.mono hlim)) (hS.below hb) h54 (Nat.le_trans hlim hb.size) ne
  have qc := (B0.cell (p := ⟨q, 0, none⟩) (show q < w.heap.size by omega)).trans hqc
  have hql : q < w.heap.size := by omega
  have hWl := hS.len
  generalize V.ev W i = vi at *
  have hpl := fun (w : World) => place_c ⟨t0, t1, t2, t3, t4⟩ vi w p0 p1 p6 (show t3 ≤ 1000 by omega)
  dsimp only at hpl
  rw [hj] at hpl
  clear ni ne p0 p1 p6 pN hj hl hmd
  generalize V.ev W e = v at *
  generalize nodes.length = NL at *
  go_enter Tryz.func65, Tryz.ntmps65
  go_wp2_with fail
  refine hcall.mono ?_
  rintro r w1 ⟨rfl, hb1⟩
  have B1 := B0.trans (hb1.mono B0.size)
  have bx1 := bx.of_block (hb1.block _ bx.lt)
  have k0 := bx1.cell 0
  have k7 := bx1.cell 7
  simp only [List.getElem?_cons_zero, List.getElem?_cons_succ] at k0 k7
  have q1 := (B1.cell (p := ⟨q, 1, none⟩) hql).trans hqc1
  have hc2 := hcall2 _ B1
  go_wp2_with fail
  refine hc2.mono ?_
  rintro r w2 ⟨rfl, hb2⟩
  have B2 := B1.trans (hb2.mono B1.size)
  have bx2 := bx1.of_block (hb2.block _ bx1.lt)
  have S2 := hS.below B2
  have hl2 := bx2.lt
  obtain ⟨aM, cM, hs, haM⟩ := S2.at_.cells
  have hML : (W.take N).length = N := by rw [List.length_take]; omega
  have sa := haM (by omega)
  subst sa
  rw [hML] at hs
  have hsl := hs.lt
  have hz : (j : Int) < (N : Int) := by omega
  have lo := S2.at_.lo
  have nes := S2.at_.ne.1 (by omega)
  have BM : But3 sb gM gC w w2 := But3.of_below B2
  have nLM : w.heap.size ≠ gM := by
    have := hS.at_.lt
    omega
  go_upto_region 7 with fail
  generalize hLL : w.heap.size = L at *
  have KS : ∀ w' : World, Below w2.heap.size w2 w' → (w'.cell? ⟨L, 2, none⟩ = some (.string t0) ∧ w'.cell? ⟨L, 3, none⟩ = some (.int .i64 t1) ∧ w'.cell? ⟨L, 4, none⟩ = some (.bool t2) ∧ w'.cell? ⟨L, 5, none⟩ = some (.int .i64 t3) ∧ w'.cell? ⟨L, 6, none⟩ = some (.int .i64 t4) ∧ w'.cell? ⟨sb, 0, none⟩ = some (.slice (some ⟨gM, 0, none⟩) N cM)) := fun w' hb =>
    ⟨(hb.cell (p := ⟨L, 2, none⟩) hl2).trans (bx2.cell 2), (hb.cell (p := ⟨L, 3, none⟩) hl2).trans (bx2.cell 3), (hb.cell (p := ⟨L, 4, none⟩) hl2).trans (bx2.cell 4), (hb.cell (p := ⟨L, 5, none⟩) hl2).trans (bx2.cell 5), (hb.cell (p := ⟨L, 6, none⟩) hl2).trans (bx2.cell 6), (hb.cell (p := ⟨sb, 0, none⟩) hsl).trans (hs.cell 0)⟩
  have KT : ∀ w' : World, (w'.cell? ⟨L, 2, none⟩ = some (.string t0) ∧ w'.cell? ⟨L, 3, none⟩ = some (.int .i64 t1) ∧ w'.cell? ⟨L, 4, none⟩ = some (.bool t2) ∧ w'.cell? ⟨L, 5, none⟩ = some (.int .i64 t3) ∧ w'.cell? ⟨L, 6, none⟩ = some (.int .i64 t4) ∧ w'.cell? ⟨sb, 0, none⟩ = some (.slice (some ⟨gM, 0, none⟩) N cM)) → ∀ v, (fun (w' : World) => w'.cell? ⟨L, 2, none⟩ = some (.string t0) ∧ w'.cell? ⟨L, 3, none⟩ = some (.int .i64 t1) ∧ w'.cell? ⟨L, 4, none⟩ = some (.bool t2) ∧ w'.cell? ⟨L, 5, none⟩ = some (.int .i64 t3) ∧ w'.cell? ⟨L, 6, none⟩ = some (.int .i64 t4) ∧ w'.cell? ⟨sb, 0, none⟩ = some (.slice (some ⟨gM, 0, none⟩) N cM)) (w'.setCell ⟨gM, j, none⟩ v) := fun w' hs v => by
    obtain ⟨s1, s2, s3, s4, s5, s6⟩ := hs
    refine ⟨?_, ?_, ?_, ?_, ?_, ?_⟩
    all_goals rw [World.cell?_setCell_far]
    all_goals first | assumption | exact fun e => nLM e.symm | exact fun e => nes.2 e.symm
  have hwd := fun (w' : World) (hb : Below w2.heap.size w2 w') => (S2.below hb).at_.word (k := j) (by omega)
  have hfr := fun (w' : World) (hb : Below w2.heap.size w2 w') => show w'.frozen? ⟨gM, j, none⟩ = false by
    obtain ⟨rest, hmm⟩ := (S2.below hb).at_.mem (by omega)
    exact hmm.frozen j
  have Bd : Below w2.heap.size w2 w2.drew := ⟨rfl, rfl, rfl, Nat.le_refl _, fun _ _ => rfl⟩
  go_region_held (fun (w' : World) => w'.cell? ⟨L, 2, none⟩ = some (.string t0) ∧ w'.cell? ⟨L, 3, none⟩ = some (.int .i64 t1) ∧ w'.cell? ⟨L, 4, none⟩ = some (.bool t2) ∧ w'.cell? ⟨L, 5, none⟩ = some (.int .i64 t3) ∧ w'.cell? ⟨L, 6, none⟩ = some (.int .i64 t4) ∧ w'.cell? ⟨sb, 0, none⟩ = some (.slice (some ⟨gM, 0, none⟩) N cM)) (first | exact KT _ (KS _ B3) _ | exact KS _ B3 | exact KS _ Bd) (first | (go_at_call 92; refine (hpl _).mono ?_; rintro z w3 ⟨rfl, hb3⟩; have B3 := Bd.trans (hb3.mono Bd.size); have cw := hwd _ B3; have fw := hfr _ B3))
  all_goals
    go_wp2_with fail
    go_end0
    exact ⟨rfl, (S2.below B3).setM hjN v, (BM.trans (But3.of_below B3)).setM j _⟩

set_option maxRecDepth 100000 in
set_option maxHeartbeats 2000000 in
theorem st_if (N : Nat) (nodes : List Nd) (p : Int) (e : Ex) (l r : List Do) (he : VaDoes N nodes e) (hL1 : AllDoes N nodes l) (hR1 : AllDoes N nodes r) : StDoes N nodes (.ifs p e l r) := by
  intro w lim b sb gM gC k W hP hS h54 hlim hn
  unfold ND at hn
  obtain ⟨n, x, l1, l2, hn, hw, hL, hT, ne, nl, nr⟩ := hn
  obtain ⟨g, la, lc, ta, tc, cap, nc, hg, hl, ht, hcl, hct⟩ := hP.nc hn
  obtain ⟨q, rfl, hq, hqc⟩ := hl 0 x (by rw [hL]; rfl)
  have hkl : k < nodes.length := (List.getElem?_eq_some_iff.1 hn).1
  have hkz : (k : Int) < (nodes.length : Int) := by omega
  have few := hP.few
  have hbl := hP.lt
  have HV : Hid (V.rd (.ifs p e l r) W = if V.ev W e = 0 then V.rds r W else V.rds l W) := by show _ = _; rw [V.rd]
  rw [HV.out]
  clear HV
  obtain ⟨wd, n1, ⟨t0, t1, t2, t3, t4⟩, nL, n2, n5⟩ := n
  obtain ⟨c7, d0, d1, d2, d3, d4, d5, d6, d7, d8, d9⟩ := nc
  dsimp only at *
  subst hw hL hT
  have hl1 : ∀ (j : Nat) u, l1[j]? = some u → w.cell? ⟨q, 1 + j, none⟩ = some (.int .i64 (u : Int)) := fun j u hu => by
    obtain ⟨q', e', _, h'⟩ := hl (j + 1) (u : Int) (by rw [List.getElem?_cons_succ, List.getElem?_map, hu]; rfl)
    cases e'
    rw [Nat.add_comm]
    exact h'
  have hl2 : ∀ (j : Nat) u, l2[j]? = some u → ∃ q, ta = some ⟨q, 0, none⟩ ∧ q < lim ∧ w.cell? ⟨q, 0 + j, none⟩ = some (.int .i64 (u : Int)) := fun j u hu => by
    obtain ⟨q', e', h1, h2⟩ := ht j (u : Int) (by rw [List.getElem?_map, hu]; rfl)
    exact ⟨q', e', h1, by rw [Nat.zero_add]; exact h2⟩
  simp only [List.length_cons, List.length_map] at d7 d8 hcl hct
  have hca := fun (w' : World) (hb : Below w.heap.size w w') => hL1 w' lim b sb gM gC W (some ⟨q, 1, none⟩) 1 (lc - 1) l1 (hP.keep (hb.mono hlim)) (hS.below hb) h54 (Nat.le_trans hlim hb.size) nl (fun j u hu => ⟨q, rfl, hq, (hb.cell (p := ⟨q, 1 + j, none⟩) (show q < w.heap.size by omega)).trans (hl1 j u hu)⟩) (by omega)
  have hca0 := fun (w' : World) (hb : Below w.heap.size w w') (h0 : l1.length = 0) => hL1 w' lim b sb gM gC W (some ⟨q, 0, none⟩) 0 0 l1 (hP.keep (hb.mono hlim)) (hS.below hb) h54 (Nat.le_trans hlim hb.size) nl (fun j u hu => by have := (List.getElem?_eq_some_iff.1 hu).1; omega) (by omega)
  have hcb := fun (w' : World) (hb : Below w.heap.size w w') => hR1 w' lim b sb gM gC W ta 0 tc l2 (hP.keep (hb.mono hlim)) (hS.below hb) h54 (Nat.le_trans hlim hb.size) nr (fun j u hu => by
    obtain ⟨q', e1, e2, e3⟩ := hl2 j u hu
    exact ⟨q', e1, e2, (hb.cell (p := ⟨q', 0 + j, none⟩) (show q' < w.heap.size by omega)).trans e3⟩) (by omega)
  generalize l1.length = ll at *
  generalize l2.length = tn at *
  have B0 : Below w.heap.size w (w.alloc (.cells #[.string ⟨#[105, 102]⟩, .int .i64 n1, .string t0, .int .i64 t1, .bool t2, .int .i64 t3, .int .i64 t4, .slice (some ⟨q, 0, none⟩) (ll + 1) lc, .slice ta tn tc, .bool n5] 145 (0, 0))) := (Below.refl _ _).alloc (Nat.le_refl _) _
  have bx := At.alloc_new w [.string ⟨#[105, 102]⟩, .int .i64 n1, .string t0, .int .i64 t1, .bool t2, .int .i64 t3, .int .i64 t4, .slice (some ⟨q, 0, none⟩) (ll + 1) lc, .slice ta tn tc, .bool n5] 145
  have hcall := va_all he (hP.keep (B0.mono hlim)) (hS.below B0) h54 (Nat.le_trans hlim B0.size) ne
  have qc := (B0.cell (p := ⟨q, 0, none⟩) (show q < w.heap.size by omega)).trans hqc
  have hql : q < w.heap.size := by omega
  have hz0 : (0 : Int) < (ll : Int) + 1 := by omega
  have hz1 : (1 : Int) ≤ (ll : Int) + 1 := by omega
  clear ne nl nr hl ht hl1 hl2 hL1 hR1
  generalize V.ev W e = v at *
  generalize V.rds r W = WR at *
  generalize V.rds l W = WL at *
  generalize nodes.length = NL at *
  by_cases hv : v = 0
  · subst hv
    rw [if_pos rfl]
    go_enter Tryz.func65, Tryz.ntmps65
    go_wp2_with fail
    refine hcall.mono ?_
    rintro y w1 ⟨rfl, hb1⟩
    have B1 := B0.trans (hb1.mono B0.size)
    have bx1 := bx.of_block (hb1.block _ bx.lt)
    have k0 := bx1.cell 0
    have k8 := bx1.cell 8
    simp only [List.getElem?_cons_zero, List.getElem?_cons_succ] at k0 k8
    have hc := hcb _ B1
    go_wp2_with fail
    refine hc.mono ?_
    rintro y w2 ⟨rfl, h2, hb2⟩
    go_wp2_with fail
    go_end0
    exact ⟨rfl, h2, (But3.of_below B1).trans hb2⟩
  · rw [if_neg hv]
    have hv' : (v != 0) = true := by simp [hv]
    by_cases hlc : lc - 1 = 0
    · have ell : ll = 0 := by omega
      subst ell
      have elc : lc = 1 := by omega
      subst elc
      go_enter Tryz.func65, Tryz.ntmps65
      go_wp2_with fail
      refine hcall.mono ?_
      rintro y w1 ⟨rfl, hb1⟩
      have B1 := B0.trans (hb1.mono B0.size)
      have bx1 := bx.of_block (hb1.block _ bx.lt)
      have k0 := bx1.cell 0
      have k7 := bx1.cell 7
      simp only [List.getElem?_cons_zero, List.getElem?_cons_succ] at k0 k7
      have hc := hca0 _ B1 (by first | rfl | trivial)
      go_wp2_with fail
      refine hc.mono ?_
      rintro y w2 ⟨rfl, h2, hb2⟩
      go_wp2_with fail
      go_end0
      exact ⟨rfl, h2, (But3.of_below B1).trans hb2⟩
    · go_enter Tryz.func65, Tryz.ntmps65
      go_wp2_with fail
      refine hcall.mono ?_
      rintro y w1 ⟨rfl, hb1⟩
      have B1 := B0.trans (hb1.mono B0.size)
      have bx1 := bx.of_block (hb1.block _ bx.lt)
      have k0 := bx1.cell 0
      have k7 := bx1.cell 7
      simp only [List.getElem?_cons_zero, List.getElem?_cons_succ] at k0 k7
      have hc := hca _ B1
      go_wp2_with fail
      refine hc.mono ?_
      rintro y w2 ⟨rfl, h2, hb2⟩
      go_wp2_with fail
      go_end0
      exact ⟨rfl, h2, (But3.of_below B1).trans hb2⟩
end Go.Proofs.YtjgiefnjmngdkaaGreatDoor
namespace Go.Proofs.YtjgiefnjmngdkaaGreatDoor
open Go.RowKit
open R (Nd)
open K (Nm Ex Do)

theorem V.rounds_step' (f : List Int → List Int) (k i m : Nat) (W : List Int) (h : i < m) : V.rounds f k i (m - i) W = V.rounds f k (i + 1) (m - (i + 1)) (f (W.set k (i : Int))) := by
  rw [show m - i = (m - (i + 1)) + 1 by omega, V.rounds]

set_option maxRecDepth 100000 in
set_option maxHeartbeats 4000000 in
theorem st_for (N : Nat) (nodes : List Nd) (p : Int) (m : Nm) (e : Ex) (l : List Do) (he : VaDoes N nodes e) (hL1 : AllDoes N nodes l) : StDoes N nodes (.fors p m e l) := by
  intro w lim b sb gM gC k W hP hS h54 hlim hn
  unfold ND at hn
  obtain ⟨n, x, l1, hn, hw, hL, p0, p2, hpl, ne, nl⟩ := hn
  obtain ⟨g, la, lc, ta, tc, cap, nc, hg, hl, _, hcl, _⟩ := hP.nc hn
  obtain ⟨q, rfl, hq, hqc⟩ := hl 0 x (by rw [hL]; rfl)
  have hkl : k < nodes.length := (List.getElem?_eq_some_iff.1 hn).1
  have hkz : (k : Int) < (nodes.length : Int) := by omega
  have few := hP.few
  have hbl := hP.lt
  obtain ⟨pj, hpj⟩ := Int.eq_ofNat_of_zero_le p0
  have hpj2 : pj < 2 := by omega
  have epl : m.place.toNat = N + pj := by omega
  have HV : Hid (V.rd (.fors p m e l) W = V.rounds (fun W => V.rds l W) (N + pj) 0 (V.times (V.ev W e)) W) := by show _ = _; rw [V.rd, epl]
  rw [HV.out]
  clear HV
  obtain ⟨F, hF⟩ : ∃ F, F = (fun W => V.rds l W) := ⟨_, rfl⟩
  rw [← hF]
  have HF : Hid (∀ W, F W = V.rds l W) := fun W => by rw [hF]
  clear hF
  obtain ⟨wd, n1, ⟨t0, t1, t2, t3, t4⟩, nL, n2, n5⟩ := n
  obtain ⟨c7, d0, d1, d2, d3, d4, d5, d6, d7, d8, d9⟩ := nc
  dsimp only at *
  subst hw hL hpj
  have hl1 : ∀ (j : Nat) u, l1[j]? = some u → w.cell? ⟨q, 1 + j, none⟩ = some (.int .i64 (u : Int)) := fun j u hu => by
    obtain ⟨q', e', _, h'⟩ := hl (j + 1) (u : Int) (by rw [List.getElem?_cons_succ, List.getElem?_map, hu]; rfl)
    cases e'
    rw [Nat.add_comm]
    exact h'
  simp only [List.length_cons, List.length_map] at d7 hcl
  have lo := hS.at_.lo
  have hca := fun (w' : World) (W' : List Int) (hb : But3 sb gM gC w w') (h2 : Left2 w' lim sb gM gC N W') => hL1 w' lim b sb gM gC W' (some ⟨q, 1, none⟩) 1 (lc - 1) l1 (hP.keep (hb.low lo.2.1 lo.2.2 hlim)) h2 h54 (Nat.le_trans hlim hb.size) nl (fun j u hu => ⟨q, rfl, hq, ((hb.low lo.2.1 lo.2.2 hlim).cell (p := ⟨q, 1 + j, none⟩) hq).trans (hl1 j u hu)⟩) (by omega)
  have hca0 := fun (w' : World) (W' : List Int) (hb : But3 sb gM gC w w') (h2 : Left2 w' lim sb gM gC N W') (h0 : l1.length = 0) => hL1 w' lim b sb gM gC W' (some ⟨q, 0, none⟩) 0 0 l1 (hP.keep (hb.low lo.2.1 lo.2.2 hlim)) h2 h54 (Nat.le_trans hlim hb.size) nl (fun j u hu => by have := (List.getElem?_eq_some_iff.1 hu).1; omega) (by omega)
  generalize l1.length = ll at *
  generalize n2.length = tn at *
  have B0 : Below w.heap.size w (w.alloc (.cells #[.string ⟨#[102, 111, 114]⟩, .int .i64 n1, .string t0, .int .i64 t1, .bool t2, .int .i64 (pj : Int), .int .i64 t4, .slice (some ⟨q, 0, none⟩) (ll + 1) lc, .slice ta tn tc, .bool n5] 145 (0, 0))) := (Below.refl _ _).alloc (Nat.le_refl _) _
  have bx := At.alloc_new w [.string ⟨#[102, 111, 114]⟩, .int .i64 n1, .string t0, .int .i64 t1, .bool t2, .int .i64 (pj : Int), .int .i64 t4, .slice (some ⟨q, 0, none⟩) (ll + 1) lc, .slice ta tn tc, .bool n5] 145
  have hcall := va_all he (hP.keep (B0.mono hlim)) (hS.below B0) h54 (Nat.le_trans hlim B0.size) ne
  have qc := (B0.cell (p := ⟨q, 0, none⟩) (show q < w.heap.size by omega)).trans hqc
  have hql : q < w.heap.size := by omega
  have hz0 : (0 : Int) < (ll : Int) + 1 := by omega
  have hz1 : (1 : Int) ≤ (ll : Int) + 1 := by omega
  have hWl := hS.len
  clear ne nl hl hl1 hL1 p0 p2 hpl epl
  generalize V.ev W e = v at *
  obtain ⟨T, hT⟩ : ∃ T, V.times v = T := ⟨_, rfl⟩
  have HR : Hid (∀ j : Nat, ((j : Int) < v ∧ (j : Int) < 5) ↔ j < T) := by
    subst hT
    intro j
    unfold V.times
    repeat' split
    all_goals omega
  have hT5 : T ≤ 5 := by
    subst hT
    unfold V.times
    repeat' split
    all_goals omega
  rw [hT]
  clear hT
  generalize nodes.length = NL at *
  have nLM : w.heap.size ≠ gM := by have := hS.at_.lt; omega
  have nLC : w.heap.size ≠ gC := by have := hS.at_.cnt.lt; omega
  go_enter Tryz.func65, Tryz.ntmps65
  go_wp2_with fail
  refine hcall.mono ?_
  rintro y w1 ⟨rfl, hb1⟩
  have B1 := B0.trans (hb1.mono B0.size)
  have bx1 := bx.of_block (hb1.block _ bx.lt)
  have k0 := bx1.cell 0
  simp only [List.getElem?_cons_zero] at k0
  have BW : But3 sb gM gC w w1 := But3.of_below B1
  go_wp2_with fail
  go_loopg [9] T (fun gk i wr => ∃ (j : Nat) (W' : List Int), j + gk = T ∧ i = .int .i64 (j : Int) ∧ Left2 wr lim sb gM gC N W' ∧ But3 sb gM gC w1 wr ∧ Hid (V.rounds F (N + pj) 0 T W = V.rounds F (N + pj) j (T - j) W'))
  case atStart => exact ⟨0, W, by omega, rfl, hS.below B1, But3.refl _ _ _ _, rfl⟩
  case round =>
    obtain ⟨j, W', hj, rfl, rr, Bk, HK⟩ := hrel
    cases gk with
    | zero =>
      have hno : ¬ ((j : Int) < v ∧ (j : Int) < 5) := fun h => by have := (HR.out j).1 h; omega
      have HX : Hid (V.rounds F (N + pj) 0 T W = W') := by show _ = _; rw [HK.out, show T - j = 0 by omega]; rfl
      by_cases hjv : (j : Int) < v
      · have h5 : ¬ ((j : Int) < 5) := fun h => hno ⟨hjv, h⟩
        clear hno
        go_wp2_with fail
        go_end0
        rw [HX.out]
        exact ⟨rfl, rr, BW.trans Bk⟩
      · clear hno
        go_wp2_with fail
        go_end0
        rw [HX.out]
        exact ⟨rfl, rr, BW.trans Bk⟩
    | succ g1 =>
      obtain ⟨hjv, h5⟩ := (HR.out j).2 (by omega)
      have bx2 := bx1.of_block (Bk.block _ bx1.lt nLM nLC)
      have q5 := bx2.cell 5
      have q7 := bx2.cell 7
      simp only [List.getElem?_cons_zero, List.getElem?_cons_succ] at q5 q7
      obtain ⟨aM, cM, hs, haM⟩ := rr.at_.cells
      have hCl : (W'.drop N).length = 2 := by rw [List.length_drop, rr.len]; omega
      have s1 := hs.cell 1
      simp only [List.getElem?_cons_zero, List.getElem?_cons_succ] at s1
      have hsl := hs.lt
      have hz : (pj : Int) < ((W'.drop N).length : Int) := by omega
      have cc := rr.at_.count (k := pj) (by omega)
      have fc := rr.at_.cnt.frozen pj
      have rs := (rr.still (w' := wr.drew) rfl).setC pj (j : Int)
      have Bs := Bk.drew.setC pj (.int .i64 (j : Int))
      have bx3 : At (wr.drew.setCell ⟨gC, pj, none⟩ (.int .i64 (j : Int))) w.heap.size 145 [.string ⟨#[102, 111, 114]⟩, .int .i64 n1, .string t0, .int .i64 t1, .bool t2, .int .i64 (pj : Int), .int .i64 t4, .slice (some ⟨q, 0, none⟩) (ll + 1) lc, .slice ta tn tc, .bool n5] := (bx2.of_block rfl).set_other (a := ⟨gC, pj, none⟩) nLC _
      have q7' := bx3.cell 7
      simp only [List.getElem?_cons_zero, List.getElem?_cons_succ] at q7'
      have hc := hca _ _ (BW.trans Bs) rs
      have hc0 := hca0 _ _ (BW.trans Bs) rs
      generalize (W'.drop N).length = CL at *
      by_cases hlc : lc - 1 = 0
      · have ell : ll = 0 := by omega
        subst ell
        have elc : lc = 1 := by omega
        subst elc
        have hc0' := hc0 (by first | rfl | trivial)
        go_upto_region 16 with fail
        go_region
        all_goals
          go_wp2_with fail
          refine hc0'.mono ?_
          rintro y w4 ⟨rfl, r4, hb4⟩
          rw [← HF.out] at r4
          go_wp2_with fail
          go_roundg g1
          case measure => omega
          case rel =>
            refine ⟨j + 1, F (W'.set (N + pj) (j : Int)), by omega, by go_num, r4, Bs.trans hb4, HK.out.trans (V.rounds_step' F (N + pj) j T W' (by omega))⟩
      · clear hc0
        go_upto_region 16 with fail
        go_region
        all_goals
          go_wp2_with fail
          refine hc.mono ?_
          rintro y w4 ⟨rfl, r4, hb4⟩
          rw [← HF.out] at r4
          go_wp2_with fail
          go_roundg g1
          case measure => omega
          case rel =>
            refine ⟨j + 1, F (W'.set (N + pj) (j : Int)), by omega, by go_num, r4, Bs.trans hb4, HK.out.trans (V.rounds_step' F (N + pj) j T W' (by omega))⟩
end Go.Proofs.YtjgiefnjmngdkaaGreatDoor
namespace Go.Proofs.YtjgiefnjmngdkaaGreatDoor
open R (Nd)
open K (Nm Ex Do)
/-- The reference's value of an Expr. -/
theorem va_c (N : Nat) (nodes : List Nd) : ∀ e : Ex, VaDoes N nodes e
  | .num v => va_num N nodes v
  | .use n => va_use N nodes n
  | .get p n e => va_get N nodes p n e (va_c N nodes e)
  | .op p o l r => va_op N nodes p o l r (va_c N nodes l) (va_c N nodes r)
  | .cho p q y n => va_cho N nodes p q y n (va_c N nodes q) (va_c N nodes y) (va_c N nodes n)
  | .none => fun _ _ _ _ _ _ _ _ _ _ _ _ _ _ _ h => by unfold NE at h; exact h.elim
mutual
/-- The reference does a Do. -/
theorem st_c (N : Nat) (nodes : List Nd) : ∀ d : Do, StDoes N nodes d
  | .set p n e => st_set N nodes p n e (va_c N nodes e)
  | .put p n i e => st_put N nodes p n i e (va_c N nodes i) (va_c N nodes e)
  | .ifs p q y n => st_if N nodes p q y n (va_c N nodes q) (all_of N nodes y (stl_c N nodes y)) (all_of N nodes n (stl_c N nodes n))
  | .fors p n r l => st_for N nodes p n r l (va_c N nodes r) (all_of N nodes l (stl_c N nodes l))
  | .none => fun _ _ _ _ _ _ _ _ _ _ _ _ h => by unfold ND at h; exact h.elim
theorem stl_c (N : Nat) (nodes : List Nd) : ∀ l : List Do, ∀ d ∈ l, StDoes N nodes d
  | [], _, h => by cases h
  | d :: l, d', h => by
    rcases List.mem_cons.1 h with h | h
    · rw [h]; exact st_c N nodes d
    · exact stl_c N nodes l d' h
end
theorem all_c (N : Nat) (nodes : List Nd) (l : List Do) : AllDoes N nodes l := all_of N nodes l (stl_c N nodes l)
end Go.Proofs.YtjgiefnjmngdkaaGreatDoor
namespace Go.Proofs.YtjgiefnjmngdkaaGreatDoor
open Go.RowKit
open R (Nd)
open K (Nm Ex Do)

theorem size_alloc' (w : World) (o : Obj) : (w.alloc o).heap.size = w.heap.size + 1 := by simp
theorem own_at {w : World} {base n : Nat} {v : Value} {l : List Int} (h : w.ownsRow base 3 1 v n (ints l)) (hn : 0 < n) : ∃ g cap rest, v = .slice (some ⟨g, 0, none⟩) n cap ∧ base ≤ g ∧ At w g 3 ((l.map fun n => .int .i64 n) ++ rest) := by
  obtain ⟨hx, ⟨_, h0⟩ | ⟨g, cap, cur, hv, hb, hg, hc, _, hs, ht⟩⟩ := h
  · omega
  · refine ⟨g, cap, cur.toList.drop n, hv, hb, ?_⟩
    unfold At
    have e : (l.map fun n => Value.int .i64 n) ++ cur.toList.drop n = cur.toList := by
      have : (l.map fun n => Value.int .i64 n) = cur.toList.take n := by
        have h2 := ht
        rw [Nat.mul_one] at h2
        exact h2.symm
      rw [this, List.take_append_drop]
    rw [hg, e]

set_option maxRecDepth 100000 in
set_option maxHeartbeats 2000000 in
theorem refrun_pos (N : Nat) (hN : N ≤ 54) (h0 : 0 < N) (nodes : List Nd) (l : List Do) (ms : List Int) (hms : ms.length = N) (w : World) (b : Nat) (a : Option Addr) (c : Nat) (ks : List Nat) (gm o cM : Nat) (hP : PAt w w.heap.size b nodes) (hn : NDs N nodes l ks)
    (hd : w.cell? ⟨b, 8, none⟩ = some (.slice a ks.length c)) (hks : ∀ (j : Nat) u, ks[j]? = some u → ∃ q, a = some ⟨q, 0, none⟩ ∧ q < w.heap.size ∧ w.cell? ⟨q, 0 + j, none⟩ = some (.int .i64 (u : Int))) (h100 : ks.length ≤ 9223372036854775807)
    (hgm : gm < w.heap.size) (hM : ∀ (j : Nat) u, ms[j]? = some u → w.cell? ⟨gm, o + j, none⟩ = some (.int .i64 u)) :
    Calls Tryz.prog 23 #[P b, .slice (some ⟨gm, o, none⟩) N cM] w fun x w' => (∃ g cR rest, x = .returned (.slice (some ⟨g, 0, none⟩) N cR) ∧ w.heap.size ≤ g ∧ At w' g 3 ((((V.rds l (ms ++ [0, 0])).take N).map fun n => .int .i64 n) ++ rest)) ∧ Below w.heap.size w w' := by
  obtain ⟨j0, ji, jz0, jz1, jz2⟩ := info_parts info_int
  have hmk := run_make_row' (P := Tryz.prog) 32 3 (.int .i64 0) 8 Tryz.underlying32 info_int rfl .i64 .i64 2 (by omega) (by omega)
  have e2 : ((2 : Nat) : Int) = 2 := rfl
  rw [e2] at hmk
  have aC := made_at w 2 3
  have bS := At.alloc_new (w.alloc (.cells (madeCells #[.int .i64 0] 2) 3 (0, 0))) [.slice none 0 0, .slice (some ⟨w.heap.size, 0, none⟩) 2 2] 100
  have B0 : Below w.heap.size w ((w.alloc (.cells (madeCells #[.int .i64 0] 2) 3 (0, 0))).alloc (.cells #[.slice none 0 0, .slice (some ⟨w.heap.size, 0, none⟩) 2 2] 100 (0, 0))) := ((Below.refl _ _).alloc (Nat.le_refl _) _).alloc (by simp) _
  have aC1 := aC.alloc (.cells #[.slice none 0 0, .slice (some ⟨w.heap.size, 0, none⟩) 2 2] 100 (0, 0))
  have HC := hide aC1
  rw [size_alloc'] at bS
  have HS := hide bS
  have hlen : (ints ms).length = N * 1 := by unfold ints; rw [List.length_map, Nat.mul_one]; exact hms
  have hone : ∀ u ∈ ints ms, u.oneCell' = true := by
    intro u hu
    unfold ints at hu
    obtain ⟨x, _, rfl⟩ := List.mem_map.1 hu
    rfl
  have hsrc : ∀ W : World, Below w.heap.size w W → ∀ (j : Nat) u, (ints ms)[j]? = some u → W.cell? ((⟨gm, o, none⟩ : Addr).add j) = some u := by
    intro W hb j u hu
    unfold ints at hu
    rw [List.getElem?_map] at hu
    cases hx : ms[j]? with
    | none => rw [hx] at hu; simp at hu
    | some x =>
      rw [hx] at hu
      have ea : (⟨gm, o, none⟩ : Addr).add j = ⟨gm, o + j, none⟩ := by unfold Addr.add; split <;> simp_all
      rw [ea, hb.cell (p := ⟨gm, o + j, none⟩) hgm, hM j x hx]
      simpa using hu
  have nb1 : w.heap.size + 1 ≠ b := by have := hP.lt; omega
  have nb2 : b ≠ w.heap.size + 1 := by omega
  go_enter Tryz.func23, Tryz.ntmps23
  go_wp2_with (at_builtin; refine wpList_append_grows _ rfl (.tmp 13) (.tmp 14) 32 rfl 3 j0 (.int .i64 0) 1 8 Tryz.underlying32 ji jz0 jz1 jz2 rfl (by decide) none 0 0 [] rfl (fun _ => ⟨rfl, rfl⟩) rfl (by intro _ h; cases h) ⟨gm, o, none⟩ N cM (ints ms) rfl hlen (by exact hsrc _ B0) hone (by omega) (by unfold maxLen; omega) (by omega) ?_; intro v1 w2 own1 gr1; have zz := gr1.size; simp only [size_alloc'] at zz own1; obtain ⟨gM, cR, rest, hv1, hgM, aM⟩ := own_at (by simpa using own1) h0; subst hv1; have bS2 := HS.out.of_block (gr1.block _ HS.out.lt (by simp)); have s0 := bS2.cell 0; have s1 := bS2.cell 1; simp only [List.getElem?_cons_zero, List.getElem?_cons_succ] at s0 s1; have f0 := bS2.frozen 0; have sl := bS2.lt; have B2 : Below w.heap.size w w2 := B0.grown gr1 (by simp only [size_alloc']; omega) (fun k hk => by simp at hk); have d8 := (B2.cell (p := ⟨b, 8, none⟩) hP.lt).trans hd)
  have aC2 := HC.out.of_block (gr1.block _ HC.out.lt (by simp))
  have B3 := B2.setCell (p := ⟨w.heap.size + 1, 0, none⟩) (show w.heap.size ≤ w.heap.size + 1 by omega) (.slice (some ⟨gM, 0, none⟩) N cR)
  have A3 : Left2 (w2.setCell ⟨w.heap.size + 1, 0, none⟩ (.slice (some ⟨gM, 0, none⟩) N cR)) w.heap.size (w.heap.size + 1) gM w.heap.size N (ms ++ [0, 0]) := by
    refine ⟨?_, by rw [List.length_append, hms]; rfl⟩
    rw [List.take_left' hms, List.drop_left' hms]
    refine ⟨⟨some ⟨gM, 0, none⟩, cR, ?_, fun _ => rfl⟩, fun _ => ⟨rest, ?_⟩, ?_, ⟨by omega, by omega, Nat.le_refl _⟩, ⟨fun _ => ⟨by omega, by omega⟩, by omega⟩, ?_⟩
    · rw [hms]; exact bS2.set 0 _
    · exact aM.set_other (a := ⟨w.heap.size + 1, 0, none⟩) (show gM ≠ w.heap.size + 1 by omega) _
    · exact aC2.set_other (a := ⟨w.heap.size + 1, 0, none⟩) (show w.heap.size ≠ w.heap.size + 1 by omega) _
    · have := aM.lt
      simpa [World.setCell] using this
  have hall := all_c N nodes l _ w.heap.size b (w.heap.size + 1) gM w.heap.size (ms ++ [0, 0]) a 0 c ks (hP.keep B3) A3 hN B3.size hn (fun j u hu => by
    obtain ⟨q, e1, e2, e3⟩ := hks j u hu
    exact ⟨q, e1, e2, (B3.cell (p := ⟨q, 0 + j, none⟩) e2).trans e3⟩) h100
  have hW1 : (V.rds l (ms ++ [0, 0])).length = N + 2 := by rw [V.rds_len, List.length_append, hms]; rfl
  generalize hWW : V.rds l (ms ++ [0, 0]) = W1 at *
  refine hall.mono ?_
  rintro x w5 ⟨rfl, h5, hb5⟩
  obtain ⟨aM', cM', hs5, ha5⟩ := h5.at_.cells
  have hML : (W1.take N).length = N := by rw [List.length_take]; omega
  have sa := ha5 (by omega)
  subst sa
  rw [hML] at hs5
  have q0 := hs5.cell 0
  simp only [List.getElem?_cons_zero] at q0
  have ql := hs5.lt
  obtain ⟨rest5, m5⟩ := h5.at_.mem (by omega)
  go_wp2_with fail
  go_ret
  refine ⟨⟨gM, cM', rest5, rfl, by omega, ?_⟩, B3.trans (hb5.low (by omega) (Nat.le_refl _) B3.size)⟩
  first | exact m5 | (rw [hWW]; exact m5) | (rw [← List.map_take]; exact m5)
end Go.Proofs.YtjgiefnjmngdkaaGreatDoor
namespace Go.Proofs.YtjgiefnjmngdkaaGreatDoor
open Go.RowKit
open R (Nd)
open K (Nm Ex Do)

theorem run_append_zero (W : World) (ad : Addr) (c : Nat) :
    (Builtin.append_ #[32, 32] 32 #[.slice none 0 0, .slice (some ad) 0 c]).run Tryz.prog W = .ok (.slice none 0 0) W := by
  simp [Builtin.append_, go_sem]

set_option maxRecDepth 100000 in
set_option maxHeartbeats 2000000 in
theorem refrun_zero (nodes : List Nd) (l : List Do) (w : World) (b : Nat) (a : Option Addr) (c : Nat) (ks : List Nat) (aM : Option Addr) (cM : Nat) (hcM : aM = none → cM = 0) (hP : PAt w w.heap.size b nodes) (hn : NDs 0 nodes l ks)
    (hd : w.cell? ⟨b, 8, none⟩ = some (.slice a ks.length c)) (hks : ∀ (j : Nat) u, ks[j]? = some u → ∃ q, a = some ⟨q, 0, none⟩ ∧ q < w.heap.size ∧ w.cell? ⟨q, 0 + j, none⟩ = some (.int .i64 (u : Int))) (h100 : ks.length ≤ 9223372036854775807) :
    Calls Tryz.prog 23 #[P b, .slice aM 0 cM] w fun x w' => (∃ aR cR, x = .returned (.slice aR 0 cR)) ∧ Below w.heap.size w w' := by
  obtain ⟨j0, ji, jz0, jz1, jz2⟩ := info_parts info_int
  have hmk := run_make_row' (P := Tryz.prog) 32 3 (.int .i64 0) 8 Tryz.underlying32 info_int rfl .i64 .i64 2 (by omega) (by omega)
  have e2 : ((2 : Nat) : Int) = 2 := rfl
  rw [e2] at hmk
  have aC := made_at w 2 3
  have bS := At.alloc_new (w.alloc (.cells (madeCells #[.int .i64 0] 2) 3 (0, 0))) [.slice none 0 0, .slice (some ⟨w.heap.size, 0, none⟩) 2 2] 100
  have B0 : Below w.heap.size w ((w.alloc (.cells (madeCells #[.int .i64 0] 2) 3 (0, 0))).alloc (.cells #[.slice none 0 0, .slice (some ⟨w.heap.size, 0, none⟩) 2 2] 100 (0, 0))) := ((Below.refl _ _).alloc (Nat.le_refl _) _).alloc (by simp) _
  have aC1 := aC.alloc (.cells #[.slice none 0 0, .slice (some ⟨w.heap.size, 0, none⟩) 2 2] 100 (0, 0))
  rw [size_alloc'] at bS
  have nb1 : w.heap.size + 1 ≠ b := by have := hP.lt; omega
  have nb2 : b ≠ w.heap.size + 1 := by omega
  have d8 := (B0.cell (p := ⟨b, 8, none⟩) hP.lt).trans hd
  have s0 := bS.cell 0
  have s1 := bS.cell 1
  simp only [List.getElem?_cons_zero, List.getElem?_cons_succ] at s0 s1
  have f0 := bS.frozen 0
  have B3 := B0
  have A3 : Left2 ((w.alloc (.cells (madeCells #[.int .i64 0] 2) 3 (0, 0))).alloc (.cells #[.slice none 0 0, .slice (some ⟨w.heap.size, 0, none⟩) 2 2] 100 (0, 0))) w.heap.size (w.heap.size + 1) w.heap.size w.heap.size 0 [0, 0] := by
    refine ⟨⟨⟨none, 0, bS, fun h => by simp at h⟩, fun h => by simp at h, aC1, ⟨by omega, by omega, by omega⟩, ⟨fun h => by simp at h, by omega⟩, ?_⟩, rfl⟩
    exact aC1.lt
  have hall := all_c 0 nodes l _ w.heap.size b (w.heap.size + 1) w.heap.size w.heap.size [0, 0] a 0 c ks (hP.keep B3) A3 (by omega) B3.size hn (fun j u hu => by
    obtain ⟨q, e1, e2, e3⟩ := hks j u hu
    exact ⟨q, e1, e2, (B3.cell (p := ⟨q, 0 + j, none⟩) e2).trans e3⟩) h100
  have HA := hide A3
  clear A3
  cases aM with
  | none =>
    have ec := hcM rfl
    subst ec
    go_enter Tryz.func23, Tryz.ntmps23
    go_wp2_with (at_builtin; refine wpList_append_own_none rfl (.tmp 13) (.tmp 14) 32 rfl 0 3 j0 1 Tryz.underlying32 ji (.slice none 0 0) 0 [] rfl (World.ownsRow_nil _ 0 _ 1) (by rfl) ?_)
    refine hall.mono ?_
    rintro x w5 ⟨rfl, h5, hb5⟩
    obtain ⟨aM', cM', hs5, _⟩ := h5.at_.cells
    have q0 := hs5.cell 0
    simp only [List.getElem?_cons_zero] at q0
    rw [show ((V.rds l [0, 0]).take 0).length = 0 from rfl] at q0
    have ql := hs5.lt
    go_wp2_with fail
    go_ret
    exact ⟨⟨aM', cM', rfl⟩, B3.trans (hb5.low (Nat.le_refl _) (Nat.le_refl _) B3.size)⟩
  | some ad =>
    have hap : ∀ W : World, (Builtin.append_ #[32, 32] 32 #[.slice none 0 0, .slice (some ad) 0 cM]).run Tryz.prog W = .ok (.slice none 0 0) W := fun W => run_append_zero W ad cM
    go_enter Tryz.func23, Tryz.ntmps23
    go_wp2_with fail
    refine hall.mono ?_
    rintro x w5 ⟨rfl, h5, hb5⟩
    obtain ⟨aM', cM', hs5, _⟩ := h5.at_.cells
    have q0 := hs5.cell 0
    simp only [List.getElem?_cons_zero] at q0
    rw [show ((V.rds l [0, 0]).take 0).length = 0 from rfl] at q0
    have ql := hs5.lt
    go_wp2_with fail
    go_ret
    exact ⟨⟨aM', cM', rfl⟩, B3.trans (hb5.low (Nat.le_refl _) (Nat.le_refl _) B3.size)⟩
end Go.Proofs.YtjgiefnjmngdkaaGreatDoor
namespace Go.Proofs.YtjgiefnjmngdkaaGreatDoor
open Go.RowKit
open R (Nd Tok PS)
open K (Nm Ex Do)

theorem fl10 (s : Nat) (hs : s < 10) : ∀ (ys : List (List Value)) (q : Nat), (∀ c ∈ ys, c.length = 10) → (hq : q < ys.length) → ys.flatten[q * 10 + s]? = ys[q][s]?
  | [], q, _, hq => by simp at hq
  | c :: ys, 0, h, _ => by
    have := h c List.mem_cons_self
    rw [List.flatten_cons, List.getElem?_append_left (by omega)]
    simp
  | c :: ys, q + 1, h, hq => by
    have hc := h c List.mem_cons_self
    rw [List.flatten_cons, List.getElem?_append_right (by rw [hc, Nat.add_mul]; omega)]
    have e : (q + 1) * 10 + s - c.length = q * 10 + s := by rw [hc, Nat.add_mul]; omega
    rw [e, fl10 s hs ys q (fun d hd => h d (List.mem_cons_of_mem _ hd)) (by simpa using hq)]
    simp
theorem ints_at {w : World} {v : Value} {l : List Int} (h : Ints w v l) : IntsAt w w.heap.size v l := by
  obtain ⟨hl, ⟨rfl, h0⟩ | ⟨g, cap, cur, hv, _, hg, hc, hm, hs, hx⟩⟩ := h
  · refine ⟨none, 0, by rw [h0], ⟨by omega, by omega⟩, fun j u hu => ?_⟩
    have := (List.getElem?_eq_some_iff.1 hu).1
    omega
  · unfold maxLen at hm
    refine ⟨some ⟨g, 0, none⟩, cap, hv, ⟨hc, by omega⟩, fun j u hu => ⟨g, rfl, heap_lt hg, ?_⟩⟩
    have hj : j < l.length := (List.getElem?_eq_some_iff.1 hu).1
    have e : (ints l)[j]? = some (.int .i64 u) := by unfold ints; rw [List.getElem?_map, hu]; rfl
    rw [← hx, List.getElem?_take_of_lt (by omega)] at e
    simp [World.cell?, hg]
    simpa using e
/-- A program that was read: its nodes, as a run looks at them. -/
theorem rep_pat {w : World} {b : Nat} {T : List Tok} {σ : PS} {r : RV} (h : Rep w b T σ r) (hf : σ.nodes.length ≤ 100000) : PAt w w.heap.size b σ.nodes := by
  refine ⟨h.cells.lt, hf, fun k n hn => ?_⟩
  obtain ⟨xs, hx, hl, hnd⟩ := h.nodes
  have hk : k < σ.nodes.length := (List.getElem?_eq_some_iff.1 hn).1
  have h10 : ∀ c ∈ xs, c.length = 10 := fun c hc => by
    obtain ⟨i, hi, rfl⟩ := List.getElem_of_mem hc
    obtain ⟨lv, tv, e, _, _⟩ := hnd i xs[i] σ.nodes[i] (List.getElem?_eq_getElem hi) (List.getElem?_eq_getElem (by omega))
    rw [e]
    rfl
  obtain ⟨lv, tv, e, hL, hT⟩ := hnd k xs[k] n (List.getElem?_eq_getElem (by omega)) hn
  obtain ⟨_, ⟨_, h0⟩ | ⟨g, cap, cur, hv, _, hg, hc, hm, hs, ht⟩⟩ := hx
  · omega
  · refine ⟨g, cap, by rw [h.c1 7 _ rfl, hv], heap_lt hg, lv, tv, fun j v hj => ?_, ints_at hL, ints_at hT⟩
    have hj10 : j < 10 := (List.getElem?_eq_some_iff.1 hj).1
    have hfl := fl10 j hj10 xs k h10 (by omega)
    rw [e, hj, ← ht, List.getElem?_take_of_lt (by omega)] at hfl
    simp [World.cell?, hg]
    simpa using hfl
end Go.Proofs.YtjgiefnjmngdkaaGreatDoor
