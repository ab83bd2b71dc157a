import Derived.Test.YtejbgcloblpbfaaGreatDoorR31
import Derived.Deep.LoopGhost
namespace Go.Proofs.YtejbgcloblpbfaaGreatDoor
open Go.RowKit
open R (Nd)
open K (Nm Ex Do)
theorem V.rounds_step' (f : List Int → List Int) (k i m : Nat) (W : List Int) (h : i < m) : V.rounds f k i (m - i) W = V.rounds f k (i + 1) (m - (i + 1)) (f (W.set k (i : Int))) := by
  rw [show m - i = (m - (i + 1)) + 1 by omega, V.rounds]
set_option maxRecDepth 100000 in
set_option maxHeartbeats 4000000 in
theorem st_for (N : Nat) (nodes : List Nd) (p : Int) (m : Nm) (e : Ex) (l : List Do) (he : VaDoes N nodes e) (hL1 : AllDoes N nodes l) : StDoes N nodes (.fors p m e l) := by
  intro w lim b sb gM gC k W hP hS h54 hlim hn
  unfold ND at hn
  obtain ⟨n, x, l1, hn, hw, hL, p0, p2, hpl, ne, nl⟩ := hn
  obtain ⟨g, la, lc, ta, tc, cap, nc, hg, hl, _, hcl, _⟩ := hP.nc hn
  obtain ⟨q, rfl, hq, hqc⟩ := hl 0 x (by rw [hL]; rfl)
  have hkl : k < nodes.length := (List.getElem?_eq_some_iff.1 hn).1
  have hkz : (k : Int) < (nodes.length : Int) := by omega
  have few := hP.few
  have hbl := hP.lt
  obtain ⟨pj, hpj⟩ := Int.eq_ofNat_of_zero_le p0
  have hpj2 : pj < 2 := by omega
  have epl : m.place.toNat = N + pj := by omega
  have HV : Hid (V.rd (.fors p m e l) W = V.rounds (fun W => V.rds l W) (N + pj) 0 (V.times (V.ev W e)) W) := by show _ = _; rw [V.rd, epl]
  rw [HV.out]
  clear HV
  obtain ⟨F, hF⟩ : ∃ F, F = (fun W => V.rds l W) := ⟨_, rfl⟩
  rw [← hF]
  have HF : Hid (∀ W, F W = V.rds l W) := fun W => by rw [hF]
  clear hF
  obtain ⟨wd, n1, ⟨t0, t1, t2, t3, t4⟩, nL, n2, n5⟩ := n
  obtain ⟨c7, d0, d1, d2, d3, d4, d5, d6, d7, d8, d9⟩ := nc
  dsimp only at *
  subst hw hL hpj
  have hl1 : ∀ (j : Nat) u, l1[j]? = some u → w.cell? ⟨q, 1 + j, none⟩ = some (.int .i64 (u : Int)) := fun j u hu => by
    obtain ⟨q', e', _, h'⟩ := hl (j + 1) (u : Int) (by rw [List.getElem?_cons_succ, List.getElem?_map, hu]; rfl)
    cases e'
    rw [Nat.add_comm]
    exact h'
  simp only [List.length_cons, List.length_map] at d7 hcl
  have lo := hS.at_.lo
  have hca := fun (w' : World) (W' : List Int) (hb : But3 sb gM gC w w') (h2 : Left2 w' lim sb gM gC N W') => hL1 w' lim b sb gM gC W' (some ⟨q, 1, none⟩) 1 (lc - 1) l1 (hP.keep (hb.low lo.2.1 lo.2.2 hlim)) h2 h54 (Nat.le_trans hlim hb.size) nl (fun j u hu => ⟨q, rfl, hq, ((hb.low lo.2.1 lo.2.2 hlim).cell (p := ⟨q, 1 + j, none⟩) hq).trans (hl1 j u hu)⟩) (by omega)
  have hca0 := fun (w' : World) (W' : List Int) (hb : But3 sb gM gC w w') (h2 : Left2 w' lim sb gM gC N W') (h0 : l1.length = 0) => hL1 w' lim b sb gM gC W' (some ⟨q, 0, none⟩) 0 0 l1 (hP.keep (hb.low lo.2.1 lo.2.2 hlim)) h2 h54 (Nat.le_trans hlim hb.size) nl (fun j u hu => by have := (List.getElem?_eq_some_iff.1 hu).1; omega) (by omega)
  generalize l1.length = ll at *
  generalize n2.length = tn at *
  have B0 : Below w.heap.size w (w.alloc (.cells #[.string ⟨#[102, 111, 114]⟩, .int .i64 n1, .string t0, .int .i64 t1, .bool t2, .int .i64 (pj : Int), .int .i64 t4, .slice (some ⟨q, 0, none⟩) (ll + 1) lc, .slice ta tn tc, .bool n5] 145 (0, 0))) := (Below.refl _ _).alloc (Nat.le_refl _) _
  have bx := At.alloc_new w [.string ⟨#[102, 111, 114]⟩, .int .i64 n1, .string t0, .int .i64 t1, .bool t2, .int .i64 (pj : Int), .int .i64 t4, .slice (some ⟨q, 0, none⟩) (ll + 1) lc, .slice ta tn tc, .bool n5] 145
  have hcall := va_all he (hP.keep (B0.mono hlim)) (hS.below B0) h54 (Nat.le_trans hlim B0.size) ne
  have qc := (B0.cell (p := ⟨q, 0, none⟩) (show q < w.heap.size by omega)).trans hqc
  have hql : q < w.heap.size := by omega
  have hz0 : (0 : Int) < (ll : Int) + 1 := by omega
  have hz1 : (1 : Int) ≤ (ll : Int) + 1 := by omega
  have hWl := hS.len
  clear ne nl hl hl1 hL1 p0 p2 hpl epl
  generalize V.ev W e = v at *
  obtain ⟨T, hT⟩ : ∃ T, V.times v = T := ⟨_, rfl⟩
  have HR : Hid (∀ j : Nat, ((j : Int) < v ∧ (j : Int) < 5) ↔ j < T) := by
    subst hT
    intro j
    unfold V.times
    repeat' split
    all_goals omega
  have hT5 : T ≤ 5 := by
    subst hT
    unfold V.times
    repeat' split
    all_goals omega
  rw [hT]
  clear hT
  generalize nodes.length = NL at *
  have nLM : w.heap.size ≠ gM := by have := hS.at_.lt; omega
  have nLC : w.heap.size ≠ gC := by have := hS.at_.cnt.lt; omega
  go_enter Tryz.func65, Tryz.ntmps65
  go_wp2_with fail
  refine hcall.mono ?_
  rintro y w1 ⟨rfl, hb1⟩
  have B1 := B0.trans (hb1.mono B0.size)
  have bx1 := bx.of_block (hb1.block _ bx.lt)
  have k0 := bx1.cell 0
  simp only [List.getElem?_cons_zero] at k0
  have BW : But3 sb gM gC w w1 := But3.of_below B1
  go_wp2_with fail
  go_loopg [9] T (fun gk i wr => ∃ (j : Nat) (W' : List Int), j + gk = T ∧ i = .int .i64 (j : Int) ∧ Left2 wr lim sb gM gC N W' ∧ But3 sb gM gC w1 wr ∧ Hid (V.rounds F (N + pj) 0 T W = V.rounds F (N + pj) j (T - j) W'))
  case atStart => exact ⟨0, W, by omega, rfl, hS.below B1, But3.refl _ _ _ _, rfl⟩
  case round =>
    obtain ⟨j, W', hj, rfl, rr, Bk, HK⟩ := hrel
    cases gk with
    | zero =>
      have hno : ¬ ((j : Int) < v ∧ (j : Int) < 5) := fun h => by have := (HR.out j).1 h; omega
      have HX : Hid (V.rounds F (N + pj) 0 T W = W') := by show _ = _; rw [HK.out, show T - j = 0 by omega]; rfl
      by_cases hjv : (j : Int) < v
      · have h5 : ¬ ((j : Int) < 5) := fun h => hno ⟨hjv, h⟩
        clear hno
        go_wp2_with fail
        go_end0
        rw [HX.out]
        exact ⟨rfl, rr, BW.trans Bk⟩
      · clear hno
        go_wp2_with fail
        go_end0
        rw [HX.out]
        exact ⟨rfl, rr, BW.trans Bk⟩
    | succ g1 =>
      obtain ⟨hjv, h5⟩ := (HR.out j).2 (by omega)
      have bx2 := bx1.of_block (Bk.block _ bx1.lt nLM nLC)
      have q5 := bx2.cell 5
      have q7 := bx2.cell 7
      simp only [List.getElem?_cons_zero, List.getElem?_cons_succ] at q5 q7
      obtain ⟨aM, cM, hs, haM⟩ := rr.at_.cells
      have hCl : (W'.drop N).length = 2 := by rw [List.length_drop, rr.len]; omega
      have s1 := hs.cell 1
      simp only [List.getElem?_cons_zero, List.getElem?_cons_succ] at s1
      have hsl := hs.lt
      have hz : (pj : Int) < ((W'.drop N).length : Int) := by omega
      have cc := rr.at_.count (k := pj) (by omega)
      have fc := rr.at_.cnt.frozen pj
      have rs := (rr.still (w' := wr.drew) rfl).setC pj (j : Int)
      have Bs := Bk.drew.setC pj (.int .i64 (j : Int))
      have bx3 : At (wr.drew.setCell ⟨gC, pj, none⟩ (.int .i64 (j : Int))) w.heap.size 145 [.string ⟨#[102, 111, 114]⟩, .int .i64 n1, .string t0, .int .i64 t1, .bool t2, .int .i64 (pj : Int), .int .i64 t4, .slice (some ⟨q, 0, none⟩) (ll + 1) lc, .slice ta tn tc, .bool n5] := (bx2.of_block rfl).set_other (a := ⟨gC, pj, none⟩) nLC _
      have q7' := bx3.cell 7
      simp only [List.getElem?_cons_zero, List.getElem?_cons_succ] at q7'
      have hc := hca _ _ (BW.trans Bs) rs
      have hc0 := hca0 _ _ (BW.trans Bs) rs
      generalize (W'.drop N).length = CL at *
      by_cases hlc : lc - 1 = 0
      · have ell : ll = 0 := by omega
        subst ell
        have elc : lc = 1 := by omega
        subst elc
        have hc0' := hc0 (by first | rfl | trivial)
        go_upto_region 16 with fail
        go_region
        all_goals
          go_wp2_with fail
          refine hc0'.mono ?_
          rintro y w4 ⟨rfl, r4, hb4⟩
          rw [← HF.out] at r4
          go_wp2_with fail
          go_roundg g1
          case measure => omega
          case rel =>
            refine ⟨j + 1, F (W'.set (N + pj) (j : Int)), by omega, by go_num, r4, Bs.trans hb4, HK.out.trans (V.rounds_step' F (N + pj) j T W' (by omega))⟩
      · clear hc0
        go_upto_region 16 with fail
        go_region
        all_goals
          go_wp2_with fail
          refine hc.mono ?_
          rintro y w4 ⟨rfl, r4, hb4⟩
          rw [← HF.out] at r4
          go_wp2_with fail
          go_roundg g1
          case measure => omega
          case rel =>
            refine ⟨j + 1, F (W'.set (N + pj) (j : Int)), by omega, by go_num, r4, Bs.trans hb4, HK.out.trans (V.rounds_step' F (N + pj) j T W' (by omega))⟩
end Go.Proofs.YtejbgcloblpbfaaGreatDoor
