import Derived.Test.YtejbgcloblpbfaaGreatDoorR42
import Derived.Test.YtejbgcloblpbfaaGreatDoorR33
import Derived.Test.YtejbgcloblpbfaaGreatDoorR40
import Derived.Test.YtejbgcloblpbfaaGreatDoorR36
import Derived.Test.YtejbgcloblpbfaaGreatDoorR30
import Derived.Deep.QuietTactic
import Derived.BigQuiet
import Derived.Deep.CutBlock
namespace Go.Proofs.YtejbgcloblpbfaaGreatDoor
open Go.RowKit
open K (Nm Ex Do)
set_option maxHeartbeats 400000 in
theorem run_err {s : ByteArray} {w : World} {E Q : Int} {mv : Value} (aM : Option Addr) (nM cM : Nat) (hmv : mv = .slice aM nM cM) (hE : ¬ E = 0) (hr : Calls Tryz.prog 40 #[.string s] w fun x w' => x = .returned (.tuple #[zeroP, .int .i64 E, .int .i64 Q]) ∧ Below w.heap.size w w') :
    Calls Tryz.prog 21 #[.string s, mv] w fun x w' => x = .returned (.tuple #[.slice none 0 0, .int .i64 E]) ∧ Below w.heap.size w w' := by
  subst hmv
  unfold zeroP at hr
  go_enter Tryz.func21, Tryz.ntmps21
  go_wp2_with fail
  refine hr.mono ?_
  rintro x w1 ⟨rfl, hb⟩
  go_wp2_with fail
  go_ret2
  exact ⟨rfl, hb.alloc hb.size _⟩
set_option maxHeartbeats 400000 in
theorem run_arg {s : ByteArray} {w : World} {N : Nat} {aM : Option Addr} {nM cM : Nat} (hne : ¬ nM = N) (hr : Calls Tryz.prog 40 #[.string s] w fun x w' => (∃ na nn nc da dn dc, x = .returned (.tuple #[.agg #[.slice na nn nc, .int .i64 (N : Int), .slice da dn dc], .int .i64 0, .int .i64 0])) ∧ Below w.heap.size w w') :
    Calls Tryz.prog 21 #[.string s, .slice aM nM cM] w fun x w' => x = .returned (.tuple #[.slice none 0 0, .int .i64 8]) ∧ Below w.heap.size w w' := by
  have hz : ¬ ((nM : Int) = (N : Int)) := by omega
  go_enter Tryz.func21, Tryz.ntmps21
  go_wp2_with fail
  refine hr.mono ?_
  rintro x w1 ⟨⟨na, nn, nc, da, dn, dc, rfl⟩, hb⟩
  have aA := At.alloc_new w1 [.slice na nn nc, .int .i64 (N : Int), .slice da dn dc] 84
  go_wp2_with fail
  go_ret2
  exact ⟨rfl, hb.alloc hb.size _⟩
set_option maxHeartbeats 1000000 in
theorem run_go {s : ByteArray} {w : World} {N : Nat} (hN : N ≤ 54) (ms : List Int) (hms : ms.length = N) (l : List Do) (hwf : V.wfL (N + 2) l) {aM : Option Addr} {cM : Nat}
    (hM : ∀ (j : Nat) u, ms[j]? = some u → ∃ gm o, aM = some ⟨gm, o, none⟩ ∧ gm < w.heap.size ∧ w.cell? ⟨gm, o + j, none⟩ = some (.int .i64 u))
    (hr : Calls Tryz.prog 40 #[.string s] w fun x w' => (∃ na nn nc da dn dc us, x = .returned (.tuple #[.agg #[.slice na nn nc, .int .i64 (N : Int), .slice da dn dc], .int .i64 0, .int .i64 0]) ∧ DRow (From w.heap.size) w' (.slice da dn dc) us ∧ Each (From w.heap.size) w' l us) ∧ Below w.heap.size w w') :
    Calls Tryz.prog 21 #[.string s, .slice aM N cM] w fun x w' => (∃ g, x = .returned (.tuple #[.slice (some ⟨g, 0, none⟩) N N, .int .i64 0]) ∧ w.heap.size ≤ g ∧ At w' g 3 (((V.rds l (ms ++ [0, 0])).take N).map fun n => .int .i64 n)) ∧ Below w.heap.size w w' := by
  go_enter Tryz.func21, Tryz.ntmps21
  go_wp2_with fail
  refine hr.mono ?_
  rintro x w1 ⟨⟨na, nn, nc, da, dn, dc, us, rfl, dr, de⟩, hb⟩
  have aA := At.alloc_new w1 [.slice na nn nc, .int .i64 (N : Int), .slice da dn dc] 84
  have B1 := hb.alloc hb.size (.cells #[.slice na nn nc, .int .i64 (N : Int), .slice da dn dc] 84 (0, 0))
  have zz := hb.size
  have kp : ∀ k, k < w1.heap.size → k < w1.heap.size → (w1.alloc (.cells #[.slice na nn nc, .int .i64 (N : Int), .slice da dn dc] 84 (0, 0))).heap[k]? = w1.heap[k]? := fun k h _ => heap_alloc_old _ _ _ h
  have dr1 := ((dr.lower (B' := fun k => k < w1.heap.size) fun k _ h => h).keep kp).lower (B' := fun k => k < (w1.alloc (.cells #[.slice na nn nc, .int .i64 (N : Int), .slice da dn dc] 84 (0, 0))).heap.size) fun k _ h => h
  have de1 := ((de.lower (B' := fun k => k < w1.heap.size) fun k _ h => h).keep kp).lower (B' := fun k => k < (w1.alloc (.cells #[.slice na nn nc, .int .i64 (N : Int), .slice da dn dc] 84 (0, 0))).heap.size) fun k _ h => h
  have hp := prog_c N hN ms hms l hwf na nn nc da dn dc aM cM us _ dr1 de1 (fun j u hu => by
    obtain ⟨gm, o, e, hg, hc⟩ := hM j u hu
    exact ⟨gm, o, e, Nat.lt_of_lt_of_le hg B1.size, (B1.cell (p := ⟨gm, o + j, none⟩) hg).trans hc⟩)
  clear dr1 de1 kp
  go_wp2_with fail
  refine hp.mono ?_
  rintro x w3 ⟨⟨g, rfl, hg, aG⟩, hb3⟩
  go_wp2_with fail
  go_ret2
  refine ⟨⟨g, rfl, ?_, aG⟩, B1.trans (hb3.mono B1.size)⟩
  have := B1.size
  omega
end Go.Proofs.YtejbgcloblpbfaaGreatDoor
namespace Go.Proofs.YtejbgcloblpbfaaGreatDoor
open Go.RowKit
theorem check_all (s : ByteArray) (w : World) (hm : s.size ≤ maxLen) (hv : K.Vars w) (hw : 5 ≤ w.heap.size) :
    Calls Tryz.prog 14 #[.string s] w fun x w' => x = .returned (.tuple #[.int .i64 (R.read s).err, .int .i64 (R.read s).place]) ∧ Below w.heap.size w w' := by
  have h := check_c (fun l hl => gds_of l (gdl_c l hl)) s w hm hv hw
  rw [Q.check_read (R.toks_ended s)] at h
  exact h
theorem read_all (s : ByteArray) (w : World) (hm : s.size ≤ maxLen) :
    Calls Tryz.prog 15 #[.string s] w fun x w' => ∃ b, x = .returned (P b) ∧ Own w w' ∧ w'.cell? ⟨b, 2, none⟩ = some (.int .i64 (R.read s).err) ∧ w'.cell? ⟨b, 3, none⟩ = some (.int .i64 (R.read s).place) := by
  by_cases hs : 800 < s.size
  · have e : R.read s = R.fail 1 0 R.start := by unfold R.read; rw [if_pos hs]
    rw [e]
    exact (read_long s w hs hm).mono fun x w' ⟨b, hx, ho, _, hc⟩ => ⟨b, hx, ho, hc.cell 2, hc.cell 3⟩
  · have e : R.read s = R.readT (R.toks s) := by unfold R.read; rw [if_neg hs]
    rw [e]
    exact (read_c s w (by omega)).mono fun x w' ⟨b, r, hx, h⟩ => ⟨b, hx, h.own, h.rep.c1 2 _ rfl, h.rep.c1 3 _ rfl⟩
theorem Own.below {w w' : World} (h : Own w w') : Below w.heap.size w w' := ⟨h.os, h.tape, h.output, h.size, h.block⟩
theorem below_drewN' {B : Nat} {w w' : World} (h : Below B w w') (n : Nat) : Below B w (w'.drewN n) := ⟨h.os, h.tape, h.output, h.size, h.block⟩
theorem K.Vars.below {w w' : World} {b : Nat} (h : K.Vars w) (hb : Below b w w') (h2 : 5 ≤ b) : K.Vars w' := by
  obtain ⟨⟨e0, a1, a2⟩, ⟨e1, c1, c2⟩⟩ := h
  exact ⟨⟨e0, (hb.cell (p := ⟨3, 0, none⟩) (show 3 < b by omega)).trans a1, a2⟩, ⟨e1, (hb.cell (p := ⟨4, 0, none⟩) (show 4 < b by omega)).trans c1, c2⟩⟩
abbrev oneS : ByteArray := { data := #[40, 115, 101, 99, 114, 101, 116, 32, 107, 41, 40, 115, 101, 116, 32, 107, 32, 49, 41] }
abbrev twoS : ByteArray := { data := #[40, 115, 101, 116, 32, 120, 32, 49, 41] }
theorem one_err : (R.read oneS).err = 0 := by decide +kernel
theorem one_place : (R.read oneS).place = 0 := by decide +kernel
theorem two_err : (R.read twoS).err = 3 := by decide +kernel
theorem two_place : (R.read twoS).place = 5 := by decide +kernel
set_option maxHeartbeats 400000 in
theorem right_c (w : World) (hv : K.Vars w) (hw : 5 ≤ w.heap.size) : Calls Tryz.prog 13 #[] w fun x w' => x = .returned (.bool true) ∧ Below w.heap.size w w' := by
  have h1 := check_all oneS w (by decide) hv hw
  rw [one_err, one_place] at h1
  have h2 := fun (w' : World) (hb : Below w.heap.size w w') => check_all twoS w' (by decide) (hv.below hb hw) (Nat.le_trans hw hb.size)
  rw [two_err, two_place] at h2
  go_enter Tryz.func13, Tryz.ntmps13
  go_wp2_with fail
  refine h1.mono ?_
  rintro x w1 ⟨rfl, hb1⟩
  go_wp2_with fail
  refine (h2 w1 hb1).mono ?_
  rintro x w2 ⟨rfl, hb2⟩
  go_wp2_with fail
  go_ret
  exact ⟨rfl, hb1.trans (hb2.mono hb1.size)⟩
theorem num_c (n : Int) (w : World) : Calls Tryz.prog 16 #[.int .i64 n] w fun x w' => x = .returned (.int .i64 n) ∧ w' = w := by
  go_enter Tryz.func16, Tryz.ntmps16
  go_wp2_with fail
  go_ret
  exact ⟨rfl, rfl⟩
set_option maxRecDepth 100000 in
set_option maxHeartbeats 2000000 in
theorem checks_c (s : ByteArray) (w : World) (hm : s.size ≤ maxLen) (hv : K.Vars w) (hw : 5 ≤ w.heap.size) :
    Calls Tryz.prog 3 #[.string s] w fun x w' => x = .returned (.bool true) ∧ Below w.heap.size w w' := by
  have h1 := right_c w hv hw
  have h2 := fun (w' : World) (hb : Below w.heap.size w w') => check_all s w' hm (hv.below hb hw) (Nat.le_trans hw hb.size)
  have h3 := fun (w' : World) => read_all s w' hm
  have h4 := fun (w' : World) => num_c (R.read s).err w'
  generalize (R.read s).err = E at *
  generalize (R.read s).place = Q at *
  go_enter Tryz.func3, Tryz.ntmps3
  go_wp2_with fail
  refine h1.mono ?_
  rintro x w1 ⟨rfl, hb1⟩
  go_wp2_with fail
  refine (h2 w1 hb1).mono ?_
  rintro x w2 ⟨rfl, hb2⟩
  have B2 := hb1.trans (hb2.mono hb1.size)
  go_wp2_with fail
  refine (h3 w2).mono ?_
  rintro x w3 ⟨b, rfl, ho, c2, c3⟩
  have B3 := B2.trans (ho.below.mono B2.size)
  go_upto_region 4 with fail
  go_quiet (first | (go_at_call 16; refine Calls.quiet_of_same (h4 _)))
  go_wp2_with fail
  go_ret
  exact ⟨rfl, below_drewN' B3 _⟩
end Go.Proofs.YtejbgcloblpbfaaGreatDoor
namespace Go.Proofs.YtejbgcloblpbfaaGreatDoor
open Go.RowKit
theorem num_s (n : Int) (w : World) : Calls Tryz.prog 16 #[.int .i64 n] w fun x w' => x = .returned (.int .i64 n) ∧ w' = w := by
  go_enter Tryz.func16, Tryz.ntmps16
  go_wp2_with fail
  go_ret
  exact ⟨rfl, rfl⟩
theorem below_drewN {B : Nat} {w w' : World} (h : Below B w w') (n : Nat) : Below B w (w'.drewN n) := ⟨h.os, h.tape, h.output, h.size, h.block⟩
set_option maxRecDepth 100000 in
set_option maxHeartbeats 2000000 in
theorem shapes_bad {s t : ByteArray} {w : World} {E : Int} (hE : ¬ E = 0) (ht : t = { data := #[40, 112, 117, 98, 108, 105, 99, 32, 97, 41, 40, 115, 101, 99, 114, 101, 116, 32, 98, 41] })
    (h1 : Calls Tryz.prog 15 #[.string s] w fun x w' => ∃ b, x = .returned (.pointer (some ⟨b, 0, none⟩)) ∧ Below w.heap.size w w' ∧ b < w'.heap.size ∧ w'.cell? ⟨b, 2, none⟩ = some (.int .i64 E))
    (h2 : ∀ w' : World, Below w.heap.size w w' → Calls Tryz.prog 17 #[.string s] w' fun x w'' => x = .returned (.tuple #[.slice none 0 0, .int .i64 E]) ∧ Below w'.heap.size w' w'')
    (h3 : ∀ w' : World, Below w.heap.size w w' → Calls Tryz.prog 17 #[.string t] w' fun x w'' => (∃ g, x = .returned (.tuple #[.slice (some ⟨g, 0, none⟩) 2 2, .int .i64 0]) ∧ At w'' g 4 [.bool false, .bool true]) ∧ Below w'.heap.size w' w'') :
    Calls Tryz.prog 4 #[.string s] w fun x w' => x = .returned (.bool true) ∧ Below w.heap.size w w' := by
  subst ht
  have h4 := fun (w' : World) => num_s E w'
  go_enter Tryz.func4, Tryz.ntmps4
  go_wp2_with fail
  refine h1.mono ?_
  rintro x w1 ⟨b, rfl, B1, hbl, c2⟩
  have z1 := B1.size
  go_wp2_with fail
  go_loopg [5] 3 (fun gk kk wr => ∃ k : Nat, k + gk = 3 ∧ kk = .int .i64 (k : Int) ∧ Below w1.heap.size w1 wr)
  case atStart => exact ⟨0, rfl, rfl, Below.refl _ _⟩
  case round =>
    obtain ⟨k, hk, rfl, B⟩ := hrel
    have zr := B.size
    cases gk with
    | zero =>
      have hz : ¬ ((k : Int) < 3) := by omega
      have BB := B1.trans (B.mono z1)
      have h3' := h3 wr BB
      go_wp2_with fail
      refine h3'.mono ?_
      rintro x w2 ⟨⟨g, rfl, aG⟩, hb2⟩
      have y0 : w2.cell? ⟨g, 0, none⟩ = some (.bool false) := aG.cell 0
      have y1 : w2.cell? ⟨g, 1, none⟩ = some (.bool true) := aG.cell 1
      go_wp2_with fail
      go_ret
      exact ⟨rfl, BB.trans (hb2.mono (Nat.le_trans z1 zr))⟩
    | succ g1 =>
      have hz : (k : Int) < 3 := by omega
      have h2' := h2 wr (B1.trans (B.mono z1))
      go_wp2_with fail
      refine h2'.mono ?_
      rintro x w2 ⟨rfl, hb2⟩
      have c2' : w2.cell? ⟨b, 2, none⟩ = some (.int .i64 E) := ((hb2.cell (p := ⟨b, 2, none⟩) (show b < wr.heap.size by omega)).trans (B.cell (p := ⟨b, 2, none⟩) hbl)).trans c2
      have B2 := B.trans (hb2.mono zr)
      have hne : (decide (E = 0)) = false := by simp [hE]
      go_upto_region 7 with fail
      go_quiet (first | (go_at_call 16; refine Calls.quiet_of_same (h4 _)))
      go_wp2_with fail
      go_roundg g1
      case measure => omega
      case rel => exact ⟨k + 1, by omega, by go_num, below_drewN B2 _⟩
structure Still (w w' : World) : Prop where
  heap : w'.heap = w.heap
  os : w'.os = w.os
  tape : w'.tape = w.tape
  output : w'.output = w.output
theorem Still.cell {w w' : World} (h : Still w w') (a : Addr) : w'.cell? a = w.cell? a := by simp [World.cell?, h.heap]
theorem Still.drewN {w w' : World} (h : Still w w') (n : Nat) : Still w (w'.drewN n) := ⟨h.heap, h.os, h.tape, h.output⟩
theorem Still.below {w w' : World} (h : Still w w') (B : Nat) : Below B w w' := ⟨h.os, h.tape, h.output, by rw [h.heap]; exact Nat.le_refl _, fun k _ => by rw [h.heap]⟩
theorem but_below {b B : Nat} {w w' : World} (h : But b w w') (hB : B ≤ b) (hs : B ≤ w.heap.size) : Below B w w' :=
  ⟨h.os, h.tape, h.output, h.size, fun k hk => h.block k (by omega) (by omega)⟩
set_option maxRecDepth 100000 in
set_option maxHeartbeats 4000000 in
theorem shapes_good {s t : ByteArray} {w : World} {sh : List Bool} (h54 : sh.length ≤ 54) (ht : t = { data := #[40, 112, 117, 98, 108, 105, 99, 32, 97, 41, 40, 115, 101, 99, 114, 101, 116, 32, 98, 41] })
    (h1 : Calls Tryz.prog 15 #[.string s] w fun x w' => ∃ b H, x = .returned (.pointer (some ⟨b, 0, none⟩)) ∧ Below w.heap.size w w' ∧ b < w'.heap.size ∧ w'.cell? ⟨b, 2, none⟩ = some (.int .i64 0) ∧ w'.cell? ⟨b, 9, none⟩ = some H ∧ w'.ownsRow 0 4 1 H sh.length (bools sh))
    (h2 : ∀ w' : World, Below w.heap.size w w' → Calls Tryz.prog 17 #[.string s] w' fun x w'' => (∃ g, x = .returned (.tuple #[.slice (some ⟨g, 0, none⟩) sh.length sh.length, .int .i64 0]) ∧ w'.heap.size ≤ g ∧ At w'' g 4 (bools sh)) ∧ Below w'.heap.size w' w'')
    (h3 : ∀ w' : World, Below w.heap.size w w' → Calls Tryz.prog 17 #[.string t] w' fun x w'' => (∃ g, x = .returned (.tuple #[.slice (some ⟨g, 0, none⟩) 2 2, .int .i64 0]) ∧ At w'' g 4 [.bool false, .bool true]) ∧ Below w'.heap.size w' w'') :
    Calls Tryz.prog 4 #[.string s] w fun x w' => x = .returned (.bool true) ∧ Below w.heap.size w w' := by
  subst ht
  have h4 := fun (w' : World) => num_s 0 w'
  go_enter Tryz.func4, Tryz.ntmps4
  go_wp2_with fail
  refine h1.mono ?_
  rintro x w1 ⟨b, H, rfl, B1, hbl, c2, c9, rH⟩
  have z1 := B1.size
  obtain ⟨aH, cH, rfl, HH⟩ : ∃ aH cH, H = .slice aH sh.length cH ∧ Hid (∀ m u, sh[m]? = some u → ∃ gH, aH = some ⟨gH, 0, none⟩ ∧ gH < w1.heap.size ∧ w1.cell? ⟨gH, m, none⟩ = some (.bool u)) := by
    rcases Joins.ownsRow_forms rH with ⟨rfl, h0⟩ | ⟨gH, cH, rfl⟩
    · refine ⟨none, 0, by rw [h0], fun m u hu => ?_⟩
      have := (List.getElem?_eq_some_iff.1 hu).1
      omega
    · obtain ⟨_, hHl, hHc⟩ := own_cells rH
      exact ⟨_, _, rfl, fun m u hu => ⟨gH, rfl, hHl, hHc m _ (by simp [bools, hu])⟩⟩
  clear rH
  go_wp2_with fail
  go_loopg [4, 5] 3 (fun gk fst kk wr => ∃ k : Nat, k + gk = 3 ∧ kk = .int .i64 (k : Int) ∧ Below w1.heap.size w1 wr ∧ (k = 0 ∨ ∃ lo hi h, fst = .slice (some ⟨h, 0, none⟩) 3 3 ∧ Three wr lo hi h true ∧ hi ≤ wr.heap.size))
  case atStart => exact ⟨0, rfl, rfl, Below.refl _ _, Or.inl rfl⟩
  case round =>
    obtain ⟨k, hk, rfl, B, hfst⟩ := hrel
    have zr := B.size
    cases gk with
    | zero =>
      have hz : ¬ ((k : Int) < 3) := by omega
      have BB := B1.trans (B.mono z1)
      have h3' := h3 wr BB
      go_wp2_with fail
      refine h3'.mono ?_
      rintro x w2 ⟨⟨g, rfl, aG⟩, hb2⟩
      have y0 : w2.cell? ⟨g, 0, none⟩ = some (.bool false) := aG.cell 0
      have y1 : w2.cell? ⟨g, 1, none⟩ = some (.bool true) := aG.cell 1
      go_wp2_with fail
      go_ret
      exact ⟨rfl, BB.trans (hb2.mono (Nat.le_trans z1 zr))⟩
    | succ g1 =>
      have hz : (k : Int) < 3 := by omega
      have h2' := h2 wr (B1.trans (B.mono z1))
      go_wp2_with fail
      refine h2'.mono ?_
      rintro x w2 ⟨⟨g, rfl, hgl, aG⟩, hb2⟩
      have B2 := B.trans (hb2.mono zr)
      have e2 : w2.cell? ⟨b, 2, none⟩ = some (.int .i64 0) := (B2.cell (p := ⟨b, 2, none⟩) hbl).trans c2
      have e9 := (B2.cell (p := ⟨b, 9, none⟩) hbl).trans c9
      have glt := aG.lt
      have z2 := hb2.size
      go_upto_region 7 with fail
      go_quiet (first | (go_at_call 16; refine Calls.quiet_of_same (h4 _)))
      go_wp2_with fail
      obtain ⟨wo, rfl⟩ : ∃ wo : World, wo = wr := ⟨_, rfl⟩
      go_loopg [8] sh.length (fun g2 ii wy => ∃ m : Nat, m + g2 = sh.length ∧ ii = .int .i64 (m : Int) ∧ Still w2 wy)
      case atStart => exact ⟨0, by omega, rfl, ⟨rfl, rfl, rfl, rfl⟩⟩
      case round =>
        obtain ⟨m, hm, rfl, SY⟩ := hrel
        cases gk with
        | succ g2 =>
          have hy : (m : Int) < (sh.length : Int) := by omega
          obtain ⟨u, hu⟩ : ∃ u, sh[m]? = some u := ⟨_, List.getElem?_eq_getElem (by omega)⟩
          obtain ⟨gH, rfl, hHl, hHc⟩ := HH.out m u hu
          have v1 : wr.cell? ⟨g, m, none⟩ = some (.bool u) := (SY.cell _).trans ((aG.cell m).trans (by simp [bools, hu]))
          have v9 := (SY.cell _).trans e9
          have vH : wr.cell? ⟨gH, m, none⟩ = some (.bool u) := (SY.cell _).trans ((B2.cell (p := ⟨gH, m, none⟩) hHl).trans hHc)
          go_upto_region 15 with fail
          go_quiet (fail)
          go_wp2_with fail
          go_roundg g2
          case measure => omega
          case rel => exact ⟨m + 1, by omega, by go_num, SY.drewN _⟩
        | zero =>
          have hy : ¬ ((m : Int) < (sh.length : Int)) := by omega
          have aG' : At wr g 4 (bools sh) := aG.of_block (by rw [SY.heap])
          have zy : wr.heap.size = w2.heap.size := by rw [SY.heap]
          have BY := B2.trans (SY.below _)
          by_cases hk0 : k = 0
          · subst hk0
            have hf := flags_c (lo := wo.heap.size) (L := sh.length) true (l := bools sh) (by simp [bools]) h54 aG' hgl
            go_wp2_with fail
            refine hf.mono ?_
            rintro x w4 ⟨h, rfl, T4, hb4⟩
            have B4 := BY.trans (but_below hb4 (show w1.heap.size ≤ g by omega) (show w1.heap.size ≤ wr.heap.size by omega))
            go_wp2_with fail
            go_roundg g1
            case measure => omega
            case rel => exact ⟨1, by omega, rfl, B4, Or.inr ⟨_, _, h, rfl, T4, Nat.le_refl _⟩⟩
          · have hk1 : ¬ ((k : Int) = 0) := by omega
            rcases hfst with rfl | ⟨lo, hi, h, rfl, T0, hhi⟩
            · exact absurd rfl hk0
            · have hf := flags_c (lo := wo.heap.size) (L := sh.length) false (l := bools sh) (by simp [bools]) h54 aG' hgl
              go_wp2_with fail
              refine hf.mono ?_
              rintro x w4 ⟨h', rfl, T4, hb4⟩
              have B4 := BY.trans (but_below hb4 (show w1.heap.size ≤ g by omega) (show w1.heap.size ≤ wr.heap.size by omega))
              have T0' : Three w4 lo hi h true := T0.keep fun q h1 h2 => (hb4.block q (by omega) (by omega)).trans ((by rw [SY.heap] : wr.heap[q]? = w2.heap[q]?).trans (hb2.block q (by omega)))
              have f1 := flagged_c T0'
              have f2 := flagged_c T4
              have z4 := hb4.size
              go_wp2_with fail
              refine f1.mono ?_
              rintro x w5 ⟨rfl, rfl⟩
              go_wp2_with fail
              refine f2.mono ?_
              rintro x w6 ⟨rfl, rfl⟩
              go_wp2_with fail
              go_roundg g1
              case measure => omega
              case rel => exact ⟨k + 1, by omega, by go_num, B4, Or.inr ⟨lo, hi, h, rfl, T0', by omega⟩⟩
end Go.Proofs.YtejbgcloblpbfaaGreatDoor
