import Derived.Test.YtejbgcloblpbfaaGreatDoorB57
import Derived.Test.YtejbgcloblpbfaaGreatDoorB59
import Derived.Test.YtejbgcloblpbfaaGreatDoorB31
import Derived.Test.YtejbgcloblpbfaaGreatDoorB30
import Derived.Test.YtejbgcloblpbfaaGreatDoorB43
import Derived.Deep.QuietTactic
import Derived.BigQuiet
import Derived.Deep.CutBlock
namespace Go.Proofs.YtejbgcloblpbfaaGreatDoor
open Go.RowKit
theorem read_c (s : ByteArray) (w : World) (hs : s.size ≤ 800) :
    Calls Tryz.prog 15 #[.string s] w fun x w' => ∃ b r, x = .returned (P b) ∧ Rd w w' b (R.toks s) (R.readT (R.toks s)) r :=
  read_short s w hs (doesAll_c (R.toks_small (by omega)) (R.toks_ended s) 12)
end Go.Proofs.YtejbgcloblpbfaaGreatDoor
namespace Go.Proofs.YtejbgcloblpbfaaGreatDoor
open Go.RowKit
theorem check_all (s : ByteArray) (w : World) (hm : s.size ≤ maxLen) (hv : K.Vars w) (hw : 5 ≤ w.heap.size) :
    Calls Tryz.prog 14 #[.string s] w fun x w' => x = .returned (.tuple #[.int .i64 (R.read s).err, .int .i64 (R.read s).place]) ∧ Below w.heap.size w w' := by
  have h := check_c (fun l hl => gds_of l (gdl_c l hl)) s w hm hv hw
  rw [Q.check_read (R.toks_ended s)] at h
  exact h
theorem read_all (s : ByteArray) (w : World) (hm : s.size ≤ maxLen) :
    Calls Tryz.prog 15 #[.string s] w fun x w' => ∃ b, x = .returned (P b) ∧ Own w w' ∧ w'.cell? ⟨b, 2, none⟩ = some (.int .i64 (R.read s).err) ∧ w'.cell? ⟨b, 3, none⟩ = some (.int .i64 (R.read s).place) := by
  by_cases hs : 800 < s.size
  · have e : R.read s = R.fail 1 0 R.start := by unfold R.read; rw [if_pos hs]
    rw [e]
    exact (read_long s w hs hm).mono fun x w' ⟨b, hx, ho, _, hc⟩ => ⟨b, hx, ho, hc.cell 2, hc.cell 3⟩
  · have e : R.read s = R.readT (R.toks s) := by unfold R.read; rw [if_neg hs]
    rw [e]
    exact (read_c s w (by omega)).mono fun x w' ⟨b, r, hx, h⟩ => ⟨b, hx, h.own, h.rep.c1 2 _ rfl, h.rep.c1 3 _ rfl⟩
theorem Own.below {w w' : World} (h : Own w w') : Below w.heap.size w w' := ⟨h.os, h.tape, h.output, h.size, h.block⟩
theorem below_drewN' {B : Nat} {w w' : World} (h : Below B w w') (n : Nat) : Below B w (w'.drewN n) := ⟨h.os, h.tape, h.output, h.size, h.block⟩
theorem K.Vars.below {w w' : World} {b : Nat} (h : K.Vars w) (hb : Below b w w') (h2 : 5 ≤ b) : K.Vars w' := by
  obtain ⟨⟨e0, a1, a2⟩, ⟨e1, c1, c2⟩⟩ := h
  exact ⟨⟨e0, (hb.cell (p := ⟨3, 0, none⟩) (show 3 < b by omega)).trans a1, a2⟩, ⟨e1, (hb.cell (p := ⟨4, 0, none⟩) (show 4 < b by omega)).trans c1, c2⟩⟩
abbrev oneS : ByteArray := { data := #[40, 115, 101, 99, 114, 101, 116, 32, 107, 41, 40, 115, 101, 116, 32, 107, 32, 49, 41] }
abbrev twoS : ByteArray := { data := #[40, 115, 101, 116, 32, 120, 32, 49, 41] }
theorem one_err : (R.read oneS).err = 0 := by decide +kernel
theorem one_place : (R.read oneS).place = 0 := by decide +kernel
theorem two_err : (R.read twoS).err = 3 := by decide +kernel
theorem two_place : (R.read twoS).place = 5 := by decide +kernel
set_option maxHeartbeats 400000 in
theorem right_c (w : World) (hv : K.Vars w) (hw : 5 ≤ w.heap.size) : Calls Tryz.prog 13 #[] w fun x w' => x = .returned (.bool true) ∧ Below w.heap.size w w' := by
  have h1 := check_all oneS w (by decide) hv hw
  rw [one_err, one_place] at h1
  have h2 := fun (w' : World) (hb : Below w.heap.size w w') => check_all twoS w' (by decide) (hv.below hb hw) (Nat.le_trans hw hb.size)
  rw [two_err, two_place] at h2
  go_enter Tryz.func13, Tryz.ntmps13
  go_wp2_with fail
  refine h1.mono ?_
  rintro x w1 ⟨rfl, hb1⟩
  go_wp2_with fail
  refine (h2 w1 hb1).mono ?_
  rintro x w2 ⟨rfl, hb2⟩
  go_wp2_with fail
  go_ret
  exact ⟨rfl, hb1.trans (hb2.mono hb1.size)⟩
theorem num_c (n : Int) (w : World) : Calls Tryz.prog 16 #[.int .i64 n] w fun x w' => x = .returned (.int .i64 n) ∧ w' = w := by
  go_enter Tryz.func16, Tryz.ntmps16
  go_wp2_with fail
  go_ret
  exact ⟨rfl, rfl⟩
set_option maxRecDepth 100000 in
set_option maxHeartbeats 2000000 in
theorem checks_c (s : ByteArray) (w : World) (hm : s.size ≤ maxLen) (hv : K.Vars w) (hw : 5 ≤ w.heap.size) :
    Calls Tryz.prog 3 #[.string s] w fun x w' => x = .returned (.bool true) ∧ Below w.heap.size w w' := by
  have h1 := right_c w hv hw
  have h2 := fun (w' : World) (hb : Below w.heap.size w w') => check_all s w' hm (hv.below hb hw) (Nat.le_trans hw hb.size)
  have h3 := fun (w' : World) => read_all s w' hm
  have h4 := fun (w' : World) => num_c (R.read s).err w'
  generalize (R.read s).err = E at *
  generalize (R.read s).place = Q at *
  go_enter Tryz.func3, Tryz.ntmps3
  go_wp2_with fail
  refine h1.mono ?_
  rintro x w1 ⟨rfl, hb1⟩
  go_wp2_with fail
  refine (h2 w1 hb1).mono ?_
  rintro x w2 ⟨rfl, hb2⟩
  have B2 := hb1.trans (hb2.mono hb1.size)
  go_wp2_with fail
  refine (h3 w2).mono ?_
  rintro x w3 ⟨b, rfl, ho, c2, c3⟩
  have B3 := B2.trans (ho.below.mono B2.size)
  go_upto_region 4 with fail
  go_quiet (first | (go_at_call 16; refine Calls.quiet_of_same (h4 _)))
  go_wp2_with fail
  go_ret
  exact ⟨rfl, below_drewN' B3 _⟩
end Go.Proofs.YtejbgcloblpbfaaGreatDoor
