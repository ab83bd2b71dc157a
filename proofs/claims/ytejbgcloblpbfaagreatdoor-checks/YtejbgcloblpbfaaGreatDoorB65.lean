import Derived.Test.YtejbgcloblpbfaaGreatDoorB61
import Derived.Test.YtejbgcloblpbfaaGreatDoorB64
import Derived.Test.YtejbgcloblpbfaaGreatDoorB31
import Derived.Test.YtejbgcloblpbfaaGreatDoorB30
import Derived.Test.YtejbgcloblpbfaaGreatDoorB43
import Derived.Deep.QuietTactic
import Derived.BigQuiet
import Derived.Deep.CutBlock
import Derived.Test.YtejbgcloblpbfaaGreatDoorB44
import Derived.Test.YtejbgcloblpbfaaGreatDoorB12
namespace Go.Proofs.YtejbgcloblpbfaaGreatDoor
open Go.RowKit
theorem read_c (s : ByteArray) (w : World) (hs : s.size ≤ 800) :
    Calls Tryz.prog 15 #[.string s] w fun x w' => ∃ b r, x = .returned (P b) ∧ Rd w w' b (R.toks s) (R.readT (R.toks s)) r :=
  read_short s w hs (doesAll_c (R.toks_small (by omega)) (R.toks_ended s) 12)
end Go.Proofs.YtejbgcloblpbfaaGreatDoor
namespace Go.Proofs.YtejbgcloblpbfaaGreatDoor
open Go.RowKit
theorem check_all (s : ByteArray) (w : World) (hm : s.size ≤ maxLen) (hv : K.Vars w) (hw : 5 ≤ w.heap.size) :
    Calls Tryz.prog 14 #[.string s] w fun x w' => x = .returned (.tuple #[.int .i64 (R.read s).err, .int .i64 (R.read s).place]) ∧ Below w.heap.size w w' := by
  have h := check_c (fun l hl => gds_of l (gdl_c l hl)) s w hm hv hw
  rw [Q.check_read (R.toks_ended s)] at h
  exact h
theorem read_all (s : ByteArray) (w : World) (hm : s.size ≤ maxLen) :
    Calls Tryz.prog 15 #[.string s] w fun x w' => ∃ b, x = .returned (P b) ∧ Own w w' ∧ w'.cell? ⟨b, 2, none⟩ = some (.int .i64 (R.read s).err) ∧ w'.cell? ⟨b, 3, none⟩ = some (.int .i64 (R.read s).place) := by
  by_cases hs : 800 < s.size
  · have e : R.read s = R.fail 1 0 R.start := by unfold R.read; rw [if_pos hs]
    rw [e]
    exact (read_long s w hs hm).mono fun x w' ⟨b, hx, ho, _, hc⟩ => ⟨b, hx, ho, hc.cell 2, hc.cell 3⟩
  · have e : R.read s = R.readT (R.toks s) := by unfold R.read; rw [if_neg hs]
    rw [e]
    exact (read_c s w (by omega)).mono fun x w' ⟨b, r, hx, h⟩ => ⟨b, hx, h.own, h.rep.c1 2 _ rfl, h.rep.c1 3 _ rfl⟩
theorem Own.below {w w' : World} (h : Own w w') : Below w.heap.size w w' := ⟨h.os, h.tape, h.output, h.size, h.block⟩
theorem below_drewN' {B : Nat} {w w' : World} (h : Below B w w') (n : Nat) : Below B w (w'.drewN n) := ⟨h.os, h.tape, h.output, h.size, h.block⟩
theorem K.Vars.below {w w' : World} {b : Nat} (h : K.Vars w) (hb : Below b w w') (h2 : 5 ≤ b) : K.Vars w' := by
  obtain ⟨⟨e0, a1, a2⟩, ⟨e1, c1, c2⟩⟩ := h
  exact ⟨⟨e0, (hb.cell (p := ⟨3, 0, none⟩) (show 3 < b by omega)).trans a1, a2⟩, ⟨e1, (hb.cell (p := ⟨4, 0, none⟩) (show 4 < b by omega)).trans c1, c2⟩⟩
abbrev oneS : ByteArray := { data := #[40, 115, 101, 99, 114, 101, 116, 32, 107, 41, 40, 115, 101, 116, 32, 107, 32, 49, 41] }
abbrev twoS : ByteArray := { data := #[40, 115, 101, 116, 32, 120, 32, 49, 41] }
theorem one_err : (R.read oneS).err = 0 := by decide +kernel
theorem one_place : (R.read oneS).place = 0 := by decide +kernel
theorem two_err : (R.read twoS).err = 3 := by decide +kernel
theorem two_place : (R.read twoS).place = 5 := by decide +kernel
set_option maxHeartbeats 400000 in
theorem right_c (w : World) (hv : K.Vars w) (hw : 5 ≤ w.heap.size) : Calls Tryz.prog 13 #[] w fun x w' => x = .returned (.bool true) ∧ Below w.heap.size w w' := by
  have h1 := check_all oneS w (by decide) hv hw
  rw [one_err, one_place] at h1
  have h2 := fun (w' : World) (hb : Below w.heap.size w w') => check_all twoS w' (by decide) (hv.below hb hw) (Nat.le_trans hw hb.size)
  rw [two_err, two_place] at h2
  go_enter Tryz.func13, Tryz.ntmps13
  go_wp2_with fail
  refine h1.mono ?_
  rintro x w1 ⟨rfl, hb1⟩
  go_wp2_with fail
  refine (h2 w1 hb1).mono ?_
  rintro x w2 ⟨rfl, hb2⟩
  go_wp2_with fail
  go_ret
  exact ⟨rfl, hb1.trans (hb2.mono hb1.size)⟩
theorem num_c (n : Int) (w : World) : Calls Tryz.prog 16 #[.int .i64 n] w fun x w' => x = .returned (.int .i64 n) ∧ w' = w := by
  go_enter Tryz.func16, Tryz.ntmps16
  go_wp2_with fail
  go_ret
  exact ⟨rfl, rfl⟩
set_option maxRecDepth 100000 in
set_option maxHeartbeats 2000000 in
theorem checks_c (s : ByteArray) (w : World) (hm : s.size ≤ maxLen) (hv : K.Vars w) (hw : 5 ≤ w.heap.size) :
    Calls Tryz.prog 3 #[.string s] w fun x w' => x = .returned (.bool true) ∧ Below w.heap.size w w' := by
  have h1 := right_c w hv hw
  have h2 := fun (w' : World) (hb : Below w.heap.size w w') => check_all s w' hm (hv.below hb hw) (Nat.le_trans hw hb.size)
  have h3 := fun (w' : World) => read_all s w' hm
  have h4 := fun (w' : World) => num_c (R.read s).err w'
  generalize (R.read s).err = E at *
  generalize (R.read s).place = Q at *
  go_enter Tryz.func3, Tryz.ntmps3
  go_wp2_with fail
  refine h1.mono ?_
  rintro x w1 ⟨rfl, hb1⟩
  go_wp2_with fail
  refine (h2 w1 hb1).mono ?_
  rintro x w2 ⟨rfl, hb2⟩
  have B2 := hb1.trans (hb2.mono hb1.size)
  go_wp2_with fail
  refine (h3 w2).mono ?_
  rintro x w3 ⟨b, rfl, ho, c2, c3⟩
  have B3 := B2.trans (ho.below.mono B2.size)
  go_upto_region 4 with fail
  go_quiet (first | (go_at_call 16; refine Calls.quiet_of_same (h4 _)))
  go_wp2_with fail
  go_ret
  exact ⟨rfl, below_drewN' B3 _⟩
end Go.Proofs.YtejbgcloblpbfaaGreatDoor
namespace Go.Proofs.YtejbgcloblpbfaaGreatDoor
open Go.RowKit
theorem read_shape (s : ByteArray) (w : World) (hm : s.size ≤ maxLen) :
    Calls Tryz.prog 15 #[.string s] w fun x w' => ∃ b, x = .returned (P b) ∧ Below w.heap.size w w' ∧ b < w'.heap.size ∧ w'.cell? ⟨b, 2, none⟩ = some (.int .i64 (R.read s).err) ∧
      ((R.read s).err = 0 → ∃ H, w'.cell? ⟨b, 9, none⟩ = some H ∧ w'.ownsRow 0 4 1 H (R.read s).shape.length (bools (R.read s).shape)) := by
  by_cases hs : 800 < s.size
  · have e : R.read s = R.fail 1 0 R.start := by unfold R.read; rw [if_pos hs]
    rw [e]
    exact (read_long s w hs hm).mono fun x w' ⟨b, hx, ho, _, hc⟩ => ⟨b, hx, ho.below, hc.lt, hc.cell 2, fun h => absurd h (by decide)⟩
  · have e : R.read s = R.readT (R.toks s) := by unfold R.read; rw [if_neg hs]
    rw [e]
    exact (read_c s w (by omega)).mono fun x w' ⟨b, r, hx, h⟩ => ⟨b, hx, h.own.below, h.rep.cells.lt, h.rep.c1 2 _ rfl, fun _ => ⟨r.H, h.rep.c1 9 _ rfl, h.rep.shape⟩⟩
abbrev threeS : ByteArray := { data := #[40, 112, 117, 98, 108, 105, 99, 32, 97, 41, 40, 115, 101, 99, 114, 101, 116, 32, 98, 41] }
theorem three_err : (R.read threeS).err = 0 := by decide +kernel
theorem three_shape : (R.read threeS).shape = [false, true] := by decide +kernel
theorem three_c (w : World) (hv : K.Vars w) (hw : 5 ≤ w.heap.size) :
    Calls Tryz.prog 17 #[.string threeS] w fun x w' => (∃ g, x = .returned (.tuple #[.slice (some ⟨g, 0, none⟩) 2 2, .int .i64 0]) ∧ At w' g 4 [.bool false, .bool true]) ∧ Below w.heap.size w w' := by
  refine (shape_c threeS w (by decide) hv hw).mono fun x w' h => ⟨?_, h.2⟩
  rcases h.1 with ⟨h1, _⟩ | ⟨_, g, h1, _, h2⟩
  · exact absurd three_err h1
  · rw [three_shape] at h1 h2
    exact ⟨g, h1, h2⟩
theorem shapes_c (s : ByteArray) (w : World) (hm : s.size ≤ maxLen) (hv : K.Vars w) (hw : 5 ≤ w.heap.size) :
    Calls Tryz.prog 4 #[.string s] w fun x w' => x = .returned (.bool true) ∧ Below w.heap.size w w' := by
  have h1 := read_shape s w hm
  have h2 := fun (w' : World) (hb : Below w.heap.size w w') => shape_c s w' hm (hv.below hb hw) (Nat.le_trans hw hb.size)
  have h3 := fun (w' : World) (hb : Below w.heap.size w w') => three_c w' (hv.below hb hw) (Nat.le_trans hw hb.size)
  by_cases he : (R.read s).err = 0
  · have hs : s.size ≤ 800 := by
      refine Nat.le_of_not_lt fun hl => ?_
      rw [read_long_err hl] at he
      exact absurd he (by decide)
    obtain ⟨_, _, _, _, p5, _⟩ := Q.shape_ok hs he
    refine shapes_good p5 rfl (h1.mono fun x w' ⟨b, hx, hb, hl, c2, hH⟩ => ?_) (fun w' hb => (h2 w' hb).mono fun x w'' h => ⟨?_, h.2⟩) h3
    · obtain ⟨H, c9, rH⟩ := hH he
      exact ⟨b, H, hx, hb, hl, by rw [c2, he], c9, rH⟩
    · rcases h.1 with ⟨e, _⟩ | ⟨_, g, e1, e2, e3⟩
      · exact absurd he e
      · exact ⟨g, e1, e2, e3⟩
  · refine shapes_bad he rfl (h1.mono fun x w' ⟨b, hx, hb, hl, c2, _⟩ => ⟨b, hx, hb, hl, c2⟩) (fun w' hb => (h2 w' hb).mono fun x w'' h => ⟨?_, h.2⟩) h3
    rcases h.1 with ⟨_, e⟩ | ⟨e, _⟩
    · exact e
    · exact absurd e he
end Go.Proofs.YtejbgcloblpbfaaGreatDoor
