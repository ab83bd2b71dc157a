import Derived.Test.YtjgiefnjmngdkaaGreatDoorW2
import Derived.Test.YtjgiefnjmngdkaaGreatDoorM28
namespace Go.Proofs.YtjgiefnjmngdkaaGreatDoor
open Go.RowKit
open K (Nm Ex Do)

set_option maxHeartbeats 400000 in
theorem run_err {s : ByteArray} {w : World} {E Q : Int} {mv : Value} (aM : Option Addr) (nM cM : Nat) (hmv : mv = .slice aM nM cM) (hE : ¬ E = 0) (hr : Calls Tryz.prog 40 #[.string s] w fun x w' => x = .returned (.tuple #[zeroP, .int .i64 E, .int .i64 Q]) ∧ Below w.heap.size w w') :
    Calls Tryz.prog 21 #[.string s, mv] w fun x w' => x = .returned (.tuple #[.slice none 0 0, .int .i64 E]) ∧ Below w.heap.size w w' := by
  subst hmv
  unfold zeroP at hr
  go_enter Tryz.func21, Tryz.ntmps21
  go_wp2_with fail
  refine hr.mono ?_
  rintro x w1 ⟨rfl, hb⟩
  go_wp2_with fail
  go_ret2
  exact ⟨rfl, hb.alloc hb.size _⟩

set_option maxHeartbeats 400000 in
theorem run_arg {s : ByteArray} {w : World} {N : Nat} {aM : Option Addr} {nM cM : Nat} (hne : ¬ nM = N) (hr : Calls Tryz.prog 40 #[.string s] w fun x w' => (∃ na nn nc da dn dc, x = .returned (.tuple #[.agg #[.slice na nn nc, .int .i64 (N : Int), .slice da dn dc], .int .i64 0, .int .i64 0])) ∧ Below w.heap.size w w') :
    Calls Tryz.prog 21 #[.string s, .slice aM nM cM] w fun x w' => x = .returned (.tuple #[.slice none 0 0, .int .i64 8]) ∧ Below w.heap.size w w' := by
  have hz : ¬ ((nM : Int) = (N : Int)) := by omega
  go_enter Tryz.func21, Tryz.ntmps21
  go_wp2_with fail
  refine hr.mono ?_
  rintro x w1 ⟨⟨na, nn, nc, da, dn, dc, rfl⟩, hb⟩
  have aA := At.alloc_new w1 [.slice na nn nc, .int .i64 (N : Int), .slice da dn dc] 84
  go_wp2_with fail
  go_ret2
  exact ⟨rfl, hb.alloc hb.size _⟩

set_option maxHeartbeats 1000000 in
theorem run_go {s : ByteArray} {w : World} {N : Nat} (hN : N ≤ 54) (ms : List Int) (hms : ms.length = N) (l : List Do) (hwf : V.wfL (N + 2) l) {aM : Option Addr} {cM : Nat}
    (hM : ∀ (j : Nat) u, ms[j]? = some u → ∃ gm o, aM = some ⟨gm, o, none⟩ ∧ gm < w.heap.size ∧ w.cell? ⟨gm, o + j, none⟩ = some (.int .i64 u))
    (hr : Calls Tryz.prog 40 #[.string s] w fun x w' => (∃ na nn nc da dn dc us, x = .returned (.tuple #[.agg #[.slice na nn nc, .int .i64 (N : Int), .slice da dn dc], .int .i64 0, .int .i64 0]) ∧ DRow (From w.heap.size) w' (.slice da dn dc) us ∧ Each (From w.heap.size) w' l us) ∧ Below w.heap.size w w') :
    Calls Tryz.prog 21 #[.string s, .slice aM N cM] w fun x w' => (∃ g, x = .returned (.tuple #[.slice (some ⟨g, 0, none⟩) N N, .int .i64 0]) ∧ w.heap.size ≤ g ∧ At w' g 3 (((V.rds l (ms ++ [0, 0])).take N).map fun n => .int .i64 n)) ∧ Below w.heap.size w w' := by
  go_enter Tryz.func21, Tryz.ntmps21
  go_wp2_with fail
  refine hr.mono ?_
  rintro x w1 ⟨⟨na, nn, nc, da, dn, dc, us, rfl, dr, de⟩, hb⟩
  have aA := At.alloc_new w1 [.slice na nn nc, .int .i64 (N : Int), .slice da dn dc] 84
  have B1 := hb.alloc hb.size (.cells #[.slice na nn nc, .int .i64 (N : Int), .slice da dn dc] 84 (0, 0))
  have zz := hb.size
  have kp : ∀ k, k < w1.heap.size → k < w1.heap.size → (w1.alloc (.cells #[.slice na nn nc, .int .i64 (N : Int), .slice da dn dc] 84 (0, 0))).heap[k]? = w1.heap[k]? := fun k h _ => heap_alloc_old _ _ _ h
  have dr1 := ((dr.lower (B' := fun k => k < w1.heap.size) fun k _ h => h).keep kp).lower (B' := fun k => k < (w1.alloc (.cells #[.slice na nn nc, .int .i64 (N : Int), .slice da dn dc] 84 (0, 0))).heap.size) fun k _ h => h
  have de1 := ((de.lower (B' := fun k => k < w1.heap.size) fun k _ h => h).keep kp).lower (B' := fun k => k < (w1.alloc (.cells #[.slice na nn nc, .int .i64 (N : Int), .slice da dn dc] 84 (0, 0))).heap.size) fun k _ h => h
  have hp := prog_c N hN ms hms l hwf na nn nc da dn dc aM cM us _ dr1 de1 (fun j u hu => by
    obtain ⟨gm, o, e, hg, hc⟩ := hM j u hu
    exact ⟨gm, o, e, Nat.lt_of_lt_of_le hg B1.size, (B1.cell (p := ⟨gm, o + j, none⟩) hg).trans hc⟩)
  clear dr1 de1 kp
  go_wp2_with fail
  refine hp.mono ?_
  rintro x w3 ⟨⟨g, rfl, hg, aG⟩, hb3⟩
  go_wp2_with fail
  go_ret2
  refine ⟨⟨g, rfl, ?_, aG⟩, B1.trans (hb3.mono B1.size)⟩
  have := B1.size
  omega
end Go.Proofs.YtjgiefnjmngdkaaGreatDoor
