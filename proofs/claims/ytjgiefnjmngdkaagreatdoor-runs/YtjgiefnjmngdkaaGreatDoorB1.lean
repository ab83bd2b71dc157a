import Derived.Test.YtjgiefnjmngdkaaGreatDoorE2
import Derived.Test.YtjgiefnjmngdkaaGreatDoorS2
import Derived.Lib.SliceRun
namespace Go.Proofs.YtjgiefnjmngdkaaGreatDoor
open Go.RowKit

/-- Two rows of words lie so: at each number below the length a word. -/
def IntsFrom (w : World) (a : Option Addr) (l : List Int) : Prop := ∀ (j : Nat) u, l[j]? = some u → ∃ g o, a = some ⟨g, o, none⟩ ∧ w.cell? ⟨g, o + j, none⟩ = some (.int .i64 u)

set_option maxHeartbeats 1000000 in
theorem same_c {l : List Int} {w : World} {a b : Option Addr} {ca cb : Nat} (h54 : l.length ≤ 1000) (ha : IntsFrom w a l) (hb : IntsFrom w b l) :
    Calls Tryz.prog 22 #[.slice a l.length ca, .slice b l.length cb] w fun x w' => x = .returned (.bool true) ∧ Still w w' := by
  have HA := hide ha
  have HB := hide hb
  clear ha hb
  go_enter Tryz.func22, Tryz.ntmps22
  go_wp2_with fail
  go_loopg [5] l.length (fun gk i wr => ∃ k : Nat, k + gk = l.length ∧ i = .int .i64 (k : Int) ∧ Still w wr)
  case atStart => exact ⟨0, by omega, rfl, ⟨rfl, rfl, rfl, rfl⟩⟩
  case round =>
    obtain ⟨k, hk, rfl, hs⟩ := hrel
    cases gk with
    | zero =>
      have hz : ¬ ((k : Int) < (l.length : Int)) := by omega
      go_wp2_with fail
      go_ret
      exact ⟨rfl, hs⟩
    | succ g1 =>
      have hz : (k : Int) < (l.length : Int) := by omega
      obtain ⟨u, hu⟩ : ∃ u, l[k]? = some u := ⟨_, List.getElem?_eq_getElem (by omega)⟩
      obtain ⟨ga, oa, rfl, c1⟩ := HA.out k u hu
      obtain ⟨gb, ob, rfl, c2⟩ := HB.out k u hu
      rw [← hs.cell] at c1 c2
      go_wp2_with (go_quiet (fail))
      go_roundg g1
      case measure => omega
      case rel => exact ⟨k + 1, by omega, by go_num, hs.drewN _⟩
end Go.Proofs.YtjgiefnjmngdkaaGreatDoor
namespace Go.Proofs.YtjgiefnjmngdkaaGreatDoor
open Go.RowKit

theorem mark_c (n : Int) (h0 : 0 ≤ n) (h1 : n ≤ 100000) (w : World) : Calls Tryz.prog 49 #[.int .i64 n] w fun x w' => x = .returned (.int .i64 (-7000 - n)) ∧ w' = w := by
  have e : IntKind.i64.wrap (-7000 - n) = -7000 - n := k64 _ (by omega)
  go_enter Tryz.func49, Tryz.ntmps49
  go_wp2_with fail
  go_ret
  exact ⟨by first | rfl | (rw [e]) | (simp [e]), rfl⟩

set_option maxRecDepth 20000 in
theorem kept_nil (w : World) : Calls Tryz.prog 25 #[.slice none 0 0, .slice none 0 0] w fun x w' => x = .returned (.bool true) ∧ w' = w := by
  have hn : ∀ w : World, (binOp .eql 32 (.slice none 0 0) (.slice none 0 0)).run Tryz.prog w = .ok (.bool true) w := fun w => Lib.run_eql_slice_nil w _ _ none 0 0 0 0 Tryz.underlying32
  go_enter Tryz.func25, Tryz.ntmps25
  go_wp2_with fail
  go_ret
  exact ⟨rfl, rfl⟩

set_option maxRecDepth 20000 in
set_option maxHeartbeats 1000000 in
theorem kept_c {ms : List Int} {w : World} {g gm om c cm : Nat} (hm : ms.length + 8 ≤ maxLen) (hc : ms.length + 8 ≤ c) (hM : IntsFrom w (some ⟨gm, om, none⟩) ms) (hA : IntsFrom w (some ⟨g, 0, none⟩) (ms ++ List.replicate 8 (-77))) :
    Calls Tryz.prog 25 #[.slice (some ⟨g, 0, none⟩) ms.length c, .slice (some ⟨gm, om, none⟩) ms.length cm] w fun x w' => x = .returned (.bool true) ∧ Still w w' := by
  unfold maxLen at hm
  have HA := hide hA
  have HM := hide hM
  clear hA hM
  have e8 : IntKind.i64.wrap ((ms.length : Int) + 8) = ((ms.length + 8 : Nat) : Int) := by rw [k64 _ (by omega)]; omega
  have hn : ∀ w : World, (binOp .eql 32 (.slice (some ⟨gm, om, none⟩) ms.length cm) (.slice none 0 0)).run Tryz.prog w = .ok (.bool false) w := fun w => Lib.run_eql_slice_nil w _ _ (some ⟨gm, om, none⟩) ms.length cm 0 0 Tryz.underlying32
  go_enter Tryz.func25, Tryz.ntmps25
  go_wp2_with fail
  go_loopg [6, 7] (ms.length + 8) (fun gk i _ wr => ∃ k : Nat, k + gk = ms.length + 8 ∧ i = .int .i64 (k : Int) ∧ Still w wr)
  case atStart => exact ⟨0, by omega, rfl, ⟨rfl, rfl, rfl, rfl⟩⟩
  case round =>
    obtain ⟨k, hk, rfl, hs⟩ := hrel
    cases gk with
    | zero =>
      have hz : ¬ ((k : Int) < ((ms.length + 8 : Nat) : Int)) := by omega
      go_wp2_with fail
      go_ret
      exact ⟨rfl, hs⟩
    | succ g1 =>
      have hz : (k : Int) < ((ms.length + 8 : Nat) : Int) := by omega
      by_cases hy : k < ms.length
      · have hy' : (k : Int) < (ms.length : Int) := by omega
        obtain ⟨u, hu⟩ : ∃ u, ms[k]? = some u := ⟨_, List.getElem?_eq_getElem hy⟩
        obtain ⟨_, _, e1, c1⟩ := HM.out k u hu
        cases e1
        obtain ⟨_, _, e2, c2⟩ := HA.out k u (by rw [List.getElem?_append_left hy]; exact hu)
        cases e2
        rw [← hs.cell] at c1 c2
        rw [Nat.zero_add] at c2
        go_wp2_with (go_quiet (fail))
        go_roundg g1
        case measure => omega
        case rel => exact ⟨k + 1, by omega, by go_num, by first | exact hs.drewN _ | exact hs⟩
      · have hy' : ¬ (k : Int) < (ms.length : Int) := by omega
        obtain ⟨_, _, e2, c2⟩ := HA.out k (-77) (by rw [List.getElem?_append_right (by omega), List.getElem?_replicate, if_pos (by omega)])
        cases e2
        rw [← hs.cell, Nat.zero_add] at c2
        go_wp2_with (go_quiet (fail))
        go_roundg g1
        case measure => omega
        case rel => exact ⟨k + 1, by omega, by go_num, by first | exact hs.drewN _ | exact hs⟩
end Go.Proofs.YtjgiefnjmngdkaaGreatDoor
