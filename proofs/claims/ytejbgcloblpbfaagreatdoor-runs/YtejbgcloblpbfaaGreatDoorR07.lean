import Derived.Test.YtejbgcloblpbfaaGreatDoorR04
namespace Go.Proofs.YtejbgcloblpbfaaGreatDoor
open Go.RowKit
open R (Tok)
theorem le_u8 (c : UInt8) (a : Nat) : decide ((a : Int) ≤ (c.toNat : Int)) = decide (a ≤ c.toNat) := by
  rw [decide_eq_decide]; omega
theorem u8_le (c : UInt8) (a : Nat) : decide ((c.toNat : Int) ≤ (a : Int)) = decide (c.toNat ≤ a) := by
  rw [decide_eq_decide]; omega
set_option maxHeartbeats 400000 in
theorem isLetter_c (c : UInt8) (w : World) : Calls Tryz.prog 199 #[.int .u8 c.toNat] w fun x w' => x = .returned (.bool (R.low c)) ∧ w' = w := by
  have HK : Hid (R.low c = decide (97 ≤ c.toNat ∧ c.toNat ≤ 122)) := rfl
  generalize R.low c = q at *
  by_cases h1 : (97 : Int) ≤ (c.toNat : Int)
  · by_cases h2 : (c.toNat : Int) ≤ 122
    · have e : q = true := by rw [HK.out]; simp; omega
      subst e
      go_enter Tryz.func199, Tryz.ntmps199
      go_wp2
      go_ret
      exact ⟨rfl, rfl⟩
    · have e : q = false := by rw [HK.out]; simp; omega
      subst e
      go_enter Tryz.func199, Tryz.ntmps199
      go_wp2
      go_ret
      exact ⟨rfl, rfl⟩
  · have e : q = false := by rw [HK.out]; simp; omega
    subst e
    go_enter Tryz.func199, Tryz.ntmps199
    go_wp2
    go_ret
    exact ⟨rfl, rfl⟩
set_option maxHeartbeats 400000 in
theorem isDigit_c (c : UInt8) (w : World) : Calls Tryz.prog 216 #[.int .u8 c.toNat] w fun x w' => x = .returned (.bool (R.dig c)) ∧ w' = w := by
  have HK : Hid (R.dig c = decide (48 ≤ c.toNat ∧ c.toNat ≤ 57)) := rfl
  generalize R.dig c = q at *
  by_cases h1 : (48 : Int) ≤ (c.toNat : Int)
  · by_cases h2 : (c.toNat : Int) ≤ 57
    · have e : q = true := by rw [HK.out]; simp; omega
      subst e
      go_enter Tryz.func216, Tryz.ntmps216
      go_wp2
      go_ret
      exact ⟨rfl, rfl⟩
    · have e : q = false := by rw [HK.out]; simp; omega
      subst e
      go_enter Tryz.func216, Tryz.ntmps216
      go_wp2
      go_ret
      exact ⟨rfl, rfl⟩
  · have e : q = false := by rw [HK.out]; simp; omega
    subst e
    go_enter Tryz.func216, Tryz.ntmps216
    go_wp2
    go_ret
    exact ⟨rfl, rfl⟩
end Go.Proofs.YtejbgcloblpbfaaGreatDoor
namespace Go.Proofs.YtejbgcloblpbfaaGreatDoor
open Go.RowKit
open R (Tok)
def K.madeOf (p : UInt8 → Bool) (most : Nat) (s : ByteArray) : Bool := decide (1 ≤ s.size) && (decide (s.size ≤ most) && s.data.toList.all p)
theorem all_drop_step {p : UInt8 → Bool} {s : ByteArray} {k : Nat} (h : k < s.size) : (s.data.toList.drop k).all p = (p s[k] && (s.data.toList.drop (k + 1)).all p) := by
  rw [K.drop_cons s k h, List.all_cons]
theorem all_drop_end {p : UInt8 → Bool} {s : ByteArray} {k : Nat} (h : ¬ k < s.size) : (s.data.toList.drop k).all p = true := by
  rw [List.drop_eq_nil_of_le (by have : s.data.toList.length = s.size := rfl; omega)]
  rfl
set_option maxHeartbeats 400000 in
theorem madeOf_letter (s : ByteArray) (most : Nat) (w : World) (hs : s.size ≤ 1000) (hm : most ≤ 1000) :
    Calls Tryz.prog 198 #[.string s, .int .i64 (most : Int), .func (.func 199) #[] #[]] w fun x w' => x = .returned (.bool (K.madeOf R.low most s)) ∧ w' = w := by
  have HK : Hid (K.madeOf R.low most s = (decide (1 ≤ s.size) && (decide (s.size ≤ most) && s.data.toList.all R.low))) := rfl
  generalize K.madeOf R.low most s = q at *
  by_cases h1 : (s.size : Int) < 1
  · have e : q = false := by rw [HK.out, decide_eq_false (by omega)]; rfl
    subst e
    go_enter Tryz.func198, Tryz.ntmps198
    go_wp2_with fail
    go_ret
    exact ⟨rfl, rfl⟩
  · by_cases h2 : (most : Int) < (s.size : Int)
    · have e : q = false := by rw [HK.out, decide_eq_false (by omega : ¬ s.size ≤ most)]; simp
      subst e
      go_enter Tryz.func198, Tryz.ntmps198
      go_wp2_with fail
      go_ret
      exact ⟨rfl, rfl⟩
    · have HQ : Hid (q = (s.data.toList.drop 0).all R.low) := by show _ = _; rw [HK.out, decide_eq_true (by omega : 1 ≤ s.size), decide_eq_true (by omega : s.size ≤ most)]; rfl
      clear HK
      go_enter Tryz.func198, Tryz.ntmps198
      go_wp2_with fail
      go_loop [7, 19] (fun _ i => ∃ k : Nat, k ≤ s.size ∧ i = .int .i64 (k : Int) ∧ Hid (q = (s.data.toList.drop k).all R.low)) (fun _ i => s.size - (intOf i).toNat)
      case atStart => exact ⟨0, Nat.zero_le _, rfl, HQ⟩
      case round =>
        obtain ⟨k, hk, rfl, HR⟩ := hrel
        clear HQ
        by_cases hlt : k < s.size
        · have hc := isLetter_c s[k]
          cases e1 : R.low s[k] with
          | true =>
            rw [e1] at hc
            have HN : Hid (q = (s.data.toList.drop (k + 1)).all R.low) := by show _ = _; rw [HR.out, all_drop_step hlt, e1]; rfl
            clear HR
            go_wp2_with (go_at_call 199; refine (hc _).mono ?_; rintro x w' ⟨rfl, rfl⟩)
            go_round
            case rel => exact ⟨k + 1, by omega, by go_num, HN⟩
            case measure => simp [intOf]; omega
          | false =>
            rw [e1] at hc
            have e : q = false := by rw [HR.out, all_drop_step hlt, e1]; rfl
            subst e
            clear HR
            go_wp2_with (go_at_call 199; refine (hc _).mono ?_; rintro x w' ⟨rfl, rfl⟩)
            go_ret
            exact ⟨rfl, rfl⟩
        · have e : q = true := by rw [HR.out, all_drop_end hlt]
          subst e
          clear HR
          go_wp2_with fail
          go_ret
          exact ⟨rfl, rfl⟩
set_option maxHeartbeats 400000 in
theorem madeOf_digit (s : ByteArray) (most : Nat) (w : World) (hs : s.size ≤ 1000) (hm : most ≤ 1000) :
    Calls Tryz.prog 198 #[.string s, .int .i64 (most : Int), .func (.func 216) #[] #[]] w fun x w' => x = .returned (.bool (K.madeOf R.dig most s)) ∧ w' = w := by
  have HK : Hid (K.madeOf R.dig most s = (decide (1 ≤ s.size) && (decide (s.size ≤ most) && s.data.toList.all R.dig))) := rfl
  generalize K.madeOf R.dig most s = q at *
  by_cases h1 : (s.size : Int) < 1
  · have e : q = false := by rw [HK.out, decide_eq_false (by omega)]; rfl
    subst e
    go_enter Tryz.func198, Tryz.ntmps198
    go_wp2_with fail
    go_ret
    exact ⟨rfl, rfl⟩
  · by_cases h2 : (most : Int) < (s.size : Int)
    · have e : q = false := by rw [HK.out, decide_eq_false (by omega : ¬ s.size ≤ most)]; simp
      subst e
      go_enter Tryz.func198, Tryz.ntmps198
      go_wp2_with fail
      go_ret
      exact ⟨rfl, rfl⟩
    · have HQ : Hid (q = (s.data.toList.drop 0).all R.dig) := by show _ = _; rw [HK.out, decide_eq_true (by omega : 1 ≤ s.size), decide_eq_true (by omega : s.size ≤ most)]; rfl
      clear HK
      go_enter Tryz.func198, Tryz.ntmps198
      go_wp2_with fail
      go_loop [7, 19] (fun _ i => ∃ k : Nat, k ≤ s.size ∧ i = .int .i64 (k : Int) ∧ Hid (q = (s.data.toList.drop k).all R.dig)) (fun _ i => s.size - (intOf i).toNat)
      case atStart => exact ⟨0, Nat.zero_le _, rfl, HQ⟩
      case round =>
        obtain ⟨k, hk, rfl, HR⟩ := hrel
        clear HQ
        by_cases hlt : k < s.size
        · have hc := isDigit_c s[k]
          cases e1 : R.dig s[k] with
          | true =>
            rw [e1] at hc
            have HN : Hid (q = (s.data.toList.drop (k + 1)).all R.dig) := by show _ = _; rw [HR.out, all_drop_step hlt, e1]; rfl
            clear HR
            go_wp2_with (go_at_call 216; refine (hc _).mono ?_; rintro x w' ⟨rfl, rfl⟩)
            go_round
            case rel => exact ⟨k + 1, by omega, by go_num, HN⟩
            case measure => simp [intOf]; omega
          | false =>
            rw [e1] at hc
            have e : q = false := by rw [HR.out, all_drop_step hlt, e1]; rfl
            subst e
            clear HR
            go_wp2_with (go_at_call 216; refine (hc _).mono ?_; rintro x w' ⟨rfl, rfl⟩)
            go_ret
            exact ⟨rfl, rfl⟩
        · have e : q = true := by rw [HR.out, all_drop_end hlt]
          subst e
          clear HR
          go_wp2_with fail
          go_ret
          exact ⟨rfl, rfl⟩
end Go.Proofs.YtejbgcloblpbfaaGreatDoor
