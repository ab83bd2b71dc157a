import Derived.Test.YtejbgcloblpbfaaGreatDoorR07
import Derived.Test.YtejbgcloblpbfaaGreatDoorR05
import Derived.Test.YtejbgcloblpbfaaGreatDoorShelfC
import Derived.Lib.SmallJoins
namespace Go.Proofs.YtejbgcloblpbfaaGreatDoor
open Go.RowKit
open R (Tok)
set_option maxHeartbeats 400000 in
theorem beginsDecl_c (s : ByteArray) (w : World) : Calls Tryz.prog 102 #[.string s] w fun x w' => x = .returned (.bool (R.isDecl s.toList)) ∧ w' = w := by
  have HK : Hid (R.isDecl s.toList = ((s.toList == [112, 117, 98, 108, 105, 99]) || (s.toList == [115, 101, 99, 114, 101, 116]) || (s.toList == [97, 114, 114, 97, 121]))) := rfl
  generalize R.isDecl s.toList = q at *
  cases e1 : (s.toList == [112, 117, 98, 108, 105, 99]) with
  | true =>
    rw [e1] at HK
    have e : q = true := HK.out
    subst e
    go_enter Tryz.func102, Tryz.ntmps102
    go_wp2
    go_ret
    exact ⟨rfl, rfl⟩
  | false =>
    cases e2 : (s.toList == [115, 101, 99, 114, 101, 116]) with
    | true =>
      rw [e1, e2] at HK
      have e : q = true := HK.out
      subst e
      go_enter Tryz.func102, Tryz.ntmps102
      go_wp2
      go_ret
      exact ⟨rfl, rfl⟩
    | false =>
      rw [e1, e2] at HK
      have e : q = (s.toList == [97, 114, 114, 97, 121]) := HK.out
      subst e
      clear HK
      go_enter Tryz.func102, Tryz.ntmps102
      go_wp2
      go_ret
      exact ⟨rfl, rfl⟩
theorem kws_or (l : List UInt8) : R.kws.contains l = ((l == [115, 101, 116]) || ((l == [112, 117, 116]) || ((l == [105, 102]) || ((l == [102, 111, 114]) || ((l == [103, 101, 116]) || ((l == [99, 104, 111, 111, 115, 101]) || R.isDecl l)))))) := by
  unfold R.kws R.isDecl R.kPublic R.kSecret R.kArray
  simp only [List.contains_cons, List.contains_nil, Bool.or_false]
  generalize (l == [112, 117, 98, 108, 105, 99]) = a1
  generalize (l == [115, 101, 99, 114, 101, 116]) = a2
  generalize (l == [97, 114, 114, 97, 121]) = a3
  generalize (l == [115, 101, 116]) = a4
  generalize (l == [112, 117, 116]) = a5
  generalize (l == [105, 102]) = a6
  generalize (l == [102, 111, 114]) = a7
  generalize (l == [103, 101, 116]) = a8
  generalize (l == [99, 104, 111, 111, 115, 101]) = a9
  revert a1 a2 a3 a4 a5 a6 a7 a8 a9
  decide
set_option maxHeartbeats 400000 in
theorem isKeyword_c (s : ByteArray) (w : World) : Calls Tryz.prog 200 #[.string s] w fun x w' => x = .returned (.bool (R.kws.contains s.toList)) ∧ w' = w := by
  have HK := hide (kws_or s.toList)
  have hb := beginsDecl_c s
  generalize R.kws.contains s.toList = q at *
  generalize R.isDecl s.toList = d at *
  cases e1 : (s.toList == [115, 101, 116]) with
  | true =>
    rw [e1] at HK; have e : q = true := HK.out; subst e
    go_enter Tryz.func200, Tryz.ntmps200
    go_wp2_with fail
    go_ret
    exact ⟨rfl, rfl⟩
  | false =>
  cases e2 : (s.toList == [112, 117, 116]) with
  | true =>
    rw [e1, e2] at HK; have e : q = true := HK.out; subst e
    go_enter Tryz.func200, Tryz.ntmps200
    go_wp2_with fail
    go_ret
    exact ⟨rfl, rfl⟩
  | false =>
  cases e3 : (s.toList == [105, 102]) with
  | true =>
    rw [e1, e2, e3] at HK; have e : q = true := HK.out; subst e
    go_enter Tryz.func200, Tryz.ntmps200
    go_wp2_with fail
    go_ret
    exact ⟨rfl, rfl⟩
  | false =>
  cases e4 : (s.toList == [102, 111, 114]) with
  | true =>
    rw [e1, e2, e3, e4] at HK; have e : q = true := HK.out; subst e
    go_enter Tryz.func200, Tryz.ntmps200
    go_wp2_with fail
    go_ret
    exact ⟨rfl, rfl⟩
  | false =>
  cases e5 : (s.toList == [103, 101, 116]) with
  | true =>
    rw [e1, e2, e3, e4, e5] at HK; have e : q = true := HK.out; subst e
    go_enter Tryz.func200, Tryz.ntmps200
    go_wp2_with fail
    go_ret
    exact ⟨rfl, rfl⟩
  | false =>
  cases e6 : (s.toList == [99, 104, 111, 111, 115, 101]) with
  | true =>
    rw [e1, e2, e3, e4, e5, e6] at HK; have e : q = true := HK.out; subst e
    go_enter Tryz.func200, Tryz.ntmps200
    go_wp2_with fail
    go_ret
    exact ⟨rfl, rfl⟩
  | false =>
    rw [e1, e2, e3, e4, e5, e6] at HK; have e : q = d := HK.out; subst e
    clear HK
    go_enter Tryz.func200, Tryz.ntmps200
    go_wp2_with (go_at_call 102; refine (hb _).mono ?_; rintro x w' ⟨rfl, rfl⟩)
    go_ret
    exact ⟨rfl, rfl⟩
set_option maxHeartbeats 400000 in
theorem kisName_c (s : ByteArray) (w : World) (hs : s.size ≤ 1000) : Calls Tryz.prog 170 #[.string s] w fun x w' => x = .returned (.bool (R.isName s)) ∧ w' = w := by
  have hm := fun w => madeOf_letter s 6 w hs (by decide)
  have hk := isKeyword_c s
  have HK : Hid (R.isName s = (K.madeOf R.low 6 s && !(R.kws.contains s.toList))) := by
    show _ = _
    unfold R.isName K.madeOf
    generalize R.kws.contains s.toList = a
    generalize s.data.toList.all R.low = b
    cases a <;> cases b <;> simp
  generalize R.isName s = q at *
  generalize R.kws.contains s.toList = d at *
  cases e1 : K.madeOf R.low 6 s with
  | true =>
    rw [e1] at HK hm
    have e : q = !d := HK.out
    subst e
    clear HK
    go_enter Tryz.func170, Tryz.ntmps170
    go_wp2_with (first | (go_at_call 198; refine (hm _).mono ?_; rintro x w' ⟨rfl, rfl⟩) | (go_at_call 200; refine (hk _).mono ?_; rintro x w' ⟨rfl, rfl⟩))
    go_ret
    exact ⟨rfl, rfl⟩
  | false =>
    rw [e1] at HK hm
    have e : q = false := HK.out
    subst e
    clear HK
    go_enter Tryz.func170, Tryz.ntmps170
    go_wp2_with (first | (go_at_call 198; refine (hm _).mono ?_; rintro x w' ⟨rfl, rfl⟩))
    go_ret
    exact ⟨rfl, rfl⟩
def K.isSize (s : ByteArray) : Bool := K.madeOf R.dig 1 s && R.isSize s
set_option maxHeartbeats 400000 in
theorem isSize_c (s : ByteArray) (w : World) (hs : s.size ≤ 1000) : Calls Tryz.prog 197 #[.string s] w fun x w' => x = .returned (.bool (R.isSize s)) ∧ w' = w := by
  have hm := fun w => madeOf_digit s 1 w hs (by decide)
  by_cases hl : s.size = 1
  · have h0 : 0 < s.size := by omega
    have hsz : (s.size : Int) = 1 := by omega
    have hd : s.data.toList = [s[0]] := by
      have e := K.drop_cons s 0 h0
      have e2 : s.data.toList.drop (0 + 1) = [] := List.drop_eq_nil_of_le (by have : s.data.toList.length = s.size := rfl; omega)
      rw [e2] at e
      exact e
    have HK : Hid (R.isSize s = decide (49 ≤ s[0].toNat ∧ s[0].toNat ≤ 54)) := by show _ = _; unfold R.isSize; rw [R.byte_get s 0 h0, decide_eq_true hl]; rfl
    have HM : Hid (K.madeOf R.dig 1 s = R.dig s[0]) := by show _ = _; unfold K.madeOf; rw [hd, decide_eq_true (by omega : 1 ≤ s.size), decide_eq_true (by omega : s.size ≤ 1)]; simp
    have HD : Hid (R.dig s[0] = decide (48 ≤ s[0].toNat ∧ s[0].toNat ≤ 57)) := rfl
    generalize R.isSize s = q at *
    rw [HM.out] at hm
    clear hd hl
    by_cases c1 : (49 : Int) ≤ (s[0].toNat : Int)
    · by_cases c2 : (s[0].toNat : Int) ≤ 54
      · have e : q = true := by rw [HK.out]; simp; omega
        have e1 : R.dig s[0] = true := by rw [HD.out]; simp; omega
        subst e
        rw [e1] at hm
        clear e1 HK HM HD
        go_enter Tryz.func197, Tryz.ntmps197
        go_wp2_with (first | (go_at_call 198; refine (hm _).mono ?_; rintro x w' ⟨rfl, rfl⟩))
        go_ret
        exact ⟨rfl, rfl⟩
      · have e : q = false := by rw [HK.out]; simp; omega
        subst e
        cases e1 : R.dig s[0] with
        | true =>
          rw [e1] at hm
          clear e1 HK HM HD
          have c3 : decide ((s[0].toNat : Int) ≤ 54) = false := decide_eq_false c2
          go_enter Tryz.func197, Tryz.ntmps197
          go_wp2_with (first | (go_at_call 198; refine (hm _).mono ?_; rintro x w' ⟨rfl, rfl⟩))
          go_ret
          refine ⟨?_, rfl⟩
          first | rfl | exact congrArg (fun q => Ending.returned (.bool q)) c3
        | false =>
          rw [e1] at hm
          clear e1 HK HM HD
          go_enter Tryz.func197, Tryz.ntmps197
          go_wp2_with (first | (go_at_call 198; refine (hm _).mono ?_; rintro x w' ⟨rfl, rfl⟩))
          go_ret
          exact ⟨rfl, rfl⟩
    · have e : q = false := by rw [HK.out]; simp; omega
      subst e
      cases e1 : R.dig s[0] with
      | true =>
        rw [e1] at hm
        clear e1 HK HM HD
        go_enter Tryz.func197, Tryz.ntmps197
        go_wp2_with (first | (go_at_call 198; refine (hm _).mono ?_; rintro x w' ⟨rfl, rfl⟩))
        go_ret
        exact ⟨rfl, rfl⟩
      | false =>
        rw [e1] at hm
        clear e1 HK HM HD
        go_enter Tryz.func197, Tryz.ntmps197
        go_wp2_with (first | (go_at_call 198; refine (hm _).mono ?_; rintro x w' ⟨rfl, rfl⟩))
        go_ret
        exact ⟨rfl, rfl⟩
  · have e1 : K.madeOf R.dig 1 s = false := by
      unfold K.madeOf
      by_cases h1 : 1 ≤ s.size
      · rw [decide_eq_false (by omega : ¬ s.size ≤ 1)]; simp
      · rw [decide_eq_false h1]; rfl
    have e2 : R.isSize s = false := by unfold R.isSize; rw [decide_eq_false hl]; rfl
    rw [e1] at hm
    rw [e2]
    go_enter Tryz.func197, Tryz.ntmps197
    go_wp2_with (first | (go_at_call 198; refine (hm _).mono ?_; rintro x w' ⟨rfl, rfl⟩))
    go_ret
    exact ⟨rfl, rfl⟩
end Go.Proofs.YtejbgcloblpbfaaGreatDoor
namespace Go.Proofs.YtejbgcloblpbfaaGreatDoor
open Go.RowKit
open R (Tok)
def K.isNum (s : ByteArray) : Bool := K.madeOf R.dig 9 ⟨(Lib.trimPrefix s.data.toList [45]).toArray⟩
theorem trim_size (s : ByteArray) (h : s.size ≤ 1000) : (ByteArray.mk (Lib.trimPrefix s.data.toList [45]).toArray).size ≤ 1000 := by
  show (Lib.trimPrefix s.data.toList [45]).toArray.size ≤ 1000
  have : s.data.toList.length = s.size := rfl
  unfold Lib.trimPrefix
  split
  · simp; have : s.data.size = s.size := rfl; omega
  · simp; exact h
set_option maxHeartbeats 400000 in
theorem isNumber_c (s : ByteArray) (w : World) (hs : s.size ≤ 1000) : Calls Tryz.prog 219 #[.string s] w fun x w' => x = .returned (.bool (K.isNum s)) ∧ w' = w := by
  have ht := fun w => Tryz.strings_TrimPrefix s ⟨#[45]⟩ w
  have hm := fun w => madeOf_digit ⟨(Lib.trimPrefix s.data.toList [45]).toArray⟩ 9 w (trim_size s hs) (by decide)
  have HK : Hid (K.isNum s = K.madeOf R.dig 9 ⟨(Lib.trimPrefix s.data.toList [45]).toArray⟩) := rfl
  generalize K.isNum s = q at *
  rw [← HK.out] at hm
  have ht' : ∀ w, Calls Tryz.prog 230 #[.string s, .string ⟨#[45]⟩] w fun e w' => e = .returned (.string ⟨(Lib.trimPrefix s.data.toList [45]).toArray⟩) ∧ w' = w := ht
  clear ht HK
  generalize (ByteArray.mk (Lib.trimPrefix s.data.toList [45]).toArray) = t at *
  go_enter Tryz.func219, Tryz.ntmps219
  go_wp2_with (first | (go_at_call 230; refine (ht' _).mono ?_; rintro x w' ⟨rfl, rfl⟩) | (go_at_call 198; refine (hm _).mono ?_; rintro x w' ⟨rfl, rfl⟩))
  go_ret
  exact ⟨rfl, rfl⟩
theorem op_sign (c : UInt8) : decide (0 ≤ Lib.indexByte [43, 45, 42, 47, 38, 94, 60, 61] c) = R.sign [c] := by
  by_cases h1 : c = 43
  · subst h1; decide
  by_cases h2 : c = 45
  · subst h2; decide
  by_cases h3 : c = 42
  · subst h3; decide
  by_cases h4 : c = 47
  · subst h4; decide
  by_cases h5 : c = 38
  · subst h5; decide
  by_cases h6 : c = 94
  · subst h6; decide
  by_cases h7 : c = 60
  · subst h7; decide
  by_cases h8 : c = 61
  · subst h8; decide
  simp [Lib.indexByte, R.sign, h1, h2, h3, h4, h5, h6, h7, h8, Ne.symm h1, Ne.symm h2, Ne.symm h3, Ne.symm h4, Ne.symm h5, Ne.symm h6, Ne.symm h7, Ne.symm h8]
theorem sign_long {s : ByteArray} (h : ¬ s.size = 1) : R.sign s.toList = false := by
  have hl : s.toList.length = s.size := by rw [ByteArray.toList_eq]; rfl
  have ne : ∀ x : UInt8, (s.toList == [x]) = false := fun x => beq_no (fun e => by rw [e] at hl; simp at hl; omega)
  unfold R.sign
  rw [ne, ne, ne, ne, ne, ne, ne, ne]
  rfl
set_option maxHeartbeats 400000 in
theorem isOp_c (s : ByteArray) (w : World) (hs : s.size ≤ 1000) : Calls Tryz.prog 228 #[.string s] w fun x w' => x = .returned (.bool (R.sign s.toList)) ∧ w' = w := by
  by_cases hl : s.size = 1
  · obtain ⟨c, rfl⟩ : ∃ c, s = ⟨#[c]⟩ := by
      obtain ⟨d⟩ := s
      have : d.size = 1 := hl
      obtain ⟨c, hc⟩ := Array.size_eq_one_iff.1 this
      exact ⟨c, by rw [hc]⟩
    have hc := fun w => Tryz.strings_Contains_one ⟨#[43, 45, 42, 47, 38, 94, 60, 61]⟩ c w
    have e1 : R.sign (ByteArray.toList ⟨#[c]⟩) = R.sign [c] := by rw [ByteArray.toList_eq]
    rw [e1, ← op_sign c]
    have hc' : ∀ w, Calls Tryz.prog 236 #[.string ⟨#[43, 45, 42, 47, 38, 94, 60, 61]⟩, .string ⟨#[c]⟩] w fun e w' => e = .returned (.bool (decide (0 ≤ Lib.indexByte [43, 45, 42, 47, 38, 94, 60, 61] c))) ∧ w' = w := hc
    clear hc e1
    generalize decide (0 ≤ Lib.indexByte [43, 45, 42, 47, 38, 94, 60, 61] c) = q at *
    have hz : (((ByteArray.mk #[c]).size : Int) == 1) = true := rfl
    go_enter Tryz.func228, Tryz.ntmps228
    go_wp2_with (first | (go_at_call 236; refine (hc' _).mono ?_; rintro x w' ⟨rfl, rfl⟩))
    go_ret
    exact ⟨rfl, rfl⟩
  · rw [sign_long hl]
    have hz : ((s.size : Int) == 1) = false := beq_no (by omega)
    go_enter Tryz.func228, Tryz.ntmps228
    go_wp2_with fail
    go_ret
    exact ⟨rfl, rfl⟩
def K.Vars (w : World) : Prop := (∃ ev, w.cell? ⟨3, 0, none⟩ = some ev ∧ (ev = Value.nilIface ∨ ∃ te pe, ev = Value.iface te pe)) ∧ ∃ ev, w.cell? ⟨4, 0, none⟩ = some ev ∧ (ev = Value.nilIface ∨ ∃ te pe, ev = Value.iface te pe)
def K.val (s : ByteArray) : Int := match Lib.atoiAll s.data.toList with | .ok v => v | _ => 0
set_option maxHeartbeats 400000 in
theorem valueOf_c (s : ByteArray) (w : World) (hs : s.size ≤ 1000) (hv : K.Vars w) : Calls Tryz.prog 196 #[.string s] w fun x w' => x = .returned (.int .i64 (K.val s)) ∧ Below w.heap.size w w' := by
  cases e : Lib.atoiAll s.data.toList with
  | ok v =>
    have HK : Hid (K.val s = v) := by show _ = _; unfold K.val; rw [e]
    have ha := Tryz.strconv_Atoi_ok s (by omega) v e w
    generalize K.val s = q at *
    have HQ := HK.out
    subst HQ
    clear HK
    go_enter Tryz.func196, Tryz.ntmps196
    go_wp2_with fail
    refine ha.mono ?_
    rintro x w1 ⟨rfl, hw⟩
    go_wp2_with fail
    go_ret
    refine ⟨rfl, ?_⟩
    rcases hw with rfl | ⟨t, rfl⟩
    · exact Below.refl _ _
    · exact Joins.below_bytesWorld _ _ _ _ (Nat.le_refl _)
  | «syntax» =>
    have HK : Hid (K.val s = 0) := by show _ = _; unfold K.val; rw [e]
    obtain ⟨⟨ev, h1, h2⟩, _⟩ := hv
    have ha := Tryz.strconv_Atoi_syntax s (by omega) e ev w h1 h2
    go_enter Tryz.func196, Tryz.ntmps196
    go_wp2_with fail
    refine ha.mono ?_
    rintro x w1 ⟨N, rfl, _, _, hw⟩
    go_wp2_with fail
    go_ret
    rw [HK.out]
    exact ⟨rfl, hw⟩
  | range =>
    have HK : Hid (K.val s = 0) := by show _ = _; unfold K.val; rw [e]
    obtain ⟨_, ⟨ev, h1, h2⟩⟩ := hv
    have ha := Tryz.strconv_Atoi_range s (by omega) e ev w h1 h2
    go_enter Tryz.func196, Tryz.ntmps196
    go_wp2_with fail
    refine ha.mono ?_
    rintro x w1 ⟨N, rfl, _, _, hw⟩
    go_wp2_with fail
    go_ret
    rw [HK.out]
    exact ⟨rfl, hw⟩
end Go.Proofs.YtejbgcloblpbfaaGreatDoor
