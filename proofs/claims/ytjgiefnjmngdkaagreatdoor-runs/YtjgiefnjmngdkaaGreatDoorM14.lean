import Derived.Test.YtjgiefnjmngdkaaGreatDoorM13
import Derived.Test.YtjgiefnjmngdkaaGreatDoorM02
import Derived.Test.YtjgiefnjmngdkaaGreatDoorShelf
import Derived.Lib.SmallJoins
import Derived.Test.YtjgiefnjmngdkaaGreatDoorM03
import Derived.Deep.LoopGhost
namespace Go.Proofs.YtjgiefnjmngdkaaGreatDoor
open Go.RowKit
open R (Tok)

set_option maxHeartbeats 400000 in
theorem beginsDecl_c (s : ByteArray) (w : World) : Calls Tryz.prog 102 #[.string s] w fun x w' => x = .returned (.bool (R.isDecl s.toList)) ∧ w' = w := by
  have HK : Hid (R.isDecl s.toList = ((s.toList == [112, 117, 98, 108, 105, 99]) || (s.toList == [115, 101, 99, 114, 101, 116]) || (s.toList == [97, 114, 114, 97, 121]))) := rfl
  generalize R.isDecl s.toList = q at *
  cases e1 : (s.toList == [112, 117, 98, 108, 105, 99]) with
  | true =>
    rw [e1] at HK
    have e : q = true := HK.out
    subst e
    go_enter Tryz.func102, Tryz.ntmps102
    go_wp2
    go_ret
    exact ⟨rfl, rfl⟩
  | false =>
    cases e2 : (s.toList == [115, 101, 99, 114, 101, 116]) with
    | true =>
      rw [e1, e2] at HK
      have e : q = true := HK.out
      subst e
      go_enter Tryz.func102, Tryz.ntmps102
      go_wp2
      go_ret
      exact ⟨rfl, rfl⟩
    | false =>
      rw [e1, e2] at HK
      have e : q = (s.toList == [97, 114, 114, 97, 121]) := HK.out
      subst e
      clear HK
      go_enter Tryz.func102, Tryz.ntmps102
      go_wp2
      go_ret
      exact ⟨rfl, rfl⟩

theorem kws_or (l : List UInt8) : R.kws.contains l = ((l == [115, 101, 116]) || ((l == [112, 117, 116]) || ((l == [105, 102]) || ((l == [102, 111, 114]) || ((l == [103, 101, 116]) || ((l == [99, 104, 111, 111, 115, 101]) || R.isDecl l)))))) := by
  unfold R.kws R.isDecl R.kPublic R.kSecret R.kArray
  simp only [List.contains_cons, List.contains_nil, Bool.or_false]
  generalize (l == [112, 117, 98, 108, 105, 99]) = a1
  generalize (l == [115, 101, 99, 114, 101, 116]) = a2
  generalize (l == [97, 114, 114, 97, 121]) = a3
  generalize (l == [115, 101, 116]) = a4
  generalize (l == [112, 117, 116]) = a5
  generalize (l == [105, 102]) = a6
  generalize (l == [102, 111, 114]) = a7
  generalize (l == [103, 101, 116]) = a8
  generalize (l == [99, 104, 111, 111, 115, 101]) = a9
  revert a1 a2 a3 a4 a5 a6 a7 a8 a9
  decide

set_option maxHeartbeats 400000 in
theorem isKeyword_c (s : ByteArray) (w : World) : Calls Tryz.prog 200 #[.string s] w fun x w' => x = .returned (.bool (R.kws.contains s.toList)) ∧ w' = w := by
  have HK := hide (kws_or s.toList)
  have hb := beginsDecl_c s
  generalize R.kws.contains s.toList = q at *
  generalize R.isDecl s.toList = d at *
  cases e1 : (s.toList == [115, 101, 116]) with
  | true =>
    rw [e1] at HK; have e : q = true := HK.out; subst e
    go_enter Tryz.func200, Tryz.ntmps200
    go_wp2_with fail
    go_ret
    exact ⟨rfl, rfl⟩
  | false =>
  cases e2 : (s.toList == [112, 117, 116]) with
  | true =>
    rw [e1, e2] at HK; have e : q = true := HK.out; subst e
    go_enter Tryz.func200, Tryz.ntmps200
    go_wp2_with fail
    go_ret
    exact ⟨rfl, rfl⟩
  | false =>
  cases e3 : (s.toList == [105, 102]) with
  | true =>
    rw [e1, e2, e3] at HK; have e : q = true := HK.out; subst e
    go_enter Tryz.func200, Tryz.ntmps200
    go_wp2_with fail
    go_ret
    exact ⟨rfl, rfl⟩
  | false =>
  cases e4 : (s.toList == [102, 111, 114]) with
  | true =>
    rw [e1, e2, e3, e4] at HK; have e : q = true := HK.out; subst e
    go_enter Tryz.func200, Tryz.ntmps200
    go_wp2_with fail
    go_ret
    exact ⟨rfl, rfl⟩
  | false =>
  cases e5 : (s.toList == [103, 101, 116]) with
  | true =>
    rw [e1, e2, e3, e4, e5] at HK; have e : q = true := HK.out; subst e
    go_enter Tryz.func200, Tryz.ntmps200
    go_wp2_with fail
    go_ret
    exact ⟨rfl, rfl⟩
  | false =>
  cases e6 : (s.toList == [99, 104, 111, 111, 115, 101]) with
  | true =>
    rw [e1, e2, e3, e4, e5, e6] at HK; have e : q = true := HK.out; subst e
    go_enter Tryz.func200, Tryz.ntmps200
    go_wp2_with fail
    go_ret
    exact ⟨rfl, rfl⟩
  | false =>
    rw [e1, e2, e3, e4, e5, e6] at HK; have e : q = d := HK.out; subst e
    clear HK
    go_enter Tryz.func200, Tryz.ntmps200
    go_wp2_with (go_at_call 102; refine (hb _).mono ?_; rintro x w' ⟨rfl, rfl⟩)
    go_ret
    exact ⟨rfl, rfl⟩

set_option maxHeartbeats 400000 in
theorem kisName_c (s : ByteArray) (w : World) (hs : s.size ≤ 1000) : Calls Tryz.prog 170 #[.string s] w fun x w' => x = .returned (.bool (R.isName s)) ∧ w' = w := by
  have hm := fun w => madeOf_letter s 6 w hs (by decide)
  have hk := isKeyword_c s
  have HK : Hid (R.isName s = (K.madeOf R.low 6 s && !(R.kws.contains s.toList))) := by
    show _ = _
    unfold R.isName K.madeOf
    generalize R.kws.contains s.toList = a
    generalize s.data.toList.all R.low = b
    cases a <;> cases b <;> simp
  generalize R.isName s = q at *
  generalize R.kws.contains s.toList = d at *
  cases e1 : K.madeOf R.low 6 s with
  | true =>
    rw [e1] at HK hm
    have e : q = !d := HK.out
    subst e
    clear HK
    go_enter Tryz.func170, Tryz.ntmps170
    go_wp2_with (first | (go_at_call 198; refine (hm _).mono ?_; rintro x w' ⟨rfl, rfl⟩) | (go_at_call 200; refine (hk _).mono ?_; rintro x w' ⟨rfl, rfl⟩))
    go_ret
    exact ⟨rfl, rfl⟩
  | false =>
    rw [e1] at HK hm
    have e : q = false := HK.out
    subst e
    clear HK
    go_enter Tryz.func170, Tryz.ntmps170
    go_wp2_with (first | (go_at_call 198; refine (hm _).mono ?_; rintro x w' ⟨rfl, rfl⟩))
    go_ret
    exact ⟨rfl, rfl⟩

def K.isSize (s : ByteArray) : Bool := K.madeOf R.dig 1 s && R.isSize s
set_option maxHeartbeats 400000 in
theorem isSize_c (s : ByteArray) (w : World) (hs : s.size ≤ 1000) : Calls Tryz.prog 197 #[.string s] w fun x w' => x = .returned (.bool (R.isSize s)) ∧ w' = w := by
  have hm := fun w => madeOf_digit s 1 w hs (by decide)
  by_cases hl : s.size = 1
  · have h0 : 0 < s.size := by omega
    have hsz : (s.size : Int) = 1 := by omega
    have hd : s.data.toList = [s[0]] := by
      have e := K.drop_cons s 0 h0
      have e2 : s.data.toList.drop (0 + 1) = [] := List.drop_eq_nil_of_le (by have : s.data.toList.length = s.size := rfl; omega)
      rw [e2] at e
      exact e
    have HK : Hid (R.isSize s = decide (49 ≤ s[0].toNat ∧ s[0].toNat ≤ 54)) := by show _ = _; unfold R.isSize; rw [R.byte_get s 0 h0, decide_eq_true hl]; rfl
    have HM : Hid (K.madeOf R.dig 1 s = R.dig s[0]) := by show _ = _; unfold K.madeOf; rw [hd, decide_eq_true (by omega : 1 ≤ s.size), decide_eq_true (by omega : s.size ≤ 1)]; simp
    have HD : Hid (R.dig s[0] = decide (48 ≤ s[0].toNat ∧ s[0].toNat ≤ 57)) := rfl
    generalize R.isSize s = q at *
    rw [HM.out] at hm
    clear hd hl
    by_cases c1 : (49 : Int) ≤ (s[0].toNat : Int)
    · by_cases c2 : (s[0].toNat : Int) ≤ 54
      · have e : q = true := by rw [HK.out]; simp; omega
        have e1 : R.dig s[0] = true := by rw [HD.out]; simp; omega
        subst e
        rw [e1] at hm
        clear e1 HK HM HD
        go_enter Tryz.func197, Tryz.ntmps197
        go_wp2_with (first | (go_at_call 198; refine (hm _).mono ?_; rintro x w' ⟨rfl, rfl⟩))
        go_ret
        exact ⟨rfl, rfl⟩
      · have e : q = false := by rw [HK.out]; simp; omega
        subst e
        cases e1 : R.dig s[0] with
        | true =>
          rw [e1] at hm
          clear e1 HK HM HD
          have c3 : decide ((s[0].toNat : Int) ≤ 54) = false := decide_eq_false c2
          go_enter Tryz.func197, Tryz.ntmps197
          go_wp2_with (first | (go_at_call 198; refine (hm _).mono ?_; rintro x w' ⟨rfl, rfl⟩))
          go_ret
          refine ⟨?_, rfl⟩
          first | rfl | exact congrArg (fun q => Ending.returned (.bool q)) c3
        | false =>
          rw [e1] at hm
          clear e1 HK HM HD
          go_enter Tryz.func197, Tryz.ntmps197
          go_wp2_with (first | (go_at_call 198; refine (hm _).mono ?_; rintro x w' ⟨rfl, rfl⟩))
          go_ret
          exact ⟨rfl, rfl⟩
    · have e : q = false := by rw [HK.out]; simp; omega
      subst e
      cases e1 : R.dig s[0] with
      | true =>
        rw [e1] at hm
        clear e1 HK HM HD
        go_enter Tryz.func197, Tryz.ntmps197
        go_wp2_with (first | (go_at_call 198; refine (hm _).mono ?_; rintro x w' ⟨rfl, rfl⟩))
        go_ret
        exact ⟨rfl, rfl⟩
      | false =>
        rw [e1] at hm
        clear e1 HK HM HD
        go_enter Tryz.func197, Tryz.ntmps197
        go_wp2_with (first | (go_at_call 198; refine (hm _).mono ?_; rintro x w' ⟨rfl, rfl⟩))
        go_ret
        exact ⟨rfl, rfl⟩
  · have e1 : K.madeOf R.dig 1 s = false := by
      unfold K.madeOf
      by_cases h1 : 1 ≤ s.size
      · rw [decide_eq_false (by omega : ¬ s.size ≤ 1)]; simp
      · rw [decide_eq_false h1]; rfl
    have e2 : R.isSize s = false := by unfold R.isSize; rw [decide_eq_false hl]; rfl
    rw [e1] at hm
    rw [e2]
    go_enter Tryz.func197, Tryz.ntmps197
    go_wp2_with (first | (go_at_call 198; refine (hm _).mono ?_; rintro x w' ⟨rfl, rfl⟩))
    go_ret
    exact ⟨rfl, rfl⟩
end Go.Proofs.YtjgiefnjmngdkaaGreatDoor
namespace Go.Proofs.YtjgiefnjmngdkaaGreatDoor
open Go.RowKit
open R (Tok)

def K.isNum (s : ByteArray) : Bool := K.madeOf R.dig 9 ⟨(Lib.trimPrefix s.data.toList [45]).toArray⟩
theorem trim_size (s : ByteArray) (h : s.size ≤ 1000) : (ByteArray.mk (Lib.trimPrefix s.data.toList [45]).toArray).size ≤ 1000 := by
  show (Lib.trimPrefix s.data.toList [45]).toArray.size ≤ 1000
  have : s.data.toList.length = s.size := rfl
  unfold Lib.trimPrefix
  split
  · simp; have : s.data.size = s.size := rfl; omega
  · simp; exact h

set_option maxHeartbeats 400000 in
theorem isNumber_c (s : ByteArray) (w : World) (hs : s.size ≤ 1000) : Calls Tryz.prog 219 #[.string s] w fun x w' => x = .returned (.bool (K.isNum s)) ∧ w' = w := by
  have ht := fun w => Tryz.strings_TrimPrefix s ⟨#[45]⟩ w
  have hm := fun w => madeOf_digit ⟨(Lib.trimPrefix s.data.toList [45]).toArray⟩ 9 w (trim_size s hs) (by decide)
  have HK : Hid (K.isNum s = K.madeOf R.dig 9 ⟨(Lib.trimPrefix s.data.toList [45]).toArray⟩) := rfl
  generalize K.isNum s = q at *
  rw [← HK.out] at hm
  have ht' : ∀ w, Calls Tryz.prog 230 #[.string s, .string ⟨#[45]⟩] w fun e w' => e = .returned (.string ⟨(Lib.trimPrefix s.data.toList [45]).toArray⟩) ∧ w' = w := ht
  clear ht HK
  generalize (ByteArray.mk (Lib.trimPrefix s.data.toList [45]).toArray) = t at *
  go_enter Tryz.func219, Tryz.ntmps219
  go_wp2_with (first | (go_at_call 230; refine (ht' _).mono ?_; rintro x w' ⟨rfl, rfl⟩) | (go_at_call 198; refine (hm _).mono ?_; rintro x w' ⟨rfl, rfl⟩))
  go_ret
  exact ⟨rfl, rfl⟩

theorem op_sign (c : UInt8) : decide (0 ≤ Lib.indexByte [43, 45, 42, 47, 38, 94, 60, 61] c) = R.sign [c] := by
  by_cases h1 : c = 43
  · subst h1; decide
  by_cases h2 : c = 45
  · subst h2; decide
  by_cases h3 : c = 42
  · subst h3; decide
  by_cases h4 : c = 47
  · subst h4; decide
  by_cases h5 : c = 38
  · subst h5; decide
  by_cases h6 : c = 94
  · subst h6; decide
  by_cases h7 : c = 60
  · subst h7; decide
  by_cases h8 : c = 61
  · subst h8; decide
  simp [Lib.indexByte, R.sign, h1, h2, h3, h4, h5, h6, h7, h8, Ne.symm h1, Ne.symm h2, Ne.symm h3, Ne.symm h4, Ne.symm h5, Ne.symm h6, Ne.symm h7, Ne.symm h8]
theorem sign_long {s : ByteArray} (h : ¬ s.size = 1) : R.sign s.toList = false := by
  have hl : s.toList.length = s.size := by rw [ByteArray.toList_eq]; rfl
  have ne : ∀ x : UInt8, (s.toList == [x]) = false := fun x => beq_no (fun e => by rw [e] at hl; simp at hl; omega)
  unfold R.sign
  rw [ne, ne, ne, ne, ne, ne, ne, ne]
  rfl

set_option maxHeartbeats 400000 in
theorem isOp_c (s : ByteArray) (w : World) (hs : s.size ≤ 1000) : Calls Tryz.prog 228 #[.string s] w fun x w' => x = .returned (.bool (R.sign s.toList)) ∧ w' = w := by
  by_cases hl : s.size = 1
  · obtain ⟨c, rfl⟩ : ∃ c, s = ⟨#[c]⟩ := by
      obtain ⟨d⟩ := s
      have : d.size = 1 := hl
      obtain ⟨c, hc⟩ := Array.size_eq_one_iff.1 this
      exact ⟨c, by rw [hc]⟩
    have hc := fun w => Tryz.strings_Contains_one ⟨#[43, 45, 42, 47, 38, 94, 60, 61]⟩ c w
    have e1 : R.sign (ByteArray.toList ⟨#[c]⟩) = R.sign [c] := by rw [ByteArray.toList_eq]
    rw [e1, ← op_sign c]
    have hc' : ∀ w, Calls Tryz.prog 236 #[.string ⟨#[43, 45, 42, 47, 38, 94, 60, 61]⟩, .string ⟨#[c]⟩] w fun e w' => e = .returned (.bool (decide (0 ≤ Lib.indexByte [43, 45, 42, 47, 38, 94, 60, 61] c))) ∧ w' = w := hc
    clear hc e1
    generalize decide (0 ≤ Lib.indexByte [43, 45, 42, 47, 38, 94, 60, 61] c) = q at *
    have hz : (((ByteArray.mk #[c]).size : Int) == 1) = true := rfl
    go_enter Tryz.func228, Tryz.ntmps228
    go_wp2_with (first | (go_at_call 236; refine (hc' _).mono ?_; rintro x w' ⟨rfl, rfl⟩))
    go_ret
    exact ⟨rfl, rfl⟩
  · rw [sign_long hl]
    have hz : ((s.size : Int) == 1) = false := beq_no (by omega)
    go_enter Tryz.func228, Tryz.ntmps228
    go_wp2_with fail
    go_ret
    exact ⟨rfl, rfl⟩

/-- The library's two errors lie where they were laid. -/
def K.Vars (w : World) : Prop := (∃ ev, w.cell? ⟨3, 0, none⟩ = some ev ∧ (ev = Value.nilIface ∨ ∃ te pe, ev = Value.iface te pe)) ∧ ∃ ev, w.cell? ⟨4, 0, none⟩ = some ev ∧ (ev = Value.nilIface ∨ ∃ te pe, ev = Value.iface te pe)
def K.val (s : ByteArray) : Int := match Lib.atoiAll s.data.toList with | .ok v => v | _ => 0

set_option maxHeartbeats 400000 in
theorem valueOf_c (s : ByteArray) (w : World) (hs : s.size ≤ 1000) (hv : K.Vars w) : Calls Tryz.prog 196 #[.string s] w fun x w' => x = .returned (.int .i64 (K.val s)) ∧ Below w.heap.size w w' := by
  cases e : Lib.atoiAll s.data.toList with
  | ok v =>
    have HK : Hid (K.val s = v) := by show _ = _; unfold K.val; rw [e]
    have ha := Tryz.strconv_Atoi_ok s (by omega) v e w
    generalize K.val s = q at *
    have HQ := HK.out
    subst HQ
    clear HK
    go_enter Tryz.func196, Tryz.ntmps196
    go_wp2_with fail
    refine ha.mono ?_
    rintro x w1 ⟨rfl, hw⟩
    go_wp2_with fail
    go_ret
    refine ⟨rfl, ?_⟩
    rcases hw with rfl | ⟨t, rfl⟩
    · exact Below.refl _ _
    · exact Joins.below_bytesWorld _ _ _ _ (Nat.le_refl _)
  | «syntax» =>
    have HK : Hid (K.val s = 0) := by show _ = _; unfold K.val; rw [e]
    obtain ⟨⟨ev, h1, h2⟩, _⟩ := hv
    have ha := Tryz.strconv_Atoi_syntax s (by omega) e ev w h1 h2
    go_enter Tryz.func196, Tryz.ntmps196
    go_wp2_with fail
    refine ha.mono ?_
    rintro x w1 ⟨N, rfl, _, _, hw⟩
    go_wp2_with fail
    go_ret
    rw [HK.out]
    exact ⟨rfl, hw⟩
  | range =>
    have HK : Hid (K.val s = 0) := by show _ = _; unfold K.val; rw [e]
    obtain ⟨_, ⟨ev, h1, h2⟩⟩ := hv
    have ha := Tryz.strconv_Atoi_range s (by omega) e ev w h1 h2
    go_enter Tryz.func196, Tryz.ntmps196
    go_wp2_with fail
    refine ha.mono ?_
    rintro x w1 ⟨N, rfl, _, _, hw⟩
    go_wp2_with fail
    go_ret
    rw [HK.out]
    exact ⟨rfl, hw⟩
end Go.Proofs.YtjgiefnjmngdkaaGreatDoor
namespace Go.Proofs.YtjgiefnjmngdkaaGreatDoor
open Go.RowKit
open R (Tok tk)
open K (Nm S Scans)

theorem ret_i {k : IntKind} {a b : Int} (h : a = b) : Ending.returned (.int k a) = .returned (.int k b) := by rw [h]

theorem expect1_c (o l : ByteArray) (p : Addr) (w : World) (hc : w.cell? p = some (.string l)) :
    Calls Tryz.prog 141 #[.string o, .pointer (some p)] w fun x w' => x = .returned (.bool (K.isIt l.toList o)) ∧ w' = w := by
  have HK : Hid (K.isIt l.toList o = (o.toList == l.toList)) := rfl
  go_enter Tryz.func141, Tryz.ntmps141
  go_wp2
  go_ret
  exact ⟨rfl, rfl⟩

set_option maxHeartbeats 400000 in
theorem expect_c {w : World} {b : Nat} {s : ByteArray} {T : List Tok} {σ : S} {v : Value} (hS : Scans s T) (h : CR w b s T σ v) (l : ByteArray) :
    Calls Tryz.prog 107 #[PT b, .string l] w fun x w' => x = .returned (.tuple #[]) ∧ CR w' b s T (K.expect T l.toList σ) v ∧ But b w w' := by
  have hmf : ∀ (fn : Fn) (first cap : Array Value) (w : World), (Instr.makeFunc fn first cap).run Tryz.prog w = .ok (.func fn first cap) w := fun _ _ _ _ => rfl
  have h1 := h.alloc (.cells #[.string l] 9 (0, 0))
  have hx := expect1_c (tk T σ.i).s l ⟨w.heap.size, 0, none⟩ (w.alloc (.cells #[.string l] 9 (0, 0))) (by simp)
  have ht := ktake_expect hS h1 (K.isIt l.toList) _ hx
  have HK : Hid (K.expect T l.toList σ = K.take T (K.isIt l.toList) σ) := rfl
  go_enter Tryz.func107, Tryz.ntmps107
  go_wp2_with fail
  refine ht.mono ?_
  rintro x w' ⟨rfl, hr, hb⟩
  go_wp2_with fail
  go_end0
  rw [HK.out]
  exact ⟨rfl, hr, ((But.refl b w).alloc _).trans hb⟩

def K.isSec (o : ByteArray) : Bool := (o.toList == [112, 117, 98, 108, 105, 99]) || (o.toList == [115, 101, 99, 114, 101, 116])
set_option maxHeartbeats 400000 in
theorem secrecy1_c (o : ByteArray) (w : World) : Calls Tryz.prog 169 #[.string o] w fun x w' => x = .returned (.bool (K.isSec o)) ∧ w' = w := by
  have HK : Hid (K.isSec o = ((o.toList == [112, 117, 98, 108, 105, 99]) || (o.toList == [115, 101, 99, 114, 101, 116]))) := rfl
  generalize K.isSec o = q at *
  cases e1 : (o.toList == [112, 117, 98, 108, 105, 99]) with
  | true =>
    rw [e1] at HK; have e : q = true := HK.out; subst e
    go_enter Tryz.func169, Tryz.ntmps169
    go_wp2
    go_ret
    exact ⟨rfl, rfl⟩
  | false =>
    rw [e1] at HK; have e : q = (o.toList == [115, 101, 99, 114, 101, 116]) := HK.out; subst e
    clear HK
    go_enter Tryz.func169, Tryz.ntmps169
    go_wp2
    go_ret
    exact ⟨rfl, rfl⟩
set_option maxHeartbeats 400000 in
theorem secrecy_c {w : World} {b : Nat} {s : ByteArray} {T : List Tok} {σ : S} {v : Value} (hS : Scans s T) (h : CR w b s T σ v) :
    Calls Tryz.prog 136 #[PT b] w fun x w' => x = .returned (.bool ((tk T σ.i).s.toList == [115, 101, 99, 114, 101, 116])) ∧ CR w' b s T (K.take T K.isSec σ) v ∧ But b w w' := by
  have ht := ktake_secrecy hS h K.isSec (secrecy1_c _ w)
  generalize K.take T K.isSec σ = σ1 at *
  generalize tk T σ.i = t at *
  obtain ⟨ts, tp⟩ := t
  dsimp only at *
  go_enter Tryz.func136, Tryz.ntmps136
  go_wp2_with fail
  refine ht.mono ?_
  rintro x w' ⟨rfl, hr, hb⟩
  go_wp2_with fail
  go_ret
  exact ⟨rfl, hr, hb⟩

def K.named (l : List UInt8) (n : Nm) : Bool := n.text.toList == l
def K.idx (l : List UInt8) (ns : List Nm) : Int := if ns.findIdx (K.named l) < ns.length then (ns.findIdx (K.named l) : Int) else -1
theorem K.idx_hit {l : List UInt8} {ns : List Nm} {k : Nat} (h : k < ns.length) (h1 : K.named l ns[k] = true) (h2 : ∀ j (hj : j < k), K.named l (ns[j]'(by omega)) = false) : K.idx l ns = k := by
  have e : ns.findIdx (K.named l) = k := (List.findIdx_eq h).2 ⟨h1, h2⟩
  unfold K.idx
  rw [e, if_pos h]
theorem K.idx_miss {l : List UInt8} {ns : List Nm} (h2 : ∀ j (hj : j < ns.length), K.named l ns[j] = false) : K.idx l ns = -1 := by
  have e : ns.findIdx (K.named l) = ns.length := List.findIdx_eq_length.2 fun x hx => by
    obtain ⟨j, hj, rfl⟩ := List.getElem_of_mem hx
    exact h2 j hj
  unfold K.idx
  rw [e, if_neg (by omega)]

theorem find1_c (n : Nm) (l : ByteArray) (p : Addr) (w : World) (hp : p.block < w.heap.size) (hc : w.cell? p = some (.string l)) :
    Calls Tryz.prog 202 #[.agg #[.string n.text, .int .i64 n.kind, .bool n.sec, .int .i64 n.size, .int .i64 n.place], .pointer (some p)] w fun x w' => x = .returned (.bool (K.named l.toList n)) ∧ Below w.heap.size w w' := by
  have HK : Hid (K.named l.toList n = (n.text.toList == l.toList)) := rfl
  have hc' : ∀ o, (w.alloc o).cell? p = some (.string l) := fun o => by rw [← hc]; exact World.cell?_of_block (heap_alloc_old _ _ _ hp)
  go_enter Tryz.func202, Tryz.ntmps202
  go_wp2
  go_ret
  exact ⟨rfl, (Below.refl _ _).alloc (Nat.le_refl _) _⟩

theorem CR.row {w : World} {b : Nat} {s : ByteArray} {T : List Tok} {σ : S} {v : Value} (h : CR w b s T σ v) :
    (v = .slice none 0 0 ∧ σ.names.length = 0) ∨ ∃ g cap, v = .slice (some ⟨g, 0, none⟩) σ.names.length cap ∧ g < w.heap.size ∧ ∀ (i : Nat) (hi : i < σ.names.length) (j : Nat), j < 5 → w.cell? ⟨g, i * 5 + j, none⟩ = (nmCells σ.names[i])[j]? := by
  by_cases h0 : σ.names.length = 0
  · obtain ⟨hl, h' | ⟨g, cap, cur, hv, _, hg, hc, _, hs, hx⟩⟩ := h.names
    · exact Or.inl h'
    · exact Or.inr ⟨g, cap, hv, heap_lt hg, fun i hi => by omega⟩
  · obtain ⟨g, cap, hv, hg, _⟩ := row_cell nmCells (fun _ => rfl) h.names (i := 0) (List.getElem?_eq_getElem (by omega))
    refine Or.inr ⟨g, cap, hv, hg, fun i hi j hj => ?_⟩
    obtain ⟨g', cap', hv', hg', hc⟩ := row_cell nmCells (fun _ => rfl) h.names (i := i) (List.getElem?_eq_getElem hi)
    rw [hv] at hv'
    simp only [Value.slice.injEq, Option.some.injEq, Addr.mk.injEq] at hv'
    rw [hv'.1.1]
    exact hc j hj

set_option maxHeartbeats 400000 in
theorem index_c (l : ByteArray) (p : Addr) (v : Value) (ns : List Nm) (w : World) (hn : ns.length ≤ 1000) (hp : p.block < w.heap.size) (hc : w.cell? p = some (.string l))
    (hv : (v = .slice none 0 0 ∧ ns.length = 0) ∨ ∃ g cap, v = .slice (some ⟨g, 0, none⟩) ns.length cap ∧ g < w.heap.size ∧ ∀ (i : Nat) (hi : i < ns.length) (j : Nat), j < 5 → w.cell? ⟨g, i * 5 + j, none⟩ = (nmCells ns[i])[j]?) :
    Calls Tryz.prog 201 #[v, .func (.func 202) #[] #[.pointer (some p)]] w fun x w' => x = .returned (.int .i64 (K.idx l.toList ns)) ∧ Below w.heap.size w w' := by
  rcases hv with ⟨rfl, h0⟩ | ⟨g, cap, rfl, hg, hcs⟩
  · have HF := hide (K.idx_miss (l := l.toList) (ns := ns) (fun j hj => by omega))
    go_enter Tryz.func201, Tryz.ntmps201
    go_wp2_with fail
    go_loop [5, 8] (fun _ i => i = .int .i64 0) (fun _ _ => 0)
    case atStart => rfl
    case round =>
      subst hrel
      go_wp2_with fail
      go_ret
      exact ⟨ret_i HF.out.symm, Below.refl _ _⟩
  · go_enter Tryz.func201, Tryz.ntmps201
    go_wp2_with fail
    go_loopg [5, 8] (ns.length + 1) (fun gk _ i wr => ∃ k : Nat, k ≤ ns.length ∧ gk + k = ns.length + 1 ∧ i = .int .i64 (k : Int) ∧ Hid (∀ j (hj : j < k) (hl : j < ns.length), K.named l.toList ns[j] = false) ∧ Below w.heap.size w wr)
    case atStart => exact ⟨0, by omega, by omega, rfl, fun j hj => by omega, Below.refl _ _⟩
    case round =>
      obtain ⟨k, hk, hgk, rfl, HN, B⟩ := hrel
      by_cases hlt : k < ns.length
      · have hcell := fun j (hj : j < 5) => (B.cell (p := ⟨g, k * 5 + j, none⟩) hg).trans (hcs k hlt j hj)
        have d0 : wr.cell? ⟨g, k * 5, none⟩ = some (.string ns[k].text) := hcell 0 (by omega)
        have d1 : wr.cell? ⟨g, k * 5 + 1, none⟩ = some (.int .i64 ns[k].kind) := hcell 1 (by omega)
        have d2 : wr.cell? ⟨g, k * 5 + 2, none⟩ = some (.bool ns[k].sec) := hcell 2 (by omega)
        have d3 : wr.cell? ⟨g, k * 5 + 3, none⟩ = some (.int .i64 ns[k].size) := hcell 3 (by omega)
        have d4 : wr.cell? ⟨g, k * 5 + 4, none⟩ = some (.int .i64 ns[k].place) := hcell 4 (by omega)
        have hf := find1_c ns[k] l p wr (by have := B.size; omega) ((B.cell (p := p) hp).trans hc)
        have HH : Hid (K.named l.toList ns[k] = true → K.idx l.toList ns = k) := fun e => K.idx_hit hlt e (fun j hj => HN.out j hj (by omega))
        have HM : Hid (K.named l.toList ns[k] = false → ∀ j (hj : j < k + 1) (hl : j < ns.length), K.named l.toList ns[j] = false) := fun e j hj hl => by
          rcases Nat.lt_succ_iff_lt_or_eq.1 hj with h' | rfl
          · exact HN.out j h' hl
          · exact e
        clear hcell hcs HN
        generalize ns[k] = nk at *
        obtain ⟨x0, x1, x2, x3, x4⟩ := nk
        cases e : K.named l.toList ⟨x0, x1, x2, x3, x4⟩ with
        | true =>
          rw [e] at hf
          have HI := hide (HH.out e)
          clear HH HM
          go_wp2_with fail
          refine hf.mono ?_
          rintro x w1 ⟨rfl, hb⟩
          go_wp2_with fail
          go_ret
          exact ⟨ret_i HI.out.symm, B.trans (hb.mono B.size)⟩
        | false =>
          rw [e] at hf
          have HI := hide (HM.out e)
          clear HH HM
          go_wp2_with fail
          refine hf.mono ?_
          rintro x w1 ⟨rfl, hb⟩
          go_wp2_with fail
          go_roundg (gk - 1)
          case measure => omega
          case rel => exact ⟨k + 1, by omega, by omega, by go_num, HI, B.trans (hb.mono B.size)⟩
      · have HF := hide (K.idx_miss (l := l.toList) (ns := ns) (fun j hj => HN.out j (by omega) hj))
        go_wp2_with fail
        go_ret
        exact ⟨ret_i HF.out.symm, B⟩
end Go.Proofs.YtjgiefnjmngdkaaGreatDoor
namespace Go.Proofs.YtjgiefnjmngdkaaGreatDoor
open Go.RowKit
open R (Tok tk)
open K (Nm S Scans)

def K.noNm : Nm := ⟨⟨#[]⟩, 0, false, 0, 0⟩
def K.findN (l : List UInt8) (ns : List Nm) : Nm × Bool := if 0 ≤ K.idx l ns then (ns.getD (K.idx l ns).toNat K.noNm, true) else (K.noNm, false)
def nmV (n : Nm) : Value := .agg #[.string n.text, .int .i64 n.kind, .bool n.sec, .int .i64 n.size, .int .i64 n.place]
theorem K.idx_lt (l : List UInt8) (ns : List Nm) : K.idx l ns < ns.length ∧ -1 ≤ K.idx l ns := by
  unfold K.idx; split <;> omega

theorem CR.below {w w' : World} {b : Nat} {s : ByteArray} {T : List Tok} {σ : S} {v : Value} (h : CR w b s T σ v) (hb : Below w.heap.size w w') : CR w' b s T σ v := h.same hb.block
theorem But.below {b : Nat} {a w w' : World} (h : But b a w) (hb : Below w.heap.size w w') : But b a w' :=
  h.trans ⟨hb.os, hb.tape, hb.output, hb.size, fun k hk _ => hb.block k hk⟩

set_option maxHeartbeats 1000000 in
theorem kfind_c {w : World} {b : Nat} {s : ByteArray} {T : List Tok} {σ : S} {v : Value} (h : CR w b s T σ v) (hn : σ.names.length ≤ 1000) (x : ByteArray) :
    Calls Tryz.prog 171 #[PT b, .string x] w fun e w' => e = .returned (.tuple #[nmV (K.findN x.toList σ.names).1, .bool (K.findN x.toList σ.names).2]) ∧ Below w.heap.size w w' := by
  have hmf : ∀ (fn : Fn) (first cap : Array Value) (w : World), (Instr.makeFunc fn first cap).run Tryz.prog w = .ok (.func fn first cap) w := fun _ _ _ _ => rfl
  have hW := (h.alloc (.cells #[.string x] 9 (0, 0))).alloc (.cells #[.string ⟨#[]⟩, .int .i64 0, .bool false, .int .i64 0, .int .i64 0] 96 (0, 0))
  have hix := index_c x ⟨w.heap.size, 0, none⟩ v σ.names ((w.alloc (.cells #[.string x] 9 (0, 0))).alloc (.cells #[.string ⟨#[]⟩, .int .i64 0, .bool false, .int .i64 0, .int .i64 0] 96 (0, 0))) hn (by simp; omega) (by simp) hW.row
  have hrow := hW.row
  have hil := K.idx_lt x.toList σ.names
  have HF : Hid (K.findN x.toList σ.names = if 0 ≤ K.idx x.toList σ.names then (σ.names.getD (K.idx x.toList σ.names).toNat K.noNm, true) else (K.noNm, false)) := rfl
  have c3 := h.c 3 _ rfl
  have B0 : Below w.heap.size w ((w.alloc (.cells #[.string x] 9 (0, 0))).alloc (.cells #[.string ⟨#[]⟩, .int .i64 0, .bool false, .int .i64 0, .int .i64 0] 96 (0, 0))) := ((Below.refl _ _).alloc (Nat.le_refl _) _).alloc (by simp) _
  have hblt := h.cells.lt
  generalize K.idx x.toList σ.names = ix at *
  by_cases hi : 0 ≤ ix
  · obtain ⟨k, rfl⟩ := Int.eq_ofNat_of_zero_le hi
    have hk : k < σ.names.length := by omega
    have HN : Hid (K.findN x.toList σ.names = (σ.names[k], true)) := by
      show _ = _
      rw [HF.out, if_pos hi, List.getD_eq_getElem?_getD]
      simp [hk]
    rw [HN.out]
    rcases hrow with ⟨_, h0⟩ | ⟨g, cap, rfl, hg, hcs⟩
    · omega
    · have hcell := hcs k hk
      have hk' : ¬ ((k : Int) < 0) := by omega
      clear hcs HF HN hil hi
      generalize σ.names[k] = nk at *
      obtain ⟨x0, x1, x2, x3, x4⟩ := nk
      go_enter Tryz.func171, Tryz.ntmps171
      go_wp2_with fail
      refine hix.mono ?_
      rintro e w1 ⟨rfl, hb⟩
      have d3 : w1.cell? ⟨b, 3, none⟩ = some (.slice (some ⟨g, 0, none⟩) σ.names.length cap) := (hb.cell (p := ⟨b, 3, none⟩) (hW.cells.lt)).trans (hW.c 3 _ rfl)
      have e0 : w1.cell? ⟨g, k * 5, none⟩ = some (.string x0) := (hb.cell (p := ⟨g, k * 5, none⟩) hg).trans (hcell 0 (by omega))
      have e1 : w1.cell? ⟨g, k * 5 + 1, none⟩ = some (.int .i64 x1) := (hb.cell (p := ⟨g, k * 5 + 1, none⟩) hg).trans (hcell 1 (by omega))
      have e2 : w1.cell? ⟨g, k * 5 + 2, none⟩ = some (.bool x2) := (hb.cell (p := ⟨g, k * 5 + 2, none⟩) hg).trans (hcell 2 (by omega))
      have e3 : w1.cell? ⟨g, k * 5 + 3, none⟩ = some (.int .i64 x3) := (hb.cell (p := ⟨g, k * 5 + 3, none⟩) hg).trans (hcell 3 (by omega))
      have e4 : w1.cell? ⟨g, k * 5 + 4, none⟩ = some (.int .i64 x4) := (hb.cell (p := ⟨g, k * 5 + 4, none⟩) hg).trans (hcell 4 (by omega))
      have RB : At w1 (w.heap.size + 1) 96 [.string ⟨#[]⟩, .int .i64 0, .bool false, .int .i64 0, .int .i64 0] := by
        have := At.alloc_new (w.alloc (.cells #[.string x] 9 (0, 0))) [.string ⟨#[]⟩, .int .i64 0, .bool false, .int .i64 0, .int .i64 0] 96
        have hs : (w.alloc (.cells #[.string x] 9 (0, 0))).heap.size = w.heap.size + 1 := by simp
        rw [hs] at this
        exact this.of_block (hb.block _ (by simp))
      have r0 := RB.cell 0
      have r1 := RB.cell 1
      have r2 := RB.cell 2
      have r3 := RB.cell 3
      have r4 := RB.cell 4
      have q0 := RB.frozen 0
      have q1 := RB.frozen 1
      have q2 := RB.frozen 2
      have q3 := RB.frozen 3
      have q4 := RB.frozen 4
      simp only [List.getElem?_cons_zero, List.getElem?_cons_succ] at r0 r1 r2 r3 r4
      go_wp2_with fail
      have B1 := B0.trans (hb.mono B0.size)
      have BZ : Below w.heap.size w (((((w1.setCell ⟨w.heap.size + 1, 0, none⟩ (.string x0)).setCell ⟨w.heap.size + 1, 1, none⟩ (.int .i64 x1)).setCell ⟨w.heap.size + 1, 2, none⟩ (.bool x2)).setCell ⟨w.heap.size + 1, 3, none⟩ (.int .i64 x3)).setCell ⟨w.heap.size + 1, 4, none⟩ (.int .i64 x4)) := ((((B1.setCell (by simp) _).setCell (by simp) _).setCell (by simp) _).setCell (by simp) _).setCell (by simp) _
      have RZ : At (((((w1.setCell ⟨w.heap.size + 1, 0, none⟩ (.string x0)).setCell ⟨w.heap.size + 1, 1, none⟩ (.int .i64 x1)).setCell ⟨w.heap.size + 1, 2, none⟩ (.bool x2)).setCell ⟨w.heap.size + 1, 3, none⟩ (.int .i64 x3)).setCell ⟨w.heap.size + 1, 4, none⟩ (.int .i64 x4)) (w.heap.size + 1) 96 [.string x0, .int .i64 x1, .bool x2, .int .i64 x3, .int .i64 x4] := (((((RB.set 0 (.string x0)).set 1 (.int .i64 x1)).set 2 (.bool x2)).set 3 (.int .i64 x3)).set 4 (.int .i64 x4))
      generalize (((((w1.setCell ⟨w.heap.size + 1, 0, none⟩ (.string x0)).setCell ⟨w.heap.size + 1, 1, none⟩ (.int .i64 x1)).setCell ⟨w.heap.size + 1, 2, none⟩ (.bool x2)).setCell ⟨w.heap.size + 1, 3, none⟩ (.int .i64 x3)).setCell ⟨w.heap.size + 1, 4, none⟩ (.int .i64 x4)) = WZ at *
      have z0 : WZ.cell? ⟨w.heap.size + 1, 0, none⟩ = some (.string x0) := RZ.cell 0
      have z1 : WZ.cell? ⟨w.heap.size + 1, 1, none⟩ = some (.int .i64 x1) := RZ.cell 1
      have z2 : WZ.cell? ⟨w.heap.size + 1, 2, none⟩ = some (.bool x2) := RZ.cell 2
      have z3 : WZ.cell? ⟨w.heap.size + 1, 3, none⟩ = some (.int .i64 x3) := RZ.cell 3
      have z4 : WZ.cell? ⟨w.heap.size + 1, 4, none⟩ = some (.int .i64 x4) := RZ.cell 4
      exact bodyPost_ret (v := .tuple #[nmV ⟨x0, x1, x2, x3, x4⟩, .bool true]) (by simp [results, Tryz.results171, go_sem, nmV, z0, z1, z2, z3, z4]) rfl ⟨rfl, BZ⟩
  · have HN : Hid (K.findN x.toList σ.names = (K.noNm, false)) := by
      show _ = _
      rw [HF.out, if_neg hi]
    rw [HN.out]
    have hk' : ix < 0 := by omega
    obtain ⟨sa, sn, sc, hsl⟩ : ∃ a n c, v = .slice a n c := by
      rcases hrow with ⟨h', _⟩ | ⟨g, cap, h', _⟩
      · exact ⟨_, _, _, h'⟩
      · exact ⟨_, _, _, h'⟩
    subst hsl
    clear HF HN hrow hi
    go_enter Tryz.func171, Tryz.ntmps171
    go_wp2_with fail
    refine hix.mono ?_
    rintro e w1 ⟨rfl, hb⟩
    have RB : At w1 (w.heap.size + 1) 96 [.string ⟨#[]⟩, .int .i64 0, .bool false, .int .i64 0, .int .i64 0] := by
      have := At.alloc_new (w.alloc (.cells #[.string x] 9 (0, 0))) [.string ⟨#[]⟩, .int .i64 0, .bool false, .int .i64 0, .int .i64 0] 96
      have hs : (w.alloc (.cells #[.string x] 9 (0, 0))).heap.size = w.heap.size + 1 := by simp
      rw [hs] at this
      exact this.of_block (hb.block _ (by simp))
    have r0 := RB.cell 0
    have r1 := RB.cell 1
    have r2 := RB.cell 2
    have r3 := RB.cell 3
    have r4 := RB.cell 4
    have q0 := RB.frozen 0
    have q1 := RB.frozen 1
    have q2 := RB.frozen 2
    have q3 := RB.frozen 3
    have q4 := RB.frozen 4
    simp only [List.getElem?_cons_zero, List.getElem?_cons_succ] at r0 r1 r2 r3 r4
    go_wp2_with fail
    have B1 := B0.trans (hb.mono B0.size)
    have BZ : Below w.heap.size w (((((w1.setCell ⟨w.heap.size + 1, 0, none⟩ (.string ⟨#[]⟩)).setCell ⟨w.heap.size + 1, 1, none⟩ (.int .i64 0)).setCell ⟨w.heap.size + 1, 2, none⟩ (.bool false)).setCell ⟨w.heap.size + 1, 3, none⟩ (.int .i64 0)).setCell ⟨w.heap.size + 1, 4, none⟩ (.int .i64 0)) := ((((B1.setCell (by simp) _).setCell (by simp) _).setCell (by simp) _).setCell (by simp) _).setCell (by simp) _
    have RZ : At (((((w1.setCell ⟨w.heap.size + 1, 0, none⟩ (.string ⟨#[]⟩)).setCell ⟨w.heap.size + 1, 1, none⟩ (.int .i64 0)).setCell ⟨w.heap.size + 1, 2, none⟩ (.bool false)).setCell ⟨w.heap.size + 1, 3, none⟩ (.int .i64 0)).setCell ⟨w.heap.size + 1, 4, none⟩ (.int .i64 0)) (w.heap.size + 1) 96 [.string ⟨#[]⟩, .int .i64 0, .bool false, .int .i64 0, .int .i64 0] := (((((RB.set 0 (.string ⟨#[]⟩)).set 1 (.int .i64 0)).set 2 (.bool false)).set 3 (.int .i64 0)).set 4 (.int .i64 0))
    generalize (((((w1.setCell ⟨w.heap.size + 1, 0, none⟩ (.string ⟨#[]⟩)).setCell ⟨w.heap.size + 1, 1, none⟩ (.int .i64 0)).setCell ⟨w.heap.size + 1, 2, none⟩ (.bool false)).setCell ⟨w.heap.size + 1, 3, none⟩ (.int .i64 0)).setCell ⟨w.heap.size + 1, 4, none⟩ (.int .i64 0)) = WZ at *
    have z0 : WZ.cell? ⟨w.heap.size + 1, 0, none⟩ = some (.string ⟨#[]⟩) := RZ.cell 0
    have z1 : WZ.cell? ⟨w.heap.size + 1, 1, none⟩ = some (.int .i64 0) := RZ.cell 1
    have z2 : WZ.cell? ⟨w.heap.size + 1, 2, none⟩ = some (.bool false) := RZ.cell 2
    have z3 : WZ.cell? ⟨w.heap.size + 1, 3, none⟩ = some (.int .i64 0) := RZ.cell 3
    have z4 : WZ.cell? ⟨w.heap.size + 1, 4, none⟩ = some (.int .i64 0) := RZ.cell 4
    exact bodyPost_ret (v := .tuple #[nmV K.noNm, .bool false]) (by simp [results, Tryz.results171, go_sem, nmV, K.noNm, z0, z1, z2, z3, z4]) rfl ⟨rfl, BZ⟩
end Go.Proofs.YtjgiefnjmngdkaaGreatDoor
namespace Go.Proofs.YtjgiefnjmngdkaaGreatDoor
namespace K
open R (Tok tk)

/-- All but the word, the error and its place stays. -/
structure Keeps (σ σ' : S) : Prop where
  names : σ'.names = σ.names
  words : σ'.words = σ.words
  depth : σ'.depth = σ.depth
  loops : σ'.loops = σ.loops
theorem Keeps.rfl' (σ : S) : Keeps σ σ := ⟨rfl, rfl, rfl, rfl⟩
theorem Keeps.trans {a b c : S} (h : Keeps a b) (k : Keeps b c) : Keeps a c := ⟨k.names.trans h.names, k.words.trans h.words, k.depth.trans h.depth, k.loops.trans h.loops⟩
theorem step_keeps (T : List Tok) (σ : S) : Keeps σ (step T σ) := ⟨rfl, rfl, rfl, rfl⟩
theorem fail_keeps (T : List Tok) (e p : Int) (σ : S) : Keeps σ (fail T e p σ) := by unfold fail; split <;> exact ⟨rfl, rfl, rfl, rfl⟩
theorem take_keeps (T : List Tok) (f : ByteArray → Bool) (σ : S) : Keeps σ (take T f σ) := by
  unfold take; split
  · exact step_keeps T σ
  · exact fail_keeps T _ _ σ
theorem expect_keeps (T : List Tok) (l : List UInt8) (σ : S) : Keeps σ (expect T l σ) := take_keeps T _ σ
theorem Scans.tsize {s : ByteArray} {T : List Tok} (h : Scans s T) {i : Nat} (hi : i < T.length) : (tk T i).s.size ≤ 800 := by
  obtain ⟨p, _, h2, _⟩ := h.next i hi
  have := h.size
  omega
end K
end Go.Proofs.YtjgiefnjmngdkaaGreatDoor
namespace Go.Proofs.YtjgiefnjmngdkaaGreatDoor
open Go.RowKit
open R (Tok tk)
open K (Nm S Scans)

def K.newName (T : List Tok) (σ : S) : S := if (K.findN (tk T σ.i).s.toList σ.names).2 = true then K.fail T 4 (tk T σ.i).p (K.take T R.isName σ) else K.take T R.isName σ

set_option maxHeartbeats 1000000 in
theorem newName_c {w : World} {b : Nat} {s : ByteArray} {T : List Tok} {σ : S} {v : Value} (hS : Scans s T) (h : CR w b s T σ v) (hn : σ.names.length ≤ 1000) :
    Calls Tryz.prog 137 #[PT b] w fun x w' => x = .returned (.string (tk T σ.i).s) ∧ CR w' b s T (K.newName T σ) v ∧ But b w w' := by
  have c2 := h.c 2 _ rfl
  have hz := hS.tsize h.lt
  have ht := ktake_isName hS h R.isName (kisName_c _ w (by omega))
  have kn := (K.take_keeps T R.isName σ).names
  have HK : Hid (K.newName T σ = if (K.findN (tk T σ.i).s.toList σ.names).2 = true then K.fail T 4 (tk T σ.i).p (K.take T R.isName σ) else K.take T R.isName σ) := rfl
  have hfi := fun (w' : World) (h' : CR w' b s T (K.take T R.isName σ) v) => kfind_c h' (by rw [kn]; exact hn) (tk T σ.i).s
  rw [kn] at hfi
  have hfl := fun (w' : World) (h' : CR w' b s T (K.take T R.isName σ) v) => kfail_c hS h' 4 (tk T σ.i).p
  generalize K.newName T σ = σ2 at *
  generalize K.take T R.isName σ = σ1 at *
  generalize tk T σ.i = t at *
  obtain ⟨ts, tp⟩ := t
  dsimp only at *
  generalize K.findN ts.toList σ.names = F at *
  obtain ⟨⟨x0, x1, x2, x3, x4⟩, q⟩ := F
  unfold nmV at hfi
  dsimp only at *
  cases q with
  | true =>
    have e := HK.out
    rw [if_pos rfl] at e
    subst e
    clear HK kn
    go_enter Tryz.func137, Tryz.ntmps137
    go_wp2_with fail
    refine ht.mono ?_
    rintro x w1 ⟨rfl, hr1, hb1⟩
    go_wp2_with fail
    refine (hfi _ hr1).mono ?_
    rintro x w2 ⟨rfl, hb2⟩
    have hr3 := (hr1.below hb2).alloc (.cells #[.string x0, .int .i64 x1, .bool x2, .int .i64 x3, .int .i64 x4] 96 (0, 0))
    go_wp2_with fail
    refine (hfl _ hr3).mono ?_
    rintro x w3 ⟨rfl, hr4, hb4⟩
    go_wp2_with fail
    go_ret
    exact ⟨rfl, hr4, ((hb1.below hb2).alloc _).trans hb4⟩
  | false =>
    have e := HK.out
    rw [if_neg (by decide)] at e
    subst e
    clear HK kn
    go_enter Tryz.func137, Tryz.ntmps137
    go_wp2_with fail
    refine ht.mono ?_
    rintro x w1 ⟨rfl, hr1, hb1⟩
    go_wp2_with fail
    refine (hfi _ hr1).mono ?_
    rintro x w2 ⟨rfl, hb2⟩
    have hr3 := (hr1.below hb2).alloc (.cells #[.string x0, .int .i64 x1, .bool x2, .int .i64 x3, .int .i64 x4] 96 (0, 0))
    go_wp2_with fail
    go_ret
    exact ⟨rfl, hr3, (hb1.below hb2).alloc _⟩
end Go.Proofs.YtjgiefnjmngdkaaGreatDoor
