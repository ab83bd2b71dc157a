import Derived.Test.YtejbgcloblpbfaaGreatDoorR03
import Derived.Test.YtejbgcloblpbfaaGreatDoorR05
namespace Go.Proofs.YtejbgcloblpbfaaGreatDoor
open Go.RowKit
open R (Tok Thing Nd PS)
theorem ret_int {a b : Int} (h : a = b) : Ending.returned (.int .i64 a) = .returned (.int .i64 b) := by rw [h]
theorem ret_bool {a b : Bool} (h : a = b) : Ending.returned (.bool a) = .returned (.bool b) := by rw [h]
theorem kw_hit {s : ByteArray} (k : Nat) (l : List UInt8) (hk : R.kws[k]? = some l) (h : (s.toList == l) = true) : R.isName s = false := by
  unfold R.isName
  rw [eq_of_beq h, show R.kws.contains l = true from List.contains_iff_mem.2 (List.mem_of_getElem? hk)]
  rfl
theorem kw_next {s : ByteArray} (k : Nat) (l : List UInt8) (hk : R.kws[k]? = some l) (hn : Hid (∀ j, j < k → R.kws[j]? ≠ some s.toList)) (h : (s.toList == l) = false) : ∀ j, j < k + 1 → R.kws[j]? ≠ some s.toList := by
  intro j hj
  rcases Nat.lt_succ_iff_lt_or_eq.1 hj with h' | rfl
  · exact hn j h'
  · rw [hk]
    intro e
    rw [Option.some.inj e] at h
    simp at h
theorem kw_none {s : ByteArray} (hn : Hid (∀ j, j < 9 → R.kws[j]? ≠ some s.toList)) : R.kws.contains s.toList = false := by
  rw [Bool.eq_false_iff]
  intro h
  obtain ⟨j, hj, e⟩ := List.getElem_of_mem (List.contains_iff_mem.1 h)
  exact hn j hj (by rw [List.getElem?_eq_getElem hj, e])
theorem take_snoc (s : ByteArray) (k : Nat) (h : k < s.size) : s.data.toList.take (k + 1) = s.data.toList.take k ++ [s[k]] := by
  rw [List.take_succ_eq_append_getElem (by simpa using h)]; rfl
theorem name_bad {s : ByteArray} {m : Nat} (hlt : m < s.size) (h : R.low s[m] = false) : R.isName s = false := by
  have : s.data.toList.all R.low = false := by
    rw [List.all_eq_false]
    exact ⟨s[m], Array.getElem_mem_toList hlt, by simp [h]⟩
  unfold R.isName
  rw [this]
  simp
set_option maxHeartbeats 1000000 in
theorem isName_c (s : ByteArray) (w : World) (hs : s.size ≤ maxLen) :
    Calls Tryz.prog 75 #[.string s] w fun x w' => x = .returned (.bool (R.isName s)) ∧ ∃ o, w' = w.alloc o := by
  unfold maxLen at hs
  go_enter Tryz.func75, Tryz.ntmps75
  go_wp2
  go_loop [4] (fun i => ∃ k : Nat, k ≤ 9 ∧ i = .int .i64 k ∧ ∀ j, j < k → R.kws[j]? ≠ some s.toList) (fun i => 9 - (intOf i).toNat)
  case atStart => exact ⟨0, by omega, rfl, by omega⟩
  case round =>
    obtain ⟨k, hk, rfl, hn⟩ := hrel
    have HN := hide hn
    clear hn
    obtain rfl | rfl | rfl | rfl | rfl | rfl | rfl | rfl | rfl | rfl : k = 9 ∨ k = 1 ∨ k = 2 ∨ k = 3 ∨ k = 4 ∨ k = 5 ∨ k = 6 ∨ k = 7 ∨ k = 8 ∨ k = 0 := by omega
    · go_wp2
      go_loop [5] (fun i => ∃ m : Nat, m ≤ s.size ∧ i = .int .i64 m ∧ (s.data.toList.take m).all R.low = true) (fun i => s.size - (intOf i).toNat)
      case atStart => exact ⟨0, by omega, rfl, rfl⟩
      case round =>
        obtain ⟨m, hm, rfl, ha⟩ := hrel
        have HA := hide ha
        clear ha
        by_cases hlt : m < s.size
        · have HT := hide (take_snoc s m hlt)
          go_wp2
          · go_ret
            exact ⟨ret_bool (name_bad hlt (by simp [R.low]; omega)).symm, _, rfl⟩
          · exact ⟨⟨m + 1, by omega, by go_num, by rw [HT.out, List.all_append, HA.out]; simp [R.low]; omega⟩, by simp [intOf]; omega⟩
          · go_ret
            exact ⟨ret_bool (name_bad hlt (by simp [R.low]; omega)).symm, _, rfl⟩
        · have HE := hide (show s.data.toList.all R.low = true from by have := HA.out; rwa [List.take_of_length_le (by simp; omega)] at this)
          have HK := hide (kw_none HN)
          go_wp2
          · go_ret
            exact ⟨ret_bool (by have h0 : decide (1 ≤ s.size) = true := by simpa using (by omega : 1 ≤ s.size)
                                unfold R.isName; rw [HE.out, HK.out, h0]
                                show _ = decide (s.size ≤ 6)
                                exact decide_eq_decide.2 (by omega)), _, rfl⟩
          · go_ret
            exact ⟨ret_bool (by have h0 : decide (1 ≤ s.size) = false := by simpa using (by omega : s.size < 1)
                                unfold R.isName; rw [HE.out, HK.out, h0]; rfl), _, rfl⟩
    · go_wp2
      · go_ret
        exact ⟨ret_bool (kw_hit 1 _ rfl ‹_›).symm, _, rfl⟩
      · exact ⟨⟨2, by omega, rfl, kw_next 1 _ rfl HN ‹_›⟩, by simp [intOf]⟩
    · go_wp2
      · go_ret
        exact ⟨ret_bool (kw_hit 2 _ rfl ‹_›).symm, _, rfl⟩
      · exact ⟨⟨3, by omega, rfl, kw_next 2 _ rfl HN ‹_›⟩, by simp [intOf]⟩
    · go_wp2
      · go_ret
        exact ⟨ret_bool (kw_hit 3 _ rfl ‹_›).symm, _, rfl⟩
      · exact ⟨⟨4, by omega, rfl, kw_next 3 _ rfl HN ‹_›⟩, by simp [intOf]⟩
    · go_wp2
      · go_ret
        exact ⟨ret_bool (kw_hit 4 _ rfl ‹_›).symm, _, rfl⟩
      · exact ⟨⟨5, by omega, rfl, kw_next 4 _ rfl HN ‹_›⟩, by simp [intOf]⟩
    · go_wp2
      · go_ret
        exact ⟨ret_bool (kw_hit 5 _ rfl ‹_›).symm, _, rfl⟩
      · exact ⟨⟨6, by omega, rfl, kw_next 5 _ rfl HN ‹_›⟩, by simp [intOf]⟩
    · go_wp2
      · go_ret
        exact ⟨ret_bool (kw_hit 6 _ rfl ‹_›).symm, _, rfl⟩
      · exact ⟨⟨7, by omega, rfl, kw_next 6 _ rfl HN ‹_›⟩, by simp [intOf]⟩
    · go_wp2
      · go_ret
        exact ⟨ret_bool (kw_hit 7 _ rfl ‹_›).symm, _, rfl⟩
      · exact ⟨⟨8, by omega, rfl, kw_next 7 _ rfl HN ‹_›⟩, by simp [intOf]⟩
    · go_wp2
      · go_ret
        exact ⟨ret_bool (kw_hit 8 _ rfl ‹_›).symm, _, rfl⟩
      · exact ⟨⟨9, by omega, rfl, kw_next 8 _ rfl HN ‹_›⟩, by simp [intOf]⟩
    · go_wp2
      · go_ret
        exact ⟨ret_bool (kw_hit 0 _ rfl ‹_›).symm, _, rfl⟩
      · exact ⟨⟨1, by omega, rfl, kw_next 0 _ rfl HN ‹_›⟩, by simp [intOf]⟩
set_option maxHeartbeats 400000 in
theorem sign_c (s : ByteArray) (w : World) : Calls Tryz.prog 110 #[.string s] w fun x w' => x = .returned (.bool (R.sign s.toList)) ∧ w' = w := by
  unfold R.sign
  go_enter Tryz.func110, Tryz.ntmps110
  go_wp2
  all_goals
    go_ret
    refine ⟨ret_bool ?_, rfl⟩
    simp [*]
set_option maxHeartbeats 400000 in
theorem find_w (b : Nat) (s : ByteArray) (v : Value) (l : List Thing) (w : World) (hn : l.length ≤ 1000) (c4 : w.cell? ⟨b, 4, none⟩ = some v)
    (hv : (v = .slice none 0 0 ∧ l.length = 0) ∨ ∃ g cap, v = .slice (some ⟨g, 0, none⟩) l.length cap ∧ ∀ (i : Nat) (hi : i < l.length), w.cell? ⟨g, i * 5, none⟩ = some (.string l[i].name)) :
    Calls Tryz.prog 76 #[P b, .string s] w fun x w' => x = .returned (.int .i64 (R.find s.toList l)) ∧ w' = w := by
  rcases hv with ⟨rfl, h0⟩ | ⟨g, cap, rfl, hc⟩
  · have HF := hide (R.find_miss (s := s.toList) (l := l) (fun j hj => by omega))
    go_enter Tryz.func76, Tryz.ntmps76
    go_wp2
    go_loop [5] (fun i => i = .int .i64 0) (fun _ => 0)
    case atStart => rfl
    case round =>
      subst hrel
      go_wp2
      go_ret
      exact ⟨ret_int HF.out.symm, rfl⟩
  · go_enter Tryz.func76, Tryz.ntmps76
    go_wp2
    go_loop [5] (fun i => ∃ k : Nat, k ≤ l.length ∧ i = .int .i64 k ∧ ∀ j (hj : j < k) (hl : j < l.length), R.isIt s.toList l[j] = false) (fun i => l.length - (intOf i).toNat)
    case atStart => exact ⟨0, by omega, rfl, fun j hj => by omega⟩
    case round =>
      obtain ⟨k, hk, rfl, hno⟩ := hrel
      have HN := hide hno
      clear hno
      by_cases hlt : k < l.length
      · have hck := hc k hlt
        go_wp2
        · go_ret
          exact ⟨ret_int (R.find_hit hlt ‹_› (fun j hj => HN.out j hj (by omega))).symm, rfl⟩
        · exact ⟨⟨k + 1, by omega, by go_num, fun j hj hl => by
            rcases Nat.lt_succ_iff_lt_or_eq.1 hj with h' | rfl
            · exact HN.out j h' hl
            · assumption⟩, by simp [intOf]; omega⟩
      · go_wp2
        go_ret
        exact ⟨ret_int (R.find_miss (fun j hj => HN.out j (by omega) hj)).symm, rfl⟩
theorem Rep.things {w : World} {b : Nat} {T : List Tok} {σ : PS} {r : RV} (h : Rep w b T σ r) :
    (r.S = .slice none 0 0 ∧ σ.seen.length = 0) ∨ ∃ g cap, r.S = .slice (some ⟨g, 0, none⟩) σ.seen.length cap ∧ g < w.heap.size ∧ ∀ (i : Nat) (hi : i < σ.seen.length) (j : Nat), j < 5 → w.cell? ⟨g, i * 5 + j, none⟩ = (thingCells σ.seen[i])[j]? := by
  by_cases h0 : σ.seen.length = 0
  · obtain ⟨hl, h' | ⟨g, cap, cur, hv, _, hg, hc, _, hs, hx⟩⟩ := h.seen
    · exact Or.inl h'
    · exact Or.inr ⟨g, cap, hv, heap_lt hg, fun i hi => by omega⟩
  · obtain ⟨g, cap, hv, hg, _⟩ := row_cell thingCells (fun _ => rfl) h.seen (i := 0) (List.getElem?_eq_getElem (by omega))
    refine Or.inr ⟨g, cap, hv, hg, fun i hi j hj => ?_⟩
    obtain ⟨g', cap', hv', hg', hc⟩ := row_cell thingCells (fun _ => rfl) h.seen (i := i) (List.getElem?_eq_getElem hi)
    rw [hv] at hv'
    simp only [Value.slice.injEq, Option.some.injEq, Addr.mk.injEq] at hv'
    rw [hv'.1.1]
    exact hc j hj
theorem find_c {w : World} {b : Nat} {T : List Tok} {σ : PS} {r : RV} (h : Rep w b T σ r) (hn : σ.seen.length ≤ 1000) (s : ByteArray) :
    Calls Tryz.prog 76 #[P b, .string s] w fun x w' => x = .returned (.int .i64 (R.find s.toList σ.seen)) ∧ w' = w :=
  find_w b s r.S σ.seen w hn (h.c1 4 _ rfl) (by
    rcases h.things with h' | ⟨g, cap, hv, _, hc⟩
    · exact Or.inl h'
    · exact Or.inr ⟨g, cap, hv, fun i hi => hc i hi 0 (by omega)⟩)
end Go.Proofs.YtejbgcloblpbfaaGreatDoor
namespace Go.Proofs.YtejbgcloblpbfaaGreatDoor
open Go.RowKit
theorem usize (u : ByteArray) : u.data.toList.length = u.size := rfl
theorem ext_tail (s : ByteArray) : (s.extract 1 s.size).data.toList = s.data.toList.tail := by
  simp only [ByteArray.data_extract, Array.toList_extract, List.extract_eq_take_drop]
  rw [List.take_of_length_le (by simp), List.drop_one]
theorem ret_two {r : Int × Bool} {a : Int} {b : Bool} (h : r = (a, b)) : Ending.returned (.tuple #[.int .i64 a, .bool b]) = .returned (.tuple #[.int .i64 r.1, .bool r.2]) := by rw [h]
theorem ret_two' {r : Int × Bool} {a a' : Int} {b b' : Bool} (h : r = (a, b)) (ha : a' = a) (hb : b' = b) : Ending.returned (.tuple #[.int .i64 a', .bool b']) = .returned (.tuple #[.int .i64 r.1, .bool r.2]) := by rw [h, ha, hb]
theorem head_0 (s : ByteArray) (h : 0 < s.size) : s.data.toList.head? = some s[0] := by
  rw [List.head?_eq_getElem?, List.getElem?_eq_getElem (by rw [usize]; exact h)]; rfl
set_option maxHeartbeats 1000000 in
theorem number_c (s : ByteArray) (w : World) (hs : s.size ≤ maxLen) :
    Calls Tryz.prog 109 #[.string s] w fun x w' => x = .returned (.tuple #[.int .i64 (R.number s.data.toList).1, .bool (R.number s.data.toList).2]) ∧ w' = w := by
  unfold maxLen at hs
  generalize hR : R.number s.data.toList = res
  unfold R.number at hR
  by_cases h0 : s.data.toList.head? = some 45
  · rw [if_pos h0, ← ext_tail] at hR
    have h1 : 0 < s.size := by
      rw [← usize]
      cases hd : s.data.toList with
      | nil => rw [hd] at h0; simp at h0
      | cons a l => simp
    have h3 : ((s[0].toNat : Int) == 45) = true := by
      rw [head_0 s h1] at h0
      rw [Option.some.inj h0]; rfl
    have HR := hide hR.symm
    clear hR h0
    have hz : (s.extract 1 s.size).size ≤ 2 ^ 63 - 1 := by simp; omega
    go_enter Tryz.func109, Tryz.ntmps109
    go_wp2
    generalize s.extract 1 s.size = u at *
    go_loop [5, 6] (fun n i => ∃ k : Nat, k ≤ u.size ∧ k ≤ 9 ∧ i = .int .i64 k ∧ n = .int .i64 (R.val (u.data.toList.take k)) ∧ (u.data.toList.take k).all R.dig = true) (fun _ i => u.size - (intOf i).toNat)
    case atStart => exact ⟨0, by omega, by omega, rfl, rfl, rfl⟩
    case round =>
      obtain ⟨k, hk, hk9, rfl, rfl, ha⟩ := hrel
      have hb := R.val_le (l := u.data.toList.take k) (by rw [List.length_take]; omega) ha
      have HA := hide ha
      clear ha
      by_cases hlt : k < u.size
      · have HT := hide (take_snoc u k hlt)
        have hmem : Hid (u[k] ∈ u.data.toList) := Array.getElem_mem_toList hlt
        have hc := UInt8.toNat_lt u[k]
        go_wp2
        · go_ret2
          exact ⟨ret_two (HR.out.trans (R.numOf_long (by rw [usize]; omega))), rfl⟩
        · exact ⟨⟨k + 1, by omega, by omega, by go_num, by rw [HT.out, R.val_snoc], by rw [HT.out, List.all_append, HA.out]; simp [R.dig]; omega⟩, by simp [intOf]; omega⟩
        · go_ret2
          exact ⟨ret_two (HR.out.trans (R.numOf_bad hmem.out (by simp [R.dig]; omega))), rfl⟩
        · go_ret2
          exact ⟨ret_two (HR.out.trans (R.numOf_bad hmem.out (by simp [R.dig]; omega))), rfl⟩
      · have hl : u.data.toList.take k = u.data.toList := List.take_of_length_le (by rw [usize]; omega)
        rw [hl] at hb HA ⊢
        have HG := hide (HR.out.trans (R.numOf_good HA.out (by rw [usize]; omega)))
        clear hl
        generalize R.val u.data.toList = V at *
        go_wp2
        go_ret2
        exact ⟨ret_two' HG.out (by omega) (by rw [usize]), rfl⟩
  · rw [if_neg h0] at hR
    have HR := hide hR.symm
    clear hR
    by_cases h1 : 0 < s.size
    · have h3 : ((s[0].toNat : Int) == 45) = false := by
        rw [head_0 s h1] at h0
        rw [beq_eq_false_iff_ne]
        intro e
        exact h0 (congrArg some (UInt8.toNat_inj.1 (by simpa using (by omega : s[0].toNat = 45))))
      clear h0
      go_enter Tryz.func109, Tryz.ntmps109
      go_wp2
      generalize s = u at *
      go_loop [5, 6] (fun n i => ∃ k : Nat, k ≤ u.size ∧ k ≤ 9 ∧ i = .int .i64 k ∧ n = .int .i64 (R.val (u.data.toList.take k)) ∧ (u.data.toList.take k).all R.dig = true) (fun _ i => u.size - (intOf i).toNat)
      case atStart => exact ⟨0, by omega, by omega, rfl, rfl, rfl⟩
      case round =>
        obtain ⟨k, hk, hk9, rfl, rfl, ha⟩ := hrel
        have hb := R.val_le (l := u.data.toList.take k) (by rw [List.length_take]; omega) ha
        have HA := hide ha
        clear ha
        by_cases hlt : k < u.size
        · have HT := hide (take_snoc u k hlt)
          have hmem : Hid (u[k] ∈ u.data.toList) := Array.getElem_mem_toList hlt
          have hc := UInt8.toNat_lt u[k]
          go_wp2
          · go_ret2
            exact ⟨ret_two (HR.out.trans (R.numOf_long (by rw [usize]; omega))), rfl⟩
          · exact ⟨⟨k + 1, by omega, by omega, by go_num, by rw [HT.out, R.val_snoc], by rw [HT.out, List.all_append, HA.out]; simp [R.dig]; omega⟩, by simp [intOf]; omega⟩
          · go_ret2
            exact ⟨ret_two (HR.out.trans (R.numOf_bad hmem.out (by simp [R.dig]; omega))), rfl⟩
          · go_ret2
            exact ⟨ret_two (HR.out.trans (R.numOf_bad hmem.out (by simp [R.dig]; omega))), rfl⟩
        · have hl : u.data.toList.take k = u.data.toList := List.take_of_length_le (by rw [usize]; omega)
          rw [hl] at hb HA ⊢
          have HG := hide (HR.out.trans (R.numOf_good HA.out (by rw [usize]; omega)))
          clear hl
          generalize R.val u.data.toList = V at *
          go_wp2
          go_ret2
          exact ⟨ret_two' HG.out (by omega) (decide_eq_true (by rw [usize]; exact h1)).symm, rfl⟩
    · clear h0
      go_enter Tryz.func109, Tryz.ntmps109
      go_wp2
      generalize s = u at *
      go_loop [5, 6] (fun n i => ∃ k : Nat, k ≤ u.size ∧ k ≤ 9 ∧ i = .int .i64 k ∧ n = .int .i64 (R.val (u.data.toList.take k)) ∧ (u.data.toList.take k).all R.dig = true) (fun _ i => u.size - (intOf i).toNat)
      case atStart => exact ⟨0, by omega, by omega, rfl, rfl, rfl⟩
      case round =>
        obtain ⟨k, hk, hk9, rfl, rfl, ha⟩ := hrel
        have hb := R.val_le (l := u.data.toList.take k) (by rw [List.length_take]; omega) ha
        have HA := hide ha
        clear ha
        by_cases hlt : k < u.size
        · exact absurd hlt (by omega)
        · have hl : u.data.toList.take k = u.data.toList := List.take_of_length_le (by rw [usize]; omega)
          rw [hl] at hb HA ⊢
          have HG := hide (HR.out.trans (R.numOf_good HA.out (by rw [usize]; omega)))
          clear hl
          generalize R.val u.data.toList = V at *
          go_wp2
          go_ret2
          exact ⟨ret_two' HG.out (by omega) (decide_eq_false (by rw [usize]; exact h1)).symm, rfl⟩
end Go.Proofs.YtejbgcloblpbfaaGreatDoor
namespace Go.Proofs.YtejbgcloblpbfaaGreatDoor
namespace R
theorem fail_no {e p : Int} {σ : PS} (he : e ≠ 0) : (fail e p σ).err ≠ 0 := by
  unfold fail
  split
  · exact he
  · assumption
theorem dSize_none {T : List Tok} {k : Int} {σ σ' : PS} (h : dSize T k σ = (σ', none)) : σ'.err ≠ 0 := by
  unfold dSize at h
  split at h
  · split at h
    · simp at h
    · simp only [Prod.mk.injEq] at h
      rw [← h.1]
      exact fail_no (by decide)
  · simp at h
theorem dSize_bd {T : List Tok} {k : Int} {σ σ' : PS} {n : Int} (h : dSize T k σ = (σ', some n)) : 1 ≤ n ∧ n ≤ 6 := by
  unfold dSize at h
  split at h
  · split at h
    · rename_i _ hs
      simp only [Prod.mk.injEq, Option.some.injEq] at h
      unfold isSize at hs
      simp only [Bool.and_eq_true, decide_eq_true_eq] at hs
      omega
    · simp at h
  · simp only [Prod.mk.injEq, Option.some.injEq] at h
    omega
theorem decl_db {T : List Tok} {m : Nat} {σ : PS} (h : DB m σ) (hm : m ≤ 8) (he : (decl T σ).err = 0) : m < 8 ∧ DB (m + 1) (decl T σ) := by
  obtain ⟨d1, d2, d3, d4, d5, d6, d7⟩ := h
  have o1 := opens_core T σ
  have hsz : (opens T σ).size = σ.size := congrArg (fun c => c.2.2.1) o1.1
  have hse : (opens T σ).seen = σ.seen := congrArg (fun c => c.1) o1.1
  have hsh : (opens T σ).shape = σ.shape := congrArg (fun c => c.2.2.2.1) o1.1
  have hnm : (opens T σ).names = σ.names := congrArg (fun c => c.2.1) o1.1
  have hlo : (opens T σ).loops = σ.loops := congrArg (fun c => c.2.2.2.2.1) o1.1
  have hhi : (opens T σ).hidden = σ.hidden := congrArg (fun c => c.2.2.2.2.2.1) o1.1
  have hno := o1.2.1
  have hne := o1.2.2.2
  unfold decl at he ⊢
  split at he
  · exact absurd he (fail_no (by decide))
  · rename_i h8
    rw [if_neg h8]
    refine ⟨by omega, ?_⟩
    clear o1
    generalize opens T σ = σ1 at *
    unfold declIn at he ⊢
    dsimp only at he ⊢
    have s1 := take_same T σ1
    have s2 := dHead_same T (tk T σ1.i) (take T σ1)
    generalize dHead T (tk T σ1.i) (take T σ1) = H at *
    have s3 := fresh_same T H.1
    have s4 := dSize_same T H.2.1 (fresh T H.1)
    obtain ⟨σ6, z, hz⟩ : ∃ σ6 z, dSize T H.2.1 (fresh T H.1) = (σ6, z) := ⟨_, _, rfl⟩
    rw [hz] at he s4 ⊢
    have sm := ((s1.tr s2).tr s3).tr s4
    cases z with
    | none => exact absurd he (dSize_none hz)
    | some n =>
      dsimp only at he sm ⊢
      have hn := dSize_bd hz
      have sk := shut_core T σ6
      have hsz6 : σ6.size = σ1.size := congrArg (fun c => c.2.2.1) sm.core
      have hse6 : σ6.seen = σ1.seen := congrArg (fun c => c.1) sm.core
      have hsh6 : σ6.shape = σ1.shape := congrArg (fun c => c.2.2.2.1) sm.core
      have hnm6 : σ6.names = σ1.names := congrArg (fun c => c.2.1) sm.core
      have hlo6 : σ6.loops = σ1.loops := congrArg (fun c => c.2.2.2.2.1) sm.core
      have hhi6 : σ6.hidden = σ1.hidden := congrArg (fun c => c.2.2.2.2.2.1) sm.core
      have hsz7 : (shut T σ6).size = σ6.size := congrArg (fun c => c.2.2.1) sk.1
      have hse7 : (shut T σ6).seen = σ6.seen := congrArg (fun c => c.1) sk.1
      have hsh7 : (shut T σ6).shape = σ6.shape := congrArg (fun c => c.2.2.2.1) sk.1
      have hnm7 : (shut T σ6).names = σ6.names := congrArg (fun c => c.2.1) sk.1
      have hlo7 : (shut T σ6).loops = σ6.loops := congrArg (fun c => c.2.2.2.2.1) sk.1
      have hhi7 : (shut T σ6).hidden = σ6.hidden := congrArg (fun c => c.2.2.2.2.2.1) sk.1
      have hno7 := sk.2.1
      have hne7 := sk.2.2.1
      have hne6 := sm.nest
      have hno6 := sm.nodes
      clear sk sm
      generalize shut T σ6 = σ7 at *
      refine ⟨?_, ?_, ?_, ?_, ?_, ?_, ?_⟩
      · show σ7.nest = 0; omega
      · show σ7.names + 1 = ((m + 1 : Nat) : Int); omega
      · show 0 ≤ σ7.size + n ∧ σ7.size + n ≤ 6 * ((m + 1 : Nat) : Int); omega
      · show (σ7.seen ++ [_]).length = m + 1
        rw [hse7, hse6, hse]; simp [d4]
      · show ((σ7.shape ++ List.replicate n.toNat _).length : Int) = σ7.size + n
        rw [hsh7, hsh6, hsh, List.length_append, List.length_replicate]
        omega
      · show σ7.nodes = []
        rw [hno7, hno6, hno, d6]
      · show σ7.loops = 0 ∧ σ7.hidden = 0
        omega
theorem decls_stop {T : List Tok} {m : Nat} {σk : PS} (h : ¬ (σk.err = 0 ∧ (tk T σk.i).s.toList = [40] ∧ isDecl (tk T (σk.i + 1)).s.toList = true)) : decls T m σk = σk := by
  cases m with
  | zero => rfl
  | succ m => rw [decls, if_neg h]
end R
end Go.Proofs.YtejbgcloblpbfaaGreatDoor
namespace Go.Proofs.YtejbgcloblpbfaaGreatDoor
open Go.RowKit
theorem run_append_keep {P : Program} (w : World) (t ty e : TypeId) (i : TypeInfo) (z : Value) (size bytes : Nat) (ht : P.underlying t = some (.slice e)) (hi : P.info? e = some i) (hz : i.zero = some z)
    (hsize : i.size = size) (hby : i.bytes = bytes) (hzs : z.cells.size = size) (hsz : 0 < size)
    (v : Value) (n : Nat) (xs : List Value) (hown : w.ownsRow 0 e size v n xs)
    (a : Addr) (m c : Nat) (news : List Value) (hl : news.length = m * size) (hnews : ∀ (j : Nat) u, news[j]? = some u → w.cell? (a.add j) = some u) (h1 : ∀ u ∈ news, u.oneCell' = true)
    (h63 : n + m ≤ maxLen) (hbytes : (n + m) * bytes ≤ 140737488355328) :
    ∃ v' w', (Builtin.append_ #[t, t] ty #[v, .slice (some a) m c]).run P w = .ok v' w' ∧ w'.ownsRow 0 e size v' (n + m) (xs ++ news) ∧ w.grownBy w' v.ownBlock ∧
      (∀ k, v'.ownBlock = some k → v.ownBlock = some k ∨ w.heap.size ≤ k) ∧ w'.ownsRow 0 e size v n xs := by
  obtain ⟨v', w', hr, h2, h3, _⟩ := run_append_own (P := P) w 0 t ty e i z size bytes ht hi hz hsize hby hzs hsz v n xs hown a m c news hl hnews h1 h63 hbytes (Nat.zero_le _)
  refine ⟨v', w', hr, h2, h3, ?_⟩
  obtain ⟨hxl, ⟨rfl, rfl⟩ | ⟨g, cap, cur, rfl, _, hg, hnc, hcap, hcs, hcx⟩⟩ := hown
  · have hxs : xs = [] := List.eq_nil_of_length_eq_zero (by simpa using hxl)
    subst hxs
    obtain ⟨v2, w2, hr2, k2, _, _⟩ := run_append_own (P := P) w w.heap.size t ty e i z size bytes ht hi hz hsize hby hzs hsz (.slice none 0 0) 0 [] (World.ownsRow_nil w _ e size) a m c news hl hnews h1 h63 hbytes (Nat.le_refl _)
    rw [hr] at hr2
    simp only [Result.ok.injEq] at hr2
    obtain ⟨rfl, rfl⟩ := hr2
    refine ⟨fun k hk => Or.inr ?_, World.ownsRow_nil _ 0 e size⟩
    obtain ⟨_, ⟨h0, _⟩ | ⟨g', cap', cur', rfl, hb, _⟩⟩ := k2
    · rw [h0] at hk; simp [Value.ownBlock] at hk
    · simp only [Value.ownBlock, Option.some.injEq] at hk; omega
  · by_cases hroom : n + m ≤ cap
    · have hr2 := run_append_room_cells (P := P) w t ty e i ht hi g 0 n cap a m c news (by rw [hsize]; exact hl) hnews h1 hroom
        (fun j hj => by
          have : 0 + n * i.size + j < cur.size := by
            have := Nat.mul_le_mul_right size hroom
            rw [Nat.add_mul] at this
            rw [hsize]
            omega
          simp [World.cell?, hg]
          simpa using this)
        (fun j hj => by simp [World.frozen?, hg])
      rw [hr] at hr2
      simp only [Result.ok.injEq] at hr2
      refine ⟨fun k hk => Or.inl (by rw [hr2.1] at hk; exact hk), hxl, Or.inr ⟨g, cap, ?_⟩⟩
      obtain ⟨_, ⟨h0, _⟩ | ⟨g', cap', cur', hv', _, e2, e3, e4, e5, e6⟩⟩ := h2
      · rw [hr2.1] at h0; simp at h0
      · rw [hr2.1] at hv'
        simp only [Value.slice.injEq, Option.some.injEq, Addr.mk.injEq] at hv'
        obtain ⟨⟨rfl, _⟩, _, rfl⟩ := hv'
        refine ⟨cur', rfl, Nat.zero_le _, e2, hnc, hcap, e5, ?_⟩
        have e7 := congrArg (List.take (n * size)) e6
        rw [List.take_take, Nat.min_eq_left (Nat.mul_le_mul_right _ (by omega)), List.take_append_of_le_length (by omega)] at e7
        rw [e7]
        exact List.take_of_length_le (by omega)
    · obtain ⟨v2, w2, hr2, k2, k3⟩ := run_append_arg_grows (P := P) w t ty e i z size bytes ht hi hz hsize hby hzs hsz ⟨g, 0, none⟩ n cap xs hxl
        (fun j u hu => by
          have hj : j < n * size := by rw [← hxl]; exact (List.getElem?_eq_some_iff.1 hu).1
          rw [← hcx, List.getElem?_take_of_lt hj] at hu
          have ea : (⟨g, 0, none⟩ : Addr).add j = ⟨g, j, none⟩ := by unfold Addr.add; split <;> simp_all
          rw [ea]
          simp [World.cell?, hg]
          simpa using hu)
        a m c news hl hnews (by omega) h63 hbytes
      rw [hr] at hr2
      simp only [Result.ok.injEq] at hr2
      obtain ⟨rfl, rfl⟩ := hr2
      refine ⟨fun k hk => Or.inr ?_, hxl, Or.inr ⟨g, cap, cur, rfl, Nat.zero_le _, by rw [k3.block g (heap_lt hg) (by simp)]; exact hg, hnc, hcap, hcs, hcx⟩⟩
      obtain ⟨_, ⟨h0, _⟩ | ⟨g', cap', cur', rfl, hb, _⟩⟩ := k2
      · rw [h0] at hk; simp [Value.ownBlock] at hk
      · simp only [Value.ownBlock, Option.some.injEq] at hk; omega
theorem step_append_keep {P : Program} {ops : Array Oper} {o : Oper} {a : Act} {w : World} {K : Act → World → Prop} {Q : Exit → Act → World → Prop} {E : Prop}
    (hg : o.guard = none) (s x : Operand) (t : TypeId) (hop : o.op = Op.call { callee := Callee.builtin Builtin.append, args := #[s, x], argTypes := #[t, t] })
    (e : TypeId) (i : TypeInfo) (z : Value) (size bytes : Nat) (ht : P.underlying t = some (.slice e)) (hi : P.info? e = some i) (hz : i.zero = some z)
    (hsize : i.size = size) (hby : i.bytes = bytes) (hzs : z.cells.size = size) (hsz : 0 < size)
    (v : Value) (n : Nat) (xs : List Value) (hs : a.eval s = v) (hown : w.ownsRow 0 e size v n xs)
    (ad : Addr) (m c : Nat) (news : List Value) (hx : a.eval x = .slice (some ad) m c) (hl : news.length = m * size) (hnews : ∀ (j : Nat) u, news[j]? = some u → w.cell? (ad.add j) = some u) (h1 : ∀ u ∈ news, u.oneCell' = true)
    (h63 : n + m ≤ maxLen) (hbytes : (n + m) * bytes ≤ 140737488355328) (hm : 0 < m)
    (hK : ∀ g cap w', w'.ownsRow 0 e size (.slice (some ⟨g, 0, none⟩) (n + m) cap) (n + m) (xs ++ news) → w.grownBy w' v.ownBlock → (∀ k, (Value.slice (some ⟨g, 0, none⟩) (n + m) cap).ownBlock = some k → v.ownBlock = some k ∨ w.heap.size ≤ k) → w'.ownsRow 0 e size v n xs → K (a.put o.dst (.slice (some ⟨g, 0, none⟩) (n + m) cap)) w') :
    if Region.wanted o (yielded ops a.tmps) = true then Oper.wp P o a w K Q else E := by
  have hw : Region.wanted o (yielded ops a.tmps) = true := by simp [Region.wanted, hg]
  rw [if_pos hw]
  obtain ⟨v', w', hr, h2, h3, h4, h5⟩ := run_append_keep (P := P) w t o.type e i z size bytes ht hi hz hsize hby hzs hsz v n xs hown ad m c news hl hnews h1 h63 hbytes
  obtain ⟨g, cap, rfl⟩ := Joins.ownsRow_form h2 (by omega)
  unfold Oper.wp execOp
  simp only [hop, resolve, invoke, builtin, Sem.run_bind, Sem.run_pure, Result.andThen_ok, List.map_toArray, List.map_cons, List.map_nil, hs, hx, hr]
  exact hK g cap w' h2 h3 h4 h5
theorem info_name : (Tryz.prog.info? 96).map (fun i => (i.zero, i.size, i.bytes)) = some (some (.agg #[.string ⟨#[]⟩, .int .i64 0, .bool false, .int .i64 0, .int .i64 0]), 5, 48) := by kernel_rfl
theorem info_do : (Tryz.prog.info? 151).map (fun i => (i.zero, i.size, i.bytes)) = some (some .nilIface, 1, 16) := by kernel_rfl
end Go.Proofs.YtejbgcloblpbfaaGreatDoor
namespace Go.Proofs.YtejbgcloblpbfaaGreatDoor
namespace K
open R (Tok tk CS cut1 cut2 cut3 cutTo isStop isBr byteAt)
def more (s : ByteArray) : Nat → Nat → Int → List Tok
  | 0, _, _ => []
  | n + 1, i, f => (cut3 s i (cut2 s i (cut1 s i ⟨f, []⟩))).out ++ more s n (i + 1) (cut3 s i (cut2 s i (cut1 s i ⟨f, []⟩))).f
theorem cut_out (s : ByteArray) (i : Nat) (c : CS) : cut3 s i (cut2 s i (cut1 s i c)) = ⟨(cut3 s i (cut2 s i (cut1 s i ⟨c.f, []⟩))).f, c.out ++ (cut3 s i (cut2 s i (cut1 s i ⟨c.f, []⟩))).out⟩ := by
  obtain ⟨f, o⟩ := c
  unfold cut1 cut2 cut3
  by_cases h1 : isStop s i = true ∧ 0 ≤ f
  · simp only [h1, and_self, if_true]
    by_cases h3 : isBr s i = true <;> simp [h3]
  · simp only [h1, if_false]
    by_cases h2 : isStop s i = false ∧ f < 0
    · simp only [h2, and_self, if_true]
      by_cases h3 : isBr s i = true <;> simp [h3]
    · simp only [h2, if_false]
      by_cases h3 : isBr s i = true <;> simp [h3]
theorem cutTo_more (s : ByteArray) (n : Nat) : ∀ i, (cutTo s (i + n)).out = (cutTo s i).out ++ more s n i (cutTo s i).f := by
  induction n with
  | zero => intro i; simp [more]
  | succ n ih =>
    intro i
    have e : i + (n + 1) = (i + 1) + n := by omega
    rw [e, ih (i + 1), cutTo, cut_out, more, List.append_assoc]
theorem toks_more (s : ByteArray) : R.toks s = more s (s.size + 1) 0 (-1) ++ [⟨⟨#[]⟩, s.size⟩] := by
  unfold R.toks
  have h := cutTo_more s (s.size + 1) 0
  rw [Nat.zero_add] at h
  rw [h]
  simp [cutTo]
theorem stop_at {s : ByteArray} {i : Nat} (h : i < s.size) : isStop s i = (blank s[i] || brak s[i]) := by
  unfold isStop blank brak
  rw [R.byte_get s i h, show (i == s.size) = false from by simp; omega]
  simp [Bool.or_assoc]
theorem br_at {s : ByteArray} {i : Nat} (h : i < s.size) : isBr s i = brak s[i] := by
  unfold isBr brak
  rw [R.byte_get s i h, decide_eq_true h]
  rfl
theorem stop_size (s : ByteArray) : isStop s s.size = true := by unfold isStop; simp
theorem br_size (s : ByteArray) : isBr s s.size = false := by unfold isBr; simp
theorem more_blank {s : ByteArray} {n i : Nat} (h : i < s.size) (hb : blank s[i] = true) : more s (n + 1) i (-1) = more s n (i + 1) (-1) := by
  have hs : isStop s i = true := by rw [stop_at h, hb]; rfl
  have hr : isBr s i = false := by
    rw [br_at h]
    revert hb
    unfold blank brak
    intro hb
    rw [Bool.or_eq_true] at hb
    rcases hb with e | e <;> (rw [beq_iff_eq] at e; rw [e]; decide)
  rw [more]
  simp [cut1, cut2, cut3, hs, hr]
theorem more_brak {s : ByteArray} {n i : Nat} (h : i < s.size) (hb : brak s[i] = true) : more s (n + 1) i (-1) = ⟨s.extract i (i + 1), i⟩ :: more s n (i + 1) (-1) := by
  have hs : isStop s i = true := by rw [stop_at h, hb]; simp
  have hr : isBr s i = true := by rw [br_at h]; exact hb
  rw [more]
  simp [cut1, cut2, cut3, hs, hr]
theorem more_end (s : ByteArray) (n : Nat) : more s (n + 1) s.size (-1) = more s n (s.size + 1) (-1) := by
  rw [more]
  simp [cut1, cut2, cut3, stop_size, br_size]
theorem more_word {s : ByteArray} {n i : Nat} (h : i < s.size) (hm : mid s[i] = true) : more s (n + 1) i (-1) = more s n (i + 1) i := by
  unfold mid at hm
  rw [Bool.and_eq_true, Bool.not_eq_true', Bool.not_eq_true'] at hm
  have hs : isStop s i = false := by rw [stop_at h, hm.1, hm.2]; rfl
  have hr : isBr s i = false := by rw [br_at h]; exact hm.2
  rw [more]
  simp [cut1, cut2, cut3, hs, hr]
theorem more_on {s : ByteArray} {n i f : Nat} (h : i < s.size) (hm : mid s[i] = true) : more s (n + 1) i (f : Int) = more s n (i + 1) (f : Int) := by
  unfold mid at hm
  rw [Bool.and_eq_true, Bool.not_eq_true', Bool.not_eq_true'] at hm
  have hs : isStop s i = false := by rw [stop_at h, hm.1, hm.2]; rfl
  have hr : isBr s i = false := by rw [br_at h]; exact hm.2
  have hf : ¬ (f : Int) < 0 := by omega
  rw [more]
  simp [cut1, cut2, cut3, hs, hr, hf]
theorem more_shut {s : ByteArray} {n i f : Nat} (hs : isStop s i = true) : more s (n + 1) i (f : Int) = ⟨s.extract f i, f⟩ :: more s (n + 1) i (-1) := by
  rw [more, more]
  by_cases hr : isBr s i = true
  · simp [cut1, cut2, cut3, hs, hr]
  · simp [cut1, cut2, cut3, hs, hr]
end K
end Go.Proofs.YtejbgcloblpbfaaGreatDoor
