import Derived.Shelf.Strconv.Itoa0
import Derived.Shelf.Strconv.Itoa1
import Derived.Shelf.LaysM
import Derived.Shelf.Strconv.Itoa2
import Derived.Shelf.Strconv.Itoa3
import Derived.Test.YtejbgcloblpbfaaGreatDoorProg
import Derived.Test.YtejbgcloblpbfaaGreatDoorB04
import Derived.Test.YtejbgcloblpbfaaGreatDoorB51
import Derived.Laws.Concat
import Derived.Lib.AppendIntMem
import Derived.Test.YtejbgcloblpbfaaGreatDoorRows
import Derived.Test.YtejbgcloblpbfaaGreatDoorCards
import Derived.Test.YtejbgcloblpbfaaGreatDoorTie
import Derived.ProofKit
import Derived.LaidMore
import Derived.OpenShut
import Derived.Stop.Joined
import Derived.Stop.LaidErr
import Derived.SevenTiedAt
import Derived.ChangeSlices
import Derived.SizedLaws
import Derived.Carry
import Derived.Lib.LaidTab
namespace Go.Proofs
open Go.Shelf
def Tryz.laysM171_ren : Go.Shelf.Ren := ⟨fun | 171 => 37 | 243 => 55 | 246 => 71 | 283 => 96 | 284 => 97 | 285 => 98 | 286 => 99 | 129 => 128 | 317 => 127 | 318 => 129 | 319 => 130 | 320 => 131 | 337 => 165 | 338 => 166 | n => n, fun | 3 => 3 | 9 => 9 | 2 => 2 | 4 => 4 | 171 => 157 | 0 => 0 | 53 => 158 | 37 => 161 | 5 => 5 | 173 => 162 | 212 => 193 | 51 => 194 | 20 => 20 | 213 => 195 | 46 => 197 | 232 => 236 | 233 => 237 | n => n, fun | 17 => 0 | 18 => 1 | 19 => 2 | n => n⟩
theorem Tryz.laysM171 : Go.Proofs.LaysM.n171 Tryz.prog Tryz.laysM171_ren := {
  mixed := by kernel_rfl
  f129 := Tryz.func128.trans (congrArg some (by kernel_rfl))
  f171 := Tryz.func37.trans (congrArg some (by kernel_rfl))
  f243 := Tryz.func55.trans (congrArg some (by kernel_rfl))
  f246 := Tryz.func71.trans (congrArg some (by kernel_rfl))
  f283 := Tryz.func96.trans (congrArg some (by kernel_rfl))
  f284 := Tryz.func97.trans (congrArg some (by kernel_rfl))
  f285 := Tryz.func98.trans (congrArg some (by kernel_rfl))
  f286 := Tryz.func99.trans (congrArg some (by kernel_rfl))
  f317 := Tryz.func127.trans (congrArg some (by kernel_rfl))
  f318 := Tryz.func129.trans (congrArg some (by kernel_rfl))
  f319 := Tryz.func130.trans (congrArg some (by kernel_rfl))
  f320 := Tryz.func131.trans (congrArg some (by kernel_rfl))
  f337 := Tryz.func165.trans (congrArg some (by kernel_rfl))
  f338 := Tryz.func166.trans (congrArg some (by kernel_rfl))
  t0 := Tryz.underlying0
  a0 := Tryz.isAgg0
  z0 := Tryz.sizeOf0
  v0 := Tryz.zeroValue0
  t2 := Tryz.underlying2
  a2 := Tryz.isAgg2
  z2 := Tryz.sizeOf2
  v2 := Tryz.zeroValue2
  t3 := Tryz.underlying3
  a3 := Tryz.isAgg3
  z3 := Tryz.sizeOf3
  v3 := Tryz.zeroValue3
  t4 := Tryz.underlying4
  a4 := Tryz.isAgg4
  z4 := Tryz.sizeOf4
  v4 := Tryz.zeroValue4
  t5 := Tryz.underlying5
  a5 := Tryz.isAgg5
  z5 := Tryz.sizeOf5
  v5 := Tryz.zeroValue5
  t9 := Tryz.underlying9
  a9 := Tryz.isAgg9
  z9 := Tryz.sizeOf9
  v9 := Tryz.zeroValue9
  t20 := Tryz.underlying20
  a20 := Tryz.isAgg20
  z20 := Tryz.sizeOf20
  v20 := Tryz.zeroValue20
  t37 := Tryz.underlying161
  a37 := Tryz.isAgg161
  z37 := Tryz.sizeOf161
  v37 := Tryz.zeroValue161
  t46 := Tryz.underlying197
  a46 := Tryz.isAgg197
  z46 := Tryz.sizeOf197
  v46 := Tryz.zeroValue197
  t51 := Tryz.underlying194
  a51 := Tryz.isAgg194
  z51 := Tryz.sizeOf194
  v51 := Tryz.zeroValue194
  t53 := Tryz.underlying158
  a53 := Tryz.isAgg158
  z53 := Tryz.sizeOf158
  v53 := Tryz.zeroValue158
  t171 := Tryz.underlying157
  a171 := Tryz.isAgg157
  z171 := Tryz.sizeOf157
  v171 := Tryz.zeroValue157
  t173 := Tryz.underlying162
  a173 := Tryz.isAgg162
  z173 := Tryz.sizeOf162
  v173 := Tryz.zeroValue162
  t212 := Tryz.underlying193
  a212 := Tryz.isAgg193
  z212 := Tryz.sizeOf193
  v212 := Tryz.zeroValue193
  t213 := Tryz.underlying195
  a213 := Tryz.isAgg195
  z213 := Tryz.sizeOf195
  t232 := Tryz.underlying236
  a232 := Tryz.isAgg236
  z232 := Tryz.sizeOf236
  v232 := Tryz.zeroValue236
  t233 := Tryz.underlying237
  a233 := Tryz.isAgg237
  z233 := Tryz.sizeOf237
  v233 := Tryz.zeroValue237
  g17 := by kernel_rfl
  g18 := by kernel_rfl
  g19 := by kernel_rfl
  i0 := by kernel_rfl
  i2 := by kernel_rfl
  i3 := by kernel_rfl
  i4 := by kernel_rfl
  i5 := by kernel_rfl
  i9 := by kernel_rfl
  i20 := by kernel_rfl
  i37 := by kernel_rfl
  i46 := by kernel_rfl
  i51 := by kernel_rfl
  i53 := by kernel_rfl
  i171 := by kernel_rfl
  i173 := by kernel_rfl
  i212 := by kernel_rfl
  i232 := by kernel_rfl
  i233 := by kernel_rfl
  m17 := by kernel_rfl
  m18 := by kernel_rfl
  m19 := by kernel_rfl }
open Go.RowKit Go.Sort Go.Lib in
theorem Tryz.strconv_Itoa (n : Int) (h0 : -9223372036854775808 ≤ n) (h1 : n ≤ 9223372036854775807) (w : World) (htab : Lib.TabIs Tryz.prog w "internal/strconv.uint64pow10" .u64 Lib.pow10Tab) :
    Calls Tryz.prog 37 #[.int .i64 n] w fun e w' => e = .returned (.string ⟨(Lib.itoa n).toArray⟩) ∧ ∃ k os, w' = grow (w.drewN k) os := Any.strconv_Itoa Tryz.laysM171 n h0 h1 w htab
end Go.Proofs
namespace Go.Proofs.YtejbgcloblpbfaaGreatDoor
namespace R
def stopB (c : UInt8) : Bool := c == 32 || c == 10 || c == 40 || c == 41
def brB (c : UInt8) : Bool := c == 40 || c == 41
def flush (cur : List UInt8) : List (List UInt8) := if cur = [] then [] else [cur]
def lxw (cur : List UInt8) : List UInt8 → List (List UInt8)
  | [] => flush cur
  | c :: l => if brB c = true then flush cur ++ [c] :: lxw [] l else if stopB c = true then flush cur ++ lxw [] l else lxw (cur ++ [c]) l
theorem lxw_cut {c : UInt8} (hc : stopB c = true) (b : List UInt8) : ∀ (a cur : List UInt8), lxw cur (a ++ c :: b) = lxw cur a ++ ((if brB c = true then [[c]] else []) ++ lxw [] b)
  | [], cur => by
    show lxw cur (c :: b) = flush cur ++ _
    rw [lxw]
    split
    · simp
    · simp
  | d :: a, cur => by
    show lxw cur (d :: (a ++ c :: b)) = lxw cur (d :: a) ++ _
    rw [lxw, lxw]
    split
    · rw [lxw_cut hc b a []]; simp
    · split
      · rw [lxw_cut hc b a []]; simp
      · rw [lxw_cut hc b a (cur ++ [d])]
theorem lxw_word : ∀ (a cur : List UInt8), (∀ c ∈ a, stopB c = false) → lxw cur a = flush (cur ++ a)
  | [], cur, _ => by rw [lxw]; simp
  | c :: a, cur, h => by
    have h1 := h c (by simp)
    have h2 : brB c = false := by unfold stopB at h1; unfold brB; simp at h1 ⊢; exact ⟨h1.1.2, h1.2⟩
    rw [lxw, h2, h1, if_neg (by decide), if_neg (by decide), lxw_word a _ (fun d hd => h d (by simp [hd]))]
    simp
theorem toList_data (s : ByteArray) : s.toList = s.data.toList := ByteArray.toList_eq s
theorem ext_list (s : ByteArray) (a b : Nat) : (s.extract a b).toList = (s.toList.take b).drop a := by
  rw [toList_data, toList_data, ByteArray.data_extract]
  simp [List.drop_take]
def pend (s : ByteArray) (i : Nat) (f : Int) : List UInt8 := if f < 0 then [] else (s.toList.take i).drop f.toNat
def txt (l : List Tok) : List (List UInt8) := l.map fun t => t.s.toList
theorem cut_inv (s : ByteArray) : ∀ i : Nat, i ≤ s.size → (txt (cutTo s i).out ++ lxw (pend s i (cutTo s i).f) (s.toList.drop i) = lxw [] s.toList) ∧ (0 ≤ (cutTo s i).f → (cutTo s i).f < i)
  | 0, _ => by
    constructor
    · simp [cutTo, txt, pend]
    · simp [cutTo]
  | i + 1, h => by
    obtain ⟨h1, h2⟩ := cut_inv s i (by omega)
    have hlen : s.toList.length = s.size := by rw [toList_data]; rfl
    have hi : i < s.toList.length := by omega
    have hd : s.toList.drop i = s.toList[i] :: s.toList.drop (i + 1) := List.drop_eq_getElem_cons hi
    have hb : byteAt s i = s.toList[i] := by
      unfold byteAt
      rw [← toList_data, List.getD_eq_getElem?_getD, List.getElem?_eq_getElem hi]; rfl
    have htk : s.toList.take (i + 1) = s.toList.take i ++ [s.toList[i]] := List.take_succ_eq_append_getElem hi
    rw [hd] at h1
    generalize s.toList[i] = c at *
    have hst : isStop s i = stopB c := by
      unfold isStop stopB
      rw [hb]
      have : (i == s.size) = false := by simp; omega
      rw [this]; simp
    have hbr : isBr s i = brB c := by
      unfold isBr brB
      rw [hb]
      have : decide (i < s.size) = true := by simp; omega
      rw [this]; simp
    have hex : (s.extract i (i + 1)).toList = [c] := by
      rw [ext_list, htk, List.drop_append]
      have e : (s.toList.take i).length = i := by rw [List.length_take]; omega
      rw [e]
      simp
    have hbd := cutTo_bd s i
    rw [cutTo]
    generalize cutTo s i = C at *
    obtain ⟨f, out⟩ := C
    dsimp only at *
    have e : (s.toList.take i).length = i := by rw [List.length_take]; omega
    by_cases hs : stopB c = true
    · -- a stop
      have hc2 : ∀ c' : CS, cut2 s i c' = c' := fun c' => by unfold cut2; rw [if_neg]; rw [hst, hs]; simp
      rw [hc2]
      by_cases hf : 0 ≤ f
      · have hc1 : cut1 s i ⟨f, out⟩ = ⟨-1, out ++ [⟨s.extract f.toNat i, f⟩]⟩ := by unfold cut1; rw [if_pos ⟨by rw [hst, hs], hf⟩]
        have hp : pend s i f = (s.extract f.toNat i).toList := by unfold pend; rw [if_neg (by omega), ext_list]
        have hne : ¬ (s.extract f.toNat i).toList = [] := by
          intro h0
          have := congrArg List.length h0
          rw [ext_list, List.length_drop, e] at this
          have h3 := h2 hf
          simp at this
          omega
        rw [hc1]
        rw [lxw, hp] at h1
        by_cases hr : brB c = true
        · have hc3 : cut3 s i ⟨-1, out ++ [⟨s.extract f.toNat i, f⟩]⟩ = ⟨-1, out ++ [⟨s.extract f.toNat i, f⟩] ++ [⟨s.extract i (i + 1), i⟩]⟩ := by unfold cut3; rw [if_pos (by rw [hbr, hr])]
          rw [hc3]
          rw [if_pos hr] at h1
          refine ⟨?_, fun h => absurd h (by dsimp only; omega)⟩
          rw [← h1]
          simp [txt, pend, flush, hne, hex]
        · have hc3 : cut3 s i ⟨-1, out ++ [⟨s.extract f.toNat i, f⟩]⟩ = ⟨-1, out ++ [⟨s.extract f.toNat i, f⟩]⟩ := by unfold cut3; rw [if_neg (by rw [hbr]; exact hr)]
          rw [hc3]
          rw [if_neg hr, if_pos hs] at h1
          refine ⟨?_, fun h => absurd h (by dsimp only; omega)⟩
          rw [← h1]
          simp [txt, pend, flush, hne]
      · have hc1 : cut1 s i ⟨f, out⟩ = ⟨f, out⟩ := by unfold cut1; rw [if_neg (fun h => hf h.2)]
        have hp : pend s i f = [] := by unfold pend; rw [if_pos (by omega)]
        have hp2 : pend s (i + 1) f = [] := by unfold pend; rw [if_pos (by omega)]
        rw [hc1]
        rw [lxw, hp] at h1
        by_cases hr : brB c = true
        · have hc3 : cut3 s i ⟨f, out⟩ = ⟨f, out ++ [⟨s.extract i (i + 1), i⟩]⟩ := by unfold cut3; rw [if_pos (by rw [hbr, hr])]
          rw [hc3]
          rw [if_pos hr] at h1
          refine ⟨?_, fun h => absurd h hf⟩
          dsimp only
          rw [← h1, hp2]
          simp [txt, flush, hex]
        · have hc3 : cut3 s i ⟨f, out⟩ = ⟨f, out⟩ := by unfold cut3; rw [if_neg (by rw [hbr]; exact hr)]
          rw [hc3]
          rw [if_neg hr, if_pos hs] at h1
          refine ⟨?_, fun h => absurd h hf⟩
          dsimp only
          rw [← h1, hp2]
          simp [txt, flush]
    · -- no stop
      have hr : ¬ brB c = true := by
        unfold stopB at hs; unfold brB
        simp at hs ⊢
        exact ⟨hs.1.2, hs.2⟩
      have hc1 : cut1 s i ⟨f, out⟩ = ⟨f, out⟩ := by unfold cut1; rw [if_neg (fun h => hs (by rw [← hst]; exact h.1))]
      rw [hc1]
      rw [lxw, if_neg hr, if_neg hs] at h1
      have hc3 : ∀ c' : CS, cut3 s i c' = c' := fun c' => by unfold cut3; rw [if_neg (by rw [hbr]; exact hr)]
      rw [hc3]
      by_cases hf : 0 ≤ f
      · have hc2 : cut2 s i ⟨f, out⟩ = ⟨f, out⟩ := by unfold cut2; rw [if_neg (fun h => by have := h.2; dsimp only at this; omega)]
        rw [hc2]
        refine ⟨?_, fun _ => by have := h2 hf; dsimp only; omega⟩
        dsimp only
        rw [← h1]
        have hp : pend s (i + 1) f = pend s i f ++ [c] := by
          unfold pend
          rw [if_neg (by omega), if_neg (by omega), htk, List.drop_append_of_le_length (by rw [e]; have := h2 hf; omega)]
        rw [hp]
      · have hc2 : cut2 s i ⟨f, out⟩ = ⟨i, out⟩ := by
          unfold cut2
          rw [if_pos ⟨by rw [hst]; simpa using hs, by dsimp only; omega⟩]
        rw [hc2]
        refine ⟨?_, fun _ => by dsimp only; omega⟩
        dsimp only
        rw [← h1]
        have hp : pend s i f = [] := by unfold pend; rw [if_pos (by omega)]
        have hp2 : pend s (i + 1) (i : Int) = [c] := by
          unfold pend
          rw [if_neg (by omega), htk, Int.toNat_natCast, List.drop_append, e]
          simp
        rw [hp, hp2]
        rfl
theorem toks_txt (s : ByteArray) : txt (toks s) = lxw [] s.toList ++ [[]] := by
  obtain ⟨h1, h2⟩ := cut_inv s s.size (Nat.le_refl _)
  have hlen : s.toList.length = s.size := by rw [toList_data]; rfl
  have hd : s.toList.drop s.size = [] := by rw [← hlen, List.drop_length]
  rw [hd, lxw] at h1
  unfold toks
  rw [cutTo]
  have hst : isStop s s.size = true := by unfold isStop; simp
  have hbr : isBr s s.size = false := by unfold isBr; simp
  generalize cutTo s s.size = C at *
  obtain ⟨f, out⟩ := C
  dsimp only at *
  have hc3 : ∀ c' : CS, cut3 s s.size c' = c' := fun c' => by unfold cut3; rw [if_neg (by rw [hbr]; decide)]
  have hc2 : ∀ c' : CS, cut2 s s.size c' = c' := fun c' => by unfold cut2; rw [if_neg]; rw [hst]; simp
  rw [hc3, hc2, ← h1]
  have he : (⟨#[]⟩ : ByteArray).toList = [] := by rw [toList_data]
  by_cases hf : 0 ≤ f
  · have hc1 : cut1 s s.size ⟨f, out⟩ = ⟨-1, out ++ [⟨s.extract f.toNat s.size, f⟩]⟩ := by unfold cut1; rw [if_pos ⟨hst, hf⟩]
    have hp : pend s s.size f = (s.extract f.toNat s.size).toList := by unfold pend; rw [if_neg (by omega), ext_list]
    have hne : ¬ (s.extract f.toNat s.size).toList = [] := by
      intro h0
      have := congrArg List.length h0
      rw [ext_list, List.length_drop, List.length_take, hlen] at this
      have h3 := h2 hf
      simp at this
      omega
    rw [hc1, hp]
    simp [txt, flush, hne, he]
  · have hc1 : cut1 s s.size ⟨f, out⟩ = ⟨f, out⟩ := by unfold cut1; rw [if_neg (fun h => hf h.2)]
    have hp : pend s s.size f = [] := by unfold pend; rw [if_pos (by omega)]
    rw [hc1, hp]
    simp [txt, flush, he]
end R
end Go.Proofs.YtejbgcloblpbfaaGreatDoor
namespace Go.Proofs.YtejbgcloblpbfaaGreatDoor
open K (Nm Ex Do S)
open R (tk txt)
namespace H
theorem toList_nil : (⟨#[]⟩ : ByteArray).toList = [] := by rw [R.toList_data]
theorem tk_txt (T : List R.Tok) (i : Nat) : (tk T i).s.toList = (txt T).getD i [] := by
  unfold tk R.txt
  rw [List.getD_eq_getElem?_getD, List.getD_eq_getElem?_getD, List.getElem?_map]
  cases T[i]? with
  | none => exact toList_nil
  | some t => rfl
def Sg (T : List R.Tok) (i : Nat) (seg : List (List UInt8)) : Prop := ∃ pre post, txt T = pre ++ (seg ++ post) ∧ pre.length = i ∧ 0 < post.length
theorem Sg.left {T : List R.Tok} {i : Nat} {a b : List (List UInt8)} (h : Sg T i (a ++ b)) : Sg T i a := by
  obtain ⟨pre, post, h1, h2, h3⟩ := h
  exact ⟨pre, b ++ post, by rw [h1, List.append_assoc], h2, by rw [List.length_append]; omega⟩
theorem Sg.right {T : List R.Tok} {i : Nat} {a b : List (List UInt8)} (h : Sg T i (a ++ b)) : Sg T (i + a.length) b := by
  obtain ⟨pre, post, h1, h2, h3⟩ := h
  exact ⟨pre ++ a, post, by rw [h1, List.append_assoc, List.append_assoc], by rw [List.length_append, h2], h3⟩
theorem Sg.tail {T : List R.Tok} {i : Nat} {x : List UInt8} {b : List (List UInt8)} (h : Sg T i (x :: b)) : Sg T (i + 1) b := Sg.right (a := [x]) h
theorem Sg.word {T : List R.Tok} {i : Nat} {x : List UInt8} {b : List (List UInt8)} (h : Sg T i (x :: b)) : (tk T i).s.toList = x := by
  obtain ⟨pre, post, h1, h2, h3⟩ := h
  rw [tk_txt, h1, List.getD_eq_getElem?_getD, List.getElem?_append_right (by omega), h2, Nat.sub_self]
  rfl
theorem Sg.nx {T : List R.Tok} {i : Nat} {x : List UInt8} {b : List (List UInt8)} (h : Sg T i (x :: b)) : K.nx T i = i + 1 := by
  obtain ⟨pre, post, h1, h2, h3⟩ := h
  have hl : T.length = (txt T).length := by unfold R.txt; rw [List.length_map]
  unfold K.nx
  rw [if_pos (by rw [hl, h1]; simp; omega)]
theorem Sg.bytes {T : List R.Tok} {i : Nat} {x : List UInt8} {b : List (List UInt8)} (h : Sg T i (x :: b)) : (tk T i).s = ⟨x.toArray⟩ := Y.bytes_of0 h.word
def nk : Nm := ⟨⟨#[107]⟩, 0, true, 1, 0⟩
def nl : Nm := ⟨⟨#[108]⟩, 0, true, 1, 1⟩
def nr : Nm := ⟨⟨#[114]⟩, 0, true, 1, 2⟩
theorem find_k : K.findN [107] [nk, nl, nr] = (nk, true) := by kernel_rfl
theorem find_l : K.findN [108] [nk, nl, nr] = (nl, true) := by kernel_rfl
theorem find_r : K.findN [114] [nk, nl, nr] = (nr, true) := by kernel_rfl
def st (i : Nat) (d : Int) : S := ⟨i, [nk, nl, nr], 3, d, 0, 0, 0⟩
theorem st_step {T : List R.Tok} {i : Nat} {x : List UInt8} {b : List (List UInt8)} (h : Sg T i (x :: b)) (d : Int) : K.step T (st i d) = st (i + 1) d := by
  unfold K.step st
  dsimp only
  rw [h.nx]
theorem st_take {T : List R.Tok} {i : Nat} {x : List UInt8} {b : List (List UInt8)} (h : Sg T i (x :: b)) {fits : ByteArray → Bool} (hf : fits ⟨x.toArray⟩ = true) (d : Int) : K.take T fits (st i d) = st (i + 1) d := by
  unfold K.take
  rw [if_pos (by show fits (tk T i).s = true; rw [h.bytes]; exact hf), st_step h]
theorem isIt_self (l : List UInt8) : K.isIt l ⟨l.toArray⟩ = true := by
  unfold K.isIt
  rw [R.toList_data]
  simp
theorem st_open {T : List R.Tok} {i : Nat} {b : List (List UInt8)} (h : Sg T i ([40] :: b)) {d : Int} (hd : d < 10) : K.opened T (st i d) = st (i + 1) (d + 1) := by
  have e : K.op1 T (st i d) = st (i + 1) d := st_take h (isIt_self _) d
  unfold K.opened K.op2
  rw [e, if_neg (by show ¬ d = 10; omega)]
  rfl
theorem st_close {T : List R.Tok} {i : Nat} {b : List (List UInt8)} (h : Sg T i ([41] :: b)) (d : Int) : K.closed T (st i (d + 1)) = st (i + 1) d := by
  have e : K.cl1 T (st i (d + 1)) = st (i + 1) (d + 1) := st_take h (isIt_self _) _
  unfold K.closed
  rw [e]
  unfold K.deeper st
  dsimp only
  rw [Int.add_neg_cancel_right]
def RE (h : Nat) (seg : List (List UInt8)) (P : Ex → Prop) : Prop := ∀ (T : List R.Tok) (i f : Nat) (d : Int), Sg T i seg → d + h ≤ 10 → h < f → ∃ e, K.expr T f (st i d) = (st (i + seg.length) d, e) ∧ P e
theorem RE.up {h h' : Nat} {seg : List (List UInt8)} {P : Ex → Prop} (r : RE h seg P) (hh : h ≤ h') : RE h' seg P := fun T i f d hs hd hf => r T i f d hs (by omega) (by omega)
def numW (x : List UInt8) : Prop := x.all R.dig = true ∧ 1 ≤ x.length ∧ x.length ≤ 9
theorem numW.fits {x : List UInt8} (h : numW x) : K.isNum ⟨x.toArray⟩ = true ∧ ¬ x = [40] ∧ (∀ c ∈ x, R.stopB c = false) := by
  obtain ⟨h1, h2, h3⟩ := h
  have hd : ∀ c ∈ x, 48 ≤ c.toNat ∧ c.toNat ≤ 57 := fun c hc => by
    have := List.all_eq_true.1 h1 c hc
    unfold R.dig at this
    simpa using this
  have hne : ∀ c ∈ x, ∀ k : UInt8, (k.toNat < 48 ∨ 57 < k.toNat) → ¬ c = k := fun c hc k hk e => by
    have := hd c hc
    rw [e] at this
    omega
  have ht : Lib.trimPrefix x [45] = x := by
    match x, h2 with
    | c :: x, _ =>
      have h0 : ¬ c = 45 := hne c (by simp) 45 (by decide)
      have hp : Lib.hasPrefix (c :: x) [45] = false := by
        have e : ((45 : UInt8) == c) = false := beq_false_of_ne fun e => h0 e.symm
        unfold Lib.hasPrefix
        rw [List.isPrefixOf, e]
        rfl
      unfold Lib.trimPrefix
      simp [hp]
  refine ⟨?_, fun e => hne 40 (by rw [e]; simp) 40 (by decide) rfl, fun c hc => ?_⟩
  · unfold K.isNum
    show K.madeOf R.dig 9 ⟨(Lib.trimPrefix x [45]).toArray⟩ = true
    rw [ht]
    unfold K.madeOf
    have e1 : (⟨x.toArray⟩ : ByteArray).size = x.length := by show x.toArray.size = _; simp
    rw [e1]
    simp [h2, h3]
    simpa using h1
  · unfold R.stopB
    have a1 := hne c hc 32 (by decide)
    have a2 := hne c hc 10 (by decide)
    have a3 := hne c hc 40 (by decide)
    have a4 := hne c hc 41 (by decide)
    simp [a1, a2, a3, a4]
theorem re_num {x : List UInt8} (hx : numW x) : RE 0 [x] (fun e => e = .num (K.val ⟨x.toArray⟩)) := by
  intro T i f d hs _ hf
  obtain ⟨f1, f2, _⟩ := hx.fits
  obtain ⟨g, rfl⟩ : ∃ g, f = g + 1 := ⟨f - 1, by omega⟩
  refine ⟨_, ?_, rfl⟩
  show K.exB T (K.expr T g) (st i d) = _
  unfold K.exB
  have hw : (tk T (st i d).i).s.toList = x := hs.word
  have hb : (tk T (st i d).i).s = ⟨x.toArray⟩ := hs.bytes
  rw [if_neg (by rw [hw]; simpa using f2), if_pos (by rw [hb]; exact f1), st_take hs f1, hb]
  rfl
theorem re_use {x : List UInt8} {n : Nm} (h1 : K.findN x [nk, nl, nr] = (n, true)) (h2 : K.canRead n = true) (h3 : R.isName ⟨x.toArray⟩ = true) (h4 : ¬ x = [40]) (h5 : K.isNum ⟨x.toArray⟩ = false) : RE 0 [x] (fun e => e = .use n) := by
  intro T i f d hs _ hf
  obtain ⟨g, rfl⟩ : ∃ g, f = g + 1 := ⟨f - 1, by omega⟩
  have hw : (tk T (st i d).i).s.toList = x := hs.word
  have hb : (tk T (st i d).i).s = ⟨x.toArray⟩ := hs.bytes
  have hn : K.findN (tk T (st i d).i).s.toList (st i d).names = (n, true) := by rw [hw]; exact h1
  refine ⟨_, ?_, rfl⟩
  show K.exB T (K.expr T g) (st i d) = _
  unfold K.exB
  rw [if_neg (by rw [hw]; simpa using h4), if_neg (by rw [hb, h5]; decide)]
  unfold K.known K.knownN
  rw [hn, if_pos (by simpa using h2), st_take hs h3]
  rfl
theorem re_op {c : UInt8} {h : Nat} {sa sb : List (List UInt8)} {Pa Pb : Ex → Prop} (ra : RE h sa Pa) (rb : RE h sb Pb) (hc : R.sign [c] = true) : RE (h + 1) ([40] :: [c] :: (sa ++ (sb ++ [[41]]))) (fun e => ∃ p a b, e = .op p c a b ∧ Pa a ∧ Pb b) := by
  intro T i f d hs hd hf
  obtain ⟨g, rfl⟩ : ∃ g, f = g + 1 := ⟨f - 1, by omega⟩
  have hw : (tk T (st i d).i).s.toList = [40] := hs.word
  have s1 := hs.tail
  have w1 : (tk T (st (i + 1) (d + 1)).i).s.toList = [c] := s1.word
  have b1 : (tk T (st (i + 1) (d + 1)).i).s = ⟨#[c]⟩ := s1.bytes
  have s2 := s1.tail
  obtain ⟨a, ea, pa⟩ := ra T (i + 1 + 1) g (d + 1) s2.left (by omega) (by omega)
  have s3 := s2.right
  obtain ⟨b, eb, pb⟩ := rb T (i + 1 + 1 + sa.length) g (d + 1) s3.left (by omega) (by omega)
  have s4 := s3.right
  refine ⟨_, ?_, (tk T i).p, a, b, rfl, pa, pb⟩
  show K.exB T (K.expr T g) (st i d) = _
  have hk : ∀ l : List UInt8, ¬ l.length = 1 → ¬ ([c] == l) = true := fun l hl e => hl (by rw [← eq_of_beq e]; rfl)
  have ho : K.isOpS (⟨#[c]⟩ : ByteArray) = true := by unfold K.isOpS; rw [R.toList_data]; exact hc
  unfold K.exB
  rw [if_pos (by rw [hw]; rfl), st_open hs (by omega)]
  unfold K.comp
  rw [w1, b1, if_neg (hk _ (by decide)), if_neg (hk _ (by decide)), if_pos ho]
  unfold K.opX
  dsimp only
  rw [st_take s1 (fits := K.isOpS) ho, ea]
  dsimp only
  rw [eb, b1]
  dsimp only
  rw [st_close s4 d]
  have e0 : R.byteAt (⟨#[c]⟩ : ByteArray) 0 = c := rfl
  rw [e0]
  have en : i + 1 + 1 + sa.length + sb.length + 1 = i + ([40] :: [c] :: (sa ++ (sb ++ [[41]]))).length := by simp; omega
  rw [en]
  rfl
theorem re_cho {h : Nat} {sq sa sb : List (List UInt8)} {Pq Pa Pb : Ex → Prop} (rq : RE h sq Pq) (ra : RE h sa Pa) (rb : RE h sb Pb) : RE (h + 1) ([40] :: K.kChoose :: (sq ++ (sa ++ (sb ++ [[41]])))) (fun e => ∃ p q a b, e = .cho p q a b ∧ Pq q ∧ Pa a ∧ Pb b) := by
  intro T i f d hs hd hf
  obtain ⟨g, rfl⟩ : ∃ g, f = g + 1 := ⟨f - 1, by omega⟩
  have hw : (tk T (st i d).i).s.toList = [40] := hs.word
  have s1 := hs.tail
  have w1 : (tk T (st (i + 1) (d + 1)).i).s.toList = K.kChoose := s1.word
  have s2 := s1.tail
  obtain ⟨q, eq, pq⟩ := rq T (i + 1 + 1) g (d + 1) s2.left (by omega) (by omega)
  have s3 := s2.right
  obtain ⟨a, ea, pa⟩ := ra T (i + 1 + 1 + sq.length) g (d + 1) s3.left (by omega) (by omega)
  have s4 := s3.right
  obtain ⟨b, eb, pb⟩ := rb T (i + 1 + 1 + sq.length + sa.length) g (d + 1) s4.left (by omega) (by omega)
  have s5 := s4.right
  refine ⟨_, ?_, (tk T i).p, q, a, b, rfl, pq, pa, pb⟩
  show K.exB T (K.expr T g) (st i d) = _
  unfold K.exB
  rw [if_pos (by rw [hw]; rfl), st_open hs (by omega)]
  unfold K.comp
  rw [w1, if_neg (by decide), if_pos (by decide)]
  unfold K.choX
  dsimp only
  rw [st_step s1, eq]
  dsimp only
  rw [ea]
  dsimp only
  rw [eb]
  dsimp only
  rw [st_close s5 d]
  have en : i + 1 + 1 + sq.length + sa.length + sb.length + 1 = i + ([40] :: K.kChoose :: (sq ++ (sa ++ (sb ++ [[41]])))).length := by simp; omega
  rw [en]
  rfl
def RD (h : Nat) (seg : List (List UInt8)) (P : Do → Prop) : Prop := ∀ (T : List R.Tok) (i f : Nat) (d : Int), Sg T i seg → d + h ≤ 10 → h ≤ f → ∃ x, K.brkDo T (K.doF T f) (st i d) = (st (i + seg.length) d, x) ∧ P x ∧ (tk T i).s.toList = [40]
def kSet : List UInt8 := [115, 101, 116]
def kIf : List UInt8 := [105, 102]
theorem isW_of {T : List R.Tok} {i : Nat} {x : List UInt8} (l : List UInt8) (h : (tk T i).s.toList = x) : K.isW l (tk T i) = (x == l) := by unfold K.isW; rw [h]
theorem rd_set {h : Nat} {se : List (List UInt8)} {P : Ex → Prop} (re : RE h se P) (h10 : h < 10) : RD (h + 1) ([40] :: kSet :: [114] :: (se ++ [[41]])) (fun x => ∃ p e, x = .set p nr e ∧ P e) := by
  intro T i f d hs hd hf
  obtain ⟨g, rfl⟩ : ∃ g, f = g + 1 := ⟨f - 1, by omega⟩
  have s1 := hs.tail
  have s2 := s1.tail
  have s3 := s2.tail
  obtain ⟨e, ee, pe⟩ := re T (i + 1 + 1 + 1) 11 (d + 1) s3.left (by omega) (by omega)
  have s4 := s3.right
  refine ⟨_, ?_, ⟨(tk T i).p, e, rfl, pe⟩, hs.word⟩
  have w1 : (tk T (st (i + 1) (d + 1)).i).s.toList = kSet := s1.word
  have w2 : (tk T (st (i + 1 + 1) (d + 1)).i).s.toList = [114] := s2.word
  have hn : K.findN (tk T (st (i + 1 + 1) (d + 1)).i).s.toList (st (i + 1 + 1) (d + 1)).names = (nr, true) := by rw [w2]; exact find_r
  unfold K.brkDo
  rw [st_open hs (by omega), K.doF]
  unfold K.doX
  rw [isW_of _ w1, if_pos (by decide)]
  unfold K.setX
  dsimp only
  rw [st_step s1]
  unfold K.known K.knownN
  rw [hn, if_pos (by decide), st_take s2 (by decide +kernel), ee]
  dsimp only
  rw [st_close s4 d]
  have en : i + 1 + 1 + 1 + se.length + 1 = i + ([40] :: kSet :: [114] :: (se ++ [[41]])).length := by simp; omega
  rw [en]
  rfl
theorem rd_brk {h : Nat} {seg : List (List UInt8)} {P : Do → Prop} (rd : RD h seg P) {T : List R.Tok} {i f : Nat} {d : Int} (hs : Sg T i ([40] :: (seg ++ [[41]]))) (hd : d + 1 + h ≤ 10) (hf : h ≤ f) :
    ∃ x, K.brk T (fun σ => K.dosL T (K.doF T f) T.length σ []) (st i d) = (st (i + 1 + seg.length + 1) d, [x]) ∧ P x := by
  have s1 := hs.tail
  obtain ⟨x, ex, px, wx⟩ := rd T (i + 1) f (d + 1) s1.left (by omega) hf
  have s2 := s1.right
  obtain ⟨m, hm⟩ : ∃ m, T.length = m + 1 + 1 := by
    obtain ⟨pre, post, h1, _, h3⟩ := hs
    have hl : T.length = (txt T).length := by unfold R.txt; rw [List.length_map]
    have : 2 ≤ T.length := by rw [hl, h1]; simp; omega
    exact ⟨T.length - 2, by omega⟩
  refine ⟨x, ?_, px⟩
  unfold K.brk
  rw [st_open hs (by omega)]
  have w1 : (tk T (st (i + 1) (d + 1)).i).s.toList = [40] := wx
  have w2 : (tk T (st (i + 1 + seg.length) (d + 1)).i).s.toList = [41] := s2.word
  have e : K.dosL T (K.doF T f) T.length (st (i + 1) (d + 1)) [] = (st (i + 1 + seg.length) (d + 1), [x]) := by
    rw [hm, K.dosL, isW_of _ w1, if_pos (by decide), ex]
    dsimp only
    rw [K.dosL, isW_of _ w2, if_neg (by decide)]
    rfl
  dsimp only
  rw [e]
  dsimp only
  rw [st_close s2 d]
theorem rd_if {h : Nat} {sq sy sn : List (List UInt8)} {Pq : Ex → Prop} {Py Pn : Do → Prop} (rq : RE h sq Pq) (ry : RD h sy Py) (rn : RD h sn Pn) (h10 : h < 11) :
    RD (h + 2) ([40] :: kIf :: (sq ++ (([40] :: (sy ++ [[41]])) ++ (([40] :: (sn ++ [[41]])) ++ [[41]])))) (fun x => ∃ p q y n, x = .ifs p q [y] [n] ∧ Pq q ∧ Py y ∧ Pn n) := by
  intro T i f d hs hd hf
  obtain ⟨g, rfl⟩ : ∃ g, f = g + 1 := ⟨f - 1, by omega⟩
  have s1 := hs.tail
  have s2 := s1.tail
  obtain ⟨q, eq, pq⟩ := rq T (i + 1 + 1) 11 (d + 1) s2.left (by omega) (by omega)
  have s3 := s2.right
  obtain ⟨y, ey, py⟩ := rd_brk (f := g) (d := d + 1) ry s3.left (by omega) (by omega)
  have s4 := s3.right
  have l3 : i + 1 + 1 + sq.length + ([40] :: (sy ++ [[41]])).length = i + 1 + 1 + sq.length + 1 + sy.length + 1 := by simp; omega
  rw [l3] at s4
  obtain ⟨n, en, pn⟩ := rd_brk (f := g) (d := d + 1) rn s4.left (by omega) (by omega)
  have s5 := s4.right
  have l4 : i + 1 + 1 + sq.length + 1 + sy.length + 1 + ([40] :: (sn ++ [[41]])).length = i + 1 + 1 + sq.length + 1 + sy.length + 1 + 1 + sn.length + 1 := by simp; omega
  rw [l4] at s5
  refine ⟨_, ?_, ⟨(tk T i).p, q, y, n, rfl, pq, py, pn⟩, hs.word⟩
  have w1 : (tk T (st (i + 1) (d + 1)).i).s.toList = kIf := s1.word
  unfold K.brkDo
  rw [st_open hs (by omega), K.doF]
  unfold K.doX
  rw [isW_of _ w1, isW_of _ w1, isW_of _ w1, if_neg (by decide), if_neg (by decide), if_pos (by decide)]
  unfold K.ifX
  dsimp only
  rw [st_step s1, eq]
  dsimp only
  rw [ey]
  dsimp only
  rw [en]
  dsimp only
  rw [st_close s5 d]
  have el : i + 1 + 1 + sq.length + 1 + sy.length + 1 + 1 + sn.length + 1 + 1 = i + ([40] :: kIf :: (sq ++ (([40] :: (sy ++ [[41]])) ++ (([40] :: (sn ++ [[41]])) ++ [[41]])))).length := by simp; omega
  rw [el]
  rfl
end H
end Go.Proofs.YtejbgcloblpbfaaGreatDoor
namespace Go.Proofs.YtejbgcloblpbfaaGreatDoor
open K (Nm Ex Do S)
open R (tk txt lxw)
namespace H
def sd (i : Nat) (ns : List Nm) (w d : Int) : S := ⟨i, ns, w, d, 0, 0, 0⟩
theorem sd_take {T : List R.Tok} {i : Nat} {x : List UInt8} {b : List (List UInt8)} (h : Sg T i (x :: b)) {fits : ByteArray → Bool} (hf : fits ⟨x.toArray⟩ = true) (ns : List Nm) (w d : Int) : K.take T fits (sd i ns w d) = sd (i + 1) ns w d := by
  unfold K.take
  rw [if_pos (by show fits (tk T i).s = true; rw [h.bytes]; exact hf)]
  unfold K.step sd
  dsimp only
  rw [h.nx]
def kSecret : List UInt8 := [115, 101, 99, 114, 101, 116]
theorem dcl_read {T : List R.Tok} {i : Nat} {x : List UInt8} {b : List (List UInt8)} {ns : List Nm} {w : Int} (hs : Sg T i ([40] :: kSecret :: x :: [41] :: b)) (h8 : ¬ ns.length = 8) (hn : (K.findN x ns).2 = false) (hx : R.isName ⟨x.toArray⟩ = true) :
    K.isDcl T (sd i ns w 0) = true ∧ K.dcl T (sd i ns w 0) = sd (i + 1 + 1 + 1 + 1) ns w 0 ∧ K.dclN T (sd i ns w 0) = ⟨⟨x.toArray⟩, 0, true, 1, w⟩ := by
  have s1 := hs.tail
  have s2 := s1.tail
  have s3 := s2.tail
  have w0 : (tk T (sd i ns w 0).i).s.toList = [40] := hs.word
  have w1 : (tk T (sd (i + 1) ns w 1).i).s.toList = kSecret := s1.word
  have e1 : K.opened T (sd i ns w 0) = sd (i + 1) ns w 1 := by
    have e : K.op1 T (sd i ns w 0) = sd (i + 1) ns w 0 := sd_take hs (isIt_self _) _ _ _
    unfold K.opened K.op2
    rw [e, if_neg (by show ¬ (0 : Int) = 10; decide)]
    rfl
  have e2 : ∀ p, K.dec0 T p (sd (i + 1) ns w 1) = sd (i + 1) ns w 1 := fun p => by unfold K.dec0; rw [if_neg (show ¬ (sd (i + 1) ns w 1).names.length = 8 from h8)]
  have e3 : K.isArr (tk T (sd (i + 1) ns w 1).i) = false := by unfold K.isArr; rw [w1]; decide
  have e4 : K.dec1 T (sd (i + 1) ns w 1) = sd (i + 1 + 1) ns w 1 := sd_take s1 (by unfold K.isSec; rw [R.toList_data]; decide) _ _ _
  have e5 : K.newName T (sd (i + 1 + 1) ns w 1) = sd (i + 1 + 1 + 1) ns w 1 := by
    have w2 : (tk T (sd (i + 1 + 1) ns w 1).i).s.toList = x := s2.word
    unfold K.newName
    rw [w2, if_neg (by show ¬ (K.findN x ns).2 = true; rw [hn]; decide)]
    exact sd_take s2 hx _ _ _
  have e6 : K.closed T (sd (i + 1 + 1 + 1) ns w 1) = sd (i + 1 + 1 + 1 + 1) ns w 0 := by
    have e : K.cl1 T (sd (i + 1 + 1 + 1) ns w 1) = sd (i + 1 + 1 + 1 + 1) ns w 1 := sd_take s3 (isIt_self _) _ _ _
    unfold K.closed
    rw [e]
    rfl
  refine ⟨?_, ?_, ?_⟩
  · unfold K.isDcl
    rw [isW_of _ w0]
    have : (tk T (K.nx T (sd i ns w 0).i)).s.toList = kSecret := by show (tk T (K.nx T i)).s.toList = _; rw [hs.nx]; exact s1.word
    rw [this]
    decide
  · unfold K.dcl
    rw [e1]
    unfold K.decl
    rw [e2, e3, if_neg (by decide)]
    unfold K.dec2
    rw [e4, e5, e6]
  · unfold K.dclN
    rw [e1]
    unfold K.declN
    rw [e2, e3, if_neg (by decide), e4, w1]
    have : (tk T (sd (i + 1 + 1) ns w 1).i).s = ⟨x.toArray⟩ := s2.bytes
    rw [this]
    rfl
def dclW : List (List UInt8) := [[40], kSecret, [107], [41], [40], kSecret, [108], [41], [40], kSecret, [114], [41]]
theorem txt_len (T : List R.Tok) : T.length = (txt T).length := by unfold R.txt; rw [List.length_map]
theorem prog_read {T : List R.Tok} {seg : List (List UInt8)} {h : Nat} {P : Do → Prop} (ht : txt T = dclW ++ (seg ++ [[]])) (rd : RD h seg P) (hh : h ≤ 10) (hsd : ∀ a : List UInt8, (seg ++ [[]])[1]? = some a → ¬ R.isDecl a = true) (h2 : 2 ≤ seg.length) :
    ∃ x, K.progD T = [x] ∧ P x ∧ K.progS T = st (12 + seg.length) 0 := by
  have hT : T.length = 12 + seg.length + 1 := by rw [txt_len, ht]; unfold dclW; simp; omega
  obtain ⟨m, hm⟩ : ∃ m, T.length = m + 1 + 1 + 1 + 1 := ⟨T.length - 4, by omega⟩
  have s0 : Sg T 0 dclW := ⟨[], seg ++ [[]], by rw [ht]; rfl, rfl, by simp⟩
  have s12 : Sg T 12 seg := ⟨dclW, [[]], ht, rfl, by decide⟩
  obtain ⟨x, ex, px, wx⟩ := rd T 12 11 0 s12 (by omega) (by omega)
  obtain ⟨a1, a2, a3⟩ := dcl_read (ns := []) (w := 0) s0 (by decide) (by decide +kernel) (by decide +kernel)
  obtain ⟨b1, b2, b3⟩ := dcl_read (ns := [nk]) (w := 1) s0.tail.tail.tail.tail (by decide) (by decide +kernel) (by decide +kernel)
  obtain ⟨c1, c2, c3⟩ := dcl_read (ns := [nk, nl]) (w := 2) s0.tail.tail.tail.tail.tail.tail.tail.tail (by decide) (by decide +kernel) (by decide +kernel)
  have w12 : (tk T (st 12 0).i).s.toList = [40] := wx
  have e0 : K.prog0 T = st 12 0 := by
    unfold K.prog0
    rw [hm, K.declsL]
    have a1' : K.isDcl T K.start = true := a1
    have a2' : K.dcl T K.start = sd (0 + 1 + 1 + 1 + 1) [] 0 0 := a2
    have a3' : K.dclN T K.start = nk := a3
    rw [a1', if_pos rfl, a2', a3', K.declsL]
    have n1 : K.adds nk (sd (0 + 1 + 1 + 1 + 1) [] 0 0) = sd (0 + 1 + 1 + 1 + 1) [nk] 1 0 := by kernel_rfl
    have b3' : K.dclN T (sd (0 + 1 + 1 + 1 + 1) [nk] 1 0) = nl := b3
    rw [n1, b1, if_pos rfl, b2, b3', K.declsL]
    have n2 : K.adds nl (sd (0 + 1 + 1 + 1 + 1 + 1 + 1 + 1 + 1) [nk] 1 0) = sd (0 + 1 + 1 + 1 + 1 + 1 + 1 + 1 + 1) [nk, nl] 2 0 := by kernel_rfl
    have c3' : K.dclN T (sd (0 + 1 + 1 + 1 + 1 + 1 + 1 + 1 + 1) [nk, nl] 2 0) = nr := c3
    rw [n2, c1, if_pos rfl, c2, c3', K.declsL]
    have n3 : K.adds nr (sd (0 + 1 + 1 + 1 + 1 + 1 + 1 + 1 + 1 + 1 + 1 + 1 + 1) [nk, nl] 2 0) = st 12 0 := by kernel_rfl
    rw [n3, if_neg]
    unfold K.isDcl
    rw [isW_of _ w12]
    match seg, h2, s12, hsd with
    | y :: z :: seg, _, s12, hsd =>
      have : (tk T (K.nx T (st 12 0).i)).s.toList = z := by show (tk T (K.nx T 12)).s.toList = _; rw [s12.nx]; exact s12.tail.word
      rw [this]
      have hz := hsd z rfl
      simpa using hz
  have eE : (tk T (st (12 + seg.length) 0).i).s.toList = [] := by
    show (tk T (12 + seg.length)).s.toList = []
    have el : (dclW ++ seg).length = 12 + seg.length := by rw [List.length_append]; rfl
    rw [tk_txt, ht, ← List.append_assoc, List.getD_eq_getElem?_getD, List.getElem?_append_right (by omega), el, Nat.sub_self]
    rfl
  have ed : K.dos T 11 (K.prog0 T) = (st (12 + seg.length) 0, [x]) := by
    unfold K.dos
    rw [e0, hm, K.dosL, isW_of _ w12, if_pos (by decide), ex]
    dsimp only
    rw [K.dosL, isW_of _ eE, if_neg (by decide)]
    rfl
  refine ⟨x, ?_, px, ?_⟩
  · unfold K.progD
    rw [ed]
  · unfold K.progS
    rw [ed]
    dsimp only
    have hb : (tk T (st (12 + seg.length) 0).i).s = ⟨#[]⟩ := Y.bytes_of0 eE
    unfold K.expect K.take
    rw [hb, if_pos (isIt_self [])]
    unfold K.step st K.nx
    dsimp only
    rw [if_neg (by omega)]
end H
end Go.Proofs.YtejbgcloblpbfaaGreatDoor
namespace Go.Proofs.YtejbgcloblpbfaaGreatDoor
open K (Nm Ex Do S)
open R (tk txt lxw)
namespace H
theorem RE.imp {h : Nat} {seg : List (List UInt8)} {P Q : Ex → Prop} (r : RE h seg P) (i : ∀ e, P e → Q e) : RE h seg Q := fun T j f d hs hd hf => by
  obtain ⟨e, e1, e2⟩ := r T j f d hs hd hf
  exact ⟨e, e1, i e e2⟩
theorem RD.imp {h : Nat} {seg : List (List UInt8)} {P Q : Do → Prop} (r : RD h seg P) (i : ∀ e, P e → Q e) : RD h seg Q := fun T j f d hs hd hf => by
  obtain ⟨e, e1, e2, e3⟩ := r T j f d hs hd hf
  exact ⟨e, e1, i e e2, e3⟩
theorem RD.up {h h' : Nat} {seg : List (List UInt8)} {P : Do → Prop} (r : RD h seg P) (hh : h ≤ h') : RD h' seg P := fun T i f d hs hd hf => r T i f d hs (by omega) (by omega)
def PE (v : List Int → Int) (e : Ex) : Prop := (∀ g, K.gx e g = g) ∧ ∀ W, V.ev W e = v W
def PD (v : List Int → Int) (x : Do) : Prop := (∀ hid g, K.gd hid x g = g) ∧ ∀ W, V.rd x W = W.set 2 (v W)
theorem note_no (p : Int) (g : K.GS) : K.note p false g = g := by unfold K.note; simp
theorem pe_num (n : Int) : PE (fun _ => n) (.num n) := ⟨fun g => rfl, fun W => by rw [V.ev]⟩
theorem pe_use (n : Nm) : PE (fun W => W.getD n.place.toNat 0) (.use n) := ⟨fun g => rfl, fun W => by rw [V.ev]⟩
theorem pe_op {va vb : List Int → Int} {a b : Ex} {c : UInt8} (hc : (c == 47) = false) (ha : PE va a) (hb : PE vb b) (p : Int) : PE (fun W => V.opf c (va W) (vb W)) (.op p c a b) :=
  ⟨fun g => by rw [K.gx, hc, Bool.false_and, note_no, ha.1, hb.1], fun W => by rw [V.ev, ha.2, hb.2]⟩
theorem pe_cho {vq va vb : List Int → Int} {q a b : Ex} (hq : PE vq q) (ha : PE va a) (hb : PE vb b) (p : Int) : PE (fun W => if vq W = 0 then vb W else va W) (.cho p q a b) :=
  ⟨fun g => by rw [K.gx, hq.1, ha.1, hb.1], fun W => by rw [V.ev, hq.2, ha.2, hb.2]⟩
theorem pd_set {v : List Int → Int} {e : Ex} (he : PE v e) (p : Int) : PD v (.set p nr e) :=
  ⟨fun hid g => by
    have ht : K.tells nr e hid = false := rfl
    rw [K.gd, ht, note_no, he.1], fun W => by rw [V.rd, he.2]; rfl⟩
theorem pd_if {vq vy vn : List Int → Int} {q : Ex} {y n : Do} (hq : PE vq q) (hy : PD vy y) (hn : PD vn n) (p : Int) : PD (fun W => if vq W = 0 then vn W else vy W) (.ifs p q [y] [n]) :=
  ⟨fun hid g => by rw [K.gd, hq.1, K.gds, K.gds, K.gds, K.gds, hy.1, hn.1], fun W => by
    rw [V.rd, hq.2]
    dsimp only
    split
    · rw [V.rds, V.rds, hn.2]
    · rw [V.rds, V.rds, hy.2]⟩
def jn (a b : ByteArray) : ByteArray := a ++ b
theorem jn_list (a b : ByteArray) : (jn a b).toList = a.toList ++ b.toList := by
  unfold jn
  rw [R.toList_data, R.toList_data, R.toList_data, ByteArray.data_append]
  simp
theorem jn_le {a b : ByteArray} {n m : Nat} (ha : a.size ≤ n) (hb : b.size ≤ m) : (jn a b).size ≤ n + m := by unfold jn; rw [ByteArray.size_append]; omega
theorem jn_ok (w : World) (a b : ByteArray) {n m : Nat} (ha : a.size ≤ n) (hb : b.size ≤ m) (h : n + m ≤ 100000) : (Op.stringOp .add a b).run Tryz.prog w = .ok (.string (jn a b)) w := run_string_add_sum w a b (by omega)
def ifT (q y n : ByteArray) : ByteArray := jn (jn (jn (jn (jn (jn ⟨#[40, 105, 102, 32]⟩ q) ⟨#[32, 40]⟩) y) ⟨#[41, 32, 40, 40, 115, 101, 116, 32, 114, 32]⟩) n) ⟨#[41, 41, 41]⟩
def choT (q y n : ByteArray) : ByteArray := jn (jn (jn (jn (jn (jn ⟨#[40, 99, 104, 111, 111, 115, 101, 32]⟩ q) ⟨#[32]⟩) y) ⟨#[32]⟩) n) ⟨#[41]⟩
def setT (e : ByteArray) : ByteArray := jn (jn ⟨#[40, 115, 101, 116, 32, 114, 32]⟩ e) ⟨#[41]⟩
def prT (x : ByteArray) : ByteArray := jn ⟨#[40, 115, 101, 99, 114, 101, 116, 32, 107, 41, 40, 115, 101, 99, 114, 101, 116, 32, 108, 41, 40, 115, 101, 99, 114, 101, 116, 32, 114, 41]⟩ x
theorem mk_list (l : List UInt8) : (⟨l.toArray⟩ : ByteArray).toList = l := by rw [R.toList_data]
theorem lex_set (e : ByteArray) : lxw [] (setT e).toList = [40] :: kSet :: [114] :: (lxw [] e.toList ++ [[41]]) := by
  unfold setT
  rw [jn_list, jn_list, mk_list [40, 115, 101, 116, 32, 114, 32], mk_list [41], List.append_assoc]
  show [40] :: kSet :: [114] :: lxw [] (e.toList ++ 41 :: []) = _
  rw [R.lxw_cut (by decide)]
  rfl
theorem lex_if (q y n : ByteArray) : lxw [] (ifT q y n).toList = [40] :: kIf :: (lxw [] q.toList ++ (([40] :: (lxw [] y.toList ++ [[41]])) ++ (([40] :: (([40] :: kSet :: [114] :: (lxw [] n.toList ++ [[41]])) ++ [[41]])) ++ [[41]]))) := by
  unfold ifT
  simp only [jn_list]
  rw [mk_list [40, 105, 102, 32], mk_list [32, 40], mk_list [41, 32, 40, 40, 115, 101, 116, 32, 114, 32], mk_list [41, 41, 41]]
  simp only [List.append_assoc]
  show [40] :: kIf :: lxw [] (q.toList ++ 32 :: 40 :: (y.toList ++ 41 :: 32 :: 40 :: 40 :: 115 :: 101 :: 116 :: 32 :: 114 :: 32 :: (n.toList ++ 41 :: [41, 41]))) = _
  rw [R.lxw_cut (by decide)]
  show [40] :: kIf :: (lxw [] q.toList ++ [40] :: lxw [] (y.toList ++ 41 :: 32 :: 40 :: 40 :: 115 :: 101 :: 116 :: 32 :: 114 :: 32 :: (n.toList ++ 41 :: [41, 41]))) = _
  rw [R.lxw_cut (by decide)]
  show [40] :: kIf :: (lxw [] q.toList ++ [40] :: (lxw [] y.toList ++ [41] :: [40] :: [40] :: kSet :: [114] :: lxw [] (n.toList ++ 41 :: [41, 41]))) = _
  rw [R.lxw_cut (by decide)]
  show [40] :: kIf :: (lxw [] q.toList ++ [40] :: (lxw [] y.toList ++ [41] :: [40] :: [40] :: kSet :: [114] :: (lxw [] n.toList ++ [[41], [41], [41]]))) = _
  simp
theorem lex_cho (q y n : ByteArray) : lxw [] (choT q y n).toList = [40] :: K.kChoose :: (lxw [] q.toList ++ (lxw [] y.toList ++ (lxw [] n.toList ++ [[41]]))) := by
  unfold choT
  simp only [jn_list]
  rw [mk_list [40, 99, 104, 111, 111, 115, 101, 32], mk_list [32], mk_list [41]]
  simp only [List.append_assoc]
  show [40] :: K.kChoose :: lxw [] (q.toList ++ 32 :: (y.toList ++ 32 :: (n.toList ++ 41 :: []))) = _
  rw [R.lxw_cut (by decide), R.lxw_cut (by decide), R.lxw_cut (by decide)]
  rfl
def SE (h : Nat) (s : ByteArray) (v : List Int → Int) : Prop := RE h (lxw [] s.toList) (PE v)
def SD (h : Nat) (s : ByteArray) (v : List Int → Int) : Prop := RD h (lxw [] s.toList) (PD v) ∧ ∃ y z, lxw [] s.toList = [40] :: y :: z ∧ R.isDecl y = false
theorem SE.up {h h' : Nat} {s : ByteArray} {v : List Int → Int} (r : SE h s v) (hh : h ≤ h') : SE h' s v := RE.up r hh
theorem sd_set {h : Nat} {e : ByteArray} {v : List Int → Int} (he : SE h e v) (h10 : h < 10) : SD (h + 1) (setT e) v := by
  unfold SD
  rw [lex_set]
  exact ⟨(rd_set he h10).imp fun x ⟨p, e, h1, h2⟩ => by rw [h1]; exact pd_set h2 p, _, _, rfl, by decide⟩
theorem sd_if {h k : Nat} {q y n : ByteArray} {vq vy vn : List Int → Int} (hq : SE h q vq) (hy : SD h y vy) (hn : SE k n vn) (hk : k + 1 ≤ h) (h10 : h < 11) : SD (h + 2) (ifT q y n) (fun W => if vq W = 0 then vn W else vy W) := by
  unfold SD
  rw [lex_if]
  exact ⟨(rd_if hq hy.1 ((rd_set hn (by omega)).up hk) h10).imp fun x ⟨p, q, y, n, h1, h2, h3, ⟨p', e, h4, h5⟩⟩ => by rw [h1, h4]; exact pd_if h2 h3 (pd_set h5 p') p, _, _, rfl, by decide⟩
theorem se_cho {h : Nat} {q y n : ByteArray} {vq vy vn : List Int → Int} (hq : SE h q vq) (hy : SE h y vy) (hn : SE h n vn) : SE (h + 1) (choT q y n) (fun W => if vq W = 0 then vn W else vy W) := by
  unfold SE
  rw [lex_cho]
  exact (re_cho hq hy hn).imp fun x ⟨p, q, y, n, h1, h2, h3, h4⟩ => by rw [h1]; exact pe_cho h2 h3 h4 p
theorem se_num {x : List UInt8} (hx : numW x) : SE 0 ⟨x.toArray⟩ (fun _ => K.val ⟨x.toArray⟩) := by
  have hl : lxw [] (⟨x.toArray⟩ : ByteArray).toList = [x] := by
    rw [mk_list, R.lxw_word x [] hx.fits.2.2, List.nil_append]
    unfold R.flush
    rw [if_neg (fun e => by have := hx.2.1; rw [e] at this; simp at this)]
  unfold SE
  rw [hl]
  exact (re_num hx).imp fun e he => by rw [he]; exact pe_num _
theorem ru_k : RE 0 [[107]] (PE fun W => W.getD 0 0) := (re_use find_k (by decide) (by decide +kernel) (by decide) (by decide +kernel)).imp fun e he => by rw [he]; exact pe_use nk
theorem ru_l : RE 0 [[108]] (PE fun W => W.getD 1 0) := (re_use find_l (by decide) (by decide +kernel) (by decide) (by decide +kernel)).imp fun e he => by rw [he]; exact pe_use nl
theorem ru_r : RE 0 [[114]] (PE fun W => W.getD 2 0) := (re_use find_r (by decide) (by decide +kernel) (by decide) (by decide +kernel)).imp fun e he => by rw [he]; exact pe_use nr
theorem ru_n (c : UInt8) (hc : R.dig c = true) : RE 0 [[c]] (PE fun _ => K.val ⟨#[c]⟩) := (re_num (x := [c]) ⟨by simp [hc], by simp, by simp⟩).imp fun e he => by rw [he]; exact pe_num _
theorem ru_op {sa sb : List (List UInt8)} {va vb : List Int → Int} (c : UInt8) (hc : R.sign [c] = true) (h47 : (c == 47) = false) (ra : RE 0 sa (PE va)) (rb : RE 0 sb (PE vb)) : RE 1 ([40] :: [c] :: (sa ++ (sb ++ [[41]]))) (PE fun W => V.opf c (va W) (vb W)) :=
  (re_op ra rb hc).imp fun e ⟨p, a, b, h1, h2, h3⟩ => by rw [h1]; exact pe_op h47 h2 h3 p
def askT (i : Nat) : ByteArray := if i = 0 then ⟨#[107]⟩ else if i = 1 then ⟨#[108]⟩ else if i = 2 then ⟨#[40, 60, 32, 107, 32, 108, 41]⟩ else if i = 3 then ⟨#[40, 61, 32, 107, 32, 51, 41]⟩ else ⟨#[40, 94, 32, 108, 32, 49, 41]⟩
def plusT : ByteArray := ⟨#[40, 43, 32, 114, 32, 49, 41]⟩
theorem se_plus : ∃ v, SE 1 plusT v := by
  unfold SE
  have : lxw [] plusT.toList = [40] :: [43] :: ([[114]] ++ ([[49]] ++ [[41]])) := by unfold plusT; rw [mk_list [40, 43, 32, 114, 32, 49, 41]]; rfl
  rw [this]
  exact ⟨_, ru_op 43 (by decide) (by decide) ru_r (ru_n 49 (by decide))⟩
theorem se_ask (i : Nat) : ∃ v, SE 1 (askT i) v := by
  unfold askT SE
  split
  · rw [mk_list [107]]
    exact ⟨_, ru_k.up (by omega)⟩
  · split
    · rw [mk_list [108]]
      exact ⟨_, ru_l.up (by omega)⟩
    · split
      · rw [mk_list [40, 60, 32, 107, 32, 108, 41]]
        exact ⟨_, ru_op 60 (by decide) (by decide) ru_k ru_l⟩
      · split
        · rw [mk_list [40, 61, 32, 107, 32, 51, 41]]
          exact ⟨_, ru_op 61 (by decide) (by decide) ru_k (ru_n 51 (by decide))⟩
        · rw [mk_list [40, 94, 32, 108, 32, 49, 41]]
          exact ⟨_, ru_op 94 (by decide) (by decide) ru_l (ru_n 49 (by decide))⟩
theorem ask_le (i : Nat) : (askT i).size ≤ 7 := by
  unfold askT
  split
  · decide
  · split
    · decide
    · split
      · decide
      · split <;> decide
theorem prog_facts {h : Nat} {x : ByteArray} {v : List Int → Int} (hd : SD h x v) (hh : h ≤ 10) (hs : (prT x).size ≤ 800) :
    (R.read (prT x)).err = 0 ∧ (R.read (prT x)).shape.length = 3 ∧ ∀ W, V.rds (K.progD (R.toks (prT x))) W = W.set 2 (v W) := by
  obtain ⟨rd, y, z, hl, hy⟩ := hd
  have ht : txt (R.toks (prT x)) = dclW ++ (lxw [] x.toList ++ [[]]) := by
    rw [R.toks_txt]
    unfold prT
    rw [jn_list, mk_list [40, 115, 101, 99, 114, 101, 116, 32, 107, 41, 40, 115, 101, 99, 114, 101, 116, 32, 108, 41, 40, 115, 101, 99, 114, 101, 116, 32, 114, 41]]
    rfl
  obtain ⟨d, e1, e2, e3⟩ := prog_read ht rd hh (fun a ha => by rw [hl] at ha; cases ha; rw [hy]; decide) (by rw [hl]; simp)
  have hf : K.found (R.toks (prT x)) = (0, false) := by
    unfold K.found
    rw [e1, K.gds, K.gds, e2.1]
  have hk := Q.check_read (R.toks_ended (prT x))
  have hc : K.check (prT x) = (0, 0) := by
    unfold K.check
    rw [if_neg (by omega)]
    unfold K.checkT
    rw [e3, hf]
    rfl
  rw [hc] at hk
  have he : (R.read (prT x)).err = 0 := (congrArg Prod.fst hk).symm
  obtain ⟨_, _, _, p4, _⟩ := Q.shape_ok hs he
  rw [e3] at p4
  refine ⟨he, ?_, fun W => ?_⟩
  · have : (3 : Int) = ((R.read (prT x)).shape.length : Int) := p4
    omega
  · rw [e1, V.rds, V.rds, e2.2]
end H
end Go.Proofs.YtejbgcloblpbfaaGreatDoor
namespace Go.Proofs.YtejbgcloblpbfaaGreatDoor
open Go.RowKit
open K (Nm Ex Do)
namespace Y
theorem fin_len {l : List Do} {ms : List Int} : ((V.rds l (ms ++ [0, 0])).take ms.length).length = ms.length := by
  rw [List.length_take, V.rds_len, List.length_append]
  simp
theorem fin_get {l : List Do} {ms : List Int} {j : Nat} {u : Int} (h : ((V.rds l (ms ++ [0, 0])).take ms.length)[j]? = some u) : j < ms.length ∧ (V.rds l (ms ++ [0, 0])).getD j 0 = u := by
  rw [List.getElem?_take] at h
  split at h
  · rename_i c
    exact ⟨c, by rw [List.getD_eq_getElem?_getD, h]; rfl⟩
  · cases h
theorem MAt.ints {w : World} {b lo : Nat} {R M : Nat → Int} {S : List Int} (h : MAt w b lo R M S) {l : List Int} (hN : l.length ≤ 256) (hl : ∀ (j : Nat) u, l[j]? = some u → M j = u) : IntsAt w (some ⟨b, 8, none⟩) l := fun j u hj => by
  have hlt := (List.getElem?_eq_some_iff.1 hj).1
  refine ⟨b, 8, rfl, h.lt, ?_⟩
  rw [(h.mem (a := j) (by omega)).1, hl j u hj]
end Y
end Go.Proofs.YtejbgcloblpbfaaGreatDoor
namespace Go.Proofs.YtejbgcloblpbfaaGreatDoor
open Go.RowKit
open K (Nm Ex Do)
namespace Y
theorem wd_get (one : List Int) {n j : Nat} (h : j < n) : (wdA one n)[j]? = some (one.getD j 0) := by
  unfold wdA
  rw [List.getElem?_map, List.getElem?_range h]; rfl
theorem wdb_get (sh : List Bool) (one two : List Int) {n j : Nat} (h : j < n) : (wdB sh one two n)[j]? = some (if sh.getD j false = true then two.getD j 0 else one.getD j 0) := by
  unfold wdB
  rw [List.getElem?_map, List.getElem?_range h]; rfl
theorem wd_pa (sh : List Bool) (one two : List Int) : PA (fun j => !(sh.getD j false)) (wdA one sh.length ++ [0, 0]) (wdB sh one two sh.length ++ [0, 0]) := by
  have la := wdA_len one sh.length
  have lb := wdB_len sh one two sh.length
  refine ⟨by rw [List.length_append, List.length_append, la, lb], fun j hj => ?_⟩
  have hs : ¬ sh.getD j false = true := by
    intro e
    have hj' : (!(sh.getD j false)) = true := hj
    rw [e] at hj'
    cases hj'
  rw [List.getD_eq_getElem?_getD, List.getD_eq_getElem?_getD]
  by_cases c : j < sh.length
  · rw [List.getElem?_append_left (by omega), List.getElem?_append_left (by omega), wd_get _ c, wdb_get _ _ _ c, if_neg hs]
  · rw [List.getElem?_append_right (by omega), List.getElem?_append_right (by omega), la, lb]
theorem seen_same {N : Nat} {sh : List Bool} {l : List Do} (hP : Pr N sh l) (one two : List Int) : seenOf N l (wdA one sh.length) = seenOf N l (wdB sh one two sh.length) := by
  unfold seenOf
  rw [(l_pub l (dep := 0) false hP.sc hP.pb hP.ok true true (fun _ => ⟨rfl, rfl⟩) _ _ (wd_pa sh one two) 0 ((List.range 256).drop (N + 2)) none).1]
set_option maxHeartbeats 1000000 in
theorem ksame_q {l : List Int} {w : World} {a b : Option Addr} {ca cb : Nat} (h54 : l.length ≤ 1000000) (ha : IntsAt w a l) (hb : IntsAt w b l) :
    Calls Tryz.prog 35 #[.slice a l.length ca, .slice b l.length cb] w fun x w' => x = .returned (.bool true) ∧ ∃ m, w' = w.drewN m := by
  have HA := hide ha
  have HB := hide hb
  clear ha hb
  go_enter Tryz.func35, Tryz.ntmps35
  go_wp2_with fail
  go_loopg [5] l.length (fun gk i wr => ∃ k : Nat, k + gk = l.length ∧ i = .int .i64 (k : Int) ∧ ∃ m, wr = w.drewN m)
  case atStart => exact ⟨0, by omega, rfl, 0, rfl⟩
  case round =>
    obtain ⟨k, hk, rfl, m, hs⟩ := hrel
    subst hs
    cases gk with
    | zero =>
      have hz : ¬ ((k : Int) < (l.length : Int)) := by omega
      go_wp2_with fail
      go_ret
      exact ⟨rfl, m, rfl⟩
    | succ g1 =>
      have hz : (k : Int) < (l.length : Int) := by omega
      obtain ⟨u, hu⟩ : ∃ u, l[k]? = some u := ⟨_, List.getElem?_eq_getElem (by omega)⟩
      obtain ⟨ga, oa, rfl, _, c1⟩ := HA.out k u hu
      obtain ⟨gb, ob, rfl, _, c2⟩ := HB.out k u hu
      have c1' : (w.drewN m).cell? ⟨ga, oa + k, none⟩ = some (.int .i64 u) := c1
      have c2' : (w.drewN m).cell? ⟨gb, ob + k, none⟩ = some (.int .i64 u) := c2
      generalize hWm : w.drewN m = Wm at *
      go_wp2_with (go_quiet (fail))
      go_roundg g1
      case measure => omega
      case rel => exact ⟨k + 1, by omega, by go_num, _, by rw [← hWm, World.drewN_drewN]⟩
theorem go_seen {C : List Ins} : ∀ {n : Nat} {s s' : Ma}, go C n s = some s' → s'.seen.length ≤ s.seen.length + 3 * n
  | 0, s, s', h => by rw [go_zero h]; omega
  | n + 1, s, s', h => by
    obtain ⟨i, s1, _, h2, h3⟩ := go_succ h
    have := step_seen h2
    have := go_seen h3
    omega
theorem seenOf_len {N : Nat} {sh : List Bool} {l : List Do} (hP : Pr N sh l) (ms : List Int) (hm : ms.length = N) : (seenOf N l ms).length ≤ 400000 := by
  obtain ⟨n, s', h1, h2, _, _, h5⟩ := pr_sim2 hP ms hm
  have := go_seen h1
  rw [← h5, List.length_append]
  simp at this ⊢
  omega
theorem MAt.seenI {w : World} {b lo : Nat} {R M : Nat → Int} {S : List Int} (h : MAt w b lo R M S) : ∃ sa sc, w.cell? ⟨b, 264, none⟩ = some (.slice sa S.length sc) ∧ IntsAt w sa S := by
  obtain ⟨sa, sc, c, _, _, o, _⟩ := h.ready
  exact ⟨sa, sc, c, IntsAt.of_own o⟩
end Y
end Go.Proofs.YtejbgcloblpbfaaGreatDoor
namespace Go.Proofs.YtejbgcloblpbfaaGreatDoor
open Go.RowKit
open K (Nm Ex Do)
open Y (IntsAt)
namespace H
theorem dig_ok : ∀ d : Nat, d < 10 → R.dig (UInt8.ofNat (48 + d)) = true := by decide
theorem dec_all : ∀ u : Nat, (Lib.decDigits u).all R.dig = true ∧ 1 ≤ (Lib.decDigits u).length := by
  intro u
  induction u using Nat.strongRecOn with
  | ind u ih =>
    rw [Lib.decDigits]
    split
    · rename_i h
      have := dig_ok u h
      exact ⟨by rw [List.all_cons, this]; rfl, by simp⟩
    · have h1 := ih (u / 10) (by omega)
      have h2 := dig_ok (u % 10) (by omega)
      exact ⟨by rw [List.all_append, h1.1, List.all_cons, h2]; rfl, by simp⟩
theorem dec_len {u : Nat} (h : u < 1000) : (Lib.decDigits u).length ≤ 3 := by
  rw [Lib.decDigits]
  split
  · simp
  · rw [Lib.decDigits]
    split
    · simp
    · rw [Lib.decDigits, dif_pos (by omega)]
      simp
theorem itoa_numW {n : Int} (h0 : 0 ≤ n) (h1 : n < 1000) : numW (Lib.itoa n) ∧ (Lib.itoa n).length ≤ 3 := by
  have e : Lib.itoa n = Lib.decDigits n.toNat := by unfold Lib.itoa; rw [if_neg (by omega)]
  rw [e]
  have h2 := dec_all n.toNat
  have h3 := dec_len (u := n.toNat) (by omega)
  exact ⟨⟨h2.1, h2.2, by omega⟩, h3⟩
theorem itoa_k {n : Int} (h0 : 0 ≤ n) (h1 : n < 1000) (w : World) (hT : Lib.TabIs Tryz.prog w "internal/strconv.uint64pow10" .u64 Lib.pow10Tab) :
    Calls Tryz.prog 37 #[.int .i64 n] w fun e w' => e = .returned (.string ⟨(Lib.itoa n).toArray⟩) ∧ Below w.heap.size w w' :=
  (Tryz.strconv_Itoa n (by omega) (by omega) w hT).mono fun e w' ⟨h, k, os, hw⟩ => ⟨h, by rw [hw]; exact Lib.below_grow _ _ (Nat.le_refl _) _ _⟩
def pk (c n : Int) : Int := (if c < 0 then -(c + 1) else c).tmod n
theorem pk_bd (c : Int) {n : Int} (h : 0 < n) : 0 ≤ pk c n ∧ pk c n < n := by
  unfold pk
  have h0 : 0 ≤ (if c < 0 then -(c + 1) else c) := by split <;> omega
  exact ⟨Int.tmod_nonneg _ h0, Int.tmod_lt_of_pos _ h⟩
set_option maxHeartbeats 1000000 in
theorem pick_c {c n : Int} (hc : -9223372036854775808 ≤ c ∧ c ≤ 9223372036854775807) (hn : 0 < n) (hn2 : n ≤ 1000) (w : World) : Calls Tryz.prog 38 #[.int .i64 c, .int .i64 n] w fun x w' => x = .returned (.int .i64 (pk c n)) ∧ w' = w := by
  have hb := pk_bd c hn
  have n0 : ¬ n = 0 := by omega
  have n1 : ¬ n = -1 := by omega
  by_cases e : c < 0
  · have e1 : IntKind.i64.wrap (c + 1) = c + 1 := k64 _ (by omega)
    have e2 : IntKind.i64.wrap (-(c + 1)) = -(c + 1) := k64 _ (by omega)
    have e3 : pk c n = (-(c + 1)).tmod n := by unfold pk; rw [if_pos e]
    rw [e3] at hb ⊢
    have e4 : IntKind.i64.wrap ((-(c + 1)).tmod n) = (-(c + 1)).tmod n := k64 _ (by omega)
    go_enter Tryz.func38, Tryz.ntmps38
    go_wp2_with fail
    go_ret
    exact ⟨congrArg (fun z => Ending.returned (.int .i64 z)) (Int.neg_tmod _ _).symm, rfl⟩
  · have e3 : pk c n = c.tmod n := by unfold pk; rw [if_neg e]
    rw [e3] at hb ⊢
    have e4 : IntKind.i64.wrap (c.tmod n) = c.tmod n := k64 _ (by omega)
    go_enter Tryz.func38, Tryz.ntmps38
    go_wp2_with fail
    go_ret
    exact ⟨congrArg (fun z => Ending.returned (.int .i64 z)) (Int.tmod_eq_emod_of_nonneg (by omega)).symm, rfl⟩
theorem ar_step {w wr w3 : World} {k : Nat} {mem : List Int} {aa : Option Addr} {ac ga ca : Nat} {x : Int} (ra : wr.ownsRow w.heap.size 3 1 (.slice aa k ac) k (ints (Y.wdA mem k))) (be : Below w.heap.size w wr) (hx : mem.getD k 0 = x)
    (r3 : w3.ownsRow 0 3 1 (.slice (some ⟨ga, 0, none⟩) (k + 1) ca) (k + 1) (ints (Y.wdA mem k) ++ [.int .i64 x])) (g3 : (wr.alloc (.cells #[.int .i64 x] 3 (0, 0))).grownBy w3 (Value.slice aa k ac).ownBlock) (k3 : ∀ q, (Value.slice (some ⟨ga, 0, none⟩) (k + 1) ca).ownBlock = some q → (Value.slice aa k ac).ownBlock = some q ∨ (wr.alloc (.cells #[.int .i64 x] 3 (0, 0))).heap.size ≤ q) :
    w3.ownsRow w.heap.size 3 1 (.slice (some ⟨ga, 0, none⟩) (k + 1) ca) (k + 1) (ints (Y.wdA mem (k + 1))) ∧ Below w.heap.size w w3 := by
  have z3 : wr.heap.size + 1 ≤ w3.heap.size := by have e2 : (World.alloc _ _).heap.size ≤ _ := g3.size; rw [size_alloc] at e2; exact e2
  have zb := be.size
  have ka : (Value.slice aa k ac).ownBlock = some ga ∨ wr.heap.size + 1 ≤ ga := (k3 ga rfl).imp id (fun e => by have e2 : (World.alloc _ _).heap.size ≤ ga := e; rw [size_alloc] at e2; exact e2)
  refine ⟨?_, ⟨(g3.os.trans rfl).trans be.os, (g3.tape.trans rfl).trans be.tape, (g3.output.trans rfl).trans be.output, by omega, fun q hq => ?_⟩⟩
  · rw [Y.wdA_succ, hx]
    refine Y.own_up r3 (fun q e => ?_)
    cases e
    show w.heap.size ≤ ga
    rcases ka with f | f
    · exact (ra.lt _ f).1
    · omega
  · exact (g3.block q (by show q < (World.alloc _ _).heap.size; rw [size_alloc]; omega) (fun e => by have := (ra.lt q e.symm).1; omega)).trans ((heap_alloc_old _ _ _ (by omega)).trans (be.block q hq))
structure Tx (s : ByteArray) (f : List Int → List Int) : Prop where
  size : s.size ≤ 800
  err : (R.read s).err = 0
  len : (R.read s).shape.length = 3
  does : ∀ W, V.rds (K.progD (R.toks s)) W = f W
theorem tx_of {h : Nat} {x : ByteArray} {v : List Int → Int} (hd : SD h x v) (hh : h ≤ 10) (hs : x.size ≤ 700) : Tx (prT x) (fun W => W.set 2 (v W)) := by
  have hs' : (prT x).size ≤ 800 := Nat.le_trans (jn_le (n := 30) (m := 700) (by decide) hs) (by decide)
  obtain ⟨h1, h2, h3⟩ := prog_facts hd hh hs'
  exact ⟨hs', h1, h2, h3⟩
theorem Tx.run {s : ByteArray} {f : List Int → List Int} (t : Tx s f) (w : World) (hv : K.Vars w) (hw : 5 ≤ w.heap.size) (aM : Option Addr) (cM : Nat) (ms : List Int) (hl : ms.length = 3) (hM : IntsAt w aM ms) :
    Calls Tryz.prog 21 #[.string s, .slice aM 3 cM] w fun x w' => (∃ g, x = .returned (.tuple #[.slice (some ⟨g, 0, none⟩) 3 3, .int .i64 0]) ∧ w.heap.size ≤ g ∧ At w' g 3 (((f (ms ++ [0, 0])).take 3).map fun n => .int .i64 n)) ∧ Below w.heap.size w w' := by
  have h := Y.run_k s w (by have := t.size; exact Nat.le_trans this (by decide)) hv hw aM cM ms hM
  rw [hl] at h
  refine h.mono fun x w' ⟨h1, h2⟩ => ⟨?_, h2⟩
  rcases h1 with ⟨h1, _⟩ | ⟨_, h1, _⟩ | ⟨_, _, g, h3, h4, h5⟩
  · exact absurd t.err h1
  · rw [t.len] at h1; exact absurd rfl h1
  · rw [t.does] at h5
    exact ⟨g, h3, h4, h5⟩
theorem Tx.comp {s : ByteArray} {f : List Int → List Int} (t : Tx s f) : ∃ C : List Y.Ins, (∀ (w : World), K.Vars w → 5 ≤ w.heap.size → Calls Tryz.prog 27 #[.string s] w fun x w' => (∃ ca cc, x = .returned (.tuple #[.slice ca C.length cc, .int .i64 0]) ∧ w'.ownsRow w.heap.size 58 5 (.slice ca C.length cc) C.length (C.flatMap Y.inV)) ∧ Below w.heap.size w w') ∧
    (∀ (w : World) (b base : Nat) (ca : Option Addr) (cc : Nat) (aM : Option Addr) (cM : Nat) (ms : List Int), ms.length = 3 → At w b 73 (Y.mcells (fun _ => 0) (fun _ => 0) (.slice none 0 0)) → w.ownsRow base 58 5 (.slice ca C.length cc) C.length (C.flatMap Y.inV) → IntsAt w aM ms → (∀ o, ¬ aM = some ⟨b, o, none⟩) →
      Calls Tryz.prog 34 #[PT b, .slice ca C.length cc, .slice aM 3 cM] w fun x w' => (x = .returned (.bool true) ∧ IntsAt w' (some ⟨b, 8, none⟩) ((f (ms ++ [0, 0])).take 3)) ∧ But b w w') := by
  have hP := Y.prog_al t.size t.err
  rw [t.len] at hP
  refine ⟨Y.prC 3 (K.progD (R.toks s)), fun w hv hw => ?_, fun w b base ca cc aM cM ms hl mach code mem hb => ?_⟩
  · have h := Y.compile_c s w (Nat.le_trans t.size (by decide)) hv hw
    rw [t.len] at h
    refine h.mono fun x w' ⟨h1, h2⟩ => ⟨?_, h2⟩
    rcases h1 with ⟨h1, _⟩ | ⟨_, _, cv, h3, h4⟩
    · exact absurd t.err h1
    · obtain ⟨ca, cc, rfl⟩ : ∃ ca cc, cv = .slice ca (Y.prC 3 (K.progD (R.toks s))).length cc := by
        rcases Joins.ownsRow_forms h4 with ⟨rfl, h0⟩ | ⟨g, c, rfl⟩
        · exact ⟨none, 0, by rw [h0]⟩
        · exact ⟨_, _, rfl⟩
      exact ⟨ca, cc, h3, h4⟩
  · have h := Y.run_play (cM := cM) hP hl mach code mem hb
    rw [hl] at h
    refine h.mono fun x w' ⟨⟨h1, R1, M1, h3, h4⟩, h2⟩ => ⟨⟨h1, ?_⟩, h2⟩
    have hfl : ((f (ms ++ [0, 0])).take 3).length ≤ 256 := by rw [List.length_take]; omega
    refine h3.ints hfl fun j u hj => ?_
    rw [← t.does, ← hl] at hj
    obtain ⟨f1, f2⟩ := Y.fin_get hj
    rw [h4 j (by omega)]
    exact f2
theorem cell_ask (w : World) {q : Nat} (hq : q < 5) : (w.alloc (.cells #[.string ⟨#[107]⟩, .string ⟨#[108]⟩, .string ⟨#[40, 60, 32, 107, 32, 108, 41]⟩, .string ⟨#[40, 61, 32, 107, 32, 51, 41]⟩, .string ⟨#[40, 94, 32, 108, 32, 49, 41]⟩] 9 (0, 0))).cell? ⟨w.heap.size, q, none⟩ = some (.string (askT q)) := by
  have h := At.alloc_new w [.string ⟨#[107]⟩, .string ⟨#[108]⟩, .string ⟨#[40, 60, 32, 107, 32, 108, 41]⟩, .string ⟨#[40, 61, 32, 107, 32, 51, 41]⟩, .string ⟨#[40, 94, 32, 108, 32, 49, 41]⟩] 9
  refine (h.cell q).trans ?_
  match q, hq with
  | 0, _ => rfl
  | 1, _ => rfl
  | 2, _ => rfl
  | 3, _ => rfl
  | 4, _ => rfl
end H
end Go.Proofs.YtejbgcloblpbfaaGreatDoor
namespace Go.Proofs.YtejbgcloblpbfaaGreatDoor
open Go.RowKit
open K (Nm Ex Do)
open Y (IntsAt wdA prC inV mcells)
namespace H
theorem jn3 (a b c d : ByteArray) : jn (jn (jn a b) c) d = jn a (jn (jn b c) d) := by
  unfold jn
  rw [ByteArray.append_assoc, ByteArray.append_assoc, ByteArray.append_assoc]
theorem add_to (w : World) (a b c : ByteArray) {n m : Nat} (ha : a.size ≤ n) (hb : b.size ≤ m) (h : n + m ≤ 100000) (hc : jn a b = c) : (Op.stringOp .add a b).run Tryz.prog w = .ok (.string c) w := by
  rw [← hc]
  exact jn_ok w a b ha hb h
theorem num_le {x : List UInt8} (h : x.length ≤ 3) : (⟨x.toArray⟩ : ByteArray).size ≤ 3 := by
  show x.toArray.size ≤ 3
  simpa using h
set_option maxRecDepth 100000 in
set_option maxHeartbeats 4000000 in
theorem chosen_n (w : World) (hv : K.Vars w) (hw : 5 ≤ w.heap.size) (hT : Lib.TabBelow Tryz.prog w.heap.size w "internal/strconv.uint64pow10" .u64 Lib.pow10Tab) (a0 : Option Addr) (c0 : Nat) (conds : List Int) (h0 : IntsAt w a0 conds) (r0 : ∀ (j : Nat) u, conds[j]? = some u → -9223372036854775808 ≤ u ∧ u ≤ 9223372036854775807) (x y : Int) (hx : -9223372036854775808 ≤ x ∧ x ≤ 9223372036854775807) (hy : -9223372036854775808 ≤ y ∧ y ≤ 9223372036854775807) (a3 : Option Addr) (c3 : Nat) (mem : List Int) (h3 : IntsAt w a3 mem) (N : Nat) (hN4 : N ≤ 4) (hNl : N ≤ conds.length) (hN : N = conds.length ∨ N = 4 ∧ 4 < conds.length) :
    Calls Tryz.prog 10 #[.slice a0 conds.length c0, .int .i64 x, .int .i64 y, .slice a3 mem.length c3] w fun x w' => x = .returned (.bool true) ∧ Below w.heap.size w w' := by
  have hal := Y.alive_c w hv hw
  obtain ⟨j0, ji, jz0, jz1, jz2⟩ := info_parts info_int
  have px := pk_bd x (n := 1000) (by decide)
  have py := pk_bd y (n := 1000) (by decide)
  have hpx := fun w => pick_c (n := 1000) hx (by decide) (by decide) w
  have hpy := fun w => pick_c (n := 1000) hy (by decide) (by decide) w
  obtain ⟨nA, lA⟩ := itoa_numW px.1 px.2
  obtain ⟨nB, lB⟩ := itoa_numW py.1 py.2
  have hia := fun (w' : World) (hb : Below w.heap.size w w') => itoa_k px.1 px.2 w' (hT w' hb)
  have hib := fun (w' : World) (hb : Below w.heap.size w w') => itoa_k py.1 py.2 w' (hT w' hb)
  have sA := se_num nA
  have sB := se_num nB
  have zA := num_le lA
  have zB := num_le lB
  generalize pk x 1000 = X at *
  generalize pk y 1000 = Y' at *
  generalize (⟨(Lib.itoa X).toArray⟩ : ByteArray) = A at *
  generalize (⟨(Lib.itoa Y').toArray⟩ : ByteArray) = Bs at *
  have HIB := hide hib
  have HSA := hide sA
  have HSB := hide sB
  have H0 := hide h0
  have H3 := hide h3
  have HR0 := hide r0
  have HN := hide hN
  have HV := hide hv
  have hia1 := fun (w' : World) (hb : Below w.heap.size w w') => hia w' hb
  clear hib sA sB h0 h3 r0 hN nA nB lA lB px py hT
  go_enter Tryz.func10, Tryz.ntmps10
  go_wp2_with fail
  refine hal.mono ?_
  rintro z w1 ⟨rfl, b1⟩
  clear hal
  have hp1 := hpx w1
  go_wp2_with fail
  refine hp1.mono ?_
  rintro z w' ⟨rfl, rfl⟩
  have hi1 := hia w' b1
  go_wp2_with fail
  refine hi1.mono ?_
  rintro z w2 ⟨rfl, b2'⟩
  have b2 := b1.trans (b2'.mono b1.size)
  have hp2 := hpy w2
  clear hp1 hi1 b1 b2' hia hia1 hpx
  go_wp2_with fail
  refine hp2.mono ?_
  rintro z w'' ⟨rfl, rfl⟩
  have hi2 := HIB.out w'' b2
  go_wp2_with fail
  refine hi2.mono ?_
  rintro z w3 ⟨rfl, b3'⟩
  have b3 := b2.trans (b3'.mono b2.size)
  have fa : (Op.stringOp .add ⟨#[40, 115, 101, 116, 32, 114, 32]⟩ A).run Tryz.prog w3 = .ok (.string (jn ⟨#[40, 115, 101, 116, 32, 114, 32]⟩ A)) w3 := jn_ok w3 _ _ (n := 7) (m := 3) (by decide) zA (by decide)
  have fb : (Op.stringOp .add (jn ⟨#[40, 115, 101, 116, 32, 114, 32]⟩ A) ⟨#[41]⟩).run Tryz.prog w3 = .ok (.string (setT A)) w3 := add_to w3 _ _ _ (n := 10) (m := 1) (jn_le (n := 7) (m := 3) (by decide) zA) (by decide) (by decide) rfl
  have HB3 := hide b3
  clear hp2 hi2 hpy b2 b3' b3 HIB
  go_wp2_with fail
  go_loopg [13, 14, 15] N (fun gk iv ev i wr => ∃ (k : Nat) (I E : ByteArray), k + gk = N ∧ iv = .string I ∧ ev = .string E ∧ i = .int .i64 (k : Int) ∧ Hid (∃ v, SD (2 + 2 * k) I v ∧ SE (1 + k) E v) ∧ I.size ≤ 20 + 40 * k ∧ E.size ≤ 20 + 40 * k ∧ Hid (Below w.heap.size w wr))
  case atStart =>
    exact ⟨0, setT A, A, by omega, rfl, rfl, rfl, ⟨_, ⟨(sd_set HSA.out (by decide)).1.up (by decide), (sd_set HSA.out (by decide)).2⟩, HSA.out.up (by decide)⟩, Nat.le_trans (jn_le (n := 10) (m := 1) (jn_le (n := 7) (m := 3) (by decide) zA) (by decide)) (by decide), by omega, HB3.out⟩
  case round =>
    obtain ⟨k, I, E, hk, rfl, rfl, rfl, HV', zI, zE, HBr⟩ := hrel
    cases gk with
    | succ g1 =>
      have kl : (k : Int) < (conds.length : Int) := by omega
      have k4 : (k : Int) < 4 := by omega
      obtain ⟨u, hu⟩ : ∃ u, conds[k]? = some u := ⟨_, List.getElem?_eq_getElem (by omega)⟩
      obtain ⟨gc, oc, rfl, lc, cc⟩ := H0.out k u hu
      have ru := HR0.out k u hu
      have p5 := pk_bd u (n := 5) (by decide)
      obtain ⟨q, hq⟩ := Int.eq_ofNat_of_zero_le p5.1
      have q5 : q < 5 := by omega
      have q5' : (q : Int) < 5 := by omega
      obtain ⟨WW, hWW⟩ : ∃ WW, wr.alloc (.cells #[.string ⟨#[107]⟩, .string ⟨#[108]⟩, .string ⟨#[40, 60, 32, 107, 32, 108, 41]⟩, .string ⟨#[40, 61, 32, 107, 32, 51, 41]⟩, .string ⟨#[40, 94, 32, 108, 32, 49, 41]⟩] 9 (0, 0)) = WW := ⟨_, rfl⟩
      have cA : WW.cell? ⟨wr.heap.size, q, none⟩ = some (.string (askT q)) := by rw [← hWW]; exact cell_ask wr q5
      have BW : Below wr.heap.size wr WW := by rw [← hWW]; exact (Below.refl _ _).alloc (Nat.le_refl _) _
      have HBW := hide (HBr.out.trans (BW.mono HBr.out.size))
      have cC : WW.cell? ⟨gc, oc + k, none⟩ = some (.int .i64 u) := (World.cell?_of_block (a := ⟨gc, oc + k, none⟩) (HBW.out.block gc lc)).trans cc
      have hp5 := pick_c (n := 5) ru (by decide) (by decide) WW
      have hp2 := pick_c (n := 2) ru (by decide) (by decide) WW
      have lW : wr.heap.size < WW.heap.size := by rw [← hWW, size_alloc]; exact Nat.lt_succ_self _
      rw [hq] at hp5
      clear p5 BW HBr ru hu
      go_wp2_with fail
      refine hp5.mono ?_
      rintro z w' ⟨rfl, rfl⟩
      go_wp2_with fail
      refine hp2.mono ?_
      rintro z w' ⟨rfl, rfl⟩
      go_upto_if 69 with fail
      go_cut [17] (fun ov wr => wr = w' ∧ ∃ O : ByteArray, ov = .string O ∧ Hid (∃ vo, SE 1 O vo) ∧ O.size ≤ 9)
      case first =>
        by_cases e : pk u 2 = 0
        · rw [e]
          go_wp2_with fail
          go_meet
          case rel => exact ⟨rfl, plusT, rfl, se_plus, by decide⟩
        · generalize pk u 2 = U at *
          go_wp2_with fail
          go_meet
          case rel => exact ⟨rfl, Bs, rfl, ⟨_, HSB.out.up (by decide)⟩, by omega⟩
      case rest =>
        obtain ⟨rfl, O, rfl, HO, hO⟩ := hcut
        obtain ⟨WW, rfl⟩ : ∃ WW : World, WW = wc := ⟨_, rfl⟩
        have hI : I.size ≤ 180 := by omega
        have hE : E.size ≤ 180 := by omega
        have f0 := jn_ok WW ⟨#[40, 105, 102, 32]⟩ (askT q) (n := 4) (m := 7) (by decide) (ask_le q) (by decide)
        have fz0 : (jn ⟨#[40, 105, 102, 32]⟩ (askT q)).size ≤ 11 := jn_le (n := 4) (m := 7) (by decide) (ask_le q)
        have f1 := jn_ok WW (jn ⟨#[40, 105, 102, 32]⟩ (askT q)) ⟨#[32, 40]⟩ (n := 11) (m := 2) fz0 (by decide) (by decide)
        have fz1 : (jn (jn ⟨#[40, 105, 102, 32]⟩ (askT q)) ⟨#[32, 40]⟩).size ≤ 13 := jn_le (n := 11) (m := 2) fz0 (by decide)
        have f2 := jn_ok WW (jn (jn ⟨#[40, 105, 102, 32]⟩ (askT q)) ⟨#[32, 40]⟩) I (n := 13) (m := 180) fz1 hI (by decide)
        have fz2 : (jn (jn (jn ⟨#[40, 105, 102, 32]⟩ (askT q)) ⟨#[32, 40]⟩) I).size ≤ 193 := jn_le (n := 13) (m := 180) fz1 hI
        have f3 := jn_ok WW (jn (jn (jn ⟨#[40, 105, 102, 32]⟩ (askT q)) ⟨#[32, 40]⟩) I) ⟨#[41, 32, 40, 40, 115, 101, 116, 32, 114, 32]⟩ (n := 193) (m := 10) fz2 (by decide) (by decide)
        have fz3 : (jn (jn (jn (jn ⟨#[40, 105, 102, 32]⟩ (askT q)) ⟨#[32, 40]⟩) I) ⟨#[41, 32, 40, 40, 115, 101, 116, 32, 114, 32]⟩).size ≤ 203 := jn_le (n := 193) (m := 10) fz2 (by decide)
        have f4 := jn_ok WW (jn (jn (jn (jn ⟨#[40, 105, 102, 32]⟩ (askT q)) ⟨#[32, 40]⟩) I) ⟨#[41, 32, 40, 40, 115, 101, 116, 32, 114, 32]⟩) O (n := 203) (m := 9) fz3 hO (by decide)
        have fz4 : (jn (jn (jn (jn (jn ⟨#[40, 105, 102, 32]⟩ (askT q)) ⟨#[32, 40]⟩) I) ⟨#[41, 32, 40, 40, 115, 101, 116, 32, 114, 32]⟩) O).size ≤ 212 := jn_le (n := 203) (m := 9) fz3 hO
        have f5 := jn_ok WW (jn (jn (jn (jn (jn ⟨#[40, 105, 102, 32]⟩ (askT q)) ⟨#[32, 40]⟩) I) ⟨#[41, 32, 40, 40, 115, 101, 116, 32, 114, 32]⟩) O) ⟨#[41, 41, 41]⟩ (n := 212) (m := 3) fz4 (by decide) (by decide)
        have cg0 := jn_ok WW ⟨#[40, 99, 104, 111, 111, 115, 101, 32]⟩ (askT q) (n := 8) (m := 7) (by decide) (ask_le q) (by decide)
        have cgz0 : (jn ⟨#[40, 99, 104, 111, 111, 115, 101, 32]⟩ (askT q)).size ≤ 15 := jn_le (n := 8) (m := 7) (by decide) (ask_le q)
        have cg1 := jn_ok WW (jn ⟨#[40, 99, 104, 111, 111, 115, 101, 32]⟩ (askT q)) ⟨#[32]⟩ (n := 15) (m := 1) cgz0 (by decide) (by decide)
        have cgz1 : (jn (jn ⟨#[40, 99, 104, 111, 111, 115, 101, 32]⟩ (askT q)) ⟨#[32]⟩).size ≤ 16 := jn_le (n := 15) (m := 1) cgz0 (by decide)
        have cg2 := jn_ok WW (jn (jn ⟨#[40, 99, 104, 111, 111, 115, 101, 32]⟩ (askT q)) ⟨#[32]⟩) E (n := 16) (m := 180) cgz1 hE (by decide)
        have cgz2 : (jn (jn (jn ⟨#[40, 99, 104, 111, 111, 115, 101, 32]⟩ (askT q)) ⟨#[32]⟩) E).size ≤ 196 := jn_le (n := 16) (m := 180) cgz1 hE
        have cg3 := jn_ok WW (jn (jn (jn ⟨#[40, 99, 104, 111, 111, 115, 101, 32]⟩ (askT q)) ⟨#[32]⟩) E) ⟨#[32]⟩ (n := 196) (m := 1) cgz2 (by decide) (by decide)
        have cgz3 : (jn (jn (jn (jn ⟨#[40, 99, 104, 111, 111, 115, 101, 32]⟩ (askT q)) ⟨#[32]⟩) E) ⟨#[32]⟩).size ≤ 197 := jn_le (n := 196) (m := 1) cgz2 (by decide)
        have cg4 := jn_ok WW (jn (jn (jn (jn ⟨#[40, 99, 104, 111, 111, 115, 101, 32]⟩ (askT q)) ⟨#[32]⟩) E) ⟨#[32]⟩) O (n := 197) (m := 9) cgz3 hO (by decide)
        have cgz4 : (jn (jn (jn (jn (jn ⟨#[40, 99, 104, 111, 111, 115, 101, 32]⟩ (askT q)) ⟨#[32]⟩) E) ⟨#[32]⟩) O).size ≤ 206 := jn_le (n := 197) (m := 9) cgz3 hO
        have cg5 := jn_ok WW (jn (jn (jn (jn (jn ⟨#[40, 99, 104, 111, 111, 115, 101, 32]⟩ (askT q)) ⟨#[32]⟩) E) ⟨#[32]⟩) O) ⟨#[41]⟩ (n := 206) (m := 1) cgz4 (by decide) (by decide)
        have hfT : (jn (jn (jn (jn (jn (jn ⟨#[40, 105, 102, 32]⟩ (askT q)) ⟨#[32, 40]⟩) I) ⟨#[41, 32, 40, 40, 115, 101, 116, 32, 114, 32]⟩) O) ⟨#[41, 41, 41]⟩) = ifT (askT q) I O := rfl
        have hgT : (jn (jn (jn (jn (jn (jn ⟨#[40, 99, 104, 111, 111, 115, 101, 32]⟩ (askT q)) ⟨#[32]⟩) E) ⟨#[32]⟩) O) ⟨#[41]⟩) = choT (askT q) E O := rfl
        rw [hfT] at f5
        rw [hgT] at cg5
        clear hfT hgT hp5 hp2
        go_wp2_with fail
        go_roundg g1
        case measure => omega
        case rel =>
          obtain ⟨v, d1, d2⟩ := HV'.out
          obtain ⟨vo, d3⟩ := HO.out
          obtain ⟨vq, d4⟩ := se_ask q
          have d5 := sd_if (h := 2 + 2 * k) (k := 1) (d4.up (by omega : 1 ≤ 2 + 2 * k)) d1 d3 (by omega) (by omega)
          rw [(by omega : 2 + 2 * k + 2 = 2 + 2 * (k + 1))] at d5
          refine ⟨k + 1, _, _, by omega, rfl, rfl, by go_num, ⟨_, d5, ?_⟩, ?_, ?_, HBW.out⟩
          · have := se_cho (d4.up (by omega : 1 ≤ 1 + k)) d2 (d3.up (by omega : 1 ≤ 1 + k))
            rw [(by omega : 1 + (k + 1) = 1 + k + 1)]
            exact this
          · have := ask_le q
            have e1 := jn_le (jn_le (jn_le (jn_le (jn_le (jn_le (show (⟨#[40, 105, 102, 32]⟩ : ByteArray).size ≤ 4 by decide) this) (show (⟨#[32, 40]⟩ : ByteArray).size ≤ 2 by decide)) zI) (show (⟨#[41, 32, 40, 40, 115, 101, 116, 32, 114, 32]⟩ : ByteArray).size ≤ 10 by decide)) hO) (show (⟨#[41, 41, 41]⟩ : ByteArray).size ≤ 3 by decide)
            exact Nat.le_trans e1 (by omega)
          · have := ask_le q
            have e1 := jn_le (jn_le (jn_le (jn_le (jn_le (jn_le (show (⟨#[40, 99, 104, 111, 111, 115, 101, 32]⟩ : ByteArray).size ≤ 8 by decide) this) (show (⟨#[32]⟩ : ByteArray).size ≤ 1 by decide)) zE) (show (⟨#[32]⟩ : ByteArray).size ≤ 1 by decide)) hO) (show (⟨#[41]⟩ : ByteArray).size ≤ 1 by decide)
            exact Nat.le_trans e1 (by omega)
    | zero =>
      obtain rfl : k = N := by omega
      obtain ⟨v, d1, d2⟩ := HV'.out
      have zS : (setT E).size ≤ 700 := Nat.le_trans (jn_le (n := 187) (m := 1) (jn_le (n := 7) (m := 180) (by decide) (by omega)) (by decide)) (by decide)
      have t1 := tx_of d1 (by omega) (by omega)
      have t2 := tx_of (sd_set d2 (by omega)) (by omega) zS
      have tA : ∀ w : World, (Op.stringOp .add ⟨#[40, 115, 101, 99, 114, 101, 116, 32, 107, 41, 40, 115, 101, 99, 114, 101, 116, 32, 108, 41, 40, 115, 101, 99, 114, 101, 116, 32, 114, 41]⟩ I).run Tryz.prog w = .ok (.string (prT I)) w := fun w => add_to w _ _ _ (n := 30) (m := 180) (by decide) (by omega) (by decide) rfl
      have tB : ∀ w : World, (Op.stringOp .add ⟨#[40, 115, 101, 99, 114, 101, 116, 32, 107, 41, 40, 115, 101, 99, 114, 101, 116, 32, 108, 41, 40, 115, 101, 99, 114, 101, 116, 32, 114, 41]⟩ ⟨#[40, 115, 101, 116, 32, 114, 32]⟩).run Tryz.prog w = .ok (.string (jn ⟨#[40, 115, 101, 99, 114, 101, 116, 32, 107, 41, 40, 115, 101, 99, 114, 101, 116, 32, 108, 41, 40, 115, 101, 99, 114, 101, 116, 32, 114, 41]⟩ ⟨#[40, 115, 101, 116, 32, 114, 32]⟩)) w := fun w => jn_ok w _ _ (n := 30) (m := 7) (by decide) (by decide) (by decide)
      have zB1 : (jn ⟨#[40, 115, 101, 99, 114, 101, 116, 32, 107, 41, 40, 115, 101, 99, 114, 101, 116, 32, 108, 41, 40, 115, 101, 99, 114, 101, 116, 32, 114, 41]⟩ ⟨#[40, 115, 101, 116, 32, 114, 32]⟩).size ≤ 37 := jn_le (n := 30) (m := 7) (by decide) (by decide)
      have tC : ∀ w : World, (Op.stringOp .add (jn ⟨#[40, 115, 101, 99, 114, 101, 116, 32, 107, 41, 40, 115, 101, 99, 114, 101, 116, 32, 108, 41, 40, 115, 101, 99, 114, 101, 116, 32, 114, 41]⟩ ⟨#[40, 115, 101, 116, 32, 114, 32]⟩) E).run Tryz.prog w = .ok (.string (jn (jn ⟨#[40, 115, 101, 99, 114, 101, 116, 32, 107, 41, 40, 115, 101, 99, 114, 101, 116, 32, 108, 41, 40, 115, 101, 99, 114, 101, 116, 32, 114, 41]⟩ ⟨#[40, 115, 101, 116, 32, 114, 32]⟩) E)) w := fun w => jn_ok w _ _ (n := 37) (m := 180) zB1 (by omega) (by decide)
      have tD : ∀ w : World, (Op.stringOp .add (jn (jn ⟨#[40, 115, 101, 99, 114, 101, 116, 32, 107, 41, 40, 115, 101, 99, 114, 101, 116, 32, 108, 41, 40, 115, 101, 99, 114, 101, 116, 32, 114, 41]⟩ ⟨#[40, 115, 101, 116, 32, 114, 32]⟩) E) ⟨#[41]⟩).run Tryz.prog w = .ok (.string (prT (setT E))) w := fun w => add_to w _ _ _ (n := 217) (m := 1) (jn_le (n := 37) (m := 180) zB1 (by omega)) (by decide) (by decide) (jn3 _ _ _ _)
      have hfl : ((((wdA mem 3) ++ [0, 0]).set 2 (v ((wdA mem 3) ++ [0, 0]))).take 3).length = 3 := by rw [List.length_take, List.length_set, List.length_append, Y.wdA_len]; rfl
      have hf : (fun W : List Int => W.set 2 (v W)) ((wdA mem 3) ++ [0, 0]) = ((wdA mem 3) ++ [0, 0]).set 2 (v ((wdA mem 3) ++ [0, 0])) := rfl
      rw [← hf] at hfl
      generalize (fun W : List Int => W.set 2 (v W)) = f at *
      generalize prT I = S1 at *
      generalize prT (setT E) = S2 at *
      generalize jn (jn ⟨#[40, 115, 101, 99, 114, 101, 116, 32, 107, 41, 40, 115, 101, 99, 114, 101, 116, 32, 108, 41, 40, 115, 101, 99, 114, 101, 116, 32, 114, 41]⟩ ⟨#[40, 115, 101, 116, 32, 114, 32]⟩) E = Q2 at *
      generalize jn ⟨#[40, 115, 101, 99, 114, 101, 116, 32, 107, 41, 40, 115, 101, 99, 114, 101, 116, 32, 108, 41, 40, 115, 101, 99, 114, 101, 116, 32, 114, 41]⟩ ⟨#[40, 115, 101, 116, 32, 114, 32]⟩ = Q1 at *
      obtain ⟨C1, hc1, hp1⟩ := t1.comp
      obtain ⟨C2, hc2, hp2⟩ := t2.comp
      have hr1 := t1.run
      have hr2 := t2.run
      have HC1 := hide hc1
      have HC2 := hide hc2
      have HP1 := hide hp1
      have HP2 := hide hp2
      have HR1 := hide hr1
      have HR2 := hide hr2
      have HFL := hide hfl
      obtain ⟨W0, rfl⟩ : ∃ W0 : World, W0 = wr := ⟨_, rfl⟩
      have i3 := H3.out.below HBr.out
      have HI3 := hide i3
      clear hc1 hc2 hp1 hp2 hr1 hr2 hfl hf t1 t2 d1 d2 HV' zS zB1 H0 HR0 HSA HSB HB3 H3 i3 fa fb
      rcases HN.out with e | ⟨e, e'⟩
      all_goals
        first
        | (have kl : ¬ (k : Int) < (conds.length : Int) := by omega)
        | (have kl : (k : Int) < (conds.length : Int) := by omega
           have k4 : ¬ (k : Int) < 4 := by omega)
        clear HN
        go_wp2_with fail
        go_loopg [18, 19] 3 (fun gk mv i wr => ∃ k : Nat, k + gk = 3 ∧ i = .int .i64 (k : Int) ∧ wr.ownsRow W0.heap.size 3 1 mv k (ints (wdA mem k)) ∧ Below W0.heap.size W0 wr)
        case atStart => exact ⟨0, by omega, rfl, ⟨rfl, Or.inl ⟨rfl, rfl⟩⟩, Below.refl _ _⟩
        case round =>
          obtain ⟨k, hk3, rfl, hra, hba⟩ := hrel
          cases gk with
          | succ g1 =>
            have hz : (k : Int) < 3 := by omega
            obtain ⟨aa, ac, rfl⟩ : ∃ aa ac, u18 = .slice aa k ac := by
              rcases Joins.ownsRow_forms hra with ⟨rfl, h0⟩ | ⟨g, c, rfl⟩
              · exact ⟨none, 0, by rw [h0]⟩
              · exact ⟨_, _, rfl⟩
            obtain ⟨xx, Hx⟩ : ∃ xx, Hid (mem.getD k 0 = xx) := ⟨_, hide rfl⟩
            have HRA := hide hra
            have HBA := hide hba
            clear hra hba
            by_cases cl : k < mem.length
            · have l1 : (k : Int) < (mem.length : Int) := by omega
              obtain ⟨g, o, rfl, hg, hc⟩ := HI3.out k _ (List.getElem?_eq_getElem cl)
              have cx : wr.cell? ⟨g, o + k, none⟩ = some (.int .i64 xx) := by
                refine (World.cell?_of_block (a := ⟨g, o + k, none⟩) (HBA.out.block g hg)).trans ?_
                rw [hc, ← Hx.out, List.getD_eq_getElem?_getD, List.getElem?_eq_getElem cl]; rfl
              clear hc
              go_wp2_with (at_builtin; (refine wpList_append_row1 _ rfl _ _ 32 rfl 3 j0 (.int .i64 0) 1 8 Tryz.underlying32 ji jz0 jz1 jz2 rfl (by decide) (.slice aa k ac) k (ints (wdA mem k)) rfl (by exact World.ownsRow.alloc (Joins.ownsRow_le HRA.out (Nat.zero_le _)) _) ⟨wr.heap.size, 0, none⟩ 1 1 [.int .i64 xx] rfl rfl (by exact row_new wr [.int .i64 xx] _) (by intro u hu; simp only [List.mem_singleton] at hu; subst hu; rfl) (few_le (by omega)) (by omega) Nat.one_pos ?_; intro ga3 ca3 w3 r3 g3 k3; have R3 := hide r3; have G3 := hide g3; have K3 := hide k3; clear r3 g3 k3))
              go_roundg g1
              case measure => omega
              case rel => exact ⟨k + 1, by omega, by go_num, (ar_step HRA.out HBA.out Hx.out R3.out G3.out K3.out).1, (ar_step HRA.out HBA.out Hx.out R3.out G3.out K3.out).2⟩
            · have l1 : ¬ (k : Int) < (mem.length : Int) := by omega
              have ex : xx = 0 := by rw [← Hx.out, List.getD_eq_getElem?_getD, List.getElem?_eq_none (by omega)]; rfl
              subst ex
              go_wp2_with (at_builtin; (refine wpList_append_row1 _ rfl _ _ 32 rfl 3 j0 (.int .i64 0) 1 8 Tryz.underlying32 ji jz0 jz1 jz2 rfl (by decide) (.slice aa k ac) k (ints (wdA mem k)) rfl (by exact World.ownsRow.alloc (Joins.ownsRow_le HRA.out (Nat.zero_le _)) _) ⟨wr.heap.size, 0, none⟩ 1 1 [.int .i64 0] rfl rfl (by exact row_new wr [.int .i64 0] _) (by intro u hu; simp only [List.mem_singleton] at hu; subst hu; rfl) (few_le (by omega)) (by omega) Nat.one_pos ?_; intro ga3 ca3 w3 r3 g3 k3; have R3 := hide r3; have G3 := hide g3; have K3 := hide k3; clear r3 g3 k3))
              go_roundg g1
              case measure => omega
              case rel => exact ⟨k + 1, by omega, by go_num, (ar_step HRA.out HBA.out Hx.out R3.out G3.out K3.out).1, (ar_step HRA.out HBA.out Hx.out R3.out G3.out K3.out).2⟩
          | zero =>
            obtain rfl : k = 3 := by omega
            obtain ⟨gm, cm, rfl⟩ : ∃ gm cm, u18 = .slice (some ⟨gm, 0, none⟩) 3 cm := by
              rcases Joins.ownsRow_forms hra with ⟨_, h0⟩ | ⟨g, c, rfl⟩
              · cases h0
              · exact ⟨g, c, rfl⟩
            have i4 := IntsAt.of_own hra
            have lm := (hra.lt gm rfl).2
            have hl3 := Y.wdA_len mem 3
            have B4 := HBr.out.trans (hba.mono HBr.out.size)
            generalize wdA mem 3 = ms at *
            have hr1 := HR1.out wr (Y.vars_below hv B4 hw) (Nat.le_trans hw B4.size) (some ⟨gm, 0, none⟩) cm ms hl3 i4
            have HB4 := hide B4
            have HI4 := hide i4
            have tA' := tA wr
            clear i4 hra hba B4 HBr
            go_wp2_with fail
            refine hr1.mono ?_
            rintro z w5 ⟨⟨g1, rfl, lg1, ar1⟩, b5⟩
            have B5 := HB4.out.trans (b5.mono HB4.out.size)
            have hr2 := HR2.out w5 (Y.vars_below hv B5 hw) (Nat.le_trans hw B5.size) (some ⟨gm, 0, none⟩) cm ms hl3 (HI4.out.below b5)
            have z5 := b5.size
            have HI5 := hide (HI4.out.below b5)
            have HB5 := hide B5
            have HAR1 := hide ar1
            have tB' := tB w5
            have tC' := tC w5
            have tD' := tD w5
            clear ar1 b5 B5 hr1 tA' HB4 HI4
            go_wp2_with fail
            refine hr2.mono ?_
            rintro z w6 ⟨⟨g2, rfl, lg2, ar2⟩, b6⟩
            have B6 := HB5.out.trans (b6.mono HB5.out.size)
            have hc1 := HC1.out w6 (Y.vars_below hv B6 hw) (Nat.le_trans hw B6.size)
            have z6 := b6.size
            have HI6 := hide (HI5.out.below b6)
            have HB6 := hide B6
            have HAR2 := hide ar2
            have HAR1' := hide (HAR1.out.of_block (b6.block g1 HAR1.out.lt))
            have tA' := tA w6
            clear ar2 b6 B6 hr2 tB' tC' tD' HB5 HI5 HAR1
            go_wp2_with fail
            refine hc1.mono ?_
            rintro z w7 ⟨⟨ca1, cc1, rfl, o7⟩, b7⟩
            have B7 := HB6.out.trans (b7.mono HB6.out.size)
            have hc2 := HC2.out w7 (Y.vars_below hv B7 hw) (Nat.le_trans hw B7.size)
            have z7 := b7.size
            have HB7 := hide B7
            have HO7 := hide o7
            have H67 := hide b7
            have tB' := tB w7
            have tC' := tC w7
            have tD' := tD w7
            clear o7 b7 B7 hc1 tA' HB6
            go_wp2_with fail
            refine hc2.mono ?_
            rintro z w8 ⟨⟨ca2, cc2, rfl, o8⟩, b8⟩
            have z8 := b8.size
            have HB8 := hide (HB7.out.trans (b8.mono HB7.out.size))
            have HO8 := hide o8
            have H68 := hide (H67.out.trans (b8.mono z7))
            have HO78 : Hid (w8.ownsRow w6.heap.size 58 5 (.slice ca1 C1.length cc1) C1.length (C1.flatMap inV)) := Y.own_block HO7.out fun q e => b8.block q (HO7.out.lt q e).2
            have n1 := Y.nothing_k w8
            clear o8 b8 hc2 tB' tC' tD' HO7 H67 HB7 tA tB tC tD
            go_wp2_with fail
            refine n1.mono ?_
            rintro z w9 ⟨rfl, m9, b9, z9'⟩
            have z9 : w8.heap.size < w9.heap.size := by omega
            have n2 := Y.nothing_k w9
            have HM9 := hide m9
            clear m9 n1 z9'
            go_wp2_with fail
            refine n2.mono ?_
            rintro z w10 ⟨rfl, m10, b10, z10'⟩
            have z10 : w9.heap.size < w10.heap.size := by omega
            have b810 := b9.trans (b10.mono b9.size)
            have b610 := H68.out.trans (b810.mono H68.out.size)
            have i10 := HI6.out.below b610
            have o1 : w10.ownsRow w6.heap.size 58 5 (.slice ca1 C1.length cc1) C1.length (C1.flatMap inV) := Y.own_block HO78.out fun q e => b810.block q (HO78.out.lt q e).2
            have o2 : w10.ownsRow w7.heap.size 58 5 (.slice ca2 C2.length cc2) C2.length (C2.flatMap inV) := Y.own_block HO8.out fun q e => b810.block q (HO8.out.lt q e).2
            have m910 := HM9.out.of_block (b10.block _ HM9.out.lt)
            have hp1 := HP1.out w10 w8.heap.size w6.heap.size ca1 cc1 (some ⟨gm, 0, none⟩) cm ms hl3 m910 o1 i10 (fun o e => by have h8 : gm = w8.heap.size := congrArg Addr.block (Option.some.inj e); omega)
            have lar1 := HAR1'.out.lt
            have lar2 := HAR2.out.lt
            have HA1 := hide (HAR1'.out.of_block (b610.block g1 lar1))
            have HA2 := hide (HAR2.out.of_block (b610.block g2 lar2))
            have HB10 := hide (HB8.out.trans (b810.mono HB8.out.size))
            have HI10 := hide i10
            have HO10 := hide o2
            have HM10 := hide m10
            have HLC : Hid (∀ q, (Value.slice ca2 C2.length cc2).ownBlock = some q → q < w8.heap.size) := fun q e => (HO8.out.lt q e).2
            have zw := HB8.out.size
            clear i10 o1 o2 m10 m910 b9 b10 b810 b610 n2 z10' HI6 H68 HO78 HO8 HM9 HAR1' HAR2 HB8
            go_wp2_with fail
            refine hp1.mono ?_
            rintro z w11 ⟨⟨rfl, iM1⟩, b11⟩
            have z11 := b11.size
            have m11 := HM10.out.of_block (b11.block _ HM10.out.lt (by omega))
            have o11 : w11.ownsRow w7.heap.size 58 5 (.slice ca2 C2.length cc2) C2.length (C2.flatMap inV) := Y.own_block HO10.out fun q e => b11.block q (HO10.out.lt q e).2 (by have := HLC.out q e; omega)
            have i11 := HI10.out.keep (w' := w11) (fun k hk ⟨o, e⟩ => b11.block k hk (by have h8 : gm = k := congrArg Addr.block (Option.some.inj e); omega)) z11
            have hp2 := HP2.out w11 w9.heap.size w7.heap.size ca2 cc2 (some ⟨gm, 0, none⟩) cm ms hl3 m11 o11 i11 (fun o e => by have h8 : gm = w9.heap.size := congrArg Addr.block (Option.some.inj e); omega)
            have HA1' := hide (HA1.out.of_block (b11.block g1 HA1.out.lt (by omega)))
            have HA2' := hide (HA2.out.of_block (b11.block g2 HA2.out.lt (by omega)))
            have HB11 : Hid (Below w.heap.size w w11) := HB10.out.trans (but_lower b11 zw (by omega))
            have HIM1 := hide iM1
            clear m11 o11 i11 iM1 b11 hp1 HA1 HA2 HB10 HI10 HO10 HM10 HLC
            go_wp2_with fail
            refine hp2.mono ?_
            rintro z w12 ⟨⟨rfl, iM2⟩, b12⟩
            have z12 := b12.size
            have a1 := HA1'.out.of_block (b12.block g1 HA1'.out.lt (by omega))
            have a2 := HA2'.out.of_block (b12.block g2 HA2'.out.lt (by omega))
            have iM1 := HIM1.out.keep (w' := w12) (fun k hk ⟨o, e⟩ => b12.block k hk (by have h8 : w8.heap.size = k := congrArg Addr.block (Option.some.inj e); omega)) z12
            have HB12 : Hid (Below w.heap.size w w12) := HB11.out.trans (but_lower b12 (by omega) (by omega))
            have hfl := HFL.out
            generalize (f (ms ++ [0, 0])).take 3 = RR at *
            have i1 : IntsAt w12 (some ⟨g1, 0, none⟩) RR := fun j u hj => ⟨g1, 0, rfl, a1.lt, by rw [Nat.zero_add, a1.cell, List.getElem?_map, hj]; rfl⟩
            have i2 : IntsAt w12 (some ⟨g2, 0, none⟩) RR := fun j u hj => ⟨g2, 0, rfl, a2.lt, by rw [Nat.zero_add, a2.cell, List.getElem?_map, hj]; rfl⟩
            have s1 := fun (m : Nat) => Y.ksame_q (w := w12.drewN m) (l := RR) (ca := 3) (cb := 3) (by omega) (i1.keep (fun _ _ _ => rfl) (Nat.le_refl _)) (i2.keep (fun _ _ _ => rfl) (Nat.le_refl _))
            have s2 := fun (m : Nat) => Y.ksame_q (w := w12.drewN m) (l := RR) (ca := 256) (cb := 3) (by omega) (iM1.keep (fun _ _ _ => rfl) (Nat.le_refl _)) (i1.keep (fun _ _ _ => rfl) (Nat.le_refl _))
            have s3 := fun (m : Nat) => Y.ksame_q (w := w12.drewN m) (l := RR) (ca := 256) (cb := 3) (by omega) (iM2.keep (fun _ _ _ => rfl) (Nat.le_refl _)) (i1.keep (fun _ _ _ => rfl) (Nat.le_refl _))
            rw [hfl] at s1 s2 s3
            have s10 := s1 0
            clear a1 a2 iM1 iM2 i1 i2 b12 hp2 HA1' HA2' HB11 HIM1 hfl HFL
            go_wp2_with fail
            refine s10.mono ?_
            rintro z w13 ⟨rfl, m13, rfl⟩
            go_wp2_with fail
            refine (s2 _).mono ?_
            rintro z w14 ⟨rfl, m14, rfl⟩
            go_wp2_with fail
            refine (s3 _).mono ?_
            rintro z w15 ⟨rfl, m15, rfl⟩
            go_wp2_with fail
            go_ret
            exact ⟨rfl, below_dN HB12.out _⟩
theorem chosen_c (w : World) (hv : K.Vars w) (hw : 5 ≤ w.heap.size) (hT : Lib.TabIs Tryz.prog w "internal/strconv.uint64pow10" .u64 Lib.pow10Tab) (a0 : Option Addr) (c0 : Nat) (conds : List Int) (h0 : IntsAt w a0 conds) (r0 : ∀ (j : Nat) u, conds[j]? = some u → -9223372036854775808 ≤ u ∧ u ≤ 9223372036854775807) (x y : Int) (hx : -9223372036854775808 ≤ x ∧ x ≤ 9223372036854775807) (hy : -9223372036854775808 ≤ y ∧ y ≤ 9223372036854775807) (a3 : Option Addr) (c3 : Nat) (mem : List Int) (h3 : IntsAt w a3 mem) :
    Calls Tryz.prog 10 #[.slice a0 conds.length c0, .int .i64 x, .int .i64 y, .slice a3 mem.length c3] w fun x w' => x = .returned (.bool true) ∧ Below w.heap.size w w' := by
  by_cases h : conds.length ≤ 4
  · exact chosen_n w hv hw (Lib.tabBelow_of_tabIs hT) a0 c0 conds h0 r0 x y hx hy a3 c3 mem h3 conds.length h (Nat.le_refl _) (Or.inl rfl)
  · exact chosen_n w hv hw (Lib.tabBelow_of_tabIs hT) a0 c0 conds h0 r0 x y hx hy a3 c3 mem h3 4 (Nat.le_refl _) (by omega) (Or.inr ⟨rfl, by omega⟩)
end H
end Go.Proofs.YtejbgcloblpbfaaGreatDoor
namespace Go.Proofs.YtejbgcloblpbfaaGreatDoor
open Go.ChangeShapes Go.WideShapes Go.ChangeAt Go.WideMaps Go.WideElems Go.RowKit
open Go.ChangeMaps (open_string shut_string)
theorem own : ownKnob Tryz.prog.godebug = none := by kernel_rfl
theorem gSyn : Tryz.prog.globalNamed "strconv.ErrSyntax" = some 3 := by kernel_rfl
theorem gRan : Tryz.prog.globalNamed "strconv.ErrRange" = some 4 := by kernel_rfl
theorem tSyn : (Tryz.prog.globals[3]?).map (·.type) = some 253 := by kernel_rfl
theorem tRan : (Tryz.prog.globals[4]?).map (·.type) = some 253 := by kernel_rfl
theorem star : "*" ++ "errors.errorString" = "*errors.errorString" := by decide
theorem rowErr (u : TypeId) (h : Tryz.prog.typeName? 3 u = some "*errors.errorString") : u = 276 :=
  typeName_ptr_named (nm := "errors.errorString") (by rw [star]; kernel_rfl) (by kernel_rfl) (by decide) u (by rw [star]; exact h)
theorem cellsE : Tryz.prog.cellsOf 278 = 1 := by kernel_rfl
theorem cellsS : Tryz.prog.cellsOf 9 = 1 := by kernel_rfl
theorem door_met (os : Os) (args : Array Value) : laidMetH Tryz.prog Rows.chosenRow.laid ((World.doorLaid Tryz.prog 400 os).forCall (fun _ _ => 0) ⟨#[], args, []⟩).memory :=
  laidMetH_of_parts3 (fuel := 8) (laidMet_of_run' 8 (by kernel_rfl) (by kernel_rfl)) (by kernel_rfl) (by kernel_rfl)
theorem vars_of_laid {W : World} (h : laidMetH Tryz.prog Rows.chosenRow.laid W) : K.Vars W ∧ 5 ≤ W.heap.size := by
  rw [MakeChecks.laidMetH_plain _ _ _ (by kernel_rfl)] at h
  have h3 := laidMet.tail (laidMet.tail (laidMet.tail h))
  obtain ⟨a1, s1, hv1, _⟩ := laid_sentinel h3 gRan tRan Tryz.underlying253 rowErr Tryz.underlying276 Tryz.underlying278 rfl rfl Tryz.underlying9 cellsE cellsS
  obtain ⟨a0, s0, hv0, _⟩ := laid_sentinel (laidMet.tail h3) gSyn tSyn Tryz.underlying253 rowErr Tryz.underlying276 Tryz.underlying278 rfl rfl Tryz.underlying9 cellsE cellsS
  have c1 : W.cell? ⟨4, 0, none⟩ = some (.iface 276 (.pointer (some a1))) := by simpa using World.var?_cell gRan hv1 0
  have c0 : W.cell? ⟨3, 0, none⟩ = some (.iface 276 (.pointer (some a0))) := by simpa using World.var?_cell gSyn hv0 0
  refine ⟨⟨⟨_, c0, Or.inr ⟨_, _, rfl⟩⟩, ⟨_, c1, Or.inr ⟨_, _, rfl⟩⟩⟩, ?_⟩
  refine Nat.lt_of_not_le fun hn => ?_
  have hx : W.heap[4]? = none := Array.getElem?_eq_none (by omega)
  simp [World.cell?, hx] at c1
theorem gPow : Tryz.prog.globalNamed "internal/strconv.uint64pow10" = some 0 := by kernel_rfl
theorem tPow : (Tryz.prog.globals[0]?).map (·.type) = some 193 := by kernel_rfl
theorem tab_of_laid {W : World} (h : laidMetH Tryz.prog Rows.chosenRow.laid W) : Lib.TabIs Tryz.prog W "internal/strconv.uint64pow10" .u64 Lib.pow10Tab := by
  rw [MakeChecks.laidMetH_plain _ _ _ (by kernel_rfl)] at h
  exact Lib.tabIs_of_head gPow tPow Tryz.underlying193 Tryz.underlying158 (by kernel_rfl) (by kernel_rfl) (laidMet.tail (laidMet.tail h))
theorem wf_rng {n : Int} (h : (Lit.int .i64 n).wf = true) : -9223372036854775808 ≤ n ∧ n ≤ 9223372036854775807 := by
  simpa [Lit.wf, IntKind.min, IntKind.max, IntKind.signed, IntKind.bits] using h
theorem cellsI : Tryz.prog.cellsOf 3 = 1 := by kernel_rfl
set_option maxRecDepth 100000 in
theorem spot_none {W : World} {base : Nat} {a : Addr} {len cap : Nat} (h : Value.okWide Tryz.prog W .any base 32 (.slice (some a) len cap)) : a.spot = none ∧ a.block < W.heap.size := by
  simp only [Value.okWide, Tryz.underlying32, Cell.okWide, Cell.ok] at h
  obtain ⟨_, _, _, hs, row, cells, hsh, _⟩ := h
  refine ⟨hs, Nat.lt_of_not_le fun hn => ?_⟩
  have hx : W.heap[a.block]? = none := Array.getElem?_eq_none hn
  simp [World.shape?, hx] at hsh
set_option maxRecDepth 100000 in
theorem open_mem {H : Type} {enc : TypeId × Value → H} {W : World} {base : Nat} {v : Value} {d : DataW H} {p : List MemPlace} (hval : Value.okWide Tryz.prog W .any base 32 v) (h : DataW.Trod enc Tryz.prog W 0 (fun _ => true) true 32 v d p) :
    ∃ aM cM, ∃ ms : List Int, v = .slice aM ms.length cM ∧ Y.IntsAt W aM ms ∧ (∀ (j : Nat) u, ms[j]? = some u → -9223372036854775808 ≤ u ∧ u ≤ 9223372036854775807) ∧ ∀ W', Below W.heap.size W W' → DataW.Trod enc Tryz.prog W' 0 (fun b => decide (b < W.heap.size)) true 32 v d p := by
  obtain ⟨a0, len0, cap0, rfl⟩ := okWide_slice Tryz.underlying32 hval
  obtain ⟨fuel, hf⟩ := h
  rcases open_ints Tryz.underlying32 Tryz.underlying3 cellsI hf with ⟨hcs, hx⟩ | ⟨a, len, cap, zs, hcs, _, hl, hm, hlen, hx, hcell, hwf⟩
  · simp [Value.cells] at hcs
    obtain ⟨rfl, rfl, rfl⟩ := hcs
    simp only [Prod.mk.injEq] at hx
    obtain ⟨rfl, rfl⟩ := hx
    refine ⟨none, 0, [], rfl, fun j u hu => (by simp at hu), fun j u hu => (by simp at hu), fun W' _ => shut_slice_nil Tryz.underlying32⟩
  · simp [Value.cells] at hcs
    obtain ⟨rfl, rfl, rfl⟩ := hcs
    simp only [Prod.mk.injEq] at hx
    obtain ⟨rfl, rfl⟩ := hx
    simp only [if_true] at hlen
    obtain ⟨hsp, hbl⟩ := spot_none hval
    obtain ⟨gm, om, sp⟩ := a
    cases hsp
    have hml : (zs.take len0).length = len0 := by rw [List.length_take]; omega
    refine ⟨some ⟨gm, om, none⟩, cap0, zs.take len0, by rw [hml], fun j u hu => ⟨gm, om, rfl, hbl, ?_⟩, fun j u hu => wf_rng (hwf u (List.mem_of_mem_take (List.mem_of_getElem? hu))), fun W' hb' => ?_⟩
    · have hj : j < len0 := by rw [← hml]; exact (List.getElem?_eq_some_iff.1 hu).1
      have hc := hcell j (by omega)
      have ea : (⟨gm, om, none⟩ : Addr).add j = ⟨gm, om + j, none⟩ := by unfold Addr.add; split <;> simp_all
      rw [ea] at hc
      rw [hc]
      rw [List.getElem?_take_of_lt hj] at hu
      rw [List.getD_eq_getElem?_getD, hu]
      rfl
    · have hspb : (fun b => decide (b < W.heap.size)) (⟨gm, om, none⟩ : Addr).block = true := by simpa using hbl
      have t0 := shut_ints (enc := enc) (w := W') (base := 0) (spare := fun b => decide (b < W.heap.size)) (held := true) (a := ⟨gm, om, none⟩) (len := len0) (cap := cap0) (zs := zs) 0 Tryz.underlying32 Tryz.underlying3 cellsI (Nat.zero_le _) hl hm (by rw [if_pos hspb]; exact hlen) (fun i hi => by
        have ea : ((⟨gm, om, none⟩ : Addr).add i).block = gm := by unfold Addr.add; split <;> simp_all
        refine (World.cell?_of_block ?_).trans (hcell i hi)
        rw [ea]
        exact hb'.block gm hbl) hwf
      exact ⟨2, by simpa [Value.cells] using t0⟩
set_option maxRecDepth 100000 in
theorem chosen_lifted (os : Os) (started : os.Started) (H : Type) (enc : TypeId × Value → H) :
    ReturnsInHanded {} Tryz.checked os 10 .any (fun w args => (Rows.chosenSpec.pre enc Tryz.prog Tryz.f10 [] false w args ∧ laidMetH Tryz.prog Rows.chosenRow.laid w) ∧ sizedMet enc Tryz.prog Tryz.f10 (OpenSpec.ofChange Rows.chosenSpec) false w args)
      (Rows.chosenSpec.post enc Tryz.prog Tryz.f10 false true false false) := by
  refine returnsInHanded_of_change_and (C := Tryz.checked) (X := fun w _ => laidMetH Tryz.prog Rows.chosenRow.laid w) (fun _ _ _ hh h => h.of_heap hh) own started (by kernel_rfl) Tryz.func10
    (ChangeSpec.witness_shaped (enc := enc) (C := Tryz.checked) (os := os) (X := fun w _ => laidMetH Tryz.prog Rows.chosenRow.laid w) false (World.doorLaid Tryz.prog 400 os) #[.slice none 0 0, .int .i64 0, .int .i64 0, .slice none 0 0] 8 rfl (World.shaped_of_RefB (by kernel_rfl) (by kernel_rfl)) (by kernel_rfl) (by kernel_rfl) (by kernel_rfl) (door_met os _)) ?_
  intro W base args ds gs before hval0 hW _ _ hL _
  have hval : ∀ (j : Nat) t v, Tryz.f10.params[j]? = some t → args[j]? = some v → Value.okWide Tryz.prog W .any base t v := hval0
  have hW' := hW
  obtain ⟨p, q, hA0, hV, rfl, hfz, hnd⟩ := hW
  have hA : DataW.TrodAll enc Tryz.prog W 0 (fun _ => true) true Tryz.f10.params.toList args.toList ds p := hA0
  rw [Tryz.params10] at hA hval
  obtain ⟨v0, v1, v2, v3, d0, d1, d2, d3, p0, p1, p2, p3, rfl, rfl, rfl, h0, h1, h2, h3⟩ := trodAll_four hA
  obtain ⟨rfl, rfl⟩ := trodVars_none hV
  obtain ⟨aM, cM, ms, rfl, hM, rM, hshut⟩ := open_mem (hval 0 32 v0 rfl rfl) h0
  obtain ⟨x, rfl, rfl, rfl, wx⟩ := open_int Tryz.underlying3 (hval 1 3 v1 rfl rfl) h1
  obtain ⟨y, rfl, rfl, rfl, wy⟩ := open_int Tryz.underlying3 (hval 2 3 v2 rfl rfl) h2
  obtain ⟨aN, cN, ns, rfl, hN, _, hshut2⟩ := open_mem (hval 3 32 v3 rfl rfl) h3
  obtain ⟨hv, hw⟩ := vars_of_laid hL
  clear hA0 hval0
  simp only [List.append_nil] at hW'
  refine (Go.Proofs.YtejbgcloblpbfaaGreatDoor.H.chosen_c W hv hw (tab_of_laid hL) aM cM ms hM rM x y (wf_rng wx) (wf_rng wy) aN cN ns hN).mono fun e W' ⟨he, hb⟩ => ?_
  subst he
  refine ⟨_, rfl, _, _, _, [], p0 ++ ([] ++ ([] ++ p3)), [], hW', ?_, ?_, ?_, hb.frame _, fun h => by cases h⟩
  · exact trodAll_mk1 (shut_bool Tryz.underlying4 true)
  · exact trodAll_mk4 (hshut W' hb) (shut_int Tryz.underlying3 wx) (shut_int Tryz.underlying3 wy) (hshut2 W' hb)
  · rfl
theorem chosen_holds : Rows.ChosenSaid :=
  OpenClaim.holds_of_wide 10 Tryz.f10 rfl rfl rfl rfl rfl rfl rfl ⟨rfl, rfl, rfl, rfl, rfl⟩ rfl rfl rfl rfl rfl (by kernel_rfl) Tryz.func10 (by kernel_rfl)
    (of_decide_eq_true (by kernel_rfl)) (by unfold Func.isWrapper; first | (rw [if_pos (by decide +kernel)]; kernel_rfl) | (rw [if_neg (by decide +kernel)]; exact ⟨rfl, rfl⟩))
    (fun os started H enc _ => chosen_lifted os started H enc)
theorem chosen_card : Rows.ChosenCardSaid :=
  Claim7.holds_tied_plain_at .later [] [.data, .data, .data, .sentinel, .sentinel] true Rows.chosenCard.stood.harness true
    chosen_holds (fun _ h => by cases h) (by kernel_rfl) (fun _ h => by cases h) chosen_row_tie rfl ⟨rfl, rfl⟩ (by kernel_rfl) rfl
    (fun f fn hf hfn => by
      obtain rfl : f = 10 := Option.some.inj ((show Tryz.prog.funcNamed "mute/mutekeep.Chosen" = some 10 by kernel_rfl).symm.trans hf) |>.symm
      obtain rfl : fn = Tryz.f10 := (Option.some.inj (Tryz.func10.symm.trans hfn)).symm
      exact ⟨by kernel_rfl, fun j t ht => by
        rw [Tryz.params10] at ht
        have hm : t ∈ [32, 3, 3, 32] := by simpa using Array.mem_of_getElem? ht
        have hall : ([32, 3, 3, 32].all fun u => !Tryz.prog.wantsStandIn u) = true := by kernel_rfl
        exact (show Tryz.prog.wantsStandIn t = false by simpa using List.all_eq_true.1 hall t hm)⟩)
    (by kernel_rfl)
#print axioms chosen_card
end Go.Proofs.YtejbgcloblpbfaaGreatDoor
