import Derived.Shelf.Strconv.Itoa0
import Derived.Shelf.Strconv.Itoa1
import Derived.Shelf.LaysM
import Derived.Shelf.Strconv.Itoa2
import Derived.Shelf.Strconv.Itoa3
import Derived.Test.YtejbgcloblpbfaaGreatDoorProg
import Derived.Test.YtejbgcloblpbfaaGreatDoorB51
import Derived.Laws.Concat
import Derived.Test.YtejbgcloblpbfaaGreatDoorRows
import Derived.Test.YtejbgcloblpbfaaGreatDoorCards
import Derived.Test.YtejbgcloblpbfaaGreatDoorTie
import Derived.ProofKit
import Derived.LaidMore
import Derived.OpenShut
import Derived.Stop.Joined
import Derived.Stop.LaidErr
import Derived.SevenTiedAt
import Derived.ChangeSlices
import Derived.SizedLaws
namespace Go.Proofs
open Go.Shelf
def Tryz.lays171_ren : Go.Shelf.Ren := ⟨fun | 171 => 37 | 243 => 55 | 246 => 71 | 283 => 96 | 284 => 97 | 285 => 98 | 286 => 99 | 129 => 128 | 317 => 127 | 318 => 129 | 319 => 130 | 320 => 131 | 337 => 165 | 338 => 166 | n => n, fun | 3 => 3 | 9 => 9 | 2 => 2 | 4 => 4 | 171 => 157 | 0 => 0 | 53 => 158 | 37 => 161 | 5 => 5 | 173 => 162 | 212 => 193 | 51 => 194 | 20 => 20 | 213 => 195 | 46 => 197 | 232 => 236 | 233 => 237 | n => n, fun | 17 => 0 | 18 => 1 | 19 => 2 | n => n⟩
theorem Tryz.lays171 : Go.Proofs.Lays.n171 Tryz.prog Tryz.lays171_ren := {
  mixed := by kernel_rfl
  f129 := Tryz.func128.trans (congrArg some (by kernel_rfl))
  f171 := Tryz.func37.trans (congrArg some (by kernel_rfl))
  f243 := Tryz.func55.trans (congrArg some (by kernel_rfl))
  f246 := Tryz.func71.trans (congrArg some (by kernel_rfl))
  f283 := Tryz.func96.trans (congrArg some (by kernel_rfl))
  f284 := Tryz.func97.trans (congrArg some (by kernel_rfl))
  f285 := Tryz.func98.trans (congrArg some (by kernel_rfl))
  f286 := Tryz.func99.trans (congrArg some (by kernel_rfl))
  f317 := Tryz.func127.trans (congrArg some (by kernel_rfl))
  f318 := Tryz.func129.trans (congrArg some (by kernel_rfl))
  f319 := Tryz.func130.trans (congrArg some (by kernel_rfl))
  f320 := Tryz.func131.trans (congrArg some (by kernel_rfl))
  f337 := Tryz.func165.trans (congrArg some (by kernel_rfl))
  f338 := Tryz.func166.trans (congrArg some (by kernel_rfl))
  t0 := Tryz.underlying0
  a0 := Tryz.isAgg0
  z0 := Tryz.sizeOf0
  v0 := Tryz.zeroValue0
  t2 := Tryz.underlying2
  a2 := Tryz.isAgg2
  z2 := Tryz.sizeOf2
  v2 := Tryz.zeroValue2
  t3 := Tryz.underlying3
  a3 := Tryz.isAgg3
  z3 := Tryz.sizeOf3
  v3 := Tryz.zeroValue3
  t4 := Tryz.underlying4
  a4 := Tryz.isAgg4
  z4 := Tryz.sizeOf4
  v4 := Tryz.zeroValue4
  t5 := Tryz.underlying5
  a5 := Tryz.isAgg5
  z5 := Tryz.sizeOf5
  v5 := Tryz.zeroValue5
  t9 := Tryz.underlying9
  a9 := Tryz.isAgg9
  z9 := Tryz.sizeOf9
  v9 := Tryz.zeroValue9
  t20 := Tryz.underlying20
  a20 := Tryz.isAgg20
  z20 := Tryz.sizeOf20
  v20 := Tryz.zeroValue20
  t37 := Tryz.underlying161
  a37 := Tryz.isAgg161
  z37 := Tryz.sizeOf161
  v37 := Tryz.zeroValue161
  t46 := Tryz.underlying197
  a46 := Tryz.isAgg197
  z46 := Tryz.sizeOf197
  v46 := Tryz.zeroValue197
  t51 := Tryz.underlying194
  a51 := Tryz.isAgg194
  z51 := Tryz.sizeOf194
  v51 := Tryz.zeroValue194
  t53 := Tryz.underlying158
  a53 := Tryz.isAgg158
  z53 := Tryz.sizeOf158
  v53 := Tryz.zeroValue158
  t171 := Tryz.underlying157
  a171 := Tryz.isAgg157
  z171 := Tryz.sizeOf157
  v171 := Tryz.zeroValue157
  t173 := Tryz.underlying162
  a173 := Tryz.isAgg162
  z173 := Tryz.sizeOf162
  v173 := Tryz.zeroValue162
  t212 := Tryz.underlying193
  a212 := Tryz.isAgg193
  z212 := Tryz.sizeOf193
  v212 := Tryz.zeroValue193
  t213 := Tryz.underlying195
  a213 := Tryz.isAgg195
  z213 := Tryz.sizeOf195
  t232 := Tryz.underlying236
  a232 := Tryz.isAgg236
  z232 := Tryz.sizeOf236
  v232 := Tryz.zeroValue236
  t233 := Tryz.underlying237
  a233 := Tryz.isAgg237
  z233 := Tryz.sizeOf237
  v233 := Tryz.zeroValue237
  g17 := by kernel_rfl
  g18 := by kernel_rfl
  g19 := by kernel_rfl }
open Go.RowKit Go.Sort Go.Lib in
theorem Tryz.strconv_Itoa_small (i : Nat) (hi : i < 100) (w : World) :
    Calls Tryz.prog 37 #[.int .i64 i] w fun e w' => e = .returned (.string ⟨(Lib.decDigits i).toArray⟩) ∧ w' = w := Any.strconv_Itoa_small Tryz.lays171 i hi w
end Go.Proofs
namespace Go.Proofs.YtejbgcloblpbfaaGreatDoor
open Go.RowKit
open K (Nm Ex Do)
namespace Y
theorem fin_len {l : List Do} {ms : List Int} : ((V.rds l (ms ++ [0, 0])).take ms.length).length = ms.length := by
  rw [List.length_take, V.rds_len, List.length_append]
  simp
theorem fin_get {l : List Do} {ms : List Int} {j : Nat} {u : Int} (h : ((V.rds l (ms ++ [0, 0])).take ms.length)[j]? = some u) : j < ms.length ∧ (V.rds l (ms ++ [0, 0])).getD j 0 = u := by
  rw [List.getElem?_take] at h
  split at h
  · rename_i c
    exact ⟨c, by rw [List.getD_eq_getElem?_getD, h]; rfl⟩
  · cases h
theorem MAt.ints {w : World} {b lo : Nat} {R M : Nat → Int} {S : List Int} (h : MAt w b lo R M S) {l : List Int} (hN : l.length ≤ 256) (hl : ∀ (j : Nat) u, l[j]? = some u → M j = u) : IntsAt w (some ⟨b, 8, none⟩) l := fun j u hj => by
  have hlt := (List.getElem?_eq_some_iff.1 hj).1
  refine ⟨b, 8, rfl, h.lt, ?_⟩
  rw [(h.mem (a := j) (by omega)).1, hl j u hj]
end Y
end Go.Proofs.YtejbgcloblpbfaaGreatDoor
namespace Go.Proofs.YtejbgcloblpbfaaGreatDoor
open Go.RowKit
open K (Nm Ex Do)
namespace Y
theorem wd_get (one : List Int) {n j : Nat} (h : j < n) : (wdA one n)[j]? = some (one.getD j 0) := by
  unfold wdA
  rw [List.getElem?_map, List.getElem?_range h]; rfl
theorem wdb_get (sh : List Bool) (one two : List Int) {n j : Nat} (h : j < n) : (wdB sh one two n)[j]? = some (if sh.getD j false = true then two.getD j 0 else one.getD j 0) := by
  unfold wdB
  rw [List.getElem?_map, List.getElem?_range h]; rfl
theorem wd_pa (sh : List Bool) (one two : List Int) : PA (fun j => !(sh.getD j false)) (wdA one sh.length ++ [0, 0]) (wdB sh one two sh.length ++ [0, 0]) := by
  have la := wdA_len one sh.length
  have lb := wdB_len sh one two sh.length
  refine ⟨by rw [List.length_append, List.length_append, la, lb], fun j hj => ?_⟩
  have hs : ¬ sh.getD j false = true := by
    intro e
    have hj' : (!(sh.getD j false)) = true := hj
    rw [e] at hj'
    cases hj'
  rw [List.getD_eq_getElem?_getD, List.getD_eq_getElem?_getD]
  by_cases c : j < sh.length
  · rw [List.getElem?_append_left (by omega), List.getElem?_append_left (by omega), wd_get _ c, wdb_get _ _ _ c, if_neg hs]
  · rw [List.getElem?_append_right (by omega), List.getElem?_append_right (by omega), la, lb]
theorem seen_same {N : Nat} {sh : List Bool} {l : List Do} (hP : Pr N sh l) (one two : List Int) : seenOf N l (wdA one sh.length) = seenOf N l (wdB sh one two sh.length) := by
  unfold seenOf
  rw [(l_pub l (dep := 0) false hP.sc hP.pb hP.ok true true (fun _ => ⟨rfl, rfl⟩) _ _ (wd_pa sh one two) 0 ((List.range 256).drop (N + 2)) none).1]
set_option maxHeartbeats 1000000 in
theorem ksame_q {l : List Int} {w : World} {a b : Option Addr} {ca cb : Nat} (h54 : l.length ≤ 1000000) (ha : IntsAt w a l) (hb : IntsAt w b l) :
    Calls Tryz.prog 35 #[.slice a l.length ca, .slice b l.length cb] w fun x w' => x = .returned (.bool true) ∧ ∃ m, w' = w.drewN m := by
  have HA := hide ha
  have HB := hide hb
  clear ha hb
  go_enter Tryz.func35, Tryz.ntmps35
  go_wp2_with fail
  go_loopg [5] l.length (fun gk i wr => ∃ k : Nat, k + gk = l.length ∧ i = .int .i64 (k : Int) ∧ ∃ m, wr = w.drewN m)
  case atStart => exact ⟨0, by omega, rfl, 0, rfl⟩
  case round =>
    obtain ⟨k, hk, rfl, m, hs⟩ := hrel
    subst hs
    cases gk with
    | zero =>
      have hz : ¬ ((k : Int) < (l.length : Int)) := by omega
      go_wp2_with fail
      go_ret
      exact ⟨rfl, m, rfl⟩
    | succ g1 =>
      have hz : (k : Int) < (l.length : Int) := by omega
      obtain ⟨u, hu⟩ : ∃ u, l[k]? = some u := ⟨_, List.getElem?_eq_getElem (by omega)⟩
      obtain ⟨ga, oa, rfl, _, c1⟩ := HA.out k u hu
      obtain ⟨gb, ob, rfl, _, c2⟩ := HB.out k u hu
      have c1' : (w.drewN m).cell? ⟨ga, oa + k, none⟩ = some (.int .i64 u) := c1
      have c2' : (w.drewN m).cell? ⟨gb, ob + k, none⟩ = some (.int .i64 u) := c2
      generalize hWm : w.drewN m = Wm at *
      go_wp2_with (go_quiet (fail))
      go_roundg g1
      case measure => omega
      case rel => exact ⟨k + 1, by omega, by go_num, _, by rw [← hWm, World.drewN_drewN]⟩
theorem go_seen {C : List Ins} : ∀ {n : Nat} {s s' : Ma}, go C n s = some s' → s'.seen.length ≤ s.seen.length + 3 * n
  | 0, s, s', h => by rw [go_zero h]; omega
  | n + 1, s, s', h => by
    obtain ⟨i, s1, _, h2, h3⟩ := go_succ h
    have := step_seen h2
    have := go_seen h3
    omega
theorem seenOf_len {N : Nat} {sh : List Bool} {l : List Do} (hP : Pr N sh l) (ms : List Int) (hm : ms.length = N) : (seenOf N l ms).length ≤ 400000 := by
  obtain ⟨n, s', h1, h2, _, _, h5⟩ := pr_sim2 hP ms hm
  have := go_seen h1
  rw [← h5, List.length_append]
  simp at this ⊢
  omega
theorem MAt.seenI {w : World} {b lo : Nat} {R M : Nat → Int} {S : List Int} (h : MAt w b lo R M S) : ∃ sa sc, w.cell? ⟨b, 264, none⟩ = some (.slice sa S.length sc) ∧ IntsAt w sa S := by
  obtain ⟨sa, sc, c, _, _, o, _⟩ := h.ready
  exact ⟨sa, sc, c, IntsAt.of_own o⟩
end Y
end Go.Proofs.YtejbgcloblpbfaaGreatDoor
namespace Go.Proofs.YtejbgcloblpbfaaGreatDoor
open Go.RowKit
open K (Nm Ex Do)
namespace Y
def bub : List Int → List Int
  | [] => []
  | [x] => [x]
  | x :: y :: l => if y < x then y :: bub (x :: l) else x :: bub (y :: l)
theorem bub_perm : ∀ l : List Int, (bub l).Perm l
  | [] => by rw [bub]
  | [x] => by rw [bub]
  | x :: y :: l => by
    rw [bub]
    split
    · exact ((bub_perm (x :: l)).cons y).trans (List.Perm.swap x y l)
    · exact (bub_perm (y :: l)).cons x
  termination_by l => l.length
theorem bub_last : ∀ (l : List Int) (x : Int), ∃ a m, bub (x :: l) = a ++ [m] ∧ ∀ u ∈ a, u ≤ m
  | [], x => ⟨[], x, by rw [bub]; rfl, fun u h => by cases h⟩
  | y :: l, x => by
    rw [bub]
    split
    · obtain ⟨a, m, h1, h2⟩ := bub_last l x
      refine ⟨y :: a, m, by rw [h1]; rfl, fun u h => ?_⟩
      have hx : x ∈ a ++ [m] := by rw [← h1]; exact (bub_perm _).mem_iff.2 (List.mem_cons_self ..)
      have hxm : x ≤ m := by
        rcases List.mem_append.1 hx with h3 | h3
        · exact h2 x h3
        · rw [List.mem_singleton.1 h3]; exact Int.le_refl _
      rcases List.mem_cons.1 h with h3 | h3
      · omega
      · exact h2 u h3
    · obtain ⟨a, m, h1, h2⟩ := bub_last l y
      refine ⟨x :: a, m, by rw [h1]; rfl, fun u h => ?_⟩
      have hx : y ∈ a ++ [m] := by rw [← h1]; exact (bub_perm _).mem_iff.2 (List.mem_cons_self ..)
      have hxm : y ≤ m := by
        rcases List.mem_append.1 hx with h3 | h3
        · exact h2 y h3
        · rw [List.mem_singleton.1 h3]; exact Int.le_refl _
      rcases List.mem_cons.1 h with h3 | h3
      · omega
      · exact h2 u h3
theorem bub_sorted : ∀ (b : List Int), b.Pairwise (· ≤ ·) → bub b = b
  | [], _ => by rw [bub]
  | [x], _ => by rw [bub]
  | x :: y :: l, h => by
    obtain ⟨h1, h2⟩ := List.pairwise_cons.1 h
    rw [bub, if_neg (by have := h1 y (List.mem_cons_self ..); omega), bub_sorted (y :: l) h2]
theorem bub_app : ∀ (n : Nat) (a b : List Int), a.length = n → b.Pairwise (· ≤ ·) → (∀ x ∈ a, ∀ y ∈ b, x ≤ y) → bub (a ++ b) = bub a ++ b
  | 0, a, b, hn, hb, _ => by
    rw [List.length_eq_zero_iff.1 hn, bub]
    exact bub_sorted b hb
  | 1, a, b, hn, hb, h => by
    obtain ⟨x, rfl⟩ := List.length_eq_one_iff.1 hn
    rw [bub]
    exact bub_sorted (x :: b) (List.pairwise_cons.2 ⟨fun y hy => h x (List.mem_cons_self ..) y hy, hb⟩)
  | n + 2, a, b, hn, hb, h => by
    match a, hn with
    | x :: y :: l, hn =>
      have hl : l.length = n := by simpa using hn
      show bub (x :: y :: (l ++ b)) = _
      rw [bub, bub]
      split
      · have := bub_app (n + 1) (x :: l) b (by simp [hl]) hb (fun u hu v hv => h u (by simp only [List.mem_cons] at hu ⊢; rcases hu with hu | hu <;> simp [hu]) v hv)
        rw [show x :: (l ++ b) = (x :: l) ++ b from rfl, this]
        rfl
      · have := bub_app (n + 1) (y :: l) b (by simp [hl]) hb (fun u hu v hv => h u (by simp only [List.mem_cons] at hu ⊢; rcases hu with hu | hu <;> simp [hu]) v hv)
        rw [show y :: (l ++ b) = (y :: l) ++ b from rfl, this]
        rfl
def Tail (k : Nat) (l : List Int) : Prop := ∃ a b, l = a ++ b ∧ b.length = k ∧ b.Pairwise (· ≤ ·) ∧ ∀ x ∈ a, ∀ y ∈ b, x ≤ y
theorem Tail.next {k : Nat} {l : List Int} (h : Tail k l) (hk : k < l.length) : Tail (k + 1) (bub l) := by
  obtain ⟨a, b, rfl, h1, h2, h3⟩ := h
  rw [bub_app a.length a b rfl h2 h3]
  match a, hk with
  | [], hk => simp at hk; omega
  | x :: a, _ =>
    obtain ⟨c, m, e, h4⟩ := bub_last a x
    have hm : ∀ u, u ∈ c ++ [m] → u ∈ x :: a := fun u hu => (bub_perm (x :: a)).mem_iff.1 (by rw [e]; exact hu)
    refine ⟨c, m :: b, by rw [e, List.append_assoc]; rfl, by simp [h1], List.pairwise_cons.2 ⟨fun y hy => h3 m (hm m (by simp)) y hy, h2⟩, fun u hu y hy => ?_⟩
    rcases List.mem_cons.1 hy with rfl | hy
    · exact h4 u hu
    · exact h3 u (hm u (by simp [hu])) y hy
theorem bub_length (l : List Int) : (bub l).length = l.length := (bub_perm l).length_eq
theorem five_sorted {l : List Int} (h : l.length = 6) : (bub (bub (bub (bub (bub l))))).Pairwise (· ≤ ·) := by
  have t0 : Tail 0 l := ⟨l, [], by simp, rfl, List.Pairwise.nil, fun _ _ y hy => by cases hy⟩
  have t5 := ((((t0.next (by omega)).next (by rw [bub_length]; omega)).next (by simp only [bub_length]; omega)).next (by simp only [bub_length]; omega)).next (by simp only [bub_length]; omega)
  obtain ⟨a, b, e, h1, h2, h3⟩ := t5
  have hl : a.length = 1 := by
    have := congrArg List.length e
    simp only [bub_length, List.length_append] at this
    omega
  obtain ⟨x, rfl⟩ := List.length_eq_one_iff.1 hl
  rw [e]
  exact List.pairwise_cons.2 ⟨fun y hy => h3 x (by simp) y hy, h2⟩
theorem five_perm (l : List Int) : (bub (bub (bub (bub (bub l))))).Perm l :=
  (bub_perm _).trans ((bub_perm _).trans ((bub_perm _).trans ((bub_perm _).trans (bub_perm _))))
abbrev sortS : ByteArray := { data := #[40, 97, 114, 114, 97, 121, 32, 115, 101, 99, 114, 101, 116, 32, 97, 32, 54, 41, 40, 115, 101, 99, 114, 101, 116, 32, 116, 41, 40, 102, 111, 114, 32, 114, 32, 53, 32, 40, 105, 102, 32, 40, 60, 32, 40, 103, 101, 116, 32, 97, 32, 49, 41, 32, 40, 103, 101, 116, 32, 97, 32, 48, 41, 41, 40, 40, 115, 101, 116, 32, 116, 32, 40, 103, 101, 116, 32, 97, 32, 48, 41, 41, 40, 112, 117, 116, 32, 97, 32, 48, 32, 40, 103, 101, 116, 32, 97, 32, 49, 41, 41, 40, 112, 117, 116, 32, 97, 32, 49, 32, 116, 41, 41, 40, 41, 41, 40, 105, 102, 32, 40, 60, 32, 40, 103, 101, 116, 32, 97, 32, 50, 41, 32, 40, 103, 101, 116, 32, 97, 32, 49, 41, 41, 40, 40, 115, 101, 116, 32, 116, 32, 40, 103, 101, 116, 32, 97, 32, 49, 41, 41, 40, 112, 117, 116, 32, 97, 32, 49, 32, 40, 103, 101, 116, 32, 97, 32, 50, 41, 41, 40, 112, 117, 116, 32, 97, 32, 50, 32, 116, 41, 41, 40, 41, 41, 40, 105, 102, 32, 40, 60, 32, 40, 103, 101, 116, 32, 97, 32, 51, 41, 32, 40, 103, 101, 116, 32, 97, 32, 50, 41, 41, 40, 40, 115, 101, 116, 32, 116, 32, 40, 103, 101, 116, 32, 97, 32, 50, 41, 41, 40, 112, 117, 116, 32, 97, 32, 50, 32, 40, 103, 101, 116, 32, 97, 32, 51, 41, 41, 40, 112, 117, 116, 32, 97, 32, 51, 32, 116, 41, 41, 40, 41, 41, 40, 105, 102, 32, 40, 60, 32, 40, 103, 101, 116, 32, 97, 32, 52, 41, 32, 40, 103, 101, 116, 32, 97, 32, 51, 41, 41, 40, 40, 115, 101, 116, 32, 116, 32, 40, 103, 101, 116, 32, 97, 32, 51, 41, 41, 40, 112, 117, 116, 32, 97, 32, 51, 32, 40, 103, 101, 116, 32, 97, 32, 52, 41, 41, 40, 112, 117, 116, 32, 97, 32, 52, 32, 116, 41, 41, 40, 41, 41, 40, 105, 102, 32, 40, 60, 32, 40, 103, 101, 116, 32, 97, 32, 53, 41, 32, 40, 103, 101, 116, 32, 97, 32, 52, 41, 41, 40, 40, 115, 101, 116, 32, 116, 32, 40, 103, 101, 116, 32, 97, 32, 52, 41, 41, 40, 112, 117, 116, 32, 97, 32, 52, 32, 40, 103, 101, 116, 32, 97, 32, 53, 41, 41, 40, 112, 117, 116, 32, 97, 32, 53, 32, 116, 41, 41, 40, 41, 41, 41] }
set_option maxRecDepth 100000 in
theorem sort_err : (R.read sortS).err = 0 := by decide +kernel
set_option maxRecDepth 100000 in
theorem sort_shape : (R.read sortS).shape = [true, true, true, true, true, true, true] := by decide +kernel
def snA : Nm := ⟨⟨#[97]⟩, 1, true, 6, 0⟩
def snT : Nm := ⟨⟨#[116]⟩, 0, true, 1, 6⟩
def snR : Nm := ⟨⟨#[114]⟩, 2, false, 0, 7⟩
def ifJ (j p0 p1 p2 p3 p4 p5 p6 p7 p8 : Int) : Do := .ifs p0 (.op p1 60 (.get p2 snA (.num (j + 1))) (.get p3 snA (.num j))) [.set p4 snT (.get p5 snA (.num j)), .put p6 snA (.num j) (.get p7 snA (.num (j + 1))), .put p8 snA (.num (j + 1)) (.use snT)] []
def snP : List Do := [ifJ 0 37 41 44 54 65 72 82 91 101, ifJ 1 116 120 123 133 144 151 161 170 180, ifJ 2 195 199 202 212 223 230 240 249 259, ifJ 3 274 278 281 291 302 309 319 328 338, ifJ 4 353 357 360 370 381 388 398 407 417] 
def sortP : List Do := [.fors 28 snR (.num 5) snP]
set_option maxRecDepth 100000 in
theorem sort_prog : K.progD (R.toks sortS) = sortP := by kernel_rfl
theorem opf60 (a b : Int) : V.opf 60 a b = if a < b then 1 else 0 := by
  unfold V.opf
  rw [if_neg (by decide), if_neg (by decide), if_neg (by decide), if_neg (by decide), if_neg (by decide), if_neg (by decide), if_pos (by decide)]
theorem at0 : (snA.place + V.md 0 snA.size).toNat = 0 := by decide +kernel
theorem at1 : (snA.place + V.md 1 snA.size).toNat = 1 := by decide +kernel
theorem at2 : (snA.place + V.md 2 snA.size).toNat = 2 := by decide +kernel
theorem at3 : (snA.place + V.md 3 snA.size).toNat = 3 := by decide +kernel
theorem at4 : (snA.place + V.md 4 snA.size).toNat = 4 := by decide +kernel
theorem at5 : (snA.place + V.md 5 snA.size).toNat = 5 := by decide +kernel
theorem at6 : snT.place.toNat = 6 := by decide +kernel
def lo (a b : Int) : Int := if b < a then b else a
def hi (a b : Int) : Int := if b < a then a else b
theorem bub_lo (x y : Int) (l : List Int) : bub (x :: y :: l) = lo x y :: bub (hi x y :: l) := by
  rw [bub]
  unfold lo hi
  split <;> rfl
theorem st0 (p0 p1 p2 p3 p4 p5 p6 p7 p8 x0 x1 x2 x3 x4 x5 t r c : Int) : ∃ t', V.rd (ifJ 0 p0 p1 p2 p3 p4 p5 p6 p7 p8) [x0, x1, x2, x3, x4, x5, t, r, c] = [(lo x0 x1), (hi x0 x1), x2, x3, x4, x5, t', r, c] := by
  unfold ifJ
  rw [show (0 : Int) + 1 = 1 from rfl]
  by_cases h : x1 < x0
  · refine ⟨x0, ?_⟩
    have e1 : lo x0 x1 = x1 := if_pos h
    have e2 : hi x0 x1 = x0 := if_pos h
    rw [e1, e2, V.rd, if_neg (by
      have e : V.ev [x0, x1, x2, x3, x4, x5, t, r, c] (.op p1 60 (.get p2 snA (.num 1)) (.get p3 snA (.num 0))) = (if x1 < x0 then 1 else 0) := by simp only [V.ev, opf60, at0, at1]; rfl
      rw [e, if_pos h]; decide)]
    simp only [V.rds, V.rd, V.ev, at0, at1, at6]
    rfl
  · refine ⟨t, ?_⟩
    have e1 : lo x0 x1 = x0 := if_neg h
    have e2 : hi x0 x1 = x1 := if_neg h
    rw [e1, e2, V.rd, if_pos (by
      have e : V.ev [x0, x1, x2, x3, x4, x5, t, r, c] (.op p1 60 (.get p2 snA (.num 1)) (.get p3 snA (.num 0))) = (if x1 < x0 then 1 else 0) := by simp only [V.ev, opf60, at0, at1]; rfl
      rw [e, if_neg h])]
    rw [V.rds]
theorem st1 (p0 p1 p2 p3 p4 p5 p6 p7 p8 x0 x1 x2 x3 x4 x5 t r c : Int) : ∃ t', V.rd (ifJ 1 p0 p1 p2 p3 p4 p5 p6 p7 p8) [x0, x1, x2, x3, x4, x5, t, r, c] = [x0, (lo x1 x2), (hi x1 x2), x3, x4, x5, t', r, c] := by
  unfold ifJ
  rw [show (1 : Int) + 1 = 2 from rfl]
  by_cases h : x2 < x1
  · refine ⟨x1, ?_⟩
    have e1 : lo x1 x2 = x2 := if_pos h
    have e2 : hi x1 x2 = x1 := if_pos h
    rw [e1, e2, V.rd, if_neg (by
      have e : V.ev [x0, x1, x2, x3, x4, x5, t, r, c] (.op p1 60 (.get p2 snA (.num 2)) (.get p3 snA (.num 1))) = (if x2 < x1 then 1 else 0) := by simp only [V.ev, opf60, at1, at2]; rfl
      rw [e, if_pos h]; decide)]
    simp only [V.rds, V.rd, V.ev, at1, at2, at6]
    rfl
  · refine ⟨t, ?_⟩
    have e1 : lo x1 x2 = x1 := if_neg h
    have e2 : hi x1 x2 = x2 := if_neg h
    rw [e1, e2, V.rd, if_pos (by
      have e : V.ev [x0, x1, x2, x3, x4, x5, t, r, c] (.op p1 60 (.get p2 snA (.num 2)) (.get p3 snA (.num 1))) = (if x2 < x1 then 1 else 0) := by simp only [V.ev, opf60, at1, at2]; rfl
      rw [e, if_neg h])]
    rw [V.rds]
theorem st2 (p0 p1 p2 p3 p4 p5 p6 p7 p8 x0 x1 x2 x3 x4 x5 t r c : Int) : ∃ t', V.rd (ifJ 2 p0 p1 p2 p3 p4 p5 p6 p7 p8) [x0, x1, x2, x3, x4, x5, t, r, c] = [x0, x1, (lo x2 x3), (hi x2 x3), x4, x5, t', r, c] := by
  unfold ifJ
  rw [show (2 : Int) + 1 = 3 from rfl]
  by_cases h : x3 < x2
  · refine ⟨x2, ?_⟩
    have e1 : lo x2 x3 = x3 := if_pos h
    have e2 : hi x2 x3 = x2 := if_pos h
    rw [e1, e2, V.rd, if_neg (by
      have e : V.ev [x0, x1, x2, x3, x4, x5, t, r, c] (.op p1 60 (.get p2 snA (.num 3)) (.get p3 snA (.num 2))) = (if x3 < x2 then 1 else 0) := by simp only [V.ev, opf60, at2, at3]; rfl
      rw [e, if_pos h]; decide)]
    simp only [V.rds, V.rd, V.ev, at2, at3, at6]
    rfl
  · refine ⟨t, ?_⟩
    have e1 : lo x2 x3 = x2 := if_neg h
    have e2 : hi x2 x3 = x3 := if_neg h
    rw [e1, e2, V.rd, if_pos (by
      have e : V.ev [x0, x1, x2, x3, x4, x5, t, r, c] (.op p1 60 (.get p2 snA (.num 3)) (.get p3 snA (.num 2))) = (if x3 < x2 then 1 else 0) := by simp only [V.ev, opf60, at2, at3]; rfl
      rw [e, if_neg h])]
    rw [V.rds]
theorem st3 (p0 p1 p2 p3 p4 p5 p6 p7 p8 x0 x1 x2 x3 x4 x5 t r c : Int) : ∃ t', V.rd (ifJ 3 p0 p1 p2 p3 p4 p5 p6 p7 p8) [x0, x1, x2, x3, x4, x5, t, r, c] = [x0, x1, x2, (lo x3 x4), (hi x3 x4), x5, t', r, c] := by
  unfold ifJ
  rw [show (3 : Int) + 1 = 4 from rfl]
  by_cases h : x4 < x3
  · refine ⟨x3, ?_⟩
    have e1 : lo x3 x4 = x4 := if_pos h
    have e2 : hi x3 x4 = x3 := if_pos h
    rw [e1, e2, V.rd, if_neg (by
      have e : V.ev [x0, x1, x2, x3, x4, x5, t, r, c] (.op p1 60 (.get p2 snA (.num 4)) (.get p3 snA (.num 3))) = (if x4 < x3 then 1 else 0) := by simp only [V.ev, opf60, at3, at4]; rfl
      rw [e, if_pos h]; decide)]
    simp only [V.rds, V.rd, V.ev, at3, at4, at6]
    rfl
  · refine ⟨t, ?_⟩
    have e1 : lo x3 x4 = x3 := if_neg h
    have e2 : hi x3 x4 = x4 := if_neg h
    rw [e1, e2, V.rd, if_pos (by
      have e : V.ev [x0, x1, x2, x3, x4, x5, t, r, c] (.op p1 60 (.get p2 snA (.num 4)) (.get p3 snA (.num 3))) = (if x4 < x3 then 1 else 0) := by simp only [V.ev, opf60, at3, at4]; rfl
      rw [e, if_neg h])]
    rw [V.rds]
theorem st4 (p0 p1 p2 p3 p4 p5 p6 p7 p8 x0 x1 x2 x3 x4 x5 t r c : Int) : ∃ t', V.rd (ifJ 4 p0 p1 p2 p3 p4 p5 p6 p7 p8) [x0, x1, x2, x3, x4, x5, t, r, c] = [x0, x1, x2, x3, (lo x4 x5), (hi x4 x5), t', r, c] := by
  unfold ifJ
  rw [show (4 : Int) + 1 = 5 from rfl]
  by_cases h : x5 < x4
  · refine ⟨x4, ?_⟩
    have e1 : lo x4 x5 = x5 := if_pos h
    have e2 : hi x4 x5 = x4 := if_pos h
    rw [e1, e2, V.rd, if_neg (by
      have e : V.ev [x0, x1, x2, x3, x4, x5, t, r, c] (.op p1 60 (.get p2 snA (.num 5)) (.get p3 snA (.num 4))) = (if x5 < x4 then 1 else 0) := by simp only [V.ev, opf60, at4, at5]; rfl
      rw [e, if_pos h]; decide)]
    simp only [V.rds, V.rd, V.ev, at4, at5, at6]
    rfl
  · refine ⟨t, ?_⟩
    have e1 : lo x4 x5 = x4 := if_neg h
    have e2 : hi x4 x5 = x5 := if_neg h
    rw [e1, e2, V.rd, if_pos (by
      have e : V.ev [x0, x1, x2, x3, x4, x5, t, r, c] (.op p1 60 (.get p2 snA (.num 5)) (.get p3 snA (.num 4))) = (if x5 < x4 then 1 else 0) := by simp only [V.ev, opf60, at4, at5]; rfl
      rw [e, if_neg h])]
    rw [V.rds]
theorem sn_pass : ∀ (l : List Int), l.length = 6 → ∀ t r c : Int, ∃ t', V.rds snP (l ++ [t, r, c]) = bub l ++ [t', r, c]
  | [x0, x1, x2, x3, x4, x5], _ => fun t r c => by
    unfold snP
    obtain ⟨t0, h0⟩ := st0 37 41 44 54 65 72 82 91 101 x0 x1 x2 x3 x4 x5 t r c
    obtain ⟨t1, h1⟩ := st1 116 120 123 133 144 151 161 170 180 (lo x0 x1) (hi x0 x1) x2 x3 x4 x5 t0 r c
    obtain ⟨t2, h2⟩ := st2 195 199 202 212 223 230 240 249 259 (lo x0 x1) (lo (hi x0 x1) x2) (hi (hi x0 x1) x2) x3 x4 x5 t1 r c
    obtain ⟨t3, h3⟩ := st3 274 278 281 291 302 309 319 328 338 (lo x0 x1) (lo (hi x0 x1) x2) (lo (hi (hi x0 x1) x2) x3) (hi (hi (hi x0 x1) x2) x3) x4 x5 t2 r c
    obtain ⟨t4, h4⟩ := st4 353 357 360 370 381 388 398 407 417 (lo x0 x1) (lo (hi x0 x1) x2) (lo (hi (hi x0 x1) x2) x3) (lo (hi (hi (hi x0 x1) x2) x3) x4) (hi (hi (hi (hi x0 x1) x2) x3) x4) x5 t3 r c
    refine ⟨t4, ?_⟩
    rw [bub_lo, bub_lo, bub_lo, bub_lo, bub_lo, bub]
    show V.rds _ [x0, x1, x2, x3, x4, x5, t, r, c] = _
    rw [V.rds, h0, V.rds, h1, V.rds, h2, V.rds, h3, V.rds, h4, V.rds]
    rfl
theorem sn_round (l : List Int) (hl : l.length = 6) (t c : Int) (i : Nat) (q : Int) : ∃ t', V.rds snP ((l ++ [t, q, c]).set 7 (i : Int)) = bub l ++ [t', (i : Int), c] := by
  have e : (l ++ [t, q, c]).set 7 (i : Int) = l ++ [t, (i : Int), c] := by rw [List.set_append_right _ _ (by omega), hl]; rfl
  rw [e]
  exact sn_pass l hl t _ c
theorem sort_fin (l : List Int) (hl : l.length = 6) (t : Int) : ∃ t' q, V.rds (K.progD (R.toks sortS)) ((l ++ [t]) ++ [0, 0]) = bub (bub (bub (bub (bub l)))) ++ [t', q, 0] := by
  rw [sort_prog]
  unfold sortP
  simp only [V.rds, V.rd]
  have e5 : V.times (V.ev (l ++ [t] ++ [0, 0]) (.num 5)) = 5 := by rw [V.ev]; decide
  rw [e5]
  show ∃ t' q, V.rounds (fun W => V.rds snP W) 7 0 5 (l ++ [t] ++ [0, 0]) = _
  rw [List.append_assoc]
  show ∃ t' q, V.rounds (fun W => V.rds snP W) 7 0 5 (l ++ [t, 0, 0]) = _
  obtain ⟨t1, h1⟩ := sn_round l hl t 0 0 0
  obtain ⟨t2, h2⟩ := sn_round (bub l) (by simp only [bub_length, hl]) t1 0 1 (0 : Nat)
  obtain ⟨t3, h3⟩ := sn_round (bub (bub l)) (by simp only [bub_length, hl]) t2 0 2 (1 : Nat)
  obtain ⟨t4, h4⟩ := sn_round (bub (bub (bub l))) (by simp only [bub_length, hl]) t3 0 3 (2 : Nat)
  obtain ⟨t5, h5⟩ := sn_round (bub (bub (bub (bub l)))) (by simp only [bub_length, hl]) t4 0 4 (3 : Nat)
  refine ⟨t5, (4 : Nat), ?_⟩
  rw [V.rounds, h1, V.rounds, h2, V.rounds, h3, V.rounds, h4, V.rounds, h5, V.rounds]
end Y
end Go.Proofs.YtejbgcloblpbfaaGreatDoor
namespace Go.Proofs.YtejbgcloblpbfaaGreatDoor
open Go.RowKit
open K (Nm Ex Do)
namespace Y
def j2 (a b : ByteArray) : ByteArray := a ++ b
theorem j2_le {a b : ByteArray} {n m : Nat} (ha : a.size ≤ n) (hb : b.size ≤ m) : (j2 a b).size ≤ n + m := by unfold j2; rw [ByteArray.size_append]; omega
theorem cat_ok (w : World) (a b : ByteArray) {n m : Nat} (ha : a.size ≤ n) (hb : b.size ≤ m) (h : n + m ≤ 100000) : (Op.stringOp .add a b).run Tryz.prog w = .ok (.string (j2 a b)) w := run_string_add_sum w a b (by omega)
def dg (j : Nat) : ByteArray := ⟨(Lib.decDigits j).toArray⟩
def gX (j : Nat) : ByteArray := j2 (j2 ⟨#[40, 103, 101, 116, 32, 97, 32]⟩ (dg j)) ⟨#[41]⟩
def sPs : Nat → ByteArray
  | 0 => ⟨#[]⟩
  | j + 1 => j2 (j2 (j2 (j2 (j2 (j2 (j2 (j2 (j2 (j2 (j2 (j2 (j2 (sPs j) ⟨#[40, 105, 102, 32, 40, 60, 32]⟩) (gX (j + 1))) ⟨#[32]⟩) (gX j)) ⟨#[41, 40, 40, 115, 101, 116, 32, 116, 32]⟩) (gX j)) ⟨#[41, 40, 112, 117, 116, 32, 97, 32]⟩) (dg j)) ⟨#[32]⟩) (gX (j + 1))) ⟨#[41, 40, 112, 117, 116, 32, 97, 32]⟩) (dg (j + 1))) ⟨#[32, 116, 41, 41, 40, 41, 41]⟩
theorem dg_le {j : Nat} (h : j ≤ 5) : (dg j).size ≤ 1 := by
  match j, h with
  | 0, _ => decide +kernel
  | 1, _ => decide +kernel
  | 2, _ => decide +kernel
  | 3, _ => decide +kernel
  | 4, _ => decide +kernel
  | 5, _ => decide +kernel
theorem gX_le {j : Nat} (h : j ≤ 5) : (gX j).size ≤ 9 := j2_le (j2_le (n := 7) (by decide) (dg_le h)) (m := 1) (by decide)
theorem sPs_le : ∀ {j : Nat}, j ≤ 5 → (sPs j).size ≤ 80 * j
  | 0, _ => by decide
  | j + 1, h => by
    have := sPs_le (j := j) (by omega)
    have g0 := gX_le (j := j) (by omega)
    have g1 := gX_le (j := j + 1) (by omega)
    have d0 := dg_le (j := j) (by omega)
    have d1 := dg_le (j := j + 1) (by omega)
    unfold sPs
    simp only [j2, ByteArray.size_append] at *
    have e1 : (⟨#[40, 105, 102, 32, 40, 60, 32]⟩ : ByteArray).size = 7 := rfl
    have e2 : (⟨#[32]⟩ : ByteArray).size = 1 := rfl
    have e3 : (⟨#[41, 40, 40, 115, 101, 116, 32, 116, 32]⟩ : ByteArray).size = 9 := rfl
    have e4 : (⟨#[41, 40, 112, 117, 116, 32, 97, 32]⟩ : ByteArray).size = 8 := rfl
    have e5 : (⟨#[32, 116, 41, 41, 40, 41, 41]⟩ : ByteArray).size = 7 := rfl
    rw [e1, e2, e3, e4, e5]
    omega
theorem sort_text : j2 (j2 ⟨#[40, 97, 114, 114, 97, 121, 32, 115, 101, 99, 114, 101, 116, 32, 97, 32, 54, 41, 40, 115, 101, 99, 114, 101, 116, 32, 116, 41, 40, 102, 111, 114, 32, 114, 32, 53, 32]⟩ (sPs 5)) ⟨#[41]⟩ = sortS := by kernel_rfl
theorem text_a (w : World) : (Op.stringOp .add ⟨#[40, 97, 114, 114, 97, 121, 32, 115, 101, 99, 114, 101, 116, 32, 97, 32, 54, 41, 40, 115, 101, 99, 114, 101, 116, 32, 116, 41, 40, 102, 111, 114, 32, 114, 32, 53, 32]⟩ (sPs 5)).run Tryz.prog w = .ok (.string (j2 ⟨#[40, 97, 114, 114, 97, 121, 32, 115, 101, 99, 114, 101, 116, 32, 97, 32, 54, 41, 40, 115, 101, 99, 114, 101, 116, 32, 116, 41, 40, 102, 111, 114, 32, 114, 32, 53, 32]⟩ (sPs 5))) w := cat_ok w _ _ (n := 37) (m := 400) (by decide) (sPs_le (by omega)) (by decide)
theorem text_b (w : World) : (Op.stringOp .add (j2 ⟨#[40, 97, 114, 114, 97, 121, 32, 115, 101, 99, 114, 101, 116, 32, 97, 32, 54, 41, 40, 115, 101, 99, 114, 101, 116, 32, 116, 41, 40, 102, 111, 114, 32, 114, 32, 53, 32]⟩ (sPs 5)) ⟨#[41]⟩).run Tryz.prog w = .ok (.string sortS) w := by
  rw [← sort_text]
  exact cat_ok w _ _ (n := 437) (m := 1) (j2_le (n := 37) (m := 400) (by decide) (sPs_le (by omega))) (by decide) (by decide)
theorem itoa_dg (i : Nat) (hi : i < 100) (w : World) : Calls Tryz.prog 37 #[.int .i64 (i : Int)] w fun e w' => e = .returned (.string (dg i)) ∧ w' = w := Tryz.strconv_Itoa_small i hi w
def mn (a r : List Int) (x : Int) : Nat → Int
  | 0 => 0
  | j + 1 => mn a r x j + (if a.getD j 0 = x then 1 else 0) - (if r.getD j 0 = x then 1 else 0)
theorem mn_bd (a r : List Int) (x : Int) : ∀ j : Nat, -(j : Int) ≤ mn a r x j ∧ mn a r x j ≤ j
  | 0 => by unfold mn; omega
  | j + 1 => by
    have := mn_bd a r x j
    unfold mn
    split <;> split <;> omega
theorem take_count (a : List Int) (x : Int) {j : Nat} (h : j < a.length) : (a.take (j + 1)).count x = (a.take j).count x + (if a.getD j 0 = x then 1 else 0) := by
  rw [List.take_succ_eq_append_getElem h, List.count_append, List.count_singleton, List.getD_eq_getElem?_getD, List.getElem?_eq_getElem h]
  simp
theorem mn_count (a r : List Int) (x : Int) : ∀ j : Nat, j ≤ a.length → j ≤ r.length → mn a r x j = ((a.take j).count x : Int) - ((r.take j).count x : Int)
  | 0, _, _ => by unfold mn; simp
  | j + 1, ha, hr => by
    have := mn_count a r x j (by omega) (by omega)
    rw [take_count a x (by omega), take_count r x (by omega)]
    unfold mn
    rw [this]
    split <;> split <;> omega
theorem mn_zero {a r : List Int} (ha : a.length = 7) (hr : r.length = 6) (hp : r.Perm (a.take 6)) (x : Int) : mn a r x 6 = 0 := by
  rw [mn_count a r x 6 (by omega) (by omega), List.take_of_length_le (l := r) (by omega), hp.count_eq]
  omega
theorem sort_res (ms : List Int) (h : ms.length = 7) : ∃ r : List Int, r.length = 6 ∧ (∀ i : Nat, i < 5 → r.getD i 0 ≤ r.getD (i + 1) 0) ∧ r.Perm (ms.take 6) ∧ ∀ j : Nat, j < 6 → (V.rds (K.progD (R.toks sortS)) (ms ++ [0, 0])).getD j 0 = r.getD j 0 := by
  obtain ⟨t, ht⟩ : ∃ t, ms.drop 6 = [t] := List.length_eq_one_iff.1 (by rw [List.length_drop]; omega)
  have hl : (ms.take 6).length = 6 := by rw [List.length_take]; omega
  have hm : ms = ms.take 6 ++ [t] := by rw [← ht, List.take_append_drop]
  obtain ⟨t', q, e⟩ := sort_fin (ms.take 6) hl t
  rw [← hm] at e
  have h5 := five_sorted hl
  have hp := five_perm (ms.take 6)
  have hr : (bub (bub (bub (bub (bub (ms.take 6)))))).length = 6 := by simp only [bub_length, hl]
  generalize bub (bub (bub (bub (bub (ms.take 6))))) = r at *
  refine ⟨r, hr, fun i hi => ?_, hp, fun j hj => ?_⟩
  · rw [List.getD_eq_getElem?_getD, List.getD_eq_getElem?_getD, List.getElem?_eq_getElem (by omega), List.getElem?_eq_getElem (by omega)]
    exact List.pairwise_iff_getElem.1 h5 i (i + 1) (by omega) (by omega) (by omega)
  · rw [e, List.getD_eq_getElem?_getD, List.getD_eq_getElem?_getD, List.getElem?_append_left (by omega)]
end Y
end Go.Proofs.YtejbgcloblpbfaaGreatDoor
namespace Go.Proofs.YtejbgcloblpbfaaGreatDoor
open Go.RowKit
open K (Nm Ex Do)
namespace Y
set_option maxRecDepth 100000 in
set_option maxHeartbeats 4000000 in
theorem sorted_c (w : World) (hv : K.Vars w) (hw : 5 ≤ w.heap.size) (a1 : Option Addr) (c1 : Nat) (one : List Int) (h1 : IntsAt w a1 one) (a2 : Option Addr) (c2 : Nat) (two : List Int) (h2 : IntsAt w a2 two) :
    Calls Tryz.prog 11 #[.slice a1 one.length c1, .slice a2 two.length c2] w fun x w' => x = .returned (.bool true) ∧ Below w.heap.size w w' := by
  have hal := alive_c w hv hw
  obtain ⟨j0, ji, jz0, jz1, jz2⟩ := info_parts info_int
  have hco := fun (w' : World) (hb : Below w.heap.size w w') => compile_c sortS w' (by decide) (vars_below hv hb hw) (Nat.le_trans hw hb.size)
  have hP := prog_al (s := sortS) (by decide) sort_err
  have hsh7 : (R.read sortS).shape.length = 7 := by rw [sort_shape]; rfl
  have hshk : ∀ k : Nat, k < 7 → (R.read sortS).shape.getD k false = true := by rw [sort_shape]; decide
  have hpl := fun (w : World) (b base : Nat) (ca : Option Addr) (cc : Nat) (aM : Option Addr) (cM : Nat) (ms : List Int) (hm : ms.length = (R.read sortS).shape.length) (mach : At w b 73 (mcells (fun _ => 0) (fun _ => 0) (.slice none 0 0))) (code : w.ownsRow base 58 5 (.slice ca (prC (R.read sortS).shape.length (K.progD (R.toks sortS))).length cc) (prC (R.read sortS).shape.length (K.progD (R.toks sortS))).length ((prC (R.read sortS).shape.length (K.progD (R.toks sortS))).flatMap inV)) (mem : IntsAt w aM ms) (hb : ∀ o, ¬ aM = some ⟨b, o, none⟩) => run_play (cM := cM) hP hm mach code mem hb
  have hss := seen_same hP one two
  have hsl := seenOf_len hP (wdA one (R.read sortS).shape.length) (wdA_len _ _)
  have hres := sort_res
  rw [sort_err] at hco
  have ht2 := text_b
  generalize prC (R.read sortS).shape.length (K.progD (R.toks sortS)) = C at *
  generalize (R.read sortS).shape = sh at *
  generalize K.progD (R.toks sortS) = l at *
  generalize sortS = S at *
  rw [hsh7] at hpl hss hsl
  have HPL := hide hpl
  have HCO := hide hco
  have HSS := hide hss
  have HSL := hide hsl
  have HRS := hide hres
  have HSK := hide hshk
  have H1 := hide h1
  have H2 := hide h2
  have hit := hide itoa_dg
  clear hpl hP hco hss hsl hres hshk h1 h2
  go_enter Tryz.func11, Tryz.ntmps11
  go_wp2_with fail
  refine hal.mono ?_
  rintro x w1 ⟨rfl, b1⟩
  clear hal
  go_wp2_with fail
  go_loopg [6, 7] 5 (fun gk p j wr => ∃ k : Nat, k + gk = 5 ∧ p = .string (sPs k) ∧ j = .int .i64 (k : Int) ∧ wr = w1)
  case atStart => exact ⟨0, by omega, rfl, rfl, rfl⟩
  case round =>
    obtain ⟨k, hk, rfl, rfl, rfl⟩ := hrel
    cases gk with
    | succ g1 =>
      have hz : (k : Int) < 5 := by omega
      have hi1 := hit.out k (by omega) wr
      have hi2 : Calls Tryz.prog 37 #[.int .i64 ((k : Int) + 1)] wr fun e w' => e = .returned (.string (dg (k + 1))) ∧ w' = wr := hit.out (k + 1) (by omega) wr
      have hwk : IntKind.i64.wrap ((k : Int) + 1) = (k : Int) + 1 := by rw [IntKind.wrap_i64]; omega
      have hk0 : (sPs k).size ≤ 400 := Nat.le_trans (sPs_le (by omega)) (by omega)
      have f1 : (Op.stringOp .add ⟨#[40, 103, 101, 116, 32, 97, 32]⟩ (dg k)).run Tryz.prog wr = .ok (.string (j2 ⟨#[40, 103, 101, 116, 32, 97, 32]⟩ (dg k))) wr := cat_ok wr _ _ (n := 7) (by decide) (dg_le (by omega)) (by decide)
      have f2 : (Op.stringOp .add (j2 ⟨#[40, 103, 101, 116, 32, 97, 32]⟩ (dg k)) ⟨#[41]⟩).run Tryz.prog wr = .ok (.string (gX k)) wr := cat_ok wr _ _ (n := 8) (j2_le (n := 7) (by decide) (dg_le (by omega))) (m := 1) (by decide) (by decide)
      have f3 : (Op.stringOp .add ⟨#[40, 103, 101, 116, 32, 97, 32]⟩ (dg (k + 1))).run Tryz.prog wr = .ok (.string (j2 ⟨#[40, 103, 101, 116, 32, 97, 32]⟩ (dg (k + 1)))) wr := cat_ok wr _ _ (n := 7) (by decide) (dg_le (by omega)) (by decide)
      have f4 : (Op.stringOp .add (j2 ⟨#[40, 103, 101, 116, 32, 97, 32]⟩ (dg (k + 1))) ⟨#[41]⟩).run Tryz.prog wr = .ok (.string (gX (k + 1))) wr := cat_ok wr _ _ (n := 8) (j2_le (n := 7) (by decide) (dg_le (by omega))) (m := 1) (by decide) (by decide)
      have q0 := cat_ok wr (sPs k) ⟨#[40, 105, 102, 32, 40, 60, 32]⟩ (n := 400) (m := 7) hk0 (by decide) (by decide)
      have e0 : (j2 (sPs k) ⟨#[40, 105, 102, 32, 40, 60, 32]⟩).size ≤ 407 := j2_le (m := 7) hk0 (by decide)
      have q1 := cat_ok wr (j2 (sPs k) ⟨#[40, 105, 102, 32, 40, 60, 32]⟩) (gX (k + 1)) (n := 407) (m := 9) e0 (gX_le (by omega)) (by decide)
      have e1 : (j2 (j2 (sPs k) ⟨#[40, 105, 102, 32, 40, 60, 32]⟩) (gX (k + 1))).size ≤ 416 := j2_le (m := 9) e0 (gX_le (by omega))
      have q2 := cat_ok wr (j2 (j2 (sPs k) ⟨#[40, 105, 102, 32, 40, 60, 32]⟩) (gX (k + 1))) ⟨#[32]⟩ (n := 416) (m := 1) e1 (by decide) (by decide)
      have e2 : (j2 (j2 (j2 (sPs k) ⟨#[40, 105, 102, 32, 40, 60, 32]⟩) (gX (k + 1))) ⟨#[32]⟩).size ≤ 417 := j2_le (m := 1) e1 (by decide)
      have q3 := cat_ok wr (j2 (j2 (j2 (sPs k) ⟨#[40, 105, 102, 32, 40, 60, 32]⟩) (gX (k + 1))) ⟨#[32]⟩) (gX k) (n := 417) (m := 9) e2 (gX_le (by omega)) (by decide)
      have e3 : (j2 (j2 (j2 (j2 (sPs k) ⟨#[40, 105, 102, 32, 40, 60, 32]⟩) (gX (k + 1))) ⟨#[32]⟩) (gX k)).size ≤ 426 := j2_le (m := 9) e2 (gX_le (by omega))
      have q4 := cat_ok wr (j2 (j2 (j2 (j2 (sPs k) ⟨#[40, 105, 102, 32, 40, 60, 32]⟩) (gX (k + 1))) ⟨#[32]⟩) (gX k)) ⟨#[41, 40, 40, 115, 101, 116, 32, 116, 32]⟩ (n := 426) (m := 9) e3 (by decide) (by decide)
      have e4 : (j2 (j2 (j2 (j2 (j2 (sPs k) ⟨#[40, 105, 102, 32, 40, 60, 32]⟩) (gX (k + 1))) ⟨#[32]⟩) (gX k)) ⟨#[41, 40, 40, 115, 101, 116, 32, 116, 32]⟩).size ≤ 435 := j2_le (m := 9) e3 (by decide)
      have q5 := cat_ok wr (j2 (j2 (j2 (j2 (j2 (sPs k) ⟨#[40, 105, 102, 32, 40, 60, 32]⟩) (gX (k + 1))) ⟨#[32]⟩) (gX k)) ⟨#[41, 40, 40, 115, 101, 116, 32, 116, 32]⟩) (gX k) (n := 435) (m := 9) e4 (gX_le (by omega)) (by decide)
      have e5 : (j2 (j2 (j2 (j2 (j2 (j2 (sPs k) ⟨#[40, 105, 102, 32, 40, 60, 32]⟩) (gX (k + 1))) ⟨#[32]⟩) (gX k)) ⟨#[41, 40, 40, 115, 101, 116, 32, 116, 32]⟩) (gX k)).size ≤ 444 := j2_le (m := 9) e4 (gX_le (by omega))
      have q6 := cat_ok wr (j2 (j2 (j2 (j2 (j2 (j2 (sPs k) ⟨#[40, 105, 102, 32, 40, 60, 32]⟩) (gX (k + 1))) ⟨#[32]⟩) (gX k)) ⟨#[41, 40, 40, 115, 101, 116, 32, 116, 32]⟩) (gX k)) ⟨#[41, 40, 112, 117, 116, 32, 97, 32]⟩ (n := 444) (m := 8) e5 (by decide) (by decide)
      have e6 : (j2 (j2 (j2 (j2 (j2 (j2 (j2 (sPs k) ⟨#[40, 105, 102, 32, 40, 60, 32]⟩) (gX (k + 1))) ⟨#[32]⟩) (gX k)) ⟨#[41, 40, 40, 115, 101, 116, 32, 116, 32]⟩) (gX k)) ⟨#[41, 40, 112, 117, 116, 32, 97, 32]⟩).size ≤ 452 := j2_le (m := 8) e5 (by decide)
      have q7 := cat_ok wr (j2 (j2 (j2 (j2 (j2 (j2 (j2 (sPs k) ⟨#[40, 105, 102, 32, 40, 60, 32]⟩) (gX (k + 1))) ⟨#[32]⟩) (gX k)) ⟨#[41, 40, 40, 115, 101, 116, 32, 116, 32]⟩) (gX k)) ⟨#[41, 40, 112, 117, 116, 32, 97, 32]⟩) (dg k) (n := 452) (m := 1) e6 (dg_le (by omega)) (by decide)
      have e7 : (j2 (j2 (j2 (j2 (j2 (j2 (j2 (j2 (sPs k) ⟨#[40, 105, 102, 32, 40, 60, 32]⟩) (gX (k + 1))) ⟨#[32]⟩) (gX k)) ⟨#[41, 40, 40, 115, 101, 116, 32, 116, 32]⟩) (gX k)) ⟨#[41, 40, 112, 117, 116, 32, 97, 32]⟩) (dg k)).size ≤ 453 := j2_le (m := 1) e6 (dg_le (by omega))
      have q8 := cat_ok wr (j2 (j2 (j2 (j2 (j2 (j2 (j2 (j2 (sPs k) ⟨#[40, 105, 102, 32, 40, 60, 32]⟩) (gX (k + 1))) ⟨#[32]⟩) (gX k)) ⟨#[41, 40, 40, 115, 101, 116, 32, 116, 32]⟩) (gX k)) ⟨#[41, 40, 112, 117, 116, 32, 97, 32]⟩) (dg k)) ⟨#[32]⟩ (n := 453) (m := 1) e7 (by decide) (by decide)
      have e8 : (j2 (j2 (j2 (j2 (j2 (j2 (j2 (j2 (j2 (sPs k) ⟨#[40, 105, 102, 32, 40, 60, 32]⟩) (gX (k + 1))) ⟨#[32]⟩) (gX k)) ⟨#[41, 40, 40, 115, 101, 116, 32, 116, 32]⟩) (gX k)) ⟨#[41, 40, 112, 117, 116, 32, 97, 32]⟩) (dg k)) ⟨#[32]⟩).size ≤ 454 := j2_le (m := 1) e7 (by decide)
      have q9 := cat_ok wr (j2 (j2 (j2 (j2 (j2 (j2 (j2 (j2 (j2 (sPs k) ⟨#[40, 105, 102, 32, 40, 60, 32]⟩) (gX (k + 1))) ⟨#[32]⟩) (gX k)) ⟨#[41, 40, 40, 115, 101, 116, 32, 116, 32]⟩) (gX k)) ⟨#[41, 40, 112, 117, 116, 32, 97, 32]⟩) (dg k)) ⟨#[32]⟩) (gX (k + 1)) (n := 454) (m := 9) e8 (gX_le (by omega)) (by decide)
      have e9 : (j2 (j2 (j2 (j2 (j2 (j2 (j2 (j2 (j2 (j2 (sPs k) ⟨#[40, 105, 102, 32, 40, 60, 32]⟩) (gX (k + 1))) ⟨#[32]⟩) (gX k)) ⟨#[41, 40, 40, 115, 101, 116, 32, 116, 32]⟩) (gX k)) ⟨#[41, 40, 112, 117, 116, 32, 97, 32]⟩) (dg k)) ⟨#[32]⟩) (gX (k + 1))).size ≤ 463 := j2_le (m := 9) e8 (gX_le (by omega))
      have q10 := cat_ok wr (j2 (j2 (j2 (j2 (j2 (j2 (j2 (j2 (j2 (j2 (sPs k) ⟨#[40, 105, 102, 32, 40, 60, 32]⟩) (gX (k + 1))) ⟨#[32]⟩) (gX k)) ⟨#[41, 40, 40, 115, 101, 116, 32, 116, 32]⟩) (gX k)) ⟨#[41, 40, 112, 117, 116, 32, 97, 32]⟩) (dg k)) ⟨#[32]⟩) (gX (k + 1))) ⟨#[41, 40, 112, 117, 116, 32, 97, 32]⟩ (n := 463) (m := 8) e9 (by decide) (by decide)
      have e10 : (j2 (j2 (j2 (j2 (j2 (j2 (j2 (j2 (j2 (j2 (j2 (sPs k) ⟨#[40, 105, 102, 32, 40, 60, 32]⟩) (gX (k + 1))) ⟨#[32]⟩) (gX k)) ⟨#[41, 40, 40, 115, 101, 116, 32, 116, 32]⟩) (gX k)) ⟨#[41, 40, 112, 117, 116, 32, 97, 32]⟩) (dg k)) ⟨#[32]⟩) (gX (k + 1))) ⟨#[41, 40, 112, 117, 116, 32, 97, 32]⟩).size ≤ 471 := j2_le (m := 8) e9 (by decide)
      have q11 := cat_ok wr (j2 (j2 (j2 (j2 (j2 (j2 (j2 (j2 (j2 (j2 (j2 (sPs k) ⟨#[40, 105, 102, 32, 40, 60, 32]⟩) (gX (k + 1))) ⟨#[32]⟩) (gX k)) ⟨#[41, 40, 40, 115, 101, 116, 32, 116, 32]⟩) (gX k)) ⟨#[41, 40, 112, 117, 116, 32, 97, 32]⟩) (dg k)) ⟨#[32]⟩) (gX (k + 1))) ⟨#[41, 40, 112, 117, 116, 32, 97, 32]⟩) (dg (k + 1)) (n := 471) (m := 1) e10 (dg_le (by omega)) (by decide)
      have e11 : (j2 (j2 (j2 (j2 (j2 (j2 (j2 (j2 (j2 (j2 (j2 (j2 (sPs k) ⟨#[40, 105, 102, 32, 40, 60, 32]⟩) (gX (k + 1))) ⟨#[32]⟩) (gX k)) ⟨#[41, 40, 40, 115, 101, 116, 32, 116, 32]⟩) (gX k)) ⟨#[41, 40, 112, 117, 116, 32, 97, 32]⟩) (dg k)) ⟨#[32]⟩) (gX (k + 1))) ⟨#[41, 40, 112, 117, 116, 32, 97, 32]⟩) (dg (k + 1))).size ≤ 472 := j2_le (m := 1) e10 (dg_le (by omega))
      have q12 := cat_ok wr (j2 (j2 (j2 (j2 (j2 (j2 (j2 (j2 (j2 (j2 (j2 (j2 (sPs k) ⟨#[40, 105, 102, 32, 40, 60, 32]⟩) (gX (k + 1))) ⟨#[32]⟩) (gX k)) ⟨#[41, 40, 40, 115, 101, 116, 32, 116, 32]⟩) (gX k)) ⟨#[41, 40, 112, 117, 116, 32, 97, 32]⟩) (dg k)) ⟨#[32]⟩) (gX (k + 1))) ⟨#[41, 40, 112, 117, 116, 32, 97, 32]⟩) (dg (k + 1))) ⟨#[32, 116, 41, 41, 40, 41, 41]⟩ (n := 472) (m := 7) e11 (by decide) (by decide)
      have e12 : (j2 (j2 (j2 (j2 (j2 (j2 (j2 (j2 (j2 (j2 (j2 (j2 (j2 (sPs k) ⟨#[40, 105, 102, 32, 40, 60, 32]⟩) (gX (k + 1))) ⟨#[32]⟩) (gX k)) ⟨#[41, 40, 40, 115, 101, 116, 32, 116, 32]⟩) (gX k)) ⟨#[41, 40, 112, 117, 116, 32, 97, 32]⟩) (dg k)) ⟨#[32]⟩) (gX (k + 1))) ⟨#[41, 40, 112, 117, 116, 32, 97, 32]⟩) (dg (k + 1))) ⟨#[32, 116, 41, 41, 40, 41, 41]⟩).size ≤ 479 := j2_le (m := 7) e11 (by decide)
      clear e0 e1 e2 e3 e4 e5 e6 e7 e8 e9 e10 e11 e12 hk0
      clear ht2
      go_wp2_with fail
      refine hi1.mono ?_
      rintro x w' ⟨rfl, rfl⟩
      go_wp2_with fail
      refine hi2.mono ?_
      rintro x w' ⟨rfl, rfl⟩
      go_wp2_with fail
      refine hi1.mono ?_
      rintro x w' ⟨rfl, rfl⟩
      go_wp2_with fail
      refine hi2.mono ?_
      rintro x w' ⟨rfl, rfl⟩
      go_wp2_with fail
      go_roundg g1
      case measure => omega
      case rel => exact ⟨k + 1, by omega, rfl, by go_num, rfl⟩
    | zero =>
      obtain rfl : k = 5 := by omega
      have hc := HCO.out wr b1
      have ta := text_a wr
      have tb := ht2 wr
      have hno := nothing_k
      clear ht2 hit
      go_wp2_with fail
      refine hc.mono ?_
      rintro x w2 ⟨h2', b2'⟩
      rcases h2' with ⟨h2', _⟩ | ⟨_, _, cv, rfl, o2⟩
      · exact absurd trivial h2'
      obtain ⟨ca, cc, rfl⟩ : ∃ ca cc, cv = .slice ca C.length cc := by
        rcases Joins.ownsRow_forms o2 with ⟨rfl, h0⟩ | ⟨g, c, rfl⟩
        · exact ⟨none, 0, by rw [h0]⟩
        · exact ⟨_, _, rfl⟩
      have z1 := b1.size
      have b2 := b1.trans (b2'.mono z1)
      have z2 := b2'.size
      have HO2 := hide (Joins.ownsRow_le o2 z1)
      have HB2 := hide b2
      have n1 := hno w2
      clear o2 hc b2' b2 b1 ta tb
      go_wp2_with fail
      refine n1.mono ?_
      rintro x w3 ⟨rfl, m3, b3, z3'⟩
      have z3 : w2.heap.size < w3.heap.size := by omega
      have n2 := hno w3
      have HM3 := hide m3
      clear m3 n1 z3'
      go_wp2_with fail
      refine n2.mono ?_
      rintro x w4 ⟨rfl, m4, b4, z4'⟩
      have z4 : w3.heap.size < w4.heap.size := by omega
      have nx : w2.heap.size ≠ w3.heap.size := by omega
      have b24 := b3.trans (b4.mono b3.size)
      have o4 : w4.ownsRow w.heap.size 58 5 (.slice ca C.length cc) C.length (C.flatMap inV) := own_block HO2.out fun q e => b24.block q (HO2.out.lt q e).2
      have m34 := HM3.out.of_block (b4.block _ HM3.out.lt)
      have NC : Hid (∀ q, (Value.slice ca C.length cc).ownBlock = some q → q ≠ w2.heap.size ∧ q ≠ w3.heap.size) := fun q e => by
        obtain ⟨_, _, k1⟩ := own_kind o4 e
        obtain ⟨_, _, k2⟩ := at_kind m34
        obtain ⟨_, _, k3⟩ := at_kind m4
        exact ⟨kind_ne k1 k2 (by decide), kind_ne k1 k3 (by decide)⟩
      have B4 := HB2.out.trans (b24.mono (Nat.le_trans z1 z2))
      have HI4 := hide (H1.out.below B4)
      have HJ4 := hide (H2.out.below B4)
      have HB4 := hide B4
      have HO4 := hide o4
      have HM34 := hide m34
      have HM4 := hide m4
      clear o4 m34 m4 n2 z4' b24 b3 b4 B4 HM3 HO2 HB2 H1 H2 hno
      go_wp2_with fail
      go_loopg [15, 16, 17] 7 (fun gk av bv i wr => ∃ k : Nat, k + gk = 7 ∧ i = .int .i64 (k : Int) ∧ WR w4 wr 7 k sh one two av bv)
      case atStart => exact ⟨0, by omega, rfl, ⟨⟨rfl, Or.inl ⟨rfl, rfl⟩⟩, ⟨rfl, Or.inl ⟨rfl, rfl⟩⟩, (fun q e => by cases e), Below.refl _ _⟩⟩
      case round =>
        obtain ⟨k, hk7, rfl, hw7⟩ := hrel
        cases gk with
        | succ g1 =>
          have hz : (k : Int) < 7 := by omega
          obtain ⟨aa, ac, rfl⟩ : ∃ aa ac, u15 = .slice aa k ac := by
            rcases Joins.ownsRow_forms hw7.ra with ⟨rfl, h0⟩ | ⟨g, c, rfl⟩
            · exact ⟨none, 0, by rw [h0]⟩
            · exact ⟨_, _, rfl⟩
          obtain ⟨ba, bc, rfl⟩ : ∃ ba bc, u16 = .slice ba k bc := by
            rcases Joins.ownsRow_forms hw7.rb with ⟨rfl, h0⟩ | ⟨g, c, rfl⟩
            · exact ⟨none, 0, by rw [h0]⟩
            · exact ⟨_, _, rfl⟩
          obtain ⟨x, Hx⟩ : ∃ x, Hid (one.getD k 0 = x) := ⟨_, rfl⟩
          obtain ⟨y, Hy⟩ : ∃ y, Hid ((if sh.getD k false = true then two.getD k 0 else one.getD k 0) = y) := ⟨_, rfl⟩
          have Hy' : Hid (two.getD k 0 = y) := by have := Hy.out; rw [if_pos (HSK.out k (by omega))] at this; exact this
          have e1 : k < one.length → ∃ ga oa, a1 = some ⟨ga, oa, none⟩ ∧ wr.cell? ⟨ga, oa + k, none⟩ = some (.int .i64 x) := fun hl => by
            obtain ⟨g, o, e, hg, hc⟩ := HI4.out k _ (List.getElem?_eq_getElem hl)
            refine ⟨g, o, e, (World.cell?_of_block (a := ⟨g, o + k, none⟩) (hw7.be.block g hg)).trans ?_⟩
            rw [hc, ← Hx.out, List.getD_eq_getElem?_getD, List.getElem?_eq_getElem hl]; rfl
          have n1 : ¬ k < one.length → x = 0 := fun hl => by rw [← Hx.out, List.getD_eq_getElem?_getD, List.getElem?_eq_none (by omega)]; rfl
          have e2 : k < two.length → ∃ ga oa, a2 = some ⟨ga, oa, none⟩ ∧ wr.cell? ⟨ga, oa + k, none⟩ = some (.int .i64 y) := fun hl => by
            obtain ⟨g, o, e, hg, hc⟩ := HJ4.out k _ (List.getElem?_eq_getElem hl)
            refine ⟨g, o, e, (World.cell?_of_block (a := ⟨g, o + k, none⟩) (hw7.be.block g hg)).trans ?_⟩
            rw [hc, ← Hy'.out, List.getD_eq_getElem?_getD, List.getElem?_eq_getElem hl]; rfl
          have n2 : ¬ k < two.length → y = 0 := fun hl => by rw [← Hy'.out, List.getD_eq_getElem?_getD, List.getElem?_eq_none (by omega)]; rfl
          have HW := hide hw7
          have HE1 := hide e1
          have HN1 := hide n1
          have HE2 := hide e2
          have HN2 := hide n2
          clear hw7 e1 n1 e2 n2 Hy'
          by_cases c1' : k < one.length
          · have l1 : (k : Int) < (one.length : Int) := by omega
            obtain ⟨g1', o1, rfl, cx⟩ := HE1.out c1'
            by_cases c2' : k < two.length
            · have l2 : (k : Int) < (two.length : Int) := by omega
              obtain ⟨g2, o2, rfl, cy⟩ := HE2.out c2'
              go_wp2_with (at_builtin; first | (refine wpList_append_row1 _ rfl _ _ 32 rfl 3 j0 (.int .i64 0) 1 8 Tryz.underlying32 ji jz0 jz1 jz2 rfl (by decide) (.slice aa k ac) k (ints (wdA one k)) rfl (by exact World.ownsRow.alloc (Joins.ownsRow_le HW.out.ra (Nat.zero_le _)) _) ⟨wr.heap.size, 0, none⟩ 1 1 [.int .i64 x] rfl rfl (by exact row_new wr [.int .i64 x] _) (by intro u hu; simp only [List.mem_singleton] at hu; subst hu; rfl) (few_le (by omega)) (by omega) Nat.one_pos ?_; intro ga3 ca3 w3 r3 g3 k3; have R3 := hide r3; have G3 := hide g3; have K3 := hide k3; have rb3 : Hid (w3.ownsRow 0 3 1 (.slice ba k bc) k (ints (wdB sh one two k))) := own_block (Joins.ownsRow_le HW.out.rb (Nat.zero_le _)) (fun q e => (g3.block q (by show q < (World.alloc _ _).heap.size; rw [size_alloc]; exact Nat.lt_succ_of_lt (HW.out.rb.lt q e).2) (fun e' => HW.out.ne q e'.symm e)).trans (heap_alloc_old _ _ _ (HW.out.rb.lt q e).2)); clear r3 g3 k3) | (refine wpList_append_row1 _ rfl _ _ 32 rfl 3 j0 (.int .i64 0) 1 8 Tryz.underlying32 ji jz0 jz1 jz2 rfl (by decide) (.slice ba k bc) k (ints (wdB sh one two k)) rfl (by exact World.ownsRow.alloc rb3.out _) ⟨w3.heap.size, 0, none⟩ 1 1 [.int .i64 y] rfl rfl (by exact row_new w3 [.int .i64 y] _) (by intro u hu; simp only [List.mem_singleton] at hu; subst hu; rfl) (few_le (by omega)) (by omega) Nat.one_pos ?_; intro gb5 cb5 w5 r5 g5 k5; have R5 := hide r5; have G5 := hide g5; have K5 := hide k5; clear r5 g5 k5))
              go_roundg g1
              case measure => omega
              case rel => exact ⟨k + 1, by omega, by go_num, wr_step HW.out Hx.out Hy.out R3.out G3.out K3.out R5.out G5.out K5.out⟩
            · have l2 : ¬ (k : Int) < (two.length : Int) := by omega
              have ey := HN2.out c2'
              subst ey
              go_wp2_with (at_builtin; first | (refine wpList_append_row1 _ rfl _ _ 32 rfl 3 j0 (.int .i64 0) 1 8 Tryz.underlying32 ji jz0 jz1 jz2 rfl (by decide) (.slice aa k ac) k (ints (wdA one k)) rfl (by exact World.ownsRow.alloc (Joins.ownsRow_le HW.out.ra (Nat.zero_le _)) _) ⟨wr.heap.size, 0, none⟩ 1 1 [.int .i64 x] rfl rfl (by exact row_new wr [.int .i64 x] _) (by intro u hu; simp only [List.mem_singleton] at hu; subst hu; rfl) (few_le (by omega)) (by omega) Nat.one_pos ?_; intro ga3 ca3 w3 r3 g3 k3; have R3 := hide r3; have G3 := hide g3; have K3 := hide k3; have rb3 : Hid (w3.ownsRow 0 3 1 (.slice ba k bc) k (ints (wdB sh one two k))) := own_block (Joins.ownsRow_le HW.out.rb (Nat.zero_le _)) (fun q e => (g3.block q (by show q < (World.alloc _ _).heap.size; rw [size_alloc]; exact Nat.lt_succ_of_lt (HW.out.rb.lt q e).2) (fun e' => HW.out.ne q e'.symm e)).trans (heap_alloc_old _ _ _ (HW.out.rb.lt q e).2)); clear r3 g3 k3) | (refine wpList_append_row1 _ rfl _ _ 32 rfl 3 j0 (.int .i64 0) 1 8 Tryz.underlying32 ji jz0 jz1 jz2 rfl (by decide) (.slice ba k bc) k (ints (wdB sh one two k)) rfl (by exact World.ownsRow.alloc rb3.out _) ⟨w3.heap.size, 0, none⟩ 1 1 [.int .i64 0] rfl rfl (by exact row_new w3 [.int .i64 0] _) (by intro u hu; simp only [List.mem_singleton] at hu; subst hu; rfl) (few_le (by omega)) (by omega) Nat.one_pos ?_; intro gb5 cb5 w5 r5 g5 k5; have R5 := hide r5; have G5 := hide g5; have K5 := hide k5; clear r5 g5 k5))
              go_roundg g1
              case measure => omega
              case rel => exact ⟨k + 1, by omega, by go_num, wr_step HW.out Hx.out Hy.out R3.out G3.out K3.out R5.out G5.out K5.out⟩
          · have l1 : ¬ (k : Int) < (one.length : Int) := by omega
            have ex := HN1.out c1'
            subst ex
            by_cases c2' : k < two.length
            · have l2 : (k : Int) < (two.length : Int) := by omega
              obtain ⟨g2, o2, rfl, cy⟩ := HE2.out c2'
              go_wp2_with (at_builtin; first | (refine wpList_append_row1 _ rfl _ _ 32 rfl 3 j0 (.int .i64 0) 1 8 Tryz.underlying32 ji jz0 jz1 jz2 rfl (by decide) (.slice aa k ac) k (ints (wdA one k)) rfl (by exact World.ownsRow.alloc (Joins.ownsRow_le HW.out.ra (Nat.zero_le _)) _) ⟨wr.heap.size, 0, none⟩ 1 1 [.int .i64 0] rfl rfl (by exact row_new wr [.int .i64 0] _) (by intro u hu; simp only [List.mem_singleton] at hu; subst hu; rfl) (few_le (by omega)) (by omega) Nat.one_pos ?_; intro ga3 ca3 w3 r3 g3 k3; have R3 := hide r3; have G3 := hide g3; have K3 := hide k3; have rb3 : Hid (w3.ownsRow 0 3 1 (.slice ba k bc) k (ints (wdB sh one two k))) := own_block (Joins.ownsRow_le HW.out.rb (Nat.zero_le _)) (fun q e => (g3.block q (by show q < (World.alloc _ _).heap.size; rw [size_alloc]; exact Nat.lt_succ_of_lt (HW.out.rb.lt q e).2) (fun e' => HW.out.ne q e'.symm e)).trans (heap_alloc_old _ _ _ (HW.out.rb.lt q e).2)); clear r3 g3 k3) | (refine wpList_append_row1 _ rfl _ _ 32 rfl 3 j0 (.int .i64 0) 1 8 Tryz.underlying32 ji jz0 jz1 jz2 rfl (by decide) (.slice ba k bc) k (ints (wdB sh one two k)) rfl (by exact World.ownsRow.alloc rb3.out _) ⟨w3.heap.size, 0, none⟩ 1 1 [.int .i64 y] rfl rfl (by exact row_new w3 [.int .i64 y] _) (by intro u hu; simp only [List.mem_singleton] at hu; subst hu; rfl) (few_le (by omega)) (by omega) Nat.one_pos ?_; intro gb5 cb5 w5 r5 g5 k5; have R5 := hide r5; have G5 := hide g5; have K5 := hide k5; clear r5 g5 k5))
              go_roundg g1
              case measure => omega
              case rel => exact ⟨k + 1, by omega, by go_num, wr_step HW.out Hx.out Hy.out R3.out G3.out K3.out R5.out G5.out K5.out⟩
            · have l2 : ¬ (k : Int) < (two.length : Int) := by omega
              have ey := HN2.out c2'
              subst ey
              go_wp2_with (at_builtin; first | (refine wpList_append_row1 _ rfl _ _ 32 rfl 3 j0 (.int .i64 0) 1 8 Tryz.underlying32 ji jz0 jz1 jz2 rfl (by decide) (.slice aa k ac) k (ints (wdA one k)) rfl (by exact World.ownsRow.alloc (Joins.ownsRow_le HW.out.ra (Nat.zero_le _)) _) ⟨wr.heap.size, 0, none⟩ 1 1 [.int .i64 0] rfl rfl (by exact row_new wr [.int .i64 0] _) (by intro u hu; simp only [List.mem_singleton] at hu; subst hu; rfl) (few_le (by omega)) (by omega) Nat.one_pos ?_; intro ga3 ca3 w3 r3 g3 k3; have R3 := hide r3; have G3 := hide g3; have K3 := hide k3; have rb3 : Hid (w3.ownsRow 0 3 1 (.slice ba k bc) k (ints (wdB sh one two k))) := own_block (Joins.ownsRow_le HW.out.rb (Nat.zero_le _)) (fun q e => (g3.block q (by show q < (World.alloc _ _).heap.size; rw [size_alloc]; exact Nat.lt_succ_of_lt (HW.out.rb.lt q e).2) (fun e' => HW.out.ne q e'.symm e)).trans (heap_alloc_old _ _ _ (HW.out.rb.lt q e).2)); clear r3 g3 k3) | (refine wpList_append_row1 _ rfl _ _ 32 rfl 3 j0 (.int .i64 0) 1 8 Tryz.underlying32 ji jz0 jz1 jz2 rfl (by decide) (.slice ba k bc) k (ints (wdB sh one two k)) rfl (by exact World.ownsRow.alloc rb3.out _) ⟨w3.heap.size, 0, none⟩ 1 1 [.int .i64 0] rfl rfl (by exact row_new w3 [.int .i64 0] _) (by intro u hu; simp only [List.mem_singleton] at hu; subst hu; rfl) (few_le (by omega)) (by omega) Nat.one_pos ?_; intro gb5 cb5 w5 r5 g5 k5; have R5 := hide r5; have G5 := hide g5; have K5 := hide k5; clear r5 g5 k5))
              go_roundg g1
              case measure => omega
              case rel => exact ⟨k + 1, by omega, by go_num, wr_step HW.out Hx.out Hy.out R3.out G3.out K3.out R5.out G5.out K5.out⟩
        | zero =>
          obtain rfl : k = 7 := by omega
          clear hk7
          obtain ⟨ga, ac, rfl⟩ : ∃ ga ac, u15 = .slice (some ⟨ga, 0, none⟩) 7 ac := by
            rcases Joins.ownsRow_forms hw7.ra with ⟨_, h0⟩ | ⟨g, c, rfl⟩
            · cases h0
            · exact ⟨g, c, rfl⟩
          obtain ⟨gb, bc, rfl⟩ : ∃ gb bc, u16 = .slice (some ⟨gb, 0, none⟩) 7 bc := by
            rcases Joins.ownsRow_forms hw7.rb with ⟨_, h0⟩ | ⟨g, c, rfl⟩
            · cases h0
            · exact ⟨g, c, rfl⟩
          have i5 := IntsAt.of_own hw7.ra
          have j5 := IntsAt.of_own hw7.rb
          have la : w4.heap.size ≤ ga ∧ ga < wr.heap.size := hw7.ra.lt ga rfl
          have lb : w4.heap.size ≤ gb ∧ gb < wr.heap.size := hw7.rb.lt gb rfl
          have ca5 := (own_cells hw7.ra).2.2
          have b5 := hw7.be
          have z5 := b5.size
          have hla := wdA_len one 7
          have hlb := wdB_len sh one two 7
          have hxs : ∀ j : Nat, j < 7 → (ints (wdA one 7))[j]? = some (.int .i64 ((wdA one 7).getD j 0)) := fun j hj => by
            unfold ints
            rw [List.getElem?_map, List.getD_eq_getElem?_getD, List.getElem?_eq_getElem (by omega)]
            rfl
          obtain ⟨r1, l1, s1, p1, e1⟩ := HRS.out (wdA one 7) hla
          obtain ⟨r2, l2, s2, _, e2⟩ := HRS.out (wdB sh one two 7) hlb
          have HMN := hide (mn_zero hla l1 p1)
          have HSS' : Hid (seenOf 7 l (wdA one 7) = seenOf 7 l (wdB sh one two 7)) := HSS.out
          have HSL' : Hid ((seenOf 7 l (wdA one 7)).length ≤ 400000) := HSL.out
          have HCA : Hid (∀ j : Nat, j < 7 → wr.cell? ⟨ga, j, none⟩ = some (.int .i64 ((wdA one 7).getD j 0))) := fun j hj => ca5 j _ (hxs j hj)
          generalize wdA one 7 = ms at *
          generalize wdB sh one two 7 = mt at *
          have o5 : wr.ownsRow w.heap.size 58 5 (.slice ca C.length cc) C.length (C.flatMap inV) := own_block HO4.out fun q e => b5.block q (HO4.out.lt q e).2
          have m35 := HM34.out.of_block (b5.block _ HM34.out.lt)
          have m45 := HM4.out.of_block (b5.block _ HM4.out.lt)
          have hp := HPL.out wr w2.heap.size w.heap.size ca cc (some ⟨ga, 0, none⟩) ac ms hla m35 o5 i5 (fun o e => by have h8 : ga = w2.heap.size := congrArg Addr.block (Option.some.inj e); omega)
          rw [hla] at hp
          have HB5 := hide (HB4.out.trans (b5.mono (by omega)))
          have HM5 := hide m45
          have HO5 := hide o5
          have HJ5 := hide j5
          have HS1 := hide s1
          have HS2 := hide s2
          have HE1 := hide e1
          have HE2 := hide e2
          clear hw7 i5 j5 ca5 hxs m35 m45 o5 b5 s1 s2 e1 e2 p1 HM34 HM4 HO4 HB4 HI4 HJ4 HSS HSL HRS HSK j0 ji jz0 jz1 jz2
          go_wp2_with fail
          refine hp.mono ?_
          rintro x w5 ⟨⟨rfl, R1, M1, hm5, hM1⟩, b6⟩
          have z6 := b6.size
          have m46 := HM5.out.of_block (b6.block _ HM5.out.lt (fun e => nx e.symm))
          have o6 : w5.ownsRow w.heap.size 58 5 (.slice ca C.length cc) C.length (C.flatMap inV) := own_block HO5.out fun q e => b6.block q (HO5.out.lt q e).2 (NC.out q e).1
          have j6 := HJ5.out.keep (w' := w5) (fun k hk ⟨o, e⟩ => b6.block k hk (by have h8 : gb = k := congrArg Addr.block (Option.some.inj e); omega)) z6
          have hq := HPL.out w5 w3.heap.size w.heap.size ca cc (some ⟨gb, 0, none⟩) bc mt hlb m46 o6 j6 (fun o e => by have h8 : gb = w3.heap.size := congrArg Addr.block (Option.some.inj e); omega)
          rw [hlb] at hq
          have HB6 : Hid (Below w.heap.size w w5) := HB5.out.trans (but_lower b6 (by omega) (by omega))
          have HCA6 : Hid (∀ j : Nat, j < 7 → w5.cell? ⟨ga, j, none⟩ = some (.int .i64 (ms.getD j 0))) := fun j hj => (World.cell?_of_block (a := ⟨ga, j, none⟩) (b6.block ga la.2 (by omega))).trans (HCA.out j hj)
          have HM6 := hide hm5
          have HM46 := hide m46
          have HM1 := hide hM1
          clear m46 o6 j6 hm5 hM1 b6 hp HJ5 HO5 HM5 HB5 HCA
          go_wp2_with fail
          refine hq.mono ?_
          rintro x w6 ⟨⟨rfl, R2, M2, hm7, hM2⟩, b7⟩
          have z7 := b7.size
          have hm67 := HM6.out.but b7 nx HM46.out
          have HB7 : Hid (Below w.heap.size w w6) := HB6.out.trans (but_lower b7 (by omega) (by omega))
          have HCA7 : Hid (∀ j : Nat, j < 7 → w6.cell? ⟨ga, j, none⟩ = some (.int .i64 (ms.getD j 0))) := fun j hj => (World.cell?_of_block (a := ⟨ga, j, none⟩) (b7.block ga (by omega) (by omega))).trans (HCA6.out j hj)
          have HX : Hid (∀ j : Nat, j < 6 → w6.cell? ⟨w2.heap.size, 8 + j, none⟩ = some (.int .i64 (r1.getD j 0)) ∧ w6.cell? ⟨w3.heap.size, 8 + j, none⟩ = some (.int .i64 (r2.getD j 0))) := fun j hj => by
            obtain ⟨x1, _⟩ := hm67.mem (a := j) (by omega)
            obtain ⟨x2, _⟩ := hm7.mem (a := j) (by omega)
            rw [HM1.out j (by omega), HE1.out j hj] at x1
            rw [hM2 j (by omega), HE2.out j hj] at x2
            exact ⟨x1, x2⟩
          obtain ⟨sa, sc, cs, is⟩ := hm67.seenI
          obtain ⟨ta, tc, ct, it⟩ := hm7.seenI
          rw [← HSS'.out] at ct it
          have lb6 := hm67.lt
          have lb7 := hm7.lt
          have hsl := HSL'.out
          generalize seenOf 7 l ms = SS at *
          have hsm := fun (m q : Nat) => ksame_q (w := (w6.drewN m).drewN q) (l := SS) (ca := sc) (cb := tc) (by omega) (is.keep (fun k _ _ => rfl) (Nat.le_refl _)) (it.keep (fun k _ _ => rfl) (Nat.le_refl _))
          have HSM := hide hsm
          have HCS : Hid (∀ m : Nat, (w6.drewN m).cell? ⟨w2.heap.size, 264, none⟩ = some (.slice sa SS.length sc)) := fun _ => cs
          have HCT : Hid (∀ m : Nat, (w6.drewN m).cell? ⟨w3.heap.size, 264, none⟩ = some (.slice ta SS.length tc)) := fun _ => ct
          have gal : ga < w6.heap.size := by omega
          clear hm67 hm7 is it hq b7 HM6 HM46 HB6 HCA6 HM1 hM2 HE1 HE2 hsm cs ct HSS' HSL' HPL HCO hsl NC
          go_wp2_with fail
          go_loopg [22] 5 (fun gk i wr => ∃ k : Nat, k + gk = 5 ∧ i = .int .i64 (k : Int) ∧ ∃ m, wr = w6.drewN m)
          case atStart => exact ⟨0, by omega, rfl, 0, rfl⟩
          case round =>
            obtain ⟨k, hk5, rfl, m, hsm⟩ := hrel
            subst hsm
            cases gk with
            | succ g1 =>
              have hz : (k : Int) < 5 := by omega
              obtain ⟨x1, x2⟩ := HX.out k (by omega)
              obtain ⟨x3, x4⟩ := HX.out (k + 1) (by omega)
              have y1 := HS1.out k (by omega)
              have y2 := HS2.out k (by omega)
              have k256 : (k : Int) < 256 := by omega
              have k257 : (k : Int) + 1 < 256 := by omega
              have hwk : IntKind.i64.wrap ((k : Int) + 1) = (k : Int) + 1 := k64 _ (by omega)
              generalize r1.getD k 0 = v1 at *
              generalize r1.getD (k + 1) 0 = v3 at *
              generalize r2.getD k 0 = v2 at *
              generalize r2.getD (k + 1) 0 = v4 at *
              have q1 : ¬ v1 > v3 := by omega
              have q2 : ¬ v2 > v4 := by omega
              generalize hWm : w6.drewN m = Wm at *
              have x1' : Wm.cell? ⟨w2.heap.size, 8 + k, none⟩ = some (.int .i64 v1) := by rw [← hWm]; exact x1
              have x2' : Wm.cell? ⟨w3.heap.size, 8 + k, none⟩ = some (.int .i64 v2) := by rw [← hWm]; exact x2
              have x3' : Wm.cell? ⟨w2.heap.size, 8 + (k + 1), none⟩ = some (.int .i64 v3) := by rw [← hWm]; exact x3
              have x4' : Wm.cell? ⟨w3.heap.size, 8 + (k + 1), none⟩ = some (.int .i64 v4) := by rw [← hWm]; exact x4
              go_upto_region 33 with fail
              go_quiet (fail)
              go_wp2_with fail
              go_roundg g1
              case measure => omega
              case rel => exact ⟨k + 1, by omega, by go_num, _, by rw [← hWm, World.drewN_drewN]⟩
            | zero =>
              have hz : ¬ (k : Int) < 5 := by omega
              clear HS1 HS2
              go_wp2_with fail
              go_loopg [23] 6 (fun gk i wr => ∃ k : Nat, k + gk = 6 ∧ i = .int .i64 (k : Int) ∧ ∃ m, wr = w6.drewN m)
              case atStart => exact ⟨0, by omega, rfl, m, rfl⟩
              case round =>
                obtain ⟨k, hk6, rfl, m, hsm⟩ := hrel
                subst hsm
                cases gk with
                | succ g1 =>
                  have hz : (k : Int) < 6 := by omega
                  obtain ⟨x, Hx⟩ : ∃ x, Hid (ms.getD k 0 = x) := ⟨_, hide rfl⟩
                  go_wp2_with fail
                  go_loopg [24, 25] 6 (fun gk mv j wr => ∃ p : Nat, p + gk = 6 ∧ mv = .int .i64 (mn ms r1 x p) ∧ j = .int .i64 (p : Int) ∧ ∃ m, wr = w6.drewN m)
                  case atStart => exact ⟨0, by omega, rfl, rfl, m, rfl⟩
                  case round =>
                    obtain ⟨p, hp6, rfl, rfl, m, hsm⟩ := hrel
                    subst hsm
                    cases gk with
                    | succ g2 =>
                      have hz2 : (p : Int) < 6 := by omega
                      have k7 : (k : Int) < 7 := by omega
                      have p7 : (p : Int) < 7 := by omega
                      have p256 : (p : Int) < 256 := by omega
                      have y1 := HCA7.out p (by omega)
                      have y2 := HCA7.out k (by omega)
                      have y3 := (HX.out p (by omega)).1
                      rw [Hx.out] at y2
                      have HN : Hid (mn ms r1 x (p + 1) = mn ms r1 x p + (if ms.getD p 0 = x then 1 else 0) - (if r1.getD p 0 = x then 1 else 0)) := rfl
                      have bd := mn_bd ms r1 x p
                      generalize mn ms r1 x p = X at *
                      generalize ms.getD p 0 = u at *
                      generalize r1.getD p 0 = v at *
                      have s1 : IntKind.i64.wrap (X + 1) = X + 1 := k64 _ (by omega)
                      have s2 : IntKind.i64.wrap (X + 0) = X := by rw [Int.add_zero]; exact k64 _ (by omega)
                      have s3 : IntKind.i64.wrap (X + 1 - 1) = X := by rw [Int.add_sub_cancel]; exact k64 _ (by omega)
                      have s4 : IntKind.i64.wrap (X + 1 - 0) = X + 1 := by rw [Int.sub_zero]; exact k64 _ (by omega)
                      have s5 : IntKind.i64.wrap (X - 1) = X - 1 := k64 _ (by omega)
                      have s6 : IntKind.i64.wrap (X - 0) = X := by rw [Int.sub_zero]; exact k64 _ (by omega)
                      generalize hWm : w6.drewN m = Wm at *
                      have y1' : Wm.cell? ⟨ga, p, none⟩ = some (.int .i64 u) := by rw [← hWm]; exact y1
                      have y2' : Wm.cell? ⟨ga, k, none⟩ = some (.int .i64 x) := by rw [← hWm]; exact y2
                      have y3' : Wm.cell? ⟨w2.heap.size, 8 + p, none⟩ = some (.int .i64 v) := by rw [← hWm]; exact y3
                      have hbt := bit_c
                      clear y1 y2 y3
                      go_upto_region 42 with fail
                      go_quiet (first | (go_at_call 39; exact Calls.quiet_of_same (hbt _ _)))
                      go_wp2_with fail
                      all_goals
                        go_roundg g2
                        case measure => omega
                        case rel => exact ⟨p + 1, by omega, by rw [HN.out]; (repeat' split) <;> (congr 1; omega), by go_num, _, by rw [← hWm, World.drewN_drewN]⟩
                    | zero =>
                      obtain rfl : p = 6 := by omega
                      rw [HMN.out x]
                      go_wp2_with fail
                      go_roundg g1
                      case measure => omega
                      case rel => exact ⟨k + 1, by omega, by go_num, m, rfl⟩
                | zero =>
                  have hz : ¬ (k : Int) < 6 := by omega
                  have hsm := HSM.out m
                  have cs := HCS.out m
                  have ct := HCT.out m
                  have HBm : Hid (Below w.heap.size w (w6.drewN m)) := below_dN HB7.out _
                  have lb6' : w2.heap.size < (w6.drewN m).heap.size := lb6
                  have lb7' : w3.heap.size < (w6.drewN m).heap.size := lb7
                  generalize w6.drewN m = Wm at *
                  go_upto_region 45 with fail
                  go_quiet (first | (go_at_call 35; refine Calls.quiet_of (hsm _)))
                  go_wp2_with fail
                  go_ret
                  exact ⟨rfl, below_dN HBm.out _⟩
end Y
end Go.Proofs.YtejbgcloblpbfaaGreatDoor
namespace Go.Proofs.YtejbgcloblpbfaaGreatDoor
open Go.ChangeShapes Go.WideShapes Go.ChangeAt Go.WideMaps Go.WideElems Go.RowKit
open Go.ChangeMaps (open_string shut_string)
theorem own : ownKnob Tryz.prog.godebug = none := by kernel_rfl
theorem gSyn : Tryz.prog.globalNamed "strconv.ErrSyntax" = some 3 := by kernel_rfl
theorem gRan : Tryz.prog.globalNamed "strconv.ErrRange" = some 4 := by kernel_rfl
theorem tSyn : (Tryz.prog.globals[3]?).map (·.type) = some 253 := by kernel_rfl
theorem tRan : (Tryz.prog.globals[4]?).map (·.type) = some 253 := by kernel_rfl
theorem star : "*" ++ "errors.errorString" = "*errors.errorString" := by decide
theorem rowErr (u : TypeId) (h : Tryz.prog.typeName? 3 u = some "*errors.errorString") : u = 276 :=
  typeName_ptr_named (nm := "errors.errorString") (by rw [star]; kernel_rfl) (by kernel_rfl) (by decide) u (by rw [star]; exact h)
theorem cellsE : Tryz.prog.cellsOf 278 = 1 := by kernel_rfl
theorem cellsS : Tryz.prog.cellsOf 9 = 1 := by kernel_rfl
theorem door_met (os : Os) (args : Array Value) : laidMetH Tryz.prog Rows.sortedRow.laid ((World.doorLaid Tryz.prog 400 os).forCall (fun _ _ => 0) ⟨#[], args, []⟩).memory :=
  laidMetH_of_parts3 (fuel := 8) (laidMet_of_run' 8 (by kernel_rfl) (by kernel_rfl)) (by kernel_rfl) (by kernel_rfl)
theorem vars_of_laid {W : World} (h : laidMetH Tryz.prog Rows.sortedRow.laid W) : K.Vars W ∧ 5 ≤ W.heap.size := by
  rw [MakeChecks.laidMetH_plain _ _ _ (by kernel_rfl)] at h
  have h3 := laidMet.tail (laidMet.tail (laidMet.tail h))
  obtain ⟨a1, s1, hv1, _⟩ := laid_sentinel h3 gRan tRan Tryz.underlying253 rowErr Tryz.underlying276 Tryz.underlying278 rfl rfl Tryz.underlying9 cellsE cellsS
  obtain ⟨a0, s0, hv0, _⟩ := laid_sentinel (laidMet.tail h3) gSyn tSyn Tryz.underlying253 rowErr Tryz.underlying276 Tryz.underlying278 rfl rfl Tryz.underlying9 cellsE cellsS
  have c1 : W.cell? ⟨4, 0, none⟩ = some (.iface 276 (.pointer (some a1))) := by simpa using World.var?_cell gRan hv1 0
  have c0 : W.cell? ⟨3, 0, none⟩ = some (.iface 276 (.pointer (some a0))) := by simpa using World.var?_cell gSyn hv0 0
  refine ⟨⟨⟨_, c0, Or.inr ⟨_, _, rfl⟩⟩, ⟨_, c1, Or.inr ⟨_, _, rfl⟩⟩⟩, ?_⟩
  refine Nat.lt_of_not_le fun hn => ?_
  have hx : W.heap[4]? = none := Array.getElem?_eq_none (by omega)
  simp [World.cell?, hx] at c1
theorem cellsI : Tryz.prog.cellsOf 3 = 1 := by kernel_rfl
set_option maxRecDepth 100000 in
theorem spot_none {W : World} {base : Nat} {a : Addr} {len cap : Nat} (h : Value.okWide Tryz.prog W .any base 32 (.slice (some a) len cap)) : a.spot = none ∧ a.block < W.heap.size := by
  simp only [Value.okWide, Tryz.underlying32, Cell.okWide, Cell.ok] at h
  obtain ⟨_, _, _, hs, row, cells, hsh, _⟩ := h
  refine ⟨hs, Nat.lt_of_not_le fun hn => ?_⟩
  have hx : W.heap[a.block]? = none := Array.getElem?_eq_none hn
  simp [World.shape?, hx] at hsh
set_option maxRecDepth 100000 in
theorem open_mem {H : Type} {enc : TypeId × Value → H} {W : World} {base : Nat} {v : Value} {d : DataW H} {p : List MemPlace} (hval : Value.okWide Tryz.prog W .any base 32 v) (h : DataW.Trod enc Tryz.prog W 0 (fun _ => true) true 32 v d p) :
    ∃ aM cM, ∃ ms : List Int, v = .slice aM ms.length cM ∧ Y.IntsAt W aM ms ∧ ∀ W', Below W.heap.size W W' → DataW.Trod enc Tryz.prog W' 0 (fun b => decide (b < W.heap.size)) true 32 v d p := by
  obtain ⟨a0, len0, cap0, rfl⟩ := okWide_slice Tryz.underlying32 hval
  obtain ⟨fuel, hf⟩ := h
  rcases open_ints Tryz.underlying32 Tryz.underlying3 cellsI hf with ⟨hcs, hx⟩ | ⟨a, len, cap, zs, hcs, _, hl, hm, hlen, hx, hcell, hwf⟩
  · simp [Value.cells] at hcs
    obtain ⟨rfl, rfl, rfl⟩ := hcs
    simp only [Prod.mk.injEq] at hx
    obtain ⟨rfl, rfl⟩ := hx
    refine ⟨none, 0, [], rfl, fun j u hu => (by simp at hu), fun W' _ => shut_slice_nil Tryz.underlying32⟩
  · simp [Value.cells] at hcs
    obtain ⟨rfl, rfl, rfl⟩ := hcs
    simp only [Prod.mk.injEq] at hx
    obtain ⟨rfl, rfl⟩ := hx
    simp only [if_true] at hlen
    obtain ⟨hsp, hbl⟩ := spot_none hval
    obtain ⟨gm, om, sp⟩ := a
    cases hsp
    have hml : (zs.take len0).length = len0 := by rw [List.length_take]; omega
    refine ⟨some ⟨gm, om, none⟩, cap0, zs.take len0, by rw [hml], fun j u hu => ⟨gm, om, rfl, hbl, ?_⟩, fun W' hb' => ?_⟩
    · have hj : j < len0 := by rw [← hml]; exact (List.getElem?_eq_some_iff.1 hu).1
      have hc := hcell j (by omega)
      have ea : (⟨gm, om, none⟩ : Addr).add j = ⟨gm, om + j, none⟩ := by unfold Addr.add; split <;> simp_all
      rw [ea] at hc
      rw [hc]
      rw [List.getElem?_take_of_lt hj] at hu
      rw [List.getD_eq_getElem?_getD, hu]
      rfl
    · have hspb : (fun b => decide (b < W.heap.size)) (⟨gm, om, none⟩ : Addr).block = true := by simpa using hbl
      have t0 := shut_ints (enc := enc) (w := W') (base := 0) (spare := fun b => decide (b < W.heap.size)) (held := true) (a := ⟨gm, om, none⟩) (len := len0) (cap := cap0) (zs := zs) 0 Tryz.underlying32 Tryz.underlying3 cellsI (Nat.zero_le _) hl hm (by rw [if_pos hspb]; exact hlen) (fun i hi => by
        have ea : ((⟨gm, om, none⟩ : Addr).add i).block = gm := by unfold Addr.add; split <;> simp_all
        refine (World.cell?_of_block ?_).trans (hcell i hi)
        rw [ea]
        exact hb'.block gm hbl) hwf
      exact ⟨2, by simpa [Value.cells] using t0⟩
set_option maxRecDepth 100000 in
theorem sorted_lifted (os : Os) (started : os.Started) (H : Type) (enc : TypeId × Value → H) :
    ReturnsInHanded {} Tryz.checked os 11 .any (fun w args => (Rows.sortedSpec.pre enc Tryz.prog Tryz.f11 [] false w args ∧ laidMetH Tryz.prog Rows.sortedRow.laid w) ∧ sizedMet enc Tryz.prog Tryz.f11 (OpenSpec.ofChange Rows.sortedSpec) false w args)
      (Rows.sortedSpec.post enc Tryz.prog Tryz.f11 false true false false) := by
  refine returnsInHanded_of_change_and (C := Tryz.checked) (X := fun w _ => laidMetH Tryz.prog Rows.sortedRow.laid w) (fun _ _ _ hh h => h.of_heap hh) own started (by kernel_rfl) Tryz.func11
    (ChangeSpec.witness_shaped (enc := enc) (C := Tryz.checked) (os := os) (X := fun w _ => laidMetH Tryz.prog Rows.sortedRow.laid w) false (World.doorLaid Tryz.prog 400 os) #[.slice none 0 0, .slice none 0 0] 8 rfl (World.shaped_of_RefB (by kernel_rfl) (by kernel_rfl)) (by kernel_rfl) (by kernel_rfl) (by kernel_rfl) (door_met os _)) ?_
  intro W base args ds gs before hval0 hW _ _ hL _
  have hval : ∀ (j : Nat) t v, Tryz.f11.params[j]? = some t → args[j]? = some v → Value.okWide Tryz.prog W .any base t v := hval0
  have hW' := hW
  obtain ⟨p, q, hA0, hV, rfl, hfz, hnd⟩ := hW
  have hA : DataW.TrodAll enc Tryz.prog W 0 (fun _ => true) true Tryz.f11.params.toList args.toList ds p := hA0
  rw [Tryz.params11] at hA hval
  obtain ⟨v0, v1, d0, d1, p0, p1, rfl, rfl, rfl, h0, h1⟩ := trodAll_two hA
  obtain ⟨rfl, rfl⟩ := trodVars_none hV
  obtain ⟨aM, cM, ms, rfl, hM, hshut⟩ := open_mem (hval 0 32 v0 rfl rfl) h0
  obtain ⟨aN, cN, ns, rfl, hN, hshut2⟩ := open_mem (hval 1 32 v1 rfl rfl) h1
  obtain ⟨hv, hw⟩ := vars_of_laid hL
  clear hA0 hval0
  simp only [List.append_nil] at hW'
  refine (Y.sorted_c W hv hw aM cM ms hM aN cN ns hN).mono fun e W' ⟨he, hb⟩ => ?_
  subst he
  refine ⟨_, rfl, _, _, _, [], p0 ++ p1, [], hW', ?_, ?_, ?_, hb.frame _, fun h => by cases h⟩
  · exact trodAll_mk1 (shut_bool Tryz.underlying4 true)
  · exact trodAll_mk2 (hshut W' hb) (hshut2 W' hb)
  · rfl
theorem sorted_holds : Rows.SortedSaid :=
  OpenClaim.holds_of_wide 11 Tryz.f11 rfl rfl rfl rfl rfl rfl rfl ⟨rfl, rfl, rfl, rfl, rfl⟩ rfl rfl rfl rfl rfl (by kernel_rfl) Tryz.func11 (by kernel_rfl)
    (of_decide_eq_true (by kernel_rfl)) (by unfold Func.isWrapper; first | (rw [if_pos (by decide +kernel)]; kernel_rfl) | (rw [if_neg (by decide +kernel)]; exact ⟨rfl, rfl⟩))
    (fun os started H enc _ => sorted_lifted os started H enc)
theorem sorted_card : Rows.SortedCardSaid :=
  Claim7.holds_tied_plain_at .later [] [.data, .data, .data, .sentinel, .sentinel] true Rows.sortedCard.stood.harness true
    sorted_holds (fun _ h => by cases h) (by kernel_rfl) (fun _ h => by cases h) sorted_row_tie rfl ⟨rfl, rfl⟩ (by kernel_rfl) rfl
    (fun f fn hf hfn => by
      obtain rfl : f = 11 := Option.some.inj ((show Tryz.prog.funcNamed "mute/mutekeep.Sorted" = some 11 by kernel_rfl).symm.trans hf) |>.symm
      obtain rfl : fn = Tryz.f11 := (Option.some.inj (Tryz.func11.symm.trans hfn)).symm
      exact ⟨by kernel_rfl, fun j t ht => by
        rw [Tryz.params11] at ht
        have hm : t ∈ [32, 32] := by simpa using Array.mem_of_getElem? ht
        have hall : ([32, 32].all fun u => !Tryz.prog.wantsStandIn u) = true := by kernel_rfl
        exact (show Tryz.prog.wantsStandIn t = false by simpa using List.all_eq_true.1 hall t hm)⟩)
    (by kernel_rfl)
#print axioms sorted_card
end Go.Proofs.YtejbgcloblpbfaaGreatDoor
