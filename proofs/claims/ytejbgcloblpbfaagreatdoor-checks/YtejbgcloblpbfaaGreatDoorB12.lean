import Derived.Test.YtejbgcloblpbfaaGreatDoorB01
import Derived.Test.YtejbgcloblpbfaaGreatDoorB11
import Derived.Deep.QuietTactic
import Derived.BigQuiet
import Derived.Deep.CutBlock
import Derived.Test.YtejbgcloblpbfaaGreatDoorB03
namespace Go.Proofs.YtejbgcloblpbfaaGreatDoor
namespace Y
def ins (x : Nat) : List Nat → List Nat
  | [] => [x]
  | a :: l => if x < a then x :: a :: l else a :: ins x l
abbrev Srt (l : List Nat) : Prop := l.Pairwise (· < ·)
theorem ins_perm (x : Nat) : ∀ l : List Nat, (ins x l).Perm (x :: l)
  | [] => List.Perm.refl _
  | a :: l => by
    unfold ins
    split
    · exact List.Perm.refl _
    · exact ((ins_perm x l).cons a).trans (List.Perm.swap x a l)
theorem ins_mem {x y : Nat} {l : List Nat} : y ∈ ins x l ↔ y = x ∨ y ∈ l := by rw [(ins_perm x l).mem_iff, List.mem_cons]
theorem ins_len (x : Nat) (l : List Nat) : (ins x l).length = l.length + 1 := (ins_perm x l).length_eq
theorem ins_srt {x : Nat} : ∀ {l : List Nat}, Srt l → x ∉ l → Srt (ins x l)
  | [], _, _ => by simp [ins]
  | a :: l, h, hx => by
    replace h := List.pairwise_cons.1 h
    simp only [List.mem_cons, not_or] at hx
    unfold ins
    split
    · rename_i c
      refine List.pairwise_cons.2 ⟨fun y hy => ?_, List.pairwise_cons.2 h⟩
      rcases List.mem_cons.1 hy with rfl | hy
      · exact c
      · exact Nat.lt_trans c (h.1 y hy)
    · rename_i c
      refine List.pairwise_cons.2 ⟨fun y hy => ?_, ins_srt h.2 hx.2⟩
      rcases ins_mem.1 hy with rfl | hy
      · omega
      · exact h.1 y hy
theorem Srt.nodup {l : List Nat} (h : Srt l) : l.Nodup := h.imp (fun h => Nat.ne_of_lt h)
theorem srt_eq : ∀ {l m : List Nat}, Srt l → Srt m → l.Perm m → l = m
  | [], m, _, _, p => (List.nil_perm.1 p).symm
  | a :: l, [], _, _, p => absurd (List.perm_nil.1 p) (by simp)
  | a :: l, b :: m, h, k, p => by
    have h' := List.pairwise_cons.1 h
    have k' := List.pairwise_cons.1 k
    have ha : a ∈ b :: m := p.mem_iff.1 List.mem_cons_self
    have hb : b ∈ a :: l := p.mem_iff.2 List.mem_cons_self
    have e : a = b := by
      rcases List.mem_cons.1 ha with e | e
      · exact e
      · rcases List.mem_cons.1 hb with e' | e'
        · exact e'.symm
        · have := k'.1 a e; have := h'.1 b e'; omega
    subst e
    rw [srt_eq h'.2 k'.2 (List.Perm.cons_inv p)]
theorem Srt.erase {l : List Nat} (h : Srt l) (x : Nat) : Srt (l.erase x) := h.sublist List.erase_sublist
theorem ins_erase {l : List Nat} {x : Nat} (h : Srt l) (hx : x ∈ l) : ins x (l.erase x) = l := by
  refine srt_eq (ins_srt (h.erase x) (fun e => ((Srt.nodup h).mem_erase_iff.1 e).1 rfl)) h ?_
  exact (ins_perm x _).trans (List.perm_cons_erase hx).symm
def ofN (l : List Nat) : List Int := l.map fun n : Nat => (n : Int)
structure HP (h : List Int) (l : List Nat) : Prop where
  heap : Heap h h.length
  perm : h.Perm (ofN l)
  srt : Srt l
theorem HP.len {h : List Int} {l : List Nat} (p : HP h l) : h.length = l.length := by rw [p.perm.length_eq]; simp [ofN]
theorem hg_mem {h : List Int} {k : Nat} (hk : k < h.length) : hg h k ∈ h := by
  have : hg h k = h[k] := by simp [hg, List.getD_eq_getElem?_getD, hk]
  rw [this]; exact List.getElem_mem hk
theorem mem_hg {h : List Int} {x : Int} (hx : x ∈ h) : ∃ k, k < h.length ∧ hg h k = x := by
  obtain ⟨k, hk, e⟩ := List.mem_iff_getElem.1 hx
  exact ⟨k, hk, by simp [hg, List.getD_eq_getElem?_getD, hk, e]⟩
theorem HP.first {h : List Int} {a : Nat} {l : List Nat} (p : HP h (a :: l)) : hg h 0 = a := by
  have hl := p.len
  simp only [List.length_cons] at hl
  have m0 := p.perm.mem_iff.1 (hg_mem (h := h) (k := 0) (by omega))
  unfold ofN at m0
  obtain ⟨b, hb, e⟩ := List.mem_map.1 m0
  obtain ⟨k, hk, e'⟩ := mem_hg (p.perm.mem_iff.2 (show (a : Int) ∈ ofN (a :: l) by simp [ofN]))
  have mn := p.heap.min k hk
  have s := List.pairwise_cons.1 p.srt
  rcases List.mem_cons.1 hb with rfl | hb
  · exact e.symm
  · have := s.1 b hb
    omega
theorem HP.pop {h : List Int} {a : Nat} {l : List Nat} (p : HP h (a :: l)) : HP ((popL h).take (h.length - 1)) l := by
  have hl := p.len
  simp only [List.length_cons] at hl
  have h0 : 0 < h.length := by omega
  have ht : ((popL h).take (h.length - 1)).length = h.length - 1 := by rw [List.length_take, popL_len]; omega
  refine ⟨?_, ?_, (List.pairwise_cons.1 p.srt).2⟩
  · rw [ht]; exact (pop_heap p.heap h0).take
  · have e : (popL h).take (h.length - 1) ++ [(a : Int)] = popL h := by
      have hlast := pop_last h0
      rw [p.first] at hlast
      have hlen := popL_len h
      apply List.ext_getElem?
      intro k
      by_cases c : k < h.length - 1
      · rw [List.getElem?_append_left (by rw [ht]; exact c), List.getElem?_take_of_lt c]
      · by_cases d : k = h.length - 1
        · subst d
          rw [List.getElem?_append_right (by rw [ht]; exact Nat.le_refl _), ht, Nat.sub_self]
          have hx : hg (popL h) (h.length - 1) = (popL h)[h.length - 1]'(by omega) := by simp [hg, List.getD_eq_getElem?_getD, show h.length - 1 < (popL h).length by omega]
          rw [hx] at hlast
          rw [List.getElem?_eq_getElem (show h.length - 1 < (popL h).length by omega), hlast]
          rfl
        · rw [List.getElem?_eq_none (by rw [List.length_append, ht]; simp; omega), List.getElem?_eq_none (by omega)]
    have q := (pop_perm h0).trans p.perm
    rw [← e] at q
    have q2 : ((a : Int) :: (popL h).take (h.length - 1)).Perm ((a : Int) :: ofN l) := List.perm_append_comm.trans q
    exact List.Perm.cons_inv q2
theorem HP.push {h : List Int} {l : List Nat} (p : HP h l) {x : Nat} (hx : x ∉ l) : HP (pushL h x) (ins x l) := by
  refine ⟨?_, ?_, ins_srt p.srt hx⟩
  · rw [push_len]; exact push_heap p.heap _
  · refine (push_perm h x).trans ((p.perm.cons (x : Int)).trans ?_)
    have := ((ins_perm x l).map (fun n : Nat => (n : Int))).symm
    exact this
theorem HP.new {l : List Nat} (s : Srt l) : HP (ofN l) l := by
  refine ⟨fun k k0 kn => ?_, List.Perm.refl _, s⟩
  simp only [ofN, List.length_map] at kn
  have e : ∀ k, k < l.length → hg (ofN l) k = (l.getD k 0 : Nat) := by
    intro k hk
    simp [hg, ofN, List.getD_eq_getElem?_getD, hk]
  rw [e _ (by omega), e _ kn]
  have := List.pairwise_iff_getElem.1 s ((k - 1) / 2) k (by omega) kn (by omega)
  simp only [List.getD_eq_getElem?_getD, List.getElem?_eq_getElem kn, List.getElem?_eq_getElem (show (k - 1) / 2 < l.length by omega), Option.getD_some]
  omega
end Y
end Go.Proofs.YtejbgcloblpbfaaGreatDoor
namespace Go.Proofs.YtejbgcloblpbfaaGreatDoor
open Go.RowKit
theorem num_s (n : Int) (w : World) : Calls Tryz.prog 16 #[.int .i64 n] w fun x w' => x = .returned (.int .i64 n) ∧ w' = w := by
  go_enter Tryz.func16, Tryz.ntmps16
  go_wp2_with fail
  go_ret
  exact ⟨rfl, rfl⟩
theorem below_drewN {B : Nat} {w w' : World} (h : Below B w w') (n : Nat) : Below B w (w'.drewN n) := ⟨h.os, h.tape, h.output, h.size, h.block⟩
set_option maxRecDepth 100000 in
set_option maxHeartbeats 2000000 in
theorem shapes_bad {s t : ByteArray} {w : World} {E : Int} (hE : ¬ E = 0) (ht : t = { data := #[40, 112, 117, 98, 108, 105, 99, 32, 97, 41, 40, 115, 101, 99, 114, 101, 116, 32, 98, 41] })
    (h1 : Calls Tryz.prog 15 #[.string s] w fun x w' => ∃ b, x = .returned (.pointer (some ⟨b, 0, none⟩)) ∧ Below w.heap.size w w' ∧ b < w'.heap.size ∧ w'.cell? ⟨b, 2, none⟩ = some (.int .i64 E))
    (h2 : ∀ w' : World, Below w.heap.size w w' → Calls Tryz.prog 17 #[.string s] w' fun x w'' => x = .returned (.tuple #[.slice none 0 0, .int .i64 E]) ∧ Below w'.heap.size w' w'')
    (h3 : ∀ w' : World, Below w.heap.size w w' → Calls Tryz.prog 17 #[.string t] w' fun x w'' => (∃ g, x = .returned (.tuple #[.slice (some ⟨g, 0, none⟩) 2 2, .int .i64 0]) ∧ At w'' g 4 [.bool false, .bool true]) ∧ Below w'.heap.size w' w'') :
    Calls Tryz.prog 4 #[.string s] w fun x w' => x = .returned (.bool true) ∧ Below w.heap.size w w' := by
  subst ht
  have h4 := fun (w' : World) => num_s E w'
  go_enter Tryz.func4, Tryz.ntmps4
  go_wp2_with fail
  refine h1.mono ?_
  rintro x w1 ⟨b, rfl, B1, hbl, c2⟩
  have z1 := B1.size
  go_wp2_with fail
  go_loopg [5] 3 (fun gk kk wr => ∃ k : Nat, k + gk = 3 ∧ kk = .int .i64 (k : Int) ∧ Below w1.heap.size w1 wr)
  case atStart => exact ⟨0, rfl, rfl, Below.refl _ _⟩
  case round =>
    obtain ⟨k, hk, rfl, B⟩ := hrel
    have zr := B.size
    cases gk with
    | zero =>
      have hz : ¬ ((k : Int) < 3) := by omega
      have BB := B1.trans (B.mono z1)
      have h3' := h3 wr BB
      go_wp2_with fail
      refine h3'.mono ?_
      rintro x w2 ⟨⟨g, rfl, aG⟩, hb2⟩
      have y0 : w2.cell? ⟨g, 0, none⟩ = some (.bool false) := aG.cell 0
      have y1 : w2.cell? ⟨g, 1, none⟩ = some (.bool true) := aG.cell 1
      go_wp2_with fail
      go_ret
      exact ⟨rfl, BB.trans (hb2.mono (Nat.le_trans z1 zr))⟩
    | succ g1 =>
      have hz : (k : Int) < 3 := by omega
      have h2' := h2 wr (B1.trans (B.mono z1))
      go_wp2_with fail
      refine h2'.mono ?_
      rintro x w2 ⟨rfl, hb2⟩
      have c2' : w2.cell? ⟨b, 2, none⟩ = some (.int .i64 E) := ((hb2.cell (p := ⟨b, 2, none⟩) (show b < wr.heap.size by omega)).trans (B.cell (p := ⟨b, 2, none⟩) hbl)).trans c2
      have B2 := B.trans (hb2.mono zr)
      have hne : (decide (E = 0)) = false := by simp [hE]
      go_upto_region 7 with fail
      go_quiet (first | (go_at_call 16; refine Calls.quiet_of_same (h4 _)))
      go_wp2_with fail
      go_roundg g1
      case measure => omega
      case rel => exact ⟨k + 1, by omega, by go_num, below_drewN B2 _⟩
structure Still (w w' : World) : Prop where
  heap : w'.heap = w.heap
  os : w'.os = w.os
  tape : w'.tape = w.tape
  output : w'.output = w.output
theorem Still.cell {w w' : World} (h : Still w w') (a : Addr) : w'.cell? a = w.cell? a := by simp [World.cell?, h.heap]
theorem Still.drewN {w w' : World} (h : Still w w') (n : Nat) : Still w (w'.drewN n) := ⟨h.heap, h.os, h.tape, h.output⟩
theorem Still.below {w w' : World} (h : Still w w') (B : Nat) : Below B w w' := ⟨h.os, h.tape, h.output, by rw [h.heap]; exact Nat.le_refl _, fun k _ => by rw [h.heap]⟩
theorem but_below {b B : Nat} {w w' : World} (h : But b w w') (hB : B ≤ b) (hs : B ≤ w.heap.size) : Below B w w' :=
  ⟨h.os, h.tape, h.output, h.size, fun k hk => h.block k (by omega) (by omega)⟩
set_option maxRecDepth 100000 in
set_option maxHeartbeats 4000000 in
theorem shapes_good {s t : ByteArray} {w : World} {sh : List Bool} (h54 : sh.length ≤ 54) (ht : t = { data := #[40, 112, 117, 98, 108, 105, 99, 32, 97, 41, 40, 115, 101, 99, 114, 101, 116, 32, 98, 41] })
    (h1 : Calls Tryz.prog 15 #[.string s] w fun x w' => ∃ b H, x = .returned (.pointer (some ⟨b, 0, none⟩)) ∧ Below w.heap.size w w' ∧ b < w'.heap.size ∧ w'.cell? ⟨b, 2, none⟩ = some (.int .i64 0) ∧ w'.cell? ⟨b, 9, none⟩ = some H ∧ w'.ownsRow 0 4 1 H sh.length (bools sh))
    (h2 : ∀ w' : World, Below w.heap.size w w' → Calls Tryz.prog 17 #[.string s] w' fun x w'' => (∃ g, x = .returned (.tuple #[.slice (some ⟨g, 0, none⟩) sh.length sh.length, .int .i64 0]) ∧ w'.heap.size ≤ g ∧ At w'' g 4 (bools sh)) ∧ Below w'.heap.size w' w'')
    (h3 : ∀ w' : World, Below w.heap.size w w' → Calls Tryz.prog 17 #[.string t] w' fun x w'' => (∃ g, x = .returned (.tuple #[.slice (some ⟨g, 0, none⟩) 2 2, .int .i64 0]) ∧ At w'' g 4 [.bool false, .bool true]) ∧ Below w'.heap.size w' w'') :
    Calls Tryz.prog 4 #[.string s] w fun x w' => x = .returned (.bool true) ∧ Below w.heap.size w w' := by
  subst ht
  have h4 := fun (w' : World) => num_s 0 w'
  go_enter Tryz.func4, Tryz.ntmps4
  go_wp2_with fail
  refine h1.mono ?_
  rintro x w1 ⟨b, H, rfl, B1, hbl, c2, c9, rH⟩
  have z1 := B1.size
  obtain ⟨aH, cH, rfl, HH⟩ : ∃ aH cH, H = .slice aH sh.length cH ∧ Hid (∀ m u, sh[m]? = some u → ∃ gH, aH = some ⟨gH, 0, none⟩ ∧ gH < w1.heap.size ∧ w1.cell? ⟨gH, m, none⟩ = some (.bool u)) := by
    rcases Joins.ownsRow_forms rH with ⟨rfl, h0⟩ | ⟨gH, cH, rfl⟩
    · refine ⟨none, 0, by rw [h0], fun m u hu => ?_⟩
      have := (List.getElem?_eq_some_iff.1 hu).1
      omega
    · obtain ⟨_, hHl, hHc⟩ := own_cells rH
      exact ⟨_, _, rfl, fun m u hu => ⟨gH, rfl, hHl, hHc m _ (by simp [bools, hu])⟩⟩
  clear rH
  go_wp2_with fail
  go_loopg [4, 5] 3 (fun gk fst kk wr => ∃ k : Nat, k + gk = 3 ∧ kk = .int .i64 (k : Int) ∧ Below w1.heap.size w1 wr ∧ (k = 0 ∨ ∃ lo hi h, fst = .slice (some ⟨h, 0, none⟩) 3 3 ∧ Three wr lo hi h true ∧ hi ≤ wr.heap.size))
  case atStart => exact ⟨0, rfl, rfl, Below.refl _ _, Or.inl rfl⟩
  case round =>
    obtain ⟨k, hk, rfl, B, hfst⟩ := hrel
    have zr := B.size
    cases gk with
    | zero =>
      have hz : ¬ ((k : Int) < 3) := by omega
      have BB := B1.trans (B.mono z1)
      have h3' := h3 wr BB
      go_wp2_with fail
      refine h3'.mono ?_
      rintro x w2 ⟨⟨g, rfl, aG⟩, hb2⟩
      have y0 : w2.cell? ⟨g, 0, none⟩ = some (.bool false) := aG.cell 0
      have y1 : w2.cell? ⟨g, 1, none⟩ = some (.bool true) := aG.cell 1
      go_wp2_with fail
      go_ret
      exact ⟨rfl, BB.trans (hb2.mono (Nat.le_trans z1 zr))⟩
    | succ g1 =>
      have hz : (k : Int) < 3 := by omega
      have h2' := h2 wr (B1.trans (B.mono z1))
      go_wp2_with fail
      refine h2'.mono ?_
      rintro x w2 ⟨⟨g, rfl, hgl, aG⟩, hb2⟩
      have B2 := B.trans (hb2.mono zr)
      have e2 : w2.cell? ⟨b, 2, none⟩ = some (.int .i64 0) := (B2.cell (p := ⟨b, 2, none⟩) hbl).trans c2
      have e9 := (B2.cell (p := ⟨b, 9, none⟩) hbl).trans c9
      have glt := aG.lt
      have z2 := hb2.size
      go_upto_region 7 with fail
      go_quiet (first | (go_at_call 16; refine Calls.quiet_of_same (h4 _)))
      go_wp2_with fail
      obtain ⟨wo, rfl⟩ : ∃ wo : World, wo = wr := ⟨_, rfl⟩
      go_loopg [8] sh.length (fun g2 ii wy => ∃ m : Nat, m + g2 = sh.length ∧ ii = .int .i64 (m : Int) ∧ Still w2 wy)
      case atStart => exact ⟨0, by omega, rfl, ⟨rfl, rfl, rfl, rfl⟩⟩
      case round =>
        obtain ⟨m, hm, rfl, SY⟩ := hrel
        cases gk with
        | succ g2 =>
          have hy : (m : Int) < (sh.length : Int) := by omega
          obtain ⟨u, hu⟩ : ∃ u, sh[m]? = some u := ⟨_, List.getElem?_eq_getElem (by omega)⟩
          obtain ⟨gH, rfl, hHl, hHc⟩ := HH.out m u hu
          have v1 : wr.cell? ⟨g, m, none⟩ = some (.bool u) := (SY.cell _).trans ((aG.cell m).trans (by simp [bools, hu]))
          have v9 := (SY.cell _).trans e9
          have vH : wr.cell? ⟨gH, m, none⟩ = some (.bool u) := (SY.cell _).trans ((B2.cell (p := ⟨gH, m, none⟩) hHl).trans hHc)
          go_upto_region 15 with fail
          go_quiet (fail)
          go_wp2_with fail
          go_roundg g2
          case measure => omega
          case rel => exact ⟨m + 1, by omega, by go_num, SY.drewN _⟩
        | zero =>
          have hy : ¬ ((m : Int) < (sh.length : Int)) := by omega
          have aG' : At wr g 4 (bools sh) := aG.of_block (by rw [SY.heap])
          have zy : wr.heap.size = w2.heap.size := by rw [SY.heap]
          have BY := B2.trans (SY.below _)
          by_cases hk0 : k = 0
          · subst hk0
            have hf := flags_c (lo := wo.heap.size) (L := sh.length) true (l := bools sh) (by simp [bools]) h54 aG' hgl
            go_wp2_with fail
            refine hf.mono ?_
            rintro x w4 ⟨h, rfl, T4, hb4⟩
            have B4 := BY.trans (but_below hb4 (show w1.heap.size ≤ g by omega) (show w1.heap.size ≤ wr.heap.size by omega))
            go_wp2_with fail
            go_roundg g1
            case measure => omega
            case rel => exact ⟨1, by omega, rfl, B4, Or.inr ⟨_, _, h, rfl, T4, Nat.le_refl _⟩⟩
          · have hk1 : ¬ ((k : Int) = 0) := by omega
            rcases hfst with rfl | ⟨lo, hi, h, rfl, T0, hhi⟩
            · exact absurd rfl hk0
            · have hf := flags_c (lo := wo.heap.size) (L := sh.length) false (l := bools sh) (by simp [bools]) h54 aG' hgl
              go_wp2_with fail
              refine hf.mono ?_
              rintro x w4 ⟨h', rfl, T4, hb4⟩
              have B4 := BY.trans (but_below hb4 (show w1.heap.size ≤ g by omega) (show w1.heap.size ≤ wr.heap.size by omega))
              have T0' : Three w4 lo hi h true := T0.keep fun q h1 h2 => (hb4.block q (by omega) (by omega)).trans ((by rw [SY.heap] : wr.heap[q]? = w2.heap[q]?).trans (hb2.block q (by omega)))
              have f1 := flagged_c T0'
              have f2 := flagged_c T4
              have z4 := hb4.size
              go_wp2_with fail
              refine f1.mono ?_
              rintro x w5 ⟨rfl, rfl⟩
              go_wp2_with fail
              refine f2.mono ?_
              rintro x w6 ⟨rfl, rfl⟩
              go_wp2_with fail
              go_roundg g1
              case measure => omega
              case rel => exact ⟨k + 1, by omega, by go_num, B4, Or.inr ⟨lo, hi, h, rfl, T0', by omega⟩⟩
end Go.Proofs.YtejbgcloblpbfaaGreatDoor
namespace Go.Proofs.YtejbgcloblpbfaaGreatDoor
open Go.RowKit
theorem Still.but' {b : Nat} {a w w' : World} (s : Still w w') (h : But b a w) : But b a w' :=
  ⟨s.os.trans h.os, s.tape.trans h.tape, s.output.trans h.output, by rw [s.heap]; exact h.size, fun k hk hne => by rw [s.heap]; exact h.block k hk hne⟩
namespace Y
structure PoolAt (w : World) (pb g : Nat) (h : List Int) (cap : Nat) : Prop where
  head : At w pb 188 [.slice (some ⟨g, 0, none⟩) h.length cap]
  row : ∃ rest, At w g 3 (ints h ++ rest) ∧ h.length + rest.length = cap
  ne : pb ≠ g
  few : h.length ≤ 100000
abbrev PV (pb : Nat) : Value := .iface 127 (.pointer (some ⟨pb, 0, none⟩))
theorem PoolAt.cell {w : World} {pb g : Nat} {h : List Int} {cap : Nat} (p : PoolAt w pb g h cap) {k : Nat} (hk : k < h.length) : w.cell? ⟨g, k, none⟩ = some (.int .i64 (hg h k)) := by
  obtain ⟨rest, a, _⟩ := p.row
  rw [a.cell, List.getElem?_append_left (by unfold ints; rw [List.length_map]; exact hk)]
  unfold ints hg
  rw [List.getElem?_map, List.getD_eq_getElem?_getD, List.getElem?_eq_getElem hk]
  rfl
theorem PoolAt.frozen {w : World} {pb g : Nat} {h : List Int} {cap : Nat} (p : PoolAt w pb g h cap) (k : Nat) : w.frozen? ⟨g, k, none⟩ = false := by
  obtain ⟨rest, a, _⟩ := p.row
  exact a.frozen k
theorem PoolAt.lt {w : World} {pb g : Nat} {h : List Int} {cap : Nat} (p : PoolAt w pb g h cap) : pb < w.heap.size ∧ g < w.heap.size := by
  obtain ⟨rest, a, _⟩ := p.row
  exact ⟨p.head.lt, a.lt⟩
theorem PoolAt.keep {w w' : World} {pb g : Nat} {h : List Int} {cap : Nat} (p : PoolAt w pb g h cap) (h1 : w'.heap[pb]? = w.heap[pb]?) (h2 : w'.heap[g]? = w.heap[g]?) : PoolAt w' pb g h cap := by
  obtain ⟨rest, a, b⟩ := p.row
  exact ⟨p.head.of_block h1, ⟨rest, a.of_block h2, b⟩, p.ne, p.few⟩
set_option maxRecDepth 20000 in
theorem len_c (w : World) (a : Option Addr) (n c : Nat) : Calls Tryz.prog 188 #[.slice a n c] w fun x w' => x = .returned (.int .i64 (n : Int)) ∧ w' = w := by
  go_enter Tryz.func188, Tryz.ntmps188
  go_wp2_with fail
  go_ret
  exact ⟨rfl, rfl⟩
set_option maxRecDepth 20000 in
set_option maxHeartbeats 1000000 in
theorem less_c {w : World} {pb g : Nat} {h : List Int} {cap : Nat} (p : PoolAt w pb g h cap) {i j : Nat} (hi : i < h.length) (hj : j < h.length) :
    Calls Tryz.prog 268 #[.slice (some ⟨g, 0, none⟩) h.length cap, .int .i64 (i : Int), .int .i64 (j : Int)] w fun x w' => x = .returned (.bool (decide (hg h i < hg h j))) ∧ Still w w' := by
  have c1 := p.cell hi
  have c2 := p.cell hj
  have z1 : (i : Int) < (h.length : Int) := by omega
  have z2 : (j : Int) < (h.length : Int) := by omega
  go_enter Tryz.func268, Tryz.ntmps268
  go_upto_region 1 with fail
  go_quiet (fail)
  go_wp2_with fail
  go_ret
  exact ⟨rfl, ⟨rfl, rfl, rfl, rfl⟩⟩
set_option maxRecDepth 20000 in
set_option maxHeartbeats 1000000 in
theorem swap_c {w : World} {pb g : Nat} {h : List Int} {cap : Nat} (p : PoolAt w pb g h cap) {i j : Nat} (hi : i < h.length) (hj : j < h.length) :
    Calls Tryz.prog 271 #[.slice (some ⟨g, 0, none⟩) h.length cap, .int .i64 (i : Int), .int .i64 (j : Int)] w fun x w' => x = .returned (.tuple #[]) ∧ PoolAt w' pb g (sw h i j) cap ∧ But g w w' := by
  have c1 := p.cell hi
  have c2 := p.cell hj
  have f1 := p.frozen i
  have f2 := p.frozen j
  have z1 : (i : Int) < (h.length : Int) := by omega
  have z2 : (j : Int) < (h.length : Int) := by omega
  obtain ⟨rest, a, hc⟩ := p.row
  have a1 := a.set i (.int .i64 (hg h j))
  have c3 : (w.setCell ⟨g, i, none⟩ (.int .i64 (hg h j))).cell? ⟨g, j, none⟩ = some (.int .i64 (hg h j)) := by
    by_cases e : i = j
    · subst e
      rw [a1.cell, List.getElem?_set_self (by rw [List.length_append]; unfold ints; rw [List.length_map]; omega)]
    · rw [a1.cell, List.getElem?_set_ne e, ← a.cell]
      exact c2
  have f3 := a1.frozen j
  have HA := hide a
  have hd := hide p.head
  have few := p.few
  have pne := p.ne
  clear a a1
  go_enter Tryz.func271, Tryz.ntmps271
  go_upto_region 0 with fail
  go_region
  go_wp2_with fail
  go_end0
  have e : ints (sw h i j) ++ rest = ((ints h ++ rest).set i (.int .i64 (hg h j))).set j (.int .i64 (hg h i)) := by
    unfold sw ints
    rw [List.map_set, List.map_set, List.set_append_left _ _ (by rw [List.length_map]; exact hi), List.set_append_left _ _ (by rw [List.length_set, List.length_map]; exact hj)]
  have B1 := ((But.refl g w).set i (.int .i64 (hg h j))).set j (.int .i64 (hg h i))
  have hp : ((w.setCell ⟨g, i, none⟩ (.int .i64 (hg h j))).setCell ⟨g, j, none⟩ (.int .i64 (hg h i))).heap[pb]? = w.heap[pb]? := (heap_setCell_other _ ⟨g, j, none⟩ pb _ pne).trans (heap_setCell_other _ ⟨g, i, none⟩ pb _ pne)
  have hA : At ((w.setCell ⟨g, i, none⟩ (.int .i64 (hg h j))).setCell ⟨g, j, none⟩ (.int .i64 (hg h i))) pb 188 [.slice (some ⟨g, 0, none⟩) (sw h i j).length cap] := by rw [sw_len]; exact hd.out.of_block hp
  have hR : At ((w.setCell ⟨g, i, none⟩ (.int .i64 (hg h j))).setCell ⟨g, j, none⟩ (.int .i64 (hg h i))) g 3 (ints (sw h i j) ++ rest) := by rw [e]; exact (HA.out.set i _).set j _
  exact ⟨rfl, ⟨hA, ⟨rest, hR, by rw [sw_len]; exact hc⟩, pne, by rw [sw_len]; exact few⟩, ⟨B1.os, B1.tape, B1.output, B1.size, B1.block⟩⟩
end Y
end Go.Proofs.YtejbgcloblpbfaaGreatDoor
