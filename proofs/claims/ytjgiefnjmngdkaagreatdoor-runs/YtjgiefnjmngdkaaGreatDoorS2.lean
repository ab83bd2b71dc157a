import Derived.Test.YtjgiefnjmngdkaaGreatDoorS1
import Derived.Test.YtjgiefnjmngdkaaGreatDoorM27
import Derived.Test.YtjgiefnjmngdkaaGreatDoorM12
import Derived.Deep.QuietTactic
import Derived.BigQuiet
import Derived.Deep.CutBlock
import Derived.Test.YtjgiefnjmngdkaaGreatDoorL1
namespace Go.Proofs.YtjgiefnjmngdkaaGreatDoor
open Go.RowKit
open K (Nm)

set_option maxHeartbeats 400000 in
theorem shape_err {s : ByteArray} {w : World} {E Q : Int} (hE : ¬ E = 0) (hr : Calls Tryz.prog 40 #[.string s] w fun x w' => x = .returned (.tuple #[zeroP, .int .i64 E, .int .i64 Q]) ∧ Below w.heap.size w w') :
    Calls Tryz.prog 17 #[.string s] w fun x w' => x = .returned (.tuple #[.slice none 0 0, .int .i64 E]) ∧ Below w.heap.size w w' := by
  unfold zeroP at hr
  go_enter Tryz.func17, Tryz.ntmps17
  go_wp2_with fail
  refine hr.mono ?_
  rintro x w1 ⟨rfl, hb⟩
  go_wp2_with fail
  go_ret2
  exact ⟨rfl, hb.alloc hb.size _⟩

theorem read_long_err {s : ByteArray} (h : 800 < s.size) : (R.read s).err = 1 := by unfold R.read; rw [if_pos h]; rfl

/-- What the code's Shape answers, at whatever text. -/
theorem shape_c (s : ByteArray) (w : World) (hm : s.size ≤ maxLen) (hv : K.Vars w) (hw : 5 ≤ w.heap.size) :
    Calls Tryz.prog 17 #[.string s] w fun x w' => ((¬ (R.read s).err = 0 ∧ x = .returned (.tuple #[.slice none 0 0, .int .i64 (R.read s).err])) ∨
      ((R.read s).err = 0 ∧ ∃ g, x = .returned (.tuple #[.slice (some ⟨g, 0, none⟩) (R.read s).shape.length (R.read s).shape.length, .int .i64 0]) ∧ w.heap.size ≤ g ∧ At w' g 4 (bools (R.read s).shape))) ∧ Below w.heap.size w w' := by
  by_cases hl : 800 < s.size
  · have e := read_long_err hl
    refine (shape_err (E := 1) (Q := 0) (by decide) (mread_long s w hl hm)).mono fun x w' h => ⟨Or.inl ⟨by rw [e]; decide, by rw [e]; exact h.1⟩, h.2⟩
  · have hr := mread_c (fun l h => gds_of l (gdl_c l h)) s w (by omega) hv hw
    by_cases he : (R.read s).err = 0
    · obtain ⟨p1, p2, p3, p4, p5, p6, p7, p8⟩ := Q.shape_ok (by omega) he
      have hg := shape_go (s := s) (w := w) (ns := (K.progS (R.toks s)).names) (L := (R.read s).shape.length) p7 (by omega) (by rw [p3]) p5 (hr.mono fun x w' h => ?_)
      · refine hg.mono fun x w' h => ⟨Or.inr ⟨he, ?_⟩, h.2⟩
        rw [p3] at h ⊢
        exact h.1
      · obtain ⟨hx, hb⟩ := h
        refine ⟨?_, hb⟩
        rcases hx with ⟨h1, _⟩ | ⟨_, h1, _⟩ | ⟨_, _, nv, dv, us, rfl, nr, dr, _⟩
        · exact absurd p1 h1
        · rw [p2] at h1; cases h1
        · obtain ⟨da, dn, dc, rfl⟩ := dr.form
          exact ⟨nv, da, dn, dc, by rw [p4], nr⟩
    · have hk := Q.check_read (R.toks_ended s)
      have hc : K.check s = K.checkT (R.toks s) := by unfold K.check; rw [if_neg hl]
      rw [hc] at hk
      unfold K.checkT at hk
      have hk1 := congrArg Prod.fst hk
      dsimp only at hk1
      generalize (R.read s).err = E at *
      refine (shape_err (E := E) (Q := (K.checkT (R.toks s)).2) he (hr.mono fun x w' h => ⟨?_, h.2⟩)).mono fun x w' h => ⟨Or.inl ⟨he, h.1⟩, h.2⟩
      unfold K.checkT
      rcases h.1 with ⟨h1, h2⟩ | ⟨h1, h2, h3⟩ | ⟨h1, h2, _⟩
      · rw [if_neg h1] at hk1 ⊢
        rw [h2]
        rw [← hk1]
      · rw [if_pos h1, if_pos h2] at hk1 ⊢
        rw [h3]
        rw [← hk1]
      · rw [if_pos h1, if_neg (by rw [h2]; decide)] at hk1
        exact absurd hk1.symm he
end Go.Proofs.YtjgiefnjmngdkaaGreatDoor
namespace Go.Proofs.YtjgiefnjmngdkaaGreatDoor
open Go.RowKit

theorem num_s (n : Int) (w : World) : Calls Tryz.prog 16 #[.int .i64 n] w fun x w' => x = .returned (.int .i64 n) ∧ w' = w := by
  go_enter Tryz.func16, Tryz.ntmps16
  go_wp2_with fail
  go_ret
  exact ⟨rfl, rfl⟩
theorem below_drewN {B : Nat} {w w' : World} (h : Below B w w') (n : Nat) : Below B w (w'.drewN n) := ⟨h.os, h.tape, h.output, h.size, h.block⟩

set_option maxRecDepth 100000 in
set_option maxHeartbeats 2000000 in
/-- Shapes at a text that is none. -/
theorem shapes_bad {s t : ByteArray} {w : World} {E : Int} (hE : ¬ E = 0) (ht : t = { data := #[40, 112, 117, 98, 108, 105, 99, 32, 97, 41, 40, 115, 101, 99, 114, 101, 116, 32, 98, 41] })
    (h1 : Calls Tryz.prog 15 #[.string s] w fun x w' => ∃ b, x = .returned (.pointer (some ⟨b, 0, none⟩)) ∧ Below w.heap.size w w' ∧ b < w'.heap.size ∧ w'.cell? ⟨b, 2, none⟩ = some (.int .i64 E))
    (h2 : ∀ w' : World, Below w.heap.size w w' → Calls Tryz.prog 17 #[.string s] w' fun x w'' => x = .returned (.tuple #[.slice none 0 0, .int .i64 E]) ∧ Below w'.heap.size w' w'')
    (h3 : ∀ w' : World, Below w.heap.size w w' → Calls Tryz.prog 17 #[.string t] w' fun x w'' => (∃ g, x = .returned (.tuple #[.slice (some ⟨g, 0, none⟩) 2 2, .int .i64 0]) ∧ At w'' g 4 [.bool false, .bool true]) ∧ Below w'.heap.size w' w'') :
    Calls Tryz.prog 4 #[.string s] w fun x w' => x = .returned (.bool true) ∧ Below w.heap.size w w' := by
  subst ht
  have h4 := fun (w' : World) => num_s E w'
  go_enter Tryz.func4, Tryz.ntmps4
  go_wp2_with fail
  refine h1.mono ?_
  rintro x w1 ⟨b, rfl, B1, hbl, c2⟩
  have z1 := B1.size
  go_wp2_with fail
  go_loopg [5] 3 (fun gk kk wr => ∃ k : Nat, k + gk = 3 ∧ kk = .int .i64 (k : Int) ∧ Below w1.heap.size w1 wr)
  case atStart => exact ⟨0, rfl, rfl, Below.refl _ _⟩
  case round =>
    obtain ⟨k, hk, rfl, B⟩ := hrel
    have zr := B.size
    cases gk with
    | zero =>
      have hz : ¬ ((k : Int) < 3) := by omega
      have BB := B1.trans (B.mono z1)
      have h3' := h3 wr BB
      go_wp2_with fail
      refine h3'.mono ?_
      rintro x w2 ⟨⟨g, rfl, aG⟩, hb2⟩
      have y0 : w2.cell? ⟨g, 0, none⟩ = some (.bool false) := aG.cell 0
      have y1 : w2.cell? ⟨g, 1, none⟩ = some (.bool true) := aG.cell 1
      go_wp2_with fail
      go_ret
      exact ⟨rfl, BB.trans (hb2.mono (Nat.le_trans z1 zr))⟩
    | succ g1 =>
      have hz : (k : Int) < 3 := by omega
      have h2' := h2 wr (B1.trans (B.mono z1))
      go_wp2_with fail
      refine h2'.mono ?_
      rintro x w2 ⟨rfl, hb2⟩
      have c2' : w2.cell? ⟨b, 2, none⟩ = some (.int .i64 E) := ((hb2.cell (p := ⟨b, 2, none⟩) (show b < wr.heap.size by omega)).trans (B.cell (p := ⟨b, 2, none⟩) hbl)).trans c2
      have B2 := B.trans (hb2.mono zr)
      have hne : (decide (E = 0)) = false := by simp [hE]
      go_upto_region 7 with fail
      go_quiet (first | (go_at_call 16; refine Calls.quiet_of_same (h4 _)))
      go_wp2_with fail
      go_roundg g1
      case measure => omega
      case rel => exact ⟨k + 1, by omega, by go_num, below_drewN B2 _⟩

/-- Nothing has turned but what is drawn. -/
structure Still (w w' : World) : Prop where
  heap : w'.heap = w.heap
  os : w'.os = w.os
  tape : w'.tape = w.tape
  output : w'.output = w.output
theorem Still.cell {w w' : World} (h : Still w w') (a : Addr) : w'.cell? a = w.cell? a := by simp [World.cell?, h.heap]
theorem Still.drewN {w w' : World} (h : Still w w') (n : Nat) : Still w (w'.drewN n) := ⟨h.heap, h.os, h.tape, h.output⟩
theorem Still.below {w w' : World} (h : Still w w') (B : Nat) : Below B w w' := ⟨h.os, h.tape, h.output, by rw [h.heap]; exact Nat.le_refl _, fun k _ => by rw [h.heap]⟩

theorem but_below {b B : Nat} {w w' : World} (h : But b w w') (hB : B ≤ b) (hs : B ≤ w.heap.size) : Below B w w' :=
  ⟨h.os, h.tape, h.output, h.size, fun k hk => h.block k (by omega) (by omega)⟩

set_option maxRecDepth 100000 in
set_option maxHeartbeats 4000000 in
/-- Shapes at a program. -/
theorem shapes_good {s t : ByteArray} {w : World} {sh : List Bool} (h54 : sh.length ≤ 54) (ht : t = { data := #[40, 112, 117, 98, 108, 105, 99, 32, 97, 41, 40, 115, 101, 99, 114, 101, 116, 32, 98, 41] })
    (h1 : Calls Tryz.prog 15 #[.string s] w fun x w' => ∃ b H, x = .returned (.pointer (some ⟨b, 0, none⟩)) ∧ Below w.heap.size w w' ∧ b < w'.heap.size ∧ w'.cell? ⟨b, 2, none⟩ = some (.int .i64 0) ∧ w'.cell? ⟨b, 9, none⟩ = some H ∧ w'.ownsRow 0 4 1 H sh.length (bools sh))
    (h2 : ∀ w' : World, Below w.heap.size w w' → Calls Tryz.prog 17 #[.string s] w' fun x w'' => (∃ g, x = .returned (.tuple #[.slice (some ⟨g, 0, none⟩) sh.length sh.length, .int .i64 0]) ∧ w'.heap.size ≤ g ∧ At w'' g 4 (bools sh)) ∧ Below w'.heap.size w' w'')
    (h3 : ∀ w' : World, Below w.heap.size w w' → Calls Tryz.prog 17 #[.string t] w' fun x w'' => (∃ g, x = .returned (.tuple #[.slice (some ⟨g, 0, none⟩) 2 2, .int .i64 0]) ∧ At w'' g 4 [.bool false, .bool true]) ∧ Below w'.heap.size w' w'') :
    Calls Tryz.prog 4 #[.string s] w fun x w' => x = .returned (.bool true) ∧ Below w.heap.size w w' := by
  subst ht
  have h4 := fun (w' : World) => num_s 0 w'
  go_enter Tryz.func4, Tryz.ntmps4
  go_wp2_with fail
  refine h1.mono ?_
  rintro x w1 ⟨b, H, rfl, B1, hbl, c2, c9, rH⟩
  have z1 := B1.size
  obtain ⟨aH, cH, rfl, HH⟩ : ∃ aH cH, H = .slice aH sh.length cH ∧ Hid (∀ m u, sh[m]? = some u → ∃ gH, aH = some ⟨gH, 0, none⟩ ∧ gH < w1.heap.size ∧ w1.cell? ⟨gH, m, none⟩ = some (.bool u)) := by
    rcases Joins.ownsRow_forms rH with ⟨rfl, h0⟩ | ⟨gH, cH, rfl⟩
    · refine ⟨none, 0, by rw [h0], fun m u hu => ?_⟩
      have := (List.getElem?_eq_some_iff.1 hu).1
      omega
    · obtain ⟨_, hHl, hHc⟩ := own_cells rH
      exact ⟨_, _, rfl, fun m u hu => ⟨gH, rfl, hHl, hHc m _ (by simp [bools, hu])⟩⟩
  clear rH
  go_wp2_with fail
  go_loopg [4, 5] 3 (fun gk fst kk wr => ∃ k : Nat, k + gk = 3 ∧ kk = .int .i64 (k : Int) ∧ Below w1.heap.size w1 wr ∧ (k = 0 ∨ ∃ lo hi h, fst = .slice (some ⟨h, 0, none⟩) 3 3 ∧ Three wr lo hi h true ∧ hi ≤ wr.heap.size))
  case atStart => exact ⟨0, rfl, rfl, Below.refl _ _, Or.inl rfl⟩
  case round =>
    obtain ⟨k, hk, rfl, B, hfst⟩ := hrel
    have zr := B.size
    cases gk with
    | zero =>
      have hz : ¬ ((k : Int) < 3) := by omega
      have BB := B1.trans (B.mono z1)
      have h3' := h3 wr BB
      go_wp2_with fail
      refine h3'.mono ?_
      rintro x w2 ⟨⟨g, rfl, aG⟩, hb2⟩
      have y0 : w2.cell? ⟨g, 0, none⟩ = some (.bool false) := aG.cell 0
      have y1 : w2.cell? ⟨g, 1, none⟩ = some (.bool true) := aG.cell 1
      go_wp2_with fail
      go_ret
      exact ⟨rfl, BB.trans (hb2.mono (Nat.le_trans z1 zr))⟩
    | succ g1 =>
      have hz : (k : Int) < 3 := by omega
      have h2' := h2 wr (B1.trans (B.mono z1))
      go_wp2_with fail
      refine h2'.mono ?_
      rintro x w2 ⟨⟨g, rfl, hgl, aG⟩, hb2⟩
      have B2 := B.trans (hb2.mono zr)
      have e2 : w2.cell? ⟨b, 2, none⟩ = some (.int .i64 0) := (B2.cell (p := ⟨b, 2, none⟩) hbl).trans c2
      have e9 := (B2.cell (p := ⟨b, 9, none⟩) hbl).trans c9
      have glt := aG.lt
      have z2 := hb2.size
      go_upto_region 7 with fail
      go_quiet (first | (go_at_call 16; refine Calls.quiet_of_same (h4 _)))
      go_wp2_with fail
      obtain ⟨wo, rfl⟩ : ∃ wo : World, wo = wr := ⟨_, rfl⟩
      go_loopg [8] sh.length (fun g2 ii wy => ∃ m : Nat, m + g2 = sh.length ∧ ii = .int .i64 (m : Int) ∧ Still w2 wy)
      case atStart => exact ⟨0, by omega, rfl, ⟨rfl, rfl, rfl, rfl⟩⟩
      case round =>
        obtain ⟨m, hm, rfl, SY⟩ := hrel
        cases gk with
        | succ g2 =>
          have hy : (m : Int) < (sh.length : Int) := by omega
          obtain ⟨u, hu⟩ : ∃ u, sh[m]? = some u := ⟨_, List.getElem?_eq_getElem (by omega)⟩
          obtain ⟨gH, rfl, hHl, hHc⟩ := HH.out m u hu
          have v1 : wr.cell? ⟨g, m, none⟩ = some (.bool u) := (SY.cell _).trans ((aG.cell m).trans (by simp [bools, hu]))
          have v9 := (SY.cell _).trans e9
          have vH : wr.cell? ⟨gH, m, none⟩ = some (.bool u) := (SY.cell _).trans ((B2.cell (p := ⟨gH, m, none⟩) hHl).trans hHc)
          go_upto_region 15 with fail
          go_quiet (fail)
          go_wp2_with fail
          go_roundg g2
          case measure => omega
          case rel => exact ⟨m + 1, by omega, by go_num, SY.drewN _⟩
        | zero =>
          have hy : ¬ ((m : Int) < (sh.length : Int)) := by omega
          have aG' : At wr g 4 (bools sh) := aG.of_block (by rw [SY.heap])
          have zy : wr.heap.size = w2.heap.size := by rw [SY.heap]
          have BY := B2.trans (SY.below _)
          by_cases hk0 : k = 0
          · subst hk0
            have hf := flags_c (lo := wo.heap.size) (L := sh.length) true (l := bools sh) (by simp [bools]) h54 aG' hgl
            go_wp2_with fail
            refine hf.mono ?_
            rintro x w4 ⟨h, rfl, T4, hb4⟩
            have B4 := BY.trans (but_below hb4 (show w1.heap.size ≤ g by omega) (show w1.heap.size ≤ wr.heap.size by omega))
            go_wp2_with fail
            go_roundg g1
            case measure => omega
            case rel => exact ⟨1, by omega, rfl, B4, Or.inr ⟨_, _, h, rfl, T4, Nat.le_refl _⟩⟩
          · have hk1 : ¬ ((k : Int) = 0) := by omega
            rcases hfst with rfl | ⟨lo, hi, h, rfl, T0, hhi⟩
            · exact absurd rfl hk0
            · have hf := flags_c (lo := wo.heap.size) (L := sh.length) false (l := bools sh) (by simp [bools]) h54 aG' hgl
              go_wp2_with fail
              refine hf.mono ?_
              rintro x w4 ⟨h', rfl, T4, hb4⟩
              have B4 := BY.trans (but_below hb4 (show w1.heap.size ≤ g by omega) (show w1.heap.size ≤ wr.heap.size by omega))
              have T0' : Three w4 lo hi h true := T0.keep fun q h1 h2 => (hb4.block q (by omega) (by omega)).trans ((by rw [SY.heap] : wr.heap[q]? = w2.heap[q]?).trans (hb2.block q (by omega)))
              have f1 := flagged_c T0'
              have f2 := flagged_c T4
              have z4 := hb4.size
              go_wp2_with fail
              refine f1.mono ?_
              rintro x w5 ⟨rfl, rfl⟩
              go_wp2_with fail
              refine f2.mono ?_
              rintro x w6 ⟨rfl, rfl⟩
              go_wp2_with fail
              go_roundg g1
              case measure => omega
              case rel => exact ⟨k + 1, by omega, by go_num, B4, Or.inr ⟨lo, hi, h, rfl, T0', by omega⟩⟩
end Go.Proofs.YtjgiefnjmngdkaaGreatDoor
namespace Go.Proofs.YtjgiefnjmngdkaaGreatDoor
open Go.RowKit

/-- What muteref.Read leaves, at whatever text: the error; where there is none, the shape. -/
theorem read_shape (s : ByteArray) (w : World) (hm : s.size ≤ maxLen) :
    Calls Tryz.prog 15 #[.string s] w fun x w' => ∃ b, x = .returned (P b) ∧ Below w.heap.size w w' ∧ b < w'.heap.size ∧ w'.cell? ⟨b, 2, none⟩ = some (.int .i64 (R.read s).err) ∧
      ((R.read s).err = 0 → ∃ H, w'.cell? ⟨b, 9, none⟩ = some H ∧ w'.ownsRow 0 4 1 H (R.read s).shape.length (bools (R.read s).shape)) := by
  by_cases hs : 800 < s.size
  · have e : R.read s = R.fail 1 0 R.start := by unfold R.read; rw [if_pos hs]
    rw [e]
    exact (read_long s w hs hm).mono fun x w' ⟨b, hx, ho, _, hc⟩ => ⟨b, hx, ho.below, hc.lt, hc.cell 2, fun h => absurd h (by decide)⟩
  · have e : R.read s = R.readT (R.toks s) := by unfold R.read; rw [if_neg hs]
    rw [e]
    exact (read_c s w (by omega)).mono fun x w' ⟨b, r, hx, h⟩ => ⟨b, hx, h.own.below, h.rep.cells.lt, h.rep.c1 2 _ rfl, fun _ => ⟨r.H, h.rep.c1 9 _ rfl, h.rep.shape⟩⟩

abbrev threeS : ByteArray := { data := #[40, 112, 117, 98, 108, 105, 99, 32, 97, 41, 40, 115, 101, 99, 114, 101, 116, 32, 98, 41] }
theorem three_err : (R.read threeS).err = 0 := by decide +kernel
theorem three_shape : (R.read threeS).shape = [false, true] := by decide +kernel

theorem three_c (w : World) (hv : K.Vars w) (hw : 5 ≤ w.heap.size) :
    Calls Tryz.prog 17 #[.string threeS] w fun x w' => (∃ g, x = .returned (.tuple #[.slice (some ⟨g, 0, none⟩) 2 2, .int .i64 0]) ∧ At w' g 4 [.bool false, .bool true]) ∧ Below w.heap.size w w' := by
  refine (shape_c threeS w (by decide) hv hw).mono fun x w' h => ⟨?_, h.2⟩
  rcases h.1 with ⟨h1, _⟩ | ⟨_, g, h1, _, h2⟩
  · exact absurd three_err h1
  · rw [three_shape] at h1 h2
    exact ⟨g, h1, h2⟩

theorem shapes_c (s : ByteArray) (w : World) (hm : s.size ≤ maxLen) (hv : K.Vars w) (hw : 5 ≤ w.heap.size) :
    Calls Tryz.prog 4 #[.string s] w fun x w' => x = .returned (.bool true) ∧ Below w.heap.size w w' := by
  have h1 := read_shape s w hm
  have h2 := fun (w' : World) (hb : Below w.heap.size w w') => shape_c s w' hm (hv.below hb hw) (Nat.le_trans hw hb.size)
  have h3 := fun (w' : World) (hb : Below w.heap.size w w') => three_c w' (hv.below hb hw) (Nat.le_trans hw hb.size)
  by_cases he : (R.read s).err = 0
  · have hs : s.size ≤ 800 := by
      refine Nat.le_of_not_lt fun hl => ?_
      rw [read_long_err hl] at he
      exact absurd he (by decide)
    obtain ⟨_, _, _, _, p5, _⟩ := Q.shape_ok hs he
    refine shapes_good p5 rfl (h1.mono fun x w' ⟨b, hx, hb, hl, c2, hH⟩ => ?_) (fun w' hb => (h2 w' hb).mono fun x w'' h => ⟨?_, h.2⟩) h3
    · obtain ⟨H, c9, rH⟩ := hH he
      exact ⟨b, H, hx, hb, hl, by rw [c2, he], c9, rH⟩
    · rcases h.1 with ⟨e, _⟩ | ⟨_, g, e1, e2, e3⟩
      · exact absurd he e
      · exact ⟨g, e1, e2, e3⟩
  · refine shapes_bad he rfl (h1.mono fun x w' ⟨b, hx, hb, hl, c2, _⟩ => ⟨b, hx, hb, hl, c2⟩) (fun w' hb => (h2 w' hb).mono fun x w'' h => ⟨?_, h.2⟩) h3
    rcases h.1 with ⟨_, e⟩ | ⟨e, _⟩
    · exact e
    · exact absurd e he
end Go.Proofs.YtjgiefnjmngdkaaGreatDoor
