import Derived.Test.YtejbgcloblpbfaaGreatDoorB55
import Derived.Test.YtejbgcloblpbfaaGreatDoorB04
import Derived.Deep.DeepCutAuto
namespace Go.Proofs.YtejbgcloblpbfaaGreatDoor
open Go.RowKit
open R (Tok Thing Nd PS)
theorem tok_row {w : World} {v : Value} {l : List Tok} {t : Tok} (h : w.ownsRow 0 90 2 v (l.length + 1) (l.flatMap tokCells ++ [.string t.s, .int .i64 t.p])) : w.ownsRow 0 90 2 v (l ++ [t]).length ((l ++ [t]).flatMap tokCells) := by
  simpa [tokCells] using h
structure Own (w0 w : World) : Prop where
  os : w.os = w0.os
  tape : w.tape = w0.tape
  output : w.output = w0.output
  size : w0.heap.size ≤ w.heap.size
  block : ∀ k, k < w0.heap.size → w.heap[k]? = w0.heap[k]?
theorem Own.refl (w : World) : Own w w := ⟨rfl, rfl, rfl, Nat.le_refl _, fun _ _ => rfl⟩
theorem Own.grew {w0 w w' : World} {v v' : Value} (h : Own w0 w) (g : Grew w w' v v') (lo : ∀ k, v.ownBlock = some k → w0.heap.size ≤ k) : Own w0 w' :=
  ⟨g.os.trans h.os, g.tape.trans h.tape, g.output.trans h.output, Nat.le_trans h.size g.size, fun k hk => (g.block k (Nat.lt_of_lt_of_le hk h.size) (fun e => by have := lo k e; omega)).trans (h.block k hk)⟩
structure Cut (w0 w : World) (out : Value) (l : List Tok) : Prop where
  row : w.ownsRow 0 90 2 out l.length (l.flatMap tokCells)
  own : Own w0 w
  lo : ∀ j, out.ownBlock = some j → w0.heap.size ≤ j
theorem Cut.grew {w0 w w' : World} {out out' : Value} {l : List Tok} (h : Cut w0 w out l) (t : Tok) (g : Grew w w' out out') (row : w'.ownsRow 0 90 2 out' (l.length + 1) (l.flatMap tokCells ++ [.string t.s, .int .i64 t.p])) : Cut w0 w' out' (l ++ [t]) :=
  ⟨tok_row row, h.own.grew g h.lo, fun j hj => (g.own j hj).elim (h.lo j) (fun e => Nat.le_trans h.own.size e)⟩
theorem stop_end {s : ByteArray} {i : Nat} (h : i = s.size) : R.isStop s i = true := by unfold R.isStop; rw [h]; simp
theorem stop_byte {s : ByteArray} {i : Nat} (h : i < s.size) : R.isStop s i = (s[i] == 32 || s[i] == 10 || s[i] == 40 || s[i] == 41) := by
  unfold R.isStop; rw [R.byte_get s i h, show (i == s.size) = false from beq_no (by omega)]; rfl
theorem br_byte {s : ByteArray} {i : Nat} (h : i < s.size) : R.isBr s i = (s[i] == 40 || s[i] == 41) := by
  unfold R.isBr; rw [R.byte_get s i h, decide_eq_true h]; rfl
theorem br_end {s : ByteArray} {i : Nat} (h : ¬ i < s.size) : R.isBr s i = false := by
  unfold R.isBr; rw [decide_eq_false h]; rfl
theorem u8_beq (a : UInt8) (n : Nat) (hn : n < 256) : ((a.toNat : Int) == (n : Int)) = (a == UInt8.ofNat n) := by
  rw [Bool.eq_iff_iff, beq_iff_eq, beq_iff_eq]
  constructor
  · intro h
    apply UInt8.toNat_inj.1
    rw [UInt8.toNat_ofNat']
    omega
  · rintro rfl
    rw [UInt8.toNat_ofNat']
    omega
set_option maxRecDepth 100000 in
set_option maxHeartbeats 4000000 in
theorem cut_c (s : ByteArray) (w : World) (hs : s.size ≤ 1000) :
    Calls Tryz.prog 42 #[.string s] w fun x w' => ∃ v, x = .returned v ∧ Cut w w' v (R.toks s) := by
  obtain ⟨i0, hi, hz0, hz1, hz2⟩ := info_parts info_word
  go_enter Tryz.func42, Tryz.ntmps42
  go_wp2_with fail
  go_loopg [3, 4, 5, 6] (s.size + 2) (fun gk out fr ii _ wr => ∃ i : Nat, i ≤ s.size + 1 ∧ gk + i = s.size + 2 ∧ ii = .int .i64 (i : Int) ∧ fr = .int .i64 (R.cutTo s i).f ∧ Cut w wr out (R.cutTo s i).out)
  case atStart => exact ⟨0, by omega, by omega, rfl, rfl, World.ownsRow_nil w 0 _ 2, Own.refl w, fun j hj => by simp [Value.ownBlock] at hj⟩
  case round =>
    obtain ⟨i, hi1, hgk, rfl, rfl, C0⟩ := hrel
    have bd := R.cutTo_bd s i
    have HC : Hid (R.cutTo s (i + 1) = R.cut3 s i (R.cut2 s i (R.cut1 s i (R.cutTo s i)))) := rfl
    have HF : Hid (R.toks s = (R.cutTo s (s.size + 1)).out ++ [⟨⟨#[]⟩, s.size⟩]) := rfl
    generalize hc : R.cutTo s i = c at *
    have HCC := hide hc
    clear hc
    obtain ⟨cf, co⟩ := c
    dsimp only at *
    obtain ⟨b1, b2, b3⟩ := bd
    by_cases hle : i ≤ s.size
    · go_upto_region 6 with fail
      obtain ⟨st0, HST⟩ : ∃ st0, Hid (R.isStop s i = st0) := ⟨_, rfl⟩
      go_cut [6] (fun st wx => st = .bool st0 ∧ Cut w wx u3 co)
      case first =>
        as_aux_lemma =>
        by_cases hlt : i < s.size
        · have HSB : Hid ((s[i] == 32 || s[i] == 10 || s[i] == 40 || s[i] == 41) = st0) := by rw [← stop_byte hlt]; exact HST.out
          have q1 := u8_beq s[i] 32 (by omega)
          have q2 := u8_beq s[i] 10 (by omega)
          have q3 := u8_beq s[i] 40 (by omega)
          have q4 := u8_beq s[i] 41 (by omega)
          have qn : ((i : Int) == (s.size : Int)) = false := beq_no (by omega)
          cases e1 : (s[i] == 32) with
          | true =>
            have e1' : ((s[i].toNat : Int) == 32) = true := q1.trans e1
            have hst : true = st0 := by rw [← HSB.out, e1]; rfl
            subst hst
            clear q1 q2 q3 q4 e1 HSB HST
            go_wp2_with fail
            go_meet
            case rel => exact ⟨rfl, C0⟩
          | false =>
            have e1' : ((s[i].toNat : Int) == 32) = false := q1.trans e1
            cases e2 : (s[i] == 10) with
            | true =>
              have e2' : ((s[i].toNat : Int) == 10) = true := q2.trans e2
              have hst : true = st0 := by rw [← HSB.out, e1, e2]; rfl
              subst hst
              clear q1 q2 q3 q4 e1 e2 HSB HST
              go_wp2_with fail
              go_meet
              case rel => exact ⟨rfl, C0⟩
            | false =>
              have e2' : ((s[i].toNat : Int) == 10) = false := q2.trans e2
              cases e3 : (s[i] == 40) with
              | true =>
                have e3' : ((s[i].toNat : Int) == 40) = true := q3.trans e3
                have hst : true = st0 := by rw [← HSB.out, e1, e2, e3]; rfl
                subst hst
                clear q1 q2 q3 q4 e1 e2 e3 HSB HST
                go_wp2_with fail
                go_meet
                case rel => exact ⟨rfl, C0⟩
              | false =>
                have e3' : ((s[i].toNat : Int) == 40) = false := q3.trans e3
                have e4' : ((s[i].toNat : Int) == 41) = (s[i] == 41) := q4
                have hst : (s[i] == 41) = st0 := by rw [← HSB.out, e1, e2, e3]; rfl
                rw [hst] at e4'
                clear q1 q2 q3 q4 e1 e2 e3 HSB HST hst
                go_wp2_with fail
                go_meet
                case rel => exact ⟨rfl, C0⟩
        · have he : i = s.size := by omega
          have qn : ((i : Int) == (s.size : Int)) = true := beq_yes (by omega)
          have hst : true = st0 := by rw [← HST.out, stop_end he]
          subst hst
          clear he HST
          go_wp2_with fail
          go_meet
          case rel => exact ⟨rfl, C0⟩
      case rest =>
        as_aux_lemma =>
        obtain ⟨rfl, C1⟩ := hcut
        clear C0
        obtain ⟨c1, HC1⟩ : ∃ c1, Hid (R.cut1 s i ⟨cf, co⟩ = c1) := ⟨_, rfl⟩
        have bd1 := R.cut1_bd (s := s) (i := i) (c := ⟨cf, co⟩) ⟨b1, b2⟩
        rw [HC1.out] at bd1 HC
        obtain ⟨f1, l1⟩ := c1
        dsimp only at bd1
        obtain ⟨d1, d2, d3⟩ := bd1
        go_upto_region 7 with fail
        go_cut [45] (fun q wx => q = .bool (st0 && decide (0 ≤ cf)) ∧ Cut w wx u3 co)
        case first =>
          as_aux_lemma =>
          cases st0 with
          | true =>
            go_wp2_with fail
            go_meet
            case rel => exact ⟨rfl, C1⟩
          | false =>
            go_wp2_with fail
            go_meet
            case rel => exact ⟨rfl, C1⟩
        case rest =>
          obtain ⟨rfl, C2⟩ := hcut
          clear C1
          go_upto_if 45 with fail
          go_cut [3, 4, 45] (fun out fr _ wx => fr = .int .i64 f1 ∧ Cut w wx out l1)
          case first =>
            as_aux_lemma =>
            by_cases hc : st0 = true ∧ 0 ≤ cf
            · obtain ⟨rfl, hcf⟩ := hc
              have e := HC1.out
              unfold R.cut1 at e
              rw [if_pos ⟨HST.out, hcf⟩] at e
              simp only [R.CS.mk.injEq] at e
              obtain ⟨rfl, rfl⟩ := e
              have hd : decide (0 ≤ cf) = true := decide_eq_true hcf
              rw [hd]
              obtain ⟨n, rfl⟩ := Int.eq_ofNat_of_zero_le hcf
              have hn1 : n ≤ i := by omega
              clear hcf hd HC1 HST HC
              go_wp2_with (at_builtin; refine wpList_append_row1 _ rfl _ _ 29 rfl 90 i0 _ 2 24 Tryz.underlying29 hi hz0 hz1 hz2 rfl (by decide) _ co.length (co.flatMap tokCells) rfl (by exact World.ownsRow.alloc C2.row _) ⟨wc.heap.size, 0, none⟩ 1 1 [.string (s.extract n i), .int .i64 (n : Int)] rfl rfl (by exact row_new wc [.string (s.extract n i), .int .i64 (n : Int)] _) (by intro u hu; simp only [List.mem_cons, List.not_mem_nil, or_false] at hu; rcases hu with rfl | rfl <;> rfl) (few_le (by omega)) (by omega) Nat.one_pos ?_; intro g cap w7 hv hg hk; have C3 := C2.grew ⟨(s.extract n i), (n : Int)⟩ (Grew.of ((More.refl wc).alloc _) hg hk) hv; clear hv hg hk)
              go_meet
              case rel => exact ⟨rfl, C3⟩
            · have hd : (st0 && decide (0 ≤ cf)) = false := by
                rw [Bool.eq_false_iff]
                intro h
                rw [Bool.and_eq_true, decide_eq_true_iff] at h
                exact hc h
              have e := HC1.out
              unfold R.cut1 at e
              rw [if_neg (by rw [HST.out]; exact hc)] at e
              simp only [R.CS.mk.injEq] at e
              obtain ⟨rfl, rfl⟩ := e
              rw [hd]
              go_wp2_with fail
              go_meet
              case rel => exact ⟨rfl, C2⟩
          case rest =>
            obtain ⟨rfl, C3⟩ := hcut
            clear C2
            obtain ⟨c2, HC2⟩ : ∃ c2, Hid (R.cut2 s i ⟨f1, l1⟩ = c2) := ⟨_, rfl⟩
            have bd2 := R.cut2_bd (s := s) (i := i) (c := ⟨f1, l1⟩) ⟨d1, d2⟩
            rw [HC2.out] at bd2 HC
            obtain ⟨f2, l2⟩ := c2
            dsimp only at bd2
            obtain ⟨e1, e2, rfl⟩ := bd2
            go_upto_region 10 with fail
            go_cut [60] (fun q wx => q = .bool (!st0 && decide (f1 < 0)) ∧ Cut w wx u3 l2)
            case first =>
              as_aux_lemma =>
              cases st0 with
              | true =>
                go_wp2_with fail
                go_meet
                case rel => exact ⟨rfl, C3⟩
              | false =>
                go_wp2_with fail
                go_meet
                case rel => exact ⟨rfl, C3⟩
            case rest =>
              obtain ⟨rfl, C4⟩ := hcut
              clear C3
              go_upto_if 60 with fail
              go_cut [4, 60] (fun fr _ wx => fr = .int .i64 f2 ∧ Cut w wx u3 l2)
              case first =>
                as_aux_lemma =>
                by_cases hc : st0 = false ∧ f1 < 0
                · obtain ⟨rfl, hcf⟩ := hc
                  have e := HC2.out
                  unfold R.cut2 at e
                  rw [if_pos ⟨HST.out, hcf⟩] at e
                  simp only [R.CS.mk.injEq] at e
                  obtain ⟨rfl, _⟩ := e
                  have hd : decide (f1 < 0) = true := decide_eq_true hcf
                  rw [hd]
                  clear hd
                  go_wp2_with fail
                  go_meet
                  case rel => exact ⟨rfl, C4⟩
                · have hd : (!st0 && decide (f1 < 0)) = false := by
                    rw [Bool.eq_false_iff]
                    intro h
                    rw [Bool.and_eq_true, decide_eq_true_iff, Bool.not_eq_true'] at h
                    exact hc h
                  have e := HC2.out
                  unfold R.cut2 at e
                  rw [if_neg (by rw [HST.out]; exact hc)] at e
                  simp only [R.CS.mk.injEq] at e
                  obtain ⟨rfl, _⟩ := e
                  rw [hd]
                  go_wp2_with fail
                  go_meet
                  case rel => exact ⟨rfl, C4⟩
              case rest =>
                obtain ⟨rfl, C5⟩ := hcut
                clear C4
                obtain ⟨c3, HC3⟩ : ∃ c3, Hid (R.cut3 s i ⟨f2, l2⟩ = c3) := ⟨_, rfl⟩
                have bd3 := R.cut3_bd (s := s) (i := i) (c := ⟨f2, l2⟩) ⟨e1, e2⟩
                rw [HC3.out] at bd3 HC
                obtain ⟨f3, l3⟩ := c3
                dsimp only at bd3
                have hf3 : f2 = f3 := by
                  have e := congrArg R.CS.f HC3.out
                  unfold R.cut3 at e
                  split at e <;> exact e
                subst hf3
                obtain ⟨br, HBR⟩ : ∃ br, Hid (R.isBr s i = br) := ⟨_, rfl⟩
                go_upto_region 12 with fail
                go_cut [77] (fun q wx => q = .bool br ∧ Cut w wx u3 l2)
                case first =>
                  as_aux_lemma =>
                  by_cases hlt : i < s.size
                  · have HSB : Hid ((s[i] == 40 || s[i] == 41) = br) := by rw [← br_byte hlt]; exact HBR.out
                    have q3 := u8_beq s[i] 40 (by omega)
                    have q4 := u8_beq s[i] 41 (by omega)
                    cases e3 : (s[i] == 40) with
                    | true =>
                      have e3' : ((s[i].toNat : Int) == 40) = true := q3.trans e3
                      have hst : true = br := by rw [← HSB.out, e3]; rfl
                      subst hst
                      clear q3 q4 e3 HSB HBR
                      go_wp2_with fail
                      go_meet
                      case rel => exact ⟨rfl, C5⟩
                    | false =>
                      have e3' : ((s[i].toNat : Int) == 40) = false := q3.trans e3
                      have e4' : ((s[i].toNat : Int) == 41) = (s[i] == 41) := q4
                      have hst : (s[i] == 41) = br := by rw [← HSB.out, e3]; rfl
                      rw [hst] at e4'
                      clear q3 q4 e3 HSB HBR hst
                      go_wp2_with fail
                      go_meet
                      case rel => exact ⟨rfl, C5⟩
                  · have hst : false = br := by rw [← HBR.out, br_end hlt]
                    subst hst
                    clear HBR
                    go_wp2_with fail
                    go_meet
                    case rel => exact ⟨rfl, C5⟩
                case rest =>
                  obtain ⟨rfl, C6⟩ := hcut
                  clear C5
                  cases br with
                  | true =>
                    as_aux_lemma =>
                    have e := congrArg R.CS.out HC3.out
                    unfold R.cut3 at e
                    rw [if_pos HBR.out] at e
                    have e' : l2 ++ [⟨s.extract i (i + 1), (i : Int)⟩] = l3 := e
                    subst e'
                    have hlt : i < s.size := by
                      have := HBR.out
                      by_cases hlt : i < s.size
                      · exact hlt
                      · rw [br_end hlt] at this; exact absurd this (by decide)
                    clear e HC3 HBR
                    go_wp2_with (at_builtin; refine wpList_append_row1 _ rfl _ _ 29 rfl 90 i0 _ 2 24 Tryz.underlying29 hi hz0 hz1 hz2 rfl (by decide) _ l2.length (l2.flatMap tokCells) rfl (by exact World.ownsRow.alloc C6.row _) ⟨wc.heap.size, 0, none⟩ 1 1 [.string (s.extract i (i + 1)), .int .i64 (i : Int)] rfl rfl (by exact row_new wc [.string (s.extract i (i + 1)), .int .i64 (i : Int)] _) (by intro u hu; simp only [List.mem_cons, List.not_mem_nil, or_false] at hu; rcases hu with rfl | rfl <;> rfl) (few_le (by omega)) (by omega) Nat.one_pos ?_; intro g cap w7 hv hg hk; have C7 := C6.grew ⟨(s.extract i (i + 1)), (i : Int)⟩ (Grew.of ((More.refl wc).alloc _) hg hk) hv; clear hv hg hk)
                    go_roundg (gk - 1)
                    case measure => omega
                    case rel => exact ⟨i + 1, by omega, by omega, by go_num, by rw [HC.out], by rw [HC.out]; exact C7⟩
                  | false =>
                    as_aux_lemma =>
                    have e := congrArg R.CS.out HC3.out
                    unfold R.cut3 at e
                    rw [if_neg (by rw [HBR.out]; decide)] at e
                    have e' : l2 = l3 := e
                    subst e'
                    go_wp2_with fail
                    go_roundg (gk - 1)
                    case measure => omega
                    case rel => exact ⟨i + 1, by omega, by omega, by go_num, by rw [HC.out], by rw [HC.out]; exact C6⟩
    · have hie : i = s.size + 1 := by omega
      subst hie
      have hb3 : co.length ≤ 2 * (s.size + 1) := b3
      have HT : Hid (R.toks s = co ++ [⟨⟨#[]⟩, s.size⟩]) := by
        show R.toks s = _
        rw [HF.out, HCC.out]
      go_wp2_with (at_builtin; refine wpList_append_row1 _ rfl _ _ 29 rfl 90 i0 _ 2 24 Tryz.underlying29 hi hz0 hz1 hz2 rfl (by decide) _ co.length (co.flatMap tokCells) rfl (by exact World.ownsRow.alloc C0.row _) ⟨wr.heap.size, 0, none⟩ 1 1 [.string ⟨#[]⟩, .int .i64 (s.size : Int)] rfl rfl (by exact row_new wr [.string ⟨#[]⟩, .int .i64 (s.size : Int)] _) (by intro u hu; simp only [List.mem_cons, List.not_mem_nil, or_false] at hu; rcases hu with rfl | rfl <;> rfl) (few_le (by omega)) (by omega) Nat.one_pos ?_; intro g cap w7 hv hg hk; have C9 := C0.grew ⟨⟨#[]⟩, (s.size : Int)⟩ (Grew.of ((More.refl wr).alloc _) hg hk) hv; clear hv hg hk)
      go_ret
      exact ⟨_, rfl, by rw [HT.out]; exact C9⟩
end Go.Proofs.YtejbgcloblpbfaaGreatDoor
