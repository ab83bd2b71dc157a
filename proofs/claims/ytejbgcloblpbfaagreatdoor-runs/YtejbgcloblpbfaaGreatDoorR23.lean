import Derived.Test.YtejbgcloblpbfaaGreatDoorR19
import Derived.Test.YtejbgcloblpbfaaGreatDoorR21
import Derived.Deep.RegionHeld
namespace Go.Proofs.YtejbgcloblpbfaaGreatDoor
open Go.RowKit
open K (Nm Ex Do)
def V.rounds (f : List Int → List Int) (k : Nat) : Nat → Nat → List Int → List Int
  | _, 0, W => W
  | i, m + 1, W => V.rounds f k (i + 1) m (f (W.set k (i : Int)))
def V.times (v : Int) : Nat := if v < 0 then 0 else if 5 < v then 5 else v.toNat
mutual
def V.rd : Do → List Int → List Int
  | .set _ n e, W => W.set n.place.toNat (V.ev W e)
  | .put _ n i e, W => W.set (n.place + V.md (V.ev W i) n.size).toNat (V.ev W e)
  | .ifs _ q y n, W => if V.ev W q = 0 then V.rds n W else V.rds y W
  | .fors _ n r l, W => V.rounds (fun W => V.rds l W) n.place.toNat 0 (V.times (V.ev W r)) W
  | .none, W => W
def V.rds : List Do → List Int → List Int
  | [], W => W
  | d :: l, W => V.rds l (V.rd d W)
end
mutual
def V.wfD (N : Nat) : Do → Prop
  | .set _ n e => 0 ≤ n.place ∧ n.place < N ∧ V.wfE N e
  | .put _ n i e => 0 ≤ n.place ∧ 1 ≤ n.size ∧ n.size ≤ 6 ∧ n.place + n.size ≤ N ∧ V.wfE N i ∧ V.wfE N e
  | .ifs _ q y n => V.wfE N q ∧ V.wfL N y ∧ V.wfL N n
  | .fors _ n r l => 0 ≤ n.place ∧ n.place < N ∧ V.wfE N r ∧ V.wfL N l
  | .none => False
def V.wfL (N : Nat) : List Do → Prop
  | [] => True
  | d :: l => V.wfD N d ∧ V.wfL N l
end
theorem V.rounds_len {f : List Int → List Int} (hf : ∀ W, (f W).length = W.length) (k : Nat) : ∀ (m i : Nat) (W : List Int), (V.rounds f k i m W).length = W.length
  | 0, _, _ => rfl
  | m + 1, i, W => by rw [V.rounds, V.rounds_len hf k m, hf, List.length_set]
mutual
theorem V.rd_len : ∀ (d : Do) (W : List Int), (V.rd d W).length = W.length
  | .set .., W => by rw [V.rd, List.length_set]
  | .put .., W => by rw [V.rd, List.length_set]
  | .ifs _ q y n, W => by
    rw [V.rd]
    split
    · exact V.rds_len n W
    · exact V.rds_len y W
  | .fors _ n r l, W => by rw [V.rd]; exact V.rounds_len (fun W => V.rds_len l W) _ _ _ _
  | .none, W => by rw [V.rd]
theorem V.rds_len : ∀ (l : List Do) (W : List Int), (V.rds l W).length = W.length
  | [], W => by rw [V.rds]
  | d :: l, W => by rw [V.rds, V.rds_len l, V.rd_len d]
end
theorem RAt.set {w : World} {b g : Nat} {tb : Array Value} {W : List Int} (h : RAt w b g tb W) (hne : b ≠ g) (k : Nat) (v : Int) : RAt (w.setCell ⟨g, k, none⟩ (.int .i64 v)) b g tb (W.set k v) := by
  refine ⟨?_, ?_, h.tab, by rw [List.length_set]; exact h.few⟩
  · rw [List.length_set]; exact h.cells.set_other (a := ⟨g, k, none⟩) hne _
  · rw [List.map_set]; exact h.words.set k _
theorem RAt.ne {w : World} {b g : Nat} {tb : Array Value} {W : List Int} (h : RAt w b g tb W) : b ≠ g := by
  rintro rfl
  have h1 := h.cells
  have h2 := h.words
  unfold At at h1 h2
  rw [h1] at h2
  simp at h2
theorem below_but {w w' : World} {g : Nat} (h : Below w.heap.size w w') : But g w w' := ⟨h.os, h.tape, h.output, h.size, fun k hk _ => h.block k hk⟩
def RdDoes (d : Do) : Prop := ∀ (B : Nat → Prop) (w : World) (b g : Nat) (tb : Array Value) (W : List Int) (u : Value), RAt w b g tb W → DoIs B w d u → V.wfD W.length d → (∀ k, B k → k ≠ g) →
  Calls Tryz.prog 90 #[PT b, u] w fun x w' => x = .returned (.tuple #[]) ∧ RAt w' b g tb (V.rd d W) ∧ But g w w'
def RdsDoes (l : List Do) : Prop := ∀ (B : Nat → Prop) (w : World) (b g : Nat) (tb : Array Value) (W : List Int) (lv : Value) (us : List Value), RAt w b g tb W → DRow B w lv us → Each B w l us → V.wfL W.length l → (∀ k, B k → k ≠ g) →
  Calls Tryz.prog 64 #[PT b, lv] w fun x w' => x = .returned (.tuple #[]) ∧ RAt w' b g tb (V.rds l W) ∧ But g w w'
set_option maxRecDepth 100000 in
set_option maxHeartbeats 4000000 in
theorem rd_set (p : Int) (n : Nm) (e : Ex) (he : EvDoes e) : RdDoes (.set p n e) := by
  intro B w b g tb W u h hd hw _
  unfold DoIs at hd
  subst hd
  unfold V.wfD at hw
  obtain ⟨w0, w1, we⟩ := hw
  have a1 := ad_Set_Set
  obtain ⟨k, hk⟩ := Int.eq_ofNat_of_zero_le w0
  have hkl : k < W.length := by omega
  have hz : (k : Int) < (W.length : Int) := by omega
  have few := h.few
  have hne := h.ne
  have HV : Hid (V.rd (.set p n e) W = W.set k (V.ev W e)) := by show _ = _; rw [V.rd, hk]; rfl
  rw [HV.out]
  clear HV w0 w1
  have hx := fun (w : World) (h' : RAt w b g tb W) => he w b g tb W h' we
  rw [exV_good (V.wf_good we)] at hx ⊢
  have hcw := fun (w : World) (h' : RAt w b g tb W) => h'.word hkl
  generalize V.ev W e = v at *
  generalize W.getD k 0 = q at *
  generalize exT e = t at *
  generalize exP e = x at *
  obtain ⟨x0, x1, x2, x3, x4⟩ := n
  dsimp only at *
  subst hk
  have B0 : Below w.heap.size w (w.alloc (.cells #[.int .i64 p, .string x0, .int .i64 x1, .bool x2, .int .i64 x3, .int .i64 (k : Int), .iface t x] 178 (0, 0))) := (Below.refl _ _).alloc (Nat.le_refl _) _
  have Bd : Below w.heap.size w (w.alloc (.cells #[.int .i64 p, .string x0, .int .i64 x1, .bool x2, .int .i64 x3, .int .i64 (k : Int), .iface t x] 178 (0, 0))).drew := ⟨B0.os, B0.tape, B0.output, B0.size, B0.block⟩
  have rd : RAt (w.alloc (.cells #[.int .i64 p, .string x0, .int .i64 x1, .bool x2, .int .i64 x3, .int .i64 (k : Int), .iface t x] 178 (0, 0))).drew b g tb W := (h.below B0).keep rfl rfl
  have bx := At.alloc_new w [.int .i64 p, .string x0, .int .i64 x1, .bool x2, .int .i64 x3, .int .i64 (k : Int), .iface t x] 178
  have c0 := (h.below B0).cells.cell 0
  simp only [List.getElem?_cons_zero] at c0
  have lb := h.cells.lt
  go_enter Tryz.func90, Tryz.ntmps90
  go_upto_region 3 with fail
  go_region_with (go_at_call 112; refine (hx _ rd).mono ?_; rintro z w1 ⟨rfl, hb1⟩; have r1 := rd.below hb1; have c1 := r1.cells.cell 0; simp only [List.getElem?_cons_zero] at c1; have cw := hcw _ r1; have fw := r1.words.frozen k; have bx1 : At w1 w.heap.size 178 [.int .i64 p, .string x0, .int .i64 x1, .bool x2, .int .i64 x3, .int .i64 (k : Int), .iface t x] := bx.of_block (hb1.block _ bx.lt); have k5 := bx1.cell 5; simp only [List.getElem?_cons_zero, List.getElem?_cons_succ] at k5)
  all_goals
    go_wp2_with fail
    go_end0
    exact ⟨rfl, r1.set hne k v, (below_but (Bd.trans (hb1.mono Bd.size))).set k _⟩
end Go.Proofs.YtejbgcloblpbfaaGreatDoor
namespace Go.Proofs.YtejbgcloblpbfaaGreatDoor
open Go.RowKit
open R (Tok Thing Nd PS)
theorem dw_set {T : List Tok} {does : PS → PS × List Int} {p : Int} {s : ByteArray} {q : Int} {σ : PS} (h : s.toList = R.kSet) : R.doWord T does p ⟨s, q⟩ σ = R.doSet T p σ := by
  unfold R.doWord; rw [if_pos h]
set_option maxRecDepth 100000 in
set_option maxHeartbeats 4000000 in
theorem do_set {T : List Tok} (hT : R.Small T) (hEnd : R.Ended T) (f : Nat) (w : World) (b : Nat) (σ : PS) (r : RV) (h : Rep w b T σ r) (hb : BdD T (f + 1) σ) (hO : (R.opens T σ).err = 0) (hwd : (R.tk T (R.opens T σ).i).s.toList = R.kSet) :
    Calls Tryz.prog 62 #[P b] w fun x w' => x = .returned (.int .i64 (R.lastN (R.doIn T (R.does T f) (R.tk T σ.i).p (R.opens T σ)))) ∧ ∃ r', Rep w' b T (R.doIn T (R.does T f) (R.tk T σ.i).p (R.opens T σ)) r' ∧ Moves b w w' := by
  have hoc := open_c h (by have := hb.n0; omega) (by have := hb.n1; omega)
  have hO' := beq_yes hO
  have FA := hide (do_facts hb hO h.lt)
  obtain ⟨tp, HTP⟩ : ∃ tp, Hid ((R.tk T σ.i).p = tp) := ⟨_, rfl⟩
  rw [HTP.out] at hoc ⊢
  generalize R.opens T σ = σ1 at *
  have HO := hide hO
  clear hO HTP hb
  obtain ⟨t1, HT1⟩ : ∃ t1, Hid (R.tk T σ1.i = t1) := ⟨_, rfl⟩
  rw [HT1.out] at hwd
  obtain ⟨s1, p1⟩ := t1
  dsimp only at *
  have ekSet : (s1.toList == [115, 101, 116]) = true := by rw [hwd]; decide
  have ekPut : (s1.toList == [112, 117, 116]) = false := by rw [hwd]; decide
  have ekIf : (s1.toList == [105, 102]) = false := by rw [hwd]; decide
  have ekFor : (s1.toList == [102, 111, 114]) = false := by rw [hwd]; decide
  have HWD := hide hwd
  clear hwd
  obtain ⟨i0, hi, hz0, hz1, hz2⟩ := info_parts info_int
  go_enter Tryz.func62, Tryz.ntmps62
  go_wp2_with fail
  refine hoc.mono ?_
  rintro x w2 ⟨rfl, hr2, hm2⟩
  have q2 := hr2.c1 2 _ rfl
  go_wp2_with fail
  have htk := take_c hr2
  rw [HT1.out] at htk
  refine htk.mono ?_
  rintro x w3 ⟨rfl, hr3, hm3⟩
  clear q2 htk
  go_upto_region 6 with fail
  have S4 : St w ((w3.alloc (.cells #[.string s1, .int .i64 p1] 90)).alloc (.cells #[.string s1, .int .i64 0, .string ⟨#[]⟩, .int .i64 0, .bool false, .int .i64 0, .int .i64 0, .slice none 0 0, .slice none 0 0, .bool false] 145)) b T (R.take T σ1) r w3.heap.size (w3.heap.size + 1) [.string s1, .int .i64 p1] [.string s1, .int .i64 0, .string ⟨#[]⟩, .int .i64 0, .bool false, .int .i64 0, .int .i64 0, .slice none 0 0, .slice none 0 0, .bool false] (.slice none 0 0) [] := by
    have B5 := (hr3.alloc (.cells #[.string s1, .int .i64 p1] 90)).box [.string s1, .int .i64 0, .string ⟨#[]⟩, .int .i64 0, .bool false, .int .i64 0, .int .i64 0, .slice none 0 0, .slice none 0 0, .bool false] 145
    have sz : (w3.alloc (.cells #[.string s1, .int .i64 p1] 90)).heap.size = w3.heap.size + 1 := by simp
    rw [sz] at B5
    have R4 := (hr3.alloc (.cells #[.string s1, .int .i64 p1] 90)).alloc (.cells #[.string s1, .int .i64 0, .string ⟨#[]⟩, .int .i64 0, .bool false, .int .i64 0, .int .i64 0, .slice none 0 0, .slice none 0 0, .bool false] 145)
    exact ⟨R4, ((hm2.trans hm3).alloc _).alloc _, (hr3.box [.string s1, .int .i64 p1] 90).alloc _, B5, ⟨ints_nil _, fun k hk => by simp [Value.ownBlock] at hk, R4.tight⟩, fun k hk => by simp [Value.ownBlock] at hk, by have := hm2.size; have := hm3.size; omega, by omega⟩
  clear hm2 hm3 hr3 hr2 hoc
  generalize (w3.alloc (.cells #[.string s1, .int .i64 p1] 90)).alloc (.cells #[.string s1, .int .i64 0, .string ⟨#[]⟩, .int .i64 0, .bool false, .int .i64 0, .int .i64 0, .slice none 0 0, .slice none 0 0, .bool false] 145) = W4 at *
  generalize w3.heap.size + 1 = k5 at *
  generalize w3.heap.size = k4 at *
  have hne := S4.ne
  have u0 := S4.d4 0 _ rfl
  have u1 := S4.d4 1 _ rfl
  generalize hs2 : R.take T σ1 = σ2 at *
  have HS2 := hide hs2
  clear hs2
  have HDW := hide (dw_set (T := T) (does := R.does T f) (p := tp) (q := p1) (σ := σ2) HWD.out)
  have DOK := R.doWord_ok hEnd (does := R.does T f) (fun σ h => R.does_ok hEnd f h) (fun σ e => by rw [R.does_dead _ _ e]) tp ⟨s1, p1⟩ FA.out.2.2.2.2
  rw [HDW.out] at DOK
  have SHN0 := hide (show -100 ≤ (R.doSet T tp σ2).s.nest ∧ (R.doSet T tp σ2).s.nest ≤ 100 from by have := DOK.n1; have := DOK.n2; have := FA.out.2.1.n0; have := FA.out.2.1.n1; omega)
  have SNN0 := hide (show (R.doSet T tp σ2).s.nodes.length ≤ 100000 from by have := DOK.p1; have := FA.out.2.1.nodes; omega)
  clear DOK
  go_upto_block 0 with fail
  go_cut [] (fun wr => ∃ rr lv tv, St w wr b T (R.doSet T tp σ2).s rr k4 k5 [.string s1, .int .i64 p1] [.string s1, .int .i64 0, .string (R.doSet T tp σ2).t.name, .int .i64 (R.doSet T tp σ2).t.kind, .bool (R.doSet T tp σ2).t.sec, .int .i64 (R.doSet T tp σ2).t.pos, .int .i64 (R.doSet T tp σ2).t.size, lv, tv, .bool false] lv (R.doSet T tp σ2).L ∧ IntRow wr b tv (R.doSet T tp σ2).two ∧ ∀ j, tv.ownBlock = some j → w.heap.size ≤ j)
  case first =>
    have kk := R.known_same T false true σ2
    have okk := kk.ok FA.out.2.2.2.2
    have hse : σ2.seen.length ≤ 1000 := by have := FA.out.2.1.seen; have := FA.out.2.1.n1; omega
    have kc := known_k S4.rep hT hse false true rfl
    have HD : Hid (R.doSet T tp σ2 = ⟨R.leaks tp (R.tellsAt (R.ex T (R.known T false true σ2)).1 (R.knownT T false true σ2) (R.ex T (R.known T false true σ2)).2) (R.ex T (R.known T false true σ2)).1, R.knownT T false true σ2, [(R.ex T (R.known T false true σ2)).2], []⟩) := rfl
    have avl := ex_valid (T := T) (σ := R.known T false true σ2) okk.lt
    generalize R.known T false true σ2 = σ3 at *
    generalize R.knownT T false true σ2 = q at *
    go_wp2_with fail
    refine kc.mono ?_
    rintro x w5 ⟨rfl, hr5, hm5⟩
    have S5 := S4.moves hr5 hm5
    have g2 := S5.d5 2 _ rfl
    have g3 := S5.d5 3 _ rfl
    have g4 := S5.d5 4 _ rfl
    have g5 := S5.d5 5 _ rfl
    have g6 := S5.d5 6 _ rfl
    have f2 := S5.f5 2
    have f3 := S5.f5 3
    have f4 := S5.f5 4
    have f5 := S5.f5 5
    have f6 := S5.f5 6
    go_wp2_with fail
    have S6 := ((((S5.set5 2 (.string q.name)).set5 3 (.int .i64 q.kind)).set5 4 (.bool q.sec)).set5 5 (.int .i64 q.pos)).set5 6 (.int .i64 q.size)
    clear g2 g3 g4 g5 g6 f2 f3 f4 f5 f6 hr5 hm5 S5 S4 u0 u1 kc
    generalize ((((w5.setCell ⟨k5, 2, none⟩ (.string q.name)).setCell ⟨k5, 3, none⟩ (.int .i64 q.kind)).setCell ⟨k5, 4, none⟩ (.bool q.sec)).setCell ⟨k5, 5, none⟩ (.int .i64 q.pos)).setCell ⟨k5, 6, none⟩ (.int .i64 q.size) = W6 at *
    have exc := ex_c hT hEnd S6.rep FA.out.2.1 okk
    generalize R.ex T σ3 = A at *
    refine exc.mono ?_
    rintro x w7 ⟨rfl, r7, hr7, hm7⟩
    have S7 := S6.moves hr7 hm7
    have y6 := S7.d5 7 _ rfl
    clear exc S6 hr7 hm7
    go_upto_region 17 with (at_builtin; refine wpList_append_row1 _ rfl _ _ 32 rfl 3 i0 (.int .i64 0) 1 8 Tryz.underlying32 hi hz0 hz1 hz2 rfl (by decide) _ ([] : List Int).length (ints ([] : List Int)) rfl (by exact World.ownsRow.alloc S7.row.row _) ⟨w7.heap.size, 0, none⟩ 1 1 [.int .i64 A.2] rfl rfl (by exact row_new w7 [.int .i64 A.2] _) (by intro u hu; simp only [List.mem_singleton] at hu; subst hu; rfl) (few_le (by simp)) (by simp) Nat.one_pos ?_; intro g8 cap8 v8 hv hg hk; have S8 := S7.grew (Grew.of ((More.refl w7).alloc _) hg hk) (ints_snoc hv); have y8 := S8.d5 7 _ rfl; have z8 := S8.f5 7; have a8 := S8.d4 0 _ rfl; clear hv hg hk)
    have S9 : St w (v8.setCell ⟨k5, 7, none⟩ (.slice (some ⟨g8, 0, none⟩) 1 cap8)) b T A.1 r7 k4 k5 [.string s1, .int .i64 p1] [.string s1, .int .i64 0, .string q.name, .int .i64 q.kind, .bool q.sec, .int .i64 q.pos, .int .i64 q.size, .slice (some ⟨g8, 0, none⟩) 1 cap8, .slice none 0 0, .bool false] (.slice (some ⟨g8, 0, none⟩) 1 cap8) [A.2] := S8.set5 7 _
    clear S8 S7 y6 y8 z8 a8
    generalize v8.setCell ⟨k5, 7, none⟩ (.slice (some ⟨g8, 0, none⟩) 1 cap8) = W9 at *
    obtain ⟨val, HVAL⟩ : ∃ val, Hid (R.tellsAt A.1 q A.2 = val) := ⟨_, rfl⟩
    rw [HVAL.out] at HD
    have x2 := S9.p 2 _ rfl
    have x4 := S9.d5 4 _ rfl
    cases e5 : (A.1.err == 0) with
    | false =>
      have hval : false = val := by rw [← HVAL.out]; unfold R.tellsAt; rw [e5]; rfl
      clear HVAL
      subst hval
      go_wp2_with fail
      refine (leaks_c S9.rep tp false).mono ?_
      rintro x w11 ⟨rfl, hr11, hm11⟩
      go_wp2_with fail
      go_meet
      case rel =>
        rw [HD.out]
        exact ⟨r7, _, .slice none 0 0, S9.moves hr11 hm11, ⟨ints_nil _, fun k hk => by simp [Value.ownBlock] at hk, hr11.tight⟩, fun k hk => by simp [Value.ownBlock] at hk⟩
    | true =>
      obtain ⟨xn, hxn, hxl⟩ := avl (eq_of_beq e5)
      rw [hxn] at HVAL HD S9 ⊢
      obtain ⟨gn, cn, hN, fN, sN⟩ := S9.rep.node hxl
      have x7 := S9.p 7 _ rfl
      rw [hN] at x7
      have x12 := S9.p 12 _ rfl
      cases hqs : q.sec with
      | true =>
        have hval : false = val := by rw [← HVAL.out]; unfold R.tellsAt; rw [e5, hqs]; rfl
        rw [hqs] at x4
        clear HVAL
        subst hval
        go_wp2_with fail
        refine (leaks_c S9.rep tp false).mono ?_
        rintro x w11 ⟨rfl, hr11, hm11⟩
        go_wp2_with fail
        go_meet
        case rel =>
          rw [HD.out]
          exact ⟨r7, _, .slice none 0 0, S9.moves hr11 hm11, ⟨ints_nil _, fun k hk => by simp [Value.ownBlock] at hk, hr11.tight⟩, fun k hk => by simp [Value.ownBlock] at hk⟩
      | false =>
        rw [hqs] at x4
        by_cases hhid : 0 < A.1.hidden
        · have hval : true = val := by rw [← HVAL.out]; unfold R.tellsAt; rw [e5, hqs, decide_eq_true hhid]; rfl
          clear HVAL
          subst hval
          go_wp2_with fail
          refine (leaks_c S9.rep tp true).mono ?_
          rintro x w11 ⟨rfl, hr11, hm11⟩
          go_wp2_with fail
          go_meet
          case rel =>
            rw [HD.out]
            exact ⟨r7, _, .slice none 0 0, S9.moves hr11 hm11, ⟨ints_nil _, fun k hk => by simp [Value.ownBlock] at hk, hr11.tight⟩, fun k hk => by simp [Value.ownBlock] at hk⟩
        · have hval : (R.nodeAt A.1 (xn : Int)).sec = val := by rw [← HVAL.out]; unfold R.tellsAt; rw [e5, hqs, decide_eq_false hhid]; simp
          clear HVAL
          subst hval
          go_wp2_with fail
          refine (leaks_c S9.rep tp _).mono ?_
          rintro x w11 ⟨rfl, hr11, hm11⟩
          go_wp2_with fail
          go_meet
          case rel =>
            rw [HD.out]
            exact ⟨r7, _, .slice none 0 0, S9.moves hr11 hm11, ⟨ints_nil _, fun k hk => by simp [Value.ownBlock] at hk, hr11.tight⟩, fun k hk => by simp [Value.ownBlock] at hk⟩
  case rest =>
    obtain ⟨rr, lv, tv, SS, rowt, lot⟩ := hcut
    have HI : Hid (R.doIn T (R.does T f) tp σ1 = R.addNode ⟨s1, 0, (R.doSet T tp σ2).t, (R.doSet T tp σ2).L, (R.doSet T tp σ2).two, false⟩ (R.shut T (R.doSet T tp σ2).s)) := by
      unfold R.doIn
      dsimp only
      rw [HT1.out, HS2.out, HDW.out]
      rfl
    have hnn := hide (show (R.shut T (R.doSet T tp σ2).s).nodes.length ≤ 100000 from by rw [(R.shut_core T _).2.1]; exact SNN0.out)
    have shc := shut_c SS.rep SHN0.out.1 SHN0.out.2
    have LOT := hide lot
    clear lot
    generalize R.shut T (R.doSet T tp σ2).s = σ9 at *
    go_wp2_with fail
    refine shc.mono ?_
    rintro x w12 ⟨rfl, hr12, hm12⟩
    have S12 := SS.moves hr12 hm12
    have rowt' := rowt.moves hm12
    have m0 := S12.d5 0 _ rfl
    have m1 := S12.d5 1 _ rfl
    have m2 := S12.d5 2 _ rfl
    have m3 := S12.d5 3 _ rfl
    have m4 := S12.d5 4 _ rfl
    have m5 := S12.d5 5 _ rfl
    have m6 := S12.d5 6 _ rfl
    have m7 := S12.d5 7 _ rfl
    have m8 := S12.d5 8 _ rfl
    have m9 := S12.d5 9 _ rfl
    go_wp2_with fail
    refine (node_k S12.rep s1 0 (R.doSet T tp σ2).t (R.doSet T tp σ2).L (R.doSet T tp σ2).two false lv tv S12.row.row rowt'.row hnn.out).mono ?_
    rintro x w13 ⟨rfl, r13, hr13, hm13⟩
    go_wp2_with fail
    go_ret
    rw [HI.out]
    exact ⟨rfl, r13, hr13, S12.mv.transX hm13 (fun j hj => hj.elim (S12.lo j) (LOT.out j))⟩
end Go.Proofs.YtejbgcloblpbfaaGreatDoor
namespace Go.Proofs.YtejbgcloblpbfaaGreatDoor
open Go.RowKit
open R (Tok Thing Nd PS)
theorem dw_if {T : List Tok} {does : PS → PS × List Int} {p : Int} {s : ByteArray} {q : Int} {σ : PS} (h : s.toList = R.kIf) : R.doWord T does p ⟨s, q⟩ σ = R.doIf T does σ := by
  unfold R.doWord; rw [if_neg (by rw [h]; decide), if_neg (by rw [h]; decide), if_pos h]
theorem dw_none {T : List Tok} {does : PS → PS × List Int} {p : Int} {s : ByteArray} {q : Int} {σ : PS} (h : ¬ s.toList = R.kSet ∧ ¬ s.toList = R.kPut ∧ ¬ s.toList = R.kIf ∧ ¬ s.toList = R.kFor) : R.doWord T does p ⟨s, q⟩ σ = ⟨R.fail 2 q σ, R.noThing, [], []⟩ := by
  unfold R.doWord; rw [if_neg h.1, if_neg h.2.1, if_neg h.2.2.1, if_neg h.2.2.2]
theorem if_bd {T : List Tok} {f : Nat} {σ2 σ : PS} {m : Int} (hb : BdI T σ2) (hf : 11 - σ2.nest ≤ f) (k : R.Ok T σ2 σ) (hm : 0 ≤ m ∧ m ≤ 1) (e : σ.err = 0) : BdD T (f + 1) (R.hide1 m σ) := by
  have a1 := k.n3 e
  have a2 := k.p2 e
  have a3 : σ.seen = σ2.seen := congrArg (fun c => c.1) k.core
  have a4 : σ.loops = σ2.loops := congrArg (fun c => c.2.2.2.2.1) k.core
  have a5 : σ.hidden = σ2.hidden := congrArg (fun c => c.2.2.2.2.2.1) k.core
  obtain ⟨b1, b2, b3, b4, b5, b6, b7, b8⟩ := hb
  exact ⟨by show 0 ≤ σ.nest; omega, by show σ.nest ≤ 10; omega, by show 11 - σ.nest ≤ _; omega, by show (σ.seen.length : Int) ≤ 400 + σ.nest; rw [a3]; omega, by show 0 ≤ σ.hidden + m; omega, by show σ.hidden + m ≤ 40 + σ.nest; omega, by show 0 ≤ σ.loops; omega, by show σ.loops ≤ 2; omega, by show σ.nodes.length + (T.length - σ.i) ≤ 15000; omega⟩
theorem Rep.hide {w : World} {b : Nat} {T : List Tok} {σ : PS} {r : RV} (h : Rep w b T σ r) (m : Int) : Rep (w.setCell ⟨b, 12, none⟩ (.int .i64 (σ.hidden + m))) b T (R.hide1 m σ) r ∧ Moves b w (w.setCell ⟨b, 12, none⟩ (.int .i64 (σ.hidden + m))) :=
  h.scalar (σ' := R.hide1 m σ) (h.cells.set 12 _) ((But.refl b w).set 12 _) rfl rfl rfl rfl h.lt
set_option maxRecDepth 100000 in
set_option maxHeartbeats 4000000 in
theorem do_none {T : List Tok} (_hT : R.Small T) (hEnd : R.Ended T) (f : Nat) (w : World) (b : Nat) (σ : PS) (r : RV) (h : Rep w b T σ r) (hb : BdD T (f + 1) σ) (hO : (R.opens T σ).err = 0) (hkSet : ¬ (R.tk T (R.opens T σ).i).s.toList = R.kSet) (hkPut : ¬ (R.tk T (R.opens T σ).i).s.toList = R.kPut) (hkIf : ¬ (R.tk T (R.opens T σ).i).s.toList = R.kIf) (hkFor : ¬ (R.tk T (R.opens T σ).i).s.toList = R.kFor)  :
    Calls Tryz.prog 62 #[P b] w fun x w' => x = .returned (.int .i64 (R.lastN (R.doIn T (R.does T f) (R.tk T σ.i).p (R.opens T σ)))) ∧ ∃ r', Rep w' b T (R.doIn T (R.does T f) (R.tk T σ.i).p (R.opens T σ)) r' ∧ Moves b w w' := by
  have hoc := open_c h (by have := hb.n0; omega) (by have := hb.n1; omega)
  have hO' := beq_yes hO
  have FA := hide (do_facts hb hO h.lt)
  obtain ⟨tp, HTP⟩ : ∃ tp, Hid ((R.tk T σ.i).p = tp) := ⟨_, rfl⟩
  rw [HTP.out] at hoc ⊢
  generalize R.opens T σ = σ1 at *
  have HO := hide hO
  clear hO HTP hb
  obtain ⟨t1, HT1⟩ : ∃ t1, Hid (R.tk T σ1.i = t1) := ⟨_, rfl⟩
  rw [HT1.out] at hkSet hkPut hkIf hkFor
  obtain ⟨s1, p1⟩ := t1
  dsimp only at *
  have ekSet : (s1.toList == [115, 101, 116]) = false := beq_no (by intro e; exact hkSet e)
  have ekPut : (s1.toList == [112, 117, 116]) = false := beq_no (by intro e; exact hkPut e)
  have ekIf : (s1.toList == [105, 102]) = false := beq_no (by intro e; exact hkIf e)
  have ekFor : (s1.toList == [102, 111, 114]) = false := beq_no (by intro e; exact hkFor e)
  have HWD := hide (And.intro hkSet (And.intro hkPut (And.intro hkIf hkFor)))
  clear hkSet hkPut hkIf hkFor
  obtain ⟨i0, hi, hz0, hz1, hz2⟩ := info_parts info_int
  go_enter Tryz.func62, Tryz.ntmps62
  go_wp2_with fail
  refine hoc.mono ?_
  rintro x w2 ⟨rfl, hr2, hm2⟩
  have q2 := hr2.c1 2 _ rfl
  go_wp2_with fail
  have htk := take_c hr2
  rw [HT1.out] at htk
  refine htk.mono ?_
  rintro x w3 ⟨rfl, hr3, hm3⟩
  clear q2 htk
  go_upto_region 6 with fail
  have S4 : St w ((w3.alloc (.cells #[.string s1, .int .i64 p1] 90)).alloc (.cells #[.string s1, .int .i64 0, .string ⟨#[]⟩, .int .i64 0, .bool false, .int .i64 0, .int .i64 0, .slice none 0 0, .slice none 0 0, .bool false] 145)) b T (R.take T σ1) r w3.heap.size (w3.heap.size + 1) [.string s1, .int .i64 p1] [.string s1, .int .i64 0, .string ⟨#[]⟩, .int .i64 0, .bool false, .int .i64 0, .int .i64 0, .slice none 0 0, .slice none 0 0, .bool false] (.slice none 0 0) [] := by
    have B5 := (hr3.alloc (.cells #[.string s1, .int .i64 p1] 90)).box [.string s1, .int .i64 0, .string ⟨#[]⟩, .int .i64 0, .bool false, .int .i64 0, .int .i64 0, .slice none 0 0, .slice none 0 0, .bool false] 145
    have sz : (w3.alloc (.cells #[.string s1, .int .i64 p1] 90)).heap.size = w3.heap.size + 1 := by simp
    rw [sz] at B5
    have R4 := (hr3.alloc (.cells #[.string s1, .int .i64 p1] 90)).alloc (.cells #[.string s1, .int .i64 0, .string ⟨#[]⟩, .int .i64 0, .bool false, .int .i64 0, .int .i64 0, .slice none 0 0, .slice none 0 0, .bool false] 145)
    exact ⟨R4, ((hm2.trans hm3).alloc _).alloc _, (hr3.box [.string s1, .int .i64 p1] 90).alloc _, B5, ⟨ints_nil _, fun k hk => by simp [Value.ownBlock] at hk, R4.tight⟩, fun k hk => by simp [Value.ownBlock] at hk, by have := hm2.size; have := hm3.size; omega, by omega⟩
  clear hm2 hm3 hr3 hr2 hoc
  generalize (w3.alloc (.cells #[.string s1, .int .i64 p1] 90)).alloc (.cells #[.string s1, .int .i64 0, .string ⟨#[]⟩, .int .i64 0, .bool false, .int .i64 0, .int .i64 0, .slice none 0 0, .slice none 0 0, .bool false] 145) = W4 at *
  generalize w3.heap.size + 1 = k5 at *
  generalize w3.heap.size = k4 at *
  have hne := S4.ne
  have u0 := S4.d4 0 _ rfl
  have u1 := S4.d4 1 _ rfl
  generalize hs2 : R.take T σ1 = σ2 at *
  have HS2 := hide hs2
  clear hs2
  have HDW := hide (dw_none (T := T) (does := R.does T f) (p := tp) (q := p1) (σ := σ2) HWD.out)
  have DOK := R.doWord_ok hEnd (does := R.does T f) (fun σ h => R.does_ok hEnd f h) (fun σ e => by rw [R.does_dead _ _ e]) tp ⟨s1, p1⟩ FA.out.2.2.2.2
  rw [HDW.out] at DOK
  have SHN0 := hide (show -100 ≤ ((⟨R.fail 2 p1 σ2, R.noThing, [], []⟩ : R.DR)).s.nest ∧ ((⟨R.fail 2 p1 σ2, R.noThing, [], []⟩ : R.DR)).s.nest ≤ 100 from by have := DOK.n1; have := DOK.n2; have := FA.out.2.1.n0; have := FA.out.2.1.n1; omega)
  have SNN0 := hide (show ((⟨R.fail 2 p1 σ2, R.noThing, [], []⟩ : R.DR)).s.nodes.length ≤ 100000 from by have := DOK.p1; have := FA.out.2.1.nodes; omega)
  clear DOK
  go_upto_block 0 with fail
  go_cut [] (fun wr => ∃ rr lv tv, St w wr b T ((⟨R.fail 2 p1 σ2, R.noThing, [], []⟩ : R.DR)).s rr k4 k5 [.string s1, .int .i64 p1] [.string s1, .int .i64 0, .string ((⟨R.fail 2 p1 σ2, R.noThing, [], []⟩ : R.DR)).t.name, .int .i64 ((⟨R.fail 2 p1 σ2, R.noThing, [], []⟩ : R.DR)).t.kind, .bool ((⟨R.fail 2 p1 σ2, R.noThing, [], []⟩ : R.DR)).t.sec, .int .i64 ((⟨R.fail 2 p1 σ2, R.noThing, [], []⟩ : R.DR)).t.pos, .int .i64 ((⟨R.fail 2 p1 σ2, R.noThing, [], []⟩ : R.DR)).t.size, lv, tv, .bool false] lv ((⟨R.fail 2 p1 σ2, R.noThing, [], []⟩ : R.DR)).L ∧ IntRow wr b tv ((⟨R.fail 2 p1 σ2, R.noThing, [], []⟩ : R.DR)).two ∧ ∀ j, tv.ownBlock = some j → w.heap.size ≤ j)
  case first =>
    go_wp2_with fail
    refine (fail_c S4.rep 2 p1).mono ?_
    rintro x w11 ⟨rfl, hr11, hm11⟩
    go_wp2_with fail
    go_meet
    case rel => exact ⟨r, .slice none 0 0, .slice none 0 0, S4.moves hr11 hm11, ⟨ints_nil _, fun k hk => by simp [Value.ownBlock] at hk, hr11.tight⟩, fun k hk => by simp [Value.ownBlock] at hk⟩
  case rest =>
    obtain ⟨rr, lv, tv, SS, rowt, lot⟩ := hcut
    have HI : Hid (R.doIn T (R.does T f) tp σ1 = R.addNode ⟨s1, 0, ((⟨R.fail 2 p1 σ2, R.noThing, [], []⟩ : R.DR)).t, ((⟨R.fail 2 p1 σ2, R.noThing, [], []⟩ : R.DR)).L, ((⟨R.fail 2 p1 σ2, R.noThing, [], []⟩ : R.DR)).two, false⟩ (R.shut T ((⟨R.fail 2 p1 σ2, R.noThing, [], []⟩ : R.DR)).s)) := by
      unfold R.doIn
      dsimp only
      rw [HT1.out, HS2.out, HDW.out]
      rfl
    have hnn := hide (show (R.shut T ((⟨R.fail 2 p1 σ2, R.noThing, [], []⟩ : R.DR)).s).nodes.length ≤ 100000 from by rw [(R.shut_core T _).2.1]; exact SNN0.out)
    have shc := shut_c SS.rep SHN0.out.1 SHN0.out.2
    have LOT := hide lot
    clear lot
    generalize R.shut T ((⟨R.fail 2 p1 σ2, R.noThing, [], []⟩ : R.DR)).s = σ9 at *
    go_wp2_with fail
    refine shc.mono ?_
    rintro x w12 ⟨rfl, hr12, hm12⟩
    have S12 := SS.moves hr12 hm12
    have rowt' := rowt.moves hm12
    have m0 := S12.d5 0 _ rfl
    have m1 := S12.d5 1 _ rfl
    have m2 := S12.d5 2 _ rfl
    have m3 := S12.d5 3 _ rfl
    have m4 := S12.d5 4 _ rfl
    have m5 := S12.d5 5 _ rfl
    have m6 := S12.d5 6 _ rfl
    have m7 := S12.d5 7 _ rfl
    have m8 := S12.d5 8 _ rfl
    have m9 := S12.d5 9 _ rfl
    go_wp2_with fail
    refine (node_k S12.rep s1 0 ((⟨R.fail 2 p1 σ2, R.noThing, [], []⟩ : R.DR)).t ((⟨R.fail 2 p1 σ2, R.noThing, [], []⟩ : R.DR)).L ((⟨R.fail 2 p1 σ2, R.noThing, [], []⟩ : R.DR)).two false lv tv S12.row.row rowt'.row hnn.out).mono ?_
    rintro x w13 ⟨rfl, r13, hr13, hm13⟩
    go_wp2_with fail
    go_ret
    rw [HI.out]
    exact ⟨rfl, r13, hr13, S12.mv.transX hm13 (fun j hj => hj.elim (S12.lo j) (LOT.out j))⟩
end Go.Proofs.YtejbgcloblpbfaaGreatDoor
namespace Go.Proofs.YtejbgcloblpbfaaGreatDoor
open Go.RowKit
open R (Tok Thing Nd PS)
theorem block_err {T : List Tok} {does : PS → PS × List Int} {σ : PS} (e : (R.block T does σ).1.err = 0) : σ.err = 0 := by
  by_cases h : σ.err = 0
  · exact h
  · rw [R.block_dead T does h] at e; exact e
set_option maxRecDepth 100000 in
set_option maxHeartbeats 4000000 in
theorem do_if {T : List Tok} (hT : R.Small T) (hEnd : R.Ended T) (f : Nat) (hbl : BlockDoes T f) (w : World) (b : Nat) (σ : PS) (r : RV) (h : Rep w b T σ r) (hb : BdD T (f + 1) σ) (hO : (R.opens T σ).err = 0) (hwd : (R.tk T (R.opens T σ).i).s.toList = R.kIf) :
    Calls Tryz.prog 62 #[P b] w fun x w' => x = .returned (.int .i64 (R.lastN (R.doIn T (R.does T f) (R.tk T σ.i).p (R.opens T σ)))) ∧ ∃ r', Rep w' b T (R.doIn T (R.does T f) (R.tk T σ.i).p (R.opens T σ)) r' ∧ Moves b w w' := by
  have hoc := open_c h (by have := hb.n0; omega) (by have := hb.n1; omega)
  have hO' := beq_yes hO
  have FA := hide (do_facts hb hO h.lt)
  obtain ⟨tp, HTP⟩ : ∃ tp, Hid ((R.tk T σ.i).p = tp) := ⟨_, rfl⟩
  rw [HTP.out] at hoc ⊢
  generalize R.opens T σ = σ1 at *
  have HO := hide hO
  clear hO HTP hb
  obtain ⟨t1, HT1⟩ : ∃ t1, Hid (R.tk T σ1.i = t1) := ⟨_, rfl⟩
  rw [HT1.out] at hwd
  obtain ⟨s1, p1⟩ := t1
  dsimp only at *
  have ekSet : (s1.toList == [115, 101, 116]) = false := by rw [hwd]; decide
  have ekPut : (s1.toList == [112, 117, 116]) = false := by rw [hwd]; decide
  have ekIf : (s1.toList == [105, 102]) = true := by rw [hwd]; decide
  have ekFor : (s1.toList == [102, 111, 114]) = false := by rw [hwd]; decide
  have HWD := hide hwd
  clear hwd
  obtain ⟨i0, hi, hz0, hz1, hz2⟩ := info_parts info_int
  go_enter Tryz.func62, Tryz.ntmps62
  go_wp2_with fail
  refine hoc.mono ?_
  rintro x w2 ⟨rfl, hr2, hm2⟩
  have q2 := hr2.c1 2 _ rfl
  go_wp2_with fail
  have htk := take_c hr2
  rw [HT1.out] at htk
  refine htk.mono ?_
  rintro x w3 ⟨rfl, hr3, hm3⟩
  clear q2 htk
  go_upto_region 6 with fail
  have S4 : St w ((w3.alloc (.cells #[.string s1, .int .i64 p1] 90)).alloc (.cells #[.string s1, .int .i64 0, .string ⟨#[]⟩, .int .i64 0, .bool false, .int .i64 0, .int .i64 0, .slice none 0 0, .slice none 0 0, .bool false] 145)) b T (R.take T σ1) r w3.heap.size (w3.heap.size + 1) [.string s1, .int .i64 p1] [.string s1, .int .i64 0, .string ⟨#[]⟩, .int .i64 0, .bool false, .int .i64 0, .int .i64 0, .slice none 0 0, .slice none 0 0, .bool false] (.slice none 0 0) [] := by
    have B5 := (hr3.alloc (.cells #[.string s1, .int .i64 p1] 90)).box [.string s1, .int .i64 0, .string ⟨#[]⟩, .int .i64 0, .bool false, .int .i64 0, .int .i64 0, .slice none 0 0, .slice none 0 0, .bool false] 145
    have sz : (w3.alloc (.cells #[.string s1, .int .i64 p1] 90)).heap.size = w3.heap.size + 1 := by simp
    rw [sz] at B5
    have R4 := (hr3.alloc (.cells #[.string s1, .int .i64 p1] 90)).alloc (.cells #[.string s1, .int .i64 0, .string ⟨#[]⟩, .int .i64 0, .bool false, .int .i64 0, .int .i64 0, .slice none 0 0, .slice none 0 0, .bool false] 145)
    exact ⟨R4, ((hm2.trans hm3).alloc _).alloc _, (hr3.box [.string s1, .int .i64 p1] 90).alloc _, B5, ⟨ints_nil _, fun k hk => by simp [Value.ownBlock] at hk, R4.tight⟩, fun k hk => by simp [Value.ownBlock] at hk, by have := hm2.size; have := hm3.size; omega, by omega⟩
  clear hm2 hm3 hr3 hr2 hoc
  generalize (w3.alloc (.cells #[.string s1, .int .i64 p1] 90)).alloc (.cells #[.string s1, .int .i64 0, .string ⟨#[]⟩, .int .i64 0, .bool false, .int .i64 0, .int .i64 0, .slice none 0 0, .slice none 0 0, .bool false] 145) = W4 at *
  generalize w3.heap.size + 1 = k5 at *
  generalize w3.heap.size = k4 at *
  have hne := S4.ne
  have u0 := S4.d4 0 _ rfl
  have u1 := S4.d4 1 _ rfl
  generalize hs2 : R.take T σ1 = σ2 at *
  have HS2 := hide hs2
  clear hs2
  have HDW := hide (dw_if (T := T) (does := R.does T f) (p := tp) (q := p1) (σ := σ2) HWD.out)
  have DOK := R.doWord_ok hEnd (does := R.does T f) (fun σ h => R.does_ok hEnd f h) (fun σ e => by rw [R.does_dead _ _ e]) tp ⟨s1, p1⟩ FA.out.2.2.2.2
  rw [HDW.out] at DOK
  have SHN0 := hide (show -100 ≤ (R.doIf T (R.does T f) σ2).s.nest ∧ (R.doIf T (R.does T f) σ2).s.nest ≤ 100 from by have := DOK.n1; have := DOK.n2; have := FA.out.2.1.n0; have := FA.out.2.1.n1; omega)
  have SNN0 := hide (show (R.doIf T (R.does T f) σ2).s.nodes.length ≤ 100000 from by have := DOK.p1; have := FA.out.2.1.nodes; omega)
  clear DOK
  go_upto_block 0 with fail
  go_cut [] (fun wr => ∃ rr lv tv, St w wr b T (R.doIf T (R.does T f) σ2).s rr k4 k5 [.string s1, .int .i64 p1] [.string s1, .int .i64 0, .string (R.doIf T (R.does T f) σ2).t.name, .int .i64 (R.doIf T (R.does T f) σ2).t.kind, .bool (R.doIf T (R.does T f) σ2).t.sec, .int .i64 (R.doIf T (R.does T f) σ2).t.pos, .int .i64 (R.doIf T (R.does T f) σ2).t.size, lv, tv, .bool false] lv (R.doIf T (R.does T f) σ2).L ∧ IntRow wr b tv (R.doIf T (R.does T f) σ2).two ∧ ∀ j, tv.ownBlock = some j → w.heap.size ≤ j)
  case first =>
    as_aux_lemma =>
    have ok2 := R.Ok.refl FA.out.2.2.2.2
    have HD : Hid (R.doIf T (R.does T f) σ2 = ⟨R.hide1 (-(if R.secAt (R.ex T σ2).1 (R.ex T σ2).2 = true then 1 else 0)) (R.block T (R.does T f) (R.block T (R.does T f) (R.hide1 (if R.secAt (R.ex T σ2).1 (R.ex T σ2).2 = true then 1 else 0) (R.ex T σ2).1)).1).1, R.noThing, [(R.ex T σ2).2] ++ (R.block T (R.does T f) (R.hide1 (if R.secAt (R.ex T σ2).1 (R.ex T σ2).2 = true then 1 else 0) (R.ex T σ2).1)).2, (R.block T (R.does T f) (R.block T (R.does T f) (R.hide1 (if R.secAt (R.ex T σ2).1 (R.ex T σ2).2 = true then 1 else 0) (R.ex T σ2).1)).1).2⟩) := rfl
    have aok := R.ex_ok hEnd FA.out.2.2.2.2
    have avl := ex_valid (T := T) (σ := σ2) FA.out.2.2.2.2
    have exc := ex_c hT hEnd S4.rep FA.out.2.1 ok2
    generalize R.ex T σ2 = A at *
    obtain ⟨sv, HSV⟩ : ∃ sv, Hid (R.secAt A.1 A.2 = sv) := ⟨_, rfl⟩
    rw [HSV.out] at HD
    obtain ⟨m, HM⟩ : ∃ m : Int, Hid ((if sv = true then 1 else 0) = m) := ⟨_, rfl⟩
    rw [HM.out] at HD
    have hm01 : 0 ≤ m ∧ m ≤ 1 := by rw [← HM.out]; cases sv <;> simp
    go_wp2_with fail
    refine exc.mono ?_
    rintro x w7 ⟨rfl, r7, hr7, hm7⟩
    have S7 := S4.moves hr7 hm7
    have y6 := S7.d5 7 _ rfl
    clear exc hr7 hm7 S4 u0 u1
    go_upto_region 22 with (at_builtin; refine wpList_append_row1 _ rfl _ _ 32 rfl 3 i0 (.int .i64 0) 1 8 Tryz.underlying32 hi hz0 hz1 hz2 rfl (by decide) _ ([] : List Int).length (ints ([] : List Int)) rfl (by exact World.ownsRow.alloc S7.row.row _) ⟨w7.heap.size, 0, none⟩ 1 1 [.int .i64 A.2] rfl rfl (by exact row_new w7 [.int .i64 A.2] _) (by intro u hu; simp only [List.mem_singleton] at hu; subst hu; rfl) (few_le (by simp)) (by simp) Nat.one_pos ?_; intro g8 cap8 v8 hv hg hk; have S8 := S7.grew (Grew.of ((More.refl w7).alloc _) hg hk) (ints_snoc hv); have y8 := S8.d5 7 _ rfl; have z8 := S8.f5 7; have a8 := S8.d4 0 _ rfl; clear hv hg hk)
    have S9 : St w (v8.setCell ⟨k5, 7, none⟩ (.slice (some ⟨g8, 0, none⟩) 1 cap8)) b T A.1 r7 k4 k5 [.string s1, .int .i64 p1] [.string s1, .int .i64 0, .string ⟨#[]⟩, .int .i64 0, .bool false, .int .i64 0, .int .i64 0, .slice (some ⟨g8, 0, none⟩) 1 cap8, .slice none 0 0, .bool false] (.slice (some ⟨g8, 0, none⟩) 1 cap8) [A.2] := S8.set5 7 _
    clear S8 S7 y6 y8 z8 a8
    generalize v8.setCell ⟨k5, 7, none⟩ (.slice (some ⟨g8, 0, none⟩) 1 cap8) = W9 at *
    go_cut [7, 135] (fun _ s wr => s = .bool sv ∧ St w wr b T A.1 r7 k4 k5 [.string s1, .int .i64 p1] [.string s1, .int .i64 0, .string ⟨#[]⟩, .int .i64 0, .bool false, .int .i64 0, .int .i64 0, .slice (some ⟨g8, 0, none⟩) 1 cap8, .slice none 0 0, .bool false] (.slice (some ⟨g8, 0, none⟩) 1 cap8) [A.2])
    case first =>
      as_aux_lemma =>
      have x2 := S9.p 2 _ rfl
      cases e5 : (A.1.err == 0) with
      | false =>
        have hval : sv = false := by rw [← HSV.out]; unfold R.secAt; rw [e5]; rfl
        subst hval
        go_wp2_with fail
        go_meet
        case rel => exact ⟨rfl, S9⟩
      | true =>
        obtain ⟨xn, hxn, hxl⟩ := avl (eq_of_beq e5)
        have hval : (R.nodeAt A.1 (xn : Int)).sec = sv := by rw [← HSV.out]; unfold R.secAt; rw [e5, hxn]; rfl
        subst hval
        have HXN := hide hxn
        rw [hxn] at S9 ⊢
        obtain ⟨gn, cn, hN, fN, sN⟩ := S9.rep.node hxl
        have x7 := S9.p 7 _ rfl
        rw [hN] at x7
        clear hxn
        go_wp2_with fail
        go_meet
        case rel => rw [HXN.out]; exact ⟨rfl, S9⟩
    case rest =>
      obtain ⟨rfl, S10⟩ := hcut
      clear S9
      go_upto_if 135 with fail
      go_cut [8] (fun s wr => s = .int .i64 m ∧ St w wr b T A.1 r7 k4 k5 [.string s1, .int .i64 p1] [.string s1, .int .i64 0, .string ⟨#[]⟩, .int .i64 0, .bool false, .int .i64 0, .int .i64 0, .slice (some ⟨g8, 0, none⟩) 1 cap8, .slice none 0 0, .bool false] (.slice (some ⟨g8, 0, none⟩) 1 cap8) [A.2])
      case first =>
        as_aux_lemma =>
        cases sv with
        | true =>
          have hm : (1 : Int) = m := HM.out
          subst hm
          go_wp2_with fail
          go_meet
          case rel => exact ⟨rfl, S10⟩
        | false =>
          have hm : (0 : Int) = m := HM.out
          subst hm
          go_wp2_with fail
          go_meet
          case rel => exact ⟨rfl, S10⟩
      case rest =>
        as_aux_lemma =>
        obtain ⟨rfl, S11⟩ := hcut
        clear S10
        have hhid : A.1.hidden = σ2.hidden := congrArg (fun c => c.2.2.2.2.2.1) aok.core
        have hh0 : 0 ≤ A.1.hidden ∧ A.1.hidden ≤ 60 := by have := FA.out.2.1.h0; have := FA.out.2.1.h1; have := FA.out.2.1.n1; omega
        have HHID := hide hhid
        clear hhid
        have y12 := S11.p 12 _ rfl
        have z12 := S11.rep.cells.frozen 12
        obtain ⟨hh1, hh2⟩ := hh0
        obtain ⟨hm0, hm1⟩ := hm01
        go_wp2_with fail
        have RH := S11.rep.hide m
        have S12 := S11.moves RH.1 RH.2
        clear RH y12 z12
        generalize wc.setCell ⟨b, 12, none⟩ (.int .i64 (A.1.hidden + m)) = W12 at *
        have bd1 : (R.hide1 m A.1).err = 0 → BdD T (f + 1) (R.hide1 m A.1) := fun e => if_bd FA.out.2.1 FA.out.2.2.1 aok ⟨hm0, hm1⟩ e
        have ok1 := R.block_ok (T := T) (does := R.does T f) (fun σ h => R.does_ok hEnd f h) (σ := R.hide1 m A.1) aok.lt
        have er1 := @block_err T (R.does T f) (R.hide1 m A.1)
        have bl1 := hbl W12 b (R.hide1 m A.1) r7 S12.rep bd1
        have hh3 : Hid ((R.hide1 m A.1).hidden = A.1.hidden + m) := rfl
        generalize R.block T (R.does T f) (R.hide1 m A.1) = O at *
        have bd2 : O.1.err = 0 → BdD T (f + 1) O.1 := fun e => (bd1 (er1 e)).ok ok1 e
        have ok2' := R.block_ok (T := T) (does := R.does T f) (fun σ h => R.does_ok hEnd f h) (σ := O.1) ok1.lt
        obtain ⟨Z, HZ⟩ : ∃ Z, Hid (R.block T (R.does T f) O.1 = Z) := ⟨_, rfl⟩
        rw [HZ.out] at ok2' HD
        have hz1' : O.1.hidden = (R.hide1 m A.1).hidden := congrArg (fun c => c.2.2.2.2.2.1) ok1.core
        have hz2' : Z.1.hidden = O.1.hidden := congrArg (fun c => c.2.2.2.2.2.1) ok2'.core
        have hzz := hh3.out
        have zb1 : 0 ≤ Z.1.hidden := by omega
        have zb2 : Z.1.hidden ≤ 61 := by omega
        clear hz1' hz2' hzz hh3
        refine bl1.mono ?_
        rintro x w13 ⟨lv1, rfl, r13, hr13, hm13, ir1, hl1, lo1⟩
        have S13 := S12.moves hr13 hm13
        have bl2 := hbl w13 b O.1 r13 S13.rep bd2
        rw [HZ.out] at bl2
        clear bl1 lo1
        go_wp2_with fail
        refine bl2.mono ?_
        rintro x w14 ⟨tv, rfl, r14, hr14, hm14, ir2, hl2, lo2'⟩
        have lo2 := hide lo2'
        have S14 := S13.moves hr14 hm14
        have y12 := S14.p 12 _ rfl
        have z12 := S14.rep.cells.frozen 12
        have RH : Rep (w14.setCell ⟨b, 12, none⟩ (.int .i64 (Z.1.hidden - m))) b T (R.hide1 (-m) Z.1) r14 ∧ Moves b w14 (w14.setCell ⟨b, 12, none⟩ (.int .i64 (Z.1.hidden - m))) := S14.rep.hide (-m)
        clear bl2 lo2' ok1 ok2' er1 bd1 bd2 hbl
        rcases Joins.ownsRow_forms ir2.row with ⟨rfl, _⟩ | ⟨gt, ct, rfl⟩
        · as_aux_lemma =>
          have S15 := S14.moves RH.1 RH.2
          have ir1b := (ir1.moves hm14).moves RH.2
          have ir2b := ir2.moves RH.2
          have kb := S14.b5.ne
          have y7 := S14.d5 7 _ rfl
          go_wp2_with (at_builtin; refine wpList_append_ints _ rfl _ _ 32 rfl 3 i0 (.int .i64 0) 8 Tryz.underlying32 hi hz0 hz1 hz2 rfl _ 1 (ints [A.2]) rfl (by exact S15.row.row) Nat.one_pos lv1 O.2.length (ints O.2) rfl (by exact ir1b.row) (ints_one _) (few_le (by omega)) (by omega) ?_; intro g16 cap16 v16 hv gr; have S16 := S15.grew gr (ints_app (L := [A.2]) hv); have ir2c := ir2b.beside gr S15.row.off (fun k hk e => by have := lo2.out k e; have := S13.row.block_lt hk; omega); have y7' := S16.d5 7 _ rfl; have z7' := S16.f5 7; have y8' := S16.d5 8 _ rfl; have z8' := S16.f5 8; clear hv gr)
          go_meet
          case rel =>
            rw [HD.out]
            exact ⟨r14, _, _, (S16.set5 7 _).set5 8 _, (ir2c.set_box S16.b5 (by decide) 7 _).set_box (S16.set5 7 _).b5 (by decide) 8 _, fun j hj => by have := lo2.out j hj; have := S13.mv.size; omega⟩
        · as_aux_lemma =>
          have S15 := S14.moves RH.1 RH.2
          have ir1b := (ir1.moves hm14).moves RH.2
          have ir2b := ir2.moves RH.2
          have kb := S14.b5.ne
          have y7 := S14.d5 7 _ rfl
          go_wp2_with (at_builtin; refine wpList_append_ints _ rfl _ _ 32 rfl 3 i0 (.int .i64 0) 8 Tryz.underlying32 hi hz0 hz1 hz2 rfl _ 1 (ints [A.2]) rfl (by exact S15.row.row) Nat.one_pos lv1 O.2.length (ints O.2) rfl (by exact ir1b.row) (ints_one _) (few_le (by omega)) (by omega) ?_; intro g16 cap16 v16 hv gr; have S16 := S15.grew gr (ints_app (L := [A.2]) hv); have ir2c := ir2b.beside gr S15.row.off (fun k hk e => by have := lo2.out k e; have := S13.row.block_lt hk; omega); have y7' := S16.d5 7 _ rfl; have z7' := S16.f5 7; have y8' := S16.d5 8 _ rfl; have z8' := S16.f5 8; clear hv gr)
          go_meet
          case rel =>
            rw [HD.out]
            exact ⟨r14, _, _, (S16.set5 7 _).set5 8 _, (ir2c.set_box S16.b5 (by decide) 7 _).set_box (S16.set5 7 _).b5 (by decide) 8 _, fun j hj => by have := lo2.out j hj; have := S13.mv.size; omega⟩
  case rest =>
    as_aux_lemma =>
    obtain ⟨rr, lv, tv, SS, rowt, lot⟩ := hcut
    have HI : Hid (R.doIn T (R.does T f) tp σ1 = R.addNode ⟨s1, 0, (R.doIf T (R.does T f) σ2).t, (R.doIf T (R.does T f) σ2).L, (R.doIf T (R.does T f) σ2).two, false⟩ (R.shut T (R.doIf T (R.does T f) σ2).s)) := by
      unfold R.doIn
      dsimp only
      rw [HT1.out, HS2.out, HDW.out]
      rfl
    have hnn := hide (show (R.shut T (R.doIf T (R.does T f) σ2).s).nodes.length ≤ 100000 from by rw [(R.shut_core T _).2.1]; exact SNN0.out)
    have shc := shut_c SS.rep SHN0.out.1 SHN0.out.2
    have LOT := hide lot
    clear lot
    generalize R.shut T (R.doIf T (R.does T f) σ2).s = σ9 at *
    go_wp2_with fail
    refine shc.mono ?_
    rintro x w12 ⟨rfl, hr12, hm12⟩
    have S12 := SS.moves hr12 hm12
    have rowt' := rowt.moves hm12
    have m0 := S12.d5 0 _ rfl
    have m1 := S12.d5 1 _ rfl
    have m2 := S12.d5 2 _ rfl
    have m3 := S12.d5 3 _ rfl
    have m4 := S12.d5 4 _ rfl
    have m5 := S12.d5 5 _ rfl
    have m6 := S12.d5 6 _ rfl
    have m7 := S12.d5 7 _ rfl
    have m8 := S12.d5 8 _ rfl
    have m9 := S12.d5 9 _ rfl
    go_wp2_with fail
    refine (node_k S12.rep s1 0 (R.doIf T (R.does T f) σ2).t (R.doIf T (R.does T f) σ2).L (R.doIf T (R.does T f) σ2).two false lv tv S12.row.row rowt'.row hnn.out).mono ?_
    rintro x w13 ⟨rfl, r13, hr13, hm13⟩
    go_wp2_with fail
    go_ret
    rw [HI.out]
    exact ⟨rfl, r13, hr13, S12.mv.transX hm13 (fun j hj => hj.elim (S12.lo j) (LOT.out j))⟩
end Go.Proofs.YtejbgcloblpbfaaGreatDoor
namespace Go.Proofs.YtejbgcloblpbfaaGreatDoor
open Go.RowKit
open K (Nm Ex Do)
set_option maxRecDepth 100000 in
set_option maxHeartbeats 10000000 in
theorem rd_put (p : Int) (n : Nm) (i e : Ex) (hi : EvDoes i) (he : EvDoes e) : RdDoes (.put p n i e) := by
  intro B w b g tb W u h hd hw _
  unfold DoIs at hd
  subst hd
  unfold V.wfD at hw
  obtain ⟨h0, h1, h6, hp, wi, we⟩ := hw
  have a1 := ad_Put_Set
  have a2 := ad_Put_Put
  have hpl := fun (w : World) (h' : RAt w b g tb W) => placeIn_c n i hi w b g tb W h' h0 h1 h6 hp wi
  have hm := V.md_lt (V.ev W i) h1 h6
  have few := h.few
  have hne := h.ne
  obtain ⟨k, hk⟩ := Int.eq_ofNat_of_zero_le (show 0 ≤ n.place + V.md (V.ev W i) n.size by omega)
  have hkl : k < W.length := by omega
  have hz : (k : Int) < (W.length : Int) := by omega
  have HV : Hid (V.rd (.put p n i e) W = W.set k (V.ev W e)) := by show _ = _; rw [V.rd, hk]; rfl
  rw [HV.out]
  rw [hk] at hpl
  clear HV hm h0 h1 h6 hp
  unfold nmV at hpl
  have hx := fun (w : World) (h' : RAt w b g tb W) => he w b g tb W h' we
  rw [exV_good (V.wf_good wi)] at hpl ⊢
  rw [exV_good (V.wf_good we)] at hx ⊢
  have hcw := fun (w : World) (h' : RAt w b g tb W) => h'.word hkl
  clear hk
  generalize V.ev W e = v at *
  generalize W.getD k 0 = q at *
  generalize exT i = t at *
  generalize exP i = x at *
  generalize exT e = t2 at *
  generalize exP e = x2' at *
  obtain ⟨x0, x1, x2, x3, x4⟩ := n
  dsimp only at *
  have B0 : Below w.heap.size w (w.alloc (.cells #[.int .i64 p, .string x0, .int .i64 x1, .bool x2, .int .i64 x3, .int .i64 x4, .iface t x, .iface t2 x2'] 181 (0, 0))) := (Below.refl _ _).alloc (Nat.le_refl _) _
  have rr := h.below B0
  have bx := At.alloc_new w [.int .i64 p, .string x0, .int .i64 x1, .bool x2, .int .i64 x3, .int .i64 x4, .iface t x, .iface t2 x2'] 181
  have lb := h.cells.lt
  have lgg := h.words.lt
  go_enter Tryz.func90, Tryz.ntmps90
  go_upto_region 6 with fail
  generalize w.alloc (.cells #[.int .i64 p, .string x0, .int .i64 x1, .bool x2, .int .i64 x3, .int .i64 x4, .iface t x, .iface t2 x2'] 181 (0, 0)) = w0 at *
  have hlL := bx.lt
  have hLg : w.heap.size ≠ g := by omega
  have hLb : b ≠ g := hne
  have BL := below_but (g := g) B0
  generalize hLL : w.heap.size = L at *
  have KS : ∀ w' : World, Below w0.heap.size w0 w' → (w'.cell? ⟨L, 1, none⟩ = some (.string x0) ∧ w'.cell? ⟨L, 2, none⟩ = some (.int .i64 x1) ∧ w'.cell? ⟨L, 3, none⟩ = some (.bool x2) ∧ w'.cell? ⟨L, 4, none⟩ = some (.int .i64 x3) ∧ w'.cell? ⟨L, 5, none⟩ = some (.int .i64 x4) ∧ w'.cell? ⟨L, 6, none⟩ = some (.iface t x) ∧ w'.cell? ⟨L, 7, none⟩ = some (.iface t2 x2') ∧ w'.cell? ⟨b, 0, none⟩ = some (.slice (some ⟨g, 0, none⟩) W.length W.length)) := fun w' hb =>
    ⟨(hb.cell (p := ⟨L, 1, none⟩) hlL).trans (bx.cell 1), (hb.cell (p := ⟨L, 2, none⟩) hlL).trans (bx.cell 2), (hb.cell (p := ⟨L, 3, none⟩) hlL).trans (bx.cell 3), (hb.cell (p := ⟨L, 4, none⟩) hlL).trans (bx.cell 4), (hb.cell (p := ⟨L, 5, none⟩) hlL).trans (bx.cell 5), (hb.cell (p := ⟨L, 6, none⟩) hlL).trans (bx.cell 6), (hb.cell (p := ⟨L, 7, none⟩) hlL).trans (bx.cell 7), (rr.below hb).cells.cell 0⟩
  have KT : ∀ w' : World, (w'.cell? ⟨L, 1, none⟩ = some (.string x0) ∧ w'.cell? ⟨L, 2, none⟩ = some (.int .i64 x1) ∧ w'.cell? ⟨L, 3, none⟩ = some (.bool x2) ∧ w'.cell? ⟨L, 4, none⟩ = some (.int .i64 x3) ∧ w'.cell? ⟨L, 5, none⟩ = some (.int .i64 x4) ∧ w'.cell? ⟨L, 6, none⟩ = some (.iface t x) ∧ w'.cell? ⟨L, 7, none⟩ = some (.iface t2 x2') ∧ w'.cell? ⟨b, 0, none⟩ = some (.slice (some ⟨g, 0, none⟩) W.length W.length)) → ∀ v, (fun (w' : World) => w'.cell? ⟨L, 1, none⟩ = some (.string x0) ∧ w'.cell? ⟨L, 2, none⟩ = some (.int .i64 x1) ∧ w'.cell? ⟨L, 3, none⟩ = some (.bool x2) ∧ w'.cell? ⟨L, 4, none⟩ = some (.int .i64 x3) ∧ w'.cell? ⟨L, 5, none⟩ = some (.int .i64 x4) ∧ w'.cell? ⟨L, 6, none⟩ = some (.iface t x) ∧ w'.cell? ⟨L, 7, none⟩ = some (.iface t2 x2') ∧ w'.cell? ⟨b, 0, none⟩ = some (.slice (some ⟨g, 0, none⟩) W.length W.length)) (w'.setCell ⟨g, k, none⟩ v) := fun w' hs v => by
    obtain ⟨s1, s2, s3, s4, s5, s6, s7, s8⟩ := hs
    refine ⟨?_, ?_, ?_, ?_, ?_, ?_, ?_, ?_⟩
    all_goals rw [World.cell?_setCell_far]
    all_goals first | assumption | exact fun e => hLg e.symm | exact fun e => hLb e.symm
  have hpl' := fun (w' : World) (hb : Below w0.heap.size w0 w') => hpl w' (rr.below hb)
  have hx' := fun (w' : World) (hb : Below w0.heap.size w0 w') => hx w' (rr.below hb)
  have hcw' := fun (w' : World) (hb : Below w0.heap.size w0 w') => hcw w' (rr.below hb)
  have hfw' := fun (w' : World) (hb : Below w0.heap.size w0 w') => (rr.below hb).words.frozen k
  have Bd : Below w0.heap.size w0 w0.drew := ⟨rfl, rfl, rfl, Nat.le_refl _, fun _ _ => rfl⟩
  clear hx hpl hcw bx
  go_region_held (fun (w' : World) => w'.cell? ⟨L, 1, none⟩ = some (.string x0) ∧ w'.cell? ⟨L, 2, none⟩ = some (.int .i64 x1) ∧ w'.cell? ⟨L, 3, none⟩ = some (.bool x2) ∧ w'.cell? ⟨L, 4, none⟩ = some (.int .i64 x3) ∧ w'.cell? ⟨L, 5, none⟩ = some (.int .i64 x4) ∧ w'.cell? ⟨L, 6, none⟩ = some (.iface t x) ∧ w'.cell? ⟨L, 7, none⟩ = some (.iface t2 x2') ∧ w'.cell? ⟨b, 0, none⟩ = some (.slice (some ⟨g, 0, none⟩) W.length W.length)) (first | exact KT _ (KS _ B2) _ | exact KS _ B2 | exact KS _ B1 | exact KS _ Bd) (first | (go_at_call 113; refine (hpl' _ Bd).mono ?_; rintro z w1 ⟨rfl, hb1⟩; have B1 := Bd.trans (hb1.mono Bd.size)) | (go_at_call 112; refine (hx' _ B1).mono ?_; rintro z w2 ⟨rfl, hb2⟩; have B2 := B1.trans (hb2.mono B1.size); have cw := hcw' _ B2; have fw := hfw' _ B2))
  all_goals
    go_wp2_with fail
    go_end0
    exact ⟨rfl, (rr.below B2).set hne k v, ((BL.trans (below_but B2)).set k _)⟩
end Go.Proofs.YtejbgcloblpbfaaGreatDoor
