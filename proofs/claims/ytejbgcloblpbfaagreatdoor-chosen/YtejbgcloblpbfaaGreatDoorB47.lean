import Derived.Test.YtejbgcloblpbfaaGreatDoorB46
namespace Go.Proofs.YtejbgcloblpbfaaGreatDoor
open Go.RowKit
open K (Nm Ex Do)
namespace Y
set_option maxRecDepth 100000 in
set_option maxHeartbeats 4000000 in
theorem doBoth_c {N : Nat} (p0 : Int) (e : Ex) (y n : List Do) (he : K.good e = true) (hx : ExW e) (hy : DosW N y) (hn : DosW N n) (wy : V.wfL N y) (wn : V.wfL N n) (B : Nat → Prop) (w : World) (p : WP) (C : List Ins) (a b : Nat) (W K : List Nat) (yv nv : Value) (ys ns : List Value)
    (h : WAt w p C R8 (a :: b :: W) K) (dr : DRow B w yv ys) (de : Each B w y ys) (dr2 : DRow B w nv ns) (de2 : Each B w n ns) (hB : ∀ k, B k → k < p.lo) (hW : ∀ x ∈ a :: b :: W, x < 256)
    (h1 : need e ≤ W.length) (h2 : needD.needL y ≤ W.length) (h3 : needD.needL n ≤ W.length) (hc : C.length + (cE e + cD.cDs y + cD.cDs n + 11) < 90000) (hk1 : K.length + 1 + needD.needL y ≤ 1000) (hk2 : K.length + 1 + needD.needL n ≤ 1000) :
    Calls Tryz.prog 155 #[WV p, .agg #[.int .i64 p0, exV e, yv, nv]] w fun x w' => x = .returned (.tuple #[]) ∧ WAt w' p (C ++ ((exC R8 W e).1 ++ (coC (R8.erase (exC R8 W e).2) (exC R8 W e).2 a b K.getLast? ++ (dosC (C.length + (exC R8 W e).1.length + (coC (R8.erase (exC R8 W e).2) (exC R8 W e).2 a b K.getLast?).length) W (some a) y ++ dosC (C.length + (exC R8 W e).1.length + (coC (R8.erase (exC R8 W e).2) (exC R8 W e).2 a b K.getLast?).length + (dosC (C.length + (exC R8 W e).1.length + (coC (R8.erase (exC R8 W e).2) (exC R8 W e).2 a b K.getLast?).length) W (some a) y).length) W (some b) n)))) R8 (a :: b :: W) K ∧ Fk p.lo w w' := by
  obtain ⟨la, ln, lc, hlv⟩ := dr.form
  subst hlv
  obtain ⟨ra, rn, rc, hrv⟩ := dr2.form
  subst hrv
  obtain ⟨W0, hW0⟩ : ∃ W0, w.alloc (.cells #[.int .i64 p0, exV e, .slice la ln lc, .slice ra rn rc] 184 (0, 0)) = W0 := ⟨_, rfl⟩
  have h0 : WAt W0 p C R8 (a :: b :: W) K := by rw [← hW0]; exact h.alloc _
  have F0 : Hid (Fk p.lo w W0) := by rw [← hW0]; exact (Fk.refl _ _).alloc _
  have RF : Hid (At W0 w.heap.size 184 [.int .i64 p0, exV e, .slice la ln lc, .slice ra rn rc]) := by rw [← hW0]; exact At.alloc_new w _ _
  have hsW := h.words.srt
  have hsW2 := (List.pairwise_cons.1 hsW).2
  have hwc := h.words.lt.2.2.2
  have hlo := h.hl
  have hW' : ∀ x ∈ W, x < 256 := fun x hx => hW x (List.mem_cons_of_mem _ (List.mem_cons_of_mem _ hx))
  have ht1 := take_c h0.words
  obtain ⟨_, c2⟩ := h0.c
  have hsc := fun (w : World) (C' : List Ins) (h' : WAt w p C' R8 W K) (hc' : C'.length + cE e + 9 < 90000) => stc_c e he hx w p C' R8 W K h' (h'.fine8 hW') (by decide) h1 hc' (by omega) a b
  have hcol : (coC (R8.erase (exC R8 W e).2) (exC R8 W e).2 a b K.getLast?).length ≤ 9 := coC_len _ _ _ _ _
  have hel := exC_len e R8 W
  have hdl := dosC_len y (C.length + (exC R8 W e).1.length + (coC (R8.erase (exC R8 W e).2) (exC R8 W e).2 a b K.getLast?).length) W (some a)
  have hkp : ∀ w' : World, Fk p.lo w w' → ∀ k, B k → k < w.heap.size → w'.heap[k]? = w.heap[k]? := fun w' f k b1 b2 => f.low k (hB k b1) b2
  have hyy := fun (w' : World) (C' : List Ins) (h' : WAt w' p C' R8 W K) (f : Fk p.lo w w') (hc' : C'.length + cD.cDs y < 90000) => dosUnder_c hy wy B w' p C' W K a (.slice la ln lc) ys h' (dr.keep (hkp w' f)) (de.keep (hkp w' f)) hB hW' h2 hc' hk1
  have hnn := fun (w' : World) (C' : List Ins) (h' : WAt w' p C' R8 W K) (f : Fk p.lo w w') (hc' : C'.length + cD.cDs n < 90000) => dosUnder_c hn wn B w' p C' W K b (.slice ra rn rc) ns h' (dr2.keep (hkp w' f)) (de2.keep (hkp w' f)) hB hW' h3 hc' hk2
  have z1 := RF.out.cell 1
  simp only [List.getElem?_cons_zero, List.getElem?_cons_succ] at z1
  rw [exV_good he] at z1 hW0 RF ⊢
  simp only [exV_good he] at hsc
  generalize exT e = te at *
  generalize exP e = xe at *
  generalize hco : coC (R8.erase (exC R8 W e).2) (exC R8 W e).2 a b K.getLast? = CO at *
  generalize exC R8 W e = X at *
  have H0 := hide h0
  have HL : Hid (CO.length ≤ 9 ∧ X.1.length ≤ cE e ∧ C.length + (cE e + cD.cDs y + cD.cDs n + 11) < 90000 ∧ (dosC (C.length + X.1.length + CO.length) W (some a) y).length ≤ cD.cDs y) := ⟨hcol, hel, hc, hdl⟩
  clear h h0 hx he hcol hel hc hdl hco dr de dr2 de2
  go_enter_defers Tryz.func155, Tryz.ntmps155
  go_wp2_with fail
  refine ht1.mono ?_
  rintro v w1 ⟨rfl, P1, T1⟩
  obtain ⟨h1', b1⟩ := H0.out.words' P1 T1
  obtain ⟨_, c2'⟩ := h1'.c
  have ht2 := take_c h1'.words
  have H1 := hide h1'
  clear h1' P1
  go_wp2_with fail
  refine ht2.mono ?_
  rintro v w2 ⟨rfl, P2, T2⟩
  obtain ⟨h2', b2⟩ := H1.out.words' P2 T2
  obtain ⟨_, c2''⟩ := h2'.c
  have b12 := b1.trans b2
  have R2 := b12.at_ RF.out (by decide) (by decide) (by decide) (by decide)
  have k1 := R2.cell 1
  simp only [List.getElem?_cons_zero, List.getElem?_cons_succ] at k1
  have hst := hsc w2 C h2' (by have := HL.out; omega)
  clear h2' P2 R2
  go_wp2_with fail
  refine hst.mono ?_
  rintro v w3 ⟨rfl, h3', b3⟩
  have F3 := (F0.out.trans b12).trans b3
  have R3 := (b12.trans b3).at_ RF.out (by decide) (by decide) (by decide) (by decide)
  have k2 := R3.cell 2
  simp only [List.getElem?_cons_zero, List.getElem?_cons_succ] at k2
  have hY := hyy w3 _ h3' F3 (by have := HL.out; simp only [List.length_append]; omega)
  have HF3 := hide F3
  clear h3' F3 R3 hst hsc
  go_wp2_with fail
  refine hY.mono ?_
  rintro v w4 ⟨rfl, h4', b4⟩
  have F4 := HF3.out.trans b4
  have R4 := ((b12.trans b3).trans b4).at_ RF.out (by decide) (by decide) (by decide) (by decide)
  have k3 := R4.cell 3
  simp only [List.getElem?_cons_zero, List.getElem?_cons_succ] at k3
  have el : (C ++ (X.1 ++ CO)).length = C.length + X.1.length + CO.length := by simp only [List.length_append]; omega
  rw [el] at h4'
  have hN := hnn w4 _ h4' F4 (by have := HL.out; simp only [List.length_append]; omega)
  have HF4 := hide F4
  have el2 : (C ++ (X.1 ++ CO) ++ dosC (C.length + X.1.length + CO.length) W (some a) y).length = C.length + X.1.length + CO.length + (dosC (C.length + X.1.length + CO.length) W (some a) y).length := by simp only [List.length_append]; omega
  rw [el2] at hN
  clear h4' F4 R4 hY hyy hnn el2
  go_wp2_with fail
  refine hN.mono ?_
  rintro v w5 ⟨rfl, h5', b5⟩
  go_wp2_with fail
  refine leaves_cons (f := 149) (args := #[.pointer (some ⟨p.wp, 0, none⟩), .int .i64 (b : Int)]) (by simp) (by simp [go_sem]) ?_
  refine (h5'.giveW .returning (Srt.hd_not hsW2) (by simp at hwc; omega)).mono ?_
  rintro v u1 w6 ⟨rfl, rfl, h6, b6⟩
  rw [Srt.ins_hd hsW2] at h6
  refine leaves_cons (f := 149) (args := #[.pointer (some ⟨p.wp, 0, none⟩), .int .i64 (a : Int)]) (by simp [settle]) (by simp [go_sem]) ?_
  refine (h6.giveW _ (Srt.hd_not hsW) (by simp at hwc ⊢; omega)).mono ?_
  rintro v u2 w7 ⟨rfl, rfl, h7, b7⟩
  refine ⟨_, results_none rfl _ _ _, rfl, ?_, ((HF4.out.trans b5).trans b6).trans b7⟩
  rw [Srt.ins_hd hsW] at h7
  simp only [List.append_assoc] at h7
  exact h7
end Y
end Go.Proofs.YtejbgcloblpbfaaGreatDoor
namespace Go.Proofs.YtejbgcloblpbfaaGreatDoor
open Go.RowKit
open K (Nm Ex Do)
namespace Y
set_option maxRecDepth 100000 in
set_option maxHeartbeats 4000000 in
theorem branch_pub {N : Nat} (p0 : Int) (e : Ex) (y n : List Do) (he : K.good e = true) (hq : K.sec e = false) (hx : ExW e) (hy : DosW N y) (hn : DosW N n) (wy : V.wfL N y) (wn : V.wfL N n) (B : Nat → Prop) (w : World) (p : WP) (C : List Ins) (W K : List Nat) (yv nv : Value) (ys ns : List Value)
    (h : WAt w p C R8 W K) (dr : DRow B w yv ys) (de : Each B w y ys) (dr2 : DRow B w nv ns) (de2 : Each B w n ns) (hB : ∀ k, B k → k < p.lo) (hW : ∀ x ∈ W, x < 256)
    (h1 : need e ≤ W.length) (h2 : needD.needL y ≤ W.length) (h3 : needD.needL n ≤ W.length) (hc : C.length + (cE e + cD.cDs y + cD.cDs n + 11) < 90000) (hk1 : K.length + needD.needL y ≤ 1000) (hk2 : K.length + needD.needL n ≤ 1000) :
    Calls Tryz.prog 125 #[WV p, .agg #[.int .i64 p0, exV e, yv, nv]] w fun x w' => x = .returned (.tuple #[]) ∧ WAt w' p (C ++ ((exC R8 W e).1 ++ (.jz (exC R8 W e).2 (C.length + (exC R8 W e).1.length + 1 + (dosC (C.length + (exC R8 W e).1.length + 1) W K.getLast? y).length + 1) :: (dosC (C.length + (exC R8 W e).1.length + 1) W K.getLast? y ++ (.jmp (C.length + (exC R8 W e).1.length + 1 + (dosC (C.length + (exC R8 W e).1.length + 1) W K.getLast? y).length + 1 + (dosC (C.length + (exC R8 W e).1.length + 1 + (dosC (C.length + (exC R8 W e).1.length + 1) W K.getLast? y).length + 1) W K.getLast? n).length) :: dosC (C.length + (exC R8 W e).1.length + 1 + (dosC (C.length + (exC R8 W e).1.length + 1) W K.getLast? y).length + 1) W K.getLast? n))))) R8 W K ∧ Fk p.lo w w' := by
  obtain ⟨la, ln, lc, hlv⟩ := dr.form
  subst hlv
  obtain ⟨ra, rn, rc, hrv⟩ := dr2.form
  subst hrv
  have hm := sec_method e he
  have hna := sec_ahead e he
  have hen := sec_enter e he
  have hs := sec_c e he
  unfold SecDoes at hs
  rw [hq] at hs
  obtain ⟨W0, hW0⟩ : ∃ W0, w.alloc (.cells #[.int .i64 p0, exV e, .slice la ln lc, .slice ra rn rc] 184 (0, 0)) = W0 := ⟨_, rfl⟩
  have h0 : WAt W0 p C R8 W K := by rw [← hW0]; exact h.alloc _
  have F0 : Hid (Fk p.lo w W0) := by rw [← hW0]; exact (Fk.refl _ _).alloc _
  have RF : Hid (At W0 w.heap.size 184 [.int .i64 p0, exV e, .slice la ln lc, .slice ra rn rc]) := by rw [← hW0]; exact At.alloc_new w _ _
  have hju := fun (w : World) (h' : WAt w p C R8 W K) => jumpUnless_c e he hx w p C R8 W K h' (h'.fine8 hW) h1 (by omega)
  have hel := exC_len e R8 W
  have hdl := dosC_len y (C.length + (exC R8 W e).1.length + 1) W K.getLast?
  have hdn := dosC_len n (C.length + (exC R8 W e).1.length + 1 + (dosC (C.length + (exC R8 W e).1.length + 1) W K.getLast? y).length + 1) W K.getLast?
  have hkp : ∀ w' : World, Fk p.lo w w' → ∀ k, B k → k < w.heap.size → w'.heap[k]? = w.heap[k]? := fun w' f k b1 b2 => f.low k (hB k b1) b2
  have hyy := fun (w' : World) (C' : List Ins) (h' : WAt w' p C' R8 W K) (f : Fk p.lo w w') (hc' : C'.length + cD.cDs y < 90000) => hy B w' p C' W K (.slice la ln lc) ys h' (dr.keep (hkp w' f)) (de.keep (hkp w' f)) hB hW wy h2 hc' hk1
  have hnn := fun (w' : World) (C' : List Ins) (h' : WAt w' p C' R8 W K) (f : Fk p.lo w w') (hc' : C'.length + cD.cDs n < 90000) => hn B w' p C' W K (.slice ra rn rc) ns h' (dr2.keep (hkp w' f)) (de2.keep (hkp w' f)) hB hW wn h3 hc' hk2
  have z1 := RF.out.cell 1
  simp only [List.getElem?_cons_zero, List.getElem?_cons_succ] at z1
  rw [exV_good he] at z1 hW0 RF ⊢
  simp only [exV_good he] at hju
  generalize exM e = me at *
  generalize exT e = te at *
  generalize exP e = xe at *
  generalize exC R8 W e = X at *
  generalize hp1 : C.length + X.1.length + 1 = p1 at *
  generalize hY : dosC p1 W K.getLast? y = Y at *
  generalize hp2 : p1 + Y.length + 1 = p2 at *
  generalize hNn : dosC p2 W K.getLast? n = Z at *
  have H0 := hide h0
  have HL : Hid (X.1.length ≤ cE e ∧ C.length + (cE e + cD.cDs y + cD.cDs n + 11) < 90000 ∧ Y.length ≤ cD.cDs y ∧ Z.length ≤ cD.cDs n) := ⟨hel, hc, hdl, hdn⟩
  have Hp1 := hide hp1
  have Hp2 := hide hp2
  have HY := hide hY
  have HZ := hide hNn
  clear h h0 hx he hel hc hdl hdn dr de dr2 de2 hp1 hp2 hY hNn
  go_enter Tryz.func125, Tryz.ntmps125
  go_wp2_with fail
  refine (hs _).mono ?_
  rintro v w1 ⟨rfl, B1⟩
  have h1' : WAt w1 p C R8 W K := H0.out.same fun k hk => B1.block k hk
  have b1 : Fk p.lo W0 w1 := ⟨B1.os, B1.tape, B1.output, B1.size, fun k _ hk => B1.block k hk, fun k c t f hc _ _ _ _ => B1.block k (heap_lt hc)⟩
  have R1 := b1.at_ RF.out (by decide) (by decide) (by decide) (by decide)
  have k1 := R1.cell 1
  simp only [List.getElem?_cons_zero, List.getElem?_cons_succ] at k1
  have hj := hju w1 h1'
  obtain ⟨q4, hq4⟩ : ∃ q, Hid (C.length + X.1.length = q) := ⟨_, rfl⟩
  rw [hq4.out] at hj
  have HR1 := hide R1
  clear h1' R1 hju
  go_wp2_with fail
  refine hj.mono ?_
  rintro v w2 ⟨rfl, h2', b2⟩
  have R2 := b2.at_ HR1.out (by decide) (by decide) (by decide) (by decide)
  have k2 := R2.cell 2
  simp only [List.getElem?_cons_zero, List.getElem?_cons_succ] at k2
  have F2 := (F0.out.trans b1).trans b2
  have hYc := hyy w2 _ h2' F2 (by have := HL.out; simp only [List.length_append, List.length_cons, List.length_nil]; omega)
  have el : (C ++ (X.1 ++ [Ins.jz X.2 0])).length = p1 := by rw [← Hp1.out]; simp only [List.length_append, List.length_cons, List.length_nil]; omega
  rw [el, HY.out] at hYc
  have HR2 := hide R2
  have HF2 := hide F2
  clear h2' R2 F2 el hj hyy
  go_wp2_with fail
  refine hYc.mono ?_
  rintro v w3 ⟨rfl, h3', b3⟩
  have hJ := jump_c h3' (by have := HL.out; simp only [List.length_append, List.length_cons, List.length_nil]; omega)
  obtain ⟨q5, hq5⟩ : ∃ q, Hid ((C ++ (X.1 ++ [Ins.jz X.2 0]) ++ Y).length = q) := ⟨_, rfl⟩
  rw [hq5.out] at hJ
  clear h3'
  go_wp2_with fail
  refine hJ.mono ?_
  rintro v w4 ⟨rfl, h4', b4⟩
  have e4 : C ++ (X.1 ++ [Ins.jz X.2 0]) ++ Y ++ [Ins.jmp 0] = (C ++ X.1) ++ Ins.jz X.2 0 :: (Y ++ [Ins.jmp 0]) := by simp
  rw [e4] at h4'
  have hL1 := land_jz h4' (by have := HL.out; simp only [List.length_append, List.length_cons, List.length_nil]; omega)
  have el4 : ((C ++ X.1) ++ Ins.jz X.2 0 :: (Y ++ [Ins.jmp 0])).length = p2 := by rw [← Hp2.out, ← Hp1.out]; simp only [List.length_append, List.length_cons, List.length_nil]; omega
  have el5 : (C ++ X.1).length = C.length + X.1.length := by rw [List.length_append]
  rw [el4, el5, hq4.out] at hL1
  clear h4' e4 el4 el5
  go_wp2_with fail
  refine hL1.mono ?_
  rintro v w5 ⟨rfl, h5', b5⟩
  have b35 := ((b3.trans b4).trans b5)
  have R5 := b35.at_ HR2.out (by decide) (by decide) (by decide) (by decide)
  have k3 := R5.cell 3
  simp only [List.getElem?_cons_zero, List.getElem?_cons_succ] at k3
  have F5 := HF2.out.trans b35
  have hNc := hnn w5 _ h5' F5 (by have := HL.out; simp only [List.length_append, List.length_cons, List.length_nil]; omega)
  have el6 : ((C ++ X.1) ++ Ins.jz X.2 p2 :: (Y ++ [Ins.jmp 0])).length = p2 := by rw [← Hp2.out, ← Hp1.out]; simp only [List.length_append, List.length_cons, List.length_nil]; omega
  rw [el6, HZ.out] at hNc
  have HF5 := hide F5
  clear h5' R5 F5 el6 hnn
  go_wp2_with fail
  refine hNc.mono ?_
  rintro v w6 ⟨rfl, h6', b6⟩
  have e6 : (C ++ X.1) ++ Ins.jz X.2 p2 :: (Y ++ [Ins.jmp 0]) ++ Z = ((C ++ X.1) ++ Ins.jz X.2 p2 :: Y) ++ Ins.jmp 0 :: Z := by simp
  rw [e6] at h6'
  have hL2 := land_jmp h6' (by have := HL.out; simp only [List.length_append, List.length_cons]; omega)
  have el7 : (((C ++ X.1) ++ Ins.jz X.2 p2 :: Y) ++ Ins.jmp 0 :: Z).length = p2 + Z.length := by rw [← Hp2.out, ← Hp1.out]; simp only [List.length_append, List.length_cons]; omega
  have el8 : ((C ++ X.1) ++ Ins.jz X.2 p2 :: Y).length = (C ++ (X.1 ++ [Ins.jz X.2 0]) ++ Y).length := by simp only [List.length_append, List.length_cons, List.length_nil]; omega
  rw [el7, el8, hq5.out] at hL2
  clear h6' e6 el7 el8
  go_wp2_with fail
  refine hL2.mono ?_
  rintro v w7 ⟨rfl, h7, b7⟩
  go_wp2_with fail
  go_end0
  refine ⟨rfl, ?_, (HF5.out.trans b6).trans b7⟩
  simp only [List.append_assoc, List.cons_append] at h7 ⊢
  exact h7
set_option maxRecDepth 100000 in
set_option maxHeartbeats 4000000 in
theorem branch_sec {N : Nat} (p0 : Int) (e : Ex) (y n : List Do) (he : K.good e = true) (hq : K.sec e = true) (hx : ExW e) (hy : DosW N y) (hn : DosW N n) (wy : V.wfL N y) (wn : V.wfL N n) (B : Nat → Prop) (w : World) (p : WP) (C : List Ins) (a b : Nat) (W K : List Nat) (yv nv : Value) (ys ns : List Value)
    (h : WAt w p C R8 (a :: b :: W) K) (dr : DRow B w yv ys) (de : Each B w y ys) (dr2 : DRow B w nv ns) (de2 : Each B w n ns) (hB : ∀ k, B k → k < p.lo) (hW : ∀ x ∈ a :: b :: W, x < 256)
    (h1 : need e ≤ W.length) (h2 : needD.needL y ≤ W.length) (h3 : needD.needL n ≤ W.length) (hc : C.length + (cE e + cD.cDs y + cD.cDs n + 11) < 90000) (hk1 : K.length + 1 + needD.needL y ≤ 1000) (hk2 : K.length + 1 + needD.needL n ≤ 1000) :
    Calls Tryz.prog 125 #[WV p, .agg #[.int .i64 p0, exV e, yv, nv]] w fun x w' => x = .returned (.tuple #[]) ∧ WAt w' p (C ++ ((exC R8 W e).1 ++ (coC (R8.erase (exC R8 W e).2) (exC R8 W e).2 a b K.getLast? ++ (dosC (C.length + (exC R8 W e).1.length + (coC (R8.erase (exC R8 W e).2) (exC R8 W e).2 a b K.getLast?).length) W (some a) y ++ dosC (C.length + (exC R8 W e).1.length + (coC (R8.erase (exC R8 W e).2) (exC R8 W e).2 a b K.getLast?).length + (dosC (C.length + (exC R8 W e).1.length + (coC (R8.erase (exC R8 W e).2) (exC R8 W e).2 a b K.getLast?).length) W (some a) y).length) W (some b) n)))) R8 (a :: b :: W) K ∧ Fk p.lo w w' := by
  obtain ⟨la, ln, lc, hlv⟩ := dr.form
  subst hlv
  obtain ⟨ra, rn, rc, hrv⟩ := dr2.form
  subst hrv
  have hm := sec_method e he
  have hna := sec_ahead e he
  have hen := sec_enter e he
  have hs := sec_c e he
  unfold SecDoes at hs
  rw [hq] at hs
  obtain ⟨W0, hW0⟩ : ∃ W0, w.alloc (.cells #[.int .i64 p0, exV e, .slice la ln lc, .slice ra rn rc] 184 (0, 0)) = W0 := ⟨_, rfl⟩
  have h0 : WAt W0 p C R8 (a :: b :: W) K := by rw [← hW0]; exact h.alloc _
  have F0 : Hid (Fk p.lo w W0) := by rw [← hW0]; exact (Fk.refl _ _).alloc _
  have RF : Hid (At W0 w.heap.size 184 [.int .i64 p0, exV e, .slice la ln lc, .slice ra rn rc]) := by rw [← hW0]; exact At.alloc_new w _ _
  have hkp : ∀ w' : World, Fk p.lo w w' → ∀ k, B k → k < w.heap.size → w'.heap[k]? = w.heap[k]? := fun w' f k b1 b2 => f.low k (hB k b1) b2
  have hdb := fun (w' : World) (h' : WAt w' p C R8 (a :: b :: W) K) (f : Fk p.lo w w') => doBoth_c p0 e y n he hx hy hn wy wn B w' p C a b W K (.slice la ln lc) (.slice ra rn rc) ys ns h' (dr.keep (hkp w' f)) (de.keep (hkp w' f)) (dr2.keep (hkp w' f)) (de2.keep (hkp w' f)) hB hW h1 h2 h3 hc hk1 hk2
  have z1 := RF.out.cell 1
  simp only [List.getElem?_cons_zero, List.getElem?_cons_succ] at z1
  rw [exV_good he] at z1 hW0 RF ⊢
  simp only [exV_good he] at hdb
  generalize (C ++ ((exC R8 W e).1 ++ (coC (R8.erase (exC R8 W e).2) (exC R8 W e).2 a b K.getLast? ++ (dosC (C.length + (exC R8 W e).1.length + (coC (R8.erase (exC R8 W e).2) (exC R8 W e).2 a b K.getLast?).length) W (some a) y ++ dosC (C.length + (exC R8 W e).1.length + (coC (R8.erase (exC R8 W e).2) (exC R8 W e).2 a b K.getLast?).length + (dosC (C.length + (exC R8 W e).1.length + (coC (R8.erase (exC R8 W e).2) (exC R8 W e).2 a b K.getLast?).length) W (some a) y).length) W (some b) n)))) = CC at *
  generalize exM e = me at *
  generalize exT e = te at *
  generalize exP e = xe at *
  have H0 := hide h0
  clear h h0 hx he dr de dr2 de2
  go_enter Tryz.func125, Tryz.ntmps125
  go_wp2_with fail
  refine (hs _).mono ?_
  rintro v w1 ⟨rfl, B1⟩
  have h1' : WAt w1 p C R8 (a :: b :: W) K := H0.out.same fun k hk => B1.block k hk
  have b1 : Fk p.lo W0 w1 := ⟨B1.os, B1.tape, B1.output, B1.size, fun k _ hk => B1.block k hk, fun k c t f hc _ _ _ _ => B1.block k (heap_lt hc)⟩
  have R1 := b1.at_ RF.out (by decide) (by decide) (by decide) (by decide)
  have k0 := R1.cell 0
  have k1 := R1.cell 1
  have k2 := R1.cell 2
  have k3 := R1.cell 3
  simp only [List.getElem?_cons_zero, List.getElem?_cons_succ] at k0 k1 k2 k3
  have F1 := F0.out.trans b1
  have hj := hdb w1 h1' F1
  have HF1 := hide F1
  clear h1' R1 hdb F1
  go_wp2_with fail
  refine hj.mono ?_
  rintro v w2 ⟨rfl, h2', b2⟩
  go_wp2_with fail
  (try simp only [Exit.inBlock, Exit.then])
  refine bodyPost_ret (results_none rfl _ _ _) rfl ?_
  exact ⟨rfl, h2', HF1.out.trans b2⟩
end Y
end Go.Proofs.YtejbgcloblpbfaaGreatDoor
namespace Go.Proofs.YtejbgcloblpbfaaGreatDoor
open Go.RowKit
open K (Nm Ex Do)
namespace Y
set_option maxRecDepth 100000 in
set_option maxHeartbeats 4000000 in
theorem floop_c {N : Nat} (p0 : Int) (n : Nm) (e : Ex) (l : List Do) (he : K.good e = true) (hx : ExW e) (hl : DosW N l) (wl : V.wfL N l) (B : Nat → Prop) (w : World) (p : WP) (C : List Ins) (c : Nat) (W K : List Nat) (lv : Value) (ls : List Value)
    (h : WAt w p C R8 (c :: W) K) (dr : DRow B w lv ls) (de : Each B w l ls) (hB : ∀ k, B k → k < p.lo) (hW : ∀ x ∈ c :: W, x < 256)
    (h1 : need e ≤ W.length) (h2 : needD.needL l ≤ W.length) (hc : C.length + (cE e + 14 + 5 * (cD.cDs l + 13)) < 90000) (hk1 : K.length + needD.needL l ≤ 1000) :
    Calls Tryz.prog 126 #[WV p, .agg #[.int .i64 p0, .string n.text, .int .i64 n.kind, .bool n.sec, .int .i64 n.size, .int .i64 n.place, exV e, lv]] w fun x w' => x = .returned (.tuple #[]) ∧ WAt w' p (C ++ ((exC R8 W e).1 ++ (roC (R8.erase (exC R8 W e).2) (exC R8 W e).2 c ++ ([.kst 0 0, .kst 1 n.place, .st 1 0] ++ (hdC n.place c (C.length + (exC R8 W e).1.length + 8 + 6 + (dosC (C.length + (exC R8 W e).1.length + 8 + 6) W K.getLast? l).length + 7) ++ (dosC (C.length + (exC R8 W e).1.length + 8 + 6) W K.getLast? l ++ onC n.place (C.length + (exC R8 W e).1.length + 8))))))) R8 (c :: W) K ∧ Fk p.lo w w' := by
  obtain ⟨x0, x1, x2, x3, x4⟩ := n
  obtain ⟨la, ln, lc, hlv⟩ := dr.form
  subst hlv
  obtain ⟨W0, hW0⟩ : ∃ W0, w.alloc (.cells #[.int .i64 p0, .string x0, .int .i64 x1, .bool x2, .int .i64 x3, .int .i64 x4, exV e, .slice la ln lc] 186 (0, 0)) = W0 := ⟨_, rfl⟩
  have h0 : WAt W0 p C R8 (c :: W) K := by rw [← hW0]; exact h.alloc _
  have F0 : Hid (Fk p.lo w W0) := by rw [← hW0]; exact (Fk.refl _ _).alloc _
  have RF : Hid (At W0 w.heap.size 186 [.int .i64 p0, .string x0, .int .i64 x1, .bool x2, .int .i64 x3, .int .i64 x4, exV e, .slice la ln lc]) := by rw [← hW0]; exact At.alloc_new w _ _
  have hsW := h.words.srt
  have hwc := h.words.lt.2.2.2
  have hW' : ∀ x ∈ W, x < 256 := fun x hx => hW x (List.mem_cons_of_mem _ hx)
  have ht1 := take_c h0.words
  obtain ⟨_, c2⟩ := h0.c
  have hro := fun (w : World) (h' : WAt w p C R8 W K) => rounds_c e he hx w p C R8 W K h' (h'.fine8 hW') (by decide) h1 (by omega) c
  have hrl : (roC (R8.erase (exC R8 W e).2) (exC R8 W e).2 c).length = 5 := rfl
  have hel := exC_len e R8 W
  have hdl := dosC_len l (C.length + (exC R8 W e).1.length + 8 + 6) W K.getLast?
  have hkp : ∀ w' : World, Fk p.lo w w' → ∀ k, B k → k < w.heap.size → w'.heap[k]? = w.heap[k]? := fun w' f k b1 b2 => f.low k (hB k b1) b2
  have hll := fun (w' : World) (C' : List Ins) (h' : WAt w' p C' R8 W K) (f : Fk p.lo w w') (hc' : C'.length + cD.cDs l < 90000) => hl B w' p C' W K (.slice la ln lc) ls h' (dr.keep (hkp w' f)) (de.keep (hkp w' f)) hB hW' wl h2 hc' hk1
  have z6 := RF.out.cell 6
  simp only [List.getElem?_cons_zero, List.getElem?_cons_succ] at z6
  rw [exV_good he] at z6 hW0 RF ⊢
  simp only [exV_good he] at hro
  dsimp only at *
  generalize exT e = te at *
  generalize exP e = xe at *
  generalize roC (R8.erase (exC R8 W e).2) (exC R8 W e).2 c = RO at *
  generalize exC R8 W e = X at *
  generalize hp1 : C.length + X.1.length + 8 = p1 at *
  generalize hBB : dosC (p1 + 6) W K.getLast? l = BB at *
  have H0 := hide h0
  have HL : Hid (X.1.length ≤ cE e ∧ RO.length = 5 ∧ BB.length ≤ cD.cDs l ∧ C.length + (cE e + 14 + 5 * (cD.cDs l + 13)) < 90000) := ⟨hel, hrl, hdl, hc⟩
  have Hp1 := hide hp1
  have HB := hide hBB
  clear h h0 hx he hel hc hdl hrl dr de hp1 hBB
  go_enter_defers Tryz.func126, Tryz.ntmps126
  go_wp2_with fail
  refine ht1.mono ?_
  rintro v w1 ⟨rfl, P1, T1⟩
  obtain ⟨h1', b1⟩ := H0.out.words' P1 T1
  obtain ⟨_, c2'⟩ := h1'.c
  have R1 := b1.at_ RF.out (by decide) (by decide) (by decide) (by decide)
  have k6 := R1.cell 6
  simp only [List.getElem?_cons_zero, List.getElem?_cons_succ] at k6
  have hr1 := hro w1 h1'
  clear h1' P1 R1 hro
  go_wp2_with fail
  refine hr1.mono ?_
  rintro v w2 ⟨rfl, h2', b2⟩
  have b12 := b1.trans b2
  have R2 := b12.at_ RF.out (by decide) (by decide) (by decide) (by decide)
  have k5 := R2.cell 5
  simp only [List.getElem?_cons_zero, List.getElem?_cons_succ] at k5
  have hsn := storeNumber_c (r := 0) (s := 1) (G := [2, 3, 4, 5, 6, 7]) h2' (by have := HL.out; simp only [List.length_append]; omega) x4 0
  clear h2' R2
  go_wp2_with fail
  refine hsn.mono ?_
  rintro v w3 ⟨rfl, h3', b3⟩
  have b13 := b12.trans b3
  have R3 := b13.at_ RF.out (by decide) (by decide) (by decide) (by decide)
  have k5' := R3.cell 5
  simp only [List.getElem?_cons_zero, List.getElem?_cons_succ] at k5'
  obtain ⟨ca, cc, cv, wl3⟩ := h3'.cv
  have el3 : (C ++ (X.1 ++ RO) ++ [Ins.kst 0 0, .kst 1 x4, .st 1 0]).length = p1 := by have := HL.out; rw [← Hp1.out]; simp only [List.length_append, List.length_cons, List.length_nil]; omega
  rw [el3] at cv
  have hju := jul_c (r := 0) (s := 1) (G := [2, 3, 4, 5, 6, 7]) h3' (by have := HL.out; simp only [List.length_append, List.length_cons, List.length_nil]; omega) x4 (c : Int)
  rw [el3] at hju
  obtain ⟨q5, hq5⟩ : ∃ q, Hid (p1 + 5 = q) := ⟨_, rfl⟩
  rw [hq5.out] at hju
  clear h3' R3
  go_wp2_with fail
  refine hju.mono ?_
  rintro v w4 ⟨rfl, h4', b4⟩
  have b14 := b13.trans b4
  have R4 := b14.at_ RF.out (by decide) (by decide) (by decide) (by decide)
  have k7 := R4.cell 7
  simp only [List.getElem?_cons_zero, List.getElem?_cons_succ] at k7
  have hl4 := hll w4 _ h4' (F0.out.trans b14) (by have := HL.out; simp only [List.length_append, List.length_cons, List.length_nil]; omega)
  have el4 : (C ++ (X.1 ++ RO) ++ [Ins.kst 0 0, .kst 1 x4, .st 1 0] ++ [Ins.kst 0 x4, .ld 0 0, .kst 1 (c : Int), .ld 1 1, .bin 60 0 0 1, .jz 0 0]).length = p1 + 6 := by rw [List.length_append, el3]; rfl
  rw [el4, HB.out] at hl4
  clear h4' R4 el4 hll
  go_wp2_with fail
  refine hl4.mono ?_
  rintro v w5 ⟨rfl, h5', b5⟩
  have b15 := b14.trans b5
  have R5 := b15.at_ RF.out (by decide) (by decide) (by decide) (by decide)
  have k5'' := R5.cell 5
  simp only [List.getElem?_cons_zero, List.getElem?_cons_succ] at k5''
  have hco := countOn_c (r := 0) (s := 1) (t := 2) (G := [3, 4, 5, 6, 7]) h5' (by have := HL.out; simp only [List.length_append, List.length_cons, List.length_nil]; omega) x4
  clear h5' R5
  go_wp2_with fail
  refine hco.mono ?_
  rintro v w6 ⟨rfl, h6', b6⟩
  have hjb := jumpBack_c h6' (by have := HL.out; simp only [List.length_append, List.length_cons, List.length_nil]; omega) p1
  clear h6'
  go_wp2_with fail
  refine hjb.mono ?_
  rintro v w7 ⟨rfl, h7', b7⟩
  have e7 : C ++ (X.1 ++ RO) ++ [Ins.kst 0 0, .kst 1 x4, .st 1 0] ++ [Ins.kst 0 x4, .ld 0 0, .kst 1 (c : Int), .ld 1 1, .bin 60 0 0 1, .jz 0 0] ++ BB ++ [Ins.kst 0 x4, .ld 0 0, .kst 1 1, .bin 43 0 0 1, .kst 2 x4, .st 2 0] ++ [Ins.jmp p1] = (C ++ (X.1 ++ RO) ++ [Ins.kst 0 0, .kst 1 x4, .st 1 0] ++ [Ins.kst 0 x4, .ld 0 0, .kst 1 (c : Int), .ld 1 1, .bin 60 0 0 1]) ++ Ins.jz 0 0 :: (BB ++ onC x4 p1) := by unfold onC; simp
  rw [e7] at h7'
  have hld := land_jz h7' (by have := HL.out; unfold onC; simp only [List.length_append, List.length_cons, List.length_nil]; omega)
  have el7 : ((C ++ (X.1 ++ RO) ++ [Ins.kst 0 0, .kst 1 x4, .st 1 0] ++ [Ins.kst 0 x4, .ld 0 0, .kst 1 (c : Int), .ld 1 1, .bin 60 0 0 1]) ++ Ins.jz 0 0 :: (BB ++ onC x4 p1)).length = p1 + 6 + BB.length + 7 := by
    rw [List.length_append, List.length_append, el3]
    unfold onC
    simp only [List.length_append, List.length_cons, List.length_nil]
    omega
  have el8 : (C ++ (X.1 ++ RO) ++ [Ins.kst 0 0, .kst 1 x4, .st 1 0] ++ [Ins.kst 0 x4, .ld 0 0, .kst 1 (c : Int), .ld 1 1, .bin 60 0 0 1]).length = p1 + 5 := by rw [List.length_append, el3]; rfl
  rw [el7, el8, hq5.out] at hld
  clear h7' e7 el7 el8
  go_wp2_with fail
  refine hld.mono ?_
  rintro v w8 ⟨rfl, h8, b8⟩
  go_wp2_with fail
  refine leaves_cons (f := 149) (args := #[.pointer (some ⟨p.wp, 0, none⟩), .int .i64 (c : Int)]) (by simp) (by simp [go_sem]) ?_
  refine (h8.giveW .returning (Srt.hd_not hsW) (by simp at hwc; omega)).mono ?_
  rintro v u1 w9 ⟨rfl, rfl, h9, b9⟩
  refine ⟨_, results_none rfl _ _ _, rfl, ?_, ((((F0.out.trans b15).trans b6).trans b7).trans b8).trans b9⟩
  rw [Srt.ins_hd hsW] at h9
  unfold hdC
  simp only [List.append_assoc, List.cons_append, List.nil_append] at h9 ⊢
  exact h9
def DoW (N : Nat) (d : Do) : Prop := ∀ (B : Nat → Prop) (w : World) (p : WP) (C : List Ins) (W K : List Nat) (u : Value), WAt w p C R8 W K → DoIs B w d u → (∀ k, B k → k < p.lo) → (∀ x ∈ W, x < 256) → V.wfD N d → needD d ≤ W.length → C.length + cD d < 90000 → K.length + needD d ≤ 1000 →
  Calls Tryz.prog 95 #[WV p, u] w fun x w' => x = .returned (.tuple #[]) ∧ WAt w' p (C ++ doC C.length W K.getLast? d) R8 W K ∧ Fk p.lo w w'
set_option maxRecDepth 100000 in
set_option maxHeartbeats 2000000 in
theorem dow_set {N : Nat} (p0 : Int) (n : Nm) (e : Ex) : DoW N (.set p0 n e) := by
  intro B w p C W K u h hd hB hW hw hn hc hK
  unfold DoIs at hd
  subst hd
  unfold V.wfD at hw
  have a1 := ad_Set_Set
  have hn' : need e ≤ W.length := hn
  have hc' : C.length + (cE e + 6) < 90000 := hc
  have he := V.wf_good hw.2.2
  obtain ⟨W0, hW0⟩ : ∃ W0, w.alloc (.cells #[.int .i64 p0, .string n.text, .int .i64 n.kind, .bool n.sec, .int .i64 n.size, .int .i64 n.place, exV e] 178 (0, 0)) = W0 := ⟨_, rfl⟩
  have h0 : WAt W0 p C R8 W K := by rw [← hW0]; exact h.alloc _
  have F0 : Hid (Fk p.lo w W0) := by rw [← hW0]; exact (Fk.refl _ _).alloc _
  have RF : At W0 w.heap.size 178 [.int .i64 p0, .string n.text, .int .i64 n.kind, .bool n.sec, .int .i64 n.size, .int .i64 n.place, exV e] := by rw [← hW0]; exact At.alloc_new w _ _
  have hg := setv_c p0 n e he (ew_all e hw.2.2) W0 p C R8 W K h0 (h0.fine8 hW) (by decide) hn' (by omega) (by omega)
  have e1 : doC C.length W K.getLast? (.set p0 n e) = (exC R8 W e).1 ++ (.kst (hd (R8.erase (exC R8 W e).2)) n.place :: chC (R8.erase (exC R8 W e).2).tail (hd (R8.erase (exC R8 W e).2)) (exC R8 W e).2 K.getLast?) := by rw [doC]
  rw [← e1] at hg
  generalize doC C.length W K.getLast? (.set p0 n e) = D at *
  have z0 := RF.cell 0
  have z1 := RF.cell 1
  have z2 := RF.cell 2
  have z3 := RF.cell 3
  have z4 := RF.cell 4
  have z5 := RF.cell 5
  have z6 := RF.cell 6
  simp only [List.getElem?_cons_zero, List.getElem?_cons_succ] at z0 z1 z2 z3 z4 z5 z6
  rw [exV_good he] at hg z6 hW0 ⊢
  generalize exT e = te at *
  generalize exP e = xe at *
  clear h h0 RF e1 hw
  go_enter Tryz.func95, Tryz.ntmps95
  go_wp2_with fail
  refine hg.mono ?_
  rintro y w1 ⟨rfl, h1, b1⟩
  go_wp2_with fail
  go_end0
  exact ⟨rfl, h1, F0.out.trans b1⟩
set_option maxRecDepth 100000 in
set_option maxHeartbeats 2000000 in
theorem dow_put {N : Nat} (p0 : Int) (n : Nm) (i e : Ex) : DoW N (.put p0 n i e) := by
  intro B w p C W K u h hd hB hW hw hn hc hK
  unfold DoIs at hd
  subst hd
  unfold V.wfD at hw
  have a1 := ad_Put_Set
  have a2 := ad_Put_Put
  have hn' : max (need i) (need e) ≤ W.length := hn
  have hc' : C.length + (cE i + cE e + 15) < 90000 := hc
  have he := V.wf_good hw.2.2.2.2.2
  have hi := V.wf_good hw.2.2.2.2.1
  obtain ⟨W0, hW0⟩ : ∃ W0, w.alloc (.cells #[.int .i64 p0, .string n.text, .int .i64 n.kind, .bool n.sec, .int .i64 n.size, .int .i64 n.place, exV i, exV e] 181 (0, 0)) = W0 := ⟨_, rfl⟩
  have h0 : WAt W0 p C R8 W K := by rw [← hW0]; exact h.alloc _
  have F0 : Hid (Fk p.lo w W0) := by rw [← hW0]; exact (Fk.refl _ _).alloc _
  have RF : At W0 w.heap.size 181 [.int .i64 p0, .string n.text, .int .i64 n.kind, .bool n.sec, .int .i64 n.size, .int .i64 n.place, exV i, exV e] := by rw [← hW0]; exact At.alloc_new w _ _
  have hg := putv_c p0 n i e hi he (ew_all i hw.2.2.2.2.1) (ew_all e hw.2.2.2.2.2) W0 p C R8 W K h0 (h0.fine8 hW) (by decide) (by omega) (by omega) (by omega) (by omega)
  have e1 : doC C.length W K.getLast? (.put p0 n i e) = (exC R8 W e).1 ++ ((exC (R8.erase (exC R8 W e).2) W i).1 ++ (plC ((R8.erase (exC R8 W e).2).erase (exC (R8.erase (exC R8 W e).2) W i).2) (exC (R8.erase (exC R8 W e).2) W i).2 n ++ chC ((R8.erase (exC R8 W e).2).erase (exC (R8.erase (exC R8 W e).2) W i).2) (exC (R8.erase (exC R8 W e).2) W i).2 (exC R8 W e).2 K.getLast?)) := by rw [doC]
  rw [← e1] at hg
  generalize doC C.length W K.getLast? (.put p0 n i e) = D at *
  have z0 := RF.cell 0
  have z1 := RF.cell 1
  have z2 := RF.cell 2
  have z3 := RF.cell 3
  have z4 := RF.cell 4
  have z5 := RF.cell 5
  have z6 := RF.cell 6
  have z7 := RF.cell 7
  simp only [List.getElem?_cons_zero, List.getElem?_cons_succ] at z0 z1 z2 z3 z4 z5 z6 z7
  rw [exV_good he, exV_good hi] at hg hW0 ⊢
  rw [exV_good hi] at z6
  rw [exV_good he] at z7
  generalize exT e = te at *
  generalize exP e = xe at *
  generalize exT i = ti at *
  generalize exP i = xi at *
  clear h h0 RF e1 hw
  go_enter Tryz.func95, Tryz.ntmps95
  go_wp2_with fail
  refine hg.mono ?_
  rintro y w1 ⟨rfl, h1, b1⟩
  go_wp2_with fail
  go_end0
  exact ⟨rfl, h1, F0.out.trans b1⟩
end Y
end Go.Proofs.YtejbgcloblpbfaaGreatDoor
