import Derived.Test.YtjgiefnjmngdkaaGreatDoorM27
namespace Go.Proofs.YtjgiefnjmngdkaaGreatDoor
open Go.RowKit
open R (Tok tk)
open K (Nm S Scans Ex Do)

theorem row_slc {w : World} {B : Nat} {e : TypeId} {size : Nat} {v : Value} {n : Nat} {xs : List Value} (h : w.ownsRow B e size v n xs) : ∃ a m c, v = .slice a m c := by
  obtain ⟨_, h | ⟨g, cap, cur, rfl, _⟩⟩ := h
  · exact ⟨_, _, _, h.1⟩
  · exact ⟨_, _, _, rfl⟩
set_option maxHeartbeats 1000000 in
theorem mread_c (hGd : ∀ l, K.goodL l = true → GdsDoes l) (s : ByteArray) (w : World) (hs : s.size ≤ 800) (hv : K.Vars w) (hw : 5 ≤ w.heap.size) :
    Calls Tryz.prog 40 #[.string s] w fun x w' => Readed (R.toks s) w w' x ∧ Below w.heap.size w w' := by
  have aA := At.alloc_new w [.slice none 0 0, .int .i64 0, .slice none 0 0] 84
  have BW : Below w.heap.size w (w.alloc (.cells #[.slice none 0 0, .int .i64 0, .slice none 0 0] 84 (0, 0))) := (Below.refl _ _).alloc (Nat.le_refl _) _
  have hVW : K.Vars (w.alloc (.cells #[.slice none 0 0, .int .i64 0, .slice none 0 0] 84 (0, 0))) := by
    obtain ⟨⟨e0, a1, a2⟩, ⟨e1, c1, c2⟩⟩ := hv
    exact ⟨⟨e0, (BW.cell (p := ⟨3, 0, none⟩) (by show 3 < w.heap.size; omega)).trans a1, a2⟩, ⟨e1, (BW.cell (p := ⟨4, 0, none⟩) (by show 4 < w.heap.size; omega)).trans c1, c2⟩⟩
  have hp := parse_c s _ hs hVW (by have := BW.size; omega)
  have hS := K.scans_toks hs
  have hgood := fun e => K.prog_good hS (K.prog0_depth (R.toks s)) e
  have HFD : Hid (K.found (R.toks s) = K.gds false (K.progD (R.toks s)) (0, false)) := rfl
  generalize R.toks s = T at *
  obtain ⟨σF, HSF⟩ : ∃ σF, Hid (K.progS T = σF) := ⟨_, rfl⟩
  unfold Parsed at hp
  rw [HSF.out] at hp hgood
  unfold Readed
  rw [HSF.out]
  go_enter Tryz.func40, Tryz.ntmps40
  go_wp2_with fail
  refine hp.mono ?_
  rintro x w2 ⟨hpar, hb2⟩
  have aA2 := aA.of_block (hb2.block _ aA.lt)
  have B2 := BW.trans (hb2.mono BW.size)
  have lA := aA2.lt
  clear hp hVW aA
  rcases hpar with ⟨he, rfl⟩ | ⟨he, nv, dv, us, rfl, nr, dr, de⟩
  · have he' : (σF.err != 0) = true := by simpa using he
    unfold zeroP
    have q0 := aA2.cell 0
    have q1 := aA2.cell 1
    have q2 := aA2.cell 2
    simp only [List.getElem?_cons_zero, List.getElem?_cons_succ] at q0 q1 q2
    have f0 := aA2.frozen 0
    have f1 := aA2.frozen 1
    have f2 := aA2.frozen 2
    have RZ := ((aA2.set 0 (.slice none 0 0)).set 1 (.int .i64 0)).set 2 (.slice none 0 0)
    have BZ : Below w.heap.size w (((w2.setCell ⟨w.heap.size, 0, none⟩ (.slice none 0 0)).setCell ⟨w.heap.size, 1, none⟩ (.int .i64 0)).setCell ⟨w.heap.size, 2, none⟩ (.slice none 0 0)) := ((B2.setCell (Nat.le_refl _) _).setCell (Nat.le_refl _) _).setCell (Nat.le_refl _) _
    go_wp2_with fail
    generalize ((w2.setCell ⟨w.heap.size, 0, none⟩ (.slice none 0 0)).setCell ⟨w.heap.size, 1, none⟩ (.int .i64 0)).setCell ⟨w.heap.size, 2, none⟩ (.slice none 0 0) = WZ at *
    have z0 : WZ.cell? ⟨w.heap.size, 0, none⟩ = some (.slice none 0 0) := RZ.cell 0
    have z1 : WZ.cell? ⟨w.heap.size, 1, none⟩ = some (.int .i64 0) := RZ.cell 1
    have z2 : WZ.cell? ⟨w.heap.size, 2, none⟩ = some (.slice none 0 0) := RZ.cell 2
    have zl := RZ.lt
    exact bodyPost_ret (v := .tuple #[zeroP, .int .i64 σF.err, .int .i64 σF.eat]) (by simp [results, Tryz.results40, go_sem, zeroP, z0, z1, z2, zl]) rfl ⟨Or.inl ⟨he, rfl⟩, BZ.alloc (by omega) _⟩
  · obtain ⟨na, nc, nk, hnv⟩ := row_slc nr
    obtain ⟨da, dn, dc, hdv⟩ := dr.form
    subst hdv
    have he' : (σF.err != 0) = false := by rw [he]; rfl
    have hg := hGd _ (hgood he)
    have dr2 := dr.lower (B' := fun k => w.heap.size < k ∧ k < w2.heap.size) fun k h1 h => ⟨by have : (w.alloc (.cells #[.slice none 0 0, .int .i64 0, .slice none 0 0] 84 (0, 0))).heap.size ≤ k := h1; simp at this; omega, h⟩
    have de2 := de.lower (B' := fun k => w.heap.size < k ∧ k < w2.heap.size) fun k h1 h => ⟨by have : (w.alloc (.cells #[.slice none 0 0, .int .i64 0, .slice none 0 0] 84 (0, 0))).heap.size ≤ k := h1; simp at this; omega, h⟩
    have nr2 := nr
    have nl : ∀ k, nv.ownBlock = some k → k < w2.heap.size ∧ k ≠ w.heap.size := fun k e => by
      obtain ⟨cur, hc⟩ := own_block nr e
      refine ⟨blk_lt hc, fun e' => ?_⟩
      have := aA2
      unfold At at this
      rw [← e', hc] at this
      simp at this
    have HNV := hide hnv
    rw [hnv]
    have ka : ∀ k, (w.heap.size < k ∧ k < w2.heap.size) → k < w2.heap.size → (w2.alloc (.cells #[.slice na nc nk, .int .i64 σF.words, .slice da dn dc] 84 (0, 0))).heap[k]? = w2.heap[k]? := fun k h1 _ => heap_alloc_old _ _ _ h1.2
    have dr3 := dr2.keep ka
    have de3 := de2.keep ka
    have nr3 := row_of (w' := w2.alloc (.cells #[.slice na nc nk, .int .i64 σF.words, .slice da dn dc] 84 (0, 0))) nr fun k e => heap_alloc_old _ _ _ (nl k e).1
    have hfi := first_c hg (na := na) (nn := nc) (nc := nk) (wd := σF.words) dr3 de3
    have aA3 := aA2.alloc (.cells #[.slice na nc nk, .int .i64 σF.words, .slice da dn dc] 84 (0, 0))
    have aP := At.alloc_new w2 [.slice na nc nk, .int .i64 σF.words, .slice da dn dc] 84
    have B3 : Below w.heap.size w (w2.alloc (.cells #[.slice na nc nk, .int .i64 σF.words, .slice da dn dc] 84 (0, 0))) := B2.alloc (by omega) _
    rw [← HFD.out] at hfi
    obtain ⟨FD, HF2⟩ : ∃ FD, Hid (K.found T = FD) := ⟨_, rfl⟩
    rw [HF2.out] at hfi
    clear nr dr de dr2 de2 ka hnv HFD
    go_wp2_with fail
    refine hfi.mono ?_
    rintro x w4 ⟨rfl, hb4⟩
    have aA4 := aA3.of_block (hb4.block _ aA3.lt)
    have aP4 := aP.of_block (hb4.block _ aP.lt)
    have B4 := B3.trans (hb4.mono B3.size)
    have l4 := aA4.lt
    have s3 := aP.lt
    have p0 := aP4.cell 0
    have p1 := aP4.cell 1
    have p2 := aP4.cell 2
    simp only [List.getElem?_cons_zero, List.getElem?_cons_succ] at p0 p1 p2
    have nr4 := row_of (w' := w4) nr3 fun k e => hb4.block k (by have := (nl k e).1; omega)
    have dr4 := dr3.keep (w' := w4) fun k _ h => hb4.block k h
    have de4 := Each.keep (w' := w4) (fun k _ h => hb4.block k h) de3
    clear hfi dr3 de3 nr3 aA3 aP
    cases hf : FD.2 with
    | true =>
      have q0 := aA4.cell 0
      have q1 := aA4.cell 1
      have q2 := aA4.cell 2
      simp only [List.getElem?_cons_zero, List.getElem?_cons_succ] at q0 q1 q2
      have f0 := aA4.frozen 0
      have f1 := aA4.frozen 1
      have f2 := aA4.frozen 2
      have RZ := ((aA4.set 0 (.slice none 0 0)).set 1 (.int .i64 0)).set 2 (.slice none 0 0)
      have BZ : Below w.heap.size w (((w4.setCell ⟨w.heap.size, 0, none⟩ (.slice none 0 0)).setCell ⟨w.heap.size, 1, none⟩ (.int .i64 0)).setCell ⟨w.heap.size, 2, none⟩ (.slice none 0 0)) := ((B4.setCell (Nat.le_refl _) _).setCell (Nat.le_refl _) _).setCell (Nat.le_refl _) _
      go_wp2_with fail
      generalize ((w4.setCell ⟨w.heap.size, 0, none⟩ (.slice none 0 0)).setCell ⟨w.heap.size, 1, none⟩ (.int .i64 0)).setCell ⟨w.heap.size, 2, none⟩ (.slice none 0 0) = WZ at *
      have z0 : WZ.cell? ⟨w.heap.size, 0, none⟩ = some (.slice none 0 0) := RZ.cell 0
      have z1 : WZ.cell? ⟨w.heap.size, 1, none⟩ = some (.int .i64 0) := RZ.cell 1
      have z2 : WZ.cell? ⟨w.heap.size, 2, none⟩ = some (.slice none 0 0) := RZ.cell 2
      refine bodyPost_ret (v := .tuple #[zeroP, .int .i64 7, .int .i64 FD.1]) (by simp [results, Tryz.results40, go_sem, zeroP, z0, z1, z2]) rfl ⟨Or.inr (Or.inl ⟨he, ?_⟩), BZ⟩
      rw [HF2.out]
      exact ⟨hf, rfl⟩
    | false =>
      have q0 := aA4.cell 0
      have q1 := aA4.cell 1
      have q2 := aA4.cell 2
      simp only [List.getElem?_cons_zero, List.getElem?_cons_succ] at q0 q1 q2
      have f0 := aA4.frozen 0
      have f1 := aA4.frozen 1
      have f2 := aA4.frozen 2
      have RZ := ((aA4.set 0 (.slice na nc nk)).set 1 (.int .i64 σF.words)).set 2 (.slice da dn dc)
      have sne : ∀ j, j ≠ w.heap.size → (((w4.setCell ⟨w.heap.size, 0, none⟩ (.slice na nc nk)).setCell ⟨w.heap.size, 1, none⟩ (.int .i64 σF.words)).setCell ⟨w.heap.size, 2, none⟩ (.slice da dn dc)).heap[j]? = w4.heap[j]? := fun j hj => by
        rw [Below.heap_setCell _ _ _ _ hj, Below.heap_setCell _ _ _ _ hj, Below.heap_setCell _ _ _ _ hj]
      have BZ : Below w.heap.size w (((w4.setCell ⟨w.heap.size, 0, none⟩ (.slice na nc nk)).setCell ⟨w.heap.size, 1, none⟩ (.int .i64 σF.words)).setCell ⟨w.heap.size, 2, none⟩ (.slice da dn dc)) := ((B4.setCell (Nat.le_refl _) _).setCell (Nat.le_refl _) _).setCell (Nat.le_refl _) _
      have nr5 := row_of (w' := ((w4.setCell ⟨w.heap.size, 0, none⟩ (.slice na nc nk)).setCell ⟨w.heap.size, 1, none⟩ (.int .i64 σF.words)).setCell ⟨w.heap.size, 2, none⟩ (.slice da dn dc)) nr4 fun k e => sne k (nl k e).2
      have dr5 := (dr4.keep (w' := ((w4.setCell ⟨w.heap.size, 0, none⟩ (.slice na nc nk)).setCell ⟨w.heap.size, 1, none⟩ (.int .i64 σF.words)).setCell ⟨w.heap.size, 2, none⟩ (.slice da dn dc)) fun k h _ => sne k (by omega)).lower (B' := From w.heap.size) fun k h _ => by show w.heap.size ≤ k; omega
      have de5 := (Each.keep (w' := ((w4.setCell ⟨w.heap.size, 0, none⟩ (.slice na nc nk)).setCell ⟨w.heap.size, 1, none⟩ (.int .i64 σF.words)).setCell ⟨w.heap.size, 2, none⟩ (.slice da dn dc)) (fun k h _ => sne k (by omega)) de4).lower (B' := From w.heap.size) fun k h _ => by show w.heap.size ≤ k; omega
      clear sne dr4 de4 nr4
      go_wp2_with fail
      generalize ((w4.setCell ⟨w.heap.size, 0, none⟩ (.slice na nc nk)).setCell ⟨w.heap.size, 1, none⟩ (.int .i64 σF.words)).setCell ⟨w.heap.size, 2, none⟩ (.slice da dn dc) = WZ at *
      have z0 : WZ.cell? ⟨w.heap.size, 0, none⟩ = some (.slice na nc nk) := RZ.cell 0
      have z1 : WZ.cell? ⟨w.heap.size, 1, none⟩ = some (.int .i64 σF.words) := RZ.cell 1
      have z2 : WZ.cell? ⟨w.heap.size, 2, none⟩ = some (.slice da dn dc) := RZ.cell 2
      refine bodyPost_ret (v := .tuple #[.agg #[.slice na nc nk, .int .i64 σF.words, .slice da dn dc], .int .i64 0, .int .i64 0]) (by simp [results, Tryz.results40, go_sem, z0, z1, z2]) rfl ⟨Or.inr (Or.inr ⟨he, ?_, nv, .slice da dn dc, us, by rw [HNV.out], nr5, dr5, de5⟩), BZ⟩
      rw [HF2.out]
      exact hf
end Go.Proofs.YtjgiefnjmngdkaaGreatDoor
namespace Go.Proofs.YtjgiefnjmngdkaaGreatDoor
open Go.RowKit
open R (Tok tk)
open K (Nm S Scans Ex Do)

/-- What the code's Check answers. -/
def K.checkT (T : List Tok) : Int × Int := if (K.progS T).err = 0 then (if (K.found T).2 = true then (7, (K.found T).1) else (0, 0)) else ((K.progS T).err, (K.progS T).eat)
def K.check (s : ByteArray) : Int × Int := if 800 < s.size then (1, 0) else K.checkT (R.toks s)

set_option maxHeartbeats 400000 in
theorem check_c (hGd : ∀ l, K.goodL l = true → GdsDoes l) (s : ByteArray) (w : World) (hm : s.size ≤ maxLen) (hv : K.Vars w) (hw : 5 ≤ w.heap.size) :
    Calls Tryz.prog 14 #[.string s] w fun x w' => x = .returned (.tuple #[.int .i64 (K.check s).1, .int .i64 (K.check s).2]) ∧ Below w.heap.size w w' := by
  by_cases hs : 800 < s.size
  · have hr := mread_long s w hs hm
    have e : K.check s = (1, 0) := by unfold K.check; rw [if_pos hs]
    rw [e]
    unfold zeroP at hr
    go_enter Tryz.func14, Tryz.ntmps14
    go_wp2_with fail
    refine hr.mono ?_
    rintro x w1 ⟨rfl, hb⟩
    go_wp2_with fail
    go_ret2
    exact ⟨rfl, hb.alloc hb.size _⟩
  · have hr := mread_c hGd s w (by omega) hv hw
    have HE : Hid (K.check s = K.checkT (R.toks s)) := by show _ = _; unfold K.check; rw [if_neg hs]
    generalize R.toks s = T at *
    unfold Readed at hr
    obtain ⟨C, HC⟩ : ∃ C, Hid (K.check s = C) := ⟨_, rfl⟩
    rw [HC.out]
    have HT : Hid (C = if (K.progS T).err = 0 then (if (K.found T).2 = true then (7, (K.found T).1) else (0, 0)) else ((K.progS T).err, (K.progS T).eat)) := by show _ = _; rw [← HC.out, HE.out]; rfl
    generalize K.progS T = σF at *
    generalize K.found T = FD at *
    go_enter Tryz.func14, Tryz.ntmps14
    go_wp2_with fail
    refine hr.mono ?_
    rintro x w1 ⟨hx, hb⟩
    rcases hx with ⟨he, rfl⟩ | ⟨he, hf, rfl⟩ | ⟨he, hf, nv, dv, us, rfl, nr, dr, de⟩
    · have e : C = (σF.err, σF.eat) := by rw [HT.out, if_neg he]
      subst e
      unfold zeroP
      go_wp2_with fail
      go_ret2
      exact ⟨rfl, hb.alloc hb.size _⟩
    · have e : C = (7, FD.1) := by rw [HT.out, if_pos he, if_pos hf]
      subst e
      unfold zeroP
      go_wp2_with fail
      go_ret2
      exact ⟨rfl, hb.alloc hb.size _⟩
    · have e : C = (0, 0) := by rw [HT.out, if_pos he, if_neg (by rw [hf]; decide)]
      subst e
      obtain ⟨na, nc, nk, hnv⟩ := row_slc nr
      obtain ⟨da, dn, dc, hdv⟩ := dr.form
      subst hnv hdv
      go_wp2_with fail
      go_ret2
      exact ⟨rfl, hb.alloc hb.size _⟩
end Go.Proofs.YtjgiefnjmngdkaaGreatDoor
