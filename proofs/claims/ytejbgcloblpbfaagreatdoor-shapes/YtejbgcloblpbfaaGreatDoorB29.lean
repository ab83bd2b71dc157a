import Derived.Test.YtejbgcloblpbfaaGreatDoorB15
import Derived.Test.YtejbgcloblpbfaaGreatDoorB27
import Derived.Test.YtejbgcloblpbfaaGreatDoorB28
namespace Go.Proofs.YtejbgcloblpbfaaGreatDoor
open Go.RowKit
open R (Tok tk)
open K (Nm S Scans Ex Do)
set_option maxHeartbeats 400000 in
theorem first_c {w : World} {l : List Do} (hG : GdsDoes l) {na : Option Addr} {nn nc : Nat} {wd : Int} {dv : Value} {us : List Value} {B : Nat → Prop} (dr : DRow B w dv us) (de : Each B w l us) :
    Calls Tryz.prog 57 #[.agg #[.slice na nn nc, .int .i64 wd, dv]] w fun x w' => x = .returned (.tuple #[.int .i64 (K.gds false l (0, false)).1, .bool (K.gds false l (0, false)).2]) ∧ Below w.heap.size w w' := by
  obtain ⟨da, dn, dc, rfl⟩ := dr.form
  have dr1 := dr.lower (B' := fun k => k < w.heap.size) fun k _ h => h
  have de1 := de.lower (B' := fun k => k < w.heap.size) fun k _ h => h
  have e1 : (w.alloc (.cells #[.slice na nn nc, .int .i64 wd, .slice da dn dc] 84 (0, 0))).heap.size = w.heap.size + 1 := by simp
  have aS : GAt ((w.alloc (.cells #[.slice na nn nc, .int .i64 wd, .slice da dn dc] 84 (0, 0))).alloc (.cells #[.int .i64 0, .bool false] 142 (0, 0))) (w.heap.size + 1) (0, false) := by
    have := At.alloc_new (w.alloc (.cells #[.slice na nn nc, .int .i64 wd, .slice da dn dc] 84 (0, 0))) [.int .i64 0, .bool false] 142
    rw [e1] at this
    exact this
  have kp : ∀ k, k < w.heap.size → k < w.heap.size → ((w.alloc (.cells #[.slice na nn nc, .int .i64 wd, .slice da dn dc] 84 (0, 0))).alloc (.cells #[.int .i64 0, .bool false] 142 (0, 0))).heap[k]? = w.heap[k]? := fun k h _ => by
    rw [heap_alloc_old _ _ _ (by omega), heap_alloc_old _ _ _ h]
  have BW : Below w.heap.size w ((w.alloc (.cells #[.slice na nn nc, .int .i64 wd, .slice da dn dc] 84 (0, 0))).alloc (.cells #[.int .i64 0, .bool false] 142 (0, 0))) := ((Below.refl _ _).alloc (Nat.le_refl _) _).alloc (by simp) _
  have hd := hG (fun k => k < w.heap.size) _ (w.heap.size + 1) (0, false) (.slice da dn dc) us false aS (dr1.keep kp) (de1.keep kp) (fun k h => by omega)
  obtain ⟨G, HG⟩ : ∃ G, Hid (K.gds false l (0, false) = G) := ⟨_, rfl⟩
  rw [HG.out] at hd
  clear dr de dr1 de1 kp hG
  go_enter Tryz.func57, Tryz.ntmps57
  go_wp2_with fail
  refine hd.mono ?_
  rintro x w2 ⟨rfl, h2, hb2⟩
  have B2 : Below w.heap.size w w2 := BW.trans ⟨hb2.os, hb2.tape, hb2.output, hb2.size, fun k hk => hb2.block k (by have := BW.size; omega) (by omega)⟩
  have c0 := h2.cell 0
  have c1 := h2.cell 1
  simp only [List.getElem?_cons_zero, List.getElem?_cons_succ] at c0 c1
  go_upto_region 3 with fail
  go_region
  all_goals
    go_wp2_with fail
    rw [HG.out]
    go_ret2
    exact ⟨rfl, B2.drew⟩
end Go.Proofs.YtejbgcloblpbfaaGreatDoor
namespace Go.Proofs.YtejbgcloblpbfaaGreatDoor
open Go.RowKit
open R (Tok tk)
open K (Nm S Scans Ex Do)
def K.found (T : List Tok) : K.GS := K.gds false (K.progD T) (0, false)
def Readed (T : List Tok) (w w' : World) (x : Ending) : Prop :=
  (¬ (K.progS T).err = 0 ∧ x = .returned (.tuple #[zeroP, .int .i64 (K.progS T).err, .int .i64 (K.progS T).eat])) ∨
  ((K.progS T).err = 0 ∧ (K.found T).2 = true ∧ x = .returned (.tuple #[zeroP, .int .i64 7, .int .i64 (K.found T).1])) ∨
  ((K.progS T).err = 0 ∧ (K.found T).2 = false ∧ ∃ nv dv us, x = .returned (.tuple #[.agg #[nv, .int .i64 (K.progS T).words, dv], .int .i64 0, .int .i64 0]) ∧ w'.ownsRow 0 96 5 nv (K.progS T).names.length ((K.progS T).names.flatMap nmCells) ∧ DRow (From w.heap.size) w' dv us ∧ Each (From w.heap.size) w' (K.progD T) us)
set_option maxHeartbeats 400000 in
theorem mread_long (s : ByteArray) (w : World) (hs : 800 < s.size) (hm : s.size ≤ maxLen) :
    Calls Tryz.prog 40 #[.string s] w fun x w' => x = .returned (.tuple #[zeroP, .int .i64 1, .int .i64 0]) ∧ Below w.heap.size w w' := by
  have hp := parse_long s (w.alloc (.cells #[.slice none 0 0, .int .i64 0, .slice none 0 0] 84 (0, 0))) hs hm
  have aA := At.alloc_new w [.slice none 0 0, .int .i64 0, .slice none 0 0] 84
  have BW : Below w.heap.size w (w.alloc (.cells #[.slice none 0 0, .int .i64 0, .slice none 0 0] 84 (0, 0))) := (Below.refl _ _).alloc (Nat.le_refl _) _
  unfold zeroP at hp
  go_enter Tryz.func40, Tryz.ntmps40
  go_wp2_with fail
  refine hp.mono ?_
  rintro x w2 ⟨rfl, hb2⟩
  have aA2 := aA.of_block (hb2.block _ aA.lt)
  have B2 := BW.trans (hb2.mono BW.size)
  have lA := aA2.lt
  have q0 := aA2.cell 0
  have q1 := aA2.cell 1
  have q2 := aA2.cell 2
  simp only [List.getElem?_cons_zero, List.getElem?_cons_succ] at q0 q1 q2
  have f0 := aA2.frozen 0
  have f1 := aA2.frozen 1
  have f2 := aA2.frozen 2
  have RZ := ((aA2.set 0 (.slice none 0 0)).set 1 (.int .i64 0)).set 2 (.slice none 0 0)
  have BZ : Below w.heap.size w (((w2.setCell ⟨w.heap.size, 0, none⟩ (.slice none 0 0)).setCell ⟨w.heap.size, 1, none⟩ (.int .i64 0)).setCell ⟨w.heap.size, 2, none⟩ (.slice none 0 0)) := ((B2.setCell (Nat.le_refl _) _).setCell (Nat.le_refl _) _).setCell (Nat.le_refl _) _
  go_wp2_with fail
  generalize ((w2.setCell ⟨w.heap.size, 0, none⟩ (.slice none 0 0)).setCell ⟨w.heap.size, 1, none⟩ (.int .i64 0)).setCell ⟨w.heap.size, 2, none⟩ (.slice none 0 0) = WZ at *
  have z0 : WZ.cell? ⟨w.heap.size, 0, none⟩ = some (.slice none 0 0) := RZ.cell 0
  have z1 : WZ.cell? ⟨w.heap.size, 1, none⟩ = some (.int .i64 0) := RZ.cell 1
  have z2 : WZ.cell? ⟨w.heap.size, 2, none⟩ = some (.slice none 0 0) := RZ.cell 2
  have zl := RZ.lt
  exact bodyPost_ret (v := .tuple #[zeroP, .int .i64 1, .int .i64 0]) (by simp [results, Tryz.results40, go_sem, zeroP, z0, z1, z2, zl]) rfl ⟨rfl, BZ.alloc (by omega) _⟩
end Go.Proofs.YtejbgcloblpbfaaGreatDoor
namespace Go.Proofs.YtejbgcloblpbfaaGreatDoor
open Go.RowKit
open R (Tok tk)
open K (Nm S Scans Ex Do)
theorem row_slc {w : World} {B : Nat} {e : TypeId} {size : Nat} {v : Value} {n : Nat} {xs : List Value} (h : w.ownsRow B e size v n xs) : ∃ a m c, v = .slice a m c := by
  obtain ⟨_, h | ⟨g, cap, cur, rfl, _⟩⟩ := h
  · exact ⟨_, _, _, h.1⟩
  · exact ⟨_, _, _, rfl⟩
set_option maxHeartbeats 1000000 in
theorem mread_c (hGd : ∀ l, K.goodL l = true → GdsDoes l) (s : ByteArray) (w : World) (hs : s.size ≤ 800) (hv : K.Vars w) (hw : 5 ≤ w.heap.size) :
    Calls Tryz.prog 40 #[.string s] w fun x w' => Readed (R.toks s) w w' x ∧ Below w.heap.size w w' := by
  have aA := At.alloc_new w [.slice none 0 0, .int .i64 0, .slice none 0 0] 84
  have BW : Below w.heap.size w (w.alloc (.cells #[.slice none 0 0, .int .i64 0, .slice none 0 0] 84 (0, 0))) := (Below.refl _ _).alloc (Nat.le_refl _) _
  have hVW : K.Vars (w.alloc (.cells #[.slice none 0 0, .int .i64 0, .slice none 0 0] 84 (0, 0))) := by
    obtain ⟨⟨e0, a1, a2⟩, ⟨e1, c1, c2⟩⟩ := hv
    exact ⟨⟨e0, (BW.cell (p := ⟨3, 0, none⟩) (by show 3 < w.heap.size; omega)).trans a1, a2⟩, ⟨e1, (BW.cell (p := ⟨4, 0, none⟩) (by show 4 < w.heap.size; omega)).trans c1, c2⟩⟩
  have hp := parse_c s _ hs hVW (by have := BW.size; omega)
  have hS := K.scans_toks hs
  have hgood := fun e => K.prog_good hS (K.prog0_depth (R.toks s)) e
  have HFD : Hid (K.found (R.toks s) = K.gds false (K.progD (R.toks s)) (0, false)) := rfl
  generalize R.toks s = T at *
  obtain ⟨σF, HSF⟩ : ∃ σF, Hid (K.progS T = σF) := ⟨_, rfl⟩
  unfold Parsed at hp
  rw [HSF.out] at hp hgood
  unfold Readed
  rw [HSF.out]
  go_enter Tryz.func40, Tryz.ntmps40
  go_wp2_with fail
  refine hp.mono ?_
  rintro x w2 ⟨hpar, hb2⟩
  have aA2 := aA.of_block (hb2.block _ aA.lt)
  have B2 := BW.trans (hb2.mono BW.size)
  have lA := aA2.lt
  clear hp hVW aA
  rcases hpar with ⟨he, rfl⟩ | ⟨he, nv, dv, us, rfl, nr, dr, de⟩
  · have he' : (σF.err != 0) = true := by simpa using he
    unfold zeroP
    have q0 := aA2.cell 0
    have q1 := aA2.cell 1
    have q2 := aA2.cell 2
    simp only [List.getElem?_cons_zero, List.getElem?_cons_succ] at q0 q1 q2
    have f0 := aA2.frozen 0
    have f1 := aA2.frozen 1
    have f2 := aA2.frozen 2
    have RZ := ((aA2.set 0 (.slice none 0 0)).set 1 (.int .i64 0)).set 2 (.slice none 0 0)
    have BZ : Below w.heap.size w (((w2.setCell ⟨w.heap.size, 0, none⟩ (.slice none 0 0)).setCell ⟨w.heap.size, 1, none⟩ (.int .i64 0)).setCell ⟨w.heap.size, 2, none⟩ (.slice none 0 0)) := ((B2.setCell (Nat.le_refl _) _).setCell (Nat.le_refl _) _).setCell (Nat.le_refl _) _
    go_wp2_with fail
    generalize ((w2.setCell ⟨w.heap.size, 0, none⟩ (.slice none 0 0)).setCell ⟨w.heap.size, 1, none⟩ (.int .i64 0)).setCell ⟨w.heap.size, 2, none⟩ (.slice none 0 0) = WZ at *
    have z0 : WZ.cell? ⟨w.heap.size, 0, none⟩ = some (.slice none 0 0) := RZ.cell 0
    have z1 : WZ.cell? ⟨w.heap.size, 1, none⟩ = some (.int .i64 0) := RZ.cell 1
    have z2 : WZ.cell? ⟨w.heap.size, 2, none⟩ = some (.slice none 0 0) := RZ.cell 2
    have zl := RZ.lt
    exact bodyPost_ret (v := .tuple #[zeroP, .int .i64 σF.err, .int .i64 σF.eat]) (by simp [results, Tryz.results40, go_sem, zeroP, z0, z1, z2, zl]) rfl ⟨Or.inl ⟨he, rfl⟩, BZ.alloc (by omega) _⟩
  · obtain ⟨na, nc, nk, hnv⟩ := row_slc nr
    obtain ⟨da, dn, dc, hdv⟩ := dr.form
    subst hdv
    have he' : (σF.err != 0) = false := by rw [he]; rfl
    have hg := hGd _ (hgood he)
    have dr2 := dr.lower (B' := fun k => w.heap.size < k ∧ k < w2.heap.size) fun k h1 h => ⟨by have : (w.alloc (.cells #[.slice none 0 0, .int .i64 0, .slice none 0 0] 84 (0, 0))).heap.size ≤ k := h1; simp at this; omega, h⟩
    have de2 := de.lower (B' := fun k => w.heap.size < k ∧ k < w2.heap.size) fun k h1 h => ⟨by have : (w.alloc (.cells #[.slice none 0 0, .int .i64 0, .slice none 0 0] 84 (0, 0))).heap.size ≤ k := h1; simp at this; omega, h⟩
    have nr2 := nr
    have nl : ∀ k, nv.ownBlock = some k → k < w2.heap.size ∧ k ≠ w.heap.size := fun k e => by
      obtain ⟨cur, hc⟩ := own_block nr e
      refine ⟨blk_lt hc, fun e' => ?_⟩
      have := aA2
      unfold At at this
      rw [← e', hc] at this
      simp at this
    have HNV := hide hnv
    rw [hnv]
    have ka : ∀ k, (w.heap.size < k ∧ k < w2.heap.size) → k < w2.heap.size → (w2.alloc (.cells #[.slice na nc nk, .int .i64 σF.words, .slice da dn dc] 84 (0, 0))).heap[k]? = w2.heap[k]? := fun k h1 _ => heap_alloc_old _ _ _ h1.2
    have dr3 := dr2.keep ka
    have de3 := de2.keep ka
    have nr3 := row_of (w' := w2.alloc (.cells #[.slice na nc nk, .int .i64 σF.words, .slice da dn dc] 84 (0, 0))) nr fun k e => heap_alloc_old _ _ _ (nl k e).1
    have hfi := first_c hg (na := na) (nn := nc) (nc := nk) (wd := σF.words) dr3 de3
    have aA3 := aA2.alloc (.cells #[.slice na nc nk, .int .i64 σF.words, .slice da dn dc] 84 (0, 0))
    have aP := At.alloc_new w2 [.slice na nc nk, .int .i64 σF.words, .slice da dn dc] 84
    have B3 : Below w.heap.size w (w2.alloc (.cells #[.slice na nc nk, .int .i64 σF.words, .slice da dn dc] 84 (0, 0))) := B2.alloc (by omega) _
    rw [← HFD.out] at hfi
    obtain ⟨FD, HF2⟩ : ∃ FD, Hid (K.found T = FD) := ⟨_, rfl⟩
    rw [HF2.out] at hfi
    clear nr dr de dr2 de2 ka hnv HFD
    go_wp2_with fail
    refine hfi.mono ?_
    rintro x w4 ⟨rfl, hb4⟩
    have aA4 := aA3.of_block (hb4.block _ aA3.lt)
    have aP4 := aP.of_block (hb4.block _ aP.lt)
    have B4 := B3.trans (hb4.mono B3.size)
    have l4 := aA4.lt
    have s3 := aP.lt
    have p0 := aP4.cell 0
    have p1 := aP4.cell 1
    have p2 := aP4.cell 2
    simp only [List.getElem?_cons_zero, List.getElem?_cons_succ] at p0 p1 p2
    have nr4 := row_of (w' := w4) nr3 fun k e => hb4.block k (by have := (nl k e).1; omega)
    have dr4 := dr3.keep (w' := w4) fun k _ h => hb4.block k h
    have de4 := Each.keep (w' := w4) (fun k _ h => hb4.block k h) de3
    clear hfi dr3 de3 nr3 aA3 aP
    cases hf : FD.2 with
    | true =>
      have q0 := aA4.cell 0
      have q1 := aA4.cell 1
      have q2 := aA4.cell 2
      simp only [List.getElem?_cons_zero, List.getElem?_cons_succ] at q0 q1 q2
      have f0 := aA4.frozen 0
      have f1 := aA4.frozen 1
      have f2 := aA4.frozen 2
      have RZ := ((aA4.set 0 (.slice none 0 0)).set 1 (.int .i64 0)).set 2 (.slice none 0 0)
      have BZ : Below w.heap.size w (((w4.setCell ⟨w.heap.size, 0, none⟩ (.slice none 0 0)).setCell ⟨w.heap.size, 1, none⟩ (.int .i64 0)).setCell ⟨w.heap.size, 2, none⟩ (.slice none 0 0)) := ((B4.setCell (Nat.le_refl _) _).setCell (Nat.le_refl _) _).setCell (Nat.le_refl _) _
      go_wp2_with fail
      generalize ((w4.setCell ⟨w.heap.size, 0, none⟩ (.slice none 0 0)).setCell ⟨w.heap.size, 1, none⟩ (.int .i64 0)).setCell ⟨w.heap.size, 2, none⟩ (.slice none 0 0) = WZ at *
      have z0 : WZ.cell? ⟨w.heap.size, 0, none⟩ = some (.slice none 0 0) := RZ.cell 0
      have z1 : WZ.cell? ⟨w.heap.size, 1, none⟩ = some (.int .i64 0) := RZ.cell 1
      have z2 : WZ.cell? ⟨w.heap.size, 2, none⟩ = some (.slice none 0 0) := RZ.cell 2
      refine bodyPost_ret (v := .tuple #[zeroP, .int .i64 7, .int .i64 FD.1]) (by simp [results, Tryz.results40, go_sem, zeroP, z0, z1, z2]) rfl ⟨Or.inr (Or.inl ⟨he, ?_⟩), BZ⟩
      rw [HF2.out]
      exact ⟨hf, rfl⟩
    | false =>
      have q0 := aA4.cell 0
      have q1 := aA4.cell 1
      have q2 := aA4.cell 2
      simp only [List.getElem?_cons_zero, List.getElem?_cons_succ] at q0 q1 q2
      have f0 := aA4.frozen 0
      have f1 := aA4.frozen 1
      have f2 := aA4.frozen 2
      have RZ := ((aA4.set 0 (.slice na nc nk)).set 1 (.int .i64 σF.words)).set 2 (.slice da dn dc)
      have sne : ∀ j, j ≠ w.heap.size → (((w4.setCell ⟨w.heap.size, 0, none⟩ (.slice na nc nk)).setCell ⟨w.heap.size, 1, none⟩ (.int .i64 σF.words)).setCell ⟨w.heap.size, 2, none⟩ (.slice da dn dc)).heap[j]? = w4.heap[j]? := fun j hj => by
        rw [Below.heap_setCell _ _ _ _ hj, Below.heap_setCell _ _ _ _ hj, Below.heap_setCell _ _ _ _ hj]
      have BZ : Below w.heap.size w (((w4.setCell ⟨w.heap.size, 0, none⟩ (.slice na nc nk)).setCell ⟨w.heap.size, 1, none⟩ (.int .i64 σF.words)).setCell ⟨w.heap.size, 2, none⟩ (.slice da dn dc)) := ((B4.setCell (Nat.le_refl _) _).setCell (Nat.le_refl _) _).setCell (Nat.le_refl _) _
      have nr5 := row_of (w' := ((w4.setCell ⟨w.heap.size, 0, none⟩ (.slice na nc nk)).setCell ⟨w.heap.size, 1, none⟩ (.int .i64 σF.words)).setCell ⟨w.heap.size, 2, none⟩ (.slice da dn dc)) nr4 fun k e => sne k (nl k e).2
      have dr5 := (dr4.keep (w' := ((w4.setCell ⟨w.heap.size, 0, none⟩ (.slice na nc nk)).setCell ⟨w.heap.size, 1, none⟩ (.int .i64 σF.words)).setCell ⟨w.heap.size, 2, none⟩ (.slice da dn dc)) fun k h _ => sne k (by omega)).lower (B' := From w.heap.size) fun k h _ => by show w.heap.size ≤ k; omega
      have de5 := (Each.keep (w' := ((w4.setCell ⟨w.heap.size, 0, none⟩ (.slice na nc nk)).setCell ⟨w.heap.size, 1, none⟩ (.int .i64 σF.words)).setCell ⟨w.heap.size, 2, none⟩ (.slice da dn dc)) (fun k h _ => sne k (by omega)) de4).lower (B' := From w.heap.size) fun k h _ => by show w.heap.size ≤ k; omega
      clear sne dr4 de4 nr4
      go_wp2_with fail
      generalize ((w4.setCell ⟨w.heap.size, 0, none⟩ (.slice na nc nk)).setCell ⟨w.heap.size, 1, none⟩ (.int .i64 σF.words)).setCell ⟨w.heap.size, 2, none⟩ (.slice da dn dc) = WZ at *
      have z0 : WZ.cell? ⟨w.heap.size, 0, none⟩ = some (.slice na nc nk) := RZ.cell 0
      have z1 : WZ.cell? ⟨w.heap.size, 1, none⟩ = some (.int .i64 σF.words) := RZ.cell 1
      have z2 : WZ.cell? ⟨w.heap.size, 2, none⟩ = some (.slice da dn dc) := RZ.cell 2
      refine bodyPost_ret (v := .tuple #[.agg #[.slice na nc nk, .int .i64 σF.words, .slice da dn dc], .int .i64 0, .int .i64 0]) (by simp [results, Tryz.results40, go_sem, z0, z1, z2]) rfl ⟨Or.inr (Or.inr ⟨he, ?_, nv, .slice da dn dc, us, by rw [HNV.out], nr5, dr5, de5⟩), BZ⟩
      rw [HF2.out]
      exact hf
end Go.Proofs.YtejbgcloblpbfaaGreatDoor
