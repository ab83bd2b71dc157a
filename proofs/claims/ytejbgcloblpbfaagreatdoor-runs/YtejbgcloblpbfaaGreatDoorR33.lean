import Derived.Test.YtejbgcloblpbfaaGreatDoorR16
import Derived.Test.YtejbgcloblpbfaaGreatDoorR32
import Derived.Test.YtejbgcloblpbfaaGreatDoorR19
namespace Go.Proofs.YtejbgcloblpbfaaGreatDoor
open Go.RowKit
open R (Tok tk)
open K (Nm S Scans Ex Do)
set_option maxHeartbeats 400000 in
theorem first_c {w : World} {l : List Do} (hG : GdsDoes l) {na : Option Addr} {nn nc : Nat} {wd : Int} {dv : Value} {us : List Value} {B : Nat → Prop} (dr : DRow B w dv us) (de : Each B w l us) :
    Calls Tryz.prog 57 #[.agg #[.slice na nn nc, .int .i64 wd, dv]] w fun x w' => x = .returned (.tuple #[.int .i64 (K.gds false l (0, false)).1, .bool (K.gds false l (0, false)).2]) ∧ Below w.heap.size w w' := by
  obtain ⟨da, dn, dc, rfl⟩ := dr.form
  have dr1 := dr.lower (B' := fun k => k < w.heap.size) fun k _ h => h
  have de1 := de.lower (B' := fun k => k < w.heap.size) fun k _ h => h
  have e1 : (w.alloc (.cells #[.slice na nn nc, .int .i64 wd, .slice da dn dc] 84 (0, 0))).heap.size = w.heap.size + 1 := by simp
  have aS : GAt ((w.alloc (.cells #[.slice na nn nc, .int .i64 wd, .slice da dn dc] 84 (0, 0))).alloc (.cells #[.int .i64 0, .bool false] 142 (0, 0))) (w.heap.size + 1) (0, false) := by
    have := At.alloc_new (w.alloc (.cells #[.slice na nn nc, .int .i64 wd, .slice da dn dc] 84 (0, 0))) [.int .i64 0, .bool false] 142
    rw [e1] at this
    exact this
  have kp : ∀ k, k < w.heap.size → k < w.heap.size → ((w.alloc (.cells #[.slice na nn nc, .int .i64 wd, .slice da dn dc] 84 (0, 0))).alloc (.cells #[.int .i64 0, .bool false] 142 (0, 0))).heap[k]? = w.heap[k]? := fun k h _ => by
    rw [heap_alloc_old _ _ _ (by omega), heap_alloc_old _ _ _ h]
  have BW : Below w.heap.size w ((w.alloc (.cells #[.slice na nn nc, .int .i64 wd, .slice da dn dc] 84 (0, 0))).alloc (.cells #[.int .i64 0, .bool false] 142 (0, 0))) := ((Below.refl _ _).alloc (Nat.le_refl _) _).alloc (by simp) _
  have hd := hG (fun k => k < w.heap.size) _ (w.heap.size + 1) (0, false) (.slice da dn dc) us false aS (dr1.keep kp) (de1.keep kp) (fun k h => by omega)
  obtain ⟨G, HG⟩ : ∃ G, Hid (K.gds false l (0, false) = G) := ⟨_, rfl⟩
  rw [HG.out] at hd
  clear dr de dr1 de1 kp hG
  go_enter Tryz.func57, Tryz.ntmps57
  go_wp2_with fail
  refine hd.mono ?_
  rintro x w2 ⟨rfl, h2, hb2⟩
  have B2 : Below w.heap.size w w2 := BW.trans ⟨hb2.os, hb2.tape, hb2.output, hb2.size, fun k hk => hb2.block k (by have := BW.size; omega) (by omega)⟩
  have c0 := h2.cell 0
  have c1 := h2.cell 1
  simp only [List.getElem?_cons_zero, List.getElem?_cons_succ] at c0 c1
  go_upto_region 3 with fail
  go_region
  all_goals
    go_wp2_with fail
    rw [HG.out]
    go_ret2
    exact ⟨rfl, B2.drew⟩
end Go.Proofs.YtejbgcloblpbfaaGreatDoor
namespace Go.Proofs.YtejbgcloblpbfaaGreatDoor
open Go.RowKit
open R (Tok tk)
open K (Nm S Scans Ex Do)
def K.found (T : List Tok) : K.GS := K.gds false (K.progD T) (0, false)
def Readed (T : List Tok) (w w' : World) (x : Ending) : Prop :=
  (¬ (K.progS T).err = 0 ∧ x = .returned (.tuple #[zeroP, .int .i64 (K.progS T).err, .int .i64 (K.progS T).eat])) ∨
  ((K.progS T).err = 0 ∧ (K.found T).2 = true ∧ x = .returned (.tuple #[zeroP, .int .i64 7, .int .i64 (K.found T).1])) ∨
  ((K.progS T).err = 0 ∧ (K.found T).2 = false ∧ ∃ nv dv us, x = .returned (.tuple #[.agg #[nv, .int .i64 (K.progS T).words, dv], .int .i64 0, .int .i64 0]) ∧ w'.ownsRow 0 96 5 nv (K.progS T).names.length ((K.progS T).names.flatMap nmCells) ∧ DRow (From w.heap.size) w' dv us ∧ Each (From w.heap.size) w' (K.progD T) us)
set_option maxHeartbeats 400000 in
theorem mread_long (s : ByteArray) (w : World) (hs : 800 < s.size) (hm : s.size ≤ maxLen) :
    Calls Tryz.prog 40 #[.string s] w fun x w' => x = .returned (.tuple #[zeroP, .int .i64 1, .int .i64 0]) ∧ Below w.heap.size w w' := by
  have hp := parse_long s (w.alloc (.cells #[.slice none 0 0, .int .i64 0, .slice none 0 0] 84 (0, 0))) hs hm
  have aA := At.alloc_new w [.slice none 0 0, .int .i64 0, .slice none 0 0] 84
  have BW : Below w.heap.size w (w.alloc (.cells #[.slice none 0 0, .int .i64 0, .slice none 0 0] 84 (0, 0))) := (Below.refl _ _).alloc (Nat.le_refl _) _
  unfold zeroP at hp
  go_enter Tryz.func40, Tryz.ntmps40
  go_wp2_with fail
  refine hp.mono ?_
  rintro x w2 ⟨rfl, hb2⟩
  have aA2 := aA.of_block (hb2.block _ aA.lt)
  have B2 := BW.trans (hb2.mono BW.size)
  have lA := aA2.lt
  have q0 := aA2.cell 0
  have q1 := aA2.cell 1
  have q2 := aA2.cell 2
  simp only [List.getElem?_cons_zero, List.getElem?_cons_succ] at q0 q1 q2
  have f0 := aA2.frozen 0
  have f1 := aA2.frozen 1
  have f2 := aA2.frozen 2
  have RZ := ((aA2.set 0 (.slice none 0 0)).set 1 (.int .i64 0)).set 2 (.slice none 0 0)
  have BZ : Below w.heap.size w (((w2.setCell ⟨w.heap.size, 0, none⟩ (.slice none 0 0)).setCell ⟨w.heap.size, 1, none⟩ (.int .i64 0)).setCell ⟨w.heap.size, 2, none⟩ (.slice none 0 0)) := ((B2.setCell (Nat.le_refl _) _).setCell (Nat.le_refl _) _).setCell (Nat.le_refl _) _
  go_wp2_with fail
  generalize ((w2.setCell ⟨w.heap.size, 0, none⟩ (.slice none 0 0)).setCell ⟨w.heap.size, 1, none⟩ (.int .i64 0)).setCell ⟨w.heap.size, 2, none⟩ (.slice none 0 0) = WZ at *
  have z0 : WZ.cell? ⟨w.heap.size, 0, none⟩ = some (.slice none 0 0) := RZ.cell 0
  have z1 : WZ.cell? ⟨w.heap.size, 1, none⟩ = some (.int .i64 0) := RZ.cell 1
  have z2 : WZ.cell? ⟨w.heap.size, 2, none⟩ = some (.slice none 0 0) := RZ.cell 2
  have zl := RZ.lt
  exact bodyPost_ret (v := .tuple #[zeroP, .int .i64 1, .int .i64 0]) (by simp [results, Tryz.results40, go_sem, zeroP, z0, z1, z2, zl]) rfl ⟨rfl, BZ.alloc (by omega) _⟩
end Go.Proofs.YtejbgcloblpbfaaGreatDoor
namespace Go.Proofs.YtejbgcloblpbfaaGreatDoor
open Go.RowKit
open R (Tok tk)
open K (Nm S Scans Ex Do)
theorem row_slc {w : World} {B : Nat} {e : TypeId} {size : Nat} {v : Value} {n : Nat} {xs : List Value} (h : w.ownsRow B e size v n xs) : ∃ a m c, v = .slice a m c := by
  obtain ⟨_, h | ⟨g, cap, cur, rfl, _⟩⟩ := h
  · exact ⟨_, _, _, h.1⟩
  · exact ⟨_, _, _, rfl⟩
set_option maxHeartbeats 1000000 in
theorem mread_c (hGd : ∀ l, K.goodL l = true → GdsDoes l) (s : ByteArray) (w : World) (hs : s.size ≤ 800) (hv : K.Vars w) (hw : 5 ≤ w.heap.size) :
    Calls Tryz.prog 40 #[.string s] w fun x w' => Readed (R.toks s) w w' x ∧ Below w.heap.size w w' := by
  have aA := At.alloc_new w [.slice none 0 0, .int .i64 0, .slice none 0 0] 84
  have BW : Below w.heap.size w (w.alloc (.cells #[.slice none 0 0, .int .i64 0, .slice none 0 0] 84 (0, 0))) := (Below.refl _ _).alloc (Nat.le_refl _) _
  have hVW : K.Vars (w.alloc (.cells #[.slice none 0 0, .int .i64 0, .slice none 0 0] 84 (0, 0))) := by
    obtain ⟨⟨e0, a1, a2⟩, ⟨e1, c1, c2⟩⟩ := hv
    exact ⟨⟨e0, (BW.cell (p := ⟨3, 0, none⟩) (by show 3 < w.heap.size; omega)).trans a1, a2⟩, ⟨e1, (BW.cell (p := ⟨4, 0, none⟩) (by show 4 < w.heap.size; omega)).trans c1, c2⟩⟩
  have hp := parse_c s _ hs hVW (by have := BW.size; omega)
  have hS := K.scans_toks hs
  have hgood := fun e => K.prog_good hS (K.prog0_depth (R.toks s)) e
  have HFD : Hid (K.found (R.toks s) = K.gds false (K.progD (R.toks s)) (0, false)) := rfl
  generalize R.toks s = T at *
  obtain ⟨σF, HSF⟩ : ∃ σF, Hid (K.progS T = σF) := ⟨_, rfl⟩
  unfold Parsed at hp
  rw [HSF.out] at hp hgood
  unfold Readed
  rw [HSF.out]
  go_enter Tryz.func40, Tryz.ntmps40
  go_wp2_with fail
  refine hp.mono ?_
  rintro x w2 ⟨hpar, hb2⟩
  have aA2 := aA.of_block (hb2.block _ aA.lt)
  have B2 := BW.trans (hb2.mono BW.size)
  have lA := aA2.lt
  clear hp hVW aA
  rcases hpar with ⟨he, rfl⟩ | ⟨he, nv, dv, us, rfl, nr, dr, de⟩
  · have he' : (σF.err != 0) = true := by simpa using he
    unfold zeroP
    have q0 := aA2.cell 0
    have q1 := aA2.cell 1
    have q2 := aA2.cell 2
    simp only [List.getElem?_cons_zero, List.getElem?_cons_succ] at q0 q1 q2
    have f0 := aA2.frozen 0
    have f1 := aA2.frozen 1
    have f2 := aA2.frozen 2
    have RZ := ((aA2.set 0 (.slice none 0 0)).set 1 (.int .i64 0)).set 2 (.slice none 0 0)
    have BZ : Below w.heap.size w (((w2.setCell ⟨w.heap.size, 0, none⟩ (.slice none 0 0)).setCell ⟨w.heap.size, 1, none⟩ (.int .i64 0)).setCell ⟨w.heap.size, 2, none⟩ (.slice none 0 0)) := ((B2.setCell (Nat.le_refl _) _).setCell (Nat.le_refl _) _).setCell (Nat.le_refl _) _
    go_wp2_with fail
    generalize ((w2.setCell ⟨w.heap.size, 0, none⟩ (.slice none 0 0)).setCell ⟨w.heap.size, 1, none⟩ (.int .i64 0)).setCell ⟨w.heap.size, 2, none⟩ (.slice none 0 0) = WZ at *
    have z0 : WZ.cell? ⟨w.heap.size, 0, none⟩ = some (.slice none 0 0) := RZ.cell 0
    have z1 : WZ.cell? ⟨w.heap.size, 1, none⟩ = some (.int .i64 0) := RZ.cell 1
    have z2 : WZ.cell? ⟨w.heap.size, 2, none⟩ = some (.slice none 0 0) := RZ.cell 2
    have zl := RZ.lt
    exact bodyPost_ret (v := .tuple #[zeroP, .int .i64 σF.err, .int .i64 σF.eat]) (by simp [results, Tryz.results40, go_sem, zeroP, z0, z1, z2, zl]) rfl ⟨Or.inl ⟨he, rfl⟩, BZ.alloc (by omega) _⟩
  · obtain ⟨na, nc, nk, hnv⟩ := row_slc nr
    obtain ⟨da, dn, dc, hdv⟩ := dr.form
    subst hdv
    have he' : (σF.err != 0) = false := by rw [he]; rfl
    have hg := hGd _ (hgood he)
    have dr2 := dr.lower (B' := fun k => w.heap.size < k ∧ k < w2.heap.size) fun k h1 h => ⟨by have : (w.alloc (.cells #[.slice none 0 0, .int .i64 0, .slice none 0 0] 84 (0, 0))).heap.size ≤ k := h1; simp at this; omega, h⟩
    have de2 := de.lower (B' := fun k => w.heap.size < k ∧ k < w2.heap.size) fun k h1 h => ⟨by have : (w.alloc (.cells #[.slice none 0 0, .int .i64 0, .slice none 0 0] 84 (0, 0))).heap.size ≤ k := h1; simp at this; omega, h⟩
    have nr2 := nr
    have nl : ∀ k, nv.ownBlock = some k → k < w2.heap.size ∧ k ≠ w.heap.size := fun k e => by
      obtain ⟨cur, hc⟩ := own_block nr e
      refine ⟨blk_lt hc, fun e' => ?_⟩
      have := aA2
      unfold At at this
      rw [← e', hc] at this
      simp at this
    have HNV := hide hnv
    rw [hnv]
    have ka : ∀ k, (w.heap.size < k ∧ k < w2.heap.size) → k < w2.heap.size → (w2.alloc (.cells #[.slice na nc nk, .int .i64 σF.words, .slice da dn dc] 84 (0, 0))).heap[k]? = w2.heap[k]? := fun k h1 _ => heap_alloc_old _ _ _ h1.2
    have dr3 := dr2.keep ka
    have de3 := de2.keep ka
    have nr3 := row_of (w' := w2.alloc (.cells #[.slice na nc nk, .int .i64 σF.words, .slice da dn dc] 84 (0, 0))) nr fun k e => heap_alloc_old _ _ _ (nl k e).1
    have hfi := first_c hg (na := na) (nn := nc) (nc := nk) (wd := σF.words) dr3 de3
    have aA3 := aA2.alloc (.cells #[.slice na nc nk, .int .i64 σF.words, .slice da dn dc] 84 (0, 0))
    have aP := At.alloc_new w2 [.slice na nc nk, .int .i64 σF.words, .slice da dn dc] 84
    have B3 : Below w.heap.size w (w2.alloc (.cells #[.slice na nc nk, .int .i64 σF.words, .slice da dn dc] 84 (0, 0))) := B2.alloc (by omega) _
    rw [← HFD.out] at hfi
    obtain ⟨FD, HF2⟩ : ∃ FD, Hid (K.found T = FD) := ⟨_, rfl⟩
    rw [HF2.out] at hfi
    clear nr dr de dr2 de2 ka hnv HFD
    go_wp2_with fail
    refine hfi.mono ?_
    rintro x w4 ⟨rfl, hb4⟩
    have aA4 := aA3.of_block (hb4.block _ aA3.lt)
    have aP4 := aP.of_block (hb4.block _ aP.lt)
    have B4 := B3.trans (hb4.mono B3.size)
    have l4 := aA4.lt
    have s3 := aP.lt
    have p0 := aP4.cell 0
    have p1 := aP4.cell 1
    have p2 := aP4.cell 2
    simp only [List.getElem?_cons_zero, List.getElem?_cons_succ] at p0 p1 p2
    have nr4 := row_of (w' := w4) nr3 fun k e => hb4.block k (by have := (nl k e).1; omega)
    have dr4 := dr3.keep (w' := w4) fun k _ h => hb4.block k h
    have de4 := Each.keep (w' := w4) (fun k _ h => hb4.block k h) de3
    clear hfi dr3 de3 nr3 aA3 aP
    cases hf : FD.2 with
    | true =>
      have q0 := aA4.cell 0
      have q1 := aA4.cell 1
      have q2 := aA4.cell 2
      simp only [List.getElem?_cons_zero, List.getElem?_cons_succ] at q0 q1 q2
      have f0 := aA4.frozen 0
      have f1 := aA4.frozen 1
      have f2 := aA4.frozen 2
      have RZ := ((aA4.set 0 (.slice none 0 0)).set 1 (.int .i64 0)).set 2 (.slice none 0 0)
      have BZ : Below w.heap.size w (((w4.setCell ⟨w.heap.size, 0, none⟩ (.slice none 0 0)).setCell ⟨w.heap.size, 1, none⟩ (.int .i64 0)).setCell ⟨w.heap.size, 2, none⟩ (.slice none 0 0)) := ((B4.setCell (Nat.le_refl _) _).setCell (Nat.le_refl _) _).setCell (Nat.le_refl _) _
      go_wp2_with fail
      generalize ((w4.setCell ⟨w.heap.size, 0, none⟩ (.slice none 0 0)).setCell ⟨w.heap.size, 1, none⟩ (.int .i64 0)).setCell ⟨w.heap.size, 2, none⟩ (.slice none 0 0) = WZ at *
      have z0 : WZ.cell? ⟨w.heap.size, 0, none⟩ = some (.slice none 0 0) := RZ.cell 0
      have z1 : WZ.cell? ⟨w.heap.size, 1, none⟩ = some (.int .i64 0) := RZ.cell 1
      have z2 : WZ.cell? ⟨w.heap.size, 2, none⟩ = some (.slice none 0 0) := RZ.cell 2
      refine bodyPost_ret (v := .tuple #[zeroP, .int .i64 7, .int .i64 FD.1]) (by simp [results, Tryz.results40, go_sem, zeroP, z0, z1, z2]) rfl ⟨Or.inr (Or.inl ⟨he, ?_⟩), BZ⟩
      rw [HF2.out]
      exact ⟨hf, rfl⟩
    | false =>
      have q0 := aA4.cell 0
      have q1 := aA4.cell 1
      have q2 := aA4.cell 2
      simp only [List.getElem?_cons_zero, List.getElem?_cons_succ] at q0 q1 q2
      have f0 := aA4.frozen 0
      have f1 := aA4.frozen 1
      have f2 := aA4.frozen 2
      have RZ := ((aA4.set 0 (.slice na nc nk)).set 1 (.int .i64 σF.words)).set 2 (.slice da dn dc)
      have sne : ∀ j, j ≠ w.heap.size → (((w4.setCell ⟨w.heap.size, 0, none⟩ (.slice na nc nk)).setCell ⟨w.heap.size, 1, none⟩ (.int .i64 σF.words)).setCell ⟨w.heap.size, 2, none⟩ (.slice da dn dc)).heap[j]? = w4.heap[j]? := fun j hj => by
        rw [Below.heap_setCell _ _ _ _ hj, Below.heap_setCell _ _ _ _ hj, Below.heap_setCell _ _ _ _ hj]
      have BZ : Below w.heap.size w (((w4.setCell ⟨w.heap.size, 0, none⟩ (.slice na nc nk)).setCell ⟨w.heap.size, 1, none⟩ (.int .i64 σF.words)).setCell ⟨w.heap.size, 2, none⟩ (.slice da dn dc)) := ((B4.setCell (Nat.le_refl _) _).setCell (Nat.le_refl _) _).setCell (Nat.le_refl _) _
      have nr5 := row_of (w' := ((w4.setCell ⟨w.heap.size, 0, none⟩ (.slice na nc nk)).setCell ⟨w.heap.size, 1, none⟩ (.int .i64 σF.words)).setCell ⟨w.heap.size, 2, none⟩ (.slice da dn dc)) nr4 fun k e => sne k (nl k e).2
      have dr5 := (dr4.keep (w' := ((w4.setCell ⟨w.heap.size, 0, none⟩ (.slice na nc nk)).setCell ⟨w.heap.size, 1, none⟩ (.int .i64 σF.words)).setCell ⟨w.heap.size, 2, none⟩ (.slice da dn dc)) fun k h _ => sne k (by omega)).lower (B' := From w.heap.size) fun k h _ => by show w.heap.size ≤ k; omega
      have de5 := (Each.keep (w' := ((w4.setCell ⟨w.heap.size, 0, none⟩ (.slice na nc nk)).setCell ⟨w.heap.size, 1, none⟩ (.int .i64 σF.words)).setCell ⟨w.heap.size, 2, none⟩ (.slice da dn dc)) (fun k h _ => sne k (by omega)) de4).lower (B' := From w.heap.size) fun k h _ => by show w.heap.size ≤ k; omega
      clear sne dr4 de4 nr4
      go_wp2_with fail
      generalize ((w4.setCell ⟨w.heap.size, 0, none⟩ (.slice na nc nk)).setCell ⟨w.heap.size, 1, none⟩ (.int .i64 σF.words)).setCell ⟨w.heap.size, 2, none⟩ (.slice da dn dc) = WZ at *
      have z0 : WZ.cell? ⟨w.heap.size, 0, none⟩ = some (.slice na nc nk) := RZ.cell 0
      have z1 : WZ.cell? ⟨w.heap.size, 1, none⟩ = some (.int .i64 σF.words) := RZ.cell 1
      have z2 : WZ.cell? ⟨w.heap.size, 2, none⟩ = some (.slice da dn dc) := RZ.cell 2
      refine bodyPost_ret (v := .tuple #[.agg #[.slice na nc nk, .int .i64 σF.words, .slice da dn dc], .int .i64 0, .int .i64 0]) (by simp [results, Tryz.results40, go_sem, z0, z1, z2]) rfl ⟨Or.inr (Or.inr ⟨he, ?_, nv, .slice da dn dc, us, by rw [HNV.out], nr5, dr5, de5⟩), BZ⟩
      rw [HF2.out]
      exact hf
end Go.Proofs.YtejbgcloblpbfaaGreatDoor
namespace Go.Proofs.YtejbgcloblpbfaaGreatDoor
open Go.RowKit
open R (Tok tk)
open K (Nm S Scans Ex Do)
def K.checkT (T : List Tok) : Int × Int := if (K.progS T).err = 0 then (if (K.found T).2 = true then (7, (K.found T).1) else (0, 0)) else ((K.progS T).err, (K.progS T).eat)
def K.check (s : ByteArray) : Int × Int := if 800 < s.size then (1, 0) else K.checkT (R.toks s)
set_option maxHeartbeats 400000 in
theorem check_c (hGd : ∀ l, K.goodL l = true → GdsDoes l) (s : ByteArray) (w : World) (hm : s.size ≤ maxLen) (hv : K.Vars w) (hw : 5 ≤ w.heap.size) :
    Calls Tryz.prog 14 #[.string s] w fun x w' => x = .returned (.tuple #[.int .i64 (K.check s).1, .int .i64 (K.check s).2]) ∧ Below w.heap.size w w' := by
  by_cases hs : 800 < s.size
  · have hr := mread_long s w hs hm
    have e : K.check s = (1, 0) := by unfold K.check; rw [if_pos hs]
    rw [e]
    unfold zeroP at hr
    go_enter Tryz.func14, Tryz.ntmps14
    go_wp2_with fail
    refine hr.mono ?_
    rintro x w1 ⟨rfl, hb⟩
    go_wp2_with fail
    go_ret2
    exact ⟨rfl, hb.alloc hb.size _⟩
  · have hr := mread_c hGd s w (by omega) hv hw
    have HE : Hid (K.check s = K.checkT (R.toks s)) := by show _ = _; unfold K.check; rw [if_neg hs]
    generalize R.toks s = T at *
    unfold Readed at hr
    obtain ⟨C, HC⟩ : ∃ C, Hid (K.check s = C) := ⟨_, rfl⟩
    rw [HC.out]
    have HT : Hid (C = if (K.progS T).err = 0 then (if (K.found T).2 = true then (7, (K.found T).1) else (0, 0)) else ((K.progS T).err, (K.progS T).eat)) := by show _ = _; rw [← HC.out, HE.out]; rfl
    generalize K.progS T = σF at *
    generalize K.found T = FD at *
    go_enter Tryz.func14, Tryz.ntmps14
    go_wp2_with fail
    refine hr.mono ?_
    rintro x w1 ⟨hx, hb⟩
    rcases hx with ⟨he, rfl⟩ | ⟨he, hf, rfl⟩ | ⟨he, hf, nv, dv, us, rfl, nr, dr, de⟩
    · have e : C = (σF.err, σF.eat) := by rw [HT.out, if_neg he]
      subst e
      unfold zeroP
      go_wp2_with fail
      go_ret2
      exact ⟨rfl, hb.alloc hb.size _⟩
    · have e : C = (7, FD.1) := by rw [HT.out, if_pos he, if_pos hf]
      subst e
      unfold zeroP
      go_wp2_with fail
      go_ret2
      exact ⟨rfl, hb.alloc hb.size _⟩
    · have e : C = (0, 0) := by rw [HT.out, if_pos he, if_neg (by rw [hf]; decide)]
      subst e
      obtain ⟨na, nc, nk, hnv⟩ := row_slc nr
      obtain ⟨da, dn, dc, hdv⟩ := dr.form
      subst hnv hdv
      go_wp2_with fail
      go_ret2
      exact ⟨rfl, hb.alloc hb.size _⟩
end Go.Proofs.YtejbgcloblpbfaaGreatDoor
namespace Go.Proofs.YtejbgcloblpbfaaGreatDoor
open R (Tok tk PS Thing)
open K (S Nm)
namespace Q
structure SameN (t : Thing) (n : Nm) : Prop where
  name : t.name = n.text
  kind : t.kind = n.kind + 1
  k0 : 0 ≤ n.kind
  k2 : n.kind ≤ 2
  sec : t.sec = n.sec
  size : t.size = n.size
def Names : List Thing → List Nm → Prop
  | [], [] => True
  | t :: l, n :: m => SameN t n ∧ Names l m
  | _, _ => False
structure Sm (σ : PS) (τ : S) : Prop where
  e1 : σ.err = 0
  e2 : τ.err = 0
  i : σ.i = τ.i
  nest : σ.nest = τ.depth
  loops : σ.loops = τ.loops
  names : Names σ.seen τ.names
structure Dd (σ : PS) (τ : S) : Prop where
  e1 : σ.err ≠ 0
  e2 : τ.err = σ.err
  p : τ.eat = σ.place
def Eqv (σ : PS) (τ : S) : Prop := Sm σ τ ∨ Dd σ τ
def KD (τ τ' : S) : Prop := τ.err ≠ 0 → τ'.err = τ.err ∧ τ'.eat = τ.eat
theorem KD.rfl' (τ : S) : KD τ τ := fun _ => ⟨rfl, rfl⟩
theorem KD.trans {a b c : S} (h : KD a b) (k : KD b c) : KD a c := fun e => by
  have h1 := h e
  have h2 := k (by rw [h1.1]; exact e)
  exact ⟨h2.1.trans h1.1, h2.2.trans h1.2⟩
theorem step_kd (T : List Tok) (τ : S) : KD τ (K.step T τ) := fun _ => ⟨rfl, rfl⟩
theorem fail_kd (T : List Tok) (e p : Int) (τ : S) : KD τ (K.fail T e p τ) := fun h => by unfold K.fail; rw [if_neg h]; exact ⟨rfl, rfl⟩
theorem take_kd (T : List Tok) (f : ByteArray → Bool) (τ : S) : KD τ (K.take T f τ) := by
  unfold K.take; split
  · exact step_kd T τ
  · exact fail_kd T _ _ _
theorem known_kd (T : List Tok) (f : Nm → Bool) (τ : S) : KD τ (K.known T f τ) := by
  unfold K.known; split
  · exact take_kd T _ τ
  · exact (take_kd T _ τ).trans (fail_kd T _ _ _)
theorem newName_kd (T : List Tok) (τ : S) : KD τ (K.newName T τ) := by
  unfold K.newName; split
  · exact (take_kd T _ τ).trans (fail_kd T _ _ _)
  · exact take_kd T _ τ
theorem deeper_kd (d : Int) (τ : S) : KD τ (K.deeper d τ) := fun _ => ⟨rfl, rfl⟩
theorem opened_kd (T : List Tok) (τ : S) : KD τ (K.opened T τ) := by
  unfold K.opened K.op2; split
  · exact ((take_kd T _ τ).trans (fail_kd T _ _ _)).trans (deeper_kd _ _)
  · exact (take_kd T _ τ).trans (deeper_kd _ _)
theorem closed_kd (T : List Tok) (τ : S) : KD τ (K.closed T τ) := (take_kd T _ τ).trans (deeper_kd _ _)
theorem comp_kd {T : List Tok} {ex : S → S × K.Ex} (h : ∀ τ, KD τ (ex τ).1) (p : Int) (τ : S) : KD τ (K.comp T ex p τ).1 := by
  unfold K.comp
  split
  · exact ((step_kd T τ).trans (known_kd T _ _)).trans (h _)
  · split
    · exact (((step_kd T τ).trans (h _)).trans (h _)).trans (h _)
    · split
      · exact ((take_kd T _ τ).trans (h _)).trans (h _)
      · exact fail_kd T _ _ _
theorem expr_kd (T : List Tok) (f : Nat) : ∀ τ, KD τ (K.expr T f τ).1 := by
  induction f with
  | zero => intro τ; exact KD.rfl' τ
  | succ f ih =>
    intro τ
    rw [K.expr]
    unfold K.exB
    split
    · exact ((opened_kd T τ).trans (comp_kd ih _ _)).trans (closed_kd T _)
    · split
      · exact take_kd T _ τ
      · exact known_kd T _ τ
def RD (σ σ' : PS) : Prop := σ.err ≠ 0 → σ'.err = σ.err ∧ σ'.place = σ.place
theorem Dd.next {σ σ' : PS} {τ τ' : S} (h : Dd σ τ) (r : RD σ σ') (k : KD τ τ') : Dd σ' τ' := by
  have h1 := r h.e1
  have h2 := k (by rw [h.e2]; exact h.e1)
  exact ⟨by rw [h1.1]; exact h.e1, by rw [h2.1, h1.1]; exact h.e2, by rw [h2.2, h1.2]; exact h.p⟩
theorem rfail_d (e p : Int) (σ : PS) : RD σ (R.fail e p σ) := fun h => by unfold R.fail; rw [if_neg h]; exact ⟨rfl, rfl⟩
theorem rtake_d (T : List Tok) (σ : PS) : RD σ (R.take T σ) := fun _ => by unfold R.take; split <;> exact ⟨rfl, rfl⟩
theorem RD.trans {a b c : PS} (h : RD a b) (k : RD b c) : RD a c := fun e => by
  have h1 := h e
  have h2 := k (by rw [h1.1]; exact e)
  exact ⟨h2.1.trans h1.1, h2.2.trans h1.2⟩
theorem rwant_d (T : List Tok) (l : List UInt8) (σ : PS) : RD σ (R.want T l σ) := by
  unfold R.want; split
  · exact rtake_d T σ
  · exact (rtake_d T σ).trans (rfail_d _ _ _)
theorem fail_dd {σ : PS} {τ : S} (h1 : σ.err = 0) (h2 : τ.err = 0) {e : Int} (he : e ≠ 0) (T : List Tok) (p : Int) : Dd (R.fail e p σ) (K.fail T e p τ) := by
  unfold R.fail K.fail
  rw [if_pos h1, if_pos h2]
  exact ⟨he, rfl, rfl⟩
theorem take_sm (T : List Tok) {σ : PS} {τ : S} (h : Sm σ τ) : Sm (R.take T σ) (K.step T τ) := by
  have hi := h.i
  unfold R.take
  by_cases hl : σ.i + 1 < T.length
  · rw [if_pos hl]
    refine ⟨h.e1, h.e2, ?_, h.nest, h.loops, h.names⟩
    show σ.i + 1 = K.nx T τ.i
    unfold K.nx
    rw [if_pos (by omega), hi]
  · rw [if_neg hl]
    refine ⟨h.e1, h.e2, ?_, h.nest, h.loops, h.names⟩
    show σ.i = K.nx T τ.i
    unfold K.nx
    rw [if_neg (by omega), hi]
theorem rtake_err (T : List Tok) (σ : PS) : (R.take T σ).err = σ.err := (R.take_core T σ).2.2.1
theorem want_eqv (T : List Tok) (l : List UInt8) {σ : PS} {τ : S} (h : Sm σ τ) : Eqv (R.want T l σ) (K.expect T l τ) := by
  unfold R.want K.expect K.take K.isIt
  rw [← h.i]
  by_cases e : (tk T σ.i).s.toList = l
  · rw [if_pos e, if_pos (by rw [e]; simp)]
    exact Or.inl (take_sm T h)
  · rw [if_neg e, if_neg (by simpa using e)]
    unfold K.here
    rw [← h.i]
    exact Or.inr (fail_dd ((rtake_err T σ).trans h.e1) h.e2 (by decide) T _)
theorem opens_eqv (T : List Tok) {σ : PS} {τ : S} (h : Sm σ τ) : Eqv (R.opens T σ) (K.opened T τ) := by
  have hw := want_eqv T [40] h
  have n1 := (R.want_core T [40] σ).2.2.2
  have n2 : (K.op1 T τ).depth = τ.depth := (K.op1_keeps T τ).depth
  have hE : K.expect T [40] τ = K.op1 T τ := rfl
  rw [hE] at hw
  unfold R.opens R.open1 K.opened K.op2
  rw [← h.i]
  by_cases hn : σ.nest = 10
  · rw [if_pos hn, if_pos (by rw [n2, ← h.nest]; exact hn)]
    rcases hw with hw | hw
    · have := fail_dd hw.e1 hw.e2 (e := 6) (by decide) T (tk T σ.i).p
      exact Or.inr ⟨this.e1, this.e2, this.p⟩
    · have := hw.next (rfail_d 6 (tk T σ.i).p _) (fail_kd T 6 (tk T σ.i).p _)
      exact Or.inr ⟨this.e1, this.e2, this.p⟩
  · rw [if_neg hn, if_neg (by rw [n2, ← h.nest]; exact hn)]
    rcases hw with hw | hw
    · refine Or.inl ⟨hw.e1, hw.e2, hw.i, ?_, hw.loops, hw.names⟩
      show (R.want T [40] σ).nest + 1 = (K.op1 T τ).depth + 1
      rw [hw.nest]
    · exact Or.inr ⟨hw.e1, hw.e2, hw.p⟩
theorem shut_eqv (T : List Tok) {σ : PS} {τ : S} (h : Eqv σ τ) : Eqv (R.shut T σ) (K.closed T τ) := by
  rcases h with h | h
  · have hw := want_eqv T [41] h
    have hE : K.expect T [41] τ = K.cl1 T τ := rfl
    rw [hE] at hw
    unfold R.shut K.closed
    rw [if_pos h.e1]
    rcases hw with hw | hw
    · refine Or.inl ⟨hw.e1, hw.e2, hw.i, ?_, hw.loops, hw.names⟩
      show (R.want T [41] σ).nest - 1 = (K.cl1 T τ).depth + -1
      rw [hw.nest]; omega
    · exact Or.inr ⟨hw.e1, hw.e2, hw.p⟩
  · have k := closed_kd T τ
    unfold R.shut
    rw [if_neg h.e1]
    have := h.next (σ' := σ) (fun _ => ⟨rfl, rfl⟩) k
    exact Or.inr ⟨this.e1, this.e2, this.p⟩
end Q
end Go.Proofs.YtejbgcloblpbfaaGreatDoor
namespace Go.Proofs.YtejbgcloblpbfaaGreatDoor
open Go.RowKit
open K (Nm Ex Do)
set_option maxRecDepth 100000 in
set_option maxHeartbeats 2000000 in
theorem gd_for (p : Int) (n : Nm) (e : Ex) (l : List Do) (hg : K.good e = true) (hl : GdsDoes l) : GdDoes (.fors p n e l) := by
  intro B w b g u hid h hd hB
  unfold DoIs at hd
  obtain ⟨lv, ls, hu, dr, de⟩ := hd
  subst hu
  have a1 := ad_For_Set
  have a2 := ad_For_Put
  have a3 := ad_For_If
  have a4 := ad_For_For
  have hlt := h.lt
  have hm := sec_method e hg
  have hna := sec_ahead e hg
  have hen := sec_enter e hg
  have hs := sec_c e hg
  unfold SecDoes at hs
  have HK : Hid (K.gd hid (.fors p n e l) g = K.gds hid l (K.gx e (K.note p (K.sec e) g))) := by show _ = _; rw [K.gd]
  have hn := fun (w : World) (h' : GAt w b g) => note_c h' p (K.sec e)
  have hx := fun (w : World) (h' : GAt w b (K.note p (K.sec e) g)) => gx_c e hg w b _ h'
  have hx2 := fun (w' : World) (h' : GAt w' b (K.gx e (K.note p (K.sec e) g))) (d1 : DRow B w' lv ls) (d2 : Each B w' l ls) => hl B w' b _ lv ls hid h' d1 d2 hB
  rw [exV_good hg] at hx ⊢
  generalize K.gd hid (.fors p n e l) g = G at *
  generalize K.gds hid l (K.gx e (K.note p (K.sec e) g)) = G3 at *
  generalize K.gx e (K.note p (K.sec e) g) = G2 at *
  generalize K.note p (K.sec e) g = g1 at *
  generalize K.sec e = q at *
  generalize exT e = t at *
  generalize exP e = x at *
  generalize exM e = m at *
  obtain ⟨x0, x1, x2, x3, x4⟩ := n
  obtain ⟨la, ln, lc, hlv⟩ := dr.form
  subst hlv
  dsimp only at *
  have h0 := h.alloc (.cells #[.int .i64 p, .string x0, .int .i64 x1, .bool x2, .int .i64 x3, .int .i64 x4, .iface t x, .slice la ln lc] 186 (0, 0))
  have bx := At.alloc_new w [.int .i64 p, .string x0, .int .i64 x1, .bool x2, .int .i64 x3, .int .i64 x4, .iface t x, .slice la ln lc] 186
  have B0 : But b w (w.alloc (.cells #[.int .i64 p, .string x0, .int .i64 x1, .bool x2, .int .i64 x3, .int .i64 x4, .iface t x, .slice la ln lc] 186 (0, 0))) := (But.refl b w).alloc _
  have nq : w.heap.size ≠ b := by omega
  go_enter Tryz.func108, Tryz.ntmps108
  go_upto_region 18 with fail
  go_region_with (first | (go_at_call 142; refine (hn _ h1).mono ?_; rintro y w2 ⟨rfl, h2, hb2⟩; have bx2 := bx1.of_block (hb2.block _ bx1.lt nq); have k6 := bx2.cell 6; simp only [List.getElem?_cons_zero, List.getElem?_cons_succ] at k6) | (refine (hs _).mono ?_; rintro y w1 ⟨rfl, hb1⟩; have h1 : GAt w1 b g := h0.of_block (hb1.block _ h0.lt); have bx1 : At w1 w.heap.size 186 [.int .i64 p, .string x0, .int .i64 x1, .bool x2, .int .i64 x3, .int .i64 x4, .iface t x, .slice la ln lc] := bx.of_block (hb1.block _ bx.lt); have k0 := bx1.cell 0; simp only [List.getElem?_cons_zero] at k0))
  all_goals
    have B2 := (B0.drew.below hb1).trans hb2
    go_wp2_with fail
    refine (hx _ h2).mono ?_
    rintro y w3 ⟨rfl, h3, hb3⟩
    have B3 := B2.trans hb3
    have bx3 := bx2.of_block (hb3.block _ bx2.lt nq)
    have k7 := bx3.cell 7
    simp only [List.getElem?_cons_zero, List.getElem?_cons_succ] at k7
    have kp : ∀ k, B k → k < w.heap.size → w3.heap[k]? = w.heap[k]? := fun k h1 h2 => B3.block k h2 (hB k h1)
    go_wp2_with fail
    refine (hx2 _ h3 (dr.keep kp) (de.keep kp)).mono ?_
    rintro y w4 ⟨rfl, h4, hb4⟩
    go_wp2_with fail
    go_end0
    rw [HK.out]
    exact ⟨rfl, h4, B3.trans hb4⟩
set_option maxRecDepth 100000 in
set_option maxHeartbeats 2000000 in
theorem gd_if (p : Int) (e : Ex) (l r : List Do) (hg : K.good e = true) (hl : GdsDoes l) (hr : GdsDoes r) : GdDoes (.ifs p e l r) := by
  intro B w b g u hid h hd hB
  unfold DoIs at hd
  obtain ⟨yv, nv, ys, ns, hu, dr, de, dr2, de2⟩ := hd
  subst hu
  have a1 := ad_If_Set
  have a2 := ad_If_Put
  have a3 := ad_If_If
  have hlt := h.lt
  have hm := sec_method e hg
  have hna := sec_ahead e hg
  have hen := sec_enter e hg
  have hs := sec_c e hg
  unfold SecDoes at hs
  have HK : Hid (K.gd hid (.ifs p e l r) g = K.gds (hid || K.sec e) r (K.gds (hid || K.sec e) l (K.gx e g))) := by show _ = _; rw [K.gd]
  have hx := fun (w : World) (h' : GAt w b g) => gx_c e hg w b _ h'
  have hx2 := fun (w' : World) (h' : GAt w' b (K.gx e g)) (d1 : DRow B w' yv ys) (d2 : Each B w' l ys) => hl B w' b _ yv ys (hid || K.sec e) h' d1 d2 hB
  have hx3 := fun (w' : World) (h' : GAt w' b (K.gds (hid || K.sec e) l (K.gx e g))) (d1 : DRow B w' nv ns) (d2 : Each B w' r ns) => hr B w' b _ nv ns (hid || K.sec e) h' d1 d2 hB
  rw [exV_good hg] at hx ⊢
  generalize K.gd hid (.ifs p e l r) g = G at *
  generalize K.gds (hid || K.sec e) r (K.gds (hid || K.sec e) l (K.gx e g)) = G3 at *
  generalize K.gds (hid || K.sec e) l (K.gx e g) = G2 at *
  generalize K.gx e g = g1 at *
  generalize K.sec e = q at *
  generalize exT e = t at *
  generalize exP e = x at *
  generalize exM e = m at *
  obtain ⟨la, ln, lc, hlv⟩ := dr.form
  subst hlv
  obtain ⟨ra, rn, rc, hrv⟩ := dr2.form
  subst hrv
  have h0 := h.alloc (.cells #[.int .i64 p, .iface t x, .slice la ln lc, .slice ra rn rc] 184 (0, 0))
  have bx := At.alloc_new w [.int .i64 p, .iface t x, .slice la ln lc, .slice ra rn rc] 184
  have B0 : But b w (w.alloc (.cells #[.int .i64 p, .iface t x, .slice la ln lc, .slice ra rn rc] 184 (0, 0))) := (But.refl b w).alloc _
  have nq : w.heap.size ≠ b := by omega
  cases hid with
  | true =>
    rw [Bool.true_or] at hx2 hx3
    go_enter Tryz.func108, Tryz.ntmps108
    go_wp2_with fail
    refine (hx _ h0).mono ?_
    rintro y w2 ⟨rfl, h2, hb2⟩
    have B2 := B0.trans hb2
    have bx2 := bx.of_block (hb2.block _ bx.lt nq)
    have k2 := bx2.cell 2
    simp only [List.getElem?_cons_zero, List.getElem?_cons_succ] at k2
    have kp : ∀ k, B k → k < w.heap.size → w2.heap[k]? = w.heap[k]? := fun k h1 h2 => B2.block k h2 (hB k h1)
    go_wp2_with fail
    refine (hx2 _ h2 (dr.keep kp) (de.keep kp)).mono ?_
    rintro y w3 ⟨rfl, h3, hb3⟩
    have B3 := B2.trans hb3
    have bx3 := bx2.of_block (hb3.block _ bx2.lt nq)
    have k3 := bx3.cell 3
    simp only [List.getElem?_cons_zero, List.getElem?_cons_succ] at k3
    have kp3 : ∀ k, B k → k < w.heap.size → w3.heap[k]? = w.heap[k]? := fun k h1 h2 => B3.block k h2 (hB k h1)
    go_wp2_with fail
    refine (hx3 _ h3 (dr2.keep kp3) (de2.keep kp3)).mono ?_
    rintro y w4 ⟨rfl, h4, hb4⟩
    go_wp2_with fail
    go_end0
    rw [HK.out]
    exact ⟨rfl, h4, B3.trans hb4⟩
  | false =>
    rw [Bool.false_or] at hx2 hx3
    go_enter Tryz.func108, Tryz.ntmps108
    go_wp2_with fail
    refine (hx _ h0).mono ?_
    rintro y w2 ⟨rfl, h2, hb2⟩
    have B2 := B0.trans hb2
    have bx2 := bx.of_block (hb2.block _ bx.lt nq)
    have k1 := bx2.cell 1
    simp only [List.getElem?_cons_zero, List.getElem?_cons_succ] at k1
    go_wp2_with fail
    refine (hs _).mono ?_
    rintro y w5 ⟨rfl, hb5⟩
    have B5 := B2.below hb5
    have h5 : GAt w5 b g1 := h2.of_block (hb5.block _ h2.lt)
    have bx5 := bx2.of_block (hb5.block _ bx2.lt)
    have k2 := bx5.cell 2
    simp only [List.getElem?_cons_zero, List.getElem?_cons_succ] at k2
    have kp : ∀ k, B k → k < w.heap.size → w5.heap[k]? = w.heap[k]? := fun k h1 h2 => B5.block k h2 (hB k h1)
    go_wp2_with fail
    refine (hx2 _ h5 (dr.keep kp) (de.keep kp)).mono ?_
    rintro y w3 ⟨rfl, h3, hb3⟩
    have B3 := B5.trans hb3
    have bx3 := bx5.of_block (hb3.block _ bx5.lt nq)
    have k3 := bx3.cell 3
    simp only [List.getElem?_cons_zero, List.getElem?_cons_succ] at k3
    have kp3 : ∀ k, B k → k < w.heap.size → w3.heap[k]? = w.heap[k]? := fun k h1 h2 => B3.block k h2 (hB k h1)
    go_wp2_with fail
    refine (hx3 _ h3 (dr2.keep kp3) (de2.keep kp3)).mono ?_
    rintro y w4 ⟨rfl, h4, hb4⟩
    go_wp2_with fail
    go_end0
    rw [HK.out]
    exact ⟨rfl, h4, B3.trans hb4⟩
end Go.Proofs.YtejbgcloblpbfaaGreatDoor
