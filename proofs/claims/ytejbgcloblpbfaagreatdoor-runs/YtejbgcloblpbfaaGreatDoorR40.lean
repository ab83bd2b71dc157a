import Derived.Test.YtejbgcloblpbfaaGreatDoorR30
import Derived.Test.YtejbgcloblpbfaaGreatDoorR33
import Derived.Deep.LoopGhost
import Derived.Test.YtejbgcloblpbfaaGreatDoorR23
namespace Go.Proofs.YtejbgcloblpbfaaGreatDoor
open Go.RowKit
open K (Nm Ex Do)
theorem Each.get {B : Nat → Prop} {w : World} : ∀ {l : List Do} {us : List Value}, Each B w l us → ∀ (k : Nat) (h : k < l.length), ∃ u, us[k]? = some u ∧ DoIs B w l[k] u
  | [], _, _, k, h => by simp at h
  | d :: l, us, e, k, h => by
    unfold Each at e
    obtain ⟨u, r, rfl, h1, h2⟩ := e
    cases k with
    | zero => exact ⟨u, rfl, h1⟩
    | succ k => exact Each.get h2 k (by simpa using h)
theorem DRow.at {B : Nat → Prop} {w : World} {v : Value} {us : List Value} (h : DRow B w v us) : (v = .slice none 0 0 ∧ us.length = 0) ∨ ∃ g cap, v = .slice (some ⟨g, 0, none⟩) us.length cap ∧ g < w.heap.size ∧ B g ∧ ∀ (k : Nat) (u : Value), us[k]? = some u → w.cell? ⟨g, k, none⟩ = some u := by
  obtain ⟨hl, h' | ⟨g, cap, cur, hv, _, hg, hc, _, hs, hx⟩⟩ := h.row
  · exact Or.inl h'
  · refine Or.inr ⟨g, cap, hv, blk_lt hg, h.lo g (by rw [hv]; rfl), fun k u hu => ?_⟩
    have hk : k < us.length := (List.getElem?_eq_some_iff.1 hu).1
    rw [← hx, List.getElem?_take_of_lt (by omega)] at hu
    simp [World.cell?, hg]
    simpa using hu
theorem gds_drop {hid : Bool} {l : List Do} {k : Nat} (h : k < l.length) (g : K.GS) : K.gds hid (l.drop k) g = K.gds hid (l.drop (k + 1)) (K.gd hid l[k] g) := by
  rw [List.drop_eq_getElem_cons h, K.gds]
set_option maxHeartbeats 1000000 in
theorem gds_of (l : List Do) (hl : ∀ d ∈ l, GdDoes d) : GdsDoes l := by
  intro B w b g lv us hid h dr de hB
  have HLEN := hide de.len
  have hmax := dr.row
  rcases dr.at with ⟨rfl, h0⟩ | ⟨gg, cap, rfl, hgl, hBg, hcell⟩
  · have e : l = [] := List.eq_nil_of_length_eq_zero (by have := HLEN.out; omega)
    subst e
    have HK : Hid (K.gds hid [] g = g) := by show _ = _; rw [K.gds]
    go_enter Tryz.func74, Tryz.ntmps74
    go_wp2_with fail
    go_loop [7, 10] (fun _ i => i = .int .i64 0) (fun _ _ => 0)
    case atStart => rfl
    case round =>
      subst hrel
      go_wp2_with fail
      go_end0
      rw [HK.out]
      exact ⟨rfl, h, But.refl _ _⟩
  · have hcap : us.length ≤ 9223372036854775807 := by
      obtain ⟨_, ⟨h0, _⟩ | ⟨g', cap', cur, hv, _, _, hc, hm, _⟩⟩ := hmax
      · simp at h0
      · unfold maxLen at hm; omega
    have HK0 : Hid (K.gds hid l g = K.gds hid (l.drop 0) g) := rfl
    clear hmax
    go_enter Tryz.func74, Tryz.ntmps74
    go_wp2_with fail
    go_loopg [7, 10] (us.length + 1) (fun gk _ i wr => ∃ (k : Nat) (g' : K.GS), k ≤ us.length ∧ gk + k = us.length + 1 ∧ i = .int .i64 (k : Int) ∧ GAt wr b g' ∧ But b w wr ∧ Hid (K.gds hid l g = K.gds hid (l.drop k) g'))
    case atStart => exact ⟨0, g, Nat.zero_le _, by omega, rfl, h, But.refl _ _, HK0⟩
    case round =>
      obtain ⟨k, g', hk, hgk, rfl, hr, Bk, HK⟩ := hrel
      by_cases hlt : k < us.length
      · have hll : k < l.length := by have := HLEN.out; omega
        obtain ⟨u, hu, hd⟩ := de.get k hll
        have c := (World.cell?_of_block (a := ⟨gg, k, none⟩) (Bk.block gg hgl (hB gg hBg))).trans (hcell k u hu)
        have hd' := hd.keep (w' := wr) fun j h1 h2 => Bk.block j h2 (hB j h1)
        have hgd := hl l[k] (List.getElem_mem hll) B wr b g' u hid hr hd' hB
        have HK' : Hid (K.gds hid l g = K.gds hid (l.drop (k + 1)) (K.gd hid l[k] g')) := HK.out.trans (gds_drop hll g')
        have uf := hd.form
        clear HK hd hd' HK0
        generalize K.gd hid l[k] g' = g2 at *
        rcases uf with ⟨ut, ux, rfl⟩ | rfl
        all_goals
          go_wp2_with fail
          refine hgd.mono ?_
          rintro x w2 ⟨rfl, h2, hb2⟩
          go_wp2_with fail
          go_roundg (gk - 1)
          case measure => omega
          case rel => exact ⟨k + 1, g2, by omega, by omega, by go_num, h2, Bk.trans hb2, HK'⟩
      · have HX : Hid (K.gds hid l g = g') := by
          show _ = _
          rw [HK.out, List.drop_eq_nil_of_le (by have := HLEN.out; omega), K.gds]
        clear HK HK0
        go_wp2_with fail
        go_end0
        rw [HX.out]
        exact ⟨rfl, hr, Bk⟩
mutual
theorem gd_c : ∀ d : Do, K.goodD d = true → GdDoes d
  | .set p n e, h => gd_set p n e (by rw [K.goodD] at h; exact h)
  | .put p n i e, h => by
    rw [K.goodD, Bool.and_eq_true] at h
    exact gd_put p n i e h.1 h.2
  | .ifs p q y n, h => by
    rw [K.goodD, Bool.and_eq_true, Bool.and_eq_true] at h
    exact gd_if p q y n h.1.1 (gds_of y (gdl_c y h.1.2)) (gds_of n (gdl_c n h.2))
  | .fors p n r l, h => by
    rw [K.goodD, Bool.and_eq_true] at h
    exact gd_for p n r l h.1 (gds_of l (gdl_c l h.2))
  | .none, h => by rw [K.goodD] at h; exact absurd h (by decide)
theorem gdl_c : ∀ l : List Do, K.goodL l = true → ∀ d ∈ l, GdDoes d
  | [], _ => fun d hd => by simp at hd
  | a :: l, h => fun d hd => by
    rw [K.goodL, Bool.and_eq_true] at h
    rcases List.mem_cons.1 hd with e | e
    · rw [e]; exact gd_c a h.1
    · exact gdl_c l h.2 d e
end
end Go.Proofs.YtejbgcloblpbfaaGreatDoor
namespace Go.Proofs.YtejbgcloblpbfaaGreatDoor
open Go.RowKit
open K (Nm Ex Do)
set_option maxRecDepth 100000 in
set_option maxHeartbeats 2000000 in
theorem rd_if (p : Int) (e : Ex) (l r : List Do) (he : EvDoes e) (hl : RdsDoes l) (hr : RdsDoes r) : RdDoes (.ifs p e l r) := by
  intro B w b g tb W u h hd hw hB
  unfold DoIs at hd
  obtain ⟨yv, nv, ys, ns, hu, dr, de, dr2, de2⟩ := hd
  subst hu
  unfold V.wfD at hw
  obtain ⟨we, wl, wr⟩ := hw
  have a1 := ad_If_Set
  have a2 := ad_If_Put
  have a3 := ad_If_If
  have HK : Hid (V.rd (.ifs p e l r) W = if V.ev W e = 0 then V.rds r W else V.rds l W) := by show _ = _; rw [V.rd]
  have hx := fun (w : World) (h' : RAt w b g tb W) => he w b g tb W h' we
  have hx2 := fun (w' : World) (h' : RAt w' b g tb W) (d1 : DRow B w' yv ys) (d2 : Each B w' l ys) => hl B w' b g tb W yv ys h' d1 d2 wl hB
  have hx3 := fun (w' : World) (h' : RAt w' b g tb W) (d1 : DRow B w' nv ns) (d2 : Each B w' r ns) => hr B w' b g tb W nv ns h' d1 d2 wr hB
  rw [exV_good (V.wf_good we)] at hx ⊢
  rw [HK.out]
  clear HK
  generalize V.rds r W = WR at *
  generalize V.rds l W = WL at *
  generalize V.ev W e = v at *
  generalize exT e = t at *
  generalize exP e = x at *
  obtain ⟨la, ln, lc, hlv⟩ := dr.form
  subst hlv
  obtain ⟨ra, rn, rc, hrv⟩ := dr2.form
  subst hrv
  have B0 : Below w.heap.size w (w.alloc (.cells #[.int .i64 p, .iface t x, .slice la ln lc, .slice ra rn rc] 184 (0, 0))) := (Below.refl _ _).alloc (Nat.le_refl _) _
  have bx := At.alloc_new w [.int .i64 p, .iface t x, .slice la ln lc, .slice ra rn rc] 184
  have h0 := h.below B0
  by_cases hv : v = 0
  · subst hv
    rw [if_pos rfl]
    go_enter Tryz.func90, Tryz.ntmps90
    go_wp2_with fail
    refine (hx _ h0).mono ?_
    rintro y w2 ⟨rfl, hb2⟩
    have B2 := B0.trans (hb2.mono B0.size)
    have bx2 := bx.of_block (hb2.block _ bx.lt)
    have k3 := bx2.cell 3
    simp only [List.getElem?_cons_zero, List.getElem?_cons_succ] at k3
    have kp : ∀ k, B k → k < w.heap.size → w2.heap[k]? = w.heap[k]? := fun k _ h2 => B2.block k h2
    go_wp2_with fail
    refine (hx3 _ (h0.below hb2) (dr2.keep kp) (de2.keep kp)).mono ?_
    rintro y w3 ⟨rfl, h3, hb3⟩
    go_wp2_with fail
    go_end0
    exact ⟨rfl, h3, (below_but B2).trans hb3⟩
  · rw [if_neg hv]
    go_enter Tryz.func90, Tryz.ntmps90
    go_wp2_with fail
    refine (hx _ h0).mono ?_
    rintro y w2 ⟨rfl, hb2⟩
    have B2 := B0.trans (hb2.mono B0.size)
    have bx2 := bx.of_block (hb2.block _ bx.lt)
    have k2 := bx2.cell 2
    simp only [List.getElem?_cons_zero, List.getElem?_cons_succ] at k2
    have kp : ∀ k, B k → k < w.heap.size → w2.heap[k]? = w.heap[k]? := fun k _ h2 => B2.block k h2
    go_wp2_with fail
    refine (hx2 _ (h0.below hb2) (dr.keep kp) (de.keep kp)).mono ?_
    rintro y w3 ⟨rfl, h3, hb3⟩
    go_wp2_with fail
    go_end0
    exact ⟨rfl, h3, (below_but B2).trans hb3⟩
theorem V.rds_drop {l : List Do} {k : Nat} (h : k < l.length) (W : List Int) : V.rds (l.drop k) W = V.rds (l.drop (k + 1)) (V.rd l[k] W) := by
  rw [List.drop_eq_getElem_cons h, V.rds]
theorem V.wfL_get {N : Nat} : ∀ {l : List Do}, V.wfL N l → ∀ (k : Nat) (h : k < l.length), V.wfD N l[k]
  | d :: l, hw, 0, _ => by unfold V.wfL at hw; exact hw.1
  | d :: l, hw, k + 1, h => by unfold V.wfL at hw; exact V.wfL_get hw.2 k (by simpa using h)
set_option maxHeartbeats 1000000 in
theorem rds_of (l : List Do) (hl : ∀ d ∈ l, RdDoes d) : RdsDoes l := by
  intro B w b g tb W lv us h dr de hw hB
  have HLEN := hide de.len
  have hmax := dr.row
  rcases dr.at with ⟨rfl, h0⟩ | ⟨gg, cap, rfl, hgl, hBg, hcell⟩
  · have e : l = [] := List.eq_nil_of_length_eq_zero (by have := HLEN.out; omega)
    subst e
    have HK : Hid (V.rds [] W = W) := by show _ = _; rw [V.rds]
    go_enter Tryz.func64, Tryz.ntmps64
    go_wp2_with fail
    go_loop [5, 8] (fun _ i => i = .int .i64 0) (fun _ _ => 0)
    case atStart => rfl
    case round =>
      subst hrel
      go_wp2_with fail
      go_end0
      rw [HK.out]
      exact ⟨rfl, h, But.refl _ _⟩
  · have hcap : us.length ≤ 9223372036854775807 := by
      obtain ⟨_, ⟨h0, _⟩ | ⟨g', cap', cur, hv, _, _, hc, hm, _⟩⟩ := hmax
      · simp at h0
      · unfold maxLen at hm; omega
    have HK0 : Hid (V.rds l W = V.rds (l.drop 0) W) := rfl
    have HW := hide hw
    clear hmax hw
    go_enter Tryz.func64, Tryz.ntmps64
    go_wp2_with fail
    go_loopg [5, 8] (us.length + 1) (fun gk _ i wr => ∃ (k : Nat) (W' : List Int), k ≤ us.length ∧ gk + k = us.length + 1 ∧ i = .int .i64 (k : Int) ∧ RAt wr b g tb W' ∧ But g w wr ∧ W'.length = W.length ∧ Hid (V.rds l W = V.rds (l.drop k) W'))
    case atStart => exact ⟨0, W, Nat.zero_le _, by omega, rfl, h, But.refl _ _, rfl, HK0⟩
    case round =>
      obtain ⟨k, W', hk, hgk, rfl, hr, Bk, hlen, HK⟩ := hrel
      by_cases hlt : k < us.length
      · have hll : k < l.length := by have := HLEN.out; omega
        obtain ⟨u, hu, hd⟩ := de.get k hll
        have c := (World.cell?_of_block (a := ⟨gg, k, none⟩) (Bk.block gg hgl (hB gg hBg))).trans (hcell k u hu)
        have hd' := hd.keep (w' := wr) fun j h1 h2 => Bk.block j h2 (hB j h1)
        have hgd := hl l[k] (List.getElem_mem hll) B wr b g tb W' u hr hd' (by rw [hlen]; exact V.wfL_get HW.out k hll) hB
        have HK' : Hid (V.rds l W = V.rds (l.drop (k + 1)) (V.rd l[k] W')) := HK.out.trans (V.rds_drop hll W')
        have hlen' : (V.rd l[k] W').length = W.length := by rw [V.rd_len]; exact hlen
        have uf := hd.form
        clear HK hd hd' HK0
        generalize V.rd l[k] W' = W2 at *
        rcases uf with ⟨ut, ux, rfl⟩ | rfl
        all_goals
          go_wp2_with fail
          refine hgd.mono ?_
          rintro x w2 ⟨rfl, h2, hb2⟩
          go_wp2_with fail
          go_roundg (gk - 1)
          case measure => omega
          case rel => exact ⟨k + 1, W2, by omega, by omega, by go_num, h2, Bk.trans hb2, hlen', HK'⟩
      · have HX : Hid (V.rds l W = W') := by
          show _ = _
          rw [HK.out, List.drop_eq_nil_of_le (by have := HLEN.out; omega), V.rds]
        clear HK HK0
        go_wp2_with fail
        go_end0
        rw [HX.out]
        exact ⟨rfl, hr, Bk⟩
end Go.Proofs.YtejbgcloblpbfaaGreatDoor
namespace Go.Proofs.YtejbgcloblpbfaaGreatDoor
open Go.RowKit
open K (Nm Ex Do)
theorem V.rounds_step (f : List Int → List Int) (k i m : Nat) (W : List Int) (h : i < m) : V.rounds f k i (m - i) W = V.rounds f k (i + 1) (m - (i + 1)) (f (W.set k (i : Int))) := by
  rw [show m - i = (m - (i + 1)) + 1 by omega, V.rounds]
set_option maxRecDepth 100000 in
set_option maxHeartbeats 2000000 in
theorem rloop_c (p : Int) (n : Nm) (e : Ex) (l : List Do) (he : EvDoes e) (hl : RdsDoes l) (B : Nat → Prop) (w : World) (b g : Nat) (tb : Array Value) (W : List Int) (lv : Value) (ls : List Value) (h : RAt w b g tb W) (dr : DRow B w lv ls) (de : Each B w l ls)
    (h0 : 0 ≤ n.place) (h1 : n.place < W.length) (we : V.wfE W.length e) (wl : V.wfL W.length l) (hB : ∀ k, B k → k ≠ g) :
    Calls Tryz.prog 114 #[PT b, .agg #[.int .i64 p, .string n.text, .int .i64 n.kind, .bool n.sec, .int .i64 n.size, .int .i64 n.place, exV e, lv]] w fun x w' => x = .returned (.tuple #[]) ∧ RAt w' b g tb (V.rounds (fun W => V.rds l W) n.place.toNat 0 (V.times (V.ev W e)) W) ∧ But g w w' := by
  have hx := fun (w : World) (h' : RAt w b g tb W) => he w b g tb W h' we
  have hx2 := fun (w' : World) (W' : List Int) (h' : RAt w' b g tb W') (hW : W'.length = W.length) (d1 : DRow B w' lv ls) (d2 : Each B w' l ls) => hl B w' b g tb W' lv ls h' d1 d2 (by rw [hW]; exact wl) hB
  obtain ⟨k, hk⟩ := Int.eq_ofNat_of_zero_le h0
  have hkl : k < W.length := by omega
  have hz : (k : Int) < (W.length : Int) := by omega
  have ek : n.place.toNat = k := by omega
  rw [ek]
  obtain ⟨F, hF⟩ : ∃ F, F = (fun W => V.rds l W) := ⟨_, rfl⟩
  rw [← hF]
  have HF : Hid (∀ W, F W = V.rds l W) := fun W => by rw [hF]
  clear hF
  rw [exV_good (V.wf_good we)] at hx ⊢
  generalize V.ev W e = v at *
  generalize exT e = t at *
  generalize exP e = x at *
  obtain ⟨x0, x1, x2, x3, x4⟩ := n
  dsimp only at *
  subst hk
  obtain ⟨la, ln, lc, hlv⟩ := dr.form
  subst hlv
  have few := h.few
  have hne := h.ne
  have B0 : Below w.heap.size w (w.alloc (.cells #[.int .i64 p, .string x0, .int .i64 x1, .bool x2, .int .i64 x3, .int .i64 (k : Int), .iface t x, .slice la ln lc] 186 (0, 0))) := (Below.refl _ _).alloc (Nat.le_refl _) _
  have bx := At.alloc_new w [.int .i64 p, .string x0, .int .i64 x1, .bool x2, .int .i64 x3, .int .i64 (k : Int), .iface t x, .slice la ln lc] 186
  have r0 := h.below B0
  have lb := h.cells.lt
  obtain ⟨T, hT⟩ : ∃ T, V.times v = T := ⟨_, rfl⟩
  have HR : Hid (∀ j : Nat, (j : Int) < min v 5 ↔ j < T) := by
    subst hT
    intro j
    unfold V.times
    rw [Int.min_def]
    repeat' split
    all_goals omega
  have hT5 : T ≤ 5 := by
    subst hT
    unfold V.times
    repeat' split
    all_goals omega
  rw [hT]
  clear hT
  go_enter Tryz.func114, Tryz.ntmps114
  go_wp2_with fail
  refine (hx _ r0).mono ?_
  rintro y w2 ⟨rfl, hb2⟩
  have B2 := B0.trans (hb2.mono B0.size)
  have bx2 := bx.of_block (hb2.block _ bx.lt)
  have r2 := r0.below hb2
  go_wp2_with fail
  generalize min v 5 = R at *
  have lg : w.heap.size ≠ g := by have := h.words.lt; omega
  go_loopg [5] T (fun gk i wr => ∃ (j : Nat) (W' : List Int), j + gk = T ∧ i = .int .i64 (j : Int) ∧ RAt wr b g tb W' ∧ But g w2 wr ∧ W'.length = W.length ∧ Hid (V.rounds F k 0 T W = V.rounds F k j (T - j) W'))
  case atStart => exact ⟨0, W, by omega, rfl, r2, But.refl _ _, rfl, rfl⟩
  case round =>
    obtain ⟨j, W', hj, rfl, rr, Bk, hlen, HK⟩ := hrel
    have bx3 := bx2.of_block (Bk.block _ bx2.lt lg)
    cases gk with
    | zero =>
      have hy : ¬ ((j : Int) < R) := fun c => by have := (HR.out j).1 c; omega
      have HX : Hid (V.rounds F k 0 T W = W') := by show _ = _; rw [HK.out, show T - j = 0 by omega]; rfl
      go_wp2_with fail
      go_end0
      rw [HX.out]
      exact ⟨rfl, rr, (below_but B2).trans Bk⟩
    | succ g1 =>
      have hy : (j : Int) < R := (HR.out j).2 (by omega)
      have q5 := bx3.cell 5
      have q7 := bx3.cell 7
      simp only [List.getElem?_cons_zero, List.getElem?_cons_succ] at q5 q7
      have c0 := rr.cells.cell 0
      simp only [List.getElem?_cons_zero] at c0
      have cw := rr.word (show k < W'.length by omega)
      have fw := rr.words.frozen k
      have hz' : (k : Int) < (W'.length : Int) := by omega
      have lb' := rr.cells.lt
      have rd : RAt wr.drew b g tb W' := rr.keep rfl rfl
      have rs := rd.set hne k (j : Int)
      have Bs := (Bk.drew).set k (.int .i64 (j : Int))
      have bx4 : At (wr.drew.setCell ⟨g, k, none⟩ (.int .i64 (j : Int))) w.heap.size 186 [.int .i64 p, .string x0, .int .i64 x1, .bool x2, .int .i64 x3, .int .i64 (k : Int), .iface t x, .slice la ln lc] := (bx3.of_block rfl).set_other (a := ⟨g, k, none⟩) lg _
      have q7' := bx4.cell 7
      simp only [List.getElem?_cons_zero, List.getElem?_cons_succ] at q7'
      have kp : ∀ i, B i → i < w.heap.size → (wr.drew.setCell ⟨g, k, none⟩ (.int .i64 (j : Int))).heap[i]? = w.heap[i]? := fun i h1 h2 => ((below_but B2).trans Bs).block i h2 (hB i h1)
      have hcall := hx2 _ _ rs (by rw [List.length_set]; exact hlen) (dr.keep kp) (de.keep kp)
      go_upto_region 5 with fail
      go_region
      all_goals
        go_wp2_with fail
        refine hcall.mono ?_
        rintro y w4 ⟨rfl, r4, hb4⟩
        rw [← HF.out] at r4
        go_wp2_with fail
        go_roundg g1
        case measure => omega
        case rel =>
          refine ⟨j + 1, F (W'.set k (j : Int)), by omega, by go_num, r4, Bs.trans hb4, ?_, HK.out.trans (V.rounds_step F k j T W' (by omega))⟩
          rw [HF.out, V.rds_len, List.length_set]
          exact hlen
set_option maxRecDepth 100000 in
set_option maxHeartbeats 2000000 in
theorem rd_for (p : Int) (n : Nm) (e : Ex) (l : List Do) (he : EvDoes e) (hl : RdsDoes l) : RdDoes (.fors p n e l) := by
  intro B w b g tb W u h hd hw hB
  unfold DoIs at hd
  obtain ⟨lv, ls, hu, dr, de⟩ := hd
  subst hu
  unfold V.wfD at hw
  obtain ⟨h0, h1, we, wl⟩ := hw
  have a1 := ad_For_Set
  have a2 := ad_For_Put
  have a3 := ad_For_If
  have a4 := ad_For_For
  have HK : Hid (V.rd (.fors p n e l) W = V.rounds (fun W => V.rds l W) n.place.toNat 0 (V.times (V.ev W e)) W) := by show _ = _; rw [V.rd]
  have hc := fun (w' : World) (h' : RAt w' b g tb W) (d1 : DRow B w' lv ls) (d2 : Each B w' l ls) => rloop_c p n e l he hl B w' b g tb W lv ls h' d1 d2 h0 h1 we wl hB
  rw [HK.out]
  clear HK
  rw [exV_good (V.wf_good we)] at hc ⊢
  generalize V.rounds (fun W => V.rds l W) n.place.toNat 0 (V.times (V.ev W e)) W = WF at *
  generalize exT e = t at *
  generalize exP e = x at *
  obtain ⟨x0, x1, x2, x3, x4⟩ := n
  obtain ⟨la, ln, lc, hlv⟩ := dr.form
  subst hlv
  dsimp only at *
  have B0 : Below w.heap.size w (w.alloc (.cells #[.int .i64 p, .string x0, .int .i64 x1, .bool x2, .int .i64 x3, .int .i64 x4, .iface t x, .slice la ln lc] 186 (0, 0))) := (Below.refl _ _).alloc (Nat.le_refl _) _
  have r0 := h.below B0
  have kp : ∀ k, B k → k < w.heap.size → (w.alloc (.cells #[.int .i64 p, .string x0, .int .i64 x1, .bool x2, .int .i64 x3, .int .i64 x4, .iface t x, .slice la ln lc] 186 (0, 0))).heap[k]? = w.heap[k]? := fun k _ h2 => B0.block k h2
  have hcall := hc _ r0 (dr.keep kp) (de.keep kp)
  go_enter Tryz.func90, Tryz.ntmps90
  go_wp2_with fail
  refine hcall.mono ?_
  rintro y w4 ⟨rfl, r4, hb4⟩
  go_wp2_with fail
  go_end0
  exact ⟨rfl, r4, (below_but B0).trans hb4⟩
end Go.Proofs.YtejbgcloblpbfaaGreatDoor
namespace Go.Proofs.YtejbgcloblpbfaaGreatDoor
open Go.RowKit
open R (Nd)
open K (Nm Ex Do)
set_option maxRecDepth 100000 in
set_option maxHeartbeats 4000000 in
theorem va_get (N : Nat) (nodes : List Nd) (p : Int) (m : Nm) (e : Ex) (he : VaDoes N nodes e) : VaDoes N nodes (.get p m e) := by
  intro w lim b sb gM gC k M C hP hS hM hC h54 hlim hn
  unfold NE at hn
  obtain ⟨n, x, hn, hw, hL, hpo, hsi, p0, p1, p6, pN, hne⟩ := hn
  obtain ⟨g, la, lc, ta, tc, cap, nc, hg, hl, _⟩ := hP.nc hn
  obtain ⟨q, rfl, hq, hqc⟩ := hl 0 x (by rw [hL]; rfl)
  have hkl : k < nodes.length := (List.getElem?_eq_some_iff.1 hn).1
  have hkz : (k : Int) < (nodes.length : Int) := by omega
  have few := hP.few
  have hbl := hP.lt
  have HV : Hid (V.ev (M ++ C) (.get p m e) = (M ++ C).getD (m.place + V.md (V.ev (M ++ C) e) m.size).toNat 0) := rfl
  rw [HV.out]
  clear HV
  have hmd := V.md_lt (V.ev (M ++ C) e) p1 p6
  obtain ⟨wd, n1, ⟨t0, t1, t2, t3, t4⟩, nL, n2, n5⟩ := n
  obtain ⟨c7, d0, d1, d2, d3, d4, d5, d6, d7, d8, d9⟩ := nc
  obtain ⟨aM, cM, hs, haM⟩ := hS.cells
  dsimp only at *
  obtain ⟨m0, m1, m2, m3, m4⟩ := m
  dsimp only at *
  subst hw hL hpo hsi
  have B0 : Below w.heap.size w (w.alloc (.cells #[.string ⟨#[103, 101, 116]⟩, .int .i64 n1, .string t0, .int .i64 t1, .bool t2, .int .i64 t3, .int .i64 t4, .slice (some ⟨q, 0, none⟩) 1 lc, .slice ta n2.length tc, .bool n5] 145 (0, 0))) := (Below.refl _ _).alloc (Nat.le_refl _) _
  have bx := At.alloc_new w [.string ⟨#[103, 101, 116]⟩, .int .i64 n1, .string t0, .int .i64 t1, .bool t2, .int .i64 t3, .int .i64 t4, .slice (some ⟨q, 0, none⟩) 1 lc, .slice ta n2.length tc, .bool n5] 145
  have S0 := hS.below B0
  have hcall := he _ lim b sb gM gC x M C (hP.keep (B0.mono hlim)) S0 hM hC h54 (Nat.le_trans hlim B0.size) hne
  have qc := (B0.cell (p := ⟨q, 0, none⟩) (show q < w.heap.size by omega)).trans hqc
  generalize V.ev (M ++ C) e = v at *
  have hpl := fun (w : World) => place_c ⟨t0, t1, t2, t3, t4⟩ v w p0 p1 p6 (show t3 ≤ 1000 by omega)
  dsimp only at hpl
  obtain ⟨j, hj⟩ := Int.eq_ofNat_of_zero_le (show 0 ≤ t3 + V.md v t4 by omega)
  have hjN : j < N := by omega
  have ew : (M ++ C).getD (t3 + V.md v t4).toNat 0 = M.getD j 0 := by
    rw [hj, Int.toNat_natCast, List.getD_eq_getElem?_getD, List.getElem?_append_left (by omega), ← List.getD_eq_getElem?_getD]
  rw [ew]
  rw [hj] at hpl
  have hz : (j : Int) < (M.length : Int) := by omega
  have sa := haM (by omega)
  subst sa
  have ss := hs.of_block (B0.block _ hs.lt)
  have hw0 : ∀ w', Below (w.alloc (.cells #[.string ⟨#[103, 101, 116]⟩, .int .i64 n1, .string t0, .int .i64 t1, .bool t2, .int .i64 t3, .int .i64 t4, .slice (some ⟨q, 0, none⟩) 1 lc, .slice ta n2.length tc, .bool n5] 145 (0, 0))).heap.size (w.alloc (.cells #[.string ⟨#[103, 101, 116]⟩, .int .i64 n1, .string t0, .int .i64 t1, .bool t2, .int .i64 t3, .int .i64 t4, .slice (some ⟨q, 0, none⟩) 1 lc, .slice ta n2.length tc, .bool n5] 145 (0, 0))) w' → w'.cell? ⟨gM, j, none⟩ = some (.int .i64 (M.getD j 0)) := fun w' hb => (S0.below hb).word (by omega)
  clear ew hj hmd p0 p1 p6 pN hne
  generalize M.getD j 0 = val at *
  generalize M.length = ML at *
  generalize C.length = CL at *
  generalize n2.length = tn at *
  generalize nodes.length = NL at *
  go_enter Tryz.func91, Tryz.ntmps91
  go_wp2_with fail
  refine hcall.mono ?_
  rintro y w1 ⟨rfl, hb1⟩
  have BW := B0.trans (hb1.mono B0.size)
  go_upto_region 11 with fail
  have bx1 := bx.of_block (hb1.block _ bx.lt)
  have ss1 := ss.of_block (hb1.block _ ss.lt)
  have hl1 := bx1.lt
  have hs1 := ss1.lt
  generalize hLL : w.heap.size = L at *
  have KS : ∀ w' : World, Below w1.heap.size w1 w' → (w'.cell? ⟨L, 2, none⟩ = some (.string t0) ∧ w'.cell? ⟨L, 3, none⟩ = some (.int .i64 t1) ∧ w'.cell? ⟨L, 4, none⟩ = some (.bool t2) ∧ w'.cell? ⟨L, 5, none⟩ = some (.int .i64 t3) ∧ w'.cell? ⟨L, 6, none⟩ = some (.int .i64 t4) ∧ w'.cell? ⟨sb, 0, none⟩ = some (.slice (some ⟨gM, 0, none⟩) ML cM) ∧ w'.cell? ⟨gM, j, none⟩ = some (.int .i64 val)) := fun w' hb =>
    ⟨(hb.cell (p := ⟨L, 2, none⟩) hl1).trans (bx1.cell 2), (hb.cell (p := ⟨L, 3, none⟩) hl1).trans (bx1.cell 3), (hb.cell (p := ⟨L, 4, none⟩) hl1).trans (bx1.cell 4), (hb.cell (p := ⟨L, 5, none⟩) hl1).trans (bx1.cell 5), (hb.cell (p := ⟨L, 6, none⟩) hl1).trans (bx1.cell 6), (hb.cell (p := ⟨sb, 0, none⟩) hs1).trans (ss1.cell 0), hw0 _ (hb1.trans (hb.mono hb1.size))⟩
  have Bd : Below w1.heap.size w1 w1.drew := ⟨rfl, rfl, rfl, Nat.le_refl _, fun _ _ => rfl⟩
  go_region_held (fun (w' : World) => w'.cell? ⟨L, 2, none⟩ = some (.string t0) ∧ w'.cell? ⟨L, 3, none⟩ = some (.int .i64 t1) ∧ w'.cell? ⟨L, 4, none⟩ = some (.bool t2) ∧ w'.cell? ⟨L, 5, none⟩ = some (.int .i64 t3) ∧ w'.cell? ⟨L, 6, none⟩ = some (.int .i64 t4) ∧ w'.cell? ⟨sb, 0, none⟩ = some (.slice (some ⟨gM, 0, none⟩) ML cM) ∧ w'.cell? ⟨gM, j, none⟩ = some (.int .i64 val)) (first | exact KS _ B2 | exact KS _ Bd) (first | (go_at_call 92; refine (hpl _).mono ?_; rintro z w2 ⟨rfl, hb2⟩; have B2 := Bd.trans (hb2.mono Bd.size)))
  all_goals
    go_wp2_with fail
    go_ret
    first | exact ⟨rfl, BW.trans (B2.mono (Nat.le_of_lt hl1))⟩ | exact ⟨rfl, by rw [hLL]; exact BW.trans (B2.mono (Nat.le_of_lt hl1))⟩
end Go.Proofs.YtejbgcloblpbfaaGreatDoor
