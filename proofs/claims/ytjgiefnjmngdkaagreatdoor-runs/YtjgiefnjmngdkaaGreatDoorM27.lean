import Derived.Test.YtjgiefnjmngdkaaGreatDoorM25
import Derived.Test.YtjgiefnjmngdkaaGreatDoorM26
import Derived.Test.YtjgiefnjmngdkaaGreatDoorM24
import Derived.Deep.LoopGhost
import Derived.Test.YtjgiefnjmngdkaaGreatDoorM23
import Derived.Test.YtjgiefnjmngdkaaGreatDoorM21
import Derived.Test.YtjgiefnjmngdkaaGreatDoorM19
namespace Go.Proofs.YtjgiefnjmngdkaaGreatDoor
open K (Nm Ex Do)
theorem gd_put (p : Int) (n : Nm) (i e : Ex) (hgi : K.good i = true) (hg : K.good e = true) : GdDoes (.put p n i e) := by
  cases hq : K.sec i with
  | true => exact gd_putT p n i e hgi hg hq
  | false => exact gd_putF p n i e hgi hg hq
end Go.Proofs.YtjgiefnjmngdkaaGreatDoor
namespace Go.Proofs.YtjgiefnjmngdkaaGreatDoor
open Go.RowKit
open K (Nm Ex Do)

set_option maxRecDepth 100000 in
set_option maxHeartbeats 2000000 in
theorem gd_for (p : Int) (n : Nm) (e : Ex) (l : List Do) (hg : K.good e = true) (hl : GdsDoes l) : GdDoes (.fors p n e l) := by
  intro B w b g u hid h hd hB
  unfold DoIs at hd
  obtain ⟨lv, ls, hu, dr, de⟩ := hd
  subst hu
  have a1 := ad_For_Set
  have a2 := ad_For_Put
  have a3 := ad_For_If
  have a4 := ad_For_For
  have hlt := h.lt
  have hm := sec_method e hg
  have hna := sec_ahead e hg
  have hen := sec_enter e hg
  have hs := sec_c e hg
  unfold SecDoes at hs
  have HK : Hid (K.gd hid (.fors p n e l) g = K.gds hid l (K.gx e (K.note p (K.sec e) g))) := by show _ = _; rw [K.gd]
  have hn := fun (w : World) (h' : GAt w b g) => note_c h' p (K.sec e)
  have hx := fun (w : World) (h' : GAt w b (K.note p (K.sec e) g)) => gx_c e hg w b _ h'
  have hx2 := fun (w' : World) (h' : GAt w' b (K.gx e (K.note p (K.sec e) g))) (d1 : DRow B w' lv ls) (d2 : Each B w' l ls) => hl B w' b _ lv ls hid h' d1 d2 hB
  rw [exV_good hg] at hx ⊢
  generalize K.gd hid (.fors p n e l) g = G at *
  generalize K.gds hid l (K.gx e (K.note p (K.sec e) g)) = G3 at *
  generalize K.gx e (K.note p (K.sec e) g) = G2 at *
  generalize K.note p (K.sec e) g = g1 at *
  generalize K.sec e = q at *
  generalize exT e = t at *
  generalize exP e = x at *
  generalize exM e = m at *
  obtain ⟨x0, x1, x2, x3, x4⟩ := n
  obtain ⟨la, ln, lc, hlv⟩ := dr.form
  subst hlv
  dsimp only at *
  have h0 := h.alloc (.cells #[.int .i64 p, .string x0, .int .i64 x1, .bool x2, .int .i64 x3, .int .i64 x4, .iface t x, .slice la ln lc] 186 (0, 0))
  have bx := At.alloc_new w [.int .i64 p, .string x0, .int .i64 x1, .bool x2, .int .i64 x3, .int .i64 x4, .iface t x, .slice la ln lc] 186
  have B0 : But b w (w.alloc (.cells #[.int .i64 p, .string x0, .int .i64 x1, .bool x2, .int .i64 x3, .int .i64 x4, .iface t x, .slice la ln lc] 186 (0, 0))) := (But.refl b w).alloc _
  have nq : w.heap.size ≠ b := by omega
  go_enter Tryz.func108, Tryz.ntmps108
  go_upto_region 18 with fail
  go_region_with (first | (go_at_call 142; refine (hn _ h1).mono ?_; rintro y w2 ⟨rfl, h2, hb2⟩; have bx2 := bx1.of_block (hb2.block _ bx1.lt nq); have k6 := bx2.cell 6; simp only [List.getElem?_cons_zero, List.getElem?_cons_succ] at k6) | (refine (hs _).mono ?_; rintro y w1 ⟨rfl, hb1⟩; have h1 : GAt w1 b g := h0.of_block (hb1.block _ h0.lt); have bx1 : At w1 w.heap.size 186 [.int .i64 p, .string x0, .int .i64 x1, .bool x2, .int .i64 x3, .int .i64 x4, .iface t x, .slice la ln lc] := bx.of_block (hb1.block _ bx.lt); have k0 := bx1.cell 0; simp only [List.getElem?_cons_zero] at k0))
  all_goals
    have B2 := (B0.drew.below hb1).trans hb2
    go_wp2_with fail
    refine (hx _ h2).mono ?_
    rintro y w3 ⟨rfl, h3, hb3⟩
    have B3 := B2.trans hb3
    have bx3 := bx2.of_block (hb3.block _ bx2.lt nq)
    have k7 := bx3.cell 7
    simp only [List.getElem?_cons_zero, List.getElem?_cons_succ] at k7
    have kp : ∀ k, B k → k < w.heap.size → w3.heap[k]? = w.heap[k]? := fun k h1 h2 => B3.block k h2 (hB k h1)
    go_wp2_with fail
    refine (hx2 _ h3 (dr.keep kp) (de.keep kp)).mono ?_
    rintro y w4 ⟨rfl, h4, hb4⟩
    go_wp2_with fail
    go_end0
    rw [HK.out]
    exact ⟨rfl, h4, B3.trans hb4⟩

set_option maxRecDepth 100000 in
set_option maxHeartbeats 2000000 in
theorem gd_if (p : Int) (e : Ex) (l r : List Do) (hg : K.good e = true) (hl : GdsDoes l) (hr : GdsDoes r) : GdDoes (.ifs p e l r) := by
  intro B w b g u hid h hd hB
  unfold DoIs at hd
  obtain ⟨yv, nv, ys, ns, hu, dr, de, dr2, de2⟩ := hd
  subst hu
  have a1 := ad_If_Set
  have a2 := ad_If_Put
  have a3 := ad_If_If
  have hlt := h.lt
  have hm := sec_method e hg
  have hna := sec_ahead e hg
  have hen := sec_enter e hg
  have hs := sec_c e hg
  unfold SecDoes at hs
  have HK : Hid (K.gd hid (.ifs p e l r) g = K.gds (hid || K.sec e) r (K.gds (hid || K.sec e) l (K.gx e g))) := by show _ = _; rw [K.gd]
  have hx := fun (w : World) (h' : GAt w b g) => gx_c e hg w b _ h'
  have hx2 := fun (w' : World) (h' : GAt w' b (K.gx e g)) (d1 : DRow B w' yv ys) (d2 : Each B w' l ys) => hl B w' b _ yv ys (hid || K.sec e) h' d1 d2 hB
  have hx3 := fun (w' : World) (h' : GAt w' b (K.gds (hid || K.sec e) l (K.gx e g))) (d1 : DRow B w' nv ns) (d2 : Each B w' r ns) => hr B w' b _ nv ns (hid || K.sec e) h' d1 d2 hB
  rw [exV_good hg] at hx ⊢
  generalize K.gd hid (.ifs p e l r) g = G at *
  generalize K.gds (hid || K.sec e) r (K.gds (hid || K.sec e) l (K.gx e g)) = G3 at *
  generalize K.gds (hid || K.sec e) l (K.gx e g) = G2 at *
  generalize K.gx e g = g1 at *
  generalize K.sec e = q at *
  generalize exT e = t at *
  generalize exP e = x at *
  generalize exM e = m at *
  obtain ⟨la, ln, lc, hlv⟩ := dr.form
  subst hlv
  obtain ⟨ra, rn, rc, hrv⟩ := dr2.form
  subst hrv
  have h0 := h.alloc (.cells #[.int .i64 p, .iface t x, .slice la ln lc, .slice ra rn rc] 184 (0, 0))
  have bx := At.alloc_new w [.int .i64 p, .iface t x, .slice la ln lc, .slice ra rn rc] 184
  have B0 : But b w (w.alloc (.cells #[.int .i64 p, .iface t x, .slice la ln lc, .slice ra rn rc] 184 (0, 0))) := (But.refl b w).alloc _
  have nq : w.heap.size ≠ b := by omega
  cases hid with
  | true =>
    rw [Bool.true_or] at hx2 hx3
    go_enter Tryz.func108, Tryz.ntmps108
    go_wp2_with fail
    refine (hx _ h0).mono ?_
    rintro y w2 ⟨rfl, h2, hb2⟩
    have B2 := B0.trans hb2
    have bx2 := bx.of_block (hb2.block _ bx.lt nq)
    have k2 := bx2.cell 2
    simp only [List.getElem?_cons_zero, List.getElem?_cons_succ] at k2
    have kp : ∀ k, B k → k < w.heap.size → w2.heap[k]? = w.heap[k]? := fun k h1 h2 => B2.block k h2 (hB k h1)
    go_wp2_with fail
    refine (hx2 _ h2 (dr.keep kp) (de.keep kp)).mono ?_
    rintro y w3 ⟨rfl, h3, hb3⟩
    have B3 := B2.trans hb3
    have bx3 := bx2.of_block (hb3.block _ bx2.lt nq)
    have k3 := bx3.cell 3
    simp only [List.getElem?_cons_zero, List.getElem?_cons_succ] at k3
    have kp3 : ∀ k, B k → k < w.heap.size → w3.heap[k]? = w.heap[k]? := fun k h1 h2 => B3.block k h2 (hB k h1)
    go_wp2_with fail
    refine (hx3 _ h3 (dr2.keep kp3) (de2.keep kp3)).mono ?_
    rintro y w4 ⟨rfl, h4, hb4⟩
    go_wp2_with fail
    go_end0
    rw [HK.out]
    exact ⟨rfl, h4, B3.trans hb4⟩
  | false =>
    rw [Bool.false_or] at hx2 hx3
    go_enter Tryz.func108, Tryz.ntmps108
    go_wp2_with fail
    refine (hx _ h0).mono ?_
    rintro y w2 ⟨rfl, h2, hb2⟩
    have B2 := B0.trans hb2
    have bx2 := bx.of_block (hb2.block _ bx.lt nq)
    have k1 := bx2.cell 1
    simp only [List.getElem?_cons_zero, List.getElem?_cons_succ] at k1
    go_wp2_with fail
    refine (hs _).mono ?_
    rintro y w5 ⟨rfl, hb5⟩
    have B5 := B2.below hb5
    have h5 : GAt w5 b g1 := h2.of_block (hb5.block _ h2.lt)
    have bx5 := bx2.of_block (hb5.block _ bx2.lt)
    have k2 := bx5.cell 2
    simp only [List.getElem?_cons_zero, List.getElem?_cons_succ] at k2
    have kp : ∀ k, B k → k < w.heap.size → w5.heap[k]? = w.heap[k]? := fun k h1 h2 => B5.block k h2 (hB k h1)
    go_wp2_with fail
    refine (hx2 _ h5 (dr.keep kp) (de.keep kp)).mono ?_
    rintro y w3 ⟨rfl, h3, hb3⟩
    have B3 := B5.trans hb3
    have bx3 := bx5.of_block (hb3.block _ bx5.lt nq)
    have k3 := bx3.cell 3
    simp only [List.getElem?_cons_zero, List.getElem?_cons_succ] at k3
    have kp3 : ∀ k, B k → k < w.heap.size → w3.heap[k]? = w.heap[k]? := fun k h1 h2 => B3.block k h2 (hB k h1)
    go_wp2_with fail
    refine (hx3 _ h3 (dr2.keep kp3) (de2.keep kp3)).mono ?_
    rintro y w4 ⟨rfl, h4, hb4⟩
    go_wp2_with fail
    go_end0
    rw [HK.out]
    exact ⟨rfl, h4, B3.trans hb4⟩
end Go.Proofs.YtjgiefnjmngdkaaGreatDoor
namespace Go.Proofs.YtjgiefnjmngdkaaGreatDoor
open Go.RowKit
open K (Nm Ex Do)

theorem Each.get {B : Nat → Prop} {w : World} : ∀ {l : List Do} {us : List Value}, Each B w l us → ∀ (k : Nat) (h : k < l.length), ∃ u, us[k]? = some u ∧ DoIs B w l[k] u
  | [], _, _, k, h => by simp at h
  | d :: l, us, e, k, h => by
    unfold Each at e
    obtain ⟨u, r, rfl, h1, h2⟩ := e
    cases k with
    | zero => exact ⟨u, rfl, h1⟩
    | succ k => exact Each.get h2 k (by simpa using h)
theorem DRow.at {B : Nat → Prop} {w : World} {v : Value} {us : List Value} (h : DRow B w v us) : (v = .slice none 0 0 ∧ us.length = 0) ∨ ∃ g cap, v = .slice (some ⟨g, 0, none⟩) us.length cap ∧ g < w.heap.size ∧ B g ∧ ∀ (k : Nat) (u : Value), us[k]? = some u → w.cell? ⟨g, k, none⟩ = some u := by
  obtain ⟨hl, h' | ⟨g, cap, cur, hv, _, hg, hc, _, hs, hx⟩⟩ := h.row
  · exact Or.inl h'
  · refine Or.inr ⟨g, cap, hv, blk_lt hg, h.lo g (by rw [hv]; rfl), fun k u hu => ?_⟩
    have hk : k < us.length := (List.getElem?_eq_some_iff.1 hu).1
    rw [← hx, List.getElem?_take_of_lt (by omega)] at hu
    simp [World.cell?, hg]
    simpa using hu
theorem gds_drop {hid : Bool} {l : List Do} {k : Nat} (h : k < l.length) (g : K.GS) : K.gds hid (l.drop k) g = K.gds hid (l.drop (k + 1)) (K.gd hid l[k] g) := by
  rw [List.drop_eq_getElem_cons h, K.gds]

set_option maxHeartbeats 1000000 in
theorem gds_of (l : List Do) (hl : ∀ d ∈ l, GdDoes d) : GdsDoes l := by
  intro B w b g lv us hid h dr de hB
  have HLEN := hide de.len
  have hmax := dr.row
  rcases dr.at with ⟨rfl, h0⟩ | ⟨gg, cap, rfl, hgl, hBg, hcell⟩
  · have e : l = [] := List.eq_nil_of_length_eq_zero (by have := HLEN.out; omega)
    subst e
    have HK : Hid (K.gds hid [] g = g) := by show _ = _; rw [K.gds]
    go_enter Tryz.func74, Tryz.ntmps74
    go_wp2_with fail
    go_loop [7, 10] (fun _ i => i = .int .i64 0) (fun _ _ => 0)
    case atStart => rfl
    case round =>
      subst hrel
      go_wp2_with fail
      go_end0
      rw [HK.out]
      exact ⟨rfl, h, But.refl _ _⟩
  · have hcap : us.length ≤ 9223372036854775807 := by
      obtain ⟨_, ⟨h0, _⟩ | ⟨g', cap', cur, hv, _, _, hc, hm, _⟩⟩ := hmax
      · simp at h0
      · unfold maxLen at hm; omega
    have HK0 : Hid (K.gds hid l g = K.gds hid (l.drop 0) g) := rfl
    clear hmax
    go_enter Tryz.func74, Tryz.ntmps74
    go_wp2_with fail
    go_loopg [7, 10] (us.length + 1) (fun gk _ i wr => ∃ (k : Nat) (g' : K.GS), k ≤ us.length ∧ gk + k = us.length + 1 ∧ i = .int .i64 (k : Int) ∧ GAt wr b g' ∧ But b w wr ∧ Hid (K.gds hid l g = K.gds hid (l.drop k) g'))
    case atStart => exact ⟨0, g, Nat.zero_le _, by omega, rfl, h, But.refl _ _, HK0⟩
    case round =>
      obtain ⟨k, g', hk, hgk, rfl, hr, Bk, HK⟩ := hrel
      by_cases hlt : k < us.length
      · have hll : k < l.length := by have := HLEN.out; omega
        obtain ⟨u, hu, hd⟩ := de.get k hll
        have c := (World.cell?_of_block (a := ⟨gg, k, none⟩) (Bk.block gg hgl (hB gg hBg))).trans (hcell k u hu)
        have hd' := hd.keep (w' := wr) fun j h1 h2 => Bk.block j h2 (hB j h1)
        have hgd := hl l[k] (List.getElem_mem hll) B wr b g' u hid hr hd' hB
        have HK' : Hid (K.gds hid l g = K.gds hid (l.drop (k + 1)) (K.gd hid l[k] g')) := HK.out.trans (gds_drop hll g')
        have uf := hd.form
        clear HK hd hd' HK0
        generalize K.gd hid l[k] g' = g2 at *
        rcases uf with ⟨ut, ux, rfl⟩ | rfl
        all_goals
          go_wp2_with fail
          refine hgd.mono ?_
          rintro x w2 ⟨rfl, h2, hb2⟩
          go_wp2_with fail
          go_roundg (gk - 1)
          case measure => omega
          case rel => exact ⟨k + 1, g2, by omega, by omega, by go_num, h2, Bk.trans hb2, HK'⟩
      · have HX : Hid (K.gds hid l g = g') := by
          show _ = _
          rw [HK.out, List.drop_eq_nil_of_le (by have := HLEN.out; omega), K.gds]
        clear HK HK0
        go_wp2_with fail
        go_end0
        rw [HX.out]
        exact ⟨rfl, hr, Bk⟩
mutual
/-- What guard finds in a Do without holes. -/
theorem gd_c : ∀ d : Do, K.goodD d = true → GdDoes d
  | .set p n e, h => gd_set p n e (by rw [K.goodD] at h; exact h)
  | .put p n i e, h => by
    rw [K.goodD, Bool.and_eq_true] at h
    exact gd_put p n i e h.1 h.2
  | .ifs p q y n, h => by
    rw [K.goodD, Bool.and_eq_true, Bool.and_eq_true] at h
    exact gd_if p q y n h.1.1 (gds_of y (gdl_c y h.1.2)) (gds_of n (gdl_c n h.2))
  | .fors p n r l, h => by
    rw [K.goodD, Bool.and_eq_true] at h
    exact gd_for p n r l h.1 (gds_of l (gdl_c l h.2))
  | .none, h => by rw [K.goodD] at h; exact absurd h (by decide)
theorem gdl_c : ∀ l : List Do, K.goodL l = true → ∀ d ∈ l, GdDoes d
  | [], _ => fun d hd => by simp at hd
  | a :: l, h => fun d hd => by
    rw [K.goodL, Bool.and_eq_true] at h
    rcases List.mem_cons.1 hd with e | e
    · rw [e]; exact gd_c a h.1
    · exact gdl_c l h.2 d e
end
end Go.Proofs.YtjgiefnjmngdkaaGreatDoor
namespace Go.Proofs.YtjgiefnjmngdkaaGreatDoor
open Go.RowKit
open R (Tok tk)
open K (Nm S Scans Ex Do)

def zeroP : Value := .agg #[.slice none 0 0, .int .i64 0, .slice none 0 0]

set_option maxHeartbeats 400000 in
theorem parse_long (s : ByteArray) (w : World) (hs : 800 < s.size) (hm : s.size ≤ maxLen) :
    Calls Tryz.prog 56 #[.string s] w fun x w' => x = .returned (.tuple #[zeroP, .int .i64 1, .int .i64 0]) ∧ Below w.heap.size w w' := by
  unfold maxLen at hm
  have hs' : (800 : Int) < (s.size : Int) := by omega
  go_enter Tryz.func56, Tryz.ntmps56
  go_wp2_with fail
  exact bodyPost_ret (v := .tuple #[zeroP, .int .i64 1, .int .i64 0]) (by simp [results, Tryz.results56, go_sem, zeroP]) rfl ⟨rfl, (Below.refl _ _).alloc (Nat.le_refl _) _⟩

/-- What the code's reading of a text gives: an error and its place, or a tree. -/
def Parsed (T : List Tok) (w w' : World) (x : Ending) : Prop :=
  (¬ (K.progS T).err = 0 ∧ x = .returned (.tuple #[zeroP, .int .i64 (K.progS T).err, .int .i64 (K.progS T).eat])) ∨
  ((K.progS T).err = 0 ∧ ∃ nv dv us, x = .returned (.tuple #[.agg #[nv, .int .i64 (K.progS T).words, dv], .int .i64 0, .int .i64 0]) ∧ w'.ownsRow 0 96 5 nv (K.progS T).names.length ((K.progS T).names.flatMap nmCells) ∧ DRow (From w.heap.size) w' dv us ∧ Each (From w.heap.size) w' (K.progD T) us)

set_option maxHeartbeats 2000000 in
theorem parse_c (s : ByteArray) (w : World) (hs : s.size ≤ 800) (hv : K.Vars w) (hw : 5 ≤ w.heap.size) :
    Calls Tryz.prog 56 #[.string s] w fun x w' => Parsed (R.toks s) w w' x ∧ Below w.heap.size w w' := by
  have hS := K.scans_toks hs
  have hl := R.toks_len s
  have hs' : ¬ (800 : Int) < (s.size : Int) := by omega
  generalize R.toks s = T at *
  have hsc : ∀ w, Calls Tryz.prog 72 #[.string s, .int .i64 0] w fun x w' => x = .returned (.agg #[.string (tk T 0).s, .int .i64 (tk T 0).p]) ∧ w' = w.alloc (.cells #[.string (tk T 0).s, .int .i64 (tk T 0).p] 136) := fun w => by
    have := scan_c s 0 w (Nat.zero_le _) (by omega)
    rw [hS.first] at this
    exact this
  obtain ⟨t0, HT0⟩ : ∃ t0, Hid (tk T 0 = t0) := ⟨_, rfl⟩
  rw [HT0.out] at hsc
  obtain ⟨ts, tp⟩ := t0
  dsimp only at hsc
  go_enter Tryz.func56, Tryz.ntmps56
  go_wp2_with (go_at_call 72; refine (hsc _).mono ?_; rintro x w1 ⟨rfl, rfl⟩)
  have e2 : ((w.alloc (.cells #[.slice none 0 0, .int .i64 0, .slice none 0 0] 84 (0, 0))).alloc (.cells #[.string ts, .int .i64 tp] 136 (0, 0))).heap.size = w.heap.size + 1 + 1 := by simp
  have aR : At (((w.alloc (.cells #[.slice none 0 0, .int .i64 0, .slice none 0 0] 84 (0, 0))).alloc (.cells #[.string ts, .int .i64 tp] 136 (0, 0))).alloc (.cells #[.string s, .string ts, .int .i64 tp, .slice none 0 0, .int .i64 0, .int .i64 0, .int .i64 0, .int .i64 0, .int .i64 0] 139 (0, 0))) (w.heap.size + 1 + 1) 139 [.string s, .string ts, .int .i64 tp, .slice none 0 0, .int .i64 0, .int .i64 0, .int .i64 0, .int .i64 0, .int .i64 0] := by
    have := At.alloc_new ((w.alloc (.cells #[.slice none 0 0, .int .i64 0, .slice none 0 0] 84 (0, 0))).alloc (.cells #[.string ts, .int .i64 tp] 136 (0, 0))) [.string s, .string ts, .int .i64 tp, .slice none 0 0, .int .i64 0, .int .i64 0, .int .i64 0, .int .i64 0, .int .i64 0] 139
    rw [e2] at this
    exact this
  have aA : At (((w.alloc (.cells #[.slice none 0 0, .int .i64 0, .slice none 0 0] 84 (0, 0))).alloc (.cells #[.string ts, .int .i64 tp] 136 (0, 0))).alloc (.cells #[.string s, .string ts, .int .i64 tp, .slice none 0 0, .int .i64 0, .int .i64 0, .int .i64 0, .int .i64 0, .int .i64 0] 139 (0, 0))) w.heap.size 84 [.slice none 0 0, .int .i64 0, .slice none 0 0] := ((At.alloc_new w _ _).alloc _).alloc _
  have BW : Below w.heap.size w (((w.alloc (.cells #[.slice none 0 0, .int .i64 0, .slice none 0 0] 84 (0, 0))).alloc (.cells #[.string ts, .int .i64 tp] 136 (0, 0))).alloc (.cells #[.string s, .string ts, .int .i64 tp, .slice none 0 0, .int .i64 0, .int .i64 0, .int .i64 0, .int .i64 0, .int .i64 0] 139 (0, 0))) := (((Below.refl _ _).alloc (Nat.le_refl _) _).alloc (by simp) _).alloc (by simp; omega) _
  generalize ((w.alloc (.cells #[.slice none 0 0, .int .i64 0, .slice none 0 0] 84 (0, 0))).alloc (.cells #[.string ts, .int .i64 tp] 136 (0, 0))).alloc (.cells #[.string s, .string ts, .int .i64 tp, .slice none 0 0, .int .i64 0, .int .i64 0, .int .i64 0, .int .i64 0, .int .i64 0] 139 (0, 0)) = W at *
  have hC : CR W (w.heap.size + 1 + 1) s T K.start (.slice none 0 0) := by
    refine ⟨?_, World.ownsRow_nil W 0 _ 5, hl.2⟩
    show At W _ _ (rcs s (tk T 0) K.start (.slice none 0 0))
    rw [HT0.out]
    exact aR
  have hVW : K.Vars W := by
    obtain ⟨⟨e0, a1, a2⟩, ⟨e1, c1, c2⟩⟩ := hv
    exact ⟨⟨e0, (BW.cell (p := ⟨3, 0, none⟩) (by show 3 < w.heap.size; omega)).trans a1, a2⟩, ⟨e1, (BW.cell (p := ⟨4, 0, none⟩) (by show 4 < w.heap.size; omega)).trans c1, c2⟩⟩
  have hp := program_k hS (by omega) hC hVW (by omega)
  have sW := aR.lt
  obtain ⟨σF, HSF⟩ : ∃ σF, Hid (K.progS T = σF) := ⟨_, rfl⟩
  rw [HSF.out] at hp
  refine hp.mono ?_
  rintro x w2 ⟨nv, dv, us, rfl, hr2, dr, de, hb2⟩
  obtain ⟨na, nc, hnv⟩ := hr2.len
  have HNR := hide hr2.names
  obtain ⟨da, dn, dc, hdv⟩ := dr.form
  subst hdv
  have aA2 := aA.of_block (hb2.block _ aA.lt (by omega))
  have B2 : Below w.heap.size w w2 := BW.trans ⟨hb2.os, hb2.tape, hb2.output, hb2.size, fun k hk => hb2.block k (by have := BW.size; omega) (by omega)⟩
  have lA := aA2.lt
  have c7 := hr2.c 7 _ rfl
  have c8 := hr2.c 8 _ rfl
  have q0 := aA2.cell 0
  have q1 := aA2.cell 1
  have q2 := aA2.cell 2
  simp only [List.getElem?_cons_zero, List.getElem?_cons_succ] at q0 q1 q2
  have f0 := aA2.frozen 0
  have f1 := aA2.frozen 1
  have f2 := aA2.frozen 2
  have lb := hr2.cells.lt
  have HNV := hide hnv
  rw [hnv]
  clear hp hC hVW aR aA hnv hsc
  by_cases he : σF.err = 0
  · have he' : (σF.err != 0) = false := by rw [he]; rfl
    have dr3 := dr.lower (From.le (by have := BW.size; omega : w.heap.size ≤ W.heap.size))
    have de3 := de.lower (From.le (by have := BW.size; omega : w.heap.size ≤ W.heap.size))
    have RZ := ((aA2.set 0 (.slice na σF.names.length nc)).set 1 (.int .i64 σF.words)).set 2 (.slice da dn dc)
    have sne : ∀ j, j ≠ w.heap.size → (((w2.setCell ⟨w.heap.size, 0, none⟩ (.slice na σF.names.length nc)).setCell ⟨w.heap.size, 1, none⟩ (.int .i64 σF.words)).setCell ⟨w.heap.size, 2, none⟩ (.slice da dn dc)).heap[j]? = w2.heap[j]? := fun j hj => by
      rw [Below.heap_setCell _ _ _ _ hj, Below.heap_setCell _ _ _ _ hj, Below.heap_setCell _ _ _ _ hj]
    have BZ : Below w.heap.size w (((w2.setCell ⟨w.heap.size, 0, none⟩ (.slice na σF.names.length nc)).setCell ⟨w.heap.size, 1, none⟩ (.int .i64 σF.words)).setCell ⟨w.heap.size, 2, none⟩ (.slice da dn dc)) := ((B2.setCell (Nat.le_refl _) _).setCell (Nat.le_refl _) _).setCell (Nat.le_refl _) _
    have nr : (((w2.setCell ⟨w.heap.size, 0, none⟩ (.slice na σF.names.length nc)).setCell ⟨w.heap.size, 1, none⟩ (.int .i64 σF.words)).setCell ⟨w.heap.size, 2, none⟩ (.slice da dn dc)).ownsRow 0 96 5 nv σF.names.length (σF.names.flatMap nmCells) := row_of HNR.out fun k e => sne k (fun e' => by
      obtain ⟨cur, hc⟩ := own_block HNR.out e
      have := aA2
      unfold At at this
      rw [← e', hc] at this
      simp at this)
    have kp : ∀ j, From W.heap.size j → j < w2.heap.size → (((w2.setCell ⟨w.heap.size, 0, none⟩ (.slice na σF.names.length nc)).setCell ⟨w.heap.size, 1, none⟩ (.int .i64 σF.words)).setCell ⟨w.heap.size, 2, none⟩ (.slice da dn dc)).heap[j]? = w2.heap[j]? := fun j h1 _ => sne j (by have : W.heap.size ≤ j := h1; omega)
    have dr4 := (dr.keep kp).lower (From.le (by have := BW.size; omega : w.heap.size ≤ W.heap.size))
    have de4 := (de.keep kp).lower (From.le (by have := BW.size; omega : w.heap.size ≤ W.heap.size))
    clear dr3 de3 kp sne
    go_wp2_with fail
    generalize ((w2.setCell ⟨w.heap.size, 0, none⟩ (.slice na σF.names.length nc)).setCell ⟨w.heap.size, 1, none⟩ (.int .i64 σF.words)).setCell ⟨w.heap.size, 2, none⟩ (.slice da dn dc) = WZ at *
    have z0 : WZ.cell? ⟨w.heap.size, 0, none⟩ = some (.slice na σF.names.length nc) := RZ.cell 0
    have z1 : WZ.cell? ⟨w.heap.size, 1, none⟩ = some (.int .i64 σF.words) := RZ.cell 1
    have z2 : WZ.cell? ⟨w.heap.size, 2, none⟩ = some (.slice da dn dc) := RZ.cell 2
    have zl := RZ.lt
    refine bodyPost_ret (v := .tuple #[.agg #[.slice na σF.names.length nc, .int .i64 σF.words, .slice da dn dc], .int .i64 0, .int .i64 0]) (by simp [results, Tryz.results56, go_sem, z0, z1, z2, zl]) rfl ⟨Or.inr ?_, BZ.alloc (by omega) _⟩
    rw [HSF.out]
    refine ⟨he, nv, .slice da dn dc, us, by rw [HNV.out], ?_, ?_, ?_⟩
    · exact row_of nr fun k e => heap_alloc_old _ _ _ (by obtain ⟨cur, hc⟩ := own_block nr e; exact blk_lt hc)
    · exact dr4.keep fun k _ h => heap_alloc_old _ _ _ h
    · exact de4.keep fun k _ h => heap_alloc_old _ _ _ h
  · have he' : (σF.err != 0) = true := by simpa using he
    go_upto_region 6 with fail
    go_region
    all_goals
      have RZ := ((aA2.set 0 (.slice none 0 0)).set 1 (.int .i64 0)).set 2 (.slice none 0 0)
      have BZ : Below w.heap.size w (((w2.setCell ⟨w.heap.size, 0, none⟩ (.slice none 0 0)).setCell ⟨w.heap.size, 1, none⟩ (.int .i64 0)).setCell ⟨w.heap.size, 2, none⟩ (.slice none 0 0)) := ((B2.setCell (Nat.le_refl _) _).setCell (Nat.le_refl _) _).setCell (Nat.le_refl _) _
      go_wp2_with fail
      generalize ((w2.setCell ⟨w.heap.size, 0, none⟩ (.slice none 0 0)).setCell ⟨w.heap.size, 1, none⟩ (.int .i64 0)).setCell ⟨w.heap.size, 2, none⟩ (.slice none 0 0) = WZ at *
      have z0 : WZ.cell? ⟨w.heap.size, 0, none⟩ = some (.slice none 0 0) := RZ.cell 0
      have z1 : WZ.cell? ⟨w.heap.size, 1, none⟩ = some (.int .i64 0) := RZ.cell 1
      have z2 : WZ.cell? ⟨w.heap.size, 2, none⟩ = some (.slice none 0 0) := RZ.cell 2
      have zl := RZ.lt
      refine bodyPost_ret (v := .tuple #[zeroP, .int .i64 σF.err, .int .i64 σF.eat]) (by simp [results, Tryz.results56, go_sem, zeroP, z0, z1, z2, zl]) rfl ⟨Or.inl ?_, (BZ.alloc (by omega) _).drew⟩
      rw [HSF.out]
      exact ⟨he, rfl⟩
end Go.Proofs.YtjgiefnjmngdkaaGreatDoor
namespace Go.Proofs.YtjgiefnjmngdkaaGreatDoor
open R (Tok tk)
namespace K

/-- An error stays. -/
def St (σ σ' : S) : Prop := σ'.err = 0 → σ.err = 0
theorem St.rfl' (σ : S) : St σ σ := id
theorem St.trans {a b c : S} (h : St a b) (k : St b c) : St a c := fun e => h (k e)
theorem step_st (T : List Tok) (σ : S) : St σ (step T σ) := id
theorem fail_ne {T : List Tok} {e p : Int} {σ : S} (he : e ≠ 0) : (fail T e p σ).err ≠ 0 := by
  unfold fail; split
  · exact he
  · assumption
theorem fail_st (T : List Tok) {e : Int} (he : e ≠ 0) (p : Int) (σ : S) : St σ (fail T e p σ) := fun h => absurd h (fail_ne he)
theorem here_ne {T : List Tok} {e : Int} {σ : S} (he : e ≠ 0) : (here T e σ).err ≠ 0 := fail_ne he
theorem take_st (T : List Tok) (f : ByteArray → Bool) (σ : S) : St σ (take T f σ) := by
  unfold take; split
  · exact step_st T σ
  · exact fail_st T (by decide) _ _
theorem known_st (T : List Tok) (fits : Nm → Bool) (σ : S) : St σ (known T fits σ) := by
  unfold known; split
  · exact take_st T _ σ
  · exact (take_st T _ σ).trans (fail_st T (by decide) _ _)
theorem newName_st (T : List Tok) (σ : S) : St σ (newName T σ) := by
  unfold newName; split
  · exact (take_st T _ σ).trans (fail_st T (by decide) _ _)
  · exact take_st T _ σ
theorem deeper_st (d : Int) (σ : S) : St σ (deeper d σ) := id
theorem opened_st (T : List Tok) (σ : S) : St σ (opened T σ) := by
  unfold opened op2
  split
  · exact ((take_st T _ σ).trans (fail_st T (by decide) _ _)).trans (deeper_st _ _)
  · exact (take_st T _ σ).trans (deeper_st _ _)
theorem closed_st (T : List Tok) (σ : S) : St σ (closed T σ) := (take_st T _ σ).trans (deeper_st _ _)
theorem comp_st {T : List Tok} {ex : S → S × Ex} (h : ∀ σ, St σ (ex σ).1) (p : Int) (σ : S) : St σ (comp T ex p σ).1 := by
  unfold comp
  split
  · exact ((step_st T σ).trans (known_st T _ _)).trans (h _)
  · split
    · exact (((step_st T σ).trans (h _)).trans (h _)).trans (h _)
    · split
      · exact ((take_st T _ σ).trans (h _)).trans (h _)
      · exact fail_st T (by decide) _ _
theorem expr_st (T : List Tok) (f : Nat) : ∀ σ, St σ (expr T f σ).1 := by
  induction f with
  | zero => intro σ; exact St.rfl' σ
  | succ f ih =>
    intro σ
    rw [expr]
    unfold exB
    split
    · exact ((opened_st T σ).trans (comp_st ih _ _)).trans (closed_st T _)
    · split
      · exact take_st T _ σ
      · exact known_st T _ σ
theorem last_no {s : ByteArray} {T : List Tok} (hS : Scans s T) {i : Nat} (h : i = T.length - 1) (l : List UInt8) (hl : l ≠ []) : ((tk T i).s.toList == l) = false := by
  rw [h, hS.last]
  show ((ByteArray.toList ⟨#[]⟩) == l) = false
  rw [emptyL]
  exact beq_no (fun e => hl e.symm)
theorem comp_good {s : ByteArray} {T : List Tok} (hS : Scans s T) {f : Nat} (ih : ∀ σ, 0 ≤ σ.depth → σ.depth ≤ 10 → 11 - σ.depth ≤ (f : Int) → (expr T f σ).1.err = 0 → good (expr T f σ).2 = true) (p : Int) {σ : S} (d0 : 0 ≤ σ.depth) (hd : σ.depth ≤ 10 ∧ 11 - σ.depth ≤ (f : Int) ∨ σ.i = T.length - 1) (he : (comp T (expr T f) p σ).1.err = 0) : good (comp T (expr T f) p σ).2 = true := by
  have step : ∀ σ', Keeps σ σ' → (σ.depth ≤ 10 ∧ 11 - σ.depth ≤ (f : Int)) → (expr T f σ').1.err = 0 → good (expr T f σ').2 = true := fun σ' k h e => ih σ' (by rw [k.depth]; exact d0) (by rw [k.depth]; exact h.1) (by rw [k.depth]; exact h.2) e
  unfold comp at he ⊢
  split
  · rename_i e1
    rw [if_pos e1] at he
    rcases hd with hd | hd
    · exact step _ ((step_keeps T σ).trans (known_keeps T _ _)) hd he
    · rw [last_no hS hd kGet (by decide)] at e1; exact absurd e1 (by decide)
  · rename_i e1
    rw [if_neg e1] at he
    split
    · rename_i e2
      rw [if_pos e2] at he
      rcases hd with hd | hd
      · have k1 := step_keeps T σ
        have k2 := k1.trans (expr_keeps T f (K.step T σ))
        have k3 := k2.trans (expr_keeps T f (expr T f (K.step T σ)).1)
        have he3 : (expr T f (expr T f (expr T f (K.step T σ)).1).1).1.err = 0 := he
        have he2 := expr_st T f _ he3
        have he1 := expr_st T f _ he2
        show good (.cho p _ _ _) = true
        rw [good, step _ k1 hd he1, step _ k2 hd he2, step _ k3 hd he3]
        rfl
      · rw [last_no hS hd kChoose (by decide)] at e2; exact absurd e2 (by decide)
    · rename_i e2
      rw [if_neg e2] at he
      split
      · rename_i e3
        rw [if_pos e3] at he
        rcases hd with hd | hd
        · have k1 := take_keeps T isOpS σ
          have k2 := k1.trans (expr_keeps T f (take T isOpS σ))
          have he2 : (expr T f (expr T f (take T isOpS σ)).1).1.err = 0 := he
          have he1 := expr_st T f _ he2
          show good (.op p _ _ _) = true
          rw [good, step _ k1 hd he1, step _ k2 hd he2]
          rfl
        · exfalso
          unfold isOpS at e3
          rw [hd, hS.last] at e3
          dsimp only at e3
          rw [emptyL] at e3
          exact absurd e3 (by decide)
      · rename_i e3
        rw [if_neg e3] at he
        exact absurd he (here_ne (by decide))
theorem expr_good {s : ByteArray} {T : List Tok} (hS : Scans s T) (f : Nat) : ∀ σ, 0 ≤ σ.depth → σ.depth ≤ 10 → 11 - σ.depth ≤ (f : Int) → (expr T f σ).1.err = 0 → good (expr T f σ).2 = true := by
  induction f with
  | zero => intro σ d0 d1 df; omega
  | succ f ih =>
    intro σ d0 d1 df he
    rw [expr] at he ⊢
    unfold exB at he ⊢
    split
    · rename_i e1
      rw [if_pos e1] at he
      refine comp_good hS ih _ ?_ ?_ (closed_st T _ he)
      · rw [opened_depth]; omega
      · by_cases e : σ.depth = 10
        · exact Or.inr (opened_deep e)
        · exact Or.inl (by rw [opened_depth]; omega)
    · split
      · rfl
      · rfl
end K
end Go.Proofs.YtjgiefnjmngdkaaGreatDoor
namespace Go.Proofs.YtjgiefnjmngdkaaGreatDoor
open R (Tok tk)
namespace K

theorem brk_st {T : List Tok} {dos : S → S × List Do} (h : ∀ σ, St σ (dos σ).1) (σ : S) : St σ (brk T dos σ).1 := ((opened_st T σ).trans (h _)).trans (closed_st T _)
theorem body_st {dos : S → S × List Do} (h : ∀ σ, St σ (dos σ).1) (n : Nm) (σ : S) : St σ (body dos n σ).1 := fun e => h (seeing n σ) e
theorem loop0_st (T : List Tok) (σ : S) : St σ (loop0 T σ) := by
  unfold loop0; split
  · exact fail_st T (by decide) _ _
  · exact St.rfl' σ
theorem doX_st {T : List Tok} {dos : S → S × List Do} (h : ∀ σ, St σ (dos σ).1) (p : Int) (σ : S) : St σ (doX T dos p σ).1 := by
  unfold doX
  split
  · exact ((step_st T σ).trans (known_st T _ _)).trans (expr_st T _ _)
  · split
    · exact (((step_st T σ).trans (known_st T _ _)).trans (expr_st T _ _)).trans (expr_st T _ _)
    · split
      · exact (((step_st T σ).trans (expr_st T _ _)).trans (brk_st h _)).trans (brk_st h _)
      · split
        · exact ((((loop0_st T σ).trans (step_st T _)).trans (newName_st T _)).trans (expr_st T _ _)).trans (body_st h _ _)
        · exact fail_st T (by decide) _ _
theorem brkDo_st {T : List Tok} {d : Int → S → S × Do} (h : ∀ p σ, St σ (d p σ).1) (σ : S) : St σ (brkDo T d σ).1 := ((opened_st T σ).trans (h _ _)).trans (closed_st T _)
theorem dosL_st {T : List Tok} {d : Int → S → S × Do} (h : ∀ p σ, St σ (d p σ).1) (m : Nat) : ∀ (σ : S) (l : List Do), St σ (dosL T d m σ l).1 := by
  induction m with
  | zero => intro σ l; exact St.rfl' σ
  | succ m ih =>
    intro σ l
    rw [dosL]
    split
    · exact (brkDo_st h σ).trans (ih _ _)
    · exact St.rfl' σ
theorem doF_st (T : List Tok) (f : Nat) : ∀ p σ, St σ (doF T f p σ).1 := by
  induction f with
  | zero => intro p σ; exact St.rfl' σ
  | succ f ih => intro p σ; exact doX_st (fun σ => dosL_st ih T.length σ []) p σ
theorem dos_st (T : List Tok) (f : Nat) (σ : S) : St σ (dos T f σ).1 := dosL_st (doF_st T f) _ _ _

/-- Deep enough, or at the end. -/
def Lv (T : List Tok) (f : Nat) (σ : S) : Prop := 0 ≤ σ.depth ∧ ((σ.depth ≤ 10 ∧ 11 - σ.depth ≤ (f : Int)) ∨ σ.i = T.length - 1)
def LvD (T : List Tok) (f : Nat) (σ : S) : Prop := 0 ≤ σ.depth ∧ ((σ.depth ≤ 10 ∧ 12 - σ.depth ≤ (f : Int)) ∨ σ.i = T.length - 1)
theorem lv_opened {T : List Tok} {f : Nat} {σ : S} (d0 : 0 ≤ σ.depth) (d1 : σ.depth ≤ 10) (df : 10 - σ.depth ≤ (f : Int)) : Lv T f (opened T σ) := by
  have e := opened_depth T σ
  refine ⟨by omega, ?_⟩
  by_cases h : σ.depth = 10
  · exact Or.inr (opened_deep h)
  · exact Or.inl ⟨by omega, by omega⟩
theorem lvD_opened {T : List Tok} {f : Nat} {σ : S} (d0 : 0 ≤ σ.depth) (d1 : σ.depth ≤ 10) (df : 11 - σ.depth ≤ (f : Int)) : LvD T f (opened T σ) := by
  have e := opened_depth T σ
  refine ⟨by omega, ?_⟩
  by_cases h : σ.depth = 10
  · exact Or.inr (opened_deep h)
  · exact Or.inl ⟨by omega, by omega⟩
theorem goodL_snoc : ∀ (l : List Do) (d : Do), goodL (l ++ [d]) = (goodL l && goodD d)
  | [], d => by simp [goodL]
  | a :: l, d => by
    show goodL (a :: (l ++ [d])) = _
    rw [goodL, goodL, goodL_snoc l d, Bool.and_assoc]

theorem doX_good {s : ByteArray} {T : List Tok} (hS : Scans s T) {f : Nat} (hd : ∀ σ, Lv T f σ → (dos T f σ).1.err = 0 → goodL (dos T f σ).2 = true) (p : Int) {σ : S} (hl : LvD T (f + 1) σ) (he : (doX T (dos T f) p σ).1.err = 0) : goodD (doX T (dos T f) p σ).2 = true := by
  obtain ⟨d0, hl⟩ := hl
  have ex : ∀ σ', Keeps σ σ' → σ.depth ≤ 10 → (expr T 11 σ').1.err = 0 → good (expr T 11 σ').2 = true := fun σ' k h e => expr_good hS 11 σ' (by rw [k.depth]; exact d0) (by rw [k.depth]; exact h) (by rw [k.depth]; omega) e
  have dead : ∀ l, l ≠ [] → isW l (tk T σ.i) = true → σ.depth ≤ 10 ∧ 12 - σ.depth ≤ ((f + 1 : Nat) : Int) := fun l hne hw => by
    rcases hl with hl | hl
    · exact hl
    · unfold isW at hw
      rw [last_no hS hl l hne] at hw
      exact absurd hw (by decide)
  have br : ∀ σ', Keeps σ σ' → σ.depth ≤ 10 ∧ 12 - σ.depth ≤ ((f + 1 : Nat) : Int) → (brk T (dos T f) σ').1.err = 0 → goodL (brk T (dos T f) σ').2 = true := fun σ' k h e =>
    hd _ (lv_opened (by rw [k.depth]; exact d0) (by rw [k.depth]; exact h.1) (by rw [k.depth]; omega)) (closed_st T _ e)
  unfold doX at he ⊢
  split
  · rename_i e1
    rw [if_pos e1] at he
    have dd := dead _ (by decide) e1
    show goodD (.set p _ _) = true
    rw [goodD]
    exact ex _ ((step_keeps T σ).trans (known_keeps T _ _)) dd.1 he
  · rename_i e1
    rw [if_neg e1] at he
    split
    · rename_i e2
      rw [if_pos e2] at he
      have dd := dead _ (by decide) e2
      have k1 := (step_keeps T σ).trans (known_keeps T hasWords (step T σ))
      have k2 := k1.trans (expr_keeps T 11 (known T hasWords (step T σ)))
      have he2 : (expr T 11 (expr T 11 (known T hasWords (step T σ))).1).1.err = 0 := he
      have he1 := expr_st T 11 _ he2
      show goodD (.put p _ _ _) = true
      rw [goodD, ex _ k1 dd.1 he1, ex _ k2 dd.1 he2]
      rfl
    · rename_i e2
      rw [if_neg e2] at he
      split
      · rename_i e3
        rw [if_pos e3] at he
        have dd := dead _ (by decide) e3
        have k1 := step_keeps T σ
        have k2 := k1.trans (expr_keeps T 11 (step T σ))
        have k3 := k2.trans (brk_keeps (T := T) (fun σ => dos_keeps T f σ) (expr T 11 (step T σ)).1)
        have he3 : (brk T (dos T f) (brk T (dos T f) (expr T 11 (step T σ)).1).1).1.err = 0 := he
        have he2 := brk_st (T := T) (fun σ => dos_st T f σ) _ he3
        have he1 := brk_st (T := T) (fun σ => dos_st T f σ) _ he2
        show goodD (.ifs p _ _ _) = true
        rw [goodD, ex _ k1 dd.1 he1, br _ k2 dd he2, br _ k3 dd he3]
        rfl
      · rename_i e3
        rw [if_neg e3] at he
        split
        · rename_i e4
          rw [if_pos e4] at he
          have dd := dead _ (by decide) e4
          have k1 := ((loop0_keeps T σ).trans (step_keeps T (loop0 T σ))).trans (newName_keeps T (step T (loop0 T σ)))
          have k2 := k1.trans (expr_keeps T 11 (newName T (step T (loop0 T σ))))
          have he2 : (dos T f (seeing (counter T σ) (expr T 11 (newName T (step T (loop0 T σ)))).1)).1.err = 0 := he
          have he1 : (expr T 11 (newName T (step T (loop0 T σ)))).1.err = 0 := dos_st T f (seeing (counter T σ) (expr T 11 (newName T (step T (loop0 T σ)))).1) he2
          have g1 := ex _ k1 dd.1 he1
          show goodD (.fors p (counter T σ) (expr T 11 (newName T (step T (loop0 T σ)))).2 (dos T f (seeing (counter T σ) (expr T 11 (newName T (step T (loop0 T σ)))).1)).2) = true
          rw [goodD, g1, Bool.true_and]
          refine hd _ ⟨?_, Or.inl ⟨?_, ?_⟩⟩ he2
          · show 0 ≤ (expr T 11 (newName T (step T (loop0 T σ)))).1.depth; rw [k2.depth]; exact d0
          · show (expr T 11 (newName T (step T (loop0 T σ)))).1.depth ≤ 10; rw [k2.depth]; exact dd.1
          · show 11 - (expr T 11 (newName T (step T (loop0 T σ)))).1.depth ≤ (f : Int); rw [k2.depth]; omega
        · rename_i e4
          rw [if_neg e4] at he
          exact absurd he (here_ne (by decide))
theorem dosL_good {s : ByteArray} {T : List Tok} (hS : Scans s T) {f : Nat} (hd : 1 ≤ f → ∀ p σ, LvD T f σ → (doF T f p σ).1.err = 0 → goodD (doF T f p σ).2 = true) (m : Nat) : ∀ (σ : S) (l : List Do), Lv T f σ → goodL l = true → (dosL T (doF T f) m σ l).1.err = 0 → goodL (dosL T (doF T f) m σ l).2 = true := by
  induction m with
  | zero => intro σ l _ hg _; exact hg
  | succ m ih =>
    intro σ l hl hg he
    rw [dosL] at he ⊢
    split
    · rename_i e
      rw [if_pos e] at he
      have hlive : σ.depth ≤ 10 ∧ 11 - σ.depth ≤ (f : Int) := by
        rcases hl.2 with h | h
        · exact h
        · unfold isW at e
          rw [last_no hS h [40] (by decide)] at e
          exact absurd e (by decide)
      have kk := brkDo_keeps (T := T) (doF_keeps T f) σ
      have he1 := dosL_st (doF_st T f) m _ _ he
      refine ih _ _ ⟨by rw [kk.depth]; exact hl.1, Or.inl (by rw [kk.depth]; exact hlive)⟩ ?_ he
      rw [goodL_snoc, hg, Bool.true_and]
      exact hd (by omega) _ _ (lvD_opened hl.1 hlive.1 hlive.2) (closed_st T _ he1)
    · exact hg
theorem dos_good {s : ByteArray} {T : List Tok} (hS : Scans s T) (f : Nat) : ∀ σ, Lv T f σ → (dos T f σ).1.err = 0 → goodL (dos T f σ).2 = true := by
  induction f with
  | zero => exact fun σ hl he => dosL_good hS (fun h => by omega) T.length σ [] hl rfl he
  | succ f ih => exact fun σ hl he => dosL_good hS (fun _ p σ hl he => doX_good hS ih p hl he) T.length σ [] hl rfl he
/-- A program without an error has no holes. -/
theorem prog_good {s : ByteArray} {T : List Tok} (hS : Scans s T) (hd : (prog0 T).depth = 0) (he : (progS T).err = 0) : goodL (progD T) = true :=
  dos_good hS 11 _ ⟨by rw [hd]; omega, Or.inl (by rw [hd]; omega)⟩ (take_st T _ _ he)
theorem declsL_depth (T : List Tok) (m : Nat) : ∀ σ, (declsL T m σ).depth = σ.depth := by
  induction m with
  | zero => intro σ; rfl
  | succ m ih =>
    intro σ
    rw [declsL]
    split
    · rw [ih]; exact (dcl_keeps T σ).depth
    · rfl
theorem prog0_depth (T : List Tok) : (prog0 T).depth = 0 := declsL_depth T _ _
end K
end Go.Proofs.YtjgiefnjmngdkaaGreatDoor
namespace Go.Proofs.YtjgiefnjmngdkaaGreatDoor
open Go.RowKit
open R (Tok tk)
open K (Nm S Scans Ex Do)

set_option maxHeartbeats 400000 in
theorem first_c {w : World} {l : List Do} (hG : GdsDoes l) {na : Option Addr} {nn nc : Nat} {wd : Int} {dv : Value} {us : List Value} {B : Nat → Prop} (dr : DRow B w dv us) (de : Each B w l us) :
    Calls Tryz.prog 57 #[.agg #[.slice na nn nc, .int .i64 wd, dv]] w fun x w' => x = .returned (.tuple #[.int .i64 (K.gds false l (0, false)).1, .bool (K.gds false l (0, false)).2]) ∧ Below w.heap.size w w' := by
  obtain ⟨da, dn, dc, rfl⟩ := dr.form
  have dr1 := dr.lower (B' := fun k => k < w.heap.size) fun k _ h => h
  have de1 := de.lower (B' := fun k => k < w.heap.size) fun k _ h => h
  have e1 : (w.alloc (.cells #[.slice na nn nc, .int .i64 wd, .slice da dn dc] 84 (0, 0))).heap.size = w.heap.size + 1 := by simp
  have aS : GAt ((w.alloc (.cells #[.slice na nn nc, .int .i64 wd, .slice da dn dc] 84 (0, 0))).alloc (.cells #[.int .i64 0, .bool false] 142 (0, 0))) (w.heap.size + 1) (0, false) := by
    have := At.alloc_new (w.alloc (.cells #[.slice na nn nc, .int .i64 wd, .slice da dn dc] 84 (0, 0))) [.int .i64 0, .bool false] 142
    rw [e1] at this
    exact this
  have kp : ∀ k, k < w.heap.size → k < w.heap.size → ((w.alloc (.cells #[.slice na nn nc, .int .i64 wd, .slice da dn dc] 84 (0, 0))).alloc (.cells #[.int .i64 0, .bool false] 142 (0, 0))).heap[k]? = w.heap[k]? := fun k h _ => by
    rw [heap_alloc_old _ _ _ (by omega), heap_alloc_old _ _ _ h]
  have BW : Below w.heap.size w ((w.alloc (.cells #[.slice na nn nc, .int .i64 wd, .slice da dn dc] 84 (0, 0))).alloc (.cells #[.int .i64 0, .bool false] 142 (0, 0))) := ((Below.refl _ _).alloc (Nat.le_refl _) _).alloc (by simp) _
  have hd := hG (fun k => k < w.heap.size) _ (w.heap.size + 1) (0, false) (.slice da dn dc) us false aS (dr1.keep kp) (de1.keep kp) (fun k h => by omega)
  obtain ⟨G, HG⟩ : ∃ G, Hid (K.gds false l (0, false) = G) := ⟨_, rfl⟩
  rw [HG.out] at hd
  clear dr de dr1 de1 kp hG
  go_enter Tryz.func57, Tryz.ntmps57
  go_wp2_with fail
  refine hd.mono ?_
  rintro x w2 ⟨rfl, h2, hb2⟩
  have B2 : Below w.heap.size w w2 := BW.trans ⟨hb2.os, hb2.tape, hb2.output, hb2.size, fun k hk => hb2.block k (by have := BW.size; omega) (by omega)⟩
  have c0 := h2.cell 0
  have c1 := h2.cell 1
  simp only [List.getElem?_cons_zero, List.getElem?_cons_succ] at c0 c1
  go_upto_region 3 with fail
  go_region
  all_goals
    go_wp2_with fail
    rw [HG.out]
    go_ret2
    exact ⟨rfl, B2.drew⟩
end Go.Proofs.YtjgiefnjmngdkaaGreatDoor
namespace Go.Proofs.YtjgiefnjmngdkaaGreatDoor
open Go.RowKit
open R (Tok tk)
open K (Nm S Scans Ex Do)

def K.found (T : List Tok) : K.GS := K.gds false (K.progD T) (0, false)
/-- What the code's own read gives. -/
def Readed (T : List Tok) (w w' : World) (x : Ending) : Prop :=
  (¬ (K.progS T).err = 0 ∧ x = .returned (.tuple #[zeroP, .int .i64 (K.progS T).err, .int .i64 (K.progS T).eat])) ∨
  ((K.progS T).err = 0 ∧ (K.found T).2 = true ∧ x = .returned (.tuple #[zeroP, .int .i64 7, .int .i64 (K.found T).1])) ∨
  ((K.progS T).err = 0 ∧ (K.found T).2 = false ∧ ∃ nv dv us, x = .returned (.tuple #[.agg #[nv, .int .i64 (K.progS T).words, dv], .int .i64 0, .int .i64 0]) ∧ w'.ownsRow 0 96 5 nv (K.progS T).names.length ((K.progS T).names.flatMap nmCells) ∧ DRow (From w.heap.size) w' dv us ∧ Each (From w.heap.size) w' (K.progD T) us)

set_option maxHeartbeats 400000 in
theorem mread_long (s : ByteArray) (w : World) (hs : 800 < s.size) (hm : s.size ≤ maxLen) :
    Calls Tryz.prog 40 #[.string s] w fun x w' => x = .returned (.tuple #[zeroP, .int .i64 1, .int .i64 0]) ∧ Below w.heap.size w w' := by
  have hp := parse_long s (w.alloc (.cells #[.slice none 0 0, .int .i64 0, .slice none 0 0] 84 (0, 0))) hs hm
  have aA := At.alloc_new w [.slice none 0 0, .int .i64 0, .slice none 0 0] 84
  have BW : Below w.heap.size w (w.alloc (.cells #[.slice none 0 0, .int .i64 0, .slice none 0 0] 84 (0, 0))) := (Below.refl _ _).alloc (Nat.le_refl _) _
  unfold zeroP at hp
  go_enter Tryz.func40, Tryz.ntmps40
  go_wp2_with fail
  refine hp.mono ?_
  rintro x w2 ⟨rfl, hb2⟩
  have aA2 := aA.of_block (hb2.block _ aA.lt)
  have B2 := BW.trans (hb2.mono BW.size)
  have lA := aA2.lt
  have q0 := aA2.cell 0
  have q1 := aA2.cell 1
  have q2 := aA2.cell 2
  simp only [List.getElem?_cons_zero, List.getElem?_cons_succ] at q0 q1 q2
  have f0 := aA2.frozen 0
  have f1 := aA2.frozen 1
  have f2 := aA2.frozen 2
  have RZ := ((aA2.set 0 (.slice none 0 0)).set 1 (.int .i64 0)).set 2 (.slice none 0 0)
  have BZ : Below w.heap.size w (((w2.setCell ⟨w.heap.size, 0, none⟩ (.slice none 0 0)).setCell ⟨w.heap.size, 1, none⟩ (.int .i64 0)).setCell ⟨w.heap.size, 2, none⟩ (.slice none 0 0)) := ((B2.setCell (Nat.le_refl _) _).setCell (Nat.le_refl _) _).setCell (Nat.le_refl _) _
  go_wp2_with fail
  generalize ((w2.setCell ⟨w.heap.size, 0, none⟩ (.slice none 0 0)).setCell ⟨w.heap.size, 1, none⟩ (.int .i64 0)).setCell ⟨w.heap.size, 2, none⟩ (.slice none 0 0) = WZ at *
  have z0 : WZ.cell? ⟨w.heap.size, 0, none⟩ = some (.slice none 0 0) := RZ.cell 0
  have z1 : WZ.cell? ⟨w.heap.size, 1, none⟩ = some (.int .i64 0) := RZ.cell 1
  have z2 : WZ.cell? ⟨w.heap.size, 2, none⟩ = some (.slice none 0 0) := RZ.cell 2
  have zl := RZ.lt
  exact bodyPost_ret (v := .tuple #[zeroP, .int .i64 1, .int .i64 0]) (by simp [results, Tryz.results40, go_sem, zeroP, z0, z1, z2, zl]) rfl ⟨rfl, BZ.alloc (by omega) _⟩
end Go.Proofs.YtjgiefnjmngdkaaGreatDoor
