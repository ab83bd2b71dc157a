import Derived.Test.YtejbgcloblpbfaaGreatDoorR34
import Derived.Test.YtejbgcloblpbfaaGreatDoorR13
namespace Go.Proofs.YtejbgcloblpbfaaGreatDoor
open R (Tok tk PS Thing)
open K (S Nm Ex Do Scans)
namespace Q
theorem lk_front {p : Int} (hp : 0 ≤ p) (b : Bool) (l : Int) (L : List Int) (hL : ∀ q ∈ L, 0 ≤ q) : (if b = true then lk (mn l L) p else mn l L) = mn l ((if b = true then [p] else []) ++ L) := by
  cases b with
  | true =>
    rw [if_pos rfl, if_pos rfl]
    show _ = mn (lk l p) L
    rw [mn_lk hp _ _ hL]
  | false => rw [if_neg (by decide), if_neg (by decide)]; rfl
theorem pos_front {p : Int} (hp : 0 ≤ p) (b : Bool) {L : List Int} (hL : ∀ q ∈ L, 0 ≤ q) : ∀ q ∈ (if b = true then [p] else []) ++ L, 0 ≤ q := fun q hq => by
  rw [List.mem_append] at hq
  rcases hq with hq | hq
  · split at hq
    · simp at hq; omega
    · simp at hq
  · exact hL q hq
theorem pos_app {L M : List Int} (h : ∀ q ∈ L, (0 : Int) ≤ q) (k : ∀ q ∈ M, (0 : Int) ≤ q) : ∀ q ∈ L ++ M, 0 ≤ q := fun q hq => by
  rw [List.mem_append] at hq
  rcases hq with hq | hq
  · exact h q hq
  · exact k q hq
theorem put_leak {p : Int} (a b : Bool) (l : Int) (X : List Int) : mn l ((if a = true then [p] else []) ++ ((if b = true then [p] else []) ++ X)) = mn l ((if (b || a) = true then [p] else []) ++ X) := by
  cases a <;> cases b
  · rfl
  · rfl
  · rfl
  · show mn (lk (lk l p) p) X = mn (lk l p) X
    rw [lk_twice]
mutual
def ld (hid : Bool) : Do → List Int
  | .set p n e => (if K.tells n e hid = true then [p] else []) ++ lx e
  | .put p n i e => (if (K.sec i || K.tells n e hid) = true then [p] else []) ++ (lx i ++ lx e)
  | .ifs _ q y n => lx q ++ (lds (hid || K.sec q) y ++ lds (hid || K.sec q) n)
  | .fors p _ r l => (if K.sec r = true then [p] else []) ++ (lx r ++ lds hid l)
  | .none => []
def lds (hid : Bool) : List Do → List Int
  | [] => []
  | d :: l => ld hid d ++ lds hid l
end
theorem lds_snoc (hid : Bool) (d : Do) : ∀ l, lds hid (l ++ [d]) = lds hid l ++ ld hid d
  | [] => by simp [lds]
  | a :: l => by
    show lds hid (a :: (l ++ [d])) = _
    rw [lds, lds, lds_snoc hid d l, List.append_assoc]
def DA (σ A : PS) (B : S) (L : List Int) : Prop := (Sm A B ∧ A.leak = mn σ.leak L ∧ ∀ q ∈ L, 0 ≤ q) ∨ Dd A B
def Hs (σ : PS) (hid : Bool) : Prop := 0 ≤ σ.hidden ∧ decide (0 < σ.hidden) = hid
theorem core_hid {σ σ' : PS} (h : R.core σ' = R.core σ) : σ'.hidden = σ.hidden := congrArg (fun c => c.2.2.2.2.2.1) h
theorem core_seen {σ σ' : PS} (h : R.core σ' = R.core σ) : σ'.seen = σ.seen := congrArg (fun c => c.1) h
theorem core_loops {σ σ' : PS} (h : R.core σ' = R.core σ) : σ'.loops = σ.loops := congrArg (fun c => c.2.2.2.2.1) h
theorem Hs.next {σ σ' : PS} {hid : Bool} (h : Hs σ hid) (c : R.core σ' = R.core σ) : Hs σ' hid := by unfold Hs; rw [core_hid c]; exact h
def Lv (f : Nat) (τ : S) : Prop := 0 ≤ τ.depth ∧ τ.depth ≤ 10 ∧ 11 - τ.depth ≤ (f : Int)
def RecD (T : List Tok) (g f : Nat) : Prop := ∀ σ τ hid, Sm σ τ → Hs σ hid → σ.i < T.length → Lv g τ → Lv f τ → DA σ (R.does T g σ).1 (K.dos T f τ).1 (lds hid (K.dos T f τ).2)
theorem ex_eqv {s : ByteArray} {T : List Tok} (hS : Scans s T) (hE : R.Ended T) {σ : PS} {τ : S} (h : Sm σ τ) (hi : σ.i < T.length) (d0 : 0 ≤ τ.depth) (d1 : τ.depth ≤ 10) : Both σ (R.ex T σ) (K.expr T 11 τ) :=
  expr_eqv hS hE 11 T.length σ τ h hi (by omega) d0 d1 (by omega)
theorem ex_dead {T : List Tok} {σ : PS} {τ : S} (h : Dd σ τ) : Dd (R.ex T σ).1 (K.expr T 11 τ).1 := by
  unfold R.ex
  rw [R.expr_dead T _ σ h.e1]
  exact h.next (fun _ => ⟨rfl, rfl⟩) (expr_kd T 11 τ)
theorem secAt_alive {σ : PS} (h : σ.err = 0) (x : Int) : R.secAt σ x = (R.nodeAt σ x).sec := by unfold R.secAt; rw [h]; rfl
theorem set_eqv {s : ByteArray} {T : List Tok} (hS : Scans s T) (hE : R.Ended T) {σ : PS} {τ : S} {hid : Bool} (h : Sm σ τ) (hh : Hs σ hid) (hi : σ.i < T.length) (d0 : 0 ≤ τ.depth) (d1 : τ.depth ≤ 10) {p : Int} (hp : 0 ≤ p) :
    DA σ (R.doSet T p (R.take T σ)).s (K.setX T p τ).1 (ld hid (K.setX T p τ).2) := by
  have ht := take_sm T h
  have hti := R.take_i T σ
  have tc := R.take_core T σ
  unfold R.doSet K.setX
  dsimp only
  have kc := R.known_core T false true (R.take T σ)
  have kk := (K.step_keeps T τ).trans (K.known_keeps T K.canSet (K.step T τ))
  rcases known_eqv T fits_set ht with ⟨k1, k2⟩ | k
  · have ok := R.expr_ok hE T.length (R.known T false true (R.take T σ)) (kc.2.2.2.2 (hti.2.2.2 hi))
    rcases ex_eqv hS hE k1 (kc.2.2.2.2 (hti.2.2.2 hi)) (by rw [kk.depth]; exact d0) (by rw [kk.depth]; exact d1) with a | a
    · left
      have hT : R.tellsAt (R.ex T (R.known T false true (R.take T σ))).1 (R.knownT T false true (R.take T σ)) (R.ex T (R.known T false true (R.take T σ))).2 = K.tells (K.knownN T (K.step T τ)) (K.expr T 11 (K.known T K.canSet (K.step T τ))).2 hid := by
        unfold R.tellsAt K.tells
        have e := (hh.next ((ok.core.trans kc.1).trans tc.1)).2
        rw [a.sm.e1, k2.sec, a.sec]
        show ((0 : Int) == 0 && _ && (decide (0 < (R.expr T T.length (R.known T false true (R.take T σ))).1.hidden) || _)) = _
        rw [e]
        rfl
      refine ⟨sm_leaks a.sm _ _, ?_, ?_⟩
      · rw [leaks_leak, hT, a.leak, known_leak, take_leak, ld]
        exact lk_front hp _ _ _ a.pos
      · rw [ld]; exact pos_front hp _ a.pos
    · exact Or.inr (dd_leaks a _ _)
  · exact Or.inr (dd_leaks (ex_dead k) _ _)
theorem put_eqv {s : ByteArray} {T : List Tok} (hS : Scans s T) (hE : R.Ended T) {σ : PS} {τ : S} {hid : Bool} (h : Sm σ τ) (hh : Hs σ hid) (hi : σ.i < T.length) (d0 : 0 ≤ τ.depth) (d1 : τ.depth ≤ 10) {p : Int} (hp : 0 ≤ p) :
    DA σ (R.doPut T p (R.take T σ)).s (K.putX T p τ).1 (ld hid (K.putX T p τ).2) := by
  have ht := take_sm T h
  have hti := R.take_i T σ
  have tc := R.take_core T σ
  unfold R.doPut K.putX
  dsimp only
  have kc := R.known_core T true false (R.take T σ)
  have kk := (K.step_keeps T τ).trans (K.known_keeps T K.hasWords (K.step T τ))
  rcases known_eqv T fits_words ht with ⟨k1, k2⟩ | k
  · have ok := R.expr_ok hE T.length (R.known T true false (R.take T σ)) (kc.2.2.2.2 (hti.2.2.2 hi))
    have ek := K.expr_keeps T 11 (K.known T K.hasWords (K.step T τ))
    rcases ex_eqv hS hE k1 (kc.2.2.2.2 (hti.2.2.2 hi)) (by rw [kk.depth]; exact d0) (by rw [kk.depth]; exact d1) with a | a
    · have kd := kk.trans ek
      have a1 := sm_leaks a.sm p (R.secAt (R.ex T (R.known T true false (R.take T σ))).1 (R.ex T (R.known T true false (R.take T σ))).2)
      have lc := R.leaks_core p (R.secAt (R.ex T (R.known T true false (R.take T σ))).1 (R.ex T (R.known T true false (R.take T σ))).2) (R.ex T (R.known T true false (R.take T σ))).1
      have hi2 : (R.leaks p (R.secAt (R.ex T (R.known T true false (R.take T σ))).1 (R.ex T (R.known T true false (R.take T σ))).2) (R.ex T (R.known T true false (R.take T σ))).1).i < T.length := by
        rw [lc.2.2.1]; exact ok.lt
      have ok2 := R.expr_ok hE T.length _ hi2
      rcases ex_eqv hS hE a1 hi2 (by rw [kd.depth]; exact d0) (by rw [kd.depth]; exact d1) with c | c
      · left
        have hc := (hh.next (((ok2.core.trans lc.1).trans (ok.core.trans kc.1)).trans tc.1)).2
        rw [secAt_alive a.sm.e1, a.sec] at *
        have hl : (R.leaks p (K.sec (K.expr T 11 (K.known T K.hasWords (K.step T τ))).2) (R.ex T (R.known T true false (R.take T σ))).1).leak = mn σ.leak ((if K.sec (K.expr T 11 (K.known T K.hasWords (K.step T τ))).2 = true then [p] else []) ++ lx (K.expr T 11 (K.known T K.hasWords (K.step T τ))).2) := by
          rw [leaks_leak, a.leak, known_leak, take_leak]
          exact lk_front hp _ _ _ a.pos
        have hT : R.tellsAt (R.ex T (R.leaks p (K.sec (K.expr T 11 (K.known T K.hasWords (K.step T τ))).2) (R.ex T (R.known T true false (R.take T σ))).1)).1 (R.knownT T true false (R.take T σ)) (R.ex T (R.leaks p (K.sec (K.expr T 11 (K.known T K.hasWords (K.step T τ))).2) (R.ex T (R.known T true false (R.take T σ))).1)).2 = K.tells (K.knownN T (K.step T τ)) (K.expr T 11 (K.expr T 11 (K.known T K.hasWords (K.step T τ))).1).2 hid := by
          unfold R.tellsAt K.tells
          rw [c.sm.e1, k2.sec, c.sec]
          show ((0 : Int) == 0 && _ && (decide (0 < (R.expr T T.length (R.leaks p (K.sec (K.expr T 11 (K.known T K.hasWords (K.step T τ))).2) (R.ex T (R.known T true false (R.take T σ))).1)).1.hidden) || _)) = _
          rw [hc]
          rfl
        refine ⟨sm_leaks c.sm _ _, ?_, ?_⟩
        · rw [leaks_leak, hT, c.leak, hl, ld, ← mn_app, lk_front hp _ _ _ (pos_app (pos_front hp _ a.pos) c.pos), List.append_assoc, put_leak]
        · rw [ld]; exact pos_front hp _ (pos_app a.pos c.pos)
      · exact Or.inr (dd_leaks c _ _)
    · exact Or.inr (dd_leaks (ex_dead (dd_leaks a _ _)) _ _)
  · exact Or.inr (dd_leaks (ex_dead (dd_leaks (ex_dead k) _ _)) _ _)
end Q
end Go.Proofs.YtejbgcloblpbfaaGreatDoor
namespace Go.Proofs.YtejbgcloblpbfaaGreatDoor
open R (Tok tk PS Thing)
open K (S Nm Ex Do Scans)
namespace Q
theorem here_kd (T : List Tok) (e : Int) (τ : S) : KD τ (K.here T e τ) := fail_kd T e _ τ
theorem brk_kd {T : List Tok} {dos : S → S × List Do} (h : ∀ τ, KD τ (dos τ).1) (τ : S) : KD τ (K.brk T dos τ).1 := ((opened_kd T τ).trans (h _)).trans (closed_kd T _)
theorem body_kd {dos : S → S × List Do} (h : ∀ τ, KD τ (dos τ).1) (n : Nm) (τ : S) : KD τ (K.body dos n τ).1 := fun e => h (K.seeing n τ) e
theorem loop0_kd (T : List Tok) (τ : S) : KD τ (K.loop0 T τ) := by
  unfold K.loop0; split
  · exact here_kd T _ _
  · exact KD.rfl' τ
theorem doX_kd {T : List Tok} {dos : S → S × List Do} (h : ∀ τ, KD τ (dos τ).1) (p : Int) (τ : S) : KD τ (K.doX T dos p τ).1 := by
  unfold K.doX
  split
  · exact ((step_kd T τ).trans (known_kd T _ _)).trans (expr_kd T _ _)
  · split
    · exact (((step_kd T τ).trans (known_kd T _ _)).trans (expr_kd T _ _)).trans (expr_kd T _ _)
    · split
      · exact (((step_kd T τ).trans (expr_kd T _ _)).trans (brk_kd h _)).trans (brk_kd h _)
      · split
        · exact ((((loop0_kd T τ).trans (step_kd T _)).trans (newName_kd T _)).trans (expr_kd T _ _)).trans (body_kd h _ _)
        · exact here_kd T _ _
theorem brkDo_kd {T : List Tok} {d : Int → S → S × Do} (h : ∀ p τ, KD τ (d p τ).1) (τ : S) : KD τ (K.brkDo T d τ).1 := ((opened_kd T τ).trans (h _ _)).trans (closed_kd T _)
theorem dosL_kd {T : List Tok} {d : Int → S → S × Do} (h : ∀ p τ, KD τ (d p τ).1) (m : Nat) : ∀ (τ : S) (l : List Do), KD τ (K.dosL T d m τ l).1 := by
  induction m with
  | zero => intro τ l; exact KD.rfl' τ
  | succ m ih =>
    intro τ l
    rw [K.dosL]
    split
    · exact (brkDo_kd h τ).trans (ih _ _)
    · exact KD.rfl' τ
theorem doF_kd (T : List Tok) (f : Nat) : ∀ p τ, KD τ (K.doF T f p τ).1 := by
  induction f with
  | zero => intro p τ; exact KD.rfl' τ
  | succ f ih => intro p τ; exact doX_kd (fun τ => dosL_kd ih T.length τ []) p τ
theorem dos_kd (T : List Tok) (f : Nat) (τ : S) : KD τ (K.dos T f τ).1 := dosL_kd (doF_kd T f) _ _ _
theorem shut_da {T : List Tok} {σ A : PS} {B : S} {L : List Int} (h : DA σ A B L) : DA σ (R.shut T A) (K.closed T B) L := by
  rcases h with ⟨h1, h2, h3⟩ | h
  · rcases shut_eqv T (Or.inl h1) with s | s
    · exact Or.inl ⟨s, by rw [shut_leak]; exact h2, h3⟩
    · exact Or.inr s
  · rcases shut_eqv T (Or.inr h) with s | s
    · exfalso
      have e := s.e2
      have k := closed_kd T B (by rw [h.e2]; exact h.e1)
      rw [k.1, h.e2] at e
      exact h.e1 e
    · exact Or.inr s
theorem opens_lv {T : List Tok} {σ : PS} {τ : S} {f : Nat} (o : Sm (R.opens T σ) (K.opened T τ)) (h : Sm σ τ) (d0 : 0 ≤ τ.depth) (d1 : τ.depth ≤ 10) (df : 10 - τ.depth ≤ (f : Int)) : Lv f (K.opened T τ) := by
  have := (R.opens_ok o.e1).2.2
  have e := h.nest
  have ed := K.opened_depth T τ
  exact ⟨by omega, by omega, by omega⟩
theorem block_eqv {T : List Tok} {g f : Nat} (hr : RecD T g f) {σ : PS} {τ : S} {hid : Bool} (h : Sm σ τ) (hh : Hs σ hid) (hi : σ.i < T.length) (d0 : 0 ≤ τ.depth) (d1 : τ.depth ≤ 10) (dg : 10 - τ.depth ≤ (g : Int)) (df : 10 - τ.depth ≤ (f : Int)) :
    DA σ (R.block T (R.does T g) σ).1 (K.brk T (K.dos T f) τ).1 (lds hid (K.brk T (K.dos T f) τ).2) := by
  unfold R.block K.brk
  rw [if_pos h.e1]
  dsimp only
  have oc := R.opens_core T σ
  have ti := R.take_i T σ
  rcases opens_eqv T h with o | o
  · have := hr _ _ hid o (hh.next oc.1) (by rw [oc.2.2.1]; exact ti.2.2.2 hi) (opens_lv o h d0 d1 dg) (opens_lv o h d0 d1 df)
    have := shut_da (T := T) this
    rcases this with ⟨t1, t2, t3⟩ | t
    · exact Or.inl ⟨t1, by rw [t2, opens_leak], t3⟩
    · exact Or.inr t
  · rw [R.does_dead T g o.e1]
    exact shut_da (T := T) (Or.inr (o.next (fun _ => ⟨rfl, rfl⟩) (dos_kd T f _)))
theorem block_dd {T : List Tok} {g f : Nat} {σ : PS} {τ : S} (h : Dd σ τ) : Dd (R.block T (R.does T g) σ).1 (K.brk T (K.dos T f) τ).1 := by
  rw [R.block_dead T _ h.e1]
  exact h.next (fun _ => ⟨rfl, rfl⟩) (brk_kd (dos_kd T f) τ)
theorem sm_hide {σ : PS} {τ : S} (h : Sm σ τ) (d : Int) : Sm (R.hide1 d σ) τ := ⟨h.e1, h.e2, h.i, h.nest, h.loops, h.names⟩
theorem dd_hide {σ : PS} {τ : S} (h : Dd σ τ) (d : Int) : Dd (R.hide1 d σ) τ := ⟨h.e1, h.e2, h.p⟩
theorem if_eqv {s : ByteArray} {T : List Tok} (hS : Scans s T) (hE : R.Ended T) {g f : Nat} (hr : RecD T g f) {σ : PS} {τ : S} {hid : Bool} (h : Sm σ τ) (hh : Hs σ hid) (hi : σ.i < T.length) (d0 : 0 ≤ τ.depth) (d1 : τ.depth ≤ 10) (dg : 10 - τ.depth ≤ (g : Int)) (df : 10 - τ.depth ≤ (f : Int)) (p : Int) :
    DA σ (R.doIf T (R.does T g) (R.take T σ)).s (K.ifX T (K.dos T f) p τ).1 (ld hid (K.ifX T (K.dos T f) p τ).2) := by
  have ht := take_sm T h
  have hti := R.take_i T σ
  have tc := R.take_core T σ
  unfold R.doIf K.ifX
  dsimp only
  have k0 := K.step_keeps T τ
  have ok := R.expr_ok hE T.length (R.take T σ) (hti.2.2.2 hi)
  have k1 := k0.trans (K.expr_keeps T 11 (K.step T τ))
  rcases ex_eqv hS hE ht (hti.2.2.2 hi) (by rw [k0.depth]; exact d0) (by rw [k0.depth]; exact d1) with a | a
  · rw [secAt_alive a.sm.e1, a.sec, ld]
    have hA : Hs (R.ex T (R.take T σ)).1 hid := (hh.next (ok.core.trans tc.1))
    generalize hm : (if K.sec (K.expr T 11 (K.step T τ)).2 = true then (1 : Int) else 0) = m at *
    have hB : Hs (R.hide1 m (R.ex T (R.take T σ)).1) (hid || K.sec (K.expr T 11 (K.step T τ)).2) := by
      obtain ⟨q0, q1⟩ := hA
      unfold Hs
      show 0 ≤ (R.ex T (R.take T σ)).1.hidden + m ∧ decide (0 < (R.ex T (R.take T σ)).1.hidden + m) = _
      rw [← q1, ← hm]
      cases K.sec (K.expr T 11 (K.step T τ)).2 with
      | true =>
        rw [if_pos rfl, Bool.or_true]
        exact ⟨by omega, decide_eq_true (by omega)⟩
      | false =>
        rw [if_neg (by decide), Bool.or_false, Int.add_zero]
        exact ⟨q0, rfl⟩
    have b1 := block_eqv hr (sm_hide a.sm m) hB ok.lt (by rw [k1.depth]; exact d0) (by rw [k1.depth]; exact d1) (by rw [k1.depth]; exact dg) (by rw [k1.depth]; exact df)
    have bo := R.block_ok (fun σ h => R.does_ok hE g h) (σ := R.hide1 m (R.ex T (R.take T σ)).1) ok.lt
    have k2 := k1.trans (K.brk_keeps (T := T) (fun σ => K.dos_keeps T f σ) (K.expr T 11 (K.step T τ)).1)
    rcases b1 with ⟨b1, b2, b3⟩ | b
    · have c1 := block_eqv hr b1 (hB.next bo.core) bo.lt (by rw [k2.depth]; exact d0) (by rw [k2.depth]; exact d1) (by rw [k2.depth]; exact dg) (by rw [k2.depth]; exact df)
      rcases c1 with ⟨c1, c2, c3⟩ | c
      · refine Or.inl ⟨sm_hide c1 _, ?_, pos_app a.pos (pos_app b3 c3)⟩
        show (R.block T (R.does T g) (R.block T (R.does T g) (R.hide1 m (R.ex T (R.take T σ)).1)).1).1.leak = _
        rw [c2, b2, mn_app, mn_app]
        show mn (mn (R.ex T (R.take T σ)).1.leak _) _ = _
        rw [a.leak, take_leak]
      · exact Or.inr (dd_hide c _)
    · exact Or.inr (dd_hide (block_dd b) _)
  · exact Or.inr (dd_hide (block_dd (block_dd (dd_hide a _))) _)
end Q
end Go.Proofs.YtejbgcloblpbfaaGreatDoor
namespace Go.Proofs.YtejbgcloblpbfaaGreatDoor
open R (Tok tk PS Thing)
open K (S Nm Ex Do Scans)
namespace Q
theorem dd_push {σ : PS} {τ : S} (h : Dd σ τ) (t : Thing) : Dd (R.push t σ) τ := ⟨h.e1, h.e2, h.p⟩
theorem dd_pop {σ : PS} {τ : S} (h : Dd σ τ) : Dd (R.pop σ) τ := ⟨h.e1, h.e2, h.p⟩
theorem body_dd {T : List Tok} {g f : Nat} {σ : PS} {τ : S} (h : Dd σ τ) (t : Thing) (n : Nm) : Dd (R.pop (R.does T g (R.push t σ)).1) (K.body (K.dos T f) n τ).1 := by
  have h' := dd_push h t
  rw [R.does_dead T g h'.e1]
  exact (dd_pop h').next (fun _ => ⟨rfl, rfl⟩) (body_kd (dos_kd T f) n τ)
theorem fresh_leak (T : List Tok) (σ : PS) : (R.fresh T σ).leak = σ.leak := by
  unfold R.fresh
  split
  · split
    · split
      · rw [fail_leak, take_leak]
      · exact take_leak T σ
    · rw [fail_leak, take_leak]
  · rfl
theorem for_eqv {s : ByteArray} {T : List Tok} (hS : Scans s T) (hE : R.Ended T) {g f : Nat} (hr : RecD T g f) {σ : PS} {τ : S} {hid : Bool} (h : Sm σ τ) (hh : Hs σ hid) (hi : σ.i < T.length) (d0 : 0 ≤ τ.depth) (d1 : τ.depth ≤ 10) (dg : 11 - τ.depth ≤ (g : Int)) (df : 11 - τ.depth ≤ (f : Int)) {p : Int} (hp : 0 ≤ p) (wp : Int) (hw : wp = (tk T σ.i).p) :
    DA σ (R.doFor T (R.does T g) p wp (R.take T σ)).s (K.forX T (K.dos T f) p τ).1 (ld hid (K.forX T (K.dos T f) p τ).2) := by
  have ht := take_sm T h
  have hti := R.take_i T σ
  have tc := R.take_core T σ
  unfold R.doFor K.forX
  dsimp only
  by_cases hl : σ.loops = 2
  · right
    rw [core_loops tc.1, if_pos hl]
    have e0 : K.loop0 T τ = K.here T 6 τ := by unfold K.loop0; rw [if_pos (by rw [← h.loops]; exact hl)]
    have d : Dd (R.fail 6 wp (R.take T σ)) (K.loop1 T τ) := by
      unfold K.loop1
      rw [e0]
      refine Dd.next (σ := R.fail 6 wp (R.take T σ)) ?_ (fun _ => ⟨rfl, rfl⟩) (step_kd T _)
      unfold K.here
      rw [hw, ← h.i]
      exact fail_dd ((rtake_err T σ).trans h.e1) h.e2 (by decide) T _
    have d2 : Dd (R.fresh T (R.fail 6 wp (R.take T σ))) (K.newName T (K.loop1 T τ)) := by
      have e : R.fresh T (R.fail 6 wp (R.take T σ)) = R.fail 6 wp (R.take T σ) := by unfold R.fresh; rw [if_neg d.e1]
      rw [e]
      exact d.next (fun _ => ⟨rfl, rfl⟩) (newName_kd T _)
    exact body_dd (dd_leaks (ex_dead d2) _ _) _ _
  · rw [core_loops tc.1, if_neg hl]
    have e0 : K.loop0 T τ = τ := by unfold K.loop0; rw [if_neg (by rw [← h.loops]; exact hl)]
    have e1 : K.loop1 T τ = K.step T τ := by unfold K.loop1; rw [e0]
    have hc : (K.counter T τ) = ⟨(tk T (K.step T τ).i).s, 2, false, 0, τ.words + τ.loops⟩ := by unfold K.counter; rw [e1]
    rw [e1]
    generalize K.counter T τ = n at *
    have fc := R.fresh_core T (R.take T σ)
    have k1 := (K.step_keeps T τ).trans (K.newName_keeps T (K.step T τ))
    rcases fresh_eqv T ht with a0 | a0
    · have hi1 := fc.2.2.2.2 (hti.2.2.2 hi)
      have ok := R.expr_ok hE T.length (R.fresh T (R.take T σ)) hi1
      have k2 := k1.trans (K.expr_keeps T 11 (K.newName T (K.step T τ)))
      rcases ex_eqv hS hE a0 hi1 (by rw [k1.depth]; exact d0) (by rw [k1.depth]; exact d1) with a | a
      · rw [secAt_alive a.sm.e1, a.sec, ld]
        have a1 := sm_leaks a.sm p (K.sec (K.expr T 11 (K.newName T (K.step T τ))).2)
        have lc := R.leaks_core p (K.sec (K.expr T 11 (K.newName T (K.step T τ))).2) (R.ex T (R.fresh T (R.take T σ))).1
        have hl3 : (R.leaks p (K.sec (K.expr T 11 (K.newName T (K.step T τ))).2) (R.ex T (R.fresh T (R.take T σ))).1).leak = mn σ.leak ((if K.sec (K.expr T 11 (K.newName T (K.step T τ))).2 = true then [p] else []) ++ lx (K.expr T 11 (K.newName T (K.step T τ))).2) := by
          rw [leaks_leak, a.leak, fresh_leak, take_leak]
          exact lk_front hp _ _ _ a.pos
        have hlt : (R.leaks p (K.sec (K.expr T 11 (K.newName T (K.step T τ))).2) (R.ex T (R.fresh T (R.take T σ))).1).i < T.length := by rw [lc.2.2.1]; exact ok.lt
        have hH : Hs (R.leaks p (K.sec (K.expr T 11 (K.newName T (K.step T τ))).2) (R.ex T (R.fresh T (R.take T σ))).1) hid := hh.next ((lc.1.trans (ok.core.trans fc.1)).trans tc.1)
        generalize R.leaks p (K.sec (K.expr T 11 (K.newName T (K.step T τ))).2) (R.ex T (R.fresh T (R.take T σ))).1 = σ3 at *
        have hN : SameN ⟨R.freshS T (R.take T σ), 3, false, σ.loops, 0⟩ n := by
          rw [hc]
          refine ⟨?_, rfl, (by decide : (0 : Int) ≤ 2), (by decide : (2 : Int) ≤ 2), rfl, rfl⟩
          show R.freshS T (R.take T σ) = (tk T (K.step T τ).i).s
          unfold R.freshS
          rw [if_pos ht.e1, ht.i]
        generalize (⟨R.freshS T (R.take T σ), 3, false, σ.loops, 0⟩ : Thing) = t at *
        generalize K.expr T 11 (K.newName T (K.step T τ)) = E at *
        have hP : Sm (R.push t σ3) (K.seeing n E.1) := ⟨a1.e1, a1.e2, a1.i, a1.nest, by show σ3.loops + 1 = E.1.loops + 1; rw [a1.loops], a1.names.snoc hN⟩
        have hd : (K.seeing n E.1).depth = τ.depth := k2.depth
        have r := hr (R.push t σ3) (K.seeing n E.1) hid hP hH hlt ⟨by rw [hd]; exact d0, by rw [hd]; exact d1, by rw [hd]; exact dg⟩ ⟨by rw [hd]; exact d0, by rw [hd]; exact d1, by rw [hd]; exact df⟩
        have dk := R.does_ok hE g (σ := R.push t σ3) hlt
        have kd := K.dos_keeps T f (K.seeing n E.1)
        unfold K.body
        rcases r with ⟨r1, r2, r3⟩ | r
        · refine Or.inl ⟨⟨r1.e1, r1.e2, r1.i, r1.nest, ?_, ?_⟩, ?_, pos_front hp _ (pos_app a.pos r3)⟩
          · show (R.does T g (R.push t σ3)).1.loops - 1 = (K.dos T f (K.seeing n E.1)).1.loops - 1
            rw [r1.loops]
          · show Names ((R.does T g (R.push t σ3)).1.seen.dropLast) E.1.names
            rw [core_seen dk.core]
            show Names (σ3.seen ++ [t]).dropLast _
            rw [List.dropLast_concat]
            exact a1.names
          · show (R.does T g (R.push t σ3)).1.leak = _
            rw [r2, ← List.append_assoc, mn_app]
            show mn σ3.leak _ = _
            rw [hl3]
        · exact Or.inr ⟨r.e1, r.e2, r.p⟩
      · exact Or.inr (body_dd (dd_leaks a _ _) _ _)
    · exact Or.inr (body_dd (dd_leaks (ex_dead a0) _ _) _ _)
theorem isW_eq {l : List UInt8} {t : Tok} : K.isW l t = true ↔ t.s.toList = l := by unfold K.isW; exact beq_iff_eq
theorem word_eqv {s : ByteArray} {T : List Tok} (hS : Scans s T) (hE : R.Ended T) {g f : Nat} (hr : RecD T g f) {σ : PS} {τ : S} {hid : Bool} (h : Sm σ τ) (hh : Hs σ hid) (hi : σ.i < T.length) (d0 : 0 ≤ τ.depth) (d1 : τ.depth ≤ 10) (dg : 11 - τ.depth ≤ (g : Int)) (df : 11 - τ.depth ≤ (f : Int)) {p : Int} (hp : 0 ≤ p) :
    DA σ (R.doWord T (R.does T g) p (tk T σ.i) (R.take T σ)).s (K.doX T (K.dos T f) p τ).1 (ld hid (K.doX T (K.dos T f) p τ).2) := by
  unfold R.doWord K.doX
  rw [← h.i]
  by_cases e1 : (tk T σ.i).s.toList = R.kSet
  · rw [if_pos e1, if_pos (c := K.isW [115, 101, 116] (tk T σ.i) = true) (isW_eq.mpr e1)]
    exact set_eqv hS hE h hh hi d0 d1 hp
  rw [if_neg e1, if_neg (c := K.isW [115, 101, 116] (tk T σ.i) = true) (fun c => e1 (isW_eq.mp c))]
  by_cases e2 : (tk T σ.i).s.toList = R.kPut
  · rw [if_pos e2, if_pos (c := K.isW [112, 117, 116] (tk T σ.i) = true) (isW_eq.mpr e2)]
    exact put_eqv hS hE h hh hi d0 d1 hp
  rw [if_neg e2, if_neg (c := K.isW [112, 117, 116] (tk T σ.i) = true) (fun c => e2 (isW_eq.mp c))]
  by_cases e3 : (tk T σ.i).s.toList = R.kIf
  · rw [if_pos e3, if_pos (c := K.isW [105, 102] (tk T σ.i) = true) (isW_eq.mpr e3)]
    exact if_eqv hS hE hr h hh hi d0 d1 (by omega) (by omega) p
  rw [if_neg e3, if_neg (c := K.isW [105, 102] (tk T σ.i) = true) (fun c => e3 (isW_eq.mp c))]
  by_cases e4 : (tk T σ.i).s.toList = R.kFor
  · rw [if_pos e4, if_pos (c := K.isW [102, 111, 114] (tk T σ.i) = true) (isW_eq.mpr e4)]
    exact for_eqv hS hE hr h hh hi d0 d1 dg df hp _ rfl
  rw [if_neg e4, if_neg (c := K.isW [102, 111, 114] (tk T σ.i) = true) (fun c => e4 (isW_eq.mp c))]
  right
  unfold K.here
  rw [← h.i]
  exact fail_dd ((rtake_err T σ).trans h.e1) h.e2 (by decide) T _
end Q
end Go.Proofs.YtejbgcloblpbfaaGreatDoor
namespace Go.Proofs.YtejbgcloblpbfaaGreatDoor
open R (Tok tk PS Thing)
open K (S Nm Ex Do Scans)
namespace Q
theorem do_eqv {s : ByteArray} {T : List Tok} (hS : Scans s T) (hE : R.Ended T) {g f : Nat} (hr : RecD T g f) {σ : PS} {τ : S} {hid : Bool} (h : Sm σ τ) (hh : Hs σ hid) (hi : σ.i < T.length) (dg : Lv (g + 1) τ) (df : Lv (f + 1) τ) :
    DA σ (R.doF T (g + 1) σ).1 (K.brkDo T (K.doF T (f + 1)) τ).1 (ld hid (K.brkDo T (K.doF T (f + 1)) τ).2) := by
  show DA σ (R.doB T (R.does T g) σ).1 (K.closed T (K.doX T (K.dos T f) (tk T τ.i).p (K.opened T τ)).1) (ld hid (K.doX T (K.dos T f) (tk T τ.i).p (K.opened T τ)).2)
  unfold R.doB
  rw [← h.i]
  have oc := R.opens_core T σ
  have ti := R.take_i T σ
  obtain ⟨d0, d1, dg⟩ := dg
  obtain ⟨_, _, df⟩ := df
  rcases opens_eqv T h with o | o
  · rw [if_pos o.e1]
    have lg := opens_lv (f := g + 1) o h d0 d1 (by omega)
    have ed := K.opened_depth T τ
    have w := word_eqv hS hE hr o (hh.next oc.1) (by rw [oc.2.2.1]; exact ti.2.2.2 hi) lg.1 lg.2.1 (by omega) (by omega) (pos_tok hS hi)
    rcases shut_da (T := T) w with ⟨w1, w2, w3⟩ | w
    · exact Or.inl ⟨sm_add w1 _, w2.trans (by rw [opens_leak]), w3⟩
    · exact Or.inr (dd_add w _)
  · rw [if_neg o.e1]
    exact Or.inr ((o.next (fun _ => ⟨rfl, rfl⟩) (doX_kd (dos_kd T f) _ _)).next (fun _ => ⟨rfl, rfl⟩) (closed_kd T _))
theorem dosL_pre (T : List Tok) (d : Int → S → S × Do) (m : Nat) : ∀ (τ : S) (l : List Do), ∃ M, (K.dosL T d m τ l).2 = l ++ M := by
  induction m with
  | zero => intro τ l; exact ⟨[], by simp [K.dosL]⟩
  | succ m ih =>
    intro τ l
    rw [K.dosL]
    split
    · obtain ⟨M, e⟩ := ih (K.brkDo T d τ).1 (l ++ [(K.brkDo T d τ).2])
      exact ⟨(K.brkDo T d τ).2 :: M, by rw [e]; simp⟩
    · exact ⟨[], by simp⟩
theorem dosL_eqv {s : ByteArray} {T : List Tok} (hS : Scans s T) (hE : R.Ended T) {g f : Nat} (hr : RecD T g f) {hid : Bool} (m : Nat) : ∀ (σ : PS) (τ : S) (L : List Int) (l : List Do), Sm σ τ → Hs σ hid → σ.i < T.length → Lv (g + 1) τ → Lv (f + 1) τ →
    ∃ M, (K.dosL T (K.doF T (f + 1)) m τ l).2 = l ++ M ∧ DA σ (R.doesL T (R.doF T (g + 1)) m σ L).1 (K.dosL T (K.doF T (f + 1)) m τ l).1 (lds hid M) := by
  induction m with
  | zero => intro σ τ L l h _ _ _ _; exact ⟨[], by simp [K.dosL], Or.inl ⟨h, rfl, fun q hq => by simp [lds] at hq⟩⟩
  | succ m ih =>
    intro σ τ L l h hh hi dg df
    rw [R.doesL, K.dosL, ← h.i]
    by_cases e : (tk T σ.i).s.toList = [40]
    · rw [if_pos (c := σ.err = 0 ∧ (tk T σ.i).s.toList = [40]) ⟨h.e1, e⟩, if_pos (c := K.isW [40] (tk T σ.i) = true) (isW_eq.mpr e)]
      have ok := R.doF_ok hE (g + 1) σ hi
      have kk : K.Keeps τ (K.brkDo T (K.doF T (f + 1)) τ).1 := K.closed_keeps (K.doX_keeps (fun σ => K.dos_keeps T f σ) _ _)
      rcases do_eqv hS hE hr h hh hi dg df with ⟨a1, a2, a3⟩ | a
      · obtain ⟨M, e1, e2⟩ := ih (R.doF T (g + 1) σ).1 (K.brkDo T (K.doF T (f + 1)) τ).1 (L ++ [(R.doF T (g + 1) σ).2]) (l ++ [(K.brkDo T (K.doF T (f + 1)) τ).2]) a1 (hh.next ok.core) ok.lt (by unfold Lv; rw [kk.depth]; exact dg) (by unfold Lv; rw [kk.depth]; exact df)
        refine ⟨(K.brkDo T (K.doF T (f + 1)) τ).2 :: M, by rw [e1]; simp, ?_⟩
        rcases e2 with ⟨b1, b2, b3⟩ | b
        · refine Or.inl ⟨b1, ?_, ?_⟩
          · rw [b2, a2, lds, mn_app]
          · rw [lds]; exact pos_app a3 b3
        · exact Or.inr b
      · obtain ⟨M, e1⟩ := dosL_pre T (K.doF T (f + 1)) m (K.brkDo T (K.doF T (f + 1)) τ).1 (l ++ [(K.brkDo T (K.doF T (f + 1)) τ).2])
        refine ⟨(K.brkDo T (K.doF T (f + 1)) τ).2 :: M, by rw [e1]; simp, Or.inr ?_⟩
        rw [R.doesL_dead _ _ _ _ _ a.e1]
        exact a.next (fun _ => ⟨rfl, rfl⟩) (dosL_kd (doF_kd T (f + 1)) m _ _)
    · rw [if_neg (c := σ.err = 0 ∧ (tk T σ.i).s.toList = [40]) (fun c => e c.2), if_neg (c := K.isW [40] (tk T σ.i) = true) (fun c => e (isW_eq.mp c))]
      exact ⟨[], by simp, Or.inl ⟨h, rfl, fun q hq => by simp [lds] at hq⟩⟩
theorem dos_eqv {s : ByteArray} {T : List Tok} (hS : Scans s T) (hE : R.Ended T) (f : Nat) : ∀ g, RecD T g f := by
  induction f with
  | zero => intro g σ τ hid _ _ _ _ df; obtain ⟨_, _, _⟩ := df; omega
  | succ f ih =>
    intro g σ τ hid h hh hi dg df
    obtain ⟨g, rfl⟩ : ∃ k, g = k + 1 := ⟨g - 1, by obtain ⟨_, _, _⟩ := dg; omega⟩
    obtain ⟨M, e1, e2⟩ := dosL_eqv hS hE (ih g) (hid := hid) T.length σ τ [] [] h hh hi dg df
    show DA σ (R.doesL T (R.doF T (g + 1)) T.length σ []).1 (K.dosL T (K.doF T (f + 1)) T.length τ []).1 (lds hid (K.dosL T (K.doF T (f + 1)) T.length τ []).2)
    rw [e1]
    exact e2
end Q
end Go.Proofs.YtejbgcloblpbfaaGreatDoor
namespace Go.Proofs.YtejbgcloblpbfaaGreatDoor
open R (Tok tk PS Thing)
open K (S Nm Ex Do Scans)
namespace Q
theorem size_val {s : ByteArray} (h : R.isSize s = true) : K.val s = ((R.byteAt s 0).toNat : Int) - 48 := by
  unfold R.isSize at h
  rw [Bool.and_eq_true, decide_eq_true_eq, decide_eq_true_eq] at h
  obtain ⟨h1, h2, h3⟩ := h
  obtain ⟨c, hc, hb⟩ := one_byte h1
  unfold K.val
  rw [hc, hb]
  rw [hb] at h2 h3
  have : c = 49 ∨ c = 50 ∨ c = 51 ∨ c = 52 ∨ c = 53 ∨ c = 54 := by
    have : c.toNat = 49 ∨ c.toNat = 50 ∨ c.toNat = 51 ∨ c.toNat = 52 ∨ c.toNat = 53 ∨ c.toNat = 54 := by omega
    rcases this with e | e | e | e | e | e
    · exact Or.inl (UInt8.toNat_inj.mp e)
    · exact Or.inr (Or.inl (UInt8.toNat_inj.mp e))
    · exact Or.inr (Or.inr (Or.inl (UInt8.toNat_inj.mp e)))
    · exact Or.inr (Or.inr (Or.inr (Or.inl (UInt8.toNat_inj.mp e))))
    · exact Or.inr (Or.inr (Or.inr (Or.inr (Or.inl (UInt8.toNat_inj.mp e)))))
    · exact Or.inr (Or.inr (Or.inr (Or.inr (Or.inr (UInt8.toNat_inj.mp e)))))
  rcases this with e | e | e | e | e | e <;> subst e <;> decide
theorem array_kd (T : List Tok) (τ : S) : KD τ (K.array T τ) := (((step_kd T τ).trans (take_kd T _ _)).trans (newName_kd T _)).trans (take_kd T _ _)
theorem dec0_kd (T : List Tok) (p : Int) (τ : S) : KD τ (K.dec0 T p τ) := by
  unfold K.dec0; split
  · exact fail_kd T _ _ _
  · exact KD.rfl' τ
theorem dec2_kd (T : List Tok) (τ : S) : KD τ (K.dec2 T τ) := (take_kd T _ τ).trans (newName_kd T _)
theorem decl_kd (T : List Tok) (p : Int) (τ : S) : KD τ (K.decl T p τ) := by
  unfold K.decl; split
  · exact (dec0_kd T p τ).trans (array_kd T _)
  · exact (dec0_kd T p τ).trans (dec2_kd T _)
theorem dcl_kd (T : List Tok) (τ : S) : KD τ (K.dcl T τ) := ((opened_kd T τ).trans (decl_kd T _ _)).trans (closed_kd T _)
theorem declsL_kd (T : List Tok) (n : Nat) : ∀ τ, KD τ (K.declsL T n τ) := by
  induction n with
  | zero => intro τ; exact KD.rfl' τ
  | succ n ih =>
    intro τ
    rw [K.declsL]
    split
    · exact (fun e => (dcl_kd T τ).trans (fun e' => ih (K.adds (K.dclN T τ) (K.dcl T τ)) e') e)
    · exact KD.rfl' τ
theorem Names.length {l : List Thing} {m : List Nm} (h : Names l m) : l.length = m.length := h.len
theorem sm_added {A : PS} {B : S} {t : Thing} {n : Nm} (h : Sm A B) (hn : SameN t n) : Sm (R.added t A) (K.adds n B) := ⟨h.e1, h.e2, h.i, h.nest, h.loops, h.names.snoc hn⟩
theorem dd_added {A : PS} {B : S} (t : Thing) (n : Nm) (h : Dd A B) : Dd (R.added t A) (K.adds n B) := ⟨h.e1, h.e2, h.p⟩
theorem dd_adds {A : PS} {B : S} (n : Nm) (h : Dd A B) : Dd A (K.adds n B) := ⟨h.e1, h.e2, h.p⟩
theorem shut_dd {T : List Tok} {A : PS} {B : S} (h : Dd A B) : Dd (R.shut T A) (K.closed T B) := by
  rcases shut_da (T := T) (σ := A) (L := []) (Or.inr h) with s | s
  · exfalso
    have e := s.1.e2
    have k := closed_kd T B (by rw [h.e2]; exact h.e1)
    rw [k.1, h.e2] at e
    exact h.e1 e
  · exact s
theorem fresh_dd {T : List Tok} {A : PS} {B : S} (h : Dd A B) : Dd (R.fresh T A) (K.newName T B) := by
  have e : R.fresh T A = A := by unfold R.fresh; rw [if_neg h.e1]
  rw [e]
  exact h.next (fun _ => ⟨rfl, rfl⟩) (newName_kd T B)
theorem dword_eqv {T : List Tok} {σ : PS} {τ : S} (h : Sm σ τ) (ha : ¬ (tk T σ.i).s.toList = R.kArray) (hd : R.isDecl (tk T σ.i).s.toList = true) (n : Nm) (hn : n = ⟨(tk T (K.dec1 T τ).i).s, 0, (tk T τ.i).s.toList == [115, 101, 99, 114, 101, 116], 1, τ.words⟩) :
    (Sm (R.declIn T σ) (K.adds n (K.closed T (K.dec2 T τ))) ∧ (R.declIn T σ).leak = σ.leak) ∨ Dd (R.declIn T σ) (K.adds n (K.closed T (K.dec2 T τ))) := by
  have ht := take_sm T h
  have e1 : K.dec1 T τ = K.step T τ := by
    unfold K.dec1
    refine take_yes ?_
    rw [← h.i]
    unfold R.isDecl at hd
    unfold K.isSec
    have : ((tk T σ.i).s.toList == R.kArray) = false := beq_no ha
    rw [this, Bool.or_false] at hd
    exact hd
  unfold R.declIn R.dHead
  rw [if_neg ha]
  dsimp only
  unfold R.dSize
  rw [if_neg (c := (1 : Int) = 2 ∧ _) (fun c => absurd c.1 (by decide))]
  dsimp only
  unfold K.dec2
  rw [e1]
  rw [e1] at hn
  rcases fresh_eqv T ht with a | a
  · rcases shut_eqv T (Or.inl a) with b | b
    · refine Or.inl ⟨sm_added b ?_, ?_⟩
      · rw [hn]
        refine ⟨?_, rfl, (by decide : (0 : Int) ≤ 0), (by decide : (0 : Int) ≤ 2), ?_, rfl⟩
        · show R.freshS T (R.take T σ) = (tk T (K.step T τ).i).s
          unfold R.freshS
          rw [if_pos ht.e1, ht.i]
        · show ((tk T σ.i).s.toList == R.kSecret) = _
          rw [h.i]; rfl
      · show (R.shut T (R.fresh T (R.take T σ))).leak = _
        rw [shut_leak, fresh_leak, take_leak]
    · exact Or.inr (dd_added _ _ b)
  · exact Or.inr (dd_added _ _ (shut_dd a))
theorem darr_eqv {T : List Tok} {σ : PS} {τ : S} (h : Sm σ τ) (ha : (tk T σ.i).s.toList = R.kArray) :
    (Sm (R.declIn T σ) (K.adds (K.arrayN T τ) (K.closed T (K.array T τ))) ∧ (R.declIn T σ).leak = σ.leak) ∨ Dd (R.declIn T σ) (K.adds (K.arrayN T τ) (K.closed T (K.array T τ))) := by
  have ht := take_sm T h
  unfold R.declIn R.dHead
  rw [if_pos ha]
  dsimp only
  have hi1 : (R.take T σ).i = (K.arrS1 T τ).i := ht.i
  by_cases e1 : (tk T (R.take T σ).i).s.toList = R.kPublic ∨ (tk T (R.take T σ).i).s.toList = R.kSecret
  · rw [if_pos e1]
    have s2 : K.arrS2 T τ = K.step T (K.step T τ) := by
      unfold K.arrS2
      refine take_yes ?_
      rw [← hi1]
      unfold K.isSec
      rw [Bool.or_eq_true, beq_iff_eq, beq_iff_eq]
      exact e1
    have h2 : Sm (R.take T (R.take T σ)) (K.arrS2 T τ) := by rw [s2]; exact take_sm T ht
    rcases fresh_eqv T h2 with a | a
    · have a' : Sm (R.fresh T (R.take T (R.take T σ))) (K.arrS3 T τ) := a
      unfold R.dSize
      rw [if_pos (c := (2 : Int) = 2 ∧ _) ⟨rfl, a'.e1⟩]
      by_cases e2 : R.isSize (tk T (R.fresh T (R.take T (R.take T σ))).i).s = true
      · rw [if_pos e2]
        dsimp only
        have e3 : K.array T τ = K.step T (K.arrS3 T τ) := by
          unfold K.array
          exact take_yes (by rw [← a'.i]; exact e2)
        rw [e3]
        rcases shut_eqv T (Or.inl (take_sm T a')) with b | b
        · refine Or.inl ⟨sm_added b ?_, ?_⟩
          · refine ⟨?_, rfl, (by decide : (0 : Int) ≤ 1), (by decide : (1 : Int) ≤ 2), ?_, ?_⟩
            · show R.freshS T (R.take T (R.take T σ)) = (tk T (K.arrS2 T τ).i).s
              unfold R.freshS
              rw [if_pos h2.e1, h2.i]
            · show ((tk T (R.take T σ).i).s.toList == R.kSecret) = _
              rw [hi1]; rfl
            · show _ = K.val (tk T (K.arrS3 T τ).i).s
              rw [← a'.i, size_val e2]
          · show (R.shut T (R.take T (R.fresh T (R.take T (R.take T σ))))).leak = _
            rw [shut_leak, take_leak, fresh_leak, take_leak, take_leak]
        · exact Or.inr (dd_added _ _ b)
      · rw [if_neg e2]
        dsimp only
        right
        have d : Dd (R.fail 2 (tk T (R.fresh T (R.take T (R.take T σ))).i).p (R.take T (R.fresh T (R.take T (R.take T σ))))) (K.array T τ) := by
          unfold K.array
          rw [take_no (by rw [← a'.i]; exact e2), a'.i]
          exact fail_dd ((rtake_err T _).trans a'.e1) a'.e2 (by decide) T _
        exact dd_adds _ (d.next (fun _ => ⟨rfl, rfl⟩) (closed_kd T _))
    · right
      unfold R.dSize
      rw [if_neg (c := (2 : Int) = 2 ∧ _) (fun c => a.e1 c.2)]
      dsimp only
      exact dd_added _ _ (shut_dd (a.next (fun _ => ⟨rfl, rfl⟩) (take_kd T _ _)))
  · rw [if_neg e1]
    right
    have d : Dd (R.fail 2 (tk T (R.take T σ).i).p (R.take T (R.take T σ))) (K.arrS2 T τ) := by
      unfold K.arrS2
      rw [take_no (by
        rw [← hi1]
        unfold K.isSec
        rw [Bool.or_eq_true, beq_iff_eq, beq_iff_eq]
        exact e1), hi1]
      exact fail_dd ((rtake_err T _).trans ht.e1) ht.e2 (by decide) T _
    have a := fresh_dd (T := T) d
    unfold R.dSize
    rw [if_neg (c := (2 : Int) = 2 ∧ _) (fun c => a.e1 c.2)]
    dsimp only
    exact dd_added _ _ (shut_dd (a.next (fun _ => ⟨rfl, rfl⟩) (take_kd T _ _)))
end Q
end Go.Proofs.YtejbgcloblpbfaaGreatDoor
namespace Go.Proofs.YtejbgcloblpbfaaGreatDoor
open R (Tok tk PS Thing)
open K (S Nm Ex Do Scans)
namespace Q
theorem decl_eqv {T : List Tok} (hE : R.Ended T) {k : Nat} {σ : PS} {τ : S} (h : Sm σ τ) (hb : R.DB k σ) (hi : σ.i < T.length) (e40 : (tk T σ.i).s.toList = [40]) (hd : R.isDecl (tk T (σ.i + 1)).s.toList = true) :
    (Sm (R.decl T σ) (K.adds (K.dclN T τ) (K.dcl T τ)) ∧ (R.decl T σ).leak = σ.leak) ∨ Dd (R.decl T σ) (K.adds (K.dclN T τ) (K.dcl T τ)) := by
  have oc := R.opens_core T σ
  have hil : σ.i + 1 < T.length := R.ended_lt hE hi (R.ne_of_list e40 (by decide))
  have ei : (R.opens T σ).i = σ.i + 1 := by rw [oc.2.2.1]; exact (R.take_i T σ).2.2.1 hil
  unfold R.decl K.dcl K.dclN
  rw [← h.i]
  rcases opens_eqv T h with o | o
  · have hn : (R.opens T σ).names = σ.names := congrArg (fun c => c.2.1) oc.1
    have hk : ((K.opened T τ).names.length : Int) = σ.names := by
      rw [← o.names.len, core_seen oc.1, hb.seen, hb.names]
    by_cases e8 : (R.opens T σ).names = 8
    · right
      rw [if_pos e8]
      have h8 : (K.opened T τ).names.length = 8 := by omega
      refine dd_adds _ ?_
      have d : Dd (R.fail 5 (tk T σ.i).p (R.opens T σ)) (K.dec0 T (tk T σ.i).p (K.opened T τ)) := by
        unfold K.dec0
        rw [if_pos h8]
        exact fail_dd o.e1 o.e2 (by decide) T _
      have d2 : KD (K.dec0 T (tk T σ.i).p (K.opened T τ)) (K.decl T (tk T σ.i).p (K.opened T τ)) := by
        unfold K.decl; split
        · exact array_kd T _
        · exact dec2_kd T _
      exact (d.next (fun _ => ⟨rfl, rfl⟩) d2).next (fun _ => ⟨rfl, rfl⟩) (closed_kd T _)
    · rw [if_neg e8]
      have h8 : ¬ (K.opened T τ).names.length = 8 := by omega
      have e0 : K.dec0 T (tk T σ.i).p (K.opened T τ) = K.opened T τ := by unfold K.dec0; rw [if_neg h8]
      unfold K.decl K.declN
      rw [e0, ← o.i]
      have ol := opens_leak T σ
      by_cases ha : (tk T (R.opens T σ).i).s.toList = R.kArray
      · have ha' : K.isArr (tk T (R.opens T σ).i) = true := by unfold K.isArr; exact beq_iff_eq.mpr ha
        rw [if_pos ha', if_pos ha']
        have r := darr_eqv o ha
        rw [ol] at r
        exact r
      · have ha' : ¬ K.isArr (tk T (R.opens T σ).i) = true := by unfold K.isArr; exact fun c => ha (beq_iff_eq.mp c)
        rw [if_neg ha', if_neg ha']
        have r := dword_eqv o ha (by rw [ei]; exact hd) ⟨(tk T (K.dec1 T (K.opened T τ)).i).s, 0, (tk T (K.opened T τ).i).s.toList == [115, 101, 99, 114, 101, 116], 1, (K.opened T τ).words⟩ rfl
        rw [ol, ← o.i] at r
        exact r
  · exfalso
    have hn : σ.nest = 0 := hb.nest
    have e : (R.opens T σ).err = 0 := by
      unfold R.opens R.open1 R.want
      rw [if_pos e40]
      rw [hn, if_neg (by decide)]
      exact (rtake_err T σ).trans h.e1
    exact o.e1 e
theorem decls_eqv {T : List Tok} (hE : R.Ended T) (n : Nat) : ∀ (m k : Nat) (σ : PS) (τ : S), Sm σ τ → R.DB k σ → k + m = 9 → k ≤ 8 → σ.i < T.length → T.length - σ.i ≤ n → σ.leak = -1 →
    (Sm (R.decls T m σ) (K.declsL T n τ) ∧ (R.decls T m σ).leak = -1 ∧ (∃ k, R.DB k (R.decls T m σ)) ∧ (R.decls T m σ).i < T.length) ∨ Dd (R.decls T m σ) (K.declsL T n τ) := by
  induction n with
  | zero => intro m k σ τ _ _ _ _ hi hn _; omega
  | succ n ih =>
    intro m k σ τ h hb hk h8 hi hn hl
    obtain ⟨m, rfl⟩ : ∃ j, m = j + 1 := ⟨m - 1, by omega⟩
    rw [R.decls, K.declsL]
    by_cases e40 : (tk T σ.i).s.toList = [40]
    · have hil : σ.i + 1 < T.length := R.ended_lt hE hi (R.ne_of_list e40 (by decide))
      have hnx : K.nx T τ.i = σ.i + 1 := by unfold K.nx; rw [← h.i, if_pos hil]
      by_cases ed : R.isDecl (tk T (σ.i + 1)).s.toList = true
      · have ek : K.isDcl T τ = true := by
          unfold K.isDcl
          rw [hnx, ed, ← h.i, isW_eq.mpr e40]
          rfl
        rw [if_pos (c := σ.err = 0 ∧ _) ⟨h.e1, e40, ed⟩, if_pos ek]
        have ov : τ.i + 1 ≤ (K.dcl T τ).i := K.dcl_over (by rw [← h.i]; exact hil) (by rw [← h.i]; exact isW_eq.mpr e40)
        rcases decl_eqv hE h hb hi e40 ed with ⟨a1, a2⟩ | a
        · obtain ⟨b1, b2⟩ := R.decl_db hb h8 a1.e1
          have ai : (R.decl T σ).i = (K.dcl T τ).i := a1.i
          have fw : (K.dcl T τ).i < T.length := (((K.opened_fwd T τ).trans ((K.decl_fwd T _ _).trans (K.closed_fwd T _))) (by rw [← h.i]; exact hi)).2
          have hi' := h.i
          exact ih m (k + 1) (R.decl T σ) _ a1 b2 (by omega) (by omega) (by omega) (by omega) (a2.trans hl)
        · right
          have : R.decls T m (R.decl T σ) = R.decl T σ := R.decls_stop (fun c => a.e1 c.1)
          rw [this]
          exact a.next (fun _ => ⟨rfl, rfl⟩) (declsL_kd T n _)
      · have ek : ¬ K.isDcl T τ = true := by
          unfold K.isDcl
          rw [hnx]
          intro c
          rw [Bool.and_eq_true] at c
          exact ed c.2
        rw [if_neg (c := σ.err = 0 ∧ _) (fun c => ed c.2.2), if_neg ek]
        exact Or.inl ⟨h, hl, ⟨k, hb⟩, hi⟩
    · have ek : ¬ K.isDcl T τ = true := by
        unfold K.isDcl
        intro c
        rw [Bool.and_eq_true, ← h.i] at c
        exact e40 (isW_eq.mp c.1)
      rw [if_neg (c := σ.err = 0 ∧ _) (fun c => e40 c.2.1), if_neg ek]
      exact Or.inl ⟨h, hl, ⟨k, hb⟩, hi⟩
end Q
end Go.Proofs.YtejbgcloblpbfaaGreatDoor
