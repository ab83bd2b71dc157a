import Derived.Test.YtejbgcloblpbfaaGreatDoorB25
import Derived.Test.YtejbgcloblpbfaaGreatDoorB26
import Derived.Test.YtejbgcloblpbfaaGreatDoorB29
namespace Go.Proofs.YtejbgcloblpbfaaGreatDoor
open K (Nm Ex Do)
theorem gd_put (p : Int) (n : Nm) (i e : Ex) (hgi : K.good i = true) (hg : K.good e = true) : GdDoes (.put p n i e) := by
  cases hq : K.sec i with
  | true => exact gd_putT p n i e hgi hg hq
  | false => exact gd_putF p n i e hgi hg hq
end Go.Proofs.YtejbgcloblpbfaaGreatDoor
namespace Go.Proofs.YtejbgcloblpbfaaGreatDoor
open Go.RowKit
open R (Tok tk)
open K (Nm S Scans Ex Do)
def K.checkT (T : List Tok) : Int × Int := if (K.progS T).err = 0 then (if (K.found T).2 = true then (7, (K.found T).1) else (0, 0)) else ((K.progS T).err, (K.progS T).eat)
def K.check (s : ByteArray) : Int × Int := if 800 < s.size then (1, 0) else K.checkT (R.toks s)
set_option maxHeartbeats 400000 in
theorem check_c (hGd : ∀ l, K.goodL l = true → GdsDoes l) (s : ByteArray) (w : World) (hm : s.size ≤ maxLen) (hv : K.Vars w) (hw : 5 ≤ w.heap.size) :
    Calls Tryz.prog 14 #[.string s] w fun x w' => x = .returned (.tuple #[.int .i64 (K.check s).1, .int .i64 (K.check s).2]) ∧ Below w.heap.size w w' := by
  by_cases hs : 800 < s.size
  · have hr := mread_long s w hs hm
    have e : K.check s = (1, 0) := by unfold K.check; rw [if_pos hs]
    rw [e]
    unfold zeroP at hr
    go_enter Tryz.func14, Tryz.ntmps14
    go_wp2_with fail
    refine hr.mono ?_
    rintro x w1 ⟨rfl, hb⟩
    go_wp2_with fail
    go_ret2
    exact ⟨rfl, hb.alloc hb.size _⟩
  · have hr := mread_c hGd s w (by omega) hv hw
    have HE : Hid (K.check s = K.checkT (R.toks s)) := by show _ = _; unfold K.check; rw [if_neg hs]
    generalize R.toks s = T at *
    unfold Readed at hr
    obtain ⟨C, HC⟩ : ∃ C, Hid (K.check s = C) := ⟨_, rfl⟩
    rw [HC.out]
    have HT : Hid (C = if (K.progS T).err = 0 then (if (K.found T).2 = true then (7, (K.found T).1) else (0, 0)) else ((K.progS T).err, (K.progS T).eat)) := by show _ = _; rw [← HC.out, HE.out]; rfl
    generalize K.progS T = σF at *
    generalize K.found T = FD at *
    go_enter Tryz.func14, Tryz.ntmps14
    go_wp2_with fail
    refine hr.mono ?_
    rintro x w1 ⟨hx, hb⟩
    rcases hx with ⟨he, rfl⟩ | ⟨he, hf, rfl⟩ | ⟨he, hf, nv, dv, us, rfl, nr, dr, de⟩
    · have e : C = (σF.err, σF.eat) := by rw [HT.out, if_neg he]
      subst e
      unfold zeroP
      go_wp2_with fail
      go_ret2
      exact ⟨rfl, hb.alloc hb.size _⟩
    · have e : C = (7, FD.1) := by rw [HT.out, if_pos he, if_pos hf]
      subst e
      unfold zeroP
      go_wp2_with fail
      go_ret2
      exact ⟨rfl, hb.alloc hb.size _⟩
    · have e : C = (0, 0) := by rw [HT.out, if_pos he, if_neg (by rw [hf]; decide)]
      subst e
      obtain ⟨na, nc, nk, hnv⟩ := row_slc nr
      obtain ⟨da, dn, dc, hdv⟩ := dr.form
      subst hnv hdv
      go_wp2_with fail
      go_ret2
      exact ⟨rfl, hb.alloc hb.size _⟩
end Go.Proofs.YtejbgcloblpbfaaGreatDoor
namespace Go.Proofs.YtejbgcloblpbfaaGreatDoor
open R (Tok tk PS Thing)
open K (S Nm)
namespace Q
structure SameN (t : Thing) (n : Nm) : Prop where
  name : t.name = n.text
  kind : t.kind = n.kind + 1
  k0 : 0 ≤ n.kind
  k2 : n.kind ≤ 2
  sec : t.sec = n.sec
  size : t.size = n.size
def Names : List Thing → List Nm → Prop
  | [], [] => True
  | t :: l, n :: m => SameN t n ∧ Names l m
  | _, _ => False
structure Sm (σ : PS) (τ : S) : Prop where
  e1 : σ.err = 0
  e2 : τ.err = 0
  i : σ.i = τ.i
  nest : σ.nest = τ.depth
  loops : σ.loops = τ.loops
  names : Names σ.seen τ.names
structure Dd (σ : PS) (τ : S) : Prop where
  e1 : σ.err ≠ 0
  e2 : τ.err = σ.err
  p : τ.eat = σ.place
def Eqv (σ : PS) (τ : S) : Prop := Sm σ τ ∨ Dd σ τ
def KD (τ τ' : S) : Prop := τ.err ≠ 0 → τ'.err = τ.err ∧ τ'.eat = τ.eat
theorem KD.rfl' (τ : S) : KD τ τ := fun _ => ⟨rfl, rfl⟩
theorem KD.trans {a b c : S} (h : KD a b) (k : KD b c) : KD a c := fun e => by
  have h1 := h e
  have h2 := k (by rw [h1.1]; exact e)
  exact ⟨h2.1.trans h1.1, h2.2.trans h1.2⟩
theorem step_kd (T : List Tok) (τ : S) : KD τ (K.step T τ) := fun _ => ⟨rfl, rfl⟩
theorem fail_kd (T : List Tok) (e p : Int) (τ : S) : KD τ (K.fail T e p τ) := fun h => by unfold K.fail; rw [if_neg h]; exact ⟨rfl, rfl⟩
theorem take_kd (T : List Tok) (f : ByteArray → Bool) (τ : S) : KD τ (K.take T f τ) := by
  unfold K.take; split
  · exact step_kd T τ
  · exact fail_kd T _ _ _
theorem known_kd (T : List Tok) (f : Nm → Bool) (τ : S) : KD τ (K.known T f τ) := by
  unfold K.known; split
  · exact take_kd T _ τ
  · exact (take_kd T _ τ).trans (fail_kd T _ _ _)
theorem newName_kd (T : List Tok) (τ : S) : KD τ (K.newName T τ) := by
  unfold K.newName; split
  · exact (take_kd T _ τ).trans (fail_kd T _ _ _)
  · exact take_kd T _ τ
theorem deeper_kd (d : Int) (τ : S) : KD τ (K.deeper d τ) := fun _ => ⟨rfl, rfl⟩
theorem opened_kd (T : List Tok) (τ : S) : KD τ (K.opened T τ) := by
  unfold K.opened K.op2; split
  · exact ((take_kd T _ τ).trans (fail_kd T _ _ _)).trans (deeper_kd _ _)
  · exact (take_kd T _ τ).trans (deeper_kd _ _)
theorem closed_kd (T : List Tok) (τ : S) : KD τ (K.closed T τ) := (take_kd T _ τ).trans (deeper_kd _ _)
theorem comp_kd {T : List Tok} {ex : S → S × K.Ex} (h : ∀ τ, KD τ (ex τ).1) (p : Int) (τ : S) : KD τ (K.comp T ex p τ).1 := by
  unfold K.comp
  split
  · exact ((step_kd T τ).trans (known_kd T _ _)).trans (h _)
  · split
    · exact (((step_kd T τ).trans (h _)).trans (h _)).trans (h _)
    · split
      · exact ((take_kd T _ τ).trans (h _)).trans (h _)
      · exact fail_kd T _ _ _
theorem expr_kd (T : List Tok) (f : Nat) : ∀ τ, KD τ (K.expr T f τ).1 := by
  induction f with
  | zero => intro τ; exact KD.rfl' τ
  | succ f ih =>
    intro τ
    rw [K.expr]
    unfold K.exB
    split
    · exact ((opened_kd T τ).trans (comp_kd ih _ _)).trans (closed_kd T _)
    · split
      · exact take_kd T _ τ
      · exact known_kd T _ τ
def RD (σ σ' : PS) : Prop := σ.err ≠ 0 → σ'.err = σ.err ∧ σ'.place = σ.place
theorem Dd.next {σ σ' : PS} {τ τ' : S} (h : Dd σ τ) (r : RD σ σ') (k : KD τ τ') : Dd σ' τ' := by
  have h1 := r h.e1
  have h2 := k (by rw [h.e2]; exact h.e1)
  exact ⟨by rw [h1.1]; exact h.e1, by rw [h2.1, h1.1]; exact h.e2, by rw [h2.2, h1.2]; exact h.p⟩
theorem rfail_d (e p : Int) (σ : PS) : RD σ (R.fail e p σ) := fun h => by unfold R.fail; rw [if_neg h]; exact ⟨rfl, rfl⟩
theorem rtake_d (T : List Tok) (σ : PS) : RD σ (R.take T σ) := fun _ => by unfold R.take; split <;> exact ⟨rfl, rfl⟩
theorem RD.trans {a b c : PS} (h : RD a b) (k : RD b c) : RD a c := fun e => by
  have h1 := h e
  have h2 := k (by rw [h1.1]; exact e)
  exact ⟨h2.1.trans h1.1, h2.2.trans h1.2⟩
theorem rwant_d (T : List Tok) (l : List UInt8) (σ : PS) : RD σ (R.want T l σ) := by
  unfold R.want; split
  · exact rtake_d T σ
  · exact (rtake_d T σ).trans (rfail_d _ _ _)
theorem fail_dd {σ : PS} {τ : S} (h1 : σ.err = 0) (h2 : τ.err = 0) {e : Int} (he : e ≠ 0) (T : List Tok) (p : Int) : Dd (R.fail e p σ) (K.fail T e p τ) := by
  unfold R.fail K.fail
  rw [if_pos h1, if_pos h2]
  exact ⟨he, rfl, rfl⟩
theorem take_sm (T : List Tok) {σ : PS} {τ : S} (h : Sm σ τ) : Sm (R.take T σ) (K.step T τ) := by
  have hi := h.i
  unfold R.take
  by_cases hl : σ.i + 1 < T.length
  · rw [if_pos hl]
    refine ⟨h.e1, h.e2, ?_, h.nest, h.loops, h.names⟩
    show σ.i + 1 = K.nx T τ.i
    unfold K.nx
    rw [if_pos (by omega), hi]
  · rw [if_neg hl]
    refine ⟨h.e1, h.e2, ?_, h.nest, h.loops, h.names⟩
    show σ.i = K.nx T τ.i
    unfold K.nx
    rw [if_neg (by omega), hi]
theorem rtake_err (T : List Tok) (σ : PS) : (R.take T σ).err = σ.err := (R.take_core T σ).2.2.1
theorem want_eqv (T : List Tok) (l : List UInt8) {σ : PS} {τ : S} (h : Sm σ τ) : Eqv (R.want T l σ) (K.expect T l τ) := by
  unfold R.want K.expect K.take K.isIt
  rw [← h.i]
  by_cases e : (tk T σ.i).s.toList = l
  · rw [if_pos e, if_pos (by rw [e]; simp)]
    exact Or.inl (take_sm T h)
  · rw [if_neg e, if_neg (by simpa using e)]
    unfold K.here
    rw [← h.i]
    exact Or.inr (fail_dd ((rtake_err T σ).trans h.e1) h.e2 (by decide) T _)
theorem opens_eqv (T : List Tok) {σ : PS} {τ : S} (h : Sm σ τ) : Eqv (R.opens T σ) (K.opened T τ) := by
  have hw := want_eqv T [40] h
  have n1 := (R.want_core T [40] σ).2.2.2
  have n2 : (K.op1 T τ).depth = τ.depth := (K.op1_keeps T τ).depth
  have hE : K.expect T [40] τ = K.op1 T τ := rfl
  rw [hE] at hw
  unfold R.opens R.open1 K.opened K.op2
  rw [← h.i]
  by_cases hn : σ.nest = 10
  · rw [if_pos hn, if_pos (by rw [n2, ← h.nest]; exact hn)]
    rcases hw with hw | hw
    · have := fail_dd hw.e1 hw.e2 (e := 6) (by decide) T (tk T σ.i).p
      exact Or.inr ⟨this.e1, this.e2, this.p⟩
    · have := hw.next (rfail_d 6 (tk T σ.i).p _) (fail_kd T 6 (tk T σ.i).p _)
      exact Or.inr ⟨this.e1, this.e2, this.p⟩
  · rw [if_neg hn, if_neg (by rw [n2, ← h.nest]; exact hn)]
    rcases hw with hw | hw
    · refine Or.inl ⟨hw.e1, hw.e2, hw.i, ?_, hw.loops, hw.names⟩
      show (R.want T [40] σ).nest + 1 = (K.op1 T τ).depth + 1
      rw [hw.nest]
    · exact Or.inr ⟨hw.e1, hw.e2, hw.p⟩
theorem shut_eqv (T : List Tok) {σ : PS} {τ : S} (h : Eqv σ τ) : Eqv (R.shut T σ) (K.closed T τ) := by
  rcases h with h | h
  · have hw := want_eqv T [41] h
    have hE : K.expect T [41] τ = K.cl1 T τ := rfl
    rw [hE] at hw
    unfold R.shut K.closed
    rw [if_pos h.e1]
    rcases hw with hw | hw
    · refine Or.inl ⟨hw.e1, hw.e2, hw.i, ?_, hw.loops, hw.names⟩
      show (R.want T [41] σ).nest - 1 = (K.cl1 T τ).depth + -1
      rw [hw.nest]; omega
    · exact Or.inr ⟨hw.e1, hw.e2, hw.p⟩
  · have k := closed_kd T τ
    unfold R.shut
    rw [if_neg h.e1]
    have := h.next (σ' := σ) (fun _ => ⟨rfl, rfl⟩) k
    exact Or.inr ⟨this.e1, this.e2, this.p⟩
end Q
end Go.Proofs.YtejbgcloblpbfaaGreatDoor
