import Derived.Test.YtejbgcloblpbfaaGreatDoorR35
import Derived.Test.YtejbgcloblpbfaaGreatDoorR31
namespace Go.Proofs.YtejbgcloblpbfaaGreatDoor
open R (Tok tk PS Thing)
open K (S Nm Ex Do Scans)
namespace Q
def early (T : List Tok) : PS := R.behind T (R.done (R.does T 12 (R.decls T 9 R.start)).2 (R.does T 12 (R.decls T 9 R.start)).1)
theorem start_sm : Sm R.start K.start := ⟨rfl, rfl, rfl, rfl, rfl, trivial⟩
theorem prog_eqv {s : ByteArray} {T : List Tok} (hS : Scans s T) (hE : R.Ended T) (h0 : 0 < T.length) :
    (Sm (early T) (K.progS T) ∧ (early T).leak = mn (-1) (lds false (K.progD T)) ∧ ∀ q ∈ lds false (K.progD T), 0 ≤ q) ∨ Dd (early T) (K.progS T) := by
  unfold early K.progS K.progD K.prog0
  have hd := decls_eqv hE T.length 9 0 R.start K.start start_sm R.start_db (by omega) (by omega) h0 (by omega) rfl
  generalize R.decls T 9 R.start = A at *
  generalize K.declsL T T.length K.start = B at *
  have fin : ∀ {A : PS} {B : S} {L : List Int} (l : List Int), (Sm A B ∧ A.leak = mn (-1) L ∧ ∀ q ∈ L, 0 ≤ q) ∨ Dd A B → (Sm (R.behind T (R.done l A)) (K.expect T [] B) ∧ (R.behind T (R.done l A)).leak = mn (-1) L ∧ ∀ q ∈ L, 0 ≤ q) ∨ Dd (R.behind T (R.done l A)) (K.expect T [] B) := by
    intro A B L l h
    rcases h with ⟨h1, h2, h3⟩ | h
    · have h1' : Sm (R.done l A) B := ⟨h1.e1, h1.e2, h1.i, h1.nest, h1.loops, h1.names⟩
      have e : R.behind T (R.done l A) = R.want T [] (R.done l A) := by unfold R.behind; rw [if_pos h1'.e1]
      rw [e]
      rcases want_eqv T [] h1' with w | w
      · exact Or.inl ⟨w, by rw [want_leak]; exact h2, h3⟩
      · exact Or.inr w
    · have h' : Dd (R.done l A) B := ⟨h.e1, h.e2, h.p⟩
      have e : R.behind T (R.done l A) = R.done l A := by unfold R.behind; rw [if_neg h'.e1]
      rw [e]
      exact Or.inr (h'.next (fun _ => ⟨rfl, rfl⟩) (take_kd T _ _))
  rcases hd with ⟨d1, d2, ⟨k, d3⟩, d4⟩ | d
  · have e0 : B.depth = 0 := by rw [← d1.nest]; exact d3.nest
    have hH : Hs A false := ⟨by rw [d3.rest.2]; decide, by rw [d3.rest.2]; decide⟩
    have r := dos_eqv hS hE 11 12 A B false d1 hH d4 ⟨by omega, by omega, by omega⟩ ⟨by omega, by omega, by omega⟩
    unfold DA at r
    rw [d2] at r
    exact fin _ r
  · refine fin (L := lds false (K.dos T 11 B).2) _ (Or.inr ?_)
    rw [R.does_dead T 12 d.e1]
    exact d.next (fun _ => ⟨rfl, rfl⟩) (dos_kd T 11 B)
theorem readT_early (T : List Tok) : R.readT T = R.last (early T) := rfl
def fst (L : List Int) (g : K.GS) : K.GS := if g.2 = true then g else match L with | [] => g | p :: _ => (p, true)
theorem fst_app (L M : List Int) (g : K.GS) : fst (L ++ M) g = fst M (fst L g) := by
  obtain ⟨p, b⟩ := g
  cases b with
  | true => rfl
  | false => cases L with
    | nil => rfl
    | cons a L => rfl
end Q
end Go.Proofs.YtejbgcloblpbfaaGreatDoor
namespace Go.Proofs.YtejbgcloblpbfaaGreatDoor
open R (Tok tk PS Thing)
open K (S Nm Ex Do Scans)
namespace Q
theorem fst_nil (g : K.GS) : fst [] g = g := by unfold fst; split <;> rfl
theorem note_fst (p : Int) (b : Bool) (g : K.GS) : K.note p b g = fst (if b = true then [p] else []) g := by
  obtain ⟨q, c⟩ := g
  cases b <;> cases c <;> rfl
theorem gx_fst : ∀ (e : Ex) (g : K.GS), K.gx e g = fst (lx e) g
  | .get p n e, g => by rw [K.gx, lx, fst_app, gx_fst e, note_fst]
  | .op p o l r, g => by rw [K.gx, lx, fst_app, fst_app, gx_fst r, gx_fst l, note_fst]
  | .cho p q y n, g => by rw [K.gx, lx, fst_app, fst_app, gx_fst n, gx_fst y, gx_fst q]
  | .num .., g => (fst_nil g).symm
  | .use .., g => (fst_nil g).symm
  | .none, g => (fst_nil g).symm
mutual
theorem gd_fst (hid : Bool) : ∀ (d : Do) (g : K.GS), K.gd hid d g = fst (ld hid d) g
  | .set p n e, g => by rw [K.gd, ld, fst_app, gx_fst, note_fst]
  | .put p n i e, g => by rw [K.gd, ld, fst_app, fst_app, gx_fst, gx_fst, note_fst]
  | .ifs p q y n, g => by rw [K.gd, ld, fst_app, fst_app, gds_fst _ n, gds_fst _ y, gx_fst]
  | .fors p m r l, g => by rw [K.gd, ld, fst_app, fst_app, gds_fst _ l, gx_fst, note_fst]
  | .none, g => by rw [K.gd, ld, fst_nil]
theorem gds_fst (hid : Bool) : ∀ (l : List Do) (g : K.GS), K.gds hid l g = fst (lds hid l) g
  | [], g => by rw [K.gds, lds, fst_nil]
  | d :: l, g => by rw [K.gds, lds, fst_app, gds_fst hid l, gd_fst hid d]
end
theorem mn_first : ∀ (L : List Int) (p : Int), 0 ≤ p → (∀ q ∈ L, p ≤ q) → mn p L = p
  | [], _, _, _ => rfl
  | q :: L, p, hp, h => by
    show mn (lk p q) L = p
    have : lk p q = p := by
      have := h q List.mem_cons_self
      unfold lk
      rw [if_neg (by omega)]
    rw [this]
    exact mn_first L p hp (fun r hr => h r (List.mem_cons_of_mem _ hr))
end Q
end Go.Proofs.YtejbgcloblpbfaaGreatDoor
namespace Go.Proofs.YtejbgcloblpbfaaGreatDoor
open R (Tok tk PS Thing)
open K (S Nm Ex Do Scans)
namespace Q
def Grow (T : List Tok) : Prop := ∀ i j, i ≤ j → j < T.length → (tk T i).p ≤ (tk T j).p
structure Rg (T : List Tok) (i j : Nat) (L : List Int) : Prop where
  le : i ≤ j
  lt : j < T.length
  all : ∀ q ∈ L, (tk T i).p ≤ q ∧ q ≤ (tk T j).p
  fst : ∀ p M, L = p :: M → ∀ q ∈ M, p ≤ q
theorem Rg.nil {T : List Tok} {i j : Nat} (h : i ≤ j ∧ j < T.length) : Rg T i j [] := ⟨h.1, h.2, fun q hq => by simp at hq, fun p M e => by simp at e⟩
theorem Rg.one {T : List Tok} {i : Nat} (h : i < T.length) (b : Bool) : Rg T i i (if b = true then [(tk T i).p] else []) := by
  cases b with
  | false => exact Rg.nil ⟨Nat.le_refl _, h⟩
  | true =>
    refine ⟨Nat.le_refl _, h, fun q hq => ?_, fun p M e q hq => ?_⟩
    · have : q = (tk T i).p := by simpa using hq
      omega
    · have : M = [] := by simpa using (List.cons.inj e).2.symm
      rw [this] at hq
      simp at hq
theorem Rg.app {T : List Tok} (hG : Grow T) {i j k : Nat} {A B : List Int} (h : Rg T i j A) (g : Rg T j k B) : Rg T i k (A ++ B) := by
  have g1 := hG i j h.le h.lt
  have g2 := hG j k g.le g.lt
  refine ⟨Nat.le_trans h.le g.le, g.lt, fun q hq => ?_, fun p M e q hq => ?_⟩
  · rw [List.mem_append] at hq
    rcases hq with hq | hq
    · have := h.all q hq; omega
    · have := g.all q hq; omega
  · cases A with
    | nil => exact g.fst p M e q hq
    | cons a A =>
      have e' := List.cons.inj e
      obtain ⟨rfl, rfl⟩ := e'
      have hq : q ∈ A ++ B := hq
      rw [List.mem_append] at hq
      rcases hq with hq | hq
      · exact h.fst a A rfl q hq
      · have := h.all a List.mem_cons_self
        have := g.all q hq
        omega
theorem Rg.pre {T : List Tok} (hG : Grow T) {i j k : Nat} {L : List Int} (h : i ≤ j ∧ j < T.length) (g : Rg T j k L) : Rg T i k L := (Rg.nil h).app hG g
theorem Rg.post {T : List Tok} (hG : Grow T) {i j k : Nat} {L : List Int} (g : Rg T i j L) (h : j ≤ k ∧ k < T.length) : Rg T i k L := by
  have := g.app hG (Rg.nil h)
  rw [List.append_nil] at this
  exact this
def ExR (T : List Tok) (ex : S → S × Ex) : Prop := ∀ τ, τ.i < T.length → Rg T τ.i (ex τ).1.i (lx (ex τ).2)
theorem comp_rg {T : List Tok} (hG : Grow T) {ex : S → S × Ex} (h : ExR T ex) {i0 : Nat} {τ : S} (h0 : i0 ≤ τ.i) (hi : τ.i < T.length) : Rg T i0 (K.comp T ex (tk T i0).p τ).1.i (lx (K.comp T ex (tk T i0).p τ).2) := by
  have p1 := fun b => Rg.one (T := T) (i := i0) (by omega) b
  unfold K.comp
  split
  · have f := ((K.step_fwd T τ).trans (K.known_fwd T K.hasWords _)) hi
    exact (p1 _).app hG (Rg.pre hG ⟨Nat.le_trans h0 f.1, f.2⟩ (h _ f.2))
  · split
    · have f := K.step_fwd T τ hi
      have a := h _ f.2
      have b := h _ a.lt
      have c := h _ b.lt
      exact Rg.pre hG ⟨Nat.le_trans h0 f.1, f.2⟩ (a.app hG (b.app hG c))
    · split
      · have f := K.take_fwd T K.isOpS τ hi
        have a := h _ f.2
        have b := h _ a.lt
        exact (p1 _).app hG (Rg.pre hG ⟨Nat.le_trans h0 f.1, f.2⟩ (a.app hG b))
      · have f := K.fail_fwd T 2 (tk T τ.i).p τ hi
        exact Rg.nil ⟨Nat.le_trans h0 f.1, f.2⟩
theorem expr_rg {T : List Tok} (hG : Grow T) (f : Nat) : ExR T (K.expr T f) := by
  induction f with
  | zero => intro τ hi; exact Rg.nil ⟨Nat.le_refl _, hi⟩
  | succ f ih =>
    intro τ hi
    rw [K.expr]
    unfold K.exB
    split
    · have o := K.opened_fwd T τ hi
      have c := comp_rg hG ih o.1 o.2
      exact c.post hG (K.closed_fwd T _ c.lt)
    · split
      · exact Rg.nil (K.take_fwd T K.isNum τ hi)
      · exact Rg.nil (K.known_fwd T K.canRead τ hi)
end Q
end Go.Proofs.YtejbgcloblpbfaaGreatDoor
namespace Go.Proofs.YtejbgcloblpbfaaGreatDoor
open R (Tok tk PS Thing)
open K (S Nm Ex Do Scans)
namespace Q
def DsR (T : List Tok) (dos : S → S × List Do) : Prop := ∀ τ hid, τ.i < T.length → Rg T τ.i (dos τ).1.i (lds hid (dos τ).2)
theorem brk_rg {T : List Tok} (hG : Grow T) {dos : S → S × List Do} (h : DsR T dos) {τ : S} (hid : Bool) (hi : τ.i < T.length) : Rg T τ.i (K.brk T dos τ).1.i (lds hid (K.brk T dos τ).2) := by
  have o := K.opened_fwd T τ hi
  have d := h _ hid o.2
  exact (Rg.pre hG o d).post hG (K.closed_fwd T _ d.lt)
theorem doX_rg {T : List Tok} (hG : Grow T) {dos : S → S × List Do} (h : DsR T dos) {i0 : Nat} {τ : S} (hid : Bool) (h0 : i0 ≤ τ.i) (hi : τ.i < T.length) : Rg T i0 (K.doX T dos (tk T i0).p τ).1.i (ld hid (K.doX T dos (tk T i0).p τ).2) := by
  have p1 := fun b => Rg.one (T := T) (i := i0) (by omega) b
  have ex := expr_rg hG 11
  unfold K.doX
  split
  · have f := ((K.step_fwd T τ).trans (K.known_fwd T K.canSet _)) hi
    unfold K.setX
    dsimp only
    rw [ld]
    exact (p1 _).app hG (Rg.pre hG ⟨Nat.le_trans h0 f.1, f.2⟩ (ex _ f.2))
  · split
    · have f := ((K.step_fwd T τ).trans (K.known_fwd T K.hasWords _)) hi
      have a := ex _ f.2
      have b := ex _ a.lt
      unfold K.putX
      dsimp only
      rw [ld]
      exact (p1 _).app hG (Rg.pre hG ⟨Nat.le_trans h0 f.1, f.2⟩ (a.app hG b))
    · split
      · have f := K.step_fwd T τ hi
        have a := ex _ f.2
        unfold K.ifX
        dsimp only
        rw [ld]
        have b := brk_rg hG h (hid || K.sec (K.expr T 11 (K.step T τ)).2) a.lt
        have c := brk_rg hG h (hid || K.sec (K.expr T 11 (K.step T τ)).2) b.lt
        exact Rg.pre hG ⟨Nat.le_trans h0 f.1, f.2⟩ (a.app hG (b.app hG c))
      · split
        · have f := (((K.loop0_fwd T τ).trans (K.step_fwd T _)).trans (K.newName_fwd T _)) hi
          have a := ex _ f.2
          unfold K.forX
          dsimp only
          rw [ld]
          have b := h (K.seeing (K.counter T τ) (K.expr T 11 (K.newName T (K.loop1 T τ))).1) hid a.lt
          exact (p1 _).app hG (Rg.pre hG ⟨Nat.le_trans h0 f.1, f.2⟩ (a.app hG b))
        · have f := K.fail_fwd T 2 (tk T τ.i).p τ hi
          exact Rg.nil ⟨Nat.le_trans h0 f.1, f.2⟩
theorem dosL_rg {T : List Tok} (hG : Grow T) {f : Nat} (h : DsR T (K.dos T f)) (hid : Bool) (m : Nat) : ∀ (τ : S) (l : List Do) (i0 : Nat), τ.i < T.length → Rg T i0 τ.i (lds hid l) →
    Rg T i0 (K.dosL T (K.doF T (f + 1)) m τ l).1.i (lds hid (K.dosL T (K.doF T (f + 1)) m τ l).2) := by
  induction m with
  | zero => intro τ l i0 _ g; exact g
  | succ m ih =>
    intro τ l i0 hi g
    rw [K.dosL]
    split
    · have o := K.opened_fwd T τ hi
      have d : Rg T τ.i (K.doX T (K.dos T f) (tk T τ.i).p (K.opened T τ)).1.i (ld hid (K.doX T (K.dos T f) (tk T τ.i).p (K.opened T τ)).2) := doX_rg hG h hid o.1 o.2
      have d' := d.post hG (K.closed_fwd T _ d.lt)
      refine ih (K.brkDo T (K.doF T (f + 1)) τ).1 _ i0 d'.lt ?_
      rw [lds_snoc]
      exact g.app hG d'
    · exact g
theorem dos_rg {T : List Tok} (hG : Grow T) (f : Nat) : DsR T (K.dos T f) := by
  induction f with
  | zero =>
    intro τ hid hi
    have : ∀ m (τ : S) (l : List Do), τ.i < T.length → lds hid l = [] → Rg T τ.i (K.dosL T (K.doF T 0) m τ l).1.i (lds hid (K.dosL T (K.doF T 0) m τ l).2) := by
      intro m
      induction m with
      | zero => intro τ l hi e; show Rg T τ.i τ.i (lds hid l); rw [e]; exact Rg.nil ⟨Nat.le_refl _, hi⟩
      | succ m ih =>
        intro τ l hi e
        rw [K.dosL]
        split
        · have b := K.brkDo_fwd (T := T) (K.doF_fwd T 0) τ hi
          refine Rg.pre hG b (ih _ _ b.2 ?_)
          rw [lds_snoc, e]
          show [] ++ ld hid .none = []
          rw [ld]; rfl
        · show Rg T τ.i τ.i (lds hid l); rw [e]; exact Rg.nil ⟨Nat.le_refl _, hi⟩
    exact this _ τ [] hi (by rw [lds])
  | succ f ih =>
    intro τ hid hi
    refine dosL_rg hG ih hid T.length τ [] τ.i hi ?_
    rw [lds]
    exact Rg.nil ⟨Nat.le_refl _, hi⟩
end Q
end Go.Proofs.YtejbgcloblpbfaaGreatDoor
namespace Go.Proofs.YtejbgcloblpbfaaGreatDoor
open R (Tok tk PS Thing)
open K (S Nm Ex Do Scans)
namespace Q
theorem scan_ge (s : ByteArray) (i : Nat) : (i : Int) ≤ (K.scan s i).p := by
  show (i : Int) ≤ ((K.runOf K.blank s i : Nat) : Int)
  unfold K.runOf
  omega
theorem grow {s : ByteArray} {T : List Tok} (hS : Scans s T) : Grow T := by
  intro i j hij
  induction j with
  | zero => intro _; have : i = 0 := by omega
            rw [this]; exact Int.le_refl _
  | succ j ih =>
    intro hj
    by_cases e : i = j + 1
    · rw [e]; exact Int.le_refl _
    · have a := ih (by omega) (by omega)
      obtain ⟨p, e1, _, e3⟩ := hS.next j (by omega)
      have g := scan_ge s (p + (tk T j).s.size)
      rw [e3] at g
      unfold K.nx at g
      rw [if_pos hj] at g
      omega
theorem declsL_i {T : List Tok} (n : Nat) : ∀ τ : S, τ.i < T.length → (K.declsL T n τ).i < T.length := by
  induction n with
  | zero => intro τ h; exact h
  | succ n ih =>
    intro τ h
    rw [K.declsL]
    split
    · exact ih _ (((K.opened_fwd T τ).trans ((K.decl_fwd T _ _).trans (K.closed_fwd T _))) h).2
    · exact h
theorem check_same {s : ByteArray} {T : List Tok} (hS : Scans s T) (hE : R.Ended T) (hP : (early T).err = 0 → (early T).place = 0) : K.checkT T = ((R.readT T).err, (R.readT T).place) := by
  rw [readT_early]
  unfold K.checkT
  rcases prog_eqv hS hE hS.pos with ⟨a1, a2, a3⟩ | a
  · rw [if_pos a1.e2]
    have hg : K.found T = fst (lds false (K.progD T)) (0, false) := by unfold K.found; exact gds_fst _ _ _
    have hr : Rg T (K.prog0 T).i (K.dos T 11 (K.prog0 T)).1.i (lds false (K.progD T)) := dos_rg (grow hS) 11 (K.prog0 T) false (declsL_i _ _ hS.pos)
    have hp := hP a1.e1
    generalize lds false (K.progD T) = L at *
    rw [hg]
    unfold R.last
    cases L with
    | nil =>
      have a2 : (early T).leak = -1 := a2
      rw [if_neg (c := (early T).err = 0 ∧ _) (fun c => by omega), a1.e1, hp]
      rfl
    | cons p M =>
      have h0 := a3 p List.mem_cons_self
      have a2 : (early T).leak = p := by
        rw [a2]
        show mn (lk (-1) p) M = p
        have : lk (-1) p = p := by unfold lk; rw [if_pos (by omega)]
        rw [this]
        exact mn_first M p h0 (hr.fst p M rfl)
      rw [if_pos (c := (early T).err = 0 ∧ _) ⟨a1.e1, by omega⟩, a2]
      unfold R.fail
      rw [if_pos a1.e1]
      rfl
  · rw [if_neg (by rw [a.e2]; exact a.e1)]
    unfold R.last
    rw [if_neg (c := (early T).err = 0 ∧ _) (fun c => a.e1 c.1), a.e2, a.p]
end Q
end Go.Proofs.YtejbgcloblpbfaaGreatDoor
namespace Go.Proofs.YtejbgcloblpbfaaGreatDoor
open R (Tok tk PS Thing)
namespace Q
def Pz (σ : PS) : Prop := σ.err = 0 → σ.place = 0
theorem pz_take (T : List Tok) {σ : PS} (h : Pz σ) : Pz (R.take T σ) := by unfold R.take; split <;> exact h
theorem pz_fail {e : Int} (he : e ≠ 0) (p : Int) {σ : PS} (h : Pz σ) : Pz (R.fail e p σ) := by
  unfold R.fail; split
  · exact fun c => absurd c he
  · exact h
theorem pz_want (T : List Tok) (l : List UInt8) {σ : PS} (h : Pz σ) : Pz (R.want T l σ) := by
  unfold R.want; split
  · exact pz_take T h
  · exact pz_fail (by decide) _ (pz_take T h)
theorem pz_opens (T : List Tok) {σ : PS} (h : Pz σ) : Pz (R.opens T σ) := by
  have : Pz (R.open1 T σ) := by
    unfold R.open1; split
    · exact pz_fail (by decide) _ (pz_want T _ h)
    · exact pz_want T _ h
  exact this
theorem pz_shut (T : List Tok) {σ : PS} (h : Pz σ) : Pz (R.shut T σ) := by
  have : Pz (if σ.err = 0 then R.want T [41] σ else σ) := by
    split
    · exact pz_want T _ h
    · exact h
  exact this
theorem pz_leaks (p : Int) (b : Bool) {σ : PS} (h : Pz σ) : Pz (R.leaks p b σ) := by unfold R.leaks; split <;> exact h
theorem pz_known (T : List Tok) (a s : Bool) {σ : PS} (h : Pz σ) : Pz (R.known T a s σ) := by
  unfold R.known
  split
  · split
    · split
      · exact pz_fail (by decide) _ (pz_take T h)
      · exact pz_take T h
    · exact pz_fail (by decide) _ (pz_take T h)
  · exact h
theorem pz_fresh (T : List Tok) {σ : PS} (h : Pz σ) : Pz (R.fresh T σ) := by
  unfold R.fresh
  split
  · split
    · split
      · exact pz_fail (by decide) _ (pz_take T h)
      · exact pz_take T h
    · exact pz_fail (by decide) _ (pz_take T h)
  · exact h
theorem pz_args {rec : PS → PS × Int} (hr : ∀ σ, Pz σ → Pz (rec σ).1) (m : Nat) : ∀ (σ : PS) (L : List Int) (b : Bool), Pz σ → Pz (R.args rec m σ L b).1 := by
  induction m with
  | zero => intro σ L b h; exact h
  | succ m ih =>
    intro σ L b h
    rw [R.args]
    split
    · exact ih _ _ _ (hr σ h)
    · exact h
theorem pz_inner {T : List Tok} {rec : PS → PS × Int} (hr : ∀ σ, Pz σ → Pz (rec σ).1) (p : Int) {σ : PS} (h : Pz σ) : Pz (R.inner T rec p σ) := by
  have hh : Pz (R.headOf T σ).1 := by
    unfold R.headOf
    split
    · exact pz_known T _ _ (pz_take T h)
    · split
      · exact pz_take T h
      · split
        · exact pz_take T h
        · exact pz_fail (by decide) _ (pz_take T h)
  have : Pz (R.leaks p ((R.shut T (R.args rec (R.headOf T σ).2.2 (R.headOf T σ).1 [] false).1).err == 0 && (R.args rec (R.headOf T σ).2.2 (R.headOf T σ).1 [] false).2.2 && R.telling (tk T σ.i).s.toList) (R.shut T (R.args rec (R.headOf T σ).2.2 (R.headOf T σ).1 [] false).1)) := pz_leaks _ _ (pz_shut T (pz_args hr _ _ _ _ hh))
  exact this
theorem pz_expr (T : List Tok) (f : Nat) : ∀ σ, Pz σ → Pz (R.expr T f σ).1 := by
  induction f with
  | zero => intro σ h; exact h
  | succ f ih =>
    intro σ h
    rw [R.expr]
    split
    · split
      · split
        · exact pz_inner ih _ (pz_opens T h)
        · exact pz_opens T h
      · split
        · exact pz_take T h
        · exact pz_known T _ _ h
    · exact h
theorem pz_ex (T : List Tok) {σ : PS} (h : Pz σ) : Pz (R.ex T σ).1 := pz_expr T _ σ h
def PzL (d : PS → PS × List Int) : Prop := ∀ σ, Pz σ → Pz (d σ).1
theorem pz_block {T : List Tok} {does : PS → PS × List Int} (hd : PzL does) : PzL (R.block T does) := fun σ h => by
  unfold R.block; split
  · exact pz_shut T (hd _ (pz_opens T h))
  · exact h
theorem pz_word {T : List Tok} {does : PS → PS × List Int} (hd : PzL does) (p : Int) (w : Tok) {σ : PS} (h : Pz σ) : Pz (R.doWord T does p w σ).s := by
  unfold R.doWord
  split
  · exact pz_leaks _ _ (pz_ex T (pz_known T _ _ h))
  · split
    · exact pz_leaks _ _ (pz_ex T (pz_leaks _ _ (pz_ex T (pz_known T _ _ h))))
    · split
      · exact pz_block (T := T) hd _ (pz_block (T := T) hd _ (pz_ex T h))
      · split
        · unfold R.doFor
          have h1 : Pz (if σ.loops = 2 then R.fail 6 w.p σ else σ) := by
            split
            · exact pz_fail (by decide) _ h
            · exact h
          exact hd _ (pz_leaks _ _ (pz_ex T (pz_fresh T h1)))
        · exact pz_fail (by decide) _ h
theorem pz_doB {T : List Tok} {does : PS → PS × List Int} (hd : PzL does) {σ : PS} (h : Pz σ) : Pz (R.doB T does σ).1 := by
  unfold R.doB; split
  · exact pz_shut T (pz_word hd _ _ (pz_take T (pz_opens T h)))
  · exact pz_opens T h
theorem pz_doesL {T : List Tok} {dof : PS → PS × Int} (hd : ∀ σ, Pz σ → Pz (dof σ).1) (m : Nat) : ∀ (σ : PS) (L : List Int), Pz σ → Pz (R.doesL T dof m σ L).1 := by
  induction m with
  | zero => intro σ L h; exact h
  | succ m ih =>
    intro σ L h
    rw [R.doesL]
    split
    · exact ih _ _ (hd σ h)
    · exact h
theorem pz_doF (T : List Tok) (f : Nat) : ∀ σ, Pz σ → Pz (R.doF T f σ).1 := by
  induction f with
  | zero => intro σ h; exact h
  | succ f ih => intro σ h; exact pz_doB (fun σ h => pz_doesL ih _ _ _ h) h
theorem pz_decl (T : List Tok) {σ : PS} (h : Pz σ) : Pz (R.decl T σ) := by
  have ho := pz_opens T h
  unfold R.decl
  split
  · exact pz_fail (by decide) _ ho
  · unfold R.declIn
    have hh : ∀ (w : Tok) (σ : PS), Pz σ → Pz (R.dHead T w σ).1 := fun w σ h => by
      unfold R.dHead; split
      · dsimp only
        split
        · exact pz_take T h
        · exact pz_fail (by decide) _ (pz_take T h)
      · exact h
    have hz : ∀ (k : Int) (σ : PS), Pz σ → Pz (R.dSize T k σ).1 := fun k σ h => by
      unfold R.dSize; split
      · split
        · exact pz_take T h
        · exact pz_fail (by decide) _ (pz_take T h)
      · exact h
    have hz' := hz (R.dHead T (tk T (R.opens T σ).i) (R.take T (R.opens T σ))).2.1 _ (pz_fresh T (hh (tk T (R.opens T σ).i) _ (pz_take T ho)))
    dsimp only
    split
    · exact pz_shut T hz'
    · exact hz'
theorem pz_decls (T : List Tok) (m : Nat) : ∀ σ, Pz σ → Pz (R.decls T m σ) := by
  induction m with
  | zero => intro σ h; exact h
  | succ m ih =>
    intro σ h
    rw [R.decls]
    split
    · exact ih _ (pz_decl T h)
    · exact h
theorem pz_early (T : List Tok) : Pz (early T) := by
  have h1 : Pz (R.does T 12 (R.decls T 9 R.start)).1 := pz_doesL (pz_doF T 12) _ _ _ (pz_decls T 9 _ (fun _ => rfl))
  unfold early R.behind
  split
  · exact pz_want T _ h1
  · exact h1
theorem check_read {s : ByteArray} (hE : R.Ended (R.toks s)) : K.check s = ((R.read s).err, (R.read s).place) := by
  unfold K.check R.read
  by_cases h : 800 < s.size
  · rw [if_pos h, if_pos h]; rfl
  · rw [if_neg h, if_neg h]
    exact check_same (K.scans_toks (by omega)) hE (pz_early _)
end Q
end Go.Proofs.YtejbgcloblpbfaaGreatDoor
namespace Go.Proofs.YtejbgcloblpbfaaGreatDoor
open R (Nd Tok tk PS Thing)
open K (Nm Ex Do S)
theorem more_at {α : Type} {l m : List α} {k : Nat} {a : α} (h : l[k]? = some a) : (l ++ m)[k]? = some a := by
  rw [List.getElem?_append_left (List.getElem?_eq_some_iff.1 h).1]; exact h
theorem NE.mono {N : Nat} {nodes more : List Nd} : ∀ {e : Ex} {k : Nat}, NE N nodes e k → NE N (nodes ++ more) e k
  | .num _, _, h => by
    unfold NE at h ⊢
    obtain ⟨n, h1, h2⟩ := h
    exact ⟨n, more_at h1, h2⟩
  | .use _, _, h => by
    unfold NE at h ⊢
    obtain ⟨n, h1, h2⟩ := h
    exact ⟨n, more_at h1, h2⟩
  | .get _ _ e, _, h => by
    unfold NE at h ⊢
    obtain ⟨n, x, h1, h2, h3, h4, h5, h6, h7, h8, h9, h10⟩ := h
    exact ⟨n, x, more_at h1, h2, h3, h4, h5, h6, h7, h8, h9, NE.mono h10⟩
  | .op _ _ l r, _, h => by
    unfold NE at h ⊢
    obtain ⟨n, x, y, h1, h2, h3, h4, h5, h6⟩ := h
    exact ⟨n, x, y, more_at h1, h2, h3, h4, NE.mono h5, NE.mono h6⟩
  | .cho _ q y z, _, h => by
    unfold NE at h ⊢
    obtain ⟨n, a, b, c, h1, h2, h3, h4, h5, h6⟩ := h
    exact ⟨n, a, b, c, more_at h1, h2, h3, NE.mono h4, NE.mono h5, NE.mono h6⟩
  | .none, _, h => by unfold NE at h; exact h.elim
mutual
theorem ND.mono {N : Nat} {nodes more : List Nd} : ∀ {d : Do} {k : Nat}, ND N nodes d k → ND N (nodes ++ more) d k
  | .set .., _, h => by
    unfold ND at h ⊢
    obtain ⟨n, x, h1, h2, h3, h4, h5, h6, h7⟩ := h
    exact ⟨n, x, more_at h1, h2, h3, h4, h5, h6, h7.mono⟩
  | .put .., _, h => by
    unfold ND at h ⊢
    obtain ⟨n, x, y, h1, h2, h3, h4, h5, h6, h7, h8, h9, h10, h11⟩ := h
    exact ⟨n, x, y, more_at h1, h2, h3, h4, h5, h6, h7, h8, h9, h10.mono, h11.mono⟩
  | .ifs _ _ y z, _, h => by
    unfold ND at h ⊢
    obtain ⟨n, x, l1, l2, h1, h2, h3, h4, h5, h6, h7⟩ := h
    exact ⟨n, x, l1, l2, more_at h1, h2, h3, h4, h5.mono, NDs.mono h6, NDs.mono h7⟩
  | .fors _ _ _ l, _, h => by
    unfold ND at h ⊢
    obtain ⟨n, x, l1, h1, h2, h3, h4, h5, h6, h7, h8⟩ := h
    exact ⟨n, x, l1, more_at h1, h2, h3, h4, h5, h6, h7.mono, NDs.mono h8⟩
  | .none, _, h => by unfold ND at h; exact h.elim
theorem NDs.mono {N : Nat} {nodes more : List Nd} : ∀ {l : List Do} {ks : List Nat}, NDs N nodes l ks → NDs N (nodes ++ more) l ks
  | [], _, h => by unfold NDs at h ⊢; exact h
  | d :: l, _, h => by
    unfold NDs at h ⊢
    obtain ⟨k, r, h1, h2, h3⟩ := h
    exact ⟨k, r, h1, ND.mono h2, NDs.mono h3⟩
end
theorem NE.wf {N : Nat} {nodes : List Nd} : ∀ {e : Ex} {k : Nat}, NE N nodes e k → V.wfE (N + 2) e
  | .num _, _, _ => by unfold V.wfE; trivial
  | .use _, _, h => by
    unfold NE at h
    unfold V.wfE
    obtain ⟨n, _, _, h1, h2⟩ := h
    omega
  | .get _ _ e, _, h => by
    unfold NE at h
    unfold V.wfE
    obtain ⟨n, x, _, _, _, _, _, h6, h7, h8, h9, h10⟩ := h
    exact ⟨h6, h7, h8, by omega, NE.wf h10⟩
  | .op _ _ l r, _, h => by
    unfold NE at h
    unfold V.wfE
    obtain ⟨n, x, y, _, _, h3, _, h5, h6⟩ := h
    exact ⟨h3, NE.wf h5, NE.wf h6⟩
  | .cho _ q y z, _, h => by
    unfold NE at h
    unfold V.wfE
    obtain ⟨n, a, b, c, _, _, _, h4, h5, h6⟩ := h
    exact ⟨NE.wf h4, NE.wf h5, NE.wf h6⟩
  | .none, _, h => by unfold NE at h; exact h.elim
mutual
theorem ND.wf {N : Nat} {nodes : List Nd} : ∀ {d : Do} {k : Nat}, ND N nodes d k → V.wfD (N + 2) d
  | .set .., _, h => by
    unfold ND at h
    unfold V.wfD
    obtain ⟨n, x, _, _, _, _, h5, h6, h7⟩ := h
    exact ⟨h5, by omega, h7.wf⟩
  | .put .., _, h => by
    unfold ND at h
    unfold V.wfD
    obtain ⟨n, x, y, _, _, _, _, _, h6, h7, h8, h9, h10, h11⟩ := h
    exact ⟨h6, h7, h8, by omega, h10.wf, h11.wf⟩
  | .ifs _ _ y z, _, h => by
    unfold ND at h
    unfold V.wfD
    obtain ⟨n, x, l1, l2, _, _, _, _, h5, h6, h7⟩ := h
    exact ⟨h5.wf, NDs.wf h6, NDs.wf h7⟩
  | .fors _ _ _ l, _, h => by
    unfold ND at h
    unfold V.wfD
    obtain ⟨n, x, l1, _, _, _, h4, h5, h6, h7, h8⟩ := h
    exact ⟨by omega, by omega, h7.wf, NDs.wf h8⟩
  | .none, _, h => by unfold ND at h; exact h.elim
theorem NDs.wf {N : Nat} {nodes : List Nd} : ∀ {l : List Do} {ks : List Nat}, NDs N nodes l ks → V.wfL (N + 2) l
  | [], _, _ => by unfold V.wfL; trivial
  | d :: l, _, h => by
    unfold NDs at h
    unfold V.wfL
    obtain ⟨k, r, _, h2, h3⟩ := h
    exact ⟨ND.wf h2, NDs.wf h3⟩
end
namespace Q
structure SamePl (W : Int) (t : Thing) (n : Nm) : Prop where
  p0 : 0 ≤ t.pos
  v : n.kind ≤ 1 → n.place = t.pos ∧ t.pos + t.size ≤ W ∧ 1 ≤ t.size ∧ t.size ≤ 6
  c : n.kind = 2 → n.place = W + t.pos ∧ t.pos < 2
def Pls (W : Int) : List Thing → List Nm → Prop
  | [], [] => True
  | t :: l, n :: m => SamePl W t n ∧ Pls W l m
  | _, _ => False
theorem Pls.at {W : Int} : ∀ {l : List Thing} {m : List Nm}, Pls W l m → ∀ i, i < l.length → SamePl W (l.getD i R.noThing) (m.getD i K.noNm)
  | [], [], _, i, h => by simp at h
  | t :: l, n :: m, h, 0, _ => h.1
  | t :: l, n :: m, h, i + 1, hi => by simpa using Pls.at h.2 i (by simpa using hi)
  | [], _ :: _, h, _, _ => h.elim
  | _ :: _, [], h, _, _ => h.elim
theorem Pls.snoc {W : Int} {t : Thing} {n : Nm} (hn : SamePl W t n) : ∀ {l : List Thing} {m : List Nm}, Pls W l m → Pls W (l ++ [t]) (m ++ [n])
  | [], [], _ => ⟨hn, trivial⟩
  | _ :: _, _ :: _, h => ⟨h.1, Pls.snoc hn h.2⟩
  | [], _ :: _, h => h.elim
  | _ :: _, [], h => h.elim
end Q
end Go.Proofs.YtejbgcloblpbfaaGreatDoor
