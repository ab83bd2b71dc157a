import Derived.Test.YtjgiefnjmngdkaaGreatDoorM30
namespace Go.Proofs.YtjgiefnjmngdkaaGreatDoor
open R (Tok tk PS Thing)
open K (S Nm Ex Do Scans)
namespace Q

theorem scan_ge (s : ByteArray) (i : Nat) : (i : Int) ≤ (K.scan s i).p := by
  show (i : Int) ≤ ((K.runOf K.blank s i : Nat) : Int)
  unfold K.runOf
  omega
theorem grow {s : ByteArray} {T : List Tok} (hS : Scans s T) : Grow T := by
  intro i j hij
  induction j with
  | zero => intro _; have : i = 0 := by omega
            rw [this]; exact Int.le_refl _
  | succ j ih =>
    intro hj
    by_cases e : i = j + 1
    · rw [e]; exact Int.le_refl _
    · have a := ih (by omega) (by omega)
      obtain ⟨p, e1, _, e3⟩ := hS.next j (by omega)
      have g := scan_ge s (p + (tk T j).s.size)
      rw [e3] at g
      unfold K.nx at g
      rw [if_pos hj] at g
      omega
theorem declsL_i {T : List Tok} (n : Nat) : ∀ τ : S, τ.i < T.length → (K.declsL T n τ).i < T.length := by
  induction n with
  | zero => intro τ h; exact h
  | succ n ih =>
    intro τ h
    rw [K.declsL]
    split
    · exact ih _ (((K.opened_fwd T τ).trans ((K.decl_fwd T _ _).trans (K.closed_fwd T _))) h).2
    · exact h
/-- The code's Check and the reference's reading say the same. -/
theorem check_same {s : ByteArray} {T : List Tok} (hS : Scans s T) (hE : R.Ended T) (hP : (early T).err = 0 → (early T).place = 0) : K.checkT T = ((R.readT T).err, (R.readT T).place) := by
  rw [readT_early]
  unfold K.checkT
  rcases prog_eqv hS hE hS.pos with ⟨a1, a2, a3⟩ | a
  · rw [if_pos a1.e2]
    have hg : K.found T = fst (lds false (K.progD T)) (0, false) := by unfold K.found; exact gds_fst _ _ _
    have hr : Rg T (K.prog0 T).i (K.dos T 11 (K.prog0 T)).1.i (lds false (K.progD T)) := dos_rg (grow hS) 11 (K.prog0 T) false (declsL_i _ _ hS.pos)
    have hp := hP a1.e1
    generalize lds false (K.progD T) = L at *
    rw [hg]
    unfold R.last
    cases L with
    | nil =>
      have a2 : (early T).leak = -1 := a2
      rw [if_neg (c := (early T).err = 0 ∧ _) (fun c => by omega), a1.e1, hp]
      rfl
    | cons p M =>
      have h0 := a3 p List.mem_cons_self
      have a2 : (early T).leak = p := by
        rw [a2]
        show mn (lk (-1) p) M = p
        have : lk (-1) p = p := by unfold lk; rw [if_pos (by omega)]
        rw [this]
        exact mn_first M p h0 (hr.fst p M rfl)
      rw [if_pos (c := (early T).err = 0 ∧ _) ⟨a1.e1, by omega⟩, a2]
      unfold R.fail
      rw [if_pos a1.e1]
      rfl
  · rw [if_neg (by rw [a.e2]; exact a.e1)]
    unfold R.last
    rw [if_neg (c := (early T).err = 0 ∧ _) (fun c => a.e1 c.1), a.e2, a.p]
end Q
end Go.Proofs.YtjgiefnjmngdkaaGreatDoor
namespace Go.Proofs.YtjgiefnjmngdkaaGreatDoor
open R (Tok tk PS Thing)
namespace Q

/-- While all is well the place is 0. -/
def Pz (σ : PS) : Prop := σ.err = 0 → σ.place = 0
theorem pz_take (T : List Tok) {σ : PS} (h : Pz σ) : Pz (R.take T σ) := by unfold R.take; split <;> exact h
theorem pz_fail {e : Int} (he : e ≠ 0) (p : Int) {σ : PS} (h : Pz σ) : Pz (R.fail e p σ) := by
  unfold R.fail; split
  · exact fun c => absurd c he
  · exact h
theorem pz_want (T : List Tok) (l : List UInt8) {σ : PS} (h : Pz σ) : Pz (R.want T l σ) := by
  unfold R.want; split
  · exact pz_take T h
  · exact pz_fail (by decide) _ (pz_take T h)
theorem pz_opens (T : List Tok) {σ : PS} (h : Pz σ) : Pz (R.opens T σ) := by
  have : Pz (R.open1 T σ) := by
    unfold R.open1; split
    · exact pz_fail (by decide) _ (pz_want T _ h)
    · exact pz_want T _ h
  exact this
theorem pz_shut (T : List Tok) {σ : PS} (h : Pz σ) : Pz (R.shut T σ) := by
  have : Pz (if σ.err = 0 then R.want T [41] σ else σ) := by
    split
    · exact pz_want T _ h
    · exact h
  exact this
theorem pz_leaks (p : Int) (b : Bool) {σ : PS} (h : Pz σ) : Pz (R.leaks p b σ) := by unfold R.leaks; split <;> exact h
theorem pz_known (T : List Tok) (a s : Bool) {σ : PS} (h : Pz σ) : Pz (R.known T a s σ) := by
  unfold R.known
  split
  · split
    · split
      · exact pz_fail (by decide) _ (pz_take T h)
      · exact pz_take T h
    · exact pz_fail (by decide) _ (pz_take T h)
  · exact h
theorem pz_fresh (T : List Tok) {σ : PS} (h : Pz σ) : Pz (R.fresh T σ) := by
  unfold R.fresh
  split
  · split
    · split
      · exact pz_fail (by decide) _ (pz_take T h)
      · exact pz_take T h
    · exact pz_fail (by decide) _ (pz_take T h)
  · exact h
theorem pz_args {rec : PS → PS × Int} (hr : ∀ σ, Pz σ → Pz (rec σ).1) (m : Nat) : ∀ (σ : PS) (L : List Int) (b : Bool), Pz σ → Pz (R.args rec m σ L b).1 := by
  induction m with
  | zero => intro σ L b h; exact h
  | succ m ih =>
    intro σ L b h
    rw [R.args]
    split
    · exact ih _ _ _ (hr σ h)
    · exact h
theorem pz_inner {T : List Tok} {rec : PS → PS × Int} (hr : ∀ σ, Pz σ → Pz (rec σ).1) (p : Int) {σ : PS} (h : Pz σ) : Pz (R.inner T rec p σ) := by
  have hh : Pz (R.headOf T σ).1 := by
    unfold R.headOf
    split
    · exact pz_known T _ _ (pz_take T h)
    · split
      · exact pz_take T h
      · split
        · exact pz_take T h
        · exact pz_fail (by decide) _ (pz_take T h)
  have : Pz (R.leaks p ((R.shut T (R.args rec (R.headOf T σ).2.2 (R.headOf T σ).1 [] false).1).err == 0 && (R.args rec (R.headOf T σ).2.2 (R.headOf T σ).1 [] false).2.2 && R.telling (tk T σ.i).s.toList) (R.shut T (R.args rec (R.headOf T σ).2.2 (R.headOf T σ).1 [] false).1)) := pz_leaks _ _ (pz_shut T (pz_args hr _ _ _ _ hh))
  exact this
theorem pz_expr (T : List Tok) (f : Nat) : ∀ σ, Pz σ → Pz (R.expr T f σ).1 := by
  induction f with
  | zero => intro σ h; exact h
  | succ f ih =>
    intro σ h
    rw [R.expr]
    split
    · split
      · split
        · exact pz_inner ih _ (pz_opens T h)
        · exact pz_opens T h
      · split
        · exact pz_take T h
        · exact pz_known T _ _ h
    · exact h
theorem pz_ex (T : List Tok) {σ : PS} (h : Pz σ) : Pz (R.ex T σ).1 := pz_expr T _ σ h
def PzL (d : PS → PS × List Int) : Prop := ∀ σ, Pz σ → Pz (d σ).1
theorem pz_block {T : List Tok} {does : PS → PS × List Int} (hd : PzL does) : PzL (R.block T does) := fun σ h => by
  unfold R.block; split
  · exact pz_shut T (hd _ (pz_opens T h))
  · exact h
theorem pz_word {T : List Tok} {does : PS → PS × List Int} (hd : PzL does) (p : Int) (w : Tok) {σ : PS} (h : Pz σ) : Pz (R.doWord T does p w σ).s := by
  unfold R.doWord
  split
  · exact pz_leaks _ _ (pz_ex T (pz_known T _ _ h))
  · split
    · exact pz_leaks _ _ (pz_ex T (pz_leaks _ _ (pz_ex T (pz_known T _ _ h))))
    · split
      · exact pz_block (T := T) hd _ (pz_block (T := T) hd _ (pz_ex T h))
      · split
        · unfold R.doFor
          have h1 : Pz (if σ.loops = 2 then R.fail 6 w.p σ else σ) := by
            split
            · exact pz_fail (by decide) _ h
            · exact h
          exact hd _ (pz_leaks _ _ (pz_ex T (pz_fresh T h1)))
        · exact pz_fail (by decide) _ h
theorem pz_doB {T : List Tok} {does : PS → PS × List Int} (hd : PzL does) {σ : PS} (h : Pz σ) : Pz (R.doB T does σ).1 := by
  unfold R.doB; split
  · exact pz_shut T (pz_word hd _ _ (pz_take T (pz_opens T h)))
  · exact pz_opens T h
theorem pz_doesL {T : List Tok} {dof : PS → PS × Int} (hd : ∀ σ, Pz σ → Pz (dof σ).1) (m : Nat) : ∀ (σ : PS) (L : List Int), Pz σ → Pz (R.doesL T dof m σ L).1 := by
  induction m with
  | zero => intro σ L h; exact h
  | succ m ih =>
    intro σ L h
    rw [R.doesL]
    split
    · exact ih _ _ (hd σ h)
    · exact h
theorem pz_doF (T : List Tok) (f : Nat) : ∀ σ, Pz σ → Pz (R.doF T f σ).1 := by
  induction f with
  | zero => intro σ h; exact h
  | succ f ih => intro σ h; exact pz_doB (fun σ h => pz_doesL ih _ _ _ h) h
theorem pz_decl (T : List Tok) {σ : PS} (h : Pz σ) : Pz (R.decl T σ) := by
  have ho := pz_opens T h
  unfold R.decl
  split
  · exact pz_fail (by decide) _ ho
  · unfold R.declIn
    have hh : ∀ (w : Tok) (σ : PS), Pz σ → Pz (R.dHead T w σ).1 := fun w σ h => by
      unfold R.dHead; split
      · dsimp only
        split
        · exact pz_take T h
        · exact pz_fail (by decide) _ (pz_take T h)
      · exact h
    have hz : ∀ (k : Int) (σ : PS), Pz σ → Pz (R.dSize T k σ).1 := fun k σ h => by
      unfold R.dSize; split
      · split
        · exact pz_take T h
        · exact pz_fail (by decide) _ (pz_take T h)
      · exact h
    have hz' := hz (R.dHead T (tk T (R.opens T σ).i) (R.take T (R.opens T σ))).2.1 _ (pz_fresh T (hh (tk T (R.opens T σ).i) _ (pz_take T ho)))
    dsimp only
    split
    · exact pz_shut T hz'
    · exact hz'
theorem pz_decls (T : List Tok) (m : Nat) : ∀ σ, Pz σ → Pz (R.decls T m σ) := by
  induction m with
  | zero => intro σ h; exact h
  | succ m ih =>
    intro σ h
    rw [R.decls]
    split
    · exact ih _ (pz_decl T h)
    · exact h
theorem pz_early (T : List Tok) : Pz (early T) := by
  have h1 : Pz (R.does T 12 (R.decls T 9 R.start)).1 := pz_doesL (pz_doF T 12) _ _ _ (pz_decls T 9 _ (fun _ => rfl))
  unfold early R.behind
  split
  · exact pz_want T _ h1
  · exact h1
/-- What Check answers is what the reference reads. -/
theorem check_read {s : ByteArray} (hE : R.Ended (R.toks s)) : K.check s = ((R.read s).err, (R.read s).place) := by
  unfold K.check R.read
  by_cases h : 800 < s.size
  · rw [if_pos h, if_pos h]; rfl
  · rw [if_neg h, if_neg h]
    exact check_same (K.scans_toks (by omega)) hE (pz_early _)
end Q
end Go.Proofs.YtjgiefnjmngdkaaGreatDoor
