import Derived.Test.YtejbgcloblpbfaaGreatDoorB23
import Derived.Test.YtejbgcloblpbfaaGreatDoorB21
namespace Go.Proofs.YtejbgcloblpbfaaGreatDoor
open R (Tok tk)
namespace K
theorem brk_st {T : List Tok} {dos : S → S × List Do} (h : ∀ σ, St σ (dos σ).1) (σ : S) : St σ (brk T dos σ).1 := ((opened_st T σ).trans (h _)).trans (closed_st T _)
theorem body_st {dos : S → S × List Do} (h : ∀ σ, St σ (dos σ).1) (n : Nm) (σ : S) : St σ (body dos n σ).1 := fun e => h (seeing n σ) e
theorem loop0_st (T : List Tok) (σ : S) : St σ (loop0 T σ) := by
  unfold loop0; split
  · exact fail_st T (by decide) _ _
  · exact St.rfl' σ
theorem doX_st {T : List Tok} {dos : S → S × List Do} (h : ∀ σ, St σ (dos σ).1) (p : Int) (σ : S) : St σ (doX T dos p σ).1 := by
  unfold doX
  split
  · exact ((step_st T σ).trans (known_st T _ _)).trans (expr_st T _ _)
  · split
    · exact (((step_st T σ).trans (known_st T _ _)).trans (expr_st T _ _)).trans (expr_st T _ _)
    · split
      · exact (((step_st T σ).trans (expr_st T _ _)).trans (brk_st h _)).trans (brk_st h _)
      · split
        · exact ((((loop0_st T σ).trans (step_st T _)).trans (newName_st T _)).trans (expr_st T _ _)).trans (body_st h _ _)
        · exact fail_st T (by decide) _ _
theorem brkDo_st {T : List Tok} {d : Int → S → S × Do} (h : ∀ p σ, St σ (d p σ).1) (σ : S) : St σ (brkDo T d σ).1 := ((opened_st T σ).trans (h _ _)).trans (closed_st T _)
theorem dosL_st {T : List Tok} {d : Int → S → S × Do} (h : ∀ p σ, St σ (d p σ).1) (m : Nat) : ∀ (σ : S) (l : List Do), St σ (dosL T d m σ l).1 := by
  induction m with
  | zero => intro σ l; exact St.rfl' σ
  | succ m ih =>
    intro σ l
    rw [dosL]
    split
    · exact (brkDo_st h σ).trans (ih _ _)
    · exact St.rfl' σ
theorem doF_st (T : List Tok) (f : Nat) : ∀ p σ, St σ (doF T f p σ).1 := by
  induction f with
  | zero => intro p σ; exact St.rfl' σ
  | succ f ih => intro p σ; exact doX_st (fun σ => dosL_st ih T.length σ []) p σ
theorem dos_st (T : List Tok) (f : Nat) (σ : S) : St σ (dos T f σ).1 := dosL_st (doF_st T f) _ _ _
def Lv (T : List Tok) (f : Nat) (σ : S) : Prop := 0 ≤ σ.depth ∧ ((σ.depth ≤ 10 ∧ 11 - σ.depth ≤ (f : Int)) ∨ σ.i = T.length - 1)
def LvD (T : List Tok) (f : Nat) (σ : S) : Prop := 0 ≤ σ.depth ∧ ((σ.depth ≤ 10 ∧ 12 - σ.depth ≤ (f : Int)) ∨ σ.i = T.length - 1)
theorem lv_opened {T : List Tok} {f : Nat} {σ : S} (d0 : 0 ≤ σ.depth) (d1 : σ.depth ≤ 10) (df : 10 - σ.depth ≤ (f : Int)) : Lv T f (opened T σ) := by
  have e := opened_depth T σ
  refine ⟨by omega, ?_⟩
  by_cases h : σ.depth = 10
  · exact Or.inr (opened_deep h)
  · exact Or.inl ⟨by omega, by omega⟩
theorem lvD_opened {T : List Tok} {f : Nat} {σ : S} (d0 : 0 ≤ σ.depth) (d1 : σ.depth ≤ 10) (df : 11 - σ.depth ≤ (f : Int)) : LvD T f (opened T σ) := by
  have e := opened_depth T σ
  refine ⟨by omega, ?_⟩
  by_cases h : σ.depth = 10
  · exact Or.inr (opened_deep h)
  · exact Or.inl ⟨by omega, by omega⟩
theorem goodL_snoc : ∀ (l : List Do) (d : Do), goodL (l ++ [d]) = (goodL l && goodD d)
  | [], d => by simp [goodL]
  | a :: l, d => by
    show goodL (a :: (l ++ [d])) = _
    rw [goodL, goodL, goodL_snoc l d, Bool.and_assoc]
theorem doX_good {s : ByteArray} {T : List Tok} (hS : Scans s T) {f : Nat} (hd : ∀ σ, Lv T f σ → (dos T f σ).1.err = 0 → goodL (dos T f σ).2 = true) (p : Int) {σ : S} (hl : LvD T (f + 1) σ) (he : (doX T (dos T f) p σ).1.err = 0) : goodD (doX T (dos T f) p σ).2 = true := by
  obtain ⟨d0, hl⟩ := hl
  have ex : ∀ σ', Keeps σ σ' → σ.depth ≤ 10 → (expr T 11 σ').1.err = 0 → good (expr T 11 σ').2 = true := fun σ' k h e => expr_good hS 11 σ' (by rw [k.depth]; exact d0) (by rw [k.depth]; exact h) (by rw [k.depth]; omega) e
  have dead : ∀ l, l ≠ [] → isW l (tk T σ.i) = true → σ.depth ≤ 10 ∧ 12 - σ.depth ≤ ((f + 1 : Nat) : Int) := fun l hne hw => by
    rcases hl with hl | hl
    · exact hl
    · unfold isW at hw
      rw [last_no hS hl l hne] at hw
      exact absurd hw (by decide)
  have br : ∀ σ', Keeps σ σ' → σ.depth ≤ 10 ∧ 12 - σ.depth ≤ ((f + 1 : Nat) : Int) → (brk T (dos T f) σ').1.err = 0 → goodL (brk T (dos T f) σ').2 = true := fun σ' k h e =>
    hd _ (lv_opened (by rw [k.depth]; exact d0) (by rw [k.depth]; exact h.1) (by rw [k.depth]; omega)) (closed_st T _ e)
  unfold doX at he ⊢
  split
  · rename_i e1
    rw [if_pos e1] at he
    have dd := dead _ (by decide) e1
    show goodD (.set p _ _) = true
    rw [goodD]
    exact ex _ ((step_keeps T σ).trans (known_keeps T _ _)) dd.1 he
  · rename_i e1
    rw [if_neg e1] at he
    split
    · rename_i e2
      rw [if_pos e2] at he
      have dd := dead _ (by decide) e2
      have k1 := (step_keeps T σ).trans (known_keeps T hasWords (step T σ))
      have k2 := k1.trans (expr_keeps T 11 (known T hasWords (step T σ)))
      have he2 : (expr T 11 (expr T 11 (known T hasWords (step T σ))).1).1.err = 0 := he
      have he1 := expr_st T 11 _ he2
      show goodD (.put p _ _ _) = true
      rw [goodD, ex _ k1 dd.1 he1, ex _ k2 dd.1 he2]
      rfl
    · rename_i e2
      rw [if_neg e2] at he
      split
      · rename_i e3
        rw [if_pos e3] at he
        have dd := dead _ (by decide) e3
        have k1 := step_keeps T σ
        have k2 := k1.trans (expr_keeps T 11 (step T σ))
        have k3 := k2.trans (brk_keeps (T := T) (fun σ => dos_keeps T f σ) (expr T 11 (step T σ)).1)
        have he3 : (brk T (dos T f) (brk T (dos T f) (expr T 11 (step T σ)).1).1).1.err = 0 := he
        have he2 := brk_st (T := T) (fun σ => dos_st T f σ) _ he3
        have he1 := brk_st (T := T) (fun σ => dos_st T f σ) _ he2
        show goodD (.ifs p _ _ _) = true
        rw [goodD, ex _ k1 dd.1 he1, br _ k2 dd he2, br _ k3 dd he3]
        rfl
      · rename_i e3
        rw [if_neg e3] at he
        split
        · rename_i e4
          rw [if_pos e4] at he
          have dd := dead _ (by decide) e4
          have k1 := ((loop0_keeps T σ).trans (step_keeps T (loop0 T σ))).trans (newName_keeps T (step T (loop0 T σ)))
          have k2 := k1.trans (expr_keeps T 11 (newName T (step T (loop0 T σ))))
          have he2 : (dos T f (seeing (counter T σ) (expr T 11 (newName T (step T (loop0 T σ)))).1)).1.err = 0 := he
          have he1 : (expr T 11 (newName T (step T (loop0 T σ)))).1.err = 0 := dos_st T f (seeing (counter T σ) (expr T 11 (newName T (step T (loop0 T σ)))).1) he2
          have g1 := ex _ k1 dd.1 he1
          show goodD (.fors p (counter T σ) (expr T 11 (newName T (step T (loop0 T σ)))).2 (dos T f (seeing (counter T σ) (expr T 11 (newName T (step T (loop0 T σ)))).1)).2) = true
          rw [goodD, g1, Bool.true_and]
          refine hd _ ⟨?_, Or.inl ⟨?_, ?_⟩⟩ he2
          · show 0 ≤ (expr T 11 (newName T (step T (loop0 T σ)))).1.depth; rw [k2.depth]; exact d0
          · show (expr T 11 (newName T (step T (loop0 T σ)))).1.depth ≤ 10; rw [k2.depth]; exact dd.1
          · show 11 - (expr T 11 (newName T (step T (loop0 T σ)))).1.depth ≤ (f : Int); rw [k2.depth]; omega
        · rename_i e4
          rw [if_neg e4] at he
          exact absurd he (here_ne (by decide))
theorem dosL_good {s : ByteArray} {T : List Tok} (hS : Scans s T) {f : Nat} (hd : 1 ≤ f → ∀ p σ, LvD T f σ → (doF T f p σ).1.err = 0 → goodD (doF T f p σ).2 = true) (m : Nat) : ∀ (σ : S) (l : List Do), Lv T f σ → goodL l = true → (dosL T (doF T f) m σ l).1.err = 0 → goodL (dosL T (doF T f) m σ l).2 = true := by
  induction m with
  | zero => intro σ l _ hg _; exact hg
  | succ m ih =>
    intro σ l hl hg he
    rw [dosL] at he ⊢
    split
    · rename_i e
      rw [if_pos e] at he
      have hlive : σ.depth ≤ 10 ∧ 11 - σ.depth ≤ (f : Int) := by
        rcases hl.2 with h | h
        · exact h
        · unfold isW at e
          rw [last_no hS h [40] (by decide)] at e
          exact absurd e (by decide)
      have kk := brkDo_keeps (T := T) (doF_keeps T f) σ
      have he1 := dosL_st (doF_st T f) m _ _ he
      refine ih _ _ ⟨by rw [kk.depth]; exact hl.1, Or.inl (by rw [kk.depth]; exact hlive)⟩ ?_ he
      rw [goodL_snoc, hg, Bool.true_and]
      exact hd (by omega) _ _ (lvD_opened hl.1 hlive.1 hlive.2) (closed_st T _ he1)
    · exact hg
theorem dos_good {s : ByteArray} {T : List Tok} (hS : Scans s T) (f : Nat) : ∀ σ, Lv T f σ → (dos T f σ).1.err = 0 → goodL (dos T f σ).2 = true := by
  induction f with
  | zero => exact fun σ hl he => dosL_good hS (fun h => by omega) T.length σ [] hl rfl he
  | succ f ih => exact fun σ hl he => dosL_good hS (fun _ p σ hl he => doX_good hS ih p hl he) T.length σ [] hl rfl he
theorem prog_good {s : ByteArray} {T : List Tok} (hS : Scans s T) (hd : (prog0 T).depth = 0) (he : (progS T).err = 0) : goodL (progD T) = true :=
  dos_good hS 11 _ ⟨by rw [hd]; omega, Or.inl (by rw [hd]; omega)⟩ (take_st T _ _ he)
theorem declsL_depth (T : List Tok) (m : Nat) : ∀ σ, (declsL T m σ).depth = σ.depth := by
  induction m with
  | zero => intro σ; rfl
  | succ m ih =>
    intro σ
    rw [declsL]
    split
    · rw [ih]; exact (dcl_keeps T σ).depth
    · rfl
theorem prog0_depth (T : List Tok) : (prog0 T).depth = 0 := declsL_depth T _ _
end K
end Go.Proofs.YtejbgcloblpbfaaGreatDoor
