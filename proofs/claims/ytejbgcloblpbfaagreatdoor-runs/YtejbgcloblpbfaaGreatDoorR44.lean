import Derived.Test.YtejbgcloblpbfaaGreatDoorR37
import Derived.Test.YtejbgcloblpbfaaGreatDoorR43
namespace Go.Proofs.YtejbgcloblpbfaaGreatDoor
open R (Nd Tok tk PS Thing)
open K (Nm Ex Do S Scans)
namespace R
def PlR : Int → List Thing → Prop
  | _, [] => True
  | p, t :: l => t.pos = p ∧ PlR (p + t.size) l
def sumT : List Thing → Int
  | [] => 0
  | t :: l => t.size + sumT l
theorem PlR.snoc {t : Thing} : ∀ {l : List Thing} {p : Int}, PlR p l → t.pos = p + sumT l → PlR p (l ++ [t])
  | [], p, _, h => ⟨by rw [h, sumT]; omega, trivial⟩
  | u :: l, p, h, e => ⟨h.1, PlR.snoc h.2 (by rw [e, sumT]; omega)⟩
theorem sumT_snoc (t : Thing) : ∀ l : List Thing, sumT (l ++ [t]) = sumT l + t.size
  | [] => by simp [sumT]
  | u :: l => by rw [List.cons_append, sumT, sumT, sumT_snoc t l]; omega
structure RP (σ : PS) : Prop where
  pl : PlR 0 σ.seen
  sz : σ.size = sumT σ.seen
theorem RP.core {σ σ' : PS} (h : RP σ) (c : R.core σ' = R.core σ) : RP σ' := by
  have hse : σ'.seen = σ.seen := congrArg (fun c => c.1) c
  have hsz : σ'.size = σ.size := congrArg (fun c => c.2.2.1) c
  exact ⟨by rw [hse]; exact h.pl, by rw [hse, hsz]; exact h.sz⟩
theorem RP.added {σ : PS} (h : RP σ) {t : Thing} (e : t.pos = σ.size) : RP (added t σ) := by
  refine ⟨?_, ?_⟩
  · show PlR 0 (σ.seen ++ [t])
    exact h.pl.snoc (by rw [e, h.sz]; omega)
  · show σ.size + t.size = sumT (σ.seen ++ [t])
    rw [sumT_snoc, h.sz]
theorem decl_rp {T : List Tok} {σ : PS} (h : RP σ) : RP (decl T σ) := by
  have o1 := h.core (opens_core T σ).1
  unfold decl
  split
  · exact o1.core (fail_core _ _ _).1
  · generalize opens T σ = σ1 at *
    unfold declIn
    dsimp only
    have s1 := take_same T σ1
    have s2 := dHead_same T (tk T σ1.i) (take T σ1)
    generalize dHead T (tk T σ1.i) (take T σ1) = H at *
    have s3 := fresh_same T H.1
    have s4 := dSize_same T H.2.1 (fresh T H.1)
    obtain ⟨σ6, z, hz⟩ : ∃ σ6 z, dSize T H.2.1 (fresh T H.1) = (σ6, z) := ⟨_, _, rfl⟩
    rw [hz] at s4 ⊢
    have sm := ((s1.tr s2).tr s3).tr s4
    cases z with
    | none => exact o1.core sm.core
    | some n =>
      have c6 := (shut_core T σ6).1.trans sm.core
      exact (o1.core c6).added (t := ⟨_, _, _, _, n⟩) (show σ1.size = (shut T σ6).size from (congrArg (fun c => c.2.2.1) c6).symm)
theorem decls_rp (T : List Tok) (m : Nat) : ∀ σ : PS, RP σ → RP (decls T m σ) := by
  induction m with
  | zero => intro σ h; exact h
  | succ m ih =>
    intro σ h
    rw [decls]
    split
    · exact ih _ (decl_rp h)
    · exact h
theorem start_rp : RP start := ⟨trivial, rfl⟩
end R
namespace K
def PlK : Int → List Nm → Prop
  | _, [] => True
  | p, n :: l => n.place = IntKind.i64.wrap p ∧ n.kind ≤ 1 ∧ PlK (p + n.size) l
theorem PlK.snoc {n : Nm} (hk : n.kind ≤ 1) : ∀ {l : List Nm} {p : Int}, PlK p l → n.place = IntKind.i64.wrap (p + sum l) → PlK p (l ++ [n])
  | [], p, _, h => ⟨by rw [h, sum, Int.add_zero], hk, trivial⟩
  | u :: l, p, h, e => ⟨h.1, h.2.1, PlK.snoc hk h.2.2 (by rw [e, sum, Int.add_assoc])⟩
theorem dclN_pl (T : List Tok) (τ : S) : (dclN T τ).place = τ.words ∧ (dclN T τ).kind ≤ 1 := by
  have k1 := op2_keeps T τ
  have k2 : (dec0 T (tk T τ.i).p (opened T τ)).words = (opened T τ).words := by
    unfold dec0
    split
    · exact (fail_keeps ..).words
    · rfl
  have k3 : (opened T τ).words = τ.words := k1.words
  unfold dclN declN
  split
  · exact ⟨k2.trans k3, (by decide : (1 : Int) ≤ 1)⟩
  · exact ⟨k3, (by decide : (0 : Int) ≤ 1)⟩
theorem declsL_pl (T : List Tok) (m : Nat) : ∀ τ, KW τ → PlK 0 τ.names → PlK 0 (declsL T m τ).names := by
  induction m with
  | zero => intro τ _ h; exact h
  | succ m ih =>
    intro τ hw h
    rw [declsL]
    split
    · have kd := dcl_keeps T τ
      obtain ⟨p1, p2⟩ := dclN_pl T τ
      refine ih _ ((hw.keeps kd).adds _) ?_
      show PlK 0 ((dcl T τ).names ++ [dclN T τ])
      rw [kd.names]
      exact h.snoc p2 (by rw [p1, hw, Int.zero_add])
    · exact h
end K
namespace Q
theorem pls_of {W : Int} (hW : W ≤ 1000) : ∀ {l : List Thing} {m : List Nm} {p : Int}, Names l m → R.PlR p l → K.PlK p m → (∀ t ∈ l, 1 ≤ t.size ∧ t.size ≤ 6) → 0 ≤ p → p + R.sumT l ≤ W → Pls W l m
  | [], [], _, _, _, _, _, _, _ => trivial
  | t :: l, n :: m, p, h, hr, hk, hb, h0, hs => by
    have ht := hb t (List.mem_cons_self ..)
    have hs' : p + (t.size + R.sumT l) ≤ W := hs
    have hb' : ∀ u ∈ l, 1 ≤ u.size ∧ u.size ≤ 6 := fun u hu => hb u (List.mem_cons_of_mem _ hu)
    have hs0 : ∀ (l : List Thing), (∀ t ∈ l, 1 ≤ t.size ∧ t.size ≤ 6) → 0 ≤ R.sumT l := by
      intro l
      induction l with
      | nil => intro _; exact Int.le_refl _
      | cons a l ih =>
        intro hb
        have := ih fun u hu => hb u (List.mem_cons_of_mem _ hu)
        have := hb a (List.mem_cons_self ..)
        rw [R.sumT]; omega
    have hl0 := hs0 l hb'
    have ew : IntKind.i64.wrap p = p := k64 _ (by omega)
    refine ⟨⟨by rw [hr.1]; exact h0, fun _ => ⟨by rw [hk.1, hr.1, ew], by rw [hr.1]; omega, ht.1, ht.2⟩, fun e => ?_⟩, ?_⟩
    · have := hk.2.1; omega
    · refine pls_of hW h.2 hr.2 ?_ hb' (by omega) (by omega)
      rw [h.1.size]
      exact hk.2.2
  | [], _ :: _, _, h, _, _, _, _, _ => h.elim
  | _ :: _, [], _, h, _, _, _, _, _ => h.elim
end Q
end Go.Proofs.YtejbgcloblpbfaaGreatDoor
