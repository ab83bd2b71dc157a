import Derived.Test.YtejbgcloblpbfaaGreatDoorB42
import Derived.Test.YtejbgcloblpbfaaGreatDoorB26
namespace Go.Proofs.YtejbgcloblpbfaaGreatDoor
open R (Tok tk PS Thing)
open K (S Nm Ex Do Scans)
namespace Q
theorem size_val {s : ByteArray} (h : R.isSize s = true) : K.val s = ((R.byteAt s 0).toNat : Int) - 48 := by
  unfold R.isSize at h
  rw [Bool.and_eq_true, decide_eq_true_eq, decide_eq_true_eq] at h
  obtain ⟨h1, h2, h3⟩ := h
  obtain ⟨c, hc, hb⟩ := one_byte h1
  unfold K.val
  rw [hc, hb]
  rw [hb] at h2 h3
  have : c = 49 ∨ c = 50 ∨ c = 51 ∨ c = 52 ∨ c = 53 ∨ c = 54 := by
    have : c.toNat = 49 ∨ c.toNat = 50 ∨ c.toNat = 51 ∨ c.toNat = 52 ∨ c.toNat = 53 ∨ c.toNat = 54 := by omega
    rcases this with e | e | e | e | e | e
    · exact Or.inl (UInt8.toNat_inj.mp e)
    · exact Or.inr (Or.inl (UInt8.toNat_inj.mp e))
    · exact Or.inr (Or.inr (Or.inl (UInt8.toNat_inj.mp e)))
    · exact Or.inr (Or.inr (Or.inr (Or.inl (UInt8.toNat_inj.mp e))))
    · exact Or.inr (Or.inr (Or.inr (Or.inr (Or.inl (UInt8.toNat_inj.mp e)))))
    · exact Or.inr (Or.inr (Or.inr (Or.inr (Or.inr (UInt8.toNat_inj.mp e)))))
  rcases this with e | e | e | e | e | e <;> subst e <;> decide
theorem array_kd (T : List Tok) (τ : S) : KD τ (K.array T τ) := (((step_kd T τ).trans (take_kd T _ _)).trans (newName_kd T _)).trans (take_kd T _ _)
theorem dec0_kd (T : List Tok) (p : Int) (τ : S) : KD τ (K.dec0 T p τ) := by
  unfold K.dec0; split
  · exact fail_kd T _ _ _
  · exact KD.rfl' τ
theorem dec2_kd (T : List Tok) (τ : S) : KD τ (K.dec2 T τ) := (take_kd T _ τ).trans (newName_kd T _)
theorem decl_kd (T : List Tok) (p : Int) (τ : S) : KD τ (K.decl T p τ) := by
  unfold K.decl; split
  · exact (dec0_kd T p τ).trans (array_kd T _)
  · exact (dec0_kd T p τ).trans (dec2_kd T _)
theorem dcl_kd (T : List Tok) (τ : S) : KD τ (K.dcl T τ) := ((opened_kd T τ).trans (decl_kd T _ _)).trans (closed_kd T _)
theorem declsL_kd (T : List Tok) (n : Nat) : ∀ τ, KD τ (K.declsL T n τ) := by
  induction n with
  | zero => intro τ; exact KD.rfl' τ
  | succ n ih =>
    intro τ
    rw [K.declsL]
    split
    · exact (fun e => (dcl_kd T τ).trans (fun e' => ih (K.adds (K.dclN T τ) (K.dcl T τ)) e') e)
    · exact KD.rfl' τ
theorem Names.length {l : List Thing} {m : List Nm} (h : Names l m) : l.length = m.length := h.len
theorem sm_added {A : PS} {B : S} {t : Thing} {n : Nm} (h : Sm A B) (hn : SameN t n) : Sm (R.added t A) (K.adds n B) := ⟨h.e1, h.e2, h.i, h.nest, h.loops, h.names.snoc hn⟩
theorem dd_added {A : PS} {B : S} (t : Thing) (n : Nm) (h : Dd A B) : Dd (R.added t A) (K.adds n B) := ⟨h.e1, h.e2, h.p⟩
theorem dd_adds {A : PS} {B : S} (n : Nm) (h : Dd A B) : Dd A (K.adds n B) := ⟨h.e1, h.e2, h.p⟩
theorem shut_dd {T : List Tok} {A : PS} {B : S} (h : Dd A B) : Dd (R.shut T A) (K.closed T B) := by
  rcases shut_da (T := T) (σ := A) (L := []) (Or.inr h) with s | s
  · exfalso
    have e := s.1.e2
    have k := closed_kd T B (by rw [h.e2]; exact h.e1)
    rw [k.1, h.e2] at e
    exact h.e1 e
  · exact s
theorem fresh_dd {T : List Tok} {A : PS} {B : S} (h : Dd A B) : Dd (R.fresh T A) (K.newName T B) := by
  have e : R.fresh T A = A := by unfold R.fresh; rw [if_neg h.e1]
  rw [e]
  exact h.next (fun _ => ⟨rfl, rfl⟩) (newName_kd T B)
theorem dword_eqv {T : List Tok} {σ : PS} {τ : S} (h : Sm σ τ) (ha : ¬ (tk T σ.i).s.toList = R.kArray) (hd : R.isDecl (tk T σ.i).s.toList = true) (n : Nm) (hn : n = ⟨(tk T (K.dec1 T τ).i).s, 0, (tk T τ.i).s.toList == [115, 101, 99, 114, 101, 116], 1, τ.words⟩) :
    (Sm (R.declIn T σ) (K.adds n (K.closed T (K.dec2 T τ))) ∧ (R.declIn T σ).leak = σ.leak) ∨ Dd (R.declIn T σ) (K.adds n (K.closed T (K.dec2 T τ))) := by
  have ht := take_sm T h
  have e1 : K.dec1 T τ = K.step T τ := by
    unfold K.dec1
    refine take_yes ?_
    rw [← h.i]
    unfold R.isDecl at hd
    unfold K.isSec
    have : ((tk T σ.i).s.toList == R.kArray) = false := beq_no ha
    rw [this, Bool.or_false] at hd
    exact hd
  unfold R.declIn R.dHead
  rw [if_neg ha]
  dsimp only
  unfold R.dSize
  rw [if_neg (c := (1 : Int) = 2 ∧ _) (fun c => absurd c.1 (by decide))]
  dsimp only
  unfold K.dec2
  rw [e1]
  rw [e1] at hn
  rcases fresh_eqv T ht with a | a
  · rcases shut_eqv T (Or.inl a) with b | b
    · refine Or.inl ⟨sm_added b ?_, ?_⟩
      · rw [hn]
        refine ⟨?_, rfl, (by decide : (0 : Int) ≤ 0), (by decide : (0 : Int) ≤ 2), ?_, rfl⟩
        · show R.freshS T (R.take T σ) = (tk T (K.step T τ).i).s
          unfold R.freshS
          rw [if_pos ht.e1, ht.i]
        · show ((tk T σ.i).s.toList == R.kSecret) = _
          rw [h.i]; rfl
      · show (R.shut T (R.fresh T (R.take T σ))).leak = _
        rw [shut_leak, fresh_leak, take_leak]
    · exact Or.inr (dd_added _ _ b)
  · exact Or.inr (dd_added _ _ (shut_dd a))
theorem darr_eqv {T : List Tok} {σ : PS} {τ : S} (h : Sm σ τ) (ha : (tk T σ.i).s.toList = R.kArray) :
    (Sm (R.declIn T σ) (K.adds (K.arrayN T τ) (K.closed T (K.array T τ))) ∧ (R.declIn T σ).leak = σ.leak) ∨ Dd (R.declIn T σ) (K.adds (K.arrayN T τ) (K.closed T (K.array T τ))) := by
  have ht := take_sm T h
  unfold R.declIn R.dHead
  rw [if_pos ha]
  dsimp only
  have hi1 : (R.take T σ).i = (K.arrS1 T τ).i := ht.i
  by_cases e1 : (tk T (R.take T σ).i).s.toList = R.kPublic ∨ (tk T (R.take T σ).i).s.toList = R.kSecret
  · rw [if_pos e1]
    have s2 : K.arrS2 T τ = K.step T (K.step T τ) := by
      unfold K.arrS2
      refine take_yes ?_
      rw [← hi1]
      unfold K.isSec
      rw [Bool.or_eq_true, beq_iff_eq, beq_iff_eq]
      exact e1
    have h2 : Sm (R.take T (R.take T σ)) (K.arrS2 T τ) := by rw [s2]; exact take_sm T ht
    rcases fresh_eqv T h2 with a | a
    · have a' : Sm (R.fresh T (R.take T (R.take T σ))) (K.arrS3 T τ) := a
      unfold R.dSize
      rw [if_pos (c := (2 : Int) = 2 ∧ _) ⟨rfl, a'.e1⟩]
      by_cases e2 : R.isSize (tk T (R.fresh T (R.take T (R.take T σ))).i).s = true
      · rw [if_pos e2]
        dsimp only
        have e3 : K.array T τ = K.step T (K.arrS3 T τ) := by
          unfold K.array
          exact take_yes (by rw [← a'.i]; exact e2)
        rw [e3]
        rcases shut_eqv T (Or.inl (take_sm T a')) with b | b
        · refine Or.inl ⟨sm_added b ?_, ?_⟩
          · refine ⟨?_, rfl, (by decide : (0 : Int) ≤ 1), (by decide : (1 : Int) ≤ 2), ?_, ?_⟩
            · show R.freshS T (R.take T (R.take T σ)) = (tk T (K.arrS2 T τ).i).s
              unfold R.freshS
              rw [if_pos h2.e1, h2.i]
            · show ((tk T (R.take T σ).i).s.toList == R.kSecret) = _
              rw [hi1]; rfl
            · show _ = K.val (tk T (K.arrS3 T τ).i).s
              rw [← a'.i, size_val e2]
          · show (R.shut T (R.take T (R.fresh T (R.take T (R.take T σ))))).leak = _
            rw [shut_leak, take_leak, fresh_leak, take_leak, take_leak]
        · exact Or.inr (dd_added _ _ b)
      · rw [if_neg e2]
        dsimp only
        right
        have d : Dd (R.fail 2 (tk T (R.fresh T (R.take T (R.take T σ))).i).p (R.take T (R.fresh T (R.take T (R.take T σ))))) (K.array T τ) := by
          unfold K.array
          rw [take_no (by rw [← a'.i]; exact e2), a'.i]
          exact fail_dd ((rtake_err T _).trans a'.e1) a'.e2 (by decide) T _
        exact dd_adds _ (d.next (fun _ => ⟨rfl, rfl⟩) (closed_kd T _))
    · right
      unfold R.dSize
      rw [if_neg (c := (2 : Int) = 2 ∧ _) (fun c => a.e1 c.2)]
      dsimp only
      exact dd_added _ _ (shut_dd (a.next (fun _ => ⟨rfl, rfl⟩) (take_kd T _ _)))
  · rw [if_neg e1]
    right
    have d : Dd (R.fail 2 (tk T (R.take T σ).i).p (R.take T (R.take T σ))) (K.arrS2 T τ) := by
      unfold K.arrS2
      rw [take_no (by
        rw [← hi1]
        unfold K.isSec
        rw [Bool.or_eq_true, beq_iff_eq, beq_iff_eq]
        exact e1), hi1]
      exact fail_dd ((rtake_err T _).trans ht.e1) ht.e2 (by decide) T _
    have a := fresh_dd (T := T) d
    unfold R.dSize
    rw [if_neg (c := (2 : Int) = 2 ∧ _) (fun c => a.e1 c.2)]
    dsimp only
    exact dd_added _ _ (shut_dd (a.next (fun _ => ⟨rfl, rfl⟩) (take_kd T _ _)))
end Q
end Go.Proofs.YtejbgcloblpbfaaGreatDoor
namespace Go.Proofs.YtejbgcloblpbfaaGreatDoor
open R (Tok tk PS Thing)
open K (S Nm Ex Do Scans)
namespace Q
theorem decl_eqv {T : List Tok} (hE : R.Ended T) {k : Nat} {σ : PS} {τ : S} (h : Sm σ τ) (hb : R.DB k σ) (hi : σ.i < T.length) (e40 : (tk T σ.i).s.toList = [40]) (hd : R.isDecl (tk T (σ.i + 1)).s.toList = true) :
    (Sm (R.decl T σ) (K.adds (K.dclN T τ) (K.dcl T τ)) ∧ (R.decl T σ).leak = σ.leak) ∨ Dd (R.decl T σ) (K.adds (K.dclN T τ) (K.dcl T τ)) := by
  have oc := R.opens_core T σ
  have hil : σ.i + 1 < T.length := R.ended_lt hE hi (R.ne_of_list e40 (by decide))
  have ei : (R.opens T σ).i = σ.i + 1 := by rw [oc.2.2.1]; exact (R.take_i T σ).2.2.1 hil
  unfold R.decl K.dcl K.dclN
  rw [← h.i]
  rcases opens_eqv T h with o | o
  · have hn : (R.opens T σ).names = σ.names := congrArg (fun c => c.2.1) oc.1
    have hk : ((K.opened T τ).names.length : Int) = σ.names := by
      rw [← o.names.len, core_seen oc.1, hb.seen, hb.names]
    by_cases e8 : (R.opens T σ).names = 8
    · right
      rw [if_pos e8]
      have h8 : (K.opened T τ).names.length = 8 := by omega
      refine dd_adds _ ?_
      have d : Dd (R.fail 5 (tk T σ.i).p (R.opens T σ)) (K.dec0 T (tk T σ.i).p (K.opened T τ)) := by
        unfold K.dec0
        rw [if_pos h8]
        exact fail_dd o.e1 o.e2 (by decide) T _
      have d2 : KD (K.dec0 T (tk T σ.i).p (K.opened T τ)) (K.decl T (tk T σ.i).p (K.opened T τ)) := by
        unfold K.decl; split
        · exact array_kd T _
        · exact dec2_kd T _
      exact (d.next (fun _ => ⟨rfl, rfl⟩) d2).next (fun _ => ⟨rfl, rfl⟩) (closed_kd T _)
    · rw [if_neg e8]
      have h8 : ¬ (K.opened T τ).names.length = 8 := by omega
      have e0 : K.dec0 T (tk T σ.i).p (K.opened T τ) = K.opened T τ := by unfold K.dec0; rw [if_neg h8]
      unfold K.decl K.declN
      rw [e0, ← o.i]
      have ol := opens_leak T σ
      by_cases ha : (tk T (R.opens T σ).i).s.toList = R.kArray
      · have ha' : K.isArr (tk T (R.opens T σ).i) = true := by unfold K.isArr; exact beq_iff_eq.mpr ha
        rw [if_pos ha', if_pos ha']
        have r := darr_eqv o ha
        rw [ol] at r
        exact r
      · have ha' : ¬ K.isArr (tk T (R.opens T σ).i) = true := by unfold K.isArr; exact fun c => ha (beq_iff_eq.mp c)
        rw [if_neg ha', if_neg ha']
        have r := dword_eqv o ha (by rw [ei]; exact hd) ⟨(tk T (K.dec1 T (K.opened T τ)).i).s, 0, (tk T (K.opened T τ).i).s.toList == [115, 101, 99, 114, 101, 116], 1, (K.opened T τ).words⟩ rfl
        rw [ol, ← o.i] at r
        exact r
  · exfalso
    have hn : σ.nest = 0 := hb.nest
    have e : (R.opens T σ).err = 0 := by
      unfold R.opens R.open1 R.want
      rw [if_pos e40]
      rw [hn, if_neg (by decide)]
      exact (rtake_err T σ).trans h.e1
    exact o.e1 e
theorem decls_eqv {T : List Tok} (hE : R.Ended T) (n : Nat) : ∀ (m k : Nat) (σ : PS) (τ : S), Sm σ τ → R.DB k σ → k + m = 9 → k ≤ 8 → σ.i < T.length → T.length - σ.i ≤ n → σ.leak = -1 →
    (Sm (R.decls T m σ) (K.declsL T n τ) ∧ (R.decls T m σ).leak = -1 ∧ (∃ k, R.DB k (R.decls T m σ)) ∧ (R.decls T m σ).i < T.length) ∨ Dd (R.decls T m σ) (K.declsL T n τ) := by
  induction n with
  | zero => intro m k σ τ _ _ _ _ hi hn _; omega
  | succ n ih =>
    intro m k σ τ h hb hk h8 hi hn hl
    obtain ⟨m, rfl⟩ : ∃ j, m = j + 1 := ⟨m - 1, by omega⟩
    rw [R.decls, K.declsL]
    by_cases e40 : (tk T σ.i).s.toList = [40]
    · have hil : σ.i + 1 < T.length := R.ended_lt hE hi (R.ne_of_list e40 (by decide))
      have hnx : K.nx T τ.i = σ.i + 1 := by unfold K.nx; rw [← h.i, if_pos hil]
      by_cases ed : R.isDecl (tk T (σ.i + 1)).s.toList = true
      · have ek : K.isDcl T τ = true := by
          unfold K.isDcl
          rw [hnx, ed, ← h.i, isW_eq.mpr e40]
          rfl
        rw [if_pos (c := σ.err = 0 ∧ _) ⟨h.e1, e40, ed⟩, if_pos ek]
        have ov : τ.i + 1 ≤ (K.dcl T τ).i := K.dcl_over (by rw [← h.i]; exact hil) (by rw [← h.i]; exact isW_eq.mpr e40)
        rcases decl_eqv hE h hb hi e40 ed with ⟨a1, a2⟩ | a
        · obtain ⟨b1, b2⟩ := R.decl_db hb h8 a1.e1
          have ai : (R.decl T σ).i = (K.dcl T τ).i := a1.i
          have fw : (K.dcl T τ).i < T.length := (((K.opened_fwd T τ).trans ((K.decl_fwd T _ _).trans (K.closed_fwd T _))) (by rw [← h.i]; exact hi)).2
          have hi' := h.i
          exact ih m (k + 1) (R.decl T σ) _ a1 b2 (by omega) (by omega) (by omega) (by omega) (a2.trans hl)
        · right
          have : R.decls T m (R.decl T σ) = R.decl T σ := R.decls_stop (fun c => a.e1 c.1)
          rw [this]
          exact a.next (fun _ => ⟨rfl, rfl⟩) (declsL_kd T n _)
      · have ek : ¬ K.isDcl T τ = true := by
          unfold K.isDcl
          rw [hnx]
          intro c
          rw [Bool.and_eq_true] at c
          exact ed c.2
        rw [if_neg (c := σ.err = 0 ∧ _) (fun c => ed c.2.2), if_neg ek]
        exact Or.inl ⟨h, hl, ⟨k, hb⟩, hi⟩
    · have ek : ¬ K.isDcl T τ = true := by
        unfold K.isDcl
        intro c
        rw [Bool.and_eq_true, ← h.i] at c
        exact e40 (isW_eq.mp c.1)
      rw [if_neg (c := σ.err = 0 ∧ _) (fun c => e40 c.2.1), if_neg ek]
      exact Or.inl ⟨h, hl, ⟨k, hb⟩, hi⟩
end Q
end Go.Proofs.YtejbgcloblpbfaaGreatDoor
namespace Go.Proofs.YtejbgcloblpbfaaGreatDoor
open R (Tok tk PS Thing)
open K (S Nm Ex Do Scans)
namespace Q
def early (T : List Tok) : PS := R.behind T (R.done (R.does T 12 (R.decls T 9 R.start)).2 (R.does T 12 (R.decls T 9 R.start)).1)
theorem start_sm : Sm R.start K.start := ⟨rfl, rfl, rfl, rfl, rfl, trivial⟩
theorem prog_eqv {s : ByteArray} {T : List Tok} (hS : Scans s T) (hE : R.Ended T) (h0 : 0 < T.length) :
    (Sm (early T) (K.progS T) ∧ (early T).leak = mn (-1) (lds false (K.progD T)) ∧ ∀ q ∈ lds false (K.progD T), 0 ≤ q) ∨ Dd (early T) (K.progS T) := by
  unfold early K.progS K.progD K.prog0
  have hd := decls_eqv hE T.length 9 0 R.start K.start start_sm R.start_db (by omega) (by omega) h0 (by omega) rfl
  generalize R.decls T 9 R.start = A at *
  generalize K.declsL T T.length K.start = B at *
  have fin : ∀ {A : PS} {B : S} {L : List Int} (l : List Int), (Sm A B ∧ A.leak = mn (-1) L ∧ ∀ q ∈ L, 0 ≤ q) ∨ Dd A B → (Sm (R.behind T (R.done l A)) (K.expect T [] B) ∧ (R.behind T (R.done l A)).leak = mn (-1) L ∧ ∀ q ∈ L, 0 ≤ q) ∨ Dd (R.behind T (R.done l A)) (K.expect T [] B) := by
    intro A B L l h
    rcases h with ⟨h1, h2, h3⟩ | h
    · have h1' : Sm (R.done l A) B := ⟨h1.e1, h1.e2, h1.i, h1.nest, h1.loops, h1.names⟩
      have e : R.behind T (R.done l A) = R.want T [] (R.done l A) := by unfold R.behind; rw [if_pos h1'.e1]
      rw [e]
      rcases want_eqv T [] h1' with w | w
      · exact Or.inl ⟨w, by rw [want_leak]; exact h2, h3⟩
      · exact Or.inr w
    · have h' : Dd (R.done l A) B := ⟨h.e1, h.e2, h.p⟩
      have e : R.behind T (R.done l A) = R.done l A := by unfold R.behind; rw [if_neg h'.e1]
      rw [e]
      exact Or.inr (h'.next (fun _ => ⟨rfl, rfl⟩) (take_kd T _ _))
  rcases hd with ⟨d1, d2, ⟨k, d3⟩, d4⟩ | d
  · have e0 : B.depth = 0 := by rw [← d1.nest]; exact d3.nest
    have hH : Hs A false := ⟨by rw [d3.rest.2]; decide, by rw [d3.rest.2]; decide⟩
    have r := dos_eqv hS hE 11 12 A B false d1 hH d4 ⟨by omega, by omega, by omega⟩ ⟨by omega, by omega, by omega⟩
    unfold DA at r
    rw [d2] at r
    exact fin _ r
  · refine fin (L := lds false (K.dos T 11 B).2) _ (Or.inr ?_)
    rw [R.does_dead T 12 d.e1]
    exact d.next (fun _ => ⟨rfl, rfl⟩) (dos_kd T 11 B)
theorem readT_early (T : List Tok) : R.readT T = R.last (early T) := rfl
def fst (L : List Int) (g : K.GS) : K.GS := if g.2 = true then g else match L with | [] => g | p :: _ => (p, true)
theorem fst_app (L M : List Int) (g : K.GS) : fst (L ++ M) g = fst M (fst L g) := by
  obtain ⟨p, b⟩ := g
  cases b with
  | true => rfl
  | false => cases L with
    | nil => rfl
    | cons a L => rfl
end Q
end Go.Proofs.YtejbgcloblpbfaaGreatDoor
namespace Go.Proofs.YtejbgcloblpbfaaGreatDoor
open R (Tok tk PS Thing)
open K (S Nm Ex Do Scans)
namespace Q
theorem fst_nil (g : K.GS) : fst [] g = g := by unfold fst; split <;> rfl
theorem note_fst (p : Int) (b : Bool) (g : K.GS) : K.note p b g = fst (if b = true then [p] else []) g := by
  obtain ⟨q, c⟩ := g
  cases b <;> cases c <;> rfl
theorem gx_fst : ∀ (e : Ex) (g : K.GS), K.gx e g = fst (lx e) g
  | .get p n e, g => by rw [K.gx, lx, fst_app, gx_fst e, note_fst]
  | .op p o l r, g => by rw [K.gx, lx, fst_app, fst_app, gx_fst r, gx_fst l, note_fst]
  | .cho p q y n, g => by rw [K.gx, lx, fst_app, fst_app, gx_fst n, gx_fst y, gx_fst q]
  | .num .., g => (fst_nil g).symm
  | .use .., g => (fst_nil g).symm
  | .none, g => (fst_nil g).symm
mutual
theorem gd_fst (hid : Bool) : ∀ (d : Do) (g : K.GS), K.gd hid d g = fst (ld hid d) g
  | .set p n e, g => by rw [K.gd, ld, fst_app, gx_fst, note_fst]
  | .put p n i e, g => by rw [K.gd, ld, fst_app, fst_app, gx_fst, gx_fst, note_fst]
  | .ifs p q y n, g => by rw [K.gd, ld, fst_app, fst_app, gds_fst _ n, gds_fst _ y, gx_fst]
  | .fors p m r l, g => by rw [K.gd, ld, fst_app, fst_app, gds_fst _ l, gx_fst, note_fst]
  | .none, g => by rw [K.gd, ld, fst_nil]
theorem gds_fst (hid : Bool) : ∀ (l : List Do) (g : K.GS), K.gds hid l g = fst (lds hid l) g
  | [], g => by rw [K.gds, lds, fst_nil]
  | d :: l, g => by rw [K.gds, lds, fst_app, gds_fst hid l, gd_fst hid d]
end
theorem mn_first : ∀ (L : List Int) (p : Int), 0 ≤ p → (∀ q ∈ L, p ≤ q) → mn p L = p
  | [], _, _, _ => rfl
  | q :: L, p, hp, h => by
    show mn (lk p q) L = p
    have : lk p q = p := by
      have := h q List.mem_cons_self
      unfold lk
      rw [if_neg (by omega)]
    rw [this]
    exact mn_first L p hp (fun r hr => h r (List.mem_cons_of_mem _ hr))
end Q
end Go.Proofs.YtejbgcloblpbfaaGreatDoor
namespace Go.Proofs.YtejbgcloblpbfaaGreatDoor
open R (Tok tk PS Thing)
open K (S Nm Ex Do Scans)
namespace Q
def Grow (T : List Tok) : Prop := ∀ i j, i ≤ j → j < T.length → (tk T i).p ≤ (tk T j).p
structure Rg (T : List Tok) (i j : Nat) (L : List Int) : Prop where
  le : i ≤ j
  lt : j < T.length
  all : ∀ q ∈ L, (tk T i).p ≤ q ∧ q ≤ (tk T j).p
  fst : ∀ p M, L = p :: M → ∀ q ∈ M, p ≤ q
theorem Rg.nil {T : List Tok} {i j : Nat} (h : i ≤ j ∧ j < T.length) : Rg T i j [] := ⟨h.1, h.2, fun q hq => by simp at hq, fun p M e => by simp at e⟩
theorem Rg.one {T : List Tok} {i : Nat} (h : i < T.length) (b : Bool) : Rg T i i (if b = true then [(tk T i).p] else []) := by
  cases b with
  | false => exact Rg.nil ⟨Nat.le_refl _, h⟩
  | true =>
    refine ⟨Nat.le_refl _, h, fun q hq => ?_, fun p M e q hq => ?_⟩
    · have : q = (tk T i).p := by simpa using hq
      omega
    · have : M = [] := by simpa using (List.cons.inj e).2.symm
      rw [this] at hq
      simp at hq
theorem Rg.app {T : List Tok} (hG : Grow T) {i j k : Nat} {A B : List Int} (h : Rg T i j A) (g : Rg T j k B) : Rg T i k (A ++ B) := by
  have g1 := hG i j h.le h.lt
  have g2 := hG j k g.le g.lt
  refine ⟨Nat.le_trans h.le g.le, g.lt, fun q hq => ?_, fun p M e q hq => ?_⟩
  · rw [List.mem_append] at hq
    rcases hq with hq | hq
    · have := h.all q hq; omega
    · have := g.all q hq; omega
  · cases A with
    | nil => exact g.fst p M e q hq
    | cons a A =>
      have e' := List.cons.inj e
      obtain ⟨rfl, rfl⟩ := e'
      have hq : q ∈ A ++ B := hq
      rw [List.mem_append] at hq
      rcases hq with hq | hq
      · exact h.fst a A rfl q hq
      · have := h.all a List.mem_cons_self
        have := g.all q hq
        omega
theorem Rg.pre {T : List Tok} (hG : Grow T) {i j k : Nat} {L : List Int} (h : i ≤ j ∧ j < T.length) (g : Rg T j k L) : Rg T i k L := (Rg.nil h).app hG g
theorem Rg.post {T : List Tok} (hG : Grow T) {i j k : Nat} {L : List Int} (g : Rg T i j L) (h : j ≤ k ∧ k < T.length) : Rg T i k L := by
  have := g.app hG (Rg.nil h)
  rw [List.append_nil] at this
  exact this
def ExR (T : List Tok) (ex : S → S × Ex) : Prop := ∀ τ, τ.i < T.length → Rg T τ.i (ex τ).1.i (lx (ex τ).2)
theorem comp_rg {T : List Tok} (hG : Grow T) {ex : S → S × Ex} (h : ExR T ex) {i0 : Nat} {τ : S} (h0 : i0 ≤ τ.i) (hi : τ.i < T.length) : Rg T i0 (K.comp T ex (tk T i0).p τ).1.i (lx (K.comp T ex (tk T i0).p τ).2) := by
  have p1 := fun b => Rg.one (T := T) (i := i0) (by omega) b
  unfold K.comp
  split
  · have f := ((K.step_fwd T τ).trans (K.known_fwd T K.hasWords _)) hi
    exact (p1 _).app hG (Rg.pre hG ⟨Nat.le_trans h0 f.1, f.2⟩ (h _ f.2))
  · split
    · have f := K.step_fwd T τ hi
      have a := h _ f.2
      have b := h _ a.lt
      have c := h _ b.lt
      exact Rg.pre hG ⟨Nat.le_trans h0 f.1, f.2⟩ (a.app hG (b.app hG c))
    · split
      · have f := K.take_fwd T K.isOpS τ hi
        have a := h _ f.2
        have b := h _ a.lt
        exact (p1 _).app hG (Rg.pre hG ⟨Nat.le_trans h0 f.1, f.2⟩ (a.app hG b))
      · have f := K.fail_fwd T 2 (tk T τ.i).p τ hi
        exact Rg.nil ⟨Nat.le_trans h0 f.1, f.2⟩
theorem expr_rg {T : List Tok} (hG : Grow T) (f : Nat) : ExR T (K.expr T f) := by
  induction f with
  | zero => intro τ hi; exact Rg.nil ⟨Nat.le_refl _, hi⟩
  | succ f ih =>
    intro τ hi
    rw [K.expr]
    unfold K.exB
    split
    · have o := K.opened_fwd T τ hi
      have c := comp_rg hG ih o.1 o.2
      exact c.post hG (K.closed_fwd T _ c.lt)
    · split
      · exact Rg.nil (K.take_fwd T K.isNum τ hi)
      · exact Rg.nil (K.known_fwd T K.canRead τ hi)
end Q
end Go.Proofs.YtejbgcloblpbfaaGreatDoor
namespace Go.Proofs.YtejbgcloblpbfaaGreatDoor
open R (Tok tk PS Thing)
open K (S Nm Ex Do Scans)
namespace Q
def DsR (T : List Tok) (dos : S → S × List Do) : Prop := ∀ τ hid, τ.i < T.length → Rg T τ.i (dos τ).1.i (lds hid (dos τ).2)
theorem brk_rg {T : List Tok} (hG : Grow T) {dos : S → S × List Do} (h : DsR T dos) {τ : S} (hid : Bool) (hi : τ.i < T.length) : Rg T τ.i (K.brk T dos τ).1.i (lds hid (K.brk T dos τ).2) := by
  have o := K.opened_fwd T τ hi
  have d := h _ hid o.2
  exact (Rg.pre hG o d).post hG (K.closed_fwd T _ d.lt)
theorem doX_rg {T : List Tok} (hG : Grow T) {dos : S → S × List Do} (h : DsR T dos) {i0 : Nat} {τ : S} (hid : Bool) (h0 : i0 ≤ τ.i) (hi : τ.i < T.length) : Rg T i0 (K.doX T dos (tk T i0).p τ).1.i (ld hid (K.doX T dos (tk T i0).p τ).2) := by
  have p1 := fun b => Rg.one (T := T) (i := i0) (by omega) b
  have ex := expr_rg hG 11
  unfold K.doX
  split
  · have f := ((K.step_fwd T τ).trans (K.known_fwd T K.canSet _)) hi
    unfold K.setX
    dsimp only
    rw [ld]
    exact (p1 _).app hG (Rg.pre hG ⟨Nat.le_trans h0 f.1, f.2⟩ (ex _ f.2))
  · split
    · have f := ((K.step_fwd T τ).trans (K.known_fwd T K.hasWords _)) hi
      have a := ex _ f.2
      have b := ex _ a.lt
      unfold K.putX
      dsimp only
      rw [ld]
      exact (p1 _).app hG (Rg.pre hG ⟨Nat.le_trans h0 f.1, f.2⟩ (a.app hG b))
    · split
      · have f := K.step_fwd T τ hi
        have a := ex _ f.2
        unfold K.ifX
        dsimp only
        rw [ld]
        have b := brk_rg hG h (hid || K.sec (K.expr T 11 (K.step T τ)).2) a.lt
        have c := brk_rg hG h (hid || K.sec (K.expr T 11 (K.step T τ)).2) b.lt
        exact Rg.pre hG ⟨Nat.le_trans h0 f.1, f.2⟩ (a.app hG (b.app hG c))
      · split
        · have f := (((K.loop0_fwd T τ).trans (K.step_fwd T _)).trans (K.newName_fwd T _)) hi
          have a := ex _ f.2
          unfold K.forX
          dsimp only
          rw [ld]
          have b := h (K.seeing (K.counter T τ) (K.expr T 11 (K.newName T (K.loop1 T τ))).1) hid a.lt
          exact (p1 _).app hG (Rg.pre hG ⟨Nat.le_trans h0 f.1, f.2⟩ (a.app hG b))
        · have f := K.fail_fwd T 2 (tk T τ.i).p τ hi
          exact Rg.nil ⟨Nat.le_trans h0 f.1, f.2⟩
theorem dosL_rg {T : List Tok} (hG : Grow T) {f : Nat} (h : DsR T (K.dos T f)) (hid : Bool) (m : Nat) : ∀ (τ : S) (l : List Do) (i0 : Nat), τ.i < T.length → Rg T i0 τ.i (lds hid l) →
    Rg T i0 (K.dosL T (K.doF T (f + 1)) m τ l).1.i (lds hid (K.dosL T (K.doF T (f + 1)) m τ l).2) := by
  induction m with
  | zero => intro τ l i0 _ g; exact g
  | succ m ih =>
    intro τ l i0 hi g
    rw [K.dosL]
    split
    · have o := K.opened_fwd T τ hi
      have d : Rg T τ.i (K.doX T (K.dos T f) (tk T τ.i).p (K.opened T τ)).1.i (ld hid (K.doX T (K.dos T f) (tk T τ.i).p (K.opened T τ)).2) := doX_rg hG h hid o.1 o.2
      have d' := d.post hG (K.closed_fwd T _ d.lt)
      refine ih (K.brkDo T (K.doF T (f + 1)) τ).1 _ i0 d'.lt ?_
      rw [lds_snoc]
      exact g.app hG d'
    · exact g
theorem dos_rg {T : List Tok} (hG : Grow T) (f : Nat) : DsR T (K.dos T f) := by
  induction f with
  | zero =>
    intro τ hid hi
    have : ∀ m (τ : S) (l : List Do), τ.i < T.length → lds hid l = [] → Rg T τ.i (K.dosL T (K.doF T 0) m τ l).1.i (lds hid (K.dosL T (K.doF T 0) m τ l).2) := by
      intro m
      induction m with
      | zero => intro τ l hi e; show Rg T τ.i τ.i (lds hid l); rw [e]; exact Rg.nil ⟨Nat.le_refl _, hi⟩
      | succ m ih =>
        intro τ l hi e
        rw [K.dosL]
        split
        · have b := K.brkDo_fwd (T := T) (K.doF_fwd T 0) τ hi
          refine Rg.pre hG b (ih _ _ b.2 ?_)
          rw [lds_snoc, e]
          show [] ++ ld hid .none = []
          rw [ld]; rfl
        · show Rg T τ.i τ.i (lds hid l); rw [e]; exact Rg.nil ⟨Nat.le_refl _, hi⟩
    exact this _ τ [] hi (by rw [lds])
  | succ f ih =>
    intro τ hid hi
    refine dosL_rg hG ih hid T.length τ [] τ.i hi ?_
    rw [lds]
    exact Rg.nil ⟨Nat.le_refl _, hi⟩
end Q
end Go.Proofs.YtejbgcloblpbfaaGreatDoor
namespace Go.Proofs.YtejbgcloblpbfaaGreatDoor
open R (Tok tk PS Thing)
open K (S Nm Ex Do Scans)
namespace Q
theorem scan_ge (s : ByteArray) (i : Nat) : (i : Int) ≤ (K.scan s i).p := by
  show (i : Int) ≤ ((K.runOf K.blank s i : Nat) : Int)
  unfold K.runOf
  omega
theorem grow {s : ByteArray} {T : List Tok} (hS : Scans s T) : Grow T := by
  intro i j hij
  induction j with
  | zero => intro _; have : i = 0 := by omega
            rw [this]; exact Int.le_refl _
  | succ j ih =>
    intro hj
    by_cases e : i = j + 1
    · rw [e]; exact Int.le_refl _
    · have a := ih (by omega) (by omega)
      obtain ⟨p, e1, _, e3⟩ := hS.next j (by omega)
      have g := scan_ge s (p + (tk T j).s.size)
      rw [e3] at g
      unfold K.nx at g
      rw [if_pos hj] at g
      omega
theorem declsL_i {T : List Tok} (n : Nat) : ∀ τ : S, τ.i < T.length → (K.declsL T n τ).i < T.length := by
  induction n with
  | zero => intro τ h; exact h
  | succ n ih =>
    intro τ h
    rw [K.declsL]
    split
    · exact ih _ (((K.opened_fwd T τ).trans ((K.decl_fwd T _ _).trans (K.closed_fwd T _))) h).2
    · exact h
theorem check_same {s : ByteArray} {T : List Tok} (hS : Scans s T) (hE : R.Ended T) (hP : (early T).err = 0 → (early T).place = 0) : K.checkT T = ((R.readT T).err, (R.readT T).place) := by
  rw [readT_early]
  unfold K.checkT
  rcases prog_eqv hS hE hS.pos with ⟨a1, a2, a3⟩ | a
  · rw [if_pos a1.e2]
    have hg : K.found T = fst (lds false (K.progD T)) (0, false) := by unfold K.found; exact gds_fst _ _ _
    have hr : Rg T (K.prog0 T).i (K.dos T 11 (K.prog0 T)).1.i (lds false (K.progD T)) := dos_rg (grow hS) 11 (K.prog0 T) false (declsL_i _ _ hS.pos)
    have hp := hP a1.e1
    generalize lds false (K.progD T) = L at *
    rw [hg]
    unfold R.last
    cases L with
    | nil =>
      have a2 : (early T).leak = -1 := a2
      rw [if_neg (c := (early T).err = 0 ∧ _) (fun c => by omega), a1.e1, hp]
      rfl
    | cons p M =>
      have h0 := a3 p List.mem_cons_self
      have a2 : (early T).leak = p := by
        rw [a2]
        show mn (lk (-1) p) M = p
        have : lk (-1) p = p := by unfold lk; rw [if_pos (by omega)]
        rw [this]
        exact mn_first M p h0 (hr.fst p M rfl)
      rw [if_pos (c := (early T).err = 0 ∧ _) ⟨a1.e1, by omega⟩, a2]
      unfold R.fail
      rw [if_pos a1.e1]
      rfl
  · rw [if_neg (by rw [a.e2]; exact a.e1)]
    unfold R.last
    rw [if_neg (c := (early T).err = 0 ∧ _) (fun c => a.e1 c.1), a.e2, a.p]
end Q
end Go.Proofs.YtejbgcloblpbfaaGreatDoor
namespace Go.Proofs.YtejbgcloblpbfaaGreatDoor
open R (Tok tk PS Thing)
namespace Q
def Pz (σ : PS) : Prop := σ.err = 0 → σ.place = 0
theorem pz_take (T : List Tok) {σ : PS} (h : Pz σ) : Pz (R.take T σ) := by unfold R.take; split <;> exact h
theorem pz_fail {e : Int} (he : e ≠ 0) (p : Int) {σ : PS} (h : Pz σ) : Pz (R.fail e p σ) := by
  unfold R.fail; split
  · exact fun c => absurd c he
  · exact h
theorem pz_want (T : List Tok) (l : List UInt8) {σ : PS} (h : Pz σ) : Pz (R.want T l σ) := by
  unfold R.want; split
  · exact pz_take T h
  · exact pz_fail (by decide) _ (pz_take T h)
theorem pz_opens (T : List Tok) {σ : PS} (h : Pz σ) : Pz (R.opens T σ) := by
  have : Pz (R.open1 T σ) := by
    unfold R.open1; split
    · exact pz_fail (by decide) _ (pz_want T _ h)
    · exact pz_want T _ h
  exact this
theorem pz_shut (T : List Tok) {σ : PS} (h : Pz σ) : Pz (R.shut T σ) := by
  have : Pz (if σ.err = 0 then R.want T [41] σ else σ) := by
    split
    · exact pz_want T _ h
    · exact h
  exact this
theorem pz_leaks (p : Int) (b : Bool) {σ : PS} (h : Pz σ) : Pz (R.leaks p b σ) := by unfold R.leaks; split <;> exact h
theorem pz_known (T : List Tok) (a s : Bool) {σ : PS} (h : Pz σ) : Pz (R.known T a s σ) := by
  unfold R.known
  split
  · split
    · split
      · exact pz_fail (by decide) _ (pz_take T h)
      · exact pz_take T h
    · exact pz_fail (by decide) _ (pz_take T h)
  · exact h
theorem pz_fresh (T : List Tok) {σ : PS} (h : Pz σ) : Pz (R.fresh T σ) := by
  unfold R.fresh
  split
  · split
    · split
      · exact pz_fail (by decide) _ (pz_take T h)
      · exact pz_take T h
    · exact pz_fail (by decide) _ (pz_take T h)
  · exact h
theorem pz_args {rec : PS → PS × Int} (hr : ∀ σ, Pz σ → Pz (rec σ).1) (m : Nat) : ∀ (σ : PS) (L : List Int) (b : Bool), Pz σ → Pz (R.args rec m σ L b).1 := by
  induction m with
  | zero => intro σ L b h; exact h
  | succ m ih =>
    intro σ L b h
    rw [R.args]
    split
    · exact ih _ _ _ (hr σ h)
    · exact h
theorem pz_inner {T : List Tok} {rec : PS → PS × Int} (hr : ∀ σ, Pz σ → Pz (rec σ).1) (p : Int) {σ : PS} (h : Pz σ) : Pz (R.inner T rec p σ) := by
  have hh : Pz (R.headOf T σ).1 := by
    unfold R.headOf
    split
    · exact pz_known T _ _ (pz_take T h)
    · split
      · exact pz_take T h
      · split
        · exact pz_take T h
        · exact pz_fail (by decide) _ (pz_take T h)
  have : Pz (R.leaks p ((R.shut T (R.args rec (R.headOf T σ).2.2 (R.headOf T σ).1 [] false).1).err == 0 && (R.args rec (R.headOf T σ).2.2 (R.headOf T σ).1 [] false).2.2 && R.telling (tk T σ.i).s.toList) (R.shut T (R.args rec (R.headOf T σ).2.2 (R.headOf T σ).1 [] false).1)) := pz_leaks _ _ (pz_shut T (pz_args hr _ _ _ _ hh))
  exact this
theorem pz_expr (T : List Tok) (f : Nat) : ∀ σ, Pz σ → Pz (R.expr T f σ).1 := by
  induction f with
  | zero => intro σ h; exact h
  | succ f ih =>
    intro σ h
    rw [R.expr]
    split
    · split
      · split
        · exact pz_inner ih _ (pz_opens T h)
        · exact pz_opens T h
      · split
        · exact pz_take T h
        · exact pz_known T _ _ h
    · exact h
theorem pz_ex (T : List Tok) {σ : PS} (h : Pz σ) : Pz (R.ex T σ).1 := pz_expr T _ σ h
def PzL (d : PS → PS × List Int) : Prop := ∀ σ, Pz σ → Pz (d σ).1
theorem pz_block {T : List Tok} {does : PS → PS × List Int} (hd : PzL does) : PzL (R.block T does) := fun σ h => by
  unfold R.block; split
  · exact pz_shut T (hd _ (pz_opens T h))
  · exact h
theorem pz_word {T : List Tok} {does : PS → PS × List Int} (hd : PzL does) (p : Int) (w : Tok) {σ : PS} (h : Pz σ) : Pz (R.doWord T does p w σ).s := by
  unfold R.doWord
  split
  · exact pz_leaks _ _ (pz_ex T (pz_known T _ _ h))
  · split
    · exact pz_leaks _ _ (pz_ex T (pz_leaks _ _ (pz_ex T (pz_known T _ _ h))))
    · split
      · exact pz_block (T := T) hd _ (pz_block (T := T) hd _ (pz_ex T h))
      · split
        · unfold R.doFor
          have h1 : Pz (if σ.loops = 2 then R.fail 6 w.p σ else σ) := by
            split
            · exact pz_fail (by decide) _ h
            · exact h
          exact hd _ (pz_leaks _ _ (pz_ex T (pz_fresh T h1)))
        · exact pz_fail (by decide) _ h
theorem pz_doB {T : List Tok} {does : PS → PS × List Int} (hd : PzL does) {σ : PS} (h : Pz σ) : Pz (R.doB T does σ).1 := by
  unfold R.doB; split
  · exact pz_shut T (pz_word hd _ _ (pz_take T (pz_opens T h)))
  · exact pz_opens T h
theorem pz_doesL {T : List Tok} {dof : PS → PS × Int} (hd : ∀ σ, Pz σ → Pz (dof σ).1) (m : Nat) : ∀ (σ : PS) (L : List Int), Pz σ → Pz (R.doesL T dof m σ L).1 := by
  induction m with
  | zero => intro σ L h; exact h
  | succ m ih =>
    intro σ L h
    rw [R.doesL]
    split
    · exact ih _ _ (hd σ h)
    · exact h
theorem pz_doF (T : List Tok) (f : Nat) : ∀ σ, Pz σ → Pz (R.doF T f σ).1 := by
  induction f with
  | zero => intro σ h; exact h
  | succ f ih => intro σ h; exact pz_doB (fun σ h => pz_doesL ih _ _ _ h) h
theorem pz_decl (T : List Tok) {σ : PS} (h : Pz σ) : Pz (R.decl T σ) := by
  have ho := pz_opens T h
  unfold R.decl
  split
  · exact pz_fail (by decide) _ ho
  · unfold R.declIn
    have hh : ∀ (w : Tok) (σ : PS), Pz σ → Pz (R.dHead T w σ).1 := fun w σ h => by
      unfold R.dHead; split
      · dsimp only
        split
        · exact pz_take T h
        · exact pz_fail (by decide) _ (pz_take T h)
      · exact h
    have hz : ∀ (k : Int) (σ : PS), Pz σ → Pz (R.dSize T k σ).1 := fun k σ h => by
      unfold R.dSize; split
      · split
        · exact pz_take T h
        · exact pz_fail (by decide) _ (pz_take T h)
      · exact h
    have hz' := hz (R.dHead T (tk T (R.opens T σ).i) (R.take T (R.opens T σ))).2.1 _ (pz_fresh T (hh (tk T (R.opens T σ).i) _ (pz_take T ho)))
    dsimp only
    split
    · exact pz_shut T hz'
    · exact hz'
theorem pz_decls (T : List Tok) (m : Nat) : ∀ σ, Pz σ → Pz (R.decls T m σ) := by
  induction m with
  | zero => intro σ h; exact h
  | succ m ih =>
    intro σ h
    rw [R.decls]
    split
    · exact ih _ (pz_decl T h)
    · exact h
theorem pz_early (T : List Tok) : Pz (early T) := by
  have h1 : Pz (R.does T 12 (R.decls T 9 R.start)).1 := pz_doesL (pz_doF T 12) _ _ _ (pz_decls T 9 _ (fun _ => rfl))
  unfold early R.behind
  split
  · exact pz_want T _ h1
  · exact h1
theorem check_read {s : ByteArray} (hE : R.Ended (R.toks s)) : K.check s = ((R.read s).err, (R.read s).place) := by
  unfold K.check R.read
  by_cases h : 800 < s.size
  · rw [if_pos h, if_pos h]; rfl
  · rw [if_neg h, if_neg h]
    exact check_same (K.scans_toks (by omega)) hE (pz_early _)
end Q
end Go.Proofs.YtejbgcloblpbfaaGreatDoor
namespace Go.Proofs.YtejbgcloblpbfaaGreatDoor
open R (Tok tk PS Thing)
open K (S Nm Ex Do Scans)
namespace R
def flat (l : List Thing) : List Bool := l.flatMap fun t => List.replicate t.size.toNat t.sec
structure FL (k : Nat) (σ : PS) : Prop where
  shape : σ.shape = flat σ.seen
  bd : ∀ t ∈ σ.seen, 1 ≤ t.size ∧ t.size ≤ 6
  len : σ.seen.length ≤ k
  size : σ.size = (σ.shape.length : Int)
theorem FL.core {k : Nat} {σ σ' : PS} (h : FL k σ) (c : core σ' = core σ) : FL k σ' := by
  have hse : σ'.seen = σ.seen := congrArg (fun c => c.1) c
  have hsh : σ'.shape = σ.shape := congrArg (fun c => c.2.2.2.1) c
  have hsz : σ'.size = σ.size := congrArg (fun c => c.2.2.1) c
  exact ⟨by rw [hse, hsh]; exact h.shape, by rw [hse]; exact h.bd, by rw [hse]; exact h.len, by rw [hsz, hsh]; exact h.size⟩
theorem FL.more {k : Nat} {σ : PS} (h : FL k σ) : FL (k + 1) σ := ⟨h.shape, h.bd, Nat.le_succ_of_le h.len, h.size⟩
theorem FL.added {k : Nat} {σ : PS} (h : FL k σ) {t : Thing} (h1 : 1 ≤ t.size) (h2 : t.size ≤ 6) : FL (k + 1) (added t σ) := by
  refine ⟨?_, ?_, ?_, ?_⟩
  · show σ.shape ++ List.replicate t.size.toNat t.sec = flat (σ.seen ++ [t])
    unfold flat
    rw [List.flatMap_append, h.shape]
    simp [flat]
  · intro u hu
    have hu' : u ∈ σ.seen ++ [t] := hu
    rcases List.mem_append.1 hu' with h' | h'
    · exact h.bd u h'
    · rw [List.mem_singleton.1 h']; exact ⟨h1, h2⟩
  · show (σ.seen ++ [t]).length ≤ k + 1
    have := h.len
    simp; omega
  · show σ.size + t.size = ((σ.shape ++ List.replicate t.size.toNat t.sec).length : Int)
    have := h.size
    rw [List.length_append, List.length_replicate]
    omega
theorem decl_fl {T : List Tok} {k : Nat} {σ : PS} (h : FL k σ) : FL (k + 1) (decl T σ) := by
  have o1 := h.core (opens_core T σ).1
  unfold decl
  split
  · exact (o1.core (fail_core _ _ _).1).more
  · generalize opens T σ = σ1 at *
    unfold declIn
    dsimp only
    have s1 := take_same T σ1
    have s2 := dHead_same T (tk T σ1.i) (take T σ1)
    generalize dHead T (tk T σ1.i) (take T σ1) = H at *
    have s3 := fresh_same T H.1
    have s4 := dSize_same T H.2.1 (fresh T H.1)
    obtain ⟨σ6, z, hz⟩ : ∃ σ6 z, dSize T H.2.1 (fresh T H.1) = (σ6, z) := ⟨_, _, rfl⟩
    rw [hz] at s4 ⊢
    have sm := ((s1.tr s2).tr s3).tr s4
    cases z with
    | none => exact (o1.core sm.core).more
    | some n =>
      have hn := dSize_bd hz
      exact ((o1.core sm.core).core (shut_core T σ6).1).added (t := ⟨_, _, _, _, n⟩) hn.1 hn.2
theorem decls_fl (T : List Tok) (m : Nat) : ∀ (k : Nat) (σ : PS), FL k σ → FL (k + m) (decls T m σ) := by
  induction m with
  | zero => intro k σ h; exact h
  | succ m ih =>
    intro k σ h
    rw [decls]
    split
    · have := ih (k + 1) _ (decl_fl (T := T) h)
      rw [show k + (m + 1) = k + 1 + m by omega]
      exact this
    · exact ⟨h.shape, h.bd, by have := h.len; omega, h.size⟩
theorem start_fl : FL 0 start := ⟨rfl, (fun _ h => by cases h), Nat.le_refl _, rfl⟩
theorem decl_lt {T : List Tok} {σ : PS} (h : σ.i < T.length) : (decl T σ).i < T.length := by
  have ho : (opens T σ).i < T.length := by rw [(opens_core T σ).2.2.1]; exact (take_same T σ).lt h
  unfold decl
  split
  · rw [(fail_core _ _ _).2.2.1]; exact ho
  · generalize opens T σ = σ1 at *
    unfold declIn
    dsimp only
    have s1 := take_same T σ1
    have s2 := dHead_same T (tk T σ1.i) (take T σ1)
    generalize dHead T (tk T σ1.i) (take T σ1) = H at *
    have s3 := fresh_same T H.1
    have s4 := dSize_same T H.2.1 (fresh T H.1)
    obtain ⟨σ6, z, hz⟩ : ∃ σ6 z, dSize T H.2.1 (fresh T H.1) = (σ6, z) := ⟨_, _, rfl⟩
    rw [hz] at s4 ⊢
    have sm := ((s1.tr s2).tr s3).tr s4
    cases z with
    | none => exact sm.lt ho
    | some n => exact (shut_core T σ6).2.2.2.2 (sm.lt ho)
theorem decls_lt (T : List Tok) (m : Nat) : ∀ σ : PS, σ.i < T.length → (decls T m σ).i < T.length := by
  induction m with
  | zero => intro σ h; exact h
  | succ m ih =>
    intro σ h
    rw [decls]
    split
    · exact ih _ (decl_lt h)
    · exact h
theorem early_fl {T : List Tok} (hE : Ended T) (h0 : 0 < T.length) : FL 9 (Q.early T) := by
  have h := decls_fl T 9 0 start start_fl
  have hl := decls_lt T 9 start h0
  unfold Q.early
  generalize decls T 9 start = A at *
  have h2 : FL 9 (does T 12 A).1 := h.core (does_ok hE 12 hl).core
  have h3 : FL 9 (done (does T 12 A).2 (does T 12 A).1) := ⟨h2.shape, h2.bd, h2.len, h2.size⟩
  unfold behind
  split
  · exact h3.core (want_core T _ _).1
  · exact h3
theorem last_core (σ : PS) : core (last σ) = core σ := by
  unfold last; split
  · exact (fail_core _ _ _).1
  · rfl
end R
namespace K
def sum : List Nm → Int
  | [] => 0
  | n :: l => n.size + sum l
theorem sum_snoc (l : List Nm) (n : Nm) : sum (l ++ [n]) = sum l + n.size := by
  induction l with
  | nil => simp [sum]
  | cons a l ih => simp only [List.cons_append, sum, ih]; omega
def KW (τ : S) : Prop := τ.words = IntKind.i64.wrap (sum τ.names)
theorem wrap_add (a b : Int) : IntKind.i64.wrap (IntKind.i64.wrap a + b) = IntKind.i64.wrap (a + b) := by
  simp only [IntKind.wrap_i64]
  omega
theorem KW.keeps {σ τ : S} (h : KW σ) (k : Keeps σ τ) : KW τ := by unfold KW; rw [k.words, k.names]; exact h
theorem KW.adds {τ : S} (h : KW τ) (n : Nm) : KW (adds n τ) := by
  show IntKind.i64.wrap (τ.words + n.size) = IntKind.i64.wrap (sum (τ.names ++ [n]))
  rw [sum_snoc, h, wrap_add]
theorem declsL_kw (T : List Tok) (m : Nat) : ∀ τ, KW τ → KW (declsL T m τ) := by
  induction m with
  | zero => intro τ h; exact h
  | succ m ih =>
    intro τ h
    rw [declsL]
    split
    · exact ih _ ((h.keeps (dcl_keeps T τ)).adds _)
    · exact h
theorem progS_kw (T : List Tok) : KW (progS T) :=
  ((declsL_kw T T.length start (by unfold KW; decide)).keeps (dos_keeps T 11 _)).keeps (expect_keeps T _ _)
end K
namespace Q
theorem shape_same : ∀ {l : List Thing} {m : List Nm}, Names l m → R.flat l = K.shape m
  | [], [], _ => rfl
  | t :: l, n :: m, h => by
    have ih := shape_same h.2
    unfold R.flat K.shape at ih ⊢
    rw [List.flatMap_cons, List.flatMap_cons, ih, h.1.sec, h.1.size]
  | [], _ :: _, h => h.elim
  | _ :: _, [], h => h.elim
theorem sum_len : ∀ {l : List Thing} {m : List Nm}, Names l m → (∀ t ∈ l, 1 ≤ t.size ∧ t.size ≤ 6) → K.sum m = ((K.shape m).length : Int) ∧ 0 ≤ K.sum m ∧ K.sum m ≤ 6 * (l.length : Int) ∧ ∀ n ∈ m, 1 ≤ n.size ∧ n.size ≤ 6
  | [], [], _, _ => ⟨rfl, by simp [K.sum], by simp [K.sum], fun _ h => by cases h⟩
  | t :: l, n :: m, h, hb => by
    obtain ⟨i1, i2, i3, i4⟩ := sum_len h.2 fun u hu => hb u (List.mem_cons_of_mem _ hu)
    have ht := hb t (List.mem_cons_self ..)
    rw [h.1.size] at ht
    refine ⟨?_, ?_, ?_, ?_⟩
    · unfold K.shape at i1 ⊢
      rw [List.flatMap_cons, List.length_append, List.length_replicate, K.sum, i1]
      omega
    · rw [K.sum]; omega
    · rw [K.sum, List.length_cons]; omega
    · intro u hu
      rcases List.mem_cons.1 hu with rfl | hu
      · exact ht
      · exact i4 u hu
  | [], _ :: _, h, _ => h.elim
  | _ :: _, [], h, _ => h.elim
theorem shape_ok {s : ByteArray} (hs : s.size ≤ 800) (h : (R.read s).err = 0) :
    (K.progS (R.toks s)).err = 0 ∧ (K.found (R.toks s)).2 = false ∧ (R.read s).shape = K.shape (K.progS (R.toks s)).names ∧ (K.progS (R.toks s)).words = ((R.read s).shape.length : Int) ∧ (R.read s).shape.length ≤ 54 ∧
      (R.read s).size = ((R.read s).shape.length : Int) ∧ (∀ n ∈ (K.progS (R.toks s)).names, 1 ≤ n.size ∧ n.size ≤ 6) ∧ (K.progS (R.toks s)).names.length ≤ 9 := by
  have hE := R.toks_ended s
  have hl := (R.toks_len s).2
  have hk := check_read hE
  have hc : K.check s = K.checkT (R.toks s) := by unfold K.check; rw [if_neg (by omega)]
  have hr : R.read s = R.readT (R.toks s) := by unfold R.read; rw [if_neg (by omega)]
  rw [hc] at hk
  rw [hr] at h hk ⊢
  have hfl := R.early_fl hE hl
  have hkw := K.progS_kw (R.toks s)
  have hp := prog_eqv (K.scans_toks hs) hE hl
  rw [readT_early] at h hk ⊢
  rw [show (R.last (early (R.toks s))).shape = (early (R.toks s)).shape from congrArg (fun c => c.2.2.2.1) (R.last_core _)]
  rw [show (R.last (early (R.toks s))).size = (early (R.toks s)).size from congrArg (fun c => c.2.2.1) (R.last_core _)]
  have h1 : (K.checkT (R.toks s)).1 = 0 := by rw [hk]; exact h
  unfold K.checkT at h1
  have e0 : (K.progS (R.toks s)).err = 0 := by
    by_cases e : (K.progS (R.toks s)).err = 0
    · exact e
    · rw [if_neg e] at h1; exact h1
  rw [if_pos e0] at h1
  have e1 : (K.found (R.toks s)).2 = false := by
    cases e : (K.found (R.toks s)).2 with
    | false => rfl
    | true => rw [e, if_pos rfl] at h1; exact absurd h1 (by simp)
  rcases hp with ⟨sm, _, _⟩ | dd
  · have sh := shape_same sm.names
    obtain ⟨l1, l2, l3, l4⟩ := sum_len sm.names hfl.bd
    have hle := hfl.len
    have hln : ((early (R.toks s)).shape.length : Int) = K.sum (K.progS (R.toks s)).names := by rw [hfl.shape, sh, l1]
    refine ⟨e0, e1, by rw [hfl.shape, sh], ?_, by omega, hfl.size, l4, by rw [← Names.length sm.names]; exact hle⟩
    rw [hkw, hln]
    exact k64 _ (by omega)
  · exact absurd e0 (by rw [dd.e2]; exact dd.e1)
end Q
end Go.Proofs.YtejbgcloblpbfaaGreatDoor
