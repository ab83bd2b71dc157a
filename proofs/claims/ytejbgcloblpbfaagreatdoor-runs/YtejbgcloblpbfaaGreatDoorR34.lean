import Derived.Test.YtejbgcloblpbfaaGreatDoorR33
namespace Go.Proofs.YtejbgcloblpbfaaGreatDoor
open R (Tok tk PS Thing)
open K (S Nm)
namespace Q
theorem Names.len : ∀ {l : List Thing} {m : List Nm}, Names l m → l.length = m.length
  | [], [], _ => rfl
  | _ :: _, _ :: _, h => by simp [Names.len h.2]
  | [], _ :: _, h => h.elim
  | _ :: _, [], h => h.elim
theorem Names.idx {s : List UInt8} : ∀ {l : List Thing} {m : List Nm}, Names l m → l.findIdx (R.isIt s) = m.findIdx (K.named s)
  | [], [], _ => rfl
  | t :: l, n :: m, h => by
    have e : R.isIt s t = K.named s n := by unfold R.isIt K.named; rw [h.1.name]
    rw [List.findIdx_cons, List.findIdx_cons, e, Names.idx h.2]
  | [], _ :: _, h => h.elim
  | _ :: _, [], h => h.elim
theorem Names.find {s : List UInt8} {l : List Thing} {m : List Nm} (h : Names l m) : R.find s l = K.idx s m := by
  unfold R.find K.idx
  rw [h.idx, h.len]
theorem Names.at : ∀ {l : List Thing} {m : List Nm}, Names l m → ∀ i, i < l.length → SameN (l.getD i R.noThing) (m.getD i K.noNm)
  | [], [], _, i, hi => by simp at hi
  | t :: l, n :: m, h, i, hi => by
    cases i with
    | zero => exact h.1
    | succ i => exact Names.at h.2 i (by simpa using hi)
  | [], _ :: _, h, _, _ => h.elim
  | _ :: _, [], h, _, _ => h.elim
theorem Names.snoc {t : Thing} {n : Nm} (hn : SameN t n) : ∀ {l : List Thing} {m : List Nm}, Names l m → Names (l ++ [t]) (m ++ [n])
  | [], [], _ => ⟨hn, trivial⟩
  | _ :: _, _ :: _, h => ⟨h.1, Names.snoc hn h.2⟩
  | [], _ :: _, h => h.elim
  | _ :: _, [], h => h.elim
theorem found_same {s : List UInt8} {l : List Thing} {m : List Nm} (h : Names l m) (hf : 0 ≤ R.find s l) : (K.findN s m).2 = true ∧ SameN (R.thingAt l (R.find s l)) (K.findN s m).1 := by
  have e := h.find (s := s)
  have hl := R.find_lt s l
  unfold K.findN
  rw [← e, if_pos hf]
  exact ⟨rfl, h.at _ (by omega)⟩
theorem found_none {s : List UInt8} {l : List Thing} {m : List Nm} (h : Names l m) (hf : R.find s l < 0) : K.findN s m = (K.noNm, false) := by
  have e := h.find (s := s)
  unfold K.findN
  rw [← e, if_neg (by omega)]
def Fits (array set : Bool) (fits : Nm → Bool) : Prop := ∀ t n, SameN t n → fits n = !(((t.kind == 2) != array) || (set && t.kind == 3))
theorem bq (a b : Int) : (a == b) = decide (a = b) := by
  by_cases h : a = b
  · rw [decide_eq_true h]; exact beq_yes h
  · rw [decide_eq_false h]; exact beq_no h
theorem fits_set : Fits false true K.canSet := fun t n h => by
  have h1 := h.kind; have h2 := h.k0; have h3 := h.k2
  unfold K.canSet
  have : n.kind = 0 ∨ n.kind = 1 ∨ n.kind = 2 := by omega
  rcases this with e | e | e <;> (rw [e] at h1; rw [h1, e]; decide)
theorem fits_words : Fits true false K.hasWords := fun t n h => by
  have h1 := h.kind; have h2 := h.k0; have h3 := h.k2
  unfold K.hasWords
  have : n.kind = 0 ∨ n.kind = 1 ∨ n.kind = 2 := by omega
  rcases this with e | e | e <;> (rw [e] at h1; rw [h1, e]; decide)
theorem fits_read : Fits false false K.canRead := fun t n h => by
  have h1 := h.kind; have h2 := h.k0; have h3 := h.k2
  unfold K.canRead
  have : n.kind = 0 ∨ n.kind = 1 ∨ n.kind = 2 := by omega
  rcases this with e | e | e <;> (rw [e] at h1; rw [h1, e]; decide)
theorem take_yes {T : List Tok} {f : ByteArray → Bool} {τ : S} (h : f (tk T τ.i).s = true) : K.take T f τ = K.step T τ := by unfold K.take; rw [if_pos h]
theorem take_no {T : List Tok} {f : ByteArray → Bool} {τ : S} (h : ¬ f (tk T τ.i).s = true) : K.take T f τ = K.fail T 2 (tk T τ.i).p τ := by unfold K.take; rw [if_neg h]; rfl
theorem known_eqv (T : List Tok) {array set : Bool} {fits : Nm → Bool} (hF : Fits array set fits) {σ : PS} {τ : S} (h : Sm σ τ) :
    (Sm (R.known T array set σ) (K.known T fits τ) ∧ SameN (R.knownT T array set σ) (K.knownN T τ)) ∨ Dd (R.known T array set σ) (K.known T fits τ) := by
  have ht := take_sm T h
  have hte := (rtake_err T σ).trans h.e1
  unfold R.known R.knownT K.known K.knownN
  rw [if_pos h.e1, h.i]
  by_cases hn : R.isName (tk T τ.i).s = true
  · rw [if_pos hn, take_yes hn]
    by_cases hf : R.find (tk T τ.i).s.toList σ.seen < 0
    · have hw : R.wrong σ.seen (tk T τ.i).s.toList array set = true := by unfold R.wrong; rw [decide_eq_true hf]; rfl
      rw [if_pos hw, found_none h.names hf]
      exact Or.inr (fail_dd hte h.e2 (by decide) T _)
    · obtain ⟨f1, f2⟩ := found_same h.names (by omega : 0 ≤ R.find (tk T τ.i).s.toList σ.seen)
      have hfit := hF _ _ f2
      have hwr : R.wrong σ.seen (tk T τ.i).s.toList array set = !(fits (K.findN (tk T τ.i).s.toList τ.names).1) := by
        unfold R.wrong
        rw [decide_eq_false hf, hfit, Bool.not_not, Bool.false_or]
      rw [hwr, f1, Bool.true_and]
      cases e : fits (K.findN (tk T τ.i).s.toList τ.names).1 with
      | true =>
        rw [if_neg (by decide), if_pos rfl, if_pos ⟨h.e1, hn, rfl⟩]
        exact Or.inl ⟨ht, f2⟩
      | false =>
        rw [if_pos (by decide), if_neg (by decide)]
        exact Or.inr (fail_dd hte h.e2 (by decide) T _)
  · rw [if_neg hn, take_no hn]
    have d := fail_dd hte h.e2 (e := 2) (by decide) T (tk T τ.i).p
    right
    split
    · exact d
    · exact d.next (fun _ => ⟨rfl, rfl⟩) (fail_kd T _ _ _)
theorem fresh_eqv (T : List Tok) {σ : PS} {τ : S} (h : Sm σ τ) : Eqv (R.fresh T σ) (K.newName T τ) := by
  have ht := take_sm T h
  have hte := (rtake_err T σ).trans h.e1
  unfold R.fresh K.newName
  rw [if_pos h.e1, h.i]
  by_cases hn : R.isName (tk T τ.i).s = true
  · rw [if_pos hn, take_yes hn]
    by_cases hf : 0 ≤ R.find (tk T τ.i).s.toList σ.seen
    · rw [if_pos hf, (found_same h.names hf).1, if_pos rfl]
      exact Or.inr (fail_dd hte h.e2 (by decide) T _)
    · rw [if_neg hf, found_none h.names (by omega), if_neg (by decide)]
      exact Or.inl ht
  · rw [if_neg hn, take_no hn]
    have d := fail_dd hte h.e2 (e := 2) (by decide) T (tk T τ.i).p
    split
    · exact Or.inr (d.next (fun _ => ⟨rfl, rfl⟩) (fail_kd T _ _ _))
    · exact Or.inr d
theorem numOf_snd (sg : Int) (l : List UInt8) : (R.numOf sg l).2 = (decide (1 ≤ l.length) && (decide (l.length ≤ 9) && l.all R.dig)) := by
  unfold R.numOf
  by_cases ha : l.all R.dig = true ∧ l.length ≤ 9
  · rw [if_pos ha, ha.1, decide_eq_true ha.2, Bool.and_true, Bool.and_true]
    show decide (0 < l.length) = decide (1 ≤ l.length)
    rfl
  · rw [if_neg ha]
    by_cases h1 : l.all R.dig = true
    · have h2 : ¬ l.length ≤ 9 := fun h => ha ⟨h1, h⟩
      rw [decide_eq_false h2]; simp
    · have h3 : l.all R.dig = false := by cases e : l.all R.dig with
        | true => exact absurd e h1
        | false => rfl
      rw [h3]; simp
theorem num_same (s : ByteArray) : K.isNum s = (R.number s.data.toList).2 := by
  unfold K.isNum K.madeOf
  obtain ⟨⟨l⟩⟩ := s
  have hs : (ByteArray.mk (Lib.trimPrefix l [45]).toArray).size = (Lib.trimPrefix l [45]).length := by
    show (Lib.trimPrefix l [45]).toArray.size = _
    simp
  show (decide (1 ≤ (ByteArray.mk (Lib.trimPrefix l [45]).toArray).size) && (decide ((ByteArray.mk (Lib.trimPrefix l [45]).toArray).size ≤ 9) && (Lib.trimPrefix l [45]).all R.dig)) = (R.number l).2
  rw [hs]
  have key : Lib.trimPrefix l [45] = if l.head? = some 45 then l.tail else l := by
    unfold Lib.trimPrefix
    cases l with
    | nil => rfl
    | cons c r =>
      by_cases hc : c = 45
      · subst hc
        simp [Lib.hasPrefix]
      · have h2 : ¬ (45 : UInt8) = c := fun h => hc h.symm
        simp [Lib.hasPrefix, hc, h2]
  rw [key]
  unfold R.number
  by_cases h : l.head? = some 45
  · rw [if_pos h, if_pos h, numOf_snd]
  · rw [if_neg h, if_neg h, numOf_snd]
end Q
end Go.Proofs.YtejbgcloblpbfaaGreatDoor
namespace Go.Proofs.YtejbgcloblpbfaaGreatDoor
open R (Tok tk PS Thing)
open K (S Nm Ex)
namespace Q
def lk (l p : Int) : Int := if l < 0 ∨ p < l then p else l
def mn (l : Int) (L : List Int) : Int := L.foldl lk l
theorem lk_comm {l p q : Int} (hp : 0 ≤ p) (hq : 0 ≤ q) : lk (lk l p) q = lk (lk l q) p := by
  unfold lk
  repeat' split
  all_goals omega
theorem lk_twice (l p : Int) : lk (lk l p) p = lk l p := by
  unfold lk
  repeat' split
  all_goals omega
theorem mn_lk {p : Int} (hp : 0 ≤ p) : ∀ (L : List Int) (l : Int), (∀ q ∈ L, 0 ≤ q) → mn (lk l p) L = lk (mn l L) p
  | [], _, _ => rfl
  | q :: L, l, h => by
    show mn (lk (lk l p) q) L = lk (mn (lk l q) L) p
    rw [lk_comm hp (h q List.mem_cons_self)]
    exact mn_lk hp L _ (fun r hr => h r (List.mem_cons_of_mem _ hr))
theorem mn_app (l : Int) (L M : List Int) : mn l (L ++ M) = mn (mn l L) M := List.foldl_append ..
theorem leaks_leak (p : Int) (is : Bool) (σ : PS) : (R.leaks p is σ).leak = if is = true then lk σ.leak p else σ.leak := by
  unfold R.leaks lk
  cases is with
  | false => simp
  | true =>
    by_cases h : σ.leak < 0 ∨ p < σ.leak
    · rw [if_pos ⟨rfl, h⟩, if_pos rfl, if_pos h]
    · rw [if_neg (fun c => h c.2), if_pos rfl, if_neg h]
theorem take_leak (T : List Tok) (σ : PS) : (R.take T σ).leak = σ.leak := by unfold R.take; split <;> rfl
theorem fail_leak (e p : Int) (σ : PS) : (R.fail e p σ).leak = σ.leak := by unfold R.fail; split <;> rfl
theorem want_leak (T : List Tok) (l : List UInt8) (σ : PS) : (R.want T l σ).leak = σ.leak := by
  unfold R.want; split
  · exact take_leak T σ
  · rw [fail_leak, take_leak]
theorem opens_leak (T : List Tok) (σ : PS) : (R.opens T σ).leak = σ.leak := by
  unfold R.opens R.open1
  split
  · show (R.fail _ _ _).leak = _; rw [fail_leak, want_leak]
  · exact want_leak T _ σ
theorem shut_leak (T : List Tok) (σ : PS) : (R.shut T σ).leak = σ.leak := by
  unfold R.shut
  split
  · exact want_leak T _ σ
  · rfl
theorem known_leak (T : List Tok) (a s : Bool) (σ : PS) : (R.known T a s σ).leak = σ.leak := by
  unfold R.known
  split
  · split
    · split
      · rw [fail_leak, take_leak]
      · exact take_leak T σ
    · rw [fail_leak, take_leak]
  · rfl
def lx : Ex → List Int
  | .get p _ e => (if K.sec e = true then [p] else []) ++ lx e
  | .op p o l r => (if (o == 47 && (K.sec l || K.sec r)) = true then [p] else []) ++ (lx l ++ lx r)
  | .cho _ q y n => lx q ++ (lx y ++ lx n)
  | _ => []
def kArgs (ex : S → S × Ex) : Nat → S → S × List Ex
  | 0, τ => (τ, [])
  | n + 1, τ => ((kArgs ex n (ex τ).1).1, (ex τ).2 :: (kArgs ex n (ex τ).1).2)
theorem kArgs_kd {ex : S → S × Ex} (h : ∀ τ, KD τ (ex τ).1) : ∀ n τ, KD τ (kArgs ex n τ).1
  | 0, τ => KD.rfl' τ
  | n + 1, τ => (h τ).trans (kArgs_kd h n _)
structure Alike (σ : PS) (a : PS × Int) (b : S × Ex) : Prop where
  sm : Sm a.1 b.1
  sec : (R.nodeAt a.1 a.2).sec = K.sec b.2
  leak : a.1.leak = mn σ.leak (lx b.2)
  pos : ∀ q ∈ lx b.2, 0 ≤ q
def Both (σ : PS) (a : PS × Int) (b : S × Ex) : Prop := Alike σ a b ∨ Dd a.1 b.1
def Rec (T : List Tok) (m f : Nat) : Prop := ∀ σ τ, Sm σ τ → σ.i < T.length → T.length - σ.i ≤ m → 0 ≤ τ.depth → τ.depth ≤ 10 → 11 - τ.depth ≤ (f : Int) → Both σ (R.expr T m σ) (K.expr T f τ)
theorem args_eqv {T : List Tok} (hE : R.Ended T) {m f : Nat} (hr : Rec T m f) (n : Nat) : ∀ (σ : PS) (τ : S) (L : List Int) (b : Bool), Sm σ τ → σ.i < T.length → T.length - σ.i ≤ m → 0 ≤ τ.depth → τ.depth ≤ 10 → 11 - τ.depth ≤ (f : Int) →
    (Sm (R.args (R.expr T m) n σ L b).1 (kArgs (K.expr T f) n τ).1 ∧ (R.args (R.expr T m) n σ L b).2.2 = (b || (kArgs (K.expr T f) n τ).2.any K.sec) ∧ (R.args (R.expr T m) n σ L b).1.leak = mn σ.leak ((kArgs (K.expr T f) n τ).2.flatMap lx) ∧ ∀ q ∈ (kArgs (K.expr T f) n τ).2.flatMap lx, 0 ≤ q) ∨
    Dd (R.args (R.expr T m) n σ L b).1 (kArgs (K.expr T f) n τ).1 := by
  induction n with
  | zero => intro σ τ L b h _ _ _ _ _; exact Or.inl ⟨h, by simp [R.args, kArgs], rfl, fun q hq => by simp [kArgs] at hq⟩
  | succ n ih =>
    intro σ τ L b h hi hm d0 d1 df
    rw [R.args, if_pos h.e1, kArgs]
    have ok := R.expr_ok hE m σ hi
    have kk := K.expr_keeps T f τ
    rcases hr σ τ h hi hm d0 d1 df with a | a
    · have := ih (R.expr T m σ).1 (K.expr T f τ).1 (L ++ [(R.expr T m σ).2]) (b || ((R.expr T m σ).1.err == 0 && (R.nodeAt (R.expr T m σ).1 (R.expr T m σ).2).sec)) a.sm ok.lt (by have := ok.le; omega) (by rw [kk.depth]; exact d0) (by rw [kk.depth]; exact d1) (by rw [kk.depth]; exact df)
      rcases this with ⟨t1, t2, t3, t4⟩ | t
      · left
        refine ⟨t1, ?_, ?_, ?_⟩
        · rw [t2, a.sec, a.sm.e1]
          simp [Bool.or_assoc]
        · rw [t3, a.leak, List.flatMap_cons, mn_app]
        · intro q hq
          rw [List.flatMap_cons, List.mem_append] at hq
          rcases hq with hq | hq
          · exact a.pos q hq
          · exact t4 q hq
      · exact Or.inr t
    · right
      rw [R.args_dead _ _ _ _ _ a.e1]
      exact a.next (fun _ => ⟨rfl, rfl⟩) (kArgs_kd (expr_kd T f) n _)
end Q
end Go.Proofs.YtejbgcloblpbfaaGreatDoor
namespace Go.Proofs.YtejbgcloblpbfaaGreatDoor
open R (Tok tk PS Thing)
open K (S Nm Ex Scans)
namespace Q
theorem pos_tok {s : ByteArray} {T : List Tok} (hS : Scans s T) {i : Nat} (hi : i < T.length) : 0 ≤ (tk T i).p := by
  obtain ⟨p, e, _⟩ := hS.next i hi
  omega
theorem comp_get {T : List Tok} {f : Nat} {p : Int} {τ : S} (h : (tk T τ.i).s.toList = R.kGet) : K.comp T (K.expr T f) p τ = ((kArgs (K.expr T f) 1 (K.known T K.hasWords (K.step T τ))).1, .get p (K.knownN T (K.step T τ)) (K.expr T f (K.known T K.hasWords (K.step T τ))).2) := by
  unfold K.comp
  rw [if_pos (by rw [h]; decide)]
  rfl
theorem comp_cho {T : List Tok} {f : Nat} {p : Int} {τ : S} (h1 : ¬ (tk T τ.i).s.toList = R.kGet) (h : (tk T τ.i).s.toList = R.kChoose) : K.comp T (K.expr T f) p τ = K.choX T (K.expr T f) p τ := by
  unfold K.comp
  rw [if_neg (c := ((tk T τ.i).s.toList == K.kGet) = true) (fun c => h1 (eq_of_beq c)), if_pos (by rw [h]; decide)]
theorem comp_op {T : List Tok} {f : Nat} {p : Int} {τ : S} (h1 : ¬ (tk T τ.i).s.toList = R.kGet) (h2 : ¬ (tk T τ.i).s.toList = R.kChoose) (h : R.sign (tk T τ.i).s.toList = true) : K.comp T (K.expr T f) p τ = K.opX T (K.expr T f) p τ := by
  unfold K.comp
  rw [if_neg (c := ((tk T τ.i).s.toList == K.kGet) = true) (fun c => h1 (eq_of_beq c)), if_neg (c := ((tk T τ.i).s.toList == K.kChoose) = true) (fun c => h2 (eq_of_beq c)), if_pos (show K.isOpS (tk T τ.i).s = true from h)]
theorem comp_none {T : List Tok} {f : Nat} {p : Int} {τ : S} (h1 : ¬ (tk T τ.i).s.toList = R.kGet) (h2 : ¬ (tk T τ.i).s.toList = R.kChoose) (h : ¬ R.sign (tk T τ.i).s.toList = true) : K.comp T (K.expr T f) p τ = (K.here T 2 τ, .none) := by
  unfold K.comp
  rw [if_neg (c := ((tk T τ.i).s.toList == K.kGet) = true) (fun c => h1 (eq_of_beq c)), if_neg (c := ((tk T τ.i).s.toList == K.kChoose) = true) (fun c => h2 (eq_of_beq c)), if_neg (show ¬ K.isOpS (tk T τ.i).s = true from h)]
theorem node_last (n : R.Nd) (σ : PS) : R.nodeAt (R.addNode n σ) (R.lastN (R.addNode n σ)) = n := by
  unfold R.nodeAt R.lastN R.addNode
  simp
theorem sm_add {σ : PS} {τ : S} (h : Sm σ τ) (n : R.Nd) : Sm (R.addNode n σ) τ := ⟨h.e1, h.e2, h.i, h.nest, h.loops, h.names⟩
theorem dd_add {σ : PS} {τ : S} (h : Dd σ τ) (n : R.Nd) : Dd (R.addNode n σ) τ := ⟨h.e1, h.e2, h.p⟩
theorem sm_leaks {σ : PS} {τ : S} (h : Sm σ τ) (p : Int) (is : Bool) : Sm (R.leaks p is σ) τ := by
  have c := R.leaks_core p is σ
  have c1 : (R.leaks p is σ).seen = σ.seen := congrArg (fun c => c.1) c.1
  have c2 : (R.leaks p is σ).loops = σ.loops := congrArg (fun c => c.2.2.2.2.1) c.1
  exact ⟨c.2.2.2.2.trans h.e1, h.e2, c.2.2.1.trans h.i, c.2.2.2.1.trans h.nest, c2.trans h.loops, by rw [c1]; exact h.names⟩
theorem leaks_place (p : Int) (is : Bool) (σ : PS) : (R.leaks p is σ).place = σ.place := by unfold R.leaks; split <;> rfl
theorem dd_leaks {σ : PS} {τ : S} (h : Dd σ τ) (p : Int) (is : Bool) : Dd (R.leaks p is σ) τ := by
  have c := R.leaks_core p is σ
  exact ⟨by rw [c.2.2.2.2]; exact h.e1, by rw [c.2.2.2.2]; exact h.e2, by rw [leaks_place]; exact h.p⟩
theorem tail_eqv {T : List Tok} {A : PS} {B : S} (h : Sm A B) (N : R.Nd) (p : Int) (is : Bool) (wd : Bool) :
    (Sm (R.addNode N (R.leaks p ((R.shut T A).err == 0 && is && wd) (R.shut T A))) (K.closed T B) ∧ (R.addNode N (R.leaks p ((R.shut T A).err == 0 && is && wd) (R.shut T A))).leak = (if (is && wd) = true then lk A.leak p else A.leak)) ∨
    Dd (R.addNode N (R.leaks p ((R.shut T A).err == 0 && is && wd) (R.shut T A))) (K.closed T B) := by
  rcases shut_eqv T (Or.inl h) with s | s
  · left
    refine ⟨sm_add (sm_leaks s p _) N, ?_⟩
    show (R.leaks p _ (R.shut T A)).leak = _
    rw [leaks_leak, shut_leak, s.e1]
    simp
  · exact Or.inr (dd_add (dd_leaks s p _) N)
theorem tail_dead {T : List Tok} {A : PS} {B : S} (h : Dd A B) (N : R.Nd) (p : Int) (is : Bool) : Dd (R.addNode N (R.leaks p is (R.shut T A))) (K.closed T B) := by
  rcases shut_eqv T (Or.inr h) with s | s
  · exfalso
    have e := s.e2
    have k := closed_kd T B (by rw [h.e2]; exact h.e1)
    rw [k.1, h.e2] at e
    exact h.e1 e
  · exact dd_add (dd_leaks s p _) N
theorem sign_byte {s : ByteArray} (h : R.sign s.toList = true) : R.telling s.toList = (R.byteAt s 0 == 47) ∧ s.toList ≠ [] := by
  by_cases hl : s.size = 1
  · obtain ⟨c, hc, hb⟩ := one_byte hl
    rw [ByteArray.toList_eq, hc, hb]
    refine ⟨?_, by simp⟩
    unfold R.telling R.kGet
    have : (([c] : List UInt8) == [103, 101, 116]) = false := beq_no (by simp)
    rw [this, Bool.false_or]
    by_cases e : c = 47
    · subst e; decide
    · rw [beq_no e]; exact beq_no (by simpa using e)
  · rw [sign_long hl] at h
    exact absurd h (by decide)
theorem inner_eqv {s : ByteArray} {T : List Tok} (hS : Scans s T) (hE : R.Ended T) {m f : Nat} (hr : Rec T m f) {σ : PS} {τ : S} (h : Sm σ τ) (hi : σ.i < T.length) (hm : T.length - σ.i ≤ m) (d0 : 0 ≤ τ.depth) (hd : τ.depth ≤ 10 ∧ 11 - τ.depth ≤ (f : Int) ∨ τ.i = T.length - 1) (p : Int) (hp : 0 ≤ p) :
    (Sm (R.inner T (R.expr T m) p σ) (K.closed T (K.comp T (K.expr T f) p τ).1) ∧ (R.nodeAt (R.inner T (R.expr T m) p σ) (R.lastN (R.inner T (R.expr T m) p σ))).sec = K.sec (K.comp T (K.expr T f) p τ).2 ∧ (R.inner T (R.expr T m) p σ).leak = mn σ.leak (lx (K.comp T (K.expr T f) p τ).2) ∧ ∀ q ∈ lx (K.comp T (K.expr T f) p τ).2, 0 ≤ q) ∨
    Dd (R.inner T (R.expr T m) p σ) (K.closed T (K.comp T (K.expr T f) p τ).1) := by
  have ht := take_sm T h
  have hte := (rtake_err T σ).trans h.e1
  have hti := R.take_i T σ
  have hdead : ∀ l : List UInt8, l ≠ [] → (tk T σ.i).s.toList = l → τ.depth ≤ 10 ∧ 11 - τ.depth ≤ (f : Int) := fun l hl e => by
    rcases hd with hd | hd
    · exact hd
    · exfalso
      have := K.last_no hS (i := τ.i) hd l hl
      rw [← h.i, e] at this
      simp at this
  unfold R.inner R.headOf
  dsimp only
  by_cases e1 : (tk T σ.i).s.toList = R.kGet
  · have hd' := hdead _ (by decide) e1
    rw [if_pos e1, comp_get (by rw [← h.i]; exact e1)]
    dsimp only
    have wd : R.telling (tk T σ.i).s.toList = true := by rw [e1]; decide
    rw [wd]
    have hk := known_eqv T fits_words ht
    have kc := R.known_core T true false (R.take T σ)
    have kk := (K.step_keeps T τ).trans (K.known_keeps T K.hasWords (K.step T τ))
    rcases hk with ⟨k1, k2⟩ | k
    · have ha := args_eqv hE hr 1 _ _ [] false k1 (kc.2.2.2.2 (hti.2.2.2 hi)) (by have := kc.2.2.2.1; have := hti.1; omega) (by rw [kk.depth]; exact d0) (by rw [kk.depth]; exact hd'.1) (by rw [kk.depth]; exact hd'.2)
      rcases ha with ⟨a1, a2, a3, a4⟩ | a
      · rcases tail_eqv (T := T) a1 ⟨(tk T σ.i).s, 0, R.knownT T true false (R.take T σ), (R.args (R.expr T m) 1 (R.known T true false (R.take T σ)) [] false).2.1, [], (R.knownT T true false (R.take T σ)).sec || (R.args (R.expr T m) 1 (R.known T true false (R.take T σ)) [] false).2.2⟩ p (R.args (R.expr T m) 1 (R.known T true false (R.take T σ)) [] false).2.2 true with ⟨t1, t2⟩ | t
        · left
          have a2' : (R.args (R.expr T m) 1 (R.known T true false (R.take T σ)) [] false).2.2 = K.sec (K.expr T f (K.known T K.hasWords (K.step T τ))).2 := by rw [a2]; simp [kArgs]
          have a4' : ∀ q ∈ lx (K.expr T f (K.known T K.hasWords (K.step T τ))).2, 0 ≤ q := fun q hq => a4 q (by simp [kArgs]; exact hq)
          refine ⟨t1, ?_, ?_, ?_⟩
          · rw [node_last]
            show ((R.knownT T true false (R.take T σ)).sec || _) = (_ || _)
            rw [k2.sec, a2']
          · rw [t2, a3, a2', known_leak, take_leak, Bool.and_true]
            show (if _ then lk (mn σ.leak _) p else mn σ.leak _) = mn σ.leak ((if _ then [p] else []) ++ _)
            cases K.sec (K.expr T f (K.known T K.hasWords (K.step T τ))).2 with
            | true =>
              rw [if_pos rfl, if_pos rfl, mn_app]
              show _ = mn (lk σ.leak p) _
              rw [mn_lk hp _ _ a4']
              simp [kArgs]
            | false =>
              rw [if_neg (by decide), if_neg (by decide)]
              simp [kArgs]
          · intro q hq
            have hq' : q ∈ (if K.sec (K.expr T f (K.known T K.hasWords (K.step T τ))).2 = true then [p] else []) ++ lx (K.expr T f (K.known T K.hasWords (K.step T τ))).2 := hq
            rw [List.mem_append] at hq'
            rcases hq' with hq' | hq'
            · split at hq'
              · simp at hq'; omega
              · simp at hq'
            · exact a4' q hq'
        · exact Or.inr t
      · exact Or.inr (tail_dead a _ p _)
    · right
      rw [R.args_dead _ _ _ _ _ k.e1]
      exact tail_dead (k.next (fun _ => ⟨rfl, rfl⟩) (kArgs_kd (expr_kd T f) 1 _)) _ p _
  · rw [if_neg e1]
    by_cases e2 : (tk T σ.i).s.toList = R.kChoose
    · have hd' := hdead _ (by decide) e2
      rw [if_pos e2, comp_cho (by rw [← h.i]; exact e1) (by rw [← h.i]; exact e2)]
      dsimp only
      have wd : R.telling (tk T σ.i).s.toList = false := by rw [e2]; decide
      rw [wd]
      have kk := K.step_keeps T τ
      have ha := args_eqv hE hr 3 _ _ [] false ht (hti.2.2.2 hi) (by have := hti.1; omega) (by rw [kk.depth]; exact d0) (by rw [kk.depth]; exact hd'.1) (by rw [kk.depth]; exact hd'.2)
      have eC : K.choX T (K.expr T f) p τ = ((kArgs (K.expr T f) 3 (K.step T τ)).1, .cho p (K.expr T f (K.step T τ)).2 (K.expr T f (K.expr T f (K.step T τ)).1).2 (K.expr T f (K.expr T f (K.expr T f (K.step T τ)).1).1).2) := rfl
      have eL : (kArgs (K.expr T f) 3 (K.step T τ)).2 = [(K.expr T f (K.step T τ)).2, (K.expr T f (K.expr T f (K.step T τ)).1).2, (K.expr T f (K.expr T f (K.expr T f (K.step T τ)).1).1).2] := rfl
      rw [eL] at ha
      rw [eC]
      dsimp only
      generalize (K.expr T f (K.step T τ)).2 = x1 at *
      generalize (K.expr T f (K.expr T f (K.step T τ)).1).2 = x2 at *
      generalize (K.expr T f (K.expr T f (K.expr T f (K.step T τ)).1).1).2 = x3 at *
      rcases ha with ⟨a1, a2, a3, a4⟩ | a
      · rcases tail_eqv (T := T) a1 ⟨(tk T σ.i).s, 0, R.noThing, (R.args (R.expr T m) 3 (R.take T σ) [] false).2.1, [], R.noThing.sec || (R.args (R.expr T m) 3 (R.take T σ) [] false).2.2⟩ p (R.args (R.expr T m) 3 (R.take T σ) [] false).2.2 false with ⟨t1, t2⟩ | t
        · left
          refine ⟨t1, ?_, ?_, ?_⟩
          · rw [node_last]
            show (false || (R.args (R.expr T m) 3 (R.take T σ) [] false).2.2) = (K.sec x1 || K.sec x2 || K.sec x3)
            rw [a2]
            simp [Bool.or_assoc]
          · rw [t2, Bool.and_false, if_neg (by decide), a3, take_leak]
            show mn σ.leak _ = mn σ.leak (lx x1 ++ (lx x2 ++ lx x3))
            simp
          · intro q hq
            refine a4 q ?_
            have hq' : q ∈ lx x1 ++ (lx x2 ++ lx x3) := hq
            simpa using hq'
        · exact Or.inr t
      · exact Or.inr (tail_dead a _ p _)
    · rw [if_neg e2]
      by_cases e3 : R.sign (tk T σ.i).s.toList = true
      · obtain ⟨wd, hne⟩ := sign_byte e3
        have hd' := hdead _ hne rfl
        rw [if_pos e3, comp_op (by rw [← h.i]; exact e1) (by rw [← h.i]; exact e2) (by rw [← h.i]; exact e3)]
        dsimp only
        rw [wd]
        have kk := K.step_keeps T τ
        have ha := args_eqv hE hr 2 _ _ [] false ht (hti.2.2.2 hi) (by have := hti.1; omega) (by rw [kk.depth]; exact d0) (by rw [kk.depth]; exact hd'.1) (by rw [kk.depth]; exact hd'.2)
        have hst : K.take T K.isOpS τ = K.step T τ := take_yes (by rw [← h.i]; exact e3)
        have eC : K.opX T (K.expr T f) p τ = ((kArgs (K.expr T f) 2 (K.step T τ)).1, .op p (R.byteAt (tk T σ.i).s 0) (K.expr T f (K.step T τ)).2 (K.expr T f (K.expr T f (K.step T τ)).1).2) := by
          unfold K.opX
          dsimp only
          rw [hst, h.i]
          rfl
        have eL : (kArgs (K.expr T f) 2 (K.step T τ)).2 = [(K.expr T f (K.step T τ)).2, (K.expr T f (K.expr T f (K.step T τ)).1).2] := rfl
        rw [eL] at ha
        rw [eC]
        dsimp only
        generalize (K.expr T f (K.step T τ)).2 = x1 at *
        generalize (K.expr T f (K.expr T f (K.step T τ)).1).2 = x2 at *
        generalize R.byteAt (tk T σ.i).s 0 = o at *
        rcases ha with ⟨a1, a2, a3, a4⟩ | a
        · rcases tail_eqv (T := T) a1 ⟨(tk T σ.i).s, 0, R.noThing, (R.args (R.expr T m) 2 (R.take T σ) [] false).2.1, [], R.noThing.sec || (R.args (R.expr T m) 2 (R.take T σ) [] false).2.2⟩ p (R.args (R.expr T m) 2 (R.take T σ) [] false).2.2 (o == 47) with ⟨t1, t2⟩ | t
          · left
            have a2' : (R.args (R.expr T m) 2 (R.take T σ) [] false).2.2 = (K.sec x1 || K.sec x2) := by rw [a2]; simp
            have a4' : ∀ q ∈ lx x1 ++ lx x2, 0 ≤ q := fun q hq => a4 q (by simpa using hq)
            refine ⟨t1, ?_, ?_, ?_⟩
            · rw [node_last]
              show (false || (R.args (R.expr T m) 2 (R.take T σ) [] false).2.2) = (K.sec x1 || K.sec x2)
              rw [a2', Bool.false_or]
            · rw [t2, a3, a2', take_leak, Bool.and_comm]
              show (if _ then lk (mn σ.leak _) p else mn σ.leak _) = mn σ.leak ((if _ then [p] else []) ++ (lx x1 ++ lx x2))
              have el : List.flatMap lx [x1, x2] = lx x1 ++ lx x2 := by simp
              rw [el]
              cases (o == 47 && (K.sec x1 || K.sec x2)) with
              | true =>
                rw [if_pos rfl, if_pos rfl]
                show _ = mn (lk σ.leak p) (lx x1 ++ lx x2)
                rw [mn_lk hp _ _ a4']
              | false =>
                rw [if_neg (by decide), if_neg (by decide)]
                rfl
            · intro q hq
              have hq' : q ∈ (if (o == 47 && (K.sec x1 || K.sec x2)) = true then [p] else []) ++ (lx x1 ++ lx x2) := hq
              rw [List.mem_append] at hq'
              rcases hq' with hq' | hq'
              · split at hq'
                · simp at hq'; omega
                · simp at hq'
              · exact a4' q hq'
          · exact Or.inr t
        · exact Or.inr (tail_dead a _ p _)
      · rw [if_neg e3, comp_none (by rw [← h.i]; exact e1) (by rw [← h.i]; exact e2) (by rw [← h.i]; exact e3)]
        right
        dsimp only
        have d : Dd (R.fail 2 (tk T σ.i).p (R.take T σ)) (K.here T 2 τ) := by
          unfold K.here
          rw [← h.i]
          exact fail_dd hte h.e2 (by decide) T _
        rw [R.args_dead _ _ _ _ _ d.e1]
        exact tail_dead d _ p _
theorem expr_eqv {s : ByteArray} {T : List Tok} (hS : Scans s T) (hE : R.Ended T) (f : Nat) : ∀ m, Rec T m f := by
  induction f with
  | zero => intro m σ τ _ _ _ d0 d1 df; omega
  | succ f ih =>
    intro m σ τ h hi hm d0 d1 df
    obtain ⟨m, rfl⟩ : ∃ k, m = k + 1 := ⟨m - 1, by omega⟩
    have hp := pos_tok hS hi
    rw [R.expr, if_pos h.e1, K.expr]
    unfold K.exB
    rw [← h.i]
    by_cases e : (tk T σ.i).s.toList = [40]
    · rw [if_pos e, if_pos (c := ((tk T σ.i).s.toList == [40]) = true) (by rw [e]; rfl)]
      have ho := opens_eqv T h
      have oc := R.opens_core T σ
      have ti := R.take_i T σ
      have hil : σ.i + 1 < T.length := R.ended_lt hE hi (R.ne_of_list e (by decide))
      rcases ho with o | o
      · rw [if_pos o.e1]
        have hin := inner_eqv hS hE (ih m) o (by rw [oc.2.2.1]; exact ti.2.2.2 hi) (by rw [oc.2.2.1, ti.2.2.1 hil]; omega) (by rw [K.opened_depth]; omega) (by
          by_cases e10 : τ.depth = 10
          · exact Or.inr (K.opened_deep e10)
          · exact Or.inl (by rw [K.opened_depth]; omega)) (tk T σ.i).p hp
        rcases hin with ⟨i1, i2, i3, i4⟩ | i
        · exact Or.inl ⟨i1, i2, by rw [i3, opens_leak], i4⟩
        · exact Or.inr i
      · rw [if_neg o.e1]
        exact Or.inr ((o.next (fun _ => ⟨rfl, rfl⟩) (comp_kd (expr_kd T f) _ _)).next (fun _ => ⟨rfl, rfl⟩) (closed_kd T _))
    · rw [if_neg e, if_neg (c := ((tk T σ.i).s.toList == [40]) = true) (by simpa using e)]
      by_cases en : (R.number (tk T σ.i).s.data.toList).2 = true
      · have ek : K.isNum (tk T τ.i).s = true := by rw [← h.i, num_same]; exact en
        rw [if_pos en, if_pos (c := K.isNum (tk T σ.i).s = true) (by rw [num_same]; exact en), take_yes ek]
        refine Or.inl ⟨sm_add (take_sm T h) _, ?_, ?_, fun q hq => by simp [lx] at hq⟩
        · rw [node_last]; rfl
        · show (R.take T σ).leak = _
          rw [take_leak]; rfl
      · rw [if_neg en, if_neg (c := K.isNum (tk T σ.i).s = true) (by rw [num_same]; exact en)]
        rcases known_eqv T fits_read h with ⟨k1, k2⟩ | k
        · refine Or.inl ⟨sm_add k1 _, ?_, ?_, fun q hq => by simp [lx] at hq⟩
          · rw [node_last]
            exact k2.sec
          · show (R.known T false false σ).leak = _
            rw [known_leak]; rfl
        · exact Or.inr (dd_add k _)
end Q
end Go.Proofs.YtejbgcloblpbfaaGreatDoor
