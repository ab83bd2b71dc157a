import Derived.Test.YtejbgcloblpbfaaGreatDoorR02
import Derived.Test.YtejbgcloblpbfaaGreatDoorR01
namespace Go.Proofs.YtejbgcloblpbfaaGreatDoor
namespace R
theorem doesL_dead (T : List Tok) (dof : PS → PS × Int) (m : Nat) (σ : PS) (L : List Int) (h : σ.err ≠ 0) : doesL T dof m σ L = (σ, L) := by
  cases m with
  | zero => rfl
  | succ m => rw [doesL, if_neg (fun c => h c.1)]
theorem doesL_ok {T : List Tok} {dof : PS → PS × Int} (hd : ∀ σ, σ.i < T.length → Ok T σ (dof σ).1) (m : Nat) : ∀ (σ : PS) (L : List Int), σ.i < T.length → Ok T σ (doesL T dof m σ L).1 := by
  induction m with
  | zero => intro σ L h; exact Ok.refl h
  | succ m ih =>
    intro σ L h
    rw [doesL]
    split
    · have h1 := hd σ h
      exact h1.thenOk (ih _ _ h1.lt) (fun e => by rw [doesL_dead _ _ _ _ _ e])
    · exact Ok.refl h
theorem block_ok {T : List Tok} {does : PS → PS × List Int} (hd : ∀ σ, σ.i < T.length → Ok T σ (does σ).1) {σ : PS} (h : σ.i < T.length) : Ok T σ (block T does σ).1 := by
  unfold block
  split
  · have o1 := opens_core T σ
    have t2 := take_i T σ
    have hlt : (opens T σ).i < T.length := by rw [o1.2.2.1]; exact t2.2.2.2 h
    have k := hd (opens T σ) hlt
    have s := shut_core T (does (opens T σ)).1
    have se := @shut_err T (does (opens T σ)).1
    dsimp only
    generalize (does (opens T σ)).1 = D at *
    generalize shut T D = S at *
    have e1 := congrArg List.length o1.2.1
    have e2 := congrArg List.length s.2.1
    have e3 := o1.2.2.1
    have e4 := o1.2.2.2
    have e5 := s.2.2.1
    have e6 := s.2.2.2.1
    have e7 := s.2.2.2.2 k.lt
    have k1 := k.n1
    have k2 := k.n2
    have k3 := k.p1
    have k4 := k.le
    have k5 := k.lt
    obtain ⟨l, hl⟩ := k.pre
    exact ⟨s.1.trans (k.core.trans o1.1), by omega, e7, ⟨l, by rw [s.2.1, hl, o1.2.1]⟩, by omega, by omega, fun e => by have := k.n3 (se e); omega, by omega, fun e => by have := k.p2 (se e); omega⟩
  · exact Ok.refl h
theorem block_dead (T : List Tok) (does : PS → PS × List Int) {σ : PS} (h : σ.err ≠ 0) : (block T does σ).1 = σ := by
  unfold block; rw [if_neg h]
theorem hide_ok {T : List Tok} {m : Int} {a b : PS} (h : Ok T (hide1 m a) b) : Ok T a (hide1 (-m) b) := by
  obtain ⟨h1, h2, h3, h4, h5, h6, h7, h8, h9⟩ := h
  refine ⟨?_, h2, h3, h4, h5, h6, h7, h8, h9⟩
  simp only [core, hide1, Prod.mk.injEq] at h1 ⊢
  refine ⟨h1.1, h1.2.1, h1.2.2.1, h1.2.2.2.1, h1.2.2.2.2.1, ?_, h1.2.2.2.2.2.2⟩
  have := h1.2.2.2.2.2.1
  omega
theorem push_ok {T : List Tok} {t : Thing} {a b : PS} (h : Ok T (push t a) b) : Ok T a (pop b) := by
  obtain ⟨h1, h2, h3, h4, h5, h6, h7, h8, h9⟩ := h
  refine ⟨?_, h2, h3, h4, h5, h6, h7, h8, h9⟩
  simp only [core, push, pop, Prod.mk.injEq] at h1 ⊢
  refine ⟨by rw [h1.1]; simp, h1.2.1, h1.2.2.1, h1.2.2.2.1, ?_, h1.2.2.2.2.2.1, h1.2.2.2.2.2.2⟩
  have := h1.2.2.2.2.1
  omega
theorem pop_push (t : Thing) (σ : PS) : pop (push t σ) = σ := by
  show ({ σ with seen := (σ.seen ++ [t]).dropLast, loops := σ.loops + 1 - 1 } : PS) = σ
  rw [List.dropLast_concat, show σ.loops + 1 - 1 = σ.loops from by omega]
theorem doWord_ok {T : List Tok} (hE : Ended T) {does : PS → PS × List Int} (hd : ∀ σ, σ.i < T.length → Ok T σ (does σ).1) (hdd : ∀ σ, σ.err ≠ 0 → (does σ).1 = σ) (p : Int) (w : Tok) {σ : PS} (h : σ.i < T.length) : Ok T σ (doWord T does p w σ).s := by
  unfold doWord
  split
  · unfold doSet
    dsimp only
    have k := known_same T false true σ
    have a := ex_ok hE (k.lt h)
    exact k.then (a.then (leaks_same T _ _ _) (fun e => by rwa [leaks_err] at e))
  · split
    · unfold doPut
      dsimp only
      have k := known_same T true false σ
      have a := ex_ok hE (k.lt h)
      have l := leaks_same T p (secAt (ex T (known T true false σ)).1 (ex T (known T true false σ)).2) (ex T (known T true false σ)).1
      have al := a.then l (fun e => by rwa [leaks_err] at e)
      have c := ex_ok hE al.lt
      exact k.then ((al.thenOk c (fun e => ex_dead T e)).then (leaks_same T _ _ _) (fun e => by rwa [leaks_err] at e))
    · split
      · unfold doIf
        dsimp only
        have a := ex_ok hE h
        generalize ex T σ = A at *
        generalize (if secAt A.1 A.2 = true then (1 : Int) else 0) = m
        have o := block_ok hd (σ := hide1 m A.1) a.lt
        have od := @block_dead T does (hide1 m A.1)
        generalize block T does (hide1 m A.1) = O at *
        have t := block_ok hd (σ := O.1) o.lt
        have td := @block_dead T does O.1
        generalize block T does O.1 = W at *
        by_cases eA : A.1.err = 0
        · exact a.trans eA (hide_ok (o.thenOk t td))
        · have e1 : O.1 = hide1 m A.1 := od eA
          have e2 : W.1 = O.1 := td (by rw [e1]; exact eA)
          have e3 : hide1 (-m) W.1 = A.1 := by
            rw [e2, e1]
            show ({ A.1 with hidden := A.1.hidden + m + -m } : PS) = A.1
            rw [show A.1.hidden + m + -m = A.1.hidden from by omega]
          rw [e3]; exact a
      · split
        · unfold doFor
          dsimp only
          have s1 : Same T σ (if σ.loops = 2 then fail 6 w.p σ else σ) := by
            split
            · exact fail_same T _ _ _
            · exact ⟨rfl, rfl, rfl, Nat.le_refl _, id⟩
          generalize (if σ.loops = 2 then fail 6 w.p σ else σ) = σ1 at *
          have s2 := fresh_same T σ1
          have a := ex_ok hE (s2.lt (s1.lt h))
          generalize ex T (fresh T σ1) = A at *
          have l := leaks_same T p (secAt A.1 A.2) A.1
          have al := a.then l (fun e => by rwa [leaks_err] at e)
          generalize leaks p (secAt A.1 A.2) A.1 = Z at *
          have d := hd (push ⟨freshS T σ1, 3, false, σ.loops, 0⟩ Z) al.lt
          have pd := push_ok d
          refine s1.then (s2.then ?_)
          by_cases eZ : Z.err = 0
          · exact al.trans eZ pd
          · have e1 : (does (push ⟨freshS T σ1, 3, false, σ.loops, 0⟩ Z)).1 = push ⟨freshS T σ1, 3, false, σ.loops, 0⟩ Z := hdd _ eZ
            have e2 : pop (push ⟨freshS T σ1, 3, false, σ.loops, 0⟩ Z) = Z := pop_push _ _
            rw [e1, e2]; exact al
        · exact (fail_same T _ _ _).ok h
theorem doIn_ok {T : List Tok} (hE : Ended T) {does : PS → PS × List Int} (hd : ∀ σ, σ.i < T.length → Ok T σ (does σ).1) (hdd : ∀ σ, σ.err ≠ 0 → (does σ).1 = σ) (p : Int) {σ : PS} (h : σ.i < T.length) :
    core (doIn T does p σ) = core σ ∧ σ.i ≤ (doIn T does p σ).i ∧ (doIn T does p σ).i < T.length ∧ (∃ l, (doIn T does p σ).nodes = σ.nodes ++ l ∧ l ≠ []) ∧ σ.nest - 1 ≤ (doIn T does p σ).nest ∧ (doIn T does p σ).nest ≤ σ.nest ∧
    ((doIn T does p σ).err = 0 → (doIn T does p σ).nest = σ.nest - 1) ∧ (doIn T does p σ).nodes.length + (T.length - (doIn T does p σ).i) ≤ σ.nodes.length + (T.length - σ.i) + 1 := by
  have t1 := take_core T σ
  have t2 := take_i T σ
  have hlt := t2.2.2.2 h
  have k := doWord_ok hE hd hdd p (tk T σ.i) hlt
  have kw : (doWord T does p (tk T σ.i) (take T σ)).s.nodes.length + (T.length - (doWord T does p (tk T σ.i) (take T σ)).s.i) ≤ σ.nodes.length + (T.length - σ.i) := by
    have k1 := k.p1
    have k2 := k.le
    have k3 := k.lt
    have e1 := congrArg List.length t1.2.1
    by_cases hw : (tk T σ.i).s = ⟨#[]⟩
    · have e : doWord T does p (tk T σ.i) (take T σ) = ⟨fail 2 (tk T σ.i).p (take T σ), noThing, [], []⟩ := by
        have hl : (tk T σ.i).s.toList = [] := by rw [hw]; decide +kernel
        unfold doWord
        rw [hl, if_neg (by decide), if_neg (by decide), if_neg (by decide), if_neg (by decide)]
      rw [e]
      have f := fail_core 2 (tk T σ.i).p (take T σ)
      have f1 := congrArg List.length f.2.1
      have f2 := f.2.2.1
      dsimp only
      have := t2.1
      omega
    · have := t2.2.2.1 (ended_lt hE h hw)
      omega
  unfold doIn
  dsimp only
  generalize doWord T does p (tk T σ.i) (take T σ) = D at *
  have s := shut_core T D.s
  have se := @shut_err T D.s
  generalize shut T D.s = S at *
  generalize (Nd.mk (tk T σ.i).s 0 D.t D.L D.two false) = N at *
  obtain ⟨l, hl⟩ := k.pre
  have en : (addNode N S).nodes = σ.nodes ++ (l ++ [N]) := by
    show S.nodes ++ [N] = _
    rw [s.2.1, hl, t1.2.1, List.append_assoc]
  have e2 := congrArg List.length s.2.1
  have e3 := t1.2.2.2
  have e5 := s.2.2.1
  have e6 := s.2.2.2.1
  have e7 := s.2.2.2.2 k.lt
  have k1 := k.n1
  have k2 := k.n2
  have k4 := k.le
  have k5 := k.lt
  have k6 := t2.1
  refine ⟨s.1.trans (k.core.trans t1.1), ?_, e7, ⟨l ++ [N], en, by simp⟩, ?_, ?_, fun e => ?_, ?_⟩
  · show σ.i ≤ S.i; omega
  · show σ.nest - 1 ≤ S.nest; omega
  · show S.nest ≤ σ.nest; omega
  · show S.nest = σ.nest - 1; have := k.n3 (se e); omega
  · show (S.nodes ++ [N]).length + (T.length - S.i) ≤ _
    simp only [List.length_append, List.length_cons, List.length_nil]
    omega
theorem doB_ok {T : List Tok} (hE : Ended T) {does : PS → PS × List Int} (hd : ∀ σ, σ.i < T.length → Ok T σ (does σ).1) (hdd : ∀ σ, σ.err ≠ 0 → (does σ).1 = σ) {σ : PS} (h : σ.i < T.length) : Ok T σ (doB T does σ).1 := by
  have o1 := opens_core T σ
  have t2 := take_i T σ
  have hlt : (opens T σ).i < T.length := by rw [o1.2.2.1]; exact t2.2.2.2 h
  have e3 := o1.2.2.1
  have e4 := o1.2.2.2
  have e1 := congrArg List.length o1.2.1
  unfold doB
  split
  · rename_i eo
    have k := doIn_ok hE hd hdd (tk T σ.i).p hlt
    have ht := t2.2.2.1 (ended_lt hE h (ne_of_list (opens_ok eo).1 (by decide)))
    dsimp only
    generalize doIn T does (tk T σ.i).p (opens T σ) = Z at *
    obtain ⟨k1, k2, k3, ⟨l, kl, _⟩, k5, k6, k7, k8⟩ := k
    exact ⟨k1.trans o1.1, by omega, k3, ⟨l, by rw [kl, o1.2.1]⟩, by omega, by omega, fun e => by have := k7 e; omega, by omega, fun _ => by omega⟩
  · rename_i eo
    exact ⟨o1.1, by dsimp only; omega, hlt, ⟨[], by rw [o1.2.1]; simp⟩, by dsimp only; omega, by dsimp only; omega, fun e => absurd e eo, by dsimp only; omega, fun e => absurd e eo⟩
theorem doF_ok {T : List Tok} (hE : Ended T) (f : Nat) : ∀ σ : PS, σ.i < T.length → Ok T σ (doF T f σ).1 := by
  induction f with
  | zero => intro σ h; exact Ok.refl h
  | succ f ih =>
    intro σ h
    rw [doF]
    exact doB_ok hE (fun σ h => doesL_ok ih T.length σ [] h) (fun σ e => by rw [doesL_dead _ _ _ _ _ e]) h
theorem does_ok {T : List Tok} (hE : Ended T) (f : Nat) {σ : PS} (h : σ.i < T.length) : Ok T σ (does T f σ).1 := doesL_ok (doF_ok hE f) T.length σ [] h
theorem does_dead (T : List Tok) (f : Nat) {σ : PS} (h : σ.err ≠ 0) : does T f σ = (σ, []) := doesL_dead _ _ _ _ _ h
end R
end Go.Proofs.YtejbgcloblpbfaaGreatDoor
namespace Go.Proofs.YtejbgcloblpbfaaGreatDoor
namespace R
def byteAt (s : ByteArray) (i : Nat) : UInt8 := s.data.toList.getD i 0
def isStop (s : ByteArray) (i : Nat) : Bool := i == s.size || byteAt s i == 32 || byteAt s i == 10 || byteAt s i == 40 || byteAt s i == 41
def isBr (s : ByteArray) (i : Nat) : Bool := decide (i < s.size) && (byteAt s i == 40 || byteAt s i == 41)
structure CS where
  f : Int
  out : List Tok
def cut1 (s : ByteArray) (i : Nat) (c : CS) : CS := if isStop s i = true ∧ 0 ≤ c.f then ⟨-1, c.out ++ [⟨s.extract c.f.toNat i, c.f⟩]⟩ else c
def cut2 (s : ByteArray) (i : Nat) (c : CS) : CS := if isStop s i = false ∧ c.f < 0 then ⟨i, c.out⟩ else c
def cut3 (s : ByteArray) (i : Nat) (c : CS) : CS := if isBr s i = true then ⟨c.f, c.out ++ [⟨s.extract i (i + 1), i⟩]⟩ else c
def cutTo (s : ByteArray) : Nat → CS
  | 0 => ⟨-1, []⟩
  | i + 1 => cut3 s i (cut2 s i (cut1 s i (cutTo s i)))
def toks (s : ByteArray) : List Tok := (cutTo s (s.size + 1)).out ++ [⟨⟨#[]⟩, s.size⟩]
theorem cut1_bd {s : ByteArray} {i : Nat} {c : CS} (h : -1 ≤ c.f ∧ c.f ≤ i) : -1 ≤ (cut1 s i c).f ∧ (cut1 s i c).f ≤ i ∧ (cut1 s i c).out.length ≤ c.out.length + 1 := by
  unfold cut1; split
  · exact ⟨by simp, by simp, by simp⟩
  · exact ⟨h.1, h.2, by omega⟩
theorem cut2_bd {s : ByteArray} {i : Nat} {c : CS} (h : -1 ≤ c.f ∧ c.f ≤ i) : -1 ≤ (cut2 s i c).f ∧ (cut2 s i c).f ≤ i ∧ (cut2 s i c).out = c.out := by
  unfold cut2; split
  · exact ⟨by simp, by simp, rfl⟩
  · exact ⟨h.1, h.2, rfl⟩
theorem cut3_bd {s : ByteArray} {i : Nat} {c : CS} (h : -1 ≤ c.f ∧ c.f ≤ i) : -1 ≤ (cut3 s i c).f ∧ (cut3 s i c).f ≤ i ∧ (cut3 s i c).out.length ≤ c.out.length + 1 := by
  unfold cut3; split
  · exact ⟨h.1, h.2, by simp⟩
  · exact ⟨h.1, h.2, by omega⟩
theorem cutTo_bd (s : ByteArray) (i : Nat) : -1 ≤ (cutTo s i).f ∧ (cutTo s i).f ≤ i ∧ (cutTo s i).out.length ≤ 2 * i := by
  induction i with
  | zero => exact ⟨by simp [cutTo], by simp [cutTo], by simp [cutTo]⟩
  | succ i ih =>
    have h1 := cut1_bd (s := s) (i := i) (c := cutTo s i) ⟨ih.1, ih.2.1⟩
    have h2 := cut2_bd (s := s) (i := i) (c := cut1 s i (cutTo s i)) ⟨h1.1, h1.2.1⟩
    have h3 := cut3_bd (s := s) (i := i) (c := cut2 s i (cut1 s i (cutTo s i))) ⟨h2.1, h2.2.1⟩
    rw [cutTo]
    have e := congrArg List.length h2.2.2
    exact ⟨h3.1, by have := h3.2.1; omega, by omega⟩
theorem byte_get (s : ByteArray) (i : Nat) (h : i < s.size) : byteAt s i = s[i] := by
  have h' : i < s.data.toList.length := h
  unfold byteAt
  rw [List.getD_eq_getElem?_getD, List.getElem?_eq_getElem h']
  rfl
end R
end Go.Proofs.YtejbgcloblpbfaaGreatDoor
namespace Go.Proofs.YtejbgcloblpbfaaGreatDoor
namespace R
def kPublic : List UInt8 := [112, 117, 98, 108, 105, 99]
def kSecret : List UInt8 := [115, 101, 99, 114, 101, 116]
def kArray : List UInt8 := [97, 114, 114, 97, 121]
def dHead (T : List Tok) (w : Tok) (σ : PS) : PS × Int × ByteArray :=
  if w.s.toList = kArray then
    (if (tk T σ.i).s.toList = kPublic ∨ (tk T σ.i).s.toList = kSecret then take T σ else fail 2 (tk T σ.i).p (take T σ), 2, (tk T σ.i).s)
  else (σ, 1, w.s)
def isSize (s : ByteArray) : Bool := decide (s.size = 1) && decide (49 ≤ (byteAt s 0).toNat ∧ (byteAt s 0).toNat ≤ 54)
def dSize (T : List Tok) (k : Int) (σ : PS) : PS × Option Int :=
  if k = 2 ∧ σ.err = 0 then
    if isSize (tk T σ.i).s = true then (take T σ, some ((byteAt (tk T σ.i).s 0).toNat - 48)) else (fail 2 (tk T σ.i).p (take T σ), none)
  else (σ, some 1)
def added (t : Thing) (σ : PS) : PS := { σ with names := σ.names + 1, size := σ.size + t.size, seen := σ.seen ++ [t], shape := σ.shape ++ List.replicate t.size.toNat t.sec }
def declIn (T : List Tok) (σ : PS) : PS :=
  let h := dHead T (tk T σ.i) (take T σ)
  let z := dSize T h.2.1 (fresh T h.1)
  match z.2 with
  | some n => added ⟨freshS T h.1, h.2.1, h.2.2.toList == kSecret, σ.size, n⟩ (shut T z.1)
  | none => z.1
def decl (T : List Tok) (σ : PS) : PS :=
  if (opens T σ).names = 8 then fail 5 (tk T σ.i).p (opens T σ) else declIn T (opens T σ)
theorem Same.tr {T : List Tok} {a b c : PS} (h : Same T a b) (k : Same T b c) : Same T a c :=
  ⟨k.core.trans h.core, k.nodes.trans h.nodes, k.nest.trans h.nest, Nat.le_trans h.le k.le, fun e => k.lt (h.lt e)⟩
theorem Same.rf (T : List Tok) (σ : PS) : Same T σ σ := ⟨rfl, rfl, rfl, Nat.le_refl _, id⟩
theorem take_same (T : List Tok) (σ : PS) : Same T σ (take T σ) := by
  have k := take_core T σ
  have t := take_i T σ
  exact ⟨k.1, k.2.1, k.2.2.2, t.1, t.2.2.2⟩
theorem dHead_same (T : List Tok) (w : Tok) (σ : PS) : Same T σ (dHead T w σ).1 := by
  unfold dHead
  split
  · dsimp only
    split
    · exact take_same T σ
    · exact (take_same T σ).tr (fail_same T _ _ _)
  · exact Same.rf T σ
theorem dSize_same (T : List Tok) (k : Int) (σ : PS) : Same T σ (dSize T k σ).1 := by
  unfold dSize
  split
  · split
    · exact take_same T σ
    · exact (take_same T σ).tr (fail_same T _ _ _)
  · exact Same.rf T σ
theorem dHead_kind {T : List Tok} {w : Tok} {σ σ' : PS} {k : Int} {s : ByteArray} (h : dHead T w σ = (σ', k, s)) : k = 1 ∨ k = 2 := by
  unfold dHead at h
  split at h
  · exact Or.inr (congrArg (fun c => c.2.1) h).symm
  · exact Or.inl (congrArg (fun c => c.2.1) h).symm
theorem dHead_seen (T : List Tok) (w : Tok) (σ : PS) : (dHead T w σ).1.seen = σ.seen := by
  unfold dHead
  split
  · dsimp only
    split
    · exact take_seen T σ
    · exact (congrArg (fun c => c.1) (fail_core 2 (tk T σ.i).p (take T σ)).1 : (fail 2 (tk T σ.i).p (take T σ)).seen = (take T σ).seen).trans (take_seen T σ)
  · rfl
end R
end Go.Proofs.YtejbgcloblpbfaaGreatDoor
namespace Go.Proofs.YtejbgcloblpbfaaGreatDoor
namespace R
def held (c : CS) : Nat := c.out.length + (if 0 ≤ c.f then 1 else 0)
theorem held1 (s : ByteArray) (i : Nat) (c : CS) : held (cut1 s i c) ≤ held c := by
  unfold cut1 held; split
  · rename_i h; rw [if_pos h.2]; simp
  · exact Nat.le_refl _
theorem held2 (s : ByteArray) (i : Nat) (c : CS) : held (cut2 s i c) ≤ held c + 1 ∧ (isStop s i = true → cut2 s i c = c) := by
  unfold cut2 held; split
  · rename_i h
    refine ⟨?_, fun e => absurd (h.1.symm.trans e) (by decide)⟩
    rw [if_neg (by omega : ¬ 0 ≤ c.f)]
    split <;> simp
  · exact ⟨by omega, fun _ => rfl⟩
theorem held3 (s : ByteArray) (i : Nat) (c : CS) : held (cut3 s i c) ≤ held c + (if isBr s i = true then 1 else 0) := by
  unfold cut3 held; split
  · simp; omega
  · simp
theorem br_stop {s : ByteArray} {i : Nat} (h : isBr s i = true) : isStop s i = true := by
  unfold isBr at h
  unfold isStop
  rw [Bool.and_eq_true, Bool.or_eq_true] at h
  rcases h.2 with e | e <;> rw [e] <;> simp
theorem held_to (s : ByteArray) (i : Nat) : held (cutTo s i) ≤ i := by
  induction i with
  | zero => simp [cutTo, held]
  | succ i ih =>
    rw [cutTo]
    have h1 := held1 s i (cutTo s i)
    have h2 := held2 s i (cut1 s i (cutTo s i))
    have h3 := held3 s i (cut2 s i (cut1 s i (cutTo s i)))
    by_cases hb : isBr s i = true
    · rw [if_pos hb] at h3
      rw [h2.2 (br_stop hb)] at h3 ⊢
      omega
    · rw [if_neg hb] at h3
      omega
theorem toks_len (s : ByteArray) : (toks s).length ≤ s.size + 2 ∧ 0 < (toks s).length := by
  have h := held_to s (s.size + 1)
  unfold held at h
  unfold toks
  rw [List.length_append]
  simp only [List.length_cons, List.length_nil]
  omega
theorem tk_last (l : List Tok) (t : Tok) : tk (l ++ [t]) ((l ++ [t]).length - 1) = t := by
  unfold tk
  rw [List.getD_eq_getElem?_getD]
  simp
theorem toks_ended (s : ByteArray) : Ended (toks s) := by
  unfold Ended toks
  rw [tk_last]
def AllSmall (s : ByteArray) (l : List Tok) : Prop := ∀ t ∈ l, t.s.size ≤ s.size
theorem small_cut (s : ByteArray) (i : Nat) : AllSmall s (cutTo s i).out := by
  induction i with
  | zero => intro t ht; simp [cutTo] at ht
  | succ i ih =>
    have e1 : AllSmall s (cut1 s i (cutTo s i)).out := by
      unfold cut1; split
      · intro t ht
        rcases List.mem_append.1 ht with h | h
        · exact ih t h
        · simp only [List.mem_singleton] at h; subst h; simp; omega
      · exact ih
    have e2 : AllSmall s (cut2 s i (cut1 s i (cutTo s i))).out := by
      unfold cut2; split <;> exact e1
    rw [cutTo]
    unfold cut3; split
    · intro t ht
      rcases List.mem_append.1 ht with h | h
      · exact e2 t h
      · simp only [List.mem_singleton] at h; subst h; simp; omega
    · exact e2
theorem toks_small {s : ByteArray} (hs : s.size ≤ 1000) : Small (toks s) := by
  intro i
  unfold tk
  rw [List.getD_eq_getElem?_getD]
  cases h : (toks s)[i]? with
  | none => exact Nat.zero_le _
  | some t =>
    have hm := List.mem_of_getElem? h
    unfold toks at hm
    rcases List.mem_append.1 hm with h' | h'
    · have := small_cut s (s.size + 1) t h'
      simp only [Option.getD_some]
      omega
    · simp only [List.mem_singleton] at h'
      subst h'
      exact Nat.zero_le _
end R
end Go.Proofs.YtejbgcloblpbfaaGreatDoor
namespace Go.Proofs.YtejbgcloblpbfaaGreatDoor
namespace K
open R (Tok)
def blank (c : UInt8) : Bool := c == 32 || c == 10
def brak (c : UInt8) : Bool := c == 40 || c == 41
def mid (c : UInt8) : Bool := !blank c && !brak c
def runOf (p : UInt8 → Bool) (s : ByteArray) (i : Nat) : Nat := i + ((s.data.toList.drop i).takeWhile p).length
def endTok (s : ByteArray) (i : Nat) : Nat := if runOf mid s i = i ∧ i < s.size then i + 1 else runOf mid s i
def scan (s : ByteArray) (i : Nat) : Tok := ⟨s.extract (runOf blank s i) (endTok s (runOf blank s i)), (runOf blank s i : Nat)⟩
theorem drop_cons (s : ByteArray) (i : Nat) (h : i < s.size) : s.data.toList.drop i = s[i] :: s.data.toList.drop (i + 1) := by
  have h' : i < s.data.toList.length := h
  rw [List.drop_eq_getElem_cons h']
  rfl
theorem run_step {p : UInt8 → Bool} {s : ByteArray} {i : Nat} (h : i < s.size) (hp : p s[i] = true) : runOf p s i = runOf p s (i + 1) := by
  unfold runOf
  rw [drop_cons s i h, List.takeWhile_cons, if_pos hp, List.length_cons]
  omega
theorem run_stop {p : UInt8 → Bool} {s : ByteArray} {i : Nat} (h : i < s.size) (hp : p s[i] = false) : runOf p s i = i := by
  unfold runOf
  rw [drop_cons s i h, List.takeWhile_cons, if_neg (by rw [hp]; decide)]
  simp
theorem run_end {p : UInt8 → Bool} {s : ByteArray} {i : Nat} (h : ¬ i < s.size) : runOf p s i = i := by
  unfold runOf
  rw [List.drop_eq_nil_of_le (by have : s.data.toList.length = s.size := rfl; omega)]
  simp
theorem run_le {p : UInt8 → Bool} {s : ByteArray} {i : Nat} (h : i ≤ s.size) : i ≤ runOf p s i ∧ runOf p s i ≤ s.size := by
  unfold runOf
  have h1 := (List.takeWhile_sublist (l := s.data.toList.drop i) p).length_le
  rw [List.length_drop] at h1
  have : s.data.toList.length = s.size := rfl
  omega
theorem endTok_le {s : ByteArray} {i : Nat} (h : i ≤ s.size) : i ≤ endTok s i ∧ endTok s i ≤ s.size := by
  unfold endTok
  have := run_le (p := mid) h
  split <;> omega
end K
end Go.Proofs.YtejbgcloblpbfaaGreatDoor
namespace Go.Proofs.YtejbgcloblpbfaaGreatDoor
open Go.RowKit
open R (Tok)
theorem kb (c : UInt8) (n : Nat) (hn : n < 256) : ((c.toNat : Int) == (n : Int)) = (c == UInt8.ofNat n) := by
  rw [Bool.eq_iff_iff, beq_iff_eq, beq_iff_eq]
  constructor
  · intro h
    apply UInt8.toNat_inj.1
    rw [UInt8.toNat_ofNat']
    omega
  · rintro rfl
    rw [UInt8.toNat_ofNat']
    omega
theorem isBlank_c (c : UInt8) (w : World) : Calls Tryz.prog 100 #[.int .u8 c.toNat] w fun x w' => x = .returned (.bool (K.blank c)) ∧ w' = w := by
  have h1 := kb c 32 (by decide)
  have h2 := kb c 10 (by decide)
  have HK : Hid (K.blank c = ((c == 32) || (c == 10))) := rfl
  cases e1 : (c == 32) with
  | true =>
    have h1' : ((c.toNat : Int) == 32) = true := h1.trans e1
    clear h1
    go_enter Tryz.func100, Tryz.ntmps100
    go_wp2
    go_ret
    rw [HK.out, e1]; exact ⟨rfl, rfl⟩
  | false =>
    have h1' : ((c.toNat : Int) == 32) = false := h1.trans e1
    have h2' : ((c.toNat : Int) == 10) = (c == 10) := h2
    clear h1 h2
    go_enter Tryz.func100, Tryz.ntmps100
    go_wp2
    go_ret
    rw [HK.out, e1]; exact ⟨rfl, rfl⟩
theorem isBracket_c (c : UInt8) (w : World) : Calls Tryz.prog 132 #[.int .u8 c.toNat] w fun x w' => x = .returned (.bool (K.brak c)) ∧ w' = w := by
  have h1 := kb c 40 (by decide)
  have h2 := kb c 41 (by decide)
  have HK : Hid (K.brak c = ((c == 40) || (c == 41))) := rfl
  cases e1 : (c == 40) with
  | true =>
    have h1' : ((c.toNat : Int) == 40) = true := h1.trans e1
    clear h1
    go_enter Tryz.func132, Tryz.ntmps132
    go_wp2
    go_ret
    rw [HK.out, e1]; exact ⟨rfl, rfl⟩
  | false =>
    have h1' : ((c.toNat : Int) == 40) = false := h1.trans e1
    have h2' : ((c.toNat : Int) == 41) = (c == 41) := h2
    clear h1 h2
    go_enter Tryz.func132, Tryz.ntmps132
    go_wp2
    go_ret
    rw [HK.out, e1]; exact ⟨rfl, rfl⟩
set_option maxHeartbeats 400000 in
theorem endOfToken_c (s : ByteArray) (i : Nat) (w : World) (hi : i ≤ s.size) (hs : s.size ≤ 1000) :
    Calls Tryz.prog 101 #[.string s, .int .i64 (i : Int)] w fun x w' => x = .returned (.int .i64 (K.endTok s i : Nat)) ∧ w' = w := by
  have HK : Hid (K.endTok s i = if K.runOf K.mid s i = i ∧ i < s.size then i + 1 else K.runOf K.mid s i) := rfl
  go_enter Tryz.func101, Tryz.ntmps101
  go_wp2
  go_loop [5] (fun v => ∃ k : Nat, i ≤ k ∧ k ≤ s.size ∧ v = .int .i64 (k : Int) ∧ Hid (K.runOf K.mid s i = K.runOf K.mid s k)) (fun v => s.size - (intOf v).toNat)
  case atStart => exact ⟨i, Nat.le_refl _, hi, rfl, rfl⟩
  case round =>
    obtain ⟨k, hik, hks, rfl, HR⟩ := hrel
    have fin : ∀ (e : K.runOf K.mid s k = k), Hid (K.endTok s i = if k = i ∧ i < s.size then i + 1 else k) := fun e => by
      show _ = _
      rw [HK.out, HR.out, e]
    by_cases hlt : k < s.size
    · have hb := isBlank_c s[k]
      have hc := isBracket_c s[k]
      cases e1 : K.blank s[k] with
      | true =>
        rw [e1] at hb
        have HF := fin (K.run_stop hlt (by unfold K.mid; rw [e1]; rfl))
        clear HR fin HK
        by_cases hki : k = i
        · subst hki
          have HF' : Hid (K.endTok s k = k + 1) := by show _ = _; rw [HF.out, if_pos ⟨rfl, hlt⟩]
          clear HF
          go_wp2_with (go_at_call 100; refine (hb _).mono ?_; rintro x w' ⟨rfl, rfl⟩)
          go_ret
          exact ⟨by rw [HF'.out]; rfl, rfl⟩
        · have HF' : Hid (K.endTok s i = k) := by show _ = _; rw [HF.out, if_neg (fun c => hki c.1)]
          have hki' : ((k : Int) == (i : Int)) = false := beq_no (by omega)
          clear HF
          go_wp2_with (go_at_call 100; refine (hb _).mono ?_; rintro x w' ⟨rfl, rfl⟩)
          go_ret
          exact ⟨by rw [HF'.out]; rfl, rfl⟩
      | false =>
        rw [e1] at hb
        cases e2 : K.brak s[k] with
        | true =>
          rw [e2] at hc
          have HF := fin (K.run_stop hlt (by unfold K.mid; rw [e2]; simp))
          clear HR fin HK
          by_cases hki : k = i
          · subst hki
            have HF' : Hid (K.endTok s k = k + 1) := by show _ = _; rw [HF.out, if_pos ⟨rfl, hlt⟩]
            clear HF
            go_wp2_with (first | (go_at_call 100; refine (hb _).mono ?_; rintro x w' ⟨rfl, rfl⟩) | (go_at_call 132; refine (hc _).mono ?_; rintro x w' ⟨rfl, rfl⟩))
            go_ret
            exact ⟨by rw [HF'.out]; rfl, rfl⟩
          · have HF' : Hid (K.endTok s i = k) := by show _ = _; rw [HF.out, if_neg (fun c => hki c.1)]
            have hki' : ((k : Int) == (i : Int)) = false := beq_no (by omega)
            clear HF
            go_wp2_with (first | (go_at_call 100; refine (hb _).mono ?_; rintro x w' ⟨rfl, rfl⟩) | (go_at_call 132; refine (hc _).mono ?_; rintro x w' ⟨rfl, rfl⟩))
            go_ret
            exact ⟨by rw [HF'.out]; rfl, rfl⟩
        | false =>
          rw [e2] at hc
          have HN : Hid (K.runOf K.mid s i = K.runOf K.mid s (k + 1)) := HR.out.trans (K.run_step hlt (by unfold K.mid; rw [e1, e2]; rfl))
          clear HR fin HK
          go_wp2_with (first | (go_at_call 100; refine (hb _).mono ?_; rintro x w' ⟨rfl, rfl⟩) | (go_at_call 132; refine (hc _).mono ?_; rintro x w' ⟨rfl, rfl⟩))
          go_round
          case rel => exact ⟨k + 1, by omega, by omega, by go_num, HN⟩
          case measure => simp [intOf]; omega
    · have HF := fin (K.run_end hlt)
      have HF' : Hid (K.endTok s i = k) := by show _ = _; rw [HF.out, if_neg (by omega)]
      clear HR fin HK HF
      by_cases hki : k = i
      · subst hki
        go_wp2
        go_ret
        exact ⟨by rw [HF'.out]; rfl, rfl⟩
      · have hki' : ((k : Int) == (i : Int)) = false := beq_no (by omega)
        go_wp2
        go_ret
        exact ⟨by rw [HF'.out]; rfl, rfl⟩
end Go.Proofs.YtejbgcloblpbfaaGreatDoor
