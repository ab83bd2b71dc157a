import Derived.Test.YtjgiefnjmngdkaaGreatDoorM01
namespace Go.Proofs.YtjgiefnjmngdkaaGreatDoor
namespace R

def kPublic : List UInt8 := [112, 117, 98, 108, 105, 99]
def kSecret : List UInt8 := [115, 101, 99, 114, 101, 116]
def kArray : List UInt8 := [97, 114, 114, 97, 121]

/-- Behind the first word of a Decl (σ: behind it; w: it): the state, the kind, the word that tells whether it is secret. -/
def dHead (T : List Tok) (w : Tok) (σ : PS) : PS × Int × ByteArray :=
  if w.s.toList = kArray then
    (if (tk T σ.i).s.toList = kPublic ∨ (tk T σ.i).s.toList = kSecret then take T σ else fail 2 (tk T σ.i).p (take T σ), 2, (tk T σ.i).s)
  else (σ, 1, w.s)

def isSize (s : ByteArray) : Bool := decide (s.size = 1) && decide (49 ≤ (byteAt s 0).toNat ∧ (byteAt s 0).toNat ≤ 54)
/-- Behind the name: the state, the size; none: it has failed, and that is all. -/
def dSize (T : List Tok) (k : Int) (σ : PS) : PS × Option Int :=
  if k = 2 ∧ σ.err = 0 then
    if isSize (tk T σ.i).s = true then (take T σ, some ((byteAt (tk T σ.i).s 0).toNat - 48)) else (fail 2 (tk T σ.i).p (take T σ), none)
  else (σ, some 1)
def added (t : Thing) (σ : PS) : PS := { σ with names := σ.names + 1, size := σ.size + t.size, seen := σ.seen ++ [t], shape := σ.shape ++ List.replicate t.size.toNat t.sec }

def declIn (T : List Tok) (σ : PS) : PS :=
  let h := dHead T (tk T σ.i) (take T σ)
  let z := dSize T h.2.1 (fresh T h.1)
  match z.2 with
  | some n => added ⟨freshS T h.1, h.2.1, h.2.2.toList == kSecret, σ.size, n⟩ (shut T z.1)
  | none => z.1
def decl (T : List Tok) (σ : PS) : PS :=
  if (opens T σ).names = 8 then fail 5 (tk T σ.i).p (opens T σ) else declIn T (opens T σ)
theorem Same.tr {T : List Tok} {a b c : PS} (h : Same T a b) (k : Same T b c) : Same T a c :=
  ⟨k.core.trans h.core, k.nodes.trans h.nodes, k.nest.trans h.nest, Nat.le_trans h.le k.le, fun e => k.lt (h.lt e)⟩
theorem Same.rf (T : List Tok) (σ : PS) : Same T σ σ := ⟨rfl, rfl, rfl, Nat.le_refl _, id⟩
theorem take_same (T : List Tok) (σ : PS) : Same T σ (take T σ) := by
  have k := take_core T σ
  have t := take_i T σ
  exact ⟨k.1, k.2.1, k.2.2.2, t.1, t.2.2.2⟩
theorem dHead_same (T : List Tok) (w : Tok) (σ : PS) : Same T σ (dHead T w σ).1 := by
  unfold dHead
  split
  · dsimp only
    split
    · exact take_same T σ
    · exact (take_same T σ).tr (fail_same T _ _ _)
  · exact Same.rf T σ
theorem dSize_same (T : List Tok) (k : Int) (σ : PS) : Same T σ (dSize T k σ).1 := by
  unfold dSize
  split
  · split
    · exact take_same T σ
    · exact (take_same T σ).tr (fail_same T _ _ _)
  · exact Same.rf T σ
theorem dHead_kind {T : List Tok} {w : Tok} {σ σ' : PS} {k : Int} {s : ByteArray} (h : dHead T w σ = (σ', k, s)) : k = 1 ∨ k = 2 := by
  unfold dHead at h
  split at h
  · exact Or.inr (congrArg (fun c => c.2.1) h).symm
  · exact Or.inl (congrArg (fun c => c.2.1) h).symm
theorem dHead_seen (T : List Tok) (w : Tok) (σ : PS) : (dHead T w σ).1.seen = σ.seen := by
  unfold dHead
  split
  · dsimp only
    split
    · exact take_seen T σ
    · exact (congrArg (fun c => c.1) (fail_core 2 (tk T σ.i).p (take T σ)).1 : (fail 2 (tk T σ.i).p (take T σ)).seen = (take T σ).seen).trans (take_seen T σ)
  · rfl
end R
end Go.Proofs.YtjgiefnjmngdkaaGreatDoor
namespace Go.Proofs.YtjgiefnjmngdkaaGreatDoor
namespace R

def held (c : CS) : Nat := c.out.length + (if 0 ≤ c.f then 1 else 0)
theorem held1 (s : ByteArray) (i : Nat) (c : CS) : held (cut1 s i c) ≤ held c := by
  unfold cut1 held; split
  · rename_i h; rw [if_pos h.2]; simp
  · exact Nat.le_refl _
theorem held2 (s : ByteArray) (i : Nat) (c : CS) : held (cut2 s i c) ≤ held c + 1 ∧ (isStop s i = true → cut2 s i c = c) := by
  unfold cut2 held; split
  · rename_i h
    refine ⟨?_, fun e => absurd (h.1.symm.trans e) (by decide)⟩
    rw [if_neg (by omega : ¬ 0 ≤ c.f)]
    split <;> simp
  · exact ⟨by omega, fun _ => rfl⟩
theorem held3 (s : ByteArray) (i : Nat) (c : CS) : held (cut3 s i c) ≤ held c + (if isBr s i = true then 1 else 0) := by
  unfold cut3 held; split
  · simp; omega
  · simp
theorem br_stop {s : ByteArray} {i : Nat} (h : isBr s i = true) : isStop s i = true := by
  unfold isBr at h
  unfold isStop
  rw [Bool.and_eq_true, Bool.or_eq_true] at h
  rcases h.2 with e | e <;> rw [e] <;> simp
theorem held_to (s : ByteArray) (i : Nat) : held (cutTo s i) ≤ i := by
  induction i with
  | zero => simp [cutTo, held]
  | succ i ih =>
    rw [cutTo]
    have h1 := held1 s i (cutTo s i)
    have h2 := held2 s i (cut1 s i (cutTo s i))
    have h3 := held3 s i (cut2 s i (cut1 s i (cutTo s i)))
    by_cases hb : isBr s i = true
    · rw [if_pos hb] at h3
      rw [h2.2 (br_stop hb)] at h3 ⊢
      omega
    · rw [if_neg hb] at h3
      omega
theorem toks_len (s : ByteArray) : (toks s).length ≤ s.size + 2 ∧ 0 < (toks s).length := by
  have h := held_to s (s.size + 1)
  unfold held at h
  unfold toks
  rw [List.length_append]
  simp only [List.length_cons, List.length_nil]
  omega
theorem tk_last (l : List Tok) (t : Tok) : tk (l ++ [t]) ((l ++ [t]).length - 1) = t := by
  unfold tk
  rw [List.getD_eq_getElem?_getD]
  simp
theorem toks_ended (s : ByteArray) : Ended (toks s) := by
  unfold Ended toks
  rw [tk_last]
def AllSmall (s : ByteArray) (l : List Tok) : Prop := ∀ t ∈ l, t.s.size ≤ s.size
theorem small_cut (s : ByteArray) (i : Nat) : AllSmall s (cutTo s i).out := by
  induction i with
  | zero => intro t ht; simp [cutTo] at ht
  | succ i ih =>
    have e1 : AllSmall s (cut1 s i (cutTo s i)).out := by
      unfold cut1; split
      · intro t ht
        rcases List.mem_append.1 ht with h | h
        · exact ih t h
        · simp only [List.mem_singleton] at h; subst h; simp; omega
      · exact ih
    have e2 : AllSmall s (cut2 s i (cut1 s i (cutTo s i))).out := by
      unfold cut2; split <;> exact e1
    rw [cutTo]
    unfold cut3; split
    · intro t ht
      rcases List.mem_append.1 ht with h | h
      · exact e2 t h
      · simp only [List.mem_singleton] at h; subst h; simp; omega
    · exact e2
theorem toks_small {s : ByteArray} (hs : s.size ≤ 1000) : Small (toks s) := by
  intro i
  unfold tk
  rw [List.getD_eq_getElem?_getD]
  cases h : (toks s)[i]? with
  | none => exact Nat.zero_le _
  | some t =>
    have hm := List.mem_of_getElem? h
    unfold toks at hm
    rcases List.mem_append.1 hm with h' | h'
    · have := small_cut s (s.size + 1) t h'
      simp only [Option.getD_some]
      omega
    · simp only [List.mem_singleton] at h'
      subst h'
      exact Nat.zero_le _
end R
end Go.Proofs.YtjgiefnjmngdkaaGreatDoor
namespace Go.Proofs.YtjgiefnjmngdkaaGreatDoor
namespace R

def isDecl (s : List UInt8) : Bool := s == kPublic || s == kSecret || s == kArray
/-- Decls, as long as one begins. -/
def decls (T : List Tok) : Nat → PS → PS
  | 0, σ => σ
  | m + 1, σ => if σ.err = 0 ∧ (tk T σ.i).s.toList = [40] ∧ isDecl (tk T (σ.i + 1)).s.toList = true then decls T m (decl T σ) else σ
def start : PS := ⟨0, 0, 0, [], 0, 0, [], [], 0, 0, 0, -1, []⟩
def done (d : List Int) (σ : PS) : PS := { σ with does := d }
def behind (T : List Tok) (σ : PS) : PS := if σ.err = 0 then want T [] σ else σ
def last (σ : PS) : PS := if σ.err = 0 ∧ 0 ≤ σ.leak then fail 7 σ.leak σ else σ
/-- The document's reading of a text. -/
def readT (T : List Tok) : PS :=
  let σ := decls T 9 start
  let a := does T 12 σ
  last (behind T (done a.2 a.1))
def read (s : ByteArray) : PS := if 800 < s.size then fail 1 0 start else readT (toks s)

/-- A Decl leaves what is bounded bounded. -/
structure DB (m : Nat) (σ : PS) : Prop where
  nest : σ.nest = 0
  names : σ.names = m
  size : 0 ≤ σ.size ∧ σ.size ≤ 6 * m
  seen : σ.seen.length = m
  shape : (σ.shape.length : Int) = σ.size
  nodes : σ.nodes = []
  rest : σ.loops = 0 ∧ σ.hidden = 0
theorem start_db : DB 0 start := ⟨rfl, rfl, ⟨by decide, by decide⟩, rfl, rfl, rfl, rfl, rfl⟩
end R
end Go.Proofs.YtjgiefnjmngdkaaGreatDoor
namespace Go.Proofs.YtjgiefnjmngdkaaGreatDoor
namespace R

theorem fail_no {e p : Int} {σ : PS} (he : e ≠ 0) : (fail e p σ).err ≠ 0 := by
  unfold fail
  split
  · exact he
  · assumption
theorem dSize_none {T : List Tok} {k : Int} {σ σ' : PS} (h : dSize T k σ = (σ', none)) : σ'.err ≠ 0 := by
  unfold dSize at h
  split at h
  · split at h
    · simp at h
    · simp only [Prod.mk.injEq] at h
      rw [← h.1]
      exact fail_no (by decide)
  · simp at h
theorem dSize_bd {T : List Tok} {k : Int} {σ σ' : PS} {n : Int} (h : dSize T k σ = (σ', some n)) : 1 ≤ n ∧ n ≤ 6 := by
  unfold dSize at h
  split at h
  · split at h
    · rename_i _ hs
      simp only [Prod.mk.injEq, Option.some.injEq] at h
      unfold isSize at hs
      simp only [Bool.and_eq_true, decide_eq_true_eq] at hs
      omega
    · simp at h
  · simp only [Prod.mk.injEq, Option.some.injEq] at h
    omega
theorem decl_db {T : List Tok} {m : Nat} {σ : PS} (h : DB m σ) (hm : m ≤ 8) (he : (decl T σ).err = 0) : m < 8 ∧ DB (m + 1) (decl T σ) := by
  obtain ⟨d1, d2, d3, d4, d5, d6, d7⟩ := h
  have o1 := opens_core T σ
  have hsz : (opens T σ).size = σ.size := congrArg (fun c => c.2.2.1) o1.1
  have hse : (opens T σ).seen = σ.seen := congrArg (fun c => c.1) o1.1
  have hsh : (opens T σ).shape = σ.shape := congrArg (fun c => c.2.2.2.1) o1.1
  have hnm : (opens T σ).names = σ.names := congrArg (fun c => c.2.1) o1.1
  have hlo : (opens T σ).loops = σ.loops := congrArg (fun c => c.2.2.2.2.1) o1.1
  have hhi : (opens T σ).hidden = σ.hidden := congrArg (fun c => c.2.2.2.2.2.1) o1.1
  have hno := o1.2.1
  have hne := o1.2.2.2
  unfold decl at he ⊢
  split at he
  · exact absurd he (fail_no (by decide))
  · rename_i h8
    rw [if_neg h8]
    refine ⟨by omega, ?_⟩
    clear o1
    generalize opens T σ = σ1 at *
    unfold declIn at he ⊢
    dsimp only at he ⊢
    have s1 := take_same T σ1
    have s2 := dHead_same T (tk T σ1.i) (take T σ1)
    generalize dHead T (tk T σ1.i) (take T σ1) = H at *
    have s3 := fresh_same T H.1
    have s4 := dSize_same T H.2.1 (fresh T H.1)
    obtain ⟨σ6, z, hz⟩ : ∃ σ6 z, dSize T H.2.1 (fresh T H.1) = (σ6, z) := ⟨_, _, rfl⟩
    rw [hz] at he s4 ⊢
    have sm := ((s1.tr s2).tr s3).tr s4
    cases z with
    | none => exact absurd he (dSize_none hz)
    | some n =>
      dsimp only at he sm ⊢
      have hn := dSize_bd hz
      have sk := shut_core T σ6
      have hsz6 : σ6.size = σ1.size := congrArg (fun c => c.2.2.1) sm.core
      have hse6 : σ6.seen = σ1.seen := congrArg (fun c => c.1) sm.core
      have hsh6 : σ6.shape = σ1.shape := congrArg (fun c => c.2.2.2.1) sm.core
      have hnm6 : σ6.names = σ1.names := congrArg (fun c => c.2.1) sm.core
      have hlo6 : σ6.loops = σ1.loops := congrArg (fun c => c.2.2.2.2.1) sm.core
      have hhi6 : σ6.hidden = σ1.hidden := congrArg (fun c => c.2.2.2.2.2.1) sm.core
      have hsz7 : (shut T σ6).size = σ6.size := congrArg (fun c => c.2.2.1) sk.1
      have hse7 : (shut T σ6).seen = σ6.seen := congrArg (fun c => c.1) sk.1
      have hsh7 : (shut T σ6).shape = σ6.shape := congrArg (fun c => c.2.2.2.1) sk.1
      have hnm7 : (shut T σ6).names = σ6.names := congrArg (fun c => c.2.1) sk.1
      have hlo7 : (shut T σ6).loops = σ6.loops := congrArg (fun c => c.2.2.2.2.1) sk.1
      have hhi7 : (shut T σ6).hidden = σ6.hidden := congrArg (fun c => c.2.2.2.2.2.1) sk.1
      have hno7 := sk.2.1
      have hne7 := sk.2.2.1
      have hne6 := sm.nest
      have hno6 := sm.nodes
      clear sk sm
      generalize shut T σ6 = σ7 at *
      refine ⟨?_, ?_, ?_, ?_, ?_, ?_, ?_⟩
      · show σ7.nest = 0; omega
      · show σ7.names + 1 = ((m + 1 : Nat) : Int); omega
      · show 0 ≤ σ7.size + n ∧ σ7.size + n ≤ 6 * ((m + 1 : Nat) : Int); omega
      · show (σ7.seen ++ [_]).length = m + 1
        rw [hse7, hse6, hse]; simp [d4]
      · show ((σ7.shape ++ List.replicate n.toNat _).length : Int) = σ7.size + n
        rw [hsh7, hsh6, hsh, List.length_append, List.length_replicate]
        omega
      · show σ7.nodes = []
        rw [hno7, hno6, hno, d6]
      · show σ7.loops = 0 ∧ σ7.hidden = 0
        omega
theorem decls_stop {T : List Tok} {m : Nat} {σk : PS} (h : ¬ (σk.err = 0 ∧ (tk T σk.i).s.toList = [40] ∧ isDecl (tk T (σk.i + 1)).s.toList = true)) : decls T m σk = σk := by
  cases m with
  | zero => rfl
  | succ m => rw [decls, if_neg h]
end R
end Go.Proofs.YtjgiefnjmngdkaaGreatDoor
