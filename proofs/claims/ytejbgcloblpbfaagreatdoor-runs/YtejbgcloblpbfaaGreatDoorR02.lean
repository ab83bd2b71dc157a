import Derived.Below
namespace Go.Proofs.YtejbgcloblpbfaaGreatDoor
namespace R
structure Tok where
  s : ByteArray
  p : Int
structure Thing where
  name : ByteArray
  kind : Int
  sec : Bool
  pos : Int
  size : Int
structure Nd where
  word : ByteArray
  n : Int
  t : Thing
  L : List Int
  two : List Int
  sec : Bool
structure PS where
  i : Nat
  err : Int
  place : Int
  seen : List Thing
  names : Int
  size : Int
  nodes : List Nd
  shape : List Bool
  nest : Int
  loops : Int
  hidden : Int
  leak : Int
  does : List Int
def noThing : Thing := ⟨⟨#[]⟩, 0, false, 0, 0⟩
def tk (T : List Tok) (i : Nat) : Tok := T.getD i ⟨⟨#[]⟩, 0⟩
def take (T : List Tok) (σ : PS) : PS := if σ.i + 1 < T.length then { σ with i := σ.i + 1 } else σ
def fail (e p : Int) (σ : PS) : PS := if σ.err = 0 then { σ with err := e, place := p } else σ
def want (T : List Tok) (s : List UInt8) (σ : PS) : PS := if (tk T σ.i).s.toList = s then take T σ else fail 2 (tk T σ.i).p (take T σ)
def open1 (T : List Tok) (σ : PS) : PS := if σ.nest = 10 then fail 6 (tk T σ.i).p (want T [40] σ) else want T [40] σ
def up (σ : PS) : PS := { σ with nest := σ.nest + 1 }
def down (σ : PS) : PS := { σ with nest := σ.nest - 1 }
def opens (T : List Tok) (σ : PS) : PS := up (open1 T σ)
def shut (T : List Tok) (σ : PS) : PS := down (if σ.err = 0 then want T [41] σ else σ)
def leaks (p : Int) (is : Bool) (σ : PS) : PS := if is = true ∧ (σ.leak < 0 ∨ p < σ.leak) then { σ with leak := p } else σ
def kws : List (List UInt8) := [[112, 117, 98, 108, 105, 99], [115, 101, 99, 114, 101, 116], [97, 114, 114, 97, 121], [115, 101, 116], [112, 117, 116], [105, 102], [102, 111, 114], [103, 101, 116], [99, 104, 111, 111, 115, 101]]
def low (c : UInt8) : Bool := decide (97 ≤ c.toNat ∧ c.toNat ≤ 122)
def isName (s : ByteArray) : Bool := !(kws.contains s.toList) && (s.data.toList.all low && (decide (1 ≤ s.size) && decide (s.size ≤ 6)))
def isIt (s : List UInt8) (t : Thing) : Bool := t.name.toList == s
def find (s : List UInt8) (l : List Thing) : Int := if l.findIdx (isIt s) < l.length then (l.findIdx (isIt s) : Int) else -1
def sign (s : List UInt8) : Bool := s == [43] || s == [45] || s == [42] || s == [47] || s == [38] || s == [94] || s == [60] || s == [61]
def dig (c : UInt8) : Bool := decide (48 ≤ c.toNat ∧ c.toNat ≤ 57)
def val (l : List UInt8) : Int := l.foldl (fun (n : Int) c => 10 * n + c.toNat - 48) 0
def numOf (sg : Int) (l : List UInt8) : Int × Bool := if l.all dig = true ∧ l.length ≤ 9 then (sg * val l, decide (0 < l.length)) else (0, false)
def number (l : List UInt8) : Int × Bool := if l.head? = some 45 then numOf (-1) l.tail else numOf 1 l
theorem val_snoc (l : List UInt8) (c : UInt8) : val (l ++ [c]) = 10 * val l + c.toNat - 48 := by simp [val]
theorem val_bd (k : Nat) : ∀ l : List UInt8, l.length = k → l.all dig = true → 0 ≤ val l ∧ val l < 10 ^ k := by
  induction k with
  | zero =>
    intro l hl _
    have : l = [] := List.eq_nil_of_length_eq_zero hl
    subst this
    simp [val]
  | succ k ih =>
    intro l hl ha
    have hne : l ≠ [] := by intro h; subst h; simp at hl
    obtain ⟨m, c, rfl⟩ : ∃ m c, l = m ++ [c] := ⟨l.dropLast, l.getLast hne, (List.dropLast_concat_getLast hne).symm⟩
    rw [List.all_append, Bool.and_eq_true] at ha
    have h1 := ih m (by simpa using hl) ha.1
    have h2 : 48 ≤ c.toNat ∧ c.toNat ≤ 57 := by simpa [dig] using ha.2
    rw [val_snoc]
    have : (10 : Int) ^ (k + 1) = 10 * 10 ^ k := by rw [Int.pow_succ]; omega
    omega
theorem val_le {l : List UInt8} (hl : l.length ≤ 9) (ha : l.all dig = true) : 0 ≤ val l ∧ val l < 1000000000 := by
  have h := val_bd l.length l rfl ha
  have hp : (10 : Int) ^ l.length ≤ 10 ^ 9 := by
    have := Nat.pow_le_pow_right (n := 10) (by omega) hl
    exact_mod_cast this
  omega
theorem val_le8 {l : List UInt8} (hl : l.length ≤ 8) (ha : l.all dig = true) : 0 ≤ val l ∧ val l < 100000000 := by
  have h := val_bd l.length l rfl ha
  have hp : (10 : Int) ^ l.length ≤ 10 ^ 8 := by
    have := Nat.pow_le_pow_right (n := 10) (by omega) hl
    exact_mod_cast this
  omega
theorem numOf_bad {sg : Int} {l : List UInt8} {c : UInt8} (hc : c ∈ l) (h : dig c = false) : numOf sg l = (0, false) := by
  unfold numOf
  rw [if_neg]
  rintro ⟨h1, _⟩
  rw [List.all_eq_true] at h1
  rw [h1 c hc] at h
  exact absurd h (by decide)
theorem numOf_long {sg : Int} {l : List UInt8} (h : 9 < l.length) : numOf sg l = (0, false) := by
  unfold numOf
  rw [if_neg]
  rintro ⟨_, h1⟩
  omega
theorem numOf_good {sg : Int} {l : List UInt8} (h : l.all dig = true) (hl : l.length ≤ 9) : numOf sg l = (sg * val l, decide (0 < l.length)) := by
  unfold numOf
  rw [if_pos ⟨h, hl⟩]
theorem find_hit {s : List UInt8} {l : List Thing} {k : Nat} (h : k < l.length) (h1 : isIt s l[k] = true) (h2 : ∀ j (hj : j < k), isIt s (l[j]'(by omega)) = false) : find s l = k := by
  have e : l.findIdx (isIt s) = k := (List.findIdx_eq h).2 ⟨h1, h2⟩
  unfold find
  rw [e, if_pos h]
theorem find_miss {s : List UInt8} {l : List Thing} (h2 : ∀ j (hj : j < l.length), isIt s l[j] = false) : find s l = -1 := by
  have e : l.findIdx (isIt s) = l.length := List.findIdx_eq_length.2 fun x hx => by
    obtain ⟨j, hj, rfl⟩ := List.getElem_of_mem hx
    exact h2 j hj
  unfold find
  rw [e, if_neg (by omega)]
theorem take_nest (T : List Tok) (σ : PS) : (take T σ).nest = σ.nest := by unfold take; split <;> rfl
theorem fail_nest (e p : Int) (σ : PS) : (fail e p σ).nest = σ.nest := by unfold fail; split <;> rfl
theorem want_nest (T : List Tok) (s : List UInt8) (σ : PS) : (want T s σ).nest = σ.nest := by
  unfold want; split <;> simp [take_nest, fail_nest]
theorem take_lt {T : List Tok} {σ : PS} (h : σ.i < T.length) : (take T σ).i < T.length := by unfold take; split <;> simp_all
theorem fail_i (e p : Int) (σ : PS) : (fail e p σ).i = σ.i := by unfold fail; split <;> rfl
end R
end Go.Proofs.YtejbgcloblpbfaaGreatDoor
namespace Go.Proofs.YtejbgcloblpbfaaGreatDoor
namespace R
def Small (T : List Tok) : Prop := ∀ i, (tk T i).s.size ≤ 1000
def fresh (T : List Tok) (σ : PS) : PS :=
  if σ.err = 0 then
    if isName (tk T σ.i).s = true then
      if 0 ≤ find (tk T σ.i).s.toList σ.seen then fail 4 (tk T σ.i).p (take T σ) else take T σ
    else fail 2 (tk T σ.i).p (take T σ)
  else σ
def freshS (T : List Tok) (σ : PS) : ByteArray := if σ.err = 0 then (tk T σ.i).s else ⟨#[]⟩
def thingAt (l : List Thing) (k : Int) : Thing := l.getD k.toNat noThing
def wrong (l : List Thing) (s : List UInt8) (array set : Bool) : Bool :=
  decide (find s l < 0) || ((thingAt l (find s l)).kind == 2) != array || (set && (thingAt l (find s l)).kind == 3)
def known (T : List Tok) (array set : Bool) (σ : PS) : PS :=
  if σ.err = 0 then
    if isName (tk T σ.i).s = true then
      if wrong σ.seen (tk T σ.i).s.toList array set = true then fail 3 (tk T σ.i).p (take T σ) else take T σ
    else fail 2 (tk T σ.i).p (take T σ)
  else σ
def knownT (T : List Tok) (array set : Bool) (σ : PS) : Thing :=
  if σ.err = 0 ∧ isName (tk T σ.i).s = true ∧ wrong σ.seen (tk T σ.i).s.toList array set = false then thingAt σ.seen (find (tk T σ.i).s.toList σ.seen) else noThing
theorem take_seen (T : List Tok) (σ : PS) : (take T σ).seen = σ.seen := by unfold take; split <;> rfl
theorem find_lt (s : List UInt8) (l : List Thing) : find s l < l.length := by unfold find; split <;> omega
theorem find_ge (s : List UInt8) (l : List Thing) : -1 ≤ find s l := by unfold find; split <;> omega
end R
end Go.Proofs.YtejbgcloblpbfaaGreatDoor
namespace Go.Proofs.YtejbgcloblpbfaaGreatDoor
namespace R
def kGet : List UInt8 := [103, 101, 116]
def kChoose : List UInt8 := [99, 104, 111, 111, 115, 101]
def noNd : Nd := ⟨⟨#[]⟩, 0, noThing, [], [], false⟩
def nodeAt (σ : PS) (x : Int) : Nd := σ.nodes.getD x.toNat noNd
def addNode (n : Nd) (σ : PS) : PS := { σ with nodes := σ.nodes ++ [n] }
def lastN (σ : PS) : Int := (σ.nodes.length : Int) - 1
def args (rec : PS → PS × Int) : Nat → PS → List Int → Bool → PS × List Int × Bool
  | 0, σ, L, b => (σ, L, b)
  | m + 1, σ, L, b => if σ.err = 0 then args rec m (rec σ).1 (L ++ [(rec σ).2]) (b || ((rec σ).1.err == 0 && (nodeAt (rec σ).1 (rec σ).2).sec)) else (σ, L, b)
def headOf (T : List Tok) (σ : PS) : PS × Thing × Nat :=
  if (tk T σ.i).s.toList = kGet then (known T true false (take T σ), knownT T true false (take T σ), 1)
  else if (tk T σ.i).s.toList = kChoose then (take T σ, noThing, 3)
  else if sign (tk T σ.i).s.toList = true then (take T σ, noThing, 2)
  else (fail 2 (tk T σ.i).p (take T σ), noThing, 2)
def telling (s : List UInt8) : Bool := s == kGet || s == [47]
def inner (T : List Tok) (rec : PS → PS × Int) (p : Int) (σ : PS) : PS :=
  let h := headOf T σ
  let a := args rec h.2.2 h.1 [] false
  let s := shut T a.1
  addNode ⟨(tk T σ.i).s, 0, h.2.1, a.2.1, [], h.2.1.sec || a.2.2⟩ (leaks p (s.err == 0 && a.2.2 && telling (tk T σ.i).s.toList) s)
def expr (T : List Tok) : Nat → PS → PS × Int
  | 0, σ => (σ, 0)
  | f + 1, σ =>
    if σ.err = 0 then
      if (tk T σ.i).s.toList = [40] then
        if (opens T σ).err = 0 then (inner T (expr T f) (tk T σ.i).p (opens T σ), lastN (inner T (expr T f) (tk T σ.i).p (opens T σ)))
        else (opens T σ, 0)
      else if (number (tk T σ.i).s.data.toList).2 = true then
        (addNode ⟨⟨#[35]⟩, (number (tk T σ.i).s.data.toList).1, noThing, [], [], false⟩ (take T σ), lastN (addNode ⟨⟨#[35]⟩, (number (tk T σ.i).s.data.toList).1, noThing, [], [], false⟩ (take T σ)))
      else
        (addNode ⟨⟨#[64]⟩, 0, knownT T false false σ, [], [], (knownT T false false σ).sec⟩ (known T false false σ), lastN (addNode ⟨⟨#[64]⟩, 0, knownT T false false σ, [], [], (knownT T false false σ).sec⟩ (known T false false σ)))
    else (σ, 0)
def core (σ : PS) : List Thing × Int × Int × List Bool × Int × Int × List Int := (σ.seen, σ.names, σ.size, σ.shape, σ.loops, σ.hidden, σ.does)
theorem take_core (T : List Tok) (σ : PS) : core (take T σ) = core σ ∧ (take T σ).nodes = σ.nodes ∧ (take T σ).err = σ.err ∧ (take T σ).nest = σ.nest := by unfold take; split <;> exact ⟨rfl, rfl, rfl, rfl⟩
theorem fail_core (e p : Int) (σ : PS) : core (fail e p σ) = core σ ∧ (fail e p σ).nodes = σ.nodes ∧ (fail e p σ).i = σ.i ∧ (fail e p σ).nest = σ.nest := by unfold fail; split <;> exact ⟨rfl, rfl, rfl, rfl⟩
theorem fail_err {e p : Int} {σ : PS} (he : e ≠ 0) : (fail e p σ).err ≠ 0 := by unfold fail; split <;> simp_all
theorem leaks_core (p : Int) (is : Bool) (σ : PS) : core (leaks p is σ) = core σ ∧ (leaks p is σ).nodes = σ.nodes ∧ (leaks p is σ).i = σ.i ∧ (leaks p is σ).nest = σ.nest ∧ (leaks p is σ).err = σ.err := by unfold leaks; split <;> exact ⟨rfl, rfl, rfl, rfl, rfl⟩
theorem take_i (T : List Tok) (σ : PS) : σ.i ≤ (take T σ).i ∧ (take T σ).i ≤ σ.i + 1 ∧ (σ.i + 1 < T.length → (take T σ).i = σ.i + 1) ∧ (σ.i < T.length → (take T σ).i < T.length) := by
  unfold take; split
  · exact ⟨by simp, by simp, fun _ => rfl, fun _ => by simpa⟩
  · exact ⟨by simp, by simp, fun h => by omega, id⟩
theorem want_core (T : List Tok) (s : List UInt8) (σ : PS) : core (want T s σ) = core σ ∧ (want T s σ).nodes = σ.nodes ∧ (want T s σ).i = (take T σ).i ∧ (want T s σ).nest = σ.nest := by
  have h1 := take_core T σ
  have h2 := fail_core 2 (tk T σ.i).p (take T σ)
  unfold want; split
  · exact ⟨h1.1, h1.2.1, rfl, h1.2.2.2⟩
  · exact ⟨h2.1.trans h1.1, h2.2.1.trans h1.2.1, h2.2.2.1, h2.2.2.2.trans h1.2.2.2⟩
theorem want_ok {T : List Tok} {s : List UInt8} {σ : PS} (h : (want T s σ).err = 0) : (tk T σ.i).s.toList = s ∧ σ.err = 0 := by
  unfold want at h; split at h
  · exact ⟨‹_›, by rwa [(take_core T σ).2.2.1] at h⟩
  · exact absurd h (fail_err (by decide))
theorem opens_core (T : List Tok) (σ : PS) : core (opens T σ) = core σ ∧ (opens T σ).nodes = σ.nodes ∧ (opens T σ).i = (take T σ).i ∧ (opens T σ).nest = σ.nest + 1 := by
  have h1 := want_core T [40] σ
  have h2 := fail_core 6 (tk T σ.i).p (want T [40] σ)
  unfold opens up open1; split
  · exact ⟨h2.1.trans h1.1, h2.2.1.trans h1.2.1, h2.2.2.1.trans h1.2.2.1, by simp [h2.2.2.2, h1.2.2.2]⟩
  · exact ⟨h1.1, h1.2.1, h1.2.2.1, by simp [h1.2.2.2]⟩
theorem opens_ok {T : List Tok} {σ : PS} (h : (opens T σ).err = 0) : (tk T σ.i).s.toList = [40] ∧ σ.err = 0 ∧ σ.nest ≠ 10 := by
  unfold opens up open1 at h
  split at h
  · exact absurd h (fail_err (by decide))
  · exact ⟨(want_ok h).1, (want_ok h).2, ‹_›⟩
theorem shut_core (T : List Tok) (σ : PS) : core (shut T σ) = core σ ∧ (shut T σ).nodes = σ.nodes ∧ (shut T σ).nest = σ.nest - 1 ∧ σ.i ≤ (shut T σ).i ∧ (σ.i < T.length → (shut T σ).i < T.length) := by
  have h1 := want_core T [41] σ
  have h2 := take_i T σ
  unfold shut down; split
  · exact ⟨h1.1, h1.2.1, by simp [h1.2.2.2], by simp [h1.2.2.1, h2.1], fun h => by simp [h1.2.2.1, h2.2.2.2 h]⟩
  · exact ⟨rfl, rfl, rfl, by simp, id⟩
theorem shut_err {T : List Tok} {σ : PS} (h : (shut T σ).err = 0) : σ.err = 0 := by
  unfold shut down at h
  split at h
  · assumption
  · exact h
theorem known_core (T : List Tok) (a s : Bool) (σ : PS) : core (known T a s σ) = core σ ∧ (known T a s σ).nodes = σ.nodes ∧ (known T a s σ).nest = σ.nest ∧ σ.i ≤ (known T a s σ).i ∧ (σ.i < T.length → (known T a s σ).i < T.length) := by
  have h1 := take_core T σ
  have h2 := take_i T σ
  have h3 := fail_core 2 (tk T σ.i).p (take T σ)
  have h4 := fail_core 3 (tk T σ.i).p (take T σ)
  unfold known
  split
  · split
    · split
      · exact ⟨h4.1.trans h1.1, h4.2.1.trans h1.2.1, h4.2.2.2.trans h1.2.2.2, by rw [h4.2.2.1]; exact h2.1, fun h => by rw [h4.2.2.1]; exact h2.2.2.2 h⟩
      · exact ⟨h1.1, h1.2.1, h1.2.2.2, h2.1, h2.2.2.2⟩
    · exact ⟨h3.1.trans h1.1, h3.2.1.trans h1.2.1, h3.2.2.2.trans h1.2.2.2, by rw [h3.2.2.1]; exact h2.1, fun h => by rw [h3.2.2.1]; exact h2.2.2.2 h⟩
  · exact ⟨rfl, rfl, rfl, Nat.le_refl _, id⟩
theorem known_ok {T : List Tok} {a s : Bool} {σ : PS} (h : (known T a s σ).err = 0) : σ.err = 0 ∧ isName (tk T σ.i).s = true ∧ known T a s σ = take T σ := by
  unfold known at h ⊢
  split at h
  · split at h
    · split at h
      · exact absurd h (fail_err (by decide))
      · exact ⟨‹_›, ‹_›, by simp [*]⟩
    · exact absurd h (fail_err (by decide))
  · exact absurd h (by assumption)
end R
end Go.Proofs.YtejbgcloblpbfaaGreatDoor
namespace Go.Proofs.YtejbgcloblpbfaaGreatDoor
namespace R
def Ended (T : List Tok) : Prop := (tk T (T.length - 1)).s = ⟨#[]⟩
theorem ended_lt {T : List Tok} (hE : Ended T) {i : Nat} (hi : i < T.length) (hs : (tk T i).s ≠ ⟨#[]⟩) : i + 1 < T.length := by
  by_cases h : i + 1 < T.length
  · exact h
  · have : i = T.length - 1 := by omega
    subst this
    exact absurd hE hs
theorem ne_of_list {s : ByteArray} {l : List UInt8} (h : s.toList = l) (hl : l ≠ []) : s ≠ ⟨#[]⟩ := by
  rintro rfl
  exact hl (h.symm.trans (by decide +kernel))
structure Ok (T : List Tok) (σ σ' : PS) : Prop where
  core : core σ' = core σ
  le : σ.i ≤ σ'.i
  lt : σ'.i < T.length
  pre : ∃ l, σ'.nodes = σ.nodes ++ l
  n1 : σ.nest ≤ σ'.nest
  n2 : σ'.nest ≤ σ.nest + 1
  n3 : σ'.err = 0 → σ'.nest = σ.nest
  p1 : σ'.nodes.length + (T.length - σ'.i) ≤ σ.nodes.length + (T.length - σ.i) + 1
  p2 : σ'.err = 0 → σ'.nodes.length + (T.length - σ'.i) ≤ σ.nodes.length + (T.length - σ.i)
theorem Ok.refl {T : List Tok} {σ : PS} (h : σ.i < T.length) : Ok T σ σ :=
  ⟨rfl, Nat.le_refl _, h, ⟨[], by simp⟩, Int.le_refl _, by omega, fun _ => rfl, by omega, fun _ => Nat.le_refl _⟩
theorem Ok.trans {T : List Tok} {a b c : PS} (h : Ok T a b) (e : b.err = 0) (k : Ok T b c) : Ok T a c := by
  have n := h.n3 e
  have p := h.p2 e
  obtain ⟨l, hl⟩ := h.pre
  obtain ⟨m, hm⟩ := k.pre
  exact ⟨k.core.trans h.core, Nat.le_trans h.le k.le, k.lt, ⟨l ++ m, by rw [hm, hl, List.append_assoc]⟩, by have := k.n1; omega, by have := k.n2; omega, fun e => by have := k.n3 e; omega, by have := k.p1; omega, fun e => by have := k.p2 e; omega⟩
theorem args_dead (rec : PS → PS × Int) (m : Nat) (σ : PS) (L : List Int) (b : Bool) (h : σ.err ≠ 0) : args rec m σ L b = (σ, L, b) := by
  cases m with
  | zero => rfl
  | succ m => rw [args, if_neg h]
theorem args_ok {T : List Tok} {rec : PS → PS × Int} (hr : ∀ σ, σ.i < T.length → Ok T σ (rec σ).1) (m : Nat) : ∀ (σ : PS) (L : List Int) (b : Bool), σ.i < T.length → Ok T σ (args rec m σ L b).1 := by
  induction m with
  | zero => intro σ L b h; exact Ok.refl h
  | succ m ih =>
    intro σ L b h
    by_cases e : σ.err = 0
    · rw [args, if_pos e]
      have h1 := hr σ h
      by_cases e1 : (rec σ).1.err = 0
      · exact h1.trans e1 (ih _ _ _ h1.lt)
      · rw [args_dead _ _ _ _ _ e1]; exact h1
    · rw [args_dead _ _ _ _ _ e]; exact Ok.refl h
theorem args_err {rec : PS → PS × Int} (m : Nat) : ∀ (σ : PS) (L : List Int) (b : Bool), (args rec m σ L b).1.err = 0 → σ.err = 0 := by
  intro σ L b h
  by_cases e : σ.err = 0
  · exact e
  · rw [args_dead _ _ _ _ _ e] at h; exact h
theorem head_ok {T : List Tok} (hE : Ended T) {σ : PS} (h : σ.i < T.length) : core (headOf T σ).1 = core σ ∧ (headOf T σ).1.nodes = σ.nodes ∧ (headOf T σ).1.nest = σ.nest ∧ σ.i ≤ (headOf T σ).1.i ∧ (headOf T σ).1.i < T.length ∧
    ((headOf T σ).1.err = 0 → σ.i + 1 ≤ (headOf T σ).1.i ∧ σ.err = 0) := by
  have t1 := take_core T σ
  have t2 := take_i T σ
  unfold headOf
  split
  · have k := known_core T true false (take T σ)
    have ht := t2.2.2.1 (ended_lt hE h (ne_of_list ‹_› (by decide)))
    exact ⟨k.1.trans t1.1, k.2.1.trans t1.2.1, k.2.2.1.trans t1.2.2.2, Nat.le_trans t2.1 k.2.2.2.1, k.2.2.2.2 (t2.2.2.2 h), fun e => ⟨by rw [← ht]; exact k.2.2.2.1, by rw [← t1.2.2.1]; exact (known_ok e).1⟩⟩
  · split
    · have ht := t2.2.2.1 (ended_lt hE h (ne_of_list ‹_› (by decide)))
      exact ⟨t1.1, t1.2.1, t1.2.2.2, t2.1, t2.2.2.2 h, fun e => ⟨by rw [ht]; exact Nat.le_refl _, by rw [← t1.2.2.1]; exact e⟩⟩
    · split
      · rename_i hs
        have ht := t2.2.2.1 (ended_lt hE h (fun e => by rw [e] at hs; revert hs; decide +kernel))
        exact ⟨t1.1, t1.2.1, t1.2.2.2, t2.1, t2.2.2.2 h, fun e => ⟨by rw [ht]; exact Nat.le_refl _, by rw [← t1.2.2.1]; exact e⟩⟩
      · have k := fail_core 2 (tk T σ.i).p (take T σ)
        exact ⟨k.1.trans t1.1, k.2.1.trans t1.2.1, k.2.2.2.trans t1.2.2.2, by rw [k.2.2.1]; exact t2.1, by rw [k.2.2.1]; exact t2.2.2.2 h, fun e => absurd e (fail_err (by decide))⟩
theorem add_core (n : Nd) (σ : PS) : core (addNode n σ) = core σ ∧ (addNode n σ).nodes = σ.nodes ++ [n] ∧ (addNode n σ).i = σ.i ∧ (addNode n σ).nest = σ.nest ∧ (addNode n σ).err = σ.err := ⟨rfl, rfl, rfl, rfl, rfl⟩
theorem expr_dead (T : List Tok) (f : Nat) (σ : PS) (h : σ.err ≠ 0) : (expr T f σ).1 = σ := by
  cases f with
  | zero => rfl
  | succ f => rw [expr, if_neg h]
theorem inner_ok {T : List Tok} (hE : Ended T) {rec : PS → PS × Int} (hr : ∀ σ, σ.i < T.length → Ok T σ (rec σ).1) (p : Int) {σ : PS} (h : σ.i < T.length) :
    core (inner T rec p σ) = core σ ∧ σ.i ≤ (inner T rec p σ).i ∧ (inner T rec p σ).i < T.length ∧ (∃ l, (inner T rec p σ).nodes = σ.nodes ++ l ∧ l ≠ []) ∧ σ.nest - 1 ≤ (inner T rec p σ).nest ∧ (inner T rec p σ).nest ≤ σ.nest ∧
    ((inner T rec p σ).err = 0 → (inner T rec p σ).nest = σ.nest - 1 ∧ σ.err = 0) ∧ (inner T rec p σ).nodes.length + (T.length - (inner T rec p σ).i) ≤ σ.nodes.length + (T.length - σ.i) + 1 := by
  have h1 := head_ok hE h
  unfold inner
  dsimp only
  generalize headOf T σ = H at *
  have h2 := args_ok hr H.2.2 H.1 [] false h1.2.2.2.2.1
  have h2e := args_err (rec := rec) H.2.2 H.1 [] false
  have h2d := args_dead rec H.2.2 H.1 [] false
  generalize args rec H.2.2 H.1 [] false = A at *
  have h3 := shut_core T A.1
  have h3e := @shut_err T A.1
  generalize shut T A.1 = S at *
  have h4 := leaks_core p (S.err == 0 && A.2.2 && telling (tk T σ.i).s.toList) S
  generalize leaks p (S.err == 0 && A.2.2 && telling (tk T σ.i).s.toList) S = Z at *
  generalize (Nd.mk (tk T σ.i).s 0 H.2.1 A.2.1 [] (H.2.1.sec || A.2.2)) = N at *
  obtain ⟨l, hl⟩ := h2.pre
  have en : (addNode N Z).nodes = σ.nodes ++ (l ++ [N]) := by
    show Z.nodes ++ [N] = _
    rw [h4.2.1, h3.2.1, hl, h1.2.1, List.append_assoc]
  have ei : (addNode N Z).i = S.i := h4.2.2.1
  have ene : (addNode N Z).nest = A.1.nest - 1 := h4.2.2.2.1.trans h3.2.2.1
  have ee : (addNode N Z).err = S.err := h4.2.2.2.2
  have a1 := h1.2.2.1
  have a2 := h1.2.2.2.1
  have a3 := h3.2.2.2.1
  have a4 := h2.le
  have a5 := h2.n1
  have a6 := h2.n2
  have a7 := h3.2.2.2.2 h2.lt
  have a8 := h2.p1
  have hlen : A.1.nodes.length = σ.nodes.length + l.length := by rw [hl, List.length_append, h1.2.1]
  refine ⟨?_, by rw [ei]; omega, by rw [ei]; exact a7, ⟨l ++ [N], en, by simp⟩, by rw [ene]; omega, by rw [ene]; omega, fun e => ?_, ?_⟩
  · show core Z = _
    rw [h4.1, h3.1, h2.core, h1.1]
  · rw [ee] at e
    have e1 := h3e e
    have e2 := h2.n3 e1
    exact ⟨by rw [ene]; omega, (h1.2.2.2.2.2 (h2e e1)).2⟩
  · rw [en, ei]
    simp only [List.length_append, List.length_cons, List.length_nil]
    rw [h1.2.1] at a8
    by_cases e : H.1.err = 0
    · have := (h1.2.2.2.2.2 e).1
      omega
    · have := h2d e
      have : A.1 = H.1 := by rw [this]
      have e3 : A.1.nodes.length = H.1.nodes.length := by rw [this]
      rw [h1.2.1] at e3
      have e4 : A.1.i = H.1.i := by rw [this]
      omega
theorem expr_ok {T : List Tok} (hE : Ended T) (f : Nat) : ∀ σ : PS, σ.i < T.length → Ok T σ (expr T f σ).1 := by
  induction f with
  | zero => intro σ h; exact Ok.refl h
  | succ f ih =>
    intro σ h
    rw [expr]
    by_cases e : σ.err = 0
    · rw [if_pos e]
      by_cases h40 : (tk T σ.i).s.toList = [40]
      · rw [if_pos h40]
        have o1 := opens_core T σ
        have t2 := take_i T σ
        have ht := t2.2.2.1 (ended_lt hE h (ne_of_list h40 (by decide)))
        have hlt : (opens T σ).i < T.length := by rw [o1.2.2.1]; exact t2.2.2.2 h
        by_cases eo : (opens T σ).err = 0
        · rw [if_pos eo]
          have k := inner_ok hE ih (tk T σ.i).p hlt
          dsimp only
          generalize inner T (expr T f) (tk T σ.i).p (opens T σ) = Z at *
          obtain ⟨k1, k2, k3, ⟨l, kl, _⟩, k5, k6, k7, k8⟩ := k
          have b1 := o1.2.2.1
          have b2 := o1.2.2.2
          have b3 := congrArg List.length o1.2.1
          refine ⟨k1.trans o1.1, by omega, k3, ⟨l, by rw [kl, o1.2.1]⟩, by omega, by omega, fun e => by have := (k7 e).1; omega, ?_, fun _ => ?_⟩
          · rw [ht] at b1; omega
          · rw [ht] at b1; omega
        · rw [if_neg eo]
          have b1 := o1.2.2.1
          have b2 := o1.2.2.2
          have b3 := congrArg List.length o1.2.1
          exact ⟨o1.1, by dsimp only; omega, hlt, ⟨[], by rw [o1.2.1]; simp⟩, by dsimp only; omega, by dsimp only; omega, fun e => absurd e eo, by dsimp only; omega, fun e => absurd e eo⟩
      · rw [if_neg h40]
        have t1 := take_core T σ
        have t2 := take_i T σ
        by_cases hn : (number (tk T σ.i).s.data.toList).2 = true
        · rw [if_pos hn]
          have ht := t2.2.2.1 (ended_lt hE h (fun e => by rw [e] at hn; revert hn; decide +kernel))
          have b3 := congrArg List.length t1.2.1
          refine ⟨t1.1, t2.1, t2.2.2.2 h, ⟨[_], by rw [← t1.2.1]; rfl⟩, ?_, ?_, fun _ => t1.2.2.2, ?_, fun _ => ?_⟩
          · show σ.nest ≤ (take T σ).nest; have := t1.2.2.2; omega
          · show (take T σ).nest ≤ σ.nest + 1; have := t1.2.2.2; omega
          · simp only [addNode, List.length_append, List.length_cons, List.length_nil]; omega
          · simp only [addNode, List.length_append, List.length_cons, List.length_nil]; omega
        · rw [if_neg hn]
          have k := known_core T false false σ
          have b3 := congrArg List.length k.2.1
          refine ⟨k.1, k.2.2.2.1, k.2.2.2.2 h, ⟨[_], by rw [← k.2.1]; rfl⟩, ?_, ?_, fun _ => k.2.2.1, ?_, fun e => ?_⟩
          · show σ.nest ≤ (known T false false σ).nest; have := k.2.2.1; omega
          · show (known T false false σ).nest ≤ σ.nest + 1; have := k.2.2.1; omega
          · have := k.2.2.2.1
            simp only [addNode, List.length_append, List.length_cons, List.length_nil]; omega
          · have q := known_ok e
            have ht := t2.2.2.1 (ended_lt hE h (fun e => by rw [e] at q; exact absurd q.2.1 (by decide +kernel)))
            have hi : (known T false false σ).i = σ.i + 1 := by rw [q.2.2, ht]
            simp only [addNode, List.length_append, List.length_cons, List.length_nil]; omega
    · rw [if_neg e]; exact Ok.refl h
end R
end Go.Proofs.YtejbgcloblpbfaaGreatDoor
namespace Go.Proofs.YtejbgcloblpbfaaGreatDoor
namespace R
def kSet : List UInt8 := [115, 101, 116]
def kPut : List UInt8 := [112, 117, 116]
def kIf : List UInt8 := [105, 102]
def kFor : List UInt8 := [102, 111, 114]
def doesL (T : List Tok) (dof : PS → PS × Int) : Nat → PS → List Int → PS × List Int
  | 0, σ, L => (σ, L)
  | m + 1, σ, L => if σ.err = 0 ∧ (tk T σ.i).s.toList = [40] then doesL T dof m (dof σ).1 (L ++ [(dof σ).2]) else (σ, L)
def block (T : List Tok) (does : PS → PS × List Int) (σ : PS) : PS × List Int :=
  if σ.err = 0 then (shut T (does (opens T σ)).1, (does (opens T σ)).2) else (σ, [])
structure DR where
  s : PS
  t : Thing
  L : List Int
  two : List Int
def ex (T : List Tok) (σ : PS) : PS × Int := expr T T.length σ
def secAt (σ : PS) (x : Int) : Bool := σ.err == 0 && (nodeAt σ x).sec
def tellsAt (σ : PS) (t : Thing) (x : Int) : Bool := σ.err == 0 && !t.sec && (decide (0 < σ.hidden) || (nodeAt σ x).sec)
def doSet (T : List Tok) (p : Int) (σ : PS) : DR :=
  let k := known T false true σ
  let t := knownT T false true σ
  let a := ex T k
  ⟨leaks p (tellsAt a.1 t a.2) a.1, t, [a.2], []⟩
def doPut (T : List Tok) (p : Int) (σ : PS) : DR :=
  let k := known T true false σ
  let t := knownT T true false σ
  let a := ex T k
  let c := ex T (leaks p (secAt a.1 a.2) a.1)
  ⟨leaks p (tellsAt c.1 t c.2) c.1, t, [a.2, c.2], []⟩
def hide1 (d : Int) (σ : PS) : PS := { σ with hidden := σ.hidden + d }
def doIf (T : List Tok) (does : PS → PS × List Int) (σ : PS) : DR :=
  let a := ex T σ
  let m : Int := if secAt a.1 a.2 = true then 1 else 0
  let one := block T does (hide1 m a.1)
  let two := block T does one.1
  ⟨hide1 (-m) two.1, noThing, [a.2] ++ one.2, two.2⟩
def push (t : Thing) (σ : PS) : PS := { σ with seen := σ.seen ++ [t], loops := σ.loops + 1 }
def pop (σ : PS) : PS := { σ with seen := σ.seen.dropLast, loops := σ.loops - 1 }
def doFor (T : List Tok) (does : PS → PS × List Int) (p wp : Int) (σ : PS) : DR :=
  let σ1 := if σ.loops = 2 then fail 6 wp σ else σ
  let t : Thing := ⟨freshS T σ1, 3, false, σ.loops, 0⟩
  let a := ex T (fresh T σ1)
  let σ3 := leaks p (secAt a.1 a.2) a.1
  let l := does (push t σ3)
  ⟨pop l.1, t, [a.2] ++ l.2, []⟩
def doWord (T : List Tok) (does : PS → PS × List Int) (p : Int) (w : Tok) (σ : PS) : DR :=
  if w.s.toList = kSet then doSet T p σ
  else if w.s.toList = kPut then doPut T p σ
  else if w.s.toList = kIf then doIf T does σ
  else if w.s.toList = kFor then doFor T does p w.p σ
  else ⟨fail 2 w.p σ, noThing, [], []⟩
def doIn (T : List Tok) (does : PS → PS × List Int) (p : Int) (σ : PS) : PS :=
  let r := doWord T does p (tk T σ.i) (take T σ)
  addNode ⟨(tk T σ.i).s, 0, r.t, r.L, r.two, false⟩ (shut T r.s)
def doB (T : List Tok) (does : PS → PS × List Int) (σ : PS) : PS × Int :=
  if (opens T σ).err = 0 then (doIn T does (tk T σ.i).p (opens T σ), lastN (doIn T does (tk T σ.i).p (opens T σ))) else (opens T σ, 0)
def doF (T : List Tok) : Nat → PS → PS × Int
  | 0, σ => (σ, 0)
  | f + 1, σ => doB T (fun σ => doesL T (doF T f) T.length σ []) σ
def does (T : List Tok) (f : Nat) (σ : PS) : PS × List Int := doesL T (doF T f) T.length σ []
theorem fresh_core (T : List Tok) (σ : PS) : core (fresh T σ) = core σ ∧ (fresh T σ).nodes = σ.nodes ∧ (fresh T σ).nest = σ.nest ∧ σ.i ≤ (fresh T σ).i ∧ (σ.i < T.length → (fresh T σ).i < T.length) := by
  have h1 := take_core T σ
  have h2 := take_i T σ
  have h3 := fail_core 2 (tk T σ.i).p (take T σ)
  have h4 := fail_core 4 (tk T σ.i).p (take T σ)
  unfold fresh
  split
  · split
    · split
      · exact ⟨h4.1.trans h1.1, h4.2.1.trans h1.2.1, h4.2.2.2.trans h1.2.2.2, by rw [h4.2.2.1]; exact h2.1, fun h => by rw [h4.2.2.1]; exact h2.2.2.2 h⟩
      · exact ⟨h1.1, h1.2.1, h1.2.2.2, h2.1, h2.2.2.2⟩
    · exact ⟨h3.1.trans h1.1, h3.2.1.trans h1.2.1, h3.2.2.2.trans h1.2.2.2, by rw [h3.2.2.1]; exact h2.1, fun h => by rw [h3.2.2.1]; exact h2.2.2.2 h⟩
  · exact ⟨rfl, rfl, rfl, Nat.le_refl _, id⟩
structure Same (T : List Tok) (σ σ' : PS) : Prop where
  core : core σ' = core σ
  nodes : σ'.nodes = σ.nodes
  nest : σ'.nest = σ.nest
  le : σ.i ≤ σ'.i
  lt : σ.i < T.length → σ'.i < T.length
theorem Same.ok {T : List Tok} {σ σ' : PS} (h : Same T σ σ') (hlt : σ.i < T.length) : Ok T σ σ' := by
  have hn := congrArg List.length h.nodes
  have hs := h.nest
  have hl := h.le
  have ht := h.lt hlt
  exact ⟨h.core, hl, ht, ⟨[], by rw [h.nodes]; simp⟩, by omega, by omega, fun _ => hs, by omega, fun _ => by omega⟩
theorem Same.then {T : List Tok} {a b c : PS} (h : Same T a b) (k : Ok T b c) : Ok T a c := by
  have hn := congrArg List.length h.nodes
  have hs := h.nest
  have hl := h.le
  have n1 := k.n1
  have n2 := k.n2
  have p1 := k.p1
  have kl := k.le
  have kt := k.lt
  obtain ⟨l, hl'⟩ := k.pre
  exact ⟨k.core.trans h.core, by omega, k.lt, ⟨l, by rw [hl', h.nodes]⟩, by omega, by omega, fun e => by have := k.n3 e; omega, by omega, fun e => by have := k.p2 e; omega⟩
theorem Ok.then {T : List Tok} {a b c : PS} (h : Ok T a b) (k : Same T b c) (he : c.err = 0 → b.err = 0) : Ok T a c := by
  have hn := congrArg List.length k.nodes
  have hs := k.nest
  have hl := k.le
  have ht := k.lt h.lt
  have n1 := h.n1
  have n2 := h.n2
  have p1 := h.p1
  have hle := h.le
  have hlt := h.lt
  obtain ⟨l, hl'⟩ := h.pre
  exact ⟨k.core.trans h.core, by omega, ht, ⟨l, by rw [k.nodes, hl']⟩, by omega, by omega, fun e => by have := h.n3 (he e); omega, by omega, fun e => by have := h.p2 (he e); omega⟩
theorem known_same (T : List Tok) (a s : Bool) (σ : PS) : Same T σ (known T a s σ) := by
  have k := known_core T a s σ
  exact ⟨k.1, k.2.1, k.2.2.1, k.2.2.2.1, k.2.2.2.2⟩
theorem fresh_same (T : List Tok) (σ : PS) : Same T σ (fresh T σ) := by
  have k := fresh_core T σ
  exact ⟨k.1, k.2.1, k.2.2.1, k.2.2.2.1, k.2.2.2.2⟩
theorem leaks_same (T : List Tok) (p : Int) (is : Bool) (σ : PS) : Same T σ (leaks p is σ) := by
  have k := leaks_core p is σ
  exact ⟨k.1, k.2.1, k.2.2.2.1, by rw [k.2.2.1]; exact Nat.le_refl _, fun h => by rw [k.2.2.1]; exact h⟩
theorem fail_same (T : List Tok) (e p : Int) (σ : PS) : Same T σ (fail e p σ) := by
  have k := fail_core e p σ
  exact ⟨k.1, k.2.1, k.2.2.2, by rw [k.2.2.1]; exact Nat.le_refl _, fun h => by rw [k.2.2.1]; exact h⟩
theorem leaks_err (p : Int) (is : Bool) (σ : PS) : (leaks p is σ).err = σ.err := (leaks_core p is σ).2.2.2.2
theorem Ok.thenOk {T : List Tok} {a b c : PS} (h : Ok T a b) (k : Ok T b c) (hd : b.err ≠ 0 → c = b) : Ok T a c := by
  by_cases e : b.err = 0
  · exact h.trans e k
  · rw [hd e]; exact h
theorem ex_ok {T : List Tok} (hE : Ended T) {σ : PS} (h : σ.i < T.length) : Ok T σ (ex T σ).1 := expr_ok hE _ σ h
theorem ex_dead (T : List Tok) {σ : PS} (h : σ.err ≠ 0) : (ex T σ).1 = σ := expr_dead T _ σ h
end R
end Go.Proofs.YtejbgcloblpbfaaGreatDoor
