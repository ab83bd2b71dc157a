import Derived.Test.YtejbgcloblpbfaaGreatDoorB21
import Derived.Test.YtejbgcloblpbfaaGreatDoorB14
import Derived.Test.YtejbgcloblpbfaaGreatDoorB17
import Derived.Deep.CutBlock
namespace Go.Proofs.YtejbgcloblpbfaaGreatDoor
open Go.RowKit
open R (Tok tk)
open K (Nm S Scans Ex Do)
def K.dcl (T : List Tok) (σ : S) : S := K.closed T (K.decl T (tk T σ.i).p (K.opened T σ))
def K.dclN (T : List Tok) (σ : S) : Nm := K.declN T (tk T σ.i).p (K.opened T σ)
def K.adds (n : Nm) (σ : S) : S := { σ with names := σ.names ++ [n], words := IntKind.i64.wrap (σ.words + n.size) }
def K.isDcl (T : List Tok) (σ : S) : Bool := K.isW [40] (tk T σ.i) && R.isDecl (tk T (K.nx T σ.i)).s.toList
def K.declsL (T : List Tok) : Nat → S → S
  | 0, σ => σ
  | m + 1, σ => if K.isDcl T σ = true then K.declsL T m (K.adds (K.dclN T σ) (K.dcl T σ)) else σ
theorem K.array_keeps (T : List Tok) (σ : S) : K.Keeps σ (K.array T σ) := (((K.step_keeps T σ).trans (K.take_keeps T _ _)).trans (K.newName_keeps T _)).trans (K.take_keeps T _ _)
theorem K.array_fwd (T : List Tok) (σ : S) : K.Fwd T σ (K.array T σ) := (((K.step_fwd T σ).trans (K.take_fwd T _ _)).trans (K.newName_fwd T _)).trans (K.take_fwd T _ _)
theorem K.dec0_fwd (T : List Tok) (p : Int) (σ : S) : K.Fwd T σ (K.dec0 T p σ) := by
  unfold K.dec0; split
  · exact K.fail_fwd T _ _ _
  · exact K.Fwd.rfl' T σ
theorem K.decl_keeps (T : List Tok) (p : Int) (σ : S) : K.Keeps σ (K.decl T p σ) := by
  unfold K.decl; split
  · exact (K.dec0_keeps T p σ).trans (K.array_keeps T _)
  · exact ((K.dec0_keeps T p σ).trans (K.take_keeps T _ _)).trans (K.newName_keeps T _)
theorem K.decl_fwd (T : List Tok) (p : Int) (σ : S) : K.Fwd T σ (K.decl T p σ) := by
  unfold K.decl; split
  · exact (K.dec0_fwd T p σ).trans (K.array_fwd T _)
  · exact ((K.dec0_fwd T p σ).trans (K.take_fwd T _ _)).trans (K.newName_fwd T _)
theorem K.dcl_keeps (T : List Tok) (σ : S) : K.Keeps σ (K.dcl T σ) := K.closed_keeps (K.decl_keeps T _ _)
theorem K.dcl_over {T : List Tok} {σ : S} (h : σ.i + 1 < T.length) (h40 : K.isW [40] (tk T σ.i) = true) : σ.i + 1 ≤ (K.dcl T σ).i := by
  have a := K.opened_over h h40
  have b := (K.opened_fwd T σ (by omega)).2
  have c := (((K.decl_fwd T (tk T σ.i).p (K.opened T σ)).trans (K.closed_fwd T _)) b).1
  exact Nat.le_trans a c
theorem dcl_k {w : World} {b : Nat} {s : ByteArray} {T : List Tok} {σ : S} {v : Value} (hS : Scans s T) (h2 : 5 ≤ b) (h : CR w b s T σ v) (hv : K.Vars w) (d0 : 0 ≤ σ.depth) (d1 : σ.depth ≤ 10) (hn : σ.names.length ≤ 1000) :
    Calls Tryz.prog 104 #[PT b, .func (.func 105) #[PT b] #[]] w fun x w' => x = .returned (nmV (K.dclN T σ)) ∧ CR w' b s T (K.dcl T σ) v ∧ But b w w' :=
  inBr_name hS h d0 (by omega) (σ4 := K.decl T (tk T σ.i).p (K.opened T σ)) (by rw [(K.decl_keeps T _ _).depth, K.opened_depth]) (K.declN T (tk T σ.i).p (K.opened T σ))
    (fun w1 h1 hb1 => kdecl_c hS h1 (hv.but hb1 h2 h.cells.lt) h2 (by rw [show (K.opened T σ).names = σ.names from (K.op2_keeps T σ).names]; exact hn) _)
theorem declsL_step {T : List Tok} {k : Nat} {σk A : S} (h : Hid (A = K.declsL T (T.length - k) σk)) (hk : k < T.length) (e : K.isDcl T σk = true) : Hid (A = K.declsL T (T.length - (k + 1)) (K.adds (K.dclN T σk) (K.dcl T σk))) := by
  have : T.length - k = (T.length - (k + 1)) + 1 := by omega
  rw [this, K.declsL, if_pos e] at h
  exact h
theorem declsL_stop {T : List Tok} {m : Nat} {σk : S} (e : K.isDcl T σk = false) : K.declsL T m σk = σk := by
  cases m with
  | zero => rfl
  | succ m => rw [K.declsL, if_neg (by rw [e]; decide)]
def K.start : S := ⟨0, [], 0, 0, 0, 0, 0⟩
def K.prog0 (T : List Tok) : S := K.declsL T T.length K.start
def K.progS (T : List Tok) : S := K.expect T [] (K.dos T 11 (K.prog0 T)).1
def K.progD (T : List Tok) : List Do := (K.dos T 11 (K.prog0 T)).2
theorem tok_s (s p : Value) (w : World) : (Instr.field 136 (.agg #[s, p]) 0).run Tryz.prog w = .ok s w := by kernel_rfl
end Go.Proofs.YtejbgcloblpbfaaGreatDoor
namespace Go.Proofs.YtejbgcloblpbfaaGreatDoor
open Go.RowKit
open R (Tok tk)
open K (Nm S Scans Ex Do)
structure PB (T : List Tok) (k : Nat) (σ : S) : Prop where
  depth : σ.depth = 0
  loops : σ.loops = 0
  names : σ.names.length = k
  few : (0 ≤ σ.words ∧ σ.words ≤ 6 * k) ∨ σ.i = T.length - 1
theorem one_byte {s : ByteArray} (h : s.size = 1) : ∃ c, s.data.toList = [c] ∧ R.byteAt s 0 = c := by
  obtain ⟨d⟩ := s
  have : d.size = 1 := h
  obtain ⟨c, rfl⟩ := Array.size_eq_one_iff.1 this
  exact ⟨c, rfl, rfl⟩
theorem val_size {s : ByteArray} (h : R.isSize s = true) : K.val s = ((R.byteAt s 0).toNat : Int) - 48 ∧ 1 ≤ K.val s ∧ K.val s ≤ 6 := by
  unfold R.isSize at h
  rw [Bool.and_eq_true, decide_eq_true_eq, decide_eq_true_eq] at h
  obtain ⟨h1, h2, h3⟩ := h
  obtain ⟨c, hc, hb⟩ := one_byte h1
  rw [hb] at h2 h3 ⊢
  have e : Lib.atoiAll s.data.toList = .ok ((c.toNat : Int) - 48) := by
    rw [hc]
    unfold Lib.atoiAll
    have n1 : ¬ c.toNat = 43 := by omega
    have n2 : ¬ c.toNat = 45 := by omega
    simp only [n1, n2, or_self, if_false]
    unfold Lib.parseMag
    rw [if_neg (by simp)]
    simp only [Lib.parseUint10]
    rw [if_pos (by omega), if_neg (by omega), if_neg (by omega)]
    dsimp only
    rw [if_neg (by omega), if_neg (by simp)]
    congr 1
    omega
  unfold K.val
  rw [e]
  dsimp only
  omega
theorem dcl_size {T : List Tok} (hp : 0 < T.length) (σ : S) : (K.dcl T σ).i = T.length - 1 ∨ (1 ≤ (K.dclN T σ).size ∧ (K.dclN T σ).size ≤ 6) := by
  unfold K.dcl K.dclN
  generalize K.opened T σ = σ0
  unfold K.decl K.declN
  by_cases ha : K.isArr (tk T (K.dec0 T (tk T σ.i).p σ0).i) = true
  · rw [if_pos ha, if_pos ha]
    generalize K.dec0 T (tk T σ.i).p σ0 = σ1
    unfold K.array K.arrayN
    by_cases hz : R.isSize (tk T (K.arrS3 T σ1).i).s = true
    · right
      have := val_size hz
      exact ⟨this.2.1, this.2.2⟩
    · left
      refine (K.closed_fwd T _).last hp ?_
      unfold K.take
      rw [if_neg hz]
      exact K.here_i T _ _
  · rw [if_neg ha, if_neg ha]
    right
    exact ⟨by show (1 : Int) ≤ 1; omega, by show (1 : Int) ≤ 6; omega⟩
theorem PB.next {T : List Tok} (hp : 0 < T.length) {k : Nat} {σ : S} (h : PB T k σ) (hk : k ≤ 1000) (hi : ¬ σ.i = T.length - 1) : PB T (k + 1) (K.adds (K.dclN T σ) (K.dcl T σ)) := by
  have kp := K.dcl_keeps T σ
  refine ⟨?_, ?_, ?_, ?_⟩
  · show (K.dcl T σ).depth = 0; rw [kp.depth]; exact h.depth
  · show (K.dcl T σ).loops = 0; rw [kp.loops]; exact h.loops
  · show ((K.dcl T σ).names ++ [_]).length = k + 1; rw [kp.names]; simp [h.names]
  · rcases dcl_size hp σ with e | e
    · exact Or.inr e
    · left
      show 0 ≤ IntKind.i64.wrap ((K.dcl T σ).words + (K.dclN T σ).size) ∧ IntKind.i64.wrap ((K.dcl T σ).words + (K.dclN T σ).size) ≤ 6 * ((k + 1 : Nat) : Int)
      rw [kp.words]
      rcases h.few with f | f
      · rw [k64 _ (by omega)]; omega
      · exact absurd f hi
theorem start_pb (T : List Tok) : PB T 0 K.start := ⟨rfl, rfl, rfl, Or.inl ⟨by decide, by decide⟩⟩
end Go.Proofs.YtejbgcloblpbfaaGreatDoor
