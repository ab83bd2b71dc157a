import Derived.Test.YtejbgcloblpbfaaGreatDoorR12
import Derived.Test.YtejbgcloblpbfaaGreatDoorR03
namespace Go.Proofs.YtejbgcloblpbfaaGreatDoor
open Go.RowKit
open R (Tok tk)
open K (Nm S Scans Ex)
theorem emptyL : ByteArray.toList ⟨#[]⟩ = [] := by decide +kernel
set_option maxHeartbeats 1000000 in
theorem compound_c {w : World} {b : Nat} {s : ByteArray} {T : List Tok} {σ : S} {v : Value} (hS : Scans s T) (h : CR w b s T σ v) (hv : K.Vars w) (h2 : 5 ≤ b) (hvb : ∀ k, v.ownBlock = some k → 5 ≤ k) (hn : σ.names.length ≤ 1000) (p : Int)
    (f : Nat) (hE : ExDoes b s T v f) (d0 : 0 ≤ σ.depth) (hd : σ.depth ≤ 10 ∧ 11 - σ.depth ≤ f ∨ σ.i = T.length - 1) :
    Calls Tryz.prog 218 #[PT b, .int .i64 p] w fun x w' => x = .returned (exV (K.comp T (K.expr T f) p σ).2) ∧ CR w' b s T (K.comp T (K.expr T f) p σ).1 v ∧ ButV b v w w' := by
  have hz := hS.tsize h.lt
  have c1 := h.c 1 _ rfl
  have HC : Hid (K.comp T (K.expr T f) p σ = if ((tk T σ.i).s.toList == K.kGet) = true then K.getX T (K.expr T f) p σ else if ((tk T σ.i).s.toList == K.kChoose) = true then K.choX T (K.expr T f) p σ else if K.isOpS (tk T σ.i).s = true then K.opX T (K.expr T f) p σ else (K.here T 2 σ, .none)) := rfl
  have hdead : ((tk T σ.i).s.toList == K.kGet) = true ∨ ((tk T σ.i).s.toList == K.kChoose) = true ∨ K.isOpS (tk T σ.i).s = true → σ.depth ≤ 10 ∧ 11 - σ.depth ≤ f := fun hh => by
    rcases hd with hd | hd
    · exact hd
    · rw [hd, hS.last] at hh
      dsimp only [K.isOpS] at hh
      rw [emptyL] at hh
      exact absurd hh (by decide)
  cases e1 : ((tk T σ.i).s.toList == K.kGet) with
  | true =>
    have hd' := hdead (Or.inl e1)
    have hg := get_c hS h hv h2 hn p f hE d0 hd'.1 hd'.2
    rw [e1, if_pos rfl] at HC
    have e1' : ((tk T σ.i).s.toList == [103, 101, 116]) = true := e1
    generalize K.getX T (K.expr T f) p σ = G at *
    generalize K.comp T (K.expr T f) p σ = C at *
    have e := HC.out
    subst e
    generalize tk T σ.i = t at *
    clear e1 hdead hd
    generalize exV C.2 = ev at *
    go_enter Tryz.func218, Tryz.ntmps218
    go_wp2_with fail
    refine hg.mono ?_
    rintro x w' ⟨rfl, hr, hb⟩
    go_wp2_with fail
    go_ret
    exact ⟨rfl, hr, hb⟩
  | false =>
    rw [e1, if_neg (by decide)] at HC
    have e1' : ((tk T σ.i).s.toList == [103, 101, 116]) = false := e1
    cases e2 : ((tk T σ.i).s.toList == K.kChoose) with
    | true =>
      have hd' := hdead (Or.inr (Or.inl e2))
      have hg := choose_c hS h hv h2 hvb hn p f hE d0 hd'.1 hd'.2
      rw [e2, if_pos rfl] at HC
      have e2' : ((tk T σ.i).s.toList == [99, 104, 111, 111, 115, 101]) = true := e2
      generalize K.choX T (K.expr T f) p σ = G at *
      generalize K.comp T (K.expr T f) p σ = C at *
      have e := HC.out
      subst e
      generalize tk T σ.i = t at *
      clear e1 e2 hdead hd
      generalize exV C.2 = ev at *
      go_enter Tryz.func218, Tryz.ntmps218
      go_wp2_with fail
      refine hg.mono ?_
      rintro x w' ⟨rfl, hr, hb⟩
      go_wp2_with fail
      go_ret
      exact ⟨rfl, hr, hb⟩
    | false =>
      rw [e2, if_neg (by decide)] at HC
      have e2' : ((tk T σ.i).s.toList == [99, 104, 111, 111, 115, 101]) = false := e2
      have hio := isOp_c (tk T σ.i).s w (by omega)
      cases e3 : K.isOpS (tk T σ.i).s with
      | true =>
        have hd' := hdead (Or.inr (Or.inr e3))
        have hg := operation_c hS h hv h2 hvb hn p f hE d0 hd'.1 hd'.2 e3
        rw [e3, if_pos rfl] at HC
        have e3' : R.sign (tk T σ.i).s.toList = true := e3
        rw [e3'] at hio
        generalize K.opX T (K.expr T f) p σ = G at *
        generalize K.comp T (K.expr T f) p σ = C at *
        have e := HC.out
        subst e
        clear e1 e2 e3 e3' hdead hd
        generalize tk T σ.i = t at *
        generalize exV C.2 = ev at *
        go_enter Tryz.func218, Tryz.ntmps218
        go_wp2_with fail
        refine hio.mono ?_
        rintro x w' ⟨rfl, rfl⟩
        go_wp2_with fail
        refine hg.mono ?_
        rintro x w' ⟨rfl, hr, hb⟩
        go_wp2_with fail
        go_ret
        exact ⟨rfl, hr, hb⟩
      | false =>
        have hfh := failHere_c hS h 2
        rw [e3, if_neg (by decide)] at HC
        have e3' : R.sign (tk T σ.i).s.toList = false := e3
        rw [e3'] at hio
        generalize K.here T 2 σ = σ1 at *
        generalize K.comp T (K.expr T f) p σ = C at *
        clear e1 e2 e3 e3' hdead hd
        generalize tk T σ.i = t at *
        go_enter Tryz.func218, Tryz.ntmps218
        go_wp2_with fail
        refine hio.mono ?_
        rintro x w' ⟨rfl, rfl⟩
        go_wp2_with fail
        refine hfh.mono ?_
        rintro x w' ⟨rfl, hr, hb⟩
        go_wp2_with fail
        go_ret
        rw [HC.out]
        exact ⟨rfl, hr, hb.toV v⟩
set_option maxHeartbeats 1000000 in
theorem kexpr_c {b : Nat} {s : ByteArray} {T : List Tok} {v : Value} (hS : Scans s T) (h2 : 5 ≤ b) (hvb : ∀ k, v.ownBlock = some k → 5 ≤ k) (f : Nat) : ExDoes b s T v f := by
  induction f with
  | zero => intro w σ _ _ d0 d1 df; omega
  | succ f ih =>
    intro w σ h hv d0 d1 df hn
    have hmf : ∀ (fn : Fn) (first cap : Array Value) (w : World), (Instr.makeFunc fn first cap).run Tryz.prog w = .ok (.func fn first cap) w := fun _ _ _ _ => rfl
    have hz := hS.tsize h.lt
    have hlt := h.cells.lt
    have c1 := h.c 1 _ rfl
    rw [K.expr]
    have HX : Hid (K.exB T (K.expr T f) σ = if ((tk T σ.i).s.toList == [40]) = true then (K.closed T (K.comp T (K.expr T f) (tk T σ.i).p (K.opened T σ)).1, (K.comp T (K.expr T f) (tk T σ.i).p (K.opened T σ)).2)
      else if K.isNum (tk T σ.i).s = true then (K.take T K.isNum σ, .num (K.val (tk T σ.i).s)) else (K.known T K.canRead σ, .use (K.knownN T σ))) := rfl
    cases e1 : ((tk T σ.i).s.toList == [40]) with
    | true =>
      rw [e1, if_pos rfl] at HX
      have kc : K.Keeps (K.opened T σ) (K.comp T (K.expr T f) (tk T σ.i).p (K.opened T σ)).1 := K.comp_keeps (K.expr_keeps T f) _ _
      have hod := K.opened_depth T σ
      have hon : (K.opened T σ).names = σ.names := (K.op2_keeps T σ).names
      have hbr := inBr_expr hS h d0 (by omega) (σ4 := (K.comp T (K.expr T f) (tk T σ.i).p (K.opened T σ)).1) (by rw [kc.depth, hod]) (fun _ rv => rv = exV (K.comp T (K.expr T f) (tk T σ.i).p (K.opened T σ)).2)
        (fun w1 h1 hb1 => (compound_c hS h1 (hv.but hb1 h2 hlt) h2 hvb (by rw [hon]; exact hn) (tk T σ.i).p f ih (by omega) (by
          by_cases e : σ.depth = 10
          · exact Or.inr (K.opened_deep e)
          · exact Or.inl ⟨by omega, by omega⟩)).mono (by
          rintro x w' ⟨rfl, hr, hb⟩
          exact ⟨_, rfl, rfl, hr, hb⟩))
        (fun _ _ _ _ _ hh => hh)
      generalize K.exB T (K.expr T f) σ = X at *
      generalize K.comp T (K.expr T f) (tk T σ.i).p (K.opened T σ) = C at *
      have HX1 : Hid (X.1 = K.closed T C.1) := by show _ = _; rw [HX.out]
      have HX2 : Hid (exV X.2 = exV C.2) := by show _ = _; rw [HX.out]
      generalize exV C.2 = ev at *
      clear kc hod hon HX ih
      generalize tk T σ.i = t at *
      go_enter Tryz.func205, Tryz.ntmps205
      go_wp2_with fail
      refine hbr.mono ?_
      rintro x w' ⟨rv, rfl, rfl, hr, hb⟩
      go_wp2_with fail
      go_ret
      rw [HX1.out, HX2.out]
      exact ⟨rfl, hr, hb⟩
    | false =>
      rw [e1, if_neg (by decide)] at HX
      have hin := isNumber_c (tk T σ.i).s w (by omega)
      cases e2 : K.isNum (tk T σ.i).s with
      | true =>
        rw [e2, if_pos rfl] at HX
        rw [e2] at hin
        have ht := ktake_isNumber hS h K.isNum (isNumber_c _ w (by omega))
        have hvo := fun (w : World) (hv : K.Vars w) => valueOf_c (tk T σ.i).s w (by omega) hv
        generalize K.exB T (K.expr T f) σ = X at *
        generalize K.take T K.isNum σ = σ1 at *
        generalize K.val (tk T σ.i).s = q at *
        have HX1 : Hid (X.1 = σ1) := by show _ = _; rw [HX.out]
        have HX2 : Hid (exV X.2 = .iface 206 (.agg #[.int .i64 q])) := by show _ = _; rw [HX.out]; rfl
        clear HX ih e2
        generalize tk T σ.i = t at *
        go_enter Tryz.func205, Tryz.ntmps205
        go_wp2_with fail
        refine hin.mono ?_
        rintro x w' ⟨rfl, rfl⟩
        go_wp2_with fail
        refine ht.mono ?_
        rintro x w1 ⟨rfl, hr1, hb1⟩
        go_wp2_with fail
        refine (hvo _ (hv.but hb1 h2 hlt)).mono ?_
        rintro x w2 ⟨rfl, hb2⟩
        go_wp2_with fail
        go_ret
        rw [HX1.out, HX2.out]
        exact ⟨rfl, hr1.below hb2, (hb1.below hb2).toV v⟩
      | false =>
        rw [e2, if_neg (by decide)] at HX
        rw [e2] at hin
        have hk := known_read hS h hn
        generalize K.exB T (K.expr T f) σ = X at *
        generalize K.known T K.canRead σ = σ1 at *
        generalize K.knownN T σ = N at *
        obtain ⟨x0, x1, x2, x3, x4⟩ := N
        unfold nmV at hk
        dsimp only at hk
        have HX1 : Hid (X.1 = σ1) := by show _ = _; rw [HX.out]
        have HX2 : Hid (exV X.2 = .iface 208 (.agg #[.string x0, .int .i64 x1, .bool x2, .int .i64 x3, .int .i64 x4])) := by show _ = _; rw [HX.out]; rfl
        clear HX ih e2
        generalize tk T σ.i = t at *
        go_enter Tryz.func205, Tryz.ntmps205
        go_wp2_with fail
        refine hin.mono ?_
        rintro x w' ⟨rfl, rfl⟩
        go_wp2_with fail
        refine hk.mono ?_
        rintro x w1 ⟨rfl, hr1, hb1⟩
        go_wp2_with fail
        go_ret
        rw [HX1.out, HX2.out]
        exact ⟨rfl, hr1, hb1.toV v⟩
end Go.Proofs.YtejbgcloblpbfaaGreatDoor
namespace Go.Proofs.YtejbgcloblpbfaaGreatDoor
open Go.RowKit
open R (Tok tk)
namespace K
def Fwd (T : List Tok) (σ σ' : S) : Prop := σ.i < T.length → σ.i ≤ σ'.i ∧ σ'.i < T.length
theorem Fwd.rfl' (T : List Tok) (σ : S) : Fwd T σ σ := fun h => ⟨Nat.le_refl _, h⟩
theorem Fwd.trans {T : List Tok} {a b c : S} (h : Fwd T a b) (k : Fwd T b c) : Fwd T a c := fun x => ⟨Nat.le_trans (h x).1 (k (h x).2).1, (k (h x).2).2⟩
theorem step_fwd (T : List Tok) (σ : S) : Fwd T σ (step T σ) := fun h => by
  show σ.i ≤ nx T σ.i ∧ nx T σ.i < T.length
  unfold nx; split <;> omega
theorem fail_fwd (T : List Tok) (e p : Int) (σ : S) : Fwd T σ (fail T e p σ) := fun h => by rw [fail_i]; omega
theorem take_fwd (T : List Tok) (f : ByteArray → Bool) (σ : S) : Fwd T σ (take T f σ) := by
  unfold take; split
  · exact step_fwd T σ
  · exact fail_fwd T _ _ σ
theorem known_fwd (T : List Tok) (fits : Nm → Bool) (σ : S) : Fwd T σ (known T fits σ) := by
  unfold known; split
  · exact take_fwd T _ σ
  · exact (take_fwd T _ σ).trans (fail_fwd T _ _ _)
theorem newName_fwd (T : List Tok) (σ : S) : Fwd T σ (newName T σ) := by
  unfold newName; split
  · exact (take_fwd T _ σ).trans (fail_fwd T _ _ _)
  · exact take_fwd T _ σ
theorem deeper_fwd (T : List Tok) (d : Int) (σ : S) : Fwd T σ (deeper d σ) := fun h => ⟨Nat.le_refl _, h⟩
theorem opened_fwd (T : List Tok) (σ : S) : Fwd T σ (opened T σ) := by
  unfold opened op2
  split
  · exact ((take_fwd T _ σ).trans (fail_fwd T _ _ _)).trans (deeper_fwd T _ _)
  · exact (take_fwd T _ σ).trans (deeper_fwd T _ _)
theorem closed_fwd (T : List Tok) (σ : S) : Fwd T σ (closed T σ) := (take_fwd T _ σ).trans (deeper_fwd T _ _)
theorem comp_fwd {T : List Tok} {ex : S → S × Ex} (h : ∀ σ, Fwd T σ (ex σ).1) (p : Int) (σ : S) : Fwd T σ (comp T ex p σ).1 := by
  unfold comp
  split
  · exact ((step_fwd T σ).trans (known_fwd T _ _)).trans (h _)
  · split
    · exact (((step_fwd T σ).trans (h _)).trans (h _)).trans (h _)
    · split
      · exact ((take_fwd T _ σ).trans (h _)).trans (h _)
      · exact fail_fwd T _ _ σ
theorem expr_fwd (T : List Tok) (f : Nat) : ∀ σ, Fwd T σ (expr T f σ).1 := by
  induction f with
  | zero => intro σ; exact Fwd.rfl' T σ
  | succ f ih =>
    intro σ
    rw [expr]
    unfold exB
    split
    · exact ((opened_fwd T σ).trans (comp_fwd ih _ _)).trans (closed_fwd T _)
    · split
      · exact take_fwd T _ σ
      · exact known_fwd T _ σ
theorem opened_over {T : List Tok} {σ : S} (h : σ.i + 1 < T.length) (h40 : ((tk T σ.i).s.toList == [40]) = true) : σ.i + 1 ≤ (opened T σ).i := by
  have e : (op1 T σ).i = σ.i + 1 := by
    unfold op1 expect take isIt
    rw [if_pos h40]
    show nx T σ.i = _
    unfold nx
    rw [if_pos h]
  show σ.i + 1 ≤ (op2 T σ).i
  unfold op2
  split
  · rw [fail_i]; omega
  · omega
inductive Do where
  | set (p : Int) (n : Nm) (e : Ex)
  | put (p : Int) (n : Nm) (i e : Ex)
  | ifs (p : Int) (q : Ex) (y n : List Do)
  | fors (p : Int) (n : Nm) (r : Ex) (l : List Do)
  | none
def setX (T : List Tok) (p : Int) (σ : S) : S × Do :=
  let a := expr T 11 (known T canSet (step T σ))
  (a.1, .set p (knownN T (step T σ)) a.2)
def putX (T : List Tok) (p : Int) (σ : S) : S × Do :=
  let a := expr T 11 (known T hasWords (step T σ))
  let c := expr T 11 a.1
  (c.1, .put p (knownN T (step T σ)) a.2 c.2)
def brk (T : List Tok) (dos : S → S × List Do) (σ : S) : S × List Do := (closed T (dos (opened T σ)).1, (dos (opened T σ)).2)
def ifX (T : List Tok) (dos : S → S × List Do) (p : Int) (σ : S) : S × Do :=
  let q := expr T 11 (step T σ)
  let y := brk T dos q.1
  let n := brk T dos y.1
  (n.1, .ifs p q.2 y.2 n.2)
def seeing (n : Nm) (σ : S) : S := { σ with names := σ.names ++ [n], loops := σ.loops + 1 }
def unseen (σ a : S) : S := { a with names := σ.names, loops := a.loops - 1 }
def body (dos : S → S × List Do) (n : Nm) (σ : S) : S × List Do := (unseen σ (dos (seeing n σ)).1, (dos (seeing n σ)).2)
def loop0 (T : List Tok) (σ : S) : S := if σ.loops = 2 then here T 6 σ else σ
def loop1 (T : List Tok) (σ : S) : S := step T (loop0 T σ)
def counter (T : List Tok) (σ : S) : Nm := ⟨(tk T (loop1 T σ).i).s, 2, false, 0, σ.words + σ.loops⟩
def forX (T : List Tok) (dos : S → S × List Do) (p : Int) (σ : S) : S × Do :=
  let a := expr T 11 (newName T (loop1 T σ))
  let c := body dos (counter T σ) a.1
  (c.1, .fors p (counter T σ) a.2 c.2)
def isW (l : List UInt8) (t : Tok) : Bool := t.s.toList == l
def doX (T : List Tok) (dos : S → S × List Do) (p : Int) (σ : S) : S × Do :=
  if isW [115, 101, 116] (tk T σ.i) = true then setX T p σ
  else if isW [112, 117, 116] (tk T σ.i) = true then putX T p σ
  else if isW [105, 102] (tk T σ.i) = true then ifX T dos p σ
  else if isW [102, 111, 114] (tk T σ.i) = true then forX T dos p σ
  else (here T 2 σ, .none)
def brkDo (T : List Tok) (d : Int → S → S × Do) (σ : S) : S × Do := (closed T (d (tk T σ.i).p (opened T σ)).1, (d (tk T σ.i).p (opened T σ)).2)
def dosL (T : List Tok) (d : Int → S → S × Do) : Nat → S → List Do → S × List Do
  | 0, σ, l => (σ, l)
  | m + 1, σ, l => if isW [40] (tk T σ.i) = true then dosL T d m (brkDo T d σ).1 (l ++ [(brkDo T d σ).2]) else (σ, l)
def doF (T : List Tok) : Nat → Int → S → S × Do
  | 0, _, σ => (σ, .none)
  | f + 1, p, σ => doX T (fun σ => dosL T (doF T f) T.length σ []) p σ
def dos (T : List Tok) (f : Nat) (σ : S) : S × List Do := dosL T (doF T f) T.length σ []
theorem loop0_keeps (T : List Tok) (σ : S) : Keeps σ (loop0 T σ) := by
  unfold loop0; split
  · exact here_keeps T _ σ
  · exact Keeps.rfl' σ
theorem brk_keeps {T : List Tok} {dos : S → S × List Do} (h : ∀ σ, Keeps σ (dos σ).1) (σ : S) : Keeps σ (brk T dos σ).1 := closed_keeps (h _)
theorem body_keeps {dos : S → S × List Do} (h : ∀ σ, Keeps σ (dos σ).1) (n : Nm) (σ : S) : Keeps σ (body dos n σ).1 := by
  have k := h (seeing n σ)
  refine ⟨rfl, k.words, k.depth, ?_⟩
  show (dos (seeing n σ)).1.loops - 1 = σ.loops
  rw [k.loops]
  show σ.loops + 1 - 1 = _
  omega
theorem doX_keeps {T : List Tok} {dos : S → S × List Do} (h : ∀ σ, Keeps σ (dos σ).1) (p : Int) (σ : S) : Keeps σ (doX T dos p σ).1 := by
  unfold doX
  split
  · exact ((step_keeps T σ).trans (known_keeps T _ _)).trans (expr_keeps T _ _)
  · split
    · exact (((step_keeps T σ).trans (known_keeps T _ _)).trans (expr_keeps T _ _)).trans (expr_keeps T _ _)
    · split
      · exact (((step_keeps T σ).trans (expr_keeps T _ _)).trans (brk_keeps h _)).trans (brk_keeps h _)
      · split
        · exact ((((loop0_keeps T σ).trans (step_keeps T _)).trans (newName_keeps T _)).trans (expr_keeps T _ _)).trans (body_keeps h _ _)
        · exact here_keeps T _ σ
theorem brkDo_keeps {T : List Tok} {d : Int → S → S × Do} (h : ∀ p σ, Keeps σ (d p σ).1) (σ : S) : Keeps σ (brkDo T d σ).1 := closed_keeps (h _ _)
theorem dosL_keeps {T : List Tok} {d : Int → S → S × Do} (h : ∀ p σ, Keeps σ (d p σ).1) (m : Nat) : ∀ (σ : S) (l : List Do), Keeps σ (dosL T d m σ l).1 := by
  induction m with
  | zero => intro σ l; exact Keeps.rfl' σ
  | succ m ih =>
    intro σ l
    rw [dosL]
    split
    · exact (brkDo_keeps h σ).trans (ih _ _)
    · exact Keeps.rfl' σ
theorem doF_keeps (T : List Tok) (f : Nat) : ∀ p σ, Keeps σ (doF T f p σ).1 := by
  induction f with
  | zero => intro p σ; exact Keeps.rfl' σ
  | succ f ih => intro p σ; exact doX_keeps (fun σ => dosL_keeps ih T.length σ []) p σ
theorem dos_keeps (T : List Tok) (f : Nat) (σ : S) : Keeps σ (dos T f σ).1 := dosL_keeps (doF_keeps T f) _ _ _
theorem loop0_fwd (T : List Tok) (σ : S) : Fwd T σ (loop0 T σ) := by
  unfold loop0; split
  · exact fail_fwd T _ _ σ
  · exact Fwd.rfl' T σ
theorem brk_fwd {T : List Tok} {dos : S → S × List Do} (h : ∀ σ, Fwd T σ (dos σ).1) (σ : S) : Fwd T σ (brk T dos σ).1 := ((opened_fwd T σ).trans (h _)).trans (closed_fwd T _)
theorem body_fwd {T : List Tok} {dos : S → S × List Do} (h : ∀ σ, Fwd T σ (dos σ).1) (n : Nm) (σ : S) : Fwd T σ (body dos n σ).1 := fun x => h (seeing n σ) x
theorem doX_fwd {T : List Tok} {dos : S → S × List Do} (h : ∀ σ, Fwd T σ (dos σ).1) (p : Int) (σ : S) : Fwd T σ (doX T dos p σ).1 := by
  unfold doX
  split
  · exact ((step_fwd T σ).trans (known_fwd T _ _)).trans (expr_fwd T _ _)
  · split
    · exact (((step_fwd T σ).trans (known_fwd T _ _)).trans (expr_fwd T _ _)).trans (expr_fwd T _ _)
    · split
      · exact (((step_fwd T σ).trans (expr_fwd T _ _)).trans (brk_fwd h _)).trans (brk_fwd h _)
      · split
        · exact ((((loop0_fwd T σ).trans (step_fwd T _)).trans (newName_fwd T _)).trans (expr_fwd T _ _)).trans (body_fwd h _ _)
        · exact fail_fwd T _ _ σ
theorem brkDo_fwd {T : List Tok} {d : Int → S → S × Do} (h : ∀ p σ, Fwd T σ (d p σ).1) (σ : S) : Fwd T σ (brkDo T d σ).1 := ((opened_fwd T σ).trans (h _ _)).trans (closed_fwd T _)
theorem dosL_fwd {T : List Tok} {d : Int → S → S × Do} (h : ∀ p σ, Fwd T σ (d p σ).1) (m : Nat) : ∀ (σ : S) (l : List Do), Fwd T σ (dosL T d m σ l).1 := by
  induction m with
  | zero => intro σ l; exact Fwd.rfl' T σ
  | succ m ih =>
    intro σ l
    rw [dosL]
    split
    · exact (brkDo_fwd h σ).trans (ih _ _)
    · exact Fwd.rfl' T σ
theorem doF_fwd (T : List Tok) (f : Nat) : ∀ p σ, Fwd T σ (doF T f p σ).1 := by
  induction f with
  | zero => intro p σ; exact Fwd.rfl' T σ
  | succ f ih => intro p σ; exact doX_fwd (fun σ => dosL_fwd ih T.length σ []) p σ
theorem brkDo_over {T : List Tok} (f : Nat) {σ : S} (h : σ.i + 1 < T.length) (h40 : isW [40] (tk T σ.i) = true) : σ.i + 1 ≤ (brkDo T (doF T f) σ).1.i := by
  have a := opened_over h h40
  have b := (opened_fwd T σ (by omega)).2
  have c := (((doF_fwd T f (tk T σ.i).p (opened T σ)).trans (closed_fwd T _)) b).1
  exact Nat.le_trans a c
end K
end Go.Proofs.YtejbgcloblpbfaaGreatDoor
namespace Go.Proofs.YtejbgcloblpbfaaGreatDoor
open Go.RowKit
open R (Tok tk)
open K (Nm S Scans Ex Do)
abbrev From (B : Nat) : Nat → Prop := fun k => B ≤ k
theorem From.le {B B' : Nat} (h : B' ≤ B) {w : World} : ∀ k, From B k → k < w.heap.size → From B' k := fun _ h1 _ => Nat.le_trans h h1
structure DRow (B : Nat → Prop) (w : World) (v : Value) (us : List Value) : Prop where
  row : w.ownsRow 0 151 1 v us.length us
  lo : ∀ k, v.ownBlock = some k → B k
mutual
def DoIs (B : Nat → Prop) (w : World) : Do → Value → Prop
  | .set p n e, u => u = .iface 178 (.agg #[.int .i64 p, .string n.text, .int .i64 n.kind, .bool n.sec, .int .i64 n.size, .int .i64 n.place, exV e])
  | .put p n i e, u => u = .iface 181 (.agg #[.int .i64 p, .string n.text, .int .i64 n.kind, .bool n.sec, .int .i64 n.size, .int .i64 n.place, exV i, exV e])
  | .ifs p q y n, u => ∃ yv nv ys ns, u = .iface 184 (.agg #[.int .i64 p, exV q, yv, nv]) ∧ DRow B w yv ys ∧ Each B w y ys ∧ DRow B w nv ns ∧ Each B w n ns
  | .fors p n r l, u => ∃ lv ls, u = .iface 186 (.agg #[.int .i64 p, .string n.text, .int .i64 n.kind, .bool n.sec, .int .i64 n.size, .int .i64 n.place, exV r, lv]) ∧ DRow B w lv ls ∧ Each B w l ls
  | .none, u => u = .nilIface
def Each (B : Nat → Prop) (w : World) : List Do → List Value → Prop
  | [], us => us = []
  | d :: l, us => ∃ u r, us = u :: r ∧ DoIs B w d u ∧ Each B w l r
end
theorem DRow.keep {B : Nat → Prop} {w w' : World} {v : Value} {us : List Value} (h : DRow B w v us) (hk : ∀ k, B k → k < w.heap.size → w'.heap[k]? = w.heap[k]?) : DRow B w' v us :=
  ⟨row_of h.row fun k e => by
    obtain ⟨cur, hc⟩ := own_block h.row e
    exact hk k (h.lo k e) (blk_lt hc), h.lo⟩
mutual
theorem DoIs.keep {B : Nat → Prop} {w w' : World} (hk : ∀ k, B k → k < w.heap.size → w'.heap[k]? = w.heap[k]?) : ∀ {d : Do} {u : Value}, DoIs B w d u → DoIs B w' d u
  | .set .., _, h => by unfold DoIs at h ⊢; exact h
  | .put .., _, h => by unfold DoIs at h ⊢; exact h
  | .ifs .., _, h => by
    unfold DoIs at h ⊢
    obtain ⟨yv, nv, ys, ns, e, r1, e1, r2, e2⟩ := h
    exact ⟨yv, nv, ys, ns, e, r1.keep hk, Each.keep hk e1, r2.keep hk, Each.keep hk e2⟩
  | .fors .., _, h => by
    unfold DoIs at h ⊢
    obtain ⟨lv, ls, e, r1, e1⟩ := h
    exact ⟨lv, ls, e, r1.keep hk, Each.keep hk e1⟩
  | .none, _, h => by unfold DoIs at h ⊢; exact h
theorem Each.keep {B : Nat → Prop} {w w' : World} (hk : ∀ k, B k → k < w.heap.size → w'.heap[k]? = w.heap[k]?) : ∀ {l : List Do} {us : List Value}, Each B w l us → Each B w' l us
  | [], _, h => by unfold Each at h ⊢; exact h
  | _ :: _, _, h => by
    unfold Each at h ⊢
    obtain ⟨u, r, e, h1, h2⟩ := h
    exact ⟨u, r, e, DoIs.keep hk h1, Each.keep hk h2⟩
end
theorem DRow.lower {B B' : Nat → Prop} {w : World} {v : Value} {us : List Value} (h : DRow B w v us) (hb : ∀ k, B k → k < w.heap.size → B' k) : DRow B' w v us := ⟨h.row, fun k e => by
    obtain ⟨cur, hc⟩ := own_block h.row e
    exact hb k (h.lo k e) (blk_lt hc)⟩
mutual
theorem DoIs.lower {B B' : Nat → Prop} {w : World} (hb : ∀ k, B k → k < w.heap.size → B' k) : ∀ {d : Do} {u : Value}, DoIs B w d u → DoIs B' w d u
  | .set .., _, h => by unfold DoIs at h ⊢; exact h
  | .put .., _, h => by unfold DoIs at h ⊢; exact h
  | .ifs .., _, h => by
    unfold DoIs at h ⊢
    obtain ⟨yv, nv, ys, ns, e, r1, e1, r2, e2⟩ := h
    exact ⟨yv, nv, ys, ns, e, r1.lower hb, Each.lower hb e1, r2.lower hb, Each.lower hb e2⟩
  | .fors .., _, h => by
    unfold DoIs at h ⊢
    obtain ⟨lv, ls, e, r1, e1⟩ := h
    exact ⟨lv, ls, e, r1.lower hb, Each.lower hb e1⟩
  | .none, _, h => by unfold DoIs at h ⊢; exact h
theorem Each.lower {B B' : Nat → Prop} {w : World} (hb : ∀ k, B k → k < w.heap.size → B' k) : ∀ {l : List Do} {us : List Value}, Each B w l us → Each B' w l us
  | [], _, h => by unfold Each at h ⊢; exact h
  | _ :: _, _, h => by
    unfold Each at h ⊢
    obtain ⟨u, r, e, h1, h2⟩ := h
    exact ⟨u, r, e, DoIs.lower hb h1, Each.lower hb h2⟩
end
theorem Each.snoc {B : Nat → Prop} {w : World} {d : Do} {u : Value} (hd : DoIs B w d u) : ∀ {l : List Do} {us : List Value}, Each B w l us → Each B w (l ++ [d]) (us ++ [u])
  | [], _, h => by
    unfold Each at h
    subst h
    show Each B w [d] [u]
    unfold Each
    exact ⟨u, [], rfl, hd, by unfold Each; rfl⟩
  | _ :: _, _, h => by
    unfold Each at h
    obtain ⟨u', r, e, h1, h2⟩ := h
    subst e
    show Each B w (_ :: (_ ++ [d])) (u' :: (r ++ [u]))
    unfold Each
    exact ⟨u', _, rfl, h1, Each.snoc hd h2⟩
theorem Each.len {B : Nat → Prop} {w : World} : ∀ {l : List Do} {us : List Value}, Each B w l us → us.length = l.length
  | [], _, h => by unfold Each at h; subst h; rfl
  | _ :: _, _, h => by
    unfold Each at h
    obtain ⟨u', r, e, _, h2⟩ := h
    subst e
    simp [Each.len h2]
theorem DoIs.form {B : Nat → Prop} {w : World} {d : Do} {u : Value} (h : DoIs B w d u) : (∃ t x, u = .iface t x) ∨ u = .nilIface := by
  cases d with
  | set => unfold DoIs at h; exact Or.inl ⟨_, _, h⟩
  | put => unfold DoIs at h; exact Or.inl ⟨_, _, h⟩
  | ifs => unfold DoIs at h; obtain ⟨_, _, _, _, e, _⟩ := h; exact Or.inl ⟨_, _, e⟩
  | fors => unfold DoIs at h; obtain ⟨_, _, e, _⟩ := h; exact Or.inl ⟨_, _, e⟩
  | none => unfold DoIs at h; exact Or.inr h
theorem DRow.form {B : Nat → Prop} {w : World} {v : Value} {us : List Value} (h : DRow B w v us) : ∃ a n c, v = .slice a n c := by
  obtain ⟨_, h | ⟨g, cap, cur, rfl, _⟩⟩ := h.row
  · exact ⟨_, _, _, h.1⟩
  · exact ⟨_, _, _, rfl⟩
theorem ButV.keeps {b : Nat} {v : Value} {w w' : World} {B : Nat} (h : ButV b v w w') (hb : b < B) (hv : ∀ k, v.ownBlock = some k → k < B) : ∀ k, B ≤ k → k < w.heap.size → w'.heap[k]? = w.heap[k]? :=
  fun k h1 h2 => h.block k h2 (by omega) (fun e => by have := hv k e; omega)
end Go.Proofs.YtejbgcloblpbfaaGreatDoor
namespace Go.Proofs.YtejbgcloblpbfaaGreatDoor
open Go.RowKit
open R (Tok tk)
open K (Nm S Scans Ex Do)
set_option maxHeartbeats 1000000 in
theorem set_c {w : World} {b : Nat} {s : ByteArray} {T : List Tok} {σ : S} {v : Value} (hS : Scans s T) (h : CR w b s T σ v) (hv : K.Vars w) (h2 : 5 ≤ b) (hvb : ∀ k, v.ownBlock = some k → 5 ≤ k) (hn : σ.names.length ≤ 1000) (p : Int) (d0 : 0 ≤ σ.depth) (d1 : σ.depth ≤ 10) :
    Calls Tryz.prog 173 #[PT b, .int .i64 p] w fun x w' => ∃ u, x = .returned u ∧ DoIs (From w.heap.size) w' (K.setX T p σ).2 u ∧ CR w' b s T (K.setX T p σ).1 v ∧ ButV b v w w' := by
  have hE := kexpr_c hS h2 hvb 11
  have hlt := h.cells.lt
  have k1 := K.step_keeps T σ
  have k2 := k1.trans (K.known_keeps T K.canSet (K.step T σ))
  have hst := kstep_c hS h
  have hkn := fun (w : World) (h' : CR w b s T (K.step T σ) v) => known_set hS h' (by rw [k1.names]; exact hn)
  have hex := fun (w : World) (h' : CR w b s T (K.known T K.canSet (K.step T σ)) v) (hv : K.Vars w) => hE w _ h' hv (by rw [k2.depth]; exact d0) (by rw [k2.depth]; exact d1) (by rw [k2.depth]; omega) (by rw [k2.names]; exact hn)
  have HG : Hid (K.setX T p σ = ((K.expr T 11 (K.known T K.canSet (K.step T σ))).1, .set p (K.knownN T (K.step T σ)) (K.expr T 11 (K.known T K.canSet (K.step T σ))).2)) := rfl
  generalize K.setX T p σ = G at *
  generalize K.expr T 11 (K.known T K.canSet (K.step T σ)) = E at *
  generalize K.knownN T (K.step T σ) = N at *
  generalize K.known T K.canSet (K.step T σ) = σ2 at *
  generalize K.step T σ = σ1 at *
  obtain ⟨x0, x1, x2, x3, x4⟩ := N
  have HV : Hid (∀ w' u, u = Value.iface 178 (.agg #[.int .i64 p, .string x0, .int .i64 x1, .bool x2, .int .i64 x3, .int .i64 x4, exV E.2]) → DoIs (From w.heap.size) w' G.2 u) := fun w' u e => by rw [HG.out]; unfold DoIs; exact e
  have HG1 : Hid (G.1 = E.1) := by show _ = _; rw [HG.out]
  have hce := exV_form E.2
  generalize exV E.2 = ev at *
  clear HG k1 k2 hE
  unfold nmV at hkn
  dsimp only at *
  rcases hce with ⟨et, ex, rfl⟩ | rfl
  all_goals
    go_enter Tryz.func173, Tryz.ntmps173
    go_wp2_with fail
    refine hst.mono ?_
    rintro x w1 ⟨rfl, hr1, hb1⟩
    go_wp2_with fail
    refine (hkn _ hr1).mono ?_
    rintro x w2 ⟨rfl, hr2, hb2⟩
    have hr3 := hr2.alloc (.cells #[.string x0, .int .i64 x1, .bool x2, .int .i64 x3, .int .i64 x4] 96 (0, 0))
    have nb := At.alloc_new w2 [.string x0, .int .i64 x1, .bool x2, .int .i64 x3, .int .i64 x4] 96
    have B3 := (hb1.trans hb2).alloc (.cells #[.string x0, .int .i64 x1, .bool x2, .int .i64 x3, .int .i64 x4] 96 (0, 0))
    have V3 := hv.but B3 h2 hlt
    have hl2 := hr2.cells.lt
    have hvl2 : ∀ k, v.ownBlock = some k → k ≠ w2.heap.size := fun k hk => by have := (hr2.ne hk).2; omega
    clear hst hkn hr1
    go_upto_region 3 with fail
    go_region_with (go_at_call 205; refine (hex _ hr3.drew V3).mono ?_; rintro x w4 ⟨rfl, hr4, hb4⟩; have nb4 := nb.of_block (hb4.block _ nb.lt (by omega) (fun e => hvl2 _ e rfl)); have k0 := nb4.cell 0; have k1 := nb4.cell 1; have k2 := nb4.cell 2; have k3 := nb4.cell 3; have k4 := nb4.cell 4; simp only [List.getElem?_cons_zero, List.getElem?_cons_succ] at k0 k1 k2 k3 k4)
    all_goals
      go_wp2_with fail
      go_ret
      rw [HG1.out]
      exact ⟨_, rfl, HV.out _ _ rfl, hr4, ((B3.drew).toV v).trans hb4⟩
set_option maxHeartbeats 2000000 in
theorem put_c {w : World} {b : Nat} {s : ByteArray} {T : List Tok} {σ : S} {v : Value} (hS : Scans s T) (h : CR w b s T σ v) (hv : K.Vars w) (h2 : 5 ≤ b) (hvb : ∀ k, v.ownBlock = some k → 5 ≤ k) (hn : σ.names.length ≤ 1000) (p : Int) (d0 : 0 ≤ σ.depth) (d1 : σ.depth ≤ 10) :
    Calls Tryz.prog 174 #[PT b, .int .i64 p] w fun x w' => ∃ u, x = .returned u ∧ DoIs (From w.heap.size) w' (K.putX T p σ).2 u ∧ CR w' b s T (K.putX T p σ).1 v ∧ ButV b v w w' := by
  have hE := kexpr_c hS h2 hvb 11
  have hlt := h.cells.lt
  have k1 := K.step_keeps T σ
  have k2 := k1.trans (K.known_keeps T K.hasWords (K.step T σ))
  have k3 := k2.trans (K.expr_keeps T 11 (K.known T K.hasWords (K.step T σ)))
  have hst := kstep_c hS h
  have hkn := fun (w : World) (h' : CR w b s T (K.step T σ) v) => known_words hS h' (by rw [k1.names]; exact hn)
  have hex := fun (w : World) (h' : CR w b s T (K.known T K.hasWords (K.step T σ)) v) (hv : K.Vars w) => hE w _ h' hv (by rw [k2.depth]; exact d0) (by rw [k2.depth]; exact d1) (by rw [k2.depth]; omega) (by rw [k2.names]; exact hn)
  have hex2 := fun (w : World) (h' : CR w b s T (K.expr T 11 (K.known T K.hasWords (K.step T σ))).1 v) (hv : K.Vars w) => hE w _ h' hv (by rw [k3.depth]; exact d0) (by rw [k3.depth]; exact d1) (by rw [k3.depth]; omega) (by rw [k3.names]; exact hn)
  have HG : Hid (K.putX T p σ = ((K.expr T 11 (K.expr T 11 (K.known T K.hasWords (K.step T σ))).1).1, .put p (K.knownN T (K.step T σ)) (K.expr T 11 (K.known T K.hasWords (K.step T σ))).2 (K.expr T 11 (K.expr T 11 (K.known T K.hasWords (K.step T σ))).1).2)) := rfl
  generalize K.putX T p σ = G at *
  generalize K.expr T 11 (K.expr T 11 (K.known T K.hasWords (K.step T σ))).1 = E2 at *
  generalize K.expr T 11 (K.known T K.hasWords (K.step T σ)) = E at *
  generalize K.knownN T (K.step T σ) = N at *
  generalize K.known T K.hasWords (K.step T σ) = σ2 at *
  generalize K.step T σ = σ1 at *
  obtain ⟨x0, x1, x2, x3, x4⟩ := N
  have HV : Hid (∀ w' u, u = Value.iface 181 (.agg #[.int .i64 p, .string x0, .int .i64 x1, .bool x2, .int .i64 x3, .int .i64 x4, exV E.2, exV E2.2]) → DoIs (From w.heap.size) w' G.2 u) := fun w' u e => by rw [HG.out]; unfold DoIs; exact e
  have HG1 : Hid (G.1 = E2.1) := by show _ = _; rw [HG.out]
  have f1 := exV_form E.2
  have f2 := exV_form E2.2
  generalize exV E.2 = ev at *
  generalize exV E2.2 = ev2 at *
  clear HG k1 k2 k3 hE
  unfold nmV at hkn
  dsimp only at *
  rcases f1 with ⟨et, ex, rfl⟩ | rfl <;> rcases f2 with ⟨et2, ex2, rfl⟩ | rfl
  all_goals
    go_enter Tryz.func174, Tryz.ntmps174
    go_wp2_with fail
    refine hst.mono ?_
    rintro x w1 ⟨rfl, hr1, hb1⟩
    go_wp2_with fail
    refine (hkn _ hr1).mono ?_
    rintro x w2 ⟨rfl, hr2, hb2⟩
    have hr3 := hr2.alloc (.cells #[.string x0, .int .i64 x1, .bool x2, .int .i64 x3, .int .i64 x4] 96 (0, 0))
    have nb := At.alloc_new w2 [.string x0, .int .i64 x1, .bool x2, .int .i64 x3, .int .i64 x4] 96
    have B3 := (hb1.trans hb2).alloc (.cells #[.string x0, .int .i64 x1, .bool x2, .int .i64 x3, .int .i64 x4] 96 (0, 0))
    have V3 := hv.but B3 h2 hlt
    have hl2 := hr2.cells.lt
    have hvl2 : ∀ k, v.ownBlock = some k → k ≠ w2.heap.size := fun k hk => by have := (hr2.ne hk).2; omega
    clear hst hkn hr1
    go_wp2_with fail
    refine (hex _ hr3 V3).mono ?_
    rintro x w4 ⟨rfl, hr4, hb4⟩
    have nb4 := nb.of_block (hb4.block _ nb.lt (by omega) (fun e => hvl2 _ e rfl))
    have V4 := V3.butV hb4 h2 hr3.cells.lt hvb
    have j0 := nb4.cell 0
    have j1 := nb4.cell 1
    have j2 := nb4.cell 2
    have j3 := nb4.cell 3
    have j4 := nb4.cell 4
    simp only [List.getElem?_cons_zero, List.getElem?_cons_succ] at j0 j1 j2 j3 j4
    have nl4 := nb4.lt
    go_upto_region 4 with fail
    go_region_with (go_at_call 205; refine (hex2 _ hr4.drew V4).mono ?_; rintro x w5 ⟨rfl, hr5, hb5⟩; have nb5 := nb4.of_block (hb5.block _ nl4 (by omega) (fun e => hvl2 _ e rfl)); have k0 := nb5.cell 0; have k1 := nb5.cell 1; have k2 := nb5.cell 2; have k3 := nb5.cell 3; have k4 := nb5.cell 4; simp only [List.getElem?_cons_zero, List.getElem?_cons_succ] at k0 k1 k2 k3 k4)
    all_goals
      go_wp2_with fail
      go_ret
      rw [HG1.out]
      exact ⟨_, rfl, HV.out _ _ rfl, hr5, ((B3.toV v).trans hb4).trans (((But.refl b _).drew.toV v).trans hb5)⟩
end Go.Proofs.YtejbgcloblpbfaaGreatDoor
namespace Go.Proofs.YtejbgcloblpbfaaGreatDoor
open Go.RowKit
open R (Tok tk)
open K (Nm S Scans Ex Do)
structure KB (σ : S) : Prop where
  d0 : 0 ≤ σ.depth
  l0 : 0 ≤ σ.loops
  nm : (σ.names.length : Int) ≤ 900 + σ.loops
theorem KB.keeps {σ σ' : S} (h : KB σ) (k : K.Keeps σ σ') : KB σ' := by
  obtain ⟨a, b, c⟩ := h
  exact ⟨by rw [k.depth]; exact a, by rw [k.loops]; exact b, by rw [k.names, k.loops]; exact c⟩
theorem KB.opened {T : List Tok} {σ : S} (h : KB σ) : KB (K.opened T σ) := by
  have k := h.keeps (K.op2_keeps T σ)
  exact ⟨by have := K.opened_depth T σ; have := h.d0; omega, k.l0, k.nm⟩
def Few (σ : S) : Prop := 0 ≤ σ.words ∧ σ.words ≤ 100000
theorem Few.keeps {σ σ' : S} (h : Few σ) (k : K.Keeps σ σ') : Few σ' := by unfold Few; rw [k.words]; exact h
def Live (T : List Tok) (f : Nat) (σ : S) : Prop := (σ.depth ≤ 10 ∧ 11 - σ.depth ≤ f ∧ σ.loops ≤ 2 ∧ Few σ) ∨ (σ.i = T.length - 1 ∧ σ.depth ≤ 11 ∧ σ.loops ≤ 3)
theorem Live.opened {T : List Tok} {f : Nat} {σ : S} (d1 : σ.depth ≤ 10) (df : 10 - σ.depth ≤ f) (l1 : σ.loops ≤ 2) (hw : Few σ) : Live T f (K.opened T σ) := by
  have e := K.opened_depth T σ
  have l : (K.opened T σ).loops = σ.loops := (K.op2_keeps T σ).loops
  by_cases h : σ.depth = 10
  · exact Or.inr ⟨K.opened_deep h, by omega, by omega⟩
  · exact Or.inl ⟨by omega, by omega, by omega, (hw.keeps (K.op2_keeps T σ) : Few (K.op2 T σ))⟩
def DosK (b : Nat) (s : ByteArray) (T : List Tok) (f : Nat) : Prop := ∀ (w : World) (σ : S) (v : Value), CR w b s T σ v → K.Vars w → (∀ k, v.ownBlock = some k → 5 ≤ k) → KB σ → Live T f σ →
  Calls Tryz.prog 106 #[PT b] w fun x w' => ∃ u us, x = .returned u ∧ DRow (From w.heap.size) w' u us ∧ Each (From w.heap.size) w' (K.dos T f σ).2 us ∧ CR w' b s T (K.dos T f σ).1 v ∧ ButV b v w w'
def DosIs (B : Nat) (l : List Do) (w : World) (u : Value) : Prop := ∃ us, DRow (From B) w u us ∧ Each (From B) w l us
set_option maxHeartbeats 400000 in
theorem side_c {w : World} {b : Nat} {s : ByteArray} {T : List Tok} {σ : S} {v : Value} {f : Nat} (hD : DosK b s T f) (h : CR w b s T σ v) (hv : K.Vars w) (hvb : ∀ k, v.ownBlock = some k → 5 ≤ k) (hk : KB σ) (hl : Live T f σ) (p : Int) :
    Calls Tryz.prog 208 #[PT b, .int .i64 p] w fun x w' => ∃ u, x = .returned u ∧ DosIs w.heap.size (K.dos T f σ).2 w' u ∧ CR w' b s T (K.dos T f σ).1 v ∧ ButV b v w w' := by
  have hd := hD w σ v h hv hvb hk hl
  generalize K.dos T f σ = D at *
  go_enter Tryz.func208, Tryz.ntmps208
  go_wp2_with fail
  refine hd.mono ?_
  rintro x w' ⟨u, us, rfl, h1, h2, h3, h4⟩
  go_wp2_with fail
  go_ret
  exact ⟨u, rfl, ⟨us, h1, h2⟩, h3, h4⟩
theorem bracket_c {w : World} {b : Nat} {s : ByteArray} {T : List Tok} {σ : S} {v : Value} {f : Nat} (hS : Scans s T) (h2 : 5 ≤ b) (hD : DosK b s T f) (h : CR w b s T σ v) (hv : K.Vars w) (hvb : ∀ k, v.ownBlock = some k → 5 ≤ k) (hk : KB σ) (d1 : σ.depth ≤ 10) (df : 10 - σ.depth ≤ f) (l1 : σ.loops ≤ 2) (hw : Few σ) :
    Calls Tryz.prog 207 #[PT b, .func (.func 208) #[PT b] #[]] w fun x w' => ∃ u, x = .returned u ∧ DosIs w.heap.size (K.brk T (K.dos T f) σ).2 w' u ∧ CR w' b s T (K.brk T (K.dos T f) σ).1 v ∧ ButV b v w w' := by
  have hlt := h.cells.lt
  have hvl : ∀ k, v.ownBlock = some k → k < w.heap.size := fun k hk => (h.ne hk).2
  exact inBr_side hS h hk.d0 (by omega) (σ4 := (K.dos T f (K.opened T σ)).1) (by rw [(K.dos_keeps T f _).depth, K.opened_depth]) (DosIs w.heap.size (K.dos T f (K.opened T σ)).2)
    (fun w1 h1 hb1 => (side_c hD h1 (hv.but hb1 h2 hlt) hvb hk.opened (Live.opened d1 df l1 hw) _).mono (by
      rintro x w' ⟨u, rfl, ⟨us, r1, r2⟩, h3, h4⟩
      exact ⟨u, rfl, ⟨us, r1.lower (From.le hb1.size), r2.lower (From.le hb1.size)⟩, h3, h4⟩))
    (fun w1 w2 rv _ hb ⟨us, r1, r2⟩ => ⟨us, r1.keep (hb.keeps hlt hvl), r2.keep (hb.keeps hlt hvl)⟩)
set_option maxHeartbeats 1000000 in
theorem branch_c {w : World} {b : Nat} {s : ByteArray} {T : List Tok} {σ : S} {v : Value} {f : Nat} (hS : Scans s T) (h2 : 5 ≤ b) (hD : DosK b s T f) (h : CR w b s T σ v) (hv : K.Vars w) (hvb : ∀ k, v.ownBlock = some k → 5 ≤ k) (hk : KB σ) (d1 : σ.depth ≤ 10) (df : 10 - σ.depth ≤ f) (l1 : σ.loops ≤ 2) (hw : Few σ) (p : Int) :
    Calls Tryz.prog 175 #[PT b, .int .i64 p] w fun x w' => ∃ u, x = .returned u ∧ DoIs (From w.heap.size) w' (K.ifX T (K.dos T f) p σ).2 u ∧ CR w' b s T (K.ifX T (K.dos T f) p σ).1 v ∧ ButV b v w w' := by
  have hmf : ∀ (fn : Fn) (first cap : Array Value) (w : World), (Instr.makeFunc fn first cap).run Tryz.prog w = .ok (.func fn first cap) w := fun _ _ _ _ => rfl
  have hE := kexpr_c hS h2 hvb 11
  have hlt := h.cells.lt
  have hvl : ∀ k, v.ownBlock = some k → k < w.heap.size := fun k hk => (h.ne hk).2
  have k1 := K.step_keeps T σ
  have hst := kstep_c hS h
  have hnn : σ.names.length ≤ 1000 := by have := hk.nm; omega
  have d0 := hk.d0
  have hex := fun (w : World) (h' : CR w b s T (K.step T σ) v) (hv : K.Vars w) => hE w _ h' hv (by rw [k1.depth]; exact d0) (by rw [k1.depth]; exact d1) (by rw [k1.depth]; omega) (by rw [k1.names]; exact hnn)
  have k2 := k1.trans (K.expr_keeps T 11 (K.step T σ))
  have hb1 := fun (w : World) (h' : CR w b s T (K.expr T 11 (K.step T σ)).1 v) (hv : K.Vars w) => bracket_c hS h2 hD h' hv hvb (hk.keeps k2) (by rw [k2.depth]; exact d1) (by rw [k2.depth]; exact df) (by rw [k2.loops]; exact l1) (hw.keeps k2)
  have k3 := k2.trans (K.brk_keeps (T := T) (fun σ => K.dos_keeps T f σ) (K.expr T 11 (K.step T σ)).1)
  have hb2 := fun (w : World) (h' : CR w b s T (K.brk T (K.dos T f) (K.expr T 11 (K.step T σ)).1).1 v) (hv : K.Vars w) => bracket_c hS h2 hD h' hv hvb (hk.keeps k3) (by rw [k3.depth]; exact d1) (by rw [k3.depth]; exact df) (by rw [k3.loops]; exact l1) (hw.keeps k3)
  have HG : Hid (K.ifX T (K.dos T f) p σ = ((K.brk T (K.dos T f) (K.brk T (K.dos T f) (K.expr T 11 (K.step T σ)).1).1).1, .ifs p (K.expr T 11 (K.step T σ)).2 (K.brk T (K.dos T f) (K.expr T 11 (K.step T σ)).1).2 (K.brk T (K.dos T f) (K.brk T (K.dos T f) (K.expr T 11 (K.step T σ)).1).1).2)) := rfl
  generalize K.ifX T (K.dos T f) p σ = G at *
  generalize K.brk T (K.dos T f) (K.brk T (K.dos T f) (K.expr T 11 (K.step T σ)).1).1 = N2 at *
  generalize K.brk T (K.dos T f) (K.expr T 11 (K.step T σ)).1 = Y2 at *
  generalize K.expr T 11 (K.step T σ) = E at *
  generalize K.step T σ = σ1 at *
  have HG1 : Hid (G.1 = N2.1) := by show _ = _; rw [HG.out]
  have HV : Hid (∀ w' yv nv, DosIs w.heap.size Y2.2 w' yv → DosIs w.heap.size N2.2 w' nv → DoIs (From w.heap.size) w' G.2 (Value.iface 184 (.agg #[.int .i64 p, exV E.2, yv, nv]))) := fun w' yv nv ⟨ys, a1, a2⟩ ⟨ns, b1, b2⟩ => by
    rw [HG.out]; unfold DoIs; exact ⟨yv, nv, ys, ns, rfl, a1, a2, b1, b2⟩
  have f1 := exV_form E.2
  generalize exV E.2 = ev at *
  clear HG k1 k2 k3 hE hD d0 hk
  rcases f1 with ⟨et, ex, rfl⟩ | rfl
  all_goals
    go_enter Tryz.func175, Tryz.ntmps175
    go_wp2_with fail
    refine hst.mono ?_
    rintro x w1 ⟨rfl, hr1, hbb1⟩
    have V1 := hv.but hbb1 h2 hlt
    go_wp2_with fail
    refine (hex _ hr1 V1).mono ?_
    rintro x w2 ⟨rfl, hr2, hbb2⟩
    have V2 := V1.butV hbb2 h2 hr1.cells.lt hvb
    have B2 := (hbb1.toV v).trans hbb2
    go_wp2_with fail
    refine (hb1 _ hr2 V2).mono ?_
    rintro x w3 ⟨yv, rfl, ⟨ys, y1, y2⟩, hr3, hbb3⟩
    have V3 := V2.butV hbb3 h2 hr2.cells.lt hvb
    obtain ⟨ya, yn, yc, rfl⟩ := y1.form
    go_wp2_with fail
    refine (hb2 _ hr3 V3).mono ?_
    rintro x w4 ⟨nv, rfl, ⟨ns, n1, n2⟩, hr4, hbb4⟩
    obtain ⟨na, nn, nc, rfl⟩ := n1.form
    have B3 := B2.trans hbb3
    go_wp2_with fail
    go_ret
    rw [HG1.out]
    exact ⟨_, rfl, HV.out _ _ _ ⟨ys, (y1.lower (From.le B2.size)).keep (hbb4.keeps hlt hvl), (y2.lower (From.le B2.size)).keep (hbb4.keeps hlt hvl)⟩ ⟨ns, n1.lower (From.le B3.size), n2.lower (From.le B3.size)⟩, hr4, B3.trans hbb4⟩
end Go.Proofs.YtejbgcloblpbfaaGreatDoor
