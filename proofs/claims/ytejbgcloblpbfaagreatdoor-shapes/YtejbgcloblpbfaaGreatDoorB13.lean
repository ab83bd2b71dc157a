import Derived.Test.YtejbgcloblpbfaaGreatDoorB09
import Derived.Test.YtejbgcloblpbfaaGreatDoorB03
namespace Go.Proofs.YtejbgcloblpbfaaGreatDoor
open Go.RowKit
open R (Tok tk)
open K (Nm S Scans Ex)
set_option maxHeartbeats 1000000 in
theorem choose_c {w : World} {b : Nat} {s : ByteArray} {T : List Tok} {σ : S} {v : Value} (hS : Scans s T) (h : CR w b s T σ v) (hv : K.Vars w) (h2 : 5 ≤ b) (hvb : ∀ k, v.ownBlock = some k → 5 ≤ k) (hn : σ.names.length ≤ 1000) (p : Int)
    (f : Nat) (hE : ExDoes b s T v f) (d0 : 0 ≤ σ.depth) (d1 : σ.depth ≤ 10) (df : 11 - σ.depth ≤ f) :
    Calls Tryz.prog 227 #[PT b, .int .i64 p] w fun x w' => x = .returned (exV (K.choX T (K.expr T f) p σ).2) ∧ CR w' b s T (K.choX T (K.expr T f) p σ).1 v ∧ ButV b v w w' := by
  have hlt := h.cells.lt
  have k1 := K.step_keeps T σ
  have hst := kstep_c hS h
  have HG : Hid (K.choX T (K.expr T f) p σ = ((K.expr T f (K.expr T f (K.expr T f (K.step T σ)).1).1).1, .cho p (K.expr T f (K.step T σ)).2 (K.expr T f (K.expr T f (K.step T σ)).1).2 (K.expr T f (K.expr T f (K.expr T f (K.step T σ)).1).1).2)) := rfl
  generalize K.choX T (K.expr T f) p σ = G at *
  generalize K.step T σ = σ1 at *
  have k2 := k1.trans (K.expr_keeps T f σ1)
  have k3 := k2.trans (K.expr_keeps T f (K.expr T f σ1).1)
  have hx1 := fun (w : World) (h' : CR w b s T σ1 v) (hv : K.Vars w) => hE w _ h' hv (by rw [k1.depth]; exact d0) (by rw [k1.depth]; exact d1) (by rw [k1.depth]; exact df) (by rw [k1.names]; exact hn)
  have hx2 := fun (w : World) (h' : CR w b s T (K.expr T f σ1).1 v) (hv : K.Vars w) => hE w _ h' hv (by rw [k2.depth]; exact d0) (by rw [k2.depth]; exact d1) (by rw [k2.depth]; exact df) (by rw [k2.names]; exact hn)
  have hx3 := fun (w : World) (h' : CR w b s T (K.expr T f (K.expr T f σ1).1).1 v) (hv : K.Vars w) => hE w _ h' hv (by rw [k3.depth]; exact d0) (by rw [k3.depth]; exact d1) (by rw [k3.depth]; exact df) (by rw [k3.names]; exact hn)
  clear k1 k2 k3 hE
  generalize K.expr T f (K.expr T f (K.expr T f σ1).1).1 = E3 at *
  generalize K.expr T f (K.expr T f σ1).1 = E2 at *
  generalize K.expr T f σ1 = E1 at *
  have HV : Hid (exV G.2 = .iface 214 (.agg #[.int .i64 p, exV E1.2, exV E2.2, exV E3.2])) := by show _ = _; rw [HG.out]; rfl
  have HG1 : Hid (G.1 = E3.1) := by show _ = _; rw [HG.out]
  have f1 := exV_form E1.2
  have f2 := exV_form E2.2
  have f3 := exV_form E3.2
  generalize exV E1.2 = e1 at *
  generalize exV E2.2 = e2 at *
  generalize exV E3.2 = e3 at *
  clear HG
  rcases f1 with ⟨t1, x1, rfl⟩ | rfl <;> rcases f2 with ⟨t2, x2, rfl⟩ | rfl <;> rcases f3 with ⟨t3, x3, rfl⟩ | rfl
  all_goals
    go_enter Tryz.func227, Tryz.ntmps227
    go_wp2_with fail
    refine hst.mono ?_
    rintro x w1 ⟨rfl, hr1, hb1⟩
    have V1 := hv.but hb1 h2 hlt
    go_wp2_with fail
    refine (hx1 _ hr1 V1).mono ?_
    rintro x w2 ⟨rfl, hr2, hb2⟩
    have V2 := V1.butV hb2 h2 hr1.cells.lt hvb
    go_wp2_with fail
    refine (hx2 _ hr2 V2).mono ?_
    rintro x w3 ⟨rfl, hr3, hb3⟩
    have V3 := V2.butV hb3 h2 hr2.cells.lt hvb
    go_wp2_with fail
    refine (hx3 _ hr3 V3).mono ?_
    rintro x w4 ⟨rfl, hr4, hb4⟩
    go_wp2_with fail
    go_ret
    rw [HV.out, HG1.out]
    exact ⟨rfl, hr4, (((hb1.toV v).trans hb2).trans hb3).trans hb4⟩
set_option maxHeartbeats 1000000 in
theorem operation_c {w : World} {b : Nat} {s : ByteArray} {T : List Tok} {σ : S} {v : Value} (hS : Scans s T) (h : CR w b s T σ v) (hv : K.Vars w) (h2 : 5 ≤ b) (hvb : ∀ k, v.ownBlock = some k → 5 ≤ k) (hn : σ.names.length ≤ 1000) (p : Int)
    (f : Nat) (hE : ExDoes b s T v f) (d0 : 0 ≤ σ.depth) (d1 : σ.depth ≤ 10) (df : 11 - σ.depth ≤ f) (hop : K.isOpS (tk T σ.i).s = true) :
    Calls Tryz.prog 229 #[PT b, .int .i64 p] w fun x w' => x = .returned (exV (K.opX T (K.expr T f) p σ).2) ∧ CR w' b s T (K.opX T (K.expr T f) p σ).1 v ∧ ButV b v w w' := by
  have hlt := h.cells.lt
  have hz := hS.tsize h.lt
  have k1 := K.take_keeps T K.isOpS σ
  have ht := ktake_isOp hS h K.isOpS (isOp_c _ w (by omega))
  have hs0 : 0 < (tk T σ.i).s.size := by
    by_cases e : (tk T σ.i).s.size = 1
    · omega
    · exact absurd hop (by unfold K.isOpS; rw [sign_long e]; decide)
  have HG : Hid (K.opX T (K.expr T f) p σ = ((K.expr T f (K.expr T f (K.take T K.isOpS σ)).1).1, .op p (R.byteAt (tk T σ.i).s 0) (K.expr T f (K.take T K.isOpS σ)).2 (K.expr T f (K.expr T f (K.take T K.isOpS σ)).1).2)) := rfl
  generalize K.opX T (K.expr T f) p σ = G at *
  generalize K.take T K.isOpS σ = σ1 at *
  have k2 := k1.trans (K.expr_keeps T f σ1)
  have hx1 := fun (w : World) (h' : CR w b s T σ1 v) (hv : K.Vars w) => hE w _ h' hv (by rw [k1.depth]; exact d0) (by rw [k1.depth]; exact d1) (by rw [k1.depth]; exact df) (by rw [k1.names]; exact hn)
  have hx2 := fun (w : World) (h' : CR w b s T (K.expr T f σ1).1 v) (hv : K.Vars w) => hE w _ h' hv (by rw [k2.depth]; exact d0) (by rw [k2.depth]; exact d1) (by rw [k2.depth]; exact df) (by rw [k2.names]; exact hn)
  clear k1 k2 hE
  generalize K.expr T f (K.expr T f σ1).1 = E2 at *
  generalize K.expr T f σ1 = E1 at *
  generalize tk T σ.i = t at *
  obtain ⟨ts, tp⟩ := t
  dsimp only at *
  have HV : Hid (exV G.2 = .iface 212 (.agg #[.int .i64 p, .int .u8 ts[0].toNat, exV E1.2, exV E2.2])) := by show _ = _; rw [HG.out, ← R.byte_get ts 0 hs0]; rfl
  have HG1 : Hid (G.1 = E2.1) := by show _ = _; rw [HG.out]
  have f1 := exV_form E1.2
  have f2 := exV_form E2.2
  generalize exV E1.2 = e1 at *
  generalize exV E2.2 = e2 at *
  clear HG hop
  have hs0' : (0 : Int) < (ts.size : Int) := by omega
  rcases f1 with ⟨t1, x1, rfl⟩ | rfl <;> rcases f2 with ⟨t2, x2, rfl⟩ | rfl
  all_goals
    go_enter Tryz.func229, Tryz.ntmps229
    go_wp2_with fail
    refine ht.mono ?_
    rintro x w1 ⟨rfl, hr1, hb1⟩
    have V1 := hv.but hb1 h2 hlt
    go_wp2_with fail
    refine (hx1 _ hr1 V1).mono ?_
    rintro x w2 ⟨rfl, hr2, hb2⟩
    have V2 := V1.butV hb2 h2 hr1.cells.lt hvb
    go_wp2_with fail
    refine (hx2 _ hr2 V2).mono ?_
    rintro x w3 ⟨rfl, hr3, hb3⟩
    go_wp2_with fail
    go_ret
    rw [HV.out, HG1.out]
    exact ⟨rfl, hr3, ((hb1.toV v).trans hb2).trans hb3⟩
end Go.Proofs.YtejbgcloblpbfaaGreatDoor
namespace Go.Proofs.YtejbgcloblpbfaaGreatDoor
open Go.RowKit
open R (Tok tk)
open K (Nm S Scans Ex)
theorem emptyL : ByteArray.toList ⟨#[]⟩ = [] := by decide +kernel
set_option maxHeartbeats 1000000 in
theorem compound_c {w : World} {b : Nat} {s : ByteArray} {T : List Tok} {σ : S} {v : Value} (hS : Scans s T) (h : CR w b s T σ v) (hv : K.Vars w) (h2 : 5 ≤ b) (hvb : ∀ k, v.ownBlock = some k → 5 ≤ k) (hn : σ.names.length ≤ 1000) (p : Int)
    (f : Nat) (hE : ExDoes b s T v f) (d0 : 0 ≤ σ.depth) (hd : σ.depth ≤ 10 ∧ 11 - σ.depth ≤ f ∨ σ.i = T.length - 1) :
    Calls Tryz.prog 218 #[PT b, .int .i64 p] w fun x w' => x = .returned (exV (K.comp T (K.expr T f) p σ).2) ∧ CR w' b s T (K.comp T (K.expr T f) p σ).1 v ∧ ButV b v w w' := by
  have hz := hS.tsize h.lt
  have c1 := h.c 1 _ rfl
  have HC : Hid (K.comp T (K.expr T f) p σ = if ((tk T σ.i).s.toList == K.kGet) = true then K.getX T (K.expr T f) p σ else if ((tk T σ.i).s.toList == K.kChoose) = true then K.choX T (K.expr T f) p σ else if K.isOpS (tk T σ.i).s = true then K.opX T (K.expr T f) p σ else (K.here T 2 σ, .none)) := rfl
  have hdead : ((tk T σ.i).s.toList == K.kGet) = true ∨ ((tk T σ.i).s.toList == K.kChoose) = true ∨ K.isOpS (tk T σ.i).s = true → σ.depth ≤ 10 ∧ 11 - σ.depth ≤ f := fun hh => by
    rcases hd with hd | hd
    · exact hd
    · rw [hd, hS.last] at hh
      dsimp only [K.isOpS] at hh
      rw [emptyL] at hh
      exact absurd hh (by decide)
  cases e1 : ((tk T σ.i).s.toList == K.kGet) with
  | true =>
    have hd' := hdead (Or.inl e1)
    have hg := get_c hS h hv h2 hn p f hE d0 hd'.1 hd'.2
    rw [e1, if_pos rfl] at HC
    have e1' : ((tk T σ.i).s.toList == [103, 101, 116]) = true := e1
    generalize K.getX T (K.expr T f) p σ = G at *
    generalize K.comp T (K.expr T f) p σ = C at *
    have e := HC.out
    subst e
    generalize tk T σ.i = t at *
    clear e1 hdead hd
    generalize exV C.2 = ev at *
    go_enter Tryz.func218, Tryz.ntmps218
    go_wp2_with fail
    refine hg.mono ?_
    rintro x w' ⟨rfl, hr, hb⟩
    go_wp2_with fail
    go_ret
    exact ⟨rfl, hr, hb⟩
  | false =>
    rw [e1, if_neg (by decide)] at HC
    have e1' : ((tk T σ.i).s.toList == [103, 101, 116]) = false := e1
    cases e2 : ((tk T σ.i).s.toList == K.kChoose) with
    | true =>
      have hd' := hdead (Or.inr (Or.inl e2))
      have hg := choose_c hS h hv h2 hvb hn p f hE d0 hd'.1 hd'.2
      rw [e2, if_pos rfl] at HC
      have e2' : ((tk T σ.i).s.toList == [99, 104, 111, 111, 115, 101]) = true := e2
      generalize K.choX T (K.expr T f) p σ = G at *
      generalize K.comp T (K.expr T f) p σ = C at *
      have e := HC.out
      subst e
      generalize tk T σ.i = t at *
      clear e1 e2 hdead hd
      generalize exV C.2 = ev at *
      go_enter Tryz.func218, Tryz.ntmps218
      go_wp2_with fail
      refine hg.mono ?_
      rintro x w' ⟨rfl, hr, hb⟩
      go_wp2_with fail
      go_ret
      exact ⟨rfl, hr, hb⟩
    | false =>
      rw [e2, if_neg (by decide)] at HC
      have e2' : ((tk T σ.i).s.toList == [99, 104, 111, 111, 115, 101]) = false := e2
      have hio := isOp_c (tk T σ.i).s w (by omega)
      cases e3 : K.isOpS (tk T σ.i).s with
      | true =>
        have hd' := hdead (Or.inr (Or.inr e3))
        have hg := operation_c hS h hv h2 hvb hn p f hE d0 hd'.1 hd'.2 e3
        rw [e3, if_pos rfl] at HC
        have e3' : R.sign (tk T σ.i).s.toList = true := e3
        rw [e3'] at hio
        generalize K.opX T (K.expr T f) p σ = G at *
        generalize K.comp T (K.expr T f) p σ = C at *
        have e := HC.out
        subst e
        clear e1 e2 e3 e3' hdead hd
        generalize tk T σ.i = t at *
        generalize exV C.2 = ev at *
        go_enter Tryz.func218, Tryz.ntmps218
        go_wp2_with fail
        refine hio.mono ?_
        rintro x w' ⟨rfl, rfl⟩
        go_wp2_with fail
        refine hg.mono ?_
        rintro x w' ⟨rfl, hr, hb⟩
        go_wp2_with fail
        go_ret
        exact ⟨rfl, hr, hb⟩
      | false =>
        have hfh := failHere_c hS h 2
        rw [e3, if_neg (by decide)] at HC
        have e3' : R.sign (tk T σ.i).s.toList = false := e3
        rw [e3'] at hio
        generalize K.here T 2 σ = σ1 at *
        generalize K.comp T (K.expr T f) p σ = C at *
        clear e1 e2 e3 e3' hdead hd
        generalize tk T σ.i = t at *
        go_enter Tryz.func218, Tryz.ntmps218
        go_wp2_with fail
        refine hio.mono ?_
        rintro x w' ⟨rfl, rfl⟩
        go_wp2_with fail
        refine hfh.mono ?_
        rintro x w' ⟨rfl, hr, hb⟩
        go_wp2_with fail
        go_ret
        rw [HC.out]
        exact ⟨rfl, hr, hb.toV v⟩
set_option maxHeartbeats 1000000 in
theorem kexpr_c {b : Nat} {s : ByteArray} {T : List Tok} {v : Value} (hS : Scans s T) (h2 : 5 ≤ b) (hvb : ∀ k, v.ownBlock = some k → 5 ≤ k) (f : Nat) : ExDoes b s T v f := by
  induction f with
  | zero => intro w σ _ _ d0 d1 df; omega
  | succ f ih =>
    intro w σ h hv d0 d1 df hn
    have hmf : ∀ (fn : Fn) (first cap : Array Value) (w : World), (Instr.makeFunc fn first cap).run Tryz.prog w = .ok (.func fn first cap) w := fun _ _ _ _ => rfl
    have hz := hS.tsize h.lt
    have hlt := h.cells.lt
    have c1 := h.c 1 _ rfl
    rw [K.expr]
    have HX : Hid (K.exB T (K.expr T f) σ = if ((tk T σ.i).s.toList == [40]) = true then (K.closed T (K.comp T (K.expr T f) (tk T σ.i).p (K.opened T σ)).1, (K.comp T (K.expr T f) (tk T σ.i).p (K.opened T σ)).2)
      else if K.isNum (tk T σ.i).s = true then (K.take T K.isNum σ, .num (K.val (tk T σ.i).s)) else (K.known T K.canRead σ, .use (K.knownN T σ))) := rfl
    cases e1 : ((tk T σ.i).s.toList == [40]) with
    | true =>
      rw [e1, if_pos rfl] at HX
      have kc : K.Keeps (K.opened T σ) (K.comp T (K.expr T f) (tk T σ.i).p (K.opened T σ)).1 := K.comp_keeps (K.expr_keeps T f) _ _
      have hod := K.opened_depth T σ
      have hon : (K.opened T σ).names = σ.names := (K.op2_keeps T σ).names
      have hbr := inBr_expr hS h d0 (by omega) (σ4 := (K.comp T (K.expr T f) (tk T σ.i).p (K.opened T σ)).1) (by rw [kc.depth, hod]) (fun _ rv => rv = exV (K.comp T (K.expr T f) (tk T σ.i).p (K.opened T σ)).2)
        (fun w1 h1 hb1 => (compound_c hS h1 (hv.but hb1 h2 hlt) h2 hvb (by rw [hon]; exact hn) (tk T σ.i).p f ih (by omega) (by
          by_cases e : σ.depth = 10
          · exact Or.inr (K.opened_deep e)
          · exact Or.inl ⟨by omega, by omega⟩)).mono (by
          rintro x w' ⟨rfl, hr, hb⟩
          exact ⟨_, rfl, rfl, hr, hb⟩))
        (fun _ _ _ _ _ hh => hh)
      generalize K.exB T (K.expr T f) σ = X at *
      generalize K.comp T (K.expr T f) (tk T σ.i).p (K.opened T σ) = C at *
      have HX1 : Hid (X.1 = K.closed T C.1) := by show _ = _; rw [HX.out]
      have HX2 : Hid (exV X.2 = exV C.2) := by show _ = _; rw [HX.out]
      generalize exV C.2 = ev at *
      clear kc hod hon HX ih
      generalize tk T σ.i = t at *
      go_enter Tryz.func205, Tryz.ntmps205
      go_wp2_with fail
      refine hbr.mono ?_
      rintro x w' ⟨rv, rfl, rfl, hr, hb⟩
      go_wp2_with fail
      go_ret
      rw [HX1.out, HX2.out]
      exact ⟨rfl, hr, hb⟩
    | false =>
      rw [e1, if_neg (by decide)] at HX
      have hin := isNumber_c (tk T σ.i).s w (by omega)
      cases e2 : K.isNum (tk T σ.i).s with
      | true =>
        rw [e2, if_pos rfl] at HX
        rw [e2] at hin
        have ht := ktake_isNumber hS h K.isNum (isNumber_c _ w (by omega))
        have hvo := fun (w : World) (hv : K.Vars w) => valueOf_c (tk T σ.i).s w (by omega) hv
        generalize K.exB T (K.expr T f) σ = X at *
        generalize K.take T K.isNum σ = σ1 at *
        generalize K.val (tk T σ.i).s = q at *
        have HX1 : Hid (X.1 = σ1) := by show _ = _; rw [HX.out]
        have HX2 : Hid (exV X.2 = .iface 206 (.agg #[.int .i64 q])) := by show _ = _; rw [HX.out]; rfl
        clear HX ih e2
        generalize tk T σ.i = t at *
        go_enter Tryz.func205, Tryz.ntmps205
        go_wp2_with fail
        refine hin.mono ?_
        rintro x w' ⟨rfl, rfl⟩
        go_wp2_with fail
        refine ht.mono ?_
        rintro x w1 ⟨rfl, hr1, hb1⟩
        go_wp2_with fail
        refine (hvo _ (hv.but hb1 h2 hlt)).mono ?_
        rintro x w2 ⟨rfl, hb2⟩
        go_wp2_with fail
        go_ret
        rw [HX1.out, HX2.out]
        exact ⟨rfl, hr1.below hb2, (hb1.below hb2).toV v⟩
      | false =>
        rw [e2, if_neg (by decide)] at HX
        rw [e2] at hin
        have hk := known_read hS h hn
        generalize K.exB T (K.expr T f) σ = X at *
        generalize K.known T K.canRead σ = σ1 at *
        generalize K.knownN T σ = N at *
        obtain ⟨x0, x1, x2, x3, x4⟩ := N
        unfold nmV at hk
        dsimp only at hk
        have HX1 : Hid (X.1 = σ1) := by show _ = _; rw [HX.out]
        have HX2 : Hid (exV X.2 = .iface 208 (.agg #[.string x0, .int .i64 x1, .bool x2, .int .i64 x3, .int .i64 x4])) := by show _ = _; rw [HX.out]; rfl
        clear HX ih e2
        generalize tk T σ.i = t at *
        go_enter Tryz.func205, Tryz.ntmps205
        go_wp2_with fail
        refine hin.mono ?_
        rintro x w' ⟨rfl, rfl⟩
        go_wp2_with fail
        refine hk.mono ?_
        rintro x w1 ⟨rfl, hr1, hb1⟩
        go_wp2_with fail
        go_ret
        rw [HX1.out, HX2.out]
        exact ⟨rfl, hr1, hb1.toV v⟩
end Go.Proofs.YtejbgcloblpbfaaGreatDoor
namespace Go.Proofs.YtejbgcloblpbfaaGreatDoor
open Go.RowKit
open R (Tok tk)
namespace K
def Fwd (T : List Tok) (σ σ' : S) : Prop := σ.i < T.length → σ.i ≤ σ'.i ∧ σ'.i < T.length
theorem Fwd.rfl' (T : List Tok) (σ : S) : Fwd T σ σ := fun h => ⟨Nat.le_refl _, h⟩
theorem Fwd.trans {T : List Tok} {a b c : S} (h : Fwd T a b) (k : Fwd T b c) : Fwd T a c := fun x => ⟨Nat.le_trans (h x).1 (k (h x).2).1, (k (h x).2).2⟩
theorem step_fwd (T : List Tok) (σ : S) : Fwd T σ (step T σ) := fun h => by
  show σ.i ≤ nx T σ.i ∧ nx T σ.i < T.length
  unfold nx; split <;> omega
theorem fail_fwd (T : List Tok) (e p : Int) (σ : S) : Fwd T σ (fail T e p σ) := fun h => by rw [fail_i]; omega
theorem take_fwd (T : List Tok) (f : ByteArray → Bool) (σ : S) : Fwd T σ (take T f σ) := by
  unfold take; split
  · exact step_fwd T σ
  · exact fail_fwd T _ _ σ
theorem known_fwd (T : List Tok) (fits : Nm → Bool) (σ : S) : Fwd T σ (known T fits σ) := by
  unfold known; split
  · exact take_fwd T _ σ
  · exact (take_fwd T _ σ).trans (fail_fwd T _ _ _)
theorem newName_fwd (T : List Tok) (σ : S) : Fwd T σ (newName T σ) := by
  unfold newName; split
  · exact (take_fwd T _ σ).trans (fail_fwd T _ _ _)
  · exact take_fwd T _ σ
theorem deeper_fwd (T : List Tok) (d : Int) (σ : S) : Fwd T σ (deeper d σ) := fun h => ⟨Nat.le_refl _, h⟩
theorem opened_fwd (T : List Tok) (σ : S) : Fwd T σ (opened T σ) := by
  unfold opened op2
  split
  · exact ((take_fwd T _ σ).trans (fail_fwd T _ _ _)).trans (deeper_fwd T _ _)
  · exact (take_fwd T _ σ).trans (deeper_fwd T _ _)
theorem closed_fwd (T : List Tok) (σ : S) : Fwd T σ (closed T σ) := (take_fwd T _ σ).trans (deeper_fwd T _ _)
theorem comp_fwd {T : List Tok} {ex : S → S × Ex} (h : ∀ σ, Fwd T σ (ex σ).1) (p : Int) (σ : S) : Fwd T σ (comp T ex p σ).1 := by
  unfold comp
  split
  · exact ((step_fwd T σ).trans (known_fwd T _ _)).trans (h _)
  · split
    · exact (((step_fwd T σ).trans (h _)).trans (h _)).trans (h _)
    · split
      · exact ((take_fwd T _ σ).trans (h _)).trans (h _)
      · exact fail_fwd T _ _ σ
theorem expr_fwd (T : List Tok) (f : Nat) : ∀ σ, Fwd T σ (expr T f σ).1 := by
  induction f with
  | zero => intro σ; exact Fwd.rfl' T σ
  | succ f ih =>
    intro σ
    rw [expr]
    unfold exB
    split
    · exact ((opened_fwd T σ).trans (comp_fwd ih _ _)).trans (closed_fwd T _)
    · split
      · exact take_fwd T _ σ
      · exact known_fwd T _ σ
theorem opened_over {T : List Tok} {σ : S} (h : σ.i + 1 < T.length) (h40 : ((tk T σ.i).s.toList == [40]) = true) : σ.i + 1 ≤ (opened T σ).i := by
  have e : (op1 T σ).i = σ.i + 1 := by
    unfold op1 expect take isIt
    rw [if_pos h40]
    show nx T σ.i = _
    unfold nx
    rw [if_pos h]
  show σ.i + 1 ≤ (op2 T σ).i
  unfold op2
  split
  · rw [fail_i]; omega
  · omega
inductive Do where
  | set (p : Int) (n : Nm) (e : Ex)
  | put (p : Int) (n : Nm) (i e : Ex)
  | ifs (p : Int) (q : Ex) (y n : List Do)
  | fors (p : Int) (n : Nm) (r : Ex) (l : List Do)
  | none
def setX (T : List Tok) (p : Int) (σ : S) : S × Do :=
  let a := expr T 11 (known T canSet (step T σ))
  (a.1, .set p (knownN T (step T σ)) a.2)
def putX (T : List Tok) (p : Int) (σ : S) : S × Do :=
  let a := expr T 11 (known T hasWords (step T σ))
  let c := expr T 11 a.1
  (c.1, .put p (knownN T (step T σ)) a.2 c.2)
def brk (T : List Tok) (dos : S → S × List Do) (σ : S) : S × List Do := (closed T (dos (opened T σ)).1, (dos (opened T σ)).2)
def ifX (T : List Tok) (dos : S → S × List Do) (p : Int) (σ : S) : S × Do :=
  let q := expr T 11 (step T σ)
  let y := brk T dos q.1
  let n := brk T dos y.1
  (n.1, .ifs p q.2 y.2 n.2)
def seeing (n : Nm) (σ : S) : S := { σ with names := σ.names ++ [n], loops := σ.loops + 1 }
def unseen (σ a : S) : S := { a with names := σ.names, loops := a.loops - 1 }
def body (dos : S → S × List Do) (n : Nm) (σ : S) : S × List Do := (unseen σ (dos (seeing n σ)).1, (dos (seeing n σ)).2)
def loop0 (T : List Tok) (σ : S) : S := if σ.loops = 2 then here T 6 σ else σ
def loop1 (T : List Tok) (σ : S) : S := step T (loop0 T σ)
def counter (T : List Tok) (σ : S) : Nm := ⟨(tk T (loop1 T σ).i).s, 2, false, 0, σ.words + σ.loops⟩
def forX (T : List Tok) (dos : S → S × List Do) (p : Int) (σ : S) : S × Do :=
  let a := expr T 11 (newName T (loop1 T σ))
  let c := body dos (counter T σ) a.1
  (c.1, .fors p (counter T σ) a.2 c.2)
def isW (l : List UInt8) (t : Tok) : Bool := t.s.toList == l
def doX (T : List Tok) (dos : S → S × List Do) (p : Int) (σ : S) : S × Do :=
  if isW [115, 101, 116] (tk T σ.i) = true then setX T p σ
  else if isW [112, 117, 116] (tk T σ.i) = true then putX T p σ
  else if isW [105, 102] (tk T σ.i) = true then ifX T dos p σ
  else if isW [102, 111, 114] (tk T σ.i) = true then forX T dos p σ
  else (here T 2 σ, .none)
def brkDo (T : List Tok) (d : Int → S → S × Do) (σ : S) : S × Do := (closed T (d (tk T σ.i).p (opened T σ)).1, (d (tk T σ.i).p (opened T σ)).2)
def dosL (T : List Tok) (d : Int → S → S × Do) : Nat → S → List Do → S × List Do
  | 0, σ, l => (σ, l)
  | m + 1, σ, l => if isW [40] (tk T σ.i) = true then dosL T d m (brkDo T d σ).1 (l ++ [(brkDo T d σ).2]) else (σ, l)
def doF (T : List Tok) : Nat → Int → S → S × Do
  | 0, _, σ => (σ, .none)
  | f + 1, p, σ => doX T (fun σ => dosL T (doF T f) T.length σ []) p σ
def dos (T : List Tok) (f : Nat) (σ : S) : S × List Do := dosL T (doF T f) T.length σ []
theorem loop0_keeps (T : List Tok) (σ : S) : Keeps σ (loop0 T σ) := by
  unfold loop0; split
  · exact here_keeps T _ σ
  · exact Keeps.rfl' σ
theorem brk_keeps {T : List Tok} {dos : S → S × List Do} (h : ∀ σ, Keeps σ (dos σ).1) (σ : S) : Keeps σ (brk T dos σ).1 := closed_keeps (h _)
theorem body_keeps {dos : S → S × List Do} (h : ∀ σ, Keeps σ (dos σ).1) (n : Nm) (σ : S) : Keeps σ (body dos n σ).1 := by
  have k := h (seeing n σ)
  refine ⟨rfl, k.words, k.depth, ?_⟩
  show (dos (seeing n σ)).1.loops - 1 = σ.loops
  rw [k.loops]
  show σ.loops + 1 - 1 = _
  omega
theorem doX_keeps {T : List Tok} {dos : S → S × List Do} (h : ∀ σ, Keeps σ (dos σ).1) (p : Int) (σ : S) : Keeps σ (doX T dos p σ).1 := by
  unfold doX
  split
  · exact ((step_keeps T σ).trans (known_keeps T _ _)).trans (expr_keeps T _ _)
  · split
    · exact (((step_keeps T σ).trans (known_keeps T _ _)).trans (expr_keeps T _ _)).trans (expr_keeps T _ _)
    · split
      · exact (((step_keeps T σ).trans (expr_keeps T _ _)).trans (brk_keeps h _)).trans (brk_keeps h _)
      · split
        · exact ((((loop0_keeps T σ).trans (step_keeps T _)).trans (newName_keeps T _)).trans (expr_keeps T _ _)).trans (body_keeps h _ _)
        · exact here_keeps T _ σ
theorem brkDo_keeps {T : List Tok} {d : Int → S → S × Do} (h : ∀ p σ, Keeps σ (d p σ).1) (σ : S) : Keeps σ (brkDo T d σ).1 := closed_keeps (h _ _)
theorem dosL_keeps {T : List Tok} {d : Int → S → S × Do} (h : ∀ p σ, Keeps σ (d p σ).1) (m : Nat) : ∀ (σ : S) (l : List Do), Keeps σ (dosL T d m σ l).1 := by
  induction m with
  | zero => intro σ l; exact Keeps.rfl' σ
  | succ m ih =>
    intro σ l
    rw [dosL]
    split
    · exact (brkDo_keeps h σ).trans (ih _ _)
    · exact Keeps.rfl' σ
theorem doF_keeps (T : List Tok) (f : Nat) : ∀ p σ, Keeps σ (doF T f p σ).1 := by
  induction f with
  | zero => intro p σ; exact Keeps.rfl' σ
  | succ f ih => intro p σ; exact doX_keeps (fun σ => dosL_keeps ih T.length σ []) p σ
theorem dos_keeps (T : List Tok) (f : Nat) (σ : S) : Keeps σ (dos T f σ).1 := dosL_keeps (doF_keeps T f) _ _ _
theorem loop0_fwd (T : List Tok) (σ : S) : Fwd T σ (loop0 T σ) := by
  unfold loop0; split
  · exact fail_fwd T _ _ σ
  · exact Fwd.rfl' T σ
theorem brk_fwd {T : List Tok} {dos : S → S × List Do} (h : ∀ σ, Fwd T σ (dos σ).1) (σ : S) : Fwd T σ (brk T dos σ).1 := ((opened_fwd T σ).trans (h _)).trans (closed_fwd T _)
theorem body_fwd {T : List Tok} {dos : S → S × List Do} (h : ∀ σ, Fwd T σ (dos σ).1) (n : Nm) (σ : S) : Fwd T σ (body dos n σ).1 := fun x => h (seeing n σ) x
theorem doX_fwd {T : List Tok} {dos : S → S × List Do} (h : ∀ σ, Fwd T σ (dos σ).1) (p : Int) (σ : S) : Fwd T σ (doX T dos p σ).1 := by
  unfold doX
  split
  · exact ((step_fwd T σ).trans (known_fwd T _ _)).trans (expr_fwd T _ _)
  · split
    · exact (((step_fwd T σ).trans (known_fwd T _ _)).trans (expr_fwd T _ _)).trans (expr_fwd T _ _)
    · split
      · exact (((step_fwd T σ).trans (expr_fwd T _ _)).trans (brk_fwd h _)).trans (brk_fwd h _)
      · split
        · exact ((((loop0_fwd T σ).trans (step_fwd T _)).trans (newName_fwd T _)).trans (expr_fwd T _ _)).trans (body_fwd h _ _)
        · exact fail_fwd T _ _ σ
theorem brkDo_fwd {T : List Tok} {d : Int → S → S × Do} (h : ∀ p σ, Fwd T σ (d p σ).1) (σ : S) : Fwd T σ (brkDo T d σ).1 := ((opened_fwd T σ).trans (h _ _)).trans (closed_fwd T _)
theorem dosL_fwd {T : List Tok} {d : Int → S → S × Do} (h : ∀ p σ, Fwd T σ (d p σ).1) (m : Nat) : ∀ (σ : S) (l : List Do), Fwd T σ (dosL T d m σ l).1 := by
  induction m with
  | zero => intro σ l; exact Fwd.rfl' T σ
  | succ m ih =>
    intro σ l
    rw [dosL]
    split
    · exact (brkDo_fwd h σ).trans (ih _ _)
    · exact Fwd.rfl' T σ
theorem doF_fwd (T : List Tok) (f : Nat) : ∀ p σ, Fwd T σ (doF T f p σ).1 := by
  induction f with
  | zero => intro p σ; exact Fwd.rfl' T σ
  | succ f ih => intro p σ; exact doX_fwd (fun σ => dosL_fwd ih T.length σ []) p σ
theorem brkDo_over {T : List Tok} (f : Nat) {σ : S} (h : σ.i + 1 < T.length) (h40 : isW [40] (tk T σ.i) = true) : σ.i + 1 ≤ (brkDo T (doF T f) σ).1.i := by
  have a := opened_over h h40
  have b := (opened_fwd T σ (by omega)).2
  have c := (((doF_fwd T f (tk T σ.i).p (opened T σ)).trans (closed_fwd T _)) b).1
  exact Nat.le_trans a c
end K
end Go.Proofs.YtejbgcloblpbfaaGreatDoor
namespace Go.Proofs.YtejbgcloblpbfaaGreatDoor
open Go.RowKit
open R (Tok tk)
open K (Nm S Scans Ex Do)
abbrev From (B : Nat) : Nat → Prop := fun k => B ≤ k
theorem From.le {B B' : Nat} (h : B' ≤ B) {w : World} : ∀ k, From B k → k < w.heap.size → From B' k := fun _ h1 _ => Nat.le_trans h h1
structure DRow (B : Nat → Prop) (w : World) (v : Value) (us : List Value) : Prop where
  row : w.ownsRow 0 151 1 v us.length us
  lo : ∀ k, v.ownBlock = some k → B k
mutual
def DoIs (B : Nat → Prop) (w : World) : Do → Value → Prop
  | .set p n e, u => u = .iface 178 (.agg #[.int .i64 p, .string n.text, .int .i64 n.kind, .bool n.sec, .int .i64 n.size, .int .i64 n.place, exV e])
  | .put p n i e, u => u = .iface 181 (.agg #[.int .i64 p, .string n.text, .int .i64 n.kind, .bool n.sec, .int .i64 n.size, .int .i64 n.place, exV i, exV e])
  | .ifs p q y n, u => ∃ yv nv ys ns, u = .iface 184 (.agg #[.int .i64 p, exV q, yv, nv]) ∧ DRow B w yv ys ∧ Each B w y ys ∧ DRow B w nv ns ∧ Each B w n ns
  | .fors p n r l, u => ∃ lv ls, u = .iface 186 (.agg #[.int .i64 p, .string n.text, .int .i64 n.kind, .bool n.sec, .int .i64 n.size, .int .i64 n.place, exV r, lv]) ∧ DRow B w lv ls ∧ Each B w l ls
  | .none, u => u = .nilIface
def Each (B : Nat → Prop) (w : World) : List Do → List Value → Prop
  | [], us => us = []
  | d :: l, us => ∃ u r, us = u :: r ∧ DoIs B w d u ∧ Each B w l r
end
theorem DRow.keep {B : Nat → Prop} {w w' : World} {v : Value} {us : List Value} (h : DRow B w v us) (hk : ∀ k, B k → k < w.heap.size → w'.heap[k]? = w.heap[k]?) : DRow B w' v us :=
  ⟨row_of h.row fun k e => by
    obtain ⟨cur, hc⟩ := own_block h.row e
    exact hk k (h.lo k e) (blk_lt hc), h.lo⟩
mutual
theorem DoIs.keep {B : Nat → Prop} {w w' : World} (hk : ∀ k, B k → k < w.heap.size → w'.heap[k]? = w.heap[k]?) : ∀ {d : Do} {u : Value}, DoIs B w d u → DoIs B w' d u
  | .set .., _, h => by unfold DoIs at h ⊢; exact h
  | .put .., _, h => by unfold DoIs at h ⊢; exact h
  | .ifs .., _, h => by
    unfold DoIs at h ⊢
    obtain ⟨yv, nv, ys, ns, e, r1, e1, r2, e2⟩ := h
    exact ⟨yv, nv, ys, ns, e, r1.keep hk, Each.keep hk e1, r2.keep hk, Each.keep hk e2⟩
  | .fors .., _, h => by
    unfold DoIs at h ⊢
    obtain ⟨lv, ls, e, r1, e1⟩ := h
    exact ⟨lv, ls, e, r1.keep hk, Each.keep hk e1⟩
  | .none, _, h => by unfold DoIs at h ⊢; exact h
theorem Each.keep {B : Nat → Prop} {w w' : World} (hk : ∀ k, B k → k < w.heap.size → w'.heap[k]? = w.heap[k]?) : ∀ {l : List Do} {us : List Value}, Each B w l us → Each B w' l us
  | [], _, h => by unfold Each at h ⊢; exact h
  | _ :: _, _, h => by
    unfold Each at h ⊢
    obtain ⟨u, r, e, h1, h2⟩ := h
    exact ⟨u, r, e, DoIs.keep hk h1, Each.keep hk h2⟩
end
theorem DRow.lower {B B' : Nat → Prop} {w : World} {v : Value} {us : List Value} (h : DRow B w v us) (hb : ∀ k, B k → k < w.heap.size → B' k) : DRow B' w v us := ⟨h.row, fun k e => by
    obtain ⟨cur, hc⟩ := own_block h.row e
    exact hb k (h.lo k e) (blk_lt hc)⟩
mutual
theorem DoIs.lower {B B' : Nat → Prop} {w : World} (hb : ∀ k, B k → k < w.heap.size → B' k) : ∀ {d : Do} {u : Value}, DoIs B w d u → DoIs B' w d u
  | .set .., _, h => by unfold DoIs at h ⊢; exact h
  | .put .., _, h => by unfold DoIs at h ⊢; exact h
  | .ifs .., _, h => by
    unfold DoIs at h ⊢
    obtain ⟨yv, nv, ys, ns, e, r1, e1, r2, e2⟩ := h
    exact ⟨yv, nv, ys, ns, e, r1.lower hb, Each.lower hb e1, r2.lower hb, Each.lower hb e2⟩
  | .fors .., _, h => by
    unfold DoIs at h ⊢
    obtain ⟨lv, ls, e, r1, e1⟩ := h
    exact ⟨lv, ls, e, r1.lower hb, Each.lower hb e1⟩
  | .none, _, h => by unfold DoIs at h ⊢; exact h
theorem Each.lower {B B' : Nat → Prop} {w : World} (hb : ∀ k, B k → k < w.heap.size → B' k) : ∀ {l : List Do} {us : List Value}, Each B w l us → Each B' w l us
  | [], _, h => by unfold Each at h ⊢; exact h
  | _ :: _, _, h => by
    unfold Each at h ⊢
    obtain ⟨u, r, e, h1, h2⟩ := h
    exact ⟨u, r, e, DoIs.lower hb h1, Each.lower hb h2⟩
end
theorem Each.snoc {B : Nat → Prop} {w : World} {d : Do} {u : Value} (hd : DoIs B w d u) : ∀ {l : List Do} {us : List Value}, Each B w l us → Each B w (l ++ [d]) (us ++ [u])
  | [], _, h => by
    unfold Each at h
    subst h
    show Each B w [d] [u]
    unfold Each
    exact ⟨u, [], rfl, hd, by unfold Each; rfl⟩
  | _ :: _, _, h => by
    unfold Each at h
    obtain ⟨u', r, e, h1, h2⟩ := h
    subst e
    show Each B w (_ :: (_ ++ [d])) (u' :: (r ++ [u]))
    unfold Each
    exact ⟨u', _, rfl, h1, Each.snoc hd h2⟩
theorem Each.len {B : Nat → Prop} {w : World} : ∀ {l : List Do} {us : List Value}, Each B w l us → us.length = l.length
  | [], _, h => by unfold Each at h; subst h; rfl
  | _ :: _, _, h => by
    unfold Each at h
    obtain ⟨u', r, e, _, h2⟩ := h
    subst e
    simp [Each.len h2]
theorem DoIs.form {B : Nat → Prop} {w : World} {d : Do} {u : Value} (h : DoIs B w d u) : (∃ t x, u = .iface t x) ∨ u = .nilIface := by
  cases d with
  | set => unfold DoIs at h; exact Or.inl ⟨_, _, h⟩
  | put => unfold DoIs at h; exact Or.inl ⟨_, _, h⟩
  | ifs => unfold DoIs at h; obtain ⟨_, _, _, _, e, _⟩ := h; exact Or.inl ⟨_, _, e⟩
  | fors => unfold DoIs at h; obtain ⟨_, _, e, _⟩ := h; exact Or.inl ⟨_, _, e⟩
  | none => unfold DoIs at h; exact Or.inr h
theorem DRow.form {B : Nat → Prop} {w : World} {v : Value} {us : List Value} (h : DRow B w v us) : ∃ a n c, v = .slice a n c := by
  obtain ⟨_, h | ⟨g, cap, cur, rfl, _⟩⟩ := h.row
  · exact ⟨_, _, _, h.1⟩
  · exact ⟨_, _, _, rfl⟩
theorem ButV.keeps {b : Nat} {v : Value} {w w' : World} {B : Nat} (h : ButV b v w w') (hb : b < B) (hv : ∀ k, v.ownBlock = some k → k < B) : ∀ k, B ≤ k → k < w.heap.size → w'.heap[k]? = w.heap[k]? :=
  fun k h1 h2 => h.block k h2 (by omega) (fun e => by have := hv k e; omega)
end Go.Proofs.YtejbgcloblpbfaaGreatDoor
