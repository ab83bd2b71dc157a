import Derived.Test.YtejbgcloblpbfaaGreatDoorR17
import Derived.Test.YtejbgcloblpbfaaGreatDoorR16
import Derived.Deep.CutBlock
namespace Go.Proofs.YtejbgcloblpbfaaGreatDoor
open Go.RowKit
open R (Tok tk)
open K (Nm S Scans Ex Do)
theorem dosL_step {T : List Tok} {d : Int → S → S × Do} {k : Nat} {σk : S} {l : List Do} {A : S × List Do} (h : Hid (A = K.dosL T d (T.length - k) σk l)) (hk : k < T.length) (e : K.isW [40] (tk T σk.i) = true) :
    Hid (A = K.dosL T d (T.length - (k + 1)) (K.brkDo T d σk).1 (l ++ [(K.brkDo T d σk).2])) := by
  have : T.length - k = (T.length - (k + 1)) + 1 := by omega
  rw [this, K.dosL, if_pos e] at h
  exact h
theorem dosL_stop {T : List Tok} {d : Int → S → S × Do} {m : Nat} {σk : S} {l : List Do} (e : K.isW [40] (tk T σk.i) = false) : K.dosL T d m σk l = (σk, l) := by
  cases m with
  | zero => rfl
  | succ m => rw [K.dosL, if_neg (by rw [e]; decide)]
set_option maxHeartbeats 2000000 in
theorem dos_k {b : Nat} {s : ByteArray} {T : List Tok} (hS : Scans s T) (h2 : 5 ≤ b) (f : Nat) (hO : 1 ≤ f → DoK b s T f) : DosK b s T f := by
  intro w σ v h hv hvb hk hl
  have hmf : ∀ (fn : Fn) (first cap : Array Value) (w : World), (Instr.makeFunc fn first cap).run Tryz.prog w = .ok (.func fn first cap) w := fun _ _ _ _ => rfl
  obtain ⟨i0, hi, hz0, hz1, hz2⟩ := info_parts info_do
  have hlt := h.cells.lt
  have hvl : ∀ k, v.ownBlock = some k → k < w.heap.size := fun k hk => (h.ne hk).2
  have hfew := hS.few
  have HD : Hid (K.dos T f σ = K.dosL T (K.doF T f) T.length σ []) := rfl
  generalize HDD : K.dos T f σ = DD at *
  go_enter Tryz.func106, Tryz.ntmps106
  go_wp2_with fail
  go_loopg [3] (T.length + 1) (fun gk q wr => ∃ (lv : Value) (k : Nat) (σk : S) (l : List Do) (us : List Value), lv = q ∧ Hid (DD = K.dosL T (K.doF T f) (T.length - k) σk l) ∧ k ≤ σk.i ∧ σ.i ≤ σk.i ∧ T.length - σk.i ≤ gk ∧ CR wr b s T σk v ∧ K.Keeps σ σk ∧
    DRow (From w.heap.size) wr lv us ∧ Each (fun k => w.heap.size ≤ k ∧ lv.ownBlock ≠ some k) wr l us ∧ ButV b v w wr ∧ Hid (us.length = k))
  case atStart => exact ⟨_, 0, σ, [], [], rfl, HD, Nat.zero_le _, Nat.le_refl _, by omega, h, K.Keeps.rfl' σ, ⟨World.ownsRow_nil w 0 _ 1, fun k e => by simp [Value.ownBlock] at e⟩, by unfold Each; rfl, ButV.refl b v w, rfl⟩
  case round =>
    obtain ⟨lv, k, σk, l, us, hq, HA, hki, hmi, hgi, hrk, kk, dr, ea, bv, HL⟩ := hrel
    subst hq
    have c1 := hrk.c 1 _ rfl
    have hit := hrk.lt
    cases e : K.isW [40] (tk T σk.i) with
    | true =>
      have hil : σk.i + 1 < T.length := by
        by_cases hh : σk.i = T.length - 1
        · rw [hh, hS.last] at e
          unfold K.isW at e
          dsimp only at e
          rw [emptyL] at e
          exact absurd e (by decide)
        · omega
      obtain ⟨d1, df, l1, fw⟩ : σ.depth ≤ 10 ∧ 11 - σ.depth ≤ (f : Int) ∧ σ.loops ≤ 2 ∧ Few σ := by
        rcases hl with hl | hl
        · exact hl
        · omega
      have V := hv.butV bv h2 hlt hvb
      have hbr := brkDo_k hS h2 (hO (by omega)) hrk V hvb (hk.keeps kk) (by rw [kk.depth]; exact d1) (by rw [kk.depth]; exact df) (by rw [kk.loops]; exact l1) (fw.keeps kk)
      have HA' := dosL_step HA (by omega) e
      have ov := K.brkDo_over f hil e
      have kk' := kk.trans (K.brkDo_keeps (T := T) (K.doF_keeps T f) σk)
      have e' : ((tk T σk.i).s.toList == [40]) = true := e
      clear HA e hl hO
      generalize K.brkDo T (K.doF T f) σk = E at *
      generalize tk T σk.i = t at *
      have hul : us.length ≤ 1000 := by have := HL.out; omega
      go_wp2_with fail
      refine hbr.mono ?_
      rintro x w6 ⟨u, rfl, hd, hr6, hb6⟩
      have dr6 := dr.keep (hb6.keeps hlt hvl)
      have ea6 := ea.keep (w' := w6) fun k h1 h3 => hb6.keeps hlt hvl k h1.1 h3
      have bv6 := bv.trans hb6
      have s6 := bv.size
      have lvlt : ∀ k, lv.ownBlock = some k → k < wr.heap.size := fun k hk => by
        obtain ⟨cur, hc⟩ := own_block dr.row hk
        exact blk_lt hc
      have hd6 : DoIs (fun k => w.heap.size ≤ k ∧ lv.ownBlock ≠ some k) w6 E.2 u := hd.lower fun k h1 _ => ⟨Nat.le_trans s6 h1, fun e => by have := lvlt k e; have : wr.heap.size ≤ k := h1; omega⟩
      have es := Each.snoc hd6 ea6
      have hf := hd.form
      clear hd hd6 ea6 hbr dr ea hb6
      rcases hf with ⟨ut, ux, rfl⟩ | rfl
      all_goals
        go_wp2_with (at_builtin; refine wpList_append_row1 _ rfl _ _ 82 rfl 151 i0 .nilIface 1 16 Tryz.underlying82 hi hz0 hz1 hz2 rfl (by decide) _ us.length us rfl (by exact World.ownsRow.alloc dr6.row _) ⟨w6.heap.size, 0, none⟩ 1 1 [_] rfl rfl (by exact row_new w6 [_] _) (by intro u hu; simp only [List.mem_singleton] at hu; subst hu; rfl) (few_le (by omega)) (by omega) Nat.one_pos ?_; intro g cap w7 hv7 hg hkk; have gr := Grew.of ((More.refl w6).alloc _) hg hkk; clear hg hkk)
        go_roundg (gk - 1)
        case measure => omega
        case rel =>
          have nb : lv.ownBlock ≠ some b := fun e => by have := dr6.lo b e; omega
          have ov7 := gr.own g rfl
          refine ⟨_, k + 1, E.1, l ++ [E.2], us ++ [_], rfl, HA', by omega, by omega, by omega, hr6.grew gr nb (fun k e e' => by have := dr6.lo k e'; have := hvl k e; omega), kk', ⟨by simpa using hv7, fun k e => ?_⟩, ?_, ?_, by show _ = _; rw [List.length_append, HL.out]; rfl⟩
          · rcases gr.own k e with e' | e'
            · exact dr6.lo k e'
            · have := bv6.size; show w.heap.size ≤ k; omega
          · have es2 := es.lower (B' := fun k => (w.heap.size ≤ k ∧ lv.ownBlock ≠ some k) ∧ (Value.slice (some ⟨g, 0, none⟩) (us.length + 1) cap).ownBlock ≠ some k) (fun k h1 h3 => ⟨h1, fun e => by
              rcases gr.own k e with e' | e'
              · exact h1.2 e'
              · omega⟩)
            exact (es2.keep (w' := w7) fun k h1 h3 => gr.block k h3 h1.1.2).lower fun k h1 _ => ⟨h1.1.1, h1.2⟩
          · have z6 := bv6.size
            exact ⟨gr.os.trans bv6.os, gr.tape.trans bv6.tape, gr.output.trans bv6.output, Nat.le_trans z6 gr.size, fun k h1 h3 h4 => (gr.block k (by omega) (fun e => by have : w.heap.size ≤ k := dr6.lo k e; omega)).trans (bv6.block k h1 h3 h4)⟩
    | false =>
      have HX := hide (HA.out.trans (dosL_stop e))
      have e' : ((tk T σk.i).s.toList == [40]) = false := e
      clear HA e hl hO
      generalize tk T σk.i = t at *
      go_wp2_with fail
      go_ret
      rw [HX.out]
      exact ⟨_, us, rfl, dr, ea.lower (fun k h1 _ => h1.1), hrk, bv⟩
theorem dosAll_k {b : Nat} {s : ByteArray} {T : List Tok} (hS : Scans s T) (h2 : 5 ≤ b) (f : Nat) : DosK b s T f := by
  induction f with
  | zero => exact dos_k hS h2 0 (fun h => by omega)
  | succ f ih => exact dos_k hS h2 (f + 1) (fun _ => do_k hS h2 ih)
end Go.Proofs.YtejbgcloblpbfaaGreatDoor
namespace Go.Proofs.YtejbgcloblpbfaaGreatDoor
open Go.RowKit
open R (Tok tk)
open K (Nm S Scans Ex Do)
def K.dcl (T : List Tok) (σ : S) : S := K.closed T (K.decl T (tk T σ.i).p (K.opened T σ))
def K.dclN (T : List Tok) (σ : S) : Nm := K.declN T (tk T σ.i).p (K.opened T σ)
def K.adds (n : Nm) (σ : S) : S := { σ with names := σ.names ++ [n], words := IntKind.i64.wrap (σ.words + n.size) }
def K.isDcl (T : List Tok) (σ : S) : Bool := K.isW [40] (tk T σ.i) && R.isDecl (tk T (K.nx T σ.i)).s.toList
def K.declsL (T : List Tok) : Nat → S → S
  | 0, σ => σ
  | m + 1, σ => if K.isDcl T σ = true then K.declsL T m (K.adds (K.dclN T σ) (K.dcl T σ)) else σ
theorem K.array_keeps (T : List Tok) (σ : S) : K.Keeps σ (K.array T σ) := (((K.step_keeps T σ).trans (K.take_keeps T _ _)).trans (K.newName_keeps T _)).trans (K.take_keeps T _ _)
theorem K.array_fwd (T : List Tok) (σ : S) : K.Fwd T σ (K.array T σ) := (((K.step_fwd T σ).trans (K.take_fwd T _ _)).trans (K.newName_fwd T _)).trans (K.take_fwd T _ _)
theorem K.dec0_fwd (T : List Tok) (p : Int) (σ : S) : K.Fwd T σ (K.dec0 T p σ) := by
  unfold K.dec0; split
  · exact K.fail_fwd T _ _ _
  · exact K.Fwd.rfl' T σ
theorem K.decl_keeps (T : List Tok) (p : Int) (σ : S) : K.Keeps σ (K.decl T p σ) := by
  unfold K.decl; split
  · exact (K.dec0_keeps T p σ).trans (K.array_keeps T _)
  · exact ((K.dec0_keeps T p σ).trans (K.take_keeps T _ _)).trans (K.newName_keeps T _)
theorem K.decl_fwd (T : List Tok) (p : Int) (σ : S) : K.Fwd T σ (K.decl T p σ) := by
  unfold K.decl; split
  · exact (K.dec0_fwd T p σ).trans (K.array_fwd T _)
  · exact ((K.dec0_fwd T p σ).trans (K.take_fwd T _ _)).trans (K.newName_fwd T _)
theorem K.dcl_keeps (T : List Tok) (σ : S) : K.Keeps σ (K.dcl T σ) := K.closed_keeps (K.decl_keeps T _ _)
theorem K.dcl_over {T : List Tok} {σ : S} (h : σ.i + 1 < T.length) (h40 : K.isW [40] (tk T σ.i) = true) : σ.i + 1 ≤ (K.dcl T σ).i := by
  have a := K.opened_over h h40
  have b := (K.opened_fwd T σ (by omega)).2
  have c := (((K.decl_fwd T (tk T σ.i).p (K.opened T σ)).trans (K.closed_fwd T _)) b).1
  exact Nat.le_trans a c
theorem dcl_k {w : World} {b : Nat} {s : ByteArray} {T : List Tok} {σ : S} {v : Value} (hS : Scans s T) (h2 : 5 ≤ b) (h : CR w b s T σ v) (hv : K.Vars w) (d0 : 0 ≤ σ.depth) (d1 : σ.depth ≤ 10) (hn : σ.names.length ≤ 1000) :
    Calls Tryz.prog 104 #[PT b, .func (.func 105) #[PT b] #[]] w fun x w' => x = .returned (nmV (K.dclN T σ)) ∧ CR w' b s T (K.dcl T σ) v ∧ But b w w' :=
  inBr_name hS h d0 (by omega) (σ4 := K.decl T (tk T σ.i).p (K.opened T σ)) (by rw [(K.decl_keeps T _ _).depth, K.opened_depth]) (K.declN T (tk T σ.i).p (K.opened T σ))
    (fun w1 h1 hb1 => kdecl_c hS h1 (hv.but hb1 h2 h.cells.lt) h2 (by rw [show (K.opened T σ).names = σ.names from (K.op2_keeps T σ).names]; exact hn) _)
theorem declsL_step {T : List Tok} {k : Nat} {σk A : S} (h : Hid (A = K.declsL T (T.length - k) σk)) (hk : k < T.length) (e : K.isDcl T σk = true) : Hid (A = K.declsL T (T.length - (k + 1)) (K.adds (K.dclN T σk) (K.dcl T σk))) := by
  have : T.length - k = (T.length - (k + 1)) + 1 := by omega
  rw [this, K.declsL, if_pos e] at h
  exact h
theorem declsL_stop {T : List Tok} {m : Nat} {σk : S} (e : K.isDcl T σk = false) : K.declsL T m σk = σk := by
  cases m with
  | zero => rfl
  | succ m => rw [K.declsL, if_neg (by rw [e]; decide)]
def K.start : S := ⟨0, [], 0, 0, 0, 0, 0⟩
def K.prog0 (T : List Tok) : S := K.declsL T T.length K.start
def K.progS (T : List Tok) : S := K.expect T [] (K.dos T 11 (K.prog0 T)).1
def K.progD (T : List Tok) : List Do := (K.dos T 11 (K.prog0 T)).2
theorem tok_s (s p : Value) (w : World) : (Instr.field 136 (.agg #[s, p]) 0).run Tryz.prog w = .ok s w := by kernel_rfl
end Go.Proofs.YtejbgcloblpbfaaGreatDoor
namespace Go.Proofs.YtejbgcloblpbfaaGreatDoor
open Go.RowKit
open R (Tok tk)
open K (Nm S Scans Ex Do)
structure PB (T : List Tok) (k : Nat) (σ : S) : Prop where
  depth : σ.depth = 0
  loops : σ.loops = 0
  names : σ.names.length = k
  few : (0 ≤ σ.words ∧ σ.words ≤ 6 * k) ∨ σ.i = T.length - 1
theorem one_byte {s : ByteArray} (h : s.size = 1) : ∃ c, s.data.toList = [c] ∧ R.byteAt s 0 = c := by
  obtain ⟨d⟩ := s
  have : d.size = 1 := h
  obtain ⟨c, rfl⟩ := Array.size_eq_one_iff.1 this
  exact ⟨c, rfl, rfl⟩
theorem val_size {s : ByteArray} (h : R.isSize s = true) : K.val s = ((R.byteAt s 0).toNat : Int) - 48 ∧ 1 ≤ K.val s ∧ K.val s ≤ 6 := by
  unfold R.isSize at h
  rw [Bool.and_eq_true, decide_eq_true_eq, decide_eq_true_eq] at h
  obtain ⟨h1, h2, h3⟩ := h
  obtain ⟨c, hc, hb⟩ := one_byte h1
  rw [hb] at h2 h3 ⊢
  have e : Lib.atoiAll s.data.toList = .ok ((c.toNat : Int) - 48) := by
    rw [hc]
    unfold Lib.atoiAll
    have n1 : ¬ c.toNat = 43 := by omega
    have n2 : ¬ c.toNat = 45 := by omega
    simp only [n1, n2, or_self, if_false]
    unfold Lib.parseMag
    rw [if_neg (by simp)]
    simp only [Lib.parseUint10]
    rw [if_pos (by omega), if_neg (by omega), if_neg (by omega)]
    dsimp only
    rw [if_neg (by omega), if_neg (by simp)]
    congr 1
    omega
  unfold K.val
  rw [e]
  dsimp only
  omega
theorem dcl_size {T : List Tok} (hp : 0 < T.length) (σ : S) : (K.dcl T σ).i = T.length - 1 ∨ (1 ≤ (K.dclN T σ).size ∧ (K.dclN T σ).size ≤ 6) := by
  unfold K.dcl K.dclN
  generalize K.opened T σ = σ0
  unfold K.decl K.declN
  by_cases ha : K.isArr (tk T (K.dec0 T (tk T σ.i).p σ0).i) = true
  · rw [if_pos ha, if_pos ha]
    generalize K.dec0 T (tk T σ.i).p σ0 = σ1
    unfold K.array K.arrayN
    by_cases hz : R.isSize (tk T (K.arrS3 T σ1).i).s = true
    · right
      have := val_size hz
      exact ⟨this.2.1, this.2.2⟩
    · left
      refine (K.closed_fwd T _).last hp ?_
      unfold K.take
      rw [if_neg hz]
      exact K.here_i T _ _
  · rw [if_neg ha, if_neg ha]
    right
    exact ⟨by show (1 : Int) ≤ 1; omega, by show (1 : Int) ≤ 6; omega⟩
theorem PB.next {T : List Tok} (hp : 0 < T.length) {k : Nat} {σ : S} (h : PB T k σ) (hk : k ≤ 1000) (hi : ¬ σ.i = T.length - 1) : PB T (k + 1) (K.adds (K.dclN T σ) (K.dcl T σ)) := by
  have kp := K.dcl_keeps T σ
  refine ⟨?_, ?_, ?_, ?_⟩
  · show (K.dcl T σ).depth = 0; rw [kp.depth]; exact h.depth
  · show (K.dcl T σ).loops = 0; rw [kp.loops]; exact h.loops
  · show ((K.dcl T σ).names ++ [_]).length = k + 1; rw [kp.names]; simp [h.names]
  · rcases dcl_size hp σ with e | e
    · exact Or.inr e
    · left
      show 0 ≤ IntKind.i64.wrap ((K.dcl T σ).words + (K.dclN T σ).size) ∧ IntKind.i64.wrap ((K.dcl T σ).words + (K.dclN T σ).size) ≤ 6 * ((k + 1 : Nat) : Int)
      rw [kp.words]
      rcases h.few with f | f
      · rw [k64 _ (by omega)]; omega
      · exact absurd f hi
theorem start_pb (T : List Tok) : PB T 0 K.start := ⟨rfl, rfl, rfl, Or.inl ⟨by decide, by decide⟩⟩
end Go.Proofs.YtejbgcloblpbfaaGreatDoor
