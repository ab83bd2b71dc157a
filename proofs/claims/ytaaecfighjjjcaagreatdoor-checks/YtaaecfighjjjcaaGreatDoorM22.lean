import Derived.Test.YtaaecfighjjjcaaGreatDoorM21
namespace Go.Proofs.YtaaecfighjjjcaaGreatDoor
open Go.RowKit
open R (Tok tk)
open K (Nm S Scans Ex Do)

def LiveD (T : List Tok) (f : Nat) (σ : S) : Prop := (σ.depth ≤ 10 ∧ 12 - σ.depth ≤ f ∧ σ.loops ≤ 2 ∧ Few σ) ∨ (σ.i = T.length - 1 ∧ σ.depth ≤ 11 ∧ σ.loops ≤ 3)
theorem LiveD.opened {T : List Tok} {f : Nat} {σ : S} (d1 : σ.depth ≤ 10) (df : 11 - σ.depth ≤ f) (l1 : σ.loops ≤ 2) (hw : Few σ) : LiveD T f (K.opened T σ) := by
  have e := K.opened_depth T σ
  have l : (K.opened T σ).loops = σ.loops := (K.op2_keeps T σ).loops
  by_cases h : σ.depth = 10
  · exact Or.inr ⟨K.opened_deep h, by omega, by omega⟩
  · exact Or.inl ⟨by omega, by omega, by omega, (hw.keeps (K.op2_keeps T σ) : Few (K.op2 T σ))⟩

def DoK (b : Nat) (s : ByteArray) (T : List Tok) (f : Nat) : Prop := ∀ (w : World) (σ : S) (v : Value) (p : Int), CR w b s T σ v → K.Vars w → (∀ k, v.ownBlock = some k → 2 ≤ k) → KB σ → LiveD T f σ →
  Calls Tryz.prog 111 #[PT b, .int .i64 p] w fun x w' => ∃ u, x = .returned u ∧ DoIs (From w.heap.size) w' (K.doF T f p σ).2 u ∧ CR w' b s T (K.doF T f p σ).1 v ∧ ButV b v w w'



set_option maxHeartbeats 1000000 in
theorem do_k {b : Nat} {s : ByteArray} {T : List Tok} {f : Nat} (hS : Scans s T) (h2 : 2 ≤ b) (hD : DosK b s T f) : DoK b s T (f + 1) := by
  intro w σ v p h hv hvb hk hl
  have hnn : σ.names.length ≤ 1000 := by have := hk.nm; rcases hl with hl | hl <;> omega
  have c1 := h.c 1 _ rfl
  show Calls _ _ _ _ fun x w' => ∃ u, x = .returned u ∧ DoIs (From w.heap.size) w' (K.doX T (K.dos T f) p σ).2 u ∧ CR w' b s T (K.doX T (K.dos T f) p σ).1 v ∧ ButV b v w w'
  have HC : Hid (K.doX T (K.dos T f) p σ = if K.isW [115, 101, 116] (tk T σ.i) = true then K.setX T p σ else if K.isW [112, 117, 116] (tk T σ.i) = true then K.putX T p σ else if K.isW [105, 102] (tk T σ.i) = true then K.ifX T (K.dos T f) p σ else if K.isW [102, 111, 114] (tk T σ.i) = true then K.forX T (K.dos T f) p σ else (K.here T 2 σ, .none)) := rfl
  have hdead : K.isW [115, 101, 116] (tk T σ.i) = true ∨ K.isW [112, 117, 116] (tk T σ.i) = true ∨ K.isW [105, 102] (tk T σ.i) = true ∨ K.isW [102, 111, 114] (tk T σ.i) = true → σ.depth ≤ 10 ∧ 12 - σ.depth ≤ ((f + 1 : Nat) : Int) ∧ σ.loops ≤ 2 ∧ Few σ := fun hh => by
    rcases hl with hl | hl
    · exact hl
    · rw [hl.1, hS.last] at hh
      unfold K.isW at hh
      dsimp only at hh
      rw [emptyL] at hh
      exact absurd hh (by decide)
  have d0 := hk.d0
  generalize HDX : K.doX T (K.dos T f) p σ = X at *
  cases e1 : K.isW [115, 101, 116] (tk T σ.i) with
  | true =>
    obtain ⟨a1, a2, a3, a4⟩ := hdead (Or.inl e1)
    have hg := set_c hS h hv h2 hvb hnn p d0 a1
    rw [e1, if_pos rfl] at HC
    rw [← HC.out] at hg
    have t1 : ((tk T σ.i).s.toList == [115, 101, 116]) = true := e1
    clear HC hdead hl HDX e1
    generalize tk T σ.i = t at *
    go_enter Tryz.func111, Tryz.ntmps111
    go_wp2_with fail
    refine hg.mono ?_
    rintro x w' ⟨u, rfl, hd, hr, hb⟩
    go_wp2_with fail
    go_ret
    exact ⟨u, rfl, hd, hr, hb⟩
  | false =>
  rw [e1, if_neg (by decide)] at HC
  have t1 : ((tk T σ.i).s.toList == [115, 101, 116]) = false := e1
  cases e2 : K.isW [112, 117, 116] (tk T σ.i) with
  | true =>
    obtain ⟨a1, a2, a3, a4⟩ := hdead (Or.inr (Or.inl e2))
    have hg := put_c hS h hv h2 hvb hnn p d0 a1
    rw [e2, if_pos rfl] at HC
    rw [← HC.out] at hg
    have t2 : ((tk T σ.i).s.toList == [112, 117, 116]) = true := e2
    clear HC hdead hl HDX e1 e2
    generalize tk T σ.i = t at *
    go_enter Tryz.func111, Tryz.ntmps111
    go_wp2_with fail
    refine hg.mono ?_
    rintro x w' ⟨u, rfl, hd, hr, hb⟩
    go_wp2_with fail
    go_ret
    exact ⟨u, rfl, hd, hr, hb⟩
  | false =>
  rw [e2, if_neg (by decide)] at HC
  have t2 : ((tk T σ.i).s.toList == [112, 117, 116]) = false := e2
  cases e3 : K.isW [105, 102] (tk T σ.i) with
  | true =>
    obtain ⟨a1, a2, a3, a4⟩ := hdead (Or.inr (Or.inr (Or.inl e3)))
    have hg := branch_c hS h2 hD h hv hvb hk a1 (by omega) a3 a4 p
    rw [e3, if_pos rfl] at HC
    rw [← HC.out] at hg
    have t3 : ((tk T σ.i).s.toList == [105, 102]) = true := e3
    clear HC hdead hl HDX e1 e2 e3
    generalize tk T σ.i = t at *
    go_enter Tryz.func111, Tryz.ntmps111
    go_wp2_with fail
    refine hg.mono ?_
    rintro x w' ⟨u, rfl, hd, hr, hb⟩
    go_wp2_with fail
    go_ret
    exact ⟨u, rfl, hd, hr, hb⟩
  | false =>
  rw [e3, if_neg (by decide)] at HC
  have t3 : ((tk T σ.i).s.toList == [105, 102]) = false := e3
  cases e4 : K.isW [102, 111, 114] (tk T σ.i) with
  | true =>
    obtain ⟨a1, a2, a3, a4⟩ := hdead (Or.inr (Or.inr (Or.inr e4)))
    have hg := loop_c hS h2 hD h hv hvb hk a1 (by omega) a3 a4 p
    rw [e4, if_pos rfl] at HC
    rw [← HC.out] at hg
    have t4 : ((tk T σ.i).s.toList == [102, 111, 114]) = true := e4
    clear HC hdead hl HDX e1 e2 e3 e4
    generalize tk T σ.i = t at *
    go_enter Tryz.func111, Tryz.ntmps111
    go_wp2_with fail
    refine hg.mono ?_
    rintro x w' ⟨u, rfl, hd, hr, hb⟩
    go_wp2_with fail
    go_ret
    exact ⟨u, rfl, hd, hr, hb⟩
  | false =>
    rw [e4, if_neg (by decide)] at HC
    have t4 : ((tk T σ.i).s.toList == [102, 111, 114]) = false := e4
    have hg := failHere_c hS h 2
    have HX1 : Hid (X.1 = K.here T 2 σ) := by show _ = _; rw [HC.out]
    have HX2 : Hid (X.2 = .none) := by show _ = _; rw [HC.out]
    clear HC hdead hl HDX e1 e2 e3 e4
    generalize K.here T 2 σ = σ1 at *
    generalize tk T σ.i = t at *
    go_enter Tryz.func111, Tryz.ntmps111
    go_wp2_with fail
    refine hg.mono ?_
    rintro x w' ⟨rfl, hr, hb⟩
    go_wp2_with fail
    go_ret
    rw [HX1.out, HX2.out]
    exact ⟨_, rfl, by unfold DoIs; rfl, hr, hb.toV v⟩

/-- A row of the reader's caller has grown. -/
theorem CR.grew {w w' : World} {b : Nat} {s : ByteArray} {T : List Tok} {σ : S} {v lv lv' : Value} (h : CR w b s T σ v) (g : Grew w w' lv lv') (hb : lv.ownBlock ≠ some b) (hn : ∀ k, v.ownBlock = some k → lv.ownBlock ≠ some k) : CR w' b s T σ v :=
  ⟨h.cells.of_block (g.block b h.cells.lt hb), row_of h.names fun k e => g.block k (h.ne e).2 (hn k e), h.lt⟩
theorem brkDo_k {w : World} {b : Nat} {s : ByteArray} {T : List Tok} {σ : S} {v : Value} {f : Nat} (hS : Scans s T) (h2 : 2 ≤ b) (hO : DoK b s T f) (h : CR w b s T σ v) (hv : K.Vars w) (hvb : ∀ k, v.ownBlock = some k → 2 ≤ k) (hk : KB σ) (d1 : σ.depth ≤ 10) (df : 11 - σ.depth ≤ f) (l1 : σ.loops ≤ 2) (hw : Few σ) :
    Calls Tryz.prog 110 #[PT b, .func (.func 111) #[PT b] #[]] w fun x w' => ∃ u, x = .returned u ∧ DoIs (From w.heap.size) w' (K.brkDo T (K.doF T f) σ).2 u ∧ CR w' b s T (K.brkDo T (K.doF T f) σ).1 v ∧ ButV b v w w' := by
  have hlt := h.cells.lt
  have hvl : ∀ k, v.ownBlock = some k → k < w.heap.size := fun k hk => (h.ne hk).2
  exact inBr_do hS h hk.d0 (by omega) (σ4 := (K.doF T f (tk T σ.i).p (K.opened T σ)).1) (by rw [(K.doF_keeps T f _ _).depth, K.opened_depth]) (fun w' u => DoIs (From w.heap.size) w' (K.doF T f (tk T σ.i).p (K.opened T σ)).2 u)
    (fun w1 h1 hb1 => (hO w1 _ v _ h1 (hv.but hb1 h2 hlt) hvb hk.opened (LiveD.opened d1 df l1 hw)).mono (by
      rintro x w' ⟨u, rfl, r1, h3, h4⟩
      exact ⟨u, rfl, r1.lower (From.le hb1.size), h3, h4⟩))
    (fun w1 w2 rv _ hb r1 => r1.keep (hb.keeps hlt hvl))
end Go.Proofs.YtaaecfighjjjcaaGreatDoor
namespace Go.Proofs.YtaaecfighjjjcaaGreatDoor
open Go.RowKit
open R (Tok tk)
open K (Nm S Scans Ex Do)

theorem dosL_step {T : List Tok} {d : Int → S → S × Do} {k : Nat} {σk : S} {l : List Do} {A : S × List Do} (h : Hid (A = K.dosL T d (T.length - k) σk l)) (hk : k < T.length) (e : K.isW [40] (tk T σk.i) = true) :
    Hid (A = K.dosL T d (T.length - (k + 1)) (K.brkDo T d σk).1 (l ++ [(K.brkDo T d σk).2])) := by
  have : T.length - k = (T.length - (k + 1)) + 1 := by omega
  rw [this, K.dosL, if_pos e] at h
  exact h
theorem dosL_stop {T : List Tok} {d : Int → S → S × Do} {m : Nat} {σk : S} {l : List Do} (e : K.isW [40] (tk T σk.i) = false) : K.dosL T d m σk l = (σk, l) := by
  cases m with
  | zero => rfl
  | succ m => rw [K.dosL, if_neg (by rw [e]; decide)]

set_option maxHeartbeats 2000000 in
theorem dos_k {b : Nat} {s : ByteArray} {T : List Tok} (hS : Scans s T) (h2 : 2 ≤ b) (f : Nat) (hO : 1 ≤ f → DoK b s T f) : DosK b s T f := by
  intro w σ v h hv hvb hk hl
  have hmf : ∀ (fn : Fn) (first cap : Array Value) (w : World), (Instr.makeFunc fn first cap).run Tryz.prog w = .ok (.func fn first cap) w := fun _ _ _ _ => rfl
  obtain ⟨i0, hi, hz0, hz1, hz2⟩ := info_parts info_do
  have hlt := h.cells.lt
  have hvl : ∀ k, v.ownBlock = some k → k < w.heap.size := fun k hk => (h.ne hk).2
  have hfew := hS.few
  have HD : Hid (K.dos T f σ = K.dosL T (K.doF T f) T.length σ []) := rfl
  generalize HDD : K.dos T f σ = DD at *
  go_enter Tryz.func83, Tryz.ntmps83
  go_wp2_with fail
  go_loopg [3] (T.length + 1) (fun gk q wr => ∃ (lv : Value) (k : Nat) (σk : S) (l : List Do) (us : List Value), lv = q ∧ Hid (DD = K.dosL T (K.doF T f) (T.length - k) σk l) ∧ k ≤ σk.i ∧ σ.i ≤ σk.i ∧ T.length - σk.i ≤ gk ∧ CR wr b s T σk v ∧ K.Keeps σ σk ∧
    DRow (From w.heap.size) wr lv us ∧ Each (fun k => w.heap.size ≤ k ∧ lv.ownBlock ≠ some k) wr l us ∧ ButV b v w wr ∧ Hid (us.length = k))
  case atStart => exact ⟨_, 0, σ, [], [], rfl, HD, Nat.zero_le _, Nat.le_refl _, by omega, h, K.Keeps.rfl' σ, ⟨World.ownsRow_nil w 0 _ 1, fun k e => by simp [Value.ownBlock] at e⟩, by unfold Each; rfl, ButV.refl b v w, rfl⟩
  case round =>
    obtain ⟨lv, k, σk, l, us, hq, HA, hki, hmi, hgi, hrk, kk, dr, ea, bv, HL⟩ := hrel
    subst hq
    have c1 := hrk.c 1 _ rfl
    have hit := hrk.lt
    cases e : K.isW [40] (tk T σk.i) with
    | true =>
      have hil : σk.i + 1 < T.length := by
        by_cases hh : σk.i = T.length - 1
        · rw [hh, hS.last] at e
          unfold K.isW at e
          dsimp only at e
          rw [emptyL] at e
          exact absurd e (by decide)
        · omega
      obtain ⟨d1, df, l1, fw⟩ : σ.depth ≤ 10 ∧ 11 - σ.depth ≤ (f : Int) ∧ σ.loops ≤ 2 ∧ Few σ := by
        rcases hl with hl | hl
        · exact hl
        · omega
      have V := hv.butV bv h2 hlt hvb
      have hbr := brkDo_k hS h2 (hO (by omega)) hrk V hvb (hk.keeps kk) (by rw [kk.depth]; exact d1) (by rw [kk.depth]; exact df) (by rw [kk.loops]; exact l1) (fw.keeps kk)
      have HA' := dosL_step HA (by omega) e
      have ov := K.brkDo_over f hil e
      have kk' := kk.trans (K.brkDo_keeps (T := T) (K.doF_keeps T f) σk)
      have e' : ((tk T σk.i).s.toList == [40]) = true := e
      clear HA e hl hO
      generalize K.brkDo T (K.doF T f) σk = E at *
      generalize tk T σk.i = t at *
      have hul : us.length ≤ 1000 := by have := HL.out; omega
      go_wp2_with fail
      refine hbr.mono ?_
      rintro x w6 ⟨u, rfl, hd, hr6, hb6⟩
      have dr6 := dr.keep (hb6.keeps hlt hvl)
      have ea6 := ea.keep (w' := w6) fun k h1 h3 => hb6.keeps hlt hvl k h1.1 h3
      have bv6 := bv.trans hb6
      have s6 := bv.size
      have lvlt : ∀ k, lv.ownBlock = some k → k < wr.heap.size := fun k hk => by
        obtain ⟨cur, hc⟩ := own_block dr.row hk
        exact blk_lt hc
      have hd6 : DoIs (fun k => w.heap.size ≤ k ∧ lv.ownBlock ≠ some k) w6 E.2 u := hd.lower fun k h1 _ => ⟨Nat.le_trans s6 h1, fun e => by have := lvlt k e; have : wr.heap.size ≤ k := h1; omega⟩
      have es := Each.snoc hd6 ea6
      have hf := hd.form
      clear hd hd6 ea6 hbr dr ea hb6
      rcases hf with ⟨ut, ux, rfl⟩ | rfl
      all_goals
        go_wp2_with (at_builtin; refine wpList_append_row1 _ rfl _ _ 68 rfl 138 i0 .nilIface 1 16 Tryz.underlying68 hi hz0 hz1 hz2 rfl (by decide) _ us.length us rfl (by exact World.ownsRow.alloc dr6.row _) ⟨w6.heap.size, 0, none⟩ 1 1 [_] rfl rfl (by exact row_new w6 [_] _) (by intro u hu; simp only [List.mem_singleton] at hu; subst hu; rfl) (few_le (by omega)) (by omega) Nat.one_pos ?_; intro g cap w7 hv7 hg hkk; have gr := Grew.of ((More.refl w6).alloc _) hg hkk; clear hg hkk)
        go_roundg (gk - 1)
        case measure => omega
        case rel =>
          have nb : lv.ownBlock ≠ some b := fun e => by have := dr6.lo b e; omega
          have ov7 := gr.own g rfl
          refine ⟨_, k + 1, E.1, l ++ [E.2], us ++ [_], rfl, HA', by omega, by omega, by omega, hr6.grew gr nb (fun k e e' => by have := dr6.lo k e'; have := hvl k e; omega), kk', ⟨by simpa using hv7, fun k e => ?_⟩, ?_, ?_, by show _ = _; rw [List.length_append, HL.out]; rfl⟩
          · rcases gr.own k e with e' | e'
            · exact dr6.lo k e'
            · have := bv6.size; show w.heap.size ≤ k; omega
          · have es2 := es.lower (B' := fun k => (w.heap.size ≤ k ∧ lv.ownBlock ≠ some k) ∧ (Value.slice (some ⟨g, 0, none⟩) (us.length + 1) cap).ownBlock ≠ some k) (fun k h1 h3 => ⟨h1, fun e => by
              rcases gr.own k e with e' | e'
              · exact h1.2 e'
              · omega⟩)
            exact (es2.keep (w' := w7) fun k h1 h3 => gr.block k h3 h1.1.2).lower fun k h1 _ => ⟨h1.1.1, h1.2⟩
          · have z6 := bv6.size
            exact ⟨gr.os.trans bv6.os, gr.tape.trans bv6.tape, gr.output.trans bv6.output, Nat.le_trans z6 gr.size, fun k h1 h3 h4 => (gr.block k (by omega) (fun e => by have : w.heap.size ≤ k := dr6.lo k e; omega)).trans (bv6.block k h1 h3 h4)⟩
    | false =>
      have HX := hide (HA.out.trans (dosL_stop e))
      have e' : ((tk T σk.i).s.toList == [40]) = false := e
      clear HA e hl hO
      generalize tk T σk.i = t at *
      go_wp2_with fail
      go_ret
      rw [HX.out]
      exact ⟨_, us, rfl, dr, ea.lower (fun k h1 _ => h1.1), hrk, bv⟩

/-- All the code's Do's. -/
theorem dosAll_k {b : Nat} {s : ByteArray} {T : List Tok} (hS : Scans s T) (h2 : 2 ≤ b) (f : Nat) : DosK b s T f := by
  induction f with
  | zero => exact dos_k hS h2 0 (fun h => by omega)
  | succ f ih => exact dos_k hS h2 (f + 1) (fun _ => do_k hS h2 ih)
end Go.Proofs.YtaaecfighjjjcaaGreatDoor
