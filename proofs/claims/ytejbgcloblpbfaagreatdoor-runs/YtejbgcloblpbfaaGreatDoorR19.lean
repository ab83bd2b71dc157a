import Derived.Test.YtejbgcloblpbfaaGreatDoorR16
import Derived.Deep.RegionWith
import Derived.Test.YtejbgcloblpbfaaGreatDoorR18
import Derived.Test.YtejbgcloblpbfaaGreatDoorR17
namespace Go.Proofs.YtejbgcloblpbfaaGreatDoor
open Go.RowKit
open K (Nm Ex Do)
theorem w64 {n : Int} (h : -9223372036854775808 ≤ n ∧ n ≤ 9223372036854775807) : wrap64 n = n := by unfold wrap64; omega
theorem V.md_lt (a : Int) {s : Int} (h1 : 1 ≤ s) (h6 : s ≤ 6) : 0 ≤ V.md a s ∧ V.md a s < s := by
  rw [V.md_eq a h1 h6]
  exact ⟨Int.emod_nonneg a (by omega), Int.emod_lt_of_pos a (by omega)⟩
set_option maxRecDepth 100000 in
set_option maxHeartbeats 2000000 in
theorem placeIn_c (n : Nm) (e : Ex) (he : EvDoes e) (w : World) (b g : Nat) (tb : Array Value) (W : List Int) (h : RAt w b g tb W) (h0 : 0 ≤ n.place) (h1 : 1 ≤ n.size) (h6 : n.size ≤ 6) (hp : n.place + n.size ≤ W.length) (we : V.wfE W.length e) :
    Calls Tryz.prog 113 #[PT b, nmV n, exV e] w fun x w' => x = .returned (.int .i64 (n.place + V.md (V.ev W e) n.size)) ∧ Below w.heap.size w w' := by
  have hx := fun (w : World) (h' : RAt w b g tb W) => he w b g tb W h' we
  have hmd := fun (w : World) => modulo_c (V.ev W e) n.size h1 w
  have few := h.few
  have hm := V.md_lt (V.ev W e) h1 h6
  rw [exV_good (V.wf_good we)] at hx ⊢
  have hwr : Hid (IntKind.i64.wrap (n.place + V.md (V.ev W e) n.size) = n.place + V.md (V.ev W e) n.size) := k64 _ (by omega)
  unfold nmV
  generalize V.md (V.ev W e) n.size = M at *
  generalize V.ev W e = v at *
  generalize exT e = t at *
  generalize exP e = x at *
  obtain ⟨x0, x1, x2, x3, x4⟩ := n
  dsimp only at *
  have B0 : Below w.heap.size w (w.alloc (.cells #[.string x0, .int .i64 x1, .bool x2, .int .i64 x3, .int .i64 x4] 96 (0, 0))) := (Below.refl _ _).alloc (Nat.le_refl _) _
  have bx := At.alloc_new w [.string x0, .int .i64 x1, .bool x2, .int .i64 x3, .int .i64 x4] 96
  have Bd : Below w.heap.size w (w.alloc (.cells #[.string x0, .int .i64 x1, .bool x2, .int .i64 x3, .int .i64 x4] 96 (0, 0))).drew := ⟨B0.os, B0.tape, B0.output, B0.size, B0.block⟩
  have r0 := h.below B0
  have rd : RAt (w.alloc (.cells #[.string x0, .int .i64 x1, .bool x2, .int .i64 x3, .int .i64 x4] 96 (0, 0))).drew b g tb W := r0.keep rfl rfl
  clear h0 h1 h6 hp hm
  go_enter Tryz.func113, Tryz.ntmps113
  go_upto_region 1 with fail
  go_region_with (first | (go_at_call 146; refine (hmd _).mono ?_; rintro z w2 ⟨rfl, rfl⟩) | (go_at_call 112; refine (hx _ rd).mono ?_; rintro z w1 ⟨rfl, hb1⟩; have bx1 : At w1 w.heap.size 96 [.string x0, .int .i64 x1, .bool x2, .int .i64 x3, .int .i64 x4] := bx.of_block (hb1.block _ bx.lt); have k4 := bx1.cell 4; have k3 := bx1.cell 3; simp only [List.getElem?_cons_zero, List.getElem?_cons_succ] at k3 k4))
  all_goals
    go_wp2_with fail
    go_ret
    exact ⟨congrArg (fun v => Ending.returned (Value.int IntKind.i64 v)) hwr.out, Bd.trans (hb1.mono Bd.size)⟩
set_option maxRecDepth 100000 in
set_option maxHeartbeats 4000000 in
theorem ev_get (p : Int) (n : Nm) (e : Ex) (he : EvDoes e) : EvDoes (.get p n e) := by
  intro w b g tb W h hw
  have a1 := as_Get_Number
  have a2 := as_Get_Use
  have a3 := as_Get_Get
  unfold V.wfE at hw
  obtain ⟨h0, h1, h6, hp, we⟩ := hw
  have hpl := fun (w : World) (h' : RAt w b g tb W) => placeIn_c n e he w b g tb W h' h0 h1 h6 hp we
  have hm := V.md_lt (V.ev W e) h1 h6
  have few := h.few
  have HV : Hid (V.ev W (.get p n e) = W.getD (n.place + V.md (V.ev W e) n.size).toNat 0) := rfl
  obtain ⟨k, hk⟩ := Int.eq_ofNat_of_zero_le (show 0 ≤ n.place + V.md (V.ev W e) n.size by omega)
  have hkl : k < W.length := by omega
  have hz : (k : Int) < (W.length : Int) := by omega
  rw [hk] at hpl HV
  have HV' : Hid (V.ev W (.get p n e) = W.getD k 0) := HV.out
  rw [HV'.out]
  show Calls Tryz.prog _ #[PT b, .iface 210 (.agg #[.int .i64 p, .string n.text, .int .i64 n.kind, .bool n.sec, .int .i64 n.size, .int .i64 n.place, exV e])] w _
  unfold nmV at hpl
  rw [exV_good (V.wf_good we)] at hpl ⊢
  clear HV HV' hk hm h0 h1 h6 hp
  have hcw := fun (w : World) (h' : RAt w b g tb W) => h'.word hkl
  generalize W.getD k 0 = q at *
  generalize exT e = t at *
  generalize exP e = x at *
  obtain ⟨x0, x1, x2, x3, x4⟩ := n
  dsimp only at *
  have B0 : Below w.heap.size w (w.alloc (.cells #[.int .i64 p, .string x0, .int .i64 x1, .bool x2, .int .i64 x3, .int .i64 x4, .iface t x] 210 (0, 0))) := (Below.refl _ _).alloc (Nat.le_refl _) _
  have Bd : Below w.heap.size w (w.alloc (.cells #[.int .i64 p, .string x0, .int .i64 x1, .bool x2, .int .i64 x3, .int .i64 x4, .iface t x] 210 (0, 0))).drew := ⟨B0.os, B0.tape, B0.output, B0.size, B0.block⟩
  have rd : RAt (w.alloc (.cells #[.int .i64 p, .string x0, .int .i64 x1, .bool x2, .int .i64 x3, .int .i64 x4, .iface t x] 210 (0, 0))).drew b g tb W := (h.below B0).keep rfl rfl
  have c0 := (h.below B0).cells.cell 0
  simp only [List.getElem?_cons_zero] at c0
  have lb := h.cells.lt
  go_enter Tryz.func112, Tryz.ntmps112
  go_upto_region 10 with fail
  go_region_with (go_at_call 113; refine (hpl _ rd).mono ?_; rintro z w1 ⟨rfl, hb1⟩; have r1 := rd.below hb1; have c1 := r1.cells.cell 0; simp only [List.getElem?_cons_zero] at c1; have cw := hcw _ r1)
  all_goals
    go_wp2_with fail
    go_ret
    exact ⟨rfl, Bd.trans (hb1.mono Bd.size)⟩
end Go.Proofs.YtejbgcloblpbfaaGreatDoor
namespace Go.Proofs.YtejbgcloblpbfaaGreatDoor
open R (Tok tk)
namespace K
def St (σ σ' : S) : Prop := σ'.err = 0 → σ.err = 0
theorem St.rfl' (σ : S) : St σ σ := id
theorem St.trans {a b c : S} (h : St a b) (k : St b c) : St a c := fun e => h (k e)
theorem step_st (T : List Tok) (σ : S) : St σ (step T σ) := id
theorem fail_ne {T : List Tok} {e p : Int} {σ : S} (he : e ≠ 0) : (fail T e p σ).err ≠ 0 := by
  unfold fail; split
  · exact he
  · assumption
theorem fail_st (T : List Tok) {e : Int} (he : e ≠ 0) (p : Int) (σ : S) : St σ (fail T e p σ) := fun h => absurd h (fail_ne he)
theorem here_ne {T : List Tok} {e : Int} {σ : S} (he : e ≠ 0) : (here T e σ).err ≠ 0 := fail_ne he
theorem take_st (T : List Tok) (f : ByteArray → Bool) (σ : S) : St σ (take T f σ) := by
  unfold take; split
  · exact step_st T σ
  · exact fail_st T (by decide) _ _
theorem known_st (T : List Tok) (fits : Nm → Bool) (σ : S) : St σ (known T fits σ) := by
  unfold known; split
  · exact take_st T _ σ
  · exact (take_st T _ σ).trans (fail_st T (by decide) _ _)
theorem newName_st (T : List Tok) (σ : S) : St σ (newName T σ) := by
  unfold newName; split
  · exact (take_st T _ σ).trans (fail_st T (by decide) _ _)
  · exact take_st T _ σ
theorem deeper_st (d : Int) (σ : S) : St σ (deeper d σ) := id
theorem opened_st (T : List Tok) (σ : S) : St σ (opened T σ) := by
  unfold opened op2
  split
  · exact ((take_st T _ σ).trans (fail_st T (by decide) _ _)).trans (deeper_st _ _)
  · exact (take_st T _ σ).trans (deeper_st _ _)
theorem closed_st (T : List Tok) (σ : S) : St σ (closed T σ) := (take_st T _ σ).trans (deeper_st _ _)
theorem comp_st {T : List Tok} {ex : S → S × Ex} (h : ∀ σ, St σ (ex σ).1) (p : Int) (σ : S) : St σ (comp T ex p σ).1 := by
  unfold comp
  split
  · exact ((step_st T σ).trans (known_st T _ _)).trans (h _)
  · split
    · exact (((step_st T σ).trans (h _)).trans (h _)).trans (h _)
    · split
      · exact ((take_st T _ σ).trans (h _)).trans (h _)
      · exact fail_st T (by decide) _ _
theorem expr_st (T : List Tok) (f : Nat) : ∀ σ, St σ (expr T f σ).1 := by
  induction f with
  | zero => intro σ; exact St.rfl' σ
  | succ f ih =>
    intro σ
    rw [expr]
    unfold exB
    split
    · exact ((opened_st T σ).trans (comp_st ih _ _)).trans (closed_st T _)
    · split
      · exact take_st T _ σ
      · exact known_st T _ σ
theorem last_no {s : ByteArray} {T : List Tok} (hS : Scans s T) {i : Nat} (h : i = T.length - 1) (l : List UInt8) (hl : l ≠ []) : ((tk T i).s.toList == l) = false := by
  rw [h, hS.last]
  show ((ByteArray.toList ⟨#[]⟩) == l) = false
  rw [emptyL]
  exact beq_no (fun e => hl e.symm)
theorem comp_good {s : ByteArray} {T : List Tok} (hS : Scans s T) {f : Nat} (ih : ∀ σ, 0 ≤ σ.depth → σ.depth ≤ 10 → 11 - σ.depth ≤ (f : Int) → (expr T f σ).1.err = 0 → good (expr T f σ).2 = true) (p : Int) {σ : S} (d0 : 0 ≤ σ.depth) (hd : σ.depth ≤ 10 ∧ 11 - σ.depth ≤ (f : Int) ∨ σ.i = T.length - 1) (he : (comp T (expr T f) p σ).1.err = 0) : good (comp T (expr T f) p σ).2 = true := by
  have step : ∀ σ', Keeps σ σ' → (σ.depth ≤ 10 ∧ 11 - σ.depth ≤ (f : Int)) → (expr T f σ').1.err = 0 → good (expr T f σ').2 = true := fun σ' k h e => ih σ' (by rw [k.depth]; exact d0) (by rw [k.depth]; exact h.1) (by rw [k.depth]; exact h.2) e
  unfold comp at he ⊢
  split
  · rename_i e1
    rw [if_pos e1] at he
    rcases hd with hd | hd
    · exact step _ ((step_keeps T σ).trans (known_keeps T _ _)) hd he
    · rw [last_no hS hd kGet (by decide)] at e1; exact absurd e1 (by decide)
  · rename_i e1
    rw [if_neg e1] at he
    split
    · rename_i e2
      rw [if_pos e2] at he
      rcases hd with hd | hd
      · have k1 := step_keeps T σ
        have k2 := k1.trans (expr_keeps T f (K.step T σ))
        have k3 := k2.trans (expr_keeps T f (expr T f (K.step T σ)).1)
        have he3 : (expr T f (expr T f (expr T f (K.step T σ)).1).1).1.err = 0 := he
        have he2 := expr_st T f _ he3
        have he1 := expr_st T f _ he2
        show good (.cho p _ _ _) = true
        rw [good, step _ k1 hd he1, step _ k2 hd he2, step _ k3 hd he3]
        rfl
      · rw [last_no hS hd kChoose (by decide)] at e2; exact absurd e2 (by decide)
    · rename_i e2
      rw [if_neg e2] at he
      split
      · rename_i e3
        rw [if_pos e3] at he
        rcases hd with hd | hd
        · have k1 := take_keeps T isOpS σ
          have k2 := k1.trans (expr_keeps T f (take T isOpS σ))
          have he2 : (expr T f (expr T f (take T isOpS σ)).1).1.err = 0 := he
          have he1 := expr_st T f _ he2
          show good (.op p _ _ _) = true
          rw [good, step _ k1 hd he1, step _ k2 hd he2]
          rfl
        · exfalso
          unfold isOpS at e3
          rw [hd, hS.last] at e3
          dsimp only at e3
          rw [emptyL] at e3
          exact absurd e3 (by decide)
      · rename_i e3
        rw [if_neg e3] at he
        exact absurd he (here_ne (by decide))
theorem expr_good {s : ByteArray} {T : List Tok} (hS : Scans s T) (f : Nat) : ∀ σ, 0 ≤ σ.depth → σ.depth ≤ 10 → 11 - σ.depth ≤ (f : Int) → (expr T f σ).1.err = 0 → good (expr T f σ).2 = true := by
  induction f with
  | zero => intro σ d0 d1 df; omega
  | succ f ih =>
    intro σ d0 d1 df he
    rw [expr] at he ⊢
    unfold exB at he ⊢
    split
    · rename_i e1
      rw [if_pos e1] at he
      refine comp_good hS ih _ ?_ ?_ (closed_st T _ he)
      · rw [opened_depth]; omega
      · by_cases e : σ.depth = 10
        · exact Or.inr (opened_deep e)
        · exact Or.inl (by rw [opened_depth]; omega)
    · split
      · rfl
      · rfl
end K
end Go.Proofs.YtejbgcloblpbfaaGreatDoor
namespace Go.Proofs.YtejbgcloblpbfaaGreatDoor
open R (Tok tk)
namespace K
theorem brk_st {T : List Tok} {dos : S → S × List Do} (h : ∀ σ, St σ (dos σ).1) (σ : S) : St σ (brk T dos σ).1 := ((opened_st T σ).trans (h _)).trans (closed_st T _)
theorem body_st {dos : S → S × List Do} (h : ∀ σ, St σ (dos σ).1) (n : Nm) (σ : S) : St σ (body dos n σ).1 := fun e => h (seeing n σ) e
theorem loop0_st (T : List Tok) (σ : S) : St σ (loop0 T σ) := by
  unfold loop0; split
  · exact fail_st T (by decide) _ _
  · exact St.rfl' σ
theorem doX_st {T : List Tok} {dos : S → S × List Do} (h : ∀ σ, St σ (dos σ).1) (p : Int) (σ : S) : St σ (doX T dos p σ).1 := by
  unfold doX
  split
  · exact ((step_st T σ).trans (known_st T _ _)).trans (expr_st T _ _)
  · split
    · exact (((step_st T σ).trans (known_st T _ _)).trans (expr_st T _ _)).trans (expr_st T _ _)
    · split
      · exact (((step_st T σ).trans (expr_st T _ _)).trans (brk_st h _)).trans (brk_st h _)
      · split
        · exact ((((loop0_st T σ).trans (step_st T _)).trans (newName_st T _)).trans (expr_st T _ _)).trans (body_st h _ _)
        · exact fail_st T (by decide) _ _
theorem brkDo_st {T : List Tok} {d : Int → S → S × Do} (h : ∀ p σ, St σ (d p σ).1) (σ : S) : St σ (brkDo T d σ).1 := ((opened_st T σ).trans (h _ _)).trans (closed_st T _)
theorem dosL_st {T : List Tok} {d : Int → S → S × Do} (h : ∀ p σ, St σ (d p σ).1) (m : Nat) : ∀ (σ : S) (l : List Do), St σ (dosL T d m σ l).1 := by
  induction m with
  | zero => intro σ l; exact St.rfl' σ
  | succ m ih =>
    intro σ l
    rw [dosL]
    split
    · exact (brkDo_st h σ).trans (ih _ _)
    · exact St.rfl' σ
theorem doF_st (T : List Tok) (f : Nat) : ∀ p σ, St σ (doF T f p σ).1 := by
  induction f with
  | zero => intro p σ; exact St.rfl' σ
  | succ f ih => intro p σ; exact doX_st (fun σ => dosL_st ih T.length σ []) p σ
theorem dos_st (T : List Tok) (f : Nat) (σ : S) : St σ (dos T f σ).1 := dosL_st (doF_st T f) _ _ _
def Lv (T : List Tok) (f : Nat) (σ : S) : Prop := 0 ≤ σ.depth ∧ ((σ.depth ≤ 10 ∧ 11 - σ.depth ≤ (f : Int)) ∨ σ.i = T.length - 1)
def LvD (T : List Tok) (f : Nat) (σ : S) : Prop := 0 ≤ σ.depth ∧ ((σ.depth ≤ 10 ∧ 12 - σ.depth ≤ (f : Int)) ∨ σ.i = T.length - 1)
theorem lv_opened {T : List Tok} {f : Nat} {σ : S} (d0 : 0 ≤ σ.depth) (d1 : σ.depth ≤ 10) (df : 10 - σ.depth ≤ (f : Int)) : Lv T f (opened T σ) := by
  have e := opened_depth T σ
  refine ⟨by omega, ?_⟩
  by_cases h : σ.depth = 10
  · exact Or.inr (opened_deep h)
  · exact Or.inl ⟨by omega, by omega⟩
theorem lvD_opened {T : List Tok} {f : Nat} {σ : S} (d0 : 0 ≤ σ.depth) (d1 : σ.depth ≤ 10) (df : 11 - σ.depth ≤ (f : Int)) : LvD T f (opened T σ) := by
  have e := opened_depth T σ
  refine ⟨by omega, ?_⟩
  by_cases h : σ.depth = 10
  · exact Or.inr (opened_deep h)
  · exact Or.inl ⟨by omega, by omega⟩
theorem goodL_snoc : ∀ (l : List Do) (d : Do), goodL (l ++ [d]) = (goodL l && goodD d)
  | [], d => by simp [goodL]
  | a :: l, d => by
    show goodL (a :: (l ++ [d])) = _
    rw [goodL, goodL, goodL_snoc l d, Bool.and_assoc]
theorem doX_good {s : ByteArray} {T : List Tok} (hS : Scans s T) {f : Nat} (hd : ∀ σ, Lv T f σ → (dos T f σ).1.err = 0 → goodL (dos T f σ).2 = true) (p : Int) {σ : S} (hl : LvD T (f + 1) σ) (he : (doX T (dos T f) p σ).1.err = 0) : goodD (doX T (dos T f) p σ).2 = true := by
  obtain ⟨d0, hl⟩ := hl
  have ex : ∀ σ', Keeps σ σ' → σ.depth ≤ 10 → (expr T 11 σ').1.err = 0 → good (expr T 11 σ').2 = true := fun σ' k h e => expr_good hS 11 σ' (by rw [k.depth]; exact d0) (by rw [k.depth]; exact h) (by rw [k.depth]; omega) e
  have dead : ∀ l, l ≠ [] → isW l (tk T σ.i) = true → σ.depth ≤ 10 ∧ 12 - σ.depth ≤ ((f + 1 : Nat) : Int) := fun l hne hw => by
    rcases hl with hl | hl
    · exact hl
    · unfold isW at hw
      rw [last_no hS hl l hne] at hw
      exact absurd hw (by decide)
  have br : ∀ σ', Keeps σ σ' → σ.depth ≤ 10 ∧ 12 - σ.depth ≤ ((f + 1 : Nat) : Int) → (brk T (dos T f) σ').1.err = 0 → goodL (brk T (dos T f) σ').2 = true := fun σ' k h e =>
    hd _ (lv_opened (by rw [k.depth]; exact d0) (by rw [k.depth]; exact h.1) (by rw [k.depth]; omega)) (closed_st T _ e)
  unfold doX at he ⊢
  split
  · rename_i e1
    rw [if_pos e1] at he
    have dd := dead _ (by decide) e1
    show goodD (.set p _ _) = true
    rw [goodD]
    exact ex _ ((step_keeps T σ).trans (known_keeps T _ _)) dd.1 he
  · rename_i e1
    rw [if_neg e1] at he
    split
    · rename_i e2
      rw [if_pos e2] at he
      have dd := dead _ (by decide) e2
      have k1 := (step_keeps T σ).trans (known_keeps T hasWords (step T σ))
      have k2 := k1.trans (expr_keeps T 11 (known T hasWords (step T σ)))
      have he2 : (expr T 11 (expr T 11 (known T hasWords (step T σ))).1).1.err = 0 := he
      have he1 := expr_st T 11 _ he2
      show goodD (.put p _ _ _) = true
      rw [goodD, ex _ k1 dd.1 he1, ex _ k2 dd.1 he2]
      rfl
    · rename_i e2
      rw [if_neg e2] at he
      split
      · rename_i e3
        rw [if_pos e3] at he
        have dd := dead _ (by decide) e3
        have k1 := step_keeps T σ
        have k2 := k1.trans (expr_keeps T 11 (step T σ))
        have k3 := k2.trans (brk_keeps (T := T) (fun σ => dos_keeps T f σ) (expr T 11 (step T σ)).1)
        have he3 : (brk T (dos T f) (brk T (dos T f) (expr T 11 (step T σ)).1).1).1.err = 0 := he
        have he2 := brk_st (T := T) (fun σ => dos_st T f σ) _ he3
        have he1 := brk_st (T := T) (fun σ => dos_st T f σ) _ he2
        show goodD (.ifs p _ _ _) = true
        rw [goodD, ex _ k1 dd.1 he1, br _ k2 dd he2, br _ k3 dd he3]
        rfl
      · rename_i e3
        rw [if_neg e3] at he
        split
        · rename_i e4
          rw [if_pos e4] at he
          have dd := dead _ (by decide) e4
          have k1 := ((loop0_keeps T σ).trans (step_keeps T (loop0 T σ))).trans (newName_keeps T (step T (loop0 T σ)))
          have k2 := k1.trans (expr_keeps T 11 (newName T (step T (loop0 T σ))))
          have he2 : (dos T f (seeing (counter T σ) (expr T 11 (newName T (step T (loop0 T σ)))).1)).1.err = 0 := he
          have he1 : (expr T 11 (newName T (step T (loop0 T σ)))).1.err = 0 := dos_st T f (seeing (counter T σ) (expr T 11 (newName T (step T (loop0 T σ)))).1) he2
          have g1 := ex _ k1 dd.1 he1
          show goodD (.fors p (counter T σ) (expr T 11 (newName T (step T (loop0 T σ)))).2 (dos T f (seeing (counter T σ) (expr T 11 (newName T (step T (loop0 T σ)))).1)).2) = true
          rw [goodD, g1, Bool.true_and]
          refine hd _ ⟨?_, Or.inl ⟨?_, ?_⟩⟩ he2
          · show 0 ≤ (expr T 11 (newName T (step T (loop0 T σ)))).1.depth; rw [k2.depth]; exact d0
          · show (expr T 11 (newName T (step T (loop0 T σ)))).1.depth ≤ 10; rw [k2.depth]; exact dd.1
          · show 11 - (expr T 11 (newName T (step T (loop0 T σ)))).1.depth ≤ (f : Int); rw [k2.depth]; omega
        · rename_i e4
          rw [if_neg e4] at he
          exact absurd he (here_ne (by decide))
theorem dosL_good {s : ByteArray} {T : List Tok} (hS : Scans s T) {f : Nat} (hd : 1 ≤ f → ∀ p σ, LvD T f σ → (doF T f p σ).1.err = 0 → goodD (doF T f p σ).2 = true) (m : Nat) : ∀ (σ : S) (l : List Do), Lv T f σ → goodL l = true → (dosL T (doF T f) m σ l).1.err = 0 → goodL (dosL T (doF T f) m σ l).2 = true := by
  induction m with
  | zero => intro σ l _ hg _; exact hg
  | succ m ih =>
    intro σ l hl hg he
    rw [dosL] at he ⊢
    split
    · rename_i e
      rw [if_pos e] at he
      have hlive : σ.depth ≤ 10 ∧ 11 - σ.depth ≤ (f : Int) := by
        rcases hl.2 with h | h
        · exact h
        · unfold isW at e
          rw [last_no hS h [40] (by decide)] at e
          exact absurd e (by decide)
      have kk := brkDo_keeps (T := T) (doF_keeps T f) σ
      have he1 := dosL_st (doF_st T f) m _ _ he
      refine ih _ _ ⟨by rw [kk.depth]; exact hl.1, Or.inl (by rw [kk.depth]; exact hlive)⟩ ?_ he
      rw [goodL_snoc, hg, Bool.true_and]
      exact hd (by omega) _ _ (lvD_opened hl.1 hlive.1 hlive.2) (closed_st T _ he1)
    · exact hg
theorem dos_good {s : ByteArray} {T : List Tok} (hS : Scans s T) (f : Nat) : ∀ σ, Lv T f σ → (dos T f σ).1.err = 0 → goodL (dos T f σ).2 = true := by
  induction f with
  | zero => exact fun σ hl he => dosL_good hS (fun h => by omega) T.length σ [] hl rfl he
  | succ f ih => exact fun σ hl he => dosL_good hS (fun _ p σ hl he => doX_good hS ih p hl he) T.length σ [] hl rfl he
theorem prog_good {s : ByteArray} {T : List Tok} (hS : Scans s T) (hd : (prog0 T).depth = 0) (he : (progS T).err = 0) : goodL (progD T) = true :=
  dos_good hS 11 _ ⟨by rw [hd]; omega, Or.inl (by rw [hd]; omega)⟩ (take_st T _ _ he)
theorem declsL_depth (T : List Tok) (m : Nat) : ∀ σ, (declsL T m σ).depth = σ.depth := by
  induction m with
  | zero => intro σ; rfl
  | succ m ih =>
    intro σ
    rw [declsL]
    split
    · rw [ih]; exact (dcl_keeps T σ).depth
    · rfl
theorem prog0_depth (T : List Tok) : (prog0 T).depth = 0 := declsL_depth T _ _
end K
end Go.Proofs.YtejbgcloblpbfaaGreatDoor
