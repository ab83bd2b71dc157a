import Derived.Test.YtejbgcloblpbfaaGreatDoorR14
import Derived.Test.YtejbgcloblpbfaaGreatDoorR15
import Derived.Test.YtejbgcloblpbfaaGreatDoorR01
import Derived.Deep.QuietTactic
import Derived.BigQuiet
import Derived.Deep.CutBlock
import Derived.Test.YtejbgcloblpbfaaGreatDoorR10
import Derived.Test.YtejbgcloblpbfaaGreatDoorR13
namespace Go.Proofs.YtejbgcloblpbfaaGreatDoor
open Go.RowKit
open K (Nm Ex Do)
theorem ad_Set_Set (x : Value) (w : World) : (Instr.typeAssert (.iface 178 x) 151 178 true).run Tryz.prog w = .ok (.tuple #[x, .bool true]) w := by kernel_rfl
theorem ad_Put_Set (x : Value) (w : World) : (Instr.typeAssert (.iface 181 x) 151 178 true).run Tryz.prog w = .ok (.tuple #[.agg #[.int .i64 0, .string ⟨#[]⟩, .int .i64 0, .bool false, .int .i64 0, .int .i64 0, .nilIface], .bool false]) w := by kernel_rfl
theorem ad_Put_Put (x : Value) (w : World) : (Instr.typeAssert (.iface 181 x) 151 181 true).run Tryz.prog w = .ok (.tuple #[x, .bool true]) w := by kernel_rfl
theorem ad_If_Set (x : Value) (w : World) : (Instr.typeAssert (.iface 184 x) 151 178 true).run Tryz.prog w = .ok (.tuple #[.agg #[.int .i64 0, .string ⟨#[]⟩, .int .i64 0, .bool false, .int .i64 0, .int .i64 0, .nilIface], .bool false]) w := by kernel_rfl
theorem ad_If_Put (x : Value) (w : World) : (Instr.typeAssert (.iface 184 x) 151 181 true).run Tryz.prog w = .ok (.tuple #[.agg #[.int .i64 0, .string ⟨#[]⟩, .int .i64 0, .bool false, .int .i64 0, .int .i64 0, .nilIface, .nilIface], .bool false]) w := by kernel_rfl
theorem ad_If_If (x : Value) (w : World) : (Instr.typeAssert (.iface 184 x) 151 184 true).run Tryz.prog w = .ok (.tuple #[x, .bool true]) w := by kernel_rfl
theorem ad_For_Set (x : Value) (w : World) : (Instr.typeAssert (.iface 186 x) 151 178 true).run Tryz.prog w = .ok (.tuple #[.agg #[.int .i64 0, .string ⟨#[]⟩, .int .i64 0, .bool false, .int .i64 0, .int .i64 0, .nilIface], .bool false]) w := by kernel_rfl
theorem ad_For_Put (x : Value) (w : World) : (Instr.typeAssert (.iface 186 x) 151 181 true).run Tryz.prog w = .ok (.tuple #[.agg #[.int .i64 0, .string ⟨#[]⟩, .int .i64 0, .bool false, .int .i64 0, .int .i64 0, .nilIface, .nilIface], .bool false]) w := by kernel_rfl
theorem ad_For_If (x : Value) (w : World) : (Instr.typeAssert (.iface 186 x) 151 184 true).run Tryz.prog w = .ok (.tuple #[.agg #[.int .i64 0, .nilIface, .slice none 0 0, .slice none 0 0], .bool false]) w := by kernel_rfl
theorem ad_For_For (x : Value) (w : World) : (Instr.typeAssert (.iface 186 x) 151 186 true).run Tryz.prog w = .ok (.tuple #[x, .bool true]) w := by kernel_rfl
mutual
def K.gd (hid : Bool) : Do → K.GS → K.GS
  | .set p n e, g => K.gx e (K.note p (K.tells n e hid) g)
  | .put p n i e, g => K.gx e (K.gx i (K.note p (K.sec i || K.tells n e hid) g))
  | .ifs _ q y n, g => K.gds (hid || K.sec q) n (K.gds (hid || K.sec q) y (K.gx q g))
  | .fors p _ r l, g => K.gds hid l (K.gx r (K.note p (K.sec r) g))
  | .none, g => g
def K.gds (hid : Bool) : List Do → K.GS → K.GS
  | [], g => g
  | d :: l, g => K.gds hid l (K.gd hid d g)
end
mutual
def K.goodD : Do → Bool
  | .set _ _ e => K.good e
  | .put _ _ i e => K.good i && K.good e
  | .ifs _ q y n => K.good q && K.goodL y && K.goodL n
  | .fors _ _ r l => K.good r && K.goodL l
  | .none => false
def K.goodL : List Do → Bool
  | [] => true
  | d :: l => K.goodD d && K.goodL l
end
def GdDoes (d : Do) : Prop := ∀ (B : Nat → Prop) (w : World) (b : Nat) (g : K.GS) (u : Value) (hid : Bool), GAt w b g → DoIs B w d u → (∀ k, B k → k ≠ b) →
  Calls Tryz.prog 108 #[PT b, u, .bool hid] w fun x w' => x = .returned (.tuple #[]) ∧ GAt w' b (K.gd hid d g) ∧ But b w w'
def GdsDoes (l : List Do) : Prop := ∀ (B : Nat → Prop) (w : World) (b : Nat) (g : K.GS) (lv : Value) (us : List Value) (hid : Bool), GAt w b g → DRow B w lv us → Each B w l us → (∀ k, B k → k ≠ b) →
  Calls Tryz.prog 74 #[PT b, lv, .bool hid] w fun x w' => x = .returned (.tuple #[]) ∧ GAt w' b (K.gds hid l g) ∧ But b w w'
set_option maxRecDepth 100000 in
set_option maxHeartbeats 1000000 in
theorem gd_set (p : Int) (n : Nm) (e : Ex) (hg : K.good e = true) : GdDoes (.set p n e) := by
  intro B w b g u hid h hd hB
  unfold DoIs at hd
  subst hd
  have a1 := ad_Set_Set
  have hlt := h.lt
  have HK : Hid (K.gd hid (.set p n e) g = K.gx e (K.note p (K.tells n e hid) g)) := by show _ = _; rw [K.gd]
  have ht := fun w => tells_c n e hid hg w
  have hn := fun (w : World) (h' : GAt w b g) => note_c h' p (K.tells n e hid)
  have hx := fun (w : World) (h' : GAt w b (K.note p (K.tells n e hid) g)) => gx_c e hg w b _ h'
  rw [exV_good hg] at hx ht ⊢
  unfold nmV at ht
  generalize K.gd hid (.set p n e) g = G at *
  generalize K.gx e (K.note p (K.tells n e hid) g) = G2 at *
  generalize K.note p (K.tells n e hid) g = g1 at *
  generalize K.tells n e hid = q at *
  generalize exT e = t at *
  generalize exP e = x at *
  obtain ⟨x0, x1, x2, x3, x4⟩ := n
  dsimp only at *
  have h0 := h.alloc (.cells #[.int .i64 p, .string x0, .int .i64 x1, .bool x2, .int .i64 x3, .int .i64 x4, .iface t x] 178 (0, 0))
  have bx := At.alloc_new w [.int .i64 p, .string x0, .int .i64 x1, .bool x2, .int .i64 x3, .int .i64 x4, .iface t x] 178
  have B0 : But b w (w.alloc (.cells #[.int .i64 p, .string x0, .int .i64 x1, .bool x2, .int .i64 x3, .int .i64 x4, .iface t x] 178 (0, 0))) := (But.refl b w).alloc _
  have nq : w.heap.size ≠ b := by omega
  go_enter Tryz.func108, Tryz.ntmps108
  go_upto_region 3 with fail
  go_region_with (first | (go_at_call 142; refine (hn _ h1).mono ?_; rintro y w2 ⟨rfl, h2, hb2⟩; have bx2 := bx1.of_block (hb2.block _ bx1.lt nq); have k6 := bx2.cell 6; simp only [List.getElem?_cons_zero, List.getElem?_cons_succ] at k6) | (go_at_call 143; refine (ht _).mono ?_; rintro y w1 ⟨rfl, hb1⟩; have h1 : GAt w1 b g := h0.of_block (hb1.block _ h0.lt); have bx1 : At w1 w.heap.size 178 [.int .i64 p, .string x0, .int .i64 x1, .bool x2, .int .i64 x3, .int .i64 x4, .iface t x] := bx.of_block (hb1.block _ bx.lt); have k0 := bx1.cell 0; simp only [List.getElem?_cons_zero] at k0))
  all_goals
    have B2 := (B0.drew.below hb1).trans hb2
    go_wp2_with fail
    refine (hx _ h2).mono ?_
    rintro y w3 ⟨rfl, h3, hb3⟩
    go_wp2_with fail
    go_end0
    rw [HK.out]
    exact ⟨rfl, h3, B2.trans hb3⟩
end Go.Proofs.YtejbgcloblpbfaaGreatDoor
namespace Go.Proofs.YtejbgcloblpbfaaGreatDoor
open Go.RowKit
open K (Nm Ex Do)
theorem as_Number_Number (x : Value) (w : World) : (Instr.typeAssert (.iface 206 x) 176 206 true).run Tryz.prog w = .ok (.tuple #[x, .bool true]) w := by kernel_rfl
theorem as_Use_Number (x : Value) (w : World) : (Instr.typeAssert (.iface 208 x) 176 206 true).run Tryz.prog w = .ok (.tuple #[.agg #[.int .i64 0], .bool false]) w := by kernel_rfl
theorem as_Use_Use (x : Value) (w : World) : (Instr.typeAssert (.iface 208 x) 176 208 true).run Tryz.prog w = .ok (.tuple #[x, .bool true]) w := by kernel_rfl
theorem as_Get_Number (x : Value) (w : World) : (Instr.typeAssert (.iface 210 x) 176 206 true).run Tryz.prog w = .ok (.tuple #[.agg #[.int .i64 0], .bool false]) w := by kernel_rfl
theorem as_Get_Use (x : Value) (w : World) : (Instr.typeAssert (.iface 210 x) 176 208 true).run Tryz.prog w = .ok (.tuple #[.agg #[.string ⟨#[]⟩, .int .i64 0, .bool false, .int .i64 0, .int .i64 0], .bool false]) w := by kernel_rfl
theorem as_Operation_Number (x : Value) (w : World) : (Instr.typeAssert (.iface 212 x) 176 206 true).run Tryz.prog w = .ok (.tuple #[.agg #[.int .i64 0], .bool false]) w := by kernel_rfl
theorem as_Operation_Use (x : Value) (w : World) : (Instr.typeAssert (.iface 212 x) 176 208 true).run Tryz.prog w = .ok (.tuple #[.agg #[.string ⟨#[]⟩, .int .i64 0, .bool false, .int .i64 0, .int .i64 0], .bool false]) w := by kernel_rfl
theorem as_Choose_Number (x : Value) (w : World) : (Instr.typeAssert (.iface 214 x) 176 206 true).run Tryz.prog w = .ok (.tuple #[.agg #[.int .i64 0], .bool false]) w := by kernel_rfl
theorem as_Choose_Use (x : Value) (w : World) : (Instr.typeAssert (.iface 214 x) 176 208 true).run Tryz.prog w = .ok (.tuple #[.agg #[.string ⟨#[]⟩, .int .i64 0, .bool false, .int .i64 0, .int .i64 0], .bool false]) w := by kernel_rfl
theorem below_dN {B : Nat} {w w' : World} (h : Below B w w') (n : Nat) : Below B w (w'.drewN n) := ⟨h.os, h.tape, h.output, h.size, h.block⟩
def V.ev (W : List Int) : Ex → Int
  | .num v => v
  | .use n => W.getD n.place.toNat 0
  | .get _ n e => W.getD (n.place + V.md (V.ev W e) n.size).toNat 0
  | .op _ o l r => V.opf o (V.ev W l) (V.ev W r)
  | .cho _ q y n => if V.ev W q = 0 then V.ev W n else V.ev W y
  | .none => 0
def V.wfE (N : Nat) : Ex → Prop
  | .num _ => True
  | .use n => 0 ≤ n.place ∧ n.place < N
  | .get _ n e => 0 ≤ n.place ∧ 1 ≤ n.size ∧ n.size ≤ 6 ∧ n.place + n.size ≤ N ∧ V.wfE N e
  | .op _ o l r => V.isOp o = true ∧ V.wfE N l ∧ V.wfE N r
  | .cho _ q y n => V.wfE N q ∧ V.wfE N y ∧ V.wfE N n
  | .none => False
theorem V.wf_good {N : Nat} : ∀ {e : Ex}, V.wfE N e → K.good e = true
  | .num _, _ => rfl
  | .use _, _ => rfl
  | .get _ _ e, h => by unfold V.wfE at h; rw [K.good]; exact V.wf_good h.2.2.2.2
  | .op _ _ l r, h => by unfold V.wfE at h; rw [K.good, V.wf_good h.2.1, V.wf_good h.2.2]; rfl
  | .cho _ q y n, h => by unfold V.wfE at h; rw [K.good, V.wf_good h.1, V.wf_good h.2.1, V.wf_good h.2.2]; rfl
  | .none, h => by unfold V.wfE at h; exact h.elim
structure RAt (w : World) (b g : Nat) (tb : Array Value) (W : List Int) : Prop where
  cells : At w b 120 (.slice (some ⟨g, 0, none⟩) W.length W.length :: tb.toList)
  words : At w g 121 (W.map fun n => .int .i64 n)
  tab : IsTab tb
  few : W.length ≤ 60
theorem RAt.keep {w w' : World} {b g : Nat} {tb : Array Value} {W : List Int} (h : RAt w b g tb W) (hb : w'.heap[b]? = w.heap[b]?) (hg : w'.heap[g]? = w.heap[g]?) : RAt w' b g tb W :=
  ⟨h.cells.of_block hb, h.words.of_block hg, h.tab, h.few⟩
theorem RAt.below {w w' : World} {b g : Nat} {tb : Array Value} {W : List Int} (h : RAt w b g tb W) (hb : Below w.heap.size w w') : RAt w' b g tb W :=
  h.keep (hb.block b h.cells.lt) (hb.block g h.words.lt)
theorem RAt.word {w : World} {b g : Nat} {tb : Array Value} {W : List Int} (h : RAt w b g tb W) {k : Nat} (hk : k < W.length) : w.cell? ⟨g, k, none⟩ = some (.int .i64 (W.getD k 0)) := by
  rw [h.words.cell, List.getElem?_map, List.getElem?_eq_getElem hk, List.getD_eq_getElem?_getD, List.getElem?_eq_getElem hk]
  rfl
def EvDoes (e : Ex) : Prop := ∀ (w : World) (b g : Nat) (tb : Array Value) (W : List Int), RAt w b g tb W → V.wfE W.length e → Calls Tryz.prog 112 #[PT b, exV e] w fun x w' => x = .returned (.int .i64 (V.ev W e)) ∧ Below w.heap.size w w'
set_option maxRecDepth 100000 in
set_option maxHeartbeats 1000000 in
theorem ev_num (v : Int) : EvDoes (.num v) := by
  intro w b g tb W h _
  have a1 := as_Number_Number
  show Calls Tryz.prog _ #[PT b, .iface 206 (.agg #[.int .i64 v])] w _
  go_enter Tryz.func112, Tryz.ntmps112
  go_wp2_with fail
  go_ret
  exact ⟨rfl, (Below.refl _ _).alloc (Nat.le_refl _) _⟩
set_option maxRecDepth 100000 in
set_option maxHeartbeats 1000000 in
theorem ev_use (n : Nm) : EvDoes (.use n) := by
  intro w b g tb W h hw
  have a1 := as_Use_Number
  have a2 := as_Use_Use
  unfold V.wfE at hw
  obtain ⟨k, hk⟩ := Int.eq_ofNat_of_zero_le hw.1
  have hkl : k < W.length := by omega
  have few := h.few
  have hz : (k : Int) < (W.length : Int) := by omega
  have HV : Hid (V.ev W (.use n) = W.getD k 0) := by show W.getD n.place.toNat 0 = _; rw [hk]; rfl
  obtain ⟨x0, x1, x2, x3, x4⟩ := n
  dsimp only at hk
  subst hk
  have h0 := h.below ((Below.refl _ _).alloc (Nat.le_refl _) (.cells #[.string x0, .int .i64 x1, .bool x2, .int .i64 x3, .int .i64 (k : Int)] 208 (0, 0)))
  have c0 := h0.cells.cell 0
  simp only [List.getElem?_cons_zero] at c0
  have cw := h0.word hkl
  have lb := h.cells.lt
  have lg := h.words.lt
  generalize V.ev W (.use ⟨x0, x1, x2, x3, (k : Int)⟩) = q at *
  generalize W.getD k 0 = q' at *
  have e := HV.out
  subst e
  show Calls Tryz.prog _ #[PT b, .iface 208 (.agg #[.string x0, .int .i64 x1, .bool x2, .int .i64 x3, .int .i64 (k : Int)])] w _
  go_enter Tryz.func112, Tryz.ntmps112
  go_upto_region 7 with fail
  go_quiet (fail)
  go_wp2_with fail
  go_ret
  exact ⟨rfl, below_dN ((Below.refl _ _).alloc (Nat.le_refl _) _) _⟩
set_option maxHeartbeats 1000000 in
theorem rchoose_c (p : Int) (q y n : Ex) (hq : EvDoes q) (hy : EvDoes y) (hn : EvDoes n) (w : World) (b g : Nat) (tb : Array Value) (W : List Int) (h : RAt w b g tb W) (wq : V.wfE W.length q) (wy : V.wfE W.length y) (wn : V.wfE W.length n) :
    Calls Tryz.prog 145 #[PT b, .agg #[.int .i64 p, exV q, exV y, exV n]] w fun x w' => x = .returned (.int .i64 (if V.ev W q = 0 then V.ev W n else V.ev W y)) ∧ Below w.heap.size w w' := by
  have hx := fun (w : World) (h' : RAt w b g tb W) => hq w b g tb W h' wq
  have hx2 := fun (w : World) (h' : RAt w b g tb W) => hy w b g tb W h' wy
  have hx3 := fun (w : World) (h' : RAt w b g tb W) => hn w b g tb W h' wn
  rw [exV_good (V.wf_good wq)] at hx ⊢
  rw [exV_good (V.wf_good wy)] at hx2 ⊢
  rw [exV_good (V.wf_good wn)] at hx3 ⊢
  generalize V.ev W q = vq at *
  generalize V.ev W y = vy at *
  generalize V.ev W n = vn at *
  generalize exT q = t at *
  generalize exP q = x at *
  generalize exT y = t2 at *
  generalize exP y = x2 at *
  generalize exT n = t3 at *
  generalize exP n = x3 at *
  have B0 : Below w.heap.size w (w.alloc (.cells #[.int .i64 p, .iface t x, .iface t2 x2, .iface t3 x3] 214 (0, 0))) := (Below.refl _ _).alloc (Nat.le_refl _) _
  have bx := At.alloc_new w [.int .i64 p, .iface t x, .iface t2 x2, .iface t3 x3] 214
  have h0 := h.below B0
  by_cases hv : vq = 0
  · subst hv
    rw [if_pos rfl]
    go_enter Tryz.func145, Tryz.ntmps145
    go_wp2_with fail
    refine (hx _ h0).mono ?_
    rintro z w2 ⟨rfl, hb2⟩
    have bx2 := bx.of_block (hb2.block _ bx.lt)
    have k3 := bx2.cell 3
    simp only [List.getElem?_cons_zero, List.getElem?_cons_succ] at k3
    go_wp2_with fail
    refine (hx3 _ (h0.below hb2)).mono ?_
    rintro z w3 ⟨rfl, hb3⟩
    go_wp2_with fail
    go_ret
    exact ⟨rfl, (B0.trans (hb2.mono B0.size)).trans (hb3.mono (Nat.le_trans B0.size hb2.size))⟩
  · rw [if_neg hv]
    go_enter Tryz.func145, Tryz.ntmps145
    go_wp2_with fail
    refine (hx _ h0).mono ?_
    rintro z w2 ⟨rfl, hb2⟩
    have bx2 := bx.of_block (hb2.block _ bx.lt)
    have k2 := bx2.cell 2
    simp only [List.getElem?_cons_zero, List.getElem?_cons_succ] at k2
    go_wp2_with fail
    refine (hx2 _ (h0.below hb2)).mono ?_
    rintro z w3 ⟨rfl, hb3⟩
    go_wp2_with fail
    go_ret
    exact ⟨rfl, (B0.trans (hb2.mono B0.size)).trans (hb3.mono (Nat.le_trans B0.size hb2.size))⟩
set_option maxRecDepth 100000 in
set_option maxHeartbeats 1000000 in
theorem ev_cho (p : Int) (q y n : Ex) (hq : EvDoes q) (hy : EvDoes y) (hn : EvDoes n) : EvDoes (.cho p q y n) := by
  intro w b g tb W h hw
  have a1 := as_Choose_Number
  have a2 := as_Choose_Use
  have a3 := as_Choose_Get
  have a4 := as_Choose_Operation
  have a5 := as_Choose_Choose
  unfold V.wfE at hw
  have hc := fun (w : World) (h' : RAt w b g tb W) => rchoose_c p q y n hq hy hn w b g tb W h' hw.1 hw.2.1 hw.2.2
  have HV : Hid (V.ev W (.cho p q y n) = if V.ev W q = 0 then V.ev W n else V.ev W y) := rfl
  show Calls Tryz.prog _ #[PT b, .iface 214 (.agg #[.int .i64 p, exV q, exV y, exV n])] w _
  rw [exV_good (V.wf_good hw.1), exV_good (V.wf_good hw.2.1), exV_good (V.wf_good hw.2.2)] at *
  rw [HV.out]
  clear HV
  generalize (if V.ev W q = 0 then V.ev W n else V.ev W y) = v at *
  generalize exT q = t at *
  generalize exP q = x at *
  generalize exT y = t2 at *
  generalize exP y = x2 at *
  generalize exT n = t3 at *
  generalize exP n = x3 at *
  have B0 : Below w.heap.size w (w.alloc (.cells #[.int .i64 p, .iface t x, .iface t2 x2, .iface t3 x3] 214 (0, 0))) := (Below.refl _ _).alloc (Nat.le_refl _) _
  have h0 := h.below B0
  go_enter Tryz.func112, Tryz.ntmps112
  go_wp2_with fail
  refine (hc _ h0).mono ?_
  rintro z w2 ⟨rfl, hb2⟩
  go_wp2_with fail
  go_ret
  exact ⟨rfl, B0.trans (hb2.mono B0.size)⟩
end Go.Proofs.YtejbgcloblpbfaaGreatDoor
namespace Go.Proofs.YtejbgcloblpbfaaGreatDoor
open Go.RowKit
open R (Tok tk)
open K (Nm S Scans)
theorem less_name (q b : Nat) (d : Int) (u : FrameMode) (w : World) (hd : 0 ≤ d ∧ d ≤ 100) (cq : w.cell? ⟨q, 0, none⟩ = some (PT b)) (c5 : w.cell? ⟨b, 5, none⟩ = some (.int .i64 d)) (f5 : w.frozen? ⟨b, 5, none⟩ = false) :
    CallsD Tryz.prog 134 #[.pointer (some ⟨q, 0, none⟩)] u w fun e u' w' => u' = u ∧ (e = .returned (.tuple #[]) ∧ w' = w.setCell ⟨b, 5, none⟩ (.int .i64 (d + -1))) := by
  obtain ⟨d0, d1⟩ := hd
  have e : d - 1 = d + -1 := by omega
  have HE := hide e
  clear e
  go_enter_d Tryz.func134, Tryz.ntmps134
  go_wp2
  go_end0
  exact ⟨rfl, by rw [← HE.out]⟩
set_option maxHeartbeats 1000000 in
theorem inBr_name {w : World} {b : Nat} {s : ByteArray} {T : List Tok} {σ σ4 : S} {v : Value} (hS : Scans s T) (h : CR w b s T σ v) (d0 : 0 ≤ σ.depth) (d1 : σ.depth ≤ 50) (hd4 : σ4.depth = σ.depth + 1) (N : Nm)
    (hI : ∀ w1, CR w1 b s T (K.opened T σ) v → But b w w1 → Calls Tryz.prog 105 #[PT b, .int .i64 (tk T σ.i).p] w1 fun x w' => x = .returned (nmV N) ∧ CR w' b s T σ4 v ∧ But b w1 w') :
    Calls Tryz.prog 104 #[PT b, .func (.func 105) #[PT b] #[]] w fun x w' => x = .returned (nmV N) ∧ CR w' b s T (K.closed T σ4) v ∧ But b w w' := by
  have hmf : ∀ (fn : Fn) (first cap : Array Value) (w : World), (Instr.makeFunc fn first cap).run Tryz.prog w = .ok (.func fn first cap) w := fun _ _ _ _ => rfl
  have h0 := (h.alloc (.cells #[PT b] 134 (0, 0))).alloc (.cells #[.string ⟨#[]⟩, .int .i64 0, .bool false, .int .i64 0, .int .i64 0] 96 (0, 0))
  have hlt := h.cells.lt
  have hvl : ∀ k, v.ownBlock = some k → k < w.heap.size := fun k hk => (h.ne hk).2
  have nq : w.heap.size ≠ b := by omega
  have q0 := (At.alloc_new w [PT b] 134).alloc (.cells #[.string ⟨#[]⟩, .int .i64 0, .bool false, .int .i64 0, .int .i64 0] 96 (0, 0))
  have e0 : At ((w.alloc (.cells #[PT b] 134 (0, 0))).alloc (.cells #[.string ⟨#[]⟩, .int .i64 0, .bool false, .int .i64 0, .int .i64 0] 96 (0, 0))) (w.heap.size + 1) 96 [.string ⟨#[]⟩, .int .i64 0, .bool false, .int .i64 0, .int .i64 0] := by
    have e : (w.alloc (.cells #[PT b] 134 (0, 0))).heap.size = w.heap.size + 1 := by simp
    have := At.alloc_new (w.alloc (.cells #[PT b] 134 (0, 0))) [.string ⟨#[]⟩, .int .i64 0, .bool false, .int .i64 0, .int .i64 0] 96
    rw [e] at this
    exact this
  have nr : w.heap.size + 1 ≠ b := by omega
  have BB : But b w ((w.alloc (.cells #[PT b] 134 (0, 0))).alloc (.cells #[.string ⟨#[]⟩, .int .i64 0, .bool false, .int .i64 0, .int .i64 0] 96 (0, 0))) := ((But.refl b w).alloc _).alloc _
  obtain ⟨x0, x1, x2, x3, x4⟩ := N
  unfold nmV at hI
  dsimp only at hI
  have c2 := h.c 2 _ rfl
  have hex := expect_c hS h0 ⟨#[40]⟩
  rw [list40] at hex
  have E1 : K.expect T [40] σ = K.op1 T σ := rfl
  rw [E1] at hex
  have hfl := fun (w' : World) (h' : CR w' b s T (K.op1 T σ) v) => kfail_c hS h' 6 (tk T σ.i).p
  have hcl := fun (w' : World) (h' : CR w' b s T σ4 v) => expect_c hS h' ⟨#[41]⟩
  rw [list41] at hcl
  have E2 : K.expect T [41] σ4 = K.cl1 T σ4 := rfl
  rw [E2] at hcl
  have HO : Hid (K.op2 T σ = if (K.op1 T σ).depth = 10 then K.fail T 6 (tk T σ.i).p (K.op1 T σ) else K.op1 T σ) := rfl
  have HOP : Hid (K.opened T σ = K.deeper 1 (K.op2 T σ)) := rfl
  have HCL : Hid (K.closed T σ4 = K.deeper (-1) (K.cl1 T σ4)) := rfl
  have kd1 : Hid ((K.op1 T σ).depth = σ.depth) := (K.op1_keeps T σ).depth
  have kd2 : Hid ((K.op2 T σ).depth = σ.depth) := (K.op2_keeps T σ).depth
  have kd4 : Hid ((K.cl1 T σ4).depth = σ.depth + 1) := (K.cl1_keeps T σ4).depth.trans hd4
  generalize K.opened T σ = σ3 at *
  generalize K.closed T σ4 = σ6 at *
  generalize K.op2 T σ = σ2 at *
  generalize K.op1 T σ = σ1 at *
  generalize K.cl1 T σ4 = σ5 at *
  generalize (tk T σ.i).p = tp at *
  clear E1 E2 hd4
  go_enter_defers Tryz.func104, Tryz.ntmps104
  go_wp2_with fail
  refine hex.mono ?_
  rintro x w1 ⟨rfl, hr1, hb1⟩
  have qa := q0.of_block (hb1.block _ q0.lt nq)
  have qc := qa.cell 0
  have c5 := hr1.c 5 _ rfl
  simp only [List.getElem?_cons_zero] at qc
  clear hex
  go_upto_if 18 with fail
  go_cut [18] from 19 to 21 (fun _ wr => CR wr b s T σ2 v ∧ But b ((w.alloc (.cells #[PT b] 134 (0, 0))).alloc (.cells #[.string ⟨#[]⟩, .int .i64 0, .bool false, .int .i64 0, .int .i64 0] 96 (0, 0))) wr)
  case first =>
    by_cases h10 : σ1.depth = 10
    · have e := HO.out
      rw [if_pos h10] at e
      have HE := hide e
      have h10' := beq_yes h10
      clear e h10
      rw [h10']
      go_wp2_with fail
      refine (hfl _ hr1).mono ?_
      rintro x w2 ⟨rfl, hr2, hb2⟩
      go_wp2_with fail
      go_meet
      case rel => rw [HE.out]; exact ⟨hr2, hb1.trans hb2⟩
    · have e := HO.out
      rw [if_neg h10] at e
      have HE := hide e
      have h10' := beq_no h10
      clear e h10
      rw [h10']
      go_wp2_with fail
      go_meet
      case rel => rw [HE.out]; exact ⟨hr1, hb1⟩
  case rest =>
    obtain ⟨hr2, hb2⟩ := hcut
    clear hr1 hb1 qa qc c5 hfl HO
    have qa := q0.of_block (hb2.block _ q0.lt nq)
    have qc := qa.cell 0
    simp only [List.getElem?_cons_zero] at qc
    have c5 : wc.cell? ⟨b, 5, none⟩ = some (.int .i64 σ.depth) := by rw [← kd2.out]; exact hr2.c 5 _ rfl
    have f5 := hr2.cells.frozen 5
    have D := hr2.depth 1
    rw [kd2.out, ← HOP.out] at D
    go_wp2_with fail
    generalize wc.setCell ⟨b, 5, none⟩ (.int .i64 (σ.depth + 1)) = w3 at *
    have B3 := hb2.trans D.2
    have qa3 := q0.of_block (B3.block _ q0.lt nq)
    refine (hI _ D.1 (BB.trans B3)).mono ?_
    rintro x w4 ⟨rfl, hr4, hb4⟩
    have B4 := B3.trans hb4
    have qa4 := q0.of_block (B4.block _ q0.lt nq)
    have qc4 := qa4.cell 0
    have lq4 := qa4.lt
    simp only [List.getElem?_cons_zero] at qc4
    have hr4a := hr4.alloc (.cells #[.string x0, .int .i64 x1, .bool x2, .int .i64 x3, .int .i64 x4] 96 (0, 0))
    have B4a := B4.alloc (.cells #[.string x0, .int .i64 x1, .bool x2, .int .i64 x3, .int .i64 x4] 96 (0, 0))
    have m4 := At.alloc_new w4 [.string x0, .int .i64 x1, .bool x2, .int .i64 x3, .int .i64 x4] 96
    have n4 := hr4.cells.lt
    clear hI D qc c5 f5 qa hr2 hb2
    go_wp2_with fail
    refine (hcl _ hr4a).mono ?_
    rintro x w5 ⟨rfl, hr5, hb5⟩
    have B5 := B4a.trans hb5
    have qa5 := q0.of_block (B5.block _ q0.lt nq)
    have qc5 := qa5.cell 0
    simp only [List.getElem?_cons_zero] at qc5
    have m5 := m4.of_block (hb5.block _ m4.lt (by omega))
    have j0 := m5.cell 0
    have j1 := m5.cell 1
    have j2 := m5.cell 2
    have j3 := m5.cell 3
    have j4 := m5.cell 4
    simp only [List.getElem?_cons_zero, List.getElem?_cons_succ] at j0 j1 j2 j3 j4
    have RB := e0.of_block (B5.block _ e0.lt nr)
    have r0 := RB.cell 0
    have r1 := RB.cell 1
    have r2 := RB.cell 2
    have r3 := RB.cell 3
    have r4 := RB.cell 4
    simp only [List.getElem?_cons_zero, List.getElem?_cons_succ] at r0 r1 r2 r3 r4
    have y0 := RB.frozen 0
    have y1 := RB.frozen 1
    have y2 := RB.frozen 2
    have y3 := RB.frozen 3
    have y4 := RB.frozen 4
    have RZ := ((((RB.set 0 (.string x0)).set 1 (.int .i64 x1)).set 2 (.bool x2)).set 3 (.int .i64 x3)).set 4 (.int .i64 x4)
    have sz1 : (w.alloc (.cells #[PT b] 134 (0, 0))).heap.size = w.heap.size + 1 := by simp
    have CZ := put5 (w := w.alloc (.cells #[PT b] 134 (0, 0))) hr5 B5 (by omega) (fun k e => by have := hvl k e; omega) (.string x0) (.int .i64 x1) (.bool x2) (.int .i64 x3) (.int .i64 x4)
    rw [sz1] at CZ
    go_wp2_with fail
    generalize ((((w5.setCell ⟨w.heap.size + 1, 0, none⟩ (.string x0)).setCell ⟨w.heap.size + 1, 1, none⟩ (.int .i64 x1)).setCell ⟨w.heap.size + 1, 2, none⟩ (.bool x2)).setCell ⟨w.heap.size + 1, 3, none⟩ (.int .i64 x3)).setCell ⟨w.heap.size + 1, 4, none⟩ (.int .i64 x4) = W6 at *
    have qa6 := (At.alloc_new w [PT b] 134).of_block (CZ.2.block w.heap.size (by omega) nq)
    have qc6 := qa6.cell 0
    simp only [List.getElem?_cons_zero] at qc6
    have x5 : W6.cell? ⟨b, 5, none⟩ = some (.int .i64 (σ.depth + 1)) := by rw [← kd4.out]; exact CZ.1.c 5 _ rfl
    have y5 := CZ.1.cells.frozen 5
    have D5 := CZ.1.depth (-1)
    rw [kd4.out, ← HCL.out] at D5
    have RF := RZ.set_other (a := ⟨b, 5, none⟩) nr (.int .i64 (σ.depth + 1 + -1))
    refine leaves_cons (f := 134) (args := #[.pointer (some ⟨w.heap.size, 0, none⟩)]) (by simp) (by simp [go_sem]) ?_
    refine (less_name w.heap.size b (σ.depth + 1) .returning _ ⟨by omega, by omega⟩ qc6 x5 y5).mono ?_
    rintro e u' w6 ⟨rfl, rfl, rfl⟩
    generalize W6.setCell ⟨b, 5, none⟩ (.int .i64 (σ.depth + 1 + -1)) = W7 at *
    have z0 : W7.cell? ⟨w.heap.size + 1, 0, none⟩ = some (.string x0) := RF.cell 0
    have z1 : W7.cell? ⟨w.heap.size + 1, 1, none⟩ = some (.int .i64 x1) := RF.cell 1
    have z2 : W7.cell? ⟨w.heap.size + 1, 2, none⟩ = some (.bool x2) := RF.cell 2
    have z3 : W7.cell? ⟨w.heap.size + 1, 3, none⟩ = some (.int .i64 x3) := RF.cell 3
    have z4 : W7.cell? ⟨w.heap.size + 1, 4, none⟩ = some (.int .i64 x4) := RF.cell 4
    refine ⟨nmV ⟨x0, x1, x2, x3, x4⟩, by simp [results, Tryz.results104, go_sem, nmV, z0, z1, z2, z3, z4], rfl, D5.1, (((But.refl b w).alloc _).trans CZ.2).trans D5.2⟩
end Go.Proofs.YtejbgcloblpbfaaGreatDoor
namespace Go.Proofs.YtejbgcloblpbfaaGreatDoor
namespace K
open R (Tok tk isStop)
theorem more_run (s : ByteArray) (m : Nat) : ∀ i f : Nat, m = s.size - i → i ≤ s.size → more s (m + 1) i (f : Int) = ⟨s.extract f (runOf mid s i), f⟩ :: more s (s.size + 1 - runOf mid s i) (runOf mid s i) (-1) := by
  induction m with
  | zero =>
    intro i f hm hi
    have e : i = s.size := by omega
    subst e
    rw [run_end (by omega), more_shut (stop_size s), show s.size + 1 - s.size = 0 + 1 from by omega]
  | succ m ih =>
    intro i f hm hi
    have h : i < s.size := by omega
    cases e : mid s[i] with
    | true => rw [more_on h e, ih (i + 1) f (by omega) (by omega), run_step h e]
    | false =>
      have hs : isStop s i = true := by
        rw [stop_at h]
        unfold mid at e
        revert e
        cases blank s[i] <;> cases brak s[i] <;> decide
      rw [run_stop h e, more_shut hs, show s.size + 1 - i = m + 1 + 1 from by omega]
def from_ (s : ByteArray) (i : Nat) : List Tok := more s (s.size + 1 - i) i (-1) ++ [⟨⟨#[]⟩, s.size⟩]
theorem scan_blank {s : ByteArray} {i : Nat} (h : i < s.size) (hb : blank s[i] = true) : scan s i = scan s (i + 1) := by
  unfold scan; rw [run_step h hb]
theorem extract_self (s : ByteArray) (i : Nat) : s.extract i i = ⟨#[]⟩ := by
  apply ByteArray.ext
  simp
theorem scan_size (s : ByteArray) : scan s s.size = ⟨⟨#[]⟩, s.size⟩ := by
  unfold scan endTok
  rw [run_end (p := blank) (by omega), run_end (p := mid) (by omega), if_neg (by omega), extract_self]
theorem from_size (s : ByteArray) : from_ s s.size = [⟨⟨#[]⟩, s.size⟩] := by
  unfold from_
  rw [show s.size + 1 - s.size = 0 + 1 from by omega, more_end]
  rfl
theorem from_step (s : ByteArray) (m : Nat) : ∀ i, m = s.size - i → i ≤ s.size →
    (scan s i = ⟨⟨#[]⟩, s.size⟩ ∧ from_ s i = [⟨⟨#[]⟩, s.size⟩]) ∨
    ∃ a e : Nat, a < e ∧ e ≤ s.size ∧ i ≤ a ∧ scan s i = ⟨s.extract a e, a⟩ ∧ from_ s i = ⟨s.extract a e, a⟩ :: from_ s e := by
  induction m with
  | zero =>
    intro i hm hi
    have e : i = s.size := by omega
    subst e
    exact Or.inl ⟨scan_size s, from_size s⟩
  | succ m ih =>
    intro i hm hi
    have h : i < s.size := by omega
    cases eb : blank s[i] with
    | true =>
      have e1 := scan_blank h eb
      have e2 : from_ s i = from_ s (i + 1) := by
        unfold from_
        rw [show s.size + 1 - i = (s.size + 1 - (i + 1)) + 1 from by omega, more_blank h eb]
      rw [e1, e2]
      rcases ih (i + 1) (by omega) (by omega) with h' | ⟨a, e, h1, h2, h3, h4⟩
      · exact Or.inl h'
      · exact Or.inr ⟨a, e, h1, h2, by omega, h4⟩
    | false =>
      right
      have ra : runOf blank s i = i := run_stop h eb
      cases ek : brak s[i] with
      | true =>
        have em : runOf mid s i = i := run_stop h (by unfold mid; rw [ek]; simp)
        refine ⟨i, i + 1, by omega, by omega, Nat.le_refl _, ?_, ?_⟩
        · unfold scan endTok
          rw [ra, em, if_pos ⟨rfl, h⟩]
        · unfold from_
          rw [show s.size + 1 - i = (s.size + 1 - (i + 1)) + 1 from by omega, more_brak h ek]
          rfl
      | false =>
        have hm' : mid s[i] = true := by unfold mid; rw [eb, ek]; rfl
        have em : runOf mid s i = runOf mid s (i + 1) := run_step h hm'
        have hl := run_le (p := mid) (s := s) (i := i + 1) (by omega)
        refine ⟨i, runOf mid s (i + 1), by omega, hl.2, Nat.le_refl _, ?_, ?_⟩
        · unfold scan endTok
          rw [ra, em, if_neg (by omega)]
        · unfold from_
          rw [show s.size + 1 - i = (s.size + 1 - (i + 1)) + 1 from by omega, more_word h hm', show s.size + 1 - (i + 1) = (s.size - (i + 1)) + 1 from by omega, more_run s _ (i + 1) i rfl (by omega)]
          rfl
theorem extract_size (s : ByteArray) (a e : Nat) (h : e ≤ s.size) (h' : a ≤ e) : (s.extract a e).size = e - a := by
  rw [ByteArray.size_extract]
  omega
def Ch (s : ByteArray) : List Tok → Prop
  | [] => False
  | [t] => t = ⟨⟨#[]⟩, s.size⟩
  | t :: u :: r => (∃ p : Nat, t.p = p ∧ p + t.s.size ≤ s.size ∧ scan s (p + t.s.size) = u) ∧ Ch s (u :: r)
theorem from_ch (s : ByteArray) (m : Nat) : ∀ i, m = s.size - i → i ≤ s.size → Ch s (from_ s i) ∧ ∃ r, from_ s i = scan s i :: r := by
  induction m using Nat.strongRecOn with
  | _ m ih =>
    intro i hm hi
    rcases from_step s m i hm hi with ⟨h1, h2⟩ | ⟨a, e, h1, h2, h3, h4, h5⟩
    · rw [h2, h1]
      exact ⟨rfl, [], rfl⟩
    · obtain ⟨c, r, hr⟩ := ih (s.size - e) (by omega) e rfl h2
      refine ⟨?_, from_ s e, by rw [h5, h4]⟩
      rw [h5, hr]
      refine ⟨⟨a, rfl, ?_, ?_⟩, by rw [← hr]; exact c⟩
      · show a + (s.extract a e).size ≤ s.size
        rw [extract_size s a e h2 (by omega)]; omega
      · show scan s (a + (s.extract a e).size) = scan s e
        rw [extract_size s a e h2 (by omega), show a + (e - a) = e from by omega]
theorem ch_next {s : ByteArray} : ∀ (l : List Tok), Ch s l → ∀ i, i < l.length → ∃ p : Nat, (tk l i).p = p ∧ p + (tk l i).s.size ≤ s.size ∧ scan s (p + (tk l i).s.size) = tk l (nx l i)
  | [], h, _, _ => h.elim
  | [t], h, i, hi => by
    have e : i = 0 := by simp at hi; omega
    subst e
    have h' : t = ⟨⟨#[]⟩, s.size⟩ := h
    subst h'
    refine ⟨s.size, rfl, by show s.size + 0 ≤ s.size; omega, ?_⟩
    show scan s (s.size + 0) = _
    rw [Nat.add_zero, scan_size]
    rfl
  | t :: u :: r, h, i, hi => by
    obtain ⟨h1, h2⟩ := h
    cases i with
    | zero =>
      obtain ⟨p, e1, e2, e3⟩ := h1
      refine ⟨p, e1, e2, ?_⟩
      have : nx (t :: u :: r) 0 = 1 := by unfold nx; rw [if_pos (by simp)]
      rw [this]
      exact e3
    | succ i =>
      obtain ⟨p, e1, e2, e3⟩ := ch_next (u :: r) h2 i (by simpa using hi)
      refine ⟨p, e1, e2, ?_⟩
      have : nx (t :: u :: r) (i + 1) = nx (u :: r) i + 1 := by
        unfold nx
        simp only [List.length_cons]
        split <;> split <;> omega
      rw [this]
      exact e3
theorem toks_from (s : ByteArray) : R.toks s = from_ s 0 := by rw [toks_more]; rfl
theorem scans_toks {s : ByteArray} (hs : s.size ≤ 800) : Scans s (R.toks s) := by
  have hl := R.toks_len s
  obtain ⟨c, r, hr⟩ := from_ch s s.size 0 (by omega) (Nat.zero_le _)
  rw [← toks_from] at c hr
  refine ⟨hs, hl.2, by omega, ?_, ?_, ch_next _ c⟩
  · rw [hr]; rfl
  · unfold R.toks
    exact R.tk_last _ _
end K
end Go.Proofs.YtejbgcloblpbfaaGreatDoor
