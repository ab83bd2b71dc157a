import Derived.Test.YtejbgcloblpbfaaGreatDoorB10
import Derived.Test.YtejbgcloblpbfaaGreatDoorB13
import Derived.Test.YtejbgcloblpbfaaGreatDoorB14
import Derived.Deep.QuietTactic
import Derived.BigQuiet
import Derived.Deep.CutBlock
namespace Go.Proofs.YtejbgcloblpbfaaGreatDoor
open Go.RowKit
open K (Nm Ex Do)
theorem ad_Set_Set (x : Value) (w : World) : (Instr.typeAssert (.iface 178 x) 151 178 true).run Tryz.prog w = .ok (.tuple #[x, .bool true]) w := by kernel_rfl
theorem ad_Put_Set (x : Value) (w : World) : (Instr.typeAssert (.iface 181 x) 151 178 true).run Tryz.prog w = .ok (.tuple #[.agg #[.int .i64 0, .string ⟨#[]⟩, .int .i64 0, .bool false, .int .i64 0, .int .i64 0, .nilIface], .bool false]) w := by kernel_rfl
theorem ad_Put_Put (x : Value) (w : World) : (Instr.typeAssert (.iface 181 x) 151 181 true).run Tryz.prog w = .ok (.tuple #[x, .bool true]) w := by kernel_rfl
theorem ad_If_Set (x : Value) (w : World) : (Instr.typeAssert (.iface 184 x) 151 178 true).run Tryz.prog w = .ok (.tuple #[.agg #[.int .i64 0, .string ⟨#[]⟩, .int .i64 0, .bool false, .int .i64 0, .int .i64 0, .nilIface], .bool false]) w := by kernel_rfl
theorem ad_If_Put (x : Value) (w : World) : (Instr.typeAssert (.iface 184 x) 151 181 true).run Tryz.prog w = .ok (.tuple #[.agg #[.int .i64 0, .string ⟨#[]⟩, .int .i64 0, .bool false, .int .i64 0, .int .i64 0, .nilIface, .nilIface], .bool false]) w := by kernel_rfl
theorem ad_If_If (x : Value) (w : World) : (Instr.typeAssert (.iface 184 x) 151 184 true).run Tryz.prog w = .ok (.tuple #[x, .bool true]) w := by kernel_rfl
theorem ad_For_Set (x : Value) (w : World) : (Instr.typeAssert (.iface 186 x) 151 178 true).run Tryz.prog w = .ok (.tuple #[.agg #[.int .i64 0, .string ⟨#[]⟩, .int .i64 0, .bool false, .int .i64 0, .int .i64 0, .nilIface], .bool false]) w := by kernel_rfl
theorem ad_For_Put (x : Value) (w : World) : (Instr.typeAssert (.iface 186 x) 151 181 true).run Tryz.prog w = .ok (.tuple #[.agg #[.int .i64 0, .string ⟨#[]⟩, .int .i64 0, .bool false, .int .i64 0, .int .i64 0, .nilIface, .nilIface], .bool false]) w := by kernel_rfl
theorem ad_For_If (x : Value) (w : World) : (Instr.typeAssert (.iface 186 x) 151 184 true).run Tryz.prog w = .ok (.tuple #[.agg #[.int .i64 0, .nilIface, .slice none 0 0, .slice none 0 0], .bool false]) w := by kernel_rfl
theorem ad_For_For (x : Value) (w : World) : (Instr.typeAssert (.iface 186 x) 151 186 true).run Tryz.prog w = .ok (.tuple #[x, .bool true]) w := by kernel_rfl
mutual
def K.gd (hid : Bool) : Do → K.GS → K.GS
  | .set p n e, g => K.gx e (K.note p (K.tells n e hid) g)
  | .put p n i e, g => K.gx e (K.gx i (K.note p (K.sec i || K.tells n e hid) g))
  | .ifs _ q y n, g => K.gds (hid || K.sec q) n (K.gds (hid || K.sec q) y (K.gx q g))
  | .fors p _ r l, g => K.gds hid l (K.gx r (K.note p (K.sec r) g))
  | .none, g => g
def K.gds (hid : Bool) : List Do → K.GS → K.GS
  | [], g => g
  | d :: l, g => K.gds hid l (K.gd hid d g)
end
mutual
def K.goodD : Do → Bool
  | .set _ _ e => K.good e
  | .put _ _ i e => K.good i && K.good e
  | .ifs _ q y n => K.good q && K.goodL y && K.goodL n
  | .fors _ _ r l => K.good r && K.goodL l
  | .none => false
def K.goodL : List Do → Bool
  | [] => true
  | d :: l => K.goodD d && K.goodL l
end
def GdDoes (d : Do) : Prop := ∀ (B : Nat → Prop) (w : World) (b : Nat) (g : K.GS) (u : Value) (hid : Bool), GAt w b g → DoIs B w d u → (∀ k, B k → k ≠ b) →
  Calls Tryz.prog 108 #[PT b, u, .bool hid] w fun x w' => x = .returned (.tuple #[]) ∧ GAt w' b (K.gd hid d g) ∧ But b w w'
def GdsDoes (l : List Do) : Prop := ∀ (B : Nat → Prop) (w : World) (b : Nat) (g : K.GS) (lv : Value) (us : List Value) (hid : Bool), GAt w b g → DRow B w lv us → Each B w l us → (∀ k, B k → k ≠ b) →
  Calls Tryz.prog 74 #[PT b, lv, .bool hid] w fun x w' => x = .returned (.tuple #[]) ∧ GAt w' b (K.gds hid l g) ∧ But b w w'
set_option maxRecDepth 100000 in
set_option maxHeartbeats 1000000 in
theorem gd_set (p : Int) (n : Nm) (e : Ex) (hg : K.good e = true) : GdDoes (.set p n e) := by
  intro B w b g u hid h hd hB
  unfold DoIs at hd
  subst hd
  have a1 := ad_Set_Set
  have hlt := h.lt
  have HK : Hid (K.gd hid (.set p n e) g = K.gx e (K.note p (K.tells n e hid) g)) := by show _ = _; rw [K.gd]
  have ht := fun w => tells_c n e hid hg w
  have hn := fun (w : World) (h' : GAt w b g) => note_c h' p (K.tells n e hid)
  have hx := fun (w : World) (h' : GAt w b (K.note p (K.tells n e hid) g)) => gx_c e hg w b _ h'
  rw [exV_good hg] at hx ht ⊢
  unfold nmV at ht
  generalize K.gd hid (.set p n e) g = G at *
  generalize K.gx e (K.note p (K.tells n e hid) g) = G2 at *
  generalize K.note p (K.tells n e hid) g = g1 at *
  generalize K.tells n e hid = q at *
  generalize exT e = t at *
  generalize exP e = x at *
  obtain ⟨x0, x1, x2, x3, x4⟩ := n
  dsimp only at *
  have h0 := h.alloc (.cells #[.int .i64 p, .string x0, .int .i64 x1, .bool x2, .int .i64 x3, .int .i64 x4, .iface t x] 178 (0, 0))
  have bx := At.alloc_new w [.int .i64 p, .string x0, .int .i64 x1, .bool x2, .int .i64 x3, .int .i64 x4, .iface t x] 178
  have B0 : But b w (w.alloc (.cells #[.int .i64 p, .string x0, .int .i64 x1, .bool x2, .int .i64 x3, .int .i64 x4, .iface t x] 178 (0, 0))) := (But.refl b w).alloc _
  have nq : w.heap.size ≠ b := by omega
  go_enter Tryz.func108, Tryz.ntmps108
  go_upto_region 3 with fail
  go_region_with (first | (go_at_call 142; refine (hn _ h1).mono ?_; rintro y w2 ⟨rfl, h2, hb2⟩; have bx2 := bx1.of_block (hb2.block _ bx1.lt nq); have k6 := bx2.cell 6; simp only [List.getElem?_cons_zero, List.getElem?_cons_succ] at k6) | (go_at_call 143; refine (ht _).mono ?_; rintro y w1 ⟨rfl, hb1⟩; have h1 : GAt w1 b g := h0.of_block (hb1.block _ h0.lt); have bx1 : At w1 w.heap.size 178 [.int .i64 p, .string x0, .int .i64 x1, .bool x2, .int .i64 x3, .int .i64 x4, .iface t x] := bx.of_block (hb1.block _ bx.lt); have k0 := bx1.cell 0; simp only [List.getElem?_cons_zero] at k0))
  all_goals
    have B2 := (B0.drew.below hb1).trans hb2
    go_wp2_with fail
    refine (hx _ h2).mono ?_
    rintro y w3 ⟨rfl, h3, hb3⟩
    go_wp2_with fail
    go_end0
    rw [HK.out]
    exact ⟨rfl, h3, B2.trans hb3⟩
end Go.Proofs.YtejbgcloblpbfaaGreatDoor
namespace Go.Proofs.YtejbgcloblpbfaaGreatDoor
open Go.RowKit
open K (Nm Ex Do)
theorem as_Number_Number (x : Value) (w : World) : (Instr.typeAssert (.iface 206 x) 176 206 true).run Tryz.prog w = .ok (.tuple #[x, .bool true]) w := by kernel_rfl
theorem as_Use_Number (x : Value) (w : World) : (Instr.typeAssert (.iface 208 x) 176 206 true).run Tryz.prog w = .ok (.tuple #[.agg #[.int .i64 0], .bool false]) w := by kernel_rfl
theorem as_Use_Use (x : Value) (w : World) : (Instr.typeAssert (.iface 208 x) 176 208 true).run Tryz.prog w = .ok (.tuple #[x, .bool true]) w := by kernel_rfl
theorem as_Get_Number (x : Value) (w : World) : (Instr.typeAssert (.iface 210 x) 176 206 true).run Tryz.prog w = .ok (.tuple #[.agg #[.int .i64 0], .bool false]) w := by kernel_rfl
theorem as_Get_Use (x : Value) (w : World) : (Instr.typeAssert (.iface 210 x) 176 208 true).run Tryz.prog w = .ok (.tuple #[.agg #[.string ⟨#[]⟩, .int .i64 0, .bool false, .int .i64 0, .int .i64 0], .bool false]) w := by kernel_rfl
theorem as_Operation_Number (x : Value) (w : World) : (Instr.typeAssert (.iface 212 x) 176 206 true).run Tryz.prog w = .ok (.tuple #[.agg #[.int .i64 0], .bool false]) w := by kernel_rfl
theorem as_Operation_Use (x : Value) (w : World) : (Instr.typeAssert (.iface 212 x) 176 208 true).run Tryz.prog w = .ok (.tuple #[.agg #[.string ⟨#[]⟩, .int .i64 0, .bool false, .int .i64 0, .int .i64 0], .bool false]) w := by kernel_rfl
theorem as_Choose_Number (x : Value) (w : World) : (Instr.typeAssert (.iface 214 x) 176 206 true).run Tryz.prog w = .ok (.tuple #[.agg #[.int .i64 0], .bool false]) w := by kernel_rfl
theorem as_Choose_Use (x : Value) (w : World) : (Instr.typeAssert (.iface 214 x) 176 208 true).run Tryz.prog w = .ok (.tuple #[.agg #[.string ⟨#[]⟩, .int .i64 0, .bool false, .int .i64 0, .int .i64 0], .bool false]) w := by kernel_rfl
theorem below_dN {B : Nat} {w w' : World} (h : Below B w w') (n : Nat) : Below B w (w'.drewN n) := ⟨h.os, h.tape, h.output, h.size, h.block⟩
def V.ev (W : List Int) : Ex → Int
  | .num v => v
  | .use n => W.getD n.place.toNat 0
  | .get _ n e => W.getD (n.place + V.md (V.ev W e) n.size).toNat 0
  | .op _ o l r => V.opf o (V.ev W l) (V.ev W r)
  | .cho _ q y n => if V.ev W q = 0 then V.ev W n else V.ev W y
  | .none => 0
def V.wfE (N : Nat) : Ex → Prop
  | .num _ => True
  | .use n => 0 ≤ n.place ∧ n.place < N
  | .get _ n e => 0 ≤ n.place ∧ 1 ≤ n.size ∧ n.size ≤ 6 ∧ n.place + n.size ≤ N ∧ V.wfE N e
  | .op _ o l r => V.isOp o = true ∧ V.wfE N l ∧ V.wfE N r
  | .cho _ q y n => V.wfE N q ∧ V.wfE N y ∧ V.wfE N n
  | .none => False
theorem V.wf_good {N : Nat} : ∀ {e : Ex}, V.wfE N e → K.good e = true
  | .num _, _ => rfl
  | .use _, _ => rfl
  | .get _ _ e, h => by unfold V.wfE at h; rw [K.good]; exact V.wf_good h.2.2.2.2
  | .op _ _ l r, h => by unfold V.wfE at h; rw [K.good, V.wf_good h.2.1, V.wf_good h.2.2]; rfl
  | .cho _ q y n, h => by unfold V.wfE at h; rw [K.good, V.wf_good h.1, V.wf_good h.2.1, V.wf_good h.2.2]; rfl
  | .none, h => by unfold V.wfE at h; exact h.elim
structure RAt (w : World) (b g : Nat) (tb : Array Value) (W : List Int) : Prop where
  cells : At w b 120 (.slice (some ⟨g, 0, none⟩) W.length W.length :: tb.toList)
  words : At w g 121 (W.map fun n => .int .i64 n)
  tab : IsTab tb
  few : W.length ≤ 60
theorem RAt.keep {w w' : World} {b g : Nat} {tb : Array Value} {W : List Int} (h : RAt w b g tb W) (hb : w'.heap[b]? = w.heap[b]?) (hg : w'.heap[g]? = w.heap[g]?) : RAt w' b g tb W :=
  ⟨h.cells.of_block hb, h.words.of_block hg, h.tab, h.few⟩
theorem RAt.below {w w' : World} {b g : Nat} {tb : Array Value} {W : List Int} (h : RAt w b g tb W) (hb : Below w.heap.size w w') : RAt w' b g tb W :=
  h.keep (hb.block b h.cells.lt) (hb.block g h.words.lt)
theorem RAt.word {w : World} {b g : Nat} {tb : Array Value} {W : List Int} (h : RAt w b g tb W) {k : Nat} (hk : k < W.length) : w.cell? ⟨g, k, none⟩ = some (.int .i64 (W.getD k 0)) := by
  rw [h.words.cell, List.getElem?_map, List.getElem?_eq_getElem hk, List.getD_eq_getElem?_getD, List.getElem?_eq_getElem hk]
  rfl
def EvDoes (e : Ex) : Prop := ∀ (w : World) (b g : Nat) (tb : Array Value) (W : List Int), RAt w b g tb W → V.wfE W.length e → Calls Tryz.prog 112 #[PT b, exV e] w fun x w' => x = .returned (.int .i64 (V.ev W e)) ∧ Below w.heap.size w w'
set_option maxRecDepth 100000 in
set_option maxHeartbeats 1000000 in
theorem ev_num (v : Int) : EvDoes (.num v) := by
  intro w b g tb W h _
  have a1 := as_Number_Number
  show Calls Tryz.prog _ #[PT b, .iface 206 (.agg #[.int .i64 v])] w _
  go_enter Tryz.func112, Tryz.ntmps112
  go_wp2_with fail
  go_ret
  exact ⟨rfl, (Below.refl _ _).alloc (Nat.le_refl _) _⟩
set_option maxRecDepth 100000 in
set_option maxHeartbeats 1000000 in
theorem ev_use (n : Nm) : EvDoes (.use n) := by
  intro w b g tb W h hw
  have a1 := as_Use_Number
  have a2 := as_Use_Use
  unfold V.wfE at hw
  obtain ⟨k, hk⟩ := Int.eq_ofNat_of_zero_le hw.1
  have hkl : k < W.length := by omega
  have few := h.few
  have hz : (k : Int) < (W.length : Int) := by omega
  have HV : Hid (V.ev W (.use n) = W.getD k 0) := by show W.getD n.place.toNat 0 = _; rw [hk]; rfl
  obtain ⟨x0, x1, x2, x3, x4⟩ := n
  dsimp only at hk
  subst hk
  have h0 := h.below ((Below.refl _ _).alloc (Nat.le_refl _) (.cells #[.string x0, .int .i64 x1, .bool x2, .int .i64 x3, .int .i64 (k : Int)] 208 (0, 0)))
  have c0 := h0.cells.cell 0
  simp only [List.getElem?_cons_zero] at c0
  have cw := h0.word hkl
  have lb := h.cells.lt
  have lg := h.words.lt
  generalize V.ev W (.use ⟨x0, x1, x2, x3, (k : Int)⟩) = q at *
  generalize W.getD k 0 = q' at *
  have e := HV.out
  subst e
  show Calls Tryz.prog _ #[PT b, .iface 208 (.agg #[.string x0, .int .i64 x1, .bool x2, .int .i64 x3, .int .i64 (k : Int)])] w _
  go_enter Tryz.func112, Tryz.ntmps112
  go_upto_region 7 with fail
  go_quiet (fail)
  go_wp2_with fail
  go_ret
  exact ⟨rfl, below_dN ((Below.refl _ _).alloc (Nat.le_refl _) _) _⟩
set_option maxHeartbeats 1000000 in
theorem rchoose_c (p : Int) (q y n : Ex) (hq : EvDoes q) (hy : EvDoes y) (hn : EvDoes n) (w : World) (b g : Nat) (tb : Array Value) (W : List Int) (h : RAt w b g tb W) (wq : V.wfE W.length q) (wy : V.wfE W.length y) (wn : V.wfE W.length n) :
    Calls Tryz.prog 145 #[PT b, .agg #[.int .i64 p, exV q, exV y, exV n]] w fun x w' => x = .returned (.int .i64 (if V.ev W q = 0 then V.ev W n else V.ev W y)) ∧ Below w.heap.size w w' := by
  have hx := fun (w : World) (h' : RAt w b g tb W) => hq w b g tb W h' wq
  have hx2 := fun (w : World) (h' : RAt w b g tb W) => hy w b g tb W h' wy
  have hx3 := fun (w : World) (h' : RAt w b g tb W) => hn w b g tb W h' wn
  rw [exV_good (V.wf_good wq)] at hx ⊢
  rw [exV_good (V.wf_good wy)] at hx2 ⊢
  rw [exV_good (V.wf_good wn)] at hx3 ⊢
  generalize V.ev W q = vq at *
  generalize V.ev W y = vy at *
  generalize V.ev W n = vn at *
  generalize exT q = t at *
  generalize exP q = x at *
  generalize exT y = t2 at *
  generalize exP y = x2 at *
  generalize exT n = t3 at *
  generalize exP n = x3 at *
  have B0 : Below w.heap.size w (w.alloc (.cells #[.int .i64 p, .iface t x, .iface t2 x2, .iface t3 x3] 214 (0, 0))) := (Below.refl _ _).alloc (Nat.le_refl _) _
  have bx := At.alloc_new w [.int .i64 p, .iface t x, .iface t2 x2, .iface t3 x3] 214
  have h0 := h.below B0
  by_cases hv : vq = 0
  · subst hv
    rw [if_pos rfl]
    go_enter Tryz.func145, Tryz.ntmps145
    go_wp2_with fail
    refine (hx _ h0).mono ?_
    rintro z w2 ⟨rfl, hb2⟩
    have bx2 := bx.of_block (hb2.block _ bx.lt)
    have k3 := bx2.cell 3
    simp only [List.getElem?_cons_zero, List.getElem?_cons_succ] at k3
    go_wp2_with fail
    refine (hx3 _ (h0.below hb2)).mono ?_
    rintro z w3 ⟨rfl, hb3⟩
    go_wp2_with fail
    go_ret
    exact ⟨rfl, (B0.trans (hb2.mono B0.size)).trans (hb3.mono (Nat.le_trans B0.size hb2.size))⟩
  · rw [if_neg hv]
    go_enter Tryz.func145, Tryz.ntmps145
    go_wp2_with fail
    refine (hx _ h0).mono ?_
    rintro z w2 ⟨rfl, hb2⟩
    have bx2 := bx.of_block (hb2.block _ bx.lt)
    have k2 := bx2.cell 2
    simp only [List.getElem?_cons_zero, List.getElem?_cons_succ] at k2
    go_wp2_with fail
    refine (hx2 _ (h0.below hb2)).mono ?_
    rintro z w3 ⟨rfl, hb3⟩
    go_wp2_with fail
    go_ret
    exact ⟨rfl, (B0.trans (hb2.mono B0.size)).trans (hb3.mono (Nat.le_trans B0.size hb2.size))⟩
set_option maxRecDepth 100000 in
set_option maxHeartbeats 1000000 in
theorem ev_cho (p : Int) (q y n : Ex) (hq : EvDoes q) (hy : EvDoes y) (hn : EvDoes n) : EvDoes (.cho p q y n) := by
  intro w b g tb W h hw
  have a1 := as_Choose_Number
  have a2 := as_Choose_Use
  have a3 := as_Choose_Get
  have a4 := as_Choose_Operation
  have a5 := as_Choose_Choose
  unfold V.wfE at hw
  have hc := fun (w : World) (h' : RAt w b g tb W) => rchoose_c p q y n hq hy hn w b g tb W h' hw.1 hw.2.1 hw.2.2
  have HV : Hid (V.ev W (.cho p q y n) = if V.ev W q = 0 then V.ev W n else V.ev W y) := rfl
  show Calls Tryz.prog _ #[PT b, .iface 214 (.agg #[.int .i64 p, exV q, exV y, exV n])] w _
  rw [exV_good (V.wf_good hw.1), exV_good (V.wf_good hw.2.1), exV_good (V.wf_good hw.2.2)] at *
  rw [HV.out]
  clear HV
  generalize (if V.ev W q = 0 then V.ev W n else V.ev W y) = v at *
  generalize exT q = t at *
  generalize exP q = x at *
  generalize exT y = t2 at *
  generalize exP y = x2 at *
  generalize exT n = t3 at *
  generalize exP n = x3 at *
  have B0 : Below w.heap.size w (w.alloc (.cells #[.int .i64 p, .iface t x, .iface t2 x2, .iface t3 x3] 214 (0, 0))) := (Below.refl _ _).alloc (Nat.le_refl _) _
  have h0 := h.below B0
  go_enter Tryz.func112, Tryz.ntmps112
  go_wp2_with fail
  refine (hc _ h0).mono ?_
  rintro z w2 ⟨rfl, hb2⟩
  go_wp2_with fail
  go_ret
  exact ⟨rfl, B0.trans (hb2.mono B0.size)⟩
end Go.Proofs.YtejbgcloblpbfaaGreatDoor
