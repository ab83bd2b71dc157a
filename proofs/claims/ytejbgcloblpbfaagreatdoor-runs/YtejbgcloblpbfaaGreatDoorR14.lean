import Derived.Test.YtejbgcloblpbfaaGreatDoorR11
import Derived.Test.YtejbgcloblpbfaaGreatDoorR10
import Derived.Test.YtejbgcloblpbfaaGreatDoorR12
import Derived.Test.YtejbgcloblpbfaaGreatDoorR13
import Derived.Test.YtejbgcloblpbfaaGreatDoorR02
namespace Go.Proofs.YtejbgcloblpbfaaGreatDoor
open Go.RowKit
open K (Nm Ex)
abbrev K.GS := Int × Bool
def K.note (p : Int) (wr : Bool) (g : K.GS) : K.GS := if (wr && !g.2) = true then (p, true) else g
abbrev GAt (w : World) (b : Nat) (g : K.GS) : Prop := At w b 142 [.int .i64 g.1, .bool g.2]
set_option maxHeartbeats 400000 in
theorem note_c {w : World} {b : Nat} {g : K.GS} (h : GAt w b g) (p : Int) (wr : Bool) :
    Calls Tryz.prog 142 #[PT b, .int .i64 p, .bool wr] w fun x w' => x = .returned (.tuple #[]) ∧ GAt w' b (K.note p wr g) ∧ But b w w' := by
  obtain ⟨a, f⟩ := g
  have c0 := h.cell 0
  have c1 := h.cell 1
  simp only [List.getElem?_cons_zero, List.getElem?_cons_succ] at c0 c1
  have f0 := h.frozen 0
  have f1 := h.frozen 1
  cases wr with
  | false =>
    go_enter Tryz.func142, Tryz.ntmps142
    go_wp2
    go_end0
    exact ⟨rfl, h, But.refl _ _⟩
  | true =>
    cases f with
    | true =>
      go_enter Tryz.func142, Tryz.ntmps142
      go_wp2
      go_end0
      exact ⟨rfl, h, But.refl _ _⟩
    | false =>
      go_enter Tryz.func142, Tryz.ntmps142
      go_wp2
      go_end0
      exact ⟨rfl, (h.set 0 _).set 1 _, ((But.refl b w).set 0 _).set 1 _⟩
def K.tells (n : Nm) (e : Ex) (hid : Bool) : Bool := !n.sec && (hid || K.sec e)
set_option maxRecDepth 100000 in
set_option maxHeartbeats 400000 in
theorem tells_c (n : Nm) (e : Ex) (hid : Bool) (hg : K.good e = true) (w : World) :
    Calls Tryz.prog 143 #[nmV n, exV e, .bool hid] w fun x w' => x = .returned (.bool (K.tells n e hid)) ∧ Below w.heap.size w w' := by
  have hm := sec_method e hg
  have hna := sec_ahead e hg
  have hen := sec_enter e hg
  have hs := sec_c e hg
  unfold SecDoes at hs
  have HK : Hid (K.tells n e hid = (!n.sec && (hid || K.sec e))) := rfl
  rw [exV_good hg]
  generalize K.tells n e hid = r at *
  generalize exT e = t at *
  generalize exP e = x at *
  generalize exM e = m at *
  generalize K.sec e = q at *
  obtain ⟨x0, x1, x2, x3, x4⟩ := n
  unfold nmV
  dsimp only at *
  cases x2 with
  | true =>
    have e := HK.out
    subst e
    go_enter Tryz.func143, Tryz.ntmps143
    go_wp2_with fail
    go_ret
    exact ⟨rfl, (Below.refl _ _).alloc (Nat.le_refl _) _⟩
  | false =>
    cases hid with
    | true =>
      have e := HK.out
      subst e
      go_enter Tryz.func143, Tryz.ntmps143
      go_wp2_with fail
      go_ret
      exact ⟨rfl, (Below.refl _ _).alloc (Nat.le_refl _) _⟩
    | false =>
      have e := HK.out
      rw [Bool.not_false, Bool.true_and, Bool.false_or] at e
      subst e
      clear HK
      go_enter Tryz.func143, Tryz.ntmps143
      go_wp2_with fail
      refine (hs _).mono ?_
      rintro y w1 ⟨rfl, hb⟩
      go_wp2_with fail
      go_ret
      exact ⟨rfl, ((Below.refl _ _).alloc (Nat.le_refl _) _).trans (hb.mono (by simp))⟩
def K.gx : Ex → K.GS → K.GS
  | .get p _ e, g => K.gx e (K.note p (K.sec e) g)
  | .op p o l r, g => K.gx r (K.gx l (K.note p (o == 47 && (K.sec l || K.sec r)) g))
  | .cho _ q y n, g => K.gx n (K.gx y (K.gx q g))
  | _, g => g
def GxDoes (e : Ex) : Prop := ∀ (w : World) (b : Nat) (g : K.GS), GAt w b g → Calls Tryz.prog 144 #[PT b, exV e] w fun x w' => x = .returned (.tuple #[]) ∧ GAt w' b (K.gx e g) ∧ But b w w'
theorem as_Number_Get (x : Value) (w : World) : (Instr.typeAssert (.iface 206 x) 176 210 true).run Tryz.prog w = .ok (.tuple #[.agg #[.int .i64 0, .string ⟨#[]⟩, .int .i64 0, .bool false, .int .i64 0, .int .i64 0, .nilIface], .bool false]) w := by kernel_rfl
theorem as_Number_Operation (x : Value) (w : World) : (Instr.typeAssert (.iface 206 x) 176 212 true).run Tryz.prog w = .ok (.tuple #[.agg #[.int .i64 0, .int .u8 0, .nilIface, .nilIface], .bool false]) w := by kernel_rfl
theorem as_Number_Choose (x : Value) (w : World) : (Instr.typeAssert (.iface 206 x) 176 214 true).run Tryz.prog w = .ok (.tuple #[.agg #[.int .i64 0, .nilIface, .nilIface, .nilIface], .bool false]) w := by kernel_rfl
theorem as_Use_Get (x : Value) (w : World) : (Instr.typeAssert (.iface 208 x) 176 210 true).run Tryz.prog w = .ok (.tuple #[.agg #[.int .i64 0, .string ⟨#[]⟩, .int .i64 0, .bool false, .int .i64 0, .int .i64 0, .nilIface], .bool false]) w := by kernel_rfl
theorem as_Use_Operation (x : Value) (w : World) : (Instr.typeAssert (.iface 208 x) 176 212 true).run Tryz.prog w = .ok (.tuple #[.agg #[.int .i64 0, .int .u8 0, .nilIface, .nilIface], .bool false]) w := by kernel_rfl
theorem as_Use_Choose (x : Value) (w : World) : (Instr.typeAssert (.iface 208 x) 176 214 true).run Tryz.prog w = .ok (.tuple #[.agg #[.int .i64 0, .nilIface, .nilIface, .nilIface], .bool false]) w := by kernel_rfl
theorem as_Get_Get (x : Value) (w : World) : (Instr.typeAssert (.iface 210 x) 176 210 true).run Tryz.prog w = .ok (.tuple #[x, .bool true]) w := by kernel_rfl
theorem as_Get_Operation (x : Value) (w : World) : (Instr.typeAssert (.iface 210 x) 176 212 true).run Tryz.prog w = .ok (.tuple #[.agg #[.int .i64 0, .int .u8 0, .nilIface, .nilIface], .bool false]) w := by kernel_rfl
theorem as_Get_Choose (x : Value) (w : World) : (Instr.typeAssert (.iface 210 x) 176 214 true).run Tryz.prog w = .ok (.tuple #[.agg #[.int .i64 0, .nilIface, .nilIface, .nilIface], .bool false]) w := by kernel_rfl
theorem as_Operation_Get (x : Value) (w : World) : (Instr.typeAssert (.iface 212 x) 176 210 true).run Tryz.prog w = .ok (.tuple #[.agg #[.int .i64 0, .string ⟨#[]⟩, .int .i64 0, .bool false, .int .i64 0, .int .i64 0, .nilIface], .bool false]) w := by kernel_rfl
theorem as_Operation_Operation (x : Value) (w : World) : (Instr.typeAssert (.iface 212 x) 176 212 true).run Tryz.prog w = .ok (.tuple #[x, .bool true]) w := by kernel_rfl
theorem as_Operation_Choose (x : Value) (w : World) : (Instr.typeAssert (.iface 212 x) 176 214 true).run Tryz.prog w = .ok (.tuple #[.agg #[.int .i64 0, .nilIface, .nilIface, .nilIface], .bool false]) w := by kernel_rfl
theorem as_Choose_Get (x : Value) (w : World) : (Instr.typeAssert (.iface 214 x) 176 210 true).run Tryz.prog w = .ok (.tuple #[.agg #[.int .i64 0, .string ⟨#[]⟩, .int .i64 0, .bool false, .int .i64 0, .int .i64 0, .nilIface], .bool false]) w := by kernel_rfl
theorem as_Choose_Operation (x : Value) (w : World) : (Instr.typeAssert (.iface 214 x) 176 212 true).run Tryz.prog w = .ok (.tuple #[.agg #[.int .i64 0, .int .u8 0, .nilIface, .nilIface], .bool false]) w := by kernel_rfl
theorem as_Choose_Choose (x : Value) (w : World) : (Instr.typeAssert (.iface 214 x) 176 214 true).run Tryz.prog w = .ok (.tuple #[x, .bool true]) w := by kernel_rfl
set_option maxRecDepth 100000 in
set_option maxHeartbeats 400000 in
theorem gx_num (v : Int) : GxDoes (.num v) := by
  intro w b g h
  have a1 := as_Number_Get
  have a2 := as_Number_Operation
  have a3 := as_Number_Choose
  show Calls Tryz.prog _ #[PT b, .iface 206 (.agg #[.int .i64 v])] w _
  go_enter Tryz.func144, Tryz.ntmps144
  go_wp2_with fail
  go_end0
  exact ⟨rfl, h, But.refl _ _⟩
set_option maxRecDepth 100000 in
set_option maxHeartbeats 400000 in
theorem gx_use (n : Nm) : GxDoes (.use n) := by
  intro w b g h
  have a1 := as_Use_Get
  have a2 := as_Use_Operation
  have a3 := as_Use_Choose
  show Calls Tryz.prog _ #[PT b, .iface 208 (.agg #[.string n.text, .int .i64 n.kind, .bool n.sec, .int .i64 n.size, .int .i64 n.place])] w _
  go_enter Tryz.func144, Tryz.ntmps144
  go_wp2_with fail
  go_end0
  exact ⟨rfl, h, But.refl _ _⟩
set_option maxRecDepth 100000 in
set_option maxHeartbeats 1000000 in
theorem gx_get (p : Int) (n : Nm) (e : Ex) (hg : K.good e = true) (he : GxDoes e) : GxDoes (.get p n e) := by
  intro w b g h
  have a1 := as_Get_Get
  have hm := sec_method e hg
  have hna := sec_ahead e hg
  have hen := sec_enter e hg
  have hs := sec_c e hg
  unfold SecDoes at hs
  have hlt := h.lt
  have HK : Hid (K.gx (.get p n e) g = K.gx e (K.note p (K.sec e) g)) := rfl
  have hn := fun (w : World) (h' : GAt w b g) => note_c h' p (K.sec e)
  have hx := fun (w : World) (h' : GAt w b (K.note p (K.sec e) g)) => he w b _ h'
  show Calls Tryz.prog _ #[PT b, .iface 210 (.agg #[.int .i64 p, .string n.text, .int .i64 n.kind, .bool n.sec, .int .i64 n.size, .int .i64 n.place, exV e])] w _
  rw [exV_good hg] at hx ⊢
  generalize K.gx (.get p n e) g = G at *
  generalize K.gx e (K.note p (K.sec e) g) = G2 at *
  generalize K.note p (K.sec e) g = g1 at *
  generalize exT e = t at *
  generalize exP e = x at *
  generalize exM e = m at *
  generalize K.sec e = q at *
  obtain ⟨x0, x1, x2, x3, x4⟩ := n
  dsimp only at *
  go_enter Tryz.func144, Tryz.ntmps144
  go_upto_region 3 with fail
  have h0 := h.alloc (.cells #[.int .i64 p, .string x0, .int .i64 x1, .bool x2, .int .i64 x3, .int .i64 x4, .iface t x] 210 (0, 0))
  have bx := At.alloc_new w [.int .i64 p, .string x0, .int .i64 x1, .bool x2, .int .i64 x3, .int .i64 x4, .iface t x] 210
  have B0 : But b w (w.alloc (.cells #[.int .i64 p, .string x0, .int .i64 x1, .bool x2, .int .i64 x3, .int .i64 x4, .iface t x] 210 (0, 0))) := (But.refl b w).alloc _
  have nq : w.heap.size ≠ b := by omega
  go_region_with (first | (go_at_call 142; refine (hn _ h1).mono ?_; rintro y w2 ⟨rfl, h2, hb2⟩; have bx2 := bx1.of_block (hb2.block _ bx1.lt nq); have k6 := bx2.cell 6; simp only [List.getElem?_cons_zero, List.getElem?_cons_succ] at k6) | (refine (hs _).mono ?_; rintro y w1 ⟨rfl, hb1⟩; have h1 : GAt w1 b g := h0.of_block (hb1.block _ h0.lt); have bx1 : At w1 w.heap.size 210 [.int .i64 p, .string x0, .int .i64 x1, .bool x2, .int .i64 x3, .int .i64 x4, .iface t x] := bx.of_block (hb1.block _ bx.lt); have k0 := bx1.cell 0; simp only [List.getElem?_cons_zero] at k0))
  all_goals
    have B2 := (B0.drew.below hb1).trans hb2
    go_wp2_with fail
    refine (hx _ h2).mono ?_
    rintro y w3 ⟨rfl, h3, hb3⟩
    go_wp2_with fail
    go_end0
    rw [HK.out]
    exact ⟨rfl, h3, B2.trans hb3⟩
set_option maxRecDepth 100000 in
set_option maxHeartbeats 1000000 in
theorem gx_op (p : Int) (o : UInt8) (l r : Ex) (hg : K.good l = true) (hg2 : K.good r = true) (he : GxDoes l) (he2 : GxDoes r) : GxDoes (.op p o l r) := by
  intro w b g h
  have a1 := as_Operation_Get
  have a2 := as_Operation_Operation
  have hlt := h.lt
  have hso := fun w => sec_c (.op p o l r) (by rw [K.good, hg, hg2]; rfl) w
  have HS : Hid (K.sec (.op p o l r) = (K.sec l || K.sec r)) := rfl
  have HK : Hid (K.gx (.op p o l r) g = K.gx r (K.gx l (K.note p (o == 47 && (K.sec l || K.sec r)) g))) := rfl
  have hn := fun (w : World) (h' : GAt w b g) => note_c h' p (o == 47 && (K.sec l || K.sec r))
  have hx := fun (w : World) (h' : GAt w b (K.note p (o == 47 && (K.sec l || K.sec r)) g)) => he w b _ h'
  have hx2 := fun (w : World) (h' : GAt w b (K.gx l (K.note p (o == 47 && (K.sec l || K.sec r)) g))) => he2 w b _ h'
  have hso' : ∀ w, Calls Tryz.prog 178 #[.agg #[.int .i64 p, .int .u8 o.toNat, exV l, exV r]] w fun x w' => x = .returned (.bool (K.sec l || K.sec r)) ∧ Below w.heap.size w w' := hso
  have f1 := exV_form l
  have f2 := exV_form r
  show Calls Tryz.prog _ #[PT b, .iface 212 (.agg #[.int .i64 p, .int .u8 o.toNat, exV l, exV r])] w _
  rw [exV_good hg] at hx hso' ⊢
  rw [exV_good hg2] at hx2 hso' ⊢
  clear hso HS f1 f2
  generalize K.gx (.op p o l r) g = G at *
  generalize K.gx r (K.gx l (K.note p (o == 47 && (K.sec l || K.sec r)) g)) = G3 at *
  generalize K.gx l (K.note p (o == 47 && (K.sec l || K.sec r)) g) = G2 at *
  have ho : ((o.toNat : Int) == 47) = (o == 47) := kb o 47 (by decide)
  generalize K.note p (o == 47 && (K.sec l || K.sec r)) g = g1 at *
  generalize (K.sec l || K.sec r) = q at *
  generalize exT l = t at *
  generalize exP l = x at *
  generalize exT r = t2 at *
  generalize exP r = x2 at *
  have h0 := h.alloc (.cells #[.int .i64 p, .int .u8 o.toNat, .iface t x, .iface t2 x2] 212 (0, 0))
  have bx := At.alloc_new w [.int .i64 p, .int .u8 o.toNat, .iface t x, .iface t2 x2] 212
  have B0 : But b w (w.alloc (.cells #[.int .i64 p, .int .u8 o.toNat, .iface t x, .iface t2 x2] 212 (0, 0))) := (But.refl b w).alloc _
  have nq : w.heap.size ≠ b := by omega
  cases eo : (o == 47) with
  | true =>
    rw [eo] at ho hn
    rw [Bool.true_and] at hn
    go_enter Tryz.func144, Tryz.ntmps144
    go_upto_region 7 with fail
    go_region_with (first | (go_at_call 142; refine (hn _ h1).mono ?_; rintro y w2 ⟨rfl, h2, hb2⟩; have bx2 := bx1.of_block (hb2.block _ bx1.lt nq); have k2 := bx2.cell 2; simp only [List.getElem?_cons_zero, List.getElem?_cons_succ] at k2) | (go_at_call 178; refine (hso' _).mono ?_; rintro y w1 ⟨rfl, hb1⟩; have h1 : GAt w1 b g := h0.of_block (hb1.block _ h0.lt); have bx1 : At w1 w.heap.size 212 [.int .i64 p, .int .u8 o.toNat, .iface t x, .iface t2 x2] := bx.of_block (hb1.block _ bx.lt); have k0 := bx1.cell 0; simp only [List.getElem?_cons_zero] at k0))
    all_goals
      have B2 := (B0.drew.below hb1).trans hb2
      go_wp2_with fail
      refine (hx _ h2).mono ?_
      rintro y w3 ⟨rfl, h3, hb3⟩
      have bx3 := bx2.of_block (hb3.block _ bx2.lt nq)
      have k3 := bx3.cell 3
      simp only [List.getElem?_cons_zero, List.getElem?_cons_succ] at k3
      go_wp2_with fail
      refine (hx2 _ h3).mono ?_
      rintro y w4 ⟨rfl, h4, hb4⟩
      go_wp2_with fail
      go_end0
      rw [HK.out]
      exact ⟨rfl, h4, (B2.trans hb3).trans hb4⟩
  | false =>
    rw [eo] at ho hn
    rw [Bool.false_and] at hn
    go_enter Tryz.func144, Tryz.ntmps144
    go_upto_region 7 with fail
    go_region_with (first | (go_at_call 142; refine (hn _ h0.drew).mono ?_; rintro y w2 ⟨rfl, h2, hb2⟩; have bx2 := bx.of_block (hb2.block _ bx.lt nq); have k2 := bx2.cell 2; simp only [List.getElem?_cons_zero, List.getElem?_cons_succ] at k2))
    all_goals
      have B2 := B0.drew.trans hb2
      go_wp2_with fail
      refine (hx _ h2).mono ?_
      rintro y w3 ⟨rfl, h3, hb3⟩
      have bx3 := bx2.of_block (hb3.block _ bx2.lt nq)
      have k3 := bx3.cell 3
      simp only [List.getElem?_cons_zero, List.getElem?_cons_succ] at k3
      go_wp2_with fail
      refine (hx2 _ h3).mono ?_
      rintro y w4 ⟨rfl, h4, hb4⟩
      go_wp2_with fail
      go_end0
      rw [HK.out]
      exact ⟨rfl, h4, (B2.trans hb3).trans hb4⟩
end Go.Proofs.YtejbgcloblpbfaaGreatDoor
namespace Go.Proofs.YtejbgcloblpbfaaGreatDoor
open Go.RowKit
open K (Nm Ex)
set_option maxRecDepth 100000 in
set_option maxHeartbeats 1000000 in
theorem gx_cho (p : Int) (l r z : Ex) (hg : K.good l = true) (hg2 : K.good r = true) (hg3 : K.good z = true) (he : GxDoes l) (he2 : GxDoes r) (he3 : GxDoes z) : GxDoes (.cho p l r z) := by
  intro w b g h
  have a1 := as_Choose_Get
  have a2 := as_Choose_Operation
  have a3 := as_Choose_Choose
  have hlt := h.lt
  have HK : Hid (K.gx (.cho p l r z) g = K.gx z (K.gx r (K.gx l g))) := rfl
  have hx := fun (w : World) (h' : GAt w b g) => he w b _ h'
  have hx2 := fun (w : World) (h' : GAt w b (K.gx l g)) => he2 w b _ h'
  have hx3 := fun (w : World) (h' : GAt w b (K.gx r (K.gx l g))) => he3 w b _ h'
  show Calls Tryz.prog _ #[PT b, .iface 214 (.agg #[.int .i64 p, exV l, exV r, exV z])] w _
  rw [exV_good hg] at hx ⊢
  rw [exV_good hg2] at hx2 ⊢
  rw [exV_good hg3] at hx3 ⊢
  generalize K.gx (.cho p l r z) g = G at *
  generalize K.gx z (K.gx r (K.gx l g)) = G3 at *
  generalize K.gx r (K.gx l g) = G2 at *
  generalize K.gx l g = G1 at *
  generalize exT l = t at *
  generalize exP l = x at *
  generalize exT r = t2 at *
  generalize exP r = x2 at *
  generalize exT z = t3 at *
  generalize exP z = x3 at *
  have h0 := h.alloc (.cells #[.int .i64 p, .iface t x, .iface t2 x2, .iface t3 x3] 214 (0, 0))
  have bx := At.alloc_new w [.int .i64 p, .iface t x, .iface t2 x2, .iface t3 x3] 214
  have B0 : But b w (w.alloc (.cells #[.int .i64 p, .iface t x, .iface t2 x2, .iface t3 x3] 214 (0, 0))) := (But.refl b w).alloc _
  have nq : w.heap.size ≠ b := by omega
  go_enter Tryz.func144, Tryz.ntmps144
  go_wp2_with fail
  refine (hx _ h0).mono ?_
  rintro y w2 ⟨rfl, h2, hb2⟩
  have bx2 := bx.of_block (hb2.block _ bx.lt nq)
  have k2 := bx2.cell 2
  simp only [List.getElem?_cons_zero, List.getElem?_cons_succ] at k2
  go_wp2_with fail
  refine (hx2 _ h2).mono ?_
  rintro y w3 ⟨rfl, h3, hb3⟩
  have bx3 := bx2.of_block (hb3.block _ bx2.lt nq)
  have k3 := bx3.cell 3
  simp only [List.getElem?_cons_zero, List.getElem?_cons_succ] at k3
  go_wp2_with fail
  refine (hx3 _ h3).mono ?_
  rintro y w4 ⟨rfl, h4, hb4⟩
  go_wp2_with fail
  go_end0
  rw [HK.out]
  exact ⟨rfl, h4, ((B0.trans hb2).trans hb3).trans hb4⟩
theorem gx_c : ∀ e : Ex, K.good e = true → GxDoes e
  | .num v, _ => gx_num v
  | .use n, _ => gx_use n
  | .get p n e, h => gx_get p n e h (gx_c e h)
  | .op p o l r, h => by
    rw [K.good, Bool.and_eq_true] at h
    exact gx_op p o l r h.1 h.2 (gx_c l h.1) (gx_c r h.2)
  | .cho p q y n, h => by
    rw [K.good, Bool.and_eq_true, Bool.and_eq_true] at h
    exact gx_cho p q y n h.1.1 h.1.2 h.2 (gx_c q h.1.1) (gx_c y h.1.2) (gx_c n h.2)
  | .none, h => absurd h (by decide)
end Go.Proofs.YtejbgcloblpbfaaGreatDoor
namespace Go.Proofs.YtejbgcloblpbfaaGreatDoor
open Go.RowKit
open R (Tok Thing Nd PS)
theorem ret_str {a b : ByteArray} (h : a = b) : Ending.returned (.string a) = .returned (.string b) := by rw [h]
set_option maxHeartbeats 400000 in
theorem fresh_c {w : World} {b : Nat} {T : List Tok} {σ : PS} {r : RV} (h : Rep w b T σ r) (hT : R.Small T) (hn : σ.seen.length ≤ 1000) :
    Calls Tryz.prog 60 #[P b] w fun x w' => x = .returned (.string (R.freshS T σ)) ∧ Rep w' b T (R.fresh T σ) r ∧ Moves b w w' := by
  have c2 := h.c1 2 _ rfl
  unfold R.fresh R.freshS
  by_cases hE : σ.err = 0
  · have hE' : (σ.err == 0) = true := beq_yes hE
    rw [if_pos hE, if_pos hE]
    clear hE
    have ht := take_c h
    have nb := h.cells.lt
    have hsz := hT σ.i
    have hse := R.take_seen T σ
    generalize R.tk T σ.i = t at *
    obtain ⟨ts, tp⟩ := t
    dsimp only at *
    have isn := fun w => isName_c ts w (by unfold maxLen; omega)
    generalize R.take T σ = σ1 at *
    rw [← hse] at hn ⊢
    clear hse h
    by_cases hN : R.isName ts = true
    · rw [if_pos hN]
      rw [hN] at isn
      by_cases hF : 0 ≤ R.find ts.toList σ1.seen
      · rw [if_pos hF]
        go_enter Tryz.func60, Tryz.ntmps60
        go_wp2_with (go_at_call 59; refine ht.mono ?_; rintro x w1 ⟨rfl, hr, hm⟩)
        refine (isn _).mono ?_
        rintro x w2 ⟨rfl, o, rfl⟩
        go_wp2_with fail
        refine (find_c ((hr.alloc _).alloc _) hn ts).mono ?_
        rintro x w3 ⟨rfl, rfl⟩
        go_wp2_with fail
        refine (fail_c ((hr.alloc _).alloc _) 4 tp).mono ?_
        rintro x w4 ⟨rfl, hr2, hm2⟩
        have d0 := (((hr.box _ _).alloc _).moves hm2).c 0 _ rfl
        go_wp2_with fail
        go_ret
        exact ⟨rfl, hr2, ((hm.alloc _).alloc _).trans hm2⟩
      · rw [if_neg hF]
        go_enter Tryz.func60, Tryz.ntmps60
        go_wp2_with (go_at_call 59; refine ht.mono ?_; rintro x w1 ⟨rfl, hr, hm⟩)
        refine (isn _).mono ?_
        rintro x w2 ⟨rfl, o, rfl⟩
        go_wp2_with fail
        refine (find_c ((hr.alloc _).alloc _) hn ts).mono ?_
        rintro x w3 ⟨rfl, rfl⟩
        go_wp2_with fail
        go_ret
        exact ⟨rfl, (hr.alloc _).alloc _, (hm.alloc _).alloc _⟩
    · rw [if_neg hN]
      rw [Bool.not_eq_true] at hN
      rw [hN] at isn
      go_enter Tryz.func60, Tryz.ntmps60
      go_wp2_with (go_at_call 59; refine ht.mono ?_; rintro x w1 ⟨rfl, hr, hm⟩)
      refine (isn _).mono ?_
      rintro x w2 ⟨rfl, o, rfl⟩
      go_wp2_with fail
      refine (fail_c ((hr.alloc _).alloc _) 2 tp).mono ?_
      rintro x w4 ⟨rfl, hr2, hm2⟩
      have d0 := (((hr.box _ _).alloc _).moves hm2).c 0 _ rfl
      go_wp2_with fail
      go_ret
      exact ⟨rfl, hr2, ((hm.alloc _).alloc _).trans hm2⟩
  · have hE' := beq_no hE
    rw [if_neg hE, if_neg hE]
    clear hE
    go_enter Tryz.func60, Tryz.ntmps60
    go_wp2_with fail
    go_ret
    exact ⟨rfl, h, Moves.refl _ _⟩
theorem rput5 {w w0 : World} {b : Nat} {T : List Tok} {σ : PS} {r : RV} {k : Nat} {t : TypeId} {a0 a1 a2 a3 a4 : Value} (h : Rep w b T σ r) (B : Box w b k t [a0, a1, a2, a3, a4])
    (m : Moves b w0 w) (hk : w0.heap.size ≤ k) (v0 v1 v2 v3 v4 : Value) :
    Rep (((((w.setCell ⟨k, 0, none⟩ v0).setCell ⟨k, 1, none⟩ v1).setCell ⟨k, 2, none⟩ v2).setCell ⟨k, 3, none⟩ v3).setCell ⟨k, 4, none⟩ v4) b T σ r ∧
    Moves b w0 (((((w.setCell ⟨k, 0, none⟩ v0).setCell ⟨k, 1, none⟩ v1).setCell ⟨k, 2, none⟩ v2).setCell ⟨k, 3, none⟩ v3).setCell ⟨k, 4, none⟩ v4) :=
  ⟨((((h.set_box B 0 v0).set_box (B.set 0 v0) 1 v1).set_box ((B.set 0 v0).set 1 v1) 2 v2).set_box (((B.set 0 v0).set 1 v1).set 2 v2) 3 v3).set_box ((((B.set 0 v0).set 1 v1).set 2 v2).set 3 v3) 4 v4,
    ((((m.set_box B hk 0 v0).set_box (B.set 0 v0) hk 1 v1).set_box ((B.set 0 v0).set 1 v1) hk 2 v2).set_box (((B.set 0 v0).set 1 v1).set 2 v2) hk 3 v3).set_box ((((B.set 0 v0).set 1 v1).set 2 v2).set 3 v3) hk 4 v4⟩
end Go.Proofs.YtejbgcloblpbfaaGreatDoor
namespace Go.Proofs.YtejbgcloblpbfaaGreatDoor
open Go.RowKit
open R (Tok Thing Nd PS)
set_option maxHeartbeats 1000000 in
theorem known_c {w : World} {b : Nat} {T : List Tok} {σ : PS} {r : RV} (h : Rep w b T σ r) (hT : R.Small T) (hn : σ.seen.length ≤ 1000) (ar se : Bool) :
    Calls Tryz.prog 77 #[P b, .bool ar, .bool se] w fun x w' => x = .returned (.agg (thingCells (R.knownT T ar se σ)).toArray) ∧ Rep w' b T (R.known T ar se σ) r ∧ Moves b w w' := by
  have c2 := h.c1 2 _ rfl
  unfold R.known R.knownT
  by_cases hE : σ.err = 0
  · have hE' : (σ.err == 0) = true := beq_yes hE
    rw [if_pos hE]
    simp only [hE, true_and]
    clear hE
    have ht := take_c (h.alloc (.cells #[.string ⟨#[]⟩, .int .i64 0, .bool false, .int .i64 0, .int .i64 0] 111))
    have bx := h.box [.string ⟨#[]⟩, .int .i64 0, .bool false, .int .i64 0, .int .i64 0] 111
    have nb := h.cells.lt
    have hsz := hT σ.i
    have hse := R.take_seen T σ
    generalize R.tk T σ.i = t at *
    obtain ⟨ts, tp⟩ := t
    dsimp only at *
    have isn := fun w => isName_c ts w (by unfold maxLen; omega)
    generalize R.take T σ = σ1 at *
    rw [← hse] at hn ⊢
    clear hse
    by_cases hN : R.isName ts = true
    · rw [if_pos hN]
      simp only [hN, true_and]
      rw [hN] at isn
      have fi := fun (w : World) (hr : Rep w b T σ1 r) => find_c hr hn ts
      have k1 := R.find_lt ts.toList σ1.seen
      have k2 := R.find_ge ts.toList σ1.seen
      unfold R.wrong
      generalize R.find ts.toList σ1.seen = k at *
      by_cases hk : k < 0
      · simp only [hk, decide_true, Bool.true_or, if_true, if_false, Bool.true_eq_false]
        go_enter Tryz.func77, Tryz.ntmps77
        go_wp2_with (go_at_call 59; refine ht.mono ?_; rintro x w1 ⟨rfl, hr, hm⟩)
        refine (isn _).mono ?_
        rintro x w2 ⟨rfl, o, rfl⟩
        go_wp2_with fail
        refine (fi _ ((hr.alloc _).alloc _)).mono ?_
        rintro x w3 ⟨rfl, rfl⟩
        go_wp2_with fail
        refine (fail_c ((hr.alloc _).alloc _) 3 tp).mono ?_
        rintro x w4 ⟨rfl, hr2, hm2⟩
        have B := (((bx.moves hm).alloc _).alloc _).moves hm2
        have d0 := B.c 0 _ rfl
        have d1 := B.c 1 _ rfl
        have d2 := B.c 2 _ rfl
        have d3 := B.c 3 _ rfl
        have d4 := B.c 4 _ rfl
        have f0 := B.f 0
        have f1 := B.f 1
        have f2 := B.f 2
        have f3 := B.f 3
        have f4 := B.f 4
        go_wp2_with fail
        have fin := rput5 hr2 B ((((((Moves.refl b w).alloc _).trans hm).alloc _).alloc _).trans hm2) (Nat.le_refl _) (.string ⟨#[]⟩) (.int .i64 0) (.bool false) (.int .i64 0) (.int .i64 0)
        exact bodyPost_ret (v := .agg (thingCells R.noThing).toArray) (by simp [results, Tryz.results77, go_sem, thingCells, R.noThing, d0, d1, d2, d3, d4]) rfl ⟨rfl, fin.1, fin.2⟩
      · obtain ⟨n, rfl⟩ := Int.eq_ofNat_of_zero_le (by omega : 0 ≤ k)
        have hnl : n < σ1.seen.length := by omega
        have hth : R.thingAt σ1.seen (n : Int) = σ1.seen[n] := by simp [R.thingAt, hnl]
        rw [hth]
        have hk' : decide ((n : Int) < 0) = false := by simp
        simp only [hk', Bool.false_or]
        generalize hq : σ1.seen[n] = q at *
        clear hth hk'
        by_cases hw : ((q.kind == 2) != ar || (se && q.kind == 3)) = true
        · rw [if_pos hw, if_neg (by rw [hw]; simp)]
          cases ar <;> cases se <;> cases e2 : (q.kind == 2) <;> cases e3 : (q.kind == 3) <;> rw [e2, e3] at hw <;> first | (exact absurd hw (by decide)) | (exact absurd ((eq_of_beq e2).symm.trans (eq_of_beq e3)) (by decide)) | skip
          all_goals
            have HQ := hide hq
            clear hq hw
            go_enter Tryz.func77, Tryz.ntmps77
            go_wp2_with (go_at_call 59; refine ht.mono ?_; rintro x w1 ⟨rfl, hr, hm⟩)
            refine (isn _).mono ?_
            rintro x w2 ⟨rfl, o, rfl⟩
            go_wp2_with fail
            refine (fi _ ((hr.alloc _).alloc _)).mono ?_
            rintro x w3 ⟨rfl, rfl⟩
            rcases hr.things with ⟨_, h0⟩ | ⟨g, cap, hS, hg, hc⟩
            · omega
            have e1 := hc n hnl 1 (by omega)
            rw [HQ.out] at e1
            have e1' : w1.cell? ⟨g, n * 5 + 1, none⟩ = some (.int .i64 q.kind) := e1
            have c4 := hr.c1 4 _ rfl
            rw [hS] at c4
            clear e1
            have nb1 := hr.cells.lt
            clear hc
            go_wp2_with fail
            refine (fail_c ((hr.alloc _).alloc _) 3 tp).mono ?_
            rintro x w4 ⟨rfl, hr2, hm2⟩
            have B := (((bx.moves hm).alloc _).alloc _).moves hm2
            have d0 := B.c 0 _ rfl
            have d1 := B.c 1 _ rfl
            have d2 := B.c 2 _ rfl
            have d3 := B.c 3 _ rfl
            have d4 := B.c 4 _ rfl
            have f0 := B.f 0
            have f1 := B.f 1
            have f2 := B.f 2
            have f3 := B.f 3
            have f4 := B.f 4
            go_wp2_with fail
            have fin := rput5 hr2 B ((((((Moves.refl b w).alloc _).trans hm).alloc _).alloc _).trans hm2) (Nat.le_refl _) (.string ⟨#[]⟩) (.int .i64 0) (.bool false) (.int .i64 0) (.int .i64 0)
            exact bodyPost_ret (v := .agg (thingCells R.noThing).toArray) (by simp [results, Tryz.results77, go_sem, thingCells, R.noThing, d0, d1, d2, d3, d4]) rfl ⟨rfl, fin.1, fin.2⟩
        · rw [if_neg hw, if_pos (by simpa using hw)]
          cases ar <;> cases se <;> cases e2 : (q.kind == 2) <;> cases e3 : (q.kind == 3) <;> rw [e2, e3] at hw <;> first | (exact absurd rfl hw) | (exact absurd ((eq_of_beq e2).symm.trans (eq_of_beq e3)) (by decide)) | skip
          all_goals
            have HQ := hide hq
            clear hq hw
            go_enter Tryz.func77, Tryz.ntmps77
            go_wp2_with (go_at_call 59; refine ht.mono ?_; rintro x w1 ⟨rfl, hr, hm⟩)
            refine (isn _).mono ?_
            rintro x w2 ⟨rfl, o, rfl⟩
            go_wp2_with fail
            refine (fi _ ((hr.alloc _).alloc _)).mono ?_
            rintro x w3 ⟨rfl, rfl⟩
            rcases hr.things with ⟨_, h0⟩ | ⟨g, cap, hS, hg, hc⟩
            · omega
            have e1 := hc n hnl 1 (by omega)
            rw [HQ.out] at e1
            have e1' : w1.cell? ⟨g, n * 5 + 1, none⟩ = some (.int .i64 q.kind) := e1
            have c4 := hr.c1 4 _ rfl
            rw [hS] at c4
            clear e1
            have nb1 := hr.cells.lt
            have g0 := hc n hnl 0 (by omega)
            have g2 := hc n hnl 2 (by omega)
            have g3 := hc n hnl 3 (by omega)
            have g4 := hc n hnl 4 (by omega)
            rw [HQ.out] at g0 g2 g3 g4
            have g0' : w1.cell? ⟨g, n * 5, none⟩ = some (.string q.name) := g0
            have g2' : w1.cell? ⟨g, n * 5 + 2, none⟩ = some (.bool q.sec) := g2
            have g3' : w1.cell? ⟨g, n * 5 + 3, none⟩ = some (.int .i64 q.pos) := g3
            have g4' : w1.cell? ⟨g, n * 5 + 4, none⟩ = some (.int .i64 q.size) := g4
            clear g0 g2 g3 g4 hc
            have B := bx.moves hm
            have d0 := B.c 0 _ rfl
            have d1 := B.c 1 _ rfl
            have d2 := B.c 2 _ rfl
            have d3 := B.c 3 _ rfl
            have d4 := B.c 4 _ rfl
            have f0 := B.f 0
            have f1 := B.f 1
            have f2 := B.f 2
            have f3 := B.f 3
            have f4 := B.f 4
            have nk := B.here.lt
            go_wp2_with fail
            have fin := rput5 hr B (((Moves.refl b w).alloc _).trans hm) (Nat.le_refl _) (.string q.name) (.int .i64 q.kind) (.bool q.sec) (.int .i64 q.pos) (.int .i64 q.size)
            exact bodyPost_ret (v := .agg (thingCells q).toArray) (by simp [results, Tryz.results77, go_sem, thingCells, d0, d1, d2, d3, d4, nk]) rfl ⟨rfl, (fin.1.alloc _).alloc _, (fin.2.alloc _).alloc _⟩
    · rw [if_neg hN, if_neg (by simp [hN])]
      rw [Bool.not_eq_true] at hN
      rw [hN] at isn
      go_enter Tryz.func77, Tryz.ntmps77
      go_wp2_with (go_at_call 59; refine ht.mono ?_; rintro x w1 ⟨rfl, hr, hm⟩)
      refine (isn _).mono ?_
      rintro x w2 ⟨rfl, o, rfl⟩
      go_wp2_with fail
      refine (fail_c ((hr.alloc _).alloc _) 2 tp).mono ?_
      rintro x w4 ⟨rfl, hr2, hm2⟩
      have B := (((bx.moves hm).alloc _).alloc _).moves hm2
      have d0 := B.c 0 _ rfl
      have d1 := B.c 1 _ rfl
      have d2 := B.c 2 _ rfl
      have d3 := B.c 3 _ rfl
      have d4 := B.c 4 _ rfl
      have f0 := B.f 0
      have f1 := B.f 1
      have f2 := B.f 2
      have f3 := B.f 3
      have f4 := B.f 4
      go_wp2_with fail
      have fin := rput5 hr2 B ((((((Moves.refl b w).alloc _).trans hm).alloc _).alloc _).trans hm2) (Nat.le_refl _) (.string ⟨#[]⟩) (.int .i64 0) (.bool false) (.int .i64 0) (.int .i64 0)
      exact bodyPost_ret (v := .agg (thingCells R.noThing).toArray) (by simp [results, Tryz.results77, go_sem, thingCells, R.noThing, d0, d1, d2, d3, d4]) rfl ⟨rfl, fin.1, fin.2⟩
  · have hE' := beq_no hE
    rw [if_neg hE, if_neg (by simp [hE])]
    have nb := h.cells.lt
    clear hE
    go_enter Tryz.func77, Tryz.ntmps77
    go_wp2_with fail
    exact bodyPost_ret (v := .agg (thingCells R.noThing).toArray) (by simp [results, Tryz.results77, go_sem, thingCells, R.noThing]) rfl ⟨rfl, h.alloc _, (Moves.refl b w).alloc _⟩
end Go.Proofs.YtejbgcloblpbfaaGreatDoor
