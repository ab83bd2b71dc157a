import Derived.Test.YtejbgcloblpbfaaGreatDoorR16
import Derived.Deep.RegionHeld
namespace Go.Proofs.YtejbgcloblpbfaaGreatDoor
open Go.RowKit
open K (Nm Ex Do)
set_option maxRecDepth 100000 in
set_option maxHeartbeats 2000000 in
theorem gd_putF (p : Int) (n : Nm) (i e : Ex) (hgi : K.good i = true) (hg : K.good e = true) (hq : K.sec i = false) : GdDoes (.put p n i e) := by
  intro B w b g u hid h hd hB
  unfold DoIs at hd
  subst hd
  have a1 := ad_Put_Set
  have a2 := ad_Put_Put
  have hlt := h.lt
  have hm := sec_method i hgi
  have hna := sec_ahead i hgi
  have hen := sec_enter i hgi
  have hs := sec_c i hgi
  unfold SecDoes at hs
  have HK : Hid (K.gd hid (.put p n i e) g = K.gx e (K.gx i (K.note p (K.sec i || K.tells n e hid) g))) := by show _ = _; rw [K.gd]
  have ht := fun w => tells_c n e hid hg w
  have hn := fun (w : World) (h' : GAt w b g) => note_c h' p (K.sec i || K.tells n e hid)
  have hx := fun (w : World) (h' : GAt w b (K.note p (K.sec i || K.tells n e hid) g)) => gx_c i hgi w b _ h'
  have hx2 := fun (w : World) (h' : GAt w b (K.gx i (K.note p (K.sec i || K.tells n e hid) g))) => gx_c e hg w b _ h'
  rw [exV_good hgi] at hx ⊢
  rw [exV_good hg] at hx2 ht ⊢
  unfold nmV at ht
  generalize K.gd hid (.put p n i e) g = G at *
  generalize K.gx e (K.gx i (K.note p (K.sec i || K.tells n e hid) g)) = G3 at *
  generalize K.gx i (K.note p (K.sec i || K.tells n e hid) g) = G2 at *
  generalize K.note p (K.sec i || K.tells n e hid) g = g1 at *
  generalize K.tells n e hid = q at *
  generalize K.sec i = qi at *
  generalize exT i = ti at *
  generalize exP i = xi at *
  generalize exM i = mi at *
  generalize exT e = t at *
  generalize exP e = x at *
  obtain ⟨x0, x1, x2, x3, x4⟩ := n
  dsimp only at *
  have h0 := h.alloc (.cells #[.int .i64 p, .string x0, .int .i64 x1, .bool x2, .int .i64 x3, .int .i64 x4, .iface ti xi, .iface t x] 181 (0, 0))
  have bx := At.alloc_new w [.int .i64 p, .string x0, .int .i64 x1, .bool x2, .int .i64 x3, .int .i64 x4, .iface ti xi, .iface t x] 181
  have B0 : But b w (w.alloc (.cells #[.int .i64 p, .string x0, .int .i64 x1, .bool x2, .int .i64 x3, .int .i64 x4, .iface ti xi, .iface t x] 181 (0, 0))) := (But.refl b w).alloc _
  have nq : w.heap.size ≠ b := by omega
  subst hq
  rw [Bool.false_or] at hn
  go_enter Tryz.func108, Tryz.ntmps108
  go_upto_region 7 with fail
  first | go_region_with (first | (go_at_call 142; refine (hn _ h1').mono ?_; rintro y w2 ⟨rfl, h2, hb2⟩; have bx2 := bx1'.of_block (hb2.block _ bx1'.lt nq); have k6 := bx2.cell 6; simp only [List.getElem?_cons_zero, List.getElem?_cons_succ] at k6) | (go_at_call 143; refine (ht _).mono ?_; rintro y w1' ⟨rfl, hb1'⟩; have h1' : GAt w1' b g := h1.of_block (hb1'.block _ h1.lt); have bx1' := bx1.of_block (hb1'.block _ bx1.lt); have k0' := bx1'.cell 0; simp only [List.getElem?_cons_zero] at k0') | (refine (hs _).mono ?_; rintro y w1 ⟨rfl, hb1⟩; have h1 : GAt w1 b g := h0.of_block (hb1.block _ h0.lt); have bx1 : At w1 w.heap.size 181 [.int .i64 p, .string x0, .int .i64 x1, .bool x2, .int .i64 x3, .int .i64 x4, .iface ti xi, .iface t x] := bx.of_block (hb1.block _ bx.lt); have k0 := bx1.cell 0; have k1 := bx1.cell 1; have k2 := bx1.cell 2; have k3 := bx1.cell 3; have k4 := bx1.cell 4; have k5 := bx1.cell 5; have k7 := bx1.cell 7; simp only [List.getElem?_cons_zero, List.getElem?_cons_succ] at k0 k1 k2 k3 k4 k5 k7)) | fail
  all_goals
    have B2 := ((B0.drew.below hb1).below hb1').trans hb2
    go_wp2_with fail
    refine (hx _ h2).mono ?_
    rintro y w3 ⟨rfl, h3, hb3⟩
    have bx3 := bx2.of_block (hb3.block _ bx2.lt nq)
    have k7 := bx3.cell 7
    simp only [List.getElem?_cons_zero, List.getElem?_cons_succ] at k7
    go_wp2_with fail
    refine (hx2 _ h3).mono ?_
    rintro y w4 ⟨rfl, h4, hb4⟩
    go_wp2_with fail
    go_end0
    rw [HK.out]
    exact ⟨rfl, h4, (B2.trans hb3).trans hb4⟩
end Go.Proofs.YtejbgcloblpbfaaGreatDoor
namespace Go.Proofs.YtejbgcloblpbfaaGreatDoor
open Go.RowKit
open K (Nm Ex Do)
theorem op_enter (o : UInt8) (ho : V.isOp o = true) (a b : Int) (w : World) : (callFunc (V.fn o) #[.int .i64 a, .int .i64 b]).run Tryz.prog w = .ok (.enter (V.fn o) #[.int .i64 a, .int .i64 b]) w := by
  unfold V.isOp at ho
  simp only [Bool.or_eq_true, beq_iff_eq] at ho
  rcases ho with ((((((rfl | rfl) | rfl) | rfl) | rfl) | rfl) | rfl) | rfl <;> kernel_rfl
set_option maxRecDepth 100000 in
set_option maxHeartbeats 10000000 in
theorem ev_op (p : Int) (o : UInt8) (l r : Ex) (hl : EvDoes l) (hr : EvDoes r) : EvDoes (.op p o l r) := by
  intro w b g tb W h hw
  have a1 := as_Operation_Number
  have a2 := as_Operation_Use
  have a3 := as_Operation_Get
  have a4 := as_Operation_Operation
  unfold V.wfE at hw
  obtain ⟨ho, wl, wr⟩ := hw
  have hx := fun (w : World) (h' : RAt w b g tb W) => hl w b g tb W h' wl
  have hx2 := fun (w : World) (h' : RAt w b g tb W) => hr w b g tb W h' wr
  have hop := fun (w : World) => opfn_c o ho (V.ev W l) (V.ev W r) w
  have hen := fun (w : World) => op_enter o ho (V.ev W l) (V.ev W r) w
  have HV : Hid (V.ev W (.op p o l r) = V.opf o (V.ev W l) (V.ev W r)) := rfl
  rw [HV.out]
  clear HV
  have ho256 : (o.toNat : Int) < 256 := by have := o.toNat_lt; omega
  have hfn := fun (w : World) (h' : RAt w b g tb W) => show w.cell? ⟨b, 1 + o.toNat, none⟩ = some (.func (.func (V.fn o)) #[] #[]) by
    rw [Nat.add_comm, h'.cells.cell, List.getElem?_cons_succ]; exact h'.tab.fn o ho
  show Calls Tryz.prog _ #[PT b, .iface 212 (.agg #[.int .i64 p, .int .u8 o.toNat, exV l, exV r])] w _
  rw [exV_good (V.wf_good wl)] at hx ⊢
  rw [exV_good (V.wf_good wr)] at hx2 ⊢
  clear wl wr ho
  generalize V.opf o (V.ev W l) (V.ev W r) = q at *
  generalize V.ev W l = vl at *
  generalize V.ev W r = vr at *
  generalize V.fn o = m at *
  generalize o.toNat = oi at *
  generalize exT l = t at *
  generalize exP l = x at *
  generalize exT r = t2 at *
  generalize exP r = x2 at *
  have B0 : Below w.heap.size w (w.alloc (.cells #[.int .i64 p, .int .u8 oi, .iface t x, .iface t2 x2] 212 (0, 0))) := (Below.refl _ _).alloc (Nat.le_refl _) _
  have rr := h.below B0
  have bx := At.alloc_new w [.int .i64 p, .int .u8 oi, .iface t x, .iface t2 x2] 212
  have lb := h.cells.lt
  go_enter Tryz.func112, Tryz.ntmps112
  go_upto_region 13 with fail
  generalize w.alloc (.cells #[.int .i64 p, .int .u8 oi, .iface t x, .iface t2 x2] 212 (0, 0)) = w0 at *
  have hlL := bx.lt
  generalize hLL : w.heap.size = L at *
  have KS : ∀ w', Below w0.heap.size w0 w' → (w'.cell? ⟨L, 1, none⟩ = some (.int .u8 oi) ∧ w'.cell? ⟨L, 2, none⟩ = some (.iface t x) ∧ w'.cell? ⟨L, 3, none⟩ = some (.iface t2 x2) ∧ w'.cell? ⟨b, 1 + oi, none⟩ = some (.func (.func m) #[] #[])) := fun w' hb =>
    ⟨(hb.cell (p := ⟨L, 1, none⟩) hlL).trans (bx.cell 1), (hb.cell (p := ⟨L, 2, none⟩) hlL).trans (bx.cell 2), (hb.cell (p := ⟨L, 3, none⟩) hlL).trans (bx.cell 3), hfn _ (rr.below hb)⟩
  have hx' := fun (w' : World) (hb : Below w0.heap.size w0 w') => hx w' (rr.below hb)
  have hx2' := fun (w' : World) (hb : Below w0.heap.size w0 w') => hx2 w' (rr.below hb)
  have Bd : Below w0.heap.size w0 w0.drew := ⟨rfl, rfl, rfl, Nat.le_refl _, fun _ _ => rfl⟩
  clear hx hx2 hfn bx rr
  go_region_held (fun w' => w'.cell? ⟨L, 1, none⟩ = some (.int .u8 oi) ∧ w'.cell? ⟨L, 2, none⟩ = some (.iface t x) ∧ w'.cell? ⟨L, 3, none⟩ = some (.iface t2 x2) ∧ w'.cell? ⟨b, 1 + oi, none⟩ = some (.func (.func m) #[] #[])) (first | exact KS _ B2 | exact KS _ B1 | exact KS _ Bd) (first | (go_at_call_of 112 (Value.iface t2 x2); refine (hx2' _ B1).mono ?_; rintro z w2 ⟨rfl, hb2⟩; have B2 := B1.trans (hb2.mono B1.size)) | (go_at_call_of 112 (Value.iface t x); refine (hx' _ Bd).mono ?_; rintro z w1 ⟨rfl, hb1⟩; have B1 := Bd.trans (hb1.mono Bd.size)) | (refine (hop _).mono ?_; rintro z w3 ⟨rfl, rfl⟩))
  all_goals
    go_wp2_with fail
    go_ret
    exact ⟨rfl, by rw [hLL]; exact B0.trans (B2.mono (Nat.le_of_lt hlL))⟩
end Go.Proofs.YtejbgcloblpbfaaGreatDoor
