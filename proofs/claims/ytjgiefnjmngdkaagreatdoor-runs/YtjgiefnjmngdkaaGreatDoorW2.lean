import Derived.Test.YtjgiefnjmngdkaaGreatDoorW1
import Derived.Deep.RegionHeld
import Derived.Test.YtjgiefnjmngdkaaGreatDoorM27
import Derived.Deep.LoopGhost
import Derived.Test.YtjgiefnjmngdkaaGreatDoorM03
import Derived.Deep.OwnRows
namespace Go.Proofs.YtjgiefnjmngdkaaGreatDoor
open Go.RowKit
open K (Nm Ex Do)

theorem op_enter (o : UInt8) (ho : V.isOp o = true) (a b : Int) (w : World) : (callFunc (V.fn o) #[.int .i64 a, .int .i64 b]).run Tryz.prog w = .ok (.enter (V.fn o) #[.int .i64 a, .int .i64 b]) w := by
  unfold V.isOp at ho
  simp only [Bool.or_eq_true, beq_iff_eq] at ho
  rcases ho with ((((((rfl | rfl) | rfl) | rfl) | rfl) | rfl) | rfl) | rfl <;> kernel_rfl

set_option maxRecDepth 100000 in
set_option maxHeartbeats 10000000 in
theorem ev_op (p : Int) (o : UInt8) (l r : Ex) (hl : EvDoes l) (hr : EvDoes r) : EvDoes (.op p o l r) := by
  intro w b g tb W h hw
  have a1 := as_Operation_Number
  have a2 := as_Operation_Use
  have a3 := as_Operation_Get
  have a4 := as_Operation_Operation
  unfold V.wfE at hw
  obtain ⟨ho, wl, wr⟩ := hw
  have hx := fun (w : World) (h' : RAt w b g tb W) => hl w b g tb W h' wl
  have hx2 := fun (w : World) (h' : RAt w b g tb W) => hr w b g tb W h' wr
  have hop := fun (w : World) => opfn_c o ho (V.ev W l) (V.ev W r) w
  have hen := fun (w : World) => op_enter o ho (V.ev W l) (V.ev W r) w
  have HV : Hid (V.ev W (.op p o l r) = V.opf o (V.ev W l) (V.ev W r)) := rfl
  rw [HV.out]
  clear HV
  have ho256 : (o.toNat : Int) < 256 := by have := o.toNat_lt; omega
  have hfn := fun (w : World) (h' : RAt w b g tb W) => show w.cell? ⟨b, 1 + o.toNat, none⟩ = some (.func (.func (V.fn o)) #[] #[]) by
    rw [Nat.add_comm, h'.cells.cell, List.getElem?_cons_succ]; exact h'.tab.fn o ho
  show Calls Tryz.prog _ #[PT b, .iface 212 (.agg #[.int .i64 p, .int .u8 o.toNat, exV l, exV r])] w _
  rw [exV_good (V.wf_good wl)] at hx ⊢
  rw [exV_good (V.wf_good wr)] at hx2 ⊢
  clear wl wr ho
  generalize V.opf o (V.ev W l) (V.ev W r) = q at *
  generalize V.ev W l = vl at *
  generalize V.ev W r = vr at *
  generalize V.fn o = m at *
  generalize o.toNat = oi at *
  generalize exT l = t at *
  generalize exP l = x at *
  generalize exT r = t2 at *
  generalize exP r = x2 at *
  have B0 : Below w.heap.size w (w.alloc (.cells #[.int .i64 p, .int .u8 oi, .iface t x, .iface t2 x2] 212 (0, 0))) := (Below.refl _ _).alloc (Nat.le_refl _) _
  have rr := h.below B0
  have bx := At.alloc_new w [.int .i64 p, .int .u8 oi, .iface t x, .iface t2 x2] 212
  have lb := h.cells.lt
  go_enter Tryz.func112, Tryz.ntmps112
  go_upto_region 13 with fail
  generalize w.alloc (.cells #[.int .i64 p, .int .u8 oi, .iface t x, .iface t2 x2] 212 (0, 0)) = w0 at *
  have hlL := bx.lt
  generalize hLL : w.heap.size = L at *
  have KS : ∀ w', Below w0.heap.size w0 w' → (w'.cell? ⟨L, 1, none⟩ = some (.int .u8 oi) ∧ w'.cell? ⟨L, 2, none⟩ = some (.iface t x) ∧ w'.cell? ⟨L, 3, none⟩ = some (.iface t2 x2) ∧ w'.cell? ⟨b, 1 + oi, none⟩ = some (.func (.func m) #[] #[])) := fun w' hb =>
    ⟨(hb.cell (p := ⟨L, 1, none⟩) hlL).trans (bx.cell 1), (hb.cell (p := ⟨L, 2, none⟩) hlL).trans (bx.cell 2), (hb.cell (p := ⟨L, 3, none⟩) hlL).trans (bx.cell 3), hfn _ (rr.below hb)⟩
  have hx' := fun (w' : World) (hb : Below w0.heap.size w0 w') => hx w' (rr.below hb)
  have hx2' := fun (w' : World) (hb : Below w0.heap.size w0 w') => hx2 w' (rr.below hb)
  have Bd : Below w0.heap.size w0 w0.drew := ⟨rfl, rfl, rfl, Nat.le_refl _, fun _ _ => rfl⟩
  clear hx hx2 hfn bx rr
  go_region_held (fun w' => w'.cell? ⟨L, 1, none⟩ = some (.int .u8 oi) ∧ w'.cell? ⟨L, 2, none⟩ = some (.iface t x) ∧ w'.cell? ⟨L, 3, none⟩ = some (.iface t2 x2) ∧ w'.cell? ⟨b, 1 + oi, none⟩ = some (.func (.func m) #[] #[])) (first | exact KS _ B2 | exact KS _ B1 | exact KS _ Bd) (first | (go_at_call_of 112 (Value.iface t2 x2); refine (hx2' _ B1).mono ?_; rintro z w2 ⟨rfl, hb2⟩; have B2 := B1.trans (hb2.mono B1.size)) | (go_at_call_of 112 (Value.iface t x); refine (hx' _ Bd).mono ?_; rintro z w1 ⟨rfl, hb1⟩; have B1 := Bd.trans (hb1.mono Bd.size)) | (refine (hop _).mono ?_; rintro z w3 ⟨rfl, rfl⟩))
  all_goals
    go_wp2_with fail
    go_ret
    exact ⟨rfl, by rw [hLL]; exact B0.trans (B2.mono (Nat.le_of_lt hlL))⟩
end Go.Proofs.YtjgiefnjmngdkaaGreatDoor
namespace Go.Proofs.YtjgiefnjmngdkaaGreatDoor
open Go.RowKit
open K (Nm Ex Do)

/-- So many rounds, the counter's word set ahead of each. -/
def V.rounds (f : List Int → List Int) (k : Nat) : Nat → Nat → List Int → List Int
  | _, 0, W => W
  | i, m + 1, W => V.rounds f k (i + 1) m (f (W.set k (i : Int)))
def V.times (v : Int) : Nat := if v < 0 then 0 else if 5 < v then 5 else v.toNat
mutual
/-- What a Do makes of the words. -/
def V.rd : Do → List Int → List Int
  | .set _ n e, W => W.set n.place.toNat (V.ev W e)
  | .put _ n i e, W => W.set (n.place + V.md (V.ev W i) n.size).toNat (V.ev W e)
  | .ifs _ q y n, W => if V.ev W q = 0 then V.rds n W else V.rds y W
  | .fors _ n r l, W => V.rounds (fun W => V.rds l W) n.place.toNat 0 (V.times (V.ev W r)) W
  | .none, W => W
def V.rds : List Do → List Int → List Int
  | [], W => W
  | d :: l, W => V.rds l (V.rd d W)
end
mutual
def V.wfD (N : Nat) : Do → Prop
  | .set _ n e => 0 ≤ n.place ∧ n.place < N ∧ V.wfE N e
  | .put _ n i e => 0 ≤ n.place ∧ 1 ≤ n.size ∧ n.size ≤ 6 ∧ n.place + n.size ≤ N ∧ V.wfE N i ∧ V.wfE N e
  | .ifs _ q y n => V.wfE N q ∧ V.wfL N y ∧ V.wfL N n
  | .fors _ n r l => 0 ≤ n.place ∧ n.place < N ∧ V.wfE N r ∧ V.wfL N l
  | .none => False
def V.wfL (N : Nat) : List Do → Prop
  | [] => True
  | d :: l => V.wfD N d ∧ V.wfL N l
end
theorem V.rounds_len {f : List Int → List Int} (hf : ∀ W, (f W).length = W.length) (k : Nat) : ∀ (m i : Nat) (W : List Int), (V.rounds f k i m W).length = W.length
  | 0, _, _ => rfl
  | m + 1, i, W => by rw [V.rounds, V.rounds_len hf k m, hf, List.length_set]
mutual
theorem V.rd_len : ∀ (d : Do) (W : List Int), (V.rd d W).length = W.length
  | .set .., W => by rw [V.rd, List.length_set]
  | .put .., W => by rw [V.rd, List.length_set]
  | .ifs _ q y n, W => by
    rw [V.rd]
    split
    · exact V.rds_len n W
    · exact V.rds_len y W
  | .fors _ n r l, W => by rw [V.rd]; exact V.rounds_len (fun W => V.rds_len l W) _ _ _ _
  | .none, W => by rw [V.rd]
theorem V.rds_len : ∀ (l : List Do) (W : List Int), (V.rds l W).length = W.length
  | [], W => by rw [V.rds]
  | d :: l, W => by rw [V.rds, V.rds_len l, V.rd_len d]
end

theorem RAt.set {w : World} {b g : Nat} {tb : Array Value} {W : List Int} (h : RAt w b g tb W) (hne : b ≠ g) (k : Nat) (v : Int) : RAt (w.setCell ⟨g, k, none⟩ (.int .i64 v)) b g tb (W.set k v) := by
  refine ⟨?_, ?_, h.tab, by rw [List.length_set]; exact h.few⟩
  · rw [List.length_set]; exact h.cells.set_other (a := ⟨g, k, none⟩) hne _
  · rw [List.map_set]; exact h.words.set k _
theorem RAt.ne {w : World} {b g : Nat} {tb : Array Value} {W : List Int} (h : RAt w b g tb W) : b ≠ g := by
  rintro rfl
  have h1 := h.cells
  have h2 := h.words
  unfold At at h1 h2
  rw [h1] at h2
  simp at h2
theorem below_but {w w' : World} {g : Nat} (h : Below w.heap.size w w') : But g w w' := ⟨h.os, h.tape, h.output, h.size, fun k hk _ => h.block k hk⟩

def RdDoes (d : Do) : Prop := ∀ (B : Nat → Prop) (w : World) (b g : Nat) (tb : Array Value) (W : List Int) (u : Value), RAt w b g tb W → DoIs B w d u → V.wfD W.length d → (∀ k, B k → k ≠ g) →
  Calls Tryz.prog 90 #[PT b, u] w fun x w' => x = .returned (.tuple #[]) ∧ RAt w' b g tb (V.rd d W) ∧ But g w w'
def RdsDoes (l : List Do) : Prop := ∀ (B : Nat → Prop) (w : World) (b g : Nat) (tb : Array Value) (W : List Int) (lv : Value) (us : List Value), RAt w b g tb W → DRow B w lv us → Each B w l us → V.wfL W.length l → (∀ k, B k → k ≠ g) →
  Calls Tryz.prog 64 #[PT b, lv] w fun x w' => x = .returned (.tuple #[]) ∧ RAt w' b g tb (V.rds l W) ∧ But g w w'

set_option maxRecDepth 100000 in
set_option maxHeartbeats 4000000 in
theorem rd_set (p : Int) (n : Nm) (e : Ex) (he : EvDoes e) : RdDoes (.set p n e) := by
  intro B w b g tb W u h hd hw _
  unfold DoIs at hd
  subst hd
  unfold V.wfD at hw
  obtain ⟨w0, w1, we⟩ := hw
  have a1 := ad_Set_Set
  obtain ⟨k, hk⟩ := Int.eq_ofNat_of_zero_le w0
  have hkl : k < W.length := by omega
  have hz : (k : Int) < (W.length : Int) := by omega
  have few := h.few
  have hne := h.ne
  have HV : Hid (V.rd (.set p n e) W = W.set k (V.ev W e)) := by show _ = _; rw [V.rd, hk]; rfl
  rw [HV.out]
  clear HV w0 w1
  have hx := fun (w : World) (h' : RAt w b g tb W) => he w b g tb W h' we
  rw [exV_good (V.wf_good we)] at hx ⊢
  have hcw := fun (w : World) (h' : RAt w b g tb W) => h'.word hkl
  generalize V.ev W e = v at *
  generalize W.getD k 0 = q at *
  generalize exT e = t at *
  generalize exP e = x at *
  obtain ⟨x0, x1, x2, x3, x4⟩ := n
  dsimp only at *
  subst hk
  have B0 : Below w.heap.size w (w.alloc (.cells #[.int .i64 p, .string x0, .int .i64 x1, .bool x2, .int .i64 x3, .int .i64 (k : Int), .iface t x] 178 (0, 0))) := (Below.refl _ _).alloc (Nat.le_refl _) _
  have Bd : Below w.heap.size w (w.alloc (.cells #[.int .i64 p, .string x0, .int .i64 x1, .bool x2, .int .i64 x3, .int .i64 (k : Int), .iface t x] 178 (0, 0))).drew := ⟨B0.os, B0.tape, B0.output, B0.size, B0.block⟩
  have rd : RAt (w.alloc (.cells #[.int .i64 p, .string x0, .int .i64 x1, .bool x2, .int .i64 x3, .int .i64 (k : Int), .iface t x] 178 (0, 0))).drew b g tb W := (h.below B0).keep rfl rfl
  have bx := At.alloc_new w [.int .i64 p, .string x0, .int .i64 x1, .bool x2, .int .i64 x3, .int .i64 (k : Int), .iface t x] 178
  have c0 := (h.below B0).cells.cell 0
  simp only [List.getElem?_cons_zero] at c0
  have lb := h.cells.lt
  go_enter Tryz.func90, Tryz.ntmps90
  go_upto_region 3 with fail
  go_region_with (go_at_call 112; refine (hx _ rd).mono ?_; rintro z w1 ⟨rfl, hb1⟩; have r1 := rd.below hb1; have c1 := r1.cells.cell 0; simp only [List.getElem?_cons_zero] at c1; have cw := hcw _ r1; have fw := r1.words.frozen k; have bx1 : At w1 w.heap.size 178 [.int .i64 p, .string x0, .int .i64 x1, .bool x2, .int .i64 x3, .int .i64 (k : Int), .iface t x] := bx.of_block (hb1.block _ bx.lt); have k5 := bx1.cell 5; simp only [List.getElem?_cons_zero, List.getElem?_cons_succ] at k5)
  all_goals
    go_wp2_with fail
    go_end0
    exact ⟨rfl, r1.set hne k v, (below_but (Bd.trans (hb1.mono Bd.size))).set k _⟩
end Go.Proofs.YtjgiefnjmngdkaaGreatDoor
namespace Go.Proofs.YtjgiefnjmngdkaaGreatDoor
open Go.RowKit
open K (Nm Ex Do)

set_option maxRecDepth 100000 in
set_option maxHeartbeats 10000000 in
theorem rd_put (p : Int) (n : Nm) (i e : Ex) (hi : EvDoes i) (he : EvDoes e) : RdDoes (.put p n i e) := by
  intro B w b g tb W u h hd hw _
  unfold DoIs at hd
  subst hd
  unfold V.wfD at hw
  obtain ⟨h0, h1, h6, hp, wi, we⟩ := hw
  have a1 := ad_Put_Set
  have a2 := ad_Put_Put
  have hpl := fun (w : World) (h' : RAt w b g tb W) => placeIn_c n i hi w b g tb W h' h0 h1 h6 hp wi
  have hm := V.md_lt (V.ev W i) h1 h6
  have few := h.few
  have hne := h.ne
  obtain ⟨k, hk⟩ := Int.eq_ofNat_of_zero_le (show 0 ≤ n.place + V.md (V.ev W i) n.size by omega)
  have hkl : k < W.length := by omega
  have hz : (k : Int) < (W.length : Int) := by omega
  have HV : Hid (V.rd (.put p n i e) W = W.set k (V.ev W e)) := by show _ = _; rw [V.rd, hk]; rfl
  rw [HV.out]
  rw [hk] at hpl
  clear HV hm h0 h1 h6 hp
  unfold nmV at hpl
  have hx := fun (w : World) (h' : RAt w b g tb W) => he w b g tb W h' we
  rw [exV_good (V.wf_good wi)] at hpl ⊢
  rw [exV_good (V.wf_good we)] at hx ⊢
  have hcw := fun (w : World) (h' : RAt w b g tb W) => h'.word hkl
  clear hk
  generalize V.ev W e = v at *
  generalize W.getD k 0 = q at *
  generalize exT i = t at *
  generalize exP i = x at *
  generalize exT e = t2 at *
  generalize exP e = x2' at *
  obtain ⟨x0, x1, x2, x3, x4⟩ := n
  dsimp only at *
  have B0 : Below w.heap.size w (w.alloc (.cells #[.int .i64 p, .string x0, .int .i64 x1, .bool x2, .int .i64 x3, .int .i64 x4, .iface t x, .iface t2 x2'] 181 (0, 0))) := (Below.refl _ _).alloc (Nat.le_refl _) _
  have rr := h.below B0
  have bx := At.alloc_new w [.int .i64 p, .string x0, .int .i64 x1, .bool x2, .int .i64 x3, .int .i64 x4, .iface t x, .iface t2 x2'] 181
  have lb := h.cells.lt
  have lgg := h.words.lt
  go_enter Tryz.func90, Tryz.ntmps90
  go_upto_region 6 with fail
  generalize w.alloc (.cells #[.int .i64 p, .string x0, .int .i64 x1, .bool x2, .int .i64 x3, .int .i64 x4, .iface t x, .iface t2 x2'] 181 (0, 0)) = w0 at *
  have hlL := bx.lt
  have hLg : w.heap.size ≠ g := by omega
  have hLb : b ≠ g := hne
  have BL := below_but (g := g) B0
  generalize hLL : w.heap.size = L at *
  have KS : ∀ w' : World, Below w0.heap.size w0 w' → (w'.cell? ⟨L, 1, none⟩ = some (.string x0) ∧ w'.cell? ⟨L, 2, none⟩ = some (.int .i64 x1) ∧ w'.cell? ⟨L, 3, none⟩ = some (.bool x2) ∧ w'.cell? ⟨L, 4, none⟩ = some (.int .i64 x3) ∧ w'.cell? ⟨L, 5, none⟩ = some (.int .i64 x4) ∧ w'.cell? ⟨L, 6, none⟩ = some (.iface t x) ∧ w'.cell? ⟨L, 7, none⟩ = some (.iface t2 x2') ∧ w'.cell? ⟨b, 0, none⟩ = some (.slice (some ⟨g, 0, none⟩) W.length W.length)) := fun w' hb =>
    ⟨(hb.cell (p := ⟨L, 1, none⟩) hlL).trans (bx.cell 1), (hb.cell (p := ⟨L, 2, none⟩) hlL).trans (bx.cell 2), (hb.cell (p := ⟨L, 3, none⟩) hlL).trans (bx.cell 3), (hb.cell (p := ⟨L, 4, none⟩) hlL).trans (bx.cell 4), (hb.cell (p := ⟨L, 5, none⟩) hlL).trans (bx.cell 5), (hb.cell (p := ⟨L, 6, none⟩) hlL).trans (bx.cell 6), (hb.cell (p := ⟨L, 7, none⟩) hlL).trans (bx.cell 7), (rr.below hb).cells.cell 0⟩
  have KT : ∀ w' : World, (w'.cell? ⟨L, 1, none⟩ = some (.string x0) ∧ w'.cell? ⟨L, 2, none⟩ = some (.int .i64 x1) ∧ w'.cell? ⟨L, 3, none⟩ = some (.bool x2) ∧ w'.cell? ⟨L, 4, none⟩ = some (.int .i64 x3) ∧ w'.cell? ⟨L, 5, none⟩ = some (.int .i64 x4) ∧ w'.cell? ⟨L, 6, none⟩ = some (.iface t x) ∧ w'.cell? ⟨L, 7, none⟩ = some (.iface t2 x2') ∧ w'.cell? ⟨b, 0, none⟩ = some (.slice (some ⟨g, 0, none⟩) W.length W.length)) → ∀ v, (fun (w' : World) => w'.cell? ⟨L, 1, none⟩ = some (.string x0) ∧ w'.cell? ⟨L, 2, none⟩ = some (.int .i64 x1) ∧ w'.cell? ⟨L, 3, none⟩ = some (.bool x2) ∧ w'.cell? ⟨L, 4, none⟩ = some (.int .i64 x3) ∧ w'.cell? ⟨L, 5, none⟩ = some (.int .i64 x4) ∧ w'.cell? ⟨L, 6, none⟩ = some (.iface t x) ∧ w'.cell? ⟨L, 7, none⟩ = some (.iface t2 x2') ∧ w'.cell? ⟨b, 0, none⟩ = some (.slice (some ⟨g, 0, none⟩) W.length W.length)) (w'.setCell ⟨g, k, none⟩ v) := fun w' hs v => by
    obtain ⟨s1, s2, s3, s4, s5, s6, s7, s8⟩ := hs
    refine ⟨?_, ?_, ?_, ?_, ?_, ?_, ?_, ?_⟩
    all_goals rw [World.cell?_setCell_far]
    all_goals first | assumption | exact fun e => hLg e.symm | exact fun e => hLb e.symm
  have hpl' := fun (w' : World) (hb : Below w0.heap.size w0 w') => hpl w' (rr.below hb)
  have hx' := fun (w' : World) (hb : Below w0.heap.size w0 w') => hx w' (rr.below hb)
  have hcw' := fun (w' : World) (hb : Below w0.heap.size w0 w') => hcw w' (rr.below hb)
  have hfw' := fun (w' : World) (hb : Below w0.heap.size w0 w') => (rr.below hb).words.frozen k
  have Bd : Below w0.heap.size w0 w0.drew := ⟨rfl, rfl, rfl, Nat.le_refl _, fun _ _ => rfl⟩
  clear hx hpl hcw bx
  go_region_held (fun (w' : World) => w'.cell? ⟨L, 1, none⟩ = some (.string x0) ∧ w'.cell? ⟨L, 2, none⟩ = some (.int .i64 x1) ∧ w'.cell? ⟨L, 3, none⟩ = some (.bool x2) ∧ w'.cell? ⟨L, 4, none⟩ = some (.int .i64 x3) ∧ w'.cell? ⟨L, 5, none⟩ = some (.int .i64 x4) ∧ w'.cell? ⟨L, 6, none⟩ = some (.iface t x) ∧ w'.cell? ⟨L, 7, none⟩ = some (.iface t2 x2') ∧ w'.cell? ⟨b, 0, none⟩ = some (.slice (some ⟨g, 0, none⟩) W.length W.length)) (first | exact KT _ (KS _ B2) _ | exact KS _ B2 | exact KS _ B1 | exact KS _ Bd) (first | (go_at_call 113; refine (hpl' _ Bd).mono ?_; rintro z w1 ⟨rfl, hb1⟩; have B1 := Bd.trans (hb1.mono Bd.size)) | (go_at_call 112; refine (hx' _ B1).mono ?_; rintro z w2 ⟨rfl, hb2⟩; have B2 := B1.trans (hb2.mono B1.size); have cw := hcw' _ B2; have fw := hfw' _ B2))
  all_goals
    go_wp2_with fail
    go_end0
    exact ⟨rfl, (rr.below B2).set hne k v, ((BL.trans (below_but B2)).set k _)⟩
end Go.Proofs.YtjgiefnjmngdkaaGreatDoor
namespace Go.Proofs.YtjgiefnjmngdkaaGreatDoor
open Go.RowKit
open K (Nm Ex Do)

set_option maxRecDepth 100000 in
set_option maxHeartbeats 2000000 in
theorem rd_if (p : Int) (e : Ex) (l r : List Do) (he : EvDoes e) (hl : RdsDoes l) (hr : RdsDoes r) : RdDoes (.ifs p e l r) := by
  intro B w b g tb W u h hd hw hB
  unfold DoIs at hd
  obtain ⟨yv, nv, ys, ns, hu, dr, de, dr2, de2⟩ := hd
  subst hu
  unfold V.wfD at hw
  obtain ⟨we, wl, wr⟩ := hw
  have a1 := ad_If_Set
  have a2 := ad_If_Put
  have a3 := ad_If_If
  have HK : Hid (V.rd (.ifs p e l r) W = if V.ev W e = 0 then V.rds r W else V.rds l W) := by show _ = _; rw [V.rd]
  have hx := fun (w : World) (h' : RAt w b g tb W) => he w b g tb W h' we
  have hx2 := fun (w' : World) (h' : RAt w' b g tb W) (d1 : DRow B w' yv ys) (d2 : Each B w' l ys) => hl B w' b g tb W yv ys h' d1 d2 wl hB
  have hx3 := fun (w' : World) (h' : RAt w' b g tb W) (d1 : DRow B w' nv ns) (d2 : Each B w' r ns) => hr B w' b g tb W nv ns h' d1 d2 wr hB
  rw [exV_good (V.wf_good we)] at hx ⊢
  rw [HK.out]
  clear HK
  generalize V.rds r W = WR at *
  generalize V.rds l W = WL at *
  generalize V.ev W e = v at *
  generalize exT e = t at *
  generalize exP e = x at *
  obtain ⟨la, ln, lc, hlv⟩ := dr.form
  subst hlv
  obtain ⟨ra, rn, rc, hrv⟩ := dr2.form
  subst hrv
  have B0 : Below w.heap.size w (w.alloc (.cells #[.int .i64 p, .iface t x, .slice la ln lc, .slice ra rn rc] 184 (0, 0))) := (Below.refl _ _).alloc (Nat.le_refl _) _
  have bx := At.alloc_new w [.int .i64 p, .iface t x, .slice la ln lc, .slice ra rn rc] 184
  have h0 := h.below B0
  by_cases hv : v = 0
  · subst hv
    rw [if_pos rfl]
    go_enter Tryz.func90, Tryz.ntmps90
    go_wp2_with fail
    refine (hx _ h0).mono ?_
    rintro y w2 ⟨rfl, hb2⟩
    have B2 := B0.trans (hb2.mono B0.size)
    have bx2 := bx.of_block (hb2.block _ bx.lt)
    have k3 := bx2.cell 3
    simp only [List.getElem?_cons_zero, List.getElem?_cons_succ] at k3
    have kp : ∀ k, B k → k < w.heap.size → w2.heap[k]? = w.heap[k]? := fun k _ h2 => B2.block k h2
    go_wp2_with fail
    refine (hx3 _ (h0.below hb2) (dr2.keep kp) (de2.keep kp)).mono ?_
    rintro y w3 ⟨rfl, h3, hb3⟩
    go_wp2_with fail
    go_end0
    exact ⟨rfl, h3, (below_but B2).trans hb3⟩
  · rw [if_neg hv]
    go_enter Tryz.func90, Tryz.ntmps90
    go_wp2_with fail
    refine (hx _ h0).mono ?_
    rintro y w2 ⟨rfl, hb2⟩
    have B2 := B0.trans (hb2.mono B0.size)
    have bx2 := bx.of_block (hb2.block _ bx.lt)
    have k2 := bx2.cell 2
    simp only [List.getElem?_cons_zero, List.getElem?_cons_succ] at k2
    have kp : ∀ k, B k → k < w.heap.size → w2.heap[k]? = w.heap[k]? := fun k _ h2 => B2.block k h2
    go_wp2_with fail
    refine (hx2 _ (h0.below hb2) (dr.keep kp) (de.keep kp)).mono ?_
    rintro y w3 ⟨rfl, h3, hb3⟩
    go_wp2_with fail
    go_end0
    exact ⟨rfl, h3, (below_but B2).trans hb3⟩

theorem V.rds_drop {l : List Do} {k : Nat} (h : k < l.length) (W : List Int) : V.rds (l.drop k) W = V.rds (l.drop (k + 1)) (V.rd l[k] W) := by
  rw [List.drop_eq_getElem_cons h, V.rds]
theorem V.wfL_get {N : Nat} : ∀ {l : List Do}, V.wfL N l → ∀ (k : Nat) (h : k < l.length), V.wfD N l[k]
  | d :: l, hw, 0, _ => by unfold V.wfL at hw; exact hw.1
  | d :: l, hw, k + 1, h => by unfold V.wfL at hw; exact V.wfL_get hw.2 k (by simpa using h)

set_option maxHeartbeats 1000000 in
theorem rds_of (l : List Do) (hl : ∀ d ∈ l, RdDoes d) : RdsDoes l := by
  intro B w b g tb W lv us h dr de hw hB
  have HLEN := hide de.len
  have hmax := dr.row
  rcases dr.at with ⟨rfl, h0⟩ | ⟨gg, cap, rfl, hgl, hBg, hcell⟩
  · have e : l = [] := List.eq_nil_of_length_eq_zero (by have := HLEN.out; omega)
    subst e
    have HK : Hid (V.rds [] W = W) := by show _ = _; rw [V.rds]
    go_enter Tryz.func64, Tryz.ntmps64
    go_wp2_with fail
    go_loop [5, 8] (fun _ i => i = .int .i64 0) (fun _ _ => 0)
    case atStart => rfl
    case round =>
      subst hrel
      go_wp2_with fail
      go_end0
      rw [HK.out]
      exact ⟨rfl, h, But.refl _ _⟩
  · have hcap : us.length ≤ 9223372036854775807 := by
      obtain ⟨_, ⟨h0, _⟩ | ⟨g', cap', cur, hv, _, _, hc, hm, _⟩⟩ := hmax
      · simp at h0
      · unfold maxLen at hm; omega
    have HK0 : Hid (V.rds l W = V.rds (l.drop 0) W) := rfl
    have HW := hide hw
    clear hmax hw
    go_enter Tryz.func64, Tryz.ntmps64
    go_wp2_with fail
    go_loopg [5, 8] (us.length + 1) (fun gk _ i wr => ∃ (k : Nat) (W' : List Int), k ≤ us.length ∧ gk + k = us.length + 1 ∧ i = .int .i64 (k : Int) ∧ RAt wr b g tb W' ∧ But g w wr ∧ W'.length = W.length ∧ Hid (V.rds l W = V.rds (l.drop k) W'))
    case atStart => exact ⟨0, W, Nat.zero_le _, by omega, rfl, h, But.refl _ _, rfl, HK0⟩
    case round =>
      obtain ⟨k, W', hk, hgk, rfl, hr, Bk, hlen, HK⟩ := hrel
      by_cases hlt : k < us.length
      · have hll : k < l.length := by have := HLEN.out; omega
        obtain ⟨u, hu, hd⟩ := de.get k hll
        have c := (World.cell?_of_block (a := ⟨gg, k, none⟩) (Bk.block gg hgl (hB gg hBg))).trans (hcell k u hu)
        have hd' := hd.keep (w' := wr) fun j h1 h2 => Bk.block j h2 (hB j h1)
        have hgd := hl l[k] (List.getElem_mem hll) B wr b g tb W' u hr hd' (by rw [hlen]; exact V.wfL_get HW.out k hll) hB
        have HK' : Hid (V.rds l W = V.rds (l.drop (k + 1)) (V.rd l[k] W')) := HK.out.trans (V.rds_drop hll W')
        have hlen' : (V.rd l[k] W').length = W.length := by rw [V.rd_len]; exact hlen
        have uf := hd.form
        clear HK hd hd' HK0
        generalize V.rd l[k] W' = W2 at *
        rcases uf with ⟨ut, ux, rfl⟩ | rfl
        all_goals
          go_wp2_with fail
          refine hgd.mono ?_
          rintro x w2 ⟨rfl, h2, hb2⟩
          go_wp2_with fail
          go_roundg (gk - 1)
          case measure => omega
          case rel => exact ⟨k + 1, W2, by omega, by omega, by go_num, h2, Bk.trans hb2, hlen', HK'⟩
      · have HX : Hid (V.rds l W = W') := by
          show _ = _
          rw [HK.out, List.drop_eq_nil_of_le (by have := HLEN.out; omega), V.rds]
        clear HK HK0
        go_wp2_with fail
        go_end0
        rw [HX.out]
        exact ⟨rfl, hr, Bk⟩
end Go.Proofs.YtjgiefnjmngdkaaGreatDoor
namespace Go.Proofs.YtjgiefnjmngdkaaGreatDoor
open Go.RowKit
open K (Nm Ex Do)

theorem V.rounds_step (f : List Int → List Int) (k i m : Nat) (W : List Int) (h : i < m) : V.rounds f k i (m - i) W = V.rounds f k (i + 1) (m - (i + 1)) (f (W.set k (i : Int))) := by
  rw [show m - i = (m - (i + 1)) + 1 by omega, V.rounds]

set_option maxRecDepth 100000 in
set_option maxHeartbeats 2000000 in
theorem rloop_c (p : Int) (n : Nm) (e : Ex) (l : List Do) (he : EvDoes e) (hl : RdsDoes l) (B : Nat → Prop) (w : World) (b g : Nat) (tb : Array Value) (W : List Int) (lv : Value) (ls : List Value) (h : RAt w b g tb W) (dr : DRow B w lv ls) (de : Each B w l ls)
    (h0 : 0 ≤ n.place) (h1 : n.place < W.length) (we : V.wfE W.length e) (wl : V.wfL W.length l) (hB : ∀ k, B k → k ≠ g) :
    Calls Tryz.prog 114 #[PT b, .agg #[.int .i64 p, .string n.text, .int .i64 n.kind, .bool n.sec, .int .i64 n.size, .int .i64 n.place, exV e, lv]] w fun x w' => x = .returned (.tuple #[]) ∧ RAt w' b g tb (V.rounds (fun W => V.rds l W) n.place.toNat 0 (V.times (V.ev W e)) W) ∧ But g w w' := by
  have hx := fun (w : World) (h' : RAt w b g tb W) => he w b g tb W h' we
  have hx2 := fun (w' : World) (W' : List Int) (h' : RAt w' b g tb W') (hW : W'.length = W.length) (d1 : DRow B w' lv ls) (d2 : Each B w' l ls) => hl B w' b g tb W' lv ls h' d1 d2 (by rw [hW]; exact wl) hB
  obtain ⟨k, hk⟩ := Int.eq_ofNat_of_zero_le h0
  have hkl : k < W.length := by omega
  have hz : (k : Int) < (W.length : Int) := by omega
  have ek : n.place.toNat = k := by omega
  rw [ek]
  obtain ⟨F, hF⟩ : ∃ F, F = (fun W => V.rds l W) := ⟨_, rfl⟩
  rw [← hF]
  have HF : Hid (∀ W, F W = V.rds l W) := fun W => by rw [hF]
  clear hF
  rw [exV_good (V.wf_good we)] at hx ⊢
  generalize V.ev W e = v at *
  generalize exT e = t at *
  generalize exP e = x at *
  obtain ⟨x0, x1, x2, x3, x4⟩ := n
  dsimp only at *
  subst hk
  obtain ⟨la, ln, lc, hlv⟩ := dr.form
  subst hlv
  have few := h.few
  have hne := h.ne
  have B0 : Below w.heap.size w (w.alloc (.cells #[.int .i64 p, .string x0, .int .i64 x1, .bool x2, .int .i64 x3, .int .i64 (k : Int), .iface t x, .slice la ln lc] 186 (0, 0))) := (Below.refl _ _).alloc (Nat.le_refl _) _
  have bx := At.alloc_new w [.int .i64 p, .string x0, .int .i64 x1, .bool x2, .int .i64 x3, .int .i64 (k : Int), .iface t x, .slice la ln lc] 186
  have r0 := h.below B0
  have lb := h.cells.lt
  obtain ⟨T, hT⟩ : ∃ T, V.times v = T := ⟨_, rfl⟩
  have HR : Hid (∀ j : Nat, (j : Int) < min v 5 ↔ j < T) := by
    subst hT
    intro j
    unfold V.times
    rw [Int.min_def]
    repeat' split
    all_goals omega
  have hT5 : T ≤ 5 := by
    subst hT
    unfold V.times
    repeat' split
    all_goals omega
  rw [hT]
  clear hT
  go_enter Tryz.func114, Tryz.ntmps114
  go_wp2_with fail
  refine (hx _ r0).mono ?_
  rintro y w2 ⟨rfl, hb2⟩
  have B2 := B0.trans (hb2.mono B0.size)
  have bx2 := bx.of_block (hb2.block _ bx.lt)
  have r2 := r0.below hb2
  go_wp2_with fail
  generalize min v 5 = R at *
  have lg : w.heap.size ≠ g := by have := h.words.lt; omega
  go_loopg [5] T (fun gk i wr => ∃ (j : Nat) (W' : List Int), j + gk = T ∧ i = .int .i64 (j : Int) ∧ RAt wr b g tb W' ∧ But g w2 wr ∧ W'.length = W.length ∧ Hid (V.rounds F k 0 T W = V.rounds F k j (T - j) W'))
  case atStart => exact ⟨0, W, by omega, rfl, r2, But.refl _ _, rfl, rfl⟩
  case round =>
    obtain ⟨j, W', hj, rfl, rr, Bk, hlen, HK⟩ := hrel
    have bx3 := bx2.of_block (Bk.block _ bx2.lt lg)
    cases gk with
    | zero =>
      have hy : ¬ ((j : Int) < R) := fun c => by have := (HR.out j).1 c; omega
      have HX : Hid (V.rounds F k 0 T W = W') := by show _ = _; rw [HK.out, show T - j = 0 by omega]; rfl
      go_wp2_with fail
      go_end0
      rw [HX.out]
      exact ⟨rfl, rr, (below_but B2).trans Bk⟩
    | succ g1 =>
      have hy : (j : Int) < R := (HR.out j).2 (by omega)
      have q5 := bx3.cell 5
      have q7 := bx3.cell 7
      simp only [List.getElem?_cons_zero, List.getElem?_cons_succ] at q5 q7
      have c0 := rr.cells.cell 0
      simp only [List.getElem?_cons_zero] at c0
      have cw := rr.word (show k < W'.length by omega)
      have fw := rr.words.frozen k
      have hz' : (k : Int) < (W'.length : Int) := by omega
      have lb' := rr.cells.lt
      have rd : RAt wr.drew b g tb W' := rr.keep rfl rfl
      have rs := rd.set hne k (j : Int)
      have Bs := (Bk.drew).set k (.int .i64 (j : Int))
      have bx4 : At (wr.drew.setCell ⟨g, k, none⟩ (.int .i64 (j : Int))) w.heap.size 186 [.int .i64 p, .string x0, .int .i64 x1, .bool x2, .int .i64 x3, .int .i64 (k : Int), .iface t x, .slice la ln lc] := (bx3.of_block rfl).set_other (a := ⟨g, k, none⟩) lg _
      have q7' := bx4.cell 7
      simp only [List.getElem?_cons_zero, List.getElem?_cons_succ] at q7'
      have kp : ∀ i, B i → i < w.heap.size → (wr.drew.setCell ⟨g, k, none⟩ (.int .i64 (j : Int))).heap[i]? = w.heap[i]? := fun i h1 h2 => ((below_but B2).trans Bs).block i h2 (hB i h1)
      have hcall := hx2 _ _ rs (by rw [List.length_set]; exact hlen) (dr.keep kp) (de.keep kp)
      go_upto_region 5 with fail
      go_region
      all_goals
        go_wp2_with fail
        refine hcall.mono ?_
        rintro y w4 ⟨rfl, r4, hb4⟩
        rw [← HF.out] at r4
        go_wp2_with fail
        go_roundg g1
        case measure => omega
        case rel =>
          refine ⟨j + 1, F (W'.set k (j : Int)), by omega, by go_num, r4, Bs.trans hb4, ?_, HK.out.trans (V.rounds_step F k j T W' (by omega))⟩
          rw [HF.out, V.rds_len, List.length_set]
          exact hlen

set_option maxRecDepth 100000 in
set_option maxHeartbeats 2000000 in
theorem rd_for (p : Int) (n : Nm) (e : Ex) (l : List Do) (he : EvDoes e) (hl : RdsDoes l) : RdDoes (.fors p n e l) := by
  intro B w b g tb W u h hd hw hB
  unfold DoIs at hd
  obtain ⟨lv, ls, hu, dr, de⟩ := hd
  subst hu
  unfold V.wfD at hw
  obtain ⟨h0, h1, we, wl⟩ := hw
  have a1 := ad_For_Set
  have a2 := ad_For_Put
  have a3 := ad_For_If
  have a4 := ad_For_For
  have HK : Hid (V.rd (.fors p n e l) W = V.rounds (fun W => V.rds l W) n.place.toNat 0 (V.times (V.ev W e)) W) := by show _ = _; rw [V.rd]
  have hc := fun (w' : World) (h' : RAt w' b g tb W) (d1 : DRow B w' lv ls) (d2 : Each B w' l ls) => rloop_c p n e l he hl B w' b g tb W lv ls h' d1 d2 h0 h1 we wl hB
  rw [HK.out]
  clear HK
  rw [exV_good (V.wf_good we)] at hc ⊢
  generalize V.rounds (fun W => V.rds l W) n.place.toNat 0 (V.times (V.ev W e)) W = WF at *
  generalize exT e = t at *
  generalize exP e = x at *
  obtain ⟨x0, x1, x2, x3, x4⟩ := n
  obtain ⟨la, ln, lc, hlv⟩ := dr.form
  subst hlv
  dsimp only at *
  have B0 : Below w.heap.size w (w.alloc (.cells #[.int .i64 p, .string x0, .int .i64 x1, .bool x2, .int .i64 x3, .int .i64 x4, .iface t x, .slice la ln lc] 186 (0, 0))) := (Below.refl _ _).alloc (Nat.le_refl _) _
  have r0 := h.below B0
  have kp : ∀ k, B k → k < w.heap.size → (w.alloc (.cells #[.int .i64 p, .string x0, .int .i64 x1, .bool x2, .int .i64 x3, .int .i64 x4, .iface t x, .slice la ln lc] 186 (0, 0))).heap[k]? = w.heap[k]? := fun k _ h2 => B0.block k h2
  have hcall := hc _ r0 (dr.keep kp) (de.keep kp)
  go_enter Tryz.func90, Tryz.ntmps90
  go_wp2_with fail
  refine hcall.mono ?_
  rintro y w4 ⟨rfl, r4, hb4⟩
  go_wp2_with fail
  go_end0
  exact ⟨rfl, r4, (below_but B0).trans hb4⟩
end Go.Proofs.YtjgiefnjmngdkaaGreatDoor
namespace Go.Proofs.YtjgiefnjmngdkaaGreatDoor
open K (Nm Ex Do)
/-- The code's runner reckons an Expr. -/
theorem ev_c : ∀ e : Ex, EvDoes e
  | .num v => ev_num v
  | .use n => ev_use n
  | .get p n e => ev_get p n e (ev_c e)
  | .op p o l r => ev_op p o l r (ev_c l) (ev_c r)
  | .cho p q y n => ev_cho p q y n (ev_c q) (ev_c y) (ev_c n)
  | .none => fun _ _ _ _ _ _ h => by unfold V.wfE at h; exact h.elim
mutual
/-- The code's runner does a Do. -/
theorem rd_c : ∀ d : Do, RdDoes d
  | .set p n e => rd_set p n e (ev_c e)
  | .put p n i e => rd_put p n i e (ev_c i) (ev_c e)
  | .ifs p q y n => rd_if p q y n (ev_c q) (rds_of y (rdl_c y)) (rds_of n (rdl_c n))
  | .fors p n r l => rd_for p n r l (ev_c r) (rds_of l (rdl_c l))
  | .none => fun _ _ _ _ _ _ _ _ _ h _ => by unfold V.wfD at h; exact h.elim
theorem rdl_c : ∀ l : List Do, ∀ d ∈ l, RdDoes d
  | [], _, h => by cases h
  | d :: l, d', h => by
    rcases List.mem_cons.1 h with h | h
    · rw [h]; exact rd_c d
    · exact rdl_c l d' h
end
theorem rds_c (l : List Do) : RdsDoes l := rds_of l (rdl_c l)
end Go.Proofs.YtjgiefnjmngdkaaGreatDoor
namespace Go.Proofs.YtjgiefnjmngdkaaGreatDoor
open Go.RowKit
open K (Nm Ex Do)

theorem info_rword : (Tryz.prog.info? 121).map (fun i => (i.zero, i.size, i.bytes)) = some (some (.int .i64 0), 1, 8) := by kernel_rfl
theorem info_rint : (Tryz.prog.info? 3).map (fun i => (i.zero, i.size, i.bytes)) = some (some (.int .i64 0), 1, 8) := by kernel_rfl

def Built (t : Array Value) : Prop := ∀ s : Value, Array.foldl (fun cs x => cs.setIfInBounds (1 + x.snd) x.fst) (Tryz.zeroCells120.setIfInBounds 0 s) t.zipIdx 0 256 = #[s] ++ t
theorem is_built : Built ((((((((Tryz.zeroCells117.setIfInBounds 43 (.func (.func 82) #[] #[])).setIfInBounds 45 (.func (.func 83) #[] #[])).setIfInBounds 42 (.func (.func 84) #[] #[])).setIfInBounds 47 (.func (.func 85) #[] #[])).setIfInBounds 38 (.func (.func 86) #[] #[])).setIfInBounds 94 (.func (.func 87) #[] #[])).setIfInBounds 60 (.func (.func 88) #[] #[])).setIfInBounds 61 (.func (.func 89) #[] #[])) := by
  intro s
  kernel_rfl
theorem made_list (z : Value) (n : Nat) : madeCells #[z] n = (List.replicate n z).toArray := by
  apply Array.toList_inj.1
  rw [toList_madeCells_one]

set_option maxRecDepth 100000 in
set_option maxHeartbeats 2000000 in
theorem operations_b (w : World) : Calls Tryz.prog 63 #[] w fun x w' => (∃ t, (IsTab t ∧ Built t) ∧ x = .returned (.agg t)) ∧ Below w.heap.size w w' := by
  have h0 := is_tab
  have hb0 := is_built
  obtain ⟨tb, htb⟩ : ∃ tb, tb = (((((((Tryz.zeroCells117.setIfInBounds 43 (.func (.func 82) #[] #[])).setIfInBounds 45 (.func (.func 83) #[] #[])).setIfInBounds 42 (.func (.func 84) #[] #[])).setIfInBounds 47 (.func (.func 85) #[] #[])).setIfInBounds 38 (.func (.func 86) #[] #[])).setIfInBounds 94 (.func (.func 87) #[] #[])).setIfInBounds 60 (.func (.func 88) #[] #[])).setIfInBounds 61 (.func (.func 89) #[] #[]) := ⟨_, rfl⟩
  rw [← htb] at h0 hb0
  have hst := run_storeCells_new (P := Tryz.prog) w 117 Tryz.zeroCells117 tb (by rw [h0.size]; exact tabType) (by rw [h0.size]; kernel_rfl) h0.one
  have hl := congrArg Array.toList htb
  simp only [Array.toList_setIfInBounds] at hl
  rw [hl] at hst
  go_enter Tryz.func63, Tryz.ntmps63
  go_wp2_with fail
  rw [← htb]
  clear hst hl htb
  exact bodyPost_ret (v := .agg tb) (results_cell_row Tryz.results63 _ _ w.heap.size 117 tb (0, 0) _ rfl (heap_alloc_last w _) Tryz.underlying117 rfl (by rw [h0.size]; exact tabType)) rfl ⟨⟨tb, ⟨h0, hb0⟩, rfl⟩, (Below.refl _ _).alloc (Nat.le_refl _) _⟩

theorem rat_of {w : World} {g N : Nat} {tb : Array Value} (htb : IsTab tb) (ha : At w g 121 (List.replicate (N + 2) (.int .i64 0))) (hN : N + 2 ≤ 60) :
    RAt (w.alloc (.cells (#[.slice (some ⟨g, 0, none⟩) (N + 2) (N + 2)] ++ tb) 120 (0, 0))) w.heap.size g tb (List.replicate (N + 2) 0) := by
  refine ⟨?_, ?_, htb, by rw [List.length_replicate]; exact hN⟩
  · rw [List.length_replicate]
    have := At.alloc_new w (.slice (some ⟨g, 0, none⟩) (N + 2) (N + 2) :: tb.toList) 120
    have e : (Value.slice (some ⟨g, 0, none⟩) (N + 2) (N + 2) :: tb.toList).toArray = #[.slice (some ⟨g, 0, none⟩) (N + 2) (N + 2)] ++ tb := by
      apply Array.toList_inj.1
      simp
    rw [e] at this
    exact this
  · rw [List.map_replicate]
    exact ha.alloc _
theorem made_at (w : World) (n : Nat) (t : TypeId) : At (w.alloc (.cells (madeCells #[.int .i64 0] n) t (0, 0))) w.heap.size t (List.replicate n (.int .i64 0)) := by
  rw [made_list]
  exact At.alloc_new w _ t
theorem but_lower {b B : Nat} {w w' : World} (h : But b w w') (hB : B ≤ b) (hs : B ≤ w.heap.size) : Below B w w' :=
  ⟨h.os, h.tape, h.output, h.size, fun k hk => h.block k (by omega) (by omega)⟩
theorem V.fill_step {ms : List Int} {N k : Nat} (hN : ms.length = N) (hk : k < N) (m : Nat) : (ms.take k ++ List.replicate (m - k) 0).set k (ms.getD k 0) = ms.take (k + 1) ++ List.replicate (m - (k + 1)) 0 ∨ m ≤ k := by
  by_cases hm : m ≤ k
  · exact Or.inr hm
  · refine Or.inl ?_
    have hl : (ms.take k).length = k := by rw [List.length_take]; omega
    rw [List.set_append_right _ _ (by omega), hl, Nat.sub_self, show m - k = (m - (k + 1)) + 1 by omega, List.replicate_succ, List.set_cons_zero, List.take_succ_eq_append_getElem (by omega), List.append_assoc, List.getD_eq_getElem?_getD, List.getElem?_eq_getElem (by omega)]
    rfl

set_option maxRecDepth 100000 in
set_option maxHeartbeats 4000000 in
theorem prog_c (N : Nat) (hN : N ≤ 54) (ms : List Int) (hms : ms.length = N) (l : List Do) (hwf : V.wfL (N + 2) l) (na : Option Addr) (nn nc : Nat) (da : Option Addr) (dn dc : Nat) (aM : Option Addr) (cM : Nat) (us : List Value) (w : World)
    (dr : DRow (fun k => k < w.heap.size) w (.slice da dn dc) us) (de : Each (fun k => k < w.heap.size) w l us)
    (hM : ∀ (j : Nat) u, ms[j]? = some u → ∃ gm o, aM = some ⟨gm, o, none⟩ ∧ gm < w.heap.size ∧ w.cell? ⟨gm, o + j, none⟩ = some (.int .i64 u)) :
    Calls Tryz.prog 47 #[.agg #[.slice na nn nc, .int .i64 (N : Int), .slice da dn dc], .slice aM N cM] w fun x w' => (∃ g, x = .returned (.slice (some ⟨g, 0, none⟩) N N) ∧ w.heap.size ≤ g ∧ At w' g 3 (((V.rds l (ms ++ [0, 0])).take N).map fun n => .int .i64 n)) ∧ Below w.heap.size w w' := by
  have hop := fun (w : World) => operations_b w
  have hmk := run_make_row' (P := Tryz.prog) 114 121 (.int .i64 0) 8 Tryz.underlying114 info_rword rfl .i64 .i64 (N + 2) (by omega) (by omega)
  have hmk2 := run_make_row' (P := Tryz.prog) 32 3 (.int .i64 0) 8 Tryz.underlying32 info_rint rfl .i64 .i64 N (by omega) (by omega)
  have ecast : ((N + 2 : Nat) : Int) = (N : Int) + 2 := by omega
  rw [ecast] at hmk
  have hwr : IntKind.i64.wrap ((N : Int) + 2) = (N : Int) + 2 := k64 _ (by omega)
  have HM := hide hM
  have HW := hide hwf
  have HDR := hide dr
  have HDE := hide de
  clear hM hwf dr de
  go_enter Tryz.func47, Tryz.ntmps47
  go_upto_region 1 with fail
  have bx := At.alloc_new w [.slice na nn nc, .int .i64 (N : Int), .slice da dn dc] 84
  have B0 : Below w.heap.size w (w.alloc (.cells #[.slice na nn nc, .int .i64 (N : Int), .slice da dn dc] 84 (0, 0))) := (Below.refl _ _).alloc (Nat.le_refl _) _
  generalize w.alloc (.cells #[.slice na nn nc, .int .i64 (N : Int), .slice da dn dc] 84 (0, 0)) = w0 at *
  have hlL := bx.lt
  generalize hLL : w.heap.size = L at *
  go_cut [5] from 10 to 16 (fun q wr => ∃ b g tb, q = .pointer (some ⟨b, 0, none⟩) ∧ RAt wr b g tb (List.replicate (N + 2) 0) ∧ Below w0.heap.size w0 wr ∧ w0.heap.size ≤ g)
  case first =>
    have KS : ∀ w' : World, Below w0.heap.size w0 w' → w'.cell? ⟨L, 1, none⟩ = some (.int .i64 (N : Int)) := fun w' hb => (hb.cell (p := ⟨L, 1, none⟩) hlL).trans (bx.cell 1)
    have Bd : Below w0.heap.size w0 w0.drew := ⟨rfl, rfl, rfl, Nat.le_refl _, fun _ _ => rfl⟩
    have bm := (Below.refl w0.heap.size w0).alloc (Nat.le_refl _) (.cells (madeCells #[.int .i64 0] (N + 2)) 121 (0, 0))
    have Bm : Below w0.heap.size w0 (w0.alloc (.cells (madeCells #[.int .i64 0] (N + 2)) 121 (0, 0))).drew := ⟨bm.os, bm.tape, bm.output, bm.size, bm.block⟩
    go_region_held (fun (w' : World) => w'.cell? ⟨L, 1, none⟩ = some (.int .i64 (N : Int))) (first | exact KS _ Bm | exact KS _ Bd | exact KS _ B1 | exact KS _ (B1.alloc B1.size _) | exact KS _ ((B1.alloc B1.size _).alloc (Nat.le_trans B1.size (by simp)) _)) (first | (go_at_call 63; refine (hop _).mono ?_; rintro z w1 ⟨⟨tb, ⟨htb, hbt⟩, rfl⟩, hb1⟩; have hsz := htb.size; first | (have B1 := Bd.trans (hb1.mono Bd.size)) | (have B1 := Bm.trans (hb1.mono Bm.size))))
    all_goals
      rw [hbt]
      go_wp2_with fail
      go_meet
      case rel =>
        first
        | exact ⟨w1.heap.size, w0.heap.size, tb, rfl, rat_of htb ((made_at w0 (N + 2) 121).of_block (hb1.block _ (by simp))) (by omega), B1.alloc B1.size _, Nat.le_refl _⟩
        | exact ⟨w1.heap.size + 1, w1.heap.size, tb, rfl, by have := rat_of htb (made_at w1 (N + 2) 121) (by omega : N + 2 ≤ 60); simpa using this, (B1.alloc B1.size _).alloc (Nat.le_trans B1.size (by simp)) _, B1.size⟩
  case rest =>
    obtain ⟨b, g, tb, rfl, r1, B1, hg⟩ := hcut
    obtain ⟨wX, rfl⟩ : ∃ wX : World, wX = wc := ⟨_, rfl⟩
    have zX := B1.size
    have lb := r1.cells.lt
    have lg := r1.words.lt
    have hne := r1.ne
    have bxX := bx.of_block (B1.block _ hlL)
    clear hop hmk hwr ecast
    go_wp2_with fail
    go_loopg [19] N (fun gk i wr => ∃ k : Nat, k + gk = N ∧ i = .int .i64 (k : Int) ∧ RAt wr b g tb (ms.take k ++ List.replicate (N + 2 - k) 0) ∧ But g wX wr)
    case atStart => exact ⟨0, by omega, rfl, by simpa using r1, But.refl _ _⟩
    case round =>
      obtain ⟨k, hk, rfl, rr, Bk⟩ := hrel
      have zk := Bk.size
      cases gk with
      | succ g1 =>
        have hz : (k : Int) < (N : Int) := by omega
        obtain ⟨u, hu⟩ : ∃ u, ms[k]? = some u := ⟨_, List.getElem?_eq_getElem (by omega)⟩
        obtain ⟨gm, o, rfl, hgm, hcm⟩ := HM.out k u hu
        have vm : wr.cell? ⟨gm, o + k, none⟩ = some (.int .i64 u) := (World.cell?_of_block (a := ⟨gm, o + k, none⟩) (Bk.block gm (by omega) (by omega))).trans (((B1.cell (p := ⟨gm, o + k, none⟩) (show gm < w0.heap.size by omega)).trans (B0.cell (p := ⟨gm, o + k, none⟩) hgm)).trans hcm)
        have hlen : (ms.take k ++ List.replicate (N + 2 - k) (0 : Int)).length = N + 2 := by rw [List.length_append, List.length_take, List.length_replicate]; omega
        have c0 := rr.cells.cell 0
        simp only [List.getElem?_cons_zero] at c0
        rw [hlen] at c0
        have hz2 : (k : Int) < (N : Int) + 2 := by omega
        have cw := rr.word (k := k) (by rw [hlen]; omega)
        have fw := rr.words.frozen k
        have rs := rr.set hne k u
        have e := (V.fill_step hms (show k < N by omega) (N + 2)).resolve_right (by omega)
        rw [List.getD_eq_getElem?_getD, hu, Option.getD_some] at e
        rw [e] at rs
        have lb' := rr.cells.lt
        clear e
        go_wp2_with fail
        go_roundg g1
        case measure => omega
        case rel => exact ⟨k + 1, by omega, by go_num, rs, Bk.set k _⟩
      | zero =>
        have hz : ¬ ((k : Int) < (N : Int)) := by omega
        have e : ms.take k ++ List.replicate (N + 2 - k) 0 = ms ++ [0, 0] := by rw [List.take_of_length_le (by omega), show N + 2 - k = 2 by omega]; rfl
        rw [e] at rr
        obtain ⟨wY, rfl⟩ : ∃ wY : World, wY = wr := ⟨_, rfl⟩
        have nLg : L ≠ g := by omega
        have bxY := bxX.of_block (Bk.block _ bxX.lt nLg)
        have p2 := bxY.cell 2
        simp only [List.getElem?_cons_zero, List.getElem?_cons_succ] at p2
        have kp : ∀ q, q < L → q < w.heap.size → wY.heap[q]? = w.heap[q]? := fun q h1 h2 => (Bk.block q (by omega) (by omega)).trans ((B1.block q (by omega)).trans (B0.block q h1))
        have hcall := rds_c l (fun k => k < L) wY b g tb (ms ++ [0, 0]) (.slice da dn dc) us rr (HDR.out.keep kp) (HDE.out.keep kp) (by rw [List.length_append, hms]; exact HW.out) (fun q hq => by omega)
        have hW1 : (V.rds l (ms ++ [0, 0])).length = N + 2 := by rw [V.rds_len, List.length_append, hms]; rfl
        clear HDR HDE HM e rr
        generalize hWW : V.rds l (ms ++ [0, 0]) = W1 at *
        go_wp2_with fail
        refine hcall.mono ?_
        rintro x w5 ⟨rfl, r5, hb5⟩
        have bx5 := bxY.of_block (hb5.block _ bxY.lt nLg)
        have p1 := bx5.cell 1
        simp only [List.getElem?_cons_zero, List.getElem?_cons_succ] at p1
        have z5 := hb5.size
        have aR := made_at w5 N 3
        have l5b := r5.cells.lt
        have l5g := r5.words.lt
        have BW5 : Below L w w5 := (B0.trans (B1.mono (by omega))).trans ((but_lower (Bk.trans hb5) (show L ≤ g by omega) (show L ≤ wX.heap.size by omega)))
        have BW6 := BW5.alloc (show L ≤ w5.heap.size by omega) (.cells (madeCells #[.int .i64 0] N) 3 (0, 0))
        have r6 := r5.below ((Below.refl _ _).alloc (Nat.le_refl _) (.cells (madeCells #[.int .i64 0] N) 3 (0, 0)))
        go_wp2_with fail
        generalize w5.alloc (.cells (madeCells #[.int .i64 0] N) 3 (0, 0)) = w6 at *
        generalize hG2 : w5.heap.size = G2 at *
        go_loopg [41] N (fun gk i wr => ∃ k : Nat, k + gk = N ∧ i = .int .i64 (k : Int) ∧ At wr G2 3 ((W1.take k ++ List.replicate (N - k) 0).map fun n => .int .i64 n) ∧ But G2 w6 wr)
        case atStart => exact ⟨0, by omega, rfl, by simpa using aR, But.refl _ _⟩
        case round =>
          obtain ⟨j, hj, rfl, aJ, Bj⟩ := hrel
          have lJ := aJ.lt
          cases gk with
          | succ g1 =>
            have hy : (j : Int) < (N : Int) := by omega
            have rj := r6.keep (Bj.block b r6.cells.lt (by omega)) (Bj.block g r6.words.lt (by omega))
            have c0 := rj.cells.cell 0
            simp only [List.getElem?_cons_zero] at c0
            rw [hW1] at c0
            have hz2 : (j : Int) < (N : Int) + 2 := by omega
            have cw := rj.word (k := j) (by omega)
            have lj := rj.cells.lt
            obtain ⟨u, hu⟩ : ∃ u, W1[j]? = some u := ⟨_, List.getElem?_eq_getElem (by omega)⟩
            rw [List.getD_eq_getElem?_getD, hu, Option.getD_some] at cw
            have hJl : ((W1.take j ++ List.replicate (N - j) (0 : Int)).map fun n => Value.int .i64 n)[j]? = some (.int .i64 0) := by
              rw [List.getElem?_map, List.getElem?_append_right (by rw [List.length_take]; omega), List.length_take, List.getElem?_replicate, if_pos (by omega)]
              rfl
            have cj := (aJ.cell j).trans hJl
            have fj := aJ.frozen j
            have asj := aJ.set j (.int .i64 u)
            have e : ((W1.take j ++ List.replicate (N - j) (0 : Int)).map fun n => Value.int .i64 n).set j (.int .i64 u) = (W1.take (j + 1) ++ List.replicate (N - (j + 1)) 0).map fun n => .int .i64 n := by
              rw [← List.map_set]
              congr 1
              have hl : (W1.take j).length = j := by rw [List.length_take]; omega
              rw [List.set_append_right _ _ (by omega), hl, Nat.sub_self, show N - j = (N - (j + 1)) + 1 by omega, List.replicate_succ, List.set_cons_zero, List.take_add_one, hu, List.append_assoc]
              rfl
            rw [e] at asj
            clear e hJl
            go_wp2_with fail
            go_roundg g1
            case measure => omega
            case rel => exact ⟨j + 1, by omega, by go_num, asj, Bj.set j _⟩
          | zero =>
            have hy : ¬ ((j : Int) < (N : Int)) := by omega
            have ej : j = N := by omega
            subst ej
            rw [Nat.sub_self, List.replicate_zero, List.append_nil] at aJ
            go_wp2_with fail
            go_ret
            exact ⟨⟨G2, rfl, by omega, by rw [← List.map_take]; exact aJ⟩, BW6.trans (but_lower Bj (by omega) (by have := BW6.size; have := r6.cells.lt; omega))⟩
end Go.Proofs.YtjgiefnjmngdkaaGreatDoor
