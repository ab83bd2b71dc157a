import Derived.Test.YtejbgcloblpbfaaGreatDoorB39
import Derived.Test.YtejbgcloblpbfaaGreatDoorB44
import Derived.Deep.LoopGhost
import Derived.Deep.RegionLaw
import Derived.Deep.RegionHeldLaw
namespace Go.Proofs.YtejbgcloblpbfaaGreatDoor
open Go.RowKit
open K (Nm Ex Do)
namespace Y
def okl (l : List Ins) : Prop := ∀ i ∈ l, okI i
theorem okl.nil : okl [] := fun _ h => by cases h
theorem okl.cons {i : Ins} {l : List Ins} (h : okI i) (k : okl l) : okl (i :: l) := fun j hj => by
  rcases List.mem_cons.1 hj with rfl | hj
  · exact h
  · exact k j hj
theorem okl.app {a b : List Ins} (h : okl a) (k : okl b) : okl (a ++ b) := fun j hj => (List.mem_append.1 hj).elim (h j) (k j)
theorem kpC_ok (g w : List Nat) (a : Nat) : okl (kpC g w a) := by
  unfold kpC
  split
  · exact okl.nil
  · exact .cons trivial (.cons trivial .nil)
theorem ftC_ok (g : List Nat) (k : Kp) : okl (ftC g k) := by
  cases k
  · exact okl.nil
  · exact .cons trivial (.cons trivial .nil)
theorem plC_ok (g : List Nat) (r : Nat) (n : Nm) : okl (plC g r n) := by
  have t : ∀ o : UInt8, V.isOp o = true → ∀ a b c, okI (.bin o a b c) := fun o h _ _ _ => h
  exact .cons trivial (.cons (t 47 (by decide) _ _ _) (.cons (t 42 (by decide) _ _ _) (.cons (t 45 (by decide) _ _ _) (.cons (t 43 (by decide) _ _ _) (.cons (t 47 (by decide) _ _ _) (.cons (t 42 (by decide) _ _ _) (.cons (t 45 (by decide) _ _ _) (.cons trivial (.cons (t 43 (by decide) _ _ _) .nil)))))))))
theorem exC_ok {N : Nat} : ∀ {e : Ex}, V.wfE N e → ∀ g w : List Nat, okl (exC g w e).1
  | .num v, _, g, w => .cons trivial .nil
  | .use n, _, g, w => .cons trivial (.cons trivial .nil)
  | .get p n e, h, g, w => by
    unfold V.wfE at h
    rw [exC]
    exact (exC_ok h.2.2.2.2 g w).app ((plC_ok _ _ _).app (.cons trivial .nil))
  | .op p o l r, h, g, w => by
    unfold V.wfE at h
    rw [exC]
    exact (exC_ok h.2.1 _ _).app ((kpC_ok _ _ _).app ((exC_ok h.2.2 _ _).app ((ftC_ok _ _).app (.cons (show okI (.bin o _ _ _) from h.1) .nil))))
  | .cho p q y n, h, g, w => by
    unfold V.wfE at h
    rw [exC]
    exact (exC_ok h.1 _ _).app ((kpC_ok _ _ _).app ((exC_ok h.2.1 _ _).app ((kpC_ok _ _ _).app ((exC_ok h.2.2 _ _).app ((ftC_ok _ _).app ((ftC_ok _ _).app (.cons trivial .nil)))))))
  | .none, h, g, w => by unfold V.wfE at h; exact h.elim
theorem chC_ok (g : List Nat) (p r : Nat) (k : Option Nat) : okl (chC g p r k) := by
  cases k
  · exact .cons trivial .nil
  · exact .cons trivial (.cons trivial (.cons trivial (.cons trivial (.cons trivial .nil))))
theorem coC_ok (g : List Nat) (r a b : Nat) (k : Option Nat) : okl (coC g r a b k) := by
  unfold coC
  refine okl.app ?_ (.cons trivial (.cons trivial (.cons trivial (.cons trivial (.cons trivial (.cons trivial (.cons trivial .nil)))))))
  cases k
  · exact .cons trivial .nil
  · exact .cons trivial (.cons trivial .nil)
theorem roC_ok (g : List Nat) (r c : Nat) : okl (roC g r c) := .cons trivial (.cons (show V.isOp 60 = true by decide) (.cons trivial (.cons trivial (.cons trivial .nil))))
theorem hdC_ok (cp : Int) (c d : Nat) : okl (hdC cp c d) := .cons trivial (.cons trivial (.cons trivial (.cons trivial (.cons (show V.isOp 60 = true by decide) (.cons trivial .nil)))))
theorem onC_ok (cp : Int) (d : Nat) : okl (onC cp d) := .cons trivial (.cons trivial (.cons trivial (.cons (show V.isOp 43 = true by decide) (.cons trivial (.cons trivial (.cons trivial .nil))))))
mutual
theorem doC_ok {N : Nat} : ∀ (d : Do), V.wfD N d → ∀ (p : Nat) (w : List Nat) (k : Option Nat), okl (doC p w k d)
  | .set _ n e, h, p, w, k => by
    unfold V.wfD at h
    rw [doC]
    exact (exC_ok h.2.2 _ _).app (.cons trivial (chC_ok _ _ _ _))
  | .put _ n i e, h, p, w, k => by
    unfold V.wfD at h
    rw [doC]
    exact (exC_ok h.2.2.2.2.2 _ _).app ((exC_ok h.2.2.2.2.1 _ _).app ((plC_ok _ _ _).app (chC_ok _ _ _ _)))
  | .ifs _ q y n, h, p, w, k => by
    unfold V.wfD at h
    rw [doC]
    split
    · exact (exC_ok h.1 _ _).app ((coC_ok _ _ _ _ _).app ((dosC_ok y h.2.1 _ _ _).app (dosC_ok n h.2.2 _ _ _)))
    · exact (exC_ok h.1 _ _).app (.cons trivial ((dosC_ok y h.2.1 _ _ _).app (.cons trivial (dosC_ok n h.2.2 _ _ _))))
  | .fors _ n r l, h, p, w, k => by
    unfold V.wfD at h
    rw [doC]
    exact (exC_ok h.2.2.1 _ _).app ((roC_ok _ _ _).app (okl.app (.cons trivial (.cons trivial (.cons trivial .nil))) ((hdC_ok _ _ _).app ((dosC_ok l h.2.2.2 _ _ _).app (onC_ok _ _)))))
  | .none, h, p, w, k => by rw [doC]; exact okl.nil
theorem dosC_ok {N : Nat} : ∀ (l : List Do), V.wfL N l → ∀ (p : Nat) (w : List Nat) (k : Option Nat), okl (dosC p w k l)
  | [], h, p, w, k => by rw [dosC]; exact okl.nil
  | d :: l, h, p, w, k => by
    unfold V.wfL at h
    rw [dosC]
    exact (doC_ok d h.1 _ _ _).app (dosC_ok l h.2 _ _ _)
end
theorem prC_ok {N M : Nat} {l : List Do} (h : V.wfL M l) : okl (prC N l) := (dosC_ok l h _ _ _).app (.cons trivial .nil)
mutual
theorem sc_wf {N : Nat} : ∀ (d : Do) {dep : Nat}, dep ≤ 2 → Sc N dep d → V.wfD (N + 2) d
  | .set _ n e, dep, h2, h => by
    unfold Sc at h
    unfold V.wfD
    exact ⟨h.1, by have := h.2.1; omega, wfE_mono (by omega) h.2.2⟩
  | .put _ n i e, dep, h2, h => by
    unfold Sc at h
    unfold V.wfD
    exact ⟨h.1, h.2.1, h.2.2.1, by have := h.2.2.2.1; omega, wfE_mono (by omega) h.2.2.2.2.1, wfE_mono (by omega) h.2.2.2.2.2⟩
  | .ifs _ q y n, dep, h2, h => by
    unfold Sc at h
    unfold V.wfD
    exact ⟨wfE_mono (by omega) h.1, scl_wf y h2 h.2.1, scl_wf n h2 h.2.2⟩
  | .fors _ n r l, dep, h2, h => by
    unfold Sc at h
    unfold V.wfD
    exact ⟨by rw [h.1]; omega, by rw [h.1]; have := h.2.1; omega, wfE_mono (by omega) h.2.2.1, scl_wf l (by have := h.2.1; omega) h.2.2.2⟩
  | .none, dep, h2, h => by unfold Sc at h; exact h.elim
theorem scl_wf {N : Nat} : ∀ (l : List Do) {dep : Nat}, dep ≤ 2 → ScL N dep l → V.wfL (N + 2) l
  | [], dep, h2, h => by unfold V.wfL; trivial
  | d :: l, dep, h2, h => by
    unfold ScL at h
    unfold V.wfL
    exact ⟨sc_wf d h2 h.1, scl_wf l h2 h.2⟩
end
end Y
end Go.Proofs.YtejbgcloblpbfaaGreatDoor
namespace Go.Proofs.YtejbgcloblpbfaaGreatDoor
open Go.RowKit
open K (Nm Ex Do)
namespace Y
theorem code_cell {w : World} {B g cc : Nat} {C : List Ins} (o : w.ownsRow B 58 5 (.slice (some ⟨g, 0, none⟩) C.length cc) C.length (C.flatMap inV)) {pc : Nat} {i : Ins} (hi : C[pc]? = some i) {n0 n1 n2 n3 n4 : Int} (hn : inN i = [n0, n1, n2, n3, n4]) :
    w.cell? ⟨g, 5 * pc, none⟩ = some (.int .i64 n0) ∧ w.cell? ⟨g, 5 * pc + 1, none⟩ = some (.int .i64 n1) ∧ w.cell? ⟨g, 5 * pc + 2, none⟩ = some (.int .i64 n2) ∧ w.cell? ⟨g, 5 * pc + 3, none⟩ = some (.int .i64 n3) ∧ w.cell? ⟨g, 5 * pc + 4, none⟩ = some (.int .i64 n4) := by
  have hlt := (List.getElem?_eq_some_iff.1 hi).1
  have hC : C = C.take pc ++ i :: C.drop (pc + 1) := by
    have e1 := (List.getElem?_eq_some_iff.1 hi).2
    rw [← e1, ← List.drop_eq_getElem_cons hlt, List.take_append_drop]
  have hA : (C.take pc).length = pc := by rw [List.length_take]; omega
  have hx : C.flatMap inV = (C.take pc).flatMap inV ++ ([.int .i64 n0, .int .i64 n1, .int .i64 n2, .int .i64 n3, .int .i64 n4] ++ (C.drop (pc + 1)).flatMap inV) := by
    conv => lhs; rw [hC]
    rw [List.flatMap_append, List.flatMap_cons]
    have : inV i = [.int .i64 n0, .int .i64 n1, .int .i64 n2, .int .i64 n3, .int .i64 n4] := by unfold inV; rw [hn]; rfl
    rw [this]
  have hl := flat_len (C.take pc)
  rw [hA] at hl
  obtain ⟨_, ⟨e1, _⟩ | ⟨g', cap', cur, e1, _, hg, hc, _, hs, ht⟩⟩ := o
  · cases e1
  · cases e1
    have aC : At w g 58 cur.toList := by unfold At; rw [hg]
    have key : ∀ j u, j < 5 → ([.int .i64 n0, .int .i64 n1, .int .i64 n2, .int .i64 n3, .int .i64 n4] : List Value)[j]? = some u → w.cell? ⟨g, 5 * pc + j, none⟩ = some u := by
      intro j u hj hu
      rw [aC.cell]
      have e2 : (C.flatMap inV)[5 * pc + j]? = some u := by
        rw [hx, List.getElem?_append_right (by omega), hl, Nat.add_sub_cancel_left, List.getElem?_append_left (by simpa using hj), hu]
      rw [← ht, List.getElem?_take] at e2
      split at e2
      · exact e2
      · cases e2
    exact ⟨key 0 _ (by omega) rfl, key 1 _ (by omega) rfl, key 2 _ (by omega) rfl, key 3 _ (by omega) rfl, key 4 _ (by omega) rfl⟩
theorem inN_form (i : Ins) : ∃ n0 n1 n2 n3 n4, inN i = [n0, n1, n2, n3, n4] := by cases i <;> exact ⟨_, _, _, _, _, rfl⟩
theorem MAt.grow {w w3 : World} {b lo : Nat} {R M : Nat → Int} {S S' : List Int} {sv nv : Value} (a1 : At w b 73 (mcells R M sv)) (o1 : w.ownsRow lo 3 1 sv S.length (ints S)) (hlo : b < lo) (hlo' : lo ≤ w.heap.size)
    (hrow : w3.ownsRow 0 3 1 nv S'.length (ints S')) (hb : w3.heap[b]? = w.heap[b]?) (hk : ∀ k, nv.ownBlock = some k → sv.ownBlock = some k ∨ w.heap.size ≤ k) : MAt (w3.setCell ⟨b, 264, none⟩ nv) b lo R M S' := by
  have a3 := (a1.of_block hb).set 264 nv
  rw [mc_setS] at a3
  refine ⟨⟨nv, a3, own_up (ownsRow_setCell_other hrow (fun e => ?_) _) (fun k e => ?_)⟩, hlo⟩
  · rcases hk _ e with e' | e'
    · have h9 : lo ≤ b := (o1.lt _ e').1; omega
    · have h9 : w.heap.size ≤ b := e'; have := a1.lt; omega
  · rcases hk k e with e' | e'
    · exact (o1.lt k e').1
    · omega
theorem go_zero {C : List Ins} {s s' : Ma} (h : go C 0 s = some s') : s = s' := by unfold go at h; cases h; rfl
theorem go_succ {C : List Ins} {n : Nat} {s s' : Ma} (h : go C (n + 1) s = some s') : ∃ i s1, C[s.pc]? = some i ∧ step i s = some s1 ∧ go C n s1 = some s' := by
  rw [go] at h
  cases hc : C[s.pc]? with
  | none => rw [hc] at h; cases h
  | some i =>
    rw [hc] at h
    dsimp only at h
    cases hs : step i s with
    | none => rw [hs] at h; cases h
    | some s1 => rw [hs] at h; exact ⟨i, s1, rfl, hs, h⟩
theorem step_seen {i : Ins} {s s' : Ma} (h : step i s = some s') : s'.seen.length ≤ s.seen.length + 3 := by
  cases i <;> simp only [step] at h
  all_goals (try split at h) <;> (try cases h) <;> simp
  all_goals split <;> simp
theorem pc_next {n : Nat} (h : n ≤ 100000) : wrap64 ((n : Int) + 1) = ((n + 1 : Nat) : Int) ∧ IntKind.i64.wrap ((n : Int) + 1) = ((n + 1 : Nat) : Int) := by
  refine ⟨by unfold wrap64; omega, by rw [IntKind.wrap_i64]; omega⟩
theorem lt8 {n : Nat} (h : n < 8) : (n : Int) < 8 := by omega
theorem opn_ne {o : UInt8} (h : V.isOp o = true) (hd : ¬ o = 47) : ∃ nn, opn o = nn ∧ ¬ nn = 15 ∧ ¬ nn = 1 ∧ ¬ nn = 10 ∧ ¬ nn = 11 ∧ ¬ nn = 12 ∧ ¬ nn = 13 ∧ ¬ nn = 14 ∧ ¬ nn = 9 := by
  refine ⟨_, rfl, ?_⟩
  unfold V.isOp at h
  simp only [Bool.or_eq_true, beq_iff_eq] at h
  rcases h with ((((((rfl | rfl) | rfl) | rfl) | rfl) | rfl) | rfl) | rfl
  all_goals first | (exact absurd rfl hd) | decide
theorem seen1 {l : List Int} {x : Int} {k : Nat} (h : l.length ≤ 3 * k) : (l ++ [x]).length ≤ 3 * (k + 1) := by rw [List.length_append]; simp; omega
theorem seen2 {l : List Int} {x y : Int} {k : Nat} (h : l.length ≤ 3 * k) : (l ++ [x, y]).length ≤ 3 * (k + 1) := by rw [List.length_append]; simp; omega
theorem seen3 {l m : List Int} {k : Nat} (h : l.length ≤ 3 * k) (hm : m.length ≤ 3) : (l ++ m).length ≤ 3 * (k + 1) := by rw [List.length_append]; omega
theorem rounds1 {k m n : Nat} (h : k + (m + 1 + 1) = n + 1) : k + 1 + (m + 1) = n + 1 := by omega
theorem MAt.ready {w : World} {b lo : Nat} {R M : Nat → Int} {S : List Int} (h : MAt w b lo R M S) : ∃ sa sc, w.cell? ⟨b, 264, none⟩ = some (.slice sa S.length sc) ∧ w.frozen? ⟨b, 264, none⟩ = false ∧ At w b 73 (mcells R M (.slice sa S.length sc)) ∧ w.ownsRow lo 3 1 (.slice sa S.length sc) S.length (ints S) ∧ ¬ (Value.slice sa S.length sc).ownBlock = some b := by
  obtain ⟨sv, aS, oS⟩ := h.rows
  obtain ⟨sa, sc, rfl⟩ : ∃ sa sc, sv = .slice sa S.length sc := by
    rcases Joins.ownsRow_forms oS with ⟨rfl, h0⟩ | ⟨g, c, rfl⟩
    · exact ⟨none, 0, by rw [h0]⟩
    · exact ⟨_, _, rfl⟩
  refine ⟨sa, sc, (aS.cell 264).trans mc_seen, aS.frozen 264, aS, oS, fun e => ?_⟩
  have := (oS.lt _ e).1
  have := h.lo
  omega
theorem MAt.grown {w wa w3 : World} {b lo : Nat} {R M : Nat → Int} {S T : List Int} {sa : Option Addr} {sc gg cap3 n : Nat} (hn : T.length = n) (h : MAt w b lo R M S) (hlo : lo ≤ w.heap.size) (aS : At w b 73 (mcells R M (.slice sa S.length sc))) (oS : w.ownsRow lo 3 1 (.slice sa S.length sc) S.length (ints S)) (hba : ∀ k, k < w.heap.size → wa.heap[k]? = w.heap[k]?) (hza : w.heap.size ≤ wa.heap.size) (qo : wa.os = w.os) (qt : wa.tape = w.tape) (qp : wa.output = w.output)
    (hrow : w3.ownsRow 0 3 1 (.slice (some ⟨gg, 0, none⟩) (S.length + n) cap3) (S.length + n) (ints S ++ ints T)) (hgr : wa.grownBy w3 (Value.slice sa S.length sc).ownBlock) (hkk : ∀ k, (Value.slice (some ⟨gg, 0, none⟩) (S.length + n) cap3).ownBlock = some k → (Value.slice sa S.length sc).ownBlock = some k ∨ wa.heap.size ≤ k) :
    MAt (w3.setCell ⟨b, 264, none⟩ (.slice (some ⟨gg, 0, none⟩) (S.length + n) cap3)) b lo R M (S ++ T) ∧ (∀ k, k < w.heap.size → k ≠ b → ¬ (Value.slice sa S.length sc).ownBlock = some k → (w3.setCell ⟨b, 264, none⟩ (.slice (some ⟨gg, 0, none⟩) (S.length + n) cap3)).heap[k]? = w.heap[k]?) ∧ (∀ a : World, a.heap.size = lo → But b a w → But b a (w3.setCell ⟨b, 264, none⟩ (.slice (some ⟨gg, 0, none⟩) (S.length + n) cap3))) := by
  have hb := aS.lt
  have hlo' := h.lo
  have nbs : ¬ (Value.slice sa S.length sc).ownBlock = some b := fun e => by have := (oS.lt _ e).1; omega
  have e3 : ints (S ++ T) = ints S ++ ints T := by unfold ints; rw [List.map_append]
  have kp : ∀ k, k < w.heap.size → k ≠ b → ¬ (Value.slice sa S.length sc).ownBlock = some k → (w3.setCell ⟨b, 264, none⟩ (.slice (some ⟨gg, 0, none⟩) (S.length + n) cap3)).heap[k]? = w.heap[k]? := fun k h1 h2 h3 => (heap_setCell_other _ ⟨b, 264, none⟩ k _ h2).trans ((hgr.block k (by omega) (fun e => h3 e.symm)).trans (hba k h1))
  refine ⟨MAt.grow (w3 := w3) aS oS hlo' hlo (by rw [List.length_append, e3, hn]; exact hrow) ((hgr.block b (by omega) (fun e => nbs e.symm)).trans (hba b hb)) (fun k e => (hkk k e).imp id (fun e' => by omega)), kp, fun a ha B => ?_⟩
  have := hgr.size
  refine ⟨(hgr.os.trans qo).trans B.os, (hgr.tape.trans qt).trans B.tape, (hgr.output.trans qp).trans B.output, by rw [World.size_setCell]; have := B.size; omega, fun k h1 h2 => ?_⟩
  exact (kp k (by have := B.size; omega) h2 (fun e => by have := (oS.lt k e).1; omega)).trans (B.block k h1 h2)
end Y
end Go.Proofs.YtejbgcloblpbfaaGreatDoor
