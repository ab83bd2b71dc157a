import Derived.Test.YtejbgcloblpbfaaGreatDoorR01
import Derived.Test.YtejbgcloblpbfaaGreatDoorR42
import Derived.Deep.RegionHeld
import Derived.Deep.QuietTactic
import Derived.Deep.RegionLawGrows
import Derived.Test.YtejbgcloblpbfaaGreatDoorR03
import Derived.Laws.AppendOwn
import Derived.Lib.SliceRun
namespace Go.Proofs.YtejbgcloblpbfaaGreatDoor
open Go.RowKit
section
variable {P : Program} {ops : Array Oper} {o : Oper} {a : Act} {w : World} {K : Act → World → Prop} {Q : Exit → Act → World → Prop} {E : Prop}
theorem st_of (hg : o.guard = none) (h : Oper.wp P o a w K Q) : if Region.wanted o (yielded ops a.tmps) = true then Oper.wp P o a w K Q else E := by
  have hw : Region.wanted o (yielded ops a.tmps) = true := by simp [Region.wanted, hg]
  rw [if_pos hw]; exact h
theorem st_run (hg : o.guard = none) {v : Value} {w' : World} (hr : (execOp a.eval o).run P w = .ok (.value v) w') (h : K (a.put o.dst v) w') : if Region.wanted o (yielded ops a.tmps) = true then Oper.wp P o a w K Q else E := by
  refine st_of hg ?_
  unfold Oper.wp
  rw [hr]
  exact h
theorem st_move (hg : o.guard = none) (x : Operand) (ho : o.op = .move x) (v : Value) (hv : a.eval x = v) (h : K (a.put o.dst v) w) : if Region.wanted o (yielded ops a.tmps) = true then Oper.wp P o a w K Q else E := by
  refine st_run hg ?_ h
  generalize a.eval = ev at *
  simp [execOp, ho, hv, go_sem]
theorem st_nil (hg : o.guard = none) (x : Operand) (ho : o.op = .nilCheck x) (p : Addr) (hv : a.eval x = .pointer (some p)) (h : K (a.put o.dst (.pointer (some p))) w) : if Region.wanted o (yielded ops a.tmps) = true then Oper.wp P o a w K Q else E := by
  refine st_run hg ?_ h
  generalize a.eval = ev at *
  simp [execOp, ho, hv, go_sem]
end
section
variable {ops : Array Oper} {o : Oper} {a : Act} {w : World} {K : Act → World → Prop} {Q : Exit → Act → World → Prop} {E : Prop}
theorem st_field (hg : o.guard = none) (x : Operand) (ho : o.op = .fieldAddr 45 x 0) (b : Nat) (hv : a.eval x = .pointer (some ⟨b, 0, none⟩)) (h : K (a.put o.dst (.pointer (some ⟨b, 0, none⟩))) w) : if Region.wanted o (yielded ops a.tmps) = true then Oper.wp Tryz.prog o a w K Q else E := by
  refine st_run hg ?_ h
  generalize a.eval = ev at *
  simp [execOp, ho, hv, go_sem]
theorem st_load (hg : o.guard = none) (x : Operand) (ho : o.op = .load 43 x) (b : Nat) (hv : a.eval x = .pointer (some ⟨b, 0, none⟩)) (v : Value) (hc : w.cell? ⟨b, 0, none⟩ = some v) (h : K (a.put o.dst v) w) : if Region.wanted o (yielded ops a.tmps) = true then Oper.wp Tryz.prog o a w K Q else E := by
  refine st_run hg ?_ h
  generalize a.eval = ev at *
  simp [execOp, ho, hv, go_sem, hc]
theorem st_store (hg : o.guard = none) (x y : Operand) (ho : o.op = .store 43 x y) (b : Nat) (hv : a.eval x = .pointer (some ⟨b, 0, none⟩)) (v : Value) (h' n c : Nat) (hy : a.eval y = .slice (some ⟨h', 0, none⟩) n c) (hc : w.cell? ⟨b, 0, none⟩ = some v) (hf : w.frozen? ⟨b, 0, none⟩ = false) (h : K (a.put o.dst undef) (w.setCell ⟨b, 0, none⟩ (.slice (some ⟨h', 0, none⟩) n c))) : if Region.wanted o (yielded ops a.tmps) = true then Oper.wp Tryz.prog o a w K Q else E := by
  refine st_of hg ?_
  unfold Oper.wp
  generalize a.eval = ev at *
  simp [execOp, ho, hv, go_sem, hc, hf, hy]
  exact h
theorem st_build1 (hg : o.guard = none) (x : Operand) (ho : o.op = .buildSlice 32 1 #[(0, x)]) (m : Int) (hv : a.eval x = .int .i64 m) (h : K (a.put o.dst (.slice (some ⟨w.heap.size, 0, none⟩) 1 1)) (w.alloc (.cells #[.int .i64 m] 3 (0, 0)))) : if Region.wanted o (yielded ops a.tmps) = true then Oper.wp Tryz.prog o a w K Q else E := by
  refine st_run hg ?_ h
  generalize a.eval = ev at *
  simp [execOp, ho, hv, go_sem]
theorem st_build2 (hg : o.guard = none) (x0 x1 : Operand) (ho : o.op = .buildSlice 32 2 #[(0, x0), (1, x1)]) (m : Int) (h0 : a.eval x0 = .int .i64 m) (h1 : a.eval x1 = .int .i64 m) (h : K (a.put o.dst (.slice (some ⟨w.heap.size, 0, none⟩) 2 2)) (w.alloc (.cells #[.int .i64 m, .int .i64 m] 3 (0, 0)))) : if Region.wanted o (yielded ops a.tmps) = true then Oper.wp Tryz.prog o a w K Q else E := by
  refine st_run hg ?_ h
  generalize a.eval = ev at *
  simp [execOp, ho, h0, h1, go_sem]
theorem st_build6 (hg : o.guard = none) (x0 x1 x2 x3 x4 x5 : Operand) (ho : o.op = .buildSlice 32 6 #[(0, x0), (1, x1), (2, x2), (3, x3), (4, x4), (5, x5)]) (m : Int) (h0 : a.eval x0 = .int .i64 m) (h1 : a.eval x1 = .int .i64 m) (h2 : a.eval x2 = .int .i64 m) (h3 : a.eval x3 = .int .i64 m) (h4 : a.eval x4 = .int .i64 m) (h5 : a.eval x5 = .int .i64 m)
    (h : K (a.put o.dst (.slice (some ⟨w.heap.size, 0, none⟩) 6 6)) (w.alloc (.cells #[.int .i64 m, .int .i64 m, .int .i64 m, .int .i64 m, .int .i64 m, .int .i64 m] 3 (0, 0)))) : if Region.wanted o (yielded ops a.tmps) = true then Oper.wp Tryz.prog o a w K Q else E := by
  refine st_run hg ?_ h
  generalize a.eval = ev at *
  simp [execOp, ho, h0, h1, h2, h3, h4, h5, go_sem]
theorem st_build4 (hg : o.guard = none) (x0 x1 x2 x3 : Operand) (ho : o.op = .buildSlice 103 4 #[(0, x0), (1, x1), (2, x2), (3, x3)]) (a0 a1 a2 a3 : Option Addr) (n0 n1 n2 n3 c0 c1 c2 c3 : Nat) (h0 : a.eval x0 = .slice a0 n0 c0) (h1 : a.eval x1 = .slice a1 n1 c1) (h2 : a.eval x2 = .slice a2 n2 c2) (h3 : a.eval x3 = .slice a3 n3 c3)
    (h : K (a.put o.dst (.slice (some ⟨w.heap.size, 0, none⟩) 4 4)) (w.alloc (.cells #[.slice a0 n0 c0, .slice a1 n1 c1, .slice a2 n2 c2, .slice a3 n3 c3] 32 (0, 0)))) : if Region.wanted o (yielded ops a.tmps) = true then Oper.wp Tryz.prog o a w K Q else E := by
  refine st_run hg ?_ h
  generalize a.eval = ev at *
  simp [execOp, ho, h0, h1, h2, h3, go_sem]
theorem st_buildB (hg : o.guard = none) (x0 : Operand) (ho : o.op = .buildSlice 43 1 #[(0, x0)]) (a0 : Option Addr) (n0 c0 : Nat) (h0 : a.eval x0 = .slice a0 n0 c0)
    (h : K (a.put o.dst (.slice (some ⟨w.heap.size, 0, none⟩) 1 1)) (w.alloc (.cells #[.slice a0 n0 c0] 103 (0, 0)))) : if Region.wanted o (yielded ops a.tmps) = true then Oper.wp Tryz.prog o a w K Q else E := by
  refine st_run hg ?_ h
  generalize a.eval = ev at *
  simp [execOp, ho, h0, go_sem]
end
end Go.Proofs.YtejbgcloblpbfaaGreatDoor
namespace Go.Proofs.YtejbgcloblpbfaaGreatDoor
open Go.RowKit
def Filled (w : World) (E : Nat → Prop) (m : Int) (v : Value) : Prop := ∃ ao n c, v = .slice ao n c ∧ n ≤ 100 ∧ ∀ j, j < n → ∃ g, ao = some ⟨g, 0, none⟩ ∧ E g ∧ w.cell? ⟨g, j, none⟩ = some (.int .i64 m)
def Entry (w : World) (E : Nat → Prop) (m : Int) (v : Value) : Prop := ∃ h, v = .slice (some ⟨h, 0, none⟩) 4 4 ∧ E h ∧ ∀ i, i < 4 → ∃ u, w.cell? ⟨h, i, none⟩ = some u ∧ Filled w E m u
theorem Filled.keep {w w' : World} {E E' : Nat → Prop} {m : Int} {v : Value} (h : Filled w E m v) (hb : ∀ k, E k → k < w.heap.size → w'.heap[k]? = w.heap[k]?) (hE : ∀ k, E k → E' k) : Filled w' E' m v := by
  obtain ⟨ao, n, c, hv, hn, hf⟩ := h
  refine ⟨ao, n, c, hv, hn, fun j hj => ?_⟩
  obtain ⟨g, h1, h2, h3⟩ := hf j hj
  exact ⟨g, h1, hE g h2, (World.cell?_of_block (hb g h2 (World.block_lt_of_cell? _ _ h3))).trans h3⟩
theorem Entry.keep {w w' : World} {E E' : Nat → Prop} {m : Int} {v : Value} (h : Entry w E m v) (hb : ∀ k, E k → k < w.heap.size → w'.heap[k]? = w.heap[k]?) (hE : ∀ k, E k → E' k) : Entry w' E' m v := by
  obtain ⟨h0, hv, he, hf⟩ := h
  refine ⟨h0, hv, hE _ he, fun i hi => ?_⟩
  obtain ⟨u, h1, h2⟩ := hf i hi
  exact ⟨u, (World.cell?_of_block (hb h0 he (World.block_lt_of_cell? _ _ h1))).trans h1, h2.keep hb hE⟩
theorem Entry.lt {w : World} {E : Nat → Prop} {m : Int} {v : Value} (h : Entry w E m v) : Entry w (fun k => E k ∧ k < w.heap.size) m v := by
  obtain ⟨h0, hv, he, hf⟩ := h
  obtain ⟨u0, c0, _⟩ := hf 0 (by omega)
  refine ⟨h0, hv, ⟨he, World.block_lt_of_cell? _ _ c0⟩, fun i hi => ?_⟩
  obtain ⟨u, h1, ao, n, c, hv', hn, hc⟩ := hf i hi
  refine ⟨u, h1, ao, n, c, hv', hn, fun j hj => ?_⟩
  obtain ⟨g, g1, g2, g3⟩ := hc j hj
  exact ⟨g, g1, ⟨g2, World.block_lt_of_cell? _ _ g3⟩, g3⟩
structure KP where
  b : Nat
  ao : Option Addr
  n : Nat
  m : Int
  bv : Value
  vs : List Value
  w0 : World
abbrev KP.L (p : KP) : Value := .slice p.ao p.n p.n
abbrev KP.B (p : KP) : Value := .pointer (some ⟨p.b, 0, none⟩)
def KP.N (p : KP) (k : Nat) : Prop := p.w0.heap.size ≤ k ∨ p.ao = some ⟨k, 0, none⟩
structure KP.Ok (p : KP) : Prop where
  few : p.n ≤ 54
  nil : p.ao = none → p.n = 0
  form : ∀ a, p.ao = some a → ∃ g, a = ⟨g, 0, none⟩ ∧ g < p.w0.heap.size
  full : Filled p.w0 p.N p.m p.L
  cells : ∀ a, p.ao = some a → ∀ j, j < p.n → p.w0.cell? (a.add j) = some (.int .i64 p.m)
  book : At p.w0 p.b 45 [p.bv]
  row : p.w0.ownsRow 0 103 1 p.bv p.vs.length p.vs
  off : ∀ k, p.bv.ownBlock = some k → ¬ p.N k ∧ k ≠ p.b
  offb : ¬ p.N p.b
  vfew : p.vs.length ≤ 10
structure KP.Mv (p : KP) (w w' : World) : Prop where
  os : w'.os = w.os
  tape : w'.tape = w.tape
  output : w'.output = w.output
  size : w.heap.size ≤ w'.heap.size
  block : ∀ k, k < w.heap.size → ¬ p.bv.ownBlock = some k → w'.heap[k]? = w.heap[k]?
theorem KP.Mv.refl (p : KP) (w : World) : p.Mv w w := ⟨rfl, rfl, rfl, Nat.le_refl _, fun _ _ _ => rfl⟩
theorem KP.Mv.trans {p : KP} {a b c : World} (h : p.Mv a b) (k : p.Mv b c) : p.Mv a c :=
  ⟨k.os.trans h.os, k.tape.trans h.tape, k.output.trans h.output, Nat.le_trans h.size k.size, fun i hi hn => (k.block i (Nat.lt_of_lt_of_le hi h.size) hn).trans (h.block i hi hn)⟩
theorem KP.Mv.of_below {p : KP} {w w' : World} (h : Below w.heap.size w w') : p.Mv w w' := ⟨h.os, h.tape, h.output, h.size, fun k hk _ => h.block k hk⟩
def KP.Blt (p : KP) (w : World) (k : Nat) (v : Value) : Prop := ∃ h, p.N h ∧ v = .slice (some ⟨h, 0, none⟩) k k ∧ At w h 3 (List.replicate k (.int .i64 p.m))
def KP.Lst (p : KP) (w : World) (v : Value) : Prop := ∃ h e, p.N h ∧ v = .slice (some ⟨h, 0, none⟩) 1 1 ∧ At w h 103 [e] ∧ Entry w p.N p.m e
def KP.New (p : KP) (w : World) (v : Value) : Prop := ∃ h c e z, v = .slice (some ⟨h, 0, none⟩) (p.vs.length + 1) c ∧ w.ownsRow 0 103 1 v (p.vs.length + 1) (p.vs ++ [e]) ∧ Entry w (fun k => p.N k ∧ k < z) p.m e ∧ (p.bv.ownBlock = some h ∨ z ≤ h ∧ p.w0.heap.size ≤ h) ∧ z ≤ w.heap.size
def KP.Sp (p : KP) (w : World) (v : Value) : Nat → Prop
  | 0 => v = p.B
  | 1 => v = p.B
  | 2 => v = p.B
  | 3 => v = p.B
  | 4 => v = p.bv
  | 5 => v = p.L
  | 6 => v = p.L
  | 7 => v = .int .i64 p.m
  | 8 => p.Blt w 1 v
  | 9 => Filled w p.N p.m v
  | 10 => v = p.L
  | 11 => v = .int .i64 p.m
  | 12 => v = .int .i64 p.m
  | 13 => p.Blt w 2 v
  | 14 => Filled w p.N p.m v
  | 15 => v = p.L
  | 16 => v = .int .i64 p.m
  | 17 => v = .int .i64 p.m
  | 18 => v = .int .i64 p.m
  | 19 => v = .int .i64 p.m
  | 20 => v = .int .i64 p.m
  | 21 => v = .int .i64 p.m
  | 22 => p.Blt w 6 v
  | 23 => Filled w p.N p.m v
  | 24 => Entry w p.N p.m v
  | 25 => p.Lst w v
  | 26 => p.New w v
  | 27 => v = p.B
  | 28 => v = p.B
  | _ => True
theorem KP.nb {p : KP} (h : p.Ok) {k : Nat} (hk : p.N k) : ¬ p.bv.ownBlock = some k := fun e => (h.off k e).1 hk
theorem KP.blocks {p : KP} (h : p.Ok) {w w' : World} (m : p.Mv w w') : ∀ k, p.N k → k < w.heap.size → w'.heap[k]? = w.heap[k]? := fun k hk hl => m.block k hl (p.nb h hk)
theorem KP.Blt.mv {p : KP} (h : p.Ok) {w w' : World} {k : Nat} {v : Value} (m : p.Mv w w') (b : p.Blt w k v) : p.Blt w' k v := by
  obtain ⟨x, h1, h2, h3⟩ := b
  exact ⟨x, h1, h2, h3.of_block (p.blocks h m x h1 h3.lt)⟩
theorem KP.Lst.mv {p : KP} (h : p.Ok) {w w' : World} {v : Value} (m : p.Mv w w') (b : p.Lst w v) : p.Lst w' v := by
  obtain ⟨x, e, h1, h2, h3, h4⟩ := b
  exact ⟨x, e, h1, h2, h3.of_block (p.blocks h m x h1 h3.lt), h4.keep (p.blocks h m) (fun _ x => x)⟩
theorem KP.Sp.mv {p : KP} (h : p.Ok) {w w' : World} {v : Value} (m : p.Mv w w') : ∀ {i : Nat}, i ≠ 26 → p.Sp w v i → p.Sp w' v i
  | 0, _, s => s
  | 1, _, s => s
  | 2, _, s => s
  | 3, _, s => s
  | 4, _, s => s
  | 5, _, s => s
  | 6, _, s => s
  | 7, _, s => s
  | 8, _, s => KP.Blt.mv h m s
  | 9, _, s => Filled.keep s (p.blocks h m) (fun _ x => x)
  | 10, _, s => s
  | 11, _, s => s
  | 12, _, s => s
  | 13, _, s => KP.Blt.mv h m s
  | 14, _, s => Filled.keep s (p.blocks h m) (fun _ x => x)
  | 15, _, s => s
  | 16, _, s => s
  | 17, _, s => s
  | 18, _, s => s
  | 19, _, s => s
  | 20, _, s => s
  | 21, _, s => s
  | 22, _, s => KP.Blt.mv h m s
  | 23, _, s => Filled.keep s (p.blocks h m) (fun _ x => x)
  | 24, _, s => Entry.keep s (p.blocks h m) (fun _ x => x)
  | 25, _, s => KP.Lst.mv h m s
  | 26, e, _ => absurd rfl e
  | 27, _, s => s
  | 28, _, s => s
  | _ + 29, _, _ => trivial
def KP.Fin (p : KP) (w : World) : Prop := ∃ v, At w p.b 45 [v] ∧ p.New w v ∧ w.os = p.w0.os ∧ w.tape = p.w0.tape ∧ w.output = p.w0.output ∧ p.w0.heap.size ≤ w.heap.size ∧ ∀ k, k < p.w0.heap.size → ¬ p.bv.ownBlock = some k → k ≠ p.b → w.heap[k]? = p.w0.heap[k]?
structure KI (p : KP) (listed : Array Bool) (a : Act) (w : World) : Prop where
  t0 : a.eval (.tmp 0) = p.B
  t1 : a.eval (.tmp 1) = p.L
  t4 : a.eval (.tmp 4) = .int .i64 p.m
  sz : a.tmps.size = 51
  df : a.defers = []
  sp : listed.getD 29 false = false → ∀ i, i < 29 → listed.getD i false = true → p.Sp w (a.eval (.tmp (22 + i))) i
  pre : listed.getD 29 false = false → p.Mv p.w0 w ∧ (listed.getD 26 false = false → Below p.w0.heap.size p.w0 w)
  post : listed.getD 29 false = true → p.Fin w
theorem KI.put {p : KP} {listed : Array Bool} {a : Act} {w w' : World} (k : KI p listed a w) (hs : listed.size = 30) {i : Nat} (hi : i < 29) {v : Value} (h29 : listed.getD 29 false = false) (hv : p.Sp w' v i)
    (hm : ∀ j u, j < 29 → j ≠ i → listed.getD j false = true → p.Sp w u j → p.Sp w' u j) (hp : p.Mv w w') (hp' : i ≠ 26 → listed.getD 26 false = false → Below w.heap.size w w') : KI p (listed.setIfInBounds i true) (a.put (some (22 + i)) v) w' := by
  have n29 : (listed.setIfInBounds i true).getD 29 false = false := by rw [getD_set (by omega), if_neg (by omega)]; exact h29
  refine ⟨(eval_put_ne (by omega)).trans k.t0, (eval_put_ne (by omega)).trans k.t1, (eval_put_ne (by omega)).trans k.t4, put_size.trans k.sz, put_defers.trans k.df, fun _ j hj hl => ?_, fun _ => ?_, fun h => by rw [n29] at h; cases h⟩
  · by_cases c : j = i
    · subst c; rw [eval_put_self (by rw [k.sz]; omega)]; exact hv
    · rw [eval_put_ne (by omega)]
      rw [getD_set (by omega), if_neg c] at hl
      exact hm j _ hj c hl (k.sp h29 j hj hl)
  · obtain ⟨q1, q2⟩ := k.pre h29
    refine ⟨q1.trans hp, fun h26 => ?_⟩
    rw [getD_set (by omega)] at h26
    by_cases c : 26 = i
    · rw [if_pos c] at h26; cases h26
    · rw [if_neg c] at h26
      exact (q2 h26).trans ((hp' (fun e => c e.symm) h26).mono (q2 h26).size)
theorem KI.quiet {p : KP} {listed : Array Bool} {a : Act} {w : World} (k : KI p listed a w) (hs : listed.size = 30) {i : Nat} (hi : i < 29) {v : Value} (h29 : listed.getD 29 false = false) (hv : p.Sp w v i) : KI p (listed.setIfInBounds i true) (a.put (some (22 + i)) v) w :=
  k.put hs hi h29 hv (fun _ _ _ _ _ h => h) (KP.Mv.refl p w) (fun _ _ => Below.refl _ _)
theorem KI.grow {p : KP} (ok : p.Ok) {listed : Array Bool} {a : Act} {w w' : World} (k : KI p listed a w) (hs : listed.size = 30) {i : Nat} (hi : i < 29) {v : Value} (h29 : listed.getD 29 false = false) (h26 : listed.getD 26 false = false) (hw : Below w.heap.size w w') (hv : p.Sp w' v i) : KI p (listed.setIfInBounds i true) (a.put (some (22 + i)) v) w' :=
  k.put hs hi h29 hv (fun j _ _ _ hl h => KP.Sp.mv ok (KP.Mv.of_below hw) (fun e => by rw [e, h26] at hl; cases hl) h) (KP.Mv.of_below hw) (fun _ _ => hw)
theorem getD_tf {listed : Array Bool} {i : Nat} (h : listed.getD i true = false) : listed.getD i false = false := by
  rw [Array.getD_eq_getD_getElem?] at h ⊢
  cases hx : listed[i]? with
  | none => rfl
  | some u => rw [hx] at h; simpa using h
theorem rep_cells {w : World} {h : Nat} {t : TypeId} {k : Nat} {v : Value} (a : At w h t (List.replicate k v)) : ∀ (j : Nat) u, (List.replicate k v)[j]? = some u → w.cell? ((⟨h, 0, none⟩ : Addr).add j) = some u := fun j u hu => olds_of a ⟨h, 0, none⟩ rfl j u hu
theorem KP.olds {p : KP} (ok : p.Ok) {w : World} (m : p.Mv p.w0 w) : ∀ b, p.ao = some b → ∀ (j : Nat) u, (List.replicate p.n (Value.int .i64 p.m))[j]? = some u → w.cell? (b.add j) = some u := by
  intro b hb j u hu
  obtain ⟨g, rfl, hg⟩ := ok.form b hb
  have hj : j < p.n := by have := (List.getElem?_eq_some_iff.1 hu).1; simpa using this
  have hu' : u = .int .i64 p.m := by rw [List.getElem?_replicate, if_pos hj] at hu; cases hu; rfl
  subst hu'
  refine (World.cell?_of_block ?_).trans (ok.cells _ hb j hj)
  have ea : ((⟨g, 0, none⟩ : Addr).add j).block = g := by unfold Addr.add; split <;> simp_all
  rw [ea]
  exact m.block g hg (p.nb ok (Or.inr hb))
theorem filled_of_own {w : World} {E : Nat → Prop} {m : Int} {v : Value} {n base k : Nat} (h : w.ownsRow base 3 1 v (n + k) (List.replicate n (Value.int .i64 m) ++ List.replicate k (.int .i64 m))) (hk : 0 < k) (hn : n + k ≤ 100) (hE : ∀ q, base ≤ q → E q) : Filled w E m v := by
  obtain ⟨g, c, rfl⟩ := Joins.ownsRow_form h (by omega)
  obtain ⟨h1, h2, h3⟩ := own_cells h
  refine ⟨_, _, _, rfl, hn, fun j hj => ⟨g, rfl, hE g h1, h3 j _ ?_⟩⟩
  rw [List.replicate_append_replicate, List.getElem?_replicate, if_pos hj]
theorem KI.app {p : KP} (ok : p.Ok) {listed : Array Bool} {a : Act} {w : World} (kI : KI p listed a w) (hs : listed.size = 30) (h29 : listed.getD 29 false = false) (h26 : listed.getD 26 false = false) {ops : Array Oper} {o : Oper} {K : Act → World → Prop} {Q : Exit → Act → World → Prop} {F : Prop} (hg : o.guard = none)
    (s x i k : Nat) (hi : i < 29) (hd : o.dst = some (22 + i)) (hop : o.op = Op.call { callee := Callee.builtin Builtin.append, args := #[.tmp s, .tmp x], argTypes := #[32, 32] }) (hs1 : a.eval (.tmp s) = p.L) (hx1 : p.Blt w k (a.eval (.tmp x))) (hk : 0 < k) (hk6 : k ≤ 6)
    (hSp : ∀ w' v, Filled w' p.N p.m v → p.Sp w' v i) (hK : ∀ a' w', KI p (listed.setIfInBounds i true) a' w' → K a' w') : if Region.wanted o (yielded ops a.tmps) = true then Oper.wp Tryz.prog o a w K Q else F := by
  obtain ⟨j0, ji, jz0, jz1, jz2⟩ := info_parts info_int
  obtain ⟨h, h1, h2, h3⟩ := hx1
  have few := ok.few
  have nil := ok.nil
  refine step_append_grows hg (.tmp s) (.tmp x) 32 hop 3 j0 (.int .i64 0) 1 8 Tryz.underlying32 ji jz0 jz1 jz2 rfl (by decide) p.ao p.n p.n (List.replicate p.n (.int .i64 p.m)) hs1 (fun e => ⟨nil e, nil e⟩) (by simp) (p.olds ok (kI.pre h29).1) ⟨h, 0, none⟩ k k (List.replicate k (.int .i64 p.m)) h2 (by simp) (rep_cells h3) (fun u hu => by rw [(List.mem_replicate.1 hu).2]; rfl) (by omega) (by unfold maxLen; omega) (by omega) ?_
  intro v' w' own gr
  rw [hd]
  have B : Below w.heap.size w w' := (Below.refl _ _).grown gr (Nat.le_refl _) (fun k hk => by cases hk)
  have hz := (kI.pre h29).1.size
  exact hK _ _ (kI.grow ok hs hi h29 h26 B (hSp _ _ (filled_of_own own hk (by omega) (fun q hq => Or.inl (by omega)))))
end Go.Proofs.YtejbgcloblpbfaaGreatDoor
namespace Go.Proofs.YtejbgcloblpbfaaGreatDoor
open Go.RowKit
set_option maxRecDepth 20000 in
theorem roomy_nil (w : World) : Calls Tryz.prog 20 #[.slice none 0 0] w fun x w' => x = .returned (.slice none 0 0) ∧ w' = w := by
  have hn : ∀ w : World, (binOp .eql 32 (.slice none 0 0) (.slice none 0 0)).run Tryz.prog w = .ok (.bool true) w := fun w => Lib.run_eql_slice_nil w _ _ none 0 0 0 0 Tryz.underlying32
  go_enter Tryz.func20, Tryz.ntmps20
  go_wp2_with fail
  go_ret
  exact ⟨rfl, rfl⟩
def eights : List Value := [.int .i64 (-77), .int .i64 (-77), .int .i64 (-77), .int .i64 (-77), .int .i64 (-77), .int .i64 (-77), .int .i64 (-77), .int .i64 (-77)]
theorem own_row {w : World} {base n : Nat} {e : TypeId} {v : Value} {l : List Value} (h : w.ownsRow base e 1 v n l) (hn : 0 < n) : ∃ g cap rest, v = .slice (some ⟨g, 0, none⟩) n cap ∧ base ≤ g ∧ n ≤ cap ∧ At w g e (l ++ rest) := by
  obtain ⟨hx, ⟨_, h0⟩ | ⟨g, cap, cur, hv, hb, hg, hc, _, hs, ht⟩⟩ := h
  · omega
  · refine ⟨g, cap, cur.toList.drop n, hv, hb, hc, ?_⟩
    unfold At
    have e : l ++ cur.toList.drop n = cur.toList := by
      have : l = cur.toList.take n := by
        have h2 := ht
        rw [Nat.mul_one] at h2
        exact h2.symm
      rw [this, List.take_append_drop]
    rw [hg, e]
set_option maxRecDepth 20000 in
set_option maxHeartbeats 1000000 in
theorem roomy_c {ms : List Int} {w : World} {gm om cm : Nat} (hm : (ms.length + 8) * 8 ≤ 140737488355328) (hM : ∀ (j : Nat) u, ms[j]? = some u → w.cell? ⟨gm, om + j, none⟩ = some (.int .i64 u)) :
    Calls Tryz.prog 20 #[.slice (some ⟨gm, om, none⟩) ms.length cm] w fun x w' => (∃ g c rest, x = .returned (.slice (some ⟨g, 0, none⟩) ms.length c) ∧ w.heap.size ≤ g ∧ ms.length + 8 ≤ c ∧ At w' g 3 (ints (ms ++ List.replicate 8 (-77)) ++ rest)) ∧ Below w.heap.size w w' := by
  have HM := hide hM
  clear hM
  obtain ⟨j0, ji, jz0, jz1, jz2⟩ := info_parts info_int
  have hn : ∀ w : World, (binOp .eql 32 (.slice (some ⟨gm, om, none⟩) ms.length cm) (.slice none 0 0)).run Tryz.prog w = .ok (.bool false) w := fun w => Lib.run_eql_slice_nil w _ _ (some ⟨gm, om, none⟩) ms.length cm 0 0 Tryz.underlying32
  have hsrc : ∀ (j : Nat) u, (ints ms)[j]? = some u → w.cell? ((⟨gm, om, none⟩ : Addr).add j) = some u := by
    intro j u hu
    unfold ints at hu
    rw [List.getElem?_map] at hu
    cases hx : ms[j]? with
    | none => rw [hx] at hu; simp at hu
    | some x =>
      rw [hx] at hu
      have ea : (⟨gm, om, none⟩ : Addr).add j = ⟨gm, om + j, none⟩ := by unfold Addr.add; split <;> simp_all
      rw [ea, HM.out j x hx]
      simpa using hu
  have hone : ∀ u ∈ ints ms, u.oneCell' = true := by
    intro u hu
    unfold ints at hu
    obtain ⟨x, _, rfl⟩ := List.mem_map.1 hu
    rfl
  have hlen : (ints ms).length = ms.length * 1 := by unfold ints; rw [List.length_map, Nat.mul_one]
  have b1 : Hid (0 + ms.length ≤ maxLen) := by show _ ≤ _; unfold maxLen; omega
  have b2 : Hid ((0 + ms.length) * 8 ≤ 140737488355328) := by show _ ≤ _; omega
  have b3 : Hid (0 + ms.length + 8 ≤ maxLen) := by show _ ≤ _; unfold maxLen; omega
  have b4 : Hid ((0 + ms.length + 8) * 8 ≤ 140737488355328) := by rw [Nat.zero_add]; exact hm
  clear hm
  have hsrc' := hide hsrc
  have hone' := hide hone
  clear hsrc hone
  go_enter Tryz.func20, Tryz.ntmps20
  go_wp2_with (first | (at_builtin; refine wpList_append_own _ rfl (.const (.slice none 0 0)) (.tmp 5) 32 rfl w.heap.size 3 j0 (.int .i64 0) 1 8 Tryz.underlying32 ji jz0 jz1 jz2 rfl (by decide) (.slice none 0 0) 0 [] rfl (World.ownsRow_nil _ _ _ 1) ⟨gm, om, none⟩ ms.length cm (ints ms) rfl hlen hsrc'.out hone'.out b1.out b2.out (Nat.le_refl _) ?_; intro v1 w1 own1 gr1 nil1; have O1 := hide own1; clear own1 nil1; have z1 := gr1.size) | (at_builtin; refine wpList_append_own _ rfl (.tmp 6) (.tmp 7) 32 rfl w.heap.size 3 j0 (.int .i64 0) 1 8 Tryz.underlying32 ji jz0 jz1 jz2 rfl (by decide) v1 (0 + ms.length) ([] ++ ints ms) rfl (O1.out.alloc _) ⟨w1.heap.size, 0, none⟩ 8 8 [.int .i64 (-77), .int .i64 (-77), .int .i64 (-77), .int .i64 (-77), .int .i64 (-77), .int .i64 (-77), .int .i64 (-77), .int .i64 (-77)] rfl rfl (by exact row_new w1 [.int .i64 (-77), .int .i64 (-77), .int .i64 (-77), .int .i64 (-77), .int .i64 (-77), .int .i64 (-77), .int .i64 (-77), .int .i64 (-77)] _) (by intro u hu; simp only [List.mem_cons, List.not_mem_nil, or_false, or_self] at hu; subst hu; rfl) b3.out b4.out (Nat.le_trans z1 (Nat.le_trans (Nat.le_succ _) (Nat.le_of_eq (size_alloc _ _).symm))) ?_; intro v2 w2 own2 gr2 nil2; clear nil2; obtain ⟨g2, c2, rest, e2, hg2, hc2, a2⟩ := own_row own2 (by omega); subst e2; have hc3 : ms.length ≤ c2 := by omega))
  go_wp2_with fail
  go_ret
  have B1 : Below w.heap.size w w1 := (Below.refl _ _).grown gr1 (Nat.le_refl _) (fun k hk => by cases hk)
  have B2 := (B1.alloc z1 (.cells #[.int .i64 (-77), .int .i64 (-77), .int .i64 (-77), .int .i64 (-77), .int .i64 (-77), .int .i64 (-77), .int .i64 (-77), .int .i64 (-77)] 3 (0, 0))).grown gr2 (by simp only [size_alloc]; omega) (fun k hk => (O1.out.lt k hk).1)
  refine ⟨⟨g2, c2, rest, rfl, hg2, by omega, ?_⟩, B2⟩
  have e8 : ints (ms ++ List.replicate 8 (-77)) = [] ++ ints ms ++ eights := by unfold ints; rw [List.map_append]; rfl
  rw [e8]
  exact a2
end Go.Proofs.YtejbgcloblpbfaaGreatDoor
