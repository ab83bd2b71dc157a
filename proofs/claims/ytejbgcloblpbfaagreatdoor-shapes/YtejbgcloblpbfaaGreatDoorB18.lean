import Derived.Test.YtejbgcloblpbfaaGreatDoorB16
import Derived.Test.YtejbgcloblpbfaaGreatDoorB10
namespace Go.Proofs.YtejbgcloblpbfaaGreatDoor
open Go.RowKit
open K (Nm Ex Do)
def V.rounds (f : List Int → List Int) (k : Nat) : Nat → Nat → List Int → List Int
  | _, 0, W => W
  | i, m + 1, W => V.rounds f k (i + 1) m (f (W.set k (i : Int)))
def V.times (v : Int) : Nat := if v < 0 then 0 else if 5 < v then 5 else v.toNat
mutual
def V.rd : Do → List Int → List Int
  | .set _ n e, W => W.set n.place.toNat (V.ev W e)
  | .put _ n i e, W => W.set (n.place + V.md (V.ev W i) n.size).toNat (V.ev W e)
  | .ifs _ q y n, W => if V.ev W q = 0 then V.rds n W else V.rds y W
  | .fors _ n r l, W => V.rounds (fun W => V.rds l W) n.place.toNat 0 (V.times (V.ev W r)) W
  | .none, W => W
def V.rds : List Do → List Int → List Int
  | [], W => W
  | d :: l, W => V.rds l (V.rd d W)
end
mutual
def V.wfD (N : Nat) : Do → Prop
  | .set _ n e => 0 ≤ n.place ∧ n.place < N ∧ V.wfE N e
  | .put _ n i e => 0 ≤ n.place ∧ 1 ≤ n.size ∧ n.size ≤ 6 ∧ n.place + n.size ≤ N ∧ V.wfE N i ∧ V.wfE N e
  | .ifs _ q y n => V.wfE N q ∧ V.wfL N y ∧ V.wfL N n
  | .fors _ n r l => 0 ≤ n.place ∧ n.place < N ∧ V.wfE N r ∧ V.wfL N l
  | .none => False
def V.wfL (N : Nat) : List Do → Prop
  | [] => True
  | d :: l => V.wfD N d ∧ V.wfL N l
end
theorem V.rounds_len {f : List Int → List Int} (hf : ∀ W, (f W).length = W.length) (k : Nat) : ∀ (m i : Nat) (W : List Int), (V.rounds f k i m W).length = W.length
  | 0, _, _ => rfl
  | m + 1, i, W => by rw [V.rounds, V.rounds_len hf k m, hf, List.length_set]
mutual
theorem V.rd_len : ∀ (d : Do) (W : List Int), (V.rd d W).length = W.length
  | .set .., W => by rw [V.rd, List.length_set]
  | .put .., W => by rw [V.rd, List.length_set]
  | .ifs _ q y n, W => by
    rw [V.rd]
    split
    · exact V.rds_len n W
    · exact V.rds_len y W
  | .fors _ n r l, W => by rw [V.rd]; exact V.rounds_len (fun W => V.rds_len l W) _ _ _ _
  | .none, W => by rw [V.rd]
theorem V.rds_len : ∀ (l : List Do) (W : List Int), (V.rds l W).length = W.length
  | [], W => by rw [V.rds]
  | d :: l, W => by rw [V.rds, V.rds_len l, V.rd_len d]
end
theorem RAt.set {w : World} {b g : Nat} {tb : Array Value} {W : List Int} (h : RAt w b g tb W) (hne : b ≠ g) (k : Nat) (v : Int) : RAt (w.setCell ⟨g, k, none⟩ (.int .i64 v)) b g tb (W.set k v) := by
  refine ⟨?_, ?_, h.tab, by rw [List.length_set]; exact h.few⟩
  · rw [List.length_set]; exact h.cells.set_other (a := ⟨g, k, none⟩) hne _
  · rw [List.map_set]; exact h.words.set k _
theorem RAt.ne {w : World} {b g : Nat} {tb : Array Value} {W : List Int} (h : RAt w b g tb W) : b ≠ g := by
  rintro rfl
  have h1 := h.cells
  have h2 := h.words
  unfold At at h1 h2
  rw [h1] at h2
  simp at h2
theorem below_but {w w' : World} {g : Nat} (h : Below w.heap.size w w') : But g w w' := ⟨h.os, h.tape, h.output, h.size, fun k hk _ => h.block k hk⟩
def RdDoes (d : Do) : Prop := ∀ (B : Nat → Prop) (w : World) (b g : Nat) (tb : Array Value) (W : List Int) (u : Value), RAt w b g tb W → DoIs B w d u → V.wfD W.length d → (∀ k, B k → k ≠ g) →
  Calls Tryz.prog 90 #[PT b, u] w fun x w' => x = .returned (.tuple #[]) ∧ RAt w' b g tb (V.rd d W) ∧ But g w w'
def RdsDoes (l : List Do) : Prop := ∀ (B : Nat → Prop) (w : World) (b g : Nat) (tb : Array Value) (W : List Int) (lv : Value) (us : List Value), RAt w b g tb W → DRow B w lv us → Each B w l us → V.wfL W.length l → (∀ k, B k → k ≠ g) →
  Calls Tryz.prog 64 #[PT b, lv] w fun x w' => x = .returned (.tuple #[]) ∧ RAt w' b g tb (V.rds l W) ∧ But g w w'
set_option maxRecDepth 100000 in
set_option maxHeartbeats 4000000 in
theorem rd_set (p : Int) (n : Nm) (e : Ex) (he : EvDoes e) : RdDoes (.set p n e) := by
  intro B w b g tb W u h hd hw _
  unfold DoIs at hd
  subst hd
  unfold V.wfD at hw
  obtain ⟨w0, w1, we⟩ := hw
  have a1 := ad_Set_Set
  obtain ⟨k, hk⟩ := Int.eq_ofNat_of_zero_le w0
  have hkl : k < W.length := by omega
  have hz : (k : Int) < (W.length : Int) := by omega
  have few := h.few
  have hne := h.ne
  have HV : Hid (V.rd (.set p n e) W = W.set k (V.ev W e)) := by show _ = _; rw [V.rd, hk]; rfl
  rw [HV.out]
  clear HV w0 w1
  have hx := fun (w : World) (h' : RAt w b g tb W) => he w b g tb W h' we
  rw [exV_good (V.wf_good we)] at hx ⊢
  have hcw := fun (w : World) (h' : RAt w b g tb W) => h'.word hkl
  generalize V.ev W e = v at *
  generalize W.getD k 0 = q at *
  generalize exT e = t at *
  generalize exP e = x at *
  obtain ⟨x0, x1, x2, x3, x4⟩ := n
  dsimp only at *
  subst hk
  have B0 : Below w.heap.size w (w.alloc (.cells #[.int .i64 p, .string x0, .int .i64 x1, .bool x2, .int .i64 x3, .int .i64 (k : Int), .iface t x] 178 (0, 0))) := (Below.refl _ _).alloc (Nat.le_refl _) _
  have Bd : Below w.heap.size w (w.alloc (.cells #[.int .i64 p, .string x0, .int .i64 x1, .bool x2, .int .i64 x3, .int .i64 (k : Int), .iface t x] 178 (0, 0))).drew := ⟨B0.os, B0.tape, B0.output, B0.size, B0.block⟩
  have rd : RAt (w.alloc (.cells #[.int .i64 p, .string x0, .int .i64 x1, .bool x2, .int .i64 x3, .int .i64 (k : Int), .iface t x] 178 (0, 0))).drew b g tb W := (h.below B0).keep rfl rfl
  have bx := At.alloc_new w [.int .i64 p, .string x0, .int .i64 x1, .bool x2, .int .i64 x3, .int .i64 (k : Int), .iface t x] 178
  have c0 := (h.below B0).cells.cell 0
  simp only [List.getElem?_cons_zero] at c0
  have lb := h.cells.lt
  go_enter Tryz.func90, Tryz.ntmps90
  go_upto_region 3 with fail
  go_region_with (go_at_call 112; refine (hx _ rd).mono ?_; rintro z w1 ⟨rfl, hb1⟩; have r1 := rd.below hb1; have c1 := r1.cells.cell 0; simp only [List.getElem?_cons_zero] at c1; have cw := hcw _ r1; have fw := r1.words.frozen k; have bx1 : At w1 w.heap.size 178 [.int .i64 p, .string x0, .int .i64 x1, .bool x2, .int .i64 x3, .int .i64 (k : Int), .iface t x] := bx.of_block (hb1.block _ bx.lt); have k5 := bx1.cell 5; simp only [List.getElem?_cons_zero, List.getElem?_cons_succ] at k5)
  all_goals
    go_wp2_with fail
    go_end0
    exact ⟨rfl, r1.set hne k v, (below_but (Bd.trans (hb1.mono Bd.size))).set k _⟩
end Go.Proofs.YtejbgcloblpbfaaGreatDoor
namespace Go.Proofs.YtejbgcloblpbfaaGreatDoor
open Go.RowKit
open K (Nm Ex Do)
namespace Y
inductive Ins where
  | kst (a : Nat) (v : Int)
  | bin (o : UInt8) (a b c : Nat)
  | sel (a b c d : Nat)
  | ld (a b : Nat)
  | st (a b : Nat)
  | jmp (d : Nat)
  | jz (b d : Nat)
  | halt
structure Ma where
  pc : Nat
  R : Nat → Int
  M : Nat → Int
  seen : List Int
def upd (f : Nat → Int) (k : Nat) (v : Int) : Nat → Int := fun j => if j = k then v else f j
theorem upd_self (f : Nat → Int) (k : Nat) (v : Int) : upd f k v k = v := by simp [upd]
theorem upd_ne {f : Nat → Int} {k j : Nat} {v : Int} (h : ¬ j = k) : upd f k v j = f j := by simp [upd, h]
def step : Ins → Ma → Option Ma
  | .kst a v, s => if a < 8 then some ⟨s.pc + 1, upd s.R a v, s.M, s.seen ++ [(s.pc : Int)]⟩ else none
  | .bin o a b c, s => if a < 8 ∧ b < 8 ∧ c < 8 then some ⟨s.pc + 1, upd s.R a (V.opf o (s.R b) (s.R c)), s.M, s.seen ++ ((s.pc : Int) :: if o = 47 then [s.R b, s.R c] else [])⟩ else none
  | .sel a b c d, s => if a < 8 ∧ b < 8 ∧ c < 8 ∧ d < 8 then some ⟨s.pc + 1, upd s.R a (if s.R c = 0 then s.R d else s.R b), s.M, s.seen ++ [(s.pc : Int)]⟩ else none
  | .ld a b, s => if a < 8 ∧ b < 8 ∧ 0 ≤ s.R b ∧ s.R b < 256 then some ⟨s.pc + 1, upd s.R a (s.M (s.R b).toNat), s.M, s.seen ++ [(s.pc : Int), s.R b]⟩ else none
  | .st a b, s => if a < 8 ∧ b < 8 ∧ 0 ≤ s.R a ∧ s.R a < 256 then some ⟨s.pc + 1, s.R, upd s.M (s.R a).toNat (s.R b), s.seen ++ [(s.pc : Int), s.R a]⟩ else none
  | .jmp d, s => some ⟨d, s.R, s.M, s.seen ++ [(s.pc : Int)]⟩
  | .jz b d, s => if b < 8 then some ⟨if s.R b = 0 then d else s.pc + 1, s.R, s.M, s.seen ++ [(s.pc : Int)]⟩ else none
  | .halt, _ => none
def go (C : List Ins) : Nat → Ma → Option Ma
  | 0, s => some s
  | n + 1, s => match C[s.pc]? with
    | none => none
    | some i => match step i s with
      | none => none
      | some s' => go C n s'
theorem go_add (C : List Ins) : ∀ (m n : Nat) (s s1 s2 : Ma), go C m s = some s1 → go C n s1 = some s2 → go C (m + n) s = some s2
  | 0, n, s, s1, s2, h, k => by simp only [go, Option.some.injEq] at h; subst h; simpa using k
  | m + 1, n, s, s1, s2, h, k => by
    rw [Nat.add_right_comm]
    unfold go at h ⊢
    split at h
    · cases h
    · split at h
      · cases h
      · rename_i i hi s' hs'
        exact go_add C m n _ _ _ h k
def Seg (C : List Ins) (p : Nat) (l : List Ins) : Prop := ∀ (j : Nat) x, l[j]? = some x → C[p + j]? = some x
theorem Seg.left {C : List Ins} {p : Nat} {a b : List Ins} (h : Seg C p (a ++ b)) : Seg C p a := fun j x hx => h j x (by rw [List.getElem?_append_left (List.getElem?_eq_some_iff.1 hx).1]; exact hx)
theorem Seg.right {C : List Ins} {p : Nat} {a b : List Ins} (h : Seg C p (a ++ b)) : Seg C (p + a.length) b := fun j x hx => by
  rw [Nat.add_assoc]
  exact h _ x (by rw [List.getElem?_append_right (by omega)]; simpa using hx)
theorem Seg.head {C : List Ins} {p : Nat} {i : Ins} {b : List Ins} (h : Seg C p (i :: b)) : C[p]? = some i := h 0 i rfl
theorem Seg.tail {C : List Ins} {p : Nat} {i : Ins} {b : List Ins} (h : Seg C p (i :: b)) : Seg C (p + 1) b := fun j x hx => by
  rw [Nat.add_assoc, Nat.add_comm 1 j]
  exact h (j + 1) x (by simpa using hx)
def ex : List Ins → Ma → Option Ma
  | [], s => some s
  | i :: l, s => match step i s with
    | none => none
    | some s' => ex l s'
theorem ex_append : ∀ (a b : List Ins) (s s1 s2 : Ma), ex a s = some s1 → ex b s1 = some s2 → ex (a ++ b) s = some s2
  | [], b, s, s1, s2, h, k => by simp only [ex, Option.some.injEq] at h; subst h; exact k
  | i :: a, b, s, s1, s2, h, k => by
    rw [List.cons_append]
    unfold ex at h ⊢
    split at h
    · cases h
    · exact ex_append a b _ _ _ h k
def straight : Ins → Bool
  | .jmp _ => false
  | .jz .. => false
  | _ => true
theorem step_pc {i : Ins} (h : straight i = true) {s s' : Ma} (e : step i s = some s') : s'.pc = s.pc + 1 := by
  cases i <;> simp only [straight, Bool.false_eq_true] at h <;> simp only [step, Option.ite_none_right_eq_some, Option.some.injEq, reduceCtorEq] at e <;> (try (obtain ⟨_, rfl⟩ := e; rfl))
theorem go_ex {C : List Ins} : ∀ {l : List Ins} {s s' : Ma}, l.all straight = true → Seg C s.pc l → ex l s = some s' → go C l.length s = some s'
  | [], s, s', _, _, e => e
  | i :: l, s, s', h, g, e => by
    rw [List.all_cons, Bool.and_eq_true] at h
    rw [List.length_cons]
    unfold ex at e
    unfold go
    rw [g.head]
    dsimp only
    split at e
    · cases e
    · rename_i s1 h1
      refine go_ex h.2 ?_ e
      rw [step_pc h.1 h1]
      exact g.tail
def hd (l : List Nat) : Nat := l.headD 0
inductive Kp where
  | reg (a : Nat)
  | word (a : Nat)
def kpC (g w : List Nat) (a : Nat) : List Ins := if 4 ≤ g.length then [] else [.kst (hd (g.erase a)) (hd w : Nat), .st (hd (g.erase a)) a]
def kpG (g : List Nat) (a : Nat) : List Nat := if 4 ≤ g.length then g.erase a else g
def kpW (g w : List Nat) : List Nat := if 4 ≤ g.length then w else w.tail
def kpK (g w : List Nat) (a : Nat) : Kp := if 4 ≤ g.length then .reg a else .word (hd w)
def ftC (g : List Nat) : Kp → List Ins
  | .reg _ => []
  | .word x => [.kst (hd g) (x : Nat), .ld (hd g) (hd g)]
def ftR (g : List Nat) : Kp → Nat
  | .reg a => a
  | .word _ => hd g
def ftG (g : List Nat) : Kp → List Nat
  | .reg _ => g
  | .word _ => g.tail
def plC (g : List Nat) (r : Nat) (n : Nm) : List Ins :=
  let z := hd g
  let q := hd g.tail
  [.kst z n.size, .bin 47 q r z, .bin 42 q q z, .bin 45 r r q, .bin 43 r r z, .bin 47 q r z, .bin 42 q q z, .bin 45 r r q, .kst z n.place, .bin 43 r r z]
def exC : List Nat → List Nat → Ex → List Ins × Nat
  | g, _, .num v => ([.kst (hd g) v], hd g)
  | g, _, .use n => ([.kst (hd g) n.place, .ld (hd g) (hd g)], hd g)
  | g, w, .get _ n e =>
    let x := exC g w e
    (x.1 ++ (plC (g.erase x.2) x.2 n ++ [.ld x.2 x.2]), x.2)
  | g, w, .op _ o l r =>
    let x := exC g w l
    let y := exC (kpG g x.2) (kpW g w) r
    let k := kpK g w x.2
    let h := (kpG g x.2).erase y.2
    (x.1 ++ (kpC g w x.2 ++ (y.1 ++ (ftC h k ++ [.bin o y.2 (ftR h k) y.2]))), y.2)
  | g, w, .cho _ q y n =>
    let a := exC g w q
    let b := exC (kpG g a.2) (kpW g w) y
    let c := exC (kpG (kpG g a.2) b.2) (kpW (kpG g a.2) (kpW g w)) n
    let j := kpK g w a.2
    let k := kpK (kpG g a.2) (kpW g w) b.2
    let h := (kpG (kpG g a.2) b.2).erase c.2
    (a.1 ++ (kpC g w a.2 ++ (b.1 ++ (kpC (kpG g a.2) (kpW g w) b.2 ++ (c.1 ++ (ftC h j ++ (ftC (ftG h j) k ++ [.sel c.2 (ftR (ftG h j) k) (ftR h j) c.2])))))), c.2)
  | g, _, .none => ([.kst (hd g) 0], hd g)
def need : Ex → Nat
  | .num _ => 0
  | .use _ => 0
  | .get _ _ e => need e
  | .op _ _ l r => max (need l) (need r) + 1
  | .cho _ q y n => max (need q) (max (need y) (need n)) + 2
  | .none => 0
def plS (p : Nat) (v s : Int) : List Int := [(p : Int), (p + 1 : Nat), v, s, (p + 2 : Nat), (p + 3 : Nat), (p + 4 : Nat), (p + 5 : Nat), wrap64 (v.tmod s + s), s, (p + 6 : Nat), (p + 7 : Nat), (p + 8 : Nat), (p + 9 : Nat)]
def kpS (g w : List Nat) (p : Nat) : List Int := if 4 ≤ g.length then [] else [(p : Int), (p + 1 : Nat), (hd w : Nat)]
def ftS (p : Nat) : Kp → List Int
  | .reg _ => []
  | .word x => [(p : Int), (p + 1 : Nat), (x : Nat)]
def seE (W : List Int) : Nat → List Nat → List Nat → Ex → List Int
  | p, _, _, .num _ => [(p : Int)]
  | p, _, _, .use n => [(p : Int), (p + 1 : Nat), n.place]
  | p, g, w, .get _ n e =>
    let x := exC g w e
    let q := p + x.1.length
    seE W p g w e ++ (plS q (V.ev W e) n.size ++ [((q + 10 : Nat) : Int), n.place + V.md (V.ev W e) n.size])
  | p, g, w, .op _ o l r =>
    let x := exC g w l
    let y := exC (kpG g x.2) (kpW g w) r
    let k := kpK g w x.2
    let h := (kpG g x.2).erase y.2
    let p1 := p + x.1.length
    let p2 := p1 + (kpC g w x.2).length
    let p3 := p2 + y.1.length
    let p4 := p3 + (ftC h k).length
    seE W p g w l ++ (kpS g w p1 ++ (seE W p2 (kpG g x.2) (kpW g w) r ++ (ftS p3 k ++ ((p4 : Nat) : Int) :: if o = 47 then [V.ev W l, V.ev W r] else [])))
  | p, g, w, .cho _ q y n =>
    let a := exC g w q
    let b := exC (kpG g a.2) (kpW g w) y
    let c := exC (kpG (kpG g a.2) b.2) (kpW (kpG g a.2) (kpW g w)) n
    let j := kpK g w a.2
    let k := kpK (kpG g a.2) (kpW g w) b.2
    let h := (kpG (kpG g a.2) b.2).erase c.2
    let p1 := p + a.1.length
    let p2 := p1 + (kpC g w a.2).length
    let p3 := p2 + b.1.length
    let p4 := p3 + (kpC (kpG g a.2) (kpW g w) b.2).length
    let p5 := p4 + c.1.length
    let p6 := p5 + (ftC h j).length
    let p7 := p6 + (ftC (ftG h j) k).length
    seE W p g w q ++ (kpS g w p1 ++ (seE W p2 (kpG g a.2) (kpW g w) y ++ (kpS (kpG g a.2) (kpW g w) p3 ++ (seE W p4 (kpG (kpG g a.2) b.2) (kpW (kpG g a.2) (kpW g w)) n ++ (ftS p5 j ++ (ftS p6 k ++ [((p7 : Nat) : Int)]))))))
  | p, _, _, .none => [(p : Int)]
end Y
end Go.Proofs.YtejbgcloblpbfaaGreatDoor
namespace Go.Proofs.YtejbgcloblpbfaaGreatDoor
open Go.RowKit
open K (Nm Ex Do)
namespace Y
structure Fine (g w : List Nat) (L : Nat) : Prop where
  gn : g.Nodup
  g8 : ∀ x ∈ g, x < 8
  g3 : 3 ≤ g.length
  wn : w.Nodup
  wl : ∀ x ∈ w, L ≤ x ∧ x < 256
theorem hd_mem : ∀ {l : List Nat}, 0 < l.length → hd l ∈ l
  | [], h => by simp at h
  | a :: l, _ => by simp [hd]
theorem hd_tail : ∀ {l : List Nat}, 0 < l.length → l = hd l :: l.tail
  | [], h => by simp at h
  | a :: l, _ => rfl
theorem kpG_sub {g : List Nat} {a x : Nat} (h : x ∈ kpG g a) : x ∈ g := by
  unfold kpG at h
  split at h
  · exact List.mem_of_mem_erase h
  · exact h
theorem kpW_sub {g w : List Nat} {x : Nat} (h : x ∈ kpW g w) : x ∈ w := by
  unfold kpW at h
  split at h
  · exact h
  · exact List.mem_of_mem_tail h
theorem kp_fine {g w : List Nat} {L a : Nat} (h : Fine g w L) (ha : a ∈ g) : Fine (kpG g a) (kpW g w) L := by
  refine ⟨?_, fun x hx => h.g8 x (kpG_sub hx), ?_, ?_, fun x hx => h.wl x (kpW_sub hx)⟩
  · unfold kpG; split
    · exact h.gn.erase a
    · exact h.gn
  · unfold kpG; split
    · rw [List.length_erase_of_mem ha]; omega
    · exact h.g3
  · unfold kpW; split
    · exact h.wn
    · exact h.wn.sublist (List.tail_sublist w)
theorem kpW_len {g w : List Nat} : w.length ≤ (kpW g w).length + 1 := by
  unfold kpW; split
  · omega
  · rw [List.length_tail]; omega
theorem exC_mem (e : Ex) : ∀ {g w : List Nat} {L : Nat}, Fine g w L → (exC g w e).2 ∈ g := by
  induction e with
  | num v => intro g w L h; exact hd_mem (by have := h.g3; omega)
  | use n => intro g w L h; exact hd_mem (by have := h.g3; omega)
  | get p n e ih => intro g w L h; exact ih h
  | op p o l r il ir => intro g w L h; exact kpG_sub (ir (kp_fine h (il h)))
  | cho p q y n iq iy i3 => intro g w L h; exact kpG_sub (kpG_sub (i3 (kp_fine (kp_fine h (iq h)) (iy (kp_fine h (iq h))))))
  | none => intro g w L h; exact hd_mem (by have := h.g3; omega)
def Held (s : Ma) (v : Int) : Kp → Prop
  | .reg a => s.R a = v
  | .word x => s.M x = v
structure To (g w : List Nat) (n : Nat) (S : List Int) (s s' : Ma) : Prop where
  pc : s'.pc = s.pc + n
  R : ∀ x, x ∉ g → s'.R x = s.R x
  M : ∀ x, x ∉ w → s'.M x = s.M x
  seen : s'.seen = s.seen ++ S
theorem To.rfl' (g w : List Nat) (s : Ma) : To g w 0 [] s s := ⟨rfl, fun _ _ => rfl, fun _ _ => rfl, by simp⟩
theorem To.trans {g w : List Nat} {n m : Nat} {S T : List Int} {a b c : Ma} (h : To g w n S a b) (k : To g w m T b c) : To g w (n + m) (S ++ T) a c :=
  ⟨by rw [k.pc, h.pc, Nat.add_assoc], fun x hx => (k.R x hx).trans (h.R x hx), fun x hx => (k.M x hx).trans (h.M x hx), by rw [k.seen, h.seen, List.append_assoc]⟩
theorem To.wide {g w g' w' : List Nat} {n : Nat} {S : List Int} {a b : Ma} (h : To g w n S a b) (hg : ∀ x ∈ g, x ∈ g') (hw : ∀ x ∈ w, x ∈ w') : To g' w' n S a b :=
  ⟨h.pc, fun x hx => h.R x fun e => hx (hg x e), fun x hx => h.M x fun e => hx (hw x e), h.seen⟩
theorem kp_sim {g w : List Nat} {L a : Nat} {v : Int} {s : Ma} (h : Fine g w L) (ha : a ∈ g) (hw : 0 < w.length) (hv : s.R a = v) :
    ∃ s', ex (kpC g w a) s = some s' ∧ To g w (kpC g w a).length (kpS g w s.pc) s s' ∧ Held s' v (kpK g w a) := by
  unfold kpC kpS kpK
  by_cases c : 4 ≤ g.length
  · rw [if_pos c, if_pos c, if_pos c]
    exact ⟨s, rfl, To.rfl' _ _ _, hv⟩
  · rw [if_neg c, if_neg c, if_neg c]
    have hl : 0 < (g.erase a).length := by rw [List.length_erase_of_mem ha]; have := h.g3; omega
    have ht := hd_mem hl
    have htg := List.mem_of_mem_erase ht
    have hta : ¬ a = hd (g.erase a) := fun e => by
      rw [← e] at ht
      exact (h.gn.mem_erase_iff.1 ht).1 rfl
    have b1 := h.g8 _ htg
    have b2 := h.g8 _ ha
    have b3 := h.wl _ (hd_mem hw)
    generalize hd (g.erase a) = t at *
    refine ⟨⟨s.pc + 1 + 1, upd s.R t ((hd w : Nat) : Int), upd s.M (hd w) (s.R a), s.seen ++ [(s.pc : Int)] ++ [((s.pc + 1 : Nat) : Int), ((hd w : Nat) : Int)]⟩, ?_, ⟨rfl, ?_, ?_, ?_⟩, ?_⟩
    · have b4 : ((hd w : Nat) : Int) < 256 := by omega
      have b5 : (0 : Int) ≤ ((hd w : Nat) : Int) := by omega
      simp [ex, step, b1, b2, upd_self, upd_ne hta, b4, b5]
    · intro x hx
      exact upd_ne (fun e => hx (e ▸ htg))
    · intro x hx
      exact upd_ne (fun e => hx (e ▸ hd_mem hw))
    · simp
    · show upd s.M (hd w) (s.R a) (hd w) = v
      rw [upd_self, hv]
theorem ft_sim {h w : List Nat} {k : Kp} {v : Int} {s : Ma} (h8 : ∀ x ∈ h, x < 8) (hl : 0 < h.length) (hw : ∀ x, k = .word x → x < 256) (hv : Held s v k) :
    ∃ s', ex (ftC h k) s = some s' ∧ To h w (ftC h k).length (ftS s.pc k) s s' ∧ s'.R (ftR h k) = v ∧ s'.M = s.M ∧ ∀ x, x ∉ h ∨ x ∈ ftG h k ∧ h.Nodup → s'.R x = s.R x := by
  cases k with
  | reg a => exact ⟨s, rfl, To.rfl' _ _ _, hv, rfl, fun _ _ => rfl⟩
  | word x =>
    have b1 := h8 _ (hd_mem hl)
    have b2 := hw x rfl
    refine ⟨⟨s.pc + 1 + 1, upd (upd s.R (hd h) (x : Nat)) (hd h) (s.M x), s.M, s.seen ++ [(s.pc : Int)] ++ [((s.pc + 1 : Nat) : Int), ((x : Nat) : Int)]⟩, ?_, ⟨rfl, ?_, fun _ _ => rfl, ?_⟩, ?_, rfl, ?_⟩
    · have b4 : ((x : Nat) : Int) < 256 := by omega
      have b5 : (0 : Int) ≤ ((x : Nat) : Int) := by omega
      simp [ex, ftC, step, b1, upd_self, b4, b5]
    · intro y hy
      have : ¬ y = hd h := fun e => hy (e ▸ hd_mem hl)
      show upd _ _ _ _ = _
      rw [upd_ne this, upd_ne this]
    · simp [ftS]
    · show upd _ _ _ (hd h) = v
      rw [upd_self]; exact hv
    · intro y hy
      have : ¬ y = hd h := by
        rcases hy with hy | ⟨hy, hn⟩
        · exact fun e => hy (e ▸ hd_mem hl)
        · intro e
          rw [hd_tail hl] at hn
          exact (List.nodup_cons.1 hn).1 (e ▸ hy)
      show upd _ _ _ _ = _
      rw [upd_ne this, upd_ne this]
def fits (v : Int) : Prop := -9223372036854775808 ≤ v ∧ v ≤ 9223372036854775807
theorem wrap_fits (v : Int) : fits (wrap64 v) := by unfold wrap64 fits; omega
theorem wrap_id {v : Int} (h : fits v) : wrap64 v = v := by unfold wrap64; unfold fits at h; omega
theorem rem_eq {v s : Int} (h1 : 1 ≤ s) (h6 : s ≤ 6) : wrap64 (v - wrap64 (wrap64 (v.tdiv s) * s)) = v.tmod s := by
  have e := Int.tmod_add_mul_tdiv v s
  have a1 := Int.tmod_eq_emod (a := v) (b := s)
  have a2 := Int.emod_nonneg v (show s ≠ 0 by omega)
  have a3 := Int.emod_lt_of_pos v (show 0 < s by omega)
  have a7 : v.tmod s < 6 ∧ -6 < v.tmod s := by
    rw [a1]
    split
    · omega
    · have : s.natAbs ≤ 6 := by omega
      omega
  have hs : s = 1 ∨ s = 2 ∨ s = 3 ∨ s = 4 ∨ s = 5 ∨ s = 6 := by omega
  generalize v.tdiv s = q at *
  generalize v.tmod s = m at *
  unfold wrap64
  rcases hs with rfl | rfl | rfl | rfl | rfl | rfl <;> omega
end Y
end Go.Proofs.YtejbgcloblpbfaaGreatDoor
