import Derived.Test.YtjgiefnjmngdkaaGreatDoorM03
import Derived.Test.YtjgiefnjmngdkaaGreatDoorM17
namespace Go.Proofs.YtjgiefnjmngdkaaGreatDoor
open Go.RowKit

/-- append to a row of one's own: where the row lies behind it: where it lay, or in a new block. -/
theorem run_append_keep {P : Program} (w : World) (t ty e : TypeId) (i : TypeInfo) (z : Value) (size bytes : Nat) (ht : P.underlying t = some (.slice e)) (hi : P.info? e = some i) (hz : i.zero = some z)
    (hsize : i.size = size) (hby : i.bytes = bytes) (hzs : z.cells.size = size) (hsz : 0 < size)
    (v : Value) (n : Nat) (xs : List Value) (hown : w.ownsRow 0 e size v n xs)
    (a : Addr) (m c : Nat) (news : List Value) (hl : news.length = m * size) (hnews : ∀ (j : Nat) u, news[j]? = some u → w.cell? (a.add j) = some u) (h1 : ∀ u ∈ news, u.oneCell' = true)
    (h63 : n + m ≤ maxLen) (hbytes : (n + m) * bytes ≤ 140737488355328) :
    ∃ v' w', (Builtin.append_ #[t, t] ty #[v, .slice (some a) m c]).run P w = .ok v' w' ∧ w'.ownsRow 0 e size v' (n + m) (xs ++ news) ∧ w.grownBy w' v.ownBlock ∧
      (∀ k, v'.ownBlock = some k → v.ownBlock = some k ∨ w.heap.size ≤ k) ∧ w'.ownsRow 0 e size v n xs := by
  obtain ⟨v', w', hr, h2, h3, _⟩ := run_append_own (P := P) w 0 t ty e i z size bytes ht hi hz hsize hby hzs hsz v n xs hown a m c news hl hnews h1 h63 hbytes (Nat.zero_le _)
  refine ⟨v', w', hr, h2, h3, ?_⟩
  obtain ⟨hxl, ⟨rfl, rfl⟩ | ⟨g, cap, cur, rfl, _, hg, hnc, hcap, hcs, hcx⟩⟩ := hown
  · have hxs : xs = [] := List.eq_nil_of_length_eq_zero (by simpa using hxl)
    subst hxs
    obtain ⟨v2, w2, hr2, k2, _, _⟩ := run_append_own (P := P) w w.heap.size t ty e i z size bytes ht hi hz hsize hby hzs hsz (.slice none 0 0) 0 [] (World.ownsRow_nil w _ e size) a m c news hl hnews h1 h63 hbytes (Nat.le_refl _)
    rw [hr] at hr2
    simp only [Result.ok.injEq] at hr2
    obtain ⟨rfl, rfl⟩ := hr2
    refine ⟨fun k hk => Or.inr ?_, World.ownsRow_nil _ 0 e size⟩
    obtain ⟨_, ⟨h0, _⟩ | ⟨g', cap', cur', rfl, hb, _⟩⟩ := k2
    · rw [h0] at hk; simp [Value.ownBlock] at hk
    · simp only [Value.ownBlock, Option.some.injEq] at hk; omega
  · by_cases hroom : n + m ≤ cap
    · have hr2 := run_append_room_cells (P := P) w t ty e i ht hi g 0 n cap a m c news (by rw [hsize]; exact hl) hnews h1 hroom
        (fun j hj => by
          have : 0 + n * i.size + j < cur.size := by
            have := Nat.mul_le_mul_right size hroom
            rw [Nat.add_mul] at this
            rw [hsize]
            omega
          simp [World.cell?, hg]
          simpa using this)
        (fun j hj => by simp [World.frozen?, hg])
      rw [hr] at hr2
      simp only [Result.ok.injEq] at hr2
      refine ⟨fun k hk => Or.inl (by rw [hr2.1] at hk; exact hk), hxl, Or.inr ⟨g, cap, ?_⟩⟩
      obtain ⟨_, ⟨h0, _⟩ | ⟨g', cap', cur', hv', _, e2, e3, e4, e5, e6⟩⟩ := h2
      · rw [hr2.1] at h0; simp at h0
      · rw [hr2.1] at hv'
        simp only [Value.slice.injEq, Option.some.injEq, Addr.mk.injEq] at hv'
        obtain ⟨⟨rfl, _⟩, _, rfl⟩ := hv'
        refine ⟨cur', rfl, Nat.zero_le _, e2, hnc, hcap, e5, ?_⟩
        have e7 := congrArg (List.take (n * size)) e6
        rw [List.take_take, Nat.min_eq_left (Nat.mul_le_mul_right _ (by omega)), List.take_append_of_le_length (by omega)] at e7
        rw [e7]
        exact List.take_of_length_le (by omega)
    · obtain ⟨v2, w2, hr2, k2, k3⟩ := run_append_arg_grows (P := P) w t ty e i z size bytes ht hi hz hsize hby hzs hsz ⟨g, 0, none⟩ n cap xs hxl
        (fun j u hu => by
          have hj : j < n * size := by rw [← hxl]; exact (List.getElem?_eq_some_iff.1 hu).1
          rw [← hcx, List.getElem?_take_of_lt hj] at hu
          have ea : (⟨g, 0, none⟩ : Addr).add j = ⟨g, j, none⟩ := by unfold Addr.add; split <;> simp_all
          rw [ea]
          simp [World.cell?, hg]
          simpa using hu)
        a m c news hl hnews (by omega) h63 hbytes
      rw [hr] at hr2
      simp only [Result.ok.injEq] at hr2
      obtain ⟨rfl, rfl⟩ := hr2
      refine ⟨fun k hk => Or.inr ?_, hxl, Or.inr ⟨g, cap, cur, rfl, Nat.zero_le _, by rw [k3.block g (heap_lt hg) (by simp)]; exact hg, hnc, hcap, hcs, hcx⟩⟩
      obtain ⟨_, ⟨h0, _⟩ | ⟨g', cap', cur', rfl, hb, _⟩⟩ := k2
      · rw [h0] at hk; simp [Value.ownBlock] at hk
      · simp only [Value.ownBlock, Option.some.injEq] at hk; omega


/-- One step of a region that draws: append to a row of one's own; what the elder value told it tells still. -/
theorem step_append_keep {P : Program} {ops : Array Oper} {o : Oper} {a : Act} {w : World} {K : Act → World → Prop} {Q : Exit → Act → World → Prop} {E : Prop}
    (hg : o.guard = none) (s x : Operand) (t : TypeId) (hop : o.op = Op.call { callee := Callee.builtin Builtin.append, args := #[s, x], argTypes := #[t, t] })
    (e : TypeId) (i : TypeInfo) (z : Value) (size bytes : Nat) (ht : P.underlying t = some (.slice e)) (hi : P.info? e = some i) (hz : i.zero = some z)
    (hsize : i.size = size) (hby : i.bytes = bytes) (hzs : z.cells.size = size) (hsz : 0 < size)
    (v : Value) (n : Nat) (xs : List Value) (hs : a.eval s = v) (hown : w.ownsRow 0 e size v n xs)
    (ad : Addr) (m c : Nat) (news : List Value) (hx : a.eval x = .slice (some ad) m c) (hl : news.length = m * size) (hnews : ∀ (j : Nat) u, news[j]? = some u → w.cell? (ad.add j) = some u) (h1 : ∀ u ∈ news, u.oneCell' = true)
    (h63 : n + m ≤ maxLen) (hbytes : (n + m) * bytes ≤ 140737488355328) (hm : 0 < m)
    (hK : ∀ g cap w', w'.ownsRow 0 e size (.slice (some ⟨g, 0, none⟩) (n + m) cap) (n + m) (xs ++ news) → w.grownBy w' v.ownBlock → (∀ k, (Value.slice (some ⟨g, 0, none⟩) (n + m) cap).ownBlock = some k → v.ownBlock = some k ∨ w.heap.size ≤ k) → w'.ownsRow 0 e size v n xs → K (a.put o.dst (.slice (some ⟨g, 0, none⟩) (n + m) cap)) w') :
    if Region.wanted o (yielded ops a.tmps) = true then Oper.wp P o a w K Q else E := by
  have hw : Region.wanted o (yielded ops a.tmps) = true := by simp [Region.wanted, hg]
  rw [if_pos hw]
  obtain ⟨v', w', hr, h2, h3, h4, h5⟩ := run_append_keep (P := P) w t o.type e i z size bytes ht hi hz hsize hby hzs hsz v n xs hown ad m c news hl hnews h1 h63 hbytes
  obtain ⟨g, cap, rfl⟩ := Joins.ownsRow_form h2 (by omega)
  unfold Oper.wp execOp
  simp only [hop, resolve, invoke, builtin, Sem.run_bind, Sem.run_pure, Result.andThen_ok, List.map_toArray, List.map_cons, List.map_nil, hs, hx, hr]
  exact hK g cap w' h2 h3 h4 h5
theorem info_name : (Tryz.prog.info? 96).map (fun i => (i.zero, i.size, i.bytes)) = some (some (.agg #[.string ⟨#[]⟩, .int .i64 0, .bool false, .int .i64 0, .int .i64 0]), 5, 48) := by kernel_rfl
theorem info_do : (Tryz.prog.info? 151).map (fun i => (i.zero, i.size, i.bytes)) = some (some .nilIface, 1, 16) := by kernel_rfl
end Go.Proofs.YtjgiefnjmngdkaaGreatDoor
namespace Go.Proofs.YtjgiefnjmngdkaaGreatDoor
open Go.RowKit
open R (Tok tk)
open K (Nm S Scans Ex Do)

structure KB (σ : S) : Prop where
  d0 : 0 ≤ σ.depth
  l0 : 0 ≤ σ.loops
  nm : (σ.names.length : Int) ≤ 900 + σ.loops
theorem KB.keeps {σ σ' : S} (h : KB σ) (k : K.Keeps σ σ') : KB σ' := by
  obtain ⟨a, b, c⟩ := h
  exact ⟨by rw [k.depth]; exact a, by rw [k.loops]; exact b, by rw [k.names, k.loops]; exact c⟩
theorem KB.opened {T : List Tok} {σ : S} (h : KB σ) : KB (K.opened T σ) := by
  have k := h.keeps (K.op2_keeps T σ)
  exact ⟨by have := K.opened_depth T σ; have := h.d0; omega, k.l0, k.nm⟩
/-- The words of memory are few. -/
def Few (σ : S) : Prop := 0 ≤ σ.words ∧ σ.words ≤ 100000
theorem Few.keeps {σ σ' : S} (h : Few σ) (k : K.Keeps σ σ') : Few σ' := by unfold Few; rw [k.words]; exact h
def Live (T : List Tok) (f : Nat) (σ : S) : Prop := (σ.depth ≤ 10 ∧ 11 - σ.depth ≤ f ∧ σ.loops ≤ 2 ∧ Few σ) ∨ (σ.i = T.length - 1 ∧ σ.depth ≤ 11 ∧ σ.loops ≤ 3)
theorem Live.opened {T : List Tok} {f : Nat} {σ : S} (d1 : σ.depth ≤ 10) (df : 10 - σ.depth ≤ f) (l1 : σ.loops ≤ 2) (hw : Few σ) : Live T f (K.opened T σ) := by
  have e := K.opened_depth T σ
  have l : (K.opened T σ).loops = σ.loops := (K.op2_keeps T σ).loops
  by_cases h : σ.depth = 10
  · exact Or.inr ⟨K.opened_deep h, by omega, by omega⟩
  · exact Or.inl ⟨by omega, by omega, by omega, (hw.keeps (K.op2_keeps T σ) : Few (K.op2 T σ))⟩

def DosK (b : Nat) (s : ByteArray) (T : List Tok) (f : Nat) : Prop := ∀ (w : World) (σ : S) (v : Value), CR w b s T σ v → K.Vars w → (∀ k, v.ownBlock = some k → 5 ≤ k) → KB σ → Live T f σ →
  Calls Tryz.prog 106 #[PT b] w fun x w' => ∃ u us, x = .returned u ∧ DRow (From w.heap.size) w' u us ∧ Each (From w.heap.size) w' (K.dos T f σ).2 us ∧ CR w' b s T (K.dos T f σ).1 v ∧ ButV b v w w'
/-- A row of Do's, told from a block on. -/
def DosIs (B : Nat) (l : List Do) (w : World) (u : Value) : Prop := ∃ us, DRow (From B) w u us ∧ Each (From B) w l us

set_option maxHeartbeats 400000 in
theorem side_c {w : World} {b : Nat} {s : ByteArray} {T : List Tok} {σ : S} {v : Value} {f : Nat} (hD : DosK b s T f) (h : CR w b s T σ v) (hv : K.Vars w) (hvb : ∀ k, v.ownBlock = some k → 5 ≤ k) (hk : KB σ) (hl : Live T f σ) (p : Int) :
    Calls Tryz.prog 208 #[PT b, .int .i64 p] w fun x w' => ∃ u, x = .returned u ∧ DosIs w.heap.size (K.dos T f σ).2 w' u ∧ CR w' b s T (K.dos T f σ).1 v ∧ ButV b v w w' := by
  have hd := hD w σ v h hv hvb hk hl
  generalize K.dos T f σ = D at *
  go_enter Tryz.func208, Tryz.ntmps208
  go_wp2_with fail
  refine hd.mono ?_
  rintro x w' ⟨u, us, rfl, h1, h2, h3, h4⟩
  go_wp2_with fail
  go_ret
  exact ⟨u, rfl, ⟨us, h1, h2⟩, h3, h4⟩

theorem bracket_c {w : World} {b : Nat} {s : ByteArray} {T : List Tok} {σ : S} {v : Value} {f : Nat} (hS : Scans s T) (h2 : 5 ≤ b) (hD : DosK b s T f) (h : CR w b s T σ v) (hv : K.Vars w) (hvb : ∀ k, v.ownBlock = some k → 5 ≤ k) (hk : KB σ) (d1 : σ.depth ≤ 10) (df : 10 - σ.depth ≤ f) (l1 : σ.loops ≤ 2) (hw : Few σ) :
    Calls Tryz.prog 207 #[PT b, .func (.func 208) #[PT b] #[]] w fun x w' => ∃ u, x = .returned u ∧ DosIs w.heap.size (K.brk T (K.dos T f) σ).2 w' u ∧ CR w' b s T (K.brk T (K.dos T f) σ).1 v ∧ ButV b v w w' := by
  have hlt := h.cells.lt
  have hvl : ∀ k, v.ownBlock = some k → k < w.heap.size := fun k hk => (h.ne hk).2
  exact inBr_side hS h hk.d0 (by omega) (σ4 := (K.dos T f (K.opened T σ)).1) (by rw [(K.dos_keeps T f _).depth, K.opened_depth]) (DosIs w.heap.size (K.dos T f (K.opened T σ)).2)
    (fun w1 h1 hb1 => (side_c hD h1 (hv.but hb1 h2 hlt) hvb hk.opened (Live.opened d1 df l1 hw) _).mono (by
      rintro x w' ⟨u, rfl, ⟨us, r1, r2⟩, h3, h4⟩
      exact ⟨u, rfl, ⟨us, r1.lower (From.le hb1.size), r2.lower (From.le hb1.size)⟩, h3, h4⟩))
    (fun w1 w2 rv _ hb ⟨us, r1, r2⟩ => ⟨us, r1.keep (hb.keeps hlt hvl), r2.keep (hb.keeps hlt hvl)⟩)

set_option maxHeartbeats 1000000 in
theorem branch_c {w : World} {b : Nat} {s : ByteArray} {T : List Tok} {σ : S} {v : Value} {f : Nat} (hS : Scans s T) (h2 : 5 ≤ b) (hD : DosK b s T f) (h : CR w b s T σ v) (hv : K.Vars w) (hvb : ∀ k, v.ownBlock = some k → 5 ≤ k) (hk : KB σ) (d1 : σ.depth ≤ 10) (df : 10 - σ.depth ≤ f) (l1 : σ.loops ≤ 2) (hw : Few σ) (p : Int) :
    Calls Tryz.prog 175 #[PT b, .int .i64 p] w fun x w' => ∃ u, x = .returned u ∧ DoIs (From w.heap.size) w' (K.ifX T (K.dos T f) p σ).2 u ∧ CR w' b s T (K.ifX T (K.dos T f) p σ).1 v ∧ ButV b v w w' := by
  have hmf : ∀ (fn : Fn) (first cap : Array Value) (w : World), (Instr.makeFunc fn first cap).run Tryz.prog w = .ok (.func fn first cap) w := fun _ _ _ _ => rfl
  have hE := kexpr_c hS h2 hvb 11
  have hlt := h.cells.lt
  have hvl : ∀ k, v.ownBlock = some k → k < w.heap.size := fun k hk => (h.ne hk).2
  have k1 := K.step_keeps T σ
  have hst := kstep_c hS h
  have hnn : σ.names.length ≤ 1000 := by have := hk.nm; omega
  have d0 := hk.d0
  have hex := fun (w : World) (h' : CR w b s T (K.step T σ) v) (hv : K.Vars w) => hE w _ h' hv (by rw [k1.depth]; exact d0) (by rw [k1.depth]; exact d1) (by rw [k1.depth]; omega) (by rw [k1.names]; exact hnn)
  have k2 := k1.trans (K.expr_keeps T 11 (K.step T σ))
  have hb1 := fun (w : World) (h' : CR w b s T (K.expr T 11 (K.step T σ)).1 v) (hv : K.Vars w) => bracket_c hS h2 hD h' hv hvb (hk.keeps k2) (by rw [k2.depth]; exact d1) (by rw [k2.depth]; exact df) (by rw [k2.loops]; exact l1) (hw.keeps k2)
  have k3 := k2.trans (K.brk_keeps (T := T) (fun σ => K.dos_keeps T f σ) (K.expr T 11 (K.step T σ)).1)
  have hb2 := fun (w : World) (h' : CR w b s T (K.brk T (K.dos T f) (K.expr T 11 (K.step T σ)).1).1 v) (hv : K.Vars w) => bracket_c hS h2 hD h' hv hvb (hk.keeps k3) (by rw [k3.depth]; exact d1) (by rw [k3.depth]; exact df) (by rw [k3.loops]; exact l1) (hw.keeps k3)
  have HG : Hid (K.ifX T (K.dos T f) p σ = ((K.brk T (K.dos T f) (K.brk T (K.dos T f) (K.expr T 11 (K.step T σ)).1).1).1, .ifs p (K.expr T 11 (K.step T σ)).2 (K.brk T (K.dos T f) (K.expr T 11 (K.step T σ)).1).2 (K.brk T (K.dos T f) (K.brk T (K.dos T f) (K.expr T 11 (K.step T σ)).1).1).2)) := rfl
  generalize K.ifX T (K.dos T f) p σ = G at *
  generalize K.brk T (K.dos T f) (K.brk T (K.dos T f) (K.expr T 11 (K.step T σ)).1).1 = N2 at *
  generalize K.brk T (K.dos T f) (K.expr T 11 (K.step T σ)).1 = Y2 at *
  generalize K.expr T 11 (K.step T σ) = E at *
  generalize K.step T σ = σ1 at *
  have HG1 : Hid (G.1 = N2.1) := by show _ = _; rw [HG.out]
  have HV : Hid (∀ w' yv nv, DosIs w.heap.size Y2.2 w' yv → DosIs w.heap.size N2.2 w' nv → DoIs (From w.heap.size) w' G.2 (Value.iface 184 (.agg #[.int .i64 p, exV E.2, yv, nv]))) := fun w' yv nv ⟨ys, a1, a2⟩ ⟨ns, b1, b2⟩ => by
    rw [HG.out]; unfold DoIs; exact ⟨yv, nv, ys, ns, rfl, a1, a2, b1, b2⟩
  have f1 := exV_form E.2
  generalize exV E.2 = ev at *
  clear HG k1 k2 k3 hE hD d0 hk
  rcases f1 with ⟨et, ex, rfl⟩ | rfl
  all_goals
    go_enter Tryz.func175, Tryz.ntmps175
    go_wp2_with fail
    refine hst.mono ?_
    rintro x w1 ⟨rfl, hr1, hbb1⟩
    have V1 := hv.but hbb1 h2 hlt
    go_wp2_with fail
    refine (hex _ hr1 V1).mono ?_
    rintro x w2 ⟨rfl, hr2, hbb2⟩
    have V2 := V1.butV hbb2 h2 hr1.cells.lt hvb
    have B2 := (hbb1.toV v).trans hbb2
    go_wp2_with fail
    refine (hb1 _ hr2 V2).mono ?_
    rintro x w3 ⟨yv, rfl, ⟨ys, y1, y2⟩, hr3, hbb3⟩
    have V3 := V2.butV hbb3 h2 hr2.cells.lt hvb
    obtain ⟨ya, yn, yc, rfl⟩ := y1.form
    go_wp2_with fail
    refine (hb2 _ hr3 V3).mono ?_
    rintro x w4 ⟨nv, rfl, ⟨ns, n1, n2⟩, hr4, hbb4⟩
    obtain ⟨na, nn, nc, rfl⟩ := n1.form
    have B3 := B2.trans hbb3
    go_wp2_with fail
    go_ret
    rw [HG1.out]
    exact ⟨_, rfl, HV.out _ _ _ ⟨ys, (y1.lower (From.le B2.size)).keep (hbb4.keeps hlt hvl), (y2.lower (From.le B2.size)).keep (hbb4.keeps hlt hvl)⟩ ⟨ns, n1.lower (From.le B3.size), n2.lower (From.le B3.size)⟩, hr4, B3.trans hbb4⟩
end Go.Proofs.YtjgiefnjmngdkaaGreatDoor
namespace Go.Proofs.YtjgiefnjmngdkaaGreatDoor
open Go.RowKit
open R (Tok tk)
open K (Nm S Scans Ex Do)

/-- A row that was the head of another one in the same block is so still. -/
theorem row_head {w1 w2 : World} {e size n m : Nat} {v v' : Value} {xs ys : List Value} (hsz : 0 < size) (h1 : w1.ownsRow 0 e size v n xs) (h1' : w1.ownsRow 0 e size v' (n + m) (xs ++ ys)) (h2' : w2.ownsRow 0 e size v' (n + m) (xs ++ ys))
    (ho : ∀ k, v.ownBlock = some k → v'.ownBlock ≠ some k → w2.heap[k]? = w1.heap[k]?) : w2.ownsRow 0 e size v n xs := by
  obtain ⟨hl, h0 | ⟨g, cap, cur, rfl, _, hg, hn, hc, hs, hx⟩⟩ := h1
  · exact ⟨hl, Or.inl h0⟩
  · by_cases hb : v'.ownBlock = some g
    · obtain ⟨_, ⟨h0, _⟩ | ⟨g', cap', cur', rfl, _, hg', hn', hc', hs', hx'⟩⟩ := h1'
      · rw [h0] at hb; simp [Value.ownBlock] at hb
      · simp only [Value.ownBlock, Option.some.injEq] at hb
        subst hb
        rw [hg] at hg'
        simp only [Option.some.injEq, Obj.cells.injEq, and_true] at hg'
        obtain ⟨rfl⟩ := hg'
        have hcc : cap = cap' := Nat.eq_of_mul_eq_mul_right hsz (hs.symm.trans hs')
        subst hcc
        obtain ⟨_, ⟨h0, _⟩ | ⟨g2, cap2, cur2, hv2, _, hg2, hn2, hc2, hs2, hx2⟩⟩ := h2'
        · simp at h0
        · simp only [Value.slice.injEq, Option.some.injEq, Addr.mk.injEq] at hv2
          obtain ⟨⟨rfl, _⟩, _, rfl⟩ := hv2
          refine ⟨hl, Or.inr ⟨g', cap, cur2, rfl, Nat.zero_le _, hg2, hn, hc, hs2, ?_⟩⟩
          have e7 := congrArg (List.take (n * size)) hx2
          rw [List.take_take, Nat.min_eq_left (Nat.mul_le_mul_right _ (by omega)), List.take_append_of_le_length (by omega)] at e7
          rw [e7]
          exact List.take_of_length_le (by omega)
    · exact ⟨hl, Or.inr ⟨g, cap, cur, rfl, Nat.zero_le _, by rw [ho g rfl hb]; exact hg, hn, hc, hs, hx⟩⟩

/-- The row of names has grown. -/
theorem CR.push {w w1 : World} {b : Nat} {s : ByteArray} {T : List Tok} {σ : S} {v v' : Value} (h : CR w b s T σ v) (n : Nm) (row : w1.ownsRow 0 96 5 v' (σ.names.length + 1) (σ.names.flatMap nmCells ++ nmCells n)) (g : Grew w w1 v v') :
    CR (w1.setCell ⟨b, 3, none⟩ v') b s T { σ with names := σ.names ++ [n] } v' := by
  have hb : w1.heap[b]? = w.heap[b]? := g.block b h.cells.lt (fun e => (h.ne e).1 rfl)
  have nb : ∀ k, v'.ownBlock = some k → k ≠ b := fun k e => by
    obtain ⟨cur, hc⟩ := own_block row e
    rintro rfl
    have := h.cells.of_block hb
    unfold At at this
    rw [this] at hc
    simp at hc
  refine ⟨(h.cells.of_block hb).set 3 v', ?_, h.lt⟩
  refine row_of ?_ fun k e => Below.heap_setCell _ _ _ _ (nb k e)
  simpa using row

/-- Where nothing panics, what is asked behind a panic is idle. -/
def quietly (Q : Exit → Act → World → Prop) : Exit → Act → World → Prop
  | .normal, a, w => Q .normal a w
  | _, _, _ => False
theorem wp_quietly {P : Program} {c : Code} {Q : Exit → Act → World → Prop} {a : Act} {w : World} (h : c.wp P (quietly Q) a w) : c.wp P Q a w :=
  Code.wp_mono (fun e a w hh => by cases e <;> first | exact hh | exact hh.elim) h

theorem unbody_d (q0 q2 b : Nat) (a : Option Addr) (n c : Nat) (v' : Value) (d : Int) (u : FrameMode) (w : World) (hd : 0 ≤ d ∧ d ≤ 100) (c0 : w.cell? ⟨q0, 0, none⟩ = some (PT b)) (c2 : w.cell? ⟨q2, 0, none⟩ = some (.slice a n c))
    (c3 : w.cell? ⟨b, 3, none⟩ = some v') (f3 : w.frozen? ⟨b, 3, none⟩ = false) (c6 : w.cell? ⟨b, 6, none⟩ = some (.int .i64 d)) (f6 : w.frozen? ⟨b, 6, none⟩ = false) :
    CallsD Tryz.prog 222 #[.pointer (some ⟨q2, 0, none⟩), .pointer (some ⟨q0, 0, none⟩)] u w fun e u' w' => u' = u ∧ (e = .returned (.tuple #[]) ∧ w' = (w.setCell ⟨b, 3, none⟩ (.slice a n c)).setCell ⟨b, 6, none⟩ (.int .i64 (d - 1))) := by
  obtain ⟨d0, d1⟩ := hd
  go_enter_d Tryz.func222, Tryz.ntmps222
  go_wp2
  go_end0
  exact ⟨rfl, rfl⟩

/-- The counter is seen. -/
structure Sees (w w' : World) (b : Nat) (s : ByteArray) (T : List Tok) (σ : S) (v : Value) (n : Nm) (v' : Value) (Z : Nat) : Prop where
  cr : CR w' b s T { σ with names := σ.names ++ [n] } v'
  bv : ButV b v w w'
  old : w'.ownsRow 0 96 5 v σ.names.length (σ.names.flatMap nmCells)
  a0 : At w' Z 134 [PT b]
  a2 : At w' (Z + 2) 81 [v]
  own : ∀ k, v'.ownBlock = some k → v.ownBlock = some k ∨ Z + 2 < k

set_option maxHeartbeats 2000000 in
theorem body_c {w : World} {b : Nat} {s : ByteArray} {T : List Tok} {σ : S} {v : Value} {f : Nat} (h2 : 5 ≤ b) (hD : DosK b s T f) (h : CR w b s T σ v) (hv : K.Vars w) (hvb : ∀ k, v.ownBlock = some k → 5 ≤ k) (hk : KB σ) (l1 : σ.loops ≤ 10) (n : Nm) (hl : Live T f (K.seeing n σ)) :
    Calls Tryz.prog 209 #[PT b, nmV n] w fun x w' => ∃ u, x = .returned u ∧ DosIs w.heap.size (K.body (K.dos T f) n σ).2 w' u ∧ CR w' b s T (K.body (K.dos T f) n σ).1 v ∧ ButV b v w w' := by
  have hmf : ∀ (fn : Fn) (first cap : Array Value) (w : World), (Instr.makeFunc fn first cap).run Tryz.prog w = .ok (.func fn first cap) w := fun _ _ _ _ => rfl
  obtain ⟨i0, hi, hz0, hz1, hz2⟩ := info_parts info_name
  obtain ⟨va, vc, hvv⟩ := h.len
  subst hvv
  have hlt := h.cells.lt
  have hvl : ∀ k, (Value.slice va σ.names.length vc).ownBlock = some k → k < w.heap.size := fun k hk => (h.ne hk).2
  have hnl : σ.names.length ≤ 1000 := by have := hk.nm; omega
  have l0 := hk.l0
  have hks : KB (K.seeing n σ) := by
    obtain ⟨a1, a2, a3⟩ := hk
    refine ⟨a1, ?_, ?_⟩
    · show 0 ≤ σ.loops + 1; omega
    · show ((σ.names ++ [n]).length : Int) ≤ 900 + (σ.loops + 1); simp; omega
  have HB1 : Hid ((K.body (K.dos T f) n σ).1 = K.unseen σ (K.dos T f (K.seeing n σ)).1) := rfl
  have HB2 : Hid ((K.body (K.dos T f) n σ).2 = (K.dos T f (K.seeing n σ)).2) := rfl
  have kd := K.dos_keeps T f (K.seeing n σ)
  have HKD := hide (show (K.dos T f (K.seeing n σ)).1.loops = σ.loops + 1 ∧ (K.dos T f (K.seeing n σ)).1.names = σ.names ++ [n] from ⟨kd.loops, kd.names⟩)
  have hds := fun (w : World) (v' : Value) (h' : CR w b s T (K.seeing n σ) v') (hv : K.Vars w) (hvb : ∀ k, v'.ownBlock = some k → 5 ≤ k) => hD w _ v' h' hv hvb hks hl
  generalize K.body (K.dos T f) n σ = BD at *
  generalize K.dos T f (K.seeing n σ) = D at *
  obtain ⟨x0, x1, x2, x3, x4⟩ := n
  unfold nmV
  dsimp only
  have hone : ∀ u ∈ [Value.string x0, .int .i64 x1, .bool x2, .int .i64 x3, .int .i64 x4], u.oneCell' = true := by
    intro u hu
    simp only [List.mem_cons, List.not_mem_nil, or_false] at hu
    rcases hu with rfl | rfl | rfl | rfl | rfl <;> rfl
  have c3 := h.c 3 _ rfl
  clear hD kd
  go_enter_defers Tryz.func209, Tryz.ntmps209
  go_upto_region 2 with fail
  have hW := ((h.alloc (.cells #[PT b] 134 (0, 0))).alloc (.cells #[.string x0, .int .i64 x1, .bool x2, .int .i64 x3, .int .i64 x4] 96 (0, 0))).alloc (.cells #[.slice va σ.names.length vc] 81 (0, 0))
  have BW := ((((But.refl b w).alloc (.cells #[PT b] 134 (0, 0))).alloc (.cells #[.string x0, .int .i64 x1, .bool x2, .int .i64 x3, .int .i64 x4] 96 (0, 0))).alloc (.cells #[.slice va σ.names.length vc] 81 (0, 0)))
  have a0 : At (((w.alloc (.cells #[PT b] 134 (0, 0))).alloc (.cells #[.string x0, .int .i64 x1, .bool x2, .int .i64 x3, .int .i64 x4] 96 (0, 0))).alloc (.cells #[.slice va σ.names.length vc] 81 (0, 0))) w.heap.size 134 [PT b] := ((At.alloc_new w [PT b] _).alloc _).alloc _
  have a1 : At (((w.alloc (.cells #[PT b] 134 (0, 0))).alloc (.cells #[.string x0, .int .i64 x1, .bool x2, .int .i64 x3, .int .i64 x4] 96 (0, 0))).alloc (.cells #[.slice va σ.names.length vc] 81 (0, 0))) (w.heap.size + 1) 96 [.string x0, .int .i64 x1, .bool x2, .int .i64 x3, .int .i64 x4] := by
    have e : (w.alloc (.cells #[PT b] 134 (0, 0))).heap.size = w.heap.size + 1 := by simp
    have := (At.alloc_new (w.alloc (.cells #[PT b] 134 (0, 0))) [.string x0, .int .i64 x1, .bool x2, .int .i64 x3, .int .i64 x4] 96).alloc (.cells #[.slice va σ.names.length vc] 81 (0, 0))
    rw [e] at this
    exact this
  have a2 : At (((w.alloc (.cells #[PT b] 134 (0, 0))).alloc (.cells #[.string x0, .int .i64 x1, .bool x2, .int .i64 x3, .int .i64 x4] 96 (0, 0))).alloc (.cells #[.slice va σ.names.length vc] 81 (0, 0))) (w.heap.size + 2) 81 [.slice va σ.names.length vc] := by
    have e : ((w.alloc (.cells #[PT b] 134 (0, 0))).alloc (.cells #[.string x0, .int .i64 x1, .bool x2, .int .i64 x3, .int .i64 x4] 96 (0, 0))).heap.size = w.heap.size + 2 := by simp
    have := At.alloc_new ((w.alloc (.cells #[PT b] 134 (0, 0))).alloc (.cells #[.string x0, .int .i64 x1, .bool x2, .int .i64 x3, .int .i64 x4] 96 (0, 0))) [.slice va σ.names.length vc] 81
    rw [e] at this
    exact this
  have VW := hv.but BW h2 hlt
  generalize ((w.alloc (.cells #[PT b] 134 (0, 0))).alloc (.cells #[.string x0, .int .i64 x1, .bool x2, .int .i64 x3, .int .i64 x4] 96 (0, 0))).alloc (.cells #[.slice va σ.names.length vc] 81 (0, 0)) = W at *
  generalize HQ : w.heap.size = Z at *
  have z0 := a0.cell 0
  have z10 := a1.cell 0
  have z11 := a1.cell 1
  have z12 := a1.cell 2
  have z13 := a1.cell 3
  have z14 := a1.cell 4
  simp only [List.getElem?_cons_zero, List.getElem?_cons_succ] at z0 z10 z11 z12 z13 z14
  have y3 : W.cell? ⟨b, 3, none⟩ = some (.slice va σ.names.length vc) := hW.c 3 _ rfl
  have g3 := hW.cells.frozen 3
  have rS := hW.names
  have nb := hW.cells.lt
  have n0 := a0.lt
  have n1 := a1.lt
  have n2 := a2.lt
  have nv0 : (Value.slice va σ.names.length vc).ownBlock ≠ some b := fun e => (hW.ne e).1 rfl
  have nvz : ∀ j, (Value.slice va σ.names.length vc).ownBlock ≠ some (Z + j) := fun j e => by have := hvl _ e; omega
  clear c3
  go_cut [] from 10 to 19 (fun wr => ∃ gg cap3, Sees w wr b s T σ (.slice va σ.names.length vc) ⟨x0, x1, x2, x3, x4⟩ (.slice (some ⟨gg, 0, none⟩) (σ.names.length + 1) cap3) Z)
  case first =>
    refine wp_quietly ?_
    go_region_law (refine step_append_keep rfl (.tmp 14) (.tmp 16) 81 rfl 96 i0 _ 5 48 Tryz.underlying81 hi hz0 hz1 hz2 rfl (by decide) (.slice va σ.names.length vc) σ.names.length (σ.names.flatMap nmCells) rfl (by exact (World.ownsRow.alloc rS _).drew) ⟨W.heap.size, 0, none⟩ 1 1 [.string x0, .int .i64 x1, .bool x2, .int .i64 x3, .int .i64 x4] rfl rfl (by exact row_new W [.string x0, .int .i64 x1, .bool x2, .int .i64 x3, .int .i64 x4] _) hone (few_le (by omega)) (by omega) Nat.one_pos ?_; intro gg cap3 w3 hrow hg hkk hold; have gr := Grew.of ((More.refl W).alloc _).drew hg hkk; have y3' : w3.cell? ⟨b, 3, none⟩ = some (.slice va σ.names.length vc) := (World.cell?_of_block (gr.block b nb nv0)).trans y3; have g3' : w3.frozen? ⟨b, 3, none⟩ = false := (World.frozen?_of_block (gr.block b nb nv0)).trans g3; have z0' : w3.cell? ⟨Z, 0, none⟩ = some (PT b) := (World.cell?_of_block (gr.block Z n0 (nvz 0))).trans z0; clear hg hkk)
    all_goals
      dsimp only [quietly]
      have C3 := hW.push ⟨x0, x1, x2, x3, x4⟩ hrow gr
      have bne : ∀ k, k ≠ b → (w3.setCell ⟨b, 3, none⟩ (.slice (some ⟨gg, 0, none⟩) (σ.names.length + 1) cap3)).heap[k]? = w3.heap[k]? := fun k hkb => Below.heap_setCell _ _ _ _ hkb
      have hgg := gr.own
      have BV3 : ButV b (.slice va σ.names.length vc) w (w3.setCell ⟨b, 3, none⟩ (.slice (some ⟨gg, 0, none⟩) (σ.names.length + 1) cap3)) := by
        refine ⟨gr.os.trans BW.os, gr.tape.trans BW.tape, gr.output.trans BW.output, by have := gr.size; have := BW.size; simpa [World.setCell] using (by omega : w.heap.size ≤ w3.heap.size), fun k h1 h3 h4 => ?_⟩
        have := BW.size
        rw [bne k h3, gr.block k (by omega) h4, BW.block k h1 h3]
      have SE : Sees w (w3.setCell ⟨b, 3, none⟩ (.slice (some ⟨gg, 0, none⟩) (σ.names.length + 1) cap3)) b s T σ (.slice va σ.names.length vc) ⟨x0, x1, x2, x3, x4⟩ (.slice (some ⟨gg, 0, none⟩) (σ.names.length + 1) cap3) Z :=
        ⟨C3, BV3, row_of hold fun k e => bne k (fun e' => nv0 (by rw [← e']; exact e)), (a0.of_block (gr.block Z n0 (nvz 0))).of_block (bne Z (by omega)), (a2.of_block (gr.block _ n2 (nvz 2))).of_block (bne (Z + 2) (by omega)), fun k e => (hgg k e).imp id (fun h => by omega)⟩
      clear hrow hold gr C3 BV3 bne hgg y3' g3' z0'
      go_wp2_with fail
      go_meet
      case rel => exact ⟨_, _, SE⟩
  case rest =>
    obtain ⟨gg, cap3, SE⟩ := hcut
    clear hW BW a0 a1 a2 VW z0 z10 z11 z12 z13 z14 y3 g3 rS nb n0 n1 n2 nv0
    have hbz : b < Z := by omega
    have V3 := hv.butV SE.bv h2 (by omega) hvb
    have zq : wc.cell? ⟨Z, 0, none⟩ = some (PT b) := SE.a0.cell 0
    have c6 := SE.cr.c 6 _ rfl
    have f6 := SE.cr.cells.frozen 6
    have ob := SE.own
    have C4 : CR (wc.setCell ⟨b, 6, none⟩ (.int .i64 (σ.loops + 1))) b s T (K.seeing ⟨x0, x1, x2, x3, x4⟩ σ) (.slice (some ⟨gg, 0, none⟩) (σ.names.length + 1) cap3) := SE.cr.turn (SE.cr.cells.set 6 _) ((But.refl b wc).set 6 _) rfl SE.cr.lt
    have B4 : But b wc (wc.setCell ⟨b, 6, none⟩ (.int .i64 (σ.loops + 1))) := (But.refl b wc).set 6 _
    have V4 := V3.but B4 h2 SE.cr.cells.lt
    have a04 := SE.a0.of_block (B4.block _ SE.a0.lt (by omega))
    have a24 := SE.a2.of_block (B4.block _ SE.a2.lt (by omega))
    have old4 : (wc.setCell ⟨b, 6, none⟩ (.int .i64 (σ.loops + 1))).ownsRow 0 96 5 (.slice va σ.names.length vc) σ.names.length (σ.names.flatMap nmCells) := row_of SE.old fun k e => B4.block k (by have := hvl k e; have := SE.bv.size; omega) (fun e' => by have := hvl k e; have := (h.ne e).1; omega)
    have bv4 := SE.bv.trans (B4.toV _)
    have zq4 : (wc.setCell ⟨b, 6, none⟩ (.int .i64 (σ.loops + 1))).cell? ⟨Z, 0, none⟩ = some (PT b) := a04.cell 0
    have vb' : ∀ k, (Value.slice (some ⟨gg, 0, none⟩) (σ.names.length + 1) cap3).ownBlock = some k → 5 ≤ k := fun k e => (ob k e).elim (hvb k) (fun e' => by omega)
    go_wp2_with fail
    have hdd := hds _ _ C4 V4 vb'
    generalize wc.setCell ⟨b, 6, none⟩ (.int .i64 (σ.loops + 1)) = W4 at *
    refine hdd.mono ?_
    rintro x w5 ⟨u, us, rfl, dr, de, C5, B5⟩
    have nz : ∀ j, j ≤ 2 → (Value.slice (some ⟨gg, 0, none⟩) (σ.names.length + 1) cap3).ownBlock ≠ some (Z + j) := fun j hj e => by
      rcases ob _ e with e' | e'
      · exact nvz j e'
      · omega
    have a05 := a04.of_block (B5.block _ a04.lt (by omega) (nz 0 (by omega)))
    have a25 := a24.of_block (B5.block _ a24.lt (by omega) (nz 2 (by omega)))
    have u0 : w5.cell? ⟨Z, 0, none⟩ = some (PT b) := a05.cell 0
    have u2 : w5.cell? ⟨Z + 2, 0, none⟩ = some (.slice va σ.names.length vc) := a25.cell 0
    have u3 := C5.c 3 _ rfl
    have u6 : w5.cell? ⟨b, 6, none⟩ = some (.int .i64 (σ.loops + 1)) := by rw [← HKD.out.1]; exact C5.c 6 _ rfl
    have new4 : W4.ownsRow 0 96 5 (.slice (some ⟨gg, 0, none⟩) (σ.names.length + 1) cap3) (σ.names.length + 1) (σ.names.flatMap nmCells ++ nmCells ⟨x0, x1, x2, x3, x4⟩) := by simpa [K.seeing] using C4.names
    have new5 : w5.ownsRow 0 96 5 (.slice (some ⟨gg, 0, none⟩) (σ.names.length + 1) cap3) (σ.names.length + 1) (σ.names.flatMap nmCells ++ nmCells ⟨x0, x1, x2, x3, x4⟩) := by
      have := C5.names
      rw [HKD.out.2] at this
      simpa using this
    have s4 := bv4.size
    have old5 := row_head (by decide) old4 new4 new5 fun k e ne => B5.block k (by have := hvl k e; omega) (fun e' => (h.ne e).1 e') ne
    have c53 := C5.cells.frozen 3
    have c56 := C5.cells.frozen 6
    go_wp2_with fail
    refine leaves_cons (f := 222) (args := #[.pointer (some ⟨Z + 2, 0, none⟩), .pointer (some ⟨Z, 0, none⟩)]) (by simp) (by simp [go_sem]) ?_
    refine (unbody_d Z (Z + 2) b va σ.names.length vc _ (σ.loops + 1) .returning _ ⟨by omega, by omega⟩ u0 u2 u3 c53 u6 c56).mono ?_
    rintro e u' w6 ⟨rfl, rfl, rfl⟩
    refine ⟨_, results_tmp rfl _ _ _, u, rfl, ?_, ?_, ?_⟩
    · rw [HB2.out, HQ]
      have hkk : ∀ k, Z ≤ k → k < w5.heap.size → ((w5.setCell ⟨b, 3, none⟩ (.slice va σ.names.length vc)).setCell ⟨b, 6, none⟩ (.int .i64 (σ.loops + 1 - 1))).heap[k]? = w5.heap[k]? := fun k h1 _ => by
        rw [Below.heap_setCell _ _ _ _ (by show k ≠ b; omega), Below.heap_setCell _ _ _ _ (by show k ≠ b; omega)]
      have hle : Z ≤ W4.heap.size := by omega
      exact ⟨us, (dr.lower (From.le hle)).keep hkk, (de.lower (From.le hle)).keep hkk⟩
    · rw [HB1.out]
      have e2 : rcs s (tk T D.1.i) (K.unseen σ D.1) (.slice va σ.names.length vc) = ((rcs s (tk T D.1.i) D.1 (.slice (some ⟨gg, 0, none⟩) (σ.names.length + 1) cap3)).set 3 (.slice va σ.names.length vc)).set 6 (.int .i64 (σ.loops + 1 - 1)) := by rw [← HKD.out.1]; rfl
      refine ⟨?_, ?_, C5.lt⟩
      · show At _ b _ (rcs s (tk T D.1.i) (K.unseen σ D.1) (.slice va σ.names.length vc))
        rw [e2]
        exact (C5.cells.set 3 _).set 6 _
      · exact row_of old5 fun k e => by rw [Below.heap_setCell _ _ _ _ (fun e' => (h.ne e).1 e'), Below.heap_setCell _ _ _ _ (fun e' => (h.ne e).1 e')]
    · refine ⟨B5.os.trans bv4.os, B5.tape.trans bv4.tape, B5.output.trans bv4.output, by have := B5.size; simpa [World.setCell] using (by omega : w.heap.size ≤ w5.heap.size), fun k h1 h3 h4 => ?_⟩
      rw [Below.heap_setCell _ _ _ _ h3, Below.heap_setCell _ _ _ _ h3, B5.block k (by omega) h3 (fun e => by
        rcases ob _ e with e' | e'
        · exact h4 e'
        · omega), bv4.block k h1 h3 h4]
end Go.Proofs.YtjgiefnjmngdkaaGreatDoor
