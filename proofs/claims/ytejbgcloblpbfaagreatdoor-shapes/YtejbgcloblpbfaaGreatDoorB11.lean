import Derived.Test.YtejbgcloblpbfaaGreatDoorB10
import Derived.Test.YtejbgcloblpbfaaGreatDoorB03
namespace Go.Proofs.YtejbgcloblpbfaaGreatDoor
open Go.RowKit
theorem olds_of {w : World} {g : Nat} {t : TypeId} {l : List Value} (a : At w g t l) : ∀ b, (some ⟨g, 0, none⟩ : Option Addr) = some b → ∀ (j : Nat) u, l[j]? = some u → w.cell? (b.add j) = some u := by
  intro b hb j u hu
  cases hb
  have ea : (⟨g, 0, none⟩ : Addr).add j = ⟨g, j, none⟩ := by unfold Addr.add; split <;> simp_all
  rw [ea, a.cell, hu]
theorem own_cells {w : World} {base n cap g : Nat} {e : TypeId} {xs : List Value} (h : w.ownsRow base e 1 (.slice (some ⟨g, 0, none⟩) n cap) n xs) :
    base ≤ g ∧ g < w.heap.size ∧ ∀ (j : Nat) u, xs[j]? = some u → w.cell? ⟨g, j, none⟩ = some u := by
  obtain ⟨hl, ⟨h0, _⟩ | ⟨g', cap', cur, hv, hb, hg, hc, _, hs, hx⟩⟩ := h
  · simp at h0
  · simp only [Value.slice.injEq, Option.some.injEq, Addr.mk.injEq] at hv
    obtain ⟨⟨rfl, _⟩, _, rfl⟩ := hv
    refine ⟨hb, heap_lt hg, fun j u hu => ?_⟩
    have hj : j < n * 1 := by rw [← hl]; exact (List.getElem?_eq_some_iff.1 hu).1
    rw [← hx, List.getElem?_take_of_lt hj] at hu
    simp [World.cell?, hg]
    simpa using hu
theorem all_v {l : List Value} {v : Bool} {L : Nat} (hl : l.length = L) (h : ∀ j, j < L → l[j]? = some (.bool v)) (m : Nat) : ∀ j, j < L + m → (l ++ List.replicate m (.bool v))[j]? = some (.bool v) := by
  intro j hj
  by_cases e : j < L
  · rw [List.getElem?_append_left (by omega)]; exact h j e
  · rw [List.getElem?_append_right (by omega), List.getElem?_replicate, if_pos (by omega)]
theorem size_alloc (w : World) (o : Obj) : (w.alloc o).heap.size = w.heap.size + 1 := by simp
theorem But.grown {b : Nat} {a w w' : World} (h : But b a w) (hg : w.grownBy w' none) : But b a w' :=
  h.trans ⟨hg.os, hg.tape, hg.output, hg.size, fun k hk _ => hg.block k hk (by simp)⟩
set_option maxRecDepth 100000 in
set_option maxHeartbeats 2000000 in
theorem flags_c {g L lo : Nat} {l : List Value} {w : World} (v : Bool) (hl : l.length = L) (hL : L ≤ 54) (ha : At w g 4 l) (hlo : lo ≤ g) :
    Calls Tryz.prog 18 #[.slice (some ⟨g, 0, none⟩) L L, .bool v] w fun x w' => ∃ h, x = .returned (.slice (some ⟨h, 0, none⟩) 3 3) ∧ Three w' lo w'.heap.size h v ∧ But g w w' := by
  obtain ⟨j0, ji, jz0, jz1, jz2⟩ := info_parts info_bool
  go_enter Tryz.func18, Tryz.ntmps18
  go_wp2_with fail
  go_loopg [5] L (fun gk i wr => ∃ (k : Nat) (l' : List Value), k + gk = L ∧ i = .int .i64 (k : Int) ∧ At wr g 4 l' ∧ l'.length = L ∧ Hid (∀ j, j < k → l'[j]? = some (.bool v)) ∧ But g w wr)
  case atStart => exact ⟨0, l, by omega, rfl, ha, hl, fun j h => by omega, But.refl _ _⟩
  case round =>
    obtain ⟨k, l', hk, rfl, a', hl', HJ, hb⟩ := hrel
    have nlt := a'.lt
    cases gk with
    | succ g1 =>
      have hz : (k : Int) < (L : Int) := by omega
      obtain ⟨u, hu⟩ : ∃ u, l'[k]? = some u := ⟨_, List.getElem?_eq_getElem (by omega)⟩
      have c0 := a'.cell k
      rw [hu] at c0
      have f0 := a'.frozen k
      go_wp2_with fail
      go_roundg g1
      case measure => omega
      case rel =>
        refine ⟨k + 1, l'.set k (.bool v), by omega, by go_num, a'.set k _, by simpa using hl', fun j h => ?_, hb.set k _⟩
        by_cases e : k = j
        · subst e; rw [List.getElem?_set_self (by omega)]
        · rw [List.getElem?_set_ne e]; exact HJ.out j (by omega)
    | zero =>
      have hz : ¬ ((k : Int) < (L : Int)) := by omega
      have hkL : k = L := by omega
      subst hkL
      go_wp2_with (first | (at_builtin; refine wpList_append_grows _ rfl (.tmp 17) (.tmp 19) 33 rfl 4 j0 (.bool false) 1 1 Tryz.underlying33 ji jz0 jz1 jz2 rfl (by decide) (some ⟨g, 0, none⟩) k k l' rfl (fun h => by cases h) (by omega) (by exact olds_of (a'.alloc _)) ⟨wr.heap.size, 0, none⟩ 1 1 [.bool v] rfl rfl (by exact row_new wr [.bool v] _) (by intro u hu; simp only [List.mem_singleton] at hu; subst hu; rfl) (by omega) (by unfold maxLen; omega) (by omega) ?_; intro v1 w2 own1 gr1; have a2 := (a'.alloc _).of_block (gr1.block g (a'.alloc _).lt (by simp)); obtain ⟨g1, c1, e1⟩ := Joins.ownsRow_form own1 (by omega); subst e1; have nlt2 := a2.lt) | (at_builtin; refine wpList_append_grows _ rfl (.tmp 21) (.tmp 28) 33 rfl 4 j0 (.bool false) 1 1 Tryz.underlying33 ji jz0 jz1 jz2 rfl (by decide) (some ⟨g, 0, none⟩) k k l' rfl (fun h => by cases h) (by omega) (by exact olds_of (a2.alloc _)) ⟨w2.heap.size, 0, none⟩ 6 6 [.bool v, .bool v, .bool v, .bool v, .bool v, .bool v] rfl rfl (by exact row_new w2 [.bool v, .bool v, .bool v, .bool v, .bool v, .bool v] _) (by intro u hu; simp only [List.mem_cons, List.not_mem_nil, or_false, or_self] at hu; subst hu; rfl) (by omega) (by unfold maxLen; omega) (by omega) ?_; intro v2 w3 own2 gr2; have a3 := (a2.alloc _).of_block (gr2.block g (a2.alloc _).lt (by simp)); obtain ⟨g2, c2, e2⟩ := Joins.ownsRow_form own2 (by omega); subst e2))
      go_wp2_with fail
      go_ret
      obtain ⟨p1, q1, r1⟩ := own_cells own1
      obtain ⟨p2, q2, r2⟩ := own_cells own2
      have hall := HJ.out
      have at3 := At.alloc_new w3 [.slice (some ⟨g, 0, none⟩) k k, .slice (some ⟨g1, 0, none⟩) (k + 1) c1, .slice (some ⟨g2, 0, none⟩) (k + 6) c2] 33
      have z1 := gr1.size
      have z2 := gr2.size
      simp only [size_alloc] at p1 p2 z1 z2
      have l3 : g < w3.heap.size := a3.lt
      refine ⟨_, rfl, ⟨fun i hi => ?_, by simp only [size_alloc]; omega⟩, (((((hb.alloc _).grown gr1).alloc _).grown gr2).alloc _)⟩
      match i, hi with
      | 0, _ => exact ⟨g, k, k, at3.cell 0, by omega, ⟨hlo, by simp only [size_alloc]; omega⟩, fun j hj => ((a3.alloc _).cell j).trans (hall j hj)⟩
      | 1, _ =>
        refine ⟨g1, k + 1, c1, at3.cell 1, by omega, ⟨by omega, by simp only [size_alloc]; omega⟩, fun j hj => ?_⟩
        refine (World.cell?_of_block (w := w2) (a := ⟨g1, j, none⟩) ?_).trans (r1 j _ (all_v hl' hall 1 j hj))
        exact (heap_alloc_old w3 _ g1 (by omega)).trans ((gr2.block g1 (by simp only [size_alloc]; omega) (by simp)).trans (heap_alloc_old _ _ _ q1))
      | 2, _ =>
        refine ⟨g2, k + 6, c2, at3.cell 2, by omega, ⟨by omega, by simp only [size_alloc]; omega⟩, fun j hj => ?_⟩
        refine (World.cell?_of_block (w := w3) (a := ⟨g2, j, none⟩) ?_).trans (r2 j _ (all_v hl' hall 6 j hj))
        exact heap_alloc_old _ _ _ q2
end Go.Proofs.YtejbgcloblpbfaaGreatDoor
namespace Go.Proofs.YtejbgcloblpbfaaGreatDoor
open Go.RowKit
theorem run_append_keep {P : Program} (w : World) (t ty e : TypeId) (i : TypeInfo) (z : Value) (size bytes : Nat) (ht : P.underlying t = some (.slice e)) (hi : P.info? e = some i) (hz : i.zero = some z)
    (hsize : i.size = size) (hby : i.bytes = bytes) (hzs : z.cells.size = size) (hsz : 0 < size)
    (v : Value) (n : Nat) (xs : List Value) (hown : w.ownsRow 0 e size v n xs)
    (a : Addr) (m c : Nat) (news : List Value) (hl : news.length = m * size) (hnews : ∀ (j : Nat) u, news[j]? = some u → w.cell? (a.add j) = some u) (h1 : ∀ u ∈ news, u.oneCell' = true)
    (h63 : n + m ≤ maxLen) (hbytes : (n + m) * bytes ≤ 140737488355328) :
    ∃ v' w', (Builtin.append_ #[t, t] ty #[v, .slice (some a) m c]).run P w = .ok v' w' ∧ w'.ownsRow 0 e size v' (n + m) (xs ++ news) ∧ w.grownBy w' v.ownBlock ∧
      (∀ k, v'.ownBlock = some k → v.ownBlock = some k ∨ w.heap.size ≤ k) ∧ w'.ownsRow 0 e size v n xs := by
  obtain ⟨v', w', hr, h2, h3, _⟩ := run_append_own (P := P) w 0 t ty e i z size bytes ht hi hz hsize hby hzs hsz v n xs hown a m c news hl hnews h1 h63 hbytes (Nat.zero_le _)
  refine ⟨v', w', hr, h2, h3, ?_⟩
  obtain ⟨hxl, ⟨rfl, rfl⟩ | ⟨g, cap, cur, rfl, _, hg, hnc, hcap, hcs, hcx⟩⟩ := hown
  · have hxs : xs = [] := List.eq_nil_of_length_eq_zero (by simpa using hxl)
    subst hxs
    obtain ⟨v2, w2, hr2, k2, _, _⟩ := run_append_own (P := P) w w.heap.size t ty e i z size bytes ht hi hz hsize hby hzs hsz (.slice none 0 0) 0 [] (World.ownsRow_nil w _ e size) a m c news hl hnews h1 h63 hbytes (Nat.le_refl _)
    rw [hr] at hr2
    simp only [Result.ok.injEq] at hr2
    obtain ⟨rfl, rfl⟩ := hr2
    refine ⟨fun k hk => Or.inr ?_, World.ownsRow_nil _ 0 e size⟩
    obtain ⟨_, ⟨h0, _⟩ | ⟨g', cap', cur', rfl, hb, _⟩⟩ := k2
    · rw [h0] at hk; simp [Value.ownBlock] at hk
    · simp only [Value.ownBlock, Option.some.injEq] at hk; omega
  · by_cases hroom : n + m ≤ cap
    · have hr2 := run_append_room_cells (P := P) w t ty e i ht hi g 0 n cap a m c news (by rw [hsize]; exact hl) hnews h1 hroom
        (fun j hj => by
          have : 0 + n * i.size + j < cur.size := by
            have := Nat.mul_le_mul_right size hroom
            rw [Nat.add_mul] at this
            rw [hsize]
            omega
          simp [World.cell?, hg]
          simpa using this)
        (fun j hj => by simp [World.frozen?, hg])
      rw [hr] at hr2
      simp only [Result.ok.injEq] at hr2
      refine ⟨fun k hk => Or.inl (by rw [hr2.1] at hk; exact hk), hxl, Or.inr ⟨g, cap, ?_⟩⟩
      obtain ⟨_, ⟨h0, _⟩ | ⟨g', cap', cur', hv', _, e2, e3, e4, e5, e6⟩⟩ := h2
      · rw [hr2.1] at h0; simp at h0
      · rw [hr2.1] at hv'
        simp only [Value.slice.injEq, Option.some.injEq, Addr.mk.injEq] at hv'
        obtain ⟨⟨rfl, _⟩, _, rfl⟩ := hv'
        refine ⟨cur', rfl, Nat.zero_le _, e2, hnc, hcap, e5, ?_⟩
        have e7 := congrArg (List.take (n * size)) e6
        rw [List.take_take, Nat.min_eq_left (Nat.mul_le_mul_right _ (by omega)), List.take_append_of_le_length (by omega)] at e7
        rw [e7]
        exact List.take_of_length_le (by omega)
    · obtain ⟨v2, w2, hr2, k2, k3⟩ := run_append_arg_grows (P := P) w t ty e i z size bytes ht hi hz hsize hby hzs hsz ⟨g, 0, none⟩ n cap xs hxl
        (fun j u hu => by
          have hj : j < n * size := by rw [← hxl]; exact (List.getElem?_eq_some_iff.1 hu).1
          rw [← hcx, List.getElem?_take_of_lt hj] at hu
          have ea : (⟨g, 0, none⟩ : Addr).add j = ⟨g, j, none⟩ := by unfold Addr.add; split <;> simp_all
          rw [ea]
          simp [World.cell?, hg]
          simpa using hu)
        a m c news hl hnews (by omega) h63 hbytes
      rw [hr] at hr2
      simp only [Result.ok.injEq] at hr2
      obtain ⟨rfl, rfl⟩ := hr2
      refine ⟨fun k hk => Or.inr ?_, hxl, Or.inr ⟨g, cap, cur, rfl, Nat.zero_le _, by rw [k3.block g (heap_lt hg) (by simp)]; exact hg, hnc, hcap, hcs, hcx⟩⟩
      obtain ⟨_, ⟨h0, _⟩ | ⟨g', cap', cur', rfl, hb, _⟩⟩ := k2
      · rw [h0] at hk; simp [Value.ownBlock] at hk
      · simp only [Value.ownBlock, Option.some.injEq] at hk; omega
theorem step_append_keep {P : Program} {ops : Array Oper} {o : Oper} {a : Act} {w : World} {K : Act → World → Prop} {Q : Exit → Act → World → Prop} {E : Prop}
    (hg : o.guard = none) (s x : Operand) (t : TypeId) (hop : o.op = Op.call { callee := Callee.builtin Builtin.append, args := #[s, x], argTypes := #[t, t] })
    (e : TypeId) (i : TypeInfo) (z : Value) (size bytes : Nat) (ht : P.underlying t = some (.slice e)) (hi : P.info? e = some i) (hz : i.zero = some z)
    (hsize : i.size = size) (hby : i.bytes = bytes) (hzs : z.cells.size = size) (hsz : 0 < size)
    (v : Value) (n : Nat) (xs : List Value) (hs : a.eval s = v) (hown : w.ownsRow 0 e size v n xs)
    (ad : Addr) (m c : Nat) (news : List Value) (hx : a.eval x = .slice (some ad) m c) (hl : news.length = m * size) (hnews : ∀ (j : Nat) u, news[j]? = some u → w.cell? (ad.add j) = some u) (h1 : ∀ u ∈ news, u.oneCell' = true)
    (h63 : n + m ≤ maxLen) (hbytes : (n + m) * bytes ≤ 140737488355328) (hm : 0 < m)
    (hK : ∀ g cap w', w'.ownsRow 0 e size (.slice (some ⟨g, 0, none⟩) (n + m) cap) (n + m) (xs ++ news) → w.grownBy w' v.ownBlock → (∀ k, (Value.slice (some ⟨g, 0, none⟩) (n + m) cap).ownBlock = some k → v.ownBlock = some k ∨ w.heap.size ≤ k) → w'.ownsRow 0 e size v n xs → K (a.put o.dst (.slice (some ⟨g, 0, none⟩) (n + m) cap)) w') :
    if Region.wanted o (yielded ops a.tmps) = true then Oper.wp P o a w K Q else E := by
  have hw : Region.wanted o (yielded ops a.tmps) = true := by simp [Region.wanted, hg]
  rw [if_pos hw]
  obtain ⟨v', w', hr, h2, h3, h4, h5⟩ := run_append_keep (P := P) w t o.type e i z size bytes ht hi hz hsize hby hzs hsz v n xs hown ad m c news hl hnews h1 h63 hbytes
  obtain ⟨g, cap, rfl⟩ := Joins.ownsRow_form h2 (by omega)
  unfold Oper.wp execOp
  simp only [hop, resolve, invoke, builtin, Sem.run_bind, Sem.run_pure, Result.andThen_ok, List.map_toArray, List.map_cons, List.map_nil, hs, hx, hr]
  exact hK g cap w' h2 h3 h4 h5
theorem info_name : (Tryz.prog.info? 96).map (fun i => (i.zero, i.size, i.bytes)) = some (some (.agg #[.string ⟨#[]⟩, .int .i64 0, .bool false, .int .i64 0, .int .i64 0]), 5, 48) := by kernel_rfl
theorem info_do : (Tryz.prog.info? 151).map (fun i => (i.zero, i.size, i.bytes)) = some (some .nilIface, 1, 16) := by kernel_rfl
end Go.Proofs.YtejbgcloblpbfaaGreatDoor
