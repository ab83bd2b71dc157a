import Derived.Test.YtaaecfighjjjcaaGreatDoorM07
import Derived.Laws.AppendOwnNone
namespace Go.Proofs.YtaaecfighjjjcaaGreatDoor
open Go.RowKit
open R (Tok Thing Nd PS)

theorem Grew.refl (w : World) (v : Value) : Grew w w v v := ⟨rfl, rfl, rfl, Nat.le_refl _, fun _ _ _ => rfl, fun _ h => Or.inl h⟩

theorem row_cells {w : World} {B e n g cap m : Nat} {xs : List Value} (h : w.ownsRow B e 1 (.slice (some ⟨g, 0, none⟩) m cap) n xs) : ∀ (j : Nat) u, xs[j]? = some u → w.cell? ((⟨g, 0, none⟩ : Addr).add j) = some u := by
  intro j u hu
  obtain ⟨hl, ⟨h0, _⟩ | ⟨g', cap', cur, hv, _, hg, hc, _, hs, hx⟩⟩ := h
  · simp at h0
  · simp only [Value.slice.injEq, Option.some.injEq, Addr.mk.injEq] at hv
    obtain ⟨⟨rfl, _⟩, rfl, rfl⟩ := hv
    have ea : (⟨g, 0, none⟩ : Addr).add j = ⟨g, j, none⟩ := by unfold Addr.add; split <;> simp_all
    have hj : j < m * 1 := by rw [← hl]; exact (List.getElem?_eq_some_iff.1 hu).1
    rw [ea]
    rw [← hx, List.getElem?_take_of_lt hj] at hu
    simp [World.cell?, hg]
    simpa using hu

/-- append(L, l...), L not empty. -/
theorem wpList_append_ints {P : Program} (w : World) {ops : Array Oper} {rest : List Oper} {o : Oper} {a : Act} {Q : Exit → Act → World → Prop} (hgd : o.guard = none) (s x : Operand) (t : TypeId)
    (ho : o.op = .call { callee := .builtin .append, args := #[s, x], argTypes := #[t, t] })
    (e : TypeId) (i : TypeInfo) (z : Value) (bytes : Nat) (ht : P.underlying t = some (.slice e)) (hi : P.info? e = some i) (hz : i.zero = some z)
    (hsize : i.size = 1) (hby : i.bytes = bytes) (hzs : z.cells.size = 1)
    (v : Value) (n : Nat) (xs : List Value) (hs : a.eval s = v) (hown : w.ownsRow 0 e 1 v n xs) (hn : 0 < n)
    (sv : Value) (m : Nat) (ys : List Value) (hx : a.eval x = sv) (hsrc : w.ownsRow 0 e 1 sv m ys) (h1 : ∀ u ∈ ys, u.oneCell' = true)
    (h63 : n + m ≤ maxLen) (hbytes : (n + m) * bytes ≤ 140737488355328)
    (h : ∀ g cap w', w'.ownsRow 0 e 1 (.slice (some ⟨g, 0, none⟩) (n + m) cap) (n + m) (xs ++ ys) → Grew w w' v (.slice (some ⟨g, 0, none⟩) (n + m) cap) → wpList P ops Q rest (a.put o.dst (.slice (some ⟨g, 0, none⟩) (n + m) cap)) w') : wpList P ops Q (o :: rest) a w := by
  have hsrc0 := hsrc
  obtain ⟨hl, ⟨h0, hm⟩ | ⟨g2, cap2, cur2, hv2, _⟩⟩ := hsrc
  · subst hm
    have hys : ys = [] := List.eq_nil_of_length_eq_zero (by simpa using hl)
    subst hys
    obtain ⟨g, cap, rfl⟩ := Joins.ownsRow_form hown hn
    refine wpList_append_own_none hgd s x t ho 0 e i 1 ht hi _ n xs hs hown (by rw [hx, h0]) ?_
    have := h g cap w (by simpa using hown) (Grew.refl w _)
    simpa using this
  · subst hv2
    refine wpList_append_row w hgd s x t ho e i z 1 bytes ht hi hz hsize hby hzs (by decide) v n xs hs hown ⟨g2, 0, none⟩ m cap2 ys hx hl (row_cells hsrc0) h1 h63 hbytes ?_
    intro v' w' k1 k2 k3
    obtain ⟨g, cap, rfl⟩ := Joins.ownsRow_form k1 (by omega)
    exact h g cap w' k1 (Grew.of (More.refl w) k2 k3)

theorem ints_one (l : List Int) : ∀ u ∈ ints l, u.oneCell' = true := by
  intro u hu
  obtain ⟨n, _, rfl⟩ := List.mem_map.1 hu
  rfl
theorem ints_app {w : World} {lv : Value} {L l : List Int} (h : w.ownsRow 0 3 1 lv (L.length + l.length) (ints L ++ ints l)) : Ints w lv (L ++ l) := by
  simpa [Ints, ints] using h

/-- A second row of the caller's own, another one than that which grows. -/
theorem IntRow.beside {w w' : World} {b : Nat} {u v v' : Value} {l : List Int} (h : IntRow w b u l) (g : Grew w w' v v') (off : ∀ k, v.ownBlock = some k → ¬ Foot w b k) (ne : ∀ k, v.ownBlock = some k → u.ownBlock ≠ some k) : IntRow w' b u l :=
  ⟨ownsRow_of h.row fun k hk => by
      obtain ⟨_, hg⟩ := ownsRow_block h.row hk
      exact g.block k (heap_lt hg) (fun e => ne k e hk),
    fun k hk f => h.off k hk (Foot.of_same (g.same h.tight off) f),
    fun k f => Nat.lt_of_lt_of_le (h.tight k (Foot.of_same (g.same h.tight off) f)) g.size⟩
theorem IntRow.block_lt {w : World} {b : Nat} {v : Value} {l : List Int} (h : IntRow w b v l) {k : Nat} (hk : v.ownBlock = some k) : k < w.heap.size := by
  obtain ⟨_, hg⟩ := ownsRow_block h.row hk
  exact heap_lt hg
end Go.Proofs.YtaaecfighjjjcaaGreatDoor
namespace Go.Proofs.YtaaecfighjjjcaaGreatDoor
open Go.RowKit
open R (Tok Thing Nd PS)

theorem dw_if {T : List Tok} {does : PS → PS × List Int} {p : Int} {s : ByteArray} {q : Int} {σ : PS} (h : s.toList = R.kIf) : R.doWord T does p ⟨s, q⟩ σ = R.doIf T does σ := by
  unfold R.doWord; rw [if_neg (by rw [h]; decide), if_neg (by rw [h]; decide), if_pos h]
theorem dw_none {T : List Tok} {does : PS → PS × List Int} {p : Int} {s : ByteArray} {q : Int} {σ : PS} (h : ¬ s.toList = R.kSet ∧ ¬ s.toList = R.kPut ∧ ¬ s.toList = R.kIf ∧ ¬ s.toList = R.kFor) : R.doWord T does p ⟨s, q⟩ σ = ⟨R.fail 2 q σ, R.noThing, [], []⟩ := by
  unfold R.doWord; rw [if_neg h.1, if_neg h.2.1, if_neg h.2.2.1, if_neg h.2.2.2]

/-- What a block within an if may lean on. -/
theorem if_bd {T : List Tok} {f : Nat} {σ2 σ : PS} {m : Int} (hb : BdI T σ2) (hf : 11 - σ2.nest ≤ f) (k : R.Ok T σ2 σ) (hm : 0 ≤ m ∧ m ≤ 1) (e : σ.err = 0) : BdD T (f + 1) (R.hide1 m σ) := by
  have a1 := k.n3 e
  have a2 := k.p2 e
  have a3 : σ.seen = σ2.seen := congrArg (fun c => c.1) k.core
  have a4 : σ.loops = σ2.loops := congrArg (fun c => c.2.2.2.2.1) k.core
  have a5 : σ.hidden = σ2.hidden := congrArg (fun c => c.2.2.2.2.2.1) k.core
  obtain ⟨b1, b2, b3, b4, b5, b6, b7, b8⟩ := hb
  exact ⟨by show 0 ≤ σ.nest; omega, by show σ.nest ≤ 10; omega, by show 11 - σ.nest ≤ _; omega, by show (σ.seen.length : Int) ≤ 400 + σ.nest; rw [a3]; omega, by show 0 ≤ σ.hidden + m; omega, by show σ.hidden + m ≤ 40 + σ.nest; omega, by show 0 ≤ σ.loops; omega, by show σ.loops ≤ 2; omega, by show σ.nodes.length + (T.length - σ.i) ≤ 15000; omega⟩

/-- Her hidden count moved. -/
theorem Rep.hide {w : World} {b : Nat} {T : List Tok} {σ : PS} {r : RV} (h : Rep w b T σ r) (m : Int) : Rep (w.setCell ⟨b, 12, none⟩ (.int .i64 (σ.hidden + m))) b T (R.hide1 m σ) r ∧ Moves b w (w.setCell ⟨b, 12, none⟩ (.int .i64 (σ.hidden + m))) :=
  h.scalar (σ' := R.hide1 m σ) (h.cells.set 12 _) ((But.refl b w).set 12 _) rfl rfl rfl rfl h.lt

set_option maxRecDepth 100000 in
set_option maxHeartbeats 4000000 in
theorem do_none {T : List Tok} (_hT : R.Small T) (hEnd : R.Ended T) (f : Nat) (w : World) (b : Nat) (σ : PS) (r : RV) (h : Rep w b T σ r) (hb : BdD T (f + 1) σ) (hO : (R.opens T σ).err = 0) (hkSet : ¬ (R.tk T (R.opens T σ).i).s.toList = R.kSet) (hkPut : ¬ (R.tk T (R.opens T σ).i).s.toList = R.kPut) (hkIf : ¬ (R.tk T (R.opens T σ).i).s.toList = R.kIf) (hkFor : ¬ (R.tk T (R.opens T σ).i).s.toList = R.kFor)  :
    Calls Tryz.prog 44 #[P b] w fun x w' => x = .returned (.int .i64 (R.lastN (R.doIn T (R.does T f) (R.tk T σ.i).p (R.opens T σ)))) ∧ ∃ r', Rep w' b T (R.doIn T (R.does T f) (R.tk T σ.i).p (R.opens T σ)) r' ∧ Moves b w w' := by
  have hoc := open_c h (by have := hb.n0; omega) (by have := hb.n1; omega)
  have hO' := beq_yes hO
  have FA := hide (do_facts hb hO h.lt)
  obtain ⟨tp, HTP⟩ : ∃ tp, Hid ((R.tk T σ.i).p = tp) := ⟨_, rfl⟩
  rw [HTP.out] at hoc ⊢
  generalize R.opens T σ = σ1 at *
  have HO := hide hO
  clear hO HTP hb
  obtain ⟨t1, HT1⟩ : ∃ t1, Hid (R.tk T σ1.i = t1) := ⟨_, rfl⟩
  rw [HT1.out] at hkSet hkPut hkIf hkFor
  obtain ⟨s1, p1⟩ := t1
  dsimp only at *
  have ekSet : (s1.toList == [115, 101, 116]) = false := beq_no (by intro e; exact hkSet e)
  have ekPut : (s1.toList == [112, 117, 116]) = false := beq_no (by intro e; exact hkPut e)
  have ekIf : (s1.toList == [105, 102]) = false := beq_no (by intro e; exact hkIf e)
  have ekFor : (s1.toList == [102, 111, 114]) = false := beq_no (by intro e; exact hkFor e)
  have HWD := hide (And.intro hkSet (And.intro hkPut (And.intro hkIf hkFor)))
  clear hkSet hkPut hkIf hkFor
  obtain ⟨i0, hi, hz0, hz1, hz2⟩ := info_parts info_int
  go_enter Tryz.func44, Tryz.ntmps44
  go_wp2_with fail
  refine hoc.mono ?_
  rintro x w2 ⟨rfl, hr2, hm2⟩
  have q2 := hr2.c1 2 _ rfl
  go_wp2_with fail
  have htk := take_c hr2
  rw [HT1.out] at htk
  refine htk.mono ?_
  rintro x w3 ⟨rfl, hr3, hm3⟩
  clear q2 htk
  go_upto_region 6 with fail
  have S4 : St w ((w3.alloc (.cells #[.string s1, .int .i64 p1] 76)).alloc (.cells #[.string s1, .int .i64 0, .string ⟨#[]⟩, .int .i64 0, .bool false, .int .i64 0, .int .i64 0, .slice none 0 0, .slice none 0 0, .bool false] 132)) b T (R.take T σ1) r w3.heap.size (w3.heap.size + 1) [.string s1, .int .i64 p1] [.string s1, .int .i64 0, .string ⟨#[]⟩, .int .i64 0, .bool false, .int .i64 0, .int .i64 0, .slice none 0 0, .slice none 0 0, .bool false] (.slice none 0 0) [] := by
    have B5 := (hr3.alloc (.cells #[.string s1, .int .i64 p1] 76)).box [.string s1, .int .i64 0, .string ⟨#[]⟩, .int .i64 0, .bool false, .int .i64 0, .int .i64 0, .slice none 0 0, .slice none 0 0, .bool false] 132
    have sz : (w3.alloc (.cells #[.string s1, .int .i64 p1] 76)).heap.size = w3.heap.size + 1 := by simp
    rw [sz] at B5
    have R4 := (hr3.alloc (.cells #[.string s1, .int .i64 p1] 76)).alloc (.cells #[.string s1, .int .i64 0, .string ⟨#[]⟩, .int .i64 0, .bool false, .int .i64 0, .int .i64 0, .slice none 0 0, .slice none 0 0, .bool false] 132)
    exact ⟨R4, ((hm2.trans hm3).alloc _).alloc _, (hr3.box [.string s1, .int .i64 p1] 76).alloc _, B5, ⟨ints_nil _, fun k hk => by simp [Value.ownBlock] at hk, R4.tight⟩, fun k hk => by simp [Value.ownBlock] at hk, by have := hm2.size; have := hm3.size; omega, by omega⟩
  clear hm2 hm3 hr3 hr2 hoc
  generalize (w3.alloc (.cells #[.string s1, .int .i64 p1] 76)).alloc (.cells #[.string s1, .int .i64 0, .string ⟨#[]⟩, .int .i64 0, .bool false, .int .i64 0, .int .i64 0, .slice none 0 0, .slice none 0 0, .bool false] 132) = W4 at *
  generalize w3.heap.size + 1 = k5 at *
  generalize w3.heap.size = k4 at *
  have hne := S4.ne
  have u0 := S4.d4 0 _ rfl
  have u1 := S4.d4 1 _ rfl
  generalize hs2 : R.take T σ1 = σ2 at *
  have HS2 := hide hs2
  clear hs2
  have HDW := hide (dw_none (T := T) (does := R.does T f) (p := tp) (q := p1) (σ := σ2) HWD.out)
  have DOK := R.doWord_ok hEnd (does := R.does T f) (fun σ h => R.does_ok hEnd f h) (fun σ e => by rw [R.does_dead _ _ e]) tp ⟨s1, p1⟩ FA.out.2.2.2.2
  rw [HDW.out] at DOK
  have SHN0 := hide (show -100 ≤ ((⟨R.fail 2 p1 σ2, R.noThing, [], []⟩ : R.DR)).s.nest ∧ ((⟨R.fail 2 p1 σ2, R.noThing, [], []⟩ : R.DR)).s.nest ≤ 100 from by have := DOK.n1; have := DOK.n2; have := FA.out.2.1.n0; have := FA.out.2.1.n1; omega)
  have SNN0 := hide (show ((⟨R.fail 2 p1 σ2, R.noThing, [], []⟩ : R.DR)).s.nodes.length ≤ 100000 from by have := DOK.p1; have := FA.out.2.1.nodes; omega)
  clear DOK
  go_upto_block 0 with fail
  go_cut [] (fun wr => ∃ rr lv tv, St w wr b T ((⟨R.fail 2 p1 σ2, R.noThing, [], []⟩ : R.DR)).s rr k4 k5 [.string s1, .int .i64 p1] [.string s1, .int .i64 0, .string ((⟨R.fail 2 p1 σ2, R.noThing, [], []⟩ : R.DR)).t.name, .int .i64 ((⟨R.fail 2 p1 σ2, R.noThing, [], []⟩ : R.DR)).t.kind, .bool ((⟨R.fail 2 p1 σ2, R.noThing, [], []⟩ : R.DR)).t.sec, .int .i64 ((⟨R.fail 2 p1 σ2, R.noThing, [], []⟩ : R.DR)).t.pos, .int .i64 ((⟨R.fail 2 p1 σ2, R.noThing, [], []⟩ : R.DR)).t.size, lv, tv, .bool false] lv ((⟨R.fail 2 p1 σ2, R.noThing, [], []⟩ : R.DR)).L ∧ IntRow wr b tv ((⟨R.fail 2 p1 σ2, R.noThing, [], []⟩ : R.DR)).two ∧ ∀ j, tv.ownBlock = some j → w.heap.size ≤ j)
  case first =>
    go_wp2_with fail
    refine (fail_c S4.rep 2 p1).mono ?_
    rintro x w11 ⟨rfl, hr11, hm11⟩
    go_wp2_with fail
    go_meet
    case rel => exact ⟨r, .slice none 0 0, .slice none 0 0, S4.moves hr11 hm11, ⟨ints_nil _, fun k hk => by simp [Value.ownBlock] at hk, hr11.tight⟩, fun k hk => by simp [Value.ownBlock] at hk⟩
  case rest =>
    obtain ⟨rr, lv, tv, SS, rowt, lot⟩ := hcut
    have HI : Hid (R.doIn T (R.does T f) tp σ1 = R.addNode ⟨s1, 0, ((⟨R.fail 2 p1 σ2, R.noThing, [], []⟩ : R.DR)).t, ((⟨R.fail 2 p1 σ2, R.noThing, [], []⟩ : R.DR)).L, ((⟨R.fail 2 p1 σ2, R.noThing, [], []⟩ : R.DR)).two, false⟩ (R.shut T ((⟨R.fail 2 p1 σ2, R.noThing, [], []⟩ : R.DR)).s)) := by
      unfold R.doIn
      dsimp only
      rw [HT1.out, HS2.out, HDW.out]
      rfl
    have hnn := hide (show (R.shut T ((⟨R.fail 2 p1 σ2, R.noThing, [], []⟩ : R.DR)).s).nodes.length ≤ 100000 from by rw [(R.shut_core T _).2.1]; exact SNN0.out)
    have shc := shut_c SS.rep SHN0.out.1 SHN0.out.2
    have LOT := hide lot
    clear lot
    generalize R.shut T ((⟨R.fail 2 p1 σ2, R.noThing, [], []⟩ : R.DR)).s = σ9 at *
    go_wp2_with fail
    refine shc.mono ?_
    rintro x w12 ⟨rfl, hr12, hm12⟩
    have S12 := SS.moves hr12 hm12
    have rowt' := rowt.moves hm12
    have m0 := S12.d5 0 _ rfl
    have m1 := S12.d5 1 _ rfl
    have m2 := S12.d5 2 _ rfl
    have m3 := S12.d5 3 _ rfl
    have m4 := S12.d5 4 _ rfl
    have m5 := S12.d5 5 _ rfl
    have m6 := S12.d5 6 _ rfl
    have m7 := S12.d5 7 _ rfl
    have m8 := S12.d5 8 _ rfl
    have m9 := S12.d5 9 _ rfl
    go_wp2_with fail
    refine (node_k S12.rep s1 0 ((⟨R.fail 2 p1 σ2, R.noThing, [], []⟩ : R.DR)).t ((⟨R.fail 2 p1 σ2, R.noThing, [], []⟩ : R.DR)).L ((⟨R.fail 2 p1 σ2, R.noThing, [], []⟩ : R.DR)).two false lv tv S12.row.row rowt'.row hnn.out).mono ?_
    rintro x w13 ⟨rfl, r13, hr13, hm13⟩
    go_wp2_with fail
    go_ret
    rw [HI.out]
    exact ⟨rfl, r13, hr13, S12.mv.transX hm13 (fun j hj => hj.elim (S12.lo j) (LOT.out j))⟩

end Go.Proofs.YtaaecfighjjjcaaGreatDoor
