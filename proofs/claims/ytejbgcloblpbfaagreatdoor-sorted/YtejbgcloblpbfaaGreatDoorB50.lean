import Derived.Test.YtejbgcloblpbfaaGreatDoorB48
import Derived.Test.YtejbgcloblpbfaaGreatDoorB44
import Derived.Test.YtejbgcloblpbfaaGreatDoorB45
import Derived.Test.YtejbgcloblpbfaaGreatDoorB46
import Derived.Test.YtejbgcloblpbfaaGreatDoorB30
import Derived.Test.YtejbgcloblpbfaaGreatDoorB43
namespace Go.Proofs.YtejbgcloblpbfaaGreatDoor
open Go.RowKit
open K (Nm Ex Do)
namespace Y
set_option maxRecDepth 100000 in
set_option maxHeartbeats 8000000 in
theorem newWriter_c (w : World) (N : Nat) (hN : N ≤ 54) (na : Option Addr) (nn nc : Nat) (da : Option Addr) (dn dc : Nat) :
    Calls Tryz.prog 66 #[.agg #[.slice na nn nc, .int .i64 (N : Int), .slice da dn dc]] w fun x w' => (∃ p : WP, x = .returned (WV p) ∧ p.lo = w.heap.size ∧ WAt w' p [] R8 (upF (N + 2) (254 - N)) []) ∧ Below w.heap.size w w' := by
  have hP : ∀ (w : World) (x y : Int), Hid (∃ a b : Nat, x = a ∧ y = b ∧ a < b ∧ b ≤ 1000) → Calls Tryz.prog 93 #[.int .i64 x, .int .i64 y] w fun z w' => (∃ pb g, z = .returned (.pointer (some ⟨pb, 0, none⟩)) ∧ w.heap.size ≤ pb ∧ w.heap.size ≤ g ∧ Pool w' pb g (y.toNat - x.toNat) (upF x.toNat (y.toNat - x.toNat))) ∧ Below w.heap.size w w' := by
    rintro w x y ⟨a, b, rfl, rfl, hab, hb⟩
    exact newPool_c w a b hab hb
  have hC := fun (w : World) => instructions_b w
  have hwr : IntKind.i64.wrap ((N : Int) + 2) = (N : Int) + 2 := k64 _ (by omega)
  have hwr2 : wrap64 ((N : Int) + 2) = (N : Int) + 2 := by unfold wrap64; omega
  have hs1 : Hid (∃ a b : Nat, (0 : Int) = a ∧ (8 : Int) = b ∧ a < b ∧ b ≤ 1000) := ⟨0, 8, rfl, rfl, by decide, by decide⟩
  have hs2 : Hid (∃ a b : Nat, (N : Int) + 2 = a ∧ (256 : Int) = b ∧ a < b ∧ b ≤ 1000) := ⟨N + 2, 256, by omega, rfl, by omega, by decide⟩
  go_enter Tryz.func66, Tryz.ntmps66
  go_upto_region 1 with fail
  have bx := At.alloc_new w [.slice na nn nc, .int .i64 (N : Int), .slice da dn dc] 84
  have B0 : Below w.heap.size w (w.alloc (.cells #[.slice na nn nc, .int .i64 (N : Int), .slice da dn dc] 84 (0, 0))) := (Below.refl _ _).alloc (Nat.le_refl _) _
  generalize w.alloc (.cells #[.slice na nn nc, .int .i64 (N : Int), .slice da dn dc] 84 (0, 0)) = w0 at *
  have hlL := bx.lt
  generalize hLL : w.heap.size = L at *
  have KS : ∀ w' : World, Below w0.heap.size w0 w' → w'.cell? ⟨L, 1, none⟩ = some (.int .i64 (N : Int)) := fun w' hb => (hb.cell (p := ⟨L, 1, none⟩) hlL).trans (bx.cell 1)
  have Bd : Below w0.heap.size w0 w0.drew := ⟨rfl, rfl, rfl, Nat.le_refl _, fun _ _ => rfl⟩
  have HB0 := hide B0
  clear bx B0
  go_region_held (fun (w' : World) => w'.cell? ⟨L, 1, none⟩ = some (.int .i64 (N : Int))) (first | exact KS _ BC | exact KS _ BB | exact KS _ BA | exact KS _ Bd | exact KS _ (BC.alloc BC.size _))
    (first | (have hchk := PA; go_at_call 93; refine (hP _ _ _ (by first | exact hs2 | exact hs1)).mono ?_; rintro z wB ⟨⟨pb, gb, rfl, lb, lgb, PB⟩, hbB⟩; have BB := BA.trans (hbB.mono BA.size)) | (go_at_call 94; refine (hC _).mono ?_; rintro z wC ⟨⟨tb, ⟨htb, hbt⟩, rfl⟩, hbC⟩; have hsz := htb.size; have BC := BB.trans (hbC.mono BB.size)) | (go_at_call 93; refine (hP _ _ _ (by first | exact hs1 | exact hs2)).mono ?_; rintro z wA ⟨⟨pa, ga, rfl, la, lga, PA⟩, hbA⟩; have BA := Bd.trans (hbA.mono Bd.size)))
  all_goals
    rw [hbt]
    go_wp2_with fail
    go_ret
    have zd : w0.drew.heap.size = w0.heap.size := rfl
    have zB := BB.size
    have zA := BA.size
    have zC := BC.size
    have PA' : Pool wC pa ga 8 R8 := (PA.same fun k hk => hbB.block k hk).same fun k hk => hbC.block k hk
    have e1 : (256 : Int).toNat - ((N : Int) + 2).toNat = 254 - N := by omega
    have e2 : ((N : Int) + 2).toNat = N + 2 := by omega
    rw [e1, e2] at PB
    have PB' := PB.same fun k hk => hbC.block k hk
    have lA := PA.lt
    have W1 := wat_of (L := L) htb PA' PB' ⟨by omega, by omega⟩ (by omega) (by omega) (by omega) (by omega) (by omega)
    rw [hLL]
    exact ⟨⟨_, rfl, rfl, W1⟩, HB0.out.trans ((BC.alloc BC.size _).mono (by omega))⟩
end Y
end Go.Proofs.YtejbgcloblpbfaaGreatDoor
namespace Go.Proofs.YtejbgcloblpbfaaGreatDoor
open Go.RowKit
open K (Nm Ex Do)
namespace Y
theorem upF_drop (k : Nat) (h : k ≤ 256) : upF k (256 - k) = (List.range 256).drop k := by
  apply List.ext_getElem?
  intro j
  unfold upF
  rw [List.getElem?_map, List.getElem?_drop]
  by_cases c : j < 256 - k
  · rw [List.getElem?_range c, List.getElem?_range (by omega)]
    rfl
  · rw [List.getElem?_eq_none (by simp; omega), List.getElem?_eq_none (by simp; omega)]
    rfl
set_option maxRecDepth 100000 in
set_option maxHeartbeats 2000000 in
theorem wprog_c (N : Nat) (sh : List Bool) (l : List Do) (hP : Pr N sh l) (na : Option Addr) (nn nc : Nat) (da : Option Addr) (dn dc : Nat) (us : List Value) (w : World)
    (dr : DRow (fun k => k < w.heap.size) w (.slice da dn dc) us) (de : Each (fun k => k < w.heap.size) w l us) :
    Calls Tryz.prog 50 #[.agg #[.slice na nn nc, .int .i64 (N : Int), .slice da dn dc]] w fun x w' => (∃ cv, x = .returned cv ∧ w'.ownsRow w.heap.size 58 5 cv (prC N l).length ((prC N l).flatMap inV)) ∧ Below w.heap.size w w' := by
  have hwf := scl_wf l (by omega : 0 ≤ 2) hP.sc
  have hN := hP.n54
  have hnew := fun (w : World) => newWriter_c w N hN na nn nc da dn dc
  have hU : upF (N + 2) (254 - N) = (List.range 256).drop (N + 2) := by rw [show 254 - N = 256 - (N + 2) by omega]; exact upF_drop _ (by omega)
  rw [hU] at hnew
  have hUl : ((List.range 256).drop (N + 2)).length = 254 - N := by rw [List.length_drop, List.length_range]; omega
  have hU8 : ∀ x ∈ (List.range 256).drop (N + 2), x < 256 := fun x hx => List.mem_range.1 (List.mem_of_mem_drop hx)
  have hpc : prC N l = dosC 0 ((List.range 256).drop (N + 2)) none l ++ [.halt] := rfl
  rw [hpc]
  have hdl := dosC_len l 0 ((List.range 256).drop (N + 2)) none
  have hcost := hP.cost
  have hneed := hP.need
  obtain ⟨W0, hW0⟩ : ∃ W0, w.alloc (.cells #[.slice na nn nc, .int .i64 (N : Int), .slice da dn dc] 84 (0, 0)) = W0 := ⟨_, rfl⟩
  have RF : At W0 w.heap.size 84 [.slice na nn nc, .int .i64 (N : Int), .slice da dn dc] := by rw [← hW0]; exact At.alloc_new w _ _
  have B0 : Below w.heap.size w W0 := by rw [← hW0]; exact (Below.refl _ _).alloc (Nat.le_refl _) _
  have z0 := RF.cell 0
  have z1 := RF.cell 1
  have z2 := RF.cell 2
  simp only [List.getElem?_cons_zero, List.getElem?_cons_succ] at z0 z1 z2
  have hlt := RF.lt
  have HRF := hide RF
  have HB0 := hide B0
  have hzB := B0.size
  have hn0 := hnew W0
  have hds := fun (w' : World) (p : WP) (hlo : p.lo = W0.heap.size) (h' : WAt w' p [] R8 ((List.range 256).drop (N + 2)) []) (hb : Below w.heap.size w w') => dosw_all (N := N + 2) l (fun k => k < w.heap.size) w' p [] ((List.range 256).drop (N + 2)) [] (.slice da dn dc) us h' (dr.keep fun k b1 _ => hb.block k b1) (de.keep fun k b1 _ => hb.block k b1) (fun k hk => by omega) hU8 hwf (by omega) (by simp only [List.length_nil]; omega) (by simp only [List.length_nil]; omega)
  have e1 : ([] : List Nat).getLast? = none := rfl
  have e2 : ([] : List Ins).length = 0 := rfl
  simp only [e1, e2, List.nil_append] at hds
  have HL : Hid ((dosC 0 ((List.range 256).drop (N + 2)) none l).length ≤ 80200) := by show _ ≤ _; omega
  generalize dosC 0 ((List.range 256).drop (N + 2)) none l = D at *
  generalize (List.range 256).drop (N + 2) = U at *
  clear RF B0 hnew dr de hU hpc hdl hwf hU8 hP e1 e2
  go_enter Tryz.func50, Tryz.ntmps50
  go_wp2_with fail
  refine hn0.mono ?_
  rintro x w1 ⟨⟨p, rfl, hlo, h1⟩, hb1⟩
  have zB1 := hb1.size
  have B1 := HB0.out.trans (hb1.mono hzB)
  have R1 := HRF.out.of_block (hb1.block _ hlt)
  have k2 := R1.cell 2
  simp only [List.getElem?_cons_zero, List.getElem?_cons_succ] at k2
  have hd := hds w1 p hlo h1 B1
  have HB1 := hide B1
  clear h1 B1 R1 hds hn0
  go_wp2_with fail
  refine hd.mono ?_
  rintro x w2 ⟨rfl, h2, b2⟩
  have ha := add_c h2 h2.hl (by have := HL.out; omega) .halt (n0 := 15) (n1 := 0) (n2 := 0) (n3 := 0) (n4 := 0) rfl
  clear h2 hd
  go_wp2_with fail
  refine ha.mono ?_
  rintro x w3 ⟨rfl, h3, b3⟩
  obtain ⟨cv, kv, a3, o3, _, _⟩ := h3.rows
  have c3 := (wcell a3 h3.tab).1
  have wl3 := a3.lt
  have HO := hide o3
  clear a3 o3 h3
  have hcf : ∃ ca cn cc, cv = .slice ca cn cc := by
    rcases Joins.ownsRow_forms HO.out with ⟨rfl, h0⟩ | ⟨g, cc, rfl⟩
    · exact ⟨_, _, _, rfl⟩
    · exact ⟨_, _, _, rfl⟩
  obtain ⟨ca, cn, cc, rfl⟩ := hcf
  go_wp2_with fail
  go_ret
  refine ⟨⟨_, rfl, Joins.ownsRow_le HO.out (by rw [hlo]; exact hzB)⟩, HB1.out.trans (((b2.trans b3).below (by rw [hlo]; exact zB1)).mono (by rw [hlo]; exact hzB))⟩
end Y
end Go.Proofs.YtejbgcloblpbfaaGreatDoor
namespace Go.Proofs.YtejbgcloblpbfaaGreatDoor
open Go.RowKit
open K (Nm Ex Do)
namespace Y
set_option maxHeartbeats 400000 in
theorem comp_err {s : ByteArray} {w : World} {E Q : Int} (hE : ¬ E = 0) (hr : Calls Tryz.prog 40 #[.string s] w fun x w' => x = .returned (.tuple #[zeroP, .int .i64 E, .int .i64 Q]) ∧ Below w.heap.size w w') :
    Calls Tryz.prog 27 #[.string s] w fun x w' => x = .returned (.tuple #[.slice none 0 0, .int .i64 E]) ∧ Below w.heap.size w w' := by
  unfold zeroP at hr
  go_enter Tryz.func27, Tryz.ntmps27
  go_wp2_with fail
  refine hr.mono ?_
  rintro x w1 ⟨rfl, hb⟩
  go_wp2_with fail
  go_ret2
  exact ⟨rfl, hb.alloc hb.size _⟩
set_option maxHeartbeats 1000000 in
theorem comp_go {s : ByteArray} {w : World} {N : Nat} {sh : List Bool} (l : List Do) (hP : Pr N sh l)
    (hr : Calls Tryz.prog 40 #[.string s] w fun x w' => (∃ na nn nc da dn dc us, x = .returned (.tuple #[.agg #[.slice na nn nc, .int .i64 (N : Int), .slice da dn dc], .int .i64 0, .int .i64 0]) ∧ DRow (From w.heap.size) w' (.slice da dn dc) us ∧ Each (From w.heap.size) w' l us) ∧ Below w.heap.size w w') :
    Calls Tryz.prog 27 #[.string s] w fun x w' => (∃ cv, x = .returned (.tuple #[cv, .int .i64 0]) ∧ w'.ownsRow w.heap.size 58 5 cv (prC N l).length ((prC N l).flatMap inV)) ∧ Below w.heap.size w w' := by
  go_enter Tryz.func27, Tryz.ntmps27
  go_wp2_with fail
  refine hr.mono ?_
  rintro x w1 ⟨⟨na, nn, nc, da, dn, dc, us, rfl, dr, de⟩, hb⟩
  have aA := At.alloc_new w1 [.slice na nn nc, .int .i64 (N : Int), .slice da dn dc] 84
  have B1 := hb.alloc hb.size (.cells #[.slice na nn nc, .int .i64 (N : Int), .slice da dn dc] 84 (0, 0))
  have kp : ∀ k, k < w1.heap.size → k < w1.heap.size → (w1.alloc (.cells #[.slice na nn nc, .int .i64 (N : Int), .slice da dn dc] 84 (0, 0))).heap[k]? = w1.heap[k]? := fun k h _ => heap_alloc_old _ _ _ h
  have dr1 := ((dr.lower (B' := fun k => k < w1.heap.size) fun k _ h => h).keep kp).lower (B' := fun k => k < (w1.alloc (.cells #[.slice na nn nc, .int .i64 (N : Int), .slice da dn dc] 84 (0, 0))).heap.size) fun k _ h => h
  have de1 := ((de.lower (B' := fun k => k < w1.heap.size) fun k _ h => h).keep kp).lower (B' := fun k => k < (w1.alloc (.cells #[.slice na nn nc, .int .i64 (N : Int), .slice da dn dc] 84 (0, 0))).heap.size) fun k _ h => h
  have hp := wprog_c N sh l hP na nn nc da dn dc us _ dr1 de1
  have hzz := B1.size
  clear dr1 de1 kp
  go_wp2_with fail
  refine hp.mono ?_
  rintro x w3 ⟨⟨cv, rfl, o3⟩, hb3⟩
  have hcf : ∃ ca cn cc, cv = .slice ca cn cc := by
    rcases Joins.ownsRow_forms o3 with ⟨rfl, h0⟩ | ⟨g, cc, rfl⟩
    · exact ⟨_, _, _, rfl⟩
    · exact ⟨_, _, _, rfl⟩
  obtain ⟨ca, cn, cc, rfl⟩ := hcf
  have HO := hide o3
  clear o3
  go_wp2_with fail
  go_ret2
  exact ⟨⟨_, rfl, Joins.ownsRow_le HO.out hzz⟩, B1.trans (hb3.mono B1.size)⟩
theorem compile_c (s : ByteArray) (w : World) (hm : s.size ≤ maxLen) (hv : K.Vars w) (hw : 5 ≤ w.heap.size) :
    Calls Tryz.prog 27 #[.string s] w fun x w' => ((¬ (R.read s).err = 0 ∧ x = .returned (.tuple #[.slice none 0 0, .int .i64 (R.read s).err])) ∨
      ((R.read s).err = 0 ∧ s.size ≤ 800 ∧ ∃ cv, x = .returned (.tuple #[cv, .int .i64 0]) ∧ w'.ownsRow w.heap.size 58 5 cv (prC (R.read s).shape.length (K.progD (R.toks s))).length ((prC (R.read s).shape.length (K.progD (R.toks s))).flatMap inV))) ∧ Below w.heap.size w w' := by
  by_cases hl : 800 < s.size
  · have e := read_long_err hl
    refine (comp_err (E := 1) (Q := 0) (by decide) (mread_long s w hl hm)).mono fun x w' h => ⟨Or.inl ⟨by rw [e]; decide, by rw [e]; exact h.1⟩, h.2⟩
  · have hr := mread_c (fun l h => gds_of l (gdl_c l h)) s w (by omega) hv hw
    by_cases he : (R.read s).err = 0
    · obtain ⟨p1, p2, p3, p4, p5, p6, p7, p8⟩ := Q.shape_ok (by omega) he
      have hP := prog_al (by omega) he
      have hg := comp_go (s := s) (w := w) (K.progD (R.toks s)) hP (hr.mono fun x w' h => ?_)
      · exact hg.mono fun x w' h => ⟨Or.inr ⟨he, by omega, h.1⟩, h.2⟩
      · obtain ⟨hx, hb⟩ := h
        refine ⟨?_, hb⟩
        rcases hx with ⟨h1, _⟩ | ⟨_, h1, _⟩ | ⟨_, _, nv, dv, us, rfl, nr, dr, de⟩
        · exact absurd p1 h1
        · rw [p2] at h1; cases h1
        · obtain ⟨da, dn, dc, rfl⟩ := dr.form
          obtain ⟨na, nn, nc, rfl⟩ := nms_form nr
          exact ⟨na, nn, nc, da, dn, dc, us, by rw [p4], dr, de⟩
    · have hk := Q.check_read (R.toks_ended s)
      have hc : K.check s = K.checkT (R.toks s) := by unfold K.check; rw [if_neg hl]
      rw [hc] at hk
      unfold K.checkT at hk
      have hk1 := congrArg Prod.fst hk
      dsimp only at hk1
      generalize (R.read s).err = E at *
      refine (comp_err (E := E) (Q := (K.checkT (R.toks s)).2) he (hr.mono fun x w' h => ⟨?_, h.2⟩)).mono fun x w' h => ⟨Or.inl ⟨he, h.1⟩, h.2⟩
      unfold K.checkT
      rcases h.1 with ⟨h1, h2⟩ | ⟨h1, h2, h3⟩ | ⟨h1, h2, _⟩
      · rw [if_neg h1] at hk1 ⊢
        rw [h2]
        rw [← hk1]
      · rw [if_pos h1, if_pos h2] at hk1 ⊢
        rw [h3]
        rw [← hk1]
      · rw [if_pos h1, if_neg (by rw [h2]; decide)] at hk1
        exact absurd hk1.symm he
end Y
end Go.Proofs.YtejbgcloblpbfaaGreatDoor
namespace Go.Proofs.YtejbgcloblpbfaaGreatDoor
open Go.RowKit
open K (Nm Ex Do)
namespace Y
theorem vars_below {w w' : World} {b : Nat} (h : K.Vars w) (hb : Below b w w') (h2 : 5 ≤ b) : K.Vars w' := by
  obtain ⟨⟨e0, a1, a2⟩, ⟨e1, c1, c2⟩⟩ := h
  exact ⟨⟨e0, (hb.cell (p := ⟨3, 0, none⟩) (show 3 < b by omega)).trans a1, a2⟩, ⟨e1, (hb.cell (p := ⟨4, 0, none⟩) (show 4 < b by omega)).trans c1, c2⟩⟩
theorem check_k (s : ByteArray) (w : World) (hm : s.size ≤ maxLen) (hv : K.Vars w) (hw : 5 ≤ w.heap.size) :
    Calls Tryz.prog 14 #[.string s] w fun x w' => x = .returned (.tuple #[.int .i64 (R.read s).err, .int .i64 (R.read s).place]) ∧ Below w.heap.size w w' := by
  have h := check_c (fun l hl => gds_of l (gdl_c l hl)) s w hm hv hw
  rw [Q.check_read (R.toks_ended s)] at h
  exact h
def IntsAt (w : World) (a : Option Addr) (l : List Int) : Prop := ∀ (j : Nat) u, l[j]? = some u → ∃ g o, a = some ⟨g, o, none⟩ ∧ g < w.heap.size ∧ w.cell? ⟨g, o + j, none⟩ = some (.int .i64 u)
theorem IntsAt.keep {w w' : World} {a : Option Addr} {l : List Int} (h : IntsAt w a l) (hb : ∀ k, k < w.heap.size → (∃ o, a = some ⟨k, o, none⟩) → w'.heap[k]? = w.heap[k]?) (hs : w.heap.size ≤ w'.heap.size) : IntsAt w' a l := fun j u hj => by
  obtain ⟨g, o, rfl, hg, hc⟩ := h j u hj
  exact ⟨g, o, rfl, by omega, (World.cell?_of_block (a := ⟨g, o + j, none⟩) (hb g hg ⟨o, rfl⟩)).trans hc⟩
theorem IntsAt.below {w w' : World} {a : Option Addr} {l : List Int} (h : IntsAt w a l) (hb : Below w.heap.size w w') : IntsAt w' a l := h.keep (fun k hk _ => hb.block k hk) hb.size
theorem IntsAt.of_own {w : World} {base n : Nat} {a : Option Addr} {c : Nat} {l : List Int} (h : w.ownsRow base 3 1 (.slice a n c) n (ints l)) : IntsAt w a l := fun j u hj => by
  have hl : l.length = n := by have := h.1; unfold ints at this; simpa using this
  rcases Joins.ownsRow_forms h with ⟨e, h0⟩ | ⟨g, cc, e⟩
  · have := (List.getElem?_eq_some_iff.1 hj).1; omega
  · cases e
    obtain ⟨_, h2, h3⟩ := own_cells h
    refine ⟨g, 0, rfl, h2, ?_⟩
    rw [Nat.zero_add]
    exact h3 j _ (by unfold ints; rw [List.getElem?_map, hj]; rfl)
set_option maxHeartbeats 1000000 in
theorem ksame_c {l : List Int} {w : World} {a b : Option Addr} {ca cb : Nat} (h54 : l.length ≤ 1000000) (ha : IntsAt w a l) (hb : IntsAt w b l) :
    Calls Tryz.prog 35 #[.slice a l.length ca, .slice b l.length cb] w fun x w' => x = .returned (.bool true) ∧ Still w w' := by
  have HA := hide ha
  have HB := hide hb
  clear ha hb
  go_enter Tryz.func35, Tryz.ntmps35
  go_wp2_with fail
  go_loopg [5] l.length (fun gk i wr => ∃ k : Nat, k + gk = l.length ∧ i = .int .i64 (k : Int) ∧ Still w wr)
  case atStart => exact ⟨0, by omega, rfl, ⟨rfl, rfl, rfl, rfl⟩⟩
  case round =>
    obtain ⟨k, hk, rfl, hs⟩ := hrel
    cases gk with
    | zero =>
      have hz : ¬ ((k : Int) < (l.length : Int)) := by omega
      go_wp2_with fail
      go_ret
      exact ⟨rfl, hs⟩
    | succ g1 =>
      have hz : (k : Int) < (l.length : Int) := by omega
      obtain ⟨u, hu⟩ : ∃ u, l[k]? = some u := ⟨_, List.getElem?_eq_getElem (by omega)⟩
      obtain ⟨ga, oa, rfl, _, c1⟩ := HA.out k u hu
      obtain ⟨gb, ob, rfl, _, c2⟩ := HB.out k u hu
      rw [← hs.cell] at c1 c2
      go_wp2_with (go_quiet (fail))
      go_roundg g1
      case measure => omega
      case rel => exact ⟨k + 1, by omega, by go_num, hs.drewN _⟩
def wdA (one : List Int) (n : Nat) : List Int := (List.range n).map fun i => one.getD i 0
def wdB (sh : List Bool) (one two : List Int) (n : Nat) : List Int := (List.range n).map fun i => if sh.getD i false = true then two.getD i 0 else one.getD i 0
theorem wdA_succ (one : List Int) (n : Nat) : ints (wdA one (n + 1)) = ints (wdA one n) ++ [.int .i64 (one.getD n 0)] := by unfold wdA ints; rw [List.range_succ]; simp
theorem wdB_succ (sh : List Bool) (one two : List Int) (n : Nat) : ints (wdB sh one two (n + 1)) = ints (wdB sh one two n) ++ [.int .i64 (if sh.getD n false = true then two.getD n 0 else one.getD n 0)] := by unfold wdB ints; rw [List.range_succ]; simp
theorem wdA_len (one : List Int) (n : Nat) : (wdA one n).length = n := by unfold wdA; simp
theorem wdB_len (sh : List Bool) (one two : List Int) (n : Nat) : (wdB sh one two n).length = n := by unfold wdB; simp
end Y
end Go.Proofs.YtejbgcloblpbfaaGreatDoor
namespace Go.Proofs.YtejbgcloblpbfaaGreatDoor
open Go.RowKit
open K (Nm Ex Do)
namespace Y
structure WR (w wr : World) (N k : Nat) (sh : List Bool) (one two : List Int) (av bv : Value) : Prop where
  ra : wr.ownsRow w.heap.size 3 1 av k (ints (wdA one k))
  rb : wr.ownsRow w.heap.size 3 1 bv k (ints (wdB sh one two k))
  ne : ∀ q, av.ownBlock = some q → ¬ bv.ownBlock = some q
  be : Below w.heap.size w wr
theorem wr_step {w wr w3 w5 : World} {N k : Nat} {sh : List Bool} {one two : List Int} {aa ba : Option Addr} {ac bc ga ca gb cb : Nat} {x y : Int} (h : WR w wr N k sh one two (.slice aa k ac) (.slice ba k bc)) (hx : one.getD k 0 = x) (hy : (if sh.getD k false = true then two.getD k 0 else one.getD k 0) = y)
    (r3 : w3.ownsRow 0 3 1 (.slice (some ⟨ga, 0, none⟩) (k + 1) ca) (k + 1) (ints (wdA one k) ++ [.int .i64 x])) (g3 : (wr.alloc (.cells #[.int .i64 x] 3 (0, 0))).grownBy w3 (Value.slice aa k ac).ownBlock) (k3 : ∀ q, (Value.slice (some ⟨ga, 0, none⟩) (k + 1) ca).ownBlock = some q → (Value.slice aa k ac).ownBlock = some q ∨ (wr.alloc (.cells #[.int .i64 x] 3 (0, 0))).heap.size ≤ q)
    (r5 : w5.ownsRow 0 3 1 (.slice (some ⟨gb, 0, none⟩) (k + 1) cb) (k + 1) (ints (wdB sh one two k) ++ [.int .i64 y])) (g5 : (w3.alloc (.cells #[.int .i64 y] 3 (0, 0))).grownBy w5 (Value.slice ba k bc).ownBlock) (k5 : ∀ q, (Value.slice (some ⟨gb, 0, none⟩) (k + 1) cb).ownBlock = some q → (Value.slice ba k bc).ownBlock = some q ∨ (w3.alloc (.cells #[.int .i64 y] 3 (0, 0))).heap.size ≤ q) :
    WR w w5 N (k + 1) sh one two (.slice (some ⟨ga, 0, none⟩) (k + 1) ca) (.slice (some ⟨gb, 0, none⟩) (k + 1) cb) := by
  have z3 : wr.heap.size + 1 ≤ w3.heap.size := by have e2 : (World.alloc _ _).heap.size ≤ _ := g3.size; rw [size_alloc] at e2; exact e2
  have z5 : w3.heap.size + 1 ≤ w5.heap.size := by have e2 : (World.alloc _ _).heap.size ≤ _ := g5.size; rw [size_alloc] at e2; exact e2
  have zb := h.be.size
  have ka : (Value.slice aa k ac).ownBlock = some ga ∨ wr.heap.size + 1 ≤ ga := (k3 ga rfl).imp id (fun e => by have e2 : (World.alloc _ _).heap.size ≤ ga := e; rw [size_alloc] at e2; exact e2)
  have kb : (Value.slice ba k bc).ownBlock = some gb ∨ w3.heap.size + 1 ≤ gb := (k5 gb rfl).imp id (fun e => by have e2 : (World.alloc _ _).heap.size ≤ gb := e; rw [size_alloc] at e2; exact e2)
  have ga3 : ga < w3.heap.size := (r3.lt ga rfl).2
  have hab : ga ≠ gb := by
    rcases kb with e | e
    · rcases ka with f | f
      · exact fun e' => h.ne ga f (by rw [e']; exact e)
      · have := (h.rb.lt gb e).2; omega
    · omega
  have nba : ¬ (Value.slice ba k bc).ownBlock = some ga := fun e => by
    rcases ka with f | f
    · exact h.ne ga f e
    · have := (h.rb.lt ga e).2; omega
  refine ⟨?_, ?_, fun q e e' => hab (by cases e; cases e'; rfl), ⟨(g5.os.trans rfl).trans ((g3.os.trans rfl).trans h.be.os), (g5.tape.trans rfl).trans ((g3.tape.trans rfl).trans h.be.tape), (g5.output.trans rfl).trans ((g3.output.trans rfl).trans h.be.output), by omega, fun q hq => ?_⟩⟩
  · rw [wdA_succ, hx]
    refine own_up (own_block r3 fun q e => ?_) (fun q e => ?_)
    · cases e
      exact (g5.block ga (by show ga < (World.alloc _ _).heap.size; rw [size_alloc]; omega) (fun e => nba e.symm)).trans (heap_alloc_old _ _ _ ga3)
    · cases e
      show w.heap.size ≤ ga
      rcases ka with f | f
      · exact (h.ra.lt _ f).1
      · omega
  · rw [wdB_succ, hy]
    refine own_up r5 (fun q e => ?_)
    cases e
    show w.heap.size ≤ gb
    rcases kb with f | f
    · exact (h.rb.lt _ f).1
    · omega
  · exact (g5.block q (by show q < (World.alloc _ _).heap.size; rw [size_alloc]; omega) (fun e => by have := (h.rb.lt q e.symm).1; omega)).trans ((heap_alloc_old _ _ _ (by omega)).trans ((g3.block q (by show q < (World.alloc _ _).heap.size; rw [size_alloc]; omega) (fun e => by have := (h.ra.lt q e.symm).1; omega)).trans ((heap_alloc_old _ _ _ (by omega)).trans (h.be.block q hq))))
set_option maxRecDepth 100000 in
set_option maxHeartbeats 4000000 in
theorem words_c {w : World} {sh : List Bool} {one two : List Int} {gs : Nat} {a1 a2 : Option Addr} {c1 c2 : Nat} (hN : sh.length ≤ 100) (hs : At w gs 4 (bools sh)) (h1 : IntsAt w a1 one) (h2 : IntsAt w a2 two) :
    Calls Tryz.prog 32 #[.slice (some ⟨gs, 0, none⟩) sh.length sh.length, .slice a1 one.length c1, .slice a2 two.length c2] w fun x w' => (∃ av bv, x = .returned (.tuple #[av, bv]) ∧ WR w w' sh.length sh.length sh one two av bv) := by
  obtain ⟨j0, ji, jz0, jz1, jz2⟩ := info_parts info_int
  have H1 := hide h1
  have H2 := hide h2
  have HS := hide hs
  clear h1 h2 hs
  go_enter Tryz.func32, Tryz.ntmps32
  go_wp2_with fail
  go_loopg [8, 9, 10] sh.length (fun gk av bv i wr => ∃ k : Nat, k + gk = sh.length ∧ i = .int .i64 (k : Int) ∧ WR w wr sh.length k sh one two av bv)
  case atStart => exact ⟨0, by omega, rfl, ⟨⟨rfl, Or.inl ⟨rfl, rfl⟩⟩, ⟨rfl, Or.inl ⟨rfl, rfl⟩⟩, (fun q e => by cases e), Below.refl _ _⟩⟩
  case round =>
    obtain ⟨k, hk, rfl, hw⟩ := hrel
    cases gk with
    | zero =>
      have hz : ¬ ((k : Int) < (sh.length : Int)) := by omega
      have hkk : k = sh.length := by omega
      rw [hkk] at hw
      have HW := hide hw
      clear hw
      go_wp2_with fail
      go_ret2
      exact ⟨_, _, rfl, HW.out⟩
    | succ g1 =>
      have hz : (k : Int) < (sh.length : Int) := by omega
      obtain ⟨aa, ac, rfl⟩ : ∃ aa ac, u8 = .slice aa k ac := by
        rcases Joins.ownsRow_forms hw.ra with ⟨rfl, h0⟩ | ⟨g, c, rfl⟩
        · exact ⟨none, 0, by rw [h0]⟩
        · exact ⟨_, _, rfl⟩
      obtain ⟨ba, bc, rfl⟩ : ∃ ba bc, u9 = .slice ba k bc := by
        rcases Joins.ownsRow_forms hw.rb with ⟨rfl, h0⟩ | ⟨g, c, rfl⟩
        · exact ⟨none, 0, by rw [h0]⟩
        · exact ⟨_, _, rfl⟩
      have hsk : (bools sh)[k]? = some (.bool (sh.getD k false)) := by
        unfold bools
        rw [List.getElem?_map, List.getD_eq_getElem?_getD, List.getElem?_eq_getElem (by omega)]
        rfl
      have cs := ((HS.out.of_block (hw.be.block gs HS.out.lt)).cell k).trans hsk
      obtain ⟨x, Hx⟩ : ∃ x, Hid (one.getD k 0 = x) := ⟨_, rfl⟩
      obtain ⟨y, Hy⟩ : ∃ y, Hid ((if sh.getD k false = true then two.getD k 0 else one.getD k 0) = y) := ⟨_, rfl⟩
      have e1 : k < one.length → ∃ ga oa, a1 = some ⟨ga, oa, none⟩ ∧ wr.cell? ⟨ga, oa + k, none⟩ = some (.int .i64 x) := fun hl => by
        obtain ⟨g, o, e, hg, hc⟩ := H1.out k _ (List.getElem?_eq_getElem hl)
        refine ⟨g, o, e, (World.cell?_of_block (a := ⟨g, o + k, none⟩) (hw.be.block g hg)).trans ?_⟩
        rw [hc, ← Hx.out, List.getD_eq_getElem?_getD, List.getElem?_eq_getElem hl]; rfl
      have n1 : ¬ k < one.length → x = 0 := fun hl => by rw [← Hx.out, List.getD_eq_getElem?_getD, List.getElem?_eq_none (by omega)]; rfl
      have e2 : sh.getD k false = true → k < two.length → ∃ ga oa, a2 = some ⟨ga, oa, none⟩ ∧ wr.cell? ⟨ga, oa + k, none⟩ = some (.int .i64 y) := fun hb hl => by
        obtain ⟨g, o, e, hg, hc⟩ := H2.out k _ (List.getElem?_eq_getElem hl)
        refine ⟨g, o, e, (World.cell?_of_block (a := ⟨g, o + k, none⟩) (hw.be.block g hg)).trans ?_⟩
        rw [hc, ← Hy.out, if_pos hb, List.getD_eq_getElem?_getD, List.getElem?_eq_getElem hl]; rfl
      have n2 : sh.getD k false = true → ¬ k < two.length → y = 0 := fun hb hl => by rw [← Hy.out, if_pos hb, List.getD_eq_getElem?_getD, List.getElem?_eq_none (by omega)]; rfl
      have n3 : ¬ sh.getD k false = true → y = x := fun hb => by rw [← Hy.out, if_neg hb]; exact Hx.out
      have HW := hide hw
      have HE1 := hide e1
      have HN1 := hide n1
      have HE2 := hide e2
      have HN2 := hide n2
      have HN3 := hide n3
      have hN' : k ≤ 100 := by omega
      clear hw e1 n1 e2 n2 n3 hsk
      by_cases c1 : k < one.length
      · have l1 : (k : Int) < (one.length : Int) := by omega
        obtain ⟨g1', o1, rfl, cx⟩ := HE1.out c1
        by_cases cb : sh.getD k false = true
        · rw [cb] at cs
          by_cases c2 : k < two.length
          · have l2 : (k : Int) < (two.length : Int) := by omega
            obtain ⟨g2, o2, rfl, cy⟩ := HE2.out cb c2
            go_wp2_with (at_builtin; first | (refine wpList_append_row1 _ rfl _ _ 32 rfl 3 j0 (.int .i64 0) 1 8 Tryz.underlying32 ji jz0 jz1 jz2 rfl (by decide) (.slice aa k ac) k (ints (wdA one k)) rfl (by exact World.ownsRow.alloc (Joins.ownsRow_le HW.out.ra (Nat.zero_le _)) _) ⟨wr.heap.size, 0, none⟩ 1 1 [.int .i64 x] rfl rfl (by exact row_new wr [.int .i64 x] _) (by intro u hu; simp only [List.mem_singleton] at hu; subst hu; rfl) (few_le (by omega)) (by omega) Nat.one_pos ?_; intro ga3 ca3 w3 r3 g3 k3; have R3 := hide r3; have G3 := hide g3; have K3 := hide k3; have rb3 : Hid (w3.ownsRow 0 3 1 (.slice ba k bc) k (ints (wdB sh one two k))) := own_block (Joins.ownsRow_le HW.out.rb (Nat.zero_le _)) (fun q e => (g3.block q (by show q < (World.alloc _ _).heap.size; rw [size_alloc]; exact Nat.lt_succ_of_lt (HW.out.rb.lt q e).2) (fun e' => HW.out.ne q e'.symm e)).trans (heap_alloc_old _ _ _ (HW.out.rb.lt q e).2)); clear r3 g3 k3) | (refine wpList_append_row1 _ rfl _ _ 32 rfl 3 j0 (.int .i64 0) 1 8 Tryz.underlying32 ji jz0 jz1 jz2 rfl (by decide) (.slice ba k bc) k (ints (wdB sh one two k)) rfl (by exact World.ownsRow.alloc rb3.out _) ⟨w3.heap.size, 0, none⟩ 1 1 [.int .i64 y] rfl rfl (by exact row_new w3 [.int .i64 y] _) (by intro u hu; simp only [List.mem_singleton] at hu; subst hu; rfl) (few_le (by omega)) (by omega) Nat.one_pos ?_; intro gb5 cb5 w5 r5 g5 k5; have R5 := hide r5; have G5 := hide g5; have K5 := hide k5; clear r5 g5 k5))
            go_roundg g1
            case measure => omega
            case rel => exact ⟨k + 1, by omega, by go_num, wr_step HW.out Hx.out Hy.out R3.out G3.out K3.out R5.out G5.out K5.out⟩
          · have l2 : ¬ (k : Int) < (two.length : Int) := by omega
            have ey := HN2.out cb c2
            subst ey
            go_wp2_with (at_builtin; first | (refine wpList_append_row1 _ rfl _ _ 32 rfl 3 j0 (.int .i64 0) 1 8 Tryz.underlying32 ji jz0 jz1 jz2 rfl (by decide) (.slice aa k ac) k (ints (wdA one k)) rfl (by exact World.ownsRow.alloc (Joins.ownsRow_le HW.out.ra (Nat.zero_le _)) _) ⟨wr.heap.size, 0, none⟩ 1 1 [.int .i64 x] rfl rfl (by exact row_new wr [.int .i64 x] _) (by intro u hu; simp only [List.mem_singleton] at hu; subst hu; rfl) (few_le (by omega)) (by omega) Nat.one_pos ?_; intro ga3 ca3 w3 r3 g3 k3; have R3 := hide r3; have G3 := hide g3; have K3 := hide k3; have rb3 : Hid (w3.ownsRow 0 3 1 (.slice ba k bc) k (ints (wdB sh one two k))) := own_block (Joins.ownsRow_le HW.out.rb (Nat.zero_le _)) (fun q e => (g3.block q (by show q < (World.alloc _ _).heap.size; rw [size_alloc]; exact Nat.lt_succ_of_lt (HW.out.rb.lt q e).2) (fun e' => HW.out.ne q e'.symm e)).trans (heap_alloc_old _ _ _ (HW.out.rb.lt q e).2)); clear r3 g3 k3) | (refine wpList_append_row1 _ rfl _ _ 32 rfl 3 j0 (.int .i64 0) 1 8 Tryz.underlying32 ji jz0 jz1 jz2 rfl (by decide) (.slice ba k bc) k (ints (wdB sh one two k)) rfl (by exact World.ownsRow.alloc rb3.out _) ⟨w3.heap.size, 0, none⟩ 1 1 [.int .i64 0] rfl rfl (by exact row_new w3 [.int .i64 0] _) (by intro u hu; simp only [List.mem_singleton] at hu; subst hu; rfl) (few_le (by omega)) (by omega) Nat.one_pos ?_; intro gb5 cb5 w5 r5 g5 k5; have R5 := hide r5; have G5 := hide g5; have K5 := hide k5; clear r5 g5 k5))
            go_roundg g1
            case measure => omega
            case rel => exact ⟨k + 1, by omega, by go_num, wr_step HW.out Hx.out Hy.out R3.out G3.out K3.out R5.out G5.out K5.out⟩
        · have cb' : sh.getD k false = false := by simpa using cb
          rw [cb'] at cs
          have ey := HN3.out cb
          subst ey
          go_wp2_with (at_builtin; first | (refine wpList_append_row1 _ rfl _ _ 32 rfl 3 j0 (.int .i64 0) 1 8 Tryz.underlying32 ji jz0 jz1 jz2 rfl (by decide) (.slice aa k ac) k (ints (wdA one k)) rfl (by exact World.ownsRow.alloc (Joins.ownsRow_le HW.out.ra (Nat.zero_le _)) _) ⟨wr.heap.size, 0, none⟩ 1 1 [.int .i64 y] rfl rfl (by exact row_new wr [.int .i64 y] _) (by intro u hu; simp only [List.mem_singleton] at hu; subst hu; rfl) (few_le (by omega)) (by omega) Nat.one_pos ?_; intro ga3 ca3 w3 r3 g3 k3; have R3 := hide r3; have G3 := hide g3; have K3 := hide k3; have rb3 : Hid (w3.ownsRow 0 3 1 (.slice ba k bc) k (ints (wdB sh one two k))) := own_block (Joins.ownsRow_le HW.out.rb (Nat.zero_le _)) (fun q e => (g3.block q (by show q < (World.alloc _ _).heap.size; rw [size_alloc]; exact Nat.lt_succ_of_lt (HW.out.rb.lt q e).2) (fun e' => HW.out.ne q e'.symm e)).trans (heap_alloc_old _ _ _ (HW.out.rb.lt q e).2)); clear r3 g3 k3) | (refine wpList_append_row1 _ rfl _ _ 32 rfl 3 j0 (.int .i64 0) 1 8 Tryz.underlying32 ji jz0 jz1 jz2 rfl (by decide) (.slice ba k bc) k (ints (wdB sh one two k)) rfl (by exact World.ownsRow.alloc rb3.out _) ⟨w3.heap.size, 0, none⟩ 1 1 [.int .i64 y] rfl rfl (by exact row_new w3 [.int .i64 y] _) (by intro u hu; simp only [List.mem_singleton] at hu; subst hu; rfl) (few_le (by omega)) (by omega) Nat.one_pos ?_; intro gb5 cb5 w5 r5 g5 k5; have R5 := hide r5; have G5 := hide g5; have K5 := hide k5; clear r5 g5 k5))
          go_roundg g1
          case measure => omega
          case rel => exact ⟨k + 1, by omega, by go_num, wr_step HW.out Hx.out Hy.out R3.out G3.out K3.out R5.out G5.out K5.out⟩
      · have l1 : ¬ (k : Int) < (one.length : Int) := by omega
        have ex := HN1.out c1
        subst ex
        by_cases cb : sh.getD k false = true
        · rw [cb] at cs
          by_cases c2 : k < two.length
          · have l2 : (k : Int) < (two.length : Int) := by omega
            obtain ⟨g2, o2, rfl, cy⟩ := HE2.out cb c2
            go_wp2_with (at_builtin; first | (refine wpList_append_row1 _ rfl _ _ 32 rfl 3 j0 (.int .i64 0) 1 8 Tryz.underlying32 ji jz0 jz1 jz2 rfl (by decide) (.slice aa k ac) k (ints (wdA one k)) rfl (by exact World.ownsRow.alloc (Joins.ownsRow_le HW.out.ra (Nat.zero_le _)) _) ⟨wr.heap.size, 0, none⟩ 1 1 [.int .i64 0] rfl rfl (by exact row_new wr [.int .i64 0] _) (by intro u hu; simp only [List.mem_singleton] at hu; subst hu; rfl) (few_le (by omega)) (by omega) Nat.one_pos ?_; intro ga3 ca3 w3 r3 g3 k3; have R3 := hide r3; have G3 := hide g3; have K3 := hide k3; have rb3 : Hid (w3.ownsRow 0 3 1 (.slice ba k bc) k (ints (wdB sh one two k))) := own_block (Joins.ownsRow_le HW.out.rb (Nat.zero_le _)) (fun q e => (g3.block q (by show q < (World.alloc _ _).heap.size; rw [size_alloc]; exact Nat.lt_succ_of_lt (HW.out.rb.lt q e).2) (fun e' => HW.out.ne q e'.symm e)).trans (heap_alloc_old _ _ _ (HW.out.rb.lt q e).2)); clear r3 g3 k3) | (refine wpList_append_row1 _ rfl _ _ 32 rfl 3 j0 (.int .i64 0) 1 8 Tryz.underlying32 ji jz0 jz1 jz2 rfl (by decide) (.slice ba k bc) k (ints (wdB sh one two k)) rfl (by exact World.ownsRow.alloc rb3.out _) ⟨w3.heap.size, 0, none⟩ 1 1 [.int .i64 y] rfl rfl (by exact row_new w3 [.int .i64 y] _) (by intro u hu; simp only [List.mem_singleton] at hu; subst hu; rfl) (few_le (by omega)) (by omega) Nat.one_pos ?_; intro gb5 cb5 w5 r5 g5 k5; have R5 := hide r5; have G5 := hide g5; have K5 := hide k5; clear r5 g5 k5))
            go_roundg g1
            case measure => omega
            case rel => exact ⟨k + 1, by omega, by go_num, wr_step HW.out Hx.out Hy.out R3.out G3.out K3.out R5.out G5.out K5.out⟩
          · have l2 : ¬ (k : Int) < (two.length : Int) := by omega
            have ey := HN2.out cb c2
            subst ey
            go_wp2_with (at_builtin; first | (refine wpList_append_row1 _ rfl _ _ 32 rfl 3 j0 (.int .i64 0) 1 8 Tryz.underlying32 ji jz0 jz1 jz2 rfl (by decide) (.slice aa k ac) k (ints (wdA one k)) rfl (by exact World.ownsRow.alloc (Joins.ownsRow_le HW.out.ra (Nat.zero_le _)) _) ⟨wr.heap.size, 0, none⟩ 1 1 [.int .i64 0] rfl rfl (by exact row_new wr [.int .i64 0] _) (by intro u hu; simp only [List.mem_singleton] at hu; subst hu; rfl) (few_le (by omega)) (by omega) Nat.one_pos ?_; intro ga3 ca3 w3 r3 g3 k3; have R3 := hide r3; have G3 := hide g3; have K3 := hide k3; have rb3 : Hid (w3.ownsRow 0 3 1 (.slice ba k bc) k (ints (wdB sh one two k))) := own_block (Joins.ownsRow_le HW.out.rb (Nat.zero_le _)) (fun q e => (g3.block q (by show q < (World.alloc _ _).heap.size; rw [size_alloc]; exact Nat.lt_succ_of_lt (HW.out.rb.lt q e).2) (fun e' => HW.out.ne q e'.symm e)).trans (heap_alloc_old _ _ _ (HW.out.rb.lt q e).2)); clear r3 g3 k3) | (refine wpList_append_row1 _ rfl _ _ 32 rfl 3 j0 (.int .i64 0) 1 8 Tryz.underlying32 ji jz0 jz1 jz2 rfl (by decide) (.slice ba k bc) k (ints (wdB sh one two k)) rfl (by exact World.ownsRow.alloc rb3.out _) ⟨w3.heap.size, 0, none⟩ 1 1 [.int .i64 0] rfl rfl (by exact row_new w3 [.int .i64 0] _) (by intro u hu; simp only [List.mem_singleton] at hu; subst hu; rfl) (few_le (by omega)) (by omega) Nat.one_pos ?_; intro gb5 cb5 w5 r5 g5 k5; have R5 := hide r5; have G5 := hide g5; have K5 := hide k5; clear r5 g5 k5))
            go_roundg g1
            case measure => omega
            case rel => exact ⟨k + 1, by omega, by go_num, wr_step HW.out Hx.out Hy.out R3.out G3.out K3.out R5.out G5.out K5.out⟩
        · have cb' : sh.getD k false = false := by simpa using cb
          rw [cb'] at cs
          have ey := HN3.out cb
          subst ey
          go_wp2_with (at_builtin; first | (refine wpList_append_row1 _ rfl _ _ 32 rfl 3 j0 (.int .i64 0) 1 8 Tryz.underlying32 ji jz0 jz1 jz2 rfl (by decide) (.slice aa k ac) k (ints (wdA one k)) rfl (by exact World.ownsRow.alloc (Joins.ownsRow_le HW.out.ra (Nat.zero_le _)) _) ⟨wr.heap.size, 0, none⟩ 1 1 [.int .i64 0] rfl rfl (by exact row_new wr [.int .i64 0] _) (by intro u hu; simp only [List.mem_singleton] at hu; subst hu; rfl) (few_le (by omega)) (by omega) Nat.one_pos ?_; intro ga3 ca3 w3 r3 g3 k3; have R3 := hide r3; have G3 := hide g3; have K3 := hide k3; have rb3 : Hid (w3.ownsRow 0 3 1 (.slice ba k bc) k (ints (wdB sh one two k))) := own_block (Joins.ownsRow_le HW.out.rb (Nat.zero_le _)) (fun q e => (g3.block q (by show q < (World.alloc _ _).heap.size; rw [size_alloc]; exact Nat.lt_succ_of_lt (HW.out.rb.lt q e).2) (fun e' => HW.out.ne q e'.symm e)).trans (heap_alloc_old _ _ _ (HW.out.rb.lt q e).2)); clear r3 g3 k3) | (refine wpList_append_row1 _ rfl _ _ 32 rfl 3 j0 (.int .i64 0) 1 8 Tryz.underlying32 ji jz0 jz1 jz2 rfl (by decide) (.slice ba k bc) k (ints (wdB sh one two k)) rfl (by exact World.ownsRow.alloc rb3.out _) ⟨w3.heap.size, 0, none⟩ 1 1 [.int .i64 0] rfl rfl (by exact row_new w3 [.int .i64 0] _) (by intro u hu; simp only [List.mem_singleton] at hu; subst hu; rfl) (few_le (by omega)) (by omega) Nat.one_pos ?_; intro gb5 cb5 w5 r5 g5 k5; have R5 := hide r5; have G5 := hide g5; have K5 := hide k5; clear r5 g5 k5))
          go_roundg g1
          case measure => omega
          case rel => exact ⟨k + 1, by omega, by go_num, wr_step HW.out Hx.out Hy.out R3.out G3.out K3.out R5.out G5.out K5.out⟩
end Y
end Go.Proofs.YtejbgcloblpbfaaGreatDoor
namespace Go.Proofs.YtejbgcloblpbfaaGreatDoor
open R (Tok tk)
open K (Nm Ex Do S Scans)
namespace Y
theorem dcl_st (T : List Tok) (σ : S) : K.St σ (K.dcl T σ) := by
  have hd : ∀ p (τ : S), K.St τ (K.decl T p τ) ∧ ((K.decl T p τ).err = 0 → ¬ τ.names.length = 8) := by
    intro p τ
    have h0 : K.St (K.dec0 T p τ) (K.decl T p τ) := by
      unfold K.decl
      split
      · exact ((K.step_st T _).trans (K.take_st T _ _)).trans ((K.newName_st T _).trans (K.take_st T _ _))
      · exact (K.take_st T _ _).trans (K.newName_st T _)
    refine ⟨fun e => ?_, fun e h8 => ?_⟩
    · have e0 := h0 e
      unfold K.dec0 at e0
      split at e0
      · exact absurd e0 (K.fail_ne (by decide))
      · exact e0
    · have e0 := h0 e
      unfold K.dec0 at e0
      rw [if_pos h8] at e0
      exact absurd e0 (K.fail_ne (by decide))
  exact ((K.opened_st T σ).trans (hd _ _).1).trans (K.closed_st T _)
theorem dcl_few (T : List Tok) {σ : S} (h : (K.dcl T σ).err = 0) : ¬ σ.names.length = 8 := by
  have h1 : (K.decl T (tk T σ.i).p (K.opened T σ)).err = 0 := K.closed_st T _ h
  have hn : (K.opened T σ).names = σ.names := (K.op2_keeps T σ).names
  intro h8
  have h0 : K.St (K.dec0 T (tk T σ.i).p (K.opened T σ)) (K.decl T (tk T σ.i).p (K.opened T σ)) := by
    unfold K.decl
    split
    · exact ((K.step_st T _).trans (K.take_st T _ _)).trans ((K.newName_st T _).trans (K.take_st T _ _))
    · exact (K.take_st T _ _).trans (K.newName_st T _)
  have e0 := h0 h1
  unfold K.dec0 at e0
  rw [hn, if_pos h8] at e0
  exact absurd e0 (K.fail_ne (by decide))
theorem declsL_st (T : List Tok) (m : Nat) : ∀ σ : S, K.St σ (K.declsL T m σ) := by
  induction m with
  | zero => intro σ; exact K.St.rfl' σ
  | succ m ih =>
    intro σ
    rw [K.declsL]
    split
    · exact fun e => dcl_st T σ (show (K.dcl T σ).err = 0 from ih (K.adds (K.dclN T σ) (K.dcl T σ)) e)
    · exact K.St.rfl' σ
theorem declsL_few (T : List Tok) (m : Nat) : ∀ σ : S, σ.names.length ≤ 8 → (K.declsL T m σ).err = 0 → (K.declsL T m σ).names.length ≤ 8 := by
  induction m with
  | zero => intro σ h _; exact h
  | succ m ih =>
    intro σ h he
    rw [K.declsL] at he ⊢
    split
    · rename_i c
      rw [if_pos c] at he
      have e1 : (K.dcl T σ).err = 0 := declsL_st T m (K.adds (K.dclN T σ) (K.dcl T σ)) he
      have h8 := dcl_few T e1
      refine ih _ ?_ he
      show ((K.dcl T σ).names ++ [K.dclN T σ]).length ≤ 8
      rw [(K.dcl_keeps T σ).names, List.length_append]
      show σ.names.length + 1 ≤ 8
      omega
    · exact h
theorem shape_few : ∀ {l : List Nm}, (∀ n ∈ l, 1 ≤ n.size ∧ n.size ≤ 6) → (K.shape l).length ≤ 6 * l.length
  | [], _ => Nat.le_refl _
  | n :: l, h => by
    have hn := h n List.mem_cons_self
    have ih := shape_few (l := l) fun m hm => h m (List.mem_cons_of_mem _ hm)
    have e : K.shape (n :: l) = List.replicate n.size.toNat n.sec ++ K.shape l := rfl
    rw [e, List.length_append, List.length_replicate, List.length_cons]
    omega
theorem words48 {s : ByteArray} (hs : s.size ≤ 800) (h : (R.read s).err = 0) : (R.read s).shape.length ≤ 48 := by
  obtain ⟨c0, cf, csh, cw, c54, csz, cb, _⟩ := Q.shape_ok hs h
  generalize R.toks s = T at *
  have kS : K.Keeps (K.prog0 T) (K.progS T) := (K.dos_keeps T 11 _).trans (K.expect_keeps T _ _)
  have e1 : (K.dos T 11 (K.prog0 T)).1.err = 0 := K.take_st T _ _ c0
  have e2 : (K.declsL T T.length K.start).err = 0 := K.dos_st T 11 _ e1
  have h8 : (K.prog0 T).names.length ≤ 8 := declsL_few T T.length K.start (by decide) e2
  rw [csh]
  have := shape_few cb
  rw [kS.names] at this ⊢
  omega
end Y
end Go.Proofs.YtejbgcloblpbfaaGreatDoor
