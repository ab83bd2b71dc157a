import Derived.Test.YtejbgcloblpbfaaGreatDoorB50
import Derived.Test.YtejbgcloblpbfaaGreatDoorB49
namespace Go.Proofs.YtejbgcloblpbfaaGreatDoor
open Go.RowKit
open K (Nm Ex Do)
namespace Y
def seenOf (N : Nat) (l : List Do) (ms : List Int) : List Int := seDs 0 ((List.range 256).drop (N + 2)) none true l (ms ++ [0, 0]) ++ [((dosC 0 ((List.range 256).drop (N + 2)) none l).length : Int)]
theorem getD_pad (ms : List Int) : (fun j => (ms ++ [0, 0]).getD j 0) = fun j => ms.getD j 0 := by
  funext j
  rw [List.getD_eq_getElem?_getD, List.getD_eq_getElem?_getD]
  by_cases c : j < ms.length
  · rw [List.getElem?_append_left c]
  · rw [List.getElem?_append_right (by omega), List.getElem?_eq_none (l := ms) (by omega)]
    generalize j - ms.length = i
    match i with
    | 0 => rfl
    | 1 => rfl
    | _ + 2 => rfl
theorem pr_sim2 {N : Nat} {sh : List Bool} {l : List Do} (hP : Pr N sh l) (ms : List Int) (hm : ms.length = N) :
    ∃ n s', go (prC N l) n ⟨0, fun _ => 0, fun j => ms.getD j 0, []⟩ = some s' ∧ n < 100000 ∧ (prC N l)[s'.pc]? = some .halt ∧ (∀ j, j < N → s'.M j = (V.rds l (ms ++ [0, 0])).getD j 0) ∧ s'.seen ++ [(s'.pc : Int)] = seenOf N l ms := by
  have hN := hP.n54
  have hL : (ms ++ [0, 0]).length = N + 2 := by simp [hm]
  obtain ⟨n, s', h1, h2, h3, h4, h5, h6⟩ := sim_dos hN l (dep := 0) (by omega) hP.sc (prC N l) 0 ((List.range 256).drop (N + 2)) none true (ms ++ [0, 0]) ⟨0, fun _ => 0, fun j => (ms ++ [0, 0]).getD j 0, []⟩ hL rfl (Seg.left (b := [.halt]) (fun j x hx => by rw [Nat.zero_add]; exact hx)) (by
      rw [hL]
      refine ⟨(List.nodup_range).sublist (List.drop_sublist _ _), fun x hx => ?_⟩
      obtain ⟨i, hi, rfl⟩ := List.mem_iff_getElem.1 hx
      rw [List.length_drop, List.length_range] at hi
      rw [List.getElem_drop, List.getElem_range]
      omega) (by rw [List.length_drop, List.length_range]; have := hP.need; omega) (fun j _ => rfl) rfl
  rw [getD_pad] at h1
  have hpc : s'.pc = (dosC 0 ((List.range 256).drop (N + 2)) none l).length := by rw [h3]; exact Nat.zero_add _
  refine ⟨n, s', h1, by have := hP.cost; omega, ?_, fun j hj => ?_, ?_⟩
  · rw [hpc]
    show (dosC _ _ _ _ ++ [.halt])[(dosC 0 ((List.range 256).drop (N + 2)) none l).length]? = _
    rw [List.getElem?_append_right (Nat.le_refl _), Nat.sub_self]
    rfl
  · rw [h4 j (by rw [rds_len, hL]; omega)]
    exact (rds_ag l hP.sc _ _ hL (Ag.rfl' _ _)).2 j (by omega)
  · unfold seenOf
    rw [h6, hpc]
    rfl
theorem prC_len {N : Nat} {sh : List Bool} {l : List Do} (hP : Pr N sh l) : (prC N l).length ≤ 100000 ∧ 0 < (prC N l).length := by
  have := dosC_len l 0 ((List.range 256).drop (N + 2)) none
  have := hP.cost
  unfold prC
  rw [List.length_append]
  simp
  omega
theorem run_play {w : World} {b N base : Nat} {sh : List Bool} {l : List Do} (hP : Pr N sh l) {ca : Option Addr} {cc : Nat} {aM : Option Addr} {cM : Nat} {ms : List Int} (hm : ms.length = N) (mach : At w b 73 (mcells (fun _ => 0) (fun _ => 0) (.slice none 0 0)))
    (code : w.ownsRow base 58 5 (.slice ca (prC N l).length cc) (prC N l).length ((prC N l).flatMap inV)) (mem : IntsAt w aM ms) (hb : ∀ o, ¬ aM = some ⟨b, o, none⟩) :
    Calls Tryz.prog 34 #[PT b, .slice ca (prC N l).length cc, .slice aM ms.length cM] w fun x w' => (x = .returned (.bool true) ∧ ∃ R' M', MAt w' b w.heap.size R' M' (seenOf N l ms) ∧ ∀ j, j < N → M' j = (V.rds l (ms ++ [0, 0])).getD j 0) ∧ But b w w' := by
  obtain ⟨n, s', h1, h2, h3, h4, h5⟩ := pr_sim2 hP ms hm
  have hN := hP.n54
  have hl := prC_len hP
  have hp := play_c (w := w) (b := b) (C := prC N l) (ca := ca) (cc := cc) (ms := ms) (aM := aM) cM ⟨mach, Joins.ownsRow_le code (Nat.zero_le _), fun j u hj => by
    obtain ⟨g, o, e, hg, hc⟩ := mem j u hj
    exact ⟨g, o, e, hg, fun e' => hb o (by rw [e, e']), hc⟩, by omega, hl.1, prC_ok (scl_wf l (by omega : 0 ≤ 2) hP.sc)⟩ h2 h1 h3
  rw [h5] at hp
  exact hp.mono fun x w' h => ⟨⟨h.1, s'.R, s'.M, h.2.1, h4⟩, h.2.2⟩
theorem MAt.but {w w' : World} {b lo b2 : Nat} {R M : Nat → Int} {S : List Int} (h : MAt w b lo R M S) (B : But b2 w w') (hne : b ≠ b2) {l : List Value} (k2 : At w b2 73 l) : MAt w' b lo R M S := by
  obtain ⟨sv, a, o⟩ := h.rows
  refine ⟨⟨sv, a.of_block (B.block b a.lt hne), own_block o fun q e => B.block q (o.lt q e).2 (fun e' => ?_)⟩, h.lo⟩
  obtain ⟨_, _, k1⟩ := own_kind o e
  obtain ⟨_, _, k3⟩ := at_kind k2
  rw [e'] at k1
  exact kind_ne k1 k3 (by decide) rfl
set_option maxRecDepth 100000 in
theorem nothing_k (w : World) : Calls Tryz.prog 33 #[] w fun x w' => x = .returned (PT w.heap.size) ∧ At w' w.heap.size 73 (mcells (fun _ => 0) (fun _ => 0) (.slice none 0 0)) ∧ Below w.heap.size w w' ∧ w'.heap.size = w.heap.size + 1 := by
  have e : Tryz.zeroCells73 = (mcells (fun _ => 0) (fun _ => 0) (.slice none 0 0)).toArray := by kernel_rfl
  have ha := At.alloc_new w (mcells (fun _ => 0) (fun _ => 0) (.slice none 0 0)) 73
  rw [← e] at ha
  go_enter Tryz.func33, Tryz.ntmps33
  go_wp2_with fail
  go_ret
  exact ⟨rfl, ha, (Below.refl _ _).alloc (Nat.le_refl _) _, size_alloc _ _⟩
abbrev aliveS : ByteArray := { data := #[40, 115, 101, 99, 114, 101, 116, 32, 107, 41, 40, 115, 101, 99, 114, 101, 116, 32, 114, 41, 40, 105, 102, 32, 107, 32, 40, 40, 115, 101, 116, 32, 114, 32, 55, 41, 41, 32, 40, 40, 115, 101, 116, 32, 114, 32, 57, 41, 41, 41] }
set_option maxRecDepth 100000 in
theorem alive_err : (R.read aliveS).err = 0 := by decide +kernel
set_option maxRecDepth 100000 in
theorem alive_len : (R.read aliveS).shape.length = 2 := by decide +kernel
set_option maxRecDepth 100000 in
theorem alive_7 : (V.rds (K.progD (R.toks aliveS)) ([5, 1] ++ [0, 0])).getD 1 0 = 7 := by decide +kernel
set_option maxRecDepth 100000 in
theorem alive_9 : (V.rds (K.progD (R.toks aliveS)) ([0, 1] ++ [0, 0])).getD 1 0 = 9 := by decide +kernel
end Y
end Go.Proofs.YtejbgcloblpbfaaGreatDoor
namespace Go.Proofs.YtejbgcloblpbfaaGreatDoor
open Go.RowKit
open K (Nm Ex Do)
namespace Y
set_option maxRecDepth 100000 in
set_option maxHeartbeats 2000000 in
theorem alive_c (w : World) (hv : K.Vars w) (hw : 5 ≤ w.heap.size) : Calls Tryz.prog 36 #[] w fun x w' => x = .returned (.bool true) ∧ Below w.heap.size w w' := by
  have hc := compile_c aliveS w (by decide) hv hw
  have hP := prog_al (s := aliveS) (by decide) alive_err
  have h7 := alive_7
  have h9 := alive_9
  have hno := fun (w : World) => nothing_k w
  rw [alive_err, alive_len] at hc
  rw [alive_len] at hP
  have hpl := fun (w : World) (b base : Nat) (ca : Option Addr) (cc : Nat) (aM : Option Addr) (cM : Nat) (ms : List Int) (hm : ms.length = 2) (mach : At w b 73 (mcells (fun _ => 0) (fun _ => 0) (.slice none 0 0))) (code : w.ownsRow base 58 5 (.slice ca (prC 2 (K.progD (R.toks aliveS))).length cc) (prC 2 (K.progD (R.toks aliveS))).length ((prC 2 (K.progD (R.toks aliveS))).flatMap inV)) (mem : IntsAt w aM ms) (hb : ∀ o, ¬ aM = some ⟨b, o, none⟩) => run_play (cM := cM) hP hm mach code mem hb
  generalize K.progD (R.toks aliveS) = l at *
  have HPL := hide hpl
  clear hpl hP
  go_enter Tryz.func36, Tryz.ntmps36
  go_wp2_with fail
  refine hc.mono ?_
  rintro x w1 ⟨h1, hb1⟩
  rcases h1 with ⟨h1, _⟩ | ⟨_, _, cv, rfl, o1⟩
  · exact absurd trivial h1
  · obtain ⟨ca, cc, rfl⟩ : ∃ ca cc, cv = .slice ca (prC 2 l).length cc := by
      rcases Joins.ownsRow_forms o1 with ⟨rfl, h0⟩ | ⟨g, c, rfl⟩
      · exact ⟨none, 0, by rw [h0]⟩
      · exact ⟨_, _, rfl⟩
    generalize hCl : prC 2 l = C at *
    have HO1 := hide o1
    have n1 := hno w1
    clear o1 hc
    go_wp2_with fail
    refine n1.mono ?_
    rintro x w2 ⟨rfl, m1, hb2, z2'⟩
    have z2 : w1.heap.size < w2.heap.size := by omega
    clear z2'
    have n2 := hno w2
    have HM1 := hide m1
    clear m1 n1
    go_wp2_with fail
    refine n2.mono ?_
    rintro x w3 ⟨rfl, m2, hb3, z3'⟩
    have z3 : w2.heap.size < w3.heap.size := by omega
    clear z3'
    have B3 := hb2.trans (hb3.mono hb2.size)
    have o3 : w3.ownsRow w.heap.size 58 5 (.slice ca C.length cc) C.length (C.flatMap inV) := own_block HO1.out fun q e => B3.block q (HO1.out.lt q e).2
    have m13 := HM1.out.of_block (hb3.block _ HM1.out.lt)
    have z1 := hb1.size
    have nx : w1.heap.size ≠ w2.heap.size := by omega
    obtain ⟨W4, hW4⟩ : ∃ W4, w3.alloc (.cells #[.int .i64 5, .int .i64 1] 3 (0, 0)) = W4 := ⟨_, rfl⟩
    have B4 : Below w3.heap.size w3 W4 := by rw [← hW4]; exact (Below.refl _ _).alloc (Nat.le_refl _) _
    have z4 : w3.heap.size < W4.heap.size := by rw [← hW4, size_alloc]; exact Nat.lt_succ_self _
    have r4 : At W4 w3.heap.size 3 [.int .i64 5, .int .i64 1] := by rw [← hW4]; exact At.alloc_new w3 _ _
    have i4 : IntsAt W4 (some ⟨w3.heap.size, 0, none⟩) [5, 1] := fun j u hj => ⟨_, 0, rfl, by omega, by
      rw [Nat.zero_add, r4.cell]
      match j, hj with
      | 0, hj => simp at hj ⊢; exact hj
      | 1, hj => simp at hj ⊢; exact hj
      | _ + 2, hj => simp at hj⟩
    have o4 : W4.ownsRow w.heap.size 58 5 (.slice ca C.length cc) C.length (C.flatMap inV) := own_block o3 fun q e => B4.block q (o3.lt q e).2
    have m14 := m13.of_block (B4.block _ m13.lt)
    have m24 := m2.of_block (B4.block _ m2.lt)
    have p1 : Calls Tryz.prog 34 #[PT w1.heap.size, .slice ca C.length cc, .slice (some ⟨w3.heap.size, 0, none⟩) 2 2] W4 _ := HPL.out W4 w1.heap.size w.heap.size ca cc (some ⟨w3.heap.size, 0, none⟩) 2 [5, 1] rfl m14 o4 i4 (fun o e => by have h8 : w3.heap.size = w1.heap.size := congrArg Addr.block (Option.some.inj e); omega)
    have HM24 := hide m24
    have HO4 := hide o4
    have NC : Hid (∀ q, (Value.slice ca C.length cc).ownBlock = some q → q ≠ w1.heap.size ∧ q ≠ w2.heap.size) := fun q e => by
      obtain ⟨_, _, k1⟩ := own_kind o4 e
      obtain ⟨_, _, k2⟩ := at_kind m14
      obtain ⟨_, _, k3⟩ := at_kind m24
      exact ⟨kind_ne k1 k2 (by decide), kind_ne k1 k3 (by decide)⟩
    have HB4 : Hid (Below w.heap.size w W4) := (hb1.trans (B3.mono z1)).trans (B4.mono (by omega))
    clear m13 m14 m24 o3 o4 r4 i4 m2 HM1 HO1 n2 B3 B4 hb1 hb2 hb3
    go_wp2_with fail
    refine p1.mono ?_
    rintro x w5 ⟨⟨rfl, R1, M1, hm1, hM1⟩, b5⟩
    have z5 := b5.size
    have m25 := HM24.out.of_block (b5.block _ HM24.out.lt (fun e => nx e.symm))
    have nc : ∀ q, (Value.slice ca C.length cc).ownBlock = some q → q ≠ w1.heap.size ∧ q ≠ w2.heap.size := NC.out
    have o5 : w5.ownsRow w.heap.size 58 5 (.slice ca C.length cc) C.length (C.flatMap inV) := own_block HO4.out fun q e => b5.block q (HO4.out.lt q e).2 (nc q e).1
    obtain ⟨W6, hW6⟩ : ∃ W6, w5.alloc (.cells #[.int .i64 0, .int .i64 1] 3 (0, 0)) = W6 := ⟨_, rfl⟩
    have B6 : Below w5.heap.size w5 W6 := by rw [← hW6]; exact (Below.refl _ _).alloc (Nat.le_refl _) _
    have z6 : w5.heap.size < W6.heap.size := by rw [← hW6, size_alloc]; exact Nat.lt_succ_self _
    have r6 : At W6 w5.heap.size 3 [.int .i64 0, .int .i64 1] := by rw [← hW6]; exact At.alloc_new w5 _ _
    have i6 : IntsAt W6 (some ⟨w5.heap.size, 0, none⟩) [0, 1] := fun j u hj => ⟨_, 0, rfl, by omega, by
      rw [Nat.zero_add, r6.cell]
      match j, hj with
      | 0, hj => simp at hj ⊢; exact hj
      | 1, hj => simp at hj ⊢; exact hj
      | _ + 2, hj => simp at hj⟩
    have o6 : W6.ownsRow w.heap.size 58 5 (.slice ca C.length cc) C.length (C.flatMap inV) := own_block o5 fun q e => B6.block q (o5.lt q e).2
    have m26 := m25.of_block (B6.block _ m25.lt)
    have m16 := hm1.of_block (w' := W6) fun q hq => B6.block q hq
    have p2 : Calls Tryz.prog 34 #[PT w2.heap.size, .slice ca C.length cc, .slice (some ⟨w5.heap.size, 0, none⟩) 2 2] W6 _ := HPL.out W6 w2.heap.size w.heap.size ca cc (some ⟨w5.heap.size, 0, none⟩) 2 [0, 1] rfl m26 o6 i6 (fun o e => by have h8 : w5.heap.size = w2.heap.size := congrArg Addr.block (Option.some.inj e); omega)
    have HM26 := hide m26
    have HM16 := hide m16
    have hM17 := (hM1 1 (by decide)).trans h7
    have HB5 : Hid (Below w.heap.size w W6) := (HB4.out.trans (but_lower b5 z1 (by omega))).trans (B6.mono (by omega))
    clear m25 m26 m16 o5 o6 r6 i6 hm1 HM24 HO4 B6 b5 p1 hM1 h7
    go_wp2_with fail
    refine p2.mono ?_
    rintro x w7 ⟨⟨rfl, R2, M2, hm2, hM2⟩, b7⟩
    have hm17 := HM16.out.but b7 nx HM26.out
    obtain ⟨c1, _⟩ := hm17.mem (a := 1) (by decide)
    obtain ⟨c2, _⟩ := hm2.mem (a := 1) (by decide)
    rw [hM17] at c1
    rw [hM2 1 (by decide), h9] at c2
    have z7 := b7.size
    have HB7 : Hid (Below w.heap.size w w7) := HB5.out.trans (but_lower b7 (by omega) (by omega))
    clear hm17 hm2 hM2 h9 b7 p2 HM16 HM26 hM17
    go_wp2_with fail
    go_ret
    exact ⟨rfl, HB7.out⟩
end Y
end Go.Proofs.YtejbgcloblpbfaaGreatDoor
