import Derived.Test.YtejbgcloblpbfaaGreatDoorM51
import Derived.Test.YtejbgcloblpbfaaGreatDoorRows
import Derived.Test.YtejbgcloblpbfaaGreatDoorCards
import Derived.Test.YtejbgcloblpbfaaGreatDoorTie
import Derived.ProofKit
import Derived.LaidMore
import Derived.OpenShut
import Derived.Stop.Joined
import Derived.Stop.LaidErr
import Derived.SevenTiedAt
import Derived.ChangeSlices
import Derived.SizedLaws
namespace Go.Proofs.YtejbgcloblpbfaaGreatDoor
open Go.RowKit
open K (Nm Ex Do)
namespace Y
theorem fin_len {l : List Do} {ms : List Int} : ((V.rds l (ms ++ [0, 0])).take ms.length).length = ms.length := by
  rw [List.length_take, V.rds_len, List.length_append]
  simp
theorem fin_get {l : List Do} {ms : List Int} {j : Nat} {u : Int} (h : ((V.rds l (ms ++ [0, 0])).take ms.length)[j]? = some u) : j < ms.length ∧ (V.rds l (ms ++ [0, 0])).getD j 0 = u := by
  rw [List.getElem?_take] at h
  split at h
  · rename_i c
    exact ⟨c, by rw [List.getD_eq_getElem?_getD, h]; rfl⟩
  · cases h
theorem MAt.ints {w : World} {b lo : Nat} {R M : Nat → Int} {S : List Int} (h : MAt w b lo R M S) {l : List Int} (hN : l.length ≤ 256) (hl : ∀ (j : Nat) u, l[j]? = some u → M j = u) : IntsAt w (some ⟨b, 8, none⟩) l := fun j u hj => by
  have hlt := (List.getElem?_eq_some_iff.1 hj).1
  refine ⟨b, 8, rfl, h.lt, ?_⟩
  rw [(h.mem (a := j) (by omega)).1, hl j u hj]
set_option maxHeartbeats 1000000 in
theorem done_err (s : ByteArray) (w : World) (hm : s.size ≤ maxLen) (hv : K.Vars w) (hw : 5 ≤ w.heap.size) (he : ¬ (R.read s).err = 0) (a1 : Option Addr) (n1 c1 : Nat) :
    Calls Tryz.prog 7 #[.string s, .slice a1 n1 c1] w fun x w' => x = .returned (.bool true) ∧ Below w.heap.size w w' := by
  have hg := given_err s w hm hv hw he
  have hn1 : ∀ w : World, (binOp .eql 52 (.slice none 0 0) (.slice none 0 0)).run Tryz.prog w = .ok (.bool true) w := fun w => Lib.run_eql_slice_nil w _ _ none 0 0 0 0 Tryz.underlying52
  go_enter Tryz.func7, Tryz.ntmps7
  go_wp2_with fail
  refine hg.mono ?_
  rintro x w1 ⟨rfl, b1⟩
  go_wp2_with fail
  go_ret
  exact ⟨rfl, b1⟩
set_option maxRecDepth 100000 in
set_option maxHeartbeats 4000000 in
theorem done_ok (s : ByteArray) (w : World) (hm : s.size ≤ maxLen) (hv : K.Vars w) (hw : 5 ≤ w.heap.size) (he : (R.read s).err = 0) (a1 : Option Addr) (c1 : Nat) (one : List Int) (h1 : IntsAt w a1 one) :
    Calls Tryz.prog 7 #[.string s, .slice a1 one.length c1] w fun x w' => x = .returned (.bool true) ∧ Below w.heap.size w w' := by
  have hg := given_ok s w hm hv hw he
  by_cases h800 : s.size ≤ 800
  · have hP := prog_al h800 he
    have h48 := words48 h800 he
    have hlen := (prC_len hP).2
    have hrn := fun (w' : World) (hb : Below w.heap.size w w') (aM : Option Addr) (cM : Nat) (ms : List Int) (hM : IntsAt w' aM ms) => run_k s w' hm (vars_below hv hb hw) (Nat.le_trans hw hb.size) aM cM ms hM
    have hpl := fun (w : World) (b base : Nat) (ca : Option Addr) (cc : Nat) (aM : Option Addr) (cM : Nat) (ms : List Int) (hm : ms.length = (R.read s).shape.length) (mach : At w b 73 (mcells (fun _ => 0) (fun _ => 0) (.slice none 0 0))) (code : w.ownsRow base 58 5 (.slice ca (prC (R.read s).shape.length (K.progD (R.toks s))).length cc) (prC (R.read s).shape.length (K.progD (R.toks s))).length ((prC (R.read s).shape.length (K.progD (R.toks s))).flatMap inV)) (mem : IntsAt w aM ms) (hb : ∀ o, ¬ aM = some ⟨b, o, none⟩) => run_play (cM := cM) hP hm mach code mem hb
    rw [he] at hrn
    generalize hCC : prC (R.read s).shape.length (K.progD (R.toks s)) = C at *
    generalize (R.read s).shape = sh at *
    generalize K.progD (R.toks s) = l at *
    have HPL := hide hpl
    have HRN := hide hrn
    have H1 := hide h1
    clear hpl hrn hP hCC h1
    go_enter Tryz.func7, Tryz.ntmps7
    go_wp2_with fail
    refine hg.mono ?_
    rintro x w1 ⟨⟨_, ca, cc, g, rfl, o1, hgg, ag⟩, b1⟩
    obtain ⟨gc, rfl⟩ : ∃ gc, ca = some ⟨gc, 0, none⟩ := by
      rcases Joins.ownsRow_forms o1 with ⟨_, h9⟩ | ⟨gc, _, h9⟩
      · omega
      · cases h9; exact ⟨gc, rfl⟩
    have hn1 : ∀ w : World, (binOp .eql 52 (.slice (some ⟨gc, 0, none⟩) C.length cc) (.slice none 0 0)).run Tryz.prog w = .ok (.bool false) w := fun w => Lib.run_eql_slice_nil w _ _ (some ⟨gc, 0, none⟩) C.length cc 0 0 Tryz.underlying52
    have hwd : Calls Tryz.prog 32 #[.slice (some ⟨g, 0, none⟩) sh.length sh.length, .slice a1 one.length c1, .slice none 0 0] w1 _ := words_c (two := []) (a2 := none) (c2 := 0) (c1 := c1) (by omega) ag (H1.out.below b1) (fun j u hj => by simp at hj)
    have HO1 := hide o1
    have z1 := b1.size
    clear o1 ag hg
    go_wp2_with fail
    refine hwd.mono ?_
    rintro x w2 ⟨av, bv, rfl, W2⟩
    have b2 := W2.be
    obtain ⟨aa, ac, rfl⟩ : ∃ aa ac, av = .slice aa sh.length ac := by
      rcases Joins.ownsRow_forms W2.ra with ⟨rfl, h0⟩ | ⟨g, c, rfl⟩
      · exact ⟨none, 0, by rw [h0]⟩
      · exact ⟨_, _, rfl⟩
    obtain ⟨ba, bc, rfl⟩ : ∃ ba bc, bv = .slice ba sh.length bc := by
      rcases Joins.ownsRow_forms W2.rb with ⟨rfl, h0⟩ | ⟨g, c, rfl⟩
      · exact ⟨none, 0, by rw [h0]⟩
      · exact ⟨_, _, rfl⟩
    have i2 := IntsAt.of_own W2.ra
    have HLa : Hid (∀ q o, aa = some ⟨q, o, none⟩ → q < w2.heap.size) := fun q o e => (W2.ra.lt q (by rw [e]; rfl)).2
    have hla := wdA_len one sh.length
    generalize wdA one sh.length = ms at *
    have b12 := b1.trans (b2.mono z1)
    have hr := HRN.out w2 b12 aa ac ms i2
    rw [hla] at hr
    have o2 : w2.ownsRow w.heap.size 58 5 (.slice (some ⟨gc, 0, none⟩) C.length cc) C.length (C.flatMap inV) := own_block HO1.out fun q e => b2.block q (HO1.out.lt q e).2
    have HO2 := hide o2
    have HI2 := hide i2
    have HB2 := hide b12
    have z2 := b2.size
    clear o2 i2 W2 b12 b2 HO1
    go_wp2_with fail
    refine hr.mono ?_
    rintro x w3 ⟨h3, b3⟩
    rcases h3 with ⟨h3, _⟩ | ⟨_, h3, _⟩ | ⟨_, _, gr, rfl, hgr, ar⟩
    · exact absurd trivial h3
    · exact absurd trivial h3
    · have z3 := b3.size
      have HAR := hide ar
      have hno := nothing_k w3
      clear ar hr
      go_wp2_with fail
      refine hno.mono ?_
      rintro x w4 ⟨rfl, m4, b4, z4'⟩
      have z4 : w3.heap.size < w4.heap.size := by omega
      clear z4'
      have b24 := b3.trans (b4.mono b3.size)
      have o4 : w4.ownsRow w.heap.size 58 5 (.slice (some ⟨gc, 0, none⟩) C.length cc) C.length (C.flatMap inV) := own_block HO2.out fun q e => b24.block q (HO2.out.lt q e).2
      have i4 := HI2.out.below b24
      have hp := HPL.out w4 w3.heap.size w.heap.size (some ⟨gc, 0, none⟩) cc aa ac ms hla m4 o4 i4 (fun o e => by have := HLa.out _ o e; omega)
      rw [hla] at hp
      have HB4 := hide (HB2.out.trans (b24.mono (Nat.le_trans z1 z2)))
      have HAR4 := hide (HAR.out.of_block (b4.block gr HAR.out.lt))
      have grl := HAR.out.lt
      clear m4 o4 i4 b24 b4 hno HAR HI2 HO2 HB2
      go_wp2_with fail
      refine hp.mono ?_
      rintro x w5 ⟨⟨rfl, R1, M1, hm5, hM5⟩, b5⟩
      obtain ⟨res, Hres⟩ : ∃ res, Hid ((V.rds l (ms ++ [0, 0])).take ms.length = res) := ⟨(V.rds l (ms ++ [0, 0])).take ms.length, hide rfl⟩
      have hrl : res.length = sh.length := by rw [← Hres.out, fin_len]; exact hla
      have ia : IntsAt w5 (some ⟨w3.heap.size, 8, none⟩) res := hm5.ints (by omega) fun j u hj => by
        rw [← Hres.out] at hj
        obtain ⟨f1, f2⟩ := fin_get hj
        rw [hM5 j (by omega)]
        exact f2
      have ar5 := HAR4.out.of_block (b5.block gr (by omega) (by omega))
      rw [← hla, Hres.out] at ar5
      have ir : IntsAt w5 (some ⟨gr, 0, none⟩) res := fun j u hj => ⟨gr, 0, rfl, ar5.lt, by rw [Nat.zero_add, ar5.cell, List.getElem?_map, hj]; rfl⟩
      have hsm := ksame_c (ca := 256) (cb := sh.length) (by omega) ia ir
      rw [hrl] at hsm
      have l1 : (sh.length : Int) ≤ 256 := by omega
      have l2 : sh.length ≤ 256 := by omega
      have l3 : IntKind.i64.wrap (sh.length : Int) = (sh.length : Int) := k64 _ (by omega)
      have z5 := b5.size
      have HB5 : Hid (Below w.heap.size w w5) := HB4.out.trans (but_lower b5 (by omega) (by omega))
      clear hm5 hM5 ar5 ia ir hp HAR4 HB4 b5
      go_wp2_with fail
      refine hsm.mono ?_
      rintro x w6 ⟨rfl, S6⟩
      go_wp2_with fail
      go_ret
      exact ⟨rfl, ⟨S6.os.trans HB5.out.os, S6.tape.trans HB5.out.tape, S6.output.trans HB5.out.output, by rw [S6.heap]; exact HB5.out.size, fun k hk => by rw [S6.heap]; exact HB5.out.block k hk⟩⟩
  · have := read_long_err (s := s) (by omega)
    rw [he] at this
    cases this
theorem done_c (s : ByteArray) (w : World) (hm : s.size ≤ maxLen) (hv : K.Vars w) (hw : 5 ≤ w.heap.size) (a1 : Option Addr) (c1 : Nat) (one : List Int) (h1 : IntsAt w a1 one) :
    Calls Tryz.prog 7 #[.string s, .slice a1 one.length c1] w fun x w' => x = .returned (.bool true) ∧ Below w.heap.size w w' := by
  by_cases he : (R.read s).err = 0
  · exact done_ok s w hm hv hw he a1 c1 one h1
  · exact done_err s w hm hv hw he a1 _ c1
end Y
end Go.Proofs.YtejbgcloblpbfaaGreatDoor
namespace Go.Proofs.YtejbgcloblpbfaaGreatDoor
open Go.ChangeShapes Go.WideShapes Go.ChangeAt Go.WideMaps Go.WideElems Go.RowKit
open Go.ChangeMaps (open_string shut_string)
theorem own : ownKnob Tryz.prog.godebug = none := by kernel_rfl
theorem gSyn : Tryz.prog.globalNamed "strconv.ErrSyntax" = some 3 := by kernel_rfl
theorem gRan : Tryz.prog.globalNamed "strconv.ErrRange" = some 4 := by kernel_rfl
theorem tSyn : (Tryz.prog.globals[3]?).map (·.type) = some 253 := by kernel_rfl
theorem tRan : (Tryz.prog.globals[4]?).map (·.type) = some 253 := by kernel_rfl
theorem star : "*" ++ "errors.errorString" = "*errors.errorString" := by decide
theorem rowErr (u : TypeId) (h : Tryz.prog.typeName? 3 u = some "*errors.errorString") : u = 276 :=
  typeName_ptr_named (nm := "errors.errorString") (by rw [star]; kernel_rfl) (by kernel_rfl) (by decide) u (by rw [star]; exact h)
theorem cellsE : Tryz.prog.cellsOf 278 = 1 := by kernel_rfl
theorem cellsS : Tryz.prog.cellsOf 9 = 1 := by kernel_rfl
theorem door_met (os : Os) (args : Array Value) : laidMetH Tryz.prog Rows.doneRow.laid ((World.doorLaid Tryz.prog 400 os).forCall (fun _ _ => 0) ⟨#[], args, []⟩).memory :=
  laidMetH_of_parts3 (fuel := 8) (laidMet_of_run' 8 (by kernel_rfl) (by kernel_rfl)) (by kernel_rfl) (by kernel_rfl)
theorem vars_of_laid {W : World} (h : laidMetH Tryz.prog Rows.doneRow.laid W) : K.Vars W ∧ 5 ≤ W.heap.size := by
  rw [MakeChecks.laidMetH_plain _ _ _ (by kernel_rfl)] at h
  have h3 := laidMet.tail (laidMet.tail (laidMet.tail h))
  obtain ⟨a1, s1, hv1, _⟩ := laid_sentinel h3 gRan tRan Tryz.underlying253 rowErr Tryz.underlying276 Tryz.underlying278 rfl rfl Tryz.underlying9 cellsE cellsS
  obtain ⟨a0, s0, hv0, _⟩ := laid_sentinel (laidMet.tail h3) gSyn tSyn Tryz.underlying253 rowErr Tryz.underlying276 Tryz.underlying278 rfl rfl Tryz.underlying9 cellsE cellsS
  have c1 : W.cell? ⟨4, 0, none⟩ = some (.iface 276 (.pointer (some a1))) := by simpa using World.var?_cell gRan hv1 0
  have c0 : W.cell? ⟨3, 0, none⟩ = some (.iface 276 (.pointer (some a0))) := by simpa using World.var?_cell gSyn hv0 0
  refine ⟨⟨⟨_, c0, Or.inr ⟨_, _, rfl⟩⟩, ⟨_, c1, Or.inr ⟨_, _, rfl⟩⟩⟩, ?_⟩
  refine Nat.lt_of_not_le fun hn => ?_
  have hx : W.heap[4]? = none := Array.getElem?_eq_none (by omega)
  simp [World.cell?, hx] at c1
theorem cellsI : Tryz.prog.cellsOf 3 = 1 := by kernel_rfl
set_option maxRecDepth 100000 in
theorem spot_none {W : World} {base : Nat} {a : Addr} {len cap : Nat} (h : Value.okWide Tryz.prog W .any base 32 (.slice (some a) len cap)) : a.spot = none ∧ a.block < W.heap.size := by
  simp only [Value.okWide, Tryz.underlying32, Cell.okWide, Cell.ok] at h
  obtain ⟨_, _, _, hs, row, cells, hsh, _⟩ := h
  refine ⟨hs, Nat.lt_of_not_le fun hn => ?_⟩
  have hx : W.heap[a.block]? = none := Array.getElem?_eq_none hn
  simp [World.shape?, hx] at hsh
set_option maxRecDepth 100000 in
theorem open_mem {H : Type} {enc : TypeId × Value → H} {W : World} {base : Nat} {v : Value} {d : DataW H} {p : List MemPlace} (hval : Value.okWide Tryz.prog W .any base 32 v) (h : DataW.Trod enc Tryz.prog W 0 (fun _ => true) true 32 v d p) :
    ∃ aM cM, ∃ ms : List Int, v = .slice aM ms.length cM ∧ Y.IntsAt W aM ms ∧ ∀ W', Below W.heap.size W W' → DataW.Trod enc Tryz.prog W' 0 (fun b => decide (b < W.heap.size)) true 32 v d p := by
  obtain ⟨a0, len0, cap0, rfl⟩ := okWide_slice Tryz.underlying32 hval
  obtain ⟨fuel, hf⟩ := h
  rcases open_ints Tryz.underlying32 Tryz.underlying3 cellsI hf with ⟨hcs, hx⟩ | ⟨a, len, cap, zs, hcs, _, hl, hm, hlen, hx, hcell, hwf⟩
  · simp [Value.cells] at hcs
    obtain ⟨rfl, rfl, rfl⟩ := hcs
    simp only [Prod.mk.injEq] at hx
    obtain ⟨rfl, rfl⟩ := hx
    refine ⟨none, 0, [], rfl, fun j u hu => (by simp at hu), fun W' _ => shut_slice_nil Tryz.underlying32⟩
  · simp [Value.cells] at hcs
    obtain ⟨rfl, rfl, rfl⟩ := hcs
    simp only [Prod.mk.injEq] at hx
    obtain ⟨rfl, rfl⟩ := hx
    simp only [if_true] at hlen
    obtain ⟨hsp, hbl⟩ := spot_none hval
    obtain ⟨gm, om, sp⟩ := a
    cases hsp
    have hml : (zs.take len0).length = len0 := by rw [List.length_take]; omega
    refine ⟨some ⟨gm, om, none⟩, cap0, zs.take len0, by rw [hml], fun j u hu => ⟨gm, om, rfl, hbl, ?_⟩, fun W' hb' => ?_⟩
    · have hj : j < len0 := by rw [← hml]; exact (List.getElem?_eq_some_iff.1 hu).1
      have hc := hcell j (by omega)
      have ea : (⟨gm, om, none⟩ : Addr).add j = ⟨gm, om + j, none⟩ := by unfold Addr.add; split <;> simp_all
      rw [ea] at hc
      rw [hc]
      rw [List.getElem?_take_of_lt hj] at hu
      rw [List.getD_eq_getElem?_getD, hu]
      rfl
    · have hspb : (fun b => decide (b < W.heap.size)) (⟨gm, om, none⟩ : Addr).block = true := by simpa using hbl
      have t0 := shut_ints (enc := enc) (w := W') (base := 0) (spare := fun b => decide (b < W.heap.size)) (held := true) (a := ⟨gm, om, none⟩) (len := len0) (cap := cap0) (zs := zs) 0 Tryz.underlying32 Tryz.underlying3 cellsI (Nat.zero_le _) hl hm (by rw [if_pos hspb]; exact hlen) (fun i hi => by
        have ea : ((⟨gm, om, none⟩ : Addr).add i).block = gm := by unfold Addr.add; split <;> simp_all
        refine (World.cell?_of_block ?_).trans (hcell i hi)
        rw [ea]
        exact hb'.block gm hbl) hwf
      exact ⟨2, by simpa [Value.cells] using t0⟩
set_option maxRecDepth 100000 in
theorem done_lifted (os : Os) (started : os.Started) (H : Type) (enc : TypeId × Value → H) :
    ReturnsInHanded {} Tryz.checked os 7 .any (fun w args => (Rows.doneSpec.pre enc Tryz.prog Tryz.f7 [] false w args ∧ laidMetH Tryz.prog Rows.doneRow.laid w) ∧ sizedMet enc Tryz.prog Tryz.f7 (OpenSpec.ofChange Rows.doneSpec) false w args)
      (Rows.doneSpec.post enc Tryz.prog Tryz.f7 false true false false) := by
  refine returnsInHanded_of_change_and (C := Tryz.checked) (X := fun w _ => laidMetH Tryz.prog Rows.doneRow.laid w) (fun _ _ _ hh h => h.of_heap hh) own started (by kernel_rfl) Tryz.func7
    (ChangeSpec.witness_shaped (enc := enc) (C := Tryz.checked) (os := os) (X := fun w _ => laidMetH Tryz.prog Rows.doneRow.laid w) false (World.doorLaid Tryz.prog 400 os) #[.string ⟨#[]⟩, .slice none 0 0] 8 rfl (World.shaped_of_RefB (by kernel_rfl) (by kernel_rfl)) (by kernel_rfl) (by kernel_rfl) (by kernel_rfl) (door_met os _)) ?_
  intro W base args ds gs before hval0 hW _ _ hL _
  have hval : ∀ (j : Nat) t v, Tryz.f7.params[j]? = some t → args[j]? = some v → Value.okWide Tryz.prog W .any base t v := hval0
  have hW' := hW
  obtain ⟨p, q, hA0, hV, rfl, hfz, hnd⟩ := hW
  have hA : DataW.TrodAll enc Tryz.prog W 0 (fun _ => true) true Tryz.f7.params.toList args.toList ds p := hA0
  rw [Tryz.params7] at hA hval
  obtain ⟨v0, v1, d0, d1, p0, p1, rfl, rfl, rfl, h0, h1⟩ := trodAll_two hA
  obtain ⟨rfl, rfl⟩ := trodVars_none hV
  obtain ⟨s, rfl, rfl, rfl, hm⟩ := open_string Tryz.underlying9 (hval 0 9 v0 rfl rfl) h0
  obtain ⟨aM, cM, ms, rfl, hM, hshut⟩ := open_mem (hval 1 32 v1 rfl rfl) h1 
  obtain ⟨hv, hw⟩ := vars_of_laid hL
  clear hA0 hval0
  simp only [List.append_nil, List.nil_append] at hW'
  refine (Y.done_c s W hm hv hw aM cM ms hM).mono fun e W' ⟨he, hb⟩ => ?_
  subst he
  refine ⟨_, rfl, _, _, _, [], [] ++ p1, [], hW', ?_, ?_, ?_, hb.frame _, fun h => by cases h⟩
  · exact trodAll_mk1 (shut_bool Tryz.underlying4 true)
  · exact trodAll_mk2 (shut_string Tryz.underlying9 hm) (hshut W' hb)
  · rfl
theorem done_holds : Rows.DoneSaid :=
  OpenClaim.holds_of_wide 7 Tryz.f7 rfl rfl rfl rfl rfl rfl rfl ⟨rfl, rfl, rfl, rfl, rfl⟩ rfl rfl rfl rfl rfl (by kernel_rfl) Tryz.func7 (by kernel_rfl)
    (of_decide_eq_true (by kernel_rfl)) (by unfold Func.isWrapper; first | (rw [if_pos (by decide +kernel)]; kernel_rfl) | (rw [if_neg (by decide +kernel)]; exact ⟨rfl, rfl⟩))
    (fun os started H enc _ => done_lifted os started H enc)
theorem done_card : Rows.DoneCardSaid :=
  Claim7.holds_tied_plain_at .later [] [.data, .data, .data, .sentinel, .sentinel] true Rows.doneCard.stood.harness true
    done_holds (fun _ h => by cases h) (by kernel_rfl) (fun _ h => by cases h) done_row_tie rfl ⟨rfl, rfl⟩ (by kernel_rfl) rfl
    (fun f fn hf hfn => by
      obtain rfl : f = 7 := Option.some.inj ((show Tryz.prog.funcNamed "mute/mutekeep.Done" = some 7 by kernel_rfl).symm.trans hf) |>.symm
      obtain rfl : fn = Tryz.f7 := (Option.some.inj (Tryz.func7.symm.trans hfn)).symm
      exact ⟨by kernel_rfl, fun j t ht => by
        rw [Tryz.params7] at ht
        have hm : t ∈ [9, 32] := by simpa using Array.mem_of_getElem? ht
        have hall : ([9, 32].all fun u => !Tryz.prog.wantsStandIn u) = true := by kernel_rfl
        exact (show Tryz.prog.wantsStandIn t = false by simpa using List.all_eq_true.1 hall t hm)⟩)
    (by kernel_rfl)
#print axioms done_card
end Go.Proofs.YtejbgcloblpbfaaGreatDoor
