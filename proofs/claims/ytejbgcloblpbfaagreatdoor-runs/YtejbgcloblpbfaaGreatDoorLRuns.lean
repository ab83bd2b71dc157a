import Derived.Test.YtejbgcloblpbfaaGreatDoorR51
import Derived.Test.YtejbgcloblpbfaaGreatDoorRows
import Derived.Test.YtejbgcloblpbfaaGreatDoorCards
import Derived.Test.YtejbgcloblpbfaaGreatDoorTie
import Derived.ProofKit
import Derived.LaidMore
import Derived.OpenShut
import Derived.Stop.Joined
import Derived.Stop.LaidErr
import Derived.SevenTiedAt
import Derived.ChangeSlices
import Derived.SizedLaws
namespace Go.Proofs.YtejbgcloblpbfaaGreatDoor
open Go.ChangeShapes Go.WideShapes Go.ChangeAt Go.WideMaps Go.WideElems Go.RowKit
open Go.ChangeMaps (open_string shut_string)
theorem own : ownKnob Tryz.prog.godebug = none := by kernel_rfl
theorem gSyn : Tryz.prog.globalNamed "strconv.ErrSyntax" = some 3 := by kernel_rfl
theorem gRan : Tryz.prog.globalNamed "strconv.ErrRange" = some 4 := by kernel_rfl
theorem tSyn : (Tryz.prog.globals[3]?).map (·.type) = some 253 := by kernel_rfl
theorem tRan : (Tryz.prog.globals[4]?).map (·.type) = some 253 := by kernel_rfl
theorem star : "*" ++ "errors.errorString" = "*errors.errorString" := by decide
theorem rowErr (u : TypeId) (h : Tryz.prog.typeName? 3 u = some "*errors.errorString") : u = 276 :=
  typeName_ptr_named (nm := "errors.errorString") (by rw [star]; kernel_rfl) (by kernel_rfl) (by decide) u (by rw [star]; exact h)
theorem cellsE : Tryz.prog.cellsOf 278 = 1 := by kernel_rfl
theorem cellsS : Tryz.prog.cellsOf 9 = 1 := by kernel_rfl
theorem door_met (os : Os) (args : Array Value) : laidMetH Tryz.prog Rows.runsRow.laid ((World.doorLaid Tryz.prog 400 os).forCall (fun _ _ => 0) ⟨#[], args, []⟩).memory :=
  laidMetH_of_parts3 (fuel := 8) (laidMet_of_run' 8 (by kernel_rfl) (by kernel_rfl)) (by kernel_rfl) (by kernel_rfl)
theorem vars_of_laid {W : World} (h : laidMetH Tryz.prog Rows.runsRow.laid W) : K.Vars W ∧ 5 ≤ W.heap.size := by
  rw [MakeChecks.laidMetH_plain _ _ _ (by kernel_rfl)] at h
  have h3 := laidMet.tail (laidMet.tail (laidMet.tail h))
  obtain ⟨a1, s1, hv1, _⟩ := laid_sentinel h3 gRan tRan Tryz.underlying253 rowErr Tryz.underlying276 Tryz.underlying278 rfl rfl Tryz.underlying9 cellsE cellsS
  obtain ⟨a0, s0, hv0, _⟩ := laid_sentinel (laidMet.tail h3) gSyn tSyn Tryz.underlying253 rowErr Tryz.underlying276 Tryz.underlying278 rfl rfl Tryz.underlying9 cellsE cellsS
  have c1 : W.cell? ⟨4, 0, none⟩ = some (.iface 276 (.pointer (some a1))) := by simpa using World.var?_cell gRan hv1 0
  have c0 : W.cell? ⟨3, 0, none⟩ = some (.iface 276 (.pointer (some a0))) := by simpa using World.var?_cell gSyn hv0 0
  refine ⟨⟨⟨_, c0, Or.inr ⟨_, _, rfl⟩⟩, ⟨_, c1, Or.inr ⟨_, _, rfl⟩⟩⟩, ?_⟩
  refine Nat.lt_of_not_le fun hn => ?_
  have hx : W.heap[4]? = none := Array.getElem?_eq_none (by omega)
  simp [World.cell?, hx] at c1
theorem cellsI : Tryz.prog.cellsOf 3 = 1 := by kernel_rfl
theorem bytesI : Tryz.prog.bytesOf 3 = 8 := by kernel_rfl
set_option maxRecDepth 100000 in
theorem spot_none {W : World} {base : Nat} {a : Addr} {len cap : Nat} (h : Value.okWide Tryz.prog W .any base 32 (.slice (some a) len cap)) : a.spot = none ∧ a.block < W.heap.size := by
  simp only [Value.okWide, Tryz.underlying32, Cell.okWide, Cell.ok] at h
  obtain ⟨_, _, _, hs, row, cells, hsh, _⟩ := h
  refine ⟨hs, Nat.lt_of_not_le fun hn => ?_⟩
  have hx : W.heap[a.block]? = none := Array.getElem?_eq_none hn
  simp [World.shape?, hx] at hsh
set_option maxRecDepth 100000 in
theorem open_mem {H : Type} {enc : TypeId × Value → H} {W : World} {base : Nat} {v : Value} {d : DataW H} {p : List MemPlace} (hval : Value.okWide Tryz.prog W .any base 32 v) (h : DataW.Trod enc Tryz.prog W 0 (fun _ => true) true 32 v d p)
    (hz : ∀ elems spare, d = .slice elems spare → (elems.length + spare.length) * 8 ≤ reachBytes) :
    ∃ aM cM, ∃ ms : List Int, v = .slice aM ms.length cM ∧ MAt W W.heap.size aM cM ms ∧ ∀ W', Below W.heap.size W W' → DataW.Trod enc Tryz.prog W' 0 (fun b => decide (b < W.heap.size)) true 32 v d p := by
  obtain ⟨a0, len0, cap0, rfl⟩ := okWide_slice Tryz.underlying32 hval
  obtain ⟨fuel, hf⟩ := h
  rcases open_ints Tryz.underlying32 Tryz.underlying3 cellsI hf with ⟨hcs, hx⟩ | ⟨a, len, cap, zs, hcs, _, hl, hm, hlen, hx, hcell, hwf⟩
  · simp [Value.cells] at hcs
    obtain ⟨rfl, rfl, rfl⟩ := hcs
    simp only [Prod.mk.injEq] at hx
    obtain ⟨rfl, rfl⟩ := hx
    refine ⟨none, 0, [], rfl, ⟨fun _ => ⟨rfl, rfl⟩, fun a e => (by cases e), fun j u gm om hu => (by simp at hu), by decide⟩, fun W' _ => shut_slice_nil Tryz.underlying32⟩
  · simp [Value.cells] at hcs
    obtain ⟨rfl, rfl, rfl⟩ := hcs
    simp only [Prod.mk.injEq] at hx
    obtain ⟨rfl, rfl⟩ := hx
    simp only [if_true] at hlen
    obtain ⟨hsp, hbl⟩ := spot_none hval
    have hz' := hz _ _ rfl
    obtain ⟨gm, om, sp⟩ := a
    cases hsp
    have hml : (zs.take len0).length = len0 := by rw [List.length_take]; omega
    have hb : len0 * 8 ≤ reachBytes := by
      refine Nat.le_trans (Nat.mul_le_mul_right 8 ?_) hz'
      simp [lits]
      omega
    refine ⟨some ⟨gm, om, none⟩, cap0, zs.take len0, by rw [hml], ⟨fun e => (by cases e), fun a e => (by cases e; exact ⟨gm, om, rfl, hbl⟩), fun j u gm' om' hu e => ?_, ?_⟩, fun W' hb' => ?_⟩
    · cases e
      have hj : j < len0 := by rw [← hml]; exact (List.getElem?_eq_some_iff.1 hu).1
      have hc := hcell j (by omega)
      have ea : (⟨gm, om, none⟩ : Addr).add j = ⟨gm, om + j, none⟩ := by unfold Addr.add; split <;> simp_all
      rw [ea] at hc
      rw [hc]
      rw [List.getElem?_take_of_lt hj] at hu
      rw [List.getD_eq_getElem?_getD, hu]
      rfl
    · rw [hml]
      have : reachBytes = 140737488351232 := rfl
      rw [this] at hb
      omega
    · have hspb : (fun b => decide (b < W.heap.size)) (⟨gm, om, none⟩ : Addr).block = true := by simpa using hbl
      have t0 := shut_ints (enc := enc) (w := W') (base := 0) (spare := fun b => decide (b < W.heap.size)) (held := true) (a := ⟨gm, om, none⟩) (len := len0) (cap := cap0) (zs := zs) 0 Tryz.underlying32 Tryz.underlying3 cellsI (Nat.zero_le _) hl hm (by rw [if_pos hspb]; exact hlen) (fun i hi => by
        have ea : ((⟨gm, om, none⟩ : Addr).add i).block = gm := by unfold Addr.add; split <;> simp_all
        refine (World.cell?_of_block ?_).trans (hcell i hi)
        rw [ea]
        exact hb'.block gm hbl) hwf
      exact ⟨2, by simpa [Value.cells] using t0⟩
set_option maxRecDepth 100000 in
theorem runs_lifted (os : Os) (started : os.Started) (H : Type) (enc : TypeId × Value → H) :
    ReturnsInHanded {} Tryz.checked os 5 .any (fun w args => (Rows.runsSpec.pre enc Tryz.prog Tryz.f5 [] false w args ∧ laidMetH Tryz.prog Rows.runsRow.laid w) ∧ sizedMet enc Tryz.prog Tryz.f5 (OpenSpec.ofChange Rows.runsSpec) false w args)
      (Rows.runsSpec.post enc Tryz.prog Tryz.f5 false true false false) := by
  refine returnsInHanded_of_change_and (C := Tryz.checked) (X := fun w _ => laidMetH Tryz.prog Rows.runsRow.laid w) (fun _ _ _ hh h => h.of_heap hh) own started (by kernel_rfl) Tryz.func5
    (ChangeSpec.witness_shaped (enc := enc) (C := Tryz.checked) (os := os) (X := fun w _ => laidMetH Tryz.prog Rows.runsRow.laid w) false (World.doorLaid Tryz.prog 400 os) #[.string ⟨#[]⟩, .slice none 0 0] 8 rfl (World.shaped_of_RefB (by kernel_rfl) (by kernel_rfl)) (by kernel_rfl) (by kernel_rfl) (by kernel_rfl) (door_met os _)) ?_
  intro W base args ds gs before hval0 hW _ hsz hL _
  have hval : ∀ (j : Nat) t v, Tryz.f5.params[j]? = some t → args[j]? = some v → Value.okWide Tryz.prog W .any base t v := hval0
  have hW' := hW
  obtain ⟨p, q, hA0, hV, rfl, hfz, hnd⟩ := hW
  have hA : DataW.TrodAll enc Tryz.prog W 0 (fun _ => true) true Tryz.f5.params.toList args.toList ds p := hA0
  rw [Tryz.params5] at hA hval
  obtain ⟨v0, v1, d0, d1, p0, p1, rfl, rfl, rfl, h0, h1⟩ := trodAll_two hA
  obtain ⟨rfl, rfl⟩ := trodVars_none hV
  obtain ⟨s, rfl, rfl, rfl, hm⟩ := open_string Tryz.underlying9 (hval 0 9 v0 rfl rfl) h0
  obtain ⟨aM, cM, ms, rfl, hM, hshut⟩ := open_mem (hval 1 32 v1 rfl rfl) h1 (fun elems spare e => by
    have := sized_slice (j := 1) (t := 32) (e := 3) (elems := elems) (spare := spare) hsz (by rw [Tryz.params5]; rfl) (by rw [e]; rfl) Tryz.underlying32
    have this' : (elems.length + spare.length) * Tryz.prog.bytesOf 3 ≤ reachBytes := this
    rw [bytesI] at this'
    exact this')
  obtain ⟨hv, hw⟩ := vars_of_laid hL
  clear hA0 hval0
  simp only [List.append_nil, List.nil_append] at hW'
  refine (runs_c s W hm hv hw hM).mono fun e W' ⟨he, hb⟩ => ?_
  subst he
  refine ⟨_, rfl, _, _, _, [], [] ++ p1, [], hW', ?_, ?_, ?_, hb.frame _, fun h => by cases h⟩
  · exact trodAll_mk1 (shut_bool Tryz.underlying4 true)
  · exact trodAll_mk2 (shut_string Tryz.underlying9 hm) (hshut W' hb)
  · rfl
theorem runs_holds : Rows.RunsSaid :=
  OpenClaim.holds_of_wide 5 Tryz.f5 rfl rfl rfl rfl rfl rfl rfl ⟨rfl, rfl, rfl, rfl, rfl⟩ rfl rfl rfl rfl rfl (by kernel_rfl) Tryz.func5 (by kernel_rfl)
    (of_decide_eq_true (by kernel_rfl)) (by unfold Func.isWrapper; first | (rw [if_pos (by decide +kernel)]; kernel_rfl) | (rw [if_neg (by decide +kernel)]; exact ⟨rfl, rfl⟩))
    (fun os started H enc _ => runs_lifted os started H enc)
theorem runs_card : Rows.RunsCardSaid :=
  Claim7.holds_tied_plain_at .later [] [.data, .data, .data, .sentinel, .sentinel] true Rows.runsCard.stood.harness true
    runs_holds (fun _ h => by cases h) (by kernel_rfl) (fun _ h => by cases h) runs_row_tie rfl ⟨rfl, rfl⟩ (by kernel_rfl) rfl
    (fun f fn hf hfn => by
      obtain rfl : f = 5 := Option.some.inj ((show Tryz.prog.funcNamed "mute/mutelaw.Runs" = some 5 by kernel_rfl).symm.trans hf) |>.symm
      obtain rfl : fn = Tryz.f5 := (Option.some.inj (Tryz.func5.symm.trans hfn)).symm
      exact ⟨by kernel_rfl, fun j t ht => by
        rw [Tryz.params5] at ht
        have hm : t ∈ [9, 32] := by simpa using Array.mem_of_getElem? ht
        have hall : ([9, 32].all fun u => !Tryz.prog.wantsStandIn u) = true := by kernel_rfl
        exact (show Tryz.prog.wantsStandIn t = false by simpa using List.all_eq_true.1 hall t hm)⟩)
    (by kernel_rfl)
#print axioms runs_card
end Go.Proofs.YtejbgcloblpbfaaGreatDoor
