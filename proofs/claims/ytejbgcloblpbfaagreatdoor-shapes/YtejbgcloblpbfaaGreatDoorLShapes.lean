import Derived.Test.YtejbgcloblpbfaaGreatDoorB44
import Derived.Test.YtejbgcloblpbfaaGreatDoorB12
import Derived.Test.YtejbgcloblpbfaaGreatDoorB60
import Derived.Test.YtejbgcloblpbfaaGreatDoorRows
import Derived.Test.YtejbgcloblpbfaaGreatDoorCards
import Derived.Test.YtejbgcloblpbfaaGreatDoorTie
import Derived.ProofKit
import Derived.LaidMore
import Derived.OpenShut
import Derived.Stop.Joined
import Derived.Stop.LaidErr
import Derived.SevenTiedAt
namespace Go.Proofs.YtejbgcloblpbfaaGreatDoor
open Go.RowKit
theorem read_shape (s : ByteArray) (w : World) (hm : s.size ≤ maxLen) :
    Calls Tryz.prog 15 #[.string s] w fun x w' => ∃ b, x = .returned (P b) ∧ Below w.heap.size w w' ∧ b < w'.heap.size ∧ w'.cell? ⟨b, 2, none⟩ = some (.int .i64 (R.read s).err) ∧
      ((R.read s).err = 0 → ∃ H, w'.cell? ⟨b, 9, none⟩ = some H ∧ w'.ownsRow 0 4 1 H (R.read s).shape.length (bools (R.read s).shape)) := by
  by_cases hs : 800 < s.size
  · have e : R.read s = R.fail 1 0 R.start := by unfold R.read; rw [if_pos hs]
    rw [e]
    exact (read_long s w hs hm).mono fun x w' ⟨b, hx, ho, _, hc⟩ => ⟨b, hx, ho.below, hc.lt, hc.cell 2, fun h => absurd h (by decide)⟩
  · have e : R.read s = R.readT (R.toks s) := by unfold R.read; rw [if_neg hs]
    rw [e]
    exact (read_c s w (by omega)).mono fun x w' ⟨b, r, hx, h⟩ => ⟨b, hx, h.own.below, h.rep.cells.lt, h.rep.c1 2 _ rfl, fun _ => ⟨r.H, h.rep.c1 9 _ rfl, h.rep.shape⟩⟩
abbrev threeS : ByteArray := { data := #[40, 112, 117, 98, 108, 105, 99, 32, 97, 41, 40, 115, 101, 99, 114, 101, 116, 32, 98, 41] }
theorem three_err : (R.read threeS).err = 0 := by decide +kernel
theorem three_shape : (R.read threeS).shape = [false, true] := by decide +kernel
theorem three_c (w : World) (hv : K.Vars w) (hw : 5 ≤ w.heap.size) :
    Calls Tryz.prog 17 #[.string threeS] w fun x w' => (∃ g, x = .returned (.tuple #[.slice (some ⟨g, 0, none⟩) 2 2, .int .i64 0]) ∧ At w' g 4 [.bool false, .bool true]) ∧ Below w.heap.size w w' := by
  refine (shape_c threeS w (by decide) hv hw).mono fun x w' h => ⟨?_, h.2⟩
  rcases h.1 with ⟨h1, _⟩ | ⟨_, g, h1, _, h2⟩
  · exact absurd three_err h1
  · rw [three_shape] at h1 h2
    exact ⟨g, h1, h2⟩
theorem shapes_c (s : ByteArray) (w : World) (hm : s.size ≤ maxLen) (hv : K.Vars w) (hw : 5 ≤ w.heap.size) :
    Calls Tryz.prog 4 #[.string s] w fun x w' => x = .returned (.bool true) ∧ Below w.heap.size w w' := by
  have h1 := read_shape s w hm
  have h2 := fun (w' : World) (hb : Below w.heap.size w w') => shape_c s w' hm (hv.below hb hw) (Nat.le_trans hw hb.size)
  have h3 := fun (w' : World) (hb : Below w.heap.size w w') => three_c w' (hv.below hb hw) (Nat.le_trans hw hb.size)
  by_cases he : (R.read s).err = 0
  · have hs : s.size ≤ 800 := by
      refine Nat.le_of_not_lt fun hl => ?_
      rw [read_long_err hl] at he
      exact absurd he (by decide)
    obtain ⟨_, _, _, _, p5, _⟩ := Q.shape_ok hs he
    refine shapes_good p5 rfl (h1.mono fun x w' ⟨b, hx, hb, hl, c2, hH⟩ => ?_) (fun w' hb => (h2 w' hb).mono fun x w'' h => ⟨?_, h.2⟩) h3
    · obtain ⟨H, c9, rH⟩ := hH he
      exact ⟨b, H, hx, hb, hl, by rw [c2, he], c9, rH⟩
    · rcases h.1 with ⟨e, _⟩ | ⟨_, g, e1, e2, e3⟩
      · exact absurd he e
      · exact ⟨g, e1, e2, e3⟩
  · refine shapes_bad he rfl (h1.mono fun x w' ⟨b, hx, hb, hl, c2, _⟩ => ⟨b, hx, hb, hl, c2⟩) (fun w' hb => (h2 w' hb).mono fun x w'' h => ⟨?_, h.2⟩) h3
    rcases h.1 with ⟨_, e⟩ | ⟨e, _⟩
    · exact e
    · exact absurd e he
end Go.Proofs.YtejbgcloblpbfaaGreatDoor
namespace Go.Proofs.YtejbgcloblpbfaaGreatDoor
open Go.ChangeShapes Go.WideShapes Go.ChangeAt Go.WideMaps Go.WideElems Go.RowKit
open Go.ChangeMaps (open_string shut_string)
theorem own : ownKnob Tryz.prog.godebug = none := by kernel_rfl
theorem gSyn : Tryz.prog.globalNamed "strconv.ErrSyntax" = some 3 := by kernel_rfl
theorem gRan : Tryz.prog.globalNamed "strconv.ErrRange" = some 4 := by kernel_rfl
theorem tSyn : (Tryz.prog.globals[3]?).map (·.type) = some 253 := by kernel_rfl
theorem tRan : (Tryz.prog.globals[4]?).map (·.type) = some 253 := by kernel_rfl
theorem star : "*" ++ "errors.errorString" = "*errors.errorString" := by decide
theorem rowErr (u : TypeId) (h : Tryz.prog.typeName? 3 u = some "*errors.errorString") : u = 276 :=
  typeName_ptr_named (nm := "errors.errorString") (by rw [star]; kernel_rfl) (by kernel_rfl) (by decide) u (by rw [star]; exact h)
theorem cellsE : Tryz.prog.cellsOf 278 = 1 := by kernel_rfl
theorem cellsS : Tryz.prog.cellsOf 9 = 1 := by kernel_rfl
theorem door_met (os : Os) (args : Array Value) : laidMetH Tryz.prog Rows.shapesRow.laid ((World.doorLaid Tryz.prog 400 os).forCall (fun _ _ => 0) ⟨#[], args, []⟩).memory :=
  laidMetH_of_parts3 (fuel := 8) (laidMet_of_run' 8 (by kernel_rfl) (by kernel_rfl)) (by kernel_rfl) (by kernel_rfl)
theorem vars_of_laid {W : World} (h : laidMetH Tryz.prog Rows.shapesRow.laid W) : K.Vars W ∧ 5 ≤ W.heap.size := by
  rw [MakeChecks.laidMetH_plain _ _ _ (by kernel_rfl)] at h
  have h3 := laidMet.tail (laidMet.tail (laidMet.tail h))
  obtain ⟨a1, s1, hv1, _⟩ := laid_sentinel h3 gRan tRan Tryz.underlying253 rowErr Tryz.underlying276 Tryz.underlying278 rfl rfl Tryz.underlying9 cellsE cellsS
  obtain ⟨a0, s0, hv0, _⟩ := laid_sentinel (laidMet.tail h3) gSyn tSyn Tryz.underlying253 rowErr Tryz.underlying276 Tryz.underlying278 rfl rfl Tryz.underlying9 cellsE cellsS
  have c1 : W.cell? ⟨4, 0, none⟩ = some (.iface 276 (.pointer (some a1))) := by simpa using World.var?_cell gRan hv1 0
  have c0 : W.cell? ⟨3, 0, none⟩ = some (.iface 276 (.pointer (some a0))) := by simpa using World.var?_cell gSyn hv0 0
  refine ⟨⟨⟨_, c0, Or.inr ⟨_, _, rfl⟩⟩, ⟨_, c1, Or.inr ⟨_, _, rfl⟩⟩⟩, ?_⟩
  refine Nat.lt_of_not_le fun hn => ?_
  have hx : W.heap[4]? = none := Array.getElem?_eq_none (by omega)
  simp [World.cell?, hx] at c1
set_option maxRecDepth 100000 in
theorem shapes_lifted (os : Os) (started : os.Started) (H : Type) (enc : TypeId × Value → H) :
    ReturnsInHanded {} Tryz.checked os 4 .any (fun w args => (Rows.shapesSpec.pre enc Tryz.prog Tryz.f4 [] false w args ∧ laidMetH Tryz.prog Rows.shapesRow.laid w) ∧ sizedMet enc Tryz.prog Tryz.f4 (OpenSpec.ofChange Rows.shapesSpec) false w args)
      (Rows.shapesSpec.post enc Tryz.prog Tryz.f4 false true false false) := by
  refine returnsInHanded_of_change_and (C := Tryz.checked) (X := fun w _ => laidMetH Tryz.prog Rows.shapesRow.laid w) (fun _ _ _ hh h => h.of_heap hh) own started (by kernel_rfl) Tryz.func4
    (ChangeSpec.witness_shaped (enc := enc) (C := Tryz.checked) (os := os) (X := fun w _ => laidMetH Tryz.prog Rows.shapesRow.laid w) false (World.doorLaid Tryz.prog 400 os) #[.string ⟨#[]⟩] 8 rfl (World.shaped_of_RefB (by kernel_rfl) (by kernel_rfl)) (by kernel_rfl) (by kernel_rfl) (by kernel_rfl) (door_met os _)) ?_
  intro W base args ds gs before hval0 hW _ _ hL _
  have hval : ∀ (j : Nat) t v, Tryz.f4.params[j]? = some t → args[j]? = some v → Value.okWide Tryz.prog W .any base t v := hval0
  have hW' := hW
  obtain ⟨p, q, hA0, hV, rfl, hfz, hnd⟩ := hW
  have hA : DataW.TrodAll enc Tryz.prog W 0 (fun _ => true) true Tryz.f4.params.toList args.toList ds p := hA0
  rw [Tryz.params4] at hA hval
  obtain ⟨v0, d0, rfl, rfl, h0⟩ := trodAll_one hA
  obtain ⟨rfl, rfl⟩ := trodVars_none hV
  obtain ⟨s, rfl, rfl, rfl, hm⟩ := open_string Tryz.underlying9 (hval 0 9 v0 rfl rfl) h0
  obtain ⟨hv, hw⟩ := vars_of_laid hL
  clear hA0 hval0
  simp only [List.append_nil] at hW'
  refine (shapes_c s W hm hv hw).mono fun e W' ⟨he, hb⟩ => ?_
  subst he
  refine ⟨_, rfl, _, _, _, [], [], [], hW', ?_, ?_, ?_, hb.frame _, fun h => by cases h⟩
  · exact trodAll_mk1 (shut_bool Tryz.underlying4 true)
  · exact trodAll_mk1 (shut_string Tryz.underlying9 hm)
  · rfl
theorem shapes_holds : Rows.ShapesSaid :=
  OpenClaim.holds_of_wide 4 Tryz.f4 rfl rfl rfl rfl rfl rfl rfl ⟨rfl, rfl, rfl, rfl, rfl⟩ rfl rfl rfl rfl rfl (by kernel_rfl) Tryz.func4 (by kernel_rfl)
    (of_decide_eq_true (by kernel_rfl)) (by unfold Func.isWrapper; first | (rw [if_pos (by decide +kernel)]; kernel_rfl) | (rw [if_neg (by decide +kernel)]; exact ⟨rfl, rfl⟩))
    (fun os started H enc _ => shapes_lifted os started H enc)
theorem shapes_card : Rows.ShapesCardSaid :=
  Claim7.holds_tied_plain_at .later [] [.data, .data, .data, .sentinel, .sentinel] true Rows.shapesCard.stood.harness true
    shapes_holds (fun _ h => by cases h) (by kernel_rfl) (fun _ h => by cases h) shapes_row_tie rfl ⟨rfl, rfl⟩ (by kernel_rfl) rfl
    (fun f fn hf hfn => by
      obtain rfl : f = 4 := Option.some.inj ((show Tryz.prog.funcNamed "mute/mutelaw.Shapes" = some 4 by kernel_rfl).symm.trans hf) |>.symm
      obtain rfl : fn = Tryz.f4 := (Option.some.inj (Tryz.func4.symm.trans hfn)).symm
      exact ⟨by kernel_rfl, fun j t ht => by
        rw [Tryz.params4] at ht
        have hm : t ∈ [9] := by simpa using Array.mem_of_getElem? ht
        have hall : ([9].all fun u => !Tryz.prog.wantsStandIn u) = true := by kernel_rfl
        exact (show Tryz.prog.wantsStandIn t = false by simpa using List.all_eq_true.1 hall t hm)⟩)
    (by kernel_rfl)
#print axioms shapes_card
end Go.Proofs.YtejbgcloblpbfaaGreatDoor
