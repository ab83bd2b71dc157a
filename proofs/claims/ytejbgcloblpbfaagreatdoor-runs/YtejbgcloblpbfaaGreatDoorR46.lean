import Derived.Test.YtejbgcloblpbfaaGreatDoorR43
import Derived.Test.YtejbgcloblpbfaaGreatDoorR40
import Derived.Test.YtejbgcloblpbfaaGreatDoorR33
import Derived.Test.YtejbgcloblpbfaaGreatDoorR45
namespace Go.Proofs.YtejbgcloblpbfaaGreatDoor
open Go.RowKit
open K (Nm)
set_option maxHeartbeats 400000 in
theorem shape_err {s : ByteArray} {w : World} {E Q : Int} (hE : ¬ E = 0) (hr : Calls Tryz.prog 40 #[.string s] w fun x w' => x = .returned (.tuple #[zeroP, .int .i64 E, .int .i64 Q]) ∧ Below w.heap.size w w') :
    Calls Tryz.prog 17 #[.string s] w fun x w' => x = .returned (.tuple #[.slice none 0 0, .int .i64 E]) ∧ Below w.heap.size w w' := by
  unfold zeroP at hr
  go_enter Tryz.func17, Tryz.ntmps17
  go_wp2_with fail
  refine hr.mono ?_
  rintro x w1 ⟨rfl, hb⟩
  go_wp2_with fail
  go_ret2
  exact ⟨rfl, hb.alloc hb.size _⟩
theorem read_long_err {s : ByteArray} (h : 800 < s.size) : (R.read s).err = 1 := by unfold R.read; rw [if_pos h]; rfl
theorem shape_c (s : ByteArray) (w : World) (hm : s.size ≤ maxLen) (hv : K.Vars w) (hw : 5 ≤ w.heap.size) :
    Calls Tryz.prog 17 #[.string s] w fun x w' => ((¬ (R.read s).err = 0 ∧ x = .returned (.tuple #[.slice none 0 0, .int .i64 (R.read s).err])) ∨
      ((R.read s).err = 0 ∧ ∃ g, x = .returned (.tuple #[.slice (some ⟨g, 0, none⟩) (R.read s).shape.length (R.read s).shape.length, .int .i64 0]) ∧ w.heap.size ≤ g ∧ At w' g 4 (bools (R.read s).shape))) ∧ Below w.heap.size w w' := by
  by_cases hl : 800 < s.size
  · have e := read_long_err hl
    refine (shape_err (E := 1) (Q := 0) (by decide) (mread_long s w hl hm)).mono fun x w' h => ⟨Or.inl ⟨by rw [e]; decide, by rw [e]; exact h.1⟩, h.2⟩
  · have hr := mread_c (fun l h => gds_of l (gdl_c l h)) s w (by omega) hv hw
    by_cases he : (R.read s).err = 0
    · obtain ⟨p1, p2, p3, p4, p5, p6, p7, p8⟩ := Q.shape_ok (by omega) he
      have hg := shape_go (s := s) (w := w) (ns := (K.progS (R.toks s)).names) (L := (R.read s).shape.length) p7 (by omega) (by rw [p3]) p5 (hr.mono fun x w' h => ?_)
      · refine hg.mono fun x w' h => ⟨Or.inr ⟨he, ?_⟩, h.2⟩
        rw [p3] at h ⊢
        exact h.1
      · obtain ⟨hx, hb⟩ := h
        refine ⟨?_, hb⟩
        rcases hx with ⟨h1, _⟩ | ⟨_, h1, _⟩ | ⟨_, _, nv, dv, us, rfl, nr, dr, _⟩
        · exact absurd p1 h1
        · rw [p2] at h1; cases h1
        · obtain ⟨da, dn, dc, rfl⟩ := dr.form
          exact ⟨nv, da, dn, dc, by rw [p4], nr⟩
    · have hk := Q.check_read (R.toks_ended s)
      have hc : K.check s = K.checkT (R.toks s) := by unfold K.check; rw [if_neg hl]
      rw [hc] at hk
      unfold K.checkT at hk
      have hk1 := congrArg Prod.fst hk
      dsimp only at hk1
      generalize (R.read s).err = E at *
      refine (shape_err (E := E) (Q := (K.checkT (R.toks s)).2) he (hr.mono fun x w' h => ⟨?_, h.2⟩)).mono fun x w' h => ⟨Or.inl ⟨he, h.1⟩, h.2⟩
      unfold K.checkT
      rcases h.1 with ⟨h1, h2⟩ | ⟨h1, h2, h3⟩ | ⟨h1, h2, _⟩
      · rw [if_neg h1] at hk1 ⊢
        rw [h2]
        rw [← hk1]
      · rw [if_pos h1, if_pos h2] at hk1 ⊢
        rw [h3]
        rw [← hk1]
      · rw [if_pos h1, if_neg (by rw [h2]; decide)] at hk1
        exact absurd hk1.symm he
end Go.Proofs.YtejbgcloblpbfaaGreatDoor
namespace Go.Proofs.YtejbgcloblpbfaaGreatDoor
open Go.RowKit
theorem read_shape (s : ByteArray) (w : World) (hm : s.size ≤ maxLen) :
    Calls Tryz.prog 15 #[.string s] w fun x w' => ∃ b, x = .returned (P b) ∧ Below w.heap.size w w' ∧ b < w'.heap.size ∧ w'.cell? ⟨b, 2, none⟩ = some (.int .i64 (R.read s).err) ∧
      ((R.read s).err = 0 → ∃ H, w'.cell? ⟨b, 9, none⟩ = some H ∧ w'.ownsRow 0 4 1 H (R.read s).shape.length (bools (R.read s).shape)) := by
  by_cases hs : 800 < s.size
  · have e : R.read s = R.fail 1 0 R.start := by unfold R.read; rw [if_pos hs]
    rw [e]
    exact (read_long s w hs hm).mono fun x w' ⟨b, hx, ho, _, hc⟩ => ⟨b, hx, ho.below, hc.lt, hc.cell 2, fun h => absurd h (by decide)⟩
  · have e : R.read s = R.readT (R.toks s) := by unfold R.read; rw [if_neg hs]
    rw [e]
    exact (read_c s w (by omega)).mono fun x w' ⟨b, r, hx, h⟩ => ⟨b, hx, h.own.below, h.rep.cells.lt, h.rep.c1 2 _ rfl, fun _ => ⟨r.H, h.rep.c1 9 _ rfl, h.rep.shape⟩⟩
abbrev threeS : ByteArray := { data := #[40, 112, 117, 98, 108, 105, 99, 32, 97, 41, 40, 115, 101, 99, 114, 101, 116, 32, 98, 41] }
theorem three_err : (R.read threeS).err = 0 := by decide +kernel
theorem three_shape : (R.read threeS).shape = [false, true] := by decide +kernel
theorem three_c (w : World) (hv : K.Vars w) (hw : 5 ≤ w.heap.size) :
    Calls Tryz.prog 17 #[.string threeS] w fun x w' => (∃ g, x = .returned (.tuple #[.slice (some ⟨g, 0, none⟩) 2 2, .int .i64 0]) ∧ At w' g 4 [.bool false, .bool true]) ∧ Below w.heap.size w w' := by
  refine (shape_c threeS w (by decide) hv hw).mono fun x w' h => ⟨?_, h.2⟩
  rcases h.1 with ⟨h1, _⟩ | ⟨_, g, h1, _, h2⟩
  · exact absurd three_err h1
  · rw [three_shape] at h1 h2
    exact ⟨g, h1, h2⟩
theorem shapes_c (s : ByteArray) (w : World) (hm : s.size ≤ maxLen) (hv : K.Vars w) (hw : 5 ≤ w.heap.size) :
    Calls Tryz.prog 4 #[.string s] w fun x w' => x = .returned (.bool true) ∧ Below w.heap.size w w' := by
  have h1 := read_shape s w hm
  have h2 := fun (w' : World) (hb : Below w.heap.size w w') => shape_c s w' hm (hv.below hb hw) (Nat.le_trans hw hb.size)
  have h3 := fun (w' : World) (hb : Below w.heap.size w w') => three_c w' (hv.below hb hw) (Nat.le_trans hw hb.size)
  by_cases he : (R.read s).err = 0
  · have hs : s.size ≤ 800 := by
      refine Nat.le_of_not_lt fun hl => ?_
      rw [read_long_err hl] at he
      exact absurd he (by decide)
    obtain ⟨_, _, _, _, p5, _⟩ := Q.shape_ok hs he
    refine shapes_good p5 rfl (h1.mono fun x w' ⟨b, hx, hb, hl, c2, hH⟩ => ?_) (fun w' hb => (h2 w' hb).mono fun x w'' h => ⟨?_, h.2⟩) h3
    · obtain ⟨H, c9, rH⟩ := hH he
      exact ⟨b, H, hx, hb, hl, by rw [c2, he], c9, rH⟩
    · rcases h.1 with ⟨e, _⟩ | ⟨_, g, e1, e2, e3⟩
      · exact absurd he e
      · exact ⟨g, e1, e2, e3⟩
  · refine shapes_bad he rfl (h1.mono fun x w' ⟨b, hx, hb, hl, c2, _⟩ => ⟨b, hx, hb, hl, c2⟩) (fun w' hb => (h2 w' hb).mono fun x w'' h => ⟨?_, h.2⟩) h3
    rcases h.1 with ⟨_, e⟩ | ⟨e, _⟩
    · exact e
    · exact absurd e he
end Go.Proofs.YtejbgcloblpbfaaGreatDoor
