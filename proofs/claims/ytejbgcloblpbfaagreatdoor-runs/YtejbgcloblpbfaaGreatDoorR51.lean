import Derived.Test.YtejbgcloblpbfaaGreatDoorR50
namespace Go.Proofs.YtejbgcloblpbfaaGreatDoor
open Go.RowKit
theorem runs_c (s : ByteArray) (w : World) (hm : s.size ≤ maxLen) (hv : K.Vars w) (hw : 5 ≤ w.heap.size) {aM : Option Addr} {cM : Nat} {ms : List Int} (hM : MAt w w.heap.size aM cM ms) :
    Calls Tryz.prog 5 #[.string s, .slice aM ms.length cM] w fun x w' => x = .returned (.bool true) ∧ Below w.heap.size w w' := by
  have h3 : ∀ (w' : World) (g : Nat), Below w.heap.size w w' → At w' g 3 [.int .i64 41] → Calls Tryz.prog 21 #[.string fortyS, .slice (some ⟨g, 0, none⟩) 1 1] w' fun x w'' => (∃ h, x = .returned (.tuple #[.slice (some ⟨h, 0, none⟩) 1 1, .int .i64 0]) ∧ At w'' h 3 [.int .i64 42]) ∧ Below w'.heap.size w' w'' :=
    fun w' g hb hg => forty_c w' (hv.below hb hw) (Nat.le_trans hw hb.size) g hg
  have hr := fun (w' : World) (ra : Option Addr) (rc : Nat) (hb : Below w.heap.size w w') hra => run_c s w' hm (hv.below hb hw) (Nat.le_trans hw hb.size) ra rc ms hra
  have hsz := size_alloc w (.cells #[.slice none 0 0] 45 (0, 0))
  have bk := At.alloc_new w [.slice none 0 0] 45
  by_cases hs : 800 < s.size
  · have e := read_long_err hs
    refine runs_bad (E := 1) (by decide) rfl hM ((read_long s _ hs hm).mono fun x w' h => ?_) (fun w' ra rc hb hra => (hr w' ra rc hb hra).mono fun x w'' h => ⟨?_, h.2⟩) h3
    · obtain ⟨b, hx, ho, hbs, hc⟩ := h
      have hB : BookAt w' w.heap.size := ⟨_, _, (ho.below.block _ bk.lt).trans bk⟩
      refine ⟨b, hx, by rw [← hsz]; exact ho.below, hc.lt, ?_, hc.cell 2⟩
      rintro rfl
      obtain ⟨c, f, hcc⟩ := hB
      have := hc
      unfold At at this
      rw [this] at hcc
      cases hcc
    · rcases h.1 with ⟨_, h1⟩ | ⟨h1, _⟩ | ⟨h1, _⟩
      · rw [e] at h1; exact h1
      · rw [e] at h1; exact absurd h1 (by decide)
      · rw [e] at h1; exact absurd h1 (by decide)
  · have e : R.read s = R.readT (R.toks s) := by unfold R.read; rw [if_neg hs]
    have hrd : Calls Tryz.prog 15 #[.string s] (w.alloc (.cells #[.slice none 0 0] 45 (0, 0))) fun x w1 => ∃ b r, x = .returned (P b) ∧ Below (w.heap.size + 1) (w.alloc (.cells #[.slice none 0 0] 45 (0, 0))) w1 ∧ Rep w1 b (R.toks s) (R.read s) r ∧ BookAt w1 w.heap.size ∧ ¬ b = w.heap.size := by
      refine (read_c s _ (by omega)).mono fun x w1 ⟨b, r, hx, h⟩ => ?_
      rw [← e] at h
      have hB : BookAt w1 w.heap.size := ⟨_, _, (h.own.below.block _ bk.lt).trans bk⟩
      refine ⟨b, r, hx, by rw [← hsz]; exact h.own.below, h.rep, hB, ?_⟩
      rintro rfl
      obtain ⟨c, f, hcc⟩ := hB
      have := h.rep.cells
      unfold At at this
      rw [this] at hcc
      cases hcc
    by_cases he : (R.read s).err = 0
    · obtain ⟨_, _, _, _, p5, p6, _⟩ := Q.shape_ok (by omega) he
      by_cases hne : ms.length = (R.read s).shape.length
      · refine runs_good (res := (V.rds (K.progD (R.toks s)) (ms ++ [0, 0])).take ms.length) (by rw [List.length_take, V.rds_len]; simp) (by omega) rfl hM (hrd.mono fun x w1 ⟨b, r, hx, hb, hR, hB, hn⟩ => ?_) (fun w' ra rc hb hra => (hr w' ra rc hb hra).mono fun x w'' h => ⟨?_, h.2⟩) h3
        · refine ⟨b, hx, hb, hR.cells.lt, hn, by rw [hR.c1 2 _ rfl, he], by rw [hR.c1 6 _ rfl, p6, hne], fun w2 hb2 hM2 => ?_⟩
          refine ref_go (by omega) he (hR.but hB hb2) hne (fun h => (hM2.nil h).2) (fun j u hu => ?_)
          cases hA : aM with
          | none => rw [(hM2.nil hA).1] at hu; simp at hu
          | some a =>
            obtain ⟨gm, om, rfl, hl⟩ := hM2.form a hA
            exact ⟨gm, om, rfl, by have := hb2.size; have := hb.size; rw [hsz] at this; omega, hM2.cell j u gm om hu hA⟩
        · rcases h.1 with ⟨h1, _⟩ | ⟨_, h1, _⟩ | ⟨_, _, g, h1, h2, h3⟩
          · exact absurd he h1
          · exact absurd hne h1
          · exact ⟨g, h1, h2, h3⟩
      · refine runs_arg (SZ := ((R.read s).shape.length : Int)) (by omega) rfl hM (hrd.mono fun x w1 ⟨b, r, hx, hb, hR, hB, hn⟩ => ?_) (fun w' ra rc hb hra => (hr w' ra rc hb hra).mono fun x w'' h => ⟨?_, h.2⟩) h3
        · exact ⟨b, hx, hb, hR.cells.lt, hn, by rw [hR.c1 2 _ rfl, he], by rw [hR.c1 6 _ rfl, p6]⟩
        · rcases h.1 with ⟨h1, _⟩ | ⟨_, _, h1⟩ | ⟨_, h1, _⟩
          · exact absurd he h1
          · exact h1
          · exact absurd h1 hne
    · refine runs_bad he rfl hM (hrd.mono fun x w1 ⟨b, r, hx, hb, hR, hB, hn⟩ => ⟨b, hx, hb, hR.cells.lt, hn, hR.c1 2 _ rfl⟩) (fun w' ra rc hb hra => (hr w' ra rc hb hra).mono fun x w'' h => ⟨?_, h.2⟩) h3
      rcases h.1 with ⟨_, h1⟩ | ⟨h1, _⟩ | ⟨h1, _⟩
      · exact h1
      · exact absurd h1 he
      · exact absurd h1 he
end Go.Proofs.YtejbgcloblpbfaaGreatDoor
