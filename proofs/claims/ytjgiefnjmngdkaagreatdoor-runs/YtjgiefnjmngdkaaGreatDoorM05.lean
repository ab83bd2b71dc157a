import Derived.Test.YtjgiefnjmngdkaaGreatDoorM04
namespace Go.Proofs.YtjgiefnjmngdkaaGreatDoor
open Go.RowKit
open R (Tok Thing Nd PS)

set_option maxHeartbeats 1000000 in
theorem known_c {w : World} {b : Nat} {T : List Tok} {σ : PS} {r : RV} (h : Rep w b T σ r) (hT : R.Small T) (hn : σ.seen.length ≤ 1000) (ar se : Bool) :
    Calls Tryz.prog 77 #[P b, .bool ar, .bool se] w fun x w' => x = .returned (.agg (thingCells (R.knownT T ar se σ)).toArray) ∧ Rep w' b T (R.known T ar se σ) r ∧ Moves b w w' := by
  have c2 := h.c1 2 _ rfl
  unfold R.known R.knownT
  by_cases hE : σ.err = 0
  · have hE' : (σ.err == 0) = true := beq_yes hE
    rw [if_pos hE]
    simp only [hE, true_and]
    clear hE
    have ht := take_c (h.alloc (.cells #[.string ⟨#[]⟩, .int .i64 0, .bool false, .int .i64 0, .int .i64 0] 111))
    have bx := h.box [.string ⟨#[]⟩, .int .i64 0, .bool false, .int .i64 0, .int .i64 0] 111
    have nb := h.cells.lt
    have hsz := hT σ.i
    have hse := R.take_seen T σ
    generalize R.tk T σ.i = t at *
    obtain ⟨ts, tp⟩ := t
    dsimp only at *
    have isn := fun w => isName_c ts w (by unfold maxLen; omega)
    generalize R.take T σ = σ1 at *
    rw [← hse] at hn ⊢
    clear hse
    by_cases hN : R.isName ts = true
    · rw [if_pos hN]
      simp only [hN, true_and]
      rw [hN] at isn
      have fi := fun (w : World) (hr : Rep w b T σ1 r) => find_c hr hn ts
      have k1 := R.find_lt ts.toList σ1.seen
      have k2 := R.find_ge ts.toList σ1.seen
      unfold R.wrong
      generalize R.find ts.toList σ1.seen = k at *
      by_cases hk : k < 0
      · simp only [hk, decide_true, Bool.true_or, if_true, if_false, Bool.true_eq_false]
        go_enter Tryz.func77, Tryz.ntmps77
        go_wp2_with (go_at_call 59; refine ht.mono ?_; rintro x w1 ⟨rfl, hr, hm⟩)
        refine (isn _).mono ?_
        rintro x w2 ⟨rfl, o, rfl⟩
        go_wp2_with fail
        refine (fi _ ((hr.alloc _).alloc _)).mono ?_
        rintro x w3 ⟨rfl, rfl⟩
        go_wp2_with fail
        refine (fail_c ((hr.alloc _).alloc _) 3 tp).mono ?_
        rintro x w4 ⟨rfl, hr2, hm2⟩
        have B := (((bx.moves hm).alloc _).alloc _).moves hm2
        have d0 := B.c 0 _ rfl
        have d1 := B.c 1 _ rfl
        have d2 := B.c 2 _ rfl
        have d3 := B.c 3 _ rfl
        have d4 := B.c 4 _ rfl
        have f0 := B.f 0
        have f1 := B.f 1
        have f2 := B.f 2
        have f3 := B.f 3
        have f4 := B.f 4
        go_wp2_with fail
        have fin := rput5 hr2 B ((((((Moves.refl b w).alloc _).trans hm).alloc _).alloc _).trans hm2) (Nat.le_refl _) (.string ⟨#[]⟩) (.int .i64 0) (.bool false) (.int .i64 0) (.int .i64 0)
        exact bodyPost_ret (v := .agg (thingCells R.noThing).toArray) (by simp [results, Tryz.results77, go_sem, thingCells, R.noThing, d0, d1, d2, d3, d4]) rfl ⟨rfl, fin.1, fin.2⟩
      · obtain ⟨n, rfl⟩ := Int.eq_ofNat_of_zero_le (by omega : 0 ≤ k)
        have hnl : n < σ1.seen.length := by omega
        have hth : R.thingAt σ1.seen (n : Int) = σ1.seen[n] := by simp [R.thingAt, hnl]
        rw [hth]
        have hk' : decide ((n : Int) < 0) = false := by simp
        simp only [hk', Bool.false_or]
        generalize hq : σ1.seen[n] = q at *
        clear hth hk'
        by_cases hw : ((q.kind == 2) != ar || (se && q.kind == 3)) = true
        · rw [if_pos hw, if_neg (by rw [hw]; simp)]
          cases ar <;> cases se <;> cases e2 : (q.kind == 2) <;> cases e3 : (q.kind == 3) <;> rw [e2, e3] at hw <;> first | (exact absurd hw (by decide)) | (exact absurd ((eq_of_beq e2).symm.trans (eq_of_beq e3)) (by decide)) | skip
          all_goals
            have HQ := hide hq
            clear hq hw
            go_enter Tryz.func77, Tryz.ntmps77
            go_wp2_with (go_at_call 59; refine ht.mono ?_; rintro x w1 ⟨rfl, hr, hm⟩)
            refine (isn _).mono ?_
            rintro x w2 ⟨rfl, o, rfl⟩
            go_wp2_with fail
            refine (fi _ ((hr.alloc _).alloc _)).mono ?_
            rintro x w3 ⟨rfl, rfl⟩
            rcases hr.things with ⟨_, h0⟩ | ⟨g, cap, hS, hg, hc⟩
            · omega
            have e1 := hc n hnl 1 (by omega)
            rw [HQ.out] at e1
            have e1' : w1.cell? ⟨g, n * 5 + 1, none⟩ = some (.int .i64 q.kind) := e1
            have c4 := hr.c1 4 _ rfl
            rw [hS] at c4
            clear e1
            have nb1 := hr.cells.lt
            clear hc
            go_wp2_with fail
            refine (fail_c ((hr.alloc _).alloc _) 3 tp).mono ?_
            rintro x w4 ⟨rfl, hr2, hm2⟩
            have B := (((bx.moves hm).alloc _).alloc _).moves hm2
            have d0 := B.c 0 _ rfl
            have d1 := B.c 1 _ rfl
            have d2 := B.c 2 _ rfl
            have d3 := B.c 3 _ rfl
            have d4 := B.c 4 _ rfl
            have f0 := B.f 0
            have f1 := B.f 1
            have f2 := B.f 2
            have f3 := B.f 3
            have f4 := B.f 4
            go_wp2_with fail
            have fin := rput5 hr2 B ((((((Moves.refl b w).alloc _).trans hm).alloc _).alloc _).trans hm2) (Nat.le_refl _) (.string ⟨#[]⟩) (.int .i64 0) (.bool false) (.int .i64 0) (.int .i64 0)
            exact bodyPost_ret (v := .agg (thingCells R.noThing).toArray) (by simp [results, Tryz.results77, go_sem, thingCells, R.noThing, d0, d1, d2, d3, d4]) rfl ⟨rfl, fin.1, fin.2⟩
        · rw [if_neg hw, if_pos (by simpa using hw)]
          cases ar <;> cases se <;> cases e2 : (q.kind == 2) <;> cases e3 : (q.kind == 3) <;> rw [e2, e3] at hw <;> first | (exact absurd rfl hw) | (exact absurd ((eq_of_beq e2).symm.trans (eq_of_beq e3)) (by decide)) | skip
          all_goals
            have HQ := hide hq
            clear hq hw
            go_enter Tryz.func77, Tryz.ntmps77
            go_wp2_with (go_at_call 59; refine ht.mono ?_; rintro x w1 ⟨rfl, hr, hm⟩)
            refine (isn _).mono ?_
            rintro x w2 ⟨rfl, o, rfl⟩
            go_wp2_with fail
            refine (fi _ ((hr.alloc _).alloc _)).mono ?_
            rintro x w3 ⟨rfl, rfl⟩
            rcases hr.things with ⟨_, h0⟩ | ⟨g, cap, hS, hg, hc⟩
            · omega
            have e1 := hc n hnl 1 (by omega)
            rw [HQ.out] at e1
            have e1' : w1.cell? ⟨g, n * 5 + 1, none⟩ = some (.int .i64 q.kind) := e1
            have c4 := hr.c1 4 _ rfl
            rw [hS] at c4
            clear e1
            have nb1 := hr.cells.lt
            have g0 := hc n hnl 0 (by omega)
            have g2 := hc n hnl 2 (by omega)
            have g3 := hc n hnl 3 (by omega)
            have g4 := hc n hnl 4 (by omega)
            rw [HQ.out] at g0 g2 g3 g4
            have g0' : w1.cell? ⟨g, n * 5, none⟩ = some (.string q.name) := g0
            have g2' : w1.cell? ⟨g, n * 5 + 2, none⟩ = some (.bool q.sec) := g2
            have g3' : w1.cell? ⟨g, n * 5 + 3, none⟩ = some (.int .i64 q.pos) := g3
            have g4' : w1.cell? ⟨g, n * 5 + 4, none⟩ = some (.int .i64 q.size) := g4
            clear g0 g2 g3 g4 hc
            have B := bx.moves hm
            have d0 := B.c 0 _ rfl
            have d1 := B.c 1 _ rfl
            have d2 := B.c 2 _ rfl
            have d3 := B.c 3 _ rfl
            have d4 := B.c 4 _ rfl
            have f0 := B.f 0
            have f1 := B.f 1
            have f2 := B.f 2
            have f3 := B.f 3
            have f4 := B.f 4
            have nk := B.here.lt
            go_wp2_with fail
            have fin := rput5 hr B (((Moves.refl b w).alloc _).trans hm) (Nat.le_refl _) (.string q.name) (.int .i64 q.kind) (.bool q.sec) (.int .i64 q.pos) (.int .i64 q.size)
            exact bodyPost_ret (v := .agg (thingCells q).toArray) (by simp [results, Tryz.results77, go_sem, thingCells, d0, d1, d2, d3, d4, nk]) rfl ⟨rfl, (fin.1.alloc _).alloc _, (fin.2.alloc _).alloc _⟩
    · rw [if_neg hN, if_neg (by simp [hN])]
      rw [Bool.not_eq_true] at hN
      rw [hN] at isn
      go_enter Tryz.func77, Tryz.ntmps77
      go_wp2_with (go_at_call 59; refine ht.mono ?_; rintro x w1 ⟨rfl, hr, hm⟩)
      refine (isn _).mono ?_
      rintro x w2 ⟨rfl, o, rfl⟩
      go_wp2_with fail
      refine (fail_c ((hr.alloc _).alloc _) 2 tp).mono ?_
      rintro x w4 ⟨rfl, hr2, hm2⟩
      have B := (((bx.moves hm).alloc _).alloc _).moves hm2
      have d0 := B.c 0 _ rfl
      have d1 := B.c 1 _ rfl
      have d2 := B.c 2 _ rfl
      have d3 := B.c 3 _ rfl
      have d4 := B.c 4 _ rfl
      have f0 := B.f 0
      have f1 := B.f 1
      have f2 := B.f 2
      have f3 := B.f 3
      have f4 := B.f 4
      go_wp2_with fail
      have fin := rput5 hr2 B ((((((Moves.refl b w).alloc _).trans hm).alloc _).alloc _).trans hm2) (Nat.le_refl _) (.string ⟨#[]⟩) (.int .i64 0) (.bool false) (.int .i64 0) (.int .i64 0)
      exact bodyPost_ret (v := .agg (thingCells R.noThing).toArray) (by simp [results, Tryz.results77, go_sem, thingCells, R.noThing, d0, d1, d2, d3, d4]) rfl ⟨rfl, fin.1, fin.2⟩
  · have hE' := beq_no hE
    rw [if_neg hE, if_neg (by simp [hE])]
    have nb := h.cells.lt
    clear hE
    go_enter Tryz.func77, Tryz.ntmps77
    go_wp2_with fail
    exact bodyPost_ret (v := .agg (thingCells R.noThing).toArray) (by simp [results, Tryz.results77, go_sem, thingCells, R.noThing]) rfl ⟨rfl, h.alloc _, (Moves.refl b w).alloc _⟩
end Go.Proofs.YtjgiefnjmngdkaaGreatDoor
