import Derived.Test.YtejbgcloblpbfaaGreatDoorB55
import Derived.Test.YtejbgcloblpbfaaGreatDoorB54
import Derived.Test.YtejbgcloblpbfaaGreatDoorB56
namespace Go.Proofs.YtejbgcloblpbfaaGreatDoor
open Go.RowKit
open R (Tok Thing Nd PS)
set_option maxRecDepth 100000 in
set_option maxHeartbeats 1000000 in
theorem do_deep {T : List Tok} {f : Nat} (w : World) (b : Nat) (σ : PS) (r : RV) (h : Rep w b T σ r) (hb : BdD T (f + 1) σ) (hO : ¬ (R.opens T σ).err = 0) :
    Calls Tryz.prog 62 #[P b] w fun x w' => x = .returned (.int .i64 0) ∧ ∃ r', Rep w' b T (R.opens T σ) r' ∧ Moves b w w' := by
  have hoc := open_c h (by have := hb.n0; omega) (by have := hb.n1; omega)
  have hO' := beq_no hO
  clear hO
  generalize R.opens T σ = σ1 at *
  go_enter Tryz.func62, Tryz.ntmps62
  go_wp2_with fail
  refine hoc.mono ?_
  rintro x w2 ⟨rfl, hr2, hm2⟩
  have q2 := hr2.c1 2 _ rfl
  go_wp2_with fail
  go_ret
  exact ⟨rfl, r, hr2, hm2⟩
theorem do_c {T : List Tok} (hT : R.Small T) (hEnd : R.Ended T) (f : Nat) : DoDoes T f := by
  induction f with
  | zero => intro w b σ r _ _ _ hb; have := hb.fu; have := hb.n1; omega
  | succ f ih =>
    have hds := does_c hEnd f ih
    have hbl := block_c f hEnd hds
    intro w b σ r h _ _ hb
    show Calls _ _ _ _ fun x w' => x = .returned (.int .i64 (R.doB T (R.does T f) σ).2) ∧ ∃ r', Rep w' b T (R.doB T (R.does T f) σ).1 r' ∧ Moves b w w'
    unfold R.doB
    by_cases hO : (R.opens T σ).err = 0
    · rw [if_pos hO]
      by_cases h1 : (R.tk T (R.opens T σ).i).s.toList = R.kSet
      · exact do_set hT hEnd f w b σ r h hb hO h1
      · by_cases h2 : (R.tk T (R.opens T σ).i).s.toList = R.kPut
        · exact do_put hT hEnd f w b σ r h hb hO h2
        · by_cases h3 : (R.tk T (R.opens T σ).i).s.toList = R.kIf
          · exact do_if hT hEnd f hbl w b σ r h hb hO h3
          · by_cases h4 : (R.tk T (R.opens T σ).i).s.toList = R.kFor
            · exact do_for hT hEnd f hds w b σ r h hb hO h4
            · exact do_none hT hEnd f w b σ r h hb hO h1 h2 h3 h4
    · rw [if_neg hO]
      exact do_deep w b σ r h hb hO
theorem doesAll_c {T : List Tok} (hT : R.Small T) (hEnd : R.Ended T) (f : Nat) : DoesDoes T f := does_c hEnd f (do_c hT hEnd f)
end Go.Proofs.YtejbgcloblpbfaaGreatDoor
