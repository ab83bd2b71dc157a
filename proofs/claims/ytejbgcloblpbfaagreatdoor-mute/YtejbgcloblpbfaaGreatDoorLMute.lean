import Derived.Test.YtejbgcloblpbfaaGreatDoorM51
import Derived.Test.YtejbgcloblpbfaaGreatDoorRows
import Derived.Test.YtejbgcloblpbfaaGreatDoorCards
import Derived.Test.YtejbgcloblpbfaaGreatDoorTie
import Derived.ProofKit
import Derived.LaidMore
import Derived.OpenShut
import Derived.Stop.Joined
import Derived.Stop.LaidErr
import Derived.SevenTiedAt
import Derived.ChangeSlices
import Derived.SizedLaws
namespace Go.Proofs.YtejbgcloblpbfaaGreatDoor
open Go.RowKit
open K (Nm Ex Do)
namespace Y
theorem wd_get (one : List Int) {n j : Nat} (h : j < n) : (wdA one n)[j]? = some (one.getD j 0) := by
  unfold wdA
  rw [List.getElem?_map, List.getElem?_range h]; rfl
theorem wdb_get (sh : List Bool) (one two : List Int) {n j : Nat} (h : j < n) : (wdB sh one two n)[j]? = some (if sh.getD j false = true then two.getD j 0 else one.getD j 0) := by
  unfold wdB
  rw [List.getElem?_map, List.getElem?_range h]; rfl
theorem wd_pa (sh : List Bool) (one two : List Int) : PA (fun j => !(sh.getD j false)) (wdA one sh.length ++ [0, 0]) (wdB sh one two sh.length ++ [0, 0]) := by
  have la := wdA_len one sh.length
  have lb := wdB_len sh one two sh.length
  refine ⟨by rw [List.length_append, List.length_append, la, lb], fun j hj => ?_⟩
  have hs : ¬ sh.getD j false = true := by
    intro e
    have hj' : (!(sh.getD j false)) = true := hj
    rw [e] at hj'
    cases hj'
  rw [List.getD_eq_getElem?_getD, List.getD_eq_getElem?_getD]
  by_cases c : j < sh.length
  · rw [List.getElem?_append_left (by omega), List.getElem?_append_left (by omega), wd_get _ c, wdb_get _ _ _ c, if_neg hs]
  · rw [List.getElem?_append_right (by omega), List.getElem?_append_right (by omega), la, lb]
theorem seen_same {N : Nat} {sh : List Bool} {l : List Do} (hP : Pr N sh l) (one two : List Int) : seenOf N l (wdA one sh.length) = seenOf N l (wdB sh one two sh.length) := by
  unfold seenOf
  rw [(l_pub l (dep := 0) false hP.sc hP.pb hP.ok true true (fun _ => ⟨rfl, rfl⟩) _ _ (wd_pa sh one two) 0 ((List.range 256).drop (N + 2)) none).1]
set_option maxHeartbeats 1000000 in
theorem ksame_q {l : List Int} {w : World} {a b : Option Addr} {ca cb : Nat} (h54 : l.length ≤ 1000000) (ha : IntsAt w a l) (hb : IntsAt w b l) :
    Calls Tryz.prog 35 #[.slice a l.length ca, .slice b l.length cb] w fun x w' => x = .returned (.bool true) ∧ ∃ m, w' = w.drewN m := by
  have HA := hide ha
  have HB := hide hb
  clear ha hb
  go_enter Tryz.func35, Tryz.ntmps35
  go_wp2_with fail
  go_loopg [5] l.length (fun gk i wr => ∃ k : Nat, k + gk = l.length ∧ i = .int .i64 (k : Int) ∧ ∃ m, wr = w.drewN m)
  case atStart => exact ⟨0, by omega, rfl, 0, rfl⟩
  case round =>
    obtain ⟨k, hk, rfl, m, hs⟩ := hrel
    subst hs
    cases gk with
    | zero =>
      have hz : ¬ ((k : Int) < (l.length : Int)) := by omega
      go_wp2_with fail
      go_ret
      exact ⟨rfl, m, rfl⟩
    | succ g1 =>
      have hz : (k : Int) < (l.length : Int) := by omega
      obtain ⟨u, hu⟩ : ∃ u, l[k]? = some u := ⟨_, List.getElem?_eq_getElem (by omega)⟩
      obtain ⟨ga, oa, rfl, _, c1⟩ := HA.out k u hu
      obtain ⟨gb, ob, rfl, _, c2⟩ := HB.out k u hu
      have c1' : (w.drewN m).cell? ⟨ga, oa + k, none⟩ = some (.int .i64 u) := c1
      have c2' : (w.drewN m).cell? ⟨gb, ob + k, none⟩ = some (.int .i64 u) := c2
      generalize hWm : w.drewN m = Wm at *
      go_wp2_with (go_quiet (fail))
      go_roundg g1
      case measure => omega
      case rel => exact ⟨k + 1, by omega, by go_num, _, by rw [← hWm, World.drewN_drewN]⟩
theorem go_seen {C : List Ins} : ∀ {n : Nat} {s s' : Ma}, go C n s = some s' → s'.seen.length ≤ s.seen.length + 3 * n
  | 0, s, s', h => by rw [go_zero h]; omega
  | n + 1, s, s', h => by
    obtain ⟨i, s1, _, h2, h3⟩ := go_succ h
    have := step_seen h2
    have := go_seen h3
    omega
theorem seenOf_len {N : Nat} {sh : List Bool} {l : List Do} (hP : Pr N sh l) (ms : List Int) (hm : ms.length = N) : (seenOf N l ms).length ≤ 400000 := by
  obtain ⟨n, s', h1, h2, _, _, h5⟩ := pr_sim2 hP ms hm
  have := go_seen h1
  rw [← h5, List.length_append]
  simp at this ⊢
  omega
theorem MAt.seenI {w : World} {b lo : Nat} {R M : Nat → Int} {S : List Int} (h : MAt w b lo R M S) : ∃ sa sc, w.cell? ⟨b, 264, none⟩ = some (.slice sa S.length sc) ∧ IntsAt w sa S := by
  obtain ⟨sa, sc, c, _, _, o, _⟩ := h.ready
  exact ⟨sa, sc, c, IntsAt.of_own o⟩
set_option maxHeartbeats 1000000 in
theorem mute_err (s : ByteArray) (w : World) (hm : s.size ≤ maxLen) (hv : K.Vars w) (hw : 5 ≤ w.heap.size) (he : ¬ (R.read s).err = 0) (a1 : Option Addr) (n1 c1 : Nat) (a2 : Option Addr) (n2 c2 : Nat) :
    Calls Tryz.prog 8 #[.string s, .slice a1 n1 c1, .slice a2 n2 c2] w fun x w' => x = .returned (.bool true) ∧ Below w.heap.size w w' := by
  have hg := given_err s w hm hv hw he
  have hn1 : ∀ w : World, (binOp .eql 52 (.slice none 0 0) (.slice none 0 0)).run Tryz.prog w = .ok (.bool true) w := fun w => Lib.run_eql_slice_nil w _ _ none 0 0 0 0 Tryz.underlying52
  go_enter Tryz.func8, Tryz.ntmps8
  go_wp2_with fail
  refine hg.mono ?_
  rintro x w1 ⟨rfl, b1⟩
  go_wp2_with fail
  go_ret
  exact ⟨rfl, b1⟩
set_option maxRecDepth 100000 in
set_option maxHeartbeats 4000000 in
theorem mute_ok (s : ByteArray) (w : World) (hm : s.size ≤ maxLen) (hv : K.Vars w) (hw : 5 ≤ w.heap.size) (he : (R.read s).err = 0) (a1 : Option Addr) (c1 : Nat) (one : List Int) (h1 : IntsAt w a1 one) (a2 : Option Addr) (c2 : Nat) (two : List Int) (h2 : IntsAt w a2 two) :
    Calls Tryz.prog 8 #[.string s, .slice a1 one.length c1, .slice a2 two.length c2] w fun x w' => x = .returned (.bool true) ∧ Below w.heap.size w w' := by
  have hg := given_ok s w hm hv hw he
  by_cases h800 : s.size ≤ 800
  · have hP := prog_al h800 he
    have h48 := words48 h800 he
    have hlen := (prC_len hP).2
    have hpl := fun (w : World) (b base : Nat) (ca : Option Addr) (cc : Nat) (aM : Option Addr) (cM : Nat) (ms : List Int) (hm : ms.length = (R.read s).shape.length) (mach : At w b 73 (mcells (fun _ => 0) (fun _ => 0) (.slice none 0 0))) (code : w.ownsRow base 58 5 (.slice ca (prC (R.read s).shape.length (K.progD (R.toks s))).length cc) (prC (R.read s).shape.length (K.progD (R.toks s))).length ((prC (R.read s).shape.length (K.progD (R.toks s))).flatMap inV)) (mem : IntsAt w aM ms) (hb : ∀ o, ¬ aM = some ⟨b, o, none⟩) => run_play (cM := cM) hP hm mach code mem hb
    have hss := seen_same hP one two
    have hsl := seenOf_len hP (wdA one (R.read s).shape.length) (wdA_len _ _)
    generalize hCC : prC (R.read s).shape.length (K.progD (R.toks s)) = C at *
    generalize (R.read s).shape = sh at *
    generalize K.progD (R.toks s) = l at *
    have HPL := hide hpl
    have H1 := hide h1
    have H2 := hide h2
    have HSS := hide hss
    have HSL := hide hsl
    clear hpl hP hCC h1 h2 hss hsl
    go_enter Tryz.func8, Tryz.ntmps8
    go_wp2_with fail
    refine hg.mono ?_
    rintro x w1 ⟨⟨_, ca, cc, g, rfl, o1, hgg, ag⟩, b1⟩
    obtain ⟨gc, rfl⟩ : ∃ gc, ca = some ⟨gc, 0, none⟩ := by
      rcases Joins.ownsRow_forms o1 with ⟨_, h9⟩ | ⟨gc, _, h9⟩
      · omega
      · cases h9; exact ⟨gc, rfl⟩
    have hn1 : ∀ w : World, (binOp .eql 52 (.slice (some ⟨gc, 0, none⟩) C.length cc) (.slice none 0 0)).run Tryz.prog w = .ok (.bool false) w := fun w => Lib.run_eql_slice_nil w _ _ (some ⟨gc, 0, none⟩) C.length cc 0 0 Tryz.underlying52
    have hwd := words_c (c1 := c1) (c2 := c2) (by omega) ag (H1.out.below b1) (H2.out.below b1)
    have HO1 := hide o1
    have z1 := b1.size
    clear o1 ag hg
    go_wp2_with fail
    refine hwd.mono ?_
    rintro x w2 ⟨av, bv, rfl, W2⟩
    have b2 := W2.be
    obtain ⟨aa, ac, rfl⟩ : ∃ aa ac, av = .slice aa sh.length ac := by
      rcases Joins.ownsRow_forms W2.ra with ⟨rfl, h0⟩ | ⟨g, c, rfl⟩
      · exact ⟨none, 0, by rw [h0]⟩
      · exact ⟨_, _, rfl⟩
    obtain ⟨ba, bc, rfl⟩ : ∃ ba bc, bv = .slice ba sh.length bc := by
      rcases Joins.ownsRow_forms W2.rb with ⟨rfl, h0⟩ | ⟨g, c, rfl⟩
      · exact ⟨none, 0, by rw [h0]⟩
      · exact ⟨_, _, rfl⟩
    have i2 := IntsAt.of_own W2.ra
    have j2 := IntsAt.of_own W2.rb
    have HLa : Hid (∀ q o, aa = some ⟨q, o, none⟩ → q < w2.heap.size) := fun q o e => (W2.ra.lt q (by rw [e]; rfl)).2
    have HLb : Hid (∀ q o, ba = some ⟨q, o, none⟩ → q < w2.heap.size) := fun q o e => (W2.rb.lt q (by rw [e]; rfl)).2
    have hla := wdA_len one sh.length
    have hlb := wdB_len sh one two sh.length
    generalize wdA one sh.length = ms at *
    generalize wdB sh one two sh.length = mt at *
    have o2 : w2.ownsRow w.heap.size 58 5 (.slice (some ⟨gc, 0, none⟩) C.length cc) C.length (C.flatMap inV) := own_block HO1.out fun q e => b2.block q (HO1.out.lt q e).2
    have HO2 := hide o2
    have HI2 := hide i2
    have HJ2 := hide j2
    have HB2 := hide (b1.trans (b2.mono z1))
    have z2 := b2.size
    have hno := nothing_k w2
    clear o2 i2 j2 W2 b2 HO1
    go_wp2_with fail
    refine hno.mono ?_
    rintro x w3 ⟨rfl, m3, b3, z3'⟩
    have z3 : w2.heap.size < w3.heap.size := by omega
    clear z3' hno
    have hno := nothing_k w3
    have HM3 := hide m3
    clear m3
    go_wp2_with fail
    refine hno.mono ?_
    rintro x w4 ⟨rfl, m4, b4, z4'⟩
    have z4 : w3.heap.size < w4.heap.size := by omega
    have nx : w2.heap.size ≠ w3.heap.size := by omega
    clear z4'
    have b24 := b3.trans (b4.mono b3.size)
    have o4 : w4.ownsRow w.heap.size 58 5 (.slice (some ⟨gc, 0, none⟩) C.length cc) C.length (C.flatMap inV) := own_block HO2.out fun q e => b24.block q (HO2.out.lt q e).2
    have i4 := HI2.out.below b24
    have j4 := HJ2.out.below b24
    have m34 := HM3.out.of_block (b4.block _ HM3.out.lt)
    have NC : Hid (∀ q, (Value.slice (some ⟨gc, 0, none⟩) C.length cc).ownBlock = some q → q ≠ w2.heap.size ∧ q ≠ w3.heap.size) := fun q e => by
      obtain ⟨_, _, k1⟩ := own_kind o4 e
      obtain ⟨_, _, k2⟩ := at_kind m34
      obtain ⟨_, _, k3⟩ := at_kind m4
      exact ⟨kind_ne k1 k2 (by decide), kind_ne k1 k3 (by decide)⟩
    have hp := HPL.out w4 w2.heap.size w.heap.size (some ⟨gc, 0, none⟩) cc aa ac ms hla m34 o4 i4 (fun o e => by have := HLa.out _ o e; omega)
    rw [hla] at hp
    have HB4 := hide (HB2.out.trans (b24.mono (Nat.le_trans z1 z2)))
    have HM4 := hide m4
    have HO4 := hide o4
    have HJ4 := hide j4
    clear m34 m4 o4 i4 j4 b24 b3 b4 hno HM3 HI2 HJ2 HO2 HB2
    go_wp2_with fail
    refine hp.mono ?_
    rintro x w5 ⟨⟨rfl, R1, M1, hm5, _⟩, b5⟩
    have z5 := b5.size
    have m45 := HM4.out.of_block (b5.block _ HM4.out.lt (fun e => nx e.symm))
    have o5 : w5.ownsRow w.heap.size 58 5 (.slice (some ⟨gc, 0, none⟩) C.length cc) C.length (C.flatMap inV) := own_block HO4.out fun q e => b5.block q (HO4.out.lt q e).2 (NC.out q e).1
    have j5 := HJ4.out.keep (w' := w5) (fun k hk ⟨o, e⟩ => b5.block k hk (fun e' => by have := HLb.out _ o e; omega)) z5
    have hq := HPL.out w5 w3.heap.size w.heap.size (some ⟨gc, 0, none⟩) cc ba bc mt hlb m45 o5 j5 (fun o e => by have := HLb.out _ o e; omega)
    rw [hlb] at hq
    have HB5 : Hid (Below w.heap.size w w5) := HB4.out.trans (but_lower b5 (by omega) (by omega))
    have HM5 := hide hm5
    have HM45 := hide m45
    clear m45 o5 j5 hm5 b5 hp HJ4 HO4 HM4 HB4
    go_wp2_with fail
    refine hq.mono ?_
    rintro x w6 ⟨⟨rfl, R2, M2, hm6, _⟩, b6⟩
    have z6 := b6.size
    have hm56 := HM5.out.but b6 nx HM45.out
    obtain ⟨sa, sc, cs, is⟩ := hm56.seenI
    obtain ⟨ta, tc, ct, it⟩ := hm6.seenI
    rw [← HSS.out] at ct it
    have lb5 := hm56.lt
    have lb6 := hm6.lt
    have hsl := HSL.out
    have HB6 : Hid (Below w.heap.size w w6) := HB5.out.trans (but_lower b6 (by omega) (by omega))
    generalize seenOf sh.length l ms = SS at *
    have hsm := fun (q : Nat) => ksame_q (w := w6.drewN q) (l := SS) (ca := sc) (cb := tc) (by omega) (is.keep (fun k _ _ => rfl) (Nat.le_refl _)) (it.keep (fun k _ _ => rfl) (Nat.le_refl _))
    clear hm56 hm6 is it hq b6 HM5 HM45 HB5
    go_upto_region 9 with fail
    go_quiet (first | (go_at_call 35; refine Calls.quiet_of (hsm _)))
    go_wp2_with fail
    go_ret
    exact ⟨rfl, below_dN HB6.out _⟩
  · have := read_long_err (s := s) (by omega)
    rw [he] at this
    cases this
theorem mute_c (s : ByteArray) (w : World) (hm : s.size ≤ maxLen) (hv : K.Vars w) (hw : 5 ≤ w.heap.size) (a1 : Option Addr) (c1 : Nat) (one : List Int) (h1 : IntsAt w a1 one) (a2 : Option Addr) (c2 : Nat) (two : List Int) (h2 : IntsAt w a2 two) :
    Calls Tryz.prog 8 #[.string s, .slice a1 one.length c1, .slice a2 two.length c2] w fun x w' => x = .returned (.bool true) ∧ Below w.heap.size w w' := by
  by_cases he : (R.read s).err = 0
  · exact mute_ok s w hm hv hw he a1 c1 one h1 a2 c2 two h2
  · exact mute_err s w hm hv hw he a1 _ c1 a2 _ c2
end Y
end Go.Proofs.YtejbgcloblpbfaaGreatDoor
namespace Go.Proofs.YtejbgcloblpbfaaGreatDoor
open Go.ChangeShapes Go.WideShapes Go.ChangeAt Go.WideMaps Go.WideElems Go.RowKit
open Go.ChangeMaps (open_string shut_string)
theorem own : ownKnob Tryz.prog.godebug = none := by kernel_rfl
theorem gSyn : Tryz.prog.globalNamed "strconv.ErrSyntax" = some 3 := by kernel_rfl
theorem gRan : Tryz.prog.globalNamed "strconv.ErrRange" = some 4 := by kernel_rfl
theorem tSyn : (Tryz.prog.globals[3]?).map (·.type) = some 253 := by kernel_rfl
theorem tRan : (Tryz.prog.globals[4]?).map (·.type) = some 253 := by kernel_rfl
theorem star : "*" ++ "errors.errorString" = "*errors.errorString" := by decide
theorem rowErr (u : TypeId) (h : Tryz.prog.typeName? 3 u = some "*errors.errorString") : u = 276 :=
  typeName_ptr_named (nm := "errors.errorString") (by rw [star]; kernel_rfl) (by kernel_rfl) (by decide) u (by rw [star]; exact h)
theorem cellsE : Tryz.prog.cellsOf 278 = 1 := by kernel_rfl
theorem cellsS : Tryz.prog.cellsOf 9 = 1 := by kernel_rfl
theorem door_met (os : Os) (args : Array Value) : laidMetH Tryz.prog Rows.muteRow.laid ((World.doorLaid Tryz.prog 400 os).forCall (fun _ _ => 0) ⟨#[], args, []⟩).memory :=
  laidMetH_of_parts3 (fuel := 8) (laidMet_of_run' 8 (by kernel_rfl) (by kernel_rfl)) (by kernel_rfl) (by kernel_rfl)
theorem vars_of_laid {W : World} (h : laidMetH Tryz.prog Rows.muteRow.laid W) : K.Vars W ∧ 5 ≤ W.heap.size := by
  rw [MakeChecks.laidMetH_plain _ _ _ (by kernel_rfl)] at h
  have h3 := laidMet.tail (laidMet.tail (laidMet.tail h))
  obtain ⟨a1, s1, hv1, _⟩ := laid_sentinel h3 gRan tRan Tryz.underlying253 rowErr Tryz.underlying276 Tryz.underlying278 rfl rfl Tryz.underlying9 cellsE cellsS
  obtain ⟨a0, s0, hv0, _⟩ := laid_sentinel (laidMet.tail h3) gSyn tSyn Tryz.underlying253 rowErr Tryz.underlying276 Tryz.underlying278 rfl rfl Tryz.underlying9 cellsE cellsS
  have c1 : W.cell? ⟨4, 0, none⟩ = some (.iface 276 (.pointer (some a1))) := by simpa using World.var?_cell gRan hv1 0
  have c0 : W.cell? ⟨3, 0, none⟩ = some (.iface 276 (.pointer (some a0))) := by simpa using World.var?_cell gSyn hv0 0
  refine ⟨⟨⟨_, c0, Or.inr ⟨_, _, rfl⟩⟩, ⟨_, c1, Or.inr ⟨_, _, rfl⟩⟩⟩, ?_⟩
  refine Nat.lt_of_not_le fun hn => ?_
  have hx : W.heap[4]? = none := Array.getElem?_eq_none (by omega)
  simp [World.cell?, hx] at c1
theorem cellsI : Tryz.prog.cellsOf 3 = 1 := by kernel_rfl
set_option maxRecDepth 100000 in
theorem spot_none {W : World} {base : Nat} {a : Addr} {len cap : Nat} (h : Value.okWide Tryz.prog W .any base 32 (.slice (some a) len cap)) : a.spot = none ∧ a.block < W.heap.size := by
  simp only [Value.okWide, Tryz.underlying32, Cell.okWide, Cell.ok] at h
  obtain ⟨_, _, _, hs, row, cells, hsh, _⟩ := h
  refine ⟨hs, Nat.lt_of_not_le fun hn => ?_⟩
  have hx : W.heap[a.block]? = none := Array.getElem?_eq_none hn
  simp [World.shape?, hx] at hsh
set_option maxRecDepth 100000 in
theorem open_mem {H : Type} {enc : TypeId × Value → H} {W : World} {base : Nat} {v : Value} {d : DataW H} {p : List MemPlace} (hval : Value.okWide Tryz.prog W .any base 32 v) (h : DataW.Trod enc Tryz.prog W 0 (fun _ => true) true 32 v d p) :
    ∃ aM cM, ∃ ms : List Int, v = .slice aM ms.length cM ∧ Y.IntsAt W aM ms ∧ ∀ W', Below W.heap.size W W' → DataW.Trod enc Tryz.prog W' 0 (fun b => decide (b < W.heap.size)) true 32 v d p := by
  obtain ⟨a0, len0, cap0, rfl⟩ := okWide_slice Tryz.underlying32 hval
  obtain ⟨fuel, hf⟩ := h
  rcases open_ints Tryz.underlying32 Tryz.underlying3 cellsI hf with ⟨hcs, hx⟩ | ⟨a, len, cap, zs, hcs, _, hl, hm, hlen, hx, hcell, hwf⟩
  · simp [Value.cells] at hcs
    obtain ⟨rfl, rfl, rfl⟩ := hcs
    simp only [Prod.mk.injEq] at hx
    obtain ⟨rfl, rfl⟩ := hx
    refine ⟨none, 0, [], rfl, fun j u hu => (by simp at hu), fun W' _ => shut_slice_nil Tryz.underlying32⟩
  · simp [Value.cells] at hcs
    obtain ⟨rfl, rfl, rfl⟩ := hcs
    simp only [Prod.mk.injEq] at hx
    obtain ⟨rfl, rfl⟩ := hx
    simp only [if_true] at hlen
    obtain ⟨hsp, hbl⟩ := spot_none hval
    obtain ⟨gm, om, sp⟩ := a
    cases hsp
    have hml : (zs.take len0).length = len0 := by rw [List.length_take]; omega
    refine ⟨some ⟨gm, om, none⟩, cap0, zs.take len0, by rw [hml], fun j u hu => ⟨gm, om, rfl, hbl, ?_⟩, fun W' hb' => ?_⟩
    · have hj : j < len0 := by rw [← hml]; exact (List.getElem?_eq_some_iff.1 hu).1
      have hc := hcell j (by omega)
      have ea : (⟨gm, om, none⟩ : Addr).add j = ⟨gm, om + j, none⟩ := by unfold Addr.add; split <;> simp_all
      rw [ea] at hc
      rw [hc]
      rw [List.getElem?_take_of_lt hj] at hu
      rw [List.getD_eq_getElem?_getD, hu]
      rfl
    · have hspb : (fun b => decide (b < W.heap.size)) (⟨gm, om, none⟩ : Addr).block = true := by simpa using hbl
      have t0 := shut_ints (enc := enc) (w := W') (base := 0) (spare := fun b => decide (b < W.heap.size)) (held := true) (a := ⟨gm, om, none⟩) (len := len0) (cap := cap0) (zs := zs) 0 Tryz.underlying32 Tryz.underlying3 cellsI (Nat.zero_le _) hl hm (by rw [if_pos hspb]; exact hlen) (fun i hi => by
        have ea : ((⟨gm, om, none⟩ : Addr).add i).block = gm := by unfold Addr.add; split <;> simp_all
        refine (World.cell?_of_block ?_).trans (hcell i hi)
        rw [ea]
        exact hb'.block gm hbl) hwf
      exact ⟨2, by simpa [Value.cells] using t0⟩
set_option maxRecDepth 100000 in
theorem mute_lifted (os : Os) (started : os.Started) (H : Type) (enc : TypeId × Value → H) :
    ReturnsInHanded {} Tryz.checked os 8 .any (fun w args => (Rows.muteSpec.pre enc Tryz.prog Tryz.f8 [] false w args ∧ laidMetH Tryz.prog Rows.muteRow.laid w) ∧ sizedMet enc Tryz.prog Tryz.f8 (OpenSpec.ofChange Rows.muteSpec) false w args)
      (Rows.muteSpec.post enc Tryz.prog Tryz.f8 false true false false) := by
  refine returnsInHanded_of_change_and (C := Tryz.checked) (X := fun w _ => laidMetH Tryz.prog Rows.muteRow.laid w) (fun _ _ _ hh h => h.of_heap hh) own started (by kernel_rfl) Tryz.func8
    (ChangeSpec.witness_shaped (enc := enc) (C := Tryz.checked) (os := os) (X := fun w _ => laidMetH Tryz.prog Rows.muteRow.laid w) false (World.doorLaid Tryz.prog 400 os) #[.string ⟨#[]⟩, .slice none 0 0, .slice none 0 0] 8 rfl (World.shaped_of_RefB (by kernel_rfl) (by kernel_rfl)) (by kernel_rfl) (by kernel_rfl) (by kernel_rfl) (door_met os _)) ?_
  intro W base args ds gs before hval0 hW _ _ hL _
  have hval : ∀ (j : Nat) t v, Tryz.f8.params[j]? = some t → args[j]? = some v → Value.okWide Tryz.prog W .any base t v := hval0
  have hW' := hW
  obtain ⟨p, q, hA0, hV, rfl, hfz, hnd⟩ := hW
  have hA : DataW.TrodAll enc Tryz.prog W 0 (fun _ => true) true Tryz.f8.params.toList args.toList ds p := hA0
  rw [Tryz.params8] at hA hval
  obtain ⟨v0, v1, v2, d0, d1, d2, p0, p1, p2, rfl, rfl, rfl, h0, h1, h2⟩ := trodAll_three hA
  obtain ⟨rfl, rfl⟩ := trodVars_none hV
  obtain ⟨s, rfl, rfl, rfl, hm⟩ := open_string Tryz.underlying9 (hval 0 9 v0 rfl rfl) h0
  obtain ⟨aM, cM, ms, rfl, hM, hshut⟩ := open_mem (hval 1 32 v1 rfl rfl) h1 
  obtain ⟨aN, cN, ns, rfl, hN, hshut2⟩ := open_mem (hval 2 32 v2 rfl rfl) h2
  obtain ⟨hv, hw⟩ := vars_of_laid hL
  clear hA0 hval0
  simp only [List.append_nil, List.nil_append] at hW'
  refine (Y.mute_c s W hm hv hw aM cM ms hM aN cN ns hN).mono fun e W' ⟨he, hb⟩ => ?_
  subst he
  refine ⟨_, rfl, _, _, _, [], [] ++ (p1 ++ p2), [], hW', ?_, ?_, ?_, hb.frame _, fun h => by cases h⟩
  · exact trodAll_mk1 (shut_bool Tryz.underlying4 true)
  · exact trodAll_mk3 (shut_string Tryz.underlying9 hm) (hshut W' hb) (hshut2 W' hb)
  · rfl
theorem mute_holds : Rows.MuteSaid :=
  OpenClaim.holds_of_wide 8 Tryz.f8 rfl rfl rfl rfl rfl rfl rfl ⟨rfl, rfl, rfl, rfl, rfl⟩ rfl rfl rfl rfl rfl (by kernel_rfl) Tryz.func8 (by kernel_rfl)
    (of_decide_eq_true (by kernel_rfl)) (by unfold Func.isWrapper; first | (rw [if_pos (by decide +kernel)]; kernel_rfl) | (rw [if_neg (by decide +kernel)]; exact ⟨rfl, rfl⟩))
    (fun os started H enc _ => mute_lifted os started H enc)
theorem mute_card : Rows.MuteCardSaid :=
  Claim7.holds_tied_plain_at .later [] [.data, .data, .data, .sentinel, .sentinel] true Rows.muteCard.stood.harness true
    mute_holds (fun _ h => by cases h) (by kernel_rfl) (fun _ h => by cases h) mute_row_tie rfl ⟨rfl, rfl⟩ (by kernel_rfl) rfl
    (fun f fn hf hfn => by
      obtain rfl : f = 8 := Option.some.inj ((show Tryz.prog.funcNamed "mute/mutekeep.Mute" = some 8 by kernel_rfl).symm.trans hf) |>.symm
      obtain rfl : fn = Tryz.f8 := (Option.some.inj (Tryz.func8.symm.trans hfn)).symm
      exact ⟨by kernel_rfl, fun j t ht => by
        rw [Tryz.params8] at ht
        have hm : t ∈ [9, 32, 32] := by simpa using Array.mem_of_getElem? ht
        have hall : ([9, 32, 32].all fun u => !Tryz.prog.wantsStandIn u) = true := by kernel_rfl
        exact (show Tryz.prog.wantsStandIn t = false by simpa using List.all_eq_true.1 hall t hm)⟩)
    (by kernel_rfl)
#print axioms mute_card
end Go.Proofs.YtejbgcloblpbfaaGreatDoor
