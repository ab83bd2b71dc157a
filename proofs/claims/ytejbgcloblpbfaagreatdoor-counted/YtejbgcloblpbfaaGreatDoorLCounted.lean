import Derived.Test.YtejbgcloblpbfaaGreatDoorM51
import Derived.Test.YtejbgcloblpbfaaGreatDoorRows
import Derived.Test.YtejbgcloblpbfaaGreatDoorCards
import Derived.Test.YtejbgcloblpbfaaGreatDoorTie
import Derived.ProofKit
import Derived.LaidMore
import Derived.OpenShut
import Derived.Stop.Joined
import Derived.Stop.LaidErr
import Derived.SevenTiedAt
import Derived.ChangeSlices
import Derived.SizedLaws
namespace Go.Proofs.YtejbgcloblpbfaaGreatDoor
open Go.RowKit
open K (Nm Ex Do)
namespace Y
theorem fin_len {l : List Do} {ms : List Int} : ((V.rds l (ms ++ [0, 0])).take ms.length).length = ms.length := by
  rw [List.length_take, V.rds_len, List.length_append]
  simp
theorem fin_get {l : List Do} {ms : List Int} {j : Nat} {u : Int} (h : ((V.rds l (ms ++ [0, 0])).take ms.length)[j]? = some u) : j < ms.length ∧ (V.rds l (ms ++ [0, 0])).getD j 0 = u := by
  rw [List.getElem?_take] at h
  split at h
  · rename_i c
    exact ⟨c, by rw [List.getD_eq_getElem?_getD, h]; rfl⟩
  · cases h
theorem MAt.ints {w : World} {b lo : Nat} {R M : Nat → Int} {S : List Int} (h : MAt w b lo R M S) {l : List Int} (hN : l.length ≤ 256) (hl : ∀ (j : Nat) u, l[j]? = some u → M j = u) : IntsAt w (some ⟨b, 8, none⟩) l := fun j u hj => by
  have hlt := (List.getElem?_eq_some_iff.1 hj).1
  refine ⟨b, 8, rfl, h.lt, ?_⟩
  rw [(h.mem (a := j) (by omega)).1, hl j u hj]
end Y
end Go.Proofs.YtejbgcloblpbfaaGreatDoor
namespace Go.Proofs.YtejbgcloblpbfaaGreatDoor
open Go.RowKit
open K (Nm Ex Do)
namespace Y
theorem wd_get (one : List Int) {n j : Nat} (h : j < n) : (wdA one n)[j]? = some (one.getD j 0) := by
  unfold wdA
  rw [List.getElem?_map, List.getElem?_range h]; rfl
theorem wdb_get (sh : List Bool) (one two : List Int) {n j : Nat} (h : j < n) : (wdB sh one two n)[j]? = some (if sh.getD j false = true then two.getD j 0 else one.getD j 0) := by
  unfold wdB
  rw [List.getElem?_map, List.getElem?_range h]; rfl
theorem wd_pa (sh : List Bool) (one two : List Int) : PA (fun j => !(sh.getD j false)) (wdA one sh.length ++ [0, 0]) (wdB sh one two sh.length ++ [0, 0]) := by
  have la := wdA_len one sh.length
  have lb := wdB_len sh one two sh.length
  refine ⟨by rw [List.length_append, List.length_append, la, lb], fun j hj => ?_⟩
  have hs : ¬ sh.getD j false = true := by
    intro e
    have hj' : (!(sh.getD j false)) = true := hj
    rw [e] at hj'
    cases hj'
  rw [List.getD_eq_getElem?_getD, List.getD_eq_getElem?_getD]
  by_cases c : j < sh.length
  · rw [List.getElem?_append_left (by omega), List.getElem?_append_left (by omega), wd_get _ c, wdb_get _ _ _ c, if_neg hs]
  · rw [List.getElem?_append_right (by omega), List.getElem?_append_right (by omega), la, lb]
theorem seen_same {N : Nat} {sh : List Bool} {l : List Do} (hP : Pr N sh l) (one two : List Int) : seenOf N l (wdA one sh.length) = seenOf N l (wdB sh one two sh.length) := by
  unfold seenOf
  rw [(l_pub l (dep := 0) false hP.sc hP.pb hP.ok true true (fun _ => ⟨rfl, rfl⟩) _ _ (wd_pa sh one two) 0 ((List.range 256).drop (N + 2)) none).1]
set_option maxHeartbeats 1000000 in
theorem ksame_q {l : List Int} {w : World} {a b : Option Addr} {ca cb : Nat} (h54 : l.length ≤ 1000000) (ha : IntsAt w a l) (hb : IntsAt w b l) :
    Calls Tryz.prog 35 #[.slice a l.length ca, .slice b l.length cb] w fun x w' => x = .returned (.bool true) ∧ ∃ m, w' = w.drewN m := by
  have HA := hide ha
  have HB := hide hb
  clear ha hb
  go_enter Tryz.func35, Tryz.ntmps35
  go_wp2_with fail
  go_loopg [5] l.length (fun gk i wr => ∃ k : Nat, k + gk = l.length ∧ i = .int .i64 (k : Int) ∧ ∃ m, wr = w.drewN m)
  case atStart => exact ⟨0, by omega, rfl, 0, rfl⟩
  case round =>
    obtain ⟨k, hk, rfl, m, hs⟩ := hrel
    subst hs
    cases gk with
    | zero =>
      have hz : ¬ ((k : Int) < (l.length : Int)) := by omega
      go_wp2_with fail
      go_ret
      exact ⟨rfl, m, rfl⟩
    | succ g1 =>
      have hz : (k : Int) < (l.length : Int) := by omega
      obtain ⟨u, hu⟩ : ∃ u, l[k]? = some u := ⟨_, List.getElem?_eq_getElem (by omega)⟩
      obtain ⟨ga, oa, rfl, _, c1⟩ := HA.out k u hu
      obtain ⟨gb, ob, rfl, _, c2⟩ := HB.out k u hu
      have c1' : (w.drewN m).cell? ⟨ga, oa + k, none⟩ = some (.int .i64 u) := c1
      have c2' : (w.drewN m).cell? ⟨gb, ob + k, none⟩ = some (.int .i64 u) := c2
      generalize hWm : w.drewN m = Wm at *
      go_wp2_with (go_quiet (fail))
      go_roundg g1
      case measure => omega
      case rel => exact ⟨k + 1, by omega, by go_num, _, by rw [← hWm, World.drewN_drewN]⟩
theorem go_seen {C : List Ins} : ∀ {n : Nat} {s s' : Ma}, go C n s = some s' → s'.seen.length ≤ s.seen.length + 3 * n
  | 0, s, s', h => by rw [go_zero h]; omega
  | n + 1, s, s', h => by
    obtain ⟨i, s1, _, h2, h3⟩ := go_succ h
    have := step_seen h2
    have := go_seen h3
    omega
theorem seenOf_len {N : Nat} {sh : List Bool} {l : List Do} (hP : Pr N sh l) (ms : List Int) (hm : ms.length = N) : (seenOf N l ms).length ≤ 400000 := by
  obtain ⟨n, s', h1, h2, _, _, h5⟩ := pr_sim2 hP ms hm
  have := go_seen h1
  rw [← h5, List.length_append]
  simp at this ⊢
  omega
theorem MAt.seenI {w : World} {b lo : Nat} {R M : Nat → Int} {S : List Int} (h : MAt w b lo R M S) : ∃ sa sc, w.cell? ⟨b, 264, none⟩ = some (.slice sa S.length sc) ∧ IntsAt w sa S := by
  obtain ⟨sa, sc, c, _, _, o, _⟩ := h.ready
  exact ⟨sa, sc, c, IntsAt.of_own o⟩
end Y
end Go.Proofs.YtejbgcloblpbfaaGreatDoor
namespace Go.Proofs.YtejbgcloblpbfaaGreatDoor
open Go.RowKit
open K (Nm Ex Do)
namespace Y
abbrev countS : ByteArray := { data := #[40, 112, 117, 98, 108, 105, 99, 32, 110, 41, 40, 112, 117, 98, 108, 105, 99, 32, 107, 41, 40, 112, 117, 98, 108, 105, 99, 32, 97, 41, 40, 112, 117, 98, 108, 105, 99, 32, 98, 41, 40, 102, 111, 114, 32, 105, 32, 110, 32, 40, 115, 101, 116, 32, 97, 32, 40, 43, 32, 97, 32, 49, 41, 41, 40, 102, 111, 114, 32, 106, 32, 107, 32, 40, 115, 101, 116, 32, 98, 32, 40, 43, 32, 40, 43, 32, 98, 32, 105, 41, 32, 106, 41, 41, 41, 41] }
set_option maxRecDepth 100000 in
theorem count_err : (R.read countS).err = 0 := by decide +kernel
set_option maxRecDepth 100000 in
theorem count_len : (R.read countS).shape.length = 4 := by decide +kernel
def cnN : Nm := ⟨⟨#[110]⟩, 0, false, 1, 0⟩
def cnK : Nm := ⟨⟨#[107]⟩, 0, false, 1, 1⟩
def cnA : Nm := ⟨⟨#[97]⟩, 0, false, 1, 2⟩
def cnB : Nm := ⟨⟨#[98]⟩, 0, false, 1, 3⟩
def cnI : Nm := ⟨⟨#[105]⟩, 2, false, 0, 4⟩
def cnJ : Nm := ⟨⟨#[106]⟩, 2, false, 0, 5⟩
def cnIn : List Do := [.set 73 cnB (.op 80 43 (.op 83 43 (.use cnB) (.use cnI)) (.use cnJ))]
def cnOut : List Do := [.set 49 cnA (.op 56 43 (.use cnA) (.num 1)), .fors 64 cnJ (.use cnK) cnIn]
def cnP : List Do := [.fors 40 cnI (.use cnN) cnOut]
set_option maxRecDepth 100000 in
theorem count_prog : K.progD (R.toks countS) = cnP := by kernel_rfl
theorem rounds_snoc (f : List Int → List Int) (k : Nat) : ∀ (m i : Nat) (W : List Int), V.rounds f k i (m + 1) W = f ((V.rounds f k i m W).set k ((i + m : Nat) : Int))
  | 0, i, W => by rw [V.rounds, V.rounds, V.rounds]; rfl
  | m + 1, i, W => by rw [V.rounds, rounds_snoc f k m (i + 1), V.rounds, (by omega : i + 1 + m = i + (m + 1))]
def cT (b i : Int) : Nat → Int
  | 0 => b
  | j + 1 => wrap64 (wrap64 (cT b i j + i) + (j : Int))
def cS (m : Nat) : Nat → Int
  | 0 => 0
  | i + 1 => cT (cS m i) (i : Int) m
theorem cn_in (n k a b i j : Int) : V.rds cnIn [n, k, a, b, i, j] = [n, k, a, wrap64 (wrap64 (b + i) + j), i, j] := by
  unfold cnIn
  simp only [V.rds, V.rd, V.ev, V.opf]
  rfl
theorem cn_inner (n k a b i : Int) : ∀ (m : Nat) (j : Int), ∃ j', V.rounds (fun W => V.rds cnIn W) 5 0 m [n, k, a, b, i, j] = [n, k, a, cT b i m, i, j']
  | 0, j => ⟨j, by rw [V.rounds]; rfl⟩
  | m + 1, j => by
    obtain ⟨j', h⟩ := cn_inner n k a b i m j
    refine ⟨(m : Int), ?_⟩
    rw [rounds_snoc, h]
    show V.rds cnIn [n, k, a, cT b i m, i, ((0 + m : Nat) : Int)] = _
    rw [cn_in, Nat.zero_add]
    rfl
theorem cn_out (n k a b i j : Int) : ∃ j', V.rds cnOut [n, k, a, b, i, j] = [n, k, wrap64 (a + 1), cT b i (V.times k), i, j'] := by
  obtain ⟨j', h⟩ := cn_inner n k (wrap64 (a + 1)) b i (V.times k) j
  refine ⟨j', ?_⟩
  rw [← h]
  unfold cnOut
  simp only [V.rds, V.rd, V.ev, V.opf]
  rfl
theorem cn_outer (n k : Int) : ∀ m : Nat, m ≤ 5 → ∃ i' j', V.rounds (fun W => V.rds cnOut W) 4 0 m [n, k, 0, 0, 0, 0] = [n, k, (m : Int), cS (V.times k) m, i', j']
  | 0, _ => ⟨0, 0, by rw [V.rounds]; rfl⟩
  | m + 1, h5 => by
    obtain ⟨i', j', h⟩ := cn_outer n k m (by omega)
    obtain ⟨j2, h2⟩ := cn_out n k (m : Int) (cS (V.times k) m) (m : Int) j'
    refine ⟨(m : Int), j2, ?_⟩
    rw [rounds_snoc, h]
    show V.rds cnOut [n, k, (m : Int), cS (V.times k) m, ((0 + m : Nat) : Int), j'] = _
    rw [Nat.zero_add, h2]
    have e : wrap64 ((m : Int) + 1) = ((m + 1 : Nat) : Int) := by unfold wrap64; omega
    rw [e]
    rfl
theorem count_fin (n k : Int) : (V.rds (K.progD (R.toks countS)) ([n, k, 0, 0] ++ [0, 0])).take 4 = [n, k, (V.times n : Int), cS (V.times k) (V.times n)] := by
  rw [count_prog]
  obtain ⟨i', j', h⟩ := cn_outer n k (V.times n) (times_le n)
  unfold cnP
  simp only [V.rds, V.rd]
  show (V.rounds (fun W => V.rds cnOut W) 4 0 (V.times n) [n, k, 0, 0, 0, 0]).take 4 = _
  rw [h]
  rfl
end Y
end Go.Proofs.YtejbgcloblpbfaaGreatDoor
namespace Go.Proofs.YtejbgcloblpbfaaGreatDoor
open Go.RowKit
open K (Nm Ex Do)
namespace Y
theorem ints4 {w W : World} {n k a b : Int} (hW : w.alloc (.cells #[.int .i64 n, .int .i64 k, .int .i64 a, .int .i64 b] 3 (0, 0)) = W) : IntsAt W (some ⟨w.heap.size, 0, none⟩) [n, k, a, b] := by
  have r4 : At W w.heap.size 3 [.int .i64 n, .int .i64 k, .int .i64 a, .int .i64 b] := by rw [← hW]; exact At.alloc_new w _ _
  exact fun j u hj => ⟨_, 0, rfl, by rw [← hW, size_alloc]; exact Nat.lt_succ_self _, by
      rw [Nat.zero_add, r4.cell]
      match j, hj with
      | 0, hj => simp at hj ⊢; exact hj
      | 1, hj => simp at hj ⊢; exact hj
      | 2, hj => simp at hj ⊢; exact hj
      | 3, hj => simp at hj ⊢; exact hj
      | _ + 4, hj => simp at hj⟩
set_option maxRecDepth 100000 in
set_option maxHeartbeats 4000000 in
theorem counted_c (n k : Int) (w : World) (hv : K.Vars w) (hw : 5 ≤ w.heap.size) :
    Calls Tryz.prog 12 #[.int .i64 n, .int .i64 k] w fun x w' => x = .returned (.bool true) ∧ Below w.heap.size w w' := by
  have hal := alive_c w hv hw
  have hrn := fun (w' : World) (hb : Below w.heap.size w w') (aM : Option Addr) (hM : IntsAt w' aM [n, k, 0, 0]) => run_k countS w' (by decide) (vars_below hv hb hw) (Nat.le_trans hw hb.size) aM 4 [n, k, 0, 0] hM
  have hco := fun (w' : World) (hb : Below w.heap.size w w') => compile_c countS w' (by decide) (vars_below hv hb hw) (Nat.le_trans hw hb.size)
  have hP := prog_al (s := countS) (by decide) count_err
  have hfin := count_fin n k
  rw [count_err, count_len] at hco
  rw [count_len] at hP
  simp only [count_err, count_len] at hrn
  have hpl := fun (w : World) (b base : Nat) (ca : Option Addr) (cc : Nat) (aM : Option Addr) (cM : Nat) (ms : List Int) (hm : ms.length = 4) (mach : At w b 73 (mcells (fun _ => 0) (fun _ => 0) (.slice none 0 0))) (code : w.ownsRow base 58 5 (.slice ca (prC 4 (K.progD (R.toks countS))).length cc) (prC 4 (K.progD (R.toks countS))).length ((prC 4 (K.progD (R.toks countS))).flatMap inV)) (mem : IntsAt w aM ms) (hb : ∀ o, ¬ aM = some ⟨b, o, none⟩) => run_play (cM := cM) hP hm mach code mem hb
  generalize K.progD (R.toks countS) = l at *
  have HPL := hide hpl
  have HRN := hide hrn
  have HCO := hide hco
  have HFIN := hide hfin
  clear hpl hP hrn hco hfin
  go_enter Tryz.func12, Tryz.ntmps12
  go_wp2_with fail
  refine hal.mono ?_
  rintro x w1 ⟨rfl, b1⟩
  obtain ⟨W2, hW2⟩ : ∃ W2, w1.alloc (.cells #[.int .i64 n, .int .i64 k, .int .i64 0, .int .i64 0] 3 (0, 0)) = W2 := ⟨_, rfl⟩
  have B2 : Below w1.heap.size w1 W2 := by rw [← hW2]; exact (Below.refl _ _).alloc (Nat.le_refl _) _
  have b2 := b1.trans (B2.mono b1.size)
  have hr : Calls Tryz.prog 21 #[.string countS, .slice (some ⟨w1.heap.size, 0, none⟩) 4 4] W2 _ := HRN.out W2 b2 _ (ints4 hW2)
  clear B2 hal
  go_wp2_with fail
  refine hr.mono ?_
  rintro x w3 ⟨h3, b3'⟩
  rcases h3 with ⟨h3, _⟩ | ⟨_, h3, _⟩ | ⟨_, _, gr, rfl, hgr, ar⟩
  · exact absurd trivial h3
  · exact absurd rfl h3
  · have b3 := b2.trans (b3'.mono b2.size)
    have hc := HCO.out w3 b3
    have HAR := hide ar
    have grl := ar.lt
    clear ar hr b3'
    go_wp2_with fail
    refine hc.mono ?_
    rintro x w4 ⟨h4, b4'⟩
    rcases h4 with ⟨h4, _⟩ | ⟨_, _, cv, rfl, o4⟩
    · exact absurd trivial h4
    · obtain ⟨ca, cc, rfl⟩ : ∃ ca cc, cv = .slice ca (prC 4 l).length cc := by
        rcases Joins.ownsRow_forms o4 with ⟨rfl, h0⟩ | ⟨g, c, rfl⟩
        · exact ⟨none, 0, by rw [h0]⟩
        · exact ⟨_, _, rfl⟩
      generalize hCl : prC 4 l = C at *
      have b4 := b3.trans (b4'.mono b3.size)
      have HAR4 := hide (HAR.out.of_block (b4'.block gr HAR.out.lt))
      have grl4 := HAR4.out.lt
      have z3 := b3.size
      have z4 := b4.size
      have z34 := b4'.size
      have HO4 := hide o4
      have hno := nothing_k w4
      have HB4 := hide b4
      clear o4 hc HAR b4' b4 b3 b2 b1
      go_wp2_with fail
      refine hno.mono ?_
      rintro x w5 ⟨rfl, m5, b5, z5'⟩
      have z5 : w4.heap.size < w5.heap.size := by omega
      clear z5'
      obtain ⟨W6, hW6⟩ : ∃ W6, w5.alloc (.cells #[.int .i64 n, .int .i64 k, .int .i64 0, .int .i64 0] 3 (0, 0)) = W6 := ⟨_, rfl⟩
      have B6 : Below w5.heap.size w5 W6 := by rw [← hW6]; exact (Below.refl _ _).alloc (Nat.le_refl _) _
      have z6 : w5.heap.size < W6.heap.size := by rw [← hW6, size_alloc]; exact Nat.lt_succ_self _
      have b46 := b5.trans (B6.mono b5.size)
      have o6 : W6.ownsRow w3.heap.size 58 5 (.slice ca C.length cc) C.length (C.flatMap inV) := own_block HO4.out fun q e => b46.block q (HO4.out.lt q e).2
      have m6 := m5.of_block (B6.block _ m5.lt)
      have hp : Calls Tryz.prog 34 #[PT w4.heap.size, .slice ca C.length cc, .slice (some ⟨w5.heap.size, 0, none⟩) 4 4] W6 _ := HPL.out W6 w4.heap.size w3.heap.size ca cc (some ⟨w5.heap.size, 0, none⟩) 4 [n, k, 0, 0] rfl m6 o6 (ints4 hW6) (fun o e => by have h8 : w5.heap.size = w4.heap.size := congrArg Addr.block (Option.some.inj e); omega)
      have HAR6 := hide (HAR4.out.of_block (b46.block gr grl4))
      have HB6 := hide (HB4.out.trans (b46.mono (by omega)))
      clear m5 m6 o6 b46 b5 B6 hno HAR4 HB4 HO4
      go_wp2_with fail
      refine hp.mono ?_
      rintro x w7 ⟨⟨rfl, R1, M1, hm7, hM7⟩, b7⟩
      have z7 := b7.size
      have ar7 := HAR6.out.of_block (b7.block gr (by omega) (by omega))
      have HB7 : Hid (Below w.heap.size w w7) := HB6.out.trans (but_lower b7 (by omega) (by omega))
      obtain ⟨r, Hr⟩ : ∃ r, Hid (V.times n = r) := ⟨_, hide rfl⟩
      obtain ⟨m, Hm⟩ : ∃ m, Hid (V.times k = m) := ⟨_, hide rfl⟩
      have hr5 : r ≤ 5 := by rw [← Hr.out]; exact times_le _
      have hm5 : m ≤ 5 := by rw [← Hm.out]; exact times_le _
      have HF : Hid ((V.rds l ([n, k, 0, 0] ++ [0, 0])).take 4 = [n, k, (r : Int), cS m r]) := by show _ = _; rw [HFIN.out, Hr.out, Hm.out]
      have Hia : Hid (IntsAt w7 (some ⟨w4.heap.size, 8, none⟩) [n, k, (r : Int), cS m r]) := hm7.ints (by simp) fun j u hj => by
        have hj' := hj
        rw [← HF.out] at hj'
        obtain ⟨f1, f2⟩ := fin_get (ms := [n, k, 0, 0]) hj'
        rw [hM7 j f1]
        exact f2
      have Hir : Hid (IntsAt w7 (some ⟨gr, 0, none⟩) [n, k, (r : Int), cS m r]) := fun j u hj => ⟨gr, 0, rfl, ar7.lt, by rw [Nat.zero_add, ar7.cell]; show (List.map _ ((V.rds l ([n, k, 0, 0] ++ [0, 0])).take 4))[j]? = _; rw [HF.out, List.getElem?_map, hj]; rfl⟩
      have HL7 : Hid (w4.heap.size < w7.heap.size ∧ gr < w7.heap.size) := ⟨by omega, by omega⟩
      clear hm7 hM7 ar7 b7 hp HAR6 HB6 HFIN
      go_upto_if 53 with fail
      go_cut [13] (fun q wr => wr = w7 ∧ ∃ z : Int, q = .int .i64 z ∧ Hid ((n < 0 → z = 0) ∧ (¬ n < 0 → z = n)))
      case first =>
        by_cases e : n < 0
        · go_wp2_with fail
          go_meet
          case rel => exact ⟨rfl, 0, rfl, fun _ => rfl, fun h => by omega⟩
        · go_wp2_with fail
          go_meet
          case rel => exact ⟨rfl, n, rfl, fun h => by omega, fun _ => rfl⟩
      case rest =>
        obtain ⟨rfl, z, rfl, Hz⟩ := hcut
        go_upto_if 55 with fail
        go_cut [13] (fun q wr => wr = wc ∧ q = .int .i64 (r : Int))
        case first =>
          have ht := Hr.out
          have hz := Hz.out
          unfold V.times at ht
          by_cases e : n > 5
          · have er : r = 5 := by rw [← ht, if_neg (by omega), if_pos (by omega)]
            subst er
            go_wp2_with fail
            go_meet
            case rel => exact ⟨rfl, rfl⟩
          · have er : z = (r : Int) := by
              by_cases e2 : n < 0
              · rw [if_pos e2] at ht; rw [hz.1 e2, ← ht]; rfl
              · rw [if_neg e2, if_neg (by omega)] at ht; rw [hz.2 e2]; omega
            clear ht hz
            subst er
            go_wp2_with fail
            go_meet
            case rel => exact ⟨rfl, rfl⟩
        case rest =>
          obtain ⟨rfl, rfl⟩ := hcut
          clear Hz
          go_upto_if 58 with fail
          go_cut [14] (fun q wr => wr = wc ∧ ∃ z : Int, q = .int .i64 z ∧ Hid ((k < 0 → z = 0) ∧ (¬ k < 0 → z = k)))
          case first =>
            by_cases e : k < 0
            · go_wp2_with fail
              go_meet
              case rel => exact ⟨rfl, 0, rfl, fun _ => rfl, fun h => by omega⟩
            · go_wp2_with fail
              go_meet
              case rel => exact ⟨rfl, k, rfl, fun h => by omega, fun _ => rfl⟩
          case rest =>
            obtain ⟨rfl, z, rfl, Hz⟩ := hcut
            go_upto_if 60 with fail
            go_cut [14] (fun q wr => wr = wc ∧ q = .int .i64 (m : Int))
            case first =>
              have ht := Hm.out
              have hz := Hz.out
              unfold V.times at ht
              by_cases e : k > 5
              · have er : m = 5 := by rw [← ht, if_neg (by omega), if_pos (by omega)]
                subst er
                go_wp2_with fail
                go_meet
                case rel => exact ⟨rfl, rfl⟩
              · have er : z = (m : Int) := by
                  by_cases e2 : k < 0
                  · rw [if_pos e2] at ht; rw [hz.1 e2, ← ht]; rfl
                  · rw [if_neg e2, if_neg (by omega)] at ht; rw [hz.2 e2]; omega
                clear ht hz
                subst er
                go_wp2_with fail
                go_meet
                case rel => exact ⟨rfl, rfl⟩
            case rest =>
              obtain ⟨rfl, rfl⟩ := hcut
              clear Hz Hr Hm HF
              obtain ⟨wX, rfl⟩ : ∃ wX : World, wX = wc := ⟨_, rfl⟩
              go_wp2_with fail
              go_loopg [15, 16] r (fun gk bv i wr => ∃ q : Nat, q + gk = r ∧ i = .int .i64 (q : Int) ∧ bv = .int .i64 (cS m q) ∧ wr = wX)
              case atStart => exact ⟨0, by omega, rfl, rfl, rfl⟩
              case round =>
                obtain ⟨q, hq, rfl, rfl, rfl⟩ := hrel
                cases gk with
                | succ g1 =>
                  have hz : (q : Int) < (r : Int) := by omega
                  go_wp2_with fail
                  go_loopg [15, 17] m (fun gk bv j wy => ∃ p : Nat, p + gk = m ∧ j = .int .i64 (p : Int) ∧ bv = .int .i64 (cT (cS m q) (q : Int) p) ∧ wy = wr)
                  case atStart => exact ⟨0, by omega, rfl, rfl, rfl⟩
                  case round =>
                    obtain ⟨p, hp, rfl, rfl, rfl⟩ := hrel
                    cases gk with
                    | succ g2 =>
                      have hz2 : (p : Int) < (m : Int) := by omega
                      go_wp2_with fail
                      go_roundg g2
                      case measure => omega
                      case rel => exact ⟨p + 1, by omega, by go_num, rfl, rfl⟩
                    | zero =>
                      have hz2 : ¬ (p : Int) < (m : Int) := by omega
                      obtain rfl : p = m := by omega
                      go_wp2_with fail
                      go_roundg g1
                      case measure => omega
                      case rel => exact ⟨q + 1, by omega, by go_num, rfl, rfl⟩
                | zero =>
                  have hz : ¬ (q : Int) < (r : Int) := by omega
                  obtain rfl : q = r := by omega
                  obtain ⟨bb, Hbb⟩ : ∃ bb, Hid (cS m q = bb) := ⟨_, hide rfl⟩
                  rw [Hbb.out] at Hia Hir
                  rw [Hbb.out]
                  obtain ⟨W8, hW8⟩ : ∃ W8, wr.alloc (.cells #[.int .i64 n, .int .i64 k, .int .i64 (q : Int), .int .i64 bb] 3 (0, 0)) = W8 := ⟨_, rfl⟩
                  have B8 : Below wr.heap.size wr W8 := by rw [← hW8]; exact (Below.refl _ _).alloc (Nat.le_refl _) _
                  have i8 := ints4 hW8
                  have h1 := fun (u : Nat) => ksame_q (w := W8.drewN u) (l := [n, k, (q : Int), bb]) (ca := 4) (cb := 4) (by simp) (Hir.out.below B8 |>.keep (fun _ _ _ => rfl) (Nat.le_refl _)) (i8.keep (fun _ _ _ => rfl) (Nat.le_refl _))
                  have h2 := fun (u : Nat) => ksame_q (w := W8.drewN u) (l := [n, k, (q : Int), bb]) (ca := 256) (cb := 4) (by simp) (Hia.out.below B8 |>.keep (fun _ _ _ => rfl) (Nat.le_refl _)) (i8.keep (fun _ _ _ => rfl) (Nat.le_refl _))
                  have HB8 : Hid (Below w.heap.size w W8) := HB7.out.trans (B8.mono (by have := HB7.out.size; omega))
                  have h10 := h1 0
                  clear i8 Hia Hir HB7
                  go_wp2_with fail
                  refine h10.mono ?_
                  rintro x w9 ⟨rfl, u, rfl⟩
                  go_wp2_with fail
                  refine (h2 u).mono ?_
                  rintro x w10 ⟨rfl, u2, rfl⟩
                  go_wp2_with fail
                  go_ret
                  exact ⟨rfl, below_dN HB8.out _⟩
end Y
end Go.Proofs.YtejbgcloblpbfaaGreatDoor
namespace Go.Proofs.YtejbgcloblpbfaaGreatDoor
open Go.ChangeShapes Go.WideShapes Go.ChangeAt Go.WideMaps Go.WideElems Go.RowKit
theorem own : ownKnob Tryz.prog.godebug = none := by kernel_rfl
theorem gSyn : Tryz.prog.globalNamed "strconv.ErrSyntax" = some 3 := by kernel_rfl
theorem gRan : Tryz.prog.globalNamed "strconv.ErrRange" = some 4 := by kernel_rfl
theorem tSyn : (Tryz.prog.globals[3]?).map (·.type) = some 253 := by kernel_rfl
theorem tRan : (Tryz.prog.globals[4]?).map (·.type) = some 253 := by kernel_rfl
theorem star : "*" ++ "errors.errorString" = "*errors.errorString" := by decide
theorem rowErr (u : TypeId) (h : Tryz.prog.typeName? 3 u = some "*errors.errorString") : u = 276 :=
  typeName_ptr_named (nm := "errors.errorString") (by rw [star]; kernel_rfl) (by kernel_rfl) (by decide) u (by rw [star]; exact h)
theorem cellsE : Tryz.prog.cellsOf 278 = 1 := by kernel_rfl
theorem cellsS : Tryz.prog.cellsOf 9 = 1 := by kernel_rfl
theorem door_met (os : Os) (args : Array Value) : laidMetH Tryz.prog Rows.countedRow.laid ((World.doorLaid Tryz.prog 400 os).forCall (fun _ _ => 0) ⟨#[], args, []⟩).memory :=
  laidMetH_of_parts3 (fuel := 8) (laidMet_of_run' 8 (by kernel_rfl) (by kernel_rfl)) (by kernel_rfl) (by kernel_rfl)
theorem vars_of_laid {W : World} (h : laidMetH Tryz.prog Rows.countedRow.laid W) : K.Vars W ∧ 5 ≤ W.heap.size := by
  rw [MakeChecks.laidMetH_plain _ _ _ (by kernel_rfl)] at h
  have h3 := laidMet.tail (laidMet.tail (laidMet.tail h))
  obtain ⟨a1, s1, hv1, _⟩ := laid_sentinel h3 gRan tRan Tryz.underlying253 rowErr Tryz.underlying276 Tryz.underlying278 rfl rfl Tryz.underlying9 cellsE cellsS
  obtain ⟨a0, s0, hv0, _⟩ := laid_sentinel (laidMet.tail h3) gSyn tSyn Tryz.underlying253 rowErr Tryz.underlying276 Tryz.underlying278 rfl rfl Tryz.underlying9 cellsE cellsS
  have c1 : W.cell? ⟨4, 0, none⟩ = some (.iface 276 (.pointer (some a1))) := by simpa using World.var?_cell gRan hv1 0
  have c0 : W.cell? ⟨3, 0, none⟩ = some (.iface 276 (.pointer (some a0))) := by simpa using World.var?_cell gSyn hv0 0
  refine ⟨⟨⟨_, c0, Or.inr ⟨_, _, rfl⟩⟩, ⟨_, c1, Or.inr ⟨_, _, rfl⟩⟩⟩, ?_⟩
  refine Nat.lt_of_not_le fun hn => ?_
  have hx : W.heap[4]? = none := Array.getElem?_eq_none (by omega)
  simp [World.cell?, hx] at c1
set_option maxRecDepth 100000 in
theorem counted_lifted (os : Os) (started : os.Started) (H : Type) (enc : TypeId × Value → H) :
    ReturnsInHanded {} Tryz.checked os 12 .any (fun w args => (Rows.countedSpec.pre enc Tryz.prog Tryz.f12 [] false w args ∧ laidMetH Tryz.prog Rows.countedRow.laid w) ∧ sizedMet enc Tryz.prog Tryz.f12 (OpenSpec.ofChange Rows.countedSpec) false w args)
      (Rows.countedSpec.post enc Tryz.prog Tryz.f12 false true false false) := by
  refine returnsInHanded_of_change_and (C := Tryz.checked) (X := fun w _ => laidMetH Tryz.prog Rows.countedRow.laid w) (fun _ _ _ hh h => h.of_heap hh) own started (by kernel_rfl) Tryz.func12
    (ChangeSpec.witness_shaped (enc := enc) (C := Tryz.checked) (os := os) (X := fun w _ => laidMetH Tryz.prog Rows.countedRow.laid w) false (World.doorLaid Tryz.prog 400 os) #[.int .i64 0, .int .i64 0] 8 rfl (World.shaped_of_RefB (by kernel_rfl) (by kernel_rfl)) (by kernel_rfl) (by kernel_rfl) (by kernel_rfl) (door_met os _)) ?_
  intro W base args ds gs before hval0 hW _ _ hL _
  have hval : ∀ (j : Nat) t v, Tryz.f12.params[j]? = some t → args[j]? = some v → Value.okWide Tryz.prog W .any base t v := hval0
  have hW' := hW
  obtain ⟨p, q, hA0, hV, rfl, hfz, hnd⟩ := hW
  have hA : DataW.TrodAll enc Tryz.prog W 0 (fun _ => true) true Tryz.f12.params.toList args.toList ds p := hA0
  rw [Tryz.params12] at hA hval
  obtain ⟨v0, v1, d0, d1, p0, p1, rfl, rfl, rfl, h0, h1⟩ := trodAll_two hA
  obtain ⟨rfl, rfl⟩ := trodVars_none hV
  obtain ⟨n, rfl, rfl, rfl, wn⟩ := open_int Tryz.underlying3 (hval 0 3 v0 rfl rfl) h0
  obtain ⟨k, rfl, rfl, rfl, wk⟩ := open_int Tryz.underlying3 (hval 1 3 v1 rfl rfl) h1
  obtain ⟨hv, hw⟩ := vars_of_laid hL
  clear hA0 hval0
  simp only [List.append_nil] at hW'
  refine (Y.counted_c n k W hv hw).mono fun e W' ⟨he, hb⟩ => ?_
  subst he
  refine ⟨_, rfl, _, _, _, [], [], [], hW', ?_, ?_, ?_, hb.frame _, fun h => by cases h⟩
  · exact trodAll_mk1 (shut_bool Tryz.underlying4 true)
  · exact trodAll_mk2 (shut_int Tryz.underlying3 wn) (shut_int Tryz.underlying3 wk)
  · rfl
theorem counted_holds : Rows.CountedSaid :=
  OpenClaim.holds_of_wide 12 Tryz.f12 rfl rfl rfl rfl rfl rfl rfl ⟨rfl, rfl, rfl, rfl, rfl⟩ rfl rfl rfl rfl rfl (by kernel_rfl) Tryz.func12 (by kernel_rfl)
    (of_decide_eq_true (by kernel_rfl)) (by unfold Func.isWrapper; first | (rw [if_pos (by decide +kernel)]; kernel_rfl) | (rw [if_neg (by decide +kernel)]; exact ⟨rfl, rfl⟩))
    (fun os started H enc _ => counted_lifted os started H enc)
theorem counted_card : Rows.CountedCardSaid :=
  Claim7.holds_tied_plain_at .later [] [.data, .data, .data, .sentinel, .sentinel] true Rows.countedCard.stood.harness true
    counted_holds (fun _ h => by cases h) (by kernel_rfl) (fun _ h => by cases h) counted_row_tie rfl ⟨rfl, rfl⟩ (by kernel_rfl) rfl
    (fun f fn hf hfn => by
      obtain rfl : f = 12 := Option.some.inj ((show Tryz.prog.funcNamed "mute/mutekeep.Counted" = some 12 by kernel_rfl).symm.trans hf) |>.symm
      obtain rfl : fn = Tryz.f12 := (Option.some.inj (Tryz.func12.symm.trans hfn)).symm
      exact ⟨by kernel_rfl, fun j t ht => by
        rw [Tryz.params12] at ht
        have hm : t ∈ [3, 3] := by simpa using Array.mem_of_getElem? ht
        have hall : ([3, 3].all fun u => !Tryz.prog.wantsStandIn u) = true := by kernel_rfl
        exact (show Tryz.prog.wantsStandIn t = false by simpa using List.all_eq_true.1 hall t hm)⟩)
    (by kernel_rfl)
#print axioms counted_card
end Go.Proofs.YtejbgcloblpbfaaGreatDoor
