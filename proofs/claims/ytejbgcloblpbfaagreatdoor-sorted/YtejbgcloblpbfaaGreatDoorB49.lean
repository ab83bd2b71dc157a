import Derived.Test.YtejbgcloblpbfaaGreatDoorB45
import Derived.StillTailTactics
namespace Go.Proofs.YtejbgcloblpbfaaGreatDoor
open Go.RowKit
open K (Nm Ex Do)
namespace Y
structure PlayAt (w : World) (b : Nat) (C : List Ins) (cv : Value) (ms : List Int) (aM : Option Addr) : Prop where
  mach : At w b 73 (mcells (fun _ => 0) (fun _ => 0) (.slice none 0 0))
  code : w.ownsRow 0 58 5 cv C.length (C.flatMap inV)
  mem : ∀ (j : Nat) u, ms[j]? = some u → ∃ gm o, aM = some ⟨gm, o, none⟩ ∧ gm < w.heap.size ∧ gm ≠ b ∧ w.cell? ⟨gm, o + j, none⟩ = some (.int .i64 u)
  few : ms.length ≤ 200
  lim : C.length ≤ 100000
  ok : okl C
def M0 (ms : List Int) (k : Nat) : Nat → Int := fun j => if j < k then ms.getD j 0 else 0
theorem M0_succ (ms : List Int) (k : Nat) : upd (M0 ms k) k (ms.getD k 0) = M0 ms (k + 1) := by
  funext j
  unfold upd M0
  by_cases e : j = k
  · subst e; rw [if_pos rfl, if_pos (by omega)]
  · rw [if_neg e]
    by_cases c : j < k
    · rw [if_pos c, if_pos (by omega)]
    · rw [if_neg c, if_neg (by omega)]
theorem M0_all (ms : List Int) : M0 ms ms.length = fun j => ms.getD j 0 := by
  funext j
  unfold M0
  split
  · rfl
  · rename_i c
    rw [List.getD_eq_getElem?_getD, List.getElem?_eq_none (by omega)]
    rfl
set_option maxRecDepth 100000 in
set_option maxHeartbeats 16000000 in
theorem play_c {w : World} {b : Nat} {C : List Ins} {ca : Option Addr} {cc : Nat} {ms : List Int} {aM : Option Addr} (cM : Nat) (h : PlayAt w b C (.slice ca C.length cc) ms aM) {n : Nat} {sF : Ma} (hn : n < 100000)
    (hg : go C n ⟨0, fun _ => 0, fun j => ms.getD j 0, []⟩ = some sF) (hh : C[sF.pc]? = some .halt) :
    Calls Tryz.prog 34 #[PT b, .slice ca C.length cc, .slice aM ms.length cM] w fun x w' => x = .returned (.bool true) ∧ MAt w' b w.heap.size sF.R sF.M (sF.seen ++ [(sF.pc : Int)]) ∧ But b w w' := by
  have bl := h.mach.lt
  have HM := hide h.mem
  have HC := hide h.code
  have HO := hide h.ok
  have hgb : ∀ g, (Value.slice ca C.length cc).ownBlock = some g → g ≠ b := fun g e => by
    obtain ⟨_, _, k1⟩ := own_kind h.code e
    obtain ⟨_, _, k2⟩ := at_kind h.mach
    exact kind_ne k1 k2 (by decide)
  have HGB := hide hgb
  clear hgb
  have h2 := h.few
  have hl := h.lim
  have h0 : MAt w b w.heap.size (fun _ => 0) (M0 ms 0) [] := by
    have e : M0 ms 0 = fun _ => 0 := by funext j; unfold M0; rw [if_neg (by omega)]
    rw [e]
    exact ⟨⟨.slice none 0 0, h.mach, ⟨rfl, Or.inl ⟨rfl, rfl⟩⟩⟩, bl⟩
  have HG := hide hg
  have HH := hide hh
  clear h hg hh
  go_enter Tryz.func34, Tryz.ntmps34
  go_wp2_with fail
  go_loopg [7] ms.length (fun gk i wr => ∃ k : Nat, k + gk = ms.length ∧ i = .int .i64 (k : Int) ∧ MAt wr b w.heap.size (fun _ => 0) (M0 ms k) [] ∧ But b w wr)
  case atStart => exact ⟨0, by omega, rfl, h0, But.refl _ _⟩
  case round =>
    obtain ⟨k, hk, rfl, hr, Bk⟩ := hrel
    cases gk with
    | succ g1 =>
      have hz : (k : Int) < (ms.length : Int) := by omega
      have hz2 : (k : Int) < 256 := by omega
      obtain ⟨u, hu⟩ : ∃ u, ms[k]? = some u := ⟨_, List.getElem?_eq_getElem (by omega)⟩
      obtain ⟨gm, o, rfl, hgm, hgb, hcm⟩ := HM.out k u hu
      have vm := (World.cell?_of_block (a := ⟨gm, o + k, none⟩) (Bk.block gm hgm hgb)).trans hcm
      obtain ⟨cm, fm⟩ := hr.mem (a := k) (by omega)
      have hs := (hr.of_block (w' := wr.drew) fun _ _ => rfl).setM (a := k) (by omega) u
      have eu : ms.getD k 0 = u := by rw [List.getD_eq_getElem?_getD, hu]; rfl
      have hs' := hs
      rw [← eu, M0_succ, eu] at hs'
      have HS := hide hs'
      have rl := hr.lt
      generalize M0 ms k k = mk at *
      clear hs hs' hr hu hcm eu
      go_upto_region 4 with fail
      go_region
      all_goals
        go_wp2_with fail
        go_roundg g1
        case measure => omega
        case rel => exact ⟨k + 1, by omega, by go_num, HS.out, (Bk.drew).set _ _⟩
    | zero =>
      have hkk : k = ms.length := by omega
      subst hkk
      rw [M0_all] at hr
      have hz : ¬ (ms.length : Int) < (ms.length : Int) := by omega
      have HR := hide hr
      have hblo : b < w.heap.size := bl
      clear hr h0 HM hk
      go_wp2_with fail
      go_loopg [8, 9] (n + 1) (fun gk pc i wq => ∃ (k : Nat) (s : Ma), k + gk = n + 1 ∧ 1 ≤ gk ∧ i = .int .i64 (k : Int) ∧ pc = .int .i64 (s.pc : Int) ∧ Hid (go C (gk - 1) s = some sF) ∧ MAt wq b w.heap.size s.R s.M s.seen ∧ But b w wq ∧ s.seen.length ≤ 3 * k)
      case atStart => exact ⟨0, _, by omega, by omega, rfl, rfl, HG.out, HR.out, Bk, Nat.zero_le _⟩
      case round =>
        obtain ⟨k, s, hk, hg1, rfl, rfl, HGo, hr, Bq, hse⟩ := hrel
        obtain ⟨m, rfl⟩ : ∃ m, gk = m + 1 := ⟨gk - 1, by omega⟩
        rw [Nat.add_sub_cancel] at HGo
        obtain ⟨i, hi, hst⟩ : ∃ i, C[s.pc]? = some i ∧ Hid ((∃ s1 m', m = m' + 1 ∧ step i s = some s1 ∧ go C m' s1 = some sF) ∨ (m = 0 ∧ i = .halt ∧ s = sF)) := by
          cases m with
          | zero =>
            have e := go_zero HGo.out
            exact ⟨.halt, by rw [e]; exact HH.out, Or.inr ⟨rfl, rfl, e⟩⟩
          | succ m' =>
            obtain ⟨i, s1, h1, h2, h3⟩ := go_succ HGo.out
            exact ⟨i, h1, Or.inl ⟨s1, m', rfl, h2, h3⟩⟩
        have hpl : s.pc < C.length := (List.getElem?_eq_some_iff.1 hi).1
        have hoi := hide (HO.out i (List.mem_of_getElem? hi))
        obtain ⟨n0, n1, n2, n3, n4, hn⟩ := inN_form i
        obtain ⟨g, rfl⟩ : ∃ g, ca = some ⟨g, 0, none⟩ := by
          rcases Joins.ownsRow_forms HC.out with ⟨_, h9⟩ | ⟨g, _, h9⟩
          · omega
          · cases h9; exact ⟨g, rfl⟩
        have hgl := (HC.out.lt g rfl).2
        have gne := HGB.out g rfl
        obtain ⟨q0, q1, q2, q3, q4⟩ := code_cell HC.out hi hn
        have eg := Bq.block g hgl gne
        have zq := Bq.size
        have c0 := (World.cell?_of_block (a := ⟨g, 5 * s.pc, none⟩) eg).trans q0
        have c1 := (World.cell?_of_block (a := ⟨g, 5 * s.pc + 1, none⟩) eg).trans q1
        have c2 := (World.cell?_of_block (a := ⟨g, 5 * s.pc + 2, none⟩) eg).trans q2
        have c3 := (World.cell?_of_block (a := ⟨g, 5 * s.pc + 3, none⟩) eg).trans q3
        have c4 := (World.cell?_of_block (a := ⟨g, 5 * s.pc + 4, none⟩) eg).trans q4
        have e5 : s.pc * 5 = 5 * s.pc := by omega
        have lk : (k : Int) < 1000000 := by omega
        have lp : (s.pc : Int) < (C.length : Int) := by omega
        have lp0 : (0 : Int) ≤ (s.pc : Int) := by omega
        have hro : Calls Tryz.prog 53 #[PT b, .agg #[.int .i64 n0, .int .i64 n1, .int .i64 n2, .int .i64 n3, .int .i64 n4]] (wr.alloc (.cells #[.int .i64 n0, .int .i64 n1, .int .i64 n2, .int .i64 n3, .int .i64 n4] 58 (0, 0))) fun x w' => x = .returned (.bool true) ∧ Below (wr.alloc (.cells #[.int .i64 n0, .int .i64 n1, .int .i64 n2, .int .i64 n3, .int .i64 n4] 58 (0, 0))).heap.size (wr.alloc (.cells #[.int .i64 n0, .int .i64 n1, .int .i64 n2, .int .i64 n3, .int .i64 n4] 58 (0, 0))) w' := by
          have hra : MAt (wr.alloc (.cells #[.int .i64 n0, .int .i64 n1, .int .i64 n2, .int .i64 n3, .int .i64 n4] 58 (0, 0))) b w.heap.size s.R s.M s.seen := hr.of_block fun _ hk => heap_alloc_old _ _ _ hk
          rcases hst.out with ⟨s1, _, _, h, _⟩ | h
          · exact right_c hra i hoi.out (Or.inl h) hn
          · exact right_c (s' := s) hra i hoi.out (Or.inr h.2.1) hn
        have bxn := At.alloc_new wr [.int .i64 n0, .int .i64 n1, .int .i64 n2, .int .i64 n3, .int .i64 n4] 58
        have BA : Below wr.heap.size wr (wr.alloc (.cells #[.int .i64 n0, .int .i64 n1, .int .i64 n2, .int .i64 n3, .int .i64 n4] 58 (0, 0))) := (Below.refl _ _).alloc (Nat.le_refl _) _
        have HBX := hide bxn
        have HBA := hide BA
        have HRR := hide hr
        have HBq := hide Bq
        have Hn := hide hn
        have hbl := hr.lt
        clear bxn BA hr Bq hn hi eg q0 q1 q2 q3 q4 HGo
        go_wp2_with fail
        refine hro.mono ?_
        rintro x w1 ⟨rfl, B1⟩
        have BB := HBA.out.trans (B1.mono HBA.out.size)
        have hr1 := HRR.out.of_block (w' := w1) fun q hq => BB.block q hq
        obtain ⟨sv, aS, oS⟩ := hr1.rows
        have cs := (aS.cell 264).trans mc_seen
        have fs := aS.frozen 264
        obtain ⟨sa, sc, rfl⟩ : ∃ sa sc, sv = .slice sa s.seen.length sc := by
          rcases Joins.ownsRow_forms oS with ⟨rfl, h0⟩ | ⟨g, c, rfl⟩
          · exact ⟨none, 0, by rw [h0]⟩
          · exact ⟨_, _, rfl⟩
        obtain ⟨j0, ji, jz0, jz1, jz2⟩ := info_parts info_int
        have nbs : ¬ (Value.slice sa s.seen.length sc).ownBlock = some b := fun e => by have := (oS.lt _ e).1; omega
        have hb1 := hr1.lt
        have hse2 : s.seen.length ≤ 400000 := by omega
        have zw : w.heap.size ≤ w1.heap.size := by have := BB.size; have := HBq.out.size; omega
        have HaS := hide aS
        have HoS := hide oS
        have HBB := hide BB
        have rbx := HBX.out.of_block (B1.block _ HBX.out.lt)
        have HBX1 := hide rbx
        clear aS oS hr1 hro BB B1 rbx
        go_upto_region 14 with (at_builtin; refine wpList_append_row1 _ rfl _ _ 32 rfl 3 j0 (.int .i64 0) 1 8 Tryz.underlying32 ji jz0 jz1 jz2 rfl (by decide) _ s.seen.length (ints s.seen) rfl (by exact World.ownsRow.alloc (Joins.ownsRow_le HoS.out (Nat.zero_le _)) _) ⟨w1.heap.size, 0, none⟩ 1 1 [.int .i64 (s.pc : Int)] rfl rfl (by exact row_new w1 [.int .i64 (s.pc : Int)] _) (by intro u hu; simp only [List.mem_singleton] at hu; subst hu; rfl) (few_le (by omega)) (by omega) Nat.one_pos ?_; intro gg cap3 w3 hrow hgr hkk; have aW3 := (HaS.out.alloc (.cells #[.int .i64 (s.pc : Int)] 3 (0, 0))).of_block (hgr.block b (by show b < (World.alloc _ _).heap.size; rw [size_alloc]; omega) (fun e => nbs e.symm)); have cw := (aW3.cell 264).trans mc_seen; have fw := aW3.frozen 264; have HA3 := hide aW3; have HR3 := hide hrow; have HGr := hide hgr; have HKk := hide hkk; clear aW3 hrow hgr hkk)
        have hm := MAt.grow (w3 := w3) (S' := s.seen ++ [(s.pc : Int)]) (nv := .slice (some ⟨gg, 0, none⟩) (s.seen.length + 1) cap3) HaS.out HoS.out bl zw (by
          have e3 : ints (s.seen ++ [(s.pc : Int)]) = ints s.seen ++ [.int .i64 (s.pc : Int)] := by unfold ints; simp
          rw [List.length_append, e3]
          exact HR3.out) ((HGr.out.block b (by show b < (World.alloc _ _).heap.size; rw [size_alloc]; omega) (fun e => nbs e.symm)).trans (heap_alloc_old _ _ _ hb1)) (fun q e => (HKk.out q e).imp id (fun e' => by have e2 : (World.alloc _ _).heap.size ≤ q := e'; rw [size_alloc] at e2; omega))
        have keep4 : ∀ q, q < w1.heap.size → q ≠ b → ¬ (Value.slice sa s.seen.length sc).ownBlock = some q → (w3.setCell ⟨b, 264, none⟩ (.slice (some ⟨gg, 0, none⟩) (s.seen.length + 1) cap3)).heap[q]? = w1.heap[q]? := fun q h1 h2 h3 => (heap_setCell_other _ ⟨b, 264, none⟩ q _ h2).trans ((HGr.out.block q (by show q < (World.alloc _ _).heap.size; rw [size_alloc]; omega) (fun e => h3 e.symm)).trans (heap_alloc_old _ _ _ h1))
        have z3 : w1.heap.size + 1 ≤ w3.heap.size := by have e2 : (World.alloc _ _).heap.size ≤ _ := HGr.out.size; rw [size_alloc] at e2; exact e2
        have B4 : But b w (w3.setCell ⟨b, 264, none⟩ (.slice (some ⟨gg, 0, none⟩) (s.seen.length + 1) cap3)) := by
          have B1' := HBq.out.trans (below_but HBB.out)
          refine ⟨(HGr.out.os.trans rfl).trans B1'.os, (HGr.out.tape.trans rfl).trans B1'.tape, (HGr.out.output.trans rfl).trans B1'.output, by rw [World.size_setCell]; omega, fun q h1 h2 => ?_⟩
          exact (keep4 q (by omega) h2 (fun e => by have := (HoS.out.lt q e).1; omega)).trans (B1'.block q h1 h2)
        have bx4 : At (w3.setCell ⟨b, 264, none⟩ (.slice (some ⟨gg, 0, none⟩) (s.seen.length + 1) cap3)) wr.heap.size 58 [.int .i64 n0, .int .i64 n1, .int .i64 n2, .int .i64 n3, .int .i64 n4] := HBX1.out.of_block (keep4 _ HBX1.out.lt (by omega) (fun e => by
          obtain ⟨_, _, k1⟩ := own_kind HoS.out e
          obtain ⟨_, _, k2⟩ := at_kind HBX1.out
          exact kind_ne k1 k2 (by decide) rfl))
        have hbx : b ≠ wr.heap.size := by omega
        have zwr := HBq.out.size
        have zbx : w.heap.size ≤ wr.heap.size := zwr
        clear keep4 z3 HGr HKk HR3 HA3 HaS HoS HBX1 HBB HBX HBA HRR HBq cw fw cs fs c0 c1 c2 c3 c4
        have hCl : C.length ≤ 100000 := hl
        generalize w3.setCell ⟨b, 264, none⟩ (.slice (some ⟨gg, 0, none⟩) (s.seen.length + 1) cap3) = W4 at *
        generalize wr.heap.size = BX at *
        have k0 := bx4.cell 0
        have k1 := bx4.cell 1
        have k2 := bx4.cell 2
        have k3 := bx4.cell 3
        have k4 := bx4.cell 4
        simp only [List.getElem?_cons_zero, List.getElem?_cons_succ] at k0 k1 k2 k3 k4
        have lbx := bx4.lt
        have lb4 := hm.lt
        obtain ⟨epc, epc2⟩ := pc_next (n := s.pc) (by omega)
        obtain ⟨ekk, ekk2⟩ := pc_next (n := k) (by omega)
        have Hm := hide hm
        have HB4 := hide B4
        have Hbx := hide bx4
        have Hhse := hide hse
        have hkn : Hid (k + (m + 1) = n + 1) := hk
        clear hm B4 bx4 hse hk hse2 zw hl hpl lp lp0 lk e5
        cases i with
        | kst a v =>
          as_aux_lemma =>
          have hn := Hn.out
          simp only [inN, List.cons.injEq, and_true] at hn
          obtain ⟨rfl, rfl, rfl, rfl, rfl⟩ := hn
          clear Hn
          obtain ⟨s1, m', rfl, hs, hgo⟩ := hst.out.resolve_right (fun h => by cases h.2.1)
          simp only [step] at hs
          split at hs
          · rename_i hc
            cases hs
            have HGO := hide hgo
            clear hgo hst
            obtain ⟨ca0, fa0⟩ := (Hm.out.of_block (w' := W4.drew) fun _ _ => rfl).reg hc
            have ca : W4.cell? ⟨b, a, none⟩ = some (.int .i64 (s.R a)) := ca0
            have fa : W4.frozen? ⟨b, a, none⟩ = false := fa0
            have a8 := lt8 hc
            go_upto_region 22 with fail
            go_region
            all_goals
              go_wp2_with fail
              go_roundg (m' + 1)
              case measure => omega
              case rel => exact ⟨k + 1, _, rounds1 hkn.out, Nat.succ_le_succ (Nat.zero_le _), by first | rfl | go_num, by first | rfl | go_num, HGO.out, (Hm.out.of_block (w' := W4.drew) fun _ _ => rfl).setR hc v, (HB4.out.drew).set a _, seen1 Hhse.out⟩
          · cases hs
        | bin o a p q =>
          have hn := Hn.out
          simp only [inN, List.cons.injEq, and_true] at hn
          obtain ⟨rfl, rfl, rfl, rfl, rfl⟩ := hn
          clear Hn
          obtain ⟨s1, m', rfl, hs, hgo⟩ := hst.out.resolve_right (fun h => by cases h.2.1)
          simp only [step] at hs
          split at hs
          · rename_i hc
            cases hs
            have HGO := hide hgo
            clear hgo hst
            obtain ⟨SS, HSS⟩ : ∃ SS : List Int, Hid (SS = s.seen ++ [(s.pc : Int)]) := ⟨_, rfl⟩
            have hm4 : MAt W4 b w.heap.size s.R s.M SS := by rw [HSS.out]; exact Hm.out
            have hSS : SS.length ≤ 400000 := by rw [HSS.out, List.length_append]; have := Hhse.out; have := hkn.out; simp; omega
            have HM4 := hide hm4
            have lo4 : w.heap.size ≤ W4.heap.size := HB4.out.size
            clear hm4
            have a8 := lt8 hc.1
            have p8 := lt8 hc.2.1
            have q8 := lt8 hc.2.2
            by_cases ho : o = 47
            · subst ho
              have HGO2 : Hid (go C m' ⟨s.pc + 1, upd s.R a (V.opf 47 (s.R p) (s.R q)), s.M, SS ++ [s.R p, s.R q]⟩ = some sF) := by
                have h9 := HGO.out
                rw [if_pos rfl] at h9
                rw [HSS.out, List.append_assoc]
                exact h9
              have e9 : opn 47 = 9 := rfl
              rw [e9] at Hbx k0
              clear e9
              obtain ⟨cp4, _⟩ := HM4.out.reg hc.2.1
              obtain ⟨cq4, _⟩ := HM4.out.reg hc.2.2
              obtain ⟨sa5, sc5, cS, fS, aS, oS, nbs5⟩ := (HM4.out.of_block (w' := W4.drew) fun _ _ => rfl).ready
              have cS' : W4.cell? ⟨b, 264, none⟩ = some (.slice sa5 SS.length sc5) := cS
              have nkb : ¬ (Value.slice sa5 SS.length sc5).ownBlock = some BX := fun e => by
                obtain ⟨_, _, k9⟩ := own_kind oS e
                obtain ⟨_, _, k8⟩ := at_kind (Hbx.out.of_block (w' := W4.drew) rfl)
                exact kind_ne k9 k8 (by decide) rfl
              have HaS5 := hide aS
              have HoS5 := hide oS
              clear cS fS aS oS
              go_upto_region 17 with fail
              go_cut [] from 72 to 94 (fun wr => MAt wr b w.heap.size s.R s.M (SS ++ [(s.R p), (s.R q)]) ∧ But b w wr ∧ At wr BX 58 [.int .i64 9, .int .i64 (a : Int), .int .i64 (p : Int), .int .i64 (q : Int), .int .i64 0])
              case first =>
                have hS0 : (fun (w' : World) => w'.cell? ⟨BX, 2, none⟩ = some (.int .i64 (p : Int)) ∧ w'.cell? ⟨BX, 3, none⟩ = some (.int .i64 (q : Int)) ∧ w'.cell? ⟨b, p, none⟩ = some (.int .i64 (s.R p)) ∧ w'.cell? ⟨b, q, none⟩ = some (.int .i64 (s.R q))) W4.drew := ⟨k2, k3, cp4, cq4⟩
                have hSa : (fun (w' : World) => w'.cell? ⟨BX, 2, none⟩ = some (.int .i64 (p : Int)) ∧ w'.cell? ⟨BX, 3, none⟩ = some (.int .i64 (q : Int)) ∧ w'.cell? ⟨b, p, none⟩ = some (.int .i64 (s.R p)) ∧ w'.cell? ⟨b, q, none⟩ = some (.int .i64 (s.R q))) (W4.drew.alloc (.cells #[.int .i64 (s.R p), .int .i64 (s.R q)] 3 (0, 0))) := ⟨(World.cell?_of_block (a := ⟨BX, 2, none⟩) (heap_alloc_old _ _ _ lbx)).trans k2, (World.cell?_of_block (a := ⟨BX, 3, none⟩) (heap_alloc_old _ _ _ lbx)).trans k3, (World.cell?_of_block (a := ⟨b, p, none⟩) (heap_alloc_old _ _ _ lb4)).trans cp4, (World.cell?_of_block (a := ⟨b, q, none⟩) (heap_alloc_old _ _ _ lb4)).trans cq4⟩
                refine wp_region_held_drew (S := fun (w' : World) => w'.cell? ⟨BX, 2, none⟩ = some (.int .i64 (p : Int)) ∧ w'.cell? ⟨BX, 3, none⟩ = some (.int .i64 (q : Int)) ∧ w'.cell? ⟨b, p, none⟩ = some (.int .i64 (s.R p)) ∧ w'.cell? ⟨b, q, none⟩ = some (.int .i64 (s.R q))) (by kernel_rfl) hS0 (fun hHeld => ?_)
                refine wpAnyH_take (i := 0) (v := (PT b)) rfl (by kernel_rfl) (by kernel_rfl) (by kernel_rfl) (fun _ _ _ h => h) (Or.inl ⟨by rfl, by intro w9 hSw; (try dsimp only at hSw); obtain ⟨t1, t2, t3, t4⟩ := hSw; clear cp4 cq4 k0 k1 k2 k3 k4; go_simp⟩) hHeld ?_
                refine wpAnyH_take (i := 1) (v := (PT b)) rfl (by kernel_rfl) (by kernel_rfl) (by kernel_rfl) (fun _ _ _ h => h) (Or.inl ⟨by rfl, by intro w9 hSw; (try dsimp only at hSw); obtain ⟨t1, t2, t3, t4⟩ := hSw; clear cp4 cq4 k0 k1 k2 k3 k4; go_simp⟩) hHeld ?_
                refine wpAnyH_take (i := 2) (v := (PT b)) rfl (by kernel_rfl) (by kernel_rfl) (by kernel_rfl) (fun _ _ _ h => h) (Or.inl ⟨by rfl, by intro w9 hSw; (try dsimp only at hSw); obtain ⟨t1, t2, t3, t4⟩ := hSw; clear cp4 cq4 k0 k1 k2 k3 k4; go_simp⟩) hHeld ?_
                refine wpAnyH_take (i := 3) (v := (.pointer (some ⟨b, 264, none⟩))) rfl (by kernel_rfl) (by kernel_rfl) (by kernel_rfl) (fun _ _ _ h => h) (Or.inl ⟨by rfl, by intro w9 hSw; (try dsimp only at hSw); obtain ⟨t1, t2, t3, t4⟩ := hSw; clear cp4 cq4 k0 k1 k2 k3 k4; go_simp⟩) hHeld ?_
                refine wpAnyH_take (i := 5) (v := (PT b)) rfl (by kernel_rfl) (by kernel_rfl) (by kernel_rfl) (fun _ _ _ h => h) (Or.inl ⟨by rfl, by intro w9 hSw; (try dsimp only at hSw); obtain ⟨t1, t2, t3, t4⟩ := hSw; clear cp4 cq4 k0 k1 k2 k3 k4; go_simp⟩) hHeld ?_
                refine wpAnyH_take (i := 6) (v := (.pointer (some ⟨BX, 2, none⟩))) rfl (by kernel_rfl) (by kernel_rfl) (by kernel_rfl) (fun _ _ _ h => h) (Or.inl ⟨by rfl, by intro w9 hSw; (try dsimp only at hSw); obtain ⟨t1, t2, t3, t4⟩ := hSw; clear cp4 cq4 k0 k1 k2 k3 k4; go_simp⟩) hHeld ?_
                refine wpAnyH_take (i := 7) (v := (.int .i64 (p : Int))) rfl (by kernel_rfl) (by kernel_rfl) (by kernel_rfl) (fun _ _ _ h => h) (Or.inl ⟨by rfl, by intro w9 hSw; (try dsimp only at hSw); obtain ⟨t1, t2, t3, t4⟩ := hSw; clear cp4 cq4 k0 k1 k2 k3 k4; go_simp⟩) hHeld ?_
                refine wpAnyH_take (i := 8) (v := (PT b)) rfl (by kernel_rfl) (by kernel_rfl) (by kernel_rfl) (fun _ _ _ h => h) (Or.inl ⟨by rfl, by intro w9 hSw; (try dsimp only at hSw); obtain ⟨t1, t2, t3, t4⟩ := hSw; clear cp4 cq4 k0 k1 k2 k3 k4; go_simp⟩) hHeld ?_
                refine wpAnyH_take (i := 9) (v := (.pointer (some ⟨b, 0, none⟩))) rfl (by kernel_rfl) (by kernel_rfl) (by kernel_rfl) (fun _ _ _ h => h) (Or.inl ⟨by rfl, by intro w9 hSw; (try dsimp only at hSw); obtain ⟨t1, t2, t3, t4⟩ := hSw; clear cp4 cq4 k0 k1 k2 k3 k4; go_simp⟩) hHeld ?_
                refine wpAnyH_take (i := 10) (v := (.pointer (some ⟨b, p, none⟩))) rfl (by kernel_rfl) (by kernel_rfl) (by kernel_rfl) (fun _ _ _ h => h) (Or.inl ⟨by rfl, by intro w9 hSw; (try dsimp only at hSw); obtain ⟨t1, t2, t3, t4⟩ := hSw; clear cp4 cq4 k0 k1 k2 k3 k4; go_simp⟩) hHeld ?_
                refine wpAnyH_take (i := 11) (v := (.int .i64 (s.R p))) rfl (by kernel_rfl) (by kernel_rfl) (by kernel_rfl) (fun _ _ _ h => h) (Or.inl ⟨by rfl, by intro w9 hSw; (try dsimp only at hSw); obtain ⟨t1, t2, t3, t4⟩ := hSw; clear cp4 cq4 k0 k1 k2 k3 k4; go_simp⟩) hHeld ?_
                refine wpAnyH_take (i := 12) (v := (PT b)) rfl (by kernel_rfl) (by kernel_rfl) (by kernel_rfl) (fun _ _ _ h => h) (Or.inl ⟨by rfl, by intro w9 hSw; (try dsimp only at hSw); obtain ⟨t1, t2, t3, t4⟩ := hSw; clear cp4 cq4 k0 k1 k2 k3 k4; go_simp⟩) hHeld ?_
                refine wpAnyH_take (i := 13) (v := (.pointer (some ⟨BX, 3, none⟩))) rfl (by kernel_rfl) (by kernel_rfl) (by kernel_rfl) (fun _ _ _ h => h) (Or.inl ⟨by rfl, by intro w9 hSw; (try dsimp only at hSw); obtain ⟨t1, t2, t3, t4⟩ := hSw; clear cp4 cq4 k0 k1 k2 k3 k4; go_simp⟩) hHeld ?_
                refine wpAnyH_take (i := 14) (v := (.int .i64 (q : Int))) rfl (by kernel_rfl) (by kernel_rfl) (by kernel_rfl) (fun _ _ _ h => h) (Or.inl ⟨by rfl, by intro w9 hSw; (try dsimp only at hSw); obtain ⟨t1, t2, t3, t4⟩ := hSw; clear cp4 cq4 k0 k1 k2 k3 k4; go_simp⟩) hHeld ?_
                refine wpAnyH_take (i := 15) (v := (PT b)) rfl (by kernel_rfl) (by kernel_rfl) (by kernel_rfl) (fun _ _ _ h => h) (Or.inl ⟨by rfl, by intro w9 hSw; (try dsimp only at hSw); obtain ⟨t1, t2, t3, t4⟩ := hSw; clear cp4 cq4 k0 k1 k2 k3 k4; go_simp⟩) hHeld ?_
                refine wpAnyH_take (i := 16) (v := (.pointer (some ⟨b, 0, none⟩))) rfl (by kernel_rfl) (by kernel_rfl) (by kernel_rfl) (fun _ _ _ h => h) (Or.inl ⟨by rfl, by intro w9 hSw; (try dsimp only at hSw); obtain ⟨t1, t2, t3, t4⟩ := hSw; clear cp4 cq4 k0 k1 k2 k3 k4; go_simp⟩) hHeld ?_
                refine wpAnyH_take (i := 17) (v := (.pointer (some ⟨b, q, none⟩))) rfl (by kernel_rfl) (by kernel_rfl) (by kernel_rfl) (fun _ _ _ h => h) (Or.inl ⟨by rfl, by intro w9 hSw; (try dsimp only at hSw); obtain ⟨t1, t2, t3, t4⟩ := hSw; clear cp4 cq4 k0 k1 k2 k3 k4; go_simp⟩) hHeld ?_
                refine wpAnyH_take (i := 18) (v := (.int .i64 (s.R q))) rfl (by kernel_rfl) (by kernel_rfl) (by kernel_rfl) (fun _ _ _ h => h) (Or.inl ⟨by rfl, by intro w9 hSw; (try dsimp only at hSw); obtain ⟨t1, t2, t3, t4⟩ := hSw; clear cp4 cq4 k0 k1 k2 k3 k4; go_simp⟩) hHeld ?_
                refine wpAnyH_ready (rs := [4, 19]) (by kernel_rfl) (by simp) ?_
                refine AllReadyH.cons rfl (fun K hK => ?_) (AllReadyH.cons rfl (fun K hK => ?_) AllReadyH.nil)
                · go_simp
                  refine hK.out _ _ hS0 (fun hHeld => ?_)
                  clear hK K
                  refine wpAnyH_ready (rs := [19]) (by kernel_rfl) (by simp) ?_
                  refine AllReadyH.cons rfl (fun K hK => ?_) AllReadyH.nil
                  go_simp
                  refine hK.out _ _ hSa (fun hHeld => ?_)
                  clear hK K
                  refine wpAnyH_ready (rs := [20]) (by kernel_rfl) (by simp) ?_
                  refine AllReadyH.cons rfl (fun K hK => ?_) AllReadyH.nil
                  refine step_append_row1 rfl (.tmp 76) (.tmp 91) 32 rfl 3 j0 (.int .i64 0) 1 8 Tryz.underlying32 ji jz0 jz1 jz2 rfl (by decide) (.slice sa5 SS.length sc5) SS.length (ints SS) rfl (by exact World.ownsRow.alloc (Joins.ownsRow_le HoS5.out (Nat.zero_le _)) _) ⟨W4.heap.size, 0, none⟩ 2 2 [.int .i64 (s.R p), .int .i64 (s.R q)] rfl rfl (by exact row_new W4.drew [.int .i64 (s.R p), .int .i64 (s.R q)] _) (by intro u hu; simp only [List.mem_cons, List.not_mem_nil, or_false] at hu; rcases hu with rfl | rfl <;> rfl) (few_le (by omega)) (by omega) (by decide) ?_
                  intro gg5 cap5 w5 hrow5 hgr5 hkk5
                  have aW5 := (HaS5.out.alloc (.cells #[.int .i64 (s.R p), .int .i64 (s.R q)] 3 (0, 0))).of_block (hgr5.block b (by show b < (World.alloc _ _).heap.size; rw [size_alloc]; have := HaS5.out.lt; omega) (fun e => nbs5 e.symm))
                  have cw5 := (aW5.cell 264).trans mc_seen
                  have fw5 := aW5.frozen 264
                  have bxw := (Hbx.out.alloc (.cells #[.int .i64 (s.R p), .int .i64 (s.R q)] 3 (0, 0))).of_block (hgr5.block BX (by show BX < (World.alloc _ _).heap.size; rw [size_alloc]; exact Nat.lt_succ_of_lt lbx) (fun e => nkb e.symm))
                  have hS5 : (fun (w' : World) => w'.cell? ⟨BX, 2, none⟩ = some (.int .i64 (p : Int)) ∧ w'.cell? ⟨BX, 3, none⟩ = some (.int .i64 (q : Int)) ∧ w'.cell? ⟨b, p, none⟩ = some (.int .i64 (s.R p)) ∧ w'.cell? ⟨b, q, none⟩ = some (.int .i64 (s.R q))) w5 := ⟨bxw.cell 2, bxw.cell 3, (aW5.cell p).trans (mc_reg hc.2.1), (aW5.cell q).trans (mc_reg hc.2.2)⟩
                  have hS6 : ∀ v, (fun (w' : World) => w'.cell? ⟨BX, 2, none⟩ = some (.int .i64 (p : Int)) ∧ w'.cell? ⟨BX, 3, none⟩ = some (.int .i64 (q : Int)) ∧ w'.cell? ⟨b, p, none⟩ = some (.int .i64 (s.R p)) ∧ w'.cell? ⟨b, q, none⟩ = some (.int .i64 (s.R q))) (w5.setCell ⟨b, 264, none⟩ v) := fun v => by
                    have aX := aW5.set 264 v
                    rw [mc_setS] at aX
                    have bX := bxw.set_other (a := ⟨b, 264, none⟩) (fun e => hbx e.symm) v
                    exact ⟨bX.cell 2, bX.cell 3, (aX.cell p).trans (mc_reg hc.2.1), (aX.cell q).trans (mc_reg hc.2.2)⟩
                  clear bxw
                  have HR5 := hide hrow5
                  have HGr5 := hide hgr5
                  have HKk5 := hide hkk5
                  clear aW5 hrow5 hgr5 hkk5
                  refine hK.out _ _ hS5 (fun hHeld => ?_)
                  clear hK K
                  refine wpAnyH_take (i := 21) (v := (PT b)) rfl (by kernel_rfl) (by kernel_rfl) (by kernel_rfl) (fun _ _ _ h => h) (Or.inl ⟨by rfl, by intro w9 hSw; (try dsimp only at hSw); obtain ⟨t1, t2, t3, t4⟩ := hSw; clear cp4 cq4 k0 k1 k2 k3 k4; go_simp⟩) hHeld ?_
                  refine wpAnyH_take (i := 22) (v := (.pointer (some ⟨b, 264, none⟩))) rfl (by kernel_rfl) (by kernel_rfl) (by kernel_rfl) (fun _ _ _ h => h) (Or.inl ⟨by rfl, by intro w9 hSw; (try dsimp only at hSw); obtain ⟨t1, t2, t3, t4⟩ := hSw; clear cp4 cq4 k0 k1 k2 k3 k4; go_simp⟩) hHeld ?_
                  refine wpAnyH_ready (rs := [23]) (by kernel_rfl) (by simp) ?_
                  refine AllReadyH.cons rfl (fun K hK => ?_) AllReadyH.nil
                  go_simp
                  refine hK.out _ _ (hS6 _) (fun hHeld => ?_)
                  clear hK K
                  refine wpAnyH_done (by kernel_rfl) ?_ _
                  go_wp2_with fail
                  go_meet
                  case rel =>
                    obtain ⟨hm5, kp5, bt5⟩ := MAt.grown (T := [(s.R p), (s.R q)]) (n := 2) rfl (HM4.out.of_block (w' := W4.drew) fun _ _ => rfl) lo4 HaS5.out HoS5.out (fun q hq => heap_alloc_old _ _ _ hq) (by rw [size_alloc]; exact Nat.le_succ _) rfl rfl rfl HR5.out HGr5.out HKk5.out
                    exact ⟨hm5, bt5 w rfl HB4.out.drew, Hbx.out.of_block (kp5 BX lbx (fun e => hbx e.symm) nkb)⟩
                · go_simp
                  refine hK.out _ _ hSa (fun hHeld => ?_)
                  clear hK K
                  refine wpAnyH_ready (rs := [4]) (by kernel_rfl) (by simp) ?_
                  refine AllReadyH.cons rfl (fun K hK => ?_) AllReadyH.nil
                  go_simp
                  refine hK.out _ _ hSa (fun hHeld => ?_)
                  clear hK K
                  refine wpAnyH_ready (rs := [20]) (by kernel_rfl) (by simp) ?_
                  refine AllReadyH.cons rfl (fun K hK => ?_) AllReadyH.nil
                  refine step_append_row1 rfl (.tmp 76) (.tmp 91) 32 rfl 3 j0 (.int .i64 0) 1 8 Tryz.underlying32 ji jz0 jz1 jz2 rfl (by decide) (.slice sa5 SS.length sc5) SS.length (ints SS) rfl (by exact World.ownsRow.alloc (Joins.ownsRow_le HoS5.out (Nat.zero_le _)) _) ⟨W4.heap.size, 0, none⟩ 2 2 [.int .i64 (s.R p), .int .i64 (s.R q)] rfl rfl (by exact row_new W4.drew [.int .i64 (s.R p), .int .i64 (s.R q)] _) (by intro u hu; simp only [List.mem_cons, List.not_mem_nil, or_false] at hu; rcases hu with rfl | rfl <;> rfl) (few_le (by omega)) (by omega) (by decide) ?_
                  intro gg5 cap5 w5 hrow5 hgr5 hkk5
                  have aW5 := (HaS5.out.alloc (.cells #[.int .i64 (s.R p), .int .i64 (s.R q)] 3 (0, 0))).of_block (hgr5.block b (by show b < (World.alloc _ _).heap.size; rw [size_alloc]; have := HaS5.out.lt; omega) (fun e => nbs5 e.symm))
                  have cw5 := (aW5.cell 264).trans mc_seen
                  have fw5 := aW5.frozen 264
                  have bxw := (Hbx.out.alloc (.cells #[.int .i64 (s.R p), .int .i64 (s.R q)] 3 (0, 0))).of_block (hgr5.block BX (by show BX < (World.alloc _ _).heap.size; rw [size_alloc]; exact Nat.lt_succ_of_lt lbx) (fun e => nkb e.symm))
                  have hS5 : (fun (w' : World) => w'.cell? ⟨BX, 2, none⟩ = some (.int .i64 (p : Int)) ∧ w'.cell? ⟨BX, 3, none⟩ = some (.int .i64 (q : Int)) ∧ w'.cell? ⟨b, p, none⟩ = some (.int .i64 (s.R p)) ∧ w'.cell? ⟨b, q, none⟩ = some (.int .i64 (s.R q))) w5 := ⟨bxw.cell 2, bxw.cell 3, (aW5.cell p).trans (mc_reg hc.2.1), (aW5.cell q).trans (mc_reg hc.2.2)⟩
                  have hS6 : ∀ v, (fun (w' : World) => w'.cell? ⟨BX, 2, none⟩ = some (.int .i64 (p : Int)) ∧ w'.cell? ⟨BX, 3, none⟩ = some (.int .i64 (q : Int)) ∧ w'.cell? ⟨b, p, none⟩ = some (.int .i64 (s.R p)) ∧ w'.cell? ⟨b, q, none⟩ = some (.int .i64 (s.R q))) (w5.setCell ⟨b, 264, none⟩ v) := fun v => by
                    have aX := aW5.set 264 v
                    rw [mc_setS] at aX
                    have bX := bxw.set_other (a := ⟨b, 264, none⟩) (fun e => hbx e.symm) v
                    exact ⟨bX.cell 2, bX.cell 3, (aX.cell p).trans (mc_reg hc.2.1), (aX.cell q).trans (mc_reg hc.2.2)⟩
                  clear bxw
                  have HR5 := hide hrow5
                  have HGr5 := hide hgr5
                  have HKk5 := hide hkk5
                  clear aW5 hrow5 hgr5 hkk5
                  refine hK.out _ _ hS5 (fun hHeld => ?_)
                  clear hK K
                  refine wpAnyH_take (i := 21) (v := (PT b)) rfl (by kernel_rfl) (by kernel_rfl) (by kernel_rfl) (fun _ _ _ h => h) (Or.inl ⟨by rfl, by intro w9 hSw; (try dsimp only at hSw); obtain ⟨t1, t2, t3, t4⟩ := hSw; clear cp4 cq4 k0 k1 k2 k3 k4; go_simp⟩) hHeld ?_
                  refine wpAnyH_take (i := 22) (v := (.pointer (some ⟨b, 264, none⟩))) rfl (by kernel_rfl) (by kernel_rfl) (by kernel_rfl) (fun _ _ _ h => h) (Or.inl ⟨by rfl, by intro w9 hSw; (try dsimp only at hSw); obtain ⟨t1, t2, t3, t4⟩ := hSw; clear cp4 cq4 k0 k1 k2 k3 k4; go_simp⟩) hHeld ?_
                  refine wpAnyH_ready (rs := [23]) (by kernel_rfl) (by simp) ?_
                  refine AllReadyH.cons rfl (fun K hK => ?_) AllReadyH.nil
                  go_simp
                  refine hK.out _ _ (hS6 _) (fun hHeld => ?_)
                  clear hK K
                  refine wpAnyH_done (by kernel_rfl) ?_ _
                  go_wp2_with fail
                  go_meet
                  case rel =>
                    obtain ⟨hm5, kp5, bt5⟩ := MAt.grown (T := [(s.R p), (s.R q)]) (n := 2) rfl (HM4.out.of_block (w' := W4.drew) fun _ _ => rfl) lo4 HaS5.out HoS5.out (fun q hq => heap_alloc_old _ _ _ hq) (by rw [size_alloc]; exact Nat.le_succ _) rfl rfl rfl HR5.out HGr5.out HKk5.out
                    exact ⟨hm5, bt5 w rfl HB4.out.drew, Hbx.out.of_block (kp5 BX lbx (fun e => hbx e.symm) nkb)⟩
              case rest =>
                as_aux_lemma =>
                obtain ⟨hm5, B5, bx5⟩ := hcut
                obtain ⟨W5, rfl⟩ : ∃ W5 : World, W5 = wc := ⟨_, rfl⟩
                have x0 := bx5.cell 0
                have x1 := bx5.cell 1
                have x2 := bx5.cell 2
                have x3 := bx5.cell 3
                simp only [List.getElem?_cons_zero, List.getElem?_cons_succ] at x0 x1 x2 x3
                have lb5 := hm5.lt
                have lbx5 := bx5.lt
                have HM5 := hide hm5
                have HB5 := hide B5
                clear hm5 B5 bx5 HoS5 HaS5 k0 k1 k2 k3 k4 cS'
                obtain ⟨ca, fa⟩ := HM5.out.reg hc.1
                obtain ⟨cp, _⟩ := HM5.out.reg hc.2.1
                obtain ⟨cq, _⟩ := HM5.out.reg hc.2.2
                have hrk := fun (w : World) => reckon_c 47 (by decide) (s.R p) (s.R q) w
                have hop : opn 47 = 9 := rfl
                rw [hop] at hrk
                generalize V.opf 47 (s.R p) (s.R q) = rv at *
                generalize s.R p = vp at *
                generalize s.R q = vq at *
                go_upto_region 18 with fail
                refine wp_region_still_tail 23 (by kernel_rfl) (by kernel_rfl) ?_
                simp only [List.take_succ_cons, List.take_zero, List.drop_succ_cons, List.drop_zero]
                iterate 19 still_step
                still_call (hrk _)
                iterate 3 still_step
                refine wpStill_nil ?_
                change wpList _ _ _ _ _ (World.drew W5)
                go_wp2_with fail
                go_roundg (m' + 1)
                case measure => omega
                case rel => exact ⟨k + 1, _, rounds1 hkn.out, Nat.succ_le_succ (Nat.zero_le _), by first | rfl | go_num, by first | rfl | go_num, HGO2.out, (HM5.out.of_block (w' := W5.drew) fun _ _ => rfl).setR hc.1 _, (HB5.out.drew).set a _, by rw [HSS.out, List.append_assoc]; exact seen3 Hhse.out (by simp)⟩
            · obtain ⟨nn, hgn, h15, h1, h10, h11, h12, h13, h14, h9⟩ : ∃ nn, opn o = nn ∧ ¬ nn = 15 ∧ ¬ nn = 1 ∧ ¬ nn = 10 ∧ ¬ nn = 11 ∧ ¬ nn = 12 ∧ ¬ nn = 13 ∧ ¬ nn = 14 ∧ ¬ nn = 9 := opn_ne hoi.out ho
              have HGO2 : Hid (go C m' ⟨s.pc + 1, upd s.R a (V.opf o (s.R p) (s.R q)), s.M, SS⟩ = some sF) := by
                have h9 := HGO.out
                rw [if_neg ho] at h9
                rw [HSS.out]
                exact h9
              rw [hgn] at k0
              obtain ⟨ca, fa⟩ := HM4.out.reg hc.1
              obtain ⟨cp, _⟩ := HM4.out.reg hc.2.1
              obtain ⟨cq, _⟩ := HM4.out.reg hc.2.2
              have hrk := fun (w : World) => reckon_c o hoi.out (s.R p) (s.R q) w
              rw [hgn] at hrk
              generalize V.opf o (s.R p) (s.R q) = rv at *
              generalize s.R p = vp at *
              generalize s.R q = vq at *
              go_upto_region 18 with fail
              refine wp_region_still_tail 23 (by kernel_rfl) (by kernel_rfl) ?_
              simp only [List.take_succ_cons, List.take_zero, List.drop_succ_cons, List.drop_zero]
              iterate 19 still_step
              still_call (hrk _)
              iterate 3 still_step
              refine wpStill_nil ?_
              change wpList _ _ _ _ _ (World.drew W4)
              go_wp2_with fail
              go_roundg (m' + 1)
              case measure => omega
              case rel => exact ⟨k + 1, _, rounds1 hkn.out, Nat.succ_le_succ (Nat.zero_le _), by first | rfl | go_num, by first | rfl | go_num, HGO2.out, (HM4.out.of_block (w' := W4.drew) fun _ _ => rfl).setR hc.1 _, (HB4.out.drew).set a _, by rw [HSS.out]; exact seen1 Hhse.out⟩
          · cases hs
        | sel a p q d =>
          as_aux_lemma =>
          have hn := Hn.out
          simp only [inN, List.cons.injEq, and_true] at hn
          obtain ⟨rfl, rfl, rfl, rfl, rfl⟩ := hn
          clear Hn
          obtain ⟨s1, m', rfl, hs, hgo⟩ := hst.out.resolve_right (fun h => by cases h.2.1)
          simp only [step] at hs
          split at hs
          · rename_i hc
            cases hs
            have HGO := hide hgo
            clear hgo hst
            obtain ⟨cp, _⟩ := Hm.out.reg hc.2.1
            obtain ⟨cq, _⟩ := Hm.out.reg hc.2.2.1
            obtain ⟨cd, _⟩ := Hm.out.reg hc.2.2.2
            obtain ⟨ca, fa⟩ := Hm.out.reg hc.1
            have a8 := lt8 hc.1
            have p8 := lt8 hc.2.1
            have q8 := lt8 hc.2.2.1
            have d8 := lt8 hc.2.2.2
            by_cases hz : s.R q = 0
            · rw [if_pos hz] at HGO
              have HRE := hide Hm.out
              have cq' := cq
              rw [hz] at cq'
              clear cq
              go_upto_region 24 with fail
              go_quiet (fail)
              go_upto_region 25 with fail
              go_quiet (fail)
              go_upto_region 27 with fail
              go_region
              all_goals
                go_wp2_with fail
                go_roundg (m' + 1)
                case measure => omega
                case rel => exact ⟨k + 1, _, rounds1 hkn.out, Nat.succ_le_succ (Nat.zero_le _), by first | rfl | go_num, by first | rfl | go_num, HGO.out, (by refine MAt.setR ?_ hc.1 _; exact Hm.out.of_block fun _ _ => rfl), (by refine But.set ?_ _ _; exact ⟨HB4.out.os, HB4.out.tape, HB4.out.output, HB4.out.size, HB4.out.block⟩), seen1 Hhse.out⟩
            · rw [if_neg hz] at HGO
              have HRE := hide Hm.out
              have cq' := cq
              generalize hvq : s.R q = vq at *
              go_upto_region 24 with fail
              go_quiet (fail)
              go_upto_region 25 with fail
              go_quiet (fail)
              go_upto_region 26 with fail
              go_quiet (fail)
              go_upto_region 27 with fail
              go_region
              all_goals
                go_wp2_with fail
                go_roundg (m' + 1)
                case measure => omega
                case rel => exact ⟨k + 1, _, rounds1 hkn.out, Nat.succ_le_succ (Nat.zero_le _), by first | rfl | go_num, by first | rfl | go_num, HGO.out, (by refine MAt.setR ?_ hc.1 _; exact Hm.out.of_block fun _ _ => rfl), (by refine But.set ?_ _ _; exact ⟨HB4.out.os, HB4.out.tape, HB4.out.output, HB4.out.size, HB4.out.block⟩), seen1 Hhse.out⟩
          · cases hs
        | ld a p =>
          have hn := Hn.out
          simp only [inN, List.cons.injEq, and_true] at hn
          obtain ⟨rfl, rfl, rfl, rfl, rfl⟩ := hn
          clear Hn
          obtain ⟨s1, m', rfl, hs, hgo⟩ := hst.out.resolve_right (fun h => by cases h.2.1)
          simp only [step] at hs
          split at hs
          · rename_i hc
            cases hs
            have HGO := hide hgo
            clear hgo hst
            obtain ⟨SS, HSS⟩ : ∃ SS : List Int, Hid (SS = s.seen ++ [(s.pc : Int)]) := ⟨_, rfl⟩
            have hm4 : MAt W4 b w.heap.size s.R s.M SS := by rw [HSS.out]; exact Hm.out
            have hSS : SS.length ≤ 400000 := by rw [HSS.out, List.length_append]; have := Hhse.out; have := hkn.out; simp; omega
            have HM4 := hide hm4
            have lo4 : w.heap.size ≤ W4.heap.size := HB4.out.size
            clear hm4
            obtain ⟨z, hz⟩ := Int.eq_ofNat_of_zero_le hc.2.2.1
            have hz8 : z < 256 := by have := hc.2.2.2; omega
            have z8 : (z : Int) < 256 := by omega
            have HGO2 : Hid (go C m' ⟨s.pc + 1, upd s.R a (s.M z), s.M, SS ++ [(z : Int)]⟩ = some sF) := by
              have h9 := HGO.out
              rw [hz, Int.toNat_natCast] at h9
              rw [HSS.out, List.append_assoc]
              exact h9
            obtain ⟨cp, _⟩ := HM4.out.reg hc.2.1
            rw [hz] at cp
            have a8 := lt8 hc.1
            have p8 := lt8 hc.2.1
            obtain ⟨sa5, sc5, cS, fS, aS, oS, nbs5⟩ := (HM4.out.of_block (w' := W4.drew) fun _ _ => rfl).ready
            have cS' : W4.cell? ⟨b, 264, none⟩ = some (.slice sa5 SS.length sc5) := cS
            have nkb : ¬ (Value.slice sa5 SS.length sc5).ownBlock = some BX := fun e => by
              obtain ⟨_, _, k9⟩ := own_kind oS e
              obtain ⟨_, _, k8⟩ := at_kind (Hbx.out.of_block (w' := W4.drew) rfl)
              exact kind_ne k9 k8 (by decide) rfl
            have HaS5 := hide aS
            have HoS5 := hide oS
            clear cS fS aS oS
            go_upto_region 29 with fail
            go_cut [] from 163 to 178 (fun wr => MAt wr b w.heap.size s.R s.M (SS ++ [(z : Int)]) ∧ But b w wr ∧ At wr BX 58 [.int .i64 11, .int .i64 (a : Int), .int .i64 (p : Int), .int .i64 0, .int .i64 0])
            case first =>
              go_region_law (refine step_append_row1 rfl (.tmp 167) (.tmp 175) 32 rfl 3 j0 (.int .i64 0) 1 8 Tryz.underlying32 ji jz0 jz1 jz2 rfl (by decide) (.slice sa5 SS.length sc5) SS.length (ints SS) rfl (by exact World.ownsRow.alloc (Joins.ownsRow_le HoS5.out (Nat.zero_le _)) _) ⟨W4.heap.size, 0, none⟩ 1 1 [.int .i64 (z : Int)] rfl rfl (by exact row_new W4.drew [.int .i64 (z : Int)] _) (by intro u hu; simp only [List.mem_cons, List.not_mem_nil, or_false] at hu; first | (subst hu; rfl) | (rcases hu with rfl | rfl <;> rfl)) (few_le (by omega)) (by omega) (by decide) ?_; intro gg5 cap5 w5 hrow5 hgr5 hkk5; have aW5 := (HaS5.out.alloc (.cells #[.int .i64 (z : Int)] 3 (0, 0))).of_block (hgr5.block b (by show b < (World.alloc _ _).heap.size; rw [size_alloc]; have := HaS5.out.lt; omega) (fun e => nbs5 e.symm)); have cw5 := (aW5.cell 264).trans mc_seen; have fw5 := aW5.frozen 264; have HR5 := hide hrow5; have HGr5 := hide hgr5; have HKk5 := hide hkk5; clear aW5 hrow5 hgr5 hkk5)
              all_goals
                go_wp2_with fail
                go_meet
                case rel =>
                  obtain ⟨hm5, kp5, bt5⟩ := MAt.grown (T := [(z : Int)]) (n := 1) rfl (HM4.out.of_block (w' := W4.drew) fun _ _ => rfl) lo4 HaS5.out HoS5.out (fun q hq => heap_alloc_old _ _ _ hq) (by rw [size_alloc]; exact Nat.le_succ _) rfl rfl rfl HR5.out HGr5.out HKk5.out
                  exact ⟨hm5, bt5 w rfl HB4.out.drew, Hbx.out.of_block (kp5 BX lbx (fun e => hbx e.symm) (fun e => by
                    obtain ⟨_, _, k9⟩ := own_kind HoS5.out e
                    obtain ⟨_, _, k8⟩ := at_kind Hbx.out
                    exact kind_ne k9 k8 (by decide) rfl))⟩
            case rest =>
              as_aux_lemma =>
              obtain ⟨hm5, B5, bx5⟩ := hcut
              obtain ⟨W5, rfl⟩ : ∃ W5 : World, W5 = wc := ⟨_, rfl⟩
              have x0 := bx5.cell 0
              have x1 := bx5.cell 1
              have x2 := bx5.cell 2
              have x3 := bx5.cell 3
              simp only [List.getElem?_cons_zero, List.getElem?_cons_succ] at x0 x1 x2 x3
              have lb5 := hm5.lt
              have lbx5 := bx5.lt
              have HM5 := hide hm5
              have HB5 := hide B5
              clear hm5 B5 bx5 HoS5 HaS5 k0 k1 k2 k3 k4 cS'
              obtain ⟨cz, _⟩ := HM5.out.mem hz8
              obtain ⟨cp5, _⟩ := HM5.out.reg hc.2.1
              rw [hz] at cp5
              obtain ⟨ca5, fa5⟩ := HM5.out.reg hc.1
              go_upto_region 30 with fail
              go_region
              go_wp2_with fail
              go_roundg (m' + 1)
              case measure => omega
              case rel => exact ⟨k + 1, _, rounds1 hkn.out, Nat.succ_le_succ (Nat.zero_le _), by first | rfl | go_num, by first | rfl | go_num, HGO2.out, (HM5.out.of_block (w' := W5.drew) fun _ _ => rfl).setR hc.1 _, (HB5.out.drew).set a _, by rw [HSS.out, List.append_assoc]; exact seen2 Hhse.out⟩
          · cases hs
        | st a p =>
          have hn := Hn.out
          simp only [inN, List.cons.injEq, and_true] at hn
          obtain ⟨rfl, rfl, rfl, rfl, rfl⟩ := hn
          clear Hn
          obtain ⟨s1, m', rfl, hs, hgo⟩ := hst.out.resolve_right (fun h => by cases h.2.1)
          simp only [step] at hs
          split at hs
          · rename_i hc
            cases hs
            have HGO := hide hgo
            clear hgo hst
            obtain ⟨SS, HSS⟩ : ∃ SS : List Int, Hid (SS = s.seen ++ [(s.pc : Int)]) := ⟨_, rfl⟩
            have hm4 : MAt W4 b w.heap.size s.R s.M SS := by rw [HSS.out]; exact Hm.out
            have hSS : SS.length ≤ 400000 := by rw [HSS.out, List.length_append]; have := Hhse.out; have := hkn.out; simp; omega
            have HM4 := hide hm4
            have lo4 : w.heap.size ≤ W4.heap.size := HB4.out.size
            clear hm4
            obtain ⟨z, hz⟩ := Int.eq_ofNat_of_zero_le hc.2.2.1
            have hz8 : z < 256 := by have := hc.2.2.2; omega
            have z8 : (z : Int) < 256 := by omega
            have HGO2 : Hid (go C m' ⟨s.pc + 1, s.R, upd s.M z (s.R p), SS ++ [(z : Int)]⟩ = some sF) := by
              have h9 := HGO.out
              rw [hz, Int.toNat_natCast] at h9
              rw [HSS.out, List.append_assoc]
              exact h9
            obtain ⟨ca, _⟩ := HM4.out.reg hc.1
            rw [hz] at ca
            have a8 := lt8 hc.1
            have p8 := lt8 hc.2.1
            obtain ⟨sa5, sc5, cS, fS, aS, oS, nbs5⟩ := (HM4.out.of_block (w' := W4.drew) fun _ _ => rfl).ready
            have cS' : W4.cell? ⟨b, 264, none⟩ = some (.slice sa5 SS.length sc5) := cS
            have nkb : ¬ (Value.slice sa5 SS.length sc5).ownBlock = some BX := fun e => by
              obtain ⟨_, _, k9⟩ := own_kind oS e
              obtain ⟨_, _, k8⟩ := at_kind (Hbx.out.of_block (w' := W4.drew) rfl)
              exact kind_ne k9 k8 (by decide) rfl
            have HaS5 := hide aS
            have HoS5 := hide oS
            clear cS fS aS oS
            go_upto_region 32 with fail
            go_cut [] from 199 to 214 (fun wr => MAt wr b w.heap.size s.R s.M (SS ++ [(z : Int)]) ∧ But b w wr ∧ At wr BX 58 [.int .i64 12, .int .i64 (a : Int), .int .i64 (p : Int), .int .i64 0, .int .i64 0])
            case first =>
              go_region_law (refine step_append_row1 rfl (.tmp 203) (.tmp 211) 32 rfl 3 j0 (.int .i64 0) 1 8 Tryz.underlying32 ji jz0 jz1 jz2 rfl (by decide) (.slice sa5 SS.length sc5) SS.length (ints SS) rfl (by exact World.ownsRow.alloc (Joins.ownsRow_le HoS5.out (Nat.zero_le _)) _) ⟨W4.heap.size, 0, none⟩ 1 1 [.int .i64 (z : Int)] rfl rfl (by exact row_new W4.drew [.int .i64 (z : Int)] _) (by intro u hu; simp only [List.mem_cons, List.not_mem_nil, or_false] at hu; first | (subst hu; rfl) | (rcases hu with rfl | rfl <;> rfl)) (few_le (by omega)) (by omega) (by decide) ?_; intro gg5 cap5 w5 hrow5 hgr5 hkk5; have aW5 := (HaS5.out.alloc (.cells #[.int .i64 (z : Int)] 3 (0, 0))).of_block (hgr5.block b (by show b < (World.alloc _ _).heap.size; rw [size_alloc]; have := HaS5.out.lt; omega) (fun e => nbs5 e.symm)); have cw5 := (aW5.cell 264).trans mc_seen; have fw5 := aW5.frozen 264; have HR5 := hide hrow5; have HGr5 := hide hgr5; have HKk5 := hide hkk5; clear aW5 hrow5 hgr5 hkk5)
              all_goals
                go_wp2_with fail
                go_meet
                case rel =>
                  obtain ⟨hm5, kp5, bt5⟩ := MAt.grown (T := [(z : Int)]) (n := 1) rfl (HM4.out.of_block (w' := W4.drew) fun _ _ => rfl) lo4 HaS5.out HoS5.out (fun q hq => heap_alloc_old _ _ _ hq) (by rw [size_alloc]; exact Nat.le_succ _) rfl rfl rfl HR5.out HGr5.out HKk5.out
                  exact ⟨hm5, bt5 w rfl HB4.out.drew, Hbx.out.of_block (kp5 BX lbx (fun e => hbx e.symm) (fun e => by
                    obtain ⟨_, _, k9⟩ := own_kind HoS5.out e
                    obtain ⟨_, _, k8⟩ := at_kind Hbx.out
                    exact kind_ne k9 k8 (by decide) rfl))⟩
            case rest =>
              as_aux_lemma =>
              obtain ⟨hm5, B5, bx5⟩ := hcut
              obtain ⟨W5, rfl⟩ : ∃ W5 : World, W5 = wc := ⟨_, rfl⟩
              have x0 := bx5.cell 0
              have x1 := bx5.cell 1
              have x2 := bx5.cell 2
              have x3 := bx5.cell 3
              simp only [List.getElem?_cons_zero, List.getElem?_cons_succ] at x0 x1 x2 x3
              have lb5 := hm5.lt
              have lbx5 := bx5.lt
              have HM5 := hide hm5
              have HB5 := hide B5
              clear hm5 B5 bx5 HoS5 HaS5 k0 k1 k2 k3 k4 cS'
              obtain ⟨cz, fz⟩ := HM5.out.mem hz8
              obtain ⟨cp5, _⟩ := HM5.out.reg hc.2.1
              obtain ⟨ca5, _⟩ := HM5.out.reg hc.1
              rw [hz] at ca5
              go_upto_region 33 with fail
              go_region
              go_wp2_with fail
              go_roundg (m' + 1)
              case measure => omega
              case rel => exact ⟨k + 1, _, rounds1 hkn.out, Nat.succ_le_succ (Nat.zero_le _), by first | rfl | go_num, by first | rfl | go_num, HGO2.out, (HM5.out.of_block (w' := W5.drew) fun _ _ => rfl).setM hz8 _, (HB5.out.drew).set _ _, by rw [HSS.out, List.append_assoc]; exact seen2 Hhse.out⟩
          · cases hs
        | jmp d =>
          as_aux_lemma =>
          have hn := Hn.out
          simp only [inN, List.cons.injEq, and_true] at hn
          obtain ⟨rfl, rfl, rfl, rfl, rfl⟩ := hn
          clear Hn
          obtain ⟨s1, m', rfl, hs, hgo⟩ := hst.out.resolve_right (fun h => by cases h.2.1)
          simp only [step] at hs
          cases hs
          have HGO := hide hgo
          clear hgo hst
          go_wp2_with fail
          go_roundg (m' + 1)
          case measure => omega
          case rel => exact ⟨k + 1, _, rounds1 hkn.out, Nat.succ_le_succ (Nat.zero_le _), by first | rfl | go_num, by first | rfl | go_num, HGO.out, Hm.out, HB4.out, seen1 Hhse.out⟩
        | jz p d =>
          as_aux_lemma =>
          have hn := Hn.out
          simp only [inN, List.cons.injEq, and_true] at hn
          obtain ⟨rfl, rfl, rfl, rfl, rfl⟩ := hn
          clear Hn
          obtain ⟨s1, m', rfl, hs, hgo⟩ := hst.out.resolve_right (fun h => by cases h.2.1)
          simp only [step] at hs
          split at hs
          · rename_i hc
            cases hs
            have HGO := hide hgo
            clear hgo hst
            obtain ⟨cp, _⟩ := Hm.out.reg hc
            have p8 := lt8 hc
            by_cases hz : s.R p = 0
            · rw [if_pos hz] at HGO
              rw [hz] at cp
              go_upto_region 37 with fail
              go_quiet (fail)
              go_wp2_with fail
              go_roundg (m' + 1)
              case measure => omega
              case rel => exact ⟨k + 1, _, rounds1 hkn.out, Nat.succ_le_succ (Nat.zero_le _), by first | rfl | go_num, by first | rfl | go_num, HGO.out, Hm.out.of_block fun _ _ => rfl, ⟨HB4.out.os, HB4.out.tape, HB4.out.output, HB4.out.size, HB4.out.block⟩, seen1 Hhse.out⟩
            · rw [if_neg hz] at HGO
              generalize s.R p = v at *
              go_upto_region 37 with fail
              go_quiet (fail)
              go_wp2_with fail
              go_roundg (m' + 1)
              case measure => omega
              case rel => exact ⟨k + 1, _, rounds1 hkn.out, Nat.succ_le_succ (Nat.zero_le _), by first | rfl | go_num, by first | rfl | go_num, HGO.out, Hm.out.of_block fun _ _ => rfl, ⟨HB4.out.os, HB4.out.tape, HB4.out.output, HB4.out.size, HB4.out.block⟩, seen1 Hhse.out⟩
          · cases hs
        | halt =>
          as_aux_lemma =>
          have hn := Hn.out
          simp only [inN, List.cons.injEq, and_true] at hn
          obtain ⟨rfl, rfl, rfl, rfl, rfl⟩ := hn
          clear Hn
          obtain ⟨rfl, _, rfl⟩ := hst.out.resolve_left (fun ⟨s1, m', _, h, _⟩ => by simp only [step] at h; cases h)
          go_wp2_with fail
          go_ret
          exact ⟨rfl, Hm.out, HB4.out⟩
end Y
end Go.Proofs.YtejbgcloblpbfaaGreatDoor
