import Derived.Test.YtejbgcloblpbfaaGreatDoorR44
import Derived.Test.YtejbgcloblpbfaaGreatDoorR46
import Derived.Test.YtejbgcloblpbfaaGreatDoorR45
import Derived.Test.YtejbgcloblpbfaaGreatDoorR42
import Derived.Lib.SliceRun
import Derived.Test.YtejbgcloblpbfaaGreatDoorR47
namespace Go.Proofs.YtejbgcloblpbfaaGreatDoor
open R (Nd Tok tk PS Thing)
open K (Nm Ex Do S Scans)
namespace Q
theorem behind_alive {T : List Tok} {A : PS} (h : (R.behind T A).err = 0) : A.err = 0 := by
  by_cases e : A.err = 0
  · exact e
  · unfold R.behind at h; rw [if_neg e] at h; exact h
theorem behind_does (T : List Tok) (A : PS) : (R.behind T A).does = A.does ∧ (R.behind T A).nodes = A.nodes := by
  unfold R.behind
  split
  · refine ⟨?_, (R.want_core T _ _).2.1⟩
    unfold R.want R.fail R.take
    split <;> (try split) <;> rfl
  · exact ⟨rfl, rfl⟩
theorem last_alive {A : PS} (h : (R.last A).err = 0) : R.last A = A := by
  unfold R.last at h ⊢
  split
  · rename_i c
    rw [if_pos c] at h
    exact absurd h (R.fail_err (by decide))
  · rfl
theorem prog_node {s : ByteArray} (hs : s.size ≤ 800) (h : (R.read s).err = 0) :
    ∃ ks : List Nat, (R.read s).does = ks.map (fun k : Nat => (k : Int)) ∧ NDs (R.read s).shape.length (R.read s).nodes (K.progD (R.toks s)) ks ∧ (R.read s).nodes.length ≤ (R.toks s).length + 1 := by
  obtain ⟨c0, _, _, cw, c54, csz, _, _⟩ := shape_ok hs h
  have hE := R.toks_ended s
  have hl := (R.toks_len s).2
  have hS := K.scans_toks hs
  have hr : R.read s = R.readT (R.toks s) := by unfold R.read; rw [if_neg (by omega)]
  rw [hr, readT_early] at h cw c54 csz ⊢
  have el := last_alive h
  rw [el] at h cw c54 csz ⊢
  generalize R.toks s = T at *
  have kS : K.Keeps (K.prog0 T) (K.progS T) := (K.dos_keeps T 11 _).trans (K.expect_keeps T _ _)
  have hrp := R.decls_rp T 9 R.start R.start_rp
  have hfl := R.decls_fl T 9 0 R.start R.start_fl
  have hkw0 : K.KW K.start := by unfold K.KW; decide
  have hkp := K.declsL_pl T T.length K.start hkw0 trivial
  have hd := decls_eqv hE T.length 9 0 R.start K.start start_sm R.start_db (by omega) (by omega) hl (by omega) rfl
  have bd := behind_does T (R.done (R.does T 12 (R.decls T 9 R.start)).2 (R.does T 12 (R.decls T 9 R.start)).1)
  have hlt := R.decls_lt T 9 R.start hl
  have dk := R.does_ok hE 12 hlt
  have hsh : (early T).size = (R.decls T 9 R.start).size := by
    unfold early
    have e1 : ∀ A : PS, (R.behind T A).size = A.size := fun A => by
      unfold R.behind
      split
      · exact congrArg (fun c => c.2.2.1) (R.want_core T _ _).1
      · rfl
    rw [e1]
    exact congrArg (fun c => c.2.2.1) dk.core
  unfold early at h
  have hb := behind_alive h
  have ha : (R.does T 12 (R.decls T 9 R.start)).1.err = 0 := hb
  unfold K.progD
  have ed : (early T).does = (R.does T 12 (R.decls T 9 R.start)).2 := bd.1
  have en : (early T).nodes = (R.does T 12 (R.decls T 9 R.start)).1.nodes := bd.2
  rw [ed, en]
  generalize (early T).shape.length = N at *
  generalize (early T).size = Z at *
  have hp0 : K.prog0 T = K.declsL T T.length K.start := rfl
  rw [← hp0] at hd hkp
  generalize R.decls T 9 R.start = A at *
  have kw := kS.words
  have kl := kS.loops
  generalize K.prog0 T = B at *
  rcases hd with ⟨d1, d2, ⟨k, d3⟩, d4⟩ | d
  · have e0 : B.depth = 0 := by rw [← d1.nest]; exact d3.nest
    have hH : Hs A false := ⟨by rw [d3.rest.2]; decide, by rw [d3.rest.2]; decide⟩
    have hpl : Pls N A.seen B.names := pls_of (by omega) d1.names hrp.pl hkp hfl.bd (by omega) (by rw [← hrp.sz]; omega)
    have hl0 : B.loops = 0 := by rw [← d1.loops]; exact d3.rest.1
    have hwd : Wd N B := ⟨by rw [← kw]; exact cw, by omega, by omega⟩
    obtain ⟨ks, k1, k2⟩ := dos_node hS hE 11 12 A B false d1 hH hpl hwd d4 ⟨by omega, by omega, by omega⟩ ⟨by omega, by omega, by omega⟩ ha
    have hp1 := dk.p1
    rw [d3.nodes, List.length_nil] at hp1
    exact ⟨ks, k1, k2, by omega⟩
  · exact absurd (does_alive ha) d.e1
end Q
end Go.Proofs.YtejbgcloblpbfaaGreatDoor
namespace Go.Proofs.YtejbgcloblpbfaaGreatDoor
open Go.RowKit
open K (Nm)
theorem nms_form {w : World} {v : Value} {ns : List Nm} (h : w.ownsRow 0 96 5 v ns.length (ns.flatMap nmCells)) : ∃ a n c, v = .slice a n c := by
  rcases nms_row h with ⟨e, _⟩ | ⟨g, cap, e, _⟩
  · exact ⟨_, _, _, e⟩
  · exact ⟨_, _, _, e⟩
theorem run_c (s : ByteArray) (w : World) (hm : s.size ≤ maxLen) (hv : K.Vars w) (hw : 5 ≤ w.heap.size) (aM : Option Addr) (cM : Nat) (ms : List Int)
    (hM : ∀ (j : Nat) u, ms[j]? = some u → ∃ gm o, aM = some ⟨gm, o, none⟩ ∧ gm < w.heap.size ∧ w.cell? ⟨gm, o + j, none⟩ = some (.int .i64 u)) :
    Calls Tryz.prog 21 #[.string s, .slice aM ms.length cM] w fun x w' => ((¬ (R.read s).err = 0 ∧ x = .returned (.tuple #[.slice none 0 0, .int .i64 (R.read s).err])) ∨
      ((R.read s).err = 0 ∧ ¬ ms.length = (R.read s).shape.length ∧ x = .returned (.tuple #[.slice none 0 0, .int .i64 8])) ∨
      ((R.read s).err = 0 ∧ ms.length = (R.read s).shape.length ∧ ∃ g, x = .returned (.tuple #[.slice (some ⟨g, 0, none⟩) ms.length ms.length, .int .i64 0]) ∧ w.heap.size ≤ g ∧ At w' g 3 (((V.rds (K.progD (R.toks s)) (ms ++ [0, 0])).take ms.length).map fun n => .int .i64 n))) ∧ Below w.heap.size w w' := by
  by_cases hl : 800 < s.size
  · have e := read_long_err hl
    refine (run_err (E := 1) (Q := 0) aM ms.length cM rfl (by decide) (mread_long s w hl hm)).mono fun x w' h => ⟨Or.inl ⟨by rw [e]; decide, by rw [e]; exact h.1⟩, h.2⟩
  · have hr := mread_c (fun l h => gds_of l (gdl_c l h)) s w (by omega) hv hw
    by_cases he : (R.read s).err = 0
    · obtain ⟨p1, p2, p3, p4, p5, p6, p7, p8⟩ := Q.shape_ok (by omega) he
      obtain ⟨ks, _, hn, _⟩ := Q.prog_node (by omega) he
      by_cases hne : ms.length = (R.read s).shape.length
      · have hg := run_go (s := s) (w := w) (N := ms.length) (by omega) ms rfl (K.progD (R.toks s)) (by rw [hne]; exact hn.wf) (aM := aM) (cM := cM) hM (hr.mono fun x w' h => ?_)
        · exact hg.mono fun x w' h => ⟨Or.inr (Or.inr ⟨he, hne, h.1⟩), h.2⟩
        · obtain ⟨hx, hb⟩ := h
          refine ⟨?_, hb⟩
          rcases hx with ⟨h1, _⟩ | ⟨_, h1, _⟩ | ⟨_, _, nv, dv, us, rfl, nr, dr, de⟩
          · exact absurd p1 h1
          · rw [p2] at h1; cases h1
          · obtain ⟨da, dn, dc, rfl⟩ := dr.form
            obtain ⟨na, nn, nc, rfl⟩ := nms_form nr
            exact ⟨na, nn, nc, da, dn, dc, us, by rw [p4, hne], dr, de⟩
      · have hg := run_arg (s := s) (w := w) (N := (R.read s).shape.length) (aM := aM) (nM := ms.length) (cM := cM) hne (hr.mono fun x w' h => ?_)
        · exact hg.mono fun x w' h => ⟨Or.inr (Or.inl ⟨he, hne, h.1⟩), h.2⟩
        · obtain ⟨hx, hb⟩ := h
          refine ⟨?_, hb⟩
          rcases hx with ⟨h1, _⟩ | ⟨_, h1, _⟩ | ⟨_, _, nv, dv, us, rfl, nr, dr, de⟩
          · exact absurd p1 h1
          · rw [p2] at h1; cases h1
          · obtain ⟨da, dn, dc, rfl⟩ := dr.form
            obtain ⟨na, nn, nc, rfl⟩ := nms_form nr
            exact ⟨na, nn, nc, da, dn, dc, by rw [p4]⟩
    · have hk := Q.check_read (R.toks_ended s)
      have hc : K.check s = K.checkT (R.toks s) := by unfold K.check; rw [if_neg hl]
      rw [hc] at hk
      unfold K.checkT at hk
      have hk1 := congrArg Prod.fst hk
      dsimp only at hk1
      generalize (R.read s).err = E at *
      refine (run_err (E := E) (Q := (K.checkT (R.toks s)).2) aM ms.length cM rfl he (hr.mono fun x w' h => ⟨?_, h.2⟩)).mono fun x w' h => ⟨Or.inl ⟨he, h.1⟩, h.2⟩
      unfold K.checkT
      rcases h.1 with ⟨h1, h2⟩ | ⟨h1, h2, h3⟩ | ⟨h1, h2, _⟩
      · rw [if_neg h1] at hk1 ⊢
        rw [h2]
        rw [← hk1]
      · rw [if_pos h1, if_pos h2] at hk1 ⊢
        rw [h3]
        rw [← hk1]
      · rw [if_pos h1, if_neg (by rw [h2]; decide)] at hk1
        exact absurd hk1.symm he
end Go.Proofs.YtejbgcloblpbfaaGreatDoor
namespace Go.Proofs.YtejbgcloblpbfaaGreatDoor
open Go.RowKit
open K (Nm)
theorem read_run (s : ByteArray) (w : World) (hm : s.size ≤ maxLen) :
    Calls Tryz.prog 15 #[.string s] w fun x w' => ∃ b, x = .returned (P b) ∧ Below w.heap.size w w' ∧ b < w'.heap.size ∧ w'.cell? ⟨b, 2, none⟩ = some (.int .i64 (R.read s).err) ∧
      ((R.read s).err = 0 → (R.read s).shape.length ≤ 54 ∧ w'.cell? ⟨b, 6, none⟩ = some (.int .i64 ((R.read s).shape.length : Int)) ∧
        ∃ H, w'.cell? ⟨b, 9, none⟩ = some H ∧ w'.ownsRow 0 4 1 H (R.read s).shape.length (bools (R.read s).shape) ∧
        PAt w' w'.heap.size b (R.read s).nodes ∧ ∃ a c, ∃ ks : List Nat, w'.cell? ⟨b, 8, none⟩ = some (.slice a ks.length c) ∧ NDs (R.read s).shape.length (R.read s).nodes (K.progD (R.toks s)) ks ∧ ks.length ≤ 9223372036854775807 ∧
          ∀ (j : Nat) u, ks[j]? = some u → ∃ q, a = some ⟨q, 0, none⟩ ∧ q < w'.heap.size ∧ w'.cell? ⟨q, 0 + j, none⟩ = some (.int .i64 (u : Int))) := by
  by_cases hs : 800 < s.size
  · have e : R.read s = R.fail 1 0 R.start := by unfold R.read; rw [if_pos hs]
    rw [e]
    exact (read_long s w hs hm).mono fun x w' ⟨b, hx, ho, _, hc⟩ => ⟨b, hx, ho.below, hc.lt, hc.cell 2, fun h => absurd h (by decide)⟩
  · have e : R.read s = R.readT (R.toks s) := by unfold R.read; rw [if_neg hs]
    refine (read_c s w (by omega)).mono fun x w' ⟨b, r, hx, h⟩ => ?_
    rw [← e] at h
    refine ⟨b, hx, h.own.below, h.rep.cells.lt, h.rep.c1 2 _ rfl, fun he => ?_⟩
    obtain ⟨p1, p2, p3, p4, p5, p6, p7, p8⟩ := Q.shape_ok (by omega) he
    obtain ⟨ks, k1, k2, k3⟩ := Q.prog_node (by omega) he
    have hf := h.rep.few
    have hd := h.rep.does
    obtain ⟨a, c, i1, i2, i3⟩ := ints_at (l := (R.read s).does) hd
    rw [k1] at i1 i2 i3
    rw [List.length_map] at i1 i2
    refine ⟨p5, ?_, r.H, h.rep.c1 9 _ rfl, h.rep.shape, rep_pat h.rep (by omega), a, c, ks, ?_, k2, by omega, fun j u hj => ?_⟩
    · rw [h.rep.c1 6 _ rfl, p6]
    · rw [h.rep.c1 8 _ rfl, i1]
    · have := i3 j (u : Int) (by rw [List.getElem?_map, hj]; rfl)
      simpa using this
end Go.Proofs.YtejbgcloblpbfaaGreatDoor
namespace Go.Proofs.YtejbgcloblpbfaaGreatDoor
open Go.RowKit
def IntsFrom (w : World) (a : Option Addr) (l : List Int) : Prop := ∀ (j : Nat) u, l[j]? = some u → ∃ g o, a = some ⟨g, o, none⟩ ∧ w.cell? ⟨g, o + j, none⟩ = some (.int .i64 u)
set_option maxHeartbeats 1000000 in
theorem same_c {l : List Int} {w : World} {a b : Option Addr} {ca cb : Nat} (h54 : l.length ≤ 1000) (ha : IntsFrom w a l) (hb : IntsFrom w b l) :
    Calls Tryz.prog 22 #[.slice a l.length ca, .slice b l.length cb] w fun x w' => x = .returned (.bool true) ∧ Still w w' := by
  have HA := hide ha
  have HB := hide hb
  clear ha hb
  go_enter Tryz.func22, Tryz.ntmps22
  go_wp2_with fail
  go_loopg [5] l.length (fun gk i wr => ∃ k : Nat, k + gk = l.length ∧ i = .int .i64 (k : Int) ∧ Still w wr)
  case atStart => exact ⟨0, by omega, rfl, ⟨rfl, rfl, rfl, rfl⟩⟩
  case round =>
    obtain ⟨k, hk, rfl, hs⟩ := hrel
    cases gk with
    | zero =>
      have hz : ¬ ((k : Int) < (l.length : Int)) := by omega
      go_wp2_with fail
      go_ret
      exact ⟨rfl, hs⟩
    | succ g1 =>
      have hz : (k : Int) < (l.length : Int) := by omega
      obtain ⟨u, hu⟩ : ∃ u, l[k]? = some u := ⟨_, List.getElem?_eq_getElem (by omega)⟩
      obtain ⟨ga, oa, rfl, c1⟩ := HA.out k u hu
      obtain ⟨gb, ob, rfl, c2⟩ := HB.out k u hu
      rw [← hs.cell] at c1 c2
      go_wp2_with (go_quiet (fail))
      go_roundg g1
      case measure => omega
      case rel => exact ⟨k + 1, by omega, by go_num, hs.drewN _⟩
end Go.Proofs.YtejbgcloblpbfaaGreatDoor
namespace Go.Proofs.YtejbgcloblpbfaaGreatDoor
open Go.RowKit
theorem mark_c (n : Int) (h0 : 0 ≤ n) (h1 : n ≤ 100000) (w : World) : Calls Tryz.prog 49 #[.int .i64 n] w fun x w' => x = .returned (.int .i64 (-7000 - n)) ∧ w' = w := by
  have e : IntKind.i64.wrap (-7000 - n) = -7000 - n := k64 _ (by omega)
  go_enter Tryz.func49, Tryz.ntmps49
  go_wp2_with fail
  go_ret
  exact ⟨by first | rfl | (rw [e]) | (simp [e]), rfl⟩
set_option maxRecDepth 20000 in
theorem kept_nil (w : World) : Calls Tryz.prog 25 #[.slice none 0 0, .slice none 0 0] w fun x w' => x = .returned (.bool true) ∧ w' = w := by
  have hn : ∀ w : World, (binOp .eql 32 (.slice none 0 0) (.slice none 0 0)).run Tryz.prog w = .ok (.bool true) w := fun w => Lib.run_eql_slice_nil w _ _ none 0 0 0 0 Tryz.underlying32
  go_enter Tryz.func25, Tryz.ntmps25
  go_wp2_with fail
  go_ret
  exact ⟨rfl, rfl⟩
set_option maxRecDepth 20000 in
set_option maxHeartbeats 1000000 in
theorem kept_c {ms : List Int} {w : World} {g gm om c cm : Nat} (hm : ms.length + 8 ≤ maxLen) (hc : ms.length + 8 ≤ c) (hM : IntsFrom w (some ⟨gm, om, none⟩) ms) (hA : IntsFrom w (some ⟨g, 0, none⟩) (ms ++ List.replicate 8 (-77))) :
    Calls Tryz.prog 25 #[.slice (some ⟨g, 0, none⟩) ms.length c, .slice (some ⟨gm, om, none⟩) ms.length cm] w fun x w' => x = .returned (.bool true) ∧ Still w w' := by
  unfold maxLen at hm
  have HA := hide hA
  have HM := hide hM
  clear hA hM
  have e8 : IntKind.i64.wrap ((ms.length : Int) + 8) = ((ms.length + 8 : Nat) : Int) := by rw [k64 _ (by omega)]; omega
  have hn : ∀ w : World, (binOp .eql 32 (.slice (some ⟨gm, om, none⟩) ms.length cm) (.slice none 0 0)).run Tryz.prog w = .ok (.bool false) w := fun w => Lib.run_eql_slice_nil w _ _ (some ⟨gm, om, none⟩) ms.length cm 0 0 Tryz.underlying32
  go_enter Tryz.func25, Tryz.ntmps25
  go_wp2_with fail
  go_loopg [6, 7] (ms.length + 8) (fun gk i _ wr => ∃ k : Nat, k + gk = ms.length + 8 ∧ i = .int .i64 (k : Int) ∧ Still w wr)
  case atStart => exact ⟨0, by omega, rfl, ⟨rfl, rfl, rfl, rfl⟩⟩
  case round =>
    obtain ⟨k, hk, rfl, hs⟩ := hrel
    cases gk with
    | zero =>
      have hz : ¬ ((k : Int) < ((ms.length + 8 : Nat) : Int)) := by omega
      go_wp2_with fail
      go_ret
      exact ⟨rfl, hs⟩
    | succ g1 =>
      have hz : (k : Int) < ((ms.length + 8 : Nat) : Int) := by omega
      by_cases hy : k < ms.length
      · have hy' : (k : Int) < (ms.length : Int) := by omega
        obtain ⟨u, hu⟩ : ∃ u, ms[k]? = some u := ⟨_, List.getElem?_eq_getElem hy⟩
        obtain ⟨_, _, e1, c1⟩ := HM.out k u hu
        cases e1
        obtain ⟨_, _, e2, c2⟩ := HA.out k u (by rw [List.getElem?_append_left hy]; exact hu)
        cases e2
        rw [← hs.cell] at c1 c2
        rw [Nat.zero_add] at c2
        go_wp2_with (go_quiet (fail))
        go_roundg g1
        case measure => omega
        case rel => exact ⟨k + 1, by omega, by go_num, by first | exact hs.drewN _ | exact hs⟩
      · have hy' : ¬ (k : Int) < (ms.length : Int) := by omega
        obtain ⟨_, _, e2, c2⟩ := HA.out k (-77) (by rw [List.getElem?_append_right (by omega), List.getElem?_replicate, if_pos (by omega)])
        cases e2
        rw [← hs.cell, Nat.zero_add] at c2
        go_wp2_with (go_quiet (fail))
        go_roundg g1
        case measure => omega
        case rel => exact ⟨k + 1, by omega, by go_num, by first | exact hs.drewN _ | exact hs⟩
end Go.Proofs.YtejbgcloblpbfaaGreatDoor
namespace Go.Proofs.YtejbgcloblpbfaaGreatDoor
open Go.RowKit
theorem info_rows : (Tryz.prog.info? 103).map (fun i => (i.zero, i.size, i.bytes)) = some (some (.slice none 0 0), 1, 24) := by kernel_rfl
theorem KP.bcell {p : KP} (ok : p.Ok) {w : World} (m : p.Mv p.w0 w) : w.cell? ⟨p.b, 0, none⟩ = some p.bv :=
  (World.cell?_of_block (m.block _ ok.book.lt (fun e => (ok.off _ e).2 rfl))).trans (ok.book.cell 0)
theorem own_below {w w' : World} {e : TypeId} {v : Value} {n : Nat} {xs : List Value} (h : w.ownsRow 0 e 1 v n xs) (hb : Below w.heap.size w w') : w'.ownsRow 0 e 1 v n xs := by
  obtain ⟨hx, ⟨h1, h2⟩ | ⟨g, cap, cur, hv, hb', hg, hc, hm, hs, ht⟩⟩ := h
  · exact ⟨hx, Or.inl ⟨h1, h2⟩⟩
  · exact ⟨hx, Or.inr ⟨g, cap, cur, hv, hb', (hb.block g (heap_lt hg)).trans hg, hc, hm, hs, ht⟩⟩
theorem entry_one {w : World} {E : Nat → Prop} {m : Int} {v : Value} (h : Entry w E m v) : v.oneCell' = true := by
  obtain ⟨_, rfl, _⟩ := h
  rfl
structure Out (X : Nat → Prop) (w w' : World) : Prop where
  os : w'.os = w.os
  tape : w'.tape = w.tape
  output : w'.output = w.output
  size : w.heap.size ≤ w'.heap.size
  block : ∀ k, k < w.heap.size → ¬ X k → w'.heap[k]? = w.heap[k]?
set_option maxRecDepth 100000 in
set_option maxHeartbeats 8000000 in
theorem keep_c {w : World} {b n : Nat} {ao : Option Addr} {bv : Value} {vs : List Value} {l : List Value} (hn : n ≤ 54) (hnil : ao = none → n = 0) (hform : ∀ a, ao = some a → ∃ g, a = ⟨g, 0, none⟩ ∧ At w g 3 l ∧ l.length = n ∧ ¬ g = b ∧ ∀ k, bv.ownBlock = some k → ¬ g = k)
    (hbk : At w b 45 [bv]) (hrow : w.ownsRow 0 103 1 bv vs.length vs) (hoff : ∀ k, bv.ownBlock = some k → ¬ k = b) (hvs : vs.length ≤ 10) :
    Calls Tryz.prog 24 #[.pointer (some ⟨b, 0, none⟩), .slice ao n n] w fun x w' => x = .returned (.tuple #[]) ∧ ∃ p : KP, p.Ok ∧ p.b = b ∧ p.ao = ao ∧ p.m = -7000 - vs.length ∧ p.bv = bv ∧ p.vs = vs ∧ p.w0.heap.size = w.heap.size ∧ (∀ k, ¬ ao = some ⟨k, 0, none⟩ → p.w0.heap[k]? = w.heap[k]?) ∧ p.w0.os = w.os ∧ p.w0.tape = w.tape ∧ p.w0.output = w.output ∧ p.Fin w' := by
  obtain ⟨ba, bc, rfl⟩ : ∃ ba bc, bv = .slice ba vs.length bc := by
    rcases Joins.ownsRow_forms hrow with ⟨rfl, h0⟩ | ⟨g, c, rfl⟩
    · exact ⟨none, 0, by rw [h0]⟩
    · exact ⟨_, _, rfl⟩
  have cb := hbk.cell 0
  simp only [List.getElem?_cons_zero] at cb
  obtain ⟨m, hmm⟩ : ∃ m : Int, Hid (m = -7000 - (vs.length : Int)) := ⟨_, rfl⟩
  have hmk := fun (w : World) => mark_c (vs.length : Int) (by omega) (by omega) w
  rw [← hmm.out] at hmk
  have bl := hbk.lt
  have hrow' := hide hrow
  have hform' := hide hform
  have hoff' := hide hoff
  have hbk' := hide hbk
  clear hrow hform hoff hbk
  go_enter Tryz.func24, Tryz.ntmps24
  go_wp2_with fail
  refine (hmk _).mono ?_
  rintro x w' ⟨rfl, rfl⟩
  go_wp2_with fail
  go_loopg [5] n (fun gk i wr => ∃ k : Nat, k + gk = n ∧ i = .int .i64 (k : Int) ∧ Hid (∀ g, ao = some ⟨g, 0, none⟩ → ∃ l', At wr g 3 l' ∧ l'.length = n ∧ ∀ j, j < k → l'[j]? = some (.int .i64 m)) ∧ wr.heap.size = w'.heap.size ∧ Hid (∀ k, ¬ ao = some ⟨k, 0, none⟩ → wr.heap[k]? = w'.heap[k]?) ∧ wr.os = w'.os ∧ wr.tape = w'.tape ∧ wr.output = w'.output)
  case atStart =>
    refine ⟨0, by omega, rfl, fun g e => ?_, rfl, fun _ _ => rfl, rfl, rfl, rfl⟩
    obtain ⟨g', e1, e2, e3, _⟩ := hform'.out _ e
    cases e1
    exact ⟨l, e2, e3, fun j h => by omega⟩
  case round =>
    obtain ⟨k, hk, rfl, HA, hsz, HB, q1, q2, q3⟩ := hrel
    cases gk with
    | succ g1 =>
      have hz : (k : Int) < (n : Int) := by omega
      obtain ⟨g, rfl⟩ : ∃ g, ao = some ⟨g, 0, none⟩ := by
        cases ao with
        | none => have := hnil rfl; omega
        | some a => obtain ⟨g, rfl, _⟩ := hform'.out a rfl; exact ⟨g, rfl⟩
      obtain ⟨l', a', hl', hj'⟩ := HA.out g rfl
      have HJ := hide hj'
      clear hj' HA
      obtain ⟨u, hu⟩ : ∃ u, l'[k]? = some u := ⟨_, List.getElem?_eq_getElem (by omega)⟩
      have c0 := a'.cell k
      rw [hu] at c0
      have f0 := a'.frozen k
      go_wp2_with fail
      go_roundg g1
      case measure => omega
      case rel =>
        refine ⟨k + 1, by omega, by go_num, fun g' e => ?_, by rw [World.size_setCell]; exact hsz, fun k' hk' => (heap_setCell_other _ _ _ _ (fun e => hk' (by cases e; rfl))).trans (HB.out k' hk'), q1, q2, q3⟩
        cases e
        refine ⟨l'.set k (.int .i64 m), a'.set k _, by simpa using hl', fun j h => ?_⟩
        by_cases e : k = j
        · subst e; rw [List.getElem?_set_self (by omega)]
        · rw [List.getElem?_set_ne e]; exact HJ.out j (by omega)
    | zero =>
      have hz : ¬ ((k : Int) < (n : Int)) := by omega
      have hkn : k = n := by omega
      subst hkn
      go_upto_region 5 with fail
      obtain ⟨w0, hw0⟩ : ∃ w0 : World, w0 = { wr with drawn := wr.drawn + 1 } := ⟨_, rfl⟩
      have h0h : w0.heap = wr.heap := by rw [hw0]
      obtain ⟨p, hp⟩ : ∃ p : KP, p = ⟨b, ao, k, m, .slice ba vs.length bc, vs, w0⟩ := ⟨_, rfl⟩
      have ok : p.Ok := by
        subst hp
        have hgl : ∀ g, ao = some ⟨g, 0, none⟩ → g < w0.heap.size ∧ ∀ j, j < k → w0.cell? ⟨g, j, none⟩ = some (.int .i64 m) := by
          intro g e
          obtain ⟨l', a', hl', hj'⟩ := HA.out g e
          have a0 : At w0 g 3 l' := a'.of_block (by rw [h0h])
          exact ⟨a0.lt, fun j hj => (a0.cell j).trans (hj' j hj)⟩
        have hbw : w0.heap[b]? = w'.heap[b]? := by
          rw [h0h]
          refine HB.out b (fun e => ?_)
          obtain ⟨g, e1, _, _, e4, _⟩ := hform'.out _ e
          cases e1; exact e4 rfl
        have bb : At w0 b 45 [.slice ba vs.length bc] := hbk'.out.of_block hbw
        refine ⟨hn, hnil, fun a e => ?_, ?_, fun a e j hj => ?_, bb, ?_, fun q e => ⟨?_, hoff'.out q e⟩, ?_, hvs⟩
        · obtain ⟨g, rfl, _⟩ := hform'.out a e
          exact ⟨g, rfl, (hgl g e).1⟩
        · refine ⟨ao, k, k, rfl, by omega, fun j hj => ?_⟩
          cases hao : ao with
          | none => have := hnil hao; omega
          | some a =>
            obtain ⟨g, rfl, _⟩ := hform'.out a hao
            exact ⟨g, rfl, Or.inr (by rw [← hao]), (hgl g hao).2 j hj⟩
        · obtain ⟨g, rfl, _⟩ := hform'.out a e
          have ea : (⟨g, 0, none⟩ : Addr).add j = ⟨g, j, none⟩ := by unfold Addr.add; split <;> simp_all
          rw [ea]
          exact (hgl g e).2 j hj
        · obtain ⟨hx, ⟨h1, h2⟩ | ⟨g, cap, cur, hv, hb', hg, hc, hm, hs, ht⟩⟩ := hrow'.out
          · exact ⟨hx, Or.inl ⟨h1, h2⟩⟩
          · refine ⟨hx, Or.inr ⟨g, cap, cur, hv, hb', ?_, hc, hm, hs, ht⟩⟩
            show w0.heap[g]? = _
            rw [h0h]
            refine (HB.out g (fun e => ?_)).trans hg
            obtain ⟨g', e1, _, _, _, e5⟩ := hform'.out _ e
            cases e1
            exact e5 g (by rw [hv]; rfl) rfl
        · rintro (h | h)
          · have hlt : q < w0.heap.size := by
              rw [h0h, hsz]
              exact (hrow'.out.lt q e).2
            have h' : w0.heap.size ≤ q := h
            omega
          · obtain ⟨g', e1, _, _, _, e5⟩ := hform'.out _ h
            cases e1
            exact e5 q e rfl
        · rintro (h | h)
          · have h' : w0.heap.size ≤ b := h
            have := bb.lt; omega
          · obtain ⟨g', e1, _, _, e4, _⟩ := hform'.out _ h
            cases e1
            exact e4 rfl
      refine wp_region_any (by kernel_rfl) ?_
      rw [← hw0]
      refine wpAny_cl (I := fun listed a w => KI p listed a w) ?_ ?_ _ _ ?_
      · intro listed a w i hs hcl hI hi
        obtain ⟨hi1, hi2, hd⟩ := mem_ready hi
        have hs' : listed.size = 30 := hs
        have hn := getD_tf hi2
        have hi3 : i < 30 := hi1
        clear hs hi hi1 hi2
        have hs := hs'
        have hor : i = 0 ∨ i = 1 ∨ i = 2 ∨ i = 3 ∨ i = 4 ∨ i = 5 ∨ i = 6 ∨ i = 7 ∨ i = 8 ∨ i = 9 ∨ i = 10 ∨ i = 11 ∨ i = 12 ∨ i = 13 ∨ i = 14 ∨ i = 15 ∨ i = 16 ∨ i = 17 ∨ i = 18 ∨ i = 19 ∨ i = 20 ∨ i = 21 ∨ i = 22 ∨ i = 23 ∨ i = 24 ∨ i = 25 ∨ i = 26 ∨ i = 27 ∨ i = 28 ∨ i = 29 := by omega
        rcases hor with rfl | rfl | rfl | rfl | rfl | rfl | rfl | rfl | rfl | rfl | rfl | rfl | rfl | rfl | rfl | rfl | rfl | rfl | rfl | rfl | rfl | rfl | rfl | rfl | rfl | rfl | rfl | rfl | rfl | rfl
        · -- 0
          have h29 : listed.getD 29 false = false := by
            refine Bool.eq_false_iff.2 fun l29 => ?_
            have l28 := hcl 29 _ rfl l29 ⟨28, .data⟩ (by simp) rfl
            have l27 := hcl 28 _ rfl l28 ⟨27, .data⟩ (by simp) rfl
            have l0 := hcl 27 _ rfl l27 ⟨0, .data⟩ (by simp) rfl
            rw [hn] at l0
            cases l0
          refine wpOp_step rfl ?_
          intro K hK
          exact st_move rfl (.tmp 0) rfl _ hI.t0 (hK _ _ (hI.quiet hs (i := 0) (by omega) h29 rfl))
        · -- 1
          have h29 : listed.getD 29 false = false := by
            refine Bool.eq_false_iff.2 fun l29 => ?_
            have l26 := hcl 29 _ rfl l29 ⟨26, .data⟩ (by simp) rfl
            have l4 := hcl 26 _ rfl l26 ⟨4, .data⟩ (by simp) rfl
            have l3 := hcl 4 _ rfl l4 ⟨3, .data⟩ (by simp) rfl
            have l2 := hcl 3 _ rfl l3 ⟨2, .data⟩ (by simp) rfl
            have l1 := hcl 2 _ rfl l2 ⟨1, .data⟩ (by simp) rfl
            rw [hn] at l1
            cases l1
          refine wpOp_step rfl ?_
          intro K hK
          exact st_move rfl (.tmp 0) rfl _ hI.t0 (hK _ _ (hI.quiet hs (i := 1) (by omega) h29 rfl))
        · -- 2
          have h29 : listed.getD 29 false = false := by
            refine Bool.eq_false_iff.2 fun l29 => ?_
            have l26 := hcl 29 _ rfl l29 ⟨26, .data⟩ (by simp) rfl
            have l4 := hcl 26 _ rfl l26 ⟨4, .data⟩ (by simp) rfl
            have l3 := hcl 4 _ rfl l4 ⟨3, .data⟩ (by simp) rfl
            have l2 := hcl 3 _ rfl l3 ⟨2, .data⟩ (by simp) rfl
            rw [hn] at l2
            cases l2
          have s1 := hI.sp h29 1 (by omega) (hd _ rfl ⟨1, .data⟩ (by simp) rfl)
          refine wpOp_step rfl ?_
          intro K hK
          exact st_nil rfl (.tmp 23) rfl _ s1 (hK _ _ (hI.quiet hs (i := 2) (by omega) h29 rfl))
        · -- 3
          have h29 : listed.getD 29 false = false := by
            refine Bool.eq_false_iff.2 fun l29 => ?_
            have l26 := hcl 29 _ rfl l29 ⟨26, .data⟩ (by simp) rfl
            have l4 := hcl 26 _ rfl l26 ⟨4, .data⟩ (by simp) rfl
            have l3 := hcl 4 _ rfl l4 ⟨3, .data⟩ (by simp) rfl
            rw [hn] at l3
            cases l3
          have s2 := hI.sp h29 2 (by omega) (hd _ rfl ⟨2, .data⟩ (by simp) rfl)
          refine wpOp_step rfl ?_
          intro K hK
          exact st_field rfl (.tmp 24) rfl _ s2 (hK _ _ (hI.quiet hs (i := 3) (by omega) h29 rfl))
        · -- 4
          have h29 : listed.getD 29 false = false := by
            refine Bool.eq_false_iff.2 fun l29 => ?_
            have l26 := hcl 29 _ rfl l29 ⟨26, .data⟩ (by simp) rfl
            have l4 := hcl 26 _ rfl l26 ⟨4, .data⟩ (by simp) rfl
            rw [hn] at l4
            cases l4
          have s3 := hI.sp h29 3 (by omega) (hd _ rfl ⟨3, .data⟩ (by simp) rfl)
          refine wpOp_step rfl ?_
          intro K hK
          exact st_load rfl (.tmp 25) rfl p.b s3 p.bv (KP.bcell ok (hI.pre h29).1) (hK _ _ (hI.quiet hs (i := 4) (by omega) h29 rfl))
        · -- 5
          have h29 : listed.getD 29 false = false := by
            refine Bool.eq_false_iff.2 fun l29 => ?_
            have l26 := hcl 29 _ rfl l29 ⟨26, .data⟩ (by simp) rfl
            have l25 := hcl 26 _ rfl l26 ⟨25, .data⟩ (by simp) rfl
            have l24 := hcl 25 _ rfl l25 ⟨24, .data⟩ (by simp) rfl
            have l5 := hcl 24 _ rfl l24 ⟨5, .data⟩ (by simp) rfl
            rw [hn] at l5
            cases l5
          refine wpOp_step rfl ?_
          intro K hK
          exact st_move rfl (.tmp 1) rfl _ hI.t1 (hK _ _ (hI.quiet hs (i := 5) (by omega) h29 rfl))
        · -- 6
          have h29 : listed.getD 29 false = false := by
            refine Bool.eq_false_iff.2 fun l29 => ?_
            have l26 := hcl 29 _ rfl l29 ⟨26, .data⟩ (by simp) rfl
            have l25 := hcl 26 _ rfl l26 ⟨25, .data⟩ (by simp) rfl
            have l24 := hcl 25 _ rfl l25 ⟨24, .data⟩ (by simp) rfl
            have l9 := hcl 24 _ rfl l24 ⟨9, .data⟩ (by simp) rfl
            have l6 := hcl 9 _ rfl l9 ⟨6, .data⟩ (by simp) rfl
            rw [hn] at l6
            cases l6
          refine wpOp_step rfl ?_
          intro K hK
          exact st_move rfl (.tmp 1) rfl _ hI.t1 (hK _ _ (hI.quiet hs (i := 6) (by omega) h29 rfl))
        · -- 7
          have h29 : listed.getD 29 false = false := by
            refine Bool.eq_false_iff.2 fun l29 => ?_
            have l26 := hcl 29 _ rfl l29 ⟨26, .data⟩ (by simp) rfl
            have l25 := hcl 26 _ rfl l26 ⟨25, .data⟩ (by simp) rfl
            have l24 := hcl 25 _ rfl l25 ⟨24, .data⟩ (by simp) rfl
            have l9 := hcl 24 _ rfl l24 ⟨9, .data⟩ (by simp) rfl
            have l8 := hcl 9 _ rfl l9 ⟨8, .data⟩ (by simp) rfl
            have l7 := hcl 8 _ rfl l8 ⟨7, .data⟩ (by simp) rfl
            rw [hn] at l7
            cases l7
          refine wpOp_step rfl ?_
          intro K hK
          exact st_move rfl (.tmp 4) rfl _ hI.t4 (hK _ _ (hI.quiet hs (i := 7) (by omega) h29 rfl))
        · -- 8
          have h29 : listed.getD 29 false = false := by
            refine Bool.eq_false_iff.2 fun l29 => ?_
            have l26 := hcl 29 _ rfl l29 ⟨26, .data⟩ (by simp) rfl
            have l25 := hcl 26 _ rfl l26 ⟨25, .data⟩ (by simp) rfl
            have l24 := hcl 25 _ rfl l25 ⟨24, .data⟩ (by simp) rfl
            have l9 := hcl 24 _ rfl l24 ⟨9, .data⟩ (by simp) rfl
            have l8 := hcl 9 _ rfl l9 ⟨8, .data⟩ (by simp) rfl
            rw [hn] at l8
            cases l8
          have s7 := hI.sp h29 7 (by omega) (hd _ rfl ⟨7, .data⟩ (by simp) rfl)
          refine wpOp_step rfl ?_
          intro K hK
          have h26 : listed.getD 26 false = false := by
            refine Bool.eq_false_iff.2 fun l26 => ?_
            have l25 := hcl 26 _ rfl l26 ⟨25, .data⟩ (by simp) rfl
            have l24 := hcl 25 _ rfl l25 ⟨24, .data⟩ (by simp) rfl
            have l9 := hcl 24 _ rfl l24 ⟨9, .data⟩ (by simp) rfl
            have l8 := hcl 9 _ rfl l9 ⟨8, .data⟩ (by simp) rfl
            rw [hn] at l8
            cases l8
          exact st_build1 rfl (.tmp 29) rfl p.m s7 (hK _ _ (hI.grow ok hs (i := 8) (by omega) h29 h26 ((Below.refl _ _).alloc (Nat.le_refl _) _) ⟨w.heap.size, Or.inl (hI.pre h29).1.size, rfl, At.alloc_new w _ _⟩))
        · -- 9
          have h29 : listed.getD 29 false = false := by
            refine Bool.eq_false_iff.2 fun l29 => ?_
            have l26 := hcl 29 _ rfl l29 ⟨26, .data⟩ (by simp) rfl
            have l25 := hcl 26 _ rfl l26 ⟨25, .data⟩ (by simp) rfl
            have l24 := hcl 25 _ rfl l25 ⟨24, .data⟩ (by simp) rfl
            have l9 := hcl 24 _ rfl l24 ⟨9, .data⟩ (by simp) rfl
            rw [hn] at l9
            cases l9
          have s6 := hI.sp h29 6 (by omega) (hd _ rfl ⟨6, .data⟩ (by simp) rfl)
          have s8 := hI.sp h29 8 (by omega) (hd _ rfl ⟨8, .data⟩ (by simp) rfl)
          refine wpOp_step rfl ?_
          intro K hK
          have h26 : listed.getD 26 false = false := by
            refine Bool.eq_false_iff.2 fun l26 => ?_
            have l25 := hcl 26 _ rfl l26 ⟨25, .data⟩ (by simp) rfl
            have l24 := hcl 25 _ rfl l25 ⟨24, .data⟩ (by simp) rfl
            have l9 := hcl 24 _ rfl l24 ⟨9, .data⟩ (by simp) rfl
            rw [hn] at l9
            cases l9
          exact hI.app ok hs h29 h26 rfl 28 30 9 1 (by omega) rfl rfl s6 s8 (by omega) (by omega) (fun _ _ h => h) hK
        · -- 10
          have h29 : listed.getD 29 false = false := by
            refine Bool.eq_false_iff.2 fun l29 => ?_
            have l26 := hcl 29 _ rfl l29 ⟨26, .data⟩ (by simp) rfl
            have l25 := hcl 26 _ rfl l26 ⟨25, .data⟩ (by simp) rfl
            have l24 := hcl 25 _ rfl l25 ⟨24, .data⟩ (by simp) rfl
            have l14 := hcl 24 _ rfl l24 ⟨14, .data⟩ (by simp) rfl
            have l10 := hcl 14 _ rfl l14 ⟨10, .data⟩ (by simp) rfl
            rw [hn] at l10
            cases l10
          refine wpOp_step rfl ?_
          intro K hK
          exact st_move rfl (.tmp 1) rfl _ hI.t1 (hK _ _ (hI.quiet hs (i := 10) (by omega) h29 rfl))
        · -- 11
          have h29 : listed.getD 29 false = false := by
            refine Bool.eq_false_iff.2 fun l29 => ?_
            have l26 := hcl 29 _ rfl l29 ⟨26, .data⟩ (by simp) rfl
            have l25 := hcl 26 _ rfl l26 ⟨25, .data⟩ (by simp) rfl
            have l24 := hcl 25 _ rfl l25 ⟨24, .data⟩ (by simp) rfl
            have l14 := hcl 24 _ rfl l24 ⟨14, .data⟩ (by simp) rfl
            have l13 := hcl 14 _ rfl l14 ⟨13, .data⟩ (by simp) rfl
            have l11 := hcl 13 _ rfl l13 ⟨11, .data⟩ (by simp) rfl
            rw [hn] at l11
            cases l11
          refine wpOp_step rfl ?_
          intro K hK
          exact st_move rfl (.tmp 4) rfl _ hI.t4 (hK _ _ (hI.quiet hs (i := 11) (by omega) h29 rfl))
        · -- 12
          have h29 : listed.getD 29 false = false := by
            refine Bool.eq_false_iff.2 fun l29 => ?_
            have l26 := hcl 29 _ rfl l29 ⟨26, .data⟩ (by simp) rfl
            have l25 := hcl 26 _ rfl l26 ⟨25, .data⟩ (by simp) rfl
            have l24 := hcl 25 _ rfl l25 ⟨24, .data⟩ (by simp) rfl
            have l14 := hcl 24 _ rfl l24 ⟨14, .data⟩ (by simp) rfl
            have l13 := hcl 14 _ rfl l14 ⟨13, .data⟩ (by simp) rfl
            have l12 := hcl 13 _ rfl l13 ⟨12, .data⟩ (by simp) rfl
            rw [hn] at l12
            cases l12
          refine wpOp_step rfl ?_
          intro K hK
          exact st_move rfl (.tmp 4) rfl _ hI.t4 (hK _ _ (hI.quiet hs (i := 12) (by omega) h29 rfl))
        · -- 13
          have h29 : listed.getD 29 false = false := by
            refine Bool.eq_false_iff.2 fun l29 => ?_
            have l26 := hcl 29 _ rfl l29 ⟨26, .data⟩ (by simp) rfl
            have l25 := hcl 26 _ rfl l26 ⟨25, .data⟩ (by simp) rfl
            have l24 := hcl 25 _ rfl l25 ⟨24, .data⟩ (by simp) rfl
            have l14 := hcl 24 _ rfl l24 ⟨14, .data⟩ (by simp) rfl
            have l13 := hcl 14 _ rfl l14 ⟨13, .data⟩ (by simp) rfl
            rw [hn] at l13
            cases l13
          have s11 := hI.sp h29 11 (by omega) (hd _ rfl ⟨11, .data⟩ (by simp) rfl)
          have s12 := hI.sp h29 12 (by omega) (hd _ rfl ⟨12, .data⟩ (by simp) rfl)
          refine wpOp_step rfl ?_
          intro K hK
          have h26 : listed.getD 26 false = false := by
            refine Bool.eq_false_iff.2 fun l26 => ?_
            have l25 := hcl 26 _ rfl l26 ⟨25, .data⟩ (by simp) rfl
            have l24 := hcl 25 _ rfl l25 ⟨24, .data⟩ (by simp) rfl
            have l14 := hcl 24 _ rfl l24 ⟨14, .data⟩ (by simp) rfl
            have l13 := hcl 14 _ rfl l14 ⟨13, .data⟩ (by simp) rfl
            rw [hn] at l13
            cases l13
          exact st_build2 rfl (.tmp 33) (.tmp 34) rfl p.m s11 s12 (hK _ _ (hI.grow ok hs (i := 13) (by omega) h29 h26 ((Below.refl _ _).alloc (Nat.le_refl _) _) ⟨w.heap.size, Or.inl (hI.pre h29).1.size, rfl, At.alloc_new w _ _⟩))
        · -- 14
          have h29 : listed.getD 29 false = false := by
            refine Bool.eq_false_iff.2 fun l29 => ?_
            have l26 := hcl 29 _ rfl l29 ⟨26, .data⟩ (by simp) rfl
            have l25 := hcl 26 _ rfl l26 ⟨25, .data⟩ (by simp) rfl
            have l24 := hcl 25 _ rfl l25 ⟨24, .data⟩ (by simp) rfl
            have l14 := hcl 24 _ rfl l24 ⟨14, .data⟩ (by simp) rfl
            rw [hn] at l14
            cases l14
          have s10 := hI.sp h29 10 (by omega) (hd _ rfl ⟨10, .data⟩ (by simp) rfl)
          have s13 := hI.sp h29 13 (by omega) (hd _ rfl ⟨13, .data⟩ (by simp) rfl)
          refine wpOp_step rfl ?_
          intro K hK
          have h26 : listed.getD 26 false = false := by
            refine Bool.eq_false_iff.2 fun l26 => ?_
            have l25 := hcl 26 _ rfl l26 ⟨25, .data⟩ (by simp) rfl
            have l24 := hcl 25 _ rfl l25 ⟨24, .data⟩ (by simp) rfl
            have l14 := hcl 24 _ rfl l24 ⟨14, .data⟩ (by simp) rfl
            rw [hn] at l14
            cases l14
          exact hI.app ok hs h29 h26 rfl 32 35 14 2 (by omega) rfl rfl s10 s13 (by omega) (by omega) (fun _ _ h => h) hK
        · -- 15
          have h29 : listed.getD 29 false = false := by
            refine Bool.eq_false_iff.2 fun l29 => ?_
            have l26 := hcl 29 _ rfl l29 ⟨26, .data⟩ (by simp) rfl
            have l25 := hcl 26 _ rfl l26 ⟨25, .data⟩ (by simp) rfl
            have l24 := hcl 25 _ rfl l25 ⟨24, .data⟩ (by simp) rfl
            have l23 := hcl 24 _ rfl l24 ⟨23, .data⟩ (by simp) rfl
            have l15 := hcl 23 _ rfl l23 ⟨15, .data⟩ (by simp) rfl
            rw [hn] at l15
            cases l15
          refine wpOp_step rfl ?_
          intro K hK
          exact st_move rfl (.tmp 1) rfl _ hI.t1 (hK _ _ (hI.quiet hs (i := 15) (by omega) h29 rfl))
        · -- 16
          have h29 : listed.getD 29 false = false := by
            refine Bool.eq_false_iff.2 fun l29 => ?_
            have l26 := hcl 29 _ rfl l29 ⟨26, .data⟩ (by simp) rfl
            have l25 := hcl 26 _ rfl l26 ⟨25, .data⟩ (by simp) rfl
            have l24 := hcl 25 _ rfl l25 ⟨24, .data⟩ (by simp) rfl
            have l23 := hcl 24 _ rfl l24 ⟨23, .data⟩ (by simp) rfl
            have l22 := hcl 23 _ rfl l23 ⟨22, .data⟩ (by simp) rfl
            have l16 := hcl 22 _ rfl l22 ⟨16, .data⟩ (by simp) rfl
            rw [hn] at l16
            cases l16
          refine wpOp_step rfl ?_
          intro K hK
          exact st_move rfl (.tmp 4) rfl _ hI.t4 (hK _ _ (hI.quiet hs (i := 16) (by omega) h29 rfl))
        · -- 17
          have h29 : listed.getD 29 false = false := by
            refine Bool.eq_false_iff.2 fun l29 => ?_
            have l26 := hcl 29 _ rfl l29 ⟨26, .data⟩ (by simp) rfl
            have l25 := hcl 26 _ rfl l26 ⟨25, .data⟩ (by simp) rfl
            have l24 := hcl 25 _ rfl l25 ⟨24, .data⟩ (by simp) rfl
            have l23 := hcl 24 _ rfl l24 ⟨23, .data⟩ (by simp) rfl
            have l22 := hcl 23 _ rfl l23 ⟨22, .data⟩ (by simp) rfl
            have l17 := hcl 22 _ rfl l22 ⟨17, .data⟩ (by simp) rfl
            rw [hn] at l17
            cases l17
          refine wpOp_step rfl ?_
          intro K hK
          exact st_move rfl (.tmp 4) rfl _ hI.t4 (hK _ _ (hI.quiet hs (i := 17) (by omega) h29 rfl))
        · -- 18
          have h29 : listed.getD 29 false = false := by
            refine Bool.eq_false_iff.2 fun l29 => ?_
            have l26 := hcl 29 _ rfl l29 ⟨26, .data⟩ (by simp) rfl
            have l25 := hcl 26 _ rfl l26 ⟨25, .data⟩ (by simp) rfl
            have l24 := hcl 25 _ rfl l25 ⟨24, .data⟩ (by simp) rfl
            have l23 := hcl 24 _ rfl l24 ⟨23, .data⟩ (by simp) rfl
            have l22 := hcl 23 _ rfl l23 ⟨22, .data⟩ (by simp) rfl
            have l18 := hcl 22 _ rfl l22 ⟨18, .data⟩ (by simp) rfl
            rw [hn] at l18
            cases l18
          refine wpOp_step rfl ?_
          intro K hK
          exact st_move rfl (.tmp 4) rfl _ hI.t4 (hK _ _ (hI.quiet hs (i := 18) (by omega) h29 rfl))
        · -- 19
          have h29 : listed.getD 29 false = false := by
            refine Bool.eq_false_iff.2 fun l29 => ?_
            have l26 := hcl 29 _ rfl l29 ⟨26, .data⟩ (by simp) rfl
            have l25 := hcl 26 _ rfl l26 ⟨25, .data⟩ (by simp) rfl
            have l24 := hcl 25 _ rfl l25 ⟨24, .data⟩ (by simp) rfl
            have l23 := hcl 24 _ rfl l24 ⟨23, .data⟩ (by simp) rfl
            have l22 := hcl 23 _ rfl l23 ⟨22, .data⟩ (by simp) rfl
            have l19 := hcl 22 _ rfl l22 ⟨19, .data⟩ (by simp) rfl
            rw [hn] at l19
            cases l19
          refine wpOp_step rfl ?_
          intro K hK
          exact st_move rfl (.tmp 4) rfl _ hI.t4 (hK _ _ (hI.quiet hs (i := 19) (by omega) h29 rfl))
        · -- 20
          have h29 : listed.getD 29 false = false := by
            refine Bool.eq_false_iff.2 fun l29 => ?_
            have l26 := hcl 29 _ rfl l29 ⟨26, .data⟩ (by simp) rfl
            have l25 := hcl 26 _ rfl l26 ⟨25, .data⟩ (by simp) rfl
            have l24 := hcl 25 _ rfl l25 ⟨24, .data⟩ (by simp) rfl
            have l23 := hcl 24 _ rfl l24 ⟨23, .data⟩ (by simp) rfl
            have l22 := hcl 23 _ rfl l23 ⟨22, .data⟩ (by simp) rfl
            have l20 := hcl 22 _ rfl l22 ⟨20, .data⟩ (by simp) rfl
            rw [hn] at l20
            cases l20
          refine wpOp_step rfl ?_
          intro K hK
          exact st_move rfl (.tmp 4) rfl _ hI.t4 (hK _ _ (hI.quiet hs (i := 20) (by omega) h29 rfl))
        · -- 21
          have h29 : listed.getD 29 false = false := by
            refine Bool.eq_false_iff.2 fun l29 => ?_
            have l26 := hcl 29 _ rfl l29 ⟨26, .data⟩ (by simp) rfl
            have l25 := hcl 26 _ rfl l26 ⟨25, .data⟩ (by simp) rfl
            have l24 := hcl 25 _ rfl l25 ⟨24, .data⟩ (by simp) rfl
            have l23 := hcl 24 _ rfl l24 ⟨23, .data⟩ (by simp) rfl
            have l22 := hcl 23 _ rfl l23 ⟨22, .data⟩ (by simp) rfl
            have l21 := hcl 22 _ rfl l22 ⟨21, .data⟩ (by simp) rfl
            rw [hn] at l21
            cases l21
          refine wpOp_step rfl ?_
          intro K hK
          exact st_move rfl (.tmp 4) rfl _ hI.t4 (hK _ _ (hI.quiet hs (i := 21) (by omega) h29 rfl))
        · -- 22
          have h29 : listed.getD 29 false = false := by
            refine Bool.eq_false_iff.2 fun l29 => ?_
            have l26 := hcl 29 _ rfl l29 ⟨26, .data⟩ (by simp) rfl
            have l25 := hcl 26 _ rfl l26 ⟨25, .data⟩ (by simp) rfl
            have l24 := hcl 25 _ rfl l25 ⟨24, .data⟩ (by simp) rfl
            have l23 := hcl 24 _ rfl l24 ⟨23, .data⟩ (by simp) rfl
            have l22 := hcl 23 _ rfl l23 ⟨22, .data⟩ (by simp) rfl
            rw [hn] at l22
            cases l22
          have s16 := hI.sp h29 16 (by omega) (hd _ rfl ⟨16, .data⟩ (by simp) rfl)
          have s17 := hI.sp h29 17 (by omega) (hd _ rfl ⟨17, .data⟩ (by simp) rfl)
          have s18 := hI.sp h29 18 (by omega) (hd _ rfl ⟨18, .data⟩ (by simp) rfl)
          have s19 := hI.sp h29 19 (by omega) (hd _ rfl ⟨19, .data⟩ (by simp) rfl)
          have s20 := hI.sp h29 20 (by omega) (hd _ rfl ⟨20, .data⟩ (by simp) rfl)
          have s21 := hI.sp h29 21 (by omega) (hd _ rfl ⟨21, .data⟩ (by simp) rfl)
          refine wpOp_step rfl ?_
          intro K hK
          have h26 : listed.getD 26 false = false := by
            refine Bool.eq_false_iff.2 fun l26 => ?_
            have l25 := hcl 26 _ rfl l26 ⟨25, .data⟩ (by simp) rfl
            have l24 := hcl 25 _ rfl l25 ⟨24, .data⟩ (by simp) rfl
            have l23 := hcl 24 _ rfl l24 ⟨23, .data⟩ (by simp) rfl
            have l22 := hcl 23 _ rfl l23 ⟨22, .data⟩ (by simp) rfl
            rw [hn] at l22
            cases l22
          exact st_build6 rfl (.tmp 38) (.tmp 39) (.tmp 40) (.tmp 41) (.tmp 42) (.tmp 43) rfl p.m s16 s17 s18 s19 s20 s21 (hK _ _ (hI.grow ok hs (i := 22) (by omega) h29 h26 ((Below.refl _ _).alloc (Nat.le_refl _) _) ⟨w.heap.size, Or.inl (hI.pre h29).1.size, rfl, At.alloc_new w _ _⟩))
        · -- 23
          have h29 : listed.getD 29 false = false := by
            refine Bool.eq_false_iff.2 fun l29 => ?_
            have l26 := hcl 29 _ rfl l29 ⟨26, .data⟩ (by simp) rfl
            have l25 := hcl 26 _ rfl l26 ⟨25, .data⟩ (by simp) rfl
            have l24 := hcl 25 _ rfl l25 ⟨24, .data⟩ (by simp) rfl
            have l23 := hcl 24 _ rfl l24 ⟨23, .data⟩ (by simp) rfl
            rw [hn] at l23
            cases l23
          have s15 := hI.sp h29 15 (by omega) (hd _ rfl ⟨15, .data⟩ (by simp) rfl)
          have s22 := hI.sp h29 22 (by omega) (hd _ rfl ⟨22, .data⟩ (by simp) rfl)
          refine wpOp_step rfl ?_
          intro K hK
          have h26 : listed.getD 26 false = false := by
            refine Bool.eq_false_iff.2 fun l26 => ?_
            have l25 := hcl 26 _ rfl l26 ⟨25, .data⟩ (by simp) rfl
            have l24 := hcl 25 _ rfl l25 ⟨24, .data⟩ (by simp) rfl
            have l23 := hcl 24 _ rfl l24 ⟨23, .data⟩ (by simp) rfl
            rw [hn] at l23
            cases l23
          exact hI.app ok hs h29 h26 rfl 37 44 23 6 (by omega) rfl rfl s15 s22 (by omega) (by omega) (fun _ _ h => h) hK
        · -- 24
          have h29 : listed.getD 29 false = false := by
            refine Bool.eq_false_iff.2 fun l29 => ?_
            have l26 := hcl 29 _ rfl l29 ⟨26, .data⟩ (by simp) rfl
            have l25 := hcl 26 _ rfl l26 ⟨25, .data⟩ (by simp) rfl
            have l24 := hcl 25 _ rfl l25 ⟨24, .data⟩ (by simp) rfl
            rw [hn] at l24
            cases l24
          have s5 := hI.sp h29 5 (by omega) (hd _ rfl ⟨5, .data⟩ (by simp) rfl)
          have s9 := hI.sp h29 9 (by omega) (hd _ rfl ⟨9, .data⟩ (by simp) rfl)
          have s14 := hI.sp h29 14 (by omega) (hd _ rfl ⟨14, .data⟩ (by simp) rfl)
          have s23 := hI.sp h29 23 (by omega) (hd _ rfl ⟨23, .data⟩ (by simp) rfl)
          refine wpOp_step rfl ?_
          intro K hK
          have h26 : listed.getD 26 false = false := by
            refine Bool.eq_false_iff.2 fun l26 => ?_
            have l25 := hcl 26 _ rfl l26 ⟨25, .data⟩ (by simp) rfl
            have l24 := hcl 25 _ rfl l25 ⟨24, .data⟩ (by simp) rfl
            rw [hn] at l24
            cases l24
          obtain ⟨a9, n9, c9, e9, f9⟩ := s9
          obtain ⟨a14, n14, c14, e14, f14⟩ := s14
          obtain ⟨a23, n23, c23, e23, f23⟩ := s23
          have B : Below w.heap.size w (w.alloc (.cells #[p.L, .slice a9 n9 c9, .slice a14 n14 c14, .slice a23 n23 c23] 32 (0, 0))) := (Below.refl _ _).alloc (Nat.le_refl _) _
          refine st_build4 rfl (.tmp 27) (.tmp 31) (.tmp 36) (.tmp 45) rfl _ _ _ _ _ _ _ _ _ _ _ _ s5 e9 e14 e23 (hK _ _ (hI.grow ok hs (i := 24) (by omega) h29 h26 B ⟨w.heap.size, rfl, Or.inl (hI.pre h29).1.size, ?_⟩))
          have hb := p.blocks ok (KP.Mv.of_below (p := p) B)
          have at4 := At.alloc_new w [p.L, .slice a9 n9 c9, .slice a14 n14 c14, .slice a23 n23 c23] 32
          intro j hj
          match j, hj with
          | 0, _ => exact ⟨_, at4.cell 0, (ok.full.keep (p.blocks ok (hI.pre h29).1) (fun _ x => x)).keep hb (fun _ x => x)⟩
          | 1, _ => exact ⟨_, at4.cell 1, Filled.keep ⟨a9, n9, c9, rfl, f9⟩ hb (fun _ x => x)⟩
          | 2, _ => exact ⟨_, at4.cell 2, Filled.keep ⟨a14, n14, c14, rfl, f14⟩ hb (fun _ x => x)⟩
          | 3, _ => exact ⟨_, at4.cell 3, Filled.keep ⟨a23, n23, c23, rfl, f23⟩ hb (fun _ x => x)⟩
        · -- 25
          have h29 : listed.getD 29 false = false := by
            refine Bool.eq_false_iff.2 fun l29 => ?_
            have l26 := hcl 29 _ rfl l29 ⟨26, .data⟩ (by simp) rfl
            have l25 := hcl 26 _ rfl l26 ⟨25, .data⟩ (by simp) rfl
            rw [hn] at l25
            cases l25
          have s24 := hI.sp h29 24 (by omega) (hd _ rfl ⟨24, .data⟩ (by simp) rfl)
          refine wpOp_step rfl ?_
          intro K hK
          have h26 : listed.getD 26 false = false := by
            refine Bool.eq_false_iff.2 fun l26 => ?_
            have l25 := hcl 26 _ rfl l26 ⟨25, .data⟩ (by simp) rfl
            rw [hn] at l25
            cases l25
          obtain ⟨h', e', r'⟩ := s24
          have B : Below w.heap.size w (w.alloc (.cells #[.slice (some ⟨h', 0, none⟩) 4 4] 103 (0, 0))) := (Below.refl _ _).alloc (Nat.le_refl _) _
          have hb := p.blocks ok (KP.Mv.of_below (p := p) B)
          exact st_buildB rfl (.tmp 46) rfl _ _ _ e' (hK _ _ (hI.grow ok hs (i := 25) (by omega) h29 h26 B ⟨w.heap.size, _, Or.inl (hI.pre h29).1.size, rfl, At.alloc_new w _ _, Entry.keep ⟨h', rfl, r'⟩ hb (fun _ x => x)⟩))
        · -- 26
          have h29 : listed.getD 29 false = false := by
            refine Bool.eq_false_iff.2 fun l29 => ?_
            have l26 := hcl 29 _ rfl l29 ⟨26, .data⟩ (by simp) rfl
            rw [hn] at l26
            cases l26
          have s4 := hI.sp h29 4 (by omega) (hd _ rfl ⟨4, .data⟩ (by simp) rfl)
          have s25 := hI.sp h29 25 (by omega) (hd _ rfl ⟨25, .data⟩ (by simp) rfl)
          refine wpOp_step rfl ?_
          intro K hK
          have h26 : listed.getD 26 false = false := hn
          obtain ⟨h', e', n', v', at', en'⟩ := s25
          obtain ⟨m1, m2⟩ := hI.pre h29
          have own := own_below ok.row (m2 h26)
          obtain ⟨j0, ji, jz0, jz1, jz2⟩ := info_parts info_rows
          have vf := ok.vfew
          have one := entry_one en'
          refine step_append_row1 rfl (.tmp 26) (.tmp 47) 43 rfl 103 j0 (.slice none 0 0) 1 24 Tryz.underlying43 ji jz0 jz1 jz2 rfl (by decide) p.bv p.vs.length p.vs s4 own ⟨h', 0, none⟩ 1 1 [e'] v' rfl (fun j u hu => olds_of at' ⟨h', 0, none⟩ rfl j u hu) (fun u hu => by rw [List.mem_singleton] at hu; subst hu; exact one) (by unfold maxLen; omega) (by omega) (by omega) ?_
          intro g c w' own' gr ob
          have mv : p.Mv w w' := ⟨gr.os, gr.tape, gr.output, gr.size, fun k hk hne => gr.block k hk (fun e => hne e.symm)⟩
          refine hK _ _ (hI.put hs (i := 26) (by omega) h29 ⟨g, c, e', w.heap.size, rfl, own', en'.lt.keep (fun k hk hl => mv.block k hl (p.nb ok hk.1)) (fun _ x => x), ?_, gr.size⟩ (fun j u _ hne _ h => KP.Sp.mv ok mv hne h) mv (fun e => absurd rfl e))
          rcases ob g rfl with e | e
          · exact Or.inl e
          · exact Or.inr ⟨e, Nat.le_trans m1.size e⟩
        · -- 27
          have h29 : listed.getD 29 false = false := by
            refine Bool.eq_false_iff.2 fun l29 => ?_
            have l28 := hcl 29 _ rfl l29 ⟨28, .data⟩ (by simp) rfl
            have l27 := hcl 28 _ rfl l28 ⟨27, .data⟩ (by simp) rfl
            rw [hn] at l27
            cases l27
          have s0 := hI.sp h29 0 (by omega) (hd _ rfl ⟨0, .data⟩ (by simp) rfl)
          refine wpOp_step rfl ?_
          intro K hK
          exact st_nil rfl (.tmp 22) rfl _ s0 (hK _ _ (hI.quiet hs (i := 27) (by omega) h29 rfl))
        · -- 28
          have h29 : listed.getD 29 false = false := by
            refine Bool.eq_false_iff.2 fun l29 => ?_
            have l28 := hcl 29 _ rfl l29 ⟨28, .data⟩ (by simp) rfl
            rw [hn] at l28
            cases l28
          have s27 := hI.sp h29 27 (by omega) (hd _ rfl ⟨27, .data⟩ (by simp) rfl)
          refine wpOp_step rfl ?_
          intro K hK
          exact st_field rfl (.tmp 49) rfl _ s27 (hK _ _ (hI.quiet hs (i := 28) (by omega) h29 rfl))
        · -- 29
          have h29 := hn
          have s28 := hI.sp h29 28 (by omega) (hd _ rfl ⟨28, .data⟩ (by simp) rfl)
          have s26 := hI.sp h29 26 (by omega) (hd _ rfl ⟨26, .data⟩ (by simp) rfl)
          refine wpOp_step rfl ?_
          intro K hK
          obtain ⟨h', c', e', z', v', own, en, hh, hz⟩ := s26
          obtain ⟨m1, _⟩ := hI.pre h29
          have cb := KP.bcell ok m1
          have ab : At w p.b 45 [p.bv] := ok.book.of_block (m1.block _ ok.book.lt (fun e => (ok.off _ e).2 rfl))
          refine st_store rfl (.tmp 50) (.tmp 48) rfl p.b s28 p.bv h' _ c' v' cb (ab.frozen 0) (hK _ _ ?_)
          rw [v'] at own
          refine ⟨hI.t0, hI.t1, hI.t4, hI.sz, hI.df, fun h => ?_, fun h => ?_, fun _ => ?_⟩
          · rw [getD_set (by omega), if_pos rfl] at h; cases h
          · rw [getD_set (by omega), if_pos rfl] at h; cases h
          · have hne : ∀ k, ¬ k = p.b → (w.setCell ⟨p.b, 0, none⟩ (.slice (some ⟨h', 0, none⟩) (p.vs.length + 1) c')).heap[k]? = w.heap[k]? := fun k hk => heap_setCell_other _ _ _ _ hk
            have hb' : ¬ h' = p.b := by
              rcases hh with e | e
              · exact (ok.off _ e).2
              · have := ok.book.lt; omega
            refine ⟨_, ab.set 0 _, ⟨h', c', e', z', rfl, ?_, en.keep (fun k hk _ => hne k (fun e => ok.offb (e ▸ hk.1))) (fun _ x => x), hh, by rw [World.size_setCell]; exact hz⟩, m1.os, m1.tape, m1.output, by rw [World.size_setCell]; exact m1.size, fun k hk h1 h2 => (hne k h2).trans (m1.block k hk h1)⟩
            exact ownsRow_setCell_other own (by show ¬ some h' = some p.b; intro e; cases e; exact hb' rfl) _
      · intro listed a w hs hI hr
        have hall := all_listed (by decide +kernel) hr 29 (by show 29 < 30; omega)
        have h29 : listed.getD 29 false = true := by
          rw [Array.getD_eq_getD_getElem?] at hall ⊢
          cases hx : listed[29]? with
          | none =>
            have := Array.getElem?_eq_none_iff.1 hx
            have h30 : listed.size = 30 := hs
            omega
          | some u => rw [hx] at hall; simpa using hall
        have hF := hI.post h29
        obtain ⟨T, D⟩ := a
        have hdf : D = [] := hI.df
        subst hdf
        clear hI hall h29 hr hs
        go_wp2_with fail
        go_end0
        refine ⟨rfl, p, ok, by rw [hp], by rw [hp], by rw [hp]; exact hmm.out, by rw [hp], by rw [hp], ?_, ?_, ?_, ?_, ?_, hF⟩
        · rw [hp]; show w0.heap.size = _; rw [h0h]; exact hsz
        · intro q hq; rw [hp]; show w0.heap[q]? = _; rw [h0h]; exact HB.out q hq
        · rw [hp]; show w0.os = _; rw [hw0]; exact q1
        · rw [hp]; show w0.tape = _; rw [hw0]; exact q2
        · rw [hp]; show w0.output = _; rw [hw0]; exact q3
      · have hf : ∀ i, (Array.replicate 30 false).getD i false = false := by
          intro i
          rw [Array.getD_eq_getD_getElem?]
          cases hx : (Array.replicate 30 false)[i]? with
          | none => rfl
          | some u =>
            have := Array.mem_of_getElem? hx
            rw [Array.mem_replicate] at this
            rw [this.2]; rfl
        subst hp
        refine ⟨rfl, rfl, rfl, rfl, rfl, fun _ i _ h => ?_, fun _ => ⟨KP.Mv.refl _ _, fun _ => Below.refl _ _⟩, fun h => ?_⟩
        · have h' : (Array.replicate 30 false).getD i false = true := h
          rw [hf] at h'; cases h'
        · have h' : (Array.replicate 30 false).getD 29 false = true := h
          rw [hf] at h'; cases h'
end Go.Proofs.YtejbgcloblpbfaaGreatDoor
