import Derived.Test.YtejbgcloblpbfaaGreatDoorR30
import Derived.Deep.LoopGhost
namespace Go.Proofs.YtejbgcloblpbfaaGreatDoor
open Go.RowKit
open R (Nd)
open K (Nm Ex Do)
mutual
def ND (N : Nat) (nodes : List Nd) : Do → Nat → Prop
  | .set _ m e, k => ∃ n, ∃ x : Nat, nodes[k]? = some n ∧ n.word = ⟨#[115, 101, 116]⟩ ∧ n.L = [(x : Int)] ∧ n.t.pos = m.place ∧ 0 ≤ m.place ∧ m.place < N ∧ NE N nodes e x
  | .put _ m i e, k => ∃ n, ∃ x y : Nat, nodes[k]? = some n ∧ n.word = ⟨#[112, 117, 116]⟩ ∧ n.L = [(x : Int), (y : Int)] ∧ n.t.pos = m.place ∧ n.t.size = m.size ∧ 0 ≤ m.place ∧ 1 ≤ m.size ∧ m.size ≤ 6 ∧ m.place + m.size ≤ N ∧ NE N nodes i x ∧ NE N nodes e y
  | .ifs _ q y z, k => ∃ n, ∃ x : Nat, ∃ l1 l2 : List Nat, nodes[k]? = some n ∧ n.word = ⟨#[105, 102]⟩ ∧ n.L = (x : Int) :: l1.map (fun k : Nat => (k : Int)) ∧ n.two = l2.map (fun k : Nat => (k : Int)) ∧ NE N nodes q x ∧ NDs N nodes y l1 ∧ NDs N nodes z l2
  | .fors _ m r l, k => ∃ n, ∃ x : Nat, ∃ l1 : List Nat, nodes[k]? = some n ∧ n.word = ⟨#[102, 111, 114]⟩ ∧ n.L = (x : Int) :: l1.map (fun k : Nat => (k : Int)) ∧ 0 ≤ n.t.pos ∧ n.t.pos < 2 ∧ m.place = N + n.t.pos ∧ NE N nodes r x ∧ NDs N nodes l l1
  | .none, _ => False
def NDs (N : Nat) (nodes : List Nd) : List Do → List Nat → Prop
  | [], ks => ks = []
  | d :: l, ks => ∃ k r, ks = k :: r ∧ ND N nodes d k ∧ NDs N nodes l r
end
theorem NDs.get {N : Nat} {nodes : List Nd} : ∀ {l : List Do} {ks : List Nat}, NDs N nodes l ks → ks.length = l.length ∧ ∀ (i : Nat) (h : i < l.length), ∃ k, ks[i]? = some k ∧ ND N nodes l[i] k
  | [], ks, h => by
    unfold NDs at h
    subst h
    exact ⟨rfl, fun i hi => by simp at hi⟩
  | d :: l, ks, h => by
    unfold NDs at h
    obtain ⟨k, r, rfl, h1, h2⟩ := h
    obtain ⟨i1, i2⟩ := NDs.get h2
    refine ⟨by simp [i1], fun i hi => ?_⟩
    cases i with
    | zero => exact ⟨k, rfl, h1⟩
    | succ i => exact i2 i (by simpa using hi)
structure Left2 (w : World) (lim sb gM gC N : Nat) (W : List Int) : Prop where
  at_ : SAt w lim sb gM gC (W.take N) (W.drop N)
  len : W.length = N + 2
structure But3 (sb gM gC : Nat) (w w' : World) : Prop where
  os : w'.os = w.os
  tape : w'.tape = w.tape
  output : w'.output = w.output
  size : w.heap.size ≤ w'.heap.size
  block : ∀ k, k < w.heap.size → k ≠ gM → k ≠ gC → w'.heap[k]? = w.heap[k]?
theorem But3.refl (sb gM gC : Nat) (w : World) : But3 sb gM gC w w := ⟨rfl, rfl, rfl, Nat.le_refl _, fun _ _ _ _ => rfl⟩
theorem But3.trans {sb gM gC : Nat} {a c d : World} (h : But3 sb gM gC a c) (k : But3 sb gM gC c d) : But3 sb gM gC a d :=
  ⟨k.os.trans h.os, k.tape.trans h.tape, k.output.trans h.output, Nat.le_trans h.size k.size, fun i hi n1 n2 => (k.block i (Nat.lt_of_lt_of_le hi h.size) n1 n2).trans (h.block i hi n1 n2)⟩
theorem But3.of_below {sb gM gC : Nat} {w w' : World} (h : Below w.heap.size w w') : But3 sb gM gC w w' := ⟨h.os, h.tape, h.output, h.size, fun k hk _ _ => h.block k hk⟩
theorem But3.low {sb gM gC lim : Nat} {w w' : World} (h : But3 sb gM gC w w') (h1 : lim ≤ gM) (h2 : lim ≤ gC) (h3 : lim ≤ w.heap.size) : Below lim w w' :=
  ⟨h.os, h.tape, h.output, h.size, fun k hk => h.block k (by omega) (by omega) (by omega)⟩
def StDoes (N : Nat) (nodes : List Nd) (d : Do) : Prop := ∀ (w : World) (lim b sb gM gC k : Nat) (W : List Int), PAt w lim b nodes → Left2 w lim sb gM gC N W → N ≤ 54 → lim ≤ w.heap.size → ND N nodes d k →
  Calls Tryz.prog 65 #[P b, P sb, .int .i64 (k : Int)] w fun x w' => x = .returned (.tuple #[]) ∧ Left2 w' lim sb gM gC N (V.rd d W) ∧ But3 sb gM gC w w'
def AllDoes (N : Nat) (nodes : List Nd) (l : List Do) : Prop := ∀ (w : World) (lim b sb gM gC : Nat) (W : List Int) (a : Option Addr) (o : Nat) (c : Nat) (ks : List Nat), PAt w lim b nodes → Left2 w lim sb gM gC N W → N ≤ 54 → lim ≤ w.heap.size → NDs N nodes l ks →
  (∀ (j : Nat) u, ks[j]? = some u → ∃ q, a = some ⟨q, o, none⟩ ∧ q < lim ∧ w.cell? ⟨q, o + j, none⟩ = some (.int .i64 (u : Int))) → ks.length ≤ 9223372036854775807 →
  Calls Tryz.prog 48 #[P b, P sb, .slice a ks.length c] w fun x w' => x = .returned (.tuple #[]) ∧ Left2 w' lim sb gM gC N (V.rds l W) ∧ But3 sb gM gC w w'
theorem V.rds_drop' {l : List Do} {k : Nat} (h : k < l.length) (W : List Int) : V.rds (l.drop k) W = V.rds (l.drop (k + 1)) (V.rd l[k] W) := by
  rw [List.drop_eq_getElem_cons h, V.rds]
set_option maxHeartbeats 1000000 in
theorem all_of (N : Nat) (nodes : List Nd) (l : List Do) (hl : ∀ d ∈ l, StDoes N nodes d) : AllDoes N nodes l := by
  intro w lim b sb gM gC W a o c ks hP hS h54 hlim hn hc h100
  obtain ⟨hlen, hget⟩ := hn.get
  have HK0 : Hid (V.rds l W = V.rds (l.drop 0) W) := rfl
  have HC := hide hc
  have HG := hide hget
  have HLEN := hide hlen
  have lo := hS.at_.lo
  clear hc hget hlen hn
  go_enter Tryz.func48, Tryz.ntmps48
  go_wp2_with fail
  go_loopg [6] ks.length (fun gk i wr => ∃ (k : Nat) (W' : List Int), k + gk = ks.length ∧ i = .int .i64 (k : Int) ∧ Left2 wr lim sb gM gC N W' ∧ But3 sb gM gC w wr ∧ Hid (V.rds l W = V.rds (l.drop k) W'))
  case atStart => exact ⟨0, W, by omega, rfl, hS, But3.refl _ _ _ _, HK0⟩
  case round =>
    obtain ⟨k, W', hk, rfl, hr, Bk, HK⟩ := hrel
    cases gk with
    | zero =>
      have hz : ¬ ((k : Int) < (ks.length : Int)) := by omega
      have HX : Hid (V.rds l W = W') := by
        show _ = _
        rw [HK.out, List.drop_eq_nil_of_le (by have := HLEN.out; omega), V.rds]
      go_wp2_with fail
      go_end0
      rw [HX.out]
      exact ⟨rfl, hr, Bk⟩
    | succ g1 =>
      have hz : (k : Int) < (ks.length : Int) := by omega
      have hll : k < l.length := by have := HLEN.out; omega
      obtain ⟨u, hu, hd⟩ := HG.out k hll
      obtain ⟨q, rfl, hq, hqc⟩ := HC.out k u hu
      have Bl := Bk.low lo.2.1 lo.2.2 hlim
      have cq := (Bl.cell (p := ⟨q, o + k, none⟩) hq).trans hqc
      have hst := hl l[k] (List.getElem_mem hll) wr lim b sb gM gC u W' (hP.keep Bl) hr h54 (Nat.le_trans hlim Bk.size) hd
      have HK' : Hid (V.rds l W = V.rds (l.drop (k + 1)) (V.rd l[k] W')) := HK.out.trans (V.rds_drop' hll W')
      clear HK HK0
      generalize V.rd l[k] W' = W2 at *
      generalize ks.length = KL at *
      go_wp2_with fail
      refine hst.mono ?_
      rintro x w2 ⟨rfl, h2, hb2⟩
      go_wp2_with fail
      go_roundg g1
      case measure => omega
      case rel => exact ⟨k + 1, W2, by omega, by go_num, h2, Bk.trans hb2, HK'⟩
end Go.Proofs.YtejbgcloblpbfaaGreatDoor
namespace Go.Proofs.YtejbgcloblpbfaaGreatDoor
open Go.RowKit
open R (Nd)
open K (Nm Ex Do)
theorem SAt.setM {w : World} {lim sb gM gC : Nat} {M C : List Int} (h : SAt w lim sb gM gC M C) {k : Nat} (hk : k < M.length) (v : Int) : SAt (w.setCell ⟨gM, k, none⟩ (.int .i64 v)) lim sb gM gC (M.set k v) C := by
  obtain ⟨⟨aM, cM, h1, h2⟩, h3, h4, h5, h6, h7⟩ := h
  obtain ⟨rest, h8⟩ := h3 (by omega)
  refine ⟨⟨aM, cM, ?_, fun hp => h2 (by rw [List.length_set] at hp; exact hp)⟩, fun _ => ⟨rest, ?_⟩, h4.set_other (a := ⟨gM, k, none⟩) (fun e => (h6.1 (by omega)).1 e.symm) _, h5, ⟨fun hp => h6.1 (by rw [List.length_set] at hp; exact hp), h6.2⟩, by simpa [World.setCell] using h7⟩
  · rw [List.length_set]; exact h1.set_other (a := ⟨gM, k, none⟩) (h6.1 (by omega)).2 _
  · rw [List.map_set, ← List.set_append_left _ _ (by rw [List.length_map]; exact hk)]
    exact h8.set k _
theorem SAt.setC {w : World} {lim sb gM gC : Nat} {M C : List Int} (h : SAt w lim sb gM gC M C) (k : Nat) (v : Int) : SAt (w.setCell ⟨gC, k, none⟩ (.int .i64 v)) lim sb gM gC M (C.set k v) := by
  obtain ⟨⟨aM, cM, h1, h2⟩, h3, h4, h5, h6, h7⟩ := h
  refine ⟨⟨aM, cM, ?_, h2⟩, fun hp => ?_, ?_, h5, h6, by simpa [World.setCell] using h7⟩
  · rw [List.length_set]; exact h1.set_other (a := ⟨gC, k, none⟩) h6.2 _
  · obtain ⟨rest, h8⟩ := h3 hp
    exact ⟨rest, h8.set_other (a := ⟨gC, k, none⟩) (h6.1 hp).1 _⟩
  · rw [List.map_set]; exact h4.set k _
theorem Left2.setM {w : World} {lim sb gM gC N : Nat} {W : List Int} (h : Left2 w lim sb gM gC N W) {k : Nat} (hk : k < N) (v : Int) : Left2 (w.setCell ⟨gM, k, none⟩ (.int .i64 v)) lim sb gM gC N (W.set k v) := by
  refine ⟨?_, by rw [List.length_set]; exact h.len⟩
  have hl := h.len
  rw [List.take_set, List.drop_set_of_lt hk]
  exact h.at_.setM (by rw [List.length_take]; omega) v
theorem Left2.setC {w : World} {lim sb gM gC N : Nat} {W : List Int} (h : Left2 w lim sb gM gC N W) (k : Nat) (v : Int) : Left2 (w.setCell ⟨gC, k, none⟩ (.int .i64 v)) lim sb gM gC N (W.set (N + k) v) := by
  refine ⟨?_, by rw [List.length_set]; exact h.len⟩
  rw [List.take_set_of_le (by omega), List.drop_set, if_neg (by omega), Nat.add_sub_cancel_left]
  exact h.at_.setC k v
theorem Left2.below {w w' : World} {lim sb gM gC N : Nat} {W : List Int} (h : Left2 w lim sb gM gC N W) (hb : Below w.heap.size w w') : Left2 w' lim sb gM gC N W := ⟨h.at_.below hb, h.len⟩
theorem Left2.still {w w' : World} {lim sb gM gC N : Nat} {W : List Int} (h : Left2 w lim sb gM gC N W) (e : w'.heap = w.heap) : Left2 w' lim sb gM gC N W := by
  obtain ⟨⟨⟨aM, cM, h1, h2⟩, h3, h4, h5, h6, h7⟩, hl⟩ := h
  refine ⟨⟨⟨aM, cM, h1.of_block (by rw [e]), h2⟩, fun hp => ?_, h4.of_block (by rw [e]), h5, h6, by rw [e]; exact h7⟩, hl⟩
  obtain ⟨rest, h8⟩ := h3 hp
  exact ⟨rest, h8.of_block (by rw [e])⟩
theorem But3.setM {sb gM gC : Nat} {a w : World} (h : But3 sb gM gC a w) (k : Nat) (v : Value) : But3 sb gM gC a (w.setCell ⟨gM, k, none⟩ v) :=
  h.trans ⟨rfl, rfl, rfl, by simp [World.setCell], fun _ _ n1 _ => Below.heap_setCell _ _ _ _ n1⟩
theorem But3.setC {sb gM gC : Nat} {a w : World} (h : But3 sb gM gC a w) (k : Nat) (v : Value) : But3 sb gM gC a (w.setCell ⟨gC, k, none⟩ v) :=
  h.trans ⟨rfl, rfl, rfl, by simp [World.setCell], fun _ _ _ n2 => Below.heap_setCell _ _ _ _ n2⟩
theorem But3.drew {sb gM gC : Nat} {a w : World} (h : But3 sb gM gC a w) : But3 sb gM gC a w.drew := ⟨h.os, h.tape, h.output, h.size, h.block⟩
theorem va_all {N : Nat} {nodes : List Nd} {e : Ex} (he : VaDoes N nodes e) {w : World} {lim b sb gM gC k : Nat} {W : List Int} (hP : PAt w lim b nodes) (hS : Left2 w lim sb gM gC N W) (h54 : N ≤ 54) (hlim : lim ≤ w.heap.size) (hn : NE N nodes e k) :
    Calls Tryz.prog 91 #[P b, P sb, .int .i64 (k : Int)] w fun x w' => x = .returned (.int .i64 (V.ev W e)) ∧ Below w.heap.size w w' := by
  have hl := hS.len
  have h := he w lim b sb gM gC k _ _ hP hS.at_ (by rw [List.length_take]; omega) (by rw [List.length_drop]; omega) h54 hlim hn
  rw [List.take_append_drop] at h
  exact h
set_option maxRecDepth 100000 in
set_option maxHeartbeats 2000000 in
theorem st_set (N : Nat) (nodes : List Nd) (p : Int) (m : Nm) (e : Ex) (he : VaDoes N nodes e) : StDoes N nodes (.set p m e) := by
  intro w lim b sb gM gC k W hP hS h54 hlim hn
  unfold ND at hn
  obtain ⟨n, x, hn, hw, hL, hpo, p0, pN, hne⟩ := hn
  obtain ⟨g, la, lc, ta, tc, cap, nc, hg, hl, _⟩ := hP.nc hn
  obtain ⟨q, rfl, hq, hqc⟩ := hl 0 x (by rw [hL]; rfl)
  have hkl : k < nodes.length := (List.getElem?_eq_some_iff.1 hn).1
  have hkz : (k : Int) < (nodes.length : Int) := by omega
  have few := hP.few
  have hbl := hP.lt
  obtain ⟨j, hj⟩ := Int.eq_ofNat_of_zero_le p0
  have hjN : j < N := by omega
  have HV : Hid (V.rd (.set p m e) W = W.set j (V.ev W e)) := by show _ = _; rw [V.rd, hj]; rfl
  rw [HV.out]
  clear HV
  obtain ⟨wd, n1, ⟨t0, t1, t2, t3, t4⟩, nL, n2, n5⟩ := n
  obtain ⟨c7, d0, d1, d2, d3, d4, d5, d6, d7, d8, d9⟩ := nc
  dsimp only at *
  have e3 : t3 = (j : Int) := by omega
  subst hw hL e3
  generalize n2.length = tn at *
  have B0 : Below w.heap.size w (w.alloc (.cells #[.string ⟨#[115, 101, 116]⟩, .int .i64 n1, .string t0, .int .i64 t1, .bool t2, .int .i64 (j : Int), .int .i64 t4, .slice (some ⟨q, 0, none⟩) 1 lc, .slice ta tn tc, .bool n5] 145 (0, 0))) := (Below.refl _ _).alloc (Nat.le_refl _) _
  have bx := At.alloc_new w [.string ⟨#[115, 101, 116]⟩, .int .i64 n1, .string t0, .int .i64 t1, .bool t2, .int .i64 (j : Int), .int .i64 t4, .slice (some ⟨q, 0, none⟩) 1 lc, .slice ta tn tc, .bool n5] 145
  have S0 := hS.below B0
  have hcall := va_all he (hP.keep (B0.mono hlim)) S0 h54 (Nat.le_trans hlim B0.size) hne
  have qc := (B0.cell (p := ⟨q, 0, none⟩) (show q < w.heap.size by omega)).trans hqc
  have hql : q < w.heap.size := by omega
  have hWl := hS.len
  clear hne hpo p0 pN hj hl
  generalize V.ev W e = v at *
  generalize nodes.length = NL at *
  go_enter Tryz.func65, Tryz.ntmps65
  go_wp2_with fail
  refine hcall.mono ?_
  rintro y w1 ⟨rfl, hb1⟩
  have S1 := S0.below hb1
  have BW : But3 sb gM gC w w1 := But3.of_below (B0.trans (hb1.mono B0.size))
  have bx1 := bx.of_block (hb1.block _ bx.lt)
  have k0 := bx1.cell 0
  have k5 := bx1.cell 5
  simp only [List.getElem?_cons_zero, List.getElem?_cons_succ] at k0 k5
  have hl1 := bx1.lt
  obtain ⟨aM, cM, hs, haM⟩ := S1.at_.cells
  have hML : (W.take N).length = N := by rw [List.length_take]; omega
  have sa := haM (by omega)
  subst sa
  have s0 := hs.cell 0
  simp only [List.getElem?_cons_zero] at s0
  rw [hML] at s0
  have hsl := hs.lt
  have cw := S1.at_.word (k := j) (by omega)
  obtain ⟨rest, hmm⟩ := S1.at_.mem (by omega)
  have fw := hmm.frozen j
  have hz : (j : Int) < (N : Int) := by omega
  have R1 := (S1.still (w' := w1.drew) rfl).setM hjN v
  go_upto_region 4 with fail
  go_region
  all_goals
    go_wp2_with fail
    go_end0
    exact ⟨rfl, R1, BW.drew.setM j _⟩
end Go.Proofs.YtejbgcloblpbfaaGreatDoor
