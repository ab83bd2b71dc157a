import Derived.Test.YtejbgcloblpbfaaGreatDoorB15
import Derived.Test.YtejbgcloblpbfaaGreatDoorB04
import Derived.Test.YtejbgcloblpbfaaGreatDoorB07
import Derived.Test.YtejbgcloblpbfaaGreatDoorB11
import Derived.Deep.DeepAppendRoom
import Derived.OwnWalk
namespace Go.Proofs.YtejbgcloblpbfaaGreatDoor
open Go.RowKit
open K (Nm Ex Do)
set_option maxRecDepth 100000 in
set_option maxHeartbeats 2000000 in
theorem gd_putF (p : Int) (n : Nm) (i e : Ex) (hgi : K.good i = true) (hg : K.good e = true) (hq : K.sec i = false) : GdDoes (.put p n i e) := by
  intro B w b g u hid h hd hB
  unfold DoIs at hd
  subst hd
  have a1 := ad_Put_Set
  have a2 := ad_Put_Put
  have hlt := h.lt
  have hm := sec_method i hgi
  have hna := sec_ahead i hgi
  have hen := sec_enter i hgi
  have hs := sec_c i hgi
  unfold SecDoes at hs
  have HK : Hid (K.gd hid (.put p n i e) g = K.gx e (K.gx i (K.note p (K.sec i || K.tells n e hid) g))) := by show _ = _; rw [K.gd]
  have ht := fun w => tells_c n e hid hg w
  have hn := fun (w : World) (h' : GAt w b g) => note_c h' p (K.sec i || K.tells n e hid)
  have hx := fun (w : World) (h' : GAt w b (K.note p (K.sec i || K.tells n e hid) g)) => gx_c i hgi w b _ h'
  have hx2 := fun (w : World) (h' : GAt w b (K.gx i (K.note p (K.sec i || K.tells n e hid) g))) => gx_c e hg w b _ h'
  rw [exV_good hgi] at hx ⊢
  rw [exV_good hg] at hx2 ht ⊢
  unfold nmV at ht
  generalize K.gd hid (.put p n i e) g = G at *
  generalize K.gx e (K.gx i (K.note p (K.sec i || K.tells n e hid) g)) = G3 at *
  generalize K.gx i (K.note p (K.sec i || K.tells n e hid) g) = G2 at *
  generalize K.note p (K.sec i || K.tells n e hid) g = g1 at *
  generalize K.tells n e hid = q at *
  generalize K.sec i = qi at *
  generalize exT i = ti at *
  generalize exP i = xi at *
  generalize exM i = mi at *
  generalize exT e = t at *
  generalize exP e = x at *
  obtain ⟨x0, x1, x2, x3, x4⟩ := n
  dsimp only at *
  have h0 := h.alloc (.cells #[.int .i64 p, .string x0, .int .i64 x1, .bool x2, .int .i64 x3, .int .i64 x4, .iface ti xi, .iface t x] 181 (0, 0))
  have bx := At.alloc_new w [.int .i64 p, .string x0, .int .i64 x1, .bool x2, .int .i64 x3, .int .i64 x4, .iface ti xi, .iface t x] 181
  have B0 : But b w (w.alloc (.cells #[.int .i64 p, .string x0, .int .i64 x1, .bool x2, .int .i64 x3, .int .i64 x4, .iface ti xi, .iface t x] 181 (0, 0))) := (But.refl b w).alloc _
  have nq : w.heap.size ≠ b := by omega
  subst hq
  rw [Bool.false_or] at hn
  go_enter Tryz.func108, Tryz.ntmps108
  go_upto_region 7 with fail
  first | go_region_with (first | (go_at_call 142; refine (hn _ h1').mono ?_; rintro y w2 ⟨rfl, h2, hb2⟩; have bx2 := bx1'.of_block (hb2.block _ bx1'.lt nq); have k6 := bx2.cell 6; simp only [List.getElem?_cons_zero, List.getElem?_cons_succ] at k6) | (go_at_call 143; refine (ht _).mono ?_; rintro y w1' ⟨rfl, hb1'⟩; have h1' : GAt w1' b g := h1.of_block (hb1'.block _ h1.lt); have bx1' := bx1.of_block (hb1'.block _ bx1.lt); have k0' := bx1'.cell 0; simp only [List.getElem?_cons_zero] at k0') | (refine (hs _).mono ?_; rintro y w1 ⟨rfl, hb1⟩; have h1 : GAt w1 b g := h0.of_block (hb1.block _ h0.lt); have bx1 : At w1 w.heap.size 181 [.int .i64 p, .string x0, .int .i64 x1, .bool x2, .int .i64 x3, .int .i64 x4, .iface ti xi, .iface t x] := bx.of_block (hb1.block _ bx.lt); have k0 := bx1.cell 0; have k1 := bx1.cell 1; have k2 := bx1.cell 2; have k3 := bx1.cell 3; have k4 := bx1.cell 4; have k5 := bx1.cell 5; have k7 := bx1.cell 7; simp only [List.getElem?_cons_zero, List.getElem?_cons_succ] at k0 k1 k2 k3 k4 k5 k7)) | fail
  all_goals
    have B2 := ((B0.drew.below hb1).below hb1').trans hb2
    go_wp2_with fail
    refine (hx _ h2).mono ?_
    rintro y w3 ⟨rfl, h3, hb3⟩
    have bx3 := bx2.of_block (hb3.block _ bx2.lt nq)
    have k7 := bx3.cell 7
    simp only [List.getElem?_cons_zero, List.getElem?_cons_succ] at k7
    go_wp2_with fail
    refine (hx2 _ h3).mono ?_
    rintro y w4 ⟨rfl, h4, hb4⟩
    go_wp2_with fail
    go_end0
    rw [HK.out]
    exact ⟨rfl, h4, (B2.trans hb3).trans hb4⟩
end Go.Proofs.YtejbgcloblpbfaaGreatDoor
namespace Go.Proofs.YtejbgcloblpbfaaGreatDoor
namespace R
theorem fail_no {e p : Int} {σ : PS} (he : e ≠ 0) : (fail e p σ).err ≠ 0 := by
  unfold fail
  split
  · exact he
  · assumption
theorem dSize_none {T : List Tok} {k : Int} {σ σ' : PS} (h : dSize T k σ = (σ', none)) : σ'.err ≠ 0 := by
  unfold dSize at h
  split at h
  · split at h
    · simp at h
    · simp only [Prod.mk.injEq] at h
      rw [← h.1]
      exact fail_no (by decide)
  · simp at h
theorem dSize_bd {T : List Tok} {k : Int} {σ σ' : PS} {n : Int} (h : dSize T k σ = (σ', some n)) : 1 ≤ n ∧ n ≤ 6 := by
  unfold dSize at h
  split at h
  · split at h
    · rename_i _ hs
      simp only [Prod.mk.injEq, Option.some.injEq] at h
      unfold isSize at hs
      simp only [Bool.and_eq_true, decide_eq_true_eq] at hs
      omega
    · simp at h
  · simp only [Prod.mk.injEq, Option.some.injEq] at h
    omega
theorem decl_db {T : List Tok} {m : Nat} {σ : PS} (h : DB m σ) (hm : m ≤ 8) (he : (decl T σ).err = 0) : m < 8 ∧ DB (m + 1) (decl T σ) := by
  obtain ⟨d1, d2, d3, d4, d5, d6, d7⟩ := h
  have o1 := opens_core T σ
  have hsz : (opens T σ).size = σ.size := congrArg (fun c => c.2.2.1) o1.1
  have hse : (opens T σ).seen = σ.seen := congrArg (fun c => c.1) o1.1
  have hsh : (opens T σ).shape = σ.shape := congrArg (fun c => c.2.2.2.1) o1.1
  have hnm : (opens T σ).names = σ.names := congrArg (fun c => c.2.1) o1.1
  have hlo : (opens T σ).loops = σ.loops := congrArg (fun c => c.2.2.2.2.1) o1.1
  have hhi : (opens T σ).hidden = σ.hidden := congrArg (fun c => c.2.2.2.2.2.1) o1.1
  have hno := o1.2.1
  have hne := o1.2.2.2
  unfold decl at he ⊢
  split at he
  · exact absurd he (fail_no (by decide))
  · rename_i h8
    rw [if_neg h8]
    refine ⟨by omega, ?_⟩
    clear o1
    generalize opens T σ = σ1 at *
    unfold declIn at he ⊢
    dsimp only at he ⊢
    have s1 := take_same T σ1
    have s2 := dHead_same T (tk T σ1.i) (take T σ1)
    generalize dHead T (tk T σ1.i) (take T σ1) = H at *
    have s3 := fresh_same T H.1
    have s4 := dSize_same T H.2.1 (fresh T H.1)
    obtain ⟨σ6, z, hz⟩ : ∃ σ6 z, dSize T H.2.1 (fresh T H.1) = (σ6, z) := ⟨_, _, rfl⟩
    rw [hz] at he s4 ⊢
    have sm := ((s1.tr s2).tr s3).tr s4
    cases z with
    | none => exact absurd he (dSize_none hz)
    | some n =>
      dsimp only at he sm ⊢
      have hn := dSize_bd hz
      have sk := shut_core T σ6
      have hsz6 : σ6.size = σ1.size := congrArg (fun c => c.2.2.1) sm.core
      have hse6 : σ6.seen = σ1.seen := congrArg (fun c => c.1) sm.core
      have hsh6 : σ6.shape = σ1.shape := congrArg (fun c => c.2.2.2.1) sm.core
      have hnm6 : σ6.names = σ1.names := congrArg (fun c => c.2.1) sm.core
      have hlo6 : σ6.loops = σ1.loops := congrArg (fun c => c.2.2.2.2.1) sm.core
      have hhi6 : σ6.hidden = σ1.hidden := congrArg (fun c => c.2.2.2.2.2.1) sm.core
      have hsz7 : (shut T σ6).size = σ6.size := congrArg (fun c => c.2.2.1) sk.1
      have hse7 : (shut T σ6).seen = σ6.seen := congrArg (fun c => c.1) sk.1
      have hsh7 : (shut T σ6).shape = σ6.shape := congrArg (fun c => c.2.2.2.1) sk.1
      have hnm7 : (shut T σ6).names = σ6.names := congrArg (fun c => c.2.1) sk.1
      have hlo7 : (shut T σ6).loops = σ6.loops := congrArg (fun c => c.2.2.2.2.1) sk.1
      have hhi7 : (shut T σ6).hidden = σ6.hidden := congrArg (fun c => c.2.2.2.2.2.1) sk.1
      have hno7 := sk.2.1
      have hne7 := sk.2.2.1
      have hne6 := sm.nest
      have hno6 := sm.nodes
      clear sk sm
      generalize shut T σ6 = σ7 at *
      refine ⟨?_, ?_, ?_, ?_, ?_, ?_, ?_⟩
      · show σ7.nest = 0; omega
      · show σ7.names + 1 = ((m + 1 : Nat) : Int); omega
      · show 0 ≤ σ7.size + n ∧ σ7.size + n ≤ 6 * ((m + 1 : Nat) : Int); omega
      · show (σ7.seen ++ [_]).length = m + 1
        rw [hse7, hse6, hse]; simp [d4]
      · show ((σ7.shape ++ List.replicate n.toNat _).length : Int) = σ7.size + n
        rw [hsh7, hsh6, hsh, List.length_append, List.length_replicate]
        omega
      · show σ7.nodes = []
        rw [hno7, hno6, hno, d6]
      · show σ7.loops = 0 ∧ σ7.hidden = 0
        omega
theorem decls_stop {T : List Tok} {m : Nat} {σk : PS} (h : ¬ (σk.err = 0 ∧ (tk T σk.i).s.toList = [40] ∧ isDecl (tk T (σk.i + 1)).s.toList = true)) : decls T m σk = σk := by
  cases m with
  | zero => rfl
  | succ m => rw [decls, if_neg h]
end R
end Go.Proofs.YtejbgcloblpbfaaGreatDoor
namespace Go.Proofs.YtejbgcloblpbfaaGreatDoor
open Go.RowKit
open K (Nm)
namespace K
def shape (l : List Nm) : List Bool := l.flatMap fun n => List.replicate n.size.toNat n.sec
theorem shape_app (a b : List Nm) : shape (a ++ b) = shape a ++ shape b := by unfold shape; rw [List.flatMap_append]
theorem shape_snoc {ns : List Nm} {k : Nat} (h : k < ns.length) : shape (ns.take (k + 1)) = shape (ns.take k) ++ List.replicate ns[k].size.toNat ns[k].sec := by
  rw [List.take_succ_eq_append_getElem h, shape_app]
  simp [shape]
theorem shape_le {ns : List Nm} {k : Nat} (h : k < ns.length) : (shape (ns.take k)).length + ns[k].size.toNat ≤ (shape ns).length := by
  have e : shape ns = shape (ns.take (k + 1)) ++ shape (ns.drop (k + 1)) := by rw [← shape_app, List.take_append_drop]
  rw [e, shape_snoc h, List.length_append, List.length_append, List.length_replicate]
  omega
end K
theorem nms_row {w : World} {v : Value} {ns : List Nm} (h : w.ownsRow 0 96 5 v ns.length (ns.flatMap nmCells)) :
    (v = .slice none 0 0 ∧ ns.length = 0) ∨ ∃ g cap, v = .slice (some ⟨g, 0, none⟩) ns.length cap ∧ g < w.heap.size ∧ ∀ (i : Nat) (hi : i < ns.length) (j : Nat), j < 5 → w.cell? ⟨g, i * 5 + j, none⟩ = (nmCells ns[i])[j]? := by
  by_cases h0 : ns.length = 0
  · obtain ⟨hl, h' | ⟨g, cap, cur, hv, _, hg, hc, _, hs, hx⟩⟩ := h
    · exact Or.inl h'
    · exact Or.inr ⟨g, cap, hv, heap_lt hg, fun i hi => by omega⟩
  · obtain ⟨g, cap, hv, hg, _⟩ := row_cell nmCells (fun _ => rfl) h (i := 0) (List.getElem?_eq_getElem (by omega))
    refine Or.inr ⟨g, cap, hv, hg, fun i hi j hj => ?_⟩
    obtain ⟨g', cap', hv', hg', hc⟩ := row_cell nmCells (fun _ => rfl) h (i := i) (List.getElem?_eq_getElem hi)
    rw [hv] at hv'
    simp only [Value.slice.injEq, Option.some.injEq, Addr.mk.injEq] at hv'
    rw [hv'.1.1]
    exact hc j hj
set_option maxRecDepth 100000 in
set_option maxHeartbeats 2000000 in
theorem shape_go {s : ByteArray} {w : World} {ns : List Nm} {L : Nat} (hns : ∀ n ∈ ns, 1 ≤ n.size ∧ n.size ≤ 6) (hlen : ns.length ≤ 1000) (hL : (K.shape ns).length = L) (h54 : L ≤ 54)
    (hr : Calls Tryz.prog 40 #[.string s] w fun x w' => (∃ nv da dn dc, x = .returned (.tuple #[.agg #[nv, .int .i64 (L : Int), .slice da dn dc], .int .i64 0, .int .i64 0]) ∧ w'.ownsRow 0 96 5 nv ns.length (ns.flatMap nmCells)) ∧ Below w.heap.size w w') :
    Calls Tryz.prog 17 #[.string s] w fun x w' => (∃ g, x = .returned (.tuple #[.slice (some ⟨g, 0, none⟩) L L, .int .i64 0]) ∧ w.heap.size ≤ g ∧ At w' g 4 (bools (K.shape ns))) ∧ Below w.heap.size w w' := by
  obtain ⟨j0, ji, jz0, jz1, jz2⟩ := info_parts info_bool
  go_enter Tryz.func17, Tryz.ntmps17
  go_wp2_with fail
  refine hr.mono ?_
  rintro x w1 ⟨⟨nv, da, dn, dc, rfl, hrow⟩, hb1⟩
  have hrs := nms_row hrow
  clear hrow
  rcases hrs with ⟨rfl, h0⟩ | ⟨g, cap, rfl, hg, hcs⟩
  · have en : ns = [] := List.eq_nil_of_length_eq_zero h0
    subst en
    have hL0 : L = 0 := by rw [← hL]; rfl
    subst hL0
    have aA := At.alloc_new w1 [.slice none 0 0, .int .i64 ((0 : Nat) : Int), .slice da dn dc] 84
    go_wp2_with (refine wpList_make_own _ rfl (.const (.int .i64 0)) (.tmp 20) 33 rfl 0 4 j0 (.bool false) 1 Tryz.underlying33 ji jz0 jz1 .i64 .i64 (0 : Int) 0 rfl rfl rfl (by rw [jz2]; omega) (by unfold maxLen; omega) (Nat.zero_le _) ?_; intro wM ownM grM; have aM := aA.of_block (grM.block _ aA.lt (by simp)); have m0 := aM.cell 0; simp only [List.getElem?_cons_zero] at m0)
    simp only [size_alloc] at ownM
    go_loop [7, 25] (fun sh i => sh = .slice (some ⟨w1.heap.size + 1, 0, none⟩) 0 0 ∧ i = .int .i64 0) (fun _ _ => 0)
    case atStart => exact ⟨rfl, rfl⟩
    case round =>
      obtain ⟨rfl, rfl⟩ := hrel
      go_wp2_with fail
      go_ret2
      have hsz1 := hb1.size
      have BW := hb1.alloc hb1.size (.cells #[.slice none 0 0, .int .i64 ((0 : Nat) : Int), .slice da dn dc] 84 (0, 0))
      obtain ⟨hl, ⟨h0, _⟩ | ⟨g', cap', cur, hv, _, hg', hc, _, hs, hx⟩⟩ := ownM
      · simp at h0
      · simp only [Value.slice.injEq, Option.some.injEq, Addr.mk.injEq] at hv
        obtain ⟨⟨rfl, _⟩, _, rfl⟩ := hv
        refine ⟨⟨_, rfl, by omega, ?_⟩, BW.grown grM (by simp only [size_alloc]; omega) (fun k hk => by simp at hk)⟩
        unfold At
        rw [hg', show cur = #[] from Array.eq_empty_of_size_eq_zero (by simpa using hs)]
        rfl
  · have HCS := hide hcs
    clear hcs
    have aA := At.alloc_new w1 [.slice (some ⟨g, 0, none⟩) ns.length cap, .int .i64 (L : Int), .slice da dn dc] 84
    go_wp2_with (refine wpList_make_own _ rfl (.const (.int .i64 0)) (.tmp 20) 33 rfl 0 4 j0 (.bool false) 1 Tryz.underlying33 ji jz0 jz1 .i64 .i64 (L : Int) L rfl rfl rfl (by rw [jz2]; omega) (by unfold maxLen; omega) (Nat.zero_le _) ?_; intro wM ownM grM; have aM := aA.of_block (grM.block _ aA.lt (by simp)); have m0 := aM.cell 0; simp only [List.getElem?_cons_zero] at m0)
    simp only [size_alloc] at ownM
    have BM : Below (w1.heap.size + 1) (w1.alloc (.cells #[.slice (some ⟨g, 0, none⟩) ns.length cap, .int .i64 (L : Int), .slice da dn dc] 84 (0, 0))) wM :=
      ⟨grM.os, grM.tape, grM.output, grM.size, fun k hk => grM.block k (by simp only [size_alloc]; omega) (by simp)⟩
    have BW : Below w.heap.size w (w1.alloc (.cells #[.slice (some ⟨g, 0, none⟩) ns.length cap, .int .i64 (L : Int), .slice da dn dc] 84 (0, 0))) := hb1.alloc hb1.size _
    have hsz1 := hb1.size
    have HC1 : Hid (∀ (i : Nat) (hi : i < ns.length) (j : Nat), j < 5 → (w1.alloc (.cells #[.slice (some ⟨g, 0, none⟩) ns.length cap, .int .i64 (L : Int), .slice da dn dc] 84 (0, 0))).cell? ⟨g, i * 5 + j, none⟩ = (nmCells ns[i])[j]?) :=
      fun i hi j hj => (World.cell?_of_block (w := w1) (a := ⟨g, i * 5 + j, none⟩) (heap_alloc_old w1 _ g hg)).trans (HCS.out i hi j hj)
    clear HCS aM m0 aA grM
    generalize w1.alloc (.cells #[.slice (some ⟨g, 0, none⟩) ns.length cap, .int .i64 (L : Int), .slice da dn dc] 84 (0, 0)) = wA at *
    have HNS := hide hns
    clear hns hb1
    go_loopg [7, 25] ns.length (fun gk sh i wr => ∃ k : Nat, k + gk = ns.length ∧ i = .int .i64 (k : Int) ∧ sh = .slice (some ⟨w1.heap.size + 1, 0, none⟩) (K.shape (ns.take k)).length L ∧ wr.ownsRow 0 4 1 (.slice (some ⟨w1.heap.size + 1, 0, none⟩) (K.shape (ns.take k)).length L) (K.shape (ns.take k)).length (bools (K.shape (ns.take k))) ∧ Below (w1.heap.size + 1) wA wr)
    case atStart => exact ⟨0, by omega, rfl, rfl, ownM, BM⟩
    case round =>
      obtain ⟨k, hk, rfl, rfl, own, B⟩ := hrel
      clear ownM BM
      cases gk with
      | zero =>
        have hz : ¬ ((k : Int) < (ns.length : Int)) := by omega
        have ek : ns.take k = ns := List.take_of_length_le (by omega)
        rw [ek, hL] at own ⊢
        go_wp2_with fail
        go_ret2
        obtain ⟨hl, ⟨h0, _⟩ | ⟨g', cap', cur, hv, _, hg', hc, _, hs, hx⟩⟩ := own
        · simp at h0
        · simp only [Value.slice.injEq, Option.some.injEq, Addr.mk.injEq] at hv
          obtain ⟨⟨rfl, _⟩, _, rfl⟩ := hv
          have hcur : cur.toList = bools (K.shape ns) := by
            rw [← hx]
            exact (List.take_of_length_le (by simp at hs ⊢; omega)).symm
          refine ⟨⟨_, rfl, by omega, ?_⟩, BW.trans (B.mono (by omega))⟩
          unfold At
          rw [hg', ← hcur]
      | succ g1 =>
        have hz : (k : Int) < (ns.length : Int) := by omega
        have hkl : k < ns.length := by omega
        have hcell := fun j (hj : j < 5) => (B.cell (p := ⟨g, k * 5 + j, none⟩) (show g < w1.heap.size + 1 by omega)).trans (HC1.out k hkl j hj)
        have d0 : wr.cell? ⟨g, k * 5, none⟩ = some (.string ns[k].text) := hcell 0 (by omega)
        have d1 : wr.cell? ⟨g, k * 5 + 1, none⟩ = some (.int .i64 ns[k].kind) := hcell 1 (by omega)
        have d2 : wr.cell? ⟨g, k * 5 + 2, none⟩ = some (.bool ns[k].sec) := hcell 2 (by omega)
        have d3 : wr.cell? ⟨g, k * 5 + 3, none⟩ = some (.int .i64 ns[k].size) := hcell 3 (by omega)
        have d4 : wr.cell? ⟨g, k * 5 + 4, none⟩ = some (.int .i64 ns[k].place) := hcell 4 (by omega)
        have hbd := HNS.out ns[k] (List.getElem_mem hkl)
        have hle := K.shape_le hkl
        have HSN := hide (K.shape_snoc hkl)
        clear hcell
        generalize ns[k] = nk at *
        obtain ⟨x0, x1, x2, x3, x4⟩ := nk
        dsimp only at *
        obtain ⟨n, rfl⟩ := Int.eq_ofNat_of_zero_le (show 0 ≤ x3 by omega)
        have en : ((n : Int)).toNat = n := by omega
        rw [en] at hle HSN
        rw [hL] at hle
        generalize K.shape (ns.take k) = S0 at *
        have gl : w1.heap.size + 1 < wr.heap.size := (own_cells own).2.1
        go_wp2_with fail
        have aZ := At.alloc_new wr [.string x0, .int .i64 x1, .bool x2, .int .i64 (n : Int), .int .i64 x4] 96
        have ownZ := World.ownsRow.alloc own (.cells #[.string x0, .int .i64 x1, .bool x2, .int .i64 (n : Int), .int .i64 x4] 96 (0, 0))
        have BZ := B.alloc (by omega) (.cells #[.string x0, .int .i64 x1, .bool x2, .int .i64 (n : Int), .int .i64 x4] 96 (0, 0))
        clear d0 d1 d2 d3 d4 own B
        generalize wr.heap.size = Z at *
        generalize wr.alloc (.cells #[.string x0, .int .i64 x1, .bool x2, .int .i64 (n : Int), .int .i64 x4] 96 (0, 0)) = wZ at *
        go_loopg [7, 31] n (fun g2 sh q wy => ∃ m : Nat, m + g2 = n ∧ q = .int .i64 (m : Int) ∧ sh = .slice (some ⟨w1.heap.size + 1, 0, none⟩) (S0.length + m) L ∧ wy.ownsRow 0 4 1 (.slice (some ⟨w1.heap.size + 1, 0, none⟩) (S0.length + m) L) (S0.length + m) (bools S0 ++ List.replicate m (.bool x2)) ∧ At wy Z 96 [.string x0, .int .i64 x1, .bool x2, .int .i64 (n : Int), .int .i64 x4] ∧ Below (w1.heap.size + 1) wA wy)
        case atStart => exact ⟨0, by omega, rfl, rfl, by simpa using ownZ, aZ, BZ⟩
        case round =>
          obtain ⟨m, hm, rfl, rfl, own2, aY, B2⟩ := hrel
          clear ownZ aZ BZ
          have ylt := aY.lt
          cases gk with
          | zero =>
            have hy : ¬ ((m : Int) < (n : Int)) := by omega
            have em : m = n := by omega
            go_wp2_with fail
            go_roundg g1
            case measure => omega
            case rel =>
              subst em
              refine ⟨k + 1, by omega, by go_num, ?_, ?_, B2⟩
              · rw [HSN.out, List.length_append, List.length_replicate]
              · rw [HSN.out, List.length_append, List.length_replicate]
                unfold bools at own2 ⊢
                rw [List.map_append, List.map_replicate]
                exact own2
          | succ g2 =>
            have hy : (m : Int) < (n : Int) := by omega
            have e2 : wr.cell? ⟨Z, 2, none⟩ = some (.bool x2) := aY.cell 2
            go_wp2_with (at_builtin; refine wpList_append_own_spare _ rfl (.tmp 33) (.tmp 36) 33 rfl 0 4 j0 1 Tryz.underlying33 ji jz1 (w1.heap.size + 1) (S0.length + m) L (bools S0 ++ List.replicate m (.bool x2)) rfl (World.ownsRow.alloc own2 _) ⟨wr.heap.size, 0, none⟩ 1 1 [.bool x2] rfl rfl (by exact row_new wr [.bool x2] _) (by intro u hu; simp only [List.mem_singleton] at hu; subst hu; rfl) (by omega) ?_; intro w9 own9 gr9)
            go_roundg g2
            case measure => omega
            case rel =>
              refine ⟨m + 1, by omega, by go_num, rfl, ?_, (aY.alloc _).of_block (gr9.block Z (aY.alloc _).lt (by simp; omega)), (B2.alloc (by omega) _).grown gr9 (by simp only [size_alloc]; omega) (fun k hk => by simp at hk; omega)⟩
              rw [List.replicate_succ', ← List.append_assoc]
              exact own9
end Go.Proofs.YtejbgcloblpbfaaGreatDoor
