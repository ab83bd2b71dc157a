import Derived.Test.YtejbgcloblpbfaaGreatDoorR09
import Derived.Test.YtejbgcloblpbfaaGreatDoorR42
import Derived.Deep.DeepAppendRoom
import Derived.OwnWalk
import Derived.Test.YtejbgcloblpbfaaGreatDoorR36
namespace Go.Proofs.YtejbgcloblpbfaaGreatDoor
open Go.RowKit
open K (Nm)
namespace K
def shape (l : List Nm) : List Bool := l.flatMap fun n => List.replicate n.size.toNat n.sec
theorem shape_app (a b : List Nm) : shape (a ++ b) = shape a ++ shape b := by unfold shape; rw [List.flatMap_append]
theorem shape_snoc {ns : List Nm} {k : Nat} (h : k < ns.length) : shape (ns.take (k + 1)) = shape (ns.take k) ++ List.replicate ns[k].size.toNat ns[k].sec := by
  rw [List.take_succ_eq_append_getElem h, shape_app]
  simp [shape]
theorem shape_le {ns : List Nm} {k : Nat} (h : k < ns.length) : (shape (ns.take k)).length + ns[k].size.toNat ≤ (shape ns).length := by
  have e : shape ns = shape (ns.take (k + 1)) ++ shape (ns.drop (k + 1)) := by rw [← shape_app, List.take_append_drop]
  rw [e, shape_snoc h, List.length_append, List.length_append, List.length_replicate]
  omega
end K
theorem nms_row {w : World} {v : Value} {ns : List Nm} (h : w.ownsRow 0 96 5 v ns.length (ns.flatMap nmCells)) :
    (v = .slice none 0 0 ∧ ns.length = 0) ∨ ∃ g cap, v = .slice (some ⟨g, 0, none⟩) ns.length cap ∧ g < w.heap.size ∧ ∀ (i : Nat) (hi : i < ns.length) (j : Nat), j < 5 → w.cell? ⟨g, i * 5 + j, none⟩ = (nmCells ns[i])[j]? := by
  by_cases h0 : ns.length = 0
  · obtain ⟨hl, h' | ⟨g, cap, cur, hv, _, hg, hc, _, hs, hx⟩⟩ := h
    · exact Or.inl h'
    · exact Or.inr ⟨g, cap, hv, heap_lt hg, fun i hi => by omega⟩
  · obtain ⟨g, cap, hv, hg, _⟩ := row_cell nmCells (fun _ => rfl) h (i := 0) (List.getElem?_eq_getElem (by omega))
    refine Or.inr ⟨g, cap, hv, hg, fun i hi j hj => ?_⟩
    obtain ⟨g', cap', hv', hg', hc⟩ := row_cell nmCells (fun _ => rfl) h (i := i) (List.getElem?_eq_getElem hi)
    rw [hv] at hv'
    simp only [Value.slice.injEq, Option.some.injEq, Addr.mk.injEq] at hv'
    rw [hv'.1.1]
    exact hc j hj
set_option maxRecDepth 100000 in
set_option maxHeartbeats 2000000 in
theorem shape_go {s : ByteArray} {w : World} {ns : List Nm} {L : Nat} (hns : ∀ n ∈ ns, 1 ≤ n.size ∧ n.size ≤ 6) (hlen : ns.length ≤ 1000) (hL : (K.shape ns).length = L) (h54 : L ≤ 54)
    (hr : Calls Tryz.prog 40 #[.string s] w fun x w' => (∃ nv da dn dc, x = .returned (.tuple #[.agg #[nv, .int .i64 (L : Int), .slice da dn dc], .int .i64 0, .int .i64 0]) ∧ w'.ownsRow 0 96 5 nv ns.length (ns.flatMap nmCells)) ∧ Below w.heap.size w w') :
    Calls Tryz.prog 17 #[.string s] w fun x w' => (∃ g, x = .returned (.tuple #[.slice (some ⟨g, 0, none⟩) L L, .int .i64 0]) ∧ w.heap.size ≤ g ∧ At w' g 4 (bools (K.shape ns))) ∧ Below w.heap.size w w' := by
  obtain ⟨j0, ji, jz0, jz1, jz2⟩ := info_parts info_bool
  go_enter Tryz.func17, Tryz.ntmps17
  go_wp2_with fail
  refine hr.mono ?_
  rintro x w1 ⟨⟨nv, da, dn, dc, rfl, hrow⟩, hb1⟩
  have hrs := nms_row hrow
  clear hrow
  rcases hrs with ⟨rfl, h0⟩ | ⟨g, cap, rfl, hg, hcs⟩
  · have en : ns = [] := List.eq_nil_of_length_eq_zero h0
    subst en
    have hL0 : L = 0 := by rw [← hL]; rfl
    subst hL0
    have aA := At.alloc_new w1 [.slice none 0 0, .int .i64 ((0 : Nat) : Int), .slice da dn dc] 84
    go_wp2_with (refine wpList_make_own _ rfl (.const (.int .i64 0)) (.tmp 20) 33 rfl 0 4 j0 (.bool false) 1 Tryz.underlying33 ji jz0 jz1 .i64 .i64 (0 : Int) 0 rfl rfl rfl (by rw [jz2]; omega) (by unfold maxLen; omega) (Nat.zero_le _) ?_; intro wM ownM grM; have aM := aA.of_block (grM.block _ aA.lt (by simp)); have m0 := aM.cell 0; simp only [List.getElem?_cons_zero] at m0)
    simp only [size_alloc] at ownM
    go_loop [7, 25] (fun sh i => sh = .slice (some ⟨w1.heap.size + 1, 0, none⟩) 0 0 ∧ i = .int .i64 0) (fun _ _ => 0)
    case atStart => exact ⟨rfl, rfl⟩
    case round =>
      obtain ⟨rfl, rfl⟩ := hrel
      go_wp2_with fail
      go_ret2
      have hsz1 := hb1.size
      have BW := hb1.alloc hb1.size (.cells #[.slice none 0 0, .int .i64 ((0 : Nat) : Int), .slice da dn dc] 84 (0, 0))
      obtain ⟨hl, ⟨h0, _⟩ | ⟨g', cap', cur, hv, _, hg', hc, _, hs, hx⟩⟩ := ownM
      · simp at h0
      · simp only [Value.slice.injEq, Option.some.injEq, Addr.mk.injEq] at hv
        obtain ⟨⟨rfl, _⟩, _, rfl⟩ := hv
        refine ⟨⟨_, rfl, by omega, ?_⟩, BW.grown grM (by simp only [size_alloc]; omega) (fun k hk => by simp at hk)⟩
        unfold At
        rw [hg', show cur = #[] from Array.eq_empty_of_size_eq_zero (by simpa using hs)]
        rfl
  · have HCS := hide hcs
    clear hcs
    have aA := At.alloc_new w1 [.slice (some ⟨g, 0, none⟩) ns.length cap, .int .i64 (L : Int), .slice da dn dc] 84
    go_wp2_with (refine wpList_make_own _ rfl (.const (.int .i64 0)) (.tmp 20) 33 rfl 0 4 j0 (.bool false) 1 Tryz.underlying33 ji jz0 jz1 .i64 .i64 (L : Int) L rfl rfl rfl (by rw [jz2]; omega) (by unfold maxLen; omega) (Nat.zero_le _) ?_; intro wM ownM grM; have aM := aA.of_block (grM.block _ aA.lt (by simp)); have m0 := aM.cell 0; simp only [List.getElem?_cons_zero] at m0)
    simp only [size_alloc] at ownM
    have BM : Below (w1.heap.size + 1) (w1.alloc (.cells #[.slice (some ⟨g, 0, none⟩) ns.length cap, .int .i64 (L : Int), .slice da dn dc] 84 (0, 0))) wM :=
      ⟨grM.os, grM.tape, grM.output, grM.size, fun k hk => grM.block k (by simp only [size_alloc]; omega) (by simp)⟩
    have BW : Below w.heap.size w (w1.alloc (.cells #[.slice (some ⟨g, 0, none⟩) ns.length cap, .int .i64 (L : Int), .slice da dn dc] 84 (0, 0))) := hb1.alloc hb1.size _
    have hsz1 := hb1.size
    have HC1 : Hid (∀ (i : Nat) (hi : i < ns.length) (j : Nat), j < 5 → (w1.alloc (.cells #[.slice (some ⟨g, 0, none⟩) ns.length cap, .int .i64 (L : Int), .slice da dn dc] 84 (0, 0))).cell? ⟨g, i * 5 + j, none⟩ = (nmCells ns[i])[j]?) :=
      fun i hi j hj => (World.cell?_of_block (w := w1) (a := ⟨g, i * 5 + j, none⟩) (heap_alloc_old w1 _ g hg)).trans (HCS.out i hi j hj)
    clear HCS aM m0 aA grM
    generalize w1.alloc (.cells #[.slice (some ⟨g, 0, none⟩) ns.length cap, .int .i64 (L : Int), .slice da dn dc] 84 (0, 0)) = wA at *
    have HNS := hide hns
    clear hns hb1
    go_loopg [7, 25] ns.length (fun gk sh i wr => ∃ k : Nat, k + gk = ns.length ∧ i = .int .i64 (k : Int) ∧ sh = .slice (some ⟨w1.heap.size + 1, 0, none⟩) (K.shape (ns.take k)).length L ∧ wr.ownsRow 0 4 1 (.slice (some ⟨w1.heap.size + 1, 0, none⟩) (K.shape (ns.take k)).length L) (K.shape (ns.take k)).length (bools (K.shape (ns.take k))) ∧ Below (w1.heap.size + 1) wA wr)
    case atStart => exact ⟨0, by omega, rfl, rfl, ownM, BM⟩
    case round =>
      obtain ⟨k, hk, rfl, rfl, own, B⟩ := hrel
      clear ownM BM
      cases gk with
      | zero =>
        have hz : ¬ ((k : Int) < (ns.length : Int)) := by omega
        have ek : ns.take k = ns := List.take_of_length_le (by omega)
        rw [ek, hL] at own ⊢
        go_wp2_with fail
        go_ret2
        obtain ⟨hl, ⟨h0, _⟩ | ⟨g', cap', cur, hv, _, hg', hc, _, hs, hx⟩⟩ := own
        · simp at h0
        · simp only [Value.slice.injEq, Option.some.injEq, Addr.mk.injEq] at hv
          obtain ⟨⟨rfl, _⟩, _, rfl⟩ := hv
          have hcur : cur.toList = bools (K.shape ns) := by
            rw [← hx]
            exact (List.take_of_length_le (by simp at hs ⊢; omega)).symm
          refine ⟨⟨_, rfl, by omega, ?_⟩, BW.trans (B.mono (by omega))⟩
          unfold At
          rw [hg', ← hcur]
      | succ g1 =>
        have hz : (k : Int) < (ns.length : Int) := by omega
        have hkl : k < ns.length := by omega
        have hcell := fun j (hj : j < 5) => (B.cell (p := ⟨g, k * 5 + j, none⟩) (show g < w1.heap.size + 1 by omega)).trans (HC1.out k hkl j hj)
        have d0 : wr.cell? ⟨g, k * 5, none⟩ = some (.string ns[k].text) := hcell 0 (by omega)
        have d1 : wr.cell? ⟨g, k * 5 + 1, none⟩ = some (.int .i64 ns[k].kind) := hcell 1 (by omega)
        have d2 : wr.cell? ⟨g, k * 5 + 2, none⟩ = some (.bool ns[k].sec) := hcell 2 (by omega)
        have d3 : wr.cell? ⟨g, k * 5 + 3, none⟩ = some (.int .i64 ns[k].size) := hcell 3 (by omega)
        have d4 : wr.cell? ⟨g, k * 5 + 4, none⟩ = some (.int .i64 ns[k].place) := hcell 4 (by omega)
        have hbd := HNS.out ns[k] (List.getElem_mem hkl)
        have hle := K.shape_le hkl
        have HSN := hide (K.shape_snoc hkl)
        clear hcell
        generalize ns[k] = nk at *
        obtain ⟨x0, x1, x2, x3, x4⟩ := nk
        dsimp only at *
        obtain ⟨n, rfl⟩ := Int.eq_ofNat_of_zero_le (show 0 ≤ x3 by omega)
        have en : ((n : Int)).toNat = n := by omega
        rw [en] at hle HSN
        rw [hL] at hle
        generalize K.shape (ns.take k) = S0 at *
        have gl : w1.heap.size + 1 < wr.heap.size := (own_cells own).2.1
        go_wp2_with fail
        have aZ := At.alloc_new wr [.string x0, .int .i64 x1, .bool x2, .int .i64 (n : Int), .int .i64 x4] 96
        have ownZ := World.ownsRow.alloc own (.cells #[.string x0, .int .i64 x1, .bool x2, .int .i64 (n : Int), .int .i64 x4] 96 (0, 0))
        have BZ := B.alloc (by omega) (.cells #[.string x0, .int .i64 x1, .bool x2, .int .i64 (n : Int), .int .i64 x4] 96 (0, 0))
        clear d0 d1 d2 d3 d4 own B
        generalize wr.heap.size = Z at *
        generalize wr.alloc (.cells #[.string x0, .int .i64 x1, .bool x2, .int .i64 (n : Int), .int .i64 x4] 96 (0, 0)) = wZ at *
        go_loopg [7, 31] n (fun g2 sh q wy => ∃ m : Nat, m + g2 = n ∧ q = .int .i64 (m : Int) ∧ sh = .slice (some ⟨w1.heap.size + 1, 0, none⟩) (S0.length + m) L ∧ wy.ownsRow 0 4 1 (.slice (some ⟨w1.heap.size + 1, 0, none⟩) (S0.length + m) L) (S0.length + m) (bools S0 ++ List.replicate m (.bool x2)) ∧ At wy Z 96 [.string x0, .int .i64 x1, .bool x2, .int .i64 (n : Int), .int .i64 x4] ∧ Below (w1.heap.size + 1) wA wy)
        case atStart => exact ⟨0, by omega, rfl, rfl, by simpa using ownZ, aZ, BZ⟩
        case round =>
          obtain ⟨m, hm, rfl, rfl, own2, aY, B2⟩ := hrel
          clear ownZ aZ BZ
          have ylt := aY.lt
          cases gk with
          | zero =>
            have hy : ¬ ((m : Int) < (n : Int)) := by omega
            have em : m = n := by omega
            go_wp2_with fail
            go_roundg g1
            case measure => omega
            case rel =>
              subst em
              refine ⟨k + 1, by omega, by go_num, ?_, ?_, B2⟩
              · rw [HSN.out, List.length_append, List.length_replicate]
              · rw [HSN.out, List.length_append, List.length_replicate]
                unfold bools at own2 ⊢
                rw [List.map_append, List.map_replicate]
                exact own2
          | succ g2 =>
            have hy : (m : Int) < (n : Int) := by omega
            have e2 : wr.cell? ⟨Z, 2, none⟩ = some (.bool x2) := aY.cell 2
            go_wp2_with (at_builtin; refine wpList_append_own_spare _ rfl (.tmp 33) (.tmp 36) 33 rfl 0 4 j0 1 Tryz.underlying33 ji jz1 (w1.heap.size + 1) (S0.length + m) L (bools S0 ++ List.replicate m (.bool x2)) rfl (World.ownsRow.alloc own2 _) ⟨wr.heap.size, 0, none⟩ 1 1 [.bool x2] rfl rfl (by exact row_new wr [.bool x2] _) (by intro u hu; simp only [List.mem_singleton] at hu; subst hu; rfl) (by omega) ?_; intro w9 own9 gr9)
            go_roundg g2
            case measure => omega
            case rel =>
              refine ⟨m + 1, by omega, by go_num, rfl, ?_, (aY.alloc _).of_block (gr9.block Z (aY.alloc _).lt (by simp; omega)), (B2.alloc (by omega) _).grown gr9 (by simp only [size_alloc]; omega) (fun k hk => by simp at hk; omega)⟩
              rw [List.replicate_succ', ← List.append_assoc]
              exact own9
end Go.Proofs.YtejbgcloblpbfaaGreatDoor
namespace Go.Proofs.YtejbgcloblpbfaaGreatDoor
open R (Tok tk PS Thing)
open K (S Nm Ex Do Scans)
namespace R
def flat (l : List Thing) : List Bool := l.flatMap fun t => List.replicate t.size.toNat t.sec
structure FL (k : Nat) (σ : PS) : Prop where
  shape : σ.shape = flat σ.seen
  bd : ∀ t ∈ σ.seen, 1 ≤ t.size ∧ t.size ≤ 6
  len : σ.seen.length ≤ k
  size : σ.size = (σ.shape.length : Int)
theorem FL.core {k : Nat} {σ σ' : PS} (h : FL k σ) (c : core σ' = core σ) : FL k σ' := by
  have hse : σ'.seen = σ.seen := congrArg (fun c => c.1) c
  have hsh : σ'.shape = σ.shape := congrArg (fun c => c.2.2.2.1) c
  have hsz : σ'.size = σ.size := congrArg (fun c => c.2.2.1) c
  exact ⟨by rw [hse, hsh]; exact h.shape, by rw [hse]; exact h.bd, by rw [hse]; exact h.len, by rw [hsz, hsh]; exact h.size⟩
theorem FL.more {k : Nat} {σ : PS} (h : FL k σ) : FL (k + 1) σ := ⟨h.shape, h.bd, Nat.le_succ_of_le h.len, h.size⟩
theorem FL.added {k : Nat} {σ : PS} (h : FL k σ) {t : Thing} (h1 : 1 ≤ t.size) (h2 : t.size ≤ 6) : FL (k + 1) (added t σ) := by
  refine ⟨?_, ?_, ?_, ?_⟩
  · show σ.shape ++ List.replicate t.size.toNat t.sec = flat (σ.seen ++ [t])
    unfold flat
    rw [List.flatMap_append, h.shape]
    simp [flat]
  · intro u hu
    have hu' : u ∈ σ.seen ++ [t] := hu
    rcases List.mem_append.1 hu' with h' | h'
    · exact h.bd u h'
    · rw [List.mem_singleton.1 h']; exact ⟨h1, h2⟩
  · show (σ.seen ++ [t]).length ≤ k + 1
    have := h.len
    simp; omega
  · show σ.size + t.size = ((σ.shape ++ List.replicate t.size.toNat t.sec).length : Int)
    have := h.size
    rw [List.length_append, List.length_replicate]
    omega
theorem decl_fl {T : List Tok} {k : Nat} {σ : PS} (h : FL k σ) : FL (k + 1) (decl T σ) := by
  have o1 := h.core (opens_core T σ).1
  unfold decl
  split
  · exact (o1.core (fail_core _ _ _).1).more
  · generalize opens T σ = σ1 at *
    unfold declIn
    dsimp only
    have s1 := take_same T σ1
    have s2 := dHead_same T (tk T σ1.i) (take T σ1)
    generalize dHead T (tk T σ1.i) (take T σ1) = H at *
    have s3 := fresh_same T H.1
    have s4 := dSize_same T H.2.1 (fresh T H.1)
    obtain ⟨σ6, z, hz⟩ : ∃ σ6 z, dSize T H.2.1 (fresh T H.1) = (σ6, z) := ⟨_, _, rfl⟩
    rw [hz] at s4 ⊢
    have sm := ((s1.tr s2).tr s3).tr s4
    cases z with
    | none => exact (o1.core sm.core).more
    | some n =>
      have hn := dSize_bd hz
      exact ((o1.core sm.core).core (shut_core T σ6).1).added (t := ⟨_, _, _, _, n⟩) hn.1 hn.2
theorem decls_fl (T : List Tok) (m : Nat) : ∀ (k : Nat) (σ : PS), FL k σ → FL (k + m) (decls T m σ) := by
  induction m with
  | zero => intro k σ h; exact h
  | succ m ih =>
    intro k σ h
    rw [decls]
    split
    · have := ih (k + 1) _ (decl_fl (T := T) h)
      rw [show k + (m + 1) = k + 1 + m by omega]
      exact this
    · exact ⟨h.shape, h.bd, by have := h.len; omega, h.size⟩
theorem start_fl : FL 0 start := ⟨rfl, (fun _ h => by cases h), Nat.le_refl _, rfl⟩
theorem decl_lt {T : List Tok} {σ : PS} (h : σ.i < T.length) : (decl T σ).i < T.length := by
  have ho : (opens T σ).i < T.length := by rw [(opens_core T σ).2.2.1]; exact (take_same T σ).lt h
  unfold decl
  split
  · rw [(fail_core _ _ _).2.2.1]; exact ho
  · generalize opens T σ = σ1 at *
    unfold declIn
    dsimp only
    have s1 := take_same T σ1
    have s2 := dHead_same T (tk T σ1.i) (take T σ1)
    generalize dHead T (tk T σ1.i) (take T σ1) = H at *
    have s3 := fresh_same T H.1
    have s4 := dSize_same T H.2.1 (fresh T H.1)
    obtain ⟨σ6, z, hz⟩ : ∃ σ6 z, dSize T H.2.1 (fresh T H.1) = (σ6, z) := ⟨_, _, rfl⟩
    rw [hz] at s4 ⊢
    have sm := ((s1.tr s2).tr s3).tr s4
    cases z with
    | none => exact sm.lt ho
    | some n => exact (shut_core T σ6).2.2.2.2 (sm.lt ho)
theorem decls_lt (T : List Tok) (m : Nat) : ∀ σ : PS, σ.i < T.length → (decls T m σ).i < T.length := by
  induction m with
  | zero => intro σ h; exact h
  | succ m ih =>
    intro σ h
    rw [decls]
    split
    · exact ih _ (decl_lt h)
    · exact h
theorem early_fl {T : List Tok} (hE : Ended T) (h0 : 0 < T.length) : FL 9 (Q.early T) := by
  have h := decls_fl T 9 0 start start_fl
  have hl := decls_lt T 9 start h0
  unfold Q.early
  generalize decls T 9 start = A at *
  have h2 : FL 9 (does T 12 A).1 := h.core (does_ok hE 12 hl).core
  have h3 : FL 9 (done (does T 12 A).2 (does T 12 A).1) := ⟨h2.shape, h2.bd, h2.len, h2.size⟩
  unfold behind
  split
  · exact h3.core (want_core T _ _).1
  · exact h3
theorem last_core (σ : PS) : core (last σ) = core σ := by
  unfold last; split
  · exact (fail_core _ _ _).1
  · rfl
end R
namespace K
def sum : List Nm → Int
  | [] => 0
  | n :: l => n.size + sum l
theorem sum_snoc (l : List Nm) (n : Nm) : sum (l ++ [n]) = sum l + n.size := by
  induction l with
  | nil => simp [sum]
  | cons a l ih => simp only [List.cons_append, sum, ih]; omega
def KW (τ : S) : Prop := τ.words = IntKind.i64.wrap (sum τ.names)
theorem wrap_add (a b : Int) : IntKind.i64.wrap (IntKind.i64.wrap a + b) = IntKind.i64.wrap (a + b) := by
  simp only [IntKind.wrap_i64]
  omega
theorem KW.keeps {σ τ : S} (h : KW σ) (k : Keeps σ τ) : KW τ := by unfold KW; rw [k.words, k.names]; exact h
theorem KW.adds {τ : S} (h : KW τ) (n : Nm) : KW (adds n τ) := by
  show IntKind.i64.wrap (τ.words + n.size) = IntKind.i64.wrap (sum (τ.names ++ [n]))
  rw [sum_snoc, h, wrap_add]
theorem declsL_kw (T : List Tok) (m : Nat) : ∀ τ, KW τ → KW (declsL T m τ) := by
  induction m with
  | zero => intro τ h; exact h
  | succ m ih =>
    intro τ h
    rw [declsL]
    split
    · exact ih _ ((h.keeps (dcl_keeps T τ)).adds _)
    · exact h
theorem progS_kw (T : List Tok) : KW (progS T) :=
  ((declsL_kw T T.length start (by unfold KW; decide)).keeps (dos_keeps T 11 _)).keeps (expect_keeps T _ _)
end K
namespace Q
theorem shape_same : ∀ {l : List Thing} {m : List Nm}, Names l m → R.flat l = K.shape m
  | [], [], _ => rfl
  | t :: l, n :: m, h => by
    have ih := shape_same h.2
    unfold R.flat K.shape at ih ⊢
    rw [List.flatMap_cons, List.flatMap_cons, ih, h.1.sec, h.1.size]
  | [], _ :: _, h => h.elim
  | _ :: _, [], h => h.elim
theorem sum_len : ∀ {l : List Thing} {m : List Nm}, Names l m → (∀ t ∈ l, 1 ≤ t.size ∧ t.size ≤ 6) → K.sum m = ((K.shape m).length : Int) ∧ 0 ≤ K.sum m ∧ K.sum m ≤ 6 * (l.length : Int) ∧ ∀ n ∈ m, 1 ≤ n.size ∧ n.size ≤ 6
  | [], [], _, _ => ⟨rfl, by simp [K.sum], by simp [K.sum], fun _ h => by cases h⟩
  | t :: l, n :: m, h, hb => by
    obtain ⟨i1, i2, i3, i4⟩ := sum_len h.2 fun u hu => hb u (List.mem_cons_of_mem _ hu)
    have ht := hb t (List.mem_cons_self ..)
    rw [h.1.size] at ht
    refine ⟨?_, ?_, ?_, ?_⟩
    · unfold K.shape at i1 ⊢
      rw [List.flatMap_cons, List.length_append, List.length_replicate, K.sum, i1]
      omega
    · rw [K.sum]; omega
    · rw [K.sum, List.length_cons]; omega
    · intro u hu
      rcases List.mem_cons.1 hu with rfl | hu
      · exact ht
      · exact i4 u hu
  | [], _ :: _, h, _ => h.elim
  | _ :: _, [], h, _ => h.elim
theorem shape_ok {s : ByteArray} (hs : s.size ≤ 800) (h : (R.read s).err = 0) :
    (K.progS (R.toks s)).err = 0 ∧ (K.found (R.toks s)).2 = false ∧ (R.read s).shape = K.shape (K.progS (R.toks s)).names ∧ (K.progS (R.toks s)).words = ((R.read s).shape.length : Int) ∧ (R.read s).shape.length ≤ 54 ∧
      (R.read s).size = ((R.read s).shape.length : Int) ∧ (∀ n ∈ (K.progS (R.toks s)).names, 1 ≤ n.size ∧ n.size ≤ 6) ∧ (K.progS (R.toks s)).names.length ≤ 9 := by
  have hE := R.toks_ended s
  have hl := (R.toks_len s).2
  have hk := check_read hE
  have hc : K.check s = K.checkT (R.toks s) := by unfold K.check; rw [if_neg (by omega)]
  have hr : R.read s = R.readT (R.toks s) := by unfold R.read; rw [if_neg (by omega)]
  rw [hc] at hk
  rw [hr] at h hk ⊢
  have hfl := R.early_fl hE hl
  have hkw := K.progS_kw (R.toks s)
  have hp := prog_eqv (K.scans_toks hs) hE hl
  rw [readT_early] at h hk ⊢
  rw [show (R.last (early (R.toks s))).shape = (early (R.toks s)).shape from congrArg (fun c => c.2.2.2.1) (R.last_core _)]
  rw [show (R.last (early (R.toks s))).size = (early (R.toks s)).size from congrArg (fun c => c.2.2.1) (R.last_core _)]
  have h1 : (K.checkT (R.toks s)).1 = 0 := by rw [hk]; exact h
  unfold K.checkT at h1
  have e0 : (K.progS (R.toks s)).err = 0 := by
    by_cases e : (K.progS (R.toks s)).err = 0
    · exact e
    · rw [if_neg e] at h1; exact h1
  rw [if_pos e0] at h1
  have e1 : (K.found (R.toks s)).2 = false := by
    cases e : (K.found (R.toks s)).2 with
    | false => rfl
    | true => rw [e, if_pos rfl] at h1; exact absurd h1 (by simp)
  rcases hp with ⟨sm, _, _⟩ | dd
  · have sh := shape_same sm.names
    obtain ⟨l1, l2, l3, l4⟩ := sum_len sm.names hfl.bd
    have hle := hfl.len
    have hln : ((early (R.toks s)).shape.length : Int) = K.sum (K.progS (R.toks s)).names := by rw [hfl.shape, sh, l1]
    refine ⟨e0, e1, by rw [hfl.shape, sh], ?_, by omega, hfl.size, l4, by rw [← Names.length sm.names]; exact hle⟩
    rw [hkw, hln]
    exact k64 _ (by omega)
  · exact absurd e0 (by rw [dd.e2]; exact dd.e1)
end Q
end Go.Proofs.YtejbgcloblpbfaaGreatDoor
