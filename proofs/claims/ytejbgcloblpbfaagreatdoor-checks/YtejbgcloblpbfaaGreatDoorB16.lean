import Derived.Test.YtejbgcloblpbfaaGreatDoorB15
import Derived.Deep.RegionWith
import Derived.Test.YtejbgcloblpbfaaGreatDoorB04
namespace Go.Proofs.YtejbgcloblpbfaaGreatDoor
open Go.RowKit
open K (Nm Ex Do)
theorem w64 {n : Int} (h : -9223372036854775808 ≤ n ∧ n ≤ 9223372036854775807) : wrap64 n = n := by unfold wrap64; omega
theorem V.md_lt (a : Int) {s : Int} (h1 : 1 ≤ s) (h6 : s ≤ 6) : 0 ≤ V.md a s ∧ V.md a s < s := by
  rw [V.md_eq a h1 h6]
  exact ⟨Int.emod_nonneg a (by omega), Int.emod_lt_of_pos a (by omega)⟩
set_option maxRecDepth 100000 in
set_option maxHeartbeats 2000000 in
theorem placeIn_c (n : Nm) (e : Ex) (he : EvDoes e) (w : World) (b g : Nat) (tb : Array Value) (W : List Int) (h : RAt w b g tb W) (h0 : 0 ≤ n.place) (h1 : 1 ≤ n.size) (h6 : n.size ≤ 6) (hp : n.place + n.size ≤ W.length) (we : V.wfE W.length e) :
    Calls Tryz.prog 113 #[PT b, nmV n, exV e] w fun x w' => x = .returned (.int .i64 (n.place + V.md (V.ev W e) n.size)) ∧ Below w.heap.size w w' := by
  have hx := fun (w : World) (h' : RAt w b g tb W) => he w b g tb W h' we
  have hmd := fun (w : World) => modulo_c (V.ev W e) n.size h1 w
  have few := h.few
  have hm := V.md_lt (V.ev W e) h1 h6
  rw [exV_good (V.wf_good we)] at hx ⊢
  have hwr : Hid (IntKind.i64.wrap (n.place + V.md (V.ev W e) n.size) = n.place + V.md (V.ev W e) n.size) := k64 _ (by omega)
  unfold nmV
  generalize V.md (V.ev W e) n.size = M at *
  generalize V.ev W e = v at *
  generalize exT e = t at *
  generalize exP e = x at *
  obtain ⟨x0, x1, x2, x3, x4⟩ := n
  dsimp only at *
  have B0 : Below w.heap.size w (w.alloc (.cells #[.string x0, .int .i64 x1, .bool x2, .int .i64 x3, .int .i64 x4] 96 (0, 0))) := (Below.refl _ _).alloc (Nat.le_refl _) _
  have bx := At.alloc_new w [.string x0, .int .i64 x1, .bool x2, .int .i64 x3, .int .i64 x4] 96
  have Bd : Below w.heap.size w (w.alloc (.cells #[.string x0, .int .i64 x1, .bool x2, .int .i64 x3, .int .i64 x4] 96 (0, 0))).drew := ⟨B0.os, B0.tape, B0.output, B0.size, B0.block⟩
  have r0 := h.below B0
  have rd : RAt (w.alloc (.cells #[.string x0, .int .i64 x1, .bool x2, .int .i64 x3, .int .i64 x4] 96 (0, 0))).drew b g tb W := r0.keep rfl rfl
  clear h0 h1 h6 hp hm
  go_enter Tryz.func113, Tryz.ntmps113
  go_upto_region 1 with fail
  go_region_with (first | (go_at_call 146; refine (hmd _).mono ?_; rintro z w2 ⟨rfl, rfl⟩) | (go_at_call 112; refine (hx _ rd).mono ?_; rintro z w1 ⟨rfl, hb1⟩; have bx1 : At w1 w.heap.size 96 [.string x0, .int .i64 x1, .bool x2, .int .i64 x3, .int .i64 x4] := bx.of_block (hb1.block _ bx.lt); have k4 := bx1.cell 4; have k3 := bx1.cell 3; simp only [List.getElem?_cons_zero, List.getElem?_cons_succ] at k3 k4))
  all_goals
    go_wp2_with fail
    go_ret
    exact ⟨congrArg (fun v => Ending.returned (Value.int IntKind.i64 v)) hwr.out, Bd.trans (hb1.mono Bd.size)⟩
set_option maxRecDepth 100000 in
set_option maxHeartbeats 4000000 in
theorem ev_get (p : Int) (n : Nm) (e : Ex) (he : EvDoes e) : EvDoes (.get p n e) := by
  intro w b g tb W h hw
  have a1 := as_Get_Number
  have a2 := as_Get_Use
  have a3 := as_Get_Get
  unfold V.wfE at hw
  obtain ⟨h0, h1, h6, hp, we⟩ := hw
  have hpl := fun (w : World) (h' : RAt w b g tb W) => placeIn_c n e he w b g tb W h' h0 h1 h6 hp we
  have hm := V.md_lt (V.ev W e) h1 h6
  have few := h.few
  have HV : Hid (V.ev W (.get p n e) = W.getD (n.place + V.md (V.ev W e) n.size).toNat 0) := rfl
  obtain ⟨k, hk⟩ := Int.eq_ofNat_of_zero_le (show 0 ≤ n.place + V.md (V.ev W e) n.size by omega)
  have hkl : k < W.length := by omega
  have hz : (k : Int) < (W.length : Int) := by omega
  rw [hk] at hpl HV
  have HV' : Hid (V.ev W (.get p n e) = W.getD k 0) := HV.out
  rw [HV'.out]
  show Calls Tryz.prog _ #[PT b, .iface 210 (.agg #[.int .i64 p, .string n.text, .int .i64 n.kind, .bool n.sec, .int .i64 n.size, .int .i64 n.place, exV e])] w _
  unfold nmV at hpl
  rw [exV_good (V.wf_good we)] at hpl ⊢
  clear HV HV' hk hm h0 h1 h6 hp
  have hcw := fun (w : World) (h' : RAt w b g tb W) => h'.word hkl
  generalize W.getD k 0 = q at *
  generalize exT e = t at *
  generalize exP e = x at *
  obtain ⟨x0, x1, x2, x3, x4⟩ := n
  dsimp only at *
  have B0 : Below w.heap.size w (w.alloc (.cells #[.int .i64 p, .string x0, .int .i64 x1, .bool x2, .int .i64 x3, .int .i64 x4, .iface t x] 210 (0, 0))) := (Below.refl _ _).alloc (Nat.le_refl _) _
  have Bd : Below w.heap.size w (w.alloc (.cells #[.int .i64 p, .string x0, .int .i64 x1, .bool x2, .int .i64 x3, .int .i64 x4, .iface t x] 210 (0, 0))).drew := ⟨B0.os, B0.tape, B0.output, B0.size, B0.block⟩
  have rd : RAt (w.alloc (.cells #[.int .i64 p, .string x0, .int .i64 x1, .bool x2, .int .i64 x3, .int .i64 x4, .iface t x] 210 (0, 0))).drew b g tb W := (h.below B0).keep rfl rfl
  have c0 := (h.below B0).cells.cell 0
  simp only [List.getElem?_cons_zero] at c0
  have lb := h.cells.lt
  go_enter Tryz.func112, Tryz.ntmps112
  go_upto_region 10 with fail
  go_region_with (go_at_call 113; refine (hpl _ rd).mono ?_; rintro z w1 ⟨rfl, hb1⟩; have r1 := rd.below hb1; have c1 := r1.cells.cell 0; simp only [List.getElem?_cons_zero] at c1; have cw := hcw _ r1)
  all_goals
    go_wp2_with fail
    go_ret
    exact ⟨rfl, Bd.trans (hb1.mono Bd.size)⟩
end Go.Proofs.YtejbgcloblpbfaaGreatDoor
namespace Go.Proofs.YtejbgcloblpbfaaGreatDoor
namespace K
open R (Tok tk CS cut1 cut2 cut3 cutTo isStop isBr byteAt)
def more (s : ByteArray) : Nat → Nat → Int → List Tok
  | 0, _, _ => []
  | n + 1, i, f => (cut3 s i (cut2 s i (cut1 s i ⟨f, []⟩))).out ++ more s n (i + 1) (cut3 s i (cut2 s i (cut1 s i ⟨f, []⟩))).f
theorem cut_out (s : ByteArray) (i : Nat) (c : CS) : cut3 s i (cut2 s i (cut1 s i c)) = ⟨(cut3 s i (cut2 s i (cut1 s i ⟨c.f, []⟩))).f, c.out ++ (cut3 s i (cut2 s i (cut1 s i ⟨c.f, []⟩))).out⟩ := by
  obtain ⟨f, o⟩ := c
  unfold cut1 cut2 cut3
  by_cases h1 : isStop s i = true ∧ 0 ≤ f
  · simp only [h1, and_self, if_true]
    by_cases h3 : isBr s i = true <;> simp [h3]
  · simp only [h1, if_false]
    by_cases h2 : isStop s i = false ∧ f < 0
    · simp only [h2, and_self, if_true]
      by_cases h3 : isBr s i = true <;> simp [h3]
    · simp only [h2, if_false]
      by_cases h3 : isBr s i = true <;> simp [h3]
theorem cutTo_more (s : ByteArray) (n : Nat) : ∀ i, (cutTo s (i + n)).out = (cutTo s i).out ++ more s n i (cutTo s i).f := by
  induction n with
  | zero => intro i; simp [more]
  | succ n ih =>
    intro i
    have e : i + (n + 1) = (i + 1) + n := by omega
    rw [e, ih (i + 1), cutTo, cut_out, more, List.append_assoc]
theorem toks_more (s : ByteArray) : R.toks s = more s (s.size + 1) 0 (-1) ++ [⟨⟨#[]⟩, s.size⟩] := by
  unfold R.toks
  have h := cutTo_more s (s.size + 1) 0
  rw [Nat.zero_add] at h
  rw [h]
  simp [cutTo]
theorem stop_at {s : ByteArray} {i : Nat} (h : i < s.size) : isStop s i = (blank s[i] || brak s[i]) := by
  unfold isStop blank brak
  rw [R.byte_get s i h, show (i == s.size) = false from by simp; omega]
  simp [Bool.or_assoc]
theorem br_at {s : ByteArray} {i : Nat} (h : i < s.size) : isBr s i = brak s[i] := by
  unfold isBr brak
  rw [R.byte_get s i h, decide_eq_true h]
  rfl
theorem stop_size (s : ByteArray) : isStop s s.size = true := by unfold isStop; simp
theorem br_size (s : ByteArray) : isBr s s.size = false := by unfold isBr; simp
theorem more_blank {s : ByteArray} {n i : Nat} (h : i < s.size) (hb : blank s[i] = true) : more s (n + 1) i (-1) = more s n (i + 1) (-1) := by
  have hs : isStop s i = true := by rw [stop_at h, hb]; rfl
  have hr : isBr s i = false := by
    rw [br_at h]
    revert hb
    unfold blank brak
    intro hb
    rw [Bool.or_eq_true] at hb
    rcases hb with e | e <;> (rw [beq_iff_eq] at e; rw [e]; decide)
  rw [more]
  simp [cut1, cut2, cut3, hs, hr]
theorem more_brak {s : ByteArray} {n i : Nat} (h : i < s.size) (hb : brak s[i] = true) : more s (n + 1) i (-1) = ⟨s.extract i (i + 1), i⟩ :: more s n (i + 1) (-1) := by
  have hs : isStop s i = true := by rw [stop_at h, hb]; simp
  have hr : isBr s i = true := by rw [br_at h]; exact hb
  rw [more]
  simp [cut1, cut2, cut3, hs, hr]
theorem more_end (s : ByteArray) (n : Nat) : more s (n + 1) s.size (-1) = more s n (s.size + 1) (-1) := by
  rw [more]
  simp [cut1, cut2, cut3, stop_size, br_size]
theorem more_word {s : ByteArray} {n i : Nat} (h : i < s.size) (hm : mid s[i] = true) : more s (n + 1) i (-1) = more s n (i + 1) i := by
  unfold mid at hm
  rw [Bool.and_eq_true, Bool.not_eq_true', Bool.not_eq_true'] at hm
  have hs : isStop s i = false := by rw [stop_at h, hm.1, hm.2]; rfl
  have hr : isBr s i = false := by rw [br_at h]; exact hm.2
  rw [more]
  simp [cut1, cut2, cut3, hs, hr]
theorem more_on {s : ByteArray} {n i f : Nat} (h : i < s.size) (hm : mid s[i] = true) : more s (n + 1) i (f : Int) = more s n (i + 1) (f : Int) := by
  unfold mid at hm
  rw [Bool.and_eq_true, Bool.not_eq_true', Bool.not_eq_true'] at hm
  have hs : isStop s i = false := by rw [stop_at h, hm.1, hm.2]; rfl
  have hr : isBr s i = false := by rw [br_at h]; exact hm.2
  have hf : ¬ (f : Int) < 0 := by omega
  rw [more]
  simp [cut1, cut2, cut3, hs, hr, hf]
theorem more_shut {s : ByteArray} {n i f : Nat} (hs : isStop s i = true) : more s (n + 1) i (f : Int) = ⟨s.extract f i, f⟩ :: more s (n + 1) i (-1) := by
  rw [more, more]
  by_cases hr : isBr s i = true
  · simp [cut1, cut2, cut3, hs, hr]
  · simp [cut1, cut2, cut3, hs, hr]
end K
end Go.Proofs.YtejbgcloblpbfaaGreatDoor
