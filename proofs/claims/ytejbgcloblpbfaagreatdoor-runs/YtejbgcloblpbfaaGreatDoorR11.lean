import Derived.Test.YtejbgcloblpbfaaGreatDoorR10
namespace Go.Proofs.YtejbgcloblpbfaaGreatDoor
open Go.RowKit
open K (Nm Ex)
def K.sec : Ex → Bool
  | .num _ => false
  | .use n => n.sec
  | .get _ n e => n.sec || K.sec e
  | .op _ _ l r => K.sec l || K.sec r
  | .cho _ q y n => K.sec q || K.sec y || K.sec n
  | .none => false
def K.good : Ex → Bool
  | .num _ => true
  | .use _ => true
  | .get _ _ e => K.good e
  | .op _ _ l r => K.good l && K.good r
  | .cho _ q y n => K.good q && K.good y && K.good n
  | .none => false
def exM : Ex → Nat
  | .num _ => 276
  | .use _ => 277
  | .get .. => 278
  | .op .. => 178
  | .cho .. => 279
  | .none => 0
def exP : Ex → Value
  | .num v => .agg #[.int .i64 v]
  | .use n => .agg #[.string n.text, .int .i64 n.kind, .bool n.sec, .int .i64 n.size, .int .i64 n.place]
  | .get p n e => .agg #[.int .i64 p, .string n.text, .int .i64 n.kind, .bool n.sec, .int .i64 n.size, .int .i64 n.place, exV e]
  | .op p o l r => .agg #[.int .i64 p, .int .u8 o.toNat, exV l, exV r]
  | .cho p q y n => .agg #[.int .i64 p, exV q, exV y, exV n]
  | .none => .nilIface
def exT : Ex → TypeId
  | .num _ => 206
  | .use _ => 208
  | .get .. => 210
  | .op .. => 212
  | .cho .. => 214
  | .none => 0
theorem exV_good {e : Ex} (h : K.good e = true) : exV e = .iface (exT e) (exP e) := by cases e <;> first | rfl | simp [K.good] at h
def SecDoes (e : Ex) : Prop := ∀ w : World, Calls Tryz.prog (exM e) #[exP e] w fun x w' => x = .returned (.bool (K.sec e)) ∧ Below w.heap.size w w'
theorem sec_num (v : Int) : SecDoes (.num v) := by
  intro w
  show Calls Tryz.prog 276 #[.agg #[.int .i64 v]] w _
  go_enter Tryz.func276, Tryz.ntmps276
  go_wp2
  go_ret
  exact ⟨rfl, (Below.refl _ _).alloc (Nat.le_refl _) _⟩
theorem sec_use (n : Nm) : SecDoes (.use n) := by
  intro w
  show Calls Tryz.prog 277 #[.agg #[.string n.text, .int .i64 n.kind, .bool n.sec, .int .i64 n.size, .int .i64 n.place]] w _
  go_enter Tryz.func277, Tryz.ntmps277
  go_wp2
  go_ret
  exact ⟨rfl, (Below.refl _ _).alloc (Nat.le_refl _) _⟩
theorem sec_method (e : Ex) (h : K.good e = true) (w : World) : (method 395 (exT e) (exP e) "Secret").run Tryz.prog w = .ok (exM e, exP e) w := by
  cases e <;> first | exact absurd h (by decide) | kernel_rfl
theorem sec_ahead (e : Ex) (h : K.good e = true) (w : World) : (nilAhead 395 (exT e) (exP e) "Secret").run Tryz.prog w = .ok (some false) w := by
  cases e <;> first | exact absurd h (by decide) | kernel_rfl
theorem sec_enter (e : Ex) (h : K.good e = true) (w : World) : (callFunc (exM e) #[exP e]).run Tryz.prog w = .ok (.enter (exM e) #[exP e]) w := by
  cases e <;> first | exact absurd h (by decide) | kernel_rfl
set_option maxRecDepth 100000 in
set_option maxHeartbeats 400000 in
theorem sec_get (p : Int) (n : Nm) (e : Ex) (hg : K.good e = true) (he : SecDoes e) : SecDoes (.get p n e) := by
  intro w
  have hm := sec_method e hg
  have hna := sec_ahead e hg
  have hen := sec_enter e hg
  have hs := he
  unfold SecDoes at hs
  have HK : Hid (K.sec (.get p n e) = (n.sec || K.sec e)) := rfl
  show Calls Tryz.prog 278 #[.agg #[.int .i64 p, .string n.text, .int .i64 n.kind, .bool n.sec, .int .i64 n.size, .int .i64 n.place, exV e]] w _
  rw [exV_good hg]
  generalize exT e = t at *
  generalize exP e = x at *
  generalize exM e = m at *
  generalize K.sec e = q at *
  generalize K.sec (.get p n e) = r at *
  obtain ⟨x0, x1, x2, x3, x4⟩ := n
  dsimp only at *
  cases x2 with
  | true =>
    have e := HK.out
    subst e
    go_enter Tryz.func278, Tryz.ntmps278
    go_wp2_with fail
    go_ret
    exact ⟨rfl, (Below.refl _ _).alloc (Nat.le_refl _) _⟩
  | false =>
    have e := HK.out
    subst e
    go_enter Tryz.func278, Tryz.ntmps278
    go_wp2_with fail
    refine (hs _).mono ?_
    rintro y w1 ⟨rfl, hb⟩
    go_wp2_with fail
    go_ret
    exact ⟨rfl, ((Below.refl _ _).alloc (Nat.le_refl _) _).trans (hb.mono (by simp))⟩
set_option maxRecDepth 100000 in
set_option maxHeartbeats 400000 in
theorem sec_op (p : Int) (o : UInt8) (l r : Ex) (hg : K.good l = true) (hg2 : K.good r = true) (he : SecDoes l) (he2 : SecDoes r) : SecDoes (.op p o l r) := by
  intro w
  have hm := sec_method l hg
  have hna := sec_ahead l hg
  have hen := sec_enter l hg
  have hm2 := sec_method r hg2
  have hna2 := sec_ahead r hg2
  have hen2 := sec_enter r hg2
  have hs := he
  have hs2 := he2
  unfold SecDoes at hs hs2
  have HK : Hid (K.sec (.op p o l r) = (K.sec l || K.sec r)) := rfl
  show Calls Tryz.prog 178 #[.agg #[.int .i64 p, .int .u8 o.toNat, exV l, exV r]] w _
  rw [exV_good hg, exV_good hg2]
  generalize exT l = t at *
  generalize exP l = x at *
  generalize exM l = m at *
  generalize exT r = t2 at *
  generalize exP r = x2 at *
  generalize exM r = m2 at *
  generalize K.sec (.op p o l r) = r0 at *
  generalize K.sec l = q at *
  generalize K.sec r = q2 at *
  have nz : w.heap.size < w.heap.size + 1 := by omega
  cases q with
  | true =>
    have e := HK.out
    subst e
    go_enter Tryz.func178, Tryz.ntmps178
    go_wp2_with fail
    refine (hs _).mono ?_
    rintro y w1 ⟨rfl, hb⟩
    go_wp2_with fail
    go_ret
    exact ⟨rfl, ((Below.refl _ _).alloc (Nat.le_refl _) _).trans (hb.mono (by simp))⟩
  | false =>
    have e := HK.out
    subst e
    go_enter Tryz.func178, Tryz.ntmps178
    go_wp2_with fail
    refine (hs _).mono ?_
    rintro y w1 ⟨rfl, hb⟩
    have a1 := (At.alloc_new w [.int .i64 p, .int .u8 o.toNat, .iface t x, .iface t2 x2] 212).of_block (hb.block _ (by simp))
    have c3 := a1.cell 3
    simp only [List.getElem?_cons_zero, List.getElem?_cons_succ] at c3
    go_wp2_with fail
    refine (hs2 _).mono ?_
    rintro y w2 ⟨rfl, hb2⟩
    go_wp2_with fail
    go_ret
    exact ⟨rfl, (((Below.refl _ _).alloc (Nat.le_refl _) _).trans (hb.mono (by simp))).trans (hb2.mono (by have := hb.size; simp at this; omega))⟩
set_option maxRecDepth 100000 in
set_option maxHeartbeats 1000000 in
theorem sec_cho (p : Int) (l r z : Ex) (hg : K.good l = true) (hg2 : K.good r = true) (hg3 : K.good z = true) (he : SecDoes l) (he2 : SecDoes r) (he3 : SecDoes z) : SecDoes (.cho p l r z) := by
  intro w
  have hm := sec_method l hg
  have hna := sec_ahead l hg
  have hen := sec_enter l hg
  have hm2 := sec_method r hg2
  have hna2 := sec_ahead r hg2
  have hen2 := sec_enter r hg2
  have hm3 := sec_method z hg3
  have hna3 := sec_ahead z hg3
  have hen3 := sec_enter z hg3
  have hs := he
  have hs2 := he2
  have hs3 := he3
  unfold SecDoes at hs hs2 hs3
  have HK : Hid (K.sec (.cho p l r z) = (K.sec l || K.sec r || K.sec z)) := rfl
  show Calls Tryz.prog 279 #[.agg #[.int .i64 p, exV l, exV r, exV z]] w _
  rw [exV_good hg, exV_good hg2, exV_good hg3]
  generalize exT l = t at *
  generalize exP l = x at *
  generalize exM l = m at *
  generalize exT r = t2 at *
  generalize exP r = x2 at *
  generalize exM r = m2 at *
  generalize exT z = t3 at *
  generalize exP z = x3 at *
  generalize exM z = m3 at *
  generalize K.sec (.cho p l r z) = r0 at *
  generalize K.sec l = q at *
  generalize K.sec r = q2 at *
  generalize K.sec z = q3 at *
  cases q with
  | true =>
    have e := HK.out
    rw [Bool.true_or, Bool.true_or] at e
    subst e
    clear HK
    go_enter Tryz.func279, Tryz.ntmps279
    go_wp2_with fail
    refine (hs _).mono ?_
    rintro y w1 ⟨rfl, hb⟩
    go_wp2_with fail
    go_ret
    exact ⟨rfl, ((Below.refl _ _).alloc (Nat.le_refl _) _).trans (hb.mono (by simp))⟩
  | false =>
    cases q2 with
    | true =>
      have e := HK.out
      rw [Bool.or_true, Bool.true_or] at e
      subst e
      clear HK
      go_enter Tryz.func279, Tryz.ntmps279
      go_wp2_with fail
      refine (hs _).mono ?_
      rintro y w1 ⟨rfl, hb⟩
      have a1 := (At.alloc_new w [.int .i64 p, .iface t x, .iface t2 x2, .iface t3 x3] 214).of_block (hb.block _ (by simp))
      have c2 := a1.cell 2
      simp only [List.getElem?_cons_zero, List.getElem?_cons_succ] at c2
      go_wp2_with fail
      refine (hs2 _).mono ?_
      rintro y w2 ⟨rfl, hb2⟩
      go_wp2_with fail
      go_ret
      exact ⟨rfl, (((Below.refl _ _).alloc (Nat.le_refl _) _).trans (hb.mono (by simp))).trans (hb2.mono (by have := hb.size; simp at this; omega))⟩
    | false =>
      have e := HK.out
      rw [Bool.or_false, Bool.false_or] at e
      subst e
      clear HK
      go_enter Tryz.func279, Tryz.ntmps279
      go_wp2_with fail
      refine (hs _).mono ?_
      rintro y w1 ⟨rfl, hb⟩
      have a1 := (At.alloc_new w [.int .i64 p, .iface t x, .iface t2 x2, .iface t3 x3] 214).of_block (hb.block _ (by simp))
      have c2 := a1.cell 2
      simp only [List.getElem?_cons_zero, List.getElem?_cons_succ] at c2
      go_wp2_with fail
      refine (hs2 _).mono ?_
      rintro y w2 ⟨rfl, hb2⟩
      have a2 := a1.of_block (hb2.block _ a1.lt)
      have c3 := a2.cell 3
      simp only [List.getElem?_cons_zero, List.getElem?_cons_succ] at c3
      go_wp2_with fail
      refine (hs3 _).mono ?_
      rintro y w3 ⟨rfl, hb3⟩
      go_wp2_with fail
      go_ret
      exact ⟨rfl, ((((Below.refl _ _).alloc (Nat.le_refl _) _).trans (hb.mono (by simp))).trans (hb2.mono (by have := hb.size; simp at this; omega))).trans (hb3.mono (by have h1 := hb.size; have h2 := hb2.size; simp at h1; omega))⟩
theorem sec_c : ∀ e : Ex, K.good e = true → SecDoes e
  | .num v, _ => sec_num v
  | .use n, _ => sec_use n
  | .get p n e, h => sec_get p n e h (sec_c e h)
  | .op p o l r, h => by
    rw [K.good, Bool.and_eq_true] at h
    exact sec_op p o l r h.1 h.2 (sec_c l h.1) (sec_c r h.2)
  | .cho p q y n, h => by
    rw [K.good, Bool.and_eq_true, Bool.and_eq_true] at h
    exact sec_cho p q y n h.1.1 h.1.2 h.2 (sec_c q h.1.1) (sec_c y h.1.2) (sec_c n h.2)
  | .none, h => absurd h (by decide)
end Go.Proofs.YtejbgcloblpbfaaGreatDoor
