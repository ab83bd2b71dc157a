import Derived.Test.YtejbgcloblpbfaaGreatDoorB19
namespace Go.Proofs.YtejbgcloblpbfaaGreatDoor
open Go.RowKit
open K (Nm Ex Do)
namespace Y
structure WF (w : List Nat) (L : Nat) : Prop where
  wn : w.Nodup
  wl : ∀ x ∈ w, L ≤ x ∧ x < 256
theorem WF.fine {w : List Nat} {L : Nat} (h : WF w L) : Fine R8 w L := ⟨by decide, by decide, by decide, h.wn, h.wl⟩
theorem WF.fine1 {w : List Nat} {L a : Nat} (h : WF w L) (ha : a ∈ R8) : Fine (R8.erase a) w L :=
  ⟨(show R8.Nodup by decide).erase a, fun x hx => (show ∀ x ∈ R8, x < 8 by decide) x (List.mem_of_mem_erase hx), by rw [List.length_erase_of_mem ha]; decide, h.wn, h.wl⟩
theorem WF.tail {w : List Nat} {L : Nat} (h : WF w L) : WF w.tail L := ⟨h.wn.sublist (List.tail_sublist w), fun x hx => h.wl x (List.mem_of_mem_tail hx)⟩
def On (M : Nat → Int) (w : List Nat) (L : Nat) (on : Bool) : Option Nat → Prop
  | none => on = true
  | some x => L ≤ x ∧ x < 256 ∧ x ∉ w ∧ on = decide (¬ M x = 0)
theorem MemIs.set {M : Nat → Int} {W : List Int} (h : MemIs M W) {a : Nat} (v : Int) : MemIs (upd M a v) (W.set a v) := by
  intro j hj
  rw [List.length_set] at hj
  by_cases e : j = a
  · subst e
    rw [upd_self, List.getD_eq_getElem?_getD, List.getElem?_set_self (by omega)]; rfl
  · rw [upd_ne e, h j hj, List.getD_eq_getElem?_getD, List.getD_eq_getElem?_getD, List.getElem?_set_ne (fun x => e x.symm)]
theorem MemIs.same {M : Nat → Int} {W : List Int} (h : MemIs M W) {a : Nat} (ha : a < W.length) : MemIs (upd M a (M a)) W := by
  intro j hj
  by_cases e : j = a
  · subst e; rw [upd_self]; exact h j hj
  · rw [upd_ne e]; exact h j hj
theorem two {g : List Nat} (hl : 2 ≤ g.length) : ∃ a b t, g = a :: b :: t := by
  cases g with
  | nil => simp at hl
  | cons a g => cases g with
    | nil => simp at hl
    | cons b t => exact ⟨_, _, _, rfl⟩
theorem ch_sim {g w : List Nat} {p r : Nat} {k : Option Nat} {at_ v : Int} {on : Bool} {W : List Int} {s : Ma} (hL : W.length ≤ 60) (hp : p < 8) (hr : r < 8) (hpr : ¬ p = r) (h8 : ∀ x ∈ g, x < 8) (hn : g.Nodup) (hl : 2 ≤ g.length) (pn : p ∉ g) (rn : r ∉ g)
    (hM : MemIs s.M W) (hO : On s.M w W.length on k) (ha : s.R p = at_) (a0 : 0 ≤ at_) (a1 : at_ < W.length) (hv : s.R r = v) :
    ∃ s', ex (chC g p r k) s = some s' ∧ s'.pc = s.pc + (chC g p r k).length ∧ MemIs s'.M (if on = true then W.set at_.toNat v else W) ∧ (∀ x, W.length ≤ x → s'.M x = s.M x) ∧ s'.seen = s.seen ++ chS s.pc at_ k := by
  have a2 : at_ < 256 := by omega
  have hne : ∀ x, W.length ≤ x → ¬ x = at_.toNat := fun x hx e => by omega
  cases k with
  | none =>
    unfold On at hO
    subst hO
    refine ⟨⟨s.pc + 1, s.R, upd s.M at_.toNat v, s.seen ++ [(s.pc : Int), at_]⟩, ?_, rfl, ?_, fun x hx => upd_ne (hne x hx), rfl⟩
    · simp [chC, ex, step, hp, hr, ha, a0, a2, hv]
    · rw [if_pos rfl]; exact hM.set v
  | some x =>
    obtain ⟨o1, o2, o3, o4⟩ := hO
    obtain ⟨h, o, t, rfl⟩ := two hl
    have bh := h8 h (by simp)
    have bo := h8 o (by simp)
    simp only [List.nodup_cons, List.mem_cons, not_or] at hn
    simp only [List.mem_cons, not_or] at pn rn
    have x0 : (0 : Int) ≤ ((x : Nat) : Int) := by omega
    have x2 : ((x : Nat) : Int) < 256 := by omega
    refine ⟨⟨s.pc + 5, upd (upd (upd (upd s.R h (x : Nat)) h (s.M x)) o (s.M at_.toNat)) r (if s.M x = 0 then s.M at_.toNat else v), upd s.M at_.toNat (if s.M x = 0 then s.M at_.toNat else v), s.seen ++ chS s.pc at_ (some x)⟩, ?_, rfl, ?_, fun x hx => upd_ne (hne x hx), rfl⟩
    · simp [chC, hd, ex, step, hp, hr, bh, bo, upd_self, upd_ne hpr, upd_ne pn.1, upd_ne pn.2.1, upd_ne rn.1, upd_ne rn.2.1, upd_ne hn.1.1, x0, x2, ha, a0, a2, hv, chS]
      omega
    · subst o4
      by_cases e : s.M x = 0
      · simp only [e, not_true_eq_false, decide_false, if_true, Bool.false_eq_true, if_false]
        exact hM.same (by omega)
      · simp only [e, not_false_eq_true, decide_true, if_true, if_false]
        exact hM.set v
def DTo (C : List Ins) (W W' : List Int) (w : List Nat) (len : Nat) (S : List Int) (bound : Nat) (s : Ma) : Prop :=
  ∃ n s', go C n s = some s' ∧ n ≤ bound ∧ s'.pc = s.pc + len ∧ MemIs s'.M W' ∧ (∀ x, W.length ≤ x → x ∉ w → s'.M x = s.M x) ∧ s'.seen = s.seen ++ S
mutual
def Sc (N : Nat) : Nat → Do → Prop
  | dep, .set _ n e => 0 ≤ n.place ∧ n.place < N ∧ V.wfE (N + dep) e
  | dep, .put _ n i e => 0 ≤ n.place ∧ 1 ≤ n.size ∧ n.size ≤ 6 ∧ n.place + n.size ≤ N ∧ V.wfE (N + dep) i ∧ V.wfE (N + dep) e
  | dep, .ifs _ q y n => V.wfE (N + dep) q ∧ ScL N dep y ∧ ScL N dep n
  | dep, .fors _ n r l => n.place = (N + dep : Nat) ∧ dep < 2 ∧ V.wfE (N + dep) r ∧ ScL N (dep + 1) l
  | _, .none => False
def ScL (N : Nat) : Nat → List Do → Prop
  | _, [] => True
  | dep, d :: l => Sc N dep d ∧ ScL N dep l
end
theorem wfE_mono {N M : Nat} (h : N ≤ M) : ∀ {e : Ex}, V.wfE N e → V.wfE M e
  | .num _, _ => by unfold V.wfE; trivial
  | .use _, k => by unfold V.wfE at *; omega
  | .get _ _ e, k => by
    unfold V.wfE at *
    exact ⟨k.1, k.2.1, k.2.2.1, by omega, wfE_mono h k.2.2.2.2⟩
  | .op _ _ l r, k => by
    unfold V.wfE at *
    exact ⟨k.1, wfE_mono h k.2.1, wfE_mono h k.2.2⟩
  | .cho _ q y n, k => by
    unfold V.wfE at *
    exact ⟨wfE_mono h k.1, wfE_mono h k.2.1, wfE_mono h k.2.2⟩
  | .none, k => by unfold V.wfE at k; exact k.elim
def SimD (N : Nat) (d : Do) : Prop := ∀ (C : List Ins) (p : Nat) (w : List Nat) (k : Option Nat) (on : Bool) (W : List Int) (s : Ma), W.length = N + 2 → s.pc = p → Seg C p (doC p w k d) → WF w W.length → needD d ≤ w.length → MemIs s.M W → On s.M w W.length on k →
  DTo C W (U.rd on d W) w (doC p w k d).length (seD p w k on d W) (cD d) s
def SimL (N : Nat) (l : List Do) : Prop := ∀ (C : List Ins) (p : Nat) (w : List Nat) (k : Option Nat) (on : Bool) (W : List Int) (s : Ma), W.length = N + 2 → s.pc = p → Seg C p (dosC p w k l) → WF w W.length → needD.needL l ≤ w.length → MemIs s.M W → On s.M w W.length on k →
  DTo C W (U.rds on l W) w (dosC p w k l).length (seDs p w k on l W) (cD.cDs l) s
theorem On.to {M M' : Nat → Int} {w : List Nat} {L : Nat} {on : Bool} {k : Option Nat} (h : On M w L on k) (hm : ∀ x, L ≤ x → x ∉ w → M' x = M x) : On M' w L on k := by
  cases k with
  | none => exact h
  | some x =>
    obtain ⟨h1, h2, h3, h4⟩ := h
    exact ⟨h1, h2, h3, by rw [hm x h1 h3]; exact h4⟩
theorem chC_straight (g : List Nat) (p r : Nat) (k : Option Nat) : (chC g p r k).all straight = true := by cases k <;> rfl
theorem chC_len (g : List Nat) (p r : Nat) (k : Option Nat) : (chC g p r k).length ≤ 5 := by cases k <;> simp [chC]
theorem sim_set {N dep : Nat} (hN : N ≤ 54) (hd2 : dep ≤ 2) (p0 : Int) (n : Nm) (e : Ex) (hs : Sc N dep (.set p0 n e)) : SimD N (.set p0 n e) := by
  intro C p w k on W s hW hp hg hwf hn hM hO
  unfold Sc at hs
  obtain ⟨h0, h1, h2⟩ := hs
  subst hp
  obtain ⟨s1, x1, t1, v1⟩ := sim_ex W (by omega) e R8 w s hwf.fine (wfE_mono (by omega) h2) hn hM
  have hr := exC_mem e (w := w) hwf.fine
  have hM1 := hM.to t1 hwf.wl
  have hO1 := hO.to (fun x h1 h2 => t1.M x h2)
  have hc : doC s.pc w k (.set p0 n e) = (exC R8 w e).1 ++ (.kst (hd (R8.erase (exC R8 w e).2)) n.place :: chC (R8.erase (exC R8 w e).2).tail (hd (R8.erase (exC R8 w e).2)) (exC R8 w e).2 k) := by rw [doC]
  have hse : seD s.pc w k on (.set p0 n e) W = seE W s.pc R8 w e ++ (((s.pc + (exC R8 w e).1.length : Nat) : Int) :: chS (s.pc + (exC R8 w e).1.length + 1) n.place k) := by rw [seD]
  have hu : U.rd on (.set p0 n e) W = if on = true then W.set n.place.toNat (V.ev W e) else W := by rw [U.rd]
  have hcd : cD (.set p0 n e) = cE e + 6 := rfl
  have hlen := exC_len e R8 w
  have hst := exC_straight e R8 w
  have q1 := t1.pc
  rw [hc] at hg
  rw [hc, hse, hu, hcd]
  have hF1 := hwf.fine1 hr
  generalize exC R8 w e = X at *
  have gl : (R8.erase X.2).length = 7 := by rw [List.length_erase_of_mem hr]; rfl
  have zm := hd_mem (l := R8.erase X.2) (by omega)
  have rn : X.2 ∉ R8.erase X.2 := fun e => ((show R8.Nodup by decide).mem_erase_iff.1 e).1 rfl
  have nd := hF1.gn
  rw [hd_tail (l := R8.erase X.2) (by omega)] at nd
  have b8 := hF1.g8
  have hz : ¬ hd (R8.erase X.2) = X.2 := fun e => rn (by have z := zm; rw [e] at z; exact z)
  have r8 := (show ∀ x ∈ R8, x < 8 by decide) _ hr
  obtain ⟨s3, x3, p3, m3, k3, e3⟩ := ch_sim (g := (R8.erase X.2).tail) (w := w) (p := hd (R8.erase X.2)) (r := X.2) (k := k) (at_ := n.place) (v := V.ev W e) (on := on) (W := W) (s := ⟨s1.pc + 1, upd s1.R (hd (R8.erase X.2)) n.place, s1.M, s1.seen ++ [(s1.pc : Int)]⟩) (by omega) (b8 _ zm) r8 hz (fun x hx => b8 x (List.mem_of_mem_tail hx)) (List.nodup_cons.1 nd).2 (by rw [List.length_tail]; omega) (List.nodup_cons.1 nd).1 (fun e => rn (List.mem_of_mem_tail e)) hM1 hO1 (upd_self _ _ _) h0 (by omega) (by show upd _ _ _ X.2 = _; rw [upd_ne (fun e => hz e.symm)]; exact v1)
  have x2 : ex (.kst (hd (R8.erase X.2)) n.place :: chC (R8.erase X.2).tail (hd (R8.erase X.2)) X.2 k) s1 = some s3 := by
    unfold ex
    simp only [step, b8 _ zm, if_true]
    exact x3
  have xx := ex_append _ _ _ _ _ x1 x2
  have cl := chC_len (R8.erase X.2).tail (hd (R8.erase X.2)) X.2 k
  refine ⟨_, s3, go_ex (by rw [List.all_append, hst, List.all_cons, chC_straight]; rfl) hg xx, ?_, ?_, m3, ?_, ?_⟩
  · simp only [List.length_append, List.length_cons]; omega
  · rw [p3]; simp only [List.length_append, List.length_cons]; omega
  · intro x hx hxw
    rw [k3 x hx]
    exact t1.M x hxw
  · rw [e3]
    dsimp only
    rw [t1.seen, q1]
    simp
end Y
end Go.Proofs.YtejbgcloblpbfaaGreatDoor
namespace Go.Proofs.YtejbgcloblpbfaaGreatDoor
open Go.RowKit
open K (Nm Ex Do)
namespace Y
theorem plC_straight (g : List Nat) (r : Nat) (n : Nm) : (plC g r n).all straight = true := rfl
theorem sim_put {N dep : Nat} (hN : N ≤ 54) (hd2 : dep ≤ 2) (p0 : Int) (n : Nm) (i e : Ex) (hs : Sc N dep (.put p0 n i e)) : SimD N (.put p0 n i e) := by
  intro C p w k on W s hW hp hg hwf hn hM hO
  unfold Sc at hs
  obtain ⟨h0, h1, h6, hw, hi, he⟩ := hs
  subst hp
  have hn' : max (need i) (need e) ≤ w.length := hn
  obtain ⟨s1, x1, t1, v1⟩ := sim_ex W (by omega) e R8 w s hwf.fine (wfE_mono (by omega) he) (by omega) hM
  have hr := exC_mem e (w := w) hwf.fine
  have hF1 := hwf.fine1 hr
  have hM1 := hM.to t1 hwf.wl
  obtain ⟨s2, x2, t2, v2⟩ := sim_ex W (by omega) i (R8.erase (exC R8 w e).2) w s1 hF1 (wfE_mono (by omega) hi) (by omega) hM1
  have hb := exC_mem i (w := w) hF1
  have hM2 := hM1.to t2 hwf.wl
  have hc : doC s.pc w k (.put p0 n i e) = (exC R8 w e).1 ++ ((exC (R8.erase (exC R8 w e).2) w i).1 ++ (plC ((R8.erase (exC R8 w e).2).erase (exC (R8.erase (exC R8 w e).2) w i).2) (exC (R8.erase (exC R8 w e).2) w i).2 n ++ chC ((R8.erase (exC R8 w e).2).erase (exC (R8.erase (exC R8 w e).2) w i).2) (exC (R8.erase (exC R8 w e).2) w i).2 (exC R8 w e).2 k)) := by rw [doC]
  have hse : seD s.pc w k on (.put p0 n i e) W = seE W s.pc R8 w e ++ (seE W (s.pc + (exC R8 w e).1.length) (R8.erase (exC R8 w e).2) w i ++ (plS (s.pc + (exC R8 w e).1.length + (exC (R8.erase (exC R8 w e).2) w i).1.length) (V.ev W i) n.size ++ chS (s.pc + (exC R8 w e).1.length + (exC (R8.erase (exC R8 w e).2) w i).1.length + 10) (n.place + V.md (V.ev W i) n.size) k)) := by rw [seD]
  have hu : U.rd on (.put p0 n i e) W = if on = true then W.set (n.place + V.md (V.ev W i) n.size).toNat (V.ev W e) else W := by rw [U.rd]
  have hcd : cD (.put p0 n i e) = cE i + cE e + 15 := rfl
  have hlen := exC_len e R8 w
  have hst := exC_straight e R8 w
  have hlen2 := exC_len i (R8.erase (exC R8 w e).2) w
  have hst2 := exC_straight i (R8.erase (exC R8 w e).2) w
  have q1 := t1.pc
  have q2 := t2.pc
  rw [hc] at hg
  rw [hc, hse, hu, hcd]
  clear hc hse hu hcd
  generalize exC R8 w e = X at *
  have gl : (R8.erase X.2).length = 7 := by rw [List.length_erase_of_mem hr]; rfl
  have rn : X.2 ∉ R8.erase X.2 := fun e => ((show R8.Nodup by decide).mem_erase_iff.1 e).1 rfl
  have nd := hF1.gn
  have b8 := hF1.g8
  have r8 := (show ∀ x ∈ R8, x < 8 by decide) _ hr
  generalize R8.erase X.2 = g at *
  generalize exC g w i = Z at *
  have gl2 : (g.erase Z.2).length = 6 := by rw [List.length_erase_of_mem hb]; omega
  have zn : Z.2 ∉ g.erase Z.2 := fun e => (nd.mem_erase_iff.1 e).1 rfl
  have sub : ∀ x ∈ g.erase Z.2, x ∈ g := fun x hx => List.mem_of_mem_erase hx
  have nd2 := nd.erase Z.2
  have z8 := b8 _ hb
  have hzr : ¬ Z.2 = X.2 := fun e => rn (by have z := hb; rw [e] at z; exact z)
  obtain ⟨s3, x3, t3, v3⟩ := pl_sim (w := w) (h := g.erase Z.2) (r := Z.2) (n := n) (v := V.ev W i) (s := s2) z8 zn (fun x hx => b8 x (sub x hx)) nd2 (by omega) h1 h6 v2 h0 (by omega)
  have vX : s3.R X.2 = V.ev W e := by
    rw [t3.R X.2 (by simp only [List.mem_cons, not_or]; exact ⟨fun e => hzr e.symm, fun e => rn (sub _ e)⟩), t2.R X.2 rn]
    exact v1
  have md := md_range (V.ev W i) h1 h6
  have hM3 := hM2.to t3 hwf.wl
  have hO3 := hO.to (fun x h1 h2 => (t3.M x h2).trans ((t2.M x h2).trans (t1.M x h2)))
  obtain ⟨s4, x4, p4, m4, k4, e4⟩ := ch_sim (g := g.erase Z.2) (w := w) (p := Z.2) (r := X.2) (k := k) (at_ := n.place + V.md (V.ev W i) n.size) (v := V.ev W e) (on := on) (W := W) (s := s3) (by omega) z8 r8 hzr (fun x hx => b8 x (sub x hx)) nd2 (by omega) zn (fun e => rn (sub _ e)) hM3 hO3 v3 (by omega) (by omega) vX
  have xx := ex_append _ _ _ _ _ x1 (ex_append _ _ _ _ _ x2 (ex_append _ _ _ _ _ x3 x4))
  have cl := chC_len (g.erase Z.2) Z.2 X.2 k
  have pl : (plC (g.erase Z.2) Z.2 n).length = 10 := rfl
  refine ⟨_, s4, go_ex (by simp only [List.all_append, hst, hst2, chC_straight, plC_straight]; rfl) hg xx, ?_, ?_, m4, ?_, ?_⟩
  · simp only [List.length_append, pl]; omega
  · rw [p4, t3.pc]; simp only [List.length_append, pl]; omega
  · intro x hx hxw
    rw [k4 x hx, t3.M x hxw, t2.M x hxw]
    exact t1.M x hxw
  · rw [e4, t3.seen, t2.seen, t1.seen, t3.pc, q2, q1]
    simp only [List.append_assoc]
theorem go_one {C : List Ins} {s s' : Ma} {i : Ins} (h : C[s.pc]? = some i) (hs : step i s = some s') : go C 1 s = some s' := by
  unfold go; rw [h]; dsimp only; rw [hs]; rfl
theorem DTo.len {C : List Ins} {W W' : List Int} {w : List Nat} {len b : Nat} {S : List Int} {s : Ma} (h : DTo C W W' w len S b s) {b' : Nat} (hb : b ≤ b') : DTo C W W' w len S b' s := by
  obtain ⟨n, s', h1, h2, h3⟩ := h
  exact ⟨n, s', h1, by omega, h3⟩
mutual
theorem rd_len (on : Bool) : ∀ (d : Do) (W : List Int), (U.rd on d W).length = W.length
  | .set .., W => by rw [U.rd]; split <;> simp
  | .put .., W => by rw [U.rd]; split <;> simp
  | .ifs _ q y n, W => by
    rw [U.rd]
    split
    · rw [rds_len _ n, rds_len _ y]
    · split
      · exact rds_len _ n W
      · exact rds_len _ y W
  | .fors _ n r l, W => by
    rw [U.rd]
    have : ∀ (m i : Nat) (W : List Int), (U.loop (fun W => U.rds on l W) n.place.toNat m i W).length = W.length := by
      intro m
      induction m with
      | zero => intro i W; rfl
      | succ m ih => intro i W; rw [U.loop, ih, List.length_set, rds_len on l W]
    rw [this, List.length_set]
  | .none, W => by rw [U.rd]
theorem rds_len (on : Bool) : ∀ (l : List Do) (W : List Int), (U.rds on l W).length = W.length
  | [], W => by rw [U.rds]
  | d :: l, W => by rw [U.rds, rds_len on l, rd_len on d]
end
theorem sim_nil {N : Nat} : SimL N [] := by
  intro C p w k on W s hW hp hg hwf hn hM hO
  refine ⟨0, s, rfl, Nat.zero_le _, ?_, ?_, fun _ _ _ => rfl, ?_⟩
  · rw [dosC]; rfl
  · rw [U.rds]; exact hM
  · rw [seDs]; simp
theorem sim_cons {N : Nat} {d : Do} {l : List Do} (hd : SimD N d) (hl : SimL N l) : SimL N (d :: l) := by
  intro C p w k on W s hW hp hg hwf hn hM hO
  rw [dosC] at hg ⊢
  rw [U.rds, seDs]
  have hn' : max (needD d) (needD.needL l) ≤ w.length := hn
  obtain ⟨n1, s1, a1, a2, a3, a4, a5, a6⟩ := hd C p w k on W s hW hp hg.left hwf (by omega) hM hO
  have hl1 := rd_len on d W
  obtain ⟨n2, s2, b1, b2, b3, b4, b5, b6⟩ := hl C (p + (doC p w k d).length) w k on (U.rd on d W) s1 (by rw [hl1]; exact hW) (by rw [a3, hp]) hg.right (by rw [hl1]; exact hwf) (by omega) a4 (by rw [hl1]; exact hO.to a5)
  refine ⟨n1 + n2, s2, go_add _ _ _ _ _ _ a1 b1, ?_, ?_, b4, ?_, ?_⟩
  · show _ ≤ cD d + cD.cDs l; omega
  · rw [b3, a3, List.length_append, Nat.add_assoc]
  · intro x hx hxw
    rw [b5 x (by rw [hl1]; exact hx) hxw]
    exact a5 x hx hxw
  · rw [b6, a6, List.append_assoc]
theorem sim_pub {N dep : Nat} (hN : N ≤ 54) (hd2 : dep ≤ 2) (p0 : Int) (q : Ex) (y n : List Do) (hs : Sc N dep (.ifs p0 q y n)) (hq : ¬ K.sec q = true) (hy : SimL N y) (hnn : SimL N n) : SimD N (.ifs p0 q y n) := by
  intro C p w k on W s hW hp hg hwf hn hM hO
  unfold Sc at hs
  subst hp
  have hn' : max (need q) (max (needD.needL y) (needD.needL n)) + 2 ≤ w.length := hn
  obtain ⟨s1, x1, t1, v1⟩ := sim_ex W (by omega) q R8 w s hwf.fine (wfE_mono (by omega) hs.1) (by omega) hM
  have hr := exC_mem q (w := w) hwf.fine
  have hM1 := hM.to t1 hwf.wl
  have hO1 := hO.to (fun x h1 h2 => t1.M x h2)
  rw [doC, if_neg hq] at hg ⊢
  rw [seD, if_neg hq, U.rd, if_neg hq]
  dsimp only at hg ⊢
  have hcd : cD (.ifs p0 q y n) = cE q + cD.cDs y + cD.cDs n + 11 := rfl
  rw [hcd]
  have hlen := exC_len q R8 w
  have hst := exC_straight q R8 w
  have q1 := t1.pc
  have r8 := (show ∀ x ∈ R8, x < 8 by decide) _ hr
  generalize exC R8 w q = X at *
  have g1 := go_ex hst hg.left x1
  have hj := hg.right.head
  have hg2 := hg.right.tail
  by_cases c : V.ev W q = 0
  · rw [if_pos c, if_pos c]
    have j1 := go_one (C := C) (s := s1) (i := .jz X.2 (s.pc + X.1.length + 1 + (dosC (s.pc + X.1.length + 1) w k y).length + 1)) (s' := ⟨s.pc + X.1.length + 1 + (dosC (s.pc + X.1.length + 1) w k y).length + 1, s1.R, s1.M, s1.seen ++ [(s1.pc : Int)]⟩) (by rw [q1]; exact hj) (by simp [step, r8, v1, c])
    obtain ⟨n2, s2, b1, b2, b3, b4, b5, b6⟩ := hnn C _ w k on W ⟨s.pc + X.1.length + 1 + (dosC (s.pc + X.1.length + 1) w k y).length + 1, s1.R, s1.M, s1.seen ++ [(s1.pc : Int)]⟩ hW rfl hg2.right.tail hwf (by omega) hM1 hO1
    refine ⟨X.1.length + (1 + n2), s2, go_add _ _ _ _ _ _ g1 (go_add _ _ _ _ _ _ j1 b1), by omega, ?_, b4, ?_, ?_⟩
    · rw [b3]; simp only [List.length_append, List.length_cons]; omega
    · intro x hx hxw
      rw [b5 x hx hxw]
      exact t1.M x hxw
    · rw [b6]
      dsimp only
      rw [t1.seen, q1]
      simp
  · rw [if_neg c, if_neg c]
    have j1 := go_one (C := C) (s := s1) (i := .jz X.2 (s.pc + X.1.length + 1 + (dosC (s.pc + X.1.length + 1) w k y).length + 1)) (s' := ⟨s1.pc + 1, s1.R, s1.M, s1.seen ++ [(s1.pc : Int)]⟩) (by rw [q1]; exact hj) (by simp [step, r8, v1, c])
    obtain ⟨n2, s2, b1, b2, b3, b4, b5, b6⟩ := hy C (s.pc + X.1.length + 1) w k on W ⟨s1.pc + 1, s1.R, s1.M, s1.seen ++ [(s1.pc : Int)]⟩ hW (by rw [← q1]) hg2.left hwf (by omega) hM1 hO1
    have b3' : s2.pc = s.pc + X.1.length + 1 + (dosC (s.pc + X.1.length + 1) w k y).length := by rw [b3]; dsimp only; rw [q1]
    have j2 := go_one (C := C) (s := s2) (s' := ⟨s.pc + X.1.length + 1 + (dosC (s.pc + X.1.length + 1) w k y).length + 1 + (dosC (s.pc + X.1.length + 1 + (dosC (s.pc + X.1.length + 1) w k y).length + 1) w k n).length, s2.R, s2.M, s2.seen ++ [(s2.pc : Int)]⟩) (by rw [b3']; exact hg2.right.head) rfl
    refine ⟨X.1.length + (1 + (n2 + 1)), _, go_add _ _ _ _ _ _ g1 (go_add _ _ _ _ _ _ j1 (go_add _ _ _ _ _ _ b1 j2)), by omega, ?_, b4, ?_, ?_⟩
    · simp only [List.length_append, List.length_cons]; omega
    · intro x hx hxw
      show s2.M x = _
      rw [b5 x hx hxw]
      exact t1.M x hxw
    · show s2.seen ++ [(s2.pc : Int)] = _
      rw [b6, b3']
      dsimp only
      rw [t1.seen, q1]
      simp
end Y
end Go.Proofs.YtejbgcloblpbfaaGreatDoor
namespace Go.Proofs.YtejbgcloblpbfaaGreatDoor
open Go.RowKit
open K (Nm Ex Do)
namespace Y
theorem four {g : List Nat} (hl : 4 ≤ g.length) : ∃ a b c d t, g = a :: b :: c :: d :: t := by
  match g, hl with
  | a :: b :: c :: d :: t, _ => exact ⟨_, _, _, _, _, rfl⟩
def arnd (M : Nat → Int) : Option Nat → Int
  | none => 1
  | some x => M x
theorem cn_sim {u : Nat} {k : Option Nat} {s : Ma} (hu : u < 8) (hk : ∀ x, k = some x → x < 256) :
    ∃ R', ex (cnC u k) s = some ⟨s.pc + (cnC u k).length, R', s.M, s.seen ++ cnS s.pc k⟩ ∧ R' u = arnd s.M k ∧ ∀ x, ¬ x = u → R' x = s.R x := by
  cases k with
  | none =>
    refine ⟨upd s.R u 1, ?_, upd_self _ _ _, fun x hx => upd_ne hx⟩
    simp [cnC, cnS, ex, step, hu]
  | some x =>
    have := hk x rfl
    have x0 : (0 : Int) ≤ ((x : Nat) : Int) := by omega
    have x2 : ((x : Nat) : Int) < 256 := by omega
    refine ⟨upd (upd s.R u (x : Nat)) u (s.M x), ?_, upd_self _ _ _, fun y hy => by rw [upd_ne hy, upd_ne hy]⟩
    simp [cnC, cnS, ex, step, hu, upd_self, x0, x2]
theorem co_sim {g : List Nat} {r a b : Nat} {k : Option Nat} {v : Int} {s : Ma} (hr : r < 8) (h8 : ∀ x ∈ g, x < 8) (hn : g.Nodup) (hl : 4 ≤ g.length) (rn : r ∉ g) (ha : a < 256) (hb : b < 256) (hk : ∀ x, k = some x → x < 256) (hv : s.R r = v) :
    ∃ R', ex (coC g r a b k) s = some ⟨s.pc + (coC g r a b k).length, R', upd (upd s.M a (if v = 0 then 0 else arnd s.M k)) b (if v = 0 then arnd s.M k else 0), s.seen ++ coS s.pc a b k⟩ := by
  obtain ⟨u, z, f, t, l, rfl⟩ := four hl
  have bu := h8 u (by simp)
  have bz := h8 z (by simp)
  have bf := h8 f (by simp)
  have bt := h8 t (by simp)
  simp only [List.nodup_cons, List.mem_cons, not_or] at hn
  simp only [List.mem_cons, not_or] at rn
  obtain ⟨R1, x1, v1, k1⟩ := cn_sim (u := u) (k := k) (s := s) bu hk
  have a0 : (0 : Int) ≤ ((a : Nat) : Int) := by omega
  have a2 : ((a : Nat) : Int) < 256 := by omega
  have b0 : (0 : Int) ≤ ((b : Nat) : Int) := by omega
  have b2 : ((b : Nat) : Int) < 256 := by omega
  have vr : R1 r = v := (k1 r rn.1).trans hv
  obtain ⟨⟨nuz, nuf, nut, _⟩, ⟨nzf, nzt, _⟩, ⟨nft, _⟩, _⟩ := hn
  have nzu : ¬ z = u := fun e => nuz e.symm
  generalize arnd s.M k = ar at *
  have x2 : ex [.kst z 0, .sel f u r z, .kst t (a : Nat), .st t f, .sel f z r u, .kst t (b : Nat), .st t f] ⟨s.pc + (cnC u k).length, R1, s.M, s.seen ++ cnS s.pc k⟩ = some ⟨s.pc + (cnC u k).length + 7, upd (upd (upd (upd (upd R1 z 0) f (if v = 0 then 0 else ar)) t (a : Nat)) f (if v = 0 then ar else 0)) t (b : Nat), upd (upd s.M a (if v = 0 then 0 else ar)) b (if v = 0 then ar else 0), s.seen ++ cnS s.pc k ++ [((s.pc + (cnC u k).length : Nat) : Int), ((s.pc + (cnC u k).length + 1 : Nat) : Int), ((s.pc + (cnC u k).length + 2 : Nat) : Int), ((s.pc + (cnC u k).length + 3 : Nat) : Int), (a : Nat), ((s.pc + (cnC u k).length + 4 : Nat) : Int), ((s.pc + (cnC u k).length + 5 : Nat) : Int), ((s.pc + (cnC u k).length + 6 : Nat) : Int), (b : Nat)]⟩ := by
    simp [ex, step, hr, bu, bz, bf, bt, upd_self, upd_ne nuz, upd_ne nzf, upd_ne nuf, upd_ne nut, upd_ne nzt, upd_ne nft, upd_ne rn.2.1, upd_ne rn.2.2.1, upd_ne rn.2.2.2.1, a0, a2, b0, b2, v1, vr]
    omega
  have el : ∀ u', (cnC u' k).length = (cnC 0 k).length := fun u' => by cases k <;> rfl
  refine ⟨upd (upd (upd (upd (upd R1 z 0) f (if v = 0 then 0 else ar)) t (a : Nat)) f (if v = 0 then ar else 0)) t (b : Nat), ?_⟩
  · refine (ex_append _ _ _ _ _ x1 x2).trans ?_
    have e1 : (coC (u :: z :: f :: t :: l) r a b k).length = (cnC u k).length + 7 := by simp [coC, hd]
    rw [e1, Nat.add_assoc s.pc, List.append_assoc]
    congr 2
    unfold coS
    rw [el u]
theorem coC_len (g : List Nat) (r a b : Nat) (k : Option Nat) : (coC g r a b k).length ≤ 9 := by cases k <;> simp [coC, cnC]
theorem coC_straight (g : List Nat) (r a b : Nat) (k : Option Nat) : (coC g r a b k).all straight = true := by cases k <;> rfl
theorem sim_sec {N dep : Nat} (hN : N ≤ 54) (hd2 : dep ≤ 2) (p0 : Int) (q : Ex) (y n : List Do) (hs : Sc N dep (.ifs p0 q y n)) (hq : K.sec q = true) (hy : SimL N y) (hnn : SimL N n) : SimD N (.ifs p0 q y n) := by
  intro C p w k on W s hW hp hg hwf hn hM hO
  unfold Sc at hs
  subst hp
  have hn' : max (need q) (max (needD.needL y) (needD.needL n)) + 2 ≤ w.length := hn
  obtain ⟨a, b, w2, rfl⟩ := two (g := w) (by omega)
  have hwf2 : WF w2 W.length := hwf.tail.tail
  simp only [List.length_cons] at hn'
  obtain ⟨s1, x1, t1, v1⟩ := sim_ex W (by omega) q R8 w2 s hwf2.fine (wfE_mono (by omega) hs.1) (by omega) hM
  have hr := exC_mem q (w := w2) hwf2.fine
  have hF1 := hwf2.fine1 hr
  have hM1 := hM.to t1 hwf2.wl
  rw [doC, if_pos hq] at hg ⊢
  rw [seD, if_pos hq, U.rd, if_pos hq]
  dsimp only [hd, List.headD, List.tail] at hg ⊢
  have hcd : cD (.ifs p0 q y n) = cE q + cD.cDs y + cD.cDs n + 11 := rfl
  rw [hcd]
  have hlen := exC_len q R8 w2
  have hst := exC_straight q R8 w2
  have q1 := t1.pc
  have r8 := (show ∀ x ∈ R8, x < 8 by decide) _ hr
  have an := hwf.wl a (by simp)
  have bn := hwf.wl b (by simp)
  have nd := hwf.wn
  simp only [List.nodup_cons, List.mem_cons, not_or] at nd
  have kx : ∀ x, k = some x → x < 256 := by
    rintro x rfl
    exact hO.2.1
  have kk : arnd s1.M k = arnd s.M k := by
    cases k with
    | none => rfl
    | some x =>
      obtain ⟨_, _, o3, _⟩ := hO
      simp only [List.mem_cons, not_or] at o3
      exact t1.M x o3.2.2
  have hon : on = decide (¬ arnd s.M k = 0) := by
    cases k with
    | none => exact hO
    | some x => exact hO.2.2.2
  generalize exC R8 w2 q = X at *
  have rn : X.2 ∉ R8.erase X.2 := fun e => ((show R8.Nodup by decide).mem_erase_iff.1 e).1 rfl
  have gl : (R8.erase X.2).length = 7 := by rw [List.length_erase_of_mem hr]; rfl
  obtain ⟨R2, x2⟩ := co_sim (g := R8.erase X.2) (r := X.2) (a := a) (b := b) (k := k) (s := s1) r8 hF1.g8 hF1.gn (by omega) rn an.2 bn.2 kx v1
  rw [kk] at x2
  have cl := coC_len (R8.erase X.2) X.2 a b k
  have cs := coC_straight (R8.erase X.2) X.2 a b k
  have g1 := go_ex hst hg.left x1
  have hg2 := hg.right
  have g2 := go_ex (C := C) cs (by rw [q1]; exact hg2.left) x2
  have hg3 := hg2.right
  generalize coC (R8.erase X.2) X.2 a b k = c2 at *
  rw [q1] at x2 g2
  obtain ⟨s2, hs2⟩ : ∃ s2 : Ma, s2 = ⟨s.pc + X.1.length + c2.length, R2, upd (upd s1.M a (if V.ev W q = 0 then 0 else arnd s.M k)) b (if V.ev W q = 0 then arnd s.M k else 0), s1.seen ++ coS (s.pc + X.1.length) a b k⟩ := ⟨_, rfl⟩
  rw [← hs2] at g2
  have M2 : ∀ x, ¬ x = a → ¬ x = b → s2.M x = s1.M x := fun x h1 h2 => by rw [hs2]; show upd _ _ _ x = _; rw [upd_ne h2, upd_ne h1]
  have Ma2 : s2.M a = if V.ev W q = 0 then 0 else arnd s.M k := by rw [hs2]; show upd _ _ _ a = _; rw [upd_ne nd.1.1, upd_self]
  have Mb2 : s2.M b = if V.ev W q = 0 then arnd s.M k else 0 := by rw [hs2]; exact upd_self _ _ _
  have hM2 : MemIs s2.M W := fun j hj => (M2 j (by omega) (by omega)).trans (hM1 j hj)
  have Oa : On s2.M w2 W.length (on && decide (¬ V.ev W q = 0)) (some a) := by
    refine ⟨an.1, an.2, nd.1.2, ?_⟩
    rw [Ma2, hon]
    by_cases c : V.ev W q = 0 <;> simp [c]
  obtain ⟨n3, s3, b1, b2, b3, b4, b5, b6⟩ := hy C (s.pc + X.1.length + c2.length) w2 (some a) (on && decide (¬ V.ev W q = 0)) W s2 hW (by rw [hs2]) hg3.left hwf2 (by omega) hM2 Oa
  have hl1 := rds_len (on && decide (¬ V.ev W q = 0)) y W
  have Ob : On s3.M w2 W.length (on && decide (V.ev W q = 0)) (some b) := by
    refine ⟨bn.1, bn.2, nd.2.1, ?_⟩
    rw [b5 b bn.1 nd.2.1, Mb2, hon]
    by_cases c : V.ev W q = 0 <;> simp [c]
  have s2pc : s2.pc = s.pc + X.1.length + c2.length := by rw [hs2]
  obtain ⟨n4, s4, d1, d2, d3, d4, d5, d6⟩ := hnn C _ w2 (some b) (on && decide (V.ev W q = 0)) (U.rds (on && decide (¬ V.ev W q = 0)) y W) s3 (by rw [hl1]; exact hW) (by rw [b3, s2pc]) hg3.right (by rw [hl1]; exact hwf2) (by omega) b4 (by rw [hl1]; exact Ob)
  refine ⟨X.1.length + (c2.length + (n3 + n4)), s4, go_add _ _ _ _ _ _ g1 (go_add _ _ _ _ _ _ g2 (go_add _ _ _ _ _ _ b1 d1)), by omega, ?_, d4, ?_, ?_⟩
  · rw [d3, b3, s2pc]; simp only [List.length_append]; omega
  · intro x hx hxw
    simp only [List.mem_cons, not_or] at hxw
    rw [d5 x (by rw [hl1]; exact hx) hxw.2.2, b5 x hx hxw.2.2, M2 x hxw.1 hxw.2.1]
    exact t1.M x hxw.2.2
  · rw [d6, b6, hs2]
    dsimp only
    rw [t1.seen]
    simp only [List.append_assoc]
end Y
end Go.Proofs.YtejbgcloblpbfaaGreatDoor
