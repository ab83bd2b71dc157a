import Derived.Test.YtejbgcloblpbfaaGreatDoorB32
namespace Go.Proofs.YtejbgcloblpbfaaGreatDoor
open Go.RowKit
open K (Nm Ex Do)
namespace Y
theorem getD_set_ne {W : List Int} {a j : Nat} {v : Int} (h : ¬ a = j) : (W.set a v).getD j 0 = W.getD j 0 := by
  rw [List.getD_eq_getElem?_getD, List.getD_eq_getElem?_getD, List.getElem?_set_ne h]
theorem getD_set_self {W : List Int} {a : Nat} {v : Int} (h : a < W.length) : (W.set a v).getD a 0 = v := by
  rw [List.getD_eq_getElem?_getD, List.getElem?_set_self h]; rfl
theorem loop_keep {f : List Int → List Int} {k j : Nat} (hj : ¬ k = j) (hf : ∀ W, (f W).getD j 0 = W.getD j 0) : ∀ (m i : Nat) (W : List Int), (U.loop f k m i W).getD j 0 = W.getD j 0
  | 0, _, _ => rfl
  | m + 1, i, W => by rw [U.loop, loop_keep hj hf m, getD_set_ne hj, hf]
mutual
theorem rd_keep {N : Nat} (on : Bool) {j : Nat} (hj : N ≤ j) : ∀ (d : Do) {dep : Nat}, Sc N dep d → j < N + dep → ∀ W : List Int, (U.rd on d W).getD j 0 = W.getD j 0
  | .set _ n e, dep, h, hd, W => by
    unfold Sc at h
    rw [U.rd]
    split
    · exact getD_set_ne (by omega)
    · rfl
  | .put _ n i e, dep, h, hd, W => by
    unfold Sc at h
    have := md_range (V.ev W i) h.2.1 h.2.2.1
    rw [U.rd]
    split
    · exact getD_set_ne (by omega)
    · rfl
  | .ifs _ q y n, dep, h, hd, W => by
    unfold Sc at h
    rw [U.rd]
    split
    · rw [rds_keep _ hj n h.2.2 hd, rds_keep _ hj y h.2.1 hd]
    · split
      · exact rds_keep _ hj n h.2.2 hd W
      · exact rds_keep _ hj y h.2.1 hd W
  | .fors _ n r l, dep, h, hd, W => by
    unfold Sc at h
    rw [U.rd]
    have hk : ¬ n.place.toNat = j := by omega
    rw [loop_keep hk (fun W => rds_keep on hj l h.2.2.2 (by omega) W), getD_set_ne hk]
  | .none, dep, h, hd, W => by unfold Sc at h; exact h.elim
theorem rds_keep {N : Nat} (on : Bool) {j : Nat} (hj : N ≤ j) : ∀ (l : List Do) {dep : Nat}, ScL N dep l → j < N + dep → ∀ W : List Int, (U.rds on l W).getD j 0 = W.getD j 0
  | [], dep, h, hd, W => by rw [U.rds]
  | d :: l, dep, h, hd, W => by
    unfold ScL at h
    rw [U.rds, rds_keep on hj l h.2 hd, rd_keep on hj d h.1 hd]
end
theorem ro_sim {g : List Nat} {r c : Nat} {v : Int} {s : Ma} (hr : r < 8) (h8 : ∀ x ∈ g, x < 8) (hn : g.Nodup) (hl : 4 ≤ g.length) (rn : r ∉ g) (hc : c < 256) (hv : s.R r = v) :
    ∃ R', ex (roC g r c) s = some ⟨s.pc + 5, R', upd s.M c (if v < 5 then v else 5), s.seen ++ roS s.pc c⟩ := by
  obtain ⟨m, f, t, u, l, rfl⟩ := four hl
  have bm := h8 m (by simp)
  have bf := h8 f (by simp)
  have bt := h8 t (by simp)
  simp only [List.nodup_cons, List.mem_cons, not_or] at hn
  simp only [List.mem_cons, not_or] at rn
  obtain ⟨⟨nmf, nmt, _⟩, ⟨nft, _⟩, _⟩ := hn
  have c0 : (0 : Int) ≤ ((c : Nat) : Int) := by omega
  have c2 : ((c : Nat) : Int) < 256 := by omega
  have nrm := rn.1
  have nrf := rn.2.1
  have nrt := rn.2.2.1
  refine ⟨upd (upd (upd (upd s.R m 5) f (if v < 5 then 1 else 0)) r (if v < 5 then v else 5)) t (c : Nat), ?_⟩
  by_cases e : v < 5
  · simp [roC, hd, ex, step, hr, bm, bf, bt, upd_self, upd_ne nrm, upd_ne nrf, upd_ne nrt, V.opf, c0, c2, hv, e, roS]
    omega
  · simp [roC, hd, ex, step, hr, bm, bf, bt, upd_self, upd_ne nmf, upd_ne nrm, upd_ne nrt, V.opf, c0, c2, hv, e, roS]
    omega
theorem z_sim {cp : Int} {s : Ma} (h0 : 0 ≤ cp) (h1 : cp < 256) : ex [.kst 0 0, .kst 1 cp, .st 1 0] s = some ⟨s.pc + 3, upd (upd s.R 0 0) 1 cp, upd s.M cp.toNat 0, s.seen ++ [(s.pc : Int), ((s.pc + 1 : Nat) : Int), ((s.pc + 2 : Nat) : Int), cp]⟩ := by
  simp [ex, step, upd, h0, h1]
  omega
theorem h_sim {cp : Int} {c : Nat} {s : Ma} (h0 : 0 ≤ cp) (h1 : cp < 256) (hc : c < 256) : ∃ R', ex [.kst 0 cp, .ld 0 0, .kst 1 (c : Nat), .ld 1 1, .bin 60 0 0 1] s = some ⟨s.pc + 5, R', s.M, s.seen ++ [(s.pc : Int), ((s.pc + 1 : Nat) : Int), cp, ((s.pc + 2 : Nat) : Int), ((s.pc + 3 : Nat) : Int), (c : Nat), ((s.pc + 4 : Nat) : Int)]⟩ ∧ R' 0 = if s.M cp.toNat < s.M c then 1 else 0 := by
  have c0 : (0 : Int) ≤ ((c : Nat) : Int) := by omega
  have c2 : ((c : Nat) : Int) < 256 := by omega
  refine ⟨upd (upd (upd (upd (upd s.R 0 cp) 0 (s.M cp.toNat)) 1 (c : Nat)) 1 (s.M c)) 0 (if s.M cp.toNat < s.M c then 1 else 0), ?_, upd_self _ _ _⟩
  simp [ex, step, upd, h0, h1, c0, c2, V.opf]
  omega
theorem o_sim {cp : Int} {d : Nat} {i : Nat} {s : Ma} (h0 : 0 ≤ cp) (h1 : cp < 256) (hi : s.M cp.toNat = (i : Nat)) (hi' : i < 10) : ∃ R', ex [.kst 0 cp, .ld 0 0, .kst 1 1, .bin 43 0 0 1, .kst 2 cp, .st 2 0, .jmp d] s = some ⟨d, R', upd s.M cp.toNat ((i + 1 : Nat) : Int), s.seen ++ onS s.pc cp⟩ := by
  have e : wrap64 ((i : Int) + 1) = (i : Int) + 1 := by unfold wrap64; omega
  refine ⟨upd (upd (upd (upd (upd s.R 0 cp) 0 (s.M cp.toNat)) 1 1) 0 ((i + 1 : Nat) : Int)) 2 cp, ?_⟩
  simp [ex, step, upd, h0, h1, V.opf, hi, e, onS]
  omega
theorem go_snoc {C : List Ins} {l : List Ins} {s s1 s' : Ma} {i : Ins} (h : l.all straight = true) (g : Seg C s.pc (l ++ [i])) (e : ex l s = some s1) (p : s1.pc = s.pc + l.length) (hs : step i s1 = some s') : go C (l.length + 1) s = some s' :=
  go_add _ _ _ _ _ _ (go_ex h g.left e) (go_one (by rw [p]; exact g.right.head) hs)
theorem loop_sim {N dep : Nat} (hN : N ≤ 54) (hdep : dep < 2) {l : List Do} (hl : SimL N l) (hs : ScL N (dep + 1) l) {C : List Ins} {p1 c : Nat} {w : List Nat} {k : Option Nat} {on : Bool} {rr : Int} {T : Nat} (hT : T ≤ 5) (hrr : ∀ j : Nat, ((j : Int) < rr ↔ j < T))
    (hwf : WF w (N + 2)) (hc : N + 2 ≤ c) (hc2 : c < 256) (hcw : c ∉ w) (hn : needD.needL l ≤ w.length) (cp : Int) (hcp : cp = (N + dep : Nat))
    (hg : Seg C p1 (hdC cp c (p1 + 6 + (dosC (p1 + 6) w k l).length + 7) ++ (dosC (p1 + 6) w k l ++ onC cp p1))) :
    ∀ (m i : Nat) (W : List Int) (s : Ma), i + m = T → W.length = N + 2 → s.pc = p1 → MemIs s.M W → W.getD cp.toNat 0 = (i : Nat) → s.M c = rr → On s.M w (N + 2) on k →
      ∃ n s', go C n s = some s' ∧ n ≤ m * (cD.cDs l + 13) + 6 ∧ s'.pc = p1 + 6 + (dosC (p1 + 6) w k l).length + 7 ∧ MemIs s'.M (U.loop (fun W => U.rds on l W) cp.toNat m i W) ∧ (∀ x, N + 2 ≤ x → x ∉ w → s'.M x = s.M x) ∧ s'.seen = s.seen ++ loS (fun W => U.rds on l W) (fun W => seDs (p1 + 6) w k on l W) cp.toNat (hdS p1 cp c) (onS (p1 + 6 + (dosC (p1 + 6) w k l).length) cp) m i W := by
  have h0 : 0 ≤ cp := by omega
  have h1 : cp < 256 := by omega
  intro m
  induction m with
  | zero =>
    intro i W s him hW hp hM hWi hMc hO
    obtain ⟨R1, x1, v1⟩ := h_sim (cp := cp) (c := c) (s := s) h0 h1 hc2
    have hz : s.M cp.toNat = (i : Nat) := (hM _ (by omega)).trans hWi
    rw [hz, hMc, if_neg (by rw [hrr]; omega)] at v1
    have g1 := go_snoc (C := C) (i := .jz 0 (p1 + 6 + (dosC (p1 + 6) w k l).length + 7)) rfl (by rw [hp]; exact hg.left) x1 rfl (s' := ⟨p1 + 6 + (dosC (p1 + 6) w k l).length + 7, R1, s.M, s.seen ++ [(s.pc : Int), ((s.pc + 1 : Nat) : Int), cp, ((s.pc + 2 : Nat) : Int), ((s.pc + 3 : Nat) : Int), (c : Nat), ((s.pc + 4 : Nat) : Int)] ++ [((s.pc + 5 : Nat) : Int)]⟩) (by simp [step, v1])
    refine ⟨_, _, g1, by simp, rfl, hM, fun _ _ _ => rfl, ?_⟩
    dsimp only
    rw [hp, List.append_assoc]
    rfl
  | succ m ih =>
    intro i W s him hW hp hM hWi hMc hO
    obtain ⟨R1, x1, v1⟩ := h_sim (cp := cp) (c := c) (s := s) h0 h1 hc2
    have hz : s.M cp.toNat = (i : Nat) := (hM _ (by omega)).trans hWi
    rw [hz, hMc, if_pos (by rw [hrr]; omega)] at v1
    have g1 := go_snoc (C := C) (i := .jz 0 (p1 + 6 + (dosC (p1 + 6) w k l).length + 7)) rfl (by rw [hp]; exact hg.left) x1 rfl (s' := ⟨s.pc + 5 + 1, R1, s.M, s.seen ++ [(s.pc : Int), ((s.pc + 1 : Nat) : Int), cp, ((s.pc + 2 : Nat) : Int), ((s.pc + 3 : Nat) : Int), (c : Nat), ((s.pc + 4 : Nat) : Int)] ++ [((s.pc + 5 : Nat) : Int)]⟩) (by simp [step, v1])
    obtain ⟨n2, s2, b1, b2, b3, b4, b5, b6⟩ := hl C (p1 + 6) w k on W ⟨s.pc + 5 + 1, R1, s.M, s.seen ++ [(s.pc : Int), ((s.pc + 1 : Nat) : Int), cp, ((s.pc + 2 : Nat) : Int), ((s.pc + 3 : Nat) : Int), (c : Nat), ((s.pc + 4 : Nat) : Int)] ++ [((s.pc + 5 : Nat) : Int)]⟩ hW (by rw [hp]) hg.right.left (by rw [hW]; exact hwf) hn hM (by rw [hW]; exact hO)
    rw [hW] at b5
    have hlen := rds_len on l W
    have hz2 : s2.M cp.toNat = (i : Nat) := by
      rw [b4 _ (by omega), rds_keep on (N := N) (by omega) l hs (by omega)]
      exact hWi
    have p2 : s2.pc = p1 + 6 + (dosC (p1 + 6) w k l).length := by rw [b3, hp]
    obtain ⟨R3, x3⟩ := o_sim (cp := cp) (d := p1) (i := i) (s := s2) h0 h1 hz2 (by omega)
    have g3 : go C 7 s2 = some ⟨p1, R3, upd s2.M cp.toNat ((i + 1 : Nat) : Int), s2.seen ++ onS s2.pc cp⟩ := by
      have hg3 : Seg C s2.pc (onC cp p1) := by rw [p2]; exact hg.right.right
      have e6 : ∃ s6, ex [.kst 0 cp, .ld 0 0, .kst 1 1, .bin 43 0 0 1, .kst 2 cp, .st 2 0] s2 = some s6 ∧ step (.jmp p1) s6 = some ⟨p1, R3, upd s2.M cp.toNat ((i + 1 : Nat) : Int), s2.seen ++ onS s2.pc cp⟩ := by
        have : ∀ (a b : List Ins) (s s' : Ma), ex (a ++ b) s = some s' → ∃ s1, ex a s = some s1 ∧ ex b s1 = some s' := by
          intro a
          induction a with
          | nil => intro b s s' h; exact ⟨s, rfl, h⟩
          | cons z a iha =>
            intro b s s' h
            rw [List.cons_append] at h
            rw [ex] at h ⊢
            split at h
            · cases h
            · exact iha _ _ _ h
        obtain ⟨s6, q1, q2⟩ := this [.kst 0 cp, .ld 0 0, .kst 1 1, .bin 43 0 0 1, .kst 2 cp, .st 2 0] [.jmp p1] s2 _ x3
        exact ⟨s6, q1, q2⟩
      obtain ⟨s6, q1, q2⟩ := e6
      have q3 := go_ex (C := C) (l := [.kst 0 cp, .ld 0 0, .kst 1 1, .bin 43 0 0 1, .kst 2 cp, .st 2 0]) rfl (Seg.left (b := [.jmp p1]) hg3) q1
      have q4 : s6.pc = s2.pc + 6 := by
        have : ∀ (a : List Ins) (s s' : Ma), a.all straight = true → ex a s = some s' → s'.pc = s.pc + a.length := by
          intro a
          induction a with
          | nil => intro s s' _ h; cases h; rfl
          | cons z a iha =>
            intro s s' hst h
            rw [List.all_cons, Bool.and_eq_true] at hst
            unfold ex at h
            split at h
            · cases h
            · rename_i s1 h1
              rw [iha _ _ hst.2 h, step_pc hst.1 h1, List.length_cons]; omega
        exact this _ _ _ rfl q1
      exact go_add _ 6 1 _ _ _ q3 (go_one (by rw [q4]; exact (Seg.right (a := [.kst 0 cp, .ld 0 0, .kst 1 1, .bin 43 0 0 1, .kst 2 cp, .st 2 0]) (b := [.jmp p1]) hg3).head) q2)
    obtain ⟨n4, s4, d1, d2, d3, d4, d5, d6⟩ := ih (i + 1) ((U.rds on l W).set cp.toNat ((i + 1 : Nat) : Int)) ⟨p1, R3, upd s2.M cp.toNat ((i + 1 : Nat) : Int), s2.seen ++ onS s2.pc cp⟩ (by omega) (by rw [List.length_set, hlen, hW]) rfl (b4.set _) (getD_set_self (by omega)) (by
        show upd _ _ _ c = rr
        rw [upd_ne (by omega), b5 c hc hcw]; exact hMc) (hO.to fun x h2 h3 => by
        show upd _ _ _ x = _
        rw [upd_ne (by omega), b5 x h2 h3])
    refine ⟨6 + (n2 + (7 + n4)), s4, go_add _ _ _ _ _ _ g1 (go_add _ _ _ _ _ _ b1 (go_add _ _ _ _ _ _ g3 d1)), ?_, d3, d4, ?_, ?_⟩
    · rw [Nat.succ_mul]; omega
    · intro x hx hxw
      rw [d5 x hx hxw]
      show upd _ _ _ x = _
      rw [upd_ne (by omega), b5 x hx hxw]
    · rw [d6]
      show s2.seen ++ onS s2.pc cp ++ _ = _
      rw [b6, p2, loS]
      simp only [List.append_assoc, hp]
      rfl
theorem times_lt (v : Int) (j : Nat) : ((j : Int) < (if v < 5 then v else 5) ↔ j < V.times v) := by
  unfold V.times
  split <;> split <;> (try split) <;> omega
theorem times_le (v : Int) : V.times v ≤ 5 := by
  unfold V.times
  split
  · omega
  · split <;> omega
theorem sim_for {N dep : Nat} (hN : N ≤ 54) (p0 : Int) (n : Nm) (r : Ex) (l : List Do) (hs : Sc N dep (.fors p0 n r l)) (hl : SimL N l) : SimD N (.fors p0 n r l) := by
  intro C p w k on W s hW hp hg hwf hn hM hO
  unfold Sc at hs
  obtain ⟨h1, h2, h3, h4⟩ := hs
  subst hp
  have hn' : max (need r) (needD.needL l) + 1 ≤ w.length := hn
  obtain ⟨c, w, rfl⟩ : ∃ c t, w = c :: t := by cases w with | nil => simp at hn' | cons c t => exact ⟨_, _, rfl⟩
  have hwf2 : WF w W.length := hwf.tail
  simp only [List.length_cons] at hn'
  obtain ⟨s1, x1, t1, v1⟩ := sim_ex W (by omega) r R8 w s hwf2.fine (wfE_mono (by omega) h3) (by omega) hM
  have hr := exC_mem r (w := w) hwf2.fine
  have hF1 := hwf2.fine1 hr
  have hM1 := hM.to t1 hwf2.wl
  rw [doC] at hg ⊢
  rw [seD, U.rd]
  dsimp only [hd, List.headD, List.tail] at hg ⊢
  have hcd : cD (.fors p0 n r l) = cE r + 14 + 5 * (cD.cDs l + 13) := rfl
  rw [hcd]
  have hlen := exC_len r R8 w
  have hst := exC_straight r R8 w
  have q1 := t1.pc
  have r8 := (show ∀ x ∈ R8, x < 8 by decide) _ hr
  have an := hwf.wl c (by simp)
  have nd := hwf.wn
  simp only [List.nodup_cons] at nd
  generalize exC R8 w r = X at *
  have rn : X.2 ∉ R8.erase X.2 := fun e => ((show R8.Nodup by decide).mem_erase_iff.1 e).1 rfl
  have gl : (R8.erase X.2).length = 7 := by rw [List.length_erase_of_mem hr]; rfl
  obtain ⟨R2, x2⟩ := ro_sim (g := R8.erase X.2) (r := X.2) (c := c) (s := s1) r8 hF1.g8 hF1.gn (by omega) rn an.2 v1
  have g1 := go_ex hst hg.left x1
  have g2 := go_ex (C := C) (l := roC (R8.erase X.2) X.2 c) rfl (by rw [q1]; exact hg.right.left) x2
  have h0 : 0 ≤ n.place := by omega
  have h5 : n.place < 256 := by omega
  have x3 := z_sim (cp := n.place) (s := ⟨s1.pc + 5, R2, upd s1.M c (if V.ev W r < 5 then V.ev W r else 5), s1.seen ++ roS s1.pc c⟩) h0 h5
  have g3 := go_ex (C := C) (l := [.kst 0 0, .kst 1 n.place, .st 1 0]) rfl (by show Seg C (s1.pc + 5) _; rw [q1]; exact hg.right.right.left) x3
  have hg4 := hg.right.right.right
  rw [show s.pc + X.1.length + (roC (R8.erase X.2) X.2 c).length + ([.kst 0 0, .kst 1 n.place, .st 1 0] : List Ins).length = s.pc + X.1.length + 8 from rfl] at hg4
  have hL := hW
  have hM2 : MemIs (upd s1.M c (if V.ev W r < 5 then V.ev W r else 5)) W := fun j hj => by rw [upd_ne (by omega)]; exact hM1 j hj
  rw [hL] at hwf2 an
  obtain ⟨n4, s4, d1, d2, d3, d4, d5, d6⟩ := loop_sim hN h2 hl h4 (c := c) (w := w) (k := k) (on := on) (times_le (V.ev W r)) (times_lt (V.ev W r)) hwf2 an.1 an.2 nd.1 (by omega) n.place h1 hg4 (V.times (V.ev W r)) 0 (W.set n.place.toNat 0) ⟨s1.pc + 5 + 3, upd (upd R2 0 0) 1 n.place, upd (upd s1.M c (if V.ev W r < 5 then V.ev W r else 5)) n.place.toNat 0, s1.seen ++ roS s1.pc c ++ [((s1.pc + 5 : Nat) : Int), ((s1.pc + 5 + 1 : Nat) : Int), ((s1.pc + 5 + 2 : Nat) : Int), n.place]⟩ (by omega) (by rw [List.length_set, hW]) (by rw [q1]) (hM2.set 0) (getD_set_self (by omega)) (by
      show upd _ _ _ c = _
      rw [upd_ne (by omega), upd_self]) (by
      rw [hL] at hO
      cases k with
      | none => exact hO
      | some x =>
        obtain ⟨o1, o2, o3, o4⟩ := hO
        simp only [List.mem_cons, not_or] at o3
        refine ⟨o1, o2, o3.2, ?_⟩
        show on = decide (¬ upd _ _ _ x = 0)
        rw [upd_ne (by omega), upd_ne o3.1, t1.M x o3.2]
        exact o4)
  have el : (roC (R8.erase X.2) X.2 c).length = 5 := rfl
  refine ⟨X.1.length + (5 + (3 + n4)), s4, go_add _ _ _ _ _ _ g1 (go_add _ _ _ _ _ _ g2 (go_add _ _ _ _ _ _ g3 d1)), ?_, ?_, d4, ?_, ?_⟩
  · have := Nat.mul_le_mul_right (cD.cDs l + 13) (times_le (V.ev W r))
    omega
  · rw [d3]; simp only [List.length_append, el, hdC, onC, List.length_cons, List.length_nil]; omega
  · intro x hx hxw
    simp only [List.mem_cons, not_or] at hxw
    rw [d5 x (by omega) hxw.2]
    show upd _ _ _ x = _
    rw [upd_ne (by omega), upd_ne hxw.1]
    exact t1.M x hxw.2
  · rw [d6]
    dsimp only
    rw [t1.seen, q1]
    simp only [List.append_assoc]
mutual
theorem sim_do {N : Nat} (hN : N ≤ 54) : ∀ (d : Do) {dep : Nat}, dep ≤ 2 → Sc N dep d → SimD N d
  | .set p n e, dep, hd, h => sim_set hN hd p n e h
  | .put p n i e, dep, hd, h => sim_put hN hd p n i e h
  | .ifs p q y n, dep, hd, h => by
    have h' := h
    unfold Sc at h'
    by_cases c : K.sec q = true
    · exact sim_sec hN hd p q y n h c (sim_dos hN y hd h'.2.1) (sim_dos hN n hd h'.2.2)
    · exact sim_pub hN hd p q y n h c (sim_dos hN y hd h'.2.1) (sim_dos hN n hd h'.2.2)
  | .fors p n r l, dep, hd, h => by
    have h' := h
    unfold Sc at h'
    exact sim_for hN p n r l h (sim_dos hN l (by omega) h'.2.2.2)
  | .none, dep, hd, h => by unfold Sc at h; exact h.elim
theorem sim_dos {N : Nat} (hN : N ≤ 54) : ∀ (l : List Do) {dep : Nat}, dep ≤ 2 → ScL N dep l → SimL N l
  | [], _, _, _ => sim_nil
  | d :: l, dep, hd, h => by
    unfold ScL at h
    exact sim_cons (sim_do hN d hd h.1) (sim_dos hN l hd h.2)
end
end Y
end Go.Proofs.YtejbgcloblpbfaaGreatDoor
namespace Go.Proofs.YtejbgcloblpbfaaGreatDoor
open Go.RowKit
open K (Nm Ex Do)
namespace Y
def Ag (m : Nat) (A B : List Int) : Prop := A.length = B.length ∧ ∀ j, j < m → A.getD j 0 = B.getD j 0
theorem Ag.rfl' (m : Nat) (A : List Int) : Ag m A A := ⟨rfl, fun _ _ => rfl⟩
theorem Ag.trans {m : Nat} {A B C : List Int} (h : Ag m A B) (k : Ag m B C) : Ag m A C := ⟨h.1.trans k.1, fun j hj => (h.2 j hj).trans (k.2 j hj)⟩
theorem Ag.symm {m : Nat} {A B : List Int} (h : Ag m A B) : Ag m B A := ⟨h.1.symm, fun j hj => (h.2 j hj).symm⟩
theorem ev_ag {m : Nat} {A B : List Int} (h : Ag m A B) : ∀ {e : Ex}, V.wfE m e → V.ev A e = V.ev B e
  | .num _, _ => rfl
  | .use n, k => by
    unfold V.wfE at k
    exact h.2 _ (by omega)
  | .get _ n e, k => by
    unfold V.wfE at k
    have e1 := ev_ag h k.2.2.2.2
    have := md_range (V.ev B e) k.2.1 k.2.2.1
    show A.getD _ 0 = B.getD _ 0
    rw [e1]
    exact h.2 _ (by omega)
  | .op _ o l r, k => by
    unfold V.wfE at k
    show V.opf _ _ _ = V.opf _ _ _
    rw [ev_ag h k.2.1, ev_ag h k.2.2]
  | .cho _ q y n, k => by
    unfold V.wfE at k
    show (if _ then _ else _) = (if _ then _ else _)
    rw [ev_ag h k.1, ev_ag h k.2.1, ev_ag h k.2.2]
  | .none, k => by unfold V.wfE at k; exact k.elim
theorem Ag.set {m : Nat} {A B : List Int} (h : Ag m A B) (k : Nat) (v : Int) : Ag m (A.set k v) (B.set k v) := by
  refine ⟨by rw [List.length_set, List.length_set]; exact h.1, fun j hj => ?_⟩
  by_cases e : k = j
  · subst e
    by_cases c : k < A.length
    · rw [getD_set_self c, getD_set_self (by rw [← h.1]; exact c)]
    · rw [List.set_eq_of_length_le (by omega), List.set_eq_of_length_le (by rw [← h.1]; omega)]
      exact h.2 k hj
  · rw [getD_set_ne e, getD_set_ne e]; exact h.2 j hj
mutual
theorem rd_off {N : Nat} {j : Nat} (hj : j < N) : ∀ (d : Do) {dep : Nat}, Sc N dep d → ∀ W : List Int, (U.rd false d W).getD j 0 = W.getD j 0
  | .set _ n e, dep, h, W => by rw [U.rd]; rfl
  | .put _ n i e, dep, h, W => by rw [U.rd]; rfl
  | .ifs _ q y n, dep, h, W => by
    unfold Sc at h
    rw [U.rd]
    split
    · rw [Bool.false_and, Bool.false_and, rds_off hj n h.2.2, rds_off hj y h.2.1]
    · split
      · exact rds_off hj n h.2.2 W
      · exact rds_off hj y h.2.1 W
  | .fors _ n r l, dep, h, W => by
    unfold Sc at h
    rw [U.rd]
    have hk : ¬ n.place.toNat = j := by omega
    rw [loop_keep hk (fun W => rds_off hj l h.2.2.2 W), getD_set_ne hk]
  | .none, dep, h, W => by unfold Sc at h; exact h.elim
theorem rds_off {N : Nat} {j : Nat} (hj : j < N) : ∀ (l : List Do) {dep : Nat}, ScL N dep l → ∀ W : List Int, (U.rds false l W).getD j 0 = W.getD j 0
  | [], dep, h, W => by rw [U.rds]
  | d :: l, dep, h, W => by
    unfold ScL at h
    rw [U.rds, rds_off hj l h.2, rd_off hj d h.1]
end
theorem off_ag {N dep : Nat} {l : List Do} (h : ScL N dep l) (W : List Int) : Ag (N + dep) (U.rds false l W) W := by
  refine ⟨rds_len _ _ _, fun j hj => ?_⟩
  by_cases c : j < N
  · exact rds_off c l h W
  · exact rds_keep false (by omega) l h hj W
theorem loop_ag {N dep : Nat} {f g : List Int → List Int} {k : Nat} (hk : k = N + dep) (hfl : ∀ W, (f W).length = W.length) (hf : ∀ A B, A.length = N + 2 → Ag (N + (dep + 1)) A B → Ag (N + (dep + 1)) (f A) (g B)) (hd : dep < 2) :
    ∀ (m i : Nat) (A B : List Int), A.length = N + 2 → Ag (N + dep) A B → A.getD k 0 = (i : Nat) → Ag (N + dep) (U.loop f k m i A) (V.rounds g k i m B)
  | 0, _, _, _, _, h, _ => h
  | m + 1, i, A, B, hA, h, hi => by
    rw [U.loop, V.rounds]
    have h1 : Ag (N + (dep + 1)) A (B.set k (i : Int)) := by
      refine ⟨by rw [List.length_set]; exact h.1, fun j hj => ?_⟩
      by_cases e : j < N + dep
      · rw [getD_set_ne (by omega)]; exact h.2 j e
      · obtain rfl : j = k := by omega
        rw [getD_set_self (by rw [← h.1]; omega)]; exact hi
    have h2 := hf _ _ hA h1
    refine loop_ag hk hfl hf hd m (i + 1) _ _ (by rw [List.length_set, hfl, hA]) ?_ (getD_set_self (by rw [hfl]; omega))
    refine ⟨by rw [List.length_set]; exact h2.1, fun j hj => ?_⟩
    rw [getD_set_ne (by omega)]
    exact h2.2 j (by omega)
mutual
theorem rd_ag {N : Nat} : ∀ (d : Do) {dep : Nat}, Sc N dep d → ∀ A B : List Int, A.length = N + 2 → Ag (N + dep) A B → Ag (N + dep) (U.rd true d A) (V.rd d B)
  | .set _ n e, dep, h, A, B, hA, ha => by
    unfold Sc at h
    rw [U.rd, V.rd, if_pos rfl, ev_ag ha h.2.2]
    exact ha.set _ _
  | .put _ n i e, dep, h, A, B, hA, ha => by
    unfold Sc at h
    rw [U.rd, V.rd, if_pos rfl, ev_ag ha h.2.2.2.2.1, ev_ag ha h.2.2.2.2.2]
    exact ha.set _ _
  | .ifs _ q y n, dep, h, A, B, hA, ha => by
    unfold Sc at h
    rw [U.rd, V.rd, ← ev_ag ha h.1]
    by_cases c : V.ev A q = 0
    · simp only [c, if_true, decide_true, not_true_eq_false, decide_false, Bool.and_false, Bool.and_true]
      split
      · exact rds_ag n h.2.2 _ B (by rw [rds_len]; exact hA) ((off_ag h.2.1 A).trans ha)
      · exact rds_ag n h.2.2 _ B hA ha
    · simp only [c, if_false, decide_false, not_false_eq_true, decide_true, Bool.and_false, Bool.and_true]
      split
      · exact (off_ag h.2.2 _).trans (rds_ag y h.2.1 _ B hA ha)
      · exact rds_ag y h.2.1 _ B hA ha
  | .fors _ n r l, dep, h, A, B, hA, ha => by
    unfold Sc at h
    rw [U.rd, V.rd, ← ev_ag ha h.2.2.1]
    refine loop_ag (by omega) (fun W => rds_len true l W) (fun A B => rds_ag l h.2.2.2 A B) h.2.1 _ 0 _ _ (by rw [List.length_set]; exact hA) ?_ (getD_set_self (by omega))
    refine ⟨by rw [List.length_set]; exact ha.1, fun j hj => ?_⟩
    rw [getD_set_ne (by omega)]
    exact ha.2 j hj
  | .none, dep, h, A, B, hA, ha => by unfold Sc at h; exact h.elim
theorem rds_ag {N : Nat} : ∀ (l : List Do) {dep : Nat}, ScL N dep l → ∀ A B : List Int, A.length = N + 2 → Ag (N + dep) A B → Ag (N + dep) (U.rds true l A) (V.rds l B)
  | [], dep, h, A, B, hA, ha => by rw [U.rds, V.rds]; exact ha
  | d :: l, dep, h, A, B, hA, ha => by
    unfold ScL at h
    rw [U.rds, V.rds]
    exact rds_ag l h.2 _ _ (by rw [rd_len]; exact hA) (rd_ag d h.1 A B hA ha)
end
theorem pr_sim {N : Nat} (hN : N ≤ 54) {l : List Do} (hs : ScL N 0 l) (hn : needD.needL l ≤ 254 - N) (ms : List Int) (hm : ms.length = N) :
    ∃ n s', go (prC N l) n ⟨0, fun _ => 0, fun j => (ms ++ [0, 0]).getD j 0, []⟩ = some s' ∧ n ≤ cD.cDs l ∧ (prC N l)[s'.pc]? = some .halt ∧ (∀ j, j < N → s'.M j = (V.rds l (ms ++ [0, 0])).getD j 0) ∧ s'.seen = seDs 0 ((List.range 256).drop (N + 2)) none true l (ms ++ [0, 0]) := by
  have hL : (ms ++ [0, 0]).length = N + 2 := by simp [hm]
  obtain ⟨n, s', h1, h2, h3, h4, h5, h6⟩ := sim_dos hN l (dep := 0) (by omega) hs (prC N l) 0 ((List.range 256).drop (N + 2)) none true (ms ++ [0, 0]) ⟨0, fun _ => 0, fun j => (ms ++ [0, 0]).getD j 0, []⟩ hL rfl (Seg.left (b := [.halt]) (fun j x hx => by rw [Nat.zero_add]; exact hx)) (by
      rw [hL]
      refine ⟨(List.nodup_range).sublist (List.drop_sublist _ _), fun x hx => ?_⟩
      obtain ⟨i, hi, rfl⟩ := List.mem_iff_getElem.1 hx
      rw [List.length_drop, List.length_range] at hi
      rw [List.getElem_drop, List.getElem_range]
      omega) (by rw [List.length_drop, List.length_range]; omega) (fun j _ => rfl) rfl
  refine ⟨n, s', h1, h2, ?_, fun j hj => ?_, by rw [h6]; rfl⟩
  · rw [h3]
    show (dosC _ _ _ _ ++ [.halt])[0 + (dosC 0 ((List.range 256).drop (N + 2)) none l).length]? = _
    rw [Nat.zero_add, List.getElem?_append_right (Nat.le_refl _), Nat.sub_self]
    rfl
  · rw [h4 j (by rw [rds_len, hL]; omega)]
    exact (rds_ag l hs _ _ hL (Ag.rfl' _ _)).2 j (by omega)
end Y
end Go.Proofs.YtejbgcloblpbfaaGreatDoor
namespace Go.Proofs.YtejbgcloblpbfaaGreatDoor
open Go.RowKit
open K (Nm Ex Do)
namespace Y
def PA (pub : Nat → Bool) (A B : List Int) : Prop := A.length = B.length ∧ ∀ j, pub j = true → A.getD j 0 = B.getD j 0
def pbE (pub : Nat → Bool) : Ex → Prop
  | .num _ => True
  | .use n => n.sec = false → pub n.place.toNat = true
  | .get _ n e => (n.sec = false → ∀ i : Int, 0 ≤ i → i < n.size → pub (n.place + i).toNat = true) ∧ pbE pub e
  | .op _ _ l r => pbE pub l ∧ pbE pub r
  | .cho _ q y n => pbE pub q ∧ pbE pub y ∧ pbE pub n
  | .none => True
def okE : Ex → Prop
  | .num _ => True
  | .use _ => True
  | .get _ _ e => K.sec e = false ∧ okE e
  | .op _ o l r => (o = 47 → K.sec l = false ∧ K.sec r = false) ∧ okE l ∧ okE r
  | .cho _ q y n => okE q ∧ okE y ∧ okE n
  | .none => True
theorem ev_pub {pub : Nat → Bool} {N : Nat} {A B : List Int} (h : PA pub A B) : ∀ {e : Ex}, V.wfE N e → pbE pub e → K.sec e = false → V.ev A e = V.ev B e
  | .num _, _, _, _ => rfl
  | .use n, w, p, s => h.2 _ (p s)
  | .get _ n e, w, p, s => by
    unfold V.wfE at w
    simp only [K.sec, Bool.or_eq_false_iff] at s
    have e1 := ev_pub h w.2.2.2.2 p.2 s.2
    have := md_range (V.ev B e) w.2.1 w.2.2.1
    show A.getD _ 0 = B.getD _ 0
    rw [e1]
    exact h.2 _ (p.1 s.1 _ this.1 this.2)
  | .op _ o l r, w, p, s => by
    unfold V.wfE at w
    simp only [K.sec, Bool.or_eq_false_iff] at s
    show V.opf _ _ _ = V.opf _ _ _
    rw [ev_pub h w.2.1 p.1 s.1, ev_pub h w.2.2 p.2 s.2]
  | .cho _ q y n, w, p, s => by
    unfold V.wfE at w
    simp only [K.sec, Bool.or_eq_false_iff] at s
    show (if _ then _ else _) = (if _ then _ else _)
    rw [ev_pub h w.1 p.1 s.1.1, ev_pub h w.2.1 p.2.1 s.1.2, ev_pub h w.2.2 p.2.2 s.2]
  | .none, w, _, _ => by unfold V.wfE at w; exact w.elim
theorem se_pub {pub : Nat → Bool} {N : Nat} {A B : List Int} (h : PA pub A B) : ∀ {e : Ex}, V.wfE N e → pbE pub e → okE e → ∀ (p : Nat) (g w : List Nat), seE A p g w e = seE B p g w e
  | .num _, _, _, _, _, _, _ => rfl
  | .use n, _, _, _, _, _, _ => rfl
  | .get _ n e, wf, p, o, q, g, w => by
    unfold V.wfE at wf
    simp only [seE]
    rw [se_pub h wf.2.2.2.2 p.2 o.2, ev_pub h wf.2.2.2.2 p.2 o.1]
  | .op _ c l r, wf, p, o, q, g, w => by
    unfold V.wfE at wf
    simp only [seE]
    rw [se_pub h wf.2.1 p.1 o.2.1, se_pub h wf.2.2 p.2 o.2.2]
    by_cases e : c = 47
    · rw [ev_pub h wf.2.1 p.1 (o.1 e).1, ev_pub h wf.2.2 p.2 (o.1 e).2]
    · rw [if_neg e, if_neg e]
  | .cho _ q y n, wf, p, o, _, g, w => by
    unfold V.wfE at wf
    simp only [seE]
    rw [se_pub h wf.1 p.1 o.1, se_pub h wf.2.1 p.2.1 o.2.1, se_pub h wf.2.2 p.2.2 o.2.2]
  | .none, _, _, _, _, _, _ => rfl
mutual
def pbD (pub : Nat → Bool) : Do → Prop
  | .set _ n e => (n.sec = true → pub n.place.toNat = false) ∧ pbE pub e
  | .put _ n i e => (n.sec = true → ∀ i : Int, 0 ≤ i → i < n.size → pub (n.place + i).toNat = false) ∧ pbE pub i ∧ pbE pub e
  | .ifs _ q y n => pbE pub q ∧ pbL pub y ∧ pbL pub n
  | .fors _ _ r l => pbE pub r ∧ pbL pub l
  | .none => True
def pbL (pub : Nat → Bool) : List Do → Prop
  | [] => True
  | d :: l => pbD pub d ∧ pbL pub l
end
mutual
def okD : Bool → Do → Prop
  | hid, .set _ n e => okE e ∧ (n.sec = true ∨ hid = false ∧ K.sec e = false)
  | hid, .put _ n i e => okE i ∧ okE e ∧ K.sec i = false ∧ (n.sec = true ∨ hid = false ∧ K.sec e = false)
  | hid, .ifs _ q y n => okE q ∧ okL (hid || K.sec q) y ∧ okL (hid || K.sec q) n
  | hid, .fors _ _ r l => K.sec r = false ∧ okE r ∧ okL hid l
  | _, .none => True
def okL : Bool → List Do → Prop
  | _, [] => True
  | hid, d :: l => okD hid d ∧ okL hid l
end
theorem PA.set {pub : Nat → Bool} {A B : List Int} (h : PA pub A B) (k : Nat) (v : Int) : PA pub (A.set k v) (B.set k v) := by
  refine ⟨by rw [List.length_set, List.length_set]; exact h.1, fun j hj => ?_⟩
  by_cases e : k = j
  · subst e
    by_cases c : k < A.length
    · rw [getD_set_self c, getD_set_self (by rw [← h.1]; exact c)]
    · rw [List.set_eq_of_length_le (by omega), List.set_eq_of_length_le (by rw [← h.1]; omega)]
      exact h.2 k hj
  · rw [getD_set_ne e, getD_set_ne e]; exact h.2 j hj
theorem PA.sec {pub : Nat → Bool} {A B : List Int} (h : PA pub A B) {k : Nat} (hk : pub k = false) (on on' : Bool) (u v : Int) : PA pub (if on = true then A.set k u else A) (if on' = true then B.set k v else B) := by
  have hn : ∀ j, pub j = true → ¬ k = j := fun j hj e => by rw [e, hj] at hk; cases hk
  refine ⟨?_, fun j hj => ?_⟩
  · split <;> split <;> simp [h.1]
  · split <;> split <;> (try rw [getD_set_ne (hn j hj)]) <;> (try rw [getD_set_ne (hn j hj)]) <;> exact h.2 j hj
theorem loop_pub {pub : Nat → Bool} {f f' S S' : List Int → List Int} {k : Nat} {a b : List Int} (hf : ∀ A B, PA pub A B → S A = S' B ∧ PA pub (f A) (f' B)) : ∀ (m i : Nat) (A B : List Int), PA pub A B → loS f S k a b m i A = loS f' S' k a b m i B ∧ PA pub (U.loop f k m i A) (U.loop f' k m i B)
  | 0, _, _, _, h => ⟨rfl, h⟩
  | m + 1, i, A, B, h => by
    obtain ⟨h1, h2⟩ := hf A B h
    obtain ⟨h3, h4⟩ := loop_pub hf (a := a) (b := b) m (i + 1) _ _ (h2.set k ((i + 1 : Nat) : Int))
    rw [loS, loS, U.loop, U.loop, h1, h3]
    exact ⟨rfl, h4⟩
mutual
theorem d_pub {pub : Nat → Bool} {N : Nat} : ∀ (d : Do) {dep : Nat} (hid : Bool), Sc N dep d → pbD pub d → okD hid d → ∀ (on on' : Bool), (hid = false → on = true ∧ on' = true) → ∀ A B : List Int, PA pub A B → ∀ (p : Nat) (w : List Nat) (k : Option Nat),
    seD p w k on d A = seD p w k on' d B ∧ PA pub (U.rd on d A) (U.rd on' d B)
  | .set _ n e, dep, hid, h, pb, ok, on, on', ho, A, B, ha, p, w, k => by
    unfold Sc at h
    unfold pbD at pb
    unfold okD at ok
    rw [seD, seD, U.rd, U.rd, se_pub ha h.2.2 pb.2 ok.1]
    refine ⟨rfl, ?_⟩
    rcases ok.2 with s | ⟨s1, s2⟩
    · exact ha.sec (pb.1 s) _ _ _ _
    · obtain ⟨rfl, rfl⟩ := ho s1
      rw [if_pos rfl, if_pos rfl, ev_pub ha h.2.2 pb.2 s2]
      exact ha.set _ _
  | .put _ n i e, dep, hid, h, pb, ok, on, on', ho, A, B, ha, p, w, k => by
    unfold Sc at h
    unfold pbD at pb
    unfold okD at ok
    obtain ⟨_, h1, h6, _, hi, he⟩ := h
    have ei := ev_pub ha hi pb.2.1 ok.2.2.1
    rw [seD, seD, U.rd, U.rd]
    rw [se_pub ha hi pb.2.1 ok.1, se_pub ha he pb.2.2 ok.2.1, ei]
    refine ⟨rfl, ?_⟩
    have := md_range (V.ev B i) h1 h6
    rcases ok.2.2.2 with s | ⟨s1, s2⟩
    · exact ha.sec (pb.1 s _ this.1 this.2) _ _ _ _
    · obtain ⟨rfl, rfl⟩ := ho s1
      rw [if_pos rfl, if_pos rfl, ev_pub ha he pb.2.2 s2]
      exact ha.set _ _
  | .ifs _ q y n, dep, hid, h, pb, ok, on, on', ho, A, B, ha, p, w, k => by
    unfold Sc at h
    unfold pbD at pb
    unfold okD at ok
    rw [seD, seD, U.rd, U.rd]
    by_cases c : K.sec q = true
    · simp only [if_pos c]
      rw [c, Bool.or_true] at ok
      obtain ⟨a1, a2⟩ := l_pub y true h.2.1 pb.2.1 ok.2.1 (on && decide (¬ V.ev A q = 0)) (on' && decide (¬ V.ev B q = 0)) (fun x => by cases x) A B ha (p + (exC R8 w.tail.tail q).1.length + (coC (R8.erase (exC R8 w.tail.tail q).2) (exC R8 w.tail.tail q).2 (hd w) (hd w.tail) k).length) w.tail.tail (some (hd w))
      obtain ⟨b1, b2⟩ := l_pub n true h.2.2 pb.2.2 ok.2.2 (on && decide (V.ev A q = 0)) (on' && decide (V.ev B q = 0)) (fun x => by cases x) _ _ a2 (p + (exC R8 w.tail.tail q).1.length + (coC (R8.erase (exC R8 w.tail.tail q).2) (exC R8 w.tail.tail q).2 (hd w) (hd w.tail) k).length + (dosC (p + (exC R8 w.tail.tail q).1.length + (coC (R8.erase (exC R8 w.tail.tail q).2) (exC R8 w.tail.tail q).2 (hd w) (hd w.tail) k).length) w.tail.tail (some (hd w)) y).length) w.tail.tail (some (hd w.tail))
      rw [se_pub ha h.1 pb.1 ok.1, a1, b1]
      exact ⟨rfl, b2⟩
    · simp only [if_neg c]
      have cf : K.sec q = false := by simpa using c
      rw [cf, Bool.or_false] at ok
      have eq := ev_pub ha h.1 pb.1 cf
      rw [se_pub ha h.1 pb.1 ok.1, eq]
      by_cases z : V.ev B q = 0
      · simp only [if_pos z]
        obtain ⟨a1, a2⟩ := l_pub n hid h.2.2 pb.2.2 ok.2.2 on on' ho A B ha (p + (exC R8 w q).1.length + 1 + (dosC (p + (exC R8 w q).1.length + 1) w k y).length + 1) w k
        rw [a1]
        exact ⟨rfl, a2⟩
      · simp only [if_neg z]
        obtain ⟨a1, a2⟩ := l_pub y hid h.2.1 pb.2.1 ok.2.1 on on' ho A B ha (p + (exC R8 w q).1.length + 1) w k
        rw [a1]
        exact ⟨rfl, a2⟩
  | .fors _ n r l, dep, hid, h, pb, ok, on, on', ho, A, B, ha, p, w, k => by
    unfold Sc at h
    unfold pbD at pb
    unfold okD at ok
    rw [seD, seD, U.rd, U.rd]
    rw [se_pub ha h.2.2.1 pb.1 ok.2.1, ev_pub ha h.2.2.1 pb.1 ok.1]
    obtain ⟨a1, a2⟩ := loop_pub (f := fun W => U.rds on l W) (f' := fun W => U.rds on' l W) (S := fun W => seDs (p + (exC R8 w.tail r).1.length + 8 + 6) w.tail k on l W) (S' := fun W => seDs (p + (exC R8 w.tail r).1.length + 8 + 6) w.tail k on' l W) (k := n.place.toNat) (a := hdS (p + (exC R8 w.tail r).1.length + 8) n.place (hd w)) (b := onS (p + (exC R8 w.tail r).1.length + 8 + 6 + (dosC (p + (exC R8 w.tail r).1.length + 8 + 6) w.tail k l).length) n.place) (fun A B hab => l_pub l hid h.2.2.2 pb.2 ok.2.2 on on' ho A B hab _ _ _) (V.times (V.ev B r)) 0 _ _ (ha.set n.place.toNat 0)
    rw [a1]
    exact ⟨rfl, a2⟩
  | .none, dep, hid, h, pb, ok, on, on', ho, A, B, ha, p, w, k => by unfold Sc at h; exact h.elim
theorem l_pub {pub : Nat → Bool} {N : Nat} : ∀ (l : List Do) {dep : Nat} (hid : Bool), ScL N dep l → pbL pub l → okL hid l → ∀ (on on' : Bool), (hid = false → on = true ∧ on' = true) → ∀ A B : List Int, PA pub A B → ∀ (p : Nat) (w : List Nat) (k : Option Nat),
    seDs p w k on l A = seDs p w k on' l B ∧ PA pub (U.rds on l A) (U.rds on' l B)
  | [], dep, hid, h, pb, ok, on, on', ho, A, B, ha, p, w, k => by
    rw [seDs, seDs, U.rds, U.rds]
    exact ⟨rfl, ha⟩
  | d :: l, dep, hid, h, pb, ok, on, on', ho, A, B, ha, p, w, k => by
    unfold ScL at h
    unfold pbL at pb
    unfold okL at ok
    rw [seDs, seDs, U.rds, U.rds]
    obtain ⟨a1, a2⟩ := d_pub d hid h.1 pb.1 ok.1 on on' ho A B ha p w k
    obtain ⟨b1, b2⟩ := l_pub l hid h.2 pb.2 ok.2 on on' ho _ _ a2 (p + (doC p w k d).length) w k
    rw [a1, b1]
    exact ⟨rfl, b2⟩
end
end Y
end Go.Proofs.YtejbgcloblpbfaaGreatDoor
