import Derived.Test.YtejbgcloblpbfaaGreatDoorB39
namespace Go.Proofs.YtejbgcloblpbfaaGreatDoor
open Go.RowKit
open K (Nm Ex Do)
namespace Y
theorem WAt.fine8 {w : World} {p : WP} {C : List Ins} {W K : List Nat} (h : WAt w p C R8 W K) (hW : ∀ x ∈ W, x < 256) : Fine R8 W 0 := ⟨by decide, by decide, by decide, Srt.nodup h.words.srt, fun x hx => ⟨Nat.zero_le _, hW x hx⟩⟩
theorem Fine.erase {G W : List Nat} {L a : Nat} (h : Fine G W L) (ha : a ∈ G) (hl : 4 ≤ G.length) : Fine (G.erase a) W L := ⟨h.gn.erase a, fun x hx => h.g8 x (List.mem_of_mem_erase hx), by rw [List.length_erase_of_mem ha]; omega, h.wn, h.wl⟩
set_option maxRecDepth 100000 in
set_option maxHeartbeats 4000000 in
theorem setv_c (p0 : Int) (n : Nm) (e : Ex) (he : K.good e = true) (hx : ExW e) (w : World) (p : WP) (C : List Ins) (G W K : List Nat) (h : WAt w p C G W K) (hF : Fine G W 0) (h4 : 6 ≤ G.length) (hn : need e ≤ W.length) (hc : C.length + cE e + 6 < 90000) (hK : K.length ≤ 1000) :
    Calls Tryz.prog 123 #[WV p, .agg #[.int .i64 p0, .string n.text, .int .i64 n.kind, .bool n.sec, .int .i64 n.size, .int .i64 n.place, exV e]] w fun x w' => x = .returned (.tuple #[]) ∧ WAt w' p (C ++ ((exC G W e).1 ++ (.kst (hd (G.erase (exC G W e).2)) n.place :: chC (G.erase (exC G W e).2).tail (hd (G.erase (exC G W e).2)) (exC G W e).2 K.getLast?))) G W K ∧ Fk p.lo w w' := by
  obtain ⟨x0, x1, x2, x3, x4⟩ := n
  obtain ⟨W0, hW⟩ : ∃ W0, w.alloc (.cells #[.int .i64 p0, .string x0, .int .i64 x1, .bool x2, .int .i64 x3, .int .i64 x4, exV e] 178 (0, 0)) = W0 := ⟨_, rfl⟩
  have h0 : WAt W0 p C G W K := by rw [← hW]; exact h.alloc _
  have F0 : Hid (Fk p.lo w W0) := by rw [← hW]; exact (Fk.refl _ _).alloc _
  have RF : At W0 w.heap.size 178 [.int .i64 p0, .string x0, .int .i64 x1, .bool x2, .int .i64 x3, .int .i64 x4, exV e] := by rw [← hW]; exact At.alloc_new w _ _
  have hex := hx W0 p C G W K h0 hF hn (by omega)
  have hm := exC_mem e hF
  have hel := exC_len e G W
  have hsr := h.regs.srt
  have h8 := h.lenG
  have hgl : (G.erase (exC G W e).2).length = G.length - 1 := List.length_erase_of_mem hm
  have hs1 := hsr.erase (exC G W e).2
  have hie := hide (ins_erase hsr hm)
  have hnm : (exC G W e).2 ∉ G.erase (exC G W e).2 := fun x => (hF.gn.mem_erase_iff.1 x).1 rfl
  have z6 := RF.cell 6
  simp only [List.getElem?_cons_zero, List.getElem?_cons_succ] at z6
  generalize exC G W e = X at *
  obtain ⟨z, G3, hG⟩ := cons_of (l := G.erase X.2) (by omega)
  rw [hG] at hex hs1 hgl hnm ⊢
  rw [hG] at hie
  rw [exV_good he] at hex z6 hW RF ⊢
  generalize exT e = te at *
  generalize exP e = xe at *
  have HRF := hide RF
  have HL := hide hgl
  clear h h0 RF hx he hgl hG
  dsimp only
  go_enter_defers Tryz.func123, Tryz.ntmps123
  go_wp2_with fail
  refine hex.mono ?_
  rintro y w1 ⟨rfl, h1, b1⟩
  obtain ⟨c1, _⟩ := h1.c
  have R1 := b1.at_ HRF.out (by decide) (by decide) (by decide) (by decide)
  have k5 := R1.cell 5
  simp only [List.getElem?_cons_zero, List.getElem?_cons_succ] at k5
  have hnu := number_c h1 (by rw [List.length_append]; omega) x4
  clear h1 R1
  go_wp2_with fail
  refine hnu.mono ?_
  rintro y w2 ⟨rfl, h2, b2⟩
  obtain ⟨c2, _⟩ := h2.c
  have hch := change_c h2 (by have := HL.out; simp at this; omega) (by simp only [List.length_append, List.length_cons, List.length_nil]; omega) hK z X.2
  clear h2
  go_wp2_with fail
  refine hch.mono ?_
  rintro y w3 ⟨rfl, h3, b3⟩
  go_wp2_with fail
  refine leaves_cons (f := 149) (args := #[.pointer (some ⟨p.rp, 0, none⟩), .int .i64 (z : Int)]) (by simp) (by simp [go_sem]) ?_
  refine (h3.give .returning (Srt.hd_not hs1) (by have := HL.out; simp at this; omega)).mono ?_
  rintro y u' w4 ⟨rfl, rfl, h4', b4⟩
  rw [Srt.ins_hd hs1] at h4'
  refine leaves_cons (f := 149) (args := #[.pointer (some ⟨p.rp, 0, none⟩), .int .i64 ((X.2 : Nat) : Int)]) (by simp [settle]) (by simp [go_sem]) ?_
  refine (h4'.give _ hnm (by have := HL.out; simp at this ⊢; omega)).mono ?_
  rintro y u'' w5 ⟨rfl, rfl, h5, b5⟩
  refine ⟨_, results_none rfl _ _ _, rfl, ?_, ((((F0.out.trans b1).trans b2).trans b3).trans b4).trans b5⟩
  rw [hie.out] at h5
  simp only [List.append_assoc] at h5
  exact h5
set_option maxRecDepth 100000 in
set_option maxHeartbeats 4000000 in
theorem putv_c (p0 : Int) (n : Nm) (i e : Ex) (hgi : K.good i = true) (he : K.good e = true) (hi : ExW i) (hx : ExW e) (w : World) (p : WP) (C : List Ins) (G W K : List Nat) (h : WAt w p C G W K) (hF : Fine G W 0) (h4 : 6 ≤ G.length) (hn : need e ≤ W.length) (hni : need i ≤ W.length) (hc : C.length + cE i + cE e + 15 < 90000) (hK : K.length ≤ 1000) :
    Calls Tryz.prog 124 #[WV p, .agg #[.int .i64 p0, .string n.text, .int .i64 n.kind, .bool n.sec, .int .i64 n.size, .int .i64 n.place, exV i, exV e]] w fun x w' => x = .returned (.tuple #[]) ∧ WAt w' p (C ++ ((exC G W e).1 ++ ((exC (G.erase (exC G W e).2) W i).1 ++ (plC ((G.erase (exC G W e).2).erase (exC (G.erase (exC G W e).2) W i).2) (exC (G.erase (exC G W e).2) W i).2 n ++ chC ((G.erase (exC G W e).2).erase (exC (G.erase (exC G W e).2) W i).2) (exC (G.erase (exC G W e).2) W i).2 (exC G W e).2 K.getLast?)))) G W K ∧ Fk p.lo w w' := by
  obtain ⟨x0, x1, x2, x3, x4⟩ := n
  obtain ⟨W0, hW⟩ : ∃ W0, w.alloc (.cells #[.int .i64 p0, .string x0, .int .i64 x1, .bool x2, .int .i64 x3, .int .i64 x4, exV i, exV e] 181 (0, 0)) = W0 := ⟨_, rfl⟩
  have h0 : WAt W0 p C G W K := by rw [← hW]; exact h.alloc _
  have F0 : Hid (Fk p.lo w W0) := by rw [← hW]; exact (Fk.refl _ _).alloc _
  have RF : At W0 w.heap.size 181 [.int .i64 p0, .string x0, .int .i64 x1, .bool x2, .int .i64 x3, .int .i64 x4, exV i, exV e] := by rw [← hW]; exact At.alloc_new w _ _
  have hex := hx W0 p C G W K h0 hF hn (by omega)
  have hm := exC_mem e hF
  have hel := exC_len e G W
  have hsr := h.regs.srt
  have h8 := h.lenG
  have hgl : (G.erase (exC G W e).2).length = G.length - 1 := List.length_erase_of_mem hm
  have hF1 := hF.erase hm (by omega)
  have hpl := fun (w : World) (C : List Ins) (h' : WAt w p C (G.erase (exC G W e).2) W K) (hc : C.length + cE i + 10 < 90000) => placeIn_c ⟨x0, x1, x2, x3, x4⟩ i hgi hi w p C _ W K h' hF1 hni hc
  have hm2 := exC_mem i hF1
  have hel2 := exC_len i (G.erase (exC G W e).2) W
  have hgl2 : ((G.erase (exC G W e).2).erase (exC (G.erase (exC G W e).2) W i).2).length = (G.erase (exC G W e).2).length - 1 := List.length_erase_of_mem hm2
  have hie := hide (ins_erase hsr hm)
  have hsr1 := hsr.erase (exC G W e).2
  have hnX : (exC G W e).2 ∉ G.erase (exC G W e).2 := fun x => (hF.gn.mem_erase_iff.1 x).1 rfl
  have hnY : (exC (G.erase (exC G W e).2) W i).2 ∉ (G.erase (exC G W e).2).erase (exC (G.erase (exC G W e).2) W i).2 := fun x => (hF1.gn.mem_erase_iff.1 x).1 rfl
  have hXY : ¬ (exC G W e).2 = (exC (G.erase (exC G W e).2) W i).2 := fun x => hnX (by have h9 := hm2; rw [← x] at h9; exact h9)
  have z7 := RF.cell 7
  simp only [List.getElem?_cons_zero, List.getElem?_cons_succ] at z7
  have hpc : Hid ((plC ((G.erase (exC G W e).2).erase (exC (G.erase (exC G W e).2) W i).2) (exC (G.erase (exC G W e).2) W i).2 ⟨x0, x1, x2, x3, x4⟩).length = 10) := rfl
  generalize plC ((G.erase (exC G W e).2).erase (exC (G.erase (exC G W e).2) W i).2) (exC (G.erase (exC G W e).2) W i).2 ⟨x0, x1, x2, x3, x4⟩ = Q at *
  generalize exC (G.erase (exC G W e).2) W i = Y at *
  generalize exC G W e = X at *
  rw [exV_good he] at hex z7 hW RF ⊢
  simp only [exV_good hgi] at hpl
  rw [exV_good hgi] at hW RF ⊢
  generalize exT e = te at *
  generalize exP e = xe at *
  generalize exT i = ti at *
  generalize exP i = xi at *
  have HRF := hide RF
  have back1 : Hid (ins Y.2 (ins X.2 ((G.erase X.2).erase Y.2)) = G ∧ X.2 ∉ (G.erase X.2).erase Y.2 ∧ ((G.erase X.2).erase Y.2).length < 8 ∧ Y.2 ∉ ins X.2 ((G.erase X.2).erase Y.2) ∧ (ins X.2 ((G.erase X.2).erase Y.2)).length < 8) := by
    have e1 : (G.erase X.2).erase Y.2 = (G.erase Y.2).erase X.2 := List.erase_comm _ _
    have hYG := List.mem_of_mem_erase hm2
    have mX : X.2 ∈ G.erase Y.2 := hF.gn.mem_erase_iff.2 ⟨hXY, hm⟩
    have i1 : ins X.2 ((G.erase Y.2).erase X.2) = G.erase Y.2 := ins_erase (hsr.erase Y.2) mX
    refine ⟨?_, fun x => hnX (List.mem_of_mem_erase x), by omega, ?_, ?_⟩
    · rw [e1, i1]; exact ins_erase hsr hYG
    · rw [e1, i1]; exact fun x => (hF.gn.mem_erase_iff.1 x).1 rfl
    · rw [e1, i1, List.length_erase_of_mem hYG]; omega
  have HL : Hid (X.1.length ≤ cE e ∧ Y.1.length ≤ cE i ∧ (G.erase X.2).length = G.length - 1 ∧ ((G.erase X.2).erase Y.2).length = (G.erase X.2).length - 1 ∧ 6 ≤ G.length ∧ G.length ≤ 8 ∧ C.length + cE i + cE e + 15 < 90000) := ⟨hel, hel2, hgl, hgl2, h4, h8, hc⟩
  obtain ⟨u0, u1, u2, kv1⟩ := kpV_form (.reg X.2)
  clear h h0 RF hx he hi hgi hgl hgl2 hel hel2 hF hF1 hm hm2 hnX hnY hXY hie hsr hsr1
  go_enter_defers Tryz.func124, Tryz.ntmps124
  go_wp2_with fail
  refine hex.mono ?_
  rintro y w1 ⟨rfl, h1, b1⟩
  have hkk := keepr_c h1 (by have := HL.out; omega) X.2
  clear h1
  rw [kv1] at hkk
  go_wp2_with fail
  refine hkk.mono ?_
  rintro y w2 ⟨rfl, h2, b2⟩
  obtain ⟨Wa, hWa⟩ : ∃ Wa, w2.alloc (.cells #[.int .i64 u0, .int .i64 u1, .bool u2] 221 (0, 0)) = Wa := ⟨_, rfl⟩
  have ha : WAt Wa p (C ++ X.1) (G.erase X.2) W K := by rw [← hWa]; exact h2.alloc _
  have Fa : Fk p.lo w2 Wa := by rw [← hWa]; exact (Fk.refl _ _).alloc _
  have Ra : Hid (At Wa w2.heap.size 221 [.int .i64 u0, .int .i64 u1, .bool u2]) := by rw [← hWa]; exact At.alloc_new w2 _ _
  have ba := (b1.trans b2).trans Fa
  have RCa := ba.at_ HRF.out (by decide) (by decide) (by decide) (by decide)
  have z1 := RCa.cell 1
  have z2 := RCa.cell 2
  have z3 := RCa.cell 3
  have z4 := RCa.cell 4
  have z5 := RCa.cell 5
  have z6 := RCa.cell 6
  simp only [List.getElem?_cons_zero, List.getElem?_cons_succ] at z1 z2 z3 z4 z5 z6
  have hpp := hpl Wa _ ha (by have := HL.out; rw [List.length_append]; omega)
  have HBa := hide ba
  clear h2 ha Fa RCa b1 b2 ba hpl hkk hex
  go_wp2_with fail
  refine hpp.mono ?_
  rintro y w3 ⟨rfl, h3, b3⟩
  obtain ⟨c3, _⟩ := h3.c
  have R3 := b3.at_ Ra.out (by decide) (by decide) (by decide) (by decide)
  have v0 := R3.cell 0
  have v1 := R3.cell 1
  have v2 := R3.cell 2
  simp only [List.getElem?_cons_zero, List.getElem?_cons_succ] at v0 v1 v2
  have hft := fetchr_c h3 X.2
  rw [kv1] at hft
  clear h3 R3 hpp
  go_wp2_with fail
  refine hft.mono ?_
  rintro y w4 ⟨rfl, h4', b4⟩
  obtain ⟨c4, _⟩ := h4'.c
  have hch := change_c h4' (by have := HL.out; omega) (by have := HL.out; have := hpc.out; simp only [List.length_append]; omega) hK Y.2 X.2
  clear h4' hft
  go_wp2_with fail
  refine hch.mono ?_
  rintro y w5 ⟨rfl, h5, b5⟩
  go_wp2_with fail
  refine leaves_cons (f := 149) (args := #[.pointer (some ⟨p.rp, 0, none⟩), .int .i64 ((X.2 : Nat) : Int)]) (by simp) (by simp [go_sem]) ?_
  refine (h5.give .returning back1.out.2.1 back1.out.2.2.1).mono ?_
  rintro y u' w6 ⟨rfl, rfl, h6, b6⟩
  refine leaves_cons (f := 149) (args := #[.pointer (some ⟨p.rp, 0, none⟩), .int .i64 ((Y.2 : Nat) : Int)]) (by simp [settle]) (by simp [go_sem]) ?_
  refine (h6.give _ back1.out.2.2.2.1 back1.out.2.2.2.2).mono ?_
  rintro y u'' w7 ⟨rfl, rfl, h7, b7⟩
  refine ⟨_, results_none rfl _ _ _, rfl, ?_, (((((F0.out.trans HBa.out).trans b3).trans b4).trans b5).trans b6).trans b7⟩
  rw [back1.out.1] at h7
  simp only [List.append_assoc] at h7
  exact h7
end Y
end Go.Proofs.YtejbgcloblpbfaaGreatDoor
namespace Go.Proofs.YtejbgcloblpbfaaGreatDoor
open Go.RowKit
open K (Nm Ex Do)
namespace Y
set_option maxRecDepth 100000 in
set_option maxHeartbeats 1000000 in
theorem jump_c {w : World} {p : WP} {C : List Ins} {G W K : List Nat} (h : WAt w p C G W K) (hf : C.length < 100000) :
    Calls Tryz.prog 157 #[WV p] w fun x w' => x = .returned (.int .i64 (C.length : Int)) ∧ WAt w' p (C ++ [.jmp 0]) G W K ∧ Fk p.lo w w' := by
  have ha := add_c h h.hl hf (.jmp 0) (n0 := 13) (n1 := 0) (n2 := 0) (n3 := 0) (n4 := 0) rfl
  have e1 : wrap64 (((C.length + 1 : Nat) : Int) - 1) = (C.length : Int) := by unfold wrap64; omega
  have e2 : IntKind.i64.wrap (((C.length + 1 : Nat) : Int) - 1) = (C.length : Int) := by rw [IntKind.wrap_i64]; omega
  clear h
  go_enter Tryz.func157, Tryz.ntmps157
  go_wp2_with fail
  refine ha.mono ?_
  rintro x w' ⟨rfl, h', b'⟩
  obtain ⟨ca, cc, c, wl⟩ := h'.cv
  have hl : (C ++ [Ins.jmp 0]).length = C.length + 1 := by simp
  rw [hl] at c
  generalize hL : C.length + 1 = L at *
  generalize hM : C.length = M at *
  have H' := hide h'
  have HM := hide hM
  clear h' hL hM hl
  go_wp2_with fail
  go_ret
  exact ⟨by rw [HM.out]; rfl, H'.out, b'⟩
set_option maxRecDepth 100000 in
set_option maxHeartbeats 1000000 in
theorem jz_c {w : World} {p : WP} {C : List Ins} {G W K : List Nat} (h : WAt w p C G W K) (hf : C.length < 100000) (r : Nat) :
    Calls Tryz.prog 193 #[WV p, .int .i64 (r : Int)] w fun x w' => x = .returned (.int .i64 (C.length : Int)) ∧ WAt w' p (C ++ [.jz r 0]) G W K ∧ Fk p.lo w w' := by
  have ha := add_c h h.hl hf (.jz r 0) (n0 := 14) (n1 := 0) (n2 := r) (n3 := 0) (n4 := 0) rfl
  have e1 : wrap64 (((C.length + 1 : Nat) : Int) - 1) = (C.length : Int) := by unfold wrap64; omega
  have e2 : IntKind.i64.wrap (((C.length + 1 : Nat) : Int) - 1) = (C.length : Int) := by rw [IntKind.wrap_i64]; omega
  clear h
  go_enter Tryz.func193, Tryz.ntmps193
  go_wp2_with fail
  refine ha.mono ?_
  rintro x w' ⟨rfl, h', b'⟩
  obtain ⟨ca, cc, c, wl⟩ := h'.cv
  have hl : (C ++ [Ins.jz r 0]).length = C.length + 1 := by simp
  rw [hl] at c
  generalize hL : C.length + 1 = L at *
  generalize hM : C.length = M at *
  have H' := hide h'
  have HM := hide hM
  clear h' hL hM hl
  go_wp2_with fail
  go_ret
  exact ⟨by rw [HM.out]; rfl, H'.out, b'⟩
set_option maxRecDepth 100000 in
set_option maxHeartbeats 1000000 in
theorem jumpBack_c {w : World} {p : WP} {C : List Ins} {G W K : List Nat} (h : WAt w p C G W K) (hf : C.length < 100000) (d : Nat) :
    Calls Tryz.prog 164 #[WV p, .int .i64 (d : Int)] w fun x w' => x = .returned (.tuple #[]) ∧ WAt w' p (C ++ [.jmp d]) G W K ∧ Fk p.lo w w' := by
  have ha := add_c h h.hl hf (.jmp d) (n0 := 13) (n1 := 0) (n2 := 0) (n3 := 0) (n4 := d) rfl
  clear h
  go_enter Tryz.func164, Tryz.ntmps164
  go_wp2_with fail
  refine ha.mono ?_
  rintro x w' ⟨rfl, h', b'⟩
  go_wp2_with fail
  go_end0
  exact ⟨rfl, h', b'⟩
set_option maxRecDepth 100000 in
set_option maxHeartbeats 2000000 in
theorem jumpUnless_c (e : Ex) (he : K.good e = true) (hx : ExW e) (w : World) (p : WP) (C : List Ins) (G W K : List Nat) (h : WAt w p C G W K) (hF : Fine G W 0) (hn : need e ≤ W.length) (hc : C.length + cE e + 1 < 90000) :
    Calls Tryz.prog 156 #[WV p, exV e] w fun x w' => x = .returned (.int .i64 ((C.length + (exC G W e).1.length : Nat) : Int)) ∧ WAt w' p (C ++ ((exC G W e).1 ++ [.jz (exC G W e).2 0])) G W K ∧ Fk p.lo w w' := by
  have hex := hx w p C G W K h hF hn (by omega)
  have hm := exC_mem e hF
  have hel := exC_len e G W
  have hsr := h.regs.srt
  have h8 := h.lenG
  have hgl : Hid ((G.erase (exC G W e).2).length = G.length - 1) := List.length_erase_of_mem hm
  have hg3 := hF.g3
  have hie := hide (ins_erase hsr hm)
  have hnm : (exC G W e).2 ∉ G.erase (exC G W e).2 := fun x => (hF.gn.mem_erase_iff.1 x).1 rfl
  generalize exC G W e = X at *
  rw [exV_good he] at hex ⊢
  generalize exT e = te at *
  generalize exP e = xe at *
  clear h hx he
  go_enter_defers Tryz.func156, Tryz.ntmps156
  go_wp2_with fail
  refine hex.mono ?_
  rintro y w1 ⟨rfl, h1, b1⟩
  obtain ⟨c1, _⟩ := h1.c
  have hj := jz_c h1 (by rw [List.length_append]; omega) X.2
  rw [List.length_append] at hj
  clear h1
  go_wp2_with fail
  refine hj.mono ?_
  rintro y w2 ⟨rfl, h2, b2⟩
  go_wp2_with fail
  refine leaves_cons (f := 149) (args := #[.pointer (some ⟨p.rp, 0, none⟩), .int .i64 ((X.2 : Nat) : Int)]) (by simp) (by simp [go_sem]) ?_
  refine (h2.give .returning hnm (by have := hgl.out; omega)).mono ?_
  rintro y u' w3 ⟨rfl, rfl, h3, b3⟩
  refine ⟨_, results_tmp rfl _ _ _, rfl, ?_, (b1.trans b2).trans b3⟩
  rw [hie.out] at h3
  simp only [List.append_assoc] at h3
  exact h3
set_option maxRecDepth 100000 in
set_option maxHeartbeats 2000000 in
theorem storeNumber_c {w : World} {p : WP} {C : List Ins} {r s : Nat} {G W K : List Nat} (h : WAt w p C (r :: s :: G) W K) (hf : C.length + 3 < 100000) (at_ v : Int) :
    Calls Tryz.prog 161 #[WV p, .int .i64 at_, .int .i64 v] w fun x w' => x = .returned (.tuple #[]) ∧ WAt w' p (C ++ [.kst r v, .kst s at_, .st s r]) (r :: s :: G) W K ∧ Fk p.lo w w' := by
  have hn := number_c h (by omega) v
  have hsr := h.regs.srt
  have h8 := h.lenG
  clear h
  go_enter_defers Tryz.func161, Tryz.ntmps161
  go_wp2_with fail
  refine hn.mono ?_
  rintro x w1 ⟨rfl, h1, b1⟩
  obtain ⟨c1, _⟩ := h1.c
  have hs := store_c h1 (by simp only [List.length_append, List.length_cons, List.length_nil]; omega) at_ r
  clear h1
  go_wp2_with fail
  refine hs.mono ?_
  rintro x w2 ⟨rfl, h2, b2⟩
  go_wp2_with fail
  refine leaves_cons (f := 149) (args := #[.pointer (some ⟨p.rp, 0, none⟩), .int .i64 (r : Int)]) (by simp) (by simp [go_sem]) ?_
  refine (h2.give .returning (Srt.hd_not hsr) (by simp at h8 ⊢; omega)).mono ?_
  rintro e u' w3 ⟨rfl, rfl, h3, b3⟩
  refine ⟨_, results_none rfl _ _ _, rfl, ?_, (b1.trans b2).trans b3⟩
  rw [Srt.ins_hd hsr, List.append_assoc] at h3
  exact h3
set_option maxRecDepth 100000 in
set_option maxHeartbeats 2000000 in
theorem jul_c {w : World} {p : WP} {C : List Ins} {r s : Nat} {G W K : List Nat} (h : WAt w p C (r :: s :: G) W K) (hf : C.length + 6 < 100000) (a b : Int) :
    Calls Tryz.prog 162 #[WV p, .int .i64 a, .int .i64 b] w fun x w' => x = .returned (.int .i64 ((C.length + 5 : Nat) : Int)) ∧ WAt w' p (C ++ [.kst r a, .ld r r, .kst s b, .ld s s, .bin 60 r r s, .jz r 0]) (r :: s :: G) W K ∧ Fk p.lo w w' := by
  have hn := load_c h (by omega) a
  have hsr := h.regs.srt
  have hs2 := (List.pairwise_cons.1 hsr).2
  have h8 := h.lenG
  clear h
  go_enter_defers Tryz.func162, Tryz.ntmps162
  go_wp2_with fail
  refine hn.mono ?_
  rintro x w1 ⟨rfl, h1, b1⟩
  obtain ⟨c1, _⟩ := h1.c
  have hl := load_c h1 (by simp only [List.length_append, List.length_cons, List.length_nil]; omega) b
  clear h1
  go_wp2_with fail
  refine hl.mono ?_
  rintro x w2 ⟨rfl, h2, b2⟩
  obtain ⟨c2, _⟩ := h2.c
  have hls := less_w h2 (by simp only [List.length_append, List.length_cons, List.length_nil]; omega) r r s
  clear h2
  go_wp2_with fail
  refine hls.mono ?_
  rintro x w3 ⟨rfl, h3, b3⟩
  have hj := jz_c h3 (by simp only [List.length_append, List.length_cons, List.length_nil]; omega) r
  have ej : ((((C ++ [Ins.kst r a, Ins.ld r r]) ++ [Ins.kst s b, Ins.ld s s]) ++ [Ins.bin 60 r r s]).length) = C.length + 5 := by simp
  rw [ej] at hj
  clear h3 ej
  go_wp2_with fail
  refine hj.mono ?_
  rintro x w4 ⟨rfl, h4, b4⟩
  go_wp2_with fail
  refine leaves_cons (f := 149) (args := #[.pointer (some ⟨p.rp, 0, none⟩), .int .i64 (s : Int)]) (by simp) (by simp [go_sem]) ?_
  refine (h4.give .returning (Srt.hd_not hs2) (by simp at h8 ⊢; omega)).mono ?_
  rintro e u' w5 ⟨rfl, rfl, h5, b5⟩
  rw [Srt.ins_hd hs2] at h5
  refine leaves_cons (f := 149) (args := #[.pointer (some ⟨p.rp, 0, none⟩), .int .i64 (r : Int)]) (by simp [settle]) (by simp [go_sem]) ?_
  refine (h5.give _ (Srt.hd_not hsr) (by simp at h8 ⊢; omega)).mono ?_
  rintro e u'' w6 ⟨rfl, rfl, h6, b6⟩
  refine ⟨_, results_tmp rfl _ _ _, rfl, ?_, ((((b1.trans b2).trans b3).trans b4).trans b5).trans b6⟩
  rw [Srt.ins_hd hsr] at h6
  simp only [List.append_assoc] at h6
  exact h6
set_option maxRecDepth 100000 in
set_option maxHeartbeats 2000000 in
theorem countOn_c {w : World} {p : WP} {C : List Ins} {r s t : Nat} {G W K : List Nat} (h : WAt w p C (r :: s :: t :: G) W K) (hf : C.length + 6 < 100000) (a : Int) :
    Calls Tryz.prog 163 #[WV p, .int .i64 a] w fun x w' => x = .returned (.tuple #[]) ∧ WAt w' p (C ++ [.kst r a, .ld r r, .kst s 1, .bin 43 r r s, .kst t a, .st t r]) (r :: s :: t :: G) W K ∧ Fk p.lo w w' := by
  have hn := load_c h (by omega) a
  have hsr := h.regs.srt
  have hs2 := (List.pairwise_cons.1 hsr).2
  have h8 := h.lenG
  clear h
  go_enter_defers Tryz.func163, Tryz.ntmps163
  go_wp2_with fail
  refine hn.mono ?_
  rintro x w1 ⟨rfl, h1, b1⟩
  obtain ⟨c1, _⟩ := h1.c
  have hl := number_c h1 (by simp only [List.length_append, List.length_cons, List.length_nil]; omega) 1
  clear h1
  go_wp2_with fail
  refine hl.mono ?_
  rintro x w2 ⟨rfl, h2, b2⟩
  obtain ⟨c2, _⟩ := h2.c
  have hls := plus_w h2 (by simp only [List.length_append, List.length_cons, List.length_nil]; omega) r r s
  clear h2
  go_wp2_with fail
  refine hls.mono ?_
  rintro x w3 ⟨rfl, h3, b3⟩
  have hst := store_c h3 (by simp only [List.length_append, List.length_cons, List.length_nil]; omega) a r
  clear h3
  go_wp2_with fail
  refine hst.mono ?_
  rintro x w4 ⟨rfl, h4, b4⟩
  go_wp2_with fail
  refine leaves_cons (f := 149) (args := #[.pointer (some ⟨p.rp, 0, none⟩), .int .i64 (s : Int)]) (by simp) (by simp [go_sem]) ?_
  refine (h4.give .returning (Srt.hd_not hs2) (by simp at h8 ⊢; omega)).mono ?_
  rintro e u' w5 ⟨rfl, rfl, h5, b5⟩
  rw [Srt.ins_hd hs2] at h5
  refine leaves_cons (f := 149) (args := #[.pointer (some ⟨p.rp, 0, none⟩), .int .i64 (r : Int)]) (by simp [settle]) (by simp [go_sem]) ?_
  refine (h5.give _ (Srt.hd_not hsr) (by simp at h8 ⊢; omega)).mono ?_
  rintro e u'' w6 ⟨rfl, rfl, h6, b6⟩
  refine ⟨_, results_none rfl _ _ _, rfl, ?_, ((((b1.trans b2).trans b3).trans b4).trans b5).trans b6⟩
  rw [Srt.ins_hd hsr] at h6
  simp only [List.append_assoc] at h6
  exact h6
end Y
end Go.Proofs.YtejbgcloblpbfaaGreatDoor
