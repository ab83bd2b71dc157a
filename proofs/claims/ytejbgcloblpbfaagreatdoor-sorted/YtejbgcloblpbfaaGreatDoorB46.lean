import Derived.Test.YtejbgcloblpbfaaGreatDoorB40
import Derived.Test.YtejbgcloblpbfaaGreatDoorB44
import Derived.Test.YtejbgcloblpbfaaGreatDoorB45
namespace Go.Proofs.YtejbgcloblpbfaaGreatDoor
open Go.RowKit
open K (Nm Ex Do)
namespace Y
set_option maxRecDepth 100000 in
set_option maxHeartbeats 4000000 in
theorem stc_c (e : Ex) (he : K.good e = true) (hx : ExW e) (w : World) (p : WP) (C : List Ins) (G W K : List Nat) (h : WAt w p C G W K) (hF : Fine G W 0) (h4 : 6 ≤ G.length) (hn : need e ≤ W.length) (hc : C.length + cE e + 9 < 90000) (hK : K.length ≤ 1000) (a b : Nat) :
    Calls Tryz.prog 191 #[WV p, exV e, .int .i64 (a : Int), .int .i64 (b : Int)] w fun x w' => x = .returned (.tuple #[]) ∧ WAt w' p (C ++ ((exC G W e).1 ++ coC (G.erase (exC G W e).2) (exC G W e).2 a b K.getLast?)) G W K ∧ Fk p.lo w w' := by
  have hex := hx w p C G W K h hF hn (by omega)
  have hm := exC_mem e hF
  have hel := exC_len e G W
  have hsr := h.regs.srt
  have h8 := h.lenG
  have hgl : (G.erase (exC G W e).2).length = G.length - 1 := List.length_erase_of_mem hm
  have hs1 := hsr.erase (exC G W e).2
  have hie := hide (ins_erase hsr hm)
  have hnm : (exC G W e).2 ∉ G.erase (exC G W e).2 := fun x => (hF.gn.mem_erase_iff.1 x).1 rfl
  generalize exC G W e = X at *
  obtain ⟨u, v, s, t, G4, hG⟩ := four (g := G.erase X.2) (by omega)
  rw [hG] at hex hs1 hgl hnm ⊢
  rw [hG] at hie
  rw [exV_good he] at hex ⊢
  generalize exT e = te at *
  generalize exP e = xe at *
  have hs2 := (List.pairwise_cons.1 hs1).2
  have hs3 := (List.pairwise_cons.1 hs2).2
  have hs4 := (List.pairwise_cons.1 hs3).2
  have HL : Hid ((u :: v :: s :: t :: G4).length = G.length - 1 ∧ X.1.length ≤ cE e ∧ G.length ≤ 8 ∧ 6 ≤ G.length ∧ C.length + cE e + 9 < 90000) := ⟨hgl, hel, h8, h4, hc⟩
  have hcl : Hid ((cnC u K.getLast?).length ≤ 2) := by
    show _ ≤ _
    cases K.getLast? <;> simp [cnC]
  have hco : coC (u :: v :: s :: t :: G4) X.2 a b K.getLast? = cnC u K.getLast? ++ [.kst v 0, .sel s u X.2 v, .kst t (a : Nat), .st t s, .sel s v X.2 u, .kst t (b : Nat), .st t s] := rfl
  rw [hco]
  clear h hx he hgl hG hel h8 h4 hco
  go_enter_defers Tryz.func191, Tryz.ntmps191
  go_wp2_with fail
  refine hex.mono ?_
  rintro y w1 ⟨rfl, h1, b1⟩
  obtain ⟨c1, _⟩ := h1.c
  have hcn := cond_c h1 (by have := HL.out; rw [List.length_append]; omega) hK
  clear h1
  go_wp2_with fail
  refine hcn.mono ?_
  rintro y w2 ⟨rfl, h2, b2⟩
  obtain ⟨c2, _⟩ := h2.c
  have hnu := number_c h2 (by have := HL.out; have := hcl.out; simp only [List.length_append]; omega) 0
  clear h2
  go_wp2_with fail
  refine hnu.mono ?_
  rintro y w3 ⟨rfl, h3, b3⟩
  obtain ⟨c3, _⟩ := h3.c
  have ht := take_c h3.regs
  have H3 := hide h3
  clear h3
  go_wp2_with fail
  refine ht.mono ?_
  rintro y w4 ⟨rfl, P4, T4⟩
  obtain ⟨h4, b4⟩ := H3.out.regs' P4 T4
  obtain ⟨c4, _⟩ := h4.c
  have hch := choice_c h4 (by have := HL.out; have := hcl.out; simp only [List.length_append, List.length_cons, List.length_nil]; omega) s X.2 u v
  clear h4 P4
  go_wp2_with fail
  refine hch.mono ?_
  rintro y w5 ⟨rfl, h5, b5⟩
  have hst := store_c h5 (by have := HL.out; have := hcl.out; simp only [List.length_append, List.length_cons, List.length_nil]; omega) (a : Int) s
  clear h5
  go_wp2_with fail
  refine hst.mono ?_
  rintro y w6 ⟨rfl, h6, b6⟩
  have hch2 := choice_c h6 (by have := HL.out; have := hcl.out; simp only [List.length_append, List.length_cons, List.length_nil]; omega) s X.2 v u
  clear h6
  go_wp2_with fail
  refine hch2.mono ?_
  rintro y w7 ⟨rfl, h7, b7⟩
  have hst2 := store_c h7 (by have := HL.out; have := hcl.out; simp only [List.length_append, List.length_cons, List.length_nil]; omega) (b : Int) s
  clear h7
  go_wp2_with fail
  refine hst2.mono ?_
  rintro y w8 ⟨rfl, h8, b8⟩
  go_wp2_with fail
  refine leaves_cons (f := 149) (args := #[.pointer (some ⟨p.rp, 0, none⟩), .int .i64 (s : Int)]) (by simp) (by simp [go_sem]) ?_
  refine (h8.give .returning (Srt.hd_not hs3) (by have := HL.out; simp at this ⊢; omega)).mono ?_
  rintro y u1 w9 ⟨rfl, rfl, h9, b9⟩
  rw [Srt.ins_hd hs3] at h9
  refine leaves_cons (f := 149) (args := #[.pointer (some ⟨p.rp, 0, none⟩), .int .i64 (v : Int)]) (by simp [settle]) (by simp [go_sem]) ?_
  refine (h9.give _ (Srt.hd_not hs2) (by have := HL.out; simp at this ⊢; omega)).mono ?_
  rintro y u2 w10 ⟨rfl, rfl, h10, b10⟩
  rw [Srt.ins_hd hs2] at h10
  refine leaves_cons (f := 149) (args := #[.pointer (some ⟨p.rp, 0, none⟩), .int .i64 (u : Int)]) (by simp [settle]) (by simp [go_sem]) ?_
  refine (h10.give _ (Srt.hd_not hs1) (by have := HL.out; simp at this ⊢; omega)).mono ?_
  rintro y u3 w11 ⟨rfl, rfl, h11, b11⟩
  rw [Srt.ins_hd hs1] at h11
  refine leaves_cons (f := 149) (args := #[.pointer (some ⟨p.rp, 0, none⟩), .int .i64 ((X.2 : Nat) : Int)]) (by simp [settle]) (by simp [go_sem]) ?_
  refine (h11.give _ hnm (by have := HL.out; simp at this ⊢; omega)).mono ?_
  rintro y u4 w12 ⟨rfl, rfl, h12, b12⟩
  refine ⟨_, results_none rfl _ _ _, rfl, ?_, ((((((((((b1.trans b2).trans b3).trans b4).trans b5).trans b6).trans b7).trans b8).trans b9).trans b10).trans b11).trans b12⟩
  rw [hie.out] at h12
  simp only [List.append_assoc] at h12
  exact h12
end Y
end Go.Proofs.YtejbgcloblpbfaaGreatDoor
namespace Go.Proofs.YtejbgcloblpbfaaGreatDoor
open Go.RowKit
open K (Nm Ex Do)
namespace Y
set_option maxRecDepth 100000 in
set_option maxHeartbeats 4000000 in
theorem rounds_c (e : Ex) (he : K.good e = true) (hx : ExW e) (w : World) (p : WP) (C : List Ins) (G W K : List Nat) (h : WAt w p C G W K) (hF : Fine G W 0) (h4 : 6 ≤ G.length) (hn : need e ≤ W.length) (hc : C.length + cE e + 5 < 90000) (c : Nat) :
    Calls Tryz.prog 160 #[WV p, .int .i64 (c : Int), exV e] w fun x w' => x = .returned (.tuple #[]) ∧ WAt w' p (C ++ ((exC G W e).1 ++ roC (G.erase (exC G W e).2) (exC G W e).2 c)) G W K ∧ Fk p.lo w w' := by
  have hex := hx w p C G W K h hF hn (by omega)
  have hm := exC_mem e hF
  have hel := exC_len e G W
  have hsr := h.regs.srt
  have h8 := h.lenG
  have hgl : (G.erase (exC G W e).2).length = G.length - 1 := List.length_erase_of_mem hm
  have hs1 := hsr.erase (exC G W e).2
  have hie := hide (ins_erase hsr hm)
  have hnm : (exC G W e).2 ∉ G.erase (exC G W e).2 := fun x => (hF.gn.mem_erase_iff.1 x).1 rfl
  generalize exC G W e = X at *
  obtain ⟨m, f, t, t', G4, hG⟩ := four (g := G.erase X.2) (by omega)
  rw [hG] at hex hs1 hgl hnm ⊢
  rw [hG] at hie
  rw [exV_good he] at hex ⊢
  generalize exT e = te at *
  generalize exP e = xe at *
  have hs2 := (List.pairwise_cons.1 hs1).2
  have HL : Hid ((m :: f :: t :: t' :: G4).length = G.length - 1 ∧ X.1.length ≤ cE e ∧ G.length ≤ 8 ∧ 6 ≤ G.length ∧ C.length + cE e + 5 < 90000) := ⟨hgl, hel, h8, h4, hc⟩
  have hco : roC (m :: f :: t :: t' :: G4) X.2 c = [.kst m 5, .bin 60 f X.2 m, .sel X.2 X.2 f m, .kst t (c : Nat), .st t X.2] := rfl
  rw [hco]
  clear h hx he hgl hG hel h8 h4 hco
  go_enter_defers Tryz.func160, Tryz.ntmps160
  go_wp2_with fail
  refine hex.mono ?_
  rintro y w1 ⟨rfl, h1, b1⟩
  obtain ⟨c1, _⟩ := h1.c
  have hnu := number_c h1 (by have := HL.out; simp only [List.length_append]; omega) 5
  clear h1
  go_wp2_with fail
  refine hnu.mono ?_
  rintro y w3 ⟨rfl, h3, b3⟩
  obtain ⟨c3, _⟩ := h3.c
  have ht := take_c h3.regs
  have H3 := hide h3
  clear h3
  go_wp2_with fail
  refine ht.mono ?_
  rintro y w4 ⟨rfl, P4, T4⟩
  obtain ⟨h4, b4⟩ := H3.out.regs' P4 T4
  obtain ⟨c4, _⟩ := h4.c
  have hls := less_w h4 (by have := HL.out; simp only [List.length_append, List.length_cons, List.length_nil]; omega) f X.2 m
  clear h4 P4
  go_wp2_with fail
  refine hls.mono ?_
  rintro y w5 ⟨rfl, h5, b5⟩
  have hch := choice_c h5 (by have := HL.out; simp only [List.length_append, List.length_cons, List.length_nil]; omega) X.2 f X.2 m
  clear h5
  go_wp2_with fail
  refine hch.mono ?_
  rintro y w6 ⟨rfl, h6, b6⟩
  have hst := store_c h6 (by have := HL.out; simp only [List.length_append, List.length_cons, List.length_nil]; omega) (c : Int) X.2
  clear h6
  go_wp2_with fail
  refine hst.mono ?_
  rintro y w8 ⟨rfl, h8, b8⟩
  go_wp2_with fail
  refine leaves_cons (f := 149) (args := #[.pointer (some ⟨p.rp, 0, none⟩), .int .i64 (f : Int)]) (by simp) (by simp [go_sem]) ?_
  refine (h8.give .returning (Srt.hd_not hs2) (by have := HL.out; simp at this ⊢; omega)).mono ?_
  rintro y u1 w9 ⟨rfl, rfl, h9, b9⟩
  rw [Srt.ins_hd hs2] at h9
  refine leaves_cons (f := 149) (args := #[.pointer (some ⟨p.rp, 0, none⟩), .int .i64 (m : Int)]) (by simp [settle]) (by simp [go_sem]) ?_
  refine (h9.give _ (Srt.hd_not hs1) (by have := HL.out; simp at this ⊢; omega)).mono ?_
  rintro y u2 w10 ⟨rfl, rfl, h10, b10⟩
  rw [Srt.ins_hd hs1] at h10
  refine leaves_cons (f := 149) (args := #[.pointer (some ⟨p.rp, 0, none⟩), .int .i64 ((X.2 : Nat) : Int)]) (by simp [settle]) (by simp [go_sem]) ?_
  refine (h10.give _ hnm (by have := HL.out; simp at this ⊢; omega)).mono ?_
  rintro y u4 w12 ⟨rfl, rfl, h12, b12⟩
  refine ⟨_, results_none rfl _ _ _, rfl, ?_, (((((((b1.trans b3).trans b4).trans b5).trans b6).trans b8).trans b9).trans b10).trans b12⟩
  rw [hie.out] at h12
  simp only [List.append_assoc] at h12
  exact h12
end Y
end Go.Proofs.YtejbgcloblpbfaaGreatDoor
namespace Go.Proofs.YtejbgcloblpbfaaGreatDoor
open Go.RowKit
open K (Nm Ex Do)
namespace Y
mutual
theorem doC_len : ∀ (d : Do) (p : Nat) (w : List Nat) (k : Option Nat), (doC p w k d).length ≤ cD d
  | .set _ n e, p, w, k => by
    have := exC_len e R8 w
    have := chC_len (R8.erase (exC R8 w e).2).tail (hd (R8.erase (exC R8 w e).2)) (exC R8 w e).2 k
    rw [doC, cD]
    simp only [List.length_append, List.length_cons]
    omega
  | .put _ n i e, p, w, k => by
    have := exC_len e R8 w
    have := exC_len i (R8.erase (exC R8 w e).2) w
    have := chC_len ((R8.erase (exC R8 w e).2).erase (exC (R8.erase (exC R8 w e).2) w i).2) (exC (R8.erase (exC R8 w e).2) w i).2 (exC R8 w e).2 k
    have h10 : (plC ((R8.erase (exC R8 w e).2).erase (exC (R8.erase (exC R8 w e).2) w i).2) (exC (R8.erase (exC R8 w e).2) w i).2 n).length = 10 := rfl
    rw [doC, cD]
    simp only [List.length_append]
    omega
  | .ifs _ q y n, p, w, k => by
    rw [doC, cD]
    split
    · have := exC_len q R8 w.tail.tail
      have := coC_len (R8.erase (exC R8 w.tail.tail q).2) (exC R8 w.tail.tail q).2 (hd w) (hd w.tail) k
      have := fun p w k => dosC_len y p w k
      have a := this (p + (exC R8 w.tail.tail q).1.length + (coC (R8.erase (exC R8 w.tail.tail q).2) (exC R8 w.tail.tail q).2 (hd w) (hd w.tail) k).length) w.tail.tail (some (hd w))
      have b := dosC_len n (p + (exC R8 w.tail.tail q).1.length + (coC (R8.erase (exC R8 w.tail.tail q).2) (exC R8 w.tail.tail q).2 (hd w) (hd w.tail) k).length + (dosC (p + (exC R8 w.tail.tail q).1.length + (coC (R8.erase (exC R8 w.tail.tail q).2) (exC R8 w.tail.tail q).2 (hd w) (hd w.tail) k).length) w.tail.tail (some (hd w)) y).length) w.tail.tail (some (hd w.tail))
      simp only [List.length_append]
      omega
    · have := exC_len q R8 w
      have a := dosC_len y (p + (exC R8 w q).1.length + 1) w k
      have b := dosC_len n (p + (exC R8 w q).1.length + 1 + (dosC (p + (exC R8 w q).1.length + 1) w k y).length + 1) w k
      simp only [List.length_append, List.length_cons]
      omega
  | .fors _ n r l, p, w, k => by
    rw [doC, cD]
    have := exC_len r R8 w.tail
    have a := dosC_len l (p + (exC R8 w.tail r).1.length + 8 + 6) w.tail k
    simp only [List.length_append, List.length_cons, List.length_nil, roC, hdC, onC]
    omega
  | .none, p, w, k => by rw [doC]; simp
theorem dosC_len : ∀ (l : List Do) (p : Nat) (w : List Nat) (k : Option Nat), (dosC p w k l).length ≤ cD.cDs l
  | [], p, w, k => by rw [dosC]; simp
  | d :: l, p, w, k => by
    rw [dosC, cD.cDs]
    have := doC_len d p w k
    have := dosC_len l (p + (doC p w k d).length) w k
    simp only [List.length_append]
    omega
end
theorem Fk.drew (lo : Nat) (w : World) : Fk lo w w.drew := ⟨rfl, rfl, rfl, Nat.le_refl _, fun _ _ _ => rfl, fun _ _ _ _ _ _ _ _ _ => rfl⟩
set_option maxRecDepth 100000 in
set_option maxHeartbeats 2000000 in
theorem land_c {w : World} {p : WP} {A B : List Ins} {i i' : Ins} {G W K : List Nat} (h : WAt w p (A ++ i :: B) G W K) (_hf : (A ++ i :: B).length < 100000) {n0 n1 n2 n3 n4 : Int} (hi : inN i = [n0, n1, n2, n3, n4]) (hi' : inN i' = [n0, n1, n2, n3, ((A ++ i :: B).length : Nat)]) :
    Calls Tryz.prog 158 #[WV p, .int .i64 (A.length : Int)] w fun x w' => x = .returned (.tuple #[]) ∧ WAt w' p (A ++ i' :: B) G W K ∧ Fk p.lo w w' := by
  obtain ⟨g, cc, c0, c1, f1, gl, h', b'⟩ := code_set (h.same (w' := w.drew) (fun _ _ => rfl)) hi hi'
  have wl : p.wb < w.heap.size := by obtain ⟨_, _, _, h9⟩ := h.cv; exact h9
  have c0' : w.cell? ⟨p.wb, 0, none⟩ = some (.slice (some ⟨g, 0, none⟩) (A ++ i :: B).length cc) := c0
  have c1' : w.cell? ⟨g, 5 * A.length + 4, none⟩ = some (.int .i64 n4) := c1
  have f1' : w.frozen? ⟨g, 5 * A.length + 4, none⟩ = false := f1
  have gl' : g < w.heap.size := gl
  have l1 : (A.length : Int) < ((A ++ i :: B).length : Int) := by simp only [List.length_append, List.length_cons]; omega
  have l2 : A.length < (A ++ i :: B).length := by simp only [List.length_append, List.length_cons]; omega
  have e5 : A.length * 5 + 4 = 5 * A.length + 4 := by omega
  have H' := hide h'
  clear c0 c1 f1 gl h' h hi hi'
  generalize (A ++ i :: B).length = L at *
  generalize A.length = M at *
  go_enter Tryz.func158, Tryz.ntmps158
  go_upto_region 0 with fail
  go_region
  all_goals go_wp2_with fail
  all_goals go_end0
  all_goals exact ⟨rfl, H'.out, (Fk.drew _ _).trans b'⟩
theorem land_jz {w : World} {p : WP} {A B : List Ins} {b : Nat} {G W K : List Nat} (h : WAt w p (A ++ .jz b 0 :: B) G W K) (hf : (A ++ Ins.jz b 0 :: B).length < 100000) :
    Calls Tryz.prog 158 #[WV p, .int .i64 (A.length : Int)] w fun x w' => x = .returned (.tuple #[]) ∧ WAt w' p (A ++ .jz b (A ++ Ins.jz b 0 :: B).length :: B) G W K ∧ Fk p.lo w w' :=
  land_c h hf (n0 := 14) (n1 := 0) (n2 := b) (n3 := 0) (n4 := 0) rfl rfl
theorem land_jmp {w : World} {p : WP} {A B : List Ins} {G W K : List Nat} (h : WAt w p (A ++ .jmp 0 :: B) G W K) (hf : (A ++ Ins.jmp 0 :: B).length < 100000) :
    Calls Tryz.prog 158 #[WV p, .int .i64 (A.length : Int)] w fun x w' => x = .returned (.tuple #[]) ∧ WAt w' p (A ++ .jmp (A ++ Ins.jmp 0 :: B).length :: B) G W K ∧ Fk p.lo w w' :=
  land_c h hf (n0 := 13) (n1 := 0) (n2 := 0) (n3 := 0) (n4 := 0) rfl rfl
theorem cond_end {w w3 : World} {p : WP} {C : List Ins} {G W K K' : List Nat} {cv kv nv : Value} (h : WAt w p C G W K) (a1 : At w p.wb 132 ([cv, .pointer (some ⟨p.rp, 0, none⟩), .pointer (some ⟨p.wp, 0, none⟩)] ++ (p.tb.toList ++ [kv]))) (o1 : w.ownsRow p.lo 58 5 cv C.length (C.flatMap inV)) (o2 : w.ownsRow p.lo 3 1 kv K.length (ints (ofN K))) (hkv : ∀ k, kv.ownBlock = some k → k ≠ p.rg ∧ k ≠ p.wg)
    (hrow : w3.ownsRow 0 3 1 nv K'.length (ints (ofN K'))) (hb : ∀ k, k < w.heap.size → ¬ kv.ownBlock = some k → w3.heap[k]? = w.heap[k]?) (hk : ∀ k, nv.ownBlock = some k → kv.ownBlock = some k ∨ w.heap.size ≤ k) (hs : w.heap.size ≤ w3.heap.size) (q1 : w3.os = w.os) (q2 : w3.tape = w.tape) (q3 : w3.output = w.output) :
    WAt (w3.setCell ⟨p.wb, 259, none⟩ nv) p C G W K' ∧ Fk p.lo w (w3.setCell ⟨p.wb, 259, none⟩ nv) := by
  obtain ⟨cw, fw, kw⟩ := at_kind a1
  have hl := h.hl
  have low := h.low
  have nkw : ¬ kv.ownBlock = some p.wb := fun e => by
    obtain ⟨_, _, k1⟩ := own_kind o2 e
    exact kind_ne k1 kw (by decide) rfl
  have nnw : ¬ nv.ownBlock = some p.wb := fun e => by
    rcases hk p.wb e with e' | e'
    · exact nkw e'
    · have := a1.lt; omega
  have sm : ∀ k, k < w.heap.size → k ≠ p.wb → ¬ kv.ownBlock = some k → (w3.setCell ⟨p.wb, 259, none⟩ nv).heap[k]? = w.heap[k]? := fun k hk' n1 n2 => (heap_setCell_other _ ⟨p.wb, 259, none⟩ k _ n1).trans (hb k hk' n2)
  have a3 := a1.of_block (hb p.wb a1.lt nkw)
  have aS := a3.set 259 nv
  have eS : ([cv, .pointer (some ⟨p.rp, 0, none⟩), .pointer (some ⟨p.wp, 0, none⟩)] ++ (p.tb.toList ++ [kv])).set 259 nv = [cv, .pointer (some ⟨p.rp, 0, none⟩), .pointer (some ⟨p.wp, 0, none⟩)] ++ (p.tb.toList ++ [nv]) := by
    have ht : p.tb.toList.length = 256 := h.tab
    rw [List.set_append_right _ _ (by simp), List.set_append_right _ _ (by simp [ht])]
    congr 2
    simp [ht]
  rw [eS] at aS
  obtain ⟨⟨c1, f1, k1⟩, ⟨c2, f2, k2⟩⟩ := pool_kind h.regs
  obtain ⟨⟨c3, f3, k3⟩, ⟨c4, f4, k4⟩⟩ := pool_kind h.words
  obtain ⟨r1, r2, _, _⟩ := h.regs.lt
  obtain ⟨w1, w2, _, _⟩ := h.words.lt
  have npool : ∀ {k : Nat} {c : Array Value} {f : Nat × Nat}, w.heap[k]? = some (.cells c 188 f) → ¬ kv.ownBlock = some k := fun hc e => by
    obtain ⟨_, _, kk⟩ := own_kind o2 e
    exact kind_ne kk hc (by decide) rfl
  refine ⟨⟨⟨cv, nv, aS, own_block o1 (fun k e => ?_), own_up (ownsRow_setCell_other hrow (by exact nnw) _) (fun k e => ?_), fun k e => ?_⟩, h.regs.keep (sm _ r1 (kind_ne k1 kw (by decide)) (npool k1)) (sm _ r2 (kind_ne k2 kw (by decide)) (fun e => (hkv _ e).1 rfl)), h.words.keep (sm _ w1 (kind_ne k3 kw (by decide)) (npool k3)) (sm _ w2 (kind_ne k4 kw (by decide)) (fun e => (hkv _ e).2 rfl)), h.tab, h.ne, h.low, h.few⟩, ⟨q1, q2, q3, by rw [World.size_setCell]; omega, fun k hk' hk2 => ?_, fun k c t f hc h1' h2' h3' h4' => ?_⟩⟩
  · obtain ⟨_, _, kk⟩ := own_kind o1 e
    refine sm k (o1.lt k e).2 (kind_ne kk kw (by decide)) fun e2 => ?_
    obtain ⟨_, _, kk2⟩ := own_kind o2 e2
    exact kind_ne kk kk2 (by decide) rfl
  · rcases hk k e with e' | e'
    · exact (o2.lt k e').1
    · omega
  · rcases hk k e with e' | e'
    · exact hkv k e'
    · exact ⟨by omega, by omega⟩
  · exact sm k hk2 (by omega) fun e => by have := (o2.lt k e).1; omega
  · refine sm k (heap_lt hc) (kind_ne hc kw h1') fun e => ?_
    obtain ⟨_, _, kk⟩ := own_kind o2 e
    exact kind_ne hc kk h4' rfl
set_option maxRecDepth 100000 in
set_option maxHeartbeats 2000000 in
theorem endCond_d {w : World} {p : WP} {C : List Ins} {G W K : List Nat} {a : Nat} (u : FrameMode) (h : WAt w p C G W (K ++ [a])) (hK : K.length ≤ 1000) :
    CallsD Tryz.prog 213 #[WV p] u w fun y u' w' => u' = u ∧ (y = .returned (.tuple #[]) ∧ WAt w' p C G W K ∧ Fk p.lo w w') := by
  obtain ⟨cv, kv, a1, o1, o2, hkv⟩ := h.rows
  have c := (wcell a1 h.tab).2.2.2
  have fz := a1.frozen 259
  have wl := a1.lt
  obtain ⟨g, kc, rfl⟩ : ∃ g kc, kv = .slice (some ⟨g, 0, none⟩) (K ++ [a]).length kc := by
    rcases Joins.ownsRow_forms o2 with ⟨rfl, h0⟩ | ⟨g, kc, rfl⟩
    · simp at h0
    · exact ⟨g, kc, rfl⟩
  have hlen : (K ++ [a]).length = K.length + 1 := by simp
  have hcap : K.length + 1 ≤ kc := by
    obtain ⟨_, ⟨e1, _⟩ | ⟨g', cap', cur, e1, _, _, hc, _⟩⟩ := o2
    · cases e1
    · cases e1
      rw [← hlen]; exact hc
  have hrow : w.ownsRow 0 3 1 (.slice (some ⟨g, 0, none⟩) K.length kc) K.length (ints (ofN K)) := by
    obtain ⟨_, ⟨e1, _⟩ | ⟨g', cap', cur, e1, _, hg, hc, hm, hs, ht⟩⟩ := o2
    · cases e1
    · cases e1
      refine ⟨by simp [ints, ofN], Or.inr ⟨g, kc, cur, rfl, Nat.zero_le _, hg, by omega, hm, hs, ?_⟩⟩
      have e3 : ints (ofN (K ++ [a])) = ints (ofN K) ++ [.int .i64 (a : Int)] := by unfold ints ofN; simp
      have e4 := congrArg (List.take (K.length * 1)) ht
      rw [List.take_take, e3, Nat.min_eq_left (by rw [hlen]; omega)] at e4
      rw [e4, List.take_append_of_le_length (by simp [ints, ofN]), List.take_of_length_le (by simp [ints, ofN])]
  have hE := cond_end (w3 := w.drew) (h := h) (K' := K) (nv := .slice (some ⟨g, 0, none⟩) K.length kc) a1 o1 o2 hkv hrow (fun _ _ _ => rfl) (fun k e => Or.inl e) (Nat.le_refl _) rfl rfl rfl
  have HE := hide hE
  rw [hlen] at c
  have e1 : wrap64 (((K.length + 1 : Nat) : Int) - 1) = (K.length : Int) := by unfold wrap64; omega
  have e2 : IntKind.i64.wrap (((K.length + 1 : Nat) : Int) - 1) = (K.length : Int) := by rw [IntKind.wrap_i64]; omega
  have e3 : IntKind.i64.wrap (K.length : Int) = (K.length : Int) := by rw [IntKind.wrap_i64]; omega
  have l1 : K.length ≤ kc := by omega
  have l2 : (K.length : Int) ≤ (kc : Int) := by omega
  generalize hL : K.length + 1 = L at *
  generalize hM : K.length = M at *
  clear h hE a1 o1 o2 hkv hrow hlen hL hcap
  go_enter_d Tryz.func213, Tryz.ntmps213
  go_upto_region 0 with fail
  go_region
  all_goals go_wp2_with fail
  all_goals go_end0
  all_goals exact ⟨rfl, HE.out⟩
def DosW (N : Nat) (l : List Do) : Prop := ∀ (B : Nat → Prop) (w : World) (p : WP) (C : List Ins) (W K : List Nat) (lv : Value) (us : List Value), WAt w p C R8 W K → DRow B w lv us → Each B w l us → (∀ k, B k → k < p.lo) → (∀ x ∈ W, x < 256) → V.wfL N l → needD.needL l ≤ W.length → C.length + cD.cDs l < 90000 → K.length + needD.needL l ≤ 1000 →
  Calls Tryz.prog 67 #[WV p, lv] w fun x w' => x = .returned (.tuple #[]) ∧ WAt w' p (C ++ dosC C.length W K.getLast? l) R8 W K ∧ Fk p.lo w w'
set_option maxRecDepth 100000 in
set_option maxHeartbeats 4000000 in
theorem dosUnder_c {N : Nat} {l : List Do} (hl : DosW N l) (wl : V.wfL N l) (B : Nat → Prop) (w : World) (p : WP) (C : List Ins) (W K : List Nat) (a : Nat) (lv : Value) (us : List Value) (h : WAt w p C R8 W K) (dr : DRow B w lv us) (de : Each B w l us) (hB : ∀ k, B k → k < p.lo) (hW : ∀ x ∈ W, x < 256) (hn : needD.needL l ≤ W.length) (hc : C.length + cD.cDs l < 90000) (hK : K.length + 1 + needD.needL l ≤ 1000) :
    Calls Tryz.prog 192 #[WV p, .int .i64 (a : Int), lv] w fun x w' => x = .returned (.tuple #[]) ∧ WAt w' p (C ++ dosC C.length W (some a) l) R8 W K ∧ Fk p.lo w w' := by
  obtain ⟨cv, kv, a1, o1, o2, hkv⟩ := h.rows
  have c := (wcell a1 h.tab).2.2.2
  have wl' := a1.lt
  obtain ⟨ka, kc, rfl⟩ : ∃ ka kc, kv = .slice ka K.length kc := by
    rcases Joins.ownsRow_forms o2 with ⟨rfl, h0⟩ | ⟨g, kc, rfl⟩
    · exact ⟨none, 0, by rw [h0]⟩
    · exact ⟨_, _, rfl⟩
  obtain ⟨la, ln, lc, hlv⟩ := dr.form
  subst hlv
  obtain ⟨j0, ji, jz0, jz1, jz2⟩ := info_parts info_i
  have nkw : ¬ (Value.slice ka K.length kc).ownBlock = some p.wb := fun e => by
    obtain ⟨_, _, k1⟩ := own_kind o2 e
    obtain ⟨_, _, kw⟩ := at_kind a1
    exact kind_ne k1 kw (by decide) rfl
  have hlast : (K ++ [a]).getLast? = some a := List.getLast?_concat
  have hdos := fun (w' : World) (h' : WAt w' p C R8 W (K ++ [a])) (f : Fk p.lo w w') => hl B w' p C W (K ++ [a]) (.slice la ln lc) us h' (dr.keep fun k b1 b2 => f.low k (hB k b1) b2) (de.keep fun k b1 b2 => f.low k (hB k b1) b2) hB hW wl hn hc (by rw [List.length_append]; show K.length + 1 + _ ≤ _; exact hK)
  rw [hlast] at hdos
  have HO := hide (Joins.ownsRow_le o2 (Nat.zero_le _))
  have H1 := hide a1
  have H2 := hide o1
  have H3 := hide o2
  have H4 := hide h
  have hK' : K.length ≤ 1000 := by omega
  clear h a1 o1 o2 dr de hlast hl wl hK hn
  generalize dosC C.length W (some a) l = DD at *
  go_enter_defers Tryz.func192, Tryz.ntmps192
  go_wp2_with (at_builtin; refine wpList_append_row1 _ rfl _ _ 32 rfl 3 j0 (.int .i64 0) 1 8 Tryz.underlying32 ji jz0 jz1 jz2 rfl (by decide) _ K.length (ints (ofN K)) rfl (by exact World.ownsRow.alloc HO.out _) ⟨w.heap.size, 0, none⟩ 1 1 [.int .i64 (a : Int)] rfl rfl (by exact row_new w [.int .i64 (a : Int)] _) (by intro u hu; simp only [List.mem_singleton] at hu; subst hu; rfl) (few_le (by omega)) (by omega) Nat.one_pos ?_; intro gg cap3 w3 hrow hgr hkk; have aW3 := (H1.out.alloc (.cells #[.int .i64 (a : Int)] 3 (0, 0))).of_block (hgr.block p.wb (by show p.wb < (World.alloc _ _).heap.size; rw [size_alloc]; omega) (fun e => nkw e.symm)); have cw := (wcell aW3 H4.out.tab).2.2.2; have fw := aW3.frozen 259; have HA3 := hide aW3; have HR3 := hide hrow; clear aW3 hrow)
  have hrow3 : w3.ownsRow 0 3 1 (.slice (some ⟨gg, 0, none⟩) (K.length + 1) cap3) (K ++ [a]).length (ints (ofN (K ++ [a]))) := by
    have e3 : ints (ofN (K ++ [a])) = ints (ofN K) ++ [.int .i64 (a : Int)] := by unfold ints ofN; simp
    rw [List.length_append, e3]
    exact HR3.out
  have hE := cond_end (w3 := w3) (h := H4.out) (K' := K ++ [a]) (nv := .slice (some ⟨gg, 0, none⟩) (K.length + 1) cap3) H1.out H2.out H3.out hkv hrow3 (fun k hk hn => (hgr.block k (by show k < (World.alloc _ _).heap.size; rw [size_alloc]; omega) (fun e => hn e.symm)).trans (heap_alloc_old _ _ _ hk)) (fun k e => (hkk k e).imp id (fun e' => by have e2 : (World.alloc _ _).heap.size ≤ k := e'; rw [size_alloc] at e2; omega)) (by have e2 : (World.alloc _ _).heap.size ≤ _ := hgr.size; rw [size_alloc] at e2; omega) (hgr.os.trans rfl) (hgr.tape.trans rfl) (hgr.output.trans rfl)
  have hd := hdos _ hE.1 hE.2
  have HE := hide hE.2
  clear hE hdos
  refine hd.mono ?_
  rintro y w5 ⟨rfl, h5, b5⟩
  go_wp2_with fail
  refine leaves_cons (f := 213) (args := #[WV p]) (by simp) (by simp [go_sem]) ?_
  refine (endCond_d .returning h5 hK').mono ?_
  rintro y u' w6 ⟨rfl, rfl, h6, b6⟩
  exact ⟨_, results_none rfl _ _ _, rfl, h6, (HE.out.trans b5).trans b6⟩
end Y
end Go.Proofs.YtejbgcloblpbfaaGreatDoor
namespace Go.Proofs.YtejbgcloblpbfaaGreatDoor
open Go.RowKit
open K (Nm)
namespace Y
theorem run_k (s : ByteArray) (w : World) (hm : s.size ≤ maxLen) (hv : K.Vars w) (hw : 5 ≤ w.heap.size) (aM : Option Addr) (cM : Nat) (ms : List Int)
    (hM : ∀ (j : Nat) u, ms[j]? = some u → ∃ gm o, aM = some ⟨gm, o, none⟩ ∧ gm < w.heap.size ∧ w.cell? ⟨gm, o + j, none⟩ = some (.int .i64 u)) :
    Calls Tryz.prog 21 #[.string s, .slice aM ms.length cM] w fun x w' => ((¬ (R.read s).err = 0 ∧ x = .returned (.tuple #[.slice none 0 0, .int .i64 (R.read s).err])) ∨
      ((R.read s).err = 0 ∧ ¬ ms.length = (R.read s).shape.length ∧ x = .returned (.tuple #[.slice none 0 0, .int .i64 8])) ∨
      ((R.read s).err = 0 ∧ ms.length = (R.read s).shape.length ∧ ∃ g, x = .returned (.tuple #[.slice (some ⟨g, 0, none⟩) ms.length ms.length, .int .i64 0]) ∧ w.heap.size ≤ g ∧ At w' g 3 (((V.rds (K.progD (R.toks s)) (ms ++ [0, 0])).take ms.length).map fun n => .int .i64 n))) ∧ Below w.heap.size w w' := by
  by_cases hl : 800 < s.size
  · have e := read_long_err hl
    refine (run_err (E := 1) (Q := 0) aM ms.length cM rfl (by decide) (mread_long s w hl hm)).mono fun x w' h => ⟨Or.inl ⟨by rw [e]; decide, by rw [e]; exact h.1⟩, h.2⟩
  · have hr := mread_c (fun l h => gds_of l (gdl_c l h)) s w (by omega) hv hw
    by_cases he : (R.read s).err = 0
    · obtain ⟨p1, p2, p3, p4, p5, p6, p7, p8⟩ := Q.shape_ok (by omega) he
      have hwf := scl_wf (K.progD (R.toks s)) (by omega : 0 ≤ 2) (prog_al (s := s) (by omega) he).sc
      by_cases hne : ms.length = (R.read s).shape.length
      · have hg := run_go (s := s) (w := w) (N := ms.length) (by omega) ms rfl (K.progD (R.toks s)) (by rw [hne]; exact hwf) (aM := aM) (cM := cM) hM (hr.mono fun x w' h => ?_)
        · exact hg.mono fun x w' h => ⟨Or.inr (Or.inr ⟨he, hne, h.1⟩), h.2⟩
        · obtain ⟨hx, hb⟩ := h
          refine ⟨?_, hb⟩
          rcases hx with ⟨h1, _⟩ | ⟨_, h1, _⟩ | ⟨_, _, nv, dv, us, rfl, nr, dr, de⟩
          · exact absurd p1 h1
          · rw [p2] at h1; cases h1
          · obtain ⟨da, dn, dc, rfl⟩ := dr.form
            obtain ⟨na, nn, nc, rfl⟩ := nms_form nr
            exact ⟨na, nn, nc, da, dn, dc, us, by rw [p4, hne], dr, de⟩
      · have hg := run_arg (s := s) (w := w) (N := (R.read s).shape.length) (aM := aM) (nM := ms.length) (cM := cM) hne (hr.mono fun x w' h => ?_)
        · exact hg.mono fun x w' h => ⟨Or.inr (Or.inl ⟨he, hne, h.1⟩), h.2⟩
        · obtain ⟨hx, hb⟩ := h
          refine ⟨?_, hb⟩
          rcases hx with ⟨h1, _⟩ | ⟨_, h1, _⟩ | ⟨_, _, nv, dv, us, rfl, nr, dr, de⟩
          · exact absurd p1 h1
          · rw [p2] at h1; cases h1
          · obtain ⟨da, dn, dc, rfl⟩ := dr.form
            obtain ⟨na, nn, nc, rfl⟩ := nms_form nr
            exact ⟨na, nn, nc, da, dn, dc, by rw [p4]⟩
    · have hk := Q.check_read (R.toks_ended s)
      have hc : K.check s = K.checkT (R.toks s) := by unfold K.check; rw [if_neg hl]
      rw [hc] at hk
      unfold K.checkT at hk
      have hk1 := congrArg Prod.fst hk
      dsimp only at hk1
      generalize (R.read s).err = E at *
      refine (run_err (E := E) (Q := (K.checkT (R.toks s)).2) aM ms.length cM rfl he (hr.mono fun x w' h => ⟨?_, h.2⟩)).mono fun x w' h => ⟨Or.inl ⟨he, h.1⟩, h.2⟩
      unfold K.checkT
      rcases h.1 with ⟨h1, h2⟩ | ⟨h1, h2, h3⟩ | ⟨h1, h2, _⟩
      · rw [if_neg h1] at hk1 ⊢
        rw [h2]
        rw [← hk1]
      · rw [if_pos h1, if_pos h2] at hk1 ⊢
        rw [h3]
        rw [← hk1]
      · rw [if_pos h1, if_neg (by rw [h2]; decide)] at hk1
        exact absurd hk1.symm he
end Y
end Go.Proofs.YtejbgcloblpbfaaGreatDoor
