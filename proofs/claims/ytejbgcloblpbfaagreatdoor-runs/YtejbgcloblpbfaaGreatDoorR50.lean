import Derived.Test.YtejbgcloblpbfaaGreatDoorR49
namespace Go.Proofs.YtejbgcloblpbfaaGreatDoor
open Go.RowKit
theorem book_new {w : World} {b : Nat} (h : At w b 45 [.slice none 0 0]) : Book w b (fun q => q = b) [] := by
  refine ⟨.slice none 0 0, fun _ => False, h, World.ownsRow_nil _ _ _ _, fun k hk => (by cases hk), rfl, fun x => x, fun q x => x.elim, fun q x => ?_, fun i v hv => by simp at hv, by simp⟩
  rw [x]
  exact h.lt
theorem but_of_out {b : Nat} {X : Nat → Prop} {a w w' : World} (h : But b a w) (o : Out X w w') (hx : ∀ k, k < a.heap.size → k ≠ b → ¬ X k) : But b a w' :=
  ⟨o.os.trans h.os, o.tape.trans h.tape, o.output.trans h.output, Nat.le_trans h.size o.size, fun k hk hb => (o.block k (Nat.lt_of_lt_of_le hk h.size) (hx k hk hb)).trans (h.block k hk hb)⟩
theorem but_below' {b B : Nat} {a w w' : World} (h : But b a w) (hb : Below B w w') (hB : a.heap.size ≤ B) : But b a w' :=
  ⟨hb.os.trans h.os, hb.tape.trans h.tape, hb.output.trans h.output, Nat.le_trans h.size hb.size, fun k hk hne => (hb.block k (by omega)).trans (h.block k hk hne)⟩
theorem Still.but {b : Nat} {a w w' : World} (h : But b a w) (s : Still w w') : But b a w' :=
  ⟨s.os.trans h.os, s.tape.trans h.tape, s.output.trans h.output, by rw [s.heap]; exact h.size, fun k hk hne => by rw [s.heap]; exact h.block k hk hne⟩
theorem Still.blk {w w' : World} (s : Still w w') (g : Nat) : w'.heap[g]? = w.heap[g]? := by rw [s.heap]
set_option maxRecDepth 100000 in
set_option maxHeartbeats 4000000 in
theorem runs_bad {s t : ByteArray} {w : World} {aM : Option Addr} {cM : Nat} {ms : List Int} {E : Int} (hE : ¬ E = 0) (ht : t = fortyS) (hmem : MAt w w.heap.size aM cM ms)
    (h1 : Calls Tryz.prog 15 #[.string s] (w.alloc (.cells #[.slice none 0 0] 45 (0, 0))) fun x w1 => ∃ b, x = .returned (.pointer (some ⟨b, 0, none⟩)) ∧ Below (w.heap.size + 1) (w.alloc (.cells #[.slice none 0 0] 45 (0, 0))) w1 ∧ b < w1.heap.size ∧ ¬ b = w.heap.size ∧ w1.cell? ⟨b, 2, none⟩ = some (.int .i64 E))
    (h2 : ∀ (w' : World) (ra : Option Addr) (rc : Nat), Below w.heap.size w w' → (∀ (j : Nat) u, ms[j]? = some u → ∃ gm o, ra = some ⟨gm, o, none⟩ ∧ gm < w'.heap.size ∧ w'.cell? ⟨gm, o + j, none⟩ = some (.int .i64 u)) → Calls Tryz.prog 21 #[.string s, .slice ra ms.length rc] w' fun x w'' => x = .returned (.tuple #[.slice none 0 0, .int .i64 E]) ∧ Below w'.heap.size w' w'')
    (h3 : ∀ (w' : World) (g : Nat), Below w.heap.size w w' → At w' g 3 [.int .i64 41] → Calls Tryz.prog 21 #[.string t, .slice (some ⟨g, 0, none⟩) 1 1] w' fun x w'' => (∃ h, x = .returned (.tuple #[.slice (some ⟨h, 0, none⟩) 1 1, .int .i64 0]) ∧ At w'' h 3 [.int .i64 42]) ∧ Below w'.heap.size w' w'') :
    Calls Tryz.prog 5 #[.string s, .slice aM ms.length cM] w fun x w' => x = .returned (.bool true) ∧ Below w.heap.size w w' := by
  subst ht
  have h4 := fun (w' : World) => num_s E w'
  have hrm : Hid (ms.length ≤ 20000000000000) := by have := hmem.room; show _ ≤ _; omega
  have HM := hide hmem
  clear hmem
  have hn0 : ∀ w : World, (binOp .eql 32 (.slice none 0 0) (.slice none 0 0)).run Tryz.prog w = .ok (.bool true) w := fun w => Lib.run_eql_slice_nil w _ _ none 0 0 0 0 Tryz.underlying32
  go_enter Tryz.func5, Tryz.ntmps5
  go_wp2_with fail
  refine h1.mono ?_
  rintro x w1 ⟨b, rfl, B1, hbl, hbne, c2⟩
  have B1' : Below w.heap.size w w1 := (Below.refl w.heap.size w).alloc (Nat.le_refl _) (.cells #[.slice none 0 0] 45 (0, 0)) |>.trans (B1.mono (Nat.le_succ _))
  have bkA : At w1 w.heap.size 45 [.slice none 0 0] := (At.alloc_new w _ _).of_block (B1.block _ (Nat.lt_succ_self _))
  have bkl := bkA.lt
  have bk0 := book_new bkA
  have BK0 := hide bk0
  clear bk0
  go_wp2_with fail
  go_loopg [7] 4 (fun gk kk wr => ∃ (k : Nat) (U : Nat → Prop) (vs : List Value), k + gk = 4 ∧ kk = .int .i64 (k : Int) ∧ vs.length = k ∧ But w.heap.size w1 wr ∧ Hid (Book wr w.heap.size U vs) ∧ Hid (∀ q, U q → q = w.heap.size ∨ w1.heap.size ≤ q))
  case atStart => exact ⟨0, _, [], rfl, rfl, rfl, But.refl _ _, BK0.out, fun q h => Or.inl h⟩
  case round =>
    obtain ⟨k, U, vs, hk, rfl, hvl, BW, HB, HU⟩ := hrel
    have zr := BW.size
    have BWb : Below w.heap.size w wr := B1'.trans (but_below BW (Nat.le_refl _) (by omega))
    cases gk with
    | zero =>
      have hz : ¬ ((k : Int) < 4) := by omega
      have h3' := h3 (wr.alloc (.cells #[.int .i64 41] 3 (0, 0))) wr.heap.size (BWb.alloc BWb.size _) (At.alloc_new wr _ _)
      go_wp2_with fail
      refine h3'.mono ?_
      rintro x w2 ⟨⟨g, rfl, aG⟩, hb2⟩
      have B2 := (BWb.alloc BWb.size (.cells #[.int .i64 41] 3 (0, 0))).trans (hb2.mono (by have := BWb.size; rw [size_alloc]; omega))
      have z2 := hb2.size
      rw [size_alloc] at z2
      have aG' := aG.alloc (.cells #[.int .i64 42] 3 (0, 0))
      have aN := At.alloc_new w2 [.int .i64 42] 3
      have hsm := same_c (l := [42]) (w := w2.alloc (.cells #[.int .i64 42] 3 (0, 0))) (a := some ⟨g, 0, none⟩) (b := some ⟨w2.heap.size, 0, none⟩) (ca := 1) (cb := 1) (by decide) (fun j u hu => by match j, hu with | 0, hu => cases hu; exact ⟨g, 0, rfl, aG'.cell 0⟩ | j + 1, hu => simp at hu) (fun j u hu => by match j, hu with | 0, hu => cases hu; exact ⟨_, 0, rfl, aN.cell 0⟩ | j + 1, hu => simp at hu)
      go_wp2_with fail
      refine hsm.mono ?_
      rintro x w3 ⟨rfl, S3⟩
      have BB3 : Book w3 w.heap.size U vs := (HB.out.below (((Below.refl _ _).alloc (Nat.le_refl _) _).trans (hb2.mono (by rw [size_alloc]; omega)))).keep (fun q hq => (by rw [S3.heap]; exact heap_alloc_old _ _ _ (by have := HB.out.lt q hq; omega))) (by rw [S3.heap, size_alloc]; omega)
      have hlk := looks_c BB3
      have B3 := (B2.alloc B2.size (.cells #[.int .i64 42] 3 (0, 0))).trans (S3.below _)
      go_wp2_with fail
      refine hlk.mono ?_
      rintro x w4 ⟨rfl, S4⟩
      go_wp2_with fail
      go_ret
      exact ⟨rfl, B3.trans (S4.below _)⟩
    | succ g1 =>
      have hz : (k : Int) < 4 := by omega
      have MW : MAt wr w.heap.size aM cM ms := HM.out.keep (fun q hq => BWb.block q hq)
      have hro := roomy_all MW
      have MWn := MW.nil
      have HMW := hide MW
      clear MW
      go_wp2_with fail
      refine hro.mono ?_
      rintro x w2 ⟨⟨ra, rc, rfl, hra, hrl⟩, hb2⟩
      have HRA := hide hra
      have HRL := hide hrl
      clear hra hrl
      have z2 := hb2.size
      have B2 : Below w.heap.size w w2 := BWb.trans (hb2.mono BWb.size)
      have h2' := h2 w2 ra rc B2 (HRA.out.mem (fun e => (MWn e).1))
      go_wp2_with fail
      refine h2'.mono ?_
      rintro x w3 ⟨rfl, hb3⟩
      have z3 := hb3.size
      have BW3 : But w.heap.size w1 w3 := but_below' (but_below' BW hb2 zr) hb3 (by omega)
      have c2' : w3.cell? ⟨b, 2, none⟩ = some (.int .i64 E) := (World.cell?_of_block (BW3.block b hbl hbne)).trans c2
      have hne : (decide (E = 0)) = false := by simp [hE]
      have hne2 : (E != 0) = true := by simp [hE]
      have HB3 := hide ((HB.out.below hb2).below hb3)
      have gU : ∀ g, w2.heap.size ≤ g → ¬ U g := fun g hg h => by have := HB.out.lt g h; omega
      obtain ⟨w4, hw4⟩ : ∃ w4 : World, w4 = w3 := ⟨_, rfl⟩
      have HB4 : Hid (Book w4 w.heap.size U vs) := by rw [hw4]; exact HB3
      have BW4 : But w.heap.size w1 w4 := by rw [hw4]; exact BW3
      subst hw4
      have hkb := keep_book (ao := (none : Option Addr)) (n := 0) (l := ([] : List Value)) HB4.out (by omega) (by omega) (fun _ => rfl) (fun a e => by cases e)
      go_wp2_with fail
      refine hkb.mono ?_
      rintro x w5 ⟨rfl, ⟨e, hbk5⟩, O5⟩
      have HB5 := hide hbk5
      clear hbk5
      have z5 := O5.size
      have nX : ∀ q, q < w1.heap.size → q ≠ w.heap.size → ¬ (U q ∨ (none : Option Addr) = some ⟨q, 0, none⟩) := by
        rintro q hq hne (h | h)
        · rcases HU.out q h with h | h
          · exact hne h
          · omega
        · cases h
      have BW5 : But w.heap.size w1 w5 := but_of_out BW4 O5 nX
      have BW5b : Below w.heap.size w w5 := B1'.trans (but_below BW5 (Nat.le_refl _) (by omega))
      have rU : ∀ g, ra = some ⟨g, 0, none⟩ → ¬ (U g ∨ (none : Option Addr) = some ⟨g, 0, none⟩) ∧ g < w4.heap.size ∧ w1.heap.size ≤ g := by
        intro g e
        have h1' := HRL.out g e
        rcases HRA.out with ⟨e', _⟩ | ⟨g', rest, _, _, e', _, _, aR⟩
        · rw [e'] at e; cases e
        · rw [e'] at e; cases e
          have := aR.lt
          refine ⟨?_, by omega, by omega⟩
          rintro (h | h)
          · have := HB.out.lt g h; omega
          · cases h
      have hR5 : RA w5 aM ms ra rc := ((HRA.out.keep (w' := w4) (fun g e => hb3.block g (by rcases HRA.out with ⟨e', _⟩ | ⟨g', rest, _, _, e', _, _, aR⟩; (· rw [e'] at e; cases e); (· rw [e'] at e; cases e; exact aR.lt)))).keep (fun g e => O5.block g (rU g e).2.1 (rU g e).1))
      have M5 : MAt w5 w.heap.size aM cM ms := HM.out.keep (fun q hq => BW5b.block q hq)
      have hkp := kept_all M5 hR5
      have HR5 := hide hR5
      clear hR5 M5
      go_wp2_with fail
      refine hkp.mono ?_
      rintro x w6 ⟨rfl, S6⟩
      have BW6 := S6.but BW5
      have hR6 : RA w6 aM ms ra rc := HR5.out.keep (fun g e => by rw [S6.heap])
      have HB6 := hide (HB5.out.keep (fun q _ => by rw [S6.heap]) (by rw [S6.heap]; exact Nat.le_refl _))
      have HR6 := hide hR6
      clear hR6
      go_wp2_with fail
      obtain ⟨wo, rfl⟩ : ∃ wo : World, wo = wr := ⟨_, rfl⟩
      go_loopg [14] ms.length (fun g2 ii wy => ∃ m : Nat, m + g2 = ms.length ∧ ii = .int .i64 (m : Int) ∧ Hid (∀ g, ra = some ⟨g, 0, none⟩ → ∃ l', At wy g 3 l' ∧ ms.length ≤ l'.length) ∧ wy.heap.size = w6.heap.size ∧ Hid (∀ q, ¬ ra = some ⟨q, 0, none⟩ → wy.heap[q]? = w6.heap[q]?) ∧ wy.os = w6.os ∧ wy.tape = w6.tape ∧ wy.output = w6.output)
      case atStart =>
        refine ⟨0, by omega, rfl, fun g e => ?_, rfl, fun _ _ => rfl, rfl, rfl, rfl⟩
        rcases HR6.out with ⟨e', _⟩ | ⟨g', rest, _, _, e', _, _, aR⟩
        · rw [e'] at e; cases e
        · rw [e'] at e; cases e
          exact ⟨_, aR, by unfold ints; simp⟩
      case round =>
        obtain ⟨m, hm, rfl, HL, hsz, HQ, q1, q2, q3⟩ := hrel
        cases gk with
        | succ g2 =>
          have hy : (m : Int) < (ms.length : Int) := by omega
          obtain ⟨g, rfl⟩ : ∃ g, ra = some ⟨g, 0, none⟩ := by
            rcases HR6.out with ⟨e', e'', _⟩ | ⟨g', rest, _, _, e', _, _, aR⟩
            · have := (MWn e'').1
              subst this
              simp at hm
            · exact ⟨g', e'⟩
          obtain ⟨l', a', hl'⟩ := HL.out g rfl
          obtain ⟨u, hu⟩ : ∃ u, l'[m]? = some u := ⟨_, List.getElem?_eq_getElem (by omega)⟩
          have c0 := a'.cell m
          rw [hu] at c0
          have f0 := a'.frozen m
          clear HL
          go_wp2_with fail
          go_roundg g2
          case measure => omega
          case rel =>
            have hrm' := hrm.out
            have em : wrap64 ((m : Int) + 1) = ((m + 1 : Nat) : Int) := by unfold wrap64; omega
            refine ⟨m + 1, by omega, by first | (rw [em]) | rfl | (simp), fun g' e => ?_, by rw [World.size_setCell]; exact hsz, fun q hq => (heap_setCell_other _ _ _ _ (fun e => hq (by rw [e]))).trans (HQ.out q hq), q1, q2, q3⟩
            cases e
            exact ⟨_, a'.set m _, by rw [List.length_set]; exact hl'⟩
        | zero =>
          have hy : ¬ ((m : Int) < (ms.length : Int)) := by omega
          have nR : ∀ q, (U q ∨ (none : Option Addr) = some ⟨q, 0, none⟩ ∨ w4.heap.size ≤ q ∧ q < w5.heap.size) → ¬ ra = some ⟨q, 0, none⟩ := by
            intro q hq e
            obtain ⟨r1, r2, r3⟩ := rU q e
            rcases hq with h | h | h
            · exact r1 (Or.inl h)
            · exact r1 (Or.inr h)
            · omega
          have hbk7 := HB6.out.keep (w' := wr) (fun q hq => HQ.out q (nR q hq)) (by rw [hsz]; exact Nat.le_refl _)
          have hlk := looks_c hbk7
          have BW7 : But w.heap.size w1 wr := ⟨q1.trans BW6.os, q2.trans BW6.tape, q3.trans BW6.output, by rw [hsz]; exact BW6.size, fun q hq hne => (HQ.out q (fun e => by have := (rU q e).2.2; omega)).trans (BW6.block q hq hne)⟩
          have HB7 := hide hbk7
          clear hbk7
          go_wp2_with fail
          refine hlk.mono ?_
          rintro x w8 ⟨rfl, S8⟩
          have BW8 := S8.but BW7
          go_wp2_with fail
          refine (h4 _).mono ?_
          rintro x w9 ⟨rfl, rfl⟩
          go_wp2_with fail
          go_roundg g1
          case measure => omega
          case rel =>
            refine ⟨k + 1, _, vs ++ [e], by omega, by go_num, by simp [hvl], ?_, HB7.out.keep (fun q _ => by rw [S8.heap]) (by rw [S8.heap]; exact Nat.le_refl _), fun q hq => ?_⟩
            · exact BW8
            · rcases hq with h | h | h
              · exact HU.out q h
              · cases h
              · exact Or.inr (by omega)
set_option maxRecDepth 100000 in
set_option maxHeartbeats 4000000 in
theorem runs_arg {s t : ByteArray} {w : World} {aM : Option Addr} {cM : Nat} {ms : List Int} {SZ : Int} (hS : ¬ (ms.length : Int) = SZ) (ht : t = fortyS) (hmem : MAt w w.heap.size aM cM ms)
    (h1 : Calls Tryz.prog 15 #[.string s] (w.alloc (.cells #[.slice none 0 0] 45 (0, 0))) fun x w1 => ∃ b, x = .returned (.pointer (some ⟨b, 0, none⟩)) ∧ Below (w.heap.size + 1) (w.alloc (.cells #[.slice none 0 0] 45 (0, 0))) w1 ∧ b < w1.heap.size ∧ ¬ b = w.heap.size ∧ w1.cell? ⟨b, 2, none⟩ = some (.int .i64 0) ∧ w1.cell? ⟨b, 6, none⟩ = some (.int .i64 SZ))
    (h2 : ∀ (w' : World) (ra : Option Addr) (rc : Nat), Below w.heap.size w w' → (∀ (j : Nat) u, ms[j]? = some u → ∃ gm o, ra = some ⟨gm, o, none⟩ ∧ gm < w'.heap.size ∧ w'.cell? ⟨gm, o + j, none⟩ = some (.int .i64 u)) → Calls Tryz.prog 21 #[.string s, .slice ra ms.length rc] w' fun x w'' => x = .returned (.tuple #[.slice none 0 0, .int .i64 8]) ∧ Below w'.heap.size w' w'')
    (h3 : ∀ (w' : World) (g : Nat), Below w.heap.size w w' → At w' g 3 [.int .i64 41] → Calls Tryz.prog 21 #[.string t, .slice (some ⟨g, 0, none⟩) 1 1] w' fun x w'' => (∃ h, x = .returned (.tuple #[.slice (some ⟨h, 0, none⟩) 1 1, .int .i64 0]) ∧ At w'' h 3 [.int .i64 42]) ∧ Below w'.heap.size w' w'') :
    Calls Tryz.prog 5 #[.string s, .slice aM ms.length cM] w fun x w' => x = .returned (.bool true) ∧ Below w.heap.size w w' := by
  subst ht
  have h4 := fun (w' : World) => num_s 8 w'
  have hrm : Hid (ms.length ≤ 20000000000000) := by have := hmem.room; show _ ≤ _; omega
  have HM := hide hmem
  clear hmem
  have hn0 : ∀ w : World, (binOp .eql 32 (.slice none 0 0) (.slice none 0 0)).run Tryz.prog w = .ok (.bool true) w := fun w => Lib.run_eql_slice_nil w _ _ none 0 0 0 0 Tryz.underlying32
  go_enter Tryz.func5, Tryz.ntmps5
  go_wp2_with fail
  refine h1.mono ?_
  rintro x w1 ⟨b, rfl, B1, hbl, hbne, c2, c6⟩
  have B1' : Below w.heap.size w w1 := (Below.refl w.heap.size w).alloc (Nat.le_refl _) (.cells #[.slice none 0 0] 45 (0, 0)) |>.trans (B1.mono (Nat.le_succ _))
  have bkA : At w1 w.heap.size 45 [.slice none 0 0] := (At.alloc_new w _ _).of_block (B1.block _ (Nat.lt_succ_self _))
  have bkl := bkA.lt
  have bk0 := book_new bkA
  have BK0 := hide bk0
  clear bk0
  go_wp2_with fail
  go_loopg [7] 4 (fun gk kk wr => ∃ (k : Nat) (U : Nat → Prop) (vs : List Value), k + gk = 4 ∧ kk = .int .i64 (k : Int) ∧ vs.length = k ∧ But w.heap.size w1 wr ∧ Hid (Book wr w.heap.size U vs) ∧ Hid (∀ q, U q → q = w.heap.size ∨ w1.heap.size ≤ q))
  case atStart => exact ⟨0, _, [], rfl, rfl, rfl, But.refl _ _, BK0.out, fun q h => Or.inl h⟩
  case round =>
    obtain ⟨k, U, vs, hk, rfl, hvl, BW, HB, HU⟩ := hrel
    have zr := BW.size
    have BWb : Below w.heap.size w wr := B1'.trans (but_below BW (Nat.le_refl _) (by omega))
    cases gk with
    | zero =>
      have hz : ¬ ((k : Int) < 4) := by omega
      have h3' := h3 (wr.alloc (.cells #[.int .i64 41] 3 (0, 0))) wr.heap.size (BWb.alloc BWb.size _) (At.alloc_new wr _ _)
      go_wp2_with fail
      refine h3'.mono ?_
      rintro x w2 ⟨⟨g, rfl, aG⟩, hb2⟩
      have B2 := (BWb.alloc BWb.size (.cells #[.int .i64 41] 3 (0, 0))).trans (hb2.mono (by have := BWb.size; rw [size_alloc]; omega))
      have z2 := hb2.size
      rw [size_alloc] at z2
      have aG' := aG.alloc (.cells #[.int .i64 42] 3 (0, 0))
      have aN := At.alloc_new w2 [.int .i64 42] 3
      have hsm := same_c (l := [42]) (w := w2.alloc (.cells #[.int .i64 42] 3 (0, 0))) (a := some ⟨g, 0, none⟩) (b := some ⟨w2.heap.size, 0, none⟩) (ca := 1) (cb := 1) (by decide) (fun j u hu => by match j, hu with | 0, hu => cases hu; exact ⟨g, 0, rfl, aG'.cell 0⟩ | j + 1, hu => simp at hu) (fun j u hu => by match j, hu with | 0, hu => cases hu; exact ⟨_, 0, rfl, aN.cell 0⟩ | j + 1, hu => simp at hu)
      go_wp2_with fail
      refine hsm.mono ?_
      rintro x w3 ⟨rfl, S3⟩
      have BB3 : Book w3 w.heap.size U vs := (HB.out.below (((Below.refl _ _).alloc (Nat.le_refl _) _).trans (hb2.mono (by rw [size_alloc]; omega)))).keep (fun q hq => (by rw [S3.heap]; exact heap_alloc_old _ _ _ (by have := HB.out.lt q hq; omega))) (by rw [S3.heap, size_alloc]; omega)
      have hlk := looks_c BB3
      have B3 := (B2.alloc B2.size (.cells #[.int .i64 42] 3 (0, 0))).trans (S3.below _)
      go_wp2_with fail
      refine hlk.mono ?_
      rintro x w4 ⟨rfl, S4⟩
      go_wp2_with fail
      go_ret
      exact ⟨rfl, B3.trans (S4.below _)⟩
    | succ g1 =>
      have hz : (k : Int) < 4 := by omega
      have MW : MAt wr w.heap.size aM cM ms := HM.out.keep (fun q hq => BWb.block q hq)
      have hro := roomy_all MW
      have MWn := MW.nil
      have HMW := hide MW
      clear MW
      go_wp2_with fail
      refine hro.mono ?_
      rintro x w2 ⟨⟨ra, rc, rfl, hra, hrl⟩, hb2⟩
      have HRA := hide hra
      have HRL := hide hrl
      clear hra hrl
      have z2 := hb2.size
      have B2 : Below w.heap.size w w2 := BWb.trans (hb2.mono BWb.size)
      have h2' := h2 w2 ra rc B2 (HRA.out.mem (fun e => (MWn e).1))
      go_wp2_with fail
      refine h2'.mono ?_
      rintro x w3 ⟨rfl, hb3⟩
      have z3 := hb3.size
      have BW3 : But w.heap.size w1 w3 := but_below' (but_below' BW hb2 zr) hb3 (by omega)
      have c2' : w3.cell? ⟨b, 2, none⟩ = some (.int .i64 0) := (World.cell?_of_block (BW3.block b hbl hbne)).trans c2
      have c6' : w3.cell? ⟨b, 6, none⟩ = some (.int .i64 SZ) := (World.cell?_of_block (BW3.block b hbl hbne)).trans c6
      have HB3 := hide ((HB.out.below hb2).below hb3)
      have gU : ∀ g, w2.heap.size ≤ g → ¬ U g := fun g hg h => by have := HB.out.lt g h; omega
      obtain ⟨w4, hw4⟩ : ∃ w4 : World, w4 = w3 := ⟨_, rfl⟩
      have HB4 : Hid (Book w4 w.heap.size U vs) := by rw [hw4]; exact HB3
      have BW4 : But w.heap.size w1 w4 := by rw [hw4]; exact BW3
      subst hw4
      have hkb := keep_book (ao := (none : Option Addr)) (n := 0) (l := ([] : List Value)) HB4.out (by omega) (by omega) (fun _ => rfl) (fun a e => by cases e)
      go_wp2_with fail
      refine hkb.mono ?_
      rintro x w5 ⟨rfl, ⟨e, hbk5⟩, O5⟩
      have HB5 := hide hbk5
      clear hbk5
      have z5 := O5.size
      have nX : ∀ q, q < w1.heap.size → q ≠ w.heap.size → ¬ (U q ∨ (none : Option Addr) = some ⟨q, 0, none⟩) := by
        rintro q hq hne (h | h)
        · rcases HU.out q h with h | h
          · exact hne h
          · omega
        · cases h
      have BW5 : But w.heap.size w1 w5 := but_of_out BW4 O5 nX
      have BW5b : Below w.heap.size w w5 := B1'.trans (but_below BW5 (Nat.le_refl _) (by omega))
      have rU : ∀ g, ra = some ⟨g, 0, none⟩ → ¬ (U g ∨ (none : Option Addr) = some ⟨g, 0, none⟩) ∧ g < w4.heap.size ∧ w1.heap.size ≤ g := by
        intro g e
        have h1' := HRL.out g e
        rcases HRA.out with ⟨e', _⟩ | ⟨g', rest, _, _, e', _, _, aR⟩
        · rw [e'] at e; cases e
        · rw [e'] at e; cases e
          have := aR.lt
          refine ⟨?_, by omega, by omega⟩
          rintro (h | h)
          · have := HB.out.lt g h; omega
          · cases h
      have hR5 : RA w5 aM ms ra rc := ((HRA.out.keep (w' := w4) (fun g e => hb3.block g (by rcases HRA.out with ⟨e', _⟩ | ⟨g', rest, _, _, e', _, _, aR⟩; (· rw [e'] at e; cases e); (· rw [e'] at e; cases e; exact aR.lt)))).keep (fun g e => O5.block g (rU g e).2.1 (rU g e).1))
      have M5 : MAt w5 w.heap.size aM cM ms := HM.out.keep (fun q hq => BW5b.block q hq)
      have hkp := kept_all M5 hR5
      have HR5 := hide hR5
      clear hR5 M5
      go_wp2_with fail
      refine hkp.mono ?_
      rintro x w6 ⟨rfl, S6⟩
      have BW6 := S6.but BW5
      have hR6 : RA w6 aM ms ra rc := HR5.out.keep (fun g e => by rw [S6.heap])
      have HB6 := hide (HB5.out.keep (fun q _ => by rw [S6.heap]) (by rw [S6.heap]; exact Nat.le_refl _))
      have HR6 := hide hR6
      clear hR6
      go_wp2_with fail
      obtain ⟨wo, rfl⟩ : ∃ wo : World, wo = wr := ⟨_, rfl⟩
      go_loopg [14] ms.length (fun g2 ii wy => ∃ m : Nat, m + g2 = ms.length ∧ ii = .int .i64 (m : Int) ∧ Hid (∀ g, ra = some ⟨g, 0, none⟩ → ∃ l', At wy g 3 l' ∧ ms.length ≤ l'.length) ∧ wy.heap.size = w6.heap.size ∧ Hid (∀ q, ¬ ra = some ⟨q, 0, none⟩ → wy.heap[q]? = w6.heap[q]?) ∧ wy.os = w6.os ∧ wy.tape = w6.tape ∧ wy.output = w6.output)
      case atStart =>
        refine ⟨0, by omega, rfl, fun g e => ?_, rfl, fun _ _ => rfl, rfl, rfl, rfl⟩
        rcases HR6.out with ⟨e', _⟩ | ⟨g', rest, _, _, e', _, _, aR⟩
        · rw [e'] at e; cases e
        · rw [e'] at e; cases e
          exact ⟨_, aR, by unfold ints; simp⟩
      case round =>
        obtain ⟨m, hm, rfl, HL, hsz, HQ, q1, q2, q3⟩ := hrel
        cases gk with
        | succ g2 =>
          have hy : (m : Int) < (ms.length : Int) := by omega
          obtain ⟨g, rfl⟩ : ∃ g, ra = some ⟨g, 0, none⟩ := by
            rcases HR6.out with ⟨e', e'', _⟩ | ⟨g', rest, _, _, e', _, _, aR⟩
            · have := (MWn e'').1
              subst this
              simp at hm
            · exact ⟨g', e'⟩
          obtain ⟨l', a', hl'⟩ := HL.out g rfl
          obtain ⟨u, hu⟩ : ∃ u, l'[m]? = some u := ⟨_, List.getElem?_eq_getElem (by omega)⟩
          have c0 := a'.cell m
          rw [hu] at c0
          have f0 := a'.frozen m
          clear HL
          go_wp2_with fail
          go_roundg g2
          case measure => omega
          case rel =>
            have hrm' := hrm.out
            have em : wrap64 ((m : Int) + 1) = ((m + 1 : Nat) : Int) := by unfold wrap64; omega
            refine ⟨m + 1, by omega, by first | (rw [em]) | rfl | (simp), fun g' e => ?_, by rw [World.size_setCell]; exact hsz, fun q hq => (heap_setCell_other _ _ _ _ (fun e => hq (by rw [e]))).trans (HQ.out q hq), q1, q2, q3⟩
            cases e
            exact ⟨_, a'.set m _, by rw [List.length_set]; exact hl'⟩
        | zero =>
          have hy : ¬ ((m : Int) < (ms.length : Int)) := by omega
          have nR : ∀ q, (U q ∨ (none : Option Addr) = some ⟨q, 0, none⟩ ∨ w4.heap.size ≤ q ∧ q < w5.heap.size) → ¬ ra = some ⟨q, 0, none⟩ := by
            intro q hq e
            obtain ⟨r1, r2, r3⟩ := rU q e
            rcases hq with h | h | h
            · exact r1 (Or.inl h)
            · exact r1 (Or.inr h)
            · omega
          have hbk7 := HB6.out.keep (w' := wr) (fun q hq => HQ.out q (nR q hq)) (by rw [hsz]; exact Nat.le_refl _)
          have hlk := looks_c hbk7
          have BW7 : But w.heap.size w1 wr := ⟨q1.trans BW6.os, q2.trans BW6.tape, q3.trans BW6.output, by rw [hsz]; exact BW6.size, fun q hq hne => (HQ.out q (fun e => by have := (rU q e).2.2; omega)).trans (BW6.block q hq hne)⟩
          have HB7 := hide hbk7
          clear hbk7
          go_wp2_with fail
          refine hlk.mono ?_
          rintro x w8 ⟨rfl, S8⟩
          have BW8 := S8.but BW7
          go_wp2_with fail
          refine (h4 _).mono ?_
          rintro x w9 ⟨rfl, rfl⟩
          go_wp2_with fail
          go_roundg g1
          case measure => omega
          case rel =>
            refine ⟨k + 1, _, vs ++ [e], by omega, by go_num, by simp [hvl], ?_, HB7.out.keep (fun q _ => by rw [S8.heap]) (by rw [S8.heap]; exact Nat.le_refl _), fun q hq => ?_⟩
            · exact BW8
            · rcases hq with h | h | h
              · exact HU.out q h
              · cases h
              · exact Or.inr (by omega)
set_option maxRecDepth 100000 in
set_option maxHeartbeats 4000000 in
theorem runs_good {s t : ByteArray} {w : World} {aM : Option Addr} {cM : Nat} {ms : List Int} {res : List Int} (hl : res.length = ms.length) (h54 : ms.length ≤ 54) (ht : t = fortyS) (hmem : MAt w w.heap.size aM cM ms)
    (h1 : Calls Tryz.prog 15 #[.string s] (w.alloc (.cells #[.slice none 0 0] 45 (0, 0))) fun x w1 => ∃ b, x = .returned (.pointer (some ⟨b, 0, none⟩)) ∧ Below (w.heap.size + 1) (w.alloc (.cells #[.slice none 0 0] 45 (0, 0))) w1 ∧ b < w1.heap.size ∧ ¬ b = w.heap.size ∧ w1.cell? ⟨b, 2, none⟩ = some (.int .i64 0) ∧ w1.cell? ⟨b, 6, none⟩ = some (.int .i64 (ms.length : Int)) ∧ ∀ w2 : World, But w.heap.size w1 w2 → MAt w2 w.heap.size aM cM ms → Calls Tryz.prog 23 #[.pointer (some ⟨b, 0, none⟩), .slice aM ms.length cM] w2 fun x w3 => (∃ aR cR, x = .returned (.slice aR ms.length cR) ∧ IntsFrom w3 aR res) ∧ Below w2.heap.size w2 w3)
    (h2 : ∀ (w' : World) (ra : Option Addr) (rc : Nat), Below w.heap.size w w' → (∀ (j : Nat) u, ms[j]? = some u → ∃ gm o, ra = some ⟨gm, o, none⟩ ∧ gm < w'.heap.size ∧ w'.cell? ⟨gm, o + j, none⟩ = some (.int .i64 u)) → Calls Tryz.prog 21 #[.string s, .slice ra ms.length rc] w' fun x w'' => (∃ g, x = .returned (.tuple #[.slice (some ⟨g, 0, none⟩) ms.length ms.length, .int .i64 0]) ∧ w'.heap.size ≤ g ∧ At w'' g 3 (ints res)) ∧ Below w'.heap.size w' w'')
    (h3 : ∀ (w' : World) (g : Nat), Below w.heap.size w w' → At w' g 3 [.int .i64 41] → Calls Tryz.prog 21 #[.string t, .slice (some ⟨g, 0, none⟩) 1 1] w' fun x w'' => (∃ h, x = .returned (.tuple #[.slice (some ⟨h, 0, none⟩) 1 1, .int .i64 0]) ∧ At w'' h 3 [.int .i64 42]) ∧ Below w'.heap.size w' w'') :
    Calls Tryz.prog 5 #[.string s, .slice aM ms.length cM] w fun x w' => x = .returned (.bool true) ∧ Below w.heap.size w w' := by
  subst ht
  have h4 := fun (w' : World) => num_s 0 w'
  have hrm : Hid (ms.length ≤ 20000000000000) := by have := hmem.room; show _ ≤ _; omega
  have HM := hide hmem
  clear hmem
  have hn0 : ∀ w : World, (binOp .eql 32 (.slice none 0 0) (.slice none 0 0)).run Tryz.prog w = .ok (.bool true) w := fun w => Lib.run_eql_slice_nil w _ _ none 0 0 0 0 Tryz.underlying32
  go_enter Tryz.func5, Tryz.ntmps5
  go_wp2_with fail
  refine h1.mono ?_
  rintro x w1 ⟨b, rfl, B1, hbl, hbne, c2, c6, hrf⟩
  have B1' : Below w.heap.size w w1 := (Below.refl w.heap.size w).alloc (Nat.le_refl _) (.cells #[.slice none 0 0] 45 (0, 0)) |>.trans (B1.mono (Nat.le_succ _))
  have bkA : At w1 w.heap.size 45 [.slice none 0 0] := (At.alloc_new w _ _).of_block (B1.block _ (Nat.lt_succ_self _))
  have bkl := bkA.lt
  have bk0 := book_new bkA
  have BK0 := hide bk0
  clear bk0
  go_wp2_with fail
  go_loopg [7] 4 (fun gk kk wr => ∃ (k : Nat) (U : Nat → Prop) (vs : List Value), k + gk = 4 ∧ kk = .int .i64 (k : Int) ∧ vs.length = k ∧ But w.heap.size w1 wr ∧ Hid (Book wr w.heap.size U vs) ∧ Hid (∀ q, U q → q = w.heap.size ∨ w1.heap.size ≤ q))
  case atStart => exact ⟨0, _, [], rfl, rfl, rfl, But.refl _ _, BK0.out, fun q h => Or.inl h⟩
  case round =>
    obtain ⟨k, U, vs, hk, rfl, hvl, BW, HB, HU⟩ := hrel
    have zr := BW.size
    have BWb : Below w.heap.size w wr := B1'.trans (but_below BW (Nat.le_refl _) (by omega))
    cases gk with
    | zero =>
      have hz : ¬ ((k : Int) < 4) := by omega
      have h3' := h3 (wr.alloc (.cells #[.int .i64 41] 3 (0, 0))) wr.heap.size (BWb.alloc BWb.size _) (At.alloc_new wr _ _)
      go_wp2_with fail
      refine h3'.mono ?_
      rintro x w2 ⟨⟨g, rfl, aG⟩, hb2⟩
      have B2 := (BWb.alloc BWb.size (.cells #[.int .i64 41] 3 (0, 0))).trans (hb2.mono (by have := BWb.size; rw [size_alloc]; omega))
      have z2 := hb2.size
      rw [size_alloc] at z2
      have aG' := aG.alloc (.cells #[.int .i64 42] 3 (0, 0))
      have aN := At.alloc_new w2 [.int .i64 42] 3
      have hsm := same_c (l := [42]) (w := w2.alloc (.cells #[.int .i64 42] 3 (0, 0))) (a := some ⟨g, 0, none⟩) (b := some ⟨w2.heap.size, 0, none⟩) (ca := 1) (cb := 1) (by decide) (fun j u hu => by match j, hu with | 0, hu => cases hu; exact ⟨g, 0, rfl, aG'.cell 0⟩ | j + 1, hu => simp at hu) (fun j u hu => by match j, hu with | 0, hu => cases hu; exact ⟨_, 0, rfl, aN.cell 0⟩ | j + 1, hu => simp at hu)
      go_wp2_with fail
      refine hsm.mono ?_
      rintro x w3 ⟨rfl, S3⟩
      have BB3 : Book w3 w.heap.size U vs := (HB.out.below (((Below.refl _ _).alloc (Nat.le_refl _) _).trans (hb2.mono (by rw [size_alloc]; omega)))).keep (fun q hq => (by rw [S3.heap]; exact heap_alloc_old _ _ _ (by have := HB.out.lt q hq; omega))) (by rw [S3.heap, size_alloc]; omega)
      have hlk := looks_c BB3
      have B3 := (B2.alloc B2.size (.cells #[.int .i64 42] 3 (0, 0))).trans (S3.below _)
      go_wp2_with fail
      refine hlk.mono ?_
      rintro x w4 ⟨rfl, S4⟩
      go_wp2_with fail
      go_ret
      exact ⟨rfl, B3.trans (S4.below _)⟩
    | succ g1 =>
      have hz : (k : Int) < 4 := by omega
      have MW : MAt wr w.heap.size aM cM ms := HM.out.keep (fun q hq => BWb.block q hq)
      have hro := roomy_all MW
      have MWn := MW.nil
      have HMW := hide MW
      clear MW
      go_wp2_with fail
      refine hro.mono ?_
      rintro x w2 ⟨⟨ra, rc, rfl, hra, hrl⟩, hb2⟩
      have HRA := hide hra
      have HRL := hide hrl
      clear hra hrl
      have z2 := hb2.size
      have B2 : Below w.heap.size w w2 := BWb.trans (hb2.mono BWb.size)
      have h2' := h2 w2 ra rc B2 (HRA.out.mem (fun e => (MWn e).1))
      go_wp2_with fail
      refine h2'.mono ?_
      rintro x w3 ⟨⟨gL, rfl, hgl, aG⟩, hb3⟩
      have z3 := hb3.size
      have BW3 : But w.heap.size w1 w3 := but_below' (but_below' BW hb2 zr) hb3 (by omega)
      have c2' : w3.cell? ⟨b, 2, none⟩ = some (.int .i64 0) := (World.cell?_of_block (BW3.block b hbl hbne)).trans c2
      have c6' : w3.cell? ⟨b, 6, none⟩ = some (.int .i64 (ms.length : Int)) := (World.cell?_of_block (BW3.block b hbl hbne)).trans c6
      have HB3 := hide ((HB.out.below hb2).below hb3)
      have gU : ∀ g, w2.heap.size ≤ g → ¬ U g := fun g hg h => by have := HB.out.lt g h; omega
      have glt := aG.lt
      have M3 : MAt w3 w.heap.size aM cM ms := HM.out.keep (fun q hq => (B2.trans (hb3.mono (by omega))).block q hq)
      have hrf' := hrf w3 BW3 M3
      have HG := hide aG
      clear M3 aG
      go_wp2_with fail
      refine hrf'.mono ?_
      rintro x wR ⟨⟨aR, cR, rfl, hIR⟩, hbR⟩
      have zR := hbR.size
      have aGR := HG.out.of_block (hbR.block gL glt)
      have hsm := same_c (l := res) (w := wR) (a := some ⟨gL, 0, none⟩) (b := aR) (ca := ms.length) (cb := cR) (by omega) (fun j u hu => ⟨gL, 0, rfl, by rw [Nat.zero_add]; exact ints_cell (rest := []) (by rw [List.append_nil]; exact aGR) hu⟩) hIR
      rw [hl] at hsm
      clear hIR
      go_wp2_with fail
      refine hsm.mono ?_
      rintro x w4 ⟨rfl, S4⟩
      have aG4 : At w4 gL 3 (ints res) := aGR.of_block (by rw [S4.heap])
      have z4 : w4.heap.size = wR.heap.size := by rw [S4.heap]
      have BW4 : But w.heap.size w1 w4 := S4.but (but_below' BW3 hbR (by omega))
      have HB4 := hide ((HB3.out.below hbR).keep (w' := w4) (fun q _ => by rw [S4.heap]) (by rw [S4.heap]; exact Nat.le_refl _))
      have glt4 : gL < w4.heap.size := aG4.lt
      have hkb := keep_book (ao := (some ⟨gL, 0, none⟩ : Option Addr)) (n := ms.length) (l := ints res) HB4.out (by omega) h54 (fun e => by cases e) (fun a e => by cases e; exact ⟨gL, rfl, aG4, by unfold ints; rw [List.length_map]; exact hl, gU gL hgl⟩)
      go_wp2_with fail
      refine hkb.mono ?_
      rintro x w5 ⟨rfl, ⟨e, hbk5⟩, O5⟩
      have HB5 := hide hbk5
      clear hbk5
      have z5 := O5.size
      have nX : ∀ q, q < w1.heap.size → q ≠ w.heap.size → ¬ (U q ∨ (some ⟨gL, 0, none⟩ : Option Addr) = some ⟨q, 0, none⟩) := by
        rintro q hq hne (h | h)
        · rcases HU.out q h with h | h
          · exact hne h
          · omega
        · cases h; omega
      have BW5 : But w.heap.size w1 w5 := but_of_out BW4 O5 nX
      have BW5b : Below w.heap.size w w5 := B1'.trans (but_below BW5 (Nat.le_refl _) (by omega))
      have rU : ∀ g, ra = some ⟨g, 0, none⟩ → ¬ (U g ∨ (some ⟨gL, 0, none⟩ : Option Addr) = some ⟨g, 0, none⟩) ∧ g < w4.heap.size ∧ w1.heap.size ≤ g := by
        intro g e
        have h1' := HRL.out g e
        rcases HRA.out with ⟨e', _⟩ | ⟨g', rest, _, _, e', _, _, aR⟩
        · rw [e'] at e; cases e
        · rw [e'] at e; cases e
          have := aR.lt
          refine ⟨?_, by omega, by omega⟩
          rintro (h | h)
          · have := HB.out.lt g h; omega
          · cases h; omega
      have hR5 : RA w5 aM ms ra rc := ((HRA.out.keep (w' := w4) (fun g e => (S4.blk g).trans ((hbR.block g (by rcases HRA.out with ⟨e', _⟩ | ⟨g', rest, _, _, e', _, _, aR⟩; (· rw [e'] at e; cases e); (· rw [e'] at e; cases e; have := aR.lt; omega))).trans (hb3.block g (by rcases HRA.out with ⟨e', _⟩ | ⟨g', rest, _, _, e', _, _, aR⟩; (· rw [e'] at e; cases e); (· rw [e'] at e; cases e; exact aR.lt)))))).keep (fun g e => O5.block g (rU g e).2.1 (rU g e).1))
      have M5 : MAt w5 w.heap.size aM cM ms := HM.out.keep (fun q hq => BW5b.block q hq)
      have hkp := kept_all M5 hR5
      have HR5 := hide hR5
      clear hR5 M5
      go_wp2_with fail
      refine hkp.mono ?_
      rintro x w6 ⟨rfl, S6⟩
      have BW6 := S6.but BW5
      have hR6 : RA w6 aM ms ra rc := HR5.out.keep (fun g e => by rw [S6.heap])
      have HB6 := hide (HB5.out.keep (fun q _ => by rw [S6.heap]) (by rw [S6.heap]; exact Nat.le_refl _))
      have HR6 := hide hR6
      clear hR6
      go_wp2_with fail
      obtain ⟨wo, rfl⟩ : ∃ wo : World, wo = wr := ⟨_, rfl⟩
      go_loopg [14] ms.length (fun g2 ii wy => ∃ m : Nat, m + g2 = ms.length ∧ ii = .int .i64 (m : Int) ∧ Hid (∀ g, ra = some ⟨g, 0, none⟩ → ∃ l', At wy g 3 l' ∧ ms.length ≤ l'.length) ∧ wy.heap.size = w6.heap.size ∧ Hid (∀ q, ¬ ra = some ⟨q, 0, none⟩ → wy.heap[q]? = w6.heap[q]?) ∧ wy.os = w6.os ∧ wy.tape = w6.tape ∧ wy.output = w6.output)
      case atStart =>
        refine ⟨0, by omega, rfl, fun g e => ?_, rfl, fun _ _ => rfl, rfl, rfl, rfl⟩
        rcases HR6.out with ⟨e', _⟩ | ⟨g', rest, _, _, e', _, _, aR⟩
        · rw [e'] at e; cases e
        · rw [e'] at e; cases e
          exact ⟨_, aR, by unfold ints; simp⟩
      case round =>
        obtain ⟨m, hm, rfl, HL, hsz, HQ, q1, q2, q3⟩ := hrel
        cases gk with
        | succ g2 =>
          have hy : (m : Int) < (ms.length : Int) := by omega
          obtain ⟨g, rfl⟩ : ∃ g, ra = some ⟨g, 0, none⟩ := by
            rcases HR6.out with ⟨e', e'', _⟩ | ⟨g', rest, _, _, e', _, _, aR⟩
            · have := (MWn e'').1
              subst this
              simp at hm
            · exact ⟨g', e'⟩
          obtain ⟨l', a', hl'⟩ := HL.out g rfl
          obtain ⟨u, hu⟩ : ∃ u, l'[m]? = some u := ⟨_, List.getElem?_eq_getElem (by omega)⟩
          have c0 := a'.cell m
          rw [hu] at c0
          have f0 := a'.frozen m
          clear HL
          go_wp2_with fail
          go_roundg g2
          case measure => omega
          case rel =>
            have hrm' := hrm.out
            have em : wrap64 ((m : Int) + 1) = ((m + 1 : Nat) : Int) := by unfold wrap64; omega
            refine ⟨m + 1, by omega, by first | (rw [em]) | rfl | (simp), fun g' e => ?_, by rw [World.size_setCell]; exact hsz, fun q hq => (heap_setCell_other _ _ _ _ (fun e => hq (by rw [e]))).trans (HQ.out q hq), q1, q2, q3⟩
            cases e
            exact ⟨_, a'.set m _, by rw [List.length_set]; exact hl'⟩
        | zero =>
          have hy : ¬ ((m : Int) < (ms.length : Int)) := by omega
          have nR : ∀ q, (U q ∨ (some ⟨gL, 0, none⟩ : Option Addr) = some ⟨q, 0, none⟩ ∨ w4.heap.size ≤ q ∧ q < w5.heap.size) → ¬ ra = some ⟨q, 0, none⟩ := by
            intro q hq e
            obtain ⟨r1, r2, r3⟩ := rU q e
            rcases hq with h | h | h
            · exact r1 (Or.inl h)
            · exact r1 (Or.inr h)
            · omega
          have hbk7 := HB6.out.keep (w' := wr) (fun q hq => HQ.out q (nR q hq)) (by rw [hsz]; exact Nat.le_refl _)
          have hlk := looks_c hbk7
          have BW7 : But w.heap.size w1 wr := ⟨q1.trans BW6.os, q2.trans BW6.tape, q3.trans BW6.output, by rw [hsz]; exact BW6.size, fun q hq hne => (HQ.out q (fun e => by have := (rU q e).2.2; omega)).trans (BW6.block q hq hne)⟩
          have HB7 := hide hbk7
          clear hbk7
          go_wp2_with fail
          refine hlk.mono ?_
          rintro x w8 ⟨rfl, S8⟩
          have BW8 := S8.but BW7
          go_wp2_with fail
          refine (h4 _).mono ?_
          rintro x w9 ⟨rfl, rfl⟩
          go_wp2_with fail
          go_roundg g1
          case measure => omega
          case rel =>
            refine ⟨k + 1, _, vs ++ [e], by omega, by go_num, by simp [hvl], ?_, HB7.out.keep (fun q _ => by rw [S8.heap]) (by rw [S8.heap]; exact Nat.le_refl _), fun q hq => ?_⟩
            · exact BW8
            · rcases hq with h | h | h
              · exact HU.out q h
              · cases h; exact Or.inr (by omega)
              · exact Or.inr (by omega)
end Go.Proofs.YtejbgcloblpbfaaGreatDoor
