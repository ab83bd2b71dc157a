import Derived.Test.YtjgiefnjmngdkaaGreatDoorM02
import Derived.Test.YtjgiefnjmngdkaaGreatDoorM03
import Derived.Deep.RegionWith
namespace Go.Proofs.YtjgiefnjmngdkaaGreatDoor
namespace K
open R (Tok)

def blank (c : UInt8) : Bool := c == 32 || c == 10
def brak (c : UInt8) : Bool := c == 40 || c == 41
def mid (c : UInt8) : Bool := !blank c && !brak c
def runOf (p : UInt8 → Bool) (s : ByteArray) (i : Nat) : Nat := i + ((s.data.toList.drop i).takeWhile p).length
def endTok (s : ByteArray) (i : Nat) : Nat := if runOf mid s i = i ∧ i < s.size then i + 1 else runOf mid s i
def scan (s : ByteArray) (i : Nat) : Tok := ⟨s.extract (runOf blank s i) (endTok s (runOf blank s i)), (runOf blank s i : Nat)⟩

theorem drop_cons (s : ByteArray) (i : Nat) (h : i < s.size) : s.data.toList.drop i = s[i] :: s.data.toList.drop (i + 1) := by
  have h' : i < s.data.toList.length := h
  rw [List.drop_eq_getElem_cons h']
  rfl
theorem run_step {p : UInt8 → Bool} {s : ByteArray} {i : Nat} (h : i < s.size) (hp : p s[i] = true) : runOf p s i = runOf p s (i + 1) := by
  unfold runOf
  rw [drop_cons s i h, List.takeWhile_cons, if_pos hp, List.length_cons]
  omega
theorem run_stop {p : UInt8 → Bool} {s : ByteArray} {i : Nat} (h : i < s.size) (hp : p s[i] = false) : runOf p s i = i := by
  unfold runOf
  rw [drop_cons s i h, List.takeWhile_cons, if_neg (by rw [hp]; decide)]
  simp
theorem run_end {p : UInt8 → Bool} {s : ByteArray} {i : Nat} (h : ¬ i < s.size) : runOf p s i = i := by
  unfold runOf
  rw [List.drop_eq_nil_of_le (by have : s.data.toList.length = s.size := rfl; omega)]
  simp
theorem run_le {p : UInt8 → Bool} {s : ByteArray} {i : Nat} (h : i ≤ s.size) : i ≤ runOf p s i ∧ runOf p s i ≤ s.size := by
  unfold runOf
  have h1 := (List.takeWhile_sublist (l := s.data.toList.drop i) p).length_le
  rw [List.length_drop] at h1
  have : s.data.toList.length = s.size := rfl
  omega
theorem endTok_le {s : ByteArray} {i : Nat} (h : i ≤ s.size) : i ≤ endTok s i ∧ endTok s i ≤ s.size := by
  unfold endTok
  have := run_le (p := mid) h
  split <;> omega
end K
end Go.Proofs.YtjgiefnjmngdkaaGreatDoor
namespace Go.Proofs.YtjgiefnjmngdkaaGreatDoor
open Go.RowKit
open R (Tok)

theorem kb (c : UInt8) (n : Nat) (hn : n < 256) : ((c.toNat : Int) == (n : Int)) = (c == UInt8.ofNat n) := by
  rw [Bool.eq_iff_iff, beq_iff_eq, beq_iff_eq]
  constructor
  · intro h
    apply UInt8.toNat_inj.1
    rw [UInt8.toNat_ofNat']
    omega
  · rintro rfl
    rw [UInt8.toNat_ofNat']
    omega

theorem isBlank_c (c : UInt8) (w : World) : Calls Tryz.prog 100 #[.int .u8 c.toNat] w fun x w' => x = .returned (.bool (K.blank c)) ∧ w' = w := by
  have h1 := kb c 32 (by decide)
  have h2 := kb c 10 (by decide)
  have HK : Hid (K.blank c = ((c == 32) || (c == 10))) := rfl
  cases e1 : (c == 32) with
  | true =>
    have h1' : ((c.toNat : Int) == 32) = true := h1.trans e1
    clear h1
    go_enter Tryz.func100, Tryz.ntmps100
    go_wp2
    go_ret
    rw [HK.out, e1]; exact ⟨rfl, rfl⟩
  | false =>
    have h1' : ((c.toNat : Int) == 32) = false := h1.trans e1
    have h2' : ((c.toNat : Int) == 10) = (c == 10) := h2
    clear h1 h2
    go_enter Tryz.func100, Tryz.ntmps100
    go_wp2
    go_ret
    rw [HK.out, e1]; exact ⟨rfl, rfl⟩
theorem isBracket_c (c : UInt8) (w : World) : Calls Tryz.prog 132 #[.int .u8 c.toNat] w fun x w' => x = .returned (.bool (K.brak c)) ∧ w' = w := by
  have h1 := kb c 40 (by decide)
  have h2 := kb c 41 (by decide)
  have HK : Hid (K.brak c = ((c == 40) || (c == 41))) := rfl
  cases e1 : (c == 40) with
  | true =>
    have h1' : ((c.toNat : Int) == 40) = true := h1.trans e1
    clear h1
    go_enter Tryz.func132, Tryz.ntmps132
    go_wp2
    go_ret
    rw [HK.out, e1]; exact ⟨rfl, rfl⟩
  | false =>
    have h1' : ((c.toNat : Int) == 40) = false := h1.trans e1
    have h2' : ((c.toNat : Int) == 41) = (c == 41) := h2
    clear h1 h2
    go_enter Tryz.func132, Tryz.ntmps132
    go_wp2
    go_ret
    rw [HK.out, e1]; exact ⟨rfl, rfl⟩

set_option maxHeartbeats 400000 in
theorem endOfToken_c (s : ByteArray) (i : Nat) (w : World) (hi : i ≤ s.size) (hs : s.size ≤ 1000) :
    Calls Tryz.prog 101 #[.string s, .int .i64 (i : Int)] w fun x w' => x = .returned (.int .i64 (K.endTok s i : Nat)) ∧ w' = w := by
  have HK : Hid (K.endTok s i = if K.runOf K.mid s i = i ∧ i < s.size then i + 1 else K.runOf K.mid s i) := rfl
  go_enter Tryz.func101, Tryz.ntmps101
  go_wp2
  go_loop [5] (fun v => ∃ k : Nat, i ≤ k ∧ k ≤ s.size ∧ v = .int .i64 (k : Int) ∧ Hid (K.runOf K.mid s i = K.runOf K.mid s k)) (fun v => s.size - (intOf v).toNat)
  case atStart => exact ⟨i, Nat.le_refl _, hi, rfl, rfl⟩
  case round =>
    obtain ⟨k, hik, hks, rfl, HR⟩ := hrel
    have fin : ∀ (e : K.runOf K.mid s k = k), Hid (K.endTok s i = if k = i ∧ i < s.size then i + 1 else k) := fun e => by
      show _ = _
      rw [HK.out, HR.out, e]
    by_cases hlt : k < s.size
    · have hb := isBlank_c s[k]
      have hc := isBracket_c s[k]
      cases e1 : K.blank s[k] with
      | true =>
        rw [e1] at hb
        have HF := fin (K.run_stop hlt (by unfold K.mid; rw [e1]; rfl))
        clear HR fin HK
        by_cases hki : k = i
        · subst hki
          have HF' : Hid (K.endTok s k = k + 1) := by show _ = _; rw [HF.out, if_pos ⟨rfl, hlt⟩]
          clear HF
          go_wp2_with (go_at_call 100; refine (hb _).mono ?_; rintro x w' ⟨rfl, rfl⟩)
          go_ret
          exact ⟨by rw [HF'.out]; rfl, rfl⟩
        · have HF' : Hid (K.endTok s i = k) := by show _ = _; rw [HF.out, if_neg (fun c => hki c.1)]
          have hki' : ((k : Int) == (i : Int)) = false := beq_no (by omega)
          clear HF
          go_wp2_with (go_at_call 100; refine (hb _).mono ?_; rintro x w' ⟨rfl, rfl⟩)
          go_ret
          exact ⟨by rw [HF'.out]; rfl, rfl⟩
      | false =>
        rw [e1] at hb
        cases e2 : K.brak s[k] with
        | true =>
          rw [e2] at hc
          have HF := fin (K.run_stop hlt (by unfold K.mid; rw [e2]; simp))
          clear HR fin HK
          by_cases hki : k = i
          · subst hki
            have HF' : Hid (K.endTok s k = k + 1) := by show _ = _; rw [HF.out, if_pos ⟨rfl, hlt⟩]
            clear HF
            go_wp2_with (first | (go_at_call 100; refine (hb _).mono ?_; rintro x w' ⟨rfl, rfl⟩) | (go_at_call 132; refine (hc _).mono ?_; rintro x w' ⟨rfl, rfl⟩))
            go_ret
            exact ⟨by rw [HF'.out]; rfl, rfl⟩
          · have HF' : Hid (K.endTok s i = k) := by show _ = _; rw [HF.out, if_neg (fun c => hki c.1)]
            have hki' : ((k : Int) == (i : Int)) = false := beq_no (by omega)
            clear HF
            go_wp2_with (first | (go_at_call 100; refine (hb _).mono ?_; rintro x w' ⟨rfl, rfl⟩) | (go_at_call 132; refine (hc _).mono ?_; rintro x w' ⟨rfl, rfl⟩))
            go_ret
            exact ⟨by rw [HF'.out]; rfl, rfl⟩
        | false =>
          rw [e2] at hc
          have HN : Hid (K.runOf K.mid s i = K.runOf K.mid s (k + 1)) := HR.out.trans (K.run_step hlt (by unfold K.mid; rw [e1, e2]; rfl))
          clear HR fin HK
          go_wp2_with (first | (go_at_call 100; refine (hb _).mono ?_; rintro x w' ⟨rfl, rfl⟩) | (go_at_call 132; refine (hc _).mono ?_; rintro x w' ⟨rfl, rfl⟩))
          go_round
          case rel => exact ⟨k + 1, by omega, by omega, by go_num, HN⟩
          case measure => simp [intOf]; omega
    · have HF := fin (K.run_end hlt)
      have HF' : Hid (K.endTok s i = k) := by show _ = _; rw [HF.out, if_neg (by omega)]
      clear HR fin HK HF
      by_cases hki : k = i
      · subst hki
        go_wp2
        go_ret
        exact ⟨by rw [HF'.out]; rfl, rfl⟩
      · have hki' : ((k : Int) == (i : Int)) = false := beq_no (by omega)
        go_wp2
        go_ret
        exact ⟨by rw [HF'.out]; rfl, rfl⟩
end Go.Proofs.YtjgiefnjmngdkaaGreatDoor
namespace Go.Proofs.YtjgiefnjmngdkaaGreatDoor
open Go.RowKit
open R (Tok)

set_option maxHeartbeats 400000 in
theorem scan_c (s : ByteArray) (i : Nat) (w : World) (hi : i ≤ s.size) (hs : s.size ≤ 1000) :
    Calls Tryz.prog 72 #[.string s, .int .i64 (i : Int)] w fun x w' => x = .returned (.agg #[.string (K.scan s i).s, .int .i64 (K.scan s i).p]) ∧ w' = w.alloc (.cells #[.string (K.scan s i).s, .int .i64 (K.scan s i).p] 136) := by
  have HK : Hid (K.scan s i = ⟨s.extract (K.runOf K.blank s i) (K.endTok s (K.runOf K.blank s i)), (K.runOf K.blank s i : Nat)⟩) := rfl
  go_enter Tryz.func72, Tryz.ntmps72
  go_wp2
  go_loop [5] (fun v => ∃ k : Nat, i ≤ k ∧ k ≤ s.size ∧ v = .int .i64 (k : Int) ∧ Hid (K.runOf K.blank s i = K.runOf K.blank s k)) (fun v => s.size - (intOf v).toNat)
  case atStart => exact ⟨i, Nat.le_refl _, hi, rfl, rfl⟩
  case round =>
    obtain ⟨k, hik, hks, rfl, HR⟩ := hrel
    have he := fun w => endOfToken_c s k w hks hs
    have hle := K.endTok_le hks
    have fin : ∀ (e : K.runOf K.blank s k = k), Hid (K.scan s i = ⟨s.extract k (K.endTok s k), (k : Nat)⟩) := fun e => by
      show _ = _
      rw [HK.out, HR.out, e]
    by_cases hlt : k < s.size
    · have hb := isBlank_c s[k]
      cases e1 : K.blank s[k] with
      | true =>
        rw [e1] at hb
        have HN : Hid (K.runOf K.blank s i = K.runOf K.blank s (k + 1)) := HR.out.trans (K.run_step hlt e1)
        clear HR fin HK
        go_wp2_with (go_at_call 100; refine (hb _).mono ?_; rintro x w' ⟨rfl, rfl⟩)
        go_round
        case rel => exact ⟨k + 1, by omega, by omega, by go_num, HN⟩
        case measure => simp [intOf]; omega
      | false =>
        rw [e1] at hb
        have HF := fin (K.run_stop hlt e1)
        clear HR fin HK
        generalize K.endTok s k = e at *
        go_wp2_with (first | (go_at_call 100; refine (hb _).mono ?_; rintro x w' ⟨rfl, rfl⟩) | (go_at_call 101; refine (he _).mono ?_; rintro x w' ⟨rfl, rfl⟩))
        rw [HF.out]
        exact bodyPost_ret (v := .agg #[.string (s.extract k e), .int .i64 (k : Int)]) (by simp [results, Tryz.results72, go_sem]) rfl ⟨rfl, rfl⟩
    · have HF := fin (K.run_end hlt)
      clear HR fin HK
      generalize K.endTok s k = e at *
      go_wp2_with (first | (go_at_call 101; refine (he _).mono ?_; rintro x w' ⟨rfl, rfl⟩))
      rw [HF.out]
      exact bodyPost_ret (v := .agg #[.string (s.extract k e), .int .i64 (k : Int)]) (by simp [results, Tryz.results72, go_sem]) rfl ⟨rfl, rfl⟩
end Go.Proofs.YtjgiefnjmngdkaaGreatDoor
namespace Go.Proofs.YtjgiefnjmngdkaaGreatDoor
namespace K
open R (Tok tk)

structure Nm where
  text : ByteArray
  kind : Int
  sec : Bool
  size : Int
  place : Int

/-- The reader's state, by the number of the word that is looked at. -/
structure S where
  i : Nat
  names : List Nm
  words : Int
  depth : Int
  loops : Int
  err : Int
  eat : Int

def nx (T : List Tok) (i : Nat) : Nat := if i + 1 < T.length then i + 1 else i

/-- What the words of a text are to its scan. -/
structure Scans (s : ByteArray) (T : List Tok) : Prop where
  size : s.size ≤ 800
  pos : 0 < T.length
  few : T.length ≤ 1000
  first : scan s 0 = tk T 0
  last : tk T (T.length - 1) = ⟨⟨#[]⟩, s.size⟩
  next : ∀ i, i < T.length → ∃ p : Nat, (tk T i).p = p ∧ p + (tk T i).s.size ≤ s.size ∧ scan s (p + (tk T i).s.size) = tk T (nx T i)

def step (T : List Tok) (σ : S) : S := { σ with i := nx T σ.i }
def fail (T : List Tok) (e p : Int) (σ : S) : S := if σ.err = 0 then { σ with err := e, eat := p, i := T.length - 1 } else { σ with i := T.length - 1 }
def here (T : List Tok) (e : Int) (σ : S) : S := fail T e (tk T σ.i).p σ
def take (T : List Tok) (fits : ByteArray → Bool) (σ : S) : S := if fits (tk T σ.i).s = true then step T σ else here T 2 σ
def isIt (l : List UInt8) (s : ByteArray) : Bool := s.toList == l
def expect (T : List Tok) (l : List UInt8) (σ : S) : S := take T (isIt l) σ

theorem nx_lt {T : List Tok} {i : Nat} (h : i < T.length) : nx T i < T.length := by unfold nx; split <;> omega
theorem step_lt {T : List Tok} {σ : S} (h : σ.i < T.length) : (step T σ).i < T.length := nx_lt h
theorem fail_lt {T : List Tok} {e p : Int} {σ : S} (h : σ.i < T.length) : (fail T e p σ).i < T.length := by unfold fail; split <;> (show T.length - 1 < T.length; omega)
end K
end Go.Proofs.YtjgiefnjmngdkaaGreatDoor
namespace Go.Proofs.YtjgiefnjmngdkaaGreatDoor
open Go.RowKit
open R (Tok tk)
open K (Nm S Scans)

abbrev PT (b : Nat) : Value := .pointer (some ⟨b, 0, none⟩)
def nmCells (n : Nm) : List Value := [.string n.text, .int .i64 n.kind, .bool n.sec, .int .i64 n.size, .int .i64 n.place]
def rcs (s : ByteArray) (t : Tok) (σ : S) (v : Value) : List Value :=
  [.string s, .string t.s, .int .i64 t.p, v, .int .i64 σ.words, .int .i64 σ.depth, .int .i64 σ.loops, .int .i64 σ.err, .int .i64 σ.eat]

/-- Block b holds the reader's state; v: her row of names. -/
structure CR (w : World) (b : Nat) (s : ByteArray) (T : List Tok) (σ : S) (v : Value) : Prop where
  cells : At w b 139 (rcs s (tk T σ.i) σ v)
  names : w.ownsRow 0 96 5 v σ.names.length (σ.names.flatMap nmCells)
  lt : σ.i < T.length

theorem own_block {w : World} {B : Nat} {e : TypeId} {size : Nat} {v : Value} {n : Nat} {xs : List Value} (h : w.ownsRow B e size v n xs) {k : Nat} (hk : v.ownBlock = some k) :
    ∃ cur, w.heap[k]? = some (.cells cur e (0, 0)) := by
  obtain ⟨_, h | ⟨g, cap, cur, rfl, _, hg, _⟩⟩ := h
  · rw [h.1] at hk; simp [Value.ownBlock] at hk
  · simp [Value.ownBlock] at hk; subst hk; exact ⟨cur, hg⟩
theorem blk_lt {w : World} {k : Nat} {o : Obj} (h : w.heap[k]? = some o) : k < w.heap.size := (Array.getElem?_eq_some_iff.1 h).1
theorem CR.ne {w : World} {b : Nat} {s : ByteArray} {T : List Tok} {σ : S} {v : Value} (h : CR w b s T σ v) {k : Nat} (hk : v.ownBlock = some k) : k ≠ b ∧ k < w.heap.size := by
  obtain ⟨cur, hc⟩ := own_block h.names hk
  refine ⟨?_, blk_lt hc⟩
  rintro rfl
  have hb := h.cells
  unfold At at hb
  rw [hb] at hc
  simp at hc
theorem row_of {w w' : World} {B : Nat} {e : TypeId} {size : Nat} {v : Value} {n : Nat} {xs : List Value} (h : w.ownsRow B e size v n xs) (hb : ∀ k, v.ownBlock = some k → w'.heap[k]? = w.heap[k]?) : w'.ownsRow B e size v n xs := by
  obtain ⟨hl, h | ⟨g, cap, cur, rfl, h1, h2, h3⟩⟩ := h
  · exact ⟨hl, Or.inl h⟩
  · exact ⟨hl, Or.inr ⟨g, cap, cur, rfl, h1, by rw [hb g rfl]; exact h2, h3⟩⟩
/-- Numbers and the word have turned. -/
theorem CR.turn {w w' : World} {b : Nat} {s : ByteArray} {T : List Tok} {σ σ' : S} {v : Value} (h : CR w b s T σ v) (hat : At w' b 139 (rcs s (tk T σ'.i) σ' v)) (hb : But b w w') (e : σ'.names = σ.names) (hi : σ'.i < T.length) : CR w' b s T σ' v := by
  refine ⟨hat, ?_, hi⟩
  rw [e]
  exact row_of h.names fun k hk => hb.block k (h.ne hk).2 (h.ne hk).1
theorem CR.c {w : World} {b : Nat} {s : ByteArray} {T : List Tok} {σ : S} {v : Value} (h : CR w b s T σ v) (i : Nat) (u : Value) (e : (rcs s (tk T σ.i) σ v)[i]? = some u) : w.cell? ⟨b, i, none⟩ = some u := by
  rw [h.cells.cell, e]
theorem CR.same {w w' : World} {b : Nat} {s : ByteArray} {T : List Tok} {σ : S} {v : Value} (h : CR w b s T σ v) (hs : ∀ k, k < w.heap.size → w'.heap[k]? = w.heap[k]?) : CR w' b s T σ v :=
  ⟨h.cells.of_block (hs b h.cells.lt), row_of h.names fun k hk => hs k (h.ne hk).2, h.lt⟩
theorem CR.alloc {w : World} {b : Nat} {s : ByteArray} {T : List Tok} {σ : S} {v : Value} (h : CR w b s T σ v) (o : Obj) : CR (w.alloc o) b s T σ v := h.same fun _ hk => heap_alloc_old _ _ _ hk
theorem CR.drew {w : World} {b : Nat} {s : ByteArray} {T : List Tok} {σ : S} {v : Value} (h : CR w b s T σ v) : CR w.drew b s T σ v := h.same fun _ _ => rfl

set_option maxHeartbeats 400000 in
theorem kfail_c {w : World} {b : Nat} {s : ByteArray} {T : List Tok} {σ : S} {v : Value} (hS : Scans s T) (h : CR w b s T σ v) (e p : Int) :
    Calls Tryz.prog 133 #[PT b, .int .i64 e, .int .i64 p] w fun x w' => x = .returned (.tuple #[]) ∧ CR w' b s T (K.fail T e p σ) v ∧ But b w w' := by
  have c0 := h.c 0 _ rfl
  have c1 := h.c 1 _ rfl
  have c2 := h.c 2 _ rfl
  have c7 := h.c 7 _ rfl
  have c8 := h.c 8 _ rfl
  have f1 := h.cells.frozen 1
  have f2 := h.cells.frozen 2
  have f7 := h.cells.frozen 7
  have f8 := h.cells.frozen 8
  have hz := hS.size
  have HL := hide hS.last
  have hp := hS.pos
  by_cases he : σ.err = 0
  · have he' := beq_yes he
    have HF : Hid (K.fail T e p σ = { σ with err := e, eat := p, i := T.length - 1 }) := by show _ = _; unfold K.fail; rw [if_pos he]
    go_enter Tryz.func133, Tryz.ntmps133
    go_wp2
    go_end0
    rw [HF.out]
    refine ⟨rfl, h.turn ?_ (((((But.refl b w).set 7 _).set 8 _).set 1 _).set 2 _) rfl (by show T.length - 1 < T.length; omega), ((((But.refl b w).set 7 _).set 8 _).set 1 _).set 2 _⟩
    show At _ b _ (rcs s (tk T (T.length - 1)) _ v)
    rw [HL.out]
    exact (((h.cells.set 7 _).set 8 _).set 1 _).set 2 _
  · have he' := beq_no he
    have HF : Hid (K.fail T e p σ = { σ with i := T.length - 1 }) := by show _ = _; unfold K.fail; rw [if_neg he]
    go_enter Tryz.func133, Tryz.ntmps133
    go_wp2
    go_end0
    rw [HF.out]
    refine ⟨rfl, h.turn ?_ (((But.refl b w).set 1 _).set 2 _) rfl (by show T.length - 1 < T.length; omega), ((But.refl b w).set 1 _).set 2 _⟩
    show At _ b _ (rcs s (tk T (T.length - 1)) _ v)
    rw [HL.out]
    exact (h.cells.set 1 _).set 2 _
end Go.Proofs.YtjgiefnjmngdkaaGreatDoor
namespace Go.Proofs.YtjgiefnjmngdkaaGreatDoor
open Go.RowKit
open R (Tok tk)
open K (Nm S Scans)

set_option maxHeartbeats 400000 in
theorem failHere_c {w : World} {b : Nat} {s : ByteArray} {T : List Tok} {σ : S} {v : Value} (hS : Scans s T) (h : CR w b s T σ v) (e : Int) :
    Calls Tryz.prog 177 #[PT b, .int .i64 e] w fun x w' => x = .returned (.tuple #[]) ∧ CR w' b s T (K.here T e σ) v ∧ But b w w' := by
  have c2 := h.c 2 _ rfl
  have hf := kfail_c hS h e (tk T σ.i).p
  have HK : Hid (K.here T e σ = K.fail T e (tk T σ.i).p σ) := rfl
  generalize K.here T e σ = σ1 at *
  generalize (tk T σ.i).p = tp at *
  go_enter Tryz.func177, Tryz.ntmps177
  go_wp2_with fail
  refine hf.mono ?_
  rintro x w' ⟨rfl, hr, hb⟩
  go_wp2_with fail
  go_end0
  rw [HK.out]
  exact ⟨rfl, hr, hb⟩

theorem k64 (n : Int) (h : -9223372036854775808 ≤ n ∧ n ≤ 9223372036854775807) : IntKind.i64.wrap n = n := by
  rw [IntKind.wrap]
  simp [IntKind.signed, IntKind.bits]
  omega
set_option maxHeartbeats 1000000 in
theorem kpeek_w {b : Nat} {s : ByteArray} (ts : ByteArray) (p : Nat) (w : World) (hb : b < w.heap.size) (hz : s.size ≤ 800) (hp : p + ts.size ≤ s.size)
    (c0 : w.cell? ⟨b, 0, none⟩ = some (.string s)) (c1 : w.cell? ⟨b, 1, none⟩ = some (.string ts)) (c2 : w.cell? ⟨b, 2, none⟩ = some (.int .i64 (p : Int))) (t : Tok) (ht : K.scan s (p + ts.size) = t) :
    Calls Tryz.prog 103 #[PT b] w fun x w' => x = .returned (.agg #[.string t.s, .int .i64 t.p]) ∧ But b w w' ∧ (∀ k, k < w.heap.size → w'.heap[k]? = w.heap[k]?) := by
  have hsc := fun (w : World) => scan_c s (p + ts.size) w hp (by omega)
  rw [ht, Int.natCast_add] at hsc
  clear ht
  have hwr : IntKind.i64.wrap ((p : Int) + (ts.size : Int)) = (p : Int) + (ts.size : Int) := k64 _ (by omega)
  obtain ⟨s1, p1⟩ := t
  dsimp only at *
  go_enter Tryz.func103, Tryz.ntmps103
  go_wp2_with fail
  go_region_with (go_at_call 72; refine (hsc _).mono ?_; rintro x w' ⟨rfl, rfl⟩)
  all_goals go_wp2_with fail
  all_goals
    exact bodyPost_ret (v := .agg #[.string s1, .int .i64 p1]) (by simp [results, Tryz.results103, go_sem]) rfl ⟨rfl, (((But.refl b w).alloc _).alloc _).drew, fun k hk => by
      show ((w.alloc _).alloc _).heap[k]? = _
      rw [heap_alloc_old _ _ _ (by simp; omega), heap_alloc_old _ _ _ hk]⟩

theorem kpeek_c {w : World} {b : Nat} {s : ByteArray} {T : List Tok} {σ : S} {v : Value} (hS : Scans s T) (h : CR w b s T σ v) :
    Calls Tryz.prog 103 #[PT b] w fun x w' => x = .returned (.agg #[.string (tk T (K.nx T σ.i)).s, .int .i64 (tk T (K.nx T σ.i)).p]) ∧ CR w' b s T σ v ∧ But b w w' := by
  obtain ⟨p, hp, hle, hn⟩ := hS.next σ.i h.lt
  refine (kpeek_w (tk T σ.i).s p w h.cells.lt hS.size hle (h.c 0 _ rfl) (h.c 1 _ rfl) (by rw [← hp]; exact h.c 2 _ rfl) _ hn).mono ?_
  rintro x w' ⟨rfl, hb, hs⟩
  exact ⟨rfl, h.same hs, hb⟩

set_option maxHeartbeats 400000 in
theorem kstep_c {w : World} {b : Nat} {s : ByteArray} {T : List Tok} {σ : S} {v : Value} (hS : Scans s T) (h : CR w b s T σ v) :
    Calls Tryz.prog 167 #[PT b] w fun x w' => x = .returned (.tuple #[]) ∧ CR w' b s T (K.step T σ) v ∧ But b w w' := by
  have hpk := kpeek_c hS h
  have hlt := K.step_lt h.lt
  have HT : Hid (tk T (K.step T σ).i = tk T (K.nx T σ.i)) := rfl
  generalize tk T (K.nx T σ.i) = t at *
  obtain ⟨s1, p1⟩ := t
  dsimp only at *
  go_enter Tryz.func167, Tryz.ntmps167
  go_wp2_with fail
  refine hpk.mono ?_
  rintro x w1 ⟨rfl, hr, hb⟩
  have c1 := hr.c 1 _ rfl
  have c2 := hr.c 2 _ rfl
  have f1 := hr.cells.frozen 1
  have f2 := hr.cells.frozen 2
  go_wp2_with fail
  go_end0
  refine ⟨rfl, hr.turn ?_ (((But.refl b w1).set 1 _).set 2 _) rfl hlt, (hb.set 1 _).set 2 _⟩
  rw [HT.out]
  exact (hr.cells.set 1 _).set 2 _
end Go.Proofs.YtjgiefnjmngdkaaGreatDoor
namespace Go.Proofs.YtjgiefnjmngdkaaGreatDoor
open Go.RowKit
open R (Tok tk)
open K (Nm S Scans)

set_option maxHeartbeats 400000 in
theorem ktake_isName {w : World} {b : Nat} {s : ByteArray} {T : List Tok} {σ : S} {v : Value} (hS : Scans s T) (h : CR w b s T σ v) (fits : ByteArray → Bool)
    (hf : Calls Tryz.prog 170 #[.string (tk T σ.i).s] w fun x w' => x = .returned (.bool (fits (tk T σ.i).s)) ∧ w' = w) :
    Calls Tryz.prog 140 #[PT b, .func (.func 170) #[] #[]] w fun x w' => x = .returned (.string (tk T σ.i).s) ∧ CR w' b s T (K.take T fits σ) v ∧ But b w w' := by
  have c1 := h.c 1 _ rfl
  have hfh := failHere_c hS h 2
  have hst := kstep_c hS h
  unfold K.take
  generalize tk T σ.i = t at *
  obtain ⟨ts, tp⟩ := t
  dsimp only at *
  cases e : fits ts with
  | true =>
    rw [e] at hf
    rw [if_pos rfl]
    generalize K.step T σ = σ1 at *
    go_enter Tryz.func140, Tryz.ntmps140
    go_wp2_with fail
    refine hf.mono ?_
    rintro x w1 ⟨rfl, rfl⟩
    go_wp2_with fail
    refine hst.mono ?_
    rintro x w2 ⟨rfl, hr, hb⟩
    go_wp2_with fail
    go_ret
    exact ⟨rfl, hr, hb⟩
  | false =>
    rw [e] at hf
    rw [if_neg (by decide)]
    generalize K.here T 2 σ = σ1 at *
    go_enter Tryz.func140, Tryz.ntmps140
    go_wp2_with fail
    refine hf.mono ?_
    rintro x w1 ⟨rfl, rfl⟩
    go_wp2_with fail
    refine hfh.mono ?_
    rintro x w2 ⟨rfl, hr, hb⟩
    go_wp2_with fail
    go_ret
    exact ⟨rfl, hr, hb⟩
set_option maxHeartbeats 400000 in
theorem ktake_isNumber {w : World} {b : Nat} {s : ByteArray} {T : List Tok} {σ : S} {v : Value} (hS : Scans s T) (h : CR w b s T σ v) (fits : ByteArray → Bool)
    (hf : Calls Tryz.prog 219 #[.string (tk T σ.i).s] w fun x w' => x = .returned (.bool (fits (tk T σ.i).s)) ∧ w' = w) :
    Calls Tryz.prog 140 #[PT b, .func (.func 219) #[] #[]] w fun x w' => x = .returned (.string (tk T σ.i).s) ∧ CR w' b s T (K.take T fits σ) v ∧ But b w w' := by
  have c1 := h.c 1 _ rfl
  have hfh := failHere_c hS h 2
  have hst := kstep_c hS h
  unfold K.take
  generalize tk T σ.i = t at *
  obtain ⟨ts, tp⟩ := t
  dsimp only at *
  cases e : fits ts with
  | true =>
    rw [e] at hf
    rw [if_pos rfl]
    generalize K.step T σ = σ1 at *
    go_enter Tryz.func140, Tryz.ntmps140
    go_wp2_with fail
    refine hf.mono ?_
    rintro x w1 ⟨rfl, rfl⟩
    go_wp2_with fail
    refine hst.mono ?_
    rintro x w2 ⟨rfl, hr, hb⟩
    go_wp2_with fail
    go_ret
    exact ⟨rfl, hr, hb⟩
  | false =>
    rw [e] at hf
    rw [if_neg (by decide)]
    generalize K.here T 2 σ = σ1 at *
    go_enter Tryz.func140, Tryz.ntmps140
    go_wp2_with fail
    refine hf.mono ?_
    rintro x w1 ⟨rfl, rfl⟩
    go_wp2_with fail
    refine hfh.mono ?_
    rintro x w2 ⟨rfl, hr, hb⟩
    go_wp2_with fail
    go_ret
    exact ⟨rfl, hr, hb⟩
set_option maxHeartbeats 400000 in
theorem ktake_isSize {w : World} {b : Nat} {s : ByteArray} {T : List Tok} {σ : S} {v : Value} (hS : Scans s T) (h : CR w b s T σ v) (fits : ByteArray → Bool)
    (hf : Calls Tryz.prog 197 #[.string (tk T σ.i).s] w fun x w' => x = .returned (.bool (fits (tk T σ.i).s)) ∧ w' = w) :
    Calls Tryz.prog 140 #[PT b, .func (.func 197) #[] #[]] w fun x w' => x = .returned (.string (tk T σ.i).s) ∧ CR w' b s T (K.take T fits σ) v ∧ But b w w' := by
  have c1 := h.c 1 _ rfl
  have hfh := failHere_c hS h 2
  have hst := kstep_c hS h
  unfold K.take
  generalize tk T σ.i = t at *
  obtain ⟨ts, tp⟩ := t
  dsimp only at *
  cases e : fits ts with
  | true =>
    rw [e] at hf
    rw [if_pos rfl]
    generalize K.step T σ = σ1 at *
    go_enter Tryz.func140, Tryz.ntmps140
    go_wp2_with fail
    refine hf.mono ?_
    rintro x w1 ⟨rfl, rfl⟩
    go_wp2_with fail
    refine hst.mono ?_
    rintro x w2 ⟨rfl, hr, hb⟩
    go_wp2_with fail
    go_ret
    exact ⟨rfl, hr, hb⟩
  | false =>
    rw [e] at hf
    rw [if_neg (by decide)]
    generalize K.here T 2 σ = σ1 at *
    go_enter Tryz.func140, Tryz.ntmps140
    go_wp2_with fail
    refine hf.mono ?_
    rintro x w1 ⟨rfl, rfl⟩
    go_wp2_with fail
    refine hfh.mono ?_
    rintro x w2 ⟨rfl, hr, hb⟩
    go_wp2_with fail
    go_ret
    exact ⟨rfl, hr, hb⟩
set_option maxHeartbeats 400000 in
theorem ktake_isOp {w : World} {b : Nat} {s : ByteArray} {T : List Tok} {σ : S} {v : Value} (hS : Scans s T) (h : CR w b s T σ v) (fits : ByteArray → Bool)
    (hf : Calls Tryz.prog 228 #[.string (tk T σ.i).s] w fun x w' => x = .returned (.bool (fits (tk T σ.i).s)) ∧ w' = w) :
    Calls Tryz.prog 140 #[PT b, .func (.func 228) #[] #[]] w fun x w' => x = .returned (.string (tk T σ.i).s) ∧ CR w' b s T (K.take T fits σ) v ∧ But b w w' := by
  have c1 := h.c 1 _ rfl
  have hfh := failHere_c hS h 2
  have hst := kstep_c hS h
  unfold K.take
  generalize tk T σ.i = t at *
  obtain ⟨ts, tp⟩ := t
  dsimp only at *
  cases e : fits ts with
  | true =>
    rw [e] at hf
    rw [if_pos rfl]
    generalize K.step T σ = σ1 at *
    go_enter Tryz.func140, Tryz.ntmps140
    go_wp2_with fail
    refine hf.mono ?_
    rintro x w1 ⟨rfl, rfl⟩
    go_wp2_with fail
    refine hst.mono ?_
    rintro x w2 ⟨rfl, hr, hb⟩
    go_wp2_with fail
    go_ret
    exact ⟨rfl, hr, hb⟩
  | false =>
    rw [e] at hf
    rw [if_neg (by decide)]
    generalize K.here T 2 σ = σ1 at *
    go_enter Tryz.func140, Tryz.ntmps140
    go_wp2_with fail
    refine hf.mono ?_
    rintro x w1 ⟨rfl, rfl⟩
    go_wp2_with fail
    refine hfh.mono ?_
    rintro x w2 ⟨rfl, hr, hb⟩
    go_wp2_with fail
    go_ret
    exact ⟨rfl, hr, hb⟩
set_option maxHeartbeats 400000 in
theorem ktake_secrecy {w : World} {b : Nat} {s : ByteArray} {T : List Tok} {σ : S} {v : Value} (hS : Scans s T) (h : CR w b s T σ v) (fits : ByteArray → Bool)
    (hf : Calls Tryz.prog 169 #[.string (tk T σ.i).s] w fun x w' => x = .returned (.bool (fits (tk T σ.i).s)) ∧ w' = w) :
    Calls Tryz.prog 140 #[PT b, .func (.func 169) #[] #[]] w fun x w' => x = .returned (.string (tk T σ.i).s) ∧ CR w' b s T (K.take T fits σ) v ∧ But b w w' := by
  have c1 := h.c 1 _ rfl
  have hfh := failHere_c hS h 2
  have hst := kstep_c hS h
  unfold K.take
  generalize tk T σ.i = t at *
  obtain ⟨ts, tp⟩ := t
  dsimp only at *
  cases e : fits ts with
  | true =>
    rw [e] at hf
    rw [if_pos rfl]
    generalize K.step T σ = σ1 at *
    go_enter Tryz.func140, Tryz.ntmps140
    go_wp2_with fail
    refine hf.mono ?_
    rintro x w1 ⟨rfl, rfl⟩
    go_wp2_with fail
    refine hst.mono ?_
    rintro x w2 ⟨rfl, hr, hb⟩
    go_wp2_with fail
    go_ret
    exact ⟨rfl, hr, hb⟩
  | false =>
    rw [e] at hf
    rw [if_neg (by decide)]
    generalize K.here T 2 σ = σ1 at *
    go_enter Tryz.func140, Tryz.ntmps140
    go_wp2_with fail
    refine hf.mono ?_
    rintro x w1 ⟨rfl, rfl⟩
    go_wp2_with fail
    refine hfh.mono ?_
    rintro x w2 ⟨rfl, hr, hb⟩
    go_wp2_with fail
    go_ret
    exact ⟨rfl, hr, hb⟩
set_option maxHeartbeats 400000 in
theorem ktake_expect {w : World} {b : Nat} {s : ByteArray} {T : List Tok} {σ : S} {v : Value} (hS : Scans s T) (h : CR w b s T σ v) (fits : ByteArray → Bool) (c : Value)
    (hf : Calls Tryz.prog 141 #[.string (tk T σ.i).s, c] w fun x w' => x = .returned (.bool (fits (tk T σ.i).s)) ∧ w' = w) :
    Calls Tryz.prog 140 #[PT b, .func (.func 141) #[] #[c]] w fun x w' => x = .returned (.string (tk T σ.i).s) ∧ CR w' b s T (K.take T fits σ) v ∧ But b w w' := by
  have c1 := h.c 1 _ rfl
  have hfh := failHere_c hS h 2
  have hst := kstep_c hS h
  unfold K.take
  generalize tk T σ.i = t at *
  obtain ⟨ts, tp⟩ := t
  dsimp only at *
  cases e : fits ts with
  | true =>
    rw [e] at hf
    rw [if_pos rfl]
    generalize K.step T σ = σ1 at *
    go_enter Tryz.func140, Tryz.ntmps140
    go_wp2_with fail
    refine hf.mono ?_
    rintro x w1 ⟨rfl, rfl⟩
    go_wp2_with fail
    refine hst.mono ?_
    rintro x w2 ⟨rfl, hr, hb⟩
    go_wp2_with fail
    go_ret
    exact ⟨rfl, hr, hb⟩
  | false =>
    rw [e] at hf
    rw [if_neg (by decide)]
    generalize K.here T 2 σ = σ1 at *
    go_enter Tryz.func140, Tryz.ntmps140
    go_wp2_with fail
    refine hf.mono ?_
    rintro x w1 ⟨rfl, rfl⟩
    go_wp2_with fail
    refine hfh.mono ?_
    rintro x w2 ⟨rfl, hr, hb⟩
    go_wp2_with fail
    go_ret
    exact ⟨rfl, hr, hb⟩

end Go.Proofs.YtjgiefnjmngdkaaGreatDoor
namespace Go.Proofs.YtjgiefnjmngdkaaGreatDoor
open Go.RowKit
open R (Tok)

theorem le_u8 (c : UInt8) (a : Nat) : decide ((a : Int) ≤ (c.toNat : Int)) = decide (a ≤ c.toNat) := by
  rw [decide_eq_decide]; omega
theorem u8_le (c : UInt8) (a : Nat) : decide ((c.toNat : Int) ≤ (a : Int)) = decide (c.toNat ≤ a) := by
  rw [decide_eq_decide]; omega

set_option maxHeartbeats 400000 in
theorem isLetter_c (c : UInt8) (w : World) : Calls Tryz.prog 199 #[.int .u8 c.toNat] w fun x w' => x = .returned (.bool (R.low c)) ∧ w' = w := by
  have HK : Hid (R.low c = decide (97 ≤ c.toNat ∧ c.toNat ≤ 122)) := rfl
  generalize R.low c = q at *
  by_cases h1 : (97 : Int) ≤ (c.toNat : Int)
  · by_cases h2 : (c.toNat : Int) ≤ 122
    · have e : q = true := by rw [HK.out]; simp; omega
      subst e
      go_enter Tryz.func199, Tryz.ntmps199
      go_wp2
      go_ret
      exact ⟨rfl, rfl⟩
    · have e : q = false := by rw [HK.out]; simp; omega
      subst e
      go_enter Tryz.func199, Tryz.ntmps199
      go_wp2
      go_ret
      exact ⟨rfl, rfl⟩
  · have e : q = false := by rw [HK.out]; simp; omega
    subst e
    go_enter Tryz.func199, Tryz.ntmps199
    go_wp2
    go_ret
    exact ⟨rfl, rfl⟩
set_option maxHeartbeats 400000 in
theorem isDigit_c (c : UInt8) (w : World) : Calls Tryz.prog 216 #[.int .u8 c.toNat] w fun x w' => x = .returned (.bool (R.dig c)) ∧ w' = w := by
  have HK : Hid (R.dig c = decide (48 ≤ c.toNat ∧ c.toNat ≤ 57)) := rfl
  generalize R.dig c = q at *
  by_cases h1 : (48 : Int) ≤ (c.toNat : Int)
  · by_cases h2 : (c.toNat : Int) ≤ 57
    · have e : q = true := by rw [HK.out]; simp; omega
      subst e
      go_enter Tryz.func216, Tryz.ntmps216
      go_wp2
      go_ret
      exact ⟨rfl, rfl⟩
    · have e : q = false := by rw [HK.out]; simp; omega
      subst e
      go_enter Tryz.func216, Tryz.ntmps216
      go_wp2
      go_ret
      exact ⟨rfl, rfl⟩
  · have e : q = false := by rw [HK.out]; simp; omega
    subst e
    go_enter Tryz.func216, Tryz.ntmps216
    go_wp2
    go_ret
    exact ⟨rfl, rfl⟩
end Go.Proofs.YtjgiefnjmngdkaaGreatDoor
namespace Go.Proofs.YtjgiefnjmngdkaaGreatDoor
open Go.RowKit
open R (Tok)

def K.madeOf (p : UInt8 → Bool) (most : Nat) (s : ByteArray) : Bool := decide (1 ≤ s.size) && (decide (s.size ≤ most) && s.data.toList.all p)
theorem all_drop_step {p : UInt8 → Bool} {s : ByteArray} {k : Nat} (h : k < s.size) : (s.data.toList.drop k).all p = (p s[k] && (s.data.toList.drop (k + 1)).all p) := by
  rw [K.drop_cons s k h, List.all_cons]
theorem all_drop_end {p : UInt8 → Bool} {s : ByteArray} {k : Nat} (h : ¬ k < s.size) : (s.data.toList.drop k).all p = true := by
  rw [List.drop_eq_nil_of_le (by have : s.data.toList.length = s.size := rfl; omega)]
  rfl

set_option maxHeartbeats 400000 in
theorem madeOf_letter (s : ByteArray) (most : Nat) (w : World) (hs : s.size ≤ 1000) (hm : most ≤ 1000) :
    Calls Tryz.prog 198 #[.string s, .int .i64 (most : Int), .func (.func 199) #[] #[]] w fun x w' => x = .returned (.bool (K.madeOf R.low most s)) ∧ w' = w := by
  have HK : Hid (K.madeOf R.low most s = (decide (1 ≤ s.size) && (decide (s.size ≤ most) && s.data.toList.all R.low))) := rfl
  generalize K.madeOf R.low most s = q at *
  by_cases h1 : (s.size : Int) < 1
  · have e : q = false := by rw [HK.out, decide_eq_false (by omega)]; rfl
    subst e
    go_enter Tryz.func198, Tryz.ntmps198
    go_wp2_with fail
    go_ret
    exact ⟨rfl, rfl⟩
  · by_cases h2 : (most : Int) < (s.size : Int)
    · have e : q = false := by rw [HK.out, decide_eq_false (by omega : ¬ s.size ≤ most)]; simp
      subst e
      go_enter Tryz.func198, Tryz.ntmps198
      go_wp2_with fail
      go_ret
      exact ⟨rfl, rfl⟩
    · have HQ : Hid (q = (s.data.toList.drop 0).all R.low) := by show _ = _; rw [HK.out, decide_eq_true (by omega : 1 ≤ s.size), decide_eq_true (by omega : s.size ≤ most)]; rfl
      clear HK
      go_enter Tryz.func198, Tryz.ntmps198
      go_wp2_with fail
      go_loop [7, 19] (fun _ i => ∃ k : Nat, k ≤ s.size ∧ i = .int .i64 (k : Int) ∧ Hid (q = (s.data.toList.drop k).all R.low)) (fun _ i => s.size - (intOf i).toNat)
      case atStart => exact ⟨0, Nat.zero_le _, rfl, HQ⟩
      case round =>
        obtain ⟨k, hk, rfl, HR⟩ := hrel
        clear HQ
        by_cases hlt : k < s.size
        · have hc := isLetter_c s[k]
          cases e1 : R.low s[k] with
          | true =>
            rw [e1] at hc
            have HN : Hid (q = (s.data.toList.drop (k + 1)).all R.low) := by show _ = _; rw [HR.out, all_drop_step hlt, e1]; rfl
            clear HR
            go_wp2_with (go_at_call 199; refine (hc _).mono ?_; rintro x w' ⟨rfl, rfl⟩)
            go_round
            case rel => exact ⟨k + 1, by omega, by go_num, HN⟩
            case measure => simp [intOf]; omega
          | false =>
            rw [e1] at hc
            have e : q = false := by rw [HR.out, all_drop_step hlt, e1]; rfl
            subst e
            clear HR
            go_wp2_with (go_at_call 199; refine (hc _).mono ?_; rintro x w' ⟨rfl, rfl⟩)
            go_ret
            exact ⟨rfl, rfl⟩
        · have e : q = true := by rw [HR.out, all_drop_end hlt]
          subst e
          clear HR
          go_wp2_with fail
          go_ret
          exact ⟨rfl, rfl⟩

set_option maxHeartbeats 400000 in
theorem madeOf_digit (s : ByteArray) (most : Nat) (w : World) (hs : s.size ≤ 1000) (hm : most ≤ 1000) :
    Calls Tryz.prog 198 #[.string s, .int .i64 (most : Int), .func (.func 216) #[] #[]] w fun x w' => x = .returned (.bool (K.madeOf R.dig most s)) ∧ w' = w := by
  have HK : Hid (K.madeOf R.dig most s = (decide (1 ≤ s.size) && (decide (s.size ≤ most) && s.data.toList.all R.dig))) := rfl
  generalize K.madeOf R.dig most s = q at *
  by_cases h1 : (s.size : Int) < 1
  · have e : q = false := by rw [HK.out, decide_eq_false (by omega)]; rfl
    subst e
    go_enter Tryz.func198, Tryz.ntmps198
    go_wp2_with fail
    go_ret
    exact ⟨rfl, rfl⟩
  · by_cases h2 : (most : Int) < (s.size : Int)
    · have e : q = false := by rw [HK.out, decide_eq_false (by omega : ¬ s.size ≤ most)]; simp
      subst e
      go_enter Tryz.func198, Tryz.ntmps198
      go_wp2_with fail
      go_ret
      exact ⟨rfl, rfl⟩
    · have HQ : Hid (q = (s.data.toList.drop 0).all R.dig) := by show _ = _; rw [HK.out, decide_eq_true (by omega : 1 ≤ s.size), decide_eq_true (by omega : s.size ≤ most)]; rfl
      clear HK
      go_enter Tryz.func198, Tryz.ntmps198
      go_wp2_with fail
      go_loop [7, 19] (fun _ i => ∃ k : Nat, k ≤ s.size ∧ i = .int .i64 (k : Int) ∧ Hid (q = (s.data.toList.drop k).all R.dig)) (fun _ i => s.size - (intOf i).toNat)
      case atStart => exact ⟨0, Nat.zero_le _, rfl, HQ⟩
      case round =>
        obtain ⟨k, hk, rfl, HR⟩ := hrel
        clear HQ
        by_cases hlt : k < s.size
        · have hc := isDigit_c s[k]
          cases e1 : R.dig s[k] with
          | true =>
            rw [e1] at hc
            have HN : Hid (q = (s.data.toList.drop (k + 1)).all R.dig) := by show _ = _; rw [HR.out, all_drop_step hlt, e1]; rfl
            clear HR
            go_wp2_with (go_at_call 216; refine (hc _).mono ?_; rintro x w' ⟨rfl, rfl⟩)
            go_round
            case rel => exact ⟨k + 1, by omega, by go_num, HN⟩
            case measure => simp [intOf]; omega
          | false =>
            rw [e1] at hc
            have e : q = false := by rw [HR.out, all_drop_step hlt, e1]; rfl
            subst e
            clear HR
            go_wp2_with (go_at_call 216; refine (hc _).mono ?_; rintro x w' ⟨rfl, rfl⟩)
            go_ret
            exact ⟨rfl, rfl⟩
        · have e : q = true := by rw [HR.out, all_drop_end hlt]
          subst e
          clear HR
          go_wp2_with fail
          go_ret
          exact ⟨rfl, rfl⟩
end Go.Proofs.YtjgiefnjmngdkaaGreatDoor
