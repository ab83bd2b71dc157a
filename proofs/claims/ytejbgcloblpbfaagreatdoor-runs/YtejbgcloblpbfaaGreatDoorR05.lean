import Derived.Test.YtejbgcloblpbfaaGreatDoorR04
namespace Go.Proofs.YtejbgcloblpbfaaGreatDoor
open Go.RowKit
open R (Tok)
set_option maxHeartbeats 400000 in
theorem scan_c (s : ByteArray) (i : Nat) (w : World) (hi : i ≤ s.size) (hs : s.size ≤ 1000) :
    Calls Tryz.prog 72 #[.string s, .int .i64 (i : Int)] w fun x w' => x = .returned (.agg #[.string (K.scan s i).s, .int .i64 (K.scan s i).p]) ∧ w' = w.alloc (.cells #[.string (K.scan s i).s, .int .i64 (K.scan s i).p] 136) := by
  have HK : Hid (K.scan s i = ⟨s.extract (K.runOf K.blank s i) (K.endTok s (K.runOf K.blank s i)), (K.runOf K.blank s i : Nat)⟩) := rfl
  go_enter Tryz.func72, Tryz.ntmps72
  go_wp2
  go_loop [5] (fun v => ∃ k : Nat, i ≤ k ∧ k ≤ s.size ∧ v = .int .i64 (k : Int) ∧ Hid (K.runOf K.blank s i = K.runOf K.blank s k)) (fun v => s.size - (intOf v).toNat)
  case atStart => exact ⟨i, Nat.le_refl _, hi, rfl, rfl⟩
  case round =>
    obtain ⟨k, hik, hks, rfl, HR⟩ := hrel
    have he := fun w => endOfToken_c s k w hks hs
    have hle := K.endTok_le hks
    have fin : ∀ (e : K.runOf K.blank s k = k), Hid (K.scan s i = ⟨s.extract k (K.endTok s k), (k : Nat)⟩) := fun e => by
      show _ = _
      rw [HK.out, HR.out, e]
    by_cases hlt : k < s.size
    · have hb := isBlank_c s[k]
      cases e1 : K.blank s[k] with
      | true =>
        rw [e1] at hb
        have HN : Hid (K.runOf K.blank s i = K.runOf K.blank s (k + 1)) := HR.out.trans (K.run_step hlt e1)
        clear HR fin HK
        go_wp2_with (go_at_call 100; refine (hb _).mono ?_; rintro x w' ⟨rfl, rfl⟩)
        go_round
        case rel => exact ⟨k + 1, by omega, by omega, by go_num, HN⟩
        case measure => simp [intOf]; omega
      | false =>
        rw [e1] at hb
        have HF := fin (K.run_stop hlt e1)
        clear HR fin HK
        generalize K.endTok s k = e at *
        go_wp2_with (first | (go_at_call 100; refine (hb _).mono ?_; rintro x w' ⟨rfl, rfl⟩) | (go_at_call 101; refine (he _).mono ?_; rintro x w' ⟨rfl, rfl⟩))
        rw [HF.out]
        exact bodyPost_ret (v := .agg #[.string (s.extract k e), .int .i64 (k : Int)]) (by simp [results, Tryz.results72, go_sem]) rfl ⟨rfl, rfl⟩
    · have HF := fin (K.run_end hlt)
      clear HR fin HK
      generalize K.endTok s k = e at *
      go_wp2_with (first | (go_at_call 101; refine (he _).mono ?_; rintro x w' ⟨rfl, rfl⟩))
      rw [HF.out]
      exact bodyPost_ret (v := .agg #[.string (s.extract k e), .int .i64 (k : Int)]) (by simp [results, Tryz.results72, go_sem]) rfl ⟨rfl, rfl⟩
end Go.Proofs.YtejbgcloblpbfaaGreatDoor
namespace Go.Proofs.YtejbgcloblpbfaaGreatDoor
namespace K
open R (Tok tk)
structure Nm where
  text : ByteArray
  kind : Int
  sec : Bool
  size : Int
  place : Int
structure S where
  i : Nat
  names : List Nm
  words : Int
  depth : Int
  loops : Int
  err : Int
  eat : Int
def nx (T : List Tok) (i : Nat) : Nat := if i + 1 < T.length then i + 1 else i
structure Scans (s : ByteArray) (T : List Tok) : Prop where
  size : s.size ≤ 800
  pos : 0 < T.length
  few : T.length ≤ 1000
  first : scan s 0 = tk T 0
  last : tk T (T.length - 1) = ⟨⟨#[]⟩, s.size⟩
  next : ∀ i, i < T.length → ∃ p : Nat, (tk T i).p = p ∧ p + (tk T i).s.size ≤ s.size ∧ scan s (p + (tk T i).s.size) = tk T (nx T i)
def step (T : List Tok) (σ : S) : S := { σ with i := nx T σ.i }
def fail (T : List Tok) (e p : Int) (σ : S) : S := if σ.err = 0 then { σ with err := e, eat := p, i := T.length - 1 } else { σ with i := T.length - 1 }
def here (T : List Tok) (e : Int) (σ : S) : S := fail T e (tk T σ.i).p σ
def take (T : List Tok) (fits : ByteArray → Bool) (σ : S) : S := if fits (tk T σ.i).s = true then step T σ else here T 2 σ
def isIt (l : List UInt8) (s : ByteArray) : Bool := s.toList == l
def expect (T : List Tok) (l : List UInt8) (σ : S) : S := take T (isIt l) σ
theorem nx_lt {T : List Tok} {i : Nat} (h : i < T.length) : nx T i < T.length := by unfold nx; split <;> omega
theorem step_lt {T : List Tok} {σ : S} (h : σ.i < T.length) : (step T σ).i < T.length := nx_lt h
theorem fail_lt {T : List Tok} {e p : Int} {σ : S} (h : σ.i < T.length) : (fail T e p σ).i < T.length := by unfold fail; split <;> (show T.length - 1 < T.length; omega)
end K
end Go.Proofs.YtejbgcloblpbfaaGreatDoor
namespace Go.Proofs.YtejbgcloblpbfaaGreatDoor
namespace R
def isDecl (s : List UInt8) : Bool := s == kPublic || s == kSecret || s == kArray
def decls (T : List Tok) : Nat → PS → PS
  | 0, σ => σ
  | m + 1, σ => if σ.err = 0 ∧ (tk T σ.i).s.toList = [40] ∧ isDecl (tk T (σ.i + 1)).s.toList = true then decls T m (decl T σ) else σ
def start : PS := ⟨0, 0, 0, [], 0, 0, [], [], 0, 0, 0, -1, []⟩
def done (d : List Int) (σ : PS) : PS := { σ with does := d }
def behind (T : List Tok) (σ : PS) : PS := if σ.err = 0 then want T [] σ else σ
def last (σ : PS) : PS := if σ.err = 0 ∧ 0 ≤ σ.leak then fail 7 σ.leak σ else σ
def readT (T : List Tok) : PS :=
  let σ := decls T 9 start
  let a := does T 12 σ
  last (behind T (done a.2 a.1))
def read (s : ByteArray) : PS := if 800 < s.size then fail 1 0 start else readT (toks s)
structure DB (m : Nat) (σ : PS) : Prop where
  nest : σ.nest = 0
  names : σ.names = m
  size : 0 ≤ σ.size ∧ σ.size ≤ 6 * m
  seen : σ.seen.length = m
  shape : (σ.shape.length : Int) = σ.size
  nodes : σ.nodes = []
  rest : σ.loops = 0 ∧ σ.hidden = 0
theorem start_db : DB 0 start := ⟨rfl, rfl, ⟨by decide, by decide⟩, rfl, rfl, rfl, rfl, rfl⟩
end R
end Go.Proofs.YtejbgcloblpbfaaGreatDoor
namespace Go.Proofs.YtejbgcloblpbfaaGreatDoor
namespace K
open R (Tok tk)
structure Keeps (σ σ' : S) : Prop where
  names : σ'.names = σ.names
  words : σ'.words = σ.words
  depth : σ'.depth = σ.depth
  loops : σ'.loops = σ.loops
theorem Keeps.rfl' (σ : S) : Keeps σ σ := ⟨rfl, rfl, rfl, rfl⟩
theorem Keeps.trans {a b c : S} (h : Keeps a b) (k : Keeps b c) : Keeps a c := ⟨k.names.trans h.names, k.words.trans h.words, k.depth.trans h.depth, k.loops.trans h.loops⟩
theorem step_keeps (T : List Tok) (σ : S) : Keeps σ (step T σ) := ⟨rfl, rfl, rfl, rfl⟩
theorem fail_keeps (T : List Tok) (e p : Int) (σ : S) : Keeps σ (fail T e p σ) := by unfold fail; split <;> exact ⟨rfl, rfl, rfl, rfl⟩
theorem take_keeps (T : List Tok) (f : ByteArray → Bool) (σ : S) : Keeps σ (take T f σ) := by
  unfold take; split
  · exact step_keeps T σ
  · exact fail_keeps T _ _ σ
theorem expect_keeps (T : List Tok) (l : List UInt8) (σ : S) : Keeps σ (expect T l σ) := take_keeps T _ σ
theorem Scans.tsize {s : ByteArray} {T : List Tok} (h : Scans s T) {i : Nat} (hi : i < T.length) : (tk T i).s.size ≤ 800 := by
  obtain ⟨p, _, h2, _⟩ := h.next i hi
  have := h.size
  omega
end K
end Go.Proofs.YtejbgcloblpbfaaGreatDoor
