import Derived.Test.YtjgiefnjmngdkaaGreatDoorM19
import Derived.Test.YtjgiefnjmngdkaaGreatDoorM20
import Derived.Test.YtjgiefnjmngdkaaGreatDoorM13
import Derived.Deep.CutBlock
namespace Go.Proofs.YtjgiefnjmngdkaaGreatDoor
open Go.RowKit
open R (Tok tk)
open K (Nm S Scans Ex Do)

def K.dcl (T : List Tok) (σ : S) : S := K.closed T (K.decl T (tk T σ.i).p (K.opened T σ))
def K.dclN (T : List Tok) (σ : S) : Nm := K.declN T (tk T σ.i).p (K.opened T σ)
def K.adds (n : Nm) (σ : S) : S := { σ with names := σ.names ++ [n], words := IntKind.i64.wrap (σ.words + n.size) }
def K.isDcl (T : List Tok) (σ : S) : Bool := K.isW [40] (tk T σ.i) && R.isDecl (tk T (K.nx T σ.i)).s.toList
def K.declsL (T : List Tok) : Nat → S → S
  | 0, σ => σ
  | m + 1, σ => if K.isDcl T σ = true then K.declsL T m (K.adds (K.dclN T σ) (K.dcl T σ)) else σ
theorem K.array_keeps (T : List Tok) (σ : S) : K.Keeps σ (K.array T σ) := (((K.step_keeps T σ).trans (K.take_keeps T _ _)).trans (K.newName_keeps T _)).trans (K.take_keeps T _ _)
theorem K.array_fwd (T : List Tok) (σ : S) : K.Fwd T σ (K.array T σ) := (((K.step_fwd T σ).trans (K.take_fwd T _ _)).trans (K.newName_fwd T _)).trans (K.take_fwd T _ _)
theorem K.dec0_fwd (T : List Tok) (p : Int) (σ : S) : K.Fwd T σ (K.dec0 T p σ) := by
  unfold K.dec0; split
  · exact K.fail_fwd T _ _ _
  · exact K.Fwd.rfl' T σ
theorem K.decl_keeps (T : List Tok) (p : Int) (σ : S) : K.Keeps σ (K.decl T p σ) := by
  unfold K.decl; split
  · exact (K.dec0_keeps T p σ).trans (K.array_keeps T _)
  · exact ((K.dec0_keeps T p σ).trans (K.take_keeps T _ _)).trans (K.newName_keeps T _)
theorem K.decl_fwd (T : List Tok) (p : Int) (σ : S) : K.Fwd T σ (K.decl T p σ) := by
  unfold K.decl; split
  · exact (K.dec0_fwd T p σ).trans (K.array_fwd T _)
  · exact ((K.dec0_fwd T p σ).trans (K.take_fwd T _ _)).trans (K.newName_fwd T _)
theorem K.dcl_keeps (T : List Tok) (σ : S) : K.Keeps σ (K.dcl T σ) := K.closed_keeps (K.decl_keeps T _ _)
theorem K.dcl_over {T : List Tok} {σ : S} (h : σ.i + 1 < T.length) (h40 : K.isW [40] (tk T σ.i) = true) : σ.i + 1 ≤ (K.dcl T σ).i := by
  have a := K.opened_over h h40
  have b := (K.opened_fwd T σ (by omega)).2
  have c := (((K.decl_fwd T (tk T σ.i).p (K.opened T σ)).trans (K.closed_fwd T _)) b).1
  exact Nat.le_trans a c
theorem dcl_k {w : World} {b : Nat} {s : ByteArray} {T : List Tok} {σ : S} {v : Value} (hS : Scans s T) (h2 : 5 ≤ b) (h : CR w b s T σ v) (hv : K.Vars w) (d0 : 0 ≤ σ.depth) (d1 : σ.depth ≤ 10) (hn : σ.names.length ≤ 1000) :
    Calls Tryz.prog 104 #[PT b, .func (.func 105) #[PT b] #[]] w fun x w' => x = .returned (nmV (K.dclN T σ)) ∧ CR w' b s T (K.dcl T σ) v ∧ But b w w' :=
  inBr_name hS h d0 (by omega) (σ4 := K.decl T (tk T σ.i).p (K.opened T σ)) (by rw [(K.decl_keeps T _ _).depth, K.opened_depth]) (K.declN T (tk T σ.i).p (K.opened T σ))
    (fun w1 h1 hb1 => kdecl_c hS h1 (hv.but hb1 h2 h.cells.lt) h2 (by rw [show (K.opened T σ).names = σ.names from (K.op2_keeps T σ).names]; exact hn) _)

theorem declsL_step {T : List Tok} {k : Nat} {σk A : S} (h : Hid (A = K.declsL T (T.length - k) σk)) (hk : k < T.length) (e : K.isDcl T σk = true) : Hid (A = K.declsL T (T.length - (k + 1)) (K.adds (K.dclN T σk) (K.dcl T σk))) := by
  have : T.length - k = (T.length - (k + 1)) + 1 := by omega
  rw [this, K.declsL, if_pos e] at h
  exact h
theorem declsL_stop {T : List Tok} {m : Nat} {σk : S} (e : K.isDcl T σk = false) : K.declsL T m σk = σk := by
  cases m with
  | zero => rfl
  | succ m => rw [K.declsL, if_neg (by rw [e]; decide)]

def K.start : S := ⟨0, [], 0, 0, 0, 0, 0⟩
def K.prog0 (T : List Tok) : S := K.declsL T T.length K.start
def K.progS (T : List Tok) : S := K.expect T [] (K.dos T 11 (K.prog0 T)).1
def K.progD (T : List Tok) : List Do := (K.dos T 11 (K.prog0 T)).2
theorem tok_s (s p : Value) (w : World) : (Instr.field 136 (.agg #[s, p]) 0).run Tryz.prog w = .ok s w := by kernel_rfl
end Go.Proofs.YtjgiefnjmngdkaaGreatDoor
namespace Go.Proofs.YtjgiefnjmngdkaaGreatDoor
namespace K
open R (Tok tk CS cut1 cut2 cut3 cutTo isStop isBr byteAt)

/-- What the cutter adds from i on, n steps, a word open from f. -/
def more (s : ByteArray) : Nat → Nat → Int → List Tok
  | 0, _, _ => []
  | n + 1, i, f => (cut3 s i (cut2 s i (cut1 s i ⟨f, []⟩))).out ++ more s n (i + 1) (cut3 s i (cut2 s i (cut1 s i ⟨f, []⟩))).f
theorem cut_out (s : ByteArray) (i : Nat) (c : CS) : cut3 s i (cut2 s i (cut1 s i c)) = ⟨(cut3 s i (cut2 s i (cut1 s i ⟨c.f, []⟩))).f, c.out ++ (cut3 s i (cut2 s i (cut1 s i ⟨c.f, []⟩))).out⟩ := by
  obtain ⟨f, o⟩ := c
  unfold cut1 cut2 cut3
  by_cases h1 : isStop s i = true ∧ 0 ≤ f
  · simp only [h1, and_self, if_true]
    by_cases h3 : isBr s i = true <;> simp [h3]
  · simp only [h1, if_false]
    by_cases h2 : isStop s i = false ∧ f < 0
    · simp only [h2, and_self, if_true]
      by_cases h3 : isBr s i = true <;> simp [h3]
    · simp only [h2, if_false]
      by_cases h3 : isBr s i = true <;> simp [h3]
theorem cutTo_more (s : ByteArray) (n : Nat) : ∀ i, (cutTo s (i + n)).out = (cutTo s i).out ++ more s n i (cutTo s i).f := by
  induction n with
  | zero => intro i; simp [more]
  | succ n ih =>
    intro i
    have e : i + (n + 1) = (i + 1) + n := by omega
    rw [e, ih (i + 1), cutTo, cut_out, more, List.append_assoc]
theorem toks_more (s : ByteArray) : R.toks s = more s (s.size + 1) 0 (-1) ++ [⟨⟨#[]⟩, s.size⟩] := by
  unfold R.toks
  have h := cutTo_more s (s.size + 1) 0
  rw [Nat.zero_add] at h
  rw [h]
  simp [cutTo]

theorem stop_at {s : ByteArray} {i : Nat} (h : i < s.size) : isStop s i = (blank s[i] || brak s[i]) := by
  unfold isStop blank brak
  rw [R.byte_get s i h, show (i == s.size) = false from by simp; omega]
  simp [Bool.or_assoc]
theorem br_at {s : ByteArray} {i : Nat} (h : i < s.size) : isBr s i = brak s[i] := by
  unfold isBr brak
  rw [R.byte_get s i h, decide_eq_true h]
  rfl
theorem stop_size (s : ByteArray) : isStop s s.size = true := by unfold isStop; simp
theorem br_size (s : ByteArray) : isBr s s.size = false := by unfold isBr; simp

/-- With no word open. -/
theorem more_blank {s : ByteArray} {n i : Nat} (h : i < s.size) (hb : blank s[i] = true) : more s (n + 1) i (-1) = more s n (i + 1) (-1) := by
  have hs : isStop s i = true := by rw [stop_at h, hb]; rfl
  have hr : isBr s i = false := by
    rw [br_at h]
    revert hb
    unfold blank brak
    intro hb
    rw [Bool.or_eq_true] at hb
    rcases hb with e | e <;> (rw [beq_iff_eq] at e; rw [e]; decide)
  rw [more]
  simp [cut1, cut2, cut3, hs, hr]
theorem more_brak {s : ByteArray} {n i : Nat} (h : i < s.size) (hb : brak s[i] = true) : more s (n + 1) i (-1) = ⟨s.extract i (i + 1), i⟩ :: more s n (i + 1) (-1) := by
  have hs : isStop s i = true := by rw [stop_at h, hb]; simp
  have hr : isBr s i = true := by rw [br_at h]; exact hb
  rw [more]
  simp [cut1, cut2, cut3, hs, hr]
theorem more_end (s : ByteArray) (n : Nat) : more s (n + 1) s.size (-1) = more s n (s.size + 1) (-1) := by
  rw [more]
  simp [cut1, cut2, cut3, stop_size, br_size]
theorem more_word {s : ByteArray} {n i : Nat} (h : i < s.size) (hm : mid s[i] = true) : more s (n + 1) i (-1) = more s n (i + 1) i := by
  unfold mid at hm
  rw [Bool.and_eq_true, Bool.not_eq_true', Bool.not_eq_true'] at hm
  have hs : isStop s i = false := by rw [stop_at h, hm.1, hm.2]; rfl
  have hr : isBr s i = false := by rw [br_at h]; exact hm.2
  rw [more]
  simp [cut1, cut2, cut3, hs, hr]
/-- A word that is open goes on. -/
theorem more_on {s : ByteArray} {n i f : Nat} (h : i < s.size) (hm : mid s[i] = true) : more s (n + 1) i (f : Int) = more s n (i + 1) (f : Int) := by
  unfold mid at hm
  rw [Bool.and_eq_true, Bool.not_eq_true', Bool.not_eq_true'] at hm
  have hs : isStop s i = false := by rw [stop_at h, hm.1, hm.2]; rfl
  have hr : isBr s i = false := by rw [br_at h]; exact hm.2
  have hf : ¬ (f : Int) < 0 := by omega
  rw [more]
  simp [cut1, cut2, cut3, hs, hr, hf]
/-- It ends. -/
theorem more_shut {s : ByteArray} {n i f : Nat} (hs : isStop s i = true) : more s (n + 1) i (f : Int) = ⟨s.extract f i, f⟩ :: more s (n + 1) i (-1) := by
  rw [more, more]
  by_cases hr : isBr s i = true
  · simp [cut1, cut2, cut3, hs, hr]
  · simp [cut1, cut2, cut3, hs, hr]
end K
end Go.Proofs.YtjgiefnjmngdkaaGreatDoor
namespace Go.Proofs.YtjgiefnjmngdkaaGreatDoor
namespace K
open R (Tok tk isStop)

theorem more_run (s : ByteArray) (m : Nat) : ∀ i f : Nat, m = s.size - i → i ≤ s.size → more s (m + 1) i (f : Int) = ⟨s.extract f (runOf mid s i), f⟩ :: more s (s.size + 1 - runOf mid s i) (runOf mid s i) (-1) := by
  induction m with
  | zero =>
    intro i f hm hi
    have e : i = s.size := by omega
    subst e
    rw [run_end (by omega), more_shut (stop_size s), show s.size + 1 - s.size = 0 + 1 from by omega]
  | succ m ih =>
    intro i f hm hi
    have h : i < s.size := by omega
    cases e : mid s[i] with
    | true => rw [more_on h e, ih (i + 1) f (by omega) (by omega), run_step h e]
    | false =>
      have hs : isStop s i = true := by
        rw [stop_at h]
        unfold mid at e
        revert e
        cases blank s[i] <;> cases brak s[i] <;> decide
      rw [run_stop h e, more_shut hs, show s.size + 1 - i = m + 1 + 1 from by omega]

/-- The words from i on. -/
def from_ (s : ByteArray) (i : Nat) : List Tok := more s (s.size + 1 - i) i (-1) ++ [⟨⟨#[]⟩, s.size⟩]
theorem scan_blank {s : ByteArray} {i : Nat} (h : i < s.size) (hb : blank s[i] = true) : scan s i = scan s (i + 1) := by
  unfold scan; rw [run_step h hb]
theorem extract_self (s : ByteArray) (i : Nat) : s.extract i i = ⟨#[]⟩ := by
  apply ByteArray.ext
  simp
theorem scan_size (s : ByteArray) : scan s s.size = ⟨⟨#[]⟩, s.size⟩ := by
  unfold scan endTok
  rw [run_end (p := blank) (by omega), run_end (p := mid) (by omega), if_neg (by omega), extract_self]
theorem from_size (s : ByteArray) : from_ s s.size = [⟨⟨#[]⟩, s.size⟩] := by
  unfold from_
  rw [show s.size + 1 - s.size = 0 + 1 from by omega, more_end]
  rfl
theorem from_step (s : ByteArray) (m : Nat) : ∀ i, m = s.size - i → i ≤ s.size →
    (scan s i = ⟨⟨#[]⟩, s.size⟩ ∧ from_ s i = [⟨⟨#[]⟩, s.size⟩]) ∨
    ∃ a e : Nat, a < e ∧ e ≤ s.size ∧ i ≤ a ∧ scan s i = ⟨s.extract a e, a⟩ ∧ from_ s i = ⟨s.extract a e, a⟩ :: from_ s e := by
  induction m with
  | zero =>
    intro i hm hi
    have e : i = s.size := by omega
    subst e
    exact Or.inl ⟨scan_size s, from_size s⟩
  | succ m ih =>
    intro i hm hi
    have h : i < s.size := by omega
    cases eb : blank s[i] with
    | true =>
      have e1 := scan_blank h eb
      have e2 : from_ s i = from_ s (i + 1) := by
        unfold from_
        rw [show s.size + 1 - i = (s.size + 1 - (i + 1)) + 1 from by omega, more_blank h eb]
      rw [e1, e2]
      rcases ih (i + 1) (by omega) (by omega) with h' | ⟨a, e, h1, h2, h3, h4⟩
      · exact Or.inl h'
      · exact Or.inr ⟨a, e, h1, h2, by omega, h4⟩
    | false =>
      right
      have ra : runOf blank s i = i := run_stop h eb
      cases ek : brak s[i] with
      | true =>
        have em : runOf mid s i = i := run_stop h (by unfold mid; rw [ek]; simp)
        refine ⟨i, i + 1, by omega, by omega, Nat.le_refl _, ?_, ?_⟩
        · unfold scan endTok
          rw [ra, em, if_pos ⟨rfl, h⟩]
        · unfold from_
          rw [show s.size + 1 - i = (s.size + 1 - (i + 1)) + 1 from by omega, more_brak h ek]
          rfl
      | false =>
        have hm' : mid s[i] = true := by unfold mid; rw [eb, ek]; rfl
        have em : runOf mid s i = runOf mid s (i + 1) := run_step h hm'
        have hl := run_le (p := mid) (s := s) (i := i + 1) (by omega)
        refine ⟨i, runOf mid s (i + 1), by omega, hl.2, Nat.le_refl _, ?_, ?_⟩
        · unfold scan endTok
          rw [ra, em, if_neg (by omega)]
        · unfold from_
          rw [show s.size + 1 - i = (s.size + 1 - (i + 1)) + 1 from by omega, more_word h hm', show s.size + 1 - (i + 1) = (s.size - (i + 1)) + 1 from by omega, more_run s _ (i + 1) i rfl (by omega)]
          rfl

theorem extract_size (s : ByteArray) (a e : Nat) (h : e ≤ s.size) (h' : a ≤ e) : (s.extract a e).size = e - a := by
  rw [ByteArray.size_extract]
  omega
/-- Each word is what is scanned behind the one ahead of it. -/
def Ch (s : ByteArray) : List Tok → Prop
  | [] => False
  | [t] => t = ⟨⟨#[]⟩, s.size⟩
  | t :: u :: r => (∃ p : Nat, t.p = p ∧ p + t.s.size ≤ s.size ∧ scan s (p + t.s.size) = u) ∧ Ch s (u :: r)
theorem from_ch (s : ByteArray) (m : Nat) : ∀ i, m = s.size - i → i ≤ s.size → Ch s (from_ s i) ∧ ∃ r, from_ s i = scan s i :: r := by
  induction m using Nat.strongRecOn with
  | _ m ih =>
    intro i hm hi
    rcases from_step s m i hm hi with ⟨h1, h2⟩ | ⟨a, e, h1, h2, h3, h4, h5⟩
    · rw [h2, h1]
      exact ⟨rfl, [], rfl⟩
    · obtain ⟨c, r, hr⟩ := ih (s.size - e) (by omega) e rfl h2
      refine ⟨?_, from_ s e, by rw [h5, h4]⟩
      rw [h5, hr]
      refine ⟨⟨a, rfl, ?_, ?_⟩, by rw [← hr]; exact c⟩
      · show a + (s.extract a e).size ≤ s.size
        rw [extract_size s a e h2 (by omega)]; omega
      · show scan s (a + (s.extract a e).size) = scan s e
        rw [extract_size s a e h2 (by omega), show a + (e - a) = e from by omega]
theorem ch_next {s : ByteArray} : ∀ (l : List Tok), Ch s l → ∀ i, i < l.length → ∃ p : Nat, (tk l i).p = p ∧ p + (tk l i).s.size ≤ s.size ∧ scan s (p + (tk l i).s.size) = tk l (nx l i)
  | [], h, _, _ => h.elim
  | [t], h, i, hi => by
    have e : i = 0 := by simp at hi; omega
    subst e
    have h' : t = ⟨⟨#[]⟩, s.size⟩ := h
    subst h'
    refine ⟨s.size, rfl, by show s.size + 0 ≤ s.size; omega, ?_⟩
    show scan s (s.size + 0) = _
    rw [Nat.add_zero, scan_size]
    rfl
  | t :: u :: r, h, i, hi => by
    obtain ⟨h1, h2⟩ := h
    cases i with
    | zero =>
      obtain ⟨p, e1, e2, e3⟩ := h1
      refine ⟨p, e1, e2, ?_⟩
      have : nx (t :: u :: r) 0 = 1 := by unfold nx; rw [if_pos (by simp)]
      rw [this]
      exact e3
    | succ i =>
      obtain ⟨p, e1, e2, e3⟩ := ch_next (u :: r) h2 i (by simpa using hi)
      refine ⟨p, e1, e2, ?_⟩
      have : nx (t :: u :: r) (i + 1) = nx (u :: r) i + 1 := by
        unfold nx
        simp only [List.length_cons]
        split <;> split <;> omega
      rw [this]
      exact e3
theorem toks_from (s : ByteArray) : R.toks s = from_ s 0 := by rw [toks_more]; rfl
theorem scans_toks {s : ByteArray} (hs : s.size ≤ 800) : Scans s (R.toks s) := by
  have hl := R.toks_len s
  obtain ⟨c, r, hr⟩ := from_ch s s.size 0 (by omega) (Nat.zero_le _)
  rw [← toks_from] at c hr
  refine ⟨hs, hl.2, by omega, ?_, ?_, ch_next _ c⟩
  · rw [hr]; rfl
  · unfold R.toks
    exact R.tk_last _ _
end K
end Go.Proofs.YtjgiefnjmngdkaaGreatDoor
namespace Go.Proofs.YtjgiefnjmngdkaaGreatDoor
open Go.RowKit
open R (Tok tk)
open K (Nm S Scans Ex Do)

/-- What the loop over Decls keeps. -/
structure PB (T : List Tok) (k : Nat) (σ : S) : Prop where
  depth : σ.depth = 0
  loops : σ.loops = 0
  names : σ.names.length = k
  few : (0 ≤ σ.words ∧ σ.words ≤ 6 * k) ∨ σ.i = T.length - 1

theorem one_byte {s : ByteArray} (h : s.size = 1) : ∃ c, s.data.toList = [c] ∧ R.byteAt s 0 = c := by
  obtain ⟨d⟩ := s
  have : d.size = 1 := h
  obtain ⟨c, rfl⟩ := Array.size_eq_one_iff.1 this
  exact ⟨c, rfl, rfl⟩
theorem val_size {s : ByteArray} (h : R.isSize s = true) : K.val s = ((R.byteAt s 0).toNat : Int) - 48 ∧ 1 ≤ K.val s ∧ K.val s ≤ 6 := by
  unfold R.isSize at h
  rw [Bool.and_eq_true, decide_eq_true_eq, decide_eq_true_eq] at h
  obtain ⟨h1, h2, h3⟩ := h
  obtain ⟨c, hc, hb⟩ := one_byte h1
  rw [hb] at h2 h3 ⊢
  have e : Lib.atoiAll s.data.toList = .ok ((c.toNat : Int) - 48) := by
    rw [hc]
    unfold Lib.atoiAll
    have n1 : ¬ c.toNat = 43 := by omega
    have n2 : ¬ c.toNat = 45 := by omega
    simp only [n1, n2, or_self, if_false]
    unfold Lib.parseMag
    rw [if_neg (by simp)]
    simp only [Lib.parseUint10]
    rw [if_pos (by omega), if_neg (by omega), if_neg (by omega)]
    dsimp only
    rw [if_neg (by omega), if_neg (by simp)]
    congr 1
    omega
  unfold K.val
  rw [e]
  dsimp only
  omega
theorem dcl_size {T : List Tok} (hp : 0 < T.length) (σ : S) : (K.dcl T σ).i = T.length - 1 ∨ (1 ≤ (K.dclN T σ).size ∧ (K.dclN T σ).size ≤ 6) := by
  unfold K.dcl K.dclN
  generalize K.opened T σ = σ0
  unfold K.decl K.declN
  by_cases ha : K.isArr (tk T (K.dec0 T (tk T σ.i).p σ0).i) = true
  · rw [if_pos ha, if_pos ha]
    generalize K.dec0 T (tk T σ.i).p σ0 = σ1
    unfold K.array K.arrayN
    by_cases hz : R.isSize (tk T (K.arrS3 T σ1).i).s = true
    · right
      have := val_size hz
      exact ⟨this.2.1, this.2.2⟩
    · left
      refine (K.closed_fwd T _).last hp ?_
      unfold K.take
      rw [if_neg hz]
      exact K.here_i T _ _
  · rw [if_neg ha, if_neg ha]
    right
    exact ⟨by show (1 : Int) ≤ 1; omega, by show (1 : Int) ≤ 6; omega⟩
theorem PB.next {T : List Tok} (hp : 0 < T.length) {k : Nat} {σ : S} (h : PB T k σ) (hk : k ≤ 1000) (hi : ¬ σ.i = T.length - 1) : PB T (k + 1) (K.adds (K.dclN T σ) (K.dcl T σ)) := by
  have kp := K.dcl_keeps T σ
  refine ⟨?_, ?_, ?_, ?_⟩
  · show (K.dcl T σ).depth = 0; rw [kp.depth]; exact h.depth
  · show (K.dcl T σ).loops = 0; rw [kp.loops]; exact h.loops
  · show ((K.dcl T σ).names ++ [_]).length = k + 1; rw [kp.names]; simp [h.names]
  · rcases dcl_size hp σ with e | e
    · exact Or.inr e
    · left
      show 0 ≤ IntKind.i64.wrap ((K.dcl T σ).words + (K.dclN T σ).size) ∧ IntKind.i64.wrap ((K.dcl T σ).words + (K.dclN T σ).size) ≤ 6 * ((k + 1 : Nat) : Int)
      rw [kp.words]
      rcases h.few with f | f
      · rw [k64 _ (by omega)]; omega
      · exact absurd f hi
theorem start_pb (T : List Tok) : PB T 0 K.start := ⟨rfl, rfl, rfl, Or.inl ⟨by decide, by decide⟩⟩
end Go.Proofs.YtjgiefnjmngdkaaGreatDoor
