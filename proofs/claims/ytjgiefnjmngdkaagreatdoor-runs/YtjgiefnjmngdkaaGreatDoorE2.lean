import Derived.Test.YtjgiefnjmngdkaaGreatDoorE1
import Derived.Test.YtjgiefnjmngdkaaGreatDoorS1
import Derived.Test.YtjgiefnjmngdkaaGreatDoorS2
import Derived.Test.YtjgiefnjmngdkaaGreatDoorW3
import Derived.Test.YtjgiefnjmngdkaaGreatDoorN3
import Derived.Test.YtjgiefnjmngdkaaGreatDoorL1
namespace Go.Proofs.YtjgiefnjmngdkaaGreatDoor
open R (Nd Tok tk PS Thing)
open K (Nm Ex Do S Scans)
namespace Q
theorem word_node {s : ByteArray} {N : Nat} {T : List Tok} (hS : Scans s T) (hE : R.Ended T) {g f : Nat} (hr : RecD T g f) (hn : RecDN N T g f) {σ : PS} {τ : S} {hid : Bool} (h : Sm σ τ) (hh : Hs σ hid) (hp : Pls N σ.seen τ.names) (hw : Wd N τ) (hi : σ.i < T.length) (d0 : 0 ≤ τ.depth) (d1 : τ.depth ≤ 10) (dg : 11 - τ.depth ≤ (g : Int)) (df : 11 - τ.depth ≤ (f : Int)) {p : Int}
    (ha : (R.doWord T (R.does T g) p (tk T σ.i) (R.take T σ)).s.err = 0) : WN N (tk T σ.i).s (R.doWord T (R.does T g) p (tk T σ.i) (R.take T σ)) (K.doX T (K.dos T f) p τ).2 := by
  unfold R.doWord at ha ⊢
  unfold K.doX
  rw [← h.i]
  by_cases e1 : (tk T σ.i).s.toList = R.kSet
  · rw [if_pos e1] at ha ⊢
    rw [if_pos (c := K.isW [115, 101, 116] (tk T σ.i) = true) (isW_eq.mpr e1)]
    exact set_node hS hE h hp hi d0 d1 e1 ha
  rw [if_neg e1] at ha ⊢
  rw [if_neg (c := K.isW [115, 101, 116] (tk T σ.i) = true) (fun c => e1 (isW_eq.mp c))]
  by_cases e2 : (tk T σ.i).s.toList = R.kPut
  · rw [if_pos e2] at ha ⊢
    rw [if_pos (c := K.isW [112, 117, 116] (tk T σ.i) = true) (isW_eq.mpr e2)]
    exact put_node hS hE h hp hi d0 d1 e2 ha
  rw [if_neg e2] at ha ⊢
  rw [if_neg (c := K.isW [112, 117, 116] (tk T σ.i) = true) (fun c => e2 (isW_eq.mp c))]
  by_cases e3 : (tk T σ.i).s.toList = R.kIf
  · rw [if_pos e3] at ha ⊢
    rw [if_pos (c := K.isW [105, 102] (tk T σ.i) = true) (isW_eq.mpr e3)]
    exact if_node hS hE hr hn h hh hp hw hi d0 d1 (by omega) (by omega) e3 ha
  rw [if_neg e3] at ha ⊢
  rw [if_neg (c := K.isW [105, 102] (tk T σ.i) = true) (fun c => e3 (isW_eq.mp c))]
  by_cases e4 : (tk T σ.i).s.toList = R.kFor
  · rw [if_pos e4] at ha ⊢
    rw [if_pos (c := K.isW [102, 111, 114] (tk T σ.i) = true) (isW_eq.mpr e4)]
    exact for_node hS hE hn h hh hp hw hi d0 d1 dg df e4 ha
  rw [if_neg e4] at ha
  exact absurd ha (R.fail_err (by decide))
theorem do_node {s : ByteArray} {N : Nat} {T : List Tok} (hS : Scans s T) (hE : R.Ended T) {g f : Nat} (hr : RecD T g f) (hn : RecDN N T g f) {σ : PS} {τ : S} {hid : Bool} (h : Sm σ τ) (hh : Hs σ hid) (hp : Pls N σ.seen τ.names) (hw : Wd N τ) (hi : σ.i < T.length) (dg : Lv (g + 1) τ) (df : Lv (f + 1) τ)
    (ha : (R.doF T (g + 1) σ).1.err = 0) : ∃ k : Nat, (R.doF T (g + 1) σ).2 = (k : Int) ∧ ND N (R.doF T (g + 1) σ).1.nodes (K.brkDo T (K.doF T (f + 1)) τ).2 k := by
  change (R.doB T (R.does T g) σ).1.err = 0 at ha
  show ∃ k : Nat, (R.doB T (R.does T g) σ).2 = (k : Int) ∧ ND N (R.doB T (R.does T g) σ).1.nodes (K.doX T (K.dos T f) (tk T τ.i).p (K.opened T τ)).2 k
  unfold R.doB at ha ⊢
  rw [← h.i]
  have oc := R.opens_core T σ
  have ti := R.take_i T σ
  have ko := K.op2_keeps T τ
  obtain ⟨d0, d1, dg⟩ := dg
  obtain ⟨_, _, df⟩ := df
  rcases opens_eqv T h with o | o
  · rw [if_pos o.e1] at ha ⊢
    have lg := opens_lv (f := g + 1) o h d0 d1 (by omega)
    have ed := K.opened_depth T τ
    have ha1 := shut_alive (T := T) (A := (R.doWord T (R.does T g) (tk T σ.i).p (tk T (R.opens T σ).i) (R.take T (R.opens T σ))).s) ha
    have w := word_node hS hE hr hn o (hh.next oc.1) (by rw [seen_core oc.1, show (K.opened T τ).names = τ.names from ko.names]; exact hp) (by
      unfold Wd
      rw [show (K.opened T τ).words = τ.words from ko.words, show (K.opened T τ).loops = τ.loops from ko.loops]; exact hw) (by rw [oc.2.2.1]; exact ti.2.2.2 hi) lg.1 lg.2.1 (by omega) (by omega) ha1
    unfold WN at w
    refine ⟨(R.doWord T (R.does T g) (tk T σ.i).p (tk T (R.opens T σ).i) (R.take T (R.opens T σ))).s.nodes.length, ?_, ?_⟩
    · unfold R.doIn R.lastN R.addNode
      dsimp only
      rw [(R.shut_core T _).2.1, List.length_append]
      simp
    · unfold R.doIn R.addNode
      dsimp only
      rw [(R.shut_core T _).2.1]
      exact w
  · rw [if_neg o.e1] at ha
    exact absurd ha o.e1
theorem NDs.snoc {N : Nat} {nodes : List Nd} {d : Do} {k : Nat} (hd : ND N nodes d k) : ∀ {l : List Do} {ks : List Nat}, NDs N nodes l ks → NDs N nodes (l ++ [d]) (ks ++ [k])
  | [], ks, h => by
    unfold NDs at h
    subst h
    show NDs N nodes [d] [k]
    unfold NDs
    refine ⟨k, [], rfl, hd, ?_⟩
    unfold NDs
    rfl
  | e :: l, ks, h => by
    unfold NDs at h
    obtain ⟨j, r, rfl, h1, h2⟩ := h
    show NDs N nodes (e :: (l ++ [d])) (j :: (r ++ [k]))
    unfold NDs
    exact ⟨j, _, rfl, h1, NDs.snoc hd h2⟩
theorem dosL_node {s : ByteArray} {N : Nat} {T : List Tok} (hS : Scans s T) (hE : R.Ended T) {g f : Nat} (hr : RecD T g f) (hn : RecDN N T g f) {hid : Bool} (m : Nat) : ∀ (σ : PS) (τ : S) (L : List Nat) (l : List Do), Sm σ τ → Hs σ hid → Pls N σ.seen τ.names → Wd N τ → σ.i < T.length → Lv (g + 1) τ → Lv (f + 1) τ → NDs N σ.nodes l L →
    (R.doesL T (R.doF T (g + 1)) m σ (L.map (fun k : Nat => (k : Int)))).1.err = 0 →
    ∃ ks : List Nat, (R.doesL T (R.doF T (g + 1)) m σ (L.map (fun k : Nat => (k : Int)))).2 = ks.map (fun k : Nat => (k : Int)) ∧ NDs N (R.doesL T (R.doF T (g + 1)) m σ (L.map (fun k : Nat => (k : Int)))).1.nodes (K.dosL T (K.doF T (f + 1)) m τ l).2 ks := by
  induction m with
  | zero => intro σ τ L l h _ _ _ _ _ _ hl _; exact ⟨L, rfl, hl⟩
  | succ m ih =>
    intro σ τ L l h hh hp hw hi dg df hl ha
    rw [R.doesL] at ha ⊢
    rw [K.dosL, ← h.i]
    by_cases e : (tk T σ.i).s.toList = [40]
    · rw [if_pos (c := σ.err = 0 ∧ (tk T σ.i).s.toList = [40]) ⟨h.e1, e⟩] at ha ⊢
      rw [if_pos (c := K.isW [40] (tk T σ.i) = true) (isW_eq.mpr e)]
      have ok := R.doF_ok hE (g + 1) σ hi
      have kk : K.Keeps τ (K.brkDo T (K.doF T (f + 1)) τ).1 := K.closed_keeps (K.doX_keeps (fun σ => K.dos_keeps T f σ) _ _)
      have ha1 : (R.doF T (g + 1) σ).1.err = 0 := by
        by_cases e : (R.doF T (g + 1) σ).1.err = 0
        · exact e
        · rw [R.doesL_dead _ _ _ _ _ e] at ha; exact ha
      obtain ⟨k, k1, k2⟩ := do_node hS hE hr hn h hh hp hw hi dg df ha1
      rcases do_eqv hS hE hr h hh hi dg df with ⟨a1, _, _⟩ | a
      · have eL : L.map (fun k : Nat => (k : Int)) ++ [(R.doF T (g + 1) σ).2] = (L ++ [k]).map (fun k : Nat => (k : Int)) := by rw [k1, List.map_append]; rfl
        rw [eL] at ha ⊢
        obtain ⟨m1, hm1⟩ := ok.pre
        have hl1 : NDs N (R.doF T (g + 1) σ).1.nodes l L := by rw [hm1]; exact hl.mono
        exact ih _ _ (L ++ [k]) _ a1 (hh.next ok.core) (by rw [seen_core ok.core, kk.names]; exact hp) (hw.keeps kk) ok.lt (by unfold Lv; rw [kk.depth]; exact dg) (by unfold Lv; rw [kk.depth]; exact df) (NDs.snoc k2 hl1) ha
      · exact absurd ha1 a.e1
    · rw [if_neg (c := σ.err = 0 ∧ (tk T σ.i).s.toList = [40]) (fun c => e c.2)] at ha ⊢
      rw [if_neg (c := K.isW [40] (tk T σ.i) = true) (fun c => e (isW_eq.mp c))]
      exact ⟨L, rfl, hl⟩
theorem dos_node {s : ByteArray} {N : Nat} {T : List Tok} (hS : Scans s T) (hE : R.Ended T) (f : Nat) : ∀ g, RecDN N T g f := by
  induction f with
  | zero => intro g σ τ hid _ _ _ _ _ _ df; obtain ⟨_, _, _⟩ := df; omega
  | succ f ih =>
    intro g σ τ hid h hh hp hw hi dg df ha
    obtain ⟨g, rfl⟩ : ∃ k, g = k + 1 := ⟨g - 1, by obtain ⟨_, _, _⟩ := dg; omega⟩
    exact dosL_node hS hE (dos_eqv hS hE f g) (ih g) (hid := hid) T.length σ τ [] [] h hh hp hw hi dg df (by unfold NDs; rfl) ha
end Q
end Go.Proofs.YtjgiefnjmngdkaaGreatDoor
namespace Go.Proofs.YtjgiefnjmngdkaaGreatDoor
open R (Nd Tok tk PS Thing)
open K (Nm Ex Do S Scans)
namespace R
/-- Places: each begins where the one before it ends. -/
def PlR : Int → List Thing → Prop
  | _, [] => True
  | p, t :: l => t.pos = p ∧ PlR (p + t.size) l
def sumT : List Thing → Int
  | [] => 0
  | t :: l => t.size + sumT l
theorem PlR.snoc {t : Thing} : ∀ {l : List Thing} {p : Int}, PlR p l → t.pos = p + sumT l → PlR p (l ++ [t])
  | [], p, _, h => ⟨by rw [h, sumT]; omega, trivial⟩
  | u :: l, p, h, e => ⟨h.1, PlR.snoc h.2 (by rw [e, sumT]; omega)⟩
theorem sumT_snoc (t : Thing) : ∀ l : List Thing, sumT (l ++ [t]) = sumT l + t.size
  | [] => by simp [sumT]
  | u :: l => by rw [List.cons_append, sumT, sumT, sumT_snoc t l]; omega
structure RP (σ : PS) : Prop where
  pl : PlR 0 σ.seen
  sz : σ.size = sumT σ.seen
theorem RP.core {σ σ' : PS} (h : RP σ) (c : R.core σ' = R.core σ) : RP σ' := by
  have hse : σ'.seen = σ.seen := congrArg (fun c => c.1) c
  have hsz : σ'.size = σ.size := congrArg (fun c => c.2.2.1) c
  exact ⟨by rw [hse]; exact h.pl, by rw [hse, hsz]; exact h.sz⟩
theorem RP.added {σ : PS} (h : RP σ) {t : Thing} (e : t.pos = σ.size) : RP (added t σ) := by
  refine ⟨?_, ?_⟩
  · show PlR 0 (σ.seen ++ [t])
    exact h.pl.snoc (by rw [e, h.sz]; omega)
  · show σ.size + t.size = sumT (σ.seen ++ [t])
    rw [sumT_snoc, h.sz]
theorem decl_rp {T : List Tok} {σ : PS} (h : RP σ) : RP (decl T σ) := by
  have o1 := h.core (opens_core T σ).1
  unfold decl
  split
  · exact o1.core (fail_core _ _ _).1
  · generalize opens T σ = σ1 at *
    unfold declIn
    dsimp only
    have s1 := take_same T σ1
    have s2 := dHead_same T (tk T σ1.i) (take T σ1)
    generalize dHead T (tk T σ1.i) (take T σ1) = H at *
    have s3 := fresh_same T H.1
    have s4 := dSize_same T H.2.1 (fresh T H.1)
    obtain ⟨σ6, z, hz⟩ : ∃ σ6 z, dSize T H.2.1 (fresh T H.1) = (σ6, z) := ⟨_, _, rfl⟩
    rw [hz] at s4 ⊢
    have sm := ((s1.tr s2).tr s3).tr s4
    cases z with
    | none => exact o1.core sm.core
    | some n =>
      have c6 := (shut_core T σ6).1.trans sm.core
      exact (o1.core c6).added (t := ⟨_, _, _, _, n⟩) (show σ1.size = (shut T σ6).size from (congrArg (fun c => c.2.2.1) c6).symm)
theorem decls_rp (T : List Tok) (m : Nat) : ∀ σ : PS, RP σ → RP (decls T m σ) := by
  induction m with
  | zero => intro σ h; exact h
  | succ m ih =>
    intro σ h
    rw [decls]
    split
    · exact ih _ (decl_rp h)
    · exact h
theorem start_rp : RP start := ⟨trivial, rfl⟩
end R
namespace K
def PlK : Int → List Nm → Prop
  | _, [] => True
  | p, n :: l => n.place = IntKind.i64.wrap p ∧ n.kind ≤ 1 ∧ PlK (p + n.size) l
theorem PlK.snoc {n : Nm} (hk : n.kind ≤ 1) : ∀ {l : List Nm} {p : Int}, PlK p l → n.place = IntKind.i64.wrap (p + sum l) → PlK p (l ++ [n])
  | [], p, _, h => ⟨by rw [h, sum, Int.add_zero], hk, trivial⟩
  | u :: l, p, h, e => ⟨h.1, h.2.1, PlK.snoc hk h.2.2 (by rw [e, sum, Int.add_assoc])⟩
theorem dclN_pl (T : List Tok) (τ : S) : (dclN T τ).place = τ.words ∧ (dclN T τ).kind ≤ 1 := by
  have k1 := op2_keeps T τ
  have k2 : (dec0 T (tk T τ.i).p (opened T τ)).words = (opened T τ).words := by
    unfold dec0
    split
    · exact (fail_keeps ..).words
    · rfl
  have k3 : (opened T τ).words = τ.words := k1.words
  unfold dclN declN
  split
  · exact ⟨k2.trans k3, (by decide : (1 : Int) ≤ 1)⟩
  · exact ⟨k3, (by decide : (0 : Int) ≤ 1)⟩
theorem declsL_pl (T : List Tok) (m : Nat) : ∀ τ, KW τ → PlK 0 τ.names → PlK 0 (declsL T m τ).names := by
  induction m with
  | zero => intro τ _ h; exact h
  | succ m ih =>
    intro τ hw h
    rw [declsL]
    split
    · have kd := dcl_keeps T τ
      obtain ⟨p1, p2⟩ := dclN_pl T τ
      refine ih _ ((hw.keeps kd).adds _) ?_
      show PlK 0 ((dcl T τ).names ++ [dclN T τ])
      rw [kd.names]
      exact h.snoc p2 (by rw [p1, hw, Int.zero_add])
    · exact h
end K
namespace Q
theorem pls_of {W : Int} (hW : W ≤ 1000) : ∀ {l : List Thing} {m : List Nm} {p : Int}, Names l m → R.PlR p l → K.PlK p m → (∀ t ∈ l, 1 ≤ t.size ∧ t.size ≤ 6) → 0 ≤ p → p + R.sumT l ≤ W → Pls W l m
  | [], [], _, _, _, _, _, _, _ => trivial
  | t :: l, n :: m, p, h, hr, hk, hb, h0, hs => by
    have ht := hb t (List.mem_cons_self ..)
    have hs' : p + (t.size + R.sumT l) ≤ W := hs
    have hb' : ∀ u ∈ l, 1 ≤ u.size ∧ u.size ≤ 6 := fun u hu => hb u (List.mem_cons_of_mem _ hu)
    have hs0 : ∀ (l : List Thing), (∀ t ∈ l, 1 ≤ t.size ∧ t.size ≤ 6) → 0 ≤ R.sumT l := by
      intro l
      induction l with
      | nil => intro _; exact Int.le_refl _
      | cons a l ih =>
        intro hb
        have := ih fun u hu => hb u (List.mem_cons_of_mem _ hu)
        have := hb a (List.mem_cons_self ..)
        rw [R.sumT]; omega
    have hl0 := hs0 l hb'
    have ew : IntKind.i64.wrap p = p := k64 _ (by omega)
    refine ⟨⟨by rw [hr.1]; exact h0, fun _ => ⟨by rw [hk.1, hr.1, ew], by rw [hr.1]; omega, ht.1, ht.2⟩, fun e => ?_⟩, ?_⟩
    · have := hk.2.1; omega
    · refine pls_of hW h.2 hr.2 ?_ hb' (by omega) (by omega)
      rw [h.1.size]
      exact hk.2.2
  | [], _ :: _, _, h, _, _, _, _, _ => h.elim
  | _ :: _, [], _, h, _, _, _, _, _ => h.elim
end Q
end Go.Proofs.YtjgiefnjmngdkaaGreatDoor
namespace Go.Proofs.YtjgiefnjmngdkaaGreatDoor
open R (Nd Tok tk PS Thing)
open K (Nm Ex Do S Scans)
namespace Q
theorem behind_alive {T : List Tok} {A : PS} (h : (R.behind T A).err = 0) : A.err = 0 := by
  by_cases e : A.err = 0
  · exact e
  · unfold R.behind at h; rw [if_neg e] at h; exact h
theorem behind_does (T : List Tok) (A : PS) : (R.behind T A).does = A.does ∧ (R.behind T A).nodes = A.nodes := by
  unfold R.behind
  split
  · refine ⟨?_, (R.want_core T _ _).2.1⟩
    unfold R.want R.fail R.take
    split <;> (try split) <;> rfl
  · exact ⟨rfl, rfl⟩
theorem last_alive {A : PS} (h : (R.last A).err = 0) : R.last A = A := by
  unfold R.last at h ⊢
  split
  · rename_i c
    rw [if_pos c] at h
    exact absurd h (R.fail_err (by decide))
  · rfl
/-- Where the document's reading lives: its nodes are the code's Dos. -/
theorem prog_node {s : ByteArray} (hs : s.size ≤ 800) (h : (R.read s).err = 0) :
    ∃ ks : List Nat, (R.read s).does = ks.map (fun k : Nat => (k : Int)) ∧ NDs (R.read s).shape.length (R.read s).nodes (K.progD (R.toks s)) ks ∧ (R.read s).nodes.length ≤ (R.toks s).length + 1 := by
  obtain ⟨c0, _, _, cw, c54, csz, _, _⟩ := shape_ok hs h
  have hE := R.toks_ended s
  have hl := (R.toks_len s).2
  have hS := K.scans_toks hs
  have hr : R.read s = R.readT (R.toks s) := by unfold R.read; rw [if_neg (by omega)]
  rw [hr, readT_early] at h cw c54 csz ⊢
  have el := last_alive h
  rw [el] at h cw c54 csz ⊢
  generalize R.toks s = T at *
  have kS : K.Keeps (K.prog0 T) (K.progS T) := (K.dos_keeps T 11 _).trans (K.expect_keeps T _ _)
  have hrp := R.decls_rp T 9 R.start R.start_rp
  have hfl := R.decls_fl T 9 0 R.start R.start_fl
  have hkw0 : K.KW K.start := by unfold K.KW; decide
  have hkp := K.declsL_pl T T.length K.start hkw0 trivial
  have hd := decls_eqv hE T.length 9 0 R.start K.start start_sm R.start_db (by omega) (by omega) hl (by omega) rfl
  have bd := behind_does T (R.done (R.does T 12 (R.decls T 9 R.start)).2 (R.does T 12 (R.decls T 9 R.start)).1)
  have hlt := R.decls_lt T 9 R.start hl
  have dk := R.does_ok hE 12 hlt
  have hsh : (early T).size = (R.decls T 9 R.start).size := by
    unfold early
    have e1 : ∀ A : PS, (R.behind T A).size = A.size := fun A => by
      unfold R.behind
      split
      · exact congrArg (fun c => c.2.2.1) (R.want_core T _ _).1
      · rfl
    rw [e1]
    exact congrArg (fun c => c.2.2.1) dk.core
  unfold early at h
  have hb := behind_alive h
  have ha : (R.does T 12 (R.decls T 9 R.start)).1.err = 0 := hb
  unfold K.progD
  have ed : (early T).does = (R.does T 12 (R.decls T 9 R.start)).2 := bd.1
  have en : (early T).nodes = (R.does T 12 (R.decls T 9 R.start)).1.nodes := bd.2
  rw [ed, en]
  generalize (early T).shape.length = N at *
  generalize (early T).size = Z at *
  have hp0 : K.prog0 T = K.declsL T T.length K.start := rfl
  rw [← hp0] at hd hkp
  generalize R.decls T 9 R.start = A at *
  have kw := kS.words
  have kl := kS.loops
  generalize K.prog0 T = B at *
  rcases hd with ⟨d1, d2, ⟨k, d3⟩, d4⟩ | d
  · have e0 : B.depth = 0 := by rw [← d1.nest]; exact d3.nest
    have hH : Hs A false := ⟨by rw [d3.rest.2]; decide, by rw [d3.rest.2]; decide⟩
    have hpl : Pls N A.seen B.names := pls_of (by omega) d1.names hrp.pl hkp hfl.bd (by omega) (by rw [← hrp.sz]; omega)
    have hl0 : B.loops = 0 := by rw [← d1.loops]; exact d3.rest.1
    have hwd : Wd N B := ⟨by rw [← kw]; exact cw, by omega, by omega⟩
    obtain ⟨ks, k1, k2⟩ := dos_node hS hE 11 12 A B false d1 hH hpl hwd d4 ⟨by omega, by omega, by omega⟩ ⟨by omega, by omega, by omega⟩ ha
    have hp1 := dk.p1
    rw [d3.nodes, List.length_nil] at hp1
    exact ⟨ks, k1, k2, by omega⟩
  · exact absurd (does_alive ha) d.e1
end Q
end Go.Proofs.YtjgiefnjmngdkaaGreatDoor
namespace Go.Proofs.YtjgiefnjmngdkaaGreatDoor
open Go.RowKit
open K (Nm)

theorem nms_form {w : World} {v : Value} {ns : List Nm} (h : w.ownsRow 0 96 5 v ns.length (ns.flatMap nmCells)) : ∃ a n c, v = .slice a n c := by
  rcases nms_row h with ⟨e, _⟩ | ⟨g, cap, e, _⟩
  · exact ⟨_, _, _, e⟩
  · exact ⟨_, _, _, e⟩

/-- What the code's Run answers, at whatever text and memory. -/
theorem run_c (s : ByteArray) (w : World) (hm : s.size ≤ maxLen) (hv : K.Vars w) (hw : 5 ≤ w.heap.size) (aM : Option Addr) (cM : Nat) (ms : List Int)
    (hM : ∀ (j : Nat) u, ms[j]? = some u → ∃ gm o, aM = some ⟨gm, o, none⟩ ∧ gm < w.heap.size ∧ w.cell? ⟨gm, o + j, none⟩ = some (.int .i64 u)) :
    Calls Tryz.prog 21 #[.string s, .slice aM ms.length cM] w fun x w' => ((¬ (R.read s).err = 0 ∧ x = .returned (.tuple #[.slice none 0 0, .int .i64 (R.read s).err])) ∨
      ((R.read s).err = 0 ∧ ¬ ms.length = (R.read s).shape.length ∧ x = .returned (.tuple #[.slice none 0 0, .int .i64 8])) ∨
      ((R.read s).err = 0 ∧ ms.length = (R.read s).shape.length ∧ ∃ g, x = .returned (.tuple #[.slice (some ⟨g, 0, none⟩) ms.length ms.length, .int .i64 0]) ∧ w.heap.size ≤ g ∧ At w' g 3 (((V.rds (K.progD (R.toks s)) (ms ++ [0, 0])).take ms.length).map fun n => .int .i64 n))) ∧ Below w.heap.size w w' := by
  by_cases hl : 800 < s.size
  · have e := read_long_err hl
    refine (run_err (E := 1) (Q := 0) aM ms.length cM rfl (by decide) (mread_long s w hl hm)).mono fun x w' h => ⟨Or.inl ⟨by rw [e]; decide, by rw [e]; exact h.1⟩, h.2⟩
  · have hr := mread_c (fun l h => gds_of l (gdl_c l h)) s w (by omega) hv hw
    by_cases he : (R.read s).err = 0
    · obtain ⟨p1, p2, p3, p4, p5, p6, p7, p8⟩ := Q.shape_ok (by omega) he
      obtain ⟨ks, _, hn, _⟩ := Q.prog_node (by omega) he
      by_cases hne : ms.length = (R.read s).shape.length
      · have hg := run_go (s := s) (w := w) (N := ms.length) (by omega) ms rfl (K.progD (R.toks s)) (by rw [hne]; exact hn.wf) (aM := aM) (cM := cM) hM (hr.mono fun x w' h => ?_)
        · exact hg.mono fun x w' h => ⟨Or.inr (Or.inr ⟨he, hne, h.1⟩), h.2⟩
        · obtain ⟨hx, hb⟩ := h
          refine ⟨?_, hb⟩
          rcases hx with ⟨h1, _⟩ | ⟨_, h1, _⟩ | ⟨_, _, nv, dv, us, rfl, nr, dr, de⟩
          · exact absurd p1 h1
          · rw [p2] at h1; cases h1
          · obtain ⟨da, dn, dc, rfl⟩ := dr.form
            obtain ⟨na, nn, nc, rfl⟩ := nms_form nr
            exact ⟨na, nn, nc, da, dn, dc, us, by rw [p4, hne], dr, de⟩
      · have hg := run_arg (s := s) (w := w) (N := (R.read s).shape.length) (aM := aM) (nM := ms.length) (cM := cM) hne (hr.mono fun x w' h => ?_)
        · exact hg.mono fun x w' h => ⟨Or.inr (Or.inl ⟨he, hne, h.1⟩), h.2⟩
        · obtain ⟨hx, hb⟩ := h
          refine ⟨?_, hb⟩
          rcases hx with ⟨h1, _⟩ | ⟨_, h1, _⟩ | ⟨_, _, nv, dv, us, rfl, nr, dr, de⟩
          · exact absurd p1 h1
          · rw [p2] at h1; cases h1
          · obtain ⟨da, dn, dc, rfl⟩ := dr.form
            obtain ⟨na, nn, nc, rfl⟩ := nms_form nr
            exact ⟨na, nn, nc, da, dn, dc, by rw [p4]⟩
    · have hk := Q.check_read (R.toks_ended s)
      have hc : K.check s = K.checkT (R.toks s) := by unfold K.check; rw [if_neg hl]
      rw [hc] at hk
      unfold K.checkT at hk
      have hk1 := congrArg Prod.fst hk
      dsimp only at hk1
      generalize (R.read s).err = E at *
      refine (run_err (E := E) (Q := (K.checkT (R.toks s)).2) aM ms.length cM rfl he (hr.mono fun x w' h => ⟨?_, h.2⟩)).mono fun x w' h => ⟨Or.inl ⟨he, h.1⟩, h.2⟩
      unfold K.checkT
      rcases h.1 with ⟨h1, h2⟩ | ⟨h1, h2, h3⟩ | ⟨h1, h2, _⟩
      · rw [if_neg h1] at hk1 ⊢
        rw [h2]
        rw [← hk1]
      · rw [if_pos h1, if_pos h2] at hk1 ⊢
        rw [h3]
        rw [← hk1]
      · rw [if_pos h1, if_neg (by rw [h2]; decide)] at hk1
        exact absurd hk1.symm he
end Go.Proofs.YtjgiefnjmngdkaaGreatDoor
namespace Go.Proofs.YtjgiefnjmngdkaaGreatDoor
open Go.RowKit
open K (Nm)

/-- What muteref.Read leaves, at whatever text: the error; where there is none, the words, and what a run looks at. -/
theorem read_run (s : ByteArray) (w : World) (hm : s.size ≤ maxLen) :
    Calls Tryz.prog 15 #[.string s] w fun x w' => ∃ b, x = .returned (P b) ∧ Below w.heap.size w w' ∧ b < w'.heap.size ∧ w'.cell? ⟨b, 2, none⟩ = some (.int .i64 (R.read s).err) ∧
      ((R.read s).err = 0 → (R.read s).shape.length ≤ 54 ∧ w'.cell? ⟨b, 6, none⟩ = some (.int .i64 ((R.read s).shape.length : Int)) ∧
        ∃ H, w'.cell? ⟨b, 9, none⟩ = some H ∧ w'.ownsRow 0 4 1 H (R.read s).shape.length (bools (R.read s).shape) ∧
        PAt w' w'.heap.size b (R.read s).nodes ∧ ∃ a c, ∃ ks : List Nat, w'.cell? ⟨b, 8, none⟩ = some (.slice a ks.length c) ∧ NDs (R.read s).shape.length (R.read s).nodes (K.progD (R.toks s)) ks ∧ ks.length ≤ 9223372036854775807 ∧
          ∀ (j : Nat) u, ks[j]? = some u → ∃ q, a = some ⟨q, 0, none⟩ ∧ q < w'.heap.size ∧ w'.cell? ⟨q, 0 + j, none⟩ = some (.int .i64 (u : Int))) := by
  by_cases hs : 800 < s.size
  · have e : R.read s = R.fail 1 0 R.start := by unfold R.read; rw [if_pos hs]
    rw [e]
    exact (read_long s w hs hm).mono fun x w' ⟨b, hx, ho, _, hc⟩ => ⟨b, hx, ho.below, hc.lt, hc.cell 2, fun h => absurd h (by decide)⟩
  · have e : R.read s = R.readT (R.toks s) := by unfold R.read; rw [if_neg hs]
    refine (read_c s w (by omega)).mono fun x w' ⟨b, r, hx, h⟩ => ?_
    rw [← e] at h
    refine ⟨b, hx, h.own.below, h.rep.cells.lt, h.rep.c1 2 _ rfl, fun he => ?_⟩
    obtain ⟨p1, p2, p3, p4, p5, p6, p7, p8⟩ := Q.shape_ok (by omega) he
    obtain ⟨ks, k1, k2, k3⟩ := Q.prog_node (by omega) he
    have hf := h.rep.few
    have hd := h.rep.does
    obtain ⟨a, c, i1, i2, i3⟩ := ints_at (l := (R.read s).does) hd
    rw [k1] at i1 i2 i3
    rw [List.length_map] at i1 i2
    refine ⟨p5, ?_, r.H, h.rep.c1 9 _ rfl, h.rep.shape, rep_pat h.rep (by omega), a, c, ks, ?_, k2, by omega, fun j u hj => ?_⟩
    · rw [h.rep.c1 6 _ rfl, p6]
    · rw [h.rep.c1 8 _ rfl, i1]
    · have := i3 j (u : Int) (by rw [List.getElem?_map, hj]; rfl)
      simpa using this
end Go.Proofs.YtjgiefnjmngdkaaGreatDoor
