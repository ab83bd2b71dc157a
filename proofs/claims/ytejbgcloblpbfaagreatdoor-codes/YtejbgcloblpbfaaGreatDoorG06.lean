import Derived.ArgAppend
import Derived.Test.YtejbgcloblpbfaaGreatDoorG05
set_option maxHeartbeats 1000000
set_option maxRecDepth 100000
namespace Go.Proofs.YtejbgcloblpbfaaGreatDoor
open Go.RowKit
open K (Nm Ex)
def K.sec:Ex->Bool
 |.num _=>false
 |.use n=>n.sec
 |.get _ n e=>n.sec||K.sec e
 |.op _ _ l r=>K.sec l||K.sec r
 |.cho _ q y n=>K.sec q||K.sec y||K.sec n
 |.none=>false
def K.good:Ex->Bool
 |.num _=>true
 |.use _=>true
 |.get _ _ e=>K.good e
 |.op _ _ l r=>K.good l&&K.good r
 |.cho _ q y n=>K.good q&&K.good y&&K.good n
 |.none=>false
def exM:Ex->Nat
 |.num _=>276
 |.use _=>277
 |.get .. =>278
 |.op .. =>178
 |.cho .. =>279
 |.none=>0
def exP:Ex->Value
 |.num v=>.agg #[.int .i64 v]
 |.use n=>.agg #[.string n.text,.int .i64 n.kind,.bool n.sec,.int .i64 n.size,.int .i64 n.place]
 |.get p n e=>.agg #[.int .i64 p,.string n.text,.int .i64 n.kind,.bool n.sec,.int .i64 n.size,.int .i64 n.place,exV e]
 |.op p o l r=>.agg #[.int .i64 p,.int .u8 o.toNat,exV l,exV r]
 |.cho p q y n=>.agg #[.int .i64 p,exV q,exV y,exV n]
 |.none=>.nilIface
def exT:Ex->TypeId
 |.num _=>206
 |.use _=>208
 |.get .. =>210
 |.op .. =>212
 |.cho .. =>214
 |.none=>0
theorem exV_good{e:Ex}(h:K.good e=true):exV e=.iface (exT e) (exP e):=by cases e<;>first |rfl |simp[K.good]at h
def SecDoes(e:Ex):Prop:=∀w:World,Calls Tryz.prog (exM e) #[exP e] w λx w'=>x=.returned (.bool (K.sec e))/\Below w.heap.size w w'
theorem sec_num(v:Int):SecDoes (.num v):=by
 intro w
 show Calls Tryz.prog 276 #[.agg #[.int .i64 v]] w _
 go_enter Tryz.func276,Tryz.ntmps276
 go_wp2
 go_ret
 exact⟨rfl,(Below.refl _ _).alloc (Nat.le_refl _) _⟩
theorem sec_use(n:Nm):SecDoes (.use n):=by
 intro w
 show Calls Tryz.prog 277 #[.agg #[.string n.text,.int .i64 n.kind,.bool n.sec,.int .i64 n.size,.int .i64 n.place]] w _
 go_enter Tryz.func277,Tryz.ntmps277
 go_wp2
 go_ret
 exact⟨rfl,(Below.refl _ _).alloc (Nat.le_refl _) _⟩
theorem sec_method(e:Ex)(h:K.good e=true)(w:World):(method 395 (exT e) (exP e) "Secret").run Tryz.prog w=.ok (exM e,exP e) w:=by
 cases e<;>first |exact absurd h (by decide)|kernel_rfl
theorem sec_ahead(e:Ex)(h:K.good e=true)(w:World):(nilAhead 395 (exT e) (exP e) "Secret").run Tryz.prog w=.ok (some false) w:=by
 cases e<;>first |exact absurd h (by decide)|kernel_rfl
theorem sec_enter(e:Ex)(h:K.good e=true)(w:World):(callFunc (exM e) #[exP e]).run Tryz.prog w=.ok (.enter (exM e) #[exP e]) w:=by
 cases e<;>first |exact absurd h (by decide)|kernel_rfl
theorem sec_get(p:Int)(n:Nm)(e:Ex)(hg:K.good e=true)(he:SecDoes e):SecDoes (.get p n e):=by
 intro w
 have hm:=sec_method e hg
 have hna:=sec_ahead e hg
 have hen:=sec_enter e hg
 have hs:=he
 unfold SecDoes at hs
 have HK:Hid (K.sec (.get p n e)=(n.sec||K.sec e)):=rfl
 show Calls Tryz.prog 278 #[.agg #[.int .i64 p,.string n.text,.int .i64 n.kind,.bool n.sec,.int .i64 n.size,.int .i64 n.place,exV e]] w _
 rw[exV_good hg]
 generalize exT e=t at*
 generalize exP e=x at*
 generalize exM e=m at*
 generalize K.sec e=q at*
 generalize K.sec (.get p n e)=r at*
 obtain⟨x0,x1,x2,x3,x4⟩:=n
 dsimp only at*
 cases x2 with
 |true=>
  have e:=HK.out
  subst e
  go_enter Tryz.func278,Tryz.ntmps278
  go_wp2_with fail
  go_ret
  exact⟨rfl,(Below.refl _ _).alloc (Nat.le_refl _) _⟩
 |false=>
  have e:=HK.out
  subst e
  go_enter Tryz.func278,Tryz.ntmps278
  go_wp2_with fail
  refine(hs _).mono ?_
  rintro y w1 ⟨rfl,hb⟩
  go_wp2_with fail
  go_ret
  exact⟨rfl,((Below.refl _ _).alloc (Nat.le_refl _) _).trans (hb.mono (by simp))⟩
theorem sec_op(p:Int)(o:UInt8)(l r:Ex)(hg:K.good l=true)(hg2:K.good r=true)(he:SecDoes l)(he2:SecDoes r):SecDoes (.op p o l r):=by
 intro w
 have hm:=sec_method l hg
 have hna:=sec_ahead l hg
 have hen:=sec_enter l hg
 have hm2:=sec_method r hg2
 have hna2:=sec_ahead r hg2
 have hen2:=sec_enter r hg2
 have hs:=he
 have hs2:=he2
 unfold SecDoes at hs hs2
 have HK:Hid (K.sec (.op p o l r)=(K.sec l||K.sec r)):=rfl
 show Calls Tryz.prog 178 #[.agg #[.int .i64 p,.int .u8 o.toNat,exV l,exV r]] w _
 rw[exV_good hg,exV_good hg2]
 generalize exT l=t at*
 generalize exP l=x at*
 generalize exM l=m at*
 generalize exT r=t2 at*
 generalize exP r=x2 at*
 generalize exM r=m2 at*
 generalize K.sec (.op p o l r)=r0 at*
 generalize K.sec l=q at*
 generalize K.sec r=q2 at*
 have nz:w.heap.size<w.heap.size+1:=by omega
 cases q with
 |true=>
  have e:=HK.out
  subst e
  go_enter Tryz.func178,Tryz.ntmps178
  go_wp2_with fail
  refine(hs _).mono ?_
  rintro y w1 ⟨rfl,hb⟩
  go_wp2_with fail
  go_ret
  exact⟨rfl,((Below.refl _ _).alloc (Nat.le_refl _) _).trans (hb.mono (by simp))⟩
 |false=>
  have e:=HK.out
  subst e
  go_enter Tryz.func178,Tryz.ntmps178
  go_wp2_with fail
  refine(hs _).mono ?_
  rintro y w1 ⟨rfl,hb⟩
  have a1:=(At.alloc_new w [.int .i64 p,.int .u8 o.toNat,.iface t x,.iface t2 x2] 212).of_block (hb.block _ (by simp))
  have c3:=a1.cell 3
  simp only[List.getElem?_cons_zero,List.getElem?_cons_succ]at c3
  go_wp2_with fail
  refine(hs2 _).mono ?_
  rintro y w2 ⟨rfl,hb2⟩
  go_wp2_with fail
  go_ret
  exact⟨rfl,(((Below.refl _ _).alloc (Nat.le_refl _) _).trans (hb.mono (by simp))).trans (hb2.mono (by have:=hb.size;simp at this;omega))⟩
theorem sec_cho(p:Int)(l r z:Ex)(hg:K.good l=true)(hg2:K.good r=true)(hg3:K.good z=true)(he:SecDoes l)(he2:SecDoes r)(he3:SecDoes z):SecDoes (.cho p l r z):=by
 intro w
 have hm:=sec_method l hg
 have hna:=sec_ahead l hg
 have hen:=sec_enter l hg
 have hm2:=sec_method r hg2
 have hna2:=sec_ahead r hg2
 have hen2:=sec_enter r hg2
 have hm3:=sec_method z hg3
 have hna3:=sec_ahead z hg3
 have hen3:=sec_enter z hg3
 have hs:=he
 have hs2:=he2
 have hs3:=he3
 unfold SecDoes at hs hs2 hs3
 have HK:Hid (K.sec (.cho p l r z)=(K.sec l||K.sec r||K.sec z)):=rfl
 show Calls Tryz.prog 279 #[.agg #[.int .i64 p,exV l,exV r,exV z]] w _
 rw[exV_good hg,exV_good hg2,exV_good hg3]
 generalize exT l=t at*
 generalize exP l=x at*
 generalize exM l=m at*
 generalize exT r=t2 at*
 generalize exP r=x2 at*
 generalize exM r=m2 at*
 generalize exT z=t3 at*
 generalize exP z=x3 at*
 generalize exM z=m3 at*
 generalize K.sec (.cho p l r z)=r0 at*
 generalize K.sec l=q at*
 generalize K.sec r=q2 at*
 generalize K.sec z=q3 at*
 cases q with
 |true=>
  have e:=HK.out
  rw[Bool.true_or,Bool.true_or]at e
  subst e
  clear HK
  go_enter Tryz.func279,Tryz.ntmps279
  go_wp2_with fail
  refine(hs _).mono ?_
  rintro y w1 ⟨rfl,hb⟩
  go_wp2_with fail
  go_ret
  exact⟨rfl,((Below.refl _ _).alloc (Nat.le_refl _) _).trans (hb.mono (by simp))⟩
 |false=>
  cases q2 with
  |true=>
   have e:=HK.out
   rw[Bool.or_true,Bool.true_or]at e
   subst e
   clear HK
   go_enter Tryz.func279,Tryz.ntmps279
   go_wp2_with fail
   refine(hs _).mono ?_
   rintro y w1 ⟨rfl,hb⟩
   have a1:=(At.alloc_new w [.int .i64 p,.iface t x,.iface t2 x2,.iface t3 x3] 214).of_block (hb.block _ (by simp))
   have c2:=a1.cell 2
   simp only[List.getElem?_cons_zero,List.getElem?_cons_succ]at c2
   go_wp2_with fail
   refine(hs2 _).mono ?_
   rintro y w2 ⟨rfl,hb2⟩
   go_wp2_with fail
   go_ret
   exact⟨rfl,(((Below.refl _ _).alloc (Nat.le_refl _) _).trans (hb.mono (by simp))).trans (hb2.mono (by have:=hb.size;simp at this;omega))⟩
  |false=>
   have e:=HK.out
   rw[Bool.or_false,Bool.false_or]at e
   subst e
   clear HK
   go_enter Tryz.func279,Tryz.ntmps279
   go_wp2_with fail
   refine(hs _).mono ?_
   rintro y w1 ⟨rfl,hb⟩
   have a1:=(At.alloc_new w [.int .i64 p,.iface t x,.iface t2 x2,.iface t3 x3] 214).of_block (hb.block _ (by simp))
   have c2:=a1.cell 2
   simp only[List.getElem?_cons_zero,List.getElem?_cons_succ]at c2
   go_wp2_with fail
   refine(hs2 _).mono ?_
   rintro y w2 ⟨rfl,hb2⟩
   have a2:=a1.of_block (hb2.block _ a1.lt)
   have c3:=a2.cell 3
   simp only[List.getElem?_cons_zero,List.getElem?_cons_succ]at c3
   go_wp2_with fail
   refine(hs3 _).mono ?_
   rintro y w3 ⟨rfl,hb3⟩
   go_wp2_with fail
   go_ret
   exact⟨rfl,((((Below.refl _ _).alloc (Nat.le_refl _) _).trans (hb.mono (by simp))).trans (hb2.mono (by have:=hb.size;simp at this;omega))).trans (hb3.mono (by have h1:=hb.size;have h2:=hb2.size;simp at h1;omega))⟩
theorem sec_c:∀e:Ex,K.good e=true->SecDoes e
 |.num v,_=>sec_num v
 |.use n,_=>sec_use n
 |.get p n e,h=>sec_get p n e h (sec_c e h)
 |.op p o l r,h=>by
  rw[K.good,Bool.and_eq_true]at h
  exact sec_op p o l r h.1 h.2 (sec_c l h.1) (sec_c r h.2)
 |.cho p q y n,h=>by
  rw[K.good,Bool.and_eq_true,Bool.and_eq_true]at h
  exact sec_cho p q y n h.1.1 h.1.2 h.2 (sec_c q h.1.1) (sec_c y h.1.2) (sec_c n h.2)
 |.none,h=>absurd h (by decide)
abbrev K.GS:=Int×Bool
def K.note(p:Int)(wr:Bool)(g:K.GS):K.GS:=if(wr&& !g.2)=true then(p,true)else g
abbrev GAt(w:World)(b:Nat)(g:K.GS):Prop:=At w b 142 [.int .i64 g.1,.bool g.2]
theorem note_c{w:World}{b:Nat}{g:K.GS}(h:GAt w b g)(p:Int)(wr:Bool):
 Calls Tryz.prog 142 #[PT b,.int .i64 p,.bool wr] w λx w'=>x=.returned (.tuple #[])/\GAt w' b (K.note p wr g)/\But b w w':=by
 obtain⟨a,f⟩:=g
 have c0:=h.cell 0
 have c1:=h.cell 1
 simp only[List.getElem?_cons_zero,List.getElem?_cons_succ]at c0 c1
 have f0:=h.frozen 0
 have f1:=h.frozen 1
 cases wr with
 |false=>
  go_enter Tryz.func142,Tryz.ntmps142
  go_wp2
  go_end0
  exact⟨rfl,h,But.refl _ _⟩
 |true=>
  cases f with
  |true=>
   go_enter Tryz.func142,Tryz.ntmps142
   go_wp2
   go_end0
   exact⟨rfl,h,But.refl _ _⟩
  |false=>
   go_enter Tryz.func142,Tryz.ntmps142
   go_wp2
   go_end0
   exact⟨rfl,(h.set 0 _).set 1 _,((But.refl b w).set 0 _).set 1 _⟩
def K.tells(n:Nm)(e:Ex)(hid:Bool):Bool:= !n.sec&&(hid||K.sec e)
theorem tells_c(n:Nm)(e:Ex)(hid:Bool)(hg:K.good e=true)(w:World):
 Calls Tryz.prog 143 #[nmV n,exV e,.bool hid] w λx w'=>x=.returned (.bool (K.tells n e hid))/\Below w.heap.size w w':=by
 have hm:=sec_method e hg
 have hna:=sec_ahead e hg
 have hen:=sec_enter e hg
 have hs:=sec_c e hg
 unfold SecDoes at hs
 have HK:Hid (K.tells n e hid=(!n.sec&&(hid||K.sec e))):=rfl
 rw[exV_good hg]
 generalize K.tells n e hid=r at*
 generalize exT e=t at*
 generalize exP e=x at*
 generalize exM e=m at*
 generalize K.sec e=q at*
 obtain⟨x0,x1,x2,x3,x4⟩:=n
 unfold nmV
 dsimp only at*
 cases x2 with
 |true=>
  have e:=HK.out
  subst e
  go_enter Tryz.func143,Tryz.ntmps143
  go_wp2_with fail
  go_ret
  exact⟨rfl,(Below.refl _ _).alloc (Nat.le_refl _) _⟩
 |false=>
  cases hid with
  |true=>
   have e:=HK.out
   subst e
   go_enter Tryz.func143,Tryz.ntmps143
   go_wp2_with fail
   go_ret
   exact⟨rfl,(Below.refl _ _).alloc (Nat.le_refl _) _⟩
  |false=>
   have e:=HK.out
   rw[Bool.not_false,Bool.true_and,Bool.false_or]at e
   subst e
   clear HK
   go_enter Tryz.func143,Tryz.ntmps143
   go_wp2_with fail
   refine(hs _).mono ?_
   rintro y w1 ⟨rfl,hb⟩
   go_wp2_with fail
   go_ret
   exact⟨rfl,((Below.refl _ _).alloc (Nat.le_refl _) _).trans (hb.mono (by simp))⟩
def K.gx:Ex->K.GS->K.GS
 |.get p _ e,g=>K.gx e (K.note p (K.sec e) g)
 |.op p o l r,g=>K.gx r (K.gx l (K.note p (o==47&&(K.sec l||K.sec r)) g))
 |.cho _ q y n,g=>K.gx n (K.gx y (K.gx q g))
 |_,g=>g
def GxDoes(e:Ex):Prop:=∀(w:World) (b:Nat) (g:K.GS),GAt w b g->Calls Tryz.prog 144 #[PT b,exV e] w λx w'=>x=.returned (.tuple #[])/\GAt w' b (K.gx e g)/\But b w w'
theorem as_Number_Get(x:Value)(w:World):(Instr.typeAssert (.iface 206 x) 176 210 true).run Tryz.prog w=.ok (.tuple #[.agg #[.int .i64 0,.string ⟨#[]⟩,.int .i64 0,.bool false,.int .i64 0,.int .i64 0,.nilIface],.bool false]) w:=by kernel_rfl
theorem as_Number_Operation(x:Value)(w:World):(Instr.typeAssert (.iface 206 x) 176 212 true).run Tryz.prog w=.ok (.tuple #[.agg #[.int .i64 0,.int .u8 0,.nilIface,.nilIface],.bool false]) w:=by kernel_rfl
theorem as_Number_Choose(x:Value)(w:World):(Instr.typeAssert (.iface 206 x) 176 214 true).run Tryz.prog w=.ok (.tuple #[.agg #[.int .i64 0,.nilIface,.nilIface,.nilIface],.bool false]) w:=by kernel_rfl
theorem as_Use_Get(x:Value)(w:World):(Instr.typeAssert (.iface 208 x) 176 210 true).run Tryz.prog w=.ok (.tuple #[.agg #[.int .i64 0,.string ⟨#[]⟩,.int .i64 0,.bool false,.int .i64 0,.int .i64 0,.nilIface],.bool false]) w:=by kernel_rfl
theorem as_Use_Operation(x:Value)(w:World):(Instr.typeAssert (.iface 208 x) 176 212 true).run Tryz.prog w=.ok (.tuple #[.agg #[.int .i64 0,.int .u8 0,.nilIface,.nilIface],.bool false]) w:=by kernel_rfl
theorem as_Use_Choose(x:Value)(w:World):(Instr.typeAssert (.iface 208 x) 176 214 true).run Tryz.prog w=.ok (.tuple #[.agg #[.int .i64 0,.nilIface,.nilIface,.nilIface],.bool false]) w:=by kernel_rfl
theorem as_Get_Get(x:Value)(w:World):(Instr.typeAssert (.iface 210 x) 176 210 true).run Tryz.prog w=.ok (.tuple #[x,.bool true]) w:=by kernel_rfl
theorem as_Operation_Get(x:Value)(w:World):(Instr.typeAssert (.iface 212 x) 176 210 true).run Tryz.prog w=.ok (.tuple #[.agg #[.int .i64 0,.string ⟨#[]⟩,.int .i64 0,.bool false,.int .i64 0,.int .i64 0,.nilIface],.bool false]) w:=by kernel_rfl
theorem as_Operation_Operation(x:Value)(w:World):(Instr.typeAssert (.iface 212 x) 176 212 true).run Tryz.prog w=.ok (.tuple #[x,.bool true]) w:=by kernel_rfl
theorem as_Choose_Get(x:Value)(w:World):(Instr.typeAssert (.iface 214 x) 176 210 true).run Tryz.prog w=.ok (.tuple #[.agg #[.int .i64 0,.string ⟨#[]⟩,.int .i64 0,.bool false,.int .i64 0,.int .i64 0,.nilIface],.bool false]) w:=by kernel_rfl
theorem as_Choose_Operation(x:Value)(w:World):(Instr.typeAssert (.iface 214 x) 176 212 true).run Tryz.prog w=.ok (.tuple #[.agg #[.int .i64 0,.int .u8 0,.nilIface,.nilIface],.bool false]) w:=by kernel_rfl
theorem as_Choose_Choose(x:Value)(w:World):(Instr.typeAssert (.iface 214 x) 176 214 true).run Tryz.prog w=.ok (.tuple #[x,.bool true]) w:=by kernel_rfl
theorem gx_num(v:Int):GxDoes (.num v):=by
 intro w b g h
 have a1:=as_Number_Get
 have a2:=as_Number_Operation
 have a3:=as_Number_Choose
 show Calls Tryz.prog _ #[PT b,.iface 206 (.agg #[.int .i64 v])] w _
 go_enter Tryz.func144,Tryz.ntmps144
 go_wp2_with fail
 go_end0
 exact⟨rfl,h,But.refl _ _⟩
theorem gx_use(n:Nm):GxDoes (.use n):=by
 intro w b g h
 have a1:=as_Use_Get
 have a2:=as_Use_Operation
 have a3:=as_Use_Choose
 show Calls Tryz.prog _ #[PT b,.iface 208 (.agg #[.string n.text,.int .i64 n.kind,.bool n.sec,.int .i64 n.size,.int .i64 n.place])] w _
 go_enter Tryz.func144,Tryz.ntmps144
 go_wp2_with fail
 go_end0
 exact⟨rfl,h,But.refl _ _⟩
theorem gx_get(p:Int)(n:Nm)(e:Ex)(hg:K.good e=true)(he:GxDoes e):GxDoes (.get p n e):=by
 intro w b g h
 have a1:=as_Get_Get
 have hm:=sec_method e hg
 have hna:=sec_ahead e hg
 have hen:=sec_enter e hg
 have hs:=sec_c e hg
 unfold SecDoes at hs
 have hlt:=h.lt
 have HK:Hid (K.gx (.get p n e) g=K.gx e (K.note p (K.sec e) g)):=rfl
 have hn:=fun(w:World) (h':GAt w b g)=>note_c h' p (K.sec e)
 have hx:=fun(w:World) (h':GAt w b (K.note p (K.sec e) g))=>he w b _ h'
 show Calls Tryz.prog _ #[PT b,.iface 210 (.agg #[.int .i64 p,.string n.text,.int .i64 n.kind,.bool n.sec,.int .i64 n.size,.int .i64 n.place,exV e])] w _
 rw[exV_good hg]at hx ⊢
 generalize K.gx (.get p n e) g=G at*
 generalize K.gx e (K.note p (K.sec e) g)=G2 at*
 generalize K.note p (K.sec e) g=g1 at*
 generalize exT e=t at*
 generalize exP e=x at*
 generalize exM e=m at*
 generalize K.sec e=q at*
 obtain⟨x0,x1,x2,x3,x4⟩:=n
 dsimp only at*
 go_enter Tryz.func144,Tryz.ntmps144
 go_upto_region 3 with fail
 have h0:=h.alloc (.cells #[.int .i64 p,.string x0,.int .i64 x1,.bool x2,.int .i64 x3,.int .i64 x4,.iface t x] 210 (0,0))
 have bx:=At.alloc_new w [.int .i64 p,.string x0,.int .i64 x1,.bool x2,.int .i64 x3,.int .i64 x4,.iface t x] 210
 have B0:But b w (w.alloc (.cells #[.int .i64 p,.string x0,.int .i64 x1,.bool x2,.int .i64 x3,.int .i64 x4,.iface t x] 210 (0,0))):=(But.refl b w).alloc _
 have nq:w.heap.size≠b:=by omega
 go_region_with (first |(go_at_call 142;refine(hn _ h1).mono ?_;rintro y w2 ⟨rfl,h2,hb2⟩;have bx2:=bx1.of_block (hb2.block _ bx1.lt nq);have k6:=bx2.cell 6;simp only[List.getElem?_cons_zero,List.getElem?_cons_succ]at k6)|(refine(hs _).mono ?_;rintro y w1 ⟨rfl,hb1⟩;have h1:GAt w1 b g:=h0.of_block (hb1.block _ h0.lt);have bx1:At w1 w.heap.size 210 [.int .i64 p,.string x0,.int .i64 x1,.bool x2,.int .i64 x3,.int .i64 x4,.iface t x]:=bx.of_block (hb1.block _ bx.lt);have k0:=bx1.cell 0;simp only[List.getElem?_cons_zero]at k0))
 all_goals
  have B2:=(B0.drew.below hb1).trans hb2
  go_wp2_with fail
  refine(hx _ h2).mono ?_
  rintro y w3 ⟨rfl,h3,hb3⟩
  go_wp2_with fail
  go_end0
  rw[HK.out]
  exact⟨rfl,h3,B2.trans hb3⟩
theorem gx_op(p:Int)(o:UInt8)(l r:Ex)(hg:K.good l=true)(hg2:K.good r=true)(he:GxDoes l)(he2:GxDoes r):GxDoes (.op p o l r):=by
 intro w b g h
 have a1:=as_Operation_Get
 have a2:=as_Operation_Operation
 have hlt:=h.lt
 have hso:=λw=>sec_c (.op p o l r) (by rw[K.good,hg,hg2];rfl) w
 have HS:Hid (K.sec (.op p o l r)=(K.sec l||K.sec r)):=rfl
 have HK:Hid (K.gx (.op p o l r) g=K.gx r (K.gx l (K.note p (o==47&&(K.sec l||K.sec r)) g))):=rfl
 have hn:=fun(w:World) (h':GAt w b g)=>note_c h' p (o==47&&(K.sec l||K.sec r))
 have hx:=fun(w:World) (h':GAt w b (K.note p (o==47&&(K.sec l||K.sec r)) g))=>he w b _ h'
 have hx2:=fun(w:World) (h':GAt w b (K.gx l (K.note p (o==47&&(K.sec l||K.sec r)) g)))=>he2 w b _ h'
 have hso':∀w,Calls Tryz.prog 178 #[.agg #[.int .i64 p,.int .u8 o.toNat,exV l,exV r]] w λx w'=>x=.returned (.bool (K.sec l||K.sec r))/\Below w.heap.size w w':=hso
 have f1:=exV_form l
 have f2:=exV_form r
 show Calls Tryz.prog _ #[PT b,.iface 212 (.agg #[.int .i64 p,.int .u8 o.toNat,exV l,exV r])] w _
 rw[exV_good hg]at hx hso' ⊢
 rw[exV_good hg2]at hx2 hso' ⊢
 clear hso HS f1 f2
 generalize K.gx (.op p o l r) g=G at*
 generalize K.gx r (K.gx l (K.note p (o==47&&(K.sec l||K.sec r)) g))=G3 at*
 generalize K.gx l (K.note p (o==47&&(K.sec l||K.sec r)) g)=G2 at*
 have ho:((o.toNat:Int)==47)=(o==47):=kb o 47 (by decide)
 generalize K.note p (o==47&&(K.sec l||K.sec r)) g=g1 at*
 generalize(K.sec l||K.sec r)=q at*
 generalize exT l=t at*
 generalize exP l=x at*
 generalize exT r=t2 at*
 generalize exP r=x2 at*
 have h0:=h.alloc (.cells #[.int .i64 p,.int .u8 o.toNat,.iface t x,.iface t2 x2] 212 (0,0))
 have bx:=At.alloc_new w [.int .i64 p,.int .u8 o.toNat,.iface t x,.iface t2 x2] 212
 have B0:But b w (w.alloc (.cells #[.int .i64 p,.int .u8 o.toNat,.iface t x,.iface t2 x2] 212 (0,0))):=(But.refl b w).alloc _
 have nq:w.heap.size≠b:=by omega
 cases eo:(o==47)with
 |true=>
  rw[eo]at ho hn
  rw[Bool.true_and]at hn
  go_enter Tryz.func144,Tryz.ntmps144
  go_upto_region 7 with fail
  go_region_with (first |(go_at_call 142;refine(hn _ h1).mono ?_;rintro y w2 ⟨rfl,h2,hb2⟩;have bx2:=bx1.of_block (hb2.block _ bx1.lt nq);have k2:=bx2.cell 2;simp only[List.getElem?_cons_zero,List.getElem?_cons_succ]at k2)|(go_at_call 178;refine(hso' _).mono ?_;rintro y w1 ⟨rfl,hb1⟩;have h1:GAt w1 b g:=h0.of_block (hb1.block _ h0.lt);have bx1:At w1 w.heap.size 212 [.int .i64 p,.int .u8 o.toNat,.iface t x,.iface t2 x2]:=bx.of_block (hb1.block _ bx.lt);have k0:=bx1.cell 0;simp only[List.getElem?_cons_zero]at k0))
  all_goals
   have B2:=(B0.drew.below hb1).trans hb2
   go_wp2_with fail
   refine(hx _ h2).mono ?_
   rintro y w3 ⟨rfl,h3,hb3⟩
   have bx3:=bx2.of_block (hb3.block _ bx2.lt nq)
   have k3:=bx3.cell 3
   simp only[List.getElem?_cons_zero,List.getElem?_cons_succ]at k3
   go_wp2_with fail
   refine(hx2 _ h3).mono ?_
   rintro y w4 ⟨rfl,h4,hb4⟩
   go_wp2_with fail
   go_end0
   rw[HK.out]
   exact⟨rfl,h4,(B2.trans hb3).trans hb4⟩
 |false=>
  rw[eo]at ho hn
  rw[Bool.false_and]at hn
  go_enter Tryz.func144,Tryz.ntmps144
  go_upto_region 7 with fail
  go_region_with (first |(go_at_call 142;refine(hn _ h0.drew).mono ?_;rintro y w2 ⟨rfl,h2,hb2⟩;have bx2:=bx.of_block (hb2.block _ bx.lt nq);have k2:=bx2.cell 2;simp only[List.getElem?_cons_zero,List.getElem?_cons_succ]at k2))
  all_goals
   have B2:=B0.drew.trans hb2
   go_wp2_with fail
   refine(hx _ h2).mono ?_
   rintro y w3 ⟨rfl,h3,hb3⟩
   have bx3:=bx2.of_block (hb3.block _ bx2.lt nq)
   have k3:=bx3.cell 3
   simp only[List.getElem?_cons_zero,List.getElem?_cons_succ]at k3
   go_wp2_with fail
   refine(hx2 _ h3).mono ?_
   rintro y w4 ⟨rfl,h4,hb4⟩
   go_wp2_with fail
   go_end0
   rw[HK.out]
   exact⟨rfl,h4,(B2.trans hb3).trans hb4⟩
theorem gx_cho(p:Int)(l r z:Ex)(hg:K.good l=true)(hg2:K.good r=true)(hg3:K.good z=true)(he:GxDoes l)(he2:GxDoes r)(he3:GxDoes z):GxDoes (.cho p l r z):=by
 intro w b g h
 have a1:=as_Choose_Get
 have a2:=as_Choose_Operation
 have a3:=as_Choose_Choose
 have hlt:=h.lt
 have HK:Hid (K.gx (.cho p l r z) g=K.gx z (K.gx r (K.gx l g))):=rfl
 have hx:=fun(w:World) (h':GAt w b g)=>he w b _ h'
 have hx2:=fun(w:World) (h':GAt w b (K.gx l g))=>he2 w b _ h'
 have hx3:=fun(w:World) (h':GAt w b (K.gx r (K.gx l g)))=>he3 w b _ h'
 show Calls Tryz.prog _ #[PT b,.iface 214 (.agg #[.int .i64 p,exV l,exV r,exV z])] w _
 rw[exV_good hg]at hx ⊢
 rw[exV_good hg2]at hx2 ⊢
 rw[exV_good hg3]at hx3 ⊢
 generalize K.gx (.cho p l r z) g=G at*
 generalize K.gx z (K.gx r (K.gx l g))=G3 at*
 generalize K.gx r (K.gx l g)=G2 at*
 generalize K.gx l g=G1 at*
 generalize exT l=t at*
 generalize exP l=x at*
 generalize exT r=t2 at*
 generalize exP r=x2 at*
 generalize exT z=t3 at*
 generalize exP z=x3 at*
 have h0:=h.alloc (.cells #[.int .i64 p,.iface t x,.iface t2 x2,.iface t3 x3] 214 (0,0))
 have bx:=At.alloc_new w [.int .i64 p,.iface t x,.iface t2 x2,.iface t3 x3] 214
 have B0:But b w (w.alloc (.cells #[.int .i64 p,.iface t x,.iface t2 x2,.iface t3 x3] 214 (0,0))):=(But.refl b w).alloc _
 have nq:w.heap.size≠b:=by omega
 go_enter Tryz.func144,Tryz.ntmps144
 go_wp2_with fail
 refine(hx _ h0).mono ?_
 rintro y w2 ⟨rfl,h2,hb2⟩
 have bx2:=bx.of_block (hb2.block _ bx.lt nq)
 have k2:=bx2.cell 2
 simp only[List.getElem?_cons_zero,List.getElem?_cons_succ]at k2
 go_wp2_with fail
 refine(hx2 _ h2).mono ?_
 rintro y w3 ⟨rfl,h3,hb3⟩
 have bx3:=bx2.of_block (hb3.block _ bx2.lt nq)
 have k3:=bx3.cell 3
 simp only[List.getElem?_cons_zero,List.getElem?_cons_succ]at k3
 go_wp2_with fail
 refine(hx3 _ h3).mono ?_
 rintro y w4 ⟨rfl,h4,hb4⟩
 go_wp2_with fail
 go_end0
 rw[HK.out]
 exact⟨rfl,h4,((B0.trans hb2).trans hb3).trans hb4⟩
theorem gx_c:∀e:Ex,K.good e=true->GxDoes e
 |.num v,_=>gx_num v
 |.use n,_=>gx_use n
 |.get p n e,h=>gx_get p n e h (gx_c e h)
 |.op p o l r,h=>by
  rw[K.good,Bool.and_eq_true]at h
  exact gx_op p o l r h.1 h.2 (gx_c l h.1) (gx_c r h.2)
 |.cho p q y n,h=>by
  rw[K.good,Bool.and_eq_true,Bool.and_eq_true]at h
  exact gx_cho p q y n h.1.1 h.1.2 h.2 (gx_c q h.1.1) (gx_c y h.1.2) (gx_c n h.2)
 |.none,h=>absurd h (by decide)
end Go.Proofs.YtejbgcloblpbfaaGreatDoor
