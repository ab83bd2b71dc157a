import Derived.Test.YtejbgcloblpbfaaGreatDoorG06
import Derived.Test.YtejbgcloblpbfaaGreatDoorG08
import Derived.Deep.QuietTactic
import Derived.Deep.CutBlock
set_option maxHeartbeats 1000000
set_option maxRecDepth 100000
namespace Go.Proofs.YtejbgcloblpbfaaGreatDoor
open Go.RowKit
open K (Nm Ex Do)
theorem ad_Set_Set(x:Value)(w:World):(Instr.typeAssert (.iface 178 x) 151 178 true).run Tryz.prog w=.ok (.tuple #[x,.bool true]) w:=by kernel_rfl
theorem ad_Put_Set(x:Value)(w:World):(Instr.typeAssert (.iface 181 x) 151 178 true).run Tryz.prog w=.ok (.tuple #[.agg #[.int .i64 0,.string ⟨#[]⟩,.int .i64 0,.bool false,.int .i64 0,.int .i64 0,.nilIface],.bool false]) w:=by kernel_rfl
theorem ad_Put_Put(x:Value)(w:World):(Instr.typeAssert (.iface 181 x) 151 181 true).run Tryz.prog w=.ok (.tuple #[x,.bool true]) w:=by kernel_rfl
theorem ad_If_Set(x:Value)(w:World):(Instr.typeAssert (.iface 184 x) 151 178 true).run Tryz.prog w=.ok (.tuple #[.agg #[.int .i64 0,.string ⟨#[]⟩,.int .i64 0,.bool false,.int .i64 0,.int .i64 0,.nilIface],.bool false]) w:=by kernel_rfl
theorem ad_If_Put(x:Value)(w:World):(Instr.typeAssert (.iface 184 x) 151 181 true).run Tryz.prog w=.ok (.tuple #[.agg #[.int .i64 0,.string ⟨#[]⟩,.int .i64 0,.bool false,.int .i64 0,.int .i64 0,.nilIface,.nilIface],.bool false]) w:=by kernel_rfl
theorem ad_If_If(x:Value)(w:World):(Instr.typeAssert (.iface 184 x) 151 184 true).run Tryz.prog w=.ok (.tuple #[x,.bool true]) w:=by kernel_rfl
theorem ad_For_Set(x:Value)(w:World):(Instr.typeAssert (.iface 186 x) 151 178 true).run Tryz.prog w=.ok (.tuple #[.agg #[.int .i64 0,.string ⟨#[]⟩,.int .i64 0,.bool false,.int .i64 0,.int .i64 0,.nilIface],.bool false]) w:=by kernel_rfl
theorem ad_For_Put(x:Value)(w:World):(Instr.typeAssert (.iface 186 x) 151 181 true).run Tryz.prog w=.ok (.tuple #[.agg #[.int .i64 0,.string ⟨#[]⟩,.int .i64 0,.bool false,.int .i64 0,.int .i64 0,.nilIface,.nilIface],.bool false]) w:=by kernel_rfl
theorem ad_For_If(x:Value)(w:World):(Instr.typeAssert (.iface 186 x) 151 184 true).run Tryz.prog w=.ok (.tuple #[.agg #[.int .i64 0,.nilIface,.slice none 0 0,.slice none 0 0],.bool false]) w:=by kernel_rfl
theorem ad_For_For(x:Value)(w:World):(Instr.typeAssert (.iface 186 x) 151 186 true).run Tryz.prog w=.ok (.tuple #[x,.bool true]) w:=by kernel_rfl
mutual
def K.gd(hid:Bool):Do->K.GS->K.GS
 |.set p n e,g=>K.gx e (K.note p (K.tells n e hid) g)
 |.put p n i e,g=>K.gx e (K.gx i (K.note p (K.sec i||K.tells n e hid) g))
 |.ifs _ q y n,g=>K.gds (hid||K.sec q) n (K.gds (hid||K.sec q) y (K.gx q g))
 |.fors p _ r l,g=>K.gds hid l (K.gx r (K.note p (K.sec r) g))
 |.none,g=>g
def K.gds(hid:Bool):List Do->K.GS->K.GS
 |[],g=>g
 |d::l,g=>K.gds hid l (K.gd hid d g)
end
mutual
def K.goodD:Do->Bool
 |.set _ _ e=>K.good e
 |.put _ _ i e=>K.good i&&K.good e
 |.ifs _ q y n=>K.good q&&K.goodL y&&K.goodL n
 |.fors _ _ r l=>K.good r&&K.goodL l
 |.none=>false
def K.goodL:List Do->Bool
 |[]=>true
 |d::l=>K.goodD d&&K.goodL l
end
def GdDoes(d:Do):Prop:=∀(B:Nat->Prop) (w:World) (b:Nat) (g:K.GS) (u:Value) (hid:Bool),GAt w b g->DoIs B w d u->(∀k,B k->k≠b)→
 Calls Tryz.prog 108 #[PT b,u,.bool hid] w λx w'=>x=.returned (.tuple #[])/\GAt w' b (K.gd hid d g)/\But b w w'
def GdsDoes(l:List Do):Prop:=∀(B:Nat->Prop) (w:World) (b:Nat) (g:K.GS) (lv:Value) (us:List Value) (hid:Bool),GAt w b g->DRow B w lv us->Each B w l us->(∀k,B k->k≠b)→
 Calls Tryz.prog 74 #[PT b,lv,.bool hid] w λx w'=>x=.returned (.tuple #[])/\GAt w' b (K.gds hid l g)/\But b w w'
theorem gd_set(p:Int)(n:Nm)(e:Ex)(hg:K.good e=true):GdDoes (.set p n e):=by
 intro B w b g u hid h hd hB
 unfold DoIs at hd
 subst hd
 have a1:=ad_Set_Set
 have hlt:=h.lt
 have HK:Hid (K.gd hid (.set p n e) g=K.gx e (K.note p (K.tells n e hid) g)):=by show _=_;rw[K.gd]
 have ht:=λw=>tells_c n e hid hg w
 have hn:=fun(w:World) (h':GAt w b g)=>note_c h' p (K.tells n e hid)
 have hx:=fun(w:World) (h':GAt w b (K.note p (K.tells n e hid) g))=>gx_c e hg w b _ h'
 rw[exV_good hg]at hx ht ⊢
 unfold nmV at ht
 generalize K.gd hid (.set p n e) g=G at*
 generalize K.gx e (K.note p (K.tells n e hid) g)=G2 at*
 generalize K.note p (K.tells n e hid) g=g1 at*
 generalize K.tells n e hid=q at*
 generalize exT e=t at*
 generalize exP e=x at*
 obtain⟨x0,x1,x2,x3,x4⟩:=n
 dsimp only at*
 have h0:=h.alloc (.cells #[.int .i64 p,.string x0,.int .i64 x1,.bool x2,.int .i64 x3,.int .i64 x4,.iface t x] 178 (0,0))
 have bx:=At.alloc_new w [.int .i64 p,.string x0,.int .i64 x1,.bool x2,.int .i64 x3,.int .i64 x4,.iface t x] 178
 have B0:But b w (w.alloc (.cells #[.int .i64 p,.string x0,.int .i64 x1,.bool x2,.int .i64 x3,.int .i64 x4,.iface t x] 178 (0,0))):=(But.refl b w).alloc _
 have nq:w.heap.size≠b:=by omega
 go_enter Tryz.func108,Tryz.ntmps108
 go_upto_region 3 with fail
 go_region_with (first |(go_at_call 142;refine(hn _ h1).mono ?_;rintro y w2 ⟨rfl,h2,hb2⟩;have bx2:=bx1.of_block (hb2.block _ bx1.lt nq);have k6:=bx2.cell 6;simp only[List.getElem?_cons_zero,List.getElem?_cons_succ]at k6)|(go_at_call 143;refine(ht _).mono ?_;rintro y w1 ⟨rfl,hb1⟩;have h1:GAt w1 b g:=h0.of_block (hb1.block _ h0.lt);have bx1:At w1 w.heap.size 178 [.int .i64 p,.string x0,.int .i64 x1,.bool x2,.int .i64 x3,.int .i64 x4,.iface t x]:=bx.of_block (hb1.block _ bx.lt);have k0:=bx1.cell 0;simp only[List.getElem?_cons_zero]at k0))
 all_goals
  have B2:=(B0.drew.below hb1).trans hb2
  go_wp2_with fail
  refine(hx _ h2).mono ?_
  rintro y w3 ⟨rfl,h3,hb3⟩
  go_wp2_with fail
  go_end0
  rw[HK.out]
  exact⟨rfl,h3,B2.trans hb3⟩
theorem as_Number_Number(x:Value)(w:World):(Instr.typeAssert (.iface 206 x) 176 206 true).run Tryz.prog w=.ok (.tuple #[x,.bool true]) w:=by kernel_rfl
theorem as_Use_Number(x:Value)(w:World):(Instr.typeAssert (.iface 208 x) 176 206 true).run Tryz.prog w=.ok (.tuple #[.agg #[.int .i64 0],.bool false]) w:=by kernel_rfl
theorem as_Use_Use(x:Value)(w:World):(Instr.typeAssert (.iface 208 x) 176 208 true).run Tryz.prog w=.ok (.tuple #[x,.bool true]) w:=by kernel_rfl
theorem as_Get_Number(x:Value)(w:World):(Instr.typeAssert (.iface 210 x) 176 206 true).run Tryz.prog w=.ok (.tuple #[.agg #[.int .i64 0],.bool false]) w:=by kernel_rfl
theorem as_Get_Use(x:Value)(w:World):(Instr.typeAssert (.iface 210 x) 176 208 true).run Tryz.prog w=.ok (.tuple #[.agg #[.string ⟨#[]⟩,.int .i64 0,.bool false,.int .i64 0,.int .i64 0],.bool false]) w:=by kernel_rfl
theorem as_Operation_Number(x:Value)(w:World):(Instr.typeAssert (.iface 212 x) 176 206 true).run Tryz.prog w=.ok (.tuple #[.agg #[.int .i64 0],.bool false]) w:=by kernel_rfl
theorem as_Operation_Use(x:Value)(w:World):(Instr.typeAssert (.iface 212 x) 176 208 true).run Tryz.prog w=.ok (.tuple #[.agg #[.string ⟨#[]⟩,.int .i64 0,.bool false,.int .i64 0,.int .i64 0],.bool false]) w:=by kernel_rfl
theorem as_Choose_Number(x:Value)(w:World):(Instr.typeAssert (.iface 214 x) 176 206 true).run Tryz.prog w=.ok (.tuple #[.agg #[.int .i64 0],.bool false]) w:=by kernel_rfl
theorem as_Choose_Use(x:Value)(w:World):(Instr.typeAssert (.iface 214 x) 176 208 true).run Tryz.prog w=.ok (.tuple #[.agg #[.string ⟨#[]⟩,.int .i64 0,.bool false,.int .i64 0,.int .i64 0],.bool false]) w:=by kernel_rfl
theorem below_dN{B:Nat}{w w':World}(h:Below B w w')(n:Nat):Below B w (w'.drewN n):=⟨h.os,h.tape,h.output,h.size,h.block⟩
def V.ev(W:List Int):Ex->Int
 |.num v=>v
 |.use n=>W.getD n.place.toNat 0
 |.get _ n e=>W.getD (n.place+V.md (V.ev W e) n.size).toNat 0
 |.op _ o l r=>V.opf o (V.ev W l) (V.ev W r)
 |.cho _ q y n=>if V.ev W q=0 then V.ev W n else V.ev W y
 |.none=>0
def V.wfE(N:Nat):Ex->Prop
 |.num _=>True
 |.use n=>0<=n.place/\n.place<N
 |.get _ n e=>0<=n.place/\1<=n.size/\n.size<=6/\n.place+n.size<=N/\V.wfE N e
 |.op _ o l r=>V.isOp o=true/\V.wfE N l/\V.wfE N r
 |.cho _ q y n=>V.wfE N q/\V.wfE N y/\V.wfE N n
 |.none=>False
theorem V.wf_good{N:Nat}:∀{e:Ex},V.wfE N e->K.good e=true
 |.num _,_=>rfl
 |.use _,_=>rfl
 |.get _ _ e,h=>by unfold V.wfE at h;rw[K.good];exact V.wf_good h.2.2.2.2
 |.op _ _ l r,h=>by unfold V.wfE at h;rw[K.good,V.wf_good h.2.1,V.wf_good h.2.2];rfl
 |.cho _ q y n,h=>by unfold V.wfE at h;rw[K.good,V.wf_good h.1,V.wf_good h.2.1,V.wf_good h.2.2];rfl
 |.none,h=>by unfold V.wfE at h;exact h.elim
end Go.Proofs.YtejbgcloblpbfaaGreatDoor
