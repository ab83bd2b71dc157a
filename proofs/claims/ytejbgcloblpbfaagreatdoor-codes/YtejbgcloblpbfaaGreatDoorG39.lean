import Derived.Test.YtejbgcloblpbfaaGreatDoorG38
set_option maxHeartbeats 2000000
set_option maxRecDepth 100000
namespace Go.Proofs.YtejbgcloblpbfaaGreatDoor
section
open Go.RowKit
open R (Nd)
open K (Nm Ex Do)
def IntsAt(w:World)(lim:Nat)(v:Value)(l:List Int):Prop:=
 ∃a c,v=.slice a l.length c/\(l.length<=c/\c<=9223372036854775807)/\∀(j:Nat) u,l[j]?=some u->∃g,a=some ⟨g,0,none⟩/\g<lim/\w.cell? ⟨g,j,none⟩=some (.int .i64 u)
def NodeAt(w:World)(lim g k:Nat)(n:Nd):Prop:=
 ∃lv tv,(∀(j:Nat) v,(nodeCells n lv tv)[j]?=some v->w.cell? ⟨g,k*10+j,none⟩=some v)/\IntsAt w lim lv n.L/\IntsAt w lim tv n.two
structure PAt(w:World)(lim b:Nat)(nodes:List Nd):Prop where
 lt:b<lim
 few:nodes.length<=100000
 node:∀(k:Nat) n,nodes[k]?=some n->∃g cap,w.cell? ⟨b,7,none⟩=some (.slice (some ⟨g,0,none⟩) nodes.length cap)/\g<lim/\NodeAt w lim g k n
theorem IntsAt.keep{w w':World}{lim:Nat}{v:Value}{l:List Int}(h:IntsAt w lim v l)(hb:Below lim w w'):IntsAt w' lim v l:=by
 obtain⟨a,c,hv,hb',hc⟩:=h
 exact⟨a,c,hv,hb',λj u hu=>by
  obtain⟨g,e1,e2,e3⟩:=hc j u hu
  exact⟨g,e1,e2,(hb.cell (p:=⟨g,j,none⟩) e2).trans e3⟩⟩
theorem PAt.keep{w w':World}{lim b:Nat}{nodes:List Nd}(h:PAt w lim b nodes)(hb:Below lim w w'):PAt w' lim b nodes:=by
 refine⟨h.lt,h.few,λk n hn=>?_⟩
 obtain⟨g,cap,e1,e2,lv,tv,e3,e4,e5⟩:=h.node k n hn
 exact⟨g,cap,(hb.cell (p:=⟨b,7,none⟩) h.lt).trans e1,e2,lv,tv,λj v hv=>(hb.cell (p:=⟨g,k*10+j,none⟩) e2).trans (e3 j v hv),e4.keep hb,e5.keep hb⟩
structure SAt(w:World)(lim sb gM gC:Nat)(M C:List Int):Prop where
 cells:∃aM cM,At w sb 100 [.slice aM M.length cM,.slice (some ⟨gC,0,none⟩) C.length C.length]/\(0<M.length->aM=some ⟨gM,0,none⟩)
 mem:0<M.length->∃rest,At w gM 3 ((M.map λn=>.int .i64 n)++rest)
 cnt:At w gC 3 (C.map λn=>.int .i64 n)
 lo:lim<=sb/\lim<=gM/\lim<=gC
 ne:(0<M.length->gM≠gC/\sb≠gM)/\sb≠gC
 lt:gM<w.heap.size
theorem SAt.below{w w':World}{lim sb gM gC:Nat}{M C:List Int}(h:SAt w lim sb gM gC M C)(hb:Below w.heap.size w w'):SAt w' lim sb gM gC M C:=by
 obtain⟨⟨aM,cM,h1,h2⟩,h3,h4,h5,h6,h7⟩:=h
 refine⟨⟨aM,cM,h1.of_block (hb.block _ h1.lt),h2⟩,λhp=>?_,h4.of_block (hb.block _ h4.lt),h5,h6,Nat.lt_of_lt_of_le h7 hb.size⟩
 obtain⟨rest,h8⟩:=h3 hp
 exact⟨rest,h8.of_block (hb.block _ h7)⟩
theorem SAt.word{w:World}{lim sb gM gC:Nat}{M C:List Int}(h:SAt w lim sb gM gC M C){k:Nat}(hk:k<M.length):w.cell? ⟨gM,k,none⟩=some (.int .i64 (M.getD k 0)):=by
 obtain⟨rest,h1⟩:=h.mem (by omega)
 rw[h1.cell,List.getElem?_append_left (by rw[List.length_map];exact hk),List.getElem?_map,List.getElem?_eq_getElem hk,List.getD_eq_getElem?_getD,List.getElem?_eq_getElem hk]
 rfl
theorem SAt.count{w:World}{lim sb gM gC:Nat}{M C:List Int}(h:SAt w lim sb gM gC M C){k:Nat}(hk:k<C.length):w.cell? ⟨gC,k,none⟩=some (.int .i64 (C.getD k 0)):=by
 rw[h.cnt.cell,List.getElem?_map,List.getElem?_eq_getElem hk,List.getD_eq_getElem?_getD,List.getElem?_eq_getElem hk]
 rfl
def NE(N:Nat)(nodes:List Nd):Ex->Nat->Prop
 |.num v,k=>∃n,nodes[k]?=some n/\n.word=⟨#[35]⟩/\n.n=v
 |.use m,k=>∃n,nodes[k]?=some n/\n.word=⟨#[64]⟩/\0<=n.t.pos/\((n.t.kind=3/\m.place=N+n.t.pos/\n.t.pos<2)∨(¬n.t.kind=3/\m.place=n.t.pos/\n.t.pos<N))
 |.get _ m e,k=>∃n,∃x:Nat,nodes[k]?=some n/\n.word=⟨#[103,101,116]⟩/\n.L=[(x:Int)]/\n.t.pos=m.place/\n.t.size=m.size/\0<=m.place/\1<=m.size/\m.size<=6/\m.place+m.size<=N/\NE N nodes e x
 |.op _ o l r,k=>∃n,∃x y:Nat,nodes[k]?=some n/\n.word=⟨#[o]⟩/\V.isOp o=true/\n.L=[(x:Int),(y:Int)]/\NE N nodes l x/\NE N nodes r y
 |.cho _ q y z,k=>∃n,∃a b c:Nat,nodes[k]?=some n/\n.word=⟨#[99,104,111,111,115,101]⟩/\n.L=[(a:Int),(b:Int),(c:Int)]/\NE N nodes q a/\NE N nodes y b/\NE N nodes z c
 |.none,_=>False
theorem bit_c(q:Bool)(w:World):Calls Tryz.prog 69 #[.bool q] w λx w'=>x=.returned (.int .i64 (if q=true then 1 else 0))/\w'=w:=by
 cases q<;>
 · go_enter Tryz.func69,Tryz.ntmps69
   go_wp2_with fail
   go_ret
   exact⟨rfl,rfl⟩
theorem quotient_c(a b:Int)(w:World):Calls Tryz.prog 70 #[.int .i64 a,.int .i64 b] w λx w'=>x=.returned (.int .i64 (if b=0 then 0 else wrap64 (a.tdiv b)))/\w'=w:=by
 by_cases hb:b=0
 · subst hb
   go_enter Tryz.func70,Tryz.ntmps70
   go_wp2_with fail
   go_ret
   exact⟨rfl,rfl⟩
 · rw[if_neg hb]
   go_enter Tryz.func70,Tryz.ntmps70
   go_wp2_with fail
   go_ret
   exact⟨rfl,rfl⟩
theorem place_c(t:R.Thing)(a:Int)(w:World)(h0:0<=t.pos)(h1:1<=t.size)(h6:t.size<=6)(hp:t.pos<=1000):
 Calls Tryz.prog 92 #[.agg #[.string t.name,.int .i64 t.kind,.bool t.sec,.int .i64 t.pos,.int .i64 t.size],.int .i64 a] w λx w'=>x=.returned (.int .i64 (t.pos+V.md a t.size))/\Below w.heap.size w w':=by
 have hm:=V.md_eq a h1 h6
 have h2:=Int.emod_nonneg a (show t.size≠0 by omega)
 have h3:=Int.emod_lt_of_pos a (show 0<t.size by omega)
 have e:=Int.tmod_eq_emod (a:=a) (b:=t.size)
 have hor:a.tmod t.size=a%t.size∨a.tmod t.size=a%t.size-t.size:=by
  rw[e]
  split
  · left;omega
  · right;omega
 rw[hm]
 obtain⟨x0,x1,x2,x3,x4⟩:=t
 dsimp only at*
 clear e hm
 have bx:=At.alloc_new w [.string x0,.int .i64 x1,.bool x2,.int .i64 x3,.int .i64 x4] 111
 have B0:Below w.heap.size w (w.alloc (.cells #[.string x0,.int .i64 x1,.bool x2,.int .i64 x3,.int .i64 x4] 111 (0,0))):=(Below.refl _ _).alloc (Nat.le_refl _) _
 have hx4:¬x4=0:=by omega
 have HW:Hid (wrap64 (x3+a%x4)=x3+a%x4):=w64 (by omega)
 by_cases hneg:a.tmod x4<0
 · have ht:a.tmod x4=a%x4-x4:=by omega
   have HQ:Hid (wrap64 (a.tmod x4+x4)=a%x4):=(w64 (by omega)).trans (by omega)
   clear ht hor h2 h3
   go_enter Tryz.func92,Tryz.ntmps92
   go_wp2_with fail
   go_ret
   refine⟨?_,B0⟩
   show Ending.returned (Value.int IntKind.i64 (wrap64 (x3+wrap64 (a.tmod x4+x4))))=_
   rw[HQ.out,HW.out]
 · have ht:a.tmod x4=a%x4:=by omega
   rw[<-ht]at HW ⊢
   clear ht hor h2 h3
   go_enter Tryz.func92,Tryz.ntmps92
   go_wp2_with fail
   go_ret
   refine⟨?_,B0⟩
   show Ending.returned (Value.int IntKind.i64 (wrap64 (x3+a.tmod x4)))=_
   rw[HW.out]
def VaDoes(N:Nat)(nodes:List Nd)(e:Ex):Prop:=∀(w:World) (lim b sb gM gC k:Nat) (M C:List Int),PAt w lim b nodes->SAt w lim sb gM gC M C->M.length=N->C.length=2->N<=54->lim<=w.heap.size->NE N nodes e k→
 Calls Tryz.prog 91 #[P b,P sb,.int .i64 (k:Int)] w λx w'=>x=.returned (.int .i64 (V.ev (M++C) e))/\Below w.heap.size w w'
structure NC(w:World)(b k len g:Nat)(n:Nd)(la:Option Addr)(lc:Nat)(ta:Option Addr)(tc:Nat)(cap:Nat):Prop where
 c7:w.cell? ⟨b,7,none⟩=some (.slice (some ⟨g,0,none⟩) len cap)
 d0:w.cell? ⟨g,k*10,none⟩=some (.string n.word)
 d1:w.cell? ⟨g,k*10+1,none⟩=some (.int .i64 n.n)
 d2:w.cell? ⟨g,k*10+2,none⟩=some (.string n.t.name)
 d3:w.cell? ⟨g,k*10+3,none⟩=some (.int .i64 n.t.kind)
 d4:w.cell? ⟨g,k*10+4,none⟩=some (.bool n.t.sec)
 d5:w.cell? ⟨g,k*10+5,none⟩=some (.int .i64 n.t.pos)
 d6:w.cell? ⟨g,k*10+6,none⟩=some (.int .i64 n.t.size)
 d7:w.cell? ⟨g,k*10+7,none⟩=some (.slice la n.L.length lc)
 d8:w.cell? ⟨g,k*10+8,none⟩=some (.slice ta n.two.length tc)
 d9:w.cell? ⟨g,k*10+9,none⟩=some (.bool n.sec)
theorem PAt.nc{w:World}{lim b:Nat}{nodes:List Nd}(h:PAt w lim b nodes){k:Nat}{n:Nd}(hn:nodes[k]?=some n):
 ∃g la lc ta tc cap,NC w b k nodes.length g n la lc ta tc cap/\g<lim/\(∀(j:Nat) u,n.L[j]?=some u->∃q,la=some ⟨q,0,none⟩/\q<lim/\w.cell? ⟨q,j,none⟩=some (.int .i64 u))∧
  (∀(j:Nat) u,n.two[j]?=some u->∃q,ta=some ⟨q,0,none⟩/\q<lim/\w.cell? ⟨q,j,none⟩=some (.int .i64 u))/\(n.L.length<=lc/\lc<=9223372036854775807)/\(n.two.length<=tc/\tc<=9223372036854775807):=by
 obtain⟨g,cap,c7,hg,lv,tv,hc,⟨la,lc,rfl,hlc,hl⟩,⟨ta,tc,rfl,htc,ht⟩⟩:=h.node k n hn
 exact⟨g,la,lc,ta,tc,cap,⟨c7,hc 0 _ rfl,hc 1 _ rfl,hc 2 _ rfl,hc 3 _ rfl,hc 4 _ rfl,hc 5 _ rfl,hc 6 _ rfl,hc 7 _ rfl,hc 8 _ rfl,hc 9 _ rfl⟩,hg,hl,ht,hlc,htc⟩
theorem va_num(N:Nat)(nodes:List Nd)(v:Int):VaDoes N nodes (.num v):=by
 intro w lim b sb gM gC k M C hP hS hM hC h54 hlim hn
 unfold NE at hn
 obtain⟨n,hn,hw,hv⟩:=hn
 obtain⟨g,la,lc,ta,tc,cap,nc,hg,_,_⟩:=hP.nc hn
 have hkl:k<nodes.length:=(List.getElem?_eq_some_iff.1 hn).1
 have hkz:(k:Int)<(nodes.length:Int):=by omega
 have few:=hP.few
 have hbl:=hP.lt
 have HV:Hid (V.ev (M++C) (.num v)=v):=rfl
 rw[HV.out]
 obtain⟨wd,n1,⟨t0,t1,t2,t3,t4⟩,nL,n2,n5⟩:=n
 obtain⟨c7,d0,d1,d2,d3,d4,d5,d6,d7,d8,d9⟩:=nc
 dsimp only at*
 subst hw hv
 generalize nL.length=ln at*
 generalize n2.length=tn at*
 generalize nodes.length=NL at*
 go_enter Tryz.func91,Tryz.ntmps91
 go_wp2_with fail
 go_ret
 exact⟨rfl,(Below.refl _ _).alloc (Nat.le_refl _) _⟩
theorem va_use(N:Nat)(nodes:List Nd)(m:Nm):VaDoes N nodes (.use m):=by
 intro w lim b sb gM gC k M C hP hS hM hC h54 hlim hn
 unfold NE at hn
 obtain⟨n,hn,hw,h0,hv⟩:=hn
 obtain⟨g,la,lc,ta,tc,cap,nc,hg,_,_⟩:=hP.nc hn
 have hkl:k<nodes.length:=(List.getElem?_eq_some_iff.1 hn).1
 have hkz:(k:Int)<(nodes.length:Int):=by omega
 have few:=hP.few
 have hbl:=hP.lt
 obtain⟨j,hj⟩:=Int.eq_ofNat_of_zero_le h0
 have HV:Hid (V.ev (M++C) (.use m)=(M++C).getD m.place.toNat 0):=rfl
 rw[HV.out]
 obtain⟨wd,n1,⟨t0,t1,t2,t3,t4⟩,nL,n2,n5⟩:=n
 obtain⟨c7,d0,d1,d2,d3,d4,d5,d6,d7,d8,d9⟩:=nc
 obtain⟨aM,cM,hs,haM⟩:=hS.cells
 dsimp only at*
 subst hw hj
 rcases hv with⟨hk3,hpl,hlt⟩|⟨hk3,hpl,hlt⟩
 · subst hk3
   have B0:Below w.heap.size w (w.alloc (.cells #[.string ⟨#[64]⟩,.int .i64 n1,.string t0,.int .i64 3,.bool t2,.int .i64 (j:Int),.int .i64 t4,.slice la nL.length lc,.slice ta n2.length tc,.bool n5] 145 (0,0))):=(Below.refl _ _).alloc (Nat.le_refl _) _
   have S0:=hS.below B0
   have ss:=hs.of_block (B0.block _ hs.lt)
   have s0:=ss.cell 0
   have s1:=ss.cell 1
   simp only[List.getElem?_cons_zero,List.getElem?_cons_succ]at s0 s1
   have sl:=ss.lt
   have ew:(M++C).getD m.place.toNat 0=C.getD j 0:=by
    rw[hpl,show((N:Int)+(j:Int)).toNat=N+j by omega,List.getD_eq_getElem?_getD,List.getElem?_append_right (by omega),hM,Nat.add_sub_cancel_left,<-List.getD_eq_getElem?_getD]
   rw[ew]
   have cc:=S0.count (k:=j) (by omega)
   generalize C.getD j 0=v at*
   have hz:(j:Int)<(C.length:Int):=by omega
   generalize C.length=CL at*
   generalize nL.length=ln at*
   generalize n2.length=tn at*
   generalize nodes.length=NL at*
   go_enter Tryz.func91,Tryz.ntmps91
   go_upto_region 7 with fail
   go_quiet (fail)
   go_wp2_with fail
   go_ret
   exact⟨rfl,below_dN B0 _⟩
 · have B0:Below w.heap.size w (w.alloc (.cells #[.string ⟨#[64]⟩,.int .i64 n1,.string t0,.int .i64 t1,.bool t2,.int .i64 (j:Int),.int .i64 t4,.slice la nL.length lc,.slice ta n2.length tc,.bool n5] 145 (0,0))):=(Below.refl _ _).alloc (Nat.le_refl _) _
   have S0:=hS.below B0
   have ss:=hs.of_block (B0.block _ hs.lt)
   have s0:=ss.cell 0
   have s1:=ss.cell 1
   simp only[List.getElem?_cons_zero,List.getElem?_cons_succ]at s0 s1
   have sl:=ss.lt
   have ew:(M++C).getD m.place.toNat 0=M.getD j 0:=by
    rw[hpl,Int.toNat_natCast,List.getD_eq_getElem?_getD,List.getElem?_append_left (by omega),<-List.getD_eq_getElem?_getD]
   rw[ew]
   have cc:=S0.word (k:=j) (by omega)
   rw[haM (by omega)]at s0
   generalize M.getD j 0=v at*
   have hz:(j:Int)<(M.length:Int):=by omega
   generalize M.length=ML at*
   generalize nL.length=ln at*
   generalize n2.length=tn at*
   generalize nodes.length=NL at*
   go_enter Tryz.func91,Tryz.ntmps91
   go_upto_region 8 with fail
   go_quiet (fail)
   go_wp2_with fail
   go_ret
   exact⟨rfl,below_dN B0 _⟩
mutual
def ND(N:Nat)(nodes:List Nd):Do->Nat->Prop
 |.set _ m e,k=>∃n,∃x:Nat,nodes[k]?=some n/\n.word=⟨#[115,101,116]⟩/\n.L=[(x:Int)]/\n.t.pos=m.place/\0<=m.place/\m.place<N/\NE N nodes e x
 |.put _ m i e,k=>∃n,∃x y:Nat,nodes[k]?=some n/\n.word=⟨#[112,117,116]⟩/\n.L=[(x:Int),(y:Int)]/\n.t.pos=m.place/\n.t.size=m.size/\0<=m.place/\1<=m.size/\m.size<=6/\m.place+m.size<=N/\NE N nodes i x/\NE N nodes e y
 |.ifs _ q y z,k=>∃n,∃x:Nat,∃l1 l2:List Nat,nodes[k]?=some n/\n.word=⟨#[105,102]⟩/\n.L=(x:Int)::l1.map (λk:Nat=>(k:Int))/\n.two=l2.map (λk:Nat=>(k:Int))/\NE N nodes q x/\NDs N nodes y l1/\NDs N nodes z l2
 |.fors _ m r l,k=>∃n,∃x:Nat,∃l1:List Nat,nodes[k]?=some n/\n.word=⟨#[102,111,114]⟩/\n.L=(x:Int)::l1.map (λk:Nat=>(k:Int))/\0<=n.t.pos/\n.t.pos<2/\m.place=N+n.t.pos/\NE N nodes r x/\NDs N nodes l l1
 |.none,_=>False
def NDs(N:Nat)(nodes:List Nd):List Do->List Nat->Prop
 |[],ks=>ks=[]
 |d::l,ks=>∃k r,ks=k::r/\ND N nodes d k/\NDs N nodes l r
end
theorem NDs.get{N:Nat}{nodes:List Nd}:∀{l:List Do} {ks:List Nat},NDs N nodes l ks->ks.length=l.length/\∀(i:Nat) (h:i<l.length),∃k,ks[i]?=some k/\ND N nodes l[i] k
 |[],ks,h=>by
  unfold NDs at h
  subst h
  exact⟨rfl,λi hi=>by simp at hi⟩
 |d::l,ks,h=>by
  unfold NDs at h
  obtain⟨k,r,rfl,h1,h2⟩:=h
  obtain⟨i1,i2⟩:=NDs.get h2
  refine⟨by simp[i1],λi hi=>?_⟩
  cases i with
  |zero=>exact⟨k,rfl,h1⟩
  |succ i=>exact i2 i (by simpa using hi)
structure Left2(w:World)(lim sb gM gC N:Nat)(W:List Int):Prop where
 at_:SAt w lim sb gM gC (W.take N) (W.drop N)
 len:W.length=N+2
structure But3(sb gM gC:Nat)(w w':World):Prop where
 os:w'.os=w.os
 tape:w'.tape=w.tape
 output:w'.output=w.output
 size:w.heap.size<=w'.heap.size
 block:∀k,k<w.heap.size->k≠gM->k≠gC->w'.heap[k]?=w.heap[k]?
theorem But3.refl(sb gM gC:Nat)(w:World):But3 sb gM gC w w:=⟨rfl,rfl,rfl,Nat.le_refl _,λ_ _ _ _=>rfl⟩
theorem But3.trans{sb gM gC:Nat}{a c d:World}(h:But3 sb gM gC a c)(k:But3 sb gM gC c d):But3 sb gM gC a d:=
 ⟨k.os.trans h.os,k.tape.trans h.tape,k.output.trans h.output,Nat.le_trans h.size k.size,λi hi n1 n2=>(k.block i (Nat.lt_of_lt_of_le hi h.size) n1 n2).trans (h.block i hi n1 n2)⟩
theorem But3.of_below{sb gM gC:Nat}{w w':World}(h:Below w.heap.size w w'):But3 sb gM gC w w':=⟨h.os,h.tape,h.output,h.size,λk hk _ _=>h.block k hk⟩
theorem But3.low{sb gM gC lim:Nat}{w w':World}(h:But3 sb gM gC w w')(h1:lim<=gM)(h2:lim<=gC)(h3:lim<=w.heap.size):Below lim w w':=
 ⟨h.os,h.tape,h.output,h.size,λk hk=>h.block k (by omega) (by omega) (by omega)⟩
def StDoes(N:Nat)(nodes:List Nd)(d:Do):Prop:=∀(w:World) (lim b sb gM gC k:Nat) (W:List Int),PAt w lim b nodes->Left2 w lim sb gM gC N W->N<=54->lim<=w.heap.size->ND N nodes d k→
 Calls Tryz.prog 65 #[P b,P sb,.int .i64 (k:Int)] w λx w'=>x=.returned (.tuple #[])/\Left2 w' lim sb gM gC N (V.rd d W)/\But3 sb gM gC w w'
def AllDoes(N:Nat)(nodes:List Nd)(l:List Do):Prop:=∀(w:World) (lim b sb gM gC:Nat) (W:List Int) (a:Option Addr) (o:Nat) (c:Nat) (ks:List Nat),PAt w lim b nodes->Left2 w lim sb gM gC N W->N<=54->lim<=w.heap.size->NDs N nodes l ks→
 (∀(j:Nat) u,ks[j]?=some u->∃q,a=some ⟨q,o,none⟩/\q<lim/\w.cell? ⟨q,o+j,none⟩=some (.int .i64 (u:Int)))->ks.length<=9223372036854775807→
 Calls Tryz.prog 48 #[P b,P sb,.slice a ks.length c] w λx w'=>x=.returned (.tuple #[])/\Left2 w' lim sb gM gC N (V.rds l W)/\But3 sb gM gC w w'
theorem V.rds_drop'{l:List Do}{k:Nat}(h:k<l.length)(W:List Int):V.rds (l.drop k) W=V.rds (l.drop (k+1)) (V.rd l[k] W):=by
 rw[List.drop_eq_getElem_cons h,V.rds]
theorem all_of(N:Nat)(nodes:List Nd)(l:List Do)(hl:∀d∈l,StDoes N nodes d):AllDoes N nodes l:=by
 intro w lim b sb gM gC W a o c ks hP hS h54 hlim hn hc h100
 obtain⟨hlen,hget⟩:=hn.get
 have HK0:Hid (V.rds l W=V.rds (l.drop 0) W):=rfl
 have HC:=hide hc
 have HG:=hide hget
 have HLEN:=hide hlen
 have lo:=hS.at_.lo
 clear hc hget hlen hn
 go_enter Tryz.func48,Tryz.ntmps48
 go_wp2_with fail
 go_loopg [6] ks.length (λgk i wr=>∃(k:Nat) (W':List Int),k+gk=ks.length/\i=.int .i64 (k:Int)/\Left2 wr lim sb gM gC N W'/\But3 sb gM gC w wr/\Hid (V.rds l W=V.rds (l.drop k) W'))
 case atStart=>exact⟨0,W,by omega,rfl,hS,But3.refl _ _ _ _,HK0⟩
 case round=>
  obtain⟨k,W',hk,rfl,hr,Bk,HK⟩:=hrel
  cases gk with
  |zero=>
   have hz:¬((k:Int)<(ks.length:Int)):=by omega
   have HX:Hid (V.rds l W=W'):=by
    show _=_
    rw[HK.out,List.drop_eq_nil_of_le (by have:=HLEN.out;omega),V.rds]
   go_wp2_with fail
   go_end0
   rw[HX.out]
   exact⟨rfl,hr,Bk⟩
  |succ g1=>
   have hz:(k:Int)<(ks.length:Int):=by omega
   have hll:k<l.length:=by have:=HLEN.out;omega
   obtain⟨u,hu,hd⟩:=HG.out k hll
   obtain⟨q,rfl,hq,hqc⟩:=HC.out k u hu
   have Bl:=Bk.low lo.2.1 lo.2.2 hlim
   have cq:=(Bl.cell (p:=⟨q,o+k,none⟩) hq).trans hqc
   have hst:=hl l[k] (List.getElem_mem hll) wr lim b sb gM gC u W' (hP.keep Bl) hr h54 (Nat.le_trans hlim Bk.size) hd
   have HK':Hid (V.rds l W=V.rds (l.drop (k+1)) (V.rd l[k] W')):=HK.out.trans (V.rds_drop' hll W')
   clear HK HK0
   generalize V.rd l[k] W'=W2 at*
   generalize ks.length=KL at*
   go_wp2_with fail
   refine hst.mono ?_
   rintro x w2 ⟨rfl,h2,hb2⟩
   go_wp2_with fail
   go_roundg g1
   case measure=>omega
   case rel=>exact⟨k+1,W2,by omega,by go_num,h2,Bk.trans hb2,HK'⟩
end
section
open R (Nd Tok tk PS Thing)
open K (Nm Ex Do S)
theorem more_at{α:Type}{l m:List α}{k:Nat}{a:α}(h:l[k]?=some a):(l++m)[k]?=some a:=by
 rw[List.getElem?_append_left (List.getElem?_eq_some_iff.1 h).1];exact h
theorem NE.mono{N:Nat}{nodes more:List Nd}:∀{e:Ex} {k:Nat},NE N nodes e k->NE N (nodes++more) e k
 |.num _,_,h=>by
  unfold NE at h ⊢
  obtain⟨n,h1,h2⟩:=h
  exact⟨n,more_at h1,h2⟩
 |.use _,_,h=>by
  unfold NE at h ⊢
  obtain⟨n,h1,h2⟩:=h
  exact⟨n,more_at h1,h2⟩
 |.get _ _ e,_,h=>by
  unfold NE at h ⊢
  obtain⟨n,x,h1,h2,h3,h4,h5,h6,h7,h8,h9,h10⟩:=h
  exact⟨n,x,more_at h1,h2,h3,h4,h5,h6,h7,h8,h9,NE.mono h10⟩
 |.op _ _ l r,_,h=>by
  unfold NE at h ⊢
  obtain⟨n,x,y,h1,h2,h3,h4,h5,h6⟩:=h
  exact⟨n,x,y,more_at h1,h2,h3,h4,NE.mono h5,NE.mono h6⟩
 |.cho _ q y z,_,h=>by
  unfold NE at h ⊢
  obtain⟨n,a,b,c,h1,h2,h3,h4,h5,h6⟩:=h
  exact⟨n,a,b,c,more_at h1,h2,h3,NE.mono h4,NE.mono h5,NE.mono h6⟩
 |.none,_,h=>by unfold NE at h;exact h.elim
mutual
theorem ND.mono{N:Nat}{nodes more:List Nd}:∀{d:Do} {k:Nat},ND N nodes d k->ND N (nodes++more) d k
 |.set ..,_,h=>by
  unfold ND at h ⊢
  obtain⟨n,x,h1,h2,h3,h4,h5,h6,h7⟩:=h
  exact⟨n,x,more_at h1,h2,h3,h4,h5,h6,h7.mono⟩
 |.put ..,_,h=>by
  unfold ND at h ⊢
  obtain⟨n,x,y,h1,h2,h3,h4,h5,h6,h7,h8,h9,h10,h11⟩:=h
  exact⟨n,x,y,more_at h1,h2,h3,h4,h5,h6,h7,h8,h9,h10.mono,h11.mono⟩
 |.ifs _ _ y z,_,h=>by
  unfold ND at h ⊢
  obtain⟨n,x,l1,l2,h1,h2,h3,h4,h5,h6,h7⟩:=h
  exact⟨n,x,l1,l2,more_at h1,h2,h3,h4,h5.mono,NDs.mono h6,NDs.mono h7⟩
 |.fors _ _ _ l,_,h=>by
  unfold ND at h ⊢
  obtain⟨n,x,l1,h1,h2,h3,h4,h5,h6,h7,h8⟩:=h
  exact⟨n,x,l1,more_at h1,h2,h3,h4,h5,h6,h7.mono,NDs.mono h8⟩
 |.none,_,h=>by unfold ND at h;exact h.elim
theorem NDs.mono{N:Nat}{nodes more:List Nd}:∀{l:List Do} {ks:List Nat},NDs N nodes l ks->NDs N (nodes++more) l ks
 |[],_,h=>by unfold NDs at h ⊢;exact h
 |d::l,_,h=>by
  unfold NDs at h ⊢
  obtain⟨k,r,h1,h2,h3⟩:=h
  exact⟨k,r,h1,ND.mono h2,NDs.mono h3⟩
end
namespace Q
structure SamePl(W:Int)(t:Thing)(n:Nm):Prop where
 p0:0<=t.pos
 v:n.kind<=1->n.place=t.pos/\t.pos+t.size<=W/\1<=t.size/\t.size<=6
 c:n.kind=2->n.place=W+t.pos/\t.pos<2
def Pls(W:Int):List Thing->List Nm->Prop
 |[],[]=>True
 |t::l,n::m=>SamePl W t n/\Pls W l m
 |_,_=>False
theorem Pls.at{W:Int}:∀{l:List Thing} {m:List Nm},Pls W l m->∀i,i<l.length->SamePl W (l.getD i R.noThing) (m.getD i K.noNm)
 |[],[],_,i,h=>by simp at h
 |t::l,n::m,h,0,_=>h.1
 |t::l,n::m,h,i+1,hi=>by simpa using Pls.at h.2 i (by simpa using hi)
 |[],_::_,h,_,_=>h.elim
 |_::_,[],h,_,_=>h.elim
theorem Pls.snoc{W:Int}{t:Thing}{n:Nm}(hn:SamePl W t n):∀{l:List Thing} {m:List Nm},Pls W l m->Pls W (l++[t]) (m++[n])
 |[],[],_=>⟨hn,trivial⟩
 |_::_,_::_,h=>⟨h.1,Pls.snoc hn h.2⟩
 |[],_::_,h=>h.elim
 |_::_,[],h=>h.elim
end Q
end
end Go.Proofs.YtejbgcloblpbfaaGreatDoor
