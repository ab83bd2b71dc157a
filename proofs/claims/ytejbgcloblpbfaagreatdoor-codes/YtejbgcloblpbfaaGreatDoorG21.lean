import Derived.Test.YtejbgcloblpbfaaGreatDoorG12
namespace Go.Proofs.YtejbgcloblpbfaaGreatDoor
open Go.RowKit
open K (Nm Ex Do)
namespace Y
structure WF(w:List Nat)(L:Nat):Prop where
 wn:w.Nodup
 wl:∀x∈w,L<=x/\x<256
theorem WF.fine{w:List Nat}{L:Nat}(h:WF w L):Fine R8 w L:=⟨by decide,by decide,by decide,h.wn,h.wl⟩
theorem WF.fine1{w:List Nat}{L a:Nat}(h:WF w L)(ha:a∈R8):Fine (R8.erase a) w L:=
 ⟨(show R8.Nodup by decide).erase a,λx hx=>(show ∀x∈R8,x<8 by decide) x (List.mem_of_mem_erase hx),by rw[List.length_erase_of_mem ha];decide,h.wn,h.wl⟩
theorem WF.tail{w:List Nat}{L:Nat}(h:WF w L):WF w.tail L:=⟨h.wn.sublist (List.tail_sublist w),λx hx=>h.wl x (List.mem_of_mem_tail hx)⟩
def On(M:Nat->Int)(w:List Nat)(L:Nat)(on:Bool):Option Nat->Prop
 |none=>on=true
 |some x=>L<=x/\x<256/\x∉w/\on=decide (¬M x=0)
theorem MemIs.set{M:Nat->Int}{W:List Int}(h:MemIs M W){a:Nat}(v:Int):MemIs (upd M a v) (W.set a v):=by
 intro j hj
 rw[List.length_set]at hj
 by_cases e:j=a
 · subst e
   rw[upd_self,List.getD_eq_getElem?_getD,List.getElem?_set_self (by omega)];rfl
 · rw[upd_ne e,h j hj,List.getD_eq_getElem?_getD,List.getD_eq_getElem?_getD,List.getElem?_set_ne (λx=>e x.symm)]
theorem MemIs.same{M:Nat->Int}{W:List Int}(h:MemIs M W){a:Nat}(ha:a<W.length):MemIs (upd M a (M a)) W:=by
 intro j hj
 by_cases e:j=a
 · subst e;rw[upd_self];exact h j hj
 · rw[upd_ne e];exact h j hj
theorem two{g:List Nat}(hl:2<=g.length):∃a b t,g=a::b::t:=by
 cases g with
 |nil=>simp at hl
 |cons a g=>cases g with
  |nil=>simp at hl
  |cons b t=>exact⟨_,_,_,rfl⟩
theorem ch_sim{g w:List Nat}{p r:Nat}{k:Option Nat}{at_ v:Int}{on:Bool}{W:List Int}{s:Ma}(hL:W.length<=60)(hp:p<8)(hr:r<8)(hpr:¬p=r)(h8:∀x∈g,x<8)(hn:g.Nodup)(hl:2<=g.length)(pn:p∉g)(rn:r∉g)(hM:MemIs s.M W)(hO:On s.M w W.length on k)(ha:s.R p=at_)(a0:0<=at_)(a1:at_<W.length)(hv:s.R r=v):
 ∃s',ex (chC g p r k) s=some s'/\s'.pc=s.pc+(chC g p r k).length/\MemIs s'.M (if on=true then W.set at_.toNat v else W)/\(∀x,W.length<=x->s'.M x=s.M x)/\s'.seen=s.seen++chS s.pc at_ k:=by
 have a2:at_<256:=by omega
 have hne:∀x,W.length<=x->¬x=at_.toNat:=λx hx e=>by omega
 cases k with
 |none=>
  unfold On at hO
  subst hO
  refine⟨⟨s.pc+1,s.R,upd s.M at_.toNat v,s.seen++[(s.pc:Int),at_]⟩,?_,rfl,?_,λx hx=>upd_ne (hne x hx),rfl⟩
  · simp[chC,ex,step,hp,hr,ha,a0,a2,hv]
  · rw[if_pos rfl];exact hM.set v
 |some x=>
  obtain⟨o1,o2,o3,o4⟩:=hO
  obtain⟨h,o,t,rfl⟩:=two hl
  have bh:=h8 h (by simp)
  have bo:=h8 o (by simp)
  simp only[List.nodup_cons,List.mem_cons,not_or]at hn
  simp only[List.mem_cons,not_or]at pn rn
  have x0:(0:Int)<=((x:Nat):Int):=by omega
  have x2:((x:Nat):Int)<256:=by omega
  refine⟨⟨s.pc+5,upd (upd (upd (upd s.R h (x:Nat)) h (s.M x)) o (s.M at_.toNat)) r (if s.M x=0 then s.M at_.toNat else v),upd s.M at_.toNat (if s.M x=0 then s.M at_.toNat else v),s.seen++chS s.pc at_ (some x)⟩,?_,rfl,?_,λx hx=>upd_ne (hne x hx),rfl⟩
  · simp[chC,hd,ex,step,hp,hr,bh,bo,upd_self,upd_ne hpr,upd_ne pn.1,upd_ne pn.2.1,upd_ne rn.1,upd_ne rn.2.1,upd_ne hn.1.1,x0,x2,ha,a0,a2,hv,chS]
    omega
  · subst o4
    by_cases e:s.M x=0
    · simp only[e,not_true_eq_false,decide_false,if_true,Bool.false_eq_true,if_false]
      exact hM.same (by omega)
    · simp only[e,not_false_eq_true,decide_true,if_true,if_false]
      exact hM.set v
def DTo(C:List Ins)(W W':List Int)(w:List Nat)(len:Nat)(S:List Int)(bound:Nat)(s:Ma):Prop:=
 ∃n s',go C n s=some s'/\n<=bound/\s'.pc=s.pc+len/\MemIs s'.M W'/\(∀x,W.length<=x->x∉w->s'.M x=s.M x)/\s'.seen=s.seen++S
mutual
def Sc(N:Nat):Nat->Do->Prop
 |dep,.set _ n e=>0<=n.place/\n.place<N/\V.wfE (N+dep) e
 |dep,.put _ n i e=>0<=n.place/\1<=n.size/\n.size<=6/\n.place+n.size<=N/\V.wfE (N+dep) i/\V.wfE (N+dep) e
 |dep,.ifs _ q y n=>V.wfE (N+dep) q/\ScL N dep y/\ScL N dep n
 |dep,.fors _ n r l=>n.place=(N+dep:Nat)/\dep<2/\V.wfE (N+dep) r/\ScL N (dep+1) l
 |_,.none=>False
def ScL(N:Nat):Nat->List Do->Prop
 |_,[]=>True
 |dep,d::l=>Sc N dep d/\ScL N dep l
end
theorem wfE_mono{N M:Nat}(h:N<=M):∀{e:Ex},V.wfE N e->V.wfE M e
 |.num _,_=>by unfold V.wfE;trivial
 |.use _,k=>by unfold V.wfE at *;omega
 |.get _ _ e,k=>by
  unfold V.wfE at*
  exact⟨k.1,k.2.1,k.2.2.1,by omega,wfE_mono h k.2.2.2.2⟩
 |.op _ _ l r,k=>by
  unfold V.wfE at*
  exact⟨k.1,wfE_mono h k.2.1,wfE_mono h k.2.2⟩
 |.cho _ q y n,k=>by
  unfold V.wfE at*
  exact⟨wfE_mono h k.1,wfE_mono h k.2.1,wfE_mono h k.2.2⟩
 |.none,k=>by unfold V.wfE at k;exact k.elim
def SimD(N:Nat)(d:Do):Prop:=∀(C:List Ins) (p:Nat) (w:List Nat) (k:Option Nat) (on:Bool) (W:List Int) (s:Ma),W.length=N+2->s.pc=p->Seg C p (doC p w k d)->WF w W.length->needD d<=w.length->MemIs s.M W->On s.M w W.length on k→
 DTo C W (U.rd on d W) w (doC p w k d).length (seD p w k on d W) (cD d) s
def SimL(N:Nat)(l:List Do):Prop:=∀(C:List Ins) (p:Nat) (w:List Nat) (k:Option Nat) (on:Bool) (W:List Int) (s:Ma),W.length=N+2->s.pc=p->Seg C p (dosC p w k l)->WF w W.length->needD.needL l<=w.length->MemIs s.M W->On s.M w W.length on k→
 DTo C W (U.rds on l W) w (dosC p w k l).length (seDs p w k on l W) (cD.cDs l) s
theorem On.to{M M':Nat->Int}{w:List Nat}{L:Nat}{on:Bool}{k:Option Nat}(h:On M w L on k)(hm:∀x,L<=x->x∉w->M' x=M x):On M' w L on k:=by
 cases k with
 |none=>exact h
 |some x=>
  obtain⟨h1,h2,h3,h4⟩:=h
  exact⟨h1,h2,h3,by rw[hm x h1 h3];exact h4⟩
theorem chC_straight(g:List Nat)(p r:Nat)(k:Option Nat):(chC g p r k).all straight=true:=by cases k<;>rfl
theorem chC_len(g:List Nat)(p r:Nat)(k:Option Nat):(chC g p r k).length<=5:=by cases k<;>simp[chC]
theorem sim_set{N dep:Nat}(hN:N<=54)(hd2:dep<=2)(p0:Int)(n:Nm)(e:Ex)(hs:Sc N dep (.set p0 n e)):SimD N (.set p0 n e):=by
 intro C p w k on W s hW hp hg hwf hn hM hO
 unfold Sc at hs
 obtain⟨h0,h1,h2⟩:=hs
 subst hp
 obtain⟨s1,x1,t1,v1⟩:=sim_ex W (by omega) e R8 w s hwf.fine (wfE_mono (by omega) h2) hn hM
 have hr:=exC_mem e (w:=w) hwf.fine
 have hM1:=hM.to t1 hwf.wl
 have hO1:=hO.to (λx h1 h2=>t1.M x h2)
 have hc:doC s.pc w k (.set p0 n e)=(exC R8 w e).1++(.kst (hd (R8.erase (exC R8 w e).2)) n.place::chC (R8.erase (exC R8 w e).2).tail (hd (R8.erase (exC R8 w e).2)) (exC R8 w e).2 k):=by rw[doC]
 have hse:seD s.pc w k on (.set p0 n e) W=seE W s.pc R8 w e++(((s.pc+(exC R8 w e).1.length:Nat):Int)::chS (s.pc+(exC R8 w e).1.length+1) n.place k):=by rw[seD]
 have hu:U.rd on (.set p0 n e) W=if on=true then W.set n.place.toNat (V.ev W e)else W:=by rw[U.rd]
 have hcd:cD (.set p0 n e)=cE e+6:=rfl
 have hlen:=exC_len e R8 w
 have hst:=exC_straight e R8 w
 have q1:=t1.pc
 rw[hc]at hg
 rw[hc,hse,hu,hcd]
 have hF1:=hwf.fine1 hr
 generalize exC R8 w e=X at*
 have gl:(R8.erase X.2).length=7:=by rw[List.length_erase_of_mem hr];rfl
 have zm:=hd_mem (l:=R8.erase X.2) (by omega)
 have rn:X.2∉R8.erase X.2:=λe=>((show R8.Nodup by decide).mem_erase_iff.1 e).1 rfl
 have nd:=hF1.gn
 rw[hd_tail (l:=R8.erase X.2) (by omega)]at nd
 have b8:=hF1.g8
 have hz:¬hd (R8.erase X.2)=X.2:=λe=>rn (by have z:=zm;rw[e]at z;exact z)
 have r8:=(show ∀x∈R8,x<8 by decide) _ hr
 obtain⟨s3,x3,p3,m3,k3,e3⟩:=ch_sim (g:=(R8.erase X.2).tail) (w:=w) (p:=hd (R8.erase X.2)) (r:=X.2) (k:=k) (at_:=n.place) (v:=V.ev W e) (on:=on) (W:=W) (s:=⟨s1.pc+1,upd s1.R (hd (R8.erase X.2)) n.place,s1.M,s1.seen++[(s1.pc:Int)]⟩) (by omega) (b8 _ zm) r8 hz (λx hx=>b8 x (List.mem_of_mem_tail hx)) (List.nodup_cons.1 nd).2 (by rw[List.length_tail];omega) (List.nodup_cons.1 nd).1 (λe=>rn (List.mem_of_mem_tail e)) hM1 hO1 (upd_self _ _ _) h0 (by omega) (by show upd _ _ _ X.2=_;rw[upd_ne (λe=>hz e.symm)];exact v1)
 have x2:ex (.kst (hd (R8.erase X.2)) n.place::chC (R8.erase X.2).tail (hd (R8.erase X.2)) X.2 k) s1=some s3:=by
  unfold ex
  simp only[step,b8 _ zm,if_true]
  exact x3
 have xx:=ex_append _ _ _ _ _ x1 x2
 have cl:=chC_len (R8.erase X.2).tail (hd (R8.erase X.2)) X.2 k
 refine⟨_,s3,go_ex (by rw[List.all_append,hst,List.all_cons,chC_straight];rfl) hg xx,?_,?_,m3,?_,?_⟩
 · simp only[List.length_append,List.length_cons];omega
 · rw[p3];simp only[List.length_append,List.length_cons];omega
 · intro x hx hxw
   rw[k3 x hx]
   exact t1.M x hxw
 · rw[e3]
   dsimp only
   rw[t1.seen,q1]
   simp
theorem plC_straight(g:List Nat)(r:Nat)(n:Nm):(plC g r n).all straight=true:=rfl
theorem sim_put{N dep:Nat}(hN:N<=54)(hd2:dep<=2)(p0:Int)(n:Nm)(i e:Ex)(hs:Sc N dep (.put p0 n i e)):SimD N (.put p0 n i e):=by
 intro C p w k on W s hW hp hg hwf hn hM hO
 unfold Sc at hs
 obtain⟨h0,h1,h6,hw,hi,he⟩:=hs
 subst hp
 have hn':max (need i) (need e)<=w.length:=hn
 obtain⟨s1,x1,t1,v1⟩:=sim_ex W (by omega) e R8 w s hwf.fine (wfE_mono (by omega) he) (by omega) hM
 have hr:=exC_mem e (w:=w) hwf.fine
 have hF1:=hwf.fine1 hr
 have hM1:=hM.to t1 hwf.wl
 obtain⟨s2,x2,t2,v2⟩:=sim_ex W (by omega) i (R8.erase (exC R8 w e).2) w s1 hF1 (wfE_mono (by omega) hi) (by omega) hM1
 have hb:=exC_mem i (w:=w) hF1
 have hM2:=hM1.to t2 hwf.wl
 have hc:doC s.pc w k (.put p0 n i e)=(exC R8 w e).1++((exC (R8.erase (exC R8 w e).2) w i).1++(plC ((R8.erase (exC R8 w e).2).erase (exC (R8.erase (exC R8 w e).2) w i).2) (exC (R8.erase (exC R8 w e).2) w i).2 n++chC ((R8.erase (exC R8 w e).2).erase (exC (R8.erase (exC R8 w e).2) w i).2) (exC (R8.erase (exC R8 w e).2) w i).2 (exC R8 w e).2 k)):=by rw[doC]
 have hse:seD s.pc w k on (.put p0 n i e) W=seE W s.pc R8 w e++(seE W (s.pc+(exC R8 w e).1.length) (R8.erase (exC R8 w e).2) w i++(plS (s.pc+(exC R8 w e).1.length+(exC (R8.erase (exC R8 w e).2) w i).1.length) (V.ev W i) n.size++chS (s.pc+(exC R8 w e).1.length+(exC (R8.erase (exC R8 w e).2) w i).1.length+10) (n.place+V.md (V.ev W i) n.size) k)):=by rw[seD]
 have hu:U.rd on (.put p0 n i e) W=if on=true then W.set (n.place+V.md (V.ev W i) n.size).toNat (V.ev W e)else W:=by rw[U.rd]
 have hcd:cD (.put p0 n i e)=cE i+cE e+15:=rfl
 have hlen:=exC_len e R8 w
 have hst:=exC_straight e R8 w
 have hlen2:=exC_len i (R8.erase (exC R8 w e).2) w
 have hst2:=exC_straight i (R8.erase (exC R8 w e).2) w
 have q1:=t1.pc
 have q2:=t2.pc
 rw[hc]at hg
 rw[hc,hse,hu,hcd]
 clear hc hse hu hcd
 generalize exC R8 w e=X at*
 have gl:(R8.erase X.2).length=7:=by rw[List.length_erase_of_mem hr];rfl
 have rn:X.2∉R8.erase X.2:=λe=>((show R8.Nodup by decide).mem_erase_iff.1 e).1 rfl
 have nd:=hF1.gn
 have b8:=hF1.g8
 have r8:=(show ∀x∈R8,x<8 by decide) _ hr
 generalize R8.erase X.2=g at*
 generalize exC g w i=Z at*
 have gl2:(g.erase Z.2).length=6:=by rw[List.length_erase_of_mem hb];omega
 have zn:Z.2∉g.erase Z.2:=λe=>(nd.mem_erase_iff.1 e).1 rfl
 have sub:∀x∈g.erase Z.2,x∈g:=λx hx=>List.mem_of_mem_erase hx
 have nd2:=nd.erase Z.2
 have z8:=b8 _ hb
 have hzr:¬Z.2=X.2:=λe=>rn (by have z:=hb;rw[e]at z;exact z)
 obtain⟨s3,x3,t3,v3⟩:=pl_sim (w:=w) (h:=g.erase Z.2) (r:=Z.2) (n:=n) (v:=V.ev W i) (s:=s2) z8 zn (λx hx=>b8 x (sub x hx)) nd2 (by omega) h1 h6 v2 h0 (by omega)
 have vX:s3.R X.2=V.ev W e:=by
  rw[t3.R X.2 (by simp only[List.mem_cons,not_or];exact⟨λe=>hzr e.symm,λe=>rn (sub _ e)⟩),t2.R X.2 rn]
  exact v1
 have md:=md_range (V.ev W i) h1 h6
 have hM3:=hM2.to t3 hwf.wl
 have hO3:=hO.to (λx h1 h2=>(t3.M x h2).trans ((t2.M x h2).trans (t1.M x h2)))
 obtain⟨s4,x4,p4,m4,k4,e4⟩:=ch_sim (g:=g.erase Z.2) (w:=w) (p:=Z.2) (r:=X.2) (k:=k) (at_:=n.place+V.md (V.ev W i) n.size) (v:=V.ev W e) (on:=on) (W:=W) (s:=s3) (by omega) z8 r8 hzr (λx hx=>b8 x (sub x hx)) nd2 (by omega) zn (λe=>rn (sub _ e)) hM3 hO3 v3 (by omega) (by omega) vX
 have xx:=ex_append _ _ _ _ _ x1 (ex_append _ _ _ _ _ x2 (ex_append _ _ _ _ _ x3 x4))
 have cl:=chC_len (g.erase Z.2) Z.2 X.2 k
 have pl:(plC (g.erase Z.2) Z.2 n).length=10:=rfl
 refine⟨_,s4,go_ex (by simp only[List.all_append,hst,hst2,chC_straight,plC_straight];rfl) hg xx,?_,?_,m4,?_,?_⟩
 · simp only[List.length_append,pl];omega
 · rw[p4,t3.pc];simp only[List.length_append,pl];omega
 · intro x hx hxw
   rw[k4 x hx,t3.M x hxw,t2.M x hxw]
   exact t1.M x hxw
 · rw[e4,t3.seen,t2.seen,t1.seen,t3.pc,q2,q1]
   simp only[List.append_assoc]
theorem go_one{C:List Ins}{s s':Ma}{i:Ins}(h:C[s.pc]?=some i)(hs:step i s=some s'):go C 1 s=some s':=by
 unfold go;rw[h];dsimp only;rw[hs];rfl
mutual
theorem rd_len(on:Bool):∀(d:Do) (W:List Int),(U.rd on d W).length=W.length
 |.set ..,W=>by rw[U.rd];split<;>simp
 |.put ..,W=>by rw[U.rd];split<;>simp
 |.ifs _ q y n,W=>by
  rw[U.rd]
  split
  · rw[rds_len _ n,rds_len _ y]
  · split
    · exact rds_len _ n W
    · exact rds_len _ y W
 |.fors _ n r l,W=>by
  rw[U.rd]
  have:∀(m i:Nat) (W:List Int),(U.loop (λW=>U.rds on l W) n.place.toNat m i W).length=W.length:=by
   intro m
   induction m with
   |zero=>intro i W;rfl
   |succ m ih=>intro i W;rw[U.loop,ih,List.length_set,rds_len on l W]
  rw[this,List.length_set]
 |.none,W=>by rw[U.rd]
theorem rds_len(on:Bool):∀(l:List Do) (W:List Int),(U.rds on l W).length=W.length
 |[],W=>by rw[U.rds]
 |d::l,W=>by rw[U.rds,rds_len on l,rd_len on d]
end
theorem sim_nil{N:Nat}:SimL N []:=by
 intro C p w k on W s hW hp hg hwf hn hM hO
 refine⟨0,s,rfl,Nat.zero_le _,?_,?_,λ_ _ _=>rfl,?_⟩
 · rw[dosC];rfl
 · rw[U.rds];exact hM
 · rw[seDs];simp
theorem sim_cons{N:Nat}{d:Do}{l:List Do}(hd:SimD N d)(hl:SimL N l):SimL N (d::l):=by
 intro C p w k on W s hW hp hg hwf hn hM hO
 rw[dosC]at hg ⊢
 rw[U.rds,seDs]
 have hn':max (needD d) (needD.needL l)<=w.length:=hn
 obtain⟨n1,s1,a1,a2,a3,a4,a5,a6⟩:=hd C p w k on W s hW hp hg.left hwf (by omega) hM hO
 have hl1:=rd_len on d W
 obtain⟨n2,s2,b1,b2,b3,b4,b5,b6⟩:=hl C (p+(doC p w k d).length) w k on (U.rd on d W) s1 (by rw[hl1];exact hW) (by rw[a3,hp]) hg.right (by rw[hl1];exact hwf) (by omega) a4 (by rw[hl1];exact hO.to a5)
 refine⟨n1+n2,s2,go_add _ _ _ _ _ _ a1 b1,?_,?_,b4,?_,?_⟩
 · show _<=cD d+cD.cDs l;omega
 · rw[b3,a3,List.length_append,Nat.add_assoc]
 · intro x hx hxw
   rw[b5 x (by rw[hl1];exact hx) hxw]
   exact a5 x hx hxw
 · rw[b6,a6,List.append_assoc]
theorem sim_pub{N dep:Nat}(hN:N<=54)(hd2:dep<=2)(p0:Int)(q:Ex)(y n:List Do)(hs:Sc N dep (.ifs p0 q y n))(hq:¬K.sec q=true)(hy:SimL N y)(hnn:SimL N n):SimD N (.ifs p0 q y n):=by
 intro C p w k on W s hW hp hg hwf hn hM hO
 unfold Sc at hs
 subst hp
 have hn':max (need q) (max (needD.needL y) (needD.needL n))+2<=w.length:=hn
 obtain⟨s1,x1,t1,v1⟩:=sim_ex W (by omega) q R8 w s hwf.fine (wfE_mono (by omega) hs.1) (by omega) hM
 have hr:=exC_mem q (w:=w) hwf.fine
 have hM1:=hM.to t1 hwf.wl
 have hO1:=hO.to (λx h1 h2=>t1.M x h2)
 rw[doC,if_neg hq]at hg ⊢
 rw[seD,if_neg hq,U.rd,if_neg hq]
 dsimp only at hg ⊢
 have hcd:cD (.ifs p0 q y n)=cE q+cD.cDs y+cD.cDs n+11:=rfl
 rw[hcd]
 have hlen:=exC_len q R8 w
 have hst:=exC_straight q R8 w
 have q1:=t1.pc
 have r8:=(show ∀x∈R8,x<8 by decide) _ hr
 generalize exC R8 w q=X at*
 have g1:=go_ex hst hg.left x1
 have hj:=hg.right.head
 have hg2:=hg.right.tail
 by_cases c:V.ev W q=0
 · rw[if_pos c,if_pos c]
   have j1:=go_one (C:=C) (s:=s1) (i:=.jz X.2 (s.pc+X.1.length+1+(dosC (s.pc+X.1.length+1) w k y).length+1)) (s':=⟨s.pc+X.1.length+1+(dosC (s.pc+X.1.length+1) w k y).length+1,s1.R,s1.M,s1.seen++[(s1.pc:Int)]⟩) (by rw[q1];exact hj) (by simp[step,r8,v1,c])
   obtain⟨n2,s2,b1,b2,b3,b4,b5,b6⟩:=hnn C _ w k on W ⟨s.pc+X.1.length+1+(dosC (s.pc+X.1.length+1) w k y).length+1,s1.R,s1.M,s1.seen++[(s1.pc:Int)]⟩ hW rfl hg2.right.tail hwf (by omega) hM1 hO1
   refine⟨X.1.length+(1+n2),s2,go_add _ _ _ _ _ _ g1 (go_add _ _ _ _ _ _ j1 b1),by omega,?_,b4,?_,?_⟩
   · rw[b3];simp only[List.length_append,List.length_cons];omega
   · intro x hx hxw
     rw[b5 x hx hxw]
     exact t1.M x hxw
   · rw[b6]
     dsimp only
     rw[t1.seen,q1]
     simp
 · rw[if_neg c,if_neg c]
   have j1:=go_one (C:=C) (s:=s1) (i:=.jz X.2 (s.pc+X.1.length+1+(dosC (s.pc+X.1.length+1) w k y).length+1)) (s':=⟨s1.pc+1,s1.R,s1.M,s1.seen++[(s1.pc:Int)]⟩) (by rw[q1];exact hj) (by simp[step,r8,v1,c])
   obtain⟨n2,s2,b1,b2,b3,b4,b5,b6⟩:=hy C (s.pc+X.1.length+1) w k on W ⟨s1.pc+1,s1.R,s1.M,s1.seen++[(s1.pc:Int)]⟩ hW (by rw[<-q1]) hg2.left hwf (by omega) hM1 hO1
   have b3':s2.pc=s.pc+X.1.length+1+(dosC (s.pc+X.1.length+1) w k y).length:=by rw[b3];dsimp only;rw[q1]
   have j2:=go_one (C:=C) (s:=s2) (s':=⟨s.pc+X.1.length+1+(dosC (s.pc+X.1.length+1) w k y).length+1+(dosC (s.pc+X.1.length+1+(dosC (s.pc+X.1.length+1) w k y).length+1) w k n).length,s2.R,s2.M,s2.seen++[(s2.pc:Int)]⟩) (by rw[b3'];exact hg2.right.head) rfl
   refine⟨X.1.length+(1+(n2+1)),_,go_add _ _ _ _ _ _ g1 (go_add _ _ _ _ _ _ j1 (go_add _ _ _ _ _ _ b1 j2)),by omega,?_,b4,?_,?_⟩
   · simp only[List.length_append,List.length_cons];omega
   · intro x hx hxw
     show s2.M x=_
     rw[b5 x hx hxw]
     exact t1.M x hxw
   · show s2.seen++[(s2.pc:Int)]=_
     rw[b6,b3']
     dsimp only
     rw[t1.seen,q1]
     simp
theorem four{g:List Nat}(hl:4<=g.length):∃a b c d t,g=a::b::c::d::t:=by
 match g,hl with
 |a::b::c::d::t,_=>exact⟨_,_,_,_,_,rfl⟩
def arnd(M:Nat->Int):Option Nat->Int
 |none=>1
 |some x=>M x
theorem cn_sim{u:Nat}{k:Option Nat}{s:Ma}(hu:u<8)(hk:∀x,k=some x->x<256):
 ∃R',ex (cnC u k) s=some ⟨s.pc+(cnC u k).length,R',s.M,s.seen++cnS s.pc k⟩/\R' u=arnd s.M k/\∀x,¬x=u->R' x=s.R x:=by
 cases k with
 |none=>
  refine⟨upd s.R u 1,?_,upd_self _ _ _,λx hx=>upd_ne hx⟩
  simp[cnC,cnS,ex,step,hu]
 |some x=>
  have:=hk x rfl
  have x0:(0:Int)<=((x:Nat):Int):=by omega
  have x2:((x:Nat):Int)<256:=by omega
  refine⟨upd (upd s.R u (x:Nat)) u (s.M x),?_,upd_self _ _ _,λy hy=>by rw[upd_ne hy,upd_ne hy]⟩
  simp[cnC,cnS,ex,step,hu,upd_self,x0,x2]
theorem co_sim{g:List Nat}{r a b:Nat}{k:Option Nat}{v:Int}{s:Ma}(hr:r<8)(h8:∀x∈g,x<8)(hn:g.Nodup)(hl:4<=g.length)(rn:r∉g)(ha:a<256)(hb:b<256)(hk:∀x,k=some x->x<256)(hv:s.R r=v):
 ∃R',ex (coC g r a b k) s=some ⟨s.pc+(coC g r a b k).length,R',upd (upd s.M a (if v=0 then 0 else arnd s.M k)) b (if v=0 then arnd s.M k else 0),s.seen++coS s.pc a b k⟩:=by
 obtain⟨u,z,f,t,l,rfl⟩:=four hl
 have bu:=h8 u (by simp)
 have bz:=h8 z (by simp)
 have bf:=h8 f (by simp)
 have bt:=h8 t (by simp)
 simp only[List.nodup_cons,List.mem_cons,not_or]at hn
 simp only[List.mem_cons,not_or]at rn
 obtain⟨R1,x1,v1,k1⟩:=cn_sim (u:=u) (k:=k) (s:=s) bu hk
 have a0:(0:Int)<=((a:Nat):Int):=by omega
 have a2:((a:Nat):Int)<256:=by omega
 have b0:(0:Int)<=((b:Nat):Int):=by omega
 have b2:((b:Nat):Int)<256:=by omega
 have vr:R1 r=v:=(k1 r rn.1).trans hv
 obtain⟨⟨nuz,nuf,nut,_⟩,⟨nzf,nzt,_⟩,⟨nft,_⟩,_⟩:=hn
 have nzu:¬z=u:=λe=>nuz e.symm
 generalize arnd s.M k=ar at*
 have x2:ex [.kst z 0,.sel f u r z,.kst t (a:Nat),.st t f,.sel f z r u,.kst t (b:Nat),.st t f] ⟨s.pc+(cnC u k).length,R1,s.M,s.seen++cnS s.pc k⟩=some ⟨s.pc+(cnC u k).length+7,upd (upd (upd (upd (upd R1 z 0) f (if v=0 then 0 else ar)) t (a:Nat)) f (if v=0 then ar else 0)) t (b:Nat),upd (upd s.M a (if v=0 then 0 else ar)) b (if v=0 then ar else 0),s.seen++cnS s.pc k++[((s.pc+(cnC u k).length:Nat):Int),((s.pc+(cnC u k).length+1:Nat):Int),((s.pc+(cnC u k).length+2:Nat):Int),((s.pc+(cnC u k).length+3:Nat):Int),(a:Nat),((s.pc+(cnC u k).length+4:Nat):Int),((s.pc+(cnC u k).length+5:Nat):Int),((s.pc+(cnC u k).length+6:Nat):Int),(b:Nat)]⟩:=by
  simp[ex,step,hr,bu,bz,bf,bt,upd_self,upd_ne nuz,upd_ne nzf,upd_ne nuf,upd_ne nut,upd_ne nzt,upd_ne nft,upd_ne rn.2.1,upd_ne rn.2.2.1,upd_ne rn.2.2.2.1,a0,a2,b0,b2,v1,vr]
  omega
 have el:∀u',(cnC u' k).length=(cnC 0 k).length:=λu'=>by cases k<;>rfl
 refine⟨upd (upd (upd (upd (upd R1 z 0) f (if v=0 then 0 else ar)) t (a:Nat)) f (if v=0 then ar else 0)) t (b:Nat),?_⟩
 · refine(ex_append _ _ _ _ _ x1 x2).trans ?_
   have e1:(coC (u::z::f::t::l) r a b k).length=(cnC u k).length+7:=by simp[coC,hd]
   rw[e1,Nat.add_assoc s.pc,List.append_assoc]
   congr 2
   unfold coS
   rw[el u]
theorem coC_len(g:List Nat)(r a b:Nat)(k:Option Nat):(coC g r a b k).length<=9:=by cases k<;>simp[coC,cnC]
theorem coC_straight(g:List Nat)(r a b:Nat)(k:Option Nat):(coC g r a b k).all straight=true:=by cases k<;>rfl
theorem sim_sec{N dep:Nat}(hN:N<=54)(hd2:dep<=2)(p0:Int)(q:Ex)(y n:List Do)(hs:Sc N dep (.ifs p0 q y n))(hq:K.sec q=true)(hy:SimL N y)(hnn:SimL N n):SimD N (.ifs p0 q y n):=by
 intro C p w k on W s hW hp hg hwf hn hM hO
 unfold Sc at hs
 subst hp
 have hn':max (need q) (max (needD.needL y) (needD.needL n))+2<=w.length:=hn
 obtain⟨a,b,w2,rfl⟩:=two (g:=w) (by omega)
 have hwf2:WF w2 W.length:=hwf.tail.tail
 simp only[List.length_cons]at hn'
 obtain⟨s1,x1,t1,v1⟩:=sim_ex W (by omega) q R8 w2 s hwf2.fine (wfE_mono (by omega) hs.1) (by omega) hM
 have hr:=exC_mem q (w:=w2) hwf2.fine
 have hF1:=hwf2.fine1 hr
 have hM1:=hM.to t1 hwf2.wl
 rw[doC,if_pos hq]at hg ⊢
 rw[seD,if_pos hq,U.rd,if_pos hq]
 dsimp only[hd,List.headD,List.tail]at hg ⊢
 have hcd:cD (.ifs p0 q y n)=cE q+cD.cDs y+cD.cDs n+11:=rfl
 rw[hcd]
 have hlen:=exC_len q R8 w2
 have hst:=exC_straight q R8 w2
 have q1:=t1.pc
 have r8:=(show ∀x∈R8,x<8 by decide) _ hr
 have an:=hwf.wl a (by simp)
 have bn:=hwf.wl b (by simp)
 have nd:=hwf.wn
 simp only[List.nodup_cons,List.mem_cons,not_or]at nd
 have kx:∀x,k=some x->x<256:=by
  rintro x rfl
  exact hO.2.1
 have kk:arnd s1.M k=arnd s.M k:=by
  cases k with
  |none=>rfl
  |some x=>
   obtain⟨_,_,o3,_⟩:=hO
   simp only[List.mem_cons,not_or]at o3
   exact t1.M x o3.2.2
 have hon:on=decide (¬arnd s.M k=0):=by
  cases k with
  |none=>exact hO
  |some x=>exact hO.2.2.2
 generalize exC R8 w2 q=X at*
 have rn:X.2∉R8.erase X.2:=λe=>((show R8.Nodup by decide).mem_erase_iff.1 e).1 rfl
 have gl:(R8.erase X.2).length=7:=by rw[List.length_erase_of_mem hr];rfl
 obtain⟨R2,x2⟩:=co_sim (g:=R8.erase X.2) (r:=X.2) (a:=a) (b:=b) (k:=k) (s:=s1) r8 hF1.g8 hF1.gn (by omega) rn an.2 bn.2 kx v1
 rw[kk]at x2
 have cl:=coC_len (R8.erase X.2) X.2 a b k
 have cs:=coC_straight (R8.erase X.2) X.2 a b k
 have g1:=go_ex hst hg.left x1
 have hg2:=hg.right
 have g2:=go_ex (C:=C) cs (by rw[q1];exact hg2.left) x2
 have hg3:=hg2.right
 generalize coC (R8.erase X.2) X.2 a b k=c2 at*
 rw[q1]at x2 g2
 obtain⟨s2,hs2⟩:∃s2:Ma,s2=⟨s.pc+X.1.length+c2.length,R2,upd (upd s1.M a (if V.ev W q=0 then 0 else arnd s.M k)) b (if V.ev W q=0 then arnd s.M k else 0),s1.seen++coS (s.pc+X.1.length) a b k⟩:=⟨_,rfl⟩
 rw[<-hs2]at g2
 have M2:∀x,¬x=a->¬x=b->s2.M x=s1.M x:=λx h1 h2=>by rw[hs2];show upd _ _ _ x=_;rw[upd_ne h2,upd_ne h1]
 have Ma2:s2.M a=if V.ev W q=0 then 0 else arnd s.M k:=by rw[hs2];show upd _ _ _ a=_;rw[upd_ne nd.1.1,upd_self]
 have Mb2:s2.M b=if V.ev W q=0 then arnd s.M k else 0:=by rw[hs2];exact upd_self _ _ _
 have hM2:MemIs s2.M W:=λj hj=>(M2 j (by omega) (by omega)).trans (hM1 j hj)
 have Oa:On s2.M w2 W.length (on&&decide (¬V.ev W q=0)) (some a):=by
  refine⟨an.1,an.2,nd.1.2,?_⟩
  rw[Ma2,hon]
  by_cases c:V.ev W q=0<;>simp[c]
 obtain⟨n3,s3,b1,b2,b3,b4,b5,b6⟩:=hy C (s.pc+X.1.length+c2.length) w2 (some a) (on&&decide (¬V.ev W q=0)) W s2 hW (by rw[hs2]) hg3.left hwf2 (by omega) hM2 Oa
 have hl1:=rds_len (on&&decide (¬V.ev W q=0)) y W
 have Ob:On s3.M w2 W.length (on&&decide (V.ev W q=0)) (some b):=by
  refine⟨bn.1,bn.2,nd.2.1,?_⟩
  rw[b5 b bn.1 nd.2.1,Mb2,hon]
  by_cases c:V.ev W q=0<;>simp[c]
 have s2pc:s2.pc=s.pc+X.1.length+c2.length:=by rw[hs2]
 obtain⟨n4,s4,d1,d2,d3,d4,d5,d6⟩:=hnn C _ w2 (some b) (on&&decide (V.ev W q=0)) (U.rds (on&&decide (¬V.ev W q=0)) y W) s3 (by rw[hl1];exact hW) (by rw[b3,s2pc]) hg3.right (by rw[hl1];exact hwf2) (by omega) b4 (by rw[hl1];exact Ob)
 refine⟨X.1.length+(c2.length+(n3+n4)),s4,go_add _ _ _ _ _ _ g1 (go_add _ _ _ _ _ _ g2 (go_add _ _ _ _ _ _ b1 d1)),by omega,?_,d4,?_,?_⟩
 · rw[d3,b3,s2pc];simp only[List.length_append];omega
 · intro x hx hxw
   simp only[List.mem_cons,not_or]at hxw
   rw[d5 x (by rw[hl1];exact hx) hxw.2.2,b5 x hx hxw.2.2,M2 x hxw.1 hxw.2.1]
   exact t1.M x hxw.2.2
 · rw[d6,b6,hs2]
   dsimp only
   rw[t1.seen]
   simp only[List.append_assoc]
theorem getD_set_ne{W:List Int}{a j:Nat}{v:Int}(h:¬a=j):(W.set a v).getD j 0=W.getD j 0:=by
 rw[List.getD_eq_getElem?_getD,List.getD_eq_getElem?_getD,List.getElem?_set_ne h]
theorem getD_set_self{W:List Int}{a:Nat}{v:Int}(h:a<W.length):(W.set a v).getD a 0=v:=by
 rw[List.getD_eq_getElem?_getD,List.getElem?_set_self h];rfl
theorem loop_keep{f:List Int->List Int}{k j:Nat}(hj:¬k=j)(hf:∀W,(f W).getD j 0=W.getD j 0):∀(m i:Nat) (W:List Int),(U.loop f k m i W).getD j 0=W.getD j 0
 |0,_,_=>rfl
 |m+1,i,W=>by rw[U.loop,loop_keep hj hf m,getD_set_ne hj,hf]
mutual
theorem rd_keep{N:Nat}(on:Bool){j:Nat}(hj:N<=j):∀(d:Do) {dep:Nat},Sc N dep d->j<N+dep->∀W:List Int,(U.rd on d W).getD j 0=W.getD j 0
 |.set _ n e,dep,h,hd,W=>by
  unfold Sc at h
  rw[U.rd]
  split
  · exact getD_set_ne (by omega)
  · rfl
 |.put _ n i e,dep,h,hd,W=>by
  unfold Sc at h
  have:=md_range (V.ev W i) h.2.1 h.2.2.1
  rw[U.rd]
  split
  · exact getD_set_ne (by omega)
  · rfl
 |.ifs _ q y n,dep,h,hd,W=>by
  unfold Sc at h
  rw[U.rd]
  split
  · rw[rds_keep _ hj n h.2.2 hd,rds_keep _ hj y h.2.1 hd]
  · split
    · exact rds_keep _ hj n h.2.2 hd W
    · exact rds_keep _ hj y h.2.1 hd W
 |.fors _ n r l,dep,h,hd,W=>by
  unfold Sc at h
  rw[U.rd]
  have hk:¬n.place.toNat=j:=by omega
  rw[loop_keep hk (λW=>rds_keep on hj l h.2.2.2 (by omega) W),getD_set_ne hk]
 |.none,dep,h,hd,W=>by unfold Sc at h;exact h.elim
theorem rds_keep{N:Nat}(on:Bool){j:Nat}(hj:N<=j):∀(l:List Do) {dep:Nat},ScL N dep l->j<N+dep->∀W:List Int,(U.rds on l W).getD j 0=W.getD j 0
 |[],dep,h,hd,W=>by rw[U.rds]
 |d::l,dep,h,hd,W=>by
  unfold ScL at h
  rw[U.rds,rds_keep on hj l h.2 hd,rd_keep on hj d h.1 hd]
end
theorem ro_sim{g:List Nat}{r c:Nat}{v:Int}{s:Ma}(hr:r<8)(h8:∀x∈g,x<8)(hn:g.Nodup)(hl:4<=g.length)(rn:r∉g)(hc:c<256)(hv:s.R r=v):
 ∃R',ex (roC g r c) s=some ⟨s.pc+5,R',upd s.M c (if v<5 then v else 5),s.seen++roS s.pc c⟩:=by
 obtain⟨m,f,t,u,l,rfl⟩:=four hl
 have bm:=h8 m (by simp)
 have bf:=h8 f (by simp)
 have bt:=h8 t (by simp)
 simp only[List.nodup_cons,List.mem_cons,not_or]at hn
 simp only[List.mem_cons,not_or]at rn
 obtain⟨⟨nmf,nmt,_⟩,⟨nft,_⟩,_⟩:=hn
 have c0:(0:Int)<=((c:Nat):Int):=by omega
 have c2:((c:Nat):Int)<256:=by omega
 have nrm:=rn.1
 have nrf:=rn.2.1
 have nrt:=rn.2.2.1
 refine⟨upd (upd (upd (upd s.R m 5) f (if v<5 then 1 else 0)) r (if v<5 then v else 5)) t (c:Nat),?_⟩
 by_cases e:v<5
 · simp[roC,hd,ex,step,hr,bm,bf,bt,upd_self,upd_ne nrm,upd_ne nrf,upd_ne nrt,V.opf,c0,c2,hv,e,roS]
   omega
 · simp[roC,hd,ex,step,hr,bm,bf,bt,upd_self,upd_ne nmf,upd_ne nrm,upd_ne nrt,V.opf,c0,c2,hv,e,roS]
   omega
theorem z_sim{cp:Int}{s:Ma}(h0:0<=cp)(h1:cp<256):ex [.kst 0 0,.kst 1 cp,.st 1 0] s=some ⟨s.pc+3,upd (upd s.R 0 0) 1 cp,upd s.M cp.toNat 0,s.seen++[(s.pc:Int),((s.pc+1:Nat):Int),((s.pc+2:Nat):Int),cp]⟩:=by
 simp[ex,step,upd,h0,h1]
 omega
theorem h_sim{cp:Int}{c:Nat}{s:Ma}(h0:0<=cp)(h1:cp<256)(hc:c<256):∃R',ex [.kst 0 cp,.ld 0 0,.kst 1 (c:Nat),.ld 1 1,.bin 60 0 0 1] s=some ⟨s.pc+5,R',s.M,s.seen++[(s.pc:Int),((s.pc+1:Nat):Int),cp,((s.pc+2:Nat):Int),((s.pc+3:Nat):Int),(c:Nat),((s.pc+4:Nat):Int)]⟩/\R' 0=if s.M cp.toNat<s.M c then 1 else 0:=by
 have c0:(0:Int)<=((c:Nat):Int):=by omega
 have c2:((c:Nat):Int)<256:=by omega
 refine⟨upd (upd (upd (upd (upd s.R 0 cp) 0 (s.M cp.toNat)) 1 (c:Nat)) 1 (s.M c)) 0 (if s.M cp.toNat<s.M c then 1 else 0),?_,upd_self _ _ _⟩
 simp[ex,step,upd,h0,h1,c0,c2,V.opf]
 omega
theorem o_sim{cp:Int}{d:Nat}{i:Nat}{s:Ma}(h0:0<=cp)(h1:cp<256)(hi:s.M cp.toNat=(i:Nat))(hi':i<10):∃R',ex [.kst 0 cp,.ld 0 0,.kst 1 1,.bin 43 0 0 1,.kst 2 cp,.st 2 0,.jmp d] s=some ⟨d,R',upd s.M cp.toNat ((i+1:Nat):Int),s.seen++onS s.pc cp⟩:=by
 have e:wrap64 ((i:Int)+1)=(i:Int)+1:=by unfold wrap64;omega
 refine⟨upd (upd (upd (upd (upd s.R 0 cp) 0 (s.M cp.toNat)) 1 1) 0 ((i+1:Nat):Int)) 2 cp,?_⟩
 simp[ex,step,upd,h0,h1,V.opf,hi,e,onS]
 omega
theorem go_snoc{C:List Ins}{l:List Ins}{s s1 s':Ma}{i:Ins}(h:l.all straight=true)(g:Seg C s.pc (l++[i]))(e:ex l s=some s1)(p:s1.pc=s.pc+l.length)(hs:step i s1=some s'):go C (l.length+1) s=some s':=
 go_add _ _ _ _ _ _ (go_ex h g.left e) (go_one (by rw[p];exact g.right.head) hs)
theorem loop_sim{N dep:Nat}(hN:N<=54)(hdep:dep<2){l:List Do}(hl:SimL N l)(hs:ScL N (dep+1) l){C:List Ins}{p1 c:Nat}{w:List Nat}{k:Option Nat}{on:Bool}{rr:Int}{T:Nat}(hT:T<=5)(hrr:∀j:Nat,((j:Int)<rr↔j<T))(hwf:WF w (N+2))(hc:N+2<=c)(hc2:c<256)(hcw:c∉w)(hn:needD.needL l<=w.length)(cp:Int)(hcp:cp=(N+dep:Nat))(hg:Seg C p1 (hdC cp c (p1+6+(dosC (p1+6) w k l).length+7)++(dosC (p1+6) w k l++onC cp p1))):
 ∀(m i:Nat) (W:List Int) (s:Ma),i+m=T->W.length=N+2->s.pc=p1->MemIs s.M W->W.getD cp.toNat 0=(i:Nat)->s.M c=rr->On s.M w (N+2) on k→
  ∃n s',go C n s=some s'/\n<=m*(cD.cDs l+13)+6/\s'.pc=p1+6+(dosC (p1+6) w k l).length+7/\MemIs s'.M (U.loop (λW=>U.rds on l W) cp.toNat m i W)/\(∀x,N+2<=x->x∉w->s'.M x=s.M x)/\s'.seen=s.seen++loS (λW=>U.rds on l W) (λW=>seDs (p1+6) w k on l W) cp.toNat (hdS p1 cp c) (onS (p1+6+(dosC (p1+6) w k l).length) cp) m i W:=by
 have h0:0<=cp:=by omega
 have h1:cp<256:=by omega
 intro m
 induction m with
 |zero=>
  intro i W s him hW hp hM hWi hMc hO
  obtain⟨R1,x1,v1⟩:=h_sim (cp:=cp) (c:=c) (s:=s) h0 h1 hc2
  have hz:s.M cp.toNat=(i:Nat):=(hM _ (by omega)).trans hWi
  rw[hz,hMc,if_neg (by rw[hrr];omega)]at v1
  have g1:=go_snoc (C:=C) (i:=.jz 0 (p1+6+(dosC (p1+6) w k l).length+7)) rfl (by rw[hp];exact hg.left) x1 rfl (s':=⟨p1+6+(dosC (p1+6) w k l).length+7,R1,s.M,s.seen++[(s.pc:Int),((s.pc+1:Nat):Int),cp,((s.pc+2:Nat):Int),((s.pc+3:Nat):Int),(c:Nat),((s.pc+4:Nat):Int)]++[((s.pc+5:Nat):Int)]⟩) (by simp[step,v1])
  refine⟨_,_,g1,by simp,rfl,hM,λ_ _ _=>rfl,?_⟩
  dsimp only
  rw[hp,List.append_assoc]
  rfl
 |succ m ih=>
  intro i W s him hW hp hM hWi hMc hO
  obtain⟨R1,x1,v1⟩:=h_sim (cp:=cp) (c:=c) (s:=s) h0 h1 hc2
  have hz:s.M cp.toNat=(i:Nat):=(hM _ (by omega)).trans hWi
  rw[hz,hMc,if_pos (by rw[hrr];omega)]at v1
  have g1:=go_snoc (C:=C) (i:=.jz 0 (p1+6+(dosC (p1+6) w k l).length+7)) rfl (by rw[hp];exact hg.left) x1 rfl (s':=⟨s.pc+5+1,R1,s.M,s.seen++[(s.pc:Int),((s.pc+1:Nat):Int),cp,((s.pc+2:Nat):Int),((s.pc+3:Nat):Int),(c:Nat),((s.pc+4:Nat):Int)]++[((s.pc+5:Nat):Int)]⟩) (by simp[step,v1])
  obtain⟨n2,s2,b1,b2,b3,b4,b5,b6⟩:=hl C (p1+6) w k on W ⟨s.pc+5+1,R1,s.M,s.seen++[(s.pc:Int),((s.pc+1:Nat):Int),cp,((s.pc+2:Nat):Int),((s.pc+3:Nat):Int),(c:Nat),((s.pc+4:Nat):Int)]++[((s.pc+5:Nat):Int)]⟩ hW (by rw[hp]) hg.right.left (by rw[hW];exact hwf) hn hM (by rw[hW];exact hO)
  rw[hW]at b5
  have hlen:=rds_len on l W
  have hz2:s2.M cp.toNat=(i:Nat):=by
   rw[b4 _ (by omega),rds_keep on (N:=N) (by omega) l hs (by omega)]
   exact hWi
  have p2:s2.pc=p1+6+(dosC (p1+6) w k l).length:=by rw[b3,hp]
  obtain⟨R3,x3⟩:=o_sim (cp:=cp) (d:=p1) (i:=i) (s:=s2) h0 h1 hz2 (by omega)
  have g3:go C 7 s2=some ⟨p1,R3,upd s2.M cp.toNat ((i+1:Nat):Int),s2.seen++onS s2.pc cp⟩:=by
   have hg3:Seg C s2.pc (onC cp p1):=by rw[p2];exact hg.right.right
   have e6:∃s6,ex [.kst 0 cp,.ld 0 0,.kst 1 1,.bin 43 0 0 1,.kst 2 cp,.st 2 0] s2=some s6/\step (.jmp p1) s6=some ⟨p1,R3,upd s2.M cp.toNat ((i+1:Nat):Int),s2.seen++onS s2.pc cp⟩:=by
    have:∀(a b:List Ins) (s s':Ma),ex (a++b) s=some s'->∃s1,ex a s=some s1/\ex b s1=some s':=by
     intro a
     induction a with
     |nil=>intro b s s' h;exact⟨s,rfl,h⟩
     |cons z a iha=>
      intro b s s' h
      rw[List.cons_append]at h
      rw[ex]at h ⊢
      split at h
      · cases h
      · exact iha _ _ _ h
    obtain⟨s6,q1,q2⟩:=this [.kst 0 cp,.ld 0 0,.kst 1 1,.bin 43 0 0 1,.kst 2 cp,.st 2 0] [.jmp p1] s2 _ x3
    exact⟨s6,q1,q2⟩
   obtain⟨s6,q1,q2⟩:=e6
   have q3:=go_ex (C:=C) (l:=[.kst 0 cp,.ld 0 0,.kst 1 1,.bin 43 0 0 1,.kst 2 cp,.st 2 0]) rfl (Seg.left (b:=[.jmp p1]) hg3) q1
   have q4:s6.pc=s2.pc+6:=by
    have:∀(a:List Ins) (s s':Ma),a.all straight=true->ex a s=some s'->s'.pc=s.pc+a.length:=by
     intro a
     induction a with
     |nil=>intro s s' _ h;cases h;rfl
     |cons z a iha=>
      intro s s' hst h
      rw[List.all_cons,Bool.and_eq_true]at hst
      unfold ex at h
      split at h
      · cases h
      · rename_i s1 h1
        rw[iha _ _ hst.2 h,step_pc hst.1 h1,List.length_cons];omega
    exact this _ _ _ rfl q1
   exact go_add _ 6 1 _ _ _ q3 (go_one (by rw[q4];exact(Seg.right (a:=[.kst 0 cp,.ld 0 0,.kst 1 1,.bin 43 0 0 1,.kst 2 cp,.st 2 0]) (b:=[.jmp p1]) hg3).head) q2)
  obtain⟨n4,s4,d1,d2,d3,d4,d5,d6⟩:=ih (i+1) ((U.rds on l W).set cp.toNat ((i+1:Nat):Int)) ⟨p1,R3,upd s2.M cp.toNat ((i+1:Nat):Int),s2.seen++onS s2.pc cp⟩ (by omega) (by rw[List.length_set,hlen,hW]) rfl (b4.set _) (getD_set_self (by omega)) (by
   show upd _ _ _ c=rr
   rw[upd_ne (by omega),b5 c hc hcw];exact hMc) (hO.to λx h2 h3=>by
   show upd _ _ _ x=_
   rw[upd_ne (by omega),b5 x h2 h3])
  refine⟨6+(n2+(7+n4)),s4,go_add _ _ _ _ _ _ g1 (go_add _ _ _ _ _ _ b1 (go_add _ _ _ _ _ _ g3 d1)),?_,d3,d4,?_,?_⟩
  · rw[Nat.succ_mul];omega
  · intro x hx hxw
    rw[d5 x hx hxw]
    show upd _ _ _ x=_
    rw[upd_ne (by omega),b5 x hx hxw]
  · rw[d6]
    show s2.seen++onS s2.pc cp++_=_
    rw[b6,p2,loS]
    simp only[List.append_assoc,hp]
    rfl
theorem times_lt(v:Int)(j:Nat):((j:Int)<(if v<5 then v else 5)↔j<V.times v):=by
 unfold V.times
 split<;>split<;>(try split)<;>omega
theorem times_le(v:Int):V.times v<=5:=by
 unfold V.times
 split
 · omega
 · split<;>omega
theorem sim_for{N dep:Nat}(hN:N<=54)(p0:Int)(n:Nm)(r:Ex)(l:List Do)(hs:Sc N dep (.fors p0 n r l))(hl:SimL N l):SimD N (.fors p0 n r l):=by
 intro C p w k on W s hW hp hg hwf hn hM hO
 unfold Sc at hs
 obtain⟨h1,h2,h3,h4⟩:=hs
 subst hp
 have hn':max (need r) (needD.needL l)+1<=w.length:=hn
 obtain⟨c,w,rfl⟩:∃c t,w=c::t:=by cases w with |nil=>simp at hn' |cons c t=>exact⟨_,_,rfl⟩
 have hwf2:WF w W.length:=hwf.tail
 simp only[List.length_cons]at hn'
 obtain⟨s1,x1,t1,v1⟩:=sim_ex W (by omega) r R8 w s hwf2.fine (wfE_mono (by omega) h3) (by omega) hM
 have hr:=exC_mem r (w:=w) hwf2.fine
 have hF1:=hwf2.fine1 hr
 have hM1:=hM.to t1 hwf2.wl
 rw[doC]at hg ⊢
 rw[seD,U.rd]
 dsimp only[hd,List.headD,List.tail]at hg ⊢
 have hcd:cD (.fors p0 n r l)=cE r+14+5*(cD.cDs l+13):=rfl
 rw[hcd]
 have hlen:=exC_len r R8 w
 have hst:=exC_straight r R8 w
 have q1:=t1.pc
 have r8:=(show ∀x∈R8,x<8 by decide) _ hr
 have an:=hwf.wl c (by simp)
 have nd:=hwf.wn
 simp only[List.nodup_cons]at nd
 generalize exC R8 w r=X at*
 have rn:X.2∉R8.erase X.2:=λe=>((show R8.Nodup by decide).mem_erase_iff.1 e).1 rfl
 have gl:(R8.erase X.2).length=7:=by rw[List.length_erase_of_mem hr];rfl
 obtain⟨R2,x2⟩:=ro_sim (g:=R8.erase X.2) (r:=X.2) (c:=c) (s:=s1) r8 hF1.g8 hF1.gn (by omega) rn an.2 v1
 have g1:=go_ex hst hg.left x1
 have g2:=go_ex (C:=C) (l:=roC (R8.erase X.2) X.2 c) rfl (by rw[q1];exact hg.right.left) x2
 have h0:0<=n.place:=by omega
 have h5:n.place<256:=by omega
 have x3:=z_sim (cp:=n.place) (s:=⟨s1.pc+5,R2,upd s1.M c (if V.ev W r<5 then V.ev W r else 5),s1.seen++roS s1.pc c⟩) h0 h5
 have g3:=go_ex (C:=C) (l:=[.kst 0 0,.kst 1 n.place,.st 1 0]) rfl (by show Seg C (s1.pc+5) _;rw[q1];exact hg.right.right.left) x3
 have hg4:=hg.right.right.right
 rw[show s.pc+X.1.length+(roC (R8.erase X.2) X.2 c).length+([.kst 0 0,.kst 1 n.place,.st 1 0]:List Ins).length=s.pc+X.1.length+8 from rfl]at hg4
 have hL:=hW
 have hM2:MemIs (upd s1.M c (if V.ev W r<5 then V.ev W r else 5)) W:=λj hj=>by rw[upd_ne (by omega)];exact hM1 j hj
 rw[hL]at hwf2 an
 obtain⟨n4,s4,d1,d2,d3,d4,d5,d6⟩:=loop_sim hN h2 hl h4 (c:=c) (w:=w) (k:=k) (on:=on) (times_le (V.ev W r)) (times_lt (V.ev W r)) hwf2 an.1 an.2 nd.1 (by omega) n.place h1 hg4 (V.times (V.ev W r)) 0 (W.set n.place.toNat 0) ⟨s1.pc+5+3,upd (upd R2 0 0) 1 n.place,upd (upd s1.M c (if V.ev W r<5 then V.ev W r else 5)) n.place.toNat 0,s1.seen++roS s1.pc c++[((s1.pc+5:Nat):Int),((s1.pc+5+1:Nat):Int),((s1.pc+5+2:Nat):Int),n.place]⟩ (by omega) (by rw[List.length_set,hW]) (by rw[q1]) (hM2.set 0) (getD_set_self (by omega)) (by
  show upd _ _ _ c=_
  rw[upd_ne (by omega),upd_self]) (by
  rw[hL]at hO
  cases k with
  |none=>exact hO
  |some x=>
   obtain⟨o1,o2,o3,o4⟩:=hO
   simp only[List.mem_cons,not_or]at o3
   refine⟨o1,o2,o3.2,?_⟩
   show on=decide (¬upd _ _ _ x=0)
   rw[upd_ne (by omega),upd_ne o3.1,t1.M x o3.2]
   exact o4)
 have el:(roC (R8.erase X.2) X.2 c).length=5:=rfl
 refine⟨X.1.length+(5+(3+n4)),s4,go_add _ _ _ _ _ _ g1 (go_add _ _ _ _ _ _ g2 (go_add _ _ _ _ _ _ g3 d1)),?_,?_,d4,?_,?_⟩
 · have:=Nat.mul_le_mul_right (cD.cDs l+13) (times_le (V.ev W r))
   omega
 · rw[d3];simp only[List.length_append,el,hdC,onC,List.length_cons,List.length_nil];omega
 · intro x hx hxw
   simp only[List.mem_cons,not_or]at hxw
   rw[d5 x (by omega) hxw.2]
   show upd _ _ _ x=_
   rw[upd_ne (by omega),upd_ne hxw.1]
   exact t1.M x hxw.2
 · rw[d6]
   dsimp only
   rw[t1.seen,q1]
   simp only[List.append_assoc]
mutual
theorem sim_do{N:Nat}(hN:N<=54):∀(d:Do) {dep:Nat},dep<=2->Sc N dep d->SimD N d
 |.set p n e,dep,hd,h=>sim_set hN hd p n e h
 |.put p n i e,dep,hd,h=>sim_put hN hd p n i e h
 |.ifs p q y n,dep,hd,h=>by
  have h':=h
  unfold Sc at h'
  by_cases c:K.sec q=true
  · exact sim_sec hN hd p q y n h c (sim_dos hN y hd h'.2.1) (sim_dos hN n hd h'.2.2)
  · exact sim_pub hN hd p q y n h c (sim_dos hN y hd h'.2.1) (sim_dos hN n hd h'.2.2)
 |.fors p n r l,dep,hd,h=>by
  have h':=h
  unfold Sc at h'
  exact sim_for hN p n r l h (sim_dos hN l (by omega) h'.2.2.2)
 |.none,dep,hd,h=>by unfold Sc at h;exact h.elim
theorem sim_dos{N:Nat}(hN:N<=54):∀(l:List Do) {dep:Nat},dep<=2->ScL N dep l->SimL N l
 |[],_,_,_=>sim_nil
 |d::l,dep,hd,h=>by
  unfold ScL at h
  exact sim_cons (sim_do hN d hd h.1) (sim_dos hN l hd h.2)
end
def Ag(m:Nat)(A B:List Int):Prop:=A.length=B.length/\∀j,j<m->A.getD j 0=B.getD j 0
theorem Ag.rfl'(m:Nat)(A:List Int):Ag m A A:=⟨rfl,λ_ _=>rfl⟩
theorem Ag.trans{m:Nat}{A B C:List Int}(h:Ag m A B)(k:Ag m B C):Ag m A C:=⟨h.1.trans k.1,λj hj=>(h.2 j hj).trans (k.2 j hj)⟩
theorem ev_ag{m:Nat}{A B:List Int}(h:Ag m A B):∀{e:Ex},V.wfE m e->V.ev A e=V.ev B e
 |.num _,_=>rfl
 |.use n,k=>by
  unfold V.wfE at k
  exact h.2 _ (by omega)
 |.get _ n e,k=>by
  unfold V.wfE at k
  have e1:=ev_ag h k.2.2.2.2
  have:=md_range (V.ev B e) k.2.1 k.2.2.1
  show A.getD _ 0=B.getD _ 0
  rw[e1]
  exact h.2 _ (by omega)
 |.op _ o l r,k=>by
  unfold V.wfE at k
  show V.opf _ _ _=V.opf _ _ _
  rw[ev_ag h k.2.1,ev_ag h k.2.2]
 |.cho _ q y n,k=>by
  unfold V.wfE at k
  show(if _ then _ else _)=(if _ then _ else _)
  rw[ev_ag h k.1,ev_ag h k.2.1,ev_ag h k.2.2]
 |.none,k=>by unfold V.wfE at k;exact k.elim
theorem Ag.set{m:Nat}{A B:List Int}(h:Ag m A B)(k:Nat)(v:Int):Ag m (A.set k v) (B.set k v):=by
 refine⟨by rw[List.length_set,List.length_set];exact h.1,λj hj=>?_⟩
 by_cases e:k=j
 · subst e
   by_cases c:k<A.length
   · rw[getD_set_self c,getD_set_self (by rw[<-h.1];exact c)]
   · rw[List.set_eq_of_length_le (by omega),List.set_eq_of_length_le (by rw[<-h.1];omega)]
     exact h.2 k hj
 · rw[getD_set_ne e,getD_set_ne e];exact h.2 j hj
mutual
theorem rd_off{N:Nat}{j:Nat}(hj:j<N):∀(d:Do) {dep:Nat},Sc N dep d->∀W:List Int,(U.rd false d W).getD j 0=W.getD j 0
 |.set _ n e,dep,h,W=>by rw[U.rd];rfl
 |.put _ n i e,dep,h,W=>by rw[U.rd];rfl
 |.ifs _ q y n,dep,h,W=>by
  unfold Sc at h
  rw[U.rd]
  split
  · rw[Bool.false_and,Bool.false_and,rds_off hj n h.2.2,rds_off hj y h.2.1]
  · split
    · exact rds_off hj n h.2.2 W
    · exact rds_off hj y h.2.1 W
 |.fors _ n r l,dep,h,W=>by
  unfold Sc at h
  rw[U.rd]
  have hk:¬n.place.toNat=j:=by omega
  rw[loop_keep hk (λW=>rds_off hj l h.2.2.2 W),getD_set_ne hk]
 |.none,dep,h,W=>by unfold Sc at h;exact h.elim
theorem rds_off{N:Nat}{j:Nat}(hj:j<N):∀(l:List Do) {dep:Nat},ScL N dep l->∀W:List Int,(U.rds false l W).getD j 0=W.getD j 0
 |[],dep,h,W=>by rw[U.rds]
 |d::l,dep,h,W=>by
  unfold ScL at h
  rw[U.rds,rds_off hj l h.2,rd_off hj d h.1]
end
theorem off_ag{N dep:Nat}{l:List Do}(h:ScL N dep l)(W:List Int):Ag (N+dep) (U.rds false l W) W:=by
 refine⟨rds_len _ _ _,λj hj=>?_⟩
 by_cases c:j<N
 · exact rds_off c l h W
 · exact rds_keep false (by omega) l h hj W
theorem loop_ag{N dep:Nat}{f g:List Int->List Int}{k:Nat}(hk:k=N+dep)(hfl:∀W,(f W).length=W.length)(hf:∀A B,A.length=N+2->Ag (N+(dep+1)) A B->Ag (N+(dep+1)) (f A) (g B))(hd:dep<2):
 ∀(m i:Nat) (A B:List Int),A.length=N+2->Ag (N+dep) A B->A.getD k 0=(i:Nat)->Ag (N+dep) (U.loop f k m i A) (V.rounds g k i m B)
 |0,_,_,_,_,h,_=>h
 |m+1,i,A,B,hA,h,hi=>by
  rw[U.loop,V.rounds]
  have h1:Ag (N+(dep+1)) A (B.set k (i:Int)):=by
   refine⟨by rw[List.length_set];exact h.1,λj hj=>?_⟩
   by_cases e:j<N+dep
   · rw[getD_set_ne (by omega)];exact h.2 j e
   · obtain rfl:j=k:=by omega
     rw[getD_set_self (by rw[<-h.1];omega)];exact hi
  have h2:=hf _ _ hA h1
  refine loop_ag hk hfl hf hd m (i+1) _ _ (by rw[List.length_set,hfl,hA]) ?_ (getD_set_self (by rw[hfl];omega))
  refine⟨by rw[List.length_set];exact h2.1,λj hj=>?_⟩
  rw[getD_set_ne (by omega)]
  exact h2.2 j (by omega)
mutual
theorem rd_ag{N:Nat}:∀(d:Do) {dep:Nat},Sc N dep d->∀A B:List Int,A.length=N+2->Ag (N+dep) A B->Ag (N+dep) (U.rd true d A) (V.rd d B)
 |.set _ n e,dep,h,A,B,hA,ha=>by
  unfold Sc at h
  rw[U.rd,V.rd,if_pos rfl,ev_ag ha h.2.2]
  exact ha.set _ _
 |.put _ n i e,dep,h,A,B,hA,ha=>by
  unfold Sc at h
  rw[U.rd,V.rd,if_pos rfl,ev_ag ha h.2.2.2.2.1,ev_ag ha h.2.2.2.2.2]
  exact ha.set _ _
 |.ifs _ q y n,dep,h,A,B,hA,ha=>by
  unfold Sc at h
  rw[U.rd,V.rd,<-ev_ag ha h.1]
  by_cases c:V.ev A q=0
  · simp only[c,if_true,decide_true,not_true_eq_false,decide_false,Bool.and_false,Bool.and_true]
    split
    · exact rds_ag n h.2.2 _ B (by rw[rds_len];exact hA) ((off_ag h.2.1 A).trans ha)
    · exact rds_ag n h.2.2 _ B hA ha
  · simp only[c,if_false,decide_false,not_false_eq_true,decide_true,Bool.and_false,Bool.and_true]
    split
    · exact(off_ag h.2.2 _).trans (rds_ag y h.2.1 _ B hA ha)
    · exact rds_ag y h.2.1 _ B hA ha
 |.fors _ n r l,dep,h,A,B,hA,ha=>by
  unfold Sc at h
  rw[U.rd,V.rd,<-ev_ag ha h.2.2.1]
  refine loop_ag (by omega) (λW=>rds_len true l W) (λA B=>rds_ag l h.2.2.2 A B) h.2.1 _ 0 _ _ (by rw[List.length_set];exact hA) ?_ (getD_set_self (by omega))
  refine⟨by rw[List.length_set];exact ha.1,λj hj=>?_⟩
  rw[getD_set_ne (by omega)]
  exact ha.2 j hj
 |.none,dep,h,A,B,hA,ha=>by unfold Sc at h;exact h.elim
theorem rds_ag{N:Nat}:∀(l:List Do) {dep:Nat},ScL N dep l->∀A B:List Int,A.length=N+2->Ag (N+dep) A B->Ag (N+dep) (U.rds true l A) (V.rds l B)
 |[],dep,h,A,B,hA,ha=>by rw[U.rds,V.rds];exact ha
 |d::l,dep,h,A,B,hA,ha=>by
  unfold ScL at h
  rw[U.rds,V.rds]
  exact rds_ag l h.2 _ _ (by rw[rd_len];exact hA) (rd_ag d h.1 A B hA ha)
end
def pbE(pub:Nat->Bool):Ex->Prop
 |.num _=>True
 |.use n=>n.sec=false->pub n.place.toNat=true
 |.get _ n e=>(n.sec=false->∀i:Int,0<=i->i<n.size->pub (n.place+i).toNat=true)/\pbE pub e
 |.op _ _ l r=>pbE pub l/\pbE pub r
 |.cho _ q y n=>pbE pub q/\pbE pub y/\pbE pub n
 |.none=>True
def okE:Ex->Prop
 |.num _=>True
 |.use _=>True
 |.get _ _ e=>K.sec e=false/\okE e
 |.op _ o l r=>(o=47->K.sec l=false/\K.sec r=false)/\okE l/\okE r
 |.cho _ q y n=>okE q/\okE y/\okE n
 |.none=>True
mutual
def pbD(pub:Nat->Bool):Do->Prop
 |.set _ n e=>(n.sec=true->pub n.place.toNat=false)/\pbE pub e
 |.put _ n i e=>(n.sec=true->∀i:Int,0<=i->i<n.size->pub (n.place+i).toNat=false)/\pbE pub i/\pbE pub e
 |.ifs _ q y n=>pbE pub q/\pbL pub y/\pbL pub n
 |.fors _ _ r l=>pbE pub r/\pbL pub l
 |.none=>True
def pbL(pub:Nat->Bool):List Do->Prop
 |[]=>True
 |d::l=>pbD pub d/\pbL pub l
end
mutual
def okD:Bool->Do->Prop
 |hid,.set _ n e=>okE e/\(n.sec=true∨hid=false/\K.sec e=false)
 |hid,.put _ n i e=>okE i/\okE e/\K.sec i=false/\(n.sec=true∨hid=false/\K.sec e=false)
 |hid,.ifs _ q y n=>okE q/\okL (hid||K.sec q) y/\okL (hid||K.sec q) n
 |hid,.fors _ _ r l=>K.sec r=false/\okE r/\okL hid l
 |_,.none=>True
def okL:Bool->List Do->Prop
 |_,[]=>True
 |hid,d::l=>okD hid d/\okL hid l
end
end Y
end Go.Proofs.YtejbgcloblpbfaaGreatDoor
