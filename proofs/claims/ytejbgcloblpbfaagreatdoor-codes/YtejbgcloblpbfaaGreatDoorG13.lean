import Derived.Test.YtejbgcloblpbfaaGreatDoorG08
set_option maxHeartbeats 2000000
namespace Go.Proofs.YtejbgcloblpbfaaGreatDoor
open Go.RowKit
open R (Tok tk)
open K (Nm S Scans Ex Do)
theorem set_c{w:World}{b:Nat}{s:ByteArray}{T:List Tok}{J:S}{v:Value}(hS:Scans s T)(h:CR w b s T J v)(hv:K.Vars w)(h2:5<=b)(hvb:∀k,v.ownBlock=some k->5<=k)(hn:J.names.length<=1000)(p:Int)(d0:0<=J.depth)(d1:J.depth<=10):
 Calls Tryz.prog 173 #[PT b,.int .i64 p] w λx w'=>∃u,x=.returned u/\DoIs (From w.heap.size) w' (K.setX T p J).2 u/\CR w' b s T (K.setX T p J).1 v/\ButV b v w w':=by
 have hE:=kexpr_c hS h2 hvb 11
 have hlt:=h.cells.lt
 have k1:=K.step_keeps T J
 have k2:=k1.trans (K.known_keeps T K.canSet (K.step T J))
 have hst:=kstep_c hS h
 have hkn:=fun(w:World) (h':CR w b s T (K.step T J) v)=>known_set hS h' (by rw[k1.names];exact hn)
 have hex:=fun(w:World) (h':CR w b s T (K.known T K.canSet (K.step T J)) v) (hv:K.Vars w)=>hE w _ h' hv (by rw[k2.depth];exact d0) (by rw[k2.depth];exact d1) (by rw[k2.depth];omega) (by rw[k2.names];exact hn)
 have HG:Hid (K.setX T p J=((K.expr T 11 (K.known T K.canSet (K.step T J))).1,.set p (K.knownN T (K.step T J)) (K.expr T 11 (K.known T K.canSet (K.step T J))).2)):=rfl
 generalize K.setX T p J=G at*
 generalize K.expr T 11 (K.known T K.canSet (K.step T J))=E at*
 generalize K.knownN T (K.step T J)=N at*
 generalize K.known T K.canSet (K.step T J)=J2 at*
 generalize K.step T J=J1 at*
 obtain⟨x0,x1,x2,x3,x4⟩:=N
 have HV:Hid (∀w' u,u=Value.iface 178 (.agg #[.int .i64 p,.string x0,.int .i64 x1,.bool x2,.int .i64 x3,.int .i64 x4,exV E.2])->DoIs (From w.heap.size) w' G.2 u):=λw' u e=>by rw[HG.out];unfold DoIs;exact e
 have HG1:Hid (G.1=E.1):=by show _=_;rw[HG.out]
 have hce:=exV_form E.2
 generalize exV E.2=ev at*
 clear HG k1 k2 hE
 unfold nmV at hkn
 dsimp only at*
 rcases hce with⟨et,ex,rfl⟩|rfl
 all_goals
  go_enter Tryz.func173,Tryz.ntmps173
  go_wp2_with fail
  refine hst.mono ?_
  rintro x w1 ⟨rfl,hr1,hb1⟩
  go_wp2_with fail
  refine(hkn _ hr1).mono ?_
  rintro x w2 ⟨rfl,hr2,hb2⟩
  have hr3:=hr2.alloc (.cells #[.string x0,.int .i64 x1,.bool x2,.int .i64 x3,.int .i64 x4] 96 (0,0))
  have nb:=At.alloc_new w2 [.string x0,.int .i64 x1,.bool x2,.int .i64 x3,.int .i64 x4] 96
  have B3:=(hb1.trans hb2).alloc (.cells #[.string x0,.int .i64 x1,.bool x2,.int .i64 x3,.int .i64 x4] 96 (0,0))
  have V3:=hv.but B3 h2 hlt
  have hl2:=hr2.cells.lt
  have hvl2:∀k,v.ownBlock=some k->k≠w2.heap.size:=λk hk=>by have:=(hr2.ne hk).2;omega
  clear hst hkn hr1
  go_upto_region 3 with fail
  go_region_with (go_at_call 205;refine(hex _ hr3.drew V3).mono ?_;rintro x w4 ⟨rfl,hr4,hb4⟩;have nb4:=nb.of_block (hb4.block _ nb.lt (by omega) (λe=>hvl2 _ e rfl));have k0:=nb4.cell 0;have k1:=nb4.cell 1;have k2:=nb4.cell 2;have k3:=nb4.cell 3;have k4:=nb4.cell 4;simp only[List.getElem?_cons_zero,List.getElem?_cons_succ]at k0 k1 k2 k3 k4)
  all_goals
   go_wp2_with fail
   go_ret
   rw[HG1.out]
   exact⟨_,rfl,HV.out _ _ rfl,hr4,((B3.drew).toV v).trans hb4⟩
theorem put_c{w:World}{b:Nat}{s:ByteArray}{T:List Tok}{J:S}{v:Value}(hS:Scans s T)(h:CR w b s T J v)(hv:K.Vars w)(h2:5<=b)(hvb:∀k,v.ownBlock=some k->5<=k)(hn:J.names.length<=1000)(p:Int)(d0:0<=J.depth)(d1:J.depth<=10):
 Calls Tryz.prog 174 #[PT b,.int .i64 p] w λx w'=>∃u,x=.returned u/\DoIs (From w.heap.size) w' (K.putX T p J).2 u/\CR w' b s T (K.putX T p J).1 v/\ButV b v w w':=by
 have hE:=kexpr_c hS h2 hvb 11
 have hlt:=h.cells.lt
 have k1:=K.step_keeps T J
 have k2:=k1.trans (K.known_keeps T K.hasWords (K.step T J))
 have k3:=k2.trans (K.expr_keeps T 11 (K.known T K.hasWords (K.step T J)))
 have hst:=kstep_c hS h
 have hkn:=fun(w:World) (h':CR w b s T (K.step T J) v)=>known_words hS h' (by rw[k1.names];exact hn)
 have hex:=fun(w:World) (h':CR w b s T (K.known T K.hasWords (K.step T J)) v) (hv:K.Vars w)=>hE w _ h' hv (by rw[k2.depth];exact d0) (by rw[k2.depth];exact d1) (by rw[k2.depth];omega) (by rw[k2.names];exact hn)
 have hex2:=fun(w:World) (h':CR w b s T (K.expr T 11 (K.known T K.hasWords (K.step T J))).1 v) (hv:K.Vars w)=>hE w _ h' hv (by rw[k3.depth];exact d0) (by rw[k3.depth];exact d1) (by rw[k3.depth];omega) (by rw[k3.names];exact hn)
 have HG:Hid (K.putX T p J=((K.expr T 11 (K.expr T 11 (K.known T K.hasWords (K.step T J))).1).1,.put p (K.knownN T (K.step T J)) (K.expr T 11 (K.known T K.hasWords (K.step T J))).2 (K.expr T 11 (K.expr T 11 (K.known T K.hasWords (K.step T J))).1).2)):=rfl
 generalize K.putX T p J=G at*
 generalize K.expr T 11 (K.expr T 11 (K.known T K.hasWords (K.step T J))).1=E2 at*
 generalize K.expr T 11 (K.known T K.hasWords (K.step T J))=E at*
 generalize K.knownN T (K.step T J)=N at*
 generalize K.known T K.hasWords (K.step T J)=J2 at*
 generalize K.step T J=J1 at*
 obtain⟨x0,x1,x2,x3,x4⟩:=N
 have HV:Hid (∀w' u,u=Value.iface 181 (.agg #[.int .i64 p,.string x0,.int .i64 x1,.bool x2,.int .i64 x3,.int .i64 x4,exV E.2,exV E2.2])->DoIs (From w.heap.size) w' G.2 u):=λw' u e=>by rw[HG.out];unfold DoIs;exact e
 have HG1:Hid (G.1=E2.1):=by show _=_;rw[HG.out]
 have f1:=exV_form E.2
 have f2:=exV_form E2.2
 generalize exV E.2=ev at*
 generalize exV E2.2=ev2 at*
 clear HG k1 k2 k3 hE
 unfold nmV at hkn
 dsimp only at*
 rcases f1 with⟨et,ex,rfl⟩|rfl<;>rcases f2 with⟨et2,ex2,rfl⟩|rfl
 all_goals
  go_enter Tryz.func174,Tryz.ntmps174
  go_wp2_with fail
  refine hst.mono ?_
  rintro x w1 ⟨rfl,hr1,hb1⟩
  go_wp2_with fail
  refine(hkn _ hr1).mono ?_
  rintro x w2 ⟨rfl,hr2,hb2⟩
  have hr3:=hr2.alloc (.cells #[.string x0,.int .i64 x1,.bool x2,.int .i64 x3,.int .i64 x4] 96 (0,0))
  have nb:=At.alloc_new w2 [.string x0,.int .i64 x1,.bool x2,.int .i64 x3,.int .i64 x4] 96
  have B3:=(hb1.trans hb2).alloc (.cells #[.string x0,.int .i64 x1,.bool x2,.int .i64 x3,.int .i64 x4] 96 (0,0))
  have V3:=hv.but B3 h2 hlt
  have hl2:=hr2.cells.lt
  have hvl2:∀k,v.ownBlock=some k->k≠w2.heap.size:=λk hk=>by have:=(hr2.ne hk).2;omega
  clear hst hkn hr1
  go_wp2_with fail
  refine(hex _ hr3 V3).mono ?_
  rintro x w4 ⟨rfl,hr4,hb4⟩
  have nb4:=nb.of_block (hb4.block _ nb.lt (by omega) (λe=>hvl2 _ e rfl))
  have V4:=V3.butV hb4 h2 hr3.cells.lt hvb
  have j0:=nb4.cell 0
  have j1:=nb4.cell 1
  have j2:=nb4.cell 2
  have j3:=nb4.cell 3
  have j4:=nb4.cell 4
  simp only[List.getElem?_cons_zero,List.getElem?_cons_succ]at j0 j1 j2 j3 j4
  have nl4:=nb4.lt
  go_upto_region 4 with fail
  go_region_with (go_at_call 205;refine(hex2 _ hr4.drew V4).mono ?_;rintro x w5 ⟨rfl,hr5,hb5⟩;have nb5:=nb4.of_block (hb5.block _ nl4 (by omega) (λe=>hvl2 _ e rfl));have k0:=nb5.cell 0;have k1:=nb5.cell 1;have k2:=nb5.cell 2;have k3:=nb5.cell 3;have k4:=nb5.cell 4;simp only[List.getElem?_cons_zero,List.getElem?_cons_succ]at k0 k1 k2 k3 k4)
  all_goals
   go_wp2_with fail
   go_ret
   rw[HG1.out]
   exact⟨_,rfl,HV.out _ _ rfl,hr5,((B3.toV v).trans hb4).trans (((But.refl b _).drew.toV v).trans hb5)⟩
structure KB(J:S):Prop where
 d0:0<=J.depth
 l0:0<=J.loops
 nm:(J.names.length:Int)<=900+J.loops
theorem KB.keeps{J J':S}(h:KB J)(k:K.Keeps J J'):KB J':=by
 obtain⟨a,b,c⟩:=h
 exact⟨by rw[k.depth];exact a,by rw[k.loops];exact b,by rw[k.names,k.loops];exact c⟩
theorem KB.opened{T:List Tok}{J:S}(h:KB J):KB (K.opened T J):=by
 have k:=h.keeps (K.op2_keeps T J)
 exact⟨by have:=K.opened_depth T J;have:=h.d0;omega,k.l0,k.nm⟩
def Few(J:S):Prop:=0<=J.words/\J.words<=100000
theorem Few.keeps{J J':S}(h:Few J)(k:K.Keeps J J'):Few J':=by unfold Few;rw[k.words];exact h
def Live(T:List Tok)(f:Nat)(J:S):Prop:=(J.depth<=10/\11-J.depth<=f/\J.loops<=2/\Few J)∨(J.i=T.length-1/\J.depth<=11/\J.loops<=3)
theorem Live.opened{T:List Tok}{f:Nat}{J:S}(d1:J.depth<=10)(df:10-J.depth<=f)(l1:J.loops<=2)(hw:Few J):Live T f (K.opened T J):=by
 have e:=K.opened_depth T J
 have l:(K.opened T J).loops=J.loops:=(K.op2_keeps T J).loops
 by_cases h:J.depth=10
 · exact Or.inr ⟨K.opened_deep h,by omega,by omega⟩
 · exact Or.inl ⟨by omega,by omega,by omega,(hw.keeps (K.op2_keeps T J):Few (K.op2 T J))⟩
def DosK(b:Nat)(s:ByteArray)(T:List Tok)(f:Nat):Prop:=∀(w:World) (J:S) (v:Value),CR w b s T J v->K.Vars w->(∀k,v.ownBlock=some k->5<=k)->KB J->Live T f J→
 Calls Tryz.prog 106 #[PT b] w λx w'=>∃u us,x=.returned u/\DRow (From w.heap.size) w' u us/\Each (From w.heap.size) w' (K.dos T f J).2 us/\CR w' b s T (K.dos T f J).1 v/\ButV b v w w'
def DosIs(B:Nat)(l:List Do)(w:World)(u:Value):Prop:=∃us,DRow (From B) w u us/\Each (From B) w l us
theorem side_c{w:World}{b:Nat}{s:ByteArray}{T:List Tok}{J:S}{v:Value}{f:Nat}(hD:DosK b s T f)(h:CR w b s T J v)(hv:K.Vars w)(hvb:∀k,v.ownBlock=some k->5<=k)(hk:KB J)(hl:Live T f J)(p:Int):
 Calls Tryz.prog 208 #[PT b,.int .i64 p] w λx w'=>∃u,x=.returned u/\DosIs w.heap.size (K.dos T f J).2 w' u/\CR w' b s T (K.dos T f J).1 v/\ButV b v w w':=by
 have hd:=hD w J v h hv hvb hk hl
 generalize K.dos T f J=D at*
 go_enter Tryz.func208,Tryz.ntmps208
 go_wp2_with fail
 refine hd.mono ?_
 rintro x w' ⟨u,us,rfl,h1,h2,h3,h4⟩
 go_wp2_with fail
 go_ret
 exact⟨u,rfl,⟨us,h1,h2⟩,h3,h4⟩
theorem bracket_c{w:World}{b:Nat}{s:ByteArray}{T:List Tok}{J:S}{v:Value}{f:Nat}(hS:Scans s T)(h2:5<=b)(hD:DosK b s T f)(h:CR w b s T J v)(hv:K.Vars w)(hvb:∀k,v.ownBlock=some k->5<=k)(hk:KB J)(d1:J.depth<=10)(df:10-J.depth<=f)(l1:J.loops<=2)(hw:Few J):
 Calls Tryz.prog 207 #[PT b,.func (.func 208) #[PT b] #[]] w λx w'=>∃u,x=.returned u/\DosIs w.heap.size (K.brk T (K.dos T f) J).2 w' u/\CR w' b s T (K.brk T (K.dos T f) J).1 v/\ButV b v w w':=by
 have hlt:=h.cells.lt
 have hvl:∀k,v.ownBlock=some k->k<w.heap.size:=λk hk=>(h.ne hk).2
 exact inBr_side hS h hk.d0 (by omega) (J4:=(K.dos T f (K.opened T J)).1) (by rw[(K.dos_keeps T f _).depth,K.opened_depth]) (DosIs w.heap.size (K.dos T f (K.opened T J)).2)
  (λw1 h1 hb1=>(side_c hD h1 (hv.but hb1 h2 hlt) hvb hk.opened (Live.opened d1 df l1 hw) _).mono (by
    rintro x w' ⟨u,rfl,⟨us,r1,r2⟩,h3,h4⟩
    exact⟨u,rfl,⟨us,r1.lower (From.le hb1.size),r2.lower (From.le hb1.size)⟩,h3,h4⟩))
  (λw1 w2 rv _ hb ⟨us,r1,r2⟩=>⟨us,r1.keep (hb.keeps hlt hvl),r2.keep (hb.keeps hlt hvl)⟩)
theorem branch_c{w:World}{b:Nat}{s:ByteArray}{T:List Tok}{J:S}{v:Value}{f:Nat}(hS:Scans s T)(h2:5<=b)(hD:DosK b s T f)(h:CR w b s T J v)(hv:K.Vars w)(hvb:∀k,v.ownBlock=some k->5<=k)(hk:KB J)(d1:J.depth<=10)(df:10-J.depth<=f)(l1:J.loops<=2)(hw:Few J)(p:Int):
 Calls Tryz.prog 175 #[PT b,.int .i64 p] w λx w'=>∃u,x=.returned u/\DoIs (From w.heap.size) w' (K.ifX T (K.dos T f) p J).2 u/\CR w' b s T (K.ifX T (K.dos T f) p J).1 v/\ButV b v w w':=by
 have hmf:∀(fn:Fn) (first cap:Array Value) (w:World),(Instr.makeFunc fn first cap).run Tryz.prog w=.ok (.func fn first cap) w:=λ_ _ _ _=>rfl
 have hE:=kexpr_c hS h2 hvb 11
 have hlt:=h.cells.lt
 have hvl:∀k,v.ownBlock=some k->k<w.heap.size:=λk hk=>(h.ne hk).2
 have k1:=K.step_keeps T J
 have hst:=kstep_c hS h
 have hnn:J.names.length<=1000:=by have:=hk.nm;omega
 have d0:=hk.d0
 have hex:=fun(w:World) (h':CR w b s T (K.step T J) v) (hv:K.Vars w)=>hE w _ h' hv (by rw[k1.depth];exact d0) (by rw[k1.depth];exact d1) (by rw[k1.depth];omega) (by rw[k1.names];exact hnn)
 have k2:=k1.trans (K.expr_keeps T 11 (K.step T J))
 have hb1:=fun(w:World) (h':CR w b s T (K.expr T 11 (K.step T J)).1 v) (hv:K.Vars w)=>bracket_c hS h2 hD h' hv hvb (hk.keeps k2) (by rw[k2.depth];exact d1) (by rw[k2.depth];exact df) (by rw[k2.loops];exact l1) (hw.keeps k2)
 have k3:=k2.trans (K.brk_keeps (T:=T) (λJ=>K.dos_keeps T f J) (K.expr T 11 (K.step T J)).1)
 have hb2:=fun(w:World) (h':CR w b s T (K.brk T (K.dos T f) (K.expr T 11 (K.step T J)).1).1 v) (hv:K.Vars w)=>bracket_c hS h2 hD h' hv hvb (hk.keeps k3) (by rw[k3.depth];exact d1) (by rw[k3.depth];exact df) (by rw[k3.loops];exact l1) (hw.keeps k3)
 have HG:Hid (K.ifX T (K.dos T f) p J=((K.brk T (K.dos T f) (K.brk T (K.dos T f) (K.expr T 11 (K.step T J)).1).1).1,.ifs p (K.expr T 11 (K.step T J)).2 (K.brk T (K.dos T f) (K.expr T 11 (K.step T J)).1).2 (K.brk T (K.dos T f) (K.brk T (K.dos T f) (K.expr T 11 (K.step T J)).1).1).2)):=rfl
 generalize K.ifX T (K.dos T f) p J=G at*
 generalize K.brk T (K.dos T f) (K.brk T (K.dos T f) (K.expr T 11 (K.step T J)).1).1=N2 at*
 generalize K.brk T (K.dos T f) (K.expr T 11 (K.step T J)).1=Y2 at*
 generalize K.expr T 11 (K.step T J)=E at*
 generalize K.step T J=J1 at*
 have HG1:Hid (G.1=N2.1):=by show _=_;rw[HG.out]
 have HV:Hid (∀w' yv nv,DosIs w.heap.size Y2.2 w' yv->DosIs w.heap.size N2.2 w' nv->DoIs (From w.heap.size) w' G.2 (Value.iface 184 (.agg #[.int .i64 p,exV E.2,yv,nv]))):=λw' yv nv ⟨ys,a1,a2⟩ ⟨ns,b1,b2⟩=>by
  rw[HG.out];unfold DoIs;exact⟨yv,nv,ys,ns,rfl,a1,a2,b1,b2⟩
 have f1:=exV_form E.2
 generalize exV E.2=ev at*
 clear HG k1 k2 k3 hE hD d0 hk
 rcases f1 with⟨et,ex,rfl⟩|rfl
 all_goals
  go_enter Tryz.func175,Tryz.ntmps175
  go_wp2_with fail
  refine hst.mono ?_
  rintro x w1 ⟨rfl,hr1,hbb1⟩
  have V1:=hv.but hbb1 h2 hlt
  go_wp2_with fail
  refine(hex _ hr1 V1).mono ?_
  rintro x w2 ⟨rfl,hr2,hbb2⟩
  have V2:=V1.butV hbb2 h2 hr1.cells.lt hvb
  have B2:=(hbb1.toV v).trans hbb2
  go_wp2_with fail
  refine(hb1 _ hr2 V2).mono ?_
  rintro x w3 ⟨yv,rfl,⟨ys,y1,y2⟩,hr3,hbb3⟩
  have V3:=V2.butV hbb3 h2 hr2.cells.lt hvb
  obtain⟨ya,yn,yc,rfl⟩:=y1.form
  go_wp2_with fail
  refine(hb2 _ hr3 V3).mono ?_
  rintro x w4 ⟨nv,rfl,⟨ns,n1,n2⟩,hr4,hbb4⟩
  obtain⟨na,nn,nc,rfl⟩:=n1.form
  have B3:=B2.trans hbb3
  go_wp2_with fail
  go_ret
  rw[HG1.out]
  exact⟨_,rfl,HV.out _ _ _ ⟨ys,(y1.lower (From.le B2.size)).keep (hbb4.keeps hlt hvl),(y2.lower (From.le B2.size)).keep (hbb4.keeps hlt hvl)⟩ ⟨ns,n1.lower (From.le B3.size),n2.lower (From.le B3.size)⟩,hr4,B3.trans hbb4⟩
end Go.Proofs.YtejbgcloblpbfaaGreatDoor
