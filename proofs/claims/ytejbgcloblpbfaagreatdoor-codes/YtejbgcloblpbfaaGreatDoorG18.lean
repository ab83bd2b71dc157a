import Derived.Deep.DeepAppendRoom
import Derived.OwnWalk
import Derived.Test.YtejbgcloblpbfaaGreatDoorG14
set_option maxHeartbeats 4000000
set_option maxRecDepth 100000
namespace Go.Proofs.YtejbgcloblpbfaaGreatDoor
section
open Go.RowKit
open K (Nm Ex Do)
theorem gd_putF(p:Int)(n:Nm)(i e:Ex)(hgi:K.good i=true)(hg:K.good e=true)(hq:K.sec i=false):GdDoes (.put p n i e):=by
 intro B w b g u hid h hd hB
 unfold DoIs at hd
 subst hd
 have a1:=ad_Put_Set
 have a2:=ad_Put_Put
 have hlt:=h.lt
 have hm:=sec_method i hgi
 have hna:=sec_ahead i hgi
 have hen:=sec_enter i hgi
 have hs:=sec_c i hgi
 unfold SecDoes at hs
 have HK:Hid (K.gd hid (.put p n i e) g=K.gx e (K.gx i (K.note p (K.sec i||K.tells n e hid) g))):=by show _=_;rw[K.gd]
 have ht:=λw=>tells_c n e hid hg w
 have hn:=fun(w:World) (h':GAt w b g)=>note_c h' p (K.sec i||K.tells n e hid)
 have hx:=fun(w:World) (h':GAt w b (K.note p (K.sec i||K.tells n e hid) g))=>gx_c i hgi w b _ h'
 have hx2:=fun(w:World) (h':GAt w b (K.gx i (K.note p (K.sec i||K.tells n e hid) g)))=>gx_c e hg w b _ h'
 rw[exV_good hgi]at hx ⊢
 rw[exV_good hg]at hx2 ht ⊢
 unfold nmV at ht
 generalize K.gd hid (.put p n i e) g=G at*
 generalize K.gx e (K.gx i (K.note p (K.sec i||K.tells n e hid) g))=G3 at*
 generalize K.gx i (K.note p (K.sec i||K.tells n e hid) g)=G2 at*
 generalize K.note p (K.sec i||K.tells n e hid) g=g1 at*
 generalize K.tells n e hid=q at*
 generalize K.sec i=qi at*
 generalize exT i=ti at*
 generalize exP i=xi at*
 generalize exM i=mi at*
 generalize exT e=t at*
 generalize exP e=x at*
 obtain⟨x0,x1,x2,x3,x4⟩:=n
 dsimp only at*
 have h0:=h.alloc (.cells #[.int .i64 p,.string x0,.int .i64 x1,.bool x2,.int .i64 x3,.int .i64 x4,.iface ti xi,.iface t x] 181 (0,0))
 have bx:=At.alloc_new w [.int .i64 p,.string x0,.int .i64 x1,.bool x2,.int .i64 x3,.int .i64 x4,.iface ti xi,.iface t x] 181
 have B0:But b w (w.alloc (.cells #[.int .i64 p,.string x0,.int .i64 x1,.bool x2,.int .i64 x3,.int .i64 x4,.iface ti xi,.iface t x] 181 (0,0))):=(But.refl b w).alloc _
 have nq:w.heap.size≠b:=by omega
 subst hq
 rw[Bool.false_or]at hn
 go_enter Tryz.func108,Tryz.ntmps108
 go_upto_region 7 with fail
 first |go_region_with (first |(go_at_call 142;refine(hn _ h1').mono ?_;rintro y w2 ⟨rfl,h2,hb2⟩;have bx2:=bx1'.of_block (hb2.block _ bx1'.lt nq);have k6:=bx2.cell 6;simp only[List.getElem?_cons_zero,List.getElem?_cons_succ]at k6)|(go_at_call 143;refine(ht _).mono ?_;rintro y w1' ⟨rfl,hb1'⟩;have h1':GAt w1' b g:=h1.of_block (hb1'.block _ h1.lt);have bx1':=bx1.of_block (hb1'.block _ bx1.lt);have k0':=bx1'.cell 0;simp only[List.getElem?_cons_zero]at k0')|(refine(hs _).mono ?_;rintro y w1 ⟨rfl,hb1⟩;have h1:GAt w1 b g:=h0.of_block (hb1.block _ h0.lt);have bx1:At w1 w.heap.size 181 [.int .i64 p,.string x0,.int .i64 x1,.bool x2,.int .i64 x3,.int .i64 x4,.iface ti xi,.iface t x]:=bx.of_block (hb1.block _ bx.lt);have k0:=bx1.cell 0;have k1:=bx1.cell 1;have k2:=bx1.cell 2;have k3:=bx1.cell 3;have k4:=bx1.cell 4;have k5:=bx1.cell 5;have k7:=bx1.cell 7;simp only[List.getElem?_cons_zero,List.getElem?_cons_succ]at k0 k1 k2 k3 k4 k5 k7))|fail
 all_goals
  have B2:=((B0.drew.below hb1).below hb1').trans hb2
  go_wp2_with fail
  refine(hx _ h2).mono ?_
  rintro y w3 ⟨rfl,h3,hb3⟩
  have bx3:=bx2.of_block (hb3.block _ bx2.lt nq)
  have k7:=bx3.cell 7
  simp only[List.getElem?_cons_zero,List.getElem?_cons_succ]at k7
  go_wp2_with fail
  refine(hx2 _ h3).mono ?_
  rintro y w4 ⟨rfl,h4,hb4⟩
  go_wp2_with fail
  go_end0
  rw[HK.out]
  exact⟨rfl,h4,(B2.trans hb3).trans hb4⟩
end
section
namespace R
theorem fail_no{e p:Int}{J:PS}(he:e≠0):(fail e p J).err≠0:=by
 unfold fail
 split
 · exact he
 · assumption
theorem dSize_none{T:List Tok}{k:Int}{J J':PS}(h:dSize T k J=(J',none)):J'.err≠0:=by
 unfold dSize at h
 split at h
 · split at h
   · simp at h
   · simp only[Prod.mk.injEq]at h
     rw[<-h.1]
     exact fail_no (by decide)
 · simp at h
theorem dSize_bd{T:List Tok}{k:Int}{J J':PS}{n:Int}(h:dSize T k J=(J',some n)):1<=n/\n<=6:=by
 unfold dSize at h
 split at h
 · split at h
   · rename_i _ hs
     simp only[Prod.mk.injEq,Option.some.injEq]at h
     unfold isSize at hs
     simp only[Bool.and_eq_true,decide_eq_true_eq]at hs
     omega
   · simp at h
 · simp only[Prod.mk.injEq,Option.some.injEq]at h
   omega
theorem decl_db{T:List Tok}{m:Nat}{J:PS}(h:DB m J)(hm:m<=8)(he:(decl T J).err=0):m<8/\DB (m+1) (decl T J):=by
 obtain⟨d1,d2,d3,d4,d5,d6,d7⟩:=h
 have o1:=opens_core T J
 have hsz:(opens T J).size=J.size:=congrArg (λc=>c.2.2.1) o1.1
 have hse:(opens T J).seen=J.seen:=congrArg (λc=>c.1) o1.1
 have hsh:(opens T J).shape=J.shape:=congrArg (λc=>c.2.2.2.1) o1.1
 have hnm:(opens T J).names=J.names:=congrArg (λc=>c.2.1) o1.1
 have hlo:(opens T J).loops=J.loops:=congrArg (λc=>c.2.2.2.2.1) o1.1
 have hhi:(opens T J).hidden=J.hidden:=congrArg (λc=>c.2.2.2.2.2.1) o1.1
 have hno:=o1.2.1
 have hne:=o1.2.2.2
 unfold decl at he ⊢
 split at he
 · exact absurd he (fail_no (by decide))
 · rename_i h8
   rw[if_neg h8]
   refine⟨by omega,?_⟩
   clear o1
   generalize opens T J=J1 at*
   unfold declIn at he ⊢
   dsimp only at he ⊢
   have s1:=take_same T J1
   have s2:=dHead_same T (tk T J1.i) (take T J1)
   generalize dHead T (tk T J1.i) (take T J1)=H at*
   have s3:=fresh_same T H.1
   have s4:=dSize_same T H.2.1 (fresh T H.1)
   obtain⟨J6,z,hz⟩:∃J6 z,dSize T H.2.1 (fresh T H.1)=(J6,z):=⟨_,_,rfl⟩
   rw[hz]at he s4 ⊢
   have sm:=((s1.tr s2).tr s3).tr s4
   cases z with
   |none=>exact absurd he (dSize_none hz)
   |some n=>
    dsimp only at he sm ⊢
    have hn:=dSize_bd hz
    have sk:=shut_core T J6
    have hsz6:J6.size=J1.size:=congrArg (λc=>c.2.2.1) sm.core
    have hse6:J6.seen=J1.seen:=congrArg (λc=>c.1) sm.core
    have hsh6:J6.shape=J1.shape:=congrArg (λc=>c.2.2.2.1) sm.core
    have hnm6:J6.names=J1.names:=congrArg (λc=>c.2.1) sm.core
    have hlo6:J6.loops=J1.loops:=congrArg (λc=>c.2.2.2.2.1) sm.core
    have hhi6:J6.hidden=J1.hidden:=congrArg (λc=>c.2.2.2.2.2.1) sm.core
    have hsz7:(shut T J6).size=J6.size:=congrArg (λc=>c.2.2.1) sk.1
    have hse7:(shut T J6).seen=J6.seen:=congrArg (λc=>c.1) sk.1
    have hsh7:(shut T J6).shape=J6.shape:=congrArg (λc=>c.2.2.2.1) sk.1
    have hnm7:(shut T J6).names=J6.names:=congrArg (λc=>c.2.1) sk.1
    have hlo7:(shut T J6).loops=J6.loops:=congrArg (λc=>c.2.2.2.2.1) sk.1
    have hhi7:(shut T J6).hidden=J6.hidden:=congrArg (λc=>c.2.2.2.2.2.1) sk.1
    have hno7:=sk.2.1
    have hne7:=sk.2.2.1
    have hne6:=sm.nest
    have hno6:=sm.nodes
    clear sk sm
    generalize shut T J6=J7 at*
    refine⟨?_,?_,?_,?_,?_,?_,?_⟩
    · show J7.nest=0;omega
    · show J7.names+1=((m+1:Nat):Int);omega
    · show 0<=J7.size+n/\J7.size+n<=6*((m+1:Nat):Int);omega
    · show(J7.seen++[_]).length=m+1
      rw[hse7,hse6,hse];simp[d4]
    · show((J7.shape++List.replicate n.toNat _).length:Int)=J7.size+n
      rw[hsh7,hsh6,hsh,List.length_append,List.length_replicate]
      omega
    · show J7.nodes=[]
      rw[hno7,hno6,hno,d6]
    · show J7.loops=0/\J7.hidden=0
      omega
theorem decls_stop{T:List Tok}{m:Nat}{Jk:PS}(h:¬(Jk.err=0/\(tk T Jk.i).s.toList=[40]/\isDecl (tk T (Jk.i+1)).s.toList=true)):decls T m Jk=Jk:=by
 cases m with
 |zero=>rfl
 |succ m=>rw[decls,if_neg h]
end R
end
section
open Go.RowKit
open K (Nm)
namespace K
def shape(l:List Nm):List Bool:=l.flatMap λn=>List.replicate n.size.toNat n.sec
end K
theorem nms_row{w:World}{v:Value}{ns:List Nm}(h:w.ownsRow 0 96 5 v ns.length (ns.flatMap nmCells)):
 (v=.slice none 0 0/\ns.length=0)∨∃g cap,v=.slice (some ⟨g,0,none⟩) ns.length cap/\g<w.heap.size/\∀(i:Nat) (hi:i<ns.length) (j:Nat),j<5->w.cell? ⟨g,i*5+j,none⟩=(nmCells ns[i])[j]?:=by
 by_cases h0:ns.length=0
 · obtain⟨hl,h' |⟨g,cap,cur,hv,_,hg,hc,_,hs,hx⟩⟩:=h
   · exact Or.inl h'
   · exact Or.inr ⟨g,cap,hv,heap_lt hg,λi hi=>by omega⟩
 · obtain⟨g,cap,hv,hg,_⟩:=row_cell nmCells (λ_=>rfl) h (i:=0) (List.getElem?_eq_getElem (by omega))
   refine Or.inr ⟨g,cap,hv,hg,λi hi j hj=>?_⟩
   obtain⟨g',cap',hv',hg',hc⟩:=row_cell nmCells (λ_=>rfl) h (i:=i) (List.getElem?_eq_getElem hi)
   rw[hv]at hv'
   simp only[Value.slice.injEq,Option.some.injEq,Addr.mk.injEq]at hv'
   rw[hv'.1.1]
   exact hc j hj
end
section
open Go.RowKit
open R (Tok tk)
open K (Nm S Scans Ex Do)
theorem program_k{w:World}{b:Nat}{s:ByteArray}{T:List Tok}(hS:Scans s T)(h2:5<=b)(h:CR w b s T K.start (.slice none 0 0))(hv:K.Vars w)(hT8:T.length<=850):
 Calls Tryz.prog 73 #[PT b] w λx w'=>∃nv dv us,x=.returned (.agg #[nv,.int .i64 (K.progS T).words,dv])/\CR w' b s T (K.progS T) nv/\DRow (From w.heap.size) w' dv us/\Each (From w.heap.size) w' (K.progD T) us/\But b w w':=by
 have hmf:∀(fn:Fn) (first cap:Array Value) (w:World),(Instr.makeFunc fn first cap).run Tryz.prog w=.ok (.func fn first cap) w:=λ_ _ _ _=>rfl
 have tks:=tok_s
 obtain⟨i0,hi,hz0,hz1,hz2⟩:=info_parts info_name
 have hlt:=h.cells.lt
 have hTf:=hS.few
 have hTp:=hS.pos
 have HP0:Hid (K.prog0 T=K.declsL T T.length K.start):=rfl
 have h0:=h.alloc (.cells #[.slice none 0 0,.int .i64 0,.slice none 0 0] 84 (0,0))
 have r0:=At.alloc_new w [.slice none 0 0,.int .i64 0,.slice none 0 0] 84
 have B0:But b w (w.alloc (.cells #[.slice none 0 0,.int .i64 0,.slice none 0 0] 84 (0,0))):=(But.refl b w).alloc _
 go_enter Tryz.func73,Tryz.ntmps73
 go_upto_block 0 with fail
 generalize w.alloc (.cells #[.slice none 0 0,.int .i64 0,.slice none 0 0] 84 (0,0))=W0 at*
 go_cut [3] (λ_ wr=>∃k v,Hid (∀j,v.ownBlock=some j->w.heap.size<j)/\PB T k (K.prog0 T)/\k<=850/\CR wr b s T (K.prog0 T) v/\But b w wr/\At wr w.heap.size 84 [.slice none 0 0,.int .i64 0,.slice none 0 0])
 case first=>
  go_wp2_with fail
  go_loopg [3] (T.length+1) (λgk _ wr=>∃(k:Nat) (Jk:S) (v:Value),Hid (K.prog0 T=K.declsL T (T.length-k) Jk)/\k<=Jk.i/\T.length-Jk.i<=gk/\PB T k Jk/\Hid (∀j,v.ownBlock=some j->w.heap.size<j)/\CR wr b s T Jk v/\But b w wr/\At wr w.heap.size 84 [.slice none 0 0,.int .i64 0,.slice none 0 0])
  case atStart=>exact⟨0,K.start,_,HP0,Nat.zero_le _,by omega,start_pb T,λj hj=>by simp[Value.ownBlock]at hj,h0,B0,r0⟩
  case round=>
   obtain⟨k,Jk,v,HA,hki,hgi,hpb,HO,hrk,Bk,rk⟩:=hrel
   clear h0 B0 r0
   have c1:=hrk.c 1 _ rfl
   have hit:=hrk.lt
   have hpk:=kpeek_c hS hrk
   have hbd:=λw=>beginsDecl_c (tk T (K.nx T Jk.i)).s w
   have hblt:=hrk.cells.lt
   cases e40:K.isW [40] (tk T Jk.i)with
   |false=>
    have HX:=hide (HA.out.trans (declsL_stop (by unfold K.isDcl;rw[e40];rfl)))
    have e':((tk T Jk.i).s.toList==[40])=false:=e40
    clear HA e40
    generalize tk T Jk.i=t at*
    go_wp2_with fail
    go_meet
    case rel=>rw[HX.out];exact⟨k,v,HO,hpb,by omega,hrk,Bk,rk⟩
   |true=>
    have e':((tk T Jk.i).s.toList==[40])=true:=e40
    cases ed:R.isDecl (tk T (K.nx T Jk.i)).s.toList with
    |false=>
     have HX:=hide (HA.out.trans (declsL_stop (by unfold K.isDcl;rw[e40,ed];rfl)))
     rw[ed]at hbd
     clear HA e40 ed
     generalize tk T Jk.i=t at*
     generalize tk T (K.nx T Jk.i)=t2 at*
     go_wp2_with fail
     refine hpk.mono ?_
     rintro x w5 ⟨rfl,hr5,hb5⟩
     have rk5:=rk.of_block (hb5.block _ rk.lt (by omega))
     go_wp2_with (go_at_call 102;refine(hbd _).mono ?_;rintro x w' ⟨rfl,rfl⟩)
     go_meet
     case rel=>rw[HX.out];exact⟨k,v,HO,hpb,by omega,hr5,Bk.trans hb5,rk5⟩
    |true=>
     have hil:¬Jk.i=T.length-1:=λhh=>by
      rw[hh,hS.last]at e40
      unfold K.isW at e40
      dsimp only at e40
      rw[emptyL]at e40
      exact absurd e40 (by decide)
     have HA':=declsL_step HA (by omega) (by unfold K.isDcl;rw[e40,ed];rfl)
     have ov:=K.dcl_over (J:=Jk) (by omega) e40
     have pb':=hpb.next hTp (by omega) hil
     have hnl:Jk.names.length<=1000:=by rw[hpb.names];omega
     have hdc:=fun(w:World) (h':CR w b s T Jk v) (hv:K.Vars w)=>dcl_k hS h2 h' hv (by rw[hpb.depth];omega) (by rw[hpb.depth];omega) hnl
     have kpd:=K.dcl_keeps T Jk
     have HN:=hide (show(K.dcl T Jk).names=Jk.names from kpd.names)
     rw[ed]at hbd
     have HAD:Hid (∀N,K.adds N (K.dcl T Jk)={K.dcl T Jk with names:=(K.dcl T Jk).names++[N],words:=IntKind.i64.wrap ((K.dcl T Jk).words+N.size)}):=λ_=>rfl
     clear HA e40 ed hpb kpd
     generalize K.dcl T Jk=Jd at*
     generalize K.dclN T Jk=N at*
     generalize tk T Jk.i=t at*
     generalize tk T (K.nx T Jk.i)=t2 at*
     obtain⟨x0,x1,x2,x3,x4⟩:=N
     unfold nmV at hdc
     dsimp only at*
     go_wp2_with fail
     refine hpk.mono ?_
     rintro x w5 ⟨rfl,hr5,hb5⟩
     have rk5:=rk.of_block (hb5.block _ rk.lt (by omega))
     have B5:=Bk.trans hb5
     have V5:=hv.but B5 h2 hlt
     clear hpk c1 hrk Bk rk
     go_wp2_with (go_at_call 102;refine(hbd _).mono ?_;rintro x w' ⟨rfl,rfl⟩)
     refine(hdc _ hr5 V5).mono ?_
     rintro x w6 ⟨rfl,hr6,hb6⟩
     have rk6:=rk5.of_block (hb6.block _ rk5.lt (by omega))
     have B6:=B5.trans hb6
     have hnl6:Jd.names.length<=1000:=by rw[HN.out];exact hnl
     clear hdc hbd hr5 hb5 rk5 B5 V5 hb6
     go_upto_region 3 with fail
     have hr7:=hr6.alloc (.cells #[.string x0,.int .i64 x1,.bool x2,.int .i64 x3,.int .i64 x4] 96 (0,0))
     have a7:=At.alloc_new w6 [.string x0,.int .i64 x1,.bool x2,.int .i64 x3,.int .i64 x4] 96
     have rk7:=rk6.alloc (.cells #[.string x0,.int .i64 x1,.bool x2,.int .i64 x3,.int .i64 x4] 96 (0,0))
     have B7:=B6.alloc (.cells #[.string x0,.int .i64 x1,.bool x2,.int .i64 x3,.int .i64 x4] 96 (0,0))
     have nv6:∀j,v.ownBlock=some j->j<w6.heap.size:=λj e=>(hr6.ne e).2
     have nb6:=hr6.cells.lt
     generalize w6.alloc (.cells #[.string x0,.int .i64 x1,.bool x2,.int .i64 x3,.int .i64 x4] 96 (0,0))=W7 at*
     generalize w6.heap.size=Z at*
     obtain⟨va,vc,hvv⟩:=hr7.len
     subst hvv
     have hone:∀u∈[Value.string x0,.int .i64 x1,.bool x2,.int .i64 x3,.int .i64 x4],u.oneCell'=true:=by
      intro u hu
      simp only[List.mem_cons,List.not_mem_nil,or_false]at hu
      rcases hu with rfl |rfl |rfl |rfl |rfl<;>rfl
     go_cut []from 21 to 30 (λwr=>∃gg cap3,CR wr b s T {Jd with names:=Jd.names++[⟨x0,x1,x2,x3,x4⟩]} (.slice (some ⟨gg,0,none⟩) (Jd.names.length+1) cap3)/\w.heap.size<gg/\At wr Z 96 [.string x0,.int .i64 x1,.bool x2,.int .i64 x3,.int .i64 x4]/\At wr w.heap.size 84 [.slice none 0 0,.int .i64 0,.slice none 0 0]/\But b w wr)
     case first=>
      have y3:W7.cell? ⟨b,3,none⟩=some (.slice va Jd.names.length vc):=hr7.c 3 _ rfl
      have g3:=hr7.cells.frozen 3
      have z0:=a7.cell 0
      have z1:=a7.cell 1
      have z2:=a7.cell 2
      have z3:=a7.cell 3
      have z4:=a7.cell 4
      simp only[List.getElem?_cons_zero,List.getElem?_cons_succ]at z0 z1 z2 z3 z4
      have rS:=hr7.names
      have nb:=hr7.cells.lt
      have nZ:=a7.lt
      have nv0:(Value.slice va Jd.names.length vc).ownBlock≠some b:=λe=>(hr7.ne e).1 rfl
      have nvZ:(Value.slice va Jd.names.length vc).ownBlock≠some Z:=λe=>by have:=nv6 _ e;omega
      have nvw:(Value.slice va Jd.names.length vc).ownBlock≠some w.heap.size:=λe=>by have:=HO.out _ e;omega
      have s7:=B7.size
      go_region_law (refine step_append_row1 rfl (.tmp 25) (.tmp 27) 81 rfl 96 i0 _ 5 48 Tryz.underlying81 hi hz0 hz1 hz2 rfl (by decide) (.slice va Jd.names.length vc) Jd.names.length (Jd.names.flatMap nmCells) rfl (by exact(World.ownsRow.alloc rS _).drew) ⟨W7.heap.size,0,none⟩ 1 1 [.string x0,.int .i64 x1,.bool x2,.int .i64 x3,.int .i64 x4] rfl rfl (by exact row_new W7 [.string x0,.int .i64 x1,.bool x2,.int .i64 x3,.int .i64 x4] _) hone (few_le (by omega)) (by omega) Nat.one_pos ?_;intro gg cap3 w8 hrow hg hkk;have gr:=Grew.of ((More.refl W7).alloc _).drew hg hkk;have y3':w8.cell? ⟨b,3,none⟩=some (.slice va Jd.names.length vc):=(World.cell?_of_block (gr.block b nb nv0)).trans y3;have g3':w8.frozen? ⟨b,3,none⟩=false:=(World.frozen?_of_block (gr.block b nb nv0)).trans g3;clear hg hkk)
      all_goals
       have C8:=hr7.push ⟨x0,x1,x2,x3,x4⟩ hrow gr
       have bne:∀k,k≠b->(w8.setCell ⟨b,3,none⟩ (.slice (some ⟨gg,0,none⟩) (Jd.names.length+1) cap3)).heap[k]?=w8.heap[k]?:=λk hkb=>Below.heap_setCell _ _ _ _ hkb
       have a8:=(a7.of_block (gr.block Z nZ nvZ)).of_block (bne Z (by omega))
       have r8:=(rk7.of_block (gr.block _ rk7.lt nvw)).of_block (bne _ (by omega))
       have og:w.heap.size<gg:=by
        rcases gr.own gg rfl with e |e
        · exact HO.out _ e
        · have:=rk7.lt;omega
       have B8:But b w (w8.setCell ⟨b,3,none⟩ (.slice (some ⟨gg,0,none⟩) (Jd.names.length+1) cap3)):=by
        refine⟨gr.os.trans B7.os,gr.tape.trans B7.tape,gr.output.trans B7.output,by have:=gr.size;simpa[World.setCell]using(by omega:w.heap.size<=w8.heap.size),λj h1 h3=>?_⟩
        rw[bne j h3,gr.block j (by omega) (λe=>by have:=HO.out _ e;omega),B7.block j h1 h3]
       clear y3' g3' hrow gr
       go_wp2_with fail
       go_meet
       case rel=>exact⟨gg,cap3,C8,og,a8,r8,B8⟩
     case rest=>
      obtain⟨gg,cap3,C8,og,a8,r8,B8⟩:=hcut
      clear hr7 a7 rk7 B7 nv6 hr6 rk6 B6 HO
      have y4:wc.cell? ⟨b,4,none⟩=some (.int .i64 Jd.words):=C8.c 4 _ rfl
      have g4:=C8.cells.frozen 4
      have z3:wc.cell? ⟨Z,3,none⟩=some (.int .i64 x3):=a8.cell 3
      have nb8:=C8.cells.lt
      have D8:=C8.turn (J':=K.adds ⟨x0,x1,x2,x3,x4⟩ Jd) (w':=wc.setCell ⟨b,4,none⟩ (.int .i64 (IntKind.i64.wrap (Jd.words+x3)))) (by rw[HAD.out];exact C8.cells.set 4 _) ((But.refl b wc).set 4 _) rfl C8.lt
      have r9:=r8.set_other (a:=⟨b,4,none⟩) (show w.heap.size≠b by omega) (.int .i64 (IntKind.i64.wrap (Jd.words+x3)))
      have B9:=B8.trans ((But.refl b wc).set 4 (.int .i64 (IntKind.i64.wrap (Jd.words+x3))))
      have HW64:Hid (wrap64 (Jd.words+x3)=IntKind.i64.wrap (Jd.words+x3)):=by show _=_;rw[IntKind.wrap_i64];unfold wrap64;rfl
      go_upto_region 4 with fail
      go_region
      all_goals
       go_wp2_with fail
       go_roundg (gk-1)
       case measure=>omega
       case rel=>
        rw[HW64.out]
        exact⟨k+1,_,_,HA',by show k+1<=Jd.i;omega,by show T.length-Jd.i<=gk-1;omega,pb',λj hj=>by have e:gg=j:=(by simpa[Value.ownBlock]using hj);rw[<-e];exact og,D8.drew,B9.drew,r9.drew⟩
 case rest=>
  obtain⟨k,v,HO,pb,hk1,hr,Bk,rk⟩:=hcut
  clear h0 B0 r0 HP0
  have V:=hv.but Bk h2 hlt
  have sk:=Bk.size
  have hlv:Live T 11 (K.prog0 T):=by
   rcases pb.few with f |f
   · exact Or.inl ⟨by rw[pb.depth];omega,by rw[pb.depth];omega,by rw[pb.loops];omega,⟨f.1,by omega⟩⟩
   · exact Or.inr ⟨f,by rw[pb.depth];omega,by rw[pb.loops];omega⟩
  have hd:=dosAll_k hS h2 11 _ _ v hr V (λj e=>by have:=HO.out j e;omega) ⟨by rw[pb.depth];omega,by rw[pb.loops];omega,by rw[pb.names,pb.loops];omega⟩ hlv
  have HPS:Hid (K.progS T=K.expect T [] (K.dos T 11 (K.prog0 T)).1):=rfl
  have HPD:Hid (K.progD T=(K.dos T 11 (K.prog0 T)).2):=rfl
  have hex:=fun(w:World) (h':CR w b s T (K.dos T 11 (K.prog0 T)).1 v)=>expect_c hS h' ⟨#[]⟩
  rw[emptyL]at hex
  rw[<-HPS.out]at hex
  rw[<-HPD.out]at hd
  obtain⟨JF,HSF⟩:∃JF,Hid (K.progS T=JF):=⟨_,rfl⟩
  obtain⟨DD,HDF⟩:∃DD,Hid (K.progD T=DD):=⟨_,rfl⟩
  rw[HSF.out]at hex
  rw[HDF.out]at hd
  clear HPS HPD hlv pb
  generalize K.dos T 11 (K.prog0 T)=D at*
  generalize K.prog0 T=J0 at*
  go_wp2_with fail
  refine hd.mono ?_
  rintro x w4 ⟨dv,us,rfl,dr,de,hr4,bv4⟩
  have rk4:=rk.of_block (bv4.block _ rk.lt (by omega) (λe=>by have:=HO.out _ e;omega))
  obtain⟨da,dn,dc,rfl⟩:=dr.form
  go_wp2_with fail
  refine(hex _ hr4).mono ?_
  rintro x w5 ⟨rfl,hr5,hb5⟩
  have rk5:=rk4.of_block (hb5.block _ rk4.lt (by omega))
  obtain⟨na,nc,hnv⟩:=hr5.len
  have c3:=hr5.c 3 _ rfl
  have c4:=hr5.c 4 _ rfl
  rw[hnv]at c3
  have HNV:=hide hnv
  have q0:=rk5.cell 0
  have q1:=rk5.cell 1
  have q2:=rk5.cell 2
  simp only[List.getElem?_cons_zero,List.getElem?_cons_succ]at q0 q1 q2
  have f0:=rk5.frozen 0
  have f1:=rk5.frozen 1
  have f2:=rk5.frozen 2
  have nl5:=hr5.cells.lt
  have B5:ButV b v w w5:=((Bk.toV v).trans bv4).trans (hb5.toV v)
  have B6:But b w w5:=⟨B5.os,B5.tape,B5.output,B5.size,λj h1 h3=>B5.block j h1 h3 (λe=>by have:=HO.out _ e;omega)⟩
  have sw:=bv4.size
  have dr5:=dr.keep (w':=w5) λj h1 h3=>hb5.block j h3 (by have:_<=j:=h1;have:=hr.cells.lt;omega)
  have de5:=de.keep (w':=w5) λj h1 h3=>hb5.block j h3 (by have:_<=j:=h1;have:=hr.cells.lt;omega)
  clear hd hex hr4 bv4 hnv V
  go_upto_region 7 with fail
  go_region
  all_goals
   have RZ:=((rk5.set 0 (.slice na JF.names.length nc)).set 1 (.int .i64 JF.words)).set 2 (.slice da dn dc)
   have sne:∀j,j≠w.heap.size->(((w5.setCell ⟨w.heap.size,0,none⟩ (.slice na JF.names.length nc)).setCell ⟨w.heap.size,1,none⟩ (.int .i64 JF.words)).setCell ⟨w.heap.size,2,none⟩ (.slice da dn dc)).heap[j]?=w5.heap[j]?:=λj hj=>by
    rw[Below.heap_setCell _ _ _ _ hj,Below.heap_setCell _ _ _ _ hj,Below.heap_setCell _ _ _ _ hj]
   have C6:CR (((w5.setCell ⟨w.heap.size,0,none⟩ (.slice na JF.names.length nc)).setCell ⟨w.heap.size,1,none⟩ (.int .i64 JF.words)).setCell ⟨w.heap.size,2,none⟩ (.slice da dn dc)) b s T JF v:=⟨hr5.cells.of_block (sne b (by omega)),row_of hr5.names λj e=>sne j (λe'=>by have:=HO.out j e;omega),hr5.lt⟩
   have B7:But b w (((w5.setCell ⟨w.heap.size,0,none⟩ (.slice na JF.names.length nc)).setCell ⟨w.heap.size,1,none⟩ (.int .i64 JF.words)).setCell ⟨w.heap.size,2,none⟩ (.slice da dn dc)):=((B6.set_new (Nat.le_refl _) _).set_new (Nat.le_refl _) _).set_new (Nat.le_refl _) _
   have nrk:=rk.lt
   have kp:∀j,From wc.heap.size j->j<w5.heap.size->(((w5.setCell ⟨w.heap.size,0,none⟩ (.slice na JF.names.length nc)).setCell ⟨w.heap.size,1,none⟩ (.int .i64 JF.words)).setCell ⟨w.heap.size,2,none⟩ (.slice da dn dc)).heap[j]?=w5.heap[j]?:=λj h1 _=>sne j (by have:wc.heap.size<=j:=h1;omega)
   have dr6:=(dr5.keep kp).lower (From.le sk)
   have de6:=(de5.keep kp).lower (From.le sk)
   clear dr5 de5 kp sne
   go_wp2_with fail
   generalize((w5.setCell ⟨w.heap.size,0,none⟩ (.slice na JF.names.length nc)).setCell ⟨w.heap.size,1,none⟩ (.int .i64 JF.words)).setCell ⟨w.heap.size,2,none⟩ (.slice da dn dc)=WZ at*
   have z0:WZ.cell? ⟨w.heap.size,0,none⟩=some (.slice na JF.names.length nc):=RZ.cell 0
   have z1:WZ.cell? ⟨w.heap.size,1,none⟩=some (.int .i64 JF.words):=RZ.cell 1
   have z2:WZ.cell? ⟨w.heap.size,2,none⟩=some (.slice da dn dc):=RZ.cell 2
   rw[HSF.out,HDF.out]
   refine bodyPost_ret (v:=.agg #[.slice na JF.names.length nc,.int .i64 JF.words,.slice da dn dc]) (by simp[results,Tryz.results73,go_sem,z0,z1,z2]) rfl ⟨_,_,us,rfl,?_,DRow.keep (w':=WZ.drew) dr6 (λ_ _ _=>rfl),Each.keep (w:=WZ) (w':=WZ.drew) (λ_ _ _=>rfl) de6,B7.drew⟩
   rw[<-HNV.out]
   exact C6.drew
def zeroP:Value:=.agg #[.slice none 0 0,.int .i64 0,.slice none 0 0]
theorem parse_long(s:ByteArray)(w:World)(hs:800<s.size)(hm:s.size<=maxLen):
 Calls Tryz.prog 56 #[.string s] w λx w'=>x=.returned (.tuple #[zeroP,.int .i64 1,.int .i64 0])/\Below w.heap.size w w':=by
 unfold maxLen at hm
 have hs':(800:Int)<(s.size:Int):=by omega
 go_enter Tryz.func56,Tryz.ntmps56
 go_wp2_with fail
 exact bodyPost_ret (v:=.tuple #[zeroP,.int .i64 1,.int .i64 0]) (by simp[results,Tryz.results56,go_sem,zeroP]) rfl ⟨rfl,(Below.refl _ _).alloc (Nat.le_refl _) _⟩
def Parsed(T:List Tok)(w w':World)(x:Ending):Prop:=
 (¬(K.progS T).err=0/\x=.returned (.tuple #[zeroP,.int .i64 (K.progS T).err,.int .i64 (K.progS T).eat]))∨
 ((K.progS T).err=0/\∃nv dv us,x=.returned (.tuple #[.agg #[nv,.int .i64 (K.progS T).words,dv],.int .i64 0,.int .i64 0])/\w'.ownsRow 0 96 5 nv (K.progS T).names.length ((K.progS T).names.flatMap nmCells)/\DRow (From w.heap.size) w' dv us/\Each (From w.heap.size) w' (K.progD T) us)
theorem parse_c(s:ByteArray)(w:World)(hs:s.size<=800)(hv:K.Vars w)(hw:5<=w.heap.size):
 Calls Tryz.prog 56 #[.string s] w λx w'=>Parsed (R.toks s) w w' x/\Below w.heap.size w w':=by
 have hS:=K.scans_toks hs
 have hl:=R.toks_len s
 have hs':¬(800:Int)<(s.size:Int):=by omega
 generalize R.toks s=T at*
 have hsc:∀w,Calls Tryz.prog 72 #[.string s,.int .i64 0] w λx w'=>x=.returned (.agg #[.string (tk T 0).s,.int .i64 (tk T 0).p])/\w'=w.alloc (.cells #[.string (tk T 0).s,.int .i64 (tk T 0).p] 136):=λw=>by
  have:=scan_c s 0 w (Nat.zero_le _) (by omega)
  rw[hS.first]at this
  exact this
 obtain⟨t0,HT0⟩:∃t0,Hid (tk T 0=t0):=⟨_,rfl⟩
 rw[HT0.out]at hsc
 obtain⟨ts,tp⟩:=t0
 dsimp only at hsc
 go_enter Tryz.func56,Tryz.ntmps56
 go_wp2_with (go_at_call 72;refine(hsc _).mono ?_;rintro x w1 ⟨rfl,rfl⟩)
 have e2:((w.alloc (.cells #[.slice none 0 0,.int .i64 0,.slice none 0 0] 84 (0,0))).alloc (.cells #[.string ts,.int .i64 tp] 136 (0,0))).heap.size=w.heap.size+1+1:=by simp
 have aR:At (((w.alloc (.cells #[.slice none 0 0,.int .i64 0,.slice none 0 0] 84 (0,0))).alloc (.cells #[.string ts,.int .i64 tp] 136 (0,0))).alloc (.cells #[.string s,.string ts,.int .i64 tp,.slice none 0 0,.int .i64 0,.int .i64 0,.int .i64 0,.int .i64 0,.int .i64 0] 139 (0,0))) (w.heap.size+1+1) 139 [.string s,.string ts,.int .i64 tp,.slice none 0 0,.int .i64 0,.int .i64 0,.int .i64 0,.int .i64 0,.int .i64 0]:=by
  have:=At.alloc_new ((w.alloc (.cells #[.slice none 0 0,.int .i64 0,.slice none 0 0] 84 (0,0))).alloc (.cells #[.string ts,.int .i64 tp] 136 (0,0))) [.string s,.string ts,.int .i64 tp,.slice none 0 0,.int .i64 0,.int .i64 0,.int .i64 0,.int .i64 0,.int .i64 0] 139
  rw[e2]at this
  exact this
 have aA:At (((w.alloc (.cells #[.slice none 0 0,.int .i64 0,.slice none 0 0] 84 (0,0))).alloc (.cells #[.string ts,.int .i64 tp] 136 (0,0))).alloc (.cells #[.string s,.string ts,.int .i64 tp,.slice none 0 0,.int .i64 0,.int .i64 0,.int .i64 0,.int .i64 0,.int .i64 0] 139 (0,0))) w.heap.size 84 [.slice none 0 0,.int .i64 0,.slice none 0 0]:=((At.alloc_new w _ _).alloc _).alloc _
 have BW:Below w.heap.size w (((w.alloc (.cells #[.slice none 0 0,.int .i64 0,.slice none 0 0] 84 (0,0))).alloc (.cells #[.string ts,.int .i64 tp] 136 (0,0))).alloc (.cells #[.string s,.string ts,.int .i64 tp,.slice none 0 0,.int .i64 0,.int .i64 0,.int .i64 0,.int .i64 0,.int .i64 0] 139 (0,0))):=(((Below.refl _ _).alloc (Nat.le_refl _) _).alloc (by simp) _).alloc (by simp;omega) _
 generalize((w.alloc (.cells #[.slice none 0 0,.int .i64 0,.slice none 0 0] 84 (0,0))).alloc (.cells #[.string ts,.int .i64 tp] 136 (0,0))).alloc (.cells #[.string s,.string ts,.int .i64 tp,.slice none 0 0,.int .i64 0,.int .i64 0,.int .i64 0,.int .i64 0,.int .i64 0] 139 (0,0))=W at*
 have hC:CR W (w.heap.size+1+1) s T K.start (.slice none 0 0):=by
  refine⟨?_,World.ownsRow_nil W 0 _ 5,hl.2⟩
  show At W _ _ (rcs s (tk T 0) K.start (.slice none 0 0))
  rw[HT0.out]
  exact aR
 have hVW:K.Vars W:=by
  obtain⟨⟨e0,a1,a2⟩,⟨e1,c1,c2⟩⟩:=hv
  exact⟨⟨e0,(BW.cell (p:=⟨3,0,none⟩) (by show 3<w.heap.size;omega)).trans a1,a2⟩,⟨e1,(BW.cell (p:=⟨4,0,none⟩) (by show 4<w.heap.size;omega)).trans c1,c2⟩⟩
 have hp:=program_k hS (by omega) hC hVW (by omega)
 have sW:=aR.lt
 obtain⟨JF,HSF⟩:∃JF,Hid (K.progS T=JF):=⟨_,rfl⟩
 rw[HSF.out]at hp
 refine hp.mono ?_
 rintro x w2 ⟨nv,dv,us,rfl,hr2,dr,de,hb2⟩
 obtain⟨na,nc,hnv⟩:=hr2.len
 have HNR:=hide hr2.names
 obtain⟨da,dn,dc,hdv⟩:=dr.form
 subst hdv
 have aA2:=aA.of_block (hb2.block _ aA.lt (by omega))
 have B2:Below w.heap.size w w2:=BW.trans ⟨hb2.os,hb2.tape,hb2.output,hb2.size,λk hk=>hb2.block k (by have:=BW.size;omega) (by omega)⟩
 have lA:=aA2.lt
 have c7:=hr2.c 7 _ rfl
 have c8:=hr2.c 8 _ rfl
 have q0:=aA2.cell 0
 have q1:=aA2.cell 1
 have q2:=aA2.cell 2
 simp only[List.getElem?_cons_zero,List.getElem?_cons_succ]at q0 q1 q2
 have f0:=aA2.frozen 0
 have f1:=aA2.frozen 1
 have f2:=aA2.frozen 2
 have lb:=hr2.cells.lt
 have HNV:=hide hnv
 rw[hnv]
 clear hp hC hVW aR aA hnv hsc
 by_cases he:JF.err=0
 · have he':(JF.err != 0)=false:=by rw[he];rfl
   have dr3:=dr.lower (From.le (by have:=BW.size;omega:w.heap.size<=W.heap.size))
   have de3:=de.lower (From.le (by have:=BW.size;omega:w.heap.size<=W.heap.size))
   have RZ:=((aA2.set 0 (.slice na JF.names.length nc)).set 1 (.int .i64 JF.words)).set 2 (.slice da dn dc)
   have sne:∀j,j≠w.heap.size->(((w2.setCell ⟨w.heap.size,0,none⟩ (.slice na JF.names.length nc)).setCell ⟨w.heap.size,1,none⟩ (.int .i64 JF.words)).setCell ⟨w.heap.size,2,none⟩ (.slice da dn dc)).heap[j]?=w2.heap[j]?:=λj hj=>by
    rw[Below.heap_setCell _ _ _ _ hj,Below.heap_setCell _ _ _ _ hj,Below.heap_setCell _ _ _ _ hj]
   have BZ:Below w.heap.size w (((w2.setCell ⟨w.heap.size,0,none⟩ (.slice na JF.names.length nc)).setCell ⟨w.heap.size,1,none⟩ (.int .i64 JF.words)).setCell ⟨w.heap.size,2,none⟩ (.slice da dn dc)):=((B2.setCell (Nat.le_refl _) _).setCell (Nat.le_refl _) _).setCell (Nat.le_refl _) _
   have nr:(((w2.setCell ⟨w.heap.size,0,none⟩ (.slice na JF.names.length nc)).setCell ⟨w.heap.size,1,none⟩ (.int .i64 JF.words)).setCell ⟨w.heap.size,2,none⟩ (.slice da dn dc)).ownsRow 0 96 5 nv JF.names.length (JF.names.flatMap nmCells):=row_of HNR.out λk e=>sne k (λe'=>by
    obtain⟨cur,hc⟩:=own_block HNR.out e
    have:=aA2
    unfold At at this
    rw[<-e',hc]at this
    simp at this)
   have kp:∀j,From W.heap.size j->j<w2.heap.size->(((w2.setCell ⟨w.heap.size,0,none⟩ (.slice na JF.names.length nc)).setCell ⟨w.heap.size,1,none⟩ (.int .i64 JF.words)).setCell ⟨w.heap.size,2,none⟩ (.slice da dn dc)).heap[j]?=w2.heap[j]?:=λj h1 _=>sne j (by have:W.heap.size<=j:=h1;omega)
   have dr4:=(dr.keep kp).lower (From.le (by have:=BW.size;omega:w.heap.size<=W.heap.size))
   have de4:=(de.keep kp).lower (From.le (by have:=BW.size;omega:w.heap.size<=W.heap.size))
   clear dr3 de3 kp sne
   go_wp2_with fail
   generalize((w2.setCell ⟨w.heap.size,0,none⟩ (.slice na JF.names.length nc)).setCell ⟨w.heap.size,1,none⟩ (.int .i64 JF.words)).setCell ⟨w.heap.size,2,none⟩ (.slice da dn dc)=WZ at*
   have z0:WZ.cell? ⟨w.heap.size,0,none⟩=some (.slice na JF.names.length nc):=RZ.cell 0
   have z1:WZ.cell? ⟨w.heap.size,1,none⟩=some (.int .i64 JF.words):=RZ.cell 1
   have z2:WZ.cell? ⟨w.heap.size,2,none⟩=some (.slice da dn dc):=RZ.cell 2
   have zl:=RZ.lt
   refine bodyPost_ret (v:=.tuple #[.agg #[.slice na JF.names.length nc,.int .i64 JF.words,.slice da dn dc],.int .i64 0,.int .i64 0]) (by simp[results,Tryz.results56,go_sem,z0,z1,z2,zl]) rfl ⟨Or.inr ?_,BZ.alloc (by omega) _⟩
   rw[HSF.out]
   refine⟨he,nv,.slice da dn dc,us,by rw[HNV.out],?_,?_,?_⟩
   · exact row_of nr λk e=>heap_alloc_old _ _ _ (by obtain⟨cur,hc⟩:=own_block nr e;exact blk_lt hc)
   · exact dr4.keep λk _ h=>heap_alloc_old _ _ _ h
   · exact de4.keep λk _ h=>heap_alloc_old _ _ _ h
 · have he':(JF.err != 0)=true:=by simpa using he
   go_upto_region 6 with fail
   go_region
   all_goals
    have RZ:=((aA2.set 0 (.slice none 0 0)).set 1 (.int .i64 0)).set 2 (.slice none 0 0)
    have BZ:Below w.heap.size w (((w2.setCell ⟨w.heap.size,0,none⟩ (.slice none 0 0)).setCell ⟨w.heap.size,1,none⟩ (.int .i64 0)).setCell ⟨w.heap.size,2,none⟩ (.slice none 0 0)):=((B2.setCell (Nat.le_refl _) _).setCell (Nat.le_refl _) _).setCell (Nat.le_refl _) _
    go_wp2_with fail
    generalize((w2.setCell ⟨w.heap.size,0,none⟩ (.slice none 0 0)).setCell ⟨w.heap.size,1,none⟩ (.int .i64 0)).setCell ⟨w.heap.size,2,none⟩ (.slice none 0 0)=WZ at*
    have z0:WZ.cell? ⟨w.heap.size,0,none⟩=some (.slice none 0 0):=RZ.cell 0
    have z1:WZ.cell? ⟨w.heap.size,1,none⟩=some (.int .i64 0):=RZ.cell 1
    have z2:WZ.cell? ⟨w.heap.size,2,none⟩=some (.slice none 0 0):=RZ.cell 2
    have zl:=RZ.lt
    refine bodyPost_ret (v:=.tuple #[zeroP,.int .i64 JF.err,.int .i64 JF.eat]) (by simp[results,Tryz.results56,go_sem,zeroP,z0,z1,z2,zl]) rfl ⟨Or.inl ?_,(BZ.alloc (by omega) _).drew⟩
    rw[HSF.out]
    exact⟨he,rfl⟩
end
end Go.Proofs.YtejbgcloblpbfaaGreatDoor
