import Derived.Test.YtejbgcloblpbfaaGreatDoorG35
import Derived.Test.YtejbgcloblpbfaaGreatDoorG34
import Derived.Test.YtejbgcloblpbfaaGreatDoorG36
set_option maxHeartbeats 4000000
set_option maxRecDepth 100000
namespace Go.Proofs.YtejbgcloblpbfaaGreatDoor
open Go.RowKit
open R (Tok Thing Nd PS)
theorem do_deep{T:List Tok}{f:Nat}(w:World)(b:Nat)(J:PS)(r:RV)(h:Rep w b T J r)(hb:BdD T (f+1) J)(hO:¬(R.opens T J).err=0):
 Calls Tryz.prog 62 #[P b] w λx w'=>x=.returned (.int .i64 0)/\∃r',Rep w' b T (R.opens T J) r'/\Moves b w w':=by
 have hoc:=open_c h (by have:=hb.n0;omega) (by have:=hb.n1;omega)
 have hO':=beq_no hO
 clear hO
 generalize R.opens T J=J1 at*
 go_enter Tryz.func62,Tryz.ntmps62
 go_wp2_with fail
 refine hoc.mono ?_
 rintro x w2 ⟨rfl,hr2,hm2⟩
 have q2:=hr2.c1 2 _ rfl
 go_wp2_with fail
 go_ret
 exact⟨rfl,r,hr2,hm2⟩
theorem do_c{T:List Tok}(hT:R.Small T)(hEnd:R.Ended T)(f:Nat):DoDoes T f:=by
 induction f with
 |zero=>intro w b J r _ _ _ hb;have:=hb.fu;have:=hb.n1;omega
 |succ f ih=>
  have hds:=does_c hEnd f ih
  have hbl:=block_c f hEnd hds
  intro w b J r h _ _ hb
  show Calls _ _ _ _ λx w'=>x=.returned (.int .i64 (R.doB T (R.does T f) J).2)/\∃r',Rep w' b T (R.doB T (R.does T f) J).1 r'/\Moves b w w'
  unfold R.doB
  by_cases hO:(R.opens T J).err=0
  · rw[if_pos hO]
    by_cases h1:(R.tk T (R.opens T J).i).s.toList=R.kSet
    · exact do_set hT hEnd f w b J r h hb hO h1
    · by_cases h2:(R.tk T (R.opens T J).i).s.toList=R.kPut
      · exact do_put hT hEnd f w b J r h hb hO h2
      · by_cases h3:(R.tk T (R.opens T J).i).s.toList=R.kIf
        · exact do_if hT hEnd f hbl w b J r h hb hO h3
        · by_cases h4:(R.tk T (R.opens T J).i).s.toList=R.kFor
          · exact do_for hT hEnd f hds w b J r h hb hO h4
          · exact do_none hT hEnd f w b J r h hb hO h1 h2 h3 h4
  · rw[if_neg hO]
    exact do_deep w b J r h hb hO
theorem doesAll_c{T:List Tok}(hT:R.Small T)(hEnd:R.Ended T)(f:Nat):DoesDoes T f:=does_c hEnd f (do_c hT hEnd f)
structure BdC(J:PS):Prop where
 n0:0<=J.nest
 n1:J.nest<=10
 m0:0<=J.names
 m1:J.names<=100
 z0:0<=J.size
 z1:J.size<=1000
 seen:J.seen.length<=500
 shape:J.shape.length<=500
theorem decl_many{T:List Tok}(w:World)(b:Nat)(J:PS)(r:RV)(h:Rep w b T J r)(hb:BdC J)(hN:(R.opens T J).names=8):
 Calls Tryz.prog 44 #[P b] w λx w'=>x=.returned (.tuple #[])/\∃r',Rep w' b T (R.fail 5 (R.tk T J.i).p (R.opens T J)) r'/\Moves b w w':=by
 have hoc:=open_c h (by have:=hb.n0;omega) (by have:=hb.n1;omega)
 have hN':=beq_yes hN
 clear hN
 generalize R.opens T J=J1 at*
 generalize(R.tk T J.i).p=tp at*
 go_enter Tryz.func44,Tryz.ntmps44
 go_wp2_with fail
 refine hoc.mono ?_
 rintro x w2 ⟨rfl,hr2,hm2⟩
 have q5:=hr2.c1 5 _ rfl
 go_wp2_with fail
 refine(fail_c hr2 5 tp).mono ?_
 rintro x w3 ⟨rfl,hr3,hm3⟩
 go_wp2_with fail
 exact bodyPost_ret (v:=.tuple #[]) (by simp[results,Tryz.results44]) rfl ⟨rfl,r,hr3,hm2.trans hm3⟩
theorem dh_array{T:List Tok}{s:ByteArray}{p:Int}{J:PS}(h:s.toList=R.kArray):R.dHead T ⟨s,p⟩ J=(if(R.tk T J.i).s.toList=R.kPublic∨(R.tk T J.i).s.toList=R.kSecret then R.take T J else R.fail 2 (R.tk T J.i).p (R.take T J),2,(R.tk T J.i).s):=by
 unfold R.dHead;rw[if_pos h]
theorem dh_plain{T:List Tok}{s:ByteArray}{p:Int}{J:PS}(h:¬s.toList=R.kArray):R.dHead T ⟨s,p⟩ J=(J,1,s):=by
 unfold R.dHead;rw[if_neg h]
theorem decl_in{T:List Tok}(hT:R.Small T)(w:World)(b:Nat)(J:PS)(r:RV)(h:Rep w b T J r)(hb:BdC J)(hN:¬(R.opens T J).names=8):
 Calls Tryz.prog 44 #[P b] w λx w'=>x=.returned (.tuple #[])/\∃r',Rep w' b T (R.declIn T (R.opens T J)) r'/\Moves b w w':=by
 have hoc:=open_c h (by have:=hb.n0;omega) (by have:=hb.n1;omega)
 have hN':=beq_no hN
 clear hN
 have o1:=R.opens_core T J
 have hsz:(R.opens T J).size=J.size:=congrArg (λc=>c.2.2.1) o1.1
 have hse:(R.opens T J).seen=J.seen:=congrArg (λc=>c.1) o1.1
 have hsh:(R.opens T J).shape=J.shape:=congrArg (λc=>c.2.2.2.1) o1.1
 have hnm:(R.opens T J).names=J.names:=congrArg (λc=>c.2.1) o1.1
 have hne:=o1.2.2.2
 have F1:=hide (show 1<=(R.opens T J).nest/\(R.opens T J).nest<=11/\0<=(R.opens T J).size/\(R.opens T J).size<=1000/\(R.opens T J).seen.length<=500/\(R.opens T J).shape.length<=500/\0<=(R.opens T J).names/\(R.opens T J).names<=100 from by
  rw[hse,hsh]
  obtain⟨c1,c2,c3,c4,c5,c6,c7,c8⟩:=hb
  omega)
 clear o1 hsz hse hsh hnm hne hb
 generalize R.opens T J=J1 at*
 generalize(R.tk T J.i).p=tp at*
 obtain⟨t1,HT1⟩:∃t1,Hid (R.tk T J1.i=t1):=⟨_,rfl⟩
 obtain⟨s1,p1⟩:=t1
 obtain⟨i0,hi,hz0,hz1,hz2⟩:=info_parts info_thing
 obtain⟨j0,ji,jz0,jz1,jz2⟩:=info_parts info_bool
 go_enter Tryz.func44,Tryz.ntmps44
 go_wp2_with fail
 refine hoc.mono ?_
 rintro x w2 ⟨rfl,hr2,hm2⟩
 have q5:=hr2.c1 5 _ rfl
 have q6:=hr2.c1 6 _ rfl
 have nb:=hr2.cells.lt
 go_wp2_with fail
 have htk:=take_c (hr2.alloc (.cells #[.string ⟨#[]⟩,.int .i64 1,.bool false,.int .i64 J1.size,.int .i64 1] 111))
 rw[HT1.out]at htk
 refine htk.mono ?_
 rintro x w3 ⟨rfl,hr3,hm3⟩
 have B3:=(hr2.box [.string ⟨#[]⟩,.int .i64 1,.bool false,.int .i64 J1.size,.int .i64 1] 111).moves hm3
 have nk:=B3.here.lt
 have kk:w2.heap.size≠w3.heap.size:=by omega
 go_upto_if 25 with fail
 have S4:Sd w (w3.alloc (.cells #[.string s1,.int .i64 p1] 90)) b T (R.take T J1) r w2.heap.size w3.heap.size [.string ⟨#[]⟩,.int .i64 1,.bool false,.int .i64 J1.size,.int .i64 1] [.string s1,.int .i64 p1]:=
  ⟨hr3.alloc _,((hm2.alloc _).trans hm3).alloc _,B3.alloc _,hr3.box [.string s1,.int .i64 p1] 90,by have:=hm2.size;omega,by have:=hm2.size;have:=nk;omega,kk⟩
 clear htk hr2 hm2 hr3 hm3 q5 q6 nb B3 nk hoc
 generalize w3.alloc (.cells #[.string s1,.int .i64 p1] 90)=W4 at*
 generalize w2.heap.size=k3 at*
 generalize w3.heap.size=k4 at*
 obtain⟨H,HH⟩:∃H,Hid (R.dHead T ⟨s1,p1⟩ (R.take T J1)=H):=⟨_,rfl⟩
 go_cut [25] (λ_ wr=>∃pp,Sd w wr b T H.1 r k3 k4 [.string ⟨#[]⟩,.int .i64 H.2.1,.bool false,.int .i64 J1.size,.int .i64 1] [.string H.2.2,.int .i64 pp])
 case first=>
  as_aux_lemma=>
  generalize R.take T J1=J2 at*
  by_cases ha:s1.toList=R.kArray
  · have ha':(s1.toList==[97,114,114,97,121])=true:=beq_yes ha
    have e:=HH.out
    rw[dh_array ha]at e
    clear ha
    have htk:=fun(w:World) (hr:Rep w b T J2 r)=>take_c hr
    generalize R.tk T J2.i=t2 at*
    obtain⟨s2,p2⟩:=t2
    generalize R.take T J2=J3 at*
    dsimp only at*
    have g1:=S4.d3 1 _ rfl
    have f1:=S4.b3.f 1
    rw[ha']
    go_wp2_with fail
    have S5:=S4.set3 1 (.int .i64 2)
    refine(htk _ S5.rep).mono ?_
    rintro x w5 ⟨rfl,hr5,hm5⟩
    have S6:=S5.moves hr5 hm5
    have y0:=S6.d4 0 _ rfl
    have y1:=S6.d4 1 _ rfl
    have z0:=S6.b4.f 0
    have z1:=S6.b4.f 1
    clear g1 f1
    have S7:=(S6.set4 0 (.string s2)).set4 1 (.int .i64 p2)
    by_cases hp:s2.toList=R.kPublic
    · have hp':(s2.toList==[112,117,98,108,105,99])=true:=beq_yes hp
      rw[if_pos (Or.inl hp)]at e
      subst e
      go_wp2_with fail
      go_meet
      case rel=>exact⟨_,S7⟩
    · have hp':(s2.toList==[112,117,98,108,105,99])=false:=beq_no hp
      by_cases hq:s2.toList=R.kSecret
      · have hq':(s2.toList==[115,101,99,114,101,116])=true:=beq_yes hq
        rw[if_pos (Or.inr hq)]at e
        subst e
        go_wp2_with fail
        go_meet
        case rel=>exact⟨_,S7⟩
      · have hq':(s2.toList==[115,101,99,114,101,116])=false:=beq_no hq
        rw[if_neg (by rintro(h |h);exact hp h;exact hq h)]at e
        subst e
        go_wp2_with fail
        refine(fail_c S7.rep 2 p2).mono ?_
        rintro x w8 ⟨rfl,hr8,hm8⟩
        go_wp2_with fail
        go_meet
        case rel=>exact⟨_,S7.moves hr8 hm8⟩
  · have ha':(s1.toList==[97,114,114,97,121])=false:=beq_no ha
    have e:=HH.out
    rw[dh_plain ha]at e
    subst e
    rw[ha']
    go_wp2_with fail
    go_meet
    case rel=>exact⟨_,S4⟩
 case rest=>
  obtain⟨pp,S5⟩:=hcut
  clear S4
  have hse4:H.1.seen.length<=1000:=by
   rw[<-HH.out,R.dHead_seen,R.take_seen]
   have:=F1.out
   omega
  have y0:=S5.d4 0 _ rfl
  have g2:=S5.d3 2 _ rfl
  have f2:=S5.b3.f 2
  obtain⟨sc,HSC⟩:∃sc,Hid ((H.2.2.toList==R.kSecret)=sc):=⟨_,rfl⟩
  have hsc:(H.2.2.toList==[115,101,99,114,101,116])=sc:=HSC.out
  go_wp2_with fail
  have S6:=S5.set3 2 (.bool sc)
  have frc:=fresh_c S6.rep hT hse4
  obtain⟨nm,HNM⟩:∃nm,Hid (R.freshS T H.1=nm):=⟨_,rfl⟩
  obtain⟨J5,HS5⟩:∃J5,Hid (R.fresh T H.1=J5):=⟨_,rfl⟩
  rw[HNM.out,HS5.out]at frc
  refine frc.mono ?_
  rintro x w7 ⟨rfl,hr7,hm7⟩
  have S7:=S6.moves hr7 hm7
  have g0:=S7.d3 0 _ rfl
  have f0:=S7.b3.f 0
  clear y0 g2 f2 frc S5 S6 hr7 hm7
  go_upto_region 12 with fail
  have S8:=S7.set3 0 (.string nm)
  clear S7 g0 f0
  generalize w7.setCell ⟨k3,0,none⟩ (.string nm)=W8 at*
  obtain⟨H1,kd,ws⟩:=H
  dsimp only at*
  have hkd:kd=1∨kd=2:=R.dHead_kind HH.out
  obtain⟨c57,H57⟩:∃c57,Hid ((kd==2&&J5.err==0)=c57):=⟨_,rfl⟩
  go_cut [57] (λq wr=>q=.bool c57/\Sd w wr b T J5 r k3 k4 [.string nm,.int .i64 kd,.bool sc,.int .i64 J1.size,.int .i64 1] [.string ws,.int .i64 pp])
  case first=>
   as_aux_lemma=>
   have x1:=S8.d3 1 _ rfl
   have x2:=S8.p 2 _ rfl
   rcases hkd with rfl |rfl
   · have hc:false=c57:=H57.out
     subst hc
     clear H57
     go_wp2_with fail
     go_meet
     case rel=>exact⟨rfl,S8⟩
   · have hc:(J5.err==0)=c57:=by rw[<-H57.out];rfl
     clear H57
     go_wp2_with fail
     go_meet
     case rel=>exact⟨rfl,S8⟩
  case rest=>
   obtain⟨rfl,S9⟩:=hcut
   clear S8
   have HDC:Hid (∀J6 n,R.dSize T kd J5=(J6,some n)->R.declIn T J1=R.added ⟨nm,kd,sc,J1.size,n⟩ (R.shut T J6)):=λJ6 n e=>by
    unfold R.declIn
    dsimp only
    rw[HT1.out,HH.out]
    dsimp only
    rw[HS5.out,e]
    dsimp only
    rw[HNM.out,HSC.out]
   have HDN:Hid (∀J6,R.dSize T kd J5=(J6,none)->R.declIn T J1=J6):=λJ6 e=>by
    unfold R.declIn
    dsimp only
    rw[HT1.out,HH.out]
    dsimp only
    rw[HS5.out,e]
   go_upto_if 57 with fail
   go_cut [57] (λ_ wr=>∃J6 n s3 p3,Hid (R.dSize T kd J5=(J6,some n))/\1<=n/\n<=6/\Sd w wr b T J6 r k3 k4 [.string nm,.int .i64 kd,.bool sc,.int .i64 J1.size,.int .i64 n] [.string s3,.int .i64 p3])
   case first=>
    as_aux_lemma=>
    cases c57 with
    |false=>
     have e:R.dSize T kd J5=(J5,some 1):=by
      unfold R.dSize
      rw[if_neg]
      rintro⟨rfl,h2⟩
      have:=H57.out
      rw[h2]at this
      exact absurd this (by decide)
     have HE:=hide e
     clear e
     go_wp2_with fail
     go_meet
     case rel=>exact⟨J5,1,ws,pp,HE,by omega,by omega,S9⟩
    |true=>
     have h12:kd=2/\J5.err=0:=by
      have:=H57.out
      rw[Bool.and_eq_true,beq_iff_eq,beq_iff_eq]at this
      exact this
     have HZ:Hid (R.dSize T kd J5=if R.isSize (R.tk T J5.i).s=true then(R.take T J5,some (((R.byteAt (R.tk T J5.i).s 0).toNat:Int)-48))else(R.fail 2 (R.tk T J5.i).p (R.take T J5),none)):=by
      show R.dSize T kd J5=_
      unfold R.dSize
      rw[if_pos h12]
     have htk:=take_c S9.rep
     have hsm:=hT J5.i
     generalize R.tk T J5.i=t3 at*
     obtain⟨s3,p3⟩:=t3
     generalize R.take T J5=J6 at*
     dsimp only at*
     clear h12
     go_wp2_with fail
     refine htk.mono ?_
     rintro x w10 ⟨rfl,hr10,hm10⟩
     have S10:=S9.moves hr10 hm10
     have y0:=S10.d4 0 _ rfl
     have y1:=S10.d4 1 _ rfl
     have z0:=S10.b4.f 0
     have z1:=S10.b4.f 1
     have S11:=(S10.set4 0 (.string s3)).set4 1 (.int .i64 p3)
     have g4:=S10.d3 4 _ rfl
     have f4:=S10.b3.f 4
     have hne:=S10.ne
     by_cases hl:s3.size=1
     · have h0:0<s3.size:=by omega
       have hc:=UInt8.toNat_lt s3[0]
       have hb0:=R.byte_get s3 0 h0
       rw[hb0]at HZ
       have HB0:=hide hb0
       have HL:=hide hl
       clear hb0
       by_cases hlo:(s3[0].toNat:Int)<49
       · have e:R.isSize s3=false:=by unfold R.isSize;rw[HB0.out];simp;intro _ h;omega
         rw[e]at HZ
         have hd:=HDN.out _ HZ.out
         have HDD:=hide hd
         clear hd e
         go_wp2_with fail
         refine(fail_c S11.rep 2 p3).mono ?_
         rintro x w12 ⟨rfl,hr12,hm12⟩
         go_wp2_with fail
         rw[HDD.out]
         exact bodyPost_ret (v:=.tuple #[]) (by simp[results,Tryz.results44]) rfl ⟨rfl,r,hr12,S11.mv.trans hm12⟩
       · by_cases hhi:54<(s3[0].toNat:Int)
         · have e:R.isSize s3=false:=by unfold R.isSize;rw[HB0.out];simp;intro _ h;omega
           rw[e]at HZ
           have hd:=HDN.out _ HZ.out
           have HDD:=hide hd
           clear hd e
           go_wp2_with fail
           refine(fail_c S11.rep 2 p3).mono ?_
           rintro x w12 ⟨rfl,hr12,hm12⟩
           go_wp2_with fail
           rw[HDD.out]
           exact bodyPost_ret (v:=.tuple #[]) (by simp[results,Tryz.results44]) rfl ⟨rfl,r,hr12,S11.mv.trans hm12⟩
         · have e:R.isSize s3=true:=by unfold R.isSize;rw[HB0.out];simp;exact⟨HL.out,by omega⟩
           rw[e]at HZ
           have HZ':Hid (R.dSize T kd J5=(J6,some ((s3[0].toNat:Int)-48))):=HZ.out
           clear e HZ
           go_wp2_with fail
           go_meet
           case rel=>exact⟨J6,_,s3,p3,HZ',by omega,by omega,S11.set3 4 _⟩
     · have e:R.isSize s3=false:=by unfold R.isSize;rw[decide_eq_false hl];rfl
       rw[e]at HZ
       have hd:=HDN.out _ HZ.out
       have HDD:=hide hd
       clear hd e
       go_wp2_with fail
       refine(fail_c S11.rep 2 p3).mono ?_
       rintro x w12 ⟨rfl,hr12,hm12⟩
       go_wp2_with fail
       rw[HDD.out]
       exact bodyPost_ret (v:=.tuple #[]) (by simp[results,Tryz.results44]) rfl ⟨rfl,r,hr12,S11.mv.trans hm12⟩
   case rest=>
    obtain⟨J6,n,s3,p3,HZ,hn1,hn6,S12⟩:=hcut
    clear S9
    have HDD:=hide (HDC.out J6 n HZ.out)
    have sm:R.Same T J1 J6:=by
     have e1:=R.dHead_same T ⟨s1,p1⟩ (R.take T J1)
     rw[HH.out]at e1
     have e2:=R.fresh_same T H1
     rw[HS5.out]at e2
     have e3:=R.dSize_same T kd J5
     rw[HZ.out]at e3
     exact(((R.take_same T J1).tr e1).tr e2).tr e3
    have hsz6:J6.size=J1.size:=congrArg (λc=>c.2.2.1) sm.core
    have hse6:J6.seen=J1.seen:=congrArg (λc=>c.1) sm.core
    have hsh6:J6.shape=J1.shape:=congrArg (λc=>c.2.2.2.1) sm.core
    have hnm6:J6.names=J1.names:=congrArg (λc=>c.2.1) sm.core
    have hne6:=sm.nest
    have shc:=shut_c S12.rep (by have:=F1.out;omega) (by have:=F1.out;omega)
    have sk:=R.shut_core T J6
    have hsz7:(R.shut T J6).size=J6.size:=congrArg (λc=>c.2.2.1) sk.1
    have hse7:(R.shut T J6).seen=J6.seen:=congrArg (λc=>c.1) sk.1
    have hsh7:(R.shut T J6).shape=J6.shape:=congrArg (λc=>c.2.2.2.1) sk.1
    have hnm7:(R.shut T J6).names=J6.names:=congrArg (λc=>c.2.1) sk.1
    have F7:=hide (show 0<=(R.shut T J6).size/\(R.shut T J6).size<=1000/\(R.shut T J6).seen.length<=500/\(R.shut T J6).shape.length<=500/\0<=(R.shut T J6).names/\(R.shut T J6).names<=100 from by
     rw[hse7,hsh7,hse6,hsh6]
     have:=F1.out
     omega)
    clear sm hsz6 hse6 hsh6 hnm6 hne6 sk hsz7 hse7 hsh7 hnm7
    generalize R.shut T J6=J7 at*
    go_wp2_with fail
    refine shc.mono ?_
    rintro x w13 ⟨rfl,hr13,hm13⟩
    have S13:=S12.moves hr13 hm13
    have x5:=S13.p 5 _ rfl
    have f5:=S13.rep.cells.frozen 5
    obtain⟨m1,m2,m3,m4,m5,m6⟩:=F7.out
    clear shc S12 hr13 hm13
    go_upto_region 19 with fail
    have RN:=S13.rep.names (J7.names+1)
    have S14:=S13.moves RN.1 RN.2
    clear S13 RN x5 f5
    generalize w13.setCell ⟨b,5,none⟩ (.int .i64 (J7.names+1))=W14 at*
    go_cut [] (λwr=>Sd w wr b T {J7 with names:=J7.names+1,size:=J7.size+n} r k3 k4 [.string nm,.int .i64 kd,.bool sc,.int .i64 J1.size,.int .i64 n] [.string s3,.int .i64 p3])
    case first=>
     have x6:W14.cell? ⟨b,6,none⟩=some (.int .i64 J7.size):=S14.p 6 _ rfl
     have f6:=S14.rep.cells.frozen 6
     have g4:=S14.d3 4 _ rfl
     have RS:=S14.rep.size (J7.size+n)
     go_region
     all_goals
      go_wp2_with fail
      go_meet
      case rel=>exact S14.moves RS.1.drew RS.2.drew
    case rest=>
     have S15:=hcut
     clear S14 hcut
     go_upto_region 20 with fail
     go_cut [] (λwr=>∃rr,Sd w wr b T {J7 with names:=J7.names+1,size:=J7.size+n,seen:=J7.seen++[⟨nm,kd,sc,J1.size,n⟩]} rr k3 k4 [.string nm,.int .i64 kd,.bool sc,.int .i64 J1.size,.int .i64 n] [.string s3,.int .i64 p3])
     case first=>
      have q4:=S15.p 4 _ rfl
      have f4:=S15.rep.cells.frozen 4
      have g0:=S15.d3 0 _ rfl
      have g1:=S15.d3 1 _ rfl
      have g2:=S15.d3 2 _ rfl
      have g3:=S15.d3 3 _ rfl
      have g4:=S15.d3 4 _ rfl
      have nb:=S15.rep.cells.lt
      have n3:=S15.b3.here.lt
      have rS:wc.ownsRow 0 111 5 r.S J7.seen.length (J7.seen.flatMap thingCells):=S15.rep.seen
      have nbS:r.S.ownBlock≠some b:=λe=>by
       obtain⟨cur,hc⟩:=ownsRow_block rS e
       have hb:=S15.rep.cells
       unfold At at hb
       rw[hb]at hc
       simp at hc
      have hone:∀u∈[Value.string nm,.int .i64 kd,.bool sc,.int .i64 J1.size,.int .i64 n],u.oneCell'=true:=by
       intro u hu
       simp only[List.mem_cons,List.not_mem_nil,or_false]at hu
       rcases hu with rfl |rfl |rfl |rfl |rfl<;>rfl
      go_region_law (refine step_append_row1 rfl (.tmp 110) (.tmp 112) 30 rfl 111 i0 _ 5 48 Tryz.underlying30 hi hz0 hz1 hz2 rfl (by decide) r.S J7.seen.length (J7.seen.flatMap thingCells) rfl (by exact(World.ownsRow.alloc rS _).drew) ⟨wc.heap.size,0,none⟩ 1 1 [.string nm,.int .i64 kd,.bool sc,.int .i64 J1.size,.int .i64 n] rfl rfl (by exact row_new wc [.string nm,.int .i64 kd,.bool sc,.int .i64 J1.size,.int .i64 n] _) hone (few_le (by omega)) (by omega) Nat.one_pos ?_;intro g39 cap39 w39 hv hg hk;have gr39:=Grew.of ((More.refl wc).alloc _).drew hg hk;have q4':w39.cell? ⟨b,4,none⟩=some r.S:=(World.cell?_of_block (gr39.block b nb nbS)).trans q4;have f4':w39.frozen? ⟨b,4,none⟩=false:=(World.frozen?_of_block (gr39.block b nb nbS)).trans f4;clear hg hk)
      all_goals
       go_wp2_with fail
       go_meet
       case rel=>
        have PS:=S15.rep.pushS ⟨nm,kd,sc,J1.size,n⟩ hv gr39
        exact⟨_,S15.moves PS.1 PS.2⟩
     case rest=>
      obtain⟨r16,S16⟩:=hcut
      clear S15
      obtain⟨nn,rfl⟩:=Int.eq_ofNat_of_zero_le (by omega:0<=n)
      have hnn6:nn<=6:=by omega
      go_wp2_with fail
      go_loopg [5] nn (λgk ii wr=>∃(i:Nat) (rr:RV),gk+i=nn/\ii=.int .i64 (i:Int)/\Sd w wr b T {J7 with names:=J7.names+1,size:=J7.size+(nn:Int),seen:=J7.seen++[⟨nm,kd,sc,J1.size,(nn:Int)⟩],shape:=J7.shape++List.replicate i sc} rr k3 k4 [.string nm,.int .i64 kd,.bool sc,.int .i64 J1.size,.int .i64 (nn:Int)] [.string s3,.int .i64 p3])
      case atStart=>exact⟨0,r16,by omega,rfl,by simpa using S16⟩
      case round=>
       obtain⟨i,rr,hgk,rfl,S17⟩:=hrel
       clear S16
       have g4:=S17.d3 4 _ rfl
       by_cases hin:i<nn
       · have x9:=S17.p 9 _ rfl
         have f9:=S17.rep.cells.frozen 9
         have g2:=S17.d3 2 _ rfl
         have nb:=S17.rep.cells.lt
         have n3:=S17.b3.here.lt
         have rH:=S17.rep.shape
         have hlen:(J7.shape++List.replicate i sc).length<=1000:=by simp;omega
         have nbH:rr.H.ownBlock≠some b:=λe=>by
          obtain⟨cur,hc⟩:=ownsRow_block rH e
          have hb:=S17.rep.cells
          unfold At at hb
          rw[hb]at hc
          simp at hc
         dsimp only at rH
         generalize hsh:J7.shape++List.replicate i sc=sh at*
         have HSH:=hide hsh
         clear hsh
         go_wp2_with fail
         go_region_law (refine step_append_row1 rfl (.tmp 126) (.tmp 129) 33 rfl 4 j0 _ 1 1 Tryz.underlying33 ji jz0 jz1 jz2 rfl (by decide) rr.H sh.length (bools sh) rfl (by exact(World.ownsRow.alloc rH _).drew) ⟨wr.heap.size,0,none⟩ 1 1 [.bool sc] rfl rfl (by exact row_new wr [.bool sc] _) (by intro u hu;simp only[List.mem_singleton]at hu;subst hu;rfl) (few_le (by omega)) (by omega) Nat.one_pos ?_;intro g39 cap39 w39 hv hg hk;have gr39:=Grew.of ((More.refl wr).alloc _).drew hg hk;have q9':w39.cell? ⟨b,9,none⟩=some rr.H:=(World.cell?_of_block (gr39.block b nb nbH)).trans x9;have f9':w39.frozen? ⟨b,9,none⟩=false:=(World.frozen?_of_block (gr39.block b nb nbH)).trans f9;clear hg hk)
         all_goals
          go_wp2_with fail
          go_roundg (gk-1)
          case measure=>omega
          case rel=>
           have PH:=S17.rep.pushH sc hv gr39
           have e:J7.shape++List.replicate (i+1) sc=sh++[sc]:=by rw[<-HSH.out,List.replicate_succ',List.append_assoc]
           refine⟨i+1,{rr with H:=.slice (some ⟨g39,0,none⟩) (sh.length+1) cap39},by omega,by go_num,?_⟩
           rw[e]
           exact S17.moves PH.1 PH.2
       · have hie:i=nn:=by omega
         subst hie
         go_wp2_with fail
         go_end0
         rw[HDD.out]
         exact⟨rfl,rr,by simpa[R.added]using S17.rep,S17.mv⟩
theorem decl_c{T:List Tok}(hT:R.Small T)(w:World)(b:Nat)(J:PS)(r:RV)(h:Rep w b T J r)(hb:BdC J):
 Calls Tryz.prog 44 #[P b] w λx w'=>x=.returned (.tuple #[])/\∃r',Rep w' b T (R.decl T J) r'/\Moves b w w':=by
 unfold R.decl
 by_cases hN:(R.opens T J).names=8
 · rw[if_pos hN];exact decl_many w b J r h hb hN
 · rw[if_neg hN];exact decl_in hT w b J r h hb hN
end Go.Proofs.YtejbgcloblpbfaaGreatDoor
