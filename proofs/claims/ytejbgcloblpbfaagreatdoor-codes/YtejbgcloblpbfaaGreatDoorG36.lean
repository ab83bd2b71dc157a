import Derived.Test.YtejbgcloblpbfaaGreatDoorG33
import Derived.StillTailTactics
set_option maxHeartbeats 4000000
set_option maxRecDepth 100000
namespace Go.Proofs.YtejbgcloblpbfaaGreatDoor
open Go.RowKit
open R (Tok Thing Nd PS)
theorem seen64{n:Nat}(h:n<=500):IntKind.i64.wrap (n:Int)=(n:Int):=IntWalk.i64_in _ (by omega)
theorem seen_le{n c:Nat}(h:n+1<=c):(n:Int)<=(c:Int):=by omega
theorem do_for{T:List Tok}(hT:R.Small T)(hEnd:R.Ended T)(f:Nat)(hds:DoesDoes T f)(w:World)(b:Nat)(J:PS)(r:RV)(h:Rep w b T J r)(hb:BdD T (f+1) J)(hO:(R.opens T J).err=0)(hwd:(R.tk T (R.opens T J).i).s.toList=R.kFor):
 Calls Tryz.prog 62 #[P b] w λx w'=>x=.returned (.int .i64 (R.lastN (R.doIn T (R.does T f) (R.tk T J.i).p (R.opens T J))))/\∃r',Rep w' b T (R.doIn T (R.does T f) (R.tk T J.i).p (R.opens T J)) r'/\Moves b w w':=by
 have hoc:=open_c h (by have:=hb.n0;omega) (by have:=hb.n1;omega)
 have hO':=beq_yes hO
 have FA:=hide (do_facts hb hO h.lt)
 have FS:=hide (for_seen hb)
 obtain⟨tp,HTP⟩:∃tp,Hid ((R.tk T J.i).p=tp):=⟨_,rfl⟩
 rw[HTP.out]at hoc ⊢
 generalize R.opens T J=J1 at*
 have HO:=hide hO
 clear hO HTP hb
 obtain⟨t1,HT1⟩:∃t1,Hid (R.tk T J1.i=t1):=⟨_,rfl⟩
 rw[HT1.out]at hwd
 obtain⟨s1,p1⟩:=t1
 dsimp only at*
 have ekSet:(s1.toList==[115,101,116])=false:=by rw[hwd];decide
 have ekPut:(s1.toList==[112,117,116])=false:=by rw[hwd];decide
 have ekIf:(s1.toList==[105,102])=false:=by rw[hwd];decide
 have ekFor:(s1.toList==[102,111,114])=true:=by rw[hwd];decide
 have HWD:=hide hwd
 clear hwd
 obtain⟨i0,hi,hz0,hz1,hz2⟩:=info_parts info_int
 go_enter Tryz.func62,Tryz.ntmps62
 go_wp2_with fail
 refine hoc.mono ?_
 rintro x w2 ⟨rfl,hr2,hm2⟩
 have q2:=hr2.c1 2 _ rfl
 go_wp2_with fail
 have htk:=take_c hr2
 rw[HT1.out]at htk
 refine htk.mono ?_
 rintro x w3 ⟨rfl,hr3,hm3⟩
 clear q2 htk
 go_upto_region 6 with fail
 have S4:St w ((w3.alloc (.cells #[.string s1,.int .i64 p1] 90)).alloc (.cells #[.string s1,.int .i64 0,.string ⟨#[]⟩,.int .i64 0,.bool false,.int .i64 0,.int .i64 0,.slice none 0 0,.slice none 0 0,.bool false] 145)) b T (R.take T J1) r w3.heap.size (w3.heap.size+1) [.string s1,.int .i64 p1] [.string s1,.int .i64 0,.string ⟨#[]⟩,.int .i64 0,.bool false,.int .i64 0,.int .i64 0,.slice none 0 0,.slice none 0 0,.bool false] (.slice none 0 0) []:=by
  have B5:=(hr3.alloc (.cells #[.string s1,.int .i64 p1] 90)).box [.string s1,.int .i64 0,.string ⟨#[]⟩,.int .i64 0,.bool false,.int .i64 0,.int .i64 0,.slice none 0 0,.slice none 0 0,.bool false] 145
  have sz:(w3.alloc (.cells #[.string s1,.int .i64 p1] 90)).heap.size=w3.heap.size+1:=by simp
  rw[sz]at B5
  have R4:=(hr3.alloc (.cells #[.string s1,.int .i64 p1] 90)).alloc (.cells #[.string s1,.int .i64 0,.string ⟨#[]⟩,.int .i64 0,.bool false,.int .i64 0,.int .i64 0,.slice none 0 0,.slice none 0 0,.bool false] 145)
  exact⟨R4,((hm2.trans hm3).alloc _).alloc _,(hr3.box [.string s1,.int .i64 p1] 90).alloc _,B5,⟨ints_nil _,λk hk=>by simp[Value.ownBlock]at hk,R4.tight⟩,λk hk=>by simp[Value.ownBlock]at hk,by have:=hm2.size;have:=hm3.size;omega,by omega⟩
 clear hm2 hm3 hr3 hr2 hoc
 generalize(w3.alloc (.cells #[.string s1,.int .i64 p1] 90)).alloc (.cells #[.string s1,.int .i64 0,.string ⟨#[]⟩,.int .i64 0,.bool false,.int .i64 0,.int .i64 0,.slice none 0 0,.slice none 0 0,.bool false] 145)=W4 at*
 generalize w3.heap.size+1=k5 at*
 generalize w3.heap.size=k4 at*
 have hne:=S4.ne
 have u0:=S4.d4 0 _ rfl
 have u1:=S4.d4 1 _ rfl
 generalize hs2:R.take T J1=J2 at*
 have HS2:=hide hs2
 clear hs2
 have HDW:=hide (dw_for (T:=T) (does:=R.does T f) (p:=tp) (q:=p1) (J:=J2) HWD.out)
 have DOK:=R.doWord_ok hEnd (does:=R.does T f) (λJ h=>R.does_ok hEnd f h) (λJ e=>by rw[R.does_dead _ _ e]) tp ⟨s1,p1⟩ FA.out.2.2.2.2
 rw[HDW.out]at DOK
 have SHN0:=hide (show -100<=(R.doFor T (R.does T f) tp p1 J2).s.nest/\(R.doFor T (R.does T f) tp p1 J2).s.nest<=100 from by have:=DOK.n1;have:=DOK.n2;have:=FA.out.2.1.n0;have:=FA.out.2.1.n1;omega)
 have SNN0:=hide (show(R.doFor T (R.does T f) tp p1 J2).s.nodes.length<=100000 from by have:=DOK.p1;have:=FA.out.2.1.nodes;omega)
 clear DOK
 go_upto_block 0 with fail
 go_cut [] (λwr=>∃rr lv tv,St w wr b T (R.doFor T (R.does T f) tp p1 J2).s rr k4 k5 [.string s1,.int .i64 p1] [.string s1,.int .i64 0,.string (R.doFor T (R.does T f) tp p1 J2).t.name,.int .i64 (R.doFor T (R.does T f) tp p1 J2).t.kind,.bool (R.doFor T (R.does T f) tp p1 J2).t.sec,.int .i64 (R.doFor T (R.does T f) tp p1 J2).t.pos,.int .i64 (R.doFor T (R.does T f) tp p1 J2).t.size,lv,tv,.bool false] lv (R.doFor T (R.does T f) tp p1 J2).L/\IntRow wr b tv (R.doFor T (R.does T f) tp p1 J2).two/\∀j,tv.ownBlock=some j->w.heap.size<=j)
 case first=>
  have HD:Hid (R.doFor T (R.does T f) tp p1 J2=R.doFor T (R.does T f) tp p1 J2):=rfl
  obtain⟨Ja,HSA⟩:∃Ja,Hid ((if J2.loops=2 then R.fail 6 p1 J2 else J2)=Ja):=⟨_,rfl⟩
  obtain⟨nm,HNM⟩:∃nm,Hid (R.freshS T Ja=nm):=⟨_,rfl⟩
  obtain⟨Jb,HSB⟩:∃Jb,Hid (R.fresh T Ja=Jb):=⟨_,rfl⟩
  obtain⟨A,HAA⟩:∃A,Hid (R.ex T Jb=A):=⟨_,rfl⟩
  obtain⟨v1,HV1⟩:∃v1,Hid (R.secAt A.1 A.2=v1):=⟨_,rfl⟩
  obtain⟨Jc,HSC⟩:∃Jc,Hid (R.leaks tp v1 A.1=Jc):=⟨_,rfl⟩
  obtain⟨l,HLL⟩:∃l,Hid (R.does T f (R.push ⟨nm,3,false,J2.loops,0⟩ Jc)=l):=⟨_,rfl⟩
  have HD2:Hid (R.doFor T (R.does T f) tp p1 J2=⟨R.pop l.1,⟨nm,3,false,J2.loops,0⟩,[A.2]++l.2,[]⟩):=by
   show R.doFor T (R.does T f) tp p1 J2=_
   unfold R.doFor
   dsimp only
   rw[HSA.out,HNM.out,HSB.out,HAA.out,HV1.out,HSC.out,HLL.out]
  clear HD
  have HD:=HD2
  clear HD2
  have sa:R.Same T J2 Ja:=by
   rw[<-HSA.out]
   split
   · exact R.fail_same T _ _ _
   · exact⟨rfl,rfl,rfl,Nat.le_refl _,id⟩
  have sb:R.Same T Ja Jb:=by rw[<-HSB.out];exact R.fresh_same T Ja
  have oka:=sa.ok FA.out.2.2.2.2
  have okb:=sa.then (sb.ok oka.lt)
  have aok:R.Ok T Jb A.1:=by rw[<-HAA.out];exact R.ex_ok hEnd okb.lt
  have avl:A.1.err=0->∃x:Nat,A.2=x/\x<A.1.nodes.length:=by rw[<-HAA.out];exact ex_valid okb.lt
  have lk:R.Same T A.1 Jc:=by rw[<-HSC.out];exact R.leaks_same T _ _ _
  have lke:Jc.err=A.1.err:=by rw[<-HSC.out];exact R.leaks_err _ _ _
  have okc:R.Ok T J2 Jc:=sa.then (sb.then (aok.then lk (λe=>by rwa[lke]at e)))
  have hlp:Jc.err=0->J2.loops≠2:=λe hl=>by
   rw[lke,<-HAA.out]at e
   have e1:=ex_err e
   rw[<-HSB.out]at e1
   have e2:=fresh_err e1
   rw[<-HSA.out,if_pos hl]at e2
   exact absurd e2 (R.fail_err (by decide))
  have bdd:(R.push ⟨nm,3,false,J2.loops,0⟩ Jc).err=0->BdD T f (R.push ⟨nm,3,false,J2.loops,0⟩ Jc):=λe=>for_bd FA.out.2.1 FS.out FA.out.2.2.1 okc e (hlp e)
  have lok:=R.does_ok (T:=T) hEnd f (J:=R.push ⟨nm,3,false,J2.loops,0⟩ Jc) okc.lt
  rw[HLL.out]at lok
  have hsl:l.1.seen=Jc.seen++[⟨nm,3,false,J2.loops,0⟩]:=congrArg (λc=>c.1) lok.core
  have hll:l.1.loops=Jc.loops+1:=congrArg (λc=>c.2.2.2.2.1) lok.core
  have hcl:Jc.loops=J2.loops:=congrArg (λc=>c.2.2.2.2.1) okc.core
  have hal:Ja.loops=J2.loops:=congrArg (λc=>c.2.2.2.2.1) sa.core
  have hcs:Jc.seen.length<=500:=by have e:Jc.seen=J2.seen:=congrArg (λc=>c.1) okc.core;rw[e];have:=FA.out.2.1.seen;have:=FA.out.2.1.n1;omega
  have has:Ja.seen.length<=1000:=by have e:Ja.seen=J2.seen:=congrArg (λc=>c.1) sa.core;rw[e];have:=FA.out.2.1.seen;have:=FA.out.2.1.n1;omega
  have l20:=FA.out.2.1.l0
  have l21:=FA.out.2.1.l1
  have HSL:=hide hsl
  have HLP:=hide hll
  have HCL:=hide hcl
  have HAL:=hide hal
  have LKE:=hide lke
  clear hsl hll hcl hal lke lok hlp lk
  have x11:=S4.p 11 _ rfl
  go_upto_if 171 with fail
  go_cut [] (λwr=>St w wr b T Ja r k4 k5 [.string s1,.int .i64 p1] [.string s1,.int .i64 0,.string ⟨#[]⟩,.int .i64 0,.bool false,.int .i64 0,.int .i64 0,.slice none 0 0,.slice none 0 0,.bool false] (.slice none 0 0) [])
  case first=>
   as_aux_lemma=>
   by_cases hl2:J2.loops=2
   · have hl2':=beq_yes hl2
     have e:R.fail 6 p1 J2=Ja:=by rw[<-HSA.out,if_pos hl2]
     clear hl2
     go_wp2_with fail
     refine(fail_c S4.rep 6 p1).mono ?_
     rintro x w11 ⟨rfl,hr11,hm11⟩
     rw[e]at hr11
     go_wp2_with fail
     go_meet
     case rel=>exact S4.moves hr11 hm11
   · have hl2':=beq_no hl2
     have e:J2=Ja:=by rw[<-HSA.out,if_neg hl2]
     clear hl2
     go_wp2_with fail
     go_meet
     case rel=>rw[<-e];exact S4
  case rest=>
   have S5:=hcut
   clear hcut S4 u0 u1 x11
   have x11:=S5.p 11 _ rfl
   rw[HAL.out]at x11
   have g2:=S5.d5 2 _ rfl
   have g3:=S5.d5 3 _ rfl
   have g4:=S5.d5 4 _ rfl
   have g5:=S5.d5 5 _ rfl
   have g6:=S5.d5 6 _ rfl
   have f2:=S5.f5 2
   have f3:=S5.f5 3
   have f4:=S5.f5 4
   have f5:=S5.f5 5
   have f6:=S5.f5 6
   go_wp2_with fail
   have S6:=((((S5.set5 2 (.string ⟨#[]⟩)).set5 3 (.int .i64 3)).set5 4 (.bool false)).set5 5 (.int .i64 J2.loops)).set5 6 (.int .i64 0)
   clear g2 g3 g4 g5 g6 f2 f3 f4 f5 f6 S5 x11
   generalize((((wc.setCell ⟨k5,2,none⟩ (.string ⟨#[]⟩)).setCell ⟨k5,3,none⟩ (.int .i64 3)).setCell ⟨k5,4,none⟩ (.bool false)).setCell ⟨k5,5,none⟩ (.int .i64 J2.loops)).setCell ⟨k5,6,none⟩ (.int .i64 0)=W6 at*
   have frc:=fresh_c S6.rep hT has
   rw[HNM.out,HSB.out]at frc
   refine frc.mono ?_
   rintro x w7 ⟨rfl,hr7,hm7⟩
   have S7:=S6.moves hr7 hm7
   have g2:=S7.d5 2 _ rfl
   have f2:=S7.f5 2
   clear frc S6 hr7 hm7
   go_wp2_with fail
   have S8:=S7.set5 2 (.string nm)
   clear g2 f2 S7
   generalize w7.setCell ⟨k5,2,none⟩ (.string nm)=W8 at*
   have exc:=ex_c hT hEnd S8.rep FA.out.2.1 okb
   rw[HAA.out]at exc
   refine exc.mono ?_
   rintro x w9 ⟨rfl,r9,hr9,hm9⟩
   have S9:=S8.moves hr9 hm9
   clear exc S8 hr9 hm9
   go_upto_region 36 with fail
   go_cut [11] (λs wr=>s=.int .i64 A.2/\St w wr b T Jc r9 k4 k5 [.string s1,.int .i64 p1] [.string s1,.int .i64 0,.string nm,.int .i64 3,.bool false,.int .i64 J2.loops,.int .i64 0,.slice none 0 0,.slice none 0 0,.bool false] (.slice none 0 0) [])
   case first=>
    as_aux_lemma=>
    have x2:=S9.p 2 _ rfl
    cases e5:(A.1.err==0)with
    |false=>
     have hval:v1=false:=by rw[<-HV1.out];unfold R.secAt;rw[e5];rfl
     go_wp2_with fail
     refine(leaks_c S9.rep tp false).mono ?_
     rintro x w11 ⟨rfl,hr11,hm11⟩
     rw[<-hval,HSC.out]at hr11
     go_wp2_with fail
     go_meet
     case rel=>exact⟨rfl,S9.moves hr11 hm11⟩
    |true=>
     obtain⟨xn,hxn,hxl⟩:=avl (eq_of_beq e5)
     have hval:v1=(R.nodeAt A.1 (xn:Int)).sec:=by rw[<-HV1.out];unfold R.secAt;rw[e5,hxn];rfl
     have HXN:=hide hxn
     rw[hxn]at ⊢
     obtain⟨gn,cn,hN,fN,sN⟩:=S9.rep.node hxl
     have x7:=S9.p 7 _ rfl
     rw[hN]at x7
     have HVL:=hide hval
     clear hval hxn
     go_wp2_with fail
     refine(leaks_c S9.rep tp _).mono ?_
     rintro x w11 ⟨rfl,hr11,hm11⟩
     rw[<-HVL.out,HSC.out]at hr11
     go_wp2_with fail
     go_meet
     case rel=>rw[HXN.out];exact⟨rfl,S9.moves hr11 hm11⟩
   case rest=>
    obtain⟨rfl,S10⟩:=hcut
    have BDD:=hide bdd
    clear S9 avl bdd aok
    have y6:=S10.d5 7 _ rfl
    have kb:=S10.b5.ne
    have lc0:0<=Jc.loops:=by rw[HCL.out];omega
    have lc1:Jc.loops<=2:=by rw[HCL.out];omega
    go_upto_region 39 with(at_builtin;refine wpList_append_row1 _ rfl _ _ 32 rfl 3 i0 (.int .i64 0) 1 8 Tryz.underlying32 hi hz0 hz1 hz2 rfl (by decide) _ ([]:List Int).length (ints ([]:List Int)) rfl (by exact World.ownsRow.alloc S10.row.row _) ⟨wc.heap.size,0,none⟩ 1 1 [.int .i64 A.2] rfl rfl (by exact row_new wc [.int .i64 A.2] _) (by intro u hu;simp only[List.mem_singleton]at hu;subst hu;rfl) (few_le (by simp)) (by simp) Nat.one_pos ?_;intro g8 cap8 v8 hv hg hk;have S8:=S10.grew (Grew.of ((More.refl wc).alloc _) hg hk) (ints_snoc hv);have y8:=S8.d5 7 _ rfl;have z8:=S8.f5 7;have a8:=S8.d4 0 _ rfl;have b11:=S8.p 11 _ rfl;have c11:=S8.rep.cells.frozen 11;clear hv hg hk)
    have S9:St w (v8.setCell ⟨k5,7,none⟩ (.slice (some ⟨g8,0,none⟩) 1 cap8)) b T Jc r9 k4 k5 [.string s1,.int .i64 p1] [.string s1,.int .i64 0,.string nm,.int .i64 3,.bool false,.int .i64 J2.loops,.int .i64 0,.slice (some ⟨g8,0,none⟩) 1 cap8,.slice none 0 0,.bool false] (.slice (some ⟨g8,0,none⟩) 1 cap8) [A.2]:=S8.set5 7 _
    have RL:=S9.rep.loop (Jc.loops+1)
    have S11:=S9.moves RL.1 RL.2
    clear S8 S9 RL S10 y6 y8 z8 a8 b11 c11
    generalize(v8.setCell ⟨k5,7,none⟩ (.slice (some ⟨g8,0,none⟩) 1 cap8)).setCell ⟨b,11,none⟩ (.int .i64 (Jc.loops+1))=W11 at*
    go_cut [] (λwr=>∃rr,St w wr b T (R.push ⟨nm,3,false,J2.loops,0⟩ Jc) rr k4 k5 [.string s1,.int .i64 p1] [.string s1,.int .i64 0,.string nm,.int .i64 3,.bool false,.int .i64 J2.loops,.int .i64 0,.slice (some ⟨g8,0,none⟩) 1 cap8,.slice none 0 0,.bool false] (.slice (some ⟨g8,0,none⟩) 1 cap8) [A.2])
    case first=>
     obtain⟨i1,ti,tz0,tz1,tz2⟩:=info_parts info_thing
     have q4:=S11.p 4 _ rfl
     have f4:=S11.rep.cells.frozen 4
     have t2:=S11.d5 2 _ rfl
     have t3:=S11.d5 3 _ rfl
     have t4:=S11.d5 4 _ rfl
     have t5:=S11.d5 5 _ rfl
     have t6:=S11.d5 6 _ rfl
     have nb:=S11.rep.cells.lt
     have n5:=S11.b5.here.lt
     have rS:W11.ownsRow 0 111 5 r9.S Jc.seen.length (Jc.seen.flatMap thingCells):=S11.rep.seen
     have nbS:r9.S.ownBlock≠some b:=λe=>by
      obtain⟨cur,hc⟩:=ownsRow_block rS e
      have hb:=S11.rep.cells
      unfold At at hb
      rw[hb]at hc
      simp at hc
     have hone:∀u∈[Value.string nm,.int .i64 3,.bool false,.int .i64 J2.loops,.int .i64 0],u.oneCell'=true:=by
      intro u hu
      simp only[List.mem_cons,List.not_mem_nil,or_false]at hu
      rcases hu with rfl |rfl |rfl |rfl |rfl<;>rfl
     go_region_law (refine step_append_row1 rfl (.tmp 223) (.tmp 226) 30 rfl 111 i1 _ 5 48 Tryz.underlying30 ti tz0 tz1 tz2 rfl (by decide) r9.S Jc.seen.length (Jc.seen.flatMap thingCells) rfl (by exact(World.ownsRow.alloc rS _).drew) ⟨W11.heap.size,0,none⟩ 1 1 [.string nm,.int .i64 3,.bool false,.int .i64 J2.loops,.int .i64 0] rfl rfl (by exact row_new W11 [.string nm,.int .i64 3,.bool false,.int .i64 J2.loops,.int .i64 0] _) hone (few_le (by omega)) (by omega) Nat.one_pos ?_;intro g39 cap39 w39 hv hg hk;have gr39:=Grew.of ((More.refl W11).alloc _).drew hg hk;have q4':w39.cell? ⟨b,4,none⟩=some r9.S:=(World.cell?_of_block (gr39.block b nb nbS)).trans q4;have f4':w39.frozen? ⟨b,4,none⟩=false:=(World.frozen?_of_block (gr39.block b nb nbS)).trans f4;clear hg hk)
     all_goals
      go_wp2_with fail
      go_meet
      case rel=>
       have PS:=S11.rep.pushS ⟨nm,3,false,J2.loops,0⟩ hv gr39
       exact⟨_,S11.moves PS.1 PS.2⟩
    case rest=>
     as_aux_lemma=>
     obtain⟨r12,S12⟩:=hcut
     clear S11
     have dc:=hds _ b _ r12 S12.rep BDD.out
     rw[HLL.out]at dc
     go_wp2_with fail
     refine dc.mono ?_
     rintro x w13 ⟨lv1,rfl,r13,hr13,hm13,ir1,hl1,lo1⟩
     have S13:=S12.moves hr13 hm13
     have y7:=S13.d5 7 _ rfl
     clear dc lo1 S12 hr13 hm13
     go_upto_region 42 with(at_builtin;refine wpList_append_ints _ rfl _ _ 32 rfl 3 i0 (.int .i64 0) 8 Tryz.underlying32 hi hz0 hz1 hz2 rfl _ 1 (ints [A.2]) rfl (by exact S13.row.row) Nat.one_pos lv1 l.2.length (ints l.2) rfl (by exact ir1.row) (ints_one _) (few_le (by omega)) (by omega) ?_;intro g16 cap16 v16 hv gr;have S16:=S13.grew gr (ints_app (L:=[A.2]) hv);have y7':=S16.d5 7 _ rfl;have z7':=S16.f5 7;clear hv gr)
     have S17:=S16.set5 7 (.slice (some ⟨g16,0,none⟩) (1+l.2.length) cap16)
     clear S16 S13 y7 y7' z7' ir1
     generalize v16.setCell ⟨k5,7,none⟩ (.slice (some ⟨g16,0,none⟩) (1+l.2.length) cap16)=W17 at*
     have hsn:l.1.seen.length=Jc.seen.length+1:=by rw[HSL.out];simp
     have rS:=S17.rep.seen
     rw[hsn]at rS
     obtain⟨gs,cs,hS⟩:=Joins.ownsRow_form rS (by omega)
     have hcs':Jc.seen.length+1<=cs:=by
      rw[hS]at rS
      obtain⟨_,⟨h0,_⟩|⟨g',cap',cur,hv,_,_,hc,_⟩⟩:=rS
      · simp at h0
      · simp only[Value.slice.injEq]at hv
        omega
     go_cut [] (λwr=>∃rr,St w wr b T {l.1 with seen:=l.1.seen.dropLast} rr k4 k5 [.string s1,.int .i64 p1] [.string s1,.int .i64 0,.string nm,.int .i64 3,.bool false,.int .i64 J2.loops,.int .i64 0,.slice (some ⟨g16,0,none⟩) (1+l.2.length) cap16,.slice none 0 0,.bool false] (.slice (some ⟨g16,0,none⟩) (1+l.2.length) cap16) ([A.2]++l.2))
     case first=>
      as_aux_lemma=>
      have q4:=S17.p 4 _ rfl
      rw[hS]at q4
      have f4:=S17.rep.cells.frozen 4
      have HPP:=hide (S17.rep.popS hS hsn)
      have hwr:=seen64 hcs
      have hcs2:=seen_le hcs'
      have H17:=hide S17
      clear S17 hS hsn rS HD HSL HLP HCL HAL LKE HLL HSA HNM HSB HAA HV1 HSC lc0 lc1 kb sa sb oka okb okc
      generalize Jc.seen.length=ns at*
      refine wp_region_still_tail 14 (by kernel_rfl) (by kernel_rfl) ?_
      simp only[List.take_succ_cons,List.take_zero,List.drop_succ_cons,List.drop_zero]
      iterate 14 still_step
      refine wpStill_nil ?_
      change wpList _ _ _ _ _ (World.drew W17)
      go_wp2_with fail
      go_meet
      case rel=>first |exact⟨_,H17.out.moves HPP.out.1.drew HPP.out.2.drew⟩|exact⟨_,H17.out.moves HPP.out.1 HPP.out.2⟩
     case rest=>
      as_aux_lemma=>
      obtain⟨r18,S18⟩:=hcut
      clear S17
      have b11:_=some (Value.int .i64 l.1.loops):=S18.p 11 _ rfl
      have c11:=S18.rep.cells.frozen 11
      have lb0:0<=l.1.loops:=by rw[HLP.out];omega
      have lb1:l.1.loops<=3:=by rw[HLP.out];omega
      have RL:=S18.rep.loop (l.1.loops-1)
      have S19:=S18.moves RL.1 RL.2
      go_wp2_with fail
      go_meet
      case rel=>
       rw[HD.out]
       exact⟨r18,_,.slice none 0 0,S19,⟨ints_nil _,λk hk=>by simp[Value.ownBlock]at hk,S19.rep.tight⟩,λk hk=>by simp[Value.ownBlock]at hk⟩
 case rest=>
  as_aux_lemma=>
  obtain⟨rr,lv,tv,SS,rowt,lot⟩:=hcut
  have HI:Hid (R.doIn T (R.does T f) tp J1=R.addNode ⟨s1,0,(R.doFor T (R.does T f) tp p1 J2).t,(R.doFor T (R.does T f) tp p1 J2).L,(R.doFor T (R.does T f) tp p1 J2).two,false⟩ (R.shut T (R.doFor T (R.does T f) tp p1 J2).s)):=by
   unfold R.doIn
   dsimp only
   rw[HT1.out,HS2.out,HDW.out]
   rfl
  have hnn:=hide (show(R.shut T (R.doFor T (R.does T f) tp p1 J2).s).nodes.length<=100000 from by rw[(R.shut_core T _).2.1];exact SNN0.out)
  have shc:=shut_c SS.rep SHN0.out.1 SHN0.out.2
  have LOT:=hide lot
  clear lot
  generalize R.shut T (R.doFor T (R.does T f) tp p1 J2).s=J9 at*
  go_wp2_with fail
  refine shc.mono ?_
  rintro x w12 ⟨rfl,hr12,hm12⟩
  have S12:=SS.moves hr12 hm12
  have rowt':=rowt.moves hm12
  have m0:=S12.d5 0 _ rfl
  have m1:=S12.d5 1 _ rfl
  have m2:=S12.d5 2 _ rfl
  have m3:=S12.d5 3 _ rfl
  have m4:=S12.d5 4 _ rfl
  have m5:=S12.d5 5 _ rfl
  have m6:=S12.d5 6 _ rfl
  have m7:=S12.d5 7 _ rfl
  have m8:=S12.d5 8 _ rfl
  have m9:=S12.d5 9 _ rfl
  go_wp2_with fail
  refine(node_k S12.rep s1 0 (R.doFor T (R.does T f) tp p1 J2).t (R.doFor T (R.does T f) tp p1 J2).L (R.doFor T (R.does T f) tp p1 J2).two false lv tv S12.row.row rowt'.row hnn.out).mono ?_
  rintro x w13 ⟨rfl,r13,hr13,hm13⟩
  go_wp2_with fail
  go_ret
  rw[HI.out]
  exact⟨rfl,r13,hr13,S12.mv.transX hm13 (λj hj=>hj.elim (S12.lo j) (LOT.out j))⟩
end Go.Proofs.YtejbgcloblpbfaaGreatDoor
