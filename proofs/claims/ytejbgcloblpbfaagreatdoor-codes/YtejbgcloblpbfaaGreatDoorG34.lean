import Derived.Test.YtejbgcloblpbfaaGreatDoorG33
set_option maxHeartbeats 4000000
set_option maxRecDepth 100000
namespace Go.Proofs.YtejbgcloblpbfaaGreatDoor
open Go.RowKit
open R (Tok Thing Nd PS)
theorem dw_put{T:List Tok}{does:PS->PS×List Int}{p:Int}{s:ByteArray}{q:Int}{J:PS}(h:s.toList=R.kPut):R.doWord T does p ⟨s,q⟩ J=R.doPut T p J:=by
 unfold R.doWord;rw[if_neg (by rw[h];decide),if_pos h]
theorem do_put{T:List Tok}(hT:R.Small T)(hEnd:R.Ended T)(f:Nat)(w:World)(b:Nat)(J:PS)(r:RV)(h:Rep w b T J r)(hb:BdD T (f+1) J)(hO:(R.opens T J).err=0)(hwd:(R.tk T (R.opens T J).i).s.toList=R.kPut):
 Calls Tryz.prog 62 #[P b] w λx w'=>x=.returned (.int .i64 (R.lastN (R.doIn T (R.does T f) (R.tk T J.i).p (R.opens T J))))/\∃r',Rep w' b T (R.doIn T (R.does T f) (R.tk T J.i).p (R.opens T J)) r'/\Moves b w w':=by
 have hoc:=open_c h (by have:=hb.n0;omega) (by have:=hb.n1;omega)
 have hO':=beq_yes hO
 have FA:=hide (do_facts hb hO h.lt)
 obtain⟨tp,HTP⟩:∃tp,Hid ((R.tk T J.i).p=tp):=⟨_,rfl⟩
 rw[HTP.out]at hoc ⊢
 generalize R.opens T J=J1 at*
 have HO:=hide hO
 clear hO HTP hb
 obtain⟨t1,HT1⟩:∃t1,Hid (R.tk T J1.i=t1):=⟨_,rfl⟩
 rw[HT1.out]at hwd
 obtain⟨s1,p1⟩:=t1
 dsimp only at*
 have ekSet:(s1.toList==[115,101,116])=false:=by rw[hwd];decide
 have ekPut:(s1.toList==[112,117,116])=true:=by rw[hwd];decide
 have ekIf:(s1.toList==[105,102])=false:=by rw[hwd];decide
 have ekFor:(s1.toList==[102,111,114])=false:=by rw[hwd];decide
 have HWD:=hide hwd
 clear hwd
 obtain⟨i0,hi,hz0,hz1,hz2⟩:=info_parts info_int
 go_enter Tryz.func62,Tryz.ntmps62
 go_wp2_with fail
 refine hoc.mono ?_
 rintro x w2 ⟨rfl,hr2,hm2⟩
 have q2:=hr2.c1 2 _ rfl
 go_wp2_with fail
 have htk:=take_c hr2
 rw[HT1.out]at htk
 refine htk.mono ?_
 rintro x w3 ⟨rfl,hr3,hm3⟩
 clear q2 htk
 go_upto_region 6 with fail
 have S4:St w ((w3.alloc (.cells #[.string s1,.int .i64 p1] 90)).alloc (.cells #[.string s1,.int .i64 0,.string ⟨#[]⟩,.int .i64 0,.bool false,.int .i64 0,.int .i64 0,.slice none 0 0,.slice none 0 0,.bool false] 145)) b T (R.take T J1) r w3.heap.size (w3.heap.size+1) [.string s1,.int .i64 p1] [.string s1,.int .i64 0,.string ⟨#[]⟩,.int .i64 0,.bool false,.int .i64 0,.int .i64 0,.slice none 0 0,.slice none 0 0,.bool false] (.slice none 0 0) []:=by
  have B5:=(hr3.alloc (.cells #[.string s1,.int .i64 p1] 90)).box [.string s1,.int .i64 0,.string ⟨#[]⟩,.int .i64 0,.bool false,.int .i64 0,.int .i64 0,.slice none 0 0,.slice none 0 0,.bool false] 145
  have sz:(w3.alloc (.cells #[.string s1,.int .i64 p1] 90)).heap.size=w3.heap.size+1:=by simp
  rw[sz]at B5
  have R4:=(hr3.alloc (.cells #[.string s1,.int .i64 p1] 90)).alloc (.cells #[.string s1,.int .i64 0,.string ⟨#[]⟩,.int .i64 0,.bool false,.int .i64 0,.int .i64 0,.slice none 0 0,.slice none 0 0,.bool false] 145)
  exact⟨R4,((hm2.trans hm3).alloc _).alloc _,(hr3.box [.string s1,.int .i64 p1] 90).alloc _,B5,⟨ints_nil _,λk hk=>by simp[Value.ownBlock]at hk,R4.tight⟩,λk hk=>by simp[Value.ownBlock]at hk,by have:=hm2.size;have:=hm3.size;omega,by omega⟩
 clear hm2 hm3 hr3 hr2 hoc
 generalize(w3.alloc (.cells #[.string s1,.int .i64 p1] 90)).alloc (.cells #[.string s1,.int .i64 0,.string ⟨#[]⟩,.int .i64 0,.bool false,.int .i64 0,.int .i64 0,.slice none 0 0,.slice none 0 0,.bool false] 145)=W4 at*
 generalize w3.heap.size+1=k5 at*
 generalize w3.heap.size=k4 at*
 have hne:=S4.ne
 have u0:=S4.d4 0 _ rfl
 have u1:=S4.d4 1 _ rfl
 generalize hs2:R.take T J1=J2 at*
 have HS2:=hide hs2
 clear hs2
 have HDW:=hide (dw_put (T:=T) (does:=R.does T f) (p:=tp) (q:=p1) (J:=J2) HWD.out)
 have DOK:=R.doWord_ok hEnd (does:=R.does T f) (λJ h=>R.does_ok hEnd f h) (λJ e=>by rw[R.does_dead _ _ e]) tp ⟨s1,p1⟩ FA.out.2.2.2.2
 rw[HDW.out]at DOK
 have SHN0:=hide (show -100<=(R.doPut T tp J2).s.nest/\(R.doPut T tp J2).s.nest<=100 from by have:=DOK.n1;have:=DOK.n2;have:=FA.out.2.1.n0;have:=FA.out.2.1.n1;omega)
 have SNN0:=hide (show(R.doPut T tp J2).s.nodes.length<=100000 from by have:=DOK.p1;have:=FA.out.2.1.nodes;omega)
 clear DOK
 go_upto_block 0 with fail
 go_cut [] (λwr=>∃rr lv tv,St w wr b T (R.doPut T tp J2).s rr k4 k5 [.string s1,.int .i64 p1] [.string s1,.int .i64 0,.string (R.doPut T tp J2).t.name,.int .i64 (R.doPut T tp J2).t.kind,.bool (R.doPut T tp J2).t.sec,.int .i64 (R.doPut T tp J2).t.pos,.int .i64 (R.doPut T tp J2).t.size,lv,tv,.bool false] lv (R.doPut T tp J2).L/\IntRow wr b tv (R.doPut T tp J2).two/\∀j,tv.ownBlock=some j->w.heap.size<=j)
 case first=>
  as_aux_lemma=>
  have kk:=R.known_same T true false J2
  have okk:=kk.ok FA.out.2.2.2.2
  have hse:J2.seen.length<=1000:=by have:=FA.out.2.1.seen;have:=FA.out.2.1.n1;omega
  have kc:=known_k S4.rep hT hse true false rfl
  have HD:Hid (R.doPut T tp J2=R.doPut T tp J2):=rfl
  unfold R.doPut at HD
  dsimp only at HD
  have HD2:Hid (R.doPut T tp J2=⟨R.leaks tp (R.tellsAt (R.ex T (R.leaks tp (R.secAt (R.ex T (R.known T true false J2)).1 (R.ex T (R.known T true false J2)).2) (R.ex T (R.known T true false J2)).1)).1 (R.knownT T true false J2) (R.ex T (R.leaks tp (R.secAt (R.ex T (R.known T true false J2)).1 (R.ex T (R.known T true false J2)).2) (R.ex T (R.known T true false J2)).1)).2) (R.ex T (R.leaks tp (R.secAt (R.ex T (R.known T true false J2)).1 (R.ex T (R.known T true false J2)).2) (R.ex T (R.known T true false J2)).1)).1,R.knownT T true false J2,[(R.ex T (R.known T true false J2)).2,(R.ex T (R.leaks tp (R.secAt (R.ex T (R.known T true false J2)).1 (R.ex T (R.known T true false J2)).2) (R.ex T (R.known T true false J2)).1)).2],[]⟩):=rfl
  clear HD
  have aok:=R.ex_ok hEnd okk.lt
  have avl:=ex_valid (T:=T) (J:=R.known T true false J2) okk.lt
  generalize R.known T true false J2=J3 at*
  generalize R.knownT T true false J2=q at*
  go_wp2_with fail
  refine kc.mono ?_
  rintro x w5 ⟨rfl,hr5,hm5⟩
  have S5:=S4.moves hr5 hm5
  have g2:=S5.d5 2 _ rfl
  have g3:=S5.d5 3 _ rfl
  have g4:=S5.d5 4 _ rfl
  have g5:=S5.d5 5 _ rfl
  have g6:=S5.d5 6 _ rfl
  have f2:=S5.f5 2
  have f3:=S5.f5 3
  have f4:=S5.f5 4
  have f5:=S5.f5 5
  have f6:=S5.f5 6
  go_wp2_with fail
  have S6:=((((S5.set5 2 (.string q.name)).set5 3 (.int .i64 q.kind)).set5 4 (.bool q.sec)).set5 5 (.int .i64 q.pos)).set5 6 (.int .i64 q.size)
  clear g2 g3 g4 g5 g6 f2 f3 f4 f5 f6 hr5 hm5 S5 S4 u0 u1 kc
  generalize((((w5.setCell ⟨k5,2,none⟩ (.string q.name)).setCell ⟨k5,3,none⟩ (.int .i64 q.kind)).setCell ⟨k5,4,none⟩ (.bool q.sec)).setCell ⟨k5,5,none⟩ (.int .i64 q.pos)).setCell ⟨k5,6,none⟩ (.int .i64 q.size)=W6 at*
  have exc:=ex_c hT hEnd S6.rep FA.out.2.1 okk
  generalize R.ex T J3=A at*
  have lk:=R.leaks_same T tp (R.secAt A.1 A.2) A.1
  have alo:=kk.then (aok.then lk (λe=>by rwa[R.leaks_err]at e))
  have cvl:=ex_valid (T:=T) (J:=R.leaks tp (R.secAt A.1 A.2) A.1) alo.lt
  obtain⟨v1,HV1⟩:∃v1,Hid (R.secAt A.1 A.2=v1):=⟨_,rfl⟩
  rw[HV1.out]at alo cvl HD2
  generalize hLK:R.leaks tp v1 A.1=J10 at*
  have HLK:=hide hLK
  clear hLK lk
  obtain⟨Cx,HCX⟩:∃Cx,Hid (R.ex T J10=Cx):=⟨_,rfl⟩
  rw[HCX.out]at cvl HD2
  have HD:=HD2
  clear HD2
  refine exc.mono ?_
  rintro x w7 ⟨rfl,r7,hr7,hm7⟩
  have S7:=S6.moves hr7 hm7
  have y6:=S7.d5 7 _ rfl
  clear exc S6 hr7 hm7
  go_upto_region 14 with(at_builtin;refine wpList_append_row1 _ rfl _ _ 32 rfl 3 i0 (.int .i64 0) 1 8 Tryz.underlying32 hi hz0 hz1 hz2 rfl (by decide) _ ([]:List Int).length (ints ([]:List Int)) rfl (by exact World.ownsRow.alloc S7.row.row _) ⟨w7.heap.size,0,none⟩ 1 1 [.int .i64 A.2] rfl rfl (by exact row_new w7 [.int .i64 A.2] _) (by intro u hu;simp only[List.mem_singleton]at hu;subst hu;rfl) (few_le (by simp)) (by simp) Nat.one_pos ?_;intro g8 cap8 v8 hv hg hk;have S8:=S7.grew (Grew.of ((More.refl w7).alloc _) hg hk) (ints_snoc hv);have y8:=S8.d5 7 _ rfl;have z8:=S8.f5 7;have a8:=S8.d4 0 _ rfl;clear hv hg hk)
  have S9:St w (v8.setCell ⟨k5,7,none⟩ (.slice (some ⟨g8,0,none⟩) 1 cap8)) b T A.1 r7 k4 k5 [.string s1,.int .i64 p1] [.string s1,.int .i64 0,.string q.name,.int .i64 q.kind,.bool q.sec,.int .i64 q.pos,.int .i64 q.size,.slice (some ⟨g8,0,none⟩) 1 cap8,.slice none 0 0,.bool false] (.slice (some ⟨g8,0,none⟩) 1 cap8) [A.2]:=S8.set5 7 _
  clear S8 S7 y6 y8 z8 a8
  generalize v8.setCell ⟨k5,7,none⟩ (.slice (some ⟨g8,0,none⟩) 1 cap8)=W9 at*
  go_cut [6] (λ_ wr=>St w wr b T J10 r7 k4 k5 [.string s1,.int .i64 p1] [.string s1,.int .i64 0,.string q.name,.int .i64 q.kind,.bool q.sec,.int .i64 q.pos,.int .i64 q.size,.slice (some ⟨g8,0,none⟩) 1 cap8,.slice none 0 0,.bool false] (.slice (some ⟨g8,0,none⟩) 1 cap8) [A.2])
  case first=>
   have x2:=S9.p 2 _ rfl
   cases e5:(A.1.err==0)with
   |false=>
    as_aux_lemma=>
    have hval:v1=false:=by rw[<-HV1.out];unfold R.secAt;rw[e5];rfl
    go_wp2_with fail
    refine(leaks_c S9.rep tp false).mono ?_
    rintro x w11 ⟨rfl,hr11,hm11⟩
    rw[<-hval,HLK.out]at hr11
    go_wp2_with fail
    go_meet
    case rel=>exact S9.moves hr11 hm11
   |true=>
    as_aux_lemma=>
    obtain⟨xn,hxn,hxl⟩:=avl (eq_of_beq e5)
    have hval:v1=(R.nodeAt A.1 (xn:Int)).sec:=by rw[<-HV1.out];unfold R.secAt;rw[e5,hxn];rfl
    have HXN:=hide hxn
    rw[hxn]at S9 ⊢
    obtain⟨gn,cn,hN,fN,sN⟩:=S9.rep.node hxl
    have x7:=S9.p 7 _ rfl
    rw[hN]at x7
    have HVL:=hide hval
    clear hval hxn
    go_wp2_with fail
    refine(leaks_c S9.rep tp _).mono ?_
    rintro x w11 ⟨rfl,hr11,hm11⟩
    rw[<-HVL.out,HLK.out]at hr11
    go_wp2_with fail
    go_meet
    case rel=>rw[HXN.out];exact S9.moves hr11 hm11
  case rest=>
   as_aux_lemma=>
   have S10:=hcut
   clear hcut S9
   have exc:=ex_c hT hEnd S10.rep FA.out.2.1 alo
   rw[HCX.out]at exc
   go_wp2_with fail
   refine exc.mono ?_
   rintro x w11 ⟨rfl,r11,hr11,hm11⟩
   have S11:=S10.moves hr11 hm11
   have y6:=S11.d5 7 _ rfl
   clear exc S10 hr11 hm11
   go_upto_region 17 with(at_builtin;refine wpList_append_row1 _ rfl _ _ 32 rfl 3 i0 (.int .i64 0) 1 8 Tryz.underlying32 hi hz0 hz1 hz2 rfl (by decide) _ [A.2].length (ints [A.2]) rfl (by exact World.ownsRow.alloc S11.row.row _) ⟨w11.heap.size,0,none⟩ 1 1 [.int .i64 Cx.2] rfl rfl (by exact row_new w11 [.int .i64 Cx.2] _) (by intro u hu;simp only[List.mem_singleton]at hu;subst hu;rfl) (few_le (by simp)) (by simp) Nat.one_pos ?_;intro g12 cap12 v12 hv hg hk;have S12:=S11.grew (Grew.of ((More.refl w11).alloc _) hg hk) (ints_snoc hv);have y12:=S12.d5 7 _ rfl;have z12:=S12.f5 7;have a12:=S12.d4 0 _ rfl;clear hv hg hk)
   have S13:St w (v12.setCell ⟨k5,7,none⟩ (.slice (some ⟨g12,0,none⟩) 2 cap12)) b T Cx.1 r11 k4 k5 [.string s1,.int .i64 p1] [.string s1,.int .i64 0,.string q.name,.int .i64 q.kind,.bool q.sec,.int .i64 q.pos,.int .i64 q.size,.slice (some ⟨g12,0,none⟩) 2 cap12,.slice none 0 0,.bool false] (.slice (some ⟨g12,0,none⟩) 2 cap12) [A.2,Cx.2]:=S12.set5 7 _
   clear S12 S11 y6 y12 z12 a12
   generalize v12.setCell ⟨k5,7,none⟩ (.slice (some ⟨g12,0,none⟩) 2 cap12)=W13 at*
   obtain⟨val,HVAL⟩:∃val,Hid (R.tellsAt Cx.1 q Cx.2=val):=⟨_,rfl⟩
   rw[HVAL.out]at HD
   have x2:=S13.p 2 _ rfl
   have x4:=S13.d5 4 _ rfl
   cases e5:(Cx.1.err==0)with
   |false=>
    as_aux_lemma=>
    have hval:false=val:=by rw[<-HVAL.out];unfold R.tellsAt;rw[e5];rfl
    clear HVAL
    subst hval
    go_wp2_with fail
    refine(leaks_c S13.rep tp false).mono ?_
    rintro x w11 ⟨rfl,hr11,hm11⟩
    go_wp2_with fail
    go_meet
    case rel=>
     rw[HD.out]
     exact⟨r11,_,.slice none 0 0,S13.moves hr11 hm11,⟨ints_nil _,λk hk=>by simp[Value.ownBlock]at hk,hr11.tight⟩,λk hk=>by simp[Value.ownBlock]at hk⟩
   |true=>
    obtain⟨xn,hxn,hxl⟩:=cvl (eq_of_beq e5)
    rw[hxn]at HVAL HD S13 ⊢
    obtain⟨gn,cn,hN,fN,sN⟩:=S13.rep.node hxl
    have x7:=S13.p 7 _ rfl
    rw[hN]at x7
    have x12:=S13.p 12 _ rfl
    cases hqs:q.sec with
    |true=>
     as_aux_lemma=>
     have hval:false=val:=by rw[<-HVAL.out];unfold R.tellsAt;rw[e5,hqs];rfl
     rw[hqs]at x4
     clear HVAL
     subst hval
     go_wp2_with fail
     refine(leaks_c S13.rep tp false).mono ?_
     rintro x w11 ⟨rfl,hr11,hm11⟩
     go_wp2_with fail
     go_meet
     case rel=>
      rw[HD.out]
      exact⟨r11,_,.slice none 0 0,S13.moves hr11 hm11,⟨ints_nil _,λk hk=>by simp[Value.ownBlock]at hk,hr11.tight⟩,λk hk=>by simp[Value.ownBlock]at hk⟩
    |false=>
     rw[hqs]at x4
     by_cases hhid:0<Cx.1.hidden
     · as_aux_lemma=>
       have hval:true=val:=by rw[<-HVAL.out];unfold R.tellsAt;rw[e5,hqs,decide_eq_true hhid];rfl
       clear HVAL
       subst hval
       go_wp2_with fail
       refine(leaks_c S13.rep tp true).mono ?_
       rintro x w11 ⟨rfl,hr11,hm11⟩
       go_wp2_with fail
       go_meet
       case rel=>
        rw[HD.out]
        exact⟨r11,_,.slice none 0 0,S13.moves hr11 hm11,⟨ints_nil _,λk hk=>by simp[Value.ownBlock]at hk,hr11.tight⟩,λk hk=>by simp[Value.ownBlock]at hk⟩
     · as_aux_lemma=>
       have hval:(R.nodeAt Cx.1 (xn:Int)).sec=val:=by rw[<-HVAL.out];unfold R.tellsAt;rw[e5,hqs,decide_eq_false hhid];simp
       clear HVAL
       subst hval
       go_wp2_with fail
       refine(leaks_c S13.rep tp _).mono ?_
       rintro x w11 ⟨rfl,hr11,hm11⟩
       go_wp2_with fail
       go_meet
       case rel=>
        rw[HD.out]
        exact⟨r11,_,.slice none 0 0,S13.moves hr11 hm11,⟨ints_nil _,λk hk=>by simp[Value.ownBlock]at hk,hr11.tight⟩,λk hk=>by simp[Value.ownBlock]at hk⟩
 case rest=>
  as_aux_lemma=>
  obtain⟨rr,lv,tv,SS,rowt,lot⟩:=hcut
  have HI:Hid (R.doIn T (R.does T f) tp J1=R.addNode ⟨s1,0,(R.doPut T tp J2).t,(R.doPut T tp J2).L,(R.doPut T tp J2).two,false⟩ (R.shut T (R.doPut T tp J2).s)):=by
   unfold R.doIn
   dsimp only
   rw[HT1.out,HS2.out,HDW.out]
   rfl
  have hnn:=hide (show(R.shut T (R.doPut T tp J2).s).nodes.length<=100000 from by rw[(R.shut_core T _).2.1];exact SNN0.out)
  have shc:=shut_c SS.rep SHN0.out.1 SHN0.out.2
  have LOT:=hide lot
  clear lot
  generalize R.shut T (R.doPut T tp J2).s=J9 at*
  go_wp2_with fail
  refine shc.mono ?_
  rintro x w12 ⟨rfl,hr12,hm12⟩
  have S12:=SS.moves hr12 hm12
  have rowt':=rowt.moves hm12
  have m0:=S12.d5 0 _ rfl
  have m1:=S12.d5 1 _ rfl
  have m2:=S12.d5 2 _ rfl
  have m3:=S12.d5 3 _ rfl
  have m4:=S12.d5 4 _ rfl
  have m5:=S12.d5 5 _ rfl
  have m6:=S12.d5 6 _ rfl
  have m7:=S12.d5 7 _ rfl
  have m8:=S12.d5 8 _ rfl
  have m9:=S12.d5 9 _ rfl
  go_wp2_with fail
  refine(node_k S12.rep s1 0 (R.doPut T tp J2).t (R.doPut T tp J2).L (R.doPut T tp J2).two false lv tv S12.row.row rowt'.row hnn.out).mono ?_
  rintro x w13 ⟨rfl,r13,hr13,hm13⟩
  go_wp2_with fail
  go_ret
  rw[HI.out]
  exact⟨rfl,r13,hr13,S12.mv.transX hm13 (λj hj=>hj.elim (S12.lo j) (LOT.out j))⟩
theorem tok_row{w:World}{v:Value}{l:List Tok}{t:Tok}(h:w.ownsRow 0 90 2 v (l.length+1) (l.flatMap tokCells++[.string t.s,.int .i64 t.p])):w.ownsRow 0 90 2 v (l++[t]).length ((l++[t]).flatMap tokCells):=by
 simpa[tokCells]using h
structure Own(w0 w:World):Prop where
 os:w.os=w0.os
 tape:w.tape=w0.tape
 output:w.output=w0.output
 size:w0.heap.size<=w.heap.size
 block:∀k,k<w0.heap.size->w.heap[k]?=w0.heap[k]?
theorem Own.refl(w:World):Own w w:=⟨rfl,rfl,rfl,Nat.le_refl _,λ_ _=>rfl⟩
theorem Own.grew{w0 w w':World}{v v':Value}(h:Own w0 w)(g:Grew w w' v v')(lo:∀k,v.ownBlock=some k->w0.heap.size<=k):Own w0 w':=
 ⟨g.os.trans h.os,g.tape.trans h.tape,g.output.trans h.output,Nat.le_trans h.size g.size,λk hk=>(g.block k (Nat.lt_of_lt_of_le hk h.size) (λe=>by have:=lo k e;omega)).trans (h.block k hk)⟩
structure Cut(w0 w:World)(out:Value)(l:List Tok):Prop where
 row:w.ownsRow 0 90 2 out l.length (l.flatMap tokCells)
 own:Own w0 w
 lo:∀j,out.ownBlock=some j->w0.heap.size<=j
theorem Cut.grew{w0 w w':World}{out out':Value}{l:List Tok}(h:Cut w0 w out l)(t:Tok)(g:Grew w w' out out')(row:w'.ownsRow 0 90 2 out' (l.length+1) (l.flatMap tokCells++[.string t.s,.int .i64 t.p])):Cut w0 w' out' (l++[t]):=
 ⟨tok_row row,h.own.grew g h.lo,λj hj=>(g.own j hj).elim (h.lo j) (λe=>Nat.le_trans h.own.size e)⟩
theorem stop_end{s:ByteArray}{i:Nat}(h:i=s.size):R.isStop s i=true:=by unfold R.isStop;rw[h];simp
theorem stop_byte{s:ByteArray}{i:Nat}(h:i<s.size):R.isStop s i=(s[i]==32||s[i]==10||s[i]==40||s[i]==41):=by
 unfold R.isStop;rw[R.byte_get s i h,show(i==s.size)=false from beq_no (by omega)];rfl
theorem br_byte{s:ByteArray}{i:Nat}(h:i<s.size):R.isBr s i=(s[i]==40||s[i]==41):=by
 unfold R.isBr;rw[R.byte_get s i h,decide_eq_true h];rfl
theorem br_end{s:ByteArray}{i:Nat}(h:¬i<s.size):R.isBr s i=false:=by
 unfold R.isBr;rw[decide_eq_false h];rfl
theorem u8_beq(a:UInt8)(n:Nat)(hn:n<256):((a.toNat:Int)==(n:Int))=(a==UInt8.ofNat n):=by
 rw[Bool.eq_iff_iff,beq_iff_eq,beq_iff_eq]
 constructor
 · intro h
   apply UInt8.toNat_inj.1
   rw[UInt8.toNat_ofNat']
   omega
 · rintro rfl
   rw[UInt8.toNat_ofNat']
   omega
theorem cut_c(s:ByteArray)(w:World)(hs:s.size<=1000):
 Calls Tryz.prog 42 #[.string s] w λx w'=>∃v,x=.returned v/\Cut w w' v (R.toks s):=by
 obtain⟨i0,hi,hz0,hz1,hz2⟩:=info_parts info_word
 go_enter Tryz.func42,Tryz.ntmps42
 go_wp2_with fail
 go_loopg [3,4,5,6] (s.size+2) (λgk out fr ii _ wr=>∃i:Nat,i<=s.size+1/\gk+i=s.size+2/\ii=.int .i64 (i:Int)/\fr=.int .i64 (R.cutTo s i).f/\Cut w wr out (R.cutTo s i).out)
 case atStart=>exact⟨0,by omega,by omega,rfl,rfl,World.ownsRow_nil w 0 _ 2,Own.refl w,λj hj=>by simp[Value.ownBlock]at hj⟩
 case round=>
  obtain⟨i,hi1,hgk,rfl,rfl,C0⟩:=hrel
  have bd:=R.cutTo_bd s i
  have HC:Hid (R.cutTo s (i+1)=R.cut3 s i (R.cut2 s i (R.cut1 s i (R.cutTo s i)))):=rfl
  have HF:Hid (R.toks s=(R.cutTo s (s.size+1)).out++[⟨⟨#[]⟩,s.size⟩]):=rfl
  generalize hc:R.cutTo s i=c at*
  have HCC:=hide hc
  clear hc
  obtain⟨cf,co⟩:=c
  dsimp only at*
  obtain⟨b1,b2,b3⟩:=bd
  by_cases hle:i<=s.size
  · go_upto_region 6 with fail
    obtain⟨st0,HST⟩:∃st0,Hid (R.isStop s i=st0):=⟨_,rfl⟩
    go_cut [6] (λst wx=>st=.bool st0/\Cut w wx u3 co)
    case first=>
     as_aux_lemma=>
     by_cases hlt:i<s.size
     · have HSB:Hid ((s[i]==32||s[i]==10||s[i]==40||s[i]==41)=st0):=by rw[<-stop_byte hlt];exact HST.out
       have q1:=u8_beq s[i] 32 (by omega)
       have q2:=u8_beq s[i] 10 (by omega)
       have q3:=u8_beq s[i] 40 (by omega)
       have q4:=u8_beq s[i] 41 (by omega)
       have qn:((i:Int)==(s.size:Int))=false:=beq_no (by omega)
       cases e1:(s[i]==32)with
       |true=>
        have e1':((s[i].toNat:Int)==32)=true:=q1.trans e1
        have hst:true=st0:=by rw[<-HSB.out,e1];rfl
        subst hst
        clear q1 q2 q3 q4 e1 HSB HST
        go_wp2_with fail
        go_meet
        case rel=>exact⟨rfl,C0⟩
       |false=>
        have e1':((s[i].toNat:Int)==32)=false:=q1.trans e1
        cases e2:(s[i]==10)with
        |true=>
         have e2':((s[i].toNat:Int)==10)=true:=q2.trans e2
         have hst:true=st0:=by rw[<-HSB.out,e1,e2];rfl
         subst hst
         clear q1 q2 q3 q4 e1 e2 HSB HST
         go_wp2_with fail
         go_meet
         case rel=>exact⟨rfl,C0⟩
        |false=>
         have e2':((s[i].toNat:Int)==10)=false:=q2.trans e2
         cases e3:(s[i]==40)with
         |true=>
          have e3':((s[i].toNat:Int)==40)=true:=q3.trans e3
          have hst:true=st0:=by rw[<-HSB.out,e1,e2,e3];rfl
          subst hst
          clear q1 q2 q3 q4 e1 e2 e3 HSB HST
          go_wp2_with fail
          go_meet
          case rel=>exact⟨rfl,C0⟩
         |false=>
          have e3':((s[i].toNat:Int)==40)=false:=q3.trans e3
          have e4':((s[i].toNat:Int)==41)=(s[i]==41):=q4
          have hst:(s[i]==41)=st0:=by rw[<-HSB.out,e1,e2,e3];rfl
          rw[hst]at e4'
          clear q1 q2 q3 q4 e1 e2 e3 HSB HST hst
          go_wp2_with fail
          go_meet
          case rel=>exact⟨rfl,C0⟩
     · have he:i=s.size:=by omega
       have qn:((i:Int)==(s.size:Int))=true:=beq_yes (by omega)
       have hst:true=st0:=by rw[<-HST.out,stop_end he]
       subst hst
       clear he HST
       go_wp2_with fail
       go_meet
       case rel=>exact⟨rfl,C0⟩
    case rest=>
     as_aux_lemma=>
     obtain⟨rfl,C1⟩:=hcut
     clear C0
     obtain⟨c1,HC1⟩:∃c1,Hid (R.cut1 s i ⟨cf,co⟩=c1):=⟨_,rfl⟩
     have bd1:=R.cut1_bd (s:=s) (i:=i) (c:=⟨cf,co⟩) ⟨b1,b2⟩
     rw[HC1.out]at bd1 HC
     obtain⟨f1,l1⟩:=c1
     dsimp only at bd1
     obtain⟨d1,d2,d3⟩:=bd1
     go_upto_region 7 with fail
     go_cut [45] (λq wx=>q=.bool (st0&&decide (0<=cf))/\Cut w wx u3 co)
     case first=>
      as_aux_lemma=>
      cases st0 with
      |true=>
       go_wp2_with fail
       go_meet
       case rel=>exact⟨rfl,C1⟩
      |false=>
       go_wp2_with fail
       go_meet
       case rel=>exact⟨rfl,C1⟩
     case rest=>
      obtain⟨rfl,C2⟩:=hcut
      clear C1
      go_upto_if 45 with fail
      go_cut [3,4,45] (λout fr _ wx=>fr=.int .i64 f1/\Cut w wx out l1)
      case first=>
       as_aux_lemma=>
       by_cases hc:st0=true/\0<=cf
       · obtain⟨rfl,hcf⟩:=hc
         have e:=HC1.out
         unfold R.cut1 at e
         rw[if_pos ⟨HST.out,hcf⟩]at e
         simp only[R.CS.mk.injEq]at e
         obtain⟨rfl,rfl⟩:=e
         have hd:decide (0<=cf)=true:=decide_eq_true hcf
         rw[hd]
         obtain⟨n,rfl⟩:=Int.eq_ofNat_of_zero_le hcf
         have hn1:n<=i:=by omega
         clear hcf hd HC1 HST HC
         go_wp2_with (at_builtin;refine wpList_append_row1 _ rfl _ _ 29 rfl 90 i0 _ 2 24 Tryz.underlying29 hi hz0 hz1 hz2 rfl (by decide) _ co.length (co.flatMap tokCells) rfl (by exact World.ownsRow.alloc C2.row _) ⟨wc.heap.size,0,none⟩ 1 1 [.string (s.extract n i),.int .i64 (n:Int)] rfl rfl (by exact row_new wc [.string (s.extract n i),.int .i64 (n:Int)] _) (by intro u hu;simp only[List.mem_cons,List.not_mem_nil,or_false]at hu;rcases hu with rfl |rfl<;>rfl) (few_le (by omega)) (by omega) Nat.one_pos ?_;intro g cap w7 hv hg hk;have C3:=C2.grew ⟨(s.extract n i),(n:Int)⟩ (Grew.of ((More.refl wc).alloc _) hg hk) hv;clear hv hg hk)
         go_meet
         case rel=>exact⟨rfl,C3⟩
       · have hd:(st0&&decide (0<=cf))=false:=by
          rw[Bool.eq_false_iff]
          intro h
          rw[Bool.and_eq_true,decide_eq_true_iff]at h
          exact hc h
         have e:=HC1.out
         unfold R.cut1 at e
         rw[if_neg (by rw[HST.out];exact hc)]at e
         simp only[R.CS.mk.injEq]at e
         obtain⟨rfl,rfl⟩:=e
         rw[hd]
         go_wp2_with fail
         go_meet
         case rel=>exact⟨rfl,C2⟩
      case rest=>
       obtain⟨rfl,C3⟩:=hcut
       clear C2
       obtain⟨c2,HC2⟩:∃c2,Hid (R.cut2 s i ⟨f1,l1⟩=c2):=⟨_,rfl⟩
       have bd2:=R.cut2_bd (s:=s) (i:=i) (c:=⟨f1,l1⟩) ⟨d1,d2⟩
       rw[HC2.out]at bd2 HC
       obtain⟨f2,l2⟩:=c2
       dsimp only at bd2
       obtain⟨e1,e2,rfl⟩:=bd2
       go_upto_region 10 with fail
       go_cut [60] (λq wx=>q=.bool (!st0&&decide (f1<0))/\Cut w wx u3 l2)
       case first=>
        as_aux_lemma=>
        cases st0 with
        |true=>
         go_wp2_with fail
         go_meet
         case rel=>exact⟨rfl,C3⟩
        |false=>
         go_wp2_with fail
         go_meet
         case rel=>exact⟨rfl,C3⟩
       case rest=>
        obtain⟨rfl,C4⟩:=hcut
        clear C3
        go_upto_if 60 with fail
        go_cut [4,60] (λfr _ wx=>fr=.int .i64 f2/\Cut w wx u3 l2)
        case first=>
         as_aux_lemma=>
         by_cases hc:st0=false/\f1<0
         · obtain⟨rfl,hcf⟩:=hc
           have e:=HC2.out
           unfold R.cut2 at e
           rw[if_pos ⟨HST.out,hcf⟩]at e
           simp only[R.CS.mk.injEq]at e
           obtain⟨rfl,_⟩:=e
           have hd:decide (f1<0)=true:=decide_eq_true hcf
           rw[hd]
           clear hd
           go_wp2_with fail
           go_meet
           case rel=>exact⟨rfl,C4⟩
         · have hd:(!st0&&decide (f1<0))=false:=by
            rw[Bool.eq_false_iff]
            intro h
            rw[Bool.and_eq_true,decide_eq_true_iff,Bool.not_eq_true']at h
            exact hc h
           have e:=HC2.out
           unfold R.cut2 at e
           rw[if_neg (by rw[HST.out];exact hc)]at e
           simp only[R.CS.mk.injEq]at e
           obtain⟨rfl,_⟩:=e
           rw[hd]
           go_wp2_with fail
           go_meet
           case rel=>exact⟨rfl,C4⟩
        case rest=>
         obtain⟨rfl,C5⟩:=hcut
         clear C4
         obtain⟨c3,HC3⟩:∃c3,Hid (R.cut3 s i ⟨f2,l2⟩=c3):=⟨_,rfl⟩
         have bd3:=R.cut3_bd (s:=s) (i:=i) (c:=⟨f2,l2⟩) ⟨e1,e2⟩
         rw[HC3.out]at bd3 HC
         obtain⟨f3,l3⟩:=c3
         dsimp only at bd3
         have hf3:f2=f3:=by
          have e:=congrArg R.CS.f HC3.out
          unfold R.cut3 at e
          split at e<;>exact e
         subst hf3
         obtain⟨br,HBR⟩:∃br,Hid (R.isBr s i=br):=⟨_,rfl⟩
         go_upto_region 12 with fail
         go_cut [77] (λq wx=>q=.bool br/\Cut w wx u3 l2)
         case first=>
          as_aux_lemma=>
          by_cases hlt:i<s.size
          · have HSB:Hid ((s[i]==40||s[i]==41)=br):=by rw[<-br_byte hlt];exact HBR.out
            have q3:=u8_beq s[i] 40 (by omega)
            have q4:=u8_beq s[i] 41 (by omega)
            cases e3:(s[i]==40)with
            |true=>
             have e3':((s[i].toNat:Int)==40)=true:=q3.trans e3
             have hst:true=br:=by rw[<-HSB.out,e3];rfl
             subst hst
             clear q3 q4 e3 HSB HBR
             go_wp2_with fail
             go_meet
             case rel=>exact⟨rfl,C5⟩
            |false=>
             have e3':((s[i].toNat:Int)==40)=false:=q3.trans e3
             have e4':((s[i].toNat:Int)==41)=(s[i]==41):=q4
             have hst:(s[i]==41)=br:=by rw[<-HSB.out,e3];rfl
             rw[hst]at e4'
             clear q3 q4 e3 HSB HBR hst
             go_wp2_with fail
             go_meet
             case rel=>exact⟨rfl,C5⟩
          · have hst:false=br:=by rw[<-HBR.out,br_end hlt]
            subst hst
            clear HBR
            go_wp2_with fail
            go_meet
            case rel=>exact⟨rfl,C5⟩
         case rest=>
          obtain⟨rfl,C6⟩:=hcut
          clear C5
          cases br with
          |true=>
           as_aux_lemma=>
           have e:=congrArg R.CS.out HC3.out
           unfold R.cut3 at e
           rw[if_pos HBR.out]at e
           have e':l2++[⟨s.extract i (i+1),(i:Int)⟩]=l3:=e
           subst e'
           have hlt:i<s.size:=by
            have:=HBR.out
            by_cases hlt:i<s.size
            · exact hlt
            · rw[br_end hlt]at this;exact absurd this (by decide)
           clear e HC3 HBR
           go_wp2_with (at_builtin;refine wpList_append_row1 _ rfl _ _ 29 rfl 90 i0 _ 2 24 Tryz.underlying29 hi hz0 hz1 hz2 rfl (by decide) _ l2.length (l2.flatMap tokCells) rfl (by exact World.ownsRow.alloc C6.row _) ⟨wc.heap.size,0,none⟩ 1 1 [.string (s.extract i (i+1)),.int .i64 (i:Int)] rfl rfl (by exact row_new wc [.string (s.extract i (i+1)),.int .i64 (i:Int)] _) (by intro u hu;simp only[List.mem_cons,List.not_mem_nil,or_false]at hu;rcases hu with rfl |rfl<;>rfl) (few_le (by omega)) (by omega) Nat.one_pos ?_;intro g cap w7 hv hg hk;have C7:=C6.grew ⟨(s.extract i (i+1)),(i:Int)⟩ (Grew.of ((More.refl wc).alloc _) hg hk) hv;clear hv hg hk)
           go_roundg (gk-1)
           case measure=>omega
           case rel=>exact⟨i+1,by omega,by omega,by go_num,by rw[HC.out],by rw[HC.out];exact C7⟩
          |false=>
           as_aux_lemma=>
           have e:=congrArg R.CS.out HC3.out
           unfold R.cut3 at e
           rw[if_neg (by rw[HBR.out];decide)]at e
           have e':l2=l3:=e
           subst e'
           go_wp2_with fail
           go_roundg (gk-1)
           case measure=>omega
           case rel=>exact⟨i+1,by omega,by omega,by go_num,by rw[HC.out],by rw[HC.out];exact C6⟩
  · have hie:i=s.size+1:=by omega
    subst hie
    have hb3:co.length<=2*(s.size+1):=b3
    have HT:Hid (R.toks s=co++[⟨⟨#[]⟩,s.size⟩]):=by
     show R.toks s=_
     rw[HF.out,HCC.out]
    go_wp2_with (at_builtin;refine wpList_append_row1 _ rfl _ _ 29 rfl 90 i0 _ 2 24 Tryz.underlying29 hi hz0 hz1 hz2 rfl (by decide) _ co.length (co.flatMap tokCells) rfl (by exact World.ownsRow.alloc C0.row _) ⟨wr.heap.size,0,none⟩ 1 1 [.string ⟨#[]⟩,.int .i64 (s.size:Int)] rfl rfl (by exact row_new wr [.string ⟨#[]⟩,.int .i64 (s.size:Int)] _) (by intro u hu;simp only[List.mem_cons,List.not_mem_nil,or_false]at hu;rcases hu with rfl |rfl<;>rfl) (few_le (by omega)) (by omega) Nat.one_pos ?_;intro g cap w7 hv hg hk;have C9:=C0.grew ⟨⟨#[]⟩,(s.size:Int)⟩ (Grew.of ((More.refl wr).alloc _) hg hk) hv;clear hv hg hk)
    go_ret
    exact⟨_,rfl,by rw[HT.out];exact C9⟩
end Go.Proofs.YtejbgcloblpbfaaGreatDoor
