import Derived.Test.YtejbgcloblpbfaaGreatDoorG33
set_option maxHeartbeats 4000000
set_option maxRecDepth 100000
namespace Go.Proofs.YtejbgcloblpbfaaGreatDoor
open Go.RowKit
open R (Tok Thing Nd PS)
theorem dw_set{T:List Tok}{does:PS->PS×List Int}{p:Int}{s:ByteArray}{q:Int}{J:PS}(h:s.toList=R.kSet):R.doWord T does p ⟨s,q⟩ J=R.doSet T p J:=by
 unfold R.doWord;rw[if_pos h]
theorem do_set{T:List Tok}(hT:R.Small T)(hEnd:R.Ended T)(f:Nat)(w:World)(b:Nat)(J:PS)(r:RV)(h:Rep w b T J r)(hb:BdD T (f+1) J)(hO:(R.opens T J).err=0)(hwd:(R.tk T (R.opens T J).i).s.toList=R.kSet):
 Calls Tryz.prog 62 #[P b] w λx w'=>x=.returned (.int .i64 (R.lastN (R.doIn T (R.does T f) (R.tk T J.i).p (R.opens T J))))/\∃r',Rep w' b T (R.doIn T (R.does T f) (R.tk T J.i).p (R.opens T J)) r'/\Moves b w w':=by
 have hoc:=open_c h (by have:=hb.n0;omega) (by have:=hb.n1;omega)
 have hO':=beq_yes hO
 have FA:=hide (do_facts hb hO h.lt)
 obtain⟨tp,HTP⟩:∃tp,Hid ((R.tk T J.i).p=tp):=⟨_,rfl⟩
 rw[HTP.out]at hoc ⊢
 generalize R.opens T J=J1 at*
 have HO:=hide hO
 clear hO HTP hb
 obtain⟨t1,HT1⟩:∃t1,Hid (R.tk T J1.i=t1):=⟨_,rfl⟩
 rw[HT1.out]at hwd
 obtain⟨s1,p1⟩:=t1
 dsimp only at*
 have ekSet:(s1.toList==[115,101,116])=true:=by rw[hwd];decide
 have ekPut:(s1.toList==[112,117,116])=false:=by rw[hwd];decide
 have ekIf:(s1.toList==[105,102])=false:=by rw[hwd];decide
 have ekFor:(s1.toList==[102,111,114])=false:=by rw[hwd];decide
 have HWD:=hide hwd
 clear hwd
 obtain⟨i0,hi,hz0,hz1,hz2⟩:=info_parts info_int
 go_enter Tryz.func62,Tryz.ntmps62
 go_wp2_with fail
 refine hoc.mono ?_
 rintro x w2 ⟨rfl,hr2,hm2⟩
 have q2:=hr2.c1 2 _ rfl
 go_wp2_with fail
 have htk:=take_c hr2
 rw[HT1.out]at htk
 refine htk.mono ?_
 rintro x w3 ⟨rfl,hr3,hm3⟩
 clear q2 htk
 go_upto_region 6 with fail
 have S4:St w ((w3.alloc (.cells #[.string s1,.int .i64 p1] 90)).alloc (.cells #[.string s1,.int .i64 0,.string ⟨#[]⟩,.int .i64 0,.bool false,.int .i64 0,.int .i64 0,.slice none 0 0,.slice none 0 0,.bool false] 145)) b T (R.take T J1) r w3.heap.size (w3.heap.size+1) [.string s1,.int .i64 p1] [.string s1,.int .i64 0,.string ⟨#[]⟩,.int .i64 0,.bool false,.int .i64 0,.int .i64 0,.slice none 0 0,.slice none 0 0,.bool false] (.slice none 0 0) []:=by
  have B5:=(hr3.alloc (.cells #[.string s1,.int .i64 p1] 90)).box [.string s1,.int .i64 0,.string ⟨#[]⟩,.int .i64 0,.bool false,.int .i64 0,.int .i64 0,.slice none 0 0,.slice none 0 0,.bool false] 145
  have sz:(w3.alloc (.cells #[.string s1,.int .i64 p1] 90)).heap.size=w3.heap.size+1:=by simp
  rw[sz]at B5
  have R4:=(hr3.alloc (.cells #[.string s1,.int .i64 p1] 90)).alloc (.cells #[.string s1,.int .i64 0,.string ⟨#[]⟩,.int .i64 0,.bool false,.int .i64 0,.int .i64 0,.slice none 0 0,.slice none 0 0,.bool false] 145)
  exact⟨R4,((hm2.trans hm3).alloc _).alloc _,(hr3.box [.string s1,.int .i64 p1] 90).alloc _,B5,⟨ints_nil _,λk hk=>by simp[Value.ownBlock]at hk,R4.tight⟩,λk hk=>by simp[Value.ownBlock]at hk,by have:=hm2.size;have:=hm3.size;omega,by omega⟩
 clear hm2 hm3 hr3 hr2 hoc
 generalize(w3.alloc (.cells #[.string s1,.int .i64 p1] 90)).alloc (.cells #[.string s1,.int .i64 0,.string ⟨#[]⟩,.int .i64 0,.bool false,.int .i64 0,.int .i64 0,.slice none 0 0,.slice none 0 0,.bool false] 145)=W4 at*
 generalize w3.heap.size+1=k5 at*
 generalize w3.heap.size=k4 at*
 have hne:=S4.ne
 have u0:=S4.d4 0 _ rfl
 have u1:=S4.d4 1 _ rfl
 generalize hs2:R.take T J1=J2 at*
 have HS2:=hide hs2
 clear hs2
 have HDW:=hide (dw_set (T:=T) (does:=R.does T f) (p:=tp) (q:=p1) (J:=J2) HWD.out)
 have DOK:=R.doWord_ok hEnd (does:=R.does T f) (λJ h=>R.does_ok hEnd f h) (λJ e=>by rw[R.does_dead _ _ e]) tp ⟨s1,p1⟩ FA.out.2.2.2.2
 rw[HDW.out]at DOK
 have SHN0:=hide (show -100<=(R.doSet T tp J2).s.nest/\(R.doSet T tp J2).s.nest<=100 from by have:=DOK.n1;have:=DOK.n2;have:=FA.out.2.1.n0;have:=FA.out.2.1.n1;omega)
 have SNN0:=hide (show(R.doSet T tp J2).s.nodes.length<=100000 from by have:=DOK.p1;have:=FA.out.2.1.nodes;omega)
 clear DOK
 go_upto_block 0 with fail
 go_cut [] (λwr=>∃rr lv tv,St w wr b T (R.doSet T tp J2).s rr k4 k5 [.string s1,.int .i64 p1] [.string s1,.int .i64 0,.string (R.doSet T tp J2).t.name,.int .i64 (R.doSet T tp J2).t.kind,.bool (R.doSet T tp J2).t.sec,.int .i64 (R.doSet T tp J2).t.pos,.int .i64 (R.doSet T tp J2).t.size,lv,tv,.bool false] lv (R.doSet T tp J2).L/\IntRow wr b tv (R.doSet T tp J2).two/\∀j,tv.ownBlock=some j->w.heap.size<=j)
 case first=>
  have kk:=R.known_same T false true J2
  have okk:=kk.ok FA.out.2.2.2.2
  have hse:J2.seen.length<=1000:=by have:=FA.out.2.1.seen;have:=FA.out.2.1.n1;omega
  have kc:=known_k S4.rep hT hse false true rfl
  have HD:Hid (R.doSet T tp J2=⟨R.leaks tp (R.tellsAt (R.ex T (R.known T false true J2)).1 (R.knownT T false true J2) (R.ex T (R.known T false true J2)).2) (R.ex T (R.known T false true J2)).1,R.knownT T false true J2,[(R.ex T (R.known T false true J2)).2],[]⟩):=rfl
  have avl:=ex_valid (T:=T) (J:=R.known T false true J2) okk.lt
  generalize R.known T false true J2=J3 at*
  generalize R.knownT T false true J2=q at*
  go_wp2_with fail
  refine kc.mono ?_
  rintro x w5 ⟨rfl,hr5,hm5⟩
  have S5:=S4.moves hr5 hm5
  have g2:=S5.d5 2 _ rfl
  have g3:=S5.d5 3 _ rfl
  have g4:=S5.d5 4 _ rfl
  have g5:=S5.d5 5 _ rfl
  have g6:=S5.d5 6 _ rfl
  have f2:=S5.f5 2
  have f3:=S5.f5 3
  have f4:=S5.f5 4
  have f5:=S5.f5 5
  have f6:=S5.f5 6
  go_wp2_with fail
  have S6:=((((S5.set5 2 (.string q.name)).set5 3 (.int .i64 q.kind)).set5 4 (.bool q.sec)).set5 5 (.int .i64 q.pos)).set5 6 (.int .i64 q.size)
  clear g2 g3 g4 g5 g6 f2 f3 f4 f5 f6 hr5 hm5 S5 S4 u0 u1 kc
  generalize((((w5.setCell ⟨k5,2,none⟩ (.string q.name)).setCell ⟨k5,3,none⟩ (.int .i64 q.kind)).setCell ⟨k5,4,none⟩ (.bool q.sec)).setCell ⟨k5,5,none⟩ (.int .i64 q.pos)).setCell ⟨k5,6,none⟩ (.int .i64 q.size)=W6 at*
  have exc:=ex_c hT hEnd S6.rep FA.out.2.1 okk
  generalize R.ex T J3=A at*
  refine exc.mono ?_
  rintro x w7 ⟨rfl,r7,hr7,hm7⟩
  have S7:=S6.moves hr7 hm7
  have y6:=S7.d5 7 _ rfl
  clear exc S6 hr7 hm7
  go_upto_region 17 with(at_builtin;refine wpList_append_row1 _ rfl _ _ 32 rfl 3 i0 (.int .i64 0) 1 8 Tryz.underlying32 hi hz0 hz1 hz2 rfl (by decide) _ ([]:List Int).length (ints ([]:List Int)) rfl (by exact World.ownsRow.alloc S7.row.row _) ⟨w7.heap.size,0,none⟩ 1 1 [.int .i64 A.2] rfl rfl (by exact row_new w7 [.int .i64 A.2] _) (by intro u hu;simp only[List.mem_singleton]at hu;subst hu;rfl) (few_le (by simp)) (by simp) Nat.one_pos ?_;intro g8 cap8 v8 hv hg hk;have S8:=S7.grew (Grew.of ((More.refl w7).alloc _) hg hk) (ints_snoc hv);have y8:=S8.d5 7 _ rfl;have z8:=S8.f5 7;have a8:=S8.d4 0 _ rfl;clear hv hg hk)
  have S9:St w (v8.setCell ⟨k5,7,none⟩ (.slice (some ⟨g8,0,none⟩) 1 cap8)) b T A.1 r7 k4 k5 [.string s1,.int .i64 p1] [.string s1,.int .i64 0,.string q.name,.int .i64 q.kind,.bool q.sec,.int .i64 q.pos,.int .i64 q.size,.slice (some ⟨g8,0,none⟩) 1 cap8,.slice none 0 0,.bool false] (.slice (some ⟨g8,0,none⟩) 1 cap8) [A.2]:=S8.set5 7 _
  clear S8 S7 y6 y8 z8 a8
  generalize v8.setCell ⟨k5,7,none⟩ (.slice (some ⟨g8,0,none⟩) 1 cap8)=W9 at*
  obtain⟨val,HVAL⟩:∃val,Hid (R.tellsAt A.1 q A.2=val):=⟨_,rfl⟩
  rw[HVAL.out]at HD
  have x2:=S9.p 2 _ rfl
  have x4:=S9.d5 4 _ rfl
  cases e5:(A.1.err==0)with
  |false=>
   have hval:false=val:=by rw[<-HVAL.out];unfold R.tellsAt;rw[e5];rfl
   clear HVAL
   subst hval
   go_wp2_with fail
   refine(leaks_c S9.rep tp false).mono ?_
   rintro x w11 ⟨rfl,hr11,hm11⟩
   go_wp2_with fail
   go_meet
   case rel=>
    rw[HD.out]
    exact⟨r7,_,.slice none 0 0,S9.moves hr11 hm11,⟨ints_nil _,λk hk=>by simp[Value.ownBlock]at hk,hr11.tight⟩,λk hk=>by simp[Value.ownBlock]at hk⟩
  |true=>
   obtain⟨xn,hxn,hxl⟩:=avl (eq_of_beq e5)
   rw[hxn]at HVAL HD S9 ⊢
   obtain⟨gn,cn,hN,fN,sN⟩:=S9.rep.node hxl
   have x7:=S9.p 7 _ rfl
   rw[hN]at x7
   have x12:=S9.p 12 _ rfl
   cases hqs:q.sec with
   |true=>
    have hval:false=val:=by rw[<-HVAL.out];unfold R.tellsAt;rw[e5,hqs];rfl
    rw[hqs]at x4
    clear HVAL
    subst hval
    go_wp2_with fail
    refine(leaks_c S9.rep tp false).mono ?_
    rintro x w11 ⟨rfl,hr11,hm11⟩
    go_wp2_with fail
    go_meet
    case rel=>
     rw[HD.out]
     exact⟨r7,_,.slice none 0 0,S9.moves hr11 hm11,⟨ints_nil _,λk hk=>by simp[Value.ownBlock]at hk,hr11.tight⟩,λk hk=>by simp[Value.ownBlock]at hk⟩
   |false=>
    rw[hqs]at x4
    by_cases hhid:0<A.1.hidden
    · have hval:true=val:=by rw[<-HVAL.out];unfold R.tellsAt;rw[e5,hqs,decide_eq_true hhid];rfl
      clear HVAL
      subst hval
      go_wp2_with fail
      refine(leaks_c S9.rep tp true).mono ?_
      rintro x w11 ⟨rfl,hr11,hm11⟩
      go_wp2_with fail
      go_meet
      case rel=>
       rw[HD.out]
       exact⟨r7,_,.slice none 0 0,S9.moves hr11 hm11,⟨ints_nil _,λk hk=>by simp[Value.ownBlock]at hk,hr11.tight⟩,λk hk=>by simp[Value.ownBlock]at hk⟩
    · have hval:(R.nodeAt A.1 (xn:Int)).sec=val:=by rw[<-HVAL.out];unfold R.tellsAt;rw[e5,hqs,decide_eq_false hhid];simp
      clear HVAL
      subst hval
      go_wp2_with fail
      refine(leaks_c S9.rep tp _).mono ?_
      rintro x w11 ⟨rfl,hr11,hm11⟩
      go_wp2_with fail
      go_meet
      case rel=>
       rw[HD.out]
       exact⟨r7,_,.slice none 0 0,S9.moves hr11 hm11,⟨ints_nil _,λk hk=>by simp[Value.ownBlock]at hk,hr11.tight⟩,λk hk=>by simp[Value.ownBlock]at hk⟩
 case rest=>
  obtain⟨rr,lv,tv,SS,rowt,lot⟩:=hcut
  have HI:Hid (R.doIn T (R.does T f) tp J1=R.addNode ⟨s1,0,(R.doSet T tp J2).t,(R.doSet T tp J2).L,(R.doSet T tp J2).two,false⟩ (R.shut T (R.doSet T tp J2).s)):=by
   unfold R.doIn
   dsimp only
   rw[HT1.out,HS2.out,HDW.out]
   rfl
  have hnn:=hide (show(R.shut T (R.doSet T tp J2).s).nodes.length<=100000 from by rw[(R.shut_core T _).2.1];exact SNN0.out)
  have shc:=shut_c SS.rep SHN0.out.1 SHN0.out.2
  have LOT:=hide lot
  clear lot
  generalize R.shut T (R.doSet T tp J2).s=J9 at*
  go_wp2_with fail
  refine shc.mono ?_
  rintro x w12 ⟨rfl,hr12,hm12⟩
  have S12:=SS.moves hr12 hm12
  have rowt':=rowt.moves hm12
  have m0:=S12.d5 0 _ rfl
  have m1:=S12.d5 1 _ rfl
  have m2:=S12.d5 2 _ rfl
  have m3:=S12.d5 3 _ rfl
  have m4:=S12.d5 4 _ rfl
  have m5:=S12.d5 5 _ rfl
  have m6:=S12.d5 6 _ rfl
  have m7:=S12.d5 7 _ rfl
  have m8:=S12.d5 8 _ rfl
  have m9:=S12.d5 9 _ rfl
  go_wp2_with fail
  refine(node_k S12.rep s1 0 (R.doSet T tp J2).t (R.doSet T tp J2).L (R.doSet T tp J2).two false lv tv S12.row.row rowt'.row hnn.out).mono ?_
  rintro x w13 ⟨rfl,r13,hr13,hm13⟩
  go_wp2_with fail
  go_ret
  rw[HI.out]
  exact⟨rfl,r13,hr13,S12.mv.transX hm13 (λj hj=>hj.elim (S12.lo j) (LOT.out j))⟩
theorem dw_if{T:List Tok}{does:PS->PS×List Int}{p:Int}{s:ByteArray}{q:Int}{J:PS}(h:s.toList=R.kIf):R.doWord T does p ⟨s,q⟩ J=R.doIf T does J:=by
 unfold R.doWord;rw[if_neg (by rw[h];decide),if_neg (by rw[h];decide),if_pos h]
theorem dw_none{T:List Tok}{does:PS->PS×List Int}{p:Int}{s:ByteArray}{q:Int}{J:PS}(h:¬s.toList=R.kSet/\¬s.toList=R.kPut/\¬s.toList=R.kIf/\¬s.toList=R.kFor):R.doWord T does p ⟨s,q⟩ J=⟨R.fail 2 q J,R.noThing,[],[]⟩:=by
 unfold R.doWord;rw[if_neg h.1,if_neg h.2.1,if_neg h.2.2.1,if_neg h.2.2.2]
theorem if_bd{T:List Tok}{f:Nat}{J2 J:PS}{m:Int}(hb:BdI T J2)(hf:11-J2.nest<=f)(k:R.Ok T J2 J)(hm:0<=m/\m<=1)(e:J.err=0):BdD T (f+1) (R.hide1 m J):=by
 have a1:=k.n3 e
 have a2:=k.p2 e
 have a3:J.seen=J2.seen:=congrArg (λc=>c.1) k.core
 have a4:J.loops=J2.loops:=congrArg (λc=>c.2.2.2.2.1) k.core
 have a5:J.hidden=J2.hidden:=congrArg (λc=>c.2.2.2.2.2.1) k.core
 obtain⟨b1,b2,b3,b4,b5,b6,b7,b8⟩:=hb
 exact⟨by show 0<=J.nest;omega,by show J.nest<=10;omega,by show 11-J.nest<=_;omega,by show(J.seen.length:Int)<=400+J.nest;rw[a3];omega,by show 0<=J.hidden+m;omega,by show J.hidden+m<=40+J.nest;omega,by show 0<=J.loops;omega,by show J.loops<=2;omega,by show J.nodes.length+(T.length-J.i)<=15000;omega⟩
theorem Rep.hide{w:World}{b:Nat}{T:List Tok}{J:PS}{r:RV}(h:Rep w b T J r)(m:Int):Rep (w.setCell ⟨b,12,none⟩ (.int .i64 (J.hidden+m))) b T (R.hide1 m J) r/\Moves b w (w.setCell ⟨b,12,none⟩ (.int .i64 (J.hidden+m))):=
 h.scalar (J':=R.hide1 m J) (h.cells.set 12 _) ((But.refl b w).set 12 _) rfl rfl rfl rfl h.lt
theorem do_none{T:List Tok}(_hT:R.Small T)(hEnd:R.Ended T)(f:Nat)(w:World)(b:Nat)(J:PS)(r:RV)(h:Rep w b T J r)(hb:BdD T (f+1) J)(hO:(R.opens T J).err=0)(hkSet:¬(R.tk T (R.opens T J).i).s.toList=R.kSet)(hkPut:¬(R.tk T (R.opens T J).i).s.toList=R.kPut)(hkIf:¬(R.tk T (R.opens T J).i).s.toList=R.kIf)(hkFor:¬(R.tk T (R.opens T J).i).s.toList=R.kFor):
 Calls Tryz.prog 62 #[P b] w λx w'=>x=.returned (.int .i64 (R.lastN (R.doIn T (R.does T f) (R.tk T J.i).p (R.opens T J))))/\∃r',Rep w' b T (R.doIn T (R.does T f) (R.tk T J.i).p (R.opens T J)) r'/\Moves b w w':=by
 have hoc:=open_c h (by have:=hb.n0;omega) (by have:=hb.n1;omega)
 have hO':=beq_yes hO
 have FA:=hide (do_facts hb hO h.lt)
 obtain⟨tp,HTP⟩:∃tp,Hid ((R.tk T J.i).p=tp):=⟨_,rfl⟩
 rw[HTP.out]at hoc ⊢
 generalize R.opens T J=J1 at*
 have HO:=hide hO
 clear hO HTP hb
 obtain⟨t1,HT1⟩:∃t1,Hid (R.tk T J1.i=t1):=⟨_,rfl⟩
 rw[HT1.out]at hkSet hkPut hkIf hkFor
 obtain⟨s1,p1⟩:=t1
 dsimp only at*
 have ekSet:(s1.toList==[115,101,116])=false:=beq_no (by intro e;exact hkSet e)
 have ekPut:(s1.toList==[112,117,116])=false:=beq_no (by intro e;exact hkPut e)
 have ekIf:(s1.toList==[105,102])=false:=beq_no (by intro e;exact hkIf e)
 have ekFor:(s1.toList==[102,111,114])=false:=beq_no (by intro e;exact hkFor e)
 have HWD:=hide (And.intro hkSet (And.intro hkPut (And.intro hkIf hkFor)))
 clear hkSet hkPut hkIf hkFor
 obtain⟨i0,hi,hz0,hz1,hz2⟩:=info_parts info_int
 go_enter Tryz.func62,Tryz.ntmps62
 go_wp2_with fail
 refine hoc.mono ?_
 rintro x w2 ⟨rfl,hr2,hm2⟩
 have q2:=hr2.c1 2 _ rfl
 go_wp2_with fail
 have htk:=take_c hr2
 rw[HT1.out]at htk
 refine htk.mono ?_
 rintro x w3 ⟨rfl,hr3,hm3⟩
 clear q2 htk
 go_upto_region 6 with fail
 have S4:St w ((w3.alloc (.cells #[.string s1,.int .i64 p1] 90)).alloc (.cells #[.string s1,.int .i64 0,.string ⟨#[]⟩,.int .i64 0,.bool false,.int .i64 0,.int .i64 0,.slice none 0 0,.slice none 0 0,.bool false] 145)) b T (R.take T J1) r w3.heap.size (w3.heap.size+1) [.string s1,.int .i64 p1] [.string s1,.int .i64 0,.string ⟨#[]⟩,.int .i64 0,.bool false,.int .i64 0,.int .i64 0,.slice none 0 0,.slice none 0 0,.bool false] (.slice none 0 0) []:=by
  have B5:=(hr3.alloc (.cells #[.string s1,.int .i64 p1] 90)).box [.string s1,.int .i64 0,.string ⟨#[]⟩,.int .i64 0,.bool false,.int .i64 0,.int .i64 0,.slice none 0 0,.slice none 0 0,.bool false] 145
  have sz:(w3.alloc (.cells #[.string s1,.int .i64 p1] 90)).heap.size=w3.heap.size+1:=by simp
  rw[sz]at B5
  have R4:=(hr3.alloc (.cells #[.string s1,.int .i64 p1] 90)).alloc (.cells #[.string s1,.int .i64 0,.string ⟨#[]⟩,.int .i64 0,.bool false,.int .i64 0,.int .i64 0,.slice none 0 0,.slice none 0 0,.bool false] 145)
  exact⟨R4,((hm2.trans hm3).alloc _).alloc _,(hr3.box [.string s1,.int .i64 p1] 90).alloc _,B5,⟨ints_nil _,λk hk=>by simp[Value.ownBlock]at hk,R4.tight⟩,λk hk=>by simp[Value.ownBlock]at hk,by have:=hm2.size;have:=hm3.size;omega,by omega⟩
 clear hm2 hm3 hr3 hr2 hoc
 generalize(w3.alloc (.cells #[.string s1,.int .i64 p1] 90)).alloc (.cells #[.string s1,.int .i64 0,.string ⟨#[]⟩,.int .i64 0,.bool false,.int .i64 0,.int .i64 0,.slice none 0 0,.slice none 0 0,.bool false] 145)=W4 at*
 generalize w3.heap.size+1=k5 at*
 generalize w3.heap.size=k4 at*
 have hne:=S4.ne
 have u0:=S4.d4 0 _ rfl
 have u1:=S4.d4 1 _ rfl
 generalize hs2:R.take T J1=J2 at*
 have HS2:=hide hs2
 clear hs2
 have HDW:=hide (dw_none (T:=T) (does:=R.does T f) (p:=tp) (q:=p1) (J:=J2) HWD.out)
 have DOK:=R.doWord_ok hEnd (does:=R.does T f) (λJ h=>R.does_ok hEnd f h) (λJ e=>by rw[R.does_dead _ _ e]) tp ⟨s1,p1⟩ FA.out.2.2.2.2
 rw[HDW.out]at DOK
 have SHN0:=hide (show -100<=((⟨R.fail 2 p1 J2,R.noThing,[],[]⟩:R.DR)).s.nest/\((⟨R.fail 2 p1 J2,R.noThing,[],[]⟩:R.DR)).s.nest<=100 from by have:=DOK.n1;have:=DOK.n2;have:=FA.out.2.1.n0;have:=FA.out.2.1.n1;omega)
 have SNN0:=hide (show((⟨R.fail 2 p1 J2,R.noThing,[],[]⟩:R.DR)).s.nodes.length<=100000 from by have:=DOK.p1;have:=FA.out.2.1.nodes;omega)
 clear DOK
 go_upto_block 0 with fail
 go_cut [] (λwr=>∃rr lv tv,St w wr b T ((⟨R.fail 2 p1 J2,R.noThing,[],[]⟩:R.DR)).s rr k4 k5 [.string s1,.int .i64 p1] [.string s1,.int .i64 0,.string ((⟨R.fail 2 p1 J2,R.noThing,[],[]⟩:R.DR)).t.name,.int .i64 ((⟨R.fail 2 p1 J2,R.noThing,[],[]⟩:R.DR)).t.kind,.bool ((⟨R.fail 2 p1 J2,R.noThing,[],[]⟩:R.DR)).t.sec,.int .i64 ((⟨R.fail 2 p1 J2,R.noThing,[],[]⟩:R.DR)).t.pos,.int .i64 ((⟨R.fail 2 p1 J2,R.noThing,[],[]⟩:R.DR)).t.size,lv,tv,.bool false] lv ((⟨R.fail 2 p1 J2,R.noThing,[],[]⟩:R.DR)).L/\IntRow wr b tv ((⟨R.fail 2 p1 J2,R.noThing,[],[]⟩:R.DR)).two/\∀j,tv.ownBlock=some j->w.heap.size<=j)
 case first=>
  go_wp2_with fail
  refine(fail_c S4.rep 2 p1).mono ?_
  rintro x w11 ⟨rfl,hr11,hm11⟩
  go_wp2_with fail
  go_meet
  case rel=>exact⟨r,.slice none 0 0,.slice none 0 0,S4.moves hr11 hm11,⟨ints_nil _,λk hk=>by simp[Value.ownBlock]at hk,hr11.tight⟩,λk hk=>by simp[Value.ownBlock]at hk⟩
 case rest=>
  obtain⟨rr,lv,tv,SS,rowt,lot⟩:=hcut
  have HI:Hid (R.doIn T (R.does T f) tp J1=R.addNode ⟨s1,0,((⟨R.fail 2 p1 J2,R.noThing,[],[]⟩:R.DR)).t,((⟨R.fail 2 p1 J2,R.noThing,[],[]⟩:R.DR)).L,((⟨R.fail 2 p1 J2,R.noThing,[],[]⟩:R.DR)).two,false⟩ (R.shut T ((⟨R.fail 2 p1 J2,R.noThing,[],[]⟩:R.DR)).s)):=by
   unfold R.doIn
   dsimp only
   rw[HT1.out,HS2.out,HDW.out]
   rfl
  have hnn:=hide (show(R.shut T ((⟨R.fail 2 p1 J2,R.noThing,[],[]⟩:R.DR)).s).nodes.length<=100000 from by rw[(R.shut_core T _).2.1];exact SNN0.out)
  have shc:=shut_c SS.rep SHN0.out.1 SHN0.out.2
  have LOT:=hide lot
  clear lot
  generalize R.shut T ((⟨R.fail 2 p1 J2,R.noThing,[],[]⟩:R.DR)).s=J9 at*
  go_wp2_with fail
  refine shc.mono ?_
  rintro x w12 ⟨rfl,hr12,hm12⟩
  have S12:=SS.moves hr12 hm12
  have rowt':=rowt.moves hm12
  have m0:=S12.d5 0 _ rfl
  have m1:=S12.d5 1 _ rfl
  have m2:=S12.d5 2 _ rfl
  have m3:=S12.d5 3 _ rfl
  have m4:=S12.d5 4 _ rfl
  have m5:=S12.d5 5 _ rfl
  have m6:=S12.d5 6 _ rfl
  have m7:=S12.d5 7 _ rfl
  have m8:=S12.d5 8 _ rfl
  have m9:=S12.d5 9 _ rfl
  go_wp2_with fail
  refine(node_k S12.rep s1 0 ((⟨R.fail 2 p1 J2,R.noThing,[],[]⟩:R.DR)).t ((⟨R.fail 2 p1 J2,R.noThing,[],[]⟩:R.DR)).L ((⟨R.fail 2 p1 J2,R.noThing,[],[]⟩:R.DR)).two false lv tv S12.row.row rowt'.row hnn.out).mono ?_
  rintro x w13 ⟨rfl,r13,hr13,hm13⟩
  go_wp2_with fail
  go_ret
  rw[HI.out]
  exact⟨rfl,r13,hr13,S12.mv.transX hm13 (λj hj=>hj.elim (S12.lo j) (LOT.out j))⟩
theorem block_err{T:List Tok}{does:PS->PS×List Int}{J:PS}(e:(R.block T does J).1.err=0):J.err=0:=by
 by_cases h:J.err=0
 · exact h
 · rw[R.block_dead T does h]at e;exact e
theorem do_if{T:List Tok}(hT:R.Small T)(hEnd:R.Ended T)(f:Nat)(hbl:BlockDoes T f)(w:World)(b:Nat)(J:PS)(r:RV)(h:Rep w b T J r)(hb:BdD T (f+1) J)(hO:(R.opens T J).err=0)(hwd:(R.tk T (R.opens T J).i).s.toList=R.kIf):
 Calls Tryz.prog 62 #[P b] w λx w'=>x=.returned (.int .i64 (R.lastN (R.doIn T (R.does T f) (R.tk T J.i).p (R.opens T J))))/\∃r',Rep w' b T (R.doIn T (R.does T f) (R.tk T J.i).p (R.opens T J)) r'/\Moves b w w':=by
 have hoc:=open_c h (by have:=hb.n0;omega) (by have:=hb.n1;omega)
 have hO':=beq_yes hO
 have FA:=hide (do_facts hb hO h.lt)
 obtain⟨tp,HTP⟩:∃tp,Hid ((R.tk T J.i).p=tp):=⟨_,rfl⟩
 rw[HTP.out]at hoc ⊢
 generalize R.opens T J=J1 at*
 have HO:=hide hO
 clear hO HTP hb
 obtain⟨t1,HT1⟩:∃t1,Hid (R.tk T J1.i=t1):=⟨_,rfl⟩
 rw[HT1.out]at hwd
 obtain⟨s1,p1⟩:=t1
 dsimp only at*
 have ekSet:(s1.toList==[115,101,116])=false:=by rw[hwd];decide
 have ekPut:(s1.toList==[112,117,116])=false:=by rw[hwd];decide
 have ekIf:(s1.toList==[105,102])=true:=by rw[hwd];decide
 have ekFor:(s1.toList==[102,111,114])=false:=by rw[hwd];decide
 have HWD:=hide hwd
 clear hwd
 obtain⟨i0,hi,hz0,hz1,hz2⟩:=info_parts info_int
 go_enter Tryz.func62,Tryz.ntmps62
 go_wp2_with fail
 refine hoc.mono ?_
 rintro x w2 ⟨rfl,hr2,hm2⟩
 have q2:=hr2.c1 2 _ rfl
 go_wp2_with fail
 have htk:=take_c hr2
 rw[HT1.out]at htk
 refine htk.mono ?_
 rintro x w3 ⟨rfl,hr3,hm3⟩
 clear q2 htk
 go_upto_region 6 with fail
 have S4:St w ((w3.alloc (.cells #[.string s1,.int .i64 p1] 90)).alloc (.cells #[.string s1,.int .i64 0,.string ⟨#[]⟩,.int .i64 0,.bool false,.int .i64 0,.int .i64 0,.slice none 0 0,.slice none 0 0,.bool false] 145)) b T (R.take T J1) r w3.heap.size (w3.heap.size+1) [.string s1,.int .i64 p1] [.string s1,.int .i64 0,.string ⟨#[]⟩,.int .i64 0,.bool false,.int .i64 0,.int .i64 0,.slice none 0 0,.slice none 0 0,.bool false] (.slice none 0 0) []:=by
  have B5:=(hr3.alloc (.cells #[.string s1,.int .i64 p1] 90)).box [.string s1,.int .i64 0,.string ⟨#[]⟩,.int .i64 0,.bool false,.int .i64 0,.int .i64 0,.slice none 0 0,.slice none 0 0,.bool false] 145
  have sz:(w3.alloc (.cells #[.string s1,.int .i64 p1] 90)).heap.size=w3.heap.size+1:=by simp
  rw[sz]at B5
  have R4:=(hr3.alloc (.cells #[.string s1,.int .i64 p1] 90)).alloc (.cells #[.string s1,.int .i64 0,.string ⟨#[]⟩,.int .i64 0,.bool false,.int .i64 0,.int .i64 0,.slice none 0 0,.slice none 0 0,.bool false] 145)
  exact⟨R4,((hm2.trans hm3).alloc _).alloc _,(hr3.box [.string s1,.int .i64 p1] 90).alloc _,B5,⟨ints_nil _,λk hk=>by simp[Value.ownBlock]at hk,R4.tight⟩,λk hk=>by simp[Value.ownBlock]at hk,by have:=hm2.size;have:=hm3.size;omega,by omega⟩
 clear hm2 hm3 hr3 hr2 hoc
 generalize(w3.alloc (.cells #[.string s1,.int .i64 p1] 90)).alloc (.cells #[.string s1,.int .i64 0,.string ⟨#[]⟩,.int .i64 0,.bool false,.int .i64 0,.int .i64 0,.slice none 0 0,.slice none 0 0,.bool false] 145)=W4 at*
 generalize w3.heap.size+1=k5 at*
 generalize w3.heap.size=k4 at*
 have hne:=S4.ne
 have u0:=S4.d4 0 _ rfl
 have u1:=S4.d4 1 _ rfl
 generalize hs2:R.take T J1=J2 at*
 have HS2:=hide hs2
 clear hs2
 have HDW:=hide (dw_if (T:=T) (does:=R.does T f) (p:=tp) (q:=p1) (J:=J2) HWD.out)
 have DOK:=R.doWord_ok hEnd (does:=R.does T f) (λJ h=>R.does_ok hEnd f h) (λJ e=>by rw[R.does_dead _ _ e]) tp ⟨s1,p1⟩ FA.out.2.2.2.2
 rw[HDW.out]at DOK
 have SHN0:=hide (show -100<=(R.doIf T (R.does T f) J2).s.nest/\(R.doIf T (R.does T f) J2).s.nest<=100 from by have:=DOK.n1;have:=DOK.n2;have:=FA.out.2.1.n0;have:=FA.out.2.1.n1;omega)
 have SNN0:=hide (show(R.doIf T (R.does T f) J2).s.nodes.length<=100000 from by have:=DOK.p1;have:=FA.out.2.1.nodes;omega)
 clear DOK
 go_upto_block 0 with fail
 go_cut [] (λwr=>∃rr lv tv,St w wr b T (R.doIf T (R.does T f) J2).s rr k4 k5 [.string s1,.int .i64 p1] [.string s1,.int .i64 0,.string (R.doIf T (R.does T f) J2).t.name,.int .i64 (R.doIf T (R.does T f) J2).t.kind,.bool (R.doIf T (R.does T f) J2).t.sec,.int .i64 (R.doIf T (R.does T f) J2).t.pos,.int .i64 (R.doIf T (R.does T f) J2).t.size,lv,tv,.bool false] lv (R.doIf T (R.does T f) J2).L/\IntRow wr b tv (R.doIf T (R.does T f) J2).two/\∀j,tv.ownBlock=some j->w.heap.size<=j)
 case first=>
  as_aux_lemma=>
  have ok2:=R.Ok.refl FA.out.2.2.2.2
  have HD:Hid (R.doIf T (R.does T f) J2=⟨R.hide1 (-(if R.secAt (R.ex T J2).1 (R.ex T J2).2=true then 1 else 0)) (R.block T (R.does T f) (R.block T (R.does T f) (R.hide1 (if R.secAt (R.ex T J2).1 (R.ex T J2).2=true then 1 else 0) (R.ex T J2).1)).1).1,R.noThing,[(R.ex T J2).2]++(R.block T (R.does T f) (R.hide1 (if R.secAt (R.ex T J2).1 (R.ex T J2).2=true then 1 else 0) (R.ex T J2).1)).2,(R.block T (R.does T f) (R.block T (R.does T f) (R.hide1 (if R.secAt (R.ex T J2).1 (R.ex T J2).2=true then 1 else 0) (R.ex T J2).1)).1).2⟩):=rfl
  have aok:=R.ex_ok hEnd FA.out.2.2.2.2
  have avl:=ex_valid (T:=T) (J:=J2) FA.out.2.2.2.2
  have exc:=ex_c hT hEnd S4.rep FA.out.2.1 ok2
  generalize R.ex T J2=A at*
  obtain⟨sv,HSV⟩:∃sv,Hid (R.secAt A.1 A.2=sv):=⟨_,rfl⟩
  rw[HSV.out]at HD
  obtain⟨m,HM⟩:∃m:Int,Hid ((if sv=true then 1 else 0)=m):=⟨_,rfl⟩
  rw[HM.out]at HD
  have hm01:0<=m/\m<=1:=by rw[<-HM.out];cases sv<;>simp
  go_wp2_with fail
  refine exc.mono ?_
  rintro x w7 ⟨rfl,r7,hr7,hm7⟩
  have S7:=S4.moves hr7 hm7
  have y6:=S7.d5 7 _ rfl
  clear exc hr7 hm7 S4 u0 u1
  go_upto_region 22 with(at_builtin;refine wpList_append_row1 _ rfl _ _ 32 rfl 3 i0 (.int .i64 0) 1 8 Tryz.underlying32 hi hz0 hz1 hz2 rfl (by decide) _ ([]:List Int).length (ints ([]:List Int)) rfl (by exact World.ownsRow.alloc S7.row.row _) ⟨w7.heap.size,0,none⟩ 1 1 [.int .i64 A.2] rfl rfl (by exact row_new w7 [.int .i64 A.2] _) (by intro u hu;simp only[List.mem_singleton]at hu;subst hu;rfl) (few_le (by simp)) (by simp) Nat.one_pos ?_;intro g8 cap8 v8 hv hg hk;have S8:=S7.grew (Grew.of ((More.refl w7).alloc _) hg hk) (ints_snoc hv);have y8:=S8.d5 7 _ rfl;have z8:=S8.f5 7;have a8:=S8.d4 0 _ rfl;clear hv hg hk)
  have S9:St w (v8.setCell ⟨k5,7,none⟩ (.slice (some ⟨g8,0,none⟩) 1 cap8)) b T A.1 r7 k4 k5 [.string s1,.int .i64 p1] [.string s1,.int .i64 0,.string ⟨#[]⟩,.int .i64 0,.bool false,.int .i64 0,.int .i64 0,.slice (some ⟨g8,0,none⟩) 1 cap8,.slice none 0 0,.bool false] (.slice (some ⟨g8,0,none⟩) 1 cap8) [A.2]:=S8.set5 7 _
  clear S8 S7 y6 y8 z8 a8
  generalize v8.setCell ⟨k5,7,none⟩ (.slice (some ⟨g8,0,none⟩) 1 cap8)=W9 at*
  go_cut [7,135] (λ_ s wr=>s=.bool sv/\St w wr b T A.1 r7 k4 k5 [.string s1,.int .i64 p1] [.string s1,.int .i64 0,.string ⟨#[]⟩,.int .i64 0,.bool false,.int .i64 0,.int .i64 0,.slice (some ⟨g8,0,none⟩) 1 cap8,.slice none 0 0,.bool false] (.slice (some ⟨g8,0,none⟩) 1 cap8) [A.2])
  case first=>
   as_aux_lemma=>
   have x2:=S9.p 2 _ rfl
   cases e5:(A.1.err==0)with
   |false=>
    have hval:sv=false:=by rw[<-HSV.out];unfold R.secAt;rw[e5];rfl
    subst hval
    go_wp2_with fail
    go_meet
    case rel=>exact⟨rfl,S9⟩
   |true=>
    obtain⟨xn,hxn,hxl⟩:=avl (eq_of_beq e5)
    have hval:(R.nodeAt A.1 (xn:Int)).sec=sv:=by rw[<-HSV.out];unfold R.secAt;rw[e5,hxn];rfl
    subst hval
    have HXN:=hide hxn
    rw[hxn]at S9 ⊢
    obtain⟨gn,cn,hN,fN,sN⟩:=S9.rep.node hxl
    have x7:=S9.p 7 _ rfl
    rw[hN]at x7
    clear hxn
    go_wp2_with fail
    go_meet
    case rel=>rw[HXN.out];exact⟨rfl,S9⟩
  case rest=>
   obtain⟨rfl,S10⟩:=hcut
   clear S9
   go_upto_if 135 with fail
   go_cut [8] (λs wr=>s=.int .i64 m/\St w wr b T A.1 r7 k4 k5 [.string s1,.int .i64 p1] [.string s1,.int .i64 0,.string ⟨#[]⟩,.int .i64 0,.bool false,.int .i64 0,.int .i64 0,.slice (some ⟨g8,0,none⟩) 1 cap8,.slice none 0 0,.bool false] (.slice (some ⟨g8,0,none⟩) 1 cap8) [A.2])
   case first=>
    as_aux_lemma=>
    cases sv with
    |true=>
     have hm:(1:Int)=m:=HM.out
     subst hm
     go_wp2_with fail
     go_meet
     case rel=>exact⟨rfl,S10⟩
    |false=>
     have hm:(0:Int)=m:=HM.out
     subst hm
     go_wp2_with fail
     go_meet
     case rel=>exact⟨rfl,S10⟩
   case rest=>
    as_aux_lemma=>
    obtain⟨rfl,S11⟩:=hcut
    clear S10
    have hhid:A.1.hidden=J2.hidden:=congrArg (λc=>c.2.2.2.2.2.1) aok.core
    have hh0:0<=A.1.hidden/\A.1.hidden<=60:=by have:=FA.out.2.1.h0;have:=FA.out.2.1.h1;have:=FA.out.2.1.n1;omega
    have HHID:=hide hhid
    clear hhid
    have y12:=S11.p 12 _ rfl
    have z12:=S11.rep.cells.frozen 12
    obtain⟨hh1,hh2⟩:=hh0
    obtain⟨hm0,hm1⟩:=hm01
    go_wp2_with fail
    have RH:=S11.rep.hide m
    have S12:=S11.moves RH.1 RH.2
    clear RH y12 z12
    generalize wc.setCell ⟨b,12,none⟩ (.int .i64 (A.1.hidden+m))=W12 at*
    have bd1:(R.hide1 m A.1).err=0->BdD T (f+1) (R.hide1 m A.1):=λe=>if_bd FA.out.2.1 FA.out.2.2.1 aok ⟨hm0,hm1⟩ e
    have ok1:=R.block_ok (T:=T) (does:=R.does T f) (λJ h=>R.does_ok hEnd f h) (J:=R.hide1 m A.1) aok.lt
    have er1:=@block_err T (R.does T f) (R.hide1 m A.1)
    have bl1:=hbl W12 b (R.hide1 m A.1) r7 S12.rep bd1
    have hh3:Hid ((R.hide1 m A.1).hidden=A.1.hidden+m):=rfl
    generalize R.block T (R.does T f) (R.hide1 m A.1)=O at*
    have bd2:O.1.err=0->BdD T (f+1) O.1:=λe=>(bd1 (er1 e)).ok ok1 e
    have ok2':=R.block_ok (T:=T) (does:=R.does T f) (λJ h=>R.does_ok hEnd f h) (J:=O.1) ok1.lt
    obtain⟨Z,HZ⟩:∃Z,Hid (R.block T (R.does T f) O.1=Z):=⟨_,rfl⟩
    rw[HZ.out]at ok2' HD
    have hz1':O.1.hidden=(R.hide1 m A.1).hidden:=congrArg (λc=>c.2.2.2.2.2.1) ok1.core
    have hz2':Z.1.hidden=O.1.hidden:=congrArg (λc=>c.2.2.2.2.2.1) ok2'.core
    have hzz:=hh3.out
    have zb1:0<=Z.1.hidden:=by omega
    have zb2:Z.1.hidden<=61:=by omega
    clear hz1' hz2' hzz hh3
    refine bl1.mono ?_
    rintro x w13 ⟨lv1,rfl,r13,hr13,hm13,ir1,hl1,lo1⟩
    have S13:=S12.moves hr13 hm13
    have bl2:=hbl w13 b O.1 r13 S13.rep bd2
    rw[HZ.out]at bl2
    clear bl1 lo1
    go_wp2_with fail
    refine bl2.mono ?_
    rintro x w14 ⟨tv,rfl,r14,hr14,hm14,ir2,hl2,lo2'⟩
    have lo2:=hide lo2'
    have S14:=S13.moves hr14 hm14
    have y12:=S14.p 12 _ rfl
    have z12:=S14.rep.cells.frozen 12
    have RH:Rep (w14.setCell ⟨b,12,none⟩ (.int .i64 (Z.1.hidden-m))) b T (R.hide1 (-m) Z.1) r14/\Moves b w14 (w14.setCell ⟨b,12,none⟩ (.int .i64 (Z.1.hidden-m))):=S14.rep.hide (-m)
    clear bl2 lo2' ok1 ok2' er1 bd1 bd2 hbl
    rcases Joins.ownsRow_forms ir2.row with⟨rfl,_⟩|⟨gt,ct,rfl⟩
    · as_aux_lemma=>
      have S15:=S14.moves RH.1 RH.2
      have ir1b:=(ir1.moves hm14).moves RH.2
      have ir2b:=ir2.moves RH.2
      have kb:=S14.b5.ne
      have y7:=S14.d5 7 _ rfl
      go_wp2_with (at_builtin;refine wpList_append_ints _ rfl _ _ 32 rfl 3 i0 (.int .i64 0) 8 Tryz.underlying32 hi hz0 hz1 hz2 rfl _ 1 (ints [A.2]) rfl (by exact S15.row.row) Nat.one_pos lv1 O.2.length (ints O.2) rfl (by exact ir1b.row) (ints_one _) (few_le (by omega)) (by omega) ?_;intro g16 cap16 v16 hv gr;have S16:=S15.grew gr (ints_app (L:=[A.2]) hv);have ir2c:=ir2b.beside gr S15.row.off (λk hk e=>by have:=lo2.out k e;have:=S13.row.block_lt hk;omega);have y7':=S16.d5 7 _ rfl;have z7':=S16.f5 7;have y8':=S16.d5 8 _ rfl;have z8':=S16.f5 8;clear hv gr)
      go_meet
      case rel=>
       rw[HD.out]
       exact⟨r14,_,_,(S16.set5 7 _).set5 8 _,(ir2c.set_box S16.b5 (by decide) 7 _).set_box (S16.set5 7 _).b5 (by decide) 8 _,λj hj=>by have:=lo2.out j hj;have:=S13.mv.size;omega⟩
    · as_aux_lemma=>
      have S15:=S14.moves RH.1 RH.2
      have ir1b:=(ir1.moves hm14).moves RH.2
      have ir2b:=ir2.moves RH.2
      have kb:=S14.b5.ne
      have y7:=S14.d5 7 _ rfl
      go_wp2_with (at_builtin;refine wpList_append_ints _ rfl _ _ 32 rfl 3 i0 (.int .i64 0) 8 Tryz.underlying32 hi hz0 hz1 hz2 rfl _ 1 (ints [A.2]) rfl (by exact S15.row.row) Nat.one_pos lv1 O.2.length (ints O.2) rfl (by exact ir1b.row) (ints_one _) (few_le (by omega)) (by omega) ?_;intro g16 cap16 v16 hv gr;have S16:=S15.grew gr (ints_app (L:=[A.2]) hv);have ir2c:=ir2b.beside gr S15.row.off (λk hk e=>by have:=lo2.out k e;have:=S13.row.block_lt hk;omega);have y7':=S16.d5 7 _ rfl;have z7':=S16.f5 7;have y8':=S16.d5 8 _ rfl;have z8':=S16.f5 8;clear hv gr)
      go_meet
      case rel=>
       rw[HD.out]
       exact⟨r14,_,_,(S16.set5 7 _).set5 8 _,(ir2c.set_box S16.b5 (by decide) 7 _).set_box (S16.set5 7 _).b5 (by decide) 8 _,λj hj=>by have:=lo2.out j hj;have:=S13.mv.size;omega⟩
 case rest=>
  as_aux_lemma=>
  obtain⟨rr,lv,tv,SS,rowt,lot⟩:=hcut
  have HI:Hid (R.doIn T (R.does T f) tp J1=R.addNode ⟨s1,0,(R.doIf T (R.does T f) J2).t,(R.doIf T (R.does T f) J2).L,(R.doIf T (R.does T f) J2).two,false⟩ (R.shut T (R.doIf T (R.does T f) J2).s)):=by
   unfold R.doIn
   dsimp only
   rw[HT1.out,HS2.out,HDW.out]
   rfl
  have hnn:=hide (show(R.shut T (R.doIf T (R.does T f) J2).s).nodes.length<=100000 from by rw[(R.shut_core T _).2.1];exact SNN0.out)
  have shc:=shut_c SS.rep SHN0.out.1 SHN0.out.2
  have LOT:=hide lot
  clear lot
  generalize R.shut T (R.doIf T (R.does T f) J2).s=J9 at*
  go_wp2_with fail
  refine shc.mono ?_
  rintro x w12 ⟨rfl,hr12,hm12⟩
  have S12:=SS.moves hr12 hm12
  have rowt':=rowt.moves hm12
  have m0:=S12.d5 0 _ rfl
  have m1:=S12.d5 1 _ rfl
  have m2:=S12.d5 2 _ rfl
  have m3:=S12.d5 3 _ rfl
  have m4:=S12.d5 4 _ rfl
  have m5:=S12.d5 5 _ rfl
  have m6:=S12.d5 6 _ rfl
  have m7:=S12.d5 7 _ rfl
  have m8:=S12.d5 8 _ rfl
  have m9:=S12.d5 9 _ rfl
  go_wp2_with fail
  refine(node_k S12.rep s1 0 (R.doIf T (R.does T f) J2).t (R.doIf T (R.does T f) J2).L (R.doIf T (R.does T f) J2).two false lv tv S12.row.row rowt'.row hnn.out).mono ?_
  rintro x w13 ⟨rfl,r13,hr13,hm13⟩
  go_wp2_with fail
  go_ret
  rw[HI.out]
  exact⟨rfl,r13,hr13,S12.mv.transX hm13 (λj hj=>hj.elim (S12.lo j) (LOT.out j))⟩
end Go.Proofs.YtejbgcloblpbfaaGreatDoor
