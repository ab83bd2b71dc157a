import Derived.Test.YtejbgcloblpbfaaGreatDoorG32
import Derived.Test.YtejbgcloblpbfaaGreatDoorG02
import Derived.Laws.AppendOwnNone
set_option maxHeartbeats 2000000
set_option maxRecDepth 100000
namespace Go.Proofs.YtejbgcloblpbfaaGreatDoor
open Go.RowKit
open R (Tok Thing Nd PS)
theorem expr_facts{T:List Tok}(hEnd:R.Ended T){f:Nat}{J J1 J3:PS}{q:Thing}{n:Nat}(hf:T.length-J.i<=f+1)(hlt:J.i<T.length)(hb:Bd T J)(h40:(R.tk T J.i).s.toList=[40])(h1:R.opens T J=J1)(hO:J1.err=0)(hH:R.headOf T J1=(J3,q,n)):J3.i<T.length/\T.length-J3.i<=f/\0<=J3.nest/\1<=J3.nest/\J3.nest<=10/\J3.seen.length<=1000/\J3.nodes.length+(T.length-J3.i)<=20000:=by
 have o1:=R.opens_core T J
 have o2:=R.opens_ok (T:=T) (J:=J) (by rw[h1];exact hO)
 have t2:=R.take_i T J
 have ht:=t2.2.2.1 (R.ended_lt hEnd hlt (R.ne_of_list h40 (by decide)))
 have hs:(R.opens T J).seen=J.seen:=congrArg (λc=>c.1) o1.1
 rw[h1]at o1 hs
 have hi:J1.i=J.i+1:=by rw[o1.2.2.1,ht]
 have hlt1:J1.i<T.length:=by rw[o1.2.2.1];exact t2.2.2.2 hlt
 have k:=R.head_ok hEnd (J:=J1) hlt1
 rw[hH]at k
 obtain⟨k1,k2,k3,k4,k5,k6⟩:=k
 have hs3:J3.seen=J1.seen:=congrArg (λc=>c.1) k1
 have b0:=hb.n0
 have b2:=hb.n2 o2.2.1
 have b3:=hb.seen
 have b4:=hb.nodes
 have b5:=o2.2.2
 dsimp only at*
 rw[hs3,hs,k2,o1.2.1,k3,o1.2.2.2]
 omega
theorem step_facts{T:List Tok}{f:Nat}{J3 Jk:PS}(h3:J3.i<T.length/\T.length-J3.i<=f/\0<=J3.nest/\1<=J3.nest/\J3.nest<=10/\J3.seen.length<=1000/\J3.nodes.length+(T.length-J3.i)<=20000)(ok:R.Ok T J3 Jk)(e:Jk.err=0):T.length-Jk.i<=f/\Bd T Jk:=by
 have a1:=ok.n3 e
 have a2:=ok.p2 e
 have a3:=ok.le
 have a4:Jk.seen=J3.seen:=congrArg (λc=>c.1) ok.core
 exact⟨by omega,⟨by omega,by omega,λ_=>by omega,by rw[a4];omega,by omega⟩⟩
theorem args_step{rec:PS->PS×Int}{n k:Nat}{Jk:PS}{L:List Int}{bk:Bool}{A:PS×List Int×Bool}(h:Hid (A=R.args rec (n-k) Jk L bk))(hk:k<n)(e:Jk.err=0):
 Hid (A=R.args rec (n-(k+1)) (rec Jk).1 (L++[(rec Jk).2]) (bk||((rec Jk).1.err==0&&(R.nodeAt (rec Jk).1 (rec Jk).2).sec))):=by
 have:n-k=(n-(k+1))+1:=by omega
 rw[this,R.args,if_pos e]at h
 exact h
theorem expr_valid{T:List Tok}(f:Nat)(J:PS)(hlt:J.i<T.length)(hf:T.length-J.i<=f)(h:(R.expr T f J).1.err=0):∃x:Nat,(R.expr T f J).2=x/\x<(R.expr T f J).1.nodes.length:=by
 obtain⟨f,rfl⟩:∃g,f=g+1:=⟨f-1,by omega⟩
 have last:∀(n:Nd) (J:PS),∃x:Nat,R.lastN (R.addNode n J)=x/\x<(R.addNode n J).nodes.length:=λn J=>⟨J.nodes.length,by simp[R.lastN,R.addNode],by simp[R.addNode]⟩
 rw[R.expr]at h ⊢
 by_cases e:J.err=0
 · rw[if_pos e]at h ⊢
   by_cases h40:(R.tk T J.i).s.toList=[40]
   · rw[if_pos h40]at h ⊢
     by_cases eo:(R.opens T J).err=0
     · rw[if_pos eo]
       exact last _ _
     · rw[if_neg eo]at h
       exact absurd h eo
   · rw[if_neg h40]at h ⊢
     by_cases hn:(R.number (R.tk T J.i).s.data.toList).2=true
     · rw[if_pos hn];exact last _ _
     · rw[if_neg hn];exact last _ _
 · rw[if_neg e]at h
   exact absurd h e
theorem expr_in{T:List Tok}(hT:R.Small T)(hEnd:R.Ended T)(f:Nat)(ih:ExprDoes T f)(w:World)(b:Nat)(J:PS)(r:RV)(h:Rep w b T J r)(hf:T.length-J.i<=f+1)(hb:Bd T J)(hE:J.err=0)(h40:(R.tk T J.i).s.toList=[40])(hO:(R.opens T J).err=0):
 Calls Tryz.prog 78 #[P b] w λx w'=>x=.returned (.int .i64 (R.lastN (R.inner T (R.expr T f) (R.tk T J.i).p (R.opens T J))))/\∃r',Rep w' b T (R.inner T (R.expr T f) (R.tk T J.i).p (R.opens T J)) r'/\Moves b w w':=by
 have c2:=h.c1 2 _ rfl
 have hE':=beq_yes hE
 have hpk:=peek_c h
 have hoc:=fun(w:World) (hr:Rep w b T J r)=>open_c hr (by have:=hb.n0;omega) (by have:=hb.n1;omega)
 have hO':=beq_yes hO
 have HB40:Hid ((R.tk T J.i).s.toList=[40]):=h40
 have h40':=beq_yes h40
 clear h40
 obtain⟨t,HT⟩:∃t,Hid (R.tk T J.i=t):=⟨_,rfl⟩
 rw[HT.out]at hpk h40' ⊢
 have hoc':=hoc
 rw[HT.out]at hoc'
 clear hoc
 obtain⟨ts,tp⟩:=t
 dsimp only at*
 have HE:=hide hE
 clear hE
 have HO:=hide hO
 clear hO
 generalize hs1:R.opens T J=J1 at*
 have hse:Hid (J1.seen.length<=1000):=by
  have e:(R.opens T J).seen=J.seen:=congrArg (λc=>c.1) (R.opens_core T J).1
  rw[<-hs1,e];exact hb.seen
 have HS1:=hide hs1
 clear hs1
 go_enter Tryz.func78,Tryz.ntmps78
 go_wp2_with (go_at_call 43;refine hpk.mono ?_;rintro x w1 ⟨rfl,hr,hm⟩)
 refine(hoc' _ (hr.alloc _)).mono ?_
 rintro x w2 ⟨rfl,hr2,hm2⟩
 have q2:=hr2.c1 2 _ rfl
 go_wp2_with fail
 refine(take_c hr2).mono ?_
 rintro x w3 ⟨rfl,hr3,hm3⟩
 have B3:=((hr.box _ _).moves hm2).moves hm3
 have d0:=B3.c 0 _ rfl
 have d1:=B3.c 1 _ rfl
 have f0:=B3.f 0
 have f1:=B3.f 1
 have nk:=B3.here.lt
 clear q2
 go_wp2_with fail
 refine(sign_c _ _).mono ?_
 rintro x w4 ⟨rfl,rfl⟩
 go_upto_block 0 with fail
 have PP:=put2 hr3 B3 (((hm.alloc _).trans hm2).trans hm3) hm.size (.string (R.tk T J1.i).s) (.int .i64 (R.tk T J1.i).p)
 have sz:((w3.setCell ⟨w1.heap.size,0,none⟩ (.string (R.tk T J1.i).s)).setCell ⟨w1.heap.size,1,none⟩ (.int .i64 (R.tk T J1.i).p)).heap.size=w3.heap.size:=by simp[World.setCell]
 have R4:=PP.1.alloc (.cells #[.string (R.tk T J1.i).s,.int .i64 0,.string ⟨#[]⟩,.int .i64 0,.bool false,.int .i64 0,.int .i64 0,.slice none 0 0,.slice none 0 0,.bool false] 145)
 have M4:=PP.2.1.alloc (.cells #[.string (R.tk T J1.i).s,.int .i64 0,.string ⟨#[]⟩,.int .i64 0,.bool false,.int .i64 0,.int .i64 0,.slice none 0 0,.slice none 0 0,.bool false] 145)
 have B34:=PP.2.2.alloc (.cells #[.string (R.tk T J1.i).s,.int .i64 0,.string ⟨#[]⟩,.int .i64 0,.bool false,.int .i64 0,.int .i64 0,.slice none 0 0,.slice none 0 0,.bool false] 145)
 have B84:=PP.1.box [.string (R.tk T J1.i).s,.int .i64 0,.string ⟨#[]⟩,.int .i64 0,.bool false,.int .i64 0,.int .i64 0,.slice none 0 0,.slice none 0 0,.bool false] 145
 rw[sz]at B84
 have hk13:w1.heap.size≠w3.heap.size:=by omega
 have w13:w.heap.size<=w1.heap.size:=hm.size
 have w33:w.heap.size<=w3.heap.size:=by omega
 clear PP sz d0 d1 f0 f1 nk B3 hm2 hm3 hr3 hr2 hr hm
 generalize hW:((w3.setCell ⟨w1.heap.size,0,none⟩ (.string (R.tk T J1.i).s)).setCell ⟨w1.heap.size,1,none⟩ (.int .i64 (R.tk T J1.i).p)).alloc (.cells #[.string (R.tk T J1.i).s,.int .i64 0,.string ⟨#[]⟩,.int .i64 0,.bool false,.int .i64 0,.int .i64 0,.slice none 0 0,.slice none 0 0,.bool false] 145)=W4 at*
 generalize w1.heap.size=k3 at*
 generalize w3.heap.size=k8 at*
 clear hW
 have D0:=B34.c 0 _ rfl
 have D1:=B34.c 1 _ rfl
 go_cut [9,10] (λ_ m wr=>∃J3 r3 q n,Hid (R.headOf T J1=(J3,q,n))/\m=.int .i64 (n:Int)/\n<=3/\Rep wr b T J3 r3/\Moves b w wr/\Box wr b k3 90 [.string (R.tk T J1.i).s,.int .i64 (R.tk T J1.i).p]∧
  Box wr b k8 145 [.string (R.tk T J1.i).s,.int .i64 0,.string q.name,.int .i64 q.kind,.bool q.sec,.int .i64 q.pos,.int .i64 q.size,.slice none 0 0,.slice none 0 0,.bool q.sec])
 case first=>
  by_cases e1:(R.tk T J1.i).s.toList=R.kGet
  · have HH:=hide (head_get e1)
    have e1':((R.tk T J1.i).s.toList==[103,101,116])=true:=beq_yes e1
    clear e1
    have hkc:=known_k R4 hT (by rw[R.take_seen];exact hse.out) true false rfl
    generalize R.known T true false (R.take T J1)=J3 at*
    generalize R.knownT T true false (R.take T J1)=q at*
    go_wp2_with fail
    refine hkc.mono ?_
    rintro x w5 ⟨rfl,hr5,hm5⟩
    have B35:=B34.moves hm5
    have B85:=B84.moves hm5
    have g2:=B85.c 2 _ rfl
    have g3:=B85.c 3 _ rfl
    have g4:=B85.c 4 _ rfl
    have g5:=B85.c 5 _ rfl
    have g6:=B85.c 6 _ rfl
    have g9:=B85.c 9 _ rfl
    have f2:=B85.f 2
    have f3:=B85.f 3
    have f4:=B85.f 4
    have f5:=B85.f 5
    have f6:=B85.f 6
    have f9:=B85.f 9
    go_wp2_with fail
    go_meet
    case rel=>
     have Z:=put_thing hr5 B85 B35 hk13 (M4.trans hm5) w33 (.string q.name) (.int .i64 q.kind) (.bool q.sec) (.int .i64 q.pos) (.int .i64 q.size) (.bool q.sec)
     exact⟨J3,r,q,1,HH,rfl,by omega,Z.1,Z.2.1,Z.2.2.1,Z.2.2.2⟩
  · have e1':((R.tk T J1.i).s.toList==[103,101,116])=false:=beq_no e1
    by_cases e2:(R.tk T J1.i).s.toList=R.kChoose
    · have HH:=hide (head_choose e1 e2)
      have e2':((R.tk T J1.i).s.toList==[99,104,111,111,115,101])=true:=beq_yes e2
      clear e1 e2
      go_wp2_with fail
      go_meet
      case rel=>exact⟨_,r,R.noThing,3,HH,rfl,by omega,R4,M4,B34,B84⟩
    · have e2':((R.tk T J1.i).s.toList==[99,104,111,111,115,101])=false:=beq_no e2
      cases e3:R.sign (R.tk T J1.i).s.toList with
      |true=>
       have HH:=hide (head_op e1 e2 e3)
       clear e1 e2
       go_wp2_with fail
       go_meet
       case rel=>exact⟨_,r,R.noThing,2,HH,rfl,by omega,R4,M4,B34,B84⟩
      |false=>
       have HH:=hide (head_none e1 e2 e3)
       clear e1 e2
       go_wp2_with fail
       refine(fail_c R4 2 (R.tk T J1.i).p).mono ?_
       rintro x w5 ⟨rfl,hr5,hm5⟩
       go_wp2_with fail
       go_meet
       case rel=>exact⟨_,r,R.noThing,2,HH,rfl,by omega,hr5,M4.trans hm5,B34.moves hm5,B84.moves hm5⟩
 case rest=>
  obtain⟨J3,r3,q,n,HH,rfl,hn3,hr5,M5,B35,B85⟩:=hcut
  have F3:=hide (expr_facts hEnd hf h.lt hb HB40.out HS1.out HO.out HH.out)
  clear D0 D1 B34 B84 M4 R4
  go_upto_block 1 with fail
  go_cut [11,12,13] (λinn _ _ wr=>∃(Jk:PS) (rk:RV) (L:List Int) (bk:Bool) (lv:Value),inn=.bool bk∧
   Hid (R.args (R.expr T f) n J3 [] false=(Jk,L,bk))/\R.Ok T J3 Jk/\Rep wr b T Jk rk/\Moves b w wr/\Box wr b k3 90 [.string (R.tk T J1.i).s,.int .i64 (R.tk T J1.i).p]∧
   Box wr b k8 145 [.string (R.tk T J1.i).s,.int .i64 0,.string q.name,.int .i64 q.kind,.bool q.sec,.int .i64 q.pos,.int .i64 q.size,lv,.slice none 0 0,.bool q.sec]/\IntRow wr b lv L/\Hid (∀j,lv.ownBlock=some j->w.heap.size<=j))
  case first=>
   go_wp2_with fail
   go_loopg [11,12,13] n (λgk inn i _ wr=>∃(k:Nat) (Jk:PS) (rk:RV) (L:List Int) (bk:Bool) (lv:Value),gk+k=n/\i=.int .i64 (k:Int)/\inn=.bool bk∧
    Hid (R.args (R.expr T f) n J3 [] false=R.args (R.expr T f) (n-k) Jk L bk)/\R.Ok T J3 Jk/\L.length=k/\Rep wr b T Jk rk/\Moves b w wr/\Box wr b k3 90 [.string (R.tk T J1.i).s,.int .i64 (R.tk T J1.i).p]∧
    Box wr b k8 145 [.string (R.tk T J1.i).s,.int .i64 0,.string q.name,.int .i64 q.kind,.bool q.sec,.int .i64 q.pos,.int .i64 q.size,lv,.slice none 0 0,.bool q.sec]/\IntRow wr b lv L/\Hid (∀j,lv.ownBlock=some j->w.heap.size<=j))
   case atStart=>
    exact⟨0,J3,r3,[],false,.slice none 0 0,by omega,rfl,rfl,rfl,R.Ok.refl F3.out.1,rfl,hr5,M5,B35,B85,⟨ints_nil _,λk hk=>by simp[Value.ownBlock]at hk,hr5.tight⟩,λk hk=>by simp[Value.ownBlock]at hk⟩
   case round=>
    obtain⟨k,Jk,rk,L,bk,lv,hgk,rfl,rfl,HA,ok,hL,hrk,Mk,B3k,B8k,IR,hlo⟩:=hrel
    have HL:=hide hL
    have hL4:L.length<=3:=by omega
    clear hr5 M5 B35 B85 hL
    have c2k:=hrk.c1 2 _ rfl
    by_cases hgo:k<n/\Jk.err=0
    · obtain⟨hkn,hek⟩:=hgo
      have hek':=beq_yes hek
      have sf:=step_facts F3.out ok hek
      have call:=ih wr b Jk rk hrk sf.1 sf.2
      have vl:=expr_valid f Jk hrk.lt sf.1
      have HA':=args_step HA hkn hek
      have ok':=ok.trans hek (R.expr_ok hEnd f Jk hrk.lt)
      clear HA hek sf
      generalize R.expr T f Jk=E at*
      go_wp2_with fail
      refine call.mono ?_
      rintro x w6 ⟨rfl,r6,hr6,hm6⟩
      have B36:=B3k.moves hm6
      have B86:=B8k.moves hm6
      have IR6:=IR.moves hm6
      have y7:=B86.c 7 _ rfl
      have nbk8:b≠k8:=λe=>B86.ne e.symm
      obtain⟨i0,hi,hz0,hz1,hz2⟩:=info_parts info_int
      cases bk with
      |true=>
       go_wp2_with (at_builtin;refine wpList_append_row1 _ rfl _ _ 32 rfl 3 i0 (.int .i64 0) 1 8 Tryz.underlying32 hi hz0 hz1 hz2 rfl (by decide) lv L.length (ints L) rfl (by exact World.ownsRow.alloc IR6.row _) ⟨w6.heap.size,0,none⟩ 1 1 [.int .i64 E.2] rfl rfl (by exact row_new w6 [.int .i64 E.2] _) (by intro u hu;simp only[List.mem_singleton]at hu;subst hu;rfl) (few_le (by omega)) (by omega) Nat.one_pos ?_;intro g cap w7 hv hg hk;have gr:=Grew.of ((More.refl w6).alloc _) hg hk;have hr7:=hr6.same (gr.same hr6.tight IR6.off);have B37:=B36.grew gr IR6.off (IR6.ne_box B36 (by decide));have B87:=B86.grew gr IR6.off (IR6.ne_box B86 (by decide));have IR7:=IR6.grew gr (show Ints w7 _ (L++[E.2])from by simpa[Ints,ints]using hv);have M7:=(Mk.trans hm6).grew gr IR6.off hlo.out;have y7:=B87.c 7 _ rfl;have z7:=B87.f 7;have x2:=hr7.c1 2 _ rfl;clear hv hg hk)
       go_roundg (gk-1)
       case measure=>omega
       case rel=>
        exact⟨k+1,E.1,r6,L++[E.2],_,_,by omega,by go_num,rfl,HA',ok',by rw[List.length_append,HL.out];rfl,hr7.set_box B87 7 _,M7.set_box B87 w33 7 _,B37.set_other B87 hk13 7 _,B87.set 7 _,IR7.set_box B87 (by decide) 7 _,λj hj=>(gr.own j hj).elim (λe=>hlo.out j e) (λe=>by have:=Mk.size;have:=hm6.size;omega)⟩
      |false=>
       by_cases he6:E.1.err=0
       · obtain⟨x,hx,hxl⟩:=vl he6
         have he6':=beq_yes he6
         have HV:Hid ((false||(E.1.err==0&&(R.nodeAt E.1 E.2).sec))=(R.nodeAt E.1 (x:Int)).sec):=by rw[he6',hx];rfl
         rw[HV.out]at HA'
         have HX:=hide hx
         rw[hx]at HA' call
         clear he6 HV vl
         go_wp2_with (at_builtin;refine wpList_append_row1 _ rfl _ _ 32 rfl 3 i0 (.int .i64 0) 1 8 Tryz.underlying32 hi hz0 hz1 hz2 rfl (by decide) lv L.length (ints L) rfl (by exact World.ownsRow.alloc IR6.row _) ⟨w6.heap.size,0,none⟩ 1 1 [.int .i64 (x:Int)] rfl rfl (by exact row_new w6 [.int .i64 (x:Int)] _) (by intro u hu;simp only[List.mem_singleton]at hu;subst hu;rfl) (few_le (by omega)) (by omega) Nat.one_pos ?_;intro g cap w7 hv hg hk;have gr:=Grew.of ((More.refl w6).alloc _) hg hk;have hr7:=hr6.same (gr.same hr6.tight IR6.off);have B37:=B36.grew gr IR6.off (IR6.ne_box B36 (by decide));have B87:=B86.grew gr IR6.off (IR6.ne_box B86 (by decide));have IR7:=IR6.grew gr (show Ints w7 _ (L++[(x:Int)])from by simpa[Ints,ints]using hv);have M7:=(Mk.trans hm6).grew gr IR6.off hlo.out;have y7:=B87.c 7 _ rfl;have z7:=B87.f 7;have x2:=hr7.c1 2 _ rfl;obtain⟨gn,cn,hN,fN,sN⟩:=hr7.node hxl;have x7:=hr7.c1 7 _ rfl;rw[hN]at x7;have ngn:gn≠k8:=λe=>B87.off (e▸fN);clear hv hg hk)
         go_roundg (gk-1)
         case measure=>omega
         case rel=>
          exact⟨k+1,E.1,r6,L++[(x:Int)],_,_,by omega,by go_num,rfl,HA',ok',by rw[List.length_append,HL.out];rfl,hr7.set_box B87 7 _,M7.set_box B87 w33 7 _,B37.set_other B87 hk13 7 _,B87.set 7 _,IR7.set_box B87 (by decide) 7 _,λj hj=>(gr.own j hj).elim (λe=>hlo.out j e) (λe=>by have:=Mk.size;have:=hm6.size;omega)⟩
       · have he6':=beq_no he6
         have HV:Hid ((false||(E.1.err==0&&(R.nodeAt E.1 E.2).sec))=false):=by rw[he6'];rfl
         rw[HV.out]at HA'
         clear he6 HV vl
         go_wp2_with (at_builtin;refine wpList_append_row1 _ rfl _ _ 32 rfl 3 i0 (.int .i64 0) 1 8 Tryz.underlying32 hi hz0 hz1 hz2 rfl (by decide) lv L.length (ints L) rfl (by exact World.ownsRow.alloc IR6.row _) ⟨w6.heap.size,0,none⟩ 1 1 [.int .i64 E.2] rfl rfl (by exact row_new w6 [.int .i64 E.2] _) (by intro u hu;simp only[List.mem_singleton]at hu;subst hu;rfl) (few_le (by omega)) (by omega) Nat.one_pos ?_;intro g cap w7 hv hg hk;have gr:=Grew.of ((More.refl w6).alloc _) hg hk;have hr7:=hr6.same (gr.same hr6.tight IR6.off);have B37:=B36.grew gr IR6.off (IR6.ne_box B36 (by decide));have B87:=B86.grew gr IR6.off (IR6.ne_box B86 (by decide));have IR7:=IR6.grew gr (show Ints w7 _ (L++[E.2])from by simpa[Ints,ints]using hv);have M7:=(Mk.trans hm6).grew gr IR6.off hlo.out;have y7:=B87.c 7 _ rfl;have z7:=B87.f 7;have x2:=hr7.c1 2 _ rfl;clear hv hg hk)
         go_roundg (gk-1)
         case measure=>omega
         case rel=>
          exact⟨k+1,E.1,r6,L++[E.2],_,_,by omega,by go_num,rfl,HA',ok',by rw[List.length_append,HL.out];rfl,hr7.set_box B87 7 _,M7.set_box B87 w33 7 _,B37.set_other B87 hk13 7 _,B87.set 7 _,IR7.set_box B87 (by decide) 7 _,λj hj=>(gr.own j hj).elim (λe=>hlo.out j e) (λe=>by have:=Mk.size;have:=hm6.size;omega)⟩
    · have HX:Hid (R.args (R.expr T f) n J3 [] false=(Jk,L,bk)):=by
       by_cases hek:Jk.err=0
       · have:n-k=0:=by omega
         have h2:=HA.out
         rw[this]at h2
         exact h2
       · exact HA.out.trans (R.args_dead _ _ _ _ _ hek)
      by_cases hkn:k<n
      · have hek':=beq_no (λe=>hgo ⟨hkn,e⟩:¬Jk.err=0)
        clear hgo
        go_wp2_with fail
        go_meet
        case rel=>exact⟨Jk,rk,L,bk,lv,rfl,HX,ok,hrk,Mk,B3k,B8k,IR,hlo⟩
      · clear hgo
        go_wp2_with fail
        go_meet
        case rel=>exact⟨Jk,rk,L,bk,lv,rfl,HX,ok,hrk,Mk,B3k,B8k,IR,hlo⟩
  case rest=>
   obtain⟨Jk,rk,L,bk,lv,rfl,HX,ok,hrk,Mk,B3k,B8k,IR,hlo⟩:=hcut
   have HI:Hid (R.inner T (R.expr T f) tp J1=R.addNode ⟨(R.tk T J1.i).s,0,q,L,[],q.sec||bk⟩ (R.leaks tp ((R.shut T Jk).err==0&&bk&&R.telling (R.tk T J1.i).s.toList) (R.shut T Jk))):=by
    unfold R.inner
    rw[HH.out]
    dsimp only
    rw[HX.out]
    rfl
   have a1:=ok.n1
   have a2:=ok.n2
   have shc:=shut_c hrk (by have:=F3.out;omega) (by have:=F3.out;omega)
   have hnn:=hide (show(R.shut T Jk).nodes.length<=100000 from by rw[(R.shut_core T Jk).2.1];have:=ok.p1;have:=F3.out;omega)
   clear hr5 M5 B35 B85 a1 a2
   generalize R.shut T Jk=J5 at*
   go_wp2_with fail
   refine shc.mono ?_
   rintro x w9 ⟨rfl,hr9,hm9⟩
   have B39:=B3k.moves hm9
   have B89:=B8k.moves hm9
   have IR9:=IR.moves hm9
   have M9:=Mk.trans hm9
   clear B3k B8k IR Mk hrk shc hm9
   go_upto_region 34 with fail
   go_cut [] (λwr=>Rep wr b T J5 rk/\Moves b w wr/\Box wr b k3 90 [.string (R.tk T J1.i).s,.int .i64 (R.tk T J1.i).p]∧
    Box wr b k8 145 [.string (R.tk T J1.i).s,.int .i64 0,.string q.name,.int .i64 q.kind,.bool q.sec,.int .i64 q.pos,.int .i64 q.size,lv,.slice none 0 0,.bool (q.sec||bk)]/\IntRow wr b lv L)
   case first=>
    have y9:=B89.c 9 _ rfl
    have z9:=B89.f 9
    cases hqs:q.sec with
    |true=>
     rw[hqs]at B89 y9
     go_wp2_with fail
     go_meet
     case rel=>rw[hqs];exact⟨hr9.set_box B89 9 _,M9.set_box B89 w33 9 _,B39.set_other B89 hk13 9 _,B89.set 9 _,IR9.set_box B89 (by decide) 9 _⟩
    |false=>
     rw[hqs]at B89 y9
     go_wp2_with fail
     go_meet
     case rel=>rw[hqs];exact⟨hr9.set_box B89 9 _,M9.set_box B89 w33 9 _,B39.set_other B89 hk13 9 _,B89.set 9 _,IR9.set_box B89 (by decide) 9 _⟩
   case rest=>
    obtain⟨hr10,M10,B310,B810,IR10⟩:=hcut
    clear hr9 B39 B89 IR9 M9
    obtain⟨val,HVAL⟩:∃val,Hid ((J5.err==0&&bk&&R.telling (R.tk T J1.i).s.toList)=val):=⟨_,rfl⟩
    rw[HVAL.out]at HI
    go_upto_region 35 with fail
    go_cut [] (λwr=>Rep wr b T (R.leaks tp val J5) rk/\Moves b w wr∧
     Box wr b k8 145 [.string (R.tk T J1.i).s,.int .i64 0,.string q.name,.int .i64 q.kind,.bool q.sec,.int .i64 q.pos,.int .i64 q.size,lv,.slice none 0 0,.bool (q.sec||bk)]/\IntRow wr b lv L)
    case first=>
     have x2:=hr10.c1 2 _ rfl
     have y0:=B310.c 0 _ rfl
     cases e5:(J5.err==0)with
     |false=>
      have hval:false=val:=by rw[<-HVAL.out,e5];rfl
      clear HVAL HI
      subst hval
      go_wp2_with fail
      refine(leaks_c hr10 tp false).mono ?_
      rintro x w11 ⟨rfl,hr11,hm11⟩
      go_wp2_with fail
      go_meet
      case rel=>exact⟨hr11,M10.trans hm11,B810.moves hm11,IR10.moves hm11⟩
     |true=>
      cases bk with
      |false=>
       have hval:false=val:=by rw[<-HVAL.out,e5];rfl
       clear HVAL HI
       subst hval
       go_wp2_with fail
       refine(leaks_c hr10 tp false).mono ?_
       rintro x w11 ⟨rfl,hr11,hm11⟩
       go_wp2_with fail
       go_meet
       case rel=>exact⟨hr11,M10.trans hm11,B810.moves hm11,IR10.moves hm11⟩
      |true=>
       cases eg:((R.tk T J1.i).s.toList==[103,101,116])with
       |true=>
        have hval:true=val:=by rw[<-HVAL.out,e5];unfold R.telling R.kGet;rw[eg];rfl
        clear HVAL HI
        subst hval
        go_wp2_with fail
        refine(leaks_c hr10 tp true).mono ?_
        rintro x w11 ⟨rfl,hr11,hm11⟩
        go_wp2_with fail
        go_meet
        case rel=>exact⟨hr11,M10.trans hm11,B810.moves hm11,IR10.moves hm11⟩
       |false=>
        cases ed:((R.tk T J1.i).s.toList==[47])with
        |true=>
         have hval:true=val:=by rw[<-HVAL.out,e5];unfold R.telling R.kGet;rw[eg,ed];rfl
         clear HVAL HI
         subst hval
         go_wp2_with fail
         refine(leaks_c hr10 tp true).mono ?_
         rintro x w11 ⟨rfl,hr11,hm11⟩
         go_wp2_with fail
         go_meet
         case rel=>exact⟨hr11,M10.trans hm11,B810.moves hm11,IR10.moves hm11⟩
        |false=>
         have hval:false=val:=by rw[<-HVAL.out,e5];unfold R.telling R.kGet;rw[eg,ed];rfl
         clear HVAL HI
         subst hval
         go_wp2_with fail
         refine(leaks_c hr10 tp false).mono ?_
         rintro x w11 ⟨rfl,hr11,hm11⟩
         go_wp2_with fail
         go_meet
         case rel=>exact⟨hr11,M10.trans hm11,B810.moves hm11,IR10.moves hm11⟩
    case rest=>
     obtain⟨hr12,M12,B812,IR12⟩:=hcut
     clear hr10 M10 B310 B810 IR10
     have n0:=B812.c 0 _ rfl
     have n1:=B812.c 1 _ rfl
     have n2:=B812.c 2 _ rfl
     have n3:=B812.c 3 _ rfl
     have n4:=B812.c 4 _ rfl
     have n5:=B812.c 5 _ rfl
     have n6:=B812.c 6 _ rfl
     have n7:=B812.c 7 _ rfl
     have n8:=B812.c 8 _ rfl
     have n9:=B812.c 9 _ rfl
     have hnn':(R.leaks tp val J5).nodes.length<=100000:=by rw[(R.leaks_core _ _ _).2.1];exact hnn.out
     go_wp2_with fail
     refine(node_k hr12 _ 0 q L [] (q.sec||bk) lv (.slice none 0 0) IR12.row (ints_nil _) hnn').mono ?_
     rintro x w13 ⟨rfl,r13,hr13,hm13⟩
     go_wp2_with fail
     go_ret
     rw[HI.out]
     exact⟨rfl,r13,hr13,M12.transX hm13 (λj hj=>hj.elim (hlo.out j) (λe=>by simp[Value.ownBlock]at e))⟩
theorem expr_c{T:List Tok}(hT:R.Small T)(hEnd:R.Ended T)(f:Nat):ExprDoes T f:=by
 induction f with
 |zero=>intro w b J r h hf;have:=h.lt;omega
 |succ f ih=>
  intro w b J r h hf hb
  by_cases hE:J.err=0
  · rw[R.expr,if_pos hE]
    by_cases h40:(R.tk T J.i).s.toList=[40]
    · rw[if_pos h40]
      by_cases hO:(R.opens T J).err=0
      · rw[if_pos hO];exact expr_in hT hEnd f ih w b J r h hf hb hE h40 hO
      · rw[if_neg hO];exact expr_deep w b J r h hb hE h40 hO
    · rw[if_neg h40]
      by_cases hn:(R.number (R.tk T J.i).s.data.toList).2=true
      · rw[if_pos hn];exact expr_num hT w b J r h hb hE h40 hn
      · rw[if_neg hn];exact expr_name hT w b J r h hb hE h40 hn
  · exact expr_dead_w f w b J r h hE
structure BdD(T:List Tok)(f:Nat)(J:PS):Prop where
 n0:0<=J.nest
 n1:J.nest<=10
 fu:11-J.nest<=f
 seen:(J.seen.length:Int)<=400+J.nest
 h0:0<=J.hidden
 h1:J.hidden<=40+J.nest
 l0:0<=J.loops
 l1:J.loops<=2
 nodes:J.nodes.length+(T.length-J.i)<=15000
theorem BdD.ok{T:List Tok}{f:Nat}{J J':PS}(h:BdD T f J)(k:R.Ok T J J')(e:J'.err=0):BdD T f J':=by
 have a1:=k.n3 e
 have a2:=k.p2 e
 have a3:J'.seen=J.seen:=congrArg (λc=>c.1) k.core
 have a4:J'.loops=J.loops:=congrArg (λc=>c.2.2.2.2.1) k.core
 have a5:J'.hidden=J.hidden:=congrArg (λc=>c.2.2.2.2.2.1) k.core
 obtain⟨b1,b2,b3,b4,b5,b6,b7,b8,b9⟩:=h
 exact⟨by omega,by omega,by omega,by rw[a3];omega,by omega,by omega,by omega,by omega,by omega⟩
def DoDoes(T:List Tok)(f:Nat):Prop:=∀(w:World) (b:Nat) (J:PS) (r:RV),Rep w b T J r->J.err=0->(R.tk T J.i).s.toList=[40]->BdD T f J→
 Calls Tryz.prog 62 #[P b] w λx w'=>x=.returned (.int .i64 (R.doF T f J).2)/\∃r',Rep w' b T (R.doF T f J).1 r'/\Moves b w w'
def DoesDoes(T:List Tok)(f:Nat):Prop:=∀(w:World) (b:Nat) (J:PS) (r:RV),Rep w b T J r->(J.err=0->BdD T f J)→
 Calls Tryz.prog 45 #[P b] w λx w'=>∃lv,x=.returned lv/\∃r',Rep w' b T (R.does T f J).1 r'/\Moves b w w'/\IntRow w' b lv (R.does T f J).2/\(R.does T f J).2.length<=1000/\∀j,lv.ownBlock=some j->w.heap.size<=j
def BlockDoes(T:List Tok)(f:Nat):Prop:=∀(w:World) (b:Nat) (J:PS) (r:RV),Rep w b T J r->(J.err=0->BdD T (f+1) J)→
 Calls Tryz.prog 80 #[P b] w λx w'=>∃lv,x=.returned lv/\∃r',Rep w' b T (R.block T (R.does T f) J).1 r'/\Moves b w w'/\IntRow w' b lv (R.block T (R.does T f) J).2/\(R.block T (R.does T f) J).2.length<=1000/\∀j,lv.ownBlock=some j->w.heap.size<=j
theorem doF_lt{T:List Tok}(hE:R.Ended T)(f:Nat)(J:PS)(h:J.i<T.length)(hf:0<f)(e:(R.doF T f J).1.err=0):J.i<(R.doF T f J).1.i:=by
 obtain⟨f,rfl⟩:∃g,f=g+1:=⟨f-1,by omega⟩
 rw[R.doF]at e ⊢
 unfold R.doB at e ⊢
 have o1:=R.opens_core T J
 have t2:=R.take_i T J
 have hlt:(R.opens T J).i<T.length:=by rw[o1.2.2.1];exact t2.2.2.2 h
 by_cases eo:(R.opens T J).err=0
 · rw[if_pos eo]at e ⊢
   have k:=(R.doIn_ok hE (λJ h=>R.doesL_ok (R.doF_ok hE f) T.length J [] h) (λJ e=>by rw[R.doesL_dead _ _ _ _ _ e]) (R.tk T J.i).p hlt).2.1
   have ht:=t2.2.2.1 (R.ended_lt hE h (R.ne_of_list (R.opens_ok eo).1 (by decide)))
   have:=o1.2.2.1
   dsimp only
   omega
 · rw[if_neg eo]at e
   exact absurd e eo
theorem word_s(s p:Value)(w:World):(Instr.field 90 (.agg #[s,p]) 0).run Tryz.prog w=.ok s w:=by kernel_rfl
theorem does_step{T:List Tok}{dof:PS->PS×Int}{n k:Nat}{Jk:PS}{L:List Int}{A:PS×List Int}(h:Hid (A=R.doesL T dof (n-k) Jk L))(hk:k<n)(e:Jk.err=0)(e2:(R.tk T Jk.i).s.toList=[40]):
 Hid (A=R.doesL T dof (n-(k+1)) (dof Jk).1 (L++[(dof Jk).2])):=by
 have:n-k=(n-(k+1))+1:=by omega
 rw[this,R.doesL,if_pos ⟨e,e2⟩]at h
 exact h
theorem does_stop{T:List Tok}{dof:PS->PS×Int}{m:Nat}{Jk:PS}{L:List Int}(h:¬(Jk.err=0/\(R.tk T Jk.i).s.toList=[40])):R.doesL T dof m Jk L=(Jk,L):=by
 cases m with
 |zero=>rfl
 |succ m=>rw[R.doesL,if_neg h]
theorem does_c{T:List Tok}(hE:R.Ended T)(f:Nat)(hdo:DoDoes T f):DoesDoes T f:=by
 intro w b J r h hb
 unfold R.does
 obtain⟨i0,hi,hz0,hz1,hz2⟩:=info_parts info_int
 have wds:=word_s
 go_enter Tryz.func45,Tryz.ntmps45
 go_wp2_with fail
 go_loopg [3,4] T.length (λgk lv _ wr=>∃(k:Nat) (Jk:PS) (rk:RV) (L:List Int),Hid (R.doesL T (R.doF T f) T.length J []=R.doesL T (R.doF T f) (T.length-k) Jk L)/\Hid (L.length=k)/\k<=T.length/\(Jk.err=0->k<=Jk.i/\T.length-Jk.i<=gk/\BdD T f Jk)∧
  Rep wr b T Jk rk/\Moves b w wr/\IntRow wr b lv L/\Hid (∀j,lv.ownBlock=some j->w.heap.size<=j))
 case atStart=>
  exact⟨0,J,r,[],rfl,rfl,by omega,λe=>⟨by omega,by omega,hb e⟩,h,Moves.refl _ _,⟨ints_nil _,λk hk=>by simp[Value.ownBlock]at hk,h.tight⟩,λk hk=>by simp[Value.ownBlock]at hk⟩
 case round=>
  obtain⟨k,Jk,rk,L,HA,HL,hkT,hlive,hrk,Mk,IR,hlo⟩:=hrel
  have c2k:=hrk.c1 2 _ rfl
  have hpk:=peek_c hrk
  have hfew:=hrk.few
  by_cases hek:Jk.err=0
  · have hek':=beq_yes hek
    by_cases h40:(R.tk T Jk.i).s.toList=[40]
    · have h40':=beq_yes h40
      obtain⟨l1,l2,l3⟩:=hlive hek
      have hlt:=hrk.lt
      have call:=fun(w:World) (hr:Rep w b T Jk rk)=>hdo w b Jk rk hr hek h40 l3
      have HA':=does_step HA (by omega) hek h40
      have ok':=R.doF_ok hE f Jk hrk.lt
      have lt':=doF_lt hE f Jk hrk.lt (by have:=l3.fu;have:=l3.n1;omega)
      clear HA hek h40 hlive
      generalize R.doF T f Jk=E at*
      generalize R.tk T Jk.i=t at*
      obtain⟨ts,tp⟩:=t
      dsimp only at*
      go_wp2_with fail
      refine hpk.mono ?_
      rintro x w5 ⟨rfl,hr5,hm5⟩
      go_wp2_with fail
      refine(call _ hr5).mono ?_
      rintro x w6 ⟨rfl,r6,hr6,hm6⟩
      have IR6:=(IR.moves hm5).moves hm6
      have hLL:L.length<=1000:=by have:=HL.out;omega
      go_wp2_with (at_builtin;refine wpList_append_row1 _ rfl _ _ 32 rfl 3 i0 (.int .i64 0) 1 8 Tryz.underlying32 hi hz0 hz1 hz2 rfl (by decide) _ L.length (ints L) rfl (by exact World.ownsRow.alloc IR6.row _) ⟨w6.heap.size,0,none⟩ 1 1 [.int .i64 E.2] rfl rfl (by exact row_new w6 [.int .i64 E.2] _) (by intro u hu;simp only[List.mem_singleton]at hu;subst hu;rfl) (few_le (by omega)) (by omega) Nat.one_pos ?_;intro g cap w7 hv hg hk;have gr:=Grew.of ((More.refl w6).alloc _) hg hk;have hr7:=hr6.same (gr.same hr6.tight IR6.off);have IR7:=IR6.grew gr (show Ints w7 _ (L++[E.2])from by simpa[Ints,ints]using hv);have M7:=((Mk.trans hm5).trans hm6).grew gr IR6.off hlo.out;clear hv hg hk)
      go_roundg (gk-1)
      case measure=>omega
      case rel=>
       exact⟨k+1,E.1,r6,L++[E.2],HA',by show _=_;rw[List.length_append,HL.out];rfl,by omega,λe=>⟨by have:=lt' e;omega,by have:=lt' e;omega,l3.ok ok' e⟩,hr7,M7,IR7,λj hj=>(gr.own j hj).elim (λe=>hlo.out j e) (λe=>by have:=Mk.size;have:=hm5.size;have:=hm6.size;omega)⟩
    · have HX:=hide (HA.out.trans (does_stop (λc=>h40 c.2)))
      have h40':=beq_no h40
      clear hek h40 hlive HA
      generalize R.tk T Jk.i=t at*
      obtain⟨ts,tp⟩:=t
      dsimp only at*
      go_wp2_with fail
      refine hpk.mono ?_
      rintro x w5 ⟨rfl,hr5,hm5⟩
      go_wp2_with fail
      go_ret
      rw[HX.out]
      exact⟨_,rfl,rk,hr5,Mk.trans hm5,IR.moves hm5,by have:=HL.out;dsimp only;omega,hlo.out⟩
  · have HX:=hide (HA.out.trans (does_stop (λc=>hek c.1)))
    have hek':=beq_no hek
    clear hek hlive HA
    go_wp2_with fail
    go_ret
    rw[HX.out]
    exact⟨_,rfl,rk,hrk,Mk,IR,by have:=HL.out;dsimp only;omega,hlo.out⟩
theorem block_c{T:List Tok}(f:Nat)(hE:R.Ended T)(hdoes:DoesDoes T f):BlockDoes T f:=by
 intro w b J r h hb
 have c2:=h.c1 2 _ rfl
 unfold R.block
 by_cases e:J.err=0
 · have hb':=hb e
   have e':=beq_yes e
   rw[if_pos e]
   clear e hb
   have hoc:=open_c h (by have:=hb'.n0;omega) (by have:=hb'.n1;omega)
   have o1:=R.opens_core T J
   have t2:=R.take_i T J
   have hbo:(R.opens T J).err=0->BdD T f (R.opens T J):=λeo=>by
    have q:=R.opens_ok eo
    have a3:(R.opens T J).seen=J.seen:=congrArg (λc=>c.1) o1.1
    have a4:(R.opens T J).loops=J.loops:=congrArg (λc=>c.2.2.2.2.1) o1.1
    have a5:(R.opens T J).hidden=J.hidden:=congrArg (λc=>c.2.2.2.2.2.1) o1.1
    have a6:=o1.2.2.2
    have a7:=o1.2.2.1
    have a8:=congrArg List.length o1.2.1
    obtain⟨b1,b2,b3,b4,b5,b6,b7,b8,b9⟩:=hb'
    exact⟨by omega,by have:=q.2.2;omega,by omega,by rw[a3];omega,by omega,by omega,by omega,by omega,by omega⟩
   have dn: -100<=(R.does T f (R.opens T J)).1.nest/\(R.does T f (R.opens T J)).1.nest<=100:=by
    have hlt:(R.opens T J).i<T.length:=by rw[o1.2.2.1];exact t2.2.2.2 h.lt
    have k:=R.does_ok hE f hlt
    have k1:=k.n1
    have k2:=k.n2
    have a6:=o1.2.2.2
    have:=hb'.n0
    have:=hb'.n1
    omega
   clear o1 t2
   generalize hD:R.does T f (R.opens T J)=D at*
   have HD:=hide hD
   clear hD
   generalize R.opens T J=J1 at*
   go_enter Tryz.func80,Tryz.ntmps80
   go_wp2_with fail
   refine hoc.mono ?_
   rintro x w1 ⟨rfl,hr1,hm1⟩
   go_wp2_with fail
   refine(hdoes w1 b J1 r hr1 hbo).mono ?_
   rintro x w2 ⟨lv,rfl,r2,hr2,hm2,ir,hll,hlo⟩
   rw[HD.out]at hr2 ir hll
   have HLO:=hide hlo
   clear hlo
   go_wp2_with fail
   refine(shut_c hr2 dn.1 dn.2).mono ?_
   rintro x w3 ⟨rfl,hr3,hm3⟩
   go_wp2_with fail
   go_ret
   exact⟨lv,rfl,r2,hr3,(hm1.trans hm2).trans hm3,ir.moves hm3,hll,λj hj=>by have:=HLO.out j hj;have:=hm1.size;omega⟩
 · have e':=beq_no e
   rw[if_neg e]
   clear e
   go_enter Tryz.func80,Tryz.ntmps80
   go_wp2_with fail
   go_ret
   exact⟨_,rfl,r,h,Moves.refl _ _,⟨ints_nil _,λk hk=>by simp[Value.ownBlock]at hk,h.tight⟩,by simp,λk hk=>by simp[Value.ownBlock]at hk⟩
structure St(w0 w:World)(b:Nat)(T:List Tok)(J:PS)(r:RV)(k4 k5:Nat)(c4 c5:List Value)(lv:Value)(L:List Int):Prop where
 rep:Rep w b T J r
 mv:Moves b w0 w
 b4:Box w b k4 90 c4
 b5:Box w b k5 145 c5
 row:IntRow w b lv L
 lo:∀j,lv.ownBlock=some j->w0.heap.size<=j
 lo5:w0.heap.size<=k5
 ne:k4≠k5
theorem St.moves{w0 w w':World}{b:Nat}{T:List Tok}{J J':PS}{r r':RV}{k4 k5:Nat}{c4 c5:List Value}{lv:Value}{L:List Int}(h:St w0 w b T J r k4 k5 c4 c5 lv L)(hr:Rep w' b T J' r')(hm:Moves b w w'):St w0 w' b T J' r' k4 k5 c4 c5 lv L:=
 ⟨hr,h.mv.trans hm,h.b4.moves hm,h.b5.moves hm,h.row.moves hm,h.lo,h.lo5,h.ne⟩
theorem St.set5{w0 w:World}{b:Nat}{T:List Tok}{J:PS}{r:RV}{k4 k5:Nat}{c4 c5:List Value}{lv:Value}{L:List Int}(h:St w0 w b T J r k4 k5 c4 c5 lv L)(i:Nat)(v:Value):St w0 (w.setCell ⟨k5,i,none⟩ v) b T J r k4 k5 c4 (c5.set i v) lv L:=
 ⟨h.rep.set_box h.b5 i v,h.mv.set_box h.b5 h.lo5 i v,h.b4.set_other h.b5 h.ne i v,h.b5.set i v,h.row.set_box h.b5 (by decide) i v,h.lo,h.lo5,h.ne⟩
theorem St.grew{w0 w w':World}{b:Nat}{T:List Tok}{J:PS}{r:RV}{k4 k5:Nat}{c4 c5:List Value}{lv lv':Value}{L L':List Int}(h:St w0 w b T J r k4 k5 c4 c5 lv L)(g:Grew w w' lv lv')(row:Ints w' lv' L'):St w0 w' b T J r k4 k5 c4 c5 lv' L':=
 ⟨h.rep.same (g.same h.rep.tight h.row.off),h.mv.grew g h.row.off h.lo,h.b4.grew g h.row.off (h.row.ne_box h.b4 (by decide)),h.b5.grew g h.row.off (h.row.ne_box h.b5 (by decide)),h.row.grew g row,
  λj hj=>(g.own j hj).elim (h.lo j) (λe=>Nat.le_trans h.mv.size e),h.lo5,h.ne⟩
theorem St.d4{w0 w:World}{b:Nat}{T:List Tok}{J:PS}{r:RV}{k4 k5:Nat}{c4 c5:List Value}{lv:Value}{L:List Int}(h:St w0 w b T J r k4 k5 c4 c5 lv L)(i:Nat)(v:Value)(e:c4[i]?=some v):w.cell? ⟨k4,i,none⟩=some v:=h.b4.c i v e
theorem St.d5{w0 w:World}{b:Nat}{T:List Tok}{J:PS}{r:RV}{k4 k5:Nat}{c4 c5:List Value}{lv:Value}{L:List Int}(h:St w0 w b T J r k4 k5 c4 c5 lv L)(i:Nat)(v:Value)(e:c5[i]?=some v):w.cell? ⟨k5,i,none⟩=some v:=h.b5.c i v e
theorem St.f5{w0 w:World}{b:Nat}{T:List Tok}{J:PS}{r:RV}{k4 k5:Nat}{c4 c5:List Value}{lv:Value}{L:List Int}(h:St w0 w b T J r k4 k5 c4 c5 lv L)(i:Nat):w.frozen? ⟨k5,i,none⟩=false:=h.b5.f i
theorem St.p{w0 w:World}{b:Nat}{T:List Tok}{J:PS}{r:RV}{k4 k5:Nat}{c4 c5:List Value}{lv:Value}{L:List Int}(h:St w0 w b T J r k4 k5 c4 c5 lv L)(i:Nat)(v:Value)(e:(pcs J r)[i]?=some v):w.cell? ⟨b,i,none⟩=some v:=h.rep.c1 i v e
structure BdI(T:List Tok)(J:PS):Prop where
 n0:1<=J.nest
 n1:J.nest<=10
 seen:(J.seen.length:Int)<=400+J.nest
 h0:0<=J.hidden
 h1:J.hidden<=39+J.nest
 l0:0<=J.loops
 l1:J.loops<=2
 nodes:J.nodes.length+(T.length-J.i)<=15000
theorem do_facts{T:List Tok}{f:Nat}{J:PS}(hb:BdD T (f+1) J)(hO:(R.opens T J).err=0)(hlt:J.i<T.length):
 (R.opens T J).i<T.length/\BdI T (R.take T (R.opens T J))/\11-(R.take T (R.opens T J)).nest<=f/\(R.take T (R.opens T J)).err=0/\(R.take T (R.opens T J)).i<T.length:=by
 have o1:=R.opens_core T J
 have t2:=R.take_i T J
 have hl1:(R.opens T J).i<T.length:=by rw[o1.2.2.1];exact t2.2.2.2 hlt
 have u1:=R.take_core T (R.opens T J)
 have u2:=R.take_i T (R.opens T J)
 have a3:(R.take T (R.opens T J)).seen=J.seen:=congrArg (λc=>c.1) (u1.1.trans o1.1)
 have a4:(R.take T (R.opens T J)).loops=J.loops:=congrArg (λc=>c.2.2.2.2.1) (u1.1.trans o1.1)
 have a5:(R.take T (R.opens T J)).hidden=J.hidden:=congrArg (λc=>c.2.2.2.2.2.1) (u1.1.trans o1.1)
 have q:=R.opens_ok hO
 have b1:=congrArg List.length (u1.2.1.trans o1.2.1)
 have b2:=u1.2.2.2.trans o1.2.2.2
 have b3:=q.2.2
 have b4:=u2.1
 have b5:=o1.2.2.1
 have b6:=t2.1
 obtain⟨c1,c2,c3,c4,c5,c6,c7,c8,c9⟩:=hb
 exact⟨hl1,⟨by omega,by omega,by rw[a3];omega,by omega,by omega,by omega,by omega,by omega⟩,by omega,by rw[u1.2.2.1];exact hO,u2.2.2.2 hl1⟩
theorem BdI.bd{T:List Tok}{J J':PS}(h:BdI T J)(k:R.Ok T J J'):Bd T J':=by
 have a1:=k.n1
 have a2:=k.n2
 have a3:J'.seen=J.seen:=congrArg (λc=>c.1) k.core
 have a4:=k.p1
 obtain⟨b1,b2,b3,b4,b5,b6,b7,b8⟩:=h
 exact⟨by omega,by omega,λe=>by have:=k.n3 e;omega,by rw[a3];omega,by omega⟩
theorem ex_c{T:List Tok}(hT:R.Small T)(hEnd:R.Ended T){w:World}{b:Nat}{J0 J:PS}{r:RV}(h:Rep w b T J r)(hb:BdI T J0)(k:R.Ok T J0 J):
 Calls Tryz.prog 78 #[P b] w λx w'=>x=.returned (.int .i64 (R.ex T J).2)/\∃r',Rep w' b T (R.ex T J).1 r'/\Moves b w w':=
 expr_c hT hEnd T.length w b J r h (by omega) (hb.bd k)
theorem ex_valid{T:List Tok}{J:PS}(hlt:J.i<T.length)(h:(R.ex T J).1.err=0):∃x:Nat,(R.ex T J).2=x/\x<(R.ex T J).1.nodes.length:=expr_valid T.length J hlt (by omega) h
theorem ints_snoc{w:World}{lv:Value}{L:List Int}{x:Int}(h:w.ownsRow 0 3 1 lv (L.length+1) (ints L++[.int .i64 x])):Ints w lv (L++[x]):=by
 simpa[Ints,ints]using h
theorem Grew.refl(w:World)(v:Value):Grew w w v v:=⟨rfl,rfl,rfl,Nat.le_refl _,λ_ _ _=>rfl,λ_ h=>Or.inl h⟩
theorem row_cells{w:World}{B e n g cap m:Nat}{xs:List Value}(h:w.ownsRow B e 1 (.slice (some ⟨g,0,none⟩) m cap) n xs):∀(j:Nat) u,xs[j]?=some u->w.cell? ((⟨g,0,none⟩:Addr).add j)=some u:=by
 intro j u hu
 obtain⟨hl,⟨h0,_⟩|⟨g',cap',cur,hv,_,hg,hc,_,hs,hx⟩⟩:=h
 · simp at h0
 · simp only[Value.slice.injEq,Option.some.injEq,Addr.mk.injEq]at hv
   obtain⟨⟨rfl,_⟩,rfl,rfl⟩:=hv
   have ea:(⟨g,0,none⟩:Addr).add j=⟨g,j,none⟩:=by unfold Addr.add;split<;>simp_all
   have hj:j<m*1:=by rw[<-hl];exact(List.getElem?_eq_some_iff.1 hu).1
   rw[ea]
   rw[<-hx,List.getElem?_take_of_lt hj]at hu
   simp[World.cell?,hg]
   simpa using hu
theorem wpList_append_ints{P:Program}(w:World){ops:Array Oper}{rest:List Oper}{o:Oper}{a:Act}{Q:Exit->Act->World->Prop}(hgd:o.guard=none)(s x:Operand)(t:TypeId)(ho:o.op=.call {callee:=.builtin .append,args:=#[s,x],argTypes:=#[t,t]})(e:TypeId)(i:TypeInfo)(z:Value)(bytes:Nat)(ht:P.underlying t=some (.slice e))(hi:P.info? e=some i)(hz:i.zero=some z)(hsize:i.size=1)(hby:i.bytes=bytes)(hzs:z.cells.size=1)(v:Value)(n:Nat)(xs:List Value)(hs:a.eval s=v)(hown:w.ownsRow 0 e 1 v n xs)(hn:0<n)(sv:Value)(m:Nat)(ys:List Value)(hx:a.eval x=sv)(hsrc:w.ownsRow 0 e 1 sv m ys)(h1:∀u∈ys,u.oneCell'=true)(h63:n+m<=maxLen)(hbytes:(n+m)*bytes<=140737488355328)(h:∀g cap w',w'.ownsRow 0 e 1 (.slice (some ⟨g,0,none⟩) (n+m) cap) (n+m) (xs++ys)->Grew w w' v (.slice (some ⟨g,0,none⟩) (n+m) cap)->wpList P ops Q rest (a.put o.dst (.slice (some ⟨g,0,none⟩) (n+m) cap)) w'):wpList P ops Q (o::rest) a w:=by
 have hsrc0:=hsrc
 obtain⟨hl,⟨h0,hm⟩|⟨g2,cap2,cur2,hv2,_⟩⟩:=hsrc
 · subst hm
   have hys:ys=[]:=List.eq_nil_of_length_eq_zero (by simpa using hl)
   subst hys
   obtain⟨g,cap,rfl⟩:=Joins.ownsRow_form hown hn
   refine wpList_append_own_none hgd s x t ho 0 e i 1 ht hi _ n xs hs hown (by rw[hx,h0]) ?_
   have:=h g cap w (by simpa using hown) (Grew.refl w _)
   simpa using this
 · subst hv2
   refine wpList_append_row w hgd s x t ho e i z 1 bytes ht hi hz hsize hby hzs (by decide) v n xs hs hown ⟨g2,0,none⟩ m cap2 ys hx hl (row_cells hsrc0) h1 h63 hbytes ?_
   intro v' w' k1 k2 k3
   obtain⟨g,cap,rfl⟩:=Joins.ownsRow_form k1 (by omega)
   exact h g cap w' k1 (Grew.of (More.refl w) k2 k3)
theorem ints_one(l:List Int):∀u∈ints l,u.oneCell'=true:=by
 intro u hu
 obtain⟨n,_,rfl⟩:=List.mem_map.1 hu
 rfl
theorem ints_app{w:World}{lv:Value}{L l:List Int}(h:w.ownsRow 0 3 1 lv (L.length+l.length) (ints L++ints l)):Ints w lv (L++l):=by
 simpa[Ints,ints]using h
theorem IntRow.beside{w w':World}{b:Nat}{u v v':Value}{l:List Int}(h:IntRow w b u l)(g:Grew w w' v v')(off:∀k,v.ownBlock=some k->¬Foot w b k)(ne:∀k,v.ownBlock=some k->u.ownBlock≠some k):IntRow w' b u l:=
 ⟨ownsRow_of h.row λk hk=>by
  obtain⟨_,hg⟩:=ownsRow_block h.row hk
  exact g.block k (heap_lt hg) (λe=>ne k e hk),
  λk hk f=>h.off k hk (Foot.of_same (g.same h.tight off) f),
  λk f=>Nat.lt_of_lt_of_le (h.tight k (Foot.of_same (g.same h.tight off) f)) g.size⟩
theorem IntRow.block_lt{w:World}{b:Nat}{v:Value}{l:List Int}(h:IntRow w b v l){k:Nat}(hk:v.ownBlock=some k):k<w.heap.size:=by
 obtain⟨_,hg⟩:=ownsRow_block h.row hk
 exact heap_lt hg
theorem Rep.newS{w w':World}{b:Nat}{T:List Tok}{J:PS}{r:RV}(h:Rep w b T J r){v':Value}{l:List Thing}(hat:At w' b 35 ((pcs J r).set 4 v'))(row:w'.ownsRow 0 111 5 v' l.length (l.flatMap thingCells))(own:∀k,v'.ownBlock=some k->r.S.ownBlock=some k∨w.heap.size<=k)(os:w'.os=w.os)(tape:w'.tape=w.tape)(output:w'.output=w.output)(size:w.heap.size<=w'.heap.size)(block:∀k,k<w.heap.size->k≠b->r.S.ownBlock≠some k->w'.heap[k]?=w.heap[k]?):Rep w' b T {J with seen:=l} {r with S:=v'}/\Moves b w w':=by
 obtain⟨xs,hx,hxl,hxs,hf⟩:=h.foot
 have hb:=h.cells
 unfold At at hb
 have keep:∀{e size u m ys},w.ownsRow 0 e size u m ys->e≠35->e≠111->w'.ownsRow 0 e size u m ys:=by
  intro e size u m ys hu he he2
  refine ownsRow_of hu λk hk=>?_
  obtain⟨cur,hc⟩:=ownsRow_block hu hk
  refine block k (heap_lt hc) (λe'=>?_) (λe'=>?_)
  · rw[e',hb]at hc
    simp at hc
    exact he hc.2.symm
  · obtain⟨cur',hc'⟩:=ownsRow_block h.seen e'
    rw[hc']at hc
    simp at hc
    exact he2 hc.2.symm
 have hx':w'.ownsRow 0 145 10 r.N J.nodes.length xs.flatten:=keep hx (by decide) (by decide)
 have hrep:Rep w' b T {J with seen:=l} {r with S:=v'}:=
  ⟨hat,keep h.toks (by decide) (by decide),row,⟨xs,hx',hxl,λk c n hc hnn=>by
   obtain⟨lv,tv,e,i1,i2⟩:=hxs k c n hc hnn
   exact⟨lv,tv,e,keep i1 (by decide) (by decide),keep i2 (by decide) (by decide)⟩⟩,keep h.shape (by decide) (by decide),keep h.does (by decide) (by decide),h.lt,h.few⟩
 have hf':=foot_iff (J:={J with seen:=l}) (r:={r with S:=v'}) hat hx' hxl λk c n hc hnn=>by obtain⟨lv,tv,e,_⟩:=hxs k c n hc hnn;exact⟨lv,tv,e⟩
 refine⟨hrep,os,tape,output,size,λ_=>⟨hrep.tight,λk hk nf=>?_,λk hk f=>?_⟩⟩
 · exact block k hk (λe=>nf ((hf k).2 (Or.inl e))) (λe=>nf ((hf k).2 (Or.inr (Or.inl (Or.inr (Or.inl e))))))
 · rcases(hf' k).1 f with f |f |f
   · exact(hf k).2 (Or.inl f)
   · rcases f with f |f |f |f |f
     · exact(hf k).2 (Or.inr (Or.inl (Or.inl f)))
     · rcases own k f with f |f
       · exact(hf k).2 (Or.inr (Or.inl (Or.inr (Or.inl f))))
       · omega
     · exact(hf k).2 (Or.inr (Or.inl (Or.inr (Or.inr (Or.inl f)))))
     · exact(hf k).2 (Or.inr (Or.inl (Or.inr (Or.inr (Or.inr (Or.inl f))))))
     · exact(hf k).2 (Or.inr (Or.inl (Or.inr (Or.inr (Or.inr (Or.inr f))))))
   · exact(hf k).2 (Or.inr (Or.inr f))
theorem Rep.pushS{w w1:World}{b:Nat}{T:List Tok}{J:PS}{r:RV}(h:Rep w b T J r){v':Value}(t:Thing)(row:w1.ownsRow 0 111 5 v' (J.seen.length+1) (J.seen.flatMap thingCells++thingCells t))(g:Grew w w1 r.S v'):
 Rep (w1.setCell ⟨b,4,none⟩ v') b T {J with seen:=J.seen++[t]} {r with S:=v'}/\Moves b w (w1.setCell ⟨b,4,none⟩ v'):=by
 obtain⟨k1,k2,k3,k4⟩:=grow_core h.cells 4 (v:=r.S) h.seen row (by decide) g
 exact h.newS k1 (by simpa using k2) g.own g.os g.tape g.output (by simpa[World.setCell]using g.size) k3
theorem flat_take(l:List Thing):(l.flatMap thingCells).take (l.dropLast.length*5)=l.dropLast.flatMap thingCells:=by
 cases h:l.reverse with
 |nil=>have:l=[]:=by simpa using h
       subst this;simp
 |cons t m=>
  have e:l=m.reverse++[t]:=by
   have:=congrArg List.reverse h
   simpa using this
  subst e
  rw[List.dropLast_concat,List.flatMap_append]
  have hlen:∀l:List Thing,(l.flatMap thingCells).length=l.length*5:=by
   intro l
   induction l with
   |nil=>rfl
   |cons a l ih=>rw[List.flatMap_cons,List.length_append,ih,List.length_cons,Nat.add_mul];simp[thingCells];omega
  rw[List.take_append_of_le_length (by rw[hlen];exact Nat.le_refl _),List.take_of_length_le (by rw[hlen];exact Nat.le_refl _)]
theorem Rep.popS{w:World}{b:Nat}{T:List Tok}{J:PS}{r:RV}(h:Rep w b T J r){g n cap:Nat}(hS:r.S=.slice (some ⟨g,0,none⟩) (n+1) cap)(hn:J.seen.length=n+1):
 Rep (w.setCell ⟨b,4,none⟩ (.slice (some ⟨g,0,none⟩) n cap)) b T {J with seen:=J.seen.dropLast} {r with S:=.slice (some ⟨g,0,none⟩) n cap}/\Moves b w (w.setCell ⟨b,4,none⟩ (.slice (some ⟨g,0,none⟩) n cap)):=by
 have hd:J.seen.dropLast.length=n:=by rw[List.length_dropLast,hn];rfl
 have hs:=h.seen
 have hbk:g≠b:=λe=>by
  obtain⟨cur,hc⟩:=ownsRow_block hs (k:=g) (by rw[hS];rfl)
  have hb:=h.cells
  unfold At at hb
  rw[e,hb]at hc
  simp at hc
 have other:∀k,k≠b->(w.setCell ⟨b,4,none⟩ (.slice (some ⟨g,0,none⟩) n cap)).heap[k]?=w.heap[k]?:=λk ne=>Below.heap_setCell _ _ _ _ ne
 refine h.newS (h.cells.set 4 _) ?_ (λk hk=>Or.inl (by rw[hS];exact hk)) rfl rfl rfl (by simp[World.setCell]) (λk _ ne _=>other k ne)
 obtain⟨hl,⟨h0,_⟩|⟨g',cap',cur,hv,hB,hg,hc,hcm,hcs,hcx⟩⟩:=hs
 · rw[hS]at h0;simp at h0
 · rw[hS]at hv
   simp only[Value.slice.injEq,Option.some.injEq,Addr.mk.injEq]at hv
   obtain⟨⟨rfl,_⟩,_,rfl⟩:=hv
   rw[hd]
   have e5:(J.seen.dropLast.flatMap thingCells)=cur.toList.take (n*5):=by
    rw[<-flat_take,hd,<-hcx,List.take_take,Nat.min_eq_left (by omega)]
   refine⟨?_,Or.inr ⟨g,cap,cur,rfl,hB,by rw[other g hbk];exact hg,by omega,hcm,hcs,e5.symm⟩⟩
   rw[e5,List.length_take,Array.length_toList,hcs]
   have:n*5<=cap*5:=Nat.mul_le_mul_right 5 (by omega)
   omega
theorem Rep.loop{w:World}{b:Nat}{T:List Tok}{J:PS}{r:RV}(h:Rep w b T J r)(n:Int):Rep (w.setCell ⟨b,11,none⟩ (.int .i64 n)) b T {J with loops:=n} r/\Moves b w (w.setCell ⟨b,11,none⟩ (.int .i64 n)):=
 h.scalar (J':={J with loops:=n}) (h.cells.set 11 _) ((But.refl b w).set 11 _) rfl rfl rfl rfl h.lt
theorem fresh_err{T:List Tok}{J:PS}(h:(R.fresh T J).err=0):J.err=0:=by
 by_cases e:J.err=0
 · exact e
 · unfold R.fresh at h;rw[if_neg e]at h;exact h
theorem ex_err{T:List Tok}{J:PS}(h:(R.ex T J).1.err=0):J.err=0:=by
 by_cases e:J.err=0
 · exact e
 · rw[R.ex_dead T e]at h;exact h
theorem for_seen{T:List Tok}{f:Nat}{J:PS}(hb:BdD T (f+1) J):((R.take T (R.opens T J)).seen.length:Int)<=399+(R.take T (R.opens T J)).nest:=by
 have o1:=R.opens_core T J
 have u1:=R.take_core T (R.opens T J)
 have a3:(R.take T (R.opens T J)).seen=J.seen:=congrArg (λc=>c.1) (u1.1.trans o1.1)
 have b2:=u1.2.2.2.trans o1.2.2.2
 have:=hb.seen
 rw[a3];omega
theorem dw_for{T:List Tok}{does:PS->PS×List Int}{p:Int}{s:ByteArray}{q:Int}{J:PS}(h:s.toList=R.kFor):R.doWord T does p ⟨s,q⟩ J=R.doFor T does p q J:=by
 unfold R.doWord;rw[if_neg (by rw[h];decide),if_neg (by rw[h];decide),if_neg (by rw[h];decide),if_pos h]
theorem for_bd{T:List Tok}{f:Nat}{J2 J:PS}{t:Thing}(hb:BdI T J2)(hs:(J2.seen.length:Int)<=399+J2.nest)(hf:11-J2.nest<=f)(k:R.Ok T J2 J)(e:J.err=0)(hl:J2.loops≠2):BdD T f (R.push t J):=by
 have a1:=k.n3 e
 have a2:=k.p2 e
 have a3:J.seen=J2.seen:=congrArg (λc=>c.1) k.core
 have a4:J.loops=J2.loops:=congrArg (λc=>c.2.2.2.2.1) k.core
 have a5:J.hidden=J2.hidden:=congrArg (λc=>c.2.2.2.2.2.1) k.core
 obtain⟨b1,b2,b3,b4,b5,b6,b7,b8⟩:=hb
 exact⟨by show 0<=J.nest;omega,by show J.nest<=10;omega,by show 11-J.nest<=_;omega,by show((J.seen++[t]).length:Int)<=400+J.nest;rw[a3];simp;omega,by show 0<=J.hidden;omega,by show J.hidden<=40+J.nest;omega,by show 0<=J.loops+1;omega,by show J.loops+1<=2;omega,by show J.nodes.length+(T.length-J.i)<=15000;omega⟩
structure Sd(w0 w:World)(b:Nat)(T:List Tok)(J:PS)(r:RV)(k3 k4:Nat)(c3 c4:List Value):Prop where
 rep:Rep w b T J r
 mv:Moves b w0 w
 b3:Box w b k3 111 c3
 b4:Box w b k4 90 c4
 lo3:w0.heap.size<=k3
 lo4:w0.heap.size<=k4
 ne:k3≠k4
theorem Sd.moves{w0 w w':World}{b:Nat}{T:List Tok}{J J':PS}{r r':RV}{k3 k4:Nat}{c3 c4:List Value}(h:Sd w0 w b T J r k3 k4 c3 c4)(hr:Rep w' b T J' r')(hm:Moves b w w'):Sd w0 w' b T J' r' k3 k4 c3 c4:=
 ⟨hr,h.mv.trans hm,h.b3.moves hm,h.b4.moves hm,h.lo3,h.lo4,h.ne⟩
theorem Sd.set3{w0 w:World}{b:Nat}{T:List Tok}{J:PS}{r:RV}{k3 k4:Nat}{c3 c4:List Value}(h:Sd w0 w b T J r k3 k4 c3 c4)(i:Nat)(v:Value):Sd w0 (w.setCell ⟨k3,i,none⟩ v) b T J r k3 k4 (c3.set i v) c4:=
 ⟨h.rep.set_box h.b3 i v,h.mv.set_box h.b3 h.lo3 i v,h.b3.set i v,h.b4.set_other h.b3 (λe=>h.ne e.symm) i v,h.lo3,h.lo4,h.ne⟩
theorem Sd.set4{w0 w:World}{b:Nat}{T:List Tok}{J:PS}{r:RV}{k3 k4:Nat}{c3 c4:List Value}(h:Sd w0 w b T J r k3 k4 c3 c4)(i:Nat)(v:Value):Sd w0 (w.setCell ⟨k4,i,none⟩ v) b T J r k3 k4 c3 (c4.set i v):=
 ⟨h.rep.set_box h.b4 i v,h.mv.set_box h.b4 h.lo4 i v,h.b3.set_other h.b4 h.ne i v,h.b4.set i v,h.lo3,h.lo4,h.ne⟩
theorem Sd.d3{w0 w:World}{b:Nat}{T:List Tok}{J:PS}{r:RV}{k3 k4:Nat}{c3 c4:List Value}(h:Sd w0 w b T J r k3 k4 c3 c4)(i:Nat)(v:Value)(e:c3[i]?=some v):w.cell? ⟨k3,i,none⟩=some v:=h.b3.c i v e
theorem Sd.d4{w0 w:World}{b:Nat}{T:List Tok}{J:PS}{r:RV}{k3 k4:Nat}{c3 c4:List Value}(h:Sd w0 w b T J r k3 k4 c3 c4)(i:Nat)(v:Value)(e:c4[i]?=some v):w.cell? ⟨k4,i,none⟩=some v:=h.b4.c i v e
theorem Sd.p{w0 w:World}{b:Nat}{T:List Tok}{J:PS}{r:RV}{k3 k4:Nat}{c3 c4:List Value}(h:Sd w0 w b T J r k3 k4 c3 c4)(i:Nat)(v:Value)(e:(pcs J r)[i]?=some v):w.cell? ⟨b,i,none⟩=some v:=h.rep.c1 i v e
theorem Rep.pushH{w w1:World}{b:Nat}{T:List Tok}{J:PS}{r:RV}(h:Rep w b T J r){v':Value}(s:Bool)(row:w1.ownsRow 0 4 1 v' (J.shape.length+1) (bools J.shape++[.bool s]))(g:Grew w w1 r.H v'):
 Rep (w1.setCell ⟨b,9,none⟩ v') b T {J with shape:=J.shape++[s]} {r with H:=v'}/\Moves b w (w1.setCell ⟨b,9,none⟩ v'):=by
 obtain⟨xs,hx,hxl,hxs,hf⟩:=h.foot
 obtain⟨k1,k2,k3,k4⟩:=grow_core h.cells 9 (v:=r.H) h.shape row (by decide) g
 have hx':(w1.setCell ⟨b,9,none⟩ v').ownsRow 0 145 10 r.N J.nodes.length xs.flatten:=k4 _ _ _ _ _ hx (by decide) (by decide)
 have hrep:Rep (w1.setCell ⟨b,9,none⟩ v') b T {J with shape:=J.shape++[s]} {r with H:=v'}:=
  ⟨k1,k4 _ _ _ _ _ h.toks (by decide) (by decide),k4 _ _ _ _ _ h.seen (by decide) (by decide),⟨xs,hx',hxl,λk c n hc hnn=>by
   obtain⟨lv,tv,e,i1,i2⟩:=hxs k c n hc hnn
   exact⟨lv,tv,e,k4 _ _ _ _ _ i1 (by decide) (by decide),k4 _ _ _ _ _ i2 (by decide) (by decide)⟩⟩,by simpa[bools]using k2,k4 _ _ _ _ _ h.does (by decide) (by decide),h.lt,h.few⟩
 have hf':=foot_iff (J:={J with shape:=J.shape++[s]}) (r:={r with H:=v'}) k1 hx' hxl λk c n hc hnn=>by obtain⟨lv,tv,e,_⟩:=hxs k c n hc hnn;exact⟨lv,tv,e⟩
 refine⟨hrep,g.os,g.tape,g.output,by simpa[World.setCell]using g.size,λ_=>⟨hrep.tight,λk hk nf=>?_,λk hk f=>?_⟩⟩
 · exact k3 k hk (λe=>nf ((hf k).2 (Or.inl e))) (λe=>nf ((hf k).2 (Or.inr (Or.inl (Or.inr (Or.inr (Or.inr (Or.inr e))))))))
 · rcases(hf' k).1 f with f |f |f
   · exact(hf k).2 (Or.inl f)
   · rcases f with f |f |f |f |f
     · exact(hf k).2 (Or.inr (Or.inl (Or.inl f)))
     · exact(hf k).2 (Or.inr (Or.inl (Or.inr (Or.inl f))))
     · exact(hf k).2 (Or.inr (Or.inl (Or.inr (Or.inr (Or.inl f)))))
     · exact(hf k).2 (Or.inr (Or.inl (Or.inr (Or.inr (Or.inr (Or.inl f))))))
     · rcases g.own k f with f |f
       · exact(hf k).2 (Or.inr (Or.inl (Or.inr (Or.inr (Or.inr (Or.inr f))))))
       · omega
   · exact(hf k).2 (Or.inr (Or.inr f))
theorem Rep.names{w:World}{b:Nat}{T:List Tok}{J:PS}{r:RV}(h:Rep w b T J r)(n:Int):Rep (w.setCell ⟨b,5,none⟩ (.int .i64 n)) b T {J with names:=n} r/\Moves b w (w.setCell ⟨b,5,none⟩ (.int .i64 n)):=
 h.scalar (J':={J with names:=n}) (h.cells.set 5 _) ((But.refl b w).set 5 _) rfl rfl rfl rfl h.lt
theorem Rep.size{w:World}{b:Nat}{T:List Tok}{J:PS}{r:RV}(h:Rep w b T J r)(n:Int):Rep (w.setCell ⟨b,6,none⟩ (.int .i64 n)) b T {J with size:=n} r/\Moves b w (w.setCell ⟨b,6,none⟩ (.int .i64 n)):=
 h.scalar (J':={J with size:=n}) (h.cells.set 6 _) ((But.refl b w).set 6 _) rfl rfl rfl rfl h.lt
end Go.Proofs.YtejbgcloblpbfaaGreatDoor
