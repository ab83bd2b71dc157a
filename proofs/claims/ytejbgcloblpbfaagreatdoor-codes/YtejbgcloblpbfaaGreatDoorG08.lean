import Derived.Test.YtejbgcloblpbfaaGreatDoorG05
import Derived.Deep.WholeRow
import Derived.Orders
set_option maxHeartbeats 1000000
namespace Go.Proofs.YtejbgcloblpbfaaGreatDoor
section
open Go.RowKit
open R (Tok tk)
open K (Nm S Scans Ex)
theorem choose_c{w:World}{b:Nat}{s:ByteArray}{T:List Tok}{J:S}{v:Value}(hS:Scans s T)(h:CR w b s T J v)(hv:K.Vars w)(h2:5<=b)(hvb:∀k,v.ownBlock=some k->5<=k)(hn:J.names.length<=1000)(p:Int)(f:Nat)(hE:ExDoes b s T v f)(d0:0<=J.depth)(d1:J.depth<=10)(df:11-J.depth<=f):
 Calls Tryz.prog 227 #[PT b,.int .i64 p] w λx w'=>x=.returned (exV (K.choX T (K.expr T f) p J).2)/\CR w' b s T (K.choX T (K.expr T f) p J).1 v/\ButV b v w w':=by
 have hlt:=h.cells.lt
 have k1:=K.step_keeps T J
 have hst:=kstep_c hS h
 have HG:Hid (K.choX T (K.expr T f) p J=((K.expr T f (K.expr T f (K.expr T f (K.step T J)).1).1).1,.cho p (K.expr T f (K.step T J)).2 (K.expr T f (K.expr T f (K.step T J)).1).2 (K.expr T f (K.expr T f (K.expr T f (K.step T J)).1).1).2)):=rfl
 generalize K.choX T (K.expr T f) p J=G at*
 generalize K.step T J=J1 at*
 have k2:=k1.trans (K.expr_keeps T f J1)
 have k3:=k2.trans (K.expr_keeps T f (K.expr T f J1).1)
 have hx1:=fun(w:World) (h':CR w b s T J1 v) (hv:K.Vars w)=>hE w _ h' hv (by rw[k1.depth];exact d0) (by rw[k1.depth];exact d1) (by rw[k1.depth];exact df) (by rw[k1.names];exact hn)
 have hx2:=fun(w:World) (h':CR w b s T (K.expr T f J1).1 v) (hv:K.Vars w)=>hE w _ h' hv (by rw[k2.depth];exact d0) (by rw[k2.depth];exact d1) (by rw[k2.depth];exact df) (by rw[k2.names];exact hn)
 have hx3:=fun(w:World) (h':CR w b s T (K.expr T f (K.expr T f J1).1).1 v) (hv:K.Vars w)=>hE w _ h' hv (by rw[k3.depth];exact d0) (by rw[k3.depth];exact d1) (by rw[k3.depth];exact df) (by rw[k3.names];exact hn)
 clear k1 k2 k3 hE
 generalize K.expr T f (K.expr T f (K.expr T f J1).1).1=E3 at*
 generalize K.expr T f (K.expr T f J1).1=E2 at*
 generalize K.expr T f J1=E1 at*
 have HV:Hid (exV G.2=.iface 214 (.agg #[.int .i64 p,exV E1.2,exV E2.2,exV E3.2])):=by show _=_;rw[HG.out];rfl
 have HG1:Hid (G.1=E3.1):=by show _=_;rw[HG.out]
 have f1:=exV_form E1.2
 have f2:=exV_form E2.2
 have f3:=exV_form E3.2
 generalize exV E1.2=e1 at*
 generalize exV E2.2=e2 at*
 generalize exV E3.2=e3 at*
 clear HG
 rcases f1 with⟨t1,x1,rfl⟩|rfl<;>rcases f2 with⟨t2,x2,rfl⟩|rfl<;>rcases f3 with⟨t3,x3,rfl⟩|rfl
 all_goals
  go_enter Tryz.func227,Tryz.ntmps227
  go_wp2_with fail
  refine hst.mono ?_
  rintro x w1 ⟨rfl,hr1,hb1⟩
  have V1:=hv.but hb1 h2 hlt
  go_wp2_with fail
  refine(hx1 _ hr1 V1).mono ?_
  rintro x w2 ⟨rfl,hr2,hb2⟩
  have V2:=V1.butV hb2 h2 hr1.cells.lt hvb
  go_wp2_with fail
  refine(hx2 _ hr2 V2).mono ?_
  rintro x w3 ⟨rfl,hr3,hb3⟩
  have V3:=V2.butV hb3 h2 hr2.cells.lt hvb
  go_wp2_with fail
  refine(hx3 _ hr3 V3).mono ?_
  rintro x w4 ⟨rfl,hr4,hb4⟩
  go_wp2_with fail
  go_ret
  rw[HV.out,HG1.out]
  exact⟨rfl,hr4,(((hb1.toV v).trans hb2).trans hb3).trans hb4⟩
theorem operation_c{w:World}{b:Nat}{s:ByteArray}{T:List Tok}{J:S}{v:Value}(hS:Scans s T)(h:CR w b s T J v)(hv:K.Vars w)(h2:5<=b)(hvb:∀k,v.ownBlock=some k->5<=k)(hn:J.names.length<=1000)(p:Int)(f:Nat)(hE:ExDoes b s T v f)(d0:0<=J.depth)(d1:J.depth<=10)(df:11-J.depth<=f)(hop:K.isOpS (tk T J.i).s=true):
 Calls Tryz.prog 229 #[PT b,.int .i64 p] w λx w'=>x=.returned (exV (K.opX T (K.expr T f) p J).2)/\CR w' b s T (K.opX T (K.expr T f) p J).1 v/\ButV b v w w':=by
 have hlt:=h.cells.lt
 have hz:=hS.tsize h.lt
 have k1:=K.take_keeps T K.isOpS J
 have ht:=ktake_isOp hS h K.isOpS (isOp_c _ w (by omega))
 have hs0:0<(tk T J.i).s.size:=by
  by_cases e:(tk T J.i).s.size=1
  · omega
  · exact absurd hop (by unfold K.isOpS;rw[sign_long e];decide)
 have HG:Hid (K.opX T (K.expr T f) p J=((K.expr T f (K.expr T f (K.take T K.isOpS J)).1).1,.op p (R.byteAt (tk T J.i).s 0) (K.expr T f (K.take T K.isOpS J)).2 (K.expr T f (K.expr T f (K.take T K.isOpS J)).1).2)):=rfl
 generalize K.opX T (K.expr T f) p J=G at*
 generalize K.take T K.isOpS J=J1 at*
 have k2:=k1.trans (K.expr_keeps T f J1)
 have hx1:=fun(w:World) (h':CR w b s T J1 v) (hv:K.Vars w)=>hE w _ h' hv (by rw[k1.depth];exact d0) (by rw[k1.depth];exact d1) (by rw[k1.depth];exact df) (by rw[k1.names];exact hn)
 have hx2:=fun(w:World) (h':CR w b s T (K.expr T f J1).1 v) (hv:K.Vars w)=>hE w _ h' hv (by rw[k2.depth];exact d0) (by rw[k2.depth];exact d1) (by rw[k2.depth];exact df) (by rw[k2.names];exact hn)
 clear k1 k2 hE
 generalize K.expr T f (K.expr T f J1).1=E2 at*
 generalize K.expr T f J1=E1 at*
 generalize tk T J.i=t at*
 obtain⟨ts,tp⟩:=t
 dsimp only at*
 have HV:Hid (exV G.2=.iface 212 (.agg #[.int .i64 p,.int .u8 ts[0].toNat,exV E1.2,exV E2.2])):=by show _=_;rw[HG.out,<-R.byte_get ts 0 hs0];rfl
 have HG1:Hid (G.1=E2.1):=by show _=_;rw[HG.out]
 have f1:=exV_form E1.2
 have f2:=exV_form E2.2
 generalize exV E1.2=e1 at*
 generalize exV E2.2=e2 at*
 clear HG hop
 have hs0':(0:Int)<(ts.size:Int):=by omega
 rcases f1 with⟨t1,x1,rfl⟩|rfl<;>rcases f2 with⟨t2,x2,rfl⟩|rfl
 all_goals
  go_enter Tryz.func229,Tryz.ntmps229
  go_wp2_with fail
  refine ht.mono ?_
  rintro x w1 ⟨rfl,hr1,hb1⟩
  have V1:=hv.but hb1 h2 hlt
  go_wp2_with fail
  refine(hx1 _ hr1 V1).mono ?_
  rintro x w2 ⟨rfl,hr2,hb2⟩
  have V2:=V1.butV hb2 h2 hr1.cells.lt hvb
  go_wp2_with fail
  refine(hx2 _ hr2 V2).mono ?_
  rintro x w3 ⟨rfl,hr3,hb3⟩
  go_wp2_with fail
  go_ret
  rw[HV.out,HG1.out]
  exact⟨rfl,hr3,((hb1.toV v).trans hb2).trans hb3⟩
theorem emptyL:ByteArray.toList ⟨#[]⟩=[]:=by decide +kernel
theorem compound_c{w:World}{b:Nat}{s:ByteArray}{T:List Tok}{J:S}{v:Value}(hS:Scans s T)(h:CR w b s T J v)(hv:K.Vars w)(h2:5<=b)(hvb:∀k,v.ownBlock=some k->5<=k)(hn:J.names.length<=1000)(p:Int)(f:Nat)(hE:ExDoes b s T v f)(d0:0<=J.depth)(hd:J.depth<=10/\11-J.depth<=f∨J.i=T.length-1):
 Calls Tryz.prog 218 #[PT b,.int .i64 p] w λx w'=>x=.returned (exV (K.comp T (K.expr T f) p J).2)/\CR w' b s T (K.comp T (K.expr T f) p J).1 v/\ButV b v w w':=by
 have hz:=hS.tsize h.lt
 have c1:=h.c 1 _ rfl
 have HC:Hid (K.comp T (K.expr T f) p J=if((tk T J.i).s.toList==K.kGet)=true then K.getX T (K.expr T f) p J else if((tk T J.i).s.toList==K.kChoose)=true then K.choX T (K.expr T f) p J else if K.isOpS (tk T J.i).s=true then K.opX T (K.expr T f) p J else(K.here T 2 J,.none)):=rfl
 have hdead:((tk T J.i).s.toList==K.kGet)=true∨((tk T J.i).s.toList==K.kChoose)=true∨K.isOpS (tk T J.i).s=true->J.depth<=10/\11-J.depth<=f:=λhh=>by
  rcases hd with hd |hd
  · exact hd
  · rw[hd,hS.last]at hh
    dsimp only[K.isOpS]at hh
    rw[emptyL]at hh
    exact absurd hh (by decide)
 cases e1:((tk T J.i).s.toList==K.kGet)with
 |true=>
  have hd':=hdead (Or.inl e1)
  have hg:=get_c hS h hv h2 hn p f hE d0 hd'.1 hd'.2
  rw[e1,if_pos rfl]at HC
  have e1':((tk T J.i).s.toList==[103,101,116])=true:=e1
  generalize K.getX T (K.expr T f) p J=G at*
  generalize K.comp T (K.expr T f) p J=C at*
  have e:=HC.out
  subst e
  generalize tk T J.i=t at*
  clear e1 hdead hd
  generalize exV C.2=ev at*
  go_enter Tryz.func218,Tryz.ntmps218
  go_wp2_with fail
  refine hg.mono ?_
  rintro x w' ⟨rfl,hr,hb⟩
  go_wp2_with fail
  go_ret
  exact⟨rfl,hr,hb⟩
 |false=>
  rw[e1,if_neg (by decide)]at HC
  have e1':((tk T J.i).s.toList==[103,101,116])=false:=e1
  cases e2:((tk T J.i).s.toList==K.kChoose)with
  |true=>
   have hd':=hdead (Or.inr (Or.inl e2))
   have hg:=choose_c hS h hv h2 hvb hn p f hE d0 hd'.1 hd'.2
   rw[e2,if_pos rfl]at HC
   have e2':((tk T J.i).s.toList==[99,104,111,111,115,101])=true:=e2
   generalize K.choX T (K.expr T f) p J=G at*
   generalize K.comp T (K.expr T f) p J=C at*
   have e:=HC.out
   subst e
   generalize tk T J.i=t at*
   clear e1 e2 hdead hd
   generalize exV C.2=ev at*
   go_enter Tryz.func218,Tryz.ntmps218
   go_wp2_with fail
   refine hg.mono ?_
   rintro x w' ⟨rfl,hr,hb⟩
   go_wp2_with fail
   go_ret
   exact⟨rfl,hr,hb⟩
  |false=>
   rw[e2,if_neg (by decide)]at HC
   have e2':((tk T J.i).s.toList==[99,104,111,111,115,101])=false:=e2
   have hio:=isOp_c (tk T J.i).s w (by omega)
   cases e3:K.isOpS (tk T J.i).s with
   |true=>
    have hd':=hdead (Or.inr (Or.inr e3))
    have hg:=operation_c hS h hv h2 hvb hn p f hE d0 hd'.1 hd'.2 e3
    rw[e3,if_pos rfl]at HC
    have e3':R.sign (tk T J.i).s.toList=true:=e3
    rw[e3']at hio
    generalize K.opX T (K.expr T f) p J=G at*
    generalize K.comp T (K.expr T f) p J=C at*
    have e:=HC.out
    subst e
    clear e1 e2 e3 e3' hdead hd
    generalize tk T J.i=t at*
    generalize exV C.2=ev at*
    go_enter Tryz.func218,Tryz.ntmps218
    go_wp2_with fail
    refine hio.mono ?_
    rintro x w' ⟨rfl,rfl⟩
    go_wp2_with fail
    refine hg.mono ?_
    rintro x w' ⟨rfl,hr,hb⟩
    go_wp2_with fail
    go_ret
    exact⟨rfl,hr,hb⟩
   |false=>
    have hfh:=failHere_c hS h 2
    rw[e3,if_neg (by decide)]at HC
    have e3':R.sign (tk T J.i).s.toList=false:=e3
    rw[e3']at hio
    generalize K.here T 2 J=J1 at*
    generalize K.comp T (K.expr T f) p J=C at*
    clear e1 e2 e3 e3' hdead hd
    generalize tk T J.i=t at*
    go_enter Tryz.func218,Tryz.ntmps218
    go_wp2_with fail
    refine hio.mono ?_
    rintro x w' ⟨rfl,rfl⟩
    go_wp2_with fail
    refine hfh.mono ?_
    rintro x w' ⟨rfl,hr,hb⟩
    go_wp2_with fail
    go_ret
    rw[HC.out]
    exact⟨rfl,hr,hb.toV v⟩
theorem kexpr_c{b:Nat}{s:ByteArray}{T:List Tok}{v:Value}(hS:Scans s T)(h2:5<=b)(hvb:∀k,v.ownBlock=some k->5<=k)(f:Nat):ExDoes b s T v f:=by
 induction f with
 |zero=>intro w J _ _ d0 d1 df;omega
 |succ f ih=>
  intro w J h hv d0 d1 df hn
  have hmf:∀(fn:Fn) (first cap:Array Value) (w:World),(Instr.makeFunc fn first cap).run Tryz.prog w=.ok (.func fn first cap) w:=λ_ _ _ _=>rfl
  have hz:=hS.tsize h.lt
  have hlt:=h.cells.lt
  have c1:=h.c 1 _ rfl
  rw[K.expr]
  have HX:Hid (K.exB T (K.expr T f) J=if((tk T J.i).s.toList==[40])=true then(K.closed T (K.comp T (K.expr T f) (tk T J.i).p (K.opened T J)).1,(K.comp T (K.expr T f) (tk T J.i).p (K.opened T J)).2)
   else if K.isNum (tk T J.i).s=true then(K.take T K.isNum J,.num (K.val (tk T J.i).s))else(K.known T K.canRead J,.use (K.knownN T J))):=rfl
  cases e1:((tk T J.i).s.toList==[40])with
  |true=>
   rw[e1,if_pos rfl]at HX
   have kc:K.Keeps (K.opened T J) (K.comp T (K.expr T f) (tk T J.i).p (K.opened T J)).1:=K.comp_keeps (K.expr_keeps T f) _ _
   have hod:=K.opened_depth T J
   have hon:(K.opened T J).names=J.names:=(K.op2_keeps T J).names
   have hbr:=inBr_expr hS h d0 (by omega) (J4:=(K.comp T (K.expr T f) (tk T J.i).p (K.opened T J)).1) (by rw[kc.depth,hod]) (λ_ rv=>rv=exV (K.comp T (K.expr T f) (tk T J.i).p (K.opened T J)).2)
    (λw1 h1 hb1=>(compound_c hS h1 (hv.but hb1 h2 hlt) h2 hvb (by rw[hon];exact hn) (tk T J.i).p f ih (by omega) (by
      by_cases e:J.depth=10
      · exact Or.inr (K.opened_deep e)
      · exact Or.inl ⟨by omega,by omega⟩)).mono (by
      rintro x w' ⟨rfl,hr,hb⟩
      exact⟨_,rfl,rfl,hr,hb⟩))
    (λ_ _ _ _ _ hh=>hh)
   generalize K.exB T (K.expr T f) J=X at*
   generalize K.comp T (K.expr T f) (tk T J.i).p (K.opened T J)=C at*
   have HX1:Hid (X.1=K.closed T C.1):=by show _=_;rw[HX.out]
   have HX2:Hid (exV X.2=exV C.2):=by show _=_;rw[HX.out]
   generalize exV C.2=ev at*
   clear kc hod hon HX ih
   generalize tk T J.i=t at*
   go_enter Tryz.func205,Tryz.ntmps205
   go_wp2_with fail
   refine hbr.mono ?_
   rintro x w' ⟨rv,rfl,rfl,hr,hb⟩
   go_wp2_with fail
   go_ret
   rw[HX1.out,HX2.out]
   exact⟨rfl,hr,hb⟩
  |false=>
   rw[e1,if_neg (by decide)]at HX
   have hin:=isNumber_c (tk T J.i).s w (by omega)
   cases e2:K.isNum (tk T J.i).s with
   |true=>
    rw[e2,if_pos rfl]at HX
    rw[e2]at hin
    have ht:=ktake_isNumber hS h K.isNum (isNumber_c _ w (by omega))
    have hvo:=fun(w:World) (hv:K.Vars w)=>valueOf_c (tk T J.i).s w (by omega) hv
    generalize K.exB T (K.expr T f) J=X at*
    generalize K.take T K.isNum J=J1 at*
    generalize K.val (tk T J.i).s=q at*
    have HX1:Hid (X.1=J1):=by show _=_;rw[HX.out]
    have HX2:Hid (exV X.2=.iface 206 (.agg #[.int .i64 q])):=by show _=_;rw[HX.out];rfl
    clear HX ih e2
    generalize tk T J.i=t at*
    go_enter Tryz.func205,Tryz.ntmps205
    go_wp2_with fail
    refine hin.mono ?_
    rintro x w' ⟨rfl,rfl⟩
    go_wp2_with fail
    refine ht.mono ?_
    rintro x w1 ⟨rfl,hr1,hb1⟩
    go_wp2_with fail
    refine(hvo _ (hv.but hb1 h2 hlt)).mono ?_
    rintro x w2 ⟨rfl,hb2⟩
    go_wp2_with fail
    go_ret
    rw[HX1.out,HX2.out]
    exact⟨rfl,hr1.below hb2,(hb1.below hb2).toV v⟩
   |false=>
    rw[e2,if_neg (by decide)]at HX
    rw[e2]at hin
    have hk:=known_read hS h hn
    generalize K.exB T (K.expr T f) J=X at*
    generalize K.known T K.canRead J=J1 at*
    generalize K.knownN T J=N at*
    obtain⟨x0,x1,x2,x3,x4⟩:=N
    unfold nmV at hk
    dsimp only at hk
    have HX1:Hid (X.1=J1):=by show _=_;rw[HX.out]
    have HX2:Hid (exV X.2=.iface 208 (.agg #[.string x0,.int .i64 x1,.bool x2,.int .i64 x3,.int .i64 x4])):=by show _=_;rw[HX.out];rfl
    clear HX ih e2
    generalize tk T J.i=t at*
    go_enter Tryz.func205,Tryz.ntmps205
    go_wp2_with fail
    refine hin.mono ?_
    rintro x w' ⟨rfl,rfl⟩
    go_wp2_with fail
    refine hk.mono ?_
    rintro x w1 ⟨rfl,hr1,hb1⟩
    go_wp2_with fail
    go_ret
    rw[HX1.out,HX2.out]
    exact⟨rfl,hr1,hb1.toV v⟩
end
section
open Go.RowKit
open R (Tok tk)
namespace K
def Fwd(T:List Tok)(J J':S):Prop:=J.i<T.length->J.i<=J'.i/\J'.i<T.length
theorem Fwd.rfl'(T:List Tok)(J:S):Fwd T J J:=λh=>⟨Nat.le_refl _,h⟩
theorem Fwd.trans{T:List Tok}{a b c:S}(h:Fwd T a b)(k:Fwd T b c):Fwd T a c:=λx=>⟨Nat.le_trans (h x).1 (k (h x).2).1,(k (h x).2).2⟩
theorem step_fwd(T:List Tok)(J:S):Fwd T J (step T J):=λh=>by
 show J.i<=nx T J.i/\nx T J.i<T.length
 unfold nx;split<;>omega
theorem fail_fwd(T:List Tok)(e p:Int)(J:S):Fwd T J (fail T e p J):=λh=>by rw[fail_i];omega
theorem take_fwd(T:List Tok)(f:ByteArray->Bool)(J:S):Fwd T J (take T f J):=by
 unfold take;split
 · exact step_fwd T J
 · exact fail_fwd T _ _ J
theorem known_fwd(T:List Tok)(fits:Nm->Bool)(J:S):Fwd T J (known T fits J):=by
 unfold known;split
 · exact take_fwd T _ J
 · exact(take_fwd T _ J).trans (fail_fwd T _ _ _)
theorem newName_fwd(T:List Tok)(J:S):Fwd T J (newName T J):=by
 unfold newName;split
 · exact(take_fwd T _ J).trans (fail_fwd T _ _ _)
 · exact take_fwd T _ J
theorem deeper_fwd(T:List Tok)(d:Int)(J:S):Fwd T J (deeper d J):=λh=>⟨Nat.le_refl _,h⟩
theorem opened_fwd(T:List Tok)(J:S):Fwd T J (opened T J):=by
 unfold opened op2
 split
 · exact((take_fwd T _ J).trans (fail_fwd T _ _ _)).trans (deeper_fwd T _ _)
 · exact(take_fwd T _ J).trans (deeper_fwd T _ _)
theorem closed_fwd(T:List Tok)(J:S):Fwd T J (closed T J):=(take_fwd T _ J).trans (deeper_fwd T _ _)
theorem comp_fwd{T:List Tok}{ex:S->S×Ex}(h:∀J,Fwd T J (ex J).1)(p:Int)(J:S):Fwd T J (comp T ex p J).1:=by
 unfold comp
 split
 · exact((step_fwd T J).trans (known_fwd T _ _)).trans (h _)
 · split
   · exact(((step_fwd T J).trans (h _)).trans (h _)).trans (h _)
   · split
     · exact((take_fwd T _ J).trans (h _)).trans (h _)
     · exact fail_fwd T _ _ J
theorem expr_fwd(T:List Tok)(f:Nat):∀J,Fwd T J (expr T f J).1:=by
 induction f with
 |zero=>intro J;exact Fwd.rfl' T J
 |succ f ih=>
  intro J
  rw[expr]
  unfold exB
  split
  · exact((opened_fwd T J).trans (comp_fwd ih _ _)).trans (closed_fwd T _)
  · split
    · exact take_fwd T _ J
    · exact known_fwd T _ J
theorem opened_over{T:List Tok}{J:S}(h:J.i+1<T.length)(h40:((tk T J.i).s.toList==[40])=true):J.i+1<=(opened T J).i:=by
 have e:(op1 T J).i=J.i+1:=by
  unfold op1 expect take isIt
  rw[if_pos h40]
  show nx T J.i=_
  unfold nx
  rw[if_pos h]
 show J.i+1<=(op2 T J).i
 unfold op2
 split
 · rw[fail_i];omega
 · omega
inductive Do where
 |set (p:Int) (n:Nm) (e:Ex)
 |put (p:Int) (n:Nm) (i e:Ex)
 |ifs (p:Int) (q:Ex) (y n:List Do)
 |fors (p:Int) (n:Nm) (r:Ex) (l:List Do)
 |none
def setX(T:List Tok)(p:Int)(J:S):S×Do:=
 let a:=expr T 11 (known T canSet (step T J))
 (a.1,.set p (knownN T (step T J)) a.2)
def putX(T:List Tok)(p:Int)(J:S):S×Do:=
 let a:=expr T 11 (known T hasWords (step T J))
 let c:=expr T 11 a.1
 (c.1,.put p (knownN T (step T J)) a.2 c.2)
def brk(T:List Tok)(dos:S->S×List Do)(J:S):S×List Do:=(closed T (dos (opened T J)).1,(dos (opened T J)).2)
def ifX(T:List Tok)(dos:S->S×List Do)(p:Int)(J:S):S×Do:=
 let q:=expr T 11 (step T J)
 let y:=brk T dos q.1
 let n:=brk T dos y.1
 (n.1,.ifs p q.2 y.2 n.2)
def seeing(n:Nm)(J:S):S:={J with names:=J.names++[n],loops:=J.loops+1}
def unseen(J a:S):S:={a with names:=J.names,loops:=a.loops-1}
def body(dos:S->S×List Do)(n:Nm)(J:S):S×List Do:=(unseen J (dos (seeing n J)).1,(dos (seeing n J)).2)
def loop0(T:List Tok)(J:S):S:=if J.loops=2 then here T 6 J else J
def loop1(T:List Tok)(J:S):S:=step T (loop0 T J)
def counter(T:List Tok)(J:S):Nm:=⟨(tk T (loop1 T J).i).s,2,false,0,J.words+J.loops⟩
def forX(T:List Tok)(dos:S->S×List Do)(p:Int)(J:S):S×Do:=
 let a:=expr T 11 (newName T (loop1 T J))
 let c:=body dos (counter T J) a.1
 (c.1,.fors p (counter T J) a.2 c.2)
def isW(l:List UInt8)(t:Tok):Bool:=t.s.toList==l
def doX(T:List Tok)(dos:S->S×List Do)(p:Int)(J:S):S×Do:=
 if isW [115,101,116] (tk T J.i)=true then setX T p J
 else if isW [112,117,116] (tk T J.i)=true then putX T p J
 else if isW [105,102] (tk T J.i)=true then ifX T dos p J
 else if isW [102,111,114] (tk T J.i)=true then forX T dos p J
 else(here T 2 J,.none)
def brkDo(T:List Tok)(d:Int->S->S×Do)(J:S):S×Do:=(closed T (d (tk T J.i).p (opened T J)).1,(d (tk T J.i).p (opened T J)).2)
def dosL(T:List Tok)(d:Int->S->S×Do):Nat->S->List Do->S×List Do
 |0,J,l=>(J,l)
 |m+1,J,l=>if isW [40] (tk T J.i)=true then dosL T d m (brkDo T d J).1 (l++[(brkDo T d J).2])else(J,l)
def doF(T:List Tok):Nat->Int->S->S×Do
 |0,_,J=>(J,.none)
 |f+1,p,J=>doX T (λJ=>dosL T (doF T f) T.length J []) p J
def dos(T:List Tok)(f:Nat)(J:S):S×List Do:=dosL T (doF T f) T.length J []
theorem loop0_keeps(T:List Tok)(J:S):Keeps J (loop0 T J):=by
 unfold loop0;split
 · exact here_keeps T _ J
 · exact Keeps.rfl' J
theorem brk_keeps{T:List Tok}{dos:S->S×List Do}(h:∀J,Keeps J (dos J).1)(J:S):Keeps J (brk T dos J).1:=closed_keeps (h _)
theorem body_keeps{dos:S->S×List Do}(h:∀J,Keeps J (dos J).1)(n:Nm)(J:S):Keeps J (body dos n J).1:=by
 have k:=h (seeing n J)
 refine⟨rfl,k.words,k.depth,?_⟩
 show(dos (seeing n J)).1.loops-1=J.loops
 rw[k.loops]
 show J.loops+1-1=_
 omega
theorem doX_keeps{T:List Tok}{dos:S->S×List Do}(h:∀J,Keeps J (dos J).1)(p:Int)(J:S):Keeps J (doX T dos p J).1:=by
 unfold doX
 split
 · exact((step_keeps T J).trans (known_keeps T _ _)).trans (expr_keeps T _ _)
 · split
   · exact(((step_keeps T J).trans (known_keeps T _ _)).trans (expr_keeps T _ _)).trans (expr_keeps T _ _)
   · split
     · exact(((step_keeps T J).trans (expr_keeps T _ _)).trans (brk_keeps h _)).trans (brk_keeps h _)
     · split
       · exact((((loop0_keeps T J).trans (step_keeps T _)).trans (newName_keeps T _)).trans (expr_keeps T _ _)).trans (body_keeps h _ _)
       · exact here_keeps T _ J
theorem brkDo_keeps{T:List Tok}{d:Int->S->S×Do}(h:∀p J,Keeps J (d p J).1)(J:S):Keeps J (brkDo T d J).1:=closed_keeps (h _ _)
theorem dosL_keeps{T:List Tok}{d:Int->S->S×Do}(h:∀p J,Keeps J (d p J).1)(m:Nat):∀(J:S) (l:List Do),Keeps J (dosL T d m J l).1:=by
 induction m with
 |zero=>intro J l;exact Keeps.rfl' J
 |succ m ih=>
  intro J l
  rw[dosL]
  split
  · exact(brkDo_keeps h J).trans (ih _ _)
  · exact Keeps.rfl' J
theorem doF_keeps(T:List Tok)(f:Nat):∀p J,Keeps J (doF T f p J).1:=by
 induction f with
 |zero=>intro p J;exact Keeps.rfl' J
 |succ f ih=>intro p J;exact doX_keeps (λJ=>dosL_keeps ih T.length J []) p J
theorem dos_keeps(T:List Tok)(f:Nat)(J:S):Keeps J (dos T f J).1:=dosL_keeps (doF_keeps T f) _ _ _
theorem loop0_fwd(T:List Tok)(J:S):Fwd T J (loop0 T J):=by
 unfold loop0;split
 · exact fail_fwd T _ _ J
 · exact Fwd.rfl' T J
theorem brk_fwd{T:List Tok}{dos:S->S×List Do}(h:∀J,Fwd T J (dos J).1)(J:S):Fwd T J (brk T dos J).1:=((opened_fwd T J).trans (h _)).trans (closed_fwd T _)
theorem body_fwd{T:List Tok}{dos:S->S×List Do}(h:∀J,Fwd T J (dos J).1)(n:Nm)(J:S):Fwd T J (body dos n J).1:=λx=>h (seeing n J) x
theorem doX_fwd{T:List Tok}{dos:S->S×List Do}(h:∀J,Fwd T J (dos J).1)(p:Int)(J:S):Fwd T J (doX T dos p J).1:=by
 unfold doX
 split
 · exact((step_fwd T J).trans (known_fwd T _ _)).trans (expr_fwd T _ _)
 · split
   · exact(((step_fwd T J).trans (known_fwd T _ _)).trans (expr_fwd T _ _)).trans (expr_fwd T _ _)
   · split
     · exact(((step_fwd T J).trans (expr_fwd T _ _)).trans (brk_fwd h _)).trans (brk_fwd h _)
     · split
       · exact((((loop0_fwd T J).trans (step_fwd T _)).trans (newName_fwd T _)).trans (expr_fwd T _ _)).trans (body_fwd h _ _)
       · exact fail_fwd T _ _ J
theorem brkDo_fwd{T:List Tok}{d:Int->S->S×Do}(h:∀p J,Fwd T J (d p J).1)(J:S):Fwd T J (brkDo T d J).1:=((opened_fwd T J).trans (h _ _)).trans (closed_fwd T _)
theorem dosL_fwd{T:List Tok}{d:Int->S->S×Do}(h:∀p J,Fwd T J (d p J).1)(m:Nat):∀(J:S) (l:List Do),Fwd T J (dosL T d m J l).1:=by
 induction m with
 |zero=>intro J l;exact Fwd.rfl' T J
 |succ m ih=>
  intro J l
  rw[dosL]
  split
  · exact(brkDo_fwd h J).trans (ih _ _)
  · exact Fwd.rfl' T J
theorem doF_fwd(T:List Tok)(f:Nat):∀p J,Fwd T J (doF T f p J).1:=by
 induction f with
 |zero=>intro p J;exact Fwd.rfl' T J
 |succ f ih=>intro p J;exact doX_fwd (λJ=>dosL_fwd ih T.length J []) p J
theorem brkDo_over{T:List Tok}(f:Nat){J:S}(h:J.i+1<T.length)(h40:isW [40] (tk T J.i)=true):J.i+1<=(brkDo T (doF T f) J).1.i:=by
 have a:=opened_over h h40
 have b:=(opened_fwd T J (by omega)).2
 have c:=(((doF_fwd T f (tk T J.i).p (opened T J)).trans (closed_fwd T _)) b).1
 exact Nat.le_trans a c
end K
end
section
open Go.RowKit
open R (Tok tk)
open K (Nm S Scans Ex Do)
abbrev From(B:Nat):Nat->Prop:=λk=>B<=k
theorem From.le{B B':Nat}(h:B'<=B){w:World}:∀k,From B k->k<w.heap.size->From B' k:=λ_ h1 _=>Nat.le_trans h h1
structure DRow(B:Nat->Prop)(w:World)(v:Value)(us:List Value):Prop where
 row:w.ownsRow 0 151 1 v us.length us
 lo:∀k,v.ownBlock=some k->B k
mutual
def DoIs(B:Nat->Prop)(w:World):Do->Value->Prop
 |.set p n e,u=>u=.iface 178 (.agg #[.int .i64 p,.string n.text,.int .i64 n.kind,.bool n.sec,.int .i64 n.size,.int .i64 n.place,exV e])
 |.put p n i e,u=>u=.iface 181 (.agg #[.int .i64 p,.string n.text,.int .i64 n.kind,.bool n.sec,.int .i64 n.size,.int .i64 n.place,exV i,exV e])
 |.ifs p q y n,u=>∃yv nv ys ns,u=.iface 184 (.agg #[.int .i64 p,exV q,yv,nv])/\DRow B w yv ys/\Each B w y ys/\DRow B w nv ns/\Each B w n ns
 |.fors p n r l,u=>∃lv ls,u=.iface 186 (.agg #[.int .i64 p,.string n.text,.int .i64 n.kind,.bool n.sec,.int .i64 n.size,.int .i64 n.place,exV r,lv])/\DRow B w lv ls/\Each B w l ls
 |.none,u=>u=.nilIface
def Each(B:Nat->Prop)(w:World):List Do->List Value->Prop
 |[],us=>us=[]
 |d::l,us=>∃u r,us=u::r/\DoIs B w d u/\Each B w l r
end
theorem DRow.keep{B:Nat->Prop}{w w':World}{v:Value}{us:List Value}(h:DRow B w v us)(hk:∀k,B k->k<w.heap.size->w'.heap[k]?=w.heap[k]?):DRow B w' v us:=
 ⟨row_of h.row λk e=>by
  obtain⟨cur,hc⟩:=own_block h.row e
  exact hk k (h.lo k e) (blk_lt hc),h.lo⟩
mutual
theorem DoIs.keep{B:Nat->Prop}{w w':World}(hk:∀k,B k->k<w.heap.size->w'.heap[k]?=w.heap[k]?):∀{d:Do} {u:Value},DoIs B w d u->DoIs B w' d u
 |.set ..,_,h=>by unfold DoIs at h ⊢;exact h
 |.put ..,_,h=>by unfold DoIs at h ⊢;exact h
 |.ifs ..,_,h=>by
  unfold DoIs at h ⊢
  obtain⟨yv,nv,ys,ns,e,r1,e1,r2,e2⟩:=h
  exact⟨yv,nv,ys,ns,e,r1.keep hk,Each.keep hk e1,r2.keep hk,Each.keep hk e2⟩
 |.fors ..,_,h=>by
  unfold DoIs at h ⊢
  obtain⟨lv,ls,e,r1,e1⟩:=h
  exact⟨lv,ls,e,r1.keep hk,Each.keep hk e1⟩
 |.none,_,h=>by unfold DoIs at h ⊢;exact h
theorem Each.keep{B:Nat->Prop}{w w':World}(hk:∀k,B k->k<w.heap.size->w'.heap[k]?=w.heap[k]?):∀{l:List Do} {us:List Value},Each B w l us->Each B w' l us
 |[],_,h=>by unfold Each at h ⊢;exact h
 |_::_,_,h=>by
  unfold Each at h ⊢
  obtain⟨u,r,e,h1,h2⟩:=h
  exact⟨u,r,e,DoIs.keep hk h1,Each.keep hk h2⟩
end
theorem DRow.lower{B B':Nat->Prop}{w:World}{v:Value}{us:List Value}(h:DRow B w v us)(hb:∀k,B k->k<w.heap.size->B' k):DRow B' w v us:=⟨h.row,λk e=>by
 obtain⟨cur,hc⟩:=own_block h.row e
 exact hb k (h.lo k e) (blk_lt hc)⟩
mutual
theorem DoIs.lower{B B':Nat->Prop}{w:World}(hb:∀k,B k->k<w.heap.size->B' k):∀{d:Do} {u:Value},DoIs B w d u->DoIs B' w d u
 |.set ..,_,h=>by unfold DoIs at h ⊢;exact h
 |.put ..,_,h=>by unfold DoIs at h ⊢;exact h
 |.ifs ..,_,h=>by
  unfold DoIs at h ⊢
  obtain⟨yv,nv,ys,ns,e,r1,e1,r2,e2⟩:=h
  exact⟨yv,nv,ys,ns,e,r1.lower hb,Each.lower hb e1,r2.lower hb,Each.lower hb e2⟩
 |.fors ..,_,h=>by
  unfold DoIs at h ⊢
  obtain⟨lv,ls,e,r1,e1⟩:=h
  exact⟨lv,ls,e,r1.lower hb,Each.lower hb e1⟩
 |.none,_,h=>by unfold DoIs at h ⊢;exact h
theorem Each.lower{B B':Nat->Prop}{w:World}(hb:∀k,B k->k<w.heap.size->B' k):∀{l:List Do} {us:List Value},Each B w l us->Each B' w l us
 |[],_,h=>by unfold Each at h ⊢;exact h
 |_::_,_,h=>by
  unfold Each at h ⊢
  obtain⟨u,r,e,h1,h2⟩:=h
  exact⟨u,r,e,DoIs.lower hb h1,Each.lower hb h2⟩
end
theorem Each.snoc{B:Nat->Prop}{w:World}{d:Do}{u:Value}(hd:DoIs B w d u):∀{l:List Do} {us:List Value},Each B w l us->Each B w (l++[d]) (us++[u])
 |[],_,h=>by
  unfold Each at h
  subst h
  show Each B w [d] [u]
  unfold Each
  exact⟨u,[],rfl,hd,by unfold Each;rfl⟩
 |_::_,_,h=>by
  unfold Each at h
  obtain⟨u',r,e,h1,h2⟩:=h
  subst e
  show Each B w (_::(_++[d])) (u'::(r++[u]))
  unfold Each
  exact⟨u',_,rfl,h1,Each.snoc hd h2⟩
theorem Each.len{B:Nat->Prop}{w:World}:∀{l:List Do} {us:List Value},Each B w l us->us.length=l.length
 |[],_,h=>by unfold Each at h;subst h;rfl
 |_::_,_,h=>by
  unfold Each at h
  obtain⟨u',r,e,_,h2⟩:=h
  subst e
  simp[Each.len h2]
theorem DoIs.form{B:Nat->Prop}{w:World}{d:Do}{u:Value}(h:DoIs B w d u):(∃t x,u=.iface t x)∨u=.nilIface:=by
 cases d with
 |set=>unfold DoIs at h;exact Or.inl ⟨_,_,h⟩
 |put=>unfold DoIs at h;exact Or.inl ⟨_,_,h⟩
 |ifs=>unfold DoIs at h;obtain⟨_,_,_,_,e,_⟩:=h;exact Or.inl ⟨_,_,e⟩
 |fors=>unfold DoIs at h;obtain⟨_,_,e,_⟩:=h;exact Or.inl ⟨_,_,e⟩
 |none=>unfold DoIs at h;exact Or.inr h
theorem DRow.form{B:Nat->Prop}{w:World}{v:Value}{us:List Value}(h:DRow B w v us):∃a n c,v=.slice a n c:=by
 obtain⟨_,h |⟨g,cap,cur,rfl,_⟩⟩:=h.row
 · exact⟨_,_,_,h.1⟩
 · exact⟨_,_,_,rfl⟩
theorem ButV.keeps{b:Nat}{v:Value}{w w':World}{B:Nat}(h:ButV b v w w')(hb:b<B)(hv:∀k,v.ownBlock=some k->k<B):∀k,B<=k->k<w.heap.size->w'.heap[k]?=w.heap[k]?:=
 λk h1 h2=>h.block k h2 (by omega) (λe=>by have:=hv k e;omega)
end
section
open Go.RowKit
def V.opf(o:UInt8)(a b:Int):Int:=
 if o=43 then wrap64 (a+b)else if o=45 then wrap64 (a-b)else if o=42 then wrap64 (a*b)
 else if o=47 then(if b=0 then 0 else wrap64 (a.tdiv b))else if o=38 then bits .and .i64 a b else if o=94 then bits .xor .i64 a b
 else if o=60 then(if a<b then 1 else 0)else(if a=b then 1 else 0)
def V.isOp(o:UInt8):Bool:=o==43||o==45||o==42||o==47||o==38||o==94||o==60||o==61
def V.md(a s:Int):Int:=(wrap64 (a.tmod s+s)).tmod s
theorem V.md_eq(a:Int){s:Int}(h1:1<=s)(h6:s<=6):V.md a s=a%s:=by
 unfold V.md wrap64
 have e:=Int.tmod_eq_emod (a:=a) (b:=s)
 have h:=Int.emod_nonneg a (show s≠0 by omega)
 have h':=Int.emod_lt_of_pos a (show 0<s by omega)
 have hm:a.tmod s=a%s∨a.tmod s=a%s-s:=by
  rw[e]
  split
  · left;omega
  · right;omega
 rcases hm with hm |hm
 · rw[hm]
   have:((a%s+s+9223372036854775808)%18446744073709551616-9223372036854775808)=a%s+s:=by omega
   rw[this,Int.tmod_eq_emod_of_nonneg (by omega),Int.add_emod_right,Int.emod_emod_of_dvd _ (Int.dvd_refl s)]
 · rw[hm]
   have:((a%s-s+s+9223372036854775808)%18446744073709551616-9223372036854775808)=a%s:=by omega
   rw[this,Int.tmod_eq_emod_of_nonneg (by omega),Int.emod_emod_of_dvd _ (Int.dvd_refl s)]
def cnt(n:Nat)(listed:Array Bool):Nat:=((List.range n).filter λi=> !listed.getD i true).length
theorem filter_lt{α:Type}{p q:α->Bool}(h:∀x,q x=true->p x=true){x:α}(hp:p x=true)(hq:q x=false):∀{l:List α},x∈l->(l.filter q).length<(l.filter p).length
 |y::l,hx=>by
  have le:∀l:List α,(l.filter q).length<=(l.filter p).length:=by
   intro l
   induction l with
   |nil=>simp
   |cons z l ih=>
    rw[List.filter_cons,List.filter_cons]
    by_cases c:q z=true
    · rw[if_pos c,if_pos (h z c)];simpa using ih
    · rw[if_neg c]
      split
      · rw[List.length_cons];omega
      · exact ih
  rw[List.filter_cons,List.filter_cons]
  rcases List.mem_cons.1 hx with rfl |hx
  · rw[if_pos hp,if_neg (by rw[hq];decide)]
    have:=le l
    rw[List.length_cons];omega
  · have:=filter_lt h hp hq hx
    by_cases c:q y=true
    · rw[if_pos c,if_pos (h y c)];simpa using this
    · rw[if_neg c]
      split
      · rw[List.length_cons];omega
      · exact this
theorem mem_ready{md:Region.Mode}{ops:Array Oper}{listed:Array Bool}{i:Nat}(h:i∈Region.ready md ops listed):
 i<ops.size/\listed.getD i true=false/\∀o,ops[i]?=some o->∀e∈o.after,Region.binds md e=true->listed.getD e.on false=true:=by
 unfold Region.ready at h
 rw[List.mem_filter]at h
 obtain⟨h1,h2⟩:=h
 rw[Bool.and_eq_true]at h2
 refine⟨List.mem_range.1 h1,by simpa using h2.1,λo ho e he hb=>?_⟩
 have h3:=h2.2
 rw[ho]at h3
 simp only[Option.map_some,Option.getD_some]at h3
 rw[Array.all_eq_true_iff_forall_mem]at h3
 have:=h3 e he
 rw[hb]at this
 simpa using this
theorem ready_none{md:Region.Mode}{ops:Array Oper}{listed:Array Bool}(h:cnt ops.size listed=0):Region.ready md ops listed=[]:=by
 unfold Region.ready
 rw[List.filter_eq_nil_iff]
 intro i hi hc
 unfold cnt at h
 have:=List.eq_nil_of_length_eq_zero h
 rw[List.filter_eq_nil_iff]at this
 rw[Bool.and_eq_true]at hc
 exact this i hi hc.1
theorem getD_set{listed:Array Bool}{i:Nat}(hi:i<listed.size)(j:Nat)(d:Bool):(listed.setIfInBounds i true).getD j d=if j=i then true else listed.getD j d:=by
 rw[Array.getD_eq_getD_getElem?,Array.getD_eq_getD_getElem?]
 by_cases c:j=i
 · subst c
   rw[Array.getElem?_setIfInBounds_self_of_lt hi,if_pos rfl];rfl
 · rw[Array.getElem?_setIfInBounds_ne (λe=>c e.symm),if_neg c]
theorem wpAny_inv{P:Program}{ops:Array Oper}{Q:Exit->Act->World->Prop}{md:Region.Mode}(I:Array Bool->Act->World->Prop)(step:∀listed a w i,listed.size=ops.size->I listed a w->i∈Region.ready md ops listed->wpOp P ops Q i (I (listed.setIfInBounds i true)) a w)(fin:∀listed a w,listed.size=ops.size->I listed a w->Region.ready md ops listed=[]->Q .normal a w):
 ∀(fuel:Nat) (listed:Array Bool) (a:Act) (w:World),listed.size=ops.size->cnt ops.size listed<=fuel->I listed a w->wpAny P md ops Q fuel listed a w:=by
 intro fuel
 induction fuel with
 |zero=>
  intro listed a w hs hc hI
  have hr:=ready_none (md:=md) (ops:=ops) (listed:=listed) (by omega)
  exact⟨hr,fin listed a w hs hI hr⟩
 |succ fuel ih=>
  intro listed a w hs hc hI
  refine⟨λhr=>fin listed a w hs hI hr,λi hi=>?_⟩
  obtain⟨m1,m2,_⟩:=mem_ready hi
  refine wpOp_mono (λa' w' h=>ih _ a' w' (by rw[Array.size_setIfInBounds];exact hs) ?_ h) (step listed a w i hs hI hi)
  have:cnt ops.size (listed.setIfInBounds i true)<cnt ops.size listed:=by
   unfold cnt
   refine filter_lt (x:=i) (λx hx=>?_) ?_ ?_ (List.mem_range.2 m1)
   · rw[getD_set (by omega)]at hx
     by_cases c:x=i
     · rw[if_pos c]at hx;cases hx
     · rw[if_neg c]at hx;exact hx
   · rw[m2];rfl
   · rw[getD_set (by omega),if_pos rfl];rfl
  omega
theorem all_listed{md:Region.Mode}{ops:Array Oper}{listed:Array Bool}(hb:(List.range ops.size).all (λi=>((ops[i]?).map (·.after.all λe=>decide (e.on<i))).getD true)=true)(h:Region.ready md ops listed=[]):
 ∀i,i<ops.size->listed.getD i true=true:=by
 intro i
 induction i using Nat.strongRecOn with
 |ind i ih=>
  intro hi
  cases c:listed.getD i true with
  |true=>rfl
  |false=>
   exfalso
   have:i∈Region.ready md ops listed:=by
    unfold Region.ready
    rw[List.mem_filter]
    refine⟨List.mem_range.2 hi,?_⟩
    rw[Bool.and_eq_true]
    refine⟨by rw[c];rfl,?_⟩
    obtain⟨o,ho⟩:∃o,ops[i]?=some o:=⟨_,Array.getElem?_eq_getElem hi⟩
    rw[ho]
    simp only[Option.map_some,Option.getD_some]
    rw[Array.all_eq_true_iff_forall_mem]
    intro e he
    have hb':=(List.all_eq_true.1 hb) i (List.mem_range.2 hi)
    rw[ho]at hb'
    simp only[Option.map_some,Option.getD_some]at hb'
    rw[Array.all_eq_true_iff_forall_mem]at hb'
    have hlt:e.on<i:=by simpa using hb' e he
    have hl:=ih e.on hlt (by omega)
    rw[Bool.or_eq_true]
    right
    rw[Array.getD_eq_getD_getElem?]at hl ⊢
    cases hx:listed[e.on]? with
    |none=>
     exfalso
     have:=Array.getElem?_eq_none_iff.1 hx
     have hc:=c
     rw[Array.getD_eq_getD_getElem?,Array.getElem?_eq_none (by omega)]at hc
     cases hc
    |some u=>rw[hx]at hl;simpa using hl
   rw[h]at this
   cases this
def Cl(md:Region.Mode)(ops:Array Oper)(listed:Array Bool):Prop:=∀i o,ops[i]?=some o->listed.getD i false=true->∀e∈o.after,Region.binds md e=true->listed.getD e.on false=true
theorem wpAny_cl{P:Program}{ops:Array Oper}{Q:Exit->Act->World->Prop}{md:Region.Mode}(I:Array Bool->Act->World->Prop)(step:∀listed a w i,listed.size=ops.size->Cl md ops listed->I listed a w->i∈Region.ready md ops listed->wpOp P ops Q i (I (listed.setIfInBounds i true)) a w)(fin:∀listed a w,listed.size=ops.size->I listed a w->Region.ready md ops listed=[]->Q .normal a w)(a:Act)(w:World)(h0:I (Array.replicate ops.size false) a w):
 wpAny P md ops Q ops.size (Array.replicate ops.size false) a w:=by
 refine wpAny_inv (I:=λlisted a w=>Cl md ops listed/\I listed a w) ?_ ?_ _ _ _ _ (by simp) ?_ ⟨?_,h0⟩
 · intro listed a w i hs hI hi
   obtain⟨m1,m2,m3⟩:=mem_ready hi
   refine wpOp_mono (λa' w' h=>⟨?_,h⟩) (step listed a w i hs hI.1 hI.2 hi)
   intro j o ho hj e he hb
   rw[getD_set (by omega)]at hj ⊢
   by_cases c:e.on=i
   · rw[if_pos c]
   · rw[if_neg c]
     by_cases d:j=i
     · subst d;exact m3 o ho e he hb
     · rw[if_neg d]at hj;exact hI.1 j o ho hj e he hb
 · intro listed a w hs hI hr
   exact fin listed a w hs hI.2 hr
 · unfold cnt
   exact Nat.le_trans (List.length_filter_le _ _) (by simp)
 · intro j o ho hj
   exfalso
   rw[Array.getD_eq_getD_getElem?]at hj
   cases hx:(Array.replicate ops.size false)[j]? with
   |none=>rw[hx]at hj;cases hj
   |some u=>
    rw[hx]at hj
    have:=Array.mem_of_getElem? hx
    rw[Array.mem_replicate]at this
    rw[this.2]at hj
    cases hj
end
section
open Go.RowKit
open R (Tok tk)
open K (Nm S Scans)
theorem less_name(q b:Nat)(d:Int)(u:FrameMode)(w:World)(hd:0<=d/\d<=100)(cq:w.cell? ⟨q,0,none⟩=some (PT b))(c5:w.cell? ⟨b,5,none⟩=some (.int .i64 d))(f5:w.frozen? ⟨b,5,none⟩=false):
 CallsD Tryz.prog 134 #[.pointer (some ⟨q,0,none⟩)] u w λe u' w'=>u'=u/\(e=.returned (.tuple #[])/\w'=w.setCell ⟨b,5,none⟩ (.int .i64 (d+ -1))):=by
 obtain⟨d0,d1⟩:=hd
 have e:d-1=d+ -1:=by omega
 have HE:=hide e
 clear e
 go_enter_d Tryz.func134,Tryz.ntmps134
 go_wp2
 go_end0
 exact⟨rfl,by rw[<-HE.out]⟩
theorem inBr_name{w:World}{b:Nat}{s:ByteArray}{T:List Tok}{J J4:S}{v:Value}(hS:Scans s T)(h:CR w b s T J v)(d0:0<=J.depth)(d1:J.depth<=50)(hd4:J4.depth=J.depth+1)(N:Nm)(hI:∀w1,CR w1 b s T (K.opened T J) v->But b w w1->Calls Tryz.prog 105 #[PT b,.int .i64 (tk T J.i).p] w1 λx w'=>x=.returned (nmV N)/\CR w' b s T J4 v/\But b w1 w'):
 Calls Tryz.prog 104 #[PT b,.func (.func 105) #[PT b] #[]] w λx w'=>x=.returned (nmV N)/\CR w' b s T (K.closed T J4) v/\But b w w':=by
 have hmf:∀(fn:Fn) (first cap:Array Value) (w:World),(Instr.makeFunc fn first cap).run Tryz.prog w=.ok (.func fn first cap) w:=λ_ _ _ _=>rfl
 have h0:=(h.alloc (.cells #[PT b] 134 (0,0))).alloc (.cells #[.string ⟨#[]⟩,.int .i64 0,.bool false,.int .i64 0,.int .i64 0] 96 (0,0))
 have hlt:=h.cells.lt
 have hvl:∀k,v.ownBlock=some k->k<w.heap.size:=λk hk=>(h.ne hk).2
 have nq:w.heap.size≠b:=by omega
 have q0:=(At.alloc_new w [PT b] 134).alloc (.cells #[.string ⟨#[]⟩,.int .i64 0,.bool false,.int .i64 0,.int .i64 0] 96 (0,0))
 have e0:At ((w.alloc (.cells #[PT b] 134 (0,0))).alloc (.cells #[.string ⟨#[]⟩,.int .i64 0,.bool false,.int .i64 0,.int .i64 0] 96 (0,0))) (w.heap.size+1) 96 [.string ⟨#[]⟩,.int .i64 0,.bool false,.int .i64 0,.int .i64 0]:=by
  have e:(w.alloc (.cells #[PT b] 134 (0,0))).heap.size=w.heap.size+1:=by simp
  have:=At.alloc_new (w.alloc (.cells #[PT b] 134 (0,0))) [.string ⟨#[]⟩,.int .i64 0,.bool false,.int .i64 0,.int .i64 0] 96
  rw[e]at this
  exact this
 have nr:w.heap.size+1≠b:=by omega
 have BB:But b w ((w.alloc (.cells #[PT b] 134 (0,0))).alloc (.cells #[.string ⟨#[]⟩,.int .i64 0,.bool false,.int .i64 0,.int .i64 0] 96 (0,0))):=((But.refl b w).alloc _).alloc _
 obtain⟨x0,x1,x2,x3,x4⟩:=N
 unfold nmV at hI
 dsimp only at hI
 have c2:=h.c 2 _ rfl
 have hex:=expect_c hS h0 ⟨#[40]⟩
 rw[list40]at hex
 have E1:K.expect T [40] J=K.op1 T J:=rfl
 rw[E1]at hex
 have hfl:=fun(w':World) (h':CR w' b s T (K.op1 T J) v)=>kfail_c hS h' 6 (tk T J.i).p
 have hcl:=fun(w':World) (h':CR w' b s T J4 v)=>expect_c hS h' ⟨#[41]⟩
 rw[list41]at hcl
 have E2:K.expect T [41] J4=K.cl1 T J4:=rfl
 rw[E2]at hcl
 have HO:Hid (K.op2 T J=if(K.op1 T J).depth=10 then K.fail T 6 (tk T J.i).p (K.op1 T J)else K.op1 T J):=rfl
 have HOP:Hid (K.opened T J=K.deeper 1 (K.op2 T J)):=rfl
 have HCL:Hid (K.closed T J4=K.deeper (-1) (K.cl1 T J4)):=rfl
 have kd1:Hid ((K.op1 T J).depth=J.depth):=(K.op1_keeps T J).depth
 have kd2:Hid ((K.op2 T J).depth=J.depth):=(K.op2_keeps T J).depth
 have kd4:Hid ((K.cl1 T J4).depth=J.depth+1):=(K.cl1_keeps T J4).depth.trans hd4
 generalize K.opened T J=J3 at*
 generalize K.closed T J4=J6 at*
 generalize K.op2 T J=J2 at*
 generalize K.op1 T J=J1 at*
 generalize K.cl1 T J4=J5 at*
 generalize(tk T J.i).p=tp at*
 clear E1 E2 hd4
 go_enter_defers Tryz.func104,Tryz.ntmps104
 go_wp2_with fail
 refine hex.mono ?_
 rintro x w1 ⟨rfl,hr1,hb1⟩
 have qa:=q0.of_block (hb1.block _ q0.lt nq)
 have qc:=qa.cell 0
 have c5:=hr1.c 5 _ rfl
 simp only[List.getElem?_cons_zero]at qc
 clear hex
 go_upto_if 18 with fail
 go_cut [18]from 19 to 21 (λ_ wr=>CR wr b s T J2 v/\But b ((w.alloc (.cells #[PT b] 134 (0,0))).alloc (.cells #[.string ⟨#[]⟩,.int .i64 0,.bool false,.int .i64 0,.int .i64 0] 96 (0,0))) wr)
 case first=>
  by_cases h10:J1.depth=10
  · have e:=HO.out
    rw[if_pos h10]at e
    have HE:=hide e
    have h10':=beq_yes h10
    clear e h10
    rw[h10']
    go_wp2_with fail
    refine(hfl _ hr1).mono ?_
    rintro x w2 ⟨rfl,hr2,hb2⟩
    go_wp2_with fail
    go_meet
    case rel=>rw[HE.out];exact⟨hr2,hb1.trans hb2⟩
  · have e:=HO.out
    rw[if_neg h10]at e
    have HE:=hide e
    have h10':=beq_no h10
    clear e h10
    rw[h10']
    go_wp2_with fail
    go_meet
    case rel=>rw[HE.out];exact⟨hr1,hb1⟩
 case rest=>
  obtain⟨hr2,hb2⟩:=hcut
  clear hr1 hb1 qa qc c5 hfl HO
  have qa:=q0.of_block (hb2.block _ q0.lt nq)
  have qc:=qa.cell 0
  simp only[List.getElem?_cons_zero]at qc
  have c5:wc.cell? ⟨b,5,none⟩=some (.int .i64 J.depth):=by rw[<-kd2.out];exact hr2.c 5 _ rfl
  have f5:=hr2.cells.frozen 5
  have D:=hr2.depth 1
  rw[kd2.out,<-HOP.out]at D
  go_wp2_with fail
  generalize wc.setCell ⟨b,5,none⟩ (.int .i64 (J.depth+1))=w3 at*
  have B3:=hb2.trans D.2
  have qa3:=q0.of_block (B3.block _ q0.lt nq)
  refine(hI _ D.1 (BB.trans B3)).mono ?_
  rintro x w4 ⟨rfl,hr4,hb4⟩
  have B4:=B3.trans hb4
  have qa4:=q0.of_block (B4.block _ q0.lt nq)
  have qc4:=qa4.cell 0
  have lq4:=qa4.lt
  simp only[List.getElem?_cons_zero]at qc4
  have hr4a:=hr4.alloc (.cells #[.string x0,.int .i64 x1,.bool x2,.int .i64 x3,.int .i64 x4] 96 (0,0))
  have B4a:=B4.alloc (.cells #[.string x0,.int .i64 x1,.bool x2,.int .i64 x3,.int .i64 x4] 96 (0,0))
  have m4:=At.alloc_new w4 [.string x0,.int .i64 x1,.bool x2,.int .i64 x3,.int .i64 x4] 96
  have n4:=hr4.cells.lt
  clear hI D qc c5 f5 qa hr2 hb2
  go_wp2_with fail
  refine(hcl _ hr4a).mono ?_
  rintro x w5 ⟨rfl,hr5,hb5⟩
  have B5:=B4a.trans hb5
  have qa5:=q0.of_block (B5.block _ q0.lt nq)
  have qc5:=qa5.cell 0
  simp only[List.getElem?_cons_zero]at qc5
  have m5:=m4.of_block (hb5.block _ m4.lt (by omega))
  have j0:=m5.cell 0
  have j1:=m5.cell 1
  have j2:=m5.cell 2
  have j3:=m5.cell 3
  have j4:=m5.cell 4
  simp only[List.getElem?_cons_zero,List.getElem?_cons_succ]at j0 j1 j2 j3 j4
  have RB:=e0.of_block (B5.block _ e0.lt nr)
  have r0:=RB.cell 0
  have r1:=RB.cell 1
  have r2:=RB.cell 2
  have r3:=RB.cell 3
  have r4:=RB.cell 4
  simp only[List.getElem?_cons_zero,List.getElem?_cons_succ]at r0 r1 r2 r3 r4
  have y0:=RB.frozen 0
  have y1:=RB.frozen 1
  have y2:=RB.frozen 2
  have y3:=RB.frozen 3
  have y4:=RB.frozen 4
  have RZ:=((((RB.set 0 (.string x0)).set 1 (.int .i64 x1)).set 2 (.bool x2)).set 3 (.int .i64 x3)).set 4 (.int .i64 x4)
  have sz1:(w.alloc (.cells #[PT b] 134 (0,0))).heap.size=w.heap.size+1:=by simp
  have CZ:=put5 (w:=w.alloc (.cells #[PT b] 134 (0,0))) hr5 B5 (by omega) (λk e=>by have:=hvl k e;omega) (.string x0) (.int .i64 x1) (.bool x2) (.int .i64 x3) (.int .i64 x4)
  rw[sz1]at CZ
  go_wp2_with fail
  generalize((((w5.setCell ⟨w.heap.size+1,0,none⟩ (.string x0)).setCell ⟨w.heap.size+1,1,none⟩ (.int .i64 x1)).setCell ⟨w.heap.size+1,2,none⟩ (.bool x2)).setCell ⟨w.heap.size+1,3,none⟩ (.int .i64 x3)).setCell ⟨w.heap.size+1,4,none⟩ (.int .i64 x4)=W6 at*
  have qa6:=(At.alloc_new w [PT b] 134).of_block (CZ.2.block w.heap.size (by omega) nq)
  have qc6:=qa6.cell 0
  simp only[List.getElem?_cons_zero]at qc6
  have x5:W6.cell? ⟨b,5,none⟩=some (.int .i64 (J.depth+1)):=by rw[<-kd4.out];exact CZ.1.c 5 _ rfl
  have y5:=CZ.1.cells.frozen 5
  have D5:=CZ.1.depth (-1)
  rw[kd4.out,<-HCL.out]at D5
  have RF:=RZ.set_other (a:=⟨b,5,none⟩) nr (.int .i64 (J.depth+1+ -1))
  refine leaves_cons (f:=134) (args:=#[.pointer (some ⟨w.heap.size,0,none⟩)]) (by simp) (by simp[go_sem]) ?_
  refine(less_name w.heap.size b (J.depth+1) .returning _ ⟨by omega,by omega⟩ qc6 x5 y5).mono ?_
  rintro e u' w6 ⟨rfl,rfl,rfl⟩
  generalize W6.setCell ⟨b,5,none⟩ (.int .i64 (J.depth+1+ -1))=W7 at*
  have z0:W7.cell? ⟨w.heap.size+1,0,none⟩=some (.string x0):=RF.cell 0
  have z1:W7.cell? ⟨w.heap.size+1,1,none⟩=some (.int .i64 x1):=RF.cell 1
  have z2:W7.cell? ⟨w.heap.size+1,2,none⟩=some (.bool x2):=RF.cell 2
  have z3:W7.cell? ⟨w.heap.size+1,3,none⟩=some (.int .i64 x3):=RF.cell 3
  have z4:W7.cell? ⟨w.heap.size+1,4,none⟩=some (.int .i64 x4):=RF.cell 4
  refine⟨nmV ⟨x0,x1,x2,x3,x4⟩,by simp[results,Tryz.results104,go_sem,nmV,z0,z1,z2,z3,z4],rfl,D5.1,(((But.refl b w).alloc _).trans CZ.2).trans D5.2⟩
end
end Go.Proofs.YtejbgcloblpbfaaGreatDoor
