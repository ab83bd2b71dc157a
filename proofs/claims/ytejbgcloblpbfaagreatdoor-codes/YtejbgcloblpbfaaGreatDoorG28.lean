import Derived.Test.YtejbgcloblpbfaaGreatDoorG27
import Derived.Deep.RegionHeldLaw
namespace Go.Proofs.YtejbgcloblpbfaaGreatDoor
section
open Go.RowKit
open K (Nm)
theorem read_long_err{s:ByteArray}(h:800<s.size):(R.read s).err=1:=by unfold R.read;rw[if_pos h];rfl
end
section
open R (Tok tk PS Thing)
open K (Nm Ex Do S Scans)
namespace Y
open K
theorem bytes_of0{s:ByteArray}{l:List UInt8}(h:s.toList=l):s=⟨l.toArray⟩:=by
 rw[ByteArray.toList_eq]at h
 obtain⟨⟨d⟩⟩:=s
 have:d=l:=h
 rw[this]
def PlK:Int->List Nm->Prop
 |_,[]=>True
 |p,n::l=>n.place=IntKind.i64.wrap p/\n.kind<=1/\PlK (p+n.size) l
theorem PlK.snoc{n:Nm}(hk:n.kind<=1):∀{l:List Nm} {p:Int},PlK p l->n.place=IntKind.i64.wrap (p+sum l)->PlK p (l++[n])
 |[],p,_,h=>⟨by rw[h,sum,Int.add_zero],hk,trivial⟩
 |u::l,p,h,e=>⟨h.1,h.2.1,PlK.snoc hk h.2.2 (by rw[e,sum,Int.add_assoc])⟩
theorem dclN_pl(T:List Tok)(τ:S):(dclN T τ).place=τ.words/\(dclN T τ).kind<=1:=by
 have k1:=op2_keeps T τ
 have k2:(dec0 T (tk T τ.i).p (opened T τ)).words=(opened T τ).words:=by
  unfold dec0
  split
  · exact(fail_keeps ..).words
  · rfl
 have k3:(opened T τ).words=τ.words:=k1.words
 unfold dclN declN
 split
 · exact⟨k2.trans k3,(by decide:(1:Int)<=1)⟩
 · exact⟨k3,(by decide:(0:Int)<=1)⟩
theorem declsL_pl(T:List Tok)(m:Nat):∀τ,KW τ->PlK 0 τ.names->PlK 0 (declsL T m τ).names:=by
 induction m with
 |zero=>intro τ _ h;exact h
 |succ m ih=>
  intro τ hw h
  rw[declsL]
  split
  · have kd:=dcl_keeps T τ
    obtain⟨p1,p2⟩:=dclN_pl T τ
    refine ih _ ((hw.keeps kd).adds _) ?_
    show PlK 0 ((dcl T τ).names++[dclN T τ])
    rw[kd.names]
    exact h.snoc p2 (by rw[p1,hw,Int.zero_add])
  · exact h
theorem sign_op0{s:ByteArray}(h:R.sign s.toList=true):∃c,s=⟨#[c]⟩/\V.isOp c=true/\R.byteAt s 0=c:=by
 by_cases hl:s.size=1
 · obtain⟨c,hc,hb⟩:=one_byte hl
   have h2:=h
   rw[ByteArray.toList_eq,hc]at h2
   refine⟨c,bytes_of0 (by rw[ByteArray.toList_eq];exact hc),?_,hb⟩
   have e:∀d:UInt8,(([c]:List UInt8)==[d])=(c==d):=λd=>by simp
   unfold R.sign at h2
   unfold V.isOp
   rw[e,e,e,e,e,e,e,e]at h2
   exact h2
 · rw[sign_long hl]at h
   exact absurd h (by decide)
end Y
open Go.RowKit
namespace Y
theorem nms_form{w:World}{v:Value}{ns:List Nm}(h:w.ownsRow 0 96 5 v ns.length (ns.flatMap nmCells)):∃a n c,v=.slice a n c:=by
 rcases nms_row h with⟨e,_⟩|⟨g,cap,e,_⟩
 · exact⟨_,_,_,e⟩
 · exact⟨_,_,_,e⟩
end Y
end
section
open R (Tok tk)
open K (Nm Ex Do S Scans)
namespace Y
def NG(pub:Nat->Bool)(N dep:Nat)(n:Nm):Prop:=
 (n.kind<=1/\0<=n.place/\1<=n.size/\n.size<=6/\n.place+n.size<=N/\∀i:Int,0<=i->i<n.size->pub (n.place+i).toNat= !n.sec)∨
 (n.kind=2/\n.sec=false/\(N:Int)<=n.place/\n.place<N+dep/\pub n.place.toNat=true)
theorem NG.more{pub:Nat->Bool}{N dep:Nat}{n:Nm}(h:NG pub N dep n):NG pub N (dep+1) n:=by
 rcases h with h |h
 · exact Or.inl h
 · exact Or.inr ⟨h.1,h.2.1,h.2.2.1,by have:=h.2.2.2.1;omega,h.2.2.2.2⟩
theorem take_alive{s:ByteArray}{T:List Tok}(hS:Scans s T){J:S}(hi:J.i<T.length){f:ByteArray->Bool}(hf:f ⟨#[]⟩=false)(h:(K.take T f J).err=0):f (tk T J.i).s=true/\K.take T f J=K.step T J/\(K.step T J).i=J.i+1/\J.i+1<T.length:=by
 unfold K.take at h ⊢
 split at h
 · rename_i c
   have hne:¬J.i=T.length-1:=λe=>by rw[e,hS.last,hf]at c;cases c
   have hlt:J.i+1<T.length:=by omega
   refine⟨c,if_pos c,?_,hlt⟩
   show K.nx T J.i=_
   unfold K.nx
   rw[if_pos hlt]
 · exact absurd h (K.here_ne (by decide))
theorem step_word{s:ByteArray}{T:List Tok}(hS:Scans s T){J:S}(hi:J.i<T.length){l:List UInt8}(hl:l≠[])(h:((tk T J.i).s.toList==l)=true):(K.step T J).i=J.i+1/\J.i+1<T.length:=by
 have hne:¬J.i=T.length-1:=λe=>by rw[K.last_no hS e l hl]at h;cases h
 have hlt:J.i+1<T.length:=by omega
 refine⟨?_,hlt⟩
 show K.nx T J.i=_
 unfold K.nx
 rw[if_pos hlt]
theorem known_alive{s:ByteArray}{T:List Tok}(hS:Scans s T){J:S}(hi:J.i<T.length){fits:Nm->Bool}(h:(K.known T fits J).err=0):K.knownN T J∈J.names/\fits (K.knownN T J)=true/\K.known T fits J=K.step T J/\(K.step T J).i=J.i+1/\J.i+1<T.length:=by
 unfold K.known at h ⊢
 split at h
 · rename_i c
   rw[if_pos c]
   obtain⟨c1,c2⟩:=Bool.and_eq_true_iff.1 c
   obtain⟨_,t2,t3,t4⟩:=take_alive hS hi (by decide +kernel) h
   refine⟨?_,c2,t2,t3,t4⟩
   unfold K.knownN K.findN at*
   split at c1
   · rename_i c3
     rw[if_pos c3]
     unfold K.idx at c3 ⊢
     split at c3
     · rename_i c4
       rw[if_pos c4]
       show List.getD _ _ _∈_
       rw[Int.toNat_natCast,List.getD_eq_getElem?_getD,List.getElem?_eq_getElem c4]
       exact List.getElem_mem c4
     · exact absurd c3 (by decide)
   · cases c1
 · exact absurd h (K.fail_ne (by decide))
theorem opened_alive{s:ByteArray}{T:List Tok}(hS:Scans s T){J:S}(hi:J.i<T.length)(h:(K.opened T J).err=0):K.opened T J=K.deeper 1 (K.step T J)/\(K.step T J).i=J.i+1/\J.i+1<T.length/\¬J.depth=10:=by
 have h':(K.op2 T J).err=0:=h
 unfold K.op2 at h'
 split at h'
 · exact absurd h' (K.fail_ne (by decide))
 · rename_i c
   obtain⟨_,t2,t3,t4⟩:=take_alive hS hi (f:=K.isIt [40]) (by decide +kernel) h'
   refine⟨?_,t3,t4,?_⟩
   · unfold K.opened K.op2
     rw[if_neg c]
     unfold K.op1 K.expect
     rw[t2]
   · rw[(show(K.op1 T J).depth=J.depth from(K.expect_keeps T _ J).depth)]at c
     exact c
theorem closed_alive{s:ByteArray}{T:List Tok}(hS:Scans s T){J:S}(hi:J.i<T.length)(h:(K.closed T J).err=0):(K.closed T J).i=J.i+1/\J.i+1<T.length:=by
 have h':(K.take T (K.isIt [41]) J).err=0:=h
 obtain⟨_,t2,t3,t4⟩:=take_alive hS hi (f:=K.isIt [41]) (by decide +kernel) h'
 refine⟨?_,t4⟩
 show(K.take T (K.isIt [41]) J).i=_
 rw[t2,t3]
theorem newName_alive{s:ByteArray}{T:List Tok}(hS:Scans s T){J:S}(hi:J.i<T.length)(h:(K.newName T J).err=0):(K.newName T J).i=J.i+1/\J.i+1<T.length:=by
 unfold K.newName at h ⊢
 split at h
 · exact absurd h (K.fail_ne (by decide))
 · rename_i c
   rw[if_neg c]
   obtain⟨_,t2,t3,t4⟩:=take_alive hS hi (by decide +kernel) h
   exact⟨by rw[t2,t3],t4⟩
theorem sign_op{s:ByteArray}(h:K.isOpS s=true):V.isOp (R.byteAt s 0)=true:=by
 obtain⟨c,_,h2,h3⟩:=sign_op0 h
 rw[h3];exact h2
structure AE(pub:Nat->Bool)(N dep:Nat)(T:List Tok)(J:S)(r:S×Ex):Prop where
 wf:V.wfE (N+dep) r.2
 pb:pbE pub r.2
 cost:cE r.2+2+4*J.i<=4*r.1.i
 lt:r.1.i<T.length
theorem expr_al{s:ByteArray}{T:List Tok}(hS:Scans s T){pub:Nat->Bool}{N dep:Nat}(f:Nat):∀J:S,J.i<T.length->(∀n∈J.names,NG pub N dep n)->0<=J.depth->J.depth<=10->11-J.depth<=(f:Int)->(K.expr T f J).1.err=0->AE pub N dep T J (K.expr T f J):=by
 induction f with
 |zero=>intro J _ _ h1 h2 h3;omega
 |succ f ih=>
  intro J hi hn h1 h2 h3 he
  rw[K.expr]at he ⊢
  unfold K.exB at he ⊢
  split
  · rename_i c
    rw[if_pos c]at he
    dsimp only at he ⊢
    have kc:=K.comp_keeps (T:=T) (K.expr_keeps T f) (tk T J.i).p (K.opened T J)
    have he1:=K.closed_st T _ he
    have he2:=K.comp_st (T:=T) (K.expr_st T f) (tk T J.i).p _ he1
    obtain⟨o1,o2,o3,o4⟩:=opened_alive hS hi he2
    have hdep:=K.opened_depth T J
    have hnm:(K.opened T J).names=J.names:=(K.op2_keeps T J).names
    have hoi:(K.opened T J).i=J.i+1:=by rw[o1];exact o2
    generalize K.opened T J=J1 at*
    clear o1 o2
    have hi1:J1.i<T.length:=by omega
    have hn1:∀n∈J1.names,NG pub N dep n:=by rw[hnm];exact hn
    have use:∀J2:S,K.Keeps J1 J2->J2.i<T.length->(K.expr T f J2).1.err=0->AE pub N dep T J2 (K.expr T f J2):=λJ2 k hl e=>
     ih J2 hl (by rw[k.names];exact hn1) (by rw[k.depth];omega) (by rw[k.depth];omega) (by rw[k.depth];omega) e
    have hcl:(K.comp T (K.expr T f) (tk T J.i).p J1).1.i<T.length:=(K.comp_fwd (K.expr_fwd T f) _ _ hi1).2
    obtain⟨cl1,cl2⟩:=closed_alive hS hcl he
    suffices hh:V.wfE (N+dep) (K.comp T (K.expr T f) (tk T J.i).p J1).2/\pbE pub (K.comp T (K.expr T f) (tk T J.i).p J1).2/\cE (K.comp T (K.expr T f) (tk T J.i).p J1).2+2+4*J.i<=4*((K.comp T (K.expr T f) (tk T J.i).p J1).1.i+1) by
     exact⟨hh.1,hh.2.1,by rw[cl1];exact hh.2.2,by rw[cl1];exact cl2⟩
    clear he kc he2 hcl cl1 cl2
    unfold K.comp at he1 ⊢
    split
    · rename_i c1
      rw[if_pos c1]at he1
      unfold K.getX at he1 ⊢
      dsimp only at he1 ⊢
      obtain⟨s1,s2⟩:=step_word hS hi1 (l:=K.kGet) (by decide) c1
      have k1:=K.step_keeps T J1
      have hi2:(K.step T J1).i<T.length:=by omega
      have e2:=K.expr_st T f _ he1
      obtain⟨a1,a2,a3,a4,a5⟩:=known_alive hS hi2 e2
      have k2:=k1.trans (K.known_keeps T K.hasWords (K.step T J1))
      have hik:(K.known T K.hasWords (K.step T J1)).i=J1.i+2:=by rw[a3,a4,s1]
      have A:=use _ k2 (by rw[hik];omega) he1
      have hng:=hn1 _ (by rw[<-k1.names];exact a1)
      have hkind:(K.knownN T (K.step T J1)).kind=1:=by unfold K.hasWords at a2;simpa using a2
      rcases hng with g |g
      · refine⟨?_,?_,?_⟩
        · unfold V.wfE
          exact⟨g.2.1,g.2.2.1,g.2.2.2.1,by have:=g.2.2.2.2.1;omega,A.wf⟩
        · unfold pbE
          exact⟨λhsec i i0 i1=>by rw[g.2.2.2.2.2 i i0 i1,hsec];rfl,A.pb⟩
        · have:=A.cost
          rw[hik]at this
          rw[cE]
          omega
      · omega
    · rename_i c1
      rw[if_neg c1]at he1
      split
      · rename_i c2
        rw[if_pos c2]at he1
        unfold K.choX at he1 ⊢
        dsimp only at he1 ⊢
        obtain⟨s1,s2⟩:=step_word hS hi1 (l:=K.kChoose) (by decide) c2
        have k1:=K.step_keeps T J1
        have e2:=K.expr_st T f _ he1
        have e3:=K.expr_st T f _ e2
        have A:=use _ k1 (by omega) e3
        have k2:=k1.trans (K.expr_keeps T f (K.step T J1))
        have B:=use _ k2 A.lt e2
        have k3:=k2.trans (K.expr_keeps T f _)
        have C:=use _ k3 B.lt he1
        refine⟨?_,?_,?_⟩
        · unfold V.wfE;exact⟨A.wf,B.wf,C.wf⟩
        · unfold pbE;exact⟨A.pb,B.pb,C.pb⟩
        · have:=A.cost
          have:=B.cost
          have:=C.cost
          rw[cE]
          omega
      · rename_i c2
        rw[if_neg c2]at he1
        split
        · rename_i c3
          rw[if_pos c3]at he1
          unfold K.opX at he1 ⊢
          dsimp only at he1 ⊢
          have e2:=K.expr_st T f _ he1
          have e3:=K.expr_st T f _ e2
          obtain⟨_,t2,t3,t4⟩:=take_alive hS hi1 (f:=K.isOpS) (by decide +kernel) e3
          have k1:=K.take_keeps T K.isOpS J1
          have hik:(K.take T K.isOpS J1).i=J1.i+1:=by rw[t2,t3]
          have A:=use _ k1 (by omega) e2
          have k2:=k1.trans (K.expr_keeps T f (K.take T K.isOpS J1))
          have B:=use _ k2 A.lt he1
          refine⟨?_,?_,?_⟩
          · unfold V.wfE;exact⟨sign_op c3,A.wf,B.wf⟩
          · unfold pbE;exact⟨A.pb,B.pb⟩
          · have:=A.cost
            have:=B.cost
            rw[hik]at*
            rw[cE]
            omega
        · rename_i c3
          rw[if_neg c3]at he1
          exact absurd he1 (K.here_ne (by decide))
  · rename_i c
    rw[if_neg c]at he
    split
    · rename_i c1
      rw[if_pos c1]at he
      dsimp only at he ⊢
      obtain⟨_,t2,t3,t4⟩:=take_alive hS hi (f:=K.isNum) (by decide +kernel) he
      refine⟨by unfold V.wfE;trivial,by unfold pbE;trivial,?_,?_⟩
      · show cE (.num _)+2+4*J.i<=4*(K.take T K.isNum J).i
        rw[t2,t3,cE];omega
      · show(K.take T K.isNum J).i<_
        rw[t2,t3];exact t4
    · rename_i c1
      rw[if_neg c1]at he
      dsimp only at he ⊢
      obtain⟨a1,a2,a3,a4,a5⟩:=known_alive hS hi he
      have hng:=hn _ a1
      refine⟨?_,?_,?_,?_⟩
      · unfold V.wfE
        rcases hng with g |g
        · have:=g.2.1;have:=g.2.2.1;have:=g.2.2.2.2.1;omega
        · have:=g.2.2.1;have:=g.2.2.2.1;omega
      · unfold pbE
        intro hsec
        rcases hng with g |g
        · have:=g.2.2.2.2.2 0 (by omega) (by have:=g.2.2.1;omega)
          rw[Int.add_zero,hsec]at this
          exact this
        · exact g.2.2.2.2
      · show cE (.use _)+2+4*J.i<=4*(K.known T K.canRead J).i
        rw[a3,a4,cE];omega
      · show(K.known T K.canRead J).i<_
        rw[a3,a4];exact a5
def fac:Nat->Nat
 |0=>100
 |1=>20
 |_=>4
structure DI(pub:Nat->Bool)(N dep:Nat)(T:List Tok)(J:S):Prop where
 i:J.i<T.length
 ng:∀n∈J.names,NG pub N dep n
 words:J.words=N
 loops:J.loops=dep
 d0:0<=J.depth
 d1:J.depth<=10
theorem DI.keeps{pub:Nat->Bool}{N dep:Nat}{T:List Tok}{J τ:S}(h:DI pub N dep T J)(k:K.Keeps J τ)(hi:τ.i<T.length):DI pub N dep T τ:=
 ⟨hi,by rw[k.names];exact h.ng,by rw[k.words];exact h.words,by rw[k.loops];exact h.loops,by rw[k.depth];exact h.d0,by rw[k.depth];exact h.d1⟩
structure AD(pub:Nat->Bool)(N dep:Nat)(T:List Tok)(J:S)(r:S×Do):Prop where
 sc:Sc N dep r.2
 pb:pbD pub r.2
 cost:cD r.2+fac dep*J.i<=fac dep*(r.1.i+2)
 lt:r.1.i<T.length
structure AL(pub:Nat->Bool)(N dep:Nat)(T:List Tok)(J τ:S)(l:List Do):Prop where
 sc:ScL N dep l
 pb:pbL pub l
 cost:cD.cDs l+fac dep*J.i<=fac dep*τ.i
 lt:τ.i<T.length
theorem fac4(dep:Nat):∃q,fac dep=4+q:=by
 unfold fac
 split
 · exact⟨96,rfl⟩
 · exact⟨16,rfl⟩
 · exact⟨0,rfl⟩
theorem AE.fac{pub:Nat->Bool}{N dep:Nat}{T:List Tok}{J:S}{r:S×Ex}(h:AE pub N dep T J r):cE r.2+2+fac dep*J.i<=fac dep*r.1.i:=by
 obtain⟨q,hq⟩:=fac4 dep
 have c:=h.cost
 have hle:J.i<=r.1.i:=by omega
 have hm:=Nat.mul_le_mul_left q hle
 rw[hq,Nat.add_mul,Nat.add_mul]
 omega
theorem loop_alive{s:ByteArray}{T:List Tok}(hS:Scans s T){J:S}(hi:J.i<T.length)(hw:K.isW [102,111,114] (tk T J.i)=true)(h:(K.loop1 T J).err=0):¬J.loops=2/\K.loop1 T J=K.step T J/\(K.step T J).i=J.i+1/\J.i+1<T.length:=by
 have h':(K.loop0 T J).err=0:=h
 unfold K.loop0 at h'
 split at h'
 · exact absurd h' (K.here_ne (by decide))
 · rename_i c
   have e:K.loop0 T J=J:=by unfold K.loop0;rw[if_neg c]
   obtain⟨s1,s2⟩:=step_word hS hi (l:=[102,111,114]) (by decide) hw
   exact⟨c,by unfold K.loop1;rw[e],s1,s2⟩
theorem ex_al{s:ByteArray}{T:List Tok}(hS:Scans s T){pub:Nat->Bool}{N:Nat}{dep:Nat}{J τ:S}(h:DI pub N dep T J)(_:0<=J.depth)(k:K.Keeps J τ)(hi:τ.i<T.length)(he:(K.expr T 11 τ).1.err=0):AE pub N dep T τ (K.expr T 11 τ):=
 expr_al hS 11 τ hi (by rw[k.names];exact h.ng) (by rw[k.depth];exact h.d0) (by rw[k.depth];exact h.d1) (by rw[k.depth];have:=h.d0;omega) he
theorem brk_al{s:ByteArray}{T:List Tok}(hS:Scans s T){pub:Nat->Bool}{N:Nat}{dep f:Nat}(hL:∀J:S,DI pub N dep T J->11-J.depth<=(f:Int)->(K.dos T f J).1.err=0->AL pub N dep T J (K.dos T f J).1 (K.dos T f J).2){J:S}(h:DI pub N dep T J)(hf:10-J.depth<=(f:Int))(he:(K.brk T (K.dos T f) J).1.err=0):
 ScL N dep (K.brk T (K.dos T f) J).2/\pbL pub (K.brk T (K.dos T f) J).2/\cD.cDs (K.brk T (K.dos T f) J).2+fac dep*(J.i+1)+fac dep<=fac dep*(K.brk T (K.dos T f) J).1.i/\(K.brk T (K.dos T f) J).1.i<T.length:=by
 have he':(K.closed T (K.dos T f (K.opened T J)).1).err=0:=he
 have e1:=K.closed_st T _ he'
 have e2:=K.dos_st T f _ e1
 obtain⟨o1,o2,o3,o4⟩:=opened_alive hS h.i e2
 have hoi:(K.opened T J).i=J.i+1:=by rw[o1];exact o2
 have hod:=K.opened_depth T J
 have k2:=K.op2_keeps T J
 have hd1:=h.d1
 have hd0:=h.d0
 have A:=hL (K.opened T J) ⟨by omega,by rw[show(K.opened T J).names=J.names from k2.names];exact h.ng,by rw[show(K.opened T J).words=J.words from k2.words];exact h.words,by rw[show(K.opened T J).loops=J.loops from k2.loops];exact h.loops,by omega,by omega⟩ (by omega) e1
 obtain⟨c1,c2⟩:=closed_alive hS A.lt he'
 have ei:(K.brk T (K.dos T f) J).1.i=(K.dos T f (K.opened T J)).1.i+1:=c1
 have hc:=A.cost
 rw[hoi]at hc
 refine⟨A.sc,A.pb,?_,by rw[ei];exact c2⟩
 show cD.cDs (K.dos T f (K.opened T J)).2+_+_<=_
 rw[ei,Nat.mul_add (fac dep) (K.dos T f (K.opened T J)).1.i 1]
 omega
theorem dosL_al{s:ByteArray}{T:List Tok}(hS:Scans s T){pub:Nat->Bool}{N:Nat}{dep f:Nat}(hD:∀p (J:S),DI pub N dep T J->12-J.depth<=(f:Int)->(K.doF T f p J).1.err=0->AD pub N dep T J (K.doF T f p J))(m:Nat):∀(J:S) (l:List Do),DI pub N dep T J->11-J.depth<=(f:Int)->(K.dosL T (K.doF T f) m J l).1.err=0->∃l',(K.dosL T (K.doF T f) m J l).2=l++l'/\AL pub N dep T J (K.dosL T (K.doF T f) m J l).1 l':=by
 induction m with
 |zero=>intro J l h _ _;exact⟨[],by rw[List.append_nil];rfl,by unfold ScL;trivial,by unfold pbL;trivial,by show cD.cDs []+_<=_;rw[cD.cDs];show 0+fac dep*J.i<=fac dep*J.i;omega,h.i⟩
 |succ m ih=>
  intro J l h hf he
  rw[K.dosL]at he ⊢
  split
  · rename_i c
    rw[if_pos c]at he
    have e1:(K.closed T (K.doF T f (tk T J.i).p (K.opened T J)).1).err=0:=K.dosL_st (K.doF_st T f) m _ _ he
    have e2:=K.closed_st T _ e1
    have e3:=K.doF_st T f _ _ e2
    obtain⟨o1,o2,o3,o4⟩:=opened_alive hS h.i e3
    have hoi:(K.opened T J).i=J.i+1:=by rw[o1];exact o2
    have hod:=K.opened_depth T J
    have k2:=K.op2_keeps T J
    have hd1:=h.d1
    have hd0:=h.d0
    have A:=hD (tk T J.i).p (K.opened T J) ⟨by omega,by rw[show(K.opened T J).names=J.names from k2.names];exact h.ng,by rw[show(K.opened T J).words=J.words from k2.words];exact h.words,by rw[show(K.opened T J).loops=J.loops from k2.loops];exact h.loops,by omega,by omega⟩ (by omega) e2
    obtain⟨c1,c2⟩:=closed_alive hS A.lt e1
    have ei:(K.brkDo T (K.doF T f) J).1.i=(K.doF T f (tk T J.i).p (K.opened T J)).1.i+1:=c1
    have kb:=K.brkDo_keeps (T:=T) (K.doF_keeps T f) J
    obtain⟨l',e',B⟩:=ih (K.brkDo T (K.doF T f) J).1 (l++[(K.brkDo T (K.doF T f) J).2]) (h.keeps kb (by rw[ei];exact c2)) (by rw[kb.depth];exact hf) he
    refine⟨(K.brkDo T (K.doF T f) J).2::l',by rw[e',List.append_assoc];rfl,?_,?_,?_,B.lt⟩
    · unfold ScL;exact⟨A.sc,B.sc⟩
    · unfold pbL;exact⟨A.pb,B.pb⟩
    · have a:=A.cost
      have b:=B.cost
      rw[ei]at b
      rw[hoi]at a
      rw[Nat.mul_add]at a b
      rw[cD.cDs]
      have a':cD (K.brkDo T (K.doF T f) J).2+(fac dep*J.i+fac dep*1)<=fac dep*((K.doF T f (tk T J.i).p (K.opened T J)).1.i+2):=a
      rw[Nat.mul_add]at a'
      omega
  · rename_i c
    rw[if_neg c]at he
    exact⟨[],by rw[List.append_nil],by unfold ScL;trivial,by unfold pbL;trivial,by show cD.cDs []+fac dep*J.i<=fac dep*J.i;rw[cD.cDs];omega,h.i⟩
theorem doX_al{s:ByteArray}{T:List Tok}(hS:Scans s T){pub:Nat->Bool}{N:Nat}(hp:∀j,N<=j->pub j=true){dep f:Nat}(hdep:dep<=2)(hL:∀(dep:Nat),dep<=2->∀J:S,DI pub N dep T J->11-J.depth<=(f:Int)->(K.dos T f J).1.err=0->AL pub N dep T J (K.dos T f J).1 (K.dos T f J).2)(p:Int){J:S}(h:DI pub N dep T J)(hf:11-J.depth<=(f:Int))(he:(K.doX T (K.dos T f) p J).1.err=0):AD pub N dep T J (K.doX T (K.dos T f) p J):=by
 have hi:=h.i
 unfold K.doX at he ⊢
 split
 · rename_i c1
   rw[if_pos c1]at he
   unfold K.setX at he ⊢
   dsimp only at he ⊢
   obtain⟨s1,s2⟩:=step_word hS hi (l:=[115,101,116]) (by decide) c1
   have k1:=K.step_keeps T J
   have e1:=K.expr_st T 11 _ he
   obtain⟨a1,a2,a3,a4,a5⟩:=known_alive hS (J:=K.step T J) (by omega) e1
   have k2:=k1.trans (K.known_keeps T K.canSet (K.step T J))
   have hik:(K.known T K.canSet (K.step T J)).i=J.i+2:=by rw[a3,a4,s1]
   have A:=ex_al hS h h.d0 k2 (by omega) he
   have hng:=h.ng _ (by rw[<-k1.names];exact a1)
   have hkind:(K.knownN T (K.step T J)).kind=0:=by unfold K.canSet at a2;simpa using a2
   rcases hng with g |g
   · refine⟨?_,?_,?_,A.lt⟩
     · unfold Sc
       exact⟨g.2.1,by have:=g.2.2.1;have:=g.2.2.2.2.1;omega,A.wf⟩
     · unfold pbD
       refine⟨λhsec=>?_,A.pb⟩
       have:=g.2.2.2.2.2 0 (by omega) (by have:=g.2.2.1;omega)
       rw[Int.add_zero,hsec]at this
       exact this
     · have c:=A.fac
       rw[hik,Nat.mul_add]at c
       rw[cD]
       show _<=fac dep*((K.expr T 11 _).1.i+2)
       rw[Nat.mul_add]
       obtain⟨q,hq⟩:=fac4 dep
       omega
   · omega
 · rename_i c1
   rw[if_neg c1]at he
   split
   · rename_i c2
     rw[if_pos c2]at he
     unfold K.putX at he ⊢
     dsimp only at he ⊢
     obtain⟨s1,s2⟩:=step_word hS hi (l:=[112,117,116]) (by decide) c2
     have k1:=K.step_keeps T J
     have e0:=K.expr_st T 11 _ he
     have e1:=K.expr_st T 11 _ e0
     obtain⟨a1,a2,a3,a4,a5⟩:=known_alive hS (J:=K.step T J) (by omega) e1
     have k2:=k1.trans (K.known_keeps T K.hasWords (K.step T J))
     have hik:(K.known T K.hasWords (K.step T J)).i=J.i+2:=by rw[a3,a4,s1]
     have A:=ex_al hS h h.d0 k2 (by omega) e0
     have k3:=k2.trans (K.expr_keeps T 11 _)
     have B:=ex_al hS h h.d0 k3 A.lt he
     have hng:=h.ng _ (by rw[<-k1.names];exact a1)
     have hkind:(K.knownN T (K.step T J)).kind=1:=by unfold K.hasWords at a2;simpa using a2
     rcases hng with g |g
     · refine⟨?_,?_,?_,B.lt⟩
       · unfold Sc
         exact⟨g.2.1,g.2.2.1,g.2.2.2.1,g.2.2.2.2.1,A.wf,B.wf⟩
       · unfold pbD
         exact⟨λhsec i i0 i1=>by rw[g.2.2.2.2.2 i i0 i1,hsec];rfl,A.pb,B.pb⟩
       · have c:=A.fac
         have d:=B.fac
         rw[hik,Nat.mul_add]at c
         rw[cD]
         show _<=fac dep*((K.expr T 11 _).1.i+2)
         rw[Nat.mul_add]
         obtain⟨q,hq⟩:=fac4 dep
         omega
     · omega
   · rename_i c2
     rw[if_neg c2]at he
     split
     · rename_i c3
       rw[if_pos c3]at he
       unfold K.ifX at he ⊢
       dsimp only at he ⊢
       obtain⟨s1,s2⟩:=step_word hS hi (l:=[105,102]) (by decide) c3
       have k1:=K.step_keeps T J
       have e1:=K.brk_st (T:=T) (K.dos_st T f) _ he
       have e2:=K.brk_st (T:=T) (K.dos_st T f) _ e1
       have A:=ex_al hS h h.d0 k1 (by omega) e2
       have k2:=k1.trans (K.expr_keeps T 11 (K.step T J))
       have h2:=h.keeps k2 A.lt
       have hd:=k2.depth
       obtain⟨y1,y2,y3,y4⟩:=brk_al hS (hL dep hdep) h2 (by rw[hd];omega) e1
       have k3:=k2.trans (K.brk_keeps (T:=T) (K.dos_keeps T f) _)
       have h3:=h.keeps k3 y4
       obtain⟨n1,n2,n3,n4⟩:=brk_al hS (hL dep hdep) h3 (by rw[k3.depth];omega) he
       refine⟨?_,?_,?_,n4⟩
       · unfold Sc
         exact⟨A.wf,y1,n1⟩
       · unfold pbD
         exact⟨A.pb,y2,n2⟩
       · have c:=A.fac
         rw[s1]at c
         rw[Nat.mul_add]at c y3 n3
         rw[cD]
         show _<=fac dep*((K.brk T (K.dos T f) _).1.i+2)
         rw[Nat.mul_add]
         obtain⟨q,hq⟩:=fac4 dep
         omega
     · rename_i c3
       rw[if_neg c3]at he
       split
       · rename_i c4
         rw[if_pos c4]at he
         unfold K.forX at he ⊢
         dsimp only at he ⊢
         have e1:(K.expr T 11 (K.newName T (K.loop1 T J))).1.err=0:=K.body_st (K.dos_st T f) _ _ he
         have e2:=K.expr_st T 11 _ e1
         have e3:=K.newName_st T _ e2
         obtain⟨l1,l2,l3,l4⟩:=loop_alive hS hi c4 e3
         have k1:K.Keeps J (K.loop1 T J):=(K.loop0_keeps T J).trans (K.step_keeps T _)
         obtain⟨m1,m2⟩:=newName_alive hS (J:=K.loop1 T J) (by rw[l2];omega) e2
         have hik:(K.newName T (K.loop1 T J)).i=J.i+2:=by rw[m1,l2,l3]
         have k2:=k1.trans (K.newName_keeps T (K.loop1 T J))
         have A:=ex_al hS h h.d0 k2 (by rw[m1];exact m2) e1
         have k3:=k2.trans (K.expr_keeps T 11 _)
         have hw:=h.words
         have hl:=h.loops
         have hlt:dep<2:=by
          have:¬(dep:Int)=2:=by rw[<-hl];exact l1
          omega
         have hcp:(K.counter T J).place=((N+dep:Nat):Int):=by show J.words+J.loops=_;rw[hw,hl];omega
         have he':(K.dos T f (K.seeing (K.counter T J) (K.expr T 11 (K.newName T (K.loop1 T J))).1)).1.err=0:=he
         have B:=hL (dep+1) (by omega) (K.seeing (K.counter T J) (K.expr T 11 (K.newName T (K.loop1 T J))).1) ⟨A.lt,λn hn=>by
          have hn':n∈(K.expr T 11 (K.newName T (K.loop1 T J))).1.names++[K.counter T J]:=hn
          rcases List.mem_append.1 hn' with hn' |hn'
          · rw[k3.names]at hn'
            exact(h.ng n hn').more
          · rw[List.mem_singleton]at hn'
            subst hn'
            refine Or.inr ⟨rfl,rfl,by rw[hcp];omega,by rw[hcp];omega,?_⟩
            rw[hcp,Int.toNat_natCast]
            exact hp _ (by omega),by
          show(K.expr T 11 (K.newName T (K.loop1 T J))).1.words=_
          rw[k3.words];exact hw,by
          show(K.expr T 11 (K.newName T (K.loop1 T J))).1.loops+1=_
          rw[k3.loops,hl];omega,by
          show 0<=(K.expr T 11 (K.newName T (K.loop1 T J))).1.depth
          rw[k3.depth];exact h.d0,by
          show(K.expr T 11 (K.newName T (K.loop1 T J))).1.depth<=10
          rw[k3.depth];exact h.d1⟩ (by
          show 11-(K.expr T 11 (K.newName T (K.loop1 T J))).1.depth<=_
          rw[k3.depth];exact hf) he'
         refine⟨?_,?_,?_,B.lt⟩
         · unfold Sc
           exact⟨hcp,hlt,A.wf,B.sc⟩
         · unfold pbD
           exact⟨A.pb,B.pb⟩
         · have c:=A.fac
           have d:cD.cDs (K.dos T f (K.seeing (K.counter T J) (K.expr T 11 (K.newName T (K.loop1 T J))).1)).2+fac (dep+1)*(K.expr T 11 (K.newName T (K.loop1 T J))).1.i<=fac (dep+1)*(K.dos T f (K.seeing (K.counter T J) (K.expr T 11 (K.newName T (K.loop1 T J))).1)).1.i:=B.cost
           rw[hik]at c
           rw[cD]
           show cE _+14+5*(cD.cDs (K.dos T f (K.seeing (K.counter T J) (K.expr T 11 (K.newName T (K.loop1 T J))).1)).2+13)+_<=fac dep*((K.dos T f (K.seeing (K.counter T J) (K.expr T 11 (K.newName T (K.loop1 T J))).1)).1.i+2)
           have hcase:dep=0∨dep=1:=by omega
           rcases hcase with rfl |rfl
           · simp only[fac]at*
             omega
           · simp only[fac]at*
             omega
       · rename_i c4
         rw[if_neg c4]at he
         exact absurd he (K.here_ne (by decide))
theorem dos_al{s:ByteArray}{T:List Tok}(hS:Scans s T){pub:Nat->Bool}{N:Nat}(hp:∀j,N<=j->pub j=true)(f:Nat):∀(dep:Nat),dep<=2->∀J:S,DI pub N dep T J->11-J.depth<=(f:Int)->(K.dos T f J).1.err=0->AL pub N dep T J (K.dos T f J).1 (K.dos T f J).2:=by
 induction f with
 |zero=>intro dep _ J h hf;have:=h.d1;omega
 |succ f ih=>
  intro dep hdep J h hf he
  obtain⟨l',e,A⟩:=dosL_al (f:=f+1) hS (λp J h hf he=>doX_al hS hp hdep ih p h (by omega) he) T.length J [] h hf he
  have e':(K.dos T (f+1) J).2=l':=by
   show(K.dosL T (K.doF T (f+1)) T.length J []).2=_
   rw[e];rfl
  rw[e']
  exact A
theorem need_le(T:List Tok)(f:Nat):∀J:S,need (K.expr T f J).2<=2*f:=by
 induction f with
 |zero=>intro J;exact Nat.le_refl _
 |succ f ih=>
  intro J
  rw[K.expr]
  unfold K.exB
  split
  · dsimp only
    unfold K.comp
    split
    · have:=ih (K.known T K.hasWords (K.step T (K.opened T J)))
      unfold K.getX
      dsimp only
      rw[need];omega
    · split
      · unfold K.choX
        dsimp only
        have:=ih (K.step T (K.opened T J))
        have:=ih (K.expr T f (K.step T (K.opened T J))).1
        have:=ih (K.expr T f (K.expr T f (K.step T (K.opened T J))).1).1
        rw[need];omega
      · split
        · unfold K.opX
          dsimp only
          have:=ih (K.take T K.isOpS (K.opened T J))
          have:=ih (K.expr T f (K.take T K.isOpS (K.opened T J))).1
          rw[need];omega
        · dsimp only;rw[need];omega
  · split
    · dsimp only;rw[need];omega
    · dsimp only;rw[need];omega
theorem needL_snoc:∀(l:List Do) (d:Do),needD.needL (l++[d])=max (needD.needL l) (needD d)
 |[],d=>by simp[needD.needL]
 |a::l,d=>by rw[List.cons_append,needD.needL,needD.needL,needL_snoc l d];omega
theorem needDo_le(T:List Tok)(f:Nat):∀p (J:S),needD (K.doF T f p J).2<=2*f+22:=by
 induction f with
 |zero=>intro p J;show needD .none<=_;rw[needD];omega
 |succ f ih=>
  intro p J
  have hL:∀(m:Nat) (J:S) (l:List Do),needD.needL l<=2*f+22->needD.needL (K.dosL T (K.doF T f) m J l).2<=2*f+22:=by
   intro m
   induction m with
   |zero=>intro J l h;exact h
   |succ m ihm=>
    intro J l h
    rw[K.dosL]
    split
    · refine ihm _ _ ?_
      rw[needL_snoc]
      have:=ih (tk T J.i).p (K.opened T J)
      have e:(K.brkDo T (K.doF T f) J).2=(K.doF T f (tk T J.i).p (K.opened T J)).2:=rfl
      rw[e]
      omega
    · exact h
  have h0:needD.needL []<=2*f+22:=by rw[needD.needL];omega
  have hd:∀J,needD.needL (K.dos T f J).2<=2*f+22:=λJ=>hL T.length J [] h0
  show needD (K.doX T (K.dos T f) p J).2<=_
  unfold K.doX
  split
  · unfold K.setX
    dsimp only
    have:=need_le T 11 (K.known T K.canSet (K.step T J))
    rw[needD];omega
  · split
    · unfold K.putX
      dsimp only
      have:=need_le T 11 (K.known T K.hasWords (K.step T J))
      have:=need_le T 11 (K.expr T 11 (K.known T K.hasWords (K.step T J))).1
      rw[needD];omega
    · split
      · unfold K.ifX
        dsimp only
        have:=need_le T 11 (K.step T J)
        have a:=hd (K.opened T (K.expr T 11 (K.step T J)).1)
        have b:=hd (K.opened T (K.brk T (K.dos T f) (K.expr T 11 (K.step T J)).1).1)
        have a':needD.needL (K.brk T (K.dos T f) (K.expr T 11 (K.step T J)).1).2<=2*f+22:=a
        have b':needD.needL (K.brk T (K.dos T f) (K.brk T (K.dos T f) (K.expr T 11 (K.step T J)).1).1).2<=2*f+22:=b
        rw[needD];omega
      · split
        · unfold K.forX
          dsimp only
          have:=need_le T 11 (K.newName T (K.loop1 T J))
          have a:=hd (K.seeing (K.counter T J) (K.expr T 11 (K.newName T (K.loop1 T J))).1)
          have a':needD.needL (K.body (K.dos T f) (K.counter T J) (K.expr T 11 (K.newName T (K.loop1 T J))).1).2<=2*f+22:=a
          rw[needD];omega
        · dsimp only;rw[needD];omega
theorem needDos_le(T:List Tok)(f:Nat)(J:S):needD.needL (K.dos T f J).2<=2*f+22:=by
 have hL:∀(m:Nat) (J:S) (l:List Do),needD.needL l<=2*f+22->needD.needL (K.dosL T (K.doF T f) m J l).2<=2*f+22:=by
  intro m
  induction m with
  |zero=>intro J l h;exact h
  |succ m ihm=>
   intro J l h
   rw[K.dosL]
   split
   · refine ihm _ _ ?_
     rw[needL_snoc]
     have:=needDo_le T f (tk T J.i).p (K.opened T J)
     have e:(K.brkDo T (K.doF T f) J).2=(K.doF T f (tk T J.i).p (K.opened T J)).2:=rfl
     rw[e]
     omega
   · exact h
 exact hL T.length J [] (by rw[needD.needL];omega)
theorem note_ok{p:Int}{wr:Bool}{g:K.GS}(h:(K.note p wr g).2=false):wr=false/\g.2=false:=by
 unfold K.note at h
 split at h
 · cases h
 · rename_i c
   refine⟨?_,h⟩
   rw[h]at c
   simpa using c
theorem gx_ok:∀(e:Ex) (g:K.GS),(K.gx e g).2=false->okE e/\g.2=false
 |.num _,g,h=>⟨by unfold okE;trivial,h⟩
 |.use _,g,h=>⟨by unfold okE;trivial,h⟩
 |.none,g,h=>⟨by unfold okE;trivial,h⟩
 |.get p n e,g,h=>by
  rw[K.gx]at h
  obtain⟨h1,h2⟩:=gx_ok e _ h
  obtain⟨h3,h4⟩:=note_ok h2
  exact⟨by unfold okE;exact⟨h3,h1⟩,h4⟩
 |.op p o l r,g,h=>by
  rw[K.gx]at h
  obtain⟨h1,h2⟩:=gx_ok r _ h
  obtain⟨h3,h4⟩:=gx_ok l _ h2
  obtain⟨h5,h6⟩:=note_ok h4
  refine⟨?_,h6⟩
  unfold okE
  refine⟨λe=>?_,h3,h1⟩
  subst e
  simpa using h5
 |.cho p q y n,g,h=>by
  rw[K.gx]at h
  obtain⟨h1,h2⟩:=gx_ok n _ h
  obtain⟨h3,h4⟩:=gx_ok y _ h2
  obtain⟨h5,h6⟩:=gx_ok q _ h4
  exact⟨by unfold okE;exact⟨h5,h3,h1⟩,h6⟩
theorem tells_ok{n:Nm}{e:Ex}{hid:Bool}(h:K.tells n e hid=false):n.sec=true∨hid=false/\K.sec e=false:=by
 unfold K.tells at h
 cases hn:n.sec with
 |true=>exact Or.inl rfl
 |false=>
  rw[hn]at h
  right
  simpa using h
mutual
theorem gd_ok:∀(d:Do) (hid:Bool) (g:K.GS),(K.gd hid d g).2=false->okD hid d/\g.2=false
 |.set p n e,hid,g,h=>by
  rw[K.gd]at h
  obtain⟨h1,h2⟩:=gx_ok e _ h
  obtain⟨h3,h4⟩:=note_ok h2
  exact⟨by unfold okD;exact⟨h1,tells_ok h3⟩,h4⟩
 |.put p n i e,hid,g,h=>by
  rw[K.gd]at h
  obtain⟨h1,h2⟩:=gx_ok e _ h
  obtain⟨h3,h4⟩:=gx_ok i _ h2
  obtain⟨h5,h6⟩:=note_ok h4
  obtain⟨h7,h8⟩:=Bool.or_eq_false_iff.1 h5
  exact⟨by unfold okD;exact⟨h3,h1,h7,tells_ok h8⟩,h6⟩
 |.ifs p q y n,hid,g,h=>by
  rw[K.gd]at h
  obtain⟨h1,h2⟩:=gds_ok n _ _ h
  obtain⟨h3,h4⟩:=gds_ok y _ _ h2
  obtain⟨h5,h6⟩:=gx_ok q _ h4
  exact⟨by unfold okD;exact⟨h5,h3,h1⟩,h6⟩
 |.fors p n r l,hid,g,h=>by
  rw[K.gd]at h
  obtain⟨h1,h2⟩:=gds_ok l _ _ h
  obtain⟨h3,h4⟩:=gx_ok r _ h2
  obtain⟨h5,h6⟩:=note_ok h4
  exact⟨by unfold okD;exact⟨h5,h3,h1⟩,h6⟩
 |.none,hid,g,h=>⟨by unfold okD;trivial,by rw[K.gd]at h;exact h⟩
theorem gds_ok:∀(l:List Do) (hid:Bool) (g:K.GS),(K.gds hid l g).2=false->okL hid l/\g.2=false
 |[],hid,g,h=>⟨by unfold okL;trivial,by rw[K.gds]at h;exact h⟩
 |d::l,hid,g,h=>by
  rw[K.gds]at h
  obtain⟨h1,h2⟩:=gds_ok l _ _ h
  obtain⟨h3,h4⟩:=gd_ok d _ _ h2
  exact⟨by unfold okL;exact⟨h3,h1⟩,h4⟩
end
theorem pl_ng{N:Nat}{sh:List Bool}(hN:N<=54):∀{l:List Nm} {p:Nat},PlK (p:Int) l->(∀n∈l,1<=n.size/\n.size<=6)->sh.drop p=K.shape l->sh.length=N->p<=N->∀n∈l,NG (λj=> !(sh.getD j false)) N 0 n
 |[],_,_,_,_,_,_,_,h=>by cases h
 |m::l,p,h,hb,hd,hl,hp,n,hn=>by
  have hm:=hb m List.mem_cons_self
  obtain⟨z,hz⟩:=Int.eq_ofNat_of_zero_le (show 0<=m.size by omega)
  have hsh:K.shape (m::l)=List.replicate z m.sec++K.shape l:=by
   show List.flatMap _ _=_
   rw[List.flatMap_cons,hz]
   rfl
  rw[hsh]at hd
  have hlen:=congrArg List.length hd
  rw[List.length_drop,List.length_append,List.length_replicate]at hlen
  have hw:IntKind.i64.wrap (p:Int)=p:=k64 _ (by omega)
  rcases List.mem_cons.1 hn with rfl |hn
  · refine Or.inl ⟨h.2.1,by rw[h.1,hw];omega,hm.1,hm.2,by rw[h.1,hw,hz];omega,λi i0 i1=>?_⟩
    obtain⟨k,rfl⟩:=Int.eq_ofNat_of_zero_le i0
    have hk:k<z:=by omega
    rw[h.1,hw,show((p:Int)+(k:Int)).toNat=p+k by omega]
    have:sh[p+k]?=some n.sec:=by
     rw[<-List.getElem?_drop,hd,List.getElem?_append_left (by rw[List.length_replicate];exact hk),List.getElem?_replicate,if_pos hk]
    show(!(sh.getD (p+k) false))=_
    rw[List.getD_eq_getElem?_getD,this]
    rfl
  · refine pl_ng hN (p:=p+z) (by have:=h.2.2;rw[hz]at this;exact this) (λn hn=>hb n (List.mem_cons_of_mem _ hn)) ?_ hl (by omega) n hn
    rw[<-List.drop_drop,hd,List.drop_append_of_le_length (by rw[List.length_replicate];omega),List.drop_eq_nil_of_le (by rw[List.length_replicate];omega)]
    rfl
structure Pr(N:Nat)(sh:List Bool)(l:List Do):Prop where
 n54:N<=54
 len:sh.length=N
 sc:ScL N 0 l
 need:needD.needL l<=44
 cost:cD.cDs l<=80200
 pb:pbL (λj=> !(sh.getD j false)) l
 ok:okL false l
theorem prog_al{s:ByteArray}(hs:s.size<=800)(h:(R.read s).err=0):Pr (R.read s).shape.length (R.read s).shape (K.progD (R.toks s)):=by
 obtain⟨c0,cf,csh,cw,c54,csz,cb,_⟩:=Q.shape_ok hs h
 have hS:=K.scans_toks hs
 have hl:=R.toks_len s
 have hkw0:K.KW K.start:=by unfold K.KW;decide
 have hkp:=declsL_pl (R.toks s) (R.toks s).length K.start hkw0 trivial
 generalize R.toks s=T at*
 have kS:K.Keeps (K.prog0 T) (K.progS T):=(K.dos_keeps T 11 _).trans (K.expect_keeps T _ _)
 have hp0:K.prog0 T=K.declsL T T.length K.start:=rfl
 rw[<-hp0]at hkp
 rw[kS.names]at csh cb
 rw[kS.words]at cw
 generalize(R.read s).shape=sh at*
 have hng:=pl_ng (N:=sh.length) (sh:=sh) c54 (l:=(K.prog0 T).names) (p:=0) hkp cb (by rw[List.drop_zero];exact csh) rfl (Nat.zero_le _)
 have e1:(K.dos T 11 (K.prog0 T)).1.err=0:=K.take_st T _ _ c0
 have e2:=K.dos_st T 11 _ e1
 have hpi:(K.prog0 T).i<T.length:=by
  have:∀(m:Nat) (J:S),J.i<T.length->(K.declsL T m J).i<T.length:=by
   intro m
   induction m with
   |zero=>intro J h;exact h
   |succ m ih=>
    intro J h
    rw[K.declsL]
    split
    · refine ih _ ?_
      show(K.dcl T J).i<_
      exact(((K.opened_fwd T J).trans (K.decl_fwd T (tk T J.i).p (K.opened T J))).trans (K.closed_fwd T _) h).2
    · exact h
  exact this T.length K.start hl.2
 have hlp:(K.prog0 T).loops=0:=by
  have:∀(m:Nat) (J:S),(K.declsL T m J).loops=J.loops:=by
   intro m
   induction m with
   |zero=>intro J;rfl
   |succ m ih=>
    intro J
    rw[K.declsL]
    split
    · rw[ih]
      show(K.dcl T J).loops=_
      exact(K.dcl_keeps T J).loops
    · rfl
  exact this T.length K.start
 have hd0:=K.prog0_depth T
 have A:=dos_al hS (pub:=λj=> !(sh.getD j false)) (N:=sh.length) (λj hj=>by show(!(sh.getD j false))=true;rw[List.getD_eq_getElem?_getD,List.getElem?_eq_none hj];rfl) 11 0 (by omega) (K.prog0 T) ⟨hpi,hng,cw,by rw[hlp];rfl,by omega,by omega⟩ (by rw[hd0];decide) e1
 refine⟨c54,rfl,A.sc,?_,?_,A.pb,?_⟩
 · exact needDos_le T 11 (K.prog0 T)
 · have:=A.cost
   have:=A.lt
   have:cD.cDs (K.progD T)+100*(K.prog0 T).i<=100*(K.dos T 11 (K.prog0 T)).1.i:=A.cost
   omega
 · have hf:(K.gds false (K.progD T) (0,false)).2=false:=cf
   exact(gds_ok _ _ _ hf).1
end Y
end
section
open Go.RowKit
open K (Nm Ex Do)
namespace Y
def okl(l:List Ins):Prop:=∀i∈l,okI i
theorem okl.nil:okl []:=λ_ h=>by cases h
theorem okl.cons{i:Ins}{l:List Ins}(h:okI i)(k:okl l):okl (i::l):=λj hj=>by
 rcases List.mem_cons.1 hj with rfl |hj
 · exact h
 · exact k j hj
theorem okl.app{a b:List Ins}(h:okl a)(k:okl b):okl (a++b):=λj hj=>(List.mem_append.1 hj).elim (h j) (k j)
theorem kpC_ok(g w:List Nat)(a:Nat):okl (kpC g w a):=by
 unfold kpC
 split
 · exact okl.nil
 · exact .cons trivial (.cons trivial .nil)
theorem ftC_ok(g:List Nat)(k:Kp):okl (ftC g k):=by
 cases k
 · exact okl.nil
 · exact .cons trivial (.cons trivial .nil)
theorem plC_ok(g:List Nat)(r:Nat)(n:Nm):okl (plC g r n):=by
 have t:∀o:UInt8,V.isOp o=true->∀a b c,okI (.bin o a b c):=λo h _ _ _=>h
 exact .cons trivial (.cons (t 47 (by decide) _ _ _) (.cons (t 42 (by decide) _ _ _) (.cons (t 45 (by decide) _ _ _) (.cons (t 43 (by decide) _ _ _) (.cons (t 47 (by decide) _ _ _) (.cons (t 42 (by decide) _ _ _) (.cons (t 45 (by decide) _ _ _) (.cons trivial (.cons (t 43 (by decide) _ _ _) .nil)))))))))
theorem exC_ok{N:Nat}:∀{e:Ex},V.wfE N e->∀g w:List Nat,okl (exC g w e).1
 |.num v,_,g,w=>.cons trivial .nil
 |.use n,_,g,w=>.cons trivial (.cons trivial .nil)
 |.get p n e,h,g,w=>by
  unfold V.wfE at h
  rw[exC]
  exact(exC_ok h.2.2.2.2 g w).app ((plC_ok _ _ _).app (.cons trivial .nil))
 |.op p o l r,h,g,w=>by
  unfold V.wfE at h
  rw[exC]
  exact(exC_ok h.2.1 _ _).app ((kpC_ok _ _ _).app ((exC_ok h.2.2 _ _).app ((ftC_ok _ _).app (.cons (show okI (.bin o _ _ _)from h.1) .nil))))
 |.cho p q y n,h,g,w=>by
  unfold V.wfE at h
  rw[exC]
  exact(exC_ok h.1 _ _).app ((kpC_ok _ _ _).app ((exC_ok h.2.1 _ _).app ((kpC_ok _ _ _).app ((exC_ok h.2.2 _ _).app ((ftC_ok _ _).app ((ftC_ok _ _).app (.cons trivial .nil)))))))
 |.none,h,g,w=>by unfold V.wfE at h;exact h.elim
theorem chC_ok(g:List Nat)(p r:Nat)(k:Option Nat):okl (chC g p r k):=by
 cases k
 · exact .cons trivial .nil
 · exact .cons trivial (.cons trivial (.cons trivial (.cons trivial (.cons trivial .nil))))
theorem coC_ok(g:List Nat)(r a b:Nat)(k:Option Nat):okl (coC g r a b k):=by
 unfold coC
 refine okl.app ?_ (.cons trivial (.cons trivial (.cons trivial (.cons trivial (.cons trivial (.cons trivial (.cons trivial .nil)))))))
 cases k
 · exact .cons trivial .nil
 · exact .cons trivial (.cons trivial .nil)
theorem roC_ok(g:List Nat)(r c:Nat):okl (roC g r c):=.cons trivial (.cons (show V.isOp 60=true by decide) (.cons trivial (.cons trivial (.cons trivial .nil))))
theorem hdC_ok(cp:Int)(c d:Nat):okl (hdC cp c d):=.cons trivial (.cons trivial (.cons trivial (.cons trivial (.cons (show V.isOp 60=true by decide) (.cons trivial .nil)))))
theorem onC_ok(cp:Int)(d:Nat):okl (onC cp d):=.cons trivial (.cons trivial (.cons trivial (.cons (show V.isOp 43=true by decide) (.cons trivial (.cons trivial (.cons trivial .nil))))))
mutual
theorem doC_ok{N:Nat}:∀(d:Do),V.wfD N d->∀(p:Nat) (w:List Nat) (k:Option Nat),okl (doC p w k d)
 |.set _ n e,h,p,w,k=>by
  unfold V.wfD at h
  rw[doC]
  exact(exC_ok h.2.2 _ _).app (.cons trivial (chC_ok _ _ _ _))
 |.put _ n i e,h,p,w,k=>by
  unfold V.wfD at h
  rw[doC]
  exact(exC_ok h.2.2.2.2.2 _ _).app ((exC_ok h.2.2.2.2.1 _ _).app ((plC_ok _ _ _).app (chC_ok _ _ _ _)))
 |.ifs _ q y n,h,p,w,k=>by
  unfold V.wfD at h
  rw[doC]
  split
  · exact(exC_ok h.1 _ _).app ((coC_ok _ _ _ _ _).app ((dosC_ok y h.2.1 _ _ _).app (dosC_ok n h.2.2 _ _ _)))
  · exact(exC_ok h.1 _ _).app (.cons trivial ((dosC_ok y h.2.1 _ _ _).app (.cons trivial (dosC_ok n h.2.2 _ _ _))))
 |.fors _ n r l,h,p,w,k=>by
  unfold V.wfD at h
  rw[doC]
  exact(exC_ok h.2.2.1 _ _).app ((roC_ok _ _ _).app (okl.app (.cons trivial (.cons trivial (.cons trivial .nil))) ((hdC_ok _ _ _).app ((dosC_ok l h.2.2.2 _ _ _).app (onC_ok _ _)))))
 |.none,h,p,w,k=>by rw[doC];exact okl.nil
theorem dosC_ok{N:Nat}:∀(l:List Do),V.wfL N l->∀(p:Nat) (w:List Nat) (k:Option Nat),okl (dosC p w k l)
 |[],h,p,w,k=>by rw[dosC];exact okl.nil
 |d::l,h,p,w,k=>by
  unfold V.wfL at h
  rw[dosC]
  exact(doC_ok d h.1 _ _ _).app (dosC_ok l h.2 _ _ _)
end
theorem prC_ok{N M:Nat}{l:List Do}(h:V.wfL M l):okl (prC N l):=(dosC_ok l h _ _ _).app (.cons trivial .nil)
mutual
theorem sc_wf{N:Nat}:∀(d:Do) {dep:Nat},dep<=2->Sc N dep d->V.wfD (N+2) d
 |.set _ n e,dep,h2,h=>by
  unfold Sc at h
  unfold V.wfD
  exact⟨h.1,by have:=h.2.1;omega,wfE_mono (by omega) h.2.2⟩
 |.put _ n i e,dep,h2,h=>by
  unfold Sc at h
  unfold V.wfD
  exact⟨h.1,h.2.1,h.2.2.1,by have:=h.2.2.2.1;omega,wfE_mono (by omega) h.2.2.2.2.1,wfE_mono (by omega) h.2.2.2.2.2⟩
 |.ifs _ q y n,dep,h2,h=>by
  unfold Sc at h
  unfold V.wfD
  exact⟨wfE_mono (by omega) h.1,scl_wf y h2 h.2.1,scl_wf n h2 h.2.2⟩
 |.fors _ n r l,dep,h2,h=>by
  unfold Sc at h
  unfold V.wfD
  exact⟨by rw[h.1];omega,by rw[h.1];have:=h.2.1;omega,wfE_mono (by omega) h.2.2.1,scl_wf l (by have:=h.2.1;omega) h.2.2.2⟩
 |.none,dep,h2,h=>by unfold Sc at h;exact h.elim
theorem scl_wf{N:Nat}:∀(l:List Do) {dep:Nat},dep<=2->ScL N dep l->V.wfL (N+2) l
 |[],dep,h2,h=>by unfold V.wfL;trivial
 |d::l,dep,h2,h=>by
  unfold ScL at h
  unfold V.wfL
  exact⟨sc_wf d h2 h.1,scl_wf l h2 h.2⟩
end
theorem code_cell{w:World}{B g cc:Nat}{C:List Ins}(o:w.ownsRow B 58 5 (.slice (some ⟨g,0,none⟩) C.length cc) C.length (C.flatMap inV)){pc:Nat}{i:Ins}(hi:C[pc]?=some i){n0 n1 n2 n3 n4:Int}(hn:inN i=[n0,n1,n2,n3,n4]):
 w.cell? ⟨g,5*pc,none⟩=some (.int .i64 n0)/\w.cell? ⟨g,5*pc+1,none⟩=some (.int .i64 n1)/\w.cell? ⟨g,5*pc+2,none⟩=some (.int .i64 n2)/\w.cell? ⟨g,5*pc+3,none⟩=some (.int .i64 n3)/\w.cell? ⟨g,5*pc+4,none⟩=some (.int .i64 n4):=by
 have hlt:=(List.getElem?_eq_some_iff.1 hi).1
 have hC:C=C.take pc++i::C.drop (pc+1):=by
  have e1:=(List.getElem?_eq_some_iff.1 hi).2
  rw[<-e1,<-List.drop_eq_getElem_cons hlt,List.take_append_drop]
 have hA:(C.take pc).length=pc:=by rw[List.length_take];omega
 have hx:C.flatMap inV=(C.take pc).flatMap inV++([.int .i64 n0,.int .i64 n1,.int .i64 n2,.int .i64 n3,.int .i64 n4]++(C.drop (pc+1)).flatMap inV):=by
  conv=>lhs;rw[hC]
  rw[List.flatMap_append,List.flatMap_cons]
  have:inV i=[.int .i64 n0,.int .i64 n1,.int .i64 n2,.int .i64 n3,.int .i64 n4]:=by unfold inV;rw[hn];rfl
  rw[this]
 have hl:=flat_len (C.take pc)
 rw[hA]at hl
 obtain⟨_,⟨e1,_⟩|⟨g',cap',cur,e1,_,hg,hc,_,hs,ht⟩⟩:=o
 · cases e1
 · cases e1
   have aC:At w g 58 cur.toList:=by unfold At;rw[hg]
   have key:∀j u,j<5->([.int .i64 n0,.int .i64 n1,.int .i64 n2,.int .i64 n3,.int .i64 n4]:List Value)[j]?=some u->w.cell? ⟨g,5*pc+j,none⟩=some u:=by
    intro j u hj hu
    rw[aC.cell]
    have e2:(C.flatMap inV)[5*pc+j]?=some u:=by
     rw[hx,List.getElem?_append_right (by omega),hl,Nat.add_sub_cancel_left,List.getElem?_append_left (by simpa using hj),hu]
    rw[<-ht,List.getElem?_take]at e2
    split at e2
    · exact e2
    · cases e2
   exact⟨key 0 _ (by omega) rfl,key 1 _ (by omega) rfl,key 2 _ (by omega) rfl,key 3 _ (by omega) rfl,key 4 _ (by omega) rfl⟩
theorem inN_form(i:Ins):∃n0 n1 n2 n3 n4,inN i=[n0,n1,n2,n3,n4]:=by cases i<;>exact⟨_,_,_,_,_,rfl⟩
theorem go_zero{C:List Ins}{s s':Ma}(h:go C 0 s=some s'):s=s':=by unfold go at h;cases h;rfl
theorem go_succ{C:List Ins}{n:Nat}{s s':Ma}(h:go C (n+1) s=some s'):∃i s1,C[s.pc]?=some i/\step i s=some s1/\go C n s1=some s':=by
 rw[go]at h
 cases hc:C[s.pc]? with
 |none=>rw[hc]at h;cases h
 |some i=>
  rw[hc]at h
  dsimp only at h
  cases hs:step i s with
  |none=>rw[hs]at h;cases h
  |some s1=>rw[hs]at h;exact⟨i,s1,rfl,hs,h⟩
theorem step_seen{i:Ins}{s s':Ma}(h:step i s=some s'):s'.seen.length<=s.seen.length+3:=by
 cases i<;>simp only[step]at h
 all_goals (try split at h)<;>(try cases h)<;>simp
 all_goals split<;>simp
theorem pc_next{n:Nat}(h:n<=100000):wrap64 ((n:Int)+1)=((n+1:Nat):Int)/\IntKind.i64.wrap ((n:Int)+1)=((n+1:Nat):Int):=by
 refine⟨by unfold wrap64;omega,by rw[IntKind.wrap_i64];omega⟩
theorem lt8{n:Nat}(h:n<8):(n:Int)<8:=by omega
theorem seen1{l:List Int}{x:Int}{k:Nat}(h:l.length<=3*k):(l++[x]).length<=3*(k+1):=by rw[List.length_append];simp;omega
theorem rounds1{k m n:Nat}(h:k+(m+1+1)=n+1):k+1+(m+1)=n+1:=by omega
end Y
end
end Go.Proofs.YtejbgcloblpbfaaGreatDoor
