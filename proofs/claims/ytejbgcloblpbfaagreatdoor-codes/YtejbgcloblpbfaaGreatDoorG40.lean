import Derived.Test.YtejbgcloblpbfaaGreatDoorG39
namespace Go.Proofs.YtejbgcloblpbfaaGreatDoor
section
open R (Nd Tok tk PS Thing)
open K (Nm Ex Do S)
namespace Q
theorem found_pl{s:List UInt8}{l:List Thing}{m:List Nm}{W:Int}(h:Names l m)(hp:Pls W l m)(hf:0<=R.find s l):SamePl W (R.thingAt l (R.find s l)) (K.findN s m).1:=by
 have e:=h.find (s:=s)
 have hl:=R.find_lt s l
 unfold K.findN
 rw[<-e,if_pos hf]
 exact hp.at _ (by omega)
theorem known_pl(T:List Tok){array set:Bool}{fits:Nm->Bool}(hF:Fits array set fits){J:PS}{τ:S}(h:Sm J τ){W:Int}(hp:Pls W J.seen τ.names)(ha:(R.known T array set J).err=0):
 SamePl W (R.knownT T array set J) (K.knownN T τ)/\SameN (R.knownT T array set J) (K.knownN T τ)/\fits (K.knownN T τ)=true:=by
 unfold R.known at ha
 unfold R.knownT K.knownN
 rw[if_pos h.e1]at ha
 rw[h.i]at ha ⊢
 by_cases hn:R.isName (tk T τ.i).s=true
 · rw[if_pos hn]at ha
   by_cases hf:R.find (tk T τ.i).s.toList J.seen<0
   · have hw:R.wrong J.seen (tk T τ.i).s.toList array set=true:=by unfold R.wrong;rw[decide_eq_true hf];rfl
     rw[if_pos hw]at ha
     exact absurd ha (R.fail_no (by decide))
   · have hf':0<=R.find (tk T τ.i).s.toList J.seen:=by omega
     obtain⟨f1,f2⟩:=found_same h.names hf'
     have f3:=found_pl h.names hp hf'
     have hfit:=hF _ _ f2
     have hwr:R.wrong J.seen (tk T τ.i).s.toList array set= !(fits (K.findN (tk T τ.i).s.toList τ.names).1):=by
      unfold R.wrong
      rw[decide_eq_false hf,hfit,Bool.not_not,Bool.false_or]
     cases e:fits (K.findN (tk T τ.i).s.toList τ.names).1 with
     |true=>
      rw[if_pos ⟨h.e1,hn,by rw[hwr,e];rfl⟩]
      exact⟨f3,f2,rfl⟩
     |false=>
      rw[if_pos (by rw[hwr,e];rfl)]at ha
      exact absurd ha (R.fail_no (by decide))
 · rw[if_neg hn]at ha
   exact absurd ha (R.fail_no (by decide))
theorem parse_digits:∀(l:List UInt8) (acc:Nat),l.all R.dig=true->(acc+1)*10^l.length<=1000000000→
 ∃u:Nat,Lib.parseUint10 acc l=.ok u/\u<1000000000/\(u:Int)=l.foldl (fun(n:Int) c=>10*n+c.toNat-48) (acc:Int)
 |[],acc,_,h=>⟨acc,rfl,by have h':(acc+1)*1<=1000000000:=h;omega,rfl⟩
 |c::r,acc,hd,h=>by
  rw[List.all_cons,Bool.and_eq_true]at hd
  have hc:=hd.1
  unfold R.dig at hc
  rw[decide_eq_true_eq]at hc
  rw[List.length_cons,Nat.pow_succ]at h
  have hpos:0<10^r.length:=Nat.pow_pos (by decide)
  have h9:acc+1<=1000000000:=by
   have h1:(acc+1)*1<=(acc+1)*(10^r.length*10):=Nat.mul_le_mul_left _ (by omega)
   omega
  have hstep:(acc*10+(c.toNat-48)+1)*10^r.length<=1000000000:=by
   refine Nat.le_trans (Nat.mul_le_mul_right _ (show acc*10+(c.toNat-48)+1<=(acc+1)*10 by omega)) ?_
   rw[Nat.mul_assoc,Nat.mul_comm 10]
   exact h
  obtain⟨u,e1,e2,e3⟩:=parse_digits r (acc*10+(c.toNat-48)) hd.2 hstep
  refine⟨u,?_,e2,?_⟩
  · rw[Lib.parseUint10,if_pos hc,if_neg (by omega),if_neg (by omega),e1]
  · rw[e3,List.foldl_cons]
    congr 1
    omega
theorem num_val(s:ByteArray)(h:(R.number s.data.toList).2=true):K.val s=(R.number s.data.toList).1:=by
 obtain⟨⟨l⟩⟩:=s
 show(match Lib.atoiAll l with |.ok v=>v |_=>0)=(R.number l).1
 have h':(R.number l).2=true:=h
 have key:∀(sg:Int) (m:List UInt8),(R.numOf sg m).2=true->m.all R.dig=true/\m.length<=9/\0<m.length/\(R.numOf sg m).1=sg*R.val m:=by
  intro sg m hm
  unfold R.numOf at hm ⊢
  by_cases ha:m.all R.dig=true/\m.length<=9
  · rw[if_pos ha]at hm ⊢
    exact⟨ha.1,ha.2,by simpa using hm,rfl⟩
  · rw[if_neg ha]at hm
    exact absurd hm (by decide)
 have pw:∀n:Nat,n<=9->(0+1)*10^n<=1000000000:=λn hn=>by
  rw[Nat.zero_add,Nat.one_mul]
  exact Nat.le_trans (Nat.pow_le_pow_right (n:=10) (by decide) hn) (by decide)
 cases l with
 |nil=>exact absurd h' (by decide)
 |cons c r=>
  unfold R.number at h' ⊢
  by_cases hc:c=45
  · subst hc
    have hh:((45:UInt8)::r).head?=some 45:=rfl
    rw[if_pos hh]at h' ⊢
    obtain⟨k1,k2,k3,k4⟩:=key _ _ h'
    rw[k4]
    obtain⟨u,e1,e2,e3⟩:=parse_digits r 0 k1 (pw _ k2)
    have ep:Lib.parseMag r=.ok u:=by
     unfold Lib.parseMag
     rw[if_neg (by rintro rfl;simp at k3),e1]
    have et:((45:UInt8)::r).tail=r:=rfl
    rw[et]
    unfold Lib.atoiAll
    have n45:(45:UInt8).toNat=45:=rfl
    simp only[n45,or_true,if_true,ep]
    rw[if_neg (by simp),if_neg (by omega)]
    show -(u:Int)= -1*R.val r
    unfold R.val
    have:(((0:Nat)):Int)=0:=rfl
    rw[<-this,<-e3]
    omega
  · rw[if_neg (by simpa using hc)]at h' ⊢
    obtain⟨k1,k2,k3,k4⟩:=key _ _ h'
    rw[k4]
    obtain⟨u,e1,e2,e3⟩:=parse_digits (c::r) 0 k1 (pw _ k2)
    have hd:=k1
    rw[List.all_cons,Bool.and_eq_true]at hd
    have hdc:=hd.1
    unfold R.dig at hdc
    rw[decide_eq_true_eq]at hdc
    have ep:Lib.parseMag (c::r)=.ok u:=by
     unfold Lib.parseMag
     rw[if_neg (by simp),e1]
    unfold Lib.atoiAll
    have n1:¬c.toNat=43:=by omega
    have n2:¬c.toNat=45:=by omega
    simp only[n1,n2,or_self,if_false,ep]
    rw[if_neg (by omega),if_neg (by simp)]
    show(u:Int)=1*R.val (c::r)
    unfold R.val
    have:(((0:Nat)):Int)=0:=rfl
    rw[<-this,<-e3]
    omega
end Q
end
section
open R (Nd Tok tk PS Thing)
open K (Nm Ex Do S Scans)
namespace Q
theorem bytes_of{s:ByteArray}{l:List UInt8}(h:s.toList=l):s=⟨l.toArray⟩:=by
 rw[ByteArray.toList_eq]at h
 obtain⟨⟨d⟩⟩:=s
 have:d=l:=h
 rw[this]
def NEl(N:Nat)(nodes:List Nd):List Ex->List Nat->Prop
 |[],ks=>ks=[]
 |e::l,ks=>∃k r,ks=k::r/\NE N nodes e k/\NEl N nodes l r
def RecN(N:Nat)(T:List Tok)(m f:Nat):Prop:=∀J τ,Sm J τ->Pls N J.seen τ.names->J.i<T.length->T.length-J.i<=m->0<=τ.depth->τ.depth<=10->11-τ.depth<=(f:Int)->(R.expr T m J).1.err=0→
 ∃k:Nat,(R.expr T m J).2=(k:Int)/\NE N (R.expr T m J).1.nodes (K.expr T f τ).2 k
theorem seen_core{a b:PS}(h:R.core b=R.core a):b.seen=a.seen:=congrArg (λc=>c.1) h
theorem args_node{N:Nat}{T:List Tok}(hE:R.Ended T){m f:Nat}(hr:Rec T m f)(hn:RecN N T m f)(n:Nat):∀(J:PS) (τ:S) (L:List Int) (b:Bool),Sm J τ->Pls N J.seen τ.names->J.i<T.length->T.length-J.i<=m->0<=τ.depth->τ.depth<=10->11-τ.depth<=(f:Int)->(R.args (R.expr T m) n J L b).1.err=0→
 ∃ks:List Nat,(R.args (R.expr T m) n J L b).2.1=L++ks.map (λk:Nat=>(k:Int))/\NEl N (R.args (R.expr T m) n J L b).1.nodes (kArgs (K.expr T f) n τ).2 ks:=by
 induction n with
 |zero=>intro J τ L b _ _ _ _ _ _ _ _;exact⟨[],by simp[R.args],rfl⟩
 |succ n ih=>
  intro J τ L b h hp hi hm d0 d1 df ha
  rw[R.args,if_pos h.e1]at ha ⊢
  have e1:=R.args_err _ _ _ _ ha
  have ok:=R.expr_ok hE m J hi
  have kk:=K.expr_keeps T f τ
  obtain⟨k,hk,hne⟩:=hn J τ h hp hi hm d0 d1 df e1
  rcases hr J τ h hi hm d0 d1 df with a |a
  · have hp':Pls N (R.expr T m J).1.seen (K.expr T f τ).1.names:=by rw[seen_core ok.core,kk.names];exact hp
    obtain⟨ks,i1,i2⟩:=ih _ _ _ _ a.sm hp' ok.lt (by have:=ok.le;omega) (by rw[kk.depth];exact d0) (by rw[kk.depth];exact d1) (by rw[kk.depth];exact df) ha
    have ok2:=R.args_ok (T:=T) (λJ h=>R.expr_ok hE m J h) n (R.expr T m J).1 (L++[(R.expr T m J).2]) (b||((R.expr T m J).1.err==0&&(R.nodeAt (R.expr T m J).1 (R.expr T m J).2).sec)) ok.lt
    obtain⟨more,hmore⟩:=ok2.pre
    refine⟨k::ks,by rw[i1,hk];simp,?_⟩
    rw[kArgs]
    refine⟨k,ks,rfl,?_,i2⟩
    rw[hmore]
    exact hne.mono
  · exact absurd e1 a.e1
theorem inner_nodes(T:List Tok)(rec:PS->PS×Int)(p:Int)(J:PS):(R.inner T rec p J).nodes=(R.args rec (R.headOf T J).2.2 (R.headOf T J).1 [] false).1.nodes++[⟨(tk T J.i).s,0,(R.headOf T J).2.1,(R.args rec (R.headOf T J).2.2 (R.headOf T J).1 [] false).2.1,[],(R.headOf T J).2.1.sec||(R.args rec (R.headOf T J).2.2 (R.headOf T J).1 [] false).2.2⟩]:=by
 unfold R.inner
 dsimp only
 show(R.leaks _ _ _).nodes++_=_
 rw[(R.leaks_core _ _ _).2.1,(R.shut_core T _).2.1]
theorem inner_alive{T:List Tok}{rec:PS->PS×Int}{p:Int}{J:PS}(h:(R.inner T rec p J).err=0):(R.args rec (R.headOf T J).2.2 (R.headOf T J).1 [] false).1.err=0:=by
 unfold R.inner at h
 dsimp only at h
 have h1:(R.leaks p _ (R.shut T (R.args rec (R.headOf T J).2.2 (R.headOf T J).1 [] false).1)).err=0:=h
 rw[R.leaks_err]at h1
 generalize(R.args rec (R.headOf T J).2.2 (R.headOf T J).1 [] false).1=A at*
 by_cases e:A.err=0
 · exact e
 · exfalso
   unfold R.shut at h1
   rw[if_neg e]at h1
   exact e h1
theorem at_end{l:List Nd}(n:Nd):(l++[n])[l.length]?=some n:=by simp
theorem last_inner(T:List Tok)(rec:PS->PS×Int)(p:Int)(J:PS):R.lastN (R.inner T rec p J)=(((R.args rec (R.headOf T J).2.2 (R.headOf T J).1 [] false).1.nodes.length:Nat):Int):=by
 unfold R.lastN
 rw[inner_nodes,List.length_append]
 simp
theorem sign_op{s:ByteArray}(h:R.sign s.toList=true):∃c,s=⟨#[c]⟩/\V.isOp c=true/\R.byteAt s 0=c:=by
 by_cases hl:s.size=1
 · obtain⟨c,hc,hb⟩:=one_byte hl
   have h2:=h
   rw[ByteArray.toList_eq,hc]at h2
   refine⟨c,bytes_of (by rw[ByteArray.toList_eq];exact hc),?_,hb⟩
   have e:∀d:UInt8,(([c]:List UInt8)==[d])=(c==d):=λd=>by simp
   unfold R.sign at h2
   unfold V.isOp
   rw[e,e,e,e,e,e,e,e]at h2
   exact h2
 · rw[sign_long hl]at h
   exact absurd h (by decide)
theorem inner_node{s:ByteArray}{N:Nat}{T:List Tok}(hS:Scans s T)(hE:R.Ended T){m f:Nat}(hr:Rec T m f)(hn:RecN N T m f){J:PS}{τ:S}(h:Sm J τ)(hp:Pls N J.seen τ.names)(hi:J.i<T.length)(hm:T.length-J.i<=m)(d0:0<=τ.depth)(hd:τ.depth<=10/\11-τ.depth<=(f:Int)∨τ.i=T.length-1)(p:Int)(ha:(R.inner T (R.expr T m) p J).err=0):NE N (R.inner T (R.expr T m) p J).nodes (K.comp T (K.expr T f) p τ).2 (R.args (R.expr T m) (R.headOf T J).2.2 (R.headOf T J).1 [] false).1.nodes.length:=by
 have ht:=take_sm T h
 have hti:=R.take_i T J
 have hal:=inner_alive ha
 have hdead:∀l:List UInt8,l≠[]->(tk T J.i).s.toList=l->τ.depth<=10/\11-τ.depth<=(f:Int):=λl hl e=>by
  rcases hd with hd |hd
  · exact hd
  · exfalso
    have:=K.last_no hS (i:=τ.i) hd l hl
    rw[<-h.i,e]at this
    simp at this
 have hpt:Pls N (R.take T J).seen (K.step T τ).names:=by rw[seen_core (R.take_core T J).1,(K.step_keeps T τ).names];exact hp
 rw[inner_nodes]
 unfold R.headOf at hal ⊢
 by_cases e1:(tk T J.i).s.toList=R.kGet
 · have hd':=hdead _ (by decide) e1
   rw[if_pos e1]at hal ⊢
   rw[comp_get (by rw[<-h.i];exact e1)]
   dsimp only at hal ⊢
   have hka:=R.args_err _ _ _ _ hal
   have kc:=R.known_core T true false (R.take T J)
   have kk:=(K.step_keeps T τ).trans (K.known_keeps T K.hasWords (K.step T τ))
   obtain⟨pl,sn,fi⟩:=known_pl T fits_words ht hpt hka
   rcases known_eqv T fits_words ht with⟨k1,_⟩|k
   · have hp1:Pls N (R.known T true false (R.take T J)).seen (K.known T K.hasWords (K.step T τ)).names:=by
      rw[seen_core kc.1,(K.known_keeps T K.hasWords (K.step T τ)).names];exact hpt
     obtain⟨ks,a1,a2⟩:=args_node hE hr hn 1 _ _ [] false k1 hp1 (kc.2.2.2.2 (hti.2.2.2 hi)) (by have:=kc.2.2.2.1;have:=hti.1;omega) (by rw[kk.depth];exact d0) (by rw[kk.depth];exact hd'.1) (by rw[kk.depth];exact hd'.2) hal
     obtain⟨x,r,rfl,b1,b2⟩:=a2
     have hr0:r=[]:=b2
     subst hr0
     have hk1:(K.knownN T (K.step T τ)).kind=1:=by
      have:=fi
      unfold K.hasWords at this
      simpa using this
     have v:=pl.v (by omega)
     unfold NE
     refine⟨_,x,at_end _,bytes_of e1,a1,v.1.symm,sn.size,by have:=pl.p0;omega,by rw[<-sn.size];exact v.2.2.1,by rw[<-sn.size];exact v.2.2.2,by rw[v.1,<-sn.size];exact v.2.1,b1.mono⟩
   · exact absurd hka k.e1
 · rw[if_neg e1]at hal ⊢
   by_cases e2:(tk T J.i).s.toList=R.kChoose
   · have hd':=hdead _ (by decide) e2
     rw[if_pos e2]at hal ⊢
     rw[comp_cho (by rw[<-h.i];exact e1) (by rw[<-h.i];exact e2)]
     dsimp only at hal ⊢
     have kk:=K.step_keeps T τ
     obtain⟨ks,a1,a2⟩:=args_node hE hr hn 3 _ _ [] false ht hpt (hti.2.2.2 hi) (by have:=hti.1;omega) (by rw[kk.depth];exact d0) (by rw[kk.depth];exact hd'.1) (by rw[kk.depth];exact hd'.2) hal
     obtain⟨x,r,rfl,b1,y,r,rfl,b2,z,r,rfl,b3,b4⟩:=a2
     have hr0:r=[]:=b4
     subst hr0
     unfold K.choX
     dsimp only
     unfold NE
     exact⟨_,x,y,z,at_end _,bytes_of e2,a1,b1.mono,b2.mono,b3.mono⟩
   · rw[if_neg e2]at hal ⊢
     by_cases e3:R.sign (tk T J.i).s.toList=true
     · obtain⟨c,hc,ho,hb⟩:=sign_op e3
       have hd':=hdead _ (by rw[hc];simp[ByteArray.toList_eq]) rfl
       rw[if_pos e3]at hal ⊢
       rw[comp_op (by rw[<-h.i];exact e1) (by rw[<-h.i];exact e2) (by rw[<-h.i];exact e3)]
       dsimp only at hal ⊢
       have kk:=K.step_keeps T τ
       obtain⟨ks,a1,a2⟩:=args_node hE hr hn 2 _ _ [] false ht hpt (hti.2.2.2 hi) (by have:=hti.1;omega) (by rw[kk.depth];exact d0) (by rw[kk.depth];exact hd'.1) (by rw[kk.depth];exact hd'.2) hal
       obtain⟨x,r,rfl,b1,y,r,rfl,b2,b4⟩:=a2
       have hr0:r=[]:=b4
       subst hr0
       unfold K.opX
       dsimp only
       rw[take_yes (f:=K.isOpS) (show K.isOpS (tk T τ.i).s=true by rw[<-h.i];exact e3),<-h.i,hb]
       unfold NE
       exact⟨_,x,y,at_end _,hc,ho,a1,b1.mono,b2.mono⟩
     · rw[if_neg e3]at hal
       exfalso
       have:=R.args_err _ _ _ _ hal
       exact absurd this (R.fail_no (by decide))
theorem expr_node{s:ByteArray}{N:Nat}{T:List Tok}(hS:Scans s T)(hE:R.Ended T)(f:Nat):∀m,RecN N T m f:=by
 induction f with
 |zero=>intro m J τ _ _ _ _ d0 d1 df;omega
 |succ f ih=>
  intro m J τ h hpl hi hm d0 d1 df ha
  obtain⟨m,rfl⟩:∃k,m=k+1:=⟨m-1,by omega⟩
  rw[R.expr,if_pos h.e1]at ha ⊢
  rw[K.expr]
  unfold K.exB
  rw[<-h.i]
  by_cases e:(tk T J.i).s.toList=[40]
  · rw[if_pos e]at ha ⊢
    rw[if_pos (c:=((tk T J.i).s.toList==[40])=true) (by rw[e];rfl)]
    have oc:=R.opens_core T J
    have ti:=R.take_i T J
    have hil:J.i+1<T.length:=R.ended_lt hE hi (R.ne_of_list e (by decide))
    rcases opens_eqv T h with o |o
    · rw[if_pos o.e1]at ha ⊢
      have hp1:Pls N (R.opens T J).seen (K.opened T τ).names:=by
       rw[seen_core oc.1,show(K.opened T τ).names=τ.names from(K.op2_keeps T τ).names];exact hpl
      have hin:=inner_node hS hE (expr_eqv hS hE f m) (ih m) o hp1 (by rw[oc.2.2.1];exact ti.2.2.2 hi) (by rw[oc.2.2.1,ti.2.2.1 hil];omega) (by rw[K.opened_depth];omega) (by
       by_cases e10:τ.depth=10
       · exact Or.inr (K.opened_deep e10)
       · exact Or.inl (by rw[K.opened_depth];omega)) (tk T J.i).p ha
      exact⟨_,last_inner _ _ _ _,hin⟩
    · rw[if_neg o.e1]at ha
      exact absurd ha o.e1
  · rw[if_neg e]at ha ⊢
    rw[if_neg (c:=((tk T J.i).s.toList==[40])=true) (by simpa using e)]
    by_cases en:(R.number (tk T J.i).s.data.toList).2=true
    · rw[if_pos en]at ha ⊢
      rw[if_pos (c:=K.isNum (tk T J.i).s=true) (by rw[num_same];exact en)]
      refine⟨(R.take T J).nodes.length,by unfold R.lastN R.addNode;simp,?_⟩
      unfold NE
      exact⟨_,at_end _,rfl,(num_val _ en).symm⟩
    · rw[if_neg en]at ha ⊢
      rw[if_neg (c:=K.isNum (tk T J.i).s=true) (by rw[num_same];exact en)]
      have hka:(R.known T false false J).err=0:=ha
      obtain⟨pl,sn,fi⟩:=known_pl T fits_read h hpl hka
      refine⟨(R.known T false false J).nodes.length,by unfold R.lastN R.addNode;simp,?_⟩
      unfold NE
      refine⟨_,at_end _,rfl,pl.p0,?_⟩
      have hk:(K.knownN T τ).kind=0∨(K.knownN T τ).kind=2:=by
       have:=fi
       unfold K.canRead at this
       simpa using this
      have hkk:=sn.kind
      rcases hk with hk |hk
      · right
        have v:=pl.v (by omega)
        exact⟨by rw[hkk,hk];decide,v.1,(show(R.knownT T false false J).pos<(N:Int) by omega)⟩
      · left
        have c:=pl.c hk
        exact⟨by rw[hkk,hk];rfl,c.1,c.2⟩
def WN(N:Nat)(wd:ByteArray)(r:R.DR)(d:Do):Prop:=ND N (r.s.nodes++[⟨wd,0,r.t,r.L,r.two,false⟩]) d r.s.nodes.length
theorem ex_node{s:ByteArray}{N:Nat}{T:List Tok}(hS:Scans s T)(hE:R.Ended T){J:PS}{τ:S}(h:Sm J τ)(hp:Pls N J.seen τ.names)(hi:J.i<T.length)(d0:0<=τ.depth)(d1:τ.depth<=10)(ha:(R.ex T J).1.err=0):
 ∃k:Nat,(R.ex T J).2=(k:Int)/\NE N (R.ex T J).1.nodes (K.expr T 11 τ).2 k:=
 expr_node hS hE 11 T.length J τ h hp hi (by omega) d0 d1 (by omega) ha
theorem ex_alive{T:List Tok}{J:PS}(h:(R.ex T J).1.err=0):J.err=0:=by
 by_cases e:J.err=0
 · exact e
 · rw[R.ex_dead T e]at h;exact h
theorem set_node{s:ByteArray}{N:Nat}{T:List Tok}(hS:Scans s T)(hE:R.Ended T){J:PS}{τ:S}(h:Sm J τ)(hp:Pls N J.seen τ.names)(hi:J.i<T.length)(d0:0<=τ.depth)(d1:τ.depth<=10){p:Int}{wd:ByteArray}(hw:wd.toList=R.kSet)(ha:(R.doSet T p (R.take T J)).s.err=0):WN N wd (R.doSet T p (R.take T J)) (K.setX T p τ).2:=by
 have ht:=take_sm T h
 have hti:=R.take_i T J
 have hpt:Pls N (R.take T J).seen (K.step T τ).names:=by rw[seen_core (R.take_core T J).1,(K.step_keeps T τ).names];exact hp
 have kc:=R.known_core T false true (R.take T J)
 have kk:=(K.step_keeps T τ).trans (K.known_keeps T K.canSet (K.step T τ))
 unfold R.doSet at ha
 dsimp only at ha
 rw[R.leaks_err]at ha
 have hka:=ex_alive ha
 obtain⟨pl,sn,fi⟩:=known_pl T fits_set ht hpt hka
 rcases known_eqv T fits_set ht with⟨k1,_⟩|k
 · have hp1:Pls N (R.known T false true (R.take T J)).seen (K.known T K.canSet (K.step T τ)).names:=by
    rw[seen_core kc.1,(K.known_keeps T K.canSet (K.step T τ)).names];exact hpt
   obtain⟨x,e1,e2⟩:=ex_node hS hE k1 hp1 (kc.2.2.2.2 (hti.2.2.2 hi)) (by rw[kk.depth];exact d0) (by rw[kk.depth];exact d1) ha
   have hk0:(K.knownN T (K.step T τ)).kind=0:=by
    have:=fi
    unfold K.canSet at this
    simpa using this
   have v:=pl.v (by omega)
   have p0:=pl.p0
   unfold WN R.doSet K.setX
   dsimp only
   rw[(R.leaks_core _ _ _).2.1]
   unfold ND
   refine⟨_,x,at_end _,bytes_of hw,by rw[e1],v.1.symm,by omega,by omega,e2.mono⟩
 · exact absurd hka k.e1
theorem put_node{s:ByteArray}{N:Nat}{T:List Tok}(hS:Scans s T)(hE:R.Ended T){J:PS}{τ:S}(h:Sm J τ)(hp:Pls N J.seen τ.names)(hi:J.i<T.length)(d0:0<=τ.depth)(d1:τ.depth<=10){p:Int}{wd:ByteArray}(hw:wd.toList=R.kPut)(ha:(R.doPut T p (R.take T J)).s.err=0):WN N wd (R.doPut T p (R.take T J)) (K.putX T p τ).2:=by
 have ht:=take_sm T h
 have hti:=R.take_i T J
 have hpt:Pls N (R.take T J).seen (K.step T τ).names:=by rw[seen_core (R.take_core T J).1,(K.step_keeps T τ).names];exact hp
 have kc:=R.known_core T true false (R.take T J)
 have kk:=(K.step_keeps T τ).trans (K.known_keeps T K.hasWords (K.step T τ))
 unfold R.doPut at ha
 dsimp only at ha
 rw[R.leaks_err]at ha
 have ha1:=ex_alive ha
 rw[R.leaks_err]at ha1
 have hka:=ex_alive ha1
 obtain⟨pl,sn,fi⟩:=known_pl T fits_words ht hpt hka
 rcases known_eqv T fits_words ht with⟨k1,_⟩|k
 · have hp1:Pls N (R.known T true false (R.take T J)).seen (K.known T K.hasWords (K.step T τ)).names:=by
    rw[seen_core kc.1,(K.known_keeps T K.hasWords (K.step T τ)).names];exact hpt
   have hi1:=kc.2.2.2.2 (hti.2.2.2 hi)
   have ok1:=R.ex_ok hE hi1
   have xk:=K.expr_keeps T 11 (K.known T K.hasWords (K.step T τ))
   obtain⟨x,e1,e2⟩:=ex_node hS hE k1 hp1 hi1 (by rw[kk.depth];exact d0) (by rw[kk.depth];exact d1) ha1
   rcases ex_eqv hS hE k1 hi1 (by rw[kk.depth];exact d0) (by rw[kk.depth];exact d1)with a |a
   · have lc:=R.leaks_core p (R.secAt (R.ex T (R.known T true false (R.take T J))).1 (R.ex T (R.known T true false (R.take T J))).2) (R.ex T (R.known T true false (R.take T J))).1
     have sm2:=sm_leaks a.sm p (R.secAt (R.ex T (R.known T true false (R.take T J))).1 (R.ex T (R.known T true false (R.take T J))).2)
     have hp2:Pls N (R.leaks p (R.secAt (R.ex T (R.known T true false (R.take T J))).1 (R.ex T (R.known T true false (R.take T J))).2) (R.ex T (R.known T true false (R.take T J))).1).seen (K.expr T 11 (K.known T K.hasWords (K.step T τ))).1.names:=by
      rw[seen_core lc.1,seen_core ok1.core,xk.names];exact hp1
     have hi2:(R.leaks p (R.secAt (R.ex T (R.known T true false (R.take T J))).1 (R.ex T (R.known T true false (R.take T J))).2) (R.ex T (R.known T true false (R.take T J))).1).i<T.length:=by rw[lc.2.2.1];exact ok1.lt
     obtain⟨y,f1,f2⟩:=ex_node hS hE sm2 hp2 hi2 (by rw[xk.depth,kk.depth];exact d0) (by rw[xk.depth,kk.depth];exact d1) ha
     have ok2:=R.ex_ok hE hi2
     obtain⟨more,hmore⟩:=ok2.pre
     rw[lc.2.1]at hmore
     have hk1:(K.knownN T (K.step T τ)).kind=1:=by
      have:=fi
      unfold K.hasWords at this
      simpa using this
     have v:=pl.v (by omega)
     have p0:=pl.p0
     unfold WN R.doPut K.putX
     dsimp only
     rw[(R.leaks_core _ _ _).2.1]
     unfold ND
     refine⟨_,x,y,at_end _,bytes_of hw,by rw[f1,e1],v.1.symm,sn.size,by omega,by rw[<-sn.size];exact v.2.2.1,by rw[<-sn.size];exact v.2.2.2,by rw[v.1,<-sn.size];exact v.2.1,?_,f2.mono⟩
     rw[hmore]
     exact e2.mono.mono
   · exact absurd ha1 a.e1
 · exact absurd hka k.e1
def Wd(N:Nat)(τ:S):Prop:=τ.words=(N:Int)/\0<=τ.loops/\τ.loops<=2
theorem Wd.keeps{N:Nat}{τ τ':S}(h:Wd N τ)(k:K.Keeps τ τ'):Wd N τ':=by unfold Wd;rw[k.words,k.loops];exact h
def RecDN(N:Nat)(T:List Tok)(g f:Nat):Prop:=∀J τ hid,Sm J τ->Hs J hid->Pls N J.seen τ.names->Wd N τ->J.i<T.length->Lv g τ->Lv f τ->(R.does T g J).1.err=0→
 ∃ks:List Nat,(R.does T g J).2=ks.map (λk:Nat=>(k:Int))/\NDs N (R.does T g J).1.nodes (K.dos T f τ).2 ks
theorem shut_alive{T:List Tok}{A:PS}(h:(R.shut T A).err=0):A.err=0:=by
 by_cases e:A.err=0
 · exact e
 · unfold R.shut at h
   rw[if_neg e]at h
   exact h
theorem block_node{N:Nat}{T:List Tok}{g f:Nat}(hr:RecDN N T g f){J:PS}{τ:S}{hid:Bool}(h:Sm J τ)(hh:Hs J hid)(hp:Pls N J.seen τ.names)(hw:Wd N τ)(hi:J.i<T.length)(d0:0<=τ.depth)(d1:τ.depth<=10)(dg:10-τ.depth<=(g:Int))(df:10-τ.depth<=(f:Int))(ha:(R.block T (R.does T g) J).1.err=0):∃ks:List Nat,(R.block T (R.does T g) J).2=ks.map (λk:Nat=>(k:Int))/\NDs N (R.block T (R.does T g) J).1.nodes (K.brk T (K.dos T f) τ).2 ks:=by
 unfold R.block at ha ⊢
 unfold K.brk
 rw[if_pos h.e1]at ha ⊢
 dsimp only at ha ⊢
 have oc:=R.opens_core T J
 have ti:=R.take_i T J
 have ha1:=shut_alive ha
 have ko:=K.op2_keeps T τ
 rcases opens_eqv T h with o |o
 · obtain⟨ks,k1,k2⟩:=hr _ _ hid o (hh.next oc.1) (by rw[seen_core oc.1,show(K.opened T τ).names=τ.names from ko.names];exact hp) (by
    unfold Wd
    rw[show(K.opened T τ).words=τ.words from ko.words,show(K.opened T τ).loops=τ.loops from ko.loops];exact hw) (by rw[oc.2.2.1];exact ti.2.2.2 hi) (opens_lv o h d0 d1 dg) (opens_lv o h d0 d1 df) ha1
   refine⟨ks,k1,?_⟩
   rw[(R.shut_core T _).2.1]
   exact k2
 · exfalso
   rw[R.does_dead T g o.e1]at ha1
   exact o.e1 ha1
theorem block_alive{T:List Tok}{g:Nat}{J:PS}(h:(R.block T (R.does T g) J).1.err=0):J.err=0:=by
 by_cases e:J.err=0
 · exact e
 · rw[R.block_dead T _ e]at h;exact h
theorem if_node{s:ByteArray}{N:Nat}{T:List Tok}(hS:Scans s T)(hE:R.Ended T){g f:Nat}(hr:RecD T g f)(hn:RecDN N T g f){J:PS}{τ:S}{hid:Bool}(h:Sm J τ)(hh:Hs J hid)(hp:Pls N J.seen τ.names)(hw:Wd N τ)(hi:J.i<T.length)(d0:0<=τ.depth)(d1:τ.depth<=10)(dg:10-τ.depth<=(g:Int))(df:10-τ.depth<=(f:Int)){p:Int}{wd:ByteArray}(hwd:wd.toList=R.kIf)(ha:(R.doIf T (R.does T g) (R.take T J)).s.err=0):WN N wd (R.doIf T (R.does T g) (R.take T J)) (K.ifX T (K.dos T f) p τ).2:=by
 have ht:=take_sm T h
 have hti:=R.take_i T J
 have tc:=R.take_core T J
 have hpt:Pls N (R.take T J).seen (K.step T τ).names:=by rw[seen_core tc.1,(K.step_keeps T τ).names];exact hp
 have k0:=K.step_keeps T τ
 have ok:=R.ex_ok hE (hti.2.2.2 hi)
 have k1:=k0.trans (K.expr_keeps T 11 (K.step T τ))
 unfold WN
 unfold R.doIf at ha ⊢
 unfold K.ifX
 dsimp only at ha ⊢
 rcases ex_eqv hS hE ht (hti.2.2.2 hi) (by rw[k0.depth];exact d0) (by rw[k0.depth];exact d1)with a |a
 · rw[secAt_alive a.sm.e1,a.sec]at ha ⊢
   have hA:Hs (R.ex T (R.take T J)).1 hid:=(hh.next (ok.core.trans tc.1))
   generalize hm:(if K.sec (K.expr T 11 (K.step T τ)).2=true then(1:Int)else 0)=m at*
   have hB:Hs (R.hide1 m (R.ex T (R.take T J)).1) (hid||K.sec (K.expr T 11 (K.step T τ)).2):=by
    obtain⟨q0,q1⟩:=hA
    unfold Hs
    show 0<=(R.ex T (R.take T J)).1.hidden+m/\decide (0<(R.ex T (R.take T J)).1.hidden+m)=_
    rw[<-q1,<-hm]
    cases K.sec (K.expr T 11 (K.step T τ)).2 with
    |true=>
     rw[if_pos rfl,Bool.or_true]
     exact⟨by omega,decide_eq_true (by omega)⟩
    |false=>
     rw[if_neg (by decide),Bool.or_false,Int.add_zero]
     exact⟨q0,rfl⟩
   have ha2:(R.block T (R.does T g) (R.block T (R.does T g) (R.hide1 m (R.ex T (R.take T J)).1)).1).1.err=0:=ha
   have ha1:=block_alive ha2
   obtain⟨x,e1,e2⟩:=ex_node hS hE ht hpt (hti.2.2.2 hi) (by rw[k0.depth];exact d0) (by rw[k0.depth];exact d1) a.sm.e1
   have hp1:Pls N (R.hide1 m (R.ex T (R.take T J)).1).seen (K.expr T 11 (K.step T τ)).1.names:=by
    show Pls N (R.ex T (R.take T J)).1.seen _
    rw[seen_core ok.core,(K.expr_keeps T 11 (K.step T τ)).names];exact hpt
   have bo:=R.block_ok (λJ h=>R.does_ok hE g h) (J:=R.hide1 m (R.ex T (R.take T J)).1) ok.lt
   have kb:=K.brk_keeps (T:=T) (λJ=>K.dos_keeps T f J) (K.expr T 11 (K.step T τ)).1
   have k2:=k1.trans kb
   obtain⟨l1,b1,b2⟩:=block_node hn (sm_hide a.sm m) hB hp1 (hw.keeps k1) ok.lt (by rw[k1.depth];exact d0) (by rw[k1.depth];exact d1) (by rw[k1.depth];exact dg) (by rw[k1.depth];exact df) ha1
   rcases block_eqv hr (sm_hide a.sm m) hB ok.lt (by rw[k1.depth];exact d0) (by rw[k1.depth];exact d1) (by rw[k1.depth];exact dg) (by rw[k1.depth];exact df)with⟨c1,_,_⟩|c
   · have hp2:Pls N (R.block T (R.does T g) (R.hide1 m (R.ex T (R.take T J)).1)).1.seen (K.brk T (K.dos T f) (K.expr T 11 (K.step T τ)).1).1.names:=by
      rw[seen_core bo.core,kb.names];exact hp1
     obtain⟨l2,f1,f2⟩:=block_node hn c1 (hB.next bo.core) hp2 (hw.keeps k2) bo.lt (by rw[k2.depth];exact d0) (by rw[k2.depth];exact d1) (by rw[k2.depth];exact dg) (by rw[k2.depth];exact df) ha2
     have bo2:=R.block_ok (λJ h=>R.does_ok hE g h) (J:=(R.block T (R.does T g) (R.hide1 m (R.ex T (R.take T J)).1)).1) bo.lt
     obtain⟨m1,hm1⟩:=bo.pre
     obtain⟨m2,hm2⟩:=bo2.pre
     have hm1':(R.block T (R.does T g) (R.hide1 m (R.ex T (R.take T J)).1)).1.nodes=(R.ex T (R.take T J)).1.nodes++m1:=hm1
     unfold ND
     show ∃n,∃x:Nat,∃l1 l2:List Nat,((R.block T (R.does T g) (R.block T (R.does T g) (R.hide1 m (R.ex T (R.take T J)).1)).1).1.nodes++_)[(R.block T (R.does T g) (R.block T (R.does T g) (R.hide1 m (R.ex T (R.take T J)).1)).1).1.nodes.length]?=some n/\_
     refine⟨_,x,l1,l2,at_end _,bytes_of hwd,?_,f1,?_,?_,f2.mono⟩
     · show [(R.ex T (R.take T J)).2]++_=_
       rw[e1,b1]
       rfl
     · show NE N ((R.block T (R.does T g) (R.block T (R.does T g) (R.hide1 m (R.ex T (R.take T J)).1)).1).1.nodes++_) _ _
       rw[hm2,hm1']
       exact e2.mono.mono.mono
     · show NDs N ((R.block T (R.does T g) (R.block T (R.does T g) (R.hide1 m (R.ex T (R.take T J)).1)).1).1.nodes++_) _ _
       rw[hm2]
       exact b2.mono.mono
   · exact absurd ha1 c.e1
 · exfalso
   generalize(if R.secAt (R.ex T (R.take T J)).1 (R.ex T (R.take T J)).2=true then(1:Int)else 0)=m at ha
   have ha2:(R.block T (R.does T g) (R.block T (R.does T g) (R.hide1 m (R.ex T (R.take T J)).1)).1).1.err=0:=ha
   have ha3:(R.hide1 m (R.ex T (R.take T J)).1).err=0:=block_alive (block_alive ha2)
   exact a.e1 ha3
theorem does_alive{T:List Tok}{g:Nat}{J:PS}(h:(R.does T g J).1.err=0):J.err=0:=by
 by_cases e:J.err=0
 · exact e
 · rw[R.does_dead T g e]at h;exact h
theorem fresh_alive{T:List Tok}{J:PS}(h:(R.fresh T J).err=0):J.err=0:=by
 by_cases e:J.err=0
 · exact e
 · unfold R.fresh at h;rw[if_neg e]at h;exact h
theorem for_node{s:ByteArray}{N:Nat}{T:List Tok}(hS:Scans s T)(hE:R.Ended T){g f:Nat}(hn:RecDN N T g f){J:PS}{τ:S}{hid:Bool}(h:Sm J τ)(hh:Hs J hid)(hp:Pls N J.seen τ.names)(hw:Wd N τ)(hi:J.i<T.length)(d0:0<=τ.depth)(d1:τ.depth<=10)(dg:11-τ.depth<=(g:Int))(df:11-τ.depth<=(f:Int)){p wp:Int}{wd:ByteArray}(hwd:wd.toList=R.kFor)(ha:(R.doFor T (R.does T g) p wp (R.take T J)).s.err=0):WN N wd (R.doFor T (R.does T g) p wp (R.take T J)) (K.forX T (K.dos T f) p τ).2:=by
 have ht:=take_sm T h
 have hti:=R.take_i T J
 have tc:=R.take_core T J
 unfold WN
 unfold R.doFor at ha ⊢
 unfold K.forX
 dsimp only at ha ⊢
 have had:(R.does T g (R.push _ _)).1.err=0:=ha
 by_cases hl:J.loops=2
 · exfalso
   rw[core_loops tc.1,if_pos hl]at had
   have h1:=does_alive had
   have h2:(R.leaks p _ _).err=0:=h1
   rw[R.leaks_err]at h2
   exact R.fail_err (by decide) (fresh_alive (ex_alive h2))
 · rw[core_loops tc.1,if_neg hl]at had ⊢
   have e0:K.loop0 T τ=τ:=by unfold K.loop0;rw[if_neg (by rw[<-h.loops];exact hl)]
   have e1:K.loop1 T τ=K.step T τ:=by unfold K.loop1;rw[e0]
   have hc:(K.counter T τ)=⟨(tk T (K.step T τ).i).s,2,false,0,τ.words+τ.loops⟩:=by unfold K.counter;rw[e1]
   have h1:=does_alive had
   have h2:(R.leaks p _ _).err=0:=h1
   rw[R.leaks_err]at h2
   have h3:=ex_alive h2
   rw[e1]
   have fc:=R.fresh_core T (R.take T J)
   have k0:=K.step_keeps T τ
   have k1:=k0.trans (K.newName_keeps T (K.step T τ))
   rcases fresh_eqv T ht with a0 |a0
   · have hi1:=fc.2.2.2.2 (hti.2.2.2 hi)
     have ok:=R.expr_ok hE T.length (R.fresh T (R.take T J)) hi1
     have k2:=k1.trans (K.expr_keeps T 11 (K.newName T (K.step T τ)))
     have hp1:Pls N (R.fresh T (R.take T J)).seen (K.newName T (K.step T τ)).names:=by
      rw[seen_core fc.1,seen_core tc.1,k1.names];exact hp
     obtain⟨x,x1,x2⟩:=ex_node hS hE a0 hp1 hi1 (by rw[k1.depth];exact d0) (by rw[k1.depth];exact d1) h2
     rcases ex_eqv hS hE a0 hi1 (by rw[k1.depth];exact d0) (by rw[k1.depth];exact d1)with a |a
     · rw[secAt_alive a.sm.e1,a.sec]at had ⊢
       have a1:=sm_leaks a.sm p (K.sec (K.expr T 11 (K.newName T (K.step T τ))).2)
       have lc:=R.leaks_core p (K.sec (K.expr T 11 (K.newName T (K.step T τ))).2) (R.ex T (R.fresh T (R.take T J))).1
       have hlt:(R.leaks p (K.sec (K.expr T 11 (K.newName T (K.step T τ))).2) (R.ex T (R.fresh T (R.take T J))).1).i<T.length:=by rw[lc.2.2.1];exact ok.lt
       have hH:Hs (R.leaks p (K.sec (K.expr T 11 (K.newName T (K.step T τ))).2) (R.ex T (R.fresh T (R.take T J))).1) hid:=hh.next ((lc.1.trans (ok.core.trans fc.1)).trans tc.1)
       have hsn:(R.leaks p (K.sec (K.expr T 11 (K.newName T (K.step T τ))).2) (R.ex T (R.fresh T (R.take T J))).1).seen=J.seen:=core_seen ((lc.1.trans (ok.core.trans fc.1)).trans tc.1)
       have hnd:(R.leaks p (K.sec (K.expr T 11 (K.newName T (K.step T τ))).2) (R.ex T (R.fresh T (R.take T J))).1).nodes=(R.ex T (R.fresh T (R.take T J))).1.nodes:=lc.2.1
       generalize R.leaks p (K.sec (K.expr T 11 (K.newName T (K.step T τ))).2) (R.ex T (R.fresh T (R.take T J))).1=J3 at*
       have hN:SameN ⟨R.freshS T (R.take T J),3,false,J.loops,0⟩ (K.counter T τ):=by
        rw[hc]
        refine⟨?_,rfl,(by decide:(0:Int)<=2),(by decide:(2:Int)<=2),rfl,rfl⟩
        show R.freshS T (R.take T J)=(tk T (K.step T τ).i).s
        unfold R.freshS
        rw[if_pos ht.e1,ht.i]
       obtain⟨w1,w2,w3⟩:=hw
       have hlo:=h.loops
       have hl2:0<=J.loops/\J.loops<2:=by omega
       have hpc:(K.counter T τ).place=N+J.loops:=by rw[hc,hlo,<-w1]
       have hPl:SamePl N ⟨R.freshS T (R.take T J),3,false,J.loops,0⟩ (K.counter T τ):=
        ⟨hl2.1,λhk=>by rw[hc]at hk;exact absurd (show(2:Int)<=1 from hk) (by decide),λ_=>⟨hpc,hl2.2⟩⟩
       generalize hE':K.expr T 11 (K.newName T (K.step T τ))=E at*
       generalize K.counter T τ=n at*
       generalize ht':(⟨R.freshS T (R.take T J),3,false,J.loops,0⟩:Thing)=t at*
       have htp:t.pos=J.loops:=by rw[<-ht']
       have hP:Sm (R.push t J3) (K.seeing n E.1):=⟨a1.e1,a1.e2,a1.i,a1.nest,by show J3.loops+1=E.1.loops+1;rw[a1.loops],a1.names.snoc hN⟩
       have hd:(K.seeing n E.1).depth=τ.depth:=k2.depth
       have hPs:Pls N (R.push t J3).seen (K.seeing n E.1).names:=by
        show Pls N (J3.seen++[t]) (E.1.names++[n])
        rw[hsn,k2.names]
        exact hp.snoc hPl
       have hWd:Wd N (K.seeing n E.1):=by
        refine⟨?_,?_,?_⟩
        · show E.1.words=_
          rw[k2.words];exact w1
        · show 0<=E.1.loops+1
          rw[k2.loops];omega
        · show E.1.loops+1<=2
          rw[k2.loops];omega
       obtain⟨l1,r1,r2⟩:=hn (R.push t J3) (K.seeing n E.1) hid hP hH hPs hWd hlt ⟨by rw[hd];exact d0,by rw[hd];exact d1,by rw[hd];exact dg⟩ ⟨by rw[hd];exact d0,by rw[hd];exact d1,by rw[hd];exact df⟩ had
       have dk:=R.does_ok hE g (J:=R.push t J3) hlt
       obtain⟨m1,hm1⟩:=dk.pre
       have hm1':(R.does T g (R.push t J3)).1.nodes=(R.ex T (R.fresh T (R.take T J))).1.nodes++m1:=by rw[<-hnd];exact hm1
       unfold K.body
       unfold ND
       show ∃n,∃x:Nat,∃l1:List Nat,((R.does T g (R.push t J3)).1.nodes++_)[(R.does T g (R.push t J3)).1.nodes.length]?=some n/\_
       refine⟨_,x,l1,at_end _,bytes_of hwd,?_,?_,?_,?_,?_,r2.mono⟩
       · show [(R.ex T (R.fresh T (R.take T J))).2]++_=_
         rw[x1,r1]
         rfl
       · show 0<=t.pos
         rw[htp];exact hl2.1
       · show t.pos<2
         rw[htp];exact hl2.2
       · show _=(N:Int)+t.pos
         rw[htp];exact hpc
       · show NE N ((R.does T g (R.push t J3)).1.nodes++_) _ _
         rw[hm1']
         exact x2.mono.mono
     · exact absurd h2 a.e1
   · exact absurd h3 a0.e1
theorem word_node{s:ByteArray}{N:Nat}{T:List Tok}(hS:Scans s T)(hE:R.Ended T){g f:Nat}(hr:RecD T g f)(hn:RecDN N T g f){J:PS}{τ:S}{hid:Bool}(h:Sm J τ)(hh:Hs J hid)(hp:Pls N J.seen τ.names)(hw:Wd N τ)(hi:J.i<T.length)(d0:0<=τ.depth)(d1:τ.depth<=10)(dg:11-τ.depth<=(g:Int))(df:11-τ.depth<=(f:Int)){p:Int}(ha:(R.doWord T (R.does T g) p (tk T J.i) (R.take T J)).s.err=0):WN N (tk T J.i).s (R.doWord T (R.does T g) p (tk T J.i) (R.take T J)) (K.doX T (K.dos T f) p τ).2:=by
 unfold R.doWord at ha ⊢
 unfold K.doX
 rw[<-h.i]
 by_cases e1:(tk T J.i).s.toList=R.kSet
 · rw[if_pos e1]at ha ⊢
   rw[if_pos (c:=K.isW [115,101,116] (tk T J.i)=true) (isW_eq.mpr e1)]
   exact set_node hS hE h hp hi d0 d1 e1 ha
 rw[if_neg e1]at ha ⊢
 rw[if_neg (c:=K.isW [115,101,116] (tk T J.i)=true) (λc=>e1 (isW_eq.mp c))]
 by_cases e2:(tk T J.i).s.toList=R.kPut
 · rw[if_pos e2]at ha ⊢
   rw[if_pos (c:=K.isW [112,117,116] (tk T J.i)=true) (isW_eq.mpr e2)]
   exact put_node hS hE h hp hi d0 d1 e2 ha
 rw[if_neg e2]at ha ⊢
 rw[if_neg (c:=K.isW [112,117,116] (tk T J.i)=true) (λc=>e2 (isW_eq.mp c))]
 by_cases e3:(tk T J.i).s.toList=R.kIf
 · rw[if_pos e3]at ha ⊢
   rw[if_pos (c:=K.isW [105,102] (tk T J.i)=true) (isW_eq.mpr e3)]
   exact if_node hS hE hr hn h hh hp hw hi d0 d1 (by omega) (by omega) e3 ha
 rw[if_neg e3]at ha ⊢
 rw[if_neg (c:=K.isW [105,102] (tk T J.i)=true) (λc=>e3 (isW_eq.mp c))]
 by_cases e4:(tk T J.i).s.toList=R.kFor
 · rw[if_pos e4]at ha ⊢
   rw[if_pos (c:=K.isW [102,111,114] (tk T J.i)=true) (isW_eq.mpr e4)]
   exact for_node hS hE hn h hh hp hw hi d0 d1 dg df e4 ha
 rw[if_neg e4]at ha
 exact absurd ha (R.fail_err (by decide))
theorem do_node{s:ByteArray}{N:Nat}{T:List Tok}(hS:Scans s T)(hE:R.Ended T){g f:Nat}(hr:RecD T g f)(hn:RecDN N T g f){J:PS}{τ:S}{hid:Bool}(h:Sm J τ)(hh:Hs J hid)(hp:Pls N J.seen τ.names)(hw:Wd N τ)(hi:J.i<T.length)(dg:Lv (g+1) τ)(df:Lv (f+1) τ)(ha:(R.doF T (g+1) J).1.err=0):∃k:Nat,(R.doF T (g+1) J).2=(k:Int)/\ND N (R.doF T (g+1) J).1.nodes (K.brkDo T (K.doF T (f+1)) τ).2 k:=by
 change (R.doB T (R.does T g) J).1.err=0 at ha
 show ∃k:Nat,(R.doB T (R.does T g) J).2=(k:Int)/\ND N (R.doB T (R.does T g) J).1.nodes (K.doX T (K.dos T f) (tk T τ.i).p (K.opened T τ)).2 k
 unfold R.doB at ha ⊢
 rw[<-h.i]
 have oc:=R.opens_core T J
 have ti:=R.take_i T J
 have ko:=K.op2_keeps T τ
 obtain⟨d0,d1,dg⟩:=dg
 obtain⟨_,_,df⟩:=df
 rcases opens_eqv T h with o |o
 · rw[if_pos o.e1]at ha ⊢
   have lg:=opens_lv (f:=g+1) o h d0 d1 (by omega)
   have ed:=K.opened_depth T τ
   have ha1:=shut_alive (T:=T) (A:=(R.doWord T (R.does T g) (tk T J.i).p (tk T (R.opens T J).i) (R.take T (R.opens T J))).s) ha
   have w:=word_node hS hE hr hn o (hh.next oc.1) (by rw[seen_core oc.1,show(K.opened T τ).names=τ.names from ko.names];exact hp) (by
    unfold Wd
    rw[show(K.opened T τ).words=τ.words from ko.words,show(K.opened T τ).loops=τ.loops from ko.loops];exact hw) (by rw[oc.2.2.1];exact ti.2.2.2 hi) lg.1 lg.2.1 (by omega) (by omega) ha1
   unfold WN at w
   refine⟨(R.doWord T (R.does T g) (tk T J.i).p (tk T (R.opens T J).i) (R.take T (R.opens T J))).s.nodes.length,?_,?_⟩
   · unfold R.doIn R.lastN R.addNode
     dsimp only
     rw[(R.shut_core T _).2.1,List.length_append]
     simp
   · unfold R.doIn R.addNode
     dsimp only
     rw[(R.shut_core T _).2.1]
     exact w
 · rw[if_neg o.e1]at ha
   exact absurd ha o.e1
theorem NDs.snoc{N:Nat}{nodes:List Nd}{d:Do}{k:Nat}(hd:ND N nodes d k):∀{l:List Do} {ks:List Nat},NDs N nodes l ks->NDs N nodes (l++[d]) (ks++[k])
 |[],ks,h=>by
  unfold NDs at h
  subst h
  show NDs N nodes [d] [k]
  unfold NDs
  refine⟨k,[],rfl,hd,?_⟩
  unfold NDs
  rfl
 |e::l,ks,h=>by
  unfold NDs at h
  obtain⟨j,r,rfl,h1,h2⟩:=h
  show NDs N nodes (e::(l++[d])) (j::(r++[k]))
  unfold NDs
  exact⟨j,_,rfl,h1,NDs.snoc hd h2⟩
theorem dosL_node{s:ByteArray}{N:Nat}{T:List Tok}(hS:Scans s T)(hE:R.Ended T){g f:Nat}(hr:RecD T g f)(hn:RecDN N T g f){hid:Bool}(m:Nat):∀(J:PS) (τ:S) (L:List Nat) (l:List Do),Sm J τ->Hs J hid->Pls N J.seen τ.names->Wd N τ->J.i<T.length->Lv (g+1) τ->Lv (f+1) τ->NDs N J.nodes l L→
 (R.doesL T (R.doF T (g+1)) m J (L.map (λk:Nat=>(k:Int)))).1.err=0→
 ∃ks:List Nat,(R.doesL T (R.doF T (g+1)) m J (L.map (λk:Nat=>(k:Int)))).2=ks.map (λk:Nat=>(k:Int))/\NDs N (R.doesL T (R.doF T (g+1)) m J (L.map (λk:Nat=>(k:Int)))).1.nodes (K.dosL T (K.doF T (f+1)) m τ l).2 ks:=by
 induction m with
 |zero=>intro J τ L l h _ _ _ _ _ _ hl _;exact⟨L,rfl,hl⟩
 |succ m ih=>
  intro J τ L l h hh hp hw hi dg df hl ha
  rw[R.doesL]at ha ⊢
  rw[K.dosL,<-h.i]
  by_cases e:(tk T J.i).s.toList=[40]
  · rw[if_pos (c:=J.err=0/\(tk T J.i).s.toList=[40]) ⟨h.e1,e⟩]at ha ⊢
    rw[if_pos (c:=K.isW [40] (tk T J.i)=true) (isW_eq.mpr e)]
    have ok:=R.doF_ok hE (g+1) J hi
    have kk:K.Keeps τ (K.brkDo T (K.doF T (f+1)) τ).1:=K.closed_keeps (K.doX_keeps (λJ=>K.dos_keeps T f J) _ _)
    have ha1:(R.doF T (g+1) J).1.err=0:=by
     by_cases e:(R.doF T (g+1) J).1.err=0
     · exact e
     · rw[R.doesL_dead _ _ _ _ _ e]at ha;exact ha
    obtain⟨k,k1,k2⟩:=do_node hS hE hr hn h hh hp hw hi dg df ha1
    rcases do_eqv hS hE hr h hh hi dg df with⟨a1,_,_⟩|a
    · have eL:L.map (λk:Nat=>(k:Int))++[(R.doF T (g+1) J).2]=(L++[k]).map (λk:Nat=>(k:Int)):=by rw[k1,List.map_append];rfl
      rw[eL]at ha ⊢
      obtain⟨m1,hm1⟩:=ok.pre
      have hl1:NDs N (R.doF T (g+1) J).1.nodes l L:=by rw[hm1];exact hl.mono
      exact ih _ _ (L++[k]) _ a1 (hh.next ok.core) (by rw[seen_core ok.core,kk.names];exact hp) (hw.keeps kk) ok.lt (by unfold Lv;rw[kk.depth];exact dg) (by unfold Lv;rw[kk.depth];exact df) (NDs.snoc k2 hl1) ha
    · exact absurd ha1 a.e1
  · rw[if_neg (c:=J.err=0/\(tk T J.i).s.toList=[40]) (λc=>e c.2)]at ha ⊢
    rw[if_neg (c:=K.isW [40] (tk T J.i)=true) (λc=>e (isW_eq.mp c))]
    exact⟨L,rfl,hl⟩
theorem dos_node{s:ByteArray}{N:Nat}{T:List Tok}(hS:Scans s T)(hE:R.Ended T)(f:Nat):∀g,RecDN N T g f:=by
 induction f with
 |zero=>intro g J τ hid _ _ _ _ _ _ df;obtain⟨_,_,_⟩:=df;omega
 |succ f ih=>
  intro g J τ hid h hh hp hw hi dg df ha
  obtain⟨g,rfl⟩:∃k,g=k+1:=⟨g-1,by obtain⟨_,_,_⟩:=dg;omega⟩
  exact dosL_node hS hE (dos_eqv hS hE f g) (ih g) (hid:=hid) T.length J τ [] [] h hh hp hw hi dg df (by unfold NDs;rfl) ha
end Q
namespace R
def PlR:Int->List Thing->Prop
 |_,[]=>True
 |p,t::l=>t.pos=p/\PlR (p+t.size) l
def sumT:List Thing->Int
 |[]=>0
 |t::l=>t.size+sumT l
theorem PlR.snoc{t:Thing}:∀{l:List Thing} {p:Int},PlR p l->t.pos=p+sumT l->PlR p (l++[t])
 |[],p,_,h=>⟨by rw[h,sumT];omega,trivial⟩
 |u::l,p,h,e=>⟨h.1,PlR.snoc h.2 (by rw[e,sumT];omega)⟩
theorem sumT_snoc(t:Thing):∀l:List Thing,sumT (l++[t])=sumT l+t.size
 |[]=>by simp[sumT]
 |u::l=>by rw[List.cons_append,sumT,sumT,sumT_snoc t l];omega
structure RP(J:PS):Prop where
 pl:PlR 0 J.seen
 sz:J.size=sumT J.seen
theorem RP.core{J J':PS}(h:RP J)(c:R.core J'=R.core J):RP J':=by
 have hse:J'.seen=J.seen:=congrArg (λc=>c.1) c
 have hsz:J'.size=J.size:=congrArg (λc=>c.2.2.1) c
 exact⟨by rw[hse];exact h.pl,by rw[hse,hsz];exact h.sz⟩
theorem RP.added{J:PS}(h:RP J){t:Thing}(e:t.pos=J.size):RP (added t J):=by
 refine⟨?_,?_⟩
 · show PlR 0 (J.seen++[t])
   exact h.pl.snoc (by rw[e,h.sz];omega)
 · show J.size+t.size=sumT (J.seen++[t])
   rw[sumT_snoc,h.sz]
theorem decl_rp{T:List Tok}{J:PS}(h:RP J):RP (decl T J):=by
 have o1:=h.core (opens_core T J).1
 unfold decl
 split
 · exact o1.core (fail_core _ _ _).1
 · generalize opens T J=J1 at*
   unfold declIn
   dsimp only
   have s1:=take_same T J1
   have s2:=dHead_same T (tk T J1.i) (take T J1)
   generalize dHead T (tk T J1.i) (take T J1)=H at*
   have s3:=fresh_same T H.1
   have s4:=dSize_same T H.2.1 (fresh T H.1)
   obtain⟨J6,z,hz⟩:∃J6 z,dSize T H.2.1 (fresh T H.1)=(J6,z):=⟨_,_,rfl⟩
   rw[hz]at s4 ⊢
   have sm:=((s1.tr s2).tr s3).tr s4
   cases z with
   |none=>exact o1.core sm.core
   |some n=>
    have c6:=(shut_core T J6).1.trans sm.core
    exact(o1.core c6).added (t:=⟨_,_,_,_,n⟩) (show J1.size=(shut T J6).size from(congrArg (λc=>c.2.2.1) c6).symm)
theorem decls_rp(T:List Tok)(m:Nat):∀J:PS,RP J->RP (decls T m J):=by
 induction m with
 |zero=>intro J h;exact h
 |succ m ih=>
  intro J h
  rw[decls]
  split
  · exact ih _ (decl_rp h)
  · exact h
theorem start_rp:RP start:=⟨trivial,rfl⟩
end R
namespace K
def PlK:Int->List Nm->Prop
 |_,[]=>True
 |p,n::l=>n.place=IntKind.i64.wrap p/\n.kind<=1/\PlK (p+n.size) l
theorem PlK.snoc{n:Nm}(hk:n.kind<=1):∀{l:List Nm} {p:Int},PlK p l->n.place=IntKind.i64.wrap (p+sum l)->PlK p (l++[n])
 |[],p,_,h=>⟨by rw[h,sum,Int.add_zero],hk,trivial⟩
 |u::l,p,h,e=>⟨h.1,h.2.1,PlK.snoc hk h.2.2 (by rw[e,sum,Int.add_assoc])⟩
theorem dclN_pl(T:List Tok)(τ:S):(dclN T τ).place=τ.words/\(dclN T τ).kind<=1:=by
 have k1:=op2_keeps T τ
 have k2:(dec0 T (tk T τ.i).p (opened T τ)).words=(opened T τ).words:=by
  unfold dec0
  split
  · exact(fail_keeps ..).words
  · rfl
 have k3:(opened T τ).words=τ.words:=k1.words
 unfold dclN declN
 split
 · exact⟨k2.trans k3,(by decide:(1:Int)<=1)⟩
 · exact⟨k3,(by decide:(0:Int)<=1)⟩
theorem declsL_pl(T:List Tok)(m:Nat):∀τ,KW τ->PlK 0 τ.names->PlK 0 (declsL T m τ).names:=by
 induction m with
 |zero=>intro τ _ h;exact h
 |succ m ih=>
  intro τ hw h
  rw[declsL]
  split
  · have kd:=dcl_keeps T τ
    obtain⟨p1,p2⟩:=dclN_pl T τ
    refine ih _ ((hw.keeps kd).adds _) ?_
    show PlK 0 ((dcl T τ).names++[dclN T τ])
    rw[kd.names]
    exact h.snoc p2 (by rw[p1,hw,Int.zero_add])
  · exact h
end K
namespace Q
theorem pls_of{W:Int}(hW:W<=1000):∀{l:List Thing} {m:List Nm} {p:Int},Names l m->R.PlR p l->K.PlK p m->(∀t∈l,1<=t.size/\t.size<=6)->0<=p->p+R.sumT l<=W->Pls W l m
 |[],[],_,_,_,_,_,_,_=>trivial
 |t::l,n::m,p,h,hr,hk,hb,h0,hs=>by
  have ht:=hb t (List.mem_cons_self ..)
  have hs':p+(t.size+R.sumT l)<=W:=hs
  have hb':∀u∈l,1<=u.size/\u.size<=6:=λu hu=>hb u (List.mem_cons_of_mem _ hu)
  have hs0:∀(l:List Thing),(∀t∈l,1<=t.size/\t.size<=6)->0<=R.sumT l:=by
   intro l
   induction l with
   |nil=>intro _;exact Int.le_refl _
   |cons a l ih=>
    intro hb
    have:=ih λu hu=>hb u (List.mem_cons_of_mem _ hu)
    have:=hb a (List.mem_cons_self ..)
    rw[R.sumT];omega
  have hl0:=hs0 l hb'
  have ew:IntKind.i64.wrap p=p:=k64 _ (by omega)
  refine⟨⟨by rw[hr.1];exact h0,λ_=>⟨by rw[hk.1,hr.1,ew],by rw[hr.1];omega,ht.1,ht.2⟩,λe=>?_⟩,?_⟩
  · have:=hk.2.1;omega
  · refine pls_of hW h.2 hr.2 ?_ hb' (by omega) (by omega)
    rw[h.1.size]
    exact hk.2.2
 |[],_::_,_,h,_,_,_,_,_=>h.elim
 |_::_,[],_,h,_,_,_,_,_=>h.elim
end Q
end
end Go.Proofs.YtejbgcloblpbfaaGreatDoor
