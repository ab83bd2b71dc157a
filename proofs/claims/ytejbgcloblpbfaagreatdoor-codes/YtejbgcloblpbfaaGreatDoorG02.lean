import Derived.Test.YtejbgcloblpbfaaGreatDoorG01
import Derived.Test.YtejbgcloblpbfaaGreatDoorShelfC
set_option maxHeartbeats 400000
namespace Go.Proofs.YtejbgcloblpbfaaGreatDoor
section
namespace R
theorem doesL_dead(T:List Tok)(dof:PS->PS×Int)(m:Nat)(J:PS)(L:List Int)(h:J.err≠0):doesL T dof m J L=(J,L):=by
 cases m with
 |zero=>rfl
 |succ m=>rw[doesL,if_neg (λc=>h c.1)]
theorem doesL_ok{T:List Tok}{dof:PS->PS×Int}(hd:∀J,J.i<T.length->Ok T J (dof J).1)(m:Nat):∀(J:PS) (L:List Int),J.i<T.length->Ok T J (doesL T dof m J L).1:=by
 induction m with
 |zero=>intro J L h;exact Ok.refl h
 |succ m ih=>
  intro J L h
  rw[doesL]
  split
  · have h1:=hd J h
    exact h1.thenOk (ih _ _ h1.lt) (λe=>by rw[doesL_dead _ _ _ _ _ e])
  · exact Ok.refl h
theorem block_ok{T:List Tok}{does:PS->PS×List Int}(hd:∀J,J.i<T.length->Ok T J (does J).1){J:PS}(h:J.i<T.length):Ok T J (block T does J).1:=by
 unfold block
 split
 · have o1:=opens_core T J
   have t2:=take_i T J
   have hlt:(opens T J).i<T.length:=by rw[o1.2.2.1];exact t2.2.2.2 h
   have k:=hd (opens T J) hlt
   have s:=shut_core T (does (opens T J)).1
   have se:=@shut_err T (does (opens T J)).1
   dsimp only
   generalize(does (opens T J)).1=D at*
   generalize shut T D=S at*
   have e1:=congrArg List.length o1.2.1
   have e2:=congrArg List.length s.2.1
   have e3:=o1.2.2.1
   have e4:=o1.2.2.2
   have e5:=s.2.2.1
   have e6:=s.2.2.2.1
   have e7:=s.2.2.2.2 k.lt
   have k1:=k.n1
   have k2:=k.n2
   have k3:=k.p1
   have k4:=k.le
   have k5:=k.lt
   obtain⟨l,hl⟩:=k.pre
   exact⟨s.1.trans (k.core.trans o1.1),by omega,e7,⟨l,by rw[s.2.1,hl,o1.2.1]⟩,by omega,by omega,λe=>by have:=k.n3 (se e);omega,by omega,λe=>by have:=k.p2 (se e);omega⟩
 · exact Ok.refl h
theorem block_dead(T:List Tok)(does:PS->PS×List Int){J:PS}(h:J.err≠0):(block T does J).1=J:=by
 unfold block;rw[if_neg h]
theorem hide_ok{T:List Tok}{m:Int}{a b:PS}(h:Ok T (hide1 m a) b):Ok T a (hide1 (-m) b):=by
 obtain⟨h1,h2,h3,h4,h5,h6,h7,h8,h9⟩:=h
 refine⟨?_,h2,h3,h4,h5,h6,h7,h8,h9⟩
 simp only[core,hide1,Prod.mk.injEq]at h1 ⊢
 refine⟨h1.1,h1.2.1,h1.2.2.1,h1.2.2.2.1,h1.2.2.2.2.1,?_,h1.2.2.2.2.2.2⟩
 have:=h1.2.2.2.2.2.1
 omega
theorem push_ok{T:List Tok}{t:Thing}{a b:PS}(h:Ok T (push t a) b):Ok T a (pop b):=by
 obtain⟨h1,h2,h3,h4,h5,h6,h7,h8,h9⟩:=h
 refine⟨?_,h2,h3,h4,h5,h6,h7,h8,h9⟩
 simp only[core,push,pop,Prod.mk.injEq]at h1 ⊢
 refine⟨by rw[h1.1];simp,h1.2.1,h1.2.2.1,h1.2.2.2.1,?_,h1.2.2.2.2.2.1,h1.2.2.2.2.2.2⟩
 have:=h1.2.2.2.2.1
 omega
theorem pop_push(t:Thing)(J:PS):pop (push t J)=J:=by
 show({J with seen:=(J.seen++[t]).dropLast,loops:=J.loops+1-1}:PS)=J
 rw[List.dropLast_concat,show J.loops+1-1=J.loops from by omega]
theorem doWord_ok{T:List Tok}(hE:Ended T){does:PS->PS×List Int}(hd:∀J,J.i<T.length->Ok T J (does J).1)(hdd:∀J,J.err≠0->(does J).1=J)(p:Int)(w:Tok){J:PS}(h:J.i<T.length):Ok T J (doWord T does p w J).s:=by
 unfold doWord
 split
 · unfold doSet
   dsimp only
   have k:=known_same T false true J
   have a:=ex_ok hE (k.lt h)
   exact k.then (a.then (leaks_same T _ _ _) (λe=>by rwa[leaks_err]at e))
 · split
   · unfold doPut
     dsimp only
     have k:=known_same T true false J
     have a:=ex_ok hE (k.lt h)
     have l:=leaks_same T p (secAt (ex T (known T true false J)).1 (ex T (known T true false J)).2) (ex T (known T true false J)).1
     have al:=a.then l (λe=>by rwa[leaks_err]at e)
     have c:=ex_ok hE al.lt
     exact k.then ((al.thenOk c (λe=>ex_dead T e)).then (leaks_same T _ _ _) (λe=>by rwa[leaks_err]at e))
   · split
     · unfold doIf
       dsimp only
       have a:=ex_ok hE h
       generalize ex T J=A at*
       generalize(if secAt A.1 A.2=true then(1:Int)else 0)=m
       have o:=block_ok hd (J:=hide1 m A.1) a.lt
       have od:=@block_dead T does (hide1 m A.1)
       generalize block T does (hide1 m A.1)=O at*
       have t:=block_ok hd (J:=O.1) o.lt
       have td:=@block_dead T does O.1
       generalize block T does O.1=W at*
       by_cases eA:A.1.err=0
       · exact a.trans eA (hide_ok (o.thenOk t td))
       · have e1:O.1=hide1 m A.1:=od eA
         have e2:W.1=O.1:=td (by rw[e1];exact eA)
         have e3:hide1 (-m) W.1=A.1:=by
          rw[e2,e1]
          show({A.1 with hidden:=A.1.hidden+m+ -m}:PS)=A.1
          rw[show A.1.hidden+m+ -m=A.1.hidden from by omega]
         rw[e3];exact a
     · split
       · unfold doFor
         dsimp only
         have s1:Same T J (if J.loops=2 then fail 6 w.p J else J):=by
          split
          · exact fail_same T _ _ _
          · exact⟨rfl,rfl,rfl,Nat.le_refl _,id⟩
         generalize(if J.loops=2 then fail 6 w.p J else J)=J1 at*
         have s2:=fresh_same T J1
         have a:=ex_ok hE (s2.lt (s1.lt h))
         generalize ex T (fresh T J1)=A at*
         have l:=leaks_same T p (secAt A.1 A.2) A.1
         have al:=a.then l (λe=>by rwa[leaks_err]at e)
         generalize leaks p (secAt A.1 A.2) A.1=Z at*
         have d:=hd (push ⟨freshS T J1,3,false,J.loops,0⟩ Z) al.lt
         have pd:=push_ok d
         refine s1.then (s2.then ?_)
         by_cases eZ:Z.err=0
         · exact al.trans eZ pd
         · have e1:(does (push ⟨freshS T J1,3,false,J.loops,0⟩ Z)).1=push ⟨freshS T J1,3,false,J.loops,0⟩ Z:=hdd _ eZ
           have e2:pop (push ⟨freshS T J1,3,false,J.loops,0⟩ Z)=Z:=pop_push _ _
           rw[e1,e2];exact al
       · exact(fail_same T _ _ _).ok h
theorem doIn_ok{T:List Tok}(hE:Ended T){does:PS->PS×List Int}(hd:∀J,J.i<T.length->Ok T J (does J).1)(hdd:∀J,J.err≠0->(does J).1=J)(p:Int){J:PS}(h:J.i<T.length):
 core (doIn T does p J)=core J/\J.i<=(doIn T does p J).i/\(doIn T does p J).i<T.length/\(∃l,(doIn T does p J).nodes=J.nodes++l/\l≠[])/\J.nest-1<=(doIn T does p J).nest/\(doIn T does p J).nest<=J.nest∧
 ((doIn T does p J).err=0->(doIn T does p J).nest=J.nest-1)/\(doIn T does p J).nodes.length+(T.length-(doIn T does p J).i)<=J.nodes.length+(T.length-J.i)+1:=by
 have t1:=take_core T J
 have t2:=take_i T J
 have hlt:=t2.2.2.2 h
 have k:=doWord_ok hE hd hdd p (tk T J.i) hlt
 have kw:(doWord T does p (tk T J.i) (take T J)).s.nodes.length+(T.length-(doWord T does p (tk T J.i) (take T J)).s.i)<=J.nodes.length+(T.length-J.i):=by
  have k1:=k.p1
  have k2:=k.le
  have k3:=k.lt
  have e1:=congrArg List.length t1.2.1
  by_cases hw:(tk T J.i).s=⟨#[]⟩
  · have e:doWord T does p (tk T J.i) (take T J)=⟨fail 2 (tk T J.i).p (take T J),noThing,[],[]⟩:=by
     have hl:(tk T J.i).s.toList=[]:=by rw[hw];decide +kernel
     unfold doWord
     rw[hl,if_neg (by decide),if_neg (by decide),if_neg (by decide),if_neg (by decide)]
    rw[e]
    have f:=fail_core 2 (tk T J.i).p (take T J)
    have f1:=congrArg List.length f.2.1
    have f2:=f.2.2.1
    dsimp only
    have:=t2.1
    omega
  · have:=t2.2.2.1 (ended_lt hE h hw)
    omega
 unfold doIn
 dsimp only
 generalize doWord T does p (tk T J.i) (take T J)=D at*
 have s:=shut_core T D.s
 have se:=@shut_err T D.s
 generalize shut T D.s=S at*
 generalize(Nd.mk (tk T J.i).s 0 D.t D.L D.two false)=N at*
 obtain⟨l,hl⟩:=k.pre
 have en:(addNode N S).nodes=J.nodes++(l++[N]):=by
  show S.nodes++[N]=_
  rw[s.2.1,hl,t1.2.1,List.append_assoc]
 have e2:=congrArg List.length s.2.1
 have e3:=t1.2.2.2
 have e5:=s.2.2.1
 have e6:=s.2.2.2.1
 have e7:=s.2.2.2.2 k.lt
 have k1:=k.n1
 have k2:=k.n2
 have k4:=k.le
 have k5:=k.lt
 have k6:=t2.1
 refine⟨s.1.trans (k.core.trans t1.1),?_,e7,⟨l++[N],en,by simp⟩,?_,?_,λe=>?_,?_⟩
 · show J.i<=S.i;omega
 · show J.nest-1<=S.nest;omega
 · show S.nest<=J.nest;omega
 · show S.nest=J.nest-1;have:=k.n3 (se e);omega
 · show(S.nodes++[N]).length+(T.length-S.i)<=_
   simp only[List.length_append,List.length_cons,List.length_nil]
   omega
theorem doB_ok{T:List Tok}(hE:Ended T){does:PS->PS×List Int}(hd:∀J,J.i<T.length->Ok T J (does J).1)(hdd:∀J,J.err≠0->(does J).1=J){J:PS}(h:J.i<T.length):Ok T J (doB T does J).1:=by
 have o1:=opens_core T J
 have t2:=take_i T J
 have hlt:(opens T J).i<T.length:=by rw[o1.2.2.1];exact t2.2.2.2 h
 have e3:=o1.2.2.1
 have e4:=o1.2.2.2
 have e1:=congrArg List.length o1.2.1
 unfold doB
 split
 · rename_i eo
   have k:=doIn_ok hE hd hdd (tk T J.i).p hlt
   have ht:=t2.2.2.1 (ended_lt hE h (ne_of_list (opens_ok eo).1 (by decide)))
   dsimp only
   generalize doIn T does (tk T J.i).p (opens T J)=Z at*
   obtain⟨k1,k2,k3,⟨l,kl,_⟩,k5,k6,k7,k8⟩:=k
   exact⟨k1.trans o1.1,by omega,k3,⟨l,by rw[kl,o1.2.1]⟩,by omega,by omega,λe=>by have:=k7 e;omega,by omega,λ_=>by omega⟩
 · rename_i eo
   exact⟨o1.1,by dsimp only;omega,hlt,⟨[],by rw[o1.2.1];simp⟩,by dsimp only;omega,by dsimp only;omega,λe=>absurd e eo,by dsimp only;omega,λe=>absurd e eo⟩
theorem doF_ok{T:List Tok}(hE:Ended T)(f:Nat):∀J:PS,J.i<T.length->Ok T J (doF T f J).1:=by
 induction f with
 |zero=>intro J h;exact Ok.refl h
 |succ f ih=>
  intro J h
  rw[doF]
  exact doB_ok hE (λJ h=>doesL_ok ih T.length J [] h) (λJ e=>by rw[doesL_dead _ _ _ _ _ e]) h
theorem does_ok{T:List Tok}(hE:Ended T)(f:Nat){J:PS}(h:J.i<T.length):Ok T J (does T f J).1:=doesL_ok (doF_ok hE f) T.length J [] h
theorem does_dead(T:List Tok)(f:Nat){J:PS}(h:J.err≠0):does T f J=(J,[]):=doesL_dead _ _ _ _ _ h
def byteAt(s:ByteArray)(i:Nat):UInt8:=s.data.toList.getD i 0
def isStop(s:ByteArray)(i:Nat):Bool:=i==s.size||byteAt s i==32||byteAt s i==10||byteAt s i==40||byteAt s i==41
def isBr(s:ByteArray)(i:Nat):Bool:=decide (i<s.size)&&(byteAt s i==40||byteAt s i==41)
structure CS where
 f:Int
 out:List Tok
def cut1(s:ByteArray)(i:Nat)(c:CS):CS:=if isStop s i=true/\0<=c.f then⟨-1,c.out++[⟨s.extract c.f.toNat i,c.f⟩]⟩else c
def cut2(s:ByteArray)(i:Nat)(c:CS):CS:=if isStop s i=false/\c.f<0 then⟨i,c.out⟩else c
def cut3(s:ByteArray)(i:Nat)(c:CS):CS:=if isBr s i=true then⟨c.f,c.out++[⟨s.extract i (i+1),i⟩]⟩else c
def cutTo(s:ByteArray):Nat->CS
 |0=>⟨-1,[]⟩
 |i+1=>cut3 s i (cut2 s i (cut1 s i (cutTo s i)))
def toks(s:ByteArray):List Tok:=(cutTo s (s.size+1)).out++[⟨⟨#[]⟩,s.size⟩]
theorem cut1_bd{s:ByteArray}{i:Nat}{c:CS}(h: -1<=c.f/\c.f<=i): -1<=(cut1 s i c).f/\(cut1 s i c).f<=i/\(cut1 s i c).out.length<=c.out.length+1:=by
 unfold cut1;split
 · exact⟨by simp,by simp,by simp⟩
 · exact⟨h.1,h.2,by omega⟩
theorem cut2_bd{s:ByteArray}{i:Nat}{c:CS}(h: -1<=c.f/\c.f<=i): -1<=(cut2 s i c).f/\(cut2 s i c).f<=i/\(cut2 s i c).out=c.out:=by
 unfold cut2;split
 · exact⟨by simp,by simp,rfl⟩
 · exact⟨h.1,h.2,rfl⟩
theorem cut3_bd{s:ByteArray}{i:Nat}{c:CS}(h: -1<=c.f/\c.f<=i): -1<=(cut3 s i c).f/\(cut3 s i c).f<=i/\(cut3 s i c).out.length<=c.out.length+1:=by
 unfold cut3;split
 · exact⟨h.1,h.2,by simp⟩
 · exact⟨h.1,h.2,by omega⟩
theorem cutTo_bd(s:ByteArray)(i:Nat): -1<=(cutTo s i).f/\(cutTo s i).f<=i/\(cutTo s i).out.length<=2*i:=by
 induction i with
 |zero=>exact⟨by simp[cutTo],by simp[cutTo],by simp[cutTo]⟩
 |succ i ih=>
  have h1:=cut1_bd (s:=s) (i:=i) (c:=cutTo s i) ⟨ih.1,ih.2.1⟩
  have h2:=cut2_bd (s:=s) (i:=i) (c:=cut1 s i (cutTo s i)) ⟨h1.1,h1.2.1⟩
  have h3:=cut3_bd (s:=s) (i:=i) (c:=cut2 s i (cut1 s i (cutTo s i))) ⟨h2.1,h2.2.1⟩
  rw[cutTo]
  have e:=congrArg List.length h2.2.2
  exact⟨h3.1,by have:=h3.2.1;omega,by omega⟩
theorem byte_get(s:ByteArray)(i:Nat)(h:i<s.size):byteAt s i=s[i]:=by
 have h':i<s.data.toList.length:=h
 unfold byteAt
 rw[List.getD_eq_getElem?_getD,List.getElem?_eq_getElem h']
 rfl
def kPublic:List UInt8:=[112,117,98,108,105,99]
def kSecret:List UInt8:=[115,101,99,114,101,116]
def kArray:List UInt8:=[97,114,114,97,121]
def dHead(T:List Tok)(w:Tok)(J:PS):PS×Int×ByteArray:=
 if w.s.toList=kArray then
  (if(tk T J.i).s.toList=kPublic∨(tk T J.i).s.toList=kSecret then take T J else fail 2 (tk T J.i).p (take T J),2,(tk T J.i).s)
 else(J,1,w.s)
def isSize(s:ByteArray):Bool:=decide (s.size=1)&&decide (49<=(byteAt s 0).toNat/\(byteAt s 0).toNat<=54)
def dSize(T:List Tok)(k:Int)(J:PS):PS×Option Int:=
 if k=2/\J.err=0 then
  if isSize (tk T J.i).s=true then(take T J,some ((byteAt (tk T J.i).s 0).toNat-48))else(fail 2 (tk T J.i).p (take T J),none)
 else(J,some 1)
def added(t:Thing)(J:PS):PS:={J with names:=J.names+1,size:=J.size+t.size,seen:=J.seen++[t],shape:=J.shape++List.replicate t.size.toNat t.sec}
def declIn(T:List Tok)(J:PS):PS:=
 let h:=dHead T (tk T J.i) (take T J)
 let z:=dSize T h.2.1 (fresh T h.1)
 match z.2 with
 |some n=>added ⟨freshS T h.1,h.2.1,h.2.2.toList==kSecret,J.size,n⟩ (shut T z.1)
 |none=>z.1
def decl(T:List Tok)(J:PS):PS:=
 if(opens T J).names=8 then fail 5 (tk T J.i).p (opens T J)else declIn T (opens T J)
theorem Same.tr{T:List Tok}{a b c:PS}(h:Same T a b)(k:Same T b c):Same T a c:=
 ⟨k.core.trans h.core,k.nodes.trans h.nodes,k.nest.trans h.nest,Nat.le_trans h.le k.le,λe=>k.lt (h.lt e)⟩
theorem Same.rf(T:List Tok)(J:PS):Same T J J:=⟨rfl,rfl,rfl,Nat.le_refl _,id⟩
theorem take_same(T:List Tok)(J:PS):Same T J (take T J):=by
 have k:=take_core T J
 have t:=take_i T J
 exact⟨k.1,k.2.1,k.2.2.2,t.1,t.2.2.2⟩
theorem dHead_same(T:List Tok)(w:Tok)(J:PS):Same T J (dHead T w J).1:=by
 unfold dHead
 split
 · dsimp only
   split
   · exact take_same T J
   · exact(take_same T J).tr (fail_same T _ _ _)
 · exact Same.rf T J
theorem dSize_same(T:List Tok)(k:Int)(J:PS):Same T J (dSize T k J).1:=by
 unfold dSize
 split
 · split
   · exact take_same T J
   · exact(take_same T J).tr (fail_same T _ _ _)
 · exact Same.rf T J
theorem dHead_kind{T:List Tok}{w:Tok}{J J':PS}{k:Int}{s:ByteArray}(h:dHead T w J=(J',k,s)):k=1∨k=2:=by
 unfold dHead at h
 split at h
 · exact Or.inr (congrArg (λc=>c.2.1) h).symm
 · exact Or.inl (congrArg (λc=>c.2.1) h).symm
theorem dHead_seen(T:List Tok)(w:Tok)(J:PS):(dHead T w J).1.seen=J.seen:=by
 unfold dHead
 split
 · dsimp only
   split
   · exact take_seen T J
   · exact(congrArg (λc=>c.1) (fail_core 2 (tk T J.i).p (take T J)).1:(fail 2 (tk T J.i).p (take T J)).seen=(take T J).seen).trans (take_seen T J)
 · rfl
def held(c:CS):Nat:=c.out.length+(if 0<=c.f then 1 else 0)
theorem held1(s:ByteArray)(i:Nat)(c:CS):held (cut1 s i c)<=held c:=by
 unfold cut1 held;split
 · rename_i h;rw[if_pos h.2];simp
 · exact Nat.le_refl _
theorem held2(s:ByteArray)(i:Nat)(c:CS):held (cut2 s i c)<=held c+1/\(isStop s i=true->cut2 s i c=c):=by
 unfold cut2 held;split
 · rename_i h
   refine⟨?_,λe=>absurd (h.1.symm.trans e) (by decide)⟩
   rw[if_neg (by omega:¬0<=c.f)]
   split<;>simp
 · exact⟨by omega,λ_=>rfl⟩
theorem held3(s:ByteArray)(i:Nat)(c:CS):held (cut3 s i c)<=held c+(if isBr s i=true then 1 else 0):=by
 unfold cut3 held;split
 · simp;omega
 · simp
theorem br_stop{s:ByteArray}{i:Nat}(h:isBr s i=true):isStop s i=true:=by
 unfold isBr at h
 unfold isStop
 rw[Bool.and_eq_true,Bool.or_eq_true]at h
 rcases h.2 with e |e<;>rw[e]<;>simp
theorem held_to(s:ByteArray)(i:Nat):held (cutTo s i)<=i:=by
 induction i with
 |zero=>simp[cutTo,held]
 |succ i ih=>
  rw[cutTo]
  have h1:=held1 s i (cutTo s i)
  have h2:=held2 s i (cut1 s i (cutTo s i))
  have h3:=held3 s i (cut2 s i (cut1 s i (cutTo s i)))
  by_cases hb:isBr s i=true
  · rw[if_pos hb]at h3
    rw[h2.2 (br_stop hb)]at h3 ⊢
    omega
  · rw[if_neg hb]at h3
    omega
theorem toks_len(s:ByteArray):(toks s).length<=s.size+2/\0<(toks s).length:=by
 have h:=held_to s (s.size+1)
 unfold held at h
 unfold toks
 rw[List.length_append]
 simp only[List.length_cons,List.length_nil]
 omega
theorem tk_last(l:List Tok)(t:Tok):tk (l++[t]) ((l++[t]).length-1)=t:=by
 unfold tk
 rw[List.getD_eq_getElem?_getD]
 simp
theorem toks_ended(s:ByteArray):Ended (toks s):=by
 unfold Ended toks
 rw[tk_last]
def AllSmall(s:ByteArray)(l:List Tok):Prop:=∀t∈l,t.s.size<=s.size
theorem small_cut(s:ByteArray)(i:Nat):AllSmall s (cutTo s i).out:=by
 induction i with
 |zero=>intro t ht;simp[cutTo]at ht
 |succ i ih=>
  have e1:AllSmall s (cut1 s i (cutTo s i)).out:=by
   unfold cut1;split
   · intro t ht
     rcases List.mem_append.1 ht with h |h
     · exact ih t h
     · simp only[List.mem_singleton]at h;subst h;simp;omega
   · exact ih
  have e2:AllSmall s (cut2 s i (cut1 s i (cutTo s i))).out:=by
   unfold cut2;split<;>exact e1
  rw[cutTo]
  unfold cut3;split
  · intro t ht
    rcases List.mem_append.1 ht with h |h
    · exact e2 t h
    · simp only[List.mem_singleton]at h;subst h;simp;omega
  · exact e2
theorem toks_small{s:ByteArray}(hs:s.size<=1000):Small (toks s):=by
 intro i
 unfold tk
 rw[List.getD_eq_getElem?_getD]
 cases h:(toks s)[i]? with
 |none=>exact Nat.zero_le _
 |some t=>
  have hm:=List.mem_of_getElem? h
  unfold toks at hm
  rcases List.mem_append.1 hm with h' |h'
  · have:=small_cut s (s.size+1) t h'
    simp only[Option.getD_some]
    omega
  · simp only[List.mem_singleton]at h'
    subst h'
    exact Nat.zero_le _
end R
end
section
namespace K
open R (Tok)
def blank(c:UInt8):Bool:=c==32||c==10
def brak(c:UInt8):Bool:=c==40||c==41
def mid(c:UInt8):Bool:= !blank c&& !brak c
def runOf(p:UInt8->Bool)(s:ByteArray)(i:Nat):Nat:=i+((s.data.toList.drop i).takeWhile p).length
def endTok(s:ByteArray)(i:Nat):Nat:=if runOf mid s i=i/\i<s.size then i+1 else runOf mid s i
def scan(s:ByteArray)(i:Nat):Tok:=⟨s.extract (runOf blank s i) (endTok s (runOf blank s i)),(runOf blank s i:Nat)⟩
theorem drop_cons(s:ByteArray)(i:Nat)(h:i<s.size):s.data.toList.drop i=s[i]::s.data.toList.drop (i+1):=by
 have h':i<s.data.toList.length:=h
 rw[List.drop_eq_getElem_cons h']
 rfl
theorem run_step{p:UInt8->Bool}{s:ByteArray}{i:Nat}(h:i<s.size)(hp:p s[i]=true):runOf p s i=runOf p s (i+1):=by
 unfold runOf
 rw[drop_cons s i h,List.takeWhile_cons,if_pos hp,List.length_cons]
 omega
theorem run_stop{p:UInt8->Bool}{s:ByteArray}{i:Nat}(h:i<s.size)(hp:p s[i]=false):runOf p s i=i:=by
 unfold runOf
 rw[drop_cons s i h,List.takeWhile_cons,if_neg (by rw[hp];decide)]
 simp
theorem run_end{p:UInt8->Bool}{s:ByteArray}{i:Nat}(h:¬i<s.size):runOf p s i=i:=by
 unfold runOf
 rw[List.drop_eq_nil_of_le (by have:s.data.toList.length=s.size:=rfl;omega)]
 simp
theorem run_le{p:UInt8->Bool}{s:ByteArray}{i:Nat}(h:i<=s.size):i<=runOf p s i/\runOf p s i<=s.size:=by
 unfold runOf
 have h1:=(List.takeWhile_sublist (l:=s.data.toList.drop i) p).length_le
 rw[List.length_drop]at h1
 have:s.data.toList.length=s.size:=rfl
 omega
theorem endTok_le{s:ByteArray}{i:Nat}(h:i<=s.size):i<=endTok s i/\endTok s i<=s.size:=by
 unfold endTok
 have:=run_le (p:=mid) h
 split<;>omega
end K
end
section
open Go.RowKit
open R (Tok)
theorem kb(c:UInt8)(n:Nat)(hn:n<256):((c.toNat:Int)==(n:Int))=(c==UInt8.ofNat n):=by
 rw[Bool.eq_iff_iff,beq_iff_eq,beq_iff_eq]
 constructor
 · intro h
   apply UInt8.toNat_inj.1
   rw[UInt8.toNat_ofNat']
   omega
 · rintro rfl
   rw[UInt8.toNat_ofNat']
   omega
theorem isBlank_c(c:UInt8)(w:World):Calls Tryz.prog 100 #[.int .u8 c.toNat] w λx w'=>x=.returned (.bool (K.blank c))/\w'=w:=by
 have h1:=kb c 32 (by decide)
 have h2:=kb c 10 (by decide)
 have HK:Hid (K.blank c=((c==32)||(c==10))):=rfl
 cases e1:(c==32)with
 |true=>
  have h1':((c.toNat:Int)==32)=true:=h1.trans e1
  clear h1
  go_enter Tryz.func100,Tryz.ntmps100
  go_wp2
  go_ret
  rw[HK.out,e1];exact⟨rfl,rfl⟩
 |false=>
  have h1':((c.toNat:Int)==32)=false:=h1.trans e1
  have h2':((c.toNat:Int)==10)=(c==10):=h2
  clear h1 h2
  go_enter Tryz.func100,Tryz.ntmps100
  go_wp2
  go_ret
  rw[HK.out,e1];exact⟨rfl,rfl⟩
theorem isBracket_c(c:UInt8)(w:World):Calls Tryz.prog 132 #[.int .u8 c.toNat] w λx w'=>x=.returned (.bool (K.brak c))/\w'=w:=by
 have h1:=kb c 40 (by decide)
 have h2:=kb c 41 (by decide)
 have HK:Hid (K.brak c=((c==40)||(c==41))):=rfl
 cases e1:(c==40)with
 |true=>
  have h1':((c.toNat:Int)==40)=true:=h1.trans e1
  clear h1
  go_enter Tryz.func132,Tryz.ntmps132
  go_wp2
  go_ret
  rw[HK.out,e1];exact⟨rfl,rfl⟩
 |false=>
  have h1':((c.toNat:Int)==40)=false:=h1.trans e1
  have h2':((c.toNat:Int)==41)=(c==41):=h2
  clear h1 h2
  go_enter Tryz.func132,Tryz.ntmps132
  go_wp2
  go_ret
  rw[HK.out,e1];exact⟨rfl,rfl⟩
theorem endOfToken_c(s:ByteArray)(i:Nat)(w:World)(hi:i<=s.size)(hs:s.size<=1000):
 Calls Tryz.prog 101 #[.string s,.int .i64 (i:Int)] w λx w'=>x=.returned (.int .i64 (K.endTok s i:Nat))/\w'=w:=by
 have HK:Hid (K.endTok s i=if K.runOf K.mid s i=i/\i<s.size then i+1 else K.runOf K.mid s i):=rfl
 go_enter Tryz.func101,Tryz.ntmps101
 go_wp2
 go_loop [5] (λv=>∃k:Nat,i<=k/\k<=s.size/\v=.int .i64 (k:Int)/\Hid (K.runOf K.mid s i=K.runOf K.mid s k)) (λv=>s.size-(intOf v).toNat)
 case atStart=>exact⟨i,Nat.le_refl _,hi,rfl,rfl⟩
 case round=>
  obtain⟨k,hik,hks,rfl,HR⟩:=hrel
  have fin:∀(e:K.runOf K.mid s k=k),Hid (K.endTok s i=if k=i/\i<s.size then i+1 else k):=λe=>by
   show _=_
   rw[HK.out,HR.out,e]
  by_cases hlt:k<s.size
  · have hb:=isBlank_c s[k]
    have hc:=isBracket_c s[k]
    cases e1:K.blank s[k]with
    |true=>
     rw[e1]at hb
     have HF:=fin (K.run_stop hlt (by unfold K.mid;rw[e1];rfl))
     clear HR fin HK
     by_cases hki:k=i
     · subst hki
       have HF':Hid (K.endTok s k=k+1):=by show _=_;rw[HF.out,if_pos ⟨rfl,hlt⟩]
       clear HF
       go_wp2_with (go_at_call 100;refine(hb _).mono ?_;rintro x w' ⟨rfl,rfl⟩)
       go_ret
       exact⟨by rw[HF'.out];rfl,rfl⟩
     · have HF':Hid (K.endTok s i=k):=by show _=_;rw[HF.out,if_neg (λc=>hki c.1)]
       have hki':((k:Int)==(i:Int))=false:=beq_no (by omega)
       clear HF
       go_wp2_with (go_at_call 100;refine(hb _).mono ?_;rintro x w' ⟨rfl,rfl⟩)
       go_ret
       exact⟨by rw[HF'.out];rfl,rfl⟩
    |false=>
     rw[e1]at hb
     cases e2:K.brak s[k]with
     |true=>
      rw[e2]at hc
      have HF:=fin (K.run_stop hlt (by unfold K.mid;rw[e2];simp))
      clear HR fin HK
      by_cases hki:k=i
      · subst hki
        have HF':Hid (K.endTok s k=k+1):=by show _=_;rw[HF.out,if_pos ⟨rfl,hlt⟩]
        clear HF
        go_wp2_with (first |(go_at_call 100;refine(hb _).mono ?_;rintro x w' ⟨rfl,rfl⟩)|(go_at_call 132;refine(hc _).mono ?_;rintro x w' ⟨rfl,rfl⟩))
        go_ret
        exact⟨by rw[HF'.out];rfl,rfl⟩
      · have HF':Hid (K.endTok s i=k):=by show _=_;rw[HF.out,if_neg (λc=>hki c.1)]
        have hki':((k:Int)==(i:Int))=false:=beq_no (by omega)
        clear HF
        go_wp2_with (first |(go_at_call 100;refine(hb _).mono ?_;rintro x w' ⟨rfl,rfl⟩)|(go_at_call 132;refine(hc _).mono ?_;rintro x w' ⟨rfl,rfl⟩))
        go_ret
        exact⟨by rw[HF'.out];rfl,rfl⟩
     |false=>
      rw[e2]at hc
      have HN:Hid (K.runOf K.mid s i=K.runOf K.mid s (k+1)):=HR.out.trans (K.run_step hlt (by unfold K.mid;rw[e1,e2];rfl))
      clear HR fin HK
      go_wp2_with (first |(go_at_call 100;refine(hb _).mono ?_;rintro x w' ⟨rfl,rfl⟩)|(go_at_call 132;refine(hc _).mono ?_;rintro x w' ⟨rfl,rfl⟩))
      go_round
      case rel=>exact⟨k+1,by omega,by omega,by go_num,HN⟩
      case measure=>simp[intOf];omega
  · have HF:=fin (K.run_end hlt)
    have HF':Hid (K.endTok s i=k):=by show _=_;rw[HF.out,if_neg (by omega)]
    clear HR fin HK HF
    by_cases hki:k=i
    · subst hki
      go_wp2
      go_ret
      exact⟨by rw[HF'.out];rfl,rfl⟩
    · have hki':((k:Int)==(i:Int))=false:=beq_no (by omega)
      go_wp2
      go_ret
      exact⟨by rw[HF'.out];rfl,rfl⟩
theorem scan_c(s:ByteArray)(i:Nat)(w:World)(hi:i<=s.size)(hs:s.size<=1000):
 Calls Tryz.prog 72 #[.string s,.int .i64 (i:Int)] w λx w'=>x=.returned (.agg #[.string (K.scan s i).s,.int .i64 (K.scan s i).p])/\w'=w.alloc (.cells #[.string (K.scan s i).s,.int .i64 (K.scan s i).p] 136):=by
 have HK:Hid (K.scan s i=⟨s.extract (K.runOf K.blank s i) (K.endTok s (K.runOf K.blank s i)),(K.runOf K.blank s i:Nat)⟩):=rfl
 go_enter Tryz.func72,Tryz.ntmps72
 go_wp2
 go_loop [5] (λv=>∃k:Nat,i<=k/\k<=s.size/\v=.int .i64 (k:Int)/\Hid (K.runOf K.blank s i=K.runOf K.blank s k)) (λv=>s.size-(intOf v).toNat)
 case atStart=>exact⟨i,Nat.le_refl _,hi,rfl,rfl⟩
 case round=>
  obtain⟨k,hik,hks,rfl,HR⟩:=hrel
  have he:=λw=>endOfToken_c s k w hks hs
  have hle:=K.endTok_le hks
  have fin:∀(e:K.runOf K.blank s k=k),Hid (K.scan s i=⟨s.extract k (K.endTok s k),(k:Nat)⟩):=λe=>by
   show _=_
   rw[HK.out,HR.out,e]
  by_cases hlt:k<s.size
  · have hb:=isBlank_c s[k]
    cases e1:K.blank s[k]with
    |true=>
     rw[e1]at hb
     have HN:Hid (K.runOf K.blank s i=K.runOf K.blank s (k+1)):=HR.out.trans (K.run_step hlt e1)
     clear HR fin HK
     go_wp2_with (go_at_call 100;refine(hb _).mono ?_;rintro x w' ⟨rfl,rfl⟩)
     go_round
     case rel=>exact⟨k+1,by omega,by omega,by go_num,HN⟩
     case measure=>simp[intOf];omega
    |false=>
     rw[e1]at hb
     have HF:=fin (K.run_stop hlt e1)
     clear HR fin HK
     generalize K.endTok s k=e at*
     go_wp2_with (first |(go_at_call 100;refine(hb _).mono ?_;rintro x w' ⟨rfl,rfl⟩)|(go_at_call 101;refine(he _).mono ?_;rintro x w' ⟨rfl,rfl⟩))
     rw[HF.out]
     exact bodyPost_ret (v:=.agg #[.string (s.extract k e),.int .i64 (k:Int)]) (by simp[results,Tryz.results72,go_sem]) rfl ⟨rfl,rfl⟩
  · have HF:=fin (K.run_end hlt)
    clear HR fin HK
    generalize K.endTok s k=e at*
    go_wp2_with (first |(go_at_call 101;refine(he _).mono ?_;rintro x w' ⟨rfl,rfl⟩))
    rw[HF.out]
    exact bodyPost_ret (v:=.agg #[.string (s.extract k e),.int .i64 (k:Int)]) (by simp[results,Tryz.results72,go_sem]) rfl ⟨rfl,rfl⟩
end
section
namespace K
open R (Tok tk)
structure Nm where
 text:ByteArray
 kind:Int
 sec:Bool
 size:Int
 place:Int
structure S where
 i:Nat
 names:List Nm
 words:Int
 depth:Int
 loops:Int
 err:Int
 eat:Int
def nx(T:List Tok)(i:Nat):Nat:=if i+1<T.length then i+1 else i
structure Scans(s:ByteArray)(T:List Tok):Prop where
 size:s.size<=800
 pos:0<T.length
 few:T.length<=1000
 first:scan s 0=tk T 0
 last:tk T (T.length-1)=⟨⟨#[]⟩,s.size⟩
 next:∀i,i<T.length->∃p:Nat,(tk T i).p=p/\p+(tk T i).s.size<=s.size/\scan s (p+(tk T i).s.size)=tk T (nx T i)
def step(T:List Tok)(J:S):S:={J with i:=nx T J.i}
def fail(T:List Tok)(e p:Int)(J:S):S:=if J.err=0 then {J with err:=e,eat:=p,i:=T.length-1}else {J with i:=T.length-1}
def here(T:List Tok)(e:Int)(J:S):S:=fail T e (tk T J.i).p J
def take(T:List Tok)(fits:ByteArray->Bool)(J:S):S:=if fits (tk T J.i).s=true then step T J else here T 2 J
def isIt(l:List UInt8)(s:ByteArray):Bool:=s.toList==l
def expect(T:List Tok)(l:List UInt8)(J:S):S:=take T (isIt l) J
theorem nx_lt{T:List Tok}{i:Nat}(h:i<T.length):nx T i<T.length:=by unfold nx;split<;>omega
theorem step_lt{T:List Tok}{J:S}(h:J.i<T.length):(step T J).i<T.length:=nx_lt h
end K
end
section
namespace R
def isDecl(s:List UInt8):Bool:=s==kPublic||s==kSecret||s==kArray
def decls(T:List Tok):Nat->PS->PS
 |0,J=>J
 |m+1,J=>if J.err=0/\(tk T J.i).s.toList=[40]/\isDecl (tk T (J.i+1)).s.toList=true then decls T m (decl T J)else J
def start:PS:=⟨0,0,0,[],0,0,[],[],0,0,0,-1,[]⟩
def done(d:List Int)(J:PS):PS:={J with does:=d}
def behind(T:List Tok)(J:PS):PS:=if J.err=0 then want T [] J else J
def last(J:PS):PS:=if J.err=0/\0<=J.leak then fail 7 J.leak J else J
def readT(T:List Tok):PS:=
 let J:=decls T 9 start
 let a:=does T 12 J
 last (behind T (done a.2 a.1))
def read(s:ByteArray):PS:=if 800<s.size then fail 1 0 start else readT (toks s)
structure DB(m:Nat)(J:PS):Prop where
 nest:J.nest=0
 names:J.names=m
 size:0<=J.size/\J.size<=6*m
 seen:J.seen.length=m
 shape:(J.shape.length:Int)=J.size
 nodes:J.nodes=[]
 rest:J.loops=0/\J.hidden=0
theorem start_db:DB 0 start:=⟨rfl,rfl,⟨by decide,by decide⟩,rfl,rfl,rfl,rfl,rfl⟩
end R
end
section
namespace K
open R (Tok tk)
structure Keeps(J J':S):Prop where
 names:J'.names=J.names
 words:J'.words=J.words
 depth:J'.depth=J.depth
 loops:J'.loops=J.loops
theorem Keeps.rfl'(J:S):Keeps J J:=⟨rfl,rfl,rfl,rfl⟩
theorem Keeps.trans{a b c:S}(h:Keeps a b)(k:Keeps b c):Keeps a c:=⟨k.names.trans h.names,k.words.trans h.words,k.depth.trans h.depth,k.loops.trans h.loops⟩
theorem step_keeps(T:List Tok)(J:S):Keeps J (step T J):=⟨rfl,rfl,rfl,rfl⟩
theorem fail_keeps(T:List Tok)(e p:Int)(J:S):Keeps J (fail T e p J):=by unfold fail;split<;>exact⟨rfl,rfl,rfl,rfl⟩
theorem take_keeps(T:List Tok)(f:ByteArray->Bool)(J:S):Keeps J (take T f J):=by
 unfold take;split
 · exact step_keeps T J
 · exact fail_keeps T _ _ J
theorem expect_keeps(T:List Tok)(l:List UInt8)(J:S):Keeps J (expect T l J):=take_keeps T _ J
theorem Scans.tsize{s:ByteArray}{T:List Tok}(h:Scans s T){i:Nat}(hi:i<T.length):(tk T i).s.size<=800:=by
 obtain⟨p,_,h2,_⟩:=h.next i hi
 have:=h.size
 omega
end K
end
section
open Go.RowKit
open R (Tok)
theorem isLetter_c(c:UInt8)(w:World):Calls Tryz.prog 199 #[.int .u8 c.toNat] w λx w'=>x=.returned (.bool (R.low c))/\w'=w:=by
 have HK:Hid (R.low c=decide (97<=c.toNat/\c.toNat<=122)):=rfl
 generalize R.low c=q at*
 by_cases h1:(97:Int)<=(c.toNat:Int)
 · by_cases h2:(c.toNat:Int)<=122
   · have e:q=true:=by rw[HK.out];simp;omega
     subst e
     go_enter Tryz.func199,Tryz.ntmps199
     go_wp2
     go_ret
     exact⟨rfl,rfl⟩
   · have e:q=false:=by rw[HK.out];simp;omega
     subst e
     go_enter Tryz.func199,Tryz.ntmps199
     go_wp2
     go_ret
     exact⟨rfl,rfl⟩
 · have e:q=false:=by rw[HK.out];simp;omega
   subst e
   go_enter Tryz.func199,Tryz.ntmps199
   go_wp2
   go_ret
   exact⟨rfl,rfl⟩
theorem isDigit_c(c:UInt8)(w:World):Calls Tryz.prog 216 #[.int .u8 c.toNat] w λx w'=>x=.returned (.bool (R.dig c))/\w'=w:=by
 have HK:Hid (R.dig c=decide (48<=c.toNat/\c.toNat<=57)):=rfl
 generalize R.dig c=q at*
 by_cases h1:(48:Int)<=(c.toNat:Int)
 · by_cases h2:(c.toNat:Int)<=57
   · have e:q=true:=by rw[HK.out];simp;omega
     subst e
     go_enter Tryz.func216,Tryz.ntmps216
     go_wp2
     go_ret
     exact⟨rfl,rfl⟩
   · have e:q=false:=by rw[HK.out];simp;omega
     subst e
     go_enter Tryz.func216,Tryz.ntmps216
     go_wp2
     go_ret
     exact⟨rfl,rfl⟩
 · have e:q=false:=by rw[HK.out];simp;omega
   subst e
   go_enter Tryz.func216,Tryz.ntmps216
   go_wp2
   go_ret
   exact⟨rfl,rfl⟩
def K.madeOf(p:UInt8->Bool)(most:Nat)(s:ByteArray):Bool:=decide (1<=s.size)&&(decide (s.size<=most)&&s.data.toList.all p)
theorem all_drop_step{p:UInt8->Bool}{s:ByteArray}{k:Nat}(h:k<s.size):(s.data.toList.drop k).all p=(p s[k]&&(s.data.toList.drop (k+1)).all p):=by
 rw[K.drop_cons s k h,List.all_cons]
theorem all_drop_end{p:UInt8->Bool}{s:ByteArray}{k:Nat}(h:¬k<s.size):(s.data.toList.drop k).all p=true:=by
 rw[List.drop_eq_nil_of_le (by have:s.data.toList.length=s.size:=rfl;omega)]
 rfl
theorem madeOf_letter(s:ByteArray)(most:Nat)(w:World)(hs:s.size<=1000)(hm:most<=1000):
 Calls Tryz.prog 198 #[.string s,.int .i64 (most:Int),.func (.func 199) #[] #[]] w λx w'=>x=.returned (.bool (K.madeOf R.low most s))/\w'=w:=by
 have HK:Hid (K.madeOf R.low most s=(decide (1<=s.size)&&(decide (s.size<=most)&&s.data.toList.all R.low))):=rfl
 generalize K.madeOf R.low most s=q at*
 by_cases h1:(s.size:Int)<1
 · have e:q=false:=by rw[HK.out,decide_eq_false (by omega)];rfl
   subst e
   go_enter Tryz.func198,Tryz.ntmps198
   go_wp2_with fail
   go_ret
   exact⟨rfl,rfl⟩
 · by_cases h2:(most:Int)<(s.size:Int)
   · have e:q=false:=by rw[HK.out,decide_eq_false (by omega:¬s.size<=most)];simp
     subst e
     go_enter Tryz.func198,Tryz.ntmps198
     go_wp2_with fail
     go_ret
     exact⟨rfl,rfl⟩
   · have HQ:Hid (q=(s.data.toList.drop 0).all R.low):=by show _=_;rw[HK.out,decide_eq_true (by omega:1<=s.size),decide_eq_true (by omega:s.size<=most)];rfl
     clear HK
     go_enter Tryz.func198,Tryz.ntmps198
     go_wp2_with fail
     go_loop [7,19] (λ_ i=>∃k:Nat,k<=s.size/\i=.int .i64 (k:Int)/\Hid (q=(s.data.toList.drop k).all R.low)) (λ_ i=>s.size-(intOf i).toNat)
     case atStart=>exact⟨0,Nat.zero_le _,rfl,HQ⟩
     case round=>
      obtain⟨k,hk,rfl,HR⟩:=hrel
      clear HQ
      by_cases hlt:k<s.size
      · have hc:=isLetter_c s[k]
        cases e1:R.low s[k]with
        |true=>
         rw[e1]at hc
         have HN:Hid (q=(s.data.toList.drop (k+1)).all R.low):=by show _=_;rw[HR.out,all_drop_step hlt,e1];rfl
         clear HR
         go_wp2_with (go_at_call 199;refine(hc _).mono ?_;rintro x w' ⟨rfl,rfl⟩)
         go_round
         case rel=>exact⟨k+1,by omega,by go_num,HN⟩
         case measure=>simp[intOf];omega
        |false=>
         rw[e1]at hc
         have e:q=false:=by rw[HR.out,all_drop_step hlt,e1];rfl
         subst e
         clear HR
         go_wp2_with (go_at_call 199;refine(hc _).mono ?_;rintro x w' ⟨rfl,rfl⟩)
         go_ret
         exact⟨rfl,rfl⟩
      · have e:q=true:=by rw[HR.out,all_drop_end hlt]
        subst e
        clear HR
        go_wp2_with fail
        go_ret
        exact⟨rfl,rfl⟩
theorem madeOf_digit(s:ByteArray)(most:Nat)(w:World)(hs:s.size<=1000)(hm:most<=1000):
 Calls Tryz.prog 198 #[.string s,.int .i64 (most:Int),.func (.func 216) #[] #[]] w λx w'=>x=.returned (.bool (K.madeOf R.dig most s))/\w'=w:=by
 have HK:Hid (K.madeOf R.dig most s=(decide (1<=s.size)&&(decide (s.size<=most)&&s.data.toList.all R.dig))):=rfl
 generalize K.madeOf R.dig most s=q at*
 by_cases h1:(s.size:Int)<1
 · have e:q=false:=by rw[HK.out,decide_eq_false (by omega)];rfl
   subst e
   go_enter Tryz.func198,Tryz.ntmps198
   go_wp2_with fail
   go_ret
   exact⟨rfl,rfl⟩
 · by_cases h2:(most:Int)<(s.size:Int)
   · have e:q=false:=by rw[HK.out,decide_eq_false (by omega:¬s.size<=most)];simp
     subst e
     go_enter Tryz.func198,Tryz.ntmps198
     go_wp2_with fail
     go_ret
     exact⟨rfl,rfl⟩
   · have HQ:Hid (q=(s.data.toList.drop 0).all R.dig):=by show _=_;rw[HK.out,decide_eq_true (by omega:1<=s.size),decide_eq_true (by omega:s.size<=most)];rfl
     clear HK
     go_enter Tryz.func198,Tryz.ntmps198
     go_wp2_with fail
     go_loop [7,19] (λ_ i=>∃k:Nat,k<=s.size/\i=.int .i64 (k:Int)/\Hid (q=(s.data.toList.drop k).all R.dig)) (λ_ i=>s.size-(intOf i).toNat)
     case atStart=>exact⟨0,Nat.zero_le _,rfl,HQ⟩
     case round=>
      obtain⟨k,hk,rfl,HR⟩:=hrel
      clear HQ
      by_cases hlt:k<s.size
      · have hc:=isDigit_c s[k]
        cases e1:R.dig s[k]with
        |true=>
         rw[e1]at hc
         have HN:Hid (q=(s.data.toList.drop (k+1)).all R.dig):=by show _=_;rw[HR.out,all_drop_step hlt,e1];rfl
         clear HR
         go_wp2_with (go_at_call 216;refine(hc _).mono ?_;rintro x w' ⟨rfl,rfl⟩)
         go_round
         case rel=>exact⟨k+1,by omega,by go_num,HN⟩
         case measure=>simp[intOf];omega
        |false=>
         rw[e1]at hc
         have e:q=false:=by rw[HR.out,all_drop_step hlt,e1];rfl
         subst e
         clear HR
         go_wp2_with (go_at_call 216;refine(hc _).mono ?_;rintro x w' ⟨rfl,rfl⟩)
         go_ret
         exact⟨rfl,rfl⟩
      · have e:q=true:=by rw[HR.out,all_drop_end hlt]
        subst e
        clear HR
        go_wp2_with fail
        go_ret
        exact⟨rfl,rfl⟩
theorem beginsDecl_c(s:ByteArray)(w:World):Calls Tryz.prog 102 #[.string s] w λx w'=>x=.returned (.bool (R.isDecl s.toList))/\w'=w:=by
 have HK:Hid (R.isDecl s.toList=((s.toList==[112,117,98,108,105,99])||(s.toList==[115,101,99,114,101,116])||(s.toList==[97,114,114,97,121]))):=rfl
 generalize R.isDecl s.toList=q at*
 cases e1:(s.toList==[112,117,98,108,105,99])with
 |true=>
  rw[e1]at HK
  have e:q=true:=HK.out
  subst e
  go_enter Tryz.func102,Tryz.ntmps102
  go_wp2
  go_ret
  exact⟨rfl,rfl⟩
 |false=>
  cases e2:(s.toList==[115,101,99,114,101,116])with
  |true=>
   rw[e1,e2]at HK
   have e:q=true:=HK.out
   subst e
   go_enter Tryz.func102,Tryz.ntmps102
   go_wp2
   go_ret
   exact⟨rfl,rfl⟩
  |false=>
   rw[e1,e2]at HK
   have e:q=(s.toList==[97,114,114,97,121]):=HK.out
   subst e
   clear HK
   go_enter Tryz.func102,Tryz.ntmps102
   go_wp2
   go_ret
   exact⟨rfl,rfl⟩
theorem kws_or(l:List UInt8):R.kws.contains l=((l==[115,101,116])||((l==[112,117,116])||((l==[105,102])||((l==[102,111,114])||((l==[103,101,116])||((l==[99,104,111,111,115,101])||R.isDecl l)))))):=by
 unfold R.kws R.isDecl R.kPublic R.kSecret R.kArray
 simp only[List.contains_cons,List.contains_nil,Bool.or_false]
 generalize(l==[112,117,98,108,105,99])=a1
 generalize(l==[115,101,99,114,101,116])=a2
 generalize(l==[97,114,114,97,121])=a3
 generalize(l==[115,101,116])=a4
 generalize(l==[112,117,116])=a5
 generalize(l==[105,102])=a6
 generalize(l==[102,111,114])=a7
 generalize(l==[103,101,116])=a8
 generalize(l==[99,104,111,111,115,101])=a9
 revert a1 a2 a3 a4 a5 a6 a7 a8 a9
 decide
theorem isKeyword_c(s:ByteArray)(w:World):Calls Tryz.prog 200 #[.string s] w λx w'=>x=.returned (.bool (R.kws.contains s.toList))/\w'=w:=by
 have HK:=hide (kws_or s.toList)
 have hb:=beginsDecl_c s
 generalize R.kws.contains s.toList=q at*
 generalize R.isDecl s.toList=d at*
 cases e1:(s.toList==[115,101,116])with
 |true=>
  rw[e1]at HK;have e:q=true:=HK.out;subst e
  go_enter Tryz.func200,Tryz.ntmps200
  go_wp2_with fail
  go_ret
  exact⟨rfl,rfl⟩
 |false=>
 cases e2:(s.toList==[112,117,116])with
 |true=>
  rw[e1,e2]at HK;have e:q=true:=HK.out;subst e
  go_enter Tryz.func200,Tryz.ntmps200
  go_wp2_with fail
  go_ret
  exact⟨rfl,rfl⟩
 |false=>
 cases e3:(s.toList==[105,102])with
 |true=>
  rw[e1,e2,e3]at HK;have e:q=true:=HK.out;subst e
  go_enter Tryz.func200,Tryz.ntmps200
  go_wp2_with fail
  go_ret
  exact⟨rfl,rfl⟩
 |false=>
 cases e4:(s.toList==[102,111,114])with
 |true=>
  rw[e1,e2,e3,e4]at HK;have e:q=true:=HK.out;subst e
  go_enter Tryz.func200,Tryz.ntmps200
  go_wp2_with fail
  go_ret
  exact⟨rfl,rfl⟩
 |false=>
 cases e5:(s.toList==[103,101,116])with
 |true=>
  rw[e1,e2,e3,e4,e5]at HK;have e:q=true:=HK.out;subst e
  go_enter Tryz.func200,Tryz.ntmps200
  go_wp2_with fail
  go_ret
  exact⟨rfl,rfl⟩
 |false=>
 cases e6:(s.toList==[99,104,111,111,115,101])with
 |true=>
  rw[e1,e2,e3,e4,e5,e6]at HK;have e:q=true:=HK.out;subst e
  go_enter Tryz.func200,Tryz.ntmps200
  go_wp2_with fail
  go_ret
  exact⟨rfl,rfl⟩
 |false=>
  rw[e1,e2,e3,e4,e5,e6]at HK;have e:q=d:=HK.out;subst e
  clear HK
  go_enter Tryz.func200,Tryz.ntmps200
  go_wp2_with (go_at_call 102;refine(hb _).mono ?_;rintro x w' ⟨rfl,rfl⟩)
  go_ret
  exact⟨rfl,rfl⟩
theorem kisName_c(s:ByteArray)(w:World)(hs:s.size<=1000):Calls Tryz.prog 170 #[.string s] w λx w'=>x=.returned (.bool (R.isName s))/\w'=w:=by
 have hm:=λw=>madeOf_letter s 6 w hs (by decide)
 have hk:=isKeyword_c s
 have HK:Hid (R.isName s=(K.madeOf R.low 6 s&& !(R.kws.contains s.toList))):=by
  show _=_
  unfold R.isName K.madeOf
  generalize R.kws.contains s.toList=a
  generalize s.data.toList.all R.low=b
  cases a<;>cases b<;>simp
 generalize R.isName s=q at*
 generalize R.kws.contains s.toList=d at*
 cases e1:K.madeOf R.low 6 s with
 |true=>
  rw[e1]at HK hm
  have e:q= !d:=HK.out
  subst e
  clear HK
  go_enter Tryz.func170,Tryz.ntmps170
  go_wp2_with (first |(go_at_call 198;refine(hm _).mono ?_;rintro x w' ⟨rfl,rfl⟩)|(go_at_call 200;refine(hk _).mono ?_;rintro x w' ⟨rfl,rfl⟩))
  go_ret
  exact⟨rfl,rfl⟩
 |false=>
  rw[e1]at HK hm
  have e:q=false:=HK.out
  subst e
  clear HK
  go_enter Tryz.func170,Tryz.ntmps170
  go_wp2_with (first |(go_at_call 198;refine(hm _).mono ?_;rintro x w' ⟨rfl,rfl⟩))
  go_ret
  exact⟨rfl,rfl⟩
theorem isSize_c(s:ByteArray)(w:World)(hs:s.size<=1000):Calls Tryz.prog 197 #[.string s] w λx w'=>x=.returned (.bool (R.isSize s))/\w'=w:=by
 have hm:=λw=>madeOf_digit s 1 w hs (by decide)
 by_cases hl:s.size=1
 · have h0:0<s.size:=by omega
   have hsz:(s.size:Int)=1:=by omega
   have hd:s.data.toList=[s[0]]:=by
    have e:=K.drop_cons s 0 h0
    have e2:s.data.toList.drop (0+1)=[]:=List.drop_eq_nil_of_le (by have:s.data.toList.length=s.size:=rfl;omega)
    rw[e2]at e
    exact e
   have HK:Hid (R.isSize s=decide (49<=s[0].toNat/\s[0].toNat<=54)):=by show _=_;unfold R.isSize;rw[R.byte_get s 0 h0,decide_eq_true hl];rfl
   have HM:Hid (K.madeOf R.dig 1 s=R.dig s[0]):=by show _=_;unfold K.madeOf;rw[hd,decide_eq_true (by omega:1<=s.size),decide_eq_true (by omega:s.size<=1)];simp
   have HD:Hid (R.dig s[0]=decide (48<=s[0].toNat/\s[0].toNat<=57)):=rfl
   generalize R.isSize s=q at*
   rw[HM.out]at hm
   clear hd hl
   by_cases c1:(49:Int)<=(s[0].toNat:Int)
   · by_cases c2:(s[0].toNat:Int)<=54
     · have e:q=true:=by rw[HK.out];simp;omega
       have e1:R.dig s[0]=true:=by rw[HD.out];simp;omega
       subst e
       rw[e1]at hm
       clear e1 HK HM HD
       go_enter Tryz.func197,Tryz.ntmps197
       go_wp2_with (first |(go_at_call 198;refine(hm _).mono ?_;rintro x w' ⟨rfl,rfl⟩))
       go_ret
       exact⟨rfl,rfl⟩
     · have e:q=false:=by rw[HK.out];simp;omega
       subst e
       cases e1:R.dig s[0]with
       |true=>
        rw[e1]at hm
        clear e1 HK HM HD
        have c3:decide ((s[0].toNat:Int)<=54)=false:=decide_eq_false c2
        go_enter Tryz.func197,Tryz.ntmps197
        go_wp2_with (first |(go_at_call 198;refine(hm _).mono ?_;rintro x w' ⟨rfl,rfl⟩))
        go_ret
        refine⟨?_,rfl⟩
        first |rfl |exact congrArg (λq=>Ending.returned (.bool q)) c3
       |false=>
        rw[e1]at hm
        clear e1 HK HM HD
        go_enter Tryz.func197,Tryz.ntmps197
        go_wp2_with (first |(go_at_call 198;refine(hm _).mono ?_;rintro x w' ⟨rfl,rfl⟩))
        go_ret
        exact⟨rfl,rfl⟩
   · have e:q=false:=by rw[HK.out];simp;omega
     subst e
     cases e1:R.dig s[0]with
     |true=>
      rw[e1]at hm
      clear e1 HK HM HD
      go_enter Tryz.func197,Tryz.ntmps197
      go_wp2_with (first |(go_at_call 198;refine(hm _).mono ?_;rintro x w' ⟨rfl,rfl⟩))
      go_ret
      exact⟨rfl,rfl⟩
     |false=>
      rw[e1]at hm
      clear e1 HK HM HD
      go_enter Tryz.func197,Tryz.ntmps197
      go_wp2_with (first |(go_at_call 198;refine(hm _).mono ?_;rintro x w' ⟨rfl,rfl⟩))
      go_ret
      exact⟨rfl,rfl⟩
 · have e1:K.madeOf R.dig 1 s=false:=by
    unfold K.madeOf
    by_cases h1:1<=s.size
    · rw[decide_eq_false (by omega:¬s.size<=1)];simp
    · rw[decide_eq_false h1];rfl
   have e2:R.isSize s=false:=by unfold R.isSize;rw[decide_eq_false hl];rfl
   rw[e1]at hm
   rw[e2]
   go_enter Tryz.func197,Tryz.ntmps197
   go_wp2_with (first |(go_at_call 198;refine(hm _).mono ?_;rintro x w' ⟨rfl,rfl⟩))
   go_ret
   exact⟨rfl,rfl⟩
def K.isNum(s:ByteArray):Bool:=K.madeOf R.dig 9 ⟨(Lib.trimPrefix s.data.toList [45]).toArray⟩
theorem trim_size(s:ByteArray)(h:s.size<=1000):(ByteArray.mk (Lib.trimPrefix s.data.toList [45]).toArray).size<=1000:=by
 show(Lib.trimPrefix s.data.toList [45]).toArray.size<=1000
 have:s.data.toList.length=s.size:=rfl
 unfold Lib.trimPrefix
 split
 · simp;have:s.data.size=s.size:=rfl;omega
 · simp;exact h
theorem isNumber_c(s:ByteArray)(w:World)(hs:s.size<=1000):Calls Tryz.prog 219 #[.string s] w λx w'=>x=.returned (.bool (K.isNum s))/\w'=w:=by
 have ht:=λw=>Tryz.strings_TrimPrefix s ⟨#[45]⟩ w
 have hm:=λw=>madeOf_digit ⟨(Lib.trimPrefix s.data.toList [45]).toArray⟩ 9 w (trim_size s hs) (by decide)
 have HK:Hid (K.isNum s=K.madeOf R.dig 9 ⟨(Lib.trimPrefix s.data.toList [45]).toArray⟩):=rfl
 generalize K.isNum s=q at*
 rw[<-HK.out]at hm
 have ht':∀w,Calls Tryz.prog 230 #[.string s,.string ⟨#[45]⟩] w λe w'=>e=.returned (.string ⟨(Lib.trimPrefix s.data.toList [45]).toArray⟩)/\w'=w:=ht
 clear ht HK
 generalize(ByteArray.mk (Lib.trimPrefix s.data.toList [45]).toArray)=t at*
 go_enter Tryz.func219,Tryz.ntmps219
 go_wp2_with (first |(go_at_call 230;refine(ht' _).mono ?_;rintro x w' ⟨rfl,rfl⟩)|(go_at_call 198;refine(hm _).mono ?_;rintro x w' ⟨rfl,rfl⟩))
 go_ret
 exact⟨rfl,rfl⟩
theorem op_sign(c:UInt8):decide (0<=Lib.indexByte [43,45,42,47,38,94,60,61] c)=R.sign [c]:=by
 by_cases h1:c=43
 · subst h1;decide
 by_cases h2:c=45
 · subst h2;decide
 by_cases h3:c=42
 · subst h3;decide
 by_cases h4:c=47
 · subst h4;decide
 by_cases h5:c=38
 · subst h5;decide
 by_cases h6:c=94
 · subst h6;decide
 by_cases h7:c=60
 · subst h7;decide
 by_cases h8:c=61
 · subst h8;decide
 simp[Lib.indexByte,R.sign,h1,h2,h3,h4,h5,h6,h7,h8,Ne.symm h1,Ne.symm h2,Ne.symm h3,Ne.symm h4,Ne.symm h5,Ne.symm h6,Ne.symm h7,Ne.symm h8]
theorem sign_long{s:ByteArray}(h:¬s.size=1):R.sign s.toList=false:=by
 have hl:s.toList.length=s.size:=by rw[ByteArray.toList_eq];rfl
 have ne:∀x:UInt8,(s.toList==[x])=false:=λx=>beq_no (λe=>by rw[e]at hl;simp at hl;omega)
 unfold R.sign
 rw[ne,ne,ne,ne,ne,ne,ne,ne]
 rfl
theorem isOp_c(s:ByteArray)(w:World)(hs:s.size<=1000):Calls Tryz.prog 228 #[.string s] w λx w'=>x=.returned (.bool (R.sign s.toList))/\w'=w:=by
 by_cases hl:s.size=1
 · obtain⟨c,rfl⟩:∃c,s=⟨#[c]⟩:=by
    obtain⟨d⟩:=s
    have:d.size=1:=hl
    obtain⟨c,hc⟩:=Array.size_eq_one_iff.1 this
    exact⟨c,by rw[hc]⟩
   have hc:=λw=>Tryz.strings_Contains_one ⟨#[43,45,42,47,38,94,60,61]⟩ c w
   have e1:R.sign (ByteArray.toList ⟨#[c]⟩)=R.sign [c]:=by rw[ByteArray.toList_eq]
   rw[e1,<-op_sign c]
   have hc':∀w,Calls Tryz.prog 236 #[.string ⟨#[43,45,42,47,38,94,60,61]⟩,.string ⟨#[c]⟩] w λe w'=>e=.returned (.bool (decide (0<=Lib.indexByte [43,45,42,47,38,94,60,61] c)))/\w'=w:=hc
   clear hc e1
   generalize decide (0<=Lib.indexByte [43,45,42,47,38,94,60,61] c)=q at*
   have hz:(((ByteArray.mk #[c]).size:Int)==1)=true:=rfl
   go_enter Tryz.func228,Tryz.ntmps228
   go_wp2_with (first |(go_at_call 236;refine(hc' _).mono ?_;rintro x w' ⟨rfl,rfl⟩))
   go_ret
   exact⟨rfl,rfl⟩
 · rw[sign_long hl]
   have hz:((s.size:Int)==1)=false:=beq_no (by omega)
   go_enter Tryz.func228,Tryz.ntmps228
   go_wp2_with fail
   go_ret
   exact⟨rfl,rfl⟩
def K.Vars(w:World):Prop:=(∃ev,w.cell? ⟨3,0,none⟩=some ev/\(ev=Value.nilIface∨∃te pe,ev=Value.iface te pe))/\∃ev,w.cell? ⟨4,0,none⟩=some ev/\(ev=Value.nilIface∨∃te pe,ev=Value.iface te pe)
def K.val(s:ByteArray):Int:=match Lib.atoiAll s.data.toList with |.ok v=>v |_=>0
theorem valueOf_c(s:ByteArray)(w:World)(hs:s.size<=1000)(hv:K.Vars w):Calls Tryz.prog 196 #[.string s] w λx w'=>x=.returned (.int .i64 (K.val s))/\Below w.heap.size w w':=by
 cases e:Lib.atoiAll s.data.toList with
 |ok v=>
  have HK:Hid (K.val s=v):=by show _=_;unfold K.val;rw[e]
  have ha:=Tryz.strconv_Atoi_ok s (by omega) v e w
  generalize K.val s=q at*
  have HQ:=HK.out
  subst HQ
  clear HK
  go_enter Tryz.func196,Tryz.ntmps196
  go_wp2_with fail
  refine ha.mono ?_
  rintro x w1 ⟨rfl,hw⟩
  go_wp2_with fail
  go_ret
  refine⟨rfl,?_⟩
  rcases hw with rfl |⟨t,rfl⟩
  · exact Below.refl _ _
  · exact Joins.below_bytesWorld _ _ _ _ (Nat.le_refl _)
 |«syntax»=>
  have HK:Hid (K.val s=0):=by show _=_;unfold K.val;rw[e]
  obtain⟨⟨ev,h1,h2⟩,_⟩:=hv
  have ha:=Tryz.strconv_Atoi_syntax s (by omega) e ev w h1 h2
  go_enter Tryz.func196,Tryz.ntmps196
  go_wp2_with fail
  refine ha.mono ?_
  rintro x w1 ⟨N,rfl,_,_,hw⟩
  go_wp2_with fail
  go_ret
  rw[HK.out]
  exact⟨rfl,hw⟩
 |range=>
  have HK:Hid (K.val s=0):=by show _=_;unfold K.val;rw[e]
  obtain⟨_,⟨ev,h1,h2⟩⟩:=hv
  have ha:=Tryz.strconv_Atoi_range s (by omega) e ev w h1 h2
  go_enter Tryz.func196,Tryz.ntmps196
  go_wp2_with fail
  refine ha.mono ?_
  rintro x w1 ⟨N,rfl,_,_,hw⟩
  go_wp2_with fail
  go_ret
  rw[HK.out]
  exact⟨rfl,hw⟩
end
end Go.Proofs.YtejbgcloblpbfaaGreatDoor
