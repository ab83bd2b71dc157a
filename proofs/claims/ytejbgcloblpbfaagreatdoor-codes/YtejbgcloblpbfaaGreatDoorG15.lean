import Derived.Test.YtejbgcloblpbfaaGreatDoorG14
set_option maxHeartbeats 2000000
set_option maxRecDepth 20000
namespace Go.Proofs.YtejbgcloblpbfaaGreatDoor
section
open Go.RowKit
namespace Y
theorem hpush_c{w:World}{pb g:Nat}{h:List Int}{cap:Nat}(p:PoolAt w pb g h cap)(hc:h.length<cap)(hf:h.length<100000)(x:Int):
 Calls Tryz.prog 183 #[PV pb,.iface 3 (.int .i64 x)] w λy w'=>y=.returned (.tuple #[])/\PoolAt w' pb g (pushL h x) cap/\Two pb g w w':=by
 have h1:=pushm_c p hc hf x
 have hm:=m_push w pb
 have few:=hide p.few
 clear p
 go_enter Tryz.func183,Tryz.ntmps183
 go_wp2_with fail
 refine h1.mono ?_
 rintro y w1 ⟨rfl,P1,T1⟩
 have hdc:=P1.head.cell 0
 simp only[List.getElem?_cons_zero]at hdc
 have hml:=m_len w1 pb _ _ _ hdc
 have hle:=len_c w1 (some ⟨g,0,none⟩) (h++[x]).length cap
 obtain⟨L,hL⟩:∃L,Hid ((h++[x]).length=L):=⟨_,rfl⟩
 rw[hL.out]at hml hle
 go_wp2_with fail
 refine hle.mono ?_
 rintro y w2 ⟨rfl,rfl⟩
 have hup:=up_c P1 (j:=h.length) (by simp) (F:=h.length+1) (by omega)
 have e1:wrap64 ((L:Int)-1)=(h.length:Int):=by
  have e:=hL.out
  have:=few.out
  simp at e
  unfold wrap64
  omega
 have HP1:=hide P1
 clear P1
 go_wp2_with fail
 refine hup.mono ?_
 rintro y w3 ⟨rfl,P3,B3⟩
 go_wp2_with fail
 go_end0
 exact⟨rfl,P3,T1.trans (Two.of_but B3)⟩
theorem hpop_c{w:World}{pb g:Nat}{h:List Int}{cap:Nat}(p:PoolAt w pb g h cap){n:Nat}(hn:h.length=n+1):
 Calls Tryz.prog 194 #[PV pb] w λy w'=>y=.returned (.iface 3 (.int .i64 (hg h 0)))/\PoolAt w' pb g ((popL h).take n) cap/\Two pb g w w':=by
 have hdc:=p.head.cell 0
 simp only[List.getElem?_cons_zero]at hdc
 have hml:=m_len w pb _ _ _ hdc
 have hle:=len_c w (some ⟨g,0,none⟩) h.length cap
 have hms:=m_swap w pb _ _ _ hdc
 have hsw:=swap_c p (i:=0) (j:=n) (by omega) (by omega)
 have e1:wrap64 ((h.length:Int)-1)=(n:Int):=by
  have:=p.few
  have:=p.cap
  unfold wrap64
  omega
 have HN:=hide hn
 clear p hn
 go_enter Tryz.func194,Tryz.ntmps194
 go_wp2_with fail
 refine hle.mono ?_
 rintro y w1 ⟨rfl,rfl⟩
 go_wp2_with fail
 refine hsw.mono ?_
 rintro y w2 ⟨rfl,P2,B2⟩
 have hdn:=down_c P2 (n:=n) (by rw[sw_len];have:=HN.out;omega) 0 (Nat.zero_le _) (F:=h.length) (by have:=HN.out;omega)
 have e2:Hid (downL h.length (sw h 0 n) 0 n=popL h):=by
  show downL h.length (sw h 0 n) 0 n=downL h.length (sw h 0 (h.length-1)) 0 (h.length-1)
  have:=HN.out
  rw[show h.length-1=n by omega]
 rw[e2.out]at hdn
 clear P2
 go_wp2_with fail
 refine hdn.mono ?_
 rintro y w3 ⟨⟨bb,rfl⟩,P3,B3⟩
 have hpm:=popm_c P3 (n:=n) (by rw[popL_len];exact HN.out)
 have hmp:=m_pop w3 pb
 have e3:Hid (hg (popL h) n=hg h 0):=by
  have e:=pop_last (h:=h) (by have:=HN.out;omega)
  have:=HN.out
  rw[show h.length-1=n by omega]at e
  exact e
 rw[e3.out]at hpm
 clear P3
 go_wp2_with fail
 refine hpm.mono ?_
 rintro y w4 ⟨rfl,P4,T4⟩
 go_wp2_with fail
 go_ret
 exact⟨rfl,P4,((Two.of_but B2).trans (Two.of_but B3)).trans T4⟩
structure Pool(w:World)(pb g cap:Nat)(l:List Nat):Prop where
 rep:∃h c,PoolAt w pb g h c/\cap<=c/\l.length<=cap/\cap<=1000/\HP h l
theorem Pool.lt{w:World}{pb g cap:Nat}{l:List Nat}(p:Pool w pb g cap l):pb<w.heap.size/\g<w.heap.size/\pb≠g/\l.length<=cap:=by
 obtain⟨h,c,a,_,hl,_,b⟩:=p.rep
 exact⟨a.lt.1,a.lt.2,a.ne,hl⟩
theorem Pool.srt{w:World}{pb g cap:Nat}{l:List Nat}(p:Pool w pb g cap l):Srt l:=by
 obtain⟨h,c,a,_,_,_,b⟩:=p.rep
 exact b.srt
theorem Pool.keep{w w':World}{pb g cap:Nat}{l:List Nat}(p:Pool w pb g cap l)(h1:w'.heap[pb]?=w.heap[pb]?)(h2:w'.heap[g]?=w.heap[g]?):Pool w' pb g cap l:=by
 obtain⟨h,c,a,hc,hl,hk,b⟩:=p.rep
 exact⟨h,c,a.keep h1 h2,hc,hl,hk,b⟩
theorem take_c{w:World}{pb g cap a:Nat}{l:List Nat}(p:Pool w pb g cap (a::l)):
 Calls Tryz.prog 159 #[.pointer (some ⟨pb,0,none⟩)] w λy w'=>y=.returned (.int .i64 (a:Int))/\Pool w' pb g cap l/\Two pb g w w':=by
 obtain⟨h,c,p1,hcc,hll,hkk,p2⟩:=p.rep
 have hlen:=p2.len
 simp only[List.length_cons]at hlen hll
 have hp:=hpop_c p1 hlen
 have e:=p2.first
 have hpp:=p2.pop
 rw[hlen,Nat.add_sub_cancel]at hpp
 have ta:∀(x:Int) (w:World),(Instr.typeAssert (.iface 3 (.int .i64 x)) 20 3 false).run Tryz.prog w=.ok (.int .i64 x) w:=λx w=>by kernel_rfl
 rw[e]at hp
 have ta':=ta (a:Int)
 clear ta
 have HPP:=hide hpp
 have HC:=hide (show cap<=c/\l.length<=cap/\cap<=1000 from⟨hcc,by omega,hkk⟩)
 clear hcc hll hkk
 clear hpp p1 p2 p
 go_enter Tryz.func159,Tryz.ntmps159
 go_wp2_with fail
 refine hp.mono ?_
 rintro y w1 ⟨rfl,P1,T1⟩
 go_wp2_with fail
 go_ret
 exact⟨rfl,⟨_,c,P1,HC.out.1,HC.out.2.1,HC.out.2.2,HPP.out⟩,T1⟩
end Y
end
section
open R (Tok tk)
namespace K
def St(J J':S):Prop:=J'.err=0->J.err=0
theorem St.rfl'(J:S):St J J:=id
theorem St.trans{a b c:S}(h:St a b)(k:St b c):St a c:=λe=>h (k e)
theorem step_st(T:List Tok)(J:S):St J (step T J):=id
theorem fail_ne{T:List Tok}{e p:Int}{J:S}(he:e≠0):(fail T e p J).err≠0:=by
 unfold fail;split
 · exact he
 · assumption
theorem fail_st(T:List Tok){e:Int}(he:e≠0)(p:Int)(J:S):St J (fail T e p J):=λh=>absurd h (fail_ne he)
theorem here_ne{T:List Tok}{e:Int}{J:S}(he:e≠0):(here T e J).err≠0:=fail_ne he
theorem take_st(T:List Tok)(f:ByteArray->Bool)(J:S):St J (take T f J):=by
 unfold take;split
 · exact step_st T J
 · exact fail_st T (by decide) _ _
theorem known_st(T:List Tok)(fits:Nm->Bool)(J:S):St J (known T fits J):=by
 unfold known;split
 · exact take_st T _ J
 · exact(take_st T _ J).trans (fail_st T (by decide) _ _)
theorem newName_st(T:List Tok)(J:S):St J (newName T J):=by
 unfold newName;split
 · exact(take_st T _ J).trans (fail_st T (by decide) _ _)
 · exact take_st T _ J
theorem deeper_st(d:Int)(J:S):St J (deeper d J):=id
theorem opened_st(T:List Tok)(J:S):St J (opened T J):=by
 unfold opened op2
 split
 · exact((take_st T _ J).trans (fail_st T (by decide) _ _)).trans (deeper_st _ _)
 · exact(take_st T _ J).trans (deeper_st _ _)
theorem closed_st(T:List Tok)(J:S):St J (closed T J):=(take_st T _ J).trans (deeper_st _ _)
theorem comp_st{T:List Tok}{ex:S->S×Ex}(h:∀J,St J (ex J).1)(p:Int)(J:S):St J (comp T ex p J).1:=by
 unfold comp
 split
 · exact((step_st T J).trans (known_st T _ _)).trans (h _)
 · split
   · exact(((step_st T J).trans (h _)).trans (h _)).trans (h _)
   · split
     · exact((take_st T _ J).trans (h _)).trans (h _)
     · exact fail_st T (by decide) _ _
theorem expr_st(T:List Tok)(f:Nat):∀J,St J (expr T f J).1:=by
 induction f with
 |zero=>intro J;exact St.rfl' J
 |succ f ih=>
  intro J
  rw[expr]
  unfold exB
  split
  · exact((opened_st T J).trans (comp_st ih _ _)).trans (closed_st T _)
  · split
    · exact take_st T _ J
    · exact known_st T _ J
theorem last_no{s:ByteArray}{T:List Tok}(hS:Scans s T){i:Nat}(h:i=T.length-1)(l:List UInt8)(hl:l≠[]):((tk T i).s.toList==l)=false:=by
 rw[h,hS.last]
 show((ByteArray.toList ⟨#[]⟩)==l)=false
 rw[emptyL]
 exact beq_no (λe=>hl e.symm)
theorem comp_good{s:ByteArray}{T:List Tok}(hS:Scans s T){f:Nat}(ih:∀J,0<=J.depth->J.depth<=10->11-J.depth<=(f:Int)->(expr T f J).1.err=0->good (expr T f J).2=true)(p:Int){J:S}(d0:0<=J.depth)(hd:J.depth<=10/\11-J.depth<=(f:Int)∨J.i=T.length-1)(he:(comp T (expr T f) p J).1.err=0):good (comp T (expr T f) p J).2=true:=by
 have step:∀J',Keeps J J'->(J.depth<=10/\11-J.depth<=(f:Int))->(expr T f J').1.err=0->good (expr T f J').2=true:=λJ' k h e=>ih J' (by rw[k.depth];exact d0) (by rw[k.depth];exact h.1) (by rw[k.depth];exact h.2) e
 unfold comp at he ⊢
 split
 · rename_i e1
   rw[if_pos e1]at he
   rcases hd with hd |hd
   · exact step _ ((step_keeps T J).trans (known_keeps T _ _)) hd he
   · rw[last_no hS hd kGet (by decide)]at e1;exact absurd e1 (by decide)
 · rename_i e1
   rw[if_neg e1]at he
   split
   · rename_i e2
     rw[if_pos e2]at he
     rcases hd with hd |hd
     · have k1:=step_keeps T J
       have k2:=k1.trans (expr_keeps T f (K.step T J))
       have k3:=k2.trans (expr_keeps T f (expr T f (K.step T J)).1)
       have he3:(expr T f (expr T f (expr T f (K.step T J)).1).1).1.err=0:=he
       have he2:=expr_st T f _ he3
       have he1:=expr_st T f _ he2
       show good (.cho p _ _ _)=true
       rw[good,step _ k1 hd he1,step _ k2 hd he2,step _ k3 hd he3]
       rfl
     · rw[last_no hS hd kChoose (by decide)]at e2;exact absurd e2 (by decide)
   · rename_i e2
     rw[if_neg e2]at he
     split
     · rename_i e3
       rw[if_pos e3]at he
       rcases hd with hd |hd
       · have k1:=take_keeps T isOpS J
         have k2:=k1.trans (expr_keeps T f (take T isOpS J))
         have he2:(expr T f (expr T f (take T isOpS J)).1).1.err=0:=he
         have he1:=expr_st T f _ he2
         show good (.op p _ _ _)=true
         rw[good,step _ k1 hd he1,step _ k2 hd he2]
         rfl
       · exfalso
         unfold isOpS at e3
         rw[hd,hS.last]at e3
         dsimp only at e3
         rw[emptyL]at e3
         exact absurd e3 (by decide)
     · rename_i e3
       rw[if_neg e3]at he
       exact absurd he (here_ne (by decide))
theorem expr_good{s:ByteArray}{T:List Tok}(hS:Scans s T)(f:Nat):∀J,0<=J.depth->J.depth<=10->11-J.depth<=(f:Int)->(expr T f J).1.err=0->good (expr T f J).2=true:=by
 induction f with
 |zero=>intro J d0 d1 df;omega
 |succ f ih=>
  intro J d0 d1 df he
  rw[expr]at he ⊢
  unfold exB at he ⊢
  split
  · rename_i e1
    rw[if_pos e1]at he
    refine comp_good hS ih _ ?_ ?_ (closed_st T _ he)
    · rw[opened_depth];omega
    · by_cases e:J.depth=10
      · exact Or.inr (opened_deep e)
      · exact Or.inl (by rw[opened_depth];omega)
  · split
    · rfl
    · rfl
end K
end
end Go.Proofs.YtejbgcloblpbfaaGreatDoor
