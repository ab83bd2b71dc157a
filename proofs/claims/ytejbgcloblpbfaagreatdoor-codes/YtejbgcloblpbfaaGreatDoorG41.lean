import Derived.Test.YtejbgcloblpbfaaGreatDoorG39
set_option maxHeartbeats 4000000
set_option maxRecDepth 100000
namespace Go.Proofs.YtejbgcloblpbfaaGreatDoor
open Go.RowKit
open R (Nd)
open K (Nm Ex Do)
theorem SAt.setM{w:World}{lim sb gM gC:Nat}{M C:List Int}(h:SAt w lim sb gM gC M C){k:Nat}(hk:k<M.length)(v:Int):SAt (w.setCell ⟨gM,k,none⟩ (.int .i64 v)) lim sb gM gC (M.set k v) C:=by
 obtain⟨⟨aM,cM,h1,h2⟩,h3,h4,h5,h6,h7⟩:=h
 obtain⟨rest,h8⟩:=h3 (by omega)
 refine⟨⟨aM,cM,?_,λhp=>h2 (by rw[List.length_set]at hp;exact hp)⟩,λ_=>⟨rest,?_⟩,h4.set_other (a:=⟨gM,k,none⟩) (λe=>(h6.1 (by omega)).1 e.symm) _,h5,⟨λhp=>h6.1 (by rw[List.length_set]at hp;exact hp),h6.2⟩,by simpa[World.setCell]using h7⟩
 · rw[List.length_set];exact h1.set_other (a:=⟨gM,k,none⟩) (h6.1 (by omega)).2 _
 · rw[List.map_set,<-List.set_append_left _ _ (by rw[List.length_map];exact hk)]
   exact h8.set k _
theorem SAt.setC{w:World}{lim sb gM gC:Nat}{M C:List Int}(h:SAt w lim sb gM gC M C)(k:Nat)(v:Int):SAt (w.setCell ⟨gC,k,none⟩ (.int .i64 v)) lim sb gM gC M (C.set k v):=by
 obtain⟨⟨aM,cM,h1,h2⟩,h3,h4,h5,h6,h7⟩:=h
 refine⟨⟨aM,cM,?_,h2⟩,λhp=>?_,?_,h5,h6,by simpa[World.setCell]using h7⟩
 · rw[List.length_set];exact h1.set_other (a:=⟨gC,k,none⟩) h6.2 _
 · obtain⟨rest,h8⟩:=h3 hp
   exact⟨rest,h8.set_other (a:=⟨gC,k,none⟩) (h6.1 hp).1 _⟩
 · rw[List.map_set];exact h4.set k _
theorem Left2.setM{w:World}{lim sb gM gC N:Nat}{W:List Int}(h:Left2 w lim sb gM gC N W){k:Nat}(hk:k<N)(v:Int):Left2 (w.setCell ⟨gM,k,none⟩ (.int .i64 v)) lim sb gM gC N (W.set k v):=by
 refine⟨?_,by rw[List.length_set];exact h.len⟩
 have hl:=h.len
 rw[List.take_set,List.drop_set_of_lt hk]
 exact h.at_.setM (by rw[List.length_take];omega) v
theorem Left2.setC{w:World}{lim sb gM gC N:Nat}{W:List Int}(h:Left2 w lim sb gM gC N W)(k:Nat)(v:Int):Left2 (w.setCell ⟨gC,k,none⟩ (.int .i64 v)) lim sb gM gC N (W.set (N+k) v):=by
 refine⟨?_,by rw[List.length_set];exact h.len⟩
 rw[List.take_set_of_le (by omega),List.drop_set,if_neg (by omega),Nat.add_sub_cancel_left]
 exact h.at_.setC k v
theorem Left2.below{w w':World}{lim sb gM gC N:Nat}{W:List Int}(h:Left2 w lim sb gM gC N W)(hb:Below w.heap.size w w'):Left2 w' lim sb gM gC N W:=⟨h.at_.below hb,h.len⟩
theorem Left2.still{w w':World}{lim sb gM gC N:Nat}{W:List Int}(h:Left2 w lim sb gM gC N W)(e:w'.heap=w.heap):Left2 w' lim sb gM gC N W:=by
 obtain⟨⟨⟨aM,cM,h1,h2⟩,h3,h4,h5,h6,h7⟩,hl⟩:=h
 refine⟨⟨⟨aM,cM,h1.of_block (by rw[e]),h2⟩,λhp=>?_,h4.of_block (by rw[e]),h5,h6,by rw[e];exact h7⟩,hl⟩
 obtain⟨rest,h8⟩:=h3 hp
 exact⟨rest,h8.of_block (by rw[e])⟩
theorem But3.setM{sb gM gC:Nat}{a w:World}(h:But3 sb gM gC a w)(k:Nat)(v:Value):But3 sb gM gC a (w.setCell ⟨gM,k,none⟩ v):=
 h.trans ⟨rfl,rfl,rfl,by simp[World.setCell],λ_ _ n1 _=>Below.heap_setCell _ _ _ _ n1⟩
theorem But3.setC{sb gM gC:Nat}{a w:World}(h:But3 sb gM gC a w)(k:Nat)(v:Value):But3 sb gM gC a (w.setCell ⟨gC,k,none⟩ v):=
 h.trans ⟨rfl,rfl,rfl,by simp[World.setCell],λ_ _ _ n2=>Below.heap_setCell _ _ _ _ n2⟩
theorem But3.drew{sb gM gC:Nat}{a w:World}(h:But3 sb gM gC a w):But3 sb gM gC a w.drew:=⟨h.os,h.tape,h.output,h.size,h.block⟩
theorem va_all{N:Nat}{nodes:List Nd}{e:Ex}(he:VaDoes N nodes e){w:World}{lim b sb gM gC k:Nat}{W:List Int}(hP:PAt w lim b nodes)(hS:Left2 w lim sb gM gC N W)(h54:N<=54)(hlim:lim<=w.heap.size)(hn:NE N nodes e k):
 Calls Tryz.prog 91 #[P b,P sb,.int .i64 (k:Int)] w λx w'=>x=.returned (.int .i64 (V.ev W e))/\Below w.heap.size w w':=by
 have hl:=hS.len
 have h:=he w lim b sb gM gC k _ _ hP hS.at_ (by rw[List.length_take];omega) (by rw[List.length_drop];omega) h54 hlim hn
 rw[List.take_append_drop]at h
 exact h
theorem st_set(N:Nat)(nodes:List Nd)(p:Int)(m:Nm)(e:Ex)(he:VaDoes N nodes e):StDoes N nodes (.set p m e):=by
 intro w lim b sb gM gC k W hP hS h54 hlim hn
 unfold ND at hn
 obtain⟨n,x,hn,hw,hL,hpo,p0,pN,hne⟩:=hn
 obtain⟨g,la,lc,ta,tc,cap,nc,hg,hl,_⟩:=hP.nc hn
 obtain⟨q,rfl,hq,hqc⟩:=hl 0 x (by rw[hL];rfl)
 have hkl:k<nodes.length:=(List.getElem?_eq_some_iff.1 hn).1
 have hkz:(k:Int)<(nodes.length:Int):=by omega
 have few:=hP.few
 have hbl:=hP.lt
 obtain⟨j,hj⟩:=Int.eq_ofNat_of_zero_le p0
 have hjN:j<N:=by omega
 have HV:Hid (V.rd (.set p m e) W=W.set j (V.ev W e)):=by show _=_;rw[V.rd,hj];rfl
 rw[HV.out]
 clear HV
 obtain⟨wd,n1,⟨t0,t1,t2,t3,t4⟩,nL,n2,n5⟩:=n
 obtain⟨c7,d0,d1,d2,d3,d4,d5,d6,d7,d8,d9⟩:=nc
 dsimp only at*
 have e3:t3=(j:Int):=by omega
 subst hw hL e3
 generalize n2.length=tn at*
 have B0:Below w.heap.size w (w.alloc (.cells #[.string ⟨#[115,101,116]⟩,.int .i64 n1,.string t0,.int .i64 t1,.bool t2,.int .i64 (j:Int),.int .i64 t4,.slice (some ⟨q,0,none⟩) 1 lc,.slice ta tn tc,.bool n5] 145 (0,0))):=(Below.refl _ _).alloc (Nat.le_refl _) _
 have bx:=At.alloc_new w [.string ⟨#[115,101,116]⟩,.int .i64 n1,.string t0,.int .i64 t1,.bool t2,.int .i64 (j:Int),.int .i64 t4,.slice (some ⟨q,0,none⟩) 1 lc,.slice ta tn tc,.bool n5] 145
 have S0:=hS.below B0
 have hcall:=va_all he (hP.keep (B0.mono hlim)) S0 h54 (Nat.le_trans hlim B0.size) hne
 have qc:=(B0.cell (p:=⟨q,0,none⟩) (show q<w.heap.size by omega)).trans hqc
 have hql:q<w.heap.size:=by omega
 have hWl:=hS.len
 clear hne hpo p0 pN hj hl
 generalize V.ev W e=v at*
 generalize nodes.length=NL at*
 go_enter Tryz.func65,Tryz.ntmps65
 go_wp2_with fail
 refine hcall.mono ?_
 rintro y w1 ⟨rfl,hb1⟩
 have S1:=S0.below hb1
 have BW:But3 sb gM gC w w1:=But3.of_below (B0.trans (hb1.mono B0.size))
 have bx1:=bx.of_block (hb1.block _ bx.lt)
 have k0:=bx1.cell 0
 have k5:=bx1.cell 5
 simp only[List.getElem?_cons_zero,List.getElem?_cons_succ]at k0 k5
 have hl1:=bx1.lt
 obtain⟨aM,cM,hs,haM⟩:=S1.at_.cells
 have hML:(W.take N).length=N:=by rw[List.length_take];omega
 have sa:=haM (by omega)
 subst sa
 have s0:=hs.cell 0
 simp only[List.getElem?_cons_zero]at s0
 rw[hML]at s0
 have hsl:=hs.lt
 have cw:=S1.at_.word (k:=j) (by omega)
 obtain⟨rest,hmm⟩:=S1.at_.mem (by omega)
 have fw:=hmm.frozen j
 have hz:(j:Int)<(N:Int):=by omega
 have R1:=(S1.still (w':=w1.drew) rfl).setM hjN v
 go_upto_region 4 with fail
 go_region
 all_goals
  go_wp2_with fail
  go_end0
  exact⟨rfl,R1,BW.drew.setM j _⟩
theorem V.rounds_step'(f:List Int->List Int)(k i m:Nat)(W:List Int)(h:i<m):V.rounds f k i (m-i) W=V.rounds f k (i+1) (m-(i+1)) (f (W.set k (i:Int))):=by
 rw[show m-i=(m-(i+1))+1 by omega,V.rounds]
theorem st_for(N:Nat)(nodes:List Nd)(p:Int)(m:Nm)(e:Ex)(l:List Do)(he:VaDoes N nodes e)(hL1:AllDoes N nodes l):StDoes N nodes (.fors p m e l):=by
 intro w lim b sb gM gC k W hP hS h54 hlim hn
 unfold ND at hn
 obtain⟨n,x,l1,hn,hw,hL,p0,p2,hpl,ne,nl⟩:=hn
 obtain⟨g,la,lc,ta,tc,cap,nc,hg,hl,_,hcl,_⟩:=hP.nc hn
 obtain⟨q,rfl,hq,hqc⟩:=hl 0 x (by rw[hL];rfl)
 have hkl:k<nodes.length:=(List.getElem?_eq_some_iff.1 hn).1
 have hkz:(k:Int)<(nodes.length:Int):=by omega
 have few:=hP.few
 have hbl:=hP.lt
 obtain⟨pj,hpj⟩:=Int.eq_ofNat_of_zero_le p0
 have hpj2:pj<2:=by omega
 have epl:m.place.toNat=N+pj:=by omega
 have HV:Hid (V.rd (.fors p m e l) W=V.rounds (λW=>V.rds l W) (N+pj) 0 (V.times (V.ev W e)) W):=by show _=_;rw[V.rd,epl]
 rw[HV.out]
 clear HV
 obtain⟨F,hF⟩:∃F,F=(λW=>V.rds l W):=⟨_,rfl⟩
 rw[<-hF]
 have HF:Hid (∀W,F W=V.rds l W):=λW=>by rw[hF]
 clear hF
 obtain⟨wd,n1,⟨t0,t1,t2,t3,t4⟩,nL,n2,n5⟩:=n
 obtain⟨c7,d0,d1,d2,d3,d4,d5,d6,d7,d8,d9⟩:=nc
 dsimp only at*
 subst hw hL hpj
 have hl1:∀(j:Nat) u,l1[j]?=some u->w.cell? ⟨q,1+j,none⟩=some (.int .i64 (u:Int)):=λj u hu=>by
  obtain⟨q',e',_,h'⟩:=hl (j+1) (u:Int) (by rw[List.getElem?_cons_succ,List.getElem?_map,hu];rfl)
  cases e'
  rw[Nat.add_comm]
  exact h'
 simp only[List.length_cons,List.length_map]at d7 hcl
 have lo:=hS.at_.lo
 have hca:=fun(w':World) (W':List Int) (hb:But3 sb gM gC w w') (h2:Left2 w' lim sb gM gC N W')=>hL1 w' lim b sb gM gC W' (some ⟨q,1,none⟩) 1 (lc-1) l1 (hP.keep (hb.low lo.2.1 lo.2.2 hlim)) h2 h54 (Nat.le_trans hlim hb.size) nl (λj u hu=>⟨q,rfl,hq,((hb.low lo.2.1 lo.2.2 hlim).cell (p:=⟨q,1+j,none⟩) hq).trans (hl1 j u hu)⟩) (by omega)
 have hca0:=fun(w':World) (W':List Int) (hb:But3 sb gM gC w w') (h2:Left2 w' lim sb gM gC N W') (h0:l1.length=0)=>hL1 w' lim b sb gM gC W' (some ⟨q,0,none⟩) 0 0 l1 (hP.keep (hb.low lo.2.1 lo.2.2 hlim)) h2 h54 (Nat.le_trans hlim hb.size) nl (λj u hu=>by have:=(List.getElem?_eq_some_iff.1 hu).1;omega) (by omega)
 generalize l1.length=ll at*
 generalize n2.length=tn at*
 have B0:Below w.heap.size w (w.alloc (.cells #[.string ⟨#[102,111,114]⟩,.int .i64 n1,.string t0,.int .i64 t1,.bool t2,.int .i64 (pj:Int),.int .i64 t4,.slice (some ⟨q,0,none⟩) (ll+1) lc,.slice ta tn tc,.bool n5] 145 (0,0))):=(Below.refl _ _).alloc (Nat.le_refl _) _
 have bx:=At.alloc_new w [.string ⟨#[102,111,114]⟩,.int .i64 n1,.string t0,.int .i64 t1,.bool t2,.int .i64 (pj:Int),.int .i64 t4,.slice (some ⟨q,0,none⟩) (ll+1) lc,.slice ta tn tc,.bool n5] 145
 have hcall:=va_all he (hP.keep (B0.mono hlim)) (hS.below B0) h54 (Nat.le_trans hlim B0.size) ne
 have qc:=(B0.cell (p:=⟨q,0,none⟩) (show q<w.heap.size by omega)).trans hqc
 have hql:q<w.heap.size:=by omega
 have hz0:(0:Int)<(ll:Int)+1:=by omega
 have hz1:(1:Int)<=(ll:Int)+1:=by omega
 have hWl:=hS.len
 clear ne nl hl hl1 hL1 p0 p2 hpl epl
 generalize V.ev W e=v at*
 obtain⟨T,hT⟩:∃T,V.times v=T:=⟨_,rfl⟩
 have HR:Hid (∀j:Nat,((j:Int)<v/\(j:Int)<5)↔j<T):=by
  subst hT
  intro j
  unfold V.times
  repeat' split
  all_goals omega
 have hT5:T<=5:=by
  subst hT
  unfold V.times
  repeat' split
  all_goals omega
 rw[hT]
 clear hT
 generalize nodes.length=NL at*
 have nLM:w.heap.size≠gM:=by have:=hS.at_.lt;omega
 have nLC:w.heap.size≠gC:=by have:=hS.at_.cnt.lt;omega
 go_enter Tryz.func65,Tryz.ntmps65
 go_wp2_with fail
 refine hcall.mono ?_
 rintro y w1 ⟨rfl,hb1⟩
 have B1:=B0.trans (hb1.mono B0.size)
 have bx1:=bx.of_block (hb1.block _ bx.lt)
 have k0:=bx1.cell 0
 simp only[List.getElem?_cons_zero]at k0
 have BW:But3 sb gM gC w w1:=But3.of_below B1
 go_wp2_with fail
 go_loopg [9] T (λgk i wr=>∃(j:Nat) (W':List Int),j+gk=T/\i=.int .i64 (j:Int)/\Left2 wr lim sb gM gC N W'/\But3 sb gM gC w1 wr/\Hid (V.rounds F (N+pj) 0 T W=V.rounds F (N+pj) j (T-j) W'))
 case atStart=>exact⟨0,W,by omega,rfl,hS.below B1,But3.refl _ _ _ _,rfl⟩
 case round=>
  obtain⟨j,W',hj,rfl,rr,Bk,HK⟩:=hrel
  cases gk with
  |zero=>
   have hno:¬((j:Int)<v/\(j:Int)<5):=λh=>by have:=(HR.out j).1 h;omega
   have HX:Hid (V.rounds F (N+pj) 0 T W=W'):=by show _=_;rw[HK.out,show T-j=0 by omega];rfl
   by_cases hjv:(j:Int)<v
   · have h5:¬((j:Int)<5):=λh=>hno ⟨hjv,h⟩
     clear hno
     go_wp2_with fail
     go_end0
     rw[HX.out]
     exact⟨rfl,rr,BW.trans Bk⟩
   · clear hno
     go_wp2_with fail
     go_end0
     rw[HX.out]
     exact⟨rfl,rr,BW.trans Bk⟩
  |succ g1=>
   obtain⟨hjv,h5⟩:=(HR.out j).2 (by omega)
   have bx2:=bx1.of_block (Bk.block _ bx1.lt nLM nLC)
   have q5:=bx2.cell 5
   have q7:=bx2.cell 7
   simp only[List.getElem?_cons_zero,List.getElem?_cons_succ]at q5 q7
   obtain⟨aM,cM,hs,haM⟩:=rr.at_.cells
   have hCl:(W'.drop N).length=2:=by rw[List.length_drop,rr.len];omega
   have s1:=hs.cell 1
   simp only[List.getElem?_cons_zero,List.getElem?_cons_succ]at s1
   have hsl:=hs.lt
   have hz:(pj:Int)<((W'.drop N).length:Int):=by omega
   have cc:=rr.at_.count (k:=pj) (by omega)
   have fc:=rr.at_.cnt.frozen pj
   have rs:=(rr.still (w':=wr.drew) rfl).setC pj (j:Int)
   have Bs:=Bk.drew.setC pj (.int .i64 (j:Int))
   have bx3:At (wr.drew.setCell ⟨gC,pj,none⟩ (.int .i64 (j:Int))) w.heap.size 145 [.string ⟨#[102,111,114]⟩,.int .i64 n1,.string t0,.int .i64 t1,.bool t2,.int .i64 (pj:Int),.int .i64 t4,.slice (some ⟨q,0,none⟩) (ll+1) lc,.slice ta tn tc,.bool n5]:=(bx2.of_block rfl).set_other (a:=⟨gC,pj,none⟩) nLC _
   have q7':=bx3.cell 7
   simp only[List.getElem?_cons_zero,List.getElem?_cons_succ]at q7'
   have hc:=hca _ _ (BW.trans Bs) rs
   have hc0:=hca0 _ _ (BW.trans Bs) rs
   generalize(W'.drop N).length=CL at*
   by_cases hlc:lc-1=0
   · have ell:ll=0:=by omega
     subst ell
     have elc:lc=1:=by omega
     subst elc
     have hc0':=hc0 (by first |rfl |trivial)
     go_upto_region 16 with fail
     go_region
     all_goals
      go_wp2_with fail
      refine hc0'.mono ?_
      rintro y w4 ⟨rfl,r4,hb4⟩
      rw[<-HF.out]at r4
      go_wp2_with fail
      go_roundg g1
      case measure=>omega
      case rel=>
       refine⟨j+1,F (W'.set (N+pj) (j:Int)),by omega,by go_num,r4,Bs.trans hb4,HK.out.trans (V.rounds_step' F (N+pj) j T W' (by omega))⟩
   · clear hc0
     go_upto_region 16 with fail
     go_region
     all_goals
      go_wp2_with fail
      refine hc.mono ?_
      rintro y w4 ⟨rfl,r4,hb4⟩
      rw[<-HF.out]at r4
      go_wp2_with fail
      go_roundg g1
      case measure=>omega
      case rel=>
       refine⟨j+1,F (W'.set (N+pj) (j:Int)),by omega,by go_num,r4,Bs.trans hb4,HK.out.trans (V.rounds_step' F (N+pj) j T W' (by omega))⟩
end Go.Proofs.YtejbgcloblpbfaaGreatDoor
