import Derived.Test.YtejbgcloblpbfaaGreatDoorG41
set_option maxHeartbeats 4000000
set_option maxRecDepth 100000
namespace Go.Proofs.YtejbgcloblpbfaaGreatDoor
open Go.RowKit
open R (Nd)
open K (Nm Ex Do)
theorem st_put(N:Nat)(nodes:List Nd)(p:Int)(m:Nm)(i e:Ex)(hi:VaDoes N nodes i)(he:VaDoes N nodes e):StDoes N nodes (.put p m i e):=by
 intro w lim b sb gM gC k W hP hS h54 hlim hn
 unfold ND at hn
 obtain⟨n,x,y,hn,hw,hL,hpo,hsi,p0,p1,p6,pN,ni,ne⟩:=hn
 obtain⟨g,la,lc,ta,tc,cap,nc,hg,hl,_⟩:=hP.nc hn
 obtain⟨q,rfl,hq,hqc⟩:=hl 0 x (by rw[hL];rfl)
 obtain⟨q',e',_,hqc1⟩:=hl 1 y (by rw[hL];rfl)
 cases e'
 have hkl:k<nodes.length:=(List.getElem?_eq_some_iff.1 hn).1
 have hkz:(k:Int)<(nodes.length:Int):=by omega
 have few:=hP.few
 have hbl:=hP.lt
 have hmd:=V.md_lt (V.ev W i) p1 p6
 obtain⟨j,hj⟩:=Int.eq_ofNat_of_zero_le (show 0<=m.place+V.md (V.ev W i) m.size by omega)
 have hjN:j<N:=by omega
 have HV:Hid (V.rd (.put p m i e) W=W.set j (V.ev W e)):=by show _=_;rw[V.rd,hj];rfl
 rw[HV.out]
 clear HV
 obtain⟨wd,n1,⟨t0,t1,t2,t3,t4⟩,nL,n2,n5⟩:=n
 obtain⟨c7,d0,d1,d2,d3,d4,d5,d6,d7,d8,d9⟩:=nc
 obtain⟨m0,m1,m2,m3,m4⟩:=m
 dsimp only at*
 subst hw hL hpo hsi
 generalize n2.length=tn at*
 have B0:Below w.heap.size w (w.alloc (.cells #[.string ⟨#[112,117,116]⟩,.int .i64 n1,.string t0,.int .i64 t1,.bool t2,.int .i64 t3,.int .i64 t4,.slice (some ⟨q,0,none⟩) 2 lc,.slice ta tn tc,.bool n5] 145 (0,0))):=(Below.refl _ _).alloc (Nat.le_refl _) _
 have bx:=At.alloc_new w [.string ⟨#[112,117,116]⟩,.int .i64 n1,.string t0,.int .i64 t1,.bool t2,.int .i64 t3,.int .i64 t4,.slice (some ⟨q,0,none⟩) 2 lc,.slice ta tn tc,.bool n5] 145
 have S0:=hS.below B0
 have hcall:=va_all hi (hP.keep (B0.mono hlim)) S0 h54 (Nat.le_trans hlim B0.size) ni
 have hcall2:=fun(w':World) (hb:Below w.heap.size w w')=>va_all he (hP.keep (hb.mono hlim)) (hS.below hb) h54 (Nat.le_trans hlim hb.size) ne
 have qc:=(B0.cell (p:=⟨q,0,none⟩) (show q<w.heap.size by omega)).trans hqc
 have hql:q<w.heap.size:=by omega
 have hWl:=hS.len
 generalize V.ev W i=vi at*
 have hpl:=fun(w:World)=>place_c ⟨t0,t1,t2,t3,t4⟩ vi w p0 p1 p6 (show t3<=1000 by omega)
 dsimp only at hpl
 rw[hj]at hpl
 clear ni ne p0 p1 p6 pN hj hl hmd
 generalize V.ev W e=v at*
 generalize nodes.length=NL at*
 go_enter Tryz.func65,Tryz.ntmps65
 go_wp2_with fail
 refine hcall.mono ?_
 rintro r w1 ⟨rfl,hb1⟩
 have B1:=B0.trans (hb1.mono B0.size)
 have bx1:=bx.of_block (hb1.block _ bx.lt)
 have k0:=bx1.cell 0
 have k7:=bx1.cell 7
 simp only[List.getElem?_cons_zero,List.getElem?_cons_succ]at k0 k7
 have q1:=(B1.cell (p:=⟨q,1,none⟩) hql).trans hqc1
 have hc2:=hcall2 _ B1
 go_wp2_with fail
 refine hc2.mono ?_
 rintro r w2 ⟨rfl,hb2⟩
 have B2:=B1.trans (hb2.mono B1.size)
 have bx2:=bx1.of_block (hb2.block _ bx1.lt)
 have S2:=hS.below B2
 have hl2:=bx2.lt
 obtain⟨aM,cM,hs,haM⟩:=S2.at_.cells
 have hML:(W.take N).length=N:=by rw[List.length_take];omega
 have sa:=haM (by omega)
 subst sa
 rw[hML]at hs
 have hsl:=hs.lt
 have hz:(j:Int)<(N:Int):=by omega
 have lo:=S2.at_.lo
 have nes:=S2.at_.ne.1 (by omega)
 have BM:But3 sb gM gC w w2:=But3.of_below B2
 have nLM:w.heap.size≠gM:=by
  have:=hS.at_.lt
  omega
 go_upto_region 7 with fail
 generalize hLL:w.heap.size=L at*
 have KS:∀w':World,Below w2.heap.size w2 w'->(w'.cell? ⟨L,2,none⟩=some (.string t0)/\w'.cell? ⟨L,3,none⟩=some (.int .i64 t1)/\w'.cell? ⟨L,4,none⟩=some (.bool t2)/\w'.cell? ⟨L,5,none⟩=some (.int .i64 t3)/\w'.cell? ⟨L,6,none⟩=some (.int .i64 t4)/\w'.cell? ⟨sb,0,none⟩=some (.slice (some ⟨gM,0,none⟩) N cM)):=λw' hb=>
  ⟨(hb.cell (p:=⟨L,2,none⟩) hl2).trans (bx2.cell 2),(hb.cell (p:=⟨L,3,none⟩) hl2).trans (bx2.cell 3),(hb.cell (p:=⟨L,4,none⟩) hl2).trans (bx2.cell 4),(hb.cell (p:=⟨L,5,none⟩) hl2).trans (bx2.cell 5),(hb.cell (p:=⟨L,6,none⟩) hl2).trans (bx2.cell 6),(hb.cell (p:=⟨sb,0,none⟩) hsl).trans (hs.cell 0)⟩
 have KT:∀w':World,(w'.cell? ⟨L,2,none⟩=some (.string t0)/\w'.cell? ⟨L,3,none⟩=some (.int .i64 t1)/\w'.cell? ⟨L,4,none⟩=some (.bool t2)/\w'.cell? ⟨L,5,none⟩=some (.int .i64 t3)/\w'.cell? ⟨L,6,none⟩=some (.int .i64 t4)/\w'.cell? ⟨sb,0,none⟩=some (.slice (some ⟨gM,0,none⟩) N cM))->∀v,(fun(w':World)=>w'.cell? ⟨L,2,none⟩=some (.string t0)/\w'.cell? ⟨L,3,none⟩=some (.int .i64 t1)/\w'.cell? ⟨L,4,none⟩=some (.bool t2)/\w'.cell? ⟨L,5,none⟩=some (.int .i64 t3)/\w'.cell? ⟨L,6,none⟩=some (.int .i64 t4)/\w'.cell? ⟨sb,0,none⟩=some (.slice (some ⟨gM,0,none⟩) N cM)) (w'.setCell ⟨gM,j,none⟩ v):=λw' hs v=>by
  obtain⟨s1,s2,s3,s4,s5,s6⟩:=hs
  refine⟨?_,?_,?_,?_,?_,?_⟩
  all_goals rw[World.cell?_setCell_far]
  all_goals first |assumption |exact λe=>nLM e.symm |exact λe=>nes.2 e.symm
 have hwd:=fun(w':World) (hb:Below w2.heap.size w2 w')=>(S2.below hb).at_.word (k:=j) (by omega)
 have hfr:=fun(w':World) (hb:Below w2.heap.size w2 w')=>show w'.frozen? ⟨gM,j,none⟩=false by
  obtain⟨rest,hmm⟩:=(S2.below hb).at_.mem (by omega)
  exact hmm.frozen j
 have Bd:Below w2.heap.size w2 w2.drew:=⟨rfl,rfl,rfl,Nat.le_refl _,λ_ _=>rfl⟩
 go_region_held (fun(w':World)=>w'.cell? ⟨L,2,none⟩=some (.string t0)/\w'.cell? ⟨L,3,none⟩=some (.int .i64 t1)/\w'.cell? ⟨L,4,none⟩=some (.bool t2)/\w'.cell? ⟨L,5,none⟩=some (.int .i64 t3)/\w'.cell? ⟨L,6,none⟩=some (.int .i64 t4)/\w'.cell? ⟨sb,0,none⟩=some (.slice (some ⟨gM,0,none⟩) N cM)) (first |exact KT _ (KS _ B3) _ |exact KS _ B3 |exact KS _ Bd) (first |(go_at_call 92;refine(hpl _).mono ?_;rintro z w3 ⟨rfl,hb3⟩;have B3:=Bd.trans (hb3.mono Bd.size);have cw:=hwd _ B3;have fw:=hfr _ B3))
 all_goals
  go_wp2_with fail
  go_end0
  exact⟨rfl,(S2.below B3).setM hjN v,(BM.trans (But3.of_below B3)).setM j _⟩
theorem st_if(N:Nat)(nodes:List Nd)(p:Int)(e:Ex)(l r:List Do)(he:VaDoes N nodes e)(hL1:AllDoes N nodes l)(hR1:AllDoes N nodes r):StDoes N nodes (.ifs p e l r):=by
 intro w lim b sb gM gC k W hP hS h54 hlim hn
 unfold ND at hn
 obtain⟨n,x,l1,l2,hn,hw,hL,hT,ne,nl,nr⟩:=hn
 obtain⟨g,la,lc,ta,tc,cap,nc,hg,hl,ht,hcl,hct⟩:=hP.nc hn
 obtain⟨q,rfl,hq,hqc⟩:=hl 0 x (by rw[hL];rfl)
 have hkl:k<nodes.length:=(List.getElem?_eq_some_iff.1 hn).1
 have hkz:(k:Int)<(nodes.length:Int):=by omega
 have few:=hP.few
 have hbl:=hP.lt
 have HV:Hid (V.rd (.ifs p e l r) W=if V.ev W e=0 then V.rds r W else V.rds l W):=by show _=_;rw[V.rd]
 rw[HV.out]
 clear HV
 obtain⟨wd,n1,⟨t0,t1,t2,t3,t4⟩,nL,n2,n5⟩:=n
 obtain⟨c7,d0,d1,d2,d3,d4,d5,d6,d7,d8,d9⟩:=nc
 dsimp only at*
 subst hw hL hT
 have hl1:∀(j:Nat) u,l1[j]?=some u->w.cell? ⟨q,1+j,none⟩=some (.int .i64 (u:Int)):=λj u hu=>by
  obtain⟨q',e',_,h'⟩:=hl (j+1) (u:Int) (by rw[List.getElem?_cons_succ,List.getElem?_map,hu];rfl)
  cases e'
  rw[Nat.add_comm]
  exact h'
 have hl2:∀(j:Nat) u,l2[j]?=some u->∃q,ta=some ⟨q,0,none⟩/\q<lim/\w.cell? ⟨q,0+j,none⟩=some (.int .i64 (u:Int)):=λj u hu=>by
  obtain⟨q',e',h1,h2⟩:=ht j (u:Int) (by rw[List.getElem?_map,hu];rfl)
  exact⟨q',e',h1,by rw[Nat.zero_add];exact h2⟩
 simp only[List.length_cons,List.length_map]at d7 d8 hcl hct
 have hca:=fun(w':World) (hb:Below w.heap.size w w')=>hL1 w' lim b sb gM gC W (some ⟨q,1,none⟩) 1 (lc-1) l1 (hP.keep (hb.mono hlim)) (hS.below hb) h54 (Nat.le_trans hlim hb.size) nl (λj u hu=>⟨q,rfl,hq,(hb.cell (p:=⟨q,1+j,none⟩) (show q<w.heap.size by omega)).trans (hl1 j u hu)⟩) (by omega)
 have hca0:=fun(w':World) (hb:Below w.heap.size w w') (h0:l1.length=0)=>hL1 w' lim b sb gM gC W (some ⟨q,0,none⟩) 0 0 l1 (hP.keep (hb.mono hlim)) (hS.below hb) h54 (Nat.le_trans hlim hb.size) nl (λj u hu=>by have:=(List.getElem?_eq_some_iff.1 hu).1;omega) (by omega)
 have hcb:=fun(w':World) (hb:Below w.heap.size w w')=>hR1 w' lim b sb gM gC W ta 0 tc l2 (hP.keep (hb.mono hlim)) (hS.below hb) h54 (Nat.le_trans hlim hb.size) nr (λj u hu=>by
  obtain⟨q',e1,e2,e3⟩:=hl2 j u hu
  exact⟨q',e1,e2,(hb.cell (p:=⟨q',0+j,none⟩) (show q'<w.heap.size by omega)).trans e3⟩) (by omega)
 generalize l1.length=ll at*
 generalize l2.length=tn at*
 have B0:Below w.heap.size w (w.alloc (.cells #[.string ⟨#[105,102]⟩,.int .i64 n1,.string t0,.int .i64 t1,.bool t2,.int .i64 t3,.int .i64 t4,.slice (some ⟨q,0,none⟩) (ll+1) lc,.slice ta tn tc,.bool n5] 145 (0,0))):=(Below.refl _ _).alloc (Nat.le_refl _) _
 have bx:=At.alloc_new w [.string ⟨#[105,102]⟩,.int .i64 n1,.string t0,.int .i64 t1,.bool t2,.int .i64 t3,.int .i64 t4,.slice (some ⟨q,0,none⟩) (ll+1) lc,.slice ta tn tc,.bool n5] 145
 have hcall:=va_all he (hP.keep (B0.mono hlim)) (hS.below B0) h54 (Nat.le_trans hlim B0.size) ne
 have qc:=(B0.cell (p:=⟨q,0,none⟩) (show q<w.heap.size by omega)).trans hqc
 have hql:q<w.heap.size:=by omega
 have hz0:(0:Int)<(ll:Int)+1:=by omega
 have hz1:(1:Int)<=(ll:Int)+1:=by omega
 clear ne nl nr hl ht hl1 hl2 hL1 hR1
 generalize V.ev W e=v at*
 generalize V.rds r W=WR at*
 generalize V.rds l W=WL at*
 generalize nodes.length=NL at*
 by_cases hv:v=0
 · subst hv
   rw[if_pos rfl]
   go_enter Tryz.func65,Tryz.ntmps65
   go_wp2_with fail
   refine hcall.mono ?_
   rintro y w1 ⟨rfl,hb1⟩
   have B1:=B0.trans (hb1.mono B0.size)
   have bx1:=bx.of_block (hb1.block _ bx.lt)
   have k0:=bx1.cell 0
   have k8:=bx1.cell 8
   simp only[List.getElem?_cons_zero,List.getElem?_cons_succ]at k0 k8
   have hc:=hcb _ B1
   go_wp2_with fail
   refine hc.mono ?_
   rintro y w2 ⟨rfl,h2,hb2⟩
   go_wp2_with fail
   go_end0
   exact⟨rfl,h2,(But3.of_below B1).trans hb2⟩
 · rw[if_neg hv]
   have hv':(v != 0)=true:=by simp[hv]
   by_cases hlc:lc-1=0
   · have ell:ll=0:=by omega
     subst ell
     have elc:lc=1:=by omega
     subst elc
     go_enter Tryz.func65,Tryz.ntmps65
     go_wp2_with fail
     refine hcall.mono ?_
     rintro y w1 ⟨rfl,hb1⟩
     have B1:=B0.trans (hb1.mono B0.size)
     have bx1:=bx.of_block (hb1.block _ bx.lt)
     have k0:=bx1.cell 0
     have k7:=bx1.cell 7
     simp only[List.getElem?_cons_zero,List.getElem?_cons_succ]at k0 k7
     have hc:=hca0 _ B1 (by first |rfl |trivial)
     go_wp2_with fail
     refine hc.mono ?_
     rintro y w2 ⟨rfl,h2,hb2⟩
     go_wp2_with fail
     go_end0
     exact⟨rfl,h2,(But3.of_below B1).trans hb2⟩
   · go_enter Tryz.func65,Tryz.ntmps65
     go_wp2_with fail
     refine hcall.mono ?_
     rintro y w1 ⟨rfl,hb1⟩
     have B1:=B0.trans (hb1.mono B0.size)
     have bx1:=bx.of_block (hb1.block _ bx.lt)
     have k0:=bx1.cell 0
     have k7:=bx1.cell 7
     simp only[List.getElem?_cons_zero,List.getElem?_cons_succ]at k0 k7
     have hc:=hca _ B1
     go_wp2_with fail
     refine hc.mono ?_
     rintro y w2 ⟨rfl,h2,hb2⟩
     go_wp2_with fail
     go_end0
     exact⟨rfl,h2,(But3.of_below B1).trans hb2⟩
end Go.Proofs.YtejbgcloblpbfaaGreatDoor
