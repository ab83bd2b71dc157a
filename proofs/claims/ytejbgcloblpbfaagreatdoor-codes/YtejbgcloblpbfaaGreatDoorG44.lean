import Derived.Test.YtejbgcloblpbfaaGreatDoorG43
import Derived.Test.YtejbgcloblpbfaaGreatDoorG42
import Derived.Test.YtejbgcloblpbfaaGreatDoorG40
import Derived.Test.YtejbgcloblpbfaaGreatDoorG28
set_option maxHeartbeats 4000000
set_option maxRecDepth 100000
namespace Go.Proofs.YtejbgcloblpbfaaGreatDoor
section
open Go.RowKit
open R (Nd)
open K (Nm Ex Do)
theorem va_get(N:Nat)(nodes:List Nd)(p:Int)(m:Nm)(e:Ex)(he:VaDoes N nodes e):VaDoes N nodes (.get p m e):=by
 intro w lim b sb gM gC k M C hP hS hM hC h54 hlim hn
 unfold NE at hn
 obtain⟨n,x,hn,hw,hL,hpo,hsi,p0,p1,p6,pN,hne⟩:=hn
 obtain⟨g,la,lc,ta,tc,cap,nc,hg,hl,_⟩:=hP.nc hn
 obtain⟨q,rfl,hq,hqc⟩:=hl 0 x (by rw[hL];rfl)
 have hkl:k<nodes.length:=(List.getElem?_eq_some_iff.1 hn).1
 have hkz:(k:Int)<(nodes.length:Int):=by omega
 have few:=hP.few
 have hbl:=hP.lt
 have HV:Hid (V.ev (M++C) (.get p m e)=(M++C).getD (m.place+V.md (V.ev (M++C) e) m.size).toNat 0):=rfl
 rw[HV.out]
 clear HV
 have hmd:=V.md_lt (V.ev (M++C) e) p1 p6
 obtain⟨wd,n1,⟨t0,t1,t2,t3,t4⟩,nL,n2,n5⟩:=n
 obtain⟨c7,d0,d1,d2,d3,d4,d5,d6,d7,d8,d9⟩:=nc
 obtain⟨aM,cM,hs,haM⟩:=hS.cells
 dsimp only at*
 obtain⟨m0,m1,m2,m3,m4⟩:=m
 dsimp only at*
 subst hw hL hpo hsi
 have B0:Below w.heap.size w (w.alloc (.cells #[.string ⟨#[103,101,116]⟩,.int .i64 n1,.string t0,.int .i64 t1,.bool t2,.int .i64 t3,.int .i64 t4,.slice (some ⟨q,0,none⟩) 1 lc,.slice ta n2.length tc,.bool n5] 145 (0,0))):=(Below.refl _ _).alloc (Nat.le_refl _) _
 have bx:=At.alloc_new w [.string ⟨#[103,101,116]⟩,.int .i64 n1,.string t0,.int .i64 t1,.bool t2,.int .i64 t3,.int .i64 t4,.slice (some ⟨q,0,none⟩) 1 lc,.slice ta n2.length tc,.bool n5] 145
 have S0:=hS.below B0
 have hcall:=he _ lim b sb gM gC x M C (hP.keep (B0.mono hlim)) S0 hM hC h54 (Nat.le_trans hlim B0.size) hne
 have qc:=(B0.cell (p:=⟨q,0,none⟩) (show q<w.heap.size by omega)).trans hqc
 generalize V.ev (M++C) e=v at*
 have hpl:=fun(w:World)=>place_c ⟨t0,t1,t2,t3,t4⟩ v w p0 p1 p6 (show t3<=1000 by omega)
 dsimp only at hpl
 obtain⟨j,hj⟩:=Int.eq_ofNat_of_zero_le (show 0<=t3+V.md v t4 by omega)
 have hjN:j<N:=by omega
 have ew:(M++C).getD (t3+V.md v t4).toNat 0=M.getD j 0:=by
  rw[hj,Int.toNat_natCast,List.getD_eq_getElem?_getD,List.getElem?_append_left (by omega),<-List.getD_eq_getElem?_getD]
 rw[ew]
 rw[hj]at hpl
 have hz:(j:Int)<(M.length:Int):=by omega
 have sa:=haM (by omega)
 subst sa
 have ss:=hs.of_block (B0.block _ hs.lt)
 have hw0:∀w',Below (w.alloc (.cells #[.string ⟨#[103,101,116]⟩,.int .i64 n1,.string t0,.int .i64 t1,.bool t2,.int .i64 t3,.int .i64 t4,.slice (some ⟨q,0,none⟩) 1 lc,.slice ta n2.length tc,.bool n5] 145 (0,0))).heap.size (w.alloc (.cells #[.string ⟨#[103,101,116]⟩,.int .i64 n1,.string t0,.int .i64 t1,.bool t2,.int .i64 t3,.int .i64 t4,.slice (some ⟨q,0,none⟩) 1 lc,.slice ta n2.length tc,.bool n5] 145 (0,0))) w'->w'.cell? ⟨gM,j,none⟩=some (.int .i64 (M.getD j 0)):=λw' hb=>(S0.below hb).word (by omega)
 clear ew hj hmd p0 p1 p6 pN hne
 generalize M.getD j 0=val at*
 generalize M.length=ML at*
 generalize C.length=CL at*
 generalize n2.length=tn at*
 generalize nodes.length=NL at*
 go_enter Tryz.func91,Tryz.ntmps91
 go_wp2_with fail
 refine hcall.mono ?_
 rintro y w1 ⟨rfl,hb1⟩
 have BW:=B0.trans (hb1.mono B0.size)
 go_upto_region 11 with fail
 have bx1:=bx.of_block (hb1.block _ bx.lt)
 have ss1:=ss.of_block (hb1.block _ ss.lt)
 have hl1:=bx1.lt
 have hs1:=ss1.lt
 generalize hLL:w.heap.size=L at*
 have KS:∀w':World,Below w1.heap.size w1 w'->(w'.cell? ⟨L,2,none⟩=some (.string t0)/\w'.cell? ⟨L,3,none⟩=some (.int .i64 t1)/\w'.cell? ⟨L,4,none⟩=some (.bool t2)/\w'.cell? ⟨L,5,none⟩=some (.int .i64 t3)/\w'.cell? ⟨L,6,none⟩=some (.int .i64 t4)/\w'.cell? ⟨sb,0,none⟩=some (.slice (some ⟨gM,0,none⟩) ML cM)/\w'.cell? ⟨gM,j,none⟩=some (.int .i64 val)):=λw' hb=>
  ⟨(hb.cell (p:=⟨L,2,none⟩) hl1).trans (bx1.cell 2),(hb.cell (p:=⟨L,3,none⟩) hl1).trans (bx1.cell 3),(hb.cell (p:=⟨L,4,none⟩) hl1).trans (bx1.cell 4),(hb.cell (p:=⟨L,5,none⟩) hl1).trans (bx1.cell 5),(hb.cell (p:=⟨L,6,none⟩) hl1).trans (bx1.cell 6),(hb.cell (p:=⟨sb,0,none⟩) hs1).trans (ss1.cell 0),hw0 _ (hb1.trans (hb.mono hb1.size))⟩
 have Bd:Below w1.heap.size w1 w1.drew:=⟨rfl,rfl,rfl,Nat.le_refl _,λ_ _=>rfl⟩
 go_region_held (fun(w':World)=>w'.cell? ⟨L,2,none⟩=some (.string t0)/\w'.cell? ⟨L,3,none⟩=some (.int .i64 t1)/\w'.cell? ⟨L,4,none⟩=some (.bool t2)/\w'.cell? ⟨L,5,none⟩=some (.int .i64 t3)/\w'.cell? ⟨L,6,none⟩=some (.int .i64 t4)/\w'.cell? ⟨sb,0,none⟩=some (.slice (some ⟨gM,0,none⟩) ML cM)/\w'.cell? ⟨gM,j,none⟩=some (.int .i64 val)) (first |exact KS _ B2 |exact KS _ Bd) (first |(go_at_call 92;refine(hpl _).mono ?_;rintro z w2 ⟨rfl,hb2⟩;have B2:=Bd.trans (hb2.mono Bd.size)))
 all_goals
  go_wp2_with fail
  go_ret
  first |exact⟨rfl,BW.trans (B2.mono (Nat.le_of_lt hl1))⟩|exact⟨rfl,by rw[hLL];exact BW.trans (B2.mono (Nat.le_of_lt hl1))⟩
end
section
open R (Nd)
open K (Nm Ex Do)
theorem va_c(N:Nat)(nodes:List Nd):∀e:Ex,VaDoes N nodes e
 |.num v=>va_num N nodes v
 |.use n=>va_use N nodes n
 |.get p n e=>va_get N nodes p n e (va_c N nodes e)
 |.op p o l r=>va_op N nodes p o l r (va_c N nodes l) (va_c N nodes r)
 |.cho p q y n=>va_cho N nodes p q y n (va_c N nodes q) (va_c N nodes y) (va_c N nodes n)
 |.none=>λ_ _ _ _ _ _ _ _ _ _ _ _ _ _ _ h=>by unfold NE at h;exact h.elim
mutual
theorem st_c(N:Nat)(nodes:List Nd):∀d:Do,StDoes N nodes d
 |.set p n e=>st_set N nodes p n e (va_c N nodes e)
 |.put p n i e=>st_put N nodes p n i e (va_c N nodes i) (va_c N nodes e)
 |.ifs p q y n=>st_if N nodes p q y n (va_c N nodes q) (all_of N nodes y (stl_c N nodes y)) (all_of N nodes n (stl_c N nodes n))
 |.fors p n r l=>st_for N nodes p n r l (va_c N nodes r) (all_of N nodes l (stl_c N nodes l))
 |.none=>λ_ _ _ _ _ _ _ _ _ _ _ _ h=>by unfold ND at h;exact h.elim
theorem stl_c(N:Nat)(nodes:List Nd):∀l:List Do,∀d∈l,StDoes N nodes d
 |[],_,h=>by cases h
 |d::l,d',h=>by
  rcases List.mem_cons.1 h with h |h
  · rw[h];exact st_c N nodes d
  · exact stl_c N nodes l d' h
end
theorem all_c(N:Nat)(nodes:List Nd)(l:List Do):AllDoes N nodes l:=all_of N nodes l (stl_c N nodes l)
end
section
open Go.RowKit
open R (Nd)
open K (Nm Ex Do)
theorem size_alloc'(w:World)(o:Obj):(w.alloc o).heap.size=w.heap.size+1:=by simp
theorem own_at{w:World}{base n:Nat}{v:Value}{l:List Int}(h:w.ownsRow base 3 1 v n (ints l))(hn:0<n):∃g cap rest,v=.slice (some ⟨g,0,none⟩) n cap/\base<=g/\At w g 3 ((l.map λn=>.int .i64 n)++rest):=by
 obtain⟨hx,⟨_,h0⟩|⟨g,cap,cur,hv,hb,hg,hc,_,hs,ht⟩⟩:=h
 · omega
 · refine⟨g,cap,cur.toList.drop n,hv,hb,?_⟩
   unfold At
   have e:(l.map λn=>Value.int .i64 n)++cur.toList.drop n=cur.toList:=by
    have:(l.map λn=>Value.int .i64 n)=cur.toList.take n:=by
     have h2:=ht
     rw[Nat.mul_one]at h2
     exact h2.symm
    rw[this,List.take_append_drop]
   rw[hg,e]
theorem refrun_pos(N:Nat)(hN:N<=54)(h0:0<N)(nodes:List Nd)(l:List Do)(ms:List Int)(hms:ms.length=N)(w:World)(b:Nat)(a:Option Addr)(c:Nat)(ks:List Nat)(gm o cM:Nat)(hP:PAt w w.heap.size b nodes)(hn:NDs N nodes l ks)(hd:w.cell? ⟨b,8,none⟩=some (.slice a ks.length c))(hks:∀(j:Nat) u,ks[j]?=some u->∃q,a=some ⟨q,0,none⟩/\q<w.heap.size/\w.cell? ⟨q,0+j,none⟩=some (.int .i64 (u:Int)))(h100:ks.length<=9223372036854775807)(hgm:gm<w.heap.size)(hM:∀(j:Nat) u,ms[j]?=some u->w.cell? ⟨gm,o+j,none⟩=some (.int .i64 u)):
 Calls Tryz.prog 23 #[P b,.slice (some ⟨gm,o,none⟩) N cM] w λx w'=>(∃g cR rest,x=.returned (.slice (some ⟨g,0,none⟩) N cR)/\w.heap.size<=g/\At w' g 3 ((((V.rds l (ms++[0,0])).take N).map λn=>.int .i64 n)++rest))/\Below w.heap.size w w':=by
 obtain⟨j0,ji,jz0,jz1,jz2⟩:=info_parts info_int
 have hmk:=run_make_row' (P:=Tryz.prog) 32 3 (.int .i64 0) 8 Tryz.underlying32 info_int rfl .i64 .i64 2 (by omega) (by omega)
 have e2:((2:Nat):Int)=2:=rfl
 rw[e2]at hmk
 have aC:=made_at w 2 3
 have bS:=At.alloc_new (w.alloc (.cells (madeCells #[.int .i64 0] 2) 3 (0,0))) [.slice none 0 0,.slice (some ⟨w.heap.size,0,none⟩) 2 2] 100
 have B0:Below w.heap.size w ((w.alloc (.cells (madeCells #[.int .i64 0] 2) 3 (0,0))).alloc (.cells #[.slice none 0 0,.slice (some ⟨w.heap.size,0,none⟩) 2 2] 100 (0,0))):=((Below.refl _ _).alloc (Nat.le_refl _) _).alloc (by simp) _
 have aC1:=aC.alloc (.cells #[.slice none 0 0,.slice (some ⟨w.heap.size,0,none⟩) 2 2] 100 (0,0))
 have HC:=hide aC1
 rw[size_alloc']at bS
 have HS:=hide bS
 have hlen:(ints ms).length=N*1:=by unfold ints;rw[List.length_map,Nat.mul_one];exact hms
 have hone:∀u∈ints ms,u.oneCell'=true:=by
  intro u hu
  unfold ints at hu
  obtain⟨x,_,rfl⟩:=List.mem_map.1 hu
  rfl
 have hsrc:∀W:World,Below w.heap.size w W->∀(j:Nat) u,(ints ms)[j]?=some u->W.cell? ((⟨gm,o,none⟩:Addr).add j)=some u:=by
  intro W hb j u hu
  unfold ints at hu
  rw[List.getElem?_map]at hu
  cases hx:ms[j]? with
  |none=>rw[hx]at hu;simp at hu
  |some x=>
   rw[hx]at hu
   have ea:(⟨gm,o,none⟩:Addr).add j=⟨gm,o+j,none⟩:=by unfold Addr.add;split<;>simp_all
   rw[ea,hb.cell (p:=⟨gm,o+j,none⟩) hgm,hM j x hx]
   simpa using hu
 have nb1:w.heap.size+1≠b:=by have:=hP.lt;omega
 have nb2:b≠w.heap.size+1:=by omega
 go_enter Tryz.func23,Tryz.ntmps23
 go_wp2_with (at_builtin;refine wpList_append_grows _ rfl (.tmp 13) (.tmp 14) 32 rfl 3 j0 (.int .i64 0) 1 8 Tryz.underlying32 ji jz0 jz1 jz2 rfl (by decide) none 0 0 [] rfl (λ_=>⟨rfl,rfl⟩) rfl (by intro _ h;cases h) ⟨gm,o,none⟩ N cM (ints ms) rfl hlen (by exact hsrc _ B0) hone (by omega) (by unfold maxLen;omega) (by omega) ?_;intro v1 w2 own1 gr1;have zz:=gr1.size;simp only[size_alloc']at zz own1;obtain⟨gM,cR,rest,hv1,hgM,aM⟩:=own_at (by simpa using own1) h0;subst hv1;have bS2:=HS.out.of_block (gr1.block _ HS.out.lt (by simp));have s0:=bS2.cell 0;have s1:=bS2.cell 1;simp only[List.getElem?_cons_zero,List.getElem?_cons_succ]at s0 s1;have f0:=bS2.frozen 0;have sl:=bS2.lt;have B2:Below w.heap.size w w2:=B0.grown gr1 (by simp only[size_alloc'];omega) (λk hk=>by simp at hk);have d8:=(B2.cell (p:=⟨b,8,none⟩) hP.lt).trans hd)
 have aC2:=HC.out.of_block (gr1.block _ HC.out.lt (by simp))
 have B3:=B2.setCell (p:=⟨w.heap.size+1,0,none⟩) (show w.heap.size<=w.heap.size+1 by omega) (.slice (some ⟨gM,0,none⟩) N cR)
 have A3:Left2 (w2.setCell ⟨w.heap.size+1,0,none⟩ (.slice (some ⟨gM,0,none⟩) N cR)) w.heap.size (w.heap.size+1) gM w.heap.size N (ms++[0,0]):=by
  refine⟨?_,by rw[List.length_append,hms];rfl⟩
  rw[List.take_left' hms,List.drop_left' hms]
  refine⟨⟨some ⟨gM,0,none⟩,cR,?_,λ_=>rfl⟩,λ_=>⟨rest,?_⟩,?_,⟨by omega,by omega,Nat.le_refl _⟩,⟨λ_=>⟨by omega,by omega⟩,by omega⟩,?_⟩
  · rw[hms];exact bS2.set 0 _
  · exact aM.set_other (a:=⟨w.heap.size+1,0,none⟩) (show gM≠w.heap.size+1 by omega) _
  · exact aC2.set_other (a:=⟨w.heap.size+1,0,none⟩) (show w.heap.size≠w.heap.size+1 by omega) _
  · have:=aM.lt
    simpa[World.setCell]using this
 have hall:=all_c N nodes l _ w.heap.size b (w.heap.size+1) gM w.heap.size (ms++[0,0]) a 0 c ks (hP.keep B3) A3 hN B3.size hn (λj u hu=>by
  obtain⟨q,e1,e2,e3⟩:=hks j u hu
  exact⟨q,e1,e2,(B3.cell (p:=⟨q,0+j,none⟩) e2).trans e3⟩) h100
 have hW1:(V.rds l (ms++[0,0])).length=N+2:=by rw[V.rds_len,List.length_append,hms];rfl
 generalize hWW:V.rds l (ms++[0,0])=W1 at*
 refine hall.mono ?_
 rintro x w5 ⟨rfl,h5,hb5⟩
 obtain⟨aM',cM',hs5,ha5⟩:=h5.at_.cells
 have hML:(W1.take N).length=N:=by rw[List.length_take];omega
 have sa:=ha5 (by omega)
 subst sa
 rw[hML]at hs5
 have q0:=hs5.cell 0
 simp only[List.getElem?_cons_zero]at q0
 have ql:=hs5.lt
 obtain⟨rest5,m5⟩:=h5.at_.mem (by omega)
 go_wp2_with fail
 go_ret
 refine⟨⟨gM,cM',rest5,rfl,by omega,?_⟩,B3.trans (hb5.low (by omega) (Nat.le_refl _) B3.size)⟩
 first |exact m5 |(rw[hWW];exact m5)|(rw[<-List.map_take];exact m5)
theorem run_append_zero(W:World)(ad:Addr)(c:Nat):
 (Builtin.append_ #[32,32] 32 #[.slice none 0 0,.slice (some ad) 0 c]).run Tryz.prog W=.ok (.slice none 0 0) W:=by
 simp[Builtin.append_,go_sem]
theorem refrun_zero(nodes:List Nd)(l:List Do)(w:World)(b:Nat)(a:Option Addr)(c:Nat)(ks:List Nat)(aM:Option Addr)(cM:Nat)(hcM:aM=none->cM=0)(hP:PAt w w.heap.size b nodes)(hn:NDs 0 nodes l ks)(hd:w.cell? ⟨b,8,none⟩=some (.slice a ks.length c))(hks:∀(j:Nat) u,ks[j]?=some u->∃q,a=some ⟨q,0,none⟩/\q<w.heap.size/\w.cell? ⟨q,0+j,none⟩=some (.int .i64 (u:Int)))(h100:ks.length<=9223372036854775807):
 Calls Tryz.prog 23 #[P b,.slice aM 0 cM] w λx w'=>(∃aR cR,x=.returned (.slice aR 0 cR))/\Below w.heap.size w w':=by
 obtain⟨j0,ji,jz0,jz1,jz2⟩:=info_parts info_int
 have hmk:=run_make_row' (P:=Tryz.prog) 32 3 (.int .i64 0) 8 Tryz.underlying32 info_int rfl .i64 .i64 2 (by omega) (by omega)
 have e2:((2:Nat):Int)=2:=rfl
 rw[e2]at hmk
 have aC:=made_at w 2 3
 have bS:=At.alloc_new (w.alloc (.cells (madeCells #[.int .i64 0] 2) 3 (0,0))) [.slice none 0 0,.slice (some ⟨w.heap.size,0,none⟩) 2 2] 100
 have B0:Below w.heap.size w ((w.alloc (.cells (madeCells #[.int .i64 0] 2) 3 (0,0))).alloc (.cells #[.slice none 0 0,.slice (some ⟨w.heap.size,0,none⟩) 2 2] 100 (0,0))):=((Below.refl _ _).alloc (Nat.le_refl _) _).alloc (by simp) _
 have aC1:=aC.alloc (.cells #[.slice none 0 0,.slice (some ⟨w.heap.size,0,none⟩) 2 2] 100 (0,0))
 rw[size_alloc']at bS
 have nb1:w.heap.size+1≠b:=by have:=hP.lt;omega
 have nb2:b≠w.heap.size+1:=by omega
 have d8:=(B0.cell (p:=⟨b,8,none⟩) hP.lt).trans hd
 have s0:=bS.cell 0
 have s1:=bS.cell 1
 simp only[List.getElem?_cons_zero,List.getElem?_cons_succ]at s0 s1
 have f0:=bS.frozen 0
 have B3:=B0
 have A3:Left2 ((w.alloc (.cells (madeCells #[.int .i64 0] 2) 3 (0,0))).alloc (.cells #[.slice none 0 0,.slice (some ⟨w.heap.size,0,none⟩) 2 2] 100 (0,0))) w.heap.size (w.heap.size+1) w.heap.size w.heap.size 0 [0,0]:=by
  refine⟨⟨⟨none,0,bS,λh=>by simp at h⟩,λh=>by simp at h,aC1,⟨by omega,by omega,by omega⟩,⟨λh=>by simp at h,by omega⟩,?_⟩,rfl⟩
  exact aC1.lt
 have hall:=all_c 0 nodes l _ w.heap.size b (w.heap.size+1) w.heap.size w.heap.size [0,0] a 0 c ks (hP.keep B3) A3 (by omega) B3.size hn (λj u hu=>by
  obtain⟨q,e1,e2,e3⟩:=hks j u hu
  exact⟨q,e1,e2,(B3.cell (p:=⟨q,0+j,none⟩) e2).trans e3⟩) h100
 have HA:=hide A3
 clear A3
 cases aM with
 |none=>
  have ec:=hcM rfl
  subst ec
  go_enter Tryz.func23,Tryz.ntmps23
  go_wp2_with (at_builtin;refine wpList_append_own_none rfl (.tmp 13) (.tmp 14) 32 rfl 0 3 j0 1 Tryz.underlying32 ji (.slice none 0 0) 0 [] rfl (World.ownsRow_nil _ 0 _ 1) (by rfl) ?_)
  refine hall.mono ?_
  rintro x w5 ⟨rfl,h5,hb5⟩
  obtain⟨aM',cM',hs5,_⟩:=h5.at_.cells
  have q0:=hs5.cell 0
  simp only[List.getElem?_cons_zero]at q0
  rw[show((V.rds l [0,0]).take 0).length=0 from rfl]at q0
  have ql:=hs5.lt
  go_wp2_with fail
  go_ret
  exact⟨⟨aM',cM',rfl⟩,B3.trans (hb5.low (Nat.le_refl _) (Nat.le_refl _) B3.size)⟩
 |some ad=>
  have hap:∀W:World,(Builtin.append_ #[32,32] 32 #[.slice none 0 0,.slice (some ad) 0 cM]).run Tryz.prog W=.ok (.slice none 0 0) W:=λW=>run_append_zero W ad cM
  go_enter Tryz.func23,Tryz.ntmps23
  go_wp2_with fail
  refine hall.mono ?_
  rintro x w5 ⟨rfl,h5,hb5⟩
  obtain⟨aM',cM',hs5,_⟩:=h5.at_.cells
  have q0:=hs5.cell 0
  simp only[List.getElem?_cons_zero]at q0
  rw[show((V.rds l [0,0]).take 0).length=0 from rfl]at q0
  have ql:=hs5.lt
  go_wp2_with fail
  go_ret
  exact⟨⟨aM',cM',rfl⟩,B3.trans (hb5.low (Nat.le_refl _) (Nat.le_refl _) B3.size)⟩
end
section
open Go.RowKit
open R (Nd Tok PS)
open K (Nm Ex Do)
theorem fl10(s:Nat)(hs:s<10):∀(ys:List (List Value)) (q:Nat),(∀c∈ys,c.length=10)->(hq:q<ys.length)->ys.flatten[q*10+s]?=ys[q][s]?
 |[],q,_,hq=>by simp at hq
 |c::ys,0,h,_=>by
  have:=h c List.mem_cons_self
  rw[List.flatten_cons,List.getElem?_append_left (by omega)]
  simp
 |c::ys,q+1,h,hq=>by
  have hc:=h c List.mem_cons_self
  rw[List.flatten_cons,List.getElem?_append_right (by rw[hc,Nat.add_mul];omega)]
  have e:(q+1)*10+s-c.length=q*10+s:=by rw[hc,Nat.add_mul];omega
  rw[e,fl10 s hs ys q (λd hd=>h d (List.mem_cons_of_mem _ hd)) (by simpa using hq)]
  simp
theorem ints_at{w:World}{v:Value}{l:List Int}(h:Ints w v l):IntsAt w w.heap.size v l:=by
 obtain⟨hl,⟨rfl,h0⟩|⟨g,cap,cur,hv,_,hg,hc,hm,hs,hx⟩⟩:=h
 · refine⟨none,0,by rw[h0],⟨by omega,by omega⟩,λj u hu=>?_⟩
   have:=(List.getElem?_eq_some_iff.1 hu).1
   omega
 · unfold maxLen at hm
   refine⟨some ⟨g,0,none⟩,cap,hv,⟨hc,by omega⟩,λj u hu=>⟨g,rfl,heap_lt hg,?_⟩⟩
   have hj:j<l.length:=(List.getElem?_eq_some_iff.1 hu).1
   have e:(ints l)[j]?=some (.int .i64 u):=by unfold ints;rw[List.getElem?_map,hu];rfl
   rw[<-hx,List.getElem?_take_of_lt (by omega)]at e
   simp[World.cell?,hg]
   simpa using e
theorem rep_pat{w:World}{b:Nat}{T:List Tok}{J:PS}{r:RV}(h:Rep w b T J r)(hf:J.nodes.length<=100000):PAt w w.heap.size b J.nodes:=by
 refine⟨h.cells.lt,hf,λk n hn=>?_⟩
 obtain⟨xs,hx,hl,hnd⟩:=h.nodes
 have hk:k<J.nodes.length:=(List.getElem?_eq_some_iff.1 hn).1
 have h10:∀c∈xs,c.length=10:=λc hc=>by
  obtain⟨i,hi,rfl⟩:=List.getElem_of_mem hc
  obtain⟨lv,tv,e,_,_⟩:=hnd i xs[i] J.nodes[i] (List.getElem?_eq_getElem hi) (List.getElem?_eq_getElem (by omega))
  rw[e]
  rfl
 obtain⟨lv,tv,e,hL,hT⟩:=hnd k xs[k] n (List.getElem?_eq_getElem (by omega)) hn
 obtain⟨_,⟨_,h0⟩|⟨g,cap,cur,hv,_,hg,hc,hm,hs,ht⟩⟩:=hx
 · omega
 · refine⟨g,cap,by rw[h.c1 7 _ rfl,hv],heap_lt hg,lv,tv,λj v hj=>?_,ints_at hL,ints_at hT⟩
   have hj10:j<10:=(List.getElem?_eq_some_iff.1 hj).1
   have hfl:=fl10 j hj10 xs k h10 (by omega)
   rw[e,hj,<-ht,List.getElem?_take_of_lt (by omega)]at hfl
   simp[World.cell?,hg]
   simpa using hfl
end
section
open R (Nd Tok tk PS Thing)
open K (Nm Ex Do S Scans)
namespace Q
theorem behind_alive{T:List Tok}{A:PS}(h:(R.behind T A).err=0):A.err=0:=by
 by_cases e:A.err=0
 · exact e
 · unfold R.behind at h;rw[if_neg e]at h;exact h
theorem behind_does(T:List Tok)(A:PS):(R.behind T A).does=A.does/\(R.behind T A).nodes=A.nodes:=by
 unfold R.behind
 split
 · refine⟨?_,(R.want_core T _ _).2.1⟩
   unfold R.want R.fail R.take
   split<;>(try split)<;>rfl
 · exact⟨rfl,rfl⟩
theorem last_alive{A:PS}(h:(R.last A).err=0):R.last A=A:=by
 unfold R.last at h ⊢
 split
 · rename_i c
   rw[if_pos c]at h
   exact absurd h (R.fail_err (by decide))
 · rfl
theorem prog_node{s:ByteArray}(hs:s.size<=800)(h:(R.read s).err=0):
 ∃ks:List Nat,(R.read s).does=ks.map (λk:Nat=>(k:Int))/\NDs (R.read s).shape.length (R.read s).nodes (K.progD (R.toks s)) ks/\(R.read s).nodes.length<=(R.toks s).length+1:=by
 obtain⟨c0,_,_,cw,c54,csz,_,_⟩:=shape_ok hs h
 have hE:=R.toks_ended s
 have hl:=(R.toks_len s).2
 have hS:=K.scans_toks hs
 have hr:R.read s=R.readT (R.toks s):=by unfold R.read;rw[if_neg (by omega)]
 rw[hr,readT_early]at h cw c54 csz ⊢
 have el:=last_alive h
 rw[el]at h cw c54 csz ⊢
 generalize R.toks s=T at*
 have kS:K.Keeps (K.prog0 T) (K.progS T):=(K.dos_keeps T 11 _).trans (K.expect_keeps T _ _)
 have hrp:=R.decls_rp T 9 R.start R.start_rp
 have hfl:=R.decls_fl T 9 0 R.start R.start_fl
 have hkw0:K.KW K.start:=by unfold K.KW;decide
 have hkp:=K.declsL_pl T T.length K.start hkw0 trivial
 have hd:=decls_eqv hE T.length 9 0 R.start K.start start_sm R.start_db (by omega) (by omega) hl (by omega) rfl
 have bd:=behind_does T (R.done (R.does T 12 (R.decls T 9 R.start)).2 (R.does T 12 (R.decls T 9 R.start)).1)
 have hlt:=R.decls_lt T 9 R.start hl
 have dk:=R.does_ok hE 12 hlt
 have hsh:(early T).size=(R.decls T 9 R.start).size:=by
  unfold early
  have e1:∀A:PS,(R.behind T A).size=A.size:=λA=>by
   unfold R.behind
   split
   · exact congrArg (λc=>c.2.2.1) (R.want_core T _ _).1
   · rfl
  rw[e1]
  exact congrArg (λc=>c.2.2.1) dk.core
 unfold early at h
 have hb:=behind_alive h
 have ha:(R.does T 12 (R.decls T 9 R.start)).1.err=0:=hb
 unfold K.progD
 have ed:(early T).does=(R.does T 12 (R.decls T 9 R.start)).2:=bd.1
 have en:(early T).nodes=(R.does T 12 (R.decls T 9 R.start)).1.nodes:=bd.2
 rw[ed,en]
 generalize(early T).shape.length=N at*
 generalize(early T).size=Z at*
 have hp0:K.prog0 T=K.declsL T T.length K.start:=rfl
 rw[<-hp0]at hd hkp
 generalize R.decls T 9 R.start=A at*
 have kw:=kS.words
 have kl:=kS.loops
 generalize K.prog0 T=B at*
 rcases hd with⟨d1,d2,⟨k,d3⟩,d4⟩|d
 · have e0:B.depth=0:=by rw[<-d1.nest];exact d3.nest
   have hH:Hs A false:=⟨by rw[d3.rest.2];decide,by rw[d3.rest.2];decide⟩
   have hpl:Pls N A.seen B.names:=pls_of (by omega) d1.names hrp.pl hkp hfl.bd (by omega) (by rw[<-hrp.sz];omega)
   have hl0:B.loops=0:=by rw[<-d1.loops];exact d3.rest.1
   have hwd:Wd N B:=⟨by rw[<-kw];exact cw,by omega,by omega⟩
   obtain⟨ks,k1,k2⟩:=dos_node hS hE 11 12 A B false d1 hH hpl hwd d4 ⟨by omega,by omega,by omega⟩ ⟨by omega,by omega,by omega⟩ ha
   have hp1:=dk.p1
   rw[d3.nodes,List.length_nil]at hp1
   exact⟨ks,k1,k2,by omega⟩
 · exact absurd (does_alive ha) d.e1
end Q
end
section
open Go.RowKit
open K (Nm)
theorem read_run(s:ByteArray)(w:World)(hm:s.size<=maxLen):
 Calls Tryz.prog 15 #[.string s] w λx w'=>∃b,x=.returned (P b)/\Below w.heap.size w w'/\b<w'.heap.size/\w'.cell? ⟨b,2,none⟩=some (.int .i64 (R.read s).err)∧
  ((R.read s).err=0->(R.read s).shape.length<=54/\w'.cell? ⟨b,6,none⟩=some (.int .i64 ((R.read s).shape.length:Int))∧
    ∃H,w'.cell? ⟨b,9,none⟩=some H/\w'.ownsRow 0 4 1 H (R.read s).shape.length (bools (R.read s).shape)∧
    PAt w' w'.heap.size b (R.read s).nodes/\∃a c,∃ks:List Nat,w'.cell? ⟨b,8,none⟩=some (.slice a ks.length c)/\NDs (R.read s).shape.length (R.read s).nodes (K.progD (R.toks s)) ks/\ks.length<=9223372036854775807∧
     ∀(j:Nat) u,ks[j]?=some u->∃q,a=some ⟨q,0,none⟩/\q<w'.heap.size/\w'.cell? ⟨q,0+j,none⟩=some (.int .i64 (u:Int))):=by
 by_cases hs:800<s.size
 · have e:R.read s=R.fail 1 0 R.start:=by unfold R.read;rw[if_pos hs]
   rw[e]
   exact(read_long s w hs hm).mono λx w' ⟨b,hx,ho,_,hc⟩=>⟨b,hx,ho.below,hc.lt,hc.cell 2,λh=>absurd h (by decide)⟩
 · have e:R.read s=R.readT (R.toks s):=by unfold R.read;rw[if_neg hs]
   refine(read_c s w (by omega)).mono λx w' ⟨b,r,hx,h⟩=>?_
   rw[<-e]at h
   refine⟨b,hx,h.own.below,h.rep.cells.lt,h.rep.c1 2 _ rfl,λhe=>?_⟩
   obtain⟨p1,p2,p3,p4,p5,p6,p7,p8⟩:=Q.shape_ok (by omega) he
   obtain⟨ks,k1,k2,k3⟩:=Q.prog_node (by omega) he
   have hf:=h.rep.few
   have hd:=h.rep.does
   obtain⟨a,c,i1,i2,i3⟩:=ints_at (l:=(R.read s).does) hd
   rw[k1]at i1 i2 i3
   rw[List.length_map]at i1 i2
   refine⟨p5,?_,r.H,h.rep.c1 9 _ rfl,h.rep.shape,rep_pat h.rep (by omega),a,c,ks,?_,k2,by omega,λj u hj=>?_⟩
   · rw[h.rep.c1 6 _ rfl,p6]
   · rw[h.rep.c1 8 _ rfl,i1]
   · have:=i3 j (u:Int) (by rw[List.getElem?_map,hj];rfl)
     simpa using this
end
section
open Go.RowKit
def IntsFrom(w:World)(a:Option Addr)(l:List Int):Prop:=∀(j:Nat) u,l[j]?=some u->∃g o,a=some ⟨g,o,none⟩/\w.cell? ⟨g,o+j,none⟩=some (.int .i64 u)
end
end Go.Proofs.YtejbgcloblpbfaaGreatDoor
