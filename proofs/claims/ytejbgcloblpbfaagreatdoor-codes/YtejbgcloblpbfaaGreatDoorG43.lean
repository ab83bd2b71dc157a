import Derived.Test.YtejbgcloblpbfaaGreatDoorG39
set_option maxHeartbeats 2000000
set_option maxRecDepth 100000
namespace Go.Proofs.YtejbgcloblpbfaaGreatDoor
open Go.RowKit
open R (Nd)
open K (Nm Ex Do)
theorem va_cho(N:Nat)(nodes:List Nd)(p:Int)(e1 e2 e3:Ex)(h1:VaDoes N nodes e1)(h2:VaDoes N nodes e2)(h3:VaDoes N nodes e3):VaDoes N nodes (.cho p e1 e2 e3):=by
 intro w lim b sb gM gC k M C hP hS hM hC h54 hlim hn
 unfold NE at hn
 obtain⟨n,x,y,z,hn,hw,hL,ne1,ne2,ne3⟩:=hn
 obtain⟨g,la,lc,ta,tc,cap,nc,hg,hl,_⟩:=hP.nc hn
 obtain⟨q,rfl,hq,hqc⟩:=hl 0 x (by rw[hL];rfl)
 obtain⟨q',e',_,hqc1⟩:=hl 1 y (by rw[hL];rfl)
 cases e'
 obtain⟨q',e',_,hqc2⟩:=hl 2 z (by rw[hL];rfl)
 cases e'
 have hkl:k<nodes.length:=(List.getElem?_eq_some_iff.1 hn).1
 have hkz:(k:Int)<(nodes.length:Int):=by omega
 have few:=hP.few
 have hbl:=hP.lt
 have HV:Hid (V.ev (M++C) (.cho p e1 e2 e3)=if V.ev (M++C) e1=0 then V.ev (M++C) e3 else V.ev (M++C) e2):=rfl
 rw[HV.out]
 clear HV
 obtain⟨wd,n1,⟨t0,t1,t2,t3,t4⟩,nL,n2,n5⟩:=n
 obtain⟨c7,d0,d1,d2,d3,d4,d5,d6,d7,d8,d9⟩:=nc
 dsimp only at*
 subst hw hL
 generalize n2.length=tn at*
 have B0:Below w.heap.size w (w.alloc (.cells #[.string ⟨#[99,104,111,111,115,101]⟩,.int .i64 n1,.string t0,.int .i64 t1,.bool t2,.int .i64 t3,.int .i64 t4,.slice (some ⟨q,0,none⟩) 3 lc,.slice ta tn tc,.bool n5] 145 (0,0))):=(Below.refl _ _).alloc (Nat.le_refl _) _
 have bx:=At.alloc_new w [.string ⟨#[99,104,111,111,115,101]⟩,.int .i64 n1,.string t0,.int .i64 t1,.bool t2,.int .i64 t3,.int .i64 t4,.slice (some ⟨q,0,none⟩) 3 lc,.slice ta tn tc,.bool n5] 145
 have hc1:=fun(w':World) (hb:Below w.heap.size w w')=>h1 w' lim b sb gM gC x M C (hP.keep (hb.mono hlim)) (hS.below hb) hM hC h54 (Nat.le_trans hlim hb.size) ne1
 have hc2:=fun(w':World) (hb:Below w.heap.size w w')=>h2 w' lim b sb gM gC y M C (hP.keep (hb.mono hlim)) (hS.below hb) hM hC h54 (Nat.le_trans hlim hb.size) ne2
 have hc3:=fun(w':World) (hb:Below w.heap.size w w')=>h3 w' lim b sb gM gC z M C (hP.keep (hb.mono hlim)) (hS.below hb) hM hC h54 (Nat.le_trans hlim hb.size) ne3
 have hq0:=fun(w':World) (hb:Below w.heap.size w w')=>(hb.cell (p:=⟨q,0,none⟩) (show q<w.heap.size by omega)).trans hqc
 have hq1:=fun(w':World) (hb:Below w.heap.size w w')=>(hb.cell (p:=⟨q,1,none⟩) (show q<w.heap.size by omega)).trans hqc1
 have hq2:=fun(w':World) (hb:Below w.heap.size w w')=>(hb.cell (p:=⟨q,2,none⟩) (show q<w.heap.size by omega)).trans hqc2
 have hql:q<w.heap.size:=by omega
 clear h1 h2 h3 ne1 ne2 ne3 hl hqc1 hqc2
 generalize V.ev (M++C) e1=v1 at*
 generalize V.ev (M++C) e2=v2 at*
 generalize V.ev (M++C) e3=v3 at*
 generalize nodes.length=NL at*
 obtain⟨res,hres⟩:∃res,(if v1=0 then v3 else v2)=res:=⟨_,rfl⟩
 rw[hres]
 have HRS:=hide hres
 clear hres
 go_enter Tryz.func91,Tryz.ntmps91
 have i0:=hq0 _ B0
 go_wp2_with fail
 refine(hc1 _ B0).mono ?_
 rintro r w1 ⟨rfl,hb1⟩
 have B1:=B0.trans (hb1.mono B0.size)
 have bx1:=bx.of_block (hb1.block _ bx.lt)
 have j7:=bx1.cell 7
 simp only[List.getElem?_cons_zero,List.getElem?_cons_succ]at j7
 have i1:=hq1 _ B1
 go_wp2_with fail
 refine(hc2 _ B1).mono ?_
 rintro r w2 ⟨rfl,hb2⟩
 have B2:=B1.trans (hb2.mono B1.size)
 have bx2:=bx1.of_block (hb2.block _ bx1.lt)
 have k0:=bx2.cell 0
 have k7:=bx2.cell 7
 simp only[List.getElem?_cons_zero,List.getElem?_cons_succ]at k0 k7
 have i2:=hq2 _ B2
 go_wp2_with fail
 refine(hc3 _ B2).mono ?_
 rintro r w3 ⟨rfl,hb3⟩
 have B3:=B2.trans (hb3.mono B2.size)
 by_cases hv:v1=0
 · subst hv
   go_wp2_with fail
   go_ret
   exact⟨congrArg (λv=>Ending.returned (Value.int IntKind.i64 v)) (by have:=HRS.out;simpa using this),B3⟩
 · go_wp2_with fail
   go_ret
   exact⟨congrArg (λv=>Ending.returned (Value.int IntKind.i64 v)) (by have:=HRS.out;rw[if_neg hv]at this;exact this),B3⟩
theorem va_o43(w:World)(b sb k NL g q lc tn tc cap:Nat)(ta:Option Addr)(x y n1 t1 t3 t4 v1 v2:Int)(t0:ByteArray)(t2 n5:Bool)(hkz:(k:Int)<(NL:Int))(_few:NL<=100000)(_hql:q<w.heap.size)(c7:w.cell? ⟨b,7,none⟩=some (.slice (some ⟨g,0,none⟩) NL cap))(d0:w.cell? ⟨g,k*10,none⟩=some (.string ⟨#[43]⟩))(d1:w.cell? ⟨g,k*10+1,none⟩=some (.int .i64 n1))(d2:w.cell? ⟨g,k*10+2,none⟩=some (.string t0))(d3:w.cell? ⟨g,k*10+3,none⟩=some (.int .i64 t1))(d4:w.cell? ⟨g,k*10+4,none⟩=some (.bool t2))(d5:w.cell? ⟨g,k*10+5,none⟩=some (.int .i64 t3))(d6:w.cell? ⟨g,k*10+6,none⟩=some (.int .i64 t4))(d7:w.cell? ⟨g,k*10+7,none⟩=some (.slice (some ⟨q,0,none⟩) 2 lc))(d8:w.cell? ⟨g,k*10+8,none⟩=some (.slice ta tn tc))(d9:w.cell? ⟨g,k*10+9,none⟩=some (.bool n5))(hq0:∀w':World,Below w.heap.size w w'->w'.cell? ⟨q,0,none⟩=some (.int .i64 x))(hq1:∀w':World,Below w.heap.size w w'->w'.cell? ⟨q,1,none⟩=some (.int .i64 y))(hc1:∀w':World,Below w.heap.size w w'->Calls Tryz.prog 91 #[P b,P sb,.int .i64 x] w' λr w''=>r=.returned (.int .i64 v1)/\Below w'.heap.size w' w'')(hc2:∀w':World,Below w.heap.size w w'->Calls Tryz.prog 91 #[P b,P sb,.int .i64 y] w' λr w''=>r=.returned (.int .i64 v2)/\Below w'.heap.size w' w''):
 Calls Tryz.prog 91 #[P b,P sb,.int .i64 (k:Int)] w λr w'=>r=.returned (.int .i64 (wrap64 (v1+v2)))/\Below w.heap.size w w':=by
 have B0:Below w.heap.size w (w.alloc (.cells #[.string ⟨#[43]⟩,.int .i64 n1,.string t0,.int .i64 t1,.bool t2,.int .i64 t3,.int .i64 t4,.slice (some ⟨q,0,none⟩) 2 lc,.slice ta tn tc,.bool n5] 145 (0,0))):=(Below.refl _ _).alloc (Nat.le_refl _) _
 have bx:=At.alloc_new w [.string ⟨#[43]⟩,.int .i64 n1,.string t0,.int .i64 t1,.bool t2,.int .i64 t3,.int .i64 t4,.slice (some ⟨q,0,none⟩) 2 lc,.slice ta tn tc,.bool n5] 145
 go_enter Tryz.func91,Tryz.ntmps91
 have i0:=hq0 _ B0
 go_wp2_with fail
 refine(hc1 _ B0).mono ?_
 rintro r w1 ⟨rfl,hb1⟩
 have B1:=B0.trans (hb1.mono B0.size)
 have bx1:=bx.of_block (hb1.block _ bx.lt)
 have j7:=bx1.cell 7
 simp only[List.getElem?_cons_zero,List.getElem?_cons_succ]at j7
 have i1:=hq1 _ B1
 go_wp2_with fail
 refine(hc2 _ B1).mono ?_
 rintro r w2 ⟨rfl,hb2⟩
 have B2:=B1.trans (hb2.mono B1.size)
 have bx2:=bx1.of_block (hb2.block _ bx1.lt)
 have k0:=bx2.cell 0
 simp only[List.getElem?_cons_zero]at k0
 go_wp2_with fail
 go_ret
 exact⟨rfl,B2⟩
theorem va_o45(w:World)(b sb k NL g q lc tn tc cap:Nat)(ta:Option Addr)(x y n1 t1 t3 t4 v1 v2:Int)(t0:ByteArray)(t2 n5:Bool)(hkz:(k:Int)<(NL:Int))(_few:NL<=100000)(_hql:q<w.heap.size)(c7:w.cell? ⟨b,7,none⟩=some (.slice (some ⟨g,0,none⟩) NL cap))(d0:w.cell? ⟨g,k*10,none⟩=some (.string ⟨#[45]⟩))(d1:w.cell? ⟨g,k*10+1,none⟩=some (.int .i64 n1))(d2:w.cell? ⟨g,k*10+2,none⟩=some (.string t0))(d3:w.cell? ⟨g,k*10+3,none⟩=some (.int .i64 t1))(d4:w.cell? ⟨g,k*10+4,none⟩=some (.bool t2))(d5:w.cell? ⟨g,k*10+5,none⟩=some (.int .i64 t3))(d6:w.cell? ⟨g,k*10+6,none⟩=some (.int .i64 t4))(d7:w.cell? ⟨g,k*10+7,none⟩=some (.slice (some ⟨q,0,none⟩) 2 lc))(d8:w.cell? ⟨g,k*10+8,none⟩=some (.slice ta tn tc))(d9:w.cell? ⟨g,k*10+9,none⟩=some (.bool n5))(hq0:∀w':World,Below w.heap.size w w'->w'.cell? ⟨q,0,none⟩=some (.int .i64 x))(hq1:∀w':World,Below w.heap.size w w'->w'.cell? ⟨q,1,none⟩=some (.int .i64 y))(hc1:∀w':World,Below w.heap.size w w'->Calls Tryz.prog 91 #[P b,P sb,.int .i64 x] w' λr w''=>r=.returned (.int .i64 v1)/\Below w'.heap.size w' w'')(hc2:∀w':World,Below w.heap.size w w'->Calls Tryz.prog 91 #[P b,P sb,.int .i64 y] w' λr w''=>r=.returned (.int .i64 v2)/\Below w'.heap.size w' w''):
 Calls Tryz.prog 91 #[P b,P sb,.int .i64 (k:Int)] w λr w'=>r=.returned (.int .i64 (wrap64 (v1-v2)))/\Below w.heap.size w w':=by
 have B0:Below w.heap.size w (w.alloc (.cells #[.string ⟨#[45]⟩,.int .i64 n1,.string t0,.int .i64 t1,.bool t2,.int .i64 t3,.int .i64 t4,.slice (some ⟨q,0,none⟩) 2 lc,.slice ta tn tc,.bool n5] 145 (0,0))):=(Below.refl _ _).alloc (Nat.le_refl _) _
 have bx:=At.alloc_new w [.string ⟨#[45]⟩,.int .i64 n1,.string t0,.int .i64 t1,.bool t2,.int .i64 t3,.int .i64 t4,.slice (some ⟨q,0,none⟩) 2 lc,.slice ta tn tc,.bool n5] 145
 go_enter Tryz.func91,Tryz.ntmps91
 have i0:=hq0 _ B0
 go_wp2_with fail
 refine(hc1 _ B0).mono ?_
 rintro r w1 ⟨rfl,hb1⟩
 have B1:=B0.trans (hb1.mono B0.size)
 have bx1:=bx.of_block (hb1.block _ bx.lt)
 have j7:=bx1.cell 7
 simp only[List.getElem?_cons_zero,List.getElem?_cons_succ]at j7
 have i1:=hq1 _ B1
 go_wp2_with fail
 refine(hc2 _ B1).mono ?_
 rintro r w2 ⟨rfl,hb2⟩
 have B2:=B1.trans (hb2.mono B1.size)
 have bx2:=bx1.of_block (hb2.block _ bx1.lt)
 have k0:=bx2.cell 0
 simp only[List.getElem?_cons_zero]at k0
 go_wp2_with fail
 go_ret
 exact⟨rfl,B2⟩
theorem va_o42(w:World)(b sb k NL g q lc tn tc cap:Nat)(ta:Option Addr)(x y n1 t1 t3 t4 v1 v2:Int)(t0:ByteArray)(t2 n5:Bool)(hkz:(k:Int)<(NL:Int))(_few:NL<=100000)(_hql:q<w.heap.size)(c7:w.cell? ⟨b,7,none⟩=some (.slice (some ⟨g,0,none⟩) NL cap))(d0:w.cell? ⟨g,k*10,none⟩=some (.string ⟨#[42]⟩))(d1:w.cell? ⟨g,k*10+1,none⟩=some (.int .i64 n1))(d2:w.cell? ⟨g,k*10+2,none⟩=some (.string t0))(d3:w.cell? ⟨g,k*10+3,none⟩=some (.int .i64 t1))(d4:w.cell? ⟨g,k*10+4,none⟩=some (.bool t2))(d5:w.cell? ⟨g,k*10+5,none⟩=some (.int .i64 t3))(d6:w.cell? ⟨g,k*10+6,none⟩=some (.int .i64 t4))(d7:w.cell? ⟨g,k*10+7,none⟩=some (.slice (some ⟨q,0,none⟩) 2 lc))(d8:w.cell? ⟨g,k*10+8,none⟩=some (.slice ta tn tc))(d9:w.cell? ⟨g,k*10+9,none⟩=some (.bool n5))(hq0:∀w':World,Below w.heap.size w w'->w'.cell? ⟨q,0,none⟩=some (.int .i64 x))(hq1:∀w':World,Below w.heap.size w w'->w'.cell? ⟨q,1,none⟩=some (.int .i64 y))(hc1:∀w':World,Below w.heap.size w w'->Calls Tryz.prog 91 #[P b,P sb,.int .i64 x] w' λr w''=>r=.returned (.int .i64 v1)/\Below w'.heap.size w' w'')(hc2:∀w':World,Below w.heap.size w w'->Calls Tryz.prog 91 #[P b,P sb,.int .i64 y] w' λr w''=>r=.returned (.int .i64 v2)/\Below w'.heap.size w' w''):
 Calls Tryz.prog 91 #[P b,P sb,.int .i64 (k:Int)] w λr w'=>r=.returned (.int .i64 (wrap64 (v1*v2)))/\Below w.heap.size w w':=by
 have B0:Below w.heap.size w (w.alloc (.cells #[.string ⟨#[42]⟩,.int .i64 n1,.string t0,.int .i64 t1,.bool t2,.int .i64 t3,.int .i64 t4,.slice (some ⟨q,0,none⟩) 2 lc,.slice ta tn tc,.bool n5] 145 (0,0))):=(Below.refl _ _).alloc (Nat.le_refl _) _
 have bx:=At.alloc_new w [.string ⟨#[42]⟩,.int .i64 n1,.string t0,.int .i64 t1,.bool t2,.int .i64 t3,.int .i64 t4,.slice (some ⟨q,0,none⟩) 2 lc,.slice ta tn tc,.bool n5] 145
 go_enter Tryz.func91,Tryz.ntmps91
 have i0:=hq0 _ B0
 go_wp2_with fail
 refine(hc1 _ B0).mono ?_
 rintro r w1 ⟨rfl,hb1⟩
 have B1:=B0.trans (hb1.mono B0.size)
 have bx1:=bx.of_block (hb1.block _ bx.lt)
 have j7:=bx1.cell 7
 simp only[List.getElem?_cons_zero,List.getElem?_cons_succ]at j7
 have i1:=hq1 _ B1
 go_wp2_with fail
 refine(hc2 _ B1).mono ?_
 rintro r w2 ⟨rfl,hb2⟩
 have B2:=B1.trans (hb2.mono B1.size)
 have bx2:=bx1.of_block (hb2.block _ bx1.lt)
 have k0:=bx2.cell 0
 simp only[List.getElem?_cons_zero]at k0
 go_wp2_with fail
 go_ret
 exact⟨rfl,B2⟩
theorem va_o47(w:World)(b sb k NL g q lc tn tc cap:Nat)(ta:Option Addr)(x y n1 t1 t3 t4 v1 v2:Int)(t0:ByteArray)(t2 n5:Bool)(hkz:(k:Int)<(NL:Int))(_few:NL<=100000)(_hql:q<w.heap.size)(c7:w.cell? ⟨b,7,none⟩=some (.slice (some ⟨g,0,none⟩) NL cap))(d0:w.cell? ⟨g,k*10,none⟩=some (.string ⟨#[47]⟩))(d1:w.cell? ⟨g,k*10+1,none⟩=some (.int .i64 n1))(d2:w.cell? ⟨g,k*10+2,none⟩=some (.string t0))(d3:w.cell? ⟨g,k*10+3,none⟩=some (.int .i64 t1))(d4:w.cell? ⟨g,k*10+4,none⟩=some (.bool t2))(d5:w.cell? ⟨g,k*10+5,none⟩=some (.int .i64 t3))(d6:w.cell? ⟨g,k*10+6,none⟩=some (.int .i64 t4))(d7:w.cell? ⟨g,k*10+7,none⟩=some (.slice (some ⟨q,0,none⟩) 2 lc))(d8:w.cell? ⟨g,k*10+8,none⟩=some (.slice ta tn tc))(d9:w.cell? ⟨g,k*10+9,none⟩=some (.bool n5))(hq0:∀w':World,Below w.heap.size w w'->w'.cell? ⟨q,0,none⟩=some (.int .i64 x))(hq1:∀w':World,Below w.heap.size w w'->w'.cell? ⟨q,1,none⟩=some (.int .i64 y))(hc1:∀w':World,Below w.heap.size w w'->Calls Tryz.prog 91 #[P b,P sb,.int .i64 x] w' λr w''=>r=.returned (.int .i64 v1)/\Below w'.heap.size w' w'')(hc2:∀w':World,Below w.heap.size w w'->Calls Tryz.prog 91 #[P b,P sb,.int .i64 y] w' λr w''=>r=.returned (.int .i64 v2)/\Below w'.heap.size w' w''):
 Calls Tryz.prog 91 #[P b,P sb,.int .i64 (k:Int)] w λr w'=>r=.returned (.int .i64 (if v2=0 then 0 else wrap64 (v1.tdiv v2)))/\Below w.heap.size w w':=by
 have B0:Below w.heap.size w (w.alloc (.cells #[.string ⟨#[47]⟩,.int .i64 n1,.string t0,.int .i64 t1,.bool t2,.int .i64 t3,.int .i64 t4,.slice (some ⟨q,0,none⟩) 2 lc,.slice ta tn tc,.bool n5] 145 (0,0))):=(Below.refl _ _).alloc (Nat.le_refl _) _
 have bx:=At.alloc_new w [.string ⟨#[47]⟩,.int .i64 n1,.string t0,.int .i64 t1,.bool t2,.int .i64 t3,.int .i64 t4,.slice (some ⟨q,0,none⟩) 2 lc,.slice ta tn tc,.bool n5] 145
 have hq:=fun(w:World)=>quotient_c v1 v2 w
 generalize(if v2=0 then 0 else wrap64 (v1.tdiv v2))=res at*
 go_enter Tryz.func91,Tryz.ntmps91
 have i0:=hq0 _ B0
 go_wp2_with fail
 refine(hc1 _ B0).mono ?_
 rintro r w1 ⟨rfl,hb1⟩
 have B1:=B0.trans (hb1.mono B0.size)
 have bx1:=bx.of_block (hb1.block _ bx.lt)
 have j7:=bx1.cell 7
 simp only[List.getElem?_cons_zero,List.getElem?_cons_succ]at j7
 have i1:=hq1 _ B1
 go_wp2_with fail
 refine(hc2 _ B1).mono ?_
 rintro r w2 ⟨rfl,hb2⟩
 have B2:=B1.trans (hb2.mono B1.size)
 have bx2:=bx1.of_block (hb2.block _ bx1.lt)
 have k0:=bx2.cell 0
 simp only[List.getElem?_cons_zero]at k0
 go_wp2_with fail
 refine(hq _).mono ?_
 rintro r w3 ⟨rfl,rfl⟩
 go_wp2_with fail
 go_ret
 exact⟨rfl,B2⟩
theorem va_o38(w:World)(b sb k NL g q lc tn tc cap:Nat)(ta:Option Addr)(x y n1 t1 t3 t4 v1 v2:Int)(t0:ByteArray)(t2 n5:Bool)(hkz:(k:Int)<(NL:Int))(_few:NL<=100000)(_hql:q<w.heap.size)(c7:w.cell? ⟨b,7,none⟩=some (.slice (some ⟨g,0,none⟩) NL cap))(d0:w.cell? ⟨g,k*10,none⟩=some (.string ⟨#[38]⟩))(d1:w.cell? ⟨g,k*10+1,none⟩=some (.int .i64 n1))(d2:w.cell? ⟨g,k*10+2,none⟩=some (.string t0))(d3:w.cell? ⟨g,k*10+3,none⟩=some (.int .i64 t1))(d4:w.cell? ⟨g,k*10+4,none⟩=some (.bool t2))(d5:w.cell? ⟨g,k*10+5,none⟩=some (.int .i64 t3))(d6:w.cell? ⟨g,k*10+6,none⟩=some (.int .i64 t4))(d7:w.cell? ⟨g,k*10+7,none⟩=some (.slice (some ⟨q,0,none⟩) 2 lc))(d8:w.cell? ⟨g,k*10+8,none⟩=some (.slice ta tn tc))(d9:w.cell? ⟨g,k*10+9,none⟩=some (.bool n5))(hq0:∀w':World,Below w.heap.size w w'->w'.cell? ⟨q,0,none⟩=some (.int .i64 x))(hq1:∀w':World,Below w.heap.size w w'->w'.cell? ⟨q,1,none⟩=some (.int .i64 y))(hc1:∀w':World,Below w.heap.size w w'->Calls Tryz.prog 91 #[P b,P sb,.int .i64 x] w' λr w''=>r=.returned (.int .i64 v1)/\Below w'.heap.size w' w'')(hc2:∀w':World,Below w.heap.size w w'->Calls Tryz.prog 91 #[P b,P sb,.int .i64 y] w' λr w''=>r=.returned (.int .i64 v2)/\Below w'.heap.size w' w''):
 Calls Tryz.prog 91 #[P b,P sb,.int .i64 (k:Int)] w λr w'=>r=.returned (.int .i64 (bits .and .i64 v1 v2))/\Below w.heap.size w w':=by
 have B0:Below w.heap.size w (w.alloc (.cells #[.string ⟨#[38]⟩,.int .i64 n1,.string t0,.int .i64 t1,.bool t2,.int .i64 t3,.int .i64 t4,.slice (some ⟨q,0,none⟩) 2 lc,.slice ta tn tc,.bool n5] 145 (0,0))):=(Below.refl _ _).alloc (Nat.le_refl _) _
 have bx:=At.alloc_new w [.string ⟨#[38]⟩,.int .i64 n1,.string t0,.int .i64 t1,.bool t2,.int .i64 t3,.int .i64 t4,.slice (some ⟨q,0,none⟩) 2 lc,.slice ta tn tc,.bool n5] 145
 go_enter Tryz.func91,Tryz.ntmps91
 have i0:=hq0 _ B0
 go_wp2_with fail
 refine(hc1 _ B0).mono ?_
 rintro r w1 ⟨rfl,hb1⟩
 have B1:=B0.trans (hb1.mono B0.size)
 have bx1:=bx.of_block (hb1.block _ bx.lt)
 have j7:=bx1.cell 7
 simp only[List.getElem?_cons_zero,List.getElem?_cons_succ]at j7
 have i1:=hq1 _ B1
 go_wp2_with fail
 refine(hc2 _ B1).mono ?_
 rintro r w2 ⟨rfl,hb2⟩
 have B2:=B1.trans (hb2.mono B1.size)
 have bx2:=bx1.of_block (hb2.block _ bx1.lt)
 have k0:=bx2.cell 0
 simp only[List.getElem?_cons_zero]at k0
 go_wp2_with fail
 go_ret
 exact⟨rfl,B2⟩
theorem va_o94(w:World)(b sb k NL g q lc tn tc cap:Nat)(ta:Option Addr)(x y n1 t1 t3 t4 v1 v2:Int)(t0:ByteArray)(t2 n5:Bool)(hkz:(k:Int)<(NL:Int))(_few:NL<=100000)(_hql:q<w.heap.size)(c7:w.cell? ⟨b,7,none⟩=some (.slice (some ⟨g,0,none⟩) NL cap))(d0:w.cell? ⟨g,k*10,none⟩=some (.string ⟨#[94]⟩))(d1:w.cell? ⟨g,k*10+1,none⟩=some (.int .i64 n1))(d2:w.cell? ⟨g,k*10+2,none⟩=some (.string t0))(d3:w.cell? ⟨g,k*10+3,none⟩=some (.int .i64 t1))(d4:w.cell? ⟨g,k*10+4,none⟩=some (.bool t2))(d5:w.cell? ⟨g,k*10+5,none⟩=some (.int .i64 t3))(d6:w.cell? ⟨g,k*10+6,none⟩=some (.int .i64 t4))(d7:w.cell? ⟨g,k*10+7,none⟩=some (.slice (some ⟨q,0,none⟩) 2 lc))(d8:w.cell? ⟨g,k*10+8,none⟩=some (.slice ta tn tc))(d9:w.cell? ⟨g,k*10+9,none⟩=some (.bool n5))(hq0:∀w':World,Below w.heap.size w w'->w'.cell? ⟨q,0,none⟩=some (.int .i64 x))(hq1:∀w':World,Below w.heap.size w w'->w'.cell? ⟨q,1,none⟩=some (.int .i64 y))(hc1:∀w':World,Below w.heap.size w w'->Calls Tryz.prog 91 #[P b,P sb,.int .i64 x] w' λr w''=>r=.returned (.int .i64 v1)/\Below w'.heap.size w' w'')(hc2:∀w':World,Below w.heap.size w w'->Calls Tryz.prog 91 #[P b,P sb,.int .i64 y] w' λr w''=>r=.returned (.int .i64 v2)/\Below w'.heap.size w' w''):
 Calls Tryz.prog 91 #[P b,P sb,.int .i64 (k:Int)] w λr w'=>r=.returned (.int .i64 (bits .xor .i64 v1 v2))/\Below w.heap.size w w':=by
 have B0:Below w.heap.size w (w.alloc (.cells #[.string ⟨#[94]⟩,.int .i64 n1,.string t0,.int .i64 t1,.bool t2,.int .i64 t3,.int .i64 t4,.slice (some ⟨q,0,none⟩) 2 lc,.slice ta tn tc,.bool n5] 145 (0,0))):=(Below.refl _ _).alloc (Nat.le_refl _) _
 have bx:=At.alloc_new w [.string ⟨#[94]⟩,.int .i64 n1,.string t0,.int .i64 t1,.bool t2,.int .i64 t3,.int .i64 t4,.slice (some ⟨q,0,none⟩) 2 lc,.slice ta tn tc,.bool n5] 145
 go_enter Tryz.func91,Tryz.ntmps91
 have i0:=hq0 _ B0
 go_wp2_with fail
 refine(hc1 _ B0).mono ?_
 rintro r w1 ⟨rfl,hb1⟩
 have B1:=B0.trans (hb1.mono B0.size)
 have bx1:=bx.of_block (hb1.block _ bx.lt)
 have j7:=bx1.cell 7
 simp only[List.getElem?_cons_zero,List.getElem?_cons_succ]at j7
 have i1:=hq1 _ B1
 go_wp2_with fail
 refine(hc2 _ B1).mono ?_
 rintro r w2 ⟨rfl,hb2⟩
 have B2:=B1.trans (hb2.mono B1.size)
 have bx2:=bx1.of_block (hb2.block _ bx1.lt)
 have k0:=bx2.cell 0
 simp only[List.getElem?_cons_zero]at k0
 go_wp2_with fail
 go_ret
 exact⟨rfl,B2⟩
theorem va_o60(w:World)(b sb k NL g q lc tn tc cap:Nat)(ta:Option Addr)(x y n1 t1 t3 t4 v1 v2:Int)(t0:ByteArray)(t2 n5:Bool)(hkz:(k:Int)<(NL:Int))(_few:NL<=100000)(_hql:q<w.heap.size)(c7:w.cell? ⟨b,7,none⟩=some (.slice (some ⟨g,0,none⟩) NL cap))(d0:w.cell? ⟨g,k*10,none⟩=some (.string ⟨#[60]⟩))(d1:w.cell? ⟨g,k*10+1,none⟩=some (.int .i64 n1))(d2:w.cell? ⟨g,k*10+2,none⟩=some (.string t0))(d3:w.cell? ⟨g,k*10+3,none⟩=some (.int .i64 t1))(d4:w.cell? ⟨g,k*10+4,none⟩=some (.bool t2))(d5:w.cell? ⟨g,k*10+5,none⟩=some (.int .i64 t3))(d6:w.cell? ⟨g,k*10+6,none⟩=some (.int .i64 t4))(d7:w.cell? ⟨g,k*10+7,none⟩=some (.slice (some ⟨q,0,none⟩) 2 lc))(d8:w.cell? ⟨g,k*10+8,none⟩=some (.slice ta tn tc))(d9:w.cell? ⟨g,k*10+9,none⟩=some (.bool n5))(hq0:∀w':World,Below w.heap.size w w'->w'.cell? ⟨q,0,none⟩=some (.int .i64 x))(hq1:∀w':World,Below w.heap.size w w'->w'.cell? ⟨q,1,none⟩=some (.int .i64 y))(hc1:∀w':World,Below w.heap.size w w'->Calls Tryz.prog 91 #[P b,P sb,.int .i64 x] w' λr w''=>r=.returned (.int .i64 v1)/\Below w'.heap.size w' w'')(hc2:∀w':World,Below w.heap.size w w'->Calls Tryz.prog 91 #[P b,P sb,.int .i64 y] w' λr w''=>r=.returned (.int .i64 v2)/\Below w'.heap.size w' w''):
 Calls Tryz.prog 91 #[P b,P sb,.int .i64 (k:Int)] w λr w'=>r=.returned (.int .i64 (if v1<v2 then 1 else 0))/\Below w.heap.size w w':=by
 have B0:Below w.heap.size w (w.alloc (.cells #[.string ⟨#[60]⟩,.int .i64 n1,.string t0,.int .i64 t1,.bool t2,.int .i64 t3,.int .i64 t4,.slice (some ⟨q,0,none⟩) 2 lc,.slice ta tn tc,.bool n5] 145 (0,0))):=(Below.refl _ _).alloc (Nat.le_refl _) _
 have bx:=At.alloc_new w [.string ⟨#[60]⟩,.int .i64 n1,.string t0,.int .i64 t1,.bool t2,.int .i64 t3,.int .i64 t4,.slice (some ⟨q,0,none⟩) 2 lc,.slice ta tn tc,.bool n5] 145
 have hb:=fun(w:World)=>bit_c (decide (v1<v2)) w
 have eb:(if decide (v1<v2)=true then(1:Int)else 0)=if v1<v2 then 1 else 0:=by simp
 rw[eb]at hb
 generalize(if v1<v2 then(1:Int)else 0)=res at*
 go_enter Tryz.func91,Tryz.ntmps91
 have i0:=hq0 _ B0
 go_wp2_with fail
 refine(hc1 _ B0).mono ?_
 rintro r w1 ⟨rfl,hb1⟩
 have B1:=B0.trans (hb1.mono B0.size)
 have bx1:=bx.of_block (hb1.block _ bx.lt)
 have j7:=bx1.cell 7
 simp only[List.getElem?_cons_zero,List.getElem?_cons_succ]at j7
 have i1:=hq1 _ B1
 go_wp2_with fail
 refine(hc2 _ B1).mono ?_
 rintro r w2 ⟨rfl,hb2⟩
 have B2:=B1.trans (hb2.mono B1.size)
 have bx2:=bx1.of_block (hb2.block _ bx1.lt)
 have k0:=bx2.cell 0
 simp only[List.getElem?_cons_zero]at k0
 go_wp2_with fail
 refine(hb _).mono ?_
 rintro r w3 ⟨rfl,rfl⟩
 go_wp2_with fail
 go_ret
 exact⟨rfl,B2⟩
theorem va_o61(w:World)(b sb k NL g q lc tn tc cap:Nat)(ta:Option Addr)(x y n1 t1 t3 t4 v1 v2:Int)(t0:ByteArray)(t2 n5:Bool)(hkz:(k:Int)<(NL:Int))(_few:NL<=100000)(_hql:q<w.heap.size)(c7:w.cell? ⟨b,7,none⟩=some (.slice (some ⟨g,0,none⟩) NL cap))(d0:w.cell? ⟨g,k*10,none⟩=some (.string ⟨#[61]⟩))(d1:w.cell? ⟨g,k*10+1,none⟩=some (.int .i64 n1))(d2:w.cell? ⟨g,k*10+2,none⟩=some (.string t0))(d3:w.cell? ⟨g,k*10+3,none⟩=some (.int .i64 t1))(d4:w.cell? ⟨g,k*10+4,none⟩=some (.bool t2))(d5:w.cell? ⟨g,k*10+5,none⟩=some (.int .i64 t3))(d6:w.cell? ⟨g,k*10+6,none⟩=some (.int .i64 t4))(d7:w.cell? ⟨g,k*10+7,none⟩=some (.slice (some ⟨q,0,none⟩) 2 lc))(d8:w.cell? ⟨g,k*10+8,none⟩=some (.slice ta tn tc))(d9:w.cell? ⟨g,k*10+9,none⟩=some (.bool n5))(hq0:∀w':World,Below w.heap.size w w'->w'.cell? ⟨q,0,none⟩=some (.int .i64 x))(hq1:∀w':World,Below w.heap.size w w'->w'.cell? ⟨q,1,none⟩=some (.int .i64 y))(hc1:∀w':World,Below w.heap.size w w'->Calls Tryz.prog 91 #[P b,P sb,.int .i64 x] w' λr w''=>r=.returned (.int .i64 v1)/\Below w'.heap.size w' w'')(hc2:∀w':World,Below w.heap.size w w'->Calls Tryz.prog 91 #[P b,P sb,.int .i64 y] w' λr w''=>r=.returned (.int .i64 v2)/\Below w'.heap.size w' w''):
 Calls Tryz.prog 91 #[P b,P sb,.int .i64 (k:Int)] w λr w'=>r=.returned (.int .i64 (if v1=v2 then 1 else 0))/\Below w.heap.size w w':=by
 have B0:Below w.heap.size w (w.alloc (.cells #[.string ⟨#[61]⟩,.int .i64 n1,.string t0,.int .i64 t1,.bool t2,.int .i64 t3,.int .i64 t4,.slice (some ⟨q,0,none⟩) 2 lc,.slice ta tn tc,.bool n5] 145 (0,0))):=(Below.refl _ _).alloc (Nat.le_refl _) _
 have bx:=At.alloc_new w [.string ⟨#[61]⟩,.int .i64 n1,.string t0,.int .i64 t1,.bool t2,.int .i64 t3,.int .i64 t4,.slice (some ⟨q,0,none⟩) 2 lc,.slice ta tn tc,.bool n5] 145
 have hb:=fun(w:World)=>bit_c (v1==v2) w
 have eb:(if(v1==v2)=true then(1:Int)else 0)=if v1=v2 then 1 else 0:=by simp
 rw[eb]at hb
 generalize(if v1=v2 then(1:Int)else 0)=res at*
 go_enter Tryz.func91,Tryz.ntmps91
 have i0:=hq0 _ B0
 go_wp2_with fail
 refine(hc1 _ B0).mono ?_
 rintro r w1 ⟨rfl,hb1⟩
 have B1:=B0.trans (hb1.mono B0.size)
 have bx1:=bx.of_block (hb1.block _ bx.lt)
 have j7:=bx1.cell 7
 simp only[List.getElem?_cons_zero,List.getElem?_cons_succ]at j7
 have i1:=hq1 _ B1
 go_wp2_with fail
 refine(hc2 _ B1).mono ?_
 rintro r w2 ⟨rfl,hb2⟩
 have B2:=B1.trans (hb2.mono B1.size)
 have bx2:=bx1.of_block (hb2.block _ bx1.lt)
 have k0:=bx2.cell 0
 simp only[List.getElem?_cons_zero]at k0
 go_wp2_with fail
 refine(hb _).mono ?_
 rintro r w3 ⟨rfl,rfl⟩
 go_wp2_with fail
 go_ret
 exact⟨rfl,B2⟩
theorem va_op(N:Nat)(nodes:List Nd)(p:Int)(o:UInt8)(e1 e2:Ex)(h1:VaDoes N nodes e1)(h2:VaDoes N nodes e2):VaDoes N nodes (.op p o e1 e2):=by
 intro w lim b sb gM gC k M C hP hS hM hC h54 hlim hn
 unfold NE at hn
 obtain⟨n,x,y,hn,hw,ho,hL,ne1,ne2⟩:=hn
 obtain⟨g,la,lc,ta,tc,cap,nc,hg,hl,_⟩:=hP.nc hn
 obtain⟨q,rfl,hq,hqc⟩:=hl 0 x (by rw[hL];rfl)
 obtain⟨q',e',_,hqc1⟩:=hl 1 y (by rw[hL];rfl)
 cases e'
 have hkl:k<nodes.length:=(List.getElem?_eq_some_iff.1 hn).1
 have hkz:(k:Int)<(nodes.length:Int):=by omega
 have few:=hP.few
 have HV:V.ev (M++C) (.op p o e1 e2)=V.opf o (V.ev (M++C) e1) (V.ev (M++C) e2):=rfl
 rw[HV]
 obtain⟨wd,n1,⟨t0,t1,t2,t3,t4⟩,nL,n2,n5⟩:=n
 obtain⟨c7,d0,d1,d2,d3,d4,d5,d6,d7,d8,d9⟩:=nc
 dsimp only at*
 subst hw hL
 have hc1:=fun(w':World) (hb:Below w.heap.size w w')=>h1 w' lim b sb gM gC x M C (hP.keep (hb.mono hlim)) (hS.below hb) hM hC h54 (Nat.le_trans hlim hb.size) ne1
 have hc2:=fun(w':World) (hb:Below w.heap.size w w')=>h2 w' lim b sb gM gC y M C (hP.keep (hb.mono hlim)) (hS.below hb) hM hC h54 (Nat.le_trans hlim hb.size) ne2
 have hq0:=fun(w':World) (hb:Below w.heap.size w w')=>(hb.cell (p:=⟨q,0,none⟩) (show q<w.heap.size by omega)).trans hqc
 have hq1:=fun(w':World) (hb:Below w.heap.size w w')=>(hb.cell (p:=⟨q,1,none⟩) (show q<w.heap.size by omega)).trans hqc1
 have hql:q<w.heap.size:=by omega
 unfold V.isOp at ho
 simp only[Bool.or_eq_true,beq_iff_eq]at ho
 rcases ho with((((((rfl |rfl)|rfl)|rfl)|rfl)|rfl)|rfl)|rfl
 · exact va_o43 w b sb k nodes.length g q lc n2.length tc cap ta x y n1 t1 t3 t4 _ _ t0 t2 n5 hkz few hql c7 d0 d1 d2 d3 d4 d5 d6 d7 d8 d9 hq0 hq1 hc1 hc2
 · exact va_o45 w b sb k nodes.length g q lc n2.length tc cap ta x y n1 t1 t3 t4 _ _ t0 t2 n5 hkz few hql c7 d0 d1 d2 d3 d4 d5 d6 d7 d8 d9 hq0 hq1 hc1 hc2
 · exact va_o42 w b sb k nodes.length g q lc n2.length tc cap ta x y n1 t1 t3 t4 _ _ t0 t2 n5 hkz few hql c7 d0 d1 d2 d3 d4 d5 d6 d7 d8 d9 hq0 hq1 hc1 hc2
 · exact va_o47 w b sb k nodes.length g q lc n2.length tc cap ta x y n1 t1 t3 t4 _ _ t0 t2 n5 hkz few hql c7 d0 d1 d2 d3 d4 d5 d6 d7 d8 d9 hq0 hq1 hc1 hc2
 · exact va_o38 w b sb k nodes.length g q lc n2.length tc cap ta x y n1 t1 t3 t4 _ _ t0 t2 n5 hkz few hql c7 d0 d1 d2 d3 d4 d5 d6 d7 d8 d9 hq0 hq1 hc1 hc2
 · exact va_o94 w b sb k nodes.length g q lc n2.length tc cap ta x y n1 t1 t3 t4 _ _ t0 t2 n5 hkz few hql c7 d0 d1 d2 d3 d4 d5 d6 d7 d8 d9 hq0 hq1 hc1 hc2
 · exact va_o60 w b sb k nodes.length g q lc n2.length tc cap ta x y n1 t1 t3 t4 _ _ t0 t2 n5 hkz few hql c7 d0 d1 d2 d3 d4 d5 d6 d7 d8 d9 hq0 hq1 hc1 hc2
 · exact va_o61 w b sb k nodes.length g q lc n2.length tc cap ta x y n1 t1 t3 t4 _ _ t0 t2 n5 hkz few hql c7 d0 d1 d2 d3 d4 d5 d6 d7 d8 d9 hq0 hq1 hc1 hc2
end Go.Proofs.YtejbgcloblpbfaaGreatDoor
