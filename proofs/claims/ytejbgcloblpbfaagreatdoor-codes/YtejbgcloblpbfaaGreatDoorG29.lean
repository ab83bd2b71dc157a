import Derived.Test.YtejbgcloblpbfaaGreatDoorG28
set_option maxHeartbeats 4000000
set_option maxRecDepth 100000
namespace Go.Proofs.YtejbgcloblpbfaaGreatDoor
open Go.RowKit
open K (Nm Ex Do)
namespace Y
theorem stc_c(e:Ex)(he:K.good e=true)(hx:ExW e)(w:World)(p:WP)(C:List Ins)(G W K:List Nat)(h:WAt w p C G W K)(hF:Fine G W 0)(h4:6<=G.length)(hn:need e<=W.length)(hc:C.length+cE e+9<90000)(hK:K.length<=1000)(a b:Nat):
 Calls Tryz.prog 191 #[WV p,exV e,.int .i64 (a:Int),.int .i64 (b:Int)] w λx w'=>x=.returned (.tuple #[])/\WAt w' p (C++((exC G W e).1++coC (G.erase (exC G W e).2) (exC G W e).2 a b K.getLast?)) G W K/\Fk p.lo w w':=by
 have hex:=hx w p C G W K h hF hn (by omega)
 have hm:=exC_mem e hF
 have hel:=exC_len e G W
 have hsr:=h.regs.srt
 have h8:=h.lenG
 have hgl:(G.erase (exC G W e).2).length=G.length-1:=List.length_erase_of_mem hm
 have hs1:=hsr.erase (exC G W e).2
 have hie:=hide (ins_erase hsr hm)
 have hnm:(exC G W e).2∉G.erase (exC G W e).2:=λx=>(hF.gn.mem_erase_iff.1 x).1 rfl
 generalize exC G W e=X at*
 obtain⟨u,v,s,t,G4,hG⟩:=four (g:=G.erase X.2) (by omega)
 rw[hG]at hex hs1 hgl hnm ⊢
 rw[hG]at hie
 rw[exV_good he]at hex ⊢
 generalize exT e=te at*
 generalize exP e=xe at*
 have hs2:=(List.pairwise_cons.1 hs1).2
 have hs3:=(List.pairwise_cons.1 hs2).2
 have hs4:=(List.pairwise_cons.1 hs3).2
 have HL:Hid ((u::v::s::t::G4).length=G.length-1/\X.1.length<=cE e/\G.length<=8/\6<=G.length/\C.length+cE e+9<90000):=⟨hgl,hel,h8,h4,hc⟩
 have hcl:Hid ((cnC u K.getLast?).length<=2):=by
  show _<=_
  cases K.getLast?<;>simp[cnC]
 have hco:coC (u::v::s::t::G4) X.2 a b K.getLast?=cnC u K.getLast?++[.kst v 0,.sel s u X.2 v,.kst t (a:Nat),.st t s,.sel s v X.2 u,.kst t (b:Nat),.st t s]:=rfl
 rw[hco]
 clear h hx he hgl hG hel h8 h4 hco
 go_enter_defers Tryz.func191,Tryz.ntmps191
 go_wp2_with fail
 refine hex.mono ?_
 rintro y w1 ⟨rfl,h1,b1⟩
 obtain⟨c1,_⟩:=h1.c
 have hcn:=cond_c h1 (by have:=HL.out;rw[List.length_append];omega) hK
 clear h1
 go_wp2_with fail
 refine hcn.mono ?_
 rintro y w2 ⟨rfl,h2,b2⟩
 obtain⟨c2,_⟩:=h2.c
 have hnu:=number_c h2 (by have:=HL.out;have:=hcl.out;simp only[List.length_append];omega) 0
 clear h2
 go_wp2_with fail
 refine hnu.mono ?_
 rintro y w3 ⟨rfl,h3,b3⟩
 obtain⟨c3,_⟩:=h3.c
 have ht:=take_c h3.regs
 have H3:=hide h3
 clear h3
 go_wp2_with fail
 refine ht.mono ?_
 rintro y w4 ⟨rfl,P4,T4⟩
 obtain⟨h4,b4⟩:=H3.out.regs' P4 T4
 obtain⟨c4,_⟩:=h4.c
 have hch:=choice_c h4 (by have:=HL.out;have:=hcl.out;simp only[List.length_append,List.length_cons,List.length_nil];omega) s X.2 u v
 clear h4 P4
 go_wp2_with fail
 refine hch.mono ?_
 rintro y w5 ⟨rfl,h5,b5⟩
 have hst:=store_c h5 (by have:=HL.out;have:=hcl.out;simp only[List.length_append,List.length_cons,List.length_nil];omega) (a:Int) s
 clear h5
 go_wp2_with fail
 refine hst.mono ?_
 rintro y w6 ⟨rfl,h6,b6⟩
 have hch2:=choice_c h6 (by have:=HL.out;have:=hcl.out;simp only[List.length_append,List.length_cons,List.length_nil];omega) s X.2 v u
 clear h6
 go_wp2_with fail
 refine hch2.mono ?_
 rintro y w7 ⟨rfl,h7,b7⟩
 have hst2:=store_c h7 (by have:=HL.out;have:=hcl.out;simp only[List.length_append,List.length_cons,List.length_nil];omega) (b:Int) s
 clear h7
 go_wp2_with fail
 refine hst2.mono ?_
 rintro y w8 ⟨rfl,h8,b8⟩
 go_wp2_with fail
 refine leaves_cons (f:=149) (args:=#[.pointer (some ⟨p.rp,0,none⟩),.int .i64 (s:Int)]) (by simp) (by simp[go_sem]) ?_
 refine(h8.give .returning (Srt.hd_not hs3) (by have:=HL.out;simp at this ⊢;omega)).mono ?_
 rintro y u1 w9 ⟨rfl,rfl,h9,b9⟩
 rw[Srt.ins_hd hs3]at h9
 refine leaves_cons (f:=149) (args:=#[.pointer (some ⟨p.rp,0,none⟩),.int .i64 (v:Int)]) (by simp[settle]) (by simp[go_sem]) ?_
 refine(h9.give _ (Srt.hd_not hs2) (by have:=HL.out;simp at this ⊢;omega)).mono ?_
 rintro y u2 w10 ⟨rfl,rfl,h10,b10⟩
 rw[Srt.ins_hd hs2]at h10
 refine leaves_cons (f:=149) (args:=#[.pointer (some ⟨p.rp,0,none⟩),.int .i64 (u:Int)]) (by simp[settle]) (by simp[go_sem]) ?_
 refine(h10.give _ (Srt.hd_not hs1) (by have:=HL.out;simp at this ⊢;omega)).mono ?_
 rintro y u3 w11 ⟨rfl,rfl,h11,b11⟩
 rw[Srt.ins_hd hs1]at h11
 refine leaves_cons (f:=149) (args:=#[.pointer (some ⟨p.rp,0,none⟩),.int .i64 ((X.2:Nat):Int)]) (by simp[settle]) (by simp[go_sem]) ?_
 refine(h11.give _ hnm (by have:=HL.out;simp at this ⊢;omega)).mono ?_
 rintro y u4 w12 ⟨rfl,rfl,h12,b12⟩
 refine⟨_,results_none rfl _ _ _,rfl,?_,((((((((((b1.trans b2).trans b3).trans b4).trans b5).trans b6).trans b7).trans b8).trans b9).trans b10).trans b11).trans b12⟩
 rw[hie.out]at h12
 simp only[List.append_assoc]at h12
 exact h12
theorem rounds_c(e:Ex)(he:K.good e=true)(hx:ExW e)(w:World)(p:WP)(C:List Ins)(G W K:List Nat)(h:WAt w p C G W K)(hF:Fine G W 0)(h4:6<=G.length)(hn:need e<=W.length)(hc:C.length+cE e+5<90000)(c:Nat):
 Calls Tryz.prog 160 #[WV p,.int .i64 (c:Int),exV e] w λx w'=>x=.returned (.tuple #[])/\WAt w' p (C++((exC G W e).1++roC (G.erase (exC G W e).2) (exC G W e).2 c)) G W K/\Fk p.lo w w':=by
 have hex:=hx w p C G W K h hF hn (by omega)
 have hm:=exC_mem e hF
 have hel:=exC_len e G W
 have hsr:=h.regs.srt
 have h8:=h.lenG
 have hgl:(G.erase (exC G W e).2).length=G.length-1:=List.length_erase_of_mem hm
 have hs1:=hsr.erase (exC G W e).2
 have hie:=hide (ins_erase hsr hm)
 have hnm:(exC G W e).2∉G.erase (exC G W e).2:=λx=>(hF.gn.mem_erase_iff.1 x).1 rfl
 generalize exC G W e=X at*
 obtain⟨m,f,t,t',G4,hG⟩:=four (g:=G.erase X.2) (by omega)
 rw[hG]at hex hs1 hgl hnm ⊢
 rw[hG]at hie
 rw[exV_good he]at hex ⊢
 generalize exT e=te at*
 generalize exP e=xe at*
 have hs2:=(List.pairwise_cons.1 hs1).2
 have HL:Hid ((m::f::t::t'::G4).length=G.length-1/\X.1.length<=cE e/\G.length<=8/\6<=G.length/\C.length+cE e+5<90000):=⟨hgl,hel,h8,h4,hc⟩
 have hco:roC (m::f::t::t'::G4) X.2 c=[.kst m 5,.bin 60 f X.2 m,.sel X.2 X.2 f m,.kst t (c:Nat),.st t X.2]:=rfl
 rw[hco]
 clear h hx he hgl hG hel h8 h4 hco
 go_enter_defers Tryz.func160,Tryz.ntmps160
 go_wp2_with fail
 refine hex.mono ?_
 rintro y w1 ⟨rfl,h1,b1⟩
 obtain⟨c1,_⟩:=h1.c
 have hnu:=number_c h1 (by have:=HL.out;simp only[List.length_append];omega) 5
 clear h1
 go_wp2_with fail
 refine hnu.mono ?_
 rintro y w3 ⟨rfl,h3,b3⟩
 obtain⟨c3,_⟩:=h3.c
 have ht:=take_c h3.regs
 have H3:=hide h3
 clear h3
 go_wp2_with fail
 refine ht.mono ?_
 rintro y w4 ⟨rfl,P4,T4⟩
 obtain⟨h4,b4⟩:=H3.out.regs' P4 T4
 obtain⟨c4,_⟩:=h4.c
 have hls:=less_w h4 (by have:=HL.out;simp only[List.length_append,List.length_cons,List.length_nil];omega) f X.2 m
 clear h4 P4
 go_wp2_with fail
 refine hls.mono ?_
 rintro y w5 ⟨rfl,h5,b5⟩
 have hch:=choice_c h5 (by have:=HL.out;simp only[List.length_append,List.length_cons,List.length_nil];omega) X.2 f X.2 m
 clear h5
 go_wp2_with fail
 refine hch.mono ?_
 rintro y w6 ⟨rfl,h6,b6⟩
 have hst:=store_c h6 (by have:=HL.out;simp only[List.length_append,List.length_cons,List.length_nil];omega) (c:Int) X.2
 clear h6
 go_wp2_with fail
 refine hst.mono ?_
 rintro y w8 ⟨rfl,h8,b8⟩
 go_wp2_with fail
 refine leaves_cons (f:=149) (args:=#[.pointer (some ⟨p.rp,0,none⟩),.int .i64 (f:Int)]) (by simp) (by simp[go_sem]) ?_
 refine(h8.give .returning (Srt.hd_not hs2) (by have:=HL.out;simp at this ⊢;omega)).mono ?_
 rintro y u1 w9 ⟨rfl,rfl,h9,b9⟩
 rw[Srt.ins_hd hs2]at h9
 refine leaves_cons (f:=149) (args:=#[.pointer (some ⟨p.rp,0,none⟩),.int .i64 (m:Int)]) (by simp[settle]) (by simp[go_sem]) ?_
 refine(h9.give _ (Srt.hd_not hs1) (by have:=HL.out;simp at this ⊢;omega)).mono ?_
 rintro y u2 w10 ⟨rfl,rfl,h10,b10⟩
 rw[Srt.ins_hd hs1]at h10
 refine leaves_cons (f:=149) (args:=#[.pointer (some ⟨p.rp,0,none⟩),.int .i64 ((X.2:Nat):Int)]) (by simp[settle]) (by simp[go_sem]) ?_
 refine(h10.give _ hnm (by have:=HL.out;simp at this ⊢;omega)).mono ?_
 rintro y u4 w12 ⟨rfl,rfl,h12,b12⟩
 refine⟨_,results_none rfl _ _ _,rfl,?_,(((((((b1.trans b3).trans b4).trans b5).trans b6).trans b8).trans b9).trans b10).trans b12⟩
 rw[hie.out]at h12
 simp only[List.append_assoc]at h12
 exact h12
mutual
theorem doC_len:∀(d:Do) (p:Nat) (w:List Nat) (k:Option Nat),(doC p w k d).length<=cD d
 |.set _ n e,p,w,k=>by
  have:=exC_len e R8 w
  have:=chC_len (R8.erase (exC R8 w e).2).tail (hd (R8.erase (exC R8 w e).2)) (exC R8 w e).2 k
  rw[doC,cD]
  simp only[List.length_append,List.length_cons]
  omega
 |.put _ n i e,p,w,k=>by
  have:=exC_len e R8 w
  have:=exC_len i (R8.erase (exC R8 w e).2) w
  have:=chC_len ((R8.erase (exC R8 w e).2).erase (exC (R8.erase (exC R8 w e).2) w i).2) (exC (R8.erase (exC R8 w e).2) w i).2 (exC R8 w e).2 k
  have h10:(plC ((R8.erase (exC R8 w e).2).erase (exC (R8.erase (exC R8 w e).2) w i).2) (exC (R8.erase (exC R8 w e).2) w i).2 n).length=10:=rfl
  rw[doC,cD]
  simp only[List.length_append]
  omega
 |.ifs _ q y n,p,w,k=>by
  rw[doC,cD]
  split
  · have:=exC_len q R8 w.tail.tail
    have:=coC_len (R8.erase (exC R8 w.tail.tail q).2) (exC R8 w.tail.tail q).2 (hd w) (hd w.tail) k
    have:=λp w k=>dosC_len y p w k
    have a:=this (p+(exC R8 w.tail.tail q).1.length+(coC (R8.erase (exC R8 w.tail.tail q).2) (exC R8 w.tail.tail q).2 (hd w) (hd w.tail) k).length) w.tail.tail (some (hd w))
    have b:=dosC_len n (p+(exC R8 w.tail.tail q).1.length+(coC (R8.erase (exC R8 w.tail.tail q).2) (exC R8 w.tail.tail q).2 (hd w) (hd w.tail) k).length+(dosC (p+(exC R8 w.tail.tail q).1.length+(coC (R8.erase (exC R8 w.tail.tail q).2) (exC R8 w.tail.tail q).2 (hd w) (hd w.tail) k).length) w.tail.tail (some (hd w)) y).length) w.tail.tail (some (hd w.tail))
    simp only[List.length_append]
    omega
  · have:=exC_len q R8 w
    have a:=dosC_len y (p+(exC R8 w q).1.length+1) w k
    have b:=dosC_len n (p+(exC R8 w q).1.length+1+(dosC (p+(exC R8 w q).1.length+1) w k y).length+1) w k
    simp only[List.length_append,List.length_cons]
    omega
 |.fors _ n r l,p,w,k=>by
  rw[doC,cD]
  have:=exC_len r R8 w.tail
  have a:=dosC_len l (p+(exC R8 w.tail r).1.length+8+6) w.tail k
  simp only[List.length_append,List.length_cons,List.length_nil,roC,hdC,onC]
  omega
 |.none,p,w,k=>by rw[doC];simp
theorem dosC_len:∀(l:List Do) (p:Nat) (w:List Nat) (k:Option Nat),(dosC p w k l).length<=cD.cDs l
 |[],p,w,k=>by rw[dosC];simp
 |d::l,p,w,k=>by
  rw[dosC,cD.cDs]
  have:=doC_len d p w k
  have:=dosC_len l (p+(doC p w k d).length) w k
  simp only[List.length_append]
  omega
end
theorem Fk.drew(lo:Nat)(w:World):Fk lo w w.drew:=⟨rfl,rfl,rfl,Nat.le_refl _,λ_ _ _=>rfl,λ_ _ _ _ _ _ _ _ _=>rfl⟩
theorem land_c{w:World}{p:WP}{A B:List Ins}{i i':Ins}{G W K:List Nat}(h:WAt w p (A++i::B) G W K)(_hf:(A++i::B).length<100000){n0 n1 n2 n3 n4:Int}(hi:inN i=[n0,n1,n2,n3,n4])(hi':inN i'=[n0,n1,n2,n3,((A++i::B).length:Nat)]):
 Calls Tryz.prog 158 #[WV p,.int .i64 (A.length:Int)] w λx w'=>x=.returned (.tuple #[])/\WAt w' p (A++i'::B) G W K/\Fk p.lo w w':=by
 obtain⟨g,cc,c0,c1,f1,gl,h',b'⟩:=code_set (h.same (w':=w.drew) (λ_ _=>rfl)) hi hi'
 have wl:p.wb<w.heap.size:=by obtain⟨_,_,_,h9⟩:=h.cv;exact h9
 have c0':w.cell? ⟨p.wb,0,none⟩=some (.slice (some ⟨g,0,none⟩) (A++i::B).length cc):=c0
 have c1':w.cell? ⟨g,5*A.length+4,none⟩=some (.int .i64 n4):=c1
 have f1':w.frozen? ⟨g,5*A.length+4,none⟩=false:=f1
 have gl':g<w.heap.size:=gl
 have l1:(A.length:Int)<((A++i::B).length:Int):=by simp only[List.length_append,List.length_cons];omega
 have l2:A.length<(A++i::B).length:=by simp only[List.length_append,List.length_cons];omega
 have e5:A.length*5+4=5*A.length+4:=by omega
 have H':=hide h'
 clear c0 c1 f1 gl h' h hi hi'
 generalize(A++i::B).length=L at*
 generalize A.length=M at*
 go_enter Tryz.func158,Tryz.ntmps158
 go_upto_region 0 with fail
 go_region
 all_goals go_wp2_with fail
 all_goals go_end0
 all_goals exact⟨rfl,H'.out,(Fk.drew _ _).trans b'⟩
theorem land_jz{w:World}{p:WP}{A B:List Ins}{b:Nat}{G W K:List Nat}(h:WAt w p (A++.jz b 0::B) G W K)(hf:(A++Ins.jz b 0::B).length<100000):
 Calls Tryz.prog 158 #[WV p,.int .i64 (A.length:Int)] w λx w'=>x=.returned (.tuple #[])/\WAt w' p (A++.jz b (A++Ins.jz b 0::B).length::B) G W K/\Fk p.lo w w':=
 land_c h hf (n0:=14) (n1:=0) (n2:=b) (n3:=0) (n4:=0) rfl rfl
theorem land_jmp{w:World}{p:WP}{A B:List Ins}{G W K:List Nat}(h:WAt w p (A++.jmp 0::B) G W K)(hf:(A++Ins.jmp 0::B).length<100000):
 Calls Tryz.prog 158 #[WV p,.int .i64 (A.length:Int)] w λx w'=>x=.returned (.tuple #[])/\WAt w' p (A++.jmp (A++Ins.jmp 0::B).length::B) G W K/\Fk p.lo w w':=
 land_c h hf (n0:=13) (n1:=0) (n2:=0) (n3:=0) (n4:=0) rfl rfl
theorem cond_end{w w3:World}{p:WP}{C:List Ins}{G W K K':List Nat}{cv kv nv:Value}(h:WAt w p C G W K)(a1:At w p.wb 132 ([cv,.pointer (some ⟨p.rp,0,none⟩),.pointer (some ⟨p.wp,0,none⟩)]++(p.tb.toList++[kv])))(o1:w.ownsRow p.lo 58 5 cv C.length (C.flatMap inV))(o2:w.ownsRow p.lo 3 1 kv K.length (ints (ofN K)))(hkv:∀k,kv.ownBlock=some k->k≠p.rg/\k≠p.wg)(hrow:w3.ownsRow 0 3 1 nv K'.length (ints (ofN K')))(hb:∀k,k<w.heap.size->¬kv.ownBlock=some k->w3.heap[k]?=w.heap[k]?)(hk:∀k,nv.ownBlock=some k->kv.ownBlock=some k∨w.heap.size<=k)(hs:w.heap.size<=w3.heap.size)(q1:w3.os=w.os)(q2:w3.tape=w.tape)(q3:w3.output=w.output):
 WAt (w3.setCell ⟨p.wb,259,none⟩ nv) p C G W K'/\Fk p.lo w (w3.setCell ⟨p.wb,259,none⟩ nv):=by
 obtain⟨cw,fw,kw⟩:=at_kind a1
 have hl:=h.hl
 have low:=h.low
 have nkw:¬kv.ownBlock=some p.wb:=λe=>by
  obtain⟨_,_,k1⟩:=own_kind o2 e
  exact kind_ne k1 kw (by decide) rfl
 have nnw:¬nv.ownBlock=some p.wb:=λe=>by
  rcases hk p.wb e with e' |e'
  · exact nkw e'
  · have:=a1.lt;omega
 have sm:∀k,k<w.heap.size->k≠p.wb->¬kv.ownBlock=some k->(w3.setCell ⟨p.wb,259,none⟩ nv).heap[k]?=w.heap[k]?:=λk hk' n1 n2=>(heap_setCell_other _ ⟨p.wb,259,none⟩ k _ n1).trans (hb k hk' n2)
 have a3:=a1.of_block (hb p.wb a1.lt nkw)
 have aS:=a3.set 259 nv
 have eS:([cv,.pointer (some ⟨p.rp,0,none⟩),.pointer (some ⟨p.wp,0,none⟩)]++(p.tb.toList++[kv])).set 259 nv=[cv,.pointer (some ⟨p.rp,0,none⟩),.pointer (some ⟨p.wp,0,none⟩)]++(p.tb.toList++[nv]):=by
  have ht:p.tb.toList.length=256:=h.tab
  rw[List.set_append_right _ _ (by simp),List.set_append_right _ _ (by simp[ht])]
  congr 2
  simp[ht]
 rw[eS]at aS
 obtain⟨⟨c1,f1,k1⟩,⟨c2,f2,k2⟩⟩:=pool_kind h.regs
 obtain⟨⟨c3,f3,k3⟩,⟨c4,f4,k4⟩⟩:=pool_kind h.words
 obtain⟨r1,r2,_,_⟩:=h.regs.lt
 obtain⟨w1,w2,_,_⟩:=h.words.lt
 have npool:∀{k:Nat} {c:Array Value} {f:Nat×Nat},w.heap[k]?=some (.cells c 188 f)->¬kv.ownBlock=some k:=λhc e=>by
  obtain⟨_,_,kk⟩:=own_kind o2 e
  exact kind_ne kk hc (by decide) rfl
 refine⟨⟨⟨cv,nv,aS,own_block o1 (λk e=>?_),own_up (ownsRow_setCell_other hrow (by exact nnw) _) (λk e=>?_),λk e=>?_⟩,h.regs.keep (sm _ r1 (kind_ne k1 kw (by decide)) (npool k1)) (sm _ r2 (kind_ne k2 kw (by decide)) (λe=>(hkv _ e).1 rfl)),h.words.keep (sm _ w1 (kind_ne k3 kw (by decide)) (npool k3)) (sm _ w2 (kind_ne k4 kw (by decide)) (λe=>(hkv _ e).2 rfl)),h.tab,h.ne,h.low,h.few⟩,⟨q1,q2,q3,by rw[World.size_setCell];omega,λk hk' hk2=>?_,λk c t f hc h1' h2' h3' h4'=>?_⟩⟩
 · obtain⟨_,_,kk⟩:=own_kind o1 e
   refine sm k (o1.lt k e).2 (kind_ne kk kw (by decide)) λe2=>?_
   obtain⟨_,_,kk2⟩:=own_kind o2 e2
   exact kind_ne kk kk2 (by decide) rfl
 · rcases hk k e with e' |e'
   · exact(o2.lt k e').1
   · omega
 · rcases hk k e with e' |e'
   · exact hkv k e'
   · exact⟨by omega,by omega⟩
 · exact sm k hk2 (by omega) λe=>by have:=(o2.lt k e).1;omega
 · refine sm k (heap_lt hc) (kind_ne hc kw h1') λe=>?_
   obtain⟨_,_,kk⟩:=own_kind o2 e
   exact kind_ne hc kk h4' rfl
theorem endCond_d{w:World}{p:WP}{C:List Ins}{G W K:List Nat}{a:Nat}(u:FrameMode)(h:WAt w p C G W (K++[a]))(hK:K.length<=1000):
 CallsD Tryz.prog 213 #[WV p] u w λy u' w'=>u'=u/\(y=.returned (.tuple #[])/\WAt w' p C G W K/\Fk p.lo w w'):=by
 obtain⟨cv,kv,a1,o1,o2,hkv⟩:=h.rows
 have c:=(wcell a1 h.tab).2.2.2
 have fz:=a1.frozen 259
 have wl:=a1.lt
 obtain⟨g,kc,rfl⟩:∃g kc,kv=.slice (some ⟨g,0,none⟩) (K++[a]).length kc:=by
  rcases Joins.ownsRow_forms o2 with⟨rfl,h0⟩|⟨g,kc,rfl⟩
  · simp at h0
  · exact⟨g,kc,rfl⟩
 have hlen:(K++[a]).length=K.length+1:=by simp
 have hcap:K.length+1<=kc:=by
  obtain⟨_,⟨e1,_⟩|⟨g',cap',cur,e1,_,_,hc,_⟩⟩:=o2
  · cases e1
  · cases e1
    rw[<-hlen];exact hc
 have hrow:w.ownsRow 0 3 1 (.slice (some ⟨g,0,none⟩) K.length kc) K.length (ints (ofN K)):=by
  obtain⟨_,⟨e1,_⟩|⟨g',cap',cur,e1,_,hg,hc,hm,hs,ht⟩⟩:=o2
  · cases e1
  · cases e1
    refine⟨by simp[ints,ofN],Or.inr ⟨g,kc,cur,rfl,Nat.zero_le _,hg,by omega,hm,hs,?_⟩⟩
    have e3:ints (ofN (K++[a]))=ints (ofN K)++[.int .i64 (a:Int)]:=by unfold ints ofN;simp
    have e4:=congrArg (List.take (K.length*1)) ht
    rw[List.take_take,e3,Nat.min_eq_left (by rw[hlen];omega)]at e4
    rw[e4,List.take_append_of_le_length (by simp[ints,ofN]),List.take_of_length_le (by simp[ints,ofN])]
 have hE:=cond_end (w3:=w.drew) (h:=h) (K':=K) (nv:=.slice (some ⟨g,0,none⟩) K.length kc) a1 o1 o2 hkv hrow (λ_ _ _=>rfl) (λk e=>Or.inl e) (Nat.le_refl _) rfl rfl rfl
 have HE:=hide hE
 rw[hlen]at c
 have e1:wrap64 (((K.length+1:Nat):Int)-1)=(K.length:Int):=by unfold wrap64;omega
 have e2:IntKind.i64.wrap (((K.length+1:Nat):Int)-1)=(K.length:Int):=by rw[IntKind.wrap_i64];omega
 have e3:IntKind.i64.wrap (K.length:Int)=(K.length:Int):=by rw[IntKind.wrap_i64];omega
 have l1:K.length<=kc:=by omega
 have l2:(K.length:Int)<=(kc:Int):=by omega
 generalize hL:K.length+1=L at*
 generalize hM:K.length=M at*
 clear h hE a1 o1 o2 hkv hrow hlen hL hcap
 go_enter_d Tryz.func213,Tryz.ntmps213
 go_upto_region 0 with fail
 go_region
 all_goals go_wp2_with fail
 all_goals go_end0
 all_goals exact⟨rfl,HE.out⟩
def DosW(N:Nat)(l:List Do):Prop:=∀(B:Nat->Prop) (w:World) (p:WP) (C:List Ins) (W K:List Nat) (lv:Value) (us:List Value),WAt w p C R8 W K->DRow B w lv us->Each B w l us->(∀k,B k->k<p.lo)->(∀x∈W,x<256)->V.wfL N l->needD.needL l<=W.length->C.length+cD.cDs l<90000->K.length+needD.needL l<=1000→
 Calls Tryz.prog 67 #[WV p,lv] w λx w'=>x=.returned (.tuple #[])/\WAt w' p (C++dosC C.length W K.getLast? l) R8 W K/\Fk p.lo w w'
theorem dosUnder_c{N:Nat}{l:List Do}(hl:DosW N l)(wl:V.wfL N l)(B:Nat->Prop)(w:World)(p:WP)(C:List Ins)(W K:List Nat)(a:Nat)(lv:Value)(us:List Value)(h:WAt w p C R8 W K)(dr:DRow B w lv us)(de:Each B w l us)(hB:∀k,B k->k<p.lo)(hW:∀x∈W,x<256)(hn:needD.needL l<=W.length)(hc:C.length+cD.cDs l<90000)(hK:K.length+1+needD.needL l<=1000):
 Calls Tryz.prog 192 #[WV p,.int .i64 (a:Int),lv] w λx w'=>x=.returned (.tuple #[])/\WAt w' p (C++dosC C.length W (some a) l) R8 W K/\Fk p.lo w w':=by
 obtain⟨cv,kv,a1,o1,o2,hkv⟩:=h.rows
 have c:=(wcell a1 h.tab).2.2.2
 have wl':=a1.lt
 obtain⟨ka,kc,rfl⟩:∃ka kc,kv=.slice ka K.length kc:=by
  rcases Joins.ownsRow_forms o2 with⟨rfl,h0⟩|⟨g,kc,rfl⟩
  · exact⟨none,0,by rw[h0]⟩
  · exact⟨_,_,rfl⟩
 obtain⟨la,ln,lc,hlv⟩:=dr.form
 subst hlv
 obtain⟨j0,ji,jz0,jz1,jz2⟩:=info_parts info_i
 have nkw:¬(Value.slice ka K.length kc).ownBlock=some p.wb:=λe=>by
  obtain⟨_,_,k1⟩:=own_kind o2 e
  obtain⟨_,_,kw⟩:=at_kind a1
  exact kind_ne k1 kw (by decide) rfl
 have hlast:(K++[a]).getLast?=some a:=List.getLast?_concat
 have hdos:=fun(w':World) (h':WAt w' p C R8 W (K++[a])) (f:Fk p.lo w w')=>hl B w' p C W (K++[a]) (.slice la ln lc) us h' (dr.keep λk b1 b2=>f.low k (hB k b1) b2) (de.keep λk b1 b2=>f.low k (hB k b1) b2) hB hW wl hn hc (by rw[List.length_append];show K.length+1+_<=_;exact hK)
 rw[hlast]at hdos
 have HO:=hide (Joins.ownsRow_le o2 (Nat.zero_le _))
 have H1:=hide a1
 have H2:=hide o1
 have H3:=hide o2
 have H4:=hide h
 have hK':K.length<=1000:=by omega
 clear h a1 o1 o2 dr de hlast hl wl hK hn
 generalize dosC C.length W (some a) l=DD at*
 go_enter_defers Tryz.func192,Tryz.ntmps192
 go_wp2_with (at_builtin;refine wpList_append_row1 _ rfl _ _ 32 rfl 3 j0 (.int .i64 0) 1 8 Tryz.underlying32 ji jz0 jz1 jz2 rfl (by decide) _ K.length (ints (ofN K)) rfl (by exact World.ownsRow.alloc HO.out _) ⟨w.heap.size,0,none⟩ 1 1 [.int .i64 (a:Int)] rfl rfl (by exact row_new w [.int .i64 (a:Int)] _) (by intro u hu;simp only[List.mem_singleton]at hu;subst hu;rfl) (few_le (by omega)) (by omega) Nat.one_pos ?_;intro gg cap3 w3 hrow hgr hkk;have aW3:=(H1.out.alloc (.cells #[.int .i64 (a:Int)] 3 (0,0))).of_block (hgr.block p.wb (by show p.wb<(World.alloc _ _).heap.size;rw[size_alloc];omega) (λe=>nkw e.symm));have cw:=(wcell aW3 H4.out.tab).2.2.2;have fw:=aW3.frozen 259;have HA3:=hide aW3;have HR3:=hide hrow;clear aW3 hrow)
 have hrow3:w3.ownsRow 0 3 1 (.slice (some ⟨gg,0,none⟩) (K.length+1) cap3) (K++[a]).length (ints (ofN (K++[a]))):=by
  have e3:ints (ofN (K++[a]))=ints (ofN K)++[.int .i64 (a:Int)]:=by unfold ints ofN;simp
  rw[List.length_append,e3]
  exact HR3.out
 have hE:=cond_end (w3:=w3) (h:=H4.out) (K':=K++[a]) (nv:=.slice (some ⟨gg,0,none⟩) (K.length+1) cap3) H1.out H2.out H3.out hkv hrow3 (λk hk hn=>(hgr.block k (by show k<(World.alloc _ _).heap.size;rw[size_alloc];omega) (λe=>hn e.symm)).trans (heap_alloc_old _ _ _ hk)) (λk e=>(hkk k e).imp id (λe'=>by have e2:(World.alloc _ _).heap.size<=k:=e';rw[size_alloc]at e2;omega)) (by have e2:(World.alloc _ _).heap.size<=_:=hgr.size;rw[size_alloc]at e2;omega) (hgr.os.trans rfl) (hgr.tape.trans rfl) (hgr.output.trans rfl)
 have hd:=hdos _ hE.1 hE.2
 have HE:=hide hE.2
 clear hE hdos
 refine hd.mono ?_
 rintro y w5 ⟨rfl,h5,b5⟩
 go_wp2_with fail
 refine leaves_cons (f:=213) (args:=#[WV p]) (by simp) (by simp[go_sem]) ?_
 refine(endCond_d .returning h5 hK').mono ?_
 rintro y u' w6 ⟨rfl,rfl,h6,b6⟩
 exact⟨_,results_none rfl _ _ _,rfl,h6,(HE.out.trans b5).trans b6⟩
theorem doBoth_c{N:Nat}(p0:Int)(e:Ex)(y n:List Do)(he:K.good e=true)(hx:ExW e)(hy:DosW N y)(hn:DosW N n)(wy:V.wfL N y)(wn:V.wfL N n)(B:Nat->Prop)(w:World)(p:WP)(C:List Ins)(a b:Nat)(W K:List Nat)(yv nv:Value)(ys ns:List Value)(h:WAt w p C R8 (a::b::W) K)(dr:DRow B w yv ys)(de:Each B w y ys)(dr2:DRow B w nv ns)(de2:Each B w n ns)(hB:∀k,B k->k<p.lo)(hW:∀x∈a::b::W,x<256)(h1:need e<=W.length)(h2:needD.needL y<=W.length)(h3:needD.needL n<=W.length)(hc:C.length+(cE e+cD.cDs y+cD.cDs n+11)<90000)(hk1:K.length+1+needD.needL y<=1000)(hk2:K.length+1+needD.needL n<=1000):
 Calls Tryz.prog 155 #[WV p,.agg #[.int .i64 p0,exV e,yv,nv]] w λx w'=>x=.returned (.tuple #[])/\WAt w' p (C++((exC R8 W e).1++(coC (R8.erase (exC R8 W e).2) (exC R8 W e).2 a b K.getLast?++(dosC (C.length+(exC R8 W e).1.length+(coC (R8.erase (exC R8 W e).2) (exC R8 W e).2 a b K.getLast?).length) W (some a) y++dosC (C.length+(exC R8 W e).1.length+(coC (R8.erase (exC R8 W e).2) (exC R8 W e).2 a b K.getLast?).length+(dosC (C.length+(exC R8 W e).1.length+(coC (R8.erase (exC R8 W e).2) (exC R8 W e).2 a b K.getLast?).length) W (some a) y).length) W (some b) n)))) R8 (a::b::W) K/\Fk p.lo w w':=by
 obtain⟨la,ln,lc,hlv⟩:=dr.form
 subst hlv
 obtain⟨ra,rn,rc,hrv⟩:=dr2.form
 subst hrv
 obtain⟨W0,hW0⟩:∃W0,w.alloc (.cells #[.int .i64 p0,exV e,.slice la ln lc,.slice ra rn rc] 184 (0,0))=W0:=⟨_,rfl⟩
 have h0:WAt W0 p C R8 (a::b::W) K:=by rw[<-hW0];exact h.alloc _
 have F0:Hid (Fk p.lo w W0):=by rw[<-hW0];exact(Fk.refl _ _).alloc _
 have RF:Hid (At W0 w.heap.size 184 [.int .i64 p0,exV e,.slice la ln lc,.slice ra rn rc]):=by rw[<-hW0];exact At.alloc_new w _ _
 have hsW:=h.words.srt
 have hsW2:=(List.pairwise_cons.1 hsW).2
 have hwc:=h.words.lt.2.2.2
 have hlo:=h.hl
 have hW':∀x∈W,x<256:=λx hx=>hW x (List.mem_cons_of_mem _ (List.mem_cons_of_mem _ hx))
 have ht1:=take_c h0.words
 obtain⟨_,c2⟩:=h0.c
 have hsc:=fun(w:World) (C':List Ins) (h':WAt w p C' R8 W K) (hc':C'.length+cE e+9<90000)=>stc_c e he hx w p C' R8 W K h' (h'.fine8 hW') (by decide) h1 hc' (by omega) a b
 have hcol:(coC (R8.erase (exC R8 W e).2) (exC R8 W e).2 a b K.getLast?).length<=9:=coC_len _ _ _ _ _
 have hel:=exC_len e R8 W
 have hdl:=dosC_len y (C.length+(exC R8 W e).1.length+(coC (R8.erase (exC R8 W e).2) (exC R8 W e).2 a b K.getLast?).length) W (some a)
 have hkp:∀w':World,Fk p.lo w w'->∀k,B k->k<w.heap.size->w'.heap[k]?=w.heap[k]?:=λw' f k b1 b2=>f.low k (hB k b1) b2
 have hyy:=fun(w':World) (C':List Ins) (h':WAt w' p C' R8 W K) (f:Fk p.lo w w') (hc':C'.length+cD.cDs y<90000)=>dosUnder_c hy wy B w' p C' W K a (.slice la ln lc) ys h' (dr.keep (hkp w' f)) (de.keep (hkp w' f)) hB hW' h2 hc' hk1
 have hnn:=fun(w':World) (C':List Ins) (h':WAt w' p C' R8 W K) (f:Fk p.lo w w') (hc':C'.length+cD.cDs n<90000)=>dosUnder_c hn wn B w' p C' W K b (.slice ra rn rc) ns h' (dr2.keep (hkp w' f)) (de2.keep (hkp w' f)) hB hW' h3 hc' hk2
 have z1:=RF.out.cell 1
 simp only[List.getElem?_cons_zero,List.getElem?_cons_succ]at z1
 rw[exV_good he]at z1 hW0 RF ⊢
 simp only[exV_good he]at hsc
 generalize exT e=te at*
 generalize exP e=xe at*
 generalize hco:coC (R8.erase (exC R8 W e).2) (exC R8 W e).2 a b K.getLast?=CO at*
 generalize exC R8 W e=X at*
 have H0:=hide h0
 have HL:Hid (CO.length<=9/\X.1.length<=cE e/\C.length+(cE e+cD.cDs y+cD.cDs n+11)<90000/\(dosC (C.length+X.1.length+CO.length) W (some a) y).length<=cD.cDs y):=⟨hcol,hel,hc,hdl⟩
 clear h h0 hx he hcol hel hc hdl hco dr de dr2 de2
 go_enter_defers Tryz.func155,Tryz.ntmps155
 go_wp2_with fail
 refine ht1.mono ?_
 rintro v w1 ⟨rfl,P1,T1⟩
 obtain⟨h1',b1⟩:=H0.out.words' P1 T1
 obtain⟨_,c2'⟩:=h1'.c
 have ht2:=take_c h1'.words
 have H1:=hide h1'
 clear h1' P1
 go_wp2_with fail
 refine ht2.mono ?_
 rintro v w2 ⟨rfl,P2,T2⟩
 obtain⟨h2',b2⟩:=H1.out.words' P2 T2
 obtain⟨_,c2''⟩:=h2'.c
 have b12:=b1.trans b2
 have R2:=b12.at_ RF.out (by decide) (by decide) (by decide) (by decide)
 have k1:=R2.cell 1
 simp only[List.getElem?_cons_zero,List.getElem?_cons_succ]at k1
 have hst:=hsc w2 C h2' (by have:=HL.out;omega)
 clear h2' P2 R2
 go_wp2_with fail
 refine hst.mono ?_
 rintro v w3 ⟨rfl,h3',b3⟩
 have F3:=(F0.out.trans b12).trans b3
 have R3:=(b12.trans b3).at_ RF.out (by decide) (by decide) (by decide) (by decide)
 have k2:=R3.cell 2
 simp only[List.getElem?_cons_zero,List.getElem?_cons_succ]at k2
 have hY:=hyy w3 _ h3' F3 (by have:=HL.out;simp only[List.length_append];omega)
 have HF3:=hide F3
 clear h3' F3 R3 hst hsc
 go_wp2_with fail
 refine hY.mono ?_
 rintro v w4 ⟨rfl,h4',b4⟩
 have F4:=HF3.out.trans b4
 have R4:=((b12.trans b3).trans b4).at_ RF.out (by decide) (by decide) (by decide) (by decide)
 have k3:=R4.cell 3
 simp only[List.getElem?_cons_zero,List.getElem?_cons_succ]at k3
 have el:(C++(X.1++CO)).length=C.length+X.1.length+CO.length:=by simp only[List.length_append];omega
 rw[el]at h4'
 have hN:=hnn w4 _ h4' F4 (by have:=HL.out;simp only[List.length_append];omega)
 have HF4:=hide F4
 have el2:(C++(X.1++CO)++dosC (C.length+X.1.length+CO.length) W (some a) y).length=C.length+X.1.length+CO.length+(dosC (C.length+X.1.length+CO.length) W (some a) y).length:=by simp only[List.length_append];omega
 rw[el2]at hN
 clear h4' F4 R4 hY hyy hnn el2
 go_wp2_with fail
 refine hN.mono ?_
 rintro v w5 ⟨rfl,h5',b5⟩
 go_wp2_with fail
 refine leaves_cons (f:=149) (args:=#[.pointer (some ⟨p.wp,0,none⟩),.int .i64 (b:Int)]) (by simp) (by simp[go_sem]) ?_
 refine(h5'.giveW .returning (Srt.hd_not hsW2) (by simp at hwc;omega)).mono ?_
 rintro v u1 w6 ⟨rfl,rfl,h6,b6⟩
 rw[Srt.ins_hd hsW2]at h6
 refine leaves_cons (f:=149) (args:=#[.pointer (some ⟨p.wp,0,none⟩),.int .i64 (a:Int)]) (by simp[settle]) (by simp[go_sem]) ?_
 refine(h6.giveW _ (Srt.hd_not hsW) (by simp at hwc ⊢;omega)).mono ?_
 rintro v u2 w7 ⟨rfl,rfl,h7,b7⟩
 refine⟨_,results_none rfl _ _ _,rfl,?_,((HF4.out.trans b5).trans b6).trans b7⟩
 rw[Srt.ins_hd hsW]at h7
 simp only[List.append_assoc]at h7
 exact h7
theorem branch_pub{N:Nat}(p0:Int)(e:Ex)(y n:List Do)(he:K.good e=true)(hq:K.sec e=false)(hx:ExW e)(hy:DosW N y)(hn:DosW N n)(wy:V.wfL N y)(wn:V.wfL N n)(B:Nat->Prop)(w:World)(p:WP)(C:List Ins)(W K:List Nat)(yv nv:Value)(ys ns:List Value)(h:WAt w p C R8 W K)(dr:DRow B w yv ys)(de:Each B w y ys)(dr2:DRow B w nv ns)(de2:Each B w n ns)(hB:∀k,B k->k<p.lo)(hW:∀x∈W,x<256)(h1:need e<=W.length)(h2:needD.needL y<=W.length)(h3:needD.needL n<=W.length)(hc:C.length+(cE e+cD.cDs y+cD.cDs n+11)<90000)(hk1:K.length+needD.needL y<=1000)(hk2:K.length+needD.needL n<=1000):
 Calls Tryz.prog 125 #[WV p,.agg #[.int .i64 p0,exV e,yv,nv]] w λx w'=>x=.returned (.tuple #[])/\WAt w' p (C++((exC R8 W e).1++(.jz (exC R8 W e).2 (C.length+(exC R8 W e).1.length+1+(dosC (C.length+(exC R8 W e).1.length+1) W K.getLast? y).length+1)::(dosC (C.length+(exC R8 W e).1.length+1) W K.getLast? y++(.jmp (C.length+(exC R8 W e).1.length+1+(dosC (C.length+(exC R8 W e).1.length+1) W K.getLast? y).length+1+(dosC (C.length+(exC R8 W e).1.length+1+(dosC (C.length+(exC R8 W e).1.length+1) W K.getLast? y).length+1) W K.getLast? n).length)::dosC (C.length+(exC R8 W e).1.length+1+(dosC (C.length+(exC R8 W e).1.length+1) W K.getLast? y).length+1) W K.getLast? n))))) R8 W K/\Fk p.lo w w':=by
 obtain⟨la,ln,lc,hlv⟩:=dr.form
 subst hlv
 obtain⟨ra,rn,rc,hrv⟩:=dr2.form
 subst hrv
 have hm:=sec_method e he
 have hna:=sec_ahead e he
 have hen:=sec_enter e he
 have hs:=sec_c e he
 unfold SecDoes at hs
 rw[hq]at hs
 obtain⟨W0,hW0⟩:∃W0,w.alloc (.cells #[.int .i64 p0,exV e,.slice la ln lc,.slice ra rn rc] 184 (0,0))=W0:=⟨_,rfl⟩
 have h0:WAt W0 p C R8 W K:=by rw[<-hW0];exact h.alloc _
 have F0:Hid (Fk p.lo w W0):=by rw[<-hW0];exact(Fk.refl _ _).alloc _
 have RF:Hid (At W0 w.heap.size 184 [.int .i64 p0,exV e,.slice la ln lc,.slice ra rn rc]):=by rw[<-hW0];exact At.alloc_new w _ _
 have hju:=fun(w:World) (h':WAt w p C R8 W K)=>jumpUnless_c e he hx w p C R8 W K h' (h'.fine8 hW) h1 (by omega)
 have hel:=exC_len e R8 W
 have hdl:=dosC_len y (C.length+(exC R8 W e).1.length+1) W K.getLast?
 have hdn:=dosC_len n (C.length+(exC R8 W e).1.length+1+(dosC (C.length+(exC R8 W e).1.length+1) W K.getLast? y).length+1) W K.getLast?
 have hkp:∀w':World,Fk p.lo w w'->∀k,B k->k<w.heap.size->w'.heap[k]?=w.heap[k]?:=λw' f k b1 b2=>f.low k (hB k b1) b2
 have hyy:=fun(w':World) (C':List Ins) (h':WAt w' p C' R8 W K) (f:Fk p.lo w w') (hc':C'.length+cD.cDs y<90000)=>hy B w' p C' W K (.slice la ln lc) ys h' (dr.keep (hkp w' f)) (de.keep (hkp w' f)) hB hW wy h2 hc' hk1
 have hnn:=fun(w':World) (C':List Ins) (h':WAt w' p C' R8 W K) (f:Fk p.lo w w') (hc':C'.length+cD.cDs n<90000)=>hn B w' p C' W K (.slice ra rn rc) ns h' (dr2.keep (hkp w' f)) (de2.keep (hkp w' f)) hB hW wn h3 hc' hk2
 have z1:=RF.out.cell 1
 simp only[List.getElem?_cons_zero,List.getElem?_cons_succ]at z1
 rw[exV_good he]at z1 hW0 RF ⊢
 simp only[exV_good he]at hju
 generalize exM e=me at*
 generalize exT e=te at*
 generalize exP e=xe at*
 generalize exC R8 W e=X at*
 generalize hp1:C.length+X.1.length+1=p1 at*
 generalize hY:dosC p1 W K.getLast? y=Y at*
 generalize hp2:p1+Y.length+1=p2 at*
 generalize hNn:dosC p2 W K.getLast? n=Z at*
 have H0:=hide h0
 have HL:Hid (X.1.length<=cE e/\C.length+(cE e+cD.cDs y+cD.cDs n+11)<90000/\Y.length<=cD.cDs y/\Z.length<=cD.cDs n):=⟨hel,hc,hdl,hdn⟩
 have Hp1:=hide hp1
 have Hp2:=hide hp2
 have HY:=hide hY
 have HZ:=hide hNn
 clear h h0 hx he hel hc hdl hdn dr de dr2 de2 hp1 hp2 hY hNn
 go_enter Tryz.func125,Tryz.ntmps125
 go_wp2_with fail
 refine(hs _).mono ?_
 rintro v w1 ⟨rfl,B1⟩
 have h1':WAt w1 p C R8 W K:=H0.out.same λk hk=>B1.block k hk
 have b1:Fk p.lo W0 w1:=⟨B1.os,B1.tape,B1.output,B1.size,λk _ hk=>B1.block k hk,λk c t f hc _ _ _ _=>B1.block k (heap_lt hc)⟩
 have R1:=b1.at_ RF.out (by decide) (by decide) (by decide) (by decide)
 have k1:=R1.cell 1
 simp only[List.getElem?_cons_zero,List.getElem?_cons_succ]at k1
 have hj:=hju w1 h1'
 obtain⟨q4,hq4⟩:∃q,Hid (C.length+X.1.length=q):=⟨_,rfl⟩
 rw[hq4.out]at hj
 have HR1:=hide R1
 clear h1' R1 hju
 go_wp2_with fail
 refine hj.mono ?_
 rintro v w2 ⟨rfl,h2',b2⟩
 have R2:=b2.at_ HR1.out (by decide) (by decide) (by decide) (by decide)
 have k2:=R2.cell 2
 simp only[List.getElem?_cons_zero,List.getElem?_cons_succ]at k2
 have F2:=(F0.out.trans b1).trans b2
 have hYc:=hyy w2 _ h2' F2 (by have:=HL.out;simp only[List.length_append,List.length_cons,List.length_nil];omega)
 have el:(C++(X.1++[Ins.jz X.2 0])).length=p1:=by rw[<-Hp1.out];simp only[List.length_append,List.length_cons,List.length_nil];omega
 rw[el,HY.out]at hYc
 have HR2:=hide R2
 have HF2:=hide F2
 clear h2' R2 F2 el hj hyy
 go_wp2_with fail
 refine hYc.mono ?_
 rintro v w3 ⟨rfl,h3',b3⟩
 have hJ:=jump_c h3' (by have:=HL.out;simp only[List.length_append,List.length_cons,List.length_nil];omega)
 obtain⟨q5,hq5⟩:∃q,Hid ((C++(X.1++[Ins.jz X.2 0])++Y).length=q):=⟨_,rfl⟩
 rw[hq5.out]at hJ
 clear h3'
 go_wp2_with fail
 refine hJ.mono ?_
 rintro v w4 ⟨rfl,h4',b4⟩
 have e4:C++(X.1++[Ins.jz X.2 0])++Y++[Ins.jmp 0]=(C++X.1)++Ins.jz X.2 0::(Y++[Ins.jmp 0]):=by simp
 rw[e4]at h4'
 have hL1:=land_jz h4' (by have:=HL.out;simp only[List.length_append,List.length_cons,List.length_nil];omega)
 have el4:((C++X.1)++Ins.jz X.2 0::(Y++[Ins.jmp 0])).length=p2:=by rw[<-Hp2.out,<-Hp1.out];simp only[List.length_append,List.length_cons,List.length_nil];omega
 have el5:(C++X.1).length=C.length+X.1.length:=by rw[List.length_append]
 rw[el4,el5,hq4.out]at hL1
 clear h4' e4 el4 el5
 go_wp2_with fail
 refine hL1.mono ?_
 rintro v w5 ⟨rfl,h5',b5⟩
 have b35:=((b3.trans b4).trans b5)
 have R5:=b35.at_ HR2.out (by decide) (by decide) (by decide) (by decide)
 have k3:=R5.cell 3
 simp only[List.getElem?_cons_zero,List.getElem?_cons_succ]at k3
 have F5:=HF2.out.trans b35
 have hNc:=hnn w5 _ h5' F5 (by have:=HL.out;simp only[List.length_append,List.length_cons,List.length_nil];omega)
 have el6:((C++X.1)++Ins.jz X.2 p2::(Y++[Ins.jmp 0])).length=p2:=by rw[<-Hp2.out,<-Hp1.out];simp only[List.length_append,List.length_cons,List.length_nil];omega
 rw[el6,HZ.out]at hNc
 have HF5:=hide F5
 clear h5' R5 F5 el6 hnn
 go_wp2_with fail
 refine hNc.mono ?_
 rintro v w6 ⟨rfl,h6',b6⟩
 have e6:(C++X.1)++Ins.jz X.2 p2::(Y++[Ins.jmp 0])++Z=((C++X.1)++Ins.jz X.2 p2::Y)++Ins.jmp 0::Z:=by simp
 rw[e6]at h6'
 have hL2:=land_jmp h6' (by have:=HL.out;simp only[List.length_append,List.length_cons];omega)
 have el7:(((C++X.1)++Ins.jz X.2 p2::Y)++Ins.jmp 0::Z).length=p2+Z.length:=by rw[<-Hp2.out,<-Hp1.out];simp only[List.length_append,List.length_cons];omega
 have el8:((C++X.1)++Ins.jz X.2 p2::Y).length=(C++(X.1++[Ins.jz X.2 0])++Y).length:=by simp only[List.length_append,List.length_cons,List.length_nil];omega
 rw[el7,el8,hq5.out]at hL2
 clear h6' e6 el7 el8
 go_wp2_with fail
 refine hL2.mono ?_
 rintro v w7 ⟨rfl,h7,b7⟩
 go_wp2_with fail
 go_end0
 refine⟨rfl,?_,(HF5.out.trans b6).trans b7⟩
 simp only[List.append_assoc,List.cons_append]at h7 ⊢
 exact h7
theorem branch_sec{N:Nat}(p0:Int)(e:Ex)(y n:List Do)(he:K.good e=true)(hq:K.sec e=true)(hx:ExW e)(hy:DosW N y)(hn:DosW N n)(wy:V.wfL N y)(wn:V.wfL N n)(B:Nat->Prop)(w:World)(p:WP)(C:List Ins)(a b:Nat)(W K:List Nat)(yv nv:Value)(ys ns:List Value)(h:WAt w p C R8 (a::b::W) K)(dr:DRow B w yv ys)(de:Each B w y ys)(dr2:DRow B w nv ns)(de2:Each B w n ns)(hB:∀k,B k->k<p.lo)(hW:∀x∈a::b::W,x<256)(h1:need e<=W.length)(h2:needD.needL y<=W.length)(h3:needD.needL n<=W.length)(hc:C.length+(cE e+cD.cDs y+cD.cDs n+11)<90000)(hk1:K.length+1+needD.needL y<=1000)(hk2:K.length+1+needD.needL n<=1000):
 Calls Tryz.prog 125 #[WV p,.agg #[.int .i64 p0,exV e,yv,nv]] w λx w'=>x=.returned (.tuple #[])/\WAt w' p (C++((exC R8 W e).1++(coC (R8.erase (exC R8 W e).2) (exC R8 W e).2 a b K.getLast?++(dosC (C.length+(exC R8 W e).1.length+(coC (R8.erase (exC R8 W e).2) (exC R8 W e).2 a b K.getLast?).length) W (some a) y++dosC (C.length+(exC R8 W e).1.length+(coC (R8.erase (exC R8 W e).2) (exC R8 W e).2 a b K.getLast?).length+(dosC (C.length+(exC R8 W e).1.length+(coC (R8.erase (exC R8 W e).2) (exC R8 W e).2 a b K.getLast?).length) W (some a) y).length) W (some b) n)))) R8 (a::b::W) K/\Fk p.lo w w':=by
 obtain⟨la,ln,lc,hlv⟩:=dr.form
 subst hlv
 obtain⟨ra,rn,rc,hrv⟩:=dr2.form
 subst hrv
 have hm:=sec_method e he
 have hna:=sec_ahead e he
 have hen:=sec_enter e he
 have hs:=sec_c e he
 unfold SecDoes at hs
 rw[hq]at hs
 obtain⟨W0,hW0⟩:∃W0,w.alloc (.cells #[.int .i64 p0,exV e,.slice la ln lc,.slice ra rn rc] 184 (0,0))=W0:=⟨_,rfl⟩
 have h0:WAt W0 p C R8 (a::b::W) K:=by rw[<-hW0];exact h.alloc _
 have F0:Hid (Fk p.lo w W0):=by rw[<-hW0];exact(Fk.refl _ _).alloc _
 have RF:Hid (At W0 w.heap.size 184 [.int .i64 p0,exV e,.slice la ln lc,.slice ra rn rc]):=by rw[<-hW0];exact At.alloc_new w _ _
 have hkp:∀w':World,Fk p.lo w w'->∀k,B k->k<w.heap.size->w'.heap[k]?=w.heap[k]?:=λw' f k b1 b2=>f.low k (hB k b1) b2
 have hdb:=fun(w':World) (h':WAt w' p C R8 (a::b::W) K) (f:Fk p.lo w w')=>doBoth_c p0 e y n he hx hy hn wy wn B w' p C a b W K (.slice la ln lc) (.slice ra rn rc) ys ns h' (dr.keep (hkp w' f)) (de.keep (hkp w' f)) (dr2.keep (hkp w' f)) (de2.keep (hkp w' f)) hB hW h1 h2 h3 hc hk1 hk2
 have z1:=RF.out.cell 1
 simp only[List.getElem?_cons_zero,List.getElem?_cons_succ]at z1
 rw[exV_good he]at z1 hW0 RF ⊢
 simp only[exV_good he]at hdb
 generalize(C++((exC R8 W e).1++(coC (R8.erase (exC R8 W e).2) (exC R8 W e).2 a b K.getLast?++(dosC (C.length+(exC R8 W e).1.length+(coC (R8.erase (exC R8 W e).2) (exC R8 W e).2 a b K.getLast?).length) W (some a) y++dosC (C.length+(exC R8 W e).1.length+(coC (R8.erase (exC R8 W e).2) (exC R8 W e).2 a b K.getLast?).length+(dosC (C.length+(exC R8 W e).1.length+(coC (R8.erase (exC R8 W e).2) (exC R8 W e).2 a b K.getLast?).length) W (some a) y).length) W (some b) n))))=CC at*
 generalize exM e=me at*
 generalize exT e=te at*
 generalize exP e=xe at*
 have H0:=hide h0
 clear h h0 hx he dr de dr2 de2
 go_enter Tryz.func125,Tryz.ntmps125
 go_wp2_with fail
 refine(hs _).mono ?_
 rintro v w1 ⟨rfl,B1⟩
 have h1':WAt w1 p C R8 (a::b::W) K:=H0.out.same λk hk=>B1.block k hk
 have b1:Fk p.lo W0 w1:=⟨B1.os,B1.tape,B1.output,B1.size,λk _ hk=>B1.block k hk,λk c t f hc _ _ _ _=>B1.block k (heap_lt hc)⟩
 have R1:=b1.at_ RF.out (by decide) (by decide) (by decide) (by decide)
 have k0:=R1.cell 0
 have k1:=R1.cell 1
 have k2:=R1.cell 2
 have k3:=R1.cell 3
 simp only[List.getElem?_cons_zero,List.getElem?_cons_succ]at k0 k1 k2 k3
 have F1:=F0.out.trans b1
 have hj:=hdb w1 h1' F1
 have HF1:=hide F1
 clear h1' R1 hdb F1
 go_wp2_with fail
 refine hj.mono ?_
 rintro v w2 ⟨rfl,h2',b2⟩
 go_wp2_with fail
 (try simp only[Exit.inBlock,Exit.then])
 refine bodyPost_ret (results_none rfl _ _ _) rfl ?_
 exact⟨rfl,h2',HF1.out.trans b2⟩
theorem floop_c{N:Nat}(p0:Int)(n:Nm)(e:Ex)(l:List Do)(he:K.good e=true)(hx:ExW e)(hl:DosW N l)(wl:V.wfL N l)(B:Nat->Prop)(w:World)(p:WP)(C:List Ins)(c:Nat)(W K:List Nat)(lv:Value)(ls:List Value)(h:WAt w p C R8 (c::W) K)(dr:DRow B w lv ls)(de:Each B w l ls)(hB:∀k,B k->k<p.lo)(hW:∀x∈c::W,x<256)(h1:need e<=W.length)(h2:needD.needL l<=W.length)(hc:C.length+(cE e+14+5*(cD.cDs l+13))<90000)(hk1:K.length+needD.needL l<=1000):
 Calls Tryz.prog 126 #[WV p,.agg #[.int .i64 p0,.string n.text,.int .i64 n.kind,.bool n.sec,.int .i64 n.size,.int .i64 n.place,exV e,lv]] w λx w'=>x=.returned (.tuple #[])/\WAt w' p (C++((exC R8 W e).1++(roC (R8.erase (exC R8 W e).2) (exC R8 W e).2 c++([.kst 0 0,.kst 1 n.place,.st 1 0]++(hdC n.place c (C.length+(exC R8 W e).1.length+8+6+(dosC (C.length+(exC R8 W e).1.length+8+6) W K.getLast? l).length+7)++(dosC (C.length+(exC R8 W e).1.length+8+6) W K.getLast? l++onC n.place (C.length+(exC R8 W e).1.length+8))))))) R8 (c::W) K/\Fk p.lo w w':=by
 obtain⟨x0,x1,x2,x3,x4⟩:=n
 obtain⟨la,ln,lc,hlv⟩:=dr.form
 subst hlv
 obtain⟨W0,hW0⟩:∃W0,w.alloc (.cells #[.int .i64 p0,.string x0,.int .i64 x1,.bool x2,.int .i64 x3,.int .i64 x4,exV e,.slice la ln lc] 186 (0,0))=W0:=⟨_,rfl⟩
 have h0:WAt W0 p C R8 (c::W) K:=by rw[<-hW0];exact h.alloc _
 have F0:Hid (Fk p.lo w W0):=by rw[<-hW0];exact(Fk.refl _ _).alloc _
 have RF:Hid (At W0 w.heap.size 186 [.int .i64 p0,.string x0,.int .i64 x1,.bool x2,.int .i64 x3,.int .i64 x4,exV e,.slice la ln lc]):=by rw[<-hW0];exact At.alloc_new w _ _
 have hsW:=h.words.srt
 have hwc:=h.words.lt.2.2.2
 have hW':∀x∈W,x<256:=λx hx=>hW x (List.mem_cons_of_mem _ hx)
 have ht1:=take_c h0.words
 obtain⟨_,c2⟩:=h0.c
 have hro:=fun(w:World) (h':WAt w p C R8 W K)=>rounds_c e he hx w p C R8 W K h' (h'.fine8 hW') (by decide) h1 (by omega) c
 have hrl:(roC (R8.erase (exC R8 W e).2) (exC R8 W e).2 c).length=5:=rfl
 have hel:=exC_len e R8 W
 have hdl:=dosC_len l (C.length+(exC R8 W e).1.length+8+6) W K.getLast?
 have hkp:∀w':World,Fk p.lo w w'->∀k,B k->k<w.heap.size->w'.heap[k]?=w.heap[k]?:=λw' f k b1 b2=>f.low k (hB k b1) b2
 have hll:=fun(w':World) (C':List Ins) (h':WAt w' p C' R8 W K) (f:Fk p.lo w w') (hc':C'.length+cD.cDs l<90000)=>hl B w' p C' W K (.slice la ln lc) ls h' (dr.keep (hkp w' f)) (de.keep (hkp w' f)) hB hW' wl h2 hc' hk1
 have z6:=RF.out.cell 6
 simp only[List.getElem?_cons_zero,List.getElem?_cons_succ]at z6
 rw[exV_good he]at z6 hW0 RF ⊢
 simp only[exV_good he]at hro
 dsimp only at*
 generalize exT e=te at*
 generalize exP e=xe at*
 generalize roC (R8.erase (exC R8 W e).2) (exC R8 W e).2 c=RO at*
 generalize exC R8 W e=X at*
 generalize hp1:C.length+X.1.length+8=p1 at*
 generalize hBB:dosC (p1+6) W K.getLast? l=BB at*
 have H0:=hide h0
 have HL:Hid (X.1.length<=cE e/\RO.length=5/\BB.length<=cD.cDs l/\C.length+(cE e+14+5*(cD.cDs l+13))<90000):=⟨hel,hrl,hdl,hc⟩
 have Hp1:=hide hp1
 have HB:=hide hBB
 clear h h0 hx he hel hc hdl hrl dr de hp1 hBB
 go_enter_defers Tryz.func126,Tryz.ntmps126
 go_wp2_with fail
 refine ht1.mono ?_
 rintro v w1 ⟨rfl,P1,T1⟩
 obtain⟨h1',b1⟩:=H0.out.words' P1 T1
 obtain⟨_,c2'⟩:=h1'.c
 have R1:=b1.at_ RF.out (by decide) (by decide) (by decide) (by decide)
 have k6:=R1.cell 6
 simp only[List.getElem?_cons_zero,List.getElem?_cons_succ]at k6
 have hr1:=hro w1 h1'
 clear h1' P1 R1 hro
 go_wp2_with fail
 refine hr1.mono ?_
 rintro v w2 ⟨rfl,h2',b2⟩
 have b12:=b1.trans b2
 have R2:=b12.at_ RF.out (by decide) (by decide) (by decide) (by decide)
 have k5:=R2.cell 5
 simp only[List.getElem?_cons_zero,List.getElem?_cons_succ]at k5
 have hsn:=storeNumber_c (r:=0) (s:=1) (G:=[2,3,4,5,6,7]) h2' (by have:=HL.out;simp only[List.length_append];omega) x4 0
 clear h2' R2
 go_wp2_with fail
 refine hsn.mono ?_
 rintro v w3 ⟨rfl,h3',b3⟩
 have b13:=b12.trans b3
 have R3:=b13.at_ RF.out (by decide) (by decide) (by decide) (by decide)
 have k5':=R3.cell 5
 simp only[List.getElem?_cons_zero,List.getElem?_cons_succ]at k5'
 obtain⟨ca,cc,cv,wl3⟩:=h3'.cv
 have el3:(C++(X.1++RO)++[Ins.kst 0 0,.kst 1 x4,.st 1 0]).length=p1:=by have:=HL.out;rw[<-Hp1.out];simp only[List.length_append,List.length_cons,List.length_nil];omega
 rw[el3]at cv
 have hju:=jul_c (r:=0) (s:=1) (G:=[2,3,4,5,6,7]) h3' (by have:=HL.out;simp only[List.length_append,List.length_cons,List.length_nil];omega) x4 (c:Int)
 rw[el3]at hju
 obtain⟨q5,hq5⟩:∃q,Hid (p1+5=q):=⟨_,rfl⟩
 rw[hq5.out]at hju
 clear h3' R3
 go_wp2_with fail
 refine hju.mono ?_
 rintro v w4 ⟨rfl,h4',b4⟩
 have b14:=b13.trans b4
 have R4:=b14.at_ RF.out (by decide) (by decide) (by decide) (by decide)
 have k7:=R4.cell 7
 simp only[List.getElem?_cons_zero,List.getElem?_cons_succ]at k7
 have hl4:=hll w4 _ h4' (F0.out.trans b14) (by have:=HL.out;simp only[List.length_append,List.length_cons,List.length_nil];omega)
 have el4:(C++(X.1++RO)++[Ins.kst 0 0,.kst 1 x4,.st 1 0]++[Ins.kst 0 x4,.ld 0 0,.kst 1 (c:Int),.ld 1 1,.bin 60 0 0 1,.jz 0 0]).length=p1+6:=by rw[List.length_append,el3];rfl
 rw[el4,HB.out]at hl4
 clear h4' R4 el4 hll
 go_wp2_with fail
 refine hl4.mono ?_
 rintro v w5 ⟨rfl,h5',b5⟩
 have b15:=b14.trans b5
 have R5:=b15.at_ RF.out (by decide) (by decide) (by decide) (by decide)
 have k5'':=R5.cell 5
 simp only[List.getElem?_cons_zero,List.getElem?_cons_succ]at k5''
 have hco:=countOn_c (r:=0) (s:=1) (t:=2) (G:=[3,4,5,6,7]) h5' (by have:=HL.out;simp only[List.length_append,List.length_cons,List.length_nil];omega) x4
 clear h5' R5
 go_wp2_with fail
 refine hco.mono ?_
 rintro v w6 ⟨rfl,h6',b6⟩
 have hjb:=jumpBack_c h6' (by have:=HL.out;simp only[List.length_append,List.length_cons,List.length_nil];omega) p1
 clear h6'
 go_wp2_with fail
 refine hjb.mono ?_
 rintro v w7 ⟨rfl,h7',b7⟩
 have e7:C++(X.1++RO)++[Ins.kst 0 0,.kst 1 x4,.st 1 0]++[Ins.kst 0 x4,.ld 0 0,.kst 1 (c:Int),.ld 1 1,.bin 60 0 0 1,.jz 0 0]++BB++[Ins.kst 0 x4,.ld 0 0,.kst 1 1,.bin 43 0 0 1,.kst 2 x4,.st 2 0]++[Ins.jmp p1]=(C++(X.1++RO)++[Ins.kst 0 0,.kst 1 x4,.st 1 0]++[Ins.kst 0 x4,.ld 0 0,.kst 1 (c:Int),.ld 1 1,.bin 60 0 0 1])++Ins.jz 0 0::(BB++onC x4 p1):=by unfold onC;simp
 rw[e7]at h7'
 have hld:=land_jz h7' (by have:=HL.out;unfold onC;simp only[List.length_append,List.length_cons,List.length_nil];omega)
 have el7:((C++(X.1++RO)++[Ins.kst 0 0,.kst 1 x4,.st 1 0]++[Ins.kst 0 x4,.ld 0 0,.kst 1 (c:Int),.ld 1 1,.bin 60 0 0 1])++Ins.jz 0 0::(BB++onC x4 p1)).length=p1+6+BB.length+7:=by
  rw[List.length_append,List.length_append,el3]
  unfold onC
  simp only[List.length_append,List.length_cons,List.length_nil]
  omega
 have el8:(C++(X.1++RO)++[Ins.kst 0 0,.kst 1 x4,.st 1 0]++[Ins.kst 0 x4,.ld 0 0,.kst 1 (c:Int),.ld 1 1,.bin 60 0 0 1]).length=p1+5:=by rw[List.length_append,el3];rfl
 rw[el7,el8,hq5.out]at hld
 clear h7' e7 el7 el8
 go_wp2_with fail
 refine hld.mono ?_
 rintro v w8 ⟨rfl,h8,b8⟩
 go_wp2_with fail
 refine leaves_cons (f:=149) (args:=#[.pointer (some ⟨p.wp,0,none⟩),.int .i64 (c:Int)]) (by simp) (by simp[go_sem]) ?_
 refine(h8.giveW .returning (Srt.hd_not hsW) (by simp at hwc;omega)).mono ?_
 rintro v u1 w9 ⟨rfl,rfl,h9,b9⟩
 refine⟨_,results_none rfl _ _ _,rfl,?_,((((F0.out.trans b15).trans b6).trans b7).trans b8).trans b9⟩
 rw[Srt.ins_hd hsW]at h9
 unfold hdC
 simp only[List.append_assoc,List.cons_append,List.nil_append]at h9 ⊢
 exact h9
def DoW(N:Nat)(d:Do):Prop:=∀(B:Nat->Prop) (w:World) (p:WP) (C:List Ins) (W K:List Nat) (u:Value),WAt w p C R8 W K->DoIs B w d u->(∀k,B k->k<p.lo)->(∀x∈W,x<256)->V.wfD N d->needD d<=W.length->C.length+cD d<90000->K.length+needD d<=1000→
 Calls Tryz.prog 95 #[WV p,u] w λx w'=>x=.returned (.tuple #[])/\WAt w' p (C++doC C.length W K.getLast? d) R8 W K/\Fk p.lo w w'
theorem dow_set{N:Nat}(p0:Int)(n:Nm)(e:Ex):DoW N (.set p0 n e):=by
 intro B w p C W K u h hd hB hW hw hn hc hK
 unfold DoIs at hd
 subst hd
 unfold V.wfD at hw
 have a1:=ad_Set_Set
 have hn':need e<=W.length:=hn
 have hc':C.length+(cE e+6)<90000:=hc
 have he:=V.wf_good hw.2.2
 obtain⟨W0,hW0⟩:∃W0,w.alloc (.cells #[.int .i64 p0,.string n.text,.int .i64 n.kind,.bool n.sec,.int .i64 n.size,.int .i64 n.place,exV e] 178 (0,0))=W0:=⟨_,rfl⟩
 have h0:WAt W0 p C R8 W K:=by rw[<-hW0];exact h.alloc _
 have F0:Hid (Fk p.lo w W0):=by rw[<-hW0];exact(Fk.refl _ _).alloc _
 have RF:At W0 w.heap.size 178 [.int .i64 p0,.string n.text,.int .i64 n.kind,.bool n.sec,.int .i64 n.size,.int .i64 n.place,exV e]:=by rw[<-hW0];exact At.alloc_new w _ _
 have hg:=setv_c p0 n e he (ew_all e hw.2.2) W0 p C R8 W K h0 (h0.fine8 hW) (by decide) hn' (by omega) (by omega)
 have e1:doC C.length W K.getLast? (.set p0 n e)=(exC R8 W e).1++(.kst (hd (R8.erase (exC R8 W e).2)) n.place::chC (R8.erase (exC R8 W e).2).tail (hd (R8.erase (exC R8 W e).2)) (exC R8 W e).2 K.getLast?):=by rw[doC]
 rw[<-e1]at hg
 generalize doC C.length W K.getLast? (.set p0 n e)=D at*
 have z0:=RF.cell 0
 have z1:=RF.cell 1
 have z2:=RF.cell 2
 have z3:=RF.cell 3
 have z4:=RF.cell 4
 have z5:=RF.cell 5
 have z6:=RF.cell 6
 simp only[List.getElem?_cons_zero,List.getElem?_cons_succ]at z0 z1 z2 z3 z4 z5 z6
 rw[exV_good he]at hg z6 hW0 ⊢
 generalize exT e=te at*
 generalize exP e=xe at*
 clear h h0 RF e1 hw
 go_enter Tryz.func95,Tryz.ntmps95
 go_wp2_with fail
 refine hg.mono ?_
 rintro y w1 ⟨rfl,h1,b1⟩
 go_wp2_with fail
 go_end0
 exact⟨rfl,h1,F0.out.trans b1⟩
theorem dow_put{N:Nat}(p0:Int)(n:Nm)(i e:Ex):DoW N (.put p0 n i e):=by
 intro B w p C W K u h hd hB hW hw hn hc hK
 unfold DoIs at hd
 subst hd
 unfold V.wfD at hw
 have a1:=ad_Put_Set
 have a2:=ad_Put_Put
 have hn':max (need i) (need e)<=W.length:=hn
 have hc':C.length+(cE i+cE e+15)<90000:=hc
 have he:=V.wf_good hw.2.2.2.2.2
 have hi:=V.wf_good hw.2.2.2.2.1
 obtain⟨W0,hW0⟩:∃W0,w.alloc (.cells #[.int .i64 p0,.string n.text,.int .i64 n.kind,.bool n.sec,.int .i64 n.size,.int .i64 n.place,exV i,exV e] 181 (0,0))=W0:=⟨_,rfl⟩
 have h0:WAt W0 p C R8 W K:=by rw[<-hW0];exact h.alloc _
 have F0:Hid (Fk p.lo w W0):=by rw[<-hW0];exact(Fk.refl _ _).alloc _
 have RF:At W0 w.heap.size 181 [.int .i64 p0,.string n.text,.int .i64 n.kind,.bool n.sec,.int .i64 n.size,.int .i64 n.place,exV i,exV e]:=by rw[<-hW0];exact At.alloc_new w _ _
 have hg:=putv_c p0 n i e hi he (ew_all i hw.2.2.2.2.1) (ew_all e hw.2.2.2.2.2) W0 p C R8 W K h0 (h0.fine8 hW) (by decide) (by omega) (by omega) (by omega) (by omega)
 have e1:doC C.length W K.getLast? (.put p0 n i e)=(exC R8 W e).1++((exC (R8.erase (exC R8 W e).2) W i).1++(plC ((R8.erase (exC R8 W e).2).erase (exC (R8.erase (exC R8 W e).2) W i).2) (exC (R8.erase (exC R8 W e).2) W i).2 n++chC ((R8.erase (exC R8 W e).2).erase (exC (R8.erase (exC R8 W e).2) W i).2) (exC (R8.erase (exC R8 W e).2) W i).2 (exC R8 W e).2 K.getLast?)):=by rw[doC]
 rw[<-e1]at hg
 generalize doC C.length W K.getLast? (.put p0 n i e)=D at*
 have z0:=RF.cell 0
 have z1:=RF.cell 1
 have z2:=RF.cell 2
 have z3:=RF.cell 3
 have z4:=RF.cell 4
 have z5:=RF.cell 5
 have z6:=RF.cell 6
 have z7:=RF.cell 7
 simp only[List.getElem?_cons_zero,List.getElem?_cons_succ]at z0 z1 z2 z3 z4 z5 z6 z7
 rw[exV_good he,exV_good hi]at hg hW0 ⊢
 rw[exV_good hi]at z6
 rw[exV_good he]at z7
 generalize exT e=te at*
 generalize exP e=xe at*
 generalize exT i=ti at*
 generalize exP i=xi at*
 clear h h0 RF e1 hw
 go_enter Tryz.func95,Tryz.ntmps95
 go_wp2_with fail
 refine hg.mono ?_
 rintro y w1 ⟨rfl,h1,b1⟩
 go_wp2_with fail
 go_end0
 exact⟨rfl,h1,F0.out.trans b1⟩
end Y
end Go.Proofs.YtejbgcloblpbfaaGreatDoor
