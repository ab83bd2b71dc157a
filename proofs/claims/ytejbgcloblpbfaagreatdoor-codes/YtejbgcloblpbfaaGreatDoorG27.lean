import Derived.Test.YtejbgcloblpbfaaGreatDoorG26
set_option maxHeartbeats 4000000
set_option maxRecDepth 100000
namespace Go.Proofs.YtejbgcloblpbfaaGreatDoor
section
open Go.RowKit
open K (Nm Ex Do)
namespace Y
theorem WAt.fine8{w:World}{p:WP}{C:List Ins}{W K:List Nat}(h:WAt w p C R8 W K)(hW:∀x∈W,x<256):Fine R8 W 0:=⟨by decide,by decide,by decide,Srt.nodup h.words.srt,λx hx=>⟨Nat.zero_le _,hW x hx⟩⟩
theorem Fine.erase{G W:List Nat}{L a:Nat}(h:Fine G W L)(ha:a∈G)(hl:4<=G.length):Fine (G.erase a) W L:=⟨h.gn.erase a,λx hx=>h.g8 x (List.mem_of_mem_erase hx),by rw[List.length_erase_of_mem ha];omega,h.wn,h.wl⟩
theorem setv_c(p0:Int)(n:Nm)(e:Ex)(he:K.good e=true)(hx:ExW e)(w:World)(p:WP)(C:List Ins)(G W K:List Nat)(h:WAt w p C G W K)(hF:Fine G W 0)(h4:6<=G.length)(hn:need e<=W.length)(hc:C.length+cE e+6<90000)(hK:K.length<=1000):
 Calls Tryz.prog 123 #[WV p,.agg #[.int .i64 p0,.string n.text,.int .i64 n.kind,.bool n.sec,.int .i64 n.size,.int .i64 n.place,exV e]] w λx w'=>x=.returned (.tuple #[])/\WAt w' p (C++((exC G W e).1++(.kst (hd (G.erase (exC G W e).2)) n.place::chC (G.erase (exC G W e).2).tail (hd (G.erase (exC G W e).2)) (exC G W e).2 K.getLast?))) G W K/\Fk p.lo w w':=by
 obtain⟨x0,x1,x2,x3,x4⟩:=n
 obtain⟨W0,hW⟩:∃W0,w.alloc (.cells #[.int .i64 p0,.string x0,.int .i64 x1,.bool x2,.int .i64 x3,.int .i64 x4,exV e] 178 (0,0))=W0:=⟨_,rfl⟩
 have h0:WAt W0 p C G W K:=by rw[<-hW];exact h.alloc _
 have F0:Hid (Fk p.lo w W0):=by rw[<-hW];exact(Fk.refl _ _).alloc _
 have RF:At W0 w.heap.size 178 [.int .i64 p0,.string x0,.int .i64 x1,.bool x2,.int .i64 x3,.int .i64 x4,exV e]:=by rw[<-hW];exact At.alloc_new w _ _
 have hex:=hx W0 p C G W K h0 hF hn (by omega)
 have hm:=exC_mem e hF
 have hel:=exC_len e G W
 have hsr:=h.regs.srt
 have h8:=h.lenG
 have hgl:(G.erase (exC G W e).2).length=G.length-1:=List.length_erase_of_mem hm
 have hs1:=hsr.erase (exC G W e).2
 have hie:=hide (ins_erase hsr hm)
 have hnm:(exC G W e).2∉G.erase (exC G W e).2:=λx=>(hF.gn.mem_erase_iff.1 x).1 rfl
 have z6:=RF.cell 6
 simp only[List.getElem?_cons_zero,List.getElem?_cons_succ]at z6
 generalize exC G W e=X at*
 obtain⟨z,G3,hG⟩:=cons_of (l:=G.erase X.2) (by omega)
 rw[hG]at hex hs1 hgl hnm ⊢
 rw[hG]at hie
 rw[exV_good he]at hex z6 hW RF ⊢
 generalize exT e=te at*
 generalize exP e=xe at*
 have HRF:=hide RF
 have HL:=hide hgl
 clear h h0 RF hx he hgl hG
 dsimp only
 go_enter_defers Tryz.func123,Tryz.ntmps123
 go_wp2_with fail
 refine hex.mono ?_
 rintro y w1 ⟨rfl,h1,b1⟩
 obtain⟨c1,_⟩:=h1.c
 have R1:=b1.at_ HRF.out (by decide) (by decide) (by decide) (by decide)
 have k5:=R1.cell 5
 simp only[List.getElem?_cons_zero,List.getElem?_cons_succ]at k5
 have hnu:=number_c h1 (by rw[List.length_append];omega) x4
 clear h1 R1
 go_wp2_with fail
 refine hnu.mono ?_
 rintro y w2 ⟨rfl,h2,b2⟩
 obtain⟨c2,_⟩:=h2.c
 have hch:=change_c h2 (by have:=HL.out;simp at this;omega) (by simp only[List.length_append,List.length_cons,List.length_nil];omega) hK z X.2
 clear h2
 go_wp2_with fail
 refine hch.mono ?_
 rintro y w3 ⟨rfl,h3,b3⟩
 go_wp2_with fail
 refine leaves_cons (f:=149) (args:=#[.pointer (some ⟨p.rp,0,none⟩),.int .i64 (z:Int)]) (by simp) (by simp[go_sem]) ?_
 refine(h3.give .returning (Srt.hd_not hs1) (by have:=HL.out;simp at this;omega)).mono ?_
 rintro y u' w4 ⟨rfl,rfl,h4',b4⟩
 rw[Srt.ins_hd hs1]at h4'
 refine leaves_cons (f:=149) (args:=#[.pointer (some ⟨p.rp,0,none⟩),.int .i64 ((X.2:Nat):Int)]) (by simp[settle]) (by simp[go_sem]) ?_
 refine(h4'.give _ hnm (by have:=HL.out;simp at this ⊢;omega)).mono ?_
 rintro y u'' w5 ⟨rfl,rfl,h5,b5⟩
 refine⟨_,results_none rfl _ _ _,rfl,?_,((((F0.out.trans b1).trans b2).trans b3).trans b4).trans b5⟩
 rw[hie.out]at h5
 simp only[List.append_assoc]at h5
 exact h5
theorem putv_c(p0:Int)(n:Nm)(i e:Ex)(hgi:K.good i=true)(he:K.good e=true)(hi:ExW i)(hx:ExW e)(w:World)(p:WP)(C:List Ins)(G W K:List Nat)(h:WAt w p C G W K)(hF:Fine G W 0)(h4:6<=G.length)(hn:need e<=W.length)(hni:need i<=W.length)(hc:C.length+cE i+cE e+15<90000)(hK:K.length<=1000):
 Calls Tryz.prog 124 #[WV p,.agg #[.int .i64 p0,.string n.text,.int .i64 n.kind,.bool n.sec,.int .i64 n.size,.int .i64 n.place,exV i,exV e]] w λx w'=>x=.returned (.tuple #[])/\WAt w' p (C++((exC G W e).1++((exC (G.erase (exC G W e).2) W i).1++(plC ((G.erase (exC G W e).2).erase (exC (G.erase (exC G W e).2) W i).2) (exC (G.erase (exC G W e).2) W i).2 n++chC ((G.erase (exC G W e).2).erase (exC (G.erase (exC G W e).2) W i).2) (exC (G.erase (exC G W e).2) W i).2 (exC G W e).2 K.getLast?)))) G W K/\Fk p.lo w w':=by
 obtain⟨x0,x1,x2,x3,x4⟩:=n
 obtain⟨W0,hW⟩:∃W0,w.alloc (.cells #[.int .i64 p0,.string x0,.int .i64 x1,.bool x2,.int .i64 x3,.int .i64 x4,exV i,exV e] 181 (0,0))=W0:=⟨_,rfl⟩
 have h0:WAt W0 p C G W K:=by rw[<-hW];exact h.alloc _
 have F0:Hid (Fk p.lo w W0):=by rw[<-hW];exact(Fk.refl _ _).alloc _
 have RF:At W0 w.heap.size 181 [.int .i64 p0,.string x0,.int .i64 x1,.bool x2,.int .i64 x3,.int .i64 x4,exV i,exV e]:=by rw[<-hW];exact At.alloc_new w _ _
 have hex:=hx W0 p C G W K h0 hF hn (by omega)
 have hm:=exC_mem e hF
 have hel:=exC_len e G W
 have hsr:=h.regs.srt
 have h8:=h.lenG
 have hgl:(G.erase (exC G W e).2).length=G.length-1:=List.length_erase_of_mem hm
 have hF1:=hF.erase hm (by omega)
 have hpl:=fun(w:World) (C:List Ins) (h':WAt w p C (G.erase (exC G W e).2) W K) (hc:C.length+cE i+10<90000)=>placeIn_c ⟨x0,x1,x2,x3,x4⟩ i hgi hi w p C _ W K h' hF1 hni hc
 have hm2:=exC_mem i hF1
 have hel2:=exC_len i (G.erase (exC G W e).2) W
 have hgl2:((G.erase (exC G W e).2).erase (exC (G.erase (exC G W e).2) W i).2).length=(G.erase (exC G W e).2).length-1:=List.length_erase_of_mem hm2
 have hie:=hide (ins_erase hsr hm)
 have hsr1:=hsr.erase (exC G W e).2
 have hnX:(exC G W e).2∉G.erase (exC G W e).2:=λx=>(hF.gn.mem_erase_iff.1 x).1 rfl
 have hnY:(exC (G.erase (exC G W e).2) W i).2∉(G.erase (exC G W e).2).erase (exC (G.erase (exC G W e).2) W i).2:=λx=>(hF1.gn.mem_erase_iff.1 x).1 rfl
 have hXY:¬(exC G W e).2=(exC (G.erase (exC G W e).2) W i).2:=λx=>hnX (by have h9:=hm2;rw[<-x]at h9;exact h9)
 have z7:=RF.cell 7
 simp only[List.getElem?_cons_zero,List.getElem?_cons_succ]at z7
 have hpc:Hid ((plC ((G.erase (exC G W e).2).erase (exC (G.erase (exC G W e).2) W i).2) (exC (G.erase (exC G W e).2) W i).2 ⟨x0,x1,x2,x3,x4⟩).length=10):=rfl
 generalize plC ((G.erase (exC G W e).2).erase (exC (G.erase (exC G W e).2) W i).2) (exC (G.erase (exC G W e).2) W i).2 ⟨x0,x1,x2,x3,x4⟩=Q at*
 generalize exC (G.erase (exC G W e).2) W i=Y at*
 generalize exC G W e=X at*
 rw[exV_good he]at hex z7 hW RF ⊢
 simp only[exV_good hgi]at hpl
 rw[exV_good hgi]at hW RF ⊢
 generalize exT e=te at*
 generalize exP e=xe at*
 generalize exT i=ti at*
 generalize exP i=xi at*
 have HRF:=hide RF
 have back1:Hid (ins Y.2 (ins X.2 ((G.erase X.2).erase Y.2))=G/\X.2∉(G.erase X.2).erase Y.2/\((G.erase X.2).erase Y.2).length<8/\Y.2∉ins X.2 ((G.erase X.2).erase Y.2)/\(ins X.2 ((G.erase X.2).erase Y.2)).length<8):=by
  have e1:(G.erase X.2).erase Y.2=(G.erase Y.2).erase X.2:=List.erase_comm _ _
  have hYG:=List.mem_of_mem_erase hm2
  have mX:X.2∈G.erase Y.2:=hF.gn.mem_erase_iff.2 ⟨hXY,hm⟩
  have i1:ins X.2 ((G.erase Y.2).erase X.2)=G.erase Y.2:=ins_erase (hsr.erase Y.2) mX
  refine⟨?_,λx=>hnX (List.mem_of_mem_erase x),by omega,?_,?_⟩
  · rw[e1,i1];exact ins_erase hsr hYG
  · rw[e1,i1];exact λx=>(hF.gn.mem_erase_iff.1 x).1 rfl
  · rw[e1,i1,List.length_erase_of_mem hYG];omega
 have HL:Hid (X.1.length<=cE e/\Y.1.length<=cE i/\(G.erase X.2).length=G.length-1/\((G.erase X.2).erase Y.2).length=(G.erase X.2).length-1/\6<=G.length/\G.length<=8/\C.length+cE i+cE e+15<90000):=⟨hel,hel2,hgl,hgl2,h4,h8,hc⟩
 obtain⟨u0,u1,u2,kv1⟩:=kpV_form (.reg X.2)
 clear h h0 RF hx he hi hgi hgl hgl2 hel hel2 hF hF1 hm hm2 hnX hnY hXY hie hsr hsr1
 go_enter_defers Tryz.func124,Tryz.ntmps124
 go_wp2_with fail
 refine hex.mono ?_
 rintro y w1 ⟨rfl,h1,b1⟩
 have hkk:=keepr_c h1 (by have:=HL.out;omega) X.2
 clear h1
 rw[kv1]at hkk
 go_wp2_with fail
 refine hkk.mono ?_
 rintro y w2 ⟨rfl,h2,b2⟩
 obtain⟨Wa,hWa⟩:∃Wa,w2.alloc (.cells #[.int .i64 u0,.int .i64 u1,.bool u2] 221 (0,0))=Wa:=⟨_,rfl⟩
 have ha:WAt Wa p (C++X.1) (G.erase X.2) W K:=by rw[<-hWa];exact h2.alloc _
 have Fa:Fk p.lo w2 Wa:=by rw[<-hWa];exact(Fk.refl _ _).alloc _
 have Ra:Hid (At Wa w2.heap.size 221 [.int .i64 u0,.int .i64 u1,.bool u2]):=by rw[<-hWa];exact At.alloc_new w2 _ _
 have ba:=(b1.trans b2).trans Fa
 have RCa:=ba.at_ HRF.out (by decide) (by decide) (by decide) (by decide)
 have z1:=RCa.cell 1
 have z2:=RCa.cell 2
 have z3:=RCa.cell 3
 have z4:=RCa.cell 4
 have z5:=RCa.cell 5
 have z6:=RCa.cell 6
 simp only[List.getElem?_cons_zero,List.getElem?_cons_succ]at z1 z2 z3 z4 z5 z6
 have hpp:=hpl Wa _ ha (by have:=HL.out;rw[List.length_append];omega)
 have HBa:=hide ba
 clear h2 ha Fa RCa b1 b2 ba hpl hkk hex
 go_wp2_with fail
 refine hpp.mono ?_
 rintro y w3 ⟨rfl,h3,b3⟩
 obtain⟨c3,_⟩:=h3.c
 have R3:=b3.at_ Ra.out (by decide) (by decide) (by decide) (by decide)
 have v0:=R3.cell 0
 have v1:=R3.cell 1
 have v2:=R3.cell 2
 simp only[List.getElem?_cons_zero,List.getElem?_cons_succ]at v0 v1 v2
 have hft:=fetchr_c h3 X.2
 rw[kv1]at hft
 clear h3 R3 hpp
 go_wp2_with fail
 refine hft.mono ?_
 rintro y w4 ⟨rfl,h4',b4⟩
 obtain⟨c4,_⟩:=h4'.c
 have hch:=change_c h4' (by have:=HL.out;omega) (by have:=HL.out;have:=hpc.out;simp only[List.length_append];omega) hK Y.2 X.2
 clear h4' hft
 go_wp2_with fail
 refine hch.mono ?_
 rintro y w5 ⟨rfl,h5,b5⟩
 go_wp2_with fail
 refine leaves_cons (f:=149) (args:=#[.pointer (some ⟨p.rp,0,none⟩),.int .i64 ((X.2:Nat):Int)]) (by simp) (by simp[go_sem]) ?_
 refine(h5.give .returning back1.out.2.1 back1.out.2.2.1).mono ?_
 rintro y u' w6 ⟨rfl,rfl,h6,b6⟩
 refine leaves_cons (f:=149) (args:=#[.pointer (some ⟨p.rp,0,none⟩),.int .i64 ((Y.2:Nat):Int)]) (by simp[settle]) (by simp[go_sem]) ?_
 refine(h6.give _ back1.out.2.2.2.1 back1.out.2.2.2.2).mono ?_
 rintro y u'' w7 ⟨rfl,rfl,h7,b7⟩
 refine⟨_,results_none rfl _ _ _,rfl,?_,(((((F0.out.trans HBa.out).trans b3).trans b4).trans b5).trans b6).trans b7⟩
 rw[back1.out.1]at h7
 simp only[List.append_assoc]at h7
 exact h7
theorem jump_c{w:World}{p:WP}{C:List Ins}{G W K:List Nat}(h:WAt w p C G W K)(hf:C.length<100000):
 Calls Tryz.prog 157 #[WV p] w λx w'=>x=.returned (.int .i64 (C.length:Int))/\WAt w' p (C++[.jmp 0]) G W K/\Fk p.lo w w':=by
 have ha:=add_c h h.hl hf (.jmp 0) (n0:=13) (n1:=0) (n2:=0) (n3:=0) (n4:=0) rfl
 have e1:wrap64 (((C.length+1:Nat):Int)-1)=(C.length:Int):=by unfold wrap64;omega
 have e2:IntKind.i64.wrap (((C.length+1:Nat):Int)-1)=(C.length:Int):=by rw[IntKind.wrap_i64];omega
 clear h
 go_enter Tryz.func157,Tryz.ntmps157
 go_wp2_with fail
 refine ha.mono ?_
 rintro x w' ⟨rfl,h',b'⟩
 obtain⟨ca,cc,c,wl⟩:=h'.cv
 have hl:(C++[Ins.jmp 0]).length=C.length+1:=by simp
 rw[hl]at c
 generalize hL:C.length+1=L at*
 generalize hM:C.length=M at*
 have H':=hide h'
 have HM:=hide hM
 clear h' hL hM hl
 go_wp2_with fail
 go_ret
 exact⟨by rw[HM.out];rfl,H'.out,b'⟩
theorem jz_c{w:World}{p:WP}{C:List Ins}{G W K:List Nat}(h:WAt w p C G W K)(hf:C.length<100000)(r:Nat):
 Calls Tryz.prog 193 #[WV p,.int .i64 (r:Int)] w λx w'=>x=.returned (.int .i64 (C.length:Int))/\WAt w' p (C++[.jz r 0]) G W K/\Fk p.lo w w':=by
 have ha:=add_c h h.hl hf (.jz r 0) (n0:=14) (n1:=0) (n2:=r) (n3:=0) (n4:=0) rfl
 have e1:wrap64 (((C.length+1:Nat):Int)-1)=(C.length:Int):=by unfold wrap64;omega
 have e2:IntKind.i64.wrap (((C.length+1:Nat):Int)-1)=(C.length:Int):=by rw[IntKind.wrap_i64];omega
 clear h
 go_enter Tryz.func193,Tryz.ntmps193
 go_wp2_with fail
 refine ha.mono ?_
 rintro x w' ⟨rfl,h',b'⟩
 obtain⟨ca,cc,c,wl⟩:=h'.cv
 have hl:(C++[Ins.jz r 0]).length=C.length+1:=by simp
 rw[hl]at c
 generalize hL:C.length+1=L at*
 generalize hM:C.length=M at*
 have H':=hide h'
 have HM:=hide hM
 clear h' hL hM hl
 go_wp2_with fail
 go_ret
 exact⟨by rw[HM.out];rfl,H'.out,b'⟩
theorem jumpBack_c{w:World}{p:WP}{C:List Ins}{G W K:List Nat}(h:WAt w p C G W K)(hf:C.length<100000)(d:Nat):
 Calls Tryz.prog 164 #[WV p,.int .i64 (d:Int)] w λx w'=>x=.returned (.tuple #[])/\WAt w' p (C++[.jmp d]) G W K/\Fk p.lo w w':=by
 have ha:=add_c h h.hl hf (.jmp d) (n0:=13) (n1:=0) (n2:=0) (n3:=0) (n4:=d) rfl
 clear h
 go_enter Tryz.func164,Tryz.ntmps164
 go_wp2_with fail
 refine ha.mono ?_
 rintro x w' ⟨rfl,h',b'⟩
 go_wp2_with fail
 go_end0
 exact⟨rfl,h',b'⟩
theorem jumpUnless_c(e:Ex)(he:K.good e=true)(hx:ExW e)(w:World)(p:WP)(C:List Ins)(G W K:List Nat)(h:WAt w p C G W K)(hF:Fine G W 0)(hn:need e<=W.length)(hc:C.length+cE e+1<90000):
 Calls Tryz.prog 156 #[WV p,exV e] w λx w'=>x=.returned (.int .i64 ((C.length+(exC G W e).1.length:Nat):Int))/\WAt w' p (C++((exC G W e).1++[.jz (exC G W e).2 0])) G W K/\Fk p.lo w w':=by
 have hex:=hx w p C G W K h hF hn (by omega)
 have hm:=exC_mem e hF
 have hel:=exC_len e G W
 have hsr:=h.regs.srt
 have h8:=h.lenG
 have hgl:Hid ((G.erase (exC G W e).2).length=G.length-1):=List.length_erase_of_mem hm
 have hg3:=hF.g3
 have hie:=hide (ins_erase hsr hm)
 have hnm:(exC G W e).2∉G.erase (exC G W e).2:=λx=>(hF.gn.mem_erase_iff.1 x).1 rfl
 generalize exC G W e=X at*
 rw[exV_good he]at hex ⊢
 generalize exT e=te at*
 generalize exP e=xe at*
 clear h hx he
 go_enter_defers Tryz.func156,Tryz.ntmps156
 go_wp2_with fail
 refine hex.mono ?_
 rintro y w1 ⟨rfl,h1,b1⟩
 obtain⟨c1,_⟩:=h1.c
 have hj:=jz_c h1 (by rw[List.length_append];omega) X.2
 rw[List.length_append]at hj
 clear h1
 go_wp2_with fail
 refine hj.mono ?_
 rintro y w2 ⟨rfl,h2,b2⟩
 go_wp2_with fail
 refine leaves_cons (f:=149) (args:=#[.pointer (some ⟨p.rp,0,none⟩),.int .i64 ((X.2:Nat):Int)]) (by simp) (by simp[go_sem]) ?_
 refine(h2.give .returning hnm (by have:=hgl.out;omega)).mono ?_
 rintro y u' w3 ⟨rfl,rfl,h3,b3⟩
 refine⟨_,results_tmp rfl _ _ _,rfl,?_,(b1.trans b2).trans b3⟩
 rw[hie.out]at h3
 simp only[List.append_assoc]at h3
 exact h3
theorem storeNumber_c{w:World}{p:WP}{C:List Ins}{r s:Nat}{G W K:List Nat}(h:WAt w p C (r::s::G) W K)(hf:C.length+3<100000)(at_ v:Int):
 Calls Tryz.prog 161 #[WV p,.int .i64 at_,.int .i64 v] w λx w'=>x=.returned (.tuple #[])/\WAt w' p (C++[.kst r v,.kst s at_,.st s r]) (r::s::G) W K/\Fk p.lo w w':=by
 have hn:=number_c h (by omega) v
 have hsr:=h.regs.srt
 have h8:=h.lenG
 clear h
 go_enter_defers Tryz.func161,Tryz.ntmps161
 go_wp2_with fail
 refine hn.mono ?_
 rintro x w1 ⟨rfl,h1,b1⟩
 obtain⟨c1,_⟩:=h1.c
 have hs:=store_c h1 (by simp only[List.length_append,List.length_cons,List.length_nil];omega) at_ r
 clear h1
 go_wp2_with fail
 refine hs.mono ?_
 rintro x w2 ⟨rfl,h2,b2⟩
 go_wp2_with fail
 refine leaves_cons (f:=149) (args:=#[.pointer (some ⟨p.rp,0,none⟩),.int .i64 (r:Int)]) (by simp) (by simp[go_sem]) ?_
 refine(h2.give .returning (Srt.hd_not hsr) (by simp at h8 ⊢;omega)).mono ?_
 rintro e u' w3 ⟨rfl,rfl,h3,b3⟩
 refine⟨_,results_none rfl _ _ _,rfl,?_,(b1.trans b2).trans b3⟩
 rw[Srt.ins_hd hsr,List.append_assoc]at h3
 exact h3
theorem jul_c{w:World}{p:WP}{C:List Ins}{r s:Nat}{G W K:List Nat}(h:WAt w p C (r::s::G) W K)(hf:C.length+6<100000)(a b:Int):
 Calls Tryz.prog 162 #[WV p,.int .i64 a,.int .i64 b] w λx w'=>x=.returned (.int .i64 ((C.length+5:Nat):Int))/\WAt w' p (C++[.kst r a,.ld r r,.kst s b,.ld s s,.bin 60 r r s,.jz r 0]) (r::s::G) W K/\Fk p.lo w w':=by
 have hn:=load_c h (by omega) a
 have hsr:=h.regs.srt
 have hs2:=(List.pairwise_cons.1 hsr).2
 have h8:=h.lenG
 clear h
 go_enter_defers Tryz.func162,Tryz.ntmps162
 go_wp2_with fail
 refine hn.mono ?_
 rintro x w1 ⟨rfl,h1,b1⟩
 obtain⟨c1,_⟩:=h1.c
 have hl:=load_c h1 (by simp only[List.length_append,List.length_cons,List.length_nil];omega) b
 clear h1
 go_wp2_with fail
 refine hl.mono ?_
 rintro x w2 ⟨rfl,h2,b2⟩
 obtain⟨c2,_⟩:=h2.c
 have hls:=less_w h2 (by simp only[List.length_append,List.length_cons,List.length_nil];omega) r r s
 clear h2
 go_wp2_with fail
 refine hls.mono ?_
 rintro x w3 ⟨rfl,h3,b3⟩
 have hj:=jz_c h3 (by simp only[List.length_append,List.length_cons,List.length_nil];omega) r
 have ej:((((C++[Ins.kst r a,Ins.ld r r])++[Ins.kst s b,Ins.ld s s])++[Ins.bin 60 r r s]).length)=C.length+5:=by simp
 rw[ej]at hj
 clear h3 ej
 go_wp2_with fail
 refine hj.mono ?_
 rintro x w4 ⟨rfl,h4,b4⟩
 go_wp2_with fail
 refine leaves_cons (f:=149) (args:=#[.pointer (some ⟨p.rp,0,none⟩),.int .i64 (s:Int)]) (by simp) (by simp[go_sem]) ?_
 refine(h4.give .returning (Srt.hd_not hs2) (by simp at h8 ⊢;omega)).mono ?_
 rintro e u' w5 ⟨rfl,rfl,h5,b5⟩
 rw[Srt.ins_hd hs2]at h5
 refine leaves_cons (f:=149) (args:=#[.pointer (some ⟨p.rp,0,none⟩),.int .i64 (r:Int)]) (by simp[settle]) (by simp[go_sem]) ?_
 refine(h5.give _ (Srt.hd_not hsr) (by simp at h8 ⊢;omega)).mono ?_
 rintro e u'' w6 ⟨rfl,rfl,h6,b6⟩
 refine⟨_,results_tmp rfl _ _ _,rfl,?_,((((b1.trans b2).trans b3).trans b4).trans b5).trans b6⟩
 rw[Srt.ins_hd hsr]at h6
 simp only[List.append_assoc]at h6
 exact h6
theorem countOn_c{w:World}{p:WP}{C:List Ins}{r s t:Nat}{G W K:List Nat}(h:WAt w p C (r::s::t::G) W K)(hf:C.length+6<100000)(a:Int):
 Calls Tryz.prog 163 #[WV p,.int .i64 a] w λx w'=>x=.returned (.tuple #[])/\WAt w' p (C++[.kst r a,.ld r r,.kst s 1,.bin 43 r r s,.kst t a,.st t r]) (r::s::t::G) W K/\Fk p.lo w w':=by
 have hn:=load_c h (by omega) a
 have hsr:=h.regs.srt
 have hs2:=(List.pairwise_cons.1 hsr).2
 have h8:=h.lenG
 clear h
 go_enter_defers Tryz.func163,Tryz.ntmps163
 go_wp2_with fail
 refine hn.mono ?_
 rintro x w1 ⟨rfl,h1,b1⟩
 obtain⟨c1,_⟩:=h1.c
 have hl:=number_c h1 (by simp only[List.length_append,List.length_cons,List.length_nil];omega) 1
 clear h1
 go_wp2_with fail
 refine hl.mono ?_
 rintro x w2 ⟨rfl,h2,b2⟩
 obtain⟨c2,_⟩:=h2.c
 have hls:=plus_w h2 (by simp only[List.length_append,List.length_cons,List.length_nil];omega) r r s
 clear h2
 go_wp2_with fail
 refine hls.mono ?_
 rintro x w3 ⟨rfl,h3,b3⟩
 have hst:=store_c h3 (by simp only[List.length_append,List.length_cons,List.length_nil];omega) a r
 clear h3
 go_wp2_with fail
 refine hst.mono ?_
 rintro x w4 ⟨rfl,h4,b4⟩
 go_wp2_with fail
 refine leaves_cons (f:=149) (args:=#[.pointer (some ⟨p.rp,0,none⟩),.int .i64 (s:Int)]) (by simp) (by simp[go_sem]) ?_
 refine(h4.give .returning (Srt.hd_not hs2) (by simp at h8 ⊢;omega)).mono ?_
 rintro e u' w5 ⟨rfl,rfl,h5,b5⟩
 rw[Srt.ins_hd hs2]at h5
 refine leaves_cons (f:=149) (args:=#[.pointer (some ⟨p.rp,0,none⟩),.int .i64 (r:Int)]) (by simp[settle]) (by simp[go_sem]) ?_
 refine(h5.give _ (Srt.hd_not hsr) (by simp at h8 ⊢;omega)).mono ?_
 rintro e u'' w6 ⟨rfl,rfl,h6,b6⟩
 refine⟨_,results_none rfl _ _ _,rfl,?_,((((b1.trans b2).trans b3).trans b4).trans b5).trans b6⟩
 rw[Srt.ins_hd hsr]at h6
 simp only[List.append_assoc]at h6
 exact h6
end Y
end
section
open R (Tok tk PS Thing)
open K (S Nm)
namespace Q
theorem Names.len:∀{l:List Thing} {m:List Nm},Names l m->l.length=m.length
 |[],[],_=>rfl
 |_::_,_::_,h=>by simp[Names.len h.2]
 |[],_::_,h=>h.elim
 |_::_,[],h=>h.elim
theorem Names.idx{s:List UInt8}:∀{l:List Thing} {m:List Nm},Names l m->l.findIdx (R.isIt s)=m.findIdx (K.named s)
 |[],[],_=>rfl
 |t::l,n::m,h=>by
  have e:R.isIt s t=K.named s n:=by unfold R.isIt K.named;rw[h.1.name]
  rw[List.findIdx_cons,List.findIdx_cons,e,Names.idx h.2]
 |[],_::_,h=>h.elim
 |_::_,[],h=>h.elim
theorem Names.find{s:List UInt8}{l:List Thing}{m:List Nm}(h:Names l m):R.find s l=K.idx s m:=by
 unfold R.find K.idx
 rw[h.idx,h.len]
theorem Names.at:∀{l:List Thing} {m:List Nm},Names l m->∀i,i<l.length->SameN (l.getD i R.noThing) (m.getD i K.noNm)
 |[],[],_,i,hi=>by simp at hi
 |t::l,n::m,h,i,hi=>by
  cases i with
  |zero=>exact h.1
  |succ i=>exact Names.at h.2 i (by simpa using hi)
 |[],_::_,h,_,_=>h.elim
 |_::_,[],h,_,_=>h.elim
theorem Names.snoc{t:Thing}{n:Nm}(hn:SameN t n):∀{l:List Thing} {m:List Nm},Names l m->Names (l++[t]) (m++[n])
 |[],[],_=>⟨hn,trivial⟩
 |_::_,_::_,h=>⟨h.1,Names.snoc hn h.2⟩
 |[],_::_,h=>h.elim
 |_::_,[],h=>h.elim
theorem found_same{s:List UInt8}{l:List Thing}{m:List Nm}(h:Names l m)(hf:0<=R.find s l):(K.findN s m).2=true/\SameN (R.thingAt l (R.find s l)) (K.findN s m).1:=by
 have e:=h.find (s:=s)
 have hl:=R.find_lt s l
 unfold K.findN
 rw[<-e,if_pos hf]
 exact⟨rfl,h.at _ (by omega)⟩
theorem found_none{s:List UInt8}{l:List Thing}{m:List Nm}(h:Names l m)(hf:R.find s l<0):K.findN s m=(K.noNm,false):=by
 have e:=h.find (s:=s)
 unfold K.findN
 rw[<-e,if_neg (by omega)]
def Fits(array set:Bool)(fits:Nm->Bool):Prop:=∀t n,SameN t n->fits n= !(((t.kind==2) != array)||(set&&t.kind==3))
theorem fits_set:Fits false true K.canSet:=λt n h=>by
 have h1:=h.kind;have h2:=h.k0;have h3:=h.k2
 unfold K.canSet
 have:n.kind=0∨n.kind=1∨n.kind=2:=by omega
 rcases this with e |e |e<;>(rw[e]at h1;rw[h1,e];decide)
theorem fits_words:Fits true false K.hasWords:=λt n h=>by
 have h1:=h.kind;have h2:=h.k0;have h3:=h.k2
 unfold K.hasWords
 have:n.kind=0∨n.kind=1∨n.kind=2:=by omega
 rcases this with e |e |e<;>(rw[e]at h1;rw[h1,e];decide)
theorem fits_read:Fits false false K.canRead:=λt n h=>by
 have h1:=h.kind;have h2:=h.k0;have h3:=h.k2
 unfold K.canRead
 have:n.kind=0∨n.kind=1∨n.kind=2:=by omega
 rcases this with e |e |e<;>(rw[e]at h1;rw[h1,e];decide)
theorem take_yes{T:List Tok}{f:ByteArray->Bool}{τ:S}(h:f (tk T τ.i).s=true):K.take T f τ=K.step T τ:=by unfold K.take;rw[if_pos h]
theorem take_no{T:List Tok}{f:ByteArray->Bool}{τ:S}(h:¬f (tk T τ.i).s=true):K.take T f τ=K.fail T 2 (tk T τ.i).p τ:=by unfold K.take;rw[if_neg h];rfl
theorem known_eqv(T:List Tok){array set:Bool}{fits:Nm->Bool}(hF:Fits array set fits){J:PS}{τ:S}(h:Sm J τ):
 (Sm (R.known T array set J) (K.known T fits τ)/\SameN (R.knownT T array set J) (K.knownN T τ))∨Dd (R.known T array set J) (K.known T fits τ):=by
 have ht:=take_sm T h
 have hte:=(rtake_err T J).trans h.e1
 unfold R.known R.knownT K.known K.knownN
 rw[if_pos h.e1,h.i]
 by_cases hn:R.isName (tk T τ.i).s=true
 · rw[if_pos hn,take_yes hn]
   by_cases hf:R.find (tk T τ.i).s.toList J.seen<0
   · have hw:R.wrong J.seen (tk T τ.i).s.toList array set=true:=by unfold R.wrong;rw[decide_eq_true hf];rfl
     rw[if_pos hw,found_none h.names hf]
     exact Or.inr (fail_dd hte h.e2 (by decide) T _)
   · obtain⟨f1,f2⟩:=found_same h.names (by omega:0<=R.find (tk T τ.i).s.toList J.seen)
     have hfit:=hF _ _ f2
     have hwr:R.wrong J.seen (tk T τ.i).s.toList array set= !(fits (K.findN (tk T τ.i).s.toList τ.names).1):=by
      unfold R.wrong
      rw[decide_eq_false hf,hfit,Bool.not_not,Bool.false_or]
     rw[hwr,f1,Bool.true_and]
     cases e:fits (K.findN (tk T τ.i).s.toList τ.names).1 with
     |true=>
      rw[if_neg (by decide),if_pos rfl,if_pos ⟨h.e1,hn,rfl⟩]
      exact Or.inl ⟨ht,f2⟩
     |false=>
      rw[if_pos (by decide),if_neg (by decide)]
      exact Or.inr (fail_dd hte h.e2 (by decide) T _)
 · rw[if_neg hn,take_no hn]
   have d:=fail_dd hte h.e2 (e:=2) (by decide) T (tk T τ.i).p
   right
   split
   · exact d
   · exact d.next (λ_=>⟨rfl,rfl⟩) (fail_kd T _ _ _)
theorem fresh_eqv(T:List Tok){J:PS}{τ:S}(h:Sm J τ):Eqv (R.fresh T J) (K.newName T τ):=by
 have ht:=take_sm T h
 have hte:=(rtake_err T J).trans h.e1
 unfold R.fresh K.newName
 rw[if_pos h.e1,h.i]
 by_cases hn:R.isName (tk T τ.i).s=true
 · rw[if_pos hn,take_yes hn]
   by_cases hf:0<=R.find (tk T τ.i).s.toList J.seen
   · rw[if_pos hf,(found_same h.names hf).1,if_pos rfl]
     exact Or.inr (fail_dd hte h.e2 (by decide) T _)
   · rw[if_neg hf,found_none h.names (by omega),if_neg (by decide)]
     exact Or.inl ht
 · rw[if_neg hn,take_no hn]
   have d:=fail_dd hte h.e2 (e:=2) (by decide) T (tk T τ.i).p
   split
   · exact Or.inr (d.next (λ_=>⟨rfl,rfl⟩) (fail_kd T _ _ _))
   · exact Or.inr d
theorem numOf_snd(sg:Int)(l:List UInt8):(R.numOf sg l).2=(decide (1<=l.length)&&(decide (l.length<=9)&&l.all R.dig)):=by
 unfold R.numOf
 by_cases ha:l.all R.dig=true/\l.length<=9
 · rw[if_pos ha,ha.1,decide_eq_true ha.2,Bool.and_true,Bool.and_true]
   show decide (0<l.length)=decide (1<=l.length)
   rfl
 · rw[if_neg ha]
   by_cases h1:l.all R.dig=true
   · have h2:¬l.length<=9:=λh=>ha ⟨h1,h⟩
     rw[decide_eq_false h2];simp
   · have h3:l.all R.dig=false:=by cases e:l.all R.dig with
      |true=>exact absurd e h1
      |false=>rfl
     rw[h3];simp
theorem num_same(s:ByteArray):K.isNum s=(R.number s.data.toList).2:=by
 unfold K.isNum K.madeOf
 obtain⟨⟨l⟩⟩:=s
 have hs:(ByteArray.mk (Lib.trimPrefix l [45]).toArray).size=(Lib.trimPrefix l [45]).length:=by
  show(Lib.trimPrefix l [45]).toArray.size=_
  simp
 show(decide (1<=(ByteArray.mk (Lib.trimPrefix l [45]).toArray).size)&&(decide ((ByteArray.mk (Lib.trimPrefix l [45]).toArray).size<=9)&&(Lib.trimPrefix l [45]).all R.dig))=(R.number l).2
 rw[hs]
 have key:Lib.trimPrefix l [45]=if l.head?=some 45 then l.tail else l:=by
  unfold Lib.trimPrefix
  cases l with
  |nil=>rfl
  |cons c r=>
   by_cases hc:c=45
   · subst hc
     simp[Lib.hasPrefix]
   · have h2:¬(45:UInt8)=c:=λh=>hc h.symm
     simp[Lib.hasPrefix,hc,h2]
 rw[key]
 unfold R.number
 by_cases h:l.head?=some 45
 · rw[if_pos h,if_pos h,numOf_snd]
 · rw[if_neg h,if_neg h,numOf_snd]
end Q
end
section
open R (Tok tk PS Thing)
open K (S Nm Ex)
namespace Q
def lk(l p:Int):Int:=if l<0∨p<l then p else l
def mn(l:Int)(L:List Int):Int:=L.foldl lk l
theorem lk_comm{l p q:Int}(hp:0<=p)(hq:0<=q):lk (lk l p) q=lk (lk l q) p:=by
 unfold lk
 repeat' split
 all_goals omega
theorem lk_twice(l p:Int):lk (lk l p) p=lk l p:=by
 unfold lk
 repeat' split
 all_goals omega
theorem mn_lk{p:Int}(hp:0<=p):∀(L:List Int) (l:Int),(∀q∈L,0<=q)->mn (lk l p) L=lk (mn l L) p
 |[],_,_=>rfl
 |q::L,l,h=>by
  show mn (lk (lk l p) q) L=lk (mn (lk l q) L) p
  rw[lk_comm hp (h q List.mem_cons_self)]
  exact mn_lk hp L _ (λr hr=>h r (List.mem_cons_of_mem _ hr))
theorem mn_app(l:Int)(L M:List Int):mn l (L++M)=mn (mn l L) M:=List.foldl_append ..
theorem leaks_leak(p:Int)(is:Bool)(J:PS):(R.leaks p is J).leak=if is=true then lk J.leak p else J.leak:=by
 unfold R.leaks lk
 cases is with
 |false=>simp
 |true=>
  by_cases h:J.leak<0∨p<J.leak
  · rw[if_pos ⟨rfl,h⟩,if_pos rfl,if_pos h]
  · rw[if_neg (λc=>h c.2),if_pos rfl,if_neg h]
theorem take_leak(T:List Tok)(J:PS):(R.take T J).leak=J.leak:=by unfold R.take;split<;>rfl
theorem fail_leak(e p:Int)(J:PS):(R.fail e p J).leak=J.leak:=by unfold R.fail;split<;>rfl
theorem want_leak(T:List Tok)(l:List UInt8)(J:PS):(R.want T l J).leak=J.leak:=by
 unfold R.want;split
 · exact take_leak T J
 · rw[fail_leak,take_leak]
theorem opens_leak(T:List Tok)(J:PS):(R.opens T J).leak=J.leak:=by
 unfold R.opens R.open1
 split
 · show(R.fail _ _ _).leak=_;rw[fail_leak,want_leak]
 · exact want_leak T _ J
theorem shut_leak(T:List Tok)(J:PS):(R.shut T J).leak=J.leak:=by
 unfold R.shut
 split
 · exact want_leak T _ J
 · rfl
theorem known_leak(T:List Tok)(a s:Bool)(J:PS):(R.known T a s J).leak=J.leak:=by
 unfold R.known
 split
 · split
   · split
     · rw[fail_leak,take_leak]
     · exact take_leak T J
   · rw[fail_leak,take_leak]
 · rfl
def lx:Ex->List Int
 |.get p _ e=>(if K.sec e=true then [p]else [])++lx e
 |.op p o l r=>(if(o==47&&(K.sec l||K.sec r))=true then [p]else [])++(lx l++lx r)
 |.cho _ q y n=>lx q++(lx y++lx n)
 |_=>[]
def kArgs(ex:S->S×Ex):Nat->S->S×List Ex
 |0,τ=>(τ,[])
 |n+1,τ=>((kArgs ex n (ex τ).1).1,(ex τ).2::(kArgs ex n (ex τ).1).2)
theorem kArgs_kd{ex:S->S×Ex}(h:∀τ,KD τ (ex τ).1):∀n τ,KD τ (kArgs ex n τ).1
 |0,τ=>KD.rfl' τ
 |n+1,τ=>(h τ).trans (kArgs_kd h n _)
structure Alike(J:PS)(a:PS×Int)(b:S×Ex):Prop where
 sm:Sm a.1 b.1
 sec:(R.nodeAt a.1 a.2).sec=K.sec b.2
 leak:a.1.leak=mn J.leak (lx b.2)
 pos:∀q∈lx b.2,0<=q
def Both(J:PS)(a:PS×Int)(b:S×Ex):Prop:=Alike J a b∨Dd a.1 b.1
def Rec(T:List Tok)(m f:Nat):Prop:=∀J τ,Sm J τ->J.i<T.length->T.length-J.i<=m->0<=τ.depth->τ.depth<=10->11-τ.depth<=(f:Int)->Both J (R.expr T m J) (K.expr T f τ)
theorem args_eqv{T:List Tok}(hE:R.Ended T){m f:Nat}(hr:Rec T m f)(n:Nat):∀(J:PS) (τ:S) (L:List Int) (b:Bool),Sm J τ->J.i<T.length->T.length-J.i<=m->0<=τ.depth->τ.depth<=10->11-τ.depth<=(f:Int)→
 (Sm (R.args (R.expr T m) n J L b).1 (kArgs (K.expr T f) n τ).1/\(R.args (R.expr T m) n J L b).2.2=(b||(kArgs (K.expr T f) n τ).2.any K.sec)/\(R.args (R.expr T m) n J L b).1.leak=mn J.leak ((kArgs (K.expr T f) n τ).2.flatMap lx)/\∀q∈(kArgs (K.expr T f) n τ).2.flatMap lx,0<=q)∨
 Dd (R.args (R.expr T m) n J L b).1 (kArgs (K.expr T f) n τ).1:=by
 induction n with
 |zero=>intro J τ L b h _ _ _ _ _;exact Or.inl ⟨h,by simp[R.args,kArgs],rfl,λq hq=>by simp[kArgs]at hq⟩
 |succ n ih=>
  intro J τ L b h hi hm d0 d1 df
  rw[R.args,if_pos h.e1,kArgs]
  have ok:=R.expr_ok hE m J hi
  have kk:=K.expr_keeps T f τ
  rcases hr J τ h hi hm d0 d1 df with a |a
  · have:=ih (R.expr T m J).1 (K.expr T f τ).1 (L++[(R.expr T m J).2]) (b||((R.expr T m J).1.err==0&&(R.nodeAt (R.expr T m J).1 (R.expr T m J).2).sec)) a.sm ok.lt (by have:=ok.le;omega) (by rw[kk.depth];exact d0) (by rw[kk.depth];exact d1) (by rw[kk.depth];exact df)
    rcases this with⟨t1,t2,t3,t4⟩|t
    · left
      refine⟨t1,?_,?_,?_⟩
      · rw[t2,a.sec,a.sm.e1]
        simp[Bool.or_assoc]
      · rw[t3,a.leak,List.flatMap_cons,mn_app]
      · intro q hq
        rw[List.flatMap_cons,List.mem_append]at hq
        rcases hq with hq |hq
        · exact a.pos q hq
        · exact t4 q hq
    · exact Or.inr t
  · right
    rw[R.args_dead _ _ _ _ _ a.e1]
    exact a.next (λ_=>⟨rfl,rfl⟩) (kArgs_kd (expr_kd T f) n _)
end Q
end
section
open R (Tok tk PS Thing)
open K (S Nm Ex Scans)
namespace Q
theorem pos_tok{s:ByteArray}{T:List Tok}(hS:Scans s T){i:Nat}(hi:i<T.length):0<=(tk T i).p:=by
 obtain⟨p,e,_⟩:=hS.next i hi
 omega
theorem comp_get{T:List Tok}{f:Nat}{p:Int}{τ:S}(h:(tk T τ.i).s.toList=R.kGet):K.comp T (K.expr T f) p τ=((kArgs (K.expr T f) 1 (K.known T K.hasWords (K.step T τ))).1,.get p (K.knownN T (K.step T τ)) (K.expr T f (K.known T K.hasWords (K.step T τ))).2):=by
 unfold K.comp
 rw[if_pos (by rw[h];decide)]
 rfl
theorem comp_cho{T:List Tok}{f:Nat}{p:Int}{τ:S}(h1:¬(tk T τ.i).s.toList=R.kGet)(h:(tk T τ.i).s.toList=R.kChoose):K.comp T (K.expr T f) p τ=K.choX T (K.expr T f) p τ:=by
 unfold K.comp
 rw[if_neg (c:=((tk T τ.i).s.toList==K.kGet)=true) (λc=>h1 (eq_of_beq c)),if_pos (by rw[h];decide)]
theorem comp_op{T:List Tok}{f:Nat}{p:Int}{τ:S}(h1:¬(tk T τ.i).s.toList=R.kGet)(h2:¬(tk T τ.i).s.toList=R.kChoose)(h:R.sign (tk T τ.i).s.toList=true):K.comp T (K.expr T f) p τ=K.opX T (K.expr T f) p τ:=by
 unfold K.comp
 rw[if_neg (c:=((tk T τ.i).s.toList==K.kGet)=true) (λc=>h1 (eq_of_beq c)),if_neg (c:=((tk T τ.i).s.toList==K.kChoose)=true) (λc=>h2 (eq_of_beq c)),if_pos (show K.isOpS (tk T τ.i).s=true from h)]
theorem comp_none{T:List Tok}{f:Nat}{p:Int}{τ:S}(h1:¬(tk T τ.i).s.toList=R.kGet)(h2:¬(tk T τ.i).s.toList=R.kChoose)(h:¬R.sign (tk T τ.i).s.toList=true):K.comp T (K.expr T f) p τ=(K.here T 2 τ,.none):=by
 unfold K.comp
 rw[if_neg (c:=((tk T τ.i).s.toList==K.kGet)=true) (λc=>h1 (eq_of_beq c)),if_neg (c:=((tk T τ.i).s.toList==K.kChoose)=true) (λc=>h2 (eq_of_beq c)),if_neg (show ¬K.isOpS (tk T τ.i).s=true from h)]
theorem node_last(n:R.Nd)(J:PS):R.nodeAt (R.addNode n J) (R.lastN (R.addNode n J))=n:=by
 unfold R.nodeAt R.lastN R.addNode
 simp
theorem sm_add{J:PS}{τ:S}(h:Sm J τ)(n:R.Nd):Sm (R.addNode n J) τ:=⟨h.e1,h.e2,h.i,h.nest,h.loops,h.names⟩
theorem dd_add{J:PS}{τ:S}(h:Dd J τ)(n:R.Nd):Dd (R.addNode n J) τ:=⟨h.e1,h.e2,h.p⟩
theorem sm_leaks{J:PS}{τ:S}(h:Sm J τ)(p:Int)(is:Bool):Sm (R.leaks p is J) τ:=by
 have c:=R.leaks_core p is J
 have c1:(R.leaks p is J).seen=J.seen:=congrArg (λc=>c.1) c.1
 have c2:(R.leaks p is J).loops=J.loops:=congrArg (λc=>c.2.2.2.2.1) c.1
 exact⟨c.2.2.2.2.trans h.e1,h.e2,c.2.2.1.trans h.i,c.2.2.2.1.trans h.nest,c2.trans h.loops,by rw[c1];exact h.names⟩
theorem leaks_place(p:Int)(is:Bool)(J:PS):(R.leaks p is J).place=J.place:=by unfold R.leaks;split<;>rfl
theorem dd_leaks{J:PS}{τ:S}(h:Dd J τ)(p:Int)(is:Bool):Dd (R.leaks p is J) τ:=by
 have c:=R.leaks_core p is J
 exact⟨by rw[c.2.2.2.2];exact h.e1,by rw[c.2.2.2.2];exact h.e2,by rw[leaks_place];exact h.p⟩
theorem tail_eqv{T:List Tok}{A:PS}{B:S}(h:Sm A B)(N:R.Nd)(p:Int)(is:Bool)(wd:Bool):
 (Sm (R.addNode N (R.leaks p ((R.shut T A).err==0&&is&&wd) (R.shut T A))) (K.closed T B)/\(R.addNode N (R.leaks p ((R.shut T A).err==0&&is&&wd) (R.shut T A))).leak=(if(is&&wd)=true then lk A.leak p else A.leak))∨
 Dd (R.addNode N (R.leaks p ((R.shut T A).err==0&&is&&wd) (R.shut T A))) (K.closed T B):=by
 rcases shut_eqv T (Or.inl h)with s |s
 · left
   refine⟨sm_add (sm_leaks s p _) N,?_⟩
   show(R.leaks p _ (R.shut T A)).leak=_
   rw[leaks_leak,shut_leak,s.e1]
   simp
 · exact Or.inr (dd_add (dd_leaks s p _) N)
theorem tail_dead{T:List Tok}{A:PS}{B:S}(h:Dd A B)(N:R.Nd)(p:Int)(is:Bool):Dd (R.addNode N (R.leaks p is (R.shut T A))) (K.closed T B):=by
 rcases shut_eqv T (Or.inr h)with s |s
 · exfalso
   have e:=s.e2
   have k:=closed_kd T B (by rw[h.e2];exact h.e1)
   rw[k.1,h.e2]at e
   exact h.e1 e
 · exact dd_add (dd_leaks s p _) N
theorem sign_byte{s:ByteArray}(h:R.sign s.toList=true):R.telling s.toList=(R.byteAt s 0==47)/\s.toList≠[]:=by
 by_cases hl:s.size=1
 · obtain⟨c,hc,hb⟩:=one_byte hl
   rw[ByteArray.toList_eq,hc,hb]
   refine⟨?_,by simp⟩
   unfold R.telling R.kGet
   have:(([c]:List UInt8)==[103,101,116])=false:=beq_no (by simp)
   rw[this,Bool.false_or]
   by_cases e:c=47
   · subst e;decide
   · rw[beq_no e];exact beq_no (by simpa using e)
 · rw[sign_long hl]at h
   exact absurd h (by decide)
theorem inner_eqv{s:ByteArray}{T:List Tok}(hS:Scans s T)(hE:R.Ended T){m f:Nat}(hr:Rec T m f){J:PS}{τ:S}(h:Sm J τ)(hi:J.i<T.length)(hm:T.length-J.i<=m)(d0:0<=τ.depth)(hd:τ.depth<=10/\11-τ.depth<=(f:Int)∨τ.i=T.length-1)(p:Int)(hp:0<=p):
 (Sm (R.inner T (R.expr T m) p J) (K.closed T (K.comp T (K.expr T f) p τ).1)/\(R.nodeAt (R.inner T (R.expr T m) p J) (R.lastN (R.inner T (R.expr T m) p J))).sec=K.sec (K.comp T (K.expr T f) p τ).2/\(R.inner T (R.expr T m) p J).leak=mn J.leak (lx (K.comp T (K.expr T f) p τ).2)/\∀q∈lx (K.comp T (K.expr T f) p τ).2,0<=q)∨
 Dd (R.inner T (R.expr T m) p J) (K.closed T (K.comp T (K.expr T f) p τ).1):=by
 have ht:=take_sm T h
 have hte:=(rtake_err T J).trans h.e1
 have hti:=R.take_i T J
 have hdead:∀l:List UInt8,l≠[]->(tk T J.i).s.toList=l->τ.depth<=10/\11-τ.depth<=(f:Int):=λl hl e=>by
  rcases hd with hd |hd
  · exact hd
  · exfalso
    have:=K.last_no hS (i:=τ.i) hd l hl
    rw[<-h.i,e]at this
    simp at this
 unfold R.inner R.headOf
 dsimp only
 by_cases e1:(tk T J.i).s.toList=R.kGet
 · have hd':=hdead _ (by decide) e1
   rw[if_pos e1,comp_get (by rw[<-h.i];exact e1)]
   dsimp only
   have wd:R.telling (tk T J.i).s.toList=true:=by rw[e1];decide
   rw[wd]
   have hk:=known_eqv T fits_words ht
   have kc:=R.known_core T true false (R.take T J)
   have kk:=(K.step_keeps T τ).trans (K.known_keeps T K.hasWords (K.step T τ))
   rcases hk with⟨k1,k2⟩|k
   · have ha:=args_eqv hE hr 1 _ _ [] false k1 (kc.2.2.2.2 (hti.2.2.2 hi)) (by have:=kc.2.2.2.1;have:=hti.1;omega) (by rw[kk.depth];exact d0) (by rw[kk.depth];exact hd'.1) (by rw[kk.depth];exact hd'.2)
     rcases ha with⟨a1,a2,a3,a4⟩|a
     · rcases tail_eqv (T:=T) a1 ⟨(tk T J.i).s,0,R.knownT T true false (R.take T J),(R.args (R.expr T m) 1 (R.known T true false (R.take T J)) [] false).2.1,[],(R.knownT T true false (R.take T J)).sec||(R.args (R.expr T m) 1 (R.known T true false (R.take T J)) [] false).2.2⟩ p (R.args (R.expr T m) 1 (R.known T true false (R.take T J)) [] false).2.2 true with⟨t1,t2⟩|t
       · left
         have a2':(R.args (R.expr T m) 1 (R.known T true false (R.take T J)) [] false).2.2=K.sec (K.expr T f (K.known T K.hasWords (K.step T τ))).2:=by rw[a2];simp[kArgs]
         have a4':∀q∈lx (K.expr T f (K.known T K.hasWords (K.step T τ))).2,0<=q:=λq hq=>a4 q (by simp[kArgs];exact hq)
         refine⟨t1,?_,?_,?_⟩
         · rw[node_last]
           show((R.knownT T true false (R.take T J)).sec||_)=(_||_)
           rw[k2.sec,a2']
         · rw[t2,a3,a2',known_leak,take_leak,Bool.and_true]
           show(if _ then lk (mn J.leak _) p else mn J.leak _)=mn J.leak ((if _ then [p]else [])++_)
           cases K.sec (K.expr T f (K.known T K.hasWords (K.step T τ))).2 with
           |true=>
            rw[if_pos rfl,if_pos rfl,mn_app]
            show _=mn (lk J.leak p) _
            rw[mn_lk hp _ _ a4']
            simp[kArgs]
           |false=>
            rw[if_neg (by decide),if_neg (by decide)]
            simp[kArgs]
         · intro q hq
           have hq':q∈(if K.sec (K.expr T f (K.known T K.hasWords (K.step T τ))).2=true then [p]else [])++lx (K.expr T f (K.known T K.hasWords (K.step T τ))).2:=hq
           rw[List.mem_append]at hq'
           rcases hq' with hq' |hq'
           · split at hq'
             · simp at hq';omega
             · simp at hq'
           · exact a4' q hq'
       · exact Or.inr t
     · exact Or.inr (tail_dead a _ p _)
   · right
     rw[R.args_dead _ _ _ _ _ k.e1]
     exact tail_dead (k.next (λ_=>⟨rfl,rfl⟩) (kArgs_kd (expr_kd T f) 1 _)) _ p _
 · rw[if_neg e1]
   by_cases e2:(tk T J.i).s.toList=R.kChoose
   · have hd':=hdead _ (by decide) e2
     rw[if_pos e2,comp_cho (by rw[<-h.i];exact e1) (by rw[<-h.i];exact e2)]
     dsimp only
     have wd:R.telling (tk T J.i).s.toList=false:=by rw[e2];decide
     rw[wd]
     have kk:=K.step_keeps T τ
     have ha:=args_eqv hE hr 3 _ _ [] false ht (hti.2.2.2 hi) (by have:=hti.1;omega) (by rw[kk.depth];exact d0) (by rw[kk.depth];exact hd'.1) (by rw[kk.depth];exact hd'.2)
     have eC:K.choX T (K.expr T f) p τ=((kArgs (K.expr T f) 3 (K.step T τ)).1,.cho p (K.expr T f (K.step T τ)).2 (K.expr T f (K.expr T f (K.step T τ)).1).2 (K.expr T f (K.expr T f (K.expr T f (K.step T τ)).1).1).2):=rfl
     have eL:(kArgs (K.expr T f) 3 (K.step T τ)).2=[(K.expr T f (K.step T τ)).2,(K.expr T f (K.expr T f (K.step T τ)).1).2,(K.expr T f (K.expr T f (K.expr T f (K.step T τ)).1).1).2]:=rfl
     rw[eL]at ha
     rw[eC]
     dsimp only
     generalize(K.expr T f (K.step T τ)).2=x1 at*
     generalize(K.expr T f (K.expr T f (K.step T τ)).1).2=x2 at*
     generalize(K.expr T f (K.expr T f (K.expr T f (K.step T τ)).1).1).2=x3 at*
     rcases ha with⟨a1,a2,a3,a4⟩|a
     · rcases tail_eqv (T:=T) a1 ⟨(tk T J.i).s,0,R.noThing,(R.args (R.expr T m) 3 (R.take T J) [] false).2.1,[],R.noThing.sec||(R.args (R.expr T m) 3 (R.take T J) [] false).2.2⟩ p (R.args (R.expr T m) 3 (R.take T J) [] false).2.2 false with⟨t1,t2⟩|t
       · left
         refine⟨t1,?_,?_,?_⟩
         · rw[node_last]
           show(false||(R.args (R.expr T m) 3 (R.take T J) [] false).2.2)=(K.sec x1||K.sec x2||K.sec x3)
           rw[a2]
           simp[Bool.or_assoc]
         · rw[t2,Bool.and_false,if_neg (by decide),a3,take_leak]
           show mn J.leak _=mn J.leak (lx x1++(lx x2++lx x3))
           simp
         · intro q hq
           refine a4 q ?_
           have hq':q∈lx x1++(lx x2++lx x3):=hq
           simpa using hq'
       · exact Or.inr t
     · exact Or.inr (tail_dead a _ p _)
   · rw[if_neg e2]
     by_cases e3:R.sign (tk T J.i).s.toList=true
     · obtain⟨wd,hne⟩:=sign_byte e3
       have hd':=hdead _ hne rfl
       rw[if_pos e3,comp_op (by rw[<-h.i];exact e1) (by rw[<-h.i];exact e2) (by rw[<-h.i];exact e3)]
       dsimp only
       rw[wd]
       have kk:=K.step_keeps T τ
       have ha:=args_eqv hE hr 2 _ _ [] false ht (hti.2.2.2 hi) (by have:=hti.1;omega) (by rw[kk.depth];exact d0) (by rw[kk.depth];exact hd'.1) (by rw[kk.depth];exact hd'.2)
       have hst:K.take T K.isOpS τ=K.step T τ:=take_yes (by rw[<-h.i];exact e3)
       have eC:K.opX T (K.expr T f) p τ=((kArgs (K.expr T f) 2 (K.step T τ)).1,.op p (R.byteAt (tk T J.i).s 0) (K.expr T f (K.step T τ)).2 (K.expr T f (K.expr T f (K.step T τ)).1).2):=by
        unfold K.opX
        dsimp only
        rw[hst,h.i]
        rfl
       have eL:(kArgs (K.expr T f) 2 (K.step T τ)).2=[(K.expr T f (K.step T τ)).2,(K.expr T f (K.expr T f (K.step T τ)).1).2]:=rfl
       rw[eL]at ha
       rw[eC]
       dsimp only
       generalize(K.expr T f (K.step T τ)).2=x1 at*
       generalize(K.expr T f (K.expr T f (K.step T τ)).1).2=x2 at*
       generalize R.byteAt (tk T J.i).s 0=o at*
       rcases ha with⟨a1,a2,a3,a4⟩|a
       · rcases tail_eqv (T:=T) a1 ⟨(tk T J.i).s,0,R.noThing,(R.args (R.expr T m) 2 (R.take T J) [] false).2.1,[],R.noThing.sec||(R.args (R.expr T m) 2 (R.take T J) [] false).2.2⟩ p (R.args (R.expr T m) 2 (R.take T J) [] false).2.2 (o==47)with⟨t1,t2⟩|t
         · left
           have a2':(R.args (R.expr T m) 2 (R.take T J) [] false).2.2=(K.sec x1||K.sec x2):=by rw[a2];simp
           have a4':∀q∈lx x1++lx x2,0<=q:=λq hq=>a4 q (by simpa using hq)
           refine⟨t1,?_,?_,?_⟩
           · rw[node_last]
             show(false||(R.args (R.expr T m) 2 (R.take T J) [] false).2.2)=(K.sec x1||K.sec x2)
             rw[a2',Bool.false_or]
           · rw[t2,a3,a2',take_leak,Bool.and_comm]
             show(if _ then lk (mn J.leak _) p else mn J.leak _)=mn J.leak ((if _ then [p]else [])++(lx x1++lx x2))
             have el:List.flatMap lx [x1,x2]=lx x1++lx x2:=by simp
             rw[el]
             cases(o==47&&(K.sec x1||K.sec x2))with
             |true=>
              rw[if_pos rfl,if_pos rfl]
              show _=mn (lk J.leak p) (lx x1++lx x2)
              rw[mn_lk hp _ _ a4']
             |false=>
              rw[if_neg (by decide),if_neg (by decide)]
              rfl
           · intro q hq
             have hq':q∈(if(o==47&&(K.sec x1||K.sec x2))=true then [p]else [])++(lx x1++lx x2):=hq
             rw[List.mem_append]at hq'
             rcases hq' with hq' |hq'
             · split at hq'
               · simp at hq';omega
               · simp at hq'
             · exact a4' q hq'
         · exact Or.inr t
       · exact Or.inr (tail_dead a _ p _)
     · rw[if_neg e3,comp_none (by rw[<-h.i];exact e1) (by rw[<-h.i];exact e2) (by rw[<-h.i];exact e3)]
       right
       dsimp only
       have d:Dd (R.fail 2 (tk T J.i).p (R.take T J)) (K.here T 2 τ):=by
        unfold K.here
        rw[<-h.i]
        exact fail_dd hte h.e2 (by decide) T _
       rw[R.args_dead _ _ _ _ _ d.e1]
       exact tail_dead d _ p _
theorem expr_eqv{s:ByteArray}{T:List Tok}(hS:Scans s T)(hE:R.Ended T)(f:Nat):∀m,Rec T m f:=by
 induction f with
 |zero=>intro m J τ _ _ _ d0 d1 df;omega
 |succ f ih=>
  intro m J τ h hi hm d0 d1 df
  obtain⟨m,rfl⟩:∃k,m=k+1:=⟨m-1,by omega⟩
  have hp:=pos_tok hS hi
  rw[R.expr,if_pos h.e1,K.expr]
  unfold K.exB
  rw[<-h.i]
  by_cases e:(tk T J.i).s.toList=[40]
  · rw[if_pos e,if_pos (c:=((tk T J.i).s.toList==[40])=true) (by rw[e];rfl)]
    have ho:=opens_eqv T h
    have oc:=R.opens_core T J
    have ti:=R.take_i T J
    have hil:J.i+1<T.length:=R.ended_lt hE hi (R.ne_of_list e (by decide))
    rcases ho with o |o
    · rw[if_pos o.e1]
      have hin:=inner_eqv hS hE (ih m) o (by rw[oc.2.2.1];exact ti.2.2.2 hi) (by rw[oc.2.2.1,ti.2.2.1 hil];omega) (by rw[K.opened_depth];omega) (by
       by_cases e10:τ.depth=10
       · exact Or.inr (K.opened_deep e10)
       · exact Or.inl (by rw[K.opened_depth];omega)) (tk T J.i).p hp
      rcases hin with⟨i1,i2,i3,i4⟩|i
      · exact Or.inl ⟨i1,i2,by rw[i3,opens_leak],i4⟩
      · exact Or.inr i
    · rw[if_neg o.e1]
      exact Or.inr ((o.next (λ_=>⟨rfl,rfl⟩) (comp_kd (expr_kd T f) _ _)).next (λ_=>⟨rfl,rfl⟩) (closed_kd T _))
  · rw[if_neg e,if_neg (c:=((tk T J.i).s.toList==[40])=true) (by simpa using e)]
    by_cases en:(R.number (tk T J.i).s.data.toList).2=true
    · have ek:K.isNum (tk T τ.i).s=true:=by rw[<-h.i,num_same];exact en
      rw[if_pos en,if_pos (c:=K.isNum (tk T J.i).s=true) (by rw[num_same];exact en),take_yes ek]
      refine Or.inl ⟨sm_add (take_sm T h) _,?_,?_,λq hq=>by simp[lx]at hq⟩
      · rw[node_last];rfl
      · show(R.take T J).leak=_
        rw[take_leak];rfl
    · rw[if_neg en,if_neg (c:=K.isNum (tk T J.i).s=true) (by rw[num_same];exact en)]
      rcases known_eqv T fits_read h with⟨k1,k2⟩|k
      · refine Or.inl ⟨sm_add k1 _,?_,?_,λq hq=>by simp[lx]at hq⟩
        · rw[node_last]
          exact k2.sec
        · show(R.known T false false J).leak=_
          rw[known_leak];rfl
      · exact Or.inr (dd_add k _)
end Q
end
section
open R (Tok tk PS Thing)
open K (S Nm Ex Do Scans)
namespace Q
theorem lk_front{p:Int}(hp:0<=p)(b:Bool)(l:Int)(L:List Int)(hL:∀q∈L,0<=q):(if b=true then lk (mn l L) p else mn l L)=mn l ((if b=true then [p]else [])++L):=by
 cases b with
 |true=>
  rw[if_pos rfl,if_pos rfl]
  show _=mn (lk l p) L
  rw[mn_lk hp _ _ hL]
 |false=>rw[if_neg (by decide),if_neg (by decide)];rfl
theorem pos_front{p:Int}(hp:0<=p)(b:Bool){L:List Int}(hL:∀q∈L,0<=q):∀q∈(if b=true then [p]else [])++L,0<=q:=λq hq=>by
 rw[List.mem_append]at hq
 rcases hq with hq |hq
 · split at hq
   · simp at hq;omega
   · simp at hq
 · exact hL q hq
theorem pos_app{L M:List Int}(h:∀q∈L,(0:Int)<=q)(k:∀q∈M,(0:Int)<=q):∀q∈L++M,0<=q:=λq hq=>by
 rw[List.mem_append]at hq
 rcases hq with hq |hq
 · exact h q hq
 · exact k q hq
theorem put_leak{p:Int}(a b:Bool)(l:Int)(X:List Int):mn l ((if a=true then [p]else [])++((if b=true then [p]else [])++X))=mn l ((if(b||a)=true then [p]else [])++X):=by
 cases a<;>cases b
 · rfl
 · rfl
 · rfl
 · show mn (lk (lk l p) p) X=mn (lk l p) X
   rw[lk_twice]
mutual
def ld(hid:Bool):Do->List Int
 |.set p n e=>(if K.tells n e hid=true then [p]else [])++lx e
 |.put p n i e=>(if(K.sec i||K.tells n e hid)=true then [p]else [])++(lx i++lx e)
 |.ifs _ q y n=>lx q++(lds (hid||K.sec q) y++lds (hid||K.sec q) n)
 |.fors p _ r l=>(if K.sec r=true then [p]else [])++(lx r++lds hid l)
 |.none=>[]
def lds(hid:Bool):List Do->List Int
 |[]=>[]
 |d::l=>ld hid d++lds hid l
end
theorem lds_snoc(hid:Bool)(d:Do):∀l,lds hid (l++[d])=lds hid l++ld hid d
 |[]=>by simp[lds]
 |a::l=>by
  show lds hid (a::(l++[d]))=_
  rw[lds,lds,lds_snoc hid d l,List.append_assoc]
def DA(J A:PS)(B:S)(L:List Int):Prop:=(Sm A B/\A.leak=mn J.leak L/\∀q∈L,0<=q)∨Dd A B
def Hs(J:PS)(hid:Bool):Prop:=0<=J.hidden/\decide (0<J.hidden)=hid
theorem core_hid{J J':PS}(h:R.core J'=R.core J):J'.hidden=J.hidden:=congrArg (λc=>c.2.2.2.2.2.1) h
theorem core_seen{J J':PS}(h:R.core J'=R.core J):J'.seen=J.seen:=congrArg (λc=>c.1) h
theorem core_loops{J J':PS}(h:R.core J'=R.core J):J'.loops=J.loops:=congrArg (λc=>c.2.2.2.2.1) h
theorem Hs.next{J J':PS}{hid:Bool}(h:Hs J hid)(c:R.core J'=R.core J):Hs J' hid:=by unfold Hs;rw[core_hid c];exact h
def Lv(f:Nat)(τ:S):Prop:=0<=τ.depth/\τ.depth<=10/\11-τ.depth<=(f:Int)
def RecD(T:List Tok)(g f:Nat):Prop:=∀J τ hid,Sm J τ->Hs J hid->J.i<T.length->Lv g τ->Lv f τ->DA J (R.does T g J).1 (K.dos T f τ).1 (lds hid (K.dos T f τ).2)
theorem ex_eqv{s:ByteArray}{T:List Tok}(hS:Scans s T)(hE:R.Ended T){J:PS}{τ:S}(h:Sm J τ)(hi:J.i<T.length)(d0:0<=τ.depth)(d1:τ.depth<=10):Both J (R.ex T J) (K.expr T 11 τ):=
 expr_eqv hS hE 11 T.length J τ h hi (by omega) d0 d1 (by omega)
theorem ex_dead{T:List Tok}{J:PS}{τ:S}(h:Dd J τ):Dd (R.ex T J).1 (K.expr T 11 τ).1:=by
 unfold R.ex
 rw[R.expr_dead T _ J h.e1]
 exact h.next (λ_=>⟨rfl,rfl⟩) (expr_kd T 11 τ)
theorem secAt_alive{J:PS}(h:J.err=0)(x:Int):R.secAt J x=(R.nodeAt J x).sec:=by unfold R.secAt;rw[h];rfl
theorem set_eqv{s:ByteArray}{T:List Tok}(hS:Scans s T)(hE:R.Ended T){J:PS}{τ:S}{hid:Bool}(h:Sm J τ)(hh:Hs J hid)(hi:J.i<T.length)(d0:0<=τ.depth)(d1:τ.depth<=10){p:Int}(hp:0<=p):
 DA J (R.doSet T p (R.take T J)).s (K.setX T p τ).1 (ld hid (K.setX T p τ).2):=by
 have ht:=take_sm T h
 have hti:=R.take_i T J
 have tc:=R.take_core T J
 unfold R.doSet K.setX
 dsimp only
 have kc:=R.known_core T false true (R.take T J)
 have kk:=(K.step_keeps T τ).trans (K.known_keeps T K.canSet (K.step T τ))
 rcases known_eqv T fits_set ht with⟨k1,k2⟩|k
 · have ok:=R.expr_ok hE T.length (R.known T false true (R.take T J)) (kc.2.2.2.2 (hti.2.2.2 hi))
   rcases ex_eqv hS hE k1 (kc.2.2.2.2 (hti.2.2.2 hi)) (by rw[kk.depth];exact d0) (by rw[kk.depth];exact d1)with a |a
   · left
     have hT:R.tellsAt (R.ex T (R.known T false true (R.take T J))).1 (R.knownT T false true (R.take T J)) (R.ex T (R.known T false true (R.take T J))).2=K.tells (K.knownN T (K.step T τ)) (K.expr T 11 (K.known T K.canSet (K.step T τ))).2 hid:=by
      unfold R.tellsAt K.tells
      have e:=(hh.next ((ok.core.trans kc.1).trans tc.1)).2
      rw[a.sm.e1,k2.sec,a.sec]
      show((0:Int)==0&&_&&(decide (0<(R.expr T T.length (R.known T false true (R.take T J))).1.hidden)||_))=_
      rw[e]
      rfl
     refine⟨sm_leaks a.sm _ _,?_,?_⟩
     · rw[leaks_leak,hT,a.leak,known_leak,take_leak,ld]
       exact lk_front hp _ _ _ a.pos
     · rw[ld];exact pos_front hp _ a.pos
   · exact Or.inr (dd_leaks a _ _)
 · exact Or.inr (dd_leaks (ex_dead k) _ _)
theorem put_eqv{s:ByteArray}{T:List Tok}(hS:Scans s T)(hE:R.Ended T){J:PS}{τ:S}{hid:Bool}(h:Sm J τ)(hh:Hs J hid)(hi:J.i<T.length)(d0:0<=τ.depth)(d1:τ.depth<=10){p:Int}(hp:0<=p):
 DA J (R.doPut T p (R.take T J)).s (K.putX T p τ).1 (ld hid (K.putX T p τ).2):=by
 have ht:=take_sm T h
 have hti:=R.take_i T J
 have tc:=R.take_core T J
 unfold R.doPut K.putX
 dsimp only
 have kc:=R.known_core T true false (R.take T J)
 have kk:=(K.step_keeps T τ).trans (K.known_keeps T K.hasWords (K.step T τ))
 rcases known_eqv T fits_words ht with⟨k1,k2⟩|k
 · have ok:=R.expr_ok hE T.length (R.known T true false (R.take T J)) (kc.2.2.2.2 (hti.2.2.2 hi))
   have ek:=K.expr_keeps T 11 (K.known T K.hasWords (K.step T τ))
   rcases ex_eqv hS hE k1 (kc.2.2.2.2 (hti.2.2.2 hi)) (by rw[kk.depth];exact d0) (by rw[kk.depth];exact d1)with a |a
   · have kd:=kk.trans ek
     have a1:=sm_leaks a.sm p (R.secAt (R.ex T (R.known T true false (R.take T J))).1 (R.ex T (R.known T true false (R.take T J))).2)
     have lc:=R.leaks_core p (R.secAt (R.ex T (R.known T true false (R.take T J))).1 (R.ex T (R.known T true false (R.take T J))).2) (R.ex T (R.known T true false (R.take T J))).1
     have hi2:(R.leaks p (R.secAt (R.ex T (R.known T true false (R.take T J))).1 (R.ex T (R.known T true false (R.take T J))).2) (R.ex T (R.known T true false (R.take T J))).1).i<T.length:=by
      rw[lc.2.2.1];exact ok.lt
     have ok2:=R.expr_ok hE T.length _ hi2
     rcases ex_eqv hS hE a1 hi2 (by rw[kd.depth];exact d0) (by rw[kd.depth];exact d1)with c |c
     · left
       have hc:=(hh.next (((ok2.core.trans lc.1).trans (ok.core.trans kc.1)).trans tc.1)).2
       rw[secAt_alive a.sm.e1,a.sec]at*
       have hl:(R.leaks p (K.sec (K.expr T 11 (K.known T K.hasWords (K.step T τ))).2) (R.ex T (R.known T true false (R.take T J))).1).leak=mn J.leak ((if K.sec (K.expr T 11 (K.known T K.hasWords (K.step T τ))).2=true then [p]else [])++lx (K.expr T 11 (K.known T K.hasWords (K.step T τ))).2):=by
        rw[leaks_leak,a.leak,known_leak,take_leak]
        exact lk_front hp _ _ _ a.pos
       have hT:R.tellsAt (R.ex T (R.leaks p (K.sec (K.expr T 11 (K.known T K.hasWords (K.step T τ))).2) (R.ex T (R.known T true false (R.take T J))).1)).1 (R.knownT T true false (R.take T J)) (R.ex T (R.leaks p (K.sec (K.expr T 11 (K.known T K.hasWords (K.step T τ))).2) (R.ex T (R.known T true false (R.take T J))).1)).2=K.tells (K.knownN T (K.step T τ)) (K.expr T 11 (K.expr T 11 (K.known T K.hasWords (K.step T τ))).1).2 hid:=by
        unfold R.tellsAt K.tells
        rw[c.sm.e1,k2.sec,c.sec]
        show((0:Int)==0&&_&&(decide (0<(R.expr T T.length (R.leaks p (K.sec (K.expr T 11 (K.known T K.hasWords (K.step T τ))).2) (R.ex T (R.known T true false (R.take T J))).1)).1.hidden)||_))=_
        rw[hc]
        rfl
       refine⟨sm_leaks c.sm _ _,?_,?_⟩
       · rw[leaks_leak,hT,c.leak,hl,ld,<-mn_app,lk_front hp _ _ _ (pos_app (pos_front hp _ a.pos) c.pos),List.append_assoc,put_leak]
       · rw[ld];exact pos_front hp _ (pos_app a.pos c.pos)
     · exact Or.inr (dd_leaks c _ _)
   · exact Or.inr (dd_leaks (ex_dead (dd_leaks a _ _)) _ _)
 · exact Or.inr (dd_leaks (ex_dead (dd_leaks (ex_dead k) _ _)) _ _)
theorem here_kd(T:List Tok)(e:Int)(τ:S):KD τ (K.here T e τ):=fail_kd T e _ τ
theorem brk_kd{T:List Tok}{dos:S->S×List Do}(h:∀τ,KD τ (dos τ).1)(τ:S):KD τ (K.brk T dos τ).1:=((opened_kd T τ).trans (h _)).trans (closed_kd T _)
theorem body_kd{dos:S->S×List Do}(h:∀τ,KD τ (dos τ).1)(n:Nm)(τ:S):KD τ (K.body dos n τ).1:=λe=>h (K.seeing n τ) e
theorem loop0_kd(T:List Tok)(τ:S):KD τ (K.loop0 T τ):=by
 unfold K.loop0;split
 · exact here_kd T _ _
 · exact KD.rfl' τ
theorem doX_kd{T:List Tok}{dos:S->S×List Do}(h:∀τ,KD τ (dos τ).1)(p:Int)(τ:S):KD τ (K.doX T dos p τ).1:=by
 unfold K.doX
 split
 · exact((step_kd T τ).trans (known_kd T _ _)).trans (expr_kd T _ _)
 · split
   · exact(((step_kd T τ).trans (known_kd T _ _)).trans (expr_kd T _ _)).trans (expr_kd T _ _)
   · split
     · exact(((step_kd T τ).trans (expr_kd T _ _)).trans (brk_kd h _)).trans (brk_kd h _)
     · split
       · exact((((loop0_kd T τ).trans (step_kd T _)).trans (newName_kd T _)).trans (expr_kd T _ _)).trans (body_kd h _ _)
       · exact here_kd T _ _
theorem brkDo_kd{T:List Tok}{d:Int->S->S×Do}(h:∀p τ,KD τ (d p τ).1)(τ:S):KD τ (K.brkDo T d τ).1:=((opened_kd T τ).trans (h _ _)).trans (closed_kd T _)
theorem dosL_kd{T:List Tok}{d:Int->S->S×Do}(h:∀p τ,KD τ (d p τ).1)(m:Nat):∀(τ:S) (l:List Do),KD τ (K.dosL T d m τ l).1:=by
 induction m with
 |zero=>intro τ l;exact KD.rfl' τ
 |succ m ih=>
  intro τ l
  rw[K.dosL]
  split
  · exact(brkDo_kd h τ).trans (ih _ _)
  · exact KD.rfl' τ
theorem doF_kd(T:List Tok)(f:Nat):∀p τ,KD τ (K.doF T f p τ).1:=by
 induction f with
 |zero=>intro p τ;exact KD.rfl' τ
 |succ f ih=>intro p τ;exact doX_kd (λτ=>dosL_kd ih T.length τ []) p τ
theorem dos_kd(T:List Tok)(f:Nat)(τ:S):KD τ (K.dos T f τ).1:=dosL_kd (doF_kd T f) _ _ _
theorem shut_da{T:List Tok}{J A:PS}{B:S}{L:List Int}(h:DA J A B L):DA J (R.shut T A) (K.closed T B) L:=by
 rcases h with⟨h1,h2,h3⟩|h
 · rcases shut_eqv T (Or.inl h1)with s |s
   · exact Or.inl ⟨s,by rw[shut_leak];exact h2,h3⟩
   · exact Or.inr s
 · rcases shut_eqv T (Or.inr h)with s |s
   · exfalso
     have e:=s.e2
     have k:=closed_kd T B (by rw[h.e2];exact h.e1)
     rw[k.1,h.e2]at e
     exact h.e1 e
   · exact Or.inr s
theorem opens_lv{T:List Tok}{J:PS}{τ:S}{f:Nat}(o:Sm (R.opens T J) (K.opened T τ))(h:Sm J τ)(d0:0<=τ.depth)(d1:τ.depth<=10)(df:10-τ.depth<=(f:Int)):Lv f (K.opened T τ):=by
 have:=(R.opens_ok o.e1).2.2
 have e:=h.nest
 have ed:=K.opened_depth T τ
 exact⟨by omega,by omega,by omega⟩
theorem block_eqv{T:List Tok}{g f:Nat}(hr:RecD T g f){J:PS}{τ:S}{hid:Bool}(h:Sm J τ)(hh:Hs J hid)(hi:J.i<T.length)(d0:0<=τ.depth)(d1:τ.depth<=10)(dg:10-τ.depth<=(g:Int))(df:10-τ.depth<=(f:Int)):
 DA J (R.block T (R.does T g) J).1 (K.brk T (K.dos T f) τ).1 (lds hid (K.brk T (K.dos T f) τ).2):=by
 unfold R.block K.brk
 rw[if_pos h.e1]
 dsimp only
 have oc:=R.opens_core T J
 have ti:=R.take_i T J
 rcases opens_eqv T h with o |o
 · have:=hr _ _ hid o (hh.next oc.1) (by rw[oc.2.2.1];exact ti.2.2.2 hi) (opens_lv o h d0 d1 dg) (opens_lv o h d0 d1 df)
   have:=shut_da (T:=T) this
   rcases this with⟨t1,t2,t3⟩|t
   · exact Or.inl ⟨t1,by rw[t2,opens_leak],t3⟩
   · exact Or.inr t
 · rw[R.does_dead T g o.e1]
   exact shut_da (T:=T) (Or.inr (o.next (λ_=>⟨rfl,rfl⟩) (dos_kd T f _)))
theorem block_dd{T:List Tok}{g f:Nat}{J:PS}{τ:S}(h:Dd J τ):Dd (R.block T (R.does T g) J).1 (K.brk T (K.dos T f) τ).1:=by
 rw[R.block_dead T _ h.e1]
 exact h.next (λ_=>⟨rfl,rfl⟩) (brk_kd (dos_kd T f) τ)
theorem sm_hide{J:PS}{τ:S}(h:Sm J τ)(d:Int):Sm (R.hide1 d J) τ:=⟨h.e1,h.e2,h.i,h.nest,h.loops,h.names⟩
theorem dd_hide{J:PS}{τ:S}(h:Dd J τ)(d:Int):Dd (R.hide1 d J) τ:=⟨h.e1,h.e2,h.p⟩
theorem if_eqv{s:ByteArray}{T:List Tok}(hS:Scans s T)(hE:R.Ended T){g f:Nat}(hr:RecD T g f){J:PS}{τ:S}{hid:Bool}(h:Sm J τ)(hh:Hs J hid)(hi:J.i<T.length)(d0:0<=τ.depth)(d1:τ.depth<=10)(dg:10-τ.depth<=(g:Int))(df:10-τ.depth<=(f:Int))(p:Int):
 DA J (R.doIf T (R.does T g) (R.take T J)).s (K.ifX T (K.dos T f) p τ).1 (ld hid (K.ifX T (K.dos T f) p τ).2):=by
 have ht:=take_sm T h
 have hti:=R.take_i T J
 have tc:=R.take_core T J
 unfold R.doIf K.ifX
 dsimp only
 have k0:=K.step_keeps T τ
 have ok:=R.expr_ok hE T.length (R.take T J) (hti.2.2.2 hi)
 have k1:=k0.trans (K.expr_keeps T 11 (K.step T τ))
 rcases ex_eqv hS hE ht (hti.2.2.2 hi) (by rw[k0.depth];exact d0) (by rw[k0.depth];exact d1)with a |a
 · rw[secAt_alive a.sm.e1,a.sec,ld]
   have hA:Hs (R.ex T (R.take T J)).1 hid:=(hh.next (ok.core.trans tc.1))
   generalize hm:(if K.sec (K.expr T 11 (K.step T τ)).2=true then(1:Int)else 0)=m at*
   have hB:Hs (R.hide1 m (R.ex T (R.take T J)).1) (hid||K.sec (K.expr T 11 (K.step T τ)).2):=by
    obtain⟨q0,q1⟩:=hA
    unfold Hs
    show 0<=(R.ex T (R.take T J)).1.hidden+m/\decide (0<(R.ex T (R.take T J)).1.hidden+m)=_
    rw[<-q1,<-hm]
    cases K.sec (K.expr T 11 (K.step T τ)).2 with
    |true=>
     rw[if_pos rfl,Bool.or_true]
     exact⟨by omega,decide_eq_true (by omega)⟩
    |false=>
     rw[if_neg (by decide),Bool.or_false,Int.add_zero]
     exact⟨q0,rfl⟩
   have b1:=block_eqv hr (sm_hide a.sm m) hB ok.lt (by rw[k1.depth];exact d0) (by rw[k1.depth];exact d1) (by rw[k1.depth];exact dg) (by rw[k1.depth];exact df)
   have bo:=R.block_ok (λJ h=>R.does_ok hE g h) (J:=R.hide1 m (R.ex T (R.take T J)).1) ok.lt
   have k2:=k1.trans (K.brk_keeps (T:=T) (λJ=>K.dos_keeps T f J) (K.expr T 11 (K.step T τ)).1)
   rcases b1 with⟨b1,b2,b3⟩|b
   · have c1:=block_eqv hr b1 (hB.next bo.core) bo.lt (by rw[k2.depth];exact d0) (by rw[k2.depth];exact d1) (by rw[k2.depth];exact dg) (by rw[k2.depth];exact df)
     rcases c1 with⟨c1,c2,c3⟩|c
     · refine Or.inl ⟨sm_hide c1 _,?_,pos_app a.pos (pos_app b3 c3)⟩
       show(R.block T (R.does T g) (R.block T (R.does T g) (R.hide1 m (R.ex T (R.take T J)).1)).1).1.leak=_
       rw[c2,b2,mn_app,mn_app]
       show mn (mn (R.ex T (R.take T J)).1.leak _) _=_
       rw[a.leak,take_leak]
     · exact Or.inr (dd_hide c _)
   · exact Or.inr (dd_hide (block_dd b) _)
 · exact Or.inr (dd_hide (block_dd (block_dd (dd_hide a _))) _)
theorem dd_push{J:PS}{τ:S}(h:Dd J τ)(t:Thing):Dd (R.push t J) τ:=⟨h.e1,h.e2,h.p⟩
theorem dd_pop{J:PS}{τ:S}(h:Dd J τ):Dd (R.pop J) τ:=⟨h.e1,h.e2,h.p⟩
theorem body_dd{T:List Tok}{g f:Nat}{J:PS}{τ:S}(h:Dd J τ)(t:Thing)(n:Nm):Dd (R.pop (R.does T g (R.push t J)).1) (K.body (K.dos T f) n τ).1:=by
 have h':=dd_push h t
 rw[R.does_dead T g h'.e1]
 exact(dd_pop h').next (λ_=>⟨rfl,rfl⟩) (body_kd (dos_kd T f) n τ)
theorem fresh_leak(T:List Tok)(J:PS):(R.fresh T J).leak=J.leak:=by
 unfold R.fresh
 split
 · split
   · split
     · rw[fail_leak,take_leak]
     · exact take_leak T J
   · rw[fail_leak,take_leak]
 · rfl
theorem for_eqv{s:ByteArray}{T:List Tok}(hS:Scans s T)(hE:R.Ended T){g f:Nat}(hr:RecD T g f){J:PS}{τ:S}{hid:Bool}(h:Sm J τ)(hh:Hs J hid)(hi:J.i<T.length)(d0:0<=τ.depth)(d1:τ.depth<=10)(dg:11-τ.depth<=(g:Int))(df:11-τ.depth<=(f:Int)){p:Int}(hp:0<=p)(wp:Int)(hw:wp=(tk T J.i).p):
 DA J (R.doFor T (R.does T g) p wp (R.take T J)).s (K.forX T (K.dos T f) p τ).1 (ld hid (K.forX T (K.dos T f) p τ).2):=by
 have ht:=take_sm T h
 have hti:=R.take_i T J
 have tc:=R.take_core T J
 unfold R.doFor K.forX
 dsimp only
 by_cases hl:J.loops=2
 · right
   rw[core_loops tc.1,if_pos hl]
   have e0:K.loop0 T τ=K.here T 6 τ:=by unfold K.loop0;rw[if_pos (by rw[<-h.loops];exact hl)]
   have d:Dd (R.fail 6 wp (R.take T J)) (K.loop1 T τ):=by
    unfold K.loop1
    rw[e0]
    refine Dd.next (J:=R.fail 6 wp (R.take T J)) ?_ (λ_=>⟨rfl,rfl⟩) (step_kd T _)
    unfold K.here
    rw[hw,<-h.i]
    exact fail_dd ((rtake_err T J).trans h.e1) h.e2 (by decide) T _
   have d2:Dd (R.fresh T (R.fail 6 wp (R.take T J))) (K.newName T (K.loop1 T τ)):=by
    have e:R.fresh T (R.fail 6 wp (R.take T J))=R.fail 6 wp (R.take T J):=by unfold R.fresh;rw[if_neg d.e1]
    rw[e]
    exact d.next (λ_=>⟨rfl,rfl⟩) (newName_kd T _)
   exact body_dd (dd_leaks (ex_dead d2) _ _) _ _
 · rw[core_loops tc.1,if_neg hl]
   have e0:K.loop0 T τ=τ:=by unfold K.loop0;rw[if_neg (by rw[<-h.loops];exact hl)]
   have e1:K.loop1 T τ=K.step T τ:=by unfold K.loop1;rw[e0]
   have hc:(K.counter T τ)=⟨(tk T (K.step T τ).i).s,2,false,0,τ.words+τ.loops⟩:=by unfold K.counter;rw[e1]
   rw[e1]
   generalize K.counter T τ=n at*
   have fc:=R.fresh_core T (R.take T J)
   have k1:=(K.step_keeps T τ).trans (K.newName_keeps T (K.step T τ))
   rcases fresh_eqv T ht with a0 |a0
   · have hi1:=fc.2.2.2.2 (hti.2.2.2 hi)
     have ok:=R.expr_ok hE T.length (R.fresh T (R.take T J)) hi1
     have k2:=k1.trans (K.expr_keeps T 11 (K.newName T (K.step T τ)))
     rcases ex_eqv hS hE a0 hi1 (by rw[k1.depth];exact d0) (by rw[k1.depth];exact d1)with a |a
     · rw[secAt_alive a.sm.e1,a.sec,ld]
       have a1:=sm_leaks a.sm p (K.sec (K.expr T 11 (K.newName T (K.step T τ))).2)
       have lc:=R.leaks_core p (K.sec (K.expr T 11 (K.newName T (K.step T τ))).2) (R.ex T (R.fresh T (R.take T J))).1
       have hl3:(R.leaks p (K.sec (K.expr T 11 (K.newName T (K.step T τ))).2) (R.ex T (R.fresh T (R.take T J))).1).leak=mn J.leak ((if K.sec (K.expr T 11 (K.newName T (K.step T τ))).2=true then [p]else [])++lx (K.expr T 11 (K.newName T (K.step T τ))).2):=by
        rw[leaks_leak,a.leak,fresh_leak,take_leak]
        exact lk_front hp _ _ _ a.pos
       have hlt:(R.leaks p (K.sec (K.expr T 11 (K.newName T (K.step T τ))).2) (R.ex T (R.fresh T (R.take T J))).1).i<T.length:=by rw[lc.2.2.1];exact ok.lt
       have hH:Hs (R.leaks p (K.sec (K.expr T 11 (K.newName T (K.step T τ))).2) (R.ex T (R.fresh T (R.take T J))).1) hid:=hh.next ((lc.1.trans (ok.core.trans fc.1)).trans tc.1)
       generalize R.leaks p (K.sec (K.expr T 11 (K.newName T (K.step T τ))).2) (R.ex T (R.fresh T (R.take T J))).1=J3 at*
       have hN:SameN ⟨R.freshS T (R.take T J),3,false,J.loops,0⟩ n:=by
        rw[hc]
        refine⟨?_,rfl,(by decide:(0:Int)<=2),(by decide:(2:Int)<=2),rfl,rfl⟩
        show R.freshS T (R.take T J)=(tk T (K.step T τ).i).s
        unfold R.freshS
        rw[if_pos ht.e1,ht.i]
       generalize(⟨R.freshS T (R.take T J),3,false,J.loops,0⟩:Thing)=t at*
       generalize K.expr T 11 (K.newName T (K.step T τ))=E at*
       have hP:Sm (R.push t J3) (K.seeing n E.1):=⟨a1.e1,a1.e2,a1.i,a1.nest,by show J3.loops+1=E.1.loops+1;rw[a1.loops],a1.names.snoc hN⟩
       have hd:(K.seeing n E.1).depth=τ.depth:=k2.depth
       have r:=hr (R.push t J3) (K.seeing n E.1) hid hP hH hlt ⟨by rw[hd];exact d0,by rw[hd];exact d1,by rw[hd];exact dg⟩ ⟨by rw[hd];exact d0,by rw[hd];exact d1,by rw[hd];exact df⟩
       have dk:=R.does_ok hE g (J:=R.push t J3) hlt
       have kd:=K.dos_keeps T f (K.seeing n E.1)
       unfold K.body
       rcases r with⟨r1,r2,r3⟩|r
       · refine Or.inl ⟨⟨r1.e1,r1.e2,r1.i,r1.nest,?_,?_⟩,?_,pos_front hp _ (pos_app a.pos r3)⟩
         · show(R.does T g (R.push t J3)).1.loops-1=(K.dos T f (K.seeing n E.1)).1.loops-1
           rw[r1.loops]
         · show Names ((R.does T g (R.push t J3)).1.seen.dropLast) E.1.names
           rw[core_seen dk.core]
           show Names (J3.seen++[t]).dropLast _
           rw[List.dropLast_concat]
           exact a1.names
         · show(R.does T g (R.push t J3)).1.leak=_
           rw[r2,<-List.append_assoc,mn_app]
           show mn J3.leak _=_
           rw[hl3]
       · exact Or.inr ⟨r.e1,r.e2,r.p⟩
     · exact Or.inr (body_dd (dd_leaks a _ _) _ _)
   · exact Or.inr (body_dd (dd_leaks (ex_dead a0) _ _) _ _)
theorem isW_eq{l:List UInt8}{t:Tok}:K.isW l t=true↔t.s.toList=l:=by unfold K.isW;exact beq_iff_eq
theorem word_eqv{s:ByteArray}{T:List Tok}(hS:Scans s T)(hE:R.Ended T){g f:Nat}(hr:RecD T g f){J:PS}{τ:S}{hid:Bool}(h:Sm J τ)(hh:Hs J hid)(hi:J.i<T.length)(d0:0<=τ.depth)(d1:τ.depth<=10)(dg:11-τ.depth<=(g:Int))(df:11-τ.depth<=(f:Int)){p:Int}(hp:0<=p):
 DA J (R.doWord T (R.does T g) p (tk T J.i) (R.take T J)).s (K.doX T (K.dos T f) p τ).1 (ld hid (K.doX T (K.dos T f) p τ).2):=by
 unfold R.doWord K.doX
 rw[<-h.i]
 by_cases e1:(tk T J.i).s.toList=R.kSet
 · rw[if_pos e1,if_pos (c:=K.isW [115,101,116] (tk T J.i)=true) (isW_eq.mpr e1)]
   exact set_eqv hS hE h hh hi d0 d1 hp
 rw[if_neg e1,if_neg (c:=K.isW [115,101,116] (tk T J.i)=true) (λc=>e1 (isW_eq.mp c))]
 by_cases e2:(tk T J.i).s.toList=R.kPut
 · rw[if_pos e2,if_pos (c:=K.isW [112,117,116] (tk T J.i)=true) (isW_eq.mpr e2)]
   exact put_eqv hS hE h hh hi d0 d1 hp
 rw[if_neg e2,if_neg (c:=K.isW [112,117,116] (tk T J.i)=true) (λc=>e2 (isW_eq.mp c))]
 by_cases e3:(tk T J.i).s.toList=R.kIf
 · rw[if_pos e3,if_pos (c:=K.isW [105,102] (tk T J.i)=true) (isW_eq.mpr e3)]
   exact if_eqv hS hE hr h hh hi d0 d1 (by omega) (by omega) p
 rw[if_neg e3,if_neg (c:=K.isW [105,102] (tk T J.i)=true) (λc=>e3 (isW_eq.mp c))]
 by_cases e4:(tk T J.i).s.toList=R.kFor
 · rw[if_pos e4,if_pos (c:=K.isW [102,111,114] (tk T J.i)=true) (isW_eq.mpr e4)]
   exact for_eqv hS hE hr h hh hi d0 d1 dg df hp _ rfl
 rw[if_neg e4,if_neg (c:=K.isW [102,111,114] (tk T J.i)=true) (λc=>e4 (isW_eq.mp c))]
 right
 unfold K.here
 rw[<-h.i]
 exact fail_dd ((rtake_err T J).trans h.e1) h.e2 (by decide) T _
theorem do_eqv{s:ByteArray}{T:List Tok}(hS:Scans s T)(hE:R.Ended T){g f:Nat}(hr:RecD T g f){J:PS}{τ:S}{hid:Bool}(h:Sm J τ)(hh:Hs J hid)(hi:J.i<T.length)(dg:Lv (g+1) τ)(df:Lv (f+1) τ):
 DA J (R.doF T (g+1) J).1 (K.brkDo T (K.doF T (f+1)) τ).1 (ld hid (K.brkDo T (K.doF T (f+1)) τ).2):=by
 show DA J (R.doB T (R.does T g) J).1 (K.closed T (K.doX T (K.dos T f) (tk T τ.i).p (K.opened T τ)).1) (ld hid (K.doX T (K.dos T f) (tk T τ.i).p (K.opened T τ)).2)
 unfold R.doB
 rw[<-h.i]
 have oc:=R.opens_core T J
 have ti:=R.take_i T J
 obtain⟨d0,d1,dg⟩:=dg
 obtain⟨_,_,df⟩:=df
 rcases opens_eqv T h with o |o
 · rw[if_pos o.e1]
   have lg:=opens_lv (f:=g+1) o h d0 d1 (by omega)
   have ed:=K.opened_depth T τ
   have w:=word_eqv hS hE hr o (hh.next oc.1) (by rw[oc.2.2.1];exact ti.2.2.2 hi) lg.1 lg.2.1 (by omega) (by omega) (pos_tok hS hi)
   rcases shut_da (T:=T) w with⟨w1,w2,w3⟩|w
   · exact Or.inl ⟨sm_add w1 _,w2.trans (by rw[opens_leak]),w3⟩
   · exact Or.inr (dd_add w _)
 · rw[if_neg o.e1]
   exact Or.inr ((o.next (λ_=>⟨rfl,rfl⟩) (doX_kd (dos_kd T f) _ _)).next (λ_=>⟨rfl,rfl⟩) (closed_kd T _))
theorem dosL_pre(T:List Tok)(d:Int->S->S×Do)(m:Nat):∀(τ:S) (l:List Do),∃M,(K.dosL T d m τ l).2=l++M:=by
 induction m with
 |zero=>intro τ l;exact⟨[],by simp[K.dosL]⟩
 |succ m ih=>
  intro τ l
  rw[K.dosL]
  split
  · obtain⟨M,e⟩:=ih (K.brkDo T d τ).1 (l++[(K.brkDo T d τ).2])
    exact⟨(K.brkDo T d τ).2::M,by rw[e];simp⟩
  · exact⟨[],by simp⟩
theorem dosL_eqv{s:ByteArray}{T:List Tok}(hS:Scans s T)(hE:R.Ended T){g f:Nat}(hr:RecD T g f){hid:Bool}(m:Nat):∀(J:PS) (τ:S) (L:List Int) (l:List Do),Sm J τ->Hs J hid->J.i<T.length->Lv (g+1) τ->Lv (f+1) τ→
 ∃M,(K.dosL T (K.doF T (f+1)) m τ l).2=l++M/\DA J (R.doesL T (R.doF T (g+1)) m J L).1 (K.dosL T (K.doF T (f+1)) m τ l).1 (lds hid M):=by
 induction m with
 |zero=>intro J τ L l h _ _ _ _;exact⟨[],by simp[K.dosL],Or.inl ⟨h,rfl,λq hq=>by simp[lds]at hq⟩⟩
 |succ m ih=>
  intro J τ L l h hh hi dg df
  rw[R.doesL,K.dosL,<-h.i]
  by_cases e:(tk T J.i).s.toList=[40]
  · rw[if_pos (c:=J.err=0/\(tk T J.i).s.toList=[40]) ⟨h.e1,e⟩,if_pos (c:=K.isW [40] (tk T J.i)=true) (isW_eq.mpr e)]
    have ok:=R.doF_ok hE (g+1) J hi
    have kk:K.Keeps τ (K.brkDo T (K.doF T (f+1)) τ).1:=K.closed_keeps (K.doX_keeps (λJ=>K.dos_keeps T f J) _ _)
    rcases do_eqv hS hE hr h hh hi dg df with⟨a1,a2,a3⟩|a
    · obtain⟨M,e1,e2⟩:=ih (R.doF T (g+1) J).1 (K.brkDo T (K.doF T (f+1)) τ).1 (L++[(R.doF T (g+1) J).2]) (l++[(K.brkDo T (K.doF T (f+1)) τ).2]) a1 (hh.next ok.core) ok.lt (by unfold Lv;rw[kk.depth];exact dg) (by unfold Lv;rw[kk.depth];exact df)
      refine⟨(K.brkDo T (K.doF T (f+1)) τ).2::M,by rw[e1];simp,?_⟩
      rcases e2 with⟨b1,b2,b3⟩|b
      · refine Or.inl ⟨b1,?_,?_⟩
        · rw[b2,a2,lds,mn_app]
        · rw[lds];exact pos_app a3 b3
      · exact Or.inr b
    · obtain⟨M,e1⟩:=dosL_pre T (K.doF T (f+1)) m (K.brkDo T (K.doF T (f+1)) τ).1 (l++[(K.brkDo T (K.doF T (f+1)) τ).2])
      refine⟨(K.brkDo T (K.doF T (f+1)) τ).2::M,by rw[e1];simp,Or.inr ?_⟩
      rw[R.doesL_dead _ _ _ _ _ a.e1]
      exact a.next (λ_=>⟨rfl,rfl⟩) (dosL_kd (doF_kd T (f+1)) m _ _)
  · rw[if_neg (c:=J.err=0/\(tk T J.i).s.toList=[40]) (λc=>e c.2),if_neg (c:=K.isW [40] (tk T J.i)=true) (λc=>e (isW_eq.mp c))]
    exact⟨[],by simp,Or.inl ⟨h,rfl,λq hq=>by simp[lds]at hq⟩⟩
theorem dos_eqv{s:ByteArray}{T:List Tok}(hS:Scans s T)(hE:R.Ended T)(f:Nat):∀g,RecD T g f:=by
 induction f with
 |zero=>intro g J τ hid _ _ _ _ df;obtain⟨_,_,_⟩:=df;omega
 |succ f ih=>
  intro g J τ hid h hh hi dg df
  obtain⟨g,rfl⟩:∃k,g=k+1:=⟨g-1,by obtain⟨_,_,_⟩:=dg;omega⟩
  obtain⟨M,e1,e2⟩:=dosL_eqv hS hE (ih g) (hid:=hid) T.length J τ [] [] h hh hi dg df
  show DA J (R.doesL T (R.doF T (g+1)) T.length J []).1 (K.dosL T (K.doF T (f+1)) T.length τ []).1 (lds hid (K.dosL T (K.doF T (f+1)) T.length τ []).2)
  rw[e1]
  exact e2
theorem size_val{s:ByteArray}(h:R.isSize s=true):K.val s=((R.byteAt s 0).toNat:Int)-48:=by
 unfold R.isSize at h
 rw[Bool.and_eq_true,decide_eq_true_eq,decide_eq_true_eq]at h
 obtain⟨h1,h2,h3⟩:=h
 obtain⟨c,hc,hb⟩:=one_byte h1
 unfold K.val
 rw[hc,hb]
 rw[hb]at h2 h3
 have:c=49∨c=50∨c=51∨c=52∨c=53∨c=54:=by
  have:c.toNat=49∨c.toNat=50∨c.toNat=51∨c.toNat=52∨c.toNat=53∨c.toNat=54:=by omega
  rcases this with e |e |e |e |e |e
  · exact Or.inl (UInt8.toNat_inj.mp e)
  · exact Or.inr (Or.inl (UInt8.toNat_inj.mp e))
  · exact Or.inr (Or.inr (Or.inl (UInt8.toNat_inj.mp e)))
  · exact Or.inr (Or.inr (Or.inr (Or.inl (UInt8.toNat_inj.mp e))))
  · exact Or.inr (Or.inr (Or.inr (Or.inr (Or.inl (UInt8.toNat_inj.mp e)))))
  · exact Or.inr (Or.inr (Or.inr (Or.inr (Or.inr (UInt8.toNat_inj.mp e)))))
 rcases this with e |e |e |e |e |e<;>subst e<;>decide
theorem array_kd(T:List Tok)(τ:S):KD τ (K.array T τ):=(((step_kd T τ).trans (take_kd T _ _)).trans (newName_kd T _)).trans (take_kd T _ _)
theorem dec0_kd(T:List Tok)(p:Int)(τ:S):KD τ (K.dec0 T p τ):=by
 unfold K.dec0;split
 · exact fail_kd T _ _ _
 · exact KD.rfl' τ
theorem dec2_kd(T:List Tok)(τ:S):KD τ (K.dec2 T τ):=(take_kd T _ τ).trans (newName_kd T _)
theorem decl_kd(T:List Tok)(p:Int)(τ:S):KD τ (K.decl T p τ):=by
 unfold K.decl;split
 · exact(dec0_kd T p τ).trans (array_kd T _)
 · exact(dec0_kd T p τ).trans (dec2_kd T _)
theorem dcl_kd(T:List Tok)(τ:S):KD τ (K.dcl T τ):=((opened_kd T τ).trans (decl_kd T _ _)).trans (closed_kd T _)
theorem declsL_kd(T:List Tok)(n:Nat):∀τ,KD τ (K.declsL T n τ):=by
 induction n with
 |zero=>intro τ;exact KD.rfl' τ
 |succ n ih=>
  intro τ
  rw[K.declsL]
  split
  · exact(λe=>(dcl_kd T τ).trans (λe'=>ih (K.adds (K.dclN T τ) (K.dcl T τ)) e') e)
  · exact KD.rfl' τ
theorem Names.length{l:List Thing}{m:List Nm}(h:Names l m):l.length=m.length:=h.len
theorem sm_added{A:PS}{B:S}{t:Thing}{n:Nm}(h:Sm A B)(hn:SameN t n):Sm (R.added t A) (K.adds n B):=⟨h.e1,h.e2,h.i,h.nest,h.loops,h.names.snoc hn⟩
theorem dd_added{A:PS}{B:S}(t:Thing)(n:Nm)(h:Dd A B):Dd (R.added t A) (K.adds n B):=⟨h.e1,h.e2,h.p⟩
theorem dd_adds{A:PS}{B:S}(n:Nm)(h:Dd A B):Dd A (K.adds n B):=⟨h.e1,h.e2,h.p⟩
theorem shut_dd{T:List Tok}{A:PS}{B:S}(h:Dd A B):Dd (R.shut T A) (K.closed T B):=by
 rcases shut_da (T:=T) (J:=A) (L:=[]) (Or.inr h)with s |s
 · exfalso
   have e:=s.1.e2
   have k:=closed_kd T B (by rw[h.e2];exact h.e1)
   rw[k.1,h.e2]at e
   exact h.e1 e
 · exact s
theorem fresh_dd{T:List Tok}{A:PS}{B:S}(h:Dd A B):Dd (R.fresh T A) (K.newName T B):=by
 have e:R.fresh T A=A:=by unfold R.fresh;rw[if_neg h.e1]
 rw[e]
 exact h.next (λ_=>⟨rfl,rfl⟩) (newName_kd T B)
theorem dword_eqv{T:List Tok}{J:PS}{τ:S}(h:Sm J τ)(ha:¬(tk T J.i).s.toList=R.kArray)(hd:R.isDecl (tk T J.i).s.toList=true)(n:Nm)(hn:n=⟨(tk T (K.dec1 T τ).i).s,0,(tk T τ.i).s.toList==[115,101,99,114,101,116],1,τ.words⟩):
 (Sm (R.declIn T J) (K.adds n (K.closed T (K.dec2 T τ)))/\(R.declIn T J).leak=J.leak)∨Dd (R.declIn T J) (K.adds n (K.closed T (K.dec2 T τ))):=by
 have ht:=take_sm T h
 have e1:K.dec1 T τ=K.step T τ:=by
  unfold K.dec1
  refine take_yes ?_
  rw[<-h.i]
  unfold R.isDecl at hd
  unfold K.isSec
  have:((tk T J.i).s.toList==R.kArray)=false:=beq_no ha
  rw[this,Bool.or_false]at hd
  exact hd
 unfold R.declIn R.dHead
 rw[if_neg ha]
 dsimp only
 unfold R.dSize
 rw[if_neg (c:=(1:Int)=2/\_) (λc=>absurd c.1 (by decide))]
 dsimp only
 unfold K.dec2
 rw[e1]
 rw[e1]at hn
 rcases fresh_eqv T ht with a |a
 · rcases shut_eqv T (Or.inl a)with b |b
   · refine Or.inl ⟨sm_added b ?_,?_⟩
     · rw[hn]
       refine⟨?_,rfl,(by decide:(0:Int)<=0),(by decide:(0:Int)<=2),?_,rfl⟩
       · show R.freshS T (R.take T J)=(tk T (K.step T τ).i).s
         unfold R.freshS
         rw[if_pos ht.e1,ht.i]
       · show((tk T J.i).s.toList==R.kSecret)=_
         rw[h.i];rfl
     · show(R.shut T (R.fresh T (R.take T J))).leak=_
       rw[shut_leak,fresh_leak,take_leak]
   · exact Or.inr (dd_added _ _ b)
 · exact Or.inr (dd_added _ _ (shut_dd a))
theorem darr_eqv{T:List Tok}{J:PS}{τ:S}(h:Sm J τ)(ha:(tk T J.i).s.toList=R.kArray):
 (Sm (R.declIn T J) (K.adds (K.arrayN T τ) (K.closed T (K.array T τ)))/\(R.declIn T J).leak=J.leak)∨Dd (R.declIn T J) (K.adds (K.arrayN T τ) (K.closed T (K.array T τ))):=by
 have ht:=take_sm T h
 unfold R.declIn R.dHead
 rw[if_pos ha]
 dsimp only
 have hi1:(R.take T J).i=(K.arrS1 T τ).i:=ht.i
 by_cases e1:(tk T (R.take T J).i).s.toList=R.kPublic∨(tk T (R.take T J).i).s.toList=R.kSecret
 · rw[if_pos e1]
   have s2:K.arrS2 T τ=K.step T (K.step T τ):=by
    unfold K.arrS2
    refine take_yes ?_
    rw[<-hi1]
    unfold K.isSec
    rw[Bool.or_eq_true,beq_iff_eq,beq_iff_eq]
    exact e1
   have h2:Sm (R.take T (R.take T J)) (K.arrS2 T τ):=by rw[s2];exact take_sm T ht
   rcases fresh_eqv T h2 with a |a
   · have a':Sm (R.fresh T (R.take T (R.take T J))) (K.arrS3 T τ):=a
     unfold R.dSize
     rw[if_pos (c:=(2:Int)=2/\_) ⟨rfl,a'.e1⟩]
     by_cases e2:R.isSize (tk T (R.fresh T (R.take T (R.take T J))).i).s=true
     · rw[if_pos e2]
       dsimp only
       have e3:K.array T τ=K.step T (K.arrS3 T τ):=by
        unfold K.array
        exact take_yes (by rw[<-a'.i];exact e2)
       rw[e3]
       rcases shut_eqv T (Or.inl (take_sm T a'))with b |b
       · refine Or.inl ⟨sm_added b ?_,?_⟩
         · refine⟨?_,rfl,(by decide:(0:Int)<=1),(by decide:(1:Int)<=2),?_,?_⟩
           · show R.freshS T (R.take T (R.take T J))=(tk T (K.arrS2 T τ).i).s
             unfold R.freshS
             rw[if_pos h2.e1,h2.i]
           · show((tk T (R.take T J).i).s.toList==R.kSecret)=_
             rw[hi1];rfl
           · show _=K.val (tk T (K.arrS3 T τ).i).s
             rw[<-a'.i,size_val e2]
         · show(R.shut T (R.take T (R.fresh T (R.take T (R.take T J))))).leak=_
           rw[shut_leak,take_leak,fresh_leak,take_leak,take_leak]
       · exact Or.inr (dd_added _ _ b)
     · rw[if_neg e2]
       dsimp only
       right
       have d:Dd (R.fail 2 (tk T (R.fresh T (R.take T (R.take T J))).i).p (R.take T (R.fresh T (R.take T (R.take T J))))) (K.array T τ):=by
        unfold K.array
        rw[take_no (by rw[<-a'.i];exact e2),a'.i]
        exact fail_dd ((rtake_err T _).trans a'.e1) a'.e2 (by decide) T _
       exact dd_adds _ (d.next (λ_=>⟨rfl,rfl⟩) (closed_kd T _))
   · right
     unfold R.dSize
     rw[if_neg (c:=(2:Int)=2/\_) (λc=>a.e1 c.2)]
     dsimp only
     exact dd_added _ _ (shut_dd (a.next (λ_=>⟨rfl,rfl⟩) (take_kd T _ _)))
 · rw[if_neg e1]
   right
   have d:Dd (R.fail 2 (tk T (R.take T J).i).p (R.take T (R.take T J))) (K.arrS2 T τ):=by
    unfold K.arrS2
    rw[take_no (by
     rw[<-hi1]
     unfold K.isSec
     rw[Bool.or_eq_true,beq_iff_eq,beq_iff_eq]
     exact e1),hi1]
    exact fail_dd ((rtake_err T _).trans ht.e1) ht.e2 (by decide) T _
   have a:=fresh_dd (T:=T) d
   unfold R.dSize
   rw[if_neg (c:=(2:Int)=2/\_) (λc=>a.e1 c.2)]
   dsimp only
   exact dd_added _ _ (shut_dd (a.next (λ_=>⟨rfl,rfl⟩) (take_kd T _ _)))
theorem decl_eqv{T:List Tok}(hE:R.Ended T){k:Nat}{J:PS}{τ:S}(h:Sm J τ)(hb:R.DB k J)(hi:J.i<T.length)(e40:(tk T J.i).s.toList=[40])(hd:R.isDecl (tk T (J.i+1)).s.toList=true):
 (Sm (R.decl T J) (K.adds (K.dclN T τ) (K.dcl T τ))/\(R.decl T J).leak=J.leak)∨Dd (R.decl T J) (K.adds (K.dclN T τ) (K.dcl T τ)):=by
 have oc:=R.opens_core T J
 have hil:J.i+1<T.length:=R.ended_lt hE hi (R.ne_of_list e40 (by decide))
 have ei:(R.opens T J).i=J.i+1:=by rw[oc.2.2.1];exact(R.take_i T J).2.2.1 hil
 unfold R.decl K.dcl K.dclN
 rw[<-h.i]
 rcases opens_eqv T h with o |o
 · have hn:(R.opens T J).names=J.names:=congrArg (λc=>c.2.1) oc.1
   have hk:((K.opened T τ).names.length:Int)=J.names:=by
    rw[<-o.names.len,core_seen oc.1,hb.seen,hb.names]
   by_cases e8:(R.opens T J).names=8
   · right
     rw[if_pos e8]
     have h8:(K.opened T τ).names.length=8:=by omega
     refine dd_adds _ ?_
     have d:Dd (R.fail 5 (tk T J.i).p (R.opens T J)) (K.dec0 T (tk T J.i).p (K.opened T τ)):=by
      unfold K.dec0
      rw[if_pos h8]
      exact fail_dd o.e1 o.e2 (by decide) T _
     have d2:KD (K.dec0 T (tk T J.i).p (K.opened T τ)) (K.decl T (tk T J.i).p (K.opened T τ)):=by
      unfold K.decl;split
      · exact array_kd T _
      · exact dec2_kd T _
     exact(d.next (λ_=>⟨rfl,rfl⟩) d2).next (λ_=>⟨rfl,rfl⟩) (closed_kd T _)
   · rw[if_neg e8]
     have h8:¬(K.opened T τ).names.length=8:=by omega
     have e0:K.dec0 T (tk T J.i).p (K.opened T τ)=K.opened T τ:=by unfold K.dec0;rw[if_neg h8]
     unfold K.decl K.declN
     rw[e0,<-o.i]
     have ol:=opens_leak T J
     by_cases ha:(tk T (R.opens T J).i).s.toList=R.kArray
     · have ha':K.isArr (tk T (R.opens T J).i)=true:=by unfold K.isArr;exact beq_iff_eq.mpr ha
       rw[if_pos ha',if_pos ha']
       have r:=darr_eqv o ha
       rw[ol]at r
       exact r
     · have ha':¬K.isArr (tk T (R.opens T J).i)=true:=by unfold K.isArr;exact λc=>ha (beq_iff_eq.mp c)
       rw[if_neg ha',if_neg ha']
       have r:=dword_eqv o ha (by rw[ei];exact hd) ⟨(tk T (K.dec1 T (K.opened T τ)).i).s,0,(tk T (K.opened T τ).i).s.toList==[115,101,99,114,101,116],1,(K.opened T τ).words⟩ rfl
       rw[ol,<-o.i]at r
       exact r
 · exfalso
   have hn:J.nest=0:=hb.nest
   have e:(R.opens T J).err=0:=by
    unfold R.opens R.open1 R.want
    rw[if_pos e40]
    rw[hn,if_neg (by decide)]
    exact(rtake_err T J).trans h.e1
   exact o.e1 e
theorem decls_eqv{T:List Tok}(hE:R.Ended T)(n:Nat):∀(m k:Nat) (J:PS) (τ:S),Sm J τ->R.DB k J->k+m=9->k<=8->J.i<T.length->T.length-J.i<=n->J.leak= -1→
 (Sm (R.decls T m J) (K.declsL T n τ)/\(R.decls T m J).leak= -1/\(∃k,R.DB k (R.decls T m J))/\(R.decls T m J).i<T.length)∨Dd (R.decls T m J) (K.declsL T n τ):=by
 induction n with
 |zero=>intro m k J τ _ _ _ _ hi hn _;omega
 |succ n ih=>
  intro m k J τ h hb hk h8 hi hn hl
  obtain⟨m,rfl⟩:∃j,m=j+1:=⟨m-1,by omega⟩
  rw[R.decls,K.declsL]
  by_cases e40:(tk T J.i).s.toList=[40]
  · have hil:J.i+1<T.length:=R.ended_lt hE hi (R.ne_of_list e40 (by decide))
    have hnx:K.nx T τ.i=J.i+1:=by unfold K.nx;rw[<-h.i,if_pos hil]
    by_cases ed:R.isDecl (tk T (J.i+1)).s.toList=true
    · have ek:K.isDcl T τ=true:=by
       unfold K.isDcl
       rw[hnx,ed,<-h.i,isW_eq.mpr e40]
       rfl
      rw[if_pos (c:=J.err=0/\_) ⟨h.e1,e40,ed⟩,if_pos ek]
      have ov:τ.i+1<=(K.dcl T τ).i:=K.dcl_over (by rw[<-h.i];exact hil) (by rw[<-h.i];exact isW_eq.mpr e40)
      rcases decl_eqv hE h hb hi e40 ed with⟨a1,a2⟩|a
      · obtain⟨b1,b2⟩:=R.decl_db hb h8 a1.e1
        have ai:(R.decl T J).i=(K.dcl T τ).i:=a1.i
        have fw:(K.dcl T τ).i<T.length:=(((K.opened_fwd T τ).trans ((K.decl_fwd T _ _).trans (K.closed_fwd T _))) (by rw[<-h.i];exact hi)).2
        have hi':=h.i
        exact ih m (k+1) (R.decl T J) _ a1 b2 (by omega) (by omega) (by omega) (by omega) (a2.trans hl)
      · right
        have:R.decls T m (R.decl T J)=R.decl T J:=R.decls_stop (λc=>a.e1 c.1)
        rw[this]
        exact a.next (λ_=>⟨rfl,rfl⟩) (declsL_kd T n _)
    · have ek:¬K.isDcl T τ=true:=by
       unfold K.isDcl
       rw[hnx]
       intro c
       rw[Bool.and_eq_true]at c
       exact ed c.2
      rw[if_neg (c:=J.err=0/\_) (λc=>ed c.2.2),if_neg ek]
      exact Or.inl ⟨h,hl,⟨k,hb⟩,hi⟩
  · have ek:¬K.isDcl T τ=true:=by
     unfold K.isDcl
     intro c
     rw[Bool.and_eq_true,<-h.i]at c
     exact e40 (isW_eq.mp c.1)
    rw[if_neg (c:=J.err=0/\_) (λc=>e40 c.2.1),if_neg ek]
    exact Or.inl ⟨h,hl,⟨k,hb⟩,hi⟩
def early(T:List Tok):PS:=R.behind T (R.done (R.does T 12 (R.decls T 9 R.start)).2 (R.does T 12 (R.decls T 9 R.start)).1)
theorem start_sm:Sm R.start K.start:=⟨rfl,rfl,rfl,rfl,rfl,trivial⟩
theorem prog_eqv{s:ByteArray}{T:List Tok}(hS:Scans s T)(hE:R.Ended T)(h0:0<T.length):
 (Sm (early T) (K.progS T)/\(early T).leak=mn (-1) (lds false (K.progD T))/\∀q∈lds false (K.progD T),0<=q)∨Dd (early T) (K.progS T):=by
 unfold early K.progS K.progD K.prog0
 have hd:=decls_eqv hE T.length 9 0 R.start K.start start_sm R.start_db (by omega) (by omega) h0 (by omega) rfl
 generalize R.decls T 9 R.start=A at*
 generalize K.declsL T T.length K.start=B at*
 have fin:∀{A:PS} {B:S} {L:List Int} (l:List Int),(Sm A B/\A.leak=mn (-1) L/\∀q∈L,0<=q)∨Dd A B->(Sm (R.behind T (R.done l A)) (K.expect T [] B)/\(R.behind T (R.done l A)).leak=mn (-1) L/\∀q∈L,0<=q)∨Dd (R.behind T (R.done l A)) (K.expect T [] B):=by
  intro A B L l h
  rcases h with⟨h1,h2,h3⟩|h
  · have h1':Sm (R.done l A) B:=⟨h1.e1,h1.e2,h1.i,h1.nest,h1.loops,h1.names⟩
    have e:R.behind T (R.done l A)=R.want T [] (R.done l A):=by unfold R.behind;rw[if_pos h1'.e1]
    rw[e]
    rcases want_eqv T [] h1' with w |w
    · exact Or.inl ⟨w,by rw[want_leak];exact h2,h3⟩
    · exact Or.inr w
  · have h':Dd (R.done l A) B:=⟨h.e1,h.e2,h.p⟩
    have e:R.behind T (R.done l A)=R.done l A:=by unfold R.behind;rw[if_neg h'.e1]
    rw[e]
    exact Or.inr (h'.next (λ_=>⟨rfl,rfl⟩) (take_kd T _ _))
 rcases hd with⟨d1,d2,⟨k,d3⟩,d4⟩|d
 · have e0:B.depth=0:=by rw[<-d1.nest];exact d3.nest
   have hH:Hs A false:=⟨by rw[d3.rest.2];decide,by rw[d3.rest.2];decide⟩
   have r:=dos_eqv hS hE 11 12 A B false d1 hH d4 ⟨by omega,by omega,by omega⟩ ⟨by omega,by omega,by omega⟩
   unfold DA at r
   rw[d2]at r
   exact fin _ r
 · refine fin (L:=lds false (K.dos T 11 B).2) _ (Or.inr ?_)
   rw[R.does_dead T 12 d.e1]
   exact d.next (λ_=>⟨rfl,rfl⟩) (dos_kd T 11 B)
theorem readT_early(T:List Tok):R.readT T=R.last (early T):=rfl
def fst(L:List Int)(g:K.GS):K.GS:=if g.2=true then g else match L with |[]=>g |p::_=>(p,true)
theorem fst_app(L M:List Int)(g:K.GS):fst (L++M) g=fst M (fst L g):=by
 obtain⟨p,b⟩:=g
 cases b with
 |true=>rfl
 |false=>cases L with
  |nil=>rfl
  |cons a L=>rfl
theorem fst_nil(g:K.GS):fst [] g=g:=by unfold fst;split<;>rfl
theorem note_fst(p:Int)(b:Bool)(g:K.GS):K.note p b g=fst (if b=true then [p]else []) g:=by
 obtain⟨q,c⟩:=g
 cases b<;>cases c<;>rfl
theorem gx_fst:∀(e:Ex) (g:K.GS),K.gx e g=fst (lx e) g
 |.get p n e,g=>by rw[K.gx,lx,fst_app,gx_fst e,note_fst]
 |.op p o l r,g=>by rw[K.gx,lx,fst_app,fst_app,gx_fst r,gx_fst l,note_fst]
 |.cho p q y n,g=>by rw[K.gx,lx,fst_app,fst_app,gx_fst n,gx_fst y,gx_fst q]
 |.num ..,g=>(fst_nil g).symm
 |.use ..,g=>(fst_nil g).symm
 |.none,g=>(fst_nil g).symm
mutual
theorem gd_fst(hid:Bool):∀(d:Do) (g:K.GS),K.gd hid d g=fst (ld hid d) g
 |.set p n e,g=>by rw[K.gd,ld,fst_app,gx_fst,note_fst]
 |.put p n i e,g=>by rw[K.gd,ld,fst_app,fst_app,gx_fst,gx_fst,note_fst]
 |.ifs p q y n,g=>by rw[K.gd,ld,fst_app,fst_app,gds_fst _ n,gds_fst _ y,gx_fst]
 |.fors p m r l,g=>by rw[K.gd,ld,fst_app,fst_app,gds_fst _ l,gx_fst,note_fst]
 |.none,g=>by rw[K.gd,ld,fst_nil]
theorem gds_fst(hid:Bool):∀(l:List Do) (g:K.GS),K.gds hid l g=fst (lds hid l) g
 |[],g=>by rw[K.gds,lds,fst_nil]
 |d::l,g=>by rw[K.gds,lds,fst_app,gds_fst hid l,gd_fst hid d]
end
theorem mn_first:∀(L:List Int) (p:Int),0<=p->(∀q∈L,p<=q)->mn p L=p
 |[],_,_,_=>rfl
 |q::L,p,hp,h=>by
  show mn (lk p q) L=p
  have:lk p q=p:=by
   have:=h q List.mem_cons_self
   unfold lk
   rw[if_neg (by omega)]
  rw[this]
  exact mn_first L p hp (λr hr=>h r (List.mem_cons_of_mem _ hr))
def Grow(T:List Tok):Prop:=∀i j,i<=j->j<T.length->(tk T i).p<=(tk T j).p
structure Rg(T:List Tok)(i j:Nat)(L:List Int):Prop where
 le:i<=j
 lt:j<T.length
 all:∀q∈L,(tk T i).p<=q/\q<=(tk T j).p
 fst:∀p M,L=p::M->∀q∈M,p<=q
theorem Rg.nil{T:List Tok}{i j:Nat}(h:i<=j/\j<T.length):Rg T i j []:=⟨h.1,h.2,λq hq=>by simp at hq,λp M e=>by simp at e⟩
theorem Rg.one{T:List Tok}{i:Nat}(h:i<T.length)(b:Bool):Rg T i i (if b=true then [(tk T i).p]else []):=by
 cases b with
 |false=>exact Rg.nil ⟨Nat.le_refl _,h⟩
 |true=>
  refine⟨Nat.le_refl _,h,λq hq=>?_,λp M e q hq=>?_⟩
  · have:q=(tk T i).p:=by simpa using hq
    omega
  · have:M=[]:=by simpa using(List.cons.inj e).2.symm
    rw[this]at hq
    simp at hq
theorem Rg.app{T:List Tok}(hG:Grow T){i j k:Nat}{A B:List Int}(h:Rg T i j A)(g:Rg T j k B):Rg T i k (A++B):=by
 have g1:=hG i j h.le h.lt
 have g2:=hG j k g.le g.lt
 refine⟨Nat.le_trans h.le g.le,g.lt,λq hq=>?_,λp M e q hq=>?_⟩
 · rw[List.mem_append]at hq
   rcases hq with hq |hq
   · have:=h.all q hq;omega
   · have:=g.all q hq;omega
 · cases A with
   |nil=>exact g.fst p M e q hq
   |cons a A=>
    have e':=List.cons.inj e
    obtain⟨rfl,rfl⟩:=e'
    have hq:q∈A++B:=hq
    rw[List.mem_append]at hq
    rcases hq with hq |hq
    · exact h.fst a A rfl q hq
    · have:=h.all a List.mem_cons_self
      have:=g.all q hq
      omega
theorem Rg.pre{T:List Tok}(hG:Grow T){i j k:Nat}{L:List Int}(h:i<=j/\j<T.length)(g:Rg T j k L):Rg T i k L:=(Rg.nil h).app hG g
theorem Rg.post{T:List Tok}(hG:Grow T){i j k:Nat}{L:List Int}(g:Rg T i j L)(h:j<=k/\k<T.length):Rg T i k L:=by
 have:=g.app hG (Rg.nil h)
 rw[List.append_nil]at this
 exact this
def ExR(T:List Tok)(ex:S->S×Ex):Prop:=∀τ,τ.i<T.length->Rg T τ.i (ex τ).1.i (lx (ex τ).2)
theorem comp_rg{T:List Tok}(hG:Grow T){ex:S->S×Ex}(h:ExR T ex){i0:Nat}{τ:S}(h0:i0<=τ.i)(hi:τ.i<T.length):Rg T i0 (K.comp T ex (tk T i0).p τ).1.i (lx (K.comp T ex (tk T i0).p τ).2):=by
 have p1:=λb=>Rg.one (T:=T) (i:=i0) (by omega) b
 unfold K.comp
 split
 · have f:=((K.step_fwd T τ).trans (K.known_fwd T K.hasWords _)) hi
   exact(p1 _).app hG (Rg.pre hG ⟨Nat.le_trans h0 f.1,f.2⟩ (h _ f.2))
 · split
   · have f:=K.step_fwd T τ hi
     have a:=h _ f.2
     have b:=h _ a.lt
     have c:=h _ b.lt
     exact Rg.pre hG ⟨Nat.le_trans h0 f.1,f.2⟩ (a.app hG (b.app hG c))
   · split
     · have f:=K.take_fwd T K.isOpS τ hi
       have a:=h _ f.2
       have b:=h _ a.lt
       exact(p1 _).app hG (Rg.pre hG ⟨Nat.le_trans h0 f.1,f.2⟩ (a.app hG b))
     · have f:=K.fail_fwd T 2 (tk T τ.i).p τ hi
       exact Rg.nil ⟨Nat.le_trans h0 f.1,f.2⟩
theorem expr_rg{T:List Tok}(hG:Grow T)(f:Nat):ExR T (K.expr T f):=by
 induction f with
 |zero=>intro τ hi;exact Rg.nil ⟨Nat.le_refl _,hi⟩
 |succ f ih=>
  intro τ hi
  rw[K.expr]
  unfold K.exB
  split
  · have o:=K.opened_fwd T τ hi
    have c:=comp_rg hG ih o.1 o.2
    exact c.post hG (K.closed_fwd T _ c.lt)
  · split
    · exact Rg.nil (K.take_fwd T K.isNum τ hi)
    · exact Rg.nil (K.known_fwd T K.canRead τ hi)
def DsR(T:List Tok)(dos:S->S×List Do):Prop:=∀τ hid,τ.i<T.length->Rg T τ.i (dos τ).1.i (lds hid (dos τ).2)
theorem brk_rg{T:List Tok}(hG:Grow T){dos:S->S×List Do}(h:DsR T dos){τ:S}(hid:Bool)(hi:τ.i<T.length):Rg T τ.i (K.brk T dos τ).1.i (lds hid (K.brk T dos τ).2):=by
 have o:=K.opened_fwd T τ hi
 have d:=h _ hid o.2
 exact(Rg.pre hG o d).post hG (K.closed_fwd T _ d.lt)
theorem doX_rg{T:List Tok}(hG:Grow T){dos:S->S×List Do}(h:DsR T dos){i0:Nat}{τ:S}(hid:Bool)(h0:i0<=τ.i)(hi:τ.i<T.length):Rg T i0 (K.doX T dos (tk T i0).p τ).1.i (ld hid (K.doX T dos (tk T i0).p τ).2):=by
 have p1:=λb=>Rg.one (T:=T) (i:=i0) (by omega) b
 have ex:=expr_rg hG 11
 unfold K.doX
 split
 · have f:=((K.step_fwd T τ).trans (K.known_fwd T K.canSet _)) hi
   unfold K.setX
   dsimp only
   rw[ld]
   exact(p1 _).app hG (Rg.pre hG ⟨Nat.le_trans h0 f.1,f.2⟩ (ex _ f.2))
 · split
   · have f:=((K.step_fwd T τ).trans (K.known_fwd T K.hasWords _)) hi
     have a:=ex _ f.2
     have b:=ex _ a.lt
     unfold K.putX
     dsimp only
     rw[ld]
     exact(p1 _).app hG (Rg.pre hG ⟨Nat.le_trans h0 f.1,f.2⟩ (a.app hG b))
   · split
     · have f:=K.step_fwd T τ hi
       have a:=ex _ f.2
       unfold K.ifX
       dsimp only
       rw[ld]
       have b:=brk_rg hG h (hid||K.sec (K.expr T 11 (K.step T τ)).2) a.lt
       have c:=brk_rg hG h (hid||K.sec (K.expr T 11 (K.step T τ)).2) b.lt
       exact Rg.pre hG ⟨Nat.le_trans h0 f.1,f.2⟩ (a.app hG (b.app hG c))
     · split
       · have f:=(((K.loop0_fwd T τ).trans (K.step_fwd T _)).trans (K.newName_fwd T _)) hi
         have a:=ex _ f.2
         unfold K.forX
         dsimp only
         rw[ld]
         have b:=h (K.seeing (K.counter T τ) (K.expr T 11 (K.newName T (K.loop1 T τ))).1) hid a.lt
         exact(p1 _).app hG (Rg.pre hG ⟨Nat.le_trans h0 f.1,f.2⟩ (a.app hG b))
       · have f:=K.fail_fwd T 2 (tk T τ.i).p τ hi
         exact Rg.nil ⟨Nat.le_trans h0 f.1,f.2⟩
theorem dosL_rg{T:List Tok}(hG:Grow T){f:Nat}(h:DsR T (K.dos T f))(hid:Bool)(m:Nat):∀(τ:S) (l:List Do) (i0:Nat),τ.i<T.length->Rg T i0 τ.i (lds hid l)→
 Rg T i0 (K.dosL T (K.doF T (f+1)) m τ l).1.i (lds hid (K.dosL T (K.doF T (f+1)) m τ l).2):=by
 induction m with
 |zero=>intro τ l i0 _ g;exact g
 |succ m ih=>
  intro τ l i0 hi g
  rw[K.dosL]
  split
  · have o:=K.opened_fwd T τ hi
    have d:Rg T τ.i (K.doX T (K.dos T f) (tk T τ.i).p (K.opened T τ)).1.i (ld hid (K.doX T (K.dos T f) (tk T τ.i).p (K.opened T τ)).2):=doX_rg hG h hid o.1 o.2
    have d':=d.post hG (K.closed_fwd T _ d.lt)
    refine ih (K.brkDo T (K.doF T (f+1)) τ).1 _ i0 d'.lt ?_
    rw[lds_snoc]
    exact g.app hG d'
  · exact g
theorem dos_rg{T:List Tok}(hG:Grow T)(f:Nat):DsR T (K.dos T f):=by
 induction f with
 |zero=>
  intro τ hid hi
  have:∀m (τ:S) (l:List Do),τ.i<T.length->lds hid l=[]->Rg T τ.i (K.dosL T (K.doF T 0) m τ l).1.i (lds hid (K.dosL T (K.doF T 0) m τ l).2):=by
   intro m
   induction m with
   |zero=>intro τ l hi e;show Rg T τ.i τ.i (lds hid l);rw[e];exact Rg.nil ⟨Nat.le_refl _,hi⟩
   |succ m ih=>
    intro τ l hi e
    rw[K.dosL]
    split
    · have b:=K.brkDo_fwd (T:=T) (K.doF_fwd T 0) τ hi
      refine Rg.pre hG b (ih _ _ b.2 ?_)
      rw[lds_snoc,e]
      show []++ld hid .none=[]
      rw[ld];rfl
    · show Rg T τ.i τ.i (lds hid l);rw[e];exact Rg.nil ⟨Nat.le_refl _,hi⟩
  exact this _ τ [] hi (by rw[lds])
 |succ f ih=>
  intro τ hid hi
  refine dosL_rg hG ih hid T.length τ [] τ.i hi ?_
  rw[lds]
  exact Rg.nil ⟨Nat.le_refl _,hi⟩
theorem scan_ge(s:ByteArray)(i:Nat):(i:Int)<=(K.scan s i).p:=by
 show(i:Int)<=((K.runOf K.blank s i:Nat):Int)
 unfold K.runOf
 omega
theorem grow{s:ByteArray}{T:List Tok}(hS:Scans s T):Grow T:=by
 intro i j hij
 induction j with
 |zero=>intro _;have:i=0:=by omega
        rw[this];exact Int.le_refl _
 |succ j ih=>
  intro hj
  by_cases e:i=j+1
  · rw[e];exact Int.le_refl _
  · have a:=ih (by omega) (by omega)
    obtain⟨p,e1,_,e3⟩:=hS.next j (by omega)
    have g:=scan_ge s (p+(tk T j).s.size)
    rw[e3]at g
    unfold K.nx at g
    rw[if_pos hj]at g
    omega
theorem declsL_i{T:List Tok}(n:Nat):∀τ:S,τ.i<T.length->(K.declsL T n τ).i<T.length:=by
 induction n with
 |zero=>intro τ h;exact h
 |succ n ih=>
  intro τ h
  rw[K.declsL]
  split
  · exact ih _ (((K.opened_fwd T τ).trans ((K.decl_fwd T _ _).trans (K.closed_fwd T _))) h).2
  · exact h
theorem check_same{s:ByteArray}{T:List Tok}(hS:Scans s T)(hE:R.Ended T)(hP:(early T).err=0->(early T).place=0):K.checkT T=((R.readT T).err,(R.readT T).place):=by
 rw[readT_early]
 unfold K.checkT
 rcases prog_eqv hS hE hS.pos with⟨a1,a2,a3⟩|a
 · rw[if_pos a1.e2]
   have hg:K.found T=fst (lds false (K.progD T)) (0,false):=by unfold K.found;exact gds_fst _ _ _
   have hr:Rg T (K.prog0 T).i (K.dos T 11 (K.prog0 T)).1.i (lds false (K.progD T)):=dos_rg (grow hS) 11 (K.prog0 T) false (declsL_i _ _ hS.pos)
   have hp:=hP a1.e1
   generalize lds false (K.progD T)=L at*
   rw[hg]
   unfold R.last
   cases L with
   |nil=>
    have a2:(early T).leak= -1:=a2
    rw[if_neg (c:=(early T).err=0/\_) (λc=>by omega),a1.e1,hp]
    rfl
   |cons p M=>
    have h0:=a3 p List.mem_cons_self
    have a2:(early T).leak=p:=by
     rw[a2]
     show mn (lk (-1) p) M=p
     have:lk (-1) p=p:=by unfold lk;rw[if_pos (by omega)]
     rw[this]
     exact mn_first M p h0 (hr.fst p M rfl)
    rw[if_pos (c:=(early T).err=0/\_) ⟨a1.e1,by omega⟩,a2]
    unfold R.fail
    rw[if_pos a1.e1]
    rfl
 · rw[if_neg (by rw[a.e2];exact a.e1)]
   unfold R.last
   rw[if_neg (c:=(early T).err=0/\_) (λc=>a.e1 c.1),a.e2,a.p]
end Q
end
section
open R (Tok tk PS Thing)
namespace Q
def Pz(J:PS):Prop:=J.err=0->J.place=0
theorem pz_take(T:List Tok){J:PS}(h:Pz J):Pz (R.take T J):=by unfold R.take;split<;>exact h
theorem pz_fail{e:Int}(he:e≠0)(p:Int){J:PS}(h:Pz J):Pz (R.fail e p J):=by
 unfold R.fail;split
 · exact λc=>absurd c he
 · exact h
theorem pz_want(T:List Tok)(l:List UInt8){J:PS}(h:Pz J):Pz (R.want T l J):=by
 unfold R.want;split
 · exact pz_take T h
 · exact pz_fail (by decide) _ (pz_take T h)
theorem pz_opens(T:List Tok){J:PS}(h:Pz J):Pz (R.opens T J):=by
 have:Pz (R.open1 T J):=by
  unfold R.open1;split
  · exact pz_fail (by decide) _ (pz_want T _ h)
  · exact pz_want T _ h
 exact this
theorem pz_shut(T:List Tok){J:PS}(h:Pz J):Pz (R.shut T J):=by
 have:Pz (if J.err=0 then R.want T [41] J else J):=by
  split
  · exact pz_want T _ h
  · exact h
 exact this
theorem pz_leaks(p:Int)(b:Bool){J:PS}(h:Pz J):Pz (R.leaks p b J):=by unfold R.leaks;split<;>exact h
theorem pz_known(T:List Tok)(a s:Bool){J:PS}(h:Pz J):Pz (R.known T a s J):=by
 unfold R.known
 split
 · split
   · split
     · exact pz_fail (by decide) _ (pz_take T h)
     · exact pz_take T h
   · exact pz_fail (by decide) _ (pz_take T h)
 · exact h
theorem pz_fresh(T:List Tok){J:PS}(h:Pz J):Pz (R.fresh T J):=by
 unfold R.fresh
 split
 · split
   · split
     · exact pz_fail (by decide) _ (pz_take T h)
     · exact pz_take T h
   · exact pz_fail (by decide) _ (pz_take T h)
 · exact h
theorem pz_args{rec:PS->PS×Int}(hr:∀J,Pz J->Pz (rec J).1)(m:Nat):∀(J:PS) (L:List Int) (b:Bool),Pz J->Pz (R.args rec m J L b).1:=by
 induction m with
 |zero=>intro J L b h;exact h
 |succ m ih=>
  intro J L b h
  rw[R.args]
  split
  · exact ih _ _ _ (hr J h)
  · exact h
theorem pz_inner{T:List Tok}{rec:PS->PS×Int}(hr:∀J,Pz J->Pz (rec J).1)(p:Int){J:PS}(h:Pz J):Pz (R.inner T rec p J):=by
 have hh:Pz (R.headOf T J).1:=by
  unfold R.headOf
  split
  · exact pz_known T _ _ (pz_take T h)
  · split
    · exact pz_take T h
    · split
      · exact pz_take T h
      · exact pz_fail (by decide) _ (pz_take T h)
 have:Pz (R.leaks p ((R.shut T (R.args rec (R.headOf T J).2.2 (R.headOf T J).1 [] false).1).err==0&&(R.args rec (R.headOf T J).2.2 (R.headOf T J).1 [] false).2.2&&R.telling (tk T J.i).s.toList) (R.shut T (R.args rec (R.headOf T J).2.2 (R.headOf T J).1 [] false).1)):=pz_leaks _ _ (pz_shut T (pz_args hr _ _ _ _ hh))
 exact this
theorem pz_expr(T:List Tok)(f:Nat):∀J,Pz J->Pz (R.expr T f J).1:=by
 induction f with
 |zero=>intro J h;exact h
 |succ f ih=>
  intro J h
  rw[R.expr]
  split
  · split
    · split
      · exact pz_inner ih _ (pz_opens T h)
      · exact pz_opens T h
    · split
      · exact pz_take T h
      · exact pz_known T _ _ h
  · exact h
theorem pz_ex(T:List Tok){J:PS}(h:Pz J):Pz (R.ex T J).1:=pz_expr T _ J h
def PzL(d:PS->PS×List Int):Prop:=∀J,Pz J->Pz (d J).1
theorem pz_block{T:List Tok}{does:PS->PS×List Int}(hd:PzL does):PzL (R.block T does):=λJ h=>by
 unfold R.block;split
 · exact pz_shut T (hd _ (pz_opens T h))
 · exact h
theorem pz_word{T:List Tok}{does:PS->PS×List Int}(hd:PzL does)(p:Int)(w:Tok){J:PS}(h:Pz J):Pz (R.doWord T does p w J).s:=by
 unfold R.doWord
 split
 · exact pz_leaks _ _ (pz_ex T (pz_known T _ _ h))
 · split
   · exact pz_leaks _ _ (pz_ex T (pz_leaks _ _ (pz_ex T (pz_known T _ _ h))))
   · split
     · exact pz_block (T:=T) hd _ (pz_block (T:=T) hd _ (pz_ex T h))
     · split
       · unfold R.doFor
         have h1:Pz (if J.loops=2 then R.fail 6 w.p J else J):=by
          split
          · exact pz_fail (by decide) _ h
          · exact h
         exact hd _ (pz_leaks _ _ (pz_ex T (pz_fresh T h1)))
       · exact pz_fail (by decide) _ h
theorem pz_doB{T:List Tok}{does:PS->PS×List Int}(hd:PzL does){J:PS}(h:Pz J):Pz (R.doB T does J).1:=by
 unfold R.doB;split
 · exact pz_shut T (pz_word hd _ _ (pz_take T (pz_opens T h)))
 · exact pz_opens T h
theorem pz_doesL{T:List Tok}{dof:PS->PS×Int}(hd:∀J,Pz J->Pz (dof J).1)(m:Nat):∀(J:PS) (L:List Int),Pz J->Pz (R.doesL T dof m J L).1:=by
 induction m with
 |zero=>intro J L h;exact h
 |succ m ih=>
  intro J L h
  rw[R.doesL]
  split
  · exact ih _ _ (hd J h)
  · exact h
theorem pz_doF(T:List Tok)(f:Nat):∀J,Pz J->Pz (R.doF T f J).1:=by
 induction f with
 |zero=>intro J h;exact h
 |succ f ih=>intro J h;exact pz_doB (λJ h=>pz_doesL ih _ _ _ h) h
theorem pz_decl(T:List Tok){J:PS}(h:Pz J):Pz (R.decl T J):=by
 have ho:=pz_opens T h
 unfold R.decl
 split
 · exact pz_fail (by decide) _ ho
 · unfold R.declIn
   have hh:∀(w:Tok) (J:PS),Pz J->Pz (R.dHead T w J).1:=λw J h=>by
    unfold R.dHead;split
    · dsimp only
      split
      · exact pz_take T h
      · exact pz_fail (by decide) _ (pz_take T h)
    · exact h
   have hz:∀(k:Int) (J:PS),Pz J->Pz (R.dSize T k J).1:=λk J h=>by
    unfold R.dSize;split
    · split
      · exact pz_take T h
      · exact pz_fail (by decide) _ (pz_take T h)
    · exact h
   have hz':=hz (R.dHead T (tk T (R.opens T J).i) (R.take T (R.opens T J))).2.1 _ (pz_fresh T (hh (tk T (R.opens T J).i) _ (pz_take T ho)))
   dsimp only
   split
   · exact pz_shut T hz'
   · exact hz'
theorem pz_decls(T:List Tok)(m:Nat):∀J,Pz J->Pz (R.decls T m J):=by
 induction m with
 |zero=>intro J h;exact h
 |succ m ih=>
  intro J h
  rw[R.decls]
  split
  · exact ih _ (pz_decl T h)
  · exact h
theorem pz_early(T:List Tok):Pz (early T):=by
 have h1:Pz (R.does T 12 (R.decls T 9 R.start)).1:=pz_doesL (pz_doF T 12) _ _ _ (pz_decls T 9 _ (λ_=>rfl))
 unfold early R.behind
 split
 · exact pz_want T _ h1
 · exact h1
theorem check_read{s:ByteArray}(hE:R.Ended (R.toks s)):K.check s=((R.read s).err,(R.read s).place):=by
 unfold K.check R.read
 by_cases h:800<s.size
 · rw[if_pos h,if_pos h];rfl
 · rw[if_neg h,if_neg h]
   exact check_same (K.scans_toks (by omega)) hE (pz_early _)
end Q
end
section
open R (Tok tk PS Thing)
open K (S Nm Ex Do Scans)
namespace R
def flat(l:List Thing):List Bool:=l.flatMap λt=>List.replicate t.size.toNat t.sec
structure FL(k:Nat)(J:PS):Prop where
 shape:J.shape=flat J.seen
 bd:∀t∈J.seen,1<=t.size/\t.size<=6
 len:J.seen.length<=k
 size:J.size=(J.shape.length:Int)
theorem FL.core{k:Nat}{J J':PS}(h:FL k J)(c:core J'=core J):FL k J':=by
 have hse:J'.seen=J.seen:=congrArg (λc=>c.1) c
 have hsh:J'.shape=J.shape:=congrArg (λc=>c.2.2.2.1) c
 have hsz:J'.size=J.size:=congrArg (λc=>c.2.2.1) c
 exact⟨by rw[hse,hsh];exact h.shape,by rw[hse];exact h.bd,by rw[hse];exact h.len,by rw[hsz,hsh];exact h.size⟩
theorem FL.more{k:Nat}{J:PS}(h:FL k J):FL (k+1) J:=⟨h.shape,h.bd,Nat.le_succ_of_le h.len,h.size⟩
theorem FL.added{k:Nat}{J:PS}(h:FL k J){t:Thing}(h1:1<=t.size)(h2:t.size<=6):FL (k+1) (added t J):=by
 refine⟨?_,?_,?_,?_⟩
 · show J.shape++List.replicate t.size.toNat t.sec=flat (J.seen++[t])
   unfold flat
   rw[List.flatMap_append,h.shape]
   simp[flat]
 · intro u hu
   have hu':u∈J.seen++[t]:=hu
   rcases List.mem_append.1 hu' with h' |h'
   · exact h.bd u h'
   · rw[List.mem_singleton.1 h'];exact⟨h1,h2⟩
 · show(J.seen++[t]).length<=k+1
   have:=h.len
   simp;omega
 · show J.size+t.size=((J.shape++List.replicate t.size.toNat t.sec).length:Int)
   have:=h.size
   rw[List.length_append,List.length_replicate]
   omega
theorem decl_fl{T:List Tok}{k:Nat}{J:PS}(h:FL k J):FL (k+1) (decl T J):=by
 have o1:=h.core (opens_core T J).1
 unfold decl
 split
 · exact(o1.core (fail_core _ _ _).1).more
 · generalize opens T J=J1 at*
   unfold declIn
   dsimp only
   have s1:=take_same T J1
   have s2:=dHead_same T (tk T J1.i) (take T J1)
   generalize dHead T (tk T J1.i) (take T J1)=H at*
   have s3:=fresh_same T H.1
   have s4:=dSize_same T H.2.1 (fresh T H.1)
   obtain⟨J6,z,hz⟩:∃J6 z,dSize T H.2.1 (fresh T H.1)=(J6,z):=⟨_,_,rfl⟩
   rw[hz]at s4 ⊢
   have sm:=((s1.tr s2).tr s3).tr s4
   cases z with
   |none=>exact(o1.core sm.core).more
   |some n=>
    have hn:=dSize_bd hz
    exact((o1.core sm.core).core (shut_core T J6).1).added (t:=⟨_,_,_,_,n⟩) hn.1 hn.2
theorem decls_fl(T:List Tok)(m:Nat):∀(k:Nat) (J:PS),FL k J->FL (k+m) (decls T m J):=by
 induction m with
 |zero=>intro k J h;exact h
 |succ m ih=>
  intro k J h
  rw[decls]
  split
  · have:=ih (k+1) _ (decl_fl (T:=T) h)
    rw[show k+(m+1)=k+1+m by omega]
    exact this
  · exact⟨h.shape,h.bd,by have:=h.len;omega,h.size⟩
theorem start_fl:FL 0 start:=⟨rfl,(λ_ h=>by cases h),Nat.le_refl _,rfl⟩
theorem decl_lt{T:List Tok}{J:PS}(h:J.i<T.length):(decl T J).i<T.length:=by
 have ho:(opens T J).i<T.length:=by rw[(opens_core T J).2.2.1];exact(take_same T J).lt h
 unfold decl
 split
 · rw[(fail_core _ _ _).2.2.1];exact ho
 · generalize opens T J=J1 at*
   unfold declIn
   dsimp only
   have s1:=take_same T J1
   have s2:=dHead_same T (tk T J1.i) (take T J1)
   generalize dHead T (tk T J1.i) (take T J1)=H at*
   have s3:=fresh_same T H.1
   have s4:=dSize_same T H.2.1 (fresh T H.1)
   obtain⟨J6,z,hz⟩:∃J6 z,dSize T H.2.1 (fresh T H.1)=(J6,z):=⟨_,_,rfl⟩
   rw[hz]at s4 ⊢
   have sm:=((s1.tr s2).tr s3).tr s4
   cases z with
   |none=>exact sm.lt ho
   |some n=>exact(shut_core T J6).2.2.2.2 (sm.lt ho)
theorem decls_lt(T:List Tok)(m:Nat):∀J:PS,J.i<T.length->(decls T m J).i<T.length:=by
 induction m with
 |zero=>intro J h;exact h
 |succ m ih=>
  intro J h
  rw[decls]
  split
  · exact ih _ (decl_lt h)
  · exact h
theorem early_fl{T:List Tok}(hE:Ended T)(h0:0<T.length):FL 9 (Q.early T):=by
 have h:=decls_fl T 9 0 start start_fl
 have hl:=decls_lt T 9 start h0
 unfold Q.early
 generalize decls T 9 start=A at*
 have h2:FL 9 (does T 12 A).1:=h.core (does_ok hE 12 hl).core
 have h3:FL 9 (done (does T 12 A).2 (does T 12 A).1):=⟨h2.shape,h2.bd,h2.len,h2.size⟩
 unfold behind
 split
 · exact h3.core (want_core T _ _).1
 · exact h3
theorem last_core(J:PS):core (last J)=core J:=by
 unfold last;split
 · exact(fail_core _ _ _).1
 · rfl
end R
namespace K
def sum:List Nm->Int
 |[]=>0
 |n::l=>n.size+sum l
theorem sum_snoc(l:List Nm)(n:Nm):sum (l++[n])=sum l+n.size:=by
 induction l with
 |nil=>simp[sum]
 |cons a l ih=>simp only[List.cons_append,sum,ih];omega
def KW(τ:S):Prop:=τ.words=IntKind.i64.wrap (sum τ.names)
theorem wrap_add(a b:Int):IntKind.i64.wrap (IntKind.i64.wrap a+b)=IntKind.i64.wrap (a+b):=by
 simp only[IntKind.wrap_i64]
 omega
theorem KW.keeps{J τ:S}(h:KW J)(k:Keeps J τ):KW τ:=by unfold KW;rw[k.words,k.names];exact h
theorem KW.adds{τ:S}(h:KW τ)(n:Nm):KW (adds n τ):=by
 show IntKind.i64.wrap (τ.words+n.size)=IntKind.i64.wrap (sum (τ.names++[n]))
 rw[sum_snoc,h,wrap_add]
theorem declsL_kw(T:List Tok)(m:Nat):∀τ,KW τ->KW (declsL T m τ):=by
 induction m with
 |zero=>intro τ h;exact h
 |succ m ih=>
  intro τ h
  rw[declsL]
  split
  · exact ih _ ((h.keeps (dcl_keeps T τ)).adds _)
  · exact h
theorem progS_kw(T:List Tok):KW (progS T):=
 ((declsL_kw T T.length start (by unfold KW;decide)).keeps (dos_keeps T 11 _)).keeps (expect_keeps T _ _)
end K
namespace Q
theorem shape_same:∀{l:List Thing} {m:List Nm},Names l m->R.flat l=K.shape m
 |[],[],_=>rfl
 |t::l,n::m,h=>by
  have ih:=shape_same h.2
  unfold R.flat K.shape at ih ⊢
  rw[List.flatMap_cons,List.flatMap_cons,ih,h.1.sec,h.1.size]
 |[],_::_,h=>h.elim
 |_::_,[],h=>h.elim
theorem sum_len:∀{l:List Thing} {m:List Nm},Names l m->(∀t∈l,1<=t.size/\t.size<=6)->K.sum m=((K.shape m).length:Int)/\0<=K.sum m/\K.sum m<=6*(l.length:Int)/\∀n∈m,1<=n.size/\n.size<=6
 |[],[],_,_=>⟨rfl,by simp[K.sum],by simp[K.sum],λ_ h=>by cases h⟩
 |t::l,n::m,h,hb=>by
  obtain⟨i1,i2,i3,i4⟩:=sum_len h.2 λu hu=>hb u (List.mem_cons_of_mem _ hu)
  have ht:=hb t (List.mem_cons_self ..)
  rw[h.1.size]at ht
  refine⟨?_,?_,?_,?_⟩
  · unfold K.shape at i1 ⊢
    rw[List.flatMap_cons,List.length_append,List.length_replicate,K.sum,i1]
    omega
  · rw[K.sum];omega
  · rw[K.sum,List.length_cons];omega
  · intro u hu
    rcases List.mem_cons.1 hu with rfl |hu
    · exact ht
    · exact i4 u hu
 |[],_::_,h,_=>h.elim
 |_::_,[],h,_=>h.elim
theorem shape_ok{s:ByteArray}(hs:s.size<=800)(h:(R.read s).err=0):
 (K.progS (R.toks s)).err=0/\(K.found (R.toks s)).2=false/\(R.read s).shape=K.shape (K.progS (R.toks s)).names/\(K.progS (R.toks s)).words=((R.read s).shape.length:Int)/\(R.read s).shape.length<=54∧
   (R.read s).size=((R.read s).shape.length:Int)/\(∀n∈(K.progS (R.toks s)).names,1<=n.size/\n.size<=6)/\(K.progS (R.toks s)).names.length<=9:=by
 have hE:=R.toks_ended s
 have hl:=(R.toks_len s).2
 have hk:=check_read hE
 have hc:K.check s=K.checkT (R.toks s):=by unfold K.check;rw[if_neg (by omega)]
 have hr:R.read s=R.readT (R.toks s):=by unfold R.read;rw[if_neg (by omega)]
 rw[hc]at hk
 rw[hr]at h hk ⊢
 have hfl:=R.early_fl hE hl
 have hkw:=K.progS_kw (R.toks s)
 have hp:=prog_eqv (K.scans_toks hs) hE hl
 rw[readT_early]at h hk ⊢
 rw[show(R.last (early (R.toks s))).shape=(early (R.toks s)).shape from congrArg (λc=>c.2.2.2.1) (R.last_core _)]
 rw[show(R.last (early (R.toks s))).size=(early (R.toks s)).size from congrArg (λc=>c.2.2.1) (R.last_core _)]
 have h1:(K.checkT (R.toks s)).1=0:=by rw[hk];exact h
 unfold K.checkT at h1
 have e0:(K.progS (R.toks s)).err=0:=by
  by_cases e:(K.progS (R.toks s)).err=0
  · exact e
  · rw[if_neg e]at h1;exact h1
 rw[if_pos e0]at h1
 have e1:(K.found (R.toks s)).2=false:=by
  cases e:(K.found (R.toks s)).2 with
  |false=>rfl
  |true=>rw[e,if_pos rfl]at h1;exact absurd h1 (by simp)
 rcases hp with⟨sm,_,_⟩|dd
 · have sh:=shape_same sm.names
   obtain⟨l1,l2,l3,l4⟩:=sum_len sm.names hfl.bd
   have hle:=hfl.len
   have hln:((early (R.toks s)).shape.length:Int)=K.sum (K.progS (R.toks s)).names:=by rw[hfl.shape,sh,l1]
   refine⟨e0,e1,by rw[hfl.shape,sh],?_,by omega,hfl.size,l4,by rw[<-Names.length sm.names];exact hle⟩
   rw[hkw,hln]
   exact k64 _ (by omega)
 · exact absurd e0 (by rw[dd.e2];exact dd.e1)
end Q
end
end Go.Proofs.YtejbgcloblpbfaaGreatDoor
