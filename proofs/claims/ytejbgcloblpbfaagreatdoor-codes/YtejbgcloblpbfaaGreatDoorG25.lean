import Derived.Deep.OwnRows
import Derived.Test.YtejbgcloblpbfaaGreatDoorG24
set_option maxHeartbeats 4000000
set_option maxRecDepth 100000
namespace Go.Proofs.YtejbgcloblpbfaaGreatDoor
section
open Go.RowKit
open K (Nm Ex Do)
theorem made_list(z:Value)(n:Nat):madeCells #[z] n=(List.replicate n z).toArray:=by
 apply Array.toList_inj.1
 rw[toList_madeCells_one]
theorem made_at(w:World)(n:Nat)(t:TypeId):At (w.alloc (.cells (madeCells #[.int .i64 0] n) t (0,0))) w.heap.size t (List.replicate n (.int .i64 0)):=by
 rw[made_list]
 exact At.alloc_new w _ t
theorem but_lower{b B:Nat}{w w':World}(h:But b w w')(hB:B<=b)(hs:B<=w.heap.size):Below B w w':=
 ⟨h.os,h.tape,h.output,h.size,λk hk=>h.block k (by omega) (by omega)⟩
end
section
open Go.RowKit
open K (Nm Ex Do)
namespace Y
theorem opw_c{w:World}{p:WP}{C:List Ins}{G W K:List Nat}(h:WAt w p C G W K)(hf:C.length<100000)(o:UInt8)(ho:V.isOp o=true)(d l r:Nat):
 Calls Tryz.prog (wfn o) #[WV p,.int .i64 (d:Int),.int .i64 (l:Int),.int .i64 (r:Int)] w λx w'=>x=.returned (.tuple #[])/\WAt w' p (C++[.bin o d l r]) G W K/\Fk p.lo w w':=by
 unfold V.isOp at ho
 simp only[Bool.or_eq_true,beq_iff_eq]at ho
 rcases ho with((((((rfl |rfl)|rfl)|rfl)|rfl)|rfl)|rfl)|rfl
 · exact plus_w h hf d l r
 · exact minus_w h hf d l r
 · exact times_w h hf d l r
 · exact over_w h hf d l r
 · exact and_w h hf d l r
 · exact xor_w h hf d l r
 · exact less_w h hf d l r
 · exact equal_w h hf d l r
theorem wfn_enter(o:UInt8)(ho:V.isOp o=true)(v0 v1 v2 v3:Value)(w:World):(callFunc (wfn o) #[v0,v1,v2,v3]).run Tryz.prog w=.ok (.enter (wfn o) #[v0,v1,v2,v3]) w:=by
 unfold V.isOp at ho
 simp only[Bool.or_eq_true,beq_iff_eq]at ho
 rcases ho with((((((rfl |rfl)|rfl)|rfl)|rfl)|rfl)|rfl)|rfl<;>kernel_rfl
section
variable {ops:Array Oper} {o:Oper} {a:Act} {w:World} {K:Act->World->Prop} {Q:Exit->Act->World->Prop} {E:Prop}
theorem so_call(hg:o.guard=none)(x y0 y1 y2 y3:Operand)(ts:Array TypeId)(ho:o.op=.call {callee:=.value x,args:=#[y0,y1,y2,y3],argTypes:=ts})(f:Nat)(hv:a.eval x=.func (.func f) #[] #[])(v0 v1 v2 v3 r:Value)(h0:a.eval y0=v0)(h1:a.eval y1=v1)(h2:a.eval y2=v2)(h3:a.eval y3=v3)(R:World->Prop)(hcf:(callFunc f #[v0,v1,v2,v3]).run Tryz.prog w=.ok (.enter f #[v0,v1,v2,v3]) w)(hc:Calls Tryz.prog f #[v0,v1,v2,v3] w λy w'=>y=.returned r/\R w')(h:∀w',R w'->K (a.put o.dst r) w'):if Region.wanted o (yielded ops a.tmps)=true then Oper.wp Tryz.prog o a w K Q else E:=by
 refine st_of hg ?_
 unfold Oper.wp
 generalize a.eval=ev at*
 simp[execOp,ho,hv,h0,h1,h2,h3,go_sem]
 rw[hcf]
 refine hc.mono ?_
 rintro y w' ⟨rfl,hr⟩
 exact h w' hr
end
theorem wtab{w:World}{p:WP}{C:List Ins}{G W K:List Nat}(h:WAt w p C G W K)(o:UInt8)(ho:V.isOp o=true):w.cell? ⟨p.wb,3+o.toNat,none⟩=some (.func (.func (wfn o)) #[] #[]):=by
 obtain⟨cv,kv,a1,_⟩:=h.rows
 have hl:o.toNat<256:=o.toNat_lt
 have ht:=h.tab
 rw[a1.cell,List.getElem?_append_right (by simp),List.getElem?_append_left (by simp[ht];omega)]
 have e:3+o.toNat-([cv,.pointer (some ⟨p.rp,0,none⟩),.pointer (some ⟨p.wp,0,none⟩)]:List Value).length=o.toNat:=by simp
 rw[e]
 exact p.htb o ho
theorem operation_w(q0:Int)(o:UInt8)(ho:V.isOp o=true)(el er:Ex)(gl:K.good el=true)(gr:K.good er=true)(xl:ExW el)(xr:ExW er)(w:World)(p:WP)(C:List Ins)(G W K:List Nat)(h:WAt w p C G W K)(hF:Fine G W 0)(hn:need (.op q0 o el er)<=W.length)(hc:C.length+cE (.op q0 o el er)<90000):
 Calls Tryz.prog 181 #[WV p,.agg #[.int .i64 q0,.int .u8 o.toNat,exV el,exV er]] w λx w'=>x=.returned (.int .i64 (((exC G W (.op q0 o el er)).2:Nat):Int))/\WAt w' p (C++(exC G W (.op q0 o el er)).1) (G.erase (exC G W (.op q0 o el er)).2) W K/\Fk p.lo w w':=by
 have hn':max (need el) (need er)+1<=W.length:=hn
 have hc':C.length+(cE el+cE er+5)<90000:=hc
 obtain⟨W0,hW⟩:∃W0,w.alloc (.cells #[.int .i64 q0,.int .u8 o.toNat,exV el,exV er] 212 (0,0))=W0:=⟨_,rfl⟩
 have h0:WAt W0 p C G W K:=by rw[<-hW];exact h.alloc _
 have F0:Hid (Fk p.lo w W0):=by rw[<-hW];exact(Fk.refl _ _).alloc _
 have RF:At W0 w.heap.size 212 [.int .i64 q0,.int .u8 o.toNat,exV el,exV er]:=by rw[<-hW];exact At.alloc_new w _ _
 have l8:=h.lenG
 have hs:=h.regs.srt
 have hsW:=h.words.srt
 have hwc:=h.words.lt.2.2.2
 have e0:exC G W (.op q0 o el er)=((exC G W el).1++(kpC G W (exC G W el).2++((exC (kpG G (exC G W el).2) (kpW G W) er).1++(ftC ((kpG G (exC G W el).2).erase (exC (kpG G (exC G W el).2) (kpW G W) er).2) (kpK G W (exC G W el).2)++[.bin o (exC (kpG G (exC G W el).2) (kpW G W) er).2 (ftR ((kpG G (exC G W el).2).erase (exC (kpG G (exC G W el).2) (kpW G W) er).2) (kpK G W (exC G W el).2)) (exC (kpG G (exC G W el).2) (kpW G W) er).2]))),(exC (kpG G (exC G W el).2) (kpW G W) er).2):=rfl
 rw[e0]
 clear e0 hn hc
 dsimp only
 have m1:=exC_mem el hF
 have F1:=kp_fine hF m1
 have m2:=exC_mem er F1
 obtain⟨fb1,fb2,fb3⟩:=ft_back (W:=W) hF l8 hs m1 m2
 obtain⟨kb1,kb2⟩:=kp_back (G:=G) (a:=(exC G W el).2) hsW (show 0<W.length by omega)
 have cb0:0<((kpG G (exC G W el).2).erase (exC (kpG G (exC G W el).2) (kpW G W) er).2).length:=by rw[List.length_erase_of_mem m2];have:=F1.g3;omega
 have L1:=exC_len el G W
 have L2:=kpC_len G W (exC G W el).2
 have L3:=exC_len er (kpG G (exC G W el).2) (kpW G W)
 have L4:=ftC_len ((kpG G (exC G W el).2).erase (exC (kpG G (exC G W el).2) (kpW G W) er).2) (kpK G W (exC G W el).2)
 have hwl1:=@kpW_len G W
 have hq:=xl W0 p C G W K h0 hF (by omega) (by omega)
 have hk1:=fun(w:World) (C:List Ins) (hC:C.length+1<100000) (h':WAt w p C (G.erase (exC G W el).2) W K)=>keep_all h' hF hs m1 (by omega) hC
 have hy:=fun(w:World) (C:List Ins) (hC:C.length+cE er<90000) (h':WAt w p C (kpG G (exC G W el).2) (kpW G W) K)=>xr w p C _ _ K h' F1 (by omega) hC
 have z2:=RF.cell 2
 simp only[List.getElem?_cons_zero,List.getElem?_cons_succ]at z2
 rw[exV_good gl]at hq z2 hW RF ⊢
 rw[exV_good gr]at hW RF ⊢
 have hyV:=exV_good gr
 simp only[hyV]at hy
 generalize exT el=t1 at*
 generalize exP el=p1 at*
 generalize exT er=t2 at*
 generalize exP er=p2 at*
 generalize kpK G W (exC G W el).2=k1 at*
 generalize kpC G W (exC G W el).2=c1 at*
 generalize exC (kpG G (exC G W el).2) (kpW G W) er=X2 at*
 generalize kpG G (exC G W el).2=G1 at*
 generalize kpW G W=W1 at*
 generalize exC G W el=X1 at*
 obtain⟨u0,u1,u2,kv1⟩:=kpV_form k1
 have HRF:=hide RF
 have HL:Hid (X1.1.length<=cE el/\c1.length<=2/\X2.1.length<=cE er/\(ftC (G1.erase X2.2) k1).length<=2/\C.length+(cE el+cE er+5)<90000):=⟨L1,L2,L3,L4,hc'⟩
 have HK2:Hid (∀x,k1=.word x->x∉W1/\W1.length<p.wc):=λx e=>⟨(kb2 x e).1,by have:=(kb2 x e).2;omega⟩
 have HF1:=hide fb1
 have HF2:=hide fb2
 have HF3:=hide fb3
 have HK1:=hide kb1
 clear h h0 RF hF F1 xl xr gl gr L1 L2 L3 L4 hc' hn' hwl1 hyV fb1 fb2 fb3 kb1 kb2
 rw[kv1]at hk1
 go_enter_defers Tryz.func181,Tryz.ntmps181
 go_wp2_with fail
 refine hq.mono ?_
 rintro y w1 ⟨rfl,h1,b1⟩
 have hkk1:=hk1 w1 _ (by have:=HL.out;rw[List.length_append];omega) h1
 clear h1
 go_wp2_with fail
 refine hkk1.mono ?_
 rintro y w2 ⟨rfl,h2,b2⟩
 obtain⟨Wa,hWa⟩:∃Wa,w2.alloc (.cells #[.int .i64 u0,.int .i64 u1,.bool u2] 221 (0,0))=Wa:=⟨_,rfl⟩
 have ha:WAt Wa p ((C++X1.1)++c1) G1 W1 K:=by rw[<-hWa];exact h2.alloc _
 have Fa:Fk p.lo w2 Wa:=by rw[<-hWa];exact(Fk.refl _ _).alloc _
 have Ra:Hid (At Wa w2.heap.size 221 [.int .i64 u0,.int .i64 u1,.bool u2]):=by rw[<-hWa];exact At.alloc_new w2 _ _
 have ba:=(b1.trans b2).trans Fa
 have RCa:=ba.at_ HRF.out (by decide) (by decide) (by decide) (by decide)
 have z3:=RCa.cell 3
 simp only[List.getElem?_cons_zero,List.getElem?_cons_succ]at z3
 have hyy:=hy Wa _ (by have:=HL.out;simp only[List.length_append];omega) ha
 have HRa:=hide RCa
 have HBa:=hide ba
 clear h2 ha Fa RCa b1 b2 ba hk1 hq hkk1 hy
 go_wp2_with fail
 refine hyy.mono ?_
 rintro y w3 ⟨rfl,h3,b3⟩
 have RA3:=b3.at_ Ra.out (by decide) (by decide) (by decide) (by decide)
 have RC3:Hid (At w3 w.heap.size 212 [.int .i64 q0,.int .u8 o.toNat,.iface t1 p1,.iface t2 p2]):=b3.at_ HRa.out (by decide) (by decide) (by decide) (by decide)
 have v0:=RA3.cell 0
 have v1:=RA3.cell 1
 have v2:=RA3.cell 2
 simp only[List.getElem?_cons_zero,List.getElem?_cons_succ]at v0 v1 v2
 have hf1:=fetch_all (k:=k1) h3 cb0 HK2.out (by have:=HL.out;simp only[List.length_append];omega)
 rw[kv1]at hf1
 have HB3:=hide (HBa.out.trans b3)
 clear h3 RA3 b3 hyy
 go_wp2_with fail
 refine hf1.mono ?_
 rintro y w4 ⟨rfl,h4,b4⟩
 obtain⟨c1',_⟩:=h4.c
 have RC4:=b4.at_ RC3.out (by decide) (by decide) (by decide) (by decide)
 have o1:=RC4.cell 1
 simp only[List.getElem?_cons_zero,List.getElem?_cons_succ]at o1
 have H4:=hide h4
 have HB4:=hide (HB3.out.trans b4)
 clear h4 RC4 b4 hf1
 go_upto_region 5 with fail
 obtain⟨pre,hpre⟩:∃pre:List Value,pre=[WV p,.agg #[.int .i64 q0,.int .u8 o.toNat,.iface t1 p1,.iface t2 p2],undef,.pointer (some ⟨w.heap.size,0,none⟩),.int .i64 0,.pointer (some ⟨w2.heap.size,0,none⟩),.int .i64 (X2.2:Int),.int .i64 ((ftR (G1.erase X2.2) k1:Nat):Int),WV p,WV p,.pointer (some ⟨w.heap.size,2,none⟩),.iface t1 p1,.int .i64 (X1.2:Int),.agg #[.int .i64 u0,.int .i64 u1,.bool u2],WV p,.pointer (some ⟨w.heap.size,3,none⟩),.iface t2 p2,.int .i64 (X2.2:Int),WV p,.agg #[.int .i64 u0,.int .i64 u1,.bool u2],.int .i64 ((ftR (G1.erase X2.2) k1:Nat):Int),WV p,.pointer (some ⟨p.wb,0,none⟩),.pointer (some ⟨p.wb,1,none⟩),.pointer (some ⟨p.rp,0,none⟩),.int .i64 ((ftR (G1.erase X2.2) k1:Nat):Int)]:=⟨_,rfl⟩
 obtain⟨vs,hvs⟩:∃vs:List Value,vs=[WV p,.pointer (some ⟨w.heap.size,1,none⟩),.int .u8 (o.toNat:Int),.pointer (some ⟨p.wb,0,none⟩),.pointer (some ⟨p.wb,3,none⟩),.pointer (some ⟨p.wb,3+o.toNat,none⟩),.func (.func (wfn o)) #[] #[],WV p,.int .i64 (X2.2:Int),.int .i64 ((ftR (G1.erase X2.2) k1:Nat):Int),.int .i64 (X2.2:Int),.tuple #[]]:=⟨_,rfl⟩
 obtain⟨dd,hdd⟩:∃dd:List Deferred,dd=[{target:=.fn (.func 149) #[],args:=#[.pointer (some ⟨p.rp,0,none⟩),.int .i64 ((ftR (G1.erase X2.2) k1:Nat):Int)]}]:=⟨_,rfl⟩
 obtain⟨w5,hw5⟩:∃w5:World,w5={w4 with drawn:=w4.drawn+1}:=⟨_,rfl⟩
 have H5:WAt w5 p ((((C++X1.1)++c1)++X2.1)++ftC (G1.erase X2.2) k1) (ftG (G1.erase X2.2) k1) (backW W1 k1) K:=H4.out.same (λk _=>by rw[hw5])
 have tc:=wtab H5 o ho
 have o5:w5.cell? ⟨w.heap.size,1,none⟩=some (.int .u8 (o.toNat:Int)):=by rw[hw5];exact o1
 have hop:=opw_c H5 (by have:=HL.out;simp only[List.length_append];omega) o ho X2.2 (ftR (G1.erase X2.2) k1) X2.2
 have hpl:pre.length=26:=by rw[hpre];rfl
 have hvl:vs.length=12:=by rw[hvs];rfl
 have HOP:=hide hop
 have HH5:=hide H5
 clear hop H5
 refine wp_region_any (by kernel_rfl) ?_
 rw[<-hw5]
 refine wpAny_cl (I:=λlisted a w'=>a=oAct pre vs dd listed/\(listed.getD 11 false=false->w'=w5)/\(listed.getD 11 false=true->WAt w' p (((((C++X1.1)++c1)++X2.1)++ftC (G1.erase X2.2) k1)++[.bin o X2.2 (ftR (G1.erase X2.2) k1) X2.2]) (ftG (G1.erase X2.2) k1) (backW W1 k1) K/\Fk p.lo w5 w')) ?_ ?_ _ _ ⟨?_,λ_=>rfl,λh=>?_⟩
 · rintro listed a w' i hs hcl ⟨rfl,hw',_⟩ hi
   obtain⟨hi1,hi2,hd⟩:=mem_ready hi
   have hs':listed.size=12:=hs
   have hsv:listed.size=vs.length:=by rw[hvl];exact hs
   have hn:=getD_tf' hi2
   have hi3:i<12:=hi1
   have hor:i=0∨i=1∨i=2∨i=3∨i=4∨i=5∨i=6∨i=7∨i=8∨i=9∨i=10∨i=11:=by omega
   rcases hor with rfl |rfl |rfl |rfl |rfl |rfl |rfl |rfl |rfl |rfl |rfl |rfl
   · -- 0
     have h11:listed.getD 11 false=false:=by
      refine Bool.eq_false_iff.2 λl11=>?_
      have l6:=hcl 11 _ rfl l11 ⟨6,.data⟩ (by simp) rfl
      have l5:=hcl 6 _ rfl l6 ⟨5,.data⟩ (by simp) rfl
      have l4:=hcl 5 _ rfl l5 ⟨4,.data⟩ (by simp) rfl
      have l3:=hcl 4 _ rfl l4 ⟨3,.data⟩ (by simp) rfl
      have l0:=hcl 3 _ rfl l3 ⟨0,.data⟩ (by simp) rfl
      rw[hn]at l0
      cases l0
     obtain rfl:=hw' h11
     refine wpOp_step rfl ?_
     intro K hK
     exact st_move rfl (.tmp 0) rfl _ (oAct_pre (j:=0) (by rw[hpre];rfl)) (hK _ _ ⟨oAct_put (k:=0) hpl (by rw[hvs];rfl) hsv,λ_=>rfl,λh=>by rw[getD_set (by omega),if_neg (by omega),h11]at h;cases h⟩)
   · -- 1
     have h11:listed.getD 11 false=false:=by
      refine Bool.eq_false_iff.2 λl11=>?_
      have l6:=hcl 11 _ rfl l11 ⟨6,.data⟩ (by simp) rfl
      have l5:=hcl 6 _ rfl l6 ⟨5,.data⟩ (by simp) rfl
      have l2:=hcl 5 _ rfl l5 ⟨2,.data⟩ (by simp) rfl
      have l1:=hcl 2 _ rfl l2 ⟨1,.data⟩ (by simp) rfl
      rw[hn]at l1
      cases l1
     obtain rfl:=hw' h11
     refine wpOp_step rfl ?_
     intro K hK
     exact so_f1 rfl (.tmp 3) rfl w.heap.size (oAct_pre (j:=3) (by rw[hpre];rfl)) (hK _ _ ⟨oAct_put (k:=1) hpl (by rw[hvs];rfl) hsv,λ_=>rfl,λh=>by rw[getD_set (by omega),if_neg (by omega),h11]at h;cases h⟩)
   · -- 2
     have h11:listed.getD 11 false=false:=by
      refine Bool.eq_false_iff.2 λl11=>?_
      have l6:=hcl 11 _ rfl l11 ⟨6,.data⟩ (by simp) rfl
      have l5:=hcl 6 _ rfl l6 ⟨5,.data⟩ (by simp) rfl
      have l2:=hcl 5 _ rfl l5 ⟨2,.data⟩ (by simp) rfl
      rw[hn]at l2
      cases l2
     obtain rfl:=hw' h11
     have s1:=oAct_k (pre:=pre) (vs:=vs) (d:=dd) (l:=listed) (k:=1) hpl (by rw[hvs];rfl) (hd _ rfl ⟨1,.data⟩ (by simp) rfl)
     refine wpOp_step rfl ?_
     intro K hK
     exact so_l5 rfl (.tmp 27) rfl _ s1 _ o5 (hK _ _ ⟨oAct_put (k:=2) hpl (by rw[hvs];rfl) hsv,λ_=>rfl,λh=>by rw[getD_set (by omega),if_neg (by omega),h11]at h;cases h⟩)
   · -- 3
     have h11:listed.getD 11 false=false:=by
      refine Bool.eq_false_iff.2 λl11=>?_
      have l6:=hcl 11 _ rfl l11 ⟨6,.data⟩ (by simp) rfl
      have l5:=hcl 6 _ rfl l6 ⟨5,.data⟩ (by simp) rfl
      have l4:=hcl 5 _ rfl l5 ⟨4,.data⟩ (by simp) rfl
      have l3:=hcl 4 _ rfl l4 ⟨3,.data⟩ (by simp) rfl
      rw[hn]at l3
      cases l3
     obtain rfl:=hw' h11
     have s0:=oAct_k (pre:=pre) (vs:=vs) (d:=dd) (l:=listed) (k:=0) hpl (by rw[hvs];rfl) (hd _ rfl ⟨0,.data⟩ (by simp) rfl)
     refine wpOp_step rfl ?_
     intro K hK
     exact st_nil rfl (.tmp 26) rfl _ s0 (hK _ _ ⟨oAct_put (k:=3) hpl (by rw[hvs];rfl) hsv,λ_=>rfl,λh=>by rw[getD_set (by omega),if_neg (by omega),h11]at h;cases h⟩)
   · -- 4
     have h11:listed.getD 11 false=false:=by
      refine Bool.eq_false_iff.2 λl11=>?_
      have l6:=hcl 11 _ rfl l11 ⟨6,.data⟩ (by simp) rfl
      have l5:=hcl 6 _ rfl l6 ⟨5,.data⟩ (by simp) rfl
      have l4:=hcl 5 _ rfl l5 ⟨4,.data⟩ (by simp) rfl
      rw[hn]at l4
      cases l4
     obtain rfl:=hw' h11
     have s3:=oAct_k (pre:=pre) (vs:=vs) (d:=dd) (l:=listed) (k:=3) hpl (by rw[hvs];rfl) (hd _ rfl ⟨3,.data⟩ (by simp) rfl)
     refine wpOp_step rfl ?_
     intro K hK
     exact so_f3 rfl (.tmp 29) rfl p.wb s3 (hK _ _ ⟨oAct_put (k:=4) hpl (by rw[hvs];rfl) hsv,λ_=>rfl,λh=>by rw[getD_set (by omega),if_neg (by omega),h11]at h;cases h⟩)
   · -- 5
     have h11:listed.getD 11 false=false:=by
      refine Bool.eq_false_iff.2 λl11=>?_
      have l6:=hcl 11 _ rfl l11 ⟨6,.data⟩ (by simp) rfl
      have l5:=hcl 6 _ rfl l6 ⟨5,.data⟩ (by simp) rfl
      rw[hn]at l5
      cases l5
     obtain rfl:=hw' h11
     have s4:=oAct_k (pre:=pre) (vs:=vs) (d:=dd) (l:=listed) (k:=4) hpl (by rw[hvs];rfl) (hd _ rfl ⟨4,.data⟩ (by simp) rfl)
     have s2:=oAct_k (pre:=pre) (vs:=vs) (d:=dd) (l:=listed) (k:=2) hpl (by rw[hvs];rfl) (hd _ rfl ⟨2,.data⟩ (by simp) rfl)
     refine wpOp_step rfl ?_
     intro K hK
     exact so_ix rfl (.tmp 30) (.tmp 28) rfl p.wb s4 o s2 (hK _ _ ⟨oAct_put (k:=5) hpl (by rw[hvs];rfl) hsv,λ_=>rfl,λh=>by rw[getD_set (by omega),if_neg (by omega),h11]at h;cases h⟩)
   · -- 6
     have h11:listed.getD 11 false=false:=by
      refine Bool.eq_false_iff.2 λl11=>?_
      have l6:=hcl 11 _ rfl l11 ⟨6,.data⟩ (by simp) rfl
      rw[hn]at l6
      cases l6
     obtain rfl:=hw' h11
     have s5:=oAct_k (pre:=pre) (vs:=vs) (d:=dd) (l:=listed) (k:=5) hpl (by rw[hvs];rfl) (hd _ rfl ⟨5,.data⟩ (by simp) rfl)
     refine wpOp_step rfl ?_
     intro K hK
     exact so_lf rfl (.tmp 31) rfl _ s5 _ tc (hK _ _ ⟨oAct_put (k:=6) hpl (by rw[hvs];rfl) hsv,λ_=>rfl,λh=>by rw[getD_set (by omega),if_neg (by omega),h11]at h;cases h⟩)
   · -- 7
     have h11:listed.getD 11 false=false:=by
      refine Bool.eq_false_iff.2 λl11=>?_
      have l7:=hcl 11 _ rfl l11 ⟨7,.data⟩ (by simp) rfl
      rw[hn]at l7
      cases l7
     obtain rfl:=hw' h11
     refine wpOp_step rfl ?_
     intro K hK
     exact st_move rfl (.tmp 0) rfl _ (oAct_pre (j:=0) (by rw[hpre];rfl)) (hK _ _ ⟨oAct_put (k:=7) hpl (by rw[hvs];rfl) hsv,λ_=>rfl,λh=>by rw[getD_set (by omega),if_neg (by omega),h11]at h;cases h⟩)
   · -- 8
     have h11:listed.getD 11 false=false:=by
      refine Bool.eq_false_iff.2 λl11=>?_
      have l8:=hcl 11 _ rfl l11 ⟨8,.data⟩ (by simp) rfl
      rw[hn]at l8
      cases l8
     obtain rfl:=hw' h11
     refine wpOp_step rfl ?_
     intro K hK
     exact st_move rfl (.tmp 6) rfl _ (oAct_pre (j:=6) (by rw[hpre];rfl)) (hK _ _ ⟨oAct_put (k:=8) hpl (by rw[hvs];rfl) hsv,λ_=>rfl,λh=>by rw[getD_set (by omega),if_neg (by omega),h11]at h;cases h⟩)
   · -- 9
     have h11:listed.getD 11 false=false:=by
      refine Bool.eq_false_iff.2 λl11=>?_
      have l9:=hcl 11 _ rfl l11 ⟨9,.data⟩ (by simp) rfl
      rw[hn]at l9
      cases l9
     obtain rfl:=hw' h11
     refine wpOp_step rfl ?_
     intro K hK
     exact st_move rfl (.tmp 7) rfl _ (oAct_pre (j:=7) (by rw[hpre];rfl)) (hK _ _ ⟨oAct_put (k:=9) hpl (by rw[hvs];rfl) hsv,λ_=>rfl,λh=>by rw[getD_set (by omega),if_neg (by omega),h11]at h;cases h⟩)
   · -- 10
     have h11:listed.getD 11 false=false:=by
      refine Bool.eq_false_iff.2 λl11=>?_
      have l10:=hcl 11 _ rfl l11 ⟨10,.data⟩ (by simp) rfl
      rw[hn]at l10
      cases l10
     obtain rfl:=hw' h11
     refine wpOp_step rfl ?_
     intro K hK
     exact st_move rfl (.tmp 6) rfl _ (oAct_pre (j:=6) (by rw[hpre];rfl)) (hK _ _ ⟨oAct_put (k:=10) hpl (by rw[hvs];rfl) hsv,λ_=>rfl,λh=>by rw[getD_set (by omega),if_neg (by omega),h11]at h;cases h⟩)
   · -- 11
     have h11:=hn
     obtain rfl:=hw' h11
     have s6:=oAct_k (pre:=pre) (vs:=vs) (d:=dd) (l:=listed) (k:=6) hpl (by rw[hvs];rfl) (hd _ rfl ⟨6,.data⟩ (by simp) rfl)
     have s7:=oAct_k (pre:=pre) (vs:=vs) (d:=dd) (l:=listed) (k:=7) hpl (by rw[hvs];rfl) (hd _ rfl ⟨7,.data⟩ (by simp) rfl)
     have s8:=oAct_k (pre:=pre) (vs:=vs) (d:=dd) (l:=listed) (k:=8) hpl (by rw[hvs];rfl) (hd _ rfl ⟨8,.data⟩ (by simp) rfl)
     have s9:=oAct_k (pre:=pre) (vs:=vs) (d:=dd) (l:=listed) (k:=9) hpl (by rw[hvs];rfl) (hd _ rfl ⟨9,.data⟩ (by simp) rfl)
     have s10:=oAct_k (pre:=pre) (vs:=vs) (d:=dd) (l:=listed) (k:=10) hpl (by rw[hvs];rfl) (hd _ rfl ⟨10,.data⟩ (by simp) rfl)
     refine wpOp_step rfl ?_
     intro K hK
     exact so_call rfl (.tmp 32) (.tmp 33) (.tmp 34) (.tmp 35) (.tmp 36) _ rfl _ s6 _ _ _ _ (.tuple #[]) s7 s8 s9 s10 _ (wfn_enter o ho _ _ _ _ _) HOP.out (λw' hr=>hK _ _ ⟨oAct_put (k:=11) hpl (by rw[hvs];rfl) hsv,λh=>(by rw[getD_set (by omega),if_pos rfl]at h;cases h),λ_=>hr⟩)
 · rintro listed a w' hs ⟨rfl,_,hw'⟩ hr
   have hall:=all_listed (by decide +kernel) hr
   have hs':listed.size=12:=hs
   have ht:∀i,i<12->listed.getD i false=true:=λi hi=>getD_ft (hall i hi) (by omega)
   obtain⟨h6,b6⟩:=hw' (ht 11 (by omega))
   rw[oAct_all (λk hk=>ht k (by omega)),hpre,hvs,hdd]
   clear hall hr ht hs hs' hpre hvs hdd hpl hvl
   simp only[List.cons_append,List.nil_append]
   go_wp2_with fail
   refine leaves_cons (f:=149) (args:=#[.pointer (some ⟨p.rp,0,none⟩),.int .i64 ((ftR (G1.erase X2.2) k1:Nat):Int)]) (by simp) (by simp[go_sem]) ?_
   refine(h6.give .returning HF2.out HF3.out).mono ?_
   rintro y u' w7 ⟨rfl,rfl,h7,b7⟩
   have b45:Fk p.lo w4 w5:=by rw[hw5];exact⟨rfl,rfl,rfl,Nat.le_refl _,λ_ _ _=>rfl,λ_ _ _ _ _ _ _ _ _=>rfl⟩
   refine⟨_,results_tmp rfl _ _ _,rfl,?_,(((F0.out.trans HB4.out).trans b45).trans b6).trans b7⟩
   rw[HF1.out,HK1.out]at h7
   simp only[List.append_assoc]at h7
   exact h7
 · rw[hpre,hvs,hdd];rfl
 · exact absurd h (by decide)
end Y
end
section
open Go.RowKit
open K (Nm Ex Do)
namespace Y
theorem ew_get(q:Int)(n:Nm)(e:Ex)(he:K.good e=true)(hx:ExW e):ExW (.get q n e):=by
 intro w p C G W K h hF hn hc
 have hc':C.length+(cE e+11)<90000:=hc
 have a1:=as_Get_Number
 have a2:=as_Get_Use
 have a3:=as_Get_Get
 obtain⟨W0,hW⟩:∃W0,w.alloc (.cells #[.int .i64 q,.string n.text,.int .i64 n.kind,.bool n.sec,.int .i64 n.size,.int .i64 n.place,exV e] 210 (0,0))=W0:=⟨_,rfl⟩
 have h0:WAt W0 p C G W K:=by rw[<-hW];exact h.alloc _
 have F0:Hid (Fk p.lo w W0):=by rw[<-hW];exact(Fk.refl _ _).alloc _
 have RF:At W0 w.heap.size 210 [.int .i64 q,.string n.text,.int .i64 n.kind,.bool n.sec,.int .i64 n.size,.int .i64 n.place,exV e]:=by rw[<-hW];exact At.alloc_new w _ _
 have hg:=get_w q n e he hx W0 p C G W K h0 hF hn (by omega)
 have e1:exC G W (.get q n e)=((exC G W e).1++(plC (G.erase (exC G W e).2) (exC G W e).2 n++[.ld (exC G W e).2 (exC G W e).2]),(exC G W e).2):=rfl
 rw[e1]
 dsimp only
 have z0:=RF.cell 0
 have z1:=RF.cell 1
 have z2:=RF.cell 2
 have z3:=RF.cell 3
 have z4:=RF.cell 4
 have z5:=RF.cell 5
 have z6:=RF.cell 6
 simp only[List.getElem?_cons_zero,List.getElem?_cons_succ]at z0 z1 z2 z3 z4 z5 z6
 show Calls Tryz.prog _ #[WV p,.iface 210 (.agg #[.int .i64 q,.string n.text,.int .i64 n.kind,.bool n.sec,.int .i64 n.size,.int .i64 n.place,exV e])] w _
 rw[exV_good he]at hg z6 hW ⊢
 generalize exC G W e=X at*
 generalize plC (G.erase X.2) X.2 n=Q at*
 generalize exT e=te at*
 generalize exP e=xe at*
 clear h h0 RF hx he e1 hc hc'
 go_enter Tryz.func148,Tryz.ntmps148
 go_wp2_with fail
 refine hg.mono ?_
 rintro y w1 ⟨rfl,h1,b1⟩
 go_wp2_with fail
 go_ret
 exact⟨rfl,h1,F0.out.trans b1⟩
theorem ew_op(q:Int)(o:UInt8)(ho:V.isOp o=true)(l r:Ex)(gl:K.good l=true)(gr:K.good r=true)(xl:ExW l)(xr:ExW r):ExW (.op q o l r):=by
 intro w p C G W K h hF hn hc
 have a1:=as_Operation_Number
 have a2:=as_Operation_Use
 have a3:=as_Operation_Get
 have a4:=as_Operation_Operation
 obtain⟨W0,hW⟩:∃W0,w.alloc (.cells #[.int .i64 q,.int .u8 o.toNat,exV l,exV r] 212 (0,0))=W0:=⟨_,rfl⟩
 have h0:WAt W0 p C G W K:=by rw[<-hW];exact h.alloc _
 have F0:Hid (Fk p.lo w W0):=by rw[<-hW];exact(Fk.refl _ _).alloc _
 have RF:At W0 w.heap.size 212 [.int .i64 q,.int .u8 o.toNat,exV l,exV r]:=by rw[<-hW];exact At.alloc_new w _ _
 have hg:=operation_w q o ho l r gl gr xl xr W0 p C G W K h0 hF hn hc
 have z0:=RF.cell 0
 have z1:=RF.cell 1
 have z2:=RF.cell 2
 have z3:=RF.cell 3
 simp only[List.getElem?_cons_zero,List.getElem?_cons_succ]at z0 z1 z2 z3
 show Calls Tryz.prog _ #[WV p,.iface 212 (.agg #[.int .i64 q,.int .u8 o.toNat,exV l,exV r])] w _
 rw[exV_good gl,exV_good gr]at hg hW ⊢
 rw[exV_good gl]at z2
 rw[exV_good gr]at z3
 generalize exC G W (.op q o l r)=X at*
 generalize exT l=te at*
 generalize exP l=xe at*
 generalize exT r=te2 at*
 generalize exP r=xe2 at*
 clear h h0 RF xl xr gl gr hc
 go_enter Tryz.func148,Tryz.ntmps148
 go_wp2_with fail
 refine hg.mono ?_
 rintro y w1 ⟨rfl,h1,b1⟩
 go_wp2_with fail
 go_ret
 exact⟨rfl,h1,F0.out.trans b1⟩
theorem ew_cho(q:Int)(a b c:Ex)(ga:K.good a=true)(gb:K.good b=true)(gc:K.good c=true)(xa:ExW a)(xb:ExW b)(xc:ExW c):ExW (.cho q a b c):=by
 intro w p C G W K h hF hn hc
 have a1:=as_Choose_Number
 have a2:=as_Choose_Use
 have a3:=as_Choose_Get
 have a4:=as_Choose_Operation
 have a5:=as_Choose_Choose
 obtain⟨W0,hW⟩:∃W0,w.alloc (.cells #[.int .i64 q,exV a,exV b,exV c] 214 (0,0))=W0:=⟨_,rfl⟩
 have h0:WAt W0 p C G W K:=by rw[<-hW];exact h.alloc _
 have F0:Hid (Fk p.lo w W0):=by rw[<-hW];exact(Fk.refl _ _).alloc _
 have RF:At W0 w.heap.size 214 [.int .i64 q,exV a,exV b,exV c]:=by rw[<-hW];exact At.alloc_new w _ _
 have hg:=choose_w q a b c ga gb gc xa xb xc W0 p C G W K h0 hF hn hc
 have z0:=RF.cell 0
 have z1:=RF.cell 1
 have z2:=RF.cell 2
 have z3:=RF.cell 3
 simp only[List.getElem?_cons_zero,List.getElem?_cons_succ]at z0 z1 z2 z3
 show Calls Tryz.prog _ #[WV p,.iface 214 (.agg #[.int .i64 q,exV a,exV b,exV c])] w _
 rw[exV_good ga,exV_good gb,exV_good gc]at hg hW ⊢
 rw[exV_good ga]at z1
 rw[exV_good gb]at z2
 rw[exV_good gc]at z3
 generalize exC G W (.cho q a b c)=X at*
 generalize exT a=te at*
 generalize exP a=xe at*
 generalize exT b=te2 at*
 generalize exP b=xe2 at*
 generalize exT c=te3 at*
 generalize exP c=xe3 at*
 clear h h0 RF xa xb xc ga gb gc hc
 go_enter Tryz.func148,Tryz.ntmps148
 go_wp2_with fail
 refine hg.mono ?_
 rintro y w1 ⟨rfl,h1,b1⟩
 go_wp2_with fail
 go_ret
 exact⟨rfl,h1,F0.out.trans b1⟩
theorem ew_all{N:Nat}:∀e:Ex,V.wfE N e->ExW e
 |.num v,_=>ew_num v
 |.use n,_=>ew_use n
 |.get q n e,h=>by
  unfold V.wfE at h
  exact ew_get q n e (V.wf_good h.2.2.2.2) (ew_all e h.2.2.2.2)
 |.op q o l r,h=>by
  unfold V.wfE at h
  exact ew_op q o h.1 l r (V.wf_good h.2.1) (V.wf_good h.2.2) (ew_all l h.2.1) (ew_all r h.2.2)
 |.cho q a b c,h=>by
  unfold V.wfE at h
  exact ew_cho q a b c (V.wf_good h.1) (V.wf_good h.2.1) (V.wf_good h.2.2) (ew_all a h.1) (ew_all b h.2.1) (ew_all c h.2.2)
 |.none,h=>by unfold V.wfE at h;exact h.elim
theorem WAt.kv{w:World}{p:WP}{C:List Ins}{G W K:List Nat}(h:WAt w p C G W K):∃ka kc,w.cell? ⟨p.wb,259,none⟩=some (.slice ka K.length kc)/\p.wb<w.heap.size/\∀(j:Nat) x,K[j]?=some x->∃g,ka=some ⟨g,0,none⟩/\w.cell? ⟨g,j,none⟩=some (.int .i64 (x:Int)):=by
 obtain⟨cv,kv,a1,_,o2,_⟩:=h.rows
 have c:=(wcell a1 h.tab).2.2.2
 rcases Joins.ownsRow_forms o2 with⟨rfl,h0⟩|⟨g,cc,rfl⟩
 · refine⟨none,0,by rw[c,h0],a1.lt,λj x hj=>?_⟩
   have:=(List.getElem?_eq_some_iff.1 hj).1
   omega
 · refine⟨_,_,c,a1.lt,λj x hj=>⟨g,rfl,(own_cells o2).2.2 j _ ?_⟩⟩
   unfold ints ofN
   rw[List.getElem?_map,List.getElem?_map,hj]
   rfl
theorem insec_c{w:World}{p:WP}{C:List Ins}{G W K:List Nat}(h:WAt w p C G W K):
 Calls Tryz.prog 185 #[WV p] w λx w'=>x=.returned (.bool (decide (0<K.length)))/\w'=w:=by
 obtain⟨ka,kc,c,_,_⟩:=h.kv
 clear h
 go_enter Tryz.func185,Tryz.ntmps185
 go_wp2_with fail
 go_ret
 exact⟨by first |rfl |(simp),rfl⟩
theorem cond_none{w:World}{p:WP}{C:List Ins}{r:Nat}{G W:List Nat}(h:WAt w p C (r::G) W [])(hf:C.length<100000):
 Calls Tryz.prog 212 #[WV p] w λx w'=>x=.returned (.int .i64 (r:Int))/\WAt w' p (C++cnC r none) G W []/\Fk p.lo w w':=by
 have hi:=insec_c h
 have hnu:=number_c h hf 1
 clear h
 go_enter Tryz.func212,Tryz.ntmps212
 go_wp2_with fail
 refine hi.mono ?_
 rintro x w1 ⟨rfl,rfl⟩
 go_wp2_with fail
 refine hnu.mono ?_
 rintro x w2 ⟨rfl,h2,b2⟩
 go_wp2_with fail
 go_ret
 exact⟨rfl,h2,b2⟩
theorem cond_some{w:World}{p:WP}{C:List Ins}{r x:Nat}{G W K:List Nat}(h:WAt w p C (r::G) W (K++[x]))(hf:C.length+1<100000)(hK:K.length<=1000):
 Calls Tryz.prog 212 #[WV p] w λy w'=>y=.returned (.int .i64 (r:Int))/\WAt w' p (C++cnC r (some x)) G W (K++[x])/\Fk p.lo w w':=by
 have hi:=insec_c h
 obtain⟨ka,kc,c,wl,hcell⟩:=h.kv
 obtain⟨g,rfl,cx⟩:=hcell K.length x (by simp)
 clear hcell
 have hlo:=fun(w':World) (h':WAt w' p C (r::G) W (K++[x]))=>load_c h' hf (x:Int)
 have hlen:(K++[x]).length=K.length+1:=by simp
 rw[hlen]at c hi
 have e1:wrap64 (((K.length+1:Nat):Int)-1)=(K.length:Int):=by unfold wrap64;omega
 have l1:K.length<K.length+1:=by omega
 have l2:¬K.length+1<=K.length:=by omega
 have e2:IntKind.i64.wrap (((K.length+1:Nat):Int)-1)=(K.length:Int):=by rw[IntKind.wrap_i64];omega
 have l3:((K.length:Nat):Int)<((K.length+1:Nat):Int):=by omega
 have l4:(0:Int)<=((K.length:Nat):Int):=by omega
 have d1:decide (0<K.length+1)=true:=by simp
 rw[d1]at hi
 generalize hL:K.length+1=L at*
 generalize hM:K.length=M at*
 have H:=hide h
 clear h hL hM hK hlen d1
 go_enter Tryz.func212,Tryz.ntmps212
 go_wp2_with fail
 refine hi.mono ?_
 rintro y w1 ⟨rfl,rfl⟩
 go_upto_region 3 with fail
 have hlo':=hlo w1.drew (H.out.same (λ_ _=>rfl))
 go_region_with (first |(go_at_call 179;refine hlo'.mono ?_;rintro y w2 ⟨rfl,h2,b2⟩))
 all_goals go_wp2_with fail
 all_goals go_ret
 all_goals exact⟨rfl,h2,(⟨rfl,rfl,rfl,Nat.le_refl _,λ_ _ _=>rfl,λ_ _ _ _ _ _ _ _ _=>rfl⟩:Fk p.lo w1 w1.drew).trans b2⟩
theorem last_app{K:List Nat}(h:¬K=[]):∃L x,K=L++[x]:=⟨K.dropLast,K.getLast h,(List.dropLast_concat_getLast h).symm⟩
theorem cond_c{w:World}{p:WP}{C:List Ins}{r:Nat}{G W K:List Nat}(h:WAt w p C (r::G) W K)(hf:C.length+1<100000)(hK:K.length<=1000):
 Calls Tryz.prog 212 #[WV p] w λy w'=>y=.returned (.int .i64 (r:Int))/\WAt w' p (C++cnC r K.getLast?) G W K/\Fk p.lo w w':=by
 by_cases c:K=[]
 · subst c
   exact cond_none h (by omega)
 · obtain⟨L,x,rfl⟩:=last_app c
   rw[List.getLast?_concat]
   exact cond_some h hf (by simp at hK;omega)
end Y
end
end Go.Proofs.YtejbgcloblpbfaaGreatDoor
