import Derived.Test.YtejbgcloblpbfaaGreatDoorG20
import Derived.Test.YtejbgcloblpbfaaGreatDoorG21
set_option maxHeartbeats 4000000
set_option maxRecDepth 100000
namespace Go.Proofs.YtejbgcloblpbfaaGreatDoor
section
open Go.RowKit
namespace Y
theorem fetchr_c{w:World}{p:WP}{C:List Ins}{G W K:List Nat}(h:WAt w p C G W K)(a:Nat):
 Calls Tryz.prog 154 #[WV p,kpV (.reg a)] w λx w'=>x=.returned (.int .i64 (a:Int))/\WAt w' p C G W K/\Fk p.lo w w':=by
 have H:=hide (h.alloc (.cells #[.int .i64 (a:Int),.int .i64 0,.bool false] 221 (0,0)))
 clear h
 show Calls Tryz.prog _ #[WV p,.agg #[.int .i64 (a:Int),.int .i64 0,.bool false]] w _
 go_enter_defers Tryz.func154,Tryz.ntmps154
 go_wp2_with fail
 exact⟨_,results_tmp rfl _ _ _,rfl,H.out,(Fk.refl _ _).alloc _⟩
theorem WAt.giveW{w:World}{p:WP}{C:List Ins}{G W K:List Nat}{x:Nat}(u:FrameMode)(h:WAt w p C G W K)(hr:x∉W)(hl:W.length<p.wc):
 CallsD Tryz.prog 149 #[.pointer (some ⟨p.wp,0,none⟩),.int .i64 (x:Int)] u w λy u' w'=>u'=u/\(y=.returned (.tuple #[])/\WAt w' p C G (ins x W) K/\Fk p.lo w w'):=
 (give_d u h.words hr hl).mono λ_ _ _ h'=>⟨h'.1,h'.2.1,h.words' h'.2.2.1 h'.2.2.2⟩
theorem getD_tf'{listed:Array Bool}{i:Nat}(h:listed.getD i true=false):listed.getD i false=false:=by
 rw[Array.getD_eq_getD_getElem?]at h ⊢
 cases hx:listed[i]? with
 |none=>rfl
 |some u=>rw[hx]at h;simpa using h
theorem getD_ft{listed:Array Bool}{i:Nat}(h:listed.getD i true=true)(hi:i<listed.size):listed.getD i false=true:=by
 rw[Array.getD_eq_getD_getElem?]at h ⊢
 rw[Array.getElem?_eq_getElem hi]at h ⊢
 exact h
def fAct(p:WP)(x:Nat)(q:Nat)(l:Array Bool):Act:=
 {tmps:=#[WV p,.agg #[.int .i64 0,.int .i64 (x:Int),.bool true],undef,.pointer (some ⟨q,0,none⟩),.int .i64 0,.pointer (some ⟨q,2,none⟩),.bool true,.bool false,undef,undef,(if l.getD 0 false=true then WV p else undef),(if l.getD 1 false=true then WV p else undef),(if l.getD 2 false=true then .pointer (some ⟨p.wb,2,none⟩)else undef),(if l.getD 3 false=true then .pointer (some ⟨p.wp,0,none⟩)else undef),(if l.getD 4 false=true then .pointer (some ⟨q,1,none⟩)else undef),(if l.getD 5 false=true then .int .i64 (x:Int)else undef),undef,undef,undef,undef],
  defers:=if l.getD 6 false=true then [{target:=.fn (.func 149) #[],args:=#[.pointer (some ⟨p.wp,0,none⟩),.int .i64 (x:Int)]}]else []}
theorem fAct0{p:WP}{x q:Nat}{l:Array Bool}(hl:l.size=7):(fAct p x q l).put (some 10) (WV p)=fAct p x q (l.setIfInBounds 0 true):=by
 unfold fAct Act.put
 simp[getD_set (listed:=l) (i:=0) (by omega)]
theorem fAct1{p:WP}{x q:Nat}{l:Array Bool}(hl:l.size=7):(fAct p x q l).put (some 11) (WV p)=fAct p x q (l.setIfInBounds 1 true):=by
 unfold fAct Act.put
 simp[getD_set (listed:=l) (i:=1) (by omega)]
theorem fAct2{p:WP}{x q:Nat}{l:Array Bool}(hl:l.size=7):(fAct p x q l).put (some 12) (.pointer (some ⟨p.wb,2,none⟩))=fAct p x q (l.setIfInBounds 2 true):=by
 unfold fAct Act.put
 simp[getD_set (listed:=l) (i:=2) (by omega)]
theorem fAct3{p:WP}{x q:Nat}{l:Array Bool}(hl:l.size=7):(fAct p x q l).put (some 13) (.pointer (some ⟨p.wp,0,none⟩))=fAct p x q (l.setIfInBounds 3 true):=by
 unfold fAct Act.put
 simp[getD_set (listed:=l) (i:=3) (by omega)]
theorem fAct4{p:WP}{x q:Nat}{l:Array Bool}(hl:l.size=7):(fAct p x q l).put (some 14) (.pointer (some ⟨q,1,none⟩))=fAct p x q (l.setIfInBounds 4 true):=by
 unfold fAct Act.put
 simp[getD_set (listed:=l) (i:=4) (by omega)]
theorem fAct5{p:WP}{x q:Nat}{l:Array Bool}(hl:l.size=7):(fAct p x q l).put (some 15) (.int .i64 (x:Int))=fAct p x q (l.setIfInBounds 5 true):=by
 unfold fAct Act.put
 simp[getD_set (listed:=l) (i:=5) (by omega)]
theorem fAct6{p:WP}{x q:Nat}{l:Array Bool}(hl:l.size=7)(h6:l.getD 6 false=false):({(fAct p x q l)with defers:={target:=.fn (.func 149) #[],args:=#[.pointer (some ⟨p.wp,0,none⟩),.int .i64 (x:Int)]}::(fAct p x q l).defers}:Act)=fAct p x q (l.setIfInBounds 6 true):=by
 unfold fAct
 simp[getD_set (listed:=l) (i:=6) (by omega),h6]
theorem fetchw_c{w:World}{p:WP}{C:List Ins}{f x:Nat}{G W K:List Nat}(h:WAt w p C (f::G) W K)(hf:C.length+1<100000)(hx:x∉W)(hc:W.length<p.wc):
 Calls Tryz.prog 154 #[WV p,kpV (.word x)] w λy w'=>y=.returned (.int .i64 (f:Int))/\WAt w' p (C++[.kst f (x:Nat),.ld f f]) G (ins x W) K/\Fk p.lo w w':=by
 obtain⟨W0,hW⟩:∃W0,w.alloc (.cells #[.int .i64 0,.int .i64 (x:Int),.bool true] 221 (0,0))=W0:=⟨_,rfl⟩
 have h0:WAt W0 p C (f::G) W K:=by rw[<-hW];exact h.alloc _
 have RF:At W0 w.heap.size 221 [.int .i64 0,.int .i64 (x:Int),.bool true]:=by rw[<-hW];exact At.alloc_new w _ _
 have F0:Hid (Fk p.lo w W0):=by rw[<-hW];exact(Fk.refl _ _).alloc _
 obtain⟨c1,c2⟩:=h0.c
 have hl:=load_c (h0.same (w':=W0.drew) (λ_ _=>rfl)) hf (x:Int)
 have z1:=RF.cell 1
 have z2:=RF.cell 2
 simp only[List.getElem?_cons_zero,List.getElem?_cons_succ]at z1 z2
 have H0:=hide h0
 clear h h0 RF
 show Calls Tryz.prog _ #[WV p,.agg #[.int .i64 0,.int .i64 (x:Int),.bool true]] w _
 go_enter_defers Tryz.func154,Tryz.ntmps154
 go_upto_region 3 with fail
 refine wp_region_any (by kernel_rfl) ?_
 refine wpAny_cl (I:=λlisted a w'=>w'=W0.drew/\a=fAct p x w.heap.size listed) ?_ ?_ _ _ ⟨rfl,?_⟩
 · rintro listed a w' i hs hcl ⟨rfl,rfl⟩ hi
   obtain⟨hi1,hi2,hd⟩:=mem_ready hi
   have hs':listed.size=7:=hs
   have hn:=getD_tf' hi2
   have hi3:i<7:=hi1
   have hor:i=0∨i=1∨i=2∨i=3∨i=4∨i=5∨i=6:=by omega
   rcases hor with rfl |rfl |rfl |rfl |rfl |rfl |rfl
   · -- 0
     refine wpOp_step rfl ?_
     intro K hK
     refine st_run rfl (v:=WV p) (w':=W0.drew) ?_ (hK _ _ ⟨rfl,fAct0 hs'⟩)
     simp[execOp,fAct,go_sem]
   · -- 1
     have l0:listed.getD 0 false=true:=hd _ rfl ⟨0,.data⟩ (by simp) rfl
     refine wpOp_step rfl ?_
     intro K hK
     refine st_run rfl (v:=WV p) (w':=W0.drew) ?_ (hK _ _ ⟨rfl,fAct1 hs'⟩)
     simp[execOp,fAct,go_sem,l0]
   · -- 2
     have l1:listed.getD 1 false=true:=hd _ rfl ⟨1,.data⟩ (by simp) rfl
     refine wpOp_step rfl ?_
     intro K hK
     refine st_run rfl (v:=.pointer (some ⟨p.wb,2,none⟩)) (w':=W0.drew) ?_ (hK _ _ ⟨rfl,fAct2 hs'⟩)
     simp[execOp,fAct,go_sem,l1]
   · -- 3
     have l2:listed.getD 2 false=true:=hd _ rfl ⟨2,.data⟩ (by simp) rfl
     refine wpOp_step rfl ?_
     intro K hK
     refine st_run rfl (v:=.pointer (some ⟨p.wp,0,none⟩)) (w':=W0.drew) ?_ (hK _ _ ⟨rfl,fAct3 hs'⟩)
     simp[execOp,fAct,go_sem,l2,c2]
   · -- 4
     refine wpOp_step rfl ?_
     intro K hK
     refine st_run rfl (v:=.pointer (some ⟨w.heap.size,1,none⟩)) (w':=W0.drew) ?_ (hK _ _ ⟨rfl,fAct4 hs'⟩)
     simp[execOp,fAct,go_sem]
   · -- 5
     have l4:listed.getD 4 false=true:=hd _ rfl ⟨4,.data⟩ (by simp) rfl
     refine wpOp_step rfl ?_
     intro K hK
     refine st_run rfl (v:=.int .i64 (x:Int)) (w':=W0.drew) ?_ (hK _ _ ⟨rfl,fAct5 hs'⟩)
     simp[execOp,fAct,go_sem,l4,z1]
   · -- 6
     have l3:listed.getD 3 false=true:=hd _ rfl ⟨3,.data⟩ (by simp) rfl
     have l5:listed.getD 5 false=true:=hd _ rfl ⟨5,.data⟩ (by simp) rfl
     refine wpOp_step rfl ?_
     intro K hK
     refine st_of rfl ?_
     unfold Oper.wp
     have hk:=hK _ _ ⟨rfl,fAct6 (p:=p) (x:=x) (q:=w.heap.size) hs' hn⟩
     simp[execOp,go_sem,fAct,l3,l5]at hk ⊢
     exact hk
 · rintro listed a w' hs ⟨rfl,rfl⟩ hr
   have hall:=all_listed (by decide +kernel) hr
   have hs':listed.size=7:=hs
   have ht:∀i,i<7->listed.getD i false=true:=λi hi=>getD_ft (hall i hi) (by omega)
   have hA:fAct p x w.heap.size listed=fAct p x w.heap.size (Array.replicate 7 true):=by
    unfold fAct
    rw[ht 0 (by omega),ht 1 (by omega),ht 2 (by omega),ht 3 (by omega),ht 4 (by omega),ht 5 (by omega),ht 6 (by omega)]
    rfl
   rw[hA]
   clear hall hr ht hA hs hs'
   show _
   unfold fAct
   simp only[show(Array.replicate 7 true).getD 0 false=true from rfl,show(Array.replicate 7 true).getD 1 false=true from rfl,show(Array.replicate 7 true).getD 2 false=true from rfl,show(Array.replicate 7 true).getD 3 false=true from rfl,show(Array.replicate 7 true).getD 4 false=true from rfl,show(Array.replicate 7 true).getD 5 false=true from rfl,show(Array.replicate 7 true).getD 6 false=true from rfl,if_true]
   go_wp2_with fail
   refine hl.mono ?_
   rintro y w1 ⟨rfl,h1,b1⟩
   go_wp2_with fail
   refine leaves_cons (f:=149) (args:=#[.pointer (some ⟨p.wp,0,none⟩),.int .i64 (x:Int)]) (by simp) (by simp[go_sem]) ?_
   refine(h1.giveW .returning hx hc).mono ?_
   rintro e u' w5 ⟨rfl,rfl,h5,b5⟩
   have FD:Fk p.lo W0 W0.drew:=⟨rfl,rfl,rfl,Nat.le_refl _,λ_ _ _=>rfl,λ_ _ _ _ _ _ _ _ _=>rfl⟩
   exact⟨_,results_tmp rfl _ _ _,rfl,h5,((F0.out.trans FD).trans b1).trans b5⟩
 · rfl
end Y
end
section
open Go.RowKit
open K (Nm Ex Do)
namespace Y
def ExW(e:Ex):Prop:=∀(w:World) (p:WP) (C:List Ins) (G W K:List Nat),WAt w p C G W K->Fine G W 0->need e<=W.length->C.length+cE e<90000→
 Calls Tryz.prog 148 #[WV p,exV e] w λx w'=>x=.returned (.int .i64 (((exC G W e).2:Nat):Int))/\WAt w' p (C++(exC G W e).1) (G.erase (exC G W e).2) W K/\Fk p.lo w w'
abbrev nmA(n:Nm):Value:=.agg #[.string n.text,.int .i64 n.kind,.bool n.sec,.int .i64 n.size,.int .i64 n.place]
theorem placeIn_c(n:Nm)(e:Ex)(he:K.good e=true)(hx:ExW e)(w:World)(p:WP)(C:List Ins)(G W K:List Nat)(h:WAt w p C G W K)(hF:Fine G W 0)(hn:need e<=W.length)(hc:C.length+cE e+10<90000):
 Calls Tryz.prog 153 #[WV p,nmA n,exV e] w λx w'=>x=.returned (.int .i64 (((exC G W e).2:Nat):Int))/\WAt w' p (C++((exC G W e).1++plC (G.erase (exC G W e).2) (exC G W e).2 n)) (G.erase (exC G W e).2) W K/\Fk p.lo w w':=by
 obtain⟨x0,x1,x2,x3,x4⟩:=n
 obtain⟨W0,hW⟩:∃W0,w.alloc (.cells #[.string x0,.int .i64 x1,.bool x2,.int .i64 x3,.int .i64 x4] 96 (0,0))=W0:=⟨_,rfl⟩
 have h0:WAt W0 p C G W K:=by rw[<-hW];exact h.alloc _
 have RF:At W0 w.heap.size 96 [.string x0,.int .i64 x1,.bool x2,.int .i64 x3,.int .i64 x4]:=by rw[<-hW];exact At.alloc_new w _ _
 have F0:Hid (Fk p.lo w W0):=by rw[<-hW];exact(Fk.refl _ _).alloc _
 have hex:=hx W0 p C G W K h0 hF hn (by omega)
 have hm:=exC_mem e hF
 have hel:=exC_len e G W
 have hsr:=h.regs.srt
 have h8:=h.lenG
 have hg3:=hF.g3
 have hgl:(G.erase (exC G W e).2).length=G.length-1:=List.length_erase_of_mem hm
 have hs1:=hsr.erase (exC G W e).2
 generalize exC G W e=X at*
 obtain⟨z,q,G3,hG⟩:=two (g:=G.erase X.2) (by omega)
 rw[hG]at hex hs1 ⊢
 rw[exV_good he]at hex ⊢
 generalize exT e=te at*
 generalize exP e=xe at*
 have HRF:=hide RF
 clear h h0 RF hx he
 go_enter_defers Tryz.func153,Tryz.ntmps153
 go_wp2_with fail
 refine hex.mono ?_
 rintro y w1 ⟨rfl,h1,b1⟩
 have R1:=b1.at_ HRF.out (by decide) (by decide) (by decide) (by decide)
 have k3:=R1.cell 3
 simp only[List.getElem?_cons_zero,List.getElem?_cons_succ]at k3
 have hnu:=number_c h1 (by rw[List.length_append];omega) x3
 have HR1:=hide R1
 clear h1 R1
 go_wp2_with fail
 refine hnu.mono ?_
 rintro y w2 ⟨rfl,h2,b2⟩
 obtain⟨c1,_⟩:=h2.c
 have hr1:=remainder_c h2 (by simp only[List.length_append,List.length_cons,List.length_nil];omega) X.2 z
 clear h2
 go_wp2_with fail
 refine hr1.mono ?_
 rintro y w3 ⟨rfl,h3,b3⟩
 have hp1:=plus_w h3 (by simp only[List.length_append,List.length_cons,List.length_nil];omega) X.2 X.2 z
 clear h3
 go_wp2_with fail
 refine hp1.mono ?_
 rintro y w4 ⟨rfl,h4,b4⟩
 have hr2:=remainder_c h4 (by simp only[List.length_append,List.length_cons,List.length_nil];omega) X.2 z
 clear h4
 go_wp2_with fail
 refine hr2.mono ?_
 rintro y w5 ⟨rfl,h5,b5⟩
 have b25:=((b2.trans b3).trans b4).trans b5
 have R5:=b25.at_ HR1.out (by decide) (by decide) (by decide) (by decide)
 have k4:=R5.cell 4
 simp only[List.getElem?_cons_zero,List.getElem?_cons_succ]at k4
 have hst:=set_c h5 (by simp only[List.length_append,List.length_cons,List.length_nil];omega) z x4
 clear h5 R5
 go_wp2_with fail
 refine hst.mono ?_
 rintro y w6 ⟨rfl,h6,b6⟩
 have hp2:=plus_w h6 (by simp only[List.length_append,List.length_cons,List.length_nil];omega) X.2 X.2 z
 clear h6
 go_wp2_with fail
 refine hp2.mono ?_
 rintro y w7 ⟨rfl,h7,b7⟩
 go_wp2_with fail
 refine leaves_cons (f:=149) (args:=#[.pointer (some ⟨p.rp,0,none⟩),.int .i64 (z:Int)]) (by simp) (by simp[go_sem]) ?_
 refine(h7.give .returning (Srt.hd_not hs1) (by have:(z::q::G3).length=G.length-1:=by rw[<-hG];exact hgl
                                                simp at this ⊢;omega)).mono ?_
 rintro y u' w8 ⟨rfl,rfl,h8',b8⟩
 refine⟨_,results_tmp rfl _ _ _,rfl,?_,((((F0.out.trans b1).trans b25).trans b6).trans b7).trans b8⟩
 rw[Srt.ins_hd hs1]at h8'
 simp only[List.append_assoc]at h8'
 exact h8'
theorem keep_all{w:World}{p:WP}{C:List Ins}{G W K:List Nat}{a:Nat}(h:WAt w p C (G.erase a) W K)(hF:Fine G W 0)(hs:Srt G)(ha:a∈G)(hw:0<W.length)(hf:C.length+1<100000):
 Calls Tryz.prog 152 #[WV p,.int .i64 (a:Int)] w λy w'=>y=.returned (kpV (kpK G W a))/\WAt w' p (C++kpC G W a) (kpG G a) (kpW G W) K/\Fk p.lo w w':=by
 have hl:=List.length_erase_of_mem ha
 have g3:=hF.g3
 by_cases c:4<=G.length
 · unfold kpK kpC kpG kpW
   rw[if_pos c,if_pos c,if_pos c,if_pos c,List.append_nil]
   exact keepr_c h (by omega) a
 · unfold kpK kpC kpG kpW
   rw[if_neg c,if_neg c,if_neg c,if_neg c]
   obtain⟨t,G',hG⟩:∃t G',G.erase a=t::G':=by
    cases hx:G.erase a with
    |nil=>rw[hx]at hl;simp at hl;omega
    |cons t G'=>exact⟨_,_,rfl⟩
   obtain⟨x,W',rfl⟩:∃x W',W=x::W':=by
    cases W with
    |nil=>simp at hw
    |cons x W'=>exact⟨_,_,rfl⟩
   rw[hG]at h hl ⊢
   have ha':a∉t::G':=by rw[<-hG];exact λe=>(hF.gn.mem_erase_iff.1 e).1 rfl
   refine(keepw_c h (by simp at hl;omega) hf a ha').mono λy w' hh=>⟨hh.1,?_,hh.2.2⟩
   have e:ins a (t::G')=G:=by rw[<-hG];exact ins_erase hs ha
   have h2:=hh.2.1
   rw[e]at h2
   exact h2
def backW(W':List Nat):Kp->List Nat
 |.reg _=>W'
 |.word x=>ins x W'
theorem fetch_all{w:World}{p:WP}{C:List Ins}{H W K:List Nat}{k:Kp}(h:WAt w p C H W K)(hl:0<H.length)(hx:∀x,k=.word x->x∉W/\W.length<p.wc)(hf:C.length+1<100000):
 Calls Tryz.prog 154 #[WV p,kpV k] w λy w'=>y=.returned (.int .i64 ((ftR H k:Nat):Int))/\WAt w' p (C++ftC H k) (ftG H k) (backW W k) K/\Fk p.lo w w':=by
 cases k with
 |reg a=>
  refine(fetchr_c h a).mono λy w' hh=>⟨hh.1,?_,hh.2.2⟩
  show WAt w' p (C++[]) H W K
  rw[List.append_nil]
  exact hh.2.1
 |word x=>
  obtain⟨f,H',rfl⟩:∃f H',H=f::H':=by
   cases H with
   |nil=>simp at hl
   |cons f H'=>exact⟨_,_,rfl⟩
  exact fetchw_c h hf (hx x rfl).1 (hx x rfl).2
theorem kp_back{G W:List Nat}{a:Nat}(hs:Srt W)(hw:0<W.length):backW (kpW G W) (kpK G W a)=W/\∀x,kpK G W a=.word x->x∉kpW G W/\(kpW G W).length<W.length:=by
 unfold kpW kpK
 by_cases c:4<=G.length
 · rw[if_pos c,if_pos c]
   exact⟨rfl,λx e=>by cases e⟩
 · rw[if_neg c,if_neg c]
   obtain⟨x,W',rfl⟩:∃x W',W=x::W':=by
    cases W with
    |nil=>simp at hw
    |cons x W'=>exact⟨_,_,rfl⟩
   refine⟨Srt.ins_hd hs,λy e=>?_⟩
   cases e
   exact⟨Srt.hd_not hs,Nat.lt_succ_self _⟩
theorem ft_back{G W:List Nat}{a y:Nat}(hF:Fine G W 0)(l8:G.length<=8)(hs:Srt G)(ha:a∈G)(hy:y∈kpG G a):
 ins (ftR ((kpG G a).erase y) (kpK G W a)) (ftG ((kpG G a).erase y) (kpK G W a))=G.erase y/\ftR ((kpG G a).erase y) (kpK G W a)∉ftG ((kpG G a).erase y) (kpK G W a)/\(ftG ((kpG G a).erase y) (kpK G W a)).length<8:=by
 have g3:=hF.g3
 unfold kpG kpK at*
 by_cases c:4<=G.length
 · rw[if_pos c]at*
   rw[if_pos c]
   have hay:a≠y:=λe=>by subst e;exact(hF.gn.mem_erase_iff.1 hy).1 rfl
   have hyG:=List.mem_of_mem_erase hy
   have e:(G.erase a).erase y=(G.erase y).erase a:=List.erase_comm _ _
   have hm:a∈G.erase y:=(hF.gn.mem_erase_iff).2 ⟨hay,ha⟩
   show ins a ((G.erase a).erase y)=_/\a∉(G.erase a).erase y/\((G.erase a).erase y).length<8
   rw[e]
   refine⟨ins_erase (hs.erase y) hm,λx=>((hF.gn.erase y).mem_erase_iff.1 x).1 rfl,?_⟩
   rw[List.length_erase_of_mem hm,List.length_erase_of_mem hyG]
   omega
 · rw[if_neg c]at*
   rw[if_neg c]
   have hl:=List.length_erase_of_mem hy
   obtain⟨f,H',hH⟩:∃f H',G.erase y=f::H':=by
    cases hx:G.erase y with
    |nil=>rw[hx]at hl;simp at hl;omega
    |cons f H'=>exact⟨_,_,rfl⟩
   have hsy:=hs.erase y
   rw[hH]at hsy hl ⊢
   exact⟨Srt.ins_hd hsy,Srt.hd_not hsy,by show H'.length<8;simp at hl;omega⟩
end Y
end
end Go.Proofs.YtejbgcloblpbfaaGreatDoor
