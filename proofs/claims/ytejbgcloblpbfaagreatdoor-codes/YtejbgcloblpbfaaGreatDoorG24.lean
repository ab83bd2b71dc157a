import Derived.Test.YtejbgcloblpbfaaGreatDoorG22
import Derived.Test.YtejbgcloblpbfaaGreatDoorG23
set_option maxHeartbeats 4000000
set_option maxRecDepth 100000
namespace Go.Proofs.YtejbgcloblpbfaaGreatDoor
section
open Go.RowKit
open K (Nm Ex Do)
namespace Y
theorem G_cons{G W:List Nat}(hF:Fine G W 0):∃r G',G=r::G':=by
 have:=hF.g3
 cases G with
 |nil=>simp at this
 |cons r G'=>exact⟨_,_,rfl⟩
theorem ew_num(v:Int):ExW (.num v):=by
 intro w p C G W K h hF hn hc
 obtain⟨r,G',rfl⟩:=G_cons hF
 have a1:=as_Number_Number
 obtain⟨W0,hW⟩:∃W0,w.alloc (.cells #[.int .i64 v] 206 (0,0))=W0:=⟨_,rfl⟩
 have h0:WAt W0 p C (r::G') W K:=by rw[<-hW];exact h.alloc _
 have F0:Hid (Fk p.lo w W0):=by rw[<-hW];exact(Fk.refl _ _).alloc _
 have RF:At W0 w.heap.size 206 [.int .i64 v]:=by rw[<-hW];exact At.alloc_new w _ _
 have z0:=RF.cell 0
 simp only[List.getElem?_cons_zero]at z0
 have hnu:=number_c h0 (by have:cE (.num v)=1:=rfl;omega) v
 have e1:exC (r::G') W (.num v)=([.kst r v],r):=rfl
 rw[e1]
 dsimp only
 rw[List.erase_cons_head]
 clear h h0 RF e1
 show Calls Tryz.prog _ #[WV p,.iface 206 (.agg #[.int .i64 v])] w _
 go_enter Tryz.func148,Tryz.ntmps148
 go_wp2_with fail
 refine hnu.mono ?_
 rintro y w1 ⟨rfl,h1,b1⟩
 go_wp2_with fail
 go_ret
 exact⟨rfl,h1,F0.out.trans b1⟩
theorem ew_use(n:Nm):ExW (.use n):=by
 intro w p C G W K h hF hn hc
 obtain⟨r,G',rfl⟩:=G_cons hF
 obtain⟨x0,x1,x2,x3,x4⟩:=n
 have a1:=as_Use_Number
 have a2:=as_Use_Use
 obtain⟨W0,hW⟩:∃W0,w.alloc (.cells #[.string x0,.int .i64 x1,.bool x2,.int .i64 x3,.int .i64 x4] 208 (0,0))=W0:=⟨_,rfl⟩
 have h0:WAt W0 p C (r::G') W K:=by rw[<-hW];exact h.alloc _
 have F0:Hid (Fk p.lo w W0):=by rw[<-hW];exact(Fk.refl _ _).alloc _
 have RF:At W0 w.heap.size 208 [.string x0,.int .i64 x1,.bool x2,.int .i64 x3,.int .i64 x4]:=by rw[<-hW];exact At.alloc_new w _ _
 have z4:=RF.cell 4
 simp only[List.getElem?_cons_zero,List.getElem?_cons_succ]at z4
 have hlo:=load_c h0 (by have:cE (.use ⟨x0,x1,x2,x3,x4⟩)=2:=rfl;omega) x4
 have e1:exC (r::G') W (.use ⟨x0,x1,x2,x3,x4⟩)=([.kst r x4,.ld r r],r):=rfl
 rw[e1]
 dsimp only
 rw[List.erase_cons_head]
 clear h h0 RF e1
 show Calls Tryz.prog _ #[WV p,.iface 208 (.agg #[.string x0,.int .i64 x1,.bool x2,.int .i64 x3,.int .i64 x4])] w _
 go_enter Tryz.func148,Tryz.ntmps148
 go_wp2_with fail
 refine hlo.mono ?_
 rintro y w1 ⟨rfl,h1,b1⟩
 go_wp2_with fail
 go_ret
 exact⟨rfl,h1,F0.out.trans b1⟩
theorem get_w(q:Int)(n:Nm)(e:Ex)(he:K.good e=true)(hx:ExW e)(w:World)(p:WP)(C:List Ins)(G W K:List Nat)(h:WAt w p C G W K)(hF:Fine G W 0)(hn:need e<=W.length)(hc:C.length+cE e+11<90000):
 Calls Tryz.prog 180 #[WV p,.agg #[.int .i64 q,.string n.text,.int .i64 n.kind,.bool n.sec,.int .i64 n.size,.int .i64 n.place,exV e]] w λx w'=>x=.returned (.int .i64 (((exC G W e).2:Nat):Int))/\WAt w' p (C++((exC G W e).1++(plC (G.erase (exC G W e).2) (exC G W e).2 n++[.ld (exC G W e).2 (exC G W e).2]))) (G.erase (exC G W e).2) W K/\Fk p.lo w w':=by
 obtain⟨W0,hW⟩:∃W0,w.alloc (.cells #[.int .i64 q,.string n.text,.int .i64 n.kind,.bool n.sec,.int .i64 n.size,.int .i64 n.place,exV e] 210 (0,0))=W0:=⟨_,rfl⟩
 have h0:WAt W0 p C G W K:=by rw[<-hW];exact h.alloc _
 have F0:Hid (Fk p.lo w W0):=by rw[<-hW];exact(Fk.refl _ _).alloc _
 have RF:At W0 w.heap.size 210 [.int .i64 q,.string n.text,.int .i64 n.kind,.bool n.sec,.int .i64 n.size,.int .i64 n.place,exV e]:=by rw[<-hW];exact At.alloc_new w _ _
 have hpl:=placeIn_c n e he hx W0 p C G W K h0 hF hn (by omega)
 have hel:=exC_len e G W
 have z1:=RF.cell 1
 have z2:=RF.cell 2
 have z3:=RF.cell 3
 have z4:=RF.cell 4
 have z5:=RF.cell 5
 have z6:=RF.cell 6
 simp only[List.getElem?_cons_zero,List.getElem?_cons_succ]at z1 z2 z3 z4 z5 z6
 have hpc:Hid ((plC (G.erase (exC G W e).2) (exC G W e).2 n).length=10):=rfl
 rw[exV_good he]at hpl z6 hW ⊢
 generalize exC G W e=X at*
 generalize plC (G.erase X.2) X.2 n=Q at*
 generalize exT e=te at*
 generalize exP e=xe at*
 clear h h0 RF hx he
 go_enter Tryz.func180,Tryz.ntmps180
 go_wp2_with fail
 refine hpl.mono ?_
 rintro y w1 ⟨rfl,h1,b1⟩
 have hld:=loadFrom_c h1 (by have:=hpc.out;simp only[List.length_append];omega) X.2 X.2
 clear h1
 go_wp2_with fail
 refine hld.mono ?_
 rintro y w2 ⟨rfl,h2,b2⟩
 go_wp2_with fail
 go_ret
 refine⟨rfl,?_,(F0.out.trans b1).trans b2⟩
 simp only[List.append_assoc]at h2
 exact h2
theorem cons_of{l:List Nat}(h:0<l.length):∃a t,l=a::t:=by
 cases l with
 |nil=>simp at h
 |cons a t=>exact⟨_,_,rfl⟩
structure ChB(G W:List Nat)(a b c wc:Nat):Prop where
 h0:0<((kpG (kpG G a) b).erase c).length
 h1:0<(ftG ((kpG (kpG G a) b).erase c) (kpK G W a)).length
 w1:∀x,kpK G W a=.word x->x∉kpW (kpG G a) (kpW G W)/\(kpW (kpG G a) (kpW G W)).length<wc
 w2:∀x,kpK (kpG G a) (kpW G W) b=.word x->x∉backW (kpW (kpG G a) (kpW G W)) (kpK G W a)/\(backW (kpW (kpG G a) (kpW G W)) (kpK G W a)).length<wc
 w3:backW (backW (kpW (kpG G a) (kpW G W)) (kpK G W a)) (kpK (kpG G a) (kpW G W) b)=W
 g1:ftR (ftG ((kpG (kpG G a) b).erase c) (kpK G W a)) (kpK (kpG G a) (kpW G W) b)∉ftG (ftG ((kpG (kpG G a) b).erase c) (kpK G W a)) (kpK (kpG G a) (kpW G W) b)/\(ftG (ftG ((kpG (kpG G a) b).erase c) (kpK G W a)) (kpK (kpG G a) (kpW G W) b)).length<8
 g2:ftR ((kpG (kpG G a) b).erase c) (kpK G W a)∉ins (ftR (ftG ((kpG (kpG G a) b).erase c) (kpK G W a)) (kpK (kpG G a) (kpW G W) b)) (ftG (ftG ((kpG (kpG G a) b).erase c) (kpK G W a)) (kpK (kpG G a) (kpW G W) b))/\(ins (ftR (ftG ((kpG (kpG G a) b).erase c) (kpK G W a)) (kpK (kpG G a) (kpW G W) b)) (ftG (ftG ((kpG (kpG G a) b).erase c) (kpK G W a)) (kpK (kpG G a) (kpW G W) b))).length<8
 g3:ins (ftR ((kpG (kpG G a) b).erase c) (kpK G W a)) (ins (ftR (ftG ((kpG (kpG G a) b).erase c) (kpK G W a)) (kpK (kpG G a) (kpW G W) b)) (ftG (ftG ((kpG (kpG G a) b).erase c) (kpK G W a)) (kpK (kpG G a) (kpW G W) b)))=G.erase c
theorem chB{G W:List Nat}{a b c wc:Nat}(hF:Fine G W 0)(l8:G.length<=8)(hs:Srt G)(hsW:Srt W)(hw:2<=W.length)(hwc:W.length<=wc)(ha:a∈G)(hb:b∈kpG G a)(hc:c∈kpG (kpG G a) b):ChB G W a b c wc:=by
 have g3:=hF.g3
 have gn:=hF.gn
 by_cases c1:4<=G.length
 · have eG:kpG G a=G.erase a:=by unfold kpG;rw[if_pos c1]
   have eW:kpW G W=W:=by unfold kpW;rw[if_pos c1]
   have eK:kpK G W a=.reg a:=by unfold kpK;rw[if_pos c1]
   rw[eG]at hb hc
   have la:=List.length_erase_of_mem ha
   have na:a∉G.erase a:=λe=>(gn.mem_erase_iff.1 e).1 rfl
   have gna:=gn.erase a
   have hsa:=hs.erase a
   by_cases c2:4<=(G.erase a).length
   · have eG2:kpG (G.erase a) b=(G.erase a).erase b:=by unfold kpG;rw[if_pos c2]
     have eW2:kpW (G.erase a) W=W:=by unfold kpW;rw[if_pos c2]
     have eK2:kpK (G.erase a) W b=.reg b:=by unfold kpK;rw[if_pos c2]
     rw[eG2]at hc
     have lb:=List.length_erase_of_mem hb
     have lc:=List.length_erase_of_mem hc
     have nb:b∉(G.erase a).erase b:=λe=>(gna.mem_erase_iff.1 e).1 rfl
     have hca:=List.mem_of_mem_erase hc
     have hcG:=List.mem_of_mem_erase hca
     have hbc:b≠c:=λe=>nb (e▸hc)
     have hac:a≠c:=λe=>na (e▸hca)
     have x1:((G.erase a).erase b).erase c=((G.erase a).erase c).erase b:=List.erase_comm _ _
     have x2:(G.erase a).erase c=(G.erase c).erase a:=List.erase_comm _ _
     have mb:b∈(G.erase a).erase c:=gna.mem_erase_iff.2 ⟨hbc,hb⟩
     have ma:a∈G.erase c:=gn.mem_erase_iff.2 ⟨hac,ha⟩
     have i1:ins b (((G.erase a).erase b).erase c)=(G.erase a).erase c:=by rw[x1];exact ins_erase (hsa.erase c) mb
     refine⟨?_,?_,?_,?_,?_,?_,?_,?_⟩<;>(try rw[eG])<;>(try rw[eW])<;>(try rw[eK])<;>(try rw[eG2])<;>(try rw[eW2])<;>(try rw[eK2])
     · omega
     · show 0<(((G.erase a).erase b).erase c).length;omega
     · exact λx e=>by cases e
     · exact λx e=>by cases e
     · rfl
     · show b∉((G.erase a).erase b).erase c/\(((G.erase a).erase b).erase c).length<8
       exact⟨λe=>nb (List.mem_of_mem_erase e),by omega⟩
     · show a∉ins b (((G.erase a).erase b).erase c)/\(ins b (((G.erase a).erase b).erase c)).length<8
       rw[i1]
       exact⟨λe=>na (List.mem_of_mem_erase e),by rw[List.length_erase_of_mem hca];omega⟩
     · show ins a (ins b (((G.erase a).erase b).erase c))=_
       rw[i1,x2]
       exact ins_erase (hs.erase c) ma
   · have eG2:kpG (G.erase a) b=G.erase a:=by unfold kpG;rw[if_neg c2]
     have eW2:kpW (G.erase a) W=W.tail:=by unfold kpW;rw[if_neg c2]
     have eK2:kpK (G.erase a) W b=.word (hd W):=by unfold kpK;rw[if_neg c2]
     rw[eG2]at hc
     have lc:=List.length_erase_of_mem hc
     have hcG:=List.mem_of_mem_erase hc
     have hac:a≠c:=λe=>na (e▸hc)
     have x2:(G.erase a).erase c=(G.erase c).erase a:=List.erase_comm _ _
     have ma:a∈G.erase c:=gn.mem_erase_iff.2 ⟨hac,ha⟩
     obtain⟨f,H',hH⟩:=cons_of (l:=(G.erase a).erase c) (by omega)
     obtain⟨x,W',rfl⟩:=cons_of (l:=W) (by omega)
     have hsc:=hsa.erase c
     have nac:a∉(G.erase a).erase c:=λe=>na (List.mem_of_mem_erase e)
     refine⟨?_,?_,?_,?_,?_,?_,?_,?_⟩<;>(try rw[eG])<;>(try rw[eW])<;>(try rw[eK])<;>(try rw[eG2])<;>(try rw[eW2])<;>(try rw[eK2])
     · omega
     · show 0<((G.erase a).erase c).length;omega
     · exact λx e=>by cases e
     · rintro y e
       cases e
       exact⟨Srt.hd_not hsW,by show W'.length<wc;simp at hwc;omega⟩
     · exact Srt.ins_hd hsW
     · show hd ((G.erase a).erase c)∉((G.erase a).erase c).tail/\((G.erase a).erase c).tail.length<8
       rw[hH]at hsc lc ⊢
       exact⟨Srt.hd_not hsc,by show H'.length<8;simp at lc;omega⟩
     · show a∉ins (hd ((G.erase a).erase c)) ((G.erase a).erase c).tail/\(ins (hd ((G.erase a).erase c)) ((G.erase a).erase c).tail).length<8
       have i1:ins (hd ((G.erase a).erase c)) ((G.erase a).erase c).tail=(G.erase a).erase c:=by rw[hH]at hsc ⊢;exact Srt.ins_hd hsc
       rw[i1]
       exact⟨nac,by omega⟩
     · show ins a (ins (hd ((G.erase a).erase c)) ((G.erase a).erase c).tail)=_
       have i1:ins (hd ((G.erase a).erase c)) ((G.erase a).erase c).tail=(G.erase a).erase c:=by rw[hH]at hsc ⊢;exact Srt.ins_hd hsc
       rw[i1,x2]
       exact ins_erase (hs.erase c) ma
 · have eG:kpG G a=G:=by unfold kpG;rw[if_neg c1]
   have eW:kpW G W=W.tail:=by unfold kpW;rw[if_neg c1]
   have eK:kpK G W a=.word (hd W):=by unfold kpK;rw[if_neg c1]
   have eG2:kpG G b=G:=by unfold kpG;rw[if_neg c1]
   have eW2:kpW G W.tail=W.tail.tail:=by unfold kpW;rw[if_neg c1]
   have eK2:kpK G W.tail b=.word (hd W.tail):=by unfold kpK;rw[if_neg c1]
   rw[eG,eG2]at hc
   have lc:=List.length_erase_of_mem hc
   obtain⟨f,f2,H',hH⟩:=two (g:=G.erase c) (by omega)
   obtain⟨x,x',W',rfl⟩:=two (g:=W) hw
   have hsc:=hs.erase c
   rw[hH]at hsc
   have hs2:=(List.pairwise_cons.1 hsc).2
   have hW2:=(List.pairwise_cons.1 hsW).2
   have hxx:=(List.pairwise_cons.1 hsW).1 x' (List.mem_cons_self)
   have hsx:Srt (x::W'):=List.pairwise_cons.2 ⟨λy hy=>(List.pairwise_cons.1 hsW).1 y (List.mem_cons_of_mem _ hy),(List.pairwise_cons.1 hW2).2⟩
   have b1:ins x W'=x::W':=Srt.ins_hd hsx
   refine⟨?_,?_,?_,?_,?_,?_,?_,?_⟩<;>(try rw[eG])<;>(try rw[eW])<;>(try rw[eK])<;>(try rw[eG2])<;>(try rw[eW2])<;>(try rw[eK2])
   · omega
   · rw[hH];show 0<(f2::H').length;simp
   · rintro y e
     cases e
     exact⟨Srt.hd_not hsx,by show W'.length<wc;simp at hwc;omega⟩
   · rintro y e
     cases e
     show x'∉ins x W'/\(ins x W').length<wc
     rw[b1]
     refine⟨λe=>?_,by simp at hwc ⊢;omega⟩
     rcases List.mem_cons.1 e with e |e
     · omega
     · exact Srt.hd_not hW2 e
   · show ins x' (ins x W')=_
     rw[b1]
     unfold ins
     rw[if_neg (by omega),Srt.ins_hd hW2]
   · rw[hH];show f2∉H'/\H'.length<8
     rw[hH]at lc
     exact⟨Srt.hd_not hs2,by simp at lc;omega⟩
   · rw[hH];show f∉ins f2 H'/\(ins f2 H').length<8
     rw[Srt.ins_hd hs2]
     rw[hH]at lc
     exact⟨Srt.hd_not hsc,by simp at lc ⊢;omega⟩
   · rw[hH];show ins f (ins f2 H')=_
     rw[Srt.ins_hd hs2,Srt.ins_hd hsc]
theorem kpV_form(k:Kp):∃u0 u1:Int,∃u2:Bool,kpV k=.agg #[.int .i64 u0,.int .i64 u1,.bool u2]:=by cases k<;>exact⟨_,_,_,rfl⟩
theorem choose_w(q0:Int)(eq ey en:Ex)(gq:K.good eq=true)(gy:K.good ey=true)(gn:K.good en=true)(xq:ExW eq)(xy:ExW ey)(xn:ExW en)(w:World)(p:WP)(C:List Ins)(G W K:List Nat)(h:WAt w p C G W K)(hF:Fine G W 0)(hn:need (.cho q0 eq ey en)<=W.length)(hc:C.length+cE (.cho q0 eq ey en)<90000):
 Calls Tryz.prog 182 #[WV p,.agg #[.int .i64 q0,exV eq,exV ey,exV en]] w λx w'=>x=.returned (.int .i64 (((exC G W (.cho q0 eq ey en)).2:Nat):Int))/\WAt w' p (C++(exC G W (.cho q0 eq ey en)).1) (G.erase (exC G W (.cho q0 eq ey en)).2) W K/\Fk p.lo w w':=by
 have hn':max (need eq) (max (need ey) (need en))+2<=W.length:=hn
 have hc':C.length+(cE eq+cE ey+cE en+9)<90000:=hc
 obtain⟨W0,hW⟩:∃W0,w.alloc (.cells #[.int .i64 q0,exV eq,exV ey,exV en] 214 (0,0))=W0:=⟨_,rfl⟩
 have h0:WAt W0 p C G W K:=by rw[<-hW];exact h.alloc _
 have F0:Hid (Fk p.lo w W0):=by rw[<-hW];exact(Fk.refl _ _).alloc _
 have RF:At W0 w.heap.size 214 [.int .i64 q0,exV eq,exV ey,exV en]:=by rw[<-hW];exact At.alloc_new w _ _
 have l8:=h.lenG
 have hs:=h.regs.srt
 have hsW:=h.words.srt
 have hwc:=h.words.lt.2.2.2
 have e0:exC G W (.cho q0 eq ey en)=((exC G W eq).1++(kpC G W (exC G W eq).2++((exC (kpG G (exC G W eq).2) (kpW G W) ey).1++(kpC (kpG G (exC G W eq).2) (kpW G W) (exC (kpG G (exC G W eq).2) (kpW G W) ey).2++((exC (kpG (kpG G (exC G W eq).2) (exC (kpG G (exC G W eq).2) (kpW G W) ey).2) (kpW (kpG G (exC G W eq).2) (kpW G W)) en).1++(ftC ((kpG (kpG G (exC G W eq).2) (exC (kpG G (exC G W eq).2) (kpW G W) ey).2).erase (exC (kpG (kpG G (exC G W eq).2) (exC (kpG G (exC G W eq).2) (kpW G W) ey).2) (kpW (kpG G (exC G W eq).2) (kpW G W)) en).2) (kpK G W (exC G W eq).2)++(ftC (ftG ((kpG (kpG G (exC G W eq).2) (exC (kpG G (exC G W eq).2) (kpW G W) ey).2).erase (exC (kpG (kpG G (exC G W eq).2) (exC (kpG G (exC G W eq).2) (kpW G W) ey).2) (kpW (kpG G (exC G W eq).2) (kpW G W)) en).2) (kpK G W (exC G W eq).2)) (kpK (kpG G (exC G W eq).2) (kpW G W) (exC (kpG G (exC G W eq).2) (kpW G W) ey).2)++[.sel (exC (kpG (kpG G (exC G W eq).2) (exC (kpG G (exC G W eq).2) (kpW G W) ey).2) (kpW (kpG G (exC G W eq).2) (kpW G W)) en).2 (ftR (ftG ((kpG (kpG G (exC G W eq).2) (exC (kpG G (exC G W eq).2) (kpW G W) ey).2).erase (exC (kpG (kpG G (exC G W eq).2) (exC (kpG G (exC G W eq).2) (kpW G W) ey).2) (kpW (kpG G (exC G W eq).2) (kpW G W)) en).2) (kpK G W (exC G W eq).2)) (kpK (kpG G (exC G W eq).2) (kpW G W) (exC (kpG G (exC G W eq).2) (kpW G W) ey).2)) (ftR ((kpG (kpG G (exC G W eq).2) (exC (kpG G (exC G W eq).2) (kpW G W) ey).2).erase (exC (kpG (kpG G (exC G W eq).2) (exC (kpG G (exC G W eq).2) (kpW G W) ey).2) (kpW (kpG G (exC G W eq).2) (kpW G W)) en).2) (kpK G W (exC G W eq).2)) (exC (kpG (kpG G (exC G W eq).2) (exC (kpG G (exC G W eq).2) (kpW G W) ey).2) (kpW (kpG G (exC G W eq).2) (kpW G W)) en).2])))))),(exC (kpG (kpG G (exC G W eq).2) (exC (kpG G (exC G W eq).2) (kpW G W) ey).2) (kpW (kpG G (exC G W eq).2) (kpW G W)) en).2):=rfl
 rw[e0]
 clear e0 hn hc
 dsimp only
 have m1:=exC_mem eq hF
 have F1:=kp_fine hF m1
 have m2:=exC_mem ey F1
 have F2:=kp_fine F1 m2
 have m3:=exC_mem en F2
 have CB:=chB (wc:=p.wc) hF l8 hs hsW (by omega) hwc m1 m2 m3
 have L1:=exC_len eq G W
 have L2:=kpC_len G W (exC G W eq).2
 have L3:=exC_len ey (kpG G (exC G W eq).2) (kpW G W)
 have L4:=kpC_len (kpG G (exC G W eq).2) (kpW G W) (exC (kpG G (exC G W eq).2) (kpW G W) ey).2
 have L5:=exC_len en (kpG (kpG G (exC G W eq).2) (exC (kpG G (exC G W eq).2) (kpW G W) ey).2) (kpW (kpG G (exC G W eq).2) (kpW G W))
 have hwl1:=@kpW_len G W
 have hwl2:=@kpW_len (kpG G (exC G W eq).2) (kpW G W)
 have hq:=xq W0 p C G W K h0 hF (by omega) (by omega)
 have hk1:=fun(w:World) (C:List Ins) (hC:C.length+1<100000) (h':WAt w p C (G.erase (exC G W eq).2) W K)=>keep_all h' hF hs m1 (by omega) hC
 have hy:=fun(w:World) (C:List Ins) (hC:C.length+cE ey<90000) (h':WAt w p C (kpG G (exC G W eq).2) (kpW G W) K)=>xy w p C _ _ K h' F1 (by omega) hC
 have hk2:=fun(w:World) (C:List Ins) (hC:C.length+1<100000) (h':WAt w p C ((kpG G (exC G W eq).2).erase (exC (kpG G (exC G W eq).2) (kpW G W) ey).2) (kpW G W) K) (hs':Srt (kpG G (exC G W eq).2))=>keep_all h' F1 hs' m2 (by omega) hC
 have hnn:=fun(w:World) (C:List Ins) (hC:C.length+cE en<90000) (h':WAt w p C (kpG (kpG G (exC G W eq).2) (exC (kpG G (exC G W eq).2) (kpW G W) ey).2) (kpW (kpG G (exC G W eq).2) (kpW G W)) K)=>xn w p C _ _ K h' F2 (by omega) hC
 have z1:=RF.cell 1
 simp only[List.getElem?_cons_zero,List.getElem?_cons_succ]at z1
 obtain⟨cb0,cb1,cw1,cw2,cw3,cg1,cg2,cg3⟩:=CB
 rw[exV_good gq]at hq z1 hW RF ⊢
 rw[exV_good gy]at hW RF ⊢
 rw[exV_good gn]at hW RF ⊢
 have hyV:=exV_good gy
 have hnV:=exV_good gn
 simp only[hyV]at hy
 simp only[hnV]at hnn
 generalize exT eq=t1 at*
 generalize exP eq=p1 at*
 generalize exT ey=t2 at*
 generalize exP ey=p2 at*
 generalize exT en=t3 at*
 generalize exP en=p3 at*
 generalize kpK (kpG G (exC G W eq).2) (kpW G W) (exC (kpG G (exC G W eq).2) (kpW G W) ey).2=k2 at*
 generalize kpC (kpG G (exC G W eq).2) (kpW G W) (exC (kpG G (exC G W eq).2) (kpW G W) ey).2=c2 at*
 generalize kpK G W (exC G W eq).2=k1 at*
 generalize kpC G W (exC G W eq).2=c1 at*
 generalize exC (kpG (kpG G (exC G W eq).2) (exC (kpG G (exC G W eq).2) (kpW G W) ey).2) (kpW (kpG G (exC G W eq).2) (kpW G W)) en=X3 at*
 generalize kpG (kpG G (exC G W eq).2) (exC (kpG G (exC G W eq).2) (kpW G W) ey).2=G2 at*
 generalize kpW (kpG G (exC G W eq).2) (kpW G W)=W2 at*
 generalize exC (kpG G (exC G W eq).2) (kpW G W) ey=X2 at*
 generalize kpG G (exC G W eq).2=G1 at*
 generalize kpW G W=W1 at*
 generalize exC G W eq=X1 at*
 obtain⟨u0,u1,u2,kv1⟩:=kpV_form k1
 obtain⟨y0,y1,y2,kv2⟩:=kpV_form k2
 have HRF:=hide RF
 have HL:Hid (X1.1.length<=cE eq/\c1.length<=2/\X2.1.length<=cE ey/\c2.length<=2/\X3.1.length<=cE en/\C.length+(cE eq+cE ey+cE en+9)<90000):=⟨L1,L2,L3,L4,L5,hc'⟩
 have HG:=hide cg1
 have HG2:=hide cg2
 have HG3:=hide cg3
 have HW1:=hide cw1
 have HW2:=hide cw2
 have HW3:=hide cw3
 clear h h0 RF hF F1 F2 xq xy xn gq gy gn L1 L2 L3 L4 L5 hc' hn' hwl1 hwl2 cg1 cg2 cg3 cw1 cw2 cw3 hyV hnV
 rw[kv1]at hk1
 rw[kv2]at hk2
 go_enter_defers Tryz.func182,Tryz.ntmps182
 go_wp2_with fail
 refine hq.mono ?_
 rintro y w1 ⟨rfl,h1,b1⟩
 have hkk1:=hk1 w1 _ (by have:=HL.out;rw[List.length_append];omega) h1
 clear h1
 go_wp2_with fail
 refine hkk1.mono ?_
 rintro y w2 ⟨rfl,h2,b2⟩
 obtain⟨Wa,hWa⟩:∃Wa,w2.alloc (.cells #[.int .i64 u0,.int .i64 u1,.bool u2] 221 (0,0))=Wa:=⟨_,rfl⟩
 have ha:WAt Wa p ((C++X1.1)++c1) G1 W1 K:=by rw[<-hWa];exact h2.alloc _
 have Fa:Fk p.lo w2 Wa:=by rw[<-hWa];exact(Fk.refl _ _).alloc _
 have Ra:Hid (At Wa w2.heap.size 221 [.int .i64 u0,.int .i64 u1,.bool u2]):=by rw[<-hWa];exact At.alloc_new w2 _ _
 have hs1:=h2.regs.srt
 have ba:=(b1.trans b2).trans Fa
 have RCa:=ba.at_ HRF.out (by decide) (by decide) (by decide) (by decide)
 have z2:=RCa.cell 2
 simp only[List.getElem?_cons_zero,List.getElem?_cons_succ]at z2
 have hyy:=hy Wa _ (by have:=HL.out;simp only[List.length_append];omega) ha
 have HRa:=hide RCa
 have HBa:=hide ba
 clear h2 ha Fa RCa b1 b2 ba hk1 hq hkk1 hy
 go_wp2_with fail
 refine hyy.mono ?_
 rintro y w3 ⟨rfl,h3,b3⟩
 have hkk2:=hk2 w3 _ (by have:=HL.out;simp only[List.length_append];omega) h3 hs1
 clear h3
 go_wp2_with fail
 refine hkk2.mono ?_
 rintro y w4 ⟨rfl,h4,b4⟩
 obtain⟨Wb,hWb⟩:∃Wb,w4.alloc (.cells #[.int .i64 y0,.int .i64 y1,.bool y2] 221 (0,0))=Wb:=⟨_,rfl⟩
 have hb:WAt Wb p ((((C++X1.1)++c1)++X2.1)++c2) G2 W2 K:=by rw[<-hWb];exact h4.alloc _
 have Fb:Fk p.lo w4 Wb:=by rw[<-hWb];exact(Fk.refl _ _).alloc _
 have Rb:Hid (At Wb w4.heap.size 221 [.int .i64 y0,.int .i64 y1,.bool y2]):=by rw[<-hWb];exact At.alloc_new w4 _ _
 have bb:=(b3.trans b4).trans Fb
 have RCb:=bb.at_ HRa.out (by decide) (by decide) (by decide) (by decide)
 have RAb:Hid (At Wb w2.heap.size 221 [.int .i64 u0,.int .i64 u1,.bool u2]):=bb.at_ Ra.out (by decide) (by decide) (by decide) (by decide)
 have z3:=RCb.cell 3
 simp only[List.getElem?_cons_zero,List.getElem?_cons_succ]at z3
 have hnx:=hnn Wb _ (by have:=HL.out;simp only[List.length_append];omega) hb
 have HBb:=hide (HBa.out.trans bb)
 clear h4 hb Fb RCb b3 b4 bb hk2 hyy hkk2 hnn
 go_wp2_with fail
 refine hnx.mono ?_
 rintro y w5 ⟨rfl,h5,b5⟩
 have RA5:=b5.at_ RAb.out (by decide) (by decide) (by decide) (by decide)
 have RB5:Hid (At w5 w4.heap.size 221 [.int .i64 y0,.int .i64 y1,.bool y2]):=b5.at_ Rb.out (by decide) (by decide) (by decide) (by decide)
 have v0:=RA5.cell 0
 have v1:=RA5.cell 1
 have v2:=RA5.cell 2
 simp only[List.getElem?_cons_zero,List.getElem?_cons_succ]at v0 v1 v2
 have hf1:=fetch_all (k:=k1) h5 cb0 HW1.out (by have:=HL.out;simp only[List.length_append];omega)
 have ftl:=λH k=>ftC_len H k
 rw[kv1]at hf1
 have HB5:=hide (HBb.out.trans b5)
 clear h5 RA5 b5 hnx
 go_wp2_with fail
 refine hf1.mono ?_
 rintro y w6 ⟨rfl,h6,b6⟩
 obtain⟨c1',_⟩:=h6.c
 have RB6:=b6.at_ RB5.out (by decide) (by decide) (by decide) (by decide)
 have v3:=RB6.cell 0
 have v4:=RB6.cell 1
 have v5:=RB6.cell 2
 simp only[List.getElem?_cons_zero,List.getElem?_cons_succ]at v3 v4 v5
 have lf1:=ftl (G2.erase X3.2) k1
 have hf2:=fetch_all (k:=k2) h6 cb1 HW2.out (by have:=HL.out;simp only[List.length_append];omega)
 rw[kv2]at hf2
 have HB6:=hide (HB5.out.trans b6)
 have HLf:Hid ((ftC (G2.erase X3.2) k1).length<=2):=lf1
 clear h6 RB6 b6 hf1 lf1
 go_wp2_with fail
 refine hf2.mono ?_
 rintro y w7 ⟨rfl,h7,b7⟩
 obtain⟨c1'',_⟩:=h7.c
 have lf2:=ftl (ftG (G2.erase X3.2) k1) k2
 have hch:=choice_c h7 (by have:=HL.out;have:=HLf.out;simp only[List.length_append];omega) X3.2 (ftR (G2.erase X3.2) k1) (ftR (ftG (G2.erase X3.2) k1) k2) X3.2
 have HB7:=hide (HB6.out.trans b7)
 clear h7 b7 hf2 lf2 ftl
 go_wp2_with fail
 refine hch.mono ?_
 rintro y w8 ⟨rfl,h8,b8⟩
 go_wp2_with fail
 refine leaves_cons (f:=149) (args:=#[.pointer (some ⟨p.rp,0,none⟩),.int .i64 ((ftR (ftG (G2.erase X3.2) k1) k2:Nat):Int)]) (by simp) (by simp[go_sem]) ?_
 refine(h8.give .returning HG.out.1 HG.out.2).mono ?_
 rintro y u' w9 ⟨rfl,rfl,h9,b9⟩
 refine leaves_cons (f:=149) (args:=#[.pointer (some ⟨p.rp,0,none⟩),.int .i64 ((ftR (G2.erase X3.2) k1:Nat):Int)]) (by simp[settle]) (by simp[go_sem]) ?_
 refine(h9.give _ HG2.out.1 HG2.out.2).mono ?_
 rintro y u'' w10 ⟨rfl,rfl,h10,b10⟩
 refine⟨_,results_tmp rfl _ _ _,rfl,?_,(((F0.out.trans HB7.out).trans b8).trans b9).trans b10⟩
 rw[HG3.out,HW3.out]at h10
 simp only[List.append_assoc]at h10
 exact h10
end Y
end
section
open Go.RowKit
open K (Nm Ex Do)
namespace Y
def oAct(pre vs:List Value)(d:List Deferred)(l:Array Bool):Act:=
 {tmps:=(pre++((List.range vs.length).map (λk=>if l.getD k false=true then vs.getD k undef else undef)++[undef])).toArray,defers:=d}
theorem oAct_pre{pre vs:List Value}{d:List Deferred}{l:Array Bool}{j:Nat}{v:Value}(h:pre[j]?=some v):(oAct pre vs d l).eval (.tmp j)=v:=by
 show(oAct pre vs d l).tmps.getD j undef=v
 unfold oAct
 dsimp only
 rw[Array.getD_eq_getD_getElem?,List.getElem?_toArray,List.getElem?_append_left (List.getElem?_eq_some_iff.1 h).1,h]
 rfl
theorem oAct_k{pre vs:List Value}{d:List Deferred}{l:Array Bool}{n k:Nat}{v:Value}(hp:pre.length=n)(hk:vs[k]?=some v)(hl:l.getD k false=true):(oAct pre vs d l).eval (.tmp (n+k))=v:=by
 show(oAct pre vs d l).tmps.getD (n+k) undef=v
 unfold oAct
 dsimp only
 have hkl:=(List.getElem?_eq_some_iff.1 hk).1
 rw[Array.getD_eq_getD_getElem?,List.getElem?_toArray,List.getElem?_append_right (by omega),List.getElem?_append_left (by simp;omega),List.getElem?_map,List.getElem?_range (by omega)]
 have e:n+k-pre.length=k:=by omega
 rw[e]
 show(some (if l.getD k false=true then vs.getD k undef else undef)).getD undef=v
 rw[if_pos hl,List.getD_eq_getElem?_getD,hk]
 rfl
theorem app_at{α:Type}(pre A B:List α)(j:Nat)(h:j<pre.length∨A[j-pre.length]?=B[j-pre.length]?):(pre++A)[j]?=(pre++B)[j]?:=by
 by_cases c:j<pre.length
 · rw[List.getElem?_append_left c,List.getElem?_append_left c]
 · have e1:=List.getElem?_append_right (l₁:=pre) (l₂:=A) (i:=j) (by omega)
   have e2:=List.getElem?_append_right (l₁:=pre) (l₂:=B) (i:=j) (by omega)
   rw[e1,e2]
   exact h.resolve_left c
theorem oAct_put{pre vs:List Value}{d:List Deferred}{l:Array Bool}{n k:Nat}{v:Value}(hp:pre.length=n)(hk:vs[k]?=some v)(hl:l.size=vs.length):(oAct pre vs d l).put (some (n+k)) v=oAct pre vs d (l.setIfInBounds k true):=by
 have hkl:=(List.getElem?_eq_some_iff.1 hk).1
 unfold oAct Act.put
 dsimp only
 congr 1
 apply Array.ext'
 simp only[List.setIfInBounds_toArray]
 apply List.ext_getElem?
 intro j
 rw[List.getElem?_set]
 by_cases c:n+k=j
 · subst c
   rw[if_pos rfl,if_pos (by simp;omega),List.getElem?_append_right (by omega),List.getElem?_append_left (by simp;omega),List.getElem?_map,List.getElem?_range (by omega)]
   have e:n+k-pre.length=k:=by omega
   rw[e]
   show some v=some (if(l.setIfInBounds k true).getD k false=true then vs.getD k undef else undef)
   rw[getD_set (by omega),if_pos rfl,if_pos rfl,List.getD_eq_getElem?_getD,hk]
   rfl
 · rw[if_neg c]
   refine app_at _ _ _ _ ?_
   by_cases c1:j<pre.length
   · exact Or.inl c1
   · right
     have hA:∀l':Array Bool,((List.range vs.length).map λk=>if l'.getD k false=true then vs.getD k undef else undef).length=vs.length:=λl'=>by rw[List.length_map,List.length_range]
     by_cases c2:j-pre.length<vs.length
     · have e1:=λl':Array Bool=>List.getElem?_append_left (l₁:=(List.range vs.length).map λk=>if l'.getD k false=true then vs.getD k undef else undef) (l₂:=[undef]) (i:=j-pre.length) (by rw[hA];exact c2)
       rw[e1 l,e1 (l.setIfInBounds k true),List.getElem?_map,List.getElem?_map,List.getElem?_range c2]
       show some (if l.getD (j-pre.length) false=true then vs.getD (j-pre.length) undef else undef)=some (if(l.setIfInBounds k true).getD (j-pre.length) false=true then vs.getD (j-pre.length) undef else undef)
       rw[getD_set (by omega),if_neg (show ¬j-pre.length=k by omega)]
     · have e1:=λl':Array Bool=>List.getElem?_append_right (l₁:=(List.range vs.length).map λk=>if l'.getD k false=true then vs.getD k undef else undef) (l₂:=[undef]) (i:=j-pre.length) (by rw[hA];omega)
       rw[e1 l,e1 (l.setIfInBounds k true),hA,hA]
theorem oAct_all{pre vs:List Value}{d:List Deferred}{l:Array Bool}(h:∀k,k<vs.length->l.getD k false=true):oAct pre vs d l={tmps:=(pre++(vs++[undef])).toArray,defers:=d}:=by
 unfold oAct
 congr 4
 apply List.ext_getElem?
 intro k
 by_cases c:k<vs.length
 · rw[List.getElem?_map,List.getElem?_range c]
   show some (if l.getD k false=true then vs.getD k undef else undef)=_
   rw[if_pos (h k c),List.getD_eq_getElem?_getD,List.getElem?_eq_getElem c]
   rfl
 · rw[List.getElem?_eq_none (by simp;omega),List.getElem?_eq_none (by omega)]
section
variable {ops:Array Oper} {o:Oper} {a:Act} {w:World} {K:Act->World->Prop} {Q:Exit->Act->World->Prop} {E:Prop}
theorem so_f1(hg:o.guard=none)(x:Operand)(ho:o.op=.fieldAddr 212 x 1)(b:Nat)(hv:a.eval x=.pointer (some ⟨b,0,none⟩))(h:K (a.put o.dst (.pointer (some ⟨b,1,none⟩))) w):if Region.wanted o (yielded ops a.tmps)=true then Oper.wp Tryz.prog o a w K Q else E:=by
 refine st_run hg ?_ h
 generalize a.eval=ev at*
 simp[execOp,ho,hv,go_sem]
theorem so_f3(hg:o.guard=none)(x:Operand)(ho:o.op=.fieldAddr 132 x 3)(b:Nat)(hv:a.eval x=.pointer (some ⟨b,0,none⟩))(h:K (a.put o.dst (.pointer (some ⟨b,3,none⟩))) w):if Region.wanted o (yielded ops a.tmps)=true then Oper.wp Tryz.prog o a w K Q else E:=by
 refine st_run hg ?_ h
 generalize a.eval=ev at*
 simp[execOp,ho,hv,go_sem]
theorem so_l5(hg:o.guard=none)(x:Operand)(ho:o.op=.load 5 x)(q:Addr)(hv:a.eval x=.pointer (some q))(n:Int)(hc:w.cell? q=some (.int .u8 n))(h:K (a.put o.dst (.int .u8 n)) w):if Region.wanted o (yielded ops a.tmps)=true then Oper.wp Tryz.prog o a w K Q else E:=by
 refine st_run hg ?_ h
 generalize a.eval=ev at*
 simp[execOp,ho,hv,go_sem,hc]
theorem so_lf(hg:o.guard=none)(x:Operand)(ho:o.op=.load 129 x)(q:Addr)(hv:a.eval x=.pointer (some q))(f:Nat)(hc:w.cell? q=some (.func (.func f) #[] #[]))(h:K (a.put o.dst (.func (.func f) #[] #[])) w):if Region.wanted o (yielded ops a.tmps)=true then Oper.wp Tryz.prog o a w K Q else E:=by
 refine st_run hg ?_ h
 generalize a.eval=ev at*
 simp[execOp,ho,hv,go_sem,hc]
theorem so_ix(hg:o.guard=none)(x y:Operand)(ho:o.op=.indexAddr 130 x y)(b:Nat)(hv:a.eval x=.pointer (some ⟨b,3,none⟩))(n:UInt8)(hy:a.eval y=.int .u8 (n.toNat:Int))(h:K (a.put o.dst (.pointer (some ⟨b,3+n.toNat,none⟩))) w):if Region.wanted o (yielded ops a.tmps)=true then Oper.wp Tryz.prog o a w K Q else E:=by
 have hn:n.toNat<256:=n.toNat_lt
 refine st_run hg ?_ h
 generalize a.eval=ev at*
 simp[execOp,ho,hv,hy,go_sem]
 intro hx
 omega
end
end Y
end
end Go.Proofs.YtejbgcloblpbfaaGreatDoor
