import Derived.Test.YtejbgcloblpbfaaGreatDoorG25
set_option maxHeartbeats 2000000
set_option maxRecDepth 100000
namespace Go.Proofs.YtejbgcloblpbfaaGreatDoor
section
open Go.RowKit
open K (Nm Ex Do)
namespace Y
theorem holdBack_c{w:World}{p:WP}{C:List Ins}{u o x:Nat}{G W K:List Nat}(h:WAt w p C (u::o::G) W K)(hx:K.getLast?=some x)(hf:C.length+4<100000)(hK:K.length<=1000)(pl v:Nat):
 Calls Tryz.prog 186 #[WV p,.int .i64 (pl:Int),.int .i64 (v:Int)] w λy w'=>y=.returned (.tuple #[])/\WAt w' p (C++[.kst u (x:Nat),.ld u u,.ld o pl,.sel v v u o]) (u::o::G) W K/\Fk p.lo w w':=by
 have hcn:=cond_c h (by omega) hK
 rw[hx]at hcn
 have hsr:=h.regs.srt
 have hs2:=(List.pairwise_cons.1 hsr).2
 have h8:=h.lenG
 clear h hx
 go_enter_defers Tryz.func186,Tryz.ntmps186
 go_wp2_with fail
 refine hcn.mono ?_
 rintro y w1 ⟨rfl,h1,b1⟩
 obtain⟨c1,_⟩:=h1.c
 have ht:=take_c h1.regs
 have H1:=hide h1
 clear h1
 go_wp2_with fail
 refine ht.mono ?_
 rintro y w2 ⟨rfl,P2,T2⟩
 obtain⟨h2,b2⟩:=H1.out.regs' P2 T2
 obtain⟨c2,_⟩:=h2.c
 have hld:=loadFrom_c h2 (by unfold cnC;simp only[List.length_append,List.length_cons,List.length_nil];omega) o pl
 clear h2 P2
 go_wp2_with fail
 refine hld.mono ?_
 rintro y w3 ⟨rfl,h3,b3⟩
 have hch:=choice_c h3 (by unfold cnC;simp only[List.length_append,List.length_cons,List.length_nil];omega) v u v o
 clear h3
 go_wp2_with fail
 refine hch.mono ?_
 rintro y w4 ⟨rfl,h4,b4⟩
 go_wp2_with fail
 refine leaves_cons (f:=149) (args:=#[.pointer (some ⟨p.rp,0,none⟩),.int .i64 (o:Int)]) (by simp) (by simp[go_sem]) ?_
 refine(h4.give .returning (Srt.hd_not hs2) (by simp at h8;omega)).mono ?_
 rintro y u' w5 ⟨rfl,rfl,h5,b5⟩
 rw[Srt.ins_hd hs2]at h5
 refine leaves_cons (f:=149) (args:=#[.pointer (some ⟨p.rp,0,none⟩),.int .i64 (u:Int)]) (by simp[settle]) (by simp[go_sem]) ?_
 refine(h5.give _ (Srt.hd_not hsr) (by simp at h8 ⊢;omega)).mono ?_
 rintro y u'' w6 ⟨rfl,rfl,h6,b6⟩
 refine⟨_,results_none rfl _ _ _,rfl,?_,((((b1.trans b2).trans b3).trans b4).trans b5).trans b6⟩
 rw[Srt.ins_hd hsr]at h6
 simp only[List.append_assoc]at h6
 exact h6
theorem change_none{w:World}{p:WP}{C:List Ins}{G W:List Nat}(h:WAt w p C G W [])(hf:C.length<100000)(pl v:Nat):
 Calls Tryz.prog 151 #[WV p,.int .i64 (pl:Int),.int .i64 (v:Int)] w λy w'=>y=.returned (.tuple #[])/\WAt w' p (C++[.st pl v]) G W []/\Fk p.lo w w':=by
 have hi:=insec_c h
 have hst:=storeTo_c h hf pl v
 clear h
 go_enter Tryz.func151,Tryz.ntmps151
 go_wp2_with fail
 refine hi.mono ?_
 rintro x w1 ⟨rfl,rfl⟩
 go_wp2_with fail
 refine hst.mono ?_
 rintro x w2 ⟨rfl,h2,b2⟩
 go_wp2_with fail
 go_end0
 exact⟨rfl,h2,b2⟩
theorem change_some{w:World}{p:WP}{C:List Ins}{u o x:Nat}{G W K:List Nat}(h:WAt w p C (u::o::G) W K)(hx:K.getLast?=some x)(hf:C.length+5<100000)(hK:K.length<=1000)(pl v:Nat):
 Calls Tryz.prog 151 #[WV p,.int .i64 (pl:Int),.int .i64 (v:Int)] w λy w'=>y=.returned (.tuple #[])/\WAt w' p (C++[.kst u (x:Nat),.ld u u,.ld o pl,.sel v v u o,.st pl v]) (u::o::G) W K/\Fk p.lo w w':=by
 have hi:=insec_c h
 have hhb:=holdBack_c h hx (by omega) hK pl v
 have hk0:decide (0<K.length)=true:=by
  cases K with
  |nil=>simp at hx
  |cons a t=>simp
 rw[hk0]at hi
 clear h hx hk0
 go_enter Tryz.func151,Tryz.ntmps151
 go_wp2_with fail
 refine hi.mono ?_
 rintro y w1 ⟨rfl,rfl⟩
 go_wp2_with fail
 refine hhb.mono ?_
 rintro y w2 ⟨rfl,h2,b2⟩
 have hst:=storeTo_c h2 (by simp only[List.length_append,List.length_cons,List.length_nil];omega) pl v
 clear h2
 go_wp2_with fail
 refine hst.mono ?_
 rintro y w3 ⟨rfl,h3,b3⟩
 go_wp2_with fail
 go_end0
 refine⟨rfl,?_,b2.trans b3⟩
 simp only[List.append_assoc]at h3
 exact h3
theorem change_c{w:World}{p:WP}{C:List Ins}{G W K:List Nat}(h:WAt w p C G W K)(hl:2<=G.length)(hf:C.length+5<100000)(hK:K.length<=1000)(pl v:Nat):
 Calls Tryz.prog 151 #[WV p,.int .i64 (pl:Int),.int .i64 (v:Int)] w λy w'=>y=.returned (.tuple #[])/\WAt w' p (C++chC G pl v K.getLast?) G W K/\Fk p.lo w w':=by
 obtain⟨u,o,G',rfl⟩:=two hl
 cases hx:K.getLast? with
 |none=>
  have:K=[]:=List.getLast?_eq_none_iff.1 hx
  subst this
  exact change_none h (by omega) pl v
 |some x=>exact change_some h hx hf hK pl v
theorem own_set{w:World}{B e size g n cap k:Nat}{xs:List Value}(h:w.ownsRow B e size (.slice (some ⟨g,0,none⟩) n cap) n xs)(v:Value):(w.setCell ⟨g,k,none⟩ v).ownsRow B e size (.slice (some ⟨g,0,none⟩) n cap) n (xs.set k v):=by
 obtain⟨hx,⟨e1,_⟩|⟨g',cap',cur,e1,hb',hg,hc,hm,hs,ht⟩⟩:=h
 · cases e1
 · cases e1
   have a:At w g e cur.toList:=by unfold At;rw[hg]
   have a':=a.set k v
   unfold At at a'
   refine⟨by rw[List.length_set];exact hx,Or.inr ⟨g,cap,_,rfl,hb',a',hc,hm,?_,?_⟩⟩
   · simp[hs]
   · rw[<-ht]
     apply List.ext_getElem?
     intro j
     simp only[List.getElem?_take,List.getElem?_set,List.length_take]
     repeat' split
     all_goals first |rfl |omega |skip
theorem WAt.cv{w:World}{p:WP}{C:List Ins}{G W K:List Nat}(h:WAt w p C G W K):∃ca cc,w.cell? ⟨p.wb,0,none⟩=some (.slice ca C.length cc)/\p.wb<w.heap.size:=by
 obtain⟨cv,kv,a1,o1,_,_⟩:=h.rows
 have c:=(wcell a1 h.tab).1
 rcases Joins.ownsRow_forms o1 with⟨rfl,h0⟩|⟨g,cc,rfl⟩
 · exact⟨none,0,by rw[c,h0],a1.lt⟩
 · exact⟨_,_,c,a1.lt⟩
theorem flat_len(C:List Ins):(C.flatMap inV).length=5*C.length:=by
 induction C with
 |nil=>rfl
 |cons i C ih=>
  rw[List.flatMap_cons,List.length_append,ih,List.length_cons]
  unfold inV
  rw[List.length_map,inN_len]
  omega
theorem code_set{w:World}{p:WP}{A B:List Ins}{i i':Ins}{G W K:List Nat}(h:WAt w p (A++i::B) G W K){n0 n1 n2 n3 n4 n5:Int}(hi:inN i=[n0,n1,n2,n3,n4])(hi':inN i'=[n0,n1,n2,n3,n5]):
 ∃g cc,w.cell? ⟨p.wb,0,none⟩=some (.slice (some ⟨g,0,none⟩) (A++i::B).length cc)/\w.cell? ⟨g,5*A.length+4,none⟩=some (.int .i64 n4)/\w.frozen? ⟨g,5*A.length+4,none⟩=false/\g<w.heap.size/\WAt (w.setCell ⟨g,5*A.length+4,none⟩ (.int .i64 n5)) p (A++i'::B) G W K/\Fk p.lo w (w.setCell ⟨g,5*A.length+4,none⟩ (.int .i64 n5)):=by
 obtain⟨cv,kv,a1,o1,o2,hkv⟩:=h.rows
 have c:=(wcell a1 h.tab).1
 obtain⟨cw,fw,kw⟩:=at_kind a1
 have hlen:(A++i'::B).length=(A++i::B).length:=by simp
 rcases Joins.ownsRow_forms o1 with⟨rfl,h0⟩|⟨g,cc,rfl⟩
 · simp at h0
 · obtain⟨ck,fk,kk⟩:=own_kind o1 (k:=g) rfl
   have hlt:=o1.lt g rfl
   have ex:(A++i::B).flatMap inV=A.flatMap inV++([.int .i64 n0,.int .i64 n1,.int .i64 n2,.int .i64 n3,.int .i64 n4]++B.flatMap inV):=by
    rw[List.flatMap_append,List.flatMap_cons]
    have:inV i=[.int .i64 n0,.int .i64 n1,.int .i64 n2,.int .i64 n3,.int .i64 n4]:=by unfold inV;rw[hi];rfl
    rw[this]
   have ex':(A++i'::B).flatMap inV=A.flatMap inV++([.int .i64 n0,.int .i64 n1,.int .i64 n2,.int .i64 n3,.int .i64 n5]++B.flatMap inV):=by
    rw[List.flatMap_append,List.flatMap_cons]
    have:inV i'=[.int .i64 n0,.int .i64 n1,.int .i64 n2,.int .i64 n3,.int .i64 n5]:=by unfold inV;rw[hi'];rfl
    rw[this]
   have hA:=flat_len A
   have hset:((A++i::B).flatMap inV).set (5*A.length+4) (.int .i64 n5)=(A++i'::B).flatMap inV:=by
    rw[ex,ex',<-hA,List.set_append_right _ _ (by omega)]
    congr 1
    rw[show(A.flatMap inV).length+4-(A.flatMap inV).length=4 by omega]
    rfl
   have hget:((A++i::B).flatMap inV)[5*A.length+4]?=some (.int .i64 n4):=by
    rw[ex,<-hA,List.getElem?_append_right (by omega),show(A.flatMap inV).length+4-(A.flatMap inV).length=4 by omega]
    rfl
   obtain⟨cur,hcur,htk⟩:∃cur,w.heap[g]?=some (.cells cur 58 (0,0))/\cur.toList.take ((A++i::B).length*5)=(A++i::B).flatMap inV:=by
    obtain⟨_,⟨e1,_⟩|⟨g',cap',cur,e1,_,hg,_,_,_,ht⟩⟩:=o1
    · cases e1
    · cases e1
      exact⟨cur,hg,ht⟩
   have aC:At w g 58 cur.toList:=by unfold At;rw[hcur]
   have hcell:w.cell? ⟨g,5*A.length+4,none⟩=some (.int .i64 n4):=by
    rw[aC.cell]
    rw[<-htk,List.getElem?_take]at hget
    split at hget
    · exact hget
    · cases hget
   have os:=own_set (k:=5*A.length+4) o1 (.int .i64 n5)
   rw[hset]at os
   have nw:∀{k:Nat} {c:Array Value} {s:TypeId} {f:Nat×Nat},w.heap[k]?=some (.cells c s f)->¬s=58->(w.setCell ⟨g,5*A.length+4,none⟩ (.int .i64 n5)).heap[k]?=w.heap[k]?:=λhc hs=>heap_setCell_other _ ⟨g,_,none⟩ _ _ (kind_ne hc kk hs)
   refine⟨g,cc,c,hcell,aC.frozen _,hlt.2,⟨⟨_,kv,a1.of_block (nw kw (by decide)),by rw[hlen];exact os,own_block o2 (λk e=>?_),hkv⟩,h.regs.blk λk _ c s f hc hs=>nw hc (by rcases hs with rfl |rfl<;>decide),h.words.blk λk _ c s f hc hs=>nw hc (by rcases hs with rfl |rfl<;>decide),h.tab,h.ne,h.low,by rw[hlen];exact h.few⟩,⟨rfl,rfl,rfl,by rw[World.size_setCell];exact Nat.le_refl _,λk hk _=>heap_setCell_other _ ⟨g,_,none⟩ k _ (by show k≠g;omega),λk c t f hc _ _ h3 _=>nw hc h3⟩⟩
   obtain⟨_,_,k2⟩:=own_kind o2 e
   exact nw k2 (by decide)
def mcells(R M:Nat->Int)(sv:Value):List Value:=(List.range 8).map (λj=>.int .i64 (R j))++((List.range 256).map (λj=>.int .i64 (M j))++[sv])
theorem mc_reg{R M:Nat->Int}{sv:Value}{a:Nat}(h:a<8):(mcells R M sv)[a]?=some (.int .i64 (R a)):=by
 unfold mcells
 rw[List.getElem?_append_left (by simp;exact h),List.getElem?_map,List.getElem?_range h]
 rfl
theorem mc_mem{R M:Nat->Int}{sv:Value}{a:Nat}(h:a<256):(mcells R M sv)[8+a]?=some (.int .i64 (M a)):=by
 unfold mcells
 rw[List.getElem?_append_right (by simp),List.getElem?_append_left (by simp;exact h),List.getElem?_map,List.length_map,List.length_range,Nat.add_sub_cancel_left,List.getElem?_range h]
 rfl
theorem mc_seen{R M:Nat->Int}{sv:Value}:(mcells R M sv)[264]?=some sv:=by
 unfold mcells
 rw[List.getElem?_append_right (by simp),List.getElem?_append_right (by simp)]
 simp
theorem map_upd(f:Nat->Int)(n a:Nat)(v:Int):((List.range n).map λj=>Value.int .i64 (f j)).set a (.int .i64 v)=(List.range n).map λj=>Value.int .i64 (upd f a v j):=by
 apply List.ext_getElem?
 intro j
 rw[List.getElem?_set]
 simp only[List.length_map,List.length_range,List.getElem?_map]
 by_cases c:a=j
 · subst c
   rw[if_pos rfl]
   by_cases d:a<n
   · rw[if_pos d,List.getElem?_range d]
     show _=some (Value.int .i64 (upd f a v a))
     rw[upd_self]
   · rw[if_neg d,List.getElem?_eq_none (by simp;omega)]
     rfl
 · rw[if_neg c]
   by_cases d:j<n
   · rw[List.getElem?_range d]
     show some (Value.int .i64 (f j))=some (Value.int .i64 (upd f a v j))
     rw[upd_ne (λe=>c e.symm)]
   · rw[List.getElem?_eq_none (by simp;omega)]
     rfl
theorem mc_setR{R M:Nat->Int}{sv:Value}{a:Nat}(h:a<8)(v:Int):(mcells R M sv).set a (.int .i64 v)=mcells (upd R a v) M sv:=by
 unfold mcells
 rw[List.set_append_left _ _ (by simp;exact h),map_upd]
theorem mc_setM{R M:Nat->Int}{sv:Value}{a:Nat}(h:a<256)(v:Int):(mcells R M sv).set (8+a) (.int .i64 v)=mcells R (upd M a v) sv:=by
 unfold mcells
 rw[List.set_append_right _ _ (by simp),List.set_append_left _ _ (by simp;exact h),List.length_map,List.length_range,Nat.add_sub_cancel_left,map_upd]
theorem mc_setS{R M:Nat->Int}{sv:Value}(v:Value):(mcells R M sv).set 264 v=mcells R M v:=by
 unfold mcells
 rw[List.set_append_right _ _ (by simp),List.set_append_right _ _ (by simp)]
 simp
end Y
end
section
open Go.RowKit
namespace Y
def okI:Ins->Prop
 |.bin o .. =>V.isOp o=true
 |_=>True
end Y
end
end Go.Proofs.YtejbgcloblpbfaaGreatDoor
