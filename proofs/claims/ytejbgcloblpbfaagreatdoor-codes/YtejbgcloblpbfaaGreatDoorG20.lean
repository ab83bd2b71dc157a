import Derived.Test.YtejbgcloblpbfaaGreatDoorG16
import Derived.Test.YtejbgcloblpbfaaGreatDoorG19
set_option maxHeartbeats 2000000
set_option maxRecDepth 100000
namespace Go.Proofs.YtejbgcloblpbfaaGreatDoor
section
open Go.RowKit
namespace Y
theorem Pool.same{w w':World}{pb g cap:Nat}{l:List Nat}(p:Pool w pb g cap l)(hb:∀k,k<w.heap.size->w'.heap[k]?=w.heap[k]?):Pool w' pb g cap l:=p.keep (hb _ p.lt.1) (hb _ p.lt.2.1)
theorem WAt.same{w w':World}{p:WP}{C:List Ins}{G W K:List Nat}(h:WAt w p C G W K)(hb:∀k,k<w.heap.size->w'.heap[k]?=w.heap[k]?):WAt w' p C G W K:=by
 obtain⟨cv,kv,a1,o1,o2,hkv⟩:=h.rows
 exact⟨⟨cv,kv,a1.of_block (hb _ a1.lt),own_block o1 (λk e=>hb k (o1.lt k e).2),own_block o2 (λk e=>hb k (o2.lt k e).2),hkv⟩,h.regs.same hb,h.words.same hb,h.tab,h.ne,h.low,h.few⟩
theorem WAt.alloc{w:World}{p:WP}{C:List Ins}{G W K:List Nat}(h:WAt w p C G W K)(o:Obj):WAt (w.alloc o) p C G W K:=h.same λ_ hk=>heap_alloc_old _ _ _ hk
theorem WAt.lenG{w:World}{p:WP}{C:List Ins}{G W K:List Nat}(h:WAt w p C G W K):G.length<=8:=h.regs.lt.2.2.2
theorem WAt.box{w:World}{p:WP}{C:List Ins}{G W K:List Nat}(h:WAt w p C G W K){q:Nat}{t:TypeId}{l:List Value}(a:At w q t l)(n1:¬t=132)(n2:¬t=188)(n3:¬t=58)(n4:¬t=3)(i:Nat)(v:Value):WAt (w.setCell ⟨q,i,none⟩ v) p C G W K:=by
 obtain⟨cv,kv,a1,o1,o2,hkv⟩:=h.rows
 obtain⟨_,_,kq⟩:=at_kind a
 have sm:∀(k:Nat) (c:Array Value) (s:TypeId) (f:Nat×Nat),w.heap[k]?=some (.cells c s f)->(s=132∨s=188∨s=58∨s=3)->(w.setCell ⟨q,i,none⟩ v).heap[k]?=w.heap[k]?:=by
  intro k c s f hc hs
  refine heap_setCell_other _ ⟨q,i,none⟩ k _ (kind_ne hc kq ?_)
  rcases hs with rfl |rfl |rfl |rfl
  · exact λe=>n1 e.symm
  · exact λe=>n2 e.symm
  · exact λe=>n3 e.symm
  · exact λe=>n4 e.symm
 obtain⟨_,_,kw⟩:=at_kind a1
 refine⟨⟨cv,kv,a1.of_block (sm _ _ _ _ kw (Or.inl rfl)),own_block o1 (λk e=>?_),own_block o2 (λk e=>?_),hkv⟩,h.regs.blk λk _ c s f hc hs=>sm k c s f hc (by rcases hs with rfl |rfl<;>simp),h.words.blk λk _ c s f hc hs=>sm k c s f hc (by rcases hs with rfl |rfl<;>simp),h.tab,h.ne,h.low,h.few⟩
 · obtain⟨_,_,kk⟩:=own_kind o1 e
   exact sm _ _ _ _ kk (by simp)
 · obtain⟨_,_,kk⟩:=own_kind o2 e
   exact sm _ _ _ _ kk (by simp)
theorem Fk.new{lo:Nat}{a b:World}(h:Fk lo a b){q:Nat}(hq:a.heap.size<=q)(i:Nat)(v:Value):Fk lo a (b.setCell ⟨q,i,none⟩ v):=
 ⟨h.os,h.tape,h.output,by rw[World.size_setCell];exact h.size,λk h1 h2=>(heap_setCell_other _ ⟨q,i,none⟩ k _ (by show k≠q;omega)).trans (h.low k h1 h2),λk c t f hc n1 n2 n3 n4=>(heap_setCell_other _ ⟨q,i,none⟩ k _ (by show k≠q;have:=heap_lt hc;omega)).trans (h.kind k c t f hc n1 n2 n3 n4)⟩
theorem remainder_c{w:World}{p:WP}{C:List Ins}{q:Nat}{G W K:List Nat}(h:WAt w p C (q::G) W K)(hf:C.length+3<100000)(r z:Nat):
 Calls Tryz.prog 190 #[WV p,.int .i64 (r:Int),.int .i64 (z:Int)] w λx w'=>x=.returned (.tuple #[])/\WAt w' p (C++[.bin 47 q r z,.bin 42 q q z,.bin 45 r r q]) (q::G) W K/\Fk p.lo w w':=by
 have ht:=take_c h.regs
 obtain⟨c1,_⟩:=h.c
 have hsr:=h.regs.srt
 have h8:=h.lenG
 have H:=hide h
 clear h
 go_enter_defers Tryz.func190,Tryz.ntmps190
 go_wp2_with fail
 refine ht.mono ?_
 rintro x w1 ⟨rfl,P1,T1⟩
 obtain⟨h1,b1⟩:=H.out.regs' P1 T1
 obtain⟨c1,_⟩:=h1.c
 have hs1:=over_w h1 (by omega) q r z
 clear h1 P1
 go_wp2_with fail
 refine hs1.mono ?_
 rintro x w2 ⟨rfl,h2,b2⟩
 have hs2:=times_w h2 (by rw[List.length_append];show _+1<_;omega) q q z
 clear h2
 go_wp2_with fail
 refine hs2.mono ?_
 rintro x w3 ⟨rfl,h3,b3⟩
 have hs3:=minus_w h3 (by rw[List.length_append,List.length_append];show _+1+1<_;omega) r r q
 clear h3
 go_wp2_with fail
 refine hs3.mono ?_
 rintro x w4 ⟨rfl,h4,b4⟩
 go_wp2_with fail
 refine leaves_cons (f:=149) (args:=#[.pointer (some ⟨p.rp,0,none⟩),.int .i64 (q:Int)]) (by simp) (by simp[go_sem]) ?_
 refine(h4.give .returning (Srt.hd_not hsr) (by simp at h8;omega)).mono ?_
 rintro e u' w5 ⟨rfl,rfl,h5,b5⟩
 refine⟨_,results_none rfl _ _ _,rfl,?_,(((b1.trans b2).trans b3).trans b4).trans b5⟩
 rw[Srt.ins_hd hsr,List.append_assoc,List.append_assoc]at h5
 exact h5
def kpV:Kp->Value
 |.reg a=>.agg #[.int .i64 (a:Int),.int .i64 0,.bool false]
 |.word x=>.agg #[.int .i64 0,.int .i64 (x:Int),.bool true]
theorem keepr_c{w:World}{p:WP}{C:List Ins}{G W K:List Nat}(h:WAt w p C G W K)(h3:3<=G.length)(a:Nat):
 Calls Tryz.prog 152 #[WV p,.int .i64 (a:Int)] w λx w'=>x=.returned (kpV (.reg a))/\WAt w' p C G W K/\Fk p.lo w w':=by
 obtain⟨hh,cc,pa,_,_,_,pp⟩:=h.regs.rep
 obtain⟨c1,_⟩:=h.c
 have hdc:=pa.head.cell 0
 simp only[List.getElem?_cons_zero]at hdc
 have hle:=fun(w:World)=>len_c w (some ⟨p.rg,0,none⟩) G.length cc
 rw[pp.len]at hdc
 have l3':(3:Int)<=(G.length:Int):=by omega
 have pl:=pa.lt.1
 have H:=hide h
 have wl:p.wb<w.heap.size:=by obtain⟨_,_,a1,_⟩:=h.rows;exact a1.lt
 clear h pa pp
 go_enter_defers Tryz.func152,Tryz.ntmps152
 go_wp2_with fail
 refine(hle _).mono ?_
 rintro x w1 ⟨rfl,rfl⟩
 go_wp2_with fail
 have RF:=At.alloc_new w [.int .i64 (a:Int),.int .i64 0,.bool false] 221
 have z0:=RF.cell 0
 have z1:=RF.cell 1
 have z2:=RF.cell 2
 simp only[List.getElem?_cons_zero,List.getElem?_cons_succ]at z0 z1 z2
 generalize hW:w.alloc (.cells #[.int .i64 (a:Int),.int .i64 0,.bool false] 221 (0,0))=W7 at*
 refine⟨kpV (.reg a),by simp[results,Tryz.results152,go_sem,kpV,z0,z1,z2],rfl,?_,?_⟩
 · rw[<-hW];exact H.out.alloc _
 · rw[<-hW];exact(Fk.refl _ _).alloc _
theorem keepw_c{w:World}{p:WP}{C:List Ins}{t x:Nat}{G W K:List Nat}(h:WAt w p C (t::G) (x::W) K)(h3:G.length<2)(hf:C.length+1<100000)(a:Nat)(ha:a∉t::G):
 Calls Tryz.prog 152 #[WV p,.int .i64 (a:Int)] w λy w'=>y=.returned (kpV (.word x))/\WAt w' p (C++[.kst t (x:Nat),.st t a]) (ins a (t::G)) W K/\Fk p.lo w w':=by
 have h0:=h.alloc (.cells #[.int .i64 0,.int .i64 0,.bool false] 221 (0,0))
 have RF:=At.alloc_new w [.int .i64 0,.int .i64 0,.bool false] 221
 have F0:=(Fk.refl p.lo w).alloc (.cells #[.int .i64 0,.int .i64 0,.bool false] 221 (0,0))
 obtain⟨W0,hW⟩:∃W0,w.alloc (.cells #[.int .i64 0,.int .i64 0,.bool false] 221 (0,0))=W0:=⟨_,rfl⟩
 have h0':WAt W0 p C (t::G) (x::W) K:=by rw[<-hW];exact h0
 have RF':At W0 w.heap.size 221 [.int .i64 0,.int .i64 0,.bool false]:=by rw[<-hW];exact RF
 have F0':Hid (Fk p.lo w W0):=by rw[<-hW];exact F0
 have hsr:=h.regs.srt
 have h8:=h.lenG
 clear h h0 RF F0
 obtain⟨hh,cc,pa,_,_,_,pp⟩:=h0'.regs.rep
 obtain⟨c1,c2⟩:=h0'.c
 have hdc:=pa.head.cell 0
 simp only[List.getElem?_cons_zero]at hdc
 have hle:=fun(w:World)=>len_c w (some ⟨p.rg,0,none⟩) (t::G).length cc
 rw[pp.len]at hdc
 obtain⟨L,hL⟩:∃L,Hid ((t::G).length=L):=⟨_,rfl⟩
 rw[hL.out]at hdc hle
 have l3':¬(3:Int)<=(L:Int):=by have:=hL.out;simp at this;omega
 have htk:=take_c h0'.words
 have H0:=hide h0'
 have HRF:=hide RF'
 clear pa pp h0' RF'
 go_enter_defers Tryz.func152,Tryz.ntmps152
 go_wp2_with fail
 refine(hle _).mono ?_
 rintro y w1 ⟨rfl,rfl⟩
 go_wp2_with fail
 refine htk.mono ?_
 rintro y w2 ⟨rfl,P2,T2⟩
 obtain⟨h2,b2⟩:=H0.out.words' P2 T2
 have hst:=store_c h2 hf (x:Int) a
 have R2:=b2.at_ HRF.out (by decide) (by decide) (by decide) (by decide)
 have HR2:=hide R2
 clear h2 P2 R2
 go_wp2_with fail
 refine hst.mono ?_
 rintro y w3 ⟨rfl,h3',b3⟩
 have R3:=b3.at_ HR2.out (by decide) (by decide) (by decide) (by decide)
 have z0:=R3.cell 0
 have z1:=R3.cell 1
 have z2:=R3.cell 2
 simp only[List.getElem?_cons_zero,List.getElem?_cons_succ]at z0 z1 z2
 have f0:=R3.frozen 0
 have f1:=R3.frozen 1
 have f2:=R3.frozen 2
 have H3:=hide h3'
 have HR3:=hide R3
 clear h3' R3
 go_wp2_with fail
 have R4:=((HR3.out.set 0 (.int .i64 0)).set 1 (.int .i64 (x:Int))).set 2 (.bool true)
 have H4:=((H3.out.box HR3.out (by decide) (by decide) (by decide) (by decide) 0 (.int .i64 0)).box (HR3.out.set 0 _) (by decide) (by decide) (by decide) (by decide) 1 (.int .i64 (x:Int))).box ((HR3.out.set 0 _).set 1 _) (by decide) (by decide) (by decide) (by decide) 2 (.bool true)
 have F4:=((((F0'.out.trans b2).trans b3).new (Nat.le_refl _) 0 (.int .i64 0)).new (Nat.le_refl _) 1 (.int .i64 (x:Int))).new (Nat.le_refl _) 2 (.bool true)
 generalize(((w3.setCell ⟨w.heap.size,0,none⟩ (.int .i64 0)).setCell ⟨w.heap.size,1,none⟩ (.int .i64 (x:Int))).setCell ⟨w.heap.size,2,none⟩ (.bool true))=W4 at*
 refine leaves_cons (f:=149) (args:=#[.pointer (some ⟨p.rp,0,none⟩),.int .i64 (a:Int)]) (by simp) (by simp[go_sem]) ?_
 refine(H4.give .returning ha (by simp;omega)).mono ?_
 rintro e u' w5 ⟨rfl,rfl,h5,b5⟩
 have R5:=b5.at_ R4 (by decide) (by decide) (by decide) (by decide)
 have y0:=R5.cell 0
 have y1:=R5.cell 1
 have y2:=R5.cell 2
 simp only[List.set_cons_zero,List.set_cons_succ,List.getElem?_cons_zero,List.getElem?_cons_succ]at y0 y1 y2
 exact⟨kpV (.word x),by simp[results,Tryz.results152,go_sem,kpV,y0,y1,y2],rfl,h5,F4.trans b5⟩
end Y
end
section
open Go.RowKit
section
variable {P:Program} {ops:Array Oper} {o:Oper} {a:Act} {w:World} {K:Act->World->Prop} {Q:Exit->Act->World->Prop} {E:Prop}
theorem st_of(hg:o.guard=none)(h:Oper.wp P o a w K Q):if Region.wanted o (yielded ops a.tmps)=true then Oper.wp P o a w K Q else E:=by
 have hw:Region.wanted o (yielded ops a.tmps)=true:=by simp[Region.wanted,hg]
 rw[if_pos hw];exact h
theorem st_run(hg:o.guard=none){v:Value}{w':World}(hr:(execOp a.eval o).run P w=.ok (.value v) w')(h:K (a.put o.dst v) w'):if Region.wanted o (yielded ops a.tmps)=true then Oper.wp P o a w K Q else E:=by
 refine st_of hg ?_
 unfold Oper.wp
 rw[hr]
 exact h
theorem st_move(hg:o.guard=none)(x:Operand)(ho:o.op=.move x)(v:Value)(hv:a.eval x=v)(h:K (a.put o.dst v) w):if Region.wanted o (yielded ops a.tmps)=true then Oper.wp P o a w K Q else E:=by
 refine st_run hg ?_ h
 generalize a.eval=ev at*
 simp[execOp,ho,hv,go_sem]
theorem st_nil(hg:o.guard=none)(x:Operand)(ho:o.op=.nilCheck x)(p:Addr)(hv:a.eval x=.pointer (some p))(h:K (a.put o.dst (.pointer (some p))) w):if Region.wanted o (yielded ops a.tmps)=true then Oper.wp P o a w K Q else E:=by
 refine st_run hg ?_ h
 generalize a.eval=ev at*
 simp[execOp,ho,hv,go_sem]
end
section
variable {ops:Array Oper} {o:Oper} {a:Act} {w:World} {K:Act->World->Prop} {Q:Exit->Act->World->Prop} {E:Prop}
end
end
section
open Go.RowKit
open K (Nm Ex Do)
theorem Each.get{B:Nat->Prop}{w:World}:∀{l:List Do} {us:List Value},Each B w l us->∀(k:Nat) (h:k<l.length),∃u,us[k]?=some u/\DoIs B w l[k] u
 |[],_,_,k,h=>by simp at h
 |d::l,us,e,k,h=>by
  unfold Each at e
  obtain⟨u,r,rfl,h1,h2⟩:=e
  cases k with
  |zero=>exact⟨u,rfl,h1⟩
  |succ k=>exact Each.get h2 k (by simpa using h)
theorem DRow.at{B:Nat->Prop}{w:World}{v:Value}{us:List Value}(h:DRow B w v us):(v=.slice none 0 0/\us.length=0)∨∃g cap,v=.slice (some ⟨g,0,none⟩) us.length cap/\g<w.heap.size/\B g/\∀(k:Nat) (u:Value),us[k]?=some u->w.cell? ⟨g,k,none⟩=some u:=by
 obtain⟨hl,h' |⟨g,cap,cur,hv,_,hg,hc,_,hs,hx⟩⟩:=h.row
 · exact Or.inl h'
 · refine Or.inr ⟨g,cap,hv,blk_lt hg,h.lo g (by rw[hv];rfl),λk u hu=>?_⟩
   have hk:k<us.length:=(List.getElem?_eq_some_iff.1 hu).1
   rw[<-hx,List.getElem?_take_of_lt (by omega)]at hu
   simp[World.cell?,hg]
   simpa using hu
theorem gds_drop{hid:Bool}{l:List Do}{k:Nat}(h:k<l.length)(g:K.GS):K.gds hid (l.drop k) g=K.gds hid (l.drop (k+1)) (K.gd hid l[k] g):=by
 rw[List.drop_eq_getElem_cons h,K.gds]
theorem gds_of(l:List Do)(hl:∀d∈l,GdDoes d):GdsDoes l:=by
 intro B w b g lv us hid h dr de hB
 have HLEN:=hide de.len
 have hmax:=dr.row
 rcases dr.at with⟨rfl,h0⟩|⟨gg,cap,rfl,hgl,hBg,hcell⟩
 · have e:l=[]:=List.eq_nil_of_length_eq_zero (by have:=HLEN.out;omega)
   subst e
   have HK:Hid (K.gds hid [] g=g):=by show _=_;rw[K.gds]
   go_enter Tryz.func74,Tryz.ntmps74
   go_wp2_with fail
   go_loop [7,10] (λ_ i=>i=.int .i64 0) (λ_ _=>0)
   case atStart=>rfl
   case round=>
    subst hrel
    go_wp2_with fail
    go_end0
    rw[HK.out]
    exact⟨rfl,h,But.refl _ _⟩
 · have hcap:us.length<=9223372036854775807:=by
    obtain⟨_,⟨h0,_⟩|⟨g',cap',cur,hv,_,_,hc,hm,_⟩⟩:=hmax
    · simp at h0
    · unfold maxLen at hm;omega
   have HK0:Hid (K.gds hid l g=K.gds hid (l.drop 0) g):=rfl
   clear hmax
   go_enter Tryz.func74,Tryz.ntmps74
   go_wp2_with fail
   go_loopg [7,10] (us.length+1) (λgk _ i wr=>∃(k:Nat) (g':K.GS),k<=us.length/\gk+k=us.length+1/\i=.int .i64 (k:Int)/\GAt wr b g'/\But b w wr/\Hid (K.gds hid l g=K.gds hid (l.drop k) g'))
   case atStart=>exact⟨0,g,Nat.zero_le _,by omega,rfl,h,But.refl _ _,HK0⟩
   case round=>
    obtain⟨k,g',hk,hgk,rfl,hr,Bk,HK⟩:=hrel
    by_cases hlt:k<us.length
    · have hll:k<l.length:=by have:=HLEN.out;omega
      obtain⟨u,hu,hd⟩:=de.get k hll
      have c:=(World.cell?_of_block (a:=⟨gg,k,none⟩) (Bk.block gg hgl (hB gg hBg))).trans (hcell k u hu)
      have hd':=hd.keep (w':=wr) λj h1 h2=>Bk.block j h2 (hB j h1)
      have hgd:=hl l[k] (List.getElem_mem hll) B wr b g' u hid hr hd' hB
      have HK':Hid (K.gds hid l g=K.gds hid (l.drop (k+1)) (K.gd hid l[k] g')):=HK.out.trans (gds_drop hll g')
      have uf:=hd.form
      clear HK hd hd' HK0
      generalize K.gd hid l[k] g'=g2 at*
      rcases uf with⟨ut,ux,rfl⟩|rfl
      all_goals
       go_wp2_with fail
       refine hgd.mono ?_
       rintro x w2 ⟨rfl,h2,hb2⟩
       go_wp2_with fail
       go_roundg (gk-1)
       case measure=>omega
       case rel=>exact⟨k+1,g2,by omega,by omega,by go_num,h2,Bk.trans hb2,HK'⟩
    · have HX:Hid (K.gds hid l g=g'):=by
       show _=_
       rw[HK.out,List.drop_eq_nil_of_le (by have:=HLEN.out;omega),K.gds]
      clear HK HK0
      go_wp2_with fail
      go_end0
      rw[HX.out]
      exact⟨rfl,hr,Bk⟩
mutual
theorem gd_c:∀d:Do,K.goodD d=true->GdDoes d
 |.set p n e,h=>gd_set p n e (by rw[K.goodD]at h;exact h)
 |.put p n i e,h=>by
  rw[K.goodD,Bool.and_eq_true]at h
  exact gd_put p n i e h.1 h.2
 |.ifs p q y n,h=>by
  rw[K.goodD,Bool.and_eq_true,Bool.and_eq_true]at h
  exact gd_if p q y n h.1.1 (gds_of y (gdl_c y h.1.2)) (gds_of n (gdl_c n h.2))
 |.fors p n r l,h=>by
  rw[K.goodD,Bool.and_eq_true]at h
  exact gd_for p n r l h.1 (gds_of l (gdl_c l h.2))
 |.none,h=>by rw[K.goodD]at h;exact absurd h (by decide)
theorem gdl_c:∀l:List Do,K.goodL l=true->∀d∈l,GdDoes d
 |[],_=>λd hd=>by simp at hd
 |a::l,h=>λd hd=>by
  rw[K.goodL,Bool.and_eq_true]at h
  rcases List.mem_cons.1 hd with e |e
  · rw[e];exact gd_c a h.1
  · exact gdl_c l h.2 d e
end
end
end Go.Proofs.YtejbgcloblpbfaaGreatDoor
