import Derived.Test.YtejbgcloblpbfaaGreatDoorG15
import Derived.Test.YtejbgcloblpbfaaGreatDoorG12
import Derived.Deep.RegionHeld
set_option maxHeartbeats 4000000
set_option maxRecDepth 100000
namespace Go.Proofs.YtejbgcloblpbfaaGreatDoor
section
open Go.RowKit
namespace Y
theorem give_d{w:World}{pb g cap a:Nat}{l:List Nat}(u:FrameMode)(p:Pool w pb g cap l)(ha:a∉l)(hc:l.length<cap):
 CallsD Tryz.prog 149 #[.pointer (some ⟨pb,0,none⟩),.int .i64 (a:Int)] u w λy u' w'=>u'=u/\(y=.returned (.tuple #[])/\Pool w' pb g cap (ins a l)/\Two pb g w w'):=by
 obtain⟨h,c,p1,hcc,hll,hkk,p2⟩:=p.rep
 have hlen:=p2.len
 have hp:=hpush_c p1 (by omega) (by omega) (a:Int)
 have HPP:=hide (p2.push ha)
 have HC:=hide (show cap<=c/\(ins a l).length<=cap/\cap<=1000 from⟨hcc,by rw[ins_len];omega,hkk⟩)
 clear hcc hll hkk
 clear p1 p2 p
 go_enter_d Tryz.func149,Tryz.ntmps149
 go_wp2_with fail
 refine hp.mono ?_
 rintro y w1 ⟨rfl,P1,T1⟩
 go_wp2_with fail
 go_end0
 exact⟨rfl,⟨_,c,P1,HC.out.1,HC.out.2.1,HC.out.2.2,HPP.out⟩,T1⟩
def opn(o:UInt8):Int:=if o=43 then 2 else if o=45 then 3 else if o=42 then 4 else if o=38 then 5 else if o=94 then 6 else if o=60 then 7 else if o=61 then 8 else 9
def inN:Ins->List Int
 |.kst a v=>[1,a,0,0,v]
 |.bin o a b c=>[opn o,a,b,c,0]
 |.sel a b c d=>[10,a,b,c,d]
 |.ld a b=>[11,a,b,0,0]
 |.st a b=>[12,a,b,0,0]
 |.jmp d=>[13,0,0,0,d]
 |.jz b d=>[14,0,b,0,d]
 |.halt=>[15,0,0,0,0]
theorem inN_len(i:Ins):(inN i).length=5:=by cases i<;>rfl
def inV(i:Ins):List Value:=(inN i).map λn=>.int .i64 n
def wfn(o:UInt8):Nat:=
 if o=43 then 115 else if o=45 then 116 else if o=42 then 117 else if o=47 then 118
 else if o=38 then 119 else if o=94 then 120 else if o=60 then 121 else 122
def TabW(t:Array Value):Prop:=∀o,V.isOp o=true->t.toList[o.toNat]?=some (.func (.func (wfn o)) #[] #[])
structure WP where
 wb:Nat
 rp:Nat
 rg:Nat
 wp:Nat
 wg:Nat
 wc:Nat
 lo:Nat
 tb:Array Value
 htb:TabW tb
structure WAt(w:World)(p:WP)(C:List Ins)(G W:List Nat)(K:List Nat):Prop where
 rows:∃cv kv,At w p.wb 132 ([cv,.pointer (some ⟨p.rp,0,none⟩),.pointer (some ⟨p.wp,0,none⟩)]++(p.tb.toList++[kv]))/\w.ownsRow p.lo 58 5 cv C.length (C.flatMap inV)/\w.ownsRow p.lo 3 1 kv K.length (ints (ofN K))/\(∀k,kv.ownBlock=some k->k≠p.rg/\k≠p.wg)
 regs:Pool w p.rp p.rg 8 G
 words:Pool w p.wp p.wg p.wc W
 tab:p.tb.size=256
 ne:p.rp≠p.wp/\p.rg≠p.wg
 low:p.lo<=p.wb/\p.lo<=p.rp/\p.lo<=p.rg/\p.lo<=p.wp/\p.lo<=p.wg
 few:C.length<=100000
abbrev WV(p:WP):Value:=.pointer (some ⟨p.wb,0,none⟩)
theorem info_ins:(Tryz.prog.info? 58).map (λi=>(i.zero,i.size,i.bytes))=some (some (.agg #[.int .i64 0,.int .i64 0,.int .i64 0,.int .i64 0,.int .i64 0]),5,40):=by kernel_rfl
theorem kind_ne{w:World}{a b:Nat}{s t:TypeId}{c d:Array Value}{f e:Nat×Nat}(h:w.heap[a]?=some (.cells c s f))(k:w.heap[b]?=some (.cells d t e))(hst:¬s=t):a≠b:=by
 rintro rfl
 rw[h]at k
 cases k
 exact hst rfl
theorem at_kind{w:World}{b:Nat}{t:TypeId}{l:List Value}(h:At w b t l):∃c f,w.heap[b]?=some (.cells c t f):=⟨_,_,h⟩
theorem own_kind{w:World}{B n size:Nat}{t:TypeId}{v:Value}{xs:List Value}(h:w.ownsRow B t size v n xs){k:Nat}(hk:v.ownBlock=some k):∃c f,w.heap[k]?=some (.cells c t f):=by
 obtain⟨_,⟨rfl,_⟩|⟨g,cap,cur,rfl,_,hg,_⟩⟩:=h
 · cases hk
 · cases hk
   exact⟨_,_,hg⟩
theorem pool_kind{w:World}{pb g cap:Nat}{l:List Nat}(p:Pool w pb g cap l):(∃c f,w.heap[pb]?=some (.cells c 188 f))/\∃c f,w.heap[g]?=some (.cells c 3 f):=by
 obtain⟨h,c,a,_⟩:=p.rep
 obtain⟨rest,b,_⟩:=a.row
 exact⟨at_kind a.head,at_kind b⟩
structure Fk(lo:Nat)(w w':World):Prop where
 os:w'.os=w.os
 tape:w'.tape=w.tape
 output:w'.output=w.output
 size:w.heap.size<=w'.heap.size
 low:∀k:Nat,k<lo->k<w.heap.size->w'.heap[k]?=w.heap[k]?
 kind:∀(k:Nat) (c:Array Value) (t:TypeId) (f:Nat×Nat),w.heap[k]?=some (.cells c t f)->¬t=132->¬t=188->¬t=58->¬t=3->w'.heap[k]?=w.heap[k]?
theorem Fk.refl(lo:Nat)(w:World):Fk lo w w:=⟨rfl,rfl,rfl,Nat.le_refl _,λ_ _ _=>rfl,λ_ _ _ _ _ _ _ _ _=>rfl⟩
theorem Fk.trans{lo:Nat}{a b c:World}(h:Fk lo a b)(k:Fk lo b c):Fk lo a c:=
 ⟨k.os.trans h.os,k.tape.trans h.tape,k.output.trans h.output,Nat.le_trans h.size k.size,λi h1 h2=>(k.low i h1 (Nat.lt_of_lt_of_le h2 h.size)).trans (h.low i h1 h2),λi c t f hc n1 n2 n3 n4=>by
  have e:=h.kind i c t f hc n1 n2 n3 n4
  exact(k.kind i c t f (e.trans hc) n1 n2 n3 n4).trans e⟩
theorem Fk.alloc{lo:Nat}{a b:World}(h:Fk lo a b)(o:Obj):Fk lo a (b.alloc o):=by
 refine h.trans ⟨rfl,rfl,rfl,by rw[size_alloc];omega,λk _ hk=>heap_alloc_old _ _ _ hk,λk c t f hc _ _ _ _=>heap_alloc_old _ _ _ (heap_lt hc)⟩
theorem Fk.at_{lo:Nat}{w w':World}(h:Fk lo w w'){b:Nat}{t:TypeId}{l:List Value}(a:At w b t l)(n1:¬t=132)(n2:¬t=188)(n3:¬t=58)(n4:¬t=3):At w' b t l:=a.of_block (h.kind b _ _ _ a n1 n2 n3 n4)
theorem Fk.below{lo:Nat}{w w':World}(h:Fk lo w w')(hl:lo<=w.heap.size):Below lo w w':=⟨h.os,h.tape,h.output,h.size,λk hk=>h.low k hk (by omega)⟩
theorem own_up{w:World}{B lo n size:Nat}{t:TypeId}{v:Value}{xs:List Value}(h:w.ownsRow B t size v n xs)(hk:∀k,v.ownBlock=some k->lo<=k):w.ownsRow lo t size v n xs:=by
 obtain⟨hx,⟨e1,e2⟩|⟨g,cap,cur,hv,hb',hg,hc,hm,hs,ht⟩⟩:=h
 · exact⟨hx,Or.inl ⟨e1,e2⟩⟩
 · exact⟨hx,Or.inr ⟨g,cap,cur,hv,hk g (by rw[hv];rfl),hg,hc,hm,hs,ht⟩⟩
theorem own_block{w w':World}{B n size:Nat}{t:TypeId}{v:Value}{xs:List Value}(h:w.ownsRow B t size v n xs)(hk:∀k,v.ownBlock=some k->w'.heap[k]?=w.heap[k]?):w'.ownsRow B t size v n xs:=by
 obtain⟨hx,⟨e1,e2⟩|⟨g,cap,cur,hv,hb',hg,hc,hm,hs,ht⟩⟩:=h
 · exact⟨hx,Or.inl ⟨e1,e2⟩⟩
 · exact⟨hx,Or.inr ⟨g,cap,cur,hv,hb',(hk g (by rw[hv];rfl)).trans hg,hc,hm,hs,ht⟩⟩
theorem wcell{w:World}{p:WP}{cv kv:Value}(h:At w p.wb 132 ([cv,.pointer (some ⟨p.rp,0,none⟩),.pointer (some ⟨p.wp,0,none⟩)]++(p.tb.toList++[kv])))(ht:p.tb.size=256):w.cell? ⟨p.wb,0,none⟩=some cv/\w.cell? ⟨p.wb,1,none⟩=some (.pointer (some ⟨p.rp,0,none⟩))/\w.cell? ⟨p.wb,2,none⟩=some (.pointer (some ⟨p.wp,0,none⟩))/\w.cell? ⟨p.wb,259,none⟩=some kv:=by
 refine⟨h.cell 0,h.cell 1,h.cell 2,?_⟩
 rw[h.cell,List.getElem?_append_right (by simp),List.getElem?_append_right (by simp[ht])]
 simp[ht]
theorem Pool.blk{w w':World}{pb g cap:Nat}{l:List Nat}(p:Pool w pb g cap l)(hb:∀k,k<w.heap.size->∀c t f,w.heap[k]?=some (.cells c t f)->(t=188∨t=3)->w'.heap[k]?=w.heap[k]?):Pool w' pb g cap l:=by
 obtain⟨⟨c1,f1,k1⟩,⟨c2,f2,k2⟩⟩:=pool_kind p
 obtain⟨l1,l2,_,_⟩:=p.lt
 exact p.keep (hb pb l1 _ _ _ k1 (Or.inl rfl)) (hb g l2 _ _ _ k2 (Or.inr rfl))
theorem code_end{w w3:World}{p:WP}{C C':List Ins}{G W K:List Nat}{cv kv nv:Value}(h:WAt w p C G W K)(a1:At w p.wb 132 ([cv,.pointer (some ⟨p.rp,0,none⟩),.pointer (some ⟨p.wp,0,none⟩)]++(p.tb.toList++[kv])))(o1:w.ownsRow p.lo 58 5 cv C.length (C.flatMap inV))(o2:w.ownsRow p.lo 3 1 kv K.length (ints (ofN K)))(hkv:∀k,kv.ownBlock=some k->k≠p.rg/\k≠p.wg)(hrow:w3.ownsRow 0 58 5 nv C'.length (C'.flatMap inV))(hb:∀k,k<w.heap.size->¬cv.ownBlock=some k->w3.heap[k]?=w.heap[k]?)(hk:∀k,nv.ownBlock=some k->cv.ownBlock=some k∨w.heap.size<=k)(hs:w.heap.size<=w3.heap.size)(q1:w3.os=w.os)(q2:w3.tape=w.tape)(q3:w3.output=w.output)(hl:p.lo<=w.heap.size)(hf:C'.length<=100000):
 WAt (w3.setCell ⟨p.wb,0,none⟩ nv) p C' G W K/\Fk p.lo w (w3.setCell ⟨p.wb,0,none⟩ nv):=by
 obtain⟨cw,fw,kw⟩:=at_kind a1
 have nwb:¬cv.ownBlock=some p.wb:=λe=>by
  obtain⟨_,_,k1⟩:=own_kind o1 e
  exact kind_ne k1 kw (by decide) rfl
 have sm:∀k,k<w.heap.size->∀c t f,w.heap[k]?=some (.cells c t f)->(t=188∨t=3)->(w3.setCell ⟨p.wb,0,none⟩ nv).heap[k]?=w.heap[k]?:=by
  intro k hk' c t f hc ht
  have n1:k≠p.wb:=kind_ne hc kw (by rcases ht with rfl |rfl<;>decide)
  refine(heap_setCell_other _ ⟨p.wb,0,none⟩ k _ n1).trans (hb k hk' λe=>?_)
  obtain⟨_,_,k1⟩:=own_kind o1 e
  exact kind_ne k1 hc (by rcases ht with rfl |rfl<;>decide) rfl
 have a3:=a1.of_block (hb p.wb a1.lt nwb)
 have nnw:¬nv.ownBlock=some p.wb:=λe=>by
  rcases hk p.wb e with e' |e'
  · exact nwb e'
  · have:=a1.lt;omega
 refine⟨⟨⟨nv,kv,a3.set 0 nv,own_up (ownsRow_setCell_other hrow (by exact nnw) _) (λk e=>?_),?_,hkv⟩,h.regs.blk sm,h.words.blk sm,h.tab,h.ne,h.low,hf⟩,⟨q1,q2,q3,by rw[World.size_setCell];omega,λk hk' _=>?_,λk c t f hc h1' h2' h3' h4'=>?_⟩⟩
 · rcases hk k e with e' |e'
   · exact(o1.lt k e').1
   · omega
 · refine own_block o2 λk e=>?_
   obtain⟨c,f,kk⟩:=own_kind o2 e
   exact sm k (o2.lt k e).2 _ _ _ kk (Or.inr rfl)
 · have:=h.low
   refine(heap_setCell_other _ ⟨p.wb,0,none⟩ k _ (by show k≠p.wb;omega)).trans (hb k (by omega) λe=>?_)
   have:=(o1.lt k e).1
   omega
 · have n1:k≠p.wb:=kind_ne hc kw h1'
   refine(heap_setCell_other _ ⟨p.wb,0,none⟩ k _ n1).trans (hb k (heap_lt hc) λe=>?_)
   obtain⟨_,_,k1⟩:=own_kind o1 e
   exact kind_ne k1 hc (λe=>h3' e.symm) rfl
theorem add_c{w:World}{p:WP}{C:List Ins}{G W K:List Nat}(h:WAt w p C G W K)(hl:p.lo<=w.heap.size)(hf:C.length<100000)(i:Ins){n0 n1 n2 n3 n4:Int}(hi:inN i=[n0,n1,n2,n3,n4]):
 Calls Tryz.prog 68 #[WV p,.agg #[.int .i64 n0,.int .i64 n1,.int .i64 n2,.int .i64 n3,.int .i64 n4]] w λx w'=>x=.returned (.tuple #[])/\WAt w' p (C++[i]) G W K/\Fk p.lo w w':=by
 obtain⟨cv,kv,a1,o1,o2,hkv⟩:=h.rows
 obtain⟨c0,_,_,_⟩:=wcell a1 h.tab
 have f0:=a1.frozen 0
 have wl:=a1.lt
 obtain⟨i0,hi0,hz0,hz1,hz2⟩:=info_parts info_ins
 obtain⟨ca,cc,rfl⟩:∃ca cc,cv=.slice ca C.length cc:=by
  rcases Joins.ownsRow_forms o1 with⟨rfl,h0⟩|⟨g,c,rfl⟩
  · exact⟨none,0,by rw[h0]⟩
  · exact⟨_,_,rfl⟩
 have H1:=hide a1
 have H2:=hide (Joins.ownsRow_le o1 (Nat.zero_le _))
 have H3:=hide o2
 have H4:=hide h
 have H5:=hide o1
 clear h a1 o1 o2
 obtain⟨W1,hW1⟩:∃W1:World,W1=w.alloc (.cells #[.int .i64 n0,.int .i64 n1,.int .i64 n2,.int .i64 n3,.int .i64 n4] 58 (0,0)):=⟨_,rfl⟩
 have bx:At W1 w.heap.size 58 [.int .i64 n0,.int .i64 n1,.int .i64 n2,.int .i64 n3,.int .i64 n4]:=by rw[hW1];exact At.alloc_new w _ _
 have c0':W1.cell? ⟨p.wb,0,none⟩=some (.slice ca C.length cc):=by rw[hW1];exact(World.cell?_of_block (heap_alloc_old _ _ _ wl)).trans c0
 have f0':W1.frozen? ⟨p.wb,0,none⟩=false:=by
  have:=H1.out.alloc (.cells #[.int .i64 n0,.int .i64 n1,.int .i64 n2,.int .i64 n3,.int .i64 n4] 58 (0,0))
  rw[hW1];exact this.frozen 0
 have b0:=bx.cell 0
 have b1:=bx.cell 1
 have b2:=bx.cell 2
 have b3:=bx.cell 3
 have b4:=bx.cell 4
 simp only[List.getElem?_cons_zero,List.getElem?_cons_succ]at b0 b1 b2 b3 b4
 have rS:Hid (W1.ownsRow 0 58 5 (.slice ca C.length cc) C.length (C.flatMap inV)):=by rw[hW1];exact H2.out.alloc _
 have zW:Hid (W1.heap.size=w.heap.size+1):=by rw[hW1];exact size_alloc _ _
 have hone:∀u∈[Value.int .i64 n0,.int .i64 n1,.int .i64 n2,.int .i64 n3,.int .i64 n4],u.oneCell'=true:=by
  intro u hu
  simp only[List.mem_cons,List.not_mem_nil,or_false]at hu
  rcases hu with rfl |rfl |rfl |rfl |rfl<;>rfl
 have aW1:Hid (At W1 p.wb 132 ([.slice ca C.length cc,.pointer (some ⟨p.rp,0,none⟩),.pointer (some ⟨p.wp,0,none⟩)]++(p.tb.toList++[kv]))):=by rw[hW1];exact H1.out.alloc _
 have nwb:¬(Value.slice ca C.length cc).ownBlock=some p.wb:=λe=>by
  obtain⟨_,_,k1⟩:=own_kind H5.out e
  obtain⟨_,_,k2⟩:=at_kind H1.out
  exact kind_ne k1 k2 (by decide) rfl
 have wl1:p.wb<W1.heap.size:=aW1.out.lt
 have wl2:w.heap.size<W1.heap.size:=bx.lt
 have HW:=hide hW1
 go_enter Tryz.func68,Tryz.ntmps68
 go_upto_region 1 with fail
 rw[<-HW.out]
 clear hW1
 go_region_law (refine step_append_row1 rfl (.tmp 8) (.tmp 10) 52 rfl 58 i0 _ 5 40 Tryz.underlying52 hi0 hz0 hz1 hz2 rfl (by decide) (.slice ca C.length cc) C.length (C.flatMap inV) rfl (by exact(World.ownsRow.alloc rS.out _).drew) ⟨W1.heap.size,0,none⟩ 1 1 [.int .i64 n0,.int .i64 n1,.int .i64 n2,.int .i64 n3,.int .i64 n4] rfl rfl (by exact row_new W1 [.int .i64 n0,.int .i64 n1,.int .i64 n2,.int .i64 n3,.int .i64 n4] _) hone (few_le (by omega)) (by omega) Nat.one_pos ?_;intro gg cap3 w3 hrow hgr hkk;have aW3:=aW1.out.of_block ((hgr.block p.wb (by show p.wb<(World.alloc _ _).heap.size;rw[size_alloc];have:=aW1.out.lt;omega) (λe=>nwb e.symm)).trans (heap_alloc_old _ _ _ aW1.out.lt));have cw:=aW3.cell 0;have fw:=aW3.frozen 0;have HA3:=hide aW3;have HR3:=hide hrow;clear aW3 hrow)
 all_goals go_wp2_with fail
 all_goals go_end0
 all_goals exact⟨rfl,code_end H4.out H1.out H5.out H3.out hkv (C':=C++[i]) (by rw[List.length_append,List.flatMap_append];have hr:=HR3.out;simp only[List.flatMap_cons,List.flatMap_nil,List.append_nil];unfold inV;rw[hi];exact hr) (λk hk hn=>(hgr.block k (by show k<(World.alloc _ _).heap.size;rw[size_alloc];have:=zW.out;omega) (λe=>hn e.symm)).trans ((heap_alloc_old _ _ _ (by have:=zW.out;omega)).trans (by rw[HW.out];exact heap_alloc_old _ _ _ hk))) (λk e=>(hkk k e).imp id (λe'=>by have e2:(World.alloc _ _).heap.size<=k:=e';rw[size_alloc]at e2;have:=zW.out;omega)) (by have e2:(World.alloc _ _).heap.size<=_:=hgr.size;rw[size_alloc]at e2;have:=zW.out;omega) (hgr.os.trans (by rw[HW.out];rfl)) (hgr.tape.trans (by rw[HW.out];rfl)) (hgr.output.trans (by rw[HW.out];rfl)) hl (by rw[List.length_append];show _+1<=_;omega)⟩
theorem WAt.hl{w:World}{p:WP}{C:List Ins}{G W K:List Nat}(h:WAt w p C G W K):p.lo<=w.heap.size:=by
 obtain⟨_,_,a,_⟩:=h.rows
 have:=a.lt
 have:=h.low
 omega
theorem set_c{w:World}{p:WP}{C:List Ins}{G W K:List Nat}(h:WAt w p C G W K)(hf:C.length<100000)(r:Nat)(v:Int):
 Calls Tryz.prog 184 #[WV p,.int .i64 (r:Int),.int .i64 v] w λx w'=>x=.returned (.tuple #[])/\WAt w' p (C++[.kst r v]) G W K/\Fk p.lo w w':=by
 have ha:=add_c h h.hl hf (.kst r v) (n0:=1) (n1:=r) (n2:=0) (n3:=0) (n4:=v) rfl
 clear h
 go_enter Tryz.func184,Tryz.ntmps184
 go_wp2_with fail
 refine ha.mono ?_
 rintro x w' ⟨rfl,h',b'⟩
 go_wp2_with fail
 go_end0
 exact⟨rfl,h',b'⟩
theorem choice_c{w:World}{p:WP}{C:List Ins}{G W K:List Nat}(h:WAt w p C G W K)(hf:C.length<100000)(d q y n:Nat):
 Calls Tryz.prog 195 #[WV p,.int .i64 (d:Int),.int .i64 (q:Int),.int .i64 (y:Int),.int .i64 (n:Int)] w λx w'=>x=.returned (.tuple #[])/\WAt w' p (C++[.sel d y q n]) G W K/\Fk p.lo w w':=by
 have ha:=add_c h h.hl hf (.sel d y q n) (n0:=10) (n1:=d) (n2:=y) (n3:=q) (n4:=n) rfl
 clear h
 go_enter Tryz.func195,Tryz.ntmps195
 go_wp2_with fail
 refine ha.mono ?_
 rintro x w' ⟨rfl,h',b'⟩
 go_wp2_with fail
 go_end0
 exact⟨rfl,h',b'⟩
theorem loadFrom_c{w:World}{p:WP}{C:List Ins}{G W K:List Nat}(h:WAt w p C G W K)(hf:C.length<100000)(d at_:Nat):
 Calls Tryz.prog 210 #[WV p,.int .i64 (d:Int),.int .i64 (at_:Int)] w λx w'=>x=.returned (.tuple #[])/\WAt w' p (C++[.ld d at_]) G W K/\Fk p.lo w w':=by
 have ha:=add_c h h.hl hf (.ld d at_) (n0:=11) (n1:=d) (n2:=at_) (n3:=0) (n4:=0) rfl
 clear h
 go_enter Tryz.func210,Tryz.ntmps210
 go_wp2_with fail
 refine ha.mono ?_
 rintro x w' ⟨rfl,h',b'⟩
 go_wp2_with fail
 go_end0
 exact⟨rfl,h',b'⟩
theorem storeTo_c{w:World}{p:WP}{C:List Ins}{G W K:List Nat}(h:WAt w p C G W K)(hf:C.length<100000)(at_ v:Nat):
 Calls Tryz.prog 187 #[WV p,.int .i64 (at_:Int),.int .i64 (v:Int)] w λx w'=>x=.returned (.tuple #[])/\WAt w' p (C++[.st at_ v]) G W K/\Fk p.lo w w':=by
 have ha:=add_c h h.hl hf (.st at_ v) (n0:=12) (n1:=at_) (n2:=v) (n3:=0) (n4:=0) rfl
 clear h
 go_enter Tryz.func187,Tryz.ntmps187
 go_wp2_with fail
 refine ha.mono ?_
 rintro x w' ⟨rfl,h',b'⟩
 go_wp2_with fail
 go_end0
 exact⟨rfl,h',b'⟩
theorem ofTwo_c{w:World}{p:WP}{C:List Ins}{G W K:List Nat}(h:WAt w p C G W K)(hf:C.length<100000)(o:UInt8)(n:Int)(ho:opn o=n)(d l r:Nat):
 Calls Tryz.prog 147 #[WV p,.int .i64 n,.int .i64 (d:Int),.int .i64 (l:Int),.int .i64 (r:Int)] w λx w'=>x=.returned (.tuple #[])/\WAt w' p (C++[.bin o d l r]) G W K/\Fk p.lo w w':=by
 have ha:=add_c h h.hl hf (.bin o d l r) (n0:=n) (n1:=d) (n2:=l) (n3:=r) (n4:=0) (by show [opn o,(d:Int),(l:Int),(r:Int),0]=_;rw[ho])
 clear h
 go_enter Tryz.func147,Tryz.ntmps147
 go_wp2_with fail
 refine ha.mono ?_
 rintro x w' ⟨rfl,h',b'⟩
 go_wp2_with fail
 go_end0
 exact⟨rfl,h',b'⟩
theorem plus_w{w:World}{p:WP}{C:List Ins}{G W K:List Nat}(h:WAt w p C G W K)(hf:C.length<100000)(d l r:Nat):
 Calls Tryz.prog 115 #[WV p,.int .i64 (d:Int),.int .i64 (l:Int),.int .i64 (r:Int)] w λx w'=>x=.returned (.tuple #[])/\WAt w' p (C++[.bin 43 d l r]) G W K/\Fk p.lo w w':=by
 have ha:=ofTwo_c h hf 43 2 rfl d l r
 clear h
 go_enter Tryz.func115,Tryz.ntmps115
 go_wp2_with fail
 refine ha.mono ?_
 rintro x w' ⟨rfl,h',b'⟩
 go_wp2_with fail
 go_end0
 exact⟨rfl,h',b'⟩
theorem minus_w{w:World}{p:WP}{C:List Ins}{G W K:List Nat}(h:WAt w p C G W K)(hf:C.length<100000)(d l r:Nat):
 Calls Tryz.prog 116 #[WV p,.int .i64 (d:Int),.int .i64 (l:Int),.int .i64 (r:Int)] w λx w'=>x=.returned (.tuple #[])/\WAt w' p (C++[.bin 45 d l r]) G W K/\Fk p.lo w w':=by
 have ha:=ofTwo_c h hf 45 3 rfl d l r
 clear h
 go_enter Tryz.func116,Tryz.ntmps116
 go_wp2_with fail
 refine ha.mono ?_
 rintro x w' ⟨rfl,h',b'⟩
 go_wp2_with fail
 go_end0
 exact⟨rfl,h',b'⟩
theorem times_w{w:World}{p:WP}{C:List Ins}{G W K:List Nat}(h:WAt w p C G W K)(hf:C.length<100000)(d l r:Nat):
 Calls Tryz.prog 117 #[WV p,.int .i64 (d:Int),.int .i64 (l:Int),.int .i64 (r:Int)] w λx w'=>x=.returned (.tuple #[])/\WAt w' p (C++[.bin 42 d l r]) G W K/\Fk p.lo w w':=by
 have ha:=ofTwo_c h hf 42 4 rfl d l r
 clear h
 go_enter Tryz.func117,Tryz.ntmps117
 go_wp2_with fail
 refine ha.mono ?_
 rintro x w' ⟨rfl,h',b'⟩
 go_wp2_with fail
 go_end0
 exact⟨rfl,h',b'⟩
theorem and_w{w:World}{p:WP}{C:List Ins}{G W K:List Nat}(h:WAt w p C G W K)(hf:C.length<100000)(d l r:Nat):
 Calls Tryz.prog 119 #[WV p,.int .i64 (d:Int),.int .i64 (l:Int),.int .i64 (r:Int)] w λx w'=>x=.returned (.tuple #[])/\WAt w' p (C++[.bin 38 d l r]) G W K/\Fk p.lo w w':=by
 have ha:=ofTwo_c h hf 38 5 rfl d l r
 clear h
 go_enter Tryz.func119,Tryz.ntmps119
 go_wp2_with fail
 refine ha.mono ?_
 rintro x w' ⟨rfl,h',b'⟩
 go_wp2_with fail
 go_end0
 exact⟨rfl,h',b'⟩
theorem xor_w{w:World}{p:WP}{C:List Ins}{G W K:List Nat}(h:WAt w p C G W K)(hf:C.length<100000)(d l r:Nat):
 Calls Tryz.prog 120 #[WV p,.int .i64 (d:Int),.int .i64 (l:Int),.int .i64 (r:Int)] w λx w'=>x=.returned (.tuple #[])/\WAt w' p (C++[.bin 94 d l r]) G W K/\Fk p.lo w w':=by
 have ha:=ofTwo_c h hf 94 6 rfl d l r
 clear h
 go_enter Tryz.func120,Tryz.ntmps120
 go_wp2_with fail
 refine ha.mono ?_
 rintro x w' ⟨rfl,h',b'⟩
 go_wp2_with fail
 go_end0
 exact⟨rfl,h',b'⟩
theorem less_w{w:World}{p:WP}{C:List Ins}{G W K:List Nat}(h:WAt w p C G W K)(hf:C.length<100000)(d l r:Nat):
 Calls Tryz.prog 121 #[WV p,.int .i64 (d:Int),.int .i64 (l:Int),.int .i64 (r:Int)] w λx w'=>x=.returned (.tuple #[])/\WAt w' p (C++[.bin 60 d l r]) G W K/\Fk p.lo w w':=by
 have ha:=ofTwo_c h hf 60 7 rfl d l r
 clear h
 go_enter Tryz.func121,Tryz.ntmps121
 go_wp2_with fail
 refine ha.mono ?_
 rintro x w' ⟨rfl,h',b'⟩
 go_wp2_with fail
 go_end0
 exact⟨rfl,h',b'⟩
theorem equal_w{w:World}{p:WP}{C:List Ins}{G W K:List Nat}(h:WAt w p C G W K)(hf:C.length<100000)(d l r:Nat):
 Calls Tryz.prog 122 #[WV p,.int .i64 (d:Int),.int .i64 (l:Int),.int .i64 (r:Int)] w λx w'=>x=.returned (.tuple #[])/\WAt w' p (C++[.bin 61 d l r]) G W K/\Fk p.lo w w':=by
 have ha:=ofTwo_c h hf 61 8 rfl d l r
 clear h
 go_enter Tryz.func122,Tryz.ntmps122
 go_wp2_with fail
 refine ha.mono ?_
 rintro x w' ⟨rfl,h',b'⟩
 go_wp2_with fail
 go_end0
 exact⟨rfl,h',b'⟩
theorem over_w{w:World}{p:WP}{C:List Ins}{G W K:List Nat}(h:WAt w p C G W K)(hf:C.length<100000)(d l r:Nat):
 Calls Tryz.prog 118 #[WV p,.int .i64 (d:Int),.int .i64 (l:Int),.int .i64 (r:Int)] w λx w'=>x=.returned (.tuple #[])/\WAt w' p (C++[.bin 47 d l r]) G W K/\Fk p.lo w w':=by
 have ha:=ofTwo_c h hf 47 9 rfl d l r
 clear h
 go_enter Tryz.func118,Tryz.ntmps118
 go_wp2_with fail
 refine ha.mono ?_
 rintro x w' ⟨rfl,h',b'⟩
 go_wp2_with fail
 go_end0
 exact⟨rfl,h',b'⟩
theorem WAt.regs'{w w':World}{p:WP}{C:List Ins}{G G' W K:List Nat}(h:WAt w p C G W K)(hp:Pool w' p.rp p.rg 8 G')(t:Two p.rp p.rg w w'):WAt w' p C G' W K/\Fk p.lo w w':=by
 obtain⟨cv,kv,a1,o1,o2,hkv⟩:=h.rows
 obtain⟨⟨c1,f1,k1⟩,⟨c2,f2,k2⟩⟩:=pool_kind h.regs
 obtain⟨cw,fw,kw⟩:=at_kind a1
 have hl:=h.low
 refine⟨⟨⟨cv,kv,a1.of_block (t.block _ a1.lt (kind_ne kw k1 (by decide)) (kind_ne kw k2 (by decide))),own_block o1 λk e=>?_,own_block o2 λk e=>?_,hkv⟩,hp,?_,h.tab,h.ne,h.low,h.few⟩,⟨t.os,t.tape,t.output,t.size,λk hk hk'=>t.block k hk' (by omega) (by omega),λk c t' f hc m1 m2 m3 m4=>t.block k (heap_lt hc) (kind_ne hc k1 m2) (kind_ne hc k2 m4)⟩⟩
 · obtain⟨c,f,kk⟩:=own_kind o1 e
   exact t.block k (o1.lt k e).2 (kind_ne kk k1 (by decide)) (kind_ne kk k2 (by decide))
 · obtain⟨c,f,kk⟩:=own_kind o2 e
   exact t.block k (o2.lt k e).2 (kind_ne kk k1 (by decide)) (hkv k e).1
 · obtain⟨⟨c3,f3,k3⟩,⟨c4,f4,k4⟩⟩:=pool_kind h.words
   obtain⟨l1,l2,_,_⟩:=h.words.lt
   exact h.words.keep (t.block _ l1 (λe=>h.ne.1 e.symm) (kind_ne k3 k2 (by decide))) (t.block _ l2 (kind_ne k4 k1 (by decide)) (λe=>h.ne.2 e.symm))
theorem WAt.words'{w w':World}{p:WP}{C:List Ins}{G W W' K:List Nat}(h:WAt w p C G W K)(hp:Pool w' p.wp p.wg p.wc W')(t:Two p.wp p.wg w w'):WAt w' p C G W' K/\Fk p.lo w w':=by
 obtain⟨cv,kv,a1,o1,o2,hkv⟩:=h.rows
 obtain⟨⟨c1,f1,k1⟩,⟨c2,f2,k2⟩⟩:=pool_kind h.words
 obtain⟨cw,fw,kw⟩:=at_kind a1
 have hl:=h.low
 refine⟨⟨⟨cv,kv,a1.of_block (t.block _ a1.lt (kind_ne kw k1 (by decide)) (kind_ne kw k2 (by decide))),own_block o1 λk e=>?_,own_block o2 λk e=>?_,hkv⟩,?_,hp,h.tab,h.ne,h.low,h.few⟩,⟨t.os,t.tape,t.output,t.size,λk hk hk'=>t.block k hk' (by omega) (by omega),λk c t' f hc m1 m2 m3 m4=>t.block k (heap_lt hc) (kind_ne hc k1 m2) (kind_ne hc k2 m4)⟩⟩
 · obtain⟨c,f,kk⟩:=own_kind o1 e
   exact t.block k (o1.lt k e).2 (kind_ne kk k1 (by decide)) (kind_ne kk k2 (by decide))
 · obtain⟨c,f,kk⟩:=own_kind o2 e
   exact t.block k (o2.lt k e).2 (kind_ne kk k1 (by decide)) (hkv k e).2
 · obtain⟨⟨c3,f3,k3⟩,⟨c4,f4,k4⟩⟩:=pool_kind h.regs
   obtain⟨l1,l2,_,_⟩:=h.regs.lt
   exact h.regs.keep (t.block _ l1 h.ne.1 (kind_ne k3 k2 (by decide))) (t.block _ l2 (kind_ne k4 k1 (by decide)) h.ne.2)
theorem WAt.c{w:World}{p:WP}{C:List Ins}{G W K:List Nat}(h:WAt w p C G W K):w.cell? ⟨p.wb,1,none⟩=some (.pointer (some ⟨p.rp,0,none⟩))/\w.cell? ⟨p.wb,2,none⟩=some (.pointer (some ⟨p.wp,0,none⟩)):=by
 obtain⟨cv,kv,a1,_⟩:=h.rows
 exact⟨(wcell a1 h.tab).2.1,(wcell a1 h.tab).2.2.1⟩
theorem number_c{w:World}{p:WP}{C:List Ins}{r:Nat}{G W K:List Nat}(h:WAt w p C (r::G) W K)(hf:C.length<100000)(v:Int):
 Calls Tryz.prog 150 #[WV p,.int .i64 v] w λx w'=>x=.returned (.int .i64 (r:Int))/\WAt w' p (C++[.kst r v]) G W K/\Fk p.lo w w':=by
 have ht:=take_c h.regs
 obtain⟨c1,_⟩:=h.c
 have H:=hide h
 clear h
 go_enter Tryz.func150,Tryz.ntmps150
 go_wp2_with fail
 refine ht.mono ?_
 rintro x w1 ⟨rfl,P1,T1⟩
 obtain⟨h1,b1⟩:=H.out.regs' P1 T1
 have hs:=set_c h1 hf r v
 clear h1 P1
 go_wp2_with fail
 refine hs.mono ?_
 rintro x w2 ⟨rfl,h2,b2⟩
 go_wp2_with fail
 go_ret
 exact⟨rfl,h2,b1.trans b2⟩
theorem load_c{w:World}{p:WP}{C:List Ins}{r:Nat}{G W K:List Nat}(h:WAt w p C (r::G) W K)(hf:C.length+1<100000)(v:Int):
 Calls Tryz.prog 179 #[WV p,.int .i64 v] w λx w'=>x=.returned (.int .i64 (r:Int))/\WAt w' p (C++[.kst r v,.ld r r]) G W K/\Fk p.lo w w':=by
 have hn:=number_c h (by omega) v
 clear h
 go_enter Tryz.func179,Tryz.ntmps179
 go_wp2_with fail
 refine hn.mono ?_
 rintro x w1 ⟨rfl,h1,b1⟩
 have hs:=loadFrom_c h1 (by rw[List.length_append];exact hf) r r
 clear h1
 go_wp2_with fail
 refine hs.mono ?_
 rintro x w2 ⟨rfl,h2,b2⟩
 go_wp2_with fail
 go_ret
 exact⟨rfl,by rw[List.append_assoc]at h2;exact h2,b1.trans b2⟩
theorem Srt.hd_not{r:Nat}{G:List Nat}(h:Srt (r::G)):r∉G:=λe=>by have:=(List.pairwise_cons.1 h).1 r e;omega
theorem Srt.ins_hd{r:Nat}{G:List Nat}(h:Srt (r::G)):ins r G=r::G:=by
 have:=ins_erase h (List.mem_cons_self)
 rw[List.erase_cons_head]at this
 exact this
theorem WAt.give{w:World}{p:WP}{C:List Ins}{G W K:List Nat}{r:Nat}(u:FrameMode)(h:WAt w p C G W K)(hr:r∉G)(hl:G.length<8):
 CallsD Tryz.prog 149 #[.pointer (some ⟨p.rp,0,none⟩),.int .i64 (r:Int)] u w λy u' w'=>u'=u/\(y=.returned (.tuple #[])/\WAt w' p C (ins r G) W K/\Fk p.lo w w'):=
 (give_d u h.regs hr hl).mono λ_ _ _ h'=>⟨h'.1,h'.2.1,h.regs' h'.2.2.1 h'.2.2.2⟩
theorem store_c{w:World}{p:WP}{C:List Ins}{r:Nat}{G W K:List Nat}(h:WAt w p C (r::G) W K)(hf:C.length+1<100000)(at_:Int)(v:Nat):
 Calls Tryz.prog 189 #[WV p,.int .i64 at_,.int .i64 (v:Int)] w λx w'=>x=.returned (.tuple #[])/\WAt w' p (C++[.kst r at_,.st r v]) (r::G) W K/\Fk p.lo w w':=by
 have hn:=number_c h (by omega) at_
 have hsr:=h.regs.srt
 have h8:=h.regs.lt.2.2.2
 clear h
 go_enter_defers Tryz.func189,Tryz.ntmps189
 go_wp2_with fail
 refine hn.mono ?_
 rintro x w1 ⟨rfl,h1,b1⟩
 obtain⟨c1,_⟩:=h1.c
 have hs:=storeTo_c h1 (by rw[List.length_append];exact hf) r v
 clear h1
 go_wp2_with fail
 refine hs.mono ?_
 rintro x w2 ⟨rfl,h2,b2⟩
 go_wp2_with fail
 refine leaves_cons (f:=149) (args:=#[.pointer (some ⟨p.rp,0,none⟩),.int .i64 (r:Int)]) (by simp) (by simp[go_sem]) ?_
 refine(h2.give .returning (Srt.hd_not hsr) (by simp at h8;omega)).mono ?_
 rintro e u' w3 ⟨rfl,rfl,h3,b3⟩
 refine⟨_,by first |exact results_none rfl _ _ |(simp[results,go_sem];done)|rfl,rfl,?_,(b1.trans b2).trans b3⟩
 rw[Srt.ins_hd hsr,List.append_assoc]at h3
 exact h3
end Y
end
section
open Go.RowKit
open K (Nm Ex Do)
theorem gd_for(p:Int)(n:Nm)(e:Ex)(l:List Do)(hg:K.good e=true)(hl:GdsDoes l):GdDoes (.fors p n e l):=by
 intro B w b g u hid h hd hB
 unfold DoIs at hd
 obtain⟨lv,ls,hu,dr,de⟩:=hd
 subst hu
 have a1:=ad_For_Set
 have a2:=ad_For_Put
 have a3:=ad_For_If
 have a4:=ad_For_For
 have hlt:=h.lt
 have hm:=sec_method e hg
 have hna:=sec_ahead e hg
 have hen:=sec_enter e hg
 have hs:=sec_c e hg
 unfold SecDoes at hs
 have HK:Hid (K.gd hid (.fors p n e l) g=K.gds hid l (K.gx e (K.note p (K.sec e) g))):=by show _=_;rw[K.gd]
 have hn:=fun(w:World) (h':GAt w b g)=>note_c h' p (K.sec e)
 have hx:=fun(w:World) (h':GAt w b (K.note p (K.sec e) g))=>gx_c e hg w b _ h'
 have hx2:=fun(w':World) (h':GAt w' b (K.gx e (K.note p (K.sec e) g))) (d1:DRow B w' lv ls) (d2:Each B w' l ls)=>hl B w' b _ lv ls hid h' d1 d2 hB
 rw[exV_good hg]at hx ⊢
 generalize K.gd hid (.fors p n e l) g=G at*
 generalize K.gds hid l (K.gx e (K.note p (K.sec e) g))=G3 at*
 generalize K.gx e (K.note p (K.sec e) g)=G2 at*
 generalize K.note p (K.sec e) g=g1 at*
 generalize K.sec e=q at*
 generalize exT e=t at*
 generalize exP e=x at*
 generalize exM e=m at*
 obtain⟨x0,x1,x2,x3,x4⟩:=n
 obtain⟨la,ln,lc,hlv⟩:=dr.form
 subst hlv
 dsimp only at*
 have h0:=h.alloc (.cells #[.int .i64 p,.string x0,.int .i64 x1,.bool x2,.int .i64 x3,.int .i64 x4,.iface t x,.slice la ln lc] 186 (0,0))
 have bx:=At.alloc_new w [.int .i64 p,.string x0,.int .i64 x1,.bool x2,.int .i64 x3,.int .i64 x4,.iface t x,.slice la ln lc] 186
 have B0:But b w (w.alloc (.cells #[.int .i64 p,.string x0,.int .i64 x1,.bool x2,.int .i64 x3,.int .i64 x4,.iface t x,.slice la ln lc] 186 (0,0))):=(But.refl b w).alloc _
 have nq:w.heap.size≠b:=by omega
 go_enter Tryz.func108,Tryz.ntmps108
 go_upto_region 18 with fail
 go_region_with (first |(go_at_call 142;refine(hn _ h1).mono ?_;rintro y w2 ⟨rfl,h2,hb2⟩;have bx2:=bx1.of_block (hb2.block _ bx1.lt nq);have k6:=bx2.cell 6;simp only[List.getElem?_cons_zero,List.getElem?_cons_succ]at k6)|(refine(hs _).mono ?_;rintro y w1 ⟨rfl,hb1⟩;have h1:GAt w1 b g:=h0.of_block (hb1.block _ h0.lt);have bx1:At w1 w.heap.size 186 [.int .i64 p,.string x0,.int .i64 x1,.bool x2,.int .i64 x3,.int .i64 x4,.iface t x,.slice la ln lc]:=bx.of_block (hb1.block _ bx.lt);have k0:=bx1.cell 0;simp only[List.getElem?_cons_zero]at k0))
 all_goals
  have B2:=(B0.drew.below hb1).trans hb2
  go_wp2_with fail
  refine(hx _ h2).mono ?_
  rintro y w3 ⟨rfl,h3,hb3⟩
  have B3:=B2.trans hb3
  have bx3:=bx2.of_block (hb3.block _ bx2.lt nq)
  have k7:=bx3.cell 7
  simp only[List.getElem?_cons_zero,List.getElem?_cons_succ]at k7
  have kp:∀k,B k->k<w.heap.size->w3.heap[k]?=w.heap[k]?:=λk h1 h2=>B3.block k h2 (hB k h1)
  go_wp2_with fail
  refine(hx2 _ h3 (dr.keep kp) (de.keep kp)).mono ?_
  rintro y w4 ⟨rfl,h4,hb4⟩
  go_wp2_with fail
  go_end0
  rw[HK.out]
  exact⟨rfl,h4,B3.trans hb4⟩
theorem gd_if(p:Int)(e:Ex)(l r:List Do)(hg:K.good e=true)(hl:GdsDoes l)(hr:GdsDoes r):GdDoes (.ifs p e l r):=by
 intro B w b g u hid h hd hB
 unfold DoIs at hd
 obtain⟨yv,nv,ys,ns,hu,dr,de,dr2,de2⟩:=hd
 subst hu
 have a1:=ad_If_Set
 have a2:=ad_If_Put
 have a3:=ad_If_If
 have hlt:=h.lt
 have hm:=sec_method e hg
 have hna:=sec_ahead e hg
 have hen:=sec_enter e hg
 have hs:=sec_c e hg
 unfold SecDoes at hs
 have HK:Hid (K.gd hid (.ifs p e l r) g=K.gds (hid||K.sec e) r (K.gds (hid||K.sec e) l (K.gx e g))):=by show _=_;rw[K.gd]
 have hx:=fun(w:World) (h':GAt w b g)=>gx_c e hg w b _ h'
 have hx2:=fun(w':World) (h':GAt w' b (K.gx e g)) (d1:DRow B w' yv ys) (d2:Each B w' l ys)=>hl B w' b _ yv ys (hid||K.sec e) h' d1 d2 hB
 have hx3:=fun(w':World) (h':GAt w' b (K.gds (hid||K.sec e) l (K.gx e g))) (d1:DRow B w' nv ns) (d2:Each B w' r ns)=>hr B w' b _ nv ns (hid||K.sec e) h' d1 d2 hB
 rw[exV_good hg]at hx ⊢
 generalize K.gd hid (.ifs p e l r) g=G at*
 generalize K.gds (hid||K.sec e) r (K.gds (hid||K.sec e) l (K.gx e g))=G3 at*
 generalize K.gds (hid||K.sec e) l (K.gx e g)=G2 at*
 generalize K.gx e g=g1 at*
 generalize K.sec e=q at*
 generalize exT e=t at*
 generalize exP e=x at*
 generalize exM e=m at*
 obtain⟨la,ln,lc,hlv⟩:=dr.form
 subst hlv
 obtain⟨ra,rn,rc,hrv⟩:=dr2.form
 subst hrv
 have h0:=h.alloc (.cells #[.int .i64 p,.iface t x,.slice la ln lc,.slice ra rn rc] 184 (0,0))
 have bx:=At.alloc_new w [.int .i64 p,.iface t x,.slice la ln lc,.slice ra rn rc] 184
 have B0:But b w (w.alloc (.cells #[.int .i64 p,.iface t x,.slice la ln lc,.slice ra rn rc] 184 (0,0))):=(But.refl b w).alloc _
 have nq:w.heap.size≠b:=by omega
 cases hid with
 |true=>
  rw[Bool.true_or]at hx2 hx3
  go_enter Tryz.func108,Tryz.ntmps108
  go_wp2_with fail
  refine(hx _ h0).mono ?_
  rintro y w2 ⟨rfl,h2,hb2⟩
  have B2:=B0.trans hb2
  have bx2:=bx.of_block (hb2.block _ bx.lt nq)
  have k2:=bx2.cell 2
  simp only[List.getElem?_cons_zero,List.getElem?_cons_succ]at k2
  have kp:∀k,B k->k<w.heap.size->w2.heap[k]?=w.heap[k]?:=λk h1 h2=>B2.block k h2 (hB k h1)
  go_wp2_with fail
  refine(hx2 _ h2 (dr.keep kp) (de.keep kp)).mono ?_
  rintro y w3 ⟨rfl,h3,hb3⟩
  have B3:=B2.trans hb3
  have bx3:=bx2.of_block (hb3.block _ bx2.lt nq)
  have k3:=bx3.cell 3
  simp only[List.getElem?_cons_zero,List.getElem?_cons_succ]at k3
  have kp3:∀k,B k->k<w.heap.size->w3.heap[k]?=w.heap[k]?:=λk h1 h2=>B3.block k h2 (hB k h1)
  go_wp2_with fail
  refine(hx3 _ h3 (dr2.keep kp3) (de2.keep kp3)).mono ?_
  rintro y w4 ⟨rfl,h4,hb4⟩
  go_wp2_with fail
  go_end0
  rw[HK.out]
  exact⟨rfl,h4,B3.trans hb4⟩
 |false=>
  rw[Bool.false_or]at hx2 hx3
  go_enter Tryz.func108,Tryz.ntmps108
  go_wp2_with fail
  refine(hx _ h0).mono ?_
  rintro y w2 ⟨rfl,h2,hb2⟩
  have B2:=B0.trans hb2
  have bx2:=bx.of_block (hb2.block _ bx.lt nq)
  have k1:=bx2.cell 1
  simp only[List.getElem?_cons_zero,List.getElem?_cons_succ]at k1
  go_wp2_with fail
  refine(hs _).mono ?_
  rintro y w5 ⟨rfl,hb5⟩
  have B5:=B2.below hb5
  have h5:GAt w5 b g1:=h2.of_block (hb5.block _ h2.lt)
  have bx5:=bx2.of_block (hb5.block _ bx2.lt)
  have k2:=bx5.cell 2
  simp only[List.getElem?_cons_zero,List.getElem?_cons_succ]at k2
  have kp:∀k,B k->k<w.heap.size->w5.heap[k]?=w.heap[k]?:=λk h1 h2=>B5.block k h2 (hB k h1)
  go_wp2_with fail
  refine(hx2 _ h5 (dr.keep kp) (de.keep kp)).mono ?_
  rintro y w3 ⟨rfl,h3,hb3⟩
  have B3:=B5.trans hb3
  have bx3:=bx5.of_block (hb3.block _ bx5.lt nq)
  have k3:=bx3.cell 3
  simp only[List.getElem?_cons_zero,List.getElem?_cons_succ]at k3
  have kp3:∀k,B k->k<w.heap.size->w3.heap[k]?=w.heap[k]?:=λk h1 h2=>B3.block k h2 (hB k h1)
  go_wp2_with fail
  refine(hx3 _ h3 (dr2.keep kp3) (de2.keep kp3)).mono ?_
  rintro y w4 ⟨rfl,h4,hb4⟩
  go_wp2_with fail
  go_end0
  rw[HK.out]
  exact⟨rfl,h4,B3.trans hb4⟩
end
end Go.Proofs.YtejbgcloblpbfaaGreatDoor
