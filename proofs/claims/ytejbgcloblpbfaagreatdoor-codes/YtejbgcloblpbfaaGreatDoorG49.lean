import Derived.Test.YtejbgcloblpbfaaGreatDoorG47
import Derived.Test.YtejbgcloblpbfaaGreatDoorG48
import Derived.Test.YtejbgcloblpbfaaGreatDoorG44
import Derived.Lib.SliceRun
set_option maxHeartbeats 4000000
set_option maxRecDepth 100000
namespace Go.Proofs.YtejbgcloblpbfaaGreatDoor
open Go.RowKit
open K (Nm Ex Do)
namespace Y
theorem neq_nil(w:World)(t e:TypeId)(a:Option Addr)(n c:Nat)(h:Tryz.prog.underlying t=some (.slice e)):(binOp .neq t (.slice a n c) (.slice none 0 0)).run Tryz.prog w=.ok (.bool a.isSome) w:=by
 simp only[binOp]
 cases a<;>simp[Op.equal,Op.maxDepth,Lib.run_equalIn_slice_nil w 9999 t e _ n c 0 0 h]
theorem codes_err(s:ByteArray)(w:World)(hm:s.size<=maxLen)(hv:K.Vars w)(hw:5<=w.heap.size)(he:¬(R.read s).err=0)(a1:Option Addr)(n1 c1:Nat):
 Calls Tryz.prog 6 #[.string s,.slice a1 n1 c1] w λx w'=>x=.returned (.bool true)/\Below w.heap.size w w':=by
 have h1:=read_run s w hm
 have h2:=fun(w':World) (hb:Below w.heap.size w w')=>Go.Proofs.YtejbgcloblpbfaaGreatDoor.right_c w' (vars_below hv hb hw) (Nat.le_trans hw hb.size)
 have h3:=fun(w':World) (hb:Below w.heap.size w w')=>compile_c s w' hm (vars_below hv hb hw) (Nat.le_trans hw hb.size)
 have HE:=hide he
 have h4:=fun(w':World)=>num_c (R.read s).err w'
 generalize(R.read s).err=E at*
 have H3:=hide h3
 go_enter Tryz.func6,Tryz.ntmps6
 go_wp2_with fail
 refine h1.mono ?_
 rintro x w1 ⟨b,rfl,b1,lb,c2,_⟩
 have r2:=h2 w1 b1
 clear h1 h3
 go_wp2_with fail
 refine r2.mono ?_
 rintro x w2 ⟨rfl,b2'⟩
 have b2:=b1.trans (b2'.mono b1.size)
 have r3:=H3.out w2 b2
 clear r2
 go_wp2_with fail
 refine r3.mono ?_
 rintro x w3 ⟨h5,b3'⟩
 rcases h5 with⟨_,rfl⟩|⟨h5,_⟩
 · have b3:=b2.trans (b3'.mono b2.size)
   have cE:w3.cell? ⟨b,2,none⟩=some (.int .i64 E):=((b3'.cell (p:=⟨b,2,none⟩) (show b<w2.heap.size by have:=b2'.size;omega)).trans (b2'.cell (p:=⟨b,2,none⟩) lb)).trans c2
   have lb3:b<w3.heap.size:=by have:=b2'.size;have:=b3'.size;omega
   have hn1:∀w:World,(binOp .neq 52 (.slice none 0 0) (.slice none 0 0)).run Tryz.prog w=.ok (.bool false) w:=λw=>neq_nil w _ _ none 0 0 Tryz.underlying52
   have hne:(decide (E=0))=false:=by simp[he]
   have hne2:¬E=0:=he
   clear r3 b2' b3' c2
   go_upto_region 4 with fail
   go_quiet (first |(go_at_call 16;exact Calls.quiet_of_same (h4 _)))
   go_wp2_with fail
   go_ret
   exact⟨rfl,below_dN b3 _⟩
 · exact absurd h5 HE.out
end Y
theorem own_under{w w':World}{B n size:Nat}{t:TypeId}{v:Value}{xs:List Value}(h:w.ownsRow B t size v n xs)(hb:Below w.heap.size w w'):w'.ownsRow B t size v n xs:=Y.own_block h λq e=>hb.block q (h.lt q e).2
theorem Rep.under{w w':World}{q:Nat}{T:List R.Tok}{J:R.PS}{r:RV}(h:Rep w q T J r)(hb:Below w.heap.size w w'):Rep w' q T J r:=by
 refine⟨h.cells.of_block (hb.block _ h.cells.lt),own_under h.toks hb,own_under h.seen hb,?_,own_under h.shape hb,own_under h.does hb,h.lt,h.few⟩
 obtain⟨xs,hx,hl,hnd⟩:=h.nodes
 refine⟨xs,own_under hx hb,hl,λi c n h1 h2=>?_⟩
 obtain⟨lv,tv,e,hL,hT⟩:=hnd i c n h1 h2
 exact⟨lv,tv,e,own_under hL hb,own_under hT hb⟩
namespace Y
theorem rrun_c{s:ByteArray}(hs:s.size<=800)(he:(R.read s).err=0){w:World}{b:Nat}{r:RV}(h:Rep w b (R.toks s) (R.read s) r){gm cM:Nat}{ms:List Int}(hms:ms.length=(R.read s).shape.length)(hg:gm<w.heap.size)(hM:∀(j:Nat) u,ms[j]?=some u->w.cell? ⟨gm,j,none⟩=some (.int .i64 u)):
 Calls Tryz.prog 23 #[P b,.slice (some ⟨gm,0,none⟩) ms.length cM] w λx w'=>(∃aR cR,x=.returned (.slice aR ms.length cR)/\IntsFrom w' aR ((V.rds (K.progD (R.toks s)) (ms++[0,0])).take ms.length))/\Below w.heap.size w w':=by
 obtain⟨p1,p2,p3,p4,p5,p6,p7,p8⟩:=Q.shape_ok hs he
 obtain⟨ks,k1,k2,k3⟩:=Q.prog_node hs he
 have hf:=h.few
 obtain⟨a,c,i1,i2,i3⟩:=ints_at (l:=(R.read s).does) h.does
 rw[k1]at i1 i2 i3
 rw[List.length_map]at i1 i2
 have hP:=rep_pat h (by omega)
 have hd:w.cell? ⟨b,8,none⟩=some (.slice a ks.length c):=by rw[h.c1 8 _ rfl,i1]
 have hks:∀(j:Nat) u,ks[j]?=some u->∃q,a=some ⟨q,0,none⟩/\q<w.heap.size/\w.cell? ⟨q,0+j,none⟩=some (.int .i64 (u:Int)):=λj u hj=>by
  have:=i3 j (u:Int) (by rw[List.getElem?_map,hj];rfl)
  simpa using this
 rw[<-hms]at k2 p5
 by_cases h0:0<ms.length
 · refine(refrun_pos ms.length p5 h0 (R.read s).nodes (K.progD (R.toks s)) ms rfl w b a c ks gm 0 cM hP k2 hd hks (by omega) hg (λj u hj=>by rw[Nat.zero_add];exact hM j u hj)).mono λx w' hx=>⟨?_,hx.2⟩
   obtain⟨g,cR,rest,e1,e2,e3⟩:=hx.1
   refine⟨_,_,e1,λj u hj=>⟨g,0,rfl,?_⟩⟩
   rw[Nat.zero_add,e3.cell,List.getElem?_append_left (by rw[List.length_map];exact(List.getElem?_eq_some_iff.1 hj).1),List.getElem?_map,hj]
   rfl
 · have hnil:ms=[]:=List.eq_nil_of_length_eq_zero (by omega)
   subst hnil
   refine(refrun_zero (R.read s).nodes (K.progD (R.toks s)) w b a c ks _ cM (λe=>by cases e) hP k2 hd hks (by omega)).mono λx w' hx=>⟨?_,hx.2⟩
   obtain⟨aR,cR,e1⟩:=hx.1
   exact⟨aR,cR,e1,λj u hj=>by simp at hj⟩
theorem own_cellsN{w:World}{base n cap g size:Nat}{e:TypeId}{xs:List Value}(h:w.ownsRow base e size (.slice (some ⟨g,0,none⟩) n cap) n xs):∀(j:Nat) u,xs[j]?=some u->w.cell? ⟨g,j,none⟩=some u:=by
 obtain⟨hl,⟨h0,_⟩|⟨g',cap',cur,hv,hb,hg,hc,_,hs,hx⟩⟩:=h
 · simp at h0
 · cases hv
   intro j u hu
   have hj:j<n*size:=by rw[<-hl];exact(List.getElem?_eq_some_iff.1 hu).1
   rw[<-hx,List.getElem?_take_of_lt hj]at hu
   simp[World.cell?,hg]
   simpa using hu
theorem flat_one(C:List Ins):∀u∈C.flatMap inV,u.oneCell'=true:=λu hu=>by
 obtain⟨i,_,h2⟩:=List.mem_flatMap.1 hu
 obtain⟨n,_,rfl⟩:=List.mem_map.1 h2
 rfl
theorem neg_k{k:Nat}(h:k<=10):IntKind.i64.wrap (-((k:Int)+2))= -1-((k:Int)+1):=by rw[IntKind.wrap_i64];omega
theorem neg_i{k:Nat}(h:k<=10):IntKind.i64.wrap (-1-(k:Int))= -1-(k:Int):=by rw[IntKind.wrap_i64];omega
theorem addr0(k j:Nat):(⟨k,0,none⟩:Addr).add j=⟨k,j,none⟩:=by unfold Addr.add;split<;>simp_all
structure AllAt(w:World)(base:Nat)(av:Value)(hs:List Nat):Prop where
 row:w.ownsRow base 55 1 av hs.length (hs.map λh=>.slice (some ⟨h,0,none⟩) 3 3)
 trio:∀(i h:Nat),hs[i]?=some h->∃lo hi,Trio w lo hi h (-1-(i:Int))/\hi<=w.heap.size/\∀q,av.ownBlock=some q->¬(lo<=q/\q<hi)
theorem AllAt.below{w w':World}{base:Nat}{av:Value}{hs:List Nat}(h:AllAt w base av hs)(hb:Below w.heap.size w w'):AllAt w' base av hs:=by
 refine⟨own_under h.row hb,λi x hx=>?_⟩
 obtain⟨lo,hi,h1,h2,h3⟩:=h.trio i x hx
 exact⟨lo,hi,h1.keep λk _ hk=>hb.block k (by omega),Nat.le_trans h2 hb.size,h3⟩
theorem AllAt.next{V w10 w11:World}{base ga ca gN cN hX:Nat}{hs:List Nat}{o:Obj}(A:AllAt V base (.slice (some ⟨ga,0,none⟩) hs.length ca) hs)(kp:∀q,q<V.heap.size->w10.heap[q]?=V.heap[q]?)(zV:V.heap.size<=w10.heap.size)(T:Trio w10 V.heap.size w10.heap.size hX (-1-(hs.length:Int)))(hb:base<=V.heap.size)(hrow:w11.ownsRow 0 55 1 (.slice (some ⟨gN,0,none⟩) (hs.length+1) cN) (hs.length+1) ((hs.map λh=>Value.slice (some ⟨h,0,none⟩) 3 3)++[.slice (some ⟨hX,0,none⟩) 3 3]))(hgr:(w10.alloc o).grownBy w11 (Value.slice (some ⟨ga,0,none⟩) hs.length ca).ownBlock)(hkk:∀k,(Value.slice (some ⟨gN,0,none⟩) (hs.length+1) cN).ownBlock=some k->(Value.slice (some ⟨ga,0,none⟩) hs.length ca).ownBlock=some k∨(w10.alloc o).heap.size<=k):
 AllAt w11 base (.slice (some ⟨gN,0,none⟩) (hs.length+1) cN) (hs++[hX])/\(∀q,q<V.heap.size->q≠ga->w11.heap[q]?=V.heap[q]?)/\(w11.os=w10.os/\w11.tape=w10.tape/\w11.output=w10.output)/\w10.heap.size<=w11.heap.size/\base<=ga:=by
 have hga:=A.row.lt ga rfl
 have hsz:w10.heap.size+1<=w11.heap.size:=by have e2:(World.alloc _ _).heap.size<=_:=hgr.size;rw[size_alloc]at e2;exact e2
 have hN:gN=ga∨w10.heap.size+1<=gN:=by
  rcases hkk gN rfl with h |h
  · cases h;exact Or.inl rfl
  · have e2:(World.alloc _ _).heap.size<=gN:=h
    rw[size_alloc]at e2
    exact Or.inr e2
 have blk:∀q,q<w10.heap.size->q≠ga->w11.heap[q]?=w10.heap[q]?:=λq hq hne=>(hgr.block q (by rw[size_alloc];omega) (λe=>hne (by cases e;rfl))).trans (heap_alloc_old _ _ _ hq)
 refine⟨⟨?_,λi h hi=>?_⟩,λq hq hne=>(blk q (by omega) hne).trans (kp q hq),⟨hgr.os,hgr.tape,hgr.output⟩,by omega,hga.1⟩
 · have e1:(hs++[hX]).length=hs.length+1:=by simp
   rw[e1,List.map_append]
   refine own_up hrow λq e=>?_
   cases e
   show base<=gN
   omega
 · by_cases hlt:i<hs.length
   · rw[List.getElem?_append_left hlt]at hi
     obtain⟨lo,hi',t1,t2,t3⟩:=A.trio i h hi
     refine⟨lo,hi',t1.keep λq h1 h2=>?_,by omega,λq e=>?_⟩
     · have hne:q≠ga:=λe=>t3 ga rfl ⟨by omega,by omega⟩
       exact(blk q (by omega) hne).trans (kp q (by omega))
     · cases e
       show ¬(lo<=gN/\gN<hi')
       rcases hN with h |h
       · rw[h];exact t3 ga rfl
       · omega
   · rw[List.getElem?_append_right (by omega)]at hi
     have e2:i=hs.length:=by
      have:=(List.getElem?_eq_some_iff.1 hi).1
      simp at this
      omega
     subst e2
     simp at hi
     subst hi
     refine⟨V.heap.size,w10.heap.size,T.keep λq h1 h2=>blk q h2 (by omega),by omega,λq e=>?_⟩
     cases e
     show ¬(V.heap.size<=gN/\gN<w10.heap.size)
     omega
theorem lsame_q{l:List Int}{w:World}{a b:Option Addr}{ca cb:Nat}(h54:l.length<=1000000)(ha:IntsFrom w a l)(hb:IntsFrom w b l):
 Calls Tryz.prog 22 #[.slice a l.length ca,.slice b l.length cb] w λx w'=>x=.returned (.bool true)/\∃m,w'=w.drewN m:=by
 have HA:=hide ha
 have HB:=hide hb
 clear ha hb
 go_enter Tryz.func22,Tryz.ntmps22
 go_wp2_with fail
 go_loopg [5] l.length (λgk i wr=>∃k:Nat,k+gk=l.length/\i=.int .i64 (k:Int)/\∃m,wr=w.drewN m)
 case atStart=>exact⟨0,by omega,rfl,0,rfl⟩
 case round=>
  obtain⟨k,hk,rfl,m,hs⟩:=hrel
  subst hs
  cases gk with
  |zero=>
   have hz:¬((k:Int)<(l.length:Int)):=by omega
   go_wp2_with fail
   go_ret
   exact⟨rfl,m,rfl⟩
  |succ g1=>
   have hz:(k:Int)<(l.length:Int):=by omega
   obtain⟨u,hu⟩:∃u,l[k]?=some u:=⟨_,List.getElem?_eq_getElem (by omega)⟩
   obtain⟨ga,oa,rfl,c1⟩:=HA.out k u hu
   obtain⟨gb,ob,rfl,c2⟩:=HB.out k u hu
   have c1':(w.drewN m).cell? ⟨ga,oa+k,none⟩=some (.int .i64 u):=c1
   have c2':(w.drewN m).cell? ⟨gb,ob+k,none⟩=some (.int .i64 u):=c2
   generalize hWm:w.drewN m=Wm at*
   go_wp2_with (go_quiet (fail))
   go_roundg g1
   case measure=>omega
   case rel=>exact⟨k+1,by omega,by go_num,_,by rw[<-hWm,World.drewN_drewN]⟩
theorem info_lists:(Tryz.prog.info? 55).map (λi=>(i.zero,i.size,i.bytes))=some (some (.slice none 0 0),1,24):=by kernel_rfl
theorem codes_ok(s:ByteArray)(w:World)(hm:s.size<=maxLen)(hv:K.Vars w)(hw:5<=w.heap.size)(he:(R.read s).err=0)(h800:s.size<=800)(a1:Option Addr)(c1:Nat)(mem:List Int)(h1:IntsAt w a1 mem):
 Calls Tryz.prog 6 #[.string s,.slice a1 mem.length c1] w λx w'=>x=.returned (.bool true)/\Below w.heap.size w w':=by
 have hrd:=read_c s w h800
 have e0:R.readT (R.toks s)=R.read s:=by unfold R.read;rw[if_neg (by omega)]
 rw[e0]at hrd
 have hrt:=fun(w':World) (hb:Below w.heap.size w w')=>Go.Proofs.YtejbgcloblpbfaaGreatDoor.right_c w' (vars_below hv hb hw) (Nat.le_trans hw hb.size)
 have hco:=fun(w':World) (hb:Below w.heap.size w w')=>compile_c s w' hm (vars_below hv hb hw) (Nat.le_trans hw hb.size)
 obtain⟨_,_,_,_,p5,p6,_,_⟩:=Q.shape_ok h800 he
 have hP:=prog_al h800 he
 have hlen:=prC_len hP
 have hnum:=fun(w':World)=>num_c 0 w'
 have hrr:=fun(w:World) (b:Nat) (r:RV) (h:Rep w b (R.toks s) (R.read s) r) (gm cM:Nat) (ms:List Int) (hms:ms.length=(R.read s).shape.length) (hg:gm<w.heap.size) (hM:∀(j:Nat) u,ms[j]?=some u->w.cell? ⟨gm,j,none⟩=some (.int .i64 u))=>rrun_c (cM:=cM) h800 he h hms hg hM
 rw[he]at hco
 obtain⟨N,HN⟩:∃N,Hid ((R.read s).shape.length=N):=⟨_,hide rfl⟩
 rw[HN.out]at p5 p6 hlen
 have hmk:=run_make_row' (P:=Tryz.prog) 32 3 (.int .i64 0) 8 Tryz.underlying32 info_int rfl .i64 .i64 N (by omega) (by omega)
 have HCO:=hide hco
 have HRT:=hide hrt
 have HRR:=hide hrr
 have H1:=hide h1
 have HP:=hide hP
 clear hco hrt hrr h1 e0 hP
 go_enter Tryz.func6,Tryz.ntmps6
 go_wp2_with fail
 refine hrd.mono ?_
 rintro x w1 ⟨b,r,rfl,hR⟩
 have b1:=hR.own.below
 have hrep:=hR.rep
 have x2:=hrep.c1 2 _ rfl
 have x6:=hrep.c1 6 _ rfl
 rw[he]at x2
 rw[p6]at x6
 have lb:=hrep.cells.lt
 have HREP:=hide hrep
 have r2:=HRT.out w1 b1
 clear hrd hR hrep
 go_wp2_with fail
 refine r2.mono ?_
 rintro x w2 ⟨rfl,b2'⟩
 have b2:=b1.trans (b2'.mono b1.size)
 have r3:=HCO.out w2 b2
 rw[HN.out]at r3
 generalize hCC:prC N (K.progD (R.toks s))=C at*
 clear r2
 go_wp2_with fail
 refine r3.mono ?_
 rintro x w3 ⟨h5,b3'⟩
 rcases h5 with⟨h5,_⟩|⟨_,_,cv,rfl,o3⟩
 · exact absurd trivial h5
 obtain⟨g1,cc1,rfl⟩:∃g1 cc1,cv=.slice (some ⟨g1,0,none⟩) C.length cc1:=by
  rcases Joins.ownsRow_forms o3 with⟨_,h9⟩|⟨g,c,h9⟩
  · omega
  · exact⟨g,c,h9⟩
 have z1:=b1.size
 have z2:=b2'.size
 have z3:=b3'.size
 have b13:=b2'.trans (b3'.mono z2)
 have y2:w3.cell? ⟨b,2,none⟩=some (.int .i64 0):=(b13.cell (p:=⟨b,2,none⟩) lb).trans x2
 have y6:w3.cell? ⟨b,6,none⟩=some (.int .i64 (N:Int)):=(b13.cell (p:=⟨b,6,none⟩) lb).trans x6
 have HB3:=hide (b2.trans (b3'.mono b2.size))
 have HB13:=hide b13
 have HB23:=hide b3'
 have HB12:=hide b2'
 have HBa:=hide b2
 have HO3:=hide o3
 have lb3:b<w3.heap.size:=by omega
 clear r3 o3 b13 b2 b2' b3' b1 x2 x6
 go_upto_region 4 with fail
 go_quiet (first |(go_at_call 16;exact Calls.quiet_of_same (hnum _)))
 generalize hW3:w3.drewN _=W3 at*
 have q6:W3.cell? ⟨b,6,none⟩=some (.int .i64 (N:Int)):=by rw[<-hW3];exact y6
 have lbW:b<W3.heap.size:=by rw[<-hW3];exact lb3
 obtain⟨W4,hW4⟩:∃W4,W3.alloc (.cells (madeCells #[.int .i64 0] N) 3 (0,0))=W4:=⟨_,rfl⟩
 have a4:At W4 W3.heap.size 3 (List.replicate N (.int .i64 0)):=by rw[<-hW4];exact made_at W3 N 3
 have B4:Below w3.heap.size w3 W4:=by rw[<-hW4,<-hW3];exact(below_dN (Below.refl _ _) _).alloc (Nat.le_refl _) _
 have HI4:=hide ((H1.out.below HB3.out).below B4)
 have lw4:w3.heap.size<=W3.heap.size:=by rw[<-hW3];exact Nat.le_refl _
 have HLM:Hid (∀q o,a1=some ⟨q,o,none⟩->0<mem.length->q<w.heap.size):=λq o e h0=>by
  obtain⟨g,o',e',hg,_⟩:=H1.out 0 _ (List.getElem?_eq_getElem h0)
  rw[e]at e';cases e';exact hg
 have z0:=HB3.out.size
 have Ha4:=hide a4
 have HB4:=hide B4
 clear a4 B4 H1 y2 y6
 go_upto_block 0 with fail
 generalize hGW:W3.heap.size=GW at*
 clear hW3 hW4 q6 hmk
 go_cut [10] (λ_ wr=>Hid (∀j:Nat,j<N->wr.cell? ⟨GW,j,none⟩=some (.int .i64 (mem.getD j 0)))/\Hid (But GW W4 wr))
 case first=>
  go_wp2_with fail
  go_loopg [10] (min N mem.length) (λgk i wr=>∃k:Nat,k+gk=min N mem.length/\i=.int .i64 (k:Int)/\At wr GW 3 ((List.range N).map λj=>.int .i64 (M0 mem k j))/\But GW W4 wr)
  case atStart=>
   refine⟨0,by omega,rfl,?_,But.refl _ _⟩
   have e:((List.range N).map λj=>Value.int .i64 (M0 mem 0 j))=List.replicate N (.int .i64 0):=by
    apply List.ext_getElem (by simp)
    intro j h1 h2
    simp[M0]
   rw[e]
   exact Ha4.out
  case round=>
   obtain⟨k,hk,rfl,ha,hB⟩:=hrel
   have lg:=ha.lt
   cases gk with
   |succ g2=>
    have k1:(k:Int)<(N:Int):=by omega
    have k2:(k:Int)<(mem.length:Int):=by omega
    obtain⟨u,hu⟩:∃u,mem[k]?=some u:=⟨_,List.getElem?_eq_getElem (by omega)⟩
    obtain⟨g,o,rfl,hg,hc⟩:=HI4.out k u hu
    have hg2:=HLM.out g o rfl (by omega)
    have vm:=(World.cell?_of_block (a:=⟨g,o+k,none⟩) (hB.block g hg (by omega))).trans hc
    have c0:=ha.cell k
    have f0:=ha.frozen k
    rw[List.getElem?_map,List.getElem?_range (by omega)]at c0
    have c0':wr.cell? ⟨GW,k,none⟩=some (.int .i64 (M0 mem k k)):=c0
    have hs:=ha.set k (.int .i64 u)
    have eu:mem.getD k 0=u:=by rw[List.getD_eq_getElem?_getD,hu];rfl
    rw[map_upd,<-eu,M0_succ,eu]at hs
    have HS:=hide hs
    have HBn:=hide (hB.set k (.int .i64 u))
    generalize M0 mem k k=mk at*
    clear ha hB hs c0 hc hu
    go_wp2_with fail
    go_roundg g2
    case measure=>omega
    case rel=>exact⟨k+1,by omega,by go_num,HS.out,HBn.out⟩
   |zero=>
    have HA:=hide ha
    have HBe:=hide hB
    have fin:Hid (∀j:Nat,j<N->wr.cell? ⟨GW,j,none⟩=some (.int .i64 (mem.getD j 0))):=λj hj=>by
     rw[ha.cell,List.getElem?_map,List.getElem?_range hj]
     show some (Value.int .i64 (M0 mem k j))=_
     unfold M0
     by_cases c:j<k
     · rw[if_pos c]
     · rw[if_neg c,List.getD_eq_getElem?_getD,List.getElem?_eq_none (by omega)];rfl
    clear ha hB
    by_cases c:(k:Int)<(N:Int)
    · have c2:¬(k:Int)<(mem.length:Int):=by omega
      go_wp2_with fail
      go_meet
      case rel=>exact⟨fin,HBe.out⟩
    · go_wp2_with fail
      go_meet
      case rel=>exact⟨fin,HBe.out⟩
 case rest=>
  obtain⟨HW,HBw⟩:=hcut
  obtain⟨W5,rfl⟩:∃W5:World,W5=wc:=⟨_,rfl⟩
  obtain⟨n0,ni,nz0,nz1,nz2⟩:=info_parts info_ins
  obtain⟨l0,li,lz0,lz1,lz2⟩:=info_parts info_lists
  have hg1:w2.heap.size<=g1/\g1<w3.heap.size:=HO3.out.lt g1 rfl
  have zW5:=HBw.out.size
  have z4:w3.heap.size<=W4.heap.size:=HB4.out.size
  have o5:W5.ownsRow w2.heap.size 58 5 (.slice (some ⟨g1,0,none⟩) C.length cc1) C.length (C.flatMap inV):=own_block (own_block HO3.out λq e=>HB4.out.block q (HO3.out.lt q e).2) λq e=>by
   have h9:=(HO3.out.lt q e).2
   exact HBw.out.block q (by omega) (by omega)
  have HO5:=hide o5
  have hcl:=own_cellsN o5
  have HCL:Hid (∀(j:Nat) u,(C.flatMap inV)[j]?=some u->W5.cell? ((⟨g1,0,none⟩:Addr).add j)=some u):=λj u hj=>by rw[addr0];exact hcl j u hj
  have hfl:=o5.1
  have lGW:GW<W4.heap.size:=Ha4.out.lt
  have HB5:Hid (Below w3.heap.size w3 W5):=HB4.out.trans (but_lower HBw.out (by omega) z4)
  clear o5 hcl HBw HB4 Ha4
  go_upto_region 15 with(at_builtin;refine wpList_append_row1 _ rfl _ _ 52 rfl 58 n0 (.agg #[.int .i64 0,.int .i64 0,.int .i64 0,.int .i64 0,.int .i64 0]) 5 40 Tryz.underlying52 ni nz0 nz1 nz2 rfl (by decide) (.slice none 0 0) 0 [] rfl (by exact World.ownsRow_nil _ _ _ _) ⟨g1,0,none⟩ C.length cc1 (C.flatMap inV) rfl hfl HCL.out (flat_one C) (few_le (by omega)) (by omega) hlen.2 ?_;intro gc cap6 w6 hrow6 hgr6 hkk6;rw[Nat.zero_add]at hrow6 hkk6;rw[Nat.zero_add];have HR6:=hide hrow6;have HG6:=hide hgr6;have HK6:=hide hkk6;clear hrow6 hgr6 hkk6)
  have lgc:W5.heap.size<=gc:=by
   rcases HK6.out gc rfl with h |h
   · cases h
   · exact h
  have B6:Below W5.heap.size W5 w6:=⟨HG6.out.os,HG6.out.tape,HG6.out.output,HG6.out.size,λk hk=>HG6.out.block k hk (by simp[Value.ownBlock])⟩
  have z6:=B6.size
  have o6:w6.ownsRow w2.heap.size 58 5 (.slice (some ⟨g1,0,none⟩) C.length cc1) C.length (C.flatMap inV):=own_under HO5.out B6
  have hfi:Calls Tryz.prog 28 #[.slice (some ⟨g1,0,none⟩) C.length cc1,.agg #[.int .i64 15,.int .i64 (-1),.int .i64 0,.int .i64 0,.int .i64 0]] w6 _:=filled_c o6 hlen.1
  have HB6:=hide (HB5.out.trans (B6.mono (by omega)))
  have HW6:Hid (∀j:Nat,j<N->w6.cell? ⟨GW,j,none⟩=some (.int .i64 (mem.getD j 0))):=λj hj=>(World.cell?_of_block (a:=⟨GW,j,none⟩) (B6.block GW (by omega))).trans (HW.out j hj)
  clear o6 B6 HG6 HK6 HO5 HCL HB5 HW
  go_wp2_with fail
  refine hfi.mono ?_
  rintro x w7 ⟨h0,rfl,T7,b7⟩
  have z7:=b7.size
  have HRc:Hid (w7.ownsRow 0 58 5 (.slice (some ⟨gc,0,none⟩) C.length cap6) C.length (C.flatMap inV)):=own_block HR6.out λq e=>by
   have h9:=(HR6.out.lt q e).2
   cases e
   exact b7.block _ h9 (by show gc≠g1;omega)
  have HW7:Hid (∀j:Nat,j<N->w7.cell? ⟨GW,j,none⟩=some (.int .i64 (mem.getD j 0))):=λj hj=>(World.cell?_of_block (a:=⟨GW,j,none⟩) (b7.block GW (by omega) (by omega))).trans (HW6.out j hj)
  have HB7:Hid (Below w2.heap.size w2 w7):=HB23.out.trans ((HB6.out.mono HB23.out.size).trans (but_lower b7 hg1.1 (by omega)))
  obtain⟨W8,hW8⟩:∃W8,w7.alloc (.cells #[.slice (some ⟨h0,0,none⟩) 3 3] 55 (0,0))=W8:=⟨_,rfl⟩
  have B8:Below w7.heap.size w7 W8:=by rw[<-hW8];exact(Below.refl _ _).alloc (Nat.le_refl _) _
  have a8:At W8 w7.heap.size 55 [.slice (some ⟨h0,0,none⟩) 3 3]:=by rw[<-hW8];exact At.alloc_new w7 _ _
  have A8:AllAt W8 w7.heap.size (.slice (some ⟨w7.heap.size,0,none⟩) 1 1) [h0]:=by
   refine⟨⟨rfl,Or.inr ⟨w7.heap.size,1,#[.slice (some ⟨h0,0,none⟩) 3 3],rfl,Nat.le_refl _,a8,Nat.le_refl _,by decide,rfl,rfl⟩⟩,λi h hi=>?_⟩
   match i,hi with
   |0,hi=>
    cases hi
    exact⟨w2.heap.size,w7.heap.size,T7.keep λk _ hk=>B8.block k hk,B8.size,λq e=>by cases e;show ¬(w2.heap.size<=w7.heap.size/\w7.heap.size<w7.heap.size);omega⟩
   |i+1,hi=>simp at hi
  have HA8:=hide A8
  have HB8:=hide B8
  clear a8 A8 B8 T7 b7 hfi HR6 HW6 HB6
  go_wp2_with fail
  go_loopg [12,13] 3 (λgk av kv wr=>∃(k:Nat) (hs:List Nat),k+gk=3/\kv=.int .i64 ((k:Int)+2)/\hs.length=k+1/\Hid (AllAt wr w7.heap.size av hs)/\Hid (Below w7.heap.size w7 wr))
  case atStart=>exact⟨0,[h0],by omega,rfl,rfl,HA8.out,HB8.out⟩
  case round=>
   obtain⟨k,hs,hk,rfl,hhs,HA,HBv⟩:=hrel
   obtain⟨Uw,rfl⟩:∃Uw:World,Uw=wr:=⟨_,rfl⟩
   have zV:=HBv.out.size
   have HHS:=hide hhs
   have hhs3:hs.length<=10:=by omega
   clear hhs
   cases gk with
   |succ g2=>
    have hz:(k:Int)+2<5:=by omega
    have BT:=hide (HBa.out.trans ((HB7.out.trans (HBv.out.mono HB7.out.size)).mono HBa.out.size))
    have r9:=HCO.out Uw BT.out
    rw[HN.out,hCC]at r9
    go_wp2_with fail
    refine r9.mono ?_
    rintro x w9 ⟨h5,b9⟩
    rcases h5 with⟨h5,_⟩|⟨_,_,cv,rfl,o9⟩
    · exact absurd trivial h5
    obtain⟨g9,cc9,rfl⟩:∃g9 cc9,cv=.slice (some ⟨g9,0,none⟩) C.length cc9:=by
     rcases Joins.ownsRow_forms o9 with⟨_,h9⟩|⟨g,c,h9⟩
     · omega
     · exact⟨g,c,h9⟩
    have z9:=b9.size
    have hg9:Uw.heap.size<=g9/\g9<w9.heap.size:=o9.lt g9 rfl
    have HRc9:=hide (own_under (own_under HRc.out HBv.out) b9)
    have lgc9:gc<w9.heap.size:=(HRc9.out.lt gc rfl).2
    have HO9:=hide o9
    have Hb9:=hide b9
    clear o9 b9 r9
    go_wp2_with fail
    go_loopg [16] C.length (λgj iv wy=>∃j:Nat,j+gj=C.length/\iv=.int .i64 (j:Int)/\∃m,wy=w9.drewN m)
    case atStart=>exact⟨0,by omega,rfl,0,rfl⟩
    case round=>
     obtain⟨j,hj,rfl,m,hsm⟩:=hrel
     subst hsm
     cases gk with
     |succ g3=>
      have hy:(j:Int)<(C.length:Int):=by omega
      obtain⟨i,hi⟩:∃i,C[j]?=some i:=⟨_,List.getElem?_eq_getElem (by omega)⟩
      obtain⟨i0,i1,i2,i3,i4,hin⟩:=inN_form i
      obtain⟨q0,q1,q2,q3,q4⟩:=code_cell HRc9.out hi hin
      obtain⟨r0,r1,r2,r3,r4⟩:=code_cell HO9.out hi hin
      have e5:j*5=5*j:=by omega
      clear hi hin
      generalize hWm:w9.drewN m=Wm at*
      have s0:Wm.cell? ⟨gc,5*j,none⟩=some (.int .i64 i0):=by rw[<-hWm];exact q0
      have s1:Wm.cell? ⟨gc,5*j+1,none⟩=some (.int .i64 i1):=by rw[<-hWm];exact q1
      have s2:Wm.cell? ⟨gc,5*j+2,none⟩=some (.int .i64 i2):=by rw[<-hWm];exact q2
      have s3:Wm.cell? ⟨gc,5*j+3,none⟩=some (.int .i64 i3):=by rw[<-hWm];exact q3
      have s4:Wm.cell? ⟨gc,5*j+4,none⟩=some (.int .i64 i4):=by rw[<-hWm];exact q4
      have t0:Wm.cell? ⟨g9,5*j,none⟩=some (.int .i64 i0):=by rw[<-hWm];exact r0
      have t1:Wm.cell? ⟨g9,5*j+1,none⟩=some (.int .i64 i1):=by rw[<-hWm];exact r1
      have t2:Wm.cell? ⟨g9,5*j+2,none⟩=some (.int .i64 i2):=by rw[<-hWm];exact r2
      have t3:Wm.cell? ⟨g9,5*j+3,none⟩=some (.int .i64 i3):=by rw[<-hWm];exact r3
      have t4:Wm.cell? ⟨g9,5*j+4,none⟩=some (.int .i64 i4):=by rw[<-hWm];exact r4
      go_upto_region 25 with fail
      go_quiet (fail)
      go_wp2_with fail
      go_roundg g3
      case measure=>omega
      case rel=>exact⟨j+1,by omega,by go_num,_,by rw[<-hWm,World.drewN_drewN]⟩
     |zero=>
      have hy:¬(j:Int)<(C.length:Int):=by omega
      have ng0:=neg_k (k:=k) (by omega)
      obtain⟨vv,Hvv⟩:∃vv,Hid (-1-((k:Int)+1)=vv):=⟨_,hide rfl⟩
      rw[Hvv.out]at ng0
      obtain⟨ga,ca,rfl⟩:∃ga ca,u12=.slice (some ⟨ga,0,none⟩) hs.length ca:=by
       rcases Joins.ownsRow_forms HA.out.row with⟨_,h9⟩|⟨g,c,h9⟩
       · exact absurd h9 (by rw[HHS.out];exact Nat.succ_ne_zero k)
       · exact⟨g,c,h9⟩
      have o10:(w9.drewN m).ownsRow Uw.heap.size 58 5 (.slice (some ⟨g9,0,none⟩) C.length cc9) C.length (C.flatMap inV):=own_block HO9.out λ_ _=>rfl
      have hfi:Calls Tryz.prog 28 #[.slice (some ⟨g9,0,none⟩) C.length cc9,.agg #[.int .i64 15,.int .i64 vv,.int .i64 0,.int .i64 0,.int .i64 0]] (w9.drewN m) _:=filled_c o10 hlen.1
      have hga:=HA.out.row.lt ga rfl
      clear o10 hj
      go_wp2_with fail
      refine hfi.mono ?_
      rintro x w10 ⟨hX,rfl,T10,b10⟩
      have zX:=b10.size
      have zX':w9.heap.size<=w10.heap.size:=zX
      have kp:Hid (∀q,q<Uw.heap.size->w10.heap[q]?=Uw.heap[q]?):=λq hq=>(b10.block q (show q<w9.heap.size by omega) (by omega)).trans (Hb9.out.block q hq)
      have ra:Hid (w10.ownsRow w7.heap.size 55 1 (.slice (some ⟨ga,0,none⟩) hs.length ca) hs.length (hs.map λh=>.slice (some ⟨h,0,none⟩) 3 3)):=own_block HA.out.row λq e=>kp.out q (HA.out.row.lt q e).2
      have HT10:=hide T10
      have Hb10:=hide b10
      clear T10 b10 hfi
      go_upto_block 4 with(at_builtin;refine wpList_append_row1 _ rfl _ _ 59 rfl 55 l0 (.slice none 0 0) 1 24 Tryz.underlying59 li lz0 lz1 lz2 rfl (by decide) _ hs.length (hs.map λh=>.slice (some ⟨h,0,none⟩) 3 3) rfl (by exact World.ownsRow.alloc (Joins.ownsRow_le ra.out (Nat.zero_le _)) _) ⟨w10.heap.size,0,none⟩ 1 1 [.slice (some ⟨hX,0,none⟩) 3 3] rfl rfl (by exact row_new w10 [.slice (some ⟨hX,0,none⟩) 3 3] _) (by intro u hu;simp only[List.mem_singleton]at hu;subst hu;rfl) (few_le (by omega)) (by omega) Nat.one_pos ?_;intro gN cN w11 hrow hgr hkk;have HR11:=hide hrow;have HG11:=hide hgr;have HK11:=hide hkk;clear hrow hgr hkk)
      have T10':Trio w10 Uw.heap.size w10.heap.size hX (-1-(hs.length:Int)):=by
       have e9: -1-(hs.length:Int)=vv:=by rw[HHS.out,<-Hvv.out];omega
       rw[e9]
       exact HT10.out
      have hkey:=AllAt.next HA.out kp.out (by omega:Uw.heap.size<=w10.heap.size) T10' zV HR11.out HG11.out HK11.out
      clear T10'
      obtain⟨A11,k11,g11,q11⟩:=hkey
      have B11:Below w7.heap.size w7 w11:=by
       have hB:=HBv.out
       refine⟨g11.1.trans (Hb10.out.os.trans (Hb9.out.os.trans hB.os)),g11.2.1.trans (Hb10.out.tape.trans (Hb9.out.tape.trans hB.tape)),g11.2.2.trans (Hb10.out.output.trans (Hb9.out.output.trans hB.output)),by omega,λq hq=>(k11 q (by omega) (by omega)).trans (hB.block q hq)⟩
      have HA11:=hide A11
      have HB11:=hide B11
      have lN:(hs++[hX]).length=hs.length+1:=by simp
      have HlN:=hide lN
      clear A11 B11 lN k11 g11 q11 HR11 HG11 HK11 HT10 Hb10 Hb9 ra kp HRc9 HO9 HA ng0
      go_loopg [17] (hs.length+1) (λgi iv wy=>∃i:Nat,i+gi=hs.length+1/\iv=.int .i64 (i:Int)/\Hid (AllAt wy w7.heap.size (.slice (some ⟨gN,0,none⟩) (hs.length+1) cN) (hs++[hX]))/\Hid (Below w7.heap.size w7 wy))
      case atStart=>exact⟨0,by omega,rfl,HA11.out,HB11.out⟩
      case round=>
       obtain⟨i,hi,rfl,HAi,HBi⟩:=hrel
       cases gk with
       |succ g4=>
        have iz:(i:Int)<((hs.length+1:Nat):Int):=by omega
        have iz2:(i:Int)<(hs.length:Int)+1:=by omega
        obtain⟨h,hh⟩:∃h,(hs++[hX])[i]?=some h:=⟨_,List.getElem?_eq_getElem (by rw[HlN.out];omega)⟩
        obtain⟨lo,hi',T,hle,_⟩:=HAi.out.trio i h hh
        have rowc:=own_cellsN (by have:=HAi.out.row;rw[HlN.out]at this;exact this) i _ (by rw[List.getElem?_map,hh];rfl)
        have hrdc:=reads_c T hle
        clear hh T
        go_wp2_with fail
        refine hrdc.mono ?_
        rintro x w12 ⟨rfl,b12⟩
        have HA12:=hide (HAi.out.below b12)
        have HB12:=hide (HBi.out.trans (b12.mono HBi.out.size))
        clear b12 hrdc
        go_wp2_with fail
        go_roundg g4
        case measure=>omega
        case rel=>exact⟨i+1,by omega,by go_num,HA12.out,HB12.out⟩
       |zero=>
        have iz:¬(i:Int)<((hs.length+1:Nat):Int):=by omega
        have iz2:¬(i:Int)<(hs.length:Int)+1:=by omega
        go_wp2_with fail
        go_roundg g2
        case measure=>omega
        case rel=>exact⟨k+1,hs++[hX],by omega,by go_num,by rw[HlN.out,HHS.out],HAi.out,HBi.out⟩
   |zero=>
    have hz:¬(k:Int)+2<5:=by omega
    have em:Tryz.zeroCells65=(mcells (λ_=>0) (λ_=>0) (.slice none 0 0)).toArray:=by kernel_rfl
    have ha:=At.alloc_new Uw (mcells (λ_=>0) (λ_=>0) (.slice none 0 0)) 65
    obtain⟨W20,hW20⟩:∃W20,Uw.alloc (.cells (mcells (λ_=>0) (λ_=>0) (.slice none 0 0)).toArray 65 (0,0))=W20:=⟨_,rfl⟩
    have B20:Below Uw.heap.size Uw W20:=by rw[<-hW20];exact(Below.refl _ _).alloc (Nat.le_refl _) _
    rw[hW20]at ha
    have z20:=B20.size
    have Bv20:=HBv.out.trans (B20.mono zV)
    have rc20:W20.ownsRow 0 58 5 (.slice (some ⟨gc,0,none⟩) C.length cap6) C.length (C.flatMap inV):=own_under (own_under HRc.out HBv.out) B20
    have hms:=wdA_len mem N
    have mem20:∀(j:Nat) u,(wdA mem N)[j]?=some u->W20.cell? ⟨GW,j,none⟩=some (.int .i64 u):=λj u hj=>by
     have hjN:j<N:=by have:=(List.getElem?_eq_some_iff.1 hj).1;omega
     rw[Bv20.cell (p:=⟨GW,j,none⟩) (show GW<w7.heap.size by omega),HW7.out j hjN]
     unfold wdA at hj
     rw[List.getElem?_map,List.getElem?_range hjN]at hj
     cases hj
     rfl
    obtain⟨nF,sF,f1,f2,f3,f4,_⟩:=pr_sim2 HP.out (wdA mem N) (by rw[hms,HN.out])
    rw[HN.out,hCC]at f1 f3
    have hlm:=hlen.1
    have okC:okl C:=by rw[<-hCC,<-HN.out];exact prC_ok (scl_wf _ (by omega:0<=2) HP.out.sc)
    have hpl:=rplay_c (cM:=N) ha rc20 (ms:=wdA mem N) (aM:=some ⟨GW,0,none⟩) (λj u hj=>⟨GW,0,rfl,by omega,by omega,by rw[Nat.zero_add];exact mem20 j u hj⟩) (by omega) hlm okC f2 f1 f3
    rw[hms]at hpl
    have HM20:=hide mem20
    have HF4:Hid (∀j:Nat,j<N->sF.M j=(V.rds (K.progD (R.toks s)) (wdA mem N++[0,0])).getD j 0):=λj hj=>f4 j (by rw[HN.out];exact hj)
    have HBt:=hide Bv20
    clear rc20 mem20 f1 f3 f4 okC B20 Bv20 HA ha
    go_wp2_with fail
    refine hpl.mono ?_
    rintro x w21 ⟨rfl,hq21,b21⟩
    have z21:=b21.size
    have zw12:=HB12.out.size
    have zw27:=HB7.out.size
    have B1t:Below w1.heap.size w1 W20:=HB12.out.trans ((HB7.out.trans (HBt.out.mono HB7.out.size)).mono HB12.out.size)
    have B1f:Below w1.heap.size w1 w21:=B1t.trans (but_lower b21 (by omega) (by omega))
    have rep21:=HREP.out.under B1f
    have mem21:∀(j:Nat) u,(wdA mem N)[j]?=some u->w21.cell? ⟨GW,j,none⟩=some (.int .i64 u):=λj u hj=>(World.cell?_of_block (a:=⟨GW,j,none⟩) (b21.block GW (by omega) (by omega))).trans (HM20.out j u hj)
    have hrr:=HRR.out w21 b r rep21 GW N (wdA mem N) (by rw[hms,HN.out]) (by omega) mem21
    rw[hms]at hrr
    have HQ21:=hide hq21
    have HRep:=hide rep21
    have HB21:Hid (Below w.heap.size w w21):=HBa.out.trans ((HB7.out.trans ((HBt.out.trans (but_lower b21 (by omega) (by omega))).mono HB7.out.size)).mono HBa.out.size)
    clear rep21 mem21 B1t B1f b21 hq21 hpl HM20
    go_wp2_with fail
    refine hrr.mono ?_
    rintro x w22 ⟨⟨aR,cR,rfl,iR⟩,b22⟩
    have y6:=(HRep.out.under b22).c1 6 _ rfl
    rw[p6]at y6
    have lb22:=(HRep.out.under b22).cells.lt
    have lm21:=HQ21.out.lt
    have z22:=b22.size
    have hrl:((V.rds (K.progD (R.toks s)) (wdA mem N++[0,0])).take N).length=N:=by rw[List.length_take,V.rds_len,List.length_append,hms];simp
    have iM:IntsFrom w22 (some ⟨Uw.heap.size,8,none⟩) ((V.rds (K.progD (R.toks s)) (wdA mem N++[0,0])).take N):=λj u hj=>by
     have hjN:j<N:=by have:=(List.getElem?_eq_some_iff.1 hj).1;omega
     refine⟨_,8,rfl,(b22.cell (p:=⟨Uw.heap.size,8+j,none⟩) lm21).trans ?_⟩
     rw[(HQ21.out.mem (a:=j) (by omega)).1,HF4.out j hjN]
     rw[List.getElem?_take_of_lt hjN]at hj
     rw[List.getD_eq_getElem?_getD,hj]
     rfl
    generalize(V.rds (K.progD (R.toks s)) (wdA mem N++[0,0])).take N=res at*
    have hsm:=fun(q:Nat)=>lsame_q (w:=w22.drewN q) (l:=res) (ca:=256) (cb:=cR) (by omega) iM iR
    rw[hrl]at hsm
    have HB22:=hide (HB21.out.trans (b22.mono HB21.out.size))
    have l1:(N:Int)<=256:=by omega
    have l2:N<=256:=by omega
    have l3:IntKind.i64.wrap (N:Int)=(N:Int):=k64 _ (by omega)
    have lmm:Uw.heap.size<w22.heap.size:=by omega
    clear iM iR b22 hrr HQ21 HRep HB21 hrl HF4
    go_upto_region 37 with fail
    go_quiet (first |(go_at_call 22;refine Calls.quiet_of (hsm _)))
    go_wp2_with fail
    go_ret
    exact⟨rfl,below_dN HB22.out _⟩
theorem codes_c(s:ByteArray)(w:World)(hm:s.size<=maxLen)(hv:K.Vars w)(hw:5<=w.heap.size)(a1:Option Addr)(c1:Nat)(mem:List Int)(h1:IntsAt w a1 mem):
 Calls Tryz.prog 6 #[.string s,.slice a1 mem.length c1] w λx w'=>x=.returned (.bool true)/\Below w.heap.size w w':=by
 by_cases he:(R.read s).err=0
 · by_cases h800:s.size<=800
   · exact codes_ok s w hm hv hw he h800 a1 c1 mem h1
   · have:=read_long_err (s:=s) (by omega)
     rw[he]at this
     cases this
 · exact codes_err s w hm hv hw he a1 _ c1
end Y
end Go.Proofs.YtejbgcloblpbfaaGreatDoor
