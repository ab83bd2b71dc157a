import Derived.Test.YtejbgcloblpbfaaGreatDoorG28
import Derived.StillTailTactics
set_option maxHeartbeats 4000000
set_option maxRecDepth 100000
namespace Go.Proofs.YtejbgcloblpbfaaGreatDoor
open Go.RowKit
open K (Nm Ex Do)
namespace Y
structure QAt(w:World)(b lo:Nat)(R M:Nat->Int)(S:List Int):Prop where
 rows:∃sv,At w b 65 (mcells R M sv)/\w.ownsRow lo 3 1 sv S.length (ints S)
 lo:b<lo
theorem QAt.lt{w:World}{b lo:Nat}{R M:Nat->Int}{S:List Int}(h:QAt w b lo R M S):b<w.heap.size:=by
 obtain⟨_,a,_⟩:=h.rows
 exact a.lt
theorem QAt.reg{w:World}{b lo:Nat}{R M:Nat->Int}{S:List Int}(h:QAt w b lo R M S){a:Nat}(ha:a<8):w.cell? ⟨b,a,none⟩=some (.int .i64 (R a))/\w.frozen? ⟨b,a,none⟩=false:=by
 obtain⟨_,k,_⟩:=h.rows
 exact⟨(k.cell a).trans (mc_reg ha),k.frozen a⟩
theorem QAt.mem{w:World}{b lo:Nat}{R M:Nat->Int}{S:List Int}(h:QAt w b lo R M S){a:Nat}(ha:a<256):w.cell? ⟨b,8+a,none⟩=some (.int .i64 (M a))/\w.frozen? ⟨b,8+a,none⟩=false:=by
 obtain⟨_,k,_⟩:=h.rows
 exact⟨(k.cell (8+a)).trans (mc_mem ha),k.frozen _⟩
theorem QAt.of_block{w w':World}{b lo:Nat}{R M:Nat->Int}{S:List Int}(h:QAt w b lo R M S)(hb:∀k,k<w.heap.size->w'.heap[k]?=w.heap[k]?):QAt w' b lo R M S:=by
 obtain⟨sv,k,o⟩:=h.rows
 exact⟨⟨sv,k.of_block (hb _ k.lt),own_block o λq e=>hb q (o.lt q e).2⟩,h.lo⟩
theorem QAt.setR{w:World}{b lo:Nat}{R M:Nat->Int}{S:List Int}(h:QAt w b lo R M S){a:Nat}(ha:a<8)(v:Int):QAt (w.setCell ⟨b,a,none⟩ (.int .i64 v)) b lo (upd R a v) M S:=by
 obtain⟨sv,k,o⟩:=h.rows
 refine⟨⟨sv,by have:=k.set a (.int .i64 v);rw[mc_setR ha]at this;exact this,ownsRow_setCell_other o (λe=>?_) _⟩,h.lo⟩
 have h1:lo<=b:=(o.lt _ e).1
 have:=h.lo
 omega
theorem QAt.setM{w:World}{b lo:Nat}{R M:Nat->Int}{S:List Int}(h:QAt w b lo R M S){a:Nat}(ha:a<256)(v:Int):QAt (w.setCell ⟨b,8+a,none⟩ (.int .i64 v)) b lo R (upd M a v) S:=by
 obtain⟨sv,k,o⟩:=h.rows
 refine⟨⟨sv,by have:=k.set (8+a) (.int .i64 v);rw[mc_setM ha]at this;exact this,ownsRow_setCell_other o (λe=>?_) _⟩,h.lo⟩
 have h1:lo<=b:=(o.lt _ e).1
 have:=h.lo
 omega
theorem QAt.grow{w w3:World}{b lo:Nat}{R M:Nat->Int}{S S':List Int}{sv nv:Value}(a1:At w b 65 (mcells R M sv))(o1:w.ownsRow lo 3 1 sv S.length (ints S))(hlo:b<lo)(hlo':lo<=w.heap.size)(hrow:w3.ownsRow 0 3 1 nv S'.length (ints S'))(hb:w3.heap[b]?=w.heap[b]?)(hk:∀k,nv.ownBlock=some k->sv.ownBlock=some k∨w.heap.size<=k):QAt (w3.setCell ⟨b,264,none⟩ nv) b lo R M S':=by
 have a3:=(a1.of_block hb).set 264 nv
 rw[mc_setS]at a3
 refine⟨⟨nv,a3,own_up (ownsRow_setCell_other hrow (λe=>?_) _) (λk e=>?_)⟩,hlo⟩
 · rcases hk _ e with e' |e'
   · have h9:lo<=b:=(o1.lt _ e').1;omega
   · have h9:w.heap.size<=b:=e';have:=a1.lt;omega
 · rcases hk k e with e' |e'
   · exact(o1.lt k e').1
   · omega
theorem QAt.ready{w:World}{b lo:Nat}{R M:Nat->Int}{S:List Int}(h:QAt w b lo R M S):∃sa sc,w.cell? ⟨b,264,none⟩=some (.slice sa S.length sc)/\w.frozen? ⟨b,264,none⟩=false/\At w b 65 (mcells R M (.slice sa S.length sc))/\w.ownsRow lo 3 1 (.slice sa S.length sc) S.length (ints S)/\¬(Value.slice sa S.length sc).ownBlock=some b:=by
 obtain⟨sv,aS,oS⟩:=h.rows
 obtain⟨sa,sc,rfl⟩:∃sa sc,sv=.slice sa S.length sc:=by
  rcases Joins.ownsRow_forms oS with⟨rfl,h0⟩|⟨g,c,rfl⟩
  · exact⟨none,0,by rw[h0]⟩
  · exact⟨_,_,rfl⟩
 refine⟨sa,sc,(aS.cell 264).trans mc_seen,aS.frozen 264,aS,oS,λe=>?_⟩
 have:=(oS.lt _ e).1
 have:=h.lo
 omega
theorem QAt.grown{w wa w3:World}{b lo:Nat}{R M:Nat->Int}{S T:List Int}{sa:Option Addr}{sc gg cap3 n:Nat}(hn:T.length=n)(h:QAt w b lo R M S)(hlo:lo<=w.heap.size)(aS:At w b 65 (mcells R M (.slice sa S.length sc)))(oS:w.ownsRow lo 3 1 (.slice sa S.length sc) S.length (ints S))(hba:∀k,k<w.heap.size->wa.heap[k]?=w.heap[k]?)(hza:w.heap.size<=wa.heap.size)(qo:wa.os=w.os)(qt:wa.tape=w.tape)(qp:wa.output=w.output)(hrow:w3.ownsRow 0 3 1 (.slice (some ⟨gg,0,none⟩) (S.length+n) cap3) (S.length+n) (ints S++ints T))(hgr:wa.grownBy w3 (Value.slice sa S.length sc).ownBlock)(hkk:∀k,(Value.slice (some ⟨gg,0,none⟩) (S.length+n) cap3).ownBlock=some k->(Value.slice sa S.length sc).ownBlock=some k∨wa.heap.size<=k):
 QAt (w3.setCell ⟨b,264,none⟩ (.slice (some ⟨gg,0,none⟩) (S.length+n) cap3)) b lo R M (S++T)/\(∀k,k<w.heap.size->k≠b->¬(Value.slice sa S.length sc).ownBlock=some k->(w3.setCell ⟨b,264,none⟩ (.slice (some ⟨gg,0,none⟩) (S.length+n) cap3)).heap[k]?=w.heap[k]?)/\(∀a:World,a.heap.size=lo->But b a w->But b a (w3.setCell ⟨b,264,none⟩ (.slice (some ⟨gg,0,none⟩) (S.length+n) cap3))):=by
 have hb:=aS.lt
 have hlo':=h.lo
 have nbs:¬(Value.slice sa S.length sc).ownBlock=some b:=λe=>by have:=(oS.lt _ e).1;omega
 have e3:ints (S++T)=ints S++ints T:=by unfold ints;rw[List.map_append]
 have kp:∀k,k<w.heap.size->k≠b->¬(Value.slice sa S.length sc).ownBlock=some k->(w3.setCell ⟨b,264,none⟩ (.slice (some ⟨gg,0,none⟩) (S.length+n) cap3)).heap[k]?=w.heap[k]?:=λk h1 h2 h3=>(heap_setCell_other _ ⟨b,264,none⟩ k _ h2).trans ((hgr.block k (by omega) (λe=>h3 e.symm)).trans (hba k h1))
 refine⟨QAt.grow (w3:=w3) aS oS hlo' hlo (by rw[List.length_append,e3,hn];exact hrow) ((hgr.block b (by omega) (λe=>nbs e.symm)).trans (hba b hb)) (λk e=>(hkk k e).imp id (λe'=>by omega)),kp,λa ha B=>?_⟩
 have:=hgr.size
 refine⟨(hgr.os.trans qo).trans B.os,(hgr.tape.trans qt).trans B.tape,(hgr.output.trans qp).trans B.output,by rw[World.size_setCell];have:=B.size;omega,λk h1 h2=>?_⟩
 exact(kp k (by have:=B.size;omega) h2 (λe=>by have:=(oS.lt k e).1;omega)).trans (B.block k h1 h2)
theorem within_c(k n:Int)(w:World):Calls Tryz.prog 51 #[.int .i64 k,.int .i64 n] w λx w'=>x=.returned (.bool (decide (0<=k)&&decide (k<n)))/\w'=w:=by
 by_cases h:0<=k
 · by_cases h2:k<n
   · go_enter Tryz.func51,Tryz.ntmps51
     go_wp2_with fail
     go_ret
     exact⟨by simp[h,h2],rfl⟩
   · go_enter Tryz.func51,Tryz.ntmps51
     go_wp2_with fail
     go_ret
     exact⟨by simp[h2],rfl⟩
 · go_enter Tryz.func51,Tryz.ntmps51
   go_wp2_with fail
   go_ret
   exact⟨by have e:decide (0<=k)=false:=by simpa using h
            rw[e];rfl,rfl⟩
theorem within_yes{k:Nat}{n:Int}(h:(k:Int)<n)(w:World):Calls Tryz.prog 51 #[.int .i64 (k:Int),.int .i64 n] w λx w'=>x=.returned (.bool true)/\w'=w:=by
 have:=within_c (k:Int) n w
 have e:(decide (0<=(k:Int))&&decide ((k:Int)<n))=true:=by simp[h]
 rw[e]at this
 exact this
theorem rbit_c(q:Bool)(w:World):Calls Tryz.prog 69 #[.bool q] w λx w'=>x=.returned (.int .i64 (if q=true then 1 else 0))/\w'=w:=by
 cases q<;>
 · go_enter Tryz.func69,Tryz.ntmps69
   go_wp2_with fail
   go_ret
   exact⟨rfl,rfl⟩
theorem rquot_c(a b:Int)(w:World):Calls Tryz.prog 70 #[.int .i64 a,.int .i64 b] w λx w'=>x=.returned (.int .i64 (if b=0 then 0 else wrap64 (a.tdiv b)))/\w'=w:=by
 by_cases hb:b=0
 · subst hb
   go_enter Tryz.func70,Tryz.ntmps70
   go_wp2_with fail
   go_ret
   exact⟨rfl,rfl⟩
 · rw[if_neg hb]
   go_enter Tryz.func70,Tryz.ntmps70
   go_wp2_with fail
   go_ret
   exact⟨rfl,rfl⟩
theorem one_kst{w:World}{b lo:Nat}{R M:Nat->Int}{S:List Int}(h:QAt w b lo R M S){a:Nat}(ha:a<8)(v:Int):
 Calls Tryz.prog 52 #[PT b,.agg #[.int .i64 1,.int .i64 (a:Int),.int .i64 0,.int .i64 0,.int .i64 v]] w λx w'=>x=.returned (.bool true)/\QAt w' b lo (upd R a v) M S/\But b w w':=by
 have a8:(a:Int)<8:=by omega
 have wa:=λw=>within_yes (k:=a) (n:=8) a8 w
 have w0:=λw=>within_yes (k:=0) (n:=8) (by decide) w
 have wv:=λw=>within_c v 8 w
 generalize(decide (0<=v)&&decide (v<8))=qv at*
 have bl:=h.lt
 have B0:Below w.heap.size w (w.alloc (.cells #[.int .i64 1,.int .i64 (a:Int),.int .i64 0,.int .i64 0,.int .i64 v] 58 (0,0))):=(Below.refl _ _).alloc (Nat.le_refl _) _
 have bx:=At.alloc_new w [.int .i64 1,.int .i64 (a:Int),.int .i64 0,.int .i64 0,.int .i64 v] 58
 have h1:=h.of_block (w':=w.alloc (.cells #[.int .i64 1,.int .i64 (a:Int),.int .i64 0,.int .i64 0,.int .i64 v] 58 (0,0))) λk hk=>B0.block k hk
 have k0:=bx.cell 0
 have k1:=bx.cell 1
 have k2:=bx.cell 2
 have k3:=bx.cell 3
 have k4:=bx.cell 4
 simp only[List.getElem?_cons_zero,List.getElem?_cons_succ]at k0 k1 k2 k3 k4
 have hlo:=h.lo
 generalize hW:w.alloc (.cells #[.int .i64 1,.int .i64 (a:Int),.int .i64 0,.int .i64 0,.int .i64 v] 58 (0,0))=W0 at*
 obtain⟨cr,fr⟩:=h1.reg ha
 have Hh1:=hide h1
 have bl1:=h1.lt
 have HB0:=hide B0
 clear h bx h1 B0
 go_enter Tryz.func52,Tryz.ntmps52
 go_wp2_with fail
 refine(wa _).mono ?_
 rintro x w' ⟨rfl,rfl⟩
 go_wp2_with fail
 refine(w0 _).mono ?_
 rintro x w' ⟨rfl,rfl⟩
 go_wp2_with fail
 refine(w0 _).mono ?_
 rintro x w' ⟨rfl,rfl⟩
 go_wp2_with fail
 refine(wv _).mono ?_
 rintro x w' ⟨rfl,rfl⟩
 go_upto_region 8 with fail
 refine wp_region_still_tail 8 (by kernel_rfl) (by kernel_rfl) ?_
 simp only[List.take_succ_cons,List.take_zero,List.drop_succ_cons,List.drop_zero]
 iterate 8 still_step
 refine wpStill_nil ?_
 change wpList _ _ _ _ _ (World.drew w')
 go_wp2_with fail
 go_ret
 exact⟨rfl,(Hh1.out.of_block (w':=w'.drew) λ_ _=>rfl).setR ha v,(below_but HB0.out).drew.set a _⟩
theorem one_bin{w:World}{b lo:Nat}{R M:Nat->Int}{S:List Int}(h:QAt w b lo R M S){a p q:Nat}{o:UInt8}{n0:Int}(ha:a<8)(hp:p<8)(hq:q<8)(HO:Hid (o=43/\n0=2∨o=45/\n0=3∨o=42/\n0=4∨o=38/\n0=5∨o=94/\n0=6∨o=60/\n0=7∨o=61/\n0=8))(hv:2<=n0/\n0<=8):
 Calls Tryz.prog 52 #[PT b,.agg #[.int .i64 n0,.int .i64 (a:Int),.int .i64 (p:Int),.int .i64 (q:Int),.int .i64 0]] w λx w'=>x=.returned (.bool true)/\QAt w' b lo (upd R a (V.opf o (R p) (R q))) M S/\But b w w':=by
 have a8:(a:Int)<8:=by omega
 have wa:=λw=>within_yes (k:=a) (n:=8) a8 w
 have p8:(p:Int)<8:=by omega
 have wp:=λw=>within_yes (k:=p) (n:=8) p8 w
 have q8:(q:Int)<8:=by omega
 have wq:=λw=>within_yes (k:=q) (n:=8) q8 w
 have w0:=λw=>within_yes (k:=0) (n:=8) (by decide) w
 have bl:=h.lt
 have B0:Below w.heap.size w (w.alloc (.cells #[.int .i64 n0,.int .i64 (a:Int),.int .i64 (p:Int),.int .i64 (q:Int),.int .i64 0] 58 (0,0))):=(Below.refl _ _).alloc (Nat.le_refl _) _
 have bx:=At.alloc_new w [.int .i64 n0,.int .i64 (a:Int),.int .i64 (p:Int),.int .i64 (q:Int),.int .i64 0] 58
 have h1:=h.of_block (w':=w.alloc (.cells #[.int .i64 n0,.int .i64 (a:Int),.int .i64 (p:Int),.int .i64 (q:Int),.int .i64 0] 58 (0,0))) λk hk=>B0.block k hk
 have k0:=bx.cell 0
 have k1:=bx.cell 1
 have k2:=bx.cell 2
 have k3:=bx.cell 3
 have k4:=bx.cell 4
 simp only[List.getElem?_cons_zero,List.getElem?_cons_succ]at k0 k1 k2 k3 k4
 have hlo:=h.lo
 generalize hW:w.alloc (.cells #[.int .i64 n0,.int .i64 (a:Int),.int .i64 (p:Int),.int .i64 (q:Int),.int .i64 0] 58 (0,0))=W0 at*
 have v1:¬n0<1:=by omega
 have v2:¬n0>12:=by omega
 have v3:¬n0=1:=by omega
 have v4:¬n0=11:=by omega
 have v5:¬n0=12:=by omega
 have v6:¬n0=10:=by omega
 obtain⟨cr,fr⟩:=h1.reg ha
 obtain⟨cp,_⟩:=h1.reg hp
 obtain⟨cq,_⟩:=h1.reg hq
 have Hh1:=hide h1
 have bl1:=h1.lt
 have HB0:=hide B0
 clear h bx h1 B0
 generalize R p=px at*
 generalize R q=py at*
 go_enter Tryz.func52,Tryz.ntmps52
 go_wp2_with fail
 refine(wa _).mono ?_
 rintro x w' ⟨rfl,rfl⟩
 go_wp2_with fail
 refine(wp _).mono ?_
 rintro x w' ⟨rfl,rfl⟩
 go_wp2_with fail
 refine(wq _).mono ?_
 rintro x w' ⟨rfl,rfl⟩
 go_wp2_with fail
 refine(w0 _).mono ?_
 rintro x w' ⟨rfl,rfl⟩
 go_upto_region 32 with fail
 go_quiet (fail)
 go_upto_region 33 with fail
 go_quiet (fail)
 generalize hWD:(w'.drewN _).drewN _=WD at*
 have d0:WD.cell? ⟨w.heap.size,0,none⟩=some (.int .i64 n0):=by rw[<-hWD];exact k0
 have d1:WD.cell? ⟨w.heap.size,1,none⟩=some (.int .i64 (a:Int)):=by rw[<-hWD];exact k1
 have dr:WD.cell? ⟨b,a,none⟩=some (.int .i64 (R a)):=by rw[<-hWD];exact cr
 have df:WD.frozen? ⟨b,a,none⟩=false:=by rw[<-hWD];exact fr
 have HQ:Hid (QAt WD.drew b lo R M S):=by rw[<-hWD];exact Hh1.out.of_block λ_ _=>rfl
 have HB:Hid (But b w WD.drew):=by rw[<-hWD];exact(below_but (below_dN (below_dN HB0.out _) _)).drew
 clear v1 v2 v3 v4 v5 v6 k0 k1 k2 k3 k4 cr fr cp cq Hh1 HB0 hWD wa wp wq w0
 rcases HO.out with⟨rfl,rfl⟩|⟨rfl,rfl⟩|⟨rfl,rfl⟩|⟨rfl,rfl⟩|⟨rfl,rfl⟩|⟨rfl,rfl⟩|⟨rfl,rfl⟩
 · go_upto_region 36 with fail
   refine wp_region_still_tail 9 (by kernel_rfl) (by kernel_rfl) ?_
   simp only[List.take_succ_cons,List.take_zero,List.drop_succ_cons,List.drop_zero]
   iterate 9 still_step
   refine wpStill_nil ?_
   change wpList _ _ _ _ _ (World.drew WD)
   go_wp2_with fail
   go_ret
   exact⟨rfl,HQ.out.setR ha _,HB.out.set a _⟩
 · go_upto_region 38 with fail
   refine wp_region_still_tail 9 (by kernel_rfl) (by kernel_rfl) ?_
   simp only[List.take_succ_cons,List.take_zero,List.drop_succ_cons,List.drop_zero]
   iterate 9 still_step
   refine wpStill_nil ?_
   change wpList _ _ _ _ _ (World.drew WD)
   go_wp2_with fail
   go_ret
   exact⟨rfl,HQ.out.setR ha _,HB.out.set a _⟩
 · go_upto_region 40 with fail
   refine wp_region_still_tail 9 (by kernel_rfl) (by kernel_rfl) ?_
   simp only[List.take_succ_cons,List.take_zero,List.drop_succ_cons,List.drop_zero]
   iterate 9 still_step
   refine wpStill_nil ?_
   change wpList _ _ _ _ _ (World.drew WD)
   go_wp2_with fail
   go_ret
   exact⟨rfl,HQ.out.setR ha _,HB.out.set a _⟩
 · go_upto_region 42 with fail
   refine wp_region_still_tail 9 (by kernel_rfl) (by kernel_rfl) ?_
   simp only[List.take_succ_cons,List.take_zero,List.drop_succ_cons,List.drop_zero]
   iterate 9 still_step
   refine wpStill_nil ?_
   change wpList _ _ _ _ _ (World.drew WD)
   go_wp2_with fail
   go_ret
   exact⟨rfl,HQ.out.setR ha _,HB.out.set a _⟩
 · go_upto_region 44 with fail
   refine wp_region_still_tail 9 (by kernel_rfl) (by kernel_rfl) ?_
   simp only[List.take_succ_cons,List.take_zero,List.drop_succ_cons,List.drop_zero]
   iterate 9 still_step
   refine wpStill_nil ?_
   change wpList _ _ _ _ _ (World.drew WD)
   go_wp2_with fail
   go_ret
   exact⟨rfl,HQ.out.setR ha _,HB.out.set a _⟩
 · obtain⟨vv,Hvv⟩:∃vv,Hid (V.opf 60 px py=vv):=⟨_,hide rfl⟩
   have hbt:∀w:World,Calls Tryz.prog 69 #[.bool (decide (px<py))] w λx w'=>x=.returned (.int .i64 vv)/\w'=w:=λw=>by
    have h9:=rbit_c (decide (px<py)) w
    rw[show(if(decide (px<py))=true then(1:Int)else 0)=V.opf 60 px py by simp[V.opf],Hvv.out]at h9
    exact h9
   go_upto_region 46 with fail
   refine wp_region_still_tail 10 (by kernel_rfl) (by kernel_rfl) ?_
   simp only[List.take_succ_cons,List.take_zero,List.drop_succ_cons,List.drop_zero]
   iterate 6 still_step
   still_call (hbt _)
   iterate 3 still_step
   refine wpStill_nil ?_
   change wpList _ _ _ _ _ (World.drew WD)
   go_wp2_with fail
   go_ret
   exact⟨rfl,by rw[Hvv.out];exact HQ.out.setR ha _,HB.out.set a _⟩
 · obtain⟨vv,Hvv⟩:∃vv,Hid (V.opf 61 px py=vv):=⟨_,hide rfl⟩
   have hbt:∀w:World,Calls Tryz.prog 69 #[.bool (px==py)] w λx w'=>x=.returned (.int .i64 vv)/\w'=w:=λw=>by
    have h9:=rbit_c (px==py) w
    rw[show(if(px==py)=true then(1:Int)else 0)=V.opf 61 px py by simp[V.opf],Hvv.out]at h9
    exact h9
   go_upto_region 48 with fail
   refine wp_region_still_tail 10 (by kernel_rfl) (by kernel_rfl) ?_
   simp only[List.take_succ_cons,List.take_zero,List.drop_succ_cons,List.drop_zero]
   iterate 6 still_step
   still_call (hbt _)
   iterate 3 still_step
   refine wpStill_nil ?_
   change wpList _ _ _ _ _ (World.drew WD)
   go_wp2_with fail
   go_ret
   exact⟨rfl,by rw[Hvv.out];exact HQ.out.setR ha _,HB.out.set a _⟩
end Y
end Go.Proofs.YtejbgcloblpbfaaGreatDoor
