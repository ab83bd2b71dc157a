import Derived.Test.YtejbgcloblpbfaaGreatDoorG45
set_option maxHeartbeats 4000000
set_option maxRecDepth 100000
namespace Go.Proofs.YtejbgcloblpbfaaGreatDoor
open Go.RowKit
open K (Nm Ex Do)
namespace Y
theorem one_sel1{w:World}{b lo:Nat}{R M:Nat->Int}{S:List Int}(h:QAt w b lo R M S){a p q d:Nat}(ha:a<8)(hp:p<8)(hq:q<8)(hd:d<8)(h0:¬R q=0):
 Calls Tryz.prog 52 #[PT b,.agg #[.int .i64 10,.int .i64 (a:Int),.int .i64 (p:Int),.int .i64 (q:Int),.int .i64 (d:Int)]] w λx w'=>x=.returned (.bool true)/\QAt w' b lo (upd R a (R p)) M S/\But b w w':=by
 have a8:(a:Int)<8:=by omega
 have wa:=λw=>within_yes (k:=a) (n:=8) a8 w
 have p8:(p:Int)<8:=by omega
 have wp:=λw=>within_yes (k:=p) (n:=8) p8 w
 have q8:(q:Int)<8:=by omega
 have wq:=λw=>within_yes (k:=q) (n:=8) q8 w
 have d8:(d:Int)<8:=by omega
 have wd:=λw=>within_yes (k:=d) (n:=8) d8 w
 have bl:=h.lt
 have B0:Below w.heap.size w (w.alloc (.cells #[.int .i64 10,.int .i64 (a:Int),.int .i64 (p:Int),.int .i64 (q:Int),.int .i64 (d:Int)] 58 (0,0))):=(Below.refl _ _).alloc (Nat.le_refl _) _
 have bx:=At.alloc_new w [.int .i64 10,.int .i64 (a:Int),.int .i64 (p:Int),.int .i64 (q:Int),.int .i64 (d:Int)] 58
 have h1:=h.of_block (w':=w.alloc (.cells #[.int .i64 10,.int .i64 (a:Int),.int .i64 (p:Int),.int .i64 (q:Int),.int .i64 (d:Int)] 58 (0,0))) λk hk=>B0.block k hk
 have k0:=bx.cell 0
 have k1:=bx.cell 1
 have k2:=bx.cell 2
 have k3:=bx.cell 3
 have k4:=bx.cell 4
 simp only[List.getElem?_cons_zero,List.getElem?_cons_succ]at k0 k1 k2 k3 k4
 have hlo:=h.lo
 generalize hW:w.alloc (.cells #[.int .i64 10,.int .i64 (a:Int),.int .i64 (p:Int),.int .i64 (q:Int),.int .i64 (d:Int)] 58 (0,0))=W0 at*
 obtain⟨cr,fr⟩:=h1.reg ha
 obtain⟨cq,_⟩:=h1.reg hq
 obtain⟨cs,_⟩:=h1.reg hp
 have Hh1:=hide h1
 have bl1:=h1.lt
 have HB0:=hide B0
 clear h bx h1 B0
 generalize R q=rq at*
 generalize R p=rs at*
 go_enter Tryz.func52,Tryz.ntmps52
 go_wp2_with fail
 refine(wa _).mono ?_
 rintro x w' ⟨rfl,rfl⟩
 go_wp2_with fail
 refine(wp _).mono ?_
 rintro x w' ⟨rfl,rfl⟩
 go_wp2_with fail
 refine(wq _).mono ?_
 rintro x w' ⟨rfl,rfl⟩
 go_wp2_with fail
 refine(wd _).mono ?_
 rintro x w' ⟨rfl,rfl⟩
 go_upto_region 27 with fail
 go_quiet (fail)
 generalize hWD:w'.drewN _=WD at*
 have d1:WD.cell? ⟨w.heap.size,1,none⟩=some (.int .i64 (a:Int)):=by rw[<-hWD];exact k1
 have d2:WD.cell? ⟨w.heap.size,2,none⟩=some (.int .i64 (p:Int)):=by rw[<-hWD];exact k2
 have dr:WD.cell? ⟨b,a,none⟩=some (.int .i64 (R a)):=by rw[<-hWD];exact cr
 have ds:WD.cell? ⟨b,p,none⟩=some (.int .i64 rs):=by rw[<-hWD];exact cs
 have df:WD.frozen? ⟨b,a,none⟩=false:=by rw[<-hWD];exact fr
 have HQ:Hid (QAt WD.drew b lo R M S):=by rw[<-hWD];exact Hh1.out.of_block λ_ _=>rfl
 have HB:Hid (But b w WD.drew):=by rw[<-hWD];exact(below_but (below_dN HB0.out _)).drew
 go_upto_region 28 with fail
 refine wp_region_still_tail 13 (by kernel_rfl) (by kernel_rfl) ?_
 simp only[List.take_succ_cons,List.take_zero,List.drop_succ_cons,List.drop_zero]
 iterate 13 still_step
 refine wpStill_nil ?_
 change wpList _ _ _ _ _ (World.drew WD)
 go_wp2_with fail
 go_ret
 exact⟨rfl,HQ.out.setR ha _,HB.out.set a _⟩
theorem one_sel0{w:World}{b lo:Nat}{R M:Nat->Int}{S:List Int}(h:QAt w b lo R M S){a p q d:Nat}(ha:a<8)(hp:p<8)(hq:q<8)(hd:d<8)(h0:R q=0):
 Calls Tryz.prog 52 #[PT b,.agg #[.int .i64 10,.int .i64 (a:Int),.int .i64 (p:Int),.int .i64 (q:Int),.int .i64 (d:Int)]] w λx w'=>x=.returned (.bool true)/\QAt w' b lo (upd R a (R d)) M S/\But b w w':=by
 have a8:(a:Int)<8:=by omega
 have wa:=λw=>within_yes (k:=a) (n:=8) a8 w
 have p8:(p:Int)<8:=by omega
 have wp:=λw=>within_yes (k:=p) (n:=8) p8 w
 have q8:(q:Int)<8:=by omega
 have wq:=λw=>within_yes (k:=q) (n:=8) q8 w
 have d8:(d:Int)<8:=by omega
 have wd:=λw=>within_yes (k:=d) (n:=8) d8 w
 have bl:=h.lt
 have B0:Below w.heap.size w (w.alloc (.cells #[.int .i64 10,.int .i64 (a:Int),.int .i64 (p:Int),.int .i64 (q:Int),.int .i64 (d:Int)] 58 (0,0))):=(Below.refl _ _).alloc (Nat.le_refl _) _
 have bx:=At.alloc_new w [.int .i64 10,.int .i64 (a:Int),.int .i64 (p:Int),.int .i64 (q:Int),.int .i64 (d:Int)] 58
 have h1:=h.of_block (w':=w.alloc (.cells #[.int .i64 10,.int .i64 (a:Int),.int .i64 (p:Int),.int .i64 (q:Int),.int .i64 (d:Int)] 58 (0,0))) λk hk=>B0.block k hk
 have k0:=bx.cell 0
 have k1:=bx.cell 1
 have k2:=bx.cell 2
 have k3:=bx.cell 3
 have k4:=bx.cell 4
 simp only[List.getElem?_cons_zero,List.getElem?_cons_succ]at k0 k1 k2 k3 k4
 have hlo:=h.lo
 generalize hW:w.alloc (.cells #[.int .i64 10,.int .i64 (a:Int),.int .i64 (p:Int),.int .i64 (q:Int),.int .i64 (d:Int)] 58 (0,0))=W0 at*
 obtain⟨cr,fr⟩:=h1.reg ha
 obtain⟨cq,_⟩:=h1.reg hq
 obtain⟨cs,_⟩:=h1.reg hd
 have Hh1:=hide h1
 have bl1:=h1.lt
 have HB0:=hide B0
 clear h bx h1 B0
 generalize R q=rq at*
 generalize R d=rs at*
 subst h0
 go_enter Tryz.func52,Tryz.ntmps52
 go_wp2_with fail
 refine(wa _).mono ?_
 rintro x w' ⟨rfl,rfl⟩
 go_wp2_with fail
 refine(wp _).mono ?_
 rintro x w' ⟨rfl,rfl⟩
 go_wp2_with fail
 refine(wq _).mono ?_
 rintro x w' ⟨rfl,rfl⟩
 go_wp2_with fail
 refine(wd _).mono ?_
 rintro x w' ⟨rfl,rfl⟩
 go_upto_region 27 with fail
 go_quiet (fail)
 generalize hWD:w'.drewN _=WD at*
 have d1:WD.cell? ⟨w.heap.size,1,none⟩=some (.int .i64 (a:Int)):=by rw[<-hWD];exact k1
 have d2:WD.cell? ⟨w.heap.size,4,none⟩=some (.int .i64 (d:Int)):=by rw[<-hWD];exact k4
 have dr:WD.cell? ⟨b,a,none⟩=some (.int .i64 (R a)):=by rw[<-hWD];exact cr
 have ds:WD.cell? ⟨b,d,none⟩=some (.int .i64 rs):=by rw[<-hWD];exact cs
 have df:WD.frozen? ⟨b,a,none⟩=false:=by rw[<-hWD];exact fr
 have HQ:Hid (QAt WD.drew b lo R M S):=by rw[<-hWD];exact Hh1.out.of_block λ_ _=>rfl
 have HB:Hid (But b w WD.drew):=by rw[<-hWD];exact(below_but (below_dN HB0.out _)).drew
 go_upto_region 30 with fail
 refine wp_region_still_tail 13 (by kernel_rfl) (by kernel_rfl) ?_
 simp only[List.take_succ_cons,List.take_zero,List.drop_succ_cons,List.drop_zero]
 iterate 13 still_step
 refine wpStill_nil ?_
 change wpList _ _ _ _ _ (World.drew WD)
 go_wp2_with fail
 go_ret
 exact⟨rfl,HQ.out.setR ha _,HB.out.set a _⟩
theorem one_ld{w:World}{b lo:Nat}{R M:Nat->Int}{S:List Int}(h:QAt w b lo R M S){a p z:Nat}(ha:a<8)(hp:p<8)(hz:R p=(z:Int))(hz8:z<256)(hl:lo<=w.heap.size)(hS:S.length<=400000):
 Calls Tryz.prog 52 #[PT b,.agg #[.int .i64 11,.int .i64 (a:Int),.int .i64 (p:Int),.int .i64 0,.int .i64 0]] w λx w'=>x=.returned (.bool true)/\QAt w' b lo (upd R a (M z)) M (S++[(z:Int)])/\(∀a:World,a.heap.size=lo->But b a w->But b a w'):=by
 have a8:(a:Int)<8:=by omega
 have wa:=λw=>within_yes (k:=a) (n:=8) a8 w
 have p8:(p:Int)<8:=by omega
 have wp:=λw=>within_yes (k:=p) (n:=8) p8 w
 have w0:=λw=>within_yes (k:=0) (n:=8) (by decide) w
 have z8:(z:Int)<256:=by omega
 have wz:=λw=>within_yes (k:=z) (n:=256) z8 w
 obtain⟨j0,ji,jz0,jz1,jz2⟩:=info_parts info_int
 have bl:=h.lt
 have B0:Below w.heap.size w (w.alloc (.cells #[.int .i64 11,.int .i64 (a:Int),.int .i64 (p:Int),.int .i64 0,.int .i64 0] 58 (0,0))):=(Below.refl _ _).alloc (Nat.le_refl _) _
 have bx:=At.alloc_new w [.int .i64 11,.int .i64 (a:Int),.int .i64 (p:Int),.int .i64 0,.int .i64 0] 58
 have h1:=h.of_block (w':=w.alloc (.cells #[.int .i64 11,.int .i64 (a:Int),.int .i64 (p:Int),.int .i64 0,.int .i64 0] 58 (0,0))) λk hk=>B0.block k hk
 have k0:=bx.cell 0
 have k1:=bx.cell 1
 have k2:=bx.cell 2
 have k3:=bx.cell 3
 have k4:=bx.cell 4
 simp only[List.getElem?_cons_zero,List.getElem?_cons_succ]at k0 k1 k2 k3 k4
 have hlo:=h.lo
 generalize hW:w.alloc (.cells #[.int .i64 11,.int .i64 (a:Int),.int .i64 (p:Int),.int .i64 0,.int .i64 0] 58 (0,0))=W0 at*
 obtain⟨cz,_⟩:=h1.reg hp
 rw[hz]at cz
 have hl0:lo<=W0.heap.size:=Nat.le_trans hl B0.size
 have Hh1:=hide h1
 have bl1:=h1.lt
 have HB0:=hide B0
 have Hbx:=hide bx
 have lbx:=bx.lt
 have hbx:b≠w.heap.size:=by omega
 clear h bx h1 B0
 go_enter Tryz.func52,Tryz.ntmps52
 go_wp2_with fail
 refine(wa _).mono ?_
 rintro x w' ⟨rfl,rfl⟩
 go_wp2_with fail
 refine(wp _).mono ?_
 rintro x w' ⟨rfl,rfl⟩
 go_wp2_with fail
 refine(w0 _).mono ?_
 rintro x w' ⟨rfl,rfl⟩
 go_wp2_with fail
 refine(w0 _).mono ?_
 rintro x w' ⟨rfl,rfl⟩
 go_upto_region 13 with fail
 go_quiet (first |(go_at_call 51;exact Calls.quiet_of_same (wz _)))
 generalize hWD:w'.drewN _=WD at*
 have HQ:Hid (QAt WD.drew b lo R M S):=by rw[<-hWD];exact Hh1.out.of_block λ_ _=>rfl
 have HB:Hid (But b w WD.drew):=by rw[<-hWD];exact(below_but (below_dN HB0.out _)).drew
 have HX:Hid (At WD.drew w.heap.size 58 [.int .i64 11,.int .i64 (a:Int),.int .i64 (p:Int),.int .i64 0,.int .i64 0]):=by rw[<-hWD];exact Hbx.out.of_block rfl
 have d1:WD.cell? ⟨w.heap.size,1,none⟩=some (.int .i64 (a:Int)):=by rw[<-hWD];exact k1
 have d2:WD.cell? ⟨w.heap.size,2,none⟩=some (.int .i64 (p:Int)):=by rw[<-hWD];exact k2
 have dz:WD.cell? ⟨b,p,none⟩=some (.int .i64 (z:Int)):=by rw[<-hWD];exact cz
 have hlW:lo<=WD.heap.size:=by rw[<-hWD];exact hl0
 have lbW:w.heap.size<WD.heap.size:=by rw[<-hWD];exact lbx
 have lb:b<WD.heap.size:=by rw[<-hWD];exact bl1
 obtain⟨sa5,sc5,cS,fS,aS,oS,nbs5⟩:=HQ.out.ready
 have cS':WD.cell? ⟨b,264,none⟩=some (.slice sa5 S.length sc5):=cS
 have HaS5:=hide aS
 have HoS5:=hide oS
 have nkb:¬(Value.slice sa5 S.length sc5).ownBlock=some w.heap.size:=λe=>by
  obtain⟨_,_,k9⟩:=own_kind oS e
  obtain⟨_,_,k8⟩:=at_kind HX.out
  exact kind_ne k9 k8 (by decide) rfl
 generalize w.heap.size=BX at*
 clear hWD cS fS aS oS Hh1 HB0 Hbx k0 k1 k2 k3 k4 cz wa wp w0 wz
 go_upto_region 15 with fail
 go_cut []from 66 to 81 (λwr=>QAt wr b lo R M (S++[(z:Int)])/\(∀a:World,a.heap.size=lo->But b a w->But b a wr)/\At wr BX 58 [.int .i64 11,.int .i64 (a:Int),.int .i64 (p:Int),.int .i64 0,.int .i64 0])
 case first=>
  go_region_law (refine step_append_row1 rfl (.tmp 70) (.tmp 78) 32 rfl 3 j0 (.int .i64 0) 1 8 Tryz.underlying32 ji jz0 jz1 jz2 rfl (by decide) (.slice sa5 S.length sc5) S.length (ints S) rfl (by exact World.ownsRow.alloc (Joins.ownsRow_le HoS5.out (Nat.zero_le _)) _) ⟨WD.heap.size,0,none⟩ 1 1 [.int .i64 (z:Int)] rfl rfl (by exact row_new WD.drew [.int .i64 (z:Int)] _) (by intro u hu;simp only[List.mem_cons,List.not_mem_nil,or_false]at hu;subst hu;rfl) (few_le (by omega)) (by omega) (by decide) ?_;intro gg5 cap5 w5 hrow5 hgr5 hkk5;have aW5:=(HaS5.out.alloc (.cells #[.int .i64 (z:Int)] 3 (0,0))).of_block (hgr5.block b (by show b<(World.alloc _ _).heap.size;rw[size_alloc];have:=HaS5.out.lt;omega) (λe=>nbs5 e.symm));have cw5:=(aW5.cell 264).trans mc_seen;have fw5:=aW5.frozen 264;have HR5:=hide hrow5;have HGr5:=hide hgr5;have HKk5:=hide hkk5;clear aW5 hrow5 hgr5 hkk5)
  all_goals
   go_wp2_with fail
   go_meet
   case rel=>
    obtain⟨hm5,kp5,bt5⟩:=QAt.grown (T:=[(z:Int)]) (n:=1) rfl HQ.out hlW HaS5.out HoS5.out (λq hq=>heap_alloc_old _ _ _ hq) (by rw[size_alloc];exact Nat.le_succ _) rfl rfl rfl HR5.out HGr5.out HKk5.out
    exact⟨hm5,λa ha B=>bt5 a ha (B.trans HB.out),HX.out.of_block (kp5 BX lbW (λe=>hbx e.symm) nkb)⟩
 case rest=>
  as_aux_lemma=>
  obtain⟨hm5,B5,bx5⟩:=hcut
  obtain⟨W5,rfl⟩:∃W5:World,W5=wc:=⟨_,rfl⟩
  have x1:=bx5.cell 1
  have x2:=bx5.cell 2
  simp only[List.getElem?_cons_zero,List.getElem?_cons_succ]at x1 x2
  have lb5:=hm5.lt
  have lbx5:=bx5.lt
  have HM5:=hide (hm5.of_block (w':=W5.drew) λ_ _=>rfl)
  have HB5:=hide B5
  obtain⟨y1,_⟩:=hm5.reg hp
  rw[hz]at y1
  obtain⟨y2,_⟩:=hm5.mem hz8
  obtain⟨y3,y4⟩:=hm5.reg ha
  clear hm5 B5 bx5 HoS5 HaS5 d1 d2 dz cS'
  go_upto_region 16 with fail
  refine wp_region_still_tail 18 (by kernel_rfl) (by kernel_rfl) ?_
  simp only[List.take_succ_cons,List.take_zero,List.drop_succ_cons,List.drop_zero]
  iterate 18 still_step
  refine wpStill_nil ?_
  change wpList _ _ _ _ _ (World.drew W5)
  go_wp2_with fail
  go_ret
  exact⟨rfl,HM5.out.setR ha _,λa' ha' B=>(HB5.out a' ha' B).drew.set a _⟩
theorem one_st{w:World}{b lo:Nat}{R M:Nat->Int}{S:List Int}(h:QAt w b lo R M S){a p z:Nat}(ha:a<8)(hp:p<8)(hz:R a=(z:Int))(hz8:z<256)(hl:lo<=w.heap.size)(hS:S.length<=400000):
 Calls Tryz.prog 52 #[PT b,.agg #[.int .i64 12,.int .i64 (a:Int),.int .i64 (p:Int),.int .i64 0,.int .i64 0]] w λx w'=>x=.returned (.bool true)/\QAt w' b lo R (upd M z (R p)) (S++[(z:Int)])/\(∀a:World,a.heap.size=lo->But b a w->But b a w'):=by
 have a8:(a:Int)<8:=by omega
 have wa:=λw=>within_yes (k:=a) (n:=8) a8 w
 have p8:(p:Int)<8:=by omega
 have wp:=λw=>within_yes (k:=p) (n:=8) p8 w
 have w0:=λw=>within_yes (k:=0) (n:=8) (by decide) w
 have z8:(z:Int)<256:=by omega
 have wz:=λw=>within_yes (k:=z) (n:=256) z8 w
 obtain⟨j0,ji,jz0,jz1,jz2⟩:=info_parts info_int
 have bl:=h.lt
 have B0:Below w.heap.size w (w.alloc (.cells #[.int .i64 12,.int .i64 (a:Int),.int .i64 (p:Int),.int .i64 0,.int .i64 0] 58 (0,0))):=(Below.refl _ _).alloc (Nat.le_refl _) _
 have bx:=At.alloc_new w [.int .i64 12,.int .i64 (a:Int),.int .i64 (p:Int),.int .i64 0,.int .i64 0] 58
 have h1:=h.of_block (w':=w.alloc (.cells #[.int .i64 12,.int .i64 (a:Int),.int .i64 (p:Int),.int .i64 0,.int .i64 0] 58 (0,0))) λk hk=>B0.block k hk
 have k0:=bx.cell 0
 have k1:=bx.cell 1
 have k2:=bx.cell 2
 have k3:=bx.cell 3
 have k4:=bx.cell 4
 simp only[List.getElem?_cons_zero,List.getElem?_cons_succ]at k0 k1 k2 k3 k4
 have hlo:=h.lo
 generalize hW:w.alloc (.cells #[.int .i64 12,.int .i64 (a:Int),.int .i64 (p:Int),.int .i64 0,.int .i64 0] 58 (0,0))=W0 at*
 obtain⟨cz,_⟩:=h1.reg ha
 rw[hz]at cz
 have hl0:lo<=W0.heap.size:=Nat.le_trans hl B0.size
 have Hh1:=hide h1
 have bl1:=h1.lt
 have HB0:=hide B0
 have Hbx:=hide bx
 have lbx:=bx.lt
 have hbx:b≠w.heap.size:=by omega
 clear h bx h1 B0
 go_enter Tryz.func52,Tryz.ntmps52
 go_wp2_with fail
 refine(wa _).mono ?_
 rintro x w' ⟨rfl,rfl⟩
 go_wp2_with fail
 refine(wp _).mono ?_
 rintro x w' ⟨rfl,rfl⟩
 go_wp2_with fail
 refine(w0 _).mono ?_
 rintro x w' ⟨rfl,rfl⟩
 go_wp2_with fail
 refine(w0 _).mono ?_
 rintro x w' ⟨rfl,rfl⟩
 go_upto_region 19 with fail
 go_quiet (first |(go_at_call 51;exact Calls.quiet_of_same (wz _)))
 generalize hWD:w'.drewN _=WD at*
 have HQ:Hid (QAt WD.drew b lo R M S):=by rw[<-hWD];exact Hh1.out.of_block λ_ _=>rfl
 have HB:Hid (But b w WD.drew):=by rw[<-hWD];exact(below_but (below_dN HB0.out _)).drew
 have HX:Hid (At WD.drew w.heap.size 58 [.int .i64 12,.int .i64 (a:Int),.int .i64 (p:Int),.int .i64 0,.int .i64 0]):=by rw[<-hWD];exact Hbx.out.of_block rfl
 have d1:WD.cell? ⟨w.heap.size,1,none⟩=some (.int .i64 (a:Int)):=by rw[<-hWD];exact k1
 have d2:WD.cell? ⟨w.heap.size,2,none⟩=some (.int .i64 (p:Int)):=by rw[<-hWD];exact k2
 have dz:WD.cell? ⟨b,a,none⟩=some (.int .i64 (z:Int)):=by rw[<-hWD];exact cz
 have hlW:lo<=WD.heap.size:=by rw[<-hWD];exact hl0
 have lbW:w.heap.size<WD.heap.size:=by rw[<-hWD];exact lbx
 have lb:b<WD.heap.size:=by rw[<-hWD];exact bl1
 obtain⟨sa5,sc5,cS,fS,aS,oS,nbs5⟩:=HQ.out.ready
 have cS':WD.cell? ⟨b,264,none⟩=some (.slice sa5 S.length sc5):=cS
 have HaS5:=hide aS
 have HoS5:=hide oS
 have nkb:¬(Value.slice sa5 S.length sc5).ownBlock=some w.heap.size:=λe=>by
  obtain⟨_,_,k9⟩:=own_kind oS e
  obtain⟨_,_,k8⟩:=at_kind HX.out
  exact kind_ne k9 k8 (by decide) rfl
 generalize w.heap.size=BX at*
 clear hWD cS fS aS oS Hh1 HB0 Hbx k0 k1 k2 k3 k4 cz wa wp w0 wz
 go_upto_region 21 with fail
 go_cut []from 114 to 129 (λwr=>QAt wr b lo R M (S++[(z:Int)])/\(∀a:World,a.heap.size=lo->But b a w->But b a wr)/\At wr BX 58 [.int .i64 12,.int .i64 (a:Int),.int .i64 (p:Int),.int .i64 0,.int .i64 0])
 case first=>
  go_region_law (refine step_append_row1 rfl (.tmp 118) (.tmp 126) 32 rfl 3 j0 (.int .i64 0) 1 8 Tryz.underlying32 ji jz0 jz1 jz2 rfl (by decide) (.slice sa5 S.length sc5) S.length (ints S) rfl (by exact World.ownsRow.alloc (Joins.ownsRow_le HoS5.out (Nat.zero_le _)) _) ⟨WD.heap.size,0,none⟩ 1 1 [.int .i64 (z:Int)] rfl rfl (by exact row_new WD.drew [.int .i64 (z:Int)] _) (by intro u hu;simp only[List.mem_cons,List.not_mem_nil,or_false]at hu;subst hu;rfl) (few_le (by omega)) (by omega) (by decide) ?_;intro gg5 cap5 w5 hrow5 hgr5 hkk5;have aW5:=(HaS5.out.alloc (.cells #[.int .i64 (z:Int)] 3 (0,0))).of_block (hgr5.block b (by show b<(World.alloc _ _).heap.size;rw[size_alloc];have:=HaS5.out.lt;omega) (λe=>nbs5 e.symm));have cw5:=(aW5.cell 264).trans mc_seen;have fw5:=aW5.frozen 264;have HR5:=hide hrow5;have HGr5:=hide hgr5;have HKk5:=hide hkk5;clear aW5 hrow5 hgr5 hkk5)
  all_goals
   go_wp2_with fail
   go_meet
   case rel=>
    obtain⟨hm5,kp5,bt5⟩:=QAt.grown (T:=[(z:Int)]) (n:=1) rfl HQ.out hlW HaS5.out HoS5.out (λq hq=>heap_alloc_old _ _ _ hq) (by rw[size_alloc];exact Nat.le_succ _) rfl rfl rfl HR5.out HGr5.out HKk5.out
    exact⟨hm5,λa ha B=>bt5 a ha (B.trans HB.out),HX.out.of_block (kp5 BX lbW (λe=>hbx e.symm) nkb)⟩
 case rest=>
  as_aux_lemma=>
  obtain⟨hm5,B5,bx5⟩:=hcut
  obtain⟨W5,rfl⟩:∃W5:World,W5=wc:=⟨_,rfl⟩
  have x1:=bx5.cell 1
  have x2:=bx5.cell 2
  simp only[List.getElem?_cons_zero,List.getElem?_cons_succ]at x1 x2
  have lb5:=hm5.lt
  have lbx5:=bx5.lt
  have HM5:=hide (hm5.of_block (w':=W5.drew) λ_ _=>rfl)
  have HB5:=hide B5
  obtain⟨y1,_⟩:=hm5.reg ha
  rw[hz]at y1
  obtain⟨y2,_⟩:=hm5.reg hp
  obtain⟨y3,y4⟩:=hm5.mem hz8
  clear hm5 B5 bx5 HoS5 HaS5 d1 d2 dz cS'
  go_upto_region 22 with fail
  refine wp_region_still_tail 18 (by kernel_rfl) (by kernel_rfl) ?_
  simp only[List.take_succ_cons,List.take_zero,List.drop_succ_cons,List.drop_zero]
  iterate 18 still_step
  refine wpStill_nil ?_
  change wpList _ _ _ _ _ (World.drew W5)
  go_wp2_with fail
  go_ret
  exact⟨rfl,HM5.out.setM hz8 _,λa' ha' B=>(HB5.out a' ha' B).drew.set (8+z) _⟩
end Y
end Go.Proofs.YtejbgcloblpbfaaGreatDoor
