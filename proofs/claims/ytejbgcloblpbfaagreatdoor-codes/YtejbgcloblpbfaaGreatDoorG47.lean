import Derived.Test.YtejbgcloblpbfaaGreatDoorG46
import Derived.Test.YtejbgcloblpbfaaGreatDoorG31
set_option maxHeartbeats 16000000
set_option maxRecDepth 100000
namespace Go.Proofs.YtejbgcloblpbfaaGreatDoor
open Go.RowKit
open K (Nm Ex Do)
namespace Y
theorem one_div{w:World}{b lo:Nat}{R M:Nat->Int}{S:List Int}(h:QAt w b lo R M S){a p q:Nat}(ha:a<8)(hp:p<8)(hq:q<8)(hl:lo<=w.heap.size)(hS:S.length<=400000):
 Calls Tryz.prog 52 #[PT b,.agg #[.int .i64 9,.int .i64 (a:Int),.int .i64 (p:Int),.int .i64 (q:Int),.int .i64 0]] w λx w'=>x=.returned (.bool true)/\QAt w' b lo (upd R a (if R q=0 then 0 else wrap64 ((R p).tdiv (R q)))) M (S++[R p,R q])/\(∀a:World,a.heap.size=lo->But b a w->But b a w'):=by
 have a8:(a:Int)<8:=by omega
 have wa:=λw=>within_yes (k:=a) (n:=8) a8 w
 have p8:(p:Int)<8:=by omega
 have wp:=λw=>within_yes (k:=p) (n:=8) p8 w
 have q8:(q:Int)<8:=by omega
 have wq:=λw=>within_yes (k:=q) (n:=8) q8 w
 have w0:=λw=>within_yes (k:=0) (n:=8) (by decide) w
 obtain⟨j0,ji,jz0,jz1,jz2⟩:=info_parts info_int
 have bl:=h.lt
 have B0:Below w.heap.size w (w.alloc (.cells #[.int .i64 9,.int .i64 (a:Int),.int .i64 (p:Int),.int .i64 (q:Int),.int .i64 0] 58 (0,0))):=(Below.refl _ _).alloc (Nat.le_refl _) _
 have bx:=At.alloc_new w [.int .i64 9,.int .i64 (a:Int),.int .i64 (p:Int),.int .i64 (q:Int),.int .i64 0] 58
 have h1:=h.of_block (w':=w.alloc (.cells #[.int .i64 9,.int .i64 (a:Int),.int .i64 (p:Int),.int .i64 (q:Int),.int .i64 0] 58 (0,0))) λk hk=>B0.block k hk
 have k0:=bx.cell 0
 have k1:=bx.cell 1
 have k2:=bx.cell 2
 have k3:=bx.cell 3
 have k4:=bx.cell 4
 simp only[List.getElem?_cons_zero,List.getElem?_cons_succ]at k0 k1 k2 k3 k4
 have hlo:=h.lo
 generalize hW:w.alloc (.cells #[.int .i64 9,.int .i64 (a:Int),.int .i64 (p:Int),.int .i64 (q:Int),.int .i64 0] 58 (0,0))=W0 at*
 obtain⟨cp,_⟩:=h1.reg hp
 obtain⟨cq,_⟩:=h1.reg hq
 have hqu:=λw=>rquot_c (R p) (R q) w
 have hl0:lo<=W0.heap.size:=Nat.le_trans hl B0.size
 have Hh1:=hide h1
 have bl1:=h1.lt
 have HB0:=hide B0
 have Hbx:=hide bx
 have lbx:=bx.lt
 have hbx:b≠w.heap.size:=by omega
 obtain⟨px,hpx⟩:∃px,R p=px:=⟨_,rfl⟩
 obtain⟨py,hpy⟩:∃py,R q=py:=⟨_,rfl⟩
 rw[hpx]at cp
 rw[hpy]at cq
 rw[hpx,hpy]at hqu ⊢
 generalize(if py=0 then 0 else wrap64 (px.tdiv py))=vv at*
 clear h bx h1 B0 hpx hpy
 go_enter Tryz.func52,Tryz.ntmps52
 go_wp2_with fail
 refine(wa _).mono ?_
 rintro x w' ⟨rfl,rfl⟩
 go_wp2_with fail
 refine(wp _).mono ?_
 rintro x w' ⟨rfl,rfl⟩
 go_wp2_with fail
 refine(wq _).mono ?_
 rintro x w' ⟨rfl,rfl⟩
 go_wp2_with fail
 refine(w0 _).mono ?_
 rintro x w' ⟨rfl,rfl⟩
 go_upto_region 32 with fail
 go_quiet (fail)
 go_upto_region 33 with fail
 go_quiet (fail)
 generalize hWD:(w'.drewN _).drewN _=WD at*
 have HQ:Hid (QAt WD b lo R M S):=by rw[<-hWD];exact Hh1.out.of_block λ_ _=>rfl
 have HB:Hid (But b w WD):=by rw[<-hWD];exact below_but (below_dN (below_dN HB0.out _) _)
 have HX:Hid (At WD w.heap.size 58 [.int .i64 9,.int .i64 (a:Int),.int .i64 (p:Int),.int .i64 (q:Int),.int .i64 0]):=by rw[<-hWD];exact Hbx.out.of_block rfl
 have d0:WD.cell? ⟨w.heap.size,0,none⟩=some (.int .i64 9):=by rw[<-hWD];exact k0
 have hlW:lo<=WD.heap.size:=by rw[<-hWD];exact hl0
 have lbW:w.heap.size<WD.heap.size:=by rw[<-hWD];exact lbx
 have lb:b<WD.heap.size:=by rw[<-hWD];exact bl1
 obtain⟨sa5,sc5,cS,fS,aS,oS,nbs5⟩:=HQ.out.ready
 have HaS5:=hide aS
 have HoS5:=hide oS
 have nkb:¬(Value.slice sa5 S.length sc5).ownBlock=some w.heap.size:=λe=>by
  obtain⟨_,_,k9⟩:=own_kind oS e
  obtain⟨_,_,k8⟩:=at_kind HX.out
  exact kind_ne k9 k8 (by decide) rfl
 generalize w.heap.size=BX at*
 clear hWD fS aS oS Hh1 HB0 Hbx k0 k1 k2 k3 k4 cp cq wa wp wq w0
 go_upto_region 51 with(at_builtin;refine wpList_append_row1 _ rfl _ _ 32 rfl 3 j0 (.int .i64 0) 1 8 Tryz.underlying32 ji jz0 jz1 jz2 rfl (by decide) _ S.length (ints S) rfl (by exact World.ownsRow.alloc (Joins.ownsRow_le HoS5.out (Nat.zero_le _)) _) ⟨WD.heap.size,0,none⟩ 2 2 [.int .i64 px,.int .i64 py] rfl rfl (by exact row_new WD [.int .i64 px,.int .i64 py] _) (by intro u hu;simp only[List.mem_cons,List.not_mem_nil,or_false]at hu;rcases hu with rfl |rfl<;>rfl) (few_le (by omega)) (by omega) (by decide) ?_;intro gg5 cap5 w5 hrow5 hgr5 hkk5;have aW5:=(HaS5.out.alloc (.cells #[.int .i64 px,.int .i64 py] 3 (0,0))).of_block (hgr5.block b (by show b<(World.alloc _ _).heap.size;rw[size_alloc];have:=HaS5.out.lt;omega) (λe=>nbs5 e.symm));have cw5:=(aW5.cell 264).trans mc_seen;have fw5:=aW5.frozen 264;have HR5:=hide hrow5;have HGr5:=hide hgr5;have HKk5:=hide hkk5;clear aW5 hrow5 hgr5 hkk5)
 obtain⟨hm5,kp5,bt5⟩:=QAt.grown (T:=[px,py]) (n:=2) rfl HQ.out hlW HaS5.out HoS5.out (λq hq=>heap_alloc_old _ _ _ hq) (by rw[size_alloc];exact Nat.le_succ _) rfl rfl rfl HR5.out HGr5.out HKk5.out
 have bx5:=HX.out.of_block (kp5 BX lbW (λe=>hbx e.symm) nkb)
 generalize w5.setCell ⟨b,264,none⟩ _=W5 at*
 have x1:=bx5.cell 1
 simp only[List.getElem?_cons_zero,List.getElem?_cons_succ]at x1
 have lb5:=hm5.lt
 have lbx5:=bx5.lt
 have HM5:=hide (hm5.of_block (w':=W5.drew) λ_ _=>rfl)
 have HB5:Hid (∀a:World,a.heap.size=lo->But b a w->But b a W5.drew):=λa ha B=>(bt5 a ha (B.trans HB.out)).drew
 obtain⟨y3,y4⟩:=hm5.reg ha
 clear hm5 kp5 bt5 bx5 HR5 HGr5 HKk5 HoS5 HaS5 HX HQ HB cw5 fw5 cS
 refine wp_region_still_tail 9 (by kernel_rfl) (by kernel_rfl) ?_
 simp only[List.take_succ_cons,List.take_zero,List.drop_succ_cons,List.drop_zero]
 iterate 5 still_step
 still_call (hqu _)
 iterate 3 still_step
 refine wpStill_nil ?_
 change wpList _ _ _ _ _ (World.drew W5)
 go_wp2_with fail
 go_ret
 exact⟨rfl,HM5.out.setR ha _,λa' ha' B=>(HB5.out a' ha' B).set a _⟩
theorem opn_of{o:UInt8}(ho:V.isOp o=true)(h47:¬o=47):o=43/\opn o=2∨o=45/\opn o=3∨o=42/\opn o=4∨o=38/\opn o=5∨o=94/\opn o=6∨o=60/\opn o=7∨o=61/\opn o=8:=by
 unfold V.isOp at ho
 simp only[Bool.or_eq_true,beq_iff_eq]at ho
 rcases ho with((((((rfl |rfl)|rfl)|rfl)|rfl)|rfl)|rfl)|rfl
 all_goals first |exact absurd rfl h47 |decide
theorem one_c{w:World}{b lo:Nat}{s s':Ma}{S:List Int}(h:QAt w b lo s.R s.M S)(hl:lo<=w.heap.size)(hS:S.length<=400000)(hse:S=s.seen++[(s.pc:Int)])(i:Ins)(ho:okI i)(hs:step i s=some s')(hj:(∀d,¬i=.jmp d)/\∀p d,¬i=.jz p d){n0 n1 n2 n3 n4:Int}(hi:inN i=[n0,n1,n2,n3,n4]):
 Calls Tryz.prog 52 #[PT b,.agg #[.int .i64 n0,.int .i64 n1,.int .i64 n2,.int .i64 n3,.int .i64 n4]] w λx w'=>x=.returned (.bool true)/\QAt w' b lo s'.R s'.M s'.seen/\∀a:World,a.heap.size=lo->But b a w->But b a w':=by
 have tr:∀{w':World},But b w w'->∀a:World,a.heap.size=lo->But b a w->But b a w':=λB a _ k=>k.trans B
 cases i with
 |kst a v=>
  simp only[inN,List.cons.injEq,and_true]at hi
  obtain⟨rfl,rfl,rfl,rfl,rfl⟩:=hi
  simp only[step]at hs
  split at hs
  · rename_i hc
    cases hs
    subst hse
    exact(one_kst h hc v).mono λx w' ⟨h1,h2,h3⟩=>⟨h1,h2,tr h3⟩
  · cases hs
 |bin o a p q=>
  simp only[inN,List.cons.injEq,and_true]at hi
  obtain⟨rfl,rfl,rfl,rfl,rfl⟩:=hi
  simp only[step]at hs
  split at hs
  · rename_i hc
    cases hs
    by_cases h47:o=47
    · subst h47
      exact(one_div h hc.1 hc.2.1 hc.2.2 hl hS).mono λx w' ⟨h1,h2,h3⟩=>⟨h1,by rw[hse,List.append_assoc]at h2;exact h2,h3⟩
    · have HO:=hide (opn_of ho h47)
      have hv:2<=opn o/\opn o<=8:=by
       rcases HO.out with⟨_,h⟩|⟨_,h⟩|⟨_,h⟩|⟨_,h⟩|⟨_,h⟩|⟨_,h⟩|⟨_,h⟩<;>rw[h]<;>decide
      subst hse
      rw[if_neg h47]
      exact(one_bin h hc.1 hc.2.1 hc.2.2 HO hv).mono λx w' ⟨h1,h2,h3⟩=>⟨h1,h2,tr h3⟩
  · cases hs
 |sel a p q d=>
  simp only[inN,List.cons.injEq,and_true]at hi
  obtain⟨rfl,rfl,rfl,rfl,rfl⟩:=hi
  simp only[step]at hs
  split at hs
  · rename_i hc
    cases hs
    subst hse
    by_cases h0:s.R q=0
    · rw[if_pos h0]
      exact(one_sel0 h hc.1 hc.2.1 hc.2.2.1 hc.2.2.2 h0).mono λx w' ⟨h1,h2,h3⟩=>⟨h1,h2,tr h3⟩
    · rw[if_neg h0]
      exact(one_sel1 h hc.1 hc.2.1 hc.2.2.1 hc.2.2.2 h0).mono λx w' ⟨h1,h2,h3⟩=>⟨h1,h2,tr h3⟩
  · cases hs
 |ld a p=>
  simp only[inN,List.cons.injEq,and_true]at hi
  obtain⟨rfl,rfl,rfl,rfl,rfl⟩:=hi
  simp only[step]at hs
  split at hs
  · rename_i hc
    cases hs
    obtain⟨z,hz⟩:=Int.eq_ofNat_of_zero_le hc.2.2.1
    exact(one_ld h hc.1 hc.2.1 hz (by have:=hc.2.2.2;omega) hl hS).mono λx w' ⟨h1,h2,h3⟩=>⟨h1,by rw[hse,List.append_assoc]at h2;rw[hz];exact h2,h3⟩
  · cases hs
 |st a p=>
  simp only[inN,List.cons.injEq,and_true]at hi
  obtain⟨rfl,rfl,rfl,rfl,rfl⟩:=hi
  simp only[step]at hs
  split at hs
  · rename_i hc
    cases hs
    obtain⟨z,hz⟩:=Int.eq_ofNat_of_zero_le hc.2.2.1
    exact(one_st h hc.1 hc.2.1 hz (by have:=hc.2.2.2;omega) hl hS).mono λx w' ⟨h1,h2,h3⟩=>⟨h1,by rw[hse,List.append_assoc]at h2;rw[hz];exact h2,h3⟩
  · cases hs
 |jmp d=>exact absurd rfl (hj.1 d)
 |jz p d=>exact absurd rfl (hj.2 p d)
 |halt=>simp[step]at hs
theorem inN_ne{i:Ins}(ho:okI i)(hh:¬i=.halt)(hj:(∀d,¬i=.jmp d)/\∀p d,¬i=.jz p d){n0 n1 n2 n3 n4:Int}(hi:inN i=[n0,n1,n2,n3,n4]):¬n0=15/\¬n0=13/\¬n0=14:=by
 cases i with
 |bin o a p q=>
  simp only[inN,List.cons.injEq,and_true]at hi
  obtain⟨rfl,_⟩:=hi
  have ho':V.isOp o=true:=ho
  unfold V.isOp at ho'
  simp only[Bool.or_eq_true,beq_iff_eq]at ho'
  rcases ho' with((((((rfl |rfl)|rfl)|rfl)|rfl)|rfl)|rfl)|rfl<;>decide
 |jmp d=>exact absurd rfl (hj.1 d)
 |jz p d=>exact absurd rfl (hj.2 p d)
 |halt=>exact absurd rfl hh
 |_=>
  simp only[inN,List.cons.injEq,and_true]at hi
  obtain⟨rfl,_⟩:=hi
  decide
theorem rplay_c{w:World}{b:Nat}{C:List Ins}{ca:Option Addr}{cc:Nat}{ms:List Int}{aM:Option Addr}(cM:Nat)(mach:At w b 65 (mcells (λ_=>0) (λ_=>0) (.slice none 0 0)))(code:w.ownsRow 0 58 5 (.slice ca C.length cc) C.length (C.flatMap inV))(mem:∀(j:Nat) u,ms[j]?=some u->∃gm o,aM=some ⟨gm,o,none⟩/\gm<w.heap.size/\gm≠b/\w.cell? ⟨gm,o+j,none⟩=some (.int .i64 u))(few:ms.length<=200)(lim:C.length<=100000)(ok:okl C){n:Nat}{sF:Ma}(hn:n<100000)(hg:go C n ⟨0,λ_=>0,λj=>ms.getD j 0,[]⟩=some sF)(hh:C[sF.pc]?=some .halt):
 Calls Tryz.prog 30 #[PT b,.slice ca C.length cc,.slice aM ms.length cM] w λx w'=>x=.returned (.bool true)/\QAt w' b w.heap.size sF.R sF.M (sF.seen++[(sF.pc:Int)])/\But b w w':=by
 have bl:=mach.lt
 have HM:=hide mem
 have HC:=hide code
 have HO:=hide ok
 have HGB:Hid (∀g,(Value.slice ca C.length cc).ownBlock=some g->g≠b):=λg e=>by
  obtain⟨_,_,k1⟩:=own_kind code e
  obtain⟨_,_,k2⟩:=at_kind mach
  exact kind_ne k1 k2 (by decide)
 have h0:QAt w b w.heap.size (λ_=>0) (M0 ms 0) []:=by
  have e:M0 ms 0=λ_=>0:=by funext j;unfold M0;rw[if_neg (by omega)]
  rw[e]
  exact⟨⟨.slice none 0 0,mach,⟨rfl,Or.inl ⟨rfl,rfl⟩⟩⟩,bl⟩
 have HG:=hide hg
 have HH:=hide hh
 clear mach code mem ok hg hh
 go_enter Tryz.func30,Tryz.ntmps30
 go_wp2_with fail
 go_loopg [7] ms.length (λgk i wr=>∃k:Nat,k+gk=ms.length/\i=.int .i64 (k:Int)/\QAt wr b w.heap.size (λ_=>0) (M0 ms k) []/\But b w wr)
 case atStart=>exact⟨0,by omega,rfl,h0,But.refl _ _⟩
 case round=>
  obtain⟨k,hk,rfl,hr,Bk⟩:=hrel
  cases gk with
  |succ g1=>
   have hz:(k:Int)<(ms.length:Int):=by omega
   have hz2:(k:Int)<256:=by omega
   obtain⟨u,hu⟩:∃u,ms[k]?=some u:=⟨_,List.getElem?_eq_getElem (by omega)⟩
   obtain⟨gm,o,rfl,hgm,hgb,hcm⟩:=HM.out k u hu
   have vm:=(World.cell?_of_block (a:=⟨gm,o+k,none⟩) (Bk.block gm hgm hgb)).trans hcm
   obtain⟨cm,fm⟩:=hr.mem (a:=k) (by omega)
   have hs:=(hr.of_block (w':=wr.drew) λ_ _=>rfl).setM (a:=k) (by omega) u
   have eu:ms.getD k 0=u:=by rw[List.getD_eq_getElem?_getD,hu];rfl
   have hs':=hs
   rw[<-eu,M0_succ,eu]at hs'
   have HS:=hide hs'
   have rl:=hr.lt
   generalize M0 ms k k=mk at*
   clear hs hs' hr hu hcm eu
   go_upto_region 4 with fail
   refine wp_region_still_tail 9 (by kernel_rfl) (by kernel_rfl) ?_
   simp only[List.take_succ_cons,List.take_zero,List.drop_succ_cons,List.drop_zero]
   iterate 9 still_step
   refine wpStill_nil ?_
   change wpList _ _ _ _ _ (World.drew wr)
   go_wp2_with fail
   go_roundg g1
   case measure=>omega
   case rel=>exact⟨k+1,by omega,by go_num,HS.out,(Bk.drew).set _ _⟩
  |zero=>
   have hkk:k=ms.length:=by omega
   subst hkk
   rw[M0_all]at hr
   have hz:¬(ms.length:Int)<(ms.length:Int):=by omega
   have HR:=hide hr
   clear hr h0 HM hk
   go_wp2_with fail
   go_loopg [8,9] (n+1) (λgk pc i wq=>∃(k:Nat) (s:Ma),k+gk=n+1/\1<=gk/\i=.int .i64 (k:Int)/\pc=.int .i64 (s.pc:Int)/\Hid (go C (gk-1) s=some sF)/\QAt wq b w.heap.size s.R s.M s.seen/\But b w wq/\s.seen.length<=3*k)
   case atStart=>exact⟨0,_,by omega,by omega,rfl,rfl,HG.out,HR.out,Bk,Nat.zero_le _⟩
   case round=>
    obtain⟨k,s,hk,hg1,rfl,rfl,HGo,hr,Bq,hse⟩:=hrel
    obtain⟨m,rfl⟩:∃m,gk=m+1:=⟨gk-1,by omega⟩
    rw[Nat.add_sub_cancel]at HGo
    obtain⟨i,hi,hst⟩:∃i,C[s.pc]?=some i/\Hid ((∃s1 m',m=m'+1/\step i s=some s1/\go C m' s1=some sF)∨(m=0/\i=.halt/\s=sF)):=by
     cases m with
     |zero=>
      have e:=go_zero HGo.out
      exact⟨.halt,by rw[e];exact HH.out,Or.inr ⟨rfl,rfl,e⟩⟩
     |succ m'=>
      obtain⟨i,s1,h1,h2,h3⟩:=go_succ HGo.out
      exact⟨i,h1,Or.inl ⟨s1,m',rfl,h2,h3⟩⟩
    have hpl:s.pc<C.length:=(List.getElem?_eq_some_iff.1 hi).1
    have hoi:=hide (HO.out i (List.mem_of_getElem? hi))
    obtain⟨n0,n1,n2,n3,n4,hin⟩:=inN_form i
    obtain⟨g,rfl⟩:∃g,ca=some ⟨g,0,none⟩:=by
     rcases Joins.ownsRow_forms HC.out with⟨_,h9⟩|⟨g,_,h9⟩
     · omega
     · cases h9;exact⟨g,rfl⟩
    have hgl:=(HC.out.lt g rfl).2
    have gne:=HGB.out g rfl
    obtain⟨q0,q1,q2,q3,q4⟩:=code_cell HC.out hi hin
    have eg:=Bq.block g hgl gne
    have zq:=Bq.size
    have c0:=(World.cell?_of_block (a:=⟨g,5*s.pc,none⟩) eg).trans q0
    have c1:=(World.cell?_of_block (a:=⟨g,5*s.pc+1,none⟩) eg).trans q1
    have c2:=(World.cell?_of_block (a:=⟨g,5*s.pc+2,none⟩) eg).trans q2
    have c3:=(World.cell?_of_block (a:=⟨g,5*s.pc+3,none⟩) eg).trans q3
    have c4:=(World.cell?_of_block (a:=⟨g,5*s.pc+4,none⟩) eg).trans q4
    have e5:s.pc*5=5*s.pc:=by omega
    have lk:(k:Int)<1000000:=by omega
    have lp:¬(s.pc:Int)≥(C.length:Int):=by omega
    have lp2:(s.pc:Int)<(C.length:Int):=by omega
    have lp0:¬(s.pc:Int)<0:=by omega
    obtain⟨W1,hW1⟩:∃W1,wr.alloc (.cells #[.int .i64 n0,.int .i64 n1,.int .i64 n2,.int .i64 n3,.int .i64 n4] 58 (0,0))=W1:=⟨_,rfl⟩
    have bx1:At W1 wr.heap.size 58 [.int .i64 n0,.int .i64 n1,.int .i64 n2,.int .i64 n3,.int .i64 n4]:=by rw[<-hW1];exact At.alloc_new wr _ _
    have BA:Below wr.heap.size wr W1:=by rw[<-hW1];exact(Below.refl _ _).alloc (Nat.le_refl _) _
    have hr1:=hr.of_block (w':=W1) λq hq=>BA.block q hq
    obtain⟨sa,sc,cs,fs,aS,oS,nbs⟩:=hr1.ready
    obtain⟨j0,ji,jz0,jz1,jz2⟩:=info_parts info_int
    have hb1:=hr1.lt
    have hse2:s.seen.length<=400000:=by omega
    have zw:w.heap.size<=W1.heap.size:=by have:=BA.size;omega
    have lbx1:=bx1.lt
    have nkb:¬(Value.slice sa s.seen.length sc).ownBlock=some wr.heap.size:=λe=>by
     obtain⟨_,_,k9⟩:=own_kind oS e
     obtain⟨_,_,k8⟩:=at_kind bx1
     exact kind_ne k9 k8 (by decide) rfl
    have hbx:b≠wr.heap.size:=by have:=hr.lt;omega
    have HQ1:=hide hr1
    have HaS:=hide aS
    have HoS:=hide oS
    have HB1:=hide (Bq.trans (below_but BA))
    have HX1:=hide bx1
    clear aS oS hr1 hr Bq BA bx1 eg q0 q1 q2 q3 q4 HGo
    go_upto_region 13 with(at_builtin;refine wpList_append_row1 _ rfl _ _ 32 rfl 3 j0 (.int .i64 0) 1 8 Tryz.underlying32 ji jz0 jz1 jz2 rfl (by decide) _ s.seen.length (ints s.seen) rfl (by exact World.ownsRow.alloc (Joins.ownsRow_le HoS.out (Nat.zero_le _)) _) ⟨W1.heap.size,0,none⟩ 1 1 [.int .i64 (s.pc:Int)] rfl rfl (by exact row_new W1 [.int .i64 (s.pc:Int)] _) (by intro u hu;simp only[List.mem_singleton]at hu;subst hu;rfl) (few_le (by omega)) (by omega) Nat.one_pos ?_;intro gg cap3 w3 hrow hgr hkk;have aW3:=(HaS.out.alloc (.cells #[.int .i64 (s.pc:Int)] 3 (0,0))).of_block (hgr.block b (by show b<(World.alloc _ _).heap.size;rw[size_alloc];omega) (λe=>nbs e.symm));have cw:=(aW3.cell 264).trans mc_seen;have fw:=aW3.frozen 264;have HR3:=hide hrow;have HGr:=hide hgr;have HKk:=hide hkk;clear aW3 hrow hgr hkk)
    obtain⟨hm,kp,bt⟩:=QAt.grown (T:=[(s.pc:Int)]) (n:=1) rfl HQ1.out zw HaS.out HoS.out (λq hq=>heap_alloc_old _ _ _ hq) (by rw[size_alloc];exact Nat.le_succ _) rfl rfl rfl HR3.out HGr.out HKk.out
    have bx4:=HX1.out.of_block (kp wr.heap.size lbx1 (λe=>hbx e.symm) nkb)
    have B4:=bt w rfl HB1.out
    clear kp bt HR3 HGr HKk HaS HoS HQ1 HX1 HB1 cw fw cs fs c0 c1 c2 c3 c4 hW1
    generalize w3.setCell ⟨b,264,none⟩ _=W4 at*
    generalize wr.heap.size=BX at*
    have k0:=bx4.cell 0
    have k1:=bx4.cell 1
    have k2:=bx4.cell 2
    have k3:=bx4.cell 3
    have k4:=bx4.cell 4
    simp only[List.getElem?_cons_zero,List.getElem?_cons_succ]at k0 k1 k2 k3 k4
    have lbx:=bx4.lt
    have lb4:=hm.lt
    have lo4:=B4.size
    obtain⟨epc,epc2⟩:=pc_next (n:=s.pc) (by omega)
    obtain⟨ekk,ekk2⟩:=pc_next (n:=k) (by omega)
    have Hm:=hide hm
    have HB4:=hide B4
    have Hhse:=hide hse
    have Hn:=hide hin
    have hkn:Hid (k+(m+1)=n+1):=hk
    clear hm B4 bx4 hse hk zw hpl lp lp2 lp0 lk e5 hin hi
    by_cases ih:i=.halt
    · as_aux_lemma=>
      subst ih
      have hn':=Hn.out
      simp only[inN,List.cons.injEq,and_true]at hn'
      obtain⟨rfl,rfl,rfl,rfl,rfl⟩:=hn'
      have hs:s=sF:=by
       rcases hst.out with⟨s1,_,_,h,_⟩|h
       · simp[step]at h
       · exact h.2.2
      clear Hn hst
      go_wp2_with fail
      go_ret
      subst hs
      exact⟨rfl,Hm.out,HB4.out⟩
    · obtain⟨s1,m',rfl,hs,hgo⟩:=hst.out.resolve_right (λh=>ih h.2.1)
      have HGO:=hide hgo
      have HST:=hide hs
      clear hgo hs hst
      by_cases ij:∃d,i=.jmp d
      · as_aux_lemma=>
        obtain⟨d,rfl⟩:=ij
        have hn':=Hn.out
        simp only[inN,List.cons.injEq,and_true]at hn'
        obtain⟨rfl,rfl,rfl,rfl,rfl⟩:=hn'
        have hs:=HST.out
        simp only[step,Option.some.injEq]at hs
        subst hs
        clear Hn HST
        go_wp2_with fail
        go_roundg (m'+1)
        case measure=>omega
        case rel=>exact⟨k+1,_,rounds1 hkn.out,Nat.succ_le_succ (Nat.zero_le _),by first |rfl |go_num,rfl,HGO.out,Hm.out,HB4.out,seen1 Hhse.out⟩
      · by_cases iz:∃p d,i=.jz p d
        · as_aux_lemma=>
          obtain⟨p,d,rfl⟩:=iz
          have hn':=Hn.out
          simp only[inN,List.cons.injEq,and_true]at hn'
          obtain⟨rfl,rfl,rfl,rfl,rfl⟩:=hn'
          have hs:=HST.out
          simp only[step]at hs
          split at hs
          · rename_i hc
            cases hs
            have p8:=lt8 hc
            have wp:=within_yes (k:=p) (n:=8) p8 W4
            obtain⟨cp,_⟩:=Hm.out.reg hc
            clear Hn HST
            by_cases h0:s.R p=0
            · rw[h0]at cp
              rw[if_pos h0]at HGO
              go_wp2_with fail
              refine wp.mono ?_
              rintro x w' ⟨rfl,rfl⟩
              go_upto_region 26 with fail
              go_quiet (fail)
              generalize hWD:w'.drewN _=WD at*
              have d4:WD.cell? ⟨BX,4,none⟩=some (.int .i64 (d:Int)):=by rw[<-hWD];exact k4
              have HQ:Hid (QAt WD b w.heap.size s.R s.M (s.seen++[(s.pc:Int)])):=by rw[<-hWD];exact Hm.out.of_block λ_ _=>rfl
              have HB:Hid (But b w WD):=by rw[<-hWD];exact HB4.out.trans (below_but (below_dN (Below.refl _ _) _))
              have lbW:BX<WD.heap.size:=by rw[<-hWD];exact lbx
              go_wp2_with fail
              go_roundg (m'+1)
              case measure=>omega
              case rel=>exact⟨k+1,_,rounds1 hkn.out,Nat.succ_le_succ (Nat.zero_le _),by first |rfl |go_num,rfl,HGO.out,HQ.out,HB.out,seen1 Hhse.out⟩
            · rw[if_neg h0]at HGO
              generalize hrp:s.R p=rp at*
              go_wp2_with fail
              refine wp.mono ?_
              rintro x w' ⟨rfl,rfl⟩
              go_upto_region 26 with fail
              go_quiet (fail)
              generalize hWD:w'.drewN _=WD at*
              have HQ:Hid (QAt WD b w.heap.size s.R s.M (s.seen++[(s.pc:Int)])):=by rw[<-hWD];exact Hm.out.of_block λ_ _=>rfl
              have HB:Hid (But b w WD):=by rw[<-hWD];exact HB4.out.trans (below_but (below_dN (Below.refl _ _) _))
              go_wp2_with fail
              go_roundg (m'+1)
              case measure=>omega
              case rel=>exact⟨k+1,_,rounds1 hkn.out,Nat.succ_le_succ (Nat.zero_le _),by first |rfl |go_num,by first |rfl |go_num,HGO.out,HQ.out,HB.out,seen1 Hhse.out⟩
          · cases hs
        · as_aux_lemma=>
          have hj:(∀d,¬i=.jmp d)/\∀p d,¬i=.jz p d:=⟨λd e=>ij ⟨d,e⟩,λp d e=>iz ⟨p,d,e⟩⟩
          obtain⟨x1,x2,x3⟩:=inN_ne hoi.out ih hj Hn.out
          have ho:=one_c Hm.out lo4 (by rw[List.length_append];simp;have:=Hhse.out;have:=hkn.out;omega) rfl i hoi.out HST.out hj Hn.out
          have hseN:=step_seen HST.out
          have hpc:s1.pc=s.pc+1:=by
           have h9:=HST.out
           cases i<;>simp only[step]at h9
           all_goals first |(exact absurd rfl ih)|(exact absurd rfl (hj.1 _))|(exact absurd rfl (hj.2 _ _))|(split at h9<;>first |(cases h9;rfl)|cases h9)
          clear Hn HST hj ih ij iz
          go_wp2_with fail
          refine ho.mono ?_
          rintro x w5 ⟨rfl,hq5,ht5⟩
          have HQ5:=hide hq5
          have HB5:=hide (ht5 w rfl HB4.out)
          clear hq5 ht5 ho
          go_wp2_with fail
          go_roundg (m'+1)
          case measure=>omega
          case rel=>exact⟨k+1,s1,rounds1 hkn.out,Nat.succ_le_succ (Nat.zero_le _),by first |rfl |go_num,by rw[hpc];first |rfl |go_num,HGO.out,HQ5.out,HB5.out,by have:=Hhse.out;omega⟩
end Y
end Go.Proofs.YtejbgcloblpbfaaGreatDoor
