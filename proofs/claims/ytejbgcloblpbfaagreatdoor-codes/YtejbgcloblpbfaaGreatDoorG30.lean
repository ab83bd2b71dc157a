import Derived.Test.YtejbgcloblpbfaaGreatDoorG29
set_option maxHeartbeats 4000000
set_option maxRecDepth 100000
namespace Go.Proofs.YtejbgcloblpbfaaGreatDoor
open Go.RowKit
open K (Nm Ex Do)
namespace Y
theorem dow_for{N:Nat}(p0:Int)(n:Nm)(e:Ex)(l:List Do)(hl:DosW N l):DoW N (.fors p0 n e l):=by
 intro B w p C W K u h hd hB hW hw hn hc hK
 unfold DoIs at hd
 obtain⟨lv,ls,hu,dr,de⟩:=hd
 subst hu
 unfold V.wfD at hw
 obtain⟨w0,w1,we,wl⟩:=hw
 have a1:=ad_For_Set
 have a2:=ad_For_Put
 have a3:=ad_For_If
 have a4:=ad_For_For
 have hn':max (need e) (needD.needL l)+1<=W.length:=hn
 have hK':K.length+(max (need e) (needD.needL l)+1)<=1000:=hK
 have hc':C.length+(cE e+14+5*(cD.cDs l+13))<90000:=hc
 have he:=V.wf_good we
 obtain⟨c,W',rfl⟩:=cons_of (l:=W) (by omega)
 have hlen:(c::W').length=W'.length+1:=rfl
 obtain⟨W0,hW0⟩:∃W0,w.alloc (.cells #[.int .i64 p0,.string n.text,.int .i64 n.kind,.bool n.sec,.int .i64 n.size,.int .i64 n.place,exV e,lv] 186 (0,0))=W0:=⟨_,rfl⟩
 have h0:WAt W0 p C R8 (c::W') K:=by rw[<-hW0];exact h.alloc _
 have F0:Hid (Fk p.lo w W0):=by rw[<-hW0];exact(Fk.refl _ _).alloc _
 have RF:At W0 w.heap.size 186 [.int .i64 p0,.string n.text,.int .i64 n.kind,.bool n.sec,.int .i64 n.size,.int .i64 n.place,exV e,lv]:=by rw[<-hW0];exact At.alloc_new w _ _
 have hkp:∀k,B k->k<w.heap.size->W0.heap[k]?=w.heap[k]?:=λk b1 b2=>F0.out.low k (hB k b1) b2
 have hg:=floop_c p0 n e l he (ew_all e we) hl wl B W0 p C c W' K lv ls h0 (dr.keep hkp) (de.keep hkp) hB hW (by omega) (by omega) hc' (by omega)
 have e1:doC C.length (c::W') K.getLast? (.fors p0 n e l)=(exC R8 W' e).1++(roC (R8.erase (exC R8 W' e).2) (exC R8 W' e).2 c++([.kst 0 0,.kst 1 n.place,.st 1 0]++(hdC n.place c (C.length+(exC R8 W' e).1.length+8+6+(dosC (C.length+(exC R8 W' e).1.length+8+6) W' K.getLast? l).length+7)++(dosC (C.length+(exC R8 W' e).1.length+8+6) W' K.getLast? l++onC n.place (C.length+(exC R8 W' e).1.length+8))))):=by rw[doC];rfl
 rw[<-e1]at hg
 generalize doC C.length (c::W') K.getLast? (.fors p0 n e l)=D at*
 have z0:=RF.cell 0
 have z1:=RF.cell 1
 have z2:=RF.cell 2
 have z3:=RF.cell 3
 have z4:=RF.cell 4
 have z5:=RF.cell 5
 have z6:=RF.cell 6
 have z7:=RF.cell 7
 simp only[List.getElem?_cons_zero,List.getElem?_cons_succ]at z0 z1 z2 z3 z4 z5 z6 z7
 rw[exV_good he]at hg z6 hW0 ⊢
 generalize exT e=te at*
 generalize exP e=xe at*
 obtain⟨la,ln,lc,hlv⟩:=dr.form
 subst hlv
 clear h h0 RF e1 dr de hl
 go_enter Tryz.func95,Tryz.ntmps95
 go_wp2_with fail
 refine hg.mono ?_
 rintro y w1 ⟨rfl,h1,b1⟩
 go_wp2_with fail
 go_end0
 exact⟨rfl,h1,F0.out.trans b1⟩
theorem dow_if{N:Nat}(p0:Int)(e:Ex)(y n:List Do)(hy:DosW N y)(hnn:DosW N n):DoW N (.ifs p0 e y n):=by
 intro B w p C W Kk u h hd hB hW hw hn hc hK
 unfold DoIs at hd
 obtain⟨yv,nv,ys,ns,hu,dr,de,dr2,de2⟩:=hd
 subst hu
 unfold V.wfD at hw
 obtain⟨we,wy,wn⟩:=hw
 have a1:=ad_If_Set
 have a2:=ad_If_Put
 have a3:=ad_If_If
 have hn':max (need e) (max (needD.needL y) (needD.needL n))+2<=W.length:=hn
 have hK':Kk.length+(max (need e) (max (needD.needL y) (needD.needL n))+2)<=1000:=hK
 have hc':C.length+(cE e+cD.cDs y+cD.cDs n+11)<90000:=hc
 have he:=V.wf_good we
 obtain⟨W0,hW0⟩:∃W0,w.alloc (.cells #[.int .i64 p0,exV e,yv,nv] 184 (0,0))=W0:=⟨_,rfl⟩
 have h0:WAt W0 p C R8 W Kk:=by rw[<-hW0];exact h.alloc _
 have F0:Hid (Fk p.lo w W0):=by rw[<-hW0];exact(Fk.refl _ _).alloc _
 have RF:At W0 w.heap.size 184 [.int .i64 p0,exV e,yv,nv]:=by rw[<-hW0];exact At.alloc_new w _ _
 have hkp:∀k,B k->k<w.heap.size->W0.heap[k]?=w.heap[k]?:=λk b1 b2=>F0.out.low k (hB k b1) b2
 have hg:Calls Tryz.prog 125 #[WV p,.agg #[.int .i64 p0,exV e,yv,nv]] W0 λx w'=>x=.returned (.tuple #[])/\WAt w' p (C++doC C.length W Kk.getLast? (.ifs p0 e y n)) R8 W Kk/\Fk p.lo W0 w':=by
  by_cases hq:K.sec e=true
  · obtain⟨a,b,W',rfl⟩:=two (g:=W) (by omega)
    have hlen:(a::b::W').length=W'.length+2:=rfl
    have hg:=branch_sec p0 e y n he hq (ew_all e we) hy hnn wy wn B W0 p C a b W' Kk yv nv ys ns h0 (dr.keep hkp) (de.keep hkp) (dr2.keep hkp) (de2.keep hkp) hB hW (by omega) (by omega) (by omega) hc' (by omega) (by omega)
    rw[doC,if_pos hq]
    exact hg
  · have hq':K.sec e=false:=by simpa using hq
    have hg:=branch_pub p0 e y n he hq' (ew_all e we) hy hnn wy wn B W0 p C W Kk yv nv ys ns h0 (dr.keep hkp) (de.keep hkp) (dr2.keep hkp) (de2.keep hkp) hB hW (by omega) (by omega) (by omega) hc' (by omega) (by omega)
    rw[doC,if_neg hq]
    exact hg
 generalize doC C.length W Kk.getLast? (.ifs p0 e y n)=D at*
 have z0:=RF.cell 0
 have z1:=RF.cell 1
 have z2:=RF.cell 2
 have z3:=RF.cell 3
 simp only[List.getElem?_cons_zero,List.getElem?_cons_succ]at z0 z1 z2 z3
 rw[exV_good he]at hg z1 hW0 ⊢
 generalize exT e=te at*
 generalize exP e=xe at*
 obtain⟨la,ln,lc,hlv⟩:=dr.form
 subst hlv
 obtain⟨ra,rn,rc,hrv⟩:=dr2.form
 subst hrv
 clear h h0 RF dr de dr2 de2 hy hnn
 go_enter Tryz.func95,Tryz.ntmps95
 go_wp2_with fail
 refine hg.mono ?_
 rintro y w1 ⟨rfl,h1,b1⟩
 go_wp2_with fail
 go_end0
 exact⟨rfl,h1,F0.out.trans b1⟩
theorem dosC_drop{l:List Do}{k:Nat}(h:k<l.length)(p:Nat)(W:List Nat)(q:Option Nat):dosC p W q (l.drop k)=doC p W q l[k]++dosC (p+(doC p W q l[k]).length) W q (l.drop (k+1)):=by
 rw[List.drop_eq_getElem_cons h,dosC]
theorem needL_get:∀{l:List Do} (k:Nat) (h:k<l.length),needD l[k]<=needD.needL l
 |d::l,0,_=>by rw[needD.needL];exact Nat.le_max_left _ _
 |d::l,k+1,h=>by
  rw[needD.needL]
  exact Nat.le_trans (needL_get k (by simpa using h)) (Nat.le_max_right _ _)
theorem cDs_drop{l:List Do}{k:Nat}(h:k<l.length):cD.cDs (l.drop k)=cD l[k]+cD.cDs (l.drop (k+1)):=by
 rw[List.drop_eq_getElem_cons h,cD.cDs]
theorem dosw_of{N:Nat}(l:List Do)(hl:∀d∈l,DoW N d):DosW N l:=by
 intro B w p C W K lv us h dr de hB hW hw hn hc hK
 have HLEN:=hide de.len
 have hmax:=dr.row
 have hlo:=h.hl
 rcases dr.at with⟨rfl,h0⟩|⟨gg,cap,rfl,hgl,hBg,hcell⟩
 · have e:l=[]:=List.eq_nil_of_length_eq_zero (by have:=HLEN.out;omega)
   subst e
   have HK:Hid (C++dosC C.length W K.getLast? []=C):=by show _=_;rw[dosC,List.append_nil]
   rw[HK.out]
   go_enter Tryz.func67,Tryz.ntmps67
   go_wp2_with fail
   go_loop [5,8] (λ_ i=>i=.int .i64 0) (λ_ _=>0)
   case atStart=>rfl
   case round=>
    subst hrel
    go_wp2_with fail
    go_end0
    exact⟨rfl,h,Fk.refl _ _⟩
 · have hcap:us.length<=9223372036854775807:=by
    obtain⟨_,⟨h0,_⟩|⟨g',cap',cur,hv,_,_,hc,hm,_⟩⟩:=hmax
    · simp at h0
    · unfold maxLen at hm;omega
   have HK0:Hid (C++dosC C.length W K.getLast? l=C++dosC C.length W K.getLast? (l.drop 0)/\C.length+cD.cDs (l.drop 0)<90000):=⟨rfl,hc⟩
   have HW:=hide hw
   have HN:=hide hn
   have HKK:=hide hK
   have hglo:=hB gg hBg
   clear hmax hw hn hK hc
   generalize C++dosC C.length W K.getLast? l=R at*
   go_enter Tryz.func67,Tryz.ntmps67
   go_wp2_with fail
   go_loopg [5,8] (us.length+1) (λgk _ i wr=>∃(k:Nat) (C':List Ins),k<=us.length/\gk+k=us.length+1/\i=.int .i64 (k:Int)/\WAt wr p C' R8 W K/\Fk p.lo w wr/\Hid (R=C'++dosC C'.length W K.getLast? (l.drop k)/\C'.length+cD.cDs (l.drop k)<90000))
   case atStart=>exact⟨0,C,Nat.zero_le _,by omega,rfl,h,Fk.refl _ _,HK0⟩
   case round=>
    obtain⟨k,C',hk,hgk,rfl,hr,Bk,HK⟩:=hrel
    by_cases hlt:k<us.length
    · have hll:k<l.length:=by have:=HLEN.out;omega
      obtain⟨u,hu,hd⟩:=de.get k hll
      have c:=(World.cell?_of_block (a:=⟨gg,k,none⟩) (Bk.low gg hglo hgl)).trans (hcell k u hu)
      have hd':=hd.keep (w':=wr) λj h1 h2=>Bk.low j (hB j h1) h2
      have hnk:=needL_get k hll
      have hgd:=hl l[k] (List.getElem_mem hll) B wr p C' W K u hr hd' hB hW (V.wfL_get HW.out k hll) (by have:=HN.out;omega) (by have:=HK.out.2;rw[cDs_drop hll]at this;omega) (by have:=HKK.out;omega)
      have HK':Hid (R=(C'++doC C'.length W K.getLast? l[k])++dosC (C'++doC C'.length W K.getLast? l[k]).length W K.getLast? (l.drop (k+1))/\(C'++doC C'.length W K.getLast? l[k]).length+cD.cDs (l.drop (k+1))<90000):=by
       refine⟨?_,?_⟩
       · rw[HK.out.1,dosC_drop hll,List.length_append,List.append_assoc]
       · have:=HK.out.2
         rw[cDs_drop hll]at this
         have:=doC_len l[k] C'.length W K.getLast?
         rw[List.length_append]
         omega
      have uf:=hd.form
      clear HK hd hd' HK0
      generalize C'++doC C'.length W K.getLast? l[k]=C2 at*
      rcases uf with⟨ut,ux,rfl⟩|rfl
      all_goals
       go_wp2_with fail
       refine hgd.mono ?_
       rintro x w2 ⟨rfl,h2,hb2⟩
       go_wp2_with fail
       go_roundg (gk-1)
       case measure=>omega
       case rel=>exact⟨k+1,C2,by omega,by omega,by go_num,h2,Bk.trans hb2,HK'⟩
    · have HX:Hid (R=C'):=by
       show _=_
       rw[HK.out.1,List.drop_eq_nil_of_le (by have:=HLEN.out;omega),dosC,List.append_nil]
      clear HK HK0
      go_wp2_with fail
      go_end0
      rw[HX.out]
      exact⟨rfl,hr,Bk⟩
mutual
theorem dow_all{N:Nat}:∀d:Do,DoW N d
 |.set p n e=>dow_set p n e
 |.put p n i e=>dow_put p n i e
 |.ifs p q y n=>dow_if p q y n (dosw_of y (dowl y)) (dosw_of n (dowl n))
 |.fors p n r l=>dow_for p n r l (dosw_of l (dowl l))
 |.none=>λ_ _ _ _ _ _ _ _ _ _ _ h _ _ _=>by unfold V.wfD at h;exact h.elim
theorem dowl{N:Nat}:∀l:List Do,∀d∈l,DoW N d
 |[],_,h=>by cases h
 |d::l,d',h=>by
  rcases List.mem_cons.1 h with h |h
  · rw[h];exact dow_all d
  · exact dowl l d' h
end
theorem dosw_all{N:Nat}(l:List Do):DosW N l:=dosw_of l (dowl l)
theorem info_pl:(Tryz.prog.info? 3).map (λi=>(i.zero,i.size,i.bytes))=some (some (.int .i64 0),1,8):=by kernel_rfl
theorem range_succ'(a k:Nat):(List.range k).map (λj:Nat=>(a+j:Nat))++[a+k]=(List.range (k+1)).map (λj:Nat=>(a+j:Nat)):=by
 rw[List.range_succ,List.map_append];rfl
def upF(a k:Nat):List Nat:=(List.range k).map λj=>a+j
theorem upF_len(a k:Nat):(upF a k).length=k:=by unfold upF;simp
theorem upF_srt(a k:Nat):Srt (upF a k):=by
 unfold upF Srt
 rw[List.pairwise_map]
 exact List.pairwise_lt_range.imp (λh=>by omega)
theorem upF_get{a k j:Nat}(h:j<k):hg (ofN (upF a k)) j=((a+j:Nat):Int):=by
 unfold hg ofN upF
 rw[List.getD_eq_getElem?_getD,List.getElem?_map,List.getElem?_map,List.getElem?_range h]
 rfl
theorem upF_hp(a k:Nat):HP (ofN (upF a k)) (upF a k):=by
 have hl:(ofN (upF a k)).length=k:=by unfold ofN;rw[List.length_map,upF_len]
 refine⟨λj j0 jn=>?_,List.Perm.refl _,upF_srt a k⟩
 rw[hl]at jn
 rw[upF_get (by omega),upF_get jn]
 omega
theorem newPool_c(w:World)(a b:Nat)(hab:a<b)(hb:b<=1000):
 Calls Tryz.prog 93 #[.int .i64 (a:Int),.int .i64 (b:Int)] w λx w'=>(∃pb g,x=.returned (.pointer (some ⟨pb,0,none⟩))/\w.heap.size<=pb/\w.heap.size<=g/\Pool w' pb g (b-a) (upF a (b-a)))/\Below w.heap.size w w':=by
 obtain⟨j0,ji,jz0,jz1,jz2⟩:=info_parts info_pl
 have aP:=At.alloc_new w [.slice none 0 0] 188
 have B0:Below w.heap.size w (w.alloc (.cells #[.slice none 0 0] 188 (0,0))):=(Below.refl _ _).alloc (Nat.le_refl _) _
 go_enter Tryz.func93,Tryz.ntmps93
 go_wp2_with fail
 go_loopg [6] (b-a) (λgk i wr=>∃(k:Nat) (sv:Value),k+gk=b-a/\i=.int .i64 ((a+k:Nat):Int)/\At wr w.heap.size 188 [sv]/\wr.ownsRow 0 3 1 sv k (ints (ofN (upF a k)))/\(∀q,sv.ownBlock=some q->w.heap.size<q)/\Below w.heap.size w wr)
 case atStart=>exact⟨0,.slice none 0 0,by omega,rfl,aP,⟨rfl,Or.inl ⟨rfl,rfl⟩⟩,(λq e=>by cases e),B0⟩
 case round=>
  obtain⟨k,sv,hk,rfl,aW,oW,hq,Bk⟩:=hrel
  have pl:=aW.lt
  have cs:=aW.cell 0
  have fs:=aW.frozen 0
  simp only[List.getElem?_cons_zero]at cs
  obtain⟨sa,sc,rfl⟩:∃sa sc,sv=.slice sa k sc:=by
   rcases Joins.ownsRow_forms oW with⟨rfl,h0⟩|⟨g,c,rfl⟩
   · exact⟨none,0,by rw[h0]⟩
   · exact⟨_,_,rfl⟩
  cases gk with
  |succ g1=>
   have hz:((a+k:Nat):Int)<(b:Int):=by omega
   have nb:¬(Value.slice sa k sc).ownBlock=some w.heap.size:=λe=>by have:=hq _ e;omega
   have HA:=hide aW
   clear aW
   go_wp2_with (at_builtin;refine wpList_append_row1 _ rfl _ _ 188 rfl 3 j0 (.int .i64 0) 1 8 Tryz.underlying188 ji jz0 jz1 jz2 rfl (by decide) _ k (ints (ofN (upF a k))) rfl (by exact World.ownsRow.alloc oW _) ⟨wr.heap.size,0,none⟩ 1 1 [.int .i64 ((a+k:Nat):Int)] rfl rfl (by exact row_new wr [.int .i64 ((a+k:Nat):Int)] _) (by intro u hu;simp only[List.mem_singleton]at hu;subst hu;rfl) (few_le (by omega)) (by omega) Nat.one_pos ?_;intro gg cap3 w3 hrow hgr hkk;have aW3:=(HA.out.alloc (.cells #[.int .i64 ((a+k:Nat):Int)] 3 (0,0))).of_block (hgr.block w.heap.size (by show w.heap.size<(World.alloc _ _).heap.size;rw[size_alloc];omega) (λe=>nb e.symm));have cw:=aW3.cell 0;have fw:=aW3.frozen 0;simp only[List.getElem?_cons_zero]at cw;have HA3:=hide aW3;have HR3:=hide hrow;clear aW3 hrow)
   go_roundg g1
   case measure=>omega
   case rel=>
    have zs:=Bk.size
    have gs:wr.heap.size+1<=w3.heap.size:=by have e2:(World.alloc _ _).heap.size<=_:=hgr.size;rw[size_alloc]at e2;exact e2
    have hgg:w.heap.size<gg:=(hkk gg rfl).elim (λe=>hq _ e) (λe=>by have e2:(World.alloc _ _).heap.size<=gg:=e;rw[size_alloc]at e2;omega)
    refine⟨k+1,_,by omega,by go_num,HA3.out.set 0 _,ownsRow_setCell_other ?_ (λe=>by have h9:gg=w.heap.size:=Option.some.inj e;omega) _,(λq e=>by have h9:gg=q:=Option.some.inj e;omega),⟨hgr.os.trans Bk.os,hgr.tape.trans Bk.tape,hgr.output.trans Bk.output,by rw[World.size_setCell];omega,λq hq'=>?_⟩⟩
    · have e3:ints (ofN (upF a (k+1)))=ints (ofN (upF a k))++[.int .i64 ((a+k:Nat):Int)]:=by unfold upF;rw[<-range_succ'];unfold ints ofN;simp
      rw[e3]
      exact HR3.out
    · refine(heap_setCell_other _ ⟨w.heap.size,0,none⟩ q _ (by show q≠w.heap.size;omega)).trans ((hgr.block q (by show q<(World.alloc _ _).heap.size;rw[size_alloc];omega) (λe=>by have:=hq q e.symm;omega)).trans ((heap_alloc_old _ _ _ (by omega)).trans (Bk.block q hq')))
  |zero=>
   have hz:¬((a+k:Nat):Int)<(b:Int):=by omega
   have hkb:k=b-a:=by omega
   have HA:=hide aW
   clear aW
   go_wp2_with fail
   go_ret
   obtain⟨_,⟨e1,h0⟩|⟨g,cap,cur,e1,_,hg,hc,hm,hs,ht⟩⟩:=oW
   · omega
   · have hgg:=hq g (by rw[e1];rfl)
     rw[e1]at HA
     have e2:(ofN (upF a k)).length=k:=by unfold ofN;rw[List.length_map,upF_len]
     have e3:cur.toList.length=cap:=by rw[Array.length_toList,hs,Nat.mul_one]
     refine⟨⟨w.heap.size,rfl,Nat.le_refl _,g,by omega,⟨⟨ofN (upF a k),cap,⟨by rw[e2];exact HA.out,⟨cur.toList.drop k,?_,by rw[e2,List.length_drop,e3];omega⟩,by omega,by rw[e2];omega⟩,by omega,by rw[upF_len];omega,by omega,?_⟩⟩⟩,Bk⟩
     · rw[<-ht,Nat.mul_one,List.take_append_drop]
       unfold At;rw[hg]
     · rw[<-hkb];exact upF_hp a k
theorem tab_w:TabW ((((((((Tryz.zeroCells130.setIfInBounds 43 (.func (.func 115) #[] #[])).setIfInBounds 45 (.func (.func 116) #[] #[])).setIfInBounds 42 (.func (.func 117) #[] #[])).setIfInBounds 47 (.func (.func 118) #[] #[])).setIfInBounds 38 (.func (.func 119) #[] #[])).setIfInBounds 94 (.func (.func 120) #[] #[])).setIfInBounds 60 (.func (.func 121) #[] #[])).setIfInBounds 61 (.func (.func 122) #[] #[])):=by
 intro o ho
 unfold V.isOp at ho
 simp only[Bool.or_eq_true,beq_iff_eq]at ho
 rcases ho with((((((rfl |rfl)|rfl)|rfl)|rfl)|rfl)|rfl)|rfl<;>kernel_rfl
structure IsTabW(t:Array Value):Prop where
 size:t.size=256
 one:t.all (·.oneCell')=true
 fn:TabW t
def BuiltW(t:Array Value):Prop:=∀a b:Value,Array.foldl (λcs x=>cs.setIfInBounds (3+x.snd) x.fst) ((Tryz.zeroCells132.setIfInBounds 1 a).setIfInBounds 2 b) t.zipIdx 0 256=#[.slice none 0 0,a,b]++t++#[.slice none 0 0]
theorem is_tabW:IsTabW ((((((((Tryz.zeroCells130.setIfInBounds 43 (.func (.func 115) #[] #[])).setIfInBounds 45 (.func (.func 116) #[] #[])).setIfInBounds 42 (.func (.func 117) #[] #[])).setIfInBounds 47 (.func (.func 118) #[] #[])).setIfInBounds 38 (.func (.func 119) #[] #[])).setIfInBounds 94 (.func (.func 120) #[] #[])).setIfInBounds 60 (.func (.func 121) #[] #[])).setIfInBounds 61 (.func (.func 122) #[] #[])):=⟨by kernel_rfl,by kernel_rfl,tab_w⟩
theorem is_builtW:BuiltW ((((((((Tryz.zeroCells130.setIfInBounds 43 (.func (.func 115) #[] #[])).setIfInBounds 45 (.func (.func 116) #[] #[])).setIfInBounds 42 (.func (.func 117) #[] #[])).setIfInBounds 47 (.func (.func 118) #[] #[])).setIfInBounds 38 (.func (.func 119) #[] #[])).setIfInBounds 94 (.func (.func 120) #[] #[])).setIfInBounds 60 (.func (.func 121) #[] #[])).setIfInBounds 61 (.func (.func 122) #[] #[])):=by
 intro a b
 kernel_rfl
theorem tabTypeW:(Tryz.prog.info? 130).map (·.size)=some 256:=by kernel_rfl
theorem instructions_b(w:World):Calls Tryz.prog 94 #[] w λx w'=>(∃t,(IsTabW t/\BuiltW t)/\x=.returned (.agg t))/\Below w.heap.size w w':=by
 have h0:=is_tabW
 have hb0:=is_builtW
 obtain⟨tb,htb⟩:∃tb,tb=(((((((Tryz.zeroCells130.setIfInBounds 43 (.func (.func 115) #[] #[])).setIfInBounds 45 (.func (.func 116) #[] #[])).setIfInBounds 42 (.func (.func 117) #[] #[])).setIfInBounds 47 (.func (.func 118) #[] #[])).setIfInBounds 38 (.func (.func 119) #[] #[])).setIfInBounds 94 (.func (.func 120) #[] #[])).setIfInBounds 60 (.func (.func 121) #[] #[])).setIfInBounds 61 (.func (.func 122) #[] #[]):=⟨_,rfl⟩
 rw[<-htb]at h0 hb0
 have hst:=run_storeCells_new (P:=Tryz.prog) w 130 Tryz.zeroCells130 tb (by rw[h0.size];exact tabTypeW) (by rw[h0.size];kernel_rfl) h0.one
 have hl:=congrArg Array.toList htb
 simp only[Array.toList_setIfInBounds]at hl
 rw[hl]at hst
 go_enter Tryz.func94,Tryz.ntmps94
 go_wp2_with fail
 rw[<-htb]
 clear hst hl htb
 exact bodyPost_ret (v:=.agg tb) (results_cell_row Tryz.results94 _ _ w.heap.size 130 tb (0,0) _ rfl (heap_alloc_last w _) Tryz.underlying130 rfl (by rw[h0.size];exact tabTypeW)) rfl ⟨⟨tb,⟨h0,hb0⟩,rfl⟩,(Below.refl _ _).alloc (Nat.le_refl _) _⟩
theorem wat_of{w:World}{pa ga pb gb L c:Nat}{U:List Nat}{tb:Array Value}(htb:IsTabW tb)(PA:Pool w pa ga 8 R8)(PB:Pool w pb gb c U)(hne:pa≠pb/\ga≠gb)(hL:L<=w.heap.size)(h1:L<=pa)(h2:L<=ga)(h3:L<=pb)(h4:L<=gb):
 WAt (w.alloc (.cells (#[.slice none 0 0,.pointer (some ⟨pa,0,none⟩),.pointer (some ⟨pb,0,none⟩)]++tb++#[.slice none 0 0]) 132 (0,0))) ⟨w.heap.size,pa,ga,pb,gb,c,L,tb,htb.fn⟩ [] R8 U []:=by
 refine⟨⟨.slice none 0 0,.slice none 0 0,?_,⟨rfl,Or.inl ⟨rfl,rfl⟩⟩,⟨rfl,Or.inl ⟨rfl,rfl⟩⟩,λk e=>by cases e⟩,PA.same λ_ hk=>heap_alloc_old _ _ _ hk,PB.same λ_ hk=>heap_alloc_old _ _ _ hk,htb.size,hne,⟨hL,h1,h2,h3,h4⟩,Nat.zero_le _⟩
 have:=At.alloc_new w ([.slice none 0 0,.pointer (some ⟨pa,0,none⟩),.pointer (some ⟨pb,0,none⟩)]++(tb.toList++[.slice none 0 0])) 132
 have e:([Value.slice none 0 0,Value.pointer (some ⟨pa,0,none⟩),Value.pointer (some ⟨pb,0,none⟩)]++(tb.toList++[Value.slice none 0 0])).toArray=#[Value.slice none 0 0,Value.pointer (some ⟨pa,0,none⟩),Value.pointer (some ⟨pb,0,none⟩)]++tb++#[Value.slice none 0 0]:=by
  apply Array.toList_inj.1
  simp
 rw[e]at this
 exact this
end Y
end Go.Proofs.YtejbgcloblpbfaaGreatDoor
