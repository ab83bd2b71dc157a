import Derived.Test.YtejbgcloblpbfaaGreatDoorG07
import Derived.Test.YtejbgcloblpbfaaGreatDoorG10
set_option maxHeartbeats 4000000
set_option maxRecDepth 20000
namespace Go.Proofs.YtejbgcloblpbfaaGreatDoor
section
open Go.RowKit
namespace Y
theorem m_len0(w:World)(pb:Nat):(method 395 127 (.pointer (some ⟨pb,0,none⟩)) "Len").run Tryz.prog w=((do let v <-loadVar 188 ⟨pb,0,none⟩;pure (188,v)):Sem (FuncId×Value)).run Tryz.prog w:=by kernel_rfl
theorem m_less0(w:World)(pb:Nat):(method 395 127 (.pointer (some ⟨pb,0,none⟩)) "Less").run Tryz.prog w=((do let v <-loadVar 188 ⟨pb,0,none⟩;pure (268,v)):Sem (FuncId×Value)).run Tryz.prog w:=by kernel_rfl
theorem m_swap0(w:World)(pb:Nat):(method 395 127 (.pointer (some ⟨pb,0,none⟩)) "Swap").run Tryz.prog w=((do let v <-loadVar 188 ⟨pb,0,none⟩;pure (271,v)):Sem (FuncId×Value)).run Tryz.prog w:=by kernel_rfl
theorem m_push(w:World)(pb:Nat):(method 395 127 (.pointer (some ⟨pb,0,none⟩)) "Push").run Tryz.prog w=.ok (270,.pointer (some ⟨pb,0,none⟩)) w:=by kernel_rfl
theorem m_pop(w:World)(pb:Nat):(method 395 127 (.pointer (some ⟨pb,0,none⟩)) "Pop").run Tryz.prog w=.ok (269,.pointer (some ⟨pb,0,none⟩)) w:=by kernel_rfl
theorem m_len(w:World)(pb:Nat)(a:Option Addr)(n c:Nat)(hc:w.cell? ⟨pb,0,none⟩=some (.slice a n c)):(method 395 127 (.pointer (some ⟨pb,0,none⟩)) "Len").run Tryz.prog w=.ok (188,.slice a n c) w:=by
 rw[m_len0];simp[go_sem,hc]
theorem m_less(w:World)(pb:Nat)(a:Option Addr)(n c:Nat)(hc:w.cell? ⟨pb,0,none⟩=some (.slice a n c)):(method 395 127 (.pointer (some ⟨pb,0,none⟩)) "Less").run Tryz.prog w=.ok (268,.slice a n c) w:=by
 rw[m_less0];simp[go_sem,hc]
theorem m_swap(w:World)(pb:Nat)(a:Option Addr)(n c:Nat)(hc:w.cell? ⟨pb,0,none⟩=some (.slice a n c)):(method 395 127 (.pointer (some ⟨pb,0,none⟩)) "Swap").run Tryz.prog w=.ok (271,.slice a n c) w:=by
 rw[m_swap0];simp[go_sem,hc]
theorem PoolAt.cap{w:World}{pb g:Nat}{h:List Int}{cap:Nat}(p:PoolAt w pb g h cap):h.length<=cap:=by
 obtain⟨_,_,e⟩:=p.row
 omega
theorem PoolAt.still{w w':World}{pb g:Nat}{h:List Int}{cap:Nat}(p:PoolAt w pb g h cap)(s:Still w w'):PoolAt w' pb g h cap:=p.keep (by rw[s.heap]) (by rw[s.heap])
theorem up_q{k i:Nat}(h:i=(k-1) / 2)(h0:0<k)(hk:k<=100000):wrap64 ((k:Int)-1)=((k-1:Nat):Int)/\wrap64 (i:Int)=(i:Int)/\((k-1:Nat):Int).tdiv 2=(i:Int):=by
 have e:((k-1:Nat):Int).tdiv 2=(i:Int):=by rw[Int.tdiv_eq_ediv_of_nonneg (by omega)];omega
 exact⟨by unfold wrap64;omega,by unfold wrap64;omega,e⟩
theorem up_c{w:World}{pb g:Nat}{h:List Int}{cap:Nat}(p:PoolAt w pb g h cap){j:Nat}(hj:j<h.length){F:Nat}(hF:j<F):
 Calls Tryz.prog 211 #[PV pb,.int .i64 (j:Int)] w λx w'=>x=.returned (.tuple #[])/\PoolAt w' pb g (upL F h j) cap/\But g w w':=by
 obtain⟨R,hR⟩:∃R,Hid (upL F h j=R):=⟨_,rfl⟩
 rw[hR.out]
 have hp:=hide p
 clear p
 go_enter Tryz.func211,Tryz.ntmps211
 go_wp2_with fail
 go_loopg [1] j (λgk jj wr=>∃h' F',jj=.int .i64 (gk:Int)/\Hid (h'.length=h.length)/\gk<=j/\gk<F'/\Hid (upL F' h' gk=R)/\Hid (PoolAt wr pb g h' cap)/\Hid (But g w wr))
 case atStart=>exact⟨h,F,rfl,rfl,Nat.le_refl _,hF,hR,hp,But.refl _ _⟩
 case round=>
  obtain⟨h',F',rfl,hl,hgk,hF',HU,HP',HB⟩:=hrel
  have hdc:=HP'.out.head.cell 0
  simp only[List.getElem?_cons_zero]at hdc
  obtain⟨F2,rfl⟩:∃F2,F'=F2+1:=⟨F'-1,by omega⟩
  have HUv:=HU.out
  unfold upL at HUv
  by_cases c1:(gk-1) / 2=gk
  · have hg0:gk=0:=by omega
    subst hg0
    rw[if_pos (Or.inl rfl)]at HUv
    have HV:=hide HUv
    clear HUv
    go_wp2_with fail
    go_end0
    exact⟨rfl,by rw[<-HV.out];exact HP'.out,HB.out⟩
  · obtain⟨i,hi⟩:∃i,i=(gk-1) / 2:=⟨_,rfl⟩
    have few:=HP'.out.few
    have hcp:=HP'.out.cap
    have hl':=hl.out
    rw[<-hi]at HUv c1
    have l1:gk<h'.length:=by omega
    have l2:i<h'.length:=by omega
    have l3:i<gk:=by omega
    have l4:i<=j:=by omega
    have l5:i<F2:=by omega
    have e4:¬(i:Int)=(gk:Int):=by omega
    obtain⟨e1,e2,e5⟩:=up_q hi (by omega) (by omega)
    have hls:=less_c HP'.out (i:=gk) (j:=i) l1 l2
    have hml:=m_less wr pb _ _ _ hdc
    have HV:=hide HUv
    generalize((gk-1:Nat):Int)=I1 at*
    clear HUv hi hl' few hcp hj hF hgk hF'
    go_wp2_with fail
    refine hls.mono ?_
    rintro x w2 ⟨rfl,S2⟩
    have P2:=HP'.out.still S2
    have hdc2:=P2.head.cell 0
    simp only[List.getElem?_cons_zero]at hdc2
    have hms:=m_swap w2 pb _ _ _ hdc2
    by_cases c2:hg h' gk<hg h' i
    · have hsw:=swap_c P2 (i:=i) (j:=gk) l2 l1
      have d2:decide (hg h' gk<hg h' i)=true:=by simp[c2]
      have HVv:=HV.out
      rw[if_neg (by simp[c1,c2])]at HVv
      have HW:=hide HVv
      have B2:Hid (But g w w2):=S2.but' HB.out
      clear HVv HV P2
      go_wp2_with fail
      refine hsw.mono ?_
      rintro x w3 ⟨rfl,P3,B3⟩
      go_wp2_with fail
      go_roundg i
      case measure=>exact l3
      case rel=>exact⟨sw h' i gk,F2,rfl,by show _=_;rw[sw_len];exact hl.out,l4,l5,HW,P3,B2.out.trans B3⟩
    · have d2:decide (hg h' gk<hg h' i)=false:=by simp[c2]
      have HVv:=HV.out
      rw[if_pos (by first |exact Or.inr c2 |exact Or.inr (Int.not_lt.1 c2))]at HVv
      have HW:=hide HVv
      clear HVv HV
      go_wp2_with fail
      go_end0
      exact⟨rfl,by rw[<-HW.out];exact P2,S2.but' HB.out⟩
def IsB(x:Ending):Prop:=∃b,x=.returned (.bool b)
theorem dn_e{k j1 j2:Nat}{I2:Int}(hI:I2=2*(k:Int))(h1:j1=2*k+1)(h2:j2=2*k+2)(hk:k<=100000):wrap64 (2*(k:Int))=I2/\wrap64 (I2+1)=(j1:Int)/\wrap64 ((j1:Int)+1)=(j2:Int)/\¬(j1:Int)<0:=by
 subst hI h1 h2
 refine⟨by unfold wrap64;omega,by unfold wrap64;omega,by unfold wrap64;omega,by omega⟩
theorem down_c{w:World}{pb g:Nat}{h:List Int}{cap:Nat}(p:PoolAt w pb g h cap){n:Nat}(hn:n<=h.length)(i0:Nat)(h0:i0<=n){F:Nat}(hF:n<=i0+F):
 Calls Tryz.prog 214 #[PV pb,.int .i64 (i0:Int),.int .i64 (n:Int)] w λx w'=>IsB x/\PoolAt w' pb g (downL F h i0 n) cap/\But g w w':=by
 obtain⟨R,hR⟩:∃R,Hid (downL F h i0 n=R):=⟨_,rfl⟩
 rw[hR.out]
 have hp:=hide p
 have hn':=hide hn
 have h0':=hide h0
 have hF':=hide hF
 clear p hn h0 hF
 go_enter Tryz.func214,Tryz.ntmps214
 go_wp2_with fail
 go_loopg [7] (n-i0) (λgk ii wr=>∃(i:Nat) (h':List Int) (F':Nat),ii=.int .i64 (i:Int)/\Hid (h'.length=h.length)/\Hid (i+gk=n)/\Hid (n<=i+F')/\Hid (downL F' h' i n=R)/\Hid (PoolAt wr pb g h' cap)/\Hid (But g w wr))
 case atStart=>exact⟨i0,h,F,rfl,rfl,(by have:=h0'.out;show _=_;omega),hF',hR,hp,But.refl _ _⟩
 case round=>
  obtain⟨i,h',F',rfl,hl,hgk,hF2,HU,HP',HB⟩:=hrel
  have hdc:=HP'.out.head.cell 0
  simp only[List.getElem?_cons_zero]at hdc
  obtain⟨j1,hj1⟩:∃j1,Hid (j1=2*i+1):=⟨_,rfl⟩
  obtain⟨j2,hj2⟩:∃j2,Hid (j2=2*i+2):=⟨_,rfl⟩
  obtain⟨I2,hI2⟩:∃I2:Int,Hid (I2=2*(i:Int)):=⟨_,rfl⟩
  have hik:i<=100000:=by
   have:=HP'.out.few;have:=HP'.out.cap;have:=hl.out;have:=hgk.out;have:=hn'.out
   omega
  obtain⟨e1,e2,e3,e4⟩:=dn_e hI2.out hj1.out hj2.out hik
  clear hik
  by_cases c1:j1<n
  · have c1':¬(j1:Int)≥(n:Int):=by omega
    have hnl:n<=h'.length:=by have:=hl.out;have:=hn'.out;omega
    have l0:i<h'.length:=by have:=hj1.out;omega
    have l1:j1<h'.length:=by omega
    have HUF:Hid (∃F3,F'=F3+1):=⟨F'-1,by have:=hF2.out;have:=hgk.out;have:=hj1.out;omega⟩
    have hsn:Hid (∀j,son h' i n=j->(hg h' j<hg h' i->∃F3,n<=j+F3/\i<j/\j<n/\downL F3 (sw h' i j) j n=R)/\(¬hg h' j<hg h' i->h'=R)):=by
     intro j hj
     obtain⟨F3,rfl⟩:=HUF.out
     have hv:=HU.out
     unfold downL at hv
     have hjj:=hj1.out
     have hs:=son_lt (h:=h') (i:=i) (n:=n) (by omega)
     have hF3:=hF2.out
     rw[hj]at hv hs
     refine⟨λhc=>?_,λhc=>?_⟩
     · rw[if_pos ⟨by omega,hc⟩]at hv
       exact⟨F3,by omega,hs.2,hs.1,hv⟩
     · rw[if_neg (λx=>hc x.2)]at hv
       exact hv
    by_cases c2:j2<n
    · have c2':(j2:Int)<(n:Int):=by omega
      have l2:j2<h'.length:=by omega
      have hls:=less_c HP'.out (i:=j2) (j:=j1) l2 l1
      have hml:=m_less wr pb _ _ _ hdc
      clear hnl
      go_wp2_with fail
      refine hls.mono ?_
      rintro x w2 ⟨rfl,S2⟩
      have P2:=HP'.out.still S2
      have HB2:Hid (But g w w2):=S2.but' HB.out
      have hdc2:=P2.head.cell 0
      simp only[List.getElem?_cons_zero]at hdc2
      by_cases c3:hg h' j2<hg h' j1
      · have d3:decide (hg h' j2<hg h' j1)=true:=by simp[c3]
        have hso:Hid (son h' i n=j2):=by
         have a1:=hj1.out
         have a2:=hj2.out
         show son h' i n=j2
         unfold son
         rw[<-a2,<-a1,if_pos ⟨c2,c3⟩]
        have hls2:=less_c P2 (i:=j2) (j:=i) l2 l0
        have HP2:=hide P2
        have hmlt:=m_less w2 pb _ _ _ (P2.head.cell 0)
        clear P2
        go_wp2_with fail
        refine hls2.mono ?_
        rintro x w3 ⟨rfl,S3⟩
        have P3:=HP2.out.still S3
        have HB3:Hid (But g w w3):=S3.but' HB2.out
        have hdc3:=P3.head.cell 0
        simp only[List.getElem?_cons_zero]at hdc3
        have hms3:=m_swap w3 pb _ _ _ hdc3
        by_cases c4:hg h' j2<hg h' i
        · have d4:decide (hg h' j2<hg h' i)=true:=by simp[c4]
          obtain⟨F3,f1,f2,f3,f4⟩:=(hsn.out j2 hso.out).1 c4
          have hsw:=swap_c P3 (i:=i) (j:=j2) l0 l2
          have HF1:=hide f1
          have HF2:=hide f2
          have HF4:=hide f4
          have HF3:=hide f3
          clear f1 f2 f3 f4 P3
          go_wp2_with fail
          refine hsw.mono ?_
          rintro x w4 ⟨rfl,P4,B4⟩
          go_wp2_with fail
          go_roundg (n-j2)
          case measure=>have:=HF2.out;have:=hgk.out;have:=HF3.out;omega
          case rel=>exact⟨j2,_,F3,rfl,(by show _=_;rw[sw_len];exact hl.out),(by have:=HF3.out;show _=_;omega),HF1,HF4,P4,HB3.out.trans B4⟩
        · have d4:decide (hg h' j2<hg h' i)=false:=by simp[c4]
          have hend:=(hsn.out j2 hso.out).2 (by first |exact c4 |exact Int.not_lt.1 c4)
          have HE:=hide hend
          have HP3:=hide P3
          clear hend P3
          go_wp2_with fail
          go_ret
          exact⟨⟨_,rfl⟩,by rw[<-HE.out];exact HP3.out,HB3.out⟩
      · have d3:decide (hg h' j2<hg h' j1)=false:=by simp[c3]
        have hso:Hid (son h' i n=j1):=by
         have a1:=hj1.out
         have a2:=hj2.out
         show son h' i n=j1
         unfold son
         rw[<-a2,<-a1,if_neg (λx=>c3 x.2)]
        have hls2:=less_c P2 (i:=j1) (j:=i) l1 l0
        have HP2:=hide P2
        have hmlt:=m_less w2 pb _ _ _ (P2.head.cell 0)
        clear P2
        go_wp2_with fail
        refine hls2.mono ?_
        rintro x w3 ⟨rfl,S3⟩
        have P3:=HP2.out.still S3
        have HB3:Hid (But g w w3):=S3.but' HB2.out
        have hdc3:=P3.head.cell 0
        simp only[List.getElem?_cons_zero]at hdc3
        have hms3:=m_swap w3 pb _ _ _ hdc3
        by_cases c4:hg h' j1<hg h' i
        · have d4:decide (hg h' j1<hg h' i)=true:=by simp[c4]
          obtain⟨F3,f1,f2,f3,f4⟩:=(hsn.out j1 hso.out).1 c4
          have hsw:=swap_c P3 (i:=i) (j:=j1) l0 l1
          have HF1:=hide f1
          have HF2:=hide f2
          have HF4:=hide f4
          have HF3:=hide f3
          clear f1 f2 f3 f4 P3
          go_wp2_with fail
          refine hsw.mono ?_
          rintro x w4 ⟨rfl,P4,B4⟩
          go_wp2_with fail
          go_roundg (n-j1)
          case measure=>have:=HF2.out;have:=hgk.out;have:=HF3.out;omega
          case rel=>exact⟨j1,_,F3,rfl,(by show _=_;rw[sw_len];exact hl.out),(by have:=HF3.out;show _=_;omega),HF1,HF4,P4,HB3.out.trans B4⟩
        · have d4:decide (hg h' j1<hg h' i)=false:=by simp[c4]
          have hend:=(hsn.out j1 hso.out).2 (by first |exact c4 |exact Int.not_lt.1 c4)
          have HE:=hide hend
          have HP3:=hide P3
          clear hend P3
          go_wp2_with fail
          go_ret
          exact⟨⟨_,rfl⟩,by rw[<-HE.out];exact HP3.out,HB3.out⟩
    · have c2':¬(j2:Int)<(n:Int):=by omega
      clear hnl
      have hso:Hid (son h' i n=j1):=by
       have a1:=hj1.out
       have a2:=hj2.out
       show son h' i n=j1
       unfold son
       rw[<-a2,<-a1,if_neg (λx=>c2 x.1)]
      have hls2:=less_c HP'.out (i:=j1) (j:=i) l1 l0
      have HP2:=hide HP'.out
      have hmlt:=m_less wr pb _ _ _ hdc
      skip
      go_wp2_with fail
      refine hls2.mono ?_
      rintro x w3 ⟨rfl,S3⟩
      have P3:=HP2.out.still S3
      have HB3:Hid (But g w w3):=S3.but' HB.out
      have hdc3:=P3.head.cell 0
      simp only[List.getElem?_cons_zero]at hdc3
      have hms3:=m_swap w3 pb _ _ _ hdc3
      by_cases c4:hg h' j1<hg h' i
      · have d4:decide (hg h' j1<hg h' i)=true:=by simp[c4]
        obtain⟨F3,f1,f2,f3,f4⟩:=(hsn.out j1 hso.out).1 c4
        have hsw:=swap_c P3 (i:=i) (j:=j1) l0 l1
        have HF1:=hide f1
        have HF2:=hide f2
        have HF4:=hide f4
        have HF3:=hide f3
        clear f1 f2 f3 f4 P3
        go_wp2_with fail
        refine hsw.mono ?_
        rintro x w4 ⟨rfl,P4,B4⟩
        go_wp2_with fail
        go_roundg (n-j1)
        case measure=>have:=HF2.out;have:=hgk.out;have:=HF3.out;omega
        case rel=>exact⟨j1,_,F3,rfl,(by show _=_;rw[sw_len];exact hl.out),(by have:=HF3.out;show _=_;omega),HF1,HF4,P4,HB3.out.trans B4⟩
      · have d4:decide (hg h' j1<hg h' i)=false:=by simp[c4]
        have hend:=(hsn.out j1 hso.out).2 (by first |exact c4 |exact Int.not_lt.1 c4)
        have HE:=hide hend
        have HP3:=hide P3
        clear hend P3
        go_wp2_with fail
        go_ret
        exact⟨⟨_,rfl⟩,by rw[<-HE.out];exact HP3.out,HB3.out⟩
  · have c1':(j1:Int)≥(n:Int):=by omega
    have hend:Hid (h'=R):=by
     have hv:=HU.out
     cases F' with
     |zero=>exact hv
     |succ F3=>
      unfold downL at hv
      rw[if_neg (λx=>c1 (by have:=hj1.out;omega))]at hv
      exact hv
    clear c1
    go_wp2_with fail
    go_ret
    exact⟨⟨_,rfl⟩,by rw[<-hend.out];exact HP'.out,HB.out⟩
structure Two(b g:Nat)(w w':World):Prop where
 os:w'.os=w.os
 tape:w'.tape=w.tape
 output:w'.output=w.output
 size:w.heap.size<=w'.heap.size
 block:∀k,k<w.heap.size->k≠b->k≠g->w'.heap[k]?=w.heap[k]?
theorem Two.trans{b g:Nat}{x y z:World}(h:Two b g x y)(k:Two b g y z):Two b g x z:=
 ⟨k.os.trans h.os,k.tape.trans h.tape,k.output.trans h.output,Nat.le_trans h.size k.size,λi hi h1 h2=>(k.block i (Nat.lt_of_lt_of_le hi h.size) h1 h2).trans (h.block i hi h1 h2)⟩
theorem Two.of_but{b g:Nat}{x y:World}(h:But g x y):Two b g x y:=⟨h.os,h.tape,h.output,h.size,λk hk _ h2=>h.block k hk h2⟩
theorem info_i:(Tryz.prog.info? 3).map (λi=>(i.zero,i.size,i.bytes))=some (some (.int .i64 0),1,8):=by kernel_rfl
theorem pushm_c{w:World}{pb g:Nat}{h:List Int}{cap:Nat}(p:PoolAt w pb g h cap)(hc:h.length<cap)(hf:h.length<100000)(x:Int):
 Calls Tryz.prog 270 #[.pointer (some ⟨pb,0,none⟩),.iface 3 (.int .i64 x)] w λy w'=>y=.returned (.tuple #[])/\PoolAt w' pb g (h++[x]) cap/\Two pb g w w':=by
 obtain⟨rest,aR,hcap⟩:=p.row
 obtain⟨r0,rest',rfl⟩:∃r0 r',rest=r0::r':=by
  cases rest with
  |nil=>simp at hcap;omega
  |cons a b=>exact⟨a,b,rfl⟩
 obtain⟨j0,ji,jz0,jz1,jz2⟩:=info_parts info_i
 have hdc:=p.head.cell 0
 simp only[List.getElem?_cons_zero]at hdc
 have hdf:=p.head.frozen 0
 have pl:=p.lt
 have pne:=p.ne
 have few:=p.few
 have hg1:w.cell? ⟨g,h.length,none⟩=some r0:=by
  rw[aR.cell,List.getElem?_append_right (by unfold ints;rw[List.length_map];exact Nat.le_refl _)]
  unfold ints
  rw[List.length_map,Nat.sub_self]
  rfl
 have hg2:=aR.frozen h.length
 have ta:∀w:World,(Instr.typeAssert (.iface 3 (.int .i64 x)) 20 3 false).run Tryz.prog w=.ok (.int .i64 x) w:=λw=>by kernel_rfl
 have hroom:h.length+1<=cap:=hc
 have HA:=hide aR
 have HD:=hide p.head
 clear aR p
 go_enter Tryz.func270,Tryz.ntmps270
 go_upto_region 0 with fail
 go_region
 go_end0
 have e:ints (h++[x])++rest'=(ints h++r0::rest').set h.length (.int .i64 x):=by
  unfold ints
  rw[List.map_append,List.set_append_right _ _ (by rw[List.length_map];exact Nat.le_refl _),List.length_map,Nat.sub_self,List.append_assoc]
  rfl
 have a1:At (w.setCell ⟨g,h.length,none⟩ (.int .i64 x)) pb 188 [.slice (some ⟨g,0,none⟩) h.length cap]:=HD.out.set_other (a:=⟨g,h.length,none⟩) pne _
 have a2:At ((w.setCell ⟨g,h.length,none⟩ (.int .i64 x)).setCell ⟨pb,0,none⟩ (.slice (some ⟨g,0,none⟩) (h.length+1) cap)) pb 188 [.slice (some ⟨g,0,none⟩) (h++[x]).length cap]:=by rw[List.length_append];exact a1.set 0 _
 have a3:At ((w.setCell ⟨g,h.length,none⟩ (.int .i64 x)).setCell ⟨pb,0,none⟩ (.slice (some ⟨g,0,none⟩) (h.length+1) cap)) g 3 (ints (h++[x])++rest'):=by
  rw[e]
  exact(HA.out.set h.length _).set_other (a:=⟨pb,0,none⟩) (λx=>pne x.symm) _
 have B:∀k,k≠pb->k≠g->((w.setCell ⟨g,h.length,none⟩ (.int .i64 x)).setCell ⟨pb,0,none⟩ (.slice (some ⟨g,0,none⟩) (h.length+1) cap)).heap[k]?=w.heap[k]?:=λk h1 h2=>(heap_setCell_other _ ⟨pb,0,none⟩ k _ h1).trans (heap_setCell_other _ ⟨g,h.length,none⟩ k _ h2)
 have zz:((w.setCell ⟨g,h.length,none⟩ (.int .i64 x)).setCell ⟨pb,0,none⟩ (.slice (some ⟨g,0,none⟩) (h.length+1) cap)).heap.size=w.heap.size:=by rw[World.size_setCell,World.size_setCell]
 refine⟨rfl,⟨(a2.alloc _).of_block rfl,⟨rest',(a3.alloc _).of_block rfl,by rw[List.length_append];simp at hcap ⊢;omega⟩,pne,by rw[List.length_append];exact hf⟩,⟨rfl,rfl,rfl,?_,λk hk h1 h2=>?_⟩⟩
 · show w.heap.size<=(World.alloc _ _).heap.size
   rw[size_alloc,zz]
   omega
 · exact(heap_alloc_old _ _ _ (by rw[zz];exact hk)).trans (B k h1 h2)
theorem popm_c{w:World}{pb g:Nat}{h:List Int}{cap:Nat}(p:PoolAt w pb g h cap){n:Nat}(hn:h.length=n+1):
 Calls Tryz.prog 269 #[.pointer (some ⟨pb,0,none⟩)] w λy w'=>y=.returned (.iface 3 (.int .i64 (hg h n)))/\PoolAt w' pb g (h.take n) cap/\Two pb g w w':=by
 obtain⟨rest,aR,hcap⟩:=p.row
 have hdc:=p.head.cell 0
 simp only[List.getElem?_cons_zero]at hdc
 have hdf:=p.head.frozen 0
 have pl:=p.lt
 have pne:=p.ne
 have few:=p.few
 have c1:=p.cell (k:=n) (by omega)
 have hcn:n<=cap:=by omega
 have e1:wrap64 ((h.length:Int)-1)=(n:Int):=by unfold wrap64;omega
 have hl:(n:Int)<(h.length:Int):=by omega
 have HA:=hide aR
 have HD:=hide p.head
 have HN:=hide hn
 have HF:=hide few
 have HC:=hide hcap
 clear aR p hn few hcap
 go_enter Tryz.func269,Tryz.ntmps269
 go_wp2_with fail
 go_ret
 have hn:=HN.out
 have few:=HF.out
 have hcap:=HC.out
 have e:ints (h.take n)++(ints (h.drop n)++rest)=ints h++rest:=by
  unfold ints
  rw[<-List.append_assoc,<-List.map_append,List.take_append_drop]
 have lt:(h.take n).length=n:=by rw[List.length_take];omega
 refine⟨rfl,⟨by rw[lt];exact HD.out.set 0 _,⟨ints (h.drop n)++rest,by rw[e];exact HA.out.set_other (a:=⟨pb,0,none⟩) (λx=>pne x.symm) _,?_⟩,pne,by rw[lt];omega⟩,⟨rfl,rfl,rfl,by rw[World.size_setCell];exact Nat.le_refl _,λk hk h1 h2=>heap_setCell_other _ _ _ _ h1⟩⟩
 rw[lt,List.length_append]
 unfold ints
 rw[List.length_map,List.length_drop]
 omega
end Y
end
section
namespace K
open R (Tok tk isStop)
theorem more_run(s:ByteArray)(m:Nat):∀i f:Nat,m=s.size-i->i<=s.size->more s (m+1) i (f:Int)=⟨s.extract f (runOf mid s i),f⟩::more s (s.size+1-runOf mid s i) (runOf mid s i) (-1):=by
 induction m with
 |zero=>
  intro i f hm hi
  have e:i=s.size:=by omega
  subst e
  rw[run_end (by omega),more_shut (stop_size s),show s.size+1-s.size=0+1 from by omega]
 |succ m ih=>
  intro i f hm hi
  have h:i<s.size:=by omega
  cases e:mid s[i]with
  |true=>rw[more_on h e,ih (i+1) f (by omega) (by omega),run_step h e]
  |false=>
   have hs:isStop s i=true:=by
    rw[stop_at h]
    unfold mid at e
    revert e
    cases blank s[i]<;>cases brak s[i]<;>decide
   rw[run_stop h e,more_shut hs,show s.size+1-i=m+1+1 from by omega]
def from_(s:ByteArray)(i:Nat):List Tok:=more s (s.size+1-i) i (-1)++[⟨⟨#[]⟩,s.size⟩]
theorem scan_blank{s:ByteArray}{i:Nat}(h:i<s.size)(hb:blank s[i]=true):scan s i=scan s (i+1):=by
 unfold scan;rw[run_step h hb]
theorem extract_self(s:ByteArray)(i:Nat):s.extract i i=⟨#[]⟩:=by
 apply ByteArray.ext
 simp
theorem scan_size(s:ByteArray):scan s s.size=⟨⟨#[]⟩,s.size⟩:=by
 unfold scan endTok
 rw[run_end (p:=blank) (by omega),run_end (p:=mid) (by omega),if_neg (by omega),extract_self]
theorem from_size(s:ByteArray):from_ s s.size=[⟨⟨#[]⟩,s.size⟩]:=by
 unfold from_
 rw[show s.size+1-s.size=0+1 from by omega,more_end]
 rfl
theorem from_step(s:ByteArray)(m:Nat):∀i,m=s.size-i->i<=s.size→
 (scan s i=⟨⟨#[]⟩,s.size⟩/\from_ s i=[⟨⟨#[]⟩,s.size⟩])∨
 ∃a e:Nat,a<e/\e<=s.size/\i<=a/\scan s i=⟨s.extract a e,a⟩/\from_ s i=⟨s.extract a e,a⟩::from_ s e:=by
 induction m with
 |zero=>
  intro i hm hi
  have e:i=s.size:=by omega
  subst e
  exact Or.inl ⟨scan_size s,from_size s⟩
 |succ m ih=>
  intro i hm hi
  have h:i<s.size:=by omega
  cases eb:blank s[i]with
  |true=>
   have e1:=scan_blank h eb
   have e2:from_ s i=from_ s (i+1):=by
    unfold from_
    rw[show s.size+1-i=(s.size+1-(i+1))+1 from by omega,more_blank h eb]
   rw[e1,e2]
   rcases ih (i+1) (by omega) (by omega)with h' |⟨a,e,h1,h2,h3,h4⟩
   · exact Or.inl h'
   · exact Or.inr ⟨a,e,h1,h2,by omega,h4⟩
  |false=>
   right
   have ra:runOf blank s i=i:=run_stop h eb
   cases ek:brak s[i]with
   |true=>
    have em:runOf mid s i=i:=run_stop h (by unfold mid;rw[ek];simp)
    refine⟨i,i+1,by omega,by omega,Nat.le_refl _,?_,?_⟩
    · unfold scan endTok
      rw[ra,em,if_pos ⟨rfl,h⟩]
    · unfold from_
      rw[show s.size+1-i=(s.size+1-(i+1))+1 from by omega,more_brak h ek]
      rfl
   |false=>
    have hm':mid s[i]=true:=by unfold mid;rw[eb,ek];rfl
    have em:runOf mid s i=runOf mid s (i+1):=run_step h hm'
    have hl:=run_le (p:=mid) (s:=s) (i:=i+1) (by omega)
    refine⟨i,runOf mid s (i+1),by omega,hl.2,Nat.le_refl _,?_,?_⟩
    · unfold scan endTok
      rw[ra,em,if_neg (by omega)]
    · unfold from_
      rw[show s.size+1-i=(s.size+1-(i+1))+1 from by omega,more_word h hm',show s.size+1-(i+1)=(s.size-(i+1))+1 from by omega,more_run s _ (i+1) i rfl (by omega)]
      rfl
theorem extract_size(s:ByteArray)(a e:Nat)(h:e<=s.size)(h':a<=e):(s.extract a e).size=e-a:=by
 rw[ByteArray.size_extract]
 omega
def Ch(s:ByteArray):List Tok->Prop
 |[]=>False
 |[t]=>t=⟨⟨#[]⟩,s.size⟩
 |t::u::r=>(∃p:Nat,t.p=p/\p+t.s.size<=s.size/\scan s (p+t.s.size)=u)/\Ch s (u::r)
theorem from_ch(s:ByteArray)(m:Nat):∀i,m=s.size-i->i<=s.size->Ch s (from_ s i)/\∃r,from_ s i=scan s i::r:=by
 induction m using Nat.strongRecOn with
 |_ m ih=>
  intro i hm hi
  rcases from_step s m i hm hi with⟨h1,h2⟩|⟨a,e,h1,h2,h3,h4,h5⟩
  · rw[h2,h1]
    exact⟨rfl,[],rfl⟩
  · obtain⟨c,r,hr⟩:=ih (s.size-e) (by omega) e rfl h2
    refine⟨?_,from_ s e,by rw[h5,h4]⟩
    rw[h5,hr]
    refine⟨⟨a,rfl,?_,?_⟩,by rw[<-hr];exact c⟩
    · show a+(s.extract a e).size<=s.size
      rw[extract_size s a e h2 (by omega)];omega
    · show scan s (a+(s.extract a e).size)=scan s e
      rw[extract_size s a e h2 (by omega),show a+(e-a)=e from by omega]
theorem ch_next{s:ByteArray}:∀(l:List Tok),Ch s l->∀i,i<l.length->∃p:Nat,(tk l i).p=p/\p+(tk l i).s.size<=s.size/\scan s (p+(tk l i).s.size)=tk l (nx l i)
 |[],h,_,_=>h.elim
 |[t],h,i,hi=>by
  have e:i=0:=by simp at hi;omega
  subst e
  have h':t=⟨⟨#[]⟩,s.size⟩:=h
  subst h'
  refine⟨s.size,rfl,by show s.size+0<=s.size;omega,?_⟩
  show scan s (s.size+0)=_
  rw[Nat.add_zero,scan_size]
  rfl
 |t::u::r,h,i,hi=>by
  obtain⟨h1,h2⟩:=h
  cases i with
  |zero=>
   obtain⟨p,e1,e2,e3⟩:=h1
   refine⟨p,e1,e2,?_⟩
   have:nx (t::u::r) 0=1:=by unfold nx;rw[if_pos (by simp)]
   rw[this]
   exact e3
  |succ i=>
   obtain⟨p,e1,e2,e3⟩:=ch_next (u::r) h2 i (by simpa using hi)
   refine⟨p,e1,e2,?_⟩
   have:nx (t::u::r) (i+1)=nx (u::r) i+1:=by
    unfold nx
    simp only[List.length_cons]
    split<;>split<;>omega
   rw[this]
   exact e3
theorem toks_from(s:ByteArray):R.toks s=from_ s 0:=by rw[toks_more];rfl
theorem scans_toks{s:ByteArray}(hs:s.size<=800):Scans s (R.toks s):=by
 have hl:=R.toks_len s
 obtain⟨c,r,hr⟩:=from_ch s s.size 0 (by omega) (Nat.zero_le _)
 rw[<-toks_from]at c hr
 refine⟨hs,hl.2,by omega,?_,?_,ch_next _ c⟩
 · rw[hr];rfl
 · unfold R.toks
   exact R.tk_last _ _
end K
end
end Go.Proofs.YtejbgcloblpbfaaGreatDoor
