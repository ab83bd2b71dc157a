import Derived.Test.YtejbgcloblpbfaaGreatDoorG01
import Derived.Deep.DeepCutAuto
import Derived.Deep.LoopGhost
import Derived.Deep.CutBlock
set_option maxHeartbeats 1000000
namespace Go.Proofs.YtejbgcloblpbfaaGreatDoor
section
open Go.RowKit
open R (Tok Thing Nd PS)
abbrev P(b:Nat):Value:=.pointer (some ⟨b,0,none⟩)
theorem Rep.c1{w:World}{b:Nat}{T:List Tok}{J:PS}{r:RV}(h:Rep w b T J r)(i:Nat)(v:Value)(e:(pcs J r)[i]?=some v):w.cell? ⟨b,i,none⟩=some v:=by
 rw[h.cells.cell,e]
theorem fail_w(b:Nat)(e p E Q:Int)(w:World)(c2:w.cell? ⟨b,2,none⟩=some (.int .i64 E))(c3:w.cell? ⟨b,3,none⟩=some (.int .i64 Q))(f2:w.frozen? ⟨b,2,none⟩=false)(f3:w.frozen? ⟨b,3,none⟩=false):
 Calls Tryz.prog 41 #[P b,.int .i64 e,.int .i64 p] w λx w'=>x=.returned (.tuple #[])/\w'=if E=0 then(w.setCell ⟨b,2,none⟩ (.int .i64 e)).setCell ⟨b,3,none⟩ (.int .i64 p)else w:=by
 by_cases h:E=0
 · subst h
   go_enter Tryz.func41,Tryz.ntmps41
   go_wp2
   go_end0
   exact⟨rfl,rfl⟩
 · have hb:(E==0)=false:=by simpa using h
   rw[if_neg h]
   go_enter Tryz.func41,Tryz.ntmps41
   go_wp2
   go_end0
   exact⟨rfl,rfl⟩
theorem fail_c{w:World}{b:Nat}{T:List Tok}{J:PS}{r:RV}(h:Rep w b T J r)(e p:Int):
 Calls Tryz.prog 41 #[P b,.int .i64 e,.int .i64 p] w λx w'=>x=.returned (.tuple #[])/\Rep w' b T (R.fail e p J) r/\Moves b w w':=by
 refine(fail_w b e p J.err J.place w (h.c1 2 _ rfl) (h.c1 3 _ rfl) (h.cells.frozen 2) (h.cells.frozen 3)).mono ?_
 rintro x w' ⟨rfl,rfl⟩
 refine⟨rfl,?_⟩
 unfold R.fail
 by_cases hE:J.err=0
 · rw[if_pos hE,if_pos hE]
   exact h.scalar ((h.cells.set 2 _).set 3 _) (((But.refl b w).set 2 _).set 3 _) rfl rfl rfl rfl h.lt
 · rw[if_neg hE,if_neg hE]
   exact⟨h,Moves.refl _ _⟩
theorem Rep.tok{w:World}{b:Nat}{T:List Tok}{J:PS}{r:RV}(h:Rep w b T J r)(i:Nat)(hi:i<T.length):
 ∃g cap,r.W=.slice (some ⟨g,0,none⟩) T.length cap/\g<w.heap.size/\w.cell? ⟨g,i*2,none⟩=some (.string (R.tk T i).s)/\w.cell? ⟨g,i*2+1,none⟩=some (.int .i64 (R.tk T i).p):=by
 obtain⟨hl,h' |⟨g,cap,cur,hv,_,hg,hc,_,hs,hx⟩⟩:=h.toks
 · omega
 · refine⟨g,cap,hv,heap_lt hg,?_⟩
   have key:∀j,j<2->cur[i*2+j]?=(T.flatMap tokCells)[i*2+j]?:=by
    intro j hj
    rw[<-hx,List.getElem?_take_of_lt (by omega)]
    simp
   have flat:∀(l:List Tok) (i:Nat) (j:Nat),j<2->i<l.length->(l.flatMap tokCells)[i*2+j]?=(tokCells (R.tk l i))[j]?:=by
    intro l
    induction l with
    |nil=>intro i j _ hi;simp at hi
    |cons t l ih=>
     intro i j hj hi
     cases i with
     |zero=>
      rw[List.flatMap_cons,List.getElem?_append_left (by simp[tokCells];omega)]
      simp[R.tk]
     |succ i=>
      rw[List.flatMap_cons,List.getElem?_append_right (by simp[tokCells];omega)]
      have:(i+1)*2+j-(tokCells t).length=i*2+j:=by simp[tokCells];omega
      rw[this,ih i j hj (by simpa using hi)]
      simp[R.tk]
   have k0:=key 0 (by omega)
   have k1:=key 1 (by omega)
   rw[flat T i 0 (by omega) hi]at k0
   rw[flat T i 1 (by omega) hi]at k1
   constructor
   · simp[World.cell?,hg];simpa[tokCells]using k0
   · simp[World.cell?,hg];simpa[tokCells]using k1
theorem take_w(b g I n cap:Nat)(s:ByteArray)(q:Int)(w:World)(hI:I<n)(hn:n<=1000)(hb:b<w.heap.size)(hg:g<w.heap.size)(c0:w.cell? ⟨b,0,none⟩=some (.slice (some ⟨g,0,none⟩) n cap))(c1:w.cell? ⟨b,1,none⟩=some (.int .i64 I))(f1:w.frozen? ⟨b,1,none⟩=false)(k0:w.cell? ⟨g,I*2,none⟩=some (.string s))(k1:w.cell? ⟨g,I*2+1,none⟩=some (.int .i64 q)):
 Calls Tryz.prog 59 #[P b] w λx w'=>x=.returned (.agg #[.string s,.int .i64 q])/\But b w w'∧
  ∀t cs,At w b t cs->At w' b t (if I+1<n then cs.set 1 (.int .i64 ((I+1:Nat):Int))else cs):=by
 by_cases hl:I+1<n
 · have hl':(I:Int)<(n:Int)-1:=by omega
   go_enter Tryz.func59,Tryz.ntmps59
   go_wp2
   go_region
   go_wp2
   go_region
   go_wp2
   exact bodyPost_ret (v:=.agg #[.string s,.int .i64 q]) (by simp[results,Tryz.results59,go_sem]) rfl
    ⟨rfl,((((But.refl b w).set 1 _).alloc _).alloc _).drew.drew,λt cs hat=>(((hat.set 1 _).alloc _).alloc _).drew.drew⟩
 · have hl':¬(I:Int)<(n:Int)-1:=by omega
   go_enter Tryz.func59,Tryz.ntmps59
   go_wp2
   go_region
   go_wp2
   go_region
   go_wp2
   exact bodyPost_ret (v:=.agg #[.string s,.int .i64 q]) (by simp[results,Tryz.results59,go_sem]) rfl
    ⟨rfl,(((But.refl b w).alloc _).alloc _).drew.drew,λt cs hat=>((hat.alloc _).alloc _).drew.drew⟩
theorem take_c{w:World}{b:Nat}{T:List Tok}{J:PS}{r:RV}(h:Rep w b T J r):
 Calls Tryz.prog 59 #[P b] w λx w'=>x=.returned (.agg #[.string (R.tk T J.i).s,.int .i64 (R.tk T J.i).p])/\Rep w' b T (R.take T J) r/\Moves b w w':=by
 obtain⟨g,cap,hW,hg,k0,k1⟩:=h.tok J.i h.lt
 refine(take_w b g J.i T.length cap _ _ w h.lt h.few h.cells.lt hg (h.c1 0 _ (by rw[<-hW];rfl)) (h.c1 1 _ rfl) (h.cells.frozen 1) k0 k1).mono ?_
 rintro x w' ⟨rfl,hb,hat⟩
 refine⟨rfl,?_⟩
 have hat':=hat _ _ h.cells
 unfold R.take
 by_cases hl:J.i+1<T.length
 · rw[if_pos hl]at hat' ⊢
   exact h.scalar hat' hb rfl rfl rfl rfl hl
 · rw[if_neg hl]at hat' ⊢
   exact h.scalar hat' hb rfl rfl rfl rfl h.lt
theorem peek_w(b g I n cap:Nat)(s:ByteArray)(q:Int)(w:World)(hI:I<n)(hb:b<w.heap.size)(hg:g<w.heap.size)(c0:w.cell? ⟨b,0,none⟩=some (.slice (some ⟨g,0,none⟩) n cap))(c1:w.cell? ⟨b,1,none⟩=some (.int .i64 I))(k0:w.cell? ⟨g,I*2,none⟩=some (.string s))(k1:w.cell? ⟨g,I*2+1,none⟩=some (.int .i64 q)):
 Calls Tryz.prog 43 #[P b] w λx w'=>x=.returned (.agg #[.string s,.int .i64 q])/\But b w w'/\∀t cs,At w b t cs->At w' b t cs:=by
 go_enter Tryz.func43,Tryz.ntmps43
 go_wp2
 go_region
 go_wp2
 exact bodyPost_ret (v:=.agg #[.string s,.int .i64 q]) (by simp[results,Tryz.results43,go_sem]) rfl
  ⟨rfl,((But.refl b w).alloc _).drew,λt cs hat=>(hat.alloc _).drew⟩
theorem peek_c{w:World}{b:Nat}{T:List Tok}{J:PS}{r:RV}(h:Rep w b T J r):
 Calls Tryz.prog 43 #[P b] w λx w'=>x=.returned (.agg #[.string (R.tk T J.i).s,.int .i64 (R.tk T J.i).p])/\Rep w' b T J r/\Moves b w w':=by
 obtain⟨g,cap,hW,hg,k0,k1⟩:=h.tok J.i h.lt
 refine(peek_w b g J.i T.length cap _ _ w h.lt h.cells.lt hg (h.c1 0 _ (by rw[<-hW];rfl)) (h.c1 1 _ rfl) k0 k1).mono ?_
 rintro x w' ⟨rfl,hb,hat⟩
 exact⟨rfl,h.scalar (hat _ _ h.cells) hb rfl rfl rfl rfl h.lt⟩
theorem want_c{w:World}{b:Nat}{T:List Tok}{J:PS}{r:RV}(h:Rep w b T J r)(s:ByteArray):
 Calls Tryz.prog 46 #[P b,.string s] w λx w'=>x=.returned (.int .i64 (R.tk T J.i).p)/\Rep w' b T (R.want T s.toList J) r/\Moves b w w':=by
 have ht:=take_c h
 have nb:=h.cells.lt
 unfold R.want
 generalize R.tk T J.i=t at*
 obtain⟨ts,tp⟩:=t
 have H:=h
 clear h
 by_cases hs:ts.toList=s.toList
 · rw[if_pos hs]
   go_enter Tryz.func46,Tryz.ntmps46
   go_wp2_with (go_at_call 59;refine ht.mono ?_;rintro x w1 ⟨rfl,hr,hm⟩)
   go_ret
   exact⟨rfl,hr.alloc _,hm.alloc _⟩
 · rw[if_neg hs]
   have hs':=beq_no hs
   clear hs
   go_enter Tryz.func46,Tryz.ntmps46
   go_wp2_with (go_at_call 59;refine ht.mono ?_;rintro x w1 ⟨rfl,hr,hm⟩)
   refine(fail_c (hr.alloc _) 2 tp).mono ?_
   rintro x w2 ⟨rfl,hr2,hm2⟩
   have d1:=((hr.box _ _).moves hm2).c 1 _ rfl
   go_wp2_with fail
   go_ret
   exact⟨rfl,hr2,(hm.alloc _).trans hm2⟩
theorem open_c{w:World}{b:Nat}{T:List Tok}{J:PS}{r:RV}(h:Rep w b T J r)(n1: -100<=J.nest)(n2:J.nest<=100):
 Calls Tryz.prog 58 #[P b] w λx w'=>x=.returned (.int .i64 (R.tk T J.i).p)/\Rep w' b T (R.opens T J) r/\Moves b w w':=by
 have ht:=want_c h ⟨#[40]⟩
 have hl:(⟨#[40]⟩:ByteArray).toList=[40]:=by decide +kernel
 rw[hl]at ht
 have hn:=R.want_nest T [40] J
 have nb:=h.cells.lt
 unfold R.opens R.open1
 generalize R.want T [40] J=J1 at*
 generalize(R.tk T J.i).p=tp at*
 clear h
 rw[<-hn]at n1 n2 ⊢
 clear hn
 by_cases hs:J1.nest=10
 · rw[if_pos hs]
   have hs':=beq_yes hs
   clear hs
   go_enter Tryz.func58,Tryz.ntmps58
   go_wp2_with (go_at_call 46;refine ht.mono ?_;rintro x w1 ⟨rfl,hr,hm⟩;have q1:=hr.c1 10 _ rfl)
   refine(fail_c hr 6 tp).mono ?_
   rintro x w2 ⟨rfl,hr2,hm2⟩
   have hn:=R.fail_nest 6 tp J1
   rw[<-hn]at n1 n2
   have q3:=hr2.c1 10 _ rfl
   have q2:=hr2.cells.frozen 10
   have Hn:=hide hn
   clear hn q1
   go_wp2_with fail
   go_ret
   refine⟨rfl,?_⟩
   have:=hr2.scalar (J':=R.up (R.fail 6 tp J1)) (hr2.cells.set 10 _) ((But.refl b w2).set 10 _) rfl rfl rfl rfl hr2.lt
   exact⟨this.1,(hm.trans hm2).trans this.2⟩
 · rw[if_neg hs]
   have hs':=beq_no hs
   clear hs
   go_enter Tryz.func58,Tryz.ntmps58
   go_wp2_with (go_at_call 46;refine ht.mono ?_;rintro x w1 ⟨rfl,hr,hm⟩;have q1:=hr.c1 10 _ rfl;have q2:=hr.cells.frozen 10)
   go_ret
   refine⟨rfl,?_⟩
   have:=hr.scalar (J':=R.up J1) (hr.cells.set 10 _) ((But.refl b w1).set 10 _) rfl rfl rfl rfl hr.lt
   exact⟨this.1,hm.trans this.2⟩
theorem shut_c{w:World}{b:Nat}{T:List Tok}{J:PS}{r:RV}(h:Rep w b T J r)(n1: -100<=J.nest)(n2:J.nest<=100):
 Calls Tryz.prog 61 #[P b] w λx w'=>x=.returned (.tuple #[])/\Rep w' b T (R.shut T J) r/\Moves b w w':=by
 have ht:=want_c h ⟨#[41]⟩
 have hl:(⟨#[41]⟩:ByteArray).toList=[41]:=by decide +kernel
 rw[hl]at ht
 have hn:=R.want_nest T [41] J
 unfold R.shut
 have c2:=h.c1 2 _ rfl
 by_cases hs:J.err=0
 · rw[if_pos hs]
   have hs':=beq_yes hs
   clear hs
   generalize R.want T [41] J=J1 at*
   rw[<-hn]at n1 n2
   clear hn
   go_enter Tryz.func61,Tryz.ntmps61
   go_wp2_with (go_at_call 46;refine ht.mono ?_;rintro x w1 ⟨rfl,hr,hm⟩;have q1:=hr.c1 10 _ rfl;have q2:=hr.cells.frozen 10)
   go_end0
   refine⟨rfl,?_⟩
   have:=hr.scalar (J':=R.down J1) (hr.cells.set 10 _) ((But.refl b w1).set 10 _) rfl rfl rfl rfl hr.lt
   exact⟨this.1,hm.trans this.2⟩
 · rw[if_neg hs]
   have hs':=beq_no hs
   clear hs ht
   have q1:=h.c1 10 _ rfl
   have q2:=h.cells.frozen 10
   go_enter Tryz.func61,Tryz.ntmps61
   go_wp2_with fail
   go_end0
   refine⟨rfl,?_⟩
   exact h.scalar (J':=R.down J) (h.cells.set 10 _) ((But.refl b w).set 10 _) rfl rfl rfl rfl h.lt
theorem leaks_c{w:World}{b:Nat}{T:List Tok}{J:PS}{r:RV}(h:Rep w b T J r)(p:Int)(is:Bool):
 Calls Tryz.prog 79 #[P b,.int .i64 p,.bool is] w λx w'=>x=.returned (.tuple #[])/\Rep w' b T (R.leaks p is J) r/\Moves b w w':=by
 have q1:=h.c1 13 _ rfl
 have q2:=h.cells.frozen 13
 unfold R.leaks
 cases is with
 |false=>
  rw[if_neg (by simp)]
  go_enter Tryz.func79,Tryz.ntmps79
  go_wp2
  go_end0
  exact⟨rfl,h,Moves.refl _ _⟩
 |true=>
  by_cases l1:J.leak<0
  · rw[if_pos (by simp[l1])]
    go_enter Tryz.func79,Tryz.ntmps79
    go_wp2
    go_end0
    exact⟨rfl,h.scalar (h.cells.set 13 _) ((But.refl b w).set 13 _) rfl rfl rfl rfl h.lt⟩
  · by_cases l2:p<J.leak
    · rw[if_pos (by simp[l2])]
      go_enter Tryz.func79,Tryz.ntmps79
      go_wp2
      go_end0
      exact⟨rfl,h.scalar (h.cells.set 13 _) ((But.refl b w).set 13 _) rfl rfl rfl rfl h.lt⟩
    · rw[if_neg (by simp[l1,l2])]
      go_enter Tryz.func79,Tryz.ntmps79
      go_wp2
      go_end0
      exact⟨rfl,h,Moves.refl _ _⟩
theorem ret_int{a b:Int}(h:a=b):Ending.returned (.int .i64 a)=.returned (.int .i64 b):=by rw[h]
theorem ret_bool{a b:Bool}(h:a=b):Ending.returned (.bool a)=.returned (.bool b):=by rw[h]
theorem kw_hit{s:ByteArray}(k:Nat)(l:List UInt8)(hk:R.kws[k]?=some l)(h:(s.toList==l)=true):R.isName s=false:=by
 unfold R.isName
 rw[eq_of_beq h,show R.kws.contains l=true from List.contains_iff_mem.2 (List.mem_of_getElem? hk)]
 rfl
theorem kw_next{s:ByteArray}(k:Nat)(l:List UInt8)(hk:R.kws[k]?=some l)(hn:Hid (∀j,j<k->R.kws[j]?≠some s.toList))(h:(s.toList==l)=false):∀j,j<k+1->R.kws[j]?≠some s.toList:=by
 intro j hj
 rcases Nat.lt_succ_iff_lt_or_eq.1 hj with h' |rfl
 · exact hn j h'
 · rw[hk]
   intro e
   rw[Option.some.inj e]at h
   simp at h
theorem kw_none{s:ByteArray}(hn:Hid (∀j,j<9->R.kws[j]?≠some s.toList)):R.kws.contains s.toList=false:=by
 rw[Bool.eq_false_iff]
 intro h
 obtain⟨j,hj,e⟩:=List.getElem_of_mem (List.contains_iff_mem.1 h)
 exact hn j hj (by rw[List.getElem?_eq_getElem hj,e])
theorem take_snoc(s:ByteArray)(k:Nat)(h:k<s.size):s.data.toList.take (k+1)=s.data.toList.take k++[s[k]]:=by
 rw[List.take_succ_eq_append_getElem (by simpa using h)];rfl
theorem name_bad{s:ByteArray}{m:Nat}(hlt:m<s.size)(h:R.low s[m]=false):R.isName s=false:=by
 have:s.data.toList.all R.low=false:=by
  rw[List.all_eq_false]
  exact⟨s[m],Array.getElem_mem_toList hlt,by simp[h]⟩
 unfold R.isName
 rw[this]
 simp
theorem isName_c(s:ByteArray)(w:World)(hs:s.size<=maxLen):
 Calls Tryz.prog 75 #[.string s] w λx w'=>x=.returned (.bool (R.isName s))/\∃o,w'=w.alloc o:=by
 unfold maxLen at hs
 go_enter Tryz.func75,Tryz.ntmps75
 go_wp2
 go_loop [4] (λi=>∃k:Nat,k<=9/\i=.int .i64 k/\∀j,j<k->R.kws[j]?≠some s.toList) (λi=>9-(intOf i).toNat)
 case atStart=>exact⟨0,by omega,rfl,by omega⟩
 case round=>
  obtain⟨k,hk,rfl,hn⟩:=hrel
  have HN:=hide hn
  clear hn
  obtain rfl |rfl |rfl |rfl |rfl |rfl |rfl |rfl |rfl |rfl:k=9∨k=1∨k=2∨k=3∨k=4∨k=5∨k=6∨k=7∨k=8∨k=0:=by omega
  · go_wp2
    go_loop [5] (λi=>∃m:Nat,m<=s.size/\i=.int .i64 m/\(s.data.toList.take m).all R.low=true) (λi=>s.size-(intOf i).toNat)
    case atStart=>exact⟨0,by omega,rfl,rfl⟩
    case round=>
     obtain⟨m,hm,rfl,ha⟩:=hrel
     have HA:=hide ha
     clear ha
     by_cases hlt:m<s.size
     · have HT:=hide (take_snoc s m hlt)
       go_wp2
       · go_ret
         exact⟨ret_bool (name_bad hlt (by simp[R.low];omega)).symm,_,rfl⟩
       · exact⟨⟨m+1,by omega,by go_num,by rw[HT.out,List.all_append,HA.out];simp[R.low];omega⟩,by simp[intOf];omega⟩
       · go_ret
         exact⟨ret_bool (name_bad hlt (by simp[R.low];omega)).symm,_,rfl⟩
     · have HE:=hide (show s.data.toList.all R.low=true from by have:=HA.out;rwa[List.take_of_length_le (by simp;omega)]at this)
       have HK:=hide (kw_none HN)
       go_wp2
       · go_ret
         exact⟨ret_bool (by have h0:decide (1<=s.size)=true:=by simpa using(by omega:1<=s.size)
                            unfold R.isName;rw[HE.out,HK.out,h0]
                            show _=decide (s.size<=6)
                            exact decide_eq_decide.2 (by omega)),_,rfl⟩
       · go_ret
         exact⟨ret_bool (by have h0:decide (1<=s.size)=false:=by simpa using(by omega:s.size<1)
                            unfold R.isName;rw[HE.out,HK.out,h0];rfl),_,rfl⟩
  · go_wp2
    · go_ret
      exact⟨ret_bool (kw_hit 1 _ rfl ‹_›).symm,_,rfl⟩
    · exact⟨⟨2,by omega,rfl,kw_next 1 _ rfl HN ‹_›⟩,by simp[intOf]⟩
  · go_wp2
    · go_ret
      exact⟨ret_bool (kw_hit 2 _ rfl ‹_›).symm,_,rfl⟩
    · exact⟨⟨3,by omega,rfl,kw_next 2 _ rfl HN ‹_›⟩,by simp[intOf]⟩
  · go_wp2
    · go_ret
      exact⟨ret_bool (kw_hit 3 _ rfl ‹_›).symm,_,rfl⟩
    · exact⟨⟨4,by omega,rfl,kw_next 3 _ rfl HN ‹_›⟩,by simp[intOf]⟩
  · go_wp2
    · go_ret
      exact⟨ret_bool (kw_hit 4 _ rfl ‹_›).symm,_,rfl⟩
    · exact⟨⟨5,by omega,rfl,kw_next 4 _ rfl HN ‹_›⟩,by simp[intOf]⟩
  · go_wp2
    · go_ret
      exact⟨ret_bool (kw_hit 5 _ rfl ‹_›).symm,_,rfl⟩
    · exact⟨⟨6,by omega,rfl,kw_next 5 _ rfl HN ‹_›⟩,by simp[intOf]⟩
  · go_wp2
    · go_ret
      exact⟨ret_bool (kw_hit 6 _ rfl ‹_›).symm,_,rfl⟩
    · exact⟨⟨7,by omega,rfl,kw_next 6 _ rfl HN ‹_›⟩,by simp[intOf]⟩
  · go_wp2
    · go_ret
      exact⟨ret_bool (kw_hit 7 _ rfl ‹_›).symm,_,rfl⟩
    · exact⟨⟨8,by omega,rfl,kw_next 7 _ rfl HN ‹_›⟩,by simp[intOf]⟩
  · go_wp2
    · go_ret
      exact⟨ret_bool (kw_hit 8 _ rfl ‹_›).symm,_,rfl⟩
    · exact⟨⟨9,by omega,rfl,kw_next 8 _ rfl HN ‹_›⟩,by simp[intOf]⟩
  · go_wp2
    · go_ret
      exact⟨ret_bool (kw_hit 0 _ rfl ‹_›).symm,_,rfl⟩
    · exact⟨⟨1,by omega,rfl,kw_next 0 _ rfl HN ‹_›⟩,by simp[intOf]⟩
theorem sign_c(s:ByteArray)(w:World):Calls Tryz.prog 110 #[.string s] w λx w'=>x=.returned (.bool (R.sign s.toList))/\w'=w:=by
 unfold R.sign
 go_enter Tryz.func110,Tryz.ntmps110
 go_wp2
 all_goals
  go_ret
  refine⟨ret_bool ?_,rfl⟩
  simp[*]
theorem find_w(b:Nat)(s:ByteArray)(v:Value)(l:List Thing)(w:World)(hn:l.length<=1000)(c4:w.cell? ⟨b,4,none⟩=some v)(hv:(v=.slice none 0 0/\l.length=0)∨∃g cap,v=.slice (some ⟨g,0,none⟩) l.length cap/\∀(i:Nat) (hi:i<l.length),w.cell? ⟨g,i*5,none⟩=some (.string l[i].name)):
 Calls Tryz.prog 76 #[P b,.string s] w λx w'=>x=.returned (.int .i64 (R.find s.toList l))/\w'=w:=by
 rcases hv with⟨rfl,h0⟩|⟨g,cap,rfl,hc⟩
 · have HF:=hide (R.find_miss (s:=s.toList) (l:=l) (λj hj=>by omega))
   go_enter Tryz.func76,Tryz.ntmps76
   go_wp2
   go_loop [5] (λi=>i=.int .i64 0) (λ_=>0)
   case atStart=>rfl
   case round=>
    subst hrel
    go_wp2
    go_ret
    exact⟨ret_int HF.out.symm,rfl⟩
 · go_enter Tryz.func76,Tryz.ntmps76
   go_wp2
   go_loop [5] (λi=>∃k:Nat,k<=l.length/\i=.int .i64 k/\∀j (hj:j<k) (hl:j<l.length),R.isIt s.toList l[j]=false) (λi=>l.length-(intOf i).toNat)
   case atStart=>exact⟨0,by omega,rfl,λj hj=>by omega⟩
   case round=>
    obtain⟨k,hk,rfl,hno⟩:=hrel
    have HN:=hide hno
    clear hno
    by_cases hlt:k<l.length
    · have hck:=hc k hlt
      go_wp2
      · go_ret
        exact⟨ret_int (R.find_hit hlt ‹_› (λj hj=>HN.out j hj (by omega))).symm,rfl⟩
      · exact⟨⟨k+1,by omega,by go_num,λj hj hl=>by
         rcases Nat.lt_succ_iff_lt_or_eq.1 hj with h' |rfl
         · exact HN.out j h' hl
         · assumption⟩,by simp[intOf];omega⟩
    · go_wp2
      go_ret
      exact⟨ret_int (R.find_miss (λj hj=>HN.out j (by omega) hj)).symm,rfl⟩
theorem Rep.things{w:World}{b:Nat}{T:List Tok}{J:PS}{r:RV}(h:Rep w b T J r):
 (r.S=.slice none 0 0/\J.seen.length=0)∨∃g cap,r.S=.slice (some ⟨g,0,none⟩) J.seen.length cap/\g<w.heap.size/\∀(i:Nat) (hi:i<J.seen.length) (j:Nat),j<5->w.cell? ⟨g,i*5+j,none⟩=(thingCells J.seen[i])[j]?:=by
 by_cases h0:J.seen.length=0
 · obtain⟨hl,h' |⟨g,cap,cur,hv,_,hg,hc,_,hs,hx⟩⟩:=h.seen
   · exact Or.inl h'
   · exact Or.inr ⟨g,cap,hv,heap_lt hg,λi hi=>by omega⟩
 · obtain⟨g,cap,hv,hg,_⟩:=row_cell thingCells (λ_=>rfl) h.seen (i:=0) (List.getElem?_eq_getElem (by omega))
   refine Or.inr ⟨g,cap,hv,hg,λi hi j hj=>?_⟩
   obtain⟨g',cap',hv',hg',hc⟩:=row_cell thingCells (λ_=>rfl) h.seen (i:=i) (List.getElem?_eq_getElem hi)
   rw[hv]at hv'
   simp only[Value.slice.injEq,Option.some.injEq,Addr.mk.injEq]at hv'
   rw[hv'.1.1]
   exact hc j hj
theorem find_c{w:World}{b:Nat}{T:List Tok}{J:PS}{r:RV}(h:Rep w b T J r)(hn:J.seen.length<=1000)(s:ByteArray):
 Calls Tryz.prog 76 #[P b,.string s] w λx w'=>x=.returned (.int .i64 (R.find s.toList J.seen))/\w'=w:=
 find_w b s r.S J.seen w hn (h.c1 4 _ rfl) (by
  rcases h.things with h' |⟨g,cap,hv,_,hc⟩
  · exact Or.inl h'
  · exact Or.inr ⟨g,cap,hv,λi hi=>hc i hi 0 (by omega)⟩)
end
section
open Go.RowKit
theorem usize(u:ByteArray):u.data.toList.length=u.size:=rfl
theorem ext_tail(s:ByteArray):(s.extract 1 s.size).data.toList=s.data.toList.tail:=by
 simp only[ByteArray.data_extract,Array.toList_extract,List.extract_eq_take_drop]
 rw[List.take_of_length_le (by simp),List.drop_one]
theorem ret_two{r:Int×Bool}{a:Int}{b:Bool}(h:r=(a,b)):Ending.returned (.tuple #[.int .i64 a,.bool b])=.returned (.tuple #[.int .i64 r.1,.bool r.2]):=by rw[h]
theorem ret_two'{r:Int×Bool}{a a':Int}{b b':Bool}(h:r=(a,b))(ha:a'=a)(hb:b'=b):Ending.returned (.tuple #[.int .i64 a',.bool b'])=.returned (.tuple #[.int .i64 r.1,.bool r.2]):=by rw[h,ha,hb]
theorem head_0(s:ByteArray)(h:0<s.size):s.data.toList.head?=some s[0]:=by
 rw[List.head?_eq_getElem?,List.getElem?_eq_getElem (by rw[usize];exact h)];rfl
theorem number_c(s:ByteArray)(w:World)(hs:s.size<=maxLen):
 Calls Tryz.prog 109 #[.string s] w λx w'=>x=.returned (.tuple #[.int .i64 (R.number s.data.toList).1,.bool (R.number s.data.toList).2])/\w'=w:=by
 unfold maxLen at hs
 generalize hR:R.number s.data.toList=res
 unfold R.number at hR
 by_cases h0:s.data.toList.head?=some 45
 · rw[if_pos h0,<-ext_tail]at hR
   have h1:0<s.size:=by
    rw[<-usize]
    cases hd:s.data.toList with
    |nil=>rw[hd]at h0;simp at h0
    |cons a l=>simp
   have h3:((s[0].toNat:Int)==45)=true:=by
    rw[head_0 s h1]at h0
    rw[Option.some.inj h0];rfl
   have HR:=hide hR.symm
   clear hR h0
   have hz:(s.extract 1 s.size).size<=2^63-1:=by simp;omega
   go_enter Tryz.func109,Tryz.ntmps109
   go_wp2
   generalize s.extract 1 s.size=u at*
   go_loop [5,6] (λn i=>∃k:Nat,k<=u.size/\k<=9/\i=.int .i64 k/\n=.int .i64 (R.val (u.data.toList.take k))/\(u.data.toList.take k).all R.dig=true) (λ_ i=>u.size-(intOf i).toNat)
   case atStart=>exact⟨0,by omega,by omega,rfl,rfl,rfl⟩
   case round=>
    obtain⟨k,hk,hk9,rfl,rfl,ha⟩:=hrel
    have hb:=R.val_le (l:=u.data.toList.take k) (by rw[List.length_take];omega) ha
    have HA:=hide ha
    clear ha
    by_cases hlt:k<u.size
    · have HT:=hide (take_snoc u k hlt)
      have hmem:Hid (u[k]∈u.data.toList):=Array.getElem_mem_toList hlt
      have hc:=UInt8.toNat_lt u[k]
      go_wp2
      · go_ret2
        exact⟨ret_two (HR.out.trans (R.numOf_long (by rw[usize];omega))),rfl⟩
      · exact⟨⟨k+1,by omega,by omega,by go_num,by rw[HT.out,R.val_snoc],by rw[HT.out,List.all_append,HA.out];simp[R.dig];omega⟩,by simp[intOf];omega⟩
      · go_ret2
        exact⟨ret_two (HR.out.trans (R.numOf_bad hmem.out (by simp[R.dig];omega))),rfl⟩
      · go_ret2
        exact⟨ret_two (HR.out.trans (R.numOf_bad hmem.out (by simp[R.dig];omega))),rfl⟩
    · have hl:u.data.toList.take k=u.data.toList:=List.take_of_length_le (by rw[usize];omega)
      rw[hl]at hb HA ⊢
      have HG:=hide (HR.out.trans (R.numOf_good HA.out (by rw[usize];omega)))
      clear hl
      generalize R.val u.data.toList=V at*
      go_wp2
      go_ret2
      exact⟨ret_two' HG.out (by omega) (by rw[usize]),rfl⟩
 · rw[if_neg h0]at hR
   have HR:=hide hR.symm
   clear hR
   by_cases h1:0<s.size
   · have h3:((s[0].toNat:Int)==45)=false:=by
      rw[head_0 s h1]at h0
      rw[beq_eq_false_iff_ne]
      intro e
      exact h0 (congrArg some (UInt8.toNat_inj.1 (by simpa using(by omega:s[0].toNat=45))))
     clear h0
     go_enter Tryz.func109,Tryz.ntmps109
     go_wp2
     generalize s=u at*
     go_loop [5,6] (λn i=>∃k:Nat,k<=u.size/\k<=9/\i=.int .i64 k/\n=.int .i64 (R.val (u.data.toList.take k))/\(u.data.toList.take k).all R.dig=true) (λ_ i=>u.size-(intOf i).toNat)
     case atStart=>exact⟨0,by omega,by omega,rfl,rfl,rfl⟩
     case round=>
      obtain⟨k,hk,hk9,rfl,rfl,ha⟩:=hrel
      have hb:=R.val_le (l:=u.data.toList.take k) (by rw[List.length_take];omega) ha
      have HA:=hide ha
      clear ha
      by_cases hlt:k<u.size
      · have HT:=hide (take_snoc u k hlt)
        have hmem:Hid (u[k]∈u.data.toList):=Array.getElem_mem_toList hlt
        have hc:=UInt8.toNat_lt u[k]
        go_wp2
        · go_ret2
          exact⟨ret_two (HR.out.trans (R.numOf_long (by rw[usize];omega))),rfl⟩
        · exact⟨⟨k+1,by omega,by omega,by go_num,by rw[HT.out,R.val_snoc],by rw[HT.out,List.all_append,HA.out];simp[R.dig];omega⟩,by simp[intOf];omega⟩
        · go_ret2
          exact⟨ret_two (HR.out.trans (R.numOf_bad hmem.out (by simp[R.dig];omega))),rfl⟩
        · go_ret2
          exact⟨ret_two (HR.out.trans (R.numOf_bad hmem.out (by simp[R.dig];omega))),rfl⟩
      · have hl:u.data.toList.take k=u.data.toList:=List.take_of_length_le (by rw[usize];omega)
        rw[hl]at hb HA ⊢
        have HG:=hide (HR.out.trans (R.numOf_good HA.out (by rw[usize];omega)))
        clear hl
        generalize R.val u.data.toList=V at*
        go_wp2
        go_ret2
        exact⟨ret_two' HG.out (by omega) (decide_eq_true (by rw[usize];exact h1)).symm,rfl⟩
   · clear h0
     go_enter Tryz.func109,Tryz.ntmps109
     go_wp2
     generalize s=u at*
     go_loop [5,6] (λn i=>∃k:Nat,k<=u.size/\k<=9/\i=.int .i64 k/\n=.int .i64 (R.val (u.data.toList.take k))/\(u.data.toList.take k).all R.dig=true) (λ_ i=>u.size-(intOf i).toNat)
     case atStart=>exact⟨0,by omega,by omega,rfl,rfl,rfl⟩
     case round=>
      obtain⟨k,hk,hk9,rfl,rfl,ha⟩:=hrel
      have hb:=R.val_le (l:=u.data.toList.take k) (by rw[List.length_take];omega) ha
      have HA:=hide ha
      clear ha
      by_cases hlt:k<u.size
      · exact absurd hlt (by omega)
      · have hl:u.data.toList.take k=u.data.toList:=List.take_of_length_le (by rw[usize];omega)
        rw[hl]at hb HA ⊢
        have HG:=hide (HR.out.trans (R.numOf_good HA.out (by rw[usize];omega)))
        clear hl
        generalize R.val u.data.toList=V at*
        go_wp2
        go_ret2
        exact⟨ret_two' HG.out (by omega) (decide_eq_false (by rw[usize];exact h1)).symm,rfl⟩
end
section
open Go.RowKit
open R (Tok Thing Nd PS)
theorem fresh_c{w:World}{b:Nat}{T:List Tok}{J:PS}{r:RV}(h:Rep w b T J r)(hT:R.Small T)(hn:J.seen.length<=1000):
 Calls Tryz.prog 60 #[P b] w λx w'=>x=.returned (.string (R.freshS T J))/\Rep w' b T (R.fresh T J) r/\Moves b w w':=by
 have c2:=h.c1 2 _ rfl
 unfold R.fresh R.freshS
 by_cases hE:J.err=0
 · have hE':(J.err==0)=true:=beq_yes hE
   rw[if_pos hE,if_pos hE]
   clear hE
   have ht:=take_c h
   have nb:=h.cells.lt
   have hsz:=hT J.i
   have hse:=R.take_seen T J
   generalize R.tk T J.i=t at*
   obtain⟨ts,tp⟩:=t
   dsimp only at*
   have isn:=λw=>isName_c ts w (by unfold maxLen;omega)
   generalize R.take T J=J1 at*
   rw[<-hse]at hn ⊢
   clear hse h
   by_cases hN:R.isName ts=true
   · rw[if_pos hN]
     rw[hN]at isn
     by_cases hF:0<=R.find ts.toList J1.seen
     · rw[if_pos hF]
       go_enter Tryz.func60,Tryz.ntmps60
       go_wp2_with (go_at_call 59;refine ht.mono ?_;rintro x w1 ⟨rfl,hr,hm⟩)
       refine(isn _).mono ?_
       rintro x w2 ⟨rfl,o,rfl⟩
       go_wp2_with fail
       refine(find_c ((hr.alloc _).alloc _) hn ts).mono ?_
       rintro x w3 ⟨rfl,rfl⟩
       go_wp2_with fail
       refine(fail_c ((hr.alloc _).alloc _) 4 tp).mono ?_
       rintro x w4 ⟨rfl,hr2,hm2⟩
       have d0:=(((hr.box _ _).alloc _).moves hm2).c 0 _ rfl
       go_wp2_with fail
       go_ret
       exact⟨rfl,hr2,((hm.alloc _).alloc _).trans hm2⟩
     · rw[if_neg hF]
       go_enter Tryz.func60,Tryz.ntmps60
       go_wp2_with (go_at_call 59;refine ht.mono ?_;rintro x w1 ⟨rfl,hr,hm⟩)
       refine(isn _).mono ?_
       rintro x w2 ⟨rfl,o,rfl⟩
       go_wp2_with fail
       refine(find_c ((hr.alloc _).alloc _) hn ts).mono ?_
       rintro x w3 ⟨rfl,rfl⟩
       go_wp2_with fail
       go_ret
       exact⟨rfl,(hr.alloc _).alloc _,(hm.alloc _).alloc _⟩
   · rw[if_neg hN]
     rw[Bool.not_eq_true]at hN
     rw[hN]at isn
     go_enter Tryz.func60,Tryz.ntmps60
     go_wp2_with (go_at_call 59;refine ht.mono ?_;rintro x w1 ⟨rfl,hr,hm⟩)
     refine(isn _).mono ?_
     rintro x w2 ⟨rfl,o,rfl⟩
     go_wp2_with fail
     refine(fail_c ((hr.alloc _).alloc _) 2 tp).mono ?_
     rintro x w4 ⟨rfl,hr2,hm2⟩
     have d0:=(((hr.box _ _).alloc _).moves hm2).c 0 _ rfl
     go_wp2_with fail
     go_ret
     exact⟨rfl,hr2,((hm.alloc _).alloc _).trans hm2⟩
 · have hE':=beq_no hE
   rw[if_neg hE,if_neg hE]
   clear hE
   go_enter Tryz.func60,Tryz.ntmps60
   go_wp2_with fail
   go_ret
   exact⟨rfl,h,Moves.refl _ _⟩
theorem rput5{w w0:World}{b:Nat}{T:List Tok}{J:PS}{r:RV}{k:Nat}{t:TypeId}{a0 a1 a2 a3 a4:Value}(h:Rep w b T J r)(B:Box w b k t [a0,a1,a2,a3,a4])(m:Moves b w0 w)(hk:w0.heap.size<=k)(v0 v1 v2 v3 v4:Value):
 Rep (((((w.setCell ⟨k,0,none⟩ v0).setCell ⟨k,1,none⟩ v1).setCell ⟨k,2,none⟩ v2).setCell ⟨k,3,none⟩ v3).setCell ⟨k,4,none⟩ v4) b T J r∧
 Moves b w0 (((((w.setCell ⟨k,0,none⟩ v0).setCell ⟨k,1,none⟩ v1).setCell ⟨k,2,none⟩ v2).setCell ⟨k,3,none⟩ v3).setCell ⟨k,4,none⟩ v4):=
 ⟨((((h.set_box B 0 v0).set_box (B.set 0 v0) 1 v1).set_box ((B.set 0 v0).set 1 v1) 2 v2).set_box (((B.set 0 v0).set 1 v1).set 2 v2) 3 v3).set_box ((((B.set 0 v0).set 1 v1).set 2 v2).set 3 v3) 4 v4,
   ((((m.set_box B hk 0 v0).set_box (B.set 0 v0) hk 1 v1).set_box ((B.set 0 v0).set 1 v1) hk 2 v2).set_box (((B.set 0 v0).set 1 v1).set 2 v2) hk 3 v3).set_box ((((B.set 0 v0).set 1 v1).set 2 v2).set 3 v3) hk 4 v4⟩
theorem known_c{w:World}{b:Nat}{T:List Tok}{J:PS}{r:RV}(h:Rep w b T J r)(hT:R.Small T)(hn:J.seen.length<=1000)(ar se:Bool):
 Calls Tryz.prog 77 #[P b,.bool ar,.bool se] w λx w'=>x=.returned (.agg (thingCells (R.knownT T ar se J)).toArray)/\Rep w' b T (R.known T ar se J) r/\Moves b w w':=by
 have c2:=h.c1 2 _ rfl
 unfold R.known R.knownT
 by_cases hE:J.err=0
 · have hE':(J.err==0)=true:=beq_yes hE
   rw[if_pos hE]
   simp only[hE,true_and]
   clear hE
   have ht:=take_c (h.alloc (.cells #[.string ⟨#[]⟩,.int .i64 0,.bool false,.int .i64 0,.int .i64 0] 111))
   have bx:=h.box [.string ⟨#[]⟩,.int .i64 0,.bool false,.int .i64 0,.int .i64 0] 111
   have nb:=h.cells.lt
   have hsz:=hT J.i
   have hse:=R.take_seen T J
   generalize R.tk T J.i=t at*
   obtain⟨ts,tp⟩:=t
   dsimp only at*
   have isn:=λw=>isName_c ts w (by unfold maxLen;omega)
   generalize R.take T J=J1 at*
   rw[<-hse]at hn ⊢
   clear hse
   by_cases hN:R.isName ts=true
   · rw[if_pos hN]
     simp only[hN,true_and]
     rw[hN]at isn
     have fi:=fun(w:World) (hr:Rep w b T J1 r)=>find_c hr hn ts
     have k1:=R.find_lt ts.toList J1.seen
     have k2:=R.find_ge ts.toList J1.seen
     unfold R.wrong
     generalize R.find ts.toList J1.seen=k at*
     by_cases hk:k<0
     · simp only[hk,decide_true,Bool.true_or,if_true,if_false,Bool.true_eq_false]
       go_enter Tryz.func77,Tryz.ntmps77
       go_wp2_with (go_at_call 59;refine ht.mono ?_;rintro x w1 ⟨rfl,hr,hm⟩)
       refine(isn _).mono ?_
       rintro x w2 ⟨rfl,o,rfl⟩
       go_wp2_with fail
       refine(fi _ ((hr.alloc _).alloc _)).mono ?_
       rintro x w3 ⟨rfl,rfl⟩
       go_wp2_with fail
       refine(fail_c ((hr.alloc _).alloc _) 3 tp).mono ?_
       rintro x w4 ⟨rfl,hr2,hm2⟩
       have B:=(((bx.moves hm).alloc _).alloc _).moves hm2
       have d0:=B.c 0 _ rfl
       have d1:=B.c 1 _ rfl
       have d2:=B.c 2 _ rfl
       have d3:=B.c 3 _ rfl
       have d4:=B.c 4 _ rfl
       have f0:=B.f 0
       have f1:=B.f 1
       have f2:=B.f 2
       have f3:=B.f 3
       have f4:=B.f 4
       go_wp2_with fail
       have fin:=rput5 hr2 B ((((((Moves.refl b w).alloc _).trans hm).alloc _).alloc _).trans hm2) (Nat.le_refl _) (.string ⟨#[]⟩) (.int .i64 0) (.bool false) (.int .i64 0) (.int .i64 0)
       exact bodyPost_ret (v:=.agg (thingCells R.noThing).toArray) (by simp[results,Tryz.results77,go_sem,thingCells,R.noThing,d0,d1,d2,d3,d4]) rfl ⟨rfl,fin.1,fin.2⟩
     · obtain⟨n,rfl⟩:=Int.eq_ofNat_of_zero_le (by omega:0<=k)
       have hnl:n<J1.seen.length:=by omega
       have hth:R.thingAt J1.seen (n:Int)=J1.seen[n]:=by simp[R.thingAt,hnl]
       rw[hth]
       have hk':decide ((n:Int)<0)=false:=by simp
       simp only[hk',Bool.false_or]
       generalize hq:J1.seen[n]=q at*
       clear hth hk'
       by_cases hw:((q.kind==2) != ar||(se&&q.kind==3))=true
       · rw[if_pos hw,if_neg (by rw[hw];simp)]
         cases ar<;>cases se<;>cases e2:(q.kind==2)<;>cases e3:(q.kind==3)<;>rw[e2,e3]at hw<;>first |(exact absurd hw (by decide))|(exact absurd ((eq_of_beq e2).symm.trans (eq_of_beq e3)) (by decide))|skip
         all_goals
          have HQ:=hide hq
          clear hq hw
          go_enter Tryz.func77,Tryz.ntmps77
          go_wp2_with (go_at_call 59;refine ht.mono ?_;rintro x w1 ⟨rfl,hr,hm⟩)
          refine(isn _).mono ?_
          rintro x w2 ⟨rfl,o,rfl⟩
          go_wp2_with fail
          refine(fi _ ((hr.alloc _).alloc _)).mono ?_
          rintro x w3 ⟨rfl,rfl⟩
          rcases hr.things with⟨_,h0⟩|⟨g,cap,hS,hg,hc⟩
          · omega
          have e1:=hc n hnl 1 (by omega)
          rw[HQ.out]at e1
          have e1':w1.cell? ⟨g,n*5+1,none⟩=some (.int .i64 q.kind):=e1
          have c4:=hr.c1 4 _ rfl
          rw[hS]at c4
          clear e1
          have nb1:=hr.cells.lt
          clear hc
          go_wp2_with fail
          refine(fail_c ((hr.alloc _).alloc _) 3 tp).mono ?_
          rintro x w4 ⟨rfl,hr2,hm2⟩
          have B:=(((bx.moves hm).alloc _).alloc _).moves hm2
          have d0:=B.c 0 _ rfl
          have d1:=B.c 1 _ rfl
          have d2:=B.c 2 _ rfl
          have d3:=B.c 3 _ rfl
          have d4:=B.c 4 _ rfl
          have f0:=B.f 0
          have f1:=B.f 1
          have f2:=B.f 2
          have f3:=B.f 3
          have f4:=B.f 4
          go_wp2_with fail
          have fin:=rput5 hr2 B ((((((Moves.refl b w).alloc _).trans hm).alloc _).alloc _).trans hm2) (Nat.le_refl _) (.string ⟨#[]⟩) (.int .i64 0) (.bool false) (.int .i64 0) (.int .i64 0)
          exact bodyPost_ret (v:=.agg (thingCells R.noThing).toArray) (by simp[results,Tryz.results77,go_sem,thingCells,R.noThing,d0,d1,d2,d3,d4]) rfl ⟨rfl,fin.1,fin.2⟩
       · rw[if_neg hw,if_pos (by simpa using hw)]
         cases ar<;>cases se<;>cases e2:(q.kind==2)<;>cases e3:(q.kind==3)<;>rw[e2,e3]at hw<;>first |(exact absurd rfl hw)|(exact absurd ((eq_of_beq e2).symm.trans (eq_of_beq e3)) (by decide))|skip
         all_goals
          have HQ:=hide hq
          clear hq hw
          go_enter Tryz.func77,Tryz.ntmps77
          go_wp2_with (go_at_call 59;refine ht.mono ?_;rintro x w1 ⟨rfl,hr,hm⟩)
          refine(isn _).mono ?_
          rintro x w2 ⟨rfl,o,rfl⟩
          go_wp2_with fail
          refine(fi _ ((hr.alloc _).alloc _)).mono ?_
          rintro x w3 ⟨rfl,rfl⟩
          rcases hr.things with⟨_,h0⟩|⟨g,cap,hS,hg,hc⟩
          · omega
          have e1:=hc n hnl 1 (by omega)
          rw[HQ.out]at e1
          have e1':w1.cell? ⟨g,n*5+1,none⟩=some (.int .i64 q.kind):=e1
          have c4:=hr.c1 4 _ rfl
          rw[hS]at c4
          clear e1
          have nb1:=hr.cells.lt
          have g0:=hc n hnl 0 (by omega)
          have g2:=hc n hnl 2 (by omega)
          have g3:=hc n hnl 3 (by omega)
          have g4:=hc n hnl 4 (by omega)
          rw[HQ.out]at g0 g2 g3 g4
          have g0':w1.cell? ⟨g,n*5,none⟩=some (.string q.name):=g0
          have g2':w1.cell? ⟨g,n*5+2,none⟩=some (.bool q.sec):=g2
          have g3':w1.cell? ⟨g,n*5+3,none⟩=some (.int .i64 q.pos):=g3
          have g4':w1.cell? ⟨g,n*5+4,none⟩=some (.int .i64 q.size):=g4
          clear g0 g2 g3 g4 hc
          have B:=bx.moves hm
          have d0:=B.c 0 _ rfl
          have d1:=B.c 1 _ rfl
          have d2:=B.c 2 _ rfl
          have d3:=B.c 3 _ rfl
          have d4:=B.c 4 _ rfl
          have f0:=B.f 0
          have f1:=B.f 1
          have f2:=B.f 2
          have f3:=B.f 3
          have f4:=B.f 4
          have nk:=B.here.lt
          go_wp2_with fail
          have fin:=rput5 hr B (((Moves.refl b w).alloc _).trans hm) (Nat.le_refl _) (.string q.name) (.int .i64 q.kind) (.bool q.sec) (.int .i64 q.pos) (.int .i64 q.size)
          exact bodyPost_ret (v:=.agg (thingCells q).toArray) (by simp[results,Tryz.results77,go_sem,thingCells,d0,d1,d2,d3,d4,nk]) rfl ⟨rfl,(fin.1.alloc _).alloc _,(fin.2.alloc _).alloc _⟩
   · rw[if_neg hN,if_neg (by simp[hN])]
     rw[Bool.not_eq_true]at hN
     rw[hN]at isn
     go_enter Tryz.func77,Tryz.ntmps77
     go_wp2_with (go_at_call 59;refine ht.mono ?_;rintro x w1 ⟨rfl,hr,hm⟩)
     refine(isn _).mono ?_
     rintro x w2 ⟨rfl,o,rfl⟩
     go_wp2_with fail
     refine(fail_c ((hr.alloc _).alloc _) 2 tp).mono ?_
     rintro x w4 ⟨rfl,hr2,hm2⟩
     have B:=(((bx.moves hm).alloc _).alloc _).moves hm2
     have d0:=B.c 0 _ rfl
     have d1:=B.c 1 _ rfl
     have d2:=B.c 2 _ rfl
     have d3:=B.c 3 _ rfl
     have d4:=B.c 4 _ rfl
     have f0:=B.f 0
     have f1:=B.f 1
     have f2:=B.f 2
     have f3:=B.f 3
     have f4:=B.f 4
     go_wp2_with fail
     have fin:=rput5 hr2 B ((((((Moves.refl b w).alloc _).trans hm).alloc _).alloc _).trans hm2) (Nat.le_refl _) (.string ⟨#[]⟩) (.int .i64 0) (.bool false) (.int .i64 0) (.int .i64 0)
     exact bodyPost_ret (v:=.agg (thingCells R.noThing).toArray) (by simp[results,Tryz.results77,go_sem,thingCells,R.noThing,d0,d1,d2,d3,d4]) rfl ⟨rfl,fin.1,fin.2⟩
 · have hE':=beq_no hE
   rw[if_neg hE,if_neg (by simp[hE])]
   have nb:=h.cells.lt
   clear hE
   go_enter Tryz.func77,Tryz.ntmps77
   go_wp2_with fail
   exact bodyPost_ret (v:=.agg (thingCells R.noThing).toArray) (by simp[results,Tryz.results77,go_sem,thingCells,R.noThing]) rfl ⟨rfl,h.alloc _,(Moves.refl b w).alloc _⟩
theorem grow_core{w w1:World}{b:Nat}{cs:List Value}(hat:At w b 35 cs)(fi:Nat){v v':Value}{eN:TypeId}{sz n n':Nat}{xs xs':List Value}(ho:w.ownsRow 0 eN sz v n xs)(ho':w1.ownsRow 0 eN sz v' n' xs')(hne:eN≠35)(g:Grew w w1 v v'):
 At (w1.setCell ⟨b,fi,none⟩ v') b 35 (cs.set fi v')/\(w1.setCell ⟨b,fi,none⟩ v').ownsRow 0 eN sz v' n' xs'∧
 (∀k,k<w.heap.size->k≠b->v.ownBlock≠some k->(w1.setCell ⟨b,fi,none⟩ v').heap[k]?=w.heap[k]?)∧
 (∀e size u m ys,w.ownsRow 0 e size u m ys->e≠35->e≠eN->(w1.setCell ⟨b,fi,none⟩ v').ownsRow 0 e size u m ys):=by
 have hb:=hat
 unfold At at hb
 have nb:v.ownBlock≠some b:=λe=>by
  obtain⟨cur,hc⟩:=ownsRow_block ho e
  rw[hb]at hc
  simp at hc
  exact hne hc.2.symm
 have hat1:At w1 b 35 cs:=hat.of_block (g.block b hat.lt nb)
 have hb1:=hat1
 unfold At at hb1
 have nb':v'.ownBlock≠some b:=λe=>by
  obtain⟨cur,hc⟩:=ownsRow_block ho' e
  rw[hb1]at hc
  simp at hc
  exact hne hc.2.symm
 have other:∀k,k≠b->(w1.setCell ⟨b,fi,none⟩ v').heap[k]?=w1.heap[k]?:=λk ne=>Below.heap_setCell _ _ _ _ ne
 refine⟨hat1.set fi v',ownsRow_of ho' λk hk=>other k (λe=>nb' (e▸hk)),λk hk ne nv=>by rw[other k ne,g.block k hk nv],λe size u m ys hu he heN=>ownsRow_of hu λk hk=>?_⟩
 obtain⟨cur,hc⟩:=ownsRow_block hu hk
 have ne:k≠b:=λe'=>by
  rw[e',hb]at hc
  simp at hc
  exact he hc.2.symm
 have nv:v.ownBlock≠some k:=λe'=>by
  obtain⟨cur',hc'⟩:=ownsRow_block ho e'
  rw[hc']at hc
  simp at hc
  exact heN hc.2.symm
 rw[other k ne,g.block k (heap_lt hc) nv]
theorem node_w(b:Nat)(v:Value)(n:Nat)(xs:List Value)(c0 c1 c2 c3 c4 c5 c6 c7 c8 c9:Value)(w:World)(nb:b<w.heap.size)(q7:w.cell? ⟨b,7,none⟩=some v)(f7:w.frozen? ⟨b,7,none⟩=false)(hvb:v.ownBlock≠some b)(hown:w.ownsRow 0 145 10 v n xs)(hone:∀u∈[c0,c1,c2,c3,c4,c5,c6,c7,c8,c9],u.oneCell'=true)(hn:n<=100000):
  Calls Tryz.prog 81 #[P b,.agg #[c0,c1,c2,c3,c4,c5,c6,c7,c8,c9]] w λx w'=>x=.returned (.int .i64 (n:Int))∧
   ∃v' w1,w'=w1.setCell ⟨b,7,none⟩ v'/\w1.ownsRow 0 145 10 v' (n+1) (xs++[c0,c1,c2,c3,c4,c5,c6,c7,c8,c9])/\Grew w w1 v v':=by
 obtain⟨i0,hi,hz0,hz1,hz2⟩:=info_parts info_node
 go_enter Tryz.func81,Tryz.ntmps81
 go_wp2
 go_region_law (refine step_append_row1 rfl (.tmp 9) (.tmp 11) 31 rfl 145 i0 _ 10 128 Tryz.underlying31 hi hz0 hz1 hz2 rfl (by decide) v n xs rfl (by exact((hown.alloc _).alloc _).drew) ⟨w.heap.size+1,0,none⟩ 1 1 [c0,c1,c2,c3,c4,c5,c6,c7,c8,c9] rfl rfl (by exact(row_new1 w _ [c0,c1,c2,c3,c4,c5,c6,c7,c8,c9] _)) hone (few_le (by omega)) (by omega) Nat.one_pos ?_;intro g cap w1 hv hg hk;have gr:=Grew.of (((More.refl w).alloc _).alloc _).drew hg hk;have q7':w1.cell? ⟨b,7,none⟩=some v:=(World.cell?_of_block (gr.block b nb hvb)).trans q7;have f7':w1.frozen? ⟨b,7,none⟩=false:=(World.frozen?_of_block (gr.block b nb hvb)).trans f7;clear hg hk)
 all_goals
  go_wp2
  go_ret
  exact⟨by simp,_,w1,rfl,hv,gr⟩
theorem node_c{w:World}{b:Nat}{T:List Tok}{J:PS}{r:RV}(h:Rep w b T J r)(nd:Nd)(lv tv:Value)(hl:Ints w lv nd.L)(ht:Ints w tv nd.two)(hn:J.nodes.length<=100000):
 Calls Tryz.prog 81 #[P b,.agg (nodeCells nd lv tv).toArray] w λx w'=>x=.returned (.int .i64 (J.nodes.length:Int))/\∃r',Rep w' b T (R.addNode nd J) r'/\MovesX (λk=>lv.ownBlock=some k∨tv.ownBlock=some k) b w w':=by
 obtain⟨xs,hx,hxl,hxs,hf⟩:=h.foot
 have nbk:r.N.ownBlock≠some b:=λe=>by
  obtain⟨cur,hc⟩:=ownsRow_block hx e
  have hb:=h.cells
  unfold At at hb
  rw[hb]at hc
  simp at hc
 refine(node_w b r.N J.nodes.length xs.flatten _ _ _ _ _ _ _ _ _ _ w h.cells.lt (h.c1 7 _ rfl) (h.cells.frozen 7) nbk hx ?_ hn).mono ?_
 · intro u hu
   have o1:=ownsRow_one hl
   have o2:=ownsRow_one ht
   simp only[List.mem_cons,List.not_mem_nil,or_false]at hu
   rcases hu with rfl |rfl |rfl |rfl |rfl |rfl |rfl |rfl |rfl |rfl
   all_goals first |exact o1 |exact o2 |rfl
 · rintro x w' ⟨rfl,v',w1,rfl,hr,hg⟩
   obtain⟨k1,k2,k3,k4⟩:=grow_core h.cells 7 (v:=r.N) hx hr (by decide) hg
   have hx':(w1.setCell ⟨b,7,none⟩ v').ownsRow 0 145 10 v' (J.nodes++[nd]).length (xs++[nodeCells nd lv tv]).flatten:=by
    rw[List.flatten_append]
    simpa[nodeCells]using k2
   have hn':∀(k:Nat) c n,(xs++[nodeCells nd lv tv])[k]?=some c->(J.nodes++[nd])[k]?=some n->NodeRow (w1.setCell ⟨b,7,none⟩ v') c n:=by
    intro k c n hc hnn
    by_cases hk:k<xs.length
    · rw[List.getElem?_append_left hk]at hc
      rw[List.getElem?_append_left (by omega)]at hnn
      obtain⟨lv',tv',e,i1,i2⟩:=hxs k c n hc hnn
      exact⟨lv',tv',e,k4 _ _ _ _ _ i1 (by decide) (by decide),k4 _ _ _ _ _ i2 (by decide) (by decide)⟩
    · rw[List.getElem?_append_right (by omega)]at hc hnn
      rw[hxl]at hc
      cases e:k-J.nodes.length with
      |zero=>
       rw[e]at hc hnn
       simp only[List.getElem?_cons_zero,Option.some.injEq]at hc hnn
       subst hc hnn
       exact⟨lv,tv,rfl,k4 _ _ _ _ _ hl (by decide) (by decide),k4 _ _ _ _ _ ht (by decide) (by decide)⟩
      |succ j=>rw[e]at hc;simp at hc
   have hrep:Rep (w1.setCell ⟨b,7,none⟩ v') b T (R.addNode nd J) {r with N:=v'}:=
    ⟨k1,k4 _ _ _ _ _ h.toks (by decide) (by decide),k4 _ _ _ _ _ h.seen (by decide) (by decide),⟨_,hx',by simp[hxl,R.addNode],hn'⟩,k4 _ _ _ _ _ h.shape (by decide) (by decide),k4 _ _ _ _ _ h.does (by decide) (by decide),h.lt,h.few⟩
   have hf':=foot_iff (J:=R.addNode nd J) (r:={r with N:=v'}) k1 hx' (by simp[hxl]) λk c n hc hnn=>by obtain⟨lv,tv,e,_⟩:=hn' k c n hc hnn;exact⟨lv,tv,e⟩
   refine⟨rfl,{r with N:=v'},hrep,hg.os,hg.tape,hg.output,by simpa[World.setCell]using hg.size,λ_=>⟨hrep.tight,λk hk nf=>?_,λk hk f=>?_⟩⟩
   · exact k3 k hk (λe=>nf ((hf k).2 (Or.inl e))) (λe=>nf ((hf k).2 (Or.inr (Or.inl (Or.inr (Or.inr (Or.inl e)))))))
   · rcases(hf' k).1 f with f |f |⟨c,n,lv',tv',f1,f2,f3⟩
     · exact Or.inl ((hf k).2 (Or.inl f))
     · rcases f with f |f |f |f |f
       · exact Or.inl ((hf k).2 (Or.inr (Or.inl (Or.inl f))))
       · exact Or.inl ((hf k).2 (Or.inr (Or.inl (Or.inr (Or.inl f)))))
       · rcases hg.own k f with f |f
         · exact Or.inl ((hf k).2 (Or.inr (Or.inl (Or.inr (Or.inr (Or.inl f))))))
         · omega
       · exact Or.inl ((hf k).2 (Or.inr (Or.inl (Or.inr (Or.inr (Or.inr (Or.inl f)))))))
       · exact Or.inl ((hf k).2 (Or.inr (Or.inl (Or.inr (Or.inr (Or.inr (Or.inr f)))))))
     · rcases List.mem_append.1 f1 with f1 |f1
       · exact Or.inl ((hf k).2 (Or.inr (Or.inr ⟨c,n,lv',tv',f1,f2,f3⟩)))
       · simp only[List.mem_singleton]at f1
         rw[f1]at f2
         simp only[nodeCells,List.cons.injEq,and_true]at f2
         obtain⟨_,_,_,_,_,_,_,rfl,rfl,_⟩:=f2
         exact Or.inr f3
theorem known_k{w:World}{b:Nat}{T:List Tok}{J:PS}{r:RV}(h:Rep w b T J r)(hT:R.Small T)(hn:J.seen.length<=1000)(ar se:Bool){q:Thing}(hq:R.knownT T ar se J=q):
 Calls Tryz.prog 77 #[P b,.bool ar,.bool se] w λx w'=>x=.returned (.agg #[.string q.name,.int .i64 q.kind,.bool q.sec,.int .i64 q.pos,.int .i64 q.size])/\Rep w' b T (R.known T ar se J) r/\Moves b w w':=by
 subst hq
 exact known_c h hT hn ar se
theorem node_k{w:World}{b:Nat}{T:List Tok}{J:PS}{r:RV}(h:Rep w b T J r)(wd:ByteArray)(n:Int)(q:Thing)(L two:List Int)(sec:Bool)(lv tv:Value)(hl:Ints w lv L)(ht:Ints w tv two)(hn:J.nodes.length<=100000):
 Calls Tryz.prog 81 #[P b,.agg #[.string wd,.int .i64 n,.string q.name,.int .i64 q.kind,.bool q.sec,.int .i64 q.pos,.int .i64 q.size,lv,tv,.bool sec]] w λx w'=>x=.returned (.int .i64 (R.lastN (R.addNode ⟨wd,n,q,L,two,sec⟩ J)))/\∃r',Rep w' b T (R.addNode ⟨wd,n,q,L,two,sec⟩ J) r'/\MovesX (λk=>lv.ownBlock=some k∨tv.ownBlock=some k) b w w':=by
 have e:R.lastN (R.addNode ⟨wd,n,q,L,two,sec⟩ J)=(J.nodes.length:Int):=by simp[R.lastN,R.addNode]
 rw[e]
 exact node_c h ⟨wd,n,q,L,two,sec⟩ lv tv hl ht hn
theorem ints_nil(w:World):Ints w (.slice none 0 0) []:=World.ownsRow_nil w 0 _ 1
structure Bd(T:List Tok)(J:PS):Prop where
 n0:0<=J.nest
 n1:J.nest<=11
 n2:J.err=0->J.nest<=10
 seen:J.seen.length<=1000
 nodes:J.nodes.length+(T.length-J.i)<=20000
def ExprDoes(T:List Tok)(f:Nat):Prop:=∀(w:World) (b:Nat) (J:PS) (r:RV),Rep w b T J r->T.length-J.i<=f->Bd T J→
 Calls Tryz.prog 78 #[P b] w λx w'=>x=.returned (.int .i64 (R.expr T f J).2)/\∃r',Rep w' b T (R.expr T f J).1 r'/\Moves b w w'
theorem expr_dead_w{T:List Tok}(f:Nat)(w:World)(b:Nat)(J:PS)(r:RV)(h:Rep w b T J r)(hE:J.err≠0):
 Calls Tryz.prog 78 #[P b] w λx w'=>x=.returned (.int .i64 (R.expr T (f+1) J).2)/\∃r',Rep w' b T (R.expr T (f+1) J).1 r'/\Moves b w w':=by
 have c2:=h.c1 2 _ rfl
 have hE':=beq_no hE
 rw[R.expr,if_neg hE]
 clear hE
 go_enter Tryz.func78,Tryz.ntmps78
 go_wp2_with fail
 go_ret
 exact⟨rfl,r,h,Moves.refl _ _⟩
theorem expr_num{T:List Tok}(hT:R.Small T)(w:World)(b:Nat)(J:PS)(r:RV)(h:Rep w b T J r)(hb:Bd T J)(hE:J.err=0)(h40:¬(R.tk T J.i).s.toList=[40])(hn:(R.number (R.tk T J.i).s.data.toList).2=true):
 Calls Tryz.prog 78 #[P b] w λx w'=>x=.returned (.int .i64 (R.lastN (R.addNode ⟨⟨#[35]⟩,(R.number (R.tk T J.i).s.data.toList).1,R.noThing,[],[],false⟩ (R.take T J))))∧
  ∃r',Rep w' b T (R.addNode ⟨⟨#[35]⟩,(R.number (R.tk T J.i).s.data.toList).1,R.noThing,[],[],false⟩ (R.take T J)) r'/\Moves b w w':=by
 have c2:=h.c1 2 _ rfl
 have hE':=beq_yes hE
 have hpk:=peek_c h
 have hnu:=λw=>number_c (R.tk T J.i).s w (by have:=hT J.i;unfold maxLen;omega)
 have htc:=fun(w:World) (hr:Rep w b T J r)=>take_c hr
 have hnn:(R.take T J).nodes.length<=100000:=by rw[(R.take_core T J).2.1];have:=hb.nodes;omega
 generalize R.tk T J.i=t at*
 obtain⟨ts,tp⟩:=t
 dsimp only at*
 have h40':=beq_no h40
 clear hE h40
 rw[hn]at hnu
 clear hn
 generalize(R.number ts.data.toList).1=nv at*
 go_enter Tryz.func78,Tryz.ntmps78
 go_wp2_with (go_at_call 43;refine hpk.mono ?_;rintro x w1 ⟨rfl,hr,hm⟩)
 refine(hnu _).mono ?_
 rintro x w2 ⟨rfl,rfl⟩
 go_wp2_with fail
 refine(htc _ (hr.alloc _)).mono ?_
 rintro x w3 ⟨rfl,hr3,hm3⟩
 go_wp2_with fail
 refine(node_k hr3 ⟨#[35]⟩ nv R.noThing [] [] false (.slice none 0 0) (.slice none 0 0) (ints_nil _) (ints_nil _) hnn).mono ?_
 rintro x w4 ⟨rfl,r4,hr4,hm4⟩
 go_wp2_with fail
 go_ret
 exact⟨rfl,r4,hr4,((hm.alloc _).trans hm3).transX hm4 (λk hk=>by simp[Value.ownBlock]at hk)⟩
theorem expr_name{T:List Tok}(hT:R.Small T)(w:World)(b:Nat)(J:PS)(r:RV)(h:Rep w b T J r)(hb:Bd T J)(hE:J.err=0)(h40:¬(R.tk T J.i).s.toList=[40])(hn:¬(R.number (R.tk T J.i).s.data.toList).2=true):
 Calls Tryz.prog 78 #[P b] w λx w'=>x=.returned (.int .i64 (R.lastN (R.addNode ⟨⟨#[64]⟩,0,R.knownT T false false J,[],[],(R.knownT T false false J).sec⟩ (R.known T false false J))))∧
  ∃r',Rep w' b T (R.addNode ⟨⟨#[64]⟩,0,R.knownT T false false J,[],[],(R.knownT T false false J).sec⟩ (R.known T false false J)) r'/\Moves b w w':=by
 have c2:=h.c1 2 _ rfl
 have hE':=beq_yes hE
 have hpk:=peek_c h
 have hnu:=λw=>number_c (R.tk T J.i).s w (by have:=hT J.i;unfold maxLen;omega)
 have hkc:=fun(w:World) (q:Thing) (hq:R.knownT T false false J=q) (hr:Rep w b T J r)=>known_k hr hT hb.seen false false hq
 have hnn:(R.known T false false J).nodes.length<=100000:=by rw[(R.known_core T false false J).2.1];have:=hb.nodes;omega
 generalize R.known T false false J=J1 at*
 generalize hq:R.knownT T false false J=q at*
 have HQ:=hide hq
 clear hq
 generalize R.tk T J.i=t at*
 obtain⟨ts,tp⟩:=t
 dsimp only at*
 have h40':=beq_no h40
 clear hE h40
 rw[Bool.not_eq_true]at hn
 rw[hn]at hnu
 clear hn
 go_enter Tryz.func78,Tryz.ntmps78
 go_wp2_with (go_at_call 43;refine hpk.mono ?_;rintro x w1 ⟨rfl,hr,hm⟩)
 refine(hnu _).mono ?_
 rintro x w2 ⟨rfl,rfl⟩
 go_wp2_with fail
 refine(hkc _ q rfl (hr.alloc _)).mono ?_
 rintro x w3 ⟨rfl,hr3,hm3⟩
 go_wp2_with fail
 refine(node_k (hr3.alloc _) ⟨#[64]⟩ 0 q [] [] q.sec (.slice none 0 0) (.slice none 0 0) (ints_nil _) (ints_nil _) hnn).mono ?_
 rintro x w4 ⟨rfl,r4,hr4,hm4⟩
 go_wp2_with fail
 go_ret
 exact⟨rfl,r4,hr4,(((hm.alloc _).trans hm3).alloc _).transX hm4 (λk hk=>by simp[Value.ownBlock]at hk)⟩
theorem put2{w w0:World}{b:Nat}{T:List Tok}{J:PS}{r:RV}{k:Nat}{t:TypeId}{a0 a1:Value}(h:Rep w b T J r)(B:Box w b k t [a0,a1])(m:Moves b w0 w)(hk:w0.heap.size<=k)(v0 v1:Value):
 Rep ((w.setCell ⟨k,0,none⟩ v0).setCell ⟨k,1,none⟩ v1) b T J r/\Moves b w0 ((w.setCell ⟨k,0,none⟩ v0).setCell ⟨k,1,none⟩ v1)/\Box ((w.setCell ⟨k,0,none⟩ v0).setCell ⟨k,1,none⟩ v1) b k t [v0,v1]:=
 ⟨(h.set_box B 0 v0).set_box (B.set 0 v0) 1 v1,(m.set_box B hk 0 v0).set_box (B.set 0 v0) hk 1 v1,(B.set 0 v0).set 1 v1⟩
theorem expr_deep{T:List Tok}(w:World)(b:Nat)(J:PS)(r:RV)(h:Rep w b T J r)(hb:Bd T J)(hE:J.err=0)(h40:(R.tk T J.i).s.toList=[40])(hO:¬(R.opens T J).err=0):
 Calls Tryz.prog 78 #[P b] w λx w'=>x=.returned (.int .i64 0)/\∃r',Rep w' b T (R.opens T J) r'/\Moves b w w':=by
 have c2:=h.c1 2 _ rfl
 have hE':=beq_yes hE
 have hpk:=peek_c h
 have hoc:=fun(w:World) (hr:Rep w b T J r)=>open_c hr (by have:=hb.n0;omega) (by have:=hb.n1;omega)
 generalize R.tk T J.i=t at*
 obtain⟨ts,tp⟩:=t
 dsimp only at*
 have h40':=beq_yes h40
 clear hE h40
 have hO':=beq_no hO
 clear hO
 generalize R.opens T J=J1 at*
 go_enter Tryz.func78,Tryz.ntmps78
 go_wp2_with (go_at_call 43;refine hpk.mono ?_;rintro x w1 ⟨rfl,hr,hm⟩)
 refine(hoc _ (hr.alloc _)).mono ?_
 rintro x w2 ⟨rfl,hr2,hm2⟩
 have q2:=hr2.c1 2 _ rfl
 go_wp2_with fail
 go_ret
 exact⟨rfl,r,hr2,(hm.alloc _).trans hm2⟩
theorem head_get{T:List Tok}{J:PS}(h:(R.tk T J.i).s.toList=R.kGet):R.headOf T J=(R.known T true false (R.take T J),R.knownT T true false (R.take T J),1):=by
 unfold R.headOf;rw[if_pos h]
theorem head_choose{T:List Tok}{J:PS}(h0:¬(R.tk T J.i).s.toList=R.kGet)(h:(R.tk T J.i).s.toList=R.kChoose):R.headOf T J=(R.take T J,R.noThing,3):=by
 unfold R.headOf;rw[if_neg h0,if_pos h]
theorem head_op{T:List Tok}{J:PS}(h0:¬(R.tk T J.i).s.toList=R.kGet)(h1:¬(R.tk T J.i).s.toList=R.kChoose)(h:R.sign (R.tk T J.i).s.toList=true):R.headOf T J=(R.take T J,R.noThing,2):=by
 unfold R.headOf;rw[if_neg h0,if_neg h1,if_pos h]
theorem head_none{T:List Tok}{J:PS}(h0:¬(R.tk T J.i).s.toList=R.kGet)(h1:¬(R.tk T J.i).s.toList=R.kChoose)(h:R.sign (R.tk T J.i).s.toList=false):R.headOf T J=(R.fail 2 (R.tk T J.i).p (R.take T J),R.noThing,2):=by
 unfold R.headOf;rw[if_neg h0,if_neg h1,if_neg (by rw[h];decide)]
theorem put_thing{w w0:World}{b:Nat}{T:List Tok}{J:PS}{r:RV}{k k':Nat}{t t':TypeId}{a0 a1 a2 a3 a4 a5 a6 a7 a8 a9:Value}{cs:List Value}(h:Rep w b T J r)(B:Box w b k t [a0,a1,a2,a3,a4,a5,a6,a7,a8,a9])(C:Box w b k' t' cs)(ne:k'≠k)(m:Moves b w0 w)(hk:w0.heap.size<=k)(v2 v3 v4 v5 v6 v9:Value):
 Rep ((((((w.setCell ⟨k,2,none⟩ v2).setCell ⟨k,3,none⟩ v3).setCell ⟨k,4,none⟩ v4).setCell ⟨k,5,none⟩ v5).setCell ⟨k,6,none⟩ v6).setCell ⟨k,9,none⟩ v9) b T J r∧
 Moves b w0 ((((((w.setCell ⟨k,2,none⟩ v2).setCell ⟨k,3,none⟩ v3).setCell ⟨k,4,none⟩ v4).setCell ⟨k,5,none⟩ v5).setCell ⟨k,6,none⟩ v6).setCell ⟨k,9,none⟩ v9)∧
 Box ((((((w.setCell ⟨k,2,none⟩ v2).setCell ⟨k,3,none⟩ v3).setCell ⟨k,4,none⟩ v4).setCell ⟨k,5,none⟩ v5).setCell ⟨k,6,none⟩ v6).setCell ⟨k,9,none⟩ v9) b k' t' cs∧
 Box ((((((w.setCell ⟨k,2,none⟩ v2).setCell ⟨k,3,none⟩ v3).setCell ⟨k,4,none⟩ v4).setCell ⟨k,5,none⟩ v5).setCell ⟨k,6,none⟩ v6).setCell ⟨k,9,none⟩ v9) b k t [a0,a1,v2,v3,v4,v5,v6,a7,a8,v9]:=by
 have B1:=B.set 2 v2
 have B2:=B1.set 3 v3
 have B3:=B2.set 4 v4
 have B4:=B3.set 5 v5
 have B5:=B4.set 6 v6
 exact⟨(((((h.set_box B 2 v2).set_box B1 3 v3).set_box B2 4 v4).set_box B3 5 v5).set_box B4 6 v6).set_box B5 9 v9,
  (((((m.set_box B hk 2 v2).set_box B1 hk 3 v3).set_box B2 hk 4 v4).set_box B3 hk 5 v5).set_box B4 hk 6 v6).set_box B5 hk 9 v9,
  (((((C.set_other B ne 2 v2).set_other B1 ne 3 v3).set_other B2 ne 4 v4).set_other B3 ne 5 v5).set_other B4 ne 6 v6).set_other B5 ne 9 v9,B5.set 9 v9⟩
theorem Grew.same{w w':World}{b:Nat}{v v':Value}(g:Grew w w' v v')(t:Tight w b)(off:∀k,v.ownBlock=some k->¬Foot w b k):∀k,Foot w b k->w'.heap[k]?=w.heap[k]?:=
 λk f=>g.block k (t k f) (λe=>off k e f)
theorem Moves.grew{a w w':World}{b:Nat}{v v':Value}(m:Moves b a w)(g:Grew w w' v v')(off:∀k,v.ownBlock=some k->¬Foot w b k)(hi:∀k,v.ownBlock=some k->a.heap.size<=k):Moves b a w':=
 ⟨g.os.trans m.os,g.tape.trans m.tape,g.output.trans m.output,Nat.le_trans m.size g.size,λta=>by
  obtain⟨h1,h2,h3⟩:=m.main ta
  have same:=g.same h1 off
  exact⟨λk f=>Nat.lt_of_lt_of_le (h1 k (Foot.of_same same f)) g.size,λk hk nf=>(g.block k (Nat.lt_of_lt_of_le hk m.size) (λe=>by have:=hi k e;omega)).trans (h2 k hk nf),λk hk f=>h3 k hk (Foot.of_same same f)⟩⟩
theorem Box.grew{w w':World}{b k:Nat}{t:TypeId}{cs:List Value}{v v':Value}(h:Box w b k t cs)(g:Grew w w' v v')(off:∀k,v.ownBlock=some k->¬Foot w b k)(ne:v.ownBlock≠some k):Box w' b k t cs:=
 ⟨h.here.of_block (g.block k h.here.lt ne),λf=>h.off (Foot.of_same (g.same h.tight off) f),λk f=>Nat.lt_of_lt_of_le (h.tight k (Foot.of_same (g.same h.tight off) f)) g.size⟩
theorem IntRow.grew{w w':World}{b:Nat}{v v':Value}{L L':List Int}(h:IntRow w b v L)(g:Grew w w' v v')(row:Ints w' v' L'):IntRow w' b v' L':=
 ⟨row,λk hk f=>by
  have f':=Foot.of_same (g.same h.tight h.off) f
  rcases g.own k hk with e |e
  · exact h.off k e f'
  · have:=h.tight k f';omega,
  λk f=>Nat.lt_of_lt_of_le (h.tight k (Foot.of_same (g.same h.tight h.off) f)) g.size⟩
theorem IntRow.set_box{w:World}{b k:Nat}{t:TypeId}{cs:List Value}{v:Value}{L:List Int}(h:IntRow w b v L)(B:Box w b k t cs)(ht:t≠3)(i:Nat)(u:Value):IntRow (w.setCell ⟨k,i,none⟩ u) b v L:=
 ⟨ownsRow_of h.row λk' hk=>Below.heap_setCell _ _ _ _ (fun(e:k'=k)=>by
  obtain⟨cur,hg⟩:=ownsRow_block h.row hk
  have:=B.here
  unfold At at this
  rw[e,this]at hg
  simp at hg
  exact ht hg.2),λk' hk f=>h.off k' hk (foot_set B.off u f),tight_set B.off u h.tight⟩
theorem IntRow.ne_box{w:World}{b k:Nat}{t:TypeId}{cs:List Value}{v:Value}{L:List Int}(h:IntRow w b v L)(B:Box w b k t cs)(ht:t≠3):v.ownBlock≠some k:=λe=>by
 obtain⟨cur,hg⟩:=ownsRow_block h.row e
 have:=B.here
 unfold At at this
 rw[this]at hg
 simp at hg
 exact ht hg.2
theorem Rep.node{w:World}{b:Nat}{T:List Tok}{J:PS}{r:RV}(h:Rep w b T J r){x:Nat}(hx:x<J.nodes.length):
 ∃g cap,r.N=.slice (some ⟨g,0,none⟩) J.nodes.length cap/\Foot w b g/\w.cell? ⟨g,x*10+9,none⟩=some (.bool (R.nodeAt J (x:Int)).sec):=by
 obtain⟨xs,ho,hl,hn,hf⟩:=h.foot
 have ho0:=ho
 obtain⟨hxl,h0 |⟨g,cap,cur,hv,_,hg,hc,_,hcs,hcx⟩⟩:=ho
 · omega
 · refine⟨g,cap,hv,(hf g).2 (Or.inr (Or.inl (Or.inr (Or.inr (Or.inl (by rw[hv];rfl)))))),?_⟩
   have hlen:∀c∈xs,c.length=10:=by
    intro c hc
    obtain⟨q,hq,rfl⟩:=List.getElem_of_mem hc
    obtain⟨lv,tv,e,_⟩:=hn q xs[q] J.nodes[q] (List.getElem?_eq_getElem hq) (List.getElem?_eq_getElem (by omega))
    rw[e];rfl
   obtain⟨lv,tv,e,_⟩:=hn x xs[x] J.nodes[x] (List.getElem?_eq_getElem (by omega)) (List.getElem?_eq_getElem hx)
   have key:xs.flatten[x*10+9]?=xs[x][9]?:=by
    have h10:x*10+9<xs.flatten.length:=by rw[hxl];omega
    obtain⟨q,s,c,e1,e2,e3,e4⟩:=flat_at xs 10 hlen (x*10+9) xs.flatten[x*10+9] (List.getElem?_eq_getElem h10)
    have:q=x:=by omega
    subst this
    have:s=9:=by omega
    subst this
    rw[List.getElem?_eq_getElem (by omega)]at e1
    rw[List.getElem?_eq_getElem h10,<-e2,<-Option.some.inj e1]
   have:cur[x*10+9]?=some (.bool J.nodes[x].sec):=by
    have h2:cur.toList[x*10+9]?=some (.bool J.nodes[x].sec):=by
     rw[<-List.getElem?_take_of_lt (show x*10+9<J.nodes.length*10 by omega),hcx,key,e]
     rfl
    simpa using h2
   have e5:R.nodeAt J (x:Int)=J.nodes[x]:=by simp[R.nodeAt,hx]
   rw[e5]
   simp[World.cell?,hg,this]
end
end Go.Proofs.YtejbgcloblpbfaaGreatDoor
