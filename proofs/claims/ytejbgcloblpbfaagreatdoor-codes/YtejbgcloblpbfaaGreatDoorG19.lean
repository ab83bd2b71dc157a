import Derived.Test.YtejbgcloblpbfaaGreatDoorG15
import Derived.Test.YtejbgcloblpbfaaGreatDoorG18
import Derived.Test.YtejbgcloblpbfaaGreatDoorG17
set_option maxHeartbeats 1000000
namespace Go.Proofs.YtejbgcloblpbfaaGreatDoor
section
open R (Tok tk)
namespace K
theorem brk_st{T:List Tok}{dos:S->S×List Do}(h:∀J,St J (dos J).1)(J:S):St J (brk T dos J).1:=((opened_st T J).trans (h _)).trans (closed_st T _)
theorem body_st{dos:S->S×List Do}(h:∀J,St J (dos J).1)(n:Nm)(J:S):St J (body dos n J).1:=λe=>h (seeing n J) e
theorem loop0_st(T:List Tok)(J:S):St J (loop0 T J):=by
 unfold loop0;split
 · exact fail_st T (by decide) _ _
 · exact St.rfl' J
theorem doX_st{T:List Tok}{dos:S->S×List Do}(h:∀J,St J (dos J).1)(p:Int)(J:S):St J (doX T dos p J).1:=by
 unfold doX
 split
 · exact((step_st T J).trans (known_st T _ _)).trans (expr_st T _ _)
 · split
   · exact(((step_st T J).trans (known_st T _ _)).trans (expr_st T _ _)).trans (expr_st T _ _)
   · split
     · exact(((step_st T J).trans (expr_st T _ _)).trans (brk_st h _)).trans (brk_st h _)
     · split
       · exact((((loop0_st T J).trans (step_st T _)).trans (newName_st T _)).trans (expr_st T _ _)).trans (body_st h _ _)
       · exact fail_st T (by decide) _ _
theorem brkDo_st{T:List Tok}{d:Int->S->S×Do}(h:∀p J,St J (d p J).1)(J:S):St J (brkDo T d J).1:=((opened_st T J).trans (h _ _)).trans (closed_st T _)
theorem dosL_st{T:List Tok}{d:Int->S->S×Do}(h:∀p J,St J (d p J).1)(m:Nat):∀(J:S) (l:List Do),St J (dosL T d m J l).1:=by
 induction m with
 |zero=>intro J l;exact St.rfl' J
 |succ m ih=>
  intro J l
  rw[dosL]
  split
  · exact(brkDo_st h J).trans (ih _ _)
  · exact St.rfl' J
theorem doF_st(T:List Tok)(f:Nat):∀p J,St J (doF T f p J).1:=by
 induction f with
 |zero=>intro p J;exact St.rfl' J
 |succ f ih=>intro p J;exact doX_st (λJ=>dosL_st ih T.length J []) p J
theorem dos_st(T:List Tok)(f:Nat)(J:S):St J (dos T f J).1:=dosL_st (doF_st T f) _ _ _
def Lv(T:List Tok)(f:Nat)(J:S):Prop:=0<=J.depth/\((J.depth<=10/\11-J.depth<=(f:Int))∨J.i=T.length-1)
def LvD(T:List Tok)(f:Nat)(J:S):Prop:=0<=J.depth/\((J.depth<=10/\12-J.depth<=(f:Int))∨J.i=T.length-1)
theorem lv_opened{T:List Tok}{f:Nat}{J:S}(d0:0<=J.depth)(d1:J.depth<=10)(df:10-J.depth<=(f:Int)):Lv T f (opened T J):=by
 have e:=opened_depth T J
 refine⟨by omega,?_⟩
 by_cases h:J.depth=10
 · exact Or.inr (opened_deep h)
 · exact Or.inl ⟨by omega,by omega⟩
theorem lvD_opened{T:List Tok}{f:Nat}{J:S}(d0:0<=J.depth)(d1:J.depth<=10)(df:11-J.depth<=(f:Int)):LvD T f (opened T J):=by
 have e:=opened_depth T J
 refine⟨by omega,?_⟩
 by_cases h:J.depth=10
 · exact Or.inr (opened_deep h)
 · exact Or.inl ⟨by omega,by omega⟩
theorem goodL_snoc:∀(l:List Do) (d:Do),goodL (l++[d])=(goodL l&&goodD d)
 |[],d=>by simp[goodL]
 |a::l,d=>by
  show goodL (a::(l++[d]))=_
  rw[goodL,goodL,goodL_snoc l d,Bool.and_assoc]
theorem doX_good{s:ByteArray}{T:List Tok}(hS:Scans s T){f:Nat}(hd:∀J,Lv T f J->(dos T f J).1.err=0->goodL (dos T f J).2=true)(p:Int){J:S}(hl:LvD T (f+1) J)(he:(doX T (dos T f) p J).1.err=0):goodD (doX T (dos T f) p J).2=true:=by
 obtain⟨d0,hl⟩:=hl
 have ex:∀J',Keeps J J'->J.depth<=10->(expr T 11 J').1.err=0->good (expr T 11 J').2=true:=λJ' k h e=>expr_good hS 11 J' (by rw[k.depth];exact d0) (by rw[k.depth];exact h) (by rw[k.depth];omega) e
 have dead:∀l,l≠[]->isW l (tk T J.i)=true->J.depth<=10/\12-J.depth<=((f+1:Nat):Int):=λl hne hw=>by
  rcases hl with hl |hl
  · exact hl
  · unfold isW at hw
    rw[last_no hS hl l hne]at hw
    exact absurd hw (by decide)
 have br:∀J',Keeps J J'->J.depth<=10/\12-J.depth<=((f+1:Nat):Int)->(brk T (dos T f) J').1.err=0->goodL (brk T (dos T f) J').2=true:=λJ' k h e=>
  hd _ (lv_opened (by rw[k.depth];exact d0) (by rw[k.depth];exact h.1) (by rw[k.depth];omega)) (closed_st T _ e)
 unfold doX at he ⊢
 split
 · rename_i e1
   rw[if_pos e1]at he
   have dd:=dead _ (by decide) e1
   show goodD (.set p _ _)=true
   rw[goodD]
   exact ex _ ((step_keeps T J).trans (known_keeps T _ _)) dd.1 he
 · rename_i e1
   rw[if_neg e1]at he
   split
   · rename_i e2
     rw[if_pos e2]at he
     have dd:=dead _ (by decide) e2
     have k1:=(step_keeps T J).trans (known_keeps T hasWords (step T J))
     have k2:=k1.trans (expr_keeps T 11 (known T hasWords (step T J)))
     have he2:(expr T 11 (expr T 11 (known T hasWords (step T J))).1).1.err=0:=he
     have he1:=expr_st T 11 _ he2
     show goodD (.put p _ _ _)=true
     rw[goodD,ex _ k1 dd.1 he1,ex _ k2 dd.1 he2]
     rfl
   · rename_i e2
     rw[if_neg e2]at he
     split
     · rename_i e3
       rw[if_pos e3]at he
       have dd:=dead _ (by decide) e3
       have k1:=step_keeps T J
       have k2:=k1.trans (expr_keeps T 11 (step T J))
       have k3:=k2.trans (brk_keeps (T:=T) (λJ=>dos_keeps T f J) (expr T 11 (step T J)).1)
       have he3:(brk T (dos T f) (brk T (dos T f) (expr T 11 (step T J)).1).1).1.err=0:=he
       have he2:=brk_st (T:=T) (λJ=>dos_st T f J) _ he3
       have he1:=brk_st (T:=T) (λJ=>dos_st T f J) _ he2
       show goodD (.ifs p _ _ _)=true
       rw[goodD,ex _ k1 dd.1 he1,br _ k2 dd he2,br _ k3 dd he3]
       rfl
     · rename_i e3
       rw[if_neg e3]at he
       split
       · rename_i e4
         rw[if_pos e4]at he
         have dd:=dead _ (by decide) e4
         have k1:=((loop0_keeps T J).trans (step_keeps T (loop0 T J))).trans (newName_keeps T (step T (loop0 T J)))
         have k2:=k1.trans (expr_keeps T 11 (newName T (step T (loop0 T J))))
         have he2:(dos T f (seeing (counter T J) (expr T 11 (newName T (step T (loop0 T J)))).1)).1.err=0:=he
         have he1:(expr T 11 (newName T (step T (loop0 T J)))).1.err=0:=dos_st T f (seeing (counter T J) (expr T 11 (newName T (step T (loop0 T J)))).1) he2
         have g1:=ex _ k1 dd.1 he1
         show goodD (.fors p (counter T J) (expr T 11 (newName T (step T (loop0 T J)))).2 (dos T f (seeing (counter T J) (expr T 11 (newName T (step T (loop0 T J)))).1)).2)=true
         rw[goodD,g1,Bool.true_and]
         refine hd _ ⟨?_,Or.inl ⟨?_,?_⟩⟩ he2
         · show 0<=(expr T 11 (newName T (step T (loop0 T J)))).1.depth;rw[k2.depth];exact d0
         · show(expr T 11 (newName T (step T (loop0 T J)))).1.depth<=10;rw[k2.depth];exact dd.1
         · show 11-(expr T 11 (newName T (step T (loop0 T J)))).1.depth<=(f:Int);rw[k2.depth];omega
       · rename_i e4
         rw[if_neg e4]at he
         exact absurd he (here_ne (by decide))
theorem dosL_good{s:ByteArray}{T:List Tok}(hS:Scans s T){f:Nat}(hd:1<=f->∀p J,LvD T f J->(doF T f p J).1.err=0->goodD (doF T f p J).2=true)(m:Nat):∀(J:S) (l:List Do),Lv T f J->goodL l=true->(dosL T (doF T f) m J l).1.err=0->goodL (dosL T (doF T f) m J l).2=true:=by
 induction m with
 |zero=>intro J l _ hg _;exact hg
 |succ m ih=>
  intro J l hl hg he
  rw[dosL]at he ⊢
  split
  · rename_i e
    rw[if_pos e]at he
    have hlive:J.depth<=10/\11-J.depth<=(f:Int):=by
     rcases hl.2 with h |h
     · exact h
     · unfold isW at e
       rw[last_no hS h [40] (by decide)]at e
       exact absurd e (by decide)
    have kk:=brkDo_keeps (T:=T) (doF_keeps T f) J
    have he1:=dosL_st (doF_st T f) m _ _ he
    refine ih _ _ ⟨by rw[kk.depth];exact hl.1,Or.inl (by rw[kk.depth];exact hlive)⟩ ?_ he
    rw[goodL_snoc,hg,Bool.true_and]
    exact hd (by omega) _ _ (lvD_opened hl.1 hlive.1 hlive.2) (closed_st T _ he1)
  · exact hg
theorem dos_good{s:ByteArray}{T:List Tok}(hS:Scans s T)(f:Nat):∀J,Lv T f J->(dos T f J).1.err=0->goodL (dos T f J).2=true:=by
 induction f with
 |zero=>exact λJ hl he=>dosL_good hS (λh=>by omega) T.length J [] hl rfl he
 |succ f ih=>exact λJ hl he=>dosL_good hS (λ_ p J hl he=>doX_good hS ih p hl he) T.length J [] hl rfl he
theorem prog_good{s:ByteArray}{T:List Tok}(hS:Scans s T)(hd:(prog0 T).depth=0)(he:(progS T).err=0):goodL (progD T)=true:=
 dos_good hS 11 _ ⟨by rw[hd];omega,Or.inl (by rw[hd];omega)⟩ (take_st T _ _ he)
theorem declsL_depth(T:List Tok)(m:Nat):∀J,(declsL T m J).depth=J.depth:=by
 induction m with
 |zero=>intro J;rfl
 |succ m ih=>
  intro J
  rw[declsL]
  split
  · rw[ih];exact(dcl_keeps T J).depth
  · rfl
theorem prog0_depth(T:List Tok):(prog0 T).depth=0:=declsL_depth T _ _
end K
end
section
open Go.RowKit
open R (Tok tk)
open K (Nm S Scans Ex Do)
theorem first_c{w:World}{l:List Do}(hG:GdsDoes l){na:Option Addr}{nn nc:Nat}{wd:Int}{dv:Value}{us:List Value}{B:Nat->Prop}(dr:DRow B w dv us)(de:Each B w l us):
 Calls Tryz.prog 57 #[.agg #[.slice na nn nc,.int .i64 wd,dv]] w λx w'=>x=.returned (.tuple #[.int .i64 (K.gds false l (0,false)).1,.bool (K.gds false l (0,false)).2])/\Below w.heap.size w w':=by
 obtain⟨da,dn,dc,rfl⟩:=dr.form
 have dr1:=dr.lower (B':=λk=>k<w.heap.size) λk _ h=>h
 have de1:=de.lower (B':=λk=>k<w.heap.size) λk _ h=>h
 have e1:(w.alloc (.cells #[.slice na nn nc,.int .i64 wd,.slice da dn dc] 84 (0,0))).heap.size=w.heap.size+1:=by simp
 have aS:GAt ((w.alloc (.cells #[.slice na nn nc,.int .i64 wd,.slice da dn dc] 84 (0,0))).alloc (.cells #[.int .i64 0,.bool false] 142 (0,0))) (w.heap.size+1) (0,false):=by
  have:=At.alloc_new (w.alloc (.cells #[.slice na nn nc,.int .i64 wd,.slice da dn dc] 84 (0,0))) [.int .i64 0,.bool false] 142
  rw[e1]at this
  exact this
 have kp:∀k,k<w.heap.size->k<w.heap.size->((w.alloc (.cells #[.slice na nn nc,.int .i64 wd,.slice da dn dc] 84 (0,0))).alloc (.cells #[.int .i64 0,.bool false] 142 (0,0))).heap[k]?=w.heap[k]?:=λk h _=>by
  rw[heap_alloc_old _ _ _ (by omega),heap_alloc_old _ _ _ h]
 have BW:Below w.heap.size w ((w.alloc (.cells #[.slice na nn nc,.int .i64 wd,.slice da dn dc] 84 (0,0))).alloc (.cells #[.int .i64 0,.bool false] 142 (0,0))):=((Below.refl _ _).alloc (Nat.le_refl _) _).alloc (by simp) _
 have hd:=hG (λk=>k<w.heap.size) _ (w.heap.size+1) (0,false) (.slice da dn dc) us false aS (dr1.keep kp) (de1.keep kp) (λk h=>by omega)
 obtain⟨G,HG⟩:∃G,Hid (K.gds false l (0,false)=G):=⟨_,rfl⟩
 rw[HG.out]at hd
 clear dr de dr1 de1 kp hG
 go_enter Tryz.func57,Tryz.ntmps57
 go_wp2_with fail
 refine hd.mono ?_
 rintro x w2 ⟨rfl,h2,hb2⟩
 have B2:Below w.heap.size w w2:=BW.trans ⟨hb2.os,hb2.tape,hb2.output,hb2.size,λk hk=>hb2.block k (by have:=BW.size;omega) (by omega)⟩
 have c0:=h2.cell 0
 have c1:=h2.cell 1
 simp only[List.getElem?_cons_zero,List.getElem?_cons_succ]at c0 c1
 go_upto_region 3 with fail
 go_region
 all_goals
  go_wp2_with fail
  rw[HG.out]
  go_ret2
  exact⟨rfl,B2.drew⟩
def K.found(T:List Tok):K.GS:=K.gds false (K.progD T) (0,false)
def Readed(T:List Tok)(w w':World)(x:Ending):Prop:=
 (¬(K.progS T).err=0/\x=.returned (.tuple #[zeroP,.int .i64 (K.progS T).err,.int .i64 (K.progS T).eat]))∨
 ((K.progS T).err=0/\(K.found T).2=true/\x=.returned (.tuple #[zeroP,.int .i64 7,.int .i64 (K.found T).1]))∨
 ((K.progS T).err=0/\(K.found T).2=false/\∃nv dv us,x=.returned (.tuple #[.agg #[nv,.int .i64 (K.progS T).words,dv],.int .i64 0,.int .i64 0])/\w'.ownsRow 0 96 5 nv (K.progS T).names.length ((K.progS T).names.flatMap nmCells)/\DRow (From w.heap.size) w' dv us/\Each (From w.heap.size) w' (K.progD T) us)
theorem mread_long(s:ByteArray)(w:World)(hs:800<s.size)(hm:s.size<=maxLen):
 Calls Tryz.prog 40 #[.string s] w λx w'=>x=.returned (.tuple #[zeroP,.int .i64 1,.int .i64 0])/\Below w.heap.size w w':=by
 have hp:=parse_long s (w.alloc (.cells #[.slice none 0 0,.int .i64 0,.slice none 0 0] 84 (0,0))) hs hm
 have aA:=At.alloc_new w [.slice none 0 0,.int .i64 0,.slice none 0 0] 84
 have BW:Below w.heap.size w (w.alloc (.cells #[.slice none 0 0,.int .i64 0,.slice none 0 0] 84 (0,0))):=(Below.refl _ _).alloc (Nat.le_refl _) _
 unfold zeroP at hp
 go_enter Tryz.func40,Tryz.ntmps40
 go_wp2_with fail
 refine hp.mono ?_
 rintro x w2 ⟨rfl,hb2⟩
 have aA2:=aA.of_block (hb2.block _ aA.lt)
 have B2:=BW.trans (hb2.mono BW.size)
 have lA:=aA2.lt
 have q0:=aA2.cell 0
 have q1:=aA2.cell 1
 have q2:=aA2.cell 2
 simp only[List.getElem?_cons_zero,List.getElem?_cons_succ]at q0 q1 q2
 have f0:=aA2.frozen 0
 have f1:=aA2.frozen 1
 have f2:=aA2.frozen 2
 have RZ:=((aA2.set 0 (.slice none 0 0)).set 1 (.int .i64 0)).set 2 (.slice none 0 0)
 have BZ:Below w.heap.size w (((w2.setCell ⟨w.heap.size,0,none⟩ (.slice none 0 0)).setCell ⟨w.heap.size,1,none⟩ (.int .i64 0)).setCell ⟨w.heap.size,2,none⟩ (.slice none 0 0)):=((B2.setCell (Nat.le_refl _) _).setCell (Nat.le_refl _) _).setCell (Nat.le_refl _) _
 go_wp2_with fail
 generalize((w2.setCell ⟨w.heap.size,0,none⟩ (.slice none 0 0)).setCell ⟨w.heap.size,1,none⟩ (.int .i64 0)).setCell ⟨w.heap.size,2,none⟩ (.slice none 0 0)=WZ at*
 have z0:WZ.cell? ⟨w.heap.size,0,none⟩=some (.slice none 0 0):=RZ.cell 0
 have z1:WZ.cell? ⟨w.heap.size,1,none⟩=some (.int .i64 0):=RZ.cell 1
 have z2:WZ.cell? ⟨w.heap.size,2,none⟩=some (.slice none 0 0):=RZ.cell 2
 have zl:=RZ.lt
 exact bodyPost_ret (v:=.tuple #[zeroP,.int .i64 1,.int .i64 0]) (by simp[results,Tryz.results40,go_sem,zeroP,z0,z1,z2,zl]) rfl ⟨rfl,BZ.alloc (by omega) _⟩
theorem row_slc{w:World}{B:Nat}{e:TypeId}{size:Nat}{v:Value}{n:Nat}{xs:List Value}(h:w.ownsRow B e size v n xs):∃a m c,v=.slice a m c:=by
 obtain⟨_,h |⟨g,cap,cur,rfl,_⟩⟩:=h
 · exact⟨_,_,_,h.1⟩
 · exact⟨_,_,_,rfl⟩
theorem mread_c(hGd:∀l,K.goodL l=true->GdsDoes l)(s:ByteArray)(w:World)(hs:s.size<=800)(hv:K.Vars w)(hw:5<=w.heap.size):
 Calls Tryz.prog 40 #[.string s] w λx w'=>Readed (R.toks s) w w' x/\Below w.heap.size w w':=by
 have aA:=At.alloc_new w [.slice none 0 0,.int .i64 0,.slice none 0 0] 84
 have BW:Below w.heap.size w (w.alloc (.cells #[.slice none 0 0,.int .i64 0,.slice none 0 0] 84 (0,0))):=(Below.refl _ _).alloc (Nat.le_refl _) _
 have hVW:K.Vars (w.alloc (.cells #[.slice none 0 0,.int .i64 0,.slice none 0 0] 84 (0,0))):=by
  obtain⟨⟨e0,a1,a2⟩,⟨e1,c1,c2⟩⟩:=hv
  exact⟨⟨e0,(BW.cell (p:=⟨3,0,none⟩) (by show 3<w.heap.size;omega)).trans a1,a2⟩,⟨e1,(BW.cell (p:=⟨4,0,none⟩) (by show 4<w.heap.size;omega)).trans c1,c2⟩⟩
 have hp:=parse_c s _ hs hVW (by have:=BW.size;omega)
 have hS:=K.scans_toks hs
 have hgood:=λe=>K.prog_good hS (K.prog0_depth (R.toks s)) e
 have HFD:Hid (K.found (R.toks s)=K.gds false (K.progD (R.toks s)) (0,false)):=rfl
 generalize R.toks s=T at*
 obtain⟨JF,HSF⟩:∃JF,Hid (K.progS T=JF):=⟨_,rfl⟩
 unfold Parsed at hp
 rw[HSF.out]at hp hgood
 unfold Readed
 rw[HSF.out]
 go_enter Tryz.func40,Tryz.ntmps40
 go_wp2_with fail
 refine hp.mono ?_
 rintro x w2 ⟨hpar,hb2⟩
 have aA2:=aA.of_block (hb2.block _ aA.lt)
 have B2:=BW.trans (hb2.mono BW.size)
 have lA:=aA2.lt
 clear hp hVW aA
 rcases hpar with⟨he,rfl⟩|⟨he,nv,dv,us,rfl,nr,dr,de⟩
 · have he':(JF.err != 0)=true:=by simpa using he
   unfold zeroP
   have q0:=aA2.cell 0
   have q1:=aA2.cell 1
   have q2:=aA2.cell 2
   simp only[List.getElem?_cons_zero,List.getElem?_cons_succ]at q0 q1 q2
   have f0:=aA2.frozen 0
   have f1:=aA2.frozen 1
   have f2:=aA2.frozen 2
   have RZ:=((aA2.set 0 (.slice none 0 0)).set 1 (.int .i64 0)).set 2 (.slice none 0 0)
   have BZ:Below w.heap.size w (((w2.setCell ⟨w.heap.size,0,none⟩ (.slice none 0 0)).setCell ⟨w.heap.size,1,none⟩ (.int .i64 0)).setCell ⟨w.heap.size,2,none⟩ (.slice none 0 0)):=((B2.setCell (Nat.le_refl _) _).setCell (Nat.le_refl _) _).setCell (Nat.le_refl _) _
   go_wp2_with fail
   generalize((w2.setCell ⟨w.heap.size,0,none⟩ (.slice none 0 0)).setCell ⟨w.heap.size,1,none⟩ (.int .i64 0)).setCell ⟨w.heap.size,2,none⟩ (.slice none 0 0)=WZ at*
   have z0:WZ.cell? ⟨w.heap.size,0,none⟩=some (.slice none 0 0):=RZ.cell 0
   have z1:WZ.cell? ⟨w.heap.size,1,none⟩=some (.int .i64 0):=RZ.cell 1
   have z2:WZ.cell? ⟨w.heap.size,2,none⟩=some (.slice none 0 0):=RZ.cell 2
   have zl:=RZ.lt
   exact bodyPost_ret (v:=.tuple #[zeroP,.int .i64 JF.err,.int .i64 JF.eat]) (by simp[results,Tryz.results40,go_sem,zeroP,z0,z1,z2,zl]) rfl ⟨Or.inl ⟨he,rfl⟩,BZ.alloc (by omega) _⟩
 · obtain⟨na,nc,nk,hnv⟩:=row_slc nr
   obtain⟨da,dn,dc,hdv⟩:=dr.form
   subst hdv
   have he':(JF.err != 0)=false:=by rw[he];rfl
   have hg:=hGd _ (hgood he)
   have dr2:=dr.lower (B':=λk=>w.heap.size<k/\k<w2.heap.size) λk h1 h=>⟨by have:(w.alloc (.cells #[.slice none 0 0,.int .i64 0,.slice none 0 0] 84 (0,0))).heap.size<=k:=h1;simp at this;omega,h⟩
   have de2:=de.lower (B':=λk=>w.heap.size<k/\k<w2.heap.size) λk h1 h=>⟨by have:(w.alloc (.cells #[.slice none 0 0,.int .i64 0,.slice none 0 0] 84 (0,0))).heap.size<=k:=h1;simp at this;omega,h⟩
   have nr2:=nr
   have nl:∀k,nv.ownBlock=some k->k<w2.heap.size/\k≠w.heap.size:=λk e=>by
    obtain⟨cur,hc⟩:=own_block nr e
    refine⟨blk_lt hc,λe'=>?_⟩
    have:=aA2
    unfold At at this
    rw[<-e',hc]at this
    simp at this
   have HNV:=hide hnv
   rw[hnv]
   have ka:∀k,(w.heap.size<k/\k<w2.heap.size)->k<w2.heap.size->(w2.alloc (.cells #[.slice na nc nk,.int .i64 JF.words,.slice da dn dc] 84 (0,0))).heap[k]?=w2.heap[k]?:=λk h1 _=>heap_alloc_old _ _ _ h1.2
   have dr3:=dr2.keep ka
   have de3:=de2.keep ka
   have nr3:=row_of (w':=w2.alloc (.cells #[.slice na nc nk,.int .i64 JF.words,.slice da dn dc] 84 (0,0))) nr λk e=>heap_alloc_old _ _ _ (nl k e).1
   have hfi:=first_c hg (na:=na) (nn:=nc) (nc:=nk) (wd:=JF.words) dr3 de3
   have aA3:=aA2.alloc (.cells #[.slice na nc nk,.int .i64 JF.words,.slice da dn dc] 84 (0,0))
   have aP:=At.alloc_new w2 [.slice na nc nk,.int .i64 JF.words,.slice da dn dc] 84
   have B3:Below w.heap.size w (w2.alloc (.cells #[.slice na nc nk,.int .i64 JF.words,.slice da dn dc] 84 (0,0))):=B2.alloc (by omega) _
   rw[<-HFD.out]at hfi
   obtain⟨FD,HF2⟩:∃FD,Hid (K.found T=FD):=⟨_,rfl⟩
   rw[HF2.out]at hfi
   clear nr dr de dr2 de2 ka hnv HFD
   go_wp2_with fail
   refine hfi.mono ?_
   rintro x w4 ⟨rfl,hb4⟩
   have aA4:=aA3.of_block (hb4.block _ aA3.lt)
   have aP4:=aP.of_block (hb4.block _ aP.lt)
   have B4:=B3.trans (hb4.mono B3.size)
   have l4:=aA4.lt
   have s3:=aP.lt
   have p0:=aP4.cell 0
   have p1:=aP4.cell 1
   have p2:=aP4.cell 2
   simp only[List.getElem?_cons_zero,List.getElem?_cons_succ]at p0 p1 p2
   have nr4:=row_of (w':=w4) nr3 λk e=>hb4.block k (by have:=(nl k e).1;omega)
   have dr4:=dr3.keep (w':=w4) λk _ h=>hb4.block k h
   have de4:=Each.keep (w':=w4) (λk _ h=>hb4.block k h) de3
   clear hfi dr3 de3 nr3 aA3 aP
   cases hf:FD.2 with
   |true=>
    have q0:=aA4.cell 0
    have q1:=aA4.cell 1
    have q2:=aA4.cell 2
    simp only[List.getElem?_cons_zero,List.getElem?_cons_succ]at q0 q1 q2
    have f0:=aA4.frozen 0
    have f1:=aA4.frozen 1
    have f2:=aA4.frozen 2
    have RZ:=((aA4.set 0 (.slice none 0 0)).set 1 (.int .i64 0)).set 2 (.slice none 0 0)
    have BZ:Below w.heap.size w (((w4.setCell ⟨w.heap.size,0,none⟩ (.slice none 0 0)).setCell ⟨w.heap.size,1,none⟩ (.int .i64 0)).setCell ⟨w.heap.size,2,none⟩ (.slice none 0 0)):=((B4.setCell (Nat.le_refl _) _).setCell (Nat.le_refl _) _).setCell (Nat.le_refl _) _
    go_wp2_with fail
    generalize((w4.setCell ⟨w.heap.size,0,none⟩ (.slice none 0 0)).setCell ⟨w.heap.size,1,none⟩ (.int .i64 0)).setCell ⟨w.heap.size,2,none⟩ (.slice none 0 0)=WZ at*
    have z0:WZ.cell? ⟨w.heap.size,0,none⟩=some (.slice none 0 0):=RZ.cell 0
    have z1:WZ.cell? ⟨w.heap.size,1,none⟩=some (.int .i64 0):=RZ.cell 1
    have z2:WZ.cell? ⟨w.heap.size,2,none⟩=some (.slice none 0 0):=RZ.cell 2
    refine bodyPost_ret (v:=.tuple #[zeroP,.int .i64 7,.int .i64 FD.1]) (by simp[results,Tryz.results40,go_sem,zeroP,z0,z1,z2]) rfl ⟨Or.inr (Or.inl ⟨he,?_⟩),BZ⟩
    rw[HF2.out]
    exact⟨hf,rfl⟩
   |false=>
    have q0:=aA4.cell 0
    have q1:=aA4.cell 1
    have q2:=aA4.cell 2
    simp only[List.getElem?_cons_zero,List.getElem?_cons_succ]at q0 q1 q2
    have f0:=aA4.frozen 0
    have f1:=aA4.frozen 1
    have f2:=aA4.frozen 2
    have RZ:=((aA4.set 0 (.slice na nc nk)).set 1 (.int .i64 JF.words)).set 2 (.slice da dn dc)
    have sne:∀j,j≠w.heap.size->(((w4.setCell ⟨w.heap.size,0,none⟩ (.slice na nc nk)).setCell ⟨w.heap.size,1,none⟩ (.int .i64 JF.words)).setCell ⟨w.heap.size,2,none⟩ (.slice da dn dc)).heap[j]?=w4.heap[j]?:=λj hj=>by
     rw[Below.heap_setCell _ _ _ _ hj,Below.heap_setCell _ _ _ _ hj,Below.heap_setCell _ _ _ _ hj]
    have BZ:Below w.heap.size w (((w4.setCell ⟨w.heap.size,0,none⟩ (.slice na nc nk)).setCell ⟨w.heap.size,1,none⟩ (.int .i64 JF.words)).setCell ⟨w.heap.size,2,none⟩ (.slice da dn dc)):=((B4.setCell (Nat.le_refl _) _).setCell (Nat.le_refl _) _).setCell (Nat.le_refl _) _
    have nr5:=row_of (w':=((w4.setCell ⟨w.heap.size,0,none⟩ (.slice na nc nk)).setCell ⟨w.heap.size,1,none⟩ (.int .i64 JF.words)).setCell ⟨w.heap.size,2,none⟩ (.slice da dn dc)) nr4 λk e=>sne k (nl k e).2
    have dr5:=(dr4.keep (w':=((w4.setCell ⟨w.heap.size,0,none⟩ (.slice na nc nk)).setCell ⟨w.heap.size,1,none⟩ (.int .i64 JF.words)).setCell ⟨w.heap.size,2,none⟩ (.slice da dn dc)) λk h _=>sne k (by omega)).lower (B':=From w.heap.size) λk h _=>by show w.heap.size<=k;omega
    have de5:=(Each.keep (w':=((w4.setCell ⟨w.heap.size,0,none⟩ (.slice na nc nk)).setCell ⟨w.heap.size,1,none⟩ (.int .i64 JF.words)).setCell ⟨w.heap.size,2,none⟩ (.slice da dn dc)) (λk h _=>sne k (by omega)) de4).lower (B':=From w.heap.size) λk h _=>by show w.heap.size<=k;omega
    clear sne dr4 de4 nr4
    go_wp2_with fail
    generalize((w4.setCell ⟨w.heap.size,0,none⟩ (.slice na nc nk)).setCell ⟨w.heap.size,1,none⟩ (.int .i64 JF.words)).setCell ⟨w.heap.size,2,none⟩ (.slice da dn dc)=WZ at*
    have z0:WZ.cell? ⟨w.heap.size,0,none⟩=some (.slice na nc nk):=RZ.cell 0
    have z1:WZ.cell? ⟨w.heap.size,1,none⟩=some (.int .i64 JF.words):=RZ.cell 1
    have z2:WZ.cell? ⟨w.heap.size,2,none⟩=some (.slice da dn dc):=RZ.cell 2
    refine bodyPost_ret (v:=.tuple #[.agg #[.slice na nc nk,.int .i64 JF.words,.slice da dn dc],.int .i64 0,.int .i64 0]) (by simp[results,Tryz.results40,go_sem,z0,z1,z2]) rfl ⟨Or.inr (Or.inr ⟨he,?_,nv,.slice da dn dc,us,by rw[HNV.out],nr5,dr5,de5⟩),BZ⟩
    rw[HF2.out]
    exact hf
end
section
open K (Nm Ex Do)
theorem gd_put(p:Int)(n:Nm)(i e:Ex)(hgi:K.good i=true)(hg:K.good e=true):GdDoes (.put p n i e):=by
 cases hq:K.sec i with
 |true=>exact gd_putT p n i e hgi hg hq
 |false=>exact gd_putF p n i e hgi hg hq
end
section
open Go.RowKit
open R (Tok tk)
open K (Nm S Scans Ex Do)
def K.checkT(T:List Tok):Int×Int:=if(K.progS T).err=0 then(if(K.found T).2=true then(7,(K.found T).1)else(0,0))else((K.progS T).err,(K.progS T).eat)
def K.check(s:ByteArray):Int×Int:=if 800<s.size then(1,0)else K.checkT (R.toks s)
theorem check_c(hGd:∀l,K.goodL l=true->GdsDoes l)(s:ByteArray)(w:World)(hm:s.size<=maxLen)(hv:K.Vars w)(hw:5<=w.heap.size):
 Calls Tryz.prog 14 #[.string s] w λx w'=>x=.returned (.tuple #[.int .i64 (K.check s).1,.int .i64 (K.check s).2])/\Below w.heap.size w w':=by
 by_cases hs:800<s.size
 · have hr:=mread_long s w hs hm
   have e:K.check s=(1,0):=by unfold K.check;rw[if_pos hs]
   rw[e]
   unfold zeroP at hr
   go_enter Tryz.func14,Tryz.ntmps14
   go_wp2_with fail
   refine hr.mono ?_
   rintro x w1 ⟨rfl,hb⟩
   go_wp2_with fail
   go_ret2
   exact⟨rfl,hb.alloc hb.size _⟩
 · have hr:=mread_c hGd s w (by omega) hv hw
   have HE:Hid (K.check s=K.checkT (R.toks s)):=by show _=_;unfold K.check;rw[if_neg hs]
   generalize R.toks s=T at*
   unfold Readed at hr
   obtain⟨C,HC⟩:∃C,Hid (K.check s=C):=⟨_,rfl⟩
   rw[HC.out]
   have HT:Hid (C=if(K.progS T).err=0 then(if(K.found T).2=true then(7,(K.found T).1)else(0,0))else((K.progS T).err,(K.progS T).eat)):=by show _=_;rw[<-HC.out,HE.out];rfl
   generalize K.progS T=JF at*
   generalize K.found T=FD at*
   go_enter Tryz.func14,Tryz.ntmps14
   go_wp2_with fail
   refine hr.mono ?_
   rintro x w1 ⟨hx,hb⟩
   rcases hx with⟨he,rfl⟩|⟨he,hf,rfl⟩|⟨he,hf,nv,dv,us,rfl,nr,dr,de⟩
   · have e:C=(JF.err,JF.eat):=by rw[HT.out,if_neg he]
     subst e
     unfold zeroP
     go_wp2_with fail
     go_ret2
     exact⟨rfl,hb.alloc hb.size _⟩
   · have e:C=(7,FD.1):=by rw[HT.out,if_pos he,if_pos hf]
     subst e
     unfold zeroP
     go_wp2_with fail
     go_ret2
     exact⟨rfl,hb.alloc hb.size _⟩
   · have e:C=(0,0):=by rw[HT.out,if_pos he,if_neg (by rw[hf];decide)]
     subst e
     obtain⟨na,nc,nk,hnv⟩:=row_slc nr
     obtain⟨da,dn,dc,hdv⟩:=dr.form
     subst hnv hdv
     go_wp2_with fail
     go_ret2
     exact⟨rfl,hb.alloc hb.size _⟩
end
section
open R (Tok tk PS Thing)
open K (S Nm)
namespace Q
structure SameN(t:Thing)(n:Nm):Prop where
 name:t.name=n.text
 kind:t.kind=n.kind+1
 k0:0<=n.kind
 k2:n.kind<=2
 sec:t.sec=n.sec
 size:t.size=n.size
def Names:List Thing->List Nm->Prop
 |[],[]=>True
 |t::l,n::m=>SameN t n/\Names l m
 |_,_=>False
structure Sm(J:PS)(τ:S):Prop where
 e1:J.err=0
 e2:τ.err=0
 i:J.i=τ.i
 nest:J.nest=τ.depth
 loops:J.loops=τ.loops
 names:Names J.seen τ.names
structure Dd(J:PS)(τ:S):Prop where
 e1:J.err≠0
 e2:τ.err=J.err
 p:τ.eat=J.place
def Eqv(J:PS)(τ:S):Prop:=Sm J τ∨Dd J τ
def KD(τ τ':S):Prop:=τ.err≠0->τ'.err=τ.err/\τ'.eat=τ.eat
theorem KD.rfl'(τ:S):KD τ τ:=λ_=>⟨rfl,rfl⟩
theorem KD.trans{a b c:S}(h:KD a b)(k:KD b c):KD a c:=λe=>by
 have h1:=h e
 have h2:=k (by rw[h1.1];exact e)
 exact⟨h2.1.trans h1.1,h2.2.trans h1.2⟩
theorem step_kd(T:List Tok)(τ:S):KD τ (K.step T τ):=λ_=>⟨rfl,rfl⟩
theorem fail_kd(T:List Tok)(e p:Int)(τ:S):KD τ (K.fail T e p τ):=λh=>by unfold K.fail;rw[if_neg h];exact⟨rfl,rfl⟩
theorem take_kd(T:List Tok)(f:ByteArray->Bool)(τ:S):KD τ (K.take T f τ):=by
 unfold K.take;split
 · exact step_kd T τ
 · exact fail_kd T _ _ _
theorem known_kd(T:List Tok)(f:Nm->Bool)(τ:S):KD τ (K.known T f τ):=by
 unfold K.known;split
 · exact take_kd T _ τ
 · exact(take_kd T _ τ).trans (fail_kd T _ _ _)
theorem newName_kd(T:List Tok)(τ:S):KD τ (K.newName T τ):=by
 unfold K.newName;split
 · exact(take_kd T _ τ).trans (fail_kd T _ _ _)
 · exact take_kd T _ τ
theorem deeper_kd(d:Int)(τ:S):KD τ (K.deeper d τ):=λ_=>⟨rfl,rfl⟩
theorem opened_kd(T:List Tok)(τ:S):KD τ (K.opened T τ):=by
 unfold K.opened K.op2;split
 · exact((take_kd T _ τ).trans (fail_kd T _ _ _)).trans (deeper_kd _ _)
 · exact(take_kd T _ τ).trans (deeper_kd _ _)
theorem closed_kd(T:List Tok)(τ:S):KD τ (K.closed T τ):=(take_kd T _ τ).trans (deeper_kd _ _)
theorem comp_kd{T:List Tok}{ex:S->S×K.Ex}(h:∀τ,KD τ (ex τ).1)(p:Int)(τ:S):KD τ (K.comp T ex p τ).1:=by
 unfold K.comp
 split
 · exact((step_kd T τ).trans (known_kd T _ _)).trans (h _)
 · split
   · exact(((step_kd T τ).trans (h _)).trans (h _)).trans (h _)
   · split
     · exact((take_kd T _ τ).trans (h _)).trans (h _)
     · exact fail_kd T _ _ _
theorem expr_kd(T:List Tok)(f:Nat):∀τ,KD τ (K.expr T f τ).1:=by
 induction f with
 |zero=>intro τ;exact KD.rfl' τ
 |succ f ih=>
  intro τ
  rw[K.expr]
  unfold K.exB
  split
  · exact((opened_kd T τ).trans (comp_kd ih _ _)).trans (closed_kd T _)
  · split
    · exact take_kd T _ τ
    · exact known_kd T _ τ
def RD(J J':PS):Prop:=J.err≠0->J'.err=J.err/\J'.place=J.place
theorem Dd.next{J J':PS}{τ τ':S}(h:Dd J τ)(r:RD J J')(k:KD τ τ'):Dd J' τ':=by
 have h1:=r h.e1
 have h2:=k (by rw[h.e2];exact h.e1)
 exact⟨by rw[h1.1];exact h.e1,by rw[h2.1,h1.1];exact h.e2,by rw[h2.2,h1.2];exact h.p⟩
theorem rfail_d(e p:Int)(J:PS):RD J (R.fail e p J):=λh=>by unfold R.fail;rw[if_neg h];exact⟨rfl,rfl⟩
theorem fail_dd{J:PS}{τ:S}(h1:J.err=0)(h2:τ.err=0){e:Int}(he:e≠0)(T:List Tok)(p:Int):Dd (R.fail e p J) (K.fail T e p τ):=by
 unfold R.fail K.fail
 rw[if_pos h1,if_pos h2]
 exact⟨he,rfl,rfl⟩
theorem take_sm(T:List Tok){J:PS}{τ:S}(h:Sm J τ):Sm (R.take T J) (K.step T τ):=by
 have hi:=h.i
 unfold R.take
 by_cases hl:J.i+1<T.length
 · rw[if_pos hl]
   refine⟨h.e1,h.e2,?_,h.nest,h.loops,h.names⟩
   show J.i+1=K.nx T τ.i
   unfold K.nx
   rw[if_pos (by omega),hi]
 · rw[if_neg hl]
   refine⟨h.e1,h.e2,?_,h.nest,h.loops,h.names⟩
   show J.i=K.nx T τ.i
   unfold K.nx
   rw[if_neg (by omega),hi]
theorem rtake_err(T:List Tok)(J:PS):(R.take T J).err=J.err:=(R.take_core T J).2.2.1
theorem want_eqv(T:List Tok)(l:List UInt8){J:PS}{τ:S}(h:Sm J τ):Eqv (R.want T l J) (K.expect T l τ):=by
 unfold R.want K.expect K.take K.isIt
 rw[<-h.i]
 by_cases e:(tk T J.i).s.toList=l
 · rw[if_pos e,if_pos (by rw[e];simp)]
   exact Or.inl (take_sm T h)
 · rw[if_neg e,if_neg (by simpa using e)]
   unfold K.here
   rw[<-h.i]
   exact Or.inr (fail_dd ((rtake_err T J).trans h.e1) h.e2 (by decide) T _)
theorem opens_eqv(T:List Tok){J:PS}{τ:S}(h:Sm J τ):Eqv (R.opens T J) (K.opened T τ):=by
 have hw:=want_eqv T [40] h
 have n1:=(R.want_core T [40] J).2.2.2
 have n2:(K.op1 T τ).depth=τ.depth:=(K.op1_keeps T τ).depth
 have hE:K.expect T [40] τ=K.op1 T τ:=rfl
 rw[hE]at hw
 unfold R.opens R.open1 K.opened K.op2
 rw[<-h.i]
 by_cases hn:J.nest=10
 · rw[if_pos hn,if_pos (by rw[n2,<-h.nest];exact hn)]
   rcases hw with hw |hw
   · have:=fail_dd hw.e1 hw.e2 (e:=6) (by decide) T (tk T J.i).p
     exact Or.inr ⟨this.e1,this.e2,this.p⟩
   · have:=hw.next (rfail_d 6 (tk T J.i).p _) (fail_kd T 6 (tk T J.i).p _)
     exact Or.inr ⟨this.e1,this.e2,this.p⟩
 · rw[if_neg hn,if_neg (by rw[n2,<-h.nest];exact hn)]
   rcases hw with hw |hw
   · refine Or.inl ⟨hw.e1,hw.e2,hw.i,?_,hw.loops,hw.names⟩
     show(R.want T [40] J).nest+1=(K.op1 T τ).depth+1
     rw[hw.nest]
   · exact Or.inr ⟨hw.e1,hw.e2,hw.p⟩
theorem shut_eqv(T:List Tok){J:PS}{τ:S}(h:Eqv J τ):Eqv (R.shut T J) (K.closed T τ):=by
 rcases h with h |h
 · have hw:=want_eqv T [41] h
   have hE:K.expect T [41] τ=K.cl1 T τ:=rfl
   rw[hE]at hw
   unfold R.shut K.closed
   rw[if_pos h.e1]
   rcases hw with hw |hw
   · refine Or.inl ⟨hw.e1,hw.e2,hw.i,?_,hw.loops,hw.names⟩
     show(R.want T [41] J).nest-1=(K.cl1 T τ).depth+ -1
     rw[hw.nest];omega
   · exact Or.inr ⟨hw.e1,hw.e2,hw.p⟩
 · have k:=closed_kd T τ
   unfold R.shut
   rw[if_neg h.e1]
   have:=h.next (J':=J) (λ_=>⟨rfl,rfl⟩) k
   exact Or.inr ⟨this.e1,this.e2,this.p⟩
end Q
end
end Go.Proofs.YtejbgcloblpbfaaGreatDoor
