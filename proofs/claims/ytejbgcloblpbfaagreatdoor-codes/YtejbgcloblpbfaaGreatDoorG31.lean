import Derived.StillTailTactics
import Derived.Test.YtejbgcloblpbfaaGreatDoorG30
set_option maxHeartbeats 8000000
set_option maxRecDepth 100000
namespace Go.Proofs.YtejbgcloblpbfaaGreatDoor
open Go.RowKit
open K (Nm Ex Do)
namespace Y
def M0(ms:List Int)(k:Nat):Nat->Int:=λj=>if j<k then ms.getD j 0 else 0
theorem M0_succ(ms:List Int)(k:Nat):upd (M0 ms k) k (ms.getD k 0)=M0 ms (k+1):=by
 funext j
 unfold upd M0
 by_cases e:j=k
 · subst e;rw[if_pos rfl,if_pos (by omega)]
 · rw[if_neg e]
   by_cases c:j<k
   · rw[if_pos c,if_pos (by omega)]
   · rw[if_neg c,if_neg (by omega)]
theorem M0_all(ms:List Int):M0 ms ms.length=λj=>ms.getD j 0:=by
 funext j
 unfold M0
 split
 · rfl
 · rename_i c
   rw[List.getD_eq_getElem?_getD,List.getElem?_eq_none (by omega)]
   rfl
theorem newWriter_c(w:World)(N:Nat)(hN:N<=54)(na:Option Addr)(nn nc:Nat)(da:Option Addr)(dn dc:Nat):
 Calls Tryz.prog 66 #[.agg #[.slice na nn nc,.int .i64 (N:Int),.slice da dn dc]] w λx w'=>(∃p:WP,x=.returned (WV p)/\p.lo=w.heap.size/\WAt w' p [] R8 (upF (N+2) (254-N)) [])/\Below w.heap.size w w':=by
 have hP:∀(w:World) (x y:Int),Hid (∃a b:Nat,x=a/\y=b/\a<b/\b<=1000)->Calls Tryz.prog 93 #[.int .i64 x,.int .i64 y] w λz w'=>(∃pb g,z=.returned (.pointer (some ⟨pb,0,none⟩))/\w.heap.size<=pb/\w.heap.size<=g/\Pool w' pb g (y.toNat-x.toNat) (upF x.toNat (y.toNat-x.toNat)))/\Below w.heap.size w w':=by
  rintro w x y ⟨a,b,rfl,rfl,hab,hb⟩
  exact newPool_c w a b hab hb
 have hC:=fun(w:World)=>instructions_b w
 have hwr:IntKind.i64.wrap ((N:Int)+2)=(N:Int)+2:=k64 _ (by omega)
 have hwr2:wrap64 ((N:Int)+2)=(N:Int)+2:=by unfold wrap64;omega
 have hs1:Hid (∃a b:Nat,(0:Int)=a/\(8:Int)=b/\a<b/\b<=1000):=⟨0,8,rfl,rfl,by decide,by decide⟩
 have hs2:Hid (∃a b:Nat,(N:Int)+2=a/\(256:Int)=b/\a<b/\b<=1000):=⟨N+2,256,by omega,rfl,by omega,by decide⟩
 go_enter Tryz.func66,Tryz.ntmps66
 go_upto_region 1 with fail
 have bx:=At.alloc_new w [.slice na nn nc,.int .i64 (N:Int),.slice da dn dc] 84
 have B0:Below w.heap.size w (w.alloc (.cells #[.slice na nn nc,.int .i64 (N:Int),.slice da dn dc] 84 (0,0))):=(Below.refl _ _).alloc (Nat.le_refl _) _
 generalize w.alloc (.cells #[.slice na nn nc,.int .i64 (N:Int),.slice da dn dc] 84 (0,0))=w0 at*
 have hlL:=bx.lt
 generalize hLL:w.heap.size=L at*
 have KS:∀w':World,Below w0.heap.size w0 w'->w'.cell? ⟨L,1,none⟩=some (.int .i64 (N:Int)):=λw' hb=>(hb.cell (p:=⟨L,1,none⟩) hlL).trans (bx.cell 1)
 have Bd:Below w0.heap.size w0 w0.drew:=⟨rfl,rfl,rfl,Nat.le_refl _,λ_ _=>rfl⟩
 have HB0:=hide B0
 clear bx B0
 go_region_held (fun(w':World)=>w'.cell? ⟨L,1,none⟩=some (.int .i64 (N:Int))) (first |exact KS _ BC |exact KS _ BB |exact KS _ BA |exact KS _ Bd |exact KS _ (BC.alloc BC.size _))
  (first |(have hchk:=PA;go_at_call 93;refine(hP _ _ _ (by first |exact hs2 |exact hs1)).mono ?_;rintro z wB ⟨⟨pb,gb,rfl,lb,lgb,PB⟩,hbB⟩;have BB:=BA.trans (hbB.mono BA.size))|(go_at_call 94;refine(hC _).mono ?_;rintro z wC ⟨⟨tb,⟨htb,hbt⟩,rfl⟩,hbC⟩;have hsz:=htb.size;have BC:=BB.trans (hbC.mono BB.size))|(go_at_call 93;refine(hP _ _ _ (by first |exact hs1 |exact hs2)).mono ?_;rintro z wA ⟨⟨pa,ga,rfl,la,lga,PA⟩,hbA⟩;have BA:=Bd.trans (hbA.mono Bd.size)))
 all_goals
  rw[hbt]
  go_wp2_with fail
  go_ret
  have zd:w0.drew.heap.size=w0.heap.size:=rfl
  have zB:=BB.size
  have zA:=BA.size
  have zC:=BC.size
  have PA':Pool wC pa ga 8 R8:=(PA.same λk hk=>hbB.block k hk).same λk hk=>hbC.block k hk
  have e1:(256:Int).toNat-((N:Int)+2).toNat=254-N:=by omega
  have e2:((N:Int)+2).toNat=N+2:=by omega
  rw[e1,e2]at PB
  have PB':=PB.same λk hk=>hbC.block k hk
  have lA:=PA.lt
  have W1:=wat_of (L:=L) htb PA' PB' ⟨by omega,by omega⟩ (by omega) (by omega) (by omega) (by omega) (by omega)
  rw[hLL]
  exact⟨⟨_,rfl,rfl,W1⟩,HB0.out.trans ((BC.alloc BC.size _).mono (by omega))⟩
theorem upF_drop(k:Nat)(h:k<=256):upF k (256-k)=(List.range 256).drop k:=by
 apply List.ext_getElem?
 intro j
 unfold upF
 rw[List.getElem?_map,List.getElem?_drop]
 by_cases c:j<256-k
 · rw[List.getElem?_range c,List.getElem?_range (by omega)]
   rfl
 · rw[List.getElem?_eq_none (by simp;omega),List.getElem?_eq_none (by simp;omega)]
   rfl
theorem wprog_c(N:Nat)(sh:List Bool)(l:List Do)(hP:Pr N sh l)(na:Option Addr)(nn nc:Nat)(da:Option Addr)(dn dc:Nat)(us:List Value)(w:World)(dr:DRow (λk=>k<w.heap.size) w (.slice da dn dc) us)(de:Each (λk=>k<w.heap.size) w l us):
 Calls Tryz.prog 50 #[.agg #[.slice na nn nc,.int .i64 (N:Int),.slice da dn dc]] w λx w'=>(∃cv,x=.returned cv/\w'.ownsRow w.heap.size 58 5 cv (prC N l).length ((prC N l).flatMap inV))/\Below w.heap.size w w':=by
 have hwf:=scl_wf l (by omega:0<=2) hP.sc
 have hN:=hP.n54
 have hnew:=fun(w:World)=>newWriter_c w N hN na nn nc da dn dc
 have hU:upF (N+2) (254-N)=(List.range 256).drop (N+2):=by rw[show 254-N=256-(N+2) by omega];exact upF_drop _ (by omega)
 rw[hU]at hnew
 have hUl:((List.range 256).drop (N+2)).length=254-N:=by rw[List.length_drop,List.length_range];omega
 have hU8:∀x∈(List.range 256).drop (N+2),x<256:=λx hx=>List.mem_range.1 (List.mem_of_mem_drop hx)
 have hpc:prC N l=dosC 0 ((List.range 256).drop (N+2)) none l++[.halt]:=rfl
 rw[hpc]
 have hdl:=dosC_len l 0 ((List.range 256).drop (N+2)) none
 have hcost:=hP.cost
 have hneed:=hP.need
 obtain⟨W0,hW0⟩:∃W0,w.alloc (.cells #[.slice na nn nc,.int .i64 (N:Int),.slice da dn dc] 84 (0,0))=W0:=⟨_,rfl⟩
 have RF:At W0 w.heap.size 84 [.slice na nn nc,.int .i64 (N:Int),.slice da dn dc]:=by rw[<-hW0];exact At.alloc_new w _ _
 have B0:Below w.heap.size w W0:=by rw[<-hW0];exact(Below.refl _ _).alloc (Nat.le_refl _) _
 have z0:=RF.cell 0
 have z1:=RF.cell 1
 have z2:=RF.cell 2
 simp only[List.getElem?_cons_zero,List.getElem?_cons_succ]at z0 z1 z2
 have hlt:=RF.lt
 have HRF:=hide RF
 have HB0:=hide B0
 have hzB:=B0.size
 have hn0:=hnew W0
 have hds:=fun(w':World) (p:WP) (hlo:p.lo=W0.heap.size) (h':WAt w' p [] R8 ((List.range 256).drop (N+2)) []) (hb:Below w.heap.size w w')=>dosw_all (N:=N+2) l (λk=>k<w.heap.size) w' p [] ((List.range 256).drop (N+2)) [] (.slice da dn dc) us h' (dr.keep λk b1 _=>hb.block k b1) (de.keep λk b1 _=>hb.block k b1) (λk hk=>by omega) hU8 hwf (by omega) (by simp only[List.length_nil];omega) (by simp only[List.length_nil];omega)
 have e1:([]:List Nat).getLast?=none:=rfl
 have e2:([]:List Ins).length=0:=rfl
 simp only[e1,e2,List.nil_append]at hds
 have HL:Hid ((dosC 0 ((List.range 256).drop (N+2)) none l).length<=80200):=by show _<=_;omega
 generalize dosC 0 ((List.range 256).drop (N+2)) none l=D at*
 generalize(List.range 256).drop (N+2)=U at*
 clear RF B0 hnew dr de hU hpc hdl hwf hU8 hP e1 e2
 go_enter Tryz.func50,Tryz.ntmps50
 go_wp2_with fail
 refine hn0.mono ?_
 rintro x w1 ⟨⟨p,rfl,hlo,h1⟩,hb1⟩
 have zB1:=hb1.size
 have B1:=HB0.out.trans (hb1.mono hzB)
 have R1:=HRF.out.of_block (hb1.block _ hlt)
 have k2:=R1.cell 2
 simp only[List.getElem?_cons_zero,List.getElem?_cons_succ]at k2
 have hd:=hds w1 p hlo h1 B1
 have HB1:=hide B1
 clear h1 B1 R1 hds hn0
 go_wp2_with fail
 refine hd.mono ?_
 rintro x w2 ⟨rfl,h2,b2⟩
 have ha:=add_c h2 h2.hl (by have:=HL.out;omega) .halt (n0:=15) (n1:=0) (n2:=0) (n3:=0) (n4:=0) rfl
 clear h2 hd
 go_wp2_with fail
 refine ha.mono ?_
 rintro x w3 ⟨rfl,h3,b3⟩
 obtain⟨cv,kv,a3,o3,_,_⟩:=h3.rows
 have c3:=(wcell a3 h3.tab).1
 have wl3:=a3.lt
 have HO:=hide o3
 clear a3 o3 h3
 have hcf:∃ca cn cc,cv=.slice ca cn cc:=by
  rcases Joins.ownsRow_forms HO.out with⟨rfl,h0⟩|⟨g,cc,rfl⟩
  · exact⟨_,_,_,rfl⟩
  · exact⟨_,_,_,rfl⟩
 obtain⟨ca,cn,cc,rfl⟩:=hcf
 go_wp2_with fail
 go_ret
 refine⟨⟨_,rfl,Joins.ownsRow_le HO.out (by rw[hlo];exact hzB)⟩,HB1.out.trans (((b2.trans b3).below (by rw[hlo];exact zB1)).mono (by rw[hlo];exact hzB))⟩
theorem comp_err{s:ByteArray}{w:World}{E Q:Int}(hE:¬E=0)(hr:Calls Tryz.prog 40 #[.string s] w λx w'=>x=.returned (.tuple #[zeroP,.int .i64 E,.int .i64 Q])/\Below w.heap.size w w'):
 Calls Tryz.prog 27 #[.string s] w λx w'=>x=.returned (.tuple #[.slice none 0 0,.int .i64 E])/\Below w.heap.size w w':=by
 unfold zeroP at hr
 go_enter Tryz.func27,Tryz.ntmps27
 go_wp2_with fail
 refine hr.mono ?_
 rintro x w1 ⟨rfl,hb⟩
 go_wp2_with fail
 go_ret2
 exact⟨rfl,hb.alloc hb.size _⟩
theorem comp_go{s:ByteArray}{w:World}{N:Nat}{sh:List Bool}(l:List Do)(hP:Pr N sh l)(hr:Calls Tryz.prog 40 #[.string s] w λx w'=>(∃na nn nc da dn dc us,x=.returned (.tuple #[.agg #[.slice na nn nc,.int .i64 (N:Int),.slice da dn dc],.int .i64 0,.int .i64 0])/\DRow (From w.heap.size) w' (.slice da dn dc) us/\Each (From w.heap.size) w' l us)/\Below w.heap.size w w'):
 Calls Tryz.prog 27 #[.string s] w λx w'=>(∃cv,x=.returned (.tuple #[cv,.int .i64 0])/\w'.ownsRow w.heap.size 58 5 cv (prC N l).length ((prC N l).flatMap inV))/\Below w.heap.size w w':=by
 go_enter Tryz.func27,Tryz.ntmps27
 go_wp2_with fail
 refine hr.mono ?_
 rintro x w1 ⟨⟨na,nn,nc,da,dn,dc,us,rfl,dr,de⟩,hb⟩
 have aA:=At.alloc_new w1 [.slice na nn nc,.int .i64 (N:Int),.slice da dn dc] 84
 have B1:=hb.alloc hb.size (.cells #[.slice na nn nc,.int .i64 (N:Int),.slice da dn dc] 84 (0,0))
 have kp:∀k,k<w1.heap.size->k<w1.heap.size->(w1.alloc (.cells #[.slice na nn nc,.int .i64 (N:Int),.slice da dn dc] 84 (0,0))).heap[k]?=w1.heap[k]?:=λk h _=>heap_alloc_old _ _ _ h
 have dr1:=((dr.lower (B':=λk=>k<w1.heap.size) λk _ h=>h).keep kp).lower (B':=λk=>k<(w1.alloc (.cells #[.slice na nn nc,.int .i64 (N:Int),.slice da dn dc] 84 (0,0))).heap.size) λk _ h=>h
 have de1:=((de.lower (B':=λk=>k<w1.heap.size) λk _ h=>h).keep kp).lower (B':=λk=>k<(w1.alloc (.cells #[.slice na nn nc,.int .i64 (N:Int),.slice da dn dc] 84 (0,0))).heap.size) λk _ h=>h
 have hp:=wprog_c N sh l hP na nn nc da dn dc us _ dr1 de1
 have hzz:=B1.size
 clear dr1 de1 kp
 go_wp2_with fail
 refine hp.mono ?_
 rintro x w3 ⟨⟨cv,rfl,o3⟩,hb3⟩
 have hcf:∃ca cn cc,cv=.slice ca cn cc:=by
  rcases Joins.ownsRow_forms o3 with⟨rfl,h0⟩|⟨g,cc,rfl⟩
  · exact⟨_,_,_,rfl⟩
  · exact⟨_,_,_,rfl⟩
 obtain⟨ca,cn,cc,rfl⟩:=hcf
 have HO:=hide o3
 clear o3
 go_wp2_with fail
 go_ret2
 exact⟨⟨_,rfl,Joins.ownsRow_le HO.out hzz⟩,B1.trans (hb3.mono B1.size)⟩
theorem compile_c(s:ByteArray)(w:World)(hm:s.size<=maxLen)(hv:K.Vars w)(hw:5<=w.heap.size):
 Calls Tryz.prog 27 #[.string s] w λx w'=>((¬(R.read s).err=0/\x=.returned (.tuple #[.slice none 0 0,.int .i64 (R.read s).err]))∨
  ((R.read s).err=0/\s.size<=800/\∃cv,x=.returned (.tuple #[cv,.int .i64 0])/\w'.ownsRow w.heap.size 58 5 cv (prC (R.read s).shape.length (K.progD (R.toks s))).length ((prC (R.read s).shape.length (K.progD (R.toks s))).flatMap inV)))/\Below w.heap.size w w':=by
 by_cases hl:800<s.size
 · have e:=read_long_err hl
   refine(comp_err (E:=1) (Q:=0) (by decide) (mread_long s w hl hm)).mono λx w' h=>⟨Or.inl ⟨by rw[e];decide,by rw[e];exact h.1⟩,h.2⟩
 · have hr:=mread_c (λl h=>gds_of l (gdl_c l h)) s w (by omega) hv hw
   by_cases he:(R.read s).err=0
   · obtain⟨p1,p2,p3,p4,p5,p6,p7,p8⟩:=Q.shape_ok (by omega) he
     have hP:=prog_al (by omega) he
     have hg:=comp_go (s:=s) (w:=w) (K.progD (R.toks s)) hP (hr.mono λx w' h=>?_)
     · exact hg.mono λx w' h=>⟨Or.inr ⟨he,by omega,h.1⟩,h.2⟩
     · obtain⟨hx,hb⟩:=h
       refine⟨?_,hb⟩
       rcases hx with⟨h1,_⟩|⟨_,h1,_⟩|⟨_,_,nv,dv,us,rfl,nr,dr,de⟩
       · exact absurd p1 h1
       · rw[p2]at h1;cases h1
       · obtain⟨da,dn,dc,rfl⟩:=dr.form
         obtain⟨na,nn,nc,rfl⟩:=nms_form nr
         exact⟨na,nn,nc,da,dn,dc,us,by rw[p4],dr,de⟩
   · have hk:=Q.check_read (R.toks_ended s)
     have hc:K.check s=K.checkT (R.toks s):=by unfold K.check;rw[if_neg hl]
     rw[hc]at hk
     unfold K.checkT at hk
     have hk1:=congrArg Prod.fst hk
     dsimp only at hk1
     generalize(R.read s).err=E at*
     refine(comp_err (E:=E) (Q:=(K.checkT (R.toks s)).2) he (hr.mono λx w' h=>⟨?_,h.2⟩)).mono λx w' h=>⟨Or.inl ⟨he,h.1⟩,h.2⟩
     unfold K.checkT
     rcases h.1 with⟨h1,h2⟩|⟨h1,h2,h3⟩|⟨h1,h2,_⟩
     · rw[if_neg h1]at hk1 ⊢
       rw[h2]
       rw[<-hk1]
     · rw[if_pos h1,if_pos h2]at hk1 ⊢
       rw[h3]
       rw[<-hk1]
     · rw[if_pos h1,if_neg (by rw[h2];decide)]at hk1
       exact absurd hk1.symm he
theorem vars_below{w w':World}{b:Nat}(h:K.Vars w)(hb:Below b w w')(h2:5<=b):K.Vars w':=by
 obtain⟨⟨e0,a1,a2⟩,⟨e1,c1,c2⟩⟩:=h
 exact⟨⟨e0,(hb.cell (p:=⟨3,0,none⟩) (show 3<b by omega)).trans a1,a2⟩,⟨e1,(hb.cell (p:=⟨4,0,none⟩) (show 4<b by omega)).trans c1,c2⟩⟩
def IntsAt(w:World)(a:Option Addr)(l:List Int):Prop:=∀(j:Nat) u,l[j]?=some u->∃g o,a=some ⟨g,o,none⟩/\g<w.heap.size/\w.cell? ⟨g,o+j,none⟩=some (.int .i64 u)
theorem IntsAt.keep{w w':World}{a:Option Addr}{l:List Int}(h:IntsAt w a l)(hb:∀k,k<w.heap.size->(∃o,a=some ⟨k,o,none⟩)->w'.heap[k]?=w.heap[k]?)(hs:w.heap.size<=w'.heap.size):IntsAt w' a l:=λj u hj=>by
 obtain⟨g,o,rfl,hg,hc⟩:=h j u hj
 exact⟨g,o,rfl,by omega,(World.cell?_of_block (a:=⟨g,o+j,none⟩) (hb g hg ⟨o,rfl⟩)).trans hc⟩
theorem IntsAt.below{w w':World}{a:Option Addr}{l:List Int}(h:IntsAt w a l)(hb:Below w.heap.size w w'):IntsAt w' a l:=h.keep (λk hk _=>hb.block k hk) hb.size
def wdA(one:List Int)(n:Nat):List Int:=(List.range n).map λi=>one.getD i 0
theorem wdA_len(one:List Int)(n:Nat):(wdA one n).length=n:=by unfold wdA;simp
def seenOf(N:Nat)(l:List Do)(ms:List Int):List Int:=seDs 0 ((List.range 256).drop (N+2)) none true l (ms++[0,0])++[((dosC 0 ((List.range 256).drop (N+2)) none l).length:Int)]
theorem getD_pad(ms:List Int):(λj=>(ms++[0,0]).getD j 0)=λj=>ms.getD j 0:=by
 funext j
 rw[List.getD_eq_getElem?_getD,List.getD_eq_getElem?_getD]
 by_cases c:j<ms.length
 · rw[List.getElem?_append_left c]
 · rw[List.getElem?_append_right (by omega),List.getElem?_eq_none (l:=ms) (by omega)]
   generalize j-ms.length=i
   match i with
   |0=>rfl
   |1=>rfl
   |_+2=>rfl
theorem pr_sim2{N:Nat}{sh:List Bool}{l:List Do}(hP:Pr N sh l)(ms:List Int)(hm:ms.length=N):
 ∃n s',go (prC N l) n ⟨0,λ_=>0,λj=>ms.getD j 0,[]⟩=some s'/\n<100000/\(prC N l)[s'.pc]?=some .halt/\(∀j,j<N->s'.M j=(V.rds l (ms++[0,0])).getD j 0)/\s'.seen++[(s'.pc:Int)]=seenOf N l ms:=by
 have hN:=hP.n54
 have hL:(ms++[0,0]).length=N+2:=by simp[hm]
 obtain⟨n,s',h1,h2,h3,h4,h5,h6⟩:=sim_dos hN l (dep:=0) (by omega) hP.sc (prC N l) 0 ((List.range 256).drop (N+2)) none true (ms++[0,0]) ⟨0,λ_=>0,λj=>(ms++[0,0]).getD j 0,[]⟩ hL rfl (Seg.left (b:=[.halt]) (λj x hx=>by rw[Nat.zero_add];exact hx)) (by
  rw[hL]
  refine⟨(List.nodup_range).sublist (List.drop_sublist _ _),λx hx=>?_⟩
  obtain⟨i,hi,rfl⟩:=List.mem_iff_getElem.1 hx
  rw[List.length_drop,List.length_range]at hi
  rw[List.getElem_drop,List.getElem_range]
  omega) (by rw[List.length_drop,List.length_range];have:=hP.need;omega) (λj _=>rfl) rfl
 rw[getD_pad]at h1
 have hpc:s'.pc=(dosC 0 ((List.range 256).drop (N+2)) none l).length:=by rw[h3];exact Nat.zero_add _
 refine⟨n,s',h1,by have:=hP.cost;omega,?_,λj hj=>?_,?_⟩
 · rw[hpc]
   show(dosC _ _ _ _++[.halt])[(dosC 0 ((List.range 256).drop (N+2)) none l).length]?=_
   rw[List.getElem?_append_right (Nat.le_refl _),Nat.sub_self]
   rfl
 · rw[h4 j (by rw[rds_len,hL];omega)]
   exact(rds_ag l hP.sc _ _ hL (Ag.rfl' _ _)).2 j (by omega)
 · unfold seenOf
   rw[h6,hpc]
   rfl
theorem prC_len{N:Nat}{sh:List Bool}{l:List Do}(hP:Pr N sh l):(prC N l).length<=100000/\0<(prC N l).length:=by
 have:=dosC_len l 0 ((List.range 256).drop (N+2)) none
 have:=hP.cost
 unfold prC
 rw[List.length_append]
 simp
 omega
end Y
end Go.Proofs.YtejbgcloblpbfaaGreatDoor
