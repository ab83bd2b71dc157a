import Derived.Test.YtejbgcloblpbfaaGreatDoorG37
import Derived.Test.YtejbgcloblpbfaaGreatDoorG27
set_option maxHeartbeats 4000000
set_option maxRecDepth 100000
namespace Go.Proofs.YtejbgcloblpbfaaGreatDoor
section
open Go.RowKit
open R (Tok Thing Nd PS)
def nilR(v:Value):RV:=⟨v,.slice none 0 0,.slice none 0 0,.slice none 0 0,.slice none 0 0⟩
theorem rep_start{w:World}{b:Nat}{T:List Tok}{v:Value}(hat:At w b 35 (pcs R.start (nilR v)))(row:w.ownsRow 0 90 2 v T.length (T.flatMap tokCells))(h0:0<T.length)(h1:T.length<=1000):Rep w b T R.start (nilR v):=
 ⟨hat,row,World.ownsRow_nil w 0 _ 5,⟨[],World.ownsRow_nil w 0 _ 10,rfl,λk c n hc=>by simp at hc⟩,World.ownsRow_nil w 0 _ 1,World.ownsRow_nil w 0 _ 1,h0,h1⟩
structure Rd(w0 w:World)(b:Nat)(T:List Tok)(J:PS)(r:RV):Prop where
 rep:Rep w b T J r
 own:Own w0 w
 new:∀k,Foot w b k->w0.heap.size<=k
theorem Rd.moves{w0 w w':World}{b:Nat}{T:List Tok}{J J':PS}{r r':RV}(h:Rd w0 w b T J r)(hr:Rep w' b T J' r')(m:Moves b w w'):Rd w0 w' b T J' r':=by
 obtain⟨m1,m2,m3⟩:=m.main h.rep.tight
 refine⟨hr,⟨m.os.trans h.own.os,m.tape.trans h.own.tape,m.output.trans h.own.output,Nat.le_trans h.own.size m.size,λk hk=>?_⟩,λk f=>?_⟩
 · have:=h.own.size
   exact(m2 k (by omega) (λf=>by have:=h.new k f;omega)).trans (h.own.block k hk)
 · by_cases hk:k<w.heap.size
   · exact h.new k (m3 k hk f)
   · have:=h.own.size;omega
theorem Rd.does{w0 w:World}{b:Nat}{T:List Tok}{J:PS}{r:RV}(h:Rd w0 w b T J r){lv:Value}{L:List Int}(ir:IntRow w b lv L)(lo:∀k,lv.ownBlock=some k->w0.heap.size<=k):
 Rd w0 (w.setCell ⟨b,8,none⟩ lv) b T (R.done L J) {r with D:=lv}:=by
 obtain⟨xs,hx,hl,hn,hf⟩:=h.rep.foot
 have hc:=h.rep.cells
 unfold At at hc
 have keep:∀{B e size v n xs},w.ownsRow B e size v n xs->e≠35->(w.setCell ⟨b,8,none⟩ lv).ownsRow B e size v n xs:=by
  intro B e size v n xs ho he
  refine ownsRow_of ho λk hk=>?_
  obtain⟨cur,hg⟩:=ownsRow_block ho hk
  refine Below.heap_setCell _ _ _ _ ?_
  rintro rfl
  rw[hg]at hc
  simp at hc
  exact he hc.2
 have k1:At (w.setCell ⟨b,8,none⟩ lv) b 35 (pcs (R.done L J) {r with D:=lv}):=h.rep.cells.set 8 lv
 have hx':=keep hx (by decide)
 have rep:Rep (w.setCell ⟨b,8,none⟩ lv) b T (R.done L J) {r with D:=lv}:=⟨k1,keep h.rep.toks (by decide),keep h.rep.seen (by decide),⟨xs,hx',hl,λk c n hc hnn=>by
  obtain⟨lv,tv,e,i1,i2⟩:=hn k c n hc hnn
  exact⟨lv,tv,e,keep i1 (by decide),keep i2 (by decide)⟩⟩,keep h.rep.shape (by decide),keep ir.row (by decide),h.rep.lt,h.rep.few⟩
 have hf':=foot_iff (J:=R.done L J) (r:={r with D:=lv}) k1 hx' hl λk c n hc hnn=>by obtain⟨lv,tv,e,_⟩:=hn k c n hc hnn;exact⟨lv,tv,e⟩
 have hb:=h.new b (Or.inl rfl)
 refine⟨rep,⟨h.own.os,h.own.tape,h.own.output,by simpa[World.setCell]using h.own.size,λk hk=>(Below.heap_setCell _ _ _ _ (by show k≠b;omega)).trans (h.own.block k hk)⟩,λk f=>?_⟩
 rcases(hf' k).1 f with f |f |f
 · exact h.new k ((hf k).2 (Or.inl f))
 · rcases f with f |f |f |f |f
   · exact h.new k ((hf k).2 (Or.inr (Or.inl (Or.inl f))))
   · exact h.new k ((hf k).2 (Or.inr (Or.inl (Or.inr (Or.inl f)))))
   · exact h.new k ((hf k).2 (Or.inr (Or.inl (Or.inr (Or.inr (Or.inl f))))))
   · exact lo k f
   · exact h.new k ((hf k).2 (Or.inr (Or.inl (Or.inr (Or.inr (Or.inr (Or.inr f)))))))
 · exact h.new k ((hf k).2 (Or.inr (Or.inr f)))
theorem row_slice{w:World}{B:Nat}{e:TypeId}{size:Nat}{v:Value}{n:Nat}{xs:List Value}(h:w.ownsRow B e size v n xs):∃a m c,v=.slice a m c:=by
 obtain⟨_,h |⟨g,cap,cur,rfl,_⟩⟩:=h
 · exact⟨_,_,_,h.1⟩
 · exact⟨_,_,_,rfl⟩
theorem db_bdc{m:Nat}{J:PS}(h:R.DB m J)(hm:m<=8):BdC J:=by
 obtain⟨d1,d2,d3,d4,d5,d6,d7⟩:=h
 exact⟨by omega,by omega,by omega,by omega,by omega,by omega,by omega,by omega⟩
theorem db_bdd{T:List Tok}{m:Nat}{J:PS}(h:R.DB m J)(hm:m<=8)(hT:T.length<=1000):BdD T 12 J:=by
 obtain⟨d1,d2,d3,d4,d5,d6,d7⟩:=h
 have d8:=congrArg List.length d6
 simp only[List.length_nil]at d8
 exact⟨by omega,by omega,by omega,by omega,by omega,by omega,by omega,by omega,by omega⟩
theorem decls_step{T:List Tok}{k:Nat}{Jk A:PS}(h:Hid (A=R.decls T (9-k) Jk))(hk:k<9)(c:Jk.err=0/\(R.tk T Jk.i).s.toList=[40]/\R.isDecl (R.tk T (Jk.i+1)).s.toList=true):Hid (A=R.decls T (9-(k+1)) (R.decl T Jk)):=by
 have:9-k=(9-(k+1))+1:=by omega
 rw[this,R.decls,if_pos c]at h
 exact h
theorem isDecl_of{s:ByteArray}:R.isDecl s.toList= !((!(s.toList==[112,117,98,108,105,99]))&&(!(s.toList==[115,101,99,114,101,116]))&&(!(s.toList==[97,114,114,97,121]))):=by
 unfold R.isDecl R.kPublic R.kSecret R.kArray
 cases s.toList==[112,117,98,108,105,99]<;>cases s.toList==[115,101,99,114,101,116]<;>cases s.toList==[97,114,114,97,121]<;>rfl
theorem read_long(s:ByteArray)(w:World)(hs:800<s.size)(hm:s.size<=maxLen):
 Calls Tryz.prog 15 #[.string s] w λx w'=>∃b,x=.returned (P b)/\Own w w'/\w.heap.size<=b/\At w' b 35 (pcs (R.fail 1 0 R.start) (nilR (.slice none 0 0))):=by
 unfold maxLen at hm
 have hs':(800:Int)<(s.size:Int):=by omega
 have hat:At (w.alloc (.cells (pcs R.start (nilR (.slice none 0 0))).toArray 35 (0,0))) w.heap.size 35 (pcs R.start (nilR (.slice none 0 0))):=At.alloc_new w _ _
 have hfc:=fail_w w.heap.size 1 0 0 0 (w.alloc (.cells (pcs R.start (nilR (.slice none 0 0))).toArray 35 (0,0))) (hat.cell 2) (hat.cell 3) (hat.frozen 2) (hat.frozen 3)
 go_enter Tryz.func15,Tryz.ntmps15
 go_wp2_with fail
 refine hfc.mono ?_
 rintro x w2 ⟨rfl,hw2⟩
 rw[if_pos trivial]at hw2
 subst hw2
 go_wp2_with fail
 go_ret
 exact⟨_,rfl,⟨rfl,rfl,rfl,by simp,λk hk=>heap_alloc_old _ _ _ hk⟩,Nat.le_refl _,At.alloc_new w (((pcs R.start (nilR (.slice none 0 0))).set 2 _).set 3 _) _⟩
theorem read_short(s:ByteArray)(w:World)(hs:s.size<=800)(hds:DoesDoes (R.toks s) 12):
 Calls Tryz.prog 15 #[.string s] w λx w'=>∃b r,x=.returned (P b)/\Rd w w' b (R.toks s) (R.readT (R.toks s)) r:=by
 have hs':¬(800:Int)<(s.size:Int):=by omega
 have hs2:s.size<=1000:=by omega
 have hT:=R.toks_small hs2
 have hE:=R.toks_ended s
 have hl:=R.toks_len s
 have hat:At (w.alloc (.cells (pcs R.start (nilR (.slice none 0 0))).toArray 35 (0,0))) w.heap.size 35 (pcs R.start (nilR (.slice none 0 0))):=At.alloc_new w _ _
 have hcut:=cut_c s (w.alloc (.cells (pcs R.start (nilR (.slice none 0 0))).toArray 35 (0,0))) hs2
 have wds:=word_s
 have HR:Hid (R.readT (R.toks s)=R.last (R.behind (R.toks s) (R.done (R.does (R.toks s) 12 (R.decls (R.toks s) 9 R.start)).2 (R.does (R.toks s) 12 (R.decls (R.toks s) 9 R.start)).1))):=rfl
 generalize R.toks s=T at*
 go_enter Tryz.func15,Tryz.ntmps15
 go_wp2_with fail
 refine hcut.mono ?_
 rintro x w2 ⟨v,rfl,C⟩
 have hat2:At w2 w.heap.size 35 (pcs R.start (nilR (.slice none 0 0))):=hat.of_block (C.own.block _ hat.lt)
 obtain⟨gv,cv,hv⟩:=Joins.ownsRow_form C.row hl.2
 subst hv
 have c0:=hat2.cell 0
 have f0:=hat2.frozen 0
 have C0:w2.cell? ⟨w.heap.size,0,none⟩=some (.slice none 0 0):=c0
 clear c0
 go_upto_block 0 with fail
 have R0:Rd w (w2.setCell ⟨w.heap.size,0,none⟩ (.slice (some ⟨gv,0,none⟩) T.length cv)) w.heap.size T R.start (nilR (.slice (some ⟨gv,0,none⟩) T.length cv)):=by
  have hg:=C.lo gv rfl
  have hsz:(w.alloc (.cells (pcs R.start (nilR (.slice none 0 0))).toArray 35 (0,0))).heap.size=w.heap.size+1:=by simp
  have rep:Rep (w2.setCell ⟨w.heap.size,0,none⟩ (.slice (some ⟨gv,0,none⟩) T.length cv)) w.heap.size T R.start (nilR (.slice (some ⟨gv,0,none⟩) T.length cv)):=
   rep_start (hat2.set 0 _) (ownsRow_of C.row λk hk=>Below.heap_setCell _ _ _ _ (by have:=C.lo k hk;show k≠w.heap.size;omega)) hl.2 (by omega)
  refine⟨rep,⟨C.own.os,C.own.tape,C.own.output,by have:=C.own.size;simp[World.setCell];omega,λk hk=>?_⟩,λk f=>?_⟩
  · rw[Below.heap_setCell _ _ _ _ (by show k≠w.heap.size;omega),C.own.block k (by omega),heap_alloc_old _ _ _ hk]
  · obtain⟨xs,_,hxl,_,hf⟩:=rep.foot
    rcases(hf k).1 f with f |f |⟨c,n,lv,tv,f1,_⟩
    · omega
    · rcases f with f |f |f |f |f
      · have:=C.lo k f;omega
      · simp[nilR,Value.ownBlock]at f
      · simp[nilR,Value.ownBlock]at f
      · simp[nilR,Value.ownBlock]at f
      · simp[nilR,Value.ownBlock]at f
    · have:xs=[]:=List.eq_nil_of_length_eq_zero hxl
      rw[this]at f1;simp at f1
 clear C hat2 f0 C0 hat
 generalize w2.setCell ⟨w.heap.size,0,none⟩ (.slice (some ⟨gv,0,none⟩) T.length cv)=W2 at*
 generalize w.heap.size=b at*
 go_cut [4] (λ_ wr=>∃J1 r1,Hid (R.decls T 9 R.start=J1)/\(J1.err=0->∃m,m<=8/\R.DB m J1)/\Rd w wr b T J1 r1)
 case first=>
  go_wp2_with fail
  go_loopg [4] 10 (λgk _ wr=>∃(k:Nat) (Jk:PS) (rk:RV),Hid (R.decls T 9 R.start=R.decls T (9-k) Jk)/\k<=9/\gk+k=10/\(Jk.err=0->k<=8/\R.DB k Jk)/\Rd w wr b T Jk rk)
  case atStart=>exact⟨0,R.start,_,rfl,by omega,by omega,λ_=>⟨by omega,R.start_db⟩,R0⟩
  case round=>
   obtain⟨k,Jk,rk,HA,hk9,hgk,hlive,D⟩:=hrel
   clear R0
   have c2k:=D.rep.c1 2 _ rfl
   have hpk:=peek_c D.rep
   by_cases hek:Jk.err=0
   · have hek':=beq_yes hek
     obtain⟨l1,l2⟩:=hlive hek
     by_cases h40:(R.tk T Jk.i).s.toList=[40]
     · have h40':=beq_yes h40
       have hi1:=R.ended_lt hE D.rep.lt (R.ne_of_list h40 (by decide))
       obtain⟨nt,HNT⟩:∃nt,Hid (R.tk T (Jk.i+1)=nt):=⟨_,rfl⟩
       have hdc:=fun(w:World) (hr:Rep w b T Jk rk)=>decl_c hT w b Jk rk hr (db_bdc l2 l1)
       have HST:Hid (R.isDecl nt.s.toList=true->R.decls T 9 R.start=R.decls T (9-(k+1)) (R.decl T Jk)):=λe=>(decls_step HA (by omega) ⟨hek,h40,by rw[HNT.out];exact e⟩).out
       have HSP:Hid (R.isDecl nt.s.toList=false->R.decls T 9 R.start=Jk):=λe=>HA.out.trans (R.decls_stop (λc=>by rw[HNT.out,e]at c;exact absurd c.2.2 (by decide)))
       have HDB:Hid ((R.decl T Jk).err=0->k+1<=8/\R.DB (k+1) (R.decl T Jk)):=λe=>by
        have:=R.decl_db l2 l1 e
        exact⟨by omega,this.2⟩
       have hfew:=D.rep.few
       generalize R.decl T Jk=Jn at*
       clear h40 HA hlive hek
       generalize R.tk T Jk.i=t at*
       obtain⟨ts,tp⟩:=t
       obtain⟨ns,np⟩:=nt
       dsimp only at*
       go_wp2_with fail
       refine hpk.mono ?_
       rintro x w5 ⟨rfl,hr5,hm5⟩
       have D5:=D.moves hr5 hm5
       clear hpk c2k D hr5 hm5
       obtain⟨g,cap,hW,hg,k0,k1⟩:=D5.rep.tok (Jk.i+1) hi1
       rw[HNT.out]at k0
       have x0:=D5.rep.c1 0 _ rfl
       rw[hW]at x0
       have x1:=D5.rep.c1 1 _ rfl
       have HW:=hide hW
       clear k1 hW
       go_upto_region 7 with fail
       go_region
       all_goals
        have D6:Rd w w5.drew b T Jk rk:=D5.moves D5.rep.drew (Moves.refl b w5).drew
        cases e1:(ns.toList==[112,117,98,108,105,99])with
        |true=>
         have HS:=hide (HST.out (by rw[isDecl_of,e1];rfl))
         go_wp2_with fail
         refine(hdc _ D6.rep).mono ?_
         rintro x w7 ⟨rfl,r7,hr7,hm7⟩
         go_wp2_with fail
         go_roundg (gk-1)
         case measure=>omega
         case rel=>exact⟨k+1,Jn,r7,HS,by omega,by omega,HDB.out,D6.moves hr7 hm7⟩
        |false=>
         cases e2:(ns.toList==[115,101,99,114,101,116])with
         |true=>
          have HS:=hide (HST.out (by rw[isDecl_of,e1,e2];rfl))
          go_wp2_with fail
          refine(hdc _ D6.rep).mono ?_
          rintro x w7 ⟨rfl,r7,hr7,hm7⟩
          go_wp2_with fail
          go_roundg (gk-1)
          case measure=>omega
          case rel=>exact⟨k+1,Jn,r7,HS,by omega,by omega,HDB.out,D6.moves hr7 hm7⟩
         |false=>
          cases e3:(ns.toList==[97,114,114,97,121])with
          |true=>
           have HS:=hide (HST.out (by rw[isDecl_of,e1,e2,e3];rfl))
           go_wp2_with fail
           refine(hdc _ D6.rep).mono ?_
           rintro x w7 ⟨rfl,r7,hr7,hm7⟩
           go_wp2_with fail
           go_roundg (gk-1)
           case measure=>omega
           case rel=>exact⟨k+1,Jn,r7,HS,by omega,by omega,HDB.out,D6.moves hr7 hm7⟩
          |false=>
           have HX:=hide (HSP.out (by rw[isDecl_of,e1,e2,e3];rfl))
           go_wp2_with fail
           go_meet
           case rel=>exact⟨Jk,rk,HX,λ_=>⟨k,l1,l2⟩,D6⟩
     · have HX:=hide (HA.out.trans (R.decls_stop (λc=>h40 c.2.1)))
       have h40':=beq_no h40
       clear h40 HA
       generalize R.tk T Jk.i=t at*
       obtain⟨ts,tp⟩:=t
       dsimp only at*
       go_wp2_with fail
       refine hpk.mono ?_
       rintro x w5 ⟨rfl,hr5,hm5⟩
       go_wp2_with fail
       go_meet
       case rel=>exact⟨Jk,rk,HX,λ_=>⟨k,l1,l2⟩,D.moves hr5 hm5⟩
   · have HX:=hide (HA.out.trans (R.decls_stop (λc=>hek c.1)))
     have hek':=beq_no hek
     clear HA hlive
     go_wp2_with fail
     go_meet
     case rel=>exact⟨Jk,rk,HX,λe=>absurd e hek,D⟩
 case rest=>
  obtain⟨J1,r1,HD,hlive,D1⟩:=hcut
  clear R0
  have hdo:=fun(w:World) (hr:Rep w b T J1 r1)=>hds w b J1 r1 hr (λe=>by
   obtain⟨m,hm,hd⟩:=hlive e
   exact db_bdd hd hm (by omega))
  rw[HD.out]at HR
  generalize R.does T 12 J1=A at*
  clear hlive HD hds
  go_wp2_with fail
  refine(hdo _ D1.rep).mono ?_
  rintro x w3 ⟨lv,rfl,r3,hr3,hm3,ir3,hl3,lo3⟩
  have D3:=D1.moves hr3 hm3
  have x8:=D3.rep.c1 8 _ rfl
  have f8:=D3.rep.cells.frozen 8
  have D4:=D3.does ir3 (λk hk=>by have:=lo3 k hk;have:=D1.own.size;omega)
  obtain⟨sa,sn,sc,hsl⟩:=row_slice ir3.row
  subst hsl
  have HAL:Hid (∀x y:PS,x=y->x=y):=λ_ _ e=>e
  clear hr3 hm3 ir3 lo3 D1
  go_upto_region 11 with fail
  obtain⟨rD,hrD⟩:∃rD,rD=({r3 with D:=.slice sa sn sc}:RV):=⟨_,rfl⟩
  rw[<-hrD]at D4
  clear hrD
  generalize w3.setCell ⟨b,8,none⟩ (.slice sa sn sc)=W4 at*
  obtain⟨J4,H4⟩:∃J4,Hid (R.done A.2 A.1=J4):=⟨_,rfl⟩
  rw[H4.out]at D4 HR
  obtain⟨J5,H5⟩:∃J5,Hid (R.behind T J4=J5):=⟨_,rfl⟩
  rw[H5.out]at HR
  clear D3 x8 f8 hl3
  have x2:=D4.rep.c1 2 _ rfl
  go_upto_if 62 with fail
  go_cut [62] (λ_ wr=>Rd w wr b T J5 rD)
  case first=>
   by_cases e4:J4.err=0
   · have e4':=beq_yes e4
     have hw:=want_c D4.rep ⟨#[]⟩
     have e5:R.want T [] J4=J5:=by rw[<-H5.out];unfold R.behind;rw[if_pos e4]
     have e5':R.want T (ByteArray.toList ⟨#[]⟩) J4=J5:=by rw[<-e5,show ByteArray.toList ⟨#[]⟩=[]from by decide +kernel]
     rw[e5']at hw
     clear e4 e5 e5'
     rw[e4']
     go_wp2_with fail
     refine hw.mono ?_
     rintro x w5 ⟨rfl,hr5,hm5⟩
     go_wp2_with fail
     go_meet
     case rel=>exact D4.moves hr5 hm5
   · have e4':=beq_no e4
     have e5:J4=J5:=by rw[<-H5.out];unfold R.behind;rw[if_neg e4]
     rw[e4']
     go_wp2_with fail
     go_meet
     case rel=>rw[<-e5];exact D4
  case rest=>
   have D5:=hcut
   clear D4 hcut x2
   have y2:=D5.rep.c1 2 _ rfl
   have y13:=D5.rep.c1 13 _ rfl
   by_cases e5:J5.err=0
   · have e5':=beq_yes e5
     by_cases hk:0<=J5.leak
     · have hfc:=fail_c D5.rep 7 J5.leak
       have HL:Hid (R.last J5=R.fail 7 J5.leak J5):=by show _=_;unfold R.last;rw[if_pos ⟨e5,hk⟩]
       generalize R.fail 7 J5.leak J5=J6 at*
       clear e5
       go_wp2_with fail
       refine hfc.mono ?_
       rintro x w6 ⟨rfl,hr6,hm6⟩
       go_wp2_with fail
       go_ret
       rw[HR.out,HL.out]
       exact⟨b,rD,rfl,D5.moves hr6 hm6⟩
     · have HL:Hid (R.last J5=J5):=by show _=_;unfold R.last;rw[if_neg (λc=>hk c.2)]
       have hk':J5.leak<0:=by omega
       clear e5 hk
       go_wp2_with fail
       go_ret
       rw[HR.out,HL.out]
       exact⟨b,rD,rfl,D5⟩
   · have e5':=beq_no e5
     have HL:Hid (R.last J5=J5):=by show _=_;unfold R.last;rw[if_neg (λc=>e5 c.1)]
     clear e5
     go_wp2_with fail
     go_ret
     rw[HR.out,HL.out]
     exact⟨b,rD,rfl,D5⟩
end
section
open Go.RowKit
theorem read_c(s:ByteArray)(w:World)(hs:s.size<=800):
 Calls Tryz.prog 15 #[.string s] w λx w'=>∃b r,x=.returned (P b)/\Rd w w' b (R.toks s) (R.readT (R.toks s)) r:=
 read_short s w hs (doesAll_c (R.toks_small (by omega)) (R.toks_ended s) 12)
theorem check_all(s:ByteArray)(w:World)(hm:s.size<=maxLen)(hv:K.Vars w)(hw:5<=w.heap.size):
 Calls Tryz.prog 14 #[.string s] w λx w'=>x=.returned (.tuple #[.int .i64 (R.read s).err,.int .i64 (R.read s).place])/\Below w.heap.size w w':=by
 have h:=check_c (λl hl=>gds_of l (gdl_c l hl)) s w hm hv hw
 rw[Q.check_read (R.toks_ended s)]at h
 exact h
theorem Own.below{w w':World}(h:Own w w'):Below w.heap.size w w':=⟨h.os,h.tape,h.output,h.size,h.block⟩
theorem K.Vars.below{w w':World}{b:Nat}(h:K.Vars w)(hb:Below b w w')(h2:5<=b):K.Vars w':=by
 obtain⟨⟨e0,a1,a2⟩,⟨e1,c1,c2⟩⟩:=h
 exact⟨⟨e0,(hb.cell (p:=⟨3,0,none⟩) (show 3<b by omega)).trans a1,a2⟩,⟨e1,(hb.cell (p:=⟨4,0,none⟩) (show 4<b by omega)).trans c1,c2⟩⟩
abbrev oneS:ByteArray:={data:=#[40,115,101,99,114,101,116,32,107,41,40,115,101,116,32,107,32,49,41]}
abbrev twoS:ByteArray:={data:=#[40,115,101,116,32,120,32,49,41]}
theorem one_err:(R.read oneS).err=0:=by decide +kernel
theorem one_place:(R.read oneS).place=0:=by decide +kernel
theorem two_err:(R.read twoS).err=3:=by decide +kernel
theorem two_place:(R.read twoS).place=5:=by decide +kernel
theorem right_c(w:World)(hv:K.Vars w)(hw:5<=w.heap.size):Calls Tryz.prog 13 #[] w λx w'=>x=.returned (.bool true)/\Below w.heap.size w w':=by
 have h1:=check_all oneS w (by decide) hv hw
 rw[one_err,one_place]at h1
 have h2:=fun(w':World) (hb:Below w.heap.size w w')=>check_all twoS w' (by decide) (hv.below hb hw) (Nat.le_trans hw hb.size)
 rw[two_err,two_place]at h2
 go_enter Tryz.func13,Tryz.ntmps13
 go_wp2_with fail
 refine h1.mono ?_
 rintro x w1 ⟨rfl,hb1⟩
 go_wp2_with fail
 refine(h2 w1 hb1).mono ?_
 rintro x w2 ⟨rfl,hb2⟩
 go_wp2_with fail
 go_ret
 exact⟨rfl,hb1.trans (hb2.mono hb1.size)⟩
theorem num_c(n:Int)(w:World):Calls Tryz.prog 16 #[.int .i64 n] w λx w'=>x=.returned (.int .i64 n)/\w'=w:=by
 go_enter Tryz.func16,Tryz.ntmps16
 go_wp2_with fail
 go_ret
 exact⟨rfl,rfl⟩
end
end Go.Proofs.YtejbgcloblpbfaaGreatDoor
