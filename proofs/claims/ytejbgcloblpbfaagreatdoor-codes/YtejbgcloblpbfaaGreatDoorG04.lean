import Derived.Test.YtejbgcloblpbfaaGreatDoorG03
import Derived.Deep.LoopGhost
set_option maxHeartbeats 1000000
namespace Go.Proofs.YtejbgcloblpbfaaGreatDoor
open Go.RowKit
open R (Tok tk)
open K (Nm S Scans)
theorem ret_i{k:IntKind}{a b:Int}(h:a=b):Ending.returned (.int k a)=.returned (.int k b):=by rw[h]
theorem expect1_c(o l:ByteArray)(p:Addr)(w:World)(hc:w.cell? p=some (.string l)):
 Calls Tryz.prog 141 #[.string o,.pointer (some p)] w λx w'=>x=.returned (.bool (K.isIt l.toList o))/\w'=w:=by
 have HK:Hid (K.isIt l.toList o=(o.toList==l.toList)):=rfl
 go_enter Tryz.func141,Tryz.ntmps141
 go_wp2
 go_ret
 exact⟨rfl,rfl⟩
theorem expect_c{w:World}{b:Nat}{s:ByteArray}{T:List Tok}{J:S}{v:Value}(hS:Scans s T)(h:CR w b s T J v)(l:ByteArray):
 Calls Tryz.prog 107 #[PT b,.string l] w λx w'=>x=.returned (.tuple #[])/\CR w' b s T (K.expect T l.toList J) v/\But b w w':=by
 have hmf:∀(fn:Fn) (first cap:Array Value) (w:World),(Instr.makeFunc fn first cap).run Tryz.prog w=.ok (.func fn first cap) w:=λ_ _ _ _=>rfl
 have h1:=h.alloc (.cells #[.string l] 9 (0,0))
 have hx:=expect1_c (tk T J.i).s l ⟨w.heap.size,0,none⟩ (w.alloc (.cells #[.string l] 9 (0,0))) (by simp)
 have ht:=ktake_expect hS h1 (K.isIt l.toList) _ hx
 have HK:Hid (K.expect T l.toList J=K.take T (K.isIt l.toList) J):=rfl
 go_enter Tryz.func107,Tryz.ntmps107
 go_wp2_with fail
 refine ht.mono ?_
 rintro x w' ⟨rfl,hr,hb⟩
 go_wp2_with fail
 go_end0
 rw[HK.out]
 exact⟨rfl,hr,((But.refl b w).alloc _).trans hb⟩
def K.isSec(o:ByteArray):Bool:=(o.toList==[112,117,98,108,105,99])||(o.toList==[115,101,99,114,101,116])
theorem secrecy1_c(o:ByteArray)(w:World):Calls Tryz.prog 169 #[.string o] w λx w'=>x=.returned (.bool (K.isSec o))/\w'=w:=by
 have HK:Hid (K.isSec o=((o.toList==[112,117,98,108,105,99])||(o.toList==[115,101,99,114,101,116]))):=rfl
 generalize K.isSec o=q at*
 cases e1:(o.toList==[112,117,98,108,105,99])with
 |true=>
  rw[e1]at HK;have e:q=true:=HK.out;subst e
  go_enter Tryz.func169,Tryz.ntmps169
  go_wp2
  go_ret
  exact⟨rfl,rfl⟩
 |false=>
  rw[e1]at HK;have e:q=(o.toList==[115,101,99,114,101,116]):=HK.out;subst e
  clear HK
  go_enter Tryz.func169,Tryz.ntmps169
  go_wp2
  go_ret
  exact⟨rfl,rfl⟩
theorem secrecy_c{w:World}{b:Nat}{s:ByteArray}{T:List Tok}{J:S}{v:Value}(hS:Scans s T)(h:CR w b s T J v):
 Calls Tryz.prog 136 #[PT b] w λx w'=>x=.returned (.bool ((tk T J.i).s.toList==[115,101,99,114,101,116]))/\CR w' b s T (K.take T K.isSec J) v/\But b w w':=by
 have ht:=ktake_secrecy hS h K.isSec (secrecy1_c _ w)
 generalize K.take T K.isSec J=J1 at*
 generalize tk T J.i=t at*
 obtain⟨ts,tp⟩:=t
 dsimp only at*
 go_enter Tryz.func136,Tryz.ntmps136
 go_wp2_with fail
 refine ht.mono ?_
 rintro x w' ⟨rfl,hr,hb⟩
 go_wp2_with fail
 go_ret
 exact⟨rfl,hr,hb⟩
def K.named(l:List UInt8)(n:Nm):Bool:=n.text.toList==l
def K.idx(l:List UInt8)(ns:List Nm):Int:=if ns.findIdx (K.named l)<ns.length then(ns.findIdx (K.named l):Int)else -1
theorem K.idx_hit{l:List UInt8}{ns:List Nm}{k:Nat}(h:k<ns.length)(h1:K.named l ns[k]=true)(h2:∀j (hj:j<k),K.named l (ns[j]'(by omega))=false):K.idx l ns=k:=by
 have e:ns.findIdx (K.named l)=k:=(List.findIdx_eq h).2 ⟨h1,h2⟩
 unfold K.idx
 rw[e,if_pos h]
theorem K.idx_miss{l:List UInt8}{ns:List Nm}(h2:∀j (hj:j<ns.length),K.named l ns[j]=false):K.idx l ns= -1:=by
 have e:ns.findIdx (K.named l)=ns.length:=List.findIdx_eq_length.2 λx hx=>by
  obtain⟨j,hj,rfl⟩:=List.getElem_of_mem hx
  exact h2 j hj
 unfold K.idx
 rw[e,if_neg (by omega)]
theorem find1_c(n:Nm)(l:ByteArray)(p:Addr)(w:World)(hp:p.block<w.heap.size)(hc:w.cell? p=some (.string l)):
 Calls Tryz.prog 202 #[.agg #[.string n.text,.int .i64 n.kind,.bool n.sec,.int .i64 n.size,.int .i64 n.place],.pointer (some p)] w λx w'=>x=.returned (.bool (K.named l.toList n))/\Below w.heap.size w w':=by
 have HK:Hid (K.named l.toList n=(n.text.toList==l.toList)):=rfl
 have hc':∀o,(w.alloc o).cell? p=some (.string l):=λo=>by rw[<-hc];exact World.cell?_of_block (heap_alloc_old _ _ _ hp)
 go_enter Tryz.func202,Tryz.ntmps202
 go_wp2
 go_ret
 exact⟨rfl,(Below.refl _ _).alloc (Nat.le_refl _) _⟩
theorem CR.row{w:World}{b:Nat}{s:ByteArray}{T:List Tok}{J:S}{v:Value}(h:CR w b s T J v):
 (v=.slice none 0 0/\J.names.length=0)∨∃g cap,v=.slice (some ⟨g,0,none⟩) J.names.length cap/\g<w.heap.size/\∀(i:Nat) (hi:i<J.names.length) (j:Nat),j<5->w.cell? ⟨g,i*5+j,none⟩=(nmCells J.names[i])[j]?:=by
 by_cases h0:J.names.length=0
 · obtain⟨hl,h' |⟨g,cap,cur,hv,_,hg,hc,_,hs,hx⟩⟩:=h.names
   · exact Or.inl h'
   · exact Or.inr ⟨g,cap,hv,heap_lt hg,λi hi=>by omega⟩
 · obtain⟨g,cap,hv,hg,_⟩:=row_cell nmCells (λ_=>rfl) h.names (i:=0) (List.getElem?_eq_getElem (by omega))
   refine Or.inr ⟨g,cap,hv,hg,λi hi j hj=>?_⟩
   obtain⟨g',cap',hv',hg',hc⟩:=row_cell nmCells (λ_=>rfl) h.names (i:=i) (List.getElem?_eq_getElem hi)
   rw[hv]at hv'
   simp only[Value.slice.injEq,Option.some.injEq,Addr.mk.injEq]at hv'
   rw[hv'.1.1]
   exact hc j hj
theorem index_c(l:ByteArray)(p:Addr)(v:Value)(ns:List Nm)(w:World)(hn:ns.length<=1000)(hp:p.block<w.heap.size)(hc:w.cell? p=some (.string l))(hv:(v=.slice none 0 0/\ns.length=0)∨∃g cap,v=.slice (some ⟨g,0,none⟩) ns.length cap/\g<w.heap.size/\∀(i:Nat) (hi:i<ns.length) (j:Nat),j<5->w.cell? ⟨g,i*5+j,none⟩=(nmCells ns[i])[j]?):
 Calls Tryz.prog 201 #[v,.func (.func 202) #[] #[.pointer (some p)]] w λx w'=>x=.returned (.int .i64 (K.idx l.toList ns))/\Below w.heap.size w w':=by
 rcases hv with⟨rfl,h0⟩|⟨g,cap,rfl,hg,hcs⟩
 · have HF:=hide (K.idx_miss (l:=l.toList) (ns:=ns) (λj hj=>by omega))
   go_enter Tryz.func201,Tryz.ntmps201
   go_wp2_with fail
   go_loop [5,8] (λ_ i=>i=.int .i64 0) (λ_ _=>0)
   case atStart=>rfl
   case round=>
    subst hrel
    go_wp2_with fail
    go_ret
    exact⟨ret_i HF.out.symm,Below.refl _ _⟩
 · go_enter Tryz.func201,Tryz.ntmps201
   go_wp2_with fail
   go_loopg [5,8] (ns.length+1) (λgk _ i wr=>∃k:Nat,k<=ns.length/\gk+k=ns.length+1/\i=.int .i64 (k:Int)/\Hid (∀j (hj:j<k) (hl:j<ns.length),K.named l.toList ns[j]=false)/\Below w.heap.size w wr)
   case atStart=>exact⟨0,by omega,by omega,rfl,λj hj=>by omega,Below.refl _ _⟩
   case round=>
    obtain⟨k,hk,hgk,rfl,HN,B⟩:=hrel
    by_cases hlt:k<ns.length
    · have hcell:=λj (hj:j<5)=>(B.cell (p:=⟨g,k*5+j,none⟩) hg).trans (hcs k hlt j hj)
      have d0:wr.cell? ⟨g,k*5,none⟩=some (.string ns[k].text):=hcell 0 (by omega)
      have d1:wr.cell? ⟨g,k*5+1,none⟩=some (.int .i64 ns[k].kind):=hcell 1 (by omega)
      have d2:wr.cell? ⟨g,k*5+2,none⟩=some (.bool ns[k].sec):=hcell 2 (by omega)
      have d3:wr.cell? ⟨g,k*5+3,none⟩=some (.int .i64 ns[k].size):=hcell 3 (by omega)
      have d4:wr.cell? ⟨g,k*5+4,none⟩=some (.int .i64 ns[k].place):=hcell 4 (by omega)
      have hf:=find1_c ns[k] l p wr (by have:=B.size;omega) ((B.cell (p:=p) hp).trans hc)
      have HH:Hid (K.named l.toList ns[k]=true->K.idx l.toList ns=k):=λe=>K.idx_hit hlt e (λj hj=>HN.out j hj (by omega))
      have HM:Hid (K.named l.toList ns[k]=false->∀j (hj:j<k+1) (hl:j<ns.length),K.named l.toList ns[j]=false):=λe j hj hl=>by
       rcases Nat.lt_succ_iff_lt_or_eq.1 hj with h' |rfl
       · exact HN.out j h' hl
       · exact e
      clear hcell hcs HN
      generalize ns[k]=nk at*
      obtain⟨x0,x1,x2,x3,x4⟩:=nk
      cases e:K.named l.toList ⟨x0,x1,x2,x3,x4⟩with
      |true=>
       rw[e]at hf
       have HI:=hide (HH.out e)
       clear HH HM
       go_wp2_with fail
       refine hf.mono ?_
       rintro x w1 ⟨rfl,hb⟩
       go_wp2_with fail
       go_ret
       exact⟨ret_i HI.out.symm,B.trans (hb.mono B.size)⟩
      |false=>
       rw[e]at hf
       have HI:=hide (HM.out e)
       clear HH HM
       go_wp2_with fail
       refine hf.mono ?_
       rintro x w1 ⟨rfl,hb⟩
       go_wp2_with fail
       go_roundg (gk-1)
       case measure=>omega
       case rel=>exact⟨k+1,by omega,by omega,by go_num,HI,B.trans (hb.mono B.size)⟩
    · have HF:=hide (K.idx_miss (l:=l.toList) (ns:=ns) (λj hj=>HN.out j (by omega) hj))
      go_wp2_with fail
      go_ret
      exact⟨ret_i HF.out.symm,B⟩
def K.noNm:Nm:=⟨⟨#[]⟩,0,false,0,0⟩
def K.findN(l:List UInt8)(ns:List Nm):Nm×Bool:=if 0<=K.idx l ns then(ns.getD (K.idx l ns).toNat K.noNm,true)else(K.noNm,false)
def nmV(n:Nm):Value:=.agg #[.string n.text,.int .i64 n.kind,.bool n.sec,.int .i64 n.size,.int .i64 n.place]
theorem K.idx_lt(l:List UInt8)(ns:List Nm):K.idx l ns<ns.length/\ -1<=K.idx l ns:=by
 unfold K.idx;split<;>omega
theorem CR.below{w w':World}{b:Nat}{s:ByteArray}{T:List Tok}{J:S}{v:Value}(h:CR w b s T J v)(hb:Below w.heap.size w w'):CR w' b s T J v:=h.same hb.block
theorem But.below{b:Nat}{a w w':World}(h:But b a w)(hb:Below w.heap.size w w'):But b a w':=
 h.trans ⟨hb.os,hb.tape,hb.output,hb.size,λk hk _=>hb.block k hk⟩
theorem kfind_c{w:World}{b:Nat}{s:ByteArray}{T:List Tok}{J:S}{v:Value}(h:CR w b s T J v)(hn:J.names.length<=1000)(x:ByteArray):
 Calls Tryz.prog 171 #[PT b,.string x] w λe w'=>e=.returned (.tuple #[nmV (K.findN x.toList J.names).1,.bool (K.findN x.toList J.names).2])/\Below w.heap.size w w':=by
 have hmf:∀(fn:Fn) (first cap:Array Value) (w:World),(Instr.makeFunc fn first cap).run Tryz.prog w=.ok (.func fn first cap) w:=λ_ _ _ _=>rfl
 have hW:=(h.alloc (.cells #[.string x] 9 (0,0))).alloc (.cells #[.string ⟨#[]⟩,.int .i64 0,.bool false,.int .i64 0,.int .i64 0] 96 (0,0))
 have hix:=index_c x ⟨w.heap.size,0,none⟩ v J.names ((w.alloc (.cells #[.string x] 9 (0,0))).alloc (.cells #[.string ⟨#[]⟩,.int .i64 0,.bool false,.int .i64 0,.int .i64 0] 96 (0,0))) hn (by simp;omega) (by simp) hW.row
 have hrow:=hW.row
 have hil:=K.idx_lt x.toList J.names
 have HF:Hid (K.findN x.toList J.names=if 0<=K.idx x.toList J.names then(J.names.getD (K.idx x.toList J.names).toNat K.noNm,true)else(K.noNm,false)):=rfl
 have c3:=h.c 3 _ rfl
 have B0:Below w.heap.size w ((w.alloc (.cells #[.string x] 9 (0,0))).alloc (.cells #[.string ⟨#[]⟩,.int .i64 0,.bool false,.int .i64 0,.int .i64 0] 96 (0,0))):=((Below.refl _ _).alloc (Nat.le_refl _) _).alloc (by simp) _
 have hblt:=h.cells.lt
 generalize K.idx x.toList J.names=ix at*
 by_cases hi:0<=ix
 · obtain⟨k,rfl⟩:=Int.eq_ofNat_of_zero_le hi
   have hk:k<J.names.length:=by omega
   have HN:Hid (K.findN x.toList J.names=(J.names[k],true)):=by
    show _=_
    rw[HF.out,if_pos hi,List.getD_eq_getElem?_getD]
    simp[hk]
   rw[HN.out]
   rcases hrow with⟨_,h0⟩|⟨g,cap,rfl,hg,hcs⟩
   · omega
   · have hcell:=hcs k hk
     have hk':¬((k:Int)<0):=by omega
     clear hcs HF HN hil hi
     generalize J.names[k]=nk at*
     obtain⟨x0,x1,x2,x3,x4⟩:=nk
     go_enter Tryz.func171,Tryz.ntmps171
     go_wp2_with fail
     refine hix.mono ?_
     rintro e w1 ⟨rfl,hb⟩
     have d3:w1.cell? ⟨b,3,none⟩=some (.slice (some ⟨g,0,none⟩) J.names.length cap):=(hb.cell (p:=⟨b,3,none⟩) (hW.cells.lt)).trans (hW.c 3 _ rfl)
     have e0:w1.cell? ⟨g,k*5,none⟩=some (.string x0):=(hb.cell (p:=⟨g,k*5,none⟩) hg).trans (hcell 0 (by omega))
     have e1:w1.cell? ⟨g,k*5+1,none⟩=some (.int .i64 x1):=(hb.cell (p:=⟨g,k*5+1,none⟩) hg).trans (hcell 1 (by omega))
     have e2:w1.cell? ⟨g,k*5+2,none⟩=some (.bool x2):=(hb.cell (p:=⟨g,k*5+2,none⟩) hg).trans (hcell 2 (by omega))
     have e3:w1.cell? ⟨g,k*5+3,none⟩=some (.int .i64 x3):=(hb.cell (p:=⟨g,k*5+3,none⟩) hg).trans (hcell 3 (by omega))
     have e4:w1.cell? ⟨g,k*5+4,none⟩=some (.int .i64 x4):=(hb.cell (p:=⟨g,k*5+4,none⟩) hg).trans (hcell 4 (by omega))
     have RB:At w1 (w.heap.size+1) 96 [.string ⟨#[]⟩,.int .i64 0,.bool false,.int .i64 0,.int .i64 0]:=by
      have:=At.alloc_new (w.alloc (.cells #[.string x] 9 (0,0))) [.string ⟨#[]⟩,.int .i64 0,.bool false,.int .i64 0,.int .i64 0] 96
      have hs:(w.alloc (.cells #[.string x] 9 (0,0))).heap.size=w.heap.size+1:=by simp
      rw[hs]at this
      exact this.of_block (hb.block _ (by simp))
     have r0:=RB.cell 0
     have r1:=RB.cell 1
     have r2:=RB.cell 2
     have r3:=RB.cell 3
     have r4:=RB.cell 4
     have q0:=RB.frozen 0
     have q1:=RB.frozen 1
     have q2:=RB.frozen 2
     have q3:=RB.frozen 3
     have q4:=RB.frozen 4
     simp only[List.getElem?_cons_zero,List.getElem?_cons_succ]at r0 r1 r2 r3 r4
     go_wp2_with fail
     have B1:=B0.trans (hb.mono B0.size)
     have BZ:Below w.heap.size w (((((w1.setCell ⟨w.heap.size+1,0,none⟩ (.string x0)).setCell ⟨w.heap.size+1,1,none⟩ (.int .i64 x1)).setCell ⟨w.heap.size+1,2,none⟩ (.bool x2)).setCell ⟨w.heap.size+1,3,none⟩ (.int .i64 x3)).setCell ⟨w.heap.size+1,4,none⟩ (.int .i64 x4)):=((((B1.setCell (by simp) _).setCell (by simp) _).setCell (by simp) _).setCell (by simp) _).setCell (by simp) _
     have RZ:At (((((w1.setCell ⟨w.heap.size+1,0,none⟩ (.string x0)).setCell ⟨w.heap.size+1,1,none⟩ (.int .i64 x1)).setCell ⟨w.heap.size+1,2,none⟩ (.bool x2)).setCell ⟨w.heap.size+1,3,none⟩ (.int .i64 x3)).setCell ⟨w.heap.size+1,4,none⟩ (.int .i64 x4)) (w.heap.size+1) 96 [.string x0,.int .i64 x1,.bool x2,.int .i64 x3,.int .i64 x4]:=(((((RB.set 0 (.string x0)).set 1 (.int .i64 x1)).set 2 (.bool x2)).set 3 (.int .i64 x3)).set 4 (.int .i64 x4))
     generalize(((((w1.setCell ⟨w.heap.size+1,0,none⟩ (.string x0)).setCell ⟨w.heap.size+1,1,none⟩ (.int .i64 x1)).setCell ⟨w.heap.size+1,2,none⟩ (.bool x2)).setCell ⟨w.heap.size+1,3,none⟩ (.int .i64 x3)).setCell ⟨w.heap.size+1,4,none⟩ (.int .i64 x4))=WZ at*
     have z0:WZ.cell? ⟨w.heap.size+1,0,none⟩=some (.string x0):=RZ.cell 0
     have z1:WZ.cell? ⟨w.heap.size+1,1,none⟩=some (.int .i64 x1):=RZ.cell 1
     have z2:WZ.cell? ⟨w.heap.size+1,2,none⟩=some (.bool x2):=RZ.cell 2
     have z3:WZ.cell? ⟨w.heap.size+1,3,none⟩=some (.int .i64 x3):=RZ.cell 3
     have z4:WZ.cell? ⟨w.heap.size+1,4,none⟩=some (.int .i64 x4):=RZ.cell 4
     exact bodyPost_ret (v:=.tuple #[nmV ⟨x0,x1,x2,x3,x4⟩,.bool true]) (by simp[results,Tryz.results171,go_sem,nmV,z0,z1,z2,z3,z4]) rfl ⟨rfl,BZ⟩
 · have HN:Hid (K.findN x.toList J.names=(K.noNm,false)):=by
    show _=_
    rw[HF.out,if_neg hi]
   rw[HN.out]
   have hk':ix<0:=by omega
   obtain⟨sa,sn,sc,hsl⟩:∃a n c,v=.slice a n c:=by
    rcases hrow with⟨h',_⟩|⟨g,cap,h',_⟩
    · exact⟨_,_,_,h'⟩
    · exact⟨_,_,_,h'⟩
   subst hsl
   clear HF HN hrow hi
   go_enter Tryz.func171,Tryz.ntmps171
   go_wp2_with fail
   refine hix.mono ?_
   rintro e w1 ⟨rfl,hb⟩
   have RB:At w1 (w.heap.size+1) 96 [.string ⟨#[]⟩,.int .i64 0,.bool false,.int .i64 0,.int .i64 0]:=by
    have:=At.alloc_new (w.alloc (.cells #[.string x] 9 (0,0))) [.string ⟨#[]⟩,.int .i64 0,.bool false,.int .i64 0,.int .i64 0] 96
    have hs:(w.alloc (.cells #[.string x] 9 (0,0))).heap.size=w.heap.size+1:=by simp
    rw[hs]at this
    exact this.of_block (hb.block _ (by simp))
   have r0:=RB.cell 0
   have r1:=RB.cell 1
   have r2:=RB.cell 2
   have r3:=RB.cell 3
   have r4:=RB.cell 4
   have q0:=RB.frozen 0
   have q1:=RB.frozen 1
   have q2:=RB.frozen 2
   have q3:=RB.frozen 3
   have q4:=RB.frozen 4
   simp only[List.getElem?_cons_zero,List.getElem?_cons_succ]at r0 r1 r2 r3 r4
   go_wp2_with fail
   have B1:=B0.trans (hb.mono B0.size)
   have BZ:Below w.heap.size w (((((w1.setCell ⟨w.heap.size+1,0,none⟩ (.string ⟨#[]⟩)).setCell ⟨w.heap.size+1,1,none⟩ (.int .i64 0)).setCell ⟨w.heap.size+1,2,none⟩ (.bool false)).setCell ⟨w.heap.size+1,3,none⟩ (.int .i64 0)).setCell ⟨w.heap.size+1,4,none⟩ (.int .i64 0)):=((((B1.setCell (by simp) _).setCell (by simp) _).setCell (by simp) _).setCell (by simp) _).setCell (by simp) _
   have RZ:At (((((w1.setCell ⟨w.heap.size+1,0,none⟩ (.string ⟨#[]⟩)).setCell ⟨w.heap.size+1,1,none⟩ (.int .i64 0)).setCell ⟨w.heap.size+1,2,none⟩ (.bool false)).setCell ⟨w.heap.size+1,3,none⟩ (.int .i64 0)).setCell ⟨w.heap.size+1,4,none⟩ (.int .i64 0)) (w.heap.size+1) 96 [.string ⟨#[]⟩,.int .i64 0,.bool false,.int .i64 0,.int .i64 0]:=(((((RB.set 0 (.string ⟨#[]⟩)).set 1 (.int .i64 0)).set 2 (.bool false)).set 3 (.int .i64 0)).set 4 (.int .i64 0))
   generalize(((((w1.setCell ⟨w.heap.size+1,0,none⟩ (.string ⟨#[]⟩)).setCell ⟨w.heap.size+1,1,none⟩ (.int .i64 0)).setCell ⟨w.heap.size+1,2,none⟩ (.bool false)).setCell ⟨w.heap.size+1,3,none⟩ (.int .i64 0)).setCell ⟨w.heap.size+1,4,none⟩ (.int .i64 0))=WZ at*
   have z0:WZ.cell? ⟨w.heap.size+1,0,none⟩=some (.string ⟨#[]⟩):=RZ.cell 0
   have z1:WZ.cell? ⟨w.heap.size+1,1,none⟩=some (.int .i64 0):=RZ.cell 1
   have z2:WZ.cell? ⟨w.heap.size+1,2,none⟩=some (.bool false):=RZ.cell 2
   have z3:WZ.cell? ⟨w.heap.size+1,3,none⟩=some (.int .i64 0):=RZ.cell 3
   have z4:WZ.cell? ⟨w.heap.size+1,4,none⟩=some (.int .i64 0):=RZ.cell 4
   exact bodyPost_ret (v:=.tuple #[nmV K.noNm,.bool false]) (by simp[results,Tryz.results171,go_sem,nmV,K.noNm,z0,z1,z2,z3,z4]) rfl ⟨rfl,BZ⟩
def K.newName(T:List Tok)(J:S):S:=if(K.findN (tk T J.i).s.toList J.names).2=true then K.fail T 4 (tk T J.i).p (K.take T R.isName J)else K.take T R.isName J
theorem newName_c{w:World}{b:Nat}{s:ByteArray}{T:List Tok}{J:S}{v:Value}(hS:Scans s T)(h:CR w b s T J v)(hn:J.names.length<=1000):
 Calls Tryz.prog 137 #[PT b] w λx w'=>x=.returned (.string (tk T J.i).s)/\CR w' b s T (K.newName T J) v/\But b w w':=by
 have c2:=h.c 2 _ rfl
 have hz:=hS.tsize h.lt
 have ht:=ktake_isName hS h R.isName (kisName_c _ w (by omega))
 have kn:=(K.take_keeps T R.isName J).names
 have HK:Hid (K.newName T J=if(K.findN (tk T J.i).s.toList J.names).2=true then K.fail T 4 (tk T J.i).p (K.take T R.isName J)else K.take T R.isName J):=rfl
 have hfi:=fun(w':World) (h':CR w' b s T (K.take T R.isName J) v)=>kfind_c h' (by rw[kn];exact hn) (tk T J.i).s
 rw[kn]at hfi
 have hfl:=fun(w':World) (h':CR w' b s T (K.take T R.isName J) v)=>kfail_c hS h' 4 (tk T J.i).p
 generalize K.newName T J=J2 at*
 generalize K.take T R.isName J=J1 at*
 generalize tk T J.i=t at*
 obtain⟨ts,tp⟩:=t
 dsimp only at*
 generalize K.findN ts.toList J.names=F at*
 obtain⟨⟨x0,x1,x2,x3,x4⟩,q⟩:=F
 unfold nmV at hfi
 dsimp only at*
 cases q with
 |true=>
  have e:=HK.out
  rw[if_pos rfl]at e
  subst e
  clear HK kn
  go_enter Tryz.func137,Tryz.ntmps137
  go_wp2_with fail
  refine ht.mono ?_
  rintro x w1 ⟨rfl,hr1,hb1⟩
  go_wp2_with fail
  refine(hfi _ hr1).mono ?_
  rintro x w2 ⟨rfl,hb2⟩
  have hr3:=(hr1.below hb2).alloc (.cells #[.string x0,.int .i64 x1,.bool x2,.int .i64 x3,.int .i64 x4] 96 (0,0))
  go_wp2_with fail
  refine(hfl _ hr3).mono ?_
  rintro x w3 ⟨rfl,hr4,hb4⟩
  go_wp2_with fail
  go_ret
  exact⟨rfl,hr4,((hb1.below hb2).alloc _).trans hb4⟩
 |false=>
  have e:=HK.out
  rw[if_neg (by decide)]at e
  subst e
  clear HK kn
  go_enter Tryz.func137,Tryz.ntmps137
  go_wp2_with fail
  refine ht.mono ?_
  rintro x w1 ⟨rfl,hr1,hb1⟩
  go_wp2_with fail
  refine(hfi _ hr1).mono ?_
  rintro x w2 ⟨rfl,hb2⟩
  have hr3:=(hr1.below hb2).alloc (.cells #[.string x0,.int .i64 x1,.bool x2,.int .i64 x3,.int .i64 x4] 96 (0,0))
  go_wp2_with fail
  go_ret
  exact⟨rfl,hr3,(hb1.below hb2).alloc _⟩
def K.canSet(n:Nm):Bool:=n.kind==0
def K.hasWords(n:Nm):Bool:=n.kind==1
def K.canRead(n:Nm):Bool:=n.kind==0||n.kind==2
def K.known(T:List Tok)(fits:Nm->Bool)(J:S):S:=if((K.findN (tk T J.i).s.toList J.names).2&&fits (K.findN (tk T J.i).s.toList J.names).1)=true then K.take T R.isName J else K.fail T 3 (tk T J.i).p (K.take T R.isName J)
def K.knownN(T:List Tok)(J:S):Nm:=(K.findN (tk T J.i).s.toList J.names).1
theorem canSet_c(x0:ByteArray)(x1:Int)(x2:Bool)(x3 x4:Int)(w:World):Calls Tryz.prog 204 #[.agg #[.string x0,.int .i64 x1,.bool x2,.int .i64 x3,.int .i64 x4]] w λx w'=>x=.returned (.bool (K.canSet ⟨x0,x1,x2,x3,x4⟩))/\Below w.heap.size w w':=by
 go_enter Tryz.func204,Tryz.ntmps204
 go_wp2
 go_ret
 exact⟨rfl,(Below.refl _ _).alloc (Nat.le_refl _) _⟩
theorem hasWords_c(x0:ByteArray)(x1:Int)(x2:Bool)(x3 x4:Int)(w:World):Calls Tryz.prog 206 #[.agg #[.string x0,.int .i64 x1,.bool x2,.int .i64 x3,.int .i64 x4]] w λx w'=>x=.returned (.bool (K.hasWords ⟨x0,x1,x2,x3,x4⟩))/\Below w.heap.size w w':=by
 go_enter Tryz.func206,Tryz.ntmps206
 go_wp2
 go_ret
 exact⟨rfl,(Below.refl _ _).alloc (Nat.le_refl _) _⟩
theorem canRead_c(x0:ByteArray)(x1:Int)(x2:Bool)(x3 x4:Int)(w:World):Calls Tryz.prog 220 #[.agg #[.string x0,.int .i64 x1,.bool x2,.int .i64 x3,.int .i64 x4]] w λx w'=>x=.returned (.bool (K.canRead ⟨x0,x1,x2,x3,x4⟩))/\Below w.heap.size w w':=by
 have HK:Hid (K.canRead ⟨x0,x1,x2,x3,x4⟩=(x1==0||x1==2)):=rfl
 cases e1:(x1==0)with
 |true=>
  rw[e1]at HK
  rw[HK.out]
  go_enter Tryz.func220,Tryz.ntmps220
  go_wp2
  go_ret
  exact⟨rfl,(Below.refl _ _).alloc (Nat.le_refl _) _⟩
 |false=>
  rw[e1]at HK
  rw[HK.out]
  go_enter Tryz.func220,Tryz.ntmps220
  go_wp2
  go_ret
  exact⟨rfl,(Below.refl _ _).alloc (Nat.le_refl _) _⟩
theorem zero_box{w w1:World}{b:Nat}(hb:But b (w.alloc (.cells #[.string ⟨#[]⟩,.int .i64 0,.bool false,.int .i64 0,.int .i64 0] 96 (0,0))) w1)(hlt:b<w.heap.size):At w1 w.heap.size 96 [.string ⟨#[]⟩,.int .i64 0,.bool false,.int .i64 0,.int .i64 0]:=
 (At.alloc_new w [.string ⟨#[]⟩,.int .i64 0,.bool false,.int .i64 0,.int .i64 0] 96).of_block (hb.block _ (by simp) (by omega))
theorem put5{w w1:World}{b:Nat}{s:ByteArray}{T:List Tok}{J:S}{v:Value}{o:Obj}(h:CR w1 b s T J v)(hb:But b (w.alloc o) w1)(hlt:b<w.heap.size)(hv:∀k,v.ownBlock=some k->k<w.heap.size)(a0 a1 a2 a3 a4:Value):
 CR (((((w1.setCell ⟨w.heap.size,0,none⟩ a0).setCell ⟨w.heap.size,1,none⟩ a1).setCell ⟨w.heap.size,2,none⟩ a2).setCell ⟨w.heap.size,3,none⟩ a3).setCell ⟨w.heap.size,4,none⟩ a4) b s T J v∧
 But b w (((((w1.setCell ⟨w.heap.size,0,none⟩ a0).setCell ⟨w.heap.size,1,none⟩ a1).setCell ⟨w.heap.size,2,none⟩ a2).setCell ⟨w.heap.size,3,none⟩ a3).setCell ⟨w.heap.size,4,none⟩ a4):=by
 have hs:∀k,k≠w.heap.size->(((((w1.setCell ⟨w.heap.size,0,none⟩ a0).setCell ⟨w.heap.size,1,none⟩ a1).setCell ⟨w.heap.size,2,none⟩ a2).setCell ⟨w.heap.size,3,none⟩ a3).setCell ⟨w.heap.size,4,none⟩ a4).heap[k]?=w1.heap[k]?:=λk hk=>by
  rw[Below.heap_setCell _ _ _ _ hk,Below.heap_setCell _ _ _ _ hk,Below.heap_setCell _ _ _ _ hk,Below.heap_setCell _ _ _ _ hk,Below.heap_setCell _ _ _ _ hk]
 have B:=((But.refl b w).alloc o).trans hb
 refine⟨⟨h.cells.of_block (hs b (by omega)),row_of h.names λk hk=>hs k (by have:=hv k hk;omega),h.lt⟩,((((B.set_new (Nat.le_refl _) _).set_new (Nat.le_refl _) _).set_new (Nat.le_refl _) _).set_new (Nat.le_refl _) _).set_new (Nat.le_refl _) _⟩
theorem known_set{w:World}{b:Nat}{s:ByteArray}{T:List Tok}{J:S}{v:Value}(hS:Scans s T)(h:CR w b s T J v)(hn:J.names.length<=1000):
 Calls Tryz.prog 203 #[PT b,.func (.func 204) #[] #[]] w λx w'=>x=.returned (nmV (K.knownN T J))/\CR w' b s T (K.known T K.canSet J) v/\But b w w':=by
 have h0:=h.alloc (.cells #[.string ⟨#[]⟩,.int .i64 0,.bool false,.int .i64 0,.int .i64 0] 96 (0,0))
 have hlt:=h.cells.lt
 have c2:=h.c 2 _ rfl
 have hz:=hS.tsize h.lt
 have ht:=ktake_isName hS h0 R.isName (kisName_c _ _ (by omega))
 have kn:=(K.take_keeps T R.isName J).names
 have HK:Hid (K.known T K.canSet J=if((K.findN (tk T J.i).s.toList J.names).2&&K.canSet (K.findN (tk T J.i).s.toList J.names).1)=true then K.take T R.isName J else K.fail T 3 (tk T J.i).p (K.take T R.isName J)):=rfl
 have HN:Hid (K.knownN T J=(K.findN (tk T J.i).s.toList J.names).1):=rfl
 have hfi:=fun(w':World) (h':CR w' b s T (K.take T R.isName J) v)=>kfind_c h' (by rw[kn];exact hn) (tk T J.i).s
 rw[kn]at hfi
 have hfl:=fun(w':World) (h':CR w' b s T (K.take T R.isName J) v)=>kfail_c hS h' 3 (tk T J.i).p
 rw[HN.out]
 generalize K.known T K.canSet J=J2 at*
 generalize K.take T R.isName J=J1 at*
 generalize tk T J.i=t at*
 obtain⟨ts,tp⟩:=t
 dsimp only at*
 clear HN
 generalize K.findN ts.toList J.names=F at*
 obtain⟨⟨x0,x1,x2,x3,x4⟩,q⟩:=F
 unfold nmV at hfi
 dsimp only at*
 have hft:=λw=>canSet_c x0 x1 x2 x3 x4 w
 have hvl:∀k,v.ownBlock=some k->k<w.heap.size:=λk hk=>(h.ne hk).2
 cases q with
 |true=>
  cases e1:K.canSet ⟨x0,x1,x2,x3,x4⟩with
  |true=>
   rw[e1]at HK hft
   have e:=HK.out
   rw[if_pos (by decide)]at e
   subst e
   clear HK kn hfl
   go_enter Tryz.func203,Tryz.ntmps203
   go_wp2_with fail
   refine ht.mono ?_
   rintro x w1 ⟨rfl,hr1,hb1⟩
   go_wp2_with fail
   refine(hfi _ hr1).mono ?_
   rintro x w2 ⟨rfl,hb2⟩
   have hr2:=hr1.below hb2
   have hB2:=hb1.below hb2
   have hr3:=hr2.alloc (.cells #[.string x0,.int .i64 x1,.bool x2,.int .i64 x3,.int .i64 x4] 96 (0,0))
   have nb:=At.alloc_new w2 [.string x0,.int .i64 x1,.bool x2,.int .i64 x3,.int .i64 x4] 96
   go_wp2_with fail
   refine(hft _).mono ?_
   rintro x w3 ⟨rfl,hb3⟩
   have nb3:=nb.of_block (hb3.block _ nb.lt)
   have k0:=nb3.cell 0
   have k1:=nb3.cell 1
   have k2:=nb3.cell 2
   have k3:=nb3.cell 3
   have k4:=nb3.cell 4
   have RB:=zero_box ((hB2.alloc _).below hb3) hlt
   simp only[List.getElem?_cons_zero,List.getElem?_cons_succ]at k0 k1 k2 k3 k4
   have r0:=RB.cell 0
   have r1:=RB.cell 1
   have r2:=RB.cell 2
   have r3:=RB.cell 3
   have r4:=RB.cell 4
   simp only[List.getElem?_cons_zero,List.getElem?_cons_succ]at r0 r1 r2 r3 r4
   have q0:=RB.frozen 0
   have q1:=RB.frozen 1
   have q2:=RB.frozen 2
   have q3:=RB.frozen 3
   have q4:=RB.frozen 4
   have RZ:=((((RB.set 0 (.string x0)).set 1 (.int .i64 x1)).set 2 (.bool x2)).set 3 (.int .i64 x3)).set 4 (.int .i64 x4)
   have CZ:=put5 (hr3.below hb3) ((hB2.alloc _).below hb3) hlt hvl (.string x0) (.int .i64 x1) (.bool x2) (.int .i64 x3) (.int .i64 x4)
   go_wp2_with fail
   generalize(((((w3.setCell ⟨w.heap.size,0,none⟩ (.string x0)).setCell ⟨w.heap.size,1,none⟩ (.int .i64 x1)).setCell ⟨w.heap.size,2,none⟩ (.bool x2)).setCell ⟨w.heap.size,3,none⟩ (.int .i64 x3)).setCell ⟨w.heap.size,4,none⟩ (.int .i64 x4))=WZ at*
   have z0:WZ.cell? ⟨w.heap.size,0,none⟩=some (.string x0):=RZ.cell 0
   have z1:WZ.cell? ⟨w.heap.size,1,none⟩=some (.int .i64 x1):=RZ.cell 1
   have z2:WZ.cell? ⟨w.heap.size,2,none⟩=some (.bool x2):=RZ.cell 2
   have z3:WZ.cell? ⟨w.heap.size,3,none⟩=some (.int .i64 x3):=RZ.cell 3
   have z4:WZ.cell? ⟨w.heap.size,4,none⟩=some (.int .i64 x4):=RZ.cell 4
   exact bodyPost_ret (v:=nmV ⟨x0,x1,x2,x3,x4⟩) (by simp[results,Tryz.results203,go_sem,nmV,z0,z1,z2,z3,z4]) rfl ⟨rfl,CZ.1,CZ.2⟩
  |false=>
   rw[e1]at HK hft
   have e:=HK.out
   rw[if_neg (by decide)]at e
   subst e
   clear HK kn
   go_enter Tryz.func203,Tryz.ntmps203
   go_wp2_with fail
   refine ht.mono ?_
   rintro x w1 ⟨rfl,hr1,hb1⟩
   go_wp2_with fail
   refine(hfi _ hr1).mono ?_
   rintro x w2 ⟨rfl,hb2⟩
   have hr2:=hr1.below hb2
   have hB2:=hb1.below hb2
   have hr3:=hr2.alloc (.cells #[.string x0,.int .i64 x1,.bool x2,.int .i64 x3,.int .i64 x4] 96 (0,0))
   have nb:=At.alloc_new w2 [.string x0,.int .i64 x1,.bool x2,.int .i64 x3,.int .i64 x4] 96
   go_wp2_with fail
   refine(hft _).mono ?_
   rintro x w3 ⟨rfl,hb3⟩
   go_wp2_with fail
   refine(hfl _ (hr3.below hb3)).mono ?_
   rintro x w4 ⟨rfl,hr4,hb4⟩
   have nb3:=(nb.of_block (hb3.block _ nb.lt)).of_block (hb4.block _ (by have:=hb3.size;have:=nb.lt;omega) (by have:=hr2.cells.lt;omega))
   have k0:=nb3.cell 0
   have k1:=nb3.cell 1
   have k2:=nb3.cell 2
   have k3:=nb3.cell 3
   have k4:=nb3.cell 4
   have RB:=zero_box (((hB2.alloc _).below hb3).trans hb4) hlt
   simp only[List.getElem?_cons_zero,List.getElem?_cons_succ]at k0 k1 k2 k3 k4
   have r0:=RB.cell 0
   have r1:=RB.cell 1
   have r2:=RB.cell 2
   have r3:=RB.cell 3
   have r4:=RB.cell 4
   simp only[List.getElem?_cons_zero,List.getElem?_cons_succ]at r0 r1 r2 r3 r4
   have q0:=RB.frozen 0
   have q1:=RB.frozen 1
   have q2:=RB.frozen 2
   have q3:=RB.frozen 3
   have q4:=RB.frozen 4
   have RZ:=((((RB.set 0 (.string x0)).set 1 (.int .i64 x1)).set 2 (.bool x2)).set 3 (.int .i64 x3)).set 4 (.int .i64 x4)
   have CZ:=put5 hr4 (((hB2.alloc _).below hb3).trans hb4) hlt hvl (.string x0) (.int .i64 x1) (.bool x2) (.int .i64 x3) (.int .i64 x4)
   go_wp2_with fail
   generalize(((((w4.setCell ⟨w.heap.size,0,none⟩ (.string x0)).setCell ⟨w.heap.size,1,none⟩ (.int .i64 x1)).setCell ⟨w.heap.size,2,none⟩ (.bool x2)).setCell ⟨w.heap.size,3,none⟩ (.int .i64 x3)).setCell ⟨w.heap.size,4,none⟩ (.int .i64 x4))=WZ at*
   have z0:WZ.cell? ⟨w.heap.size,0,none⟩=some (.string x0):=RZ.cell 0
   have z1:WZ.cell? ⟨w.heap.size,1,none⟩=some (.int .i64 x1):=RZ.cell 1
   have z2:WZ.cell? ⟨w.heap.size,2,none⟩=some (.bool x2):=RZ.cell 2
   have z3:WZ.cell? ⟨w.heap.size,3,none⟩=some (.int .i64 x3):=RZ.cell 3
   have z4:WZ.cell? ⟨w.heap.size,4,none⟩=some (.int .i64 x4):=RZ.cell 4
   exact bodyPost_ret (v:=nmV ⟨x0,x1,x2,x3,x4⟩) (by simp[results,Tryz.results203,go_sem,nmV,z0,z1,z2,z3,z4]) rfl ⟨rfl,CZ.1,CZ.2⟩
 |false=>
  have e:=HK.out
  rw[Bool.false_and,if_neg (by decide)]at e
  subst e
  clear HK kn
  go_enter Tryz.func203,Tryz.ntmps203
  go_wp2_with fail
  refine ht.mono ?_
  rintro x w1 ⟨rfl,hr1,hb1⟩
  go_wp2_with fail
  refine(hfi _ hr1).mono ?_
  rintro x w2 ⟨rfl,hb2⟩
  have hr2:=hr1.below hb2
  have hB2:=hb1.below hb2
  have hr3:=hr2.alloc (.cells #[.string x0,.int .i64 x1,.bool x2,.int .i64 x3,.int .i64 x4] 96 (0,0))
  have nb:=At.alloc_new w2 [.string x0,.int .i64 x1,.bool x2,.int .i64 x3,.int .i64 x4] 96
  go_wp2_with fail
  refine(hfl _ hr3).mono ?_
  rintro x w4 ⟨rfl,hr4,hb4⟩
  have nb3:=nb.of_block (hb4.block _ nb.lt (by have:=hr2.cells.lt;omega))
  have k0:=nb3.cell 0
  have k1:=nb3.cell 1
  have k2:=nb3.cell 2
  have k3:=nb3.cell 3
  have k4:=nb3.cell 4
  have RB:=zero_box ((hB2.alloc _).trans hb4) hlt
  simp only[List.getElem?_cons_zero,List.getElem?_cons_succ]at k0 k1 k2 k3 k4
  have r0:=RB.cell 0
  have r1:=RB.cell 1
  have r2:=RB.cell 2
  have r3:=RB.cell 3
  have r4:=RB.cell 4
  simp only[List.getElem?_cons_zero,List.getElem?_cons_succ]at r0 r1 r2 r3 r4
  have q0:=RB.frozen 0
  have q1:=RB.frozen 1
  have q2:=RB.frozen 2
  have q3:=RB.frozen 3
  have q4:=RB.frozen 4
  have RZ:=((((RB.set 0 (.string x0)).set 1 (.int .i64 x1)).set 2 (.bool x2)).set 3 (.int .i64 x3)).set 4 (.int .i64 x4)
  have CZ:=put5 hr4 ((hB2.alloc _).trans hb4) hlt hvl (.string x0) (.int .i64 x1) (.bool x2) (.int .i64 x3) (.int .i64 x4)
  go_wp2_with fail
  generalize(((((w4.setCell ⟨w.heap.size,0,none⟩ (.string x0)).setCell ⟨w.heap.size,1,none⟩ (.int .i64 x1)).setCell ⟨w.heap.size,2,none⟩ (.bool x2)).setCell ⟨w.heap.size,3,none⟩ (.int .i64 x3)).setCell ⟨w.heap.size,4,none⟩ (.int .i64 x4))=WZ at*
  have z0:WZ.cell? ⟨w.heap.size,0,none⟩=some (.string x0):=RZ.cell 0
  have z1:WZ.cell? ⟨w.heap.size,1,none⟩=some (.int .i64 x1):=RZ.cell 1
  have z2:WZ.cell? ⟨w.heap.size,2,none⟩=some (.bool x2):=RZ.cell 2
  have z3:WZ.cell? ⟨w.heap.size,3,none⟩=some (.int .i64 x3):=RZ.cell 3
  have z4:WZ.cell? ⟨w.heap.size,4,none⟩=some (.int .i64 x4):=RZ.cell 4
  exact bodyPost_ret (v:=nmV ⟨x0,x1,x2,x3,x4⟩) (by simp[results,Tryz.results203,go_sem,nmV,z0,z1,z2,z3,z4]) rfl ⟨rfl,CZ.1,CZ.2⟩
theorem known_words{w:World}{b:Nat}{s:ByteArray}{T:List Tok}{J:S}{v:Value}(hS:Scans s T)(h:CR w b s T J v)(hn:J.names.length<=1000):
 Calls Tryz.prog 203 #[PT b,.func (.func 206) #[] #[]] w λx w'=>x=.returned (nmV (K.knownN T J))/\CR w' b s T (K.known T K.hasWords J) v/\But b w w':=by
 have h0:=h.alloc (.cells #[.string ⟨#[]⟩,.int .i64 0,.bool false,.int .i64 0,.int .i64 0] 96 (0,0))
 have hlt:=h.cells.lt
 have c2:=h.c 2 _ rfl
 have hz:=hS.tsize h.lt
 have ht:=ktake_isName hS h0 R.isName (kisName_c _ _ (by omega))
 have kn:=(K.take_keeps T R.isName J).names
 have HK:Hid (K.known T K.hasWords J=if((K.findN (tk T J.i).s.toList J.names).2&&K.hasWords (K.findN (tk T J.i).s.toList J.names).1)=true then K.take T R.isName J else K.fail T 3 (tk T J.i).p (K.take T R.isName J)):=rfl
 have HN:Hid (K.knownN T J=(K.findN (tk T J.i).s.toList J.names).1):=rfl
 have hfi:=fun(w':World) (h':CR w' b s T (K.take T R.isName J) v)=>kfind_c h' (by rw[kn];exact hn) (tk T J.i).s
 rw[kn]at hfi
 have hfl:=fun(w':World) (h':CR w' b s T (K.take T R.isName J) v)=>kfail_c hS h' 3 (tk T J.i).p
 rw[HN.out]
 generalize K.known T K.hasWords J=J2 at*
 generalize K.take T R.isName J=J1 at*
 generalize tk T J.i=t at*
 obtain⟨ts,tp⟩:=t
 dsimp only at*
 clear HN
 generalize K.findN ts.toList J.names=F at*
 obtain⟨⟨x0,x1,x2,x3,x4⟩,q⟩:=F
 unfold nmV at hfi
 dsimp only at*
 have hft:=λw=>hasWords_c x0 x1 x2 x3 x4 w
 have hvl:∀k,v.ownBlock=some k->k<w.heap.size:=λk hk=>(h.ne hk).2
 cases q with
 |true=>
  cases e1:K.hasWords ⟨x0,x1,x2,x3,x4⟩with
  |true=>
   rw[e1]at HK hft
   have e:=HK.out
   rw[if_pos (by decide)]at e
   subst e
   clear HK kn hfl
   go_enter Tryz.func203,Tryz.ntmps203
   go_wp2_with fail
   refine ht.mono ?_
   rintro x w1 ⟨rfl,hr1,hb1⟩
   go_wp2_with fail
   refine(hfi _ hr1).mono ?_
   rintro x w2 ⟨rfl,hb2⟩
   have hr2:=hr1.below hb2
   have hB2:=hb1.below hb2
   have hr3:=hr2.alloc (.cells #[.string x0,.int .i64 x1,.bool x2,.int .i64 x3,.int .i64 x4] 96 (0,0))
   have nb:=At.alloc_new w2 [.string x0,.int .i64 x1,.bool x2,.int .i64 x3,.int .i64 x4] 96
   go_wp2_with fail
   refine(hft _).mono ?_
   rintro x w3 ⟨rfl,hb3⟩
   have nb3:=nb.of_block (hb3.block _ nb.lt)
   have k0:=nb3.cell 0
   have k1:=nb3.cell 1
   have k2:=nb3.cell 2
   have k3:=nb3.cell 3
   have k4:=nb3.cell 4
   have RB:=zero_box ((hB2.alloc _).below hb3) hlt
   simp only[List.getElem?_cons_zero,List.getElem?_cons_succ]at k0 k1 k2 k3 k4
   have r0:=RB.cell 0
   have r1:=RB.cell 1
   have r2:=RB.cell 2
   have r3:=RB.cell 3
   have r4:=RB.cell 4
   simp only[List.getElem?_cons_zero,List.getElem?_cons_succ]at r0 r1 r2 r3 r4
   have q0:=RB.frozen 0
   have q1:=RB.frozen 1
   have q2:=RB.frozen 2
   have q3:=RB.frozen 3
   have q4:=RB.frozen 4
   have RZ:=((((RB.set 0 (.string x0)).set 1 (.int .i64 x1)).set 2 (.bool x2)).set 3 (.int .i64 x3)).set 4 (.int .i64 x4)
   have CZ:=put5 (hr3.below hb3) ((hB2.alloc _).below hb3) hlt hvl (.string x0) (.int .i64 x1) (.bool x2) (.int .i64 x3) (.int .i64 x4)
   go_wp2_with fail
   generalize(((((w3.setCell ⟨w.heap.size,0,none⟩ (.string x0)).setCell ⟨w.heap.size,1,none⟩ (.int .i64 x1)).setCell ⟨w.heap.size,2,none⟩ (.bool x2)).setCell ⟨w.heap.size,3,none⟩ (.int .i64 x3)).setCell ⟨w.heap.size,4,none⟩ (.int .i64 x4))=WZ at*
   have z0:WZ.cell? ⟨w.heap.size,0,none⟩=some (.string x0):=RZ.cell 0
   have z1:WZ.cell? ⟨w.heap.size,1,none⟩=some (.int .i64 x1):=RZ.cell 1
   have z2:WZ.cell? ⟨w.heap.size,2,none⟩=some (.bool x2):=RZ.cell 2
   have z3:WZ.cell? ⟨w.heap.size,3,none⟩=some (.int .i64 x3):=RZ.cell 3
   have z4:WZ.cell? ⟨w.heap.size,4,none⟩=some (.int .i64 x4):=RZ.cell 4
   exact bodyPost_ret (v:=nmV ⟨x0,x1,x2,x3,x4⟩) (by simp[results,Tryz.results203,go_sem,nmV,z0,z1,z2,z3,z4]) rfl ⟨rfl,CZ.1,CZ.2⟩
  |false=>
   rw[e1]at HK hft
   have e:=HK.out
   rw[if_neg (by decide)]at e
   subst e
   clear HK kn
   go_enter Tryz.func203,Tryz.ntmps203
   go_wp2_with fail
   refine ht.mono ?_
   rintro x w1 ⟨rfl,hr1,hb1⟩
   go_wp2_with fail
   refine(hfi _ hr1).mono ?_
   rintro x w2 ⟨rfl,hb2⟩
   have hr2:=hr1.below hb2
   have hB2:=hb1.below hb2
   have hr3:=hr2.alloc (.cells #[.string x0,.int .i64 x1,.bool x2,.int .i64 x3,.int .i64 x4] 96 (0,0))
   have nb:=At.alloc_new w2 [.string x0,.int .i64 x1,.bool x2,.int .i64 x3,.int .i64 x4] 96
   go_wp2_with fail
   refine(hft _).mono ?_
   rintro x w3 ⟨rfl,hb3⟩
   go_wp2_with fail
   refine(hfl _ (hr3.below hb3)).mono ?_
   rintro x w4 ⟨rfl,hr4,hb4⟩
   have nb3:=(nb.of_block (hb3.block _ nb.lt)).of_block (hb4.block _ (by have:=hb3.size;have:=nb.lt;omega) (by have:=hr2.cells.lt;omega))
   have k0:=nb3.cell 0
   have k1:=nb3.cell 1
   have k2:=nb3.cell 2
   have k3:=nb3.cell 3
   have k4:=nb3.cell 4
   have RB:=zero_box (((hB2.alloc _).below hb3).trans hb4) hlt
   simp only[List.getElem?_cons_zero,List.getElem?_cons_succ]at k0 k1 k2 k3 k4
   have r0:=RB.cell 0
   have r1:=RB.cell 1
   have r2:=RB.cell 2
   have r3:=RB.cell 3
   have r4:=RB.cell 4
   simp only[List.getElem?_cons_zero,List.getElem?_cons_succ]at r0 r1 r2 r3 r4
   have q0:=RB.frozen 0
   have q1:=RB.frozen 1
   have q2:=RB.frozen 2
   have q3:=RB.frozen 3
   have q4:=RB.frozen 4
   have RZ:=((((RB.set 0 (.string x0)).set 1 (.int .i64 x1)).set 2 (.bool x2)).set 3 (.int .i64 x3)).set 4 (.int .i64 x4)
   have CZ:=put5 hr4 (((hB2.alloc _).below hb3).trans hb4) hlt hvl (.string x0) (.int .i64 x1) (.bool x2) (.int .i64 x3) (.int .i64 x4)
   go_wp2_with fail
   generalize(((((w4.setCell ⟨w.heap.size,0,none⟩ (.string x0)).setCell ⟨w.heap.size,1,none⟩ (.int .i64 x1)).setCell ⟨w.heap.size,2,none⟩ (.bool x2)).setCell ⟨w.heap.size,3,none⟩ (.int .i64 x3)).setCell ⟨w.heap.size,4,none⟩ (.int .i64 x4))=WZ at*
   have z0:WZ.cell? ⟨w.heap.size,0,none⟩=some (.string x0):=RZ.cell 0
   have z1:WZ.cell? ⟨w.heap.size,1,none⟩=some (.int .i64 x1):=RZ.cell 1
   have z2:WZ.cell? ⟨w.heap.size,2,none⟩=some (.bool x2):=RZ.cell 2
   have z3:WZ.cell? ⟨w.heap.size,3,none⟩=some (.int .i64 x3):=RZ.cell 3
   have z4:WZ.cell? ⟨w.heap.size,4,none⟩=some (.int .i64 x4):=RZ.cell 4
   exact bodyPost_ret (v:=nmV ⟨x0,x1,x2,x3,x4⟩) (by simp[results,Tryz.results203,go_sem,nmV,z0,z1,z2,z3,z4]) rfl ⟨rfl,CZ.1,CZ.2⟩
 |false=>
  have e:=HK.out
  rw[Bool.false_and,if_neg (by decide)]at e
  subst e
  clear HK kn
  go_enter Tryz.func203,Tryz.ntmps203
  go_wp2_with fail
  refine ht.mono ?_
  rintro x w1 ⟨rfl,hr1,hb1⟩
  go_wp2_with fail
  refine(hfi _ hr1).mono ?_
  rintro x w2 ⟨rfl,hb2⟩
  have hr2:=hr1.below hb2
  have hB2:=hb1.below hb2
  have hr3:=hr2.alloc (.cells #[.string x0,.int .i64 x1,.bool x2,.int .i64 x3,.int .i64 x4] 96 (0,0))
  have nb:=At.alloc_new w2 [.string x0,.int .i64 x1,.bool x2,.int .i64 x3,.int .i64 x4] 96
  go_wp2_with fail
  refine(hfl _ hr3).mono ?_
  rintro x w4 ⟨rfl,hr4,hb4⟩
  have nb3:=nb.of_block (hb4.block _ nb.lt (by have:=hr2.cells.lt;omega))
  have k0:=nb3.cell 0
  have k1:=nb3.cell 1
  have k2:=nb3.cell 2
  have k3:=nb3.cell 3
  have k4:=nb3.cell 4
  have RB:=zero_box ((hB2.alloc _).trans hb4) hlt
  simp only[List.getElem?_cons_zero,List.getElem?_cons_succ]at k0 k1 k2 k3 k4
  have r0:=RB.cell 0
  have r1:=RB.cell 1
  have r2:=RB.cell 2
  have r3:=RB.cell 3
  have r4:=RB.cell 4
  simp only[List.getElem?_cons_zero,List.getElem?_cons_succ]at r0 r1 r2 r3 r4
  have q0:=RB.frozen 0
  have q1:=RB.frozen 1
  have q2:=RB.frozen 2
  have q3:=RB.frozen 3
  have q4:=RB.frozen 4
  have RZ:=((((RB.set 0 (.string x0)).set 1 (.int .i64 x1)).set 2 (.bool x2)).set 3 (.int .i64 x3)).set 4 (.int .i64 x4)
  have CZ:=put5 hr4 ((hB2.alloc _).trans hb4) hlt hvl (.string x0) (.int .i64 x1) (.bool x2) (.int .i64 x3) (.int .i64 x4)
  go_wp2_with fail
  generalize(((((w4.setCell ⟨w.heap.size,0,none⟩ (.string x0)).setCell ⟨w.heap.size,1,none⟩ (.int .i64 x1)).setCell ⟨w.heap.size,2,none⟩ (.bool x2)).setCell ⟨w.heap.size,3,none⟩ (.int .i64 x3)).setCell ⟨w.heap.size,4,none⟩ (.int .i64 x4))=WZ at*
  have z0:WZ.cell? ⟨w.heap.size,0,none⟩=some (.string x0):=RZ.cell 0
  have z1:WZ.cell? ⟨w.heap.size,1,none⟩=some (.int .i64 x1):=RZ.cell 1
  have z2:WZ.cell? ⟨w.heap.size,2,none⟩=some (.bool x2):=RZ.cell 2
  have z3:WZ.cell? ⟨w.heap.size,3,none⟩=some (.int .i64 x3):=RZ.cell 3
  have z4:WZ.cell? ⟨w.heap.size,4,none⟩=some (.int .i64 x4):=RZ.cell 4
  exact bodyPost_ret (v:=nmV ⟨x0,x1,x2,x3,x4⟩) (by simp[results,Tryz.results203,go_sem,nmV,z0,z1,z2,z3,z4]) rfl ⟨rfl,CZ.1,CZ.2⟩
theorem known_read{w:World}{b:Nat}{s:ByteArray}{T:List Tok}{J:S}{v:Value}(hS:Scans s T)(h:CR w b s T J v)(hn:J.names.length<=1000):
 Calls Tryz.prog 203 #[PT b,.func (.func 220) #[] #[]] w λx w'=>x=.returned (nmV (K.knownN T J))/\CR w' b s T (K.known T K.canRead J) v/\But b w w':=by
 have h0:=h.alloc (.cells #[.string ⟨#[]⟩,.int .i64 0,.bool false,.int .i64 0,.int .i64 0] 96 (0,0))
 have hlt:=h.cells.lt
 have c2:=h.c 2 _ rfl
 have hz:=hS.tsize h.lt
 have ht:=ktake_isName hS h0 R.isName (kisName_c _ _ (by omega))
 have kn:=(K.take_keeps T R.isName J).names
 have HK:Hid (K.known T K.canRead J=if((K.findN (tk T J.i).s.toList J.names).2&&K.canRead (K.findN (tk T J.i).s.toList J.names).1)=true then K.take T R.isName J else K.fail T 3 (tk T J.i).p (K.take T R.isName J)):=rfl
 have HN:Hid (K.knownN T J=(K.findN (tk T J.i).s.toList J.names).1):=rfl
 have hfi:=fun(w':World) (h':CR w' b s T (K.take T R.isName J) v)=>kfind_c h' (by rw[kn];exact hn) (tk T J.i).s
 rw[kn]at hfi
 have hfl:=fun(w':World) (h':CR w' b s T (K.take T R.isName J) v)=>kfail_c hS h' 3 (tk T J.i).p
 rw[HN.out]
 generalize K.known T K.canRead J=J2 at*
 generalize K.take T R.isName J=J1 at*
 generalize tk T J.i=t at*
 obtain⟨ts,tp⟩:=t
 dsimp only at*
 clear HN
 generalize K.findN ts.toList J.names=F at*
 obtain⟨⟨x0,x1,x2,x3,x4⟩,q⟩:=F
 unfold nmV at hfi
 dsimp only at*
 have hft:=λw=>canRead_c x0 x1 x2 x3 x4 w
 have hvl:∀k,v.ownBlock=some k->k<w.heap.size:=λk hk=>(h.ne hk).2
 cases q with
 |true=>
  cases e1:K.canRead ⟨x0,x1,x2,x3,x4⟩with
  |true=>
   rw[e1]at HK hft
   have e:=HK.out
   rw[if_pos (by decide)]at e
   subst e
   clear HK kn hfl
   go_enter Tryz.func203,Tryz.ntmps203
   go_wp2_with fail
   refine ht.mono ?_
   rintro x w1 ⟨rfl,hr1,hb1⟩
   go_wp2_with fail
   refine(hfi _ hr1).mono ?_
   rintro x w2 ⟨rfl,hb2⟩
   have hr2:=hr1.below hb2
   have hB2:=hb1.below hb2
   have hr3:=hr2.alloc (.cells #[.string x0,.int .i64 x1,.bool x2,.int .i64 x3,.int .i64 x4] 96 (0,0))
   have nb:=At.alloc_new w2 [.string x0,.int .i64 x1,.bool x2,.int .i64 x3,.int .i64 x4] 96
   go_wp2_with fail
   refine(hft _).mono ?_
   rintro x w3 ⟨rfl,hb3⟩
   have nb3:=nb.of_block (hb3.block _ nb.lt)
   have k0:=nb3.cell 0
   have k1:=nb3.cell 1
   have k2:=nb3.cell 2
   have k3:=nb3.cell 3
   have k4:=nb3.cell 4
   have RB:=zero_box ((hB2.alloc _).below hb3) hlt
   simp only[List.getElem?_cons_zero,List.getElem?_cons_succ]at k0 k1 k2 k3 k4
   have r0:=RB.cell 0
   have r1:=RB.cell 1
   have r2:=RB.cell 2
   have r3:=RB.cell 3
   have r4:=RB.cell 4
   simp only[List.getElem?_cons_zero,List.getElem?_cons_succ]at r0 r1 r2 r3 r4
   have q0:=RB.frozen 0
   have q1:=RB.frozen 1
   have q2:=RB.frozen 2
   have q3:=RB.frozen 3
   have q4:=RB.frozen 4
   have RZ:=((((RB.set 0 (.string x0)).set 1 (.int .i64 x1)).set 2 (.bool x2)).set 3 (.int .i64 x3)).set 4 (.int .i64 x4)
   have CZ:=put5 (hr3.below hb3) ((hB2.alloc _).below hb3) hlt hvl (.string x0) (.int .i64 x1) (.bool x2) (.int .i64 x3) (.int .i64 x4)
   go_wp2_with fail
   generalize(((((w3.setCell ⟨w.heap.size,0,none⟩ (.string x0)).setCell ⟨w.heap.size,1,none⟩ (.int .i64 x1)).setCell ⟨w.heap.size,2,none⟩ (.bool x2)).setCell ⟨w.heap.size,3,none⟩ (.int .i64 x3)).setCell ⟨w.heap.size,4,none⟩ (.int .i64 x4))=WZ at*
   have z0:WZ.cell? ⟨w.heap.size,0,none⟩=some (.string x0):=RZ.cell 0
   have z1:WZ.cell? ⟨w.heap.size,1,none⟩=some (.int .i64 x1):=RZ.cell 1
   have z2:WZ.cell? ⟨w.heap.size,2,none⟩=some (.bool x2):=RZ.cell 2
   have z3:WZ.cell? ⟨w.heap.size,3,none⟩=some (.int .i64 x3):=RZ.cell 3
   have z4:WZ.cell? ⟨w.heap.size,4,none⟩=some (.int .i64 x4):=RZ.cell 4
   exact bodyPost_ret (v:=nmV ⟨x0,x1,x2,x3,x4⟩) (by simp[results,Tryz.results203,go_sem,nmV,z0,z1,z2,z3,z4]) rfl ⟨rfl,CZ.1,CZ.2⟩
  |false=>
   rw[e1]at HK hft
   have e:=HK.out
   rw[if_neg (by decide)]at e
   subst e
   clear HK kn
   go_enter Tryz.func203,Tryz.ntmps203
   go_wp2_with fail
   refine ht.mono ?_
   rintro x w1 ⟨rfl,hr1,hb1⟩
   go_wp2_with fail
   refine(hfi _ hr1).mono ?_
   rintro x w2 ⟨rfl,hb2⟩
   have hr2:=hr1.below hb2
   have hB2:=hb1.below hb2
   have hr3:=hr2.alloc (.cells #[.string x0,.int .i64 x1,.bool x2,.int .i64 x3,.int .i64 x4] 96 (0,0))
   have nb:=At.alloc_new w2 [.string x0,.int .i64 x1,.bool x2,.int .i64 x3,.int .i64 x4] 96
   go_wp2_with fail
   refine(hft _).mono ?_
   rintro x w3 ⟨rfl,hb3⟩
   go_wp2_with fail
   refine(hfl _ (hr3.below hb3)).mono ?_
   rintro x w4 ⟨rfl,hr4,hb4⟩
   have nb3:=(nb.of_block (hb3.block _ nb.lt)).of_block (hb4.block _ (by have:=hb3.size;have:=nb.lt;omega) (by have:=hr2.cells.lt;omega))
   have k0:=nb3.cell 0
   have k1:=nb3.cell 1
   have k2:=nb3.cell 2
   have k3:=nb3.cell 3
   have k4:=nb3.cell 4
   have RB:=zero_box (((hB2.alloc _).below hb3).trans hb4) hlt
   simp only[List.getElem?_cons_zero,List.getElem?_cons_succ]at k0 k1 k2 k3 k4
   have r0:=RB.cell 0
   have r1:=RB.cell 1
   have r2:=RB.cell 2
   have r3:=RB.cell 3
   have r4:=RB.cell 4
   simp only[List.getElem?_cons_zero,List.getElem?_cons_succ]at r0 r1 r2 r3 r4
   have q0:=RB.frozen 0
   have q1:=RB.frozen 1
   have q2:=RB.frozen 2
   have q3:=RB.frozen 3
   have q4:=RB.frozen 4
   have RZ:=((((RB.set 0 (.string x0)).set 1 (.int .i64 x1)).set 2 (.bool x2)).set 3 (.int .i64 x3)).set 4 (.int .i64 x4)
   have CZ:=put5 hr4 (((hB2.alloc _).below hb3).trans hb4) hlt hvl (.string x0) (.int .i64 x1) (.bool x2) (.int .i64 x3) (.int .i64 x4)
   go_wp2_with fail
   generalize(((((w4.setCell ⟨w.heap.size,0,none⟩ (.string x0)).setCell ⟨w.heap.size,1,none⟩ (.int .i64 x1)).setCell ⟨w.heap.size,2,none⟩ (.bool x2)).setCell ⟨w.heap.size,3,none⟩ (.int .i64 x3)).setCell ⟨w.heap.size,4,none⟩ (.int .i64 x4))=WZ at*
   have z0:WZ.cell? ⟨w.heap.size,0,none⟩=some (.string x0):=RZ.cell 0
   have z1:WZ.cell? ⟨w.heap.size,1,none⟩=some (.int .i64 x1):=RZ.cell 1
   have z2:WZ.cell? ⟨w.heap.size,2,none⟩=some (.bool x2):=RZ.cell 2
   have z3:WZ.cell? ⟨w.heap.size,3,none⟩=some (.int .i64 x3):=RZ.cell 3
   have z4:WZ.cell? ⟨w.heap.size,4,none⟩=some (.int .i64 x4):=RZ.cell 4
   exact bodyPost_ret (v:=nmV ⟨x0,x1,x2,x3,x4⟩) (by simp[results,Tryz.results203,go_sem,nmV,z0,z1,z2,z3,z4]) rfl ⟨rfl,CZ.1,CZ.2⟩
 |false=>
  have e:=HK.out
  rw[Bool.false_and,if_neg (by decide)]at e
  subst e
  clear HK kn
  go_enter Tryz.func203,Tryz.ntmps203
  go_wp2_with fail
  refine ht.mono ?_
  rintro x w1 ⟨rfl,hr1,hb1⟩
  go_wp2_with fail
  refine(hfi _ hr1).mono ?_
  rintro x w2 ⟨rfl,hb2⟩
  have hr2:=hr1.below hb2
  have hB2:=hb1.below hb2
  have hr3:=hr2.alloc (.cells #[.string x0,.int .i64 x1,.bool x2,.int .i64 x3,.int .i64 x4] 96 (0,0))
  have nb:=At.alloc_new w2 [.string x0,.int .i64 x1,.bool x2,.int .i64 x3,.int .i64 x4] 96
  go_wp2_with fail
  refine(hfl _ hr3).mono ?_
  rintro x w4 ⟨rfl,hr4,hb4⟩
  have nb3:=nb.of_block (hb4.block _ nb.lt (by have:=hr2.cells.lt;omega))
  have k0:=nb3.cell 0
  have k1:=nb3.cell 1
  have k2:=nb3.cell 2
  have k3:=nb3.cell 3
  have k4:=nb3.cell 4
  have RB:=zero_box ((hB2.alloc _).trans hb4) hlt
  simp only[List.getElem?_cons_zero,List.getElem?_cons_succ]at k0 k1 k2 k3 k4
  have r0:=RB.cell 0
  have r1:=RB.cell 1
  have r2:=RB.cell 2
  have r3:=RB.cell 3
  have r4:=RB.cell 4
  simp only[List.getElem?_cons_zero,List.getElem?_cons_succ]at r0 r1 r2 r3 r4
  have q0:=RB.frozen 0
  have q1:=RB.frozen 1
  have q2:=RB.frozen 2
  have q3:=RB.frozen 3
  have q4:=RB.frozen 4
  have RZ:=((((RB.set 0 (.string x0)).set 1 (.int .i64 x1)).set 2 (.bool x2)).set 3 (.int .i64 x3)).set 4 (.int .i64 x4)
  have CZ:=put5 hr4 ((hB2.alloc _).trans hb4) hlt hvl (.string x0) (.int .i64 x1) (.bool x2) (.int .i64 x3) (.int .i64 x4)
  go_wp2_with fail
  generalize(((((w4.setCell ⟨w.heap.size,0,none⟩ (.string x0)).setCell ⟨w.heap.size,1,none⟩ (.int .i64 x1)).setCell ⟨w.heap.size,2,none⟩ (.bool x2)).setCell ⟨w.heap.size,3,none⟩ (.int .i64 x3)).setCell ⟨w.heap.size,4,none⟩ (.int .i64 x4))=WZ at*
  have z0:WZ.cell? ⟨w.heap.size,0,none⟩=some (.string x0):=RZ.cell 0
  have z1:WZ.cell? ⟨w.heap.size,1,none⟩=some (.int .i64 x1):=RZ.cell 1
  have z2:WZ.cell? ⟨w.heap.size,2,none⟩=some (.bool x2):=RZ.cell 2
  have z3:WZ.cell? ⟨w.heap.size,3,none⟩=some (.int .i64 x3):=RZ.cell 3
  have z4:WZ.cell? ⟨w.heap.size,4,none⟩=some (.int .i64 x4):=RZ.cell 4
  exact bodyPost_ret (v:=nmV ⟨x0,x1,x2,x3,x4⟩) (by simp[results,Tryz.results203,go_sem,nmV,z0,z1,z2,z3,z4]) rfl ⟨rfl,CZ.1,CZ.2⟩
end Go.Proofs.YtejbgcloblpbfaaGreatDoor
