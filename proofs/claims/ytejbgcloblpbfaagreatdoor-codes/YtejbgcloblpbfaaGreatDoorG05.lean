import Derived.Test.YtejbgcloblpbfaaGreatDoorG04
import Derived.Deep.DeepCutAuto
import Derived.Defers
set_option maxHeartbeats 2000000
namespace Go.Proofs.YtejbgcloblpbfaaGreatDoor
section
open Go.RowKit
open R (Tok tk)
open K (Nm S Scans)
theorem K.Vars.but{w w':World}{b:Nat}(h:K.Vars w)(hb:But b w w')(h2:5<=b)(hs:b<w.heap.size):K.Vars w':=by
 obtain⟨⟨e0,a1,a2⟩,⟨e1,c1,c2⟩⟩:=h
 exact⟨⟨e0,(World.cell?_of_block (hb.block 3 (by omega) (by omega))).trans a1,a2⟩,⟨e1,(World.cell?_of_block (hb.block 4 (by omega) (by omega))).trans c1,c2⟩⟩
theorem size_c{w:World}{b:Nat}{s:ByteArray}{T:List Tok}{J:S}{v:Value}(hS:Scans s T)(h:CR w b s T J v)(hv:K.Vars w)(h2:5<=b):
 Calls Tryz.prog 168 #[PT b] w λx w'=>x=.returned (.int .i64 (K.val (tk T J.i).s))/\CR w' b s T (K.take T R.isSize J) v/\But b w w':=by
 have hz:=hS.tsize h.lt
 have hlt:=h.cells.lt
 have ht:=ktake_isSize hS h R.isSize (isSize_c _ w (by omega))
 have hvo:=fun(w:World) (hv:K.Vars w)=>valueOf_c (tk T J.i).s w (by omega) hv
 generalize K.take T R.isSize J=J1 at*
 generalize tk T J.i=t at*
 obtain⟨ts,tp⟩:=t
 dsimp only at*
 generalize K.val ts=q at*
 go_enter Tryz.func168,Tryz.ntmps168
 go_wp2_with fail
 refine ht.mono ?_
 rintro x w1 ⟨rfl,hr1,hb1⟩
 go_wp2_with fail
 refine(hvo _ (hv.but hb1 h2 hlt)).mono ?_
 rintro x w2 ⟨rfl,hb2⟩
 go_wp2_with fail
 go_ret
 exact⟨rfl,hr1.below hb2,hb1.below hb2⟩
theorem K.newName_keeps(T:List Tok)(J:S):K.Keeps J (K.newName T J):=by
 unfold K.newName
 split
 · exact(K.take_keeps T _ J).trans (K.fail_keeps T _ _ _)
 · exact K.take_keeps T _ J
def K.arrS1(T:List Tok)(J:S):S:=K.step T J
def K.arrS2(T:List Tok)(J:S):S:=K.take T K.isSec (K.arrS1 T J)
def K.arrS3(T:List Tok)(J:S):S:=K.newName T (K.arrS2 T J)
def K.array(T:List Tok)(J:S):S:=K.take T R.isSize (K.arrS3 T J)
def K.arrayN(T:List Tok)(J:S):Nm:=⟨(tk T (K.arrS2 T J).i).s,1,(tk T (K.arrS1 T J).i).s.toList==[115,101,99,114,101,116],K.val (tk T (K.arrS3 T J).i).s,J.words⟩
theorem array_c{w:World}{b:Nat}{s:ByteArray}{T:List Tok}{J:S}{v:Value}(hS:Scans s T)(h:CR w b s T J v)(hv:K.Vars w)(h2:5<=b)(hn:J.names.length<=1000):
 Calls Tryz.prog 135 #[PT b] w λx w'=>x=.returned (nmV (K.arrayN T J))/\CR w' b s T (K.array T J) v/\But b w w':=by
 have h0:=h.alloc (.cells #[.string ⟨#[]⟩,.int .i64 0,.bool false,.int .i64 0,.int .i64 0] 96 (0,0))
 have hlt:=h.cells.lt
 have hvl:∀k,v.ownBlock=some k->k<w.heap.size:=λk hk=>(h.ne hk).2
 have k1:K.Keeps J (K.arrS1 T J):=K.step_keeps T J
 have k2:K.Keeps J (K.arrS2 T J):=k1.trans (K.take_keeps T _ _)
 have k3:K.Keeps J (K.arrS3 T J):=k2.trans (K.newName_keeps T _)
 have k4:K.Keeps J (K.array T J):=k3.trans (K.take_keeps T _ _)
 have HW:=hide (show(K.arrS3 T J).words=J.words/\(K.array T J).words=J.words from⟨k3.words,k4.words⟩)
 have hst:=kstep_c hS h0
 have hse:=fun(w:World) (h':CR w b s T (K.arrS1 T J) v)=>secrecy_c hS h'
 have hnn:=fun(w:World) (h':CR w b s T (K.arrS2 T J) v)=>newName_c hS h' (by rw[k2.names];exact hn)
 have hsz:=fun(w:World) (h':CR w b s T (K.arrS3 T J) v) (hv:K.Vars w)=>size_c hS h' hv h2
 have E1:K.step T J=K.arrS1 T J:=rfl
 have E2:K.take T K.isSec (K.arrS1 T J)=K.arrS2 T J:=rfl
 have E3:K.newName T (K.arrS2 T J)=K.arrS3 T J:=rfl
 have E4:K.take T R.isSize (K.arrS3 T J)=K.array T J:=rfl
 rw[E1]at hst
 rw[E2]at hse
 rw[E3]at hnn
 rw[E4]at hsz
 have HN:Hid (K.arrayN T J=⟨(tk T (K.arrS2 T J).i).s,1,(tk T (K.arrS1 T J).i).s.toList==[115,101,99,114,101,116],K.val (tk T (K.arrS3 T J).i).s,J.words⟩):=rfl
 generalize K.arrayN T J=N at*
 clear E1 E2 E3 E4 k1 k2 k3 k4
 generalize K.arrS1 T J=J1 at*
 generalize K.arrS2 T J=J2 at*
 generalize K.arrS3 T J=J3 at*
 generalize K.array T J=J4 at*
 generalize(tk T J2.i).s=tx at*
 generalize((tk T J1.i).s.toList==[115,101,99,114,101,116])=sc at*
 generalize K.val (tk T J3.i).s=sz at*
 have e:=HN.out
 subst e
 clear HN
 go_enter Tryz.func135,Tryz.ntmps135
 go_wp2_with fail
 refine hst.mono ?_
 rintro x w1 ⟨rfl,hr1,hb1⟩
 go_wp2_with fail
 refine(hse _ hr1).mono ?_
 rintro x w2 ⟨rfl,hr2,hb2⟩
 go_wp2_with fail
 refine(hnn _ hr2).mono ?_
 rintro x w3 ⟨rfl,hr3,hb3⟩
 have B3:=(hb1.trans hb2).trans hb3
 have V3:=(hv.but ((But.refl b w).alloc _) h2 hlt).but B3 h2 (by simp;omega)
 have c4:w3.cell? ⟨b,4,none⟩=some (.int .i64 J.words):=by rw[<-HW.out.1];exact hr3.c 4 _ rfl
 clear hst hse hnn hr1 hr2 hb1 hb2 hb3
 go_upto_region 4 with fail
 go_region_with (go_at_call 168;refine(hsz _ hr3.drew V3).mono ?_;rintro x w4 ⟨rfl,hr4,hb4⟩;have c4':w4.cell? ⟨b,4,none⟩=some (.int .i64 J.words):=(by rw[<-HW.out.2];exact hr4.c 4 _ rfl);have RB:=zero_box (B3.drew.trans hb4) hlt;have r0:=RB.cell 0;have r1:=RB.cell 1;have r2:=RB.cell 2;have r3:=RB.cell 3;have r4:=RB.cell 4;simp only[List.getElem?_cons_zero,List.getElem?_cons_succ]at r0 r1 r2 r3 r4;have q0:=RB.frozen 0;have q1:=RB.frozen 1;have q2:=RB.frozen 2;have q3:=RB.frozen 3;have q4:=RB.frozen 4)
 all_goals
  have RZ:=((((RB.set 0 (.string tx)).set 1 (.int .i64 1)).set 2 (.bool sc)).set 3 (.int .i64 sz)).set 4 (.int .i64 J.words)
  have CZ:=put5 hr4 (B3.drew.trans hb4) hlt hvl (.string tx) (.int .i64 1) (.bool sc) (.int .i64 sz) (.int .i64 J.words)
  go_wp2_with fail
  generalize(((((w4.setCell ⟨w.heap.size,0,none⟩ (.string tx)).setCell ⟨w.heap.size,1,none⟩ (.int .i64 1)).setCell ⟨w.heap.size,2,none⟩ (.bool sc)).setCell ⟨w.heap.size,3,none⟩ (.int .i64 sz)).setCell ⟨w.heap.size,4,none⟩ (.int .i64 J.words))=WZ at*
  have z0:WZ.cell? ⟨w.heap.size,0,none⟩=some (.string tx):=RZ.cell 0
  have z1:WZ.cell? ⟨w.heap.size,1,none⟩=some (.int .i64 1):=RZ.cell 1
  have z2:WZ.cell? ⟨w.heap.size,2,none⟩=some (.bool sc):=RZ.cell 2
  have z3:WZ.cell? ⟨w.heap.size,3,none⟩=some (.int .i64 sz):=RZ.cell 3
  have z4:WZ.cell? ⟨w.heap.size,4,none⟩=some (.int .i64 J.words):=RZ.cell 4
  exact bodyPost_ret (v:=nmV ⟨tx,1,sc,sz,J.words⟩) (by simp[results,Tryz.results135,go_sem,nmV,z0,z1,z2,z3,z4]) rfl ⟨rfl,CZ.1,CZ.2⟩
def K.dec0(T:List Tok)(p:Int)(J:S):S:=if J.names.length=8 then K.fail T 5 p J else J
def K.dec1(T:List Tok)(J:S):S:=K.take T K.isSec J
def K.dec2(T:List Tok)(J:S):S:=K.newName T (K.dec1 T J)
def K.isArr(t:Tok):Bool:=t.s.toList==[97,114,114,97,121]
def K.decl(T:List Tok)(p:Int)(J:S):S:=if K.isArr (tk T (K.dec0 T p J).i)=true then K.array T (K.dec0 T p J)else K.dec2 T (K.dec0 T p J)
def K.declN(T:List Tok)(p:Int)(J:S):Nm:=if K.isArr (tk T (K.dec0 T p J).i)=true then K.arrayN T (K.dec0 T p J)else
 ⟨(tk T (K.dec1 T (K.dec0 T p J)).i).s,0,(tk T (K.dec0 T p J).i).s.toList==[115,101,99,114,101,116],1,J.words⟩
theorem K.dec0_keeps(T:List Tok)(p:Int)(J:S):K.Keeps J (K.dec0 T p J):=by
 unfold K.dec0
 split
 · exact K.fail_keeps T _ _ _
 · exact K.Keeps.rfl' J
theorem CR.len{w:World}{b:Nat}{s:ByteArray}{T:List Tok}{J:S}{v:Value}(h:CR w b s T J v):∃a c,v=.slice a J.names.length c:=by
 rcases h.row with⟨rfl,h0⟩|⟨g,cap,rfl,_⟩
 · exact⟨none,0,by rw[h0]⟩
 · exact⟨_,_,rfl⟩
theorem kdecl_c{w:World}{b:Nat}{s:ByteArray}{T:List Tok}{J:S}{v:Value}(hS:Scans s T)(h:CR w b s T J v)(hv:K.Vars w)(h2:5<=b)(hn:J.names.length<=1000)(p:Int):
 Calls Tryz.prog 105 #[PT b,.int .i64 p] w λx w'=>x=.returned (nmV (K.declN T p J))/\CR w' b s T (K.decl T p J) v/\But b w w':=by
 have h0:=h.alloc (.cells #[.string ⟨#[]⟩,.int .i64 0,.bool false,.int .i64 0,.int .i64 0] 96 (0,0))
 have hlt:=h.cells.lt
 have hvl:∀k,v.ownBlock=some k->k<w.heap.size:=λk hk=>(h.ne hk).2
 have V0:=hv.but ((But.refl b w).alloc (.cells #[.string ⟨#[]⟩,.int .i64 0,.bool false,.int .i64 0,.int .i64 0] 96 (0,0))) h2 hlt
 have k0:=K.dec0_keeps T p J
 obtain⟨va,vc,hvv⟩:=h.len
 have c3:w.cell? ⟨b,3,none⟩=some (.slice va J.names.length vc):=by rw[<-hvv];exact h.c 3 _ rfl
 have HVV:=hide hvv
 clear hvv
 have hfl:=kfail_c hS h0 5 p
 have harr:=fun(w:World) (h':CR w b s T (K.dec0 T p J) v) (hv:K.Vars w)=>array_c hS h' hv h2 (by rw[k0.names];exact hn)
 have hse:=fun(w:World) (h':CR w b s T (K.dec0 T p J) v)=>secrecy_c hS h'
 have k1:K.Keeps J (K.dec1 T (K.dec0 T p J)):=k0.trans (K.take_keeps T _ _)
 have k2:K.Keeps J (K.dec2 T (K.dec0 T p J)):=k1.trans (K.newName_keeps T _)
 have hnn:=fun(w:World) (h':CR w b s T (K.dec1 T (K.dec0 T p J)) v)=>newName_c hS h' (by rw[k1.names];exact hn)
 have E1:K.take T K.isSec (K.dec0 T p J)=K.dec1 T (K.dec0 T p J):=rfl
 have E2:K.newName T (K.dec1 T (K.dec0 T p J))=K.dec2 T (K.dec0 T p J):=rfl
 rw[E1]at hse
 rw[E2]at hnn
 have HW:=hide (show(K.dec1 T (K.dec0 T p J)).words=J.words/\(K.dec2 T (K.dec0 T p J)).words=J.words from⟨k1.words,k2.words⟩)
 have HD:Hid (K.decl T p J=if K.isArr (tk T (K.dec0 T p J).i)=true then K.array T (K.dec0 T p J)else K.dec2 T (K.dec0 T p J)):=rfl
 have HN:Hid (K.declN T p J=if K.isArr (tk T (K.dec0 T p J).i)=true then K.arrayN T (K.dec0 T p J)else⟨(tk T (K.dec1 T (K.dec0 T p J)).i).s,0,(tk T (K.dec0 T p J).i).s.toList==[115,101,99,114,101,116],1,J.words⟩):=rfl
 have H0:Hid (K.dec0 T p J=if J.names.length=8 then K.fail T 5 p J else J):=rfl
 generalize K.decl T p J=JD at*
 generalize K.declN T p J=N at*
 generalize K.dec0 T p J=J0 at*
 generalize K.dec1 T J0=J1 at*
 generalize K.dec2 T J0=J2 at*
 clear E1 E2 k0 k1 k2
 go_enter Tryz.func105,Tryz.ntmps105
 go_upto_if 11 with fail
 go_cut [11] (λ_ wr=>CR wr b s T J0 v/\But b (w.alloc (.cells #[.string ⟨#[]⟩,.int .i64 0,.bool false,.int .i64 0,.int .i64 0] 96 (0,0))) wr)
 case first=>
  by_cases h8:J.names.length=8
  · have e:=H0.out
    rw[if_pos h8]at e
    subst e
    have h8':((J.names.length:Int)==8)=true:=beq_yes (by omega)
    rw[h8']
    go_wp2_with fail
    refine hfl.mono ?_
    rintro x w1 ⟨rfl,hr1,hb1⟩
    go_wp2_with fail
    go_meet
    case rel=>exact⟨hr1,hb1⟩
  · have e:=H0.out
    rw[if_neg h8]at e
    subst e
    have h8':((J0.names.length:Int)==8)=false:=beq_no (by omega)
    rw[h8']
    go_wp2_with fail
    go_meet
    case rel=>exact⟨h0,But.refl _ _⟩
 case rest=>
  obtain⟨hr0,hb0⟩:=hcut
  have V1:=V0.but hb0 h2 (by simp;omega)
  have c1:=hr0.c 1 _ rfl
  clear hfl H0 c3
  cases ea:K.isArr (tk T J0.i)with
  |true=>
   have ea':((tk T J0.i).s.toList==[97,114,114,97,121])=true:=ea
   have hA:=harr _ hr0 V1
   rw[ea,if_pos rfl]at HD HN
   clear harr
   generalize K.arrayN T J0=NA at*
   obtain⟨x0,x1,x2,x3,x4⟩:=NA
   unfold nmV at hA
   dsimp only at*
   generalize K.array T J0=JA at*
   generalize tk T J0.i=t0 at*
   go_wp2_with fail
   refine hA.mono ?_
   rintro x w2 ⟨rfl,hr2,hb2⟩
   have B2:=hb0.trans hb2
   have RB:=zero_box B2 hlt
   have r0:=RB.cell 0
   have r1:=RB.cell 1
   have r2:=RB.cell 2
   have r3:=RB.cell 3
   have r4:=RB.cell 4
   simp only[List.getElem?_cons_zero,List.getElem?_cons_succ]at r0 r1 r2 r3 r4
   have q0:=RB.frozen 0
   have q1:=RB.frozen 1
   have q2:=RB.frozen 2
   have q3:=RB.frozen 3
   have q4:=RB.frozen 4
   have RZ:=(((((RB.set 0 (.string x0)).set 1 (.int .i64 x1)).set 2 (.bool x2)).set 3 (.int .i64 x3)).set 4 (.int .i64 x4))
   have CZ:=put5 hr2 B2 hlt hvl (.string x0) (.int .i64 x1) (.bool x2) (.int .i64 x3) (.int .i64 x4)
   go_wp2_with fail
   generalize(((((w2.setCell ⟨w.heap.size,0,none⟩ (.string x0)).setCell ⟨w.heap.size,1,none⟩ (.int .i64 x1)).setCell ⟨w.heap.size,2,none⟩ (.bool x2)).setCell ⟨w.heap.size,3,none⟩ (.int .i64 x3)).setCell ⟨w.heap.size,4,none⟩ (.int .i64 x4))=WZ at*
   have z0:WZ.cell? ⟨w.heap.size,0,none⟩=some (.string x0):=RZ.cell 0
   have z1:WZ.cell? ⟨w.heap.size,1,none⟩=some (.int .i64 x1):=RZ.cell 1
   have z2:WZ.cell? ⟨w.heap.size,2,none⟩=some (.bool x2):=RZ.cell 2
   have z3:WZ.cell? ⟨w.heap.size,3,none⟩=some (.int .i64 x3):=RZ.cell 3
   have z4:WZ.cell? ⟨w.heap.size,4,none⟩=some (.int .i64 x4):=RZ.cell 4
   rw[HD.out,HN.out]
   exact bodyPost_ret (v:=nmV ⟨x0,x1,x2,x3,x4⟩) (by simp[results,Tryz.results105,go_sem,nmV,z0,z1,z2,z3,z4]) rfl ⟨rfl,CZ.1,CZ.2⟩
  |false=>
   have ea':((tk T J0.i).s.toList==[97,114,114,97,121])=false:=ea
   rw[ea,if_neg (by decide)]at HD HN
   clear harr
   have hse':=hse _ hr0
   generalize((tk T J0.i).s.toList==[115,101,99,114,101,116])=sc at*
   generalize tk T J0.i=t0 at*
   generalize(tk T J1.i).s=tx at*
   go_wp2_with fail
   refine hse'.mono ?_
   rintro x w2 ⟨rfl,hr2,hb2⟩
   have B2:=hb0.trans hb2
   have c4:w2.cell? ⟨b,4,none⟩=some (.int .i64 J.words):=by rw[<-HW.out.1];exact hr2.c 4 _ rfl
   go_upto_region 6 with fail
   go_region_with (go_at_call 137;refine(hnn _ hr2.drew).mono ?_;rintro x w4 ⟨rfl,hr4,hb4⟩;have c4':w4.cell? ⟨b,4,none⟩=some (.int .i64 J.words):=(by rw[<-HW.out.2];exact hr4.c 4 _ rfl);have RB:=zero_box (B2.drew.trans hb4) hlt;have r0:=RB.cell 0;have r1:=RB.cell 1;have r2:=RB.cell 2;have r3:=RB.cell 3;have r4:=RB.cell 4;simp only[List.getElem?_cons_zero,List.getElem?_cons_succ]at r0 r1 r2 r3 r4;have q0:=RB.frozen 0;have q1:=RB.frozen 1;have q2:=RB.frozen 2;have q3:=RB.frozen 3;have q4:=RB.frozen 4)
   all_goals
    have RZ:=(((((RB.set 0 (.string tx)).set 1 (.int .i64 0)).set 2 (.bool sc)).set 3 (.int .i64 1)).set 4 (.int .i64 J.words))
    have CZ:=put5 hr4 (B2.drew.trans hb4) hlt hvl (.string tx) (.int .i64 0) (.bool sc) (.int .i64 1) (.int .i64 J.words)
    go_wp2_with fail
    generalize(((((w4.setCell ⟨w.heap.size,0,none⟩ (.string tx)).setCell ⟨w.heap.size,1,none⟩ (.int .i64 0)).setCell ⟨w.heap.size,2,none⟩ (.bool sc)).setCell ⟨w.heap.size,3,none⟩ (.int .i64 1)).setCell ⟨w.heap.size,4,none⟩ (.int .i64 J.words))=WZ at*
    have z0:WZ.cell? ⟨w.heap.size,0,none⟩=some (.string tx):=RZ.cell 0
    have z1:WZ.cell? ⟨w.heap.size,1,none⟩=some (.int .i64 0):=RZ.cell 1
    have z2:WZ.cell? ⟨w.heap.size,2,none⟩=some (.bool sc):=RZ.cell 2
    have z3:WZ.cell? ⟨w.heap.size,3,none⟩=some (.int .i64 1):=RZ.cell 3
    have z4:WZ.cell? ⟨w.heap.size,4,none⟩=some (.int .i64 J.words):=RZ.cell 4
    rw[HD.out,HN.out]
    exact bodyPost_ret (v:=nmV ⟨tx,0,sc,1,J.words⟩) (by simp[results,Tryz.results105,go_sem,nmV,z0,z1,z2,z3,z4]) rfl ⟨rfl,CZ.1,CZ.2⟩
structure ButV(b:Nat)(v:Value)(w w':World):Prop where
 os:w'.os=w.os
 tape:w'.tape=w.tape
 output:w'.output=w.output
 size:w.heap.size<=w'.heap.size
 block:∀k,k<w.heap.size->k≠b->v.ownBlock≠some k->w'.heap[k]?=w.heap[k]?
theorem But.toV{b:Nat}{w w':World}(h:But b w w')(v:Value):ButV b v w w':=⟨h.os,h.tape,h.output,h.size,λk hk hb _=>h.block k hk hb⟩
theorem ButV.refl(b:Nat)(v:Value)(w:World):ButV b v w w:=(But.refl b w).toV v
theorem ButV.trans{b:Nat}{v:Value}{a c d:World}(h:ButV b v a c)(k:ButV b v c d):ButV b v a d:=
 ⟨k.os.trans h.os,k.tape.trans h.tape,k.output.trans h.output,Nat.le_trans h.size k.size,λi hi ne nv=>(k.block i (Nat.lt_of_lt_of_le hi h.size) ne nv).trans (h.block i hi ne nv)⟩
theorem K.Vars.butV{w w':World}{b:Nat}{v:Value}(h:K.Vars w)(hb:ButV b v w w')(h2:5<=b)(hs:b<w.heap.size)(hv:∀k,v.ownBlock=some k->5<=k):K.Vars w':=by
 obtain⟨⟨e0,a1,a2⟩,⟨e1,c1,c2⟩⟩:=h
 exact⟨⟨e0,(World.cell?_of_block (hb.block 3 (by omega) (by omega) (λe=>by have:=hv 3 e;omega))).trans a1,a2⟩,⟨e1,(World.cell?_of_block (hb.block 4 (by omega) (by omega) (λe=>by have:=hv 4 e;omega))).trans c1,c2⟩⟩
def K.op1(T:List Tok)(J:S):S:=K.expect T [40] J
def K.op2(T:List Tok)(J:S):S:=if(K.op1 T J).depth=10 then K.fail T 6 (tk T J.i).p (K.op1 T J)else K.op1 T J
def K.deeper(d:Int)(J:S):S:={J with depth:=J.depth+d}
def K.opened(T:List Tok)(J:S):S:=K.deeper 1 (K.op2 T J)
def K.cl1(T:List Tok)(J:S):S:=K.expect T [41] J
def K.closed(T:List Tok)(J:S):S:=K.deeper (-1) (K.cl1 T J)
theorem K.op1_keeps(T:List Tok)(J:S):K.Keeps J (K.op1 T J):=K.expect_keeps T _ J
theorem K.op2_keeps(T:List Tok)(J:S):K.Keeps J (K.op2 T J):=by
 unfold K.op2
 split
 · exact(K.op1_keeps T J).trans (K.fail_keeps T _ _ _)
 · exact K.op1_keeps T J
theorem K.cl1_keeps(T:List Tok)(J:S):K.Keeps J (K.cl1 T J):=K.expect_keeps T _ J
theorem CR.depth{w:World}{b:Nat}{s:ByteArray}{T:List Tok}{J:S}{v:Value}(h:CR w b s T J v)(d:Int):CR (w.setCell ⟨b,5,none⟩ (.int .i64 (J.depth+d))) b s T (K.deeper d J) v/\But b w (w.setCell ⟨b,5,none⟩ (.int .i64 (J.depth+d))):=
 ⟨h.turn (h.cells.set 5 _) ((But.refl b w).set 5 _) rfl h.lt,(But.refl b w).set 5 _⟩
theorem list40:ByteArray.toList ⟨#[40]⟩=[40]:=by decide +kernel
theorem list41:ByteArray.toList ⟨#[41]⟩=[41]:=by decide +kernel
theorem less_expr(q b:Nat)(d:Int)(u:FrameMode)(w:World)(hd:0<=d/\d<=100)(cq:w.cell? ⟨q,0,none⟩=some (PT b))(c5:w.cell? ⟨b,5,none⟩=some (.int .i64 d))(f5:w.frozen? ⟨b,5,none⟩=false):
 CallsD Tryz.prog 225 #[.pointer (some ⟨q,0,none⟩)] u w λe u' w'=>u'=u/\(e=.returned (.tuple #[])/\w'=w.setCell ⟨b,5,none⟩ (.int .i64 (d+ -1))):=by
 obtain⟨d0,d1⟩:=hd
 have e:d-1=d+ -1:=by omega
 have HE:=hide e
 clear e
 go_enter_d Tryz.func225,Tryz.ntmps225
 go_wp2
 go_end0
 exact⟨rfl,by rw[<-HE.out]⟩
theorem inBr_expr{w:World}{b:Nat}{s:ByteArray}{T:List Tok}{J J4:S}{v:Value}(hS:Scans s T)(h:CR w b s T J v)(d0:0<=J.depth)(d1:J.depth<=50)(hd4:J4.depth=J.depth+1)(Res:World->Value->Prop)(hI:∀w1,CR w1 b s T (K.opened T J) v->But b w w1->Calls Tryz.prog 218 #[PT b,.int .i64 (tk T J.i).p] w1 λx w'=>∃rv,x=.returned rv/\Res w' rv/\CR w' b s T J4 v/\ButV b v w1 w')(hp:∀w1 w2 rv,w.heap.size<=w1.heap.size->ButV b v w1 w2->Res w1 rv->Res w2 rv):
 Calls Tryz.prog 217 #[PT b,.func (.func 218) #[PT b] #[]] w λx w'=>∃rv,x=.returned rv/\Res w' rv/\CR w' b s T (K.closed T J4) v/\ButV b v w w':=by
 have hmf:∀(fn:Fn) (first cap:Array Value) (w:World),(Instr.makeFunc fn first cap).run Tryz.prog w=.ok (.func fn first cap) w:=λ_ _ _ _=>rfl
 have h0:=h.alloc (.cells #[PT b] 134 (0,0))
 have hlt:=h.cells.lt
 have hvl:∀k,v.ownBlock=some k->k<w.heap.size:=λk hk=>(h.ne hk).2
 have nq:w.heap.size≠b:=by omega
 have q0:=At.alloc_new w [PT b] 134
 have c2:=h.c 2 _ rfl
 have hex:=expect_c hS h0 ⟨#[40]⟩
 rw[list40]at hex
 have E1:K.expect T [40] J=K.op1 T J:=rfl
 rw[E1]at hex
 have hfl:=fun(w':World) (h':CR w' b s T (K.op1 T J) v)=>kfail_c hS h' 6 (tk T J.i).p
 have hcl:=fun(w':World) (h':CR w' b s T J4 v)=>expect_c hS h' ⟨#[41]⟩
 rw[list41]at hcl
 have E2:K.expect T [41] J4=K.cl1 T J4:=rfl
 rw[E2]at hcl
 have HO:Hid (K.op2 T J=if(K.op1 T J).depth=10 then K.fail T 6 (tk T J.i).p (K.op1 T J)else K.op1 T J):=rfl
 have HOP:Hid (K.opened T J=K.deeper 1 (K.op2 T J)):=rfl
 have HCL:Hid (K.closed T J4=K.deeper (-1) (K.cl1 T J4)):=rfl
 have kd1:Hid ((K.op1 T J).depth=J.depth):=(K.op1_keeps T J).depth
 have kd2:Hid ((K.op2 T J).depth=J.depth):=(K.op2_keeps T J).depth
 have kd4:Hid ((K.cl1 T J4).depth=J.depth+1):=(K.cl1_keeps T J4).depth.trans hd4
 generalize K.opened T J=J3 at*
 generalize K.closed T J4=J6 at*
 generalize K.op2 T J=J2 at*
 generalize K.op1 T J=J1 at*
 generalize K.cl1 T J4=J5 at*
 generalize(tk T J.i).p=tp at*
 clear E1 E2 hd4
 go_enter_defers Tryz.func217,Tryz.ntmps217
 go_wp2_with fail
 refine hex.mono ?_
 rintro x w1 ⟨rfl,hr1,hb1⟩
 have qa:=q0.of_block (hb1.block _ q0.lt nq)
 have qc:=qa.cell 0
 have c5:=hr1.c 5 _ rfl
 simp only[List.getElem?_cons_zero]at qc
 clear hex
 go_upto_if 18 with fail
 go_cut [18]from 19 to 21 (λ_ wr=>CR wr b s T J2 v/\But b (w.alloc (.cells #[PT b] 134 (0,0))) wr)
 case first=>
  by_cases h10:J1.depth=10
  · have e:=HO.out
    rw[if_pos h10]at e
    have HE:=hide e
    have h10':=beq_yes h10
    clear e h10
    rw[h10']
    go_wp2_with fail
    refine(hfl _ hr1).mono ?_
    rintro x w2 ⟨rfl,hr2,hb2⟩
    go_wp2_with fail
    go_meet
    case rel=>rw[HE.out];exact⟨hr2,hb1.trans hb2⟩
  · have e:=HO.out
    rw[if_neg h10]at e
    have HE:=hide e
    have h10':=beq_no h10
    clear e h10
    rw[h10']
    go_wp2_with fail
    go_meet
    case rel=>rw[HE.out];exact⟨hr1,hb1⟩
 case rest=>
  obtain⟨hr2,hb2⟩:=hcut
  clear hr1 hb1 qa qc c5 hfl HO
  have qa:=q0.of_block (hb2.block _ q0.lt nq)
  have qc:=qa.cell 0
  simp only[List.getElem?_cons_zero]at qc
  have c5:wc.cell? ⟨b,5,none⟩=some (.int .i64 J.depth):=by rw[<-kd2.out];exact hr2.c 5 _ rfl
  have f5:=hr2.cells.frozen 5
  have D:=hr2.depth 1
  rw[kd2.out,<-HOP.out]at D
  go_wp2_with fail
  generalize wc.setCell ⟨b,5,none⟩ (.int .i64 (J.depth+1))=w3 at*
  have B3:=hb2.trans D.2
  have qa3:=q0.of_block (B3.block _ q0.lt nq)
  refine(hI _ D.1 (((But.refl b w).alloc _).trans B3)).mono ?_
  rintro x w4 ⟨rv,rfl,hres,hr4,hb4⟩
  have B4:=(B3.toV v).trans hb4
  have qa4:=q0.of_block (B4.block _ q0.lt nq (λe=>by have:=hvl _ e;omega))
  have qc4:=qa4.cell 0
  simp only[List.getElem?_cons_zero]at qc4
  clear hI D qc c5 f5 qa hr2 hb2
  go_wp2_with fail
  refine(hcl _ hr4).mono ?_
  rintro x w5 ⟨rfl,hr5,hb5⟩
  have B5:=B4.trans (hb5.toV v)
  have qa5:=q0.of_block (B5.block _ q0.lt nq (λe=>by have:=hvl _ e;omega))
  have qc5:=qa5.cell 0
  simp only[List.getElem?_cons_zero]at qc5
  have x5:w5.cell? ⟨b,5,none⟩=some (.int .i64 (J.depth+1)):=by rw[<-kd4.out];exact hr5.c 5 _ rfl
  have y5:=hr5.cells.frozen 5
  have D5:=hr5.depth (-1)
  rw[kd4.out,<-HCL.out]at D5
  go_wp2_with fail
  refine leaves_cons (f:=225) (args:=#[.pointer (some ⟨w.heap.size,0,none⟩)]) (by simp) (by simp[go_sem]) ?_
  refine(less_expr w.heap.size b (J.depth+1) .returning _ ⟨by omega,by omega⟩ qc5 x5 y5).mono ?_
  rintro e u' w6 ⟨rfl,rfl,rfl⟩
  refine⟨_,results_tmp rfl _ _ _,rv,rfl,?_,D5.1,?_⟩
  · exact hp _ _ _ (by have:=B5.size;simp at this;omega) (D5.2.toV v) (hp _ _ _ (by have:=B4.size;simp at this;omega) (hb5.toV v) hres)
  · exact((((But.refl b w).alloc _).toV v).trans B5).trans (D5.2.toV v)
theorem less_do(q b:Nat)(d:Int)(u:FrameMode)(w:World)(hd:0<=d/\d<=100)(cq:w.cell? ⟨q,0,none⟩=some (PT b))(c5:w.cell? ⟨b,5,none⟩=some (.int .i64 d))(f5:w.frozen? ⟨b,5,none⟩=false):
 CallsD Tryz.prog 172 #[.pointer (some ⟨q,0,none⟩)] u w λe u' w'=>u'=u/\(e=.returned (.tuple #[])/\w'=w.setCell ⟨b,5,none⟩ (.int .i64 (d+ -1))):=by
 obtain⟨d0,d1⟩:=hd
 have e:d-1=d+ -1:=by omega
 have HE:=hide e
 clear e
 go_enter_d Tryz.func172,Tryz.ntmps172
 go_wp2
 go_end0
 exact⟨rfl,by rw[<-HE.out]⟩
theorem inBr_do{w:World}{b:Nat}{s:ByteArray}{T:List Tok}{J J4:S}{v:Value}(hS:Scans s T)(h:CR w b s T J v)(d0:0<=J.depth)(d1:J.depth<=50)(hd4:J4.depth=J.depth+1)(Res:World->Value->Prop)(hI:∀w1,CR w1 b s T (K.opened T J) v->But b w w1->Calls Tryz.prog 139 #[PT b,.int .i64 (tk T J.i).p] w1 λx w'=>∃rv,x=.returned rv/\Res w' rv/\CR w' b s T J4 v/\ButV b v w1 w')(hp:∀w1 w2 rv,w.heap.size<=w1.heap.size->ButV b v w1 w2->Res w1 rv->Res w2 rv):
 Calls Tryz.prog 138 #[PT b,.func (.func 139) #[PT b] #[]] w λx w'=>∃rv,x=.returned rv/\Res w' rv/\CR w' b s T (K.closed T J4) v/\ButV b v w w':=by
 have hmf:∀(fn:Fn) (first cap:Array Value) (w:World),(Instr.makeFunc fn first cap).run Tryz.prog w=.ok (.func fn first cap) w:=λ_ _ _ _=>rfl
 have h0:=h.alloc (.cells #[PT b] 134 (0,0))
 have hlt:=h.cells.lt
 have hvl:∀k,v.ownBlock=some k->k<w.heap.size:=λk hk=>(h.ne hk).2
 have nq:w.heap.size≠b:=by omega
 have q0:=At.alloc_new w [PT b] 134
 have c2:=h.c 2 _ rfl
 have hex:=expect_c hS h0 ⟨#[40]⟩
 rw[list40]at hex
 have E1:K.expect T [40] J=K.op1 T J:=rfl
 rw[E1]at hex
 have hfl:=fun(w':World) (h':CR w' b s T (K.op1 T J) v)=>kfail_c hS h' 6 (tk T J.i).p
 have hcl:=fun(w':World) (h':CR w' b s T J4 v)=>expect_c hS h' ⟨#[41]⟩
 rw[list41]at hcl
 have E2:K.expect T [41] J4=K.cl1 T J4:=rfl
 rw[E2]at hcl
 have HO:Hid (K.op2 T J=if(K.op1 T J).depth=10 then K.fail T 6 (tk T J.i).p (K.op1 T J)else K.op1 T J):=rfl
 have HOP:Hid (K.opened T J=K.deeper 1 (K.op2 T J)):=rfl
 have HCL:Hid (K.closed T J4=K.deeper (-1) (K.cl1 T J4)):=rfl
 have kd1:Hid ((K.op1 T J).depth=J.depth):=(K.op1_keeps T J).depth
 have kd2:Hid ((K.op2 T J).depth=J.depth):=(K.op2_keeps T J).depth
 have kd4:Hid ((K.cl1 T J4).depth=J.depth+1):=(K.cl1_keeps T J4).depth.trans hd4
 generalize K.opened T J=J3 at*
 generalize K.closed T J4=J6 at*
 generalize K.op2 T J=J2 at*
 generalize K.op1 T J=J1 at*
 generalize K.cl1 T J4=J5 at*
 generalize(tk T J.i).p=tp at*
 clear E1 E2 hd4
 go_enter_defers Tryz.func138,Tryz.ntmps138
 go_wp2_with fail
 refine hex.mono ?_
 rintro x w1 ⟨rfl,hr1,hb1⟩
 have qa:=q0.of_block (hb1.block _ q0.lt nq)
 have qc:=qa.cell 0
 have c5:=hr1.c 5 _ rfl
 simp only[List.getElem?_cons_zero]at qc
 clear hex
 go_upto_if 18 with fail
 go_cut [18]from 19 to 21 (λ_ wr=>CR wr b s T J2 v/\But b (w.alloc (.cells #[PT b] 134 (0,0))) wr)
 case first=>
  by_cases h10:J1.depth=10
  · have e:=HO.out
    rw[if_pos h10]at e
    have HE:=hide e
    have h10':=beq_yes h10
    clear e h10
    rw[h10']
    go_wp2_with fail
    refine(hfl _ hr1).mono ?_
    rintro x w2 ⟨rfl,hr2,hb2⟩
    go_wp2_with fail
    go_meet
    case rel=>rw[HE.out];exact⟨hr2,hb1.trans hb2⟩
  · have e:=HO.out
    rw[if_neg h10]at e
    have HE:=hide e
    have h10':=beq_no h10
    clear e h10
    rw[h10']
    go_wp2_with fail
    go_meet
    case rel=>rw[HE.out];exact⟨hr1,hb1⟩
 case rest=>
  obtain⟨hr2,hb2⟩:=hcut
  clear hr1 hb1 qa qc c5 hfl HO
  have qa:=q0.of_block (hb2.block _ q0.lt nq)
  have qc:=qa.cell 0
  simp only[List.getElem?_cons_zero]at qc
  have c5:wc.cell? ⟨b,5,none⟩=some (.int .i64 J.depth):=by rw[<-kd2.out];exact hr2.c 5 _ rfl
  have f5:=hr2.cells.frozen 5
  have D:=hr2.depth 1
  rw[kd2.out,<-HOP.out]at D
  go_wp2_with fail
  generalize wc.setCell ⟨b,5,none⟩ (.int .i64 (J.depth+1))=w3 at*
  have B3:=hb2.trans D.2
  have qa3:=q0.of_block (B3.block _ q0.lt nq)
  refine(hI _ D.1 (((But.refl b w).alloc _).trans B3)).mono ?_
  rintro x w4 ⟨rv,rfl,hres,hr4,hb4⟩
  have B4:=(B3.toV v).trans hb4
  have qa4:=q0.of_block (B4.block _ q0.lt nq (λe=>by have:=hvl _ e;omega))
  have qc4:=qa4.cell 0
  simp only[List.getElem?_cons_zero]at qc4
  clear hI D qc c5 f5 qa hr2 hb2
  go_wp2_with fail
  refine(hcl _ hr4).mono ?_
  rintro x w5 ⟨rfl,hr5,hb5⟩
  have B5:=B4.trans (hb5.toV v)
  have qa5:=q0.of_block (B5.block _ q0.lt nq (λe=>by have:=hvl _ e;omega))
  have qc5:=qa5.cell 0
  simp only[List.getElem?_cons_zero]at qc5
  have x5:w5.cell? ⟨b,5,none⟩=some (.int .i64 (J.depth+1)):=by rw[<-kd4.out];exact hr5.c 5 _ rfl
  have y5:=hr5.cells.frozen 5
  have D5:=hr5.depth (-1)
  rw[kd4.out,<-HCL.out]at D5
  go_wp2_with fail
  refine leaves_cons (f:=172) (args:=#[.pointer (some ⟨w.heap.size,0,none⟩)]) (by simp) (by simp[go_sem]) ?_
  refine(less_do w.heap.size b (J.depth+1) .returning _ ⟨by omega,by omega⟩ qc5 x5 y5).mono ?_
  rintro e u' w6 ⟨rfl,rfl,rfl⟩
  refine⟨_,results_tmp rfl _ _ _,rv,rfl,?_,D5.1,?_⟩
  · exact hp _ _ _ (by have:=B5.size;simp at this;omega) (D5.2.toV v) (hp _ _ _ (by have:=B4.size;simp at this;omega) (hb5.toV v) hres)
  · exact((((But.refl b w).alloc _).toV v).trans B5).trans (D5.2.toV v)
theorem less_side(q b:Nat)(d:Int)(u:FrameMode)(w:World)(hd:0<=d/\d<=100)(cq:w.cell? ⟨q,0,none⟩=some (PT b))(c5:w.cell? ⟨b,5,none⟩=some (.int .i64 d))(f5:w.frozen? ⟨b,5,none⟩=false):
 CallsD Tryz.prog 221 #[.pointer (some ⟨q,0,none⟩)] u w λe u' w'=>u'=u/\(e=.returned (.tuple #[])/\w'=w.setCell ⟨b,5,none⟩ (.int .i64 (d+ -1))):=by
 obtain⟨d0,d1⟩:=hd
 have e:d-1=d+ -1:=by omega
 have HE:=hide e
 clear e
 go_enter_d Tryz.func221,Tryz.ntmps221
 go_wp2
 go_end0
 exact⟨rfl,by rw[<-HE.out]⟩
theorem inBr_side{w:World}{b:Nat}{s:ByteArray}{T:List Tok}{J J4:S}{v:Value}(hS:Scans s T)(h:CR w b s T J v)(d0:0<=J.depth)(d1:J.depth<=50)(hd4:J4.depth=J.depth+1)(Res:World->Value->Prop)(hI:∀w1,CR w1 b s T (K.opened T J) v->But b w w1->Calls Tryz.prog 208 #[PT b,.int .i64 (tk T J.i).p] w1 λx w'=>∃rv,x=.returned rv/\Res w' rv/\CR w' b s T J4 v/\ButV b v w1 w')(hp:∀w1 w2 rv,w.heap.size<=w1.heap.size->ButV b v w1 w2->Res w1 rv->Res w2 rv):
 Calls Tryz.prog 207 #[PT b,.func (.func 208) #[PT b] #[]] w λx w'=>∃rv,x=.returned rv/\Res w' rv/\CR w' b s T (K.closed T J4) v/\ButV b v w w':=by
 have hmf:∀(fn:Fn) (first cap:Array Value) (w:World),(Instr.makeFunc fn first cap).run Tryz.prog w=.ok (.func fn first cap) w:=λ_ _ _ _=>rfl
 have h0:=h.alloc (.cells #[PT b] 134 (0,0))
 have hlt:=h.cells.lt
 have hvl:∀k,v.ownBlock=some k->k<w.heap.size:=λk hk=>(h.ne hk).2
 have nq:w.heap.size≠b:=by omega
 have q0:=At.alloc_new w [PT b] 134
 have c2:=h.c 2 _ rfl
 have hex:=expect_c hS h0 ⟨#[40]⟩
 rw[list40]at hex
 have E1:K.expect T [40] J=K.op1 T J:=rfl
 rw[E1]at hex
 have hfl:=fun(w':World) (h':CR w' b s T (K.op1 T J) v)=>kfail_c hS h' 6 (tk T J.i).p
 have hcl:=fun(w':World) (h':CR w' b s T J4 v)=>expect_c hS h' ⟨#[41]⟩
 rw[list41]at hcl
 have E2:K.expect T [41] J4=K.cl1 T J4:=rfl
 rw[E2]at hcl
 have HO:Hid (K.op2 T J=if(K.op1 T J).depth=10 then K.fail T 6 (tk T J.i).p (K.op1 T J)else K.op1 T J):=rfl
 have HOP:Hid (K.opened T J=K.deeper 1 (K.op2 T J)):=rfl
 have HCL:Hid (K.closed T J4=K.deeper (-1) (K.cl1 T J4)):=rfl
 have kd1:Hid ((K.op1 T J).depth=J.depth):=(K.op1_keeps T J).depth
 have kd2:Hid ((K.op2 T J).depth=J.depth):=(K.op2_keeps T J).depth
 have kd4:Hid ((K.cl1 T J4).depth=J.depth+1):=(K.cl1_keeps T J4).depth.trans hd4
 generalize K.opened T J=J3 at*
 generalize K.closed T J4=J6 at*
 generalize K.op2 T J=J2 at*
 generalize K.op1 T J=J1 at*
 generalize K.cl1 T J4=J5 at*
 generalize(tk T J.i).p=tp at*
 clear E1 E2 hd4
 go_enter_defers Tryz.func207,Tryz.ntmps207
 go_wp2_with fail
 refine hex.mono ?_
 rintro x w1 ⟨rfl,hr1,hb1⟩
 have qa:=q0.of_block (hb1.block _ q0.lt nq)
 have qc:=qa.cell 0
 have c5:=hr1.c 5 _ rfl
 simp only[List.getElem?_cons_zero]at qc
 clear hex
 go_upto_if 18 with fail
 go_cut [18]from 19 to 21 (λ_ wr=>CR wr b s T J2 v/\But b (w.alloc (.cells #[PT b] 134 (0,0))) wr)
 case first=>
  by_cases h10:J1.depth=10
  · have e:=HO.out
    rw[if_pos h10]at e
    have HE:=hide e
    have h10':=beq_yes h10
    clear e h10
    rw[h10']
    go_wp2_with fail
    refine(hfl _ hr1).mono ?_
    rintro x w2 ⟨rfl,hr2,hb2⟩
    go_wp2_with fail
    go_meet
    case rel=>rw[HE.out];exact⟨hr2,hb1.trans hb2⟩
  · have e:=HO.out
    rw[if_neg h10]at e
    have HE:=hide e
    have h10':=beq_no h10
    clear e h10
    rw[h10']
    go_wp2_with fail
    go_meet
    case rel=>rw[HE.out];exact⟨hr1,hb1⟩
 case rest=>
  obtain⟨hr2,hb2⟩:=hcut
  clear hr1 hb1 qa qc c5 hfl HO
  have qa:=q0.of_block (hb2.block _ q0.lt nq)
  have qc:=qa.cell 0
  simp only[List.getElem?_cons_zero]at qc
  have c5:wc.cell? ⟨b,5,none⟩=some (.int .i64 J.depth):=by rw[<-kd2.out];exact hr2.c 5 _ rfl
  have f5:=hr2.cells.frozen 5
  have D:=hr2.depth 1
  rw[kd2.out,<-HOP.out]at D
  go_wp2_with fail
  generalize wc.setCell ⟨b,5,none⟩ (.int .i64 (J.depth+1))=w3 at*
  have B3:=hb2.trans D.2
  have qa3:=q0.of_block (B3.block _ q0.lt nq)
  refine(hI _ D.1 (((But.refl b w).alloc _).trans B3)).mono ?_
  rintro x w4 ⟨rv,rfl,hres,hr4,hb4⟩
  have B4:=(B3.toV v).trans hb4
  have qa4:=q0.of_block (B4.block _ q0.lt nq (λe=>by have:=hvl _ e;omega))
  have qc4:=qa4.cell 0
  simp only[List.getElem?_cons_zero]at qc4
  clear hI D qc c5 f5 qa hr2 hb2
  go_wp2_with fail
  refine(hcl _ hr4).mono ?_
  rintro x w5 ⟨rfl,hr5,hb5⟩
  have B5:=B4.trans (hb5.toV v)
  have qa5:=q0.of_block (B5.block _ q0.lt nq (λe=>by have:=hvl _ e;omega))
  have qc5:=qa5.cell 0
  simp only[List.getElem?_cons_zero]at qc5
  have x5:w5.cell? ⟨b,5,none⟩=some (.int .i64 (J.depth+1)):=by rw[<-kd4.out];exact hr5.c 5 _ rfl
  have y5:=hr5.cells.frozen 5
  have D5:=hr5.depth (-1)
  rw[kd4.out,<-HCL.out]at D5
  go_wp2_with fail
  refine leaves_cons (f:=221) (args:=#[.pointer (some ⟨w.heap.size,0,none⟩)]) (by simp) (by simp[go_sem]) ?_
  refine(less_side w.heap.size b (J.depth+1) .returning _ ⟨by omega,by omega⟩ qc5 x5 y5).mono ?_
  rintro e u' w6 ⟨rfl,rfl,rfl⟩
  refine⟨_,results_tmp rfl _ _ _,rv,rfl,?_,D5.1,?_⟩
  · exact hp _ _ _ (by have:=B5.size;simp at this;omega) (D5.2.toV v) (hp _ _ _ (by have:=B4.size;simp at this;omega) (hb5.toV v) hres)
  · exact((((But.refl b w).alloc _).toV v).trans B5).trans (D5.2.toV v)
end
section
open Go.RowKit
open R (Tok tk)
namespace K
inductive Ex where
 |num (v:Int)
 |use (n:Nm)
 |get (p:Int) (n:Nm) (e:Ex)
 |op (p:Int) (o:UInt8) (l r:Ex)
 |cho (p:Int) (q y n:Ex)
 |none
def kGet:List UInt8:=[103,101,116]
def kChoose:List UInt8:=[99,104,111,111,115,101]
def isOpS(s:ByteArray):Bool:=R.sign s.toList
def getX(T:List Tok)(ex:S->S×Ex)(p:Int)(J:S):S×Ex:=
 let a:=ex (known T hasWords (step T J))
 (a.1,.get p (knownN T (step T J)) a.2)
def choX(T:List Tok)(ex:S->S×Ex)(p:Int)(J:S):S×Ex:=
 let a:=ex (step T J)
 let c:=ex a.1
 let d:=ex c.1
 (d.1,.cho p a.2 c.2 d.2)
def opX(T:List Tok)(ex:S->S×Ex)(p:Int)(J:S):S×Ex:=
 let a:=ex (take T isOpS J)
 let c:=ex a.1
 (c.1,.op p (R.byteAt (tk T J.i).s 0) a.2 c.2)
def comp(T:List Tok)(ex:S->S×Ex)(p:Int)(J:S):S×Ex:=
 if((tk T J.i).s.toList==kGet)=true then getX T ex p J
 else if((tk T J.i).s.toList==kChoose)=true then choX T ex p J
 else if isOpS (tk T J.i).s=true then opX T ex p J
 else(here T 2 J,.none)
def exB(T:List Tok)(ex:S->S×Ex)(J:S):S×Ex:=
 if((tk T J.i).s.toList==[40])=true then
  let a:=comp T ex (tk T J.i).p (opened T J)
  (closed T a.1,a.2)
 else if isNum (tk T J.i).s=true then(take T isNum J,.num (val (tk T J.i).s))
 else(known T canRead J,.use (knownN T J))
def expr(T:List Tok):Nat->S->S×Ex
 |0,J=>(J,.none)
 |f+1,J=>exB T (expr T f) J
theorem here_keeps(T:List Tok)(e:Int)(J:S):Keeps J (here T e J):=fail_keeps T _ _ _
theorem known_keeps(T:List Tok)(fits:Nm->Bool)(J:S):Keeps J (known T fits J):=by
 unfold known
 split
 · exact take_keeps T _ J
 · exact(take_keeps T _ J).trans (fail_keeps T _ _ _)
theorem comp_keeps{T:List Tok}{ex:S->S×Ex}(h:∀J,Keeps J (ex J).1)(p:Int)(J:S):Keeps J (comp T ex p J).1:=by
 unfold comp
 split
 · exact((step_keeps T J).trans (known_keeps T _ _)).trans (h _)
 · split
   · exact(((step_keeps T J).trans (h _)).trans (h _)).trans (h _)
   · split
     · exact((take_keeps T _ J).trans (h _)).trans (h _)
     · exact here_keeps T _ J
theorem closed_keeps{T:List Tok}{J a:S}(h:Keeps (opened T J) a):Keeps J (closed T a):=by
 have k2:=op2_keeps T J
 have k4:=cl1_keeps T a
 refine⟨?_,?_,?_,?_⟩
 · show(cl1 T a).names=_;rw[k4.names,h.names];exact k2.names
 · show(cl1 T a).words=_;rw[k4.words,h.words];exact k2.words
 · show(cl1 T a).depth+ -1=_
   have e:(opened T J).depth=(op2 T J).depth+1:=rfl
   rw[k4.depth,h.depth,e,k2.depth];omega
 · show(cl1 T a).loops=_;rw[k4.loops,h.loops];exact k2.loops
theorem opened_depth(T:List Tok)(J:S):(opened T J).depth=J.depth+1:=by
 show(op2 T J).depth+1=_
 rw[(op2_keeps T J).depth]
theorem expr_keeps(T:List Tok)(f:Nat):∀J,Keeps J (expr T f J).1:=by
 induction f with
 |zero=>intro J;exact Keeps.rfl' J
 |succ f ih=>
  intro J
  rw[expr]
  unfold exB
  split
  · exact closed_keeps (comp_keeps ih _ _)
  · split
    · exact take_keeps T _ J
    · exact known_keeps T _ J
theorem fail_i(T:List Tok)(e p:Int)(J:S):(fail T e p J).i=T.length-1:=by unfold fail;split<;>rfl
theorem opened_deep{T:List Tok}{J:S}(h:J.depth=10):(opened T J).i=T.length-1:=by
 show(op2 T J).i=_
 unfold op2
 rw[if_pos (by rw[(op1_keeps T J).depth];exact h)]
 exact fail_i T _ _ _
end K
def exV:K.Ex->Value
 |.num v=>.iface 206 (.agg #[.int .i64 v])
 |.use n=>.iface 208 (.agg #[.string n.text,.int .i64 n.kind,.bool n.sec,.int .i64 n.size,.int .i64 n.place])
 |.get p n e=>.iface 210 (.agg #[.int .i64 p,.string n.text,.int .i64 n.kind,.bool n.sec,.int .i64 n.size,.int .i64 n.place,exV e])
 |.op p o l r=>.iface 212 (.agg #[.int .i64 p,.int .u8 o.toNat,exV l,exV r])
 |.cho p q y n=>.iface 214 (.agg #[.int .i64 p,exV q,exV y,exV n])
 |.none=>.nilIface
end
section
open Go.RowKit
open R (Tok tk)
open K (Nm S Scans Ex)
def ExDoes(b:Nat)(s:ByteArray)(T:List Tok)(v:Value)(f:Nat):Prop:=∀(w:World) (J:S),CR w b s T J v->K.Vars w->0<=J.depth->J.depth<=10->11-J.depth<=f->J.names.length<=1000→
 Calls Tryz.prog 205 #[PT b] w λx w'=>x=.returned (exV (K.expr T f J).2)/\CR w' b s T (K.expr T f J).1 v/\ButV b v w w'
theorem exV_form(e:Ex):(∃t x,exV e=.iface t x)∨exV e=.nilIface:=by cases e<;>first |exact Or.inl ⟨_,_,rfl⟩|exact Or.inr rfl
theorem get_c{w:World}{b:Nat}{s:ByteArray}{T:List Tok}{J:S}{v:Value}(hS:Scans s T)(h:CR w b s T J v)(hv:K.Vars w)(h2:5<=b)(hn:J.names.length<=1000)(p:Int)(f:Nat)(hE:ExDoes b s T v f)(d0:0<=J.depth)(d1:J.depth<=10)(df:11-J.depth<=f):
 Calls Tryz.prog 226 #[PT b,.int .i64 p] w λx w'=>x=.returned (exV (K.getX T (K.expr T f) p J).2)/\CR w' b s T (K.getX T (K.expr T f) p J).1 v/\ButV b v w w':=by
 have hlt:=h.cells.lt
 have hvl:∀k,v.ownBlock=some k->k<w.heap.size:=λk hk=>(h.ne hk).2
 have k1:=K.step_keeps T J
 have k2:=k1.trans (K.known_keeps T K.hasWords (K.step T J))
 have hst:=kstep_c hS h
 have hkn:=fun(w:World) (h':CR w b s T (K.step T J) v)=>known_words hS h' (by rw[k1.names];exact hn)
 have hex:=fun(w:World) (h':CR w b s T (K.known T K.hasWords (K.step T J)) v) (hv:K.Vars w)=>hE w _ h' hv (by rw[k2.depth];exact d0) (by rw[k2.depth];exact d1) (by rw[k2.depth];exact df) (by rw[k2.names];exact hn)
 have HG:Hid (K.getX T (K.expr T f) p J=((K.expr T f (K.known T K.hasWords (K.step T J))).1,.get p (K.knownN T (K.step T J)) (K.expr T f (K.known T K.hasWords (K.step T J))).2)):=rfl
 generalize K.getX T (K.expr T f) p J=G at*
 generalize K.expr T f (K.known T K.hasWords (K.step T J))=E at*
 generalize K.knownN T (K.step T J)=N at*
 generalize K.known T K.hasWords (K.step T J)=J2 at*
 generalize K.step T J=J1 at*
 obtain⟨x0,x1,x2,x3,x4⟩:=N
 have HV:Hid (exV G.2=.iface 210 (.agg #[.int .i64 p,.string x0,.int .i64 x1,.bool x2,.int .i64 x3,.int .i64 x4,exV E.2])):=by show _=_;rw[HG.out];rfl
 have HG1:Hid (G.1=E.1):=by show _=_;rw[HG.out]
 have hce:=exV_form E.2
 generalize exV E.2=ev at*
 clear HG k1 k2 hE
 unfold nmV at hkn
 dsimp only at*
 rcases hce with⟨et,ex,rfl⟩|rfl
 all_goals
  go_enter Tryz.func226,Tryz.ntmps226
  go_wp2_with fail
  refine hst.mono ?_
  rintro x w1 ⟨rfl,hr1,hb1⟩
  go_wp2_with fail
  refine(hkn _ hr1).mono ?_
  rintro x w2 ⟨rfl,hr2,hb2⟩
  have hr3:=hr2.alloc (.cells #[.string x0,.int .i64 x1,.bool x2,.int .i64 x3,.int .i64 x4] 96 (0,0))
  have nb:=At.alloc_new w2 [.string x0,.int .i64 x1,.bool x2,.int .i64 x3,.int .i64 x4] 96
  have B3:=(hb1.trans hb2).alloc (.cells #[.string x0,.int .i64 x1,.bool x2,.int .i64 x3,.int .i64 x4] 96 (0,0))
  have V3:=hv.but B3 h2 hlt
  have hl2:=hr2.cells.lt
  have hvl2:∀k,v.ownBlock=some k->k≠w2.heap.size:=λk hk=>by have:=(hr2.ne hk).2;omega
  clear hst hkn hr1
  go_upto_region 3 with fail
  go_region_with (go_at_call 205;refine(hex _ hr3.drew V3).mono ?_;rintro x w4 ⟨rfl,hr4,hb4⟩;have nb4:=nb.of_block (hb4.block _ nb.lt (by omega) (λe=>hvl2 _ e rfl));have k0:=nb4.cell 0;have k1:=nb4.cell 1;have k2:=nb4.cell 2;have k3:=nb4.cell 3;have k4:=nb4.cell 4;simp only[List.getElem?_cons_zero,List.getElem?_cons_succ]at k0 k1 k2 k3 k4)
  all_goals
   go_wp2_with fail
   go_ret
   rw[HV.out,HG1.out]
   exact⟨rfl,hr4,((B3.drew).toV v).trans hb4⟩
end
end Go.Proofs.YtejbgcloblpbfaaGreatDoor
