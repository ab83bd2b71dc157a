import Derived.Test.YtejbgcloblpbfaaGreatDoorG13
import Derived.Test.YtejbgcloblpbfaaGreatDoorG11
set_option maxHeartbeats 4000000
namespace Go.Proofs.YtejbgcloblpbfaaGreatDoor
open Go.RowKit
open R (Tok tk)
open K (Nm S Scans Ex Do)
theorem row_head{w1 w2:World}{e size n m:Nat}{v v':Value}{xs ys:List Value}(hsz:0<size)(h1:w1.ownsRow 0 e size v n xs)(h1':w1.ownsRow 0 e size v' (n+m) (xs++ys))(h2':w2.ownsRow 0 e size v' (n+m) (xs++ys))(ho:∀k,v.ownBlock=some k->v'.ownBlock≠some k->w2.heap[k]?=w1.heap[k]?):w2.ownsRow 0 e size v n xs:=by
 obtain⟨hl,h0 |⟨g,cap,cur,rfl,_,hg,hn,hc,hs,hx⟩⟩:=h1
 · exact⟨hl,Or.inl h0⟩
 · by_cases hb:v'.ownBlock=some g
   · obtain⟨_,⟨h0,_⟩|⟨g',cap',cur',rfl,_,hg',hn',hc',hs',hx'⟩⟩:=h1'
     · rw[h0]at hb;simp[Value.ownBlock]at hb
     · simp only[Value.ownBlock,Option.some.injEq]at hb
       subst hb
       rw[hg]at hg'
       simp only[Option.some.injEq,Obj.cells.injEq,and_true]at hg'
       obtain⟨rfl⟩:=hg'
       have hcc:cap=cap':=Nat.eq_of_mul_eq_mul_right hsz (hs.symm.trans hs')
       subst hcc
       obtain⟨_,⟨h0,_⟩|⟨g2,cap2,cur2,hv2,_,hg2,hn2,hc2,hs2,hx2⟩⟩:=h2'
       · simp at h0
       · simp only[Value.slice.injEq,Option.some.injEq,Addr.mk.injEq]at hv2
         obtain⟨⟨rfl,_⟩,_,rfl⟩:=hv2
         refine⟨hl,Or.inr ⟨g',cap,cur2,rfl,Nat.zero_le _,hg2,hn,hc,hs2,?_⟩⟩
         have e7:=congrArg (List.take (n*size)) hx2
         rw[List.take_take,Nat.min_eq_left (Nat.mul_le_mul_right _ (by omega)),List.take_append_of_le_length (by omega)]at e7
         rw[e7]
         exact List.take_of_length_le (by omega)
   · exact⟨hl,Or.inr ⟨g,cap,cur,rfl,Nat.zero_le _,by rw[ho g rfl hb];exact hg,hn,hc,hs,hx⟩⟩
theorem CR.push{w w1:World}{b:Nat}{s:ByteArray}{T:List Tok}{J:S}{v v':Value}(h:CR w b s T J v)(n:Nm)(row:w1.ownsRow 0 96 5 v' (J.names.length+1) (J.names.flatMap nmCells++nmCells n))(g:Grew w w1 v v'):
 CR (w1.setCell ⟨b,3,none⟩ v') b s T {J with names:=J.names++[n]} v':=by
 have hb:w1.heap[b]?=w.heap[b]?:=g.block b h.cells.lt (λe=>(h.ne e).1 rfl)
 have nb:∀k,v'.ownBlock=some k->k≠b:=λk e=>by
  obtain⟨cur,hc⟩:=own_block row e
  rintro rfl
  have:=h.cells.of_block hb
  unfold At at this
  rw[this]at hc
  simp at hc
 refine⟨(h.cells.of_block hb).set 3 v',?_,h.lt⟩
 refine row_of ?_ λk e=>Below.heap_setCell _ _ _ _ (nb k e)
 simpa using row
def quietly(Q:Exit->Act->World->Prop):Exit->Act->World->Prop
 |.normal,a,w=>Q .normal a w
 |_,_,_=>False
theorem wp_quietly{P:Program}{c:Code}{Q:Exit->Act->World->Prop}{a:Act}{w:World}(h:c.wp P (quietly Q) a w):c.wp P Q a w:=
 Code.wp_mono (λe a w hh=>by cases e<;>first |exact hh |exact hh.elim) h
theorem unbody_d(q0 q2 b:Nat)(a:Option Addr)(n c:Nat)(v':Value)(d:Int)(u:FrameMode)(w:World)(hd:0<=d/\d<=100)(c0:w.cell? ⟨q0,0,none⟩=some (PT b))(c2:w.cell? ⟨q2,0,none⟩=some (.slice a n c))(c3:w.cell? ⟨b,3,none⟩=some v')(f3:w.frozen? ⟨b,3,none⟩=false)(c6:w.cell? ⟨b,6,none⟩=some (.int .i64 d))(f6:w.frozen? ⟨b,6,none⟩=false):
 CallsD Tryz.prog 222 #[.pointer (some ⟨q2,0,none⟩),.pointer (some ⟨q0,0,none⟩)] u w λe u' w'=>u'=u/\(e=.returned (.tuple #[])/\w'=(w.setCell ⟨b,3,none⟩ (.slice a n c)).setCell ⟨b,6,none⟩ (.int .i64 (d-1))):=by
 obtain⟨d0,d1⟩:=hd
 go_enter_d Tryz.func222,Tryz.ntmps222
 go_wp2
 go_end0
 exact⟨rfl,rfl⟩
structure Sees(w w':World)(b:Nat)(s:ByteArray)(T:List Tok)(J:S)(v:Value)(n:Nm)(v':Value)(Z:Nat):Prop where
 cr:CR w' b s T {J with names:=J.names++[n]} v'
 bv:ButV b v w w'
 old:w'.ownsRow 0 96 5 v J.names.length (J.names.flatMap nmCells)
 a0:At w' Z 134 [PT b]
 a2:At w' (Z+2) 81 [v]
 own:∀k,v'.ownBlock=some k->v.ownBlock=some k∨Z+2<k
theorem body_c{w:World}{b:Nat}{s:ByteArray}{T:List Tok}{J:S}{v:Value}{f:Nat}(h2:5<=b)(hD:DosK b s T f)(h:CR w b s T J v)(hv:K.Vars w)(hvb:∀k,v.ownBlock=some k->5<=k)(hk:KB J)(l1:J.loops<=10)(n:Nm)(hl:Live T f (K.seeing n J)):
 Calls Tryz.prog 209 #[PT b,nmV n] w λx w'=>∃u,x=.returned u/\DosIs w.heap.size (K.body (K.dos T f) n J).2 w' u/\CR w' b s T (K.body (K.dos T f) n J).1 v/\ButV b v w w':=by
 have hmf:∀(fn:Fn) (first cap:Array Value) (w:World),(Instr.makeFunc fn first cap).run Tryz.prog w=.ok (.func fn first cap) w:=λ_ _ _ _=>rfl
 obtain⟨i0,hi,hz0,hz1,hz2⟩:=info_parts info_name
 obtain⟨va,vc,hvv⟩:=h.len
 subst hvv
 have hlt:=h.cells.lt
 have hvl:∀k,(Value.slice va J.names.length vc).ownBlock=some k->k<w.heap.size:=λk hk=>(h.ne hk).2
 have hnl:J.names.length<=1000:=by have:=hk.nm;omega
 have l0:=hk.l0
 have hks:KB (K.seeing n J):=by
  obtain⟨a1,a2,a3⟩:=hk
  refine⟨a1,?_,?_⟩
  · show 0<=J.loops+1;omega
  · show((J.names++[n]).length:Int)<=900+(J.loops+1);simp;omega
 have HB1:Hid ((K.body (K.dos T f) n J).1=K.unseen J (K.dos T f (K.seeing n J)).1):=rfl
 have HB2:Hid ((K.body (K.dos T f) n J).2=(K.dos T f (K.seeing n J)).2):=rfl
 have kd:=K.dos_keeps T f (K.seeing n J)
 have HKD:=hide (show(K.dos T f (K.seeing n J)).1.loops=J.loops+1/\(K.dos T f (K.seeing n J)).1.names=J.names++[n]from⟨kd.loops,kd.names⟩)
 have hds:=fun(w:World) (v':Value) (h':CR w b s T (K.seeing n J) v') (hv:K.Vars w) (hvb:∀k,v'.ownBlock=some k->5<=k)=>hD w _ v' h' hv hvb hks hl
 generalize K.body (K.dos T f) n J=BD at*
 generalize K.dos T f (K.seeing n J)=D at*
 obtain⟨x0,x1,x2,x3,x4⟩:=n
 unfold nmV
 dsimp only
 have hone:∀u∈[Value.string x0,.int .i64 x1,.bool x2,.int .i64 x3,.int .i64 x4],u.oneCell'=true:=by
  intro u hu
  simp only[List.mem_cons,List.not_mem_nil,or_false]at hu
  rcases hu with rfl |rfl |rfl |rfl |rfl<;>rfl
 have c3:=h.c 3 _ rfl
 clear hD kd
 go_enter_defers Tryz.func209,Tryz.ntmps209
 go_upto_region 2 with fail
 have hW:=((h.alloc (.cells #[PT b] 134 (0,0))).alloc (.cells #[.string x0,.int .i64 x1,.bool x2,.int .i64 x3,.int .i64 x4] 96 (0,0))).alloc (.cells #[.slice va J.names.length vc] 81 (0,0))
 have BW:=((((But.refl b w).alloc (.cells #[PT b] 134 (0,0))).alloc (.cells #[.string x0,.int .i64 x1,.bool x2,.int .i64 x3,.int .i64 x4] 96 (0,0))).alloc (.cells #[.slice va J.names.length vc] 81 (0,0)))
 have a0:At (((w.alloc (.cells #[PT b] 134 (0,0))).alloc (.cells #[.string x0,.int .i64 x1,.bool x2,.int .i64 x3,.int .i64 x4] 96 (0,0))).alloc (.cells #[.slice va J.names.length vc] 81 (0,0))) w.heap.size 134 [PT b]:=((At.alloc_new w [PT b] _).alloc _).alloc _
 have a1:At (((w.alloc (.cells #[PT b] 134 (0,0))).alloc (.cells #[.string x0,.int .i64 x1,.bool x2,.int .i64 x3,.int .i64 x4] 96 (0,0))).alloc (.cells #[.slice va J.names.length vc] 81 (0,0))) (w.heap.size+1) 96 [.string x0,.int .i64 x1,.bool x2,.int .i64 x3,.int .i64 x4]:=by
  have e:(w.alloc (.cells #[PT b] 134 (0,0))).heap.size=w.heap.size+1:=by simp
  have:=(At.alloc_new (w.alloc (.cells #[PT b] 134 (0,0))) [.string x0,.int .i64 x1,.bool x2,.int .i64 x3,.int .i64 x4] 96).alloc (.cells #[.slice va J.names.length vc] 81 (0,0))
  rw[e]at this
  exact this
 have a2:At (((w.alloc (.cells #[PT b] 134 (0,0))).alloc (.cells #[.string x0,.int .i64 x1,.bool x2,.int .i64 x3,.int .i64 x4] 96 (0,0))).alloc (.cells #[.slice va J.names.length vc] 81 (0,0))) (w.heap.size+2) 81 [.slice va J.names.length vc]:=by
  have e:((w.alloc (.cells #[PT b] 134 (0,0))).alloc (.cells #[.string x0,.int .i64 x1,.bool x2,.int .i64 x3,.int .i64 x4] 96 (0,0))).heap.size=w.heap.size+2:=by simp
  have:=At.alloc_new ((w.alloc (.cells #[PT b] 134 (0,0))).alloc (.cells #[.string x0,.int .i64 x1,.bool x2,.int .i64 x3,.int .i64 x4] 96 (0,0))) [.slice va J.names.length vc] 81
  rw[e]at this
  exact this
 have VW:=hv.but BW h2 hlt
 generalize((w.alloc (.cells #[PT b] 134 (0,0))).alloc (.cells #[.string x0,.int .i64 x1,.bool x2,.int .i64 x3,.int .i64 x4] 96 (0,0))).alloc (.cells #[.slice va J.names.length vc] 81 (0,0))=W at*
 generalize HQ:w.heap.size=Z at*
 have z0:=a0.cell 0
 have z10:=a1.cell 0
 have z11:=a1.cell 1
 have z12:=a1.cell 2
 have z13:=a1.cell 3
 have z14:=a1.cell 4
 simp only[List.getElem?_cons_zero,List.getElem?_cons_succ]at z0 z10 z11 z12 z13 z14
 have y3:W.cell? ⟨b,3,none⟩=some (.slice va J.names.length vc):=hW.c 3 _ rfl
 have g3:=hW.cells.frozen 3
 have rS:=hW.names
 have nb:=hW.cells.lt
 have n0:=a0.lt
 have n1:=a1.lt
 have n2:=a2.lt
 have nv0:(Value.slice va J.names.length vc).ownBlock≠some b:=λe=>(hW.ne e).1 rfl
 have nvz:∀j,(Value.slice va J.names.length vc).ownBlock≠some (Z+j):=λj e=>by have:=hvl _ e;omega
 clear c3
 go_cut []from 10 to 19 (λwr=>∃gg cap3,Sees w wr b s T J (.slice va J.names.length vc) ⟨x0,x1,x2,x3,x4⟩ (.slice (some ⟨gg,0,none⟩) (J.names.length+1) cap3) Z)
 case first=>
  refine wp_quietly ?_
  go_region_law (refine step_append_keep rfl (.tmp 14) (.tmp 16) 81 rfl 96 i0 _ 5 48 Tryz.underlying81 hi hz0 hz1 hz2 rfl (by decide) (.slice va J.names.length vc) J.names.length (J.names.flatMap nmCells) rfl (by exact(World.ownsRow.alloc rS _).drew) ⟨W.heap.size,0,none⟩ 1 1 [.string x0,.int .i64 x1,.bool x2,.int .i64 x3,.int .i64 x4] rfl rfl (by exact row_new W [.string x0,.int .i64 x1,.bool x2,.int .i64 x3,.int .i64 x4] _) hone (few_le (by omega)) (by omega) Nat.one_pos ?_;intro gg cap3 w3 hrow hg hkk hold;have gr:=Grew.of ((More.refl W).alloc _).drew hg hkk;have y3':w3.cell? ⟨b,3,none⟩=some (.slice va J.names.length vc):=(World.cell?_of_block (gr.block b nb nv0)).trans y3;have g3':w3.frozen? ⟨b,3,none⟩=false:=(World.frozen?_of_block (gr.block b nb nv0)).trans g3;have z0':w3.cell? ⟨Z,0,none⟩=some (PT b):=(World.cell?_of_block (gr.block Z n0 (nvz 0))).trans z0;clear hg hkk)
  all_goals
   dsimp only[quietly]
   have C3:=hW.push ⟨x0,x1,x2,x3,x4⟩ hrow gr
   have bne:∀k,k≠b->(w3.setCell ⟨b,3,none⟩ (.slice (some ⟨gg,0,none⟩) (J.names.length+1) cap3)).heap[k]?=w3.heap[k]?:=λk hkb=>Below.heap_setCell _ _ _ _ hkb
   have hgg:=gr.own
   have BV3:ButV b (.slice va J.names.length vc) w (w3.setCell ⟨b,3,none⟩ (.slice (some ⟨gg,0,none⟩) (J.names.length+1) cap3)):=by
    refine⟨gr.os.trans BW.os,gr.tape.trans BW.tape,gr.output.trans BW.output,by have:=gr.size;have:=BW.size;simpa[World.setCell]using(by omega:w.heap.size<=w3.heap.size),λk h1 h3 h4=>?_⟩
    have:=BW.size
    rw[bne k h3,gr.block k (by omega) h4,BW.block k h1 h3]
   have SE:Sees w (w3.setCell ⟨b,3,none⟩ (.slice (some ⟨gg,0,none⟩) (J.names.length+1) cap3)) b s T J (.slice va J.names.length vc) ⟨x0,x1,x2,x3,x4⟩ (.slice (some ⟨gg,0,none⟩) (J.names.length+1) cap3) Z:=
    ⟨C3,BV3,row_of hold λk e=>bne k (λe'=>nv0 (by rw[<-e'];exact e)),(a0.of_block (gr.block Z n0 (nvz 0))).of_block (bne Z (by omega)),(a2.of_block (gr.block _ n2 (nvz 2))).of_block (bne (Z+2) (by omega)),λk e=>(hgg k e).imp id (λh=>by omega)⟩
   clear hrow hold gr C3 BV3 bne hgg y3' g3' z0'
   go_wp2_with fail
   go_meet
   case rel=>exact⟨_,_,SE⟩
 case rest=>
  obtain⟨gg,cap3,SE⟩:=hcut
  clear hW BW a0 a1 a2 VW z0 z10 z11 z12 z13 z14 y3 g3 rS nb n0 n1 n2 nv0
  have hbz:b<Z:=by omega
  have V3:=hv.butV SE.bv h2 (by omega) hvb
  have zq:wc.cell? ⟨Z,0,none⟩=some (PT b):=SE.a0.cell 0
  have c6:=SE.cr.c 6 _ rfl
  have f6:=SE.cr.cells.frozen 6
  have ob:=SE.own
  have C4:CR (wc.setCell ⟨b,6,none⟩ (.int .i64 (J.loops+1))) b s T (K.seeing ⟨x0,x1,x2,x3,x4⟩ J) (.slice (some ⟨gg,0,none⟩) (J.names.length+1) cap3):=SE.cr.turn (SE.cr.cells.set 6 _) ((But.refl b wc).set 6 _) rfl SE.cr.lt
  have B4:But b wc (wc.setCell ⟨b,6,none⟩ (.int .i64 (J.loops+1))):=(But.refl b wc).set 6 _
  have V4:=V3.but B4 h2 SE.cr.cells.lt
  have a04:=SE.a0.of_block (B4.block _ SE.a0.lt (by omega))
  have a24:=SE.a2.of_block (B4.block _ SE.a2.lt (by omega))
  have old4:(wc.setCell ⟨b,6,none⟩ (.int .i64 (J.loops+1))).ownsRow 0 96 5 (.slice va J.names.length vc) J.names.length (J.names.flatMap nmCells):=row_of SE.old λk e=>B4.block k (by have:=hvl k e;have:=SE.bv.size;omega) (λe'=>by have:=hvl k e;have:=(h.ne e).1;omega)
  have bv4:=SE.bv.trans (B4.toV _)
  have zq4:(wc.setCell ⟨b,6,none⟩ (.int .i64 (J.loops+1))).cell? ⟨Z,0,none⟩=some (PT b):=a04.cell 0
  have vb':∀k,(Value.slice (some ⟨gg,0,none⟩) (J.names.length+1) cap3).ownBlock=some k->5<=k:=λk e=>(ob k e).elim (hvb k) (λe'=>by omega)
  go_wp2_with fail
  have hdd:=hds _ _ C4 V4 vb'
  generalize wc.setCell ⟨b,6,none⟩ (.int .i64 (J.loops+1))=W4 at*
  refine hdd.mono ?_
  rintro x w5 ⟨u,us,rfl,dr,de,C5,B5⟩
  have nz:∀j,j<=2->(Value.slice (some ⟨gg,0,none⟩) (J.names.length+1) cap3).ownBlock≠some (Z+j):=λj hj e=>by
   rcases ob _ e with e' |e'
   · exact nvz j e'
   · omega
  have a05:=a04.of_block (B5.block _ a04.lt (by omega) (nz 0 (by omega)))
  have a25:=a24.of_block (B5.block _ a24.lt (by omega) (nz 2 (by omega)))
  have u0:w5.cell? ⟨Z,0,none⟩=some (PT b):=a05.cell 0
  have u2:w5.cell? ⟨Z+2,0,none⟩=some (.slice va J.names.length vc):=a25.cell 0
  have u3:=C5.c 3 _ rfl
  have u6:w5.cell? ⟨b,6,none⟩=some (.int .i64 (J.loops+1)):=by rw[<-HKD.out.1];exact C5.c 6 _ rfl
  have new4:W4.ownsRow 0 96 5 (.slice (some ⟨gg,0,none⟩) (J.names.length+1) cap3) (J.names.length+1) (J.names.flatMap nmCells++nmCells ⟨x0,x1,x2,x3,x4⟩):=by simpa[K.seeing]using C4.names
  have new5:w5.ownsRow 0 96 5 (.slice (some ⟨gg,0,none⟩) (J.names.length+1) cap3) (J.names.length+1) (J.names.flatMap nmCells++nmCells ⟨x0,x1,x2,x3,x4⟩):=by
   have:=C5.names
   rw[HKD.out.2]at this
   simpa using this
  have s4:=bv4.size
  have old5:=row_head (by decide) old4 new4 new5 λk e ne=>B5.block k (by have:=hvl k e;omega) (λe'=>(h.ne e).1 e') ne
  have c53:=C5.cells.frozen 3
  have c56:=C5.cells.frozen 6
  go_wp2_with fail
  refine leaves_cons (f:=222) (args:=#[.pointer (some ⟨Z+2,0,none⟩),.pointer (some ⟨Z,0,none⟩)]) (by simp) (by simp[go_sem]) ?_
  refine(unbody_d Z (Z+2) b va J.names.length vc _ (J.loops+1) .returning _ ⟨by omega,by omega⟩ u0 u2 u3 c53 u6 c56).mono ?_
  rintro e u' w6 ⟨rfl,rfl,rfl⟩
  refine⟨_,results_tmp rfl _ _ _,u,rfl,?_,?_,?_⟩
  · rw[HB2.out,HQ]
    have hkk:∀k,Z<=k->k<w5.heap.size->((w5.setCell ⟨b,3,none⟩ (.slice va J.names.length vc)).setCell ⟨b,6,none⟩ (.int .i64 (J.loops+1-1))).heap[k]?=w5.heap[k]?:=λk h1 _=>by
     rw[Below.heap_setCell _ _ _ _ (by show k≠b;omega),Below.heap_setCell _ _ _ _ (by show k≠b;omega)]
    have hle:Z<=W4.heap.size:=by omega
    exact⟨us,(dr.lower (From.le hle)).keep hkk,(de.lower (From.le hle)).keep hkk⟩
  · rw[HB1.out]
    have e2:rcs s (tk T D.1.i) (K.unseen J D.1) (.slice va J.names.length vc)=((rcs s (tk T D.1.i) D.1 (.slice (some ⟨gg,0,none⟩) (J.names.length+1) cap3)).set 3 (.slice va J.names.length vc)).set 6 (.int .i64 (J.loops+1-1)):=by rw[<-HKD.out.1];rfl
    refine⟨?_,?_,C5.lt⟩
    · show At _ b _ (rcs s (tk T D.1.i) (K.unseen J D.1) (.slice va J.names.length vc))
      rw[e2]
      exact(C5.cells.set 3 _).set 6 _
    · exact row_of old5 λk e=>by rw[Below.heap_setCell _ _ _ _ (λe'=>(h.ne e).1 e'),Below.heap_setCell _ _ _ _ (λe'=>(h.ne e).1 e')]
  · refine⟨B5.os.trans bv4.os,B5.tape.trans bv4.tape,B5.output.trans bv4.output,by have:=B5.size;simpa[World.setCell]using(by omega:w.heap.size<=w5.heap.size),λk h1 h3 h4=>?_⟩
    rw[Below.heap_setCell _ _ _ _ h3,Below.heap_setCell _ _ _ _ h3,B5.block k (by omega) h3 (λe=>by
     rcases ob _ e with e' |e'
     · exact h4 e'
     · omega),bv4.block k h1 h3 h4]
theorem K.here_i(T:List Tok)(e:Int)(J:S):(K.here T e J).i=T.length-1:=K.fail_i T _ _ _
theorem K.Fwd.last{T:List Tok}{J J':S}(h:K.Fwd T J J')(hp:0<T.length)(e:J.i=T.length-1):J'.i=T.length-1:=by
 have:=h (by omega)
 omega
theorem loop_c{w:World}{b:Nat}{s:ByteArray}{T:List Tok}{J:S}{v:Value}{f:Nat}(hS:Scans s T)(h2:5<=b)(hD:DosK b s T f)(h:CR w b s T J v)(hv:K.Vars w)(hvb:∀k,v.ownBlock=some k->5<=k)(hk:KB J)(d1:J.depth<=10)(df:11-J.depth<=f)(l1:J.loops<=2)(hfw:Few J)(p:Int):
 Calls Tryz.prog 176 #[PT b,.int .i64 p] w λx w'=>∃u,x=.returned u/\DoIs (From w.heap.size) w' (K.forX T (K.dos T f) p J).2 u/\CR w' b s T (K.forX T (K.dos T f) p J).1 v/\ButV b v w w':=by
 have hE:=kexpr_c hS h2 hvb 11
 have hlt:=h.cells.lt
 have hvl:∀k,v.ownBlock=some k->k<w.heap.size:=λk hk=>(h.ne hk).2
 have hnn:J.names.length<=1000:=by have:=hk.nm;omega
 have d0:=hk.d0
 have l0:=hk.l0
 have w0:=hfw.1
 have w1:=hfw.2
 have k0:=K.loop0_keeps T J
 have k1:=k0.trans (K.step_keeps T (K.loop0 T J))
 have k2:=k1.trans (K.newName_keeps T (K.step T (K.loop0 T J)))
 have k3:=k2.trans (K.expr_keeps T 11 (K.newName T (K.step T (K.loop0 T J))))
 have hfh:=failHere_c hS h 6
 have hst:=fun(w:World) (h':CR w b s T (K.loop0 T J) v)=>kstep_c hS h'
 have hnm:=fun(w:World) (h':CR w b s T (K.step T (K.loop0 T J)) v)=>newName_c hS h' (by rw[k1.names];exact hnn)
 have hex:=fun(w:World) (h':CR w b s T (K.newName T (K.step T (K.loop0 T J))) v) (hv:K.Vars w)=>hE w _ h' hv (by rw[k2.depth];exact d0) (by rw[k2.depth];exact d1) (by rw[k2.depth];omega) (by rw[k2.names];exact hnn)
 have hlive:Live T f (K.seeing (K.counter T J) (K.expr T 11 (K.newName T (K.step T (K.loop0 T J)))).1):=by
  by_cases e2:J.loops=2
  · refine Or.inr ⟨?_,?_,?_⟩
    · show(K.expr T 11 (K.newName T (K.step T (K.loop0 T J)))).1.i=T.length-1
      have e0:(K.loop0 T J).i=T.length-1:=by unfold K.loop0;rw[if_pos e2];exact K.here_i T _ _
      exact(((K.step_fwd T (K.loop0 T J)).trans (K.newName_fwd T _)).trans (K.expr_fwd T 11 _)).last hS.pos e0
    · show(K.expr T 11 (K.newName T (K.step T (K.loop0 T J)))).1.depth<=11
      rw[k3.depth];omega
    · show(K.expr T 11 (K.newName T (K.step T (K.loop0 T J)))).1.loops+1<=3
      rw[k3.loops];omega
  · refine Or.inl ⟨?_,?_,?_,(hfw.keeps k3:Few (K.expr T 11 (K.newName T (K.step T (K.loop0 T J)))).1)⟩
    · show(K.expr T 11 (K.newName T (K.step T (K.loop0 T J)))).1.depth<=10
      rw[k3.depth];omega
    · show 11-(K.expr T 11 (K.newName T (K.step T (K.loop0 T J)))).1.depth<=f
      rw[k3.depth];omega
    · show(K.expr T 11 (K.newName T (K.step T (K.loop0 T J)))).1.loops+1<=2
      rw[k3.loops];omega
 have hbd:=fun(w:World) (h':CR w b s T (K.expr T 11 (K.newName T (K.step T (K.loop0 T J)))).1 v) (hv:K.Vars w)=>body_c h2 hD h' hv hvb (hk.keeps k3) (by rw[k3.loops];omega) (K.counter T J) hlive
 have HG:Hid (K.forX T (K.dos T f) p J=((K.body (K.dos T f) (K.counter T J) (K.expr T 11 (K.newName T (K.step T (K.loop0 T J)))).1).1,.fors p (K.counter T J) (K.expr T 11 (K.newName T (K.step T (K.loop0 T J)))).2 (K.body (K.dos T f) (K.counter T J) (K.expr T 11 (K.newName T (K.step T (K.loop0 T J)))).1).2)):=rfl
 have HC:Hid (K.counter T J=⟨(tk T (K.step T (K.loop0 T J)).i).s,2,false,0,J.words+J.loops⟩):=rfl
 have H0:Hid (K.loop0 T J=if J.loops=2 then K.here T 6 J else J):=rfl
 have HW:=hide (show(K.step T (K.loop0 T J)).words=J.words/\(K.newName T (K.step T (K.loop0 T J))).words=J.words/\(K.step T (K.loop0 T J)).loops=J.loops/\(K.newName T (K.step T (K.loop0 T J))).loops=J.loops from⟨k1.words,k2.words,k1.loops,k2.loops⟩)
 clear k0 k1 k2 k3 hlive hE hD
 generalize K.forX T (K.dos T f) p J=G at*
 generalize K.counter T J=N at*
 generalize K.expr T 11 (K.newName T (K.step T (K.loop0 T J)))=E at*
 generalize K.body (K.dos T f) N E.1=BD at*
 generalize K.newName T (K.step T (K.loop0 T J))=J2 at*
 generalize K.step T (K.loop0 T J)=J1 at*
 generalize K.loop0 T J=J0 at*
 generalize(tk T J1.i).s=tx at*
 have eN:=HC.out
 subst eN
 unfold nmV at hbd
 dsimp only at*
 have HG1:Hid (G.1=BD.1):=by show _=_;rw[HG.out]
 have HV:Hid (∀w' lv,DosIs w.heap.size BD.2 w' lv->DoIs (From w.heap.size) w' G.2 (Value.iface 186 (.agg #[.int .i64 p,.string tx,.int .i64 2,.bool false,.int .i64 0,.int .i64 (J.words+J.loops),exV E.2,lv]))):=λw' lv ⟨ls,a1,a2⟩=>by
  rw[HG.out];unfold DoIs;exact⟨lv,ls,rfl,a1,a2⟩
 have f1:=exV_form E.2
 generalize exV E.2=ev at*
 have c6:=h.c 6 _ rfl
 clear HG HC hk hfw
 go_enter Tryz.func176,Tryz.ntmps176
 go_upto_if 11 with fail
 go_cut [11] (λ_ wr=>CR wr b s T J0 v/\But b w wr)
 case first=>
  by_cases e2:J.loops=2
  · have e:=H0.out
    rw[if_pos e2]at e
    have HE:=hide e
    have e2':=beq_yes e2
    clear e e2
    rw[e2']
    go_wp2_with fail
    refine hfh.mono ?_
    rintro x w1 ⟨rfl,hr1,hb1⟩
    go_wp2_with fail
    go_meet
    case rel=>rw[HE.out];exact⟨hr1,hb1⟩
  · have e:=H0.out
    rw[if_neg e2]at e
    have HE:=hide e
    have e2':=beq_no e2
    clear e e2
    rw[e2']
    go_wp2_with fail
    go_meet
    case rel=>rw[HE.out];exact⟨h,But.refl _ _⟩
 case rest=>
  obtain⟨hr0,hb0⟩:=hcut
  clear hfh H0 c6
  go_wp2_with fail
  refine(hst _ hr0).mono ?_
  rintro x w2 ⟨rfl,hr2,hb2⟩
  have B2:=hb0.trans hb2
  have x4:w2.cell? ⟨b,4,none⟩=some (.int .i64 J.words):=by rw[<-HW.out.1];exact hr2.c 4 _ rfl
  have x6:w2.cell? ⟨b,6,none⟩=some (.int .i64 J.loops):=by rw[<-HW.out.2.2.1];exact hr2.c 6 _ rfl
  have hwr:IntKind.i64.wrap (J.words+J.loops)=J.words+J.loops:=k64 _ (by omega)
  clear hst hr0 hb0
  go_upto_region 4 with fail
  go_cut [5]from 16 to 27 (λq wr=>∃Z,q=.pointer (some ⟨Z,0,none⟩)/\w.heap.size<=Z/\At wr Z 96 [.string tx,.int .i64 2,.bool false,.int .i64 0,.int .i64 (J.words+J.loops)]/\CR wr b s T J2 v/\But b w wr)
  case first=>
   have nb2:=hr2.cells.lt
   have hv2:∀k,v.ownBlock=some k->k<w2.heap.size:=λk e=>(hr2.ne e).2
   have s2:=B2.size
   have hn1:=hnm _ hr2.drew
   have hn2:=hnm _ (hr2.alloc (.cells #[.string ⟨#[]⟩,.int .i64 0,.bool false,.int .i64 0,.int .i64 0] 96 (0,0))).drew
   go_region_with (go_at_call 137;first |(refine hn1.mono ?_;rintro x w4 ⟨rfl,hr4,hb4⟩;have nb4:=hr4.cells.lt;have x4':w4.cell? ⟨b,4,none⟩=some (.int .i64 J.words):=(by rw[<-HW.out.2.1];exact hr4.c 4 _ rfl);have x6':w4.cell? ⟨b,6,none⟩=some (.int .i64 J.loops):=(by rw[<-HW.out.2.2.2];exact hr4.c 6 _ rfl))|(refine hn2.mono ?_;rintro x w4 ⟨rfl,hr4,hb4⟩;have nb4:=hr4.cells.lt;have x4':w4.cell? ⟨b,4,none⟩=some (.int .i64 J.words):=(by rw[<-HW.out.2.1];exact hr4.c 4 _ rfl);have x6':w4.cell? ⟨b,6,none⟩=some (.int .i64 J.loops):=(by rw[<-HW.out.2.2.2];exact hr4.c 6 _ rfl);have hb4':But b (w2.alloc (.cells #[.string ⟨#[]⟩,.int .i64 0,.bool false,.int .i64 0,.int .i64 0] 96 (0,0))) w4:=((But.refl b _).drew).trans hb4;have RB:=zero_box hb4' nb2;have r0:=RB.cell 0;have r1:=RB.cell 1;have r2:=RB.cell 2;have r3:=RB.cell 3;have r4:=RB.cell 4;simp only[List.getElem?_cons_zero,List.getElem?_cons_succ]at r0 r1 r2 r3 r4;have q0:=RB.frozen 0;have q1:=RB.frozen 1;have q2:=RB.frozen 2;have q3:=RB.frozen 3;have q4:=RB.frozen 4))
   all_goals
    first
    |(have RZ:=(((((RB.set 0 (.string tx)).set 1 (.int .i64 2)).set 2 (.bool false)).set 3 (.int .i64 0)).set 4 (.int .i64 (J.words+J.loops)))
      have CZ:=put5 hr4 hb4' nb2 hv2 (.string tx) (.int .i64 2) (.bool false) (.int .i64 0) (.int .i64 (J.words+J.loops))
      go_wp2_with fail
      go_meet
      case rel=>exact⟨w2.heap.size,rfl,s2,RZ,CZ.1,B2.trans CZ.2⟩)
    |(have aN:=At.alloc_new w4 [.string tx,.int .i64 2,.bool false,.int .i64 0,.int .i64 (J.words+J.loops)] 96
      have s4':w2.heap.size<=w4.heap.size:=hb4.size
      go_wp2_with fail
      go_meet
      case rel=>exact⟨w4.heap.size,rfl,by omega,aN,hr4.alloc _,(B2.drew.trans hb4).alloc _⟩)
  case rest=>
   obtain⟨Z,rfl,hZ,aZ,hr3,B3⟩:=hcut
   clear hnm hr2 hb2 x4 x6 hwr B2
   have V3:=hv.but B3 h2 hlt
   have nvz:∀k,v.ownBlock=some k->k≠Z:=λk e=>by have:=hvl k e;omega
   go_wp2_with fail
   refine(hex _ hr3 V3).mono ?_
   rintro x w5 ⟨rfl,hr5,hb5⟩
   have V5:=V3.butV hb5 h2 hr3.cells.lt hvb
   have aZ5:=aZ.of_block (hb5.block _ aZ.lt (by omega) (λe=>nvz _ e rfl))
   have j0:=aZ5.cell 0
   have j1:=aZ5.cell 1
   have j2:=aZ5.cell 2
   have j3:=aZ5.cell 3
   have j4:=aZ5.cell 4
   simp only[List.getElem?_cons_zero,List.getElem?_cons_succ]at j0 j1 j2 j3 j4
   have nZ:=aZ5.lt
   have B5:=(B3.toV v).trans hb5
   have s5:=B5.size
   clear hex aZ hr3 V3
   rcases f1 with⟨et,ex,rfl⟩|rfl
   all_goals
    go_upto_region 6 with fail
    go_region_with (go_at_call 209;refine(hbd _ hr5.drew V5).mono ?_;rintro x w6 ⟨lv,rfl,⟨ls,l1',l2'⟩,hr6,hb6⟩;have aZ6:=aZ5.of_block (hb6.block _ nZ (by omega) (λe=>nvz _ e rfl));have k0:=aZ6.cell 0;have k1:=aZ6.cell 1;have k2:=aZ6.cell 2;have k3:=aZ6.cell 3;have k4:=aZ6.cell 4;simp only[List.getElem?_cons_zero,List.getElem?_cons_succ]at k0 k1 k2 k3 k4;obtain⟨la,ln,lc,rfl⟩:=l1'.form)
    all_goals
     go_wp2_with fail
     go_ret
     rw[HG1.out]
     have s5':w.heap.size<=w5.drew.heap.size:=s5
     exact⟨_,rfl,HV.out _ _ ⟨ls,l1'.lower (From.le s5'),l2'.lower (From.le s5')⟩,hr6,B5.trans (((But.refl b _).drew.toV v).trans hb6)⟩
def LiveD(T:List Tok)(f:Nat)(J:S):Prop:=(J.depth<=10/\12-J.depth<=f/\J.loops<=2/\Few J)∨(J.i=T.length-1/\J.depth<=11/\J.loops<=3)
theorem LiveD.opened{T:List Tok}{f:Nat}{J:S}(d1:J.depth<=10)(df:11-J.depth<=f)(l1:J.loops<=2)(hw:Few J):LiveD T f (K.opened T J):=by
 have e:=K.opened_depth T J
 have l:(K.opened T J).loops=J.loops:=(K.op2_keeps T J).loops
 by_cases h:J.depth=10
 · exact Or.inr ⟨K.opened_deep h,by omega,by omega⟩
 · exact Or.inl ⟨by omega,by omega,by omega,(hw.keeps (K.op2_keeps T J):Few (K.op2 T J))⟩
def DoK(b:Nat)(s:ByteArray)(T:List Tok)(f:Nat):Prop:=∀(w:World) (J:S) (v:Value) (p:Int),CR w b s T J v->K.Vars w->(∀k,v.ownBlock=some k->5<=k)->KB J->LiveD T f J→
 Calls Tryz.prog 139 #[PT b,.int .i64 p] w λx w'=>∃u,x=.returned u/\DoIs (From w.heap.size) w' (K.doF T f p J).2 u/\CR w' b s T (K.doF T f p J).1 v/\ButV b v w w'
theorem do_k{b:Nat}{s:ByteArray}{T:List Tok}{f:Nat}(hS:Scans s T)(h2:5<=b)(hD:DosK b s T f):DoK b s T (f+1):=by
 intro w J v p h hv hvb hk hl
 have hnn:J.names.length<=1000:=by have:=hk.nm;rcases hl with hl |hl<;>omega
 have c1:=h.c 1 _ rfl
 show Calls _ _ _ _ λx w'=>∃u,x=.returned u/\DoIs (From w.heap.size) w' (K.doX T (K.dos T f) p J).2 u/\CR w' b s T (K.doX T (K.dos T f) p J).1 v/\ButV b v w w'
 have HC:Hid (K.doX T (K.dos T f) p J=if K.isW [115,101,116] (tk T J.i)=true then K.setX T p J else if K.isW [112,117,116] (tk T J.i)=true then K.putX T p J else if K.isW [105,102] (tk T J.i)=true then K.ifX T (K.dos T f) p J else if K.isW [102,111,114] (tk T J.i)=true then K.forX T (K.dos T f) p J else(K.here T 2 J,.none)):=rfl
 have hdead:K.isW [115,101,116] (tk T J.i)=true∨K.isW [112,117,116] (tk T J.i)=true∨K.isW [105,102] (tk T J.i)=true∨K.isW [102,111,114] (tk T J.i)=true->J.depth<=10/\12-J.depth<=((f+1:Nat):Int)/\J.loops<=2/\Few J:=λhh=>by
  rcases hl with hl |hl
  · exact hl
  · rw[hl.1,hS.last]at hh
    unfold K.isW at hh
    dsimp only at hh
    rw[emptyL]at hh
    exact absurd hh (by decide)
 have d0:=hk.d0
 generalize HDX:K.doX T (K.dos T f) p J=X at*
 cases e1:K.isW [115,101,116] (tk T J.i)with
 |true=>
  obtain⟨a1,a2,a3,a4⟩:=hdead (Or.inl e1)
  have hg:=set_c hS h hv h2 hvb hnn p d0 a1
  rw[e1,if_pos rfl]at HC
  rw[<-HC.out]at hg
  have t1:((tk T J.i).s.toList==[115,101,116])=true:=e1
  clear HC hdead hl HDX e1
  generalize tk T J.i=t at*
  go_enter Tryz.func139,Tryz.ntmps139
  go_wp2_with fail
  refine hg.mono ?_
  rintro x w' ⟨u,rfl,hd,hr,hb⟩
  go_wp2_with fail
  go_ret
  exact⟨u,rfl,hd,hr,hb⟩
 |false=>
 rw[e1,if_neg (by decide)]at HC
 have t1:((tk T J.i).s.toList==[115,101,116])=false:=e1
 cases e2:K.isW [112,117,116] (tk T J.i)with
 |true=>
  obtain⟨a1,a2,a3,a4⟩:=hdead (Or.inr (Or.inl e2))
  have hg:=put_c hS h hv h2 hvb hnn p d0 a1
  rw[e2,if_pos rfl]at HC
  rw[<-HC.out]at hg
  have t2:((tk T J.i).s.toList==[112,117,116])=true:=e2
  clear HC hdead hl HDX e1 e2
  generalize tk T J.i=t at*
  go_enter Tryz.func139,Tryz.ntmps139
  go_wp2_with fail
  refine hg.mono ?_
  rintro x w' ⟨u,rfl,hd,hr,hb⟩
  go_wp2_with fail
  go_ret
  exact⟨u,rfl,hd,hr,hb⟩
 |false=>
 rw[e2,if_neg (by decide)]at HC
 have t2:((tk T J.i).s.toList==[112,117,116])=false:=e2
 cases e3:K.isW [105,102] (tk T J.i)with
 |true=>
  obtain⟨a1,a2,a3,a4⟩:=hdead (Or.inr (Or.inr (Or.inl e3)))
  have hg:=branch_c hS h2 hD h hv hvb hk a1 (by omega) a3 a4 p
  rw[e3,if_pos rfl]at HC
  rw[<-HC.out]at hg
  have t3:((tk T J.i).s.toList==[105,102])=true:=e3
  clear HC hdead hl HDX e1 e2 e3
  generalize tk T J.i=t at*
  go_enter Tryz.func139,Tryz.ntmps139
  go_wp2_with fail
  refine hg.mono ?_
  rintro x w' ⟨u,rfl,hd,hr,hb⟩
  go_wp2_with fail
  go_ret
  exact⟨u,rfl,hd,hr,hb⟩
 |false=>
 rw[e3,if_neg (by decide)]at HC
 have t3:((tk T J.i).s.toList==[105,102])=false:=e3
 cases e4:K.isW [102,111,114] (tk T J.i)with
 |true=>
  obtain⟨a1,a2,a3,a4⟩:=hdead (Or.inr (Or.inr (Or.inr e4)))
  have hg:=loop_c hS h2 hD h hv hvb hk a1 (by omega) a3 a4 p
  rw[e4,if_pos rfl]at HC
  rw[<-HC.out]at hg
  have t4:((tk T J.i).s.toList==[102,111,114])=true:=e4
  clear HC hdead hl HDX e1 e2 e3 e4
  generalize tk T J.i=t at*
  go_enter Tryz.func139,Tryz.ntmps139
  go_wp2_with fail
  refine hg.mono ?_
  rintro x w' ⟨u,rfl,hd,hr,hb⟩
  go_wp2_with fail
  go_ret
  exact⟨u,rfl,hd,hr,hb⟩
 |false=>
  rw[e4,if_neg (by decide)]at HC
  have t4:((tk T J.i).s.toList==[102,111,114])=false:=e4
  have hg:=failHere_c hS h 2
  have HX1:Hid (X.1=K.here T 2 J):=by show _=_;rw[HC.out]
  have HX2:Hid (X.2=.none):=by show _=_;rw[HC.out]
  clear HC hdead hl HDX e1 e2 e3 e4
  generalize K.here T 2 J=J1 at*
  generalize tk T J.i=t at*
  go_enter Tryz.func139,Tryz.ntmps139
  go_wp2_with fail
  refine hg.mono ?_
  rintro x w' ⟨rfl,hr,hb⟩
  go_wp2_with fail
  go_ret
  rw[HX1.out,HX2.out]
  exact⟨_,rfl,by unfold DoIs;rfl,hr,hb.toV v⟩
theorem CR.grew{w w':World}{b:Nat}{s:ByteArray}{T:List Tok}{J:S}{v lv lv':Value}(h:CR w b s T J v)(g:Grew w w' lv lv')(hb:lv.ownBlock≠some b)(hn:∀k,v.ownBlock=some k->lv.ownBlock≠some k):CR w' b s T J v:=
 ⟨h.cells.of_block (g.block b h.cells.lt hb),row_of h.names λk e=>g.block k (h.ne e).2 (hn k e),h.lt⟩
theorem brkDo_k{w:World}{b:Nat}{s:ByteArray}{T:List Tok}{J:S}{v:Value}{f:Nat}(hS:Scans s T)(h2:5<=b)(hO:DoK b s T f)(h:CR w b s T J v)(hv:K.Vars w)(hvb:∀k,v.ownBlock=some k->5<=k)(hk:KB J)(d1:J.depth<=10)(df:11-J.depth<=f)(l1:J.loops<=2)(hw:Few J):
 Calls Tryz.prog 138 #[PT b,.func (.func 139) #[PT b] #[]] w λx w'=>∃u,x=.returned u/\DoIs (From w.heap.size) w' (K.brkDo T (K.doF T f) J).2 u/\CR w' b s T (K.brkDo T (K.doF T f) J).1 v/\ButV b v w w':=by
 have hlt:=h.cells.lt
 have hvl:∀k,v.ownBlock=some k->k<w.heap.size:=λk hk=>(h.ne hk).2
 exact inBr_do hS h hk.d0 (by omega) (J4:=(K.doF T f (tk T J.i).p (K.opened T J)).1) (by rw[(K.doF_keeps T f _ _).depth,K.opened_depth]) (λw' u=>DoIs (From w.heap.size) w' (K.doF T f (tk T J.i).p (K.opened T J)).2 u)
  (λw1 h1 hb1=>(hO w1 _ v _ h1 (hv.but hb1 h2 hlt) hvb hk.opened (LiveD.opened d1 df l1 hw)).mono (by
    rintro x w' ⟨u,rfl,r1,h3,h4⟩
    exact⟨u,rfl,r1.lower (From.le hb1.size),h3,h4⟩))
  (λw1 w2 rv _ hb r1=>r1.keep (hb.keeps hlt hvl))
theorem dosL_step{T:List Tok}{d:Int->S->S×Do}{k:Nat}{Jk:S}{l:List Do}{A:S×List Do}(h:Hid (A=K.dosL T d (T.length-k) Jk l))(hk:k<T.length)(e:K.isW [40] (tk T Jk.i)=true):
 Hid (A=K.dosL T d (T.length-(k+1)) (K.brkDo T d Jk).1 (l++[(K.brkDo T d Jk).2])):=by
 have:T.length-k=(T.length-(k+1))+1:=by omega
 rw[this,K.dosL,if_pos e]at h
 exact h
theorem dosL_stop{T:List Tok}{d:Int->S->S×Do}{m:Nat}{Jk:S}{l:List Do}(e:K.isW [40] (tk T Jk.i)=false):K.dosL T d m Jk l=(Jk,l):=by
 cases m with
 |zero=>rfl
 |succ m=>rw[K.dosL,if_neg (by rw[e];decide)]
theorem dos_k{b:Nat}{s:ByteArray}{T:List Tok}(hS:Scans s T)(h2:5<=b)(f:Nat)(hO:1<=f->DoK b s T f):DosK b s T f:=by
 intro w J v h hv hvb hk hl
 have hmf:∀(fn:Fn) (first cap:Array Value) (w:World),(Instr.makeFunc fn first cap).run Tryz.prog w=.ok (.func fn first cap) w:=λ_ _ _ _=>rfl
 obtain⟨i0,hi,hz0,hz1,hz2⟩:=info_parts info_do
 have hlt:=h.cells.lt
 have hvl:∀k,v.ownBlock=some k->k<w.heap.size:=λk hk=>(h.ne hk).2
 have hfew:=hS.few
 have HD:Hid (K.dos T f J=K.dosL T (K.doF T f) T.length J []):=rfl
 generalize HDD:K.dos T f J=DD at*
 go_enter Tryz.func106,Tryz.ntmps106
 go_wp2_with fail
 go_loopg [3] (T.length+1) (λgk q wr=>∃(lv:Value) (k:Nat) (Jk:S) (l:List Do) (us:List Value),lv=q/\Hid (DD=K.dosL T (K.doF T f) (T.length-k) Jk l)/\k<=Jk.i/\J.i<=Jk.i/\T.length-Jk.i<=gk/\CR wr b s T Jk v/\K.Keeps J Jk∧
  DRow (From w.heap.size) wr lv us/\Each (λk=>w.heap.size<=k/\lv.ownBlock≠some k) wr l us/\ButV b v w wr/\Hid (us.length=k))
 case atStart=>exact⟨_,0,J,[],[],rfl,HD,Nat.zero_le _,Nat.le_refl _,by omega,h,K.Keeps.rfl' J,⟨World.ownsRow_nil w 0 _ 1,λk e=>by simp[Value.ownBlock]at e⟩,by unfold Each;rfl,ButV.refl b v w,rfl⟩
 case round=>
  obtain⟨lv,k,Jk,l,us,hq,HA,hki,hmi,hgi,hrk,kk,dr,ea,bv,HL⟩:=hrel
  subst hq
  have c1:=hrk.c 1 _ rfl
  have hit:=hrk.lt
  cases e:K.isW [40] (tk T Jk.i)with
  |true=>
   have hil:Jk.i+1<T.length:=by
    by_cases hh:Jk.i=T.length-1
    · rw[hh,hS.last]at e
      unfold K.isW at e
      dsimp only at e
      rw[emptyL]at e
      exact absurd e (by decide)
    · omega
   obtain⟨d1,df,l1,fw⟩:J.depth<=10/\11-J.depth<=(f:Int)/\J.loops<=2/\Few J:=by
    rcases hl with hl |hl
    · exact hl
    · omega
   have V:=hv.butV bv h2 hlt hvb
   have hbr:=brkDo_k hS h2 (hO (by omega)) hrk V hvb (hk.keeps kk) (by rw[kk.depth];exact d1) (by rw[kk.depth];exact df) (by rw[kk.loops];exact l1) (fw.keeps kk)
   have HA':=dosL_step HA (by omega) e
   have ov:=K.brkDo_over f hil e
   have kk':=kk.trans (K.brkDo_keeps (T:=T) (K.doF_keeps T f) Jk)
   have e':((tk T Jk.i).s.toList==[40])=true:=e
   clear HA e hl hO
   generalize K.brkDo T (K.doF T f) Jk=E at*
   generalize tk T Jk.i=t at*
   have hul:us.length<=1000:=by have:=HL.out;omega
   go_wp2_with fail
   refine hbr.mono ?_
   rintro x w6 ⟨u,rfl,hd,hr6,hb6⟩
   have dr6:=dr.keep (hb6.keeps hlt hvl)
   have ea6:=ea.keep (w':=w6) λk h1 h3=>hb6.keeps hlt hvl k h1.1 h3
   have bv6:=bv.trans hb6
   have s6:=bv.size
   have lvlt:∀k,lv.ownBlock=some k->k<wr.heap.size:=λk hk=>by
    obtain⟨cur,hc⟩:=own_block dr.row hk
    exact blk_lt hc
   have hd6:DoIs (λk=>w.heap.size<=k/\lv.ownBlock≠some k) w6 E.2 u:=hd.lower λk h1 _=>⟨Nat.le_trans s6 h1,λe=>by have:=lvlt k e;have:wr.heap.size<=k:=h1;omega⟩
   have es:=Each.snoc hd6 ea6
   have hf:=hd.form
   clear hd hd6 ea6 hbr dr ea hb6
   rcases hf with⟨ut,ux,rfl⟩|rfl
   all_goals
    go_wp2_with (at_builtin;refine wpList_append_row1 _ rfl _ _ 82 rfl 151 i0 .nilIface 1 16 Tryz.underlying82 hi hz0 hz1 hz2 rfl (by decide) _ us.length us rfl (by exact World.ownsRow.alloc dr6.row _) ⟨w6.heap.size,0,none⟩ 1 1 [_] rfl rfl (by exact row_new w6 [_] _) (by intro u hu;simp only[List.mem_singleton]at hu;subst hu;rfl) (few_le (by omega)) (by omega) Nat.one_pos ?_;intro g cap w7 hv7 hg hkk;have gr:=Grew.of ((More.refl w6).alloc _) hg hkk;clear hg hkk)
    go_roundg (gk-1)
    case measure=>omega
    case rel=>
     have nb:lv.ownBlock≠some b:=λe=>by have:=dr6.lo b e;omega
     have ov7:=gr.own g rfl
     refine⟨_,k+1,E.1,l++[E.2],us++[_],rfl,HA',by omega,by omega,by omega,hr6.grew gr nb (λk e e'=>by have:=dr6.lo k e';have:=hvl k e;omega),kk',⟨by simpa using hv7,λk e=>?_⟩,?_,?_,by show _=_;rw[List.length_append,HL.out];rfl⟩
     · rcases gr.own k e with e' |e'
       · exact dr6.lo k e'
       · have:=bv6.size;show w.heap.size<=k;omega
     · have es2:=es.lower (B':=λk=>(w.heap.size<=k/\lv.ownBlock≠some k)/\(Value.slice (some ⟨g,0,none⟩) (us.length+1) cap).ownBlock≠some k) (λk h1 h3=>⟨h1,λe=>by
        rcases gr.own k e with e' |e'
        · exact h1.2 e'
        · omega⟩)
       exact(es2.keep (w':=w7) λk h1 h3=>gr.block k h3 h1.1.2).lower λk h1 _=>⟨h1.1.1,h1.2⟩
     · have z6:=bv6.size
       exact⟨gr.os.trans bv6.os,gr.tape.trans bv6.tape,gr.output.trans bv6.output,Nat.le_trans z6 gr.size,λk h1 h3 h4=>(gr.block k (by omega) (λe=>by have:w.heap.size<=k:=dr6.lo k e;omega)).trans (bv6.block k h1 h3 h4)⟩
  |false=>
   have HX:=hide (HA.out.trans (dosL_stop e))
   have e':((tk T Jk.i).s.toList==[40])=false:=e
   clear HA e hl hO
   generalize tk T Jk.i=t at*
   go_wp2_with fail
   go_ret
   rw[HX.out]
   exact⟨_,us,rfl,dr,ea.lower (λk h1 _=>h1.1),hrk,bv⟩
theorem dosAll_k{b:Nat}{s:ByteArray}{T:List Tok}(hS:Scans s T)(h2:5<=b)(f:Nat):DosK b s T f:=by
 induction f with
 |zero=>exact dos_k hS h2 0 (λh=>by omega)
 |succ f ih=>exact dos_k hS h2 (f+1) (λ_=>do_k hS h2 ih)
def K.dcl(T:List Tok)(J:S):S:=K.closed T (K.decl T (tk T J.i).p (K.opened T J))
def K.dclN(T:List Tok)(J:S):Nm:=K.declN T (tk T J.i).p (K.opened T J)
def K.adds(n:Nm)(J:S):S:={J with names:=J.names++[n],words:=IntKind.i64.wrap (J.words+n.size)}
def K.isDcl(T:List Tok)(J:S):Bool:=K.isW [40] (tk T J.i)&&R.isDecl (tk T (K.nx T J.i)).s.toList
def K.declsL(T:List Tok):Nat->S->S
 |0,J=>J
 |m+1,J=>if K.isDcl T J=true then K.declsL T m (K.adds (K.dclN T J) (K.dcl T J))else J
theorem K.array_keeps(T:List Tok)(J:S):K.Keeps J (K.array T J):=(((K.step_keeps T J).trans (K.take_keeps T _ _)).trans (K.newName_keeps T _)).trans (K.take_keeps T _ _)
theorem K.array_fwd(T:List Tok)(J:S):K.Fwd T J (K.array T J):=(((K.step_fwd T J).trans (K.take_fwd T _ _)).trans (K.newName_fwd T _)).trans (K.take_fwd T _ _)
theorem K.dec0_fwd(T:List Tok)(p:Int)(J:S):K.Fwd T J (K.dec0 T p J):=by
 unfold K.dec0;split
 · exact K.fail_fwd T _ _ _
 · exact K.Fwd.rfl' T J
theorem K.decl_keeps(T:List Tok)(p:Int)(J:S):K.Keeps J (K.decl T p J):=by
 unfold K.decl;split
 · exact(K.dec0_keeps T p J).trans (K.array_keeps T _)
 · exact((K.dec0_keeps T p J).trans (K.take_keeps T _ _)).trans (K.newName_keeps T _)
theorem K.decl_fwd(T:List Tok)(p:Int)(J:S):K.Fwd T J (K.decl T p J):=by
 unfold K.decl;split
 · exact(K.dec0_fwd T p J).trans (K.array_fwd T _)
 · exact((K.dec0_fwd T p J).trans (K.take_fwd T _ _)).trans (K.newName_fwd T _)
theorem K.dcl_keeps(T:List Tok)(J:S):K.Keeps J (K.dcl T J):=K.closed_keeps (K.decl_keeps T _ _)
theorem K.dcl_over{T:List Tok}{J:S}(h:J.i+1<T.length)(h40:K.isW [40] (tk T J.i)=true):J.i+1<=(K.dcl T J).i:=by
 have a:=K.opened_over h h40
 have b:=(K.opened_fwd T J (by omega)).2
 have c:=(((K.decl_fwd T (tk T J.i).p (K.opened T J)).trans (K.closed_fwd T _)) b).1
 exact Nat.le_trans a c
theorem dcl_k{w:World}{b:Nat}{s:ByteArray}{T:List Tok}{J:S}{v:Value}(hS:Scans s T)(h2:5<=b)(h:CR w b s T J v)(hv:K.Vars w)(d0:0<=J.depth)(d1:J.depth<=10)(hn:J.names.length<=1000):
 Calls Tryz.prog 104 #[PT b,.func (.func 105) #[PT b] #[]] w λx w'=>x=.returned (nmV (K.dclN T J))/\CR w' b s T (K.dcl T J) v/\But b w w':=
 inBr_name hS h d0 (by omega) (J4:=K.decl T (tk T J.i).p (K.opened T J)) (by rw[(K.decl_keeps T _ _).depth,K.opened_depth]) (K.declN T (tk T J.i).p (K.opened T J))
  (λw1 h1 hb1=>kdecl_c hS h1 (hv.but hb1 h2 h.cells.lt) h2 (by rw[show(K.opened T J).names=J.names from(K.op2_keeps T J).names];exact hn) _)
theorem declsL_step{T:List Tok}{k:Nat}{Jk A:S}(h:Hid (A=K.declsL T (T.length-k) Jk))(hk:k<T.length)(e:K.isDcl T Jk=true):Hid (A=K.declsL T (T.length-(k+1)) (K.adds (K.dclN T Jk) (K.dcl T Jk))):=by
 have:T.length-k=(T.length-(k+1))+1:=by omega
 rw[this,K.declsL,if_pos e]at h
 exact h
theorem declsL_stop{T:List Tok}{m:Nat}{Jk:S}(e:K.isDcl T Jk=false):K.declsL T m Jk=Jk:=by
 cases m with
 |zero=>rfl
 |succ m=>rw[K.declsL,if_neg (by rw[e];decide)]
def K.start:S:=⟨0,[],0,0,0,0,0⟩
def K.prog0(T:List Tok):S:=K.declsL T T.length K.start
def K.progS(T:List Tok):S:=K.expect T [] (K.dos T 11 (K.prog0 T)).1
def K.progD(T:List Tok):List Do:=(K.dos T 11 (K.prog0 T)).2
theorem tok_s(s p:Value)(w:World):(Instr.field 136 (.agg #[s,p]) 0).run Tryz.prog w=.ok s w:=by kernel_rfl
structure PB(T:List Tok)(k:Nat)(J:S):Prop where
 depth:J.depth=0
 loops:J.loops=0
 names:J.names.length=k
 few:(0<=J.words/\J.words<=6*k)∨J.i=T.length-1
theorem one_byte{s:ByteArray}(h:s.size=1):∃c,s.data.toList=[c]/\R.byteAt s 0=c:=by
 obtain⟨d⟩:=s
 have:d.size=1:=h
 obtain⟨c,rfl⟩:=Array.size_eq_one_iff.1 this
 exact⟨c,rfl,rfl⟩
theorem val_size{s:ByteArray}(h:R.isSize s=true):K.val s=((R.byteAt s 0).toNat:Int)-48/\1<=K.val s/\K.val s<=6:=by
 unfold R.isSize at h
 rw[Bool.and_eq_true,decide_eq_true_eq,decide_eq_true_eq]at h
 obtain⟨h1,h2,h3⟩:=h
 obtain⟨c,hc,hb⟩:=one_byte h1
 rw[hb]at h2 h3 ⊢
 have e:Lib.atoiAll s.data.toList=.ok ((c.toNat:Int)-48):=by
  rw[hc]
  unfold Lib.atoiAll
  have n1:¬c.toNat=43:=by omega
  have n2:¬c.toNat=45:=by omega
  simp only[n1,n2,or_self,if_false]
  unfold Lib.parseMag
  rw[if_neg (by simp)]
  simp only[Lib.parseUint10]
  rw[if_pos (by omega),if_neg (by omega),if_neg (by omega)]
  dsimp only
  rw[if_neg (by omega),if_neg (by simp)]
  congr 1
  omega
 unfold K.val
 rw[e]
 dsimp only
 omega
theorem dcl_size{T:List Tok}(hp:0<T.length)(J:S):(K.dcl T J).i=T.length-1∨(1<=(K.dclN T J).size/\(K.dclN T J).size<=6):=by
 unfold K.dcl K.dclN
 generalize K.opened T J=J0
 unfold K.decl K.declN
 by_cases ha:K.isArr (tk T (K.dec0 T (tk T J.i).p J0).i)=true
 · rw[if_pos ha,if_pos ha]
   generalize K.dec0 T (tk T J.i).p J0=J1
   unfold K.array K.arrayN
   by_cases hz:R.isSize (tk T (K.arrS3 T J1).i).s=true
   · right
     have:=val_size hz
     exact⟨this.2.1,this.2.2⟩
   · left
     refine(K.closed_fwd T _).last hp ?_
     unfold K.take
     rw[if_neg hz]
     exact K.here_i T _ _
 · rw[if_neg ha,if_neg ha]
   right
   exact⟨by show(1:Int)<=1;omega,by show(1:Int)<=6;omega⟩
theorem PB.next{T:List Tok}(hp:0<T.length){k:Nat}{J:S}(h:PB T k J)(hk:k<=1000)(hi:¬J.i=T.length-1):PB T (k+1) (K.adds (K.dclN T J) (K.dcl T J)):=by
 have kp:=K.dcl_keeps T J
 refine⟨?_,?_,?_,?_⟩
 · show(K.dcl T J).depth=0;rw[kp.depth];exact h.depth
 · show(K.dcl T J).loops=0;rw[kp.loops];exact h.loops
 · show((K.dcl T J).names++[_]).length=k+1;rw[kp.names];simp[h.names]
 · rcases dcl_size hp J with e |e
   · exact Or.inr e
   · left
     show 0<=IntKind.i64.wrap ((K.dcl T J).words+(K.dclN T J).size)/\IntKind.i64.wrap ((K.dcl T J).words+(K.dclN T J).size)<=6*((k+1:Nat):Int)
     rw[kp.words]
     rcases h.few with f |f
     · rw[k64 _ (by omega)];omega
     · exact absurd f hi
theorem start_pb(T:List Tok):PB T 0 K.start:=⟨rfl,rfl,rfl,Or.inl ⟨by decide,by decide⟩⟩
end Go.Proofs.YtejbgcloblpbfaaGreatDoor
