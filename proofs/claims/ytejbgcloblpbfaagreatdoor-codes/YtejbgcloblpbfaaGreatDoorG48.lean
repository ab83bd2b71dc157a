import Derived.Test.YtejbgcloblpbfaaGreatDoorG45
set_option maxHeartbeats 4000000
set_option maxRecDepth 100000
namespace Go.Proofs.YtejbgcloblpbfaaGreatDoor
open Go.RowKit
open K (Nm Ex Do)
namespace Y
def Full(w:World)(g n:Nat)(v:Int):Prop:=∀j,j<n->w.cell? ⟨g,5*j,none⟩=some (.int .i64 15)/\w.cell? ⟨g,5*j+1,none⟩=some (.int .i64 v)/\w.cell? ⟨g,5*j+2,none⟩=some (.int .i64 0)/\w.cell? ⟨g,5*j+3,none⟩=some (.int .i64 0)/\w.cell? ⟨g,5*j+4,none⟩=some (.int .i64 0)
theorem Full.keep{w w':World}{g n:Nat}{v:Int}(h:Full w g n v)(hb:w'.heap[g]?=w.heap[g]?):Full w' g n v:=λj hj=>by
 obtain⟨a,b,c,d,e⟩:=h j hj
 have k:∀o,w'.cell? ⟨g,o,none⟩=w.cell? ⟨g,o,none⟩:=λo=>World.cell?_of_block (a:=⟨g,o,none⟩) hb
 exact⟨(k _).trans a,(k _).trans b,(k _).trans c,(k _).trans d,(k _).trans e⟩
structure Trio(w:World)(lo hi h:Nat)(v:Int):Prop where
 rows:∀i,i<3->∃g n c,w.cell? ⟨h,i,none⟩=some (.slice (some ⟨g,0,none⟩) n c)/\n<=200000/\(lo<=g/\g<hi)/\Full w g n v
 own:lo<=h/\h<hi
theorem Trio.keep{w w':World}{lo hi h:Nat}{v:Int}(t:Trio w lo hi h v)(hb:∀k,lo<=k->k<hi->w'.heap[k]?=w.heap[k]?):Trio w' lo hi h v:=by
 refine⟨λi hi=>?_,t.own⟩
 obtain⟨g,n,c,h1,h2,h3,h4⟩:=t.rows i hi
 exact⟨g,n,c,(World.cell?_of_block (hb h t.own.1 t.own.2)).trans h1,h2,h3,h4.keep (hb g h3.1 h3.2)⟩
theorem reads_c{lo hi h:Nat}{v:Int}{w:World}(t:Trio w lo hi h v)(hhi:hi<=w.heap.size):
 Calls Tryz.prog 29 #[.slice (some ⟨h,0,none⟩) 3 3,.agg #[.int .i64 15,.int .i64 v,.int .i64 0,.int .i64 0,.int .i64 0]] w λx w'=>x=.returned (.bool true)/\Below w.heap.size w w':=by
 obtain⟨W0,hW0⟩:∃W0,w.alloc (.cells #[.int .i64 15,.int .i64 v,.int .i64 0,.int .i64 0,.int .i64 0] 58 (0,0))=W0:=⟨_,rfl⟩
 have B0:Below w.heap.size w W0:=by rw[<-hW0];exact(Below.refl _ _).alloc (Nat.le_refl _) _
 have bx:At W0 w.heap.size 58 [.int .i64 15,.int .i64 v,.int .i64 0,.int .i64 0,.int .i64 0]:=by rw[<-hW0];exact At.alloc_new w _ _
 have t0:=t.keep (w':=W0) λk _ hk=>B0.block k (by omega)
 have HT:=hide t0
 have HB:=hide B0
 have HX:=hide bx
 have lbx:=bx.lt
 have lh:h<W0.heap.size:=by have:=t.own.2;have:=B0.size;omega
 clear t t0 B0 bx
 go_enter Tryz.func29,Tryz.ntmps29
 go_wp2_with fail
 go_loopg [5,6] 3 (λgk i _ wr=>∃k:Nat,k+gk=3/\i=.int .i64 (k:Int)/\∃m,wr=W0.drewN m)
 case atStart=>exact⟨0,rfl,rfl,0,rfl⟩
 case round=>
  obtain⟨k,hk,rfl,m,hsm⟩:=hrel
  subst hsm
  cases gk with
  |zero=>
   have hz:¬((k:Int)<3):=by omega
   go_wp2_with fail
   go_ret
   exact⟨rfl,below_dN HB.out _⟩
  |succ g1=>
   have hz:(k:Int)<3:=by omega
   obtain⟨g,n,c,hc,hn,hg,hfull⟩:=HT.out.rows k (by omega)
   have HF:=hide hfull
   have HC:=hide hc
   have hc':(W0.drewN m).cell? ⟨h,k,none⟩=some (.slice (some ⟨g,0,none⟩) n c):=hc
   have lg:g<W0.heap.size:=by have:=HB.out.size;omega
   clear hfull hc
   go_wp2_with fail
   go_loopg [6] n (λg2 kk wy=>∃p:Nat,p+g2=n/\kk=.int .i64 (p:Int)/\∃m,wy=W0.drewN m)
   case atStart=>exact⟨0,by omega,rfl,m,rfl⟩
   case round=>
    obtain⟨p,hp,rfl,m,hsm⟩:=hrel
    subst hsm
    have hc2:(W0.drewN m).cell? ⟨h,k,none⟩=some (.slice (some ⟨g,0,none⟩) n c):=HC.out
    cases gk with
    |zero=>
     have hy:¬((p:Int)<(n:Int)):=by omega
     go_wp2_with fail
     go_roundg g1
     case measure=>omega
     case rel=>exact⟨k+1,by omega,by go_num,m,rfl⟩
    |succ g2=>
     have hy:(p:Int)<(n:Int):=by omega
     obtain⟨q0,q1,q2,q3,q4⟩:=HF.out p (by omega)
     have e5:p*5=5*p:=by omega
     have k0:=HX.out.cell 0
     have k1:=HX.out.cell 1
     have k2:=HX.out.cell 2
     have k3:=HX.out.cell 3
     have k4:=HX.out.cell 4
     simp only[List.getElem?_cons_zero,List.getElem?_cons_succ]at k0 k1 k2 k3 k4
     generalize hWm:W0.drewN m=Wm at*
     have r0:Wm.cell? ⟨g,5*p,none⟩=some (.int .i64 15):=by rw[<-hWm];exact q0
     have r1:Wm.cell? ⟨g,5*p+1,none⟩=some (.int .i64 v):=by rw[<-hWm];exact q1
     have r2:Wm.cell? ⟨g,5*p+2,none⟩=some (.int .i64 0):=by rw[<-hWm];exact q2
     have r3:Wm.cell? ⟨g,5*p+3,none⟩=some (.int .i64 0):=by rw[<-hWm];exact q3
     have r4:Wm.cell? ⟨g,5*p+4,none⟩=some (.int .i64 0):=by rw[<-hWm];exact q4
     have b0:Wm.cell? ⟨w.heap.size,0,none⟩=some (.int .i64 15):=by rw[<-hWm];exact k0
     have b1:Wm.cell? ⟨w.heap.size,1,none⟩=some (.int .i64 v):=by rw[<-hWm];exact k1
     have b2:Wm.cell? ⟨w.heap.size,2,none⟩=some (.int .i64 0):=by rw[<-hWm];exact k2
     have b3:Wm.cell? ⟨w.heap.size,3,none⟩=some (.int .i64 0):=by rw[<-hWm];exact k3
     have b4:Wm.cell? ⟨w.heap.size,4,none⟩=some (.int .i64 0):=by rw[<-hWm];exact k4
     go_upto_region 5 with fail
     go_upto_region 7 with fail
     go_quiet (fail)
     go_wp2_with fail
     go_roundg g2
     case measure=>omega
     case rel=>exact⟨p+1,by omega,by go_num,_,by rw[<-hWm,World.drewN_drewN]⟩
def vcell(v:Int)(j:Nat):Value:=.int .i64 (if j%5=0 then 15 else if j%5=1 then v else 0)
def Pat(w:World)(g N:Nat)(v:Int):Prop:=∀j,j<N->w.cell? ⟨g,j,none⟩=some (vcell v j)
theorem Pat.full{w:World}{g n:Nat}{v:Int}(h:Pat w g (5*n) v):Full w g n v:=λj hj=>by
 have e0:=h (5*j) (by omega)
 have e1:=h (5*j+1) (by omega)
 have e2:=h (5*j+2) (by omega)
 have e3:=h (5*j+3) (by omega)
 have e4:=h (5*j+4) (by omega)
 unfold vcell at e0 e1 e2 e3 e4
 rw[if_pos (by omega)]at e0
 rw[if_neg (by omega),if_pos (by omega)]at e1
 rw[if_neg (by omega),if_neg (by omega)]at e2 e3 e4
 exact⟨e0,e1,e2,e3,e4⟩
theorem Pat.keep{w w':World}{g N:Nat}{v:Int}(h:Pat w g N v)(hb:w'.heap[g]?=w.heap[g]?):Pat w' g N v:=λj hj=>(World.cell?_of_block (a:=⟨g,j,none⟩) hb).trans (h j hj)
structure LRow(w:World)(g n cap:Nat)(v:Int):Prop where
 room:∀j,j<5*cap->(w.cell? ⟨g,j,none⟩).isSome=true/\w.frozen? ⟨g,j,none⟩=false
 le:n<=cap
 pat:Pat w g (5*n) v
 lt:g<w.heap.size
theorem LRow.keep{w w':World}{g n cap:Nat}{v:Int}(h:LRow w g n cap v)(hb:w'.heap[g]?=w.heap[g]?)(hs:w.heap.size<=w'.heap.size):LRow w' g n cap v:=
 ⟨λj hj=>⟨by rw[World.cell?_of_block (a:=⟨g,j,none⟩) hb];exact(h.room j hj).1,by rw[World.frozen?_of_block (a:=⟨g,j,none⟩) hb];exact(h.room j hj).2⟩,h.le,h.pat.keep hb,by have:=h.lt;omega⟩
theorem LRow.alloc{w:World}{g n cap:Nat}{v:Int}(h:LRow w g n cap v)(o:Obj):LRow (w.alloc o) g n cap v:=h.keep (heap_alloc_old _ _ _ h.lt) (by rw[size_alloc];omega)
structure News(w:World)(g blk m:Nat)(v:Int):Prop where
 pat:Pat w blk (5*m) v
 ne:blk≠g
 lt:blk<w.heap.size
theorem News.but{w w':World}{g blk m:Nat}{v:Int}(h:News w g blk m v)(B:But g w w'):News w' g blk m v:=⟨h.pat.keep (B.block blk h.lt h.ne),h.ne,by have:=h.lt;have:=B.size;omega⟩
theorem News.alloc{w:World}{g blk m:Nat}{v:Int}(h:News w g blk m v)(o:Obj):News (w.alloc o) g blk m v:=⟨h.pat.keep (heap_alloc_old _ _ _ h.lt),h.ne,by rw[size_alloc];have:=h.lt;omega⟩
theorem news_of{w:World}{g m:Nat}{v:Int}{l:List Value}(hg:g<w.heap.size)(hl:∀j,j<5*m->l[j]?=some (vcell v j)):News (w.alloc (.cells l.toArray 58 (0,0))) g w.heap.size m v:=
 ⟨λj hj=>((At.alloc_new w l 58).cell j).trans (hl j hj),by omega,by rw[size_alloc];omega⟩
theorem pat_get(v:Int){m j:Nat}(h:j<5*m):((List.range (5*m)).map (vcell v))[j]?=some (vcell v j):=by rw[List.getElem?_map,List.getElem?_range h];rfl
theorem vcell_add(v:Int)(n j:Nat):vcell v (5*n+j)=vcell v j:=by unfold vcell;rw[show(5*n+j)%5=j%5 by omega]
theorem but_setCells(g:Nat):∀(vs:List Value) (o:Nat) (w:World),But g w (w.setCells g o vs)
 |[],o,w=>by rw[World.setCells];exact But.refl _ _
 |u::vs,o,w=>by rw[World.setCells];exact((But.refl g w).set o u).trans (but_setCells g vs (o+1) _)
theorem fill_append{w:World}{g n cap blk m c:Nat}{v:Int}(ty:TypeId)(L:LRow w g n cap v)(N:News w g blk m v)(hlim:n+m<=1000000)(hm:0<m):
 ∃g' c' w',(Builtin.append_ #[52,52] ty #[.slice (some ⟨g,0,none⟩) n cap,.slice (some ⟨blk,0,none⟩) m c]).run Tryz.prog w=.ok (.slice (some ⟨g',0,none⟩) (n+m) c') w'/\LRow w' g n cap v/\Pat w' g' (5*(n+m)) v/\But g w w'/\(g'=g∨w.heap.size<=g')/\g'<w'.heap.size/\∀K,Pat w g K v->Pat w' g K v:=by
 obtain⟨i,hi,hz,hsz,hby⟩:=info_parts info_ins
 have hl:((List.range (5*m)).map (vcell v)).length=m*5:=by simp;omega
 have ea:∀(k j:Nat),(⟨k,0,none⟩:Addr).add j=⟨k,j,none⟩:=λk j=>by unfold Addr.add;split<;>simp_all
 have hnews:∀(j:Nat) u,((List.range (5*m)).map (vcell v))[j]?=some u->w.cell? ((⟨blk,0,none⟩:Addr).add j)=some u:=λj u hu=>by
  have hj:j<5*m:=by have:=(List.getElem?_eq_some_iff.1 hu).1;simpa using this
  rw[ea,N.pat j hj,<-hu,pat_get v hj]
 have hone:∀u∈(List.range (5*m)).map (vcell v),u.oneCell'=true:=λu hu=>by
  obtain⟨j,_,rfl⟩:=List.mem_map.1 hu
  rfl
 by_cases hroom:n+m<=cap
 · have hr:=run_append_room_cells (P:=Tryz.prog) w 52 ty 58 i Tryz.underlying52 hi g 0 n cap ⟨blk,0,none⟩ m c _ (by rw[hsz];exact hl) hnews hone hroom
    (λj hj=>(L.room _ (by rw[hsz];rw[hl]at hj;omega)).1) (λj hj=>(L.room _ (by rw[hsz];rw[hl]at hj;omega)).2)
   rw[hsz,Nat.zero_add]at hr
   have hin:=λj hj=>World.cell?_setCells_in g ((List.range (5*m)).map (vcell v)) (n*5) w (λj hj=>(L.room _ (by rw[hl]at hj;omega)).1) j hj
   have hcell:∀j,j<5*m->(w.setCells g (n*5) ((List.range (5*m)).map (vcell v))).cell? ⟨g,n*5+j,none⟩=some (vcell v (n*5+j)):=λj hj=>by
    rw[hin j (by rw[hl];omega),Nat.mul_comm n 5,vcell_add]
    simp
   have hout:∀j,(j<n*5∨n*5+m*5<=j)->(w.setCells g (n*5) ((List.range (5*m)).map (vcell v))).cell? ⟨g,j,none⟩=w.cell? ⟨g,j,none⟩:=λj hj=>World.cell?_setCells_out g _ _ _ _ (λ_ _=>by rw[hl];exact hj)
   have hall:∀K,Pat w g K v->Pat (w.setCells g (n*5) ((List.range (5*m)).map (vcell v))) g K v:=λK hK j hj=>by
    by_cases h1:j<n*5∨n*5+m*5<=j
    · rw[hout j h1];exact hK j hj
    · obtain⟨k,rfl⟩:∃k,j=n*5+k:=⟨j-n*5,by omega⟩
      exact hcell k (by omega)
   have hB:=but_setCells g ((List.range (5*m)).map (vcell v)) (n*5) w
   refine⟨g,cap,_,hr,⟨λj hj=>⟨?_,by rw[World.frozen?_setCells];exact(L.room j hj).2⟩,L.le,hall _ L.pat,by have:=L.lt;have:=hB.size;omega⟩,λj hj=>?_,hB,Or.inl rfl,by have:=L.lt;have:=hB.size;omega,hall⟩
   · by_cases h1:j<n*5∨n*5+m*5<=j
     · rw[hout j h1];exact(L.room j hj).1
     · obtain⟨k,rfl⟩:∃k,j=n*5+k:=⟨j-n*5,by omega⟩
       rw[hcell k (by omega)];rfl
   · by_cases h1:j<n*5
     · rw[hout j (Or.inl h1)];exact L.pat j (by omega)
     · obtain⟨k,rfl⟩:∃k,j=n*5+k:=⟨j-n*5,by omega⟩
       exact hcell k (by omega)
 · obtain⟨v',w',hr,k2,k3⟩:=run_append_arg_grows (P:=Tryz.prog) w 52 ty 58 i _ 5 40 Tryz.underlying52 hi hz hsz hby rfl (by decide) ⟨g,0,none⟩ n cap ((List.range (5*n)).map (vcell v)) (by simp;omega)
    (λj u hu=>by
      have hj:j<5*n:=by have:=(List.getElem?_eq_some_iff.1 hu).1;simpa using this
      rw[ea,L.pat j hj,<-hu,pat_get v hj])
    ⟨blk,0,none⟩ m c _ hl hnews (by omega) (by unfold maxLen;omega) (by omega)
   obtain⟨g',c',rfl⟩:=Joins.ownsRow_form k2 (by omega)
   obtain⟨_,⟨h0,_⟩|⟨g2,cap2,cur,e1,hb,hg,_,_,hs,ht⟩⟩:=k2
   · cases h0
   · cases e1
     have hB:But g w w':=⟨k3.os,k3.tape,k3.output,k3.size,λk hk _=>k3.block k hk (by simp)⟩
     refine⟨g',c',w',hr,L.keep (k3.block g L.lt (by simp)) k3.size,λj hj=>?_,hB,Or.inr hb,heap_lt hg,λK hK=>hK.keep (k3.block g L.lt (by simp))⟩
     have e2:(cur.toList.take ((n+m)*5))[j]?=some (vcell v j):=by
      rw[ht]
      by_cases h1:j<5*n
      · rw[List.getElem?_append_left (by simpa using h1),pat_get v h1]
      · rw[List.getElem?_append_right (by simp;omega)]
        simp only[List.length_map,List.length_range]
        rw[pat_get v (by omega),<-vcell_add v n,show 5*n+(j-5*n)=j by omega]
     rw[List.getElem?_take_of_lt (by omega)]at e2
     simp[World.cell?,hg]
     simpa using e2
theorem step_fill{ops:Array Oper}{o:Oper}{a:Act}{w:World}{K:Act->World->Prop}{Q:Exit->Act->World->Prop}{E:Prop}(hgd:o.guard=none)(s x:Operand)(hop:o.op=Op.call {callee:=Callee.builtin Builtin.append,args:=#[s,x],argTypes:=#[52,52]}){g n cap blk m c:Nat}{v:Int}(hs:a.eval s=.slice (some ⟨g,0,none⟩) n cap)(hx:a.eval x=.slice (some ⟨blk,0,none⟩) m c)(L:LRow w g n cap v)(N:News w g blk m v)(hlim:n+m<=1000000)(hm:0<m)(hK:∀g' c' w',LRow w' g n cap v->Pat w' g' (5*(n+m)) v->But g w w'->(g'=g∨w.heap.size<=g')->g'<w'.heap.size->(∀K,Pat w g K v->Pat w' g K v)->K (a.put o.dst (.slice (some ⟨g',0,none⟩) (n+m) c')) w'):
 if Region.wanted o (yielded ops a.tmps)=true then Oper.wp Tryz.prog o a w K Q else E:=by
 have hw:Region.wanted o (yielded ops a.tmps)=true:=by simp[Region.wanted,hgd]
 rw[if_pos hw]
 obtain⟨g',c',w',hr,h1,h2,h3,h4,h5,h6⟩:=fill_append (c:=c) o.type L N hlim hm
 unfold Oper.wp execOp
 simp only[hop,resolve,invoke,builtin,Sem.run_bind,Sem.run_pure,Result.andThen_ok,List.map_toArray,List.map_cons,List.map_nil,hs,hx,hr]
 exact hK g' c' w' h1 h2 h3 h4 h5 h6
structure FS(w:World)(g n cap:Nat)(v:Int)(X:Nat):Prop where
 row:LRow w g n cap v
 box:At w X 58 [.int .i64 15,.int .i64 v,.int .i64 0,.int .i64 0,.int .i64 0]
 ne:X≠g
theorem FS.alloc{w:World}{g n cap X:Nat}{v:Int}(h:FS w g n cap v X)(o:Obj):FS (w.alloc o) g n cap v X:=⟨h.row.alloc o,h.box.of_block (heap_alloc_old _ _ _ h.box.lt),h.ne⟩
theorem FS.but{w w':World}{g n cap X:Nat}{v:Int}(h:FS w g n cap v X)(r:LRow w' g n cap v)(B:But g w w'):FS w' g n cap v X:=⟨r,h.box.of_block (B.block X h.box.lt h.ne),h.ne⟩
theorem FS.held{w:World}{g n cap X:Nat}{v:Int}(h:FS w g n cap v X):w.cell? ⟨X,0,none⟩=some (.int .i64 15)/\w.cell? ⟨X,1,none⟩=some (.int .i64 v)/\w.cell? ⟨X,2,none⟩=some (.int .i64 0)/\w.cell? ⟨X,3,none⟩=some (.int .i64 0)/\w.cell? ⟨X,4,none⟩=some (.int .i64 0):=⟨h.box.cell 0,h.box.cell 1,h.box.cell 2,h.box.cell 3,h.box.cell 4⟩
theorem trio_of{W:World}{g n cc gA cA gB cB lo:Nat}{v:Int}(p0:Pat W g (5*n) v)(pA:Pat W gA (5*(n+1)) v)(pB:Pat W gB (5*(n+6)) v)(hn:n<=100000)(l0:g<W.heap.size)(lA:gA<W.heap.size)(lB:gB<W.heap.size)(o0:lo<=g)(oA:lo<=gA)(oB:lo<=gB):
 Trio (W.alloc (.cells #[.slice (some ⟨g,0,none⟩) n cc,.slice (some ⟨gA,0,none⟩) (n+1) cA,.slice (some ⟨gB,0,none⟩) (n+6) cB] 52 (0,0))) lo (W.alloc (.cells #[.slice (some ⟨g,0,none⟩) n cc,.slice (some ⟨gA,0,none⟩) (n+1) cA,.slice (some ⟨gB,0,none⟩) (n+6) cB] 52 (0,0))).heap.size W.heap.size v:=by
 have a:=At.alloc_new W [.slice (some ⟨g,0,none⟩) n cc,.slice (some ⟨gA,0,none⟩) (n+1) cA,.slice (some ⟨gB,0,none⟩) (n+6) cB] 52
 refine⟨λi hi=>?_,by rw[size_alloc];omega⟩
 match i,hi with
 |0,_=>exact⟨g,n,cc,a.cell 0,by omega,⟨o0,by rw[size_alloc];omega⟩,(p0.keep (heap_alloc_old _ _ _ l0)).full⟩
 |1,_=>exact⟨gA,n+1,cA,a.cell 1,by omega,⟨oA,by rw[size_alloc];omega⟩,(pA.keep (heap_alloc_old _ _ _ lA)).full⟩
 |2,_=>exact⟨gB,n+6,cB,a.cell 2,by omega,⟨oB,by rw[size_alloc];omega⟩,(pB.keep (heap_alloc_old _ _ _ lB)).full⟩
theorem step_fs{ops:Array Oper}{o:Oper}{a:Act}{w:World}{K:Act->World->Prop}{Q:Exit->Act->World->Prop}{E:Prop}(hgd:o.guard=none)(s x:Operand)(hop:o.op=Op.call {callee:=Callee.builtin Builtin.append,args:=#[s,x],argTypes:=#[52,52]}){g n cap blk m c X:Nat}{v:Int}(hs:a.eval s=.slice (some ⟨g,0,none⟩) n cap)(hx:a.eval x=.slice (some ⟨blk,0,none⟩) m c)(L:FS w g n cap v X)(N:News w g blk m v)(hlim:n+m<=1000000)(hm:0<m)(hK:∀g' c' w',FS w' g n cap v X->Pat w' g' (5*(n+m)) v->But g w w'->(g'=g∨w.heap.size<=g')->g'<w'.heap.size->(∀K,Pat w g K v->Pat w' g K v)->K (a.put o.dst (.slice (some ⟨g',0,none⟩) (n+m) c')) w'):
 if Region.wanted o (yielded ops a.tmps)=true then Oper.wp Tryz.prog o a w K Q else E:=
 step_fill hgd s x hop hs hx L.row N hlim hm λg' c' w' h1 h2 h3=>hK g' c' w' (L.but h1 h3) h2 h3
theorem Pat.on{w w':World}{g g1 K:Nat}{v:Int}(h:Pat w g1 K v)(B:But g w w')(U:∀K,Pat w g K v->Pat w' g K v)(hl:g1<w.heap.size):Pat w' g1 K v:=by
 by_cases e:g1=g
 · subst e;exact U K h
 · exact h.keep (B.block g1 hl e)
def Room(w:World)(g cap:Nat):Prop:=∀j,j<5*cap->(w.cell? ⟨g,j,none⟩).isSome=true/\w.frozen? ⟨g,j,none⟩=false
theorem fill_one{w:World}{g k cap:Nat}{v:Int}(hk:k<cap)(R:Room w g cap)(P:Pat w g (5*k) v):Room (w.setCells g (5*k) [.int .i64 15,.int .i64 v,.int .i64 0,.int .i64 0,.int .i64 0]) g cap/\Pat (w.setCells g (5*k) [.int .i64 15,.int .i64 v,.int .i64 0,.int .i64 0,.int .i64 0]) g (5*(k+1)) v:=by
 have hin:=λj hj=>World.cell?_setCells_in g [.int .i64 15,.int .i64 v,.int .i64 0,.int .i64 0,.int .i64 0] (5*k) w (λj hj=>(R _ (by simp at hj;omega)).1) j hj
 have hout:∀j,(j<5*k∨5*k+5<=j)->(w.setCells g (5*k) [.int .i64 15,.int .i64 v,.int .i64 0,.int .i64 0,.int .i64 0]).cell? ⟨g,j,none⟩=w.cell? ⟨g,j,none⟩:=λj hj=>World.cell?_setCells_out g _ _ _ _ (λ_ _=>hj)
 have hcell:∀i,i<5->(w.setCells g (5*k) [.int .i64 15,.int .i64 v,.int .i64 0,.int .i64 0,.int .i64 0]).cell? ⟨g,5*k+i,none⟩=some (vcell v (5*k+i)):=λi hi=>by
  rw[hin i (by simpa using hi),vcell_add]
  match i,hi with
  |0,_=>rfl
  |1,_=>rfl
  |2,_=>rfl
  |3,_=>rfl
  |4,_=>rfl
 refine⟨λj hj=>⟨?_,by rw[World.frozen?_setCells];exact(R j hj).2⟩,λj hj=>?_⟩
 · by_cases h1:j<5*k∨5*k+5<=j
   · rw[hout j h1];exact(R j hj).1
   · obtain⟨i,rfl⟩:∃i,j=5*k+i:=⟨j-5*k,by omega⟩
     rw[hcell i (by omega)];rfl
 · by_cases h1:j<5*k
   · rw[hout j (Or.inl h1)];exact P j h1
   · obtain⟨i,rfl⟩:∃i,j=5*k+i:=⟨j-5*k,by omega⟩
     exact hcell i (by omega)
theorem some_of{o:Option Value}(h:o.isSome=true):∃u,o=some u:=Option.isSome_iff_exists.1 h
theorem pat6(v:Int):∀j,j<5*6->([.int .i64 15,.int .i64 v,.int .i64 0,.int .i64 0,.int .i64 0,.int .i64 15,.int .i64 v,.int .i64 0,.int .i64 0,.int .i64 0,.int .i64 15,.int .i64 v,.int .i64 0,.int .i64 0,.int .i64 0,.int .i64 15,.int .i64 v,.int .i64 0,.int .i64 0,.int .i64 0,.int .i64 15,.int .i64 v,.int .i64 0,.int .i64 0,.int .i64 0,.int .i64 15,.int .i64 v,.int .i64 0,.int .i64 0,.int .i64 0]:List Value)[j]?=some (vcell v j):=λj hj=>by
 obtain⟨n,i,rfl,hi⟩:∃n i,j=5*n+i/\i<5:=⟨j / 5,j%5,by omega,by omega⟩
 rw[vcell_add]
 match n,i,hi,hj with
 |0,0,_,_ |0,1,_,_ |0,2,_,_ |0,3,_,_ |0,4,_,_=>rfl
 |1,0,_,_ |1,1,_,_ |1,2,_,_ |1,3,_,_ |1,4,_,_=>rfl
 |2,0,_,_ |2,1,_,_ |2,2,_,_ |2,3,_,_ |2,4,_,_=>rfl
 |3,0,_,_ |3,1,_,_ |3,2,_,_ |3,3,_,_ |3,4,_,_=>rfl
 |4,0,_,_ |4,1,_,_ |4,2,_,_ |4,3,_,_ |4,4,_,_=>rfl
 |5,0,_,_ |5,1,_,_ |5,2,_,_ |5,3,_,_ |5,4,_,_=>rfl
 |n+6,i,hi,hj=>omega
theorem pat1(v:Int):∀j,j<5*1->([.int .i64 15,.int .i64 v,.int .i64 0,.int .i64 0,.int .i64 0]:List Value)[j]?=some (vcell v j):=λj hj=>by
 match j,hj with
 |0,_ |1,_ |2,_ |3,_ |4,_=>rfl
theorem filled_c{g n cc lo:Nat}{v:Int}{w:World}{xs:List Value}(hrow:w.ownsRow lo 58 5 (.slice (some ⟨g,0,none⟩) n cc) n xs)(hn:n<=100000):
 Calls Tryz.prog 28 #[.slice (some ⟨g,0,none⟩) n cc,.agg #[.int .i64 15,.int .i64 v,.int .i64 0,.int .i64 0,.int .i64 0]] w λx w'=>∃h,x=.returned (.slice (some ⟨h,0,none⟩) 3 3)/\Trio w' lo w'.heap.size h v/\But g w w':=by
 obtain⟨hgl,hgs⟩:=hrow.lt g rfl
 have hRm:Room w g cc/\n<=cc:=by
  obtain⟨_,⟨h0,_⟩|⟨g2,cap2,cur,e1,hb,hg,hnc,_,hs,ht⟩⟩:=hrow
  · cases h0
  · cases e1
    refine⟨λj hj=>⟨?_,by simp[World.frozen?,hg]⟩,hnc⟩
    simp[World.cell?,hg]
    omega
 obtain⟨W0,hW0⟩:∃W0,w.alloc (.cells #[.int .i64 15,.int .i64 v,.int .i64 0,.int .i64 0,.int .i64 0] 58 (0,0))=W0:=⟨_,rfl⟩
 have B0:Below w.heap.size w W0:=by rw[<-hW0];exact(Below.refl _ _).alloc (Nat.le_refl _) _
 have bx:At W0 w.heap.size 58 [.int .i64 15,.int .i64 v,.int .i64 0,.int .i64 0,.int .i64 0]:=by rw[<-hW0];exact At.alloc_new w _ _
 have hR0:Room W0 g cc:=λj hj=>⟨by rw[World.cell?_of_block (a:=⟨g,j,none⟩) (B0.block g hgs)];exact(hRm.1 j hj).1,by rw[World.frozen?_of_block (a:=⟨g,j,none⟩) (B0.block g hgs)];exact(hRm.1 j hj).2⟩
 have HR0:=hide hR0
 have HB0:=hide (below_but (g:=g) B0)
 have HX0:=hide bx
 have hnc:=hRm.2
 have lbx:=bx.lt
 have zW:=B0.size
 clear hrow hRm bx B0 hR0
 go_enter Tryz.func28,Tryz.ntmps28
 go_wp2_with fail
 go_loopg [5] n (λgk i wr=>∃k:Nat,k+gk=n/\i=.int .i64 (k:Int)/\Hid (Room wr g cc)/\Hid (Pat wr g (5*k) v)/\But g w wr/\At wr w.heap.size 58 [.int .i64 15,.int .i64 v,.int .i64 0,.int .i64 0,.int .i64 0])
 case atStart=>exact⟨0,by omega,rfl,HR0.out,λj hj=>by omega,HB0.out,HX0.out⟩
 case round=>
  obtain⟨k,hk,rfl,HR,HP,Bk,bk⟩:=hrel
  have k0:=bk.cell 0
  have k1:=bk.cell 1
  have k2:=bk.cell 2
  have k3:=bk.cell 3
  have k4:=bk.cell 4
  simp only[List.getElem?_cons_zero,List.getElem?_cons_succ]at k0 k1 k2 k3 k4
  have lbk:=bk.lt
  have zk:=Bk.size
  cases gk with
  |succ g1=>
   have hz:(k:Int)<(n:Int):=by omega
   obtain⟨u0,c0⟩:=some_of (HR.out (5*k) (by omega)).1
   obtain⟨u1,c1⟩:=some_of (HR.out (5*k+1) (by omega)).1
   obtain⟨u2,c2⟩:=some_of (HR.out (5*k+2) (by omega)).1
   obtain⟨u3,c3⟩:=some_of (HR.out (5*k+3) (by omega)).1
   obtain⟨u4,c4⟩:=some_of (HR.out (5*k+4) (by omega)).1
   have f0:=(HR.out (5*k) (by omega)).2
   have f1:=(HR.out (5*k+1) (by omega)).2
   have f2:=(HR.out (5*k+2) (by omega)).2
   have f3:=(HR.out (5*k+3) (by omega)).2
   have f4:=(HR.out (5*k+4) (by omega)).2
   have e5:k*5=5*k:=by omega
   have HF:=hide (fill_one (k:=k) (by omega:k<cc) HR.out HP.out)
   have HBn:=hide (Bk.trans (but_setCells g [.int .i64 15,.int .i64 v,.int .i64 0,.int .i64 0,.int .i64 0] (5*k) wr))
   have HXn:Hid (At (wr.setCells g (5*k) [.int .i64 15,.int .i64 v,.int .i64 0,.int .i64 0,.int .i64 0]) w.heap.size 58 [.int .i64 15,.int .i64 v,.int .i64 0,.int .i64 0,.int .i64 0]):=bk.of_block ((but_setCells g _ (5*k) wr).block _ lbk (by omega))
   clear Bk bk HR HP
   go_wp2_with fail
   go_roundg g1
   case measure=>omega
   case rel=>exact⟨k+1,by omega,by go_num,HF.out.1,HF.out.2,HBn.out,HXn.out⟩
  |zero=>
   obtain rfl:k=n:=by omega
   have hz:¬(k:Int)<(k:Int):=by omega
   have lg:g<wr.heap.size:=by omega
   have F0:Hid (FS wr.drew g k cc v w.heap.size):=⟨⟨HR.out,hnc,HP.out,lg⟩,bk.of_block rfl,by omega⟩
   have HBk:=hide Bk.drew
   have gl:g<wr.drew.heap.size:=lg
   have ne:w.heap.size≠g:=by omega
   clear HR HP Bk bk HR0 HB0 HX0
   go_upto_region 5 with fail
   refine wp_region_held_drew (S:=(fun(w':World)=>w'.cell? ⟨w.heap.size,0,none⟩=some (.int .i64 15)/\w'.cell? ⟨w.heap.size,1,none⟩=some (.int .i64 v)/\w'.cell? ⟨w.heap.size,2,none⟩=some (.int .i64 0)/\w'.cell? ⟨w.heap.size,3,none⟩=some (.int .i64 0)/\w'.cell? ⟨w.heap.size,4,none⟩=some (.int .i64 0))) (by kernel_rfl) F0.out.held (λhHeld=>?_)
   refine wpAnyH_take (i:=0) (v:=(.slice (some ⟨g,0,none⟩) k cc)) rfl (by kernel_rfl) (by kernel_rfl) (by kernel_rfl) (λ_ _ _ h=>h) (Or.inl ⟨by rfl,by intro w9 hSw;(try dsimp only at hSw);obtain⟨t1,t2,t3,t4,t5⟩:=hSw;clear k0 k1 k2 k3 k4;go_simp⟩) hHeld ?_
   refine wpAnyH_take (i:=1) (v:=(.slice (some ⟨g,0,none⟩) k cc)) rfl (by kernel_rfl) (by kernel_rfl) (by kernel_rfl) (λ_ _ _ h=>h) (Or.inl ⟨by rfl,by intro w9 hSw;(try dsimp only at hSw);obtain⟨t1,t2,t3,t4,t5⟩:=hSw;clear k0 k1 k2 k3 k4;go_simp⟩) hHeld ?_
   refine wpAnyH_take (i:=2) (v:=(.agg #[.int .i64 15,.int .i64 v,.int .i64 0,.int .i64 0,.int .i64 0])) rfl (by kernel_rfl) (by kernel_rfl) (by kernel_rfl) (λ_ _ _ h=>h) (Or.inl ⟨by rfl,by intro w9 hSw;(try dsimp only at hSw);obtain⟨t1,t2,t3,t4,t5⟩:=hSw;clear k0 k1 k2 k3 k4;go_simp⟩) hHeld ?_
   refine wpAnyH_take (i:=5) (v:=(.slice (some ⟨g,0,none⟩) k cc)) rfl (by kernel_rfl) (by kernel_rfl) (by kernel_rfl) (λ_ _ _ h=>h) (Or.inl ⟨by rfl,by intro w9 hSw;(try dsimp only at hSw);obtain⟨t1,t2,t3,t4,t5⟩:=hSw;clear k0 k1 k2 k3 k4;go_simp⟩) hHeld ?_
   refine wpAnyH_take (i:=6) (v:=(.agg #[.int .i64 15,.int .i64 v,.int .i64 0,.int .i64 0,.int .i64 0])) rfl (by kernel_rfl) (by kernel_rfl) (by kernel_rfl) (λ_ _ _ h=>h) (Or.inl ⟨by rfl,by intro w9 hSw;(try dsimp only at hSw);obtain⟨t1,t2,t3,t4,t5⟩:=hSw;clear k0 k1 k2 k3 k4;go_simp⟩) hHeld ?_
   refine wpAnyH_take (i:=7) (v:=(.agg #[.int .i64 15,.int .i64 v,.int .i64 0,.int .i64 0,.int .i64 0])) rfl (by kernel_rfl) (by kernel_rfl) (by kernel_rfl) (λ_ _ _ h=>h) (Or.inl ⟨by rfl,by intro w9 hSw;(try dsimp only at hSw);obtain⟨t1,t2,t3,t4,t5⟩:=hSw;clear k0 k1 k2 k3 k4;go_simp⟩) hHeld ?_
   refine wpAnyH_take (i:=8) (v:=(.agg #[.int .i64 15,.int .i64 v,.int .i64 0,.int .i64 0,.int .i64 0])) rfl (by kernel_rfl) (by kernel_rfl) (by kernel_rfl) (λ_ _ _ h=>h) (Or.inl ⟨by rfl,by intro w9 hSw;(try dsimp only at hSw);obtain⟨t1,t2,t3,t4,t5⟩:=hSw;clear k0 k1 k2 k3 k4;go_simp⟩) hHeld ?_
   refine wpAnyH_take (i:=9) (v:=(.agg #[.int .i64 15,.int .i64 v,.int .i64 0,.int .i64 0,.int .i64 0])) rfl (by kernel_rfl) (by kernel_rfl) (by kernel_rfl) (λ_ _ _ h=>h) (Or.inl ⟨by rfl,by intro w9 hSw;(try dsimp only at hSw);obtain⟨t1,t2,t3,t4,t5⟩:=hSw;clear k0 k1 k2 k3 k4;go_simp⟩) hHeld ?_
   refine wpAnyH_take (i:=10) (v:=(.agg #[.int .i64 15,.int .i64 v,.int .i64 0,.int .i64 0,.int .i64 0])) rfl (by kernel_rfl) (by kernel_rfl) (by kernel_rfl) (λ_ _ _ h=>h) (Or.inl ⟨by rfl,by intro w9 hSw;(try dsimp only at hSw);obtain⟨t1,t2,t3,t4,t5⟩:=hSw;clear k0 k1 k2 k3 k4;go_simp⟩) hHeld ?_
   refine wpAnyH_take (i:=11) (v:=(.agg #[.int .i64 15,.int .i64 v,.int .i64 0,.int .i64 0,.int .i64 0])) rfl (by kernel_rfl) (by kernel_rfl) (by kernel_rfl) (λ_ _ _ h=>h) (Or.inl ⟨by rfl,by intro w9 hSw;(try dsimp only at hSw);obtain⟨t1,t2,t3,t4,t5⟩:=hSw;clear k0 k1 k2 k3 k4;go_simp⟩) hHeld ?_
   generalize hWD:wr.drew=W at*
   clear hWD k0 k1 k2 k3 k4
   have F:=F0
   have BT:=HBk
   clear F0 HBk
   refine wpAnyH_ready (rs:=[3,12]) (by kernel_rfl) (by simp) ?_
   refine AllReadyH.cons rfl (λK hK=>?_) (AllReadyH.cons rfl (λK hK=>?_) AllReadyH.nil)
   · go_simp
     have NA':=hide (news_of F.out.row.lt (pat1 v):News (W.alloc (.cells #[.int .i64 15,.int .i64 v,.int .i64 0,.int .i64 0,.int .i64 0] 58 (0,0))) g W.heap.size 1 v)
     have F':=hide (F.out.alloc (.cells #[.int .i64 15,.int .i64 v,.int .i64 0,.int .i64 0,.int .i64 0] 58 (0,0)))
     have BT':=hide (BT.out.alloc (.cells #[.int .i64 15,.int .i64 v,.int .i64 0,.int .i64 0,.int .i64 0] 58 (0,0)))
     refine hK.out _ _ F'.out.held (λhHeld=>?_)
     clear hK K
     generalize W.alloc (.cells #[.int .i64 15,.int .i64 v,.int .i64 0,.int .i64 0,.int .i64 0] 58 (0,0))=W1 at*
     clear F BT
     have F:=F'
     have BT:=BT'
     have NA:=NA'
     clear F' BT' NA'
     obtain⟨W,rfl⟩:∃W:World,W=W1:=⟨_,rfl⟩
     refine wpAnyH_ready (rs:=[4,12]) (by kernel_rfl) (by simp) ?_
     refine AllReadyH.cons rfl (λK hK=>?_) (AllReadyH.cons rfl (λK hK=>?_) AllReadyH.nil)
     · refine step_fs rfl (.tmp 17) (.tmp 19) rfl rfl rfl F.out NA.out (by omega) (by decide) ?_
       intro gA cA w1 f1 p1 b1 o1 lA' u1
       have NA':=hide (NA.out.but b1)
       have PA':=hide p1
       have F':=hide f1
       have BT':=hide (BT.out.trans b1)
       have oA:lo<=gA:=by have:=BT.out.size;omega
       refine hK.out _ _ F'.out.held (λhHeld=>?_)
       clear hK K b1 u1 p1 f1
       clear F BT NA
       have F:=F'
       have BT:=BT'
       have PA:=PA'
       have lA:=lA'
       clear F' BT' PA' lA'
       obtain⟨W,rfl⟩:∃W:World,W=w1:=⟨_,rfl⟩
       refine wpAnyH_ready (rs:=[12]) (by kernel_rfl) (by simp) ?_
       refine AllReadyH.cons rfl (λK hK=>?_) AllReadyH.nil
       go_simp
       have PA':=hide (PA.out.keep (heap_alloc_old _ _ _ lA):Pat (W.alloc (.cells #[.int .i64 15,.int .i64 v,.int .i64 0,.int .i64 0,.int .i64 0,.int .i64 15,.int .i64 v,.int .i64 0,.int .i64 0,.int .i64 0,.int .i64 15,.int .i64 v,.int .i64 0,.int .i64 0,.int .i64 0,.int .i64 15,.int .i64 v,.int .i64 0,.int .i64 0,.int .i64 0,.int .i64 15,.int .i64 v,.int .i64 0,.int .i64 0,.int .i64 0,.int .i64 15,.int .i64 v,.int .i64 0,.int .i64 0,.int .i64 0] 58 (0,0))) gA _ v)
       have lA':gA<(W.alloc (.cells #[.int .i64 15,.int .i64 v,.int .i64 0,.int .i64 0,.int .i64 0,.int .i64 15,.int .i64 v,.int .i64 0,.int .i64 0,.int .i64 0,.int .i64 15,.int .i64 v,.int .i64 0,.int .i64 0,.int .i64 0,.int .i64 15,.int .i64 v,.int .i64 0,.int .i64 0,.int .i64 0,.int .i64 15,.int .i64 v,.int .i64 0,.int .i64 0,.int .i64 0,.int .i64 15,.int .i64 v,.int .i64 0,.int .i64 0,.int .i64 0] 58 (0,0))).heap.size:=by rw[size_alloc];omega
       have NB':=hide (news_of F.out.row.lt (pat6 v):News (W.alloc (.cells #[.int .i64 15,.int .i64 v,.int .i64 0,.int .i64 0,.int .i64 0,.int .i64 15,.int .i64 v,.int .i64 0,.int .i64 0,.int .i64 0,.int .i64 15,.int .i64 v,.int .i64 0,.int .i64 0,.int .i64 0,.int .i64 15,.int .i64 v,.int .i64 0,.int .i64 0,.int .i64 0,.int .i64 15,.int .i64 v,.int .i64 0,.int .i64 0,.int .i64 0,.int .i64 15,.int .i64 v,.int .i64 0,.int .i64 0,.int .i64 0] 58 (0,0))) g W.heap.size 6 v)
       have F':=hide (F.out.alloc (.cells #[.int .i64 15,.int .i64 v,.int .i64 0,.int .i64 0,.int .i64 0,.int .i64 15,.int .i64 v,.int .i64 0,.int .i64 0,.int .i64 0,.int .i64 15,.int .i64 v,.int .i64 0,.int .i64 0,.int .i64 0,.int .i64 15,.int .i64 v,.int .i64 0,.int .i64 0,.int .i64 0,.int .i64 15,.int .i64 v,.int .i64 0,.int .i64 0,.int .i64 0,.int .i64 15,.int .i64 v,.int .i64 0,.int .i64 0,.int .i64 0] 58 (0,0)))
       have BT':=hide (BT.out.alloc (.cells #[.int .i64 15,.int .i64 v,.int .i64 0,.int .i64 0,.int .i64 0,.int .i64 15,.int .i64 v,.int .i64 0,.int .i64 0,.int .i64 0,.int .i64 15,.int .i64 v,.int .i64 0,.int .i64 0,.int .i64 0,.int .i64 15,.int .i64 v,.int .i64 0,.int .i64 0,.int .i64 0,.int .i64 15,.int .i64 v,.int .i64 0,.int .i64 0,.int .i64 0,.int .i64 15,.int .i64 v,.int .i64 0,.int .i64 0,.int .i64 0] 58 (0,0)))
       refine hK.out _ _ F'.out.held (λhHeld=>?_)
       clear hK K
       generalize W.alloc (.cells #[.int .i64 15,.int .i64 v,.int .i64 0,.int .i64 0,.int .i64 0,.int .i64 15,.int .i64 v,.int .i64 0,.int .i64 0,.int .i64 0,.int .i64 15,.int .i64 v,.int .i64 0,.int .i64 0,.int .i64 0,.int .i64 15,.int .i64 v,.int .i64 0,.int .i64 0,.int .i64 0,.int .i64 15,.int .i64 v,.int .i64 0,.int .i64 0,.int .i64 0,.int .i64 15,.int .i64 v,.int .i64 0,.int .i64 0,.int .i64 0] 58 (0,0))=W1 at*
       clear F BT PA lA
       have F:=F'
       have BT:=BT'
       have PA:=PA'
       have lA:=lA'
       have NB:=NB'
       clear F' BT' PA' lA' NB'
       obtain⟨W,rfl⟩:∃W:World,W=W1:=⟨_,rfl⟩
       refine wpAnyH_ready (rs:=[13]) (by kernel_rfl) (by simp) ?_
       refine AllReadyH.cons rfl (λK hK=>?_) AllReadyH.nil
       refine step_fs rfl (.tmp 21) (.tmp 28) rfl rfl rfl F.out NB.out (by omega) (by decide) ?_
       intro gB cB w1 f1 p1 b1 o1 lB' u1
       have PA':=hide (PA.out.on b1 u1 lA)
       have lA':gA<w1.heap.size:=by have:=b1.size;omega
       have NB':=hide (NB.out.but b1)
       have PB':=hide p1
       have F':=hide f1
       have BT':=hide (BT.out.trans b1)
       have oB:lo<=gB:=by have:=BT.out.size;omega
       refine hK.out _ _ F'.out.held (λhHeld=>?_)
       clear hK K b1 u1 p1 f1
       clear F BT PA lA NB
       have F:=F'
       have BT:=BT'
       have PA:=PA'
       have lA:=lA'
       have PB:=PB'
       have lB:=lB'
       clear F' BT' PA' lA' PB' lB'
       obtain⟨W,rfl⟩:∃W:World,W=w1:=⟨_,rfl⟩
       refine wpAnyH_ready (rs:=[14]) (by kernel_rfl) (by simp) ?_
       refine AllReadyH.cons rfl (λK hK=>?_) AllReadyH.nil
       go_simp
       refine hK.out _ _ (F.out.alloc _).held (λhHeld=>?_)
       clear hK K
       refine wpAnyH_take (i:=15) (v:=(.slice (some ⟨W.heap.size,0,none⟩) 3 3)) rfl (by kernel_rfl) (by kernel_rfl) (by kernel_rfl) (λ_ _ _ h=>h) (Or.inl ⟨by rfl,by intro w9 hSw;(try dsimp only at hSw);obtain⟨t1,t2,t3,t4,t5⟩:=hSw;go_simp⟩) hHeld ?_
       refine wpAnyH_done (by kernel_rfl) ?_ _
       go_wp2_with fail
       go_ret
       exact⟨_,rfl,trio_of F.out.row.pat PA.out PB.out hn F.out.row.lt lA lB hgl oA oB,BT.out.alloc _⟩
     · go_simp
       have NA':=hide (NA.out.alloc (.cells #[.int .i64 15,.int .i64 v,.int .i64 0,.int .i64 0,.int .i64 0,.int .i64 15,.int .i64 v,.int .i64 0,.int .i64 0,.int .i64 0,.int .i64 15,.int .i64 v,.int .i64 0,.int .i64 0,.int .i64 0,.int .i64 15,.int .i64 v,.int .i64 0,.int .i64 0,.int .i64 0,.int .i64 15,.int .i64 v,.int .i64 0,.int .i64 0,.int .i64 0,.int .i64 15,.int .i64 v,.int .i64 0,.int .i64 0,.int .i64 0] 58 (0,0)))
       have NB':=hide (news_of F.out.row.lt (pat6 v):News (W.alloc (.cells #[.int .i64 15,.int .i64 v,.int .i64 0,.int .i64 0,.int .i64 0,.int .i64 15,.int .i64 v,.int .i64 0,.int .i64 0,.int .i64 0,.int .i64 15,.int .i64 v,.int .i64 0,.int .i64 0,.int .i64 0,.int .i64 15,.int .i64 v,.int .i64 0,.int .i64 0,.int .i64 0,.int .i64 15,.int .i64 v,.int .i64 0,.int .i64 0,.int .i64 0,.int .i64 15,.int .i64 v,.int .i64 0,.int .i64 0,.int .i64 0] 58 (0,0))) g W.heap.size 6 v)
       have F':=hide (F.out.alloc (.cells #[.int .i64 15,.int .i64 v,.int .i64 0,.int .i64 0,.int .i64 0,.int .i64 15,.int .i64 v,.int .i64 0,.int .i64 0,.int .i64 0,.int .i64 15,.int .i64 v,.int .i64 0,.int .i64 0,.int .i64 0,.int .i64 15,.int .i64 v,.int .i64 0,.int .i64 0,.int .i64 0,.int .i64 15,.int .i64 v,.int .i64 0,.int .i64 0,.int .i64 0,.int .i64 15,.int .i64 v,.int .i64 0,.int .i64 0,.int .i64 0] 58 (0,0)))
       have BT':=hide (BT.out.alloc (.cells #[.int .i64 15,.int .i64 v,.int .i64 0,.int .i64 0,.int .i64 0,.int .i64 15,.int .i64 v,.int .i64 0,.int .i64 0,.int .i64 0,.int .i64 15,.int .i64 v,.int .i64 0,.int .i64 0,.int .i64 0,.int .i64 15,.int .i64 v,.int .i64 0,.int .i64 0,.int .i64 0,.int .i64 15,.int .i64 v,.int .i64 0,.int .i64 0,.int .i64 0,.int .i64 15,.int .i64 v,.int .i64 0,.int .i64 0,.int .i64 0] 58 (0,0)))
       refine hK.out _ _ F'.out.held (λhHeld=>?_)
       clear hK K
       generalize W.alloc (.cells #[.int .i64 15,.int .i64 v,.int .i64 0,.int .i64 0,.int .i64 0,.int .i64 15,.int .i64 v,.int .i64 0,.int .i64 0,.int .i64 0,.int .i64 15,.int .i64 v,.int .i64 0,.int .i64 0,.int .i64 0,.int .i64 15,.int .i64 v,.int .i64 0,.int .i64 0,.int .i64 0,.int .i64 15,.int .i64 v,.int .i64 0,.int .i64 0,.int .i64 0,.int .i64 15,.int .i64 v,.int .i64 0,.int .i64 0,.int .i64 0] 58 (0,0))=W1 at*
       clear F BT NA
       have F:=F'
       have BT:=BT'
       have NA:=NA'
       have NB:=NB'
       clear F' BT' NA' NB'
       obtain⟨W,rfl⟩:∃W:World,W=W1:=⟨_,rfl⟩
       refine wpAnyH_ready (rs:=[4]) (by kernel_rfl) (by simp) ?_
       refine AllReadyH.cons rfl (λK hK=>?_) AllReadyH.nil
       refine step_fs rfl (.tmp 17) (.tmp 19) rfl rfl rfl F.out NA.out (by omega) (by decide) ?_
       intro gA cA w1 f1 p1 b1 o1 lA' u1
       have NA':=hide (NA.out.but b1)
       have NB':=hide (NB.out.but b1)
       have PA':=hide p1
       have F':=hide f1
       have BT':=hide (BT.out.trans b1)
       have oA:lo<=gA:=by have:=BT.out.size;omega
       refine hK.out _ _ F'.out.held (λhHeld=>?_)
       clear hK K b1 u1 p1 f1
       clear F BT NA NB
       have F:=F'
       have BT:=BT'
       have PA:=PA'
       have lA:=lA'
       have NB:=NB'
       clear F' BT' PA' lA' NB'
       obtain⟨W,rfl⟩:∃W:World,W=w1:=⟨_,rfl⟩
       refine wpAnyH_ready (rs:=[13]) (by kernel_rfl) (by simp) ?_
       refine AllReadyH.cons rfl (λK hK=>?_) AllReadyH.nil
       refine step_fs rfl (.tmp 21) (.tmp 28) rfl rfl rfl F.out NB.out (by omega) (by decide) ?_
       intro gB cB w1 f1 p1 b1 o1 lB' u1
       have PA':=hide (PA.out.on b1 u1 lA)
       have lA':gA<w1.heap.size:=by have:=b1.size;omega
       have NB':=hide (NB.out.but b1)
       have PB':=hide p1
       have F':=hide f1
       have BT':=hide (BT.out.trans b1)
       have oB:lo<=gB:=by have:=BT.out.size;omega
       refine hK.out _ _ F'.out.held (λhHeld=>?_)
       clear hK K b1 u1 p1 f1
       clear F BT PA lA NB
       have F:=F'
       have BT:=BT'
       have PA:=PA'
       have lA:=lA'
       have PB:=PB'
       have lB:=lB'
       clear F' BT' PA' lA' PB' lB'
       obtain⟨W,rfl⟩:∃W:World,W=w1:=⟨_,rfl⟩
       refine wpAnyH_ready (rs:=[14]) (by kernel_rfl) (by simp) ?_
       refine AllReadyH.cons rfl (λK hK=>?_) AllReadyH.nil
       go_simp
       refine hK.out _ _ (F.out.alloc _).held (λhHeld=>?_)
       clear hK K
       refine wpAnyH_take (i:=15) (v:=(.slice (some ⟨W.heap.size,0,none⟩) 3 3)) rfl (by kernel_rfl) (by kernel_rfl) (by kernel_rfl) (λ_ _ _ h=>h) (Or.inl ⟨by rfl,by intro w9 hSw;(try dsimp only at hSw);obtain⟨t1,t2,t3,t4,t5⟩:=hSw;go_simp⟩) hHeld ?_
       refine wpAnyH_done (by kernel_rfl) ?_ _
       go_wp2_with fail
       go_ret
       exact⟨_,rfl,trio_of F.out.row.pat PA.out PB.out hn F.out.row.lt lA lB hgl oA oB,BT.out.alloc _⟩
   · go_simp
     have NB':=hide (news_of F.out.row.lt (pat6 v):News (W.alloc (.cells #[.int .i64 15,.int .i64 v,.int .i64 0,.int .i64 0,.int .i64 0,.int .i64 15,.int .i64 v,.int .i64 0,.int .i64 0,.int .i64 0,.int .i64 15,.int .i64 v,.int .i64 0,.int .i64 0,.int .i64 0,.int .i64 15,.int .i64 v,.int .i64 0,.int .i64 0,.int .i64 0,.int .i64 15,.int .i64 v,.int .i64 0,.int .i64 0,.int .i64 0,.int .i64 15,.int .i64 v,.int .i64 0,.int .i64 0,.int .i64 0] 58 (0,0))) g W.heap.size 6 v)
     have F':=hide (F.out.alloc (.cells #[.int .i64 15,.int .i64 v,.int .i64 0,.int .i64 0,.int .i64 0,.int .i64 15,.int .i64 v,.int .i64 0,.int .i64 0,.int .i64 0,.int .i64 15,.int .i64 v,.int .i64 0,.int .i64 0,.int .i64 0,.int .i64 15,.int .i64 v,.int .i64 0,.int .i64 0,.int .i64 0,.int .i64 15,.int .i64 v,.int .i64 0,.int .i64 0,.int .i64 0,.int .i64 15,.int .i64 v,.int .i64 0,.int .i64 0,.int .i64 0] 58 (0,0)))
     have BT':=hide (BT.out.alloc (.cells #[.int .i64 15,.int .i64 v,.int .i64 0,.int .i64 0,.int .i64 0,.int .i64 15,.int .i64 v,.int .i64 0,.int .i64 0,.int .i64 0,.int .i64 15,.int .i64 v,.int .i64 0,.int .i64 0,.int .i64 0,.int .i64 15,.int .i64 v,.int .i64 0,.int .i64 0,.int .i64 0,.int .i64 15,.int .i64 v,.int .i64 0,.int .i64 0,.int .i64 0,.int .i64 15,.int .i64 v,.int .i64 0,.int .i64 0,.int .i64 0] 58 (0,0)))
     refine hK.out _ _ F'.out.held (λhHeld=>?_)
     clear hK K
     generalize W.alloc (.cells #[.int .i64 15,.int .i64 v,.int .i64 0,.int .i64 0,.int .i64 0,.int .i64 15,.int .i64 v,.int .i64 0,.int .i64 0,.int .i64 0,.int .i64 15,.int .i64 v,.int .i64 0,.int .i64 0,.int .i64 0,.int .i64 15,.int .i64 v,.int .i64 0,.int .i64 0,.int .i64 0,.int .i64 15,.int .i64 v,.int .i64 0,.int .i64 0,.int .i64 0,.int .i64 15,.int .i64 v,.int .i64 0,.int .i64 0,.int .i64 0] 58 (0,0))=W1 at*
     clear F BT
     have F:=F'
     have BT:=BT'
     have NB:=NB'
     clear F' BT' NB'
     obtain⟨W,rfl⟩:∃W:World,W=W1:=⟨_,rfl⟩
     refine wpAnyH_ready (rs:=[3]) (by kernel_rfl) (by simp) ?_
     refine AllReadyH.cons rfl (λK hK=>?_) AllReadyH.nil
     go_simp
     have NB':=hide (NB.out.alloc (.cells #[.int .i64 15,.int .i64 v,.int .i64 0,.int .i64 0,.int .i64 0] 58 (0,0)))
     have NA':=hide (news_of F.out.row.lt (pat1 v):News (W.alloc (.cells #[.int .i64 15,.int .i64 v,.int .i64 0,.int .i64 0,.int .i64 0] 58 (0,0))) g W.heap.size 1 v)
     have F':=hide (F.out.alloc (.cells #[.int .i64 15,.int .i64 v,.int .i64 0,.int .i64 0,.int .i64 0] 58 (0,0)))
     have BT':=hide (BT.out.alloc (.cells #[.int .i64 15,.int .i64 v,.int .i64 0,.int .i64 0,.int .i64 0] 58 (0,0)))
     refine hK.out _ _ F'.out.held (λhHeld=>?_)
     clear hK K
     generalize W.alloc (.cells #[.int .i64 15,.int .i64 v,.int .i64 0,.int .i64 0,.int .i64 0] 58 (0,0))=W1 at*
     clear F BT NB
     have F:=F'
     have BT:=BT'
     have NA:=NA'
     have NB:=NB'
     clear F' BT' NA' NB'
     obtain⟨W,rfl⟩:∃W:World,W=W1:=⟨_,rfl⟩
     refine wpAnyH_ready (rs:=[4]) (by kernel_rfl) (by simp) ?_
     refine AllReadyH.cons rfl (λK hK=>?_) AllReadyH.nil
     refine step_fs rfl (.tmp 17) (.tmp 19) rfl rfl rfl F.out NA.out (by omega) (by decide) ?_
     intro gA cA w1 f1 p1 b1 o1 lA' u1
     have NA':=hide (NA.out.but b1)
     have NB':=hide (NB.out.but b1)
     have PA':=hide p1
     have F':=hide f1
     have BT':=hide (BT.out.trans b1)
     have oA:lo<=gA:=by have:=BT.out.size;omega
     refine hK.out _ _ F'.out.held (λhHeld=>?_)
     clear hK K b1 u1 p1 f1
     clear F BT NA NB
     have F:=F'
     have BT:=BT'
     have PA:=PA'
     have lA:=lA'
     have NB:=NB'
     clear F' BT' PA' lA' NB'
     obtain⟨W,rfl⟩:∃W:World,W=w1:=⟨_,rfl⟩
     refine wpAnyH_ready (rs:=[13]) (by kernel_rfl) (by simp) ?_
     refine AllReadyH.cons rfl (λK hK=>?_) AllReadyH.nil
     refine step_fs rfl (.tmp 21) (.tmp 28) rfl rfl rfl F.out NB.out (by omega) (by decide) ?_
     intro gB cB w1 f1 p1 b1 o1 lB' u1
     have PA':=hide (PA.out.on b1 u1 lA)
     have lA':gA<w1.heap.size:=by have:=b1.size;omega
     have NB':=hide (NB.out.but b1)
     have PB':=hide p1
     have F':=hide f1
     have BT':=hide (BT.out.trans b1)
     have oB:lo<=gB:=by have:=BT.out.size;omega
     refine hK.out _ _ F'.out.held (λhHeld=>?_)
     clear hK K b1 u1 p1 f1
     clear F BT PA lA NB
     have F:=F'
     have BT:=BT'
     have PA:=PA'
     have lA:=lA'
     have PB:=PB'
     have lB:=lB'
     clear F' BT' PA' lA' PB' lB'
     obtain⟨W,rfl⟩:∃W:World,W=w1:=⟨_,rfl⟩
     refine wpAnyH_ready (rs:=[14]) (by kernel_rfl) (by simp) ?_
     refine AllReadyH.cons rfl (λK hK=>?_) AllReadyH.nil
     go_simp
     refine hK.out _ _ (F.out.alloc _).held (λhHeld=>?_)
     clear hK K
     refine wpAnyH_take (i:=15) (v:=(.slice (some ⟨W.heap.size,0,none⟩) 3 3)) rfl (by kernel_rfl) (by kernel_rfl) (by kernel_rfl) (λ_ _ _ h=>h) (Or.inl ⟨by rfl,by intro w9 hSw;(try dsimp only at hSw);obtain⟨t1,t2,t3,t4,t5⟩:=hSw;go_simp⟩) hHeld ?_
     refine wpAnyH_done (by kernel_rfl) ?_ _
     go_wp2_with fail
     go_ret
     exact⟨_,rfl,trio_of F.out.row.pat PA.out PB.out hn F.out.row.lt lA lB hgl oA oB,BT.out.alloc _⟩
end Y
end Go.Proofs.YtejbgcloblpbfaaGreatDoor
