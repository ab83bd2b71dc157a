import Derived.Test.YtejbgcloblpbfaaGreatDoorG10
namespace Go.Proofs.YtejbgcloblpbfaaGreatDoor
open Go.RowKit
open K (Nm Ex Do)
def V.rounds(f:List Int->List Int)(k:Nat):Nat->Nat->List Int->List Int
 |_,0,W=>W
 |i,m+1,W=>V.rounds f k (i+1) m (f (W.set k (i:Int)))
def V.times(v:Int):Nat:=if v<0 then 0 else if 5<v then 5 else v.toNat
mutual
def V.rd:Do->List Int->List Int
 |.set _ n e,W=>W.set n.place.toNat (V.ev W e)
 |.put _ n i e,W=>W.set (n.place+V.md (V.ev W i) n.size).toNat (V.ev W e)
 |.ifs _ q y n,W=>if V.ev W q=0 then V.rds n W else V.rds y W
 |.fors _ n r l,W=>V.rounds (λW=>V.rds l W) n.place.toNat 0 (V.times (V.ev W r)) W
 |.none,W=>W
def V.rds:List Do->List Int->List Int
 |[],W=>W
 |d::l,W=>V.rds l (V.rd d W)
end
mutual
def V.wfD(N:Nat):Do->Prop
 |.set _ n e=>0<=n.place/\n.place<N/\V.wfE N e
 |.put _ n i e=>0<=n.place/\1<=n.size/\n.size<=6/\n.place+n.size<=N/\V.wfE N i/\V.wfE N e
 |.ifs _ q y n=>V.wfE N q/\V.wfL N y/\V.wfL N n
 |.fors _ n r l=>0<=n.place/\n.place<N/\V.wfE N r/\V.wfL N l
 |.none=>False
def V.wfL(N:Nat):List Do->Prop
 |[]=>True
 |d::l=>V.wfD N d/\V.wfL N l
end
theorem V.rounds_len{f:List Int->List Int}(hf:∀W,(f W).length=W.length)(k:Nat):∀(m i:Nat) (W:List Int),(V.rounds f k i m W).length=W.length
 |0,_,_=>rfl
 |m+1,i,W=>by rw[V.rounds,V.rounds_len hf k m,hf,List.length_set]
mutual
theorem V.rd_len:∀(d:Do) (W:List Int),(V.rd d W).length=W.length
 |.set ..,W=>by rw[V.rd,List.length_set]
 |.put ..,W=>by rw[V.rd,List.length_set]
 |.ifs _ q y n,W=>by
  rw[V.rd]
  split
  · exact V.rds_len n W
  · exact V.rds_len y W
 |.fors _ n r l,W=>by rw[V.rd];exact V.rounds_len (λW=>V.rds_len l W) _ _ _ _
 |.none,W=>by rw[V.rd]
theorem V.rds_len:∀(l:List Do) (W:List Int),(V.rds l W).length=W.length
 |[],W=>by rw[V.rds]
 |d::l,W=>by rw[V.rds,V.rds_len l,V.rd_len d]
end
theorem below_but{w w':World}{g:Nat}(h:Below w.heap.size w w'):But g w w':=⟨h.os,h.tape,h.output,h.size,λk hk _=>h.block k hk⟩
namespace Y
inductive Ins where
 |kst (a:Nat) (v:Int)
 |bin (o:UInt8) (a b c:Nat)
 |sel (a b c d:Nat)
 |ld (a b:Nat)
 |st (a b:Nat)
 |jmp (d:Nat)
 |jz (b d:Nat)
 |halt
structure Ma where
 pc:Nat
 R:Nat->Int
 M:Nat->Int
 seen:List Int
def upd(f:Nat->Int)(k:Nat)(v:Int):Nat->Int:=λj=>if j=k then v else f j
theorem upd_self(f:Nat->Int)(k:Nat)(v:Int):upd f k v k=v:=by simp[upd]
theorem upd_ne{f:Nat->Int}{k j:Nat}{v:Int}(h:¬j=k):upd f k v j=f j:=by simp[upd,h]
def step:Ins->Ma->Option Ma
 |.kst a v,s=>if a<8 then some ⟨s.pc+1,upd s.R a v,s.M,s.seen++[(s.pc:Int)]⟩else none
 |.bin o a b c,s=>if a<8/\b<8/\c<8 then some ⟨s.pc+1,upd s.R a (V.opf o (s.R b) (s.R c)),s.M,s.seen++((s.pc:Int)::if o=47 then [s.R b,s.R c]else [])⟩else none
 |.sel a b c d,s=>if a<8/\b<8/\c<8/\d<8 then some ⟨s.pc+1,upd s.R a (if s.R c=0 then s.R d else s.R b),s.M,s.seen++[(s.pc:Int)]⟩else none
 |.ld a b,s=>if a<8/\b<8/\0<=s.R b/\s.R b<256 then some ⟨s.pc+1,upd s.R a (s.M (s.R b).toNat),s.M,s.seen++[(s.pc:Int),s.R b]⟩else none
 |.st a b,s=>if a<8/\b<8/\0<=s.R a/\s.R a<256 then some ⟨s.pc+1,s.R,upd s.M (s.R a).toNat (s.R b),s.seen++[(s.pc:Int),s.R a]⟩else none
 |.jmp d,s=>some ⟨d,s.R,s.M,s.seen++[(s.pc:Int)]⟩
 |.jz b d,s=>if b<8 then some ⟨if s.R b=0 then d else s.pc+1,s.R,s.M,s.seen++[(s.pc:Int)]⟩else none
 |.halt,_=>none
def go(C:List Ins):Nat->Ma->Option Ma
 |0,s=>some s
 |n+1,s=>match C[s.pc]? with
  |none=>none
  |some i=>match step i s with
   |none=>none
   |some s'=>go C n s'
theorem go_add(C:List Ins):∀(m n:Nat) (s s1 s2:Ma),go C m s=some s1->go C n s1=some s2->go C (m+n) s=some s2
 |0,n,s,s1,s2,h,k=>by simp only[go,Option.some.injEq]at h;subst h;simpa using k
 |m+1,n,s,s1,s2,h,k=>by
  rw[Nat.add_right_comm]
  unfold go at h ⊢
  split at h
  · cases h
  · split at h
    · cases h
    · rename_i i hi s' hs'
      exact go_add C m n _ _ _ h k
def Seg(C:List Ins)(p:Nat)(l:List Ins):Prop:=∀(j:Nat) x,l[j]?=some x->C[p+j]?=some x
theorem Seg.left{C:List Ins}{p:Nat}{a b:List Ins}(h:Seg C p (a++b)):Seg C p a:=λj x hx=>h j x (by rw[List.getElem?_append_left (List.getElem?_eq_some_iff.1 hx).1];exact hx)
theorem Seg.right{C:List Ins}{p:Nat}{a b:List Ins}(h:Seg C p (a++b)):Seg C (p+a.length) b:=λj x hx=>by
 rw[Nat.add_assoc]
 exact h _ x (by rw[List.getElem?_append_right (by omega)];simpa using hx)
theorem Seg.head{C:List Ins}{p:Nat}{i:Ins}{b:List Ins}(h:Seg C p (i::b)):C[p]?=some i:=h 0 i rfl
theorem Seg.tail{C:List Ins}{p:Nat}{i:Ins}{b:List Ins}(h:Seg C p (i::b)):Seg C (p+1) b:=λj x hx=>by
 rw[Nat.add_assoc,Nat.add_comm 1 j]
 exact h (j+1) x (by simpa using hx)
def ex:List Ins->Ma->Option Ma
 |[],s=>some s
 |i::l,s=>match step i s with
  |none=>none
  |some s'=>ex l s'
theorem ex_append:∀(a b:List Ins) (s s1 s2:Ma),ex a s=some s1->ex b s1=some s2->ex (a++b) s=some s2
 |[],b,s,s1,s2,h,k=>by simp only[ex,Option.some.injEq]at h;subst h;exact k
 |i::a,b,s,s1,s2,h,k=>by
  rw[List.cons_append]
  unfold ex at h ⊢
  split at h
  · cases h
  · exact ex_append a b _ _ _ h k
def straight:Ins->Bool
 |.jmp _=>false
 |.jz .. =>false
 |_=>true
theorem step_pc{i:Ins}(h:straight i=true){s s':Ma}(e:step i s=some s'):s'.pc=s.pc+1:=by
 cases i<;>simp only[straight,Bool.false_eq_true]at h<;>simp only[step,Option.ite_none_right_eq_some,Option.some.injEq,reduceCtorEq]at e<;>(try (obtain⟨_,rfl⟩:=e;rfl))
theorem go_ex{C:List Ins}:∀{l:List Ins} {s s':Ma},l.all straight=true->Seg C s.pc l->ex l s=some s'->go C l.length s=some s'
 |[],s,s',_,_,e=>e
 |i::l,s,s',h,g,e=>by
  rw[List.all_cons,Bool.and_eq_true]at h
  rw[List.length_cons]
  unfold ex at e
  unfold go
  rw[g.head]
  dsimp only
  split at e
  · cases e
  · rename_i s1 h1
    refine go_ex h.2 ?_ e
    rw[step_pc h.1 h1]
    exact g.tail
def hd(l:List Nat):Nat:=l.headD 0
inductive Kp where
 |reg (a:Nat)
 |word (a:Nat)
def kpC(g w:List Nat)(a:Nat):List Ins:=if 4<=g.length then []else [.kst (hd (g.erase a)) (hd w:Nat),.st (hd (g.erase a)) a]
def kpG(g:List Nat)(a:Nat):List Nat:=if 4<=g.length then g.erase a else g
def kpW(g w:List Nat):List Nat:=if 4<=g.length then w else w.tail
def kpK(g w:List Nat)(a:Nat):Kp:=if 4<=g.length then .reg a else .word (hd w)
def ftC(g:List Nat):Kp->List Ins
 |.reg _=>[]
 |.word x=>[.kst (hd g) (x:Nat),.ld (hd g) (hd g)]
def ftR(g:List Nat):Kp->Nat
 |.reg a=>a
 |.word _=>hd g
def ftG(g:List Nat):Kp->List Nat
 |.reg _=>g
 |.word _=>g.tail
def plC(g:List Nat)(r:Nat)(n:Nm):List Ins:=
 let z:=hd g
 let q:=hd g.tail
 [.kst z n.size,.bin 47 q r z,.bin 42 q q z,.bin 45 r r q,.bin 43 r r z,.bin 47 q r z,.bin 42 q q z,.bin 45 r r q,.kst z n.place,.bin 43 r r z]
def exC:List Nat->List Nat->Ex->List Ins×Nat
 |g,_,.num v=>([.kst (hd g) v],hd g)
 |g,_,.use n=>([.kst (hd g) n.place,.ld (hd g) (hd g)],hd g)
 |g,w,.get _ n e=>
  let x:=exC g w e
  (x.1++(plC (g.erase x.2) x.2 n++[.ld x.2 x.2]),x.2)
 |g,w,.op _ o l r=>
  let x:=exC g w l
  let y:=exC (kpG g x.2) (kpW g w) r
  let k:=kpK g w x.2
  let h:=(kpG g x.2).erase y.2
  (x.1++(kpC g w x.2++(y.1++(ftC h k++[.bin o y.2 (ftR h k) y.2]))),y.2)
 |g,w,.cho _ q y n=>
  let a:=exC g w q
  let b:=exC (kpG g a.2) (kpW g w) y
  let c:=exC (kpG (kpG g a.2) b.2) (kpW (kpG g a.2) (kpW g w)) n
  let j:=kpK g w a.2
  let k:=kpK (kpG g a.2) (kpW g w) b.2
  let h:=(kpG (kpG g a.2) b.2).erase c.2
  (a.1++(kpC g w a.2++(b.1++(kpC (kpG g a.2) (kpW g w) b.2++(c.1++(ftC h j++(ftC (ftG h j) k++[.sel c.2 (ftR (ftG h j) k) (ftR h j) c.2])))))),c.2)
 |g,_,.none=>([.kst (hd g) 0],hd g)
def need:Ex->Nat
 |.num _=>0
 |.use _=>0
 |.get _ _ e=>need e
 |.op _ _ l r=>max (need l) (need r)+1
 |.cho _ q y n=>max (need q) (max (need y) (need n))+2
 |.none=>0
def plS(p:Nat)(v s:Int):List Int:=[(p:Int),(p+1:Nat),v,s,(p+2:Nat),(p+3:Nat),(p+4:Nat),(p+5:Nat),wrap64 (v.tmod s+s),s,(p+6:Nat),(p+7:Nat),(p+8:Nat),(p+9:Nat)]
def kpS(g w:List Nat)(p:Nat):List Int:=if 4<=g.length then []else [(p:Int),(p+1:Nat),(hd w:Nat)]
def ftS(p:Nat):Kp->List Int
 |.reg _=>[]
 |.word x=>[(p:Int),(p+1:Nat),(x:Nat)]
def seE(W:List Int):Nat->List Nat->List Nat->Ex->List Int
 |p,_,_,.num _=>[(p:Int)]
 |p,_,_,.use n=>[(p:Int),(p+1:Nat),n.place]
 |p,g,w,.get _ n e=>
  let x:=exC g w e
  let q:=p+x.1.length
  seE W p g w e++(plS q (V.ev W e) n.size++[((q+10:Nat):Int),n.place+V.md (V.ev W e) n.size])
 |p,g,w,.op _ o l r=>
  let x:=exC g w l
  let y:=exC (kpG g x.2) (kpW g w) r
  let k:=kpK g w x.2
  let h:=(kpG g x.2).erase y.2
  let p1:=p+x.1.length
  let p2:=p1+(kpC g w x.2).length
  let p3:=p2+y.1.length
  let p4:=p3+(ftC h k).length
  seE W p g w l++(kpS g w p1++(seE W p2 (kpG g x.2) (kpW g w) r++(ftS p3 k++((p4:Nat):Int)::if o=47 then [V.ev W l,V.ev W r]else [])))
 |p,g,w,.cho _ q y n=>
  let a:=exC g w q
  let b:=exC (kpG g a.2) (kpW g w) y
  let c:=exC (kpG (kpG g a.2) b.2) (kpW (kpG g a.2) (kpW g w)) n
  let j:=kpK g w a.2
  let k:=kpK (kpG g a.2) (kpW g w) b.2
  let h:=(kpG (kpG g a.2) b.2).erase c.2
  let p1:=p+a.1.length
  let p2:=p1+(kpC g w a.2).length
  let p3:=p2+b.1.length
  let p4:=p3+(kpC (kpG g a.2) (kpW g w) b.2).length
  let p5:=p4+c.1.length
  let p6:=p5+(ftC h j).length
  let p7:=p6+(ftC (ftG h j) k).length
  seE W p g w q++(kpS g w p1++(seE W p2 (kpG g a.2) (kpW g w) y++(kpS (kpG g a.2) (kpW g w) p3++(seE W p4 (kpG (kpG g a.2) b.2) (kpW (kpG g a.2) (kpW g w)) n++(ftS p5 j++(ftS p6 k++[((p7:Nat):Int)]))))))
 |p,_,_,.none=>[(p:Int)]
structure Fine(g w:List Nat)(L:Nat):Prop where
 gn:g.Nodup
 g8:∀x∈g,x<8
 g3:3<=g.length
 wn:w.Nodup
 wl:∀x∈w,L<=x/\x<256
theorem hd_mem:∀{l:List Nat},0<l.length->hd l∈l
 |[],h=>by simp at h
 |a::l,_=>by simp[hd]
theorem hd_tail:∀{l:List Nat},0<l.length->l=hd l::l.tail
 |[],h=>by simp at h
 |a::l,_=>rfl
theorem kpG_sub{g:List Nat}{a x:Nat}(h:x∈kpG g a):x∈g:=by
 unfold kpG at h
 split at h
 · exact List.mem_of_mem_erase h
 · exact h
theorem kpW_sub{g w:List Nat}{x:Nat}(h:x∈kpW g w):x∈w:=by
 unfold kpW at h
 split at h
 · exact h
 · exact List.mem_of_mem_tail h
theorem kp_fine{g w:List Nat}{L a:Nat}(h:Fine g w L)(ha:a∈g):Fine (kpG g a) (kpW g w) L:=by
 refine⟨?_,λx hx=>h.g8 x (kpG_sub hx),?_,?_,λx hx=>h.wl x (kpW_sub hx)⟩
 · unfold kpG;split
   · exact h.gn.erase a
   · exact h.gn
 · unfold kpG;split
   · rw[List.length_erase_of_mem ha];omega
   · exact h.g3
 · unfold kpW;split
   · exact h.wn
   · exact h.wn.sublist (List.tail_sublist w)
theorem kpW_len{g w:List Nat}:w.length<=(kpW g w).length+1:=by
 unfold kpW;split
 · omega
 · rw[List.length_tail];omega
theorem exC_mem(e:Ex):∀{g w:List Nat} {L:Nat},Fine g w L->(exC g w e).2∈g:=by
 induction e with
 |num v=>intro g w L h;exact hd_mem (by have:=h.g3;omega)
 |use n=>intro g w L h;exact hd_mem (by have:=h.g3;omega)
 |get p n e ih=>intro g w L h;exact ih h
 |op p o l r il ir=>intro g w L h;exact kpG_sub (ir (kp_fine h (il h)))
 |cho p q y n iq iy i3=>intro g w L h;exact kpG_sub (kpG_sub (i3 (kp_fine (kp_fine h (iq h)) (iy (kp_fine h (iq h))))))
 |none=>intro g w L h;exact hd_mem (by have:=h.g3;omega)
def Held(s:Ma)(v:Int):Kp->Prop
 |.reg a=>s.R a=v
 |.word x=>s.M x=v
structure To(g w:List Nat)(n:Nat)(S:List Int)(s s':Ma):Prop where
 pc:s'.pc=s.pc+n
 R:∀x,x∉g->s'.R x=s.R x
 M:∀x,x∉w->s'.M x=s.M x
 seen:s'.seen=s.seen++S
theorem To.rfl'(g w:List Nat)(s:Ma):To g w 0 [] s s:=⟨rfl,λ_ _=>rfl,λ_ _=>rfl,by simp⟩
theorem To.trans{g w:List Nat}{n m:Nat}{S T:List Int}{a b c:Ma}(h:To g w n S a b)(k:To g w m T b c):To g w (n+m) (S++T) a c:=
 ⟨by rw[k.pc,h.pc,Nat.add_assoc],λx hx=>(k.R x hx).trans (h.R x hx),λx hx=>(k.M x hx).trans (h.M x hx),by rw[k.seen,h.seen,List.append_assoc]⟩
theorem To.wide{g w g' w':List Nat}{n:Nat}{S:List Int}{a b:Ma}(h:To g w n S a b)(hg:∀x∈g,x∈g')(hw:∀x∈w,x∈w'):To g' w' n S a b:=
 ⟨h.pc,λx hx=>h.R x λe=>hx (hg x e),λx hx=>h.M x λe=>hx (hw x e),h.seen⟩
theorem kp_sim{g w:List Nat}{L a:Nat}{v:Int}{s:Ma}(h:Fine g w L)(ha:a∈g)(hw:0<w.length)(hv:s.R a=v):
 ∃s',ex (kpC g w a) s=some s'/\To g w (kpC g w a).length (kpS g w s.pc) s s'/\Held s' v (kpK g w a):=by
 unfold kpC kpS kpK
 by_cases c:4<=g.length
 · rw[if_pos c,if_pos c,if_pos c]
   exact⟨s,rfl,To.rfl' _ _ _,hv⟩
 · rw[if_neg c,if_neg c,if_neg c]
   have hl:0<(g.erase a).length:=by rw[List.length_erase_of_mem ha];have:=h.g3;omega
   have ht:=hd_mem hl
   have htg:=List.mem_of_mem_erase ht
   have hta:¬a=hd (g.erase a):=λe=>by
    rw[<-e]at ht
    exact(h.gn.mem_erase_iff.1 ht).1 rfl
   have b1:=h.g8 _ htg
   have b2:=h.g8 _ ha
   have b3:=h.wl _ (hd_mem hw)
   generalize hd (g.erase a)=t at*
   refine⟨⟨s.pc+1+1,upd s.R t ((hd w:Nat):Int),upd s.M (hd w) (s.R a),s.seen++[(s.pc:Int)]++[((s.pc+1:Nat):Int),((hd w:Nat):Int)]⟩,?_,⟨rfl,?_,?_,?_⟩,?_⟩
   · have b4:((hd w:Nat):Int)<256:=by omega
     have b5:(0:Int)<=((hd w:Nat):Int):=by omega
     simp[ex,step,b1,b2,upd_self,upd_ne hta,b4,b5]
   · intro x hx
     exact upd_ne (λe=>hx (e▸htg))
   · intro x hx
     exact upd_ne (λe=>hx (e▸hd_mem hw))
   · simp
   · show upd s.M (hd w) (s.R a) (hd w)=v
     rw[upd_self,hv]
theorem ft_sim{h w:List Nat}{k:Kp}{v:Int}{s:Ma}(h8:∀x∈h,x<8)(hl:0<h.length)(hw:∀x,k=.word x->x<256)(hv:Held s v k):
 ∃s',ex (ftC h k) s=some s'/\To h w (ftC h k).length (ftS s.pc k) s s'/\s'.R (ftR h k)=v/\s'.M=s.M/\∀x,x∉h∨x∈ftG h k/\h.Nodup->s'.R x=s.R x:=by
 cases k with
 |reg a=>exact⟨s,rfl,To.rfl' _ _ _,hv,rfl,λ_ _=>rfl⟩
 |word x=>
  have b1:=h8 _ (hd_mem hl)
  have b2:=hw x rfl
  refine⟨⟨s.pc+1+1,upd (upd s.R (hd h) (x:Nat)) (hd h) (s.M x),s.M,s.seen++[(s.pc:Int)]++[((s.pc+1:Nat):Int),((x:Nat):Int)]⟩,?_,⟨rfl,?_,λ_ _=>rfl,?_⟩,?_,rfl,?_⟩
  · have b4:((x:Nat):Int)<256:=by omega
    have b5:(0:Int)<=((x:Nat):Int):=by omega
    simp[ex,ftC,step,b1,upd_self,b4,b5]
  · intro y hy
    have:¬y=hd h:=λe=>hy (e▸hd_mem hl)
    show upd _ _ _ _=_
    rw[upd_ne this,upd_ne this]
  · simp[ftS]
  · show upd _ _ _ (hd h)=v
    rw[upd_self];exact hv
  · intro y hy
    have:¬y=hd h:=by
     rcases hy with hy |⟨hy,hn⟩
     · exact λe=>hy (e▸hd_mem hl)
     · intro e
       rw[hd_tail hl]at hn
       exact(List.nodup_cons.1 hn).1 (e▸hy)
    show upd _ _ _ _=_
    rw[upd_ne this,upd_ne this]
theorem rem_eq{v s:Int}(h1:1<=s)(h6:s<=6):wrap64 (v-wrap64 (wrap64 (v.tdiv s)*s))=v.tmod s:=by
 have e:=Int.tmod_add_mul_tdiv v s
 have a1:=Int.tmod_eq_emod (a:=v) (b:=s)
 have a2:=Int.emod_nonneg v (show s≠0 by omega)
 have a3:=Int.emod_lt_of_pos v (show 0<s by omega)
 have a7:v.tmod s<6/\ -6<v.tmod s:=by
  rw[a1]
  split
  · omega
  · have:s.natAbs<=6:=by omega
    omega
 have hs:s=1∨s=2∨s=3∨s=4∨s=5∨s=6:=by omega
 generalize v.tdiv s=q at*
 generalize v.tmod s=m at*
 unfold wrap64
 rcases hs with rfl |rfl |rfl |rfl |rfl |rfl<;>omega
def MemIs(M:Nat->Int)(W:List Int):Prop:=∀j,j<W.length->M j=W.getD j 0
theorem MemIs.to{g w:List Nat}{n:Nat}{S:List Int}{s s':Ma}{W:List Int}(h:MemIs s.M W)(t:To g w n S s s')(hw:∀x∈w,W.length<=x/\x<256):MemIs s'.M W:=
 λj hj=>(t.M j λe=>by have:=(hw j e).1;omega).trans (h j hj)
theorem pl_sim{h w:List Nat}{r:Nat}{n:Nm}{v:Int}{s:Ma}(hr:r<8)(hn:r∉h)(h8:∀x∈h,x<8)(hd':h.Nodup)(hl:2<=h.length)(h1:1<=n.size)(h6:n.size<=6)(hv:s.R r=v)(hp:0<=n.place)(hp':n.place<300):
 ∃s',ex (plC h r n) s=some s'/\To (r::h) w 10 (plS s.pc v n.size) s s'/\s'.R r=n.place+V.md v n.size:=by
 obtain⟨z,h2,rfl⟩:∃z t,h=z::t:=by cases h with |nil=>simp at hl |cons z t=>exact⟨_,_,rfl⟩
 obtain⟨q,t,rfl⟩:∃q t,h2=q::t:=by cases h2 with |nil=>simp at hl |cons z t=>exact⟨_,_,rfl⟩
 have bz:=h8 z (by simp)
 have bq:=h8 q (by simp)
 have nzq:¬z=q:=by simp at hd';exact hd'.1.1
 have nqz:¬q=z:=λe=>nzq e.symm
 have nrz:¬r=z:=by simp at hn;exact hn.1
 have nrq:¬r=q:=by simp at hn;exact hn.2.1
 have nzr:¬z=r:=λe=>nrz e.symm
 have nqr:¬q=r:=λe=>nrq e.symm
 have hs0:¬n.size=0:=by omega
 have e1:wrap64 (v-wrap64 (wrap64 (v.tdiv n.size)*n.size))=v.tmod n.size:=rem_eq h1 h6
 have e2:=rem_eq (v:=wrap64 (v.tmod n.size+n.size)) h1 h6
 have hmd:V.md v n.size=(wrap64 (v.tmod n.size+n.size)).tmod n.size:=rfl
 have hm:=V.md_eq v h1 h6
 have m1:=Int.emod_nonneg v (show n.size≠0 by omega)
 have m2:=Int.emod_lt_of_pos v (show 0<n.size by omega)
 have e3:wrap64 (V.md v n.size+n.place)=n.place+V.md v n.size:=by rw[hm];unfold wrap64;omega
 refine⟨⟨s.pc+10,upd (upd (upd (upd (upd (upd (upd (upd (upd (upd s.R z n.size) q (wrap64 (v.tdiv n.size))) q (wrap64 (wrap64 (v.tdiv n.size)*n.size))) r (v.tmod n.size)) r (wrap64 (v.tmod n.size+n.size))) q (wrap64 ((wrap64 (v.tmod n.size+n.size)).tdiv n.size))) q (wrap64 (wrap64 ((wrap64 (v.tmod n.size+n.size)).tdiv n.size)*n.size))) r (V.md v n.size)) z n.place) r (n.place+V.md v n.size),s.M,s.seen++plS s.pc v n.size⟩,?_,⟨rfl,?_,λ_ _=>rfl,rfl⟩,upd_self _ _ _⟩
 · simp[plC,hd,ex,step,bz,bq,hr,upd_self,upd_ne nrz,upd_ne nzq,upd_ne nrq,upd_ne nzr,V.opf,hs0,hv,e1,e2,<-hmd,e3,plS]
   omega
 · intro x hx
   simp at hx
   show upd _ _ _ x=_
   rw[upd_ne hx.1,upd_ne hx.2.1,upd_ne hx.1,upd_ne hx.2.2.1,upd_ne hx.2.2.1,upd_ne hx.1,upd_ne hx.1,upd_ne hx.2.2.1,upd_ne hx.2.2.1,upd_ne hx.2.1]
theorem kp_held{g w g' w':List Nat}{n:Nat}{S:List Int}{a:Nat}{L:Nat}{v:Int}{s s':Ma}(h:Fine g w L)(hw:0<w.length)(hk:Held s v (kpK g w a))(t:To g' w' n S s s')(hg:∀x∈g',x∈kpG g a)(hw':∀x∈w',x∈kpW g w):Held s' v (kpK g w a):=by
 unfold kpK kpG kpW at*
 by_cases c:4<=g.length
 · simp only[if_pos c]at*
   show s'.R a=v
   rw[t.R a (λe=>(h.gn.mem_erase_iff.1 (hg a e)).1 rfl)]
   exact hk
 · simp only[if_neg c]at*
   show s'.M (hd w)=v
   rw[t.M (hd w) (λe=>?_)]
   · exact hk
   · have hn:=h.wn
     rw[hd_tail hw]at hn
     exact(List.nodup_cons.1 hn).1 (hw' _ e)
theorem kp_word{g w:List Nat}{a L:Nat}(h:Fine g w L)(hw:0<w.length):∀x,kpK g w a=.word x->x<256:=by
 intro x hx
 unfold kpK at hx
 split at hx
 · cases hx
 · cases hx
   exact(h.wl _ (hd_mem hw)).2
theorem kp_reg{g w:List Nat}{a b L:Nat}{h:List Nat}(hF:Fine g w L)(ha:a∈g)(hb:b∈kpG g a)(hh:∀x∈h,x∈(kpG g a).erase b)(hl:0<h.length):ftR h (kpK g w a)≠b/\ftR h (kpK g w a)<8:=by
 unfold kpK kpG at*
 by_cases c:4<=g.length
 · simp only[if_pos c]at*
   exact⟨λe=>by rw[show a=b from e]at hb;exact(hF.gn.mem_erase_iff.1 hb).1 rfl,hF.g8 a ha⟩
 · simp only[if_neg c]at*
   have:=hh _ (hd_mem hl)
   exact⟨λe=>by rw[show hd h=b from e]at this;exact(hF.gn.mem_erase_iff.1 this).1 rfl,hF.g8 _ (List.mem_of_mem_erase this)⟩
theorem kp_r8{g w:List Nat}{a L:Nat}(hF:Fine g w L)(ha:a∈g):∀x,kpK g w a=.reg x->x<8:=by
 intro x hx
 unfold kpK at hx
 split at hx
 · cases hx;exact hF.g8 _ ha
 · cases hx
def SimE(W:List Int)(e:Ex):Prop:=∀(g w:List Nat) (s:Ma),Fine g w W.length->V.wfE W.length e->need e<=w.length->MemIs s.M W→
 ∃s',ex (exC g w e).1 s=some s'/\To g w (exC g w e).1.length (seE W s.pc g w e) s s'/\s'.R (exC g w e).2=V.ev W e
theorem md_range(v:Int){s:Int}(h1:1<=s)(h6:s<=6):0<=V.md v s/\V.md v s<s:=by
 rw[V.md_eq v h1 h6]
 exact⟨Int.emod_nonneg v (by omega),Int.emod_lt_of_pos v (by omega)⟩
theorem sim_num(W:List Int)(v:Int):SimE W (.num v):=by
 intro g w s h _ _ _
 have hm:=hd_mem (show 0<g.length by have:=h.g3;omega)
 have b:=h.g8 _ hm
 refine⟨⟨s.pc+1,upd s.R (hd g) v,s.M,s.seen++[(s.pc:Int)]⟩,?_,⟨rfl,λx hx=>upd_ne λe=>hx (e▸hm),λ_ _=>rfl,rfl⟩,upd_self _ _ _⟩
 simp[exC,ex,step,b]
theorem sim_use(W:List Int)(hL:W.length<=60)(n:Nm):SimE W (.use n):=by
 intro g w s h hw _ hM
 unfold V.wfE at hw
 have hm:=hd_mem (show 0<g.length by have:=h.g3;omega)
 have b:=h.g8 _ hm
 have b4:n.place<256:=by omega
 refine⟨⟨s.pc+1+1,upd (upd s.R (hd g) n.place) (hd g) (s.M n.place.toNat),s.M,s.seen++[(s.pc:Int)]++[((s.pc+1:Nat):Int),n.place]⟩,?_,⟨rfl,λx hx=>?_,λ_ _=>rfl,?_⟩,?_⟩
 · simp[exC,ex,step,b,upd_self,hw.1,b4]
 · have:¬x=hd g:=λe=>hx (e▸hm)
   show upd _ _ _ x=_
   rw[upd_ne this,upd_ne this]
 · simp[seE]
 · show upd _ _ _ (hd g)=_
   rw[upd_self]
   exact hM _ (by omega)
theorem sim_get(W:List Int)(hL:W.length<=60)(p:Int)(n:Nm)(e:Ex)(ih:SimE W e):SimE W (.get p n e):=by
 intro g w s h hw hn hM
 unfold V.wfE at hw
 obtain⟨w0,w1,w2,w3,w4⟩:=hw
 obtain⟨s1,x1,t1,v1⟩:=ih g w s h w4 hn hM
 have hr:=exC_mem e h
 have hlen:(g.erase (exC g w e).2).length=g.length-1:=List.length_erase_of_mem hr
 have g3:=h.g3
 obtain⟨s2,x2,t2,v2⟩:=pl_sim (w:=w) (h:=g.erase (exC g w e).2) (r:=(exC g w e).2) (n:=n) (v:=V.ev W e) (s:=s1) (h.g8 _ hr) (λe=>(h.gn.mem_erase_iff.1 e).1 rfl) (λx hx=>h.g8 x (List.mem_of_mem_erase hx)) (h.gn.erase _) (by omega) w1 w2 v1 w0 (by omega)
 have t2':=t2.wide (g':=g) (w':=w) (λx hx=>by
  rcases List.mem_cons.1 hx with rfl |hx
  · exact hr
  · exact List.mem_of_mem_erase hx) (λx hx=>hx)
 have m1:=md_range (V.ev W e) w1 w2
 have hM2:=(hM.to t1 h.wl).to t2' h.wl
 have b:=h.g8 _ hr
 have hx3:ex [.ld (exC g w e).2 (exC g w e).2] s2=some ⟨s2.pc+1,upd s2.R (exC g w e).2 (s2.M (n.place+V.md (V.ev W e) n.size).toNat),s2.M,s2.seen++[(s2.pc:Int),n.place+V.md (V.ev W e) n.size]⟩:=by
  have q1:0<=n.place+V.md (V.ev W e) n.size:=by omega
  have q2:n.place+V.md (V.ev W e) n.size<256:=by omega
  simp[ex,step,b,v2,q1,q2]
 have t3:To g w 1 [(s2.pc:Int),n.place+V.md (V.ev W e) n.size] s2 ⟨s2.pc+1,upd s2.R (exC g w e).2 (s2.M (n.place+V.md (V.ev W e) n.size).toNat),s2.M,s2.seen++[(s2.pc:Int),n.place+V.md (V.ev W e) n.size]⟩:=
  ⟨rfl,λx hx=>upd_ne λe=>hx (e▸hr),λ_ _=>rfl,rfl⟩
 have tt:=t1.trans (t2'.trans t3)
 refine⟨_,ex_append _ _ _ _ _ x1 (ex_append _ _ _ _ _ x2 hx3),?_,?_⟩
 · have e1:(exC g w (.get p n e)).1.length=(exC g w e).1.length+(10+1):=by simp[exC,plC]
   have e2:seE W s.pc g w (.get p n e)=seE W s.pc g w e++(plS s1.pc (V.ev W e) n.size++[(s2.pc:Int),n.place+V.md (V.ev W e) n.size]):=by
    rw[t2.pc,t1.pc];rfl
   rw[e1,e2]
   exact tt
 · show upd _ _ _ (exC g w e).2=_
   rw[upd_self]
   exact hM2 _ (by omega)
theorem sim_op(W:List Int)(p:Int)(o:UInt8)(l r:Ex)(il:SimE W l)(ir:SimE W r):SimE W (.op p o l r):=by
 intro g w s h hw hn hM
 unfold V.wfE at hw
 obtain⟨w1,w2,w3⟩:=hw
 unfold need at hn
 obtain⟨s1,x1,t1,v1⟩:=il g w s h w2 (by omega) hM
 have ha:=exC_mem l (w:=w) h
 have hF2:=kp_fine h ha
 obtain⟨s2,x2,t2,hk2⟩:=kp_sim (s:=s1) h ha (by omega) v1
 have hM2:=(hM.to t1 h.wl).to t2 h.wl
 obtain⟨s3,x3,t3,v3⟩:=ir (kpG g (exC g w l).2) (kpW g w) s2 hF2 w3 (by have:=@kpW_len g w;omega) hM2
 have hb:=exC_mem r hF2
 have hk3:=kp_held h (by omega) hk2 t3 (λ_ hx=>hx) (λ_ hx=>hx)
 have g3:=hF2.g3
 have hlen:=List.length_erase_of_mem hb
 obtain⟨s4,x4,t4,v4,_,r4⟩:=ft_sim (w:=w) (h:=(kpG g (exC g w l).2).erase (exC (kpG g (exC g w l).2) (kpW g w) r).2) (λx hx=>hF2.g8 x (List.mem_of_mem_erase hx)) (by omega) (kp_word h (by omega)) hk3
 have hr4:=kp_reg (w:=w) (h:=(kpG g (exC g w l).2).erase (exC (kpG g (exC g w l).2) (kpW g w) r).2) h ha hb (λ_ hx=>hx) (by omega)
 have v5:s4.R (exC (kpG g (exC g w l).2) (kpW g w) r).2=V.ev W r:=(r4 _ (Or.inl λe=>(hF2.gn.mem_erase_iff.1 e).1 rfl)).trans v3
 have t3':=t3.wide (g':=g) (w':=w) (λ_ hx=>kpG_sub hx) (λ_ hx=>kpW_sub hx)
 have t4':=t4.wide (g':=g) (w':=w) (λ_ hx=>kpG_sub (List.mem_of_mem_erase hx)) (λ_ hx=>hx)
 have tt:=t1.trans (t2.trans (t3'.trans t4'))
 have q1:=t1.pc
 have q2:=t2.pc
 have q3:=t3.pc
 have q4:=t4.pc
 have hbg:=kpG_sub hb
 have hb8:=h.g8 _ hbg
 clear t3 t4 r4 il ir
 have e0:exC g w (.op p o l r)=((exC g w l).1++(kpC g w (exC g w l).2++((exC (kpG g (exC g w l).2) (kpW g w) r).1++(ftC ((kpG g (exC g w l).2).erase (exC (kpG g (exC g w l).2) (kpW g w) r).2) (kpK g w (exC g w l).2)++[.bin o (exC (kpG g (exC g w l).2) (kpW g w) r).2 (ftR ((kpG g (exC g w l).2).erase (exC (kpG g (exC g w l).2) (kpW g w) r).2) (kpK g w (exC g w l).2)) (exC (kpG g (exC g w l).2) (kpW g w) r).2]))),(exC (kpG g (exC g w l).2) (kpW g w) r).2):=rfl
 have e1:seE W s.pc g w (.op p o l r)=seE W s.pc g w l++(kpS g w s1.pc++(seE W s2.pc (kpG g (exC g w l).2) (kpW g w) r++(ftS s3.pc (kpK g w (exC g w l).2)++((s4.pc:Nat):Int)::if o=47 then [V.ev W l,V.ev W r]else []))):=by
  rw[q4,q3,q2,q1];rfl
 have e2:V.ev W (.op p o l r)=V.opf o (V.ev W l) (V.ev W r):=rfl
 rw[e0,e1,e2]
 dsimp only
 generalize(kpG g (exC g w l).2).erase (exC (kpG g (exC g w l).2) (kpW g w) r).2=hh at*
 generalize exC (kpG g (exC g w l).2) (kpW g w) r=Y at*
 generalize kpK g w (exC g w l).2=kk at*
 have x5:ex [.bin o Y.2 (ftR hh kk) Y.2] s4=some ⟨s4.pc+1,upd s4.R Y.2 (V.opf o (V.ev W l) (V.ev W r)),s4.M,s4.seen++((s4.pc:Int)::if o=47 then [V.ev W l,V.ev W r]else [])⟩:=by
  simp[ex,step,hb8,hr4.2,v4,v5]
 have t5:To g w 1 ((s4.pc:Int)::if o=47 then [V.ev W l,V.ev W r]else []) s4 ⟨s4.pc+1,upd s4.R Y.2 (V.opf o (V.ev W l) (V.ev W r)),s4.M,s4.seen++((s4.pc:Int)::if o=47 then [V.ev W l,V.ev W r]else [])⟩:=
  ⟨rfl,λx hx=>upd_ne λe=>hx (e▸hbg),λ_ _=>rfl,rfl⟩
 have t6:=tt.trans t5
 refine⟨_,ex_append _ _ _ _ _ x1 (ex_append _ _ _ _ _ x2 (ex_append _ _ _ _ _ x3 (ex_append _ _ _ _ _ x4 x5))),?_,upd_self _ _ _⟩
 simp only[List.append_assoc]at t6
 simp only[List.length_append,List.length_cons,List.length_nil]
 simpa only[Nat.add_assoc,Nat.zero_add]using t6
theorem sim_cho(W:List Int)(p:Int)(q y n:Ex)(iq:SimE W q)(iy:SimE W y)(i3:SimE W n):SimE W (.cho p q y n):=by
 intro g w s h hw hn hM
 unfold V.wfE at hw
 obtain⟨w1,w2,w3⟩:=hw
 unfold need at hn
 obtain⟨s1,x1,t1,v1⟩:=iq g w s h w1 (by omega) hM
 have ha:=exC_mem q (w:=w) h
 have hF2:=kp_fine h ha
 obtain⟨s2,x2,t2,hk2⟩:=kp_sim (s:=s1) h ha (by omega) v1
 have hM2:=(hM.to t1 h.wl).to t2 h.wl
 have hwl:=@kpW_len g w
 obtain⟨s3,x3,t3,v3⟩:=iy (kpG g (exC g w q).2) (kpW g w) s2 hF2 w2 (by omega) hM2
 have hb:=exC_mem y hF2
 have hk3:=kp_held h (by omega) hk2 t3 (λ_ hx=>hx) (λ_ hx=>hx)
 have hM3:=hM2.to t3 hF2.wl
 have e0:exC g w (.cho p q y n)=((exC g w q).1++(kpC g w (exC g w q).2++((exC (kpG g (exC g w q).2) (kpW g w) y).1++(kpC (kpG g (exC g w q).2) (kpW g w) (exC (kpG g (exC g w q).2) (kpW g w) y).2++((exC (kpG (kpG g (exC g w q).2) (exC (kpG g (exC g w q).2) (kpW g w) y).2) (kpW (kpG g (exC g w q).2) (kpW g w)) n).1++(ftC ((kpG (kpG g (exC g w q).2) (exC (kpG g (exC g w q).2) (kpW g w) y).2).erase (exC (kpG (kpG g (exC g w q).2) (exC (kpG g (exC g w q).2) (kpW g w) y).2) (kpW (kpG g (exC g w q).2) (kpW g w)) n).2) (kpK g w (exC g w q).2)++(ftC (ftG ((kpG (kpG g (exC g w q).2) (exC (kpG g (exC g w q).2) (kpW g w) y).2).erase (exC (kpG (kpG g (exC g w q).2) (exC (kpG g (exC g w q).2) (kpW g w) y).2) (kpW (kpG g (exC g w q).2) (kpW g w)) n).2) (kpK g w (exC g w q).2)) (kpK (kpG g (exC g w q).2) (kpW g w) (exC (kpG g (exC g w q).2) (kpW g w) y).2)++[.sel (exC (kpG (kpG g (exC g w q).2) (exC (kpG g (exC g w q).2) (kpW g w) y).2) (kpW (kpG g (exC g w q).2) (kpW g w)) n).2 (ftR (ftG ((kpG (kpG g (exC g w q).2) (exC (kpG g (exC g w q).2) (kpW g w) y).2).erase (exC (kpG (kpG g (exC g w q).2) (exC (kpG g (exC g w q).2) (kpW g w) y).2) (kpW (kpG g (exC g w q).2) (kpW g w)) n).2) (kpK g w (exC g w q).2)) (kpK (kpG g (exC g w q).2) (kpW g w) (exC (kpG g (exC g w q).2) (kpW g w) y).2)) (ftR ((kpG (kpG g (exC g w q).2) (exC (kpG g (exC g w q).2) (kpW g w) y).2).erase (exC (kpG (kpG g (exC g w q).2) (exC (kpG g (exC g w q).2) (kpW g w) y).2) (kpW (kpG g (exC g w q).2) (kpW g w)) n).2) (kpK g w (exC g w q).2)) (exC (kpG (kpG g (exC g w q).2) (exC (kpG g (exC g w q).2) (kpW g w) y).2) (kpW (kpG g (exC g w q).2) (kpW g w)) n).2])))))),(exC (kpG (kpG g (exC g w q).2) (exC (kpG g (exC g w q).2) (kpW g w) y).2) (kpW (kpG g (exC g w q).2) (kpW g w)) n).2):=rfl
 have E1:∀p0,seE W p0 g w (.cho p q y n)=seE W p0 g w q++(kpS g w (p0+(exC g w q).1.length)++(seE W (p0+(exC g w q).1.length+(kpC g w (exC g w q).2).length) (kpG g (exC g w q).2) (kpW g w) y++(kpS (kpG g (exC g w q).2) (kpW g w) (p0+(exC g w q).1.length+(kpC g w (exC g w q).2).length+(exC (kpG g (exC g w q).2) (kpW g w) y).1.length)++(seE W (p0+(exC g w q).1.length+(kpC g w (exC g w q).2).length+(exC (kpG g (exC g w q).2) (kpW g w) y).1.length+(kpC (kpG g (exC g w q).2) (kpW g w) (exC (kpG g (exC g w q).2) (kpW g w) y).2).length) (kpG (kpG g (exC g w q).2) (exC (kpG g (exC g w q).2) (kpW g w) y).2) (kpW (kpG g (exC g w q).2) (kpW g w)) n++(ftS (p0+(exC g w q).1.length+(kpC g w (exC g w q).2).length+(exC (kpG g (exC g w q).2) (kpW g w) y).1.length+(kpC (kpG g (exC g w q).2) (kpW g w) (exC (kpG g (exC g w q).2) (kpW g w) y).2).length+(exC (kpG (kpG g (exC g w q).2) (exC (kpG g (exC g w q).2) (kpW g w) y).2) (kpW (kpG g (exC g w q).2) (kpW g w)) n).1.length) (kpK g w (exC g w q).2)++(ftS (p0+(exC g w q).1.length+(kpC g w (exC g w q).2).length+(exC (kpG g (exC g w q).2) (kpW g w) y).1.length+(kpC (kpG g (exC g w q).2) (kpW g w) (exC (kpG g (exC g w q).2) (kpW g w) y).2).length+(exC (kpG (kpG g (exC g w q).2) (exC (kpG g (exC g w q).2) (kpW g w) y).2) (kpW (kpG g (exC g w q).2) (kpW g w)) n).1.length+(ftC ((kpG (kpG g (exC g w q).2) (exC (kpG g (exC g w q).2) (kpW g w) y).2).erase (exC (kpG (kpG g (exC g w q).2) (exC (kpG g (exC g w q).2) (kpW g w) y).2) (kpW (kpG g (exC g w q).2) (kpW g w)) n).2) (kpK g w (exC g w q).2)).length) (kpK (kpG g (exC g w q).2) (kpW g w) (exC (kpG g (exC g w q).2) (kpW g w) y).2)++[((p0+(exC g w q).1.length+(kpC g w (exC g w q).2).length+(exC (kpG g (exC g w q).2) (kpW g w) y).1.length+(kpC (kpG g (exC g w q).2) (kpW g w) (exC (kpG g (exC g w q).2) (kpW g w) y).2).length+(exC (kpG (kpG g (exC g w q).2) (exC (kpG g (exC g w q).2) (kpW g w) y).2) (kpW (kpG g (exC g w q).2) (kpW g w)) n).1.length+(ftC ((kpG (kpG g (exC g w q).2) (exC (kpG g (exC g w q).2) (kpW g w) y).2).erase (exC (kpG (kpG g (exC g w q).2) (exC (kpG g (exC g w q).2) (kpW g w) y).2) (kpW (kpG g (exC g w q).2) (kpW g w)) n).2) (kpK g w (exC g w q).2)).length+(ftC (ftG ((kpG (kpG g (exC g w q).2) (exC (kpG g (exC g w q).2) (kpW g w) y).2).erase (exC (kpG (kpG g (exC g w q).2) (exC (kpG g (exC g w q).2) (kpW g w) y).2) (kpW (kpG g (exC g w q).2) (kpW g w)) n).2) (kpK g w (exC g w q).2)) (kpK (kpG g (exC g w q).2) (kpW g w) (exC (kpG g (exC g w q).2) (kpW g w) y).2)).length:Nat):Int)])))))):=λ_=>rfl
 have e2:V.ev W (.cho p q y n)=if V.ev W q=0 then V.ev W n else V.ev W y:=rfl
 rw[e0,E1,e2]
 clear e0 E1 e2
 dsimp only
 have kw1:=kp_word (a:=(exC g w q).2) h (show 0<w.length by omega)
 have kr1:=kp_r8 (w:=w) h ha
 have kh1:=fun(g' w':List Nat) (m:Nat) (S:List Int) (s s':Ma)=>@kp_held g w g' w' m S (exC g w q).2 W.length (V.ev W q) s s' h (show 0<w.length by omega)
 have kn1:∀x,kpK g w (exC g w q).2=.word x->x∉kpW g w:=by
  intro x hx e
  unfold kpK at hx
  unfold kpW at e
  split at hx
  · cases hx
  · rename_i c
    cases hx
    rw[if_neg c]at e
    have hn':=h.wn
    rw[hd_tail (show 0<w.length by omega)]at hn'
    exact(List.nodup_cons.1 hn').1 e
 have kn2:∀x,kpK g w (exC g w q).2=.reg x->x∉kpG g (exC g w q).2:=by
  intro x hx e
  unfold kpK at hx
  unfold kpG at e
  split at hx
  · rename_i c
    cases hx
    rw[if_pos c]at e
    exact(h.gn.mem_erase_iff.1 e).1 rfl
  · cases hx
 have gs:∀x,x∈kpG g (exC g w q).2->x∈g:=λx hx=>kpG_sub hx
 have ws:∀x,x∈kpW g w->x∈w:=λx hx=>kpW_sub hx
 have q1:=t1.pc
 have q2:=t2.pc
 have q3:=t3.pc
 generalize kpK g w (exC g w q).2=j at*
 generalize kpG g (exC g w q).2=g2 at*
 generalize hw2:kpW g w=w2' at*
 generalize kpC g w (exC g w q).2=c2 at*
 generalize exC g2 w2' y=B at*
 obtain⟨s4,x4,t4,hk4⟩:=kp_sim (s:=s3) hF2 hb (by omega) v3
 have hF4:=kp_fine hF2 hb
 have hwl2:=@kpW_len g2 w2'
 have hM4:=hM3.to t4 hF2.wl
 have hk1_4:=kh1 g2 w2' _ _ _ _ hk3 t4 (λ_ hx=>hx) (λ_ hx=>hx)
 obtain⟨s5,x5,t5,v5⟩:=i3 (kpG g2 B.2) (kpW g2 w2') s4 hF4 w3 (by omega) hM4
 have hc:=exC_mem n hF4
 have hk5:=kp_held hF2 (by omega) hk4 t5 (λ_ hx=>hx) (λ_ hx=>hx)
 have hk1_5:=kh1 _ _ _ _ _ _ hk1_4 t5 (λ_ hx=>kpG_sub hx) (λ_ hx=>kpW_sub hx)
 have kw2:=kp_word (a:=B.2) hF2 (show 0<w2'.length by omega)
 have kr2:=kp_r8 (w:=w2') hF2 hb
 have kn4:∀x,kpK g2 w2' B.2=.reg x->x∉kpG g2 B.2:=by
  intro x hx e
  unfold kpK at hx
  unfold kpG at e
  split at hx
  · rename_i c
    cases hx
    rw[if_pos c]at e
    exact(hF2.gn.mem_erase_iff.1 e).1 rfl
  · cases hx
 have gs2:∀x,x∈kpG g2 B.2->x∈g2:=λx hx=>kpG_sub hx
 have ws2:∀x,x∈kpW g2 w2'->x∈w2':=λx hx=>kpW_sub hx
 have q4:=t4.pc
 have q5:=t5.pc
 generalize kpK g2 w2' B.2=k at*
 generalize kpG g2 B.2=g4 at*
 generalize kpW g2 w2'=w4 at*
 generalize kpC g2 w2' B.2=c4 at*
 generalize exC g4 w4 n=D at*
 have g43:=hF4.g3
 have hlen:=List.length_erase_of_mem hc
 have hnd:=hF4.gn.erase D.2
 have hsub:∀x,x∈g4.erase D.2->x∈g4:=λx hx=>List.mem_of_mem_erase hx
 have hDn:D.2∉g4.erase D.2:=λe=>(hF4.gn.mem_erase_iff.1 e).1 rfl
 obtain⟨s6,x6,t6,v6,m6,r6⟩:=ft_sim (w:=w) (h:=g4.erase D.2) (λx hx=>hF4.g8 x (hsub x hx)) (by omega) kw1 hk1_5
 have hk6:Held s6 (V.ev W y) k:=by
  cases k with
  |reg a=>exact(r6 a (Or.inl λe=>kn4 a rfl (hsub a e))).trans hk5
  |word x=>show s6.M x=_;rw[m6];exact hk5
 have hG:∀x,x∈ftG (g4.erase D.2) j->x∈g4.erase D.2:=by
  intro x hx
  cases j with
  |reg a=>exact hx
  |word b=>exact List.mem_of_mem_tail hx
 have hGl:0<(ftG (g4.erase D.2) j).length:=by
  cases j with
  |reg a=>show 0<(g4.erase D.2).length;omega
  |word b=>show 0<(g4.erase D.2).tail.length;rw[List.length_tail];omega
 obtain⟨s7,x7,t7,v7,m7,r7⟩:=ft_sim (w:=w) (h:=ftG (g4.erase D.2) j) (λx hx=>hF4.g8 x (hsub x (hG x hx))) hGl kw2 hk6
 have nj:ftR (g4.erase D.2) j∉ftG (g4.erase D.2) j:=by
  cases j with
  |reg a=>exact λe=>kn2 a rfl (gs2 a (hsub a e))
  |word b=>
   intro e
   have hn':=hnd
   rw[hd_tail (show 0<(g4.erase D.2).length by omega)]at hn'
   exact(List.nodup_cons.1 hn').1 e
 have v6':s7.R (ftR (g4.erase D.2) j)=V.ev W q:=(r7 _ (Or.inl nj)).trans v6
 have v5':s7.R D.2=V.ev W n:=(r7 _ (Or.inl λe=>hDn (hG _ e))).trans ((r6 _ (Or.inl hDn)).trans v5)
 have bj:ftR (g4.erase D.2) j<8:=by
  cases j with
  |reg a=>exact kr1 a rfl
  |word b=>exact hF4.g8 _ (hsub _ (hd_mem (show 0<(g4.erase D.2).length by omega)))
 have bk:ftR (ftG (g4.erase D.2) j) k<8:=by
  cases k with
  |reg a=>exact kr2 a rfl
  |word b=>exact hF4.g8 _ (hsub _ (hG _ (hd_mem hGl)))
 have hDg:=gs _ (gs2 _ hc)
 have bD:=h.g8 _ hDg
 have t3':=t3.wide (g':=g) (w':=w) gs ws
 have t4':=t4.wide (g':=g) (w':=w) gs ws
 have t5':=t5.wide (g':=g) (w':=w) (λx hx=>gs x (gs2 x hx)) (λx hx=>ws x (ws2 x hx))
 have t6':=t6.wide (g':=g) (w':=w) (λx hx=>gs x (gs2 x (hsub x hx))) (λx hx=>hx)
 have t7':=t7.wide (g':=g) (w':=w) (λx hx=>gs x (gs2 x (hsub x (hG x hx)))) (λx hx=>hx)
 have x8:ex [.sel D.2 (ftR (ftG (g4.erase D.2) j) k) (ftR (g4.erase D.2) j) D.2] s7=some ⟨s7.pc+1,upd s7.R D.2 (if V.ev W q=0 then V.ev W n else V.ev W y),s7.M,s7.seen++[(s7.pc:Int)]⟩:=by
  simp[ex,step,bD,bj,bk,v7,v6',v5']
 have t8:To g w 1 [(s7.pc:Int)] s7 ⟨s7.pc+1,upd s7.R D.2 (if V.ev W q=0 then V.ev W n else V.ev W y),s7.M,s7.seen++[(s7.pc:Int)]⟩:=
  ⟨rfl,λx hx=>upd_ne λe=>hx (e▸hDg),λ_ _=>rfl,rfl⟩
 have tt:=t1.trans (t2.trans (t3'.trans (t4'.trans (t5'.trans (t6'.trans (t7'.trans t8))))))
 refine⟨_,ex_append _ _ _ _ _ x1 (ex_append _ _ _ _ _ x2 (ex_append _ _ _ _ _ x3 (ex_append _ _ _ _ _ x4 (ex_append _ _ _ _ _ x5 (ex_append _ _ _ _ _ x6 (ex_append _ _ _ _ _ x7 x8)))))),?_,upd_self _ _ _⟩
 rw[<-q1,<-q2,<-q3,<-q4,<-q5,<-t6.pc,<-t7.pc]
 simpa only[List.length_append,List.length_cons,List.length_nil,Nat.zero_add]using tt
theorem sim_ex(W:List Int)(hL:W.length<=60):∀e,SimE W e
 |.num v=>sim_num W v
 |.use n=>sim_use W hL n
 |.get p n e=>sim_get W hL p n e (sim_ex W hL e)
 |.op p o l r=>sim_op W p o l r (sim_ex W hL l) (sim_ex W hL r)
 |.cho p q y n=>sim_cho W p q y n (sim_ex W hL q) (sim_ex W hL y) (sim_ex W hL n)
 |.none=>λ_ _ _ _ h=>by unfold V.wfE at h;exact h.elim
def R8:List Nat:=[0,1,2,3,4,5,6,7]
def chC(g:List Nat)(p r:Nat):Option Nat->List Ins
 |none=>[.st p r]
 |some x=>[.kst (hd g) (x:Nat),.ld (hd g) (hd g),.ld (hd g.tail) p,.sel r r (hd g) (hd g.tail),.st p r]
def cnC(u:Nat):Option Nat->List Ins
 |none=>[.kst u 1]
 |some x=>[.kst u (x:Nat),.ld u u]
def coC(g:List Nat)(r yes no:Nat)(k:Option Nat):List Ins:=
 let u:=hd g
 let v:=hd g.tail
 let s:=hd g.tail.tail
 let t:=hd g.tail.tail.tail
 cnC u k++[.kst v 0,.sel s u r v,.kst t (yes:Nat),.st t s,.sel s v r u,.kst t (no:Nat),.st t s]
def roC(g:List Nat)(r c:Nat):List Ins:=
 let m:=hd g
 let f:=hd g.tail
 let t:=hd g.tail.tail
 [.kst m 5,.bin 60 f r m,.sel r r f m,.kst t (c:Nat),.st t r]
def hdC(cp:Int)(c d:Nat):List Ins:=[.kst 0 cp,.ld 0 0,.kst 1 (c:Nat),.ld 1 1,.bin 60 0 0 1,.jz 0 d]
def onC(cp:Int)(d:Nat):List Ins:=[.kst 0 cp,.ld 0 0,.kst 1 1,.bin 43 0 0 1,.kst 2 cp,.st 2 0,.jmp d]
mutual
def doC:Nat->List Nat->Option Nat->Do->List Ins
 |_,w,k,.set _ n e=>
  let x:=exC R8 w e
  let g:=R8.erase x.2
  x.1++(.kst (hd g) n.place::chC g.tail (hd g) x.2 k)
 |_,w,k,.put _ n i e=>
  let x:=exC R8 w e
  let y:=exC (R8.erase x.2) w i
  let g:=(R8.erase x.2).erase y.2
  x.1++(y.1++(plC g y.2 n++chC g y.2 x.2 k))
 |p,w,k,.ifs _ q y n=>if K.sec q=true then
  let a:=hd w
  let b:=hd w.tail
  let w2:=w.tail.tail
  let x:=exC R8 w2 q
  let c:=coC (R8.erase x.2) x.2 a b k
  let p1:=p+x.1.length+c.length
  let Y:=dosC p1 w2 (some a) y
  x.1++(c++(Y++dosC (p1+Y.length) w2 (some b) n))
  else
   let x:=exC R8 w q
   let p1:=p+x.1.length+1
   let Y:=dosC p1 w k y
   let p2:=p1+Y.length+1
   let N:=dosC p2 w k n
   x.1++(.jz x.2 p2::(Y++(.jmp (p2+N.length)::N)))
 |p,w,k,.fors _ n r l=>
  let c:=hd w
  let x:=exC R8 w.tail r
  let p1:=p+x.1.length+8
  let B:=dosC (p1+6) w.tail k l
  x.1++(roC (R8.erase x.2) x.2 c++([.kst 0 0,.kst 1 n.place,.st 1 0]++(hdC n.place c (p1+6+B.length+7)++(B++onC n.place p1))))
 |_,_,_,.none=>[]
def dosC:Nat->List Nat->Option Nat->List Do->List Ins
 |_,_,_,[]=>[]
 |p,w,k,d::l=>
  let D:=doC p w k d
  D++dosC (p+D.length) w k l
end
def prC(N:Nat)(l:List Do):List Ins:=dosC 0 ((List.range 256).drop (N+2)) none l++[.halt]
def U.loop(f:List Int->List Int)(k:Nat):Nat->Nat->List Int->List Int
 |0,_,W=>W
 |m+1,i,W=>U.loop f k m (i+1) ((f W).set k ((i+1:Nat):Int))
mutual
def U.rd:Bool->Do->List Int->List Int
 |on,.set _ n e,W=>if on=true then W.set n.place.toNat (V.ev W e)else W
 |on,.put _ n i e,W=>if on=true then W.set (n.place+V.md (V.ev W i) n.size).toNat (V.ev W e)else W
 |on,.ifs _ q y n,W=>if K.sec q=true then U.rds (on&&decide (V.ev W q=0)) n (U.rds (on&&decide (¬V.ev W q=0)) y W)
  else if V.ev W q=0 then U.rds on n W else U.rds on y W
 |on,.fors _ n r l,W=>U.loop (λW=>U.rds on l W) n.place.toNat (V.times (V.ev W r)) 0 (W.set n.place.toNat 0)
 |_,.none,W=>W
def U.rds:Bool->List Do->List Int->List Int
 |_,[],W=>W
 |on,d::l,W=>U.rds on l (U.rd on d W)
end
def chS(p:Nat)(at_:Int):Option Nat->List Int
 |none=>[(p:Int),at_]
 |some x=>[(p:Int),(p+1:Nat),(x:Nat),(p+2:Nat),at_,(p+3:Nat),(p+4:Nat),at_]
def cnS(p:Nat):Option Nat->List Int
 |none=>[(p:Int)]
 |some x=>[(p:Int),(p+1:Nat),(x:Nat)]
def coS(p yes no:Nat)(k:Option Nat):List Int:=
 let q:=p+(cnC 0 k).length
 cnS p k++[(q:Int),(q+1:Nat),(q+2:Nat),(q+3:Nat),(yes:Nat),(q+4:Nat),(q+5:Nat),(q+6:Nat),(no:Nat)]
def roS(p c:Nat):List Int:=[(p:Int),(p+1:Nat),(p+2:Nat),(p+3:Nat),(p+4:Nat),(c:Nat)]
def hdS(p:Nat)(cp:Int)(c:Nat):List Int:=[(p:Int),(p+1:Nat),cp,(p+2:Nat),(p+3:Nat),(c:Nat),(p+4:Nat),(p+5:Nat)]
def onS(p:Nat)(cp:Int):List Int:=[(p:Int),(p+1:Nat),cp,(p+2:Nat),(p+3:Nat),(p+4:Nat),(p+5:Nat),cp,(p+6:Nat)]
def loS(f:List Int->List Int)(S:List Int->List Int)(k:Nat)(h o:List Int):Nat->Nat->List Int->List Int
 |0,_,_=>h
 |m+1,i,W=>h++(S W++(o++loS f S k h o m (i+1) ((f W).set k ((i+1:Nat):Int))))
mutual
def seD:Nat->List Nat->Option Nat->Bool->Do->List Int->List Int
 |p,w,k,_,.set _ n e,W=>
  let x:=exC R8 w e
  seE W p R8 w e++(((p+x.1.length:Nat):Int)::chS (p+x.1.length+1) n.place k)
 |p,w,k,_,.put _ n i e,W=>
  let x:=exC R8 w e
  let y:=exC (R8.erase x.2) w i
  let p1:=p+x.1.length
  let p2:=p1+y.1.length
  seE W p R8 w e++(seE W p1 (R8.erase x.2) w i++(plS p2 (V.ev W i) n.size++chS (p2+10) (n.place+V.md (V.ev W i) n.size) k))
 |p,w,k,on,.ifs _ q y n,W=>if K.sec q=true then
  let a:=hd w
  let b:=hd w.tail
  let w2:=w.tail.tail
  let x:=exC R8 w2 q
  let c:=coC (R8.erase x.2) x.2 a b k
  let p1:=p+x.1.length+c.length
  let Y:=dosC p1 w2 (some a) y
  seE W p R8 w2 q++(coS (p+x.1.length) a b k++(seDs p1 w2 (some a) (on&&decide (¬V.ev W q=0)) y W++seDs (p1+Y.length) w2 (some b) (on&&decide (V.ev W q=0)) n (U.rds (on&&decide (¬V.ev W q=0)) y W)))
  else
   let x:=exC R8 w q
   let p1:=p+x.1.length+1
   let Y:=dosC p1 w k y
   let p2:=p1+Y.length+1
   seE W p R8 w q++(((p+x.1.length:Nat):Int)::if V.ev W q=0 then seDs p2 w k on n W else seDs p1 w k on y W++[((p1+Y.length:Nat):Int)])
 |p,w,k,on,.fors _ n r l,W=>
  let c:=hd w
  let x:=exC R8 w.tail r
  let p0:=p+x.1.length
  let p1:=p+x.1.length+8
  let B:=dosC (p1+6) w.tail k l
  seE W p R8 w.tail r++(roS p0 c++([((p0+5:Nat):Int),(p0+6:Nat),(p0+7:Nat),n.place]++
   loS (λW=>U.rds on l W) (λW=>seDs (p1+6) w.tail k on l W) n.place.toNat (hdS p1 n.place c) (onS (p1+6+B.length) n.place) (V.times (V.ev W r)) 0 (W.set n.place.toNat 0)))
 |_,_,_,_,.none,_=>[]
def seDs:Nat->List Nat->Option Nat->Bool->List Do->List Int->List Int
 |_,_,_,_,[],_=>[]
 |p,w,k,on,d::l,W=>
  let D:=doC p w k d
  seD p w k on d W++seDs (p+D.length) w k on l (U.rd on d W)
end
def needD:Do->Nat
 |.set _ _ e=>need e
 |.put _ _ i e=>max (need i) (need e)
 |.ifs _ q y n=>max (need q) (max (needL y) (needL n))+2
 |.fors _ _ r l=>max (need r) (needL l)+1
 |.none=>0
where needL:List Do->Nat
 |[]=>0
 |d::l=>max (needD d) (needL l)
def cE:Ex->Nat
 |.num _=>1
 |.use _=>2
 |.get _ _ e=>cE e+11
 |.op _ _ l r=>cE l+cE r+5
 |.cho _ q y n=>cE q+cE y+cE n+9
 |.none=>1
theorem kpC_len(g w:List Nat)(a:Nat):(kpC g w a).length<=2:=by unfold kpC;split<;>simp
theorem ftC_len(g:List Nat)(k:Kp):(ftC g k).length<=2:=by cases k<;>simp[ftC]
theorem exC_len:∀(e:Ex) (g w:List Nat),(exC g w e).1.length<=cE e
 |.num _,_,_=>by simp[exC,cE]
 |.use _,_,_=>by simp[exC,cE]
 |.none,_,_=>by simp[exC,cE]
 |.get _ n e,g,w=>by
  have:=exC_len e g w
  simp only[exC,cE,List.length_append,List.length_cons,List.length_nil,plC];omega
 |.op _ o l r,g,w=>by
  have h1:=exC_len l g w
  have h2:=exC_len r (kpG g (exC g w l).2) (kpW g w)
  have h3:=kpC_len g w (exC g w l).2
  have h4:=ftC_len ((kpG g (exC g w l).2).erase (exC (kpG g (exC g w l).2) (kpW g w) r).2) (kpK g w (exC g w l).2)
  simp only[exC,cE,List.length_append,List.length_cons,List.length_nil];omega
 |.cho _ q y n,g,w=>by
  have h1:=exC_len q g w
  have h2:=exC_len y (kpG g (exC g w q).2) (kpW g w)
  have h3:=kpC_len g w (exC g w q).2
  have h5:=exC_len n (kpG (kpG g (exC g w q).2) (exC (kpG g (exC g w q).2) (kpW g w) y).2) (kpW (kpG g (exC g w q).2) (kpW g w))
  have h6:=kpC_len (kpG g (exC g w q).2) (kpW g w) (exC (kpG g (exC g w q).2) (kpW g w) y).2
  simp only[exC,cE,List.length_append,List.length_cons,List.length_nil]
  have h7:=λh j=>ftC_len h j
  have h8:=h7 ((kpG (kpG g (exC g w q).2) (exC (kpG g (exC g w q).2) (kpW g w) y).2).erase (exC (kpG (kpG g (exC g w q).2) (exC (kpG g (exC g w q).2) (kpW g w) y).2) (kpW (kpG g (exC g w q).2) (kpW g w)) n).2) (kpK g w (exC g w q).2)
  have h9:=h7 (ftG ((kpG (kpG g (exC g w q).2) (exC (kpG g (exC g w q).2) (kpW g w) y).2).erase (exC (kpG (kpG g (exC g w q).2) (exC (kpG g (exC g w q).2) (kpW g w) y).2) (kpW (kpG g (exC g w q).2) (kpW g w)) n).2) (kpK g w (exC g w q).2)) (kpK (kpG g (exC g w q).2) (kpW g w) (exC (kpG g (exC g w q).2) (kpW g w) y).2)
  omega
def cD:Do->Nat
 |.set _ _ e=>cE e+6
 |.put _ _ i e=>cE i+cE e+15
 |.ifs _ q y n=>cE q+cDs y+cDs n+11
 |.fors _ _ r l=>cE r+14+5*(cDs l+13)
 |.none=>0
where cDs:List Do->Nat
 |[]=>0
 |d::l=>cD d+cDs l
theorem exC_straight:∀(e:Ex) (g w:List Nat),(exC g w e).1.all straight=true:=by
 have hk:∀g w a,(kpC g w a).all straight=true:=by intro g w a;unfold kpC;split<;>rfl
 have hf:∀g k,(ftC g k).all straight=true:=by intro g k;cases k<;>rfl
 intro e
 induction e with
 |num v=>intro g w;rfl
 |use v=>intro g w;rfl
 |none=>intro g w;rfl
 |get p n e ih=>intro g w;simp only[exC,List.all_append,ih,Bool.true_and];rfl
 |op p o l r il ir=>intro g w;simp only[exC,List.all_append,il,ir,hk,hf,Bool.true_and];rfl
 |cho p q y n iq iy i3=>intro g w;simp only[exC,List.all_append,iq,iy,i3,hk,hf,Bool.true_and];rfl
end Y
end Go.Proofs.YtejbgcloblpbfaaGreatDoor
