import Derived.Test.YtejbgcloblpbfaaGreatDoorProg
import Derived.WalkKit
import Derived.WalkSpells
import Derived.WalkLawsBesides
import Derived.BigRegion
import Derived.BigQuiet
import Derived.Deep.RegionLaw
import Derived.Below
import Derived.Lib.SmallJoins
import Derived.Deep.RegionLawGrows
namespace Go.Proofs.YtejbgcloblpbfaaGreatDoor
section
open Go.RowKit
theorem hide{p:Prop}(h:p):Hid p:=h
theorem beq_no{α:Type}[BEq α][LawfulBEq α]{a b:α}(h:¬a=b):(a==b)=false:=by simpa using h
theorem beq_yes{α:Type}[BEq α][LawfulBEq α]{a b:α}(h:a=b):(a==b)=true:=by simpa using h
def At(w:World)(b:Nat)(t:TypeId)(cs:List Value):Prop:=w.heap[b]?=some (.cells cs.toArray t (0,0))
theorem At.lt{w:World}{b:Nat}{t:TypeId}{cs:List Value}(h:At w b t cs):b<w.heap.size:=by
 unfold At at h
 exact(Array.getElem?_eq_some_iff.1 h).1
theorem At.cell{w:World}{b:Nat}{t:TypeId}{cs:List Value}(h:At w b t cs)(i:Nat):w.cell? ⟨b,i,none⟩=cs[i]?:=by
 unfold At at h
 simp[World.cell?,h]
theorem At.frozen{w:World}{b:Nat}{t:TypeId}{cs:List Value}(h:At w b t cs)(i:Nat):w.frozen? ⟨b,i,none⟩=false:=by
 unfold At at h
 simp[World.frozen?,h]
theorem At.of_block{w w':World}{b:Nat}{t:TypeId}{cs:List Value}(h:At w b t cs)(e:w'.heap[b]?=w.heap[b]?):At w' b t cs:=by
 unfold At at*
 rw[e];exact h
theorem At.drew{w:World}{b:Nat}{t:TypeId}{cs:List Value}(h:At w b t cs):At w.drew b t cs:=h
theorem heap_alloc_old(w:World)(o:Obj)(k:Nat)(h:k<w.heap.size):(w.alloc o).heap[k]?=w.heap[k]?:=Below.heap_alloc w o k h
theorem At.alloc{w:World}{b:Nat}{t:TypeId}{cs:List Value}(h:At w b t cs)(o:Obj):At (w.alloc o) b t cs:=
 h.of_block (heap_alloc_old _ _ _ h.lt)
theorem At.alloc_new(w:World)(cs:List Value)(t:TypeId):At (w.alloc (.cells cs.toArray t (0,0))) w.heap.size t cs:=by
 show(w.heap.push _)[w.heap.size]?=_
 simp
theorem At.set{w:World}{b:Nat}{t:TypeId}{cs:List Value}(h:At w b t cs)(i:Nat)(v:Value):At (w.setCell ⟨b,i,none⟩ v) b t (cs.set i v):=by
 unfold At at*
 simp[World.setCell,Array.getElem?_modify,h]
theorem At.set_other{w:World}{b:Nat}{t:TypeId}{cs:List Value}(h:At w b t cs){a:Addr}(ne:b≠a.block)(v:Value):At (w.setCell a v) b t cs:=
 h.of_block (Below.heap_setCell _ _ _ _ ne)
structure But(b:Nat)(w w':World):Prop where
 os:w'.os=w.os
 tape:w'.tape=w.tape
 output:w'.output=w.output
 size:w.heap.size<=w'.heap.size
 block:∀k,k<w.heap.size->k≠b->w'.heap[k]?=w.heap[k]?
theorem But.refl(b:Nat)(w:World):But b w w:=⟨rfl,rfl,rfl,Nat.le_refl _,λ_ _ _=>rfl⟩
theorem But.trans{b:Nat}{a c d:World}(h:But b a c)(k:But b c d):But b a d:=
 ⟨k.os.trans h.os,k.tape.trans h.tape,k.output.trans h.output,Nat.le_trans h.size k.size,λi hi ne=>(k.block i (Nat.lt_of_lt_of_le hi h.size) ne).trans (h.block i hi ne)⟩
theorem But.drew{b:Nat}{a w:World}(h:But b a w):But b a w.drew:=⟨h.os,h.tape,h.output,h.size,h.block⟩
theorem But.alloc{b:Nat}{a w:World}(h:But b a w)(o:Obj):But b a (w.alloc o):=
 h.trans ⟨rfl,rfl,rfl,by simp,λk hk _=>heap_alloc_old _ _ _ hk⟩
theorem But.set{b:Nat}{a w:World}(h:But b a w)(i:Nat)(v:Value):But b a (w.setCell ⟨b,i,none⟩ v):=
 h.trans ⟨rfl,rfl,rfl,by simp[World.setCell],λ_ _ ne=>Below.heap_setCell _ _ _ _ ne⟩
theorem But.set_new{b:Nat}{a w:World}(h:But b a w){p:Addr}(hp:a.heap.size<=p.block)(v:Value):But b a (w.setCell p v):=
 ⟨h.os,h.tape,h.output,by simpa[World.setCell]using h.size,λk hk ne=>(Below.heap_setCell _ _ _ _ (by omega)).trans (h.block k hk ne)⟩
def Foot(w:World)(b k:Nat):Prop:=k=b∨(∃i v,w.cell? ⟨b,i,none⟩=some v/\v.ownBlock=some k)∨
 ∃g len cap j u,w.cell? ⟨b,7,none⟩=some (.slice (some ⟨g,0,none⟩) len cap)/\j<len*10/\w.cell? ⟨g,j,none⟩=some u/\u.ownBlock=some k
def Tight(w:World)(b:Nat):Prop:=∀k,Foot w b k->k<w.heap.size
theorem Foot.of_same{w w':World}{b k:Nat}(e:∀k,Foot w b k->w'.heap[k]?=w.heap[k]?)(h:Foot w' b k):Foot w b k:=by
 have hc:∀i,w'.cell? ⟨b,i,none⟩=w.cell? ⟨b,i,none⟩:=λi=>World.cell?_of_block (w:=w) (w':=w') (a:=⟨b,i,none⟩) (e b (Or.inl rfl))
 rcases h with h |⟨i,v,h1,h2⟩|⟨g,len,cap,j,u,h1,h2,h3,h4⟩
 · exact Or.inl h
 · exact Or.inr (Or.inl ⟨i,v,by rw[<-hc];exact h1,h2⟩)
 · rw[hc]at h1
   have hg:w'.heap[g]?=w.heap[g]?:=e g (Or.inr (Or.inl ⟨7,_,h1,rfl⟩))
   exact Or.inr (Or.inr ⟨g,len,cap,j,u,h1,h2,by rw[<-World.cell?_of_block (w:=w) (w':=w') (a:=⟨g,j,none⟩) hg];exact h3,h4⟩)
structure Moves(b:Nat)(w w':World):Prop where
 os:w'.os=w.os
 tape:w'.tape=w.tape
 output:w'.output=w.output
 size:w.heap.size<=w'.heap.size
 main:Tight w b->Tight w' b/\(∀k,k<w.heap.size->¬Foot w b k->w'.heap[k]?=w.heap[k]?)/\(∀k,k<w.heap.size->Foot w' b k->Foot w b k)
theorem Moves.refl(b:Nat)(w:World):Moves b w w:=⟨rfl,rfl,rfl,Nat.le_refl _,λt=>⟨t,λ_ _ _=>rfl,λ_ _ h=>h⟩⟩
theorem Moves.trans{b:Nat}{a c d:World}(h:Moves b a c)(k:Moves b c d):Moves b a d:=
 ⟨k.os.trans h.os,k.tape.trans h.tape,k.output.trans h.output,Nat.le_trans h.size k.size,λt=>by
  obtain⟨h1,h2,h3⟩:=h.main t
  obtain⟨k1,k2,k3⟩:=k.main h1
  exact⟨k1,λi hi ne=>(k2 i (Nat.lt_of_lt_of_le hi h.size) (λf=>ne (h3 i hi f))).trans (h2 i hi ne),λi hi f=>h3 i hi (k3 i (Nat.lt_of_lt_of_le hi h.size) f)⟩⟩
theorem Moves.of_same{b:Nat}{w w':World}(h1:w'.os=w.os)(h2:w'.tape=w.tape)(h3:w'.output=w.output)(h4:w.heap.size<=w'.heap.size)(h5:∀k,k<w.heap.size->w'.heap[k]?=w.heap[k]?):Moves b w w':=
 ⟨h1,h2,h3,h4,λt=>⟨λk f=>Nat.lt_of_lt_of_le (t k (Foot.of_same (λk f=>h5 k (t k f)) f)) h4,λk hk _=>h5 k hk,λ_ _ f=>Foot.of_same (λk f=>h5 k (t k f)) f⟩⟩
theorem Moves.drew{b:Nat}{a w:World}(h:Moves b a w):Moves b a w.drew:=h.trans (Moves.of_same rfl rfl rfl (Nat.le_refl _) (λ_ _=>rfl))
theorem Moves.alloc{b:Nat}{a w:World}(h:Moves b a w)(o:Obj):Moves b a (w.alloc o):=
 h.trans (Moves.of_same rfl rfl rfl (by simp) (λ_ hk=>heap_alloc_old _ _ _ hk))
structure MovesX(X:Nat->Prop)(b:Nat)(w w':World):Prop where
 os:w'.os=w.os
 tape:w'.tape=w.tape
 output:w'.output=w.output
 size:w.heap.size<=w'.heap.size
 main:Tight w b->Tight w' b/\(∀k,k<w.heap.size->¬Foot w b k->w'.heap[k]?=w.heap[k]?)/\(∀k,k<w.heap.size->Foot w' b k->Foot w b k∨X k)
theorem Moves.transX{X:Nat->Prop}{b:Nat}{a c d:World}(h:Moves b a c)(k:MovesX X b c d)(hX:∀k,X k->a.heap.size<=k):Moves b a d:=
 ⟨k.os.trans h.os,k.tape.trans h.tape,k.output.trans h.output,Nat.le_trans h.size k.size,λt=>by
  obtain⟨h1,h2,h3⟩:=h.main t
  obtain⟨k1,k2,k3⟩:=k.main h1
  refine⟨k1,λi hi ne=>(k2 i (Nat.lt_of_lt_of_le hi h.size) (λf=>ne (h3 i hi f))).trans (h2 i hi ne),λi hi f=>?_⟩
  rcases k3 i (Nat.lt_of_lt_of_le hi h.size) f with f |f
  · exact h3 i hi f
  · have:=hX i f;omega⟩
structure Box(w:World)(b k:Nat)(t:TypeId)(cs:List Value):Prop where
 here:At w k t cs
 off:¬Foot w b k
 tight:Tight w b
theorem Box.moves{w w':World}{b k:Nat}{t:TypeId}{cs:List Value}(h:Box w b k t cs)(m:Moves b w w'):Box w' b k t cs:=
 ⟨h.here.of_block ((m.main h.tight).2.1 k h.here.lt h.off),λf=>h.off ((m.main h.tight).2.2 k h.here.lt f),(m.main h.tight).1⟩
theorem Box.alloc{w:World}{b k:Nat}{t:TypeId}{cs:List Value}(h:Box w b k t cs)(o:Obj):Box (w.alloc o) b k t cs:=
 h.moves ((Moves.refl b w).alloc o)
theorem Box.ne{w:World}{b k:Nat}{t:TypeId}{cs:List Value}(h:Box w b k t cs):k≠b:=λe=>h.off (Or.inl e)
theorem Box.c{w:World}{b k:Nat}{t:TypeId}{cs:List Value}(h:Box w b k t cs)(i:Nat)(v:Value)(e:cs[i]?=some v):w.cell? ⟨k,i,none⟩=some v:=by
 rw[h.here.cell,e]
theorem Box.f{w:World}{b k:Nat}{t:TypeId}{cs:List Value}(h:Box w b k t cs)(i:Nat):w.frozen? ⟨k,i,none⟩=false:=h.here.frozen i
theorem foot_set{w:World}{b:Nat}{p:Addr}(nf:¬Foot w b p.block)(v:Value){k:Nat}(f:Foot (w.setCell p v) b k):Foot w b k:=
 Foot.of_same (λ_ f'=>Below.heap_setCell _ _ _ _ (λe=>nf (e▸f'))) f
theorem tight_set{w:World}{b:Nat}{p:Addr}(nf:¬Foot w b p.block)(v:Value)(t:Tight w b):Tight (w.setCell p v) b:=
 λk f=>by have:=t k (foot_set nf v f);simpa[World.setCell]using this
theorem Box.set{w:World}{b k:Nat}{t:TypeId}{cs:List Value}(h:Box w b k t cs)(i:Nat)(v:Value):Box (w.setCell ⟨k,i,none⟩ v) b k t (cs.set i v):=
 ⟨h.here.set i v,λf=>h.off (foot_set h.off v f),tight_set h.off v h.tight⟩
theorem Box.set_other{w:World}{b k k':Nat}{t t':TypeId}{cs cs':List Value}(h:Box w b k t cs)(h':Box w b k' t' cs')(ne:k≠k')(i:Nat)(v:Value):Box (w.setCell ⟨k',i,none⟩ v) b k t cs:=
 ⟨h.here.set_other ne v,λf=>h.off (foot_set h'.off v f),tight_set h'.off v h.tight⟩
theorem Moves.set_box{a w:World}{b k:Nat}{t:TypeId}{cs:List Value}(m:Moves b a w)(h:Box w b k t cs)(hk:a.heap.size<=k)(i:Nat)(v:Value):Moves b a (w.setCell ⟨k,i,none⟩ v):=
 ⟨m.os,m.tape,m.output,by simpa[World.setCell]using m.size,λta=>by
  obtain⟨h1,h2,h3⟩:=m.main ta
  exact⟨tight_set h.off v h1,λk' hk' nf=>(Below.heap_setCell _ _ _ _ (by show k'≠k;omega)).trans (h2 k' hk' nf),λk' hk' f=>h3 k' hk' (foot_set h.off v f)⟩⟩
end
section
namespace Y
def hg(h:List Int)(i:Nat):Int:=h.getD i 0
def sw(h:List Int)(i j:Nat):List Int:=(h.set i (hg h j)).set j (hg h i)
def upL:Nat->List Int->Nat->List Int
 |0,h,_=>h
 |f+1,h,j=>if(j-1) / 2=j∨¬hg h j<hg h ((j-1) / 2)then h else upL f (sw h ((j-1) / 2) j) ((j-1) / 2)
def son(h:List Int)(i n:Nat):Nat:=if 2*i+2<n/\hg h (2*i+2)<hg h (2*i+1)then 2*i+2 else 2*i+1
def downL:Nat->List Int->Nat->Nat->List Int
 |0,h,_,_=>h
 |f+1,h,i,n=>if 2*i+1<n/\hg h (son h i n)<hg h i then downL f (sw h i (son h i n)) (son h i n) n else h
def Heap(h:List Int)(n:Nat):Prop:=∀k,0<k->k<n->hg h ((k-1) / 2)<=hg h k
theorem sw_len(h:List Int)(i j:Nat):(sw h i j).length=h.length:=by simp[sw]
theorem hg_sw{h:List Int}{i j:Nat}(hi:i<h.length)(hj:j<h.length)(k:Nat):hg (sw h i j) k=if k=j then hg h i else if k=i then hg h j else hg h k:=by
 unfold sw hg
 rw[List.getD_eq_getElem?_getD,List.getD_eq_getElem?_getD,List.getD_eq_getElem?_getD,List.getD_eq_getElem?_getD]
 by_cases c:k=j
 · subst c
   rw[if_pos rfl,List.getElem?_set_self (by simpa using hj)];rfl
 · rw[if_neg c,List.getElem?_set_ne (λe=>c e.symm)]
   by_cases d:k=i
   · subst d
     rw[if_pos rfl,List.getElem?_set_self hi];rfl
   · rw[if_neg d,List.getElem?_set_ne (λe=>d e.symm)]
theorem sw_perm{h:List Int}{i j:Nat}(hi:i<h.length)(hj:j<h.length):(sw h i j).Perm h:=by
 have e1:hg h j=h[j]:=by simp[hg,List.getD_eq_getElem?_getD,hj]
 have e2:hg h i=h[i]:=by simp[hg,List.getD_eq_getElem?_getD,hi]
 unfold sw
 rw[e1,e2]
 exact List.set_set_perm hi hj
theorem upL_len:∀(f:Nat) (h:List Int) (j:Nat),(upL f h j).length=h.length
 |0,_,_=>rfl
 |f+1,h,j=>by
  unfold upL
  split
  · rfl
  · rw[upL_len,sw_len]
theorem upL_perm:∀(f:Nat) (h:List Int) (j:Nat),j<h.length->(upL f h j).Perm h
 |0,_,_,_=>List.Perm.refl _
 |f+1,h,j,hj=>by
  unfold upL
  split
  · exact List.Perm.refl _
  · have:(j-1) / 2<h.length:=by omega
    exact(upL_perm f _ _ (by rw[sw_len];exact this)).trans (sw_perm this hj)
theorem downL_len:∀(f:Nat) (h:List Int) (i n:Nat),(downL f h i n).length=h.length
 |0,_,_,_=>rfl
 |f+1,h,i,n=>by
  unfold downL
  split
  · rw[downL_len,sw_len]
  · rfl
theorem son_lt{h:List Int}{i n:Nat}(hi:2*i+1<n):son h i n<n/\i<son h i n:=by
 unfold son
 split<;>omega
theorem downL_perm:∀(f:Nat) (h:List Int) (i n:Nat),i<h.length->n<=h.length->(downL f h i n).Perm h
 |0,_,_,_,_,_=>List.Perm.refl _
 |f+1,h,i,n,hi,hn=>by
  unfold downL
  split
  · rename_i c
    have:=son_lt (h:=h) c.1
    exact(downL_perm f _ _ n (by rw[sw_len];omega) (by rw[sw_len];exact hn)).trans (sw_perm hi (by omega))
  · exact List.Perm.refl _
theorem downL_far:∀(f:Nat) (h:List Int) (i n:Nat),i<n->n<=h.length->∀k,n<=k->hg (downL f h i n) k=hg h k
 |0,_,_,_,_,_,_,_=>rfl
 |f+1,h,i,n,hi,hn,k,hk=>by
  unfold downL
  split
  · rename_i c
    have:=son_lt (h:=h) c.1
    rw[downL_far f _ _ n this.1 (by rw[sw_len];exact hn) k hk,hg_sw (by omega) (by omega),if_neg (by omega),if_neg (by omega)]
  · rfl
theorem upL_heap:∀(f:Nat) (h:List Int) (j n:Nat),j<n->n<=h.length->j<f->(∀k,0<k->k<n->k≠j->hg h ((k-1) / 2)<=hg h k)->(∀k,0<k->k<n->(k-1) / 2=j->0<j->hg h ((j-1) / 2)<=hg h k)->Heap (upL f h j) n
 |0,_,_,_,_,_,h,_,_=>by omega
 |f+1,h,j,n,hj,hn,hf,h1,h2=>by
  unfold upL
  split
  · rename_i c
    intro k k0 kn
    by_cases e:k=j
    · subst e
      rcases c with c |c
      · omega
      · omega
    · exact h1 k k0 kn e
  · rename_i c
    have c1:¬(j-1) / 2=j:=λe=>c (Or.inl e)
    have c2:hg h j<hg h ((j-1) / 2):=Int.not_le.1 (λe=>c (Or.inr (by omega)))
    have j0:0<j:=by omega
    have hi:(j-1) / 2<h.length:=by omega
    have hjl:j<h.length:=by omega
    have S:=hg_sw hi hjl
    refine upL_heap f _ _ n (by omega) (by rw[sw_len];exact hn) (by omega) ?_ ?_
    · intro k k0 kn kne
      rw[S,S]
      by_cases a:k=j
      · rw[if_pos a,if_neg (by omega),if_pos (by rw[a])];omega
      · rw[if_neg a,if_neg kne]
        by_cases b:(k-1) / 2=j
        · rw[if_pos b];exact h2 k k0 kn b j0
        · rw[if_neg b]
          by_cases d:(k-1) / 2=(j-1) / 2
          · rw[if_pos d]
            have:=h1 k k0 kn a
            rw[d]at this
            omega
          · rw[if_neg d];exact h1 k k0 kn a
    · intro k k0 kn kp i0
      have e1:=h1 ((j-1) / 2) i0 (by omega) (by omega)
      rw[S,S,if_neg (show ¬((j-1) / 2-1) / 2=j by omega),if_neg (show ¬((j-1) / 2-1) / 2=(j-1) / 2 by omega)]
      by_cases a:k=j
      · rw[if_pos a];exact e1
      · rw[if_neg a,if_neg (by omega)]
        have:=h1 k k0 kn a
        rw[kp]at this
        omega
theorem downL_heap:∀(f:Nat) (h:List Int) (i n:Nat),i<n->n<=h.length->n<=i+f->(∀k,0<k->k<n->(k-1) / 2≠i->hg h ((k-1) / 2)<=hg h k)->(∀k,0<k->k<n->(k-1) / 2=i->0<i->hg h ((i-1) / 2)<=hg h k)->Heap (downL f h i n) n
 |0,_,_,_,h1,_,h2,_,_=>by omega
 |f+1,h,i,n,hi,hn,hf,h1,h2=>by
  unfold downL
  split
  · rename_i c
    have hs:=son_lt (h:=h) c.1
    have hle:∀k,0<k->k<n->(k-1) / 2=i->hg h (son h i n)<=hg h k:=by
     intro k k0 kn kp
     have:k=2*i+1∨k=2*i+2:=by omega
     unfold son
     rcases this with rfl |rfl
     · split<;>omega
     · split
       · omega
       · rename_i d
         exact Int.not_lt.1 (λx=>d ⟨kn,x⟩)
    have hpar:(son h i n-1) / 2=i:=by unfold son;split<;>omega
    have S:=hg_sw (h:=h) (i:=i) (j:=son h i n) (by omega) (by omega)
    generalize son h i n=j at*
    refine downL_heap f _ _ n hs.1 (by rw[sw_len];exact hn) (by omega) ?_ ?_
    · intro k k0 kn kp
      rw[S,S]
      by_cases a:k=j
      · subst a
        rw[if_pos rfl,if_neg (by omega),if_pos hpar];omega
      · rw[if_neg a,if_neg kp]
        by_cases b:k=i
        · rw[if_pos b,if_neg (by omega)]
          subst b
          exact h2 j (by omega) hs.1 hpar k0
        · rw[if_neg b]
          by_cases d:(k-1) / 2=i
          · rw[if_pos d];exact hle k k0 kn d
          · rw[if_neg d];exact h1 k k0 kn d
    · intro k k0 kn kp j0
      rw[S,S,if_neg (by omega),hpar,if_pos rfl,if_neg (by omega),if_neg (by omega)]
      have:=h1 k k0 kn (by omega)
      rw[kp]at this
      exact this
  · rename_i c
    intro k k0 kn
    by_cases e:(k-1) / 2=i
    · have h21:2*i+1<n:=by omega
      have c2:hg h i<=hg h (son h i n):=Int.not_lt.1 (λx=>c ⟨h21,x⟩)
      have hle:hg h (son h i n)<=hg h k:=by
       have:k=2*i+1∨k=2*i+2:=by omega
       unfold son
       rcases this with rfl |rfl
       · split<;>omega
       · split
         · omega
         · rename_i d
           exact Int.not_lt.1 (λx=>d ⟨kn,x⟩)
      rw[e];omega
    · exact h1 k k0 kn e
theorem Heap.min{h:List Int}{n:Nat}(H:Heap h n):∀k,k<n->hg h 0<=hg h k:=by
 intro k
 induction k using Nat.strongRecOn with
 |ind k ih=>
  intro kn
  by_cases e:k=0
  · subst e;exact Int.le_refl _
  · exact Int.le_trans (ih ((k-1) / 2) (by omega) (by omega)) (H k (by omega) kn)
def popL(h:List Int):List Int:=downL h.length (sw h 0 (h.length-1)) 0 (h.length-1)
theorem popL_len(h:List Int):(popL h).length=h.length:=by unfold popL;rw[downL_len,sw_len]
theorem pop_last{h:List Int}(h0:0<h.length):hg (popL h) (h.length-1)=hg h 0:=by
 unfold popL
 by_cases c:h.length=1
 · rw[c]
   have:downL 1 (sw h 0 (1-1)) 0 (1-1)=sw h 0 0:=by unfold downL;rw[if_neg (by omega)]
   rw[this,hg_sw h0 h0]
   rfl
 · rw[downL_far _ _ _ _ (by omega) (by rw[sw_len];omega) _ (Nat.le_refl _),hg_sw h0 (by omega),if_pos rfl]
theorem pop_perm{h:List Int}(h0:0<h.length):(popL h).Perm h:=by
 unfold popL
 exact(downL_perm _ _ _ _ (by rw[sw_len];exact h0) (by rw[sw_len];omega)).trans (sw_perm h0 (by omega))
theorem pop_heap{h:List Int}(H:Heap h h.length)(h0:0<h.length):Heap (popL h) (h.length-1):=by
 unfold popL
 by_cases c:h.length=1
 · intro k k0 kn;omega
 · have S:=hg_sw (h:=h) (i:=0) (j:=h.length-1) h0 (by omega)
   refine downL_heap _ _ _ _ (by omega) (by rw[sw_len];omega) (by omega) ?_ (λk _ _ _ x=>by omega)
   intro k k0 kn kp
   rw[S,S,if_neg (by omega),if_neg (by omega),if_neg (by omega),if_neg (by omega)]
   exact H k k0 (by omega)
theorem hg_take{h:List Int}{n k:Nat}(hk:k<n):hg (h.take n) k=hg h k:=by
 unfold hg
 rw[List.getD_eq_getElem?_getD,List.getD_eq_getElem?_getD,List.getElem?_take_of_lt hk]
theorem Heap.take{h:List Int}{n:Nat}(H:Heap h n):Heap (h.take n) n:=λk k0 kn=>by
 rw[hg_take (by omega),hg_take kn]
 exact H k k0 kn
def pushL(h:List Int)(x:Int):List Int:=upL (h.length+1) (h++[x]) h.length
theorem push_perm(h:List Int)(x:Int):(pushL h x).Perm (x::h):=by
 unfold pushL
 exact(upL_perm _ _ _ (by simp)).trans List.perm_append_comm
theorem push_len(h:List Int)(x:Int):(pushL h x).length=h.length+1:=by unfold pushL;rw[upL_len];simp
theorem push_heap{h:List Int}(H:Heap h h.length)(x:Int):Heap (pushL h x) (h.length+1):=by
 unfold pushL
 have e:∀k,k<h.length->hg (h++[x]) k=hg h k:=by
  intro k hk
  unfold hg
  rw[List.getD_eq_getElem?_getD,List.getD_eq_getElem?_getD,List.getElem?_append_left hk]
 refine upL_heap _ _ _ _ (by omega) (by simp) (by omega) ?_ ?_
 · intro k k0 kn kne
   rw[e _ (by omega),e _ (by omega)]
   exact H k k0 (by omega)
 · intro k k0 kn kp j0
   omega
end Y
namespace R
structure Tok where
 s:ByteArray
 p:Int
structure Thing where
 name:ByteArray
 kind:Int
 sec:Bool
 pos:Int
 size:Int
structure Nd where
 word:ByteArray
 n:Int
 t:Thing
 L:List Int
 two:List Int
 sec:Bool
structure PS where
 i:Nat
 err:Int
 place:Int
 seen:List Thing
 names:Int
 size:Int
 nodes:List Nd
 shape:List Bool
 nest:Int
 loops:Int
 hidden:Int
 leak:Int
 does:List Int
def noThing:Thing:=⟨⟨#[]⟩,0,false,0,0⟩
def tk(T:List Tok)(i:Nat):Tok:=T.getD i ⟨⟨#[]⟩,0⟩
def take(T:List Tok)(J:PS):PS:=if J.i+1<T.length then {J with i:=J.i+1}else J
def fail(e p:Int)(J:PS):PS:=if J.err=0 then {J with err:=e,place:=p}else J
def want(T:List Tok)(s:List UInt8)(J:PS):PS:=if(tk T J.i).s.toList=s then take T J else fail 2 (tk T J.i).p (take T J)
def open1(T:List Tok)(J:PS):PS:=if J.nest=10 then fail 6 (tk T J.i).p (want T [40] J)else want T [40] J
def up(J:PS):PS:={J with nest:=J.nest+1}
def down(J:PS):PS:={J with nest:=J.nest-1}
def opens(T:List Tok)(J:PS):PS:=up (open1 T J)
def shut(T:List Tok)(J:PS):PS:=down (if J.err=0 then want T [41] J else J)
def leaks(p:Int)(is:Bool)(J:PS):PS:=if is=true/\(J.leak<0∨p<J.leak)then {J with leak:=p}else J
def kws:List (List UInt8):=[[112,117,98,108,105,99],[115,101,99,114,101,116],[97,114,114,97,121],[115,101,116],[112,117,116],[105,102],[102,111,114],[103,101,116],[99,104,111,111,115,101]]
def low(c:UInt8):Bool:=decide (97<=c.toNat/\c.toNat<=122)
def isName(s:ByteArray):Bool:= !(kws.contains s.toList)&&(s.data.toList.all low&&(decide (1<=s.size)&&decide (s.size<=6)))
def isIt(s:List UInt8)(t:Thing):Bool:=t.name.toList==s
def find(s:List UInt8)(l:List Thing):Int:=if l.findIdx (isIt s)<l.length then(l.findIdx (isIt s):Int)else -1
def sign(s:List UInt8):Bool:=s==[43]||s==[45]||s==[42]||s==[47]||s==[38]||s==[94]||s==[60]||s==[61]
def dig(c:UInt8):Bool:=decide (48<=c.toNat/\c.toNat<=57)
def val(l:List UInt8):Int:=l.foldl (fun(n:Int) c=>10*n+c.toNat-48) 0
def numOf(sg:Int)(l:List UInt8):Int×Bool:=if l.all dig=true/\l.length<=9 then(sg*val l,decide (0<l.length))else(0,false)
def number(l:List UInt8):Int×Bool:=if l.head?=some 45 then numOf (-1) l.tail else numOf 1 l
theorem val_snoc(l:List UInt8)(c:UInt8):val (l++[c])=10*val l+c.toNat-48:=by simp[val]
theorem val_bd(k:Nat):∀l:List UInt8,l.length=k->l.all dig=true->0<=val l/\val l<10^k:=by
 induction k with
 |zero=>
  intro l hl _
  have:l=[]:=List.eq_nil_of_length_eq_zero hl
  subst this
  simp[val]
 |succ k ih=>
  intro l hl ha
  have hne:l≠[]:=by intro h;subst h;simp at hl
  obtain⟨m,c,rfl⟩:∃m c,l=m++[c]:=⟨l.dropLast,l.getLast hne,(List.dropLast_concat_getLast hne).symm⟩
  rw[List.all_append,Bool.and_eq_true]at ha
  have h1:=ih m (by simpa using hl) ha.1
  have h2:48<=c.toNat/\c.toNat<=57:=by simpa[dig]using ha.2
  rw[val_snoc]
  have:(10:Int)^(k+1)=10*10^k:=by rw[Int.pow_succ];omega
  omega
theorem val_le{l:List UInt8}(hl:l.length<=9)(ha:l.all dig=true):0<=val l/\val l<1000000000:=by
 have h:=val_bd l.length l rfl ha
 have hp:(10:Int)^l.length<=10^9:=by
  have:=Nat.pow_le_pow_right (n:=10) (by omega) hl
  exact_mod_cast this
 omega
theorem numOf_bad{sg:Int}{l:List UInt8}{c:UInt8}(hc:c∈l)(h:dig c=false):numOf sg l=(0,false):=by
 unfold numOf
 rw[if_neg]
 rintro⟨h1,_⟩
 rw[List.all_eq_true]at h1
 rw[h1 c hc]at h
 exact absurd h (by decide)
theorem numOf_long{sg:Int}{l:List UInt8}(h:9<l.length):numOf sg l=(0,false):=by
 unfold numOf
 rw[if_neg]
 rintro⟨_,h1⟩
 omega
theorem numOf_good{sg:Int}{l:List UInt8}(h:l.all dig=true)(hl:l.length<=9):numOf sg l=(sg*val l,decide (0<l.length)):=by
 unfold numOf
 rw[if_pos ⟨h,hl⟩]
theorem find_hit{s:List UInt8}{l:List Thing}{k:Nat}(h:k<l.length)(h1:isIt s l[k]=true)(h2:∀j (hj:j<k),isIt s (l[j]'(by omega))=false):find s l=k:=by
 have e:l.findIdx (isIt s)=k:=(List.findIdx_eq h).2 ⟨h1,h2⟩
 unfold find
 rw[e,if_pos h]
theorem find_miss{s:List UInt8}{l:List Thing}(h2:∀j (hj:j<l.length),isIt s l[j]=false):find s l= -1:=by
 have e:l.findIdx (isIt s)=l.length:=List.findIdx_eq_length.2 λx hx=>by
  obtain⟨j,hj,rfl⟩:=List.getElem_of_mem hx
  exact h2 j hj
 unfold find
 rw[e,if_neg (by omega)]
theorem take_nest(T:List Tok)(J:PS):(take T J).nest=J.nest:=by unfold take;split<;>rfl
theorem fail_nest(e p:Int)(J:PS):(fail e p J).nest=J.nest:=by unfold fail;split<;>rfl
theorem want_nest(T:List Tok)(s:List UInt8)(J:PS):(want T s J).nest=J.nest:=by
 unfold want;split<;>simp[take_nest,fail_nest]
def Small(T:List Tok):Prop:=∀i,(tk T i).s.size<=1000
def fresh(T:List Tok)(J:PS):PS:=
 if J.err=0 then
  if isName (tk T J.i).s=true then
   if 0<=find (tk T J.i).s.toList J.seen then fail 4 (tk T J.i).p (take T J)else take T J
  else fail 2 (tk T J.i).p (take T J)
 else J
def freshS(T:List Tok)(J:PS):ByteArray:=if J.err=0 then(tk T J.i).s else⟨#[]⟩
def thingAt(l:List Thing)(k:Int):Thing:=l.getD k.toNat noThing
def wrong(l:List Thing)(s:List UInt8)(array set:Bool):Bool:=
 decide (find s l<0)||((thingAt l (find s l)).kind==2) != array||(set&&(thingAt l (find s l)).kind==3)
def known(T:List Tok)(array set:Bool)(J:PS):PS:=
 if J.err=0 then
  if isName (tk T J.i).s=true then
   if wrong J.seen (tk T J.i).s.toList array set=true then fail 3 (tk T J.i).p (take T J)else take T J
  else fail 2 (tk T J.i).p (take T J)
 else J
def knownT(T:List Tok)(array set:Bool)(J:PS):Thing:=
 if J.err=0/\isName (tk T J.i).s=true/\wrong J.seen (tk T J.i).s.toList array set=false then thingAt J.seen (find (tk T J.i).s.toList J.seen)else noThing
theorem take_seen(T:List Tok)(J:PS):(take T J).seen=J.seen:=by unfold take;split<;>rfl
theorem find_lt(s:List UInt8)(l:List Thing):find s l<l.length:=by unfold find;split<;>omega
theorem find_ge(s:List UInt8)(l:List Thing): -1<=find s l:=by unfold find;split<;>omega
def kGet:List UInt8:=[103,101,116]
def kChoose:List UInt8:=[99,104,111,111,115,101]
def noNd:Nd:=⟨⟨#[]⟩,0,noThing,[],[],false⟩
def nodeAt(J:PS)(x:Int):Nd:=J.nodes.getD x.toNat noNd
def addNode(n:Nd)(J:PS):PS:={J with nodes:=J.nodes++[n]}
def lastN(J:PS):Int:=(J.nodes.length:Int)-1
def args(rec:PS->PS×Int):Nat->PS->List Int->Bool->PS×List Int×Bool
 |0,J,L,b=>(J,L,b)
 |m+1,J,L,b=>if J.err=0 then args rec m (rec J).1 (L++[(rec J).2]) (b||((rec J).1.err==0&&(nodeAt (rec J).1 (rec J).2).sec))else(J,L,b)
def headOf(T:List Tok)(J:PS):PS×Thing×Nat:=
 if(tk T J.i).s.toList=kGet then(known T true false (take T J),knownT T true false (take T J),1)
 else if(tk T J.i).s.toList=kChoose then(take T J,noThing,3)
 else if sign (tk T J.i).s.toList=true then(take T J,noThing,2)
 else(fail 2 (tk T J.i).p (take T J),noThing,2)
def telling(s:List UInt8):Bool:=s==kGet||s==[47]
def inner(T:List Tok)(rec:PS->PS×Int)(p:Int)(J:PS):PS:=
 let h:=headOf T J
 let a:=args rec h.2.2 h.1 [] false
 let s:=shut T a.1
 addNode ⟨(tk T J.i).s,0,h.2.1,a.2.1,[],h.2.1.sec||a.2.2⟩ (leaks p (s.err==0&&a.2.2&&telling (tk T J.i).s.toList) s)
def expr(T:List Tok):Nat->PS->PS×Int
 |0,J=>(J,0)
 |f+1,J=>
  if J.err=0 then
   if(tk T J.i).s.toList=[40]then
    if(opens T J).err=0 then(inner T (expr T f) (tk T J.i).p (opens T J),lastN (inner T (expr T f) (tk T J.i).p (opens T J)))
    else(opens T J,0)
   else if(number (tk T J.i).s.data.toList).2=true then
    (addNode ⟨⟨#[35]⟩,(number (tk T J.i).s.data.toList).1,noThing,[],[],false⟩ (take T J),lastN (addNode ⟨⟨#[35]⟩,(number (tk T J.i).s.data.toList).1,noThing,[],[],false⟩ (take T J)))
   else
    (addNode ⟨⟨#[64]⟩,0,knownT T false false J,[],[],(knownT T false false J).sec⟩ (known T false false J),lastN (addNode ⟨⟨#[64]⟩,0,knownT T false false J,[],[],(knownT T false false J).sec⟩ (known T false false J)))
  else(J,0)
def core(J:PS):List Thing×Int×Int×List Bool×Int×Int×List Int:=(J.seen,J.names,J.size,J.shape,J.loops,J.hidden,J.does)
theorem take_core(T:List Tok)(J:PS):core (take T J)=core J/\(take T J).nodes=J.nodes/\(take T J).err=J.err/\(take T J).nest=J.nest:=by unfold take;split<;>exact⟨rfl,rfl,rfl,rfl⟩
theorem fail_core(e p:Int)(J:PS):core (fail e p J)=core J/\(fail e p J).nodes=J.nodes/\(fail e p J).i=J.i/\(fail e p J).nest=J.nest:=by unfold fail;split<;>exact⟨rfl,rfl,rfl,rfl⟩
theorem fail_err{e p:Int}{J:PS}(he:e≠0):(fail e p J).err≠0:=by unfold fail;split<;>simp_all
theorem leaks_core(p:Int)(is:Bool)(J:PS):core (leaks p is J)=core J/\(leaks p is J).nodes=J.nodes/\(leaks p is J).i=J.i/\(leaks p is J).nest=J.nest/\(leaks p is J).err=J.err:=by unfold leaks;split<;>exact⟨rfl,rfl,rfl,rfl,rfl⟩
theorem take_i(T:List Tok)(J:PS):J.i<=(take T J).i/\(take T J).i<=J.i+1/\(J.i+1<T.length->(take T J).i=J.i+1)/\(J.i<T.length->(take T J).i<T.length):=by
 unfold take;split
 · exact⟨by simp,by simp,λ_=>rfl,λ_=>by simpa⟩
 · exact⟨by simp,by simp,λh=>by omega,id⟩
theorem want_core(T:List Tok)(s:List UInt8)(J:PS):core (want T s J)=core J/\(want T s J).nodes=J.nodes/\(want T s J).i=(take T J).i/\(want T s J).nest=J.nest:=by
 have h1:=take_core T J
 have h2:=fail_core 2 (tk T J.i).p (take T J)
 unfold want;split
 · exact⟨h1.1,h1.2.1,rfl,h1.2.2.2⟩
 · exact⟨h2.1.trans h1.1,h2.2.1.trans h1.2.1,h2.2.2.1,h2.2.2.2.trans h1.2.2.2⟩
theorem want_ok{T:List Tok}{s:List UInt8}{J:PS}(h:(want T s J).err=0):(tk T J.i).s.toList=s/\J.err=0:=by
 unfold want at h;split at h
 · exact⟨‹_›,by rwa[(take_core T J).2.2.1]at h⟩
 · exact absurd h (fail_err (by decide))
theorem opens_core(T:List Tok)(J:PS):core (opens T J)=core J/\(opens T J).nodes=J.nodes/\(opens T J).i=(take T J).i/\(opens T J).nest=J.nest+1:=by
 have h1:=want_core T [40] J
 have h2:=fail_core 6 (tk T J.i).p (want T [40] J)
 unfold opens up open1;split
 · exact⟨h2.1.trans h1.1,h2.2.1.trans h1.2.1,h2.2.2.1.trans h1.2.2.1,by simp[h2.2.2.2,h1.2.2.2]⟩
 · exact⟨h1.1,h1.2.1,h1.2.2.1,by simp[h1.2.2.2]⟩
theorem opens_ok{T:List Tok}{J:PS}(h:(opens T J).err=0):(tk T J.i).s.toList=[40]/\J.err=0/\J.nest≠10:=by
 unfold opens up open1 at h
 split at h
 · exact absurd h (fail_err (by decide))
 · exact⟨(want_ok h).1,(want_ok h).2,‹_›⟩
theorem shut_core(T:List Tok)(J:PS):core (shut T J)=core J/\(shut T J).nodes=J.nodes/\(shut T J).nest=J.nest-1/\J.i<=(shut T J).i/\(J.i<T.length->(shut T J).i<T.length):=by
 have h1:=want_core T [41] J
 have h2:=take_i T J
 unfold shut down;split
 · exact⟨h1.1,h1.2.1,by simp[h1.2.2.2],by simp[h1.2.2.1,h2.1],λh=>by simp[h1.2.2.1,h2.2.2.2 h]⟩
 · exact⟨rfl,rfl,rfl,by simp,id⟩
theorem shut_err{T:List Tok}{J:PS}(h:(shut T J).err=0):J.err=0:=by
 unfold shut down at h
 split at h
 · assumption
 · exact h
theorem known_core(T:List Tok)(a s:Bool)(J:PS):core (known T a s J)=core J/\(known T a s J).nodes=J.nodes/\(known T a s J).nest=J.nest/\J.i<=(known T a s J).i/\(J.i<T.length->(known T a s J).i<T.length):=by
 have h1:=take_core T J
 have h2:=take_i T J
 have h3:=fail_core 2 (tk T J.i).p (take T J)
 have h4:=fail_core 3 (tk T J.i).p (take T J)
 unfold known
 split
 · split
   · split
     · exact⟨h4.1.trans h1.1,h4.2.1.trans h1.2.1,h4.2.2.2.trans h1.2.2.2,by rw[h4.2.2.1];exact h2.1,λh=>by rw[h4.2.2.1];exact h2.2.2.2 h⟩
     · exact⟨h1.1,h1.2.1,h1.2.2.2,h2.1,h2.2.2.2⟩
   · exact⟨h3.1.trans h1.1,h3.2.1.trans h1.2.1,h3.2.2.2.trans h1.2.2.2,by rw[h3.2.2.1];exact h2.1,λh=>by rw[h3.2.2.1];exact h2.2.2.2 h⟩
 · exact⟨rfl,rfl,rfl,Nat.le_refl _,id⟩
theorem known_ok{T:List Tok}{a s:Bool}{J:PS}(h:(known T a s J).err=0):J.err=0/\isName (tk T J.i).s=true/\known T a s J=take T J:=by
 unfold known at h ⊢
 split at h
 · split at h
   · split at h
     · exact absurd h (fail_err (by decide))
     · exact⟨‹_›,‹_›,by simp[*]⟩
   · exact absurd h (fail_err (by decide))
 · exact absurd h (by assumption)
def Ended(T:List Tok):Prop:=(tk T (T.length-1)).s=⟨#[]⟩
theorem ended_lt{T:List Tok}(hE:Ended T){i:Nat}(hi:i<T.length)(hs:(tk T i).s≠⟨#[]⟩):i+1<T.length:=by
 by_cases h:i+1<T.length
 · exact h
 · have:i=T.length-1:=by omega
   subst this
   exact absurd hE hs
theorem ne_of_list{s:ByteArray}{l:List UInt8}(h:s.toList=l)(hl:l≠[]):s≠⟨#[]⟩:=by
 rintro rfl
 exact hl (h.symm.trans (by decide +kernel))
structure Ok(T:List Tok)(J J':PS):Prop where
 core:core J'=core J
 le:J.i<=J'.i
 lt:J'.i<T.length
 pre:∃l,J'.nodes=J.nodes++l
 n1:J.nest<=J'.nest
 n2:J'.nest<=J.nest+1
 n3:J'.err=0->J'.nest=J.nest
 p1:J'.nodes.length+(T.length-J'.i)<=J.nodes.length+(T.length-J.i)+1
 p2:J'.err=0->J'.nodes.length+(T.length-J'.i)<=J.nodes.length+(T.length-J.i)
theorem Ok.refl{T:List Tok}{J:PS}(h:J.i<T.length):Ok T J J:=
 ⟨rfl,Nat.le_refl _,h,⟨[],by simp⟩,Int.le_refl _,by omega,λ_=>rfl,by omega,λ_=>Nat.le_refl _⟩
theorem Ok.trans{T:List Tok}{a b c:PS}(h:Ok T a b)(e:b.err=0)(k:Ok T b c):Ok T a c:=by
 have n:=h.n3 e
 have p:=h.p2 e
 obtain⟨l,hl⟩:=h.pre
 obtain⟨m,hm⟩:=k.pre
 exact⟨k.core.trans h.core,Nat.le_trans h.le k.le,k.lt,⟨l++m,by rw[hm,hl,List.append_assoc]⟩,by have:=k.n1;omega,by have:=k.n2;omega,λe=>by have:=k.n3 e;omega,by have:=k.p1;omega,λe=>by have:=k.p2 e;omega⟩
theorem args_dead(rec:PS->PS×Int)(m:Nat)(J:PS)(L:List Int)(b:Bool)(h:J.err≠0):args rec m J L b=(J,L,b):=by
 cases m with
 |zero=>rfl
 |succ m=>rw[args,if_neg h]
theorem args_ok{T:List Tok}{rec:PS->PS×Int}(hr:∀J,J.i<T.length->Ok T J (rec J).1)(m:Nat):∀(J:PS) (L:List Int) (b:Bool),J.i<T.length->Ok T J (args rec m J L b).1:=by
 induction m with
 |zero=>intro J L b h;exact Ok.refl h
 |succ m ih=>
  intro J L b h
  by_cases e:J.err=0
  · rw[args,if_pos e]
    have h1:=hr J h
    by_cases e1:(rec J).1.err=0
    · exact h1.trans e1 (ih _ _ _ h1.lt)
    · rw[args_dead _ _ _ _ _ e1];exact h1
  · rw[args_dead _ _ _ _ _ e];exact Ok.refl h
theorem args_err{rec:PS->PS×Int}(m:Nat):∀(J:PS) (L:List Int) (b:Bool),(args rec m J L b).1.err=0->J.err=0:=by
 intro J L b h
 by_cases e:J.err=0
 · exact e
 · rw[args_dead _ _ _ _ _ e]at h;exact h
theorem head_ok{T:List Tok}(hE:Ended T){J:PS}(h:J.i<T.length):core (headOf T J).1=core J/\(headOf T J).1.nodes=J.nodes/\(headOf T J).1.nest=J.nest/\J.i<=(headOf T J).1.i/\(headOf T J).1.i<T.length∧
 ((headOf T J).1.err=0->J.i+1<=(headOf T J).1.i/\J.err=0):=by
 have t1:=take_core T J
 have t2:=take_i T J
 unfold headOf
 split
 · have k:=known_core T true false (take T J)
   have ht:=t2.2.2.1 (ended_lt hE h (ne_of_list ‹_› (by decide)))
   exact⟨k.1.trans t1.1,k.2.1.trans t1.2.1,k.2.2.1.trans t1.2.2.2,Nat.le_trans t2.1 k.2.2.2.1,k.2.2.2.2 (t2.2.2.2 h),λe=>⟨by rw[<-ht];exact k.2.2.2.1,by rw[<-t1.2.2.1];exact(known_ok e).1⟩⟩
 · split
   · have ht:=t2.2.2.1 (ended_lt hE h (ne_of_list ‹_› (by decide)))
     exact⟨t1.1,t1.2.1,t1.2.2.2,t2.1,t2.2.2.2 h,λe=>⟨by rw[ht];exact Nat.le_refl _,by rw[<-t1.2.2.1];exact e⟩⟩
   · split
     · rename_i hs
       have ht:=t2.2.2.1 (ended_lt hE h (λe=>by rw[e]at hs;revert hs;decide +kernel))
       exact⟨t1.1,t1.2.1,t1.2.2.2,t2.1,t2.2.2.2 h,λe=>⟨by rw[ht];exact Nat.le_refl _,by rw[<-t1.2.2.1];exact e⟩⟩
     · have k:=fail_core 2 (tk T J.i).p (take T J)
       exact⟨k.1.trans t1.1,k.2.1.trans t1.2.1,k.2.2.2.trans t1.2.2.2,by rw[k.2.2.1];exact t2.1,by rw[k.2.2.1];exact t2.2.2.2 h,λe=>absurd e (fail_err (by decide))⟩
theorem expr_dead(T:List Tok)(f:Nat)(J:PS)(h:J.err≠0):(expr T f J).1=J:=by
 cases f with
 |zero=>rfl
 |succ f=>rw[expr,if_neg h]
theorem inner_ok{T:List Tok}(hE:Ended T){rec:PS->PS×Int}(hr:∀J,J.i<T.length->Ok T J (rec J).1)(p:Int){J:PS}(h:J.i<T.length):
 core (inner T rec p J)=core J/\J.i<=(inner T rec p J).i/\(inner T rec p J).i<T.length/\(∃l,(inner T rec p J).nodes=J.nodes++l/\l≠[])/\J.nest-1<=(inner T rec p J).nest/\(inner T rec p J).nest<=J.nest∧
 ((inner T rec p J).err=0->(inner T rec p J).nest=J.nest-1/\J.err=0)/\(inner T rec p J).nodes.length+(T.length-(inner T rec p J).i)<=J.nodes.length+(T.length-J.i)+1:=by
 have h1:=head_ok hE h
 unfold inner
 dsimp only
 generalize headOf T J=H at*
 have h2:=args_ok hr H.2.2 H.1 [] false h1.2.2.2.2.1
 have h2e:=args_err (rec:=rec) H.2.2 H.1 [] false
 have h2d:=args_dead rec H.2.2 H.1 [] false
 generalize args rec H.2.2 H.1 [] false=A at*
 have h3:=shut_core T A.1
 have h3e:=@shut_err T A.1
 generalize shut T A.1=S at*
 have h4:=leaks_core p (S.err==0&&A.2.2&&telling (tk T J.i).s.toList) S
 generalize leaks p (S.err==0&&A.2.2&&telling (tk T J.i).s.toList) S=Z at*
 generalize(Nd.mk (tk T J.i).s 0 H.2.1 A.2.1 [] (H.2.1.sec||A.2.2))=N at*
 obtain⟨l,hl⟩:=h2.pre
 have en:(addNode N Z).nodes=J.nodes++(l++[N]):=by
  show Z.nodes++[N]=_
  rw[h4.2.1,h3.2.1,hl,h1.2.1,List.append_assoc]
 have ei:(addNode N Z).i=S.i:=h4.2.2.1
 have ene:(addNode N Z).nest=A.1.nest-1:=h4.2.2.2.1.trans h3.2.2.1
 have ee:(addNode N Z).err=S.err:=h4.2.2.2.2
 have a1:=h1.2.2.1
 have a2:=h1.2.2.2.1
 have a3:=h3.2.2.2.1
 have a4:=h2.le
 have a5:=h2.n1
 have a6:=h2.n2
 have a7:=h3.2.2.2.2 h2.lt
 have a8:=h2.p1
 have hlen:A.1.nodes.length=J.nodes.length+l.length:=by rw[hl,List.length_append,h1.2.1]
 refine⟨?_,by rw[ei];omega,by rw[ei];exact a7,⟨l++[N],en,by simp⟩,by rw[ene];omega,by rw[ene];omega,λe=>?_,?_⟩
 · show core Z=_
   rw[h4.1,h3.1,h2.core,h1.1]
 · rw[ee]at e
   have e1:=h3e e
   have e2:=h2.n3 e1
   exact⟨by rw[ene];omega,(h1.2.2.2.2.2 (h2e e1)).2⟩
 · rw[en,ei]
   simp only[List.length_append,List.length_cons,List.length_nil]
   rw[h1.2.1]at a8
   by_cases e:H.1.err=0
   · have:=(h1.2.2.2.2.2 e).1
     omega
   · have:=h2d e
     have:A.1=H.1:=by rw[this]
     have e3:A.1.nodes.length=H.1.nodes.length:=by rw[this]
     rw[h1.2.1]at e3
     have e4:A.1.i=H.1.i:=by rw[this]
     omega
theorem expr_ok{T:List Tok}(hE:Ended T)(f:Nat):∀J:PS,J.i<T.length->Ok T J (expr T f J).1:=by
 induction f with
 |zero=>intro J h;exact Ok.refl h
 |succ f ih=>
  intro J h
  rw[expr]
  by_cases e:J.err=0
  · rw[if_pos e]
    by_cases h40:(tk T J.i).s.toList=[40]
    · rw[if_pos h40]
      have o1:=opens_core T J
      have t2:=take_i T J
      have ht:=t2.2.2.1 (ended_lt hE h (ne_of_list h40 (by decide)))
      have hlt:(opens T J).i<T.length:=by rw[o1.2.2.1];exact t2.2.2.2 h
      by_cases eo:(opens T J).err=0
      · rw[if_pos eo]
        have k:=inner_ok hE ih (tk T J.i).p hlt
        dsimp only
        generalize inner T (expr T f) (tk T J.i).p (opens T J)=Z at*
        obtain⟨k1,k2,k3,⟨l,kl,_⟩,k5,k6,k7,k8⟩:=k
        have b1:=o1.2.2.1
        have b2:=o1.2.2.2
        have b3:=congrArg List.length o1.2.1
        refine⟨k1.trans o1.1,by omega,k3,⟨l,by rw[kl,o1.2.1]⟩,by omega,by omega,λe=>by have:=(k7 e).1;omega,?_,λ_=>?_⟩
        · rw[ht]at b1;omega
        · rw[ht]at b1;omega
      · rw[if_neg eo]
        have b1:=o1.2.2.1
        have b2:=o1.2.2.2
        have b3:=congrArg List.length o1.2.1
        exact⟨o1.1,by dsimp only;omega,hlt,⟨[],by rw[o1.2.1];simp⟩,by dsimp only;omega,by dsimp only;omega,λe=>absurd e eo,by dsimp only;omega,λe=>absurd e eo⟩
    · rw[if_neg h40]
      have t1:=take_core T J
      have t2:=take_i T J
      by_cases hn:(number (tk T J.i).s.data.toList).2=true
      · rw[if_pos hn]
        have ht:=t2.2.2.1 (ended_lt hE h (λe=>by rw[e]at hn;revert hn;decide +kernel))
        have b3:=congrArg List.length t1.2.1
        refine⟨t1.1,t2.1,t2.2.2.2 h,⟨[_],by rw[<-t1.2.1];rfl⟩,?_,?_,λ_=>t1.2.2.2,?_,λ_=>?_⟩
        · show J.nest<=(take T J).nest;have:=t1.2.2.2;omega
        · show(take T J).nest<=J.nest+1;have:=t1.2.2.2;omega
        · simp only[addNode,List.length_append,List.length_cons,List.length_nil];omega
        · simp only[addNode,List.length_append,List.length_cons,List.length_nil];omega
      · rw[if_neg hn]
        have k:=known_core T false false J
        have b3:=congrArg List.length k.2.1
        refine⟨k.1,k.2.2.2.1,k.2.2.2.2 h,⟨[_],by rw[<-k.2.1];rfl⟩,?_,?_,λ_=>k.2.2.1,?_,λe=>?_⟩
        · show J.nest<=(known T false false J).nest;have:=k.2.2.1;omega
        · show(known T false false J).nest<=J.nest+1;have:=k.2.2.1;omega
        · have:=k.2.2.2.1
          simp only[addNode,List.length_append,List.length_cons,List.length_nil];omega
        · have q:=known_ok e
          have ht:=t2.2.2.1 (ended_lt hE h (λe=>by rw[e]at q;exact absurd q.2.1 (by decide +kernel)))
          have hi:(known T false false J).i=J.i+1:=by rw[q.2.2,ht]
          simp only[addNode,List.length_append,List.length_cons,List.length_nil];omega
  · rw[if_neg e];exact Ok.refl h
def kSet:List UInt8:=[115,101,116]
def kPut:List UInt8:=[112,117,116]
def kIf:List UInt8:=[105,102]
def kFor:List UInt8:=[102,111,114]
def doesL(T:List Tok)(dof:PS->PS×Int):Nat->PS->List Int->PS×List Int
 |0,J,L=>(J,L)
 |m+1,J,L=>if J.err=0/\(tk T J.i).s.toList=[40]then doesL T dof m (dof J).1 (L++[(dof J).2])else(J,L)
def block(T:List Tok)(does:PS->PS×List Int)(J:PS):PS×List Int:=
 if J.err=0 then(shut T (does (opens T J)).1,(does (opens T J)).2)else(J,[])
structure DR where
 s:PS
 t:Thing
 L:List Int
 two:List Int
def ex(T:List Tok)(J:PS):PS×Int:=expr T T.length J
def secAt(J:PS)(x:Int):Bool:=J.err==0&&(nodeAt J x).sec
def tellsAt(J:PS)(t:Thing)(x:Int):Bool:=J.err==0&& !t.sec&&(decide (0<J.hidden)||(nodeAt J x).sec)
def doSet(T:List Tok)(p:Int)(J:PS):DR:=
 let k:=known T false true J
 let t:=knownT T false true J
 let a:=ex T k
 ⟨leaks p (tellsAt a.1 t a.2) a.1,t,[a.2],[]⟩
def doPut(T:List Tok)(p:Int)(J:PS):DR:=
 let k:=known T true false J
 let t:=knownT T true false J
 let a:=ex T k
 let c:=ex T (leaks p (secAt a.1 a.2) a.1)
 ⟨leaks p (tellsAt c.1 t c.2) c.1,t,[a.2,c.2],[]⟩
def hide1(d:Int)(J:PS):PS:={J with hidden:=J.hidden+d}
def doIf(T:List Tok)(does:PS->PS×List Int)(J:PS):DR:=
 let a:=ex T J
 let m:Int:=if secAt a.1 a.2=true then 1 else 0
 let one:=block T does (hide1 m a.1)
 let two:=block T does one.1
 ⟨hide1 (-m) two.1,noThing,[a.2]++one.2,two.2⟩
def push(t:Thing)(J:PS):PS:={J with seen:=J.seen++[t],loops:=J.loops+1}
def pop(J:PS):PS:={J with seen:=J.seen.dropLast,loops:=J.loops-1}
def doFor(T:List Tok)(does:PS->PS×List Int)(p wp:Int)(J:PS):DR:=
 let J1:=if J.loops=2 then fail 6 wp J else J
 let t:Thing:=⟨freshS T J1,3,false,J.loops,0⟩
 let a:=ex T (fresh T J1)
 let J3:=leaks p (secAt a.1 a.2) a.1
 let l:=does (push t J3)
 ⟨pop l.1,t,[a.2]++l.2,[]⟩
def doWord(T:List Tok)(does:PS->PS×List Int)(p:Int)(w:Tok)(J:PS):DR:=
 if w.s.toList=kSet then doSet T p J
 else if w.s.toList=kPut then doPut T p J
 else if w.s.toList=kIf then doIf T does J
 else if w.s.toList=kFor then doFor T does p w.p J
 else⟨fail 2 w.p J,noThing,[],[]⟩
def doIn(T:List Tok)(does:PS->PS×List Int)(p:Int)(J:PS):PS:=
 let r:=doWord T does p (tk T J.i) (take T J)
 addNode ⟨(tk T J.i).s,0,r.t,r.L,r.two,false⟩ (shut T r.s)
def doB(T:List Tok)(does:PS->PS×List Int)(J:PS):PS×Int:=
 if(opens T J).err=0 then(doIn T does (tk T J.i).p (opens T J),lastN (doIn T does (tk T J.i).p (opens T J)))else(opens T J,0)
def doF(T:List Tok):Nat->PS->PS×Int
 |0,J=>(J,0)
 |f+1,J=>doB T (λJ=>doesL T (doF T f) T.length J []) J
def does(T:List Tok)(f:Nat)(J:PS):PS×List Int:=doesL T (doF T f) T.length J []
theorem fresh_core(T:List Tok)(J:PS):core (fresh T J)=core J/\(fresh T J).nodes=J.nodes/\(fresh T J).nest=J.nest/\J.i<=(fresh T J).i/\(J.i<T.length->(fresh T J).i<T.length):=by
 have h1:=take_core T J
 have h2:=take_i T J
 have h3:=fail_core 2 (tk T J.i).p (take T J)
 have h4:=fail_core 4 (tk T J.i).p (take T J)
 unfold fresh
 split
 · split
   · split
     · exact⟨h4.1.trans h1.1,h4.2.1.trans h1.2.1,h4.2.2.2.trans h1.2.2.2,by rw[h4.2.2.1];exact h2.1,λh=>by rw[h4.2.2.1];exact h2.2.2.2 h⟩
     · exact⟨h1.1,h1.2.1,h1.2.2.2,h2.1,h2.2.2.2⟩
   · exact⟨h3.1.trans h1.1,h3.2.1.trans h1.2.1,h3.2.2.2.trans h1.2.2.2,by rw[h3.2.2.1];exact h2.1,λh=>by rw[h3.2.2.1];exact h2.2.2.2 h⟩
 · exact⟨rfl,rfl,rfl,Nat.le_refl _,id⟩
structure Same(T:List Tok)(J J':PS):Prop where
 core:core J'=core J
 nodes:J'.nodes=J.nodes
 nest:J'.nest=J.nest
 le:J.i<=J'.i
 lt:J.i<T.length->J'.i<T.length
theorem Same.ok{T:List Tok}{J J':PS}(h:Same T J J')(hlt:J.i<T.length):Ok T J J':=by
 have hn:=congrArg List.length h.nodes
 have hs:=h.nest
 have hl:=h.le
 have ht:=h.lt hlt
 exact⟨h.core,hl,ht,⟨[],by rw[h.nodes];simp⟩,by omega,by omega,λ_=>hs,by omega,λ_=>by omega⟩
theorem Same.then{T:List Tok}{a b c:PS}(h:Same T a b)(k:Ok T b c):Ok T a c:=by
 have hn:=congrArg List.length h.nodes
 have hs:=h.nest
 have hl:=h.le
 have n1:=k.n1
 have n2:=k.n2
 have p1:=k.p1
 have kl:=k.le
 have kt:=k.lt
 obtain⟨l,hl'⟩:=k.pre
 exact⟨k.core.trans h.core,by omega,k.lt,⟨l,by rw[hl',h.nodes]⟩,by omega,by omega,λe=>by have:=k.n3 e;omega,by omega,λe=>by have:=k.p2 e;omega⟩
theorem Ok.then{T:List Tok}{a b c:PS}(h:Ok T a b)(k:Same T b c)(he:c.err=0->b.err=0):Ok T a c:=by
 have hn:=congrArg List.length k.nodes
 have hs:=k.nest
 have hl:=k.le
 have ht:=k.lt h.lt
 have n1:=h.n1
 have n2:=h.n2
 have p1:=h.p1
 have hle:=h.le
 have hlt:=h.lt
 obtain⟨l,hl'⟩:=h.pre
 exact⟨k.core.trans h.core,by omega,ht,⟨l,by rw[k.nodes,hl']⟩,by omega,by omega,λe=>by have:=h.n3 (he e);omega,by omega,λe=>by have:=h.p2 (he e);omega⟩
theorem known_same(T:List Tok)(a s:Bool)(J:PS):Same T J (known T a s J):=by
 have k:=known_core T a s J
 exact⟨k.1,k.2.1,k.2.2.1,k.2.2.2.1,k.2.2.2.2⟩
theorem fresh_same(T:List Tok)(J:PS):Same T J (fresh T J):=by
 have k:=fresh_core T J
 exact⟨k.1,k.2.1,k.2.2.1,k.2.2.2.1,k.2.2.2.2⟩
theorem leaks_same(T:List Tok)(p:Int)(is:Bool)(J:PS):Same T J (leaks p is J):=by
 have k:=leaks_core p is J
 exact⟨k.1,k.2.1,k.2.2.2.1,by rw[k.2.2.1];exact Nat.le_refl _,λh=>by rw[k.2.2.1];exact h⟩
theorem fail_same(T:List Tok)(e p:Int)(J:PS):Same T J (fail e p J):=by
 have k:=fail_core e p J
 exact⟨k.1,k.2.1,k.2.2.2,by rw[k.2.2.1];exact Nat.le_refl _,λh=>by rw[k.2.2.1];exact h⟩
theorem leaks_err(p:Int)(is:Bool)(J:PS):(leaks p is J).err=J.err:=(leaks_core p is J).2.2.2.2
theorem Ok.thenOk{T:List Tok}{a b c:PS}(h:Ok T a b)(k:Ok T b c)(hd:b.err≠0->c=b):Ok T a c:=by
 by_cases e:b.err=0
 · exact h.trans e k
 · rw[hd e];exact h
theorem ex_ok{T:List Tok}(hE:Ended T){J:PS}(h:J.i<T.length):Ok T J (ex T J).1:=expr_ok hE _ J h
theorem ex_dead(T:List Tok){J:PS}(h:J.err≠0):(ex T J).1=J:=expr_dead T _ J h
end R
end
section
open Go.RowKit
open R (Tok Thing Nd PS)
structure RV where
 W:Value
 S:Value
 N:Value
 D:Value
 H:Value
def RV.has(r:RV)(k:Nat):Prop:=r.W.ownBlock=some k∨r.S.ownBlock=some k∨r.N.ownBlock=some k∨r.D.ownBlock=some k∨r.H.ownBlock=some k
def pcs(J:PS)(r:RV):List Value:=
 [r.W,.int .i64 (J.i:Int),.int .i64 J.err,.int .i64 J.place,r.S,.int .i64 J.names,.int .i64 J.size,r.N,r.D,r.H,.int .i64 J.nest,.int .i64 J.loops,.int .i64 J.hidden,.int .i64 J.leak]
def tokCells(t:Tok):List Value:=[.string t.s,.int .i64 t.p]
def thingCells(t:Thing):List Value:=[.string t.name,.int .i64 t.kind,.bool t.sec,.int .i64 t.pos,.int .i64 t.size]
def ints(l:List Int):List Value:=l.map λn=>.int .i64 n
def bools(l:List Bool):List Value:=l.map λn=>.bool n
def Ints(w:World)(v:Value)(l:List Int):Prop:=w.ownsRow 0 3 1 v l.length (ints l)
structure IntRow(w:World)(b:Nat)(v:Value)(l:List Int):Prop where
 row:Ints w v l
 off:∀k,v.ownBlock=some k->¬Foot w b k
 tight:Tight w b
def nodeCells(n:Nd)(lv tv:Value):List Value:=[.string n.word,.int .i64 n.n,.string n.t.name,.int .i64 n.t.kind,.bool n.t.sec,.int .i64 n.t.pos,.int .i64 n.t.size,lv,tv,.bool n.sec]
def NodeRow(w:World)(cs:List Value)(n:Nd):Prop:=∃lv tv,cs=nodeCells n lv tv/\Ints w lv n.L/\Ints w tv n.two
def NodesRow(w:World)(v:Value)(ns:List Nd):Prop:=
 ∃xs:List (List Value),w.ownsRow 0 145 10 v ns.length xs.flatten/\xs.length=ns.length/\∀(k:Nat) c n,xs[k]?=some c->ns[k]?=some n->NodeRow w c n
structure Rep(w:World)(b:Nat)(T:List Tok)(J:PS)(r:RV):Prop where
 cells:At w b 35 (pcs J r)
 toks:w.ownsRow 0 90 2 r.W T.length (T.flatMap tokCells)
 seen:w.ownsRow 0 111 5 r.S J.seen.length (J.seen.flatMap thingCells)
 nodes:NodesRow w r.N J.nodes
 shape:w.ownsRow 0 4 1 r.H J.shape.length (bools J.shape)
 does:w.ownsRow 0 3 1 r.D J.does.length (ints J.does)
 lt:J.i<T.length
 few:T.length<=1000
theorem ownsRow_block{w:World}{B:Nat}{e:TypeId}{size:Nat}{v:Value}{n:Nat}{xs:List Value}(h:w.ownsRow B e size v n xs){k:Nat}(hk:v.ownBlock=some k):
 ∃cur,w.heap[k]?=some (.cells cur e (0,0)):=by
 obtain⟨_,h |⟨g,cap,cur,rfl,_,hg,_⟩⟩:=h
 · rw[h.1]at hk;simp[Value.ownBlock]at hk
 · simp[Value.ownBlock]at hk;subst hk;exact⟨cur,hg⟩
theorem heap_lt{w:World}{k:Nat}{o:Obj}(h:w.heap[k]?=some o):k<w.heap.size:=(Array.getElem?_eq_some_iff.1 h).1
theorem ownsRow_of{w w':World}{B:Nat}{e:TypeId}{size:Nat}{v:Value}{n:Nat}{xs:List Value}(h:w.ownsRow B e size v n xs)(hk:∀k,v.ownBlock=some k->w'.heap[k]?=w.heap[k]?):w'.ownsRow B e size v n xs:=by
 obtain⟨hl,h |⟨g,cap,cur,rfl,hB,hg,r⟩⟩:=h
 · exact⟨hl,Or.inl h⟩
 · exact⟨hl,Or.inr ⟨g,cap,cur,rfl,hB,by rw[hk g rfl];exact hg,r⟩⟩
theorem flat_cell{α:Type}(f:α->List Value)(size:Nat)(hf:∀a,(f a).length=size)(l:List α):∀(i:Nat) (a:α),l[i]?=some a->∀j,j<size->(l.flatMap f)[i*size+j]?=(f a)[j]?:=by
 induction l with
 |nil=>intro i a h;simp at h
 |cons t l ih=>
  intro i a hi j hj
  cases i with
  |zero=>
   simp only[List.getElem?_cons_zero,Option.some.injEq]at hi
   subst hi
   rw[List.flatMap_cons,List.getElem?_append_left (by rw[hf];omega)]
   simp
  |succ i=>
   rw[List.flatMap_cons,List.getElem?_append_right (by rw[hf,Nat.add_mul];omega)]
   have:(i+1)*size+j-(f t).length=i*size+j:=by rw[hf,Nat.add_mul];omega
   rw[this]
   exact ih i a (by simpa using hi) j hj
theorem row_cell{w:World}{B:Nat}{e:TypeId}{size:Nat}{v:Value}{α:Type}(f:α->List Value)(hf:∀a,(f a).length=size){l:List α}(h:w.ownsRow B e size v l.length (l.flatMap f)){i:Nat}{a:α}(hi:l[i]?=some a):
 ∃g cap,v=.slice (some ⟨g,0,none⟩) l.length cap/\g<w.heap.size/\∀j,j<size->w.cell? ⟨g,i*size+j,none⟩=(f a)[j]?:=by
 obtain⟨hil,_⟩:=List.getElem?_eq_some_iff.1 hi
 obtain⟨hl,h' |⟨g,cap,cur,hv,_,hg,hc,_,hs,hx⟩⟩:=h
 · omega
 · refine⟨g,cap,hv,heap_lt hg,λj hj=>?_⟩
   rw[<-flat_cell f size hf l i a hi j hj,<-hx,List.getElem?_take_of_lt (by
    have:(i+1)*size<=l.length*size:=Nat.mul_le_mul_right _ hil
    rw[Nat.add_mul]at this
    omega)]
   simp[World.cell?,hg]
theorem flat_at(xs:List (List Value))(size:Nat)(hs:∀c∈xs,c.length=size)(j:Nat)(u:Value)(h:xs.flatten[j]?=some u):∃q s c,xs[q]?=some c/\c[s]?=some u/\j=q*size+s/\s<size:=by
 induction xs generalizing j with
 |nil=>simp at h
 |cons c xs ih=>
  have hc:=hs c (List.mem_cons_self)
  by_cases hj:j<c.length
  · rw[List.flatten_cons,List.getElem?_append_left hj]at h
    exact⟨0,j,c,rfl,h,by omega,by omega⟩
  · rw[List.flatten_cons,List.getElem?_append_right (by omega)]at h
    obtain⟨q,s,c',h1,h2,h3,h4⟩:=ih (λc hc=>hs c (List.mem_cons_of_mem _ hc)) _ h
    exact⟨q+1,s,c',by simpa using h1,h2,by rw[Nat.add_mul];omega,h4⟩
theorem nodeCells_own{n:Nd}{lv tv:Value}{s:Nat}{u:Value}{k:Nat}(h:(nodeCells n lv tv)[s]?=some u)(hk:u.ownBlock=some k):lv.ownBlock=some k∨tv.ownBlock=some k:=by
 match s with
 |0=>simp[nodeCells]at h;subst h;simp[Value.ownBlock]at hk
 |1=>simp[nodeCells]at h;subst h;simp[Value.ownBlock]at hk
 |2=>simp[nodeCells]at h;subst h;simp[Value.ownBlock]at hk
 |3=>simp[nodeCells]at h;subst h;simp[Value.ownBlock]at hk
 |4=>simp[nodeCells]at h;subst h;simp[Value.ownBlock]at hk
 |5=>simp[nodeCells]at h;subst h;simp[Value.ownBlock]at hk
 |6=>simp[nodeCells]at h;subst h;simp[Value.ownBlock]at hk
 |7=>simp[nodeCells]at h;subst h;exact Or.inl hk
 |8=>simp[nodeCells]at h;subst h;exact Or.inr hk
 |9=>simp[nodeCells]at h;subst h;simp[Value.ownBlock]at hk
 |j+10=>simp[nodeCells]at h
def Inner(ns:List (List Value))(k:Nat):Prop:=∃c n lv tv,c∈ns/\c=nodeCells n lv tv/\(lv.ownBlock=some k∨tv.ownBlock=some k)
theorem foot_first{w:World}{b:Nat}{t:TypeId}{J:PS}{r:RV}(h:At w b t (pcs J r))(k:Nat):(∃i v,w.cell? ⟨b,i,none⟩=some v/\v.ownBlock=some k)↔r.has k:=by
 constructor
 · rintro⟨i,v,hc,hv⟩
   rw[h.cell i]at hc
   unfold RV.has
   match i with
   |0=>simp[pcs]at hc;subst hc;simp[hv]
   |1=>simp[pcs]at hc;subst hc;simp[Value.ownBlock]at hv
   |2=>simp[pcs]at hc;subst hc;simp[Value.ownBlock]at hv
   |3=>simp[pcs]at hc;subst hc;simp[Value.ownBlock]at hv
   |4=>simp[pcs]at hc;subst hc;simp[hv]
   |5=>simp[pcs]at hc;subst hc;simp[Value.ownBlock]at hv
   |6=>simp[pcs]at hc;subst hc;simp[Value.ownBlock]at hv
   |7=>simp[pcs]at hc;subst hc;simp[hv]
   |8=>simp[pcs]at hc;subst hc;simp[hv]
   |9=>simp[pcs]at hc;subst hc;simp[hv]
   |10=>simp[pcs]at hc;subst hc;simp[Value.ownBlock]at hv
   |11=>simp[pcs]at hc;subst hc;simp[Value.ownBlock]at hv
   |12=>simp[pcs]at hc;subst hc;simp[Value.ownBlock]at hv
   |13=>simp[pcs]at hc;subst hc;simp[Value.ownBlock]at hv
   |j+14=>simp[pcs]at hc
 · rintro(h' |h' |h' |h' |h')
   · exact⟨0,r.W,by rw[h.cell];rfl,h'⟩
   · exact⟨4,r.S,by rw[h.cell];rfl,h'⟩
   · exact⟨7,r.N,by rw[h.cell];rfl,h'⟩
   · exact⟨8,r.D,by rw[h.cell];rfl,h'⟩
   · exact⟨9,r.H,by rw[h.cell];rfl,h'⟩
theorem foot_iff{w:World}{b:Nat}{t:TypeId}{J:PS}{r:RV}(h:At w b t (pcs J r)){xs:List (List Value)}{ns:List Nd}(hx:w.ownsRow 0 145 10 r.N ns.length xs.flatten)(hl:xs.length=ns.length)(hn:∀(k:Nat) c n,xs[k]?=some c->ns[k]?=some n->∃lv tv,c=nodeCells n lv tv)(k:Nat):Foot w b k↔k=b∨r.has k∨Inner xs k:=by
 have hlen:∀c∈xs,c.length=10:=by
  intro c hc
  obtain⟨q,hq,rfl⟩:=List.getElem_of_mem hc
  obtain⟨lv,tv,e⟩:=hn q xs[q] ns[q] (List.getElem?_eq_getElem hq) (List.getElem?_eq_getElem (by omega))
  rw[e];rfl
 have hx0:=hx
 obtain⟨hxl,hnil |⟨g,cap,cur,hv,_,hg,hc,_,hcs,hcx⟩⟩:=hx
 · have hn0:ns.length=0:=hnil.2
   have hx0':xs=[]:=List.eq_nil_of_length_eq_zero (by omega)
   constructor
   · rintro(f |f |⟨g,len,cap,j,u,f1,_⟩)
     · exact Or.inl f
     · exact Or.inr (Or.inl ((foot_first h k).1 f))
     · rw[h.cell]at f1
       simp[pcs,hnil.1]at f1
   · rintro(f |f |⟨c,n,lv,tv,f1,_⟩)
     · exact Or.inl f
     · exact Or.inr (Or.inl ((foot_first h k).2 f))
     · rw[hx0']at f1;simp at f1
 · have hcell:∀j,j<ns.length*10->w.cell? ⟨g,j,none⟩=xs.flatten[j]?:=by
    intro j hj
    rw[<-hcx,List.getElem?_take_of_lt hj]
    simp[World.cell?,hg]
   constructor
   · rintro(f |f |⟨g',len,cap',j,u,f1,f2,f3,f4⟩)
     · exact Or.inl f
     · exact Or.inr (Or.inl ((foot_first h k).1 f))
     · rw[h.cell]at f1
       simp only[pcs,hv]at f1
       simp only[List.getElem?_cons_succ,List.getElem?_cons_zero,Option.some.injEq,Value.slice.injEq,Addr.mk.injEq]at f1
       obtain⟨⟨rfl,_⟩,rfl,rfl⟩:=f1
       rw[hcell j f2]at f3
       obtain⟨q,s,c,e1,e2,_,_⟩:=flat_at xs 10 hlen j u f3
       have hq:q<xs.length:=(List.getElem?_eq_some_iff.1 e1).1
       obtain⟨lv,tv,e⟩:=hn q c ns[q] e1 (List.getElem?_eq_getElem (by omega))
       rw[e]at e2
       exact Or.inr (Or.inr ⟨c,_,lv,tv,List.mem_of_getElem? e1,e,nodeCells_own e2 f4⟩)
   · rintro(f |f |⟨c,n,lv,tv,f1,f2,f3⟩)
     · exact Or.inl f
     · exact Or.inr (Or.inl ((foot_first h k).2 f))
     · obtain⟨q,hq,e⟩:=List.getElem_of_mem f1
       have fl:∀s,s<10->xs.flatten[q*10+s]?=c[s]?:=by
        intro s hs
        have:∀(ys:List (List Value)) (q:Nat),(∀c∈ys,c.length=10)->(hq:q<ys.length)->ys.flatten[q*10+s]?=ys[q][s]?:=by
         intro ys
         induction ys with
         |nil=>intro q _ hq;simp at hq
         |cons y ys ih=>
          intro q hy hq
          have hy0:=hy y List.mem_cons_self
          cases q with
          |zero=>rw[List.flatten_cons,List.getElem?_append_left (by omega)];simp
          |succ q=>
           rw[List.flatten_cons,List.getElem?_append_right (by rw[Nat.add_mul];omega)]
           have e':(q+1)*10+s-y.length=q*10+s:=by rw[Nat.add_mul];omega
           rw[e',ih q (λc hc=>hy c (List.mem_cons_of_mem _ hc)) (by simpa using hq)]
           simp
        rw[this xs q hlen hq,e]
       have hj:∀s,s<10->q*10+s<ns.length*10:=λs hs=>by omega
       have h7:w.cell? ⟨b,7,none⟩=some (.slice (some ⟨g,0,none⟩) ns.length cap):=by rw[h.cell,<-hv];rfl
       rcases f3 with f3 |f3
       · exact Or.inr (Or.inr ⟨g,ns.length,cap,q*10+7,lv,h7,hj 7 (by omega),by rw[hcell _ (hj 7 (by omega)),fl 7 (by omega),f2];rfl,f3⟩)
       · exact Or.inr (Or.inr ⟨g,ns.length,cap,q*10+8,tv,h7,hj 8 (by omega),by rw[hcell _ (hj 8 (by omega)),fl 8 (by omega),f2];rfl,f3⟩)
theorem IntRow.moves{w w':World}{b:Nat}{v:Value}{l:List Int}(h:IntRow w b v l)(m:Moves b w w'):IntRow w' b v l:=
 ⟨ownsRow_of h.row λk hk=>by
  obtain⟨_,hg⟩:=ownsRow_block h.row hk
  exact(m.main h.tight).2.1 k (heap_lt hg) (h.off k hk),
  λk hk f=>by
   obtain⟨_,hg⟩:=ownsRow_block h.row hk
   exact h.off k hk ((m.main h.tight).2.2 k (heap_lt hg) f),(m.main h.tight).1⟩
theorem Rep.foot{w:World}{b:Nat}{T:List Tok}{J:PS}{r:RV}(h:Rep w b T J r):∃xs:List (List Value),w.ownsRow 0 145 10 r.N J.nodes.length xs.flatten/\xs.length=J.nodes.length∧
 (∀(k:Nat) c n,xs[k]?=some c->J.nodes[k]?=some n->NodeRow w c n)/\∀k,Foot w b k↔k=b∨r.has k∨Inner xs k:=by
 obtain⟨xs,hx,hl,hn⟩:=h.nodes
 exact⟨xs,hx,hl,hn,foot_iff h.cells hx hl λk c n hc hnn=>by obtain⟨lv,tv,e,_⟩:=hn k c n hc hnn;exact⟨lv,tv,e⟩⟩
theorem Rep.tight{w:World}{b:Nat}{T:List Tok}{J:PS}{r:RV}(h:Rep w b T J r):Tight w b:=by
 obtain⟨xs,hx,hl,hn,hf⟩:=h.foot
 intro k f
 rcases(hf k).1 f with rfl |f |⟨c,n,lv,tv,f1,f2,f3⟩
 · exact h.cells.lt
 · rcases f with f |f |f |f |f
   · exact heap_lt (ownsRow_block h.toks f).choose_spec
   · exact heap_lt (ownsRow_block h.seen f).choose_spec
   · exact heap_lt (ownsRow_block hx f).choose_spec
   · exact heap_lt (ownsRow_block h.does f).choose_spec
   · exact heap_lt (ownsRow_block h.shape f).choose_spec
 · obtain⟨q,hq,e⟩:=List.getElem_of_mem f1
   obtain⟨lv',tv',e',i1,i2⟩:=hn q c J.nodes[q] (by rw[List.getElem?_eq_getElem hq,e]) (List.getElem?_eq_getElem (by omega))
   rw[f2]at e'
   simp only[nodeCells,List.cons.injEq,and_true]at e'
   obtain⟨_,_,_,_,_,_,_,rfl,rfl,_⟩:=e'
   rcases f3 with f3 |f3
   · exact heap_lt (ownsRow_block i1 f3).choose_spec
   · exact heap_lt (ownsRow_block i2 f3).choose_spec
theorem Rep.foot_lt{w:World}{b:Nat}{T:List Tok}{J:PS}{r:RV}(h:Rep w b T J r){k:Nat}(f:Foot w b k):k<w.heap.size:=h.tight k f
theorem Rep.not_foot{w:World}{b:Nat}{T:List Tok}{J:PS}{r:RV}(h:Rep w b T J r){k:Nat}(hk:w.heap.size<=k):¬Foot w b k:=λf=>by
 have:=h.foot_lt f
 omega
theorem Rep.same{w w':World}{b:Nat}{T:List Tok}{J:PS}{r:RV}(h:Rep w b T J r)(hb:∀k,Foot w b k->w'.heap[k]?=w.heap[k]?):Rep w' b T J r:=by
 obtain⟨xs,hx,hl,hn,hf⟩:=h.foot
 have own:∀k,r.has k->w'.heap[k]?=w.heap[k]?:=λk hk=>hb k ((hf k).2 (Or.inr (Or.inl hk)))
 refine⟨h.cells.of_block (hb b (Or.inl rfl)),?_,?_,?_,?_,?_,h.lt,h.few⟩
 · exact ownsRow_of h.toks λk hk=>own k (Or.inl hk)
 · exact ownsRow_of h.seen λk hk=>own k (Or.inr (Or.inl hk))
 · refine⟨xs,ownsRow_of hx λk hk=>own k (Or.inr (Or.inr (Or.inl hk))),hl,λk c n hc hnn=>?_⟩
   obtain⟨lv,tv,e,i1,i2⟩:=hn k c n hc hnn
   exact⟨lv,tv,e,ownsRow_of i1 λq hq=>hb q ((hf q).2 (Or.inr (Or.inr ⟨c,n,lv,tv,List.mem_of_getElem? hc,e,Or.inl hq⟩))),
    ownsRow_of i2 λq hq=>hb q ((hf q).2 (Or.inr (Or.inr ⟨c,n,lv,tv,List.mem_of_getElem? hc,e,Or.inr hq⟩)))⟩
 · exact ownsRow_of h.shape λk hk=>own k (Or.inr (Or.inr (Or.inr (Or.inr hk))))
 · exact ownsRow_of h.does λk hk=>own k (Or.inr (Or.inr (Or.inr (Or.inl hk))))
theorem Rep.alloc{w:World}{b:Nat}{T:List Tok}{J:PS}{r:RV}(h:Rep w b T J r)(o:Obj):Rep (w.alloc o) b T J r:=
 h.same λ_ hk=>heap_alloc_old _ _ _ (h.foot_lt hk)
theorem Rep.drew{w:World}{b:Nat}{T:List Tok}{J:PS}{r:RV}(h:Rep w b T J r):Rep w.drew b T J r:=
 h.same λ_ _=>rfl
theorem Rep.box{w:World}{b:Nat}{T:List Tok}{J:PS}{r:RV}(h:Rep w b T J r)(cs:List Value)(t:TypeId):Box (w.alloc (.cells cs.toArray t (0,0))) b w.heap.size t cs:=
 ⟨At.alloc_new w cs t,λf=>h.not_foot (Nat.le_refl _) (Foot.of_same (λ_ f=>heap_alloc_old _ _ _ (h.foot_lt f)) f),(h.alloc _).tight⟩
theorem Rep.set_box{w:World}{b:Nat}{T:List Tok}{J:PS}{r:RV}(h:Rep w b T J r){k:Nat}{t:TypeId}{cs:List Value}(hx:Box w b k t cs)(i:Nat)(v:Value):Rep (w.setCell ⟨k,i,none⟩ v) b T J r:=
 h.same λk' f=>Below.heap_setCell _ _ _ _ (fun(e:k'=k)=>hx.off (e▸f))
theorem Rep.scalar{w w':World}{b:Nat}{T:List Tok}{J J':PS}{r:RV}(h:Rep w b T J r)(hat:At w' b 35 (pcs J' r))(hb:But b w w')(e1:J'.seen=J.seen)(e2:J'.nodes=J.nodes)(e3:J'.shape=J.shape)(e4:J'.does=J.does)(hi:J'.i<T.length):Rep w' b T J' r/\Moves b w w':=by
 obtain⟨xs,hx,hl,hn,hf⟩:=h.foot
 have hc:=h.cells
 unfold At at hc
 have ne:∀{B e size v n xs},w.ownsRow B e size v n xs->e≠35->∀k,v.ownBlock=some k->w'.heap[k]?=w.heap[k]?:=by
  intro B e size v n xs ho he k hk
  obtain⟨cur,hg⟩:=ownsRow_block ho hk
  refine hb.block k (heap_lt hg) ?_
  rintro rfl
  rw[hg]at hc
  simp at hc
  exact he hc.2
 have hx':w'.ownsRow 0 145 10 r.N J.nodes.length xs.flatten:=ownsRow_of hx (ne hx (by decide))
 have hf':=foot_iff hat hx' hl λk c n hc hnn=>by obtain⟨lv,tv,e,_⟩:=hn k c n hc hnn;exact⟨lv,tv,e⟩
 have ft:∀k,Foot w' b k->Foot w b k:=λk f=>(hf k).2 ((hf' k).1 f)
 have mv:Moves b w w':=⟨hb.os,hb.tape,hb.output,hb.size,λt=>⟨λk f=>Nat.lt_of_lt_of_le (t k (ft k f)) hb.size,λk hk f=>hb.block k hk (λe=>f (Or.inl e)),λk _ f=>ft k f⟩⟩
 refine⟨⟨hat,?_,?_,?_,?_,?_,hi,h.few⟩,mv⟩
 · exact ownsRow_of h.toks (ne h.toks (by decide))
 · rw[e1];exact ownsRow_of h.seen (ne h.seen (by decide))
 · rw[e2]
   refine⟨xs,hx',hl,λk c n hc' hnn=>?_⟩
   obtain⟨lv,tv,e,i1,i2⟩:=hn k c n hc' hnn
   exact⟨lv,tv,e,ownsRow_of i1 (ne i1 (by decide)),ownsRow_of i2 (ne i2 (by decide))⟩
 · rw[e3];exact ownsRow_of h.shape (ne h.shape (by decide))
 · rw[e4];exact ownsRow_of h.does (ne h.does (by decide))
end
section
open Go.RowKit
theorem run_append_row{P:Program}(w:World)(t ty e:TypeId)(i:TypeInfo)(z:Value)(size bytes:Nat)(ht:P.underlying t=some (.slice e))(hi:P.info? e=some i)(hz:i.zero=some z)(hsize:i.size=size)(hby:i.bytes=bytes)(hzs:z.cells.size=size)(hsz:0<size)(v:Value)(n:Nat)(xs:List Value)(hown:w.ownsRow 0 e size v n xs)(a:Addr)(m c:Nat)(news:List Value)(hl:news.length=m*size)(hnews:∀(j:Nat) u,news[j]?=some u->w.cell? (a.add j)=some u)(h1:∀u∈news,u.oneCell'=true)(h63:n+m<=maxLen)(hbytes:(n+m)*bytes<=140737488355328):
 ∃v' w',(Builtin.append_ #[t,t] ty #[v,.slice (some a) m c]).run P w=.ok v' w'/\w'.ownsRow 0 e size v' (n+m) (xs++news)/\w.grownBy w' v.ownBlock∧
  ∀k,v'.ownBlock=some k->v.ownBlock=some k∨w.heap.size<=k:=by
 obtain⟨v',w',hr,h2,h3,_⟩:=run_append_own (P:=P) w 0 t ty e i z size bytes ht hi hz hsize hby hzs hsz v n xs hown a m c news hl hnews h1 h63 hbytes (Nat.zero_le _)
 refine⟨v',w',hr,h2,h3,λk hk=>?_⟩
 obtain⟨hxl,⟨rfl,rfl⟩|⟨g,cap,cur,rfl,_,hg,hnc,hcap,hcs,hcx⟩⟩:=hown
 · have hxs:xs=[]:=List.eq_nil_of_length_eq_zero (by simpa using hxl)
   subst hxs
   obtain⟨v2,w2,hr2,k2,_,_⟩:=run_append_own (P:=P) w w.heap.size t ty e i z size bytes ht hi hz hsize hby hzs hsz (.slice none 0 0) 0 [] (World.ownsRow_nil w _ e size) a m c news hl hnews h1 h63 hbytes (Nat.le_refl _)
   rw[hr]at hr2
   simp only[Result.ok.injEq]at hr2
   obtain⟨rfl,rfl⟩:=hr2
   refine Or.inr ?_
   obtain⟨_,⟨h0,_⟩|⟨g',cap',cur',rfl,hb,_⟩⟩:=k2
   · rw[h0]at hk;simp[Value.ownBlock]at hk
   · simp only[Value.ownBlock,Option.some.injEq]at hk;omega
 · by_cases hroom:n+m<=cap
   · left
     have hr2:=run_append_room_cells (P:=P) w t ty e i ht hi g 0 n cap a m c news (by rw[hsize];exact hl) hnews h1 hroom
      (λj hj=>by
        have:0+n*i.size+j<cur.size:=by
         have:=Nat.mul_le_mul_right size hroom
         rw[Nat.add_mul]at this
         rw[hsize]
         omega
        simp[World.cell?,hg]
        simpa using this)
      (λj hj=>by simp[World.frozen?,hg])
     rw[hr]at hr2
     simp only[Result.ok.injEq]at hr2
     rw[hr2.1]at hk
     exact hk
   · right
     obtain⟨v2,w2,hr2,k2,_⟩:=run_append_arg_grows (P:=P) w t ty e i z size bytes ht hi hz hsize hby hzs hsz ⟨g,0,none⟩ n cap xs hxl
      (λj u hu=>by
        have hj:j<n*size:=by rw[<-hxl];exact(List.getElem?_eq_some_iff.1 hu).1
        rw[<-hcx,List.getElem?_take_of_lt hj]at hu
        have ea:(⟨g,0,none⟩:Addr).add j=⟨g,j,none⟩:=by unfold Addr.add;split<;>simp_all
        rw[ea]
        simp[World.cell?,hg]
        simpa using hu)
      a m c news hl hnews (by omega) h63 hbytes
     rw[hr]at hr2
     simp only[Result.ok.injEq]at hr2
     obtain⟨rfl,rfl⟩:=hr2
     obtain⟨_,⟨h0,_⟩|⟨g',cap',cur',rfl,hb,_⟩⟩:=k2
     · rw[h0]at hk;simp[Value.ownBlock]at hk
     · simp only[Value.ownBlock,Option.some.injEq]at hk;omega
theorem wp_append_row{P:Program}(w:World){o:Oper}{a:Act}{K:Act->World->Prop}{Q:Exit->Act->World->Prop}(s x:Operand)(t:TypeId)(ho:o.op=.call {callee:=.builtin .append,args:=#[s,x],argTypes:=#[t,t]})(e:TypeId)(i:TypeInfo)(z:Value)(size bytes:Nat)(ht:P.underlying t=some (.slice e))(hi:P.info? e=some i)(hz:i.zero=some z)(hsize:i.size=size)(hby:i.bytes=bytes)(hzs:z.cells.size=size)(hsz:0<size)(v:Value)(n:Nat)(xs:List Value)(hs:a.eval s=v)(hown:w.ownsRow 0 e size v n xs)(ad:Addr)(m c:Nat)(news:List Value)(hx:a.eval x=.slice (some ad) m c)(hl:news.length=m*size)(hnews:∀(j:Nat) u,news[j]?=some u->w.cell? (ad.add j)=some u)(h1:∀u∈news,u.oneCell'=true)(h63:n+m<=maxLen)(hbytes:(n+m)*bytes<=140737488355328)(h:∀v' w',w'.ownsRow 0 e size v' (n+m) (xs++news)->w.grownBy w' v.ownBlock->(∀k,v'.ownBlock=some k->v.ownBlock=some k∨w.heap.size<=k)->K (a.put o.dst v') w'):o.wp P a w K Q:=by
 obtain⟨v',w',hr,h2,h3,h4⟩:=run_append_row (P:=P) w t o.type e i z size bytes ht hi hz hsize hby hzs hsz v n xs hown ad m c news hl hnews h1 h63 hbytes
 unfold Oper.wp execOp
 simp only[ho,resolve,invoke,builtin,Sem.run_bind,Sem.run_pure,Result.andThen_ok,List.map_toArray,List.map_cons,List.map_nil,hs,hx,hr]
 exact h v' w' h2 h3 h4
theorem wpList_append_row{P:Program}(w:World){ops:Array Oper}{rest:List Oper}{o:Oper}{a:Act}{Q:Exit->Act->World->Prop}(hgd:o.guard=none)(s x:Operand)(t:TypeId)(ho:o.op=.call {callee:=.builtin .append,args:=#[s,x],argTypes:=#[t,t]})(e:TypeId)(i:TypeInfo)(z:Value)(size bytes:Nat)(ht:P.underlying t=some (.slice e))(hi:P.info? e=some i)(hz:i.zero=some z)(hsize:i.size=size)(hby:i.bytes=bytes)(hzs:z.cells.size=size)(hsz:0<size)(v:Value)(n:Nat)(xs:List Value)(hs:a.eval s=v)(hown:w.ownsRow 0 e size v n xs)(ad:Addr)(m c:Nat)(news:List Value)(hx:a.eval x=.slice (some ad) m c)(hl:news.length=m*size)(hnews:∀(j:Nat) u,news[j]?=some u->w.cell? (ad.add j)=some u)(h1:∀u∈news,u.oneCell'=true)(h63:n+m<=maxLen)(hbytes:(n+m)*bytes<=140737488355328)(h:∀v' w',w'.ownsRow 0 e size v' (n+m) (xs++news)->w.grownBy w' v.ownBlock->(∀k,v'.ownBlock=some k->v.ownBlock=some k∨w.heap.size<=k)->wpList P ops Q rest (a.put o.dst v') w'):wpList P ops Q (o::rest) a w:=
 wpList_plain hgd λ_ hK=>wp_append_row w s x t ho e i z size bytes ht hi hz hsize hby hzs hsz v n xs hs hown ad m c news hx hl hnews h1 h63 hbytes λv' w' h2 h3 h4=>hK _ _ (h v' w' h2 h3 h4)
theorem step_append_row{P:Program}{ops:Array Oper}{o:Oper}{a:Act}{w:World}{K:Act->World->Prop}{Q:Exit->Act->World->Prop}{E:Prop}(hg:o.guard=none)(s x:Operand)(t:TypeId)(hop:o.op=Op.call {callee:=Callee.builtin Builtin.append,args:=#[s,x],argTypes:=#[t,t]})(e:TypeId)(i:TypeInfo)(z:Value)(size bytes:Nat)(ht:P.underlying t=some (.slice e))(hi:P.info? e=some i)(hz:i.zero=some z)(hsize:i.size=size)(hby:i.bytes=bytes)(hzs:z.cells.size=size)(hsz:0<size)(v:Value)(n:Nat)(xs:List Value)(hs:a.eval s=v)(hown:w.ownsRow 0 e size v n xs)(ad:Addr)(m c:Nat)(news:List Value)(hx:a.eval x=.slice (some ad) m c)(hl:news.length=m*size)(hnews:∀(j:Nat) u,news[j]?=some u->w.cell? (ad.add j)=some u)(h1:∀u∈news,u.oneCell'=true)(h63:n+m<=maxLen)(hbytes:(n+m)*bytes<=140737488355328)(hK:∀v' w',w'.ownsRow 0 e size v' (n+m) (xs++news)->w.grownBy w' v.ownBlock->(∀k,v'.ownBlock=some k->v.ownBlock=some k∨w.heap.size<=k)->K (a.put o.dst v') w'):
 if Region.wanted o (yielded ops a.tmps)=true then Oper.wp P o a w K Q else E:=by
 have hw:Region.wanted o (yielded ops a.tmps)=true:=by simp[Region.wanted,hg]
 rw[if_pos hw]
 exact wp_append_row w s x t hop e i z size bytes ht hi hz hsize hby hzs hsz v n xs hs hown ad m c news hx hl hnews h1 h63 hbytes hK
theorem step_append_row1{P:Program}{ops:Array Oper}{o:Oper}{a:Act}{w:World}{K:Act->World->Prop}{Q:Exit->Act->World->Prop}{E:Prop}(hg:o.guard=none)(s x:Operand)(t:TypeId)(hop:o.op=Op.call {callee:=Callee.builtin Builtin.append,args:=#[s,x],argTypes:=#[t,t]})(e:TypeId)(i:TypeInfo)(z:Value)(size bytes:Nat)(ht:P.underlying t=some (.slice e))(hi:P.info? e=some i)(hz:i.zero=some z)(hsize:i.size=size)(hby:i.bytes=bytes)(hzs:z.cells.size=size)(hsz:0<size)(v:Value)(n:Nat)(xs:List Value)(hs:a.eval s=v)(hown:w.ownsRow 0 e size v n xs)(ad:Addr)(m c:Nat)(news:List Value)(hx:a.eval x=.slice (some ad) m c)(hl:news.length=m*size)(hnews:∀(j:Nat) u,news[j]?=some u->w.cell? (ad.add j)=some u)(h1:∀u∈news,u.oneCell'=true)(h63:n+m<=maxLen)(hbytes:(n+m)*bytes<=140737488355328)(hm:0<m)(hK:∀g cap w',w'.ownsRow 0 e size (.slice (some ⟨g,0,none⟩) (n+m) cap) (n+m) (xs++news)->w.grownBy w' v.ownBlock->(∀k,(Value.slice (some ⟨g,0,none⟩) (n+m) cap).ownBlock=some k->v.ownBlock=some k∨w.heap.size<=k)->K (a.put o.dst (.slice (some ⟨g,0,none⟩) (n+m) cap)) w'):
 if Region.wanted o (yielded ops a.tmps)=true then Oper.wp P o a w K Q else E:=
 step_append_row hg s x t hop e i z size bytes ht hi hz hsize hby hzs hsz v n xs hs hown ad m c news hx hl hnews h1 h63 hbytes λv' w' h2 h3 h4=>by
  obtain⟨g,cap,rfl⟩:=Joins.ownsRow_form h2 (by omega)
  exact hK g cap w' h2 h3 h4
theorem wpList_append_row1{P:Program}(w:World){ops:Array Oper}{rest:List Oper}{o:Oper}{a:Act}{Q:Exit->Act->World->Prop}(hgd:o.guard=none)(s x:Operand)(t:TypeId)(ho:o.op=.call {callee:=.builtin .append,args:=#[s,x],argTypes:=#[t,t]})(e:TypeId)(i:TypeInfo)(z:Value)(size bytes:Nat)(ht:P.underlying t=some (.slice e))(hi:P.info? e=some i)(hz:i.zero=some z)(hsize:i.size=size)(hby:i.bytes=bytes)(hzs:z.cells.size=size)(hsz:0<size)(v:Value)(n:Nat)(xs:List Value)(hs:a.eval s=v)(hown:w.ownsRow 0 e size v n xs)(ad:Addr)(m c:Nat)(news:List Value)(hx:a.eval x=.slice (some ad) m c)(hl:news.length=m*size)(hnews:∀(j:Nat) u,news[j]?=some u->w.cell? (ad.add j)=some u)(h1:∀u∈news,u.oneCell'=true)(h63:n+m<=maxLen)(hbytes:(n+m)*bytes<=140737488355328)(hm:0<m)(h:∀g cap w',w'.ownsRow 0 e size (.slice (some ⟨g,0,none⟩) (n+m) cap) (n+m) (xs++news)->w.grownBy w' v.ownBlock->(∀k,(Value.slice (some ⟨g,0,none⟩) (n+m) cap).ownBlock=some k->v.ownBlock=some k∨w.heap.size<=k)->wpList P ops Q rest (a.put o.dst (.slice (some ⟨g,0,none⟩) (n+m) cap)) w'):wpList P ops Q (o::rest) a w:=
 wpList_append_row w hgd s x t ho e i z size bytes ht hi hz hsize hby hzs hsz v n xs hs hown ad m c news hx hl hnews h1 h63 hbytes λv' w' h2 h3 h4=>by
  obtain⟨g,cap,rfl⟩:=Joins.ownsRow_form h2 (by omega)
  exact h g cap w' h2 h3 h4
theorem ownsRow_one{w:World}{B:Nat}{e:TypeId}{size:Nat}{v:Value}{n:Nat}{xs:List Value}(h:w.ownsRow B e size v n xs):v.oneCell'=true:=by
 obtain⟨_,⟨h,_⟩|⟨g,cap,cur,rfl,_⟩⟩:=h
 · rw[h];rfl
 · rfl
structure Grew(w w':World)(v v':Value):Prop where
 os:w'.os=w.os
 tape:w'.tape=w.tape
 output:w'.output=w.output
 size:w.heap.size<=w'.heap.size
 block:∀k,k<w.heap.size->v.ownBlock≠some k->w'.heap[k]?=w.heap[k]?
 own:∀k,v'.ownBlock=some k->v.ownBlock=some k∨w.heap.size<=k
structure More(w w':World):Prop where
 os:w'.os=w.os
 tape:w'.tape=w.tape
 output:w'.output=w.output
 size:w.heap.size<=w'.heap.size
 block:∀k,k<w.heap.size->w'.heap[k]?=w.heap[k]?
theorem More.refl(w:World):More w w:=⟨rfl,rfl,rfl,Nat.le_refl _,λ_ _=>rfl⟩
theorem More.alloc{a w:World}(h:More a w)(o:Obj):More a (w.alloc o):=
 ⟨h.os,h.tape,h.output,by have:=h.size;simp;omega,λk hk=>(heap_alloc_old _ _ _ (Nat.lt_of_lt_of_le hk h.size)).trans (h.block k hk)⟩
theorem More.drew{a w:World}(h:More a w):More a w.drew:=⟨h.os,h.tape,h.output,h.size,h.block⟩
theorem Grew.of{w W w':World}{v v':Value}(m:More w W)(g:W.grownBy w' v.ownBlock)(o:∀k,v'.ownBlock=some k->v.ownBlock=some k∨W.heap.size<=k):Grew w w' v v':=
 ⟨g.os.trans m.os,g.tape.trans m.tape,g.output.trans m.output,Nat.le_trans m.size g.size,
  λk hk ne=>(g.block k (Nat.lt_of_lt_of_le hk m.size) (λe=>ne e.symm)).trans (m.block k hk),
  λk hk=>(o k hk).imp id (λh=>Nat.le_trans m.size h)⟩
theorem row_new(w:World)(cs:List Value)(t:TypeId):∀(j:Nat) u,cs[j]?=some u->(w.alloc (.cells cs.toArray t (0,0))).cell? ((⟨w.heap.size,0,none⟩:Addr).add j)=some u:=by
 intro j u hu
 have ea:(⟨w.heap.size,0,none⟩:Addr).add j=⟨w.heap.size,j,none⟩:=by unfold Addr.add;split<;>simp_all
 rw[ea,(At.alloc_new w cs t).cell,hu]
theorem row_new1(w:World)(o:Obj)(cs:List Value)(t:TypeId):∀(j:Nat) u,cs[j]?=some u->((w.alloc o).alloc (.cells cs.toArray t (0,0))).cell? ((⟨w.heap.size+1,0,none⟩:Addr).add j)=some u:=by
 intro j u hu
 have h:=row_new (w.alloc o) cs t j u hu
 have e:(w.alloc o).heap.size=w.heap.size+1:=by simp
 rw[e]at h
 exact h
theorem few_le{n m:Nat}(h:n+m<=1000000):n+m<=maxLen:=by unfold maxLen;omega
theorem info_int:(Tryz.prog.info? 3).map (λi=>(i.zero,i.size,i.bytes))=some (some (.int .i64 0),1,8):=by kernel_rfl
theorem info_bool:(Tryz.prog.info? 4).map (λi=>(i.zero,i.size,i.bytes))=some (some (.bool false),1,1):=by kernel_rfl
theorem info_word:(Tryz.prog.info? 90).map (λi=>(i.zero,i.size,i.bytes))=some (some (.agg #[.string ⟨#[]⟩,.int .i64 0]),2,24):=by kernel_rfl
theorem info_thing:(Tryz.prog.info? 111).map (λi=>(i.zero,i.size,i.bytes))=some (some (.agg #[.string ⟨#[]⟩,.int .i64 0,.bool false,.int .i64 0,.int .i64 0]),5,48):=by kernel_rfl
theorem info_node:(Tryz.prog.info? 145).map (λi=>(i.zero,i.size,i.bytes))=some (some (.agg #[.string ⟨#[]⟩,.int .i64 0,.string ⟨#[]⟩,.int .i64 0,.bool false,.int .i64 0,.int .i64 0,.slice none 0 0,.slice none 0 0,.bool false]),10,128):=by kernel_rfl
end
end Go.Proofs.YtejbgcloblpbfaaGreatDoor
