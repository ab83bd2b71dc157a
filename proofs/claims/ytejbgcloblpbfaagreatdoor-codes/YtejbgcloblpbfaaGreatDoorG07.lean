import Derived.Test.YtejbgcloblpbfaaGreatDoorG06
import Derived.Deep.QuietTactic
import Derived.Deep.CutBlock
set_option maxHeartbeats 1000000
set_option maxRecDepth 20000
namespace Go.Proofs.YtejbgcloblpbfaaGreatDoor
section
open Go.RowKit
theorem own_cells{w:World}{base n cap g:Nat}{e:TypeId}{xs:List Value}(h:w.ownsRow base e 1 (.slice (some ⟨g,0,none⟩) n cap) n xs):
 base<=g/\g<w.heap.size/\∀(j:Nat) u,xs[j]?=some u->w.cell? ⟨g,j,none⟩=some u:=by
 obtain⟨hl,⟨h0,_⟩|⟨g',cap',cur,hv,hb,hg,hc,_,hs,hx⟩⟩:=h
 · simp at h0
 · simp only[Value.slice.injEq,Option.some.injEq,Addr.mk.injEq]at hv
   obtain⟨⟨rfl,_⟩,_,rfl⟩:=hv
   refine⟨hb,heap_lt hg,λj u hu=>?_⟩
   have hj:j<n*1:=by rw[<-hl];exact(List.getElem?_eq_some_iff.1 hu).1
   rw[<-hx,List.getElem?_take_of_lt hj]at hu
   simp[World.cell?,hg]
   simpa using hu
theorem size_alloc(w:World)(o:Obj):(w.alloc o).heap.size=w.heap.size+1:=by simp
theorem run_append_keep{P:Program}(w:World)(t ty e:TypeId)(i:TypeInfo)(z:Value)(size bytes:Nat)(ht:P.underlying t=some (.slice e))(hi:P.info? e=some i)(hz:i.zero=some z)(hsize:i.size=size)(hby:i.bytes=bytes)(hzs:z.cells.size=size)(hsz:0<size)(v:Value)(n:Nat)(xs:List Value)(hown:w.ownsRow 0 e size v n xs)(a:Addr)(m c:Nat)(news:List Value)(hl:news.length=m*size)(hnews:∀(j:Nat) u,news[j]?=some u->w.cell? (a.add j)=some u)(h1:∀u∈news,u.oneCell'=true)(h63:n+m<=maxLen)(hbytes:(n+m)*bytes<=140737488355328):
 ∃v' w',(Builtin.append_ #[t,t] ty #[v,.slice (some a) m c]).run P w=.ok v' w'/\w'.ownsRow 0 e size v' (n+m) (xs++news)/\w.grownBy w' v.ownBlock∧
  (∀k,v'.ownBlock=some k->v.ownBlock=some k∨w.heap.size<=k)/\w'.ownsRow 0 e size v n xs:=by
 obtain⟨v',w',hr,h2,h3,_⟩:=run_append_own (P:=P) w 0 t ty e i z size bytes ht hi hz hsize hby hzs hsz v n xs hown a m c news hl hnews h1 h63 hbytes (Nat.zero_le _)
 refine⟨v',w',hr,h2,h3,?_⟩
 obtain⟨hxl,⟨rfl,rfl⟩|⟨g,cap,cur,rfl,_,hg,hnc,hcap,hcs,hcx⟩⟩:=hown
 · have hxs:xs=[]:=List.eq_nil_of_length_eq_zero (by simpa using hxl)
   subst hxs
   obtain⟨v2,w2,hr2,k2,_,_⟩:=run_append_own (P:=P) w w.heap.size t ty e i z size bytes ht hi hz hsize hby hzs hsz (.slice none 0 0) 0 [] (World.ownsRow_nil w _ e size) a m c news hl hnews h1 h63 hbytes (Nat.le_refl _)
   rw[hr]at hr2
   simp only[Result.ok.injEq]at hr2
   obtain⟨rfl,rfl⟩:=hr2
   refine⟨λk hk=>Or.inr ?_,World.ownsRow_nil _ 0 e size⟩
   obtain⟨_,⟨h0,_⟩|⟨g',cap',cur',rfl,hb,_⟩⟩:=k2
   · rw[h0]at hk;simp[Value.ownBlock]at hk
   · simp only[Value.ownBlock,Option.some.injEq]at hk;omega
 · by_cases hroom:n+m<=cap
   · have hr2:=run_append_room_cells (P:=P) w t ty e i ht hi g 0 n cap a m c news (by rw[hsize];exact hl) hnews h1 hroom
      (λj hj=>by
        have:0+n*i.size+j<cur.size:=by
         have:=Nat.mul_le_mul_right size hroom
         rw[Nat.add_mul]at this
         rw[hsize]
         omega
        simp[World.cell?,hg]
        simpa using this)
      (λj hj=>by simp[World.frozen?,hg])
     rw[hr]at hr2
     simp only[Result.ok.injEq]at hr2
     refine⟨λk hk=>Or.inl (by rw[hr2.1]at hk;exact hk),hxl,Or.inr ⟨g,cap,?_⟩⟩
     obtain⟨_,⟨h0,_⟩|⟨g',cap',cur',hv',_,e2,e3,e4,e5,e6⟩⟩:=h2
     · rw[hr2.1]at h0;simp at h0
     · rw[hr2.1]at hv'
       simp only[Value.slice.injEq,Option.some.injEq,Addr.mk.injEq]at hv'
       obtain⟨⟨rfl,_⟩,_,rfl⟩:=hv'
       refine⟨cur',rfl,Nat.zero_le _,e2,hnc,hcap,e5,?_⟩
       have e7:=congrArg (List.take (n*size)) e6
       rw[List.take_take,Nat.min_eq_left (Nat.mul_le_mul_right _ (by omega)),List.take_append_of_le_length (by omega)]at e7
       rw[e7]
       exact List.take_of_length_le (by omega)
   · obtain⟨v2,w2,hr2,k2,k3⟩:=run_append_arg_grows (P:=P) w t ty e i z size bytes ht hi hz hsize hby hzs hsz ⟨g,0,none⟩ n cap xs hxl
      (λj u hu=>by
        have hj:j<n*size:=by rw[<-hxl];exact(List.getElem?_eq_some_iff.1 hu).1
        rw[<-hcx,List.getElem?_take_of_lt hj]at hu
        have ea:(⟨g,0,none⟩:Addr).add j=⟨g,j,none⟩:=by unfold Addr.add;split<;>simp_all
        rw[ea]
        simp[World.cell?,hg]
        simpa using hu)
      a m c news hl hnews (by omega) h63 hbytes
     rw[hr]at hr2
     simp only[Result.ok.injEq]at hr2
     obtain⟨rfl,rfl⟩:=hr2
     refine⟨λk hk=>Or.inr ?_,hxl,Or.inr ⟨g,cap,cur,rfl,Nat.zero_le _,by rw[k3.block g (heap_lt hg) (by simp)];exact hg,hnc,hcap,hcs,hcx⟩⟩
     obtain⟨_,⟨h0,_⟩|⟨g',cap',cur',rfl,hb,_⟩⟩:=k2
     · rw[h0]at hk;simp[Value.ownBlock]at hk
     · simp only[Value.ownBlock,Option.some.injEq]at hk;omega
theorem step_append_keep{P:Program}{ops:Array Oper}{o:Oper}{a:Act}{w:World}{K:Act->World->Prop}{Q:Exit->Act->World->Prop}{E:Prop}(hg:o.guard=none)(s x:Operand)(t:TypeId)(hop:o.op=Op.call {callee:=Callee.builtin Builtin.append,args:=#[s,x],argTypes:=#[t,t]})(e:TypeId)(i:TypeInfo)(z:Value)(size bytes:Nat)(ht:P.underlying t=some (.slice e))(hi:P.info? e=some i)(hz:i.zero=some z)(hsize:i.size=size)(hby:i.bytes=bytes)(hzs:z.cells.size=size)(hsz:0<size)(v:Value)(n:Nat)(xs:List Value)(hs:a.eval s=v)(hown:w.ownsRow 0 e size v n xs)(ad:Addr)(m c:Nat)(news:List Value)(hx:a.eval x=.slice (some ad) m c)(hl:news.length=m*size)(hnews:∀(j:Nat) u,news[j]?=some u->w.cell? (ad.add j)=some u)(h1:∀u∈news,u.oneCell'=true)(h63:n+m<=maxLen)(hbytes:(n+m)*bytes<=140737488355328)(hm:0<m)(hK:∀g cap w',w'.ownsRow 0 e size (.slice (some ⟨g,0,none⟩) (n+m) cap) (n+m) (xs++news)->w.grownBy w' v.ownBlock->(∀k,(Value.slice (some ⟨g,0,none⟩) (n+m) cap).ownBlock=some k->v.ownBlock=some k∨w.heap.size<=k)->w'.ownsRow 0 e size v n xs->K (a.put o.dst (.slice (some ⟨g,0,none⟩) (n+m) cap)) w'):
 if Region.wanted o (yielded ops a.tmps)=true then Oper.wp P o a w K Q else E:=by
 have hw:Region.wanted o (yielded ops a.tmps)=true:=by simp[Region.wanted,hg]
 rw[if_pos hw]
 obtain⟨v',w',hr,h2,h3,h4,h5⟩:=run_append_keep (P:=P) w t o.type e i z size bytes ht hi hz hsize hby hzs hsz v n xs hown ad m c news hl hnews h1 h63 hbytes
 obtain⟨g,cap,rfl⟩:=Joins.ownsRow_form h2 (by omega)
 unfold Oper.wp execOp
 simp only[hop,resolve,invoke,builtin,Sem.run_bind,Sem.run_pure,Result.andThen_ok,List.map_toArray,List.map_cons,List.map_nil,hs,hx,hr]
 exact hK g cap w' h2 h3 h4 h5
theorem info_name:(Tryz.prog.info? 96).map (λi=>(i.zero,i.size,i.bytes))=some (some (.agg #[.string ⟨#[]⟩,.int .i64 0,.bool false,.int .i64 0,.int .i64 0]),5,48):=by kernel_rfl
theorem info_do:(Tryz.prog.info? 151).map (λi=>(i.zero,i.size,i.bytes))=some (some .nilIface,1,16):=by kernel_rfl
end
section
namespace Y
def ins(x:Nat):List Nat->List Nat
 |[]=>[x]
 |a::l=>if x<a then x::a::l else a::ins x l
abbrev Srt(l:List Nat):Prop:=l.Pairwise (·< ·)
theorem ins_perm(x:Nat):∀l:List Nat,(ins x l).Perm (x::l)
 |[]=>List.Perm.refl _
 |a::l=>by
  unfold ins
  split
  · exact List.Perm.refl _
  · exact((ins_perm x l).cons a).trans (List.Perm.swap x a l)
theorem ins_mem{x y:Nat}{l:List Nat}:y∈ins x l↔y=x∨y∈l:=by rw[(ins_perm x l).mem_iff,List.mem_cons]
theorem ins_len(x:Nat)(l:List Nat):(ins x l).length=l.length+1:=(ins_perm x l).length_eq
theorem ins_srt{x:Nat}:∀{l:List Nat},Srt l->x∉l->Srt (ins x l)
 |[],_,_=>by simp[ins]
 |a::l,h,hx=>by
  replace h:=List.pairwise_cons.1 h
  simp only[List.mem_cons,not_or]at hx
  unfold ins
  split
  · rename_i c
    refine List.pairwise_cons.2 ⟨λy hy=>?_,List.pairwise_cons.2 h⟩
    rcases List.mem_cons.1 hy with rfl |hy
    · exact c
    · exact Nat.lt_trans c (h.1 y hy)
  · rename_i c
    refine List.pairwise_cons.2 ⟨λy hy=>?_,ins_srt h.2 hx.2⟩
    rcases ins_mem.1 hy with rfl |hy
    · omega
    · exact h.1 y hy
theorem Srt.nodup{l:List Nat}(h:Srt l):l.Nodup:=h.imp (λh=>Nat.ne_of_lt h)
theorem srt_eq:∀{l m:List Nat},Srt l->Srt m->l.Perm m->l=m
 |[],m,_,_,p=>(List.nil_perm.1 p).symm
 |a::l,[],_,_,p=>absurd (List.perm_nil.1 p) (by simp)
 |a::l,b::m,h,k,p=>by
  have h':=List.pairwise_cons.1 h
  have k':=List.pairwise_cons.1 k
  have ha:a∈b::m:=p.mem_iff.1 List.mem_cons_self
  have hb:b∈a::l:=p.mem_iff.2 List.mem_cons_self
  have e:a=b:=by
   rcases List.mem_cons.1 ha with e |e
   · exact e
   · rcases List.mem_cons.1 hb with e' |e'
     · exact e'.symm
     · have:=k'.1 a e;have:=h'.1 b e';omega
  subst e
  rw[srt_eq h'.2 k'.2 (List.Perm.cons_inv p)]
theorem Srt.erase{l:List Nat}(h:Srt l)(x:Nat):Srt (l.erase x):=h.sublist List.erase_sublist
theorem ins_erase{l:List Nat}{x:Nat}(h:Srt l)(hx:x∈l):ins x (l.erase x)=l:=by
 refine srt_eq (ins_srt (h.erase x) (λe=>((Srt.nodup h).mem_erase_iff.1 e).1 rfl)) h ?_
 exact(ins_perm x _).trans (List.perm_cons_erase hx).symm
def ofN(l:List Nat):List Int:=l.map λn:Nat=>(n:Int)
structure HP(h:List Int)(l:List Nat):Prop where
 heap:Heap h h.length
 perm:h.Perm (ofN l)
 srt:Srt l
theorem HP.len{h:List Int}{l:List Nat}(p:HP h l):h.length=l.length:=by rw[p.perm.length_eq];simp[ofN]
theorem hg_mem{h:List Int}{k:Nat}(hk:k<h.length):hg h k∈h:=by
 have:hg h k=h[k]:=by simp[hg,List.getD_eq_getElem?_getD,hk]
 rw[this];exact List.getElem_mem hk
theorem mem_hg{h:List Int}{x:Int}(hx:x∈h):∃k,k<h.length/\hg h k=x:=by
 obtain⟨k,hk,e⟩:=List.mem_iff_getElem.1 hx
 exact⟨k,hk,by simp[hg,List.getD_eq_getElem?_getD,hk,e]⟩
theorem HP.first{h:List Int}{a:Nat}{l:List Nat}(p:HP h (a::l)):hg h 0=a:=by
 have hl:=p.len
 simp only[List.length_cons]at hl
 have m0:=p.perm.mem_iff.1 (hg_mem (h:=h) (k:=0) (by omega))
 unfold ofN at m0
 obtain⟨b,hb,e⟩:=List.mem_map.1 m0
 obtain⟨k,hk,e'⟩:=mem_hg (p.perm.mem_iff.2 (show(a:Int)∈ofN (a::l) by simp[ofN]))
 have mn:=p.heap.min k hk
 have s:=List.pairwise_cons.1 p.srt
 rcases List.mem_cons.1 hb with rfl |hb
 · exact e.symm
 · have:=s.1 b hb
   omega
theorem HP.pop{h:List Int}{a:Nat}{l:List Nat}(p:HP h (a::l)):HP ((popL h).take (h.length-1)) l:=by
 have hl:=p.len
 simp only[List.length_cons]at hl
 have h0:0<h.length:=by omega
 have ht:((popL h).take (h.length-1)).length=h.length-1:=by rw[List.length_take,popL_len];omega
 refine⟨?_,?_,(List.pairwise_cons.1 p.srt).2⟩
 · rw[ht];exact(pop_heap p.heap h0).take
 · have e:(popL h).take (h.length-1)++[(a:Int)]=popL h:=by
    have hlast:=pop_last h0
    rw[p.first]at hlast
    have hlen:=popL_len h
    apply List.ext_getElem?
    intro k
    by_cases c:k<h.length-1
    · rw[List.getElem?_append_left (by rw[ht];exact c),List.getElem?_take_of_lt c]
    · by_cases d:k=h.length-1
      · subst d
        rw[List.getElem?_append_right (by rw[ht];exact Nat.le_refl _),ht,Nat.sub_self]
        have hx:hg (popL h) (h.length-1)=(popL h)[h.length-1]'(by omega):=by simp[hg,List.getD_eq_getElem?_getD,show h.length-1<(popL h).length by omega]
        rw[hx]at hlast
        rw[List.getElem?_eq_getElem (show h.length-1<(popL h).length by omega),hlast]
        rfl
      · rw[List.getElem?_eq_none (by rw[List.length_append,ht];simp;omega),List.getElem?_eq_none (by omega)]
   have q:=(pop_perm h0).trans p.perm
   rw[<-e]at q
   have q2:((a:Int)::(popL h).take (h.length-1)).Perm ((a:Int)::ofN l):=List.perm_append_comm.trans q
   exact List.Perm.cons_inv q2
theorem HP.push{h:List Int}{l:List Nat}(p:HP h l){x:Nat}(hx:x∉l):HP (pushL h x) (ins x l):=by
 refine⟨?_,?_,ins_srt p.srt hx⟩
 · rw[push_len];exact push_heap p.heap _
 · refine(push_perm h x).trans ((p.perm.cons (x:Int)).trans ?_)
   have:=((ins_perm x l).map (λn:Nat=>(n:Int))).symm
   exact this
end Y
end
section
open Go.RowKit
structure Still(w w':World):Prop where
 heap:w'.heap=w.heap
 os:w'.os=w.os
 tape:w'.tape=w.tape
 output:w'.output=w.output
theorem Still.but'{b:Nat}{a w w':World}(s:Still w w')(h:But b a w):But b a w':=
 ⟨s.os.trans h.os,s.tape.trans h.tape,s.output.trans h.output,by rw[s.heap];exact h.size,λk hk hne=>by rw[s.heap];exact h.block k hk hne⟩
namespace Y
structure PoolAt(w:World)(pb g:Nat)(h:List Int)(cap:Nat):Prop where
 head:At w pb 188 [.slice (some ⟨g,0,none⟩) h.length cap]
 row:∃rest,At w g 3 (ints h++rest)/\h.length+rest.length=cap
 ne:pb≠g
 few:h.length<=100000
abbrev PV(pb:Nat):Value:=.iface 127 (.pointer (some ⟨pb,0,none⟩))
theorem PoolAt.cell{w:World}{pb g:Nat}{h:List Int}{cap:Nat}(p:PoolAt w pb g h cap){k:Nat}(hk:k<h.length):w.cell? ⟨g,k,none⟩=some (.int .i64 (hg h k)):=by
 obtain⟨rest,a,_⟩:=p.row
 rw[a.cell,List.getElem?_append_left (by unfold ints;rw[List.length_map];exact hk)]
 unfold ints hg
 rw[List.getElem?_map,List.getD_eq_getElem?_getD,List.getElem?_eq_getElem hk]
 rfl
theorem PoolAt.frozen{w:World}{pb g:Nat}{h:List Int}{cap:Nat}(p:PoolAt w pb g h cap)(k:Nat):w.frozen? ⟨g,k,none⟩=false:=by
 obtain⟨rest,a,_⟩:=p.row
 exact a.frozen k
theorem PoolAt.lt{w:World}{pb g:Nat}{h:List Int}{cap:Nat}(p:PoolAt w pb g h cap):pb<w.heap.size/\g<w.heap.size:=by
 obtain⟨rest,a,_⟩:=p.row
 exact⟨p.head.lt,a.lt⟩
theorem PoolAt.keep{w w':World}{pb g:Nat}{h:List Int}{cap:Nat}(p:PoolAt w pb g h cap)(h1:w'.heap[pb]?=w.heap[pb]?)(h2:w'.heap[g]?=w.heap[g]?):PoolAt w' pb g h cap:=by
 obtain⟨rest,a,b⟩:=p.row
 exact⟨p.head.of_block h1,⟨rest,a.of_block h2,b⟩,p.ne,p.few⟩
theorem len_c(w:World)(a:Option Addr)(n c:Nat):Calls Tryz.prog 188 #[.slice a n c] w λx w'=>x=.returned (.int .i64 (n:Int))/\w'=w:=by
 go_enter Tryz.func188,Tryz.ntmps188
 go_wp2_with fail
 go_ret
 exact⟨rfl,rfl⟩
theorem less_c{w:World}{pb g:Nat}{h:List Int}{cap:Nat}(p:PoolAt w pb g h cap){i j:Nat}(hi:i<h.length)(hj:j<h.length):
 Calls Tryz.prog 268 #[.slice (some ⟨g,0,none⟩) h.length cap,.int .i64 (i:Int),.int .i64 (j:Int)] w λx w'=>x=.returned (.bool (decide (hg h i<hg h j)))/\Still w w':=by
 have c1:=p.cell hi
 have c2:=p.cell hj
 have z1:(i:Int)<(h.length:Int):=by omega
 have z2:(j:Int)<(h.length:Int):=by omega
 go_enter Tryz.func268,Tryz.ntmps268
 go_upto_region 1 with fail
 go_quiet (fail)
 go_wp2_with fail
 go_ret
 exact⟨rfl,⟨rfl,rfl,rfl,rfl⟩⟩
theorem swap_c{w:World}{pb g:Nat}{h:List Int}{cap:Nat}(p:PoolAt w pb g h cap){i j:Nat}(hi:i<h.length)(hj:j<h.length):
 Calls Tryz.prog 271 #[.slice (some ⟨g,0,none⟩) h.length cap,.int .i64 (i:Int),.int .i64 (j:Int)] w λx w'=>x=.returned (.tuple #[])/\PoolAt w' pb g (sw h i j) cap/\But g w w':=by
 have c1:=p.cell hi
 have c2:=p.cell hj
 have f1:=p.frozen i
 have f2:=p.frozen j
 have z1:(i:Int)<(h.length:Int):=by omega
 have z2:(j:Int)<(h.length:Int):=by omega
 obtain⟨rest,a,hc⟩:=p.row
 have a1:=a.set i (.int .i64 (hg h j))
 have c3:(w.setCell ⟨g,i,none⟩ (.int .i64 (hg h j))).cell? ⟨g,j,none⟩=some (.int .i64 (hg h j)):=by
  by_cases e:i=j
  · subst e
    rw[a1.cell,List.getElem?_set_self (by rw[List.length_append];unfold ints;rw[List.length_map];omega)]
  · rw[a1.cell,List.getElem?_set_ne e,<-a.cell]
    exact c2
 have f3:=a1.frozen j
 have HA:=hide a
 have hd:=hide p.head
 have few:=p.few
 have pne:=p.ne
 clear a a1
 go_enter Tryz.func271,Tryz.ntmps271
 go_upto_region 0 with fail
 go_region
 go_wp2_with fail
 go_end0
 have e:ints (sw h i j)++rest=((ints h++rest).set i (.int .i64 (hg h j))).set j (.int .i64 (hg h i)):=by
  unfold sw ints
  rw[List.map_set,List.map_set,List.set_append_left _ _ (by rw[List.length_map];exact hi),List.set_append_left _ _ (by rw[List.length_set,List.length_map];exact hj)]
 have B1:=((But.refl g w).set i (.int .i64 (hg h j))).set j (.int .i64 (hg h i))
 have hp:((w.setCell ⟨g,i,none⟩ (.int .i64 (hg h j))).setCell ⟨g,j,none⟩ (.int .i64 (hg h i))).heap[pb]?=w.heap[pb]?:=(heap_setCell_other _ ⟨g,j,none⟩ pb _ pne).trans (heap_setCell_other _ ⟨g,i,none⟩ pb _ pne)
 have hA:At ((w.setCell ⟨g,i,none⟩ (.int .i64 (hg h j))).setCell ⟨g,j,none⟩ (.int .i64 (hg h i))) pb 188 [.slice (some ⟨g,0,none⟩) (sw h i j).length cap]:=by rw[sw_len];exact hd.out.of_block hp
 have hR:At ((w.setCell ⟨g,i,none⟩ (.int .i64 (hg h j))).setCell ⟨g,j,none⟩ (.int .i64 (hg h i))) g 3 (ints (sw h i j)++rest):=by rw[e];exact(HA.out.set i _).set j _
 exact⟨rfl,⟨hA,⟨rest,hR,by rw[sw_len];exact hc⟩,pne,by rw[sw_len];exact few⟩,⟨B1.os,B1.tape,B1.output,B1.size,B1.block⟩⟩
end Y
end
end Go.Proofs.YtejbgcloblpbfaaGreatDoor
