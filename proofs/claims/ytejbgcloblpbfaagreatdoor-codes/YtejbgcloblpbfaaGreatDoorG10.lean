import Derived.Test.YtejbgcloblpbfaaGreatDoorG09
namespace Go.Proofs.YtejbgcloblpbfaaGreatDoor
section
open Go.RowKit
open K (Nm Ex Do)
theorem w64{n:Int}(h: -9223372036854775808<=n/\n<=9223372036854775807):wrap64 n=n:=by unfold wrap64;omega
theorem V.md_lt(a:Int){s:Int}(h1:1<=s)(h6:s<=6):0<=V.md a s/\V.md a s<s:=by
 rw[V.md_eq a h1 h6]
 exact⟨Int.emod_nonneg a (by omega),Int.emod_lt_of_pos a (by omega)⟩
end
section
namespace K
open R (Tok tk CS cut1 cut2 cut3 cutTo isStop isBr byteAt)
def more(s:ByteArray):Nat->Nat->Int->List Tok
 |0,_,_=>[]
 |n+1,i,f=>(cut3 s i (cut2 s i (cut1 s i ⟨f,[]⟩))).out++more s n (i+1) (cut3 s i (cut2 s i (cut1 s i ⟨f,[]⟩))).f
theorem cut_out(s:ByteArray)(i:Nat)(c:CS):cut3 s i (cut2 s i (cut1 s i c))=⟨(cut3 s i (cut2 s i (cut1 s i ⟨c.f,[]⟩))).f,c.out++(cut3 s i (cut2 s i (cut1 s i ⟨c.f,[]⟩))).out⟩:=by
 obtain⟨f,o⟩:=c
 unfold cut1 cut2 cut3
 by_cases h1:isStop s i=true/\0<=f
 · simp only[h1,and_self,if_true]
   by_cases h3:isBr s i=true<;>simp[h3]
 · simp only[h1,if_false]
   by_cases h2:isStop s i=false/\f<0
   · simp only[h2,and_self,if_true]
     by_cases h3:isBr s i=true<;>simp[h3]
   · simp only[h2,if_false]
     by_cases h3:isBr s i=true<;>simp[h3]
theorem cutTo_more(s:ByteArray)(n:Nat):∀i,(cutTo s (i+n)).out=(cutTo s i).out++more s n i (cutTo s i).f:=by
 induction n with
 |zero=>intro i;simp[more]
 |succ n ih=>
  intro i
  have e:i+(n+1)=(i+1)+n:=by omega
  rw[e,ih (i+1),cutTo,cut_out,more,List.append_assoc]
theorem toks_more(s:ByteArray):R.toks s=more s (s.size+1) 0 (-1)++[⟨⟨#[]⟩,s.size⟩]:=by
 unfold R.toks
 have h:=cutTo_more s (s.size+1) 0
 rw[Nat.zero_add]at h
 rw[h]
 simp[cutTo]
theorem stop_at{s:ByteArray}{i:Nat}(h:i<s.size):isStop s i=(blank s[i]||brak s[i]):=by
 unfold isStop blank brak
 rw[R.byte_get s i h,show(i==s.size)=false from by simp;omega]
 simp[Bool.or_assoc]
theorem br_at{s:ByteArray}{i:Nat}(h:i<s.size):isBr s i=brak s[i]:=by
 unfold isBr brak
 rw[R.byte_get s i h,decide_eq_true h]
 rfl
theorem stop_size(s:ByteArray):isStop s s.size=true:=by unfold isStop;simp
theorem br_size(s:ByteArray):isBr s s.size=false:=by unfold isBr;simp
theorem more_blank{s:ByteArray}{n i:Nat}(h:i<s.size)(hb:blank s[i]=true):more s (n+1) i (-1)=more s n (i+1) (-1):=by
 have hs:isStop s i=true:=by rw[stop_at h,hb];rfl
 have hr:isBr s i=false:=by
  rw[br_at h]
  revert hb
  unfold blank brak
  intro hb
  rw[Bool.or_eq_true]at hb
  rcases hb with e |e<;>(rw[beq_iff_eq]at e;rw[e];decide)
 rw[more]
 simp[cut1,cut2,cut3,hs,hr]
theorem more_brak{s:ByteArray}{n i:Nat}(h:i<s.size)(hb:brak s[i]=true):more s (n+1) i (-1)=⟨s.extract i (i+1),i⟩::more s n (i+1) (-1):=by
 have hs:isStop s i=true:=by rw[stop_at h,hb];simp
 have hr:isBr s i=true:=by rw[br_at h];exact hb
 rw[more]
 simp[cut1,cut2,cut3,hs,hr]
theorem more_end(s:ByteArray)(n:Nat):more s (n+1) s.size (-1)=more s n (s.size+1) (-1):=by
 rw[more]
 simp[cut1,cut2,cut3,stop_size,br_size]
theorem more_word{s:ByteArray}{n i:Nat}(h:i<s.size)(hm:mid s[i]=true):more s (n+1) i (-1)=more s n (i+1) i:=by
 unfold mid at hm
 rw[Bool.and_eq_true,Bool.not_eq_true',Bool.not_eq_true']at hm
 have hs:isStop s i=false:=by rw[stop_at h,hm.1,hm.2];rfl
 have hr:isBr s i=false:=by rw[br_at h];exact hm.2
 rw[more]
 simp[cut1,cut2,cut3,hs,hr]
theorem more_on{s:ByteArray}{n i f:Nat}(h:i<s.size)(hm:mid s[i]=true):more s (n+1) i (f:Int)=more s n (i+1) (f:Int):=by
 unfold mid at hm
 rw[Bool.and_eq_true,Bool.not_eq_true',Bool.not_eq_true']at hm
 have hs:isStop s i=false:=by rw[stop_at h,hm.1,hm.2];rfl
 have hr:isBr s i=false:=by rw[br_at h];exact hm.2
 have hf:¬(f:Int)<0:=by omega
 rw[more]
 simp[cut1,cut2,cut3,hs,hr,hf]
theorem more_shut{s:ByteArray}{n i f:Nat}(hs:isStop s i=true):more s (n+1) i (f:Int)=⟨s.extract f i,f⟩::more s (n+1) i (-1):=by
 rw[more,more]
 by_cases hr:isBr s i=true
 · simp[cut1,cut2,cut3,hs,hr]
 · simp[cut1,cut2,cut3,hs,hr]
end K
end
end Go.Proofs.YtejbgcloblpbfaaGreatDoor
