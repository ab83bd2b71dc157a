import Derived.Test.YtejbgcloblpbfaaGreatDoorG02
import Derived.Deep.RegionWith
set_option maxHeartbeats 1000000
namespace Go.Proofs.YtejbgcloblpbfaaGreatDoor
open Go.RowKit
open R (Tok tk)
open K (Nm S Scans)
abbrev PT(b:Nat):Value:=.pointer (some ⟨b,0,none⟩)
def nmCells(n:Nm):List Value:=[.string n.text,.int .i64 n.kind,.bool n.sec,.int .i64 n.size,.int .i64 n.place]
def rcs(s:ByteArray)(t:Tok)(J:S)(v:Value):List Value:=
 [.string s,.string t.s,.int .i64 t.p,v,.int .i64 J.words,.int .i64 J.depth,.int .i64 J.loops,.int .i64 J.err,.int .i64 J.eat]
structure CR(w:World)(b:Nat)(s:ByteArray)(T:List Tok)(J:S)(v:Value):Prop where
 cells:At w b 139 (rcs s (tk T J.i) J v)
 names:w.ownsRow 0 96 5 v J.names.length (J.names.flatMap nmCells)
 lt:J.i<T.length
theorem own_block{w:World}{B:Nat}{e:TypeId}{size:Nat}{v:Value}{n:Nat}{xs:List Value}(h:w.ownsRow B e size v n xs){k:Nat}(hk:v.ownBlock=some k):
 ∃cur,w.heap[k]?=some (.cells cur e (0,0)):=by
 obtain⟨_,h |⟨g,cap,cur,rfl,_,hg,_⟩⟩:=h
 · rw[h.1]at hk;simp[Value.ownBlock]at hk
 · simp[Value.ownBlock]at hk;subst hk;exact⟨cur,hg⟩
theorem blk_lt{w:World}{k:Nat}{o:Obj}(h:w.heap[k]?=some o):k<w.heap.size:=(Array.getElem?_eq_some_iff.1 h).1
theorem CR.ne{w:World}{b:Nat}{s:ByteArray}{T:List Tok}{J:S}{v:Value}(h:CR w b s T J v){k:Nat}(hk:v.ownBlock=some k):k≠b/\k<w.heap.size:=by
 obtain⟨cur,hc⟩:=own_block h.names hk
 refine⟨?_,blk_lt hc⟩
 rintro rfl
 have hb:=h.cells
 unfold At at hb
 rw[hb]at hc
 simp at hc
theorem row_of{w w':World}{B:Nat}{e:TypeId}{size:Nat}{v:Value}{n:Nat}{xs:List Value}(h:w.ownsRow B e size v n xs)(hb:∀k,v.ownBlock=some k->w'.heap[k]?=w.heap[k]?):w'.ownsRow B e size v n xs:=by
 obtain⟨hl,h |⟨g,cap,cur,rfl,h1,h2,h3⟩⟩:=h
 · exact⟨hl,Or.inl h⟩
 · exact⟨hl,Or.inr ⟨g,cap,cur,rfl,h1,by rw[hb g rfl];exact h2,h3⟩⟩
theorem CR.turn{w w':World}{b:Nat}{s:ByteArray}{T:List Tok}{J J':S}{v:Value}(h:CR w b s T J v)(hat:At w' b 139 (rcs s (tk T J'.i) J' v))(hb:But b w w')(e:J'.names=J.names)(hi:J'.i<T.length):CR w' b s T J' v:=by
 refine⟨hat,?_,hi⟩
 rw[e]
 exact row_of h.names λk hk=>hb.block k (h.ne hk).2 (h.ne hk).1
theorem CR.c{w:World}{b:Nat}{s:ByteArray}{T:List Tok}{J:S}{v:Value}(h:CR w b s T J v)(i:Nat)(u:Value)(e:(rcs s (tk T J.i) J v)[i]?=some u):w.cell? ⟨b,i,none⟩=some u:=by
 rw[h.cells.cell,e]
theorem CR.same{w w':World}{b:Nat}{s:ByteArray}{T:List Tok}{J:S}{v:Value}(h:CR w b s T J v)(hs:∀k,k<w.heap.size->w'.heap[k]?=w.heap[k]?):CR w' b s T J v:=
 ⟨h.cells.of_block (hs b h.cells.lt),row_of h.names λk hk=>hs k (h.ne hk).2,h.lt⟩
theorem CR.alloc{w:World}{b:Nat}{s:ByteArray}{T:List Tok}{J:S}{v:Value}(h:CR w b s T J v)(o:Obj):CR (w.alloc o) b s T J v:=h.same λ_ hk=>heap_alloc_old _ _ _ hk
theorem CR.drew{w:World}{b:Nat}{s:ByteArray}{T:List Tok}{J:S}{v:Value}(h:CR w b s T J v):CR w.drew b s T J v:=h.same λ_ _=>rfl
theorem kfail_c{w:World}{b:Nat}{s:ByteArray}{T:List Tok}{J:S}{v:Value}(hS:Scans s T)(h:CR w b s T J v)(e p:Int):
 Calls Tryz.prog 133 #[PT b,.int .i64 e,.int .i64 p] w λx w'=>x=.returned (.tuple #[])/\CR w' b s T (K.fail T e p J) v/\But b w w':=by
 have c0:=h.c 0 _ rfl
 have c1:=h.c 1 _ rfl
 have c2:=h.c 2 _ rfl
 have c7:=h.c 7 _ rfl
 have c8:=h.c 8 _ rfl
 have f1:=h.cells.frozen 1
 have f2:=h.cells.frozen 2
 have f7:=h.cells.frozen 7
 have f8:=h.cells.frozen 8
 have hz:=hS.size
 have HL:=hide hS.last
 have hp:=hS.pos
 by_cases he:J.err=0
 · have he':=beq_yes he
   have HF:Hid (K.fail T e p J={J with err:=e,eat:=p,i:=T.length-1}):=by show _=_;unfold K.fail;rw[if_pos he]
   go_enter Tryz.func133,Tryz.ntmps133
   go_wp2
   go_end0
   rw[HF.out]
   refine⟨rfl,h.turn ?_ (((((But.refl b w).set 7 _).set 8 _).set 1 _).set 2 _) rfl (by show T.length-1<T.length;omega),((((But.refl b w).set 7 _).set 8 _).set 1 _).set 2 _⟩
   show At _ b _ (rcs s (tk T (T.length-1)) _ v)
   rw[HL.out]
   exact(((h.cells.set 7 _).set 8 _).set 1 _).set 2 _
 · have he':=beq_no he
   have HF:Hid (K.fail T e p J={J with i:=T.length-1}):=by show _=_;unfold K.fail;rw[if_neg he]
   go_enter Tryz.func133,Tryz.ntmps133
   go_wp2
   go_end0
   rw[HF.out]
   refine⟨rfl,h.turn ?_ (((But.refl b w).set 1 _).set 2 _) rfl (by show T.length-1<T.length;omega),((But.refl b w).set 1 _).set 2 _⟩
   show At _ b _ (rcs s (tk T (T.length-1)) _ v)
   rw[HL.out]
   exact(h.cells.set 1 _).set 2 _
theorem failHere_c{w:World}{b:Nat}{s:ByteArray}{T:List Tok}{J:S}{v:Value}(hS:Scans s T)(h:CR w b s T J v)(e:Int):
 Calls Tryz.prog 177 #[PT b,.int .i64 e] w λx w'=>x=.returned (.tuple #[])/\CR w' b s T (K.here T e J) v/\But b w w':=by
 have c2:=h.c 2 _ rfl
 have hf:=kfail_c hS h e (tk T J.i).p
 have HK:Hid (K.here T e J=K.fail T e (tk T J.i).p J):=rfl
 generalize K.here T e J=J1 at*
 generalize(tk T J.i).p=tp at*
 go_enter Tryz.func177,Tryz.ntmps177
 go_wp2_with fail
 refine hf.mono ?_
 rintro x w' ⟨rfl,hr,hb⟩
 go_wp2_with fail
 go_end0
 rw[HK.out]
 exact⟨rfl,hr,hb⟩
theorem k64(n:Int)(h: -9223372036854775808<=n/\n<=9223372036854775807):IntKind.i64.wrap n=n:=by
 rw[IntKind.wrap]
 simp[IntKind.signed,IntKind.bits]
 omega
theorem kpeek_w{b:Nat}{s:ByteArray}(ts:ByteArray)(p:Nat)(w:World)(hb:b<w.heap.size)(hz:s.size<=800)(hp:p+ts.size<=s.size)(c0:w.cell? ⟨b,0,none⟩=some (.string s))(c1:w.cell? ⟨b,1,none⟩=some (.string ts))(c2:w.cell? ⟨b,2,none⟩=some (.int .i64 (p:Int)))(t:Tok)(ht:K.scan s (p+ts.size)=t):
 Calls Tryz.prog 103 #[PT b] w λx w'=>x=.returned (.agg #[.string t.s,.int .i64 t.p])/\But b w w'/\(∀k,k<w.heap.size->w'.heap[k]?=w.heap[k]?):=by
 have hsc:=fun(w:World)=>scan_c s (p+ts.size) w hp (by omega)
 rw[ht,Int.natCast_add]at hsc
 clear ht
 have hwr:IntKind.i64.wrap ((p:Int)+(ts.size:Int))=(p:Int)+(ts.size:Int):=k64 _ (by omega)
 obtain⟨s1,p1⟩:=t
 dsimp only at*
 go_enter Tryz.func103,Tryz.ntmps103
 go_wp2_with fail
 go_region_with (go_at_call 72;refine(hsc _).mono ?_;rintro x w' ⟨rfl,rfl⟩)
 all_goals go_wp2_with fail
 all_goals
  exact bodyPost_ret (v:=.agg #[.string s1,.int .i64 p1]) (by simp[results,Tryz.results103,go_sem]) rfl ⟨rfl,(((But.refl b w).alloc _).alloc _).drew,λk hk=>by
   show((w.alloc _).alloc _).heap[k]?=_
   rw[heap_alloc_old _ _ _ (by simp;omega),heap_alloc_old _ _ _ hk]⟩
theorem kpeek_c{w:World}{b:Nat}{s:ByteArray}{T:List Tok}{J:S}{v:Value}(hS:Scans s T)(h:CR w b s T J v):
 Calls Tryz.prog 103 #[PT b] w λx w'=>x=.returned (.agg #[.string (tk T (K.nx T J.i)).s,.int .i64 (tk T (K.nx T J.i)).p])/\CR w' b s T J v/\But b w w':=by
 obtain⟨p,hp,hle,hn⟩:=hS.next J.i h.lt
 refine(kpeek_w (tk T J.i).s p w h.cells.lt hS.size hle (h.c 0 _ rfl) (h.c 1 _ rfl) (by rw[<-hp];exact h.c 2 _ rfl) _ hn).mono ?_
 rintro x w' ⟨rfl,hb,hs⟩
 exact⟨rfl,h.same hs,hb⟩
theorem kstep_c{w:World}{b:Nat}{s:ByteArray}{T:List Tok}{J:S}{v:Value}(hS:Scans s T)(h:CR w b s T J v):
 Calls Tryz.prog 167 #[PT b] w λx w'=>x=.returned (.tuple #[])/\CR w' b s T (K.step T J) v/\But b w w':=by
 have hpk:=kpeek_c hS h
 have hlt:=K.step_lt h.lt
 have HT:Hid (tk T (K.step T J).i=tk T (K.nx T J.i)):=rfl
 generalize tk T (K.nx T J.i)=t at*
 obtain⟨s1,p1⟩:=t
 dsimp only at*
 go_enter Tryz.func167,Tryz.ntmps167
 go_wp2_with fail
 refine hpk.mono ?_
 rintro x w1 ⟨rfl,hr,hb⟩
 have c1:=hr.c 1 _ rfl
 have c2:=hr.c 2 _ rfl
 have f1:=hr.cells.frozen 1
 have f2:=hr.cells.frozen 2
 go_wp2_with fail
 go_end0
 refine⟨rfl,hr.turn ?_ (((But.refl b w1).set 1 _).set 2 _) rfl hlt,(hb.set 1 _).set 2 _⟩
 rw[HT.out]
 exact(hr.cells.set 1 _).set 2 _
theorem ktake_isName{w:World}{b:Nat}{s:ByteArray}{T:List Tok}{J:S}{v:Value}(hS:Scans s T)(h:CR w b s T J v)(fits:ByteArray->Bool)(hf:Calls Tryz.prog 170 #[.string (tk T J.i).s] w λx w'=>x=.returned (.bool (fits (tk T J.i).s))/\w'=w):
 Calls Tryz.prog 140 #[PT b,.func (.func 170) #[] #[]] w λx w'=>x=.returned (.string (tk T J.i).s)/\CR w' b s T (K.take T fits J) v/\But b w w':=by
 have c1:=h.c 1 _ rfl
 have hfh:=failHere_c hS h 2
 have hst:=kstep_c hS h
 unfold K.take
 generalize tk T J.i=t at*
 obtain⟨ts,tp⟩:=t
 dsimp only at*
 cases e:fits ts with
 |true=>
  rw[e]at hf
  rw[if_pos rfl]
  generalize K.step T J=J1 at*
  go_enter Tryz.func140,Tryz.ntmps140
  go_wp2_with fail
  refine hf.mono ?_
  rintro x w1 ⟨rfl,rfl⟩
  go_wp2_with fail
  refine hst.mono ?_
  rintro x w2 ⟨rfl,hr,hb⟩
  go_wp2_with fail
  go_ret
  exact⟨rfl,hr,hb⟩
 |false=>
  rw[e]at hf
  rw[if_neg (by decide)]
  generalize K.here T 2 J=J1 at*
  go_enter Tryz.func140,Tryz.ntmps140
  go_wp2_with fail
  refine hf.mono ?_
  rintro x w1 ⟨rfl,rfl⟩
  go_wp2_with fail
  refine hfh.mono ?_
  rintro x w2 ⟨rfl,hr,hb⟩
  go_wp2_with fail
  go_ret
  exact⟨rfl,hr,hb⟩
theorem ktake_isNumber{w:World}{b:Nat}{s:ByteArray}{T:List Tok}{J:S}{v:Value}(hS:Scans s T)(h:CR w b s T J v)(fits:ByteArray->Bool)(hf:Calls Tryz.prog 219 #[.string (tk T J.i).s] w λx w'=>x=.returned (.bool (fits (tk T J.i).s))/\w'=w):
 Calls Tryz.prog 140 #[PT b,.func (.func 219) #[] #[]] w λx w'=>x=.returned (.string (tk T J.i).s)/\CR w' b s T (K.take T fits J) v/\But b w w':=by
 have c1:=h.c 1 _ rfl
 have hfh:=failHere_c hS h 2
 have hst:=kstep_c hS h
 unfold K.take
 generalize tk T J.i=t at*
 obtain⟨ts,tp⟩:=t
 dsimp only at*
 cases e:fits ts with
 |true=>
  rw[e]at hf
  rw[if_pos rfl]
  generalize K.step T J=J1 at*
  go_enter Tryz.func140,Tryz.ntmps140
  go_wp2_with fail
  refine hf.mono ?_
  rintro x w1 ⟨rfl,rfl⟩
  go_wp2_with fail
  refine hst.mono ?_
  rintro x w2 ⟨rfl,hr,hb⟩
  go_wp2_with fail
  go_ret
  exact⟨rfl,hr,hb⟩
 |false=>
  rw[e]at hf
  rw[if_neg (by decide)]
  generalize K.here T 2 J=J1 at*
  go_enter Tryz.func140,Tryz.ntmps140
  go_wp2_with fail
  refine hf.mono ?_
  rintro x w1 ⟨rfl,rfl⟩
  go_wp2_with fail
  refine hfh.mono ?_
  rintro x w2 ⟨rfl,hr,hb⟩
  go_wp2_with fail
  go_ret
  exact⟨rfl,hr,hb⟩
theorem ktake_isSize{w:World}{b:Nat}{s:ByteArray}{T:List Tok}{J:S}{v:Value}(hS:Scans s T)(h:CR w b s T J v)(fits:ByteArray->Bool)(hf:Calls Tryz.prog 197 #[.string (tk T J.i).s] w λx w'=>x=.returned (.bool (fits (tk T J.i).s))/\w'=w):
 Calls Tryz.prog 140 #[PT b,.func (.func 197) #[] #[]] w λx w'=>x=.returned (.string (tk T J.i).s)/\CR w' b s T (K.take T fits J) v/\But b w w':=by
 have c1:=h.c 1 _ rfl
 have hfh:=failHere_c hS h 2
 have hst:=kstep_c hS h
 unfold K.take
 generalize tk T J.i=t at*
 obtain⟨ts,tp⟩:=t
 dsimp only at*
 cases e:fits ts with
 |true=>
  rw[e]at hf
  rw[if_pos rfl]
  generalize K.step T J=J1 at*
  go_enter Tryz.func140,Tryz.ntmps140
  go_wp2_with fail
  refine hf.mono ?_
  rintro x w1 ⟨rfl,rfl⟩
  go_wp2_with fail
  refine hst.mono ?_
  rintro x w2 ⟨rfl,hr,hb⟩
  go_wp2_with fail
  go_ret
  exact⟨rfl,hr,hb⟩
 |false=>
  rw[e]at hf
  rw[if_neg (by decide)]
  generalize K.here T 2 J=J1 at*
  go_enter Tryz.func140,Tryz.ntmps140
  go_wp2_with fail
  refine hf.mono ?_
  rintro x w1 ⟨rfl,rfl⟩
  go_wp2_with fail
  refine hfh.mono ?_
  rintro x w2 ⟨rfl,hr,hb⟩
  go_wp2_with fail
  go_ret
  exact⟨rfl,hr,hb⟩
theorem ktake_isOp{w:World}{b:Nat}{s:ByteArray}{T:List Tok}{J:S}{v:Value}(hS:Scans s T)(h:CR w b s T J v)(fits:ByteArray->Bool)(hf:Calls Tryz.prog 228 #[.string (tk T J.i).s] w λx w'=>x=.returned (.bool (fits (tk T J.i).s))/\w'=w):
 Calls Tryz.prog 140 #[PT b,.func (.func 228) #[] #[]] w λx w'=>x=.returned (.string (tk T J.i).s)/\CR w' b s T (K.take T fits J) v/\But b w w':=by
 have c1:=h.c 1 _ rfl
 have hfh:=failHere_c hS h 2
 have hst:=kstep_c hS h
 unfold K.take
 generalize tk T J.i=t at*
 obtain⟨ts,tp⟩:=t
 dsimp only at*
 cases e:fits ts with
 |true=>
  rw[e]at hf
  rw[if_pos rfl]
  generalize K.step T J=J1 at*
  go_enter Tryz.func140,Tryz.ntmps140
  go_wp2_with fail
  refine hf.mono ?_
  rintro x w1 ⟨rfl,rfl⟩
  go_wp2_with fail
  refine hst.mono ?_
  rintro x w2 ⟨rfl,hr,hb⟩
  go_wp2_with fail
  go_ret
  exact⟨rfl,hr,hb⟩
 |false=>
  rw[e]at hf
  rw[if_neg (by decide)]
  generalize K.here T 2 J=J1 at*
  go_enter Tryz.func140,Tryz.ntmps140
  go_wp2_with fail
  refine hf.mono ?_
  rintro x w1 ⟨rfl,rfl⟩
  go_wp2_with fail
  refine hfh.mono ?_
  rintro x w2 ⟨rfl,hr,hb⟩
  go_wp2_with fail
  go_ret
  exact⟨rfl,hr,hb⟩
theorem ktake_secrecy{w:World}{b:Nat}{s:ByteArray}{T:List Tok}{J:S}{v:Value}(hS:Scans s T)(h:CR w b s T J v)(fits:ByteArray->Bool)(hf:Calls Tryz.prog 169 #[.string (tk T J.i).s] w λx w'=>x=.returned (.bool (fits (tk T J.i).s))/\w'=w):
 Calls Tryz.prog 140 #[PT b,.func (.func 169) #[] #[]] w λx w'=>x=.returned (.string (tk T J.i).s)/\CR w' b s T (K.take T fits J) v/\But b w w':=by
 have c1:=h.c 1 _ rfl
 have hfh:=failHere_c hS h 2
 have hst:=kstep_c hS h
 unfold K.take
 generalize tk T J.i=t at*
 obtain⟨ts,tp⟩:=t
 dsimp only at*
 cases e:fits ts with
 |true=>
  rw[e]at hf
  rw[if_pos rfl]
  generalize K.step T J=J1 at*
  go_enter Tryz.func140,Tryz.ntmps140
  go_wp2_with fail
  refine hf.mono ?_
  rintro x w1 ⟨rfl,rfl⟩
  go_wp2_with fail
  refine hst.mono ?_
  rintro x w2 ⟨rfl,hr,hb⟩
  go_wp2_with fail
  go_ret
  exact⟨rfl,hr,hb⟩
 |false=>
  rw[e]at hf
  rw[if_neg (by decide)]
  generalize K.here T 2 J=J1 at*
  go_enter Tryz.func140,Tryz.ntmps140
  go_wp2_with fail
  refine hf.mono ?_
  rintro x w1 ⟨rfl,rfl⟩
  go_wp2_with fail
  refine hfh.mono ?_
  rintro x w2 ⟨rfl,hr,hb⟩
  go_wp2_with fail
  go_ret
  exact⟨rfl,hr,hb⟩
theorem ktake_expect{w:World}{b:Nat}{s:ByteArray}{T:List Tok}{J:S}{v:Value}(hS:Scans s T)(h:CR w b s T J v)(fits:ByteArray->Bool)(c:Value)(hf:Calls Tryz.prog 141 #[.string (tk T J.i).s,c] w λx w'=>x=.returned (.bool (fits (tk T J.i).s))/\w'=w):
 Calls Tryz.prog 140 #[PT b,.func (.func 141) #[] #[c]] w λx w'=>x=.returned (.string (tk T J.i).s)/\CR w' b s T (K.take T fits J) v/\But b w w':=by
 have c1:=h.c 1 _ rfl
 have hfh:=failHere_c hS h 2
 have hst:=kstep_c hS h
 unfold K.take
 generalize tk T J.i=t at*
 obtain⟨ts,tp⟩:=t
 dsimp only at*
 cases e:fits ts with
 |true=>
  rw[e]at hf
  rw[if_pos rfl]
  generalize K.step T J=J1 at*
  go_enter Tryz.func140,Tryz.ntmps140
  go_wp2_with fail
  refine hf.mono ?_
  rintro x w1 ⟨rfl,rfl⟩
  go_wp2_with fail
  refine hst.mono ?_
  rintro x w2 ⟨rfl,hr,hb⟩
  go_wp2_with fail
  go_ret
  exact⟨rfl,hr,hb⟩
 |false=>
  rw[e]at hf
  rw[if_neg (by decide)]
  generalize K.here T 2 J=J1 at*
  go_enter Tryz.func140,Tryz.ntmps140
  go_wp2_with fail
  refine hf.mono ?_
  rintro x w1 ⟨rfl,rfl⟩
  go_wp2_with fail
  refine hfh.mono ?_
  rintro x w2 ⟨rfl,hr,hb⟩
  go_wp2_with fail
  go_ret
  exact⟨rfl,hr,hb⟩
end Go.Proofs.YtejbgcloblpbfaaGreatDoor
