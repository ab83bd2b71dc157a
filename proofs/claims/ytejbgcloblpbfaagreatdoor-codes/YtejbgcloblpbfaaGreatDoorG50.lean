import Derived.Test.YtejbgcloblpbfaaGreatDoorG49
import Derived.Test.YtejbgcloblpbfaaGreatDoorRows
import Derived.Test.YtejbgcloblpbfaaGreatDoorCards
import Derived.Test.YtejbgcloblpbfaaGreatDoorTie
import Derived.ProofKit
import Derived.LaidMore
import Derived.OpenShut
import Derived.Stop.Joined
import Derived.Stop.LaidErr
import Derived.SevenTiedAt
import Derived.ChangeSlices
import Derived.SizedLaws
set_option maxRecDepth 100000
namespace Go.Proofs.YtejbgcloblpbfaaGreatDoor
open Go.ChangeShapes Go.WideShapes Go.ChangeAt Go.WideMaps Go.WideElems Go.RowKit
open Go.ChangeMaps (open_string shut_string)
theorem own:ownKnob Tryz.prog.godebug=none:=by kernel_rfl
theorem gSyn:Tryz.prog.globalNamed "strconv.ErrSyntax"=some 3:=by kernel_rfl
theorem gRan:Tryz.prog.globalNamed "strconv.ErrRange"=some 4:=by kernel_rfl
theorem tSyn:(Tryz.prog.globals[3]?).map (·.type)=some 253:=by kernel_rfl
theorem tRan:(Tryz.prog.globals[4]?).map (·.type)=some 253:=by kernel_rfl
theorem star: "*"++ "errors.errorString"= "*errors.errorString":=by decide
theorem rowErr(u:TypeId)(h:Tryz.prog.typeName? 3 u=some "*errors.errorString"):u=276:=
 typeName_ptr_named (nm:= "errors.errorString") (by rw[star];kernel_rfl) (by kernel_rfl) (by decide) u (by rw[star];exact h)
theorem cellsE:Tryz.prog.cellsOf 278=1:=by kernel_rfl
theorem cellsS:Tryz.prog.cellsOf 9=1:=by kernel_rfl
theorem door_met(os:Os)(args:Array Value):laidMetH Tryz.prog Rows.codesRow.laid ((World.doorLaid Tryz.prog 400 os).forCall (λ_ _=>0) ⟨#[],args,[]⟩).memory:=
 laidMetH_of_parts3 (fuel:=8) (laidMet_of_run' 8 (by kernel_rfl) (by kernel_rfl)) (by kernel_rfl) (by kernel_rfl)
theorem vars_of_laid{W:World}(h:laidMetH Tryz.prog Rows.codesRow.laid W):K.Vars W/\5<=W.heap.size:=by
 rw[MakeChecks.laidMetH_plain _ _ _ (by kernel_rfl)]at h
 have h3:=laidMet.tail (laidMet.tail (laidMet.tail h))
 obtain⟨a1,s1,hv1,_⟩:=laid_sentinel h3 gRan tRan Tryz.underlying253 rowErr Tryz.underlying276 Tryz.underlying278 rfl rfl Tryz.underlying9 cellsE cellsS
 obtain⟨a0,s0,hv0,_⟩:=laid_sentinel (laidMet.tail h3) gSyn tSyn Tryz.underlying253 rowErr Tryz.underlying276 Tryz.underlying278 rfl rfl Tryz.underlying9 cellsE cellsS
 have c1:W.cell? ⟨4,0,none⟩=some (.iface 276 (.pointer (some a1))):=by simpa using World.var?_cell gRan hv1 0
 have c0:W.cell? ⟨3,0,none⟩=some (.iface 276 (.pointer (some a0))):=by simpa using World.var?_cell gSyn hv0 0
 refine⟨⟨⟨_,c0,Or.inr ⟨_,_,rfl⟩⟩,⟨_,c1,Or.inr ⟨_,_,rfl⟩⟩⟩,?_⟩
 refine Nat.lt_of_not_le λhn=>?_
 have hx:W.heap[4]?=none:=Array.getElem?_eq_none (by omega)
 simp[World.cell?,hx]at c1
theorem cellsI:Tryz.prog.cellsOf 3=1:=by kernel_rfl
theorem spot_none{W:World}{base:Nat}{a:Addr}{len cap:Nat}(h:Value.okWide Tryz.prog W .any base 32 (.slice (some a) len cap)):a.spot=none/\a.block<W.heap.size:=by
 simp only[Value.okWide,Tryz.underlying32,Cell.okWide,Cell.ok]at h
 obtain⟨_,_,_,hs,row,cells,hsh,_⟩:=h
 refine⟨hs,Nat.lt_of_not_le λhn=>?_⟩
 have hx:W.heap[a.block]?=none:=Array.getElem?_eq_none hn
 simp[World.shape?,hx]at hsh
theorem open_mem{H:Type}{enc:TypeId×Value->H}{W:World}{base:Nat}{v:Value}{d:DataW H}{p:List MemPlace}(hval:Value.okWide Tryz.prog W .any base 32 v)(h:DataW.Trod enc Tryz.prog W 0 (λ_=>true) true 32 v d p):
 ∃aM cM,∃ms:List Int,v=.slice aM ms.length cM/\Y.IntsAt W aM ms/\∀W',Below W.heap.size W W'->DataW.Trod enc Tryz.prog W' 0 (λb=>decide (b<W.heap.size)) true 32 v d p:=by
 obtain⟨a0,len0,cap0,rfl⟩:=okWide_slice Tryz.underlying32 hval
 obtain⟨fuel,hf⟩:=h
 rcases open_ints Tryz.underlying32 Tryz.underlying3 cellsI hf with⟨hcs,hx⟩|⟨a,len,cap,zs,hcs,_,hl,hm,hlen,hx,hcell,hwf⟩
 · simp[Value.cells]at hcs
   obtain⟨rfl,rfl,rfl⟩:=hcs
   simp only[Prod.mk.injEq]at hx
   obtain⟨rfl,rfl⟩:=hx
   refine⟨none,0,[],rfl,λj u hu=>(by simp at hu),λW' _=>shut_slice_nil Tryz.underlying32⟩
 · simp[Value.cells]at hcs
   obtain⟨rfl,rfl,rfl⟩:=hcs
   simp only[Prod.mk.injEq]at hx
   obtain⟨rfl,rfl⟩:=hx
   simp only[if_true]at hlen
   obtain⟨hsp,hbl⟩:=spot_none hval
   obtain⟨gm,om,sp⟩:=a
   cases hsp
   have hml:(zs.take len0).length=len0:=by rw[List.length_take];omega
   refine⟨some ⟨gm,om,none⟩,cap0,zs.take len0,by rw[hml],λj u hu=>⟨gm,om,rfl,hbl,?_⟩,λW' hb'=>?_⟩
   · have hj:j<len0:=by rw[<-hml];exact(List.getElem?_eq_some_iff.1 hu).1
     have hc:=hcell j (by omega)
     have ea:(⟨gm,om,none⟩:Addr).add j=⟨gm,om+j,none⟩:=by unfold Addr.add;split<;>simp_all
     rw[ea]at hc
     rw[hc]
     rw[List.getElem?_take_of_lt hj]at hu
     rw[List.getD_eq_getElem?_getD,hu]
     rfl
   · have hspb:(λb=>decide (b<W.heap.size)) (⟨gm,om,none⟩:Addr).block=true:=by simpa using hbl
     have t0:=shut_ints (enc:=enc) (w:=W') (base:=0) (spare:=λb=>decide (b<W.heap.size)) (held:=true) (a:=⟨gm,om,none⟩) (len:=len0) (cap:=cap0) (zs:=zs) 0 Tryz.underlying32 Tryz.underlying3 cellsI (Nat.zero_le _) hl hm (by rw[if_pos hspb];exact hlen) (λi hi=>by
      have ea:((⟨gm,om,none⟩:Addr).add i).block=gm:=by unfold Addr.add;split<;>simp_all
      refine(World.cell?_of_block ?_).trans (hcell i hi)
      rw[ea]
      exact hb'.block gm hbl) hwf
     exact⟨2,by simpa[Value.cells]using t0⟩
theorem codes_lifted(os:Os)(started:os.Started)(H:Type)(enc:TypeId×Value->H):
 ReturnsInHanded {} Tryz.checked os 6 .any (λw args=>(Rows.codesSpec.pre enc Tryz.prog Tryz.f6 [] false w args/\laidMetH Tryz.prog Rows.codesRow.laid w)/\sizedMet enc Tryz.prog Tryz.f6 (OpenSpec.ofChange Rows.codesSpec) false w args)
  (Rows.codesSpec.post enc Tryz.prog Tryz.f6 false true false false):=by
 refine returnsInHanded_of_change_and (C:=Tryz.checked) (X:=λw _=>laidMetH Tryz.prog Rows.codesRow.laid w) (λ_ _ _ hh h=>h.of_heap hh) own started (by kernel_rfl) Tryz.func6
  (ChangeSpec.witness_shaped (enc:=enc) (C:=Tryz.checked) (os:=os) (X:=λw _=>laidMetH Tryz.prog Rows.codesRow.laid w) false (World.doorLaid Tryz.prog 400 os) #[.string ⟨#[]⟩,.slice none 0 0] 8 rfl (World.shaped_of_RefB (by kernel_rfl) (by kernel_rfl)) (by kernel_rfl) (by kernel_rfl) (by kernel_rfl) (door_met os _)) ?_
 intro W base args ds gs before hval0 hW _ _ hL _
 have hval:∀(j:Nat) t v,Tryz.f6.params[j]?=some t->args[j]?=some v->Value.okWide Tryz.prog W .any base t v:=hval0
 have hW':=hW
 obtain⟨p,q,hA0,hV,rfl,hfz,hnd⟩:=hW
 have hA:DataW.TrodAll enc Tryz.prog W 0 (λ_=>true) true Tryz.f6.params.toList args.toList ds p:=hA0
 rw[Tryz.params6]at hA hval
 obtain⟨v0,v1,d0,d1,p0,p1,rfl,rfl,rfl,h0,h1⟩:=trodAll_two hA
 obtain⟨rfl,rfl⟩:=trodVars_none hV
 obtain⟨s,rfl,rfl,rfl,hm⟩:=open_string Tryz.underlying9 (hval 0 9 v0 rfl rfl) h0
 obtain⟨aM,cM,ms,rfl,hM,hshut⟩:=open_mem (hval 1 32 v1 rfl rfl) h1
 obtain⟨hv,hw⟩:=vars_of_laid hL
 clear hA0 hval0
 simp only[List.append_nil,List.nil_append]at hW'
 refine(Y.codes_c s W hm hv hw aM cM ms hM).mono λe W' ⟨he,hb⟩=>?_
 subst he
 refine⟨_,rfl,_,_,_,[],[]++p1,[],hW',?_,?_,?_,hb.frame _,λh=>by cases h⟩
 · exact trodAll_mk1 (shut_bool Tryz.underlying4 true)
 · exact trodAll_mk2 (shut_string Tryz.underlying9 hm) (hshut W' hb)
 · rfl
theorem codes_holds:Rows.CodesSaid:=
 OpenClaim.holds_of_wide 6 Tryz.f6 rfl rfl rfl rfl rfl rfl rfl ⟨rfl,rfl,rfl,rfl,rfl⟩ rfl rfl rfl rfl rfl (by kernel_rfl) Tryz.func6 (by kernel_rfl)
  (of_decide_eq_true (by kernel_rfl)) (by unfold Func.isWrapper;first |(rw[if_pos (by decide +kernel)];kernel_rfl)|(rw[if_neg (by decide +kernel)];exact⟨rfl,rfl⟩))
  (λos started H enc _=>codes_lifted os started H enc)
theorem codes_card:Rows.CodesCardSaid:=
 Claim7.holds_tied_plain_at .later [] [.data,.data,.data,.sentinel,.sentinel] true Rows.codesCard.stood.harness true
  codes_holds (λ_ h=>by cases h) (by kernel_rfl) (λ_ h=>by cases h) codes_row_tie rfl ⟨rfl,rfl⟩ (by kernel_rfl) rfl
  (λf fn hf hfn=>by
    obtain rfl:f=6:=Option.some.inj ((show Tryz.prog.funcNamed "mute/mutelaw.Codes"=some 6 by kernel_rfl).symm.trans hf) |>.symm
    obtain rfl:fn=Tryz.f6:=(Option.some.inj (Tryz.func6.symm.trans hfn)).symm
    exact⟨by kernel_rfl,λj t ht=>by
     rw[Tryz.params6]at ht
     have hm:t∈[9,32]:=by simpa using Array.mem_of_getElem? ht
     have hall:([9,32].all λu=> !Tryz.prog.wantsStandIn u)=true:=by kernel_rfl
     exact(show Tryz.prog.wantsStandIn t=false by simpa using List.all_eq_true.1 hall t hm)⟩)
  (by kernel_rfl)
end Go.Proofs.YtejbgcloblpbfaaGreatDoor
