import Derived.Test.YtejbgcloblpbfaaGreatDoorG09
set_option maxHeartbeats 2000000
set_option maxRecDepth 100000
namespace Go.Proofs.YtejbgcloblpbfaaGreatDoor
open Go.RowKit
open K (Nm Ex Do)
theorem gd_putT(p:Int)(n:Nm)(i e:Ex)(hgi:K.good i=true)(hg:K.good e=true)(hq:K.sec i=true):GdDoes (.put p n i e):=by
 intro B w b g u hid h hd hB
 unfold DoIs at hd
 subst hd
 have a1:=ad_Put_Set
 have a2:=ad_Put_Put
 have hlt:=h.lt
 have hm:=sec_method i hgi
 have hna:=sec_ahead i hgi
 have hen:=sec_enter i hgi
 have hs:=sec_c i hgi
 unfold SecDoes at hs
 have HK:Hid (K.gd hid (.put p n i e) g=K.gx e (K.gx i (K.note p (K.sec i||K.tells n e hid) g))):=by show _=_;rw[K.gd]
 have ht:=λw=>tells_c n e hid hg w
 have hn:=fun(w:World) (h':GAt w b g)=>note_c h' p (K.sec i||K.tells n e hid)
 have hx:=fun(w:World) (h':GAt w b (K.note p (K.sec i||K.tells n e hid) g))=>gx_c i hgi w b _ h'
 have hx2:=fun(w:World) (h':GAt w b (K.gx i (K.note p (K.sec i||K.tells n e hid) g)))=>gx_c e hg w b _ h'
 rw[exV_good hgi]at hx ⊢
 rw[exV_good hg]at hx2 ht ⊢
 unfold nmV at ht
 generalize K.gd hid (.put p n i e) g=G at*
 generalize K.gx e (K.gx i (K.note p (K.sec i||K.tells n e hid) g))=G3 at*
 generalize K.gx i (K.note p (K.sec i||K.tells n e hid) g)=G2 at*
 generalize K.note p (K.sec i||K.tells n e hid) g=g1 at*
 generalize K.tells n e hid=q at*
 generalize K.sec i=qi at*
 generalize exT i=ti at*
 generalize exP i=xi at*
 generalize exM i=mi at*
 generalize exT e=t at*
 generalize exP e=x at*
 obtain⟨x0,x1,x2,x3,x4⟩:=n
 dsimp only at*
 have h0:=h.alloc (.cells #[.int .i64 p,.string x0,.int .i64 x1,.bool x2,.int .i64 x3,.int .i64 x4,.iface ti xi,.iface t x] 181 (0,0))
 have bx:=At.alloc_new w [.int .i64 p,.string x0,.int .i64 x1,.bool x2,.int .i64 x3,.int .i64 x4,.iface ti xi,.iface t x] 181
 have B0:But b w (w.alloc (.cells #[.int .i64 p,.string x0,.int .i64 x1,.bool x2,.int .i64 x3,.int .i64 x4,.iface ti xi,.iface t x] 181 (0,0))):=(But.refl b w).alloc _
 have nq:w.heap.size≠b:=by omega
 subst hq
 rw[Bool.true_or]at hn
 clear ht
 go_enter Tryz.func108,Tryz.ntmps108
 go_upto_region 7 with fail
 refine wp_region_any (by kernel_rfl) ?_
 try (change wpAny _ _ _ _ _ _ _ (World.drew _))
 refine wpAny_take (i:=0) (v:=?v1) rfl (by kernel_rfl) (by kernel_rfl) (by kernel_rfl) (λ_ _ _ h=>h) (Or.inl ⟨by rfl,?h1⟩) ?r1
 case h1=>intro w;first |(go_simp;done)|(go_simp;with_reducible rfl)
 refine wpAny_take (i:=1) (v:=?v2) rfl (by kernel_rfl) (by kernel_rfl) (by kernel_rfl) (λ_ _ _ h=>h) (Or.inl ⟨by rfl,?h2⟩) ?r2
 case h2=>intro w;first |(go_simp;done)|(go_simp;with_reducible rfl)
 refine wpAny_take (i:=3) (v:=?v3) rfl (by kernel_rfl) (by kernel_rfl) (by kernel_rfl) (λ_ _ _ h=>h) (Or.inl ⟨by rfl,?h3⟩) ?r3
 case h3=>intro w;first |(go_simp;done)|(go_simp;with_reducible rfl)
 refine wpAny_ready (rs:=[2,4]) (by kernel_rfl) (by simp) ?_
 refine AllReady.cons rfl (λK hK=>?_) (AllReady.cons rfl (λK hK=>?_) AllReady.nil)
 · go_simp
   refine hK _ _ ?_;clear hK K
   refine wpAny_ready (rs:=[4]) (by kernel_rfl) (by simp) ?_
   refine AllReady.cons rfl (λK hK=>?_) AllReady.nil
   go_simp
   refine hK _ _ ?_;clear hK K
   refine wpAny_ready (rs:=[5]) (by kernel_rfl) (by simp) ?_
   refine AllReady.cons rfl (λK hK=>?_) AllReady.nil
   go_simp
   go_wp2_with (refine(hs _).mono ?_;rintro y w1 ⟨rfl,hb1⟩;have h1:GAt w1 b g:=h0.of_block (hb1.block _ h0.lt);have bx1:At w1 w.heap.size 181 [.int .i64 p,.string x0,.int .i64 x1,.bool x2,.int .i64 x3,.int .i64 x4,.iface ti xi,.iface t x]:=bx.of_block (hb1.block _ bx.lt);have k0:=bx1.cell 0;simp only[List.getElem?_cons_zero]at k0)
   refine wpAny_take (i:=6) (v:=?v4) rfl (by kernel_rfl) (by kernel_rfl) (by kernel_rfl) (λ_ _ _ h=>h) (Or.inl ⟨by rfl,?h4⟩) ?r4
   case h4=>intro w;first |(go_simp;done)|(go_simp;with_reducible rfl)
   refine wpAny_take (i:=7) (v:=undef) rfl (by kernel_rfl) (by kernel_rfl) (by kernel_rfl) (λ_ _ _ h=>h) (Or.inr ⟨by rfl,rfl⟩) ?_
   refine wpAny_take (i:=8) (v:=undef) rfl (by kernel_rfl) (by kernel_rfl) (by kernel_rfl) (λ_ _ _ h=>h) (Or.inr ⟨by rfl,rfl⟩) ?_
   refine wpAny_take (i:=9) (v:=undef) rfl (by kernel_rfl) (by kernel_rfl) (by kernel_rfl) (λ_ _ _ h=>h) (Or.inr ⟨by rfl,rfl⟩) ?_
   refine wpAny_take (i:=10) (v:=undef) rfl (by kernel_rfl) (by kernel_rfl) (by kernel_rfl) (λ_ _ _ h=>h) (Or.inr ⟨by rfl,rfl⟩) ?_
   refine wpAny_take (i:=11) (v:=undef) rfl (by kernel_rfl) (by kernel_rfl) (by kernel_rfl) (λ_ _ _ h=>h) (Or.inr ⟨by rfl,rfl⟩) ?_
   refine wpAny_take (i:=12) (v:=undef) rfl (by kernel_rfl) (by kernel_rfl) (by kernel_rfl) (λ_ _ _ h=>h) (Or.inr ⟨by rfl,rfl⟩) ?_
   refine wpAny_take (i:=13) (v:=?v5) rfl (by kernel_rfl) (by kernel_rfl) (by kernel_rfl) (λ_ _ _ h=>h) (Or.inl ⟨by rfl,?h5⟩) ?r5
   case h5=>intro w;first |(go_simp;done)|(go_simp;with_reducible rfl)
   refine wpAny_ready (rs:=[14]) (by kernel_rfl) (by simp) ?_
   refine AllReady.cons rfl (λK hK=>?_) AllReady.nil
   go_simp
   go_wp2_with (go_at_call 142;refine(hn _ h1).mono ?_;rintro y w2 ⟨rfl,h2,hb2⟩;have bx2:=bx1.of_block (hb2.block _ bx1.lt nq);have k6:=bx2.cell 6;simp only[List.getElem?_cons_zero,List.getElem?_cons_succ]at k6)
   refine wpAny_done (by kernel_rfl) ?_ _
   have B2:=(B0.drew.below hb1).trans hb2
   go_wp2_with fail
   refine(hx _ h2).mono ?_
   rintro y w3 ⟨rfl,h3,hb3⟩
   have bx3:=bx2.of_block (hb3.block _ bx2.lt nq)
   have k7:=bx3.cell 7
   simp only[List.getElem?_cons_zero,List.getElem?_cons_succ]at k7
   go_wp2_with fail
   refine(hx2 _ h3).mono ?_
   rintro y w4 ⟨rfl,h4,hb4⟩
   go_wp2_with fail
   go_end0
   rw[HK.out]
   exact⟨rfl,h4,(B2.trans hb3).trans hb4⟩
 · go_simp
   refine hK _ _ ?_;clear hK K
   refine wpAny_ready (rs:=[2,5]) (by kernel_rfl) (by simp) ?_
   refine AllReady.cons rfl (λK hK=>?_) (AllReady.cons rfl (λK hK=>?_) AllReady.nil)
   · go_simp
     refine hK _ _ ?_;clear hK K
     refine wpAny_ready (rs:=[5]) (by kernel_rfl) (by simp) ?_
     refine AllReady.cons rfl (λK hK=>?_) AllReady.nil
     go_simp
     go_wp2_with (refine(hs _).mono ?_;rintro y w1 ⟨rfl,hb1⟩;have h1:GAt w1 b g:=h0.of_block (hb1.block _ h0.lt);have bx1:At w1 w.heap.size 181 [.int .i64 p,.string x0,.int .i64 x1,.bool x2,.int .i64 x3,.int .i64 x4,.iface ti xi,.iface t x]:=bx.of_block (hb1.block _ bx.lt);have k0:=bx1.cell 0;simp only[List.getElem?_cons_zero]at k0)
     refine wpAny_take (i:=6) (v:=?v6) rfl (by kernel_rfl) (by kernel_rfl) (by kernel_rfl) (λ_ _ _ h=>h) (Or.inl ⟨by rfl,?h6⟩) ?r6
     case h6=>intro w;first |(go_simp;done)|(go_simp;with_reducible rfl)
     refine wpAny_take (i:=7) (v:=undef) rfl (by kernel_rfl) (by kernel_rfl) (by kernel_rfl) (λ_ _ _ h=>h) (Or.inr ⟨by rfl,rfl⟩) ?_
     refine wpAny_take (i:=8) (v:=undef) rfl (by kernel_rfl) (by kernel_rfl) (by kernel_rfl) (λ_ _ _ h=>h) (Or.inr ⟨by rfl,rfl⟩) ?_
     refine wpAny_take (i:=9) (v:=undef) rfl (by kernel_rfl) (by kernel_rfl) (by kernel_rfl) (λ_ _ _ h=>h) (Or.inr ⟨by rfl,rfl⟩) ?_
     refine wpAny_take (i:=10) (v:=undef) rfl (by kernel_rfl) (by kernel_rfl) (by kernel_rfl) (λ_ _ _ h=>h) (Or.inr ⟨by rfl,rfl⟩) ?_
     refine wpAny_take (i:=11) (v:=undef) rfl (by kernel_rfl) (by kernel_rfl) (by kernel_rfl) (λ_ _ _ h=>h) (Or.inr ⟨by rfl,rfl⟩) ?_
     refine wpAny_take (i:=12) (v:=undef) rfl (by kernel_rfl) (by kernel_rfl) (by kernel_rfl) (λ_ _ _ h=>h) (Or.inr ⟨by rfl,rfl⟩) ?_
     refine wpAny_take (i:=13) (v:=?v7) rfl (by kernel_rfl) (by kernel_rfl) (by kernel_rfl) (λ_ _ _ h=>h) (Or.inl ⟨by rfl,?h7⟩) ?r7
     case h7=>intro w;first |(go_simp;done)|(go_simp;with_reducible rfl)
     refine wpAny_ready (rs:=[14]) (by kernel_rfl) (by simp) ?_
     refine AllReady.cons rfl (λK hK=>?_) AllReady.nil
     go_simp
     go_wp2_with (go_at_call 142;refine(hn _ h1).mono ?_;rintro y w2 ⟨rfl,h2,hb2⟩;have bx2:=bx1.of_block (hb2.block _ bx1.lt nq);have k6:=bx2.cell 6;simp only[List.getElem?_cons_zero,List.getElem?_cons_succ]at k6)
     refine wpAny_done (by kernel_rfl) ?_ _
     have B2:=(B0.drew.below hb1).trans hb2
     go_wp2_with fail
     refine(hx _ h2).mono ?_
     rintro y w3 ⟨rfl,h3,hb3⟩
     have bx3:=bx2.of_block (hb3.block _ bx2.lt nq)
     have k7:=bx3.cell 7
     simp only[List.getElem?_cons_zero,List.getElem?_cons_succ]at k7
     go_wp2_with fail
     refine(hx2 _ h3).mono ?_
     rintro y w4 ⟨rfl,h4,hb4⟩
     go_wp2_with fail
     go_end0
     rw[HK.out]
     exact⟨rfl,h4,(B2.trans hb3).trans hb4⟩
   · go_simp
     go_wp2_with (refine(hs _).mono ?_;rintro y w1 ⟨rfl,hb1⟩;have h1:GAt w1 b g:=h0.of_block (hb1.block _ h0.lt);have bx1:At w1 w.heap.size 181 [.int .i64 p,.string x0,.int .i64 x1,.bool x2,.int .i64 x3,.int .i64 x4,.iface ti xi,.iface t x]:=bx.of_block (hb1.block _ bx.lt);have k0:=bx1.cell 0;simp only[List.getElem?_cons_zero]at k0)
     refine wpAny_take (i:=6) (v:=?v8) rfl (by kernel_rfl) (by kernel_rfl) (by kernel_rfl) (λ_ _ _ h=>h) (Or.inl ⟨by rfl,?h8⟩) ?r8
     case h8=>intro w;first |(go_simp;done)|(go_simp;with_reducible rfl)
     refine wpAny_take (i:=7) (v:=undef) rfl (by kernel_rfl) (by kernel_rfl) (by kernel_rfl) (λ_ _ _ h=>h) (Or.inr ⟨by rfl,rfl⟩) ?_
     refine wpAny_take (i:=8) (v:=undef) rfl (by kernel_rfl) (by kernel_rfl) (by kernel_rfl) (λ_ _ _ h=>h) (Or.inr ⟨by rfl,rfl⟩) ?_
     refine wpAny_take (i:=9) (v:=undef) rfl (by kernel_rfl) (by kernel_rfl) (by kernel_rfl) (λ_ _ _ h=>h) (Or.inr ⟨by rfl,rfl⟩) ?_
     refine wpAny_take (i:=10) (v:=undef) rfl (by kernel_rfl) (by kernel_rfl) (by kernel_rfl) (λ_ _ _ h=>h) (Or.inr ⟨by rfl,rfl⟩) ?_
     refine wpAny_take (i:=11) (v:=undef) rfl (by kernel_rfl) (by kernel_rfl) (by kernel_rfl) (λ_ _ _ h=>h) (Or.inr ⟨by rfl,rfl⟩) ?_
     refine wpAny_take (i:=12) (v:=undef) rfl (by kernel_rfl) (by kernel_rfl) (by kernel_rfl) (λ_ _ _ h=>h) (Or.inr ⟨by rfl,rfl⟩) ?_
     refine wpAny_take (i:=13) (v:=?v9) rfl (by kernel_rfl) (by kernel_rfl) (by kernel_rfl) (λ_ _ _ h=>h) (Or.inl ⟨by rfl,?h9⟩) ?r9
     case h9=>intro w;first |(go_simp;done)|(go_simp;with_reducible rfl)
     refine wpAny_ready (rs:=[2]) (by kernel_rfl) (by simp) ?_
     refine AllReady.cons rfl (λK hK=>?_) AllReady.nil
     go_simp
     refine hK _ _ ?_;clear hK K
     refine wpAny_ready (rs:=[14]) (by kernel_rfl) (by simp) ?_
     refine AllReady.cons rfl (λK hK=>?_) AllReady.nil
     go_simp
     go_wp2_with (go_at_call 142;refine(hn _ h1).mono ?_;rintro y w2 ⟨rfl,h2,hb2⟩;have bx2:=bx1.of_block (hb2.block _ bx1.lt nq);have k6:=bx2.cell 6;simp only[List.getElem?_cons_zero,List.getElem?_cons_succ]at k6)
     refine wpAny_done (by kernel_rfl) ?_ _
     have B2:=(B0.drew.below hb1).trans hb2
     go_wp2_with fail
     refine(hx _ h2).mono ?_
     rintro y w3 ⟨rfl,h3,hb3⟩
     have bx3:=bx2.of_block (hb3.block _ bx2.lt nq)
     have k7:=bx3.cell 7
     simp only[List.getElem?_cons_zero,List.getElem?_cons_succ]at k7
     go_wp2_with fail
     refine(hx2 _ h3).mono ?_
     rintro y w4 ⟨rfl,h4,hb4⟩
     go_wp2_with fail
     go_end0
     rw[HK.out]
     exact⟨rfl,h4,(B2.trans hb3).trans hb4⟩
end Go.Proofs.YtejbgcloblpbfaaGreatDoor
