import Derived.Test.YtcnoemjeijjnjaaGreatPart25
set_option linter.unusedVariables false
namespace Go.Proofs.YtcnoemjeijjnjaaGreat.downsTwo
open Go.RowKit Go.Deep Go.Shelf Go base copy downsSpec verHold noRts repOne countImpl rangeAt rangeTwo picksTwo prodB
open rofRun (Mk markD leaves_marks Ch)
attribute [local go_sem] Oper.semAt_some
def TV (lk vb : Nat) (q : Nat) (t : TypeId) : Prop := (t=84∧q=lk)∨t=79∨(t=37∧q=vb)
theorem nv {lk vb q:Nat} {t:TypeId} (h1:t≠84) (h2:t≠79) (h3:t≠37):¬TV lk vb q t:=fun h=>h.elim (fun h=>h1 h.1) (fun h=>h.elim h2 (fun h=>h3 h.1))
def fewL (L s : Nat) : List (List Bool) := (prod (fun _=>[false,true]) L).filter fun d=>cntT d==s
def downsP (L k : Nat) : List (List Bool) := (List.range k).flatMap (fewL L)
theorem downsP_succ (L k:Nat):downsP L (k+1)=downsP L k++fewL L k:=by simp[downsP,List.range_succ]
theorem downsP_le (L:Nat) {s k:Nat} (h:s≤k):∃r,downsP L k=downsP L s++r:=by
 induction k with
 | zero=>exact⟨[],by rw[show s=0 by omega];simp⟩
 | succ k ih =>
  by_cases e:s=k+1
  · exact⟨[],by rw[e];simp⟩
  · obtain⟨r,hr⟩:=ih Om;exact⟨r++fewL L k,by rw[downsP_succ,hr,List.append_assoc]⟩
def AtD (L k : Nat) (pre : List (Nat × List Bool)) (x : Nat × List Bool) (W : World) : Prop := (x.2.length=L∧W.rowIs x.1 4 L (fun i=>.bool (bAt x.2 i)))∧∃suf,downsP L (k+1)=pre.map (·.2)++x.2::suf
structure Bd (yb kb lb lY L k N : Nat) (Ds : List Nat) (A : World) : Prop where
 y:Boxed A yb 193 (.func (.yield lY) #[] #[])
 k:Boxed A kb 3 (.int .i64 (k:Int))
 l:Boxed A lb 3 (.int .i64 (L:Int))
 m:Mk N Ds A
variable {yb kb lb lY L k N : Nat} {Ds : List Nat} {A A' : World} {X : Nat→Prop}
theorem mk_df (h:Mk N Ds A) (hd:Df X A A') (hx:∀q,X q→q ∉ Ds):Mk N Ds A' := h.ch (X:=X) ⟨hd.os,hd.tape,hd.output,hd.size,hd.blk⟩ (fun D hD hq=>hx D hq hD)
theorem mk_kp {b:Nat} {T:Nat→TypeId→Prop} (h:Mk N Ds A) (hd:KpV b T N A A'):Mk N Ds A' :=
 ⟨h.one,fun D hD=>⟨(h.at_ D hD).1,(hd.blk D (h.lt hD) (.inl (h.at_ D hD).1) (fun cs t fr h9=>by rw[(h.at_ D hD).2]at h9;cases h9)).trans (h.at_ D hD).2⟩⟩
theorem Bd.df (h:Bd yb kb lb lY L k N Ds A) (hd:Df X A A') (hx:∀q,X q→q≠yb∧q≠kb∧q≠lb∧q ∉ Ds):Bd yb kb lb lY L k N Ds A' :=
 ⟨hd.keeps h.y (fun hq=>(hx _ hq).1 rfl),hd.keeps h.k (fun hq=>(hx _ hq).2.1 rfl),hd.keeps h.l (fun hq=>(hx _ hq).2.2.1 rfl),mk_df h.m hd (fun q hq=>(hx q hq).2.2.2)⟩
theorem Bd.kp {b lk vb:Nat} (h:Bd yb kb lb lY L k N Ds A) (hd:KpV b (TV lk vb) N A A'):Bd yb kb lb lY L k N Ds A' :=
 ⟨hd.keep h.y (nv (by decide) (by decide) (by decide)),hd.keep h.k (nv (by decide) (by decide) (by decide)),hd.keep h.l (nv (by decide) (by decide) (by decide)),mk_kp h.m hd⟩
set_option maxRecDepth 100000 in
set_option maxHeartbeats 6400000 in
theorem downs_two (b lk vb kb lb L k:Nat) (hL:L≤6) (hk:k≤2) :
  SeqTwo Tryz.prog 121 #[.pointer (some ⟨kb,0,none⟩),.pointer (some ⟨lb,0,none⟩)] (fun x:Nat × List Bool=>#[.slice (some ⟨x.1,0,none⟩) L L]) (AtD L k) (KpV b (TV lk vb)) (fun _=>False) (fun xs=>xs.map (·.2)=downsP L (k+1)) (fun W=>Boxed W kb 3 (.int .i64 (k:Int))∧Boxed W lb 3 (.int .i64 (L:Int))) (fun _=>True):=by
 rintro lY J Jx W ⟨hk0,hl0⟩ hJ hJx hY h0;obtain⟨W0,hW0⟩:∃W0,W.alloc (.cells #[.func (.yield lY) #[] #[]] 193)=W0:=⟨_,rfl⟩
 have HBd0:Hid (Bd W.heap.size kb lb lY L k W.heap.size [] W0):=hid (by
  rw[←hW0]
  exact⟨Boxed.new _ _ _,hk0.alloc _,hl0.alloc _,Mk.nil _ _⟩)
 have HJ0:Hid (J [] W0):=hid (hJ _ _ _ (by rw[←hW0];exact(Df.alloc _ _).mono (fun _ _ h=>h.elim)) h0);have q1:W0.cell? ⟨kb,0,none⟩=some (.int .i64 (k:Int)):=HBd0.out.k.cell;have HJ:=hid hJ;have HJx:=hid hJx;have HY:=hid hY;have HW0:=hid hW0;rw[←hW0]at q1;clear hk0 hl0 hJ hJx hY h0 hW0;refine callsIn_of_wp_marks Tryz.func121 rfl trivial ?_ rfl;simp only[Tryz.ntmps121,List.size_toArray,List.length_cons,List.length_nil,Nat.reduceAdd,Nat.reduceSub,Array.replicate_succ,Array.replicate_zero,List.push_toArray,List.append_toArray,List.nil_append,List.cons_append];gi_wp2;rw[HW0.out];clear q1;refine wpIn_loop (fun a' A=>∃(s:Nat) (Ds:List Nat) (acc:List (Nat × List Bool)) (u4 u9 u10 u11 u12 u13 u14 u15 u27:Value),a' = ⟨#[.func (.yield lY) #[] #[],.pointer (some ⟨kb,0,none⟩),.pointer (some ⟨lb,0,none⟩),.pointer (some ⟨W.heap.size,0,none⟩),u4,undef,.int .i64 (k:Int),.int .i64 ((k:Int)+1),.int .i64 (s:Int),u9,u10,u11,u12,u13,u14,u15,undef,undef,undef,undef,undef,undef,undef,undef,undef,undef,undef,u27],Ds.map markD⟩∧s≤k+1∧acc.map (·.2)=downsP L s∧J acc A∧Bd W.heap.size kb lb lY L k W.heap.size Ds A) (fun a' _=>k+1 - (intOf (a'.tmps.getD 8 undef)).toNat) ?start ?round
 case start=>exact⟨0,[],[],_,_,_,_,_,_,_,_,_,rfl,Nat.zero_le _,rfl,HJ0.out,HBd0.out⟩
 case round =>
  rintro a' A ⟨s,Ds,acc,u4,u9,u10,u11,u12,u13,u14,u15,u27,rfl,hs,hacc,hj,hbd⟩;have HAcc:=hid hacc;have HJa:=hid hj;have HBd:=hid hbd;clear hacc hj hbd HJ0 HBd0;by_cases hlt:s<k+1
  · have dlt:decide ((s:Int)<(k:Int)+1)=true:=decide_eq_true Om;obtain⟨A3,hA3⟩:∃A3,((A.alloc (.cells #[.int .i64 (s:Int)] 3)).alloc (.cells #[.bool false,.bool true] 4)).alloc (.cells #[.slice (some ⟨A.heap.size+1,0,none⟩) 2 2] 35)=A3:=⟨_,rfl⟩;have hb3:Below A.heap.size A A3:=by rw[←hA3];exact Bl
    have q2:A3.cell? ⟨lb,0,none⟩=some (.int .i64 (L:Int)):=by rw[←hA3];exact(((HBd.out.l.alloc _).alloc _).alloc _).cell
    have HC3:Hid (Boxed A3 A.heap.size 3 (.int .i64 (s:Int))):=hid (by rw[←hA3];exact((Boxed.new _ _ _).alloc _).alloc _)
    have HY3:Hid (A3.heap[A.heap.size+1]? = some (.cells #[.bool false,.bool true] 4 (0,0))):=hid (by
     rw[←hA3,Below.heap_alloc _ _ _ (by simp)];have:=World.alloc_heap_new (A.alloc (.cells #[.int .i64 (s:Int)] 3)) (.cells #[.bool false,.bool true] 4)
     rwa [World.size_alloc]at this)
    have HRep:=hid (repeat_bool L hL (A.heap.size+1+1) (some ⟨A.heap.size+1,0,none⟩) 2 2 A3 (by rw[←hA3];simp[go_sem]));have HB3:=hid hb3;have HA3:=hid hA3;rw[←hA3]at q2;clear hb3 hA3;gi_wp2;rw[HA3.out];clear q2;refine⟨trivial,(callsIn_wide.2 HRep.out).mono ?_⟩;rintro e4 A4 ⟨RB,rfl,hRB,hr4,hb4⟩;have HBx:Hid (Boxed (A4.alloc (.cells #[.slice (some ⟨RB,0,none⟩) L L] 133)) A4.heap.size 133 (.slice (some ⟨RB,0,none⟩) L L)):=hid (Boxed.new _ _ _);have HRd:Hid (pickB.RowsD A.heap.size (A4.alloc (.cells #[.slice (some ⟨RB,0,none⟩) L L] 133)).heap.size RB L (fun _=>.slice (some ⟨A.heap.size+1,0,none⟩) 2 2) (fun _=>[false,true]) (A4.alloc (.cells #[.slice (some ⟨RB,0,none⟩) L L] 133))):=hid (rows_bool HY3.out (hr4.of_block (Below.heap_alloc _ _ _ hr4.lt)) (hb4.alloc hb4.size _) Om);have HB5:Hid (Below A.heap.size A (A4.alloc (.cells #[.slice (some ⟨RB,0,none⟩) L L] 133))):=hid ((HB3.out.trans (hb4.mono HB3.out.size)).alloc (Nat.le_trans HB3.out.size hb4.size) _);have HC5:Hid (Boxed (A4.alloc (.cells #[.slice (some ⟨RB,0,none⟩) L L] 133)) A.heap.size 3 (.int .i64 (s:Int))):=hid (Boxed.alloc ((hb4.block _ HC3.out.lt).trans HC3.out) _);clear hr4 hb4 hRB HRep HA3 HY3 HC3;gi_wp2;refine⟨trivial,(callsIn_wide.2 (picksB.picks_impl _ _ _ _)).mono ?_⟩;rintro e5 A5 ⟨rfl,hA5⟩;rw[←hA5]at HBx HRd HB5 HC5;obtain⟨Bx,hBx⟩:∃Bx,A4.heap.size=Bx:=⟨_,rfl⟩;obtain⟨cb,hcb⟩:∃cb,A.heap.size=cb:=⟨_,rfl⟩;rw[hBx]at HBx ⊢;have hz5:cb<A5.heap.size:=by rw[←hcb];exact HC5.out.lt
    have HBd5:Hid (Bd W.heap.size kb lb lY L k W.heap.size Ds A5):=hid (HBd.out.df (Df.of_below HB5.out) (fun q hq=>hq.elim));have HJ5:Hid (J acc A5):=hid (HJ.out _ _ _ ((Df.of_below HB5.out).mono (fun q _ hq=>hq.elim)) HJa.out);rw[hcb]at HC5 HRd ⊢;have hWc:W.heap.size<cb:=by rw[←hcb];exact HBd.out.y.lt
    have hkc:kb<cb∧lb<cb:=by rw[←hcb];exact⟨HBd.out.k.lt,HBd.out.l.lt⟩
    clear hA5 hBx hcb HB3 HB5 HJa HBd;gi_wp2
    refine range_out (picks_twoB (A5.heap.size+1+1) cb A5.heap.size RB Bx L (fun _=>.slice (some ⟨cb+1,0,none⟩) 2 2) (fun _=>[false,true]) Om (KpV b (TV lk vb)) (KpV.bool (fun _=>(nv (by decide) (by decide) (by decide))) (fun _=>(nv (by decide) (by decide) (by decide))) (fun _=>(nv (by decide) (by decide) (by decide))))) rfl (enters_of Tryz.func146 Kr rfl) (fun q hq=>hq.elim) (fun r=>?hstart) KpV.trans (fun W' ob ob' h hc=>KpV.put ob' h hc Om) (fun _=>rfl)
     (fun pre A=>J (acc++pre.filter fun x=>cntT x.2==s) A∧Bd W.heap.size kb lb lY L k W.heap.size Ds A∧Boxed A cb 3 (.int .i64 (s:Int))) (fun c A=>c=.ret∧Jx A∧Mk W.heap.size Ds A) ?hI ?hIx ?hAt (fun _ _ _ _ _=>trivial) ⟨by simpa using HJ5.out,HBd5.out,HC5.out⟩ (fun x a' _=>a' = ⟨#[.func (.yield lY) #[] #[],.pointer (some ⟨kb,0,none⟩),.pointer (some ⟨lb,0,none⟩),.pointer (some ⟨W.heap.size,0,none⟩),.pointer (some ⟨cb,0,none⟩),.slice (some ⟨x.1,0,none⟩) L L,.int .i64 (k:Int),.int .i64 ((k:Int)+1),.int .i64 (s:Int),.bool true,.int .i64 (s:Int),.slice (some ⟨cb+1,0,none⟩) 2 2,.slice (some ⟨cb+1+1,0,none⟩) 1 1,.int .i64 (L:Int),.slice (some ⟨RB,0,none⟩) L L,.func (.func 146) #[] #[.pointer (some ⟨Bx,0,none⟩)],.slice (some ⟨x.1,0,none⟩) L L,undef,undef,undef,undef,undef,undef,undef,undef,undef,undef,u27],[]⟩) (fun _ _ _ _ _ h=>h) (fun _ _ h=>KpV.df h) ?hassign ?hbody ?hdone ?hstop
    case hstart =>
     have hb:Below A5.heap.size A5 ((A5.alloc (.deferred (some []))).alloc (.loop r)):=Bl;exact⟨HRd.out.kept (picksB.kp_below hb),(hb.block _ HBx.out.lt).trans HBx.out,hb.size,by simp⟩
    case hI =>
     rintro pre A B hd ⟨h1,h2,h3⟩;refine⟨HJ.out _ _ _ (hd.mono fun q _ h=>h.elim .inl fun h=>.inr ⟨by omega,h.2⟩) h1,h2.df hd (fun q hq=>?_),hd.keeps h3 (fun hq=>hq.elim id fun hq=>by omega)⟩;have hq:A5.heap.size≤q:=hq.elim (fun h=>h.elim) (fun h=>h.1);exact⟨by omega,by omega,by omega,fun hD=>by have:=HBd5.out.m.lt hD;omega⟩
    case hIx =>
     rintro c A B hd ⟨h1,h2,h3⟩;refine⟨h1,HJx.out _ _ (hd.mono fun q _ h=>h.elim .inl fun h=>.inr ⟨by omega,h.2⟩) h2,mk_df h3 hd (fun q hq hD=>?_)⟩;have hq:A5.heap.size≤q:=hq.elim (fun h=>h.elim) (fun h=>h.1);have:=HBd5.out.m.lt hD;omega
    case hAt =>
     rintro pre x A B - hd ⟨⟨h1,h2,h3,h4⟩,h5⟩;exact⟨⟨h1,h2,h3,h4.of_block (hd.blk _ h4.lt Om)⟩,h5⟩
    case hassign =>
     intro x W' K _ hK;gi_wp2;exact hK _ _ (Df.refl _ _) rfl
    case hdone =>
     rintro xs A' ⟨LB,rfl⟩ ⟨h1,h2,h3⟩ - hD
     have HAc:Hid ((acc++((prod (fun _=>[false,true]) L).map fun c=>(LB,c)).filter fun x=>cntT x.2==s).map (·.2)=downsP L (s+1)):=hid (by
      rw[List.map_append,HAcc.out,downsP_succ,List.filter_map,List.map_map]
      congr 1
      unfold fewL
      exact List.map_id _)
     have HJe:=hid h1;have HMe:Hid (Bd W.heap.size kb lb lY L k W.heap.size (A5.heap.size::Ds) A'):=hid ⟨h2.y,h2.k,h2.l,h2.m.cons hD Om (fun D hD=>HBd5.out.m.lt hD)⟩;clear h1 h2 h3 hD;gi_wp2;refine⟨⟨s+1,A5.heap.size::Ds,_,_,_,_,_,_,_,_,_,_,rfl,hlt,HAc.out,HJe.out,HMe.out⟩,?_⟩;simp[intOf];omega
    case hstop =>
     rintro c A' ⟨rfl,h1,h2⟩ hD;have HJe:=hid h1;have HMe:Hid (Mk W.heap.size (A5.heap.size::Ds) A'):=hid (h2.cons hD Om (fun D hD=>HBd5.out.m.lt hD));clear h1 h2 hD;gi_wp2;refine leaves_marks (A5.heap.size::Ds) A' HMe.out (fun W'' hc=>⟨_,results_none rfl _ _ _,⟨_,rfl⟩,.inr (HJx.out _ _ ⟨hc.os,hc.tape,hc.output,hc.size,fun q hq hx=>hc.blk q hq (fun hm=>hx (.inr ⟨(HMe.out.at_ _ hm).1,noc_of (HMe.out.at_ _ hm).2 rfl⟩))⟩ HJe.out)⟩)
    case hbody =>
     rintro pre ⟨LB,cv⟩ a9 A9 ⟨h1,h2,h3⟩ ⟨⟨hLB,hlen,hin,hrow⟩,suf,hsuf⟩ rfl hD ⟨r9,hr9⟩;dsimp only at hLB hlen hin hrow hsuf;have HJ9:=hid h1;have HB9:=hid h2;have CC:Hid (A9.cell? ⟨cb,0,none⟩=some (.int .i64 (s:Int))):=hid h3.cell;have CY:Hid (A9.cell? ⟨W.heap.size,0,none⟩=some (.func (.yield lY) #[] #[])):=hid h2.y.cell;have HC9:=hid h3;have HD9:=hid hD;have HR9:=hid hr9;have HRow:=hid hrow;have HLen:=hid hlen;have HSuf:=hid hsuf;have hbr:BoolRow A9 (some ⟨LB,0,none⟩) L cv:=⟨hlen,by unfold maxLen;omega,fun i hi'=>⟨LB,0,rfl,by simpa[bAt] using hrow.cell hi'⟩⟩;have HCt:Hid (∀w8:World,Below A9.heap.size A9 w8→Calls Tryz.prog 30 #[.slice (some ⟨LB,0,none⟩) L L] w8 fun e w'=>e=.returned (.int .i64 (cntT cv:Nat))∧w' = w8):=hid (fun w8 hb=>count_impl _ L L cv w8 (hbr.below hb) hL);obtain⟨C,hCs⟩:∃C,cntT cv=C:=⟨_,rfl⟩;clear h1 h2 h3 hD hr9 hrow hlen hsuf hbr hin;by_cases hC:C=s
     · rw[hC]at hCs;obtain⟨PQ,hPQ⟩:∃PQ:Bool→World→Prop,PQ=fun bo w8=>KpV b (TV lk vb) W.heap.size A9 w8∧(bo=true→J (acc++(pre++[(LB,cv)]).filter fun x=>cntT x.2==s) w8)∧(bo=false→Jx w8):=⟨_,rfl⟩;have HPQ:=hid hPQ
       have HYd:Hid (∀w8,Below A9.heap.size A9 w8→YieldAt Fence.wide 9 Tryz.prog lY #[.slice (some ⟨LB,0,none⟩) L L] w8 fun e W'=>∃bo:Bool,e=.returned (.bool bo)∧PQ bo W'):=hid (fun w8 hb=>by
        have hsf:∃suf,downsP L (k+1)=(acc++pre.filter fun x=>cntT x.2==s).map (·.2)++cv::suf:=by
         obtain⟨r1,hr1⟩:=downsP_le L (show s+1≤k+1 by omega);rw[hr1,downsP_succ,List.map_append,HAcc.out];unfold fewL;rw[HSuf.out,List.filter_append,List.filter_cons,hCs,List.filter_map];simp only[beq_self_eq_true,if_true];exact⟨(suf.filter fun d=>cntT d==s)++r1,by simp only[List.append_assoc,List.cons_append,Function.comp_def]⟩
        obtain⟨fn,tmps,assign,body,hy,hr⟩:=HY.out (acc++pre.filter fun x=>cntT x.2==s) (LB,cv) w8 (HJ.out _ _ _ ((Df.of_below hb).mono fun q _ h=>h.elim) HJ9.out) ⟨⟨HLen.out,HRow.out.of_block (hb.block _ HRow.out.lt)⟩,hsf⟩;refine⟨fn,tmps,assign,body,hy,hr.mono fun e W' h=>?_⟩;have hkb:KpV b (TV lk vb) W.heap.size A9 w8:=KpV.below hb;rw[HPQ.out];rcases h with ⟨he,hj,hkp⟩|⟨he,hj,hkp⟩
        · exact⟨true,he,hkb.trans hkp,fun _=>by rw[List.filter_append,←List.append_assoc];simpa[hCs] using hj,fun h=>(by cases h)⟩
        · exact⟨false,he,hkb.trans hkp,fun h=>(by cases h),fun _=>hj⟩)
       clear hPQ;gi_wp2;refine drawnYield.region_yield (fun u=>⟨#[.func (.yield lY) #[] #[],.pointer (some ⟨kb,0,none⟩),.pointer (some ⟨lb,0,none⟩),.pointer (some ⟨W.heap.size,0,none⟩),.pointer (some ⟨cb,0,none⟩),.slice (some ⟨LB,0,none⟩) L L,.int .i64 (k:Int),.int .i64 ((k:Int)+1),.int .i64 (s:Int),.bool true,.int .i64 (s:Int),.slice (some ⟨cb+1,0,none⟩) 2 2,.slice (some ⟨cb+1+1,0,none⟩) 1 1,.int .i64 (L:Int),.slice (some ⟨RB,0,none⟩) L L,.func (.func 146) #[] #[.pointer (some ⟨Bx,0,none⟩)],.slice (some ⟨LB,0,none⟩) L L,u 17,u 18,u 19,u 20,u 21,u 22,u 23,u 24,u 25,undef,u27],[]⟩) (fun i=>[17,18,19,20,21,22,23,24,25].getD i 0) (fun Ls u w8=>drawnIn.Known 7 (fun i=>[17,18,19,20,21,22,23,24,25].getD i 0) (fun i=>[Value.slice (some ⟨LB,0,none⟩) L L,Value.int .i64 (s:Int),Value.int .i64 (s:Int),Value.bool true,Value.bool true,Value.func (.yield lY) #[] #[],Value.slice (some ⟨LB,0,none⟩) L L].getD i undef) Ls u∧(Ls 7=false→Below A9.heap.size A9 w8)∧(Ls 7=true→∃bo:Bool,u 24=.bool bo∧PQ bo w8∧(Ls 8=true→u 25=.bool (!bo)))) 9 (fun k=>undef) rfl Kr rfl ⟨by kernel_rfl,by kernel_rfl,by kernel_rfl,by decide⟩ Kr ?hS ?hput ?step ?last
       case hS=>exact⟨drawnIn.Known.none _ _ _ _,fun _=>Bz.drew,fun h=>(by cases h)⟩
       case hput =>
        intro i hi u v
        iterate 9 (rcases i with _|i;rfl)
        exact absurd hi Om
       case step =>
        intro i hi Ls u w8 hL hcl hdep hinv;obtain⟨hk8,hb8,hp8⟩:=hinv
        have h7:i<7→Ls 7=false:=fun hi7=>by
         cases h:Ls 7 with
         | false=>rfl
         | true =>
          exfalso;have a5:=hcl 7 5 h Kr;have a6:=hcl 7 6 h Kr;have a4:=hcl 5 4 a5 Kr;have a3:=hcl 4 3 a4 Kr;have a1:=hcl 3 1 a3 Kr;have a2:=hcl 3 2 a3 Kr;have a0:=hcl 1 0 a1 Kr
          match i,hi7 with
          | 0,_=>rw[a0]at hL;cases hL
          | 1,_=>rw[a1]at hL;cases hL
          | 2,_=>rw[a2]at hL;cases hL
          | 3,_=>rw[a3]at hL;cases hL
          | 4,_=>rw[a4]at hL;cases hL
          | 5,_=>rw[a5]at hL;cases hL
          | 6,_=>rw[a6]at hL;cases hL
          | i+7,h=>omega
        have hinj:∀a b,a<7→b<7→[17,18,19,20,21,22,23,24,25].getD a 0=[17,18,19,20,21,22,23,24,25].getD b 0→a=b:=fun a b ha hb h=>drawn.slots_inj [17,18,19,20,21,22,23,24,25] (by decide) (by simp;omega) (by simp;omega) h
        match i,hi with
        | 0,_ =>
         have hB9:=hb8 (h7 Om);refine⟨_,rfl,fun K' hK=>drawnYield.step_in (by simp) ?_⟩;go_simp;exact hK.out _ _ ⟨hk8.put hinj Om rfl,fun _=>hB9,fun h=>(by simp[drawnIn.come,h7 Om]at h)⟩
        | 1,_ =>
         have hB9:=hb8 (h7 Om);have h0:u 17=.slice (some ⟨LB,0,none⟩) L L:=hk8 0 Om (hdep 0 Kr);refine⟨_,rfl,fun K' hK=>drawnYield.step_in (by simp) ?_⟩;simp only[h0]at hK ⊢;go_simp;refine(HCt.out w8 hB9).mono ?_;rintro e9 w9 ⟨rfl,hw9⟩;have hw9:=hw9.symm;subst hw9;exact hK.out _ _ ⟨hk8.put hinj Om (by show Value.int .i64 _=.int .i64 (s:Int);rw[hCs]),fun _=>hB9,fun h=>(by simp[drawnIn.come,h7 Om]at h)⟩
        | 2,_ =>
         have hB9:=hb8 (h7 Om);have q9:=keep hB9 CC.out;refine⟨_,rfl,fun K' hK=>drawnYield.step_in (by simp) ?_⟩;go_simp;exact hK.out _ _ ⟨hk8.put hinj Om rfl,fun _=>hB9,fun h=>(by simp[drawnIn.come,h7 Om]at h)⟩
        | 3,_ =>
         have hB9:=hb8 (h7 Om);have h1:u 18=.int .i64 (s:Int):=hk8 1 Om (hdep 1 Kr);have h2:u 19=.int .i64 (s:Int):=hk8 2 Om (hdep 2 Kr);refine⟨_,rfl,fun K' hK=>drawnYield.step_in (by simp) ?_⟩;simp only[h1,h2]at hK ⊢;go_simp;exact hK.out _ _ ⟨hk8.put hinj Om rfl,fun _=>hB9,fun h=>(by simp[drawnIn.come,h7 Om]at h)⟩
        | 4,_ =>
         have hB9:=hb8 (h7 Om);have h3:u 20=.bool true:=hk8 3 Om (hdep 3 Kr);refine⟨_,rfl,fun K' hK=>drawnYield.step_in (by simp) ?_⟩;simp only[h3]at hK ⊢;go_simp;exact hK.out _ _ ⟨hk8.put hinj Om rfl,fun _=>hB9,fun h=>(by simp[drawnIn.come,h7 Om]at h)⟩
        | 5,_ =>
         have hB9:=hb8 (h7 Om);have q9:=keep hB9 CY.out;have h4:u 21=.bool true:=hk8 4 Om (hdep 4 Kr);refine⟨_,rfl,fun K' hK=>drawnYield.step_in (by simp) ?_⟩;simp only[h4]at hK ⊢;go_simp;exact hK.out _ _ ⟨hk8.put hinj Om rfl,fun _=>hB9,fun h=>(by simp[drawnIn.come,h7 Om]at h)⟩
        | 6,_ =>
         have hB9:=hb8 (h7 Om);have h4:u 21=.bool true:=hk8 4 Om (hdep 4 Kr);refine⟨_,rfl,fun K' hK=>drawnYield.step_in (by simp) ?_⟩;simp only[h4]at hK ⊢;go_simp;exact hK.out _ _ ⟨hk8.put hinj Om rfl,fun _=>hB9,fun h=>(by simp[drawnIn.come,h7 Om]at h)⟩
        | 7,_ =>
         have h5:u 22=.func (.yield lY) #[] #[]:=hk8 5 Om (hdep 5 Kr);have h6:u 23=.slice (some ⟨LB,0,none⟩) L L:=hk8 6 Om (hdep 6 Kr);have h4:u 21=.bool true:=hk8 4 Om (hdep 4 Kr);have hB9:=hb8 hL;refine⟨_,rfl,fun K' hK=>?_⟩;obtain⟨fn,tmps,assign,body,hy,hround⟩:=yield_any (m' := 8) (HYd.out w8 hB9)
         try dsimp only at hy
         simp only[h4,h5,h6]at hK ⊢;rw[if_pos (by simp[Region.wanted,yielded])];refine⟨fun _ _=>trivial,?_⟩;go_simp;refine hround.mono ?_;rintro e9 w9 ⟨bo,rfl,hpq⟩;refine hK.out (.bool bo) w9 ⟨hk8.other Om (fun j hj e=>?_) _,fun h=>(by simp[drawnIn.come]at h),fun _=>⟨bo,by simp[drawn.upd],hpq,fun h=>?_⟩⟩
         · match j,hj,e with
           | 0,_,e=>simp at e
           | 1,_,e=>simp at e
           | 2,_,e=>simp at e
           | 3,_,e=>simp at e
           | 4,_,e=>simp at e
           | 5,_,e=>simp at e
           | 6,_,e=>simp at e
           | j+7,hj,e=>omega
         · have h9:=hcl 8 7 (by simpa[drawnIn.come] using h) Kr;rw[hL]at h9;cases h9
        | 8,_ =>
         have h4:u 21=.bool true:=hk8 4 Om (hdep 4 Kr);obtain⟨bo,e24,hpq,-⟩:=hp8 (hdep 7 Kr);refine⟨_,rfl,fun K' hK=>drawnYield.step_in (by simp) ?_⟩;simp only[h4,e24]at hK ⊢;go_simp;refine hK.out _ _ ⟨hk8.other Om (fun j hj e=>?_) _,fun h=>(by simp[drawnIn.come,hdep 7 Kr]at h),fun _=>⟨bo,by simp[drawn.upd,e24],hpq,fun _=>by simp[drawn.upd]⟩⟩
         match j,hj,e with
         | 0,_,e=>simp at e
         | 1,_,e=>simp at e
         | 2,_,e=>simp at e
         | 3,_,e=>simp at e
         | 4,_,e=>simp at e
         | 5,_,e=>simp at e
         | 6,_,e=>simp at e
         | j+7,hj,e=>omega
        | i+9,hi=>exact absurd hi Om
       case last =>
        intro Ls u w8 hall hinv;obtain⟨hk8,-,hp8⟩:=hinv;have h4:u 21=.bool true:=hk8 4 Om (hall 4 Om);obtain⟨bo,e24,hpq,e25⟩:=hp8 (hall 7 Om);have e25:=e25 (hall 8 Om);refine⟨_,rfl,fun K' hK=>drawnYield.step_in (by simp) ?_⟩;simp only[h4,e25]at hK ⊢;go_simp;refine hK.out _ _ ?_;clear hK K';rw[HPQ.out]at hpq;obtain⟨hkp,hjt,hjf⟩:=hpq;have HKp:=hid hkp;have HJt:=hid hjt;have HJf:=hid hjf;clear hkp hjt hjf
        cases bo with
        | true =>
         gi_wp2;exact⟨HKp.out.other HR9.out rfl Om,⟨HKp.out.other HD9.out rfl Om,HKp.out.mono (fun _ _ h=>h) Om⟩,HJt.out (by first|rfl|trivial),HB9.out.kp HKp.out,HKp.out.keep HC9.out (nv (by decide) (by decide) (by decide))⟩
        | false =>
         gi_wp2;exact⟨HKp.out.other HR9.out rfl Om,⟨HKp.out.other HD9.out rfl Om,HKp.out.mono (fun _ _ h=>h) Om⟩,rfl,HJf.out (by first|rfl|trivial),mk_kp HB9.out.m HKp.out⟩
     · have hC9:((C:Int)==(s:Int))=false:=by simp;omega
       have HI9:Hid (J (acc++(pre++[(LB,cv)]).filter fun x=>cntT x.2==s) A9):=hid (by
        rw[List.filter_append]
        simpa[hCs,hC] using HJ9.out)
       gi_wp2;refine drawnYield.region_yield (fun u=>⟨#[.func (.yield lY) #[] #[],.pointer (some ⟨kb,0,none⟩),.pointer (some ⟨lb,0,none⟩),.pointer (some ⟨W.heap.size,0,none⟩),.pointer (some ⟨cb,0,none⟩),.slice (some ⟨LB,0,none⟩) L L,.int .i64 (k:Int),.int .i64 ((k:Int)+1),.int .i64 (s:Int),.bool true,.int .i64 (s:Int),.slice (some ⟨cb+1,0,none⟩) 2 2,.slice (some ⟨cb+1+1,0,none⟩) 1 1,.int .i64 (L:Int),.slice (some ⟨RB,0,none⟩) L L,.func (.func 146) #[] #[.pointer (some ⟨Bx,0,none⟩)],.slice (some ⟨LB,0,none⟩) L L,u 17,u 18,u 19,u 20,u 21,u 22,u 23,u 24,u 25,undef,u27],[]⟩) (fun i=>[17,18,19,20,21,22,23,24,25].getD i 0) (fun Ls u w8=>drawnIn.Known 9 (fun i=>[17,18,19,20,21,22,23,24,25].getD i 0) (fun i=>[Value.slice (some ⟨LB,0,none⟩) L L,Value.int .i64 (C:Int),Value.int .i64 (s:Int),Value.bool false,Value.bool false,undef,undef,undef,undef].getD i undef) Ls u∧Below A9.heap.size A9 w8) 9 (fun k=>undef) rfl Kr rfl ⟨by kernel_rfl,by kernel_rfl,by kernel_rfl,by decide⟩ Kr ?hS ?hput ?step ?last
       case hS=>exact⟨drawnIn.Known.none _ _ _ _,Bz.drew⟩
       case hput =>
        intro i hi u v
        iterate 9 (rcases i with _|i;rfl)
        exact absurd hi Om
       case step =>
        intro i hi Ls u w8 hL hcl hdep hinv;obtain⟨hk8,hb8⟩:=hinv;have hinj:∀a b,a<9→b<9→[17,18,19,20,21,22,23,24,25].getD a 0=[17,18,19,20,21,22,23,24,25].getD b 0→a=b:=fun a b ha hb h=>drawn.slots_inj [17,18,19,20,21,22,23,24,25] (by decide) (by simp;omega) (by simp;omega) h
        match i,hi with
        | 0,_ =>
         have hB9:=hb8;refine⟨_,rfl,fun K' hK=>drawnYield.step_in (by simp) ?_⟩;go_simp;exact hK.out _ _ ⟨hk8.put hinj Om rfl,hB9⟩
        | 1,_ =>
         have hB9:=hb8;have h0:u 17=.slice (some ⟨LB,0,none⟩) L L:=hk8 0 Om (hdep 0 Kr);refine⟨_,rfl,fun K' hK=>drawnYield.step_in (by simp) ?_⟩;simp only[h0]at hK ⊢;go_simp;refine(HCt.out w8 hB9).mono ?_;rintro e9 w9 ⟨rfl,hw9⟩;have hw9:=hw9.symm;subst hw9;exact hK.out _ _ ⟨hk8.put hinj Om (by show Value.int .i64 _=.int .i64 (C:Int);rw[hCs]),hB9⟩
        | 2,_ =>
         have hB9:=hb8;have q9:=keep hB9 CC.out;refine⟨_,rfl,fun K' hK=>drawnYield.step_in (by simp) ?_⟩;go_simp;exact hK.out _ _ ⟨hk8.put hinj Om rfl,hB9⟩
        | 3,_ =>
         have hB9:=hb8;have h1:u 18=.int .i64 (C:Int):=hk8 1 Om (hdep 1 Kr);have h2:u 19=.int .i64 (s:Int):=hk8 2 Om (hdep 2 Kr);refine⟨_,rfl,fun K' hK=>drawnYield.step_in (by simp) ?_⟩;simp only[h1,h2]at hK ⊢;go_simp;exact hK.out _ _ ⟨hk8.put hinj Om (by simp),hB9⟩
        | 4,_ =>
         have hB9:=hb8;have h3:u 20=.bool false:=hk8 3 Om (hdep 3 Kr);refine⟨_,rfl,fun K' hK=>drawnYield.step_in (by simp) ?_⟩;simp only[h3]at hK ⊢;go_simp;exact hK.out _ _ ⟨hk8.put hinj Om rfl,hB9⟩
        | 5,_ =>
         have hB9:=hb8;have q9:=keep hB9 CY.out;have h4:u 21=.bool false:=hk8 4 Om (hdep 4 Kr);refine⟨_,rfl,fun K' hK=>drawnYield.step_in (by simp) ?_⟩;simp only[h4]at hK ⊢;go_simp;exact hK.out _ _ ⟨hk8.put hinj Om rfl,hB9⟩
        | 6,_ =>
         have hB9:=hb8;have h4:u 21=.bool false:=hk8 4 Om (hdep 4 Kr);refine⟨_,rfl,fun K' hK=>drawnYield.step_in (by simp) ?_⟩;simp only[h4]at hK ⊢;go_simp;exact hK.out _ _ ⟨hk8.put hinj Om rfl,hB9⟩
        | 7,_ =>
         have hB9:=hb8;have h5:u 22=undef:=hk8 5 Om (hdep 5 Kr);have h6:u 23=undef:=hk8 6 Om (hdep 6 Kr);have h4:u 21=.bool false:=hk8 4 Om (hdep 4 Kr);refine⟨_,rfl,fun K' hK=>drawnYield.step_in (by simp) ?_⟩;simp only[h5,h6,h4]at hK ⊢;go_simp;exact hK.out _ _ ⟨hk8.put hinj Om rfl,hB9⟩
        | 8,_ =>
         have hB9:=hb8;have h7:u 24=undef:=hk8 7 Om (hdep 7 Kr);have h4:u 21=.bool false:=hk8 4 Om (hdep 4 Kr);refine⟨_,rfl,fun K' hK=>drawnYield.step_in (by simp) ?_⟩;simp only[h7,h4]at hK ⊢;go_simp;exact hK.out _ _ ⟨hk8.put hinj Om rfl,hB9⟩
        | i+9,hi=>exact absurd hi Om
       case last =>
        intro Ls u w8 hall hinv;obtain⟨hk8,hb8⟩:=hinv;have h4:u 21=.bool false:=hk8 4 Om (hall 4 Om);refine⟨_,rfl,fun K' hK=>drawnYield.step_in (by simp) ?_⟩;simp only[h4]at hK ⊢;go_simp;refine hK.out _ _ ?_;clear hK K';have HKp:Hid (KpV b (TV lk vb) W.heap.size A9 w8):=hid (KpV.below hb8);have HJn:=hid (HJ.out _ _ _ ((Df.of_below hb8).mono fun q _ h=>h.elim) HI9.out);gi_wp2;exact⟨HKp.out.other HR9.out rfl Om,⟨HKp.out.other HD9.out rfl Om,HKp.out.mono (fun _ _ h=>h) Om⟩,HJn.out,HB9.out.kp HKp.out,HKp.out.keep HC9.out (nv (by decide) (by decide) (by decide))⟩
  · have es:s=k+1:=by omega
    subst es;have dlt:decide (((k+1:Nat):Int)<(k:Int)+1)=false:=decide_eq_false Om;gi_wp2;refine leaves_marks Ds A HBd.out.m (fun W'' hc=>⟨_,results_none rfl _ _ _,⟨_,rfl⟩,.inl ⟨acc,HAcc.out,HJ.out _ _ _ ⟨hc.os,hc.tape,hc.output,hc.size,fun q hq hx=>hc.blk q hq (fun hm=>hx (.inr ⟨(HBd.out.m.at_ _ hm).1,soft_of (HBd.out.m.at_ _ hm).2 rfl⟩))⟩ HJa.out,trivial⟩⟩)
end Go.Proofs.YtcnoemjeijjnjaaGreat.downsTwo
