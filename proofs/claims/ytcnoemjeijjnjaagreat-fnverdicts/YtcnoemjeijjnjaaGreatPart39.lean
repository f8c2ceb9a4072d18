import Derived.Test.YtcnoemjeijjnjaaGreatVerSpec
set_option linter.unusedVariables false
namespace Go.Proofs.YtcnoemjeijjnjaaGreat.verdictHelp
open Go.RowKit Go.Deep Go.Shelf Go base copy netSem routeRow nbSem candSem hopBetween sceneSem prodSem ssSem rangeTwo picksTwo downsTwo scenesTwo stateTwo verSem verSpec violImpl rtsRow
open prodB (bAt)
def tr (ST : List Bool→List Int→List (List Rt)) (de : List Bool × List Int) : List (List Bool × List Int × List Rt) := (ST de.1 de.2).map fun s=>(de.1,de.2,s)
theorem trips_pairs (ST:List Bool→List Int→List (List Rt)) (DL:List (List Bool)) (EL:List (List Int)):trips ST DL EL=(DL.flatMap fun d=>EL.map fun e=>(d,e)).flatMap (tr ST):=by
 unfold trips rowT tr;simp only[List.flatMap_assoc,List.flatMap_map]
structure Vi (w0 : World) (lk b vb bs : Nat) (kind pp way : Int) (fr n : Nat) (A : World) : Prop where
 same:Df (fun q=>q=lk∨q=b) w0 A
 look:A.heap[lk]? = some (.cells #[.pointer (some ⟨b,0,none⟩),.int .i64 kind,.int .i64 (fr:Int),.int .i64 pp,.int .i64 way,.int .i64 (n:Int)] 84 (0,0))
 box:Boxed A bs 60 (.pointer (some ⟨lk,0,none⟩))
 res:A.heap[vb]? = some (.cells #[.bool false,.int .i64 0,.slice none 0 0,.slice none 0 0,.slice none 0 0,.int .i64 0] 37 (0,0))
variable {w0 A A' : World} {lk b vb bs : Nat} {kind pp way : Int} {fr n : Nat} {X : Nat→Prop}
theorem Vi.df (h:Vi w0 lk b vb bs kind pp way fr n A) (hd:Df X A A') (hx:∀q,X q→q≠lk∧q≠vb∧q≠bs∧(q<w0.heap.size→q=b)):Vi w0 lk b vb bs kind pp way fr n A' :=
 ⟨⟨hd.os.trans h.same.os,hd.tape.trans h.same.tape,hd.output.trans h.same.output,Nat.le_trans h.same.size hd.size,fun q hq hn=>(hd.blk q (Nat.lt_of_lt_of_le hq h.same.size) (fun k=>hn (.inr ((hx q k).2.2.2 hq)))).trans (h.same.blk q hq hn)⟩,hd.keeps h.look (fun k=>(hx _ k).1 rfl),hd.keeps h.box (fun k=>(hx _ k).2.2.1 rfl),hd.keeps h.res (fun k=>(hx _ k).2.1 rfl)⟩
theorem Vi.lk_ {p:Nat→Option Addr} {l c:Nat→Nat} (h:Vi w0 lk b vb bs kind pp way fr n A) (hn:∀i,i<6→A.cell? ⟨b,i,none⟩=some (.slice (p i) (l i) (c i))):Lk lk b kind pp way fr n p l c A:=by
 have hh:=h.look;exact⟨by simp[World.cell?,hh],by simp[World.cell?,hh],by simp[World.cell?,hh],by simp[World.cell?,hh],by simp[World.cell?,hh],by simp[World.cell?,hh],by simp[World.frozen?,hh],hn⟩
theorem Vi.next {w1:World} (h:Vi w0 lk b vb bs kind pp way fr n A) (hb:Below A.heap.size A w1) (h1:lk≠vb) (h2:lk≠bs):Vi w0 lk b vb bs kind pp way fr (n+1) (w1.setCell ⟨lk,5,none⟩ (.int .i64 ((n:Int)+1))):=by
 have hk:∀q ob,q≠lk→A.heap[q]? = some ob→(w1.setCell ⟨lk,5,none⟩ (.int .i64 ((n:Int)+1))).heap[q]? = some ob:=fun q ob hq h9=>by
  rw[Below.heap_setCell _ _ _ _ hq,hb.block q (Array.getElem?_eq_some_iff.1 h9).1];exact h9
 refine⟨⟨hb.os.trans h.same.os,hb.tape.trans h.same.tape,hb.output.trans h.same.output,Nat.le_trans h.same.size (by simpa[World.setCell] using hb.size),fun q hq hn=>?_⟩,?_,hk _ _ (Ne.symm h2) h.box,hk _ _ (Ne.symm h1) h.res⟩
 · rw[Below.heap_setCell _ _ _ _ (fun e=>hn (.inl e)),hb.block q (Nat.lt_of_lt_of_le hq h.same.size)];exact h.same.blk q hq hn
 have:=(hb.block _ (Array.getElem?_eq_some_iff.1 h.look).1).trans h.look;have h9:=set_block (j:=5) (v:=.int .i64 ((n:Int)+1)) this;simpa using h9
theorem kp_in {N:Nat} {cs0 cs1 vs0 vs1:Array Value} (hd:Df (fun q=>q=lk∨q=vb) A A') (h0:A.heap[lk]? = some (.cells cs0 84 (0,0))) (h1:A'.heap[lk]? = some (.cells cs1 84 (0,0))) (v0:A.heap[vb]? = some (.cells vs0 37 (0,0))) (v1:A'.heap[vb]? = some (.cells vs1 37 (0,0))) (hb1:b≠lk) (hb2:b≠vb):KpV b (TS lk vb) N A A' := by
 refine⟨hd.os,hd.tape,hd.output,hd.size,fun q hq _ hx=>hd.blk q hq (fun k=>?_),fun q cs t fr hq=>?_,fun i v hi hv=>hd.cell hv (fun k=>k.elim hb1 hb2)⟩
 · rcases k with rfl|rfl
   · exact hx _ _ _ h0 (.inl ⟨rfl,rfl⟩)
   exact hx _ _ _ v0 (.inr ⟨rfl,rfl⟩)
 by_cases e:q=lk
 · subst e;rw[h0]at hq;injection hq with hq;injection hq with _ e1 e2;subst e1;subst e2;exact⟨cs1,h1⟩
 by_cases e':q=vb
 · subst e';rw[v0]at hq;injection hq with hq;injection hq with _ e1 e2;subst e1;subst e2;exact⟨vs1,v1⟩
 exact⟨cs,hd.keeps hq (fun k=>k.elim e e')⟩
variable {B : Nat} {F : Nat→Value} {p : Nat→Option Addr} {l c : Nat→Nat} {g x : R}
theorem kp_out {N:Nat} {cs0 cs1 vs0 vs1:Array Value} (hd:Df (fun q=>q=lk∨q=b∨q=vb) A A') (h0:A.heap[lk]? = some (.cells cs0 84 (0,0))) (h1:A'.heap[lk]? = some (.cells cs1 84 (0,0))) (v0:A.heap[vb]? = some (.cells vs0 37 (0,0))) (v1:A'.heap[vb]? = some (.cells vs1 37 (0,0)))
  (hA:Ready b B F A (p 1) (p 4) (l 1) (l 4) (c 1) (c 4) g x) (hA':Ready b B F A' (p 1) (p 4) (l 1) (l 4) (c 1) (c 4) g x):KpV b (TV lk vb) N A A' := by
 have tA:∃cs,A.heap[b]? = some (.cells cs 79 (0,0)):=by
  rcases hA with ⟨⟨cs,h3,_⟩,_⟩|⟨V,F',hm⟩
  · exact⟨cs,h3⟩
  obtain⟨cs,h3,_⟩:=hm.row;exact⟨cs,h3⟩
 have tA':∃cs,A'.heap[b]? = some (.cells cs 79 (0,0)):=by
  rcases hA' with ⟨⟨cs,h3,_⟩,_⟩|⟨V,F',hm⟩
  · exact⟨cs,h3⟩
  obtain⟨cs,h3,_⟩:=hm.row;exact⟨cs,h3⟩
 obtain⟨b0,tA⟩:=tA;obtain⟨b1,tA'⟩:=tA';refine⟨hd.os,hd.tape,hd.output,hd.size,fun q hq _ hx=>hd.blk q hq (fun k=>?_),fun q cs t fr hq=>?_,fun i v hi hv=>?_⟩
 · rcases k with rfl|rfl|rfl
   · exact hx _ _ _ h0 (.inl ⟨rfl,rfl⟩)
   · exact hx _ _ _ tA (.inr (.inl rfl))
   exact hx _ _ _ v0 (.inr (.inr ⟨rfl,rfl⟩))
 · by_cases e:q=lk
   · subst e;rw[h0]at hq;injection hq with hq;injection hq with _ e1 e2;subst e1;subst e2;exact⟨cs1,h1⟩
   by_cases e':q=vb
   · subst e';rw[v0]at hq;injection hq with hq;injection hq with _ e1 e2;subst e1;subst e2;exact⟨vs1,v1⟩
   by_cases e'':q=b
   · subst e'';rw[tA]at hq;injection hq with hq;injection hq with _ e1 e2;subst e1;subst e2;exact⟨b1,tA'⟩
   exact⟨cs,hd.keeps hq (fun k=>k.elim e (fun k=>k.elim e'' e'))⟩
 rw[ready_net hA hi]at hv;rw[ready_net hA' hi];exact hv
end Go.Proofs.YtcnoemjeijjnjaaGreat.verdictHelp
namespace Go.Proofs.YtcnoemjeijjnjaaGreat.drawnBelowIn
open Go Go.RowKit heldStore drawn drawnIn drawnYield
variable {P : Program} {ops : Array Oper} {Q : Exit→Act→World→Prop} {l m : Nat}
theorem region_belowA {id:Nat} {a:Act} {w:World} (e f:Nat) (Rel:Value→Value→Prop) (A:(Nat→Value)→Act) (s:Nat→Nat) (φ:Nat→Value→World→Prop) (W:World) (n:Nat) (u0:Nat→Value) (ha:a=A u0)
  (hm:P.follows .mixedOrders=true) (hz:ops.size=n+1) (hE:LastOf ops n) (hup:upB ops=true) (hW:Below W.heap.size W w)
  (hput:∀i,i<n→∀u v,(A u).put (some (s i)) v=A (upd u (s i) v)) (hinj:∀i j,i<n→j<n→s i=s j→i=j)
  (stable:∀i v w w',Below w.heap.size w w'→φ i v w→φ i v w')
  (step:∀i,i<n→∀u w,Below W.heap.size W w→(∀j,Region.waitsFor .any ops i j=true→φ j (u (s j)) w)→(Region.waitsFor .any ops i f=true→Rel (u (s e)) (u (s f)))→∃o,ops[i]? = some o∧∀K':Act→World→Prop,Shut (∀v w',Below w.heap.size w w'→φ i v w'→(i=f→Rel (u (s e)) v)→K' ((A u).put (some (s i)) v) w')→if Region.wanted o (yielded ops (A u).tmps)=true then Oper.wp P o (A u) w K' Q else K' ((A u).put o.dst undef) w)
  (last:∀u w,Below W.heap.size W w→(∀j,j<n→φ j (u (s j)) w)→∃o,ops[n]? = some o∧∀K':Act→World→Prop,Shut (∀a w,Q .normal a w→K' a w)→if Region.wanted o (yielded ops (A u).tmps)=true then Oper.wp P o (A u) w K' Q else K' ((A u).put o.dst undef) w)
  (he:e<n:=by decide) (hf:f<n:=by decide) (hef:e≠f:=by decide) (hw:Region.waitsFor .any ops f e=true:=by kernel_rfl)
  (hd:nodef ops=true:=by kernel_rfl) (hua:upA ops=true:=by kernel_rfl) :
  (Code.region id ops true).wpIn (Fence.wide.inRound l) m P Q a w:=by
 refine region_yield A s (fun L u w8=>Below W.heap.size W w8∧(∀j,j<n→L j=true→φ j (u (s j)) w8)∧(L f=true→Rel (u (s e)) (u (s f)))) n u0 ha hm hz hE hua ⟨hW.drew,fun j _ h=>(by cases h),fun h=>(by cases h)⟩ hput ?_ ?_
 · rintro i hi L u w8 hL hcl hdep ⟨hb,hφ,hR⟩
   obtain⟨o,ho,h⟩:=step i hi u w8 hb (fun j hj=>hφ j (by
    obtain⟨oj,hoj,e,he,_,hon⟩:=Region.waitsFor_spec hj;have:=upB_spec hup hoj e he
    omega) (hdep j hj)) (fun hj=>hR (hdep f hj))
   refine⟨o,ho,fun K' hK=>step_in (nodef_spec hd ho) (h K' fun v w' hb' hv hr=>hK.out v w' ⟨hb.trans (hb'.mono hb.size),fun j hj hL'=>?_,fun hL'=>?_⟩)⟩
   · by_cases e1:j=i
     · subst e1;rw[upd_same];exact hv
     rw[upd_ne _ _ (fun e'=>e1 (hinj j i hj hi e'))];unfold come at hL';rw[if_neg e1]at hL';exact stable j _ _ _ hb' (hφ j hj hL')
   by_cases e1:i=f
   · subst e1;rw[upd_same,upd_ne _ _ (fun e'=>hef (hinj e i he hi e'))];exact hr rfl
   unfold come at hL';rw[if_neg (fun h=>e1 h.symm)]at hL';by_cases e2:i=e
   · subst e2;have:=hcl f i hL' hw;rw[hL]at this;cases this
   rw[upd_ne _ _ (fun e'=>e2 (hinj e i he hi e').symm),upd_ne _ _ (fun e'=>e1 (hinj f i hf hi e').symm)];exact hR hL'
 rintro L u w8 hall ⟨hb,hφ,hR⟩;obtain⟨o,ho,h⟩:=last u w8 hb (fun j hj=>hφ j hj (hall j hj));exact⟨o,ho,fun K' hK=>step_in (nodef_spec hd ho) (h K' hK)⟩
end Go.Proofs.YtcnoemjeijjnjaaGreat.drawnBelowIn
