import Derived.Test.YtcfnohiboknfoaaGreatPart28
import Derived.Test.YtcfnohiboknfoaaGreatPart21
set_option linter.unusedVariables false
namespace Go.Proofs.YtcfnohiboknfoaaGreat.rofRun
open Go.RowKit Go.Deep Go base netSem routeRow nbSem candSem candImp hopSem intsOwn hopMake hopBetween sceneSem sceneBy bestAll rofSem rofBack rofWay
structure Ch (X : Nat→Prop) (W W' : World) : Prop where
 os:W'.os=W.os
 tape:W'.tape=W.tape
 output:W'.output=W.output
 size:W.heap.size≤W'.heap.size
 blk:∀ q,q<W.heap.size→¬ X q→W'.heap[q]? = W.heap[q]?
theorem Ch.of_grown {W W':World} {row:Option Nat} (h:W.grownBy W' row):Ch (fun q=>some q=row) W W' := ⟨h.os,h.tape,h.output,h.size,h.block⟩
theorem Ch.refl (X:Nat→Prop) (W:World):Ch X W W:=⟨rfl,rfl,rfl,Nat.le_refl _,fun _ _ _=>rfl⟩
theorem Ch.trans {X:Nat→Prop} {A B C:World} (h:Ch X A B) (k:Ch X B C):Ch X A C:=⟨k.os.trans h.os,k.tape.trans h.tape,k.output.trans h.output,Nat.le_trans h.size k.size,fun q hq hx=>(k.blk q (Nat.lt_of_lt_of_le hq h.size) hx).trans (h.blk q hq hx)⟩
theorem Ch.mono {X Y:Nat→Prop} {A B:World} (h:Ch X A B) (hx:∀ q,X q→Y q):Ch Y A B:=⟨h.os,h.tape,h.output,h.size,fun q hq hy=>h.blk q hq (fun k=>hy (hx q k))⟩
theorem Ch.set (W:World) (a:Addr) (v:Value):Ch (fun q=>q=a.block) W (W.setCell a v):=⟨rfl,rfl,rfl,by simp [World.setCell],fun q _ hx=>Below.heap_setCell _ _ _ _ hx⟩
theorem Ch.alloc (X:Nat→Prop) (W:World) (ob:Obj):Ch X W (W.alloc ob):=⟨rfl,rfl,rfl,by simp,fun q hq _=>Below.heap_alloc W ob q hq⟩
theorem Ch.below {W W':World} (X:Nat→Prop) (h:Below W.heap.size W W'):Ch X W W' := ⟨h.os,h.tape,h.output,h.size,fun q hq _=>h.block q hq⟩
theorem Ch.grown {X:Nat→Prop} {b:Nat} {W W':World} (h:Ch X W W') (hx:∀ q,q<W.heap.size→X q→q=b):W.grownBy W' (some b):=⟨h.os,h.tape,h.output,h.size,fun j hj hne=>h.blk j hj (fun k=>hne (by rw [hx j hj k]))⟩
variable {sb b B : Nat} {F : Nat→Value} {p : Nat→Option Addr} {l c : Nat→Nat} {g : R} {o e : List Int} {x : R} {ea da : Option Addr} {el ec dl dc : Nat} {env : List Int} {ds : List Bool} {w W W' : World} {X : Nat→Prop}
theorem ready_ch (h:Ready b B F W (p 1) (p 4) (l 1) (l 4) (c 1) (c 4) g x) (hc:Ch X W W') (hb:¬ X b) (hx:∀ q,X q→∀ cs fr,W.heap[q]?≠some (.cells cs 116 fr)):Ready b B F W' (p 1) (p 4) (l 1) (l 4) (c 1) (c 4) g x:=by
 rcases h with ⟨h1,h2,h3,h4⟩|⟨V,F',hm⟩
 · exact .inl ⟨h1.of_block (hc.blk b h1.lt hb),h2,h3,h4⟩
 refine .inr ⟨V,F',hm.row.of_block (hc.blk b hm.row.lt hb),hm.net,hm.done,hm.hops,fun p q hp hq=>own_keep (hm.own p q hp hq) fun k hk=>hc.blk k (World.ownsRow.lt (hm.own p q hp hq) k hk).2 fun hxk=>?_⟩
 rcases (hm.own p q hp hq).2 with ⟨e1,_⟩|⟨k',cap,cur,e1,_,hh,_⟩
 · rw [e1] at hk
   simp [Value.ownBlock] at hk
 rw [e1] at hk
 simp [Value.ownBlock] at hk
 rw [hk] at hh
 exact hx k hxk _ _ hh
structure Rb (w : World) (sb b B : Nat) (F : Nat→Value) (p : Nat→Option Addr) (l c : Nat→Nat) (g x : R) (va : Option Addr) (n cv b6 N : Nat) (W : World) : Prop where
 k2:Boxed W w.heap.size 94 (.pointer (some ⟨sb,0,none⟩))
 k3:Boxed W (w.heap.size+1) 25 (.slice va n cv)
 k4:Boxed W (w.heap.size+1+1) 52 (.slice none 0 0)
 k5:Boxed W (w.heap.size+1+1+1) 4 (.bool false)
 k6:Boxed W b6 52 (.slice (some ⟨N,0,none⟩) n n)
 rd:Ready b B F W (p 1) (p 4) (l 1) (l 4) (c 1) (c 4) g x
 gr:w.grownBy W (some b)
variable {va : Option Addr} {n cv b6 N : Nat}
theorem box_ch {q t:Nat} {v:Value} (h:Boxed W q t v) (hc:Ch X W W') (hq:¬ X q):Boxed W' q t v:=(hc.blk q h.lt hq).trans h
theorem Rb.ch (h:Rb w sb b B F p l c g x va n cv b6 N W) (hbw:b<w.heap.size) (hc:Ch X W W') (hx:∀ q,X q→w.heap.size+4≤q∧q≠b6∧∀ cs fr,W.heap[q]?≠some (.cells cs 116 fr)):Rb w sb b B F p l c g x va n cv b6 N W' :=
 ⟨box_ch h.k2 hc (fun k=>by have:=(hx _ k).1;omega),box_ch h.k3 hc (fun k=>by have:=(hx _ k).1;omega),box_ch h.k4 hc (fun k=>by have:=(hx _ k).1;omega),box_ch h.k5 hc (fun k=>by have:=(hx _ k).1;omega),box_ch h.k6 hc (fun k=>(hx _ k).2.1 rfl),
  ready_ch h.rd hc (fun k=>by have:=(hx _ k).1;omega) (fun q k=>(hx q k).2.2),⟨hc.os.trans h.gr.os,hc.tape.trans h.gr.tape,hc.output.trans h.gr.output,Nat.le_trans h.gr.size hc.size,fun j hj hne=>(hc.blk j (Nat.lt_of_lt_of_le hj h.gr.size) (fun k=>by have:=(hx _ k).1;omega)).trans (h.gr.block j hj hne)⟩⟩
theorem Rb.call (h:Rb w sb b B F p l c g x va n cv b6 N W) (hbw:b<w.heap.size) (hb6:w.heap.size≤b6) (hg:W.grownBy W' (some b)) (hr:Ready b B F W' (p 1) (p 4) (l 1) (l 4) (c 1) (c 4) g x):Rb w sb b B F p l c g x va n cv b6 N W' :=
 ⟨h.k2.kept hg (fun e=>by injection e;omega),h.k3.kept hg (fun e=>by injection e;omega),h.k4.kept hg (fun e=>by injection e;omega),h.k5.kept hg (fun e=>by injection e;omega),h.k6.kept hg (fun e=>by injection e;omega),hr,gtrans h.gr hg⟩
theorem Rb.sc (h:Rb w sb b B F p l c g x va n cv b6 N W) (h0:Sc sb b B F p l c g o e x ea da el ec dl dc env ds w):Sc sb b B F p l c g o e x ea da el ec dl dc env ds W:=h0.step h.gr h.rd
theorem Rb.own (h:Rb w sb b B F p l c g x va n cv b6 N W) (hbw:b<w.heap.size) {row:Option Nat} (hg:W.grownBy W' row) (hr:∀ r,row=some r→w.heap.size≤r∧∃ ob:Obj,W.heap[r]? = some ob∧ob.isCells=false):Rb w sb b B F p l c g x va n cv b6 N W' := by
 have hnc:∀ (q:Nat) (ob:Obj),W.heap[q]? = some ob→ob.isCells=true→¬ (some q=row):=fun q ob hq hc e=>by
  obtain ⟨_,ob',h1,h2⟩:=hr q e.symm
  rw [hq] at h1
  injection h1 with h1
  rw [h1,h2] at hc
  cases hc
 have hc:=Ch.of_grown hg
 have bx:∀ {q t:Nat} {v:Value},Boxed W q t v→Boxed W' q t v:=fun hb=>box_ch hb hc (hnc _ _ hb rfl)
 refine ⟨bx h.k2,bx h.k3,bx h.k4,bx h.k5,bx h.k6,ready_ch h.rd hc (fun e=>?_) (fun q e cs fr hh=>hnc q _ hh rfl e),⟨hc.os.trans h.gr.os,hc.tape.trans h.gr.tape,hc.output.trans h.gr.output,Nat.le_trans h.gr.size hc.size,fun j hj hne=>(hc.blk j (Nat.lt_of_lt_of_le hj h.gr.size) (fun e=>?_)).trans (h.gr.block j hj hne)⟩⟩
 · have:=(hr b e.symm).1;omega
 have:=(hr j e.symm).1;omega
theorem laid_ch {N len k:Nat} {rs:Rs} (h:RtLaid W N len k rs) (hc:Ch X W W') (hN:¬ X N):RtLaid W' N len k rs:=by
 obtain ⟨f,hf,hh⟩:=h.row
 exact ⟨f,hf.of_block (hc.blk N hf.lt hN),hh⟩
theorem laid_own {N len k:Nat} {rs:Rs} (h:RtLaid W N len k rs) {row:Option Nat} (hg:W.grownBy W' row) (hr:∀ r,row=some r→∃ ob:Obj,W.heap[r]? = some ob∧ob.isCells=false):RtLaid W' N len k rs:=by
 refine laid_ch h (Ch.of_grown hg) (fun e=>?_)
 obtain ⟨f,⟨cur,hf,_⟩,_⟩:=h.row
 obtain ⟨ob,h1,h2⟩:=hr N e.symm
 rw [hf] at h1
 injection h1 with h1
 rw [← h1] at h2
 cases h2
theorem laid_not {N len k:Nat} {rs:Rs} (h:RtLaid W N len k rs):∀ cs fr,W.heap[N]?≠some (.cells cs 116 fr):=by
 obtain ⟨f,⟨cur,hf,_⟩,_⟩:=h.row
 intro cs fr hh
 rw [hf] at hh
 injection hh with hh
 injection hh with _ hh _
 exact absurd hh (by decide)
structure Mk (B : Nat) (Ds : List Nat) (W : World) : Prop where
 one:Ds.Nodup
 at_:∀ D,D∈Ds→B≤D∧W.heap[D]? = some (.deferred (some []))
theorem Mk.nil (B:Nat) (W:World):Mk B [] W:=⟨List.nodup_nil,fun D h=>by cases h⟩
theorem Mk.lt {B:Nat} {Ds:List Nat} (h:Mk B Ds W) {D:Nat} (hD:D∈Ds):D<W.heap.size:=(Array.getElem?_eq_some_iff.1 (h.at_ D hD).2).1
theorem Mk.cons {B D:Nat} {Ds:List Nat} (h:Mk B Ds W) (hD:W.heap[D]? = some (.deferred (some []))) (hB:B≤D) (hl:∀ D'∈Ds,D' < D):Mk B (D::Ds) W :=
 ⟨List.nodup_cons.2 ⟨fun h1=>Nat.lt_irrefl _ (hl D h1),h.one⟩,fun D' h'=>by
  rcases List.mem_cons.1 h' with e|h'
  · subst e;exact ⟨hB,hD⟩
  exact h.at_ D' h'⟩
theorem Mk.ch {B:Nat} {Ds:List Nat} (h:Mk B Ds W) (hc:Ch X W W') (hx:∀ D∈Ds,¬ X D):Mk B Ds W' := ⟨h.one,fun D hD=>⟨(h.at_ D hD).1,(hc.blk D (h.lt hD) (hx D hD)).trans (h.at_ D hD).2⟩⟩
theorem Mk.cells {B:Nat} {Ds:List Nat} (h:Mk B Ds W) (hc:Ch X W W') (hx:∀ q,X q→∃ cs t fr,W.heap[q]? = some (.cells cs t fr)):Mk B Ds W' := h.ch hc fun D hD k=>by
 obtain ⟨cs,t,fr,hh⟩:=hx D k
 rw [(h.at_ D hD).2] at hh
 cases hh
structure Fin (Ds : List Nat) (W W' : World) : Prop extends Ch (fun q=>q∈Ds) W W'
def markD (D : Nat) : Deferred := { target := .collected D,args := #[] }
theorem leaves_marks {P:Program} {n:Nat} {fn:Func} {tmps:Array Value} {R:Ending→World→Prop} {B:Nat}:∀ (Ds:List Nat) (W:World),Mk B Ds W→(∀ W',Ch (fun q=>q∈Ds) W W'→LeavesInM Fence.wide n P fn tmps R [] .returning W')→LeavesInM Fence.wide n P fn tmps R (Ds.map markD) .returning W
 | [],W,_,h=>h W (Ch.refl _ _)
 | D::Ds,W,hm,h=>by
  have hD:=(hm.at_ D List.mem_cons_self).2
  have hg:=grownBy_putObj' W D (.deferred none)
  refine ⟨by simp,.inl ⟨D,_,rfl,run_takeDeferred hD,leaves_marks Ds _ (Mk.ch ⟨(List.nodup_cons.1 hm.one).2,fun D' h'=>hm.at_ D' (List.mem_cons_of_mem _ h')⟩ (Ch.of_grown hg) (fun D' h' e=>?_)) (fun W' hc=>h W' ?_)⟩⟩
  · injection e with e
    subst e
    exact (List.nodup_cons.1 hm.one).1 h'
  refine ((Ch.of_grown hg).mono (fun q e=>?_)).trans (hc.mono (fun q hq=>List.mem_cons_of_mem _ hq))
  injection e with e
  subst e
  exact List.mem_cons_self
def Kc (Bs gb : Nat) (W W' : World) : Prop := (∀ v,W.cell? ⟨Bs,0,none⟩=some v→W'.cell? ⟨Bs,0,none⟩=some v)∧∀ j v,W.cell? ⟨gb,j,none⟩=some v→W'.cell? ⟨gb,j,none⟩=some v
theorem Kc.trans {Bs gb:Nat} {A B C:World} (h:Kc Bs gb A B) (k:Kc Bs gb B C):Kc Bs gb A C:=⟨fun v hv=>k.1 v (h.1 v hv),fun j v hv=>k.2 j v (h.2 j v hv)⟩
theorem Kc.ch {Bs gb:Nat} (hc:Ch X W W') (h1:¬ X Bs) (h2:¬ X gb):Kc Bs gb W W' :=
 ⟨fun v hv=>(World.cell?_of_block (a:=⟨Bs,0,none⟩) (hc.blk Bs (World.block_lt_of_cell? _ _ hv) h1)).trans hv,fun j v hv=>(World.cell?_of_block (a:=⟨gb,j,none⟩) (hc.blk gb (World.block_lt_of_cell? _ _ hv) h2)).trans hv⟩
theorem Kc.put {Bs gb q:Nat} {o o':Obj} (h:W.heap[q]? = some o) (hc:o.isCells=false):Kc Bs gb W (W.putObj q o') :=
 ⟨fun v hv=>cell_kept hv (grownBy_putObj' W q o') (fun r e=>by cases e;exact ⟨o,h,hc⟩),fun j v hv=>cell_kept hv (grownBy_putObj' W q o') (fun r e=>by cases e;exact ⟨o,h,hc⟩)⟩
theorem box4 {W:World} {q:Nat} {a b c d:Value} {t:TypeId} (h:W.heap[q]? = some (.cells #[a,b,c,d] t (0,0))) (v0 v1 v2 v3:Value):((((W.setCell ⟨q,0,none⟩ v0).setCell ⟨q,1,none⟩ v1).setCell ⟨q,2,none⟩ v2).setCell ⟨q,3,none⟩ v3).heap[q]? = some (.cells #[v0,v1,v2,v3] t (0,0)):=by
 simp [World.setCell,Array.getElem?_modify,h]
theorem ch4 (W:World) (q k:Nat) (v0 v1 v2 v3:Value):Ch (fun j=>j=q) W ((((W.setCell ⟨q,k,none⟩ v0).setCell ⟨q,k+1,none⟩ v1).setCell ⟨q,k+2,none⟩ v2).setCell ⟨q,k+3,none⟩ v3) :=
 (((Ch.set W ⟨q,k,none⟩ v0).trans (Ch.set _ ⟨q,k+1,none⟩ v1)).trans (Ch.set _ ⟨q,k+2,none⟩ v2)).trans (Ch.set _ ⟨q,k+3,none⟩ v3)
theorem box_cells {W:World} {q:Nat} {a b c d:Value} {t:TypeId} (h:W.heap[q]? = some (.cells #[a,b,c,d] t (0,0))) :
  (W.cell? ⟨q,0,none⟩=some a∧W.cell? ⟨q,1,none⟩=some b∧W.cell? ⟨q,2,none⟩=some c∧W.cell? ⟨q,3,none⟩=some d)∧W.frozen? ⟨q,0,none⟩=false∧W.frozen? ⟨q,1,none⟩=false∧W.frozen? ⟨q,2,none⟩=false∧W.frozen? ⟨q,3,none⟩=false:=by
 simp [World.cell?,World.frozen?,h]
end Go.Proofs.YtcfnohiboknfoaaGreat.rofRun
