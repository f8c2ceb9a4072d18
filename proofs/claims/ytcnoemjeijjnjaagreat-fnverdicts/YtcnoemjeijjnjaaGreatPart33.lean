import Derived.Test.YtcnoemjeijjnjaaGreatStateSeq
set_option linter.unusedVariables false
namespace Go.Proofs.YtcnoemjeijjnjaaGreat.stateTwo
open Go.RowKit Go.Deep Go.Shelf Go base copy netSem routeRow nbSem candSem candImp hopSem intsOwn hopMake hopBetween sceneSem sceneBy noRts bestAll stabImpl stabFace prodSem rofSem rofRun rofImpl ssSem rangeAt rangeTwo picksTwo choImpl downsTwo
open stateSeq (ready_type ready_soft row_in)
attribute [local go_sem] Oper.semAt_some
def TS (lk vb : Nat) (q : Nat) (t : TypeId) : Prop := (t=84∧q=lk)∨(t=37∧q=vb)
theorem ns {lk vb q:Nat} {t:TypeId} (h1:t≠84) (h3:t≠37):¬TS lk vb q t:=fun h=>h.elim (fun h=>h1 h.1) (fun h=>h3 h.1)
theorem ts_tv {lk vb q:Nat} {t:TypeId} (h:TS lk vb q t):TV lk vb q t:=h.elim .inl (fun h=>.inr (.inr h))
variable {sb b B : Nat} {F : Nat→Value} {p : Nat→Option Addr} {l c : Nat→Nat} {g : R} {o e : List Int} {x : R} {ea da : Option Addr} {el ec dl dc : Nat} {env : List Int} {ds : List Bool}
def On (sb : Nat) (p : Nat→Option Addr) (l : Nat→Nat) (ea da : Option Addr) (el dl : Nat) (a : Nat) : Prop :=
 a=sb∨(∃o,0<l 1∧p 1=some ⟨a,o,none⟩)∨(∃o,0<l 2∧p 2=some ⟨a,o,none⟩)∨(∃o,0<l 3∧p 3=some ⟨a,o,none⟩)∨(∃o,0<l 4∧p 4=some ⟨a,o,none⟩)∨(∃o,0<el∧ea=some ⟨a,o,none⟩)∨(∃o,0<dl∧da=some ⟨a,o,none⟩)
def Ty (lk vb sb : Nat) (p : Nat→Option Addr) (l : Nat→Nat) (ea da : Option Addr) (el dl : Nat) : Prop := ∀a,On sb p l ea da el dl a→a≠lk∧a≠vb
theorem row_lt {m n:Nat} {A:World} {a:Option Addr} {f:R} {q o:Nat} (h:Row (m+1) A a n f) (hn:0<n) (ha:a=some ⟨q,o,none⟩):q<A.heap.size:=by
 obtain⟨q',off,e,hc⟩:=h.cell 0 hn;rw[ha]at e;injection e with e;injection e with e;subst e;exact World.block_lt_of_cell? _ _ (hc 0 Om)
theorem ints_lt {n:Nat} {A:World} {a:Option Addr} {z:List Int} {q o:Nat} (h:IntRow A a n z) (hn:0<n) (ha:a=some ⟨q,o,none⟩):q<A.heap.size:=by
 obtain⟨q',off,e,hc⟩:=h.cell 0 hn;rw[ha]at e;injection e with e;injection e with e;subst e;exact World.block_lt_of_cell? _ _ hc
theorem bools_lt {n:Nat} {A:World} {a:Option Addr} {z:List Bool} {q o:Nat} (h:BoolRow A a n z) (hn:0<n) (ha:a=some ⟨q,o,none⟩):q<A.heap.size:=by
 obtain⟨q',off,e,hc⟩:=h.cell 0 hn;rw[ha]at e;injection e with e;injection e with e;subst e;exact World.block_lt_of_cell? _ _ hc
theorem on_lt {A:World} (h:Sc sb b B F p l c g o e x ea da el ec dl dc env ds A) {a:Nat} (ha:On sb p l ea da el dl a):a<A.heap.size:=by
 rcases ha with rfl|⟨_,h0,h1⟩|⟨_,h0,h1⟩|⟨_,h0,h1⟩|⟨_,h0,h1⟩|⟨_,h0,h1⟩|⟨_,h0,h1⟩
 · exact World.block_lt_of_cell? _ _ h.s0
 · exact row_lt h.fit.links h0 h1
 · exact ints_lt h.orig h0 h1
 · exact ints_lt h.exts h0 h1
 · exact row_lt h.fit.imports h0 h1
 · exact ints_lt h.envs h0 h1
 exact bools_lt h.downs h0 h1
theorem on_ne {A:World} (h:Sc sb b B F p l c g o e x ea da el ec dl dc env ds A) {a:Nat} (ha:On sb p l ea da el dl a):a≠b:=by
 rcases ha with rfl|⟨_,h0,h1⟩|⟨_,h0,h1⟩|⟨_,h0,h1⟩|⟨_,h0,h1⟩|⟨_,h0,h1⟩|⟨_,h0,h1⟩
 · exact h.ns
 · exact h.fit.n1 _ _ h0 h1
 · exact h.n2 _ _ h0 h1
 · exact h.n3 _ _ h0 h1
 · exact h.fit.n4 _ _ h0 h1
 · exact h.ne _ _ h0 h1
 exact h.nd _ _ h0 h1
theorem row_by {m n:Nat} {A A':World} {a:Option Addr} {f:R} (h:Row m A a n f) (hk:∀q o v,(∃o,0<n∧a=some ⟨q,o,none⟩)→A.cell? ⟨q,o,none⟩=some v→A'.cell? ⟨q,o,none⟩=some v):Row m A' a n f :=
 ⟨h.most,fun i hi=>by
  obtain⟨q,off,e,hc⟩:=h.cell i hi
  exact⟨q,off,e,fun j hj=>hk _ _ _ ⟨off,by omega,e⟩ (hc j hj)⟩⟩
theorem ints_by {n:Nat} {A A':World} {a:Option Addr} {z:List Int} (h:IntRow A a n z) (hk:∀q o v,(∃o,0<n∧a=some ⟨q,o,none⟩)→A.cell? ⟨q,o,none⟩=some v→A'.cell? ⟨q,o,none⟩=some v):IntRow A' a n z :=
 ⟨h.length,h.most,fun i hi=>by
  obtain⟨q,off,e,hc⟩:=h.cell i hi
  exact⟨q,off,e,hk _ _ _ ⟨off,by omega,e⟩ hc⟩⟩
theorem bools_by {n:Nat} {A A':World} {a:Option Addr} {z:List Bool} (h:BoolRow A a n z) (hk:∀q o v,(∃o,0<n∧a=some ⟨q,o,none⟩)→A.cell? ⟨q,o,none⟩=some v→A'.cell? ⟨q,o,none⟩=some v):BoolRow A' a n z :=
 ⟨h.length,h.most,fun i hi=>by
  obtain⟨q,off,e,hc⟩:=h.cell i hi
  exact⟨q,off,e,hk _ _ _ ⟨off,by omega,e⟩ hc⟩⟩
theorem Sc.by_ {A A':World} (h:Sc sb b B F p l c g o e x ea da el ec dl dc env ds A) (hk:∀q,On sb p l ea da el dl q→A'.heap[q]? = A.heap[q]?) (hr:Ready b B F A' (p 1) (p 4) (l 1) (l 4) (c 1) (c 4) g x) (hz:A.heap.size≤A'.heap.size):Sc sb b B F p l c g o e x ea da el ec dl dc env ds A' := by
 have k:∀q o v,On sb p l ea da el dl q→A.cell? ⟨q,o,none⟩=some v→A'.cell? ⟨q,o,none⟩=some v:=fun q o v hq hc=>(World.cell?_of_block (a:=⟨q,o,none⟩) (hk q hq)).trans hc;exact⟨k _ _ _ (.inl rfl) h.s0,k _ _ _ (.inl rfl) h.s1,k _ _ _ (.inl rfl) h.s2,hr,⟨h.fit.f1,h.fit.f4,row_by h.fit.links (fun q o v hq=>k q o v (.inr (.inl hq))),row_by h.fit.imports (fun q o v hq=>k q o v (.inr (.inr (.inr (.inr (.inl hq)))))),h.fit.gi,h.fit.xi,h.fit.few,h.fit.n1,h.fit.n4⟩,h.f2,h.f3,ints_by h.orig (fun q o v hq=>k q o v (.inr (.inr (.inl hq)))),ints_by h.exts (fun q o v hq=>k q o v (.inr (.inr (.inr (.inl hq))))),ints_by h.envs (fun q o v hq=>k q o v (.inr (.inr (.inr (.inr (.inr (.inl hq))))))),bools_by h.downs (fun q o v hq=>k q o v (.inr (.inr (.inr (.inr (.inr (.inr hq))))))),h.ns,h.n2,h.n3,h.ne,h.nd,Nat.le_trans h.hB hz,h.le,h.ld⟩
theorem ready_net {A:World} (h:Ready b B F A (p 1) (p 4) (l 1) (l 4) (c 1) (c 4) g x) {i:Nat} (hi:i<6):A.cell? ⟨b,i,none⟩=some (F i):=by
 rcases h with ⟨h1,_⟩|⟨V,F',hm⟩
 · exact h1.cell Om
 rw[←hm.net i hi];exact hm.row.cell Om
theorem ready_lt {A:World} (h:Ready b B F A (p 1) (p 4) (l 1) (l 4) (c 1) (c 4) g x):b<A.heap.size:=World.block_lt_of_cell? _ _ (ready_net h (i:=0) Om)
theorem ready_df {X:Nat→Prop} {A A':World} (h:Ready b B F A (p 1) (p 4) (l 1) (l 4) (c 1) (c 4) g x) (hd:Df X A A') (hb:¬X b) (hx:∀q,X q→Soft A q):Ready b B F A' (p 1) (p 4) (l 1) (l 4) (c 1) (c 4) g x :=
 ready_ch h (X:=X) ⟨hd.os,hd.tape,hd.output,hd.size,hd.blk⟩ hb (fun q hq cs fr h9=>by rcases hx q hq cs _ fr h9 with h|h<;>exact absurd h (by decide))
theorem ready_kp {N:Nat} {T:Nat→TypeId→Prop} {A A':World} (h:Ready b B F A (p 1) (p 4) (l 1) (l 4) (c 1) (c 4) g x) (hd:KpV b T N A A') (h1:∀q,¬T q 79) (h2:∀q,¬T q 116):Ready b B F A' (p 1) (p 4) (l 1) (l 4) (c 1) (c 4) g x:=by
 refine ready_ch h (X:=fun q=>¬((N≤q∨∃cs t fr,A.heap[q]? = some (.cells cs t fr))∧(∀cs t fr,A.heap[q]? = some (.cells cs t fr)→¬T q t))) ⟨hd.os,hd.tape,hd.output,hd.size,fun q hq hx=>?_⟩ (fun hx=>hx ?_) (fun q hx cs fr h9=>hx ⟨.inr ⟨_,_,_,h9⟩,fun cs' t' fr' h8=>?_⟩)
 · have hx:=Classical.not_not.1 hx;exact hd.blk q hq hx.1 hx.2
 · have hbk : ∃ cs fr, A.heap[b]? = some (.cells cs 79 fr) := by
    rcases h with ⟨⟨cs,h3,_⟩,_⟩|⟨V,F',hm⟩
    · exact⟨cs,_,h3⟩
    obtain⟨cs,h3,_⟩:=hm.row;exact⟨cs,_,h3⟩
   obtain⟨cs,fr,h3⟩:=hbk;exact⟨.inr ⟨_,_,_,h3⟩,fun cs' t' fr' h8=>by rw[h3]at h8;injection h8 with h8;injection h8 with _ h8 _;subst h8;exact h1 _⟩
 rw[h9]at h8;injection h8 with h8;injection h8 with _ h8 _;subst h8;exact h2 _
theorem kp_memo {N lk vb:Nat} {A A':World} (hA:Ready b B F A (p 1) (p 4) (l 1) (l 4) (c 1) (c 4) g x) (hA':Ready b B F A' (p 1) (p 4) (l 1) (l 4) (c 1) (c 4) g x) (hg:A.grownBy A' (some b)):KpV b (TV lk vb) N A A' := by
 refine⟨hg.os,hg.tape,hg.output,hg.size,fun q hq _ hx=>hg.block q hq (fun e=>?_),fun q cs t fr hq=>?_,fun i v hi hv=>?_⟩
 · injection e with e;subst e;rcases hA with ⟨⟨cs,h3,_⟩,_⟩|⟨V,F',hm⟩
   · exact hx _ _ _ h3 (.inr (.inl rfl))
   obtain⟨cs,h3,_⟩:=hm.row;exact hx _ _ _ h3 (.inr (.inl rfl))
 · by_cases e:q=b
   · subst e
     have h1:t=79∧fr=(0,0):=by
      rcases hA with ⟨⟨cs,h3,_⟩,_⟩|⟨V,F',hm⟩
      · rw[hq]at h3;injection h3 with h3;injection h3 with _ h4 h5;exact⟨h4,h5⟩
      obtain⟨cs,h3,_⟩:=hm.row;rw[hq]at h3;injection h3 with h3;injection h3 with _ h4 h5;exact⟨h4,h5⟩
     obtain⟨rfl,rfl⟩:=h1;rcases hA' with ⟨⟨cs,h3,_⟩,_⟩|⟨V,F',hm⟩
     · exact⟨cs,h3⟩
     obtain⟨cs,h3,_⟩:=hm.row;exact⟨cs,h3⟩
   exact⟨cs,(hg.block q (Array.getElem?_eq_some_iff.1 hq).1 (fun e'=>e (by injection e'))).trans hq⟩
 rw[ready_net hA hi]at hv;rw[ready_net hA' hi];exact hv
def viasP (g : R) (nl : Nat) (o e : List Int) (x : R) (nx : Nat) (env : List Int) (ds : List Bool) (n : Nat) : List (List Int) := (prod (fun i : Nat=>rowP g nl o e env ds (i : Int) (n+3)) n).filter (goodB g nl o e x nx env ds n)
def AtT (b B : Nat) (F : Nat→Value) (p : Nat→Option Addr) (l c : Nat→Nat) (g : R) (o e : List Int) (x : R) (env : List Int) (ds : List Bool) (n : Nat) (pre : List (Nat × List Int)) (y : Nat × List Int) (W : World) : Prop :=
 RtLaid W y.1 n n (valR g (l 1) o e x (l 4) env ds y.2 n)∧Ready b B F W (p 1) (p 4) (l 1) (l 4) (c 1) (c 4) g x∧∃suf,viasP g (l 1) o e x (l 4) env ds n=pre.map (·.2)++y.2::suf
structure IT (lk vb : Nat) (J : List (Nat × List Int)→World→Prop) (good : List Int→Bool) (sb b B : Nat) (F : Nat→Value) (p : Nat→Option Addr) (l c : Nat→Nat) (g : R) (o e : List Int) (x : R) (ea da : Option Addr) (el ec dl dc : Nat) (env : List Int) (ds : List Bool) (yb lB Sx : Nat) (pre : List (Nat × List Int)) (W : World) : Prop where
 ex:∃ys:List (Nat × List Int),J ys W∧ys.map (·.2)=(pre.map (·.2)).filter good
 box:Boxed W yb 98 (.func (.yield lB) #[] #[])
 sx:Boxed W Sx 94 (.pointer (some ⟨sb,0,none⟩))
 sc:Sc sb b B F p l c g o e x ea da el ec dl dc env ds W
 ty:Ty lk vb sb p l ea da el dl
theorem on_cells {A:World} (h:Sc sb b B F p l c g o e x ea da el ec dl dc env ds A) {a:Nat} (ha:On sb p l ea da el dl a):∃cs t fr,A.heap[a]? = some (.cells cs t fr):=by
 have hc:∃i v,A.cell? ⟨a,i,none⟩=some v:=by
  rcases ha with rfl|⟨_,h0,h1⟩|⟨_,h0,h1⟩|⟨_,h0,h1⟩|⟨_,h0,h1⟩|⟨_,h0,h1⟩|⟨_,h0,h1⟩
  · exact⟨_,_,h.s0⟩
  · obtain⟨q,off,e,hc⟩:=h.fit.links.cell 0 h0;rw[h1]at e;injection e with e;injection e with e;subst e
    exact⟨_,_,hc 0 Om⟩
  · obtain⟨q,off,e,hc⟩:=h.orig.cell 0 h0;rw[h1]at e;injection e with e;injection e with e;subst e
    exact⟨_,_,hc⟩
  · obtain⟨q,off,e,hc⟩:=h.exts.cell 0 h0;rw[h1]at e;injection e with e;injection e with e;subst e
    exact⟨_,_,hc⟩
  · obtain⟨q,off,e,hc⟩:=h.fit.imports.cell 0 h0;rw[h1]at e;injection e with e;injection e with e;subst e
    exact⟨_,_,hc 0 Om⟩
  · obtain⟨q,off,e,hc⟩:=h.envs.cell 0 h0;rw[h1]at e;injection e with e;injection e with e;subst e
    exact⟨_,_,hc⟩
  obtain⟨q,off,e,hc⟩:=h.downs.cell 0 h0;rw[h1]at e;injection e with e;injection e with e;subst e
  exact⟨_,_,hc⟩
 obtain⟨i,v,hc⟩:=hc;obtain⟨ob,h1,h2⟩:=cells_of_cell hc;have h1:A.heap[a]? = some ob:=h1
 cases ob with
 | cells cs t fr=>exact⟨cs,t,fr,h1⟩
 | _=>cases h2
theorem on_kp {N lk vb:Nat} {A A':World} (h:Sc sb b B F p l c g o e x ea da el ec dl dc env ds A) (ht:Ty lk vb sb p l ea da el dl) (hd:KpV b (TS lk vb) N A A'):∀q,On sb p l ea da el dl q→A'.heap[q]? = A.heap[q]?:=fun q hq =>
 hd.blk q (on_lt h hq) (.inr (on_cells h hq)) (fun cs t fr h9 hts=>hts.elim (fun h=>(ht q hq).1 h.2) (fun h=>(ht q hq).2 h.2))
variable {lk vb : Nat} {J : List (Nat × List Int)→World→Prop} {good : List Int→Bool} {yb lB Sx : Nat} {pre : List (Nat × List Int)} {A A' : World}
theorem IT.memo (h:IT lk vb J good sb b B F p l c g o e x ea da el ec dl dc env ds yb lB Sx pre A) (hJ:∀s A A',Df (fun q=>q=b) A A'→J s A→J s A') (hs:Sc sb b B F p l c g o e x ea da el ec dl dc env ds A') (hg:A.grownBy A' (some b)) (hy:yb≠b) (hx:Sx≠b):IT lk vb J good sb b B F p l c g o e x ea da el ec dl dc env ds yb lB Sx pre A' := by
 obtain⟨⟨ys,h1,h2⟩,h3,h4,h5,h6⟩:=h;have hk:∀q,q<A.heap.size→q≠b→A'.heap[q]? = A.heap[q]?:=fun q hq hne=>hg.block q hq (fun e=>hne (by injection e));exact⟨⟨ys,hJ _ _ _ (Df.of_grown hg) h1,h2⟩,(hk _ h3.lt hy).trans h3,(hk _ h4.lt hx).trans h4,hs,h6⟩
theorem IT.no {y:Nat × List Int} (h:IT lk vb J good sb b B F p l c g o e x ea da el ec dl dc env ds yb lB Sx pre A) (hy:good y.2=false):IT lk vb J good sb b B F p l c g o e x ea da el ec dl dc env ds yb lB Sx (pre++[y]) A:=by
 obtain⟨⟨ys,h1,h2⟩,h3⟩:=h;exact⟨⟨ys,h1,by rw[h2,List.map_append,List.filter_append];simp[hy]⟩,h3,by assumption,by assumption,by assumption⟩
set_option maxRecDepth 100000 in
set_option maxHeartbeats 6400000 in
theorem states_two (lk vb n Sx:Nat) (hf0:F 0=.slice (p 0) (l 0) (c 0)) (hf:Fine n l g x) (hn0:l 0=n) (hn1:1≤n) (hen:∀i,0≤zAt env i) :
  SeqTwo Tryz.prog 84 #[.pointer (some ⟨Sx,0,none⟩)] (fun y:Nat × List Int=>#[.slice (some ⟨y.1,0,none⟩) n n]) (AtT b B F p l c g o e x env ds n) (KpV b (TS lk vb)) (fun q=>q=b) (fun ys=>ys.map (·.2)=viasP g (l 1) o e x (l 4) env ds n)
   (fun W=>Boxed W Sx 94 (.pointer (some ⟨sb,0,none⟩))∧Sc sb b B F p l c g o e x ea da el ec dl dc env ds W∧Ty lk vb sb p l ea da el dl) (fun W=>Ready b B F W (p 1) (p 4) (l 1) (l 4) (c 1) (c 4) g x):=by
 rintro lB J Jx W ⟨hsx,hsc,hty⟩ hJ hJx hY h0;have HF:=hid hf;have hn4:=hf.few;have hbW:b<W.heap.size:=ready_lt hsc.ready
 have hSb:Sx≠b:=fun e=>by
  subst e;have:=ready_type hsc.ready _ _ _ hsx;exact absurd this (by decide)
 have HJ:=hid hJ;have HJx:=hid hJx;have HY:=hid hY;have qs:=hsx.cell;have ls:=hsx.lt;obtain⟨W0,hW0⟩:∃W0,W.alloc (.cells #[.func (.yield lB) #[] #[]] 98)=W0:=⟨_,rfl⟩;have hb0:Below W.heap.size W W0:=by rw[←hW0];exact Bl
 have hsc0:Sc sb b B F p l c g o e x ea da el ec dl dc env ds W0:=hsc.below hb0;have HCh:=hid (choices_impl n hsc0 hf0 hf.uniq hn0 hn1 hn4);have hz0:W0.heap.size=W.heap.size+1:=by rw[←hW0];simp
 have HOn:Hid (∀a,On sb p l ea da el dl a→a<W.heap.size∧a≠b):=hid (fun a ha=>⟨on_lt hsc ha,on_ne hsc ha⟩);have HI0:Hid (IT lk vb J (goodB g (l 1) o e x (l 4) env ds n) sb b B F p l c g o e x ea da el ec dl dc env ds W.heap.size lB Sx [] W0):=hid ⟨⟨[],hJ _ _ _ ((Df.of_below hb0).mono (fun _ _ h=>h.elim)) h0,rfl⟩,by rw[←hW0];exact Boxed.new _ _ _,(hb0.block _ hsx.lt).trans hsx,hsc0,hty⟩;have HW0:=hid hW0;rw[←hW0]at HCh;clear hf hsx hsc hty hJ hJx hY h0 hb0 hsc0 hW0;refine callsIn_of_wp_marks Tryz.func84 rfl trivial ?_ rfl;simp only[Tryz.ntmps84,List.size_toArray,List.length_cons,List.length_nil,Nat.reduceAdd,Nat.reduceSub,Array.replicate_succ,Array.replicate_zero,List.push_toArray,List.append_toArray,List.nil_append,List.cons_append];gi_wp2;refine⟨trivial,(callsIn_wide.2 HCh.out).mono ?_⟩;rintro e1 w2 ⟨Bx,RB,V,rfl,hbx,hrd2,hBx,hRB,hs2,hg2⟩;rw[HW0.out]at hrd2 hBx hRB hg2;have hblk2:∀q,q<W0.heap.size→q≠b→w2.heap[q]? = W0.heap[q]?:=fun q hq hne=>hg2.block q hq (fun e=>hne (by injection e))
 have HI2:Hid (IT lk vb J (goodB g (l 1) o e x (l 4) env ds n) sb b B F p l c g o e x ea da el ec dl dc env ds W.heap.size lB Sx [] w2):=hid (by
  obtain⟨⟨ys,h1,h2⟩,h3,h4,h5,h6⟩:=HI0.out
  exact⟨⟨ys,HJ.out _ _ _ ((Df.of_grown hg2).mono (fun q _ h=>.inl h)) h1,h2⟩,(hblk2 _ h3.lt Om).trans h3,(hblk2 _ h4.lt hSb).trans h4,hs2,h6⟩)
 have hz2:W.heap.size<w2.heap.size:=by have:=hg2.size;omega
 have HBx:=hid hbx;obtain⟨L,hL⟩:∃L:Nat→List Int,(fun i:Nat=>rowP g (l 1) o e env ds (i:Int) (n+3))=L:=⟨_,rfl⟩;have HLe:=hid hL;rw[hL]at hrd2;have HRd:Hid (pickI.RowsD W0.heap.size w2.heap.size RB n V L w2):=hid ⟨hrd2.row,hrd2.own,hrd2.low,hrd2.few⟩;have HQ:Hid (viasP g (l 1) o e x (l 4) env ds n=(prod L n).filter (goodB g (l 1) o e x (l 4) env ds n)):=hid (by unfold viasP;rw[hL]);clear hL hbx hrd2 hs2 hg2 HCh qs ls HI0;gi_wp2
 refine range_out (picks_two (w2.heap.size+1+1) W0.heap.size w2.heap.size RB Bx n V L Om (KpV b (TV lk vb)) (KpV.int (fun _=>(nv (by decide) (by decide) (by decide))) (fun _=>(nv (by decide) (by decide) (by decide))) (fun _=>(nv (by decide) (by decide) (by decide))))) rfl (enters_of Tryz.func148 Kr rfl) (fun q hq=>hq.elim) (fun r=>?hstart) KpV.trans (fun W' ob ob' h hc=>KpV.put ob' h hc Om) (fun _=>rfl)
  (IT lk vb J (goodB g (l 1) o e x (l 4) env ds n) sb b B F p l c g o e x ea da el ec dl dc env ds W.heap.size lB Sx) (fun c A=>c=.ret∧Jx A) ?hI ?hIx ?hAt (fun _ _ _ _ _=>trivial) HI2.out
  (fun y a' _=>a' = ⟨#[.func (.yield lB) #[] #[],.pointer (some ⟨Sx,0,none⟩),.pointer (some ⟨W.heap.size,0,none⟩),.slice (some ⟨y.1,0,none⟩) n n,undef,undef,.pointer (some ⟨sb,0,none⟩),.func (.func 148) #[] #[.pointer (some ⟨Bx,0,none⟩)],.slice (some ⟨y.1,0,none⟩) n n,undef,undef,undef,undef,undef,undef,undef,undef,undef,undef,undef,undef,undef,undef,undef,undef,undef,undef],[]⟩) (fun _ _ _ _ _ h=>h) (fun _ _ h=>KpV.df h) ?hassign ?hbody ?hdone ?hstop
 case hstart =>
  have hb:Below w2.heap.size w2 ((w2.alloc (.deferred (some []))).alloc (.loop r)):=Bl;exact⟨HRd.out.kept (picksI.kp_below hb),(hb.block _ HBx.out.lt).trans HBx.out,hb.size,by simp⟩
 case hI =>
  rintro pre A A' hd ⟨⟨ys,h1,h2⟩,h3,h4,h5,h6⟩;have hx:∀q,(False∨(w2.heap.size≤q∧Soft A q))→w2.heap.size≤q:=fun q hq=>hq.elim (fun h=>h.elim) (fun h=>h.1);have hk:∀q,On sb p l ea da el dl q→A'.heap[q]? = A.heap[q]?:=fun q hq=>hd.blk q (on_lt h5 hq) (fun k=>by have:=hx q k;have:=(HOn.out q hq).1;omega);exact⟨⟨ys,HJ.out _ _ _ (hd.mono fun q _ h=>h.elim (fun h=>h.elim) fun h=>.inr ⟨by omega,h.2⟩) h1,h2⟩,hd.keeps h3 (fun k=>by have:=hx _ k;omega),hd.keeps h4 (fun k=>by have:=hx _ k;have:=HI2.out.sx.lt;omega),Sc.by_ h5 hk (ready_df h5.ready hd (fun k=>by have:=hx _ k;omega) (fun q k=>k.elim (fun h=>h.elim) (fun h=>h.2))) hd.size,h6⟩
 case hIx =>
  rintro c A A' hd ⟨h1,h2⟩;exact⟨h1,HJx.out _ _ (hd.mono fun q _ h=>h.elim (fun h=>h.elim) fun h=>.inr ⟨by omega,h.2⟩) h2⟩
 case hAt =>
  rintro pre y A A' - hd ⟨⟨h1,h2,h3,h4⟩,h5⟩;exact⟨⟨h1,h2,h3,h4.of_block (hd.blk _ h4.lt Om)⟩,h5⟩
 case hassign =>
  intro y W' K _ hK;gi_wp2;exact hK _ _ (Df.refl _ _) rfl
 case hdone =>
  rintro xs A' ⟨LB,rfl⟩ ⟨⟨ys,h1,h2⟩,h3,h4,h5,h6⟩ - hD;have HJe:=hid h1
  have HSe:Hid (ys.map (·.2)=viasP g (l 1) o e x (l 4) env ds n):=hid (by
   rw[h2,HQ.out,List.map_map]
   congr 1
   exact List.map_id _)
  have HDe:=hid hD;have HRe:=hid h5.ready;clear h1 h2 h3 h4 h5 h6 hD;gi_wp2;refine leaves_marks (B:=W.heap.size) [w2.heap.size] A' ⟨by simp,fun D hD=>by simp only[List.mem_singleton]at hD;subst hD;exact⟨by omega,HDe.out⟩⟩ (fun W'' hc=>⟨_,results_none rfl _ _ _,⟨_,rfl⟩,.inl ⟨ys,HSe.out,HJ.out _ _ _ ⟨hc.os,hc.tape,hc.output,hc.size,fun q hq hx=>hc.blk q hq (fun hm=>hx (.inr (by simp only[List.mem_singleton]at hm;subst hm;exact⟨by omega,soft_of HDe.out rfl⟩)))⟩ HJe.out,ready_ch HRe.out hc (fun hm=>by simp only[List.mem_singleton]at hm;omega) (fun q hm cs fr h9=>by simp only[List.mem_singleton]at hm;subst hm;rw[HDe.out]at h9;cases h9)⟩⟩)
 case hstop =>
  rintro c A' ⟨rfl,h1⟩ hD;have HJe:=hid h1;have HDe:=hid hD;clear h1 hD;gi_wp2;refine leaves_marks (B:=W.heap.size) [w2.heap.size] A' ⟨by simp,fun D hD=>by simp only[List.mem_singleton]at hD;subst hD;exact⟨by omega,HDe.out⟩⟩ (fun W'' hc=>⟨_,results_none rfl _ _ _,⟨_,rfl⟩,.inr (HJx.out _ _ ⟨hc.os,hc.tape,hc.output,hc.size,fun q hq hx=>hc.blk q hq (fun hm=>hx (.inr (by simp only[List.mem_singleton]at hm;subst hm;exact⟨by omega,noc_of HDe.out rfl⟩)))⟩ HJe.out)⟩)
 rintro pre ⟨LB,cv⟩ a9 W' hi ⟨⟨hLB,hlen,hin,hrow⟩,suf,hsuf⟩ rfl hD ⟨r9,hr9⟩;dsimp only at hLB hlen hin hrow hsuf
 have hvv:∀i,-3≤zAt cv i∧zAt cv i<n:=fun i=>by
  by_cases hi':i<n
  · have:=hin i hi';rw[←HLe.out]at this;exact row_in this
  unfold zAt;rw[List.getElem?_eq_none Om];simp only[Option.getD_none];omega
 have hir:IntRow W' (some ⟨LB,0,none⟩) n cv:=⟨hlen,by unfold maxLen;omega,fun i hi'=>⟨LB,0,rfl,by simpa[zAt] using hrow.cell hi'⟩⟩;have HI:=hid hi;have HVv:=hid hvv;have HSuf:=hid hsuf;have HD:=hid hD;have HR:=hid hr9;have qs:=hi.sx.cell;have HRo:=hid (routesOf_impl (some ⟨LB,0,none⟩) n n cv hi.sc HF.out hir (fun a o e=>by injection e with e;injection e with e1 _;omega) hn1 hvv);have HGo:Hid (goodB g (l 1) o e x (l 4) env ds n cv=(okV g (l 1) o e x (l 4) env ds cv n&&stabB g (l 1) o e x (l 4) env ds (valR g (l 1) o e x (l 4) env ds cv n) n)):=hid rfl;have hbW':b<W'.heap.size:=ready_lt hi.sc.ready;have HJb:Hid (∀s A A',Df (fun q=>q=b) A A'→J s A→J s A'):=hid (fun s A A' hd=>HJ.out s A A' (hd.mono fun q _ h=>.inl h));clear hi hvv hir hin hrow hsuf hD hr9 hlen;gi_wp2;refine⟨trivial,(CallsIn.inRound _ (callsIn_wide.2 HRo.out)).mono ?_⟩;rintro e1 w3 ⟨hres,hs3,hg3⟩;have HI3:=hid (HI.out.memo HJb.out hs3 hg3 Om hSb);have HK3:Hid (KpV b (TV lk vb) (w2.heap.size+1+1) W' w3):=hid (kp_memo HI.out.sc.ready hs3.ready hg3);have HR3:Hid (w3.heap[w2.heap.size+1]? = W'.heap[w2.heap.size+1]?):=hid (hg3.block _ (Array.getElem?_eq_some_iff.1 HR.out).1 (fun e=>by injection e with e;omega));have HD3:Hid (w3.heap[w2.heap.size]? = W'.heap[w2.heap.size]?):=hid (hg3.block _ (Array.getElem?_eq_some_iff.1 HD.out).1 (fun e=>by injection e with e;omega));have qs3:=HI3.out.sx.cell;have qy3:=HI3.out.box.cell;have hg3s:=hg3.size;clear hs3 hg3 qs HRo;rcases hres with ⟨hok,N,rfl,hN,hl3⟩|⟨hok,rfl⟩
 · rw[hok,Bool.true_and]at HGo;have hgd:sceneBy.Good n l g x (valR g (l 1) o e x (l 4) env ds cv n):=⟨hn4,HF.out.uniq,HF.out.cost,HF.out.deed,fun i hi=>(stateSeq.valR_bounds hn1 hn4 HVv.out HF.out.cost hok hi).1,fun i hi=>(stateSeq.valR_bounds hn1 hn4 HVv.out HF.out.cost hok hi).2⟩;have hst:=stable_impl (some ⟨N,0,none⟩) n n (valR g (l 1) o e x (l 4) env ds cv n) HI3.out.sc hgd (hl3.is (by unfold maxLen;omega)) (fun a o e=>by injection e with e;injection e with e1 _;omega) hn1
   have hsb:sameTo (bests g (l 1) o e x (l 4) env ds (valR g (l 1) o e x (l 4) env ds cv n) n) (valR g (l 1) o e x (l 4) env ds cv n) n=goodB g (l 1) o e x (l 4) env ds n cv:=by
    rw[HGo.out,bests_cand hn4 (fun i hi=>(hgd.via i hi).2) hen];rfl
   rw[hsb]at hst;have HSt:=hid hst;have HL3:=hid hl3;have hNw:N<w3.heap.size:=by obtain⟨f,hf,-⟩:=hl3.row;exact hf.lt
   clear hst hgd hl3 hsb HGo;gi_wp2;refine⟨trivial,(CallsIn.inRound _ (callsIn_wide.2 HSt.out)).mono ?_⟩;rintro e2 w4 ⟨rfl,hs4,hg4⟩;have HI4:=hid (HI3.out.memo HJb.out hs4 hg4 Om hSb);have HK4:Hid (KpV b (TV lk vb) (w2.heap.size+1+1) W' w4):=hid (HK3.out.trans (kp_memo HI3.out.sc.ready hs4.ready hg4));have HR4:Hid (w4.heap[w2.heap.size+1]? = W'.heap[w2.heap.size+1]?):=hid ((hg4.block _ (by have:=(Array.getElem?_eq_some_iff.1 HR.out).1;omega) (fun e=>by injection e with e;omega)).trans HR3.out);have HD4:Hid (w4.heap[w2.heap.size]? = W'.heap[w2.heap.size]?):=hid ((hg4.block _ (by have:=(Array.getElem?_eq_some_iff.1 HD.out).1;omega) (fun e=>by injection e with e;omega)).trans HD3.out);have HL4:=hid (laid_ch HL3.out (Ch.of_grown hg4) (fun e=>by injection e with e;omega));have qy4:=HI4.out.box.cell;clear hs4 hg4 qs3 qy3 HSt HL3 HI3 HK3 HR3 HD3;obtain⟨gd,hgd⟩:∃gd,goodB g (l 1) o e x (l 4) env ds n cv=gd:=⟨_,rfl⟩;have HGd:=hid hgd;rw[hgd];clear hgd
   cases gd with
   | false =>
    gi_wp2;refine⟨fun _ h=>(by cases h),?_⟩;gi_wp2;exact⟨HR4.out,⟨HD4.out,HK4.out⟩,HI4.out.no HGd.out⟩
   | true =>
    obtain⟨ys,h1,h2⟩:=HI4.out.ex
    have hsf:∃suf,viasP g (l 1) o e x (l 4) env ds n=ys.map (·.2)++cv::suf:=by
     rw[HQ.out,HSuf.out,List.filter_append,h2];refine⟨suf.filter (goodB g (l 1) o e x (l 4) env ds n),?_⟩;rw[List.filter_cons,HGd.out];rfl
    obtain⟨fn,tmps,assign,body,hy,hround⟩:=yield_any (m' := 8) (HY.out ys (N,cv) w4 h1 ⟨HL4.out,HI4.out.sc.ready,hsf⟩)
    try dsimp only at hy
    have HYs:=hid h2;clear h1 h2 hsf;gi_wp2;refine hround.mono ?_;rintro e5 w5 (⟨rfl,hj5,hk5⟩|⟨rfl,hj5,hk5⟩)
    · have hon:=on_kp HI4.out.sc HI4.out.ty hk5
      have HI5:Hid (IT lk vb J (goodB g (l 1) o e x (l 4) env ds n) sb b B F p l c g o e x ea da el ec dl dc env ds W.heap.size lB Sx (pre++[(LB,cv)]) w5):=hid ⟨⟨ys++[(N,cv)],hj5,by
       rw[List.map_append,List.map_append,List.filter_append,HYs.out]
       simp[HGd.out]⟩,hk5.keep HI4.out.box (ns (by decide) (by decide)),hk5.keep HI4.out.sx (ns (by decide) (by decide)),Sc.by_ HI4.out.sc hon (ready_kp HI4.out.sc.ready hk5 (fun _=>(ns (by decide) (by decide))) (fun _=>(ns (by decide) (by decide)))) hk5.size,HI4.out.ty⟩
      have HR5:Hid (w5.heap[w2.heap.size+1]? = W'.heap[w2.heap.size+1]?):=hid ((hk5.other (HR4.out.trans HR.out) rfl Om).trans HR4.out);have HD5:Hid (w5.heap[w2.heap.size]? = W'.heap[w2.heap.size]?):=hid ((hk5.other (HD4.out.trans HD.out) rfl Om).trans HD4.out);have HK5:=hid (HK4.out.trans (hk5.mono (T' := TV lk vb) (fun _ t ht=>ts_tv ht) Om));clear hj5 hk5 hon;gi_wp2;exact⟨HR5.out,⟨HD5.out,HK5.out⟩,HI5.out⟩
    have HJ5:=hid hj5;have HR5:Hid (w5.heap[w2.heap.size+1]? = W'.heap[w2.heap.size+1]?):=hid ((hk5.other (HR4.out.trans HR.out) rfl Om).trans HR4.out);have HD5:Hid (w5.heap[w2.heap.size]? = W'.heap[w2.heap.size]?):=hid ((hk5.other (HD4.out.trans HD.out) rfl Om).trans HD4.out);have HK5:=hid (HK4.out.trans (hk5.mono (T' := TV lk vb) (fun _ t ht=>ts_tv ht) Om));clear hj5 hk5;gi_wp2;exact⟨HR5.out,⟨HD5.out,HK5.out⟩,rfl,HJ5.out⟩
 rw[hok,Bool.false_and]at HGo;gi_wp2;refine⟨trivial,?_⟩;gi_wp2;refine⟨fun _ h=>(by cases h),?_⟩;gi_wp2;exact⟨HR3.out,⟨HD3.out,HK3.out⟩,HI3.out.no HGo.out⟩
end Go.Proofs.YtcnoemjeijjnjaaGreat.stateTwo
namespace Go.Proofs.YtcnoemjeijjnjaaGreat.filtSpec
open Go.RowKit Go.Deep Go base names netSem netSpec routeRow walkSem
set_option maxHeartbeats 1600000 in
theorem filt_spec (p:Nat→Option Addr) (l c:Nat→Nat) (f:R) (a b port:Int) (w:World) (h:Row 4 w (p 5) (l 5) f) :
  Calls Tryz.prog 79 #[netV p l c,.int .i64 a,.int .i64 b,.int .i64 port] w fun e' w'=>e' = .returned (.bool (filt f (l 5) a b port))∧Below w.heap.size w w' := by
 have hm:=h.most;unfold maxLen at hm;obtain⟨p5,h5⟩:∃q,p 5=q:=⟨_,rfl⟩;obtain⟨l5,hl5⟩:∃q,l 5=q:=⟨_,rfl⟩;unfold netV;rw[h5,hl5]at h;rw[hl5]at hm;rw[h5,hl5];clear h5 hl5;have HR:=hid h;clear h
 have C1:Hid (∀w8:World,Below (w.alloc (.cells #[.slice (p 0) (l 0) (c 0),.slice (p 1) (l 1) (c 1),.slice (p 2) (l 2) (c 2),.slice (p 3) (l 3) (c 3),.slice (p 4) (l 4) (c 4),.slice p5 l5 (c 5)] 29)).heap.size (w.alloc (.cells #[.slice (p 0) (l 0) (c 0),.slice (p 1) (l 1) (c 1),.slice (p 2) (l 2) (c 2),.slice (p 3) (l 3) (c 3),.slice (p 4) (l 4) (c 4),.slice p5 l5 (c 5)] 29)) w8 →
   w8.cell? ⟨w.heap.size,5,none⟩=some (.slice p5 l5 (c 5))∧Row 4 w8 p5 l5 f∧Below w.heap.size w w8) :=
  fun w8 hb=>⟨keep hb (by simp[go_sem]),(HR.out.below Bl).below hb,(show Below w.heap.size w _ from Bl).trans (hb.mono (by simp))⟩
 generalize c 5=c5 at *;go_enter Tryz.func79,Tryz.ntmps79;go_wp2;go_loopw [9] (fun i wr=>∃k:Nat,k≤l5∧i=.int .i64 k∧(∀j,j<k→filtB f a b port j=false)∧Below (w.alloc (.cells #[.slice (p 0) (l 0) (c 0),.slice (p 1) (l 1) (c 1),.slice (p 2) (l 2) (c 2),.slice (p 3) (l 3) (c 3),.slice (p 4) (l 4) (c 4),.slice p5 l5 c5] 29)).heap.size (w.alloc (.cells #[.slice (p 0) (l 0) (c 0),.slice (p 1) (l 1) (c 1),.slice (p 2) (l 2) (c 2),.slice (p 3) (l 3) (c 3),.slice (p 4) (l 4) (c 4),.slice p5 l5 c5] 29)) wr) (fun i _=>l5 - (intOf i).toNat)
 case atStart=>exact⟨0,Nat.zero_le _,rfl,fun j hj=>absurd hj (Nat.not_lt_zero _),Below.refl _ _⟩
 obtain⟨k,hk,rfl,ha,hbel⟩:=hrel;have HA:=hid ha;have HB:=hid hbel;obtain⟨q5,hrow,hB⟩:=C1.out wr hbel;have BR:=hid hB;have s0:=BR.out.size;have s1:=hbel.size;clear ha hB;by_cases hlt:k<l5
 · obtain⟨b0,off,rfl,c0,c1,c2,c3⟩:=hrow.at4 hlt;have HQ:Hid (filtB f a b port k=(f k 0==a&&f k 1==b&&inB port (f k 2) (f k 3))):=rfl;have qb:=World.block_lt_of_cell? _ _ c0;have q0:=World.block_lt_of_cell? _ _ q5;clear hrow hbel s1;generalize f k 0=x0 at *;generalize f k 1=x1 at *;generalize f k 2=x2 at *;generalize f k 3=x3 at *;obtain⟨p1,e1⟩:∃p,(x0==a)=p:=⟨_,rfl⟩;obtain⟨p2,e2⟩:∃p,(x1==b)=p:=⟨_,rfl⟩;obtain⟨p3,e3⟩:∃p,inB port x2 x3=p:=⟨_,rfl⟩;rw[e1,e2,e3]at HQ
   have HN:Hid (∀wz:World,(p1&&p2&&p3)=false→Below wr.heap.size wr wz→∃k':Nat,k'≤l5∧Value.int .i64 ((k:Int)+1)=.int .i64 k'∧(∀j,j<k'→filtB f a b port j=false)∧Below (w.alloc (.cells #[.slice (p 0) (l 0) (c 0),.slice (p 1) (l 1) (c 1),.slice (p 2) (l 2) (c 2),.slice (p 3) (l 3) (c 3),.slice (p 4) (l 4) (c 4),.slice (some ⟨b0,off,none⟩) l5 c5] 29)).heap.size (w.alloc (.cells #[.slice (p 0) (l 0) (c 0),.slice (p 1) (l 1) (c 1),.slice (p 2) (l 2) (c 2),.slice (p 3) (l 3) (c 3),.slice (p 4) (l 4) (c 4),.slice (some ⟨b0,off,none⟩) l5 c5] 29)) wz) :=
    fun wz h0 hz=>⟨k+1,by omega,by go_num,fun j hj=>by
     by_cases e:j=k
     · subst e;rw[HQ.out];exact h0
     exact HA.out j Om,HB.out.trans (hz.mono HB.out.size)⟩
   cases p1 with
   | false =>
    go_wp2;go_roundw
    case rel=>exact HN.out _ rfl Bl
    case measure=>simp[intOf];omega
   | true =>
    cases p2 with
    | false =>
     go_wp2;go_roundw
     case rel=>exact HN.out _ rfl Bl
     case measure=>simp[intOf];omega
    | true =>
     cases p3 with
     | false =>
      go_wp2_with (go_at_call 22;refine(in_spec _ _ _ _).mono ?_;rintro e w' ⟨rfl,hw'⟩;have hw' := hw'.symm;subst hw');go_roundw
      case rel=>exact HN.out _ rfl Bl
      case measure=>simp[intOf];omega
     | true =>
      go_wp2_with (go_at_call 22;refine(in_spec _ _ _ _).mono ?_;rintro e w' ⟨rfl,hw'⟩;have hw' := hw'.symm;subst hw');go_ret;exact⟨ret_bool (filt_hit hlt HQ.out).symm,BR.out.trans (Below.mono (show Below wr.heap.size wr _ from Bl) BR.out.size)⟩
 have e:k=l5:=by omega
 subst e;clear hbel hrow s1;go_wp2;go_ret;exact⟨ret_bool (filt_none HA.out).symm,BR.out⟩
end Go.Proofs.YtcnoemjeijjnjaaGreat.filtSpec
