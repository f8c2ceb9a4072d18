import Derived.Test.YtcnoemjeijjnjaaGreatPart22
import Derived.Test.YtcnoemjeijjnjaaGreatPart17
set_option linter.unusedVariables false
namespace Go.Proofs.YtcnoemjeijjnjaaGreat.rangeTwo
open Go.RowKit Go.Shelf Go rangeAt
structure Df (X : Nat→Prop) (A A' : World) : Prop where
 os:A'.os=A.os
 tape:A'.tape=A.tape
 output:A'.output=A.output
 size:A.heap.size≤A'.heap.size
 blk:∀q,q<A.heap.size→¬X q→A'.heap[q]? = A.heap[q]?
theorem Df.refl (X:Nat→Prop) (A:World):Df X A A:=⟨rfl,rfl,rfl,Nat.le_refl _,fun _ _ _=>rfl⟩
theorem Df.trans {X:Nat→Prop} {A B C:World} (h:Df X A B) (k:Df X B C):Df X A C :=
 ⟨k.os.trans h.os,k.tape.trans h.tape,k.output.trans h.output,Nat.le_trans h.size k.size,fun q hq hx=>(k.blk q (Nat.lt_of_lt_of_le hq h.size) hx).trans (h.blk q hq hx)⟩
theorem Df.mono {X Y:Nat→Prop} {A B:World} (h:Df X A B) (hxy:∀q,q<A.heap.size→X q→Y q):Df Y A B:=⟨h.os,h.tape,h.output,h.size,fun q hq hy=>h.blk q hq (fun hx=>hy (hxy q hq hx))⟩
theorem Df.put (W:World) (l:Nat) (o:Obj):Df (fun q=>q=l) W (W.putObj l o) :=
 ⟨rfl,rfl,rfl,by simp[World.putObj],fun q _ hx=>World.putObj_heap_other hx⟩
theorem Df.of_grown {A B:World} {r:Nat} (h:A.grownBy B (some r)):Df (fun q=>q=r) A B:=⟨h.os,h.tape,h.output,h.size,fun q hq hx=>h.block q hq (fun e=>hx (by injection e))⟩
theorem Df.of_below {A B:World} (h:Below A.heap.size A B):Df (fun _=>False) A B:=⟨h.os,h.tape,h.output,h.size,fun q hq _=>h.block q hq⟩
theorem Df.alloc (W:World) (o:Obj):Df (fun _=>False) W (W.alloc o):=Df.of_below (Below.alloc Bz (Nat.le_refl _) o)
theorem Df.keeps {X:Nat→Prop} {A B:World} {q:Nat} {o:Obj} (h:Df X A B) (hq:A.heap[q]? = some o) (hx:¬X q):B.heap[q]? = some o:=(h.blk q (Array.getElem?_eq_some_iff.1 hq).1 hx).trans hq
theorem Df.cell {X:Nat→Prop} {A B:World} {q o:Nat} {v:Value} (h:Df X A B) (hc:A.cell? ⟨q,o,none⟩=some v) (hx:¬X q):B.cell? ⟨q,o,none⟩=some v :=
 (World.cell?_of_block (a:=⟨q,o,none⟩) (h.blk q (World.block_lt_of_cell? _ _ hc) hx)).trans hc
def Soft (A : World) (q : Nat) : Prop := ∀(cs : Array Value) (t : TypeId) (fr : Nat × Nat),A.heap[q]? = some (Obj.cells cs t fr)→t=3∨t=4
theorem soft_of {A:World} {q:Nat} {o:Obj} (h:A.heap[q]? = some o) (ho:o.isCells=false):Soft A q:=fun cs t fr h9=>by
 rw[h]at h9;injection h9 with h9;subst h9;cases ho
def NoC (A : World) (q : Nat) : Prop := ∀(cs : Array Value) (t : TypeId) (fr : Nat × Nat),A.heap[q]?≠some (Obj.cells cs t fr)
theorem noc_of {A:World} {q:Nat} {o:Obj} (h:A.heap[q]? = some o) (ho:o.isCells=false):NoC A q:=fun cs t fr h9=>by
 rw[h]at h9;injection h9 with h9;subst h9;cases ho
def SeqTwo {α : Type} (P : Program) (g : Nat) (lb : Array Value) (encs : α→Array Value) (At : List α→α→World→Prop) (Kp : Nat→World→World→Prop) (X : Nat→Prop) (S : List α→Prop) (Start End : World→Prop) : Prop :=
 ∀(l:Nat) (J:List α→World→Prop) (Jx:World→Prop) (W:World),Start W →
  (∀s A B,Df (fun q=>X q∨(W.heap.size≤q∧Soft A q)) A B→J s A→J s B)→(∀A B,Df (fun q=>False∨(W.heap.size≤q∧NoC A q)) A B→Jx A→Jx B) →
  (∀pre x W1,J pre W1→At pre x W1→YieldAt Fence.wide 9 P l (encs x) W1 fun e W'=>(e=.returned (.bool true)∧J (pre++[x]) W'∧Kp W.heap.size W1 W')∨(e=.returned (.bool false)∧Jx W'∧Kp W.heap.size W1 W')) →
  J [] W →
  CallsIn Fence.wide 9 P g (#[.func (.yield l) #[] #[]]++lb) W fun e W'=>(∃v,e=.returned v)∧((∃xs,S xs∧J xs W'∧End W')∨Jx W')
def goesTo {α : Type} (l : Nat) (Kp : World→World→Prop) (I : List α→World→Prop) (Ix : Code→World→Prop) (xs : List α) (W : World) : Exit→Act→World→Prop
 | .normal,_,W'=>W'.heap[l]? = W.heap[l]?∧Kp W W'∧I xs W'
 | .ret,_,W'=>W'.heap[l]? = W.heap[l]?∧Kp W W'∧Ix .ret W'
 | .exit id,_,W'=>W'.heap[l]? = W.heap[l]?∧Kp W W'∧Ix (.exit id) W'
 | .goto t,_,W'=>W'.heap[l]? = W.heap[l]?∧Kp W W'∧Ix (.goto t) W'
 | _,_,_=>False
section law
variable {α : Type} {P : Program} {ps : Array Tmp} {assign body : Code} {gf : Nat} {lb : Array Value} {encs : α→Array Value} {At : List α→α→World→Prop} {Kp : Nat→World→World→Prop} {X : Nat→Prop} {S : List α→Prop} {Start End : World→Prop}
theorem range_core (hseq:SeqTwo P gf lb encs At Kp X S Start End) (l:Nat) (W1:World) (rec:LoopState→Option Code→Loop) (fn:FuncId) (tmps:Array Value) (dd:Nat)
  (hrec:∀st pe,rec st pe={ state:=st,pending:=pe,fn,tmps,params:=ps,assign,body,defers:=dd })
  (hl:W1.heap[l]? = some (.loop (rec .ready none))) (hXl:¬X l) (hstart:Start W1)
  (hKt:∀ {A B C:World},Kp W1.heap.size A B→Kp W1.heap.size B C→Kp W1.heap.size A C) (hKb:∀(W:World) (o o':Obj),W.heap[l]? = some o→o.isCells=false→Kp W1.heap.size W (W.putObj l o'))
  (hps:∀x,(encs x).size=ps.size)
  (I:List α→World→Prop) (Ix:Code→World→Prop) (hI:∀s A B,Df (fun q=>X q∨(W1.heap.size≤q∧Soft A q)) A B→I s A→I s B) (hIx:∀c A B,Df (fun q=>False∨(W1.heap.size≤q∧NoC A q)) A B→Ix c A→Ix c B)
  (hI2:∀s A B,(∃r,A.heap[l]? = some (.loop r))→Df (fun q=>q=l) A B→I s A→I s B) (hIx2:∀c A B,(∃r,A.heap[l]? = some (.loop r))→Df (fun q=>q=l) A B→Ix c A→Ix c B)
  (hAt:∀pre x A B,(∃r,A.heap[l]? = some (.loop r))→Df (fun q=>q=l) A B→At pre x A→At pre x B) (h0:I [] W1) (Ax:α→Act→World→Prop) (hAx:∀x a A B,Df (fun q=>q=l) A B→Ax x a A→Ax x a B)
  (hKd:∀A B,Df (fun _=>False) A B→Kp W1.heap.size A B)
  (hassign:∀(x:α) (W:World) (K:Act→World→Prop),l<W.heap.size→(∀a W',Df (fun _=>False) W W'→Ax x a W'→K a W')→assign.wpIn (Fence.wide.inRound l) 9 P (Exit.then K (fun _ _ _=>False)) { tmps:=(ps.zip (encs x)).foldl (fun t (p,v)=>t.setIfInBounds p v) tmps,defers:=[] } W)
  (hbody:∀(pre:List α) (x:α) (a:Act) (W:World),I pre W→At pre x W→Ax x a W→W.heap[l]? = some (.loop (rec .busy none))→body.wpIn (Fence.wide.inRound l) 9 P (goesTo l (Kp W1.heap.size) I Ix (pre++[x]) W) a W) :
  CallsIn Fence.wide 9 P gf (#[.func (.yield l) #[] #[]]++lb) W1 fun e W'=>(∃v,e=.returned v) ∧
   ((∃xs,S xs∧(I xs W'∧W'.heap[l]? = some (.loop (rec .ready none)))∧End W')∨(∃c,Ix c W'∧W'.heap[l]? = some (.loop (rec .done (some c))))):=by
 have hlt1:l<W1.heap.size:=(Array.getElem?_eq_some_iff.1 hl).1;refine hseq l (fun pre W=>I pre W∧W.heap[l]? = some (.loop (rec .ready none))) (fun W=>∃c,Ix c W∧W.heap[l]? = some (.loop (rec .done (some c)))) W1 hstart ?_ ?_ ?_ ⟨h0,hl⟩
 · rintro s A B hd ⟨hi,hk⟩;exact⟨hI s A B hd hi,hd.keeps hk (fun h=>h.elim hXl fun h=>by omega)⟩
 · rintro A B hd ⟨c,hi,hk⟩;exact⟨c,hIx c A B hd hi,hd.keeps hk (fun h=>h.elim id fun h=>by omega)⟩
 rintro pre x W ⟨hi,hk⟩ hat;have hlt0:l<W.heap.size:=(Array.getElem?_eq_some_iff.1 hk).1;have hy:=run_yield (P:=P) (args:=encs x) hk (by rw[hrec];exact hps x);have e1:(rec .ready none).fn=fn:=by rw[hrec]
 have e2:(rec .ready none).params=ps:=by rw[hrec]
 have e3:(rec .ready none).tmps=tmps:=by rw[hrec]
 have e4:(rec .ready none).assign=assign:=by rw[hrec]
 have e5:(rec .ready none).body=body:=by rw[hrec]
 rw[e1,e2,e3,e4,e5]at hy;refine⟨fn,_,assign,body,hy,?_⟩;refine roundIn_of_wpIn trivial (hassign x W _ hlt0 (fun a1 Wa hda hax=>?_));have hka:=hda.keeps hk (fun h=>h);have hlt:l<Wa.heap.size:=(Array.getElem?_eq_some_iff.1 hka).1;obtain⟨Wb,hWb⟩:∃Wb,Wa.putObj l (.loop { rec .ready none with state:=.busy })=Wb:=⟨_,rfl⟩;have hdb:Df (fun q=>q=l) Wa Wb:=by rw[←hWb];exact Df.put _ _ _
 have hdw:Df (fun q=>q=l) W Wb:=(hda.mono (fun _ _ h=>h.elim)).trans hdb
 have hl2:Wb.heap[l]? = some (.loop (rec .busy none)):=by
  rw[←hWb,World.putObj_heap_same hlt];simp[hrec]
 have hw2:Kp W1.heap.size W Wb:=hKt (hKd _ _ hda) (by rw[←hWb];exact hKb _ _ _ hka rfl);refine⟨Wb,by rw[←hWb];exact run_beginRound hka (by rw[hrec]),wpIn_mono (hbody pre x a1 Wb (hI2 _ _ _ ⟨_,hk⟩ hdw hi) (hAt _ _ _ _ ⟨_,hk⟩ hdw hat) (hAx _ _ _ _ hdb hax) hl2) ?_⟩
 have fin:∀(jump:Option Code) (W3:World),W3.heap[l]? = Wb.heap[l]?→(Instr.endRound l jump).run P W3=.ok (.bool jump.isNone) (W3.putObj l (.loop (rec (if jump.isNone then .ready else .done) jump)))∧W3.heap[l]? = some (.loop (rec .busy none))∧(W3.putObj l (.loop (rec (if jump.isNone then .ready else .done) jump))).heap[l]? = some (.loop (rec (if jump.isNone then .ready else .done) jump)):=fun jump W3 h3=>by
  have hl3:=h3.trans hl2;have h9:=run_endRound (P:=P) jump hl3;refine⟨?_,hl3,World.putObj_heap_same (Array.getElem?_eq_some_iff.1 hl3).1⟩;rw[h9];simp[hrec]
 rintro e a3 W3 hp
 have leave:∀c:Code,W3.heap[l]? = Wb.heap[l]?→Kp W1.heap.size Wb W3→Ix c W3→∃v w',(Instr.endRound l (some c)).run P W3=.ok v w'∧((Ending.returned v=.returned (.bool true)∧(I (pre++[x]) w'∧w'.heap[l]? = some (.loop (rec .ready none)))∧Kp W1.heap.size W w')∨(Ending.returned v=.returned (.bool false)∧(∃c,Ix c w'∧w'.heap[l]? = some (.loop (rec .done (some c))))∧Kp W1.heap.size W w')):=fun c hk3 hkp3 hi3=>by
  obtain⟨hr,hl3,hl4⟩:=fin (some c) W3 hk3;exact⟨_,_,hr,.inr ⟨rfl,⟨c,hIx2 c _ _ ⟨_,hl3⟩ (Df.put _ _ _) hi3,hl4⟩,hKt (hKt hw2 hkp3) (hKb _ _ _ hl3 rfl)⟩⟩
 cases e with
 | normal =>
  obtain⟨hk3,hkp3,hi3⟩:=hp;obtain⟨hr,hl3,hl4⟩:=fin none W3 hk3;exact⟨_,_,hr,.inl ⟨rfl,⟨hI2 _ _ _ ⟨_,hl3⟩ (Df.put _ _ _) hi3,hl4⟩,hKt (hKt hw2 hkp3) (hKb _ _ _ hl3 rfl)⟩⟩
 | ret=>exact leave .ret hp.1 hp.2.1 hp.2.2
 | exit id=>exact leave (.exit id) hp.1 hp.2.1 hp.2.2
 | goto t=>exact leave (.goto t) hp.1 hp.2.1 hp.2.2
 | panic ch=>exact hp.elim
 | outgrown=>exact hp.elim
theorem range_out {n:Nat} {gop:Operand} {Q:Exit→Act→World→Prop} {a:Act} {w:World} (hseq:SeqTwo P gf lb encs At Kp X S Start End)
  (hg:a.eval gop=.func (.func gf) #[] lb) (eg:∀args w,(callFunc gf args).run P w=.ok (.enter gf args) w)
  (hX:∀q,X q→q<w.heap.size) (hstart:∀r:Loop,Start ((w.alloc (.deferred (some []))).alloc (.loop r)))
  (hKt:∀ {A B C:World},Kp (w.heap.size+1+1) A B→Kp (w.heap.size+1+1) B C→Kp (w.heap.size+1+1) A C) (hKb:∀(W:World) (o o':Obj),W.heap[w.heap.size+1]? = some o→o.isCells=false→Kp (w.heap.size+1+1) W (W.putObj (w.heap.size+1) o'))
  (hps:∀x,(encs x).size=ps.size)
  (I:List α→World→Prop) (Ix:Code→World→Prop) (hI:∀s A B,Df (fun q=>X q∨(w.heap.size≤q∧Soft A q)) A B→I s A→I s B) (hIx:∀c A B,Df (fun q=>False∨(w.heap.size≤q∧NoC A q)) A B→Ix c A→Ix c B)
  (hAt:∀pre x A B,(∃r,A.heap[w.heap.size+1]? = some (.loop r))→Df (fun q=>q=w.heap.size+1) A B→At pre x A→At pre x B) (hEnd:∀A B,(∃r,A.heap[w.heap.size+1]? = some (.loop r))→Df (fun q=>q=w.heap.size+1) A B→End A→End B) (h0:I [] w) (Ax:α→Act→World→Prop) (hAx:∀x a A B,Df (fun q=>q=w.heap.size+1) A B→Ax x a A→Ax x a B)
  (hKd:∀A B,Df (fun _=>False) A B→Kp (w.heap.size+1+1) A B)
  (hassign:∀(x:α) (W:World) (K:Act→World→Prop),w.heap.size+1<W.heap.size→(∀a W',Df (fun _=>False) W W'→Ax x a W'→K a W')→assign.wpIn (Fence.wide.inRound (w.heap.size+1)) 9 P (Exit.then K (fun _ _ _=>False)) { tmps:=(ps.zip (encs x)).foldl (fun t (p,v)=>t.setIfInBounds p v) a.tmps,defers:=[] } W)
  (hbody:∀(pre:List α) (x:α) (a:Act) (W:World),I pre W→At pre x W→Ax x a W→W.heap[w.heap.size]? = some (.deferred (some []))→(∃r,W.heap[w.heap.size+1]? = some (.loop r))→body.wpIn (Fence.wide.inRound (w.heap.size+1)) 9 P (goesTo (w.heap.size+1) (fun A B=>B.heap[w.heap.size]? = A.heap[w.heap.size]?∧Kp (w.heap.size+1+1) A B) I Ix (pre++[x]) W) a W)
  (hdone:∀(xs:List α) (W:World),S xs→I xs W→End W→W.heap[w.heap.size]? = some (.deferred (some []))→Q .normal { a with defers:={ target:=.collected w.heap.size,args:=#[] }::a.defers } W)
  (hstop:∀(c:Code) (W:World),Ix c W→W.heap[w.heap.size]? = some (.deferred (some []))→c.wpIn Fence.wide n P Q { a with defers:={ target:=.collected w.heap.size,args:=#[] }::a.defers } W) :
  (Code.rangeFunc gop ps assign body).wpIn Fence.wide n P Q a w:=by
 refine wpIn_rangeFunc fun fn hfn=>?_;obtain⟨rec,hrec⟩:∃rec:LoopState→Option Code→Loop,∀st pe,rec st pe={ state:=st,pending:=pe,fn,tmps:=a.tmps,params:=ps,assign,body,defers:=w.heap.size }:=⟨fun st pe=>_,fun _ _=>rfl⟩;obtain⟨W1,hW1⟩:∃W1,(w.alloc (.deferred (some []))).alloc (.loop (rec .ready none))=W1:=⟨_,rfl⟩;have hz:W1.heap.size=w.heap.size+1+1:=by rw[←hW1];simp
 have hL:W1.heap[w.heap.size+1]? = some (.loop (rec .ready none)):=by
  rw[←hW1];have:=World.alloc_heap_new (w.alloc (.deferred (some []))) (.loop (rec .ready none))
  rwa [World.size_alloc]at this
 have hD:W1.heap[w.heap.size]? = some (.deferred (some [])):=by
  rw[←hW1];exact(Below.heap_alloc _ _ _ (by simp)).trans (World.alloc_heap_new w _)
 have hd1:Df (fun q=>X q∨(w.heap.size≤q∧Soft w q)) w W1:=by
  rw[←hW1];exact(((Df.alloc _ _).mono (fun _ _ h=>h.elim)).trans ((Df.alloc _ _).mono (fun _ _ h=>h.elim)))
 refine⟨w.heap.size+1,[{ target:=.collected w.heap.size,args:=#[] }],W1,{ target:=.fn (.func gf) lb,args:=#[.func (.yield (w.heap.size+1)) #[] #[]] },W1,gf,#[.func (.yield (w.heap.size+1)) #[] #[]]++lb,W1,?_,?_,fun _ _=>trivial,?_,fun e=>(by cases e),?_⟩
 · rw[←hW1,hrec];exact run_enterLoop_outer _ _ _ _ _
 · simp only[resolve,hg];simp[go_sem]
 · simp[invoke,go_sem,eg]
 have hc:=range_core (assign:=assign) (body:=body) (ps:=ps) hseq (w.heap.size+1) W1 rec fn a.tmps w.heap.size hrec hL (fun h=>by have:=hX _ h;omega) (by rw[←hW1];exact hstart _)
  (by rw[hz];exact hKt) (by rw[hz];exact hKb) hps (fun s W=>I s W∧W.heap[w.heap.size]? = some (.deferred (some []))) (fun c W=>Ix c W∧W.heap[w.heap.size]? = some (.deferred (some [])))
  (fun s A B hd hs=>⟨hI _ _ _ (hd.mono fun q _ h=>h.elim .inl fun h=>.inr ⟨by rw[hz]at h;omega,h.2⟩) hs.1,hd.keeps hs.2 (fun h=>h.elim (fun h=>by have:=hX _ h;omega) fun h=>by rw[hz]at h;omega)⟩)
  (fun c A B hd hs=>⟨hIx _ _ _ (hd.mono fun q _ h=>h.elim .inl fun h=>.inr ⟨by rw[hz]at h;omega,h.2⟩) hs.1,hd.keeps hs.2 (fun h=>h.elim id fun h=>by rw[hz]at h;omega)⟩)
  (fun s A B hr hd hs=>⟨hI _ _ _ (hd.mono fun q _ h=>by obtain⟨r,hr⟩:=hr;subst h;exact .inr ⟨by omega,soft_of hr rfl⟩) hs.1,hd.keeps hs.2 Om⟩)
  (fun c A B hr hd hs=>⟨hIx _ _ _ (hd.mono fun q _ h=>by obtain⟨r,hr⟩:=hr;subst h;exact .inr ⟨by omega,noc_of hr rfl⟩) hs.1,hd.keeps hs.2 Om⟩)
  hAt ⟨hI _ _ _ hd1 h0,hD⟩ Ax hAx (by rw[hz];exact hKd) hassign (fun pre x a1 W hi hat hax hr=>?_)
 · refine calls_any (hc.mono ?_);rintro e W2 ⟨⟨v,rfl⟩,h|⟨c,⟨hi,hk⟩,hl⟩⟩
   · obtain⟨xs,hS,⟨⟨hi,hk⟩,hl⟩,he⟩:=h;have hd:Df (fun q=>q=w.heap.size+1) W2 (W2.putObj (w.heap.size+1) (.loop { rec .ready none with state:=.exhausted })):=Df.put _ _ _;refine⟨none,_,?_,hdone xs _ hS (hI _ _ _ (hd.mono fun q _ h=>by subst h;exact .inr ⟨by omega,soft_of hl rfl⟩) hi) (hEnd _ _ ⟨_,hl⟩ hd he) ((World.putObj_heap_other Om).trans hk)⟩;have:=run_endLoop (P:=P) hl (by rw[hrec];simp);rw[this,hrec]
   have hd:Df (fun q=>q=w.heap.size+1) W2 (W2.putObj (w.heap.size+1) (.loop { rec .done (some c) with state:=.exhausted })):=Df.put _ _ _;refine⟨some c,_,?_,hstop c _ (hIx _ _ _ (hd.mono fun q _ h=>by subst h;exact .inr ⟨by omega,noc_of hl rfl⟩) hi) ((World.putObj_heap_other Om).trans hk)⟩;have:=run_endLoop (P:=P) hl (by rw[hrec];simp);rw[this,hrec]
 refine wpIn_mono (hbody pre x a1 W hi.1 hat hax hi.2 ⟨_,hr⟩) ?_;rintro e a3 W3 hp;rw[hz]
 cases e with
 | normal=>exact⟨hp.1,hp.2.1.2,hp.2.2,hp.2.1.1.trans hi.2⟩
 | ret=>exact⟨hp.1,hp.2.1.2,hp.2.2,hp.2.1.1.trans hi.2⟩
 | exit id=>exact⟨hp.1,hp.2.1.2,hp.2.2,hp.2.1.1.trans hi.2⟩
 | goto t=>exact⟨hp.1,hp.2.1.2,hp.2.2,hp.2.1.1.trans hi.2⟩
 | panic ch=>exact hp.elim
 | outgrown=>exact hp.elim
theorem range_in {n l₀:Nat} {r₀:Loop} {gop:Operand} {Q:Exit→Act→World→Prop} {a:Act} {w:World} (hseq:SeqTwo P gf lb encs At Kp X S Start End) (hl₀:w.heap[l₀]? = some (.loop r₀))
  (hg:a.eval gop=.func (.func gf) #[] lb) (eg:∀args w,(callFunc gf args).run P w=.ok (.enter gf args) w)
  (hX:∀q,X q→q<w.heap.size) (hstart:∀r:Loop,Start (w.alloc (.loop r)))
  (hKt:∀ {A B C:World},Kp (w.heap.size+1) A B→Kp (w.heap.size+1) B C→Kp (w.heap.size+1) A C) (hKb:∀(W:World) (o o':Obj),W.heap[w.heap.size]? = some o→o.isCells=false→Kp (w.heap.size+1) W (W.putObj w.heap.size o'))
  (hps:∀x,(encs x).size=ps.size)
  (I:List α→World→Prop) (Ix:Code→World→Prop) (hI:∀s A B,Df (fun q=>X q∨(w.heap.size≤q∧Soft A q)) A B→I s A→I s B) (hIx:∀c A B,Df (fun q=>False∨(w.heap.size≤q∧NoC A q)) A B→Ix c A→Ix c B)
  (hAt:∀pre x A B,(∃r,A.heap[w.heap.size]? = some (.loop r))→Df (fun q=>q=w.heap.size) A B→At pre x A→At pre x B) (hEnd:∀A B,(∃r,A.heap[w.heap.size]? = some (.loop r))→Df (fun q=>q=w.heap.size) A B→End A→End B) (h0:I [] w) (Ax:α→Act→World→Prop) (hAx:∀x a A B,Df (fun q=>q=w.heap.size) A B→Ax x a A→Ax x a B)
  (hKd:∀A B,Df (fun _=>False) A B→Kp (w.heap.size+1) A B)
  (hassign:∀(x:α) (W:World) (K:Act→World→Prop),w.heap.size<W.heap.size→(∀a W',Df (fun _=>False) W W'→Ax x a W'→K a W')→assign.wpIn (Fence.wide.inRound w.heap.size) 9 P (Exit.then K (fun _ _ _=>False)) { tmps:=(ps.zip (encs x)).foldl (fun t (p,v)=>t.setIfInBounds p v) a.tmps,defers:=[] } W)
  (hbody:∀(pre:List α) (x:α) (a:Act) (W:World),I pre W→At pre x W→Ax x a W→(∃r,W.heap[w.heap.size]? = some (.loop r))→body.wpIn (Fence.wide.inRound w.heap.size) 9 P (goesTo w.heap.size (Kp (w.heap.size+1)) I Ix (pre++[x]) W) a W)
  (hdone:∀(xs:List α) (W:World),S xs→I xs W→End W→Q .normal a W)
  (hstop:∀(c:Code) (W:World),Ix c W→c.wpIn (Fence.wide.inRound l₀) n P Q a W) :
  (Code.rangeFunc gop ps assign body).wpIn (Fence.wide.inRound l₀) n P Q a w:=by
 refine wpIn_rangeFunc fun fn hfn=>?_;obtain⟨rec,hrec⟩:∃rec:LoopState→Option Code→Loop,∀st pe,rec st pe={ state:=st,pending:=pe,fn,tmps:=a.tmps,params:=ps,assign,body,defers:=r₀.defers }:=⟨fun st pe=>_,fun _ _=>rfl⟩;obtain⟨W1,hW1⟩:∃W1,w.alloc (.loop (rec .ready none))=W1:=⟨_,rfl⟩;have hz:W1.heap.size=w.heap.size+1:=by rw[←hW1];simp
 have hL:W1.heap[w.heap.size]? = some (.loop (rec .ready none)):=by rw[←hW1];exact World.alloc_heap_new w _
 have hd1:Df (fun q=>X q∨(w.heap.size≤q∧Soft w q)) w W1:=by
  rw[←hW1];exact(Df.alloc _ _).mono (fun _ _ h=>h.elim)
 refine⟨w.heap.size,[],W1,{ target:=.fn (.func gf) lb,args:=#[.func (.yield w.heap.size) #[] #[]] },W1,gf,#[.func (.yield w.heap.size) #[] #[]]++lb,W1,?_,?_,fun _ _=>trivial,?_,fun e=>(by cases e),?_⟩
 · rw[←hW1,hrec];exact run_enterLoop_inner hl₀ _ _ _ _ _
 · simp only[resolve,hg];simp[go_sem]
 · simp[invoke,go_sem,eg]
 have hc:=range_core (assign:=assign) (body:=body) (ps:=ps) hseq w.heap.size W1 rec fn a.tmps r₀.defers hrec hL (fun h=>by have:=hX _ h;omega) (by rw[←hW1];exact hstart _)
  (by rw[hz];exact hKt) (by rw[hz];exact hKb) hps I Ix
  (fun s A B hd hs=>hI _ _ _ (hd.mono fun q _ h=>h.elim .inl fun h=>.inr ⟨by rw[hz]at h;omega,h.2⟩) hs)
  (fun c A B hd hs=>hIx _ _ _ (hd.mono fun q _ h=>h.elim .inl fun h=>.inr ⟨by rw[hz]at h;omega,h.2⟩) hs)
  (fun s A B hr hd hs=>hI _ _ _ (hd.mono fun q _ h=>by obtain⟨r,hr⟩:=hr;subst h;exact .inr ⟨by omega,soft_of hr rfl⟩) hs)
  (fun c A B hr hd hs=>hIx _ _ _ (hd.mono fun q _ h=>by obtain⟨r,hr⟩:=hr;subst h;exact .inr ⟨by omega,noc_of hr rfl⟩) hs)
  hAt (hI _ _ _ hd1 h0) Ax hAx (by rw[hz];exact hKd) hassign (fun pre x a1 W hi hat hax hr=>by rw[hz];exact hbody pre x a1 W hi hat hax ⟨_,hr⟩)
 refine CallsIn.inRound l₀ (calls_any (hc.mono ?_));rintro e W2 ⟨⟨v,rfl⟩,h|⟨c,hi,hl⟩⟩
 · obtain⟨xs,hS,⟨hi,hl⟩,he⟩:=h;have hd:Df (fun q=>q=w.heap.size) W2 (W2.putObj w.heap.size (.loop { rec .ready none with state:=.exhausted })):=Df.put _ _ _;refine⟨none,_,?_,hdone xs _ hS (hI _ _ _ (hd.mono fun q _ h=>by subst h;exact .inr ⟨by omega,soft_of hl rfl⟩) hi) (hEnd _ _ ⟨_,hl⟩ hd he)⟩;have:=run_endLoop (P:=P) hl (by rw[hrec];simp);rw[this,hrec]
 have hd:Df (fun q=>q=w.heap.size) W2 (W2.putObj w.heap.size (.loop { rec .done (some c) with state:=.exhausted })):=Df.put _ _ _;refine⟨some c,_,?_,hstop c _ (hIx _ _ _ (hd.mono fun q _ h=>by subst h;exact .inr ⟨by omega,noc_of hl rfl⟩) hi)⟩;have:=run_endLoop (P:=P) hl (by rw[hrec];simp);rw[this,hrec]
end law
end Go.Proofs.YtcnoemjeijjnjaaGreat.rangeTwo
namespace Go.Proofs.YtcnoemjeijjnjaaGreat.picksTwo
open Go.RowKit Go.Deep Go.Shelf Go base copy netSem prodSem rangeAt rangeTwo
theorem df_int {B:Nat} {A A':World} (h:pickI.RInt B A A'):Df (fun q=>False∨(B≤q∧Soft A q)) A A' := ⟨h.os,h.tape,h.output,h.size,fun q hq hx=>h.blk q hq (fun hB cs fr h9=>hx (.inr ⟨hB,fun cs' t fr' h8=>by rw[h9]at h8;injection h8 with h8;injection h8 with _ h8 _;exact .inl h8.symm⟩))⟩
theorem df_bool {B:Nat} {A A':World} (h:pickB.RBool B A A'):Df (fun q=>False∨(B≤q∧Soft A q)) A A' := ⟨h.os,h.tape,h.output,h.size,fun q hq hx=>h.blk q hq (fun hB cs fr h9=>hx (.inr ⟨hB,fun cs' t fr' h8=>by rw[h9]at h8;injection h8 with h8;injection h8 with _ h8 _;exact .inr h8.symm⟩))⟩
theorem picks_two (B B0 B1 RB Bx n:Nat) (V:Nat→Value) (L:Nat→List Int) (hn:n≤100) (Kp:Nat→World→World→Prop) (hKp:∀N A A',Kp N A A'→pickI.KpT A A') :
  SeqTwo Tryz.prog 148 #[.pointer (some ⟨Bx,0,none⟩)] (fun x:Nat × List Int=>#[.slice (some ⟨x.1,0,none⟩) n n]) (fun pre x W=>pickI.AtL B n L x W∧∃suf,prod L n=pre.map (·.2)++x.2::suf) Kp (fun _=>False) (fun xs=>∃LB,xs=(prod L n).map (fun c=>(LB,c))) (picksI.StartP B B0 B1 RB Bx n V L) (fun _=>True) :=
 fun l J Jx W hs hJ hJx hY h0=>(callsIn_wide.2 (picksI.picks_in B B0 B1 RB Bx n l V L hn J (fun _ W=>Jx W) W hs (fun s A A' hr hj=>hJ s A A' (df_int hr) hj) (fun pre x W1 hj hat hlt=>by
  obtain⟨fn,tmps,assign,body,hy,hr⟩:=hY pre x W1 hj ⟨hat,hlt⟩
  exact⟨fn,tmps,assign,body,hy,hr.mono fun e W' h=>h.elim (fun h=>.inl ⟨h.1,h.2.1,hKp _ _ _ h.2.2⟩) (fun h=>.inr ⟨h.1,h.2.1⟩)⟩) h0)).mono fun e W' ⟨he,h⟩=>⟨he,h.elim (fun⟨xs,hx,hj⟩=>.inl ⟨xs,hx,hj,trivial⟩) (fun⟨q,hq⟩=>.inr hq)⟩
theorem picks_twoB (B B0 B1 RB Bx n:Nat) (V:Nat→Value) (L:Nat→List Bool) (hn:n≤100) (Kp:Nat→World→World→Prop) (hKp:∀N A A',Kp N A A'→pickB.KpB A A') :
  SeqTwo Tryz.prog 146 #[.pointer (some ⟨Bx,0,none⟩)] (fun x:Nat × List Bool=>#[.slice (some ⟨x.1,0,none⟩) n n]) (fun pre x W=>pickB.AtL B n L x W∧∃suf,prodB.prod L n=pre.map (·.2)++x.2::suf) Kp (fun _=>False) (fun xs=>∃LB,xs=(prodB.prod L n).map (fun c=>(LB,c))) (picksB.StartP B B0 B1 RB Bx n V L) (fun _=>True) :=
 fun l J Jx W hs hJ hJx hY h0=>(callsIn_wide.2 (picksB.picks_in B B0 B1 RB Bx n l V L hn J (fun _ W=>Jx W) W hs (fun s A A' hr hj=>hJ s A A' (df_bool hr) hj) (fun pre x W1 hj hat hlt=>by
  obtain⟨fn,tmps,assign,body,hy,hr⟩:=hY pre x W1 hj ⟨hat,hlt⟩
  exact⟨fn,tmps,assign,body,hy,hr.mono fun e W' h=>h.elim (fun h=>.inl ⟨h.1,h.2.1,hKp _ _ _ h.2.2⟩) (fun h=>.inr ⟨h.1,h.2.1⟩)⟩) h0)).mono fun e W' ⟨he,h⟩=>⟨he,h.elim (fun⟨xs,hx,hj⟩=>.inl ⟨xs,hx,hj,trivial⟩) (fun⟨q,hq⟩=>.inr hq)⟩
structure KpV (b : Nat) (T : Nat→TypeId→Prop) (N : Nat) (A A' : World) : Prop where
 os:A'.os=A.os
 tape:A'.tape=A.tape
 output:A'.output=A.output
 size:A.heap.size≤A'.heap.size
 blk:∀q,q<A.heap.size→(N≤q∨∃cs t fr,A.heap[q]? = some (.cells cs t fr))→(∀cs t fr,A.heap[q]? = some (.cells cs t fr)→¬T q t)→A'.heap[q]? = A.heap[q]?
 typ:∀(q:Nat) (cs:Array Value) (t:TypeId) (fr:Nat × Nat),A.heap[q]? = some (Obj.cells cs t fr)→∃cs':Array Value,A'.heap[q]? = some (Obj.cells cs' t fr)
 net:∀(o:Nat) (v:Value),o<6→A.cell? ⟨b,o,none⟩=some v→A'.cell? ⟨b,o,none⟩=some v
theorem KpV.trans {b:Nat} {T:Nat→TypeId→Prop} {N:Nat} {A B C:World} (h:KpV b T N A B) (k:KpV b T N B C):KpV b T N A C :=
 ⟨k.os.trans h.os,k.tape.trans h.tape,k.output.trans h.output,Nat.le_trans h.size k.size,fun q hq hc hx=>by
  have e:=h.blk q hq hc hx;exact(k.blk q (Nat.lt_of_lt_of_le hq h.size) (hc.imp id (fun⟨cs,t,fr,h9⟩=>⟨cs,t,fr,e.trans h9⟩)) (fun cs t fr h9=>hx cs t fr (e ▸ h9))).trans e,fun q cs t fr hq=>by
  obtain⟨cs',h1⟩:=h.typ q cs t fr hq
  exact k.typ q cs' t fr h1,fun o v ho h9=>k.net o v ho (h.net o v ho h9)⟩
theorem KpV.mono {b:Nat} {T T':Nat→TypeId→Prop} {N N':Nat} {A B:World} (h:KpV b T N A B) (hT:∀q t,T q t→T' q t) (hN:N≤N'):KpV b T' N' A B :=
 ⟨h.os,h.tape,h.output,h.size,fun q hq hc hx=>h.blk q hq (hc.imp (fun h=>Nat.le_trans hN h) id) (fun cs t fr h9 ht=>hx cs t fr h9 (hT _ t ht)),h.typ,h.net⟩
theorem KpV.put {b:Nat} {T:Nat→TypeId→Prop} {N l:Nat} {W:World} {o:Obj} (o':Obj) (h:W.heap[l]? = some o) (ho:o.isCells=false) (hl:l<N):KpV b T N W (W.putObj l o') :=
 ⟨rfl,rfl,rfl,by simp[World.putObj],fun q hq hc hx=>World.putObj_heap_other (fun e=>by
  subst e;rcases hc with hc|⟨cs,t,fr,hc⟩
  · omega
  · rw[hc]at h;injection h with h;subst h;cases ho),fun q cs t fr hq=>⟨cs,by
  rw[World.putObj_heap_other (fun e=>by subst e;rw[hq]at h;injection h with h;subst h;cases ho)]
  exact hq⟩,fun o9 v _ h9=>(World.cell?_of_block (a:=⟨b,o9,none⟩) (World.putObj_heap_other (fun e=>by
  have e:b=l:=e;subst e;obtain⟨ob,h1,h2⟩:=cells_of_cell h9;have h1:W.heap[b]? = some ob:=h1
  rw[h]at h1;injection h1 with h1;subst h1;rw[ho]at h2;cases h2))).trans h9⟩
theorem KpV.keep {b:Nat} {T:Nat→TypeId→Prop} {N q:Nat} {A B:World} {cs:Array Value} {t:TypeId} {fr:Nat × Nat} (h:KpV b T N A B) (hq:A.heap[q]? = some (.cells cs t fr)) (ht:¬T q t):B.heap[q]? = some (.cells cs t fr) :=
 (h.blk q (Array.getElem?_eq_some_iff.1 hq).1 (.inr ⟨cs,t,fr,hq⟩) (fun cs' t' fr' h9=>by
  rw[hq]at h9;injection h9 with h9;injection h9 with _ h9 _;subst h9
  exact ht)).trans hq
theorem KpV.other {b:Nat} {T:Nat→TypeId→Prop} {N q:Nat} {A B:World} {o:Obj} (h:KpV b T N A B) (hq:A.heap[q]? = some o) (ho:o.isCells=false) (hN:N≤q):B.heap[q]? = A.heap[q]? :=
 h.blk q (Array.getElem?_eq_some_iff.1 hq).1 (.inl hN) (fun cs t fr h9=>by rw[hq]at h9;injection h9 with h9;subst h9;cases ho)
theorem KpV.below {b:Nat} {T:Nat→TypeId→Prop} {N:Nat} {A B:World} (hb:Below A.heap.size A B):KpV b T N A B:=⟨hb.os,hb.tape,hb.output,hb.size,fun q hq _ _=>hb.block q hq,fun q cs t fr hq=>⟨cs,(hb.block q (Array.getElem?_eq_some_iff.1 hq).1).trans hq⟩,fun o v _ h9=>base.keep hb h9⟩
theorem KpV.df {b:Nat} {T:Nat→TypeId→Prop} {N:Nat} {A B:World} (hd:Df (fun _=>False) A B):KpV b T N A B:=KpV.below ⟨hd.os,hd.tape,hd.output,hd.size,fun q hq=>hd.blk q hq (fun h=>h)⟩
theorem KpV.int {b:Nat} {T:Nat→TypeId→Prop} (h1:∀q,¬T q 3) (h2:∀q,¬T q 25) (h3:∀q,¬T q 135) (N:Nat) (A B:World) (h:KpV b T N A B):pickI.KpT A B:=fun q cs t fr hq ht=>h.keep hq (by rcases ht with rfl|rfl|rfl<;>first|exact h1 _|exact h2 _|exact h3 _)
theorem KpV.bool {b:Nat} {T:Nat→TypeId→Prop} (h1:∀q,¬T q 4) (h2:∀q,¬T q 35) (h3:∀q,¬T q 133) (N:Nat) (A B:World) (h:KpV b T N A B):pickB.KpB A B:=fun q cs t fr hq ht=>h.keep hq (by rcases ht with rfl|rfl|rfl<;>first|exact h1 _|exact h2 _|exact h3 _)
end Go.Proofs.YtcnoemjeijjnjaaGreat.picksTwo
namespace Go.Proofs.YtcnoemjeijjnjaaGreat.repOne
open Go.RowKit Go.Deep Go base noRts
def Rp (w : World) (t : TypeId) (N n k : Nat) (v : Value) : Prop := ∃f : Nat→Value,w.rowIs N t n f∧∀i,i<k→f i=v
theorem Rp.below {w w':World} {t:TypeId} {N n k:Nat} {v:Value} (h:Rp w t N n k v) (hb:Below w.heap.size w w'):Rp w' t N n k v:=by
 obtain⟨f,hf,hc⟩:=h;exact⟨f,hf.of_block (hb.block _ hf.lt),hc⟩
theorem run_copy1 {P:Program} (w:World) (dT sT ty elem:TypeId) (g o dLen dCap:Nat) (a:Addr) (sLen sCap:Nat) (cur:Array Value) (t:TypeId) (cs:List Value)
  (hu:P.underlying dT=some (.slice elem)) (hs:(P.info? elem).map (·.size)=some 1)
  (hg:w.heap[g]? = some (.cells cur t (0,0))) (hn:cs.length=Nat.min sLen dLen)
  (hsrc:∀j v,cs[j]? = some v→w.cell? (a.add j)=some v) (hfit:o+cs.length≤cur.size) (h1:∀v∈cs,v.oneCell' = true) :
  (Builtin.copy_ #[dT,sT] ty #[.slice (some ⟨g,o,none⟩) dLen dCap,.slice (some a) sLen sCap]).run P w =
   .ok (goInt (Nat.min sLen dLen)) (w.setRow g (cur.toList.take o++cs++cur.toList.drop (o+cs.length)).toArray):=by
 have hl:=run_loadCells_list (P:=P) w a cs hsrc;have hst:=run_storeCells_at P g o t cs 0 cur w hg (by simpa using hfit) h1
 cases hq:P.info? elem with
 | none=>simp[hq]at hs
 | some i =>
  have hi:i.size=1:=by simpa[hq] using hs
  simp[Builtin.copy_,run_underlying hu,Builtin.lenOf,Builtin.firstCells,sizeOf,typeInfo,hq,hi,←hn,hl,hst]
theorem rp_copied {w:World} {t:TypeId} {N n k m:Nat} {v:Value} {cur:Array Value} (h:Rp w t N n k v) (hg:w.heap[N]? = some (.cells cur t (0,0))) (hk:k+m≤n) :
  Rp (w.setRow N (cur.toList.take k++List.replicate m v++cur.toList.drop (k+(List.replicate m v).length)).toArray) t N n (k+m) v:=by
 obtain⟨f,⟨cur',h1,h2,h3⟩,hc⟩:=h;rw[hg]at h1;injection h1 with h1;injection h1 with h1;subst h1;refine⟨fun i=>(cur.toList.take k++List.replicate m v++cur.toList.drop (k+(List.replicate m v).length))[i]?.getD undef,⟨_,setRow_heap w N cur _ _ _ hg,by simp;omega,fun i hi=>?_⟩,fun i hi=>?_⟩
 · have h9:i<(cur.toList.take k++List.replicate m v++cur.toList.drop (k+(List.replicate m v).length)).length:=by simp;omega
   simp only[List.getElem?_toArray];rw[List.getElem?_eq_getElem h9,Option.getD_some]
 show (cur.toList.take k++List.replicate m v++cur.toList.drop (k+(List.replicate m v).length))[i]?.getD undef=_
 by_cases hik:i<k
 · rw[List.append_assoc,List.getElem?_append_left (by simp;omega),List.getElem?_take_of_lt Om,Array.getElem?_toList,h3 i Om];exact hc i hik
 rw[List.getElem?_append_left (by simp;omega),List.getElem?_append_right (by simp;omega)];rw[List.getElem?_replicate,if_pos (by simp;omega)];rfl
theorem run_copy_rp {P:Program} {w:World} (dT sT ty elem t:TypeId) (hu:P.underlying dT=some (.slice elem)) (hsz:(P.info? elem).map (·.size)=some 1)
  (N n k m dLen dCap:Nat) (ad:Addr) (sLen sCap:Nat) (v:Value) (hl:Rp w t N n k v) (hm:m=Nat.min sLen dLen) (hk:k+m≤n) (hv:v.oneCell' = true) (hsrc:∀j,j<m→w.cell? (ad.add j)=some v)
  (B:Nat) (w0:World) (hb:Below B w0 w) (hBg:B≤N) :
  ∃w',(Builtin.copy_ #[dT,sT] ty #[.slice (some ⟨N,k,none⟩) dLen dCap,.slice (some ad) sLen sCap]).run P w=.ok (.int .i64 (m:Int)) w'∧Rp w' t N n (k+m) v∧Below B w0 w' := by
 obtain⟨f,⟨cur,h1,h2,h3⟩,hc⟩:=hl
 have hrun:=run_copy1 (P:=P) w dT sT ty elem N k dLen dCap ad sLen sCap cur _ (List.replicate m v) hu hsz h1 (by rw[List.length_replicate,hm]) (fun j u hu=>by
  rw[List.getElem?_replicate]at hu
  split at hu
  · injection hu with hu;rw[←hu];exact hsrc j (by assumption)
  cases hu) (by rw[List.length_replicate,h2];omega) (fun u hu=>by rw[List.eq_of_mem_replicate hu];exact hv)
 rw[←hm]at hrun;exact⟨_,hrun,rp_copied ⟨f,⟨cur,h1,h2,h3⟩,hc⟩ h1 hk,below_setRow hb hBg _⟩
open Go.RowKit in
theorem wpList_copy_rp {P:Program} {w:World} {ops:Array Oper} {rest:List Oper} {o:Oper} {a:Act} {Q:Exit→Act→World→Prop} (hgd:o.guard=none) (d s:Operand) (dT sT:TypeId)
  (ho:o.op=.call { callee:=.builtin .copy,args:=#[d,s],argTypes:=#[dT,sT] }) (elem t:TypeId) (hu:P.underlying dT=some (.slice elem)) (hsz:(P.info? elem).map (·.size)=some 1)
  (N n k m dLen dCap:Nat) (ad:Addr) (sLen sCap:Nat) (v:Value) (hd:a.eval d=.slice (some ⟨N,k,none⟩) dLen dCap) (hs:a.eval s=.slice (some ad) sLen sCap)
  (hl:Rp w t N n k v) (hm:m=Nat.min sLen dLen) (hk:k+m≤n) (hv:v.oneCell' = true) (hsrc:∀j,j<m→w.cell? (ad.add j)=some v)
  (B:Nat) (w0:World) (hb:Below B w0 w) (hBg:B≤N)
  (h:∀w',Hid (Rp w' t N n (k+m) v)→Hid (Below B w0 w')→wpList P ops Q rest (a.put o.dst (goInt m)) w') :
  wpList P ops Q (o::rest) a w:=by
 obtain⟨w',hrun,h1,h2⟩:=run_copy_rp (P:=P) (w:=w) dT sT o.type elem t hu hsz N n k m dLen dCap ad sLen sCap v hl hm hk hv hsrc B w0 hb hBg;refine wpList_plain hgd fun K hK=>?_;unfold Oper.wp;simp[execOp,ho,resolve,invoke,builtin,hd,hs,hrun,Result.andThen];exact hK _ _ (h _ h1 h2)
theorem mul64_six (n:Int) (hn:n=0∨n=1∨n=2∨n=3∨n=4∨n=5∨n=6) (w:World) :
  Calls Tryz.prog 153 #[.int .u64 1,.int .u64 n] w fun e w'=>e=.returned (.tuple #[.int .u64 0,.int .u64 n])∧w' = w:=by
 rcases hn with rfl|rfl|rfl|rfl|rfl|rfl|rfl
 all_goals
  go_enter Tryz.func153,Tryz.ntmps153;go_wp2;go_ret2;exact⟨rfl,rfl⟩
theorem mul_six (n:Int) (hn:n=0∨n=1∨n=2∨n=3∨n=4∨n=5∨n=6) (w:World) :
  Calls Tryz.prog 133 #[.int .u64 1,.int .u64 n] w fun e w'=>e=.returned (.tuple #[.int .u64 0,.int .u64 n])∧w' = w:=by
 have HM:=hid (mul64_six n hn);rcases hn with rfl|rfl|rfl|rfl|rfl|rfl|rfl
 all_goals
  go_enter Tryz.func133,Tryz.ntmps133;go_wp2_with (go_at_call 153;refine(HM.out _).mono ?_;rintro e w' ⟨rfl,rfl⟩);go_ret2;exact⟨rfl,rfl⟩
theorem size_bool : (Tryz.prog.info? 35).map (·.size)=some 1:=by kernel_rfl
theorem info_rbool : (Tryz.prog.info? 35).map (fun i=>(i.zero,i.size,i.bytes))=some (some (.slice none 0 0),1,24):=by kernel_rfl
set_option maxHeartbeats 1600000 in
set_option maxRecDepth 8000 in
theorem repeat_bool (n:Nat) (hn:n≤6) (X:Nat) (Y:Option Addr) (yl yc:Nat) (w:World) (hX:w.cell? ⟨X,0,none⟩=some (.slice Y yl yc)) :
  Calls Tryz.prog 123 #[.slice (some ⟨X,0,none⟩) 1 1,.int .i64 (n:Int)] w fun e w'=>∃N,e=.returned (.slice (some ⟨N,0,none⟩) n n)∧w.heap.size≤N∧w'.rowIs N 35 n (fun _=>.slice Y yl yc)∧Below w.heap.size w w' := by
 have hmk:=run_make_row' (P:=Tryz.prog) 133 35 (.slice none 0 0) 24 Tryz.underlying133 info_rbool rfl .i64 .i64 n Om Om;have HM:=hid (mul_six n Om);have HX:=hid hX;clear hX;go_enter Tryz.func123,Tryz.ntmps123;have HL0:Hid (Rp (w.alloc (.cells (madeCells #[.slice none 0 0] n) 35)) 35 w.heap.size n 0 (.slice Y yl yc)):=⟨fun _=>.slice none 0 0,World.rowIs_made w _ n 35,fun i hi=>absurd hi (Nat.not_lt_zero _)⟩;have HBA:Hid (Below w.heap.size w (w.alloc (.cells (madeCells #[.slice none 0 0] n) 35))):=Bl;obtain⟨k0,hk0⟩:∃k,k=Nat.min 1 n:=⟨_,rfl⟩;have hk01:k0≤1∧k0≤n∧(k0=1∨n=0):=by have:Nat.min 1 n=min 1 n:=rfl;omega
 have HK0:=hid hk0
 have HX1:Hid (∀j,j<k0→(w.alloc (.cells (madeCells #[.slice none 0 0] n) 35)).cell? ((⟨X,0,none⟩:Addr).add j)=some (.slice Y yl yc)):=fun j hj=>by
  have e:j=0:=by omega
  subst e;rw[add0];exact keep HBA.out HX.out
 obtain⟨q1,q2,q3⟩:=hk01;clear hk0;go_wp2_with fail;refine(HM.out _).mono ?_;rintro e w' ⟨rfl,hw'⟩;have hw' := hw'.symm;subst hw';go_wp2_with (refine wpList_copy_rp rfl _ _ _ _ rfl 35 35 Tryz.underlying133 size_bool w.heap.size n 0 k0 n n ⟨X,0,none⟩ 1 1 (.slice Y yl yc) rfl rfl HL0.out HK0.out Om rfl HX1.out w.heap.size w HBA.out (Nat.le_refl _) ?_;intro w1 hl1 hb1);clear HL0 HX1 HBA HX hmk HM HK0;go_loopw [8] (fun i wr=>∃k:Nat,(1≤k∨n=0)∧k≤n∧i=.int .i64 k∧Rp wr 35 w.heap.size n k (.slice Y yl yc)∧Below w.heap.size w wr) (fun i _=>n - (intOf i).toNat)
 case atStart=>exact⟨k0,by omega,q2,rfl,by have:=hl1.out;rwa [Nat.zero_add]at this,hb1.out⟩
 clear q1 q2 q3;obtain⟨k,hk1,hk,rfl,hl,hb⟩:=hrel;have HL:=hid hl;have HB:=hid hb;clear hl hb;by_cases hlt:k<n
 · have hsrc : Hid (∀ m, m ≤ k → ∀ j, j < m → wr.cell? ((⟨w.heap.size, 0, none⟩ : Addr).add j) = some (.slice Y yl yc)) := fun m hm j hj => by
    obtain⟨f,hf,hc⟩:=HL.out;have h1:=hf.cell (i:=j) Om;rw[hc j Om]at h1;rw[add0];exact h1
   have hk1':1≤k:=by omega
   obtain⟨m,hm⟩:∃m,Nat.min k (n - k)=m:=⟨_,rfl⟩;have hm':m=Nat.min k (n - k):=hm.symm;have hmm:m≤k∧k+m≤n∧1≤m:=by have:Nat.min k (n - k)=min k (n - k):=rfl;omega
   have HMm:=hid hm';have HS2:=hid (hsrc.out m hmm.1);clear hm hm' hsrc hk1;obtain⟨w2,hcp,hl2,hb2⟩:=run_copy_rp (P:=Tryz.prog) (w:=wr.drew) 133 133 3 35 35 Tryz.underlying133 size_bool w.heap.size n k m (n - k) (n - k) ⟨w.heap.size,0,none⟩ k n (.slice Y yl yc) (HL.out.below (Below.refl _ wr).drew) HMm.out hmm.2.1 rfl (fun j hj=>by have:=HS2.out j hj;rw[add0]at this ⊢;exact keep (Below.refl _ wr).drew this) w.heap.size w HB.out.drew (Nat.le_refl _);have HL2:=hid hl2;have HB2:=hid hb2;clear hl2 hb2 HS2 HMm;obtain⟨m1,m2,m3⟩:=hmm;go_wp2;go_region
   all_goals
    go_wp2;go_roundw
    case rel=>exact⟨k+m,by omega,m2,by go_num,HL2.out,HB2.out⟩
    case measure=>simp[intOf];omega
 have e:k=n:=by omega
 subst e;go_wp2;go_ret;obtain⟨f,hf,hc⟩:=HL.out;exact⟨w.heap.size,rfl,Nat.le_refl _,hf.congr (fun i hi=>hc i hi),HB.out⟩
theorem size_int : (Tryz.prog.info? 25).map (·.size)=some 1:=by kernel_rfl
theorem info_rint : (Tryz.prog.info? 25).map (fun i=>(i.zero,i.size,i.bytes))=some (some (.slice none 0 0),1,24):=by kernel_rfl
set_option maxHeartbeats 1600000 in
set_option maxRecDepth 8000 in
theorem repeat_int (n:Nat) (hn:n≤6) (X:Nat) (Y:Option Addr) (yl yc:Nat) (w:World) (hX:w.cell? ⟨X,0,none⟩=some (.slice Y yl yc)) :
  Calls Tryz.prog 125 #[.slice (some ⟨X,0,none⟩) 1 1,.int .i64 (n:Int)] w fun e w'=>∃N,e=.returned (.slice (some ⟨N,0,none⟩) n n)∧w.heap.size≤N∧w'.rowIs N 25 n (fun _=>.slice Y yl yc)∧Below w.heap.size w w' := by
 have hmk:=run_make_row' (P:=Tryz.prog) 135 25 (.slice none 0 0) 24 Tryz.underlying135 info_rint rfl .i64 .i64 n Om Om;have HM:=hid (mul_six n Om);have HX:=hid hX;clear hX;go_enter Tryz.func125,Tryz.ntmps125;have HL0:Hid (Rp (w.alloc (.cells (madeCells #[.slice none 0 0] n) 25)) 25 w.heap.size n 0 (.slice Y yl yc)):=⟨fun _=>.slice none 0 0,World.rowIs_made w _ n 25,fun i hi=>absurd hi (Nat.not_lt_zero _)⟩;have HBA:Hid (Below w.heap.size w (w.alloc (.cells (madeCells #[.slice none 0 0] n) 25))):=Bl;obtain⟨k0,hk0⟩:∃k,k=Nat.min 1 n:=⟨_,rfl⟩;have hk01:k0≤1∧k0≤n∧(k0=1∨n=0):=by have:Nat.min 1 n=min 1 n:=rfl;omega
 have HK0:=hid hk0
 have HX1:Hid (∀j,j<k0→(w.alloc (.cells (madeCells #[.slice none 0 0] n) 25)).cell? ((⟨X,0,none⟩:Addr).add j)=some (.slice Y yl yc)):=fun j hj=>by
  have e:j=0:=by omega
  subst e;rw[add0];exact keep HBA.out HX.out
 obtain⟨q1,q2,q3⟩:=hk01;clear hk0;go_wp2_with fail;refine(HM.out _).mono ?_;rintro e w' ⟨rfl,hw'⟩;have hw' := hw'.symm;subst hw';go_wp2_with (refine wpList_copy_rp rfl _ _ _ _ rfl 25 25 Tryz.underlying135 size_int w.heap.size n 0 k0 n n ⟨X,0,none⟩ 1 1 (.slice Y yl yc) rfl rfl HL0.out HK0.out Om rfl HX1.out w.heap.size w HBA.out (Nat.le_refl _) ?_;intro w1 hl1 hb1);clear HL0 HX1 HBA HX hmk HM HK0;go_loopw [8] (fun i wr=>∃k:Nat,(1≤k∨n=0)∧k≤n∧i=.int .i64 k∧Rp wr 25 w.heap.size n k (.slice Y yl yc)∧Below w.heap.size w wr) (fun i _=>n - (intOf i).toNat)
 case atStart=>exact⟨k0,by omega,q2,rfl,by have:=hl1.out;rwa [Nat.zero_add]at this,hb1.out⟩
 clear q1 q2 q3;obtain⟨k,hk1,hk,rfl,hl,hb⟩:=hrel;have HL:=hid hl;have HB:=hid hb;clear hl hb;by_cases hlt:k<n
 · have hsrc : Hid (∀ m, m ≤ k → ∀ j, j < m → wr.cell? ((⟨w.heap.size, 0, none⟩ : Addr).add j) = some (.slice Y yl yc)) := fun m hm j hj => by
    obtain⟨f,hf,hc⟩:=HL.out;have h1:=hf.cell (i:=j) Om;rw[hc j Om]at h1;rw[add0];exact h1
   have hk1':1≤k:=by omega
   obtain⟨m,hm⟩:∃m,Nat.min k (n - k)=m:=⟨_,rfl⟩;have hm':m=Nat.min k (n - k):=hm.symm;have hmm:m≤k∧k+m≤n∧1≤m:=by have:Nat.min k (n - k)=min k (n - k):=rfl;omega
   have HMm:=hid hm';have HS2:=hid (hsrc.out m hmm.1);clear hm hm' hsrc hk1;obtain⟨w2,hcp,hl2,hb2⟩:=run_copy_rp (P:=Tryz.prog) (w:=wr.drew) 135 135 3 25 25 Tryz.underlying135 size_int w.heap.size n k m (n - k) (n - k) ⟨w.heap.size,0,none⟩ k n (.slice Y yl yc) (HL.out.below (Below.refl _ wr).drew) HMm.out hmm.2.1 rfl (fun j hj=>by have:=HS2.out j hj;rw[add0]at this ⊢;exact keep (Below.refl _ wr).drew this) w.heap.size w HB.out.drew (Nat.le_refl _);have HL2:=hid hl2;have HB2:=hid hb2;clear hl2 hb2 HS2 HMm;obtain⟨m1,m2,m3⟩:=hmm;go_wp2;go_region
   all_goals
    go_wp2;go_roundw
    case rel=>exact⟨k+m,by omega,m2,by go_num,HL2.out,HB2.out⟩
    case measure=>simp[intOf];omega
 have e:k=n:=by omega
 subst e;go_wp2;go_ret;obtain⟨f,hf,hc⟩:=HL.out;exact⟨w.heap.size,rfl,Nat.le_refl _,hf.congr (fun i hi=>hc i hi),HB.out⟩
end Go.Proofs.YtcnoemjeijjnjaaGreat.repOne
