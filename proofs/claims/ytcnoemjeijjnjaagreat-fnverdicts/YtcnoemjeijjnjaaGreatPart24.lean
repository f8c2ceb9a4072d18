import Derived.Test.YtcnoemjeijjnjaaGreatPart23
import Derived.OrdersIn
import Derived.ControlIn
import Derived.RangeFuncCalls
import Derived.RangeFuncNested
import Derived.RangeFuncBound
import Derived.RangeFuncLeaves
import Derived.Shelf.Abstract
import Derived.Shelf.RegionOpen
import Derived.WalkKit
import Derived.OwnWalkIn
import Derived.TacticsInMore
import Derived.LoopNIn
import Derived.LoopIn
set_option linter.unusedVariables false
namespace Go.Proofs.YtcnoemjeijjnjaaGreat.countImpl
open Go.RowKit Go.Deep Go.Shelf Go base copy downsSpec verHold noRts repOne
set_option maxHeartbeats 1600000 in
theorem count_impl (a:Option Addr) (n c:Nat) (ds:List Bool) (w:World) (h:BoolRow w a n ds) (hn:n≤6) :
  Calls Tryz.prog 30 #[.slice a n c] w fun e w'=>e=.returned (.int .i64 (cntT ds:Nat))∧w' = w:=by
 have hl:=h.length;have HL:=hid hl;have HR:=hid h;clear h hl;go_enter Tryz.func30,Tryz.ntmps30;go_wp2;go_loopw [8,3] (fun i m wr=>∃q:Nat,q≤n∧i=.int .i64 q∧m=.int .i64 (cntT (ds.take q):Nat)∧wr=w) (fun i _ _=>n - (intOf i).toNat)
 case atStart=>exact⟨0,Nat.zero_le _,rfl,rfl,rfl⟩
 obtain⟨q,hq,rfl,rfl,rfl⟩:=hrel;by_cases hlt:q<n
 · obtain⟨b,off,rfl,hc⟩:=HR.out.cell q hlt;obtain⟨v,hv⟩:∃v,ds[q]?.getD false=v:=⟨_,rfl⟩;rw[hv]at hc
   have hvq:ds[q]? = some v:=by
    rw[List.getElem?_eq_getElem (by rw[HL.out];exact hlt)]at hv ⊢;exact congrArg some hv
   have hT:=cnt_snoc (ds.take q) v;have hT2:ds.take (q+1)=ds.take q++[v]:=by rw[List.take_add_one,hvq];rfl
   rw[←hT2]at hT;have hle:cntT (ds.take q)≤q:=Nat.le_trans (cnt_le _) (by rw[List.length_take];omega);obtain⟨C,hC⟩:∃C,cntT (ds.take q)=C:=⟨_,rfl⟩;rw[hC]at hT hle ⊢;have HT:=hid hT;have hqi:(q:Int)<(n:Int):=by omega
   clear hT hT2 hvq hv hC
   cases v with
   | false =>
    go_wp2;go_roundw
    case rel=>exact⟨q+1,hlt,by go_num,by rw[HT.out];rfl,by first|rfl|trivial⟩
    case measure=>simp[intOf];omega
   | true =>
    go_wp2;go_roundw
    case rel=>exact⟨q+1,hlt,by go_num,by rw[HT.out];go_num,by first|rfl|trivial⟩
    case measure=>simp[intOf];omega
 have e:q=n:=by omega
 subst e;have HT:Hid (ds.take q=ds):=hid (List.take_of_length_le (Nat.le_of_eq HL.out));rw[HT.out];obtain⟨C,hC⟩:∃C,cntT ds=C:=⟨_,rfl⟩;rw[hC];have HC:=hid hC;clear hC;go_wp2;go_ret;exact⟨by rw[HC.out];rfl,by first|rfl|trivial⟩
theorem rows_int {w w':World} {RB n Y:Nat} (hY:w.heap[Y]? = some (.cells #[.int .i64 0,.int .i64 1,.int .i64 2] 3 (0,0))) (hr:w'.rowIs RB 25 n (fun _=>.slice (some ⟨Y,0,none⟩) 3 3)) (hb:Below w.heap.size w w') {B0:Nat} (hB:B0≤Y) :
  pickI.RowsD B0 w'.heap.size RB n (fun _=>.slice (some ⟨Y,0,none⟩) 3 3) (fun _=>[0,1,2]) w' := by
 have hy' := (hb.block _ (Array.getElem?_eq_some_iff.1 hY).1).trans hY;exact⟨hr,fun i hi=>⟨rfl,.inr ⟨Y,3,_,rfl,hB,hy',by decide,by decide,rfl,rfl⟩⟩,fun i g hi hg=>by injection hg with hg;subst hg;exact(Array.getElem?_eq_some_iff.1 hy').1,fun i hi=>by simp⟩
theorem rows_bool {w w':World} {RB n Y:Nat} (hY:w.heap[Y]? = some (.cells #[.bool false,.bool true] 4 (0,0))) (hr:w'.rowIs RB 35 n (fun _=>.slice (some ⟨Y,0,none⟩) 2 2)) (hb:Below w.heap.size w w') {B0:Nat} (hB:B0≤Y) :
  pickB.RowsD B0 w'.heap.size RB n (fun _=>.slice (some ⟨Y,0,none⟩) 2 2) (fun _=>[false,true]) w' := by
 have hy' := (hb.block _ (Array.getElem?_eq_some_iff.1 hY).1).trans hY;exact⟨hr,fun i hi=>⟨rfl,.inr ⟨Y,2,_,rfl,hB,hy',by decide,by decide,rfl,rfl⟩⟩,fun i g hi hg=>by injection hg with hg;subst hg;exact(Array.getElem?_eq_some_iff.1 hy').1,fun i hi=>by simp⟩
theorem downs_impl (L k:Nat) (w:World) :
  Calls Tryz.prog 82 #[.int .i64 (L:Int),.int .i64 (k:Int)] w fun e w'=>e=.returned (.func (.func 121) #[] #[.pointer (some ⟨w.heap.size+1,0,none⟩),.pointer (some ⟨w.heap.size,0,none⟩)])∧w' = (w.alloc (.cells #[.int .i64 (L:Int)] 3)).alloc (.cells #[.int .i64 (k:Int)] 3):=by
 go_enter Tryz.func82,Tryz.ntmps82;go_wp2;go_ret;exact⟨rfl,rfl⟩
set_option maxHeartbeats 1600000 in
theorem ann_impl (n:Nat) (hn:n≤6) (w:World) :
  Calls Tryz.prog 83 #[.int .i64 (n:Int)] w fun e w'=>∃Bx RB V,e=.returned (.func (.func 148) #[] #[.pointer (some ⟨Bx,0,none⟩)])∧pickI.RowsD w.heap.size w'.heap.size RB n V (fun _=>[0,1,2]) w'∧Boxed w' Bx 135 (.slice (some ⟨RB,0,none⟩) n n)∧Below w.heap.size w w' := by
 obtain⟨W1,hW1⟩:∃W1,(w.alloc (.cells #[.int .i64 0,.int .i64 1,.int .i64 2] 3)).alloc (.cells #[.slice (some ⟨w.heap.size,0,none⟩) 3 3] 25)=W1:=⟨_,rfl⟩;have HB1:Hid (Below w.heap.size w W1):=hid (by rw[←hW1];exact Bl);have HY:Hid (W1.heap[w.heap.size]? = some (.cells #[.int .i64 0,.int .i64 1,.int .i64 2] 3 (0,0))):=hid (by rw[←hW1,Below.heap_alloc _ _ _ (by simp)];exact World.alloc_heap_new w _);have HR:=hid (repeat_int n hn (w.heap.size+1) (some ⟨w.heap.size,0,none⟩) 3 3 W1 (by rw[←hW1];simp[go_sem]));have HW1:=hid hW1;clear hW1;go_enter Tryz.func83,Tryz.ntmps83;go_wp2_with fail;rw[HW1.out];refine HR.out.mono ?_;rintro e1 w2 ⟨N,rfl,hN,hr,hb⟩;have HBx:Hid (Boxed (w2.alloc (.cells #[.slice (some ⟨N,0,none⟩) n n] 135)) w2.heap.size 135 (.slice (some ⟨N,0,none⟩) n n)):=hid (Boxed.new _ _ _);have HRd:Hid (pickI.RowsD w.heap.size (w2.alloc (.cells #[.slice (some ⟨N,0,none⟩) n n] 135)).heap.size N n (fun _=>.slice (some ⟨w.heap.size,0,none⟩) 3 3) (fun _=>[0,1,2]) (w2.alloc (.cells #[.slice (some ⟨N,0,none⟩) n n] 135))):=hid (rows_int HY.out (hr.of_block (Below.heap_alloc _ _ _ hr.lt)) (hb.alloc hb.size _) (Nat.le_refl _));have HB2:Hid (Below w.heap.size w (w2.alloc (.cells #[.slice (some ⟨N,0,none⟩) n n] 135))):=hid ((HB1.out.trans (hb.mono HB1.out.size)).alloc (Nat.le_trans HB1.out.size hb.size) _);clear hr hb hN;go_wp2_with (go_at_call 124;refine(picksI.picks_impl _ _ _ _).mono ?_;rintro e3 w3 ⟨rfl,hw3⟩;have hw3:=hw3.symm;subst hw3);go_ret;exact⟨_,N,_,rfl,HRd.out,HBx.out,HB2.out⟩
end Go.Proofs.YtcnoemjeijjnjaaGreat.countImpl
namespace Go.Proofs.YtcnoemjeijjnjaaGreat.drawnIn
open Go heldStore drawn
variable {P : Program} {ops : Array Oper} {Q : Exit→Act→World→Prop} {l m : Nat}
theorem rows_in {row:String} {args:Array Value} {w:World} {R:Value→World→Prop} (h:Rows P row args w R):RowsIn (Fence.wide.inRound l) m P row args w R :=
 fun c cs _=>let ⟨v,w',r,s⟩:=h c cs;⟨v,w',r,stepsIn_wide.2 s⟩
theorem oper_in {o:Oper} {a:Act} {w:World} {K:Act→World→Prop} (hd:∀c,o.op≠.defer c) (h:o.wp P a w K Q):o.wpIn (Fence.wide.inRound l) m P a w K Q:=by
 refine⟨fun _ _=>trivial,?_⟩;rw[Oper.semAt_eq _ _ _ hd];unfold Oper.wp at h;generalize (execOp a.eval o).run P w=r at h ⊢
 cases r with
 | ok x w' =>
  cases x with
  | value v=>exact h
  | skip=>exact h
  | defer d=>exact h
  | enter f args=>exact⟨fun e=>(by cases e),CallsIn.inRound l (callsIn_wide.2 h)⟩
  | row r args=>exact⟨fun e=>(by cases e),rows_in h⟩
  | _=>exact h.elim
 | halt x w'=>cases x<;>exact h
def nodef (ops : Array Oper) : Bool := ops.all fun o=>match o.op with | .defer _=>false|_=>true
theorem nodef_spec (h:nodef ops=true) {i:Nat} {o:Oper} (ho:ops[i]? = some o):∀c,o.op≠.defer c:=by
 obtain⟨hi,e⟩:=Array.getElem?_eq_some_iff.1 ho;have h1:=(Array.all_eq_true.1 h) i hi;rw[e]at h1;intro c hc;rw[hc]at h1;cases h1
def upA (ops : Array Oper) : Bool := (List.range ops.size).all fun i=>((ops[i]?).map (·.after.all fun e=>decide (e.on<i)||!Region.binds .any e)).getD true
theorem upA_spec (h:upA ops=true) {i:Nat} {o:Oper} (ho:ops[i]? = some o):∀e∈o.after,Region.binds .any e=true→e.on<i:=by
 have hlt:i<ops.size:=(Array.getElem?_eq_some_iff.1 ho).1;have h1:=List.all_eq_true.1 h i (List.mem_range.2 hlt);rw[ho]at h1;simp only[Option.map_some,Option.getD_some,Array.all_eq_true_iff_forall_mem]at h1;intro e he hb;have:=h1 e he;rw[hb]at this;simpa using this
theorem ready_some (h:upA ops=true) {listed:Array Bool} (hs:listed.size=ops.size):∀n,listed.getD n true=false→Region.ready .any ops listed≠[]:=by
 intro n
 induction n using Nat.strongRecOn with
 | _ n ih =>
  intro hn he
  have hlt:n<ops.size:=by
   rcases Nat.lt_or_ge n listed.size with h'|h'
   · omega
   simp[Array.getElem?_eq_none h']at hn
  by_cases hall:∀e∈(ops[n]).after,Region.binds .any e=true→listed.getD e.on false=true
  · have:n∈Region.ready .any ops listed:=mem_ready.2 ⟨hn,ops[n],by simp[hlt],hall⟩;rw[he]at this;cases this
  have hx:∃e∈(ops[n]).after,Region.binds .any e=true∧listed.getD e.on false=false:=by
   apply Classical.byContradiction;intro hno;refine hall fun e he' hb'=>?_
   cases hb:listed.getD e.on false with
   | true=>rfl
   | false=>exact absurd ⟨e,he',hb',hb⟩ hno
  obtain⟨e,he',hb',hb⟩:=hx;have hlt' := upA_spec h (i:=n) (o:=ops[n]) (by simp[hlt]) e he' hb';exact ih e.on hlt' (getD_in Om hb) he
variable {A : (Nat→Value)→Act} {s : Nat→Nat} {Inv : (Nat→Bool)→(Nat→Value)→World→Prop} {n : Nat}
def come (L : Nat→Bool) (i : Nat) : Nat→Bool := fun j=>if j=i then true else L j
def Known (m : Nat) (sl : Nat→Nat) (val : Nat→Value) (L : Nat→Bool) (u : Nat→Value) : Prop := ∀j,j<m→L j=true→u (sl j)=val j
theorem Known.none (m:Nat) (sl:Nat→Nat) (val:Nat→Value) (u:Nat→Value):Known m sl val (fun _=>false) u:=fun _ _ h=>(by cases h)
theorem Known.put {m:Nat} {sl:Nat→Nat} {val:Nat→Value} {L:Nat→Bool} {u:Nat→Value} (h:Known m sl val L u) (hinj:∀a b,a<m→b<m→sl a=sl b→a=b) {i:Nat} (hi:i<m) {v:Value} (hv:v=val i):Known m sl val (come L i) (upd u (sl i) v):=fun j hj hL=>by
 by_cases e:j=i
 · subst e;rw[upd_same,hv]
 rw[upd_ne _ _ (fun e'=>e (hinj j i hj hi e'))];unfold come at hL;rw[if_neg e]at hL;exact h j hj hL
theorem Known.other {m:Nat} {sl:Nat→Nat} {val:Nat→Value} {L:Nat→Bool} {u:Nat→Value} (h:Known m sl val L u) {i k:Nat} (hi:m≤i) (hk:∀j,j<m→sl j≠k) (v:Value):Known m sl val (come L i) (upd u k v):=fun j hj hL=>by
 rw[upd_ne _ _ (hk j hj)];unfold come at hL;rw[if_neg Om]at hL;exact h j hj hL
theorem any_all (hd:nodef ops=true) (hz:ops.size=n+1) (hE:LastOf ops n) (hup:upA ops=true)
  (hput:∀i,i<n→∀u v,(A u).put (some (s i)) v=A (upd u (s i) v))
  (step:∀i,i<n→∀L u w,L i=false→(∀j,Region.waitsFor .any ops i j=true→L j=true)→Inv L u w→∃o,ops[i]? = some o∧∀K':Act→World→Prop,Shut (∀v w',Inv (come L i) (upd u (s i) v) w'→K' ((A u).put (some (s i)) v) w')→if Region.wanted o (yielded ops (A u).tmps)=true then Oper.wp P o (A u) w K' Q else K' ((A u).put o.dst undef) w)
  (last:∀L u w,(∀j,j<n→L j=true)→Inv L u w→∃o,ops[n]? = some o∧∀K':Act→World→Prop,Shut (∀a w,Q .normal a w→K' a w)→if Region.wanted o (yielded ops (A u).tmps)=true then Oper.wp P o (A u) w K' Q else K' ((A u).put o.dst undef) w) :
  ∀(fuel:Nat) (listed:Array Bool) (u:Nat→Value) (w:World),falses listed.toList≤fuel→HeadInv .any ops n listed→Inv (fun j=>listed.getD j false) u w →
   wpAnyIn (Fence.wide.inRound l) m P .any ops Q fuel listed (A u) w:=by
 intro fuel
 induction fuel with
 | zero =>
  intro listed u w hf inv _;have:=falses_pos _ _ (at_false (inv.tail n (Nat.le_refl _) Om));omega
 | succ fuel ih =>
  intro listed u w hf inv hI;have hn:=inv.tail n (Nat.le_refl _) Om;refine⟨fun h=>absurd h (ready_some hup inv.size n hn),fun i hi=>?_⟩;have hi' := mem_ready.1 hi;obtain⟨hun,oi,hoi,hall⟩:=hi';have hisz:i<n+1:=by rw[←hz];exact(Array.getElem?_eq_some_iff.1 hoi).1
  have go:∀ {o:Oper} {K K':Act→World→Prop},ops[i]? = some o→(∀a w,K' a w→K a w)→(if Region.wanted o (yielded ops (A u).tmps)=true then Oper.wp P o (A u) w K' Q else K' ((A u).put o.dst undef) w)→wpOpIn (Fence.wide.inRound l) m P ops Q i K (A u) w:=by
   intro o K K' ho hK h;unfold wpOpIn;rw[ho];simp only
   split
   · next hw=>rw[if_pos hw]at h;exact Oper.wpIn_mono hK (oper_in (nodef_spec hd ho) h)
   next hw=>rw[if_neg hw]at h;exact⟨fun _ _=>trivial,hK _ _ h⟩
  by_cases hin:i<n
  · obtain ⟨o, ho, h⟩ := step i hin (fun j => listed.getD j false) u w (getD_both hun) (fun j hj => by
     obtain⟨oj,hoj,e,he,hb,hon⟩:=Region.waitsFor_spec hj;have e1:oj=oi:=Option.some.inj (hoj.symm.trans hoi);subst e1;have h1:=hall e he hb;rw[hon]at h1
     exact h1) hI
    refine go ho (K' := wpAnyIn (Fence.wide.inRound l) m P .any ops Q fuel (listed.setIfInBounds i true)) (fun _ _ h=>h) (h _ fun v w' hI'=>?_);rw[hput i hin];refine ih _ _ _ ?_ (inv.set hi hin) ?_
    · have:=falses_set _ _ (at_false hun);simp only[Array.toList_setIfInBounds];omega
    have:(fun j=>(listed.setIfInBounds i true).getD j false)=come (fun j=>listed.getD j false) i:=by
     funext j
     unfold come;by_cases e:j=i
     · subst e;rw[if_pos rfl];have:j<listed.size:=by rw[inv.size,hz];omega
       simp[this]
     rw[if_neg e,getD_set_ne false (Ne.symm e)]
    rw[this];exact hI'
  have e:i=n:=by omega
  subst e
  have hlall:∀j,j<i→listed.getD j false=true:=by
   intro j hj
   cases hb:listed.getD j false with
   | true=>rfl
   | false=>exact absurd hi (tail_waits hE.sink hE.chain hE.lt inv _ j rfl hj (getD_in (by rw[inv.size];omega) hb) i (Nat.le_refl _))
  obtain⟨o,ho,h⟩:=last _ u w hlall hI;refine go ho (K' := wpAnyIn (Fence.wide.inRound l) m P .any ops Q fuel (listed.setIfInBounds i true)) (fun _ _ h=>h) (h _ fun a' w' hq=>?_)
  have hdn:Region.ready .any ops (listed.setIfInBounds i true)=[]:=by
   cases hr:Region.ready .any ops (listed.setIfInBounds i true) with
   | nil=>rfl
   | cons k l =>
    have hk:k∈Region.ready .any ops (listed.setIfInBounds i true):=by rw[hr];exact List.mem_cons_self
    obtain⟨h1,ok,hok,_⟩:=mem_ready.1 hk;have hklt:k<i+1:=by rw[←hz];exact(Array.getElem?_eq_some_iff.1 hok).1
    by_cases e:k=i
    · subst e;have:k<listed.size:=by rw[inv.size];omega
      simp[this]at h1
    rw[getD_set_ne true (Ne.symm e)]at h1;have h2:=hlall k Om;rw[getD_both h1]at h2;cases h2
  cases fuel with
  | zero=>exact⟨hdn,hq⟩
  | succ f=>exact⟨fun _=>hq,fun k hk=>by rw[hdn]at hk;cases hk⟩
theorem region_all {id:Nat} {a:Act} {w:World} (A:(Nat→Value)→Act) (s:Nat→Nat) (Inv:(Nat→Bool)→(Nat→Value)→World→Prop) (n:Nat) (u0:Nat→Value) (ha:a=A u0)
  (hm:P.follows .mixedOrders=true) (hd:nodef ops=true) (hz:ops.size=n+1) (hE:LastOf ops n) (hup:upA ops=true) (hS:Inv (fun _=>false) u0 w.drew)
  (hput:∀i,i<n→∀u v,(A u).put (some (s i)) v=A (upd u (s i) v))
  (step:∀i,i<n→∀L u w,L i=false→(∀j,Region.waitsFor .any ops i j=true→L j=true)→Inv L u w→∃o,ops[i]? = some o∧∀K':Act→World→Prop,Shut (∀v w',Inv (come L i) (upd u (s i) v) w'→K' ((A u).put (some (s i)) v) w')→if Region.wanted o (yielded ops (A u).tmps)=true then Oper.wp P o (A u) w K' Q else K' ((A u).put o.dst undef) w)
  (last:∀L u w,(∀j,j<n→L j=true)→Inv L u w→∃o,ops[n]? = some o∧∀K':Act→World→Prop,Shut (∀a w,Q .normal a w→K' a w)→if Region.wanted o (yielded ops (A u).tmps)=true then Oper.wp P o (A u) w K' Q else K' ((A u).put o.dst undef) w) :
  (Code.region id ops true).wpIn (Fence.wide.inRound l) m P Q a w:=by
 subst ha;refine wpIn_region_any hm ?_;rw[hz];have he:(fun j=>(Array.replicate (n+1) false).getD j false)=fun _=>false:=by funext j;exact getD_replicate_false _ _
 refine any_all hd hz hE hup hput step last _ _ _ _ ?_ ⟨by simp[hz],fun j oj _ hl=>(by rw[getD_replicate_false]at hl;cases hl),fun t _ ht=>getD_in (by simp;omega) (getD_replicate_false _ _)⟩ (by rw[he];exact hS);simp[falses_replicate]
end Go.Proofs.YtcnoemjeijjnjaaGreat.drawnIn
namespace Go.Proofs.YtcnoemjeijjnjaaGreat.drawnYield
open Go heldStore drawn drawnIn
variable {P : Program} {ops : Array Oper} {Q : Exit→Act→World→Prop} {l m : Nat}
variable {A : (Nat→Value)→Act} {s : Nat→Nat} {Inv : (Nat→Bool)→(Nat→Value)→World→Prop} {n : Nat}
theorem step_in {o:Oper} {a:Act} {w:World} {K:Act→World→Prop} {c:Bool} (hd:∀c,o.op≠.defer c) {Z:Prop} (h:if c=true then Oper.wp P o a w K Q else Z):if c=true then Oper.wpIn (Fence.wide.inRound l) m P o a w K Q else Z:=by
 split
 · next hc=>rw[if_pos hc]at h;exact oper_in hd h
 next hc=>rw[if_neg hc]at h;exact h
theorem any_yield (hz:ops.size=n+1) (hE:LastOf ops n) (hup:upA ops=true)
  (hput:∀i,i<n→∀u v,(A u).put (some (s i)) v=A (upd u (s i) v))
  (step:∀i,i<n→∀L u w,L i=false→(∀j k,L j=true→Region.waitsFor .any ops j k=true→L k=true)→(∀j,Region.waitsFor .any ops i j=true→L j=true)→Inv L u w→∃o,ops[i]? = some o∧∀K':Act→World→Prop,Shut (∀v w',Inv (come L i) (upd u (s i) v) w'→K' ((A u).put (some (s i)) v) w')→if Region.wanted o (yielded ops (A u).tmps)=true then Oper.wpIn (Fence.wide.inRound l) m P o (A u) w K' Q else K' ((A u).put o.dst undef) w)
  (last:∀L u w,(∀j,j<n→L j=true)→Inv L u w→∃o,ops[n]? = some o∧∀K':Act→World→Prop,Shut (∀a w,Q .normal a w→K' a w)→if Region.wanted o (yielded ops (A u).tmps)=true then Oper.wpIn (Fence.wide.inRound l) m P o (A u) w K' Q else K' ((A u).put o.dst undef) w) :
  ∀(fuel:Nat) (listed:Array Bool) (u:Nat→Value) (w:World),falses listed.toList≤fuel→HeadInv .any ops n listed→Inv (fun j=>listed.getD j false) u w →
   wpAnyIn (Fence.wide.inRound l) m P .any ops Q fuel listed (A u) w:=by
 intro fuel
 induction fuel with
 | zero =>
  intro listed u w hf inv _;have:=falses_pos _ _ (at_false (inv.tail n (Nat.le_refl _) Om));omega
 | succ fuel ih =>
  intro listed u w hf inv hI;have hn:=inv.tail n (Nat.le_refl _) Om;refine⟨fun h=>absurd h (ready_some hup inv.size n hn),fun i hi=>?_⟩;have hi' := mem_ready.1 hi;obtain⟨hun,oi,hoi,hall⟩:=hi';have hisz:i<n+1:=by rw[←hz];exact(Array.getElem?_eq_some_iff.1 hoi).1
  have go:∀ {o:Oper} {K K':Act→World→Prop},ops[i]? = some o→(∀a w,K' a w→K a w)→(if Region.wanted o (yielded ops (A u).tmps)=true then Oper.wpIn (Fence.wide.inRound l) m P o (A u) w K' Q else K' ((A u).put o.dst undef) w)→wpOpIn (Fence.wide.inRound l) m P ops Q i K (A u) w:=by
   intro o K K' ho hK h;unfold wpOpIn;rw[ho];simp only
   split
   · next hw=>rw[if_pos hw]at h;exact Oper.wpIn_mono hK h
   next hw=>rw[if_neg hw]at h;exact⟨fun _ _=>trivial,hK _ _ h⟩
  by_cases hin:i<n
  · obtain ⟨o, ho, h⟩ := step i hin (fun j => listed.getD j false) u w (getD_both hun) (fun j k hj hk => by
     obtain⟨oj,hoj,e,he,hb,hon⟩:=Region.waitsFor_spec hk;have h1:=inv.closed j oj hoj hj e he hb;rw[hon]at h1
     exact h1) (fun j hj=>by
     obtain⟨oj,hoj,e,he,hb,hon⟩:=Region.waitsFor_spec hj;have e1:oj=oi:=Option.some.inj (hoj.symm.trans hoi);subst e1;have h1:=hall e he hb;rw[hon]at h1
     exact h1) hI
    refine go ho (K' := wpAnyIn (Fence.wide.inRound l) m P .any ops Q fuel (listed.setIfInBounds i true)) (fun _ _ h=>h) (h _ fun v w' hI'=>?_);rw[hput i hin];refine ih _ _ _ ?_ (inv.set hi hin) ?_
    · have:=falses_set _ _ (at_false hun);simp only[Array.toList_setIfInBounds];omega
    have:(fun j=>(listed.setIfInBounds i true).getD j false)=come (fun j=>listed.getD j false) i:=by
     funext j
     unfold come;by_cases e:j=i
     · subst e;rw[if_pos rfl];have:j<listed.size:=by rw[inv.size,hz];omega
       simp[this]
     rw[if_neg e,getD_set_ne false (Ne.symm e)]
    rw[this];exact hI'
  have e:i=n:=by omega
  subst e
  have hlall:∀j,j<i→listed.getD j false=true:=by
   intro j hj
   cases hb:listed.getD j false with
   | true=>rfl
   | false=>exact absurd hi (tail_waits hE.sink hE.chain hE.lt inv _ j rfl hj (getD_in (by rw[inv.size];omega) hb) i (Nat.le_refl _))
  obtain⟨o,ho,h⟩:=last _ u w hlall hI;refine go ho (K' := wpAnyIn (Fence.wide.inRound l) m P .any ops Q fuel (listed.setIfInBounds i true)) (fun _ _ h=>h) (h _ fun a' w' hq=>?_)
  have hdn:Region.ready .any ops (listed.setIfInBounds i true)=[]:=by
   cases hr:Region.ready .any ops (listed.setIfInBounds i true) with
   | nil=>rfl
   | cons k l =>
    have hk:k∈Region.ready .any ops (listed.setIfInBounds i true):=by rw[hr];exact List.mem_cons_self
    obtain⟨h1,ok,hok,_⟩:=mem_ready.1 hk;have hklt:k<i+1:=by rw[←hz];exact(Array.getElem?_eq_some_iff.1 hok).1
    by_cases e:k=i
    · subst e;have:k<listed.size:=by rw[inv.size];omega
      simp[this]at h1
    rw[getD_set_ne true (Ne.symm e)]at h1;have h2:=hlall k Om;rw[getD_both h1]at h2;cases h2
  cases fuel with
  | zero=>exact⟨hdn,hq⟩
  | succ f=>exact⟨fun _=>hq,fun k hk=>by rw[hdn]at hk;cases hk⟩
theorem region_yield {id:Nat} {a:Act} {w:World} (A:(Nat→Value)→Act) (s:Nat→Nat) (Inv:(Nat→Bool)→(Nat→Value)→World→Prop) (n:Nat) (u0:Nat→Value) (ha:a=A u0)
  (hm:P.follows .mixedOrders=true) (hz:ops.size=n+1) (hE:LastOf ops n) (hup:upA ops=true) (hS:Inv (fun _=>false) u0 w.drew)
  (hput:∀i,i<n→∀u v,(A u).put (some (s i)) v=A (upd u (s i) v))
  (step:∀i,i<n→∀L u w,L i=false→(∀j k,L j=true→Region.waitsFor .any ops j k=true→L k=true)→(∀j,Region.waitsFor .any ops i j=true→L j=true)→Inv L u w→∃o,ops[i]? = some o∧∀K':Act→World→Prop,Shut (∀v w',Inv (come L i) (upd u (s i) v) w'→K' ((A u).put (some (s i)) v) w')→if Region.wanted o (yielded ops (A u).tmps)=true then Oper.wpIn (Fence.wide.inRound l) m P o (A u) w K' Q else K' ((A u).put o.dst undef) w)
  (last:∀L u w,(∀j,j<n→L j=true)→Inv L u w→∃o,ops[n]? = some o∧∀K':Act→World→Prop,Shut (∀a w,Q .normal a w→K' a w)→if Region.wanted o (yielded ops (A u).tmps)=true then Oper.wpIn (Fence.wide.inRound l) m P o (A u) w K' Q else K' ((A u).put o.dst undef) w) :
  (Code.region id ops true).wpIn (Fence.wide.inRound l) m P Q a w:=by
 subst ha;refine wpIn_region_any hm ?_;rw[hz];have he:(fun j=>(Array.replicate (n+1) false).getD j false)=fun _=>false:=by funext j;exact getD_replicate_false _ _
 refine any_yield hz hE hup hput step last _ _ _ _ ?_ ⟨by simp[hz],fun j oj _ hl=>(by rw[getD_replicate_false]at hl;cases hl),fun t _ ht=>getD_in (by simp;omega) (getD_replicate_false _ _)⟩ (by rw[he];exact hS);simp[falses_replicate]
end Go.Proofs.YtcnoemjeijjnjaaGreat.drawnYield
namespace Go.Proofs.YtcnoemjeijjnjaaGreat.rofBack
open Go.RowKit Go.Deep Go.Shelf Go base
attribute [local go_sem] Oper.semAt_some
def upto {α : Type} (f : Nat→α) (k : Nat) : List α := (List.range k).map f
theorem upto_succ {α:Type} (f:Nat→α) (k:Nat):upto f (k+1)=upto f k++[f k]:=by simp[upto,List.range_succ]
theorem upto_length {α:Type} (f:Nat→α) (k:Nat):(upto f k).length=k:=by simp[upto]
theorem upto_snoc {α:Type} {f:Nat→α} {pre:List α} {y:α} {t:Nat} (h:pre++[y]=upto f t):∃t',t=t' + 1∧pre=upto f t'∧y=f t'∧pre.length=t' := by
 cases t with
 | zero=>simp[upto]at h
 | succ t =>
  rw[upto_succ]at h;obtain⟨h1,h2⟩:=List.append_inj' h rfl;exact⟨t,rfl,h1,by simpa using h2,by rw[h1,upto_length]⟩
set_option maxRecDepth 100000 in
set_option maxHeartbeats 2000000 in
theorem back1_in {α:Type} (encs:α→Array Value) (f:Nat→α) (d l Bs len cap:Nat) (a:Option Addr) (zs:List Int) (he:∀k:Nat,k<len→encs (f k)=#[.int .i64 ((len:Int) - 1 - k),.int .i64 (zs[len - 1 - k]?.getD 0)]) (Kp:World→World→Prop) (J Jx:List α→World→Prop)
  (hK:∀W W',Kp W W'→W.cell? ⟨Bs,0,none⟩=some (.slice a len cap)∧IntRow W a len zs→W'.cell? ⟨Bs,0,none⟩=some (.slice a len cap)∧IntRow W' a len zs)
  (hY:∀pre x W,J pre W→pre.length<len→YieldAt Fence.wide (d - 1) Tryz.prog l (encs x) W fun e W' =>
   (e=.returned (.bool true)∧J (pre++[x]) W'∧Kp W W')∨(e=.returned (.bool false)∧Jx (pre++[x]) W'))
  (W:World) (hG:W.cell? ⟨Bs,0,none⟩=some (.slice a len cap)∧IntRow W a len zs) (h0:J [] W) :
  CallsIn Fence.wide d Tryz.prog 106 #[.func (.yield l) #[] #[],.pointer (some ⟨Bs,0,none⟩)] W fun e W'=>(∃v,e=.returned v) ∧
   ((∃ys,ys=upto f len∧J ys W')∨(∃pre,(∃k,k≤len∧pre=upto f k)∧Jx pre W')):=by
 have hmost:=hG.2.most;unfold maxLen at hmost;have HG:=hid hG;have hBs:=hG.1;have HK:=hid hK;have HE:=hid he;clear hG hK he;refine callsIn_of_wp Tryz.func106 rfl trivial ?_ rfl;simp only[Tryz.ntmps106,List.size_toArray,List.length_cons,List.length_nil,Nat.reduceAdd,Nat.reduceSub,Array.replicate_succ,Array.replicate_zero,List.push_toArray,List.append_toArray,List.nil_append,List.cons_append];gi_wp2;clear hBs
 gi_loopw [3] (fun i wr=>∃k:Nat,k≤len∧i=.int .i64 ((len:Int) - 1 - k)∧J (upto f k) wr∧wr.cell? ⟨Bs,0,none⟩=some (.slice a len cap)∧IntRow wr a len zs)
  (fun i _=>((intOf i)+1).toNat)
 case atStart=>exact⟨0,Nat.zero_le _,by simp,h0,HG.out⟩
 obtain⟨k,hk,rfl,hJs,hc,hr⟩:=hrel;have HR:=hid hr;have HC:=hid hc;clear hr;by_cases hlt:k<len
 · obtain⟨fn,tmps,assign,body,hy,hR⟩:=hY _ (f k) wr hJs (by rw[upto_length];exact hlt);rw[HE.out k hlt]at hy;obtain⟨b,off,ha,hcx⟩:=HR.out.cell (len - 1 - k) Om;obtain⟨t,ht⟩:∃t:Nat,(len:Int) - 1 - k=(t:Int):=⟨len - 1 - k,by omega⟩;have ht2:len - 1 - k=t:=by omega
   rw[ht2]at hy hcx;rw[ht]at hy ⊢;have HT:=hid ht;have htl:(t:Int)<(len:Int):=by omega
   have hg0:decide ((0:Int)≤(t:Int))=true:=decide_eq_true Om;clear ht ht2;subst ha;gi_wp2;refine⟨fun h=>(by cases h),hR.mono ?_⟩;rintro e W3 (⟨rfl,hJ3,hk3⟩|⟨rfl,hJx3⟩)
   · have HG3:=hid (HK.out _ _ hk3 ⟨HC.out,HR.out⟩);gi_wp2;go_roundw
     case rel=>exact⟨k+1,by omega,by rw[show (len:Int) - 1 - (k+1:Nat)=(t:Int) - 1 by have:=HT.out;omega],by rw[upto_succ];exact hJ3,HG3.out⟩
     case measure=>simp[intOf]
   gi_wp2;refine bodyPost_ret (results_none rfl _ _ _) rfl ?_;exact⟨⟨_,rfl⟩,.inr ⟨_,⟨k+1,by omega,(upto_succ _ _).symm⟩,hJx3⟩⟩
 obtain rfl:k=len:=by omega
 have hg0:decide ((0:Int)≤(k:Int) - 1 - k)=false:=decide_eq_false Om;rw[show (k:Int) - 1 - k = -1 by omega];gi_wp2;go_end0;exact⟨⟨_,rfl⟩,.inl ⟨_,rfl,hJs⟩⟩
theorem back_stops {α:Type} (encs:α→Array Value) (f:Nat→α) (d Bs len cap:Nat) (a:Option Addr) (zs:List Int) (he:∀k:Nat,k<len→encs (f k)=#[.int .i64 ((len:Int) - 1 - k),.int .i64 (zs[len - 1 - k]?.getD 0)]) (Kp:World→World→Prop)
  (hK:∀W W',Kp W W'→W.cell? ⟨Bs,0,none⟩=some (.slice a len cap)∧IntRow W a len zs→W'.cell? ⟨Bs,0,none⟩=some (.slice a len cap)∧IntRow W' a len zs)
  (w:World) (hG:w.cell? ⟨Bs,0,none⟩=some (.slice a len cap)∧IntRow w a len zs) :
  SeqStopsK Fence.wide d Tryz.prog 106 #[.pointer (some ⟨Bs,0,none⟩)] encs Kp (fun ys=>ys=upto f len) (fun pre=>∃k,k≤len∧pre=upto f k) len w :=
 fun l J Jx W hW _ _ hY h0=>back1_in encs f d l Bs len cap a zs he Kp J Jx hK hY W ⟨keep hW hG.1,hG.2.below hW⟩ h0
theorem back_impl (a:Option Addr) (len cap:Nat) (w:World) :
  Calls Tryz.prog 66 #[.slice a len cap] w fun e w'=>e=.returned (.func (.func 106) #[] #[.pointer (some ⟨w.heap.size,0,none⟩)])∧w' = w.alloc (.cells #[.slice a len cap] 25):=by
 go_enter Tryz.func66,Tryz.ntmps66;go_wp2;go_ret;exact⟨rfl,rfl⟩
end Go.Proofs.YtcnoemjeijjnjaaGreat.rofBack
