import Derived.RangeFuncNested
import Derived.RangeFuncBound
import Derived.RangeFuncCalls
import Derived.RangeFuncLeaves
import Derived.Shelf.Abstract
import Derived.Test.YtcnoemjeijjnjaaGreatPart3
import Derived.Shelf.RegionOpen
import Derived.WalkKit
import Derived.OwnWalkIn
import Derived.TacticsInMore
import Derived.LoopNIn
import Derived.LoopIn
import Derived.BigRegion
import Derived.Deep.RegionWith
set_option linter.unusedVariables false
namespace Go.Proofs.YtcnoemjeijjnjaaGreat.rangeAt
open Go.RowKit Go.Shelf Go
theorem round_any {m m' l:Nat} {P:Program} {f:FuncId} {tmps:Array Value} {assign body:Code} {w:World} {R:Ending→World→Prop} (h:RoundIn Fence.wide m P l f tmps assign body w R):RoundIn Fence.wide m' P l f tmps assign body w R :=
 ⟨h.1,fun c cs _=>h.2 c cs (room_wide _)⟩
theorem yield_any {m m' l:Nat} {P:Program} {args:Array Value} {W:World} {R:Ending→World→Prop} (h:YieldAt Fence.wide m P l args W R):YieldAt Fence.wide m' P l args W R:=by
 obtain⟨fn,tmps,assign,body,hy,hr⟩:=h;exact⟨fn,tmps,assign,body,hy,round_any hr⟩
theorem calls_any {m m':Nat} {P:Program} {f:FuncId} {args:Array Value} {w:World} {R:Ending→World→Prop} (h:CallsIn Fence.wide m P f args w R):CallsIn Fence.wide m' P f args w R:=callsIn_wide.2 (callsIn_wide.1 h)
end Go.Proofs.YtcnoemjeijjnjaaGreat.rangeAt
namespace Go.Proofs.YtcnoemjeijjnjaaGreat.prodSem
open Go base netSem
def prod (A : Nat→List Int) : Nat→List (List Int)
 | 0=>[[]]
 | k+1=>(prod A k).flatMap fun c=>(A k).map fun v=>c++[v]
theorem prod_len {A : Nat→List Int} : ∀ {k : Nat} {c : List Int},c∈prod A k→c.length=k
 | 0,c,h=>by simp[prod]at h;rw[h];rfl
 | k+1,c,h=>by
  simp only[prod,List.mem_flatMap,List.mem_map]at h;obtain⟨c',hc',v,_,rfl⟩:=h;simp[prod_len hc']
theorem prod_in {A : Nat→List Int} : ∀ {k : Nat} {c : List Int},c∈prod A k→∀i,i<k→zAt c i∈A i
 | 0,c,h,i,hi=>absurd hi (Nat.not_lt_zero _)
 | k+1,c,h,i,hi=>by
  simp only[prod,List.mem_flatMap,List.mem_map]at h;obtain⟨c',hc',v,hv,rfl⟩:=h;have hl:=prod_len hc';unfold zAt;by_cases e:i=k
  · subst e;rw[List.getElem?_append_right Om,hl,Nat.sub_self];exact hv
  rw[List.getElem?_append_left Om];exact prod_in hc' i Om
theorem prod_size {A:Nat→List Int} {M:Nat}:∀k,(∀i,i<k→(A i).length≤M)→(prod A k).length≤M ^ k
 | 0,_=>by simp[prod]
 | k+1,h=>by
  have ih:=prod_size k (fun i hi=>h i Om);have hk:=h k Om;simp only[prod]
  have key:∀l:List (List Int),(l.flatMap fun c=>(A k).map fun v=>c++[v]).length=l.length*(A k).length:=by
   intro l
   induction l with
   | nil=>simp
   | cons c l ihl=>rw[List.flatMap_cons,List.length_append,ihl,List.length_map,List.length_cons,Nat.add_mul,Nat.one_mul,Nat.add_comm]
  rw[key,Nat.pow_succ];exact Nat.mul_le_mul ih hk
def allQ (q : Nat→Int→Bool) (c : List Int) : Bool := (List.range c.length).all fun i=>q i (zAt c i)
theorem allQ_snoc (q:Nat→Int→Bool) (c:List Int) (v:Int):allQ q (c++[v])=(allQ q c&&q c.length v):=by
 unfold allQ;rw[List.length_append,List.length_singleton,List.range_succ,List.all_append]
 have h1:(List.range c.length).all (fun i=>q i (zAt (c++[v]) i))=(List.range c.length).all fun i=>q i (zAt c i):=by
  apply Bool.eq_iff_iff.2;simp only[List.all_eq_true,List.mem_range]
  constructor
  · intro h i hi;have:=h i hi;unfold zAt at this ⊢
    rwa [List.getElem?_append_left hi]at this
  intro h i hi;have:=h i hi;unfold zAt at this ⊢
  rwa [List.getElem?_append_left hi]
 rw[h1]
 congr 1
 simp[zAt]
theorem prod_filter (A:Nat→List Int) (q:Nat→Int→Bool):∀k,prod (fun i=>(A i).filter (q i)) k=(prod A k).filter (allQ q)
 | 0=>rfl
 | k+1=>by
  show (prod (fun i=>(A i).filter (q i)) k).flatMap _=_
  rw[prod_filter A q k];have hl:∀c∈(prod A k),c.length=k:=fun c hc=>prod_len hc
  have h1:(((prod A k).filter (allQ q)).flatMap fun c=>((A k).filter (q k)).map fun v=>c++[v])=((prod A k).flatMap fun c=>(A k).map fun v=>c++[v]).filter (fun c=>allQ q c):=by
   revert hl
   generalize prod A k=l;intro hl
   induction l with
   | nil=>rfl
   | cons c l ih =>
    have ih:=ih (fun c' hc'=>hl c' (List.mem_cons_of_mem _ hc'));have hc:c.length=k:=hl c List.mem_cons_self;rw[List.flatMap_cons,List.filter_append,List.filter_cons,List.filter_map]
    cases hq:allQ q c with
    | true =>
     rw[if_pos rfl,List.flatMap_cons,ih]
     congr 2
     congr 1
     funext v
     simp only[Function.comp,allQ_snoc,hq,hc,Bool.true_and]
    | false =>
     rw[if_neg (by decide),ih];have:(A k).filter ((fun c=>allQ q c) ∘ fun v=>c++[v])=[]:=List.filter_eq_nil_iff.2 fun v _=>by simp[Function.comp,allQ_snoc,hq]
     rw[this];rfl
  exact h1
end Go.Proofs.YtcnoemjeijjnjaaGreat.prodSem
namespace Go.Proofs.YtcnoemjeijjnjaaGreat.pickI
open Go.RowKit Go.Deep Go.Shelf Go base copy netSem intsOwn prodSem rangeAt
attribute [local go_sem] Oper.semAt_some
def pk (L : Nat→List Int) : Nat→Nat→List Int→List (List Int)
 | 0,_,c=>[c]
 | m+1,k,c=>(L k).flatMap fun v=>pk L m (k+1) (c++[v])
theorem pk_prod (L:Nat→List Int):∀m k,(prod L k).flatMap (fun c=>pk L m k c)=prod L (k+m)
 | 0,k=>by simp[pk]
 | m+1,k=>by
  have ih:=pk_prod L m (k+1);rw[show k+(m+1)=k+1+m by omega,←ih];simp only[pk,prod,List.flatMap_assoc,List.flatMap_map]
theorem pk_all (L:Nat→List Int) (n:Nat):pk L n 0 []=prod L n:=by
 have:=pk_prod L n 0;simp only[prod,List.flatMap_cons,List.flatMap_nil,List.append_nil,Nat.zero_add]at this;exact this
theorem own_keep {B n:Nat} {w w1:World} {v:Value} {t:TypeId} {s:Nat} {xs:List Value} (h:w.ownsRow B t s v n xs) (hk:∀g,v.ownBlock=some g→w1.heap[g]? = w.heap[g]?):w1.ownsRow B t s v n xs:=by
 obtain⟨h1,h2⟩:=h;refine⟨h1,?_⟩;rcases h2 with h2|⟨g,cap,cur,rfl,hg,hh,hn⟩
 · exact .inl h2
 exact .inr ⟨g,cap,cur,rfl,hg,by rw[hk g rfl];exact hh,hn⟩
def KpT (A A' : World) : Prop := ∀(q : Nat) (cs : Array Value) (t : TypeId) (fr : Nat × Nat),A.heap[q]? = some (.cells cs t fr)→t=3∨t=25∨t=135→A'.heap[q]? = some (.cells cs t fr)
theorem KpT.trans {A B C:World} (h:KpT A B) (k:KpT B C):KpT A C:=fun q cs t fr hq ht=>k q cs t fr (h q cs t fr hq ht) ht
structure RInt (B : Nat) (A A' : World) : Prop where
 os:A'.os=A.os
 tape:A'.tape=A.tape
 output:A'.output=A.output
 size:A.heap.size≤A'.heap.size
 blk:∀q,q<A.heap.size→(B≤q→∀cs fr,A.heap[q]?≠some (.cells cs 3 fr))→A'.heap[q]? = A.heap[q]?
structure RowsD (B0 B1 RB n : Nat) (V : Nat→Value) (L : Nat→List Int) (W : World) : Prop where
 row:W.rowIs RB 25 n V
 own:∀i,i<n→OwnInts B0 W (V i) (L i)
 low:∀i g,i<n→(V i).ownBlock=some g→g<B1
 few:∀i,i<n→(L i).length≤100
theorem own_block {B g:Nat} {W:World} {v:Value} {zs:List Int} (h:OwnInts B W v zs) (hg:v.ownBlock=some g):∃cs,W.heap[g]? = some (.cells cs 3 (0,0)):=by
 rcases h.2 with ⟨e,_⟩|⟨g',cap,cur,e,_,hh,_⟩
 · rw[e]at hg;simp[Value.ownBlock]at hg
 rw[e]at hg;simp[Value.ownBlock]at hg;subst hg;exact⟨cur,hh⟩
theorem RowsD.kept {B0 B1 RB n:Nat} {V:Nat→Value} {L:Nat→List Int} {W W':World} (h:RowsD B0 B1 RB n V L W) (hk:KpT W W'):RowsD B0 B1 RB n V L W' := by
 refine⟨h.row.of_block ?_,fun i hi=>own_keep (h.own i hi) fun g hg=>?_,h.low,h.few⟩
 · obtain⟨c,hc,_⟩:=h.row;rw[hc];exact hk _ _ _ _ hc (.inr (.inl rfl))
 obtain⟨cs,hc⟩:=own_block (h.own i hi) hg;rw[hc];exact hk _ _ _ _ hc (.inl rfl)
theorem RowsD.set {B0 B1 RB n LB k:Nat} {V:Nat→Value} {L:Nat→List Int} {W:World} {v:Value} (h:RowsD B0 B1 RB n V L W) (h1:B1≤LB) (h2:RB≠LB):RowsD B0 B1 RB n V L (W.setCell ⟨LB,k,none⟩ v) :=
 ⟨h.row.of_block (Below.heap_setCell _ _ _ _ h2),fun i hi=>own_keep (h.own i hi) fun g hg=>Below.heap_setCell _ _ _ _ (by have:=h.low i g hi hg;show g≠LB;omega),h.low,h.few⟩
def ListD (LB n k : Nat) (c : List Int) (W : World) : Prop := ∃z : Nat→Int,W.rowIs LB 3 n (fun i=>.int .i64 (z i))∧∀i,i<k→z i=zAt c i
theorem ListD.kept {LB n k:Nat} {c:List Int} {W W':World} (h:ListD LB n k c W) (hk:KpT W W'):ListD LB n k c W' := by
 obtain⟨z,hz,hc⟩:=h;refine⟨z,hz.of_block ?_,hc⟩;obtain⟨cs,hh,_⟩:=hz;rw[hh];exact hk _ _ _ _ hh (.inl rfl)
theorem ListD.less {LB n k:Nat} {c:List Int} {v:Int} {W:World} (h:ListD LB n (k+1) (c++[v]) W) (hl:c.length=k):ListD LB n k c W:=by
 obtain⟨z,hz,hc⟩:=h;refine⟨z,hz,fun i hi=>?_⟩;rw[hc i Om];unfold zAt;rw[List.getElem?_append_left Om]
theorem ListD.put {LB n k:Nat} {c:List Int} {W:World} (h:ListD LB n k c W) (hl:c.length=k) (v:Int):ListD LB n (k+1) (c++[v]) (W.setCell ⟨LB,k,none⟩ (.int .i64 v)):=by
 obtain⟨z,hz,hc⟩:=h;refine⟨fun i=>if i=k then v else z i,(hz.set k _).congr (fun i hi=>?_),fun i hi=>?_⟩
 · by_cases e:i=k<;>simp[e]
 dsimp only;unfold zAt;by_cases e:i=k
 · subst e;rw[if_pos rfl,List.getElem?_append_right Om,hl,Nat.sub_self];rfl
 rw[if_neg e,List.getElem?_append_left Om];exact hc i Om
theorem RInt.set {B LB k:Nat} {W:World} {n:Nat} {f:Nat→Value} (h:W.rowIs LB 3 n f) (hB:B≤LB) (v:Value):RInt B W (W.setCell ⟨LB,k,none⟩ v):=by
 refine⟨rfl,rfl,rfl,by simp[World.setCell],fun q hq hx=>Below.heap_setCell _ _ _ _ fun e=>?_⟩;obtain⟨cs,hh,_⟩:=h;have e:q=LB:=e;subst e;exact hx hB _ _ hh
def AtL (B n : Nat) (L : Nat→List Int) (x : Nat × List Int) (W : World) : Prop := B≤x.1∧x.2.length=n∧(∀i,i<n→zAt x.2 i∈L i)∧W.rowIs x.1 3 n (fun i=>.int .i64 (zAt x.2 i))
set_option maxRecDepth 100000 in
set_option maxHeartbeats 4000000 in
theorem pick_in (n B0 B1 RB rc LB l:Nat) (V:Nat→Value) (L:Nat→List Int) (J Jx:List (Nat × List Int)→World→Prop) (hn:n≤100) (hLB:B1≤LB) (hRB:RB≠LB) (Bs:Nat) (Full:List (List Int)) (hBs:Bs≤LB)
  (hJ:∀s A A',RInt Bs A A'→J s A→J s A')
  (hY:∀pre x W1,J pre W1→AtL Bs n L x W1→(∃suf,Full=pre.map (·.2)++x.2::suf)→YieldAt Fence.wide 9 Tryz.prog l #[.slice (some ⟨x.1,0,none⟩) n n] W1 fun e W' =>
   (e=.returned (.bool true)∧J (pre++[x]) W'∧KpT W1 W')∨(e=.returned (.bool false)∧Jx (pre++[x]) W')) :
  ∀(m k:Nat) (c:List Int) (pre:List (Nat × List Int)) (W:World),k+m=n→(∃suf,Full=pre.map (·.2)++pk L m k c++suf)→c.length=k→(∀i,i<k→zAt c i∈L i)→RowsD B0 B1 RB n V L W→ListD LB n k c W→J pre W →
   CallsIn Fence.wide 9 Tryz.prog 149 #[.slice (some ⟨RB,0,none⟩) n rc,.slice (some ⟨LB,0,none⟩) n n,.int .i64 (k:Int),.func (.yield l) #[] #[]] W fun e W' =>
    (e=.returned (.bool true)∧J (pre++(pk L m k c).map (fun c=>(LB,c))) W'∧RowsD B0 B1 RB n V L W'∧ListD LB n k c W')∨(e=.returned (.bool false)∧∃q,Jx q W'):=by
 intro m
 induction m with
 | zero =>
  intro k c pre W hkm hT hcl hin hR hL hj;have hT0:∃suf,Full=pre.map (·.2)++c::suf:=by obtain⟨suf,h⟩:=hT;exact⟨suf,by rw[h];simp[pk]⟩
  have hk:k=n:=by omega
  subst hk
  have hat:AtL Bs k L (LB,c) W:=by
   obtain⟨z,hz,hc⟩:=hL;exact⟨hBs,hcl,hin,hz.congr (fun i hi=>by rw[hc i hi])⟩
  obtain⟨fn,tmps,assign,body,hy,hround⟩:=yield_any (m' := 8) (hY pre (LB,c) W hj hat hT0);dsimp only at hy;have HR:=hid hR;have HL:=hid hL;have dk:((k:Int)==(k:Int))=true:=by simp
  clear hR hL hat;refine callsIn_of_wp Tryz.func149 rfl trivial ?_ rfl;simp only[Tryz.ntmps149,List.size_toArray,List.length_cons,List.length_nil,Nat.reduceAdd,Nat.reduceSub,Array.replicate_succ,Array.replicate_zero,List.push_toArray,List.append_toArray,List.nil_append,List.cons_append];gi_wp2;refine hround.mono ?_;rintro e W3 (⟨rfl,hJ3,hk3⟩|⟨rfl,hJx3⟩)
  · have HR3:=hid (HR.out.kept hk3);have HL3:=hid (HL.out.kept hk3);gi_wp2;go_ret;exact .inl ⟨rfl,by simpa[pk] using hJ3,HR3.out,HL3.out⟩
  gi_wp2;go_ret;exact .inr ⟨rfl,_,hJx3⟩
 | succ m ih =>
  intro k c pre W hkm hT hcl hin hR hL hj;have HT:=hid hT;clear hT;have hkn:k<n:=by omega
  have dk:((k:Int)==(n:Int))=false:=by simp;omega
  have HR:=hid hR;have HL:=hid hL;have hf:=hR.few k hkn;obtain⟨av,cv,hVk,hrow⟩:=(hR.own k hkn).form;have HVk:=hid hVk;have q0:=hR.row.cell (i:=k) hkn;rw[hVk]at q0;have hki:(k:Int)<(n:Int):=by omega
  have HIh:=hid ih;have HJ0:=hid hj;clear hR hL hVk hrow ih hj;refine callsIn_of_wp Tryz.func149 rfl trivial ?_ rfl;simp only[Tryz.ntmps149,List.size_toArray,List.length_cons,List.length_nil,Nat.reduceAdd,Nat.reduceSub,Array.replicate_succ,Array.replicate_zero,List.push_toArray,List.append_toArray,List.nil_append,List.cons_append];gi_wp2;clear q0;gi_loopw [23] (fun i wr=>∃t:Nat,t≤(L k).length∧i=.int .i64 t∧J (pre++(((L k).take t).flatMap fun v=>pk L m (k+1) (c++[v])).map (fun c=>(LB,c))) wr∧RowsD B0 B1 RB n V L wr∧ListD LB n k c wr) (fun i _=>(L k).length - (intOf i).toNat)
  case atStart=>exact⟨0,Nat.zero_le _,rfl,by simpa using HJ0.out,HR.out,HL.out⟩
  clear HR HL HJ0;obtain⟨t,ht,rfl,hj,hR,hL⟩:=hrel;have HR:=hid hR;have HL:=hid hL;have HJ:=hid hj;have hO:=hR.own k hkn;rw[HVk.out]at hO;have hrow:=row_of_own hO;clear hR hL hj hO;by_cases hlt:t<(L k).length
  · obtain⟨b,off,rfl,hc⟩:=hrow.cell t hlt;obtain⟨v,hv⟩:∃v,(L k)[t]?.getD 0=v:=⟨_,rfl⟩;rw[hv]at hc;have HTk:Hid ((L k).take (t+1)=(L k).take t++[v]):=hid (by rw[List.take_add_one,List.getElem?_eq_getElem hlt,←hv,List.getElem?_eq_getElem hlt];rfl);have hvin:v∈L k:=by rw[←hv,List.getElem?_eq_getElem hlt];exact List.getElem_mem hlt
    obtain⟨z,hz,hzc⟩:=HL.out;have gk:=hz.cell (i:=k) hkn;have zk:=hz.frozen k;have HLn:=hid (HL.out.put hcl v);have HRn:Hid (RowsD B0 B1 RB n V L (wr.setCell ⟨LB,k,none⟩ (.int .i64 v))):=hid (HR.out.set hLB hRB);have HJn:=hid (hJ _ _ _ (RInt.set (k:=k) hz hBs (.int .i64 v)) HJ.out)
    have HTn:Hid (∃suf,Full=(pre++(((L k).take t).flatMap fun v=>pk L m (k+1) (c++[v])).map (fun c=>(LB,c))).map (·.2)++pk L m (k+1) (c++[v])++suf):=hid (by
     obtain⟨suf,h9⟩:=HT.out
     have e9:(pk L (m+1) k c)=((L k).take (t+1)).flatMap (fun v=>pk L m (k+1) (c++[v]))++((L k).drop (t+1)).flatMap (fun v=>pk L m (k+1) (c++[v])):=by
      rw[←List.flatMap_append,List.take_append_drop];rfl
     have e8:∀l:List (List Int),(l.map (fun c=>(LB,c))).map (·.2)=l:=fun l=>by rw[List.map_map];exact List.map_id _
     refine⟨((L k).drop (t+1)).flatMap (fun v=>pk L m (k+1) (c++[v]))++suf,?_⟩;rw[h9,e9,HTk.out,List.flatMap_append,List.map_append,e8]
     simp)
    have HI9:=hid (HIh.out (k+1) (c++[v]) _ _ Om HTn.out (by simp[hcl]) (fun i hi=>by
     by_cases e:i=k
     · subst e;unfold zAt;rw[List.getElem?_append_right Om,hcl,Nat.sub_self];exact hvin
     unfold zAt;rw[List.getElem?_append_left Om]
     exact hin i Om) HRn.out HLn.out HJn.out)
    have hti:(t:Int)<((L k).length:Int):=by omega
    clear hz hzc hv hrow HL HR HJ HLn HRn HJn;gi_wp2;refine⟨trivial,(calls_any HI9.out).mono ?_⟩;rintro e W3 (⟨rfl,hj3,hr3,hl3⟩|⟨rfl,q,hq⟩)
    · have HJ3:=hid hj3;have HR3:=hid hr3;have HL3:=hid (hl3.less hcl);clear hj3 hr3 hl3;gi_wp2;go_roundw
      case rel =>
       refine⟨t+1,by omega,by simp,?_,HR3.out,HL3.out⟩;rw[HTk.out,List.flatMap_append,List.map_append,←List.append_assoc];simpa using HJ3.out
      case measure=>simp[intOf];omega
    gi_wp2;go_ret;exact .inr ⟨rfl,q,hq⟩
  have e1:t=(L k).length:=by omega
  have HJe:Hid (J (pre++(pk L (m+1) k c).map (fun c=>(LB,c))) wr):=hid (by
   have:=HJ.out;rw[e1,List.take_length]at this
   exact this)
  subst e1;clear hlt;gi_wp2;go_ret;exact .inl ⟨rfl,HJe.out,HR.out,HL.out⟩
end Go.Proofs.YtcnoemjeijjnjaaGreat.pickI
namespace Go.Proofs.YtcnoemjeijjnjaaGreat.picksI
open Go.RowKit Go.Deep Go.Shelf Go base copy netSem intsOwn prodSem rangeAt pickI
theorem RInt.below {B:Nat} {A A':World} (h:Below A.heap.size A A'):RInt B A A' := ⟨h.os,h.tape,h.output,h.size,fun q hq _=>h.block q hq⟩
theorem kp_below {A A':World} (h:Below A.heap.size A A'):KpT A A' := fun q cs t fr hq _=>(h.block q (Array.getElem?_eq_some_iff.1 hq).1).trans hq
theorem AtL.mono {B B' n:Nat} {L:Nat→List Int} {x:Nat × List Int} {W:World} (h:AtL B n L x W) (hb:B'≤B):AtL B' n L x W:=⟨Nat.le_trans hb h.1,h.2⟩
structure StartP (B B0 B1 RB Bx n : Nat) (V : Nat→Value) (L : Nat→List Int) (W : World) : Prop where
 rows:RowsD B0 B1 RB n V L W
 box:Boxed W Bx 135 (.slice (some ⟨RB,0,none⟩) n n)
 b1:B1≤W.heap.size
 b:B≤W.heap.size
set_option maxRecDepth 100000 in
set_option maxHeartbeats 4000000 in
theorem picks_in (B B0 B1 RB Bx n l:Nat) (V:Nat→Value) (L:Nat→List Int) (hn:n≤100) (J Jx:List (Nat × List Int)→World→Prop) (W:World) (hs:StartP B B0 B1 RB Bx n V L W)
  (hJ:∀s A A',RInt W.heap.size A A'→J s A→J s A')
  (hY:∀pre x W1,J pre W1→AtL B n L x W1→(∃suf,prod L n=pre.map (·.2)++x.2::suf)→YieldAt Fence.wide 9 Tryz.prog l #[.slice (some ⟨x.1,0,none⟩) n n] W1 fun e W' =>
   (e=.returned (.bool true)∧J (pre++[x]) W'∧KpT W1 W')∨(e=.returned (.bool false)∧Jx (pre++[x]) W'))
  (h0:J [] W) :
  Calls Tryz.prog 148 #[.func (.yield l) #[] #[],.pointer (some ⟨Bx,0,none⟩)] W fun e W'=>(∃v,e=.returned v)∧((∃xs,(∃LB,xs=(prod L n).map (fun c=>(LB,c)))∧J xs W')∨(∃pre,Jx pre W')):=by
 have HS:=hid hs;have qb:=hs.box.cell;have hlt:=hs.box.lt;have hmk:=run_make_row' (P:=Tryz.prog) 25 3 (.int .i64 0) 8 Tryz.underlying25 Tryz.info_int rfl .i64 .i64 n Om Om
 have HP:Hid (∀W9:World,W9=W.drew.alloc (.cells (madeCells #[.int .i64 0] n) 3)→Calls Tryz.prog 149 #[.slice (some ⟨RB,0,none⟩) n n,.slice (some ⟨W.heap.size,0,none⟩) n n,.int .i64 0,.func (.yield l) #[] #[]] W9 fun e W' =>
   ∃ok:Bool,e=.returned (.bool ok)∧((∃xs,(∃LB,xs=(prod L n).map (fun c=>(LB,c)))∧J xs W')∨(∃pre,Jx pre W'))):=hid (fun W9 h9=>by
  have hb:Below W.heap.size W W9:=by rw[h9];exact Bl
  have hrow:W9.rowIs W.heap.size 3 n (fun _=>.int .i64 0):=by rw[h9];exact World.rowIs_made W.drew _ n 3
  have hRB:RB≠W.heap.size:=by have:=hs.rows.row.lt;omega
  have h:=pick_in n B0 B1 RB n W.heap.size l V L J Jx hn hs.b1 hRB W.heap.size (prod L n) (Nat.le_refl _) hJ (fun pre x W1 hj hat hlt=>hY pre x W1 hj (AtL.mono hat hs.b) hlt) n 0 [] [] W9 Om ⟨[],by rw[pk_all];simp⟩ rfl (fun i hi=>absurd hi (Nat.not_lt_zero _)) (hs.rows.kept (kp_below hb)) ⟨fun _=>0,hrow,fun i hi=>absurd hi (Nat.not_lt_zero _)⟩ (hJ _ _ _ (RInt.below hb) h0);refine(callsIn_wide.1 h).mono ?_;rintro e W' (⟨he,hj,_,_⟩|⟨he,hq⟩)
  · rw[pk_all,List.nil_append]at hj;exact⟨_,he,.inl ⟨_,⟨_,rfl⟩,hj⟩⟩
  exact⟨_,he,.inr hq⟩)
 clear hs hJ hY h0;go_enter Tryz.func148,Tryz.ntmps148;go_wp2_with fail;go_region_with (go_at_call 149;refine(HP.out _ rfl).mono ?_;rintro e W' ⟨ok,rfl,hres⟩;have HRes:=hid hres;clear hres)
 all_goals
  go_wp2;go_end0;exact⟨⟨_,rfl⟩,HRes.out⟩
theorem picks_impl (a:Option Addr) (len cap:Nat) (w:World) :
  Calls Tryz.prog 124 #[.slice a len cap] w fun e w'=>e=.returned (.func (.func 148) #[] #[.pointer (some ⟨w.heap.size,0,none⟩)])∧w' = w.alloc (.cells #[.slice a len cap] 135):=by
 go_enter Tryz.func124,Tryz.ntmps124;go_wp2;go_ret;exact⟨rfl,rfl⟩
end Go.Proofs.YtcnoemjeijjnjaaGreat.picksI
namespace Go.Proofs.YtcnoemjeijjnjaaGreat.prodB
open Go
def bAt (z : List Bool) (i : Nat) : Bool := z[i]?.getD false
open Go base netSem
def prod (A : Nat→List Bool) : Nat→List (List Bool)
 | 0=>[[]]
 | k+1=>(prod A k).flatMap fun c=>(A k).map fun v=>c++[v]
theorem prod_len {A : Nat→List Bool} : ∀ {k : Nat} {c : List Bool},c∈prod A k→c.length=k
 | 0,c,h=>by simp[prod]at h;rw[h];rfl
 | k+1,c,h=>by
  simp only[prod,List.mem_flatMap,List.mem_map]at h;obtain⟨c',hc',v,_,rfl⟩:=h;simp[prod_len hc']
end Go.Proofs.YtcnoemjeijjnjaaGreat.prodB
