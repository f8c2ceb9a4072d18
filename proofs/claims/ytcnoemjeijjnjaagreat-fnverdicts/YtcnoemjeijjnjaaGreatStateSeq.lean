import Derived.Test.YtcnoemjeijjnjaaGreatChoImpl
import Derived.Test.YtcnoemjeijjnjaaGreatRofImpl
set_option linter.unusedVariables false
namespace Go.Proofs.YtcnoemjeijjnjaaGreat.stateSeq
open Go.RowKit Go.Deep Go.Shelf Go base copy netSem routeRow nbSem candSem candImp hopSem intsOwn hopMake hopBetween sceneSem sceneBy noRts bestAll stabImpl stabFace prodSem rofSem rofRun rofImpl ssSem rangeAt pick picksSeq choImpl
attribute [local go_sem] Oper.semAt_some
structure RSt (b B : Nat) (A A' : World) : Prop where
 os:A'.os=A.os
 tape:A'.tape=A.tape
 output:A'.output=A.output
 size:A.heap.size≤A'.heap.size
 blk:∀q,q<A.heap.size→q≠b→(B≤q→∃cs t fr,A.heap[q]? = some (.cells cs t fr)∧t≠3)→A'.heap[q]? = A.heap[q]?
theorem RSt.trans {b B:Nat} {A1 A2 A3:World} (h:RSt b B A1 A2) (k:RSt b B A2 A3):RSt b B A1 A3 :=
 ⟨k.os.trans h.os,k.tape.trans h.tape,k.output.trans h.output,Nat.le_trans h.size k.size,fun q hq hb hx=>by
  have e:=h.blk q hq hb hx
  exact(k.blk q (Nat.lt_of_lt_of_le hq h.size) hb (fun hB=>by rw[e];exact hx hB)).trans e⟩
theorem RSt.grown {b B:Nat} {A A':World} (h:A.grownBy A' (some b)):RSt b B A A' := ⟨h.os,h.tape,h.output,h.size,fun q hq hb _=>h.block q hq (fun e=>hb (by injection e))⟩
theorem RSt.int {b B:Nat} {A A':World} (h:RInt B A A'):RSt b B A A' := ⟨h.os,h.tape,h.output,h.size,fun q hq hb hx=>h.blk q hq (fun hB cs fr hh=>by
 obtain⟨cs',t,fr',h1,h2⟩:=hx hB;rw[h1]at hh;injection hh with hh;injection hh with _ hh _
 exact h2 hh)⟩
theorem RSt.below {b B:Nat} {A A':World} (h:Below A.heap.size A A'):RSt b B A A' := ⟨h.os,h.tape,h.output,h.size,fun q hq _ _=>h.block q hq⟩
variable {sb b B : Nat} {F : Nat→Value} {p : Nat→Option Addr} {l c : Nat→Nat} {g : R} {o e : List Int} {x : R} {ea da : Option Addr} {el ec dl dc : Nat} {env : List Int} {ds : List Bool} {w0 : World}
theorem ready_type {W:World} (h:Ready b B F W (p 1) (p 4) (l 1) (l 4) (c 1) (c 4) g x):∀cs t fr,W.heap[b]? = some (.cells cs t fr)→t=79:=fun cs t fr hh=>by
 rcases h with ⟨⟨cur,h1,_⟩,_⟩|⟨V,F',hm⟩
 · rw[h1]at hh;injection hh with hh;injection hh with _ hh _;exact hh.symm
 obtain⟨cur,h1,_⟩:=hm.row;rw[h1]at hh;injection hh with hh;injection hh with _ hh _;exact hh.symm
theorem ready_soft {W W':World} {row:Option Nat} (h:Ready b B F W (p 1) (p 4) (l 1) (l 4) (c 1) (c 4) g x) (hg:W.grownBy W' row) (hr:∀r,row=some r→∃ob:Obj,W.heap[r]? = some ob∧ob.isCells=false):Ready b B F W' (p 1) (p 4) (l 1) (l 4) (c 1) (c 4) g x:=by
 refine ready_ch h (Ch.of_grown hg) (fun e=>?_) (fun q e cs fr hh=>?_)
 · obtain⟨ob,h1,h2⟩:=hr b e.symm;rcases h with ⟨⟨cur,h3,_⟩,_⟩|⟨V,F',hm⟩
   · rw[h3]at h1;injection h1 with h1;subst h1;cases h2
   obtain⟨cur,h3,_⟩:=hm.row;rw[h3]at h1;injection h1 with h1;subst h1;cases h2
 obtain⟨ob,h1,h2⟩:=hr q e.symm;rw[hh]at h1;injection h1 with h1;subst h1;cases h2
theorem valR_bounds {nl nx n:Nat} {vs:List Int} (hn1:1≤n) (hn:n≤4) (hv:∀i,-3≤zAt vs i∧zAt vs i<n) (hc:∀i,i<nl→0≤g i 2∧g i 2≤100) (hok:okV g nl o e x nx env ds vs n=true) {i:Nat} (hi:i<n) :
  (-3≤(valR g nl o e x nx env ds vs n i).via∧(valR g nl o e x nx env ds vs n i).via<n)∧0≤(valR g nl o e x nx env ds vs n i).len∧(valR g nl o e x nx env ds vs n i).len≤20000:=by
 have hs:=allN_iff.1 hok i hi;unfold valR
 cases hq:val g nl o e x nx env ds vs n (i:Int) with
 | none=>rw[hq]at hs;cases hs
 | some r =>
  have h1:=val_via hq;have h2:=val_len (fun i=>(hv i).1) hc hq;have h3:=hv i;rw[Int.toNat_natCast]at h1
  show (-3≤r.via∧r.via<n)∧0≤r.len∧r.len≤20000
  rw[h1];exact⟨h3,by omega,by omega⟩
theorem row_in {nl n:Nat} {i v:Int} (h:v∈rowP g nl o e env ds i (n+3)) : -3≤v∧v<n:=by
 unfold rowP at h;obtain⟨j,hj,rfl⟩:=List.mem_map.1 (List.mem_filter.1 h).1;have:=List.mem_range.1 hj;omega
end Go.Proofs.YtcnoemjeijjnjaaGreat.stateSeq
