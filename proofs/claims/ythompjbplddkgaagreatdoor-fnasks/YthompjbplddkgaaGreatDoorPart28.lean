import Derived.Test.YthompjbplddkgaaGreatDoorPart27
import Derived.Laws.CopyOwn
import Derived.BigRegion
import Derived.Lib.SlicesCompact
set_option linter.unusedVariables false
namespace Go.Proofs.YthompjbplddkgaaGreatDoor.noRts
open Go.RowKit Go.Deep Go base routeRow intsOwn candSem rtsHeld
def noRs : Rs := fun _=>noRt
end Go.Proofs.YthompjbplddkgaaGreatDoor.noRts
namespace Go.Proofs.YthompjbplddkgaaGreatDoor.order
open Go.Lib
def rk (l : Int) : Int := if l<0 then -2*l+1 else 2*l
def SS (r : List Int) : Prop := r.Pairwise (fun x y=>rk x<rk y)
theorem SS.uniq : ∀ {a b:List Int},SS a→SS b→(∀ x,x∈a ↔ x∈b)→a=b
 | [],[],_,_,_=>rfl
 | [],y::b,_,_,h=>absurd ((h y).2 (List.mem_cons_self ..)) (by simp)
 | x::a,[],_,_,h=>absurd ((h x).1 (List.mem_cons_self ..)) (by simp)
 | x::a,y::b,ha,hb,h=>by
  have ha' := List.pairwise_cons.1 ha
  have hb' := List.pairwise_cons.1 hb
  have e:x=y:=by
   rcases List.mem_cons.1 ((h x).1 (List.mem_cons_self ..)) with e|hx
   · exact e
   · rcases List.mem_cons.1 ((h y).2 (List.mem_cons_self ..)) with e|hy
     · exact e.symm
     · have h1:=hb'.1 x hx
       have h2:=ha'.1 y hy
       omega
  subst e
  have ht:a=b:=SS.uniq ha'.2 hb'.2 (fun z=>by
   have hz:=h z
   simp only [List.mem_cons] at hz
   constructor
   · intro hm
     rcases hz.1 (.inr hm) with rfl|h2
     · have:=ha'.1 z hm;omega
     · exact h2
   · intro hm
     rcases hz.2 (.inr hm) with rfl|h2
     · have:=hb'.1 z hm;omega
     · exact h2)
  rw [ht]
end Go.Proofs.YthompjbplddkgaaGreatDoor.order
namespace Go.Proofs.YthompjbplddkgaaGreatDoor.compare
open Go.RowKit Go.Deep base order
end Go.Proofs.YthompjbplddkgaaGreatDoor.compare
namespace Go.Proofs.YthompjbplddkgaaGreatDoor.bestRoute
open Go.RowKit Go.Deep base routeRow compare drawn heldStore
set_option maxHeartbeats 400000 in
theorem better_spec (x0 x1 x2 y0 y1 y2:Int) (x3 y3:Bool) (w:World) :
  Calls Tryz.prog 118 #[.agg #[.int .i64 x0,.int .i64 x1,.int .i64 x2,.bool x3],.agg #[.int .i64 y0,.int .i64 y1,.int .i64 y2,.bool y3]] w fun e w'=>e=.returned (.bool (better ⟨x0,x1,x2,x3⟩ ⟨y0,y1,y2,y3⟩))∧Below w.heap.size w w' := by
 obtain ⟨r,hr⟩:∃ r,better ⟨x0,x1,x2,x3⟩ ⟨y0,y1,y2,y3⟩=r:=⟨_,rfl⟩
 rw [hr]
 unfold better at hr
 simp only at hr
 by_cases h1:x1=y1
 · rw [if_pos h1] at hr
   by_cases h2:x2=y2
   · rw [if_pos h2] at hr
     have n1:(x1 != y1)=false:=by simp [h1]
     have n2:(x2 != y2)=false:=by simp [h2]
     clear h1 h2
     go_enter Tryz.func118,Tryz.ntmps118
     go_wp2
     go_ret
     first|exact ⟨ret_bool hr,Bl⟩|exact ⟨rfl,Bl⟩
   · rw [if_neg h2] at hr
     have n1:(x1 != y1)=false:=by simp [h1]
     have n2:(x2 != y2)=true:=by simp [h2]
     clear h1 h2
     go_enter Tryz.func118,Tryz.ntmps118
     go_wp2
     go_ret
     first|exact ⟨ret_bool hr,Bl⟩|exact ⟨rfl,Bl⟩
 · rw [if_neg h1] at hr
   have n1:(x1 != y1)=true:=by simp [h1]
   clear h1
   go_enter Tryz.func118,Tryz.ntmps118
   go_wp2
   go_ret
   first|exact ⟨ret_bool hr,Bl⟩|exact ⟨rfl,Bl⟩
end Go.Proofs.YthompjbplddkgaaGreatDoor.bestRoute
namespace Go.Proofs.YthompjbplddkgaaGreatDoor.bestFace
open Go.RowKit Go.Deep base routeRow compare bestRoute
end Go.Proofs.YthompjbplddkgaaGreatDoor.bestFace
namespace Go.Proofs.YthompjbplddkgaaGreatDoor.bestAll
open Go.RowKit Go.Deep Go base netSem routeRow nbSem candSem candImp hopSem intsOwn hopMake hopBetween sceneSem sceneBy candSpec sceneCand noRts rtsRow bestFace
variable {sb b B : Nat} {F : Nat→Value} {p : Nat→Option Addr} {l c : Nat→Nat} {g : R} {o e : List Int} {x : R} {ea da : Option Addr} {el ec dl dc : Nat} {env : List Int} {ds : List Bool} {w W W2 : World}
end Go.Proofs.YthompjbplddkgaaGreatDoor.bestAll
namespace Go.Proofs.YthompjbplddkgaaGreatDoor.stabImpl
open Go.RowKit Go.Deep Go base netSem routeRow nbSem candSem candImp hopSem intsOwn hopMake hopBetween sceneSem sceneBy candSpec sceneCand noRts rtsRow bestFace bestAll
def eqR (a b : Rt) : Bool := a.via == b.via && a.pref == b.pref && a.len == b.len && a.mark == b.mark
theorem eqR_iff {a b : Rt} : eqR a b=true ↔ a=b := by
 cases a;cases b
 simp [eqR,and_assoc]
theorem eqR_no {a b:Rt} (h:a≠b):eqR a b=false:=by
 cases e:eqR a b with
 | false=>rfl
 | true=>exact absurd (eqR_iff.1 e) h
def sameTo (g g' : Rs) (n : Nat) : Bool := allN (fun i=>eqR (g i) (g' i)) n
theorem same_yes {g g':Rs} {n:Nat} (h:∀ i,i<n→g i=g' i):sameTo g g' n=true:=allN_iff.2 fun i hi=>eqR_iff.2 (h i hi)
theorem same_no {g g':Rs} {n k:Nat} (hk:k<n) (h:g k≠g' k):sameTo g g' n=false:=allN_false hk (eqR_no h)
end Go.Proofs.YthompjbplddkgaaGreatDoor.stabImpl
namespace Go.Proofs.YthompjbplddkgaaGreatDoor.candEnv
open Go.RowKit Go.Deep Go base copy names netSem netSpec netOKSpec nbSem routeRow candSem
end Go.Proofs.YthompjbplddkgaaGreatDoor.candEnv
namespace Go.Proofs.YthompjbplddkgaaGreatDoor.sceneFault
open Go.RowKit Go.Deep Go base copy names netSem netImpl netParts netFace netOKImpl routeRow routesB candEnv
end Go.Proofs.YthompjbplddkgaaGreatDoor.sceneFault
namespace Go.Proofs.YthompjbplddkgaaGreatDoor.sceneNew
open Go.RowKit Go.Deep Go base netSem routeRow nbSem candSem candImp hopSem intsOwn hopMake hopBetween sceneSem
end Go.Proofs.YthompjbplddkgaaGreatDoor.sceneNew
