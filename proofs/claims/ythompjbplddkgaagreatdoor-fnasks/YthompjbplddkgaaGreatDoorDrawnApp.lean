import Derived.Test.YthompjbplddkgaaGreatDoorDrawnLin
import Derived.Test.YthompjbplddkgaaGreatDoorPart23
import Derived.Maps.Own
set_option linter.unusedVariables false
namespace Go.Proofs.YthompjbplddkgaaGreatDoor.drawnApp
open Go Go.RowKit heldStore drawn drawnLin
variable {P : Program} {ops : Array Oper} {Q : Exit→Act→World→Prop}
theorem grown_refl (w:World) (row:Option Nat):w.grownBy w row:=⟨rfl,rfl,rfl,Nat.le_refl _,fun _ _ _=>rfl⟩
theorem grown_below {w w1:World} {row:Option Nat} (h:Below w.heap.size w w1):w.grownBy w1 row:=⟨h.os,h.tape,h.output,h.size,fun k hk _=>h.block k hk⟩
theorem region_app {id:Nat} {a:Act} {w:World} (A:(Nat→Value)→Act) (s:Nat→Nat) (φ:Nat→Value→World→Prop) (W:World) (row:Option Nat) (ia n:Nat) (u0:Nat→Value) (ha:a=A u0)
  (hm:P.follows .mixedOrders=true) (hz:ops.size=n+1) (hE:LastOf ops n) (hup:upB ops=true) (hW:Below W.heap.size W w)
  (hput:∀ i,i<n→∀ u v,(A u).put (some (s i)) v=A (upd u (s i) v)) (hinj:∀ i j,i<n→j<n→s i=s j→i=j)
  (stB:∀ i v w1 w2,Below w1.heap.size w1 w2→φ i v w1→φ i v w2)
  (stA:∀ i v w1 w2,i≠ia→Below W.heap.size W w1→w1.grownBy w2 row→φ i v w1→φ i v w2)
  (step:∀ i,i<n→∀ u w1,W.grownBy w1 row→(i=ia→Below W.heap.size W w1)→(∀ j,Region.waitsFor .any ops i j=true→φ j (u (s j)) w1)→∃ o,ops[i]? = some o∧∀ K':Act→World→Prop,Shut (∀ v w',w1.grownBy w' row→(i≠ia→Below w1.heap.size w1 w')→φ i v w'→K' ((A u).put (some (s i)) v) w')→if Region.wanted o (yielded ops (A u).tmps)=true then Oper.wp P o (A u) w1 K' Q else K' ((A u).put o.dst undef) w1)
  (last:∀ u w1,W.grownBy w1 row→(∀ j,j<n→φ j (u (s j)) w1)→∃ o,ops[n]? = some o∧∀ K':Act→World→Prop,Shut (∀ a w,Q .normal a w→K' a w)→if Region.wanted o (yielded ops (A u).tmps)=true then Oper.wp P o (A u) w1 K' Q else K' ((A u).put o.dst undef) w1) :
  (Code.region id ops true).wp P Q a w:=by
 have lt:∀ i j,Region.waitsFor .any ops i j=true→j<i:=fun i j hj=>by
  obtain ⟨oj,hoj,e,he,hb,hon⟩:=Region.waitsFor_spec hj
  have h5:=upB_spec hup hoj e he
  rw [hon] at h5
  exact h5
 refine region_all A s (fun L u w8=>W.grownBy w8 row∧(L ia=false→Below W.heap.size W w8)∧∀ j,j<n→L j=true→φ j (u (s j)) w8) n u0 ha hm hz hE hup ⟨grown_below (hW.drew),fun _=>hW.drew,fun j _ h=>(by cases h)⟩ hput ?_ ?_
 · intro i hi L u w8 hLi hwt hI
   obtain ⟨h1,h2,h3⟩:=hI
   obtain ⟨o,ho,h⟩:=step i hi u w8 h1 (fun e=>h2 (by rw [← e];exact hLi)) (fun j hj=>h3 j (by have:=lt i j hj;omega) (hwt j hj))
   refine ⟨o,ho,fun K' hK=>h K' fun v w' hg hb hv=>hK.out v w' ⟨h1.trans hg,fun hl=>?_,fun j hj hl=>?_⟩⟩
   · by_cases e:ia=i
     · rw [e,come_same] at hl;cases hl
     · rw [come_ne e] at hl
       exact (h2 hl).trans ((hb (fun e'=>e e'.symm)).mono h1.size)
   · by_cases e:j=i
     · subst e;rw [upd_same];exact hv
     · rw [come_ne e] at hl
       rw [upd_ne _ _ (fun e'=>e (hinj j i hj hi e'))]
       by_cases ei:i=ia
       · exact stA j _ _ _ (fun e'=>e (e'.trans ei.symm)) (h2 (by rw [← ei];exact hLi)) hg (h3 j hj hl)
       · exact stB j _ _ _ (hb ei) (h3 j hj hl)
 · intro L u w8 hall hI
   exact last u w8 hI.1 (fun j hj=>hI.2.2 j hj (hall j hj))
end Go.Proofs.YthompjbplddkgaaGreatDoor.drawnApp
