/- The neighbours of a router, as a list; of no program; conditions: none. -/
import Derived.Test.YtmipoghemfopaaaGreatNetAll
import Derived.Test.YtmipoghemfopaaaGreatIntsOwn
namespace Go.Proofs.YtmipoghemfopaaaGreat.nbSem
open Go.RowKit Go.Deep base netSem intsOwn
set_option linter.unusedVariables false

def nbB (g : R) (nl : Nat) (down : List Bool) (router : Int) (k : Nat) : Bool := decide (0 ≤ linkAt g nl router k) && !(down[(linkAt g nl router k).toNat]?.getD false)
def nbL (g : R) (nl : Nat) (down : List Bool) (router : Int) (n : Nat) : List Int := ((List.range n).filter (nbB g nl down router)).map (fun k : Nat => (k : Int))
theorem nbL_succ (g : R) (nl : Nat) (down : List Bool) (router : Int) (k : Nat) : nbL g nl down router (k + 1) = nbL g nl down router k ++ (if nbB g nl down router k then [(k : Int)] else []) := by
  unfold nbL
  rw [List.range_succ, List.filter_append, List.map_append]
  by_cases h : nbB g nl down router k = true
  · simp [h]
  · simp [h]
theorem nbL_len (g : R) (nl : Nat) (down : List Bool) (router : Int) (n : Nat) : (nbL g nl down router n).length ≤ n := by
  unfold nbL
  rw [List.length_map]
  exact Nat.le_trans (List.length_filter_le _ _) (by simp)
def nbC (ok : Bool) (r nl dl : Nat) (router : Int) : Int := if 4096 < dl then 2 else if ok = false then 1 else if inB router 0 (r - 1) = false ∨ dl ≠ nl then 5 else 0
def nbA (ok : Bool) (r nl dl : Nat) (router : Int) (g : R) (down : List Bool) : List Int := if nbC ok r nl dl router = 0 then nbL g nl down router r else []
theorem nbA_len (ok : Bool) (r nl dl : Nat) (router : Int) (g : R) (down : List Bool) : (nbA ok r nl dl router g down).length ≤ r := by
  unfold nbA
  split
  · exact nbL_len _ _ _ _ _
  · exact Nat.zero_le _
theorem nb_no {ok : Bool} {r nl dl : Nat} {router : Int} {g : R} {down : List Bool} {c : Int} (h : nbC ok r nl dl router = c) (hc : c ≠ 0) : nbA ok r nl dl router g down = [] := by
  unfold nbA; rw [if_neg (by rw [h]; exact hc)]
theorem own_empty (B N : Nat) (w : World) (hB : B ≤ w.heap.size) (hN : w.heap.size = N) : OwnInts B (w.alloc (.cells #[] 3)) (.slice (some ⟨N, 0, none⟩) 0 0) [] := by
  subst hN
  exact ⟨rfl, .inr ⟨w.heap.size, 0, #[], rfl, hB, heap_alloc_new w _, Nat.le_refl _, Nat.zero_le _, rfl, rfl⟩⟩
end Go.Proofs.YtmipoghemfopaaaGreat.nbSem
