/- The specification's literals in order: which of two stands ahead, and a clause's literals in order, each once; conditions: literals of at most 40 variables. -/
import Derived.Test.YtolejaegnkcjjaaGreatDoorPart9
import Derived.Test.YtolejaegnkcjjaaGreatDoorPart37
import Derived.Deep.RegionHeld3
import Derived.Deep.AppendLies
import Derived.Deep.DrawnRows
namespace Go.Proofs.YtolejaegnkcjjaaGreatDoor.sorted
open Go.RowKit Go.Deep base copy cnf eval own order

theorem mem_at {zs : List Int} {l : Int} {k : Nat} (h : k < zs.length) (e : zs[k]?.getD 0 = l) : l ∈ zs := by
  rw [List.getElem?_eq_getElem h] at e
  simp only [Option.getD_some] at e
  subst e
  exact List.getElem_mem h
theorem bdn {B : Nat} {W w1 : World} (h : Below B W w1) (n : Nat) : Below B W (w1.drewN n) := h.trans ⟨rfl, rfl, rfl, Nat.le_refl _, fun _ _ => rfl⟩
theorem own_new {B H : Nat} (w : World) (h : w.heap.size = H) (hB : B ≤ H) : (w.alloc (.cells #[] 3)).ownsRow B 3 1 (.slice (some ⟨H, 0, none⟩) 0 0) 0 [] := ⟨rfl, .inr ⟨H, 0, #[], rfl, hB, by subst h; exact heap_alloc_new w _, Nat.le_refl _, Nat.zero_le _, rfl, rfl⟩⟩
theorem one_ints (zs : List Int) : ∀ u ∈ zs.map (Value.int .i64), u.oneCell' = true := fun u hu => by
  obtain ⟨z, _, rfl⟩ := List.mem_map.1 hu
  rfl
theorem own_pass {B n : Nat} {w w1 : World} {v : Value} {t : TypeId} {s : Nat} {xs : List Value} (h : w.ownsRow B t s v n xs) (hb : Below w.heap.size w w1) : w1.ownsRow B t s v n xs := by
  obtain ⟨h1, h2⟩ := h
  refine ⟨h1, ?_⟩
  rcases h2 with h2 | ⟨g, cap, cur, e, hg, hh, hn, hm, hs, ht⟩
  · exact .inl h2
  · exact .inr ⟨g, cap, cur, e, hg, by rw [hb.block g (Array.getElem?_eq_some_iff.1 hh).1]; exact hh, hn, hm, hs, ht⟩
end Go.Proofs.YtolejaegnkcjjaaGreatDoor.sorted
