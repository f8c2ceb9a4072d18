import Derived.Test.YtaioffpkadmmhaaGreatPart9
import Derived.Test.YtaioffpkadmmhaaGreatPart2
namespace Go.Proofs.YtaioffpkadmmhaaGreat.rRows
open Go.RowKit Go.Deep Go base copy netSem routeRow candSem intsOwn
set_option linter.unusedVariables false
theorem own_apart {B B' n m k s s' : Nat} {t t' : TypeId} {w : World} {v x : Value} {xs ys : List Value} (hne : t ≠ t') (h : w.ownsRow B t s v n xs) (hx : w.ownsRow B' t' s' x m ys) (hv : v.ownBlock = some k) (hxk : x.ownBlock = some k) : False := by
 rcases h.2 with ⟨rfl, _⟩ | ⟨g, cap, cur, rfl, _, hh, _⟩
 · cases hv
 · rcases hx.2 with ⟨rfl, _⟩ | ⟨g', cap', cur', rfl, _, hh', _⟩
   · cases hxk
   · have e1 : some g = some k := hv
     have e2 : some g' = some k := hxk
     injection e1 with e1
     injection e2 with e2
     rw [e1] at hh
     rw [e2, hh] at hh'
     injection hh' with hh'
     injection hh' with _ ht
     exact hne ht
theorem own_kept {B B' n m s s' : Nat} {t t' : TypeId} {w w' : World} {v x : Value} {xs ys : List Value} (hne : t ≠ t') (h : w.ownsRow B t s v n xs) (hx : w.ownsRow B' t' s' x m ys) (hg : w.grownBy w' x.ownBlock) : w'.ownsRow B t s v n xs := by
 refine World.ownsRow.kept h hg ?_
 rcases h.2 with ⟨rfl, _⟩ | ⟨g, cap, cur, rfl, _⟩
 · exact .inl rfl
 · exact .inr fun e => own_apart hne h hx rfl e.symm
def rvR (p : (Nat × Nat) × List Rt) : Value := .slice (some ⟨p.1.1, 0, none⟩) p.2.length p.1.2
structure OwnRR (B : Nat) (w : World) (v : Value) (ps : List ((Nat × Nat) × List Rt)) : Prop where
 outer : w.ownsRow B 40 1 v ps.length (ps.map rvR)
 inner : ∀ p ∈ ps, OwnRts B w (rvR p) p.2
 lone : ps.Pairwise fun p q => p.1.1 ≠ q.1.1
theorem OwnRR.below {B : Nat} {w w1 : World} {v : Value} {ps : List ((Nat × Nat) × List Rt)} (h : OwnRR B w v ps) (hb : Below w.heap.size w w1) : OwnRR B w1 v ps := ⟨own_pass h.outer hb, fun p hp => own_pass (h.inner p hp) hb, h.lone⟩
theorem OwnRR.mono {B B' : Nat} {w : World} {v : Value} {ps : List ((Nat × Nat) × List Rt)} (h : OwnRR B w v ps) (hb : B' ≤ B) : OwnRR B' w v ps := by
 refine ⟨⟨h.outer.1, ?_⟩, fun p hp => (h.inner p hp).mono hb, h.lone⟩
 rcases h.outer.2 with h2 | ⟨g, cap, cur, e, hg, rest⟩
 · exact .inl h2
 · exact .inr ⟨g, cap, cur, e, Nat.le_trans hb hg, rest⟩
theorem OwnRR.form {B : Nat} {w : World} {v : Value} {ps : List ((Nat × Nat) × List Rt)} (h : OwnRR B w v ps) : ∃ a cap, v = .slice a ps.length cap := by
 rcases h.outer.2 with ⟨rfl, hn⟩ | ⟨g, cap, cur, rfl, _⟩
 · exact ⟨none, 0, by rw [hn]⟩
 · exact ⟨_, cap, rfl⟩
theorem OwnRR.add {B : Nat} {w w' : World} {v v' : Value} {ps : List ((Nat × Nat) × List Rt)} {q : (Nat × Nat) × List Rt} (h : OwnRR B w v ps) (hq : OwnRts B w (rvR q) q.2) (hn : ∀ p ∈ ps, p.1.1 ≠ q.1.1) (ho : w'.ownsRow B 40 1 v' (ps.length + 1) (ps.map rvR ++ [rvR q])) (hg : w.grownBy w' v.ownBlock) : OwnRR B w' v' (ps ++ [q]) := by
 refine ⟨by rw [List.length_append, List.map_append]; exact ho, fun p hp => ?_, ?_⟩
 · have hp' : OwnRts B w (rvR p) p.2 := by
    rcases List.mem_append.1 hp with hp | hp
    · exact h.inner p hp
    · rw [List.mem_singleton] at hp
      rw [hp]; exact hq
   exact own_kept (by decide) hp' h.outer hg
 · refine List.pairwise_append.2 ⟨h.lone, List.pairwise_singleton _ _, fun a ha b hb => ?_⟩
   rw [List.mem_singleton] at hb
   rw [hb]; exact hn a ha
theorem OwnRR.lt {B : Nat} {w : World} {v : Value} {ps : List ((Nat × Nat) × List Rt)} (h : OwnRR B w v ps) : ∀ p ∈ ps, p.1.1 < w.heap.size := fun p hp => (World.ownsRow.lt (h.inner p hp) p.1.1 rfl).2
theorem rr_empty (B N : Nat) (w : World) (hB : B ≤ w.heap.size) (hN : w.heap.size = N) : OwnRR B (w.alloc (.cells #[] 40)) (.slice (some ⟨N, 0, none⟩) 0 0) [] := by
 subst hN
 exact ⟨⟨rfl, .inr ⟨w.heap.size, 0, #[], rfl, hB, heap_alloc_new w _, Nat.le_refl _, Nat.zero_le _, rfl, rfl⟩⟩, fun p hp => (by cases hp), List.Pairwise.nil⟩
theorem rts_some {B : Nat} {w : World} {v : Value} {zs : List Rt} (h : OwnRts B w v zs) (hz : 0 < zs.length) : ∃ g cap, v = rvR ((g, cap), zs) := by
 rcases h.2 with ⟨_, hn⟩ | ⟨g, cap, cur, rfl, _⟩
 · omega
 · exact ⟨g, cap, rfl⟩
theorem info_rr : (Tryz.prog.info? 40).map (fun i => (i.zero, i.size, i.bytes)) = some (some (.slice none 0 0), 1, 24) := by kernel_rfl
end Go.Proofs.YtaioffpkadmmhaaGreat.rRows
