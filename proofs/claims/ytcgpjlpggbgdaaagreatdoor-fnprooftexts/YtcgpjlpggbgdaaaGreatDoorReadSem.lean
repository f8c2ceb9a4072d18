/- The lines of a proof's text and the steps that they tell, as plain functions; of no program; conditions: none. -/
import Derived.Test.YtcgpjlpggbgdaaaGreatDoorStepRead
namespace Go.Proofs.YtcgpjlpggbgdaaaGreatDoor.readSem
open Go.RowKit Go.Deep base numbers words cuts stepRead
set_option linter.unusedVariables false

/-- The words of a line, with their places in the whole text. -/
def wordsAt (s : ByteArray) (place : Int) : List Wd := (words s).map fun x => (s.extract x.1 x.2, place + x.1)
/-- A line that says something. -/
def spoke (W : List Wd) : Bool := decide (0 < W.length) && !((W[0]?.getD ((⟨#[]⟩, 0) : Wd)).1.toList == [99])
/-- The lines that say something: their words, and where each ends. -/
def sp : List (List UInt8) → Nat → List (List Wd × Int)
  | [], _ => []
  | L :: r, p => (if spoke (wordsAt (piece L) p) then [(wordsAt (piece L) p, ((p + L.length : Nat) : Int))] else []) ++ sp r (p + L.length + 1)
/-- The steps of lines, or the fault. -/
def readS : List (List Wd × Int) → List (Bool × List Int) → Except (Int × Int) (List (Bool × List Int))
  | [], acc => .ok acc
  | (W, e) :: r, acc => match stepOf e (restOf W) false [] with
    | .error x => .error x
    | .ok zs => if acc.length = 200 then .error (7, (W[0]?.getD ((⟨#[]⟩, 0) : Wd)).2) else readS r (acc ++ [(isDel W, zs)])
theorem cut_parts : ∀ l : List UInt8, ∃ L, (∀ x ∈ L, x ≠ 10) ∧ ((l = L ∧ cutL l = [L]) ∨ ∃ rest, l = L ++ 10 :: rest ∧ cutL l = L :: cutL rest)
  | [] => ⟨[], by simp, .inl ⟨rfl, rfl⟩⟩
  | b :: l => by
    by_cases hb : b = 10
    · subst hb
      exact ⟨[], by simp, .inr ⟨l, rfl, by rw [cutL, if_pos rfl]⟩⟩
    · obtain ⟨L, hn, h⟩ := cut_parts l
      have hn' : ∀ x ∈ b :: L, x ≠ 10 := fun x hx => by
        rcases List.mem_cons.1 hx with rfl | hx
        · exact hb
        · exact hn x hx
      rcases h with ⟨rfl, hc⟩ | ⟨rest, rfl, hc⟩
      · exact ⟨b :: l, hn', .inl ⟨rfl, by rw [cutL, if_neg hb, hc]⟩⟩
      · exact ⟨b :: L, hn', .inr ⟨rest, rfl, by rw [cutL, if_neg hb, hc]⟩⟩
theorem idx_hit : ∀ (L r : List UInt8), (∀ x ∈ L, x ≠ 10) → Lib.indexByte (L ++ 10 :: r) 10 = L.length
  | [], r, _ => by simp [Lib.indexByte]
  | b :: L, r, h => by
    have ih := idx_hit L r (fun x hx => h x (by simp [hx]))
    have hb : b ≠ 10 := h b (by simp)
    rw [List.cons_append]
    unfold Lib.indexByte
    rw [if_neg (by simpa using hb), ih]
    simp
theorem idx_miss : ∀ (L : List UInt8), (∀ x ∈ L, x ≠ 10) → Lib.indexByte L 10 = -1
  | [], _ => by simp [Lib.indexByte]
  | b :: L, h => by
    have ih := idx_miss L (fun x hx => h x (by simp [hx]))
    have hb : b ≠ 10 := h b (by simp)
    unfold Lib.indexByte
    rw [if_neg (by simpa using hb), ih]
    simp
theorem words_in (s : ByteArray) : ∀ x ∈ words s, x.1 ≤ s.size := by
  have key : ∀ i, i ≤ s.size + 1 → ∀ x ∈ (wst s i).2, x.1 ≤ s.size := by
    intro i
    induction i with
    | zero => intro _ x hx; simp [wst] at hx
    | succ i ih =>
      intro hi x hx
      have ih := ih (by omega)
      by_cases hb : i < s.size ∧ blankB (digS s i) = false
      · rw [wst_go hb.1 hb.2] at hx; exact ih x hx
      · rw [wst_end hb] at hx
        dsimp only at hx
        split at hx
        · rename_i h9
          rcases List.mem_append.1 hx with hx | hx
          · exact ih x hx
          · simp at hx; subst hx; show (wst s i).1 ≤ _; omega
        · exact ih x hx
  exact key _ (Nat.le_refl _)
theorem end_ok (s : ByteArray) : ∀ (n : Nat) (pre l : List UInt8), l.length ≤ n → s.data.toList = pre ++ l → ∀ x ∈ sp (cutL l) pre.length, endOf s ((x.1[0]?.getD ((⟨#[]⟩, 0) : Wd)).2).toNat = x.2 := by
  intro n
  induction n with
  | zero =>
    intro pre l hl hs x hx
    have e0 : l = [] := List.length_eq_zero_iff.1 (by omega)
    subst e0
    exfalso
    have hw : wordsAt (piece []) (pre.length : Nat) = [] := by
      show ((words (piece [])).map _) = []
      have : words (piece []) = [] := rfl
      rw [this]; rfl
    simp only [cutL, sp, hw, List.append_nil] at hx
    simp [spoke] at hx
  | succ n ih =>
    intro pre l hl hs x hx
    have hsz : s.size = (pre ++ l).length := by rw [← hs]; simp
    obtain ⟨L, hn, h⟩ := cut_parts l
    have first : ∀ (tl : List UInt8), s.data.toList = pre ++ (L ++ tl) → (endOf s = fun q => if Lib.indexByte (s.data.toList.drop q) 10 < 0 then (s.size : Int) else q + Lib.indexByte (s.data.toList.drop q) 10) → ∀ k, k ≤ L.length → s.data.toList.drop (pre.length + k) = L.drop k ++ tl := fun tl e _ k hk => by
      rw [e, List.drop_append, List.drop_eq_nil_of_le (by omega), List.nil_append, show pre.length + k - pre.length = k by omega, List.drop_append, show k - L.length = 0 by omega, List.drop_zero]
    have here : ∀ W, W = wordsAt (piece L) (pre.length : Nat) → 0 < W.length → ∃ k, k ≤ L.length ∧ ((W[0]?.getD ((⟨#[]⟩, 0) : Wd)).2).toNat = pre.length + k := fun W e hW => by
      subst e
      have h0 : 0 < (words (piece L)).length := by simpa [wordsAt] using hW
      refine ⟨((words (piece L))[0]).1, ?_, ?_⟩
      · have := words_in (piece L) _ (List.getElem_mem h0)
        have hp : (piece L).size = L.length := by simp [piece, ByteArray.size]
        omega
      · unfold wordsAt
        rw [List.getElem?_map, List.getElem?_eq_getElem h0]
        simp only [Option.map_some, Option.getD_some]
        omega
    rcases h with ⟨rfl, hc⟩ | ⟨rest, rfl, hc⟩
    · rw [hc] at hx
      simp only [sp, List.append_nil] at hx
      split at hx
      · rename_i hsp
        simp at hx
        subst hx
        have hW : 0 < (wordsAt (piece l) (pre.length : Nat)).length := by
          unfold spoke at hsp; simp only [Bool.and_eq_true, decide_eq_true_eq] at hsp; exact hsp.1
        obtain ⟨k, hk, hq⟩ := here _ rfl hW
        dsimp only
        rw [hq]
        unfold endOf
        have hd := first [] (by rw [List.append_nil]; exact hs) rfl k hk
        rw [hd, List.append_nil, idx_miss _ (fun y hy => hn y (List.mem_of_mem_drop hy)), if_pos (by omega), hsz]
        simp
      · simp at hx
    · rw [hc] at hx
      simp only [sp] at hx
      rcases List.mem_append.1 hx with hx | hx
      · split at hx
        · rename_i hsp
          simp at hx
          subst hx
          have hW : 0 < (wordsAt (piece L) (pre.length : Nat)).length := by
            unfold spoke at hsp; simp only [Bool.and_eq_true, decide_eq_true_eq] at hsp; exact hsp.1
          obtain ⟨k, hk, hq⟩ := here _ rfl hW
          dsimp only
          rw [hq]
          unfold endOf
          have hd := first (10 :: rest) hs rfl k hk
          rw [hd, idx_hit _ _ (fun y hy => hn y (List.mem_of_mem_drop hy)), if_neg (by omega), List.length_drop]
          omega
        · simp at hx
      · have e1 : (pre ++ (L ++ [10])).length = pre.length + L.length + 1 := by simp; omega
        rw [← e1] at hx
        refine ih (pre ++ (L ++ [10])) rest ?_ ?_ x hx
        · simp at hl; omega
        · rw [hs]; simp
end Go.Proofs.YtcgpjlpggbgdaaaGreatDoor.readSem
