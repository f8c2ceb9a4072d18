/- The formula of a circuit: its models are the values of which the circuit's literal is true, each with the values of the gates; of no program; conditions: a right circuit of four inputs. -/
import Derived.Test.YtaileckcflnbdaaLeastModel
import Derived.Test.YtaileckcflnbdaaBuildFactsJ
import Derived.Test.YtaileckcflnbdaaTseitinI
namespace Go.Proofs.Ytaileckcflnbdaa.tsMath
open Go base leastSem leastModel gates nodes buildSem buildEval tseitin
set_option linter.unusedVariables false

theorem lit_even (ns : List Bool) (x : Nat) : litV ns (2 * (x : Int)) = ns[x]?.getD false := by
  unfold litV
  rw [show (2 * (x : Int)) / 2 = x by omega, show (2 * (x : Int)) % 2 = 0 by omega]
  simp
theorem lit_odd (ns : List Bool) (x : Nat) : litV ns (2 * (x : Int) + 1) = !(ns[x]?.getD false) := by
  unfold litV
  rw [show (2 * (x : Int) + 1) / 2 = x by omega, show (2 * (x : Int) + 1) % 2 = 1 by omega]
  simp
theorem flit_even (x : Nat) : flit (2 * (x : Int)) = x := by unfold flit; rw [if_neg (by omega)]; omega
theorem flit_odd (x : Nat) : flit (2 * (x : Int) + 1) = -(x : Int) := by unfold flit; rw [if_pos (by omega)]; omega
theorem val_pos (M : Nat → Int) (x : Nat) : runS.valOf M (x : Int) = M x := by unfold runS.valOf; rw [if_neg (by omega), Int.natAbs_natCast]
theorem val_neg (M : Nat → Int) {x : Nat} (h : 1 ≤ x) : runS.valOf M (-(x : Int)) = -M x := by unfold runS.valOf; rw [if_pos (by omega), Int.natAbs_neg, Int.natAbs_natCast]
theorem val_opp (M : Nat → Int) (z : Int) (h : z ≠ 0) : runS.valOf M (-z) = -runS.valOf M z := by
  unfold runS.valOf
  rw [Int.natAbs_neg]
  by_cases h1 : z < 0
  · rw [if_neg (by omega), if_pos h1]; omega
  · rw [if_pos (by omega), if_neg h1]
/-- M tells of every node up to x what the circuit does. -/
def Tells (M : Nat → Int) (vs : List Bool) (gs : Gl) (x : Nat) : Prop := (M x = 1 ∨ M x = -1) ∧ (M x = 1 ↔ V vs gs (2 * (x : Int)) = true)
theorem lit_tells {M : Nat → Int} {vs : List Bool} {gs : Gl} {z : Int} (h2 : 2 ≤ z) (h : Tells M vs gs (z / 2).toNat) : (runS.valOf M (flit z) = 1 ↔ V vs gs z = true) ∧ (runS.valOf M (flit z) = 1 ∨ runS.valOf M (flit z) = -1) := by
  obtain ⟨x, hx⟩ : ∃ x : Nat, (z / 2).toNat = x := ⟨_, rfl⟩
  rw [hx] at h
  obtain ⟨ht, hv⟩ := h
  unfold V at *
  rw [lit_even] at hv
  rcases (show z = 2 * (x : Int) ∨ z = 2 * (x : Int) + 1 by omega) with rfl | rfl
  · rw [flit_even, val_pos, lit_even]
    exact ⟨hv, ht⟩
  · rw [flit_odd, val_neg M (by omega), lit_odd]
    refine ⟨?_, by omega⟩
    cases hb : (ND vs gs)[x]?.getD false
    · have : ¬ M x = 1 := fun e => by have := hv.1 e; rw [hb] at this; cases this
      simp; omega
    · have := hv.2 hb
      simp; omega
theorem gate_of {n : Int} {g : Gs} : ∀ (k i : Nat), i < k → ∀ c ∈ gateC n g i, c ∈ clausesTo n g k
  | 0, i, h, _, _ => absurd h (Nat.not_lt_zero _)
  | k + 1, i, h, c, hc => by
    unfold clausesTo
    rcases Nat.lt_or_ge i k with h1 | h1
    · exact List.mem_append_left _ (gate_of k i h1 c hc)
    · have : i = k := by omega
      subst this
      exact List.mem_append_right _ hc
theorem of_gate {n : Int} {g : Gs} : ∀ (k : Nat) (c : List Int), c ∈ clausesTo n g k → ∃ i, i < k ∧ c ∈ gateC n g i
  | 0, c, h => by cases h
  | k + 1, c, h => by
    unfold clausesTo at h
    rcases List.mem_append.1 h with h | h
    · obtain ⟨i, hi, hc⟩ := of_gate k c h
      exact ⟨i, by omega, hc⟩
    · exact ⟨k, by omega, h⟩
theorem in_two (x y : Int) (P : Int → Prop) : (∃ z ∈ [x, y], P z) ↔ P x ∨ P y := by simp
theorem in_three (x y w : Int) (P : Int → Prop) : (∃ z ∈ [x, y, w], P z) ↔ P x ∨ P y ∨ P w := by simp
/-- What a gate's three clauses say. -/
theorem gate_says {M : Nat → Int} {vs : List Bool} {gs : Gl} {i : Nat} (h1 : 2 ≤ (gf gs i).1) (h2 : 2 ≤ (gf gs i).2) (ta : Tells M vs gs ((gf gs i).1 / 2).toNat) (tb : Tells M vs gs ((gf gs i).2 / 2).toNat) (ht : M (5 + i) = 1 ∨ M (5 + i) = -1) :
    (∀ c ∈ gateC 4 (gf gs) i, ∃ z ∈ c, runS.valOf M z = 1) ↔ (M (5 + i) = 1 ↔ (V vs gs (gf gs i).1 && V vs gs (gf gs i).2) = true) := by
  obtain ⟨a1, a2⟩ := lit_tells h1 ta
  obtain ⟨b1, b2⟩ := lit_tells h2 tb
  have hx : (4 : Int) + 1 + (i : Int) = ((5 + i : Nat) : Int) := by omega
  have fa : flit (gf gs i).1 ≠ 0 := fun e => by rw [e] at a2; unfold runS.valOf at a2; unfold flit at e; split at e <;> omega
  have fb : flit (gf gs i).2 ≠ 0 := fun e => by unfold flit at e; split at e <;> omega
  unfold gateC
  rw [hx]
  simp only [List.mem_cons, List.not_mem_nil, or_false, forall_eq_or_imp, forall_eq, or_and_right, exists_or, exists_eq_left]
  rw [val_neg M (by omega), val_pos, val_opp M _ fa, val_opp M _ fb]
  rw [Bool.and_eq_true, ← a1, ← b1]
  omega
theorem bits_at (M : Nat → Int) {i : Nat} (h : i < 4) : (bitsOf M 4)[i]?.getD false = (M (i + 1) == 1) := by simp [bitsOf, h]
theorem var_tells {M : Nat → Int} {vs : List Bool} {gs : Gl} {x : Nat} (hv : vs.length = 4) (h1 : 1 ≤ x) (h4 : x ≤ 4) (ht : M x = 1 ∨ M x = -1) (hb : vs[x - 1]?.getD false = (M x == 1)) : Tells M vs gs x := by
  refine ⟨ht, ?_⟩
  have h := v_var (vs := vs) (n := 4) (by rw [hv]; rfl) gs (x := ((x - 1 : Nat) : Int)) (by omega) (by omega)
  rw [show 2 * (((x - 1 : Nat) : Int) + 1) = 2 * (x : Int) by omega, Int.toNat_natCast, hb] at h
  rw [h]
  simp
theorem tells_all {M : Nat → Int} {gs : Gl} {l : Int} (hg : buildEval.Good 4 gs) (hM : Mod (tsC 4 gs.length (gf gs) l) (4 + gs.length + 1) M) : ∀ x, 1 ≤ x → x < 5 + gs.length → Tells M (bitsOf M 4) gs x := by
  intro x
  induction x using Nat.strongRecOn with
  | _ x ih =>
    intro h1 h2
    have ht := hM.1 x h1 (by omega)
    rcases Nat.lt_or_ge x 5 with h5 | h5
    · exact var_tells (bits_len M 4) h1 (by omega) ht (by rw [bits_at M (by omega), show x - 1 + 1 = x by omega])
    · obtain ⟨i, rfl⟩ : ∃ i, x = 5 + i := ⟨x - 5, by omega⟩
      have hi : i < gs.length := by omega
      obtain ⟨q1, q2, q3, q4⟩ := of_decide_eq_true (buildEval.good_at (n := 4) hg hi)
      have ta := ih ((gf gs i).1 / 2).toNat (by omega) (by omega) (by omega)
      have tb := ih ((gf gs i).2 / 2).toNat (by omega) (by omega) (by omega)
      refine ⟨ht, ?_⟩
      have hv := v_node (vs := bitsOf M 4) (n := 4) (by rw [bits_len]; rfl) hg hi
      rw [show (2 : Int) * (4 + 1 + (i : Int)) = 2 * ((5 + i : Nat) : Int) by omega] at hv
      rw [hv]
      exact (gate_says q1 (by omega) ta tb ht).1 (fun c hc => hM.2 c (List.mem_append_left _ (gate_of _ i hi c hc)))
/-- A model's values make the literal true. -/
theorem model_true {M : Nat → Int} {gs : Gl} {l : Int} (hg : buildEval.Good 4 gs) (hl : In 4 gs l) (hM : Mod (tsC 4 gs.length (gf gs) l) (4 + gs.length + 1) M) : V (bitsOf M 4) gs l = true := by
  have hlast : ∀ c ∈ lastC l, ∃ z ∈ c, runS.valOf M z = 1 := fun c hc => hM.2 c (List.mem_append_right _ hc)
  unfold lastC at hlast
  by_cases h0 : l = 0
  · rw [if_pos h0] at hlast
    obtain ⟨z, hz, _⟩ := hlast [] (by simp)
    cases hz
  · rw [if_neg h0] at hlast
    by_cases h1 : l = 1
    · subst h1
      exact v_one _ _
    · rw [if_neg h1] at hlast
      obtain ⟨z, hz, hv⟩ := hlast [flit l] (by simp)
      rw [List.mem_singleton] at hz
      subst hz
      obtain ⟨p1, p2⟩ := hl
      exact (lit_tells (by omega) (tells_all hg hM (l / 2).toNat (by omega) (by omega))).1.1 hv
/-- The model that values make. -/
def modelV (vs : List Bool) (gs : Gl) : Nat → Int := fun x => if V vs gs (2 * (x : Int)) = true then 1 else -1
theorem modelV_tells (vs : List Bool) (gs : Gl) (x : Nat) : Tells (modelV vs gs) vs gs x := by
  unfold Tells modelV
  cases V vs gs (2 * (x : Int)) <;> simp
theorem modelV_model {vs : List Bool} {gs : Gl} {l : Int} (hv : vs.length = 4) (hg : buildEval.Good 4 gs) (hl : In 4 gs l) (h : V vs gs l = true) : Mod (tsC 4 gs.length (gf gs) l) (4 + gs.length + 1) (modelV vs gs) := by
  refine ⟨fun i _ _ => (modelV_tells vs gs i).1, fun c hc => ?_⟩
  unfold tsC at hc
  rcases List.mem_append.1 hc with hc | hc
  · obtain ⟨i, hi, hc⟩ := of_gate _ c hc
    obtain ⟨q1, q2, q3, q4⟩ := of_decide_eq_true (buildEval.good_at (n := 4) hg hi)
    have hn := v_node (vs := vs) (n := 4) (by rw [hv]; rfl) hg hi
    rw [show (2 : Int) * (4 + 1 + (i : Int)) = 2 * ((5 + i : Nat) : Int) by omega] at hn
    refine (gate_says q1 (by omega) (modelV_tells vs gs _) (modelV_tells vs gs _) (modelV_tells vs gs _).1).2 ?_ c hc
    rw [← hn]
    exact (modelV_tells vs gs (5 + i)).2
  · unfold lastC at hc
    by_cases h0 : l = 0
    · subst h0
      rw [v_zero] at h
      cases h
    · rw [if_neg h0] at hc
      by_cases h1 : l = 1
      · rw [if_pos h1] at hc; cases hc
      · rw [if_neg h1, List.mem_singleton] at hc
        subst hc
        obtain ⟨p1, p2⟩ := hl
        exact ⟨flit l, by simp, (lit_tells (by omega) (modelV_tells vs gs _)).1.2 h⟩
theorem modelV_bits {vs : List Bool} {gs : Gl} (hv : vs.length = 4) {i : Nat} (hi : i < 4) : (modelV vs gs (i + 1) = 1) ↔ vs[i]?.getD false = true := by
  have h := v_var (vs := vs) (n := 4) (by rw [hv]; rfl) gs (x := (i : Int)) (by omega) (by omega)
  rw [Int.toNat_natCast] at h
  rw [(modelV_tells vs gs (i + 1)).2, show (2 : Int) * ((i + 1 : Nat) : Int) = 2 * ((i : Int) + 1) by omega, h]
/-- The four values that a number tells, the first by its highest bit. -/
def bits4 (i : Nat) : List Bool := [i / 8 % 2 == 1, i / 4 % 2 == 1, i / 2 % 2 == 1, i % 2 == 1]
def lexB (a b : List Bool) : Bool := (List.range 4).all fun i => !((List.range i).all fun k => a[k]?.getD false == b[k]?.getD false) || !(a[i]?.getD false) || b[i]?.getD false
theorem lex_num : ∀ j i : Fin 16, lexB (bits4 j.val) (bits4 i.val) = true → j.val ≤ i.val := by decide
theorem all_bits : ∀ a b c d : Bool, ∃ j : Fin 16, bits4 j.val = [a, b, c, d] := by decide
theorem four_bits {vs : List Bool} (h : vs.length = 4) : ∃ j, j < 16 ∧ bits4 j = vs := by
  match vs, h with
  | [a, b, c, d], _ =>
    obtain ⟨j, hj⟩ := all_bits a b c d
    exact ⟨j.val, j.isLt, hj⟩
theorem lex_of {M : Nat → Int} {vs : List Bool} {gs : Gl} {n : Nat} (hv : vs.length = 4) (hn : 5 ≤ n) (hT : Tot M n) (h : LexLe M (modelV vs gs) n) : lexB (bitsOf M 4) vs = true := by
  unfold lexB
  rw [List.all_eq_true]
  intro i hi
  have hi4 : i < 4 := List.mem_range.1 hi
  cases hp : (List.range i).all fun k => (bitsOf M 4)[k]?.getD false == vs[k]?.getD false
  · rfl
  · have hag : ∀ j, 1 ≤ j → j < i + 1 → M j = modelV vs gs j := fun j h1 h2 => by
      have h3 := List.all_eq_true.1 hp (j - 1) (List.mem_range.2 (by omega))
      rw [bits_at M (by omega), show j - 1 + 1 = j by omega] at h3
      have h4 := modelV_bits (gs := gs) hv (i := j - 1) (by omega)
      rw [show j - 1 + 1 = j by omega] at h4
      have h5 := hT j h1 (by omega)
      have h6 := (modelV_tells vs gs j).1
      have h7 : (M j == 1) = vs[j - 1]?.getD false := by simpa using h3
      cases hb : vs[j - 1]?.getD false
      · rw [hb] at h7 h4
        have : ¬ M j = 1 := by simpa using h7
        have : ¬ modelV vs gs j = 1 := fun e => by have := h4.1 e; cases this
        omega
      · rw [hb] at h7 h4
        have : M j = 1 := by simpa using h7
        have := h4.2 rfl
        omega
    have hle := h (i + 1) (by omega) (by omega) hag
    rw [bits_at M hi4]
    have h4 := modelV_bits (gs := gs) hv hi4
    cases hb : vs[i]?.getD false
    · rw [hb] at h4
      have h5 := (modelV_tells vs gs (i + 1)).1
      have : ¬ modelV vs gs (i + 1) = 1 := fun e => by have := h4.1 e; cases this
      have : ¬ M (i + 1) = 1 := by omega
      simp [this]
    · simp
/-- The first number whose values make the literal true tells the least model's values. -/
theorem least_first {gs : Gl} {l : Int} {M : Nat → Int} {i : Nat} (hg : buildEval.Good 4 gs) (hl : In 4 gs l) (hi : i < 16) (hM : Least (tsC 4 gs.length (gf gs) l) (4 + gs.length + 1) V0 M) (ht : V (bits4 i) gs l = true) (hb : ∀ j, j < i → V (bits4 j) gs l = false) : bitsOf M 4 = bits4 i := by
  obtain ⟨h1, _, h3⟩ := hM
  obtain ⟨j, hj, he⟩ := four_bits (bits_len M 4)
  have hmt := model_true hg hl h1
  rw [← he] at hmt
  have hij : ¬ j < i := fun h => by have := hb j h; rw [this] at hmt; cases hmt
  have hlx := lex_of (by rfl) (by omega) h1.1 (h3 (modelV (bits4 i) gs) (modelV_model (by rfl) hg hl ht) (fun k _ _ hk => absurd rfl hk))
  rw [← he] at hlx ⊢
  have := lex_num ⟨j, hj⟩ ⟨i, hi⟩ hlx
  have e : j = i := by simp at this; omega
  rw [e]
theorem none_false {gs : Gl} {l : Int} {i : Nat} (hg : buildEval.Good 4 gs) (hl : In 4 gs l) (hno : None_ (tsC 4 gs.length (gf gs) l) (4 + gs.length + 1) V0) : V (bits4 i) gs l = false := by
  cases h : V (bits4 i) gs l
  · rfl
  · exact (hno _ (modelV_model (by rfl) hg hl h) (fun k _ _ hk => absurd rfl hk)).elim
theorem some_true {gs : Gl} {l : Int} {M : Nat → Int} (hg : buildEval.Good 4 gs) (hl : In 4 gs l) (hM : Least (tsC 4 gs.length (gf gs) l) (4 + gs.length + 1) V0 M) : ∃ j, j < 16 ∧ V (bits4 j) gs l = true := by
  obtain ⟨j, hj, he⟩ := four_bits (bits_len M 4)
  exact ⟨j, hj, by rw [he]; exact model_true hg hl hM.1⟩
end Go.Proofs.Ytaileckcflnbdaa.tsMath
