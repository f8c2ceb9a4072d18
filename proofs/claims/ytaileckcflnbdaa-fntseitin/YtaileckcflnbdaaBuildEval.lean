/- What is built tells what the trees tell: values, right gates, each once, and that what is there stays; of no program; conditions: right trees whose variables are inputs. -/
import Derived.Test.YtaileckcflnbdaaBuildList
import Derived.Test.YtaileckcflnbdaaNodesI
namespace Go.Proofs.Ytaileckcflnbdaa.buildEval
open Go.RowKit Go.Deep Go base trees treeEval gates aigImpl nodes buildSem buildTree buildList
set_option linter.unusedVariables false

def gf (gs : Gl) : Gs := fun i => gs[i]?.getD (0, 0)
/-- The nodes' values, and a literal's. -/
def ND (vs : List Bool) (gs : Gl) : List Bool := nodesOf vs (gf gs) gs.length
def V (vs : List Bool) (gs : Gl) (z : Int) : Bool := litV (ND vs gs) z
def Ext (gs gs' : Gl) : Prop := ∃ e, gs' = gs ++ e
theorem Ext.refl (gs : Gl) : Ext gs gs := ⟨[], by simp⟩
theorem Ext.trans {a b c : Gl} (h : Ext a b) (k : Ext b c) : Ext a c := by
  obtain ⟨e, rfl⟩ := h
  obtain ⟨f, rfl⟩ := k
  exact ⟨e ++ f, by simp⟩
theorem Ext.len {a b : Gl} (h : Ext a b) : a.length ≤ b.length := by
  obtain ⟨e, rfl⟩ := h
  simp
theorem gf_ext {gs gs' : Gl} (h : Ext gs gs') {i : Nat} (hi : i < gs.length) : gf gs' i = gf gs i := by
  obtain ⟨e, rfl⟩ := h
  unfold gf
  rw [List.getElem?_append_left hi]
theorem nodes_congr (vs : List Bool) {g g' : Gs} : ∀ k, (∀ i, i < k → g i = g' i) → nodesOf vs g k = nodesOf vs g' k
  | 0, _ => rfl
  | k + 1, h => by
    simp only [nodesOf]
    rw [nodes_congr vs k (fun i hi => h i (by omega)), h k (by omega)]
theorem nodes_at (vs : List Bool) (g : Gs) {k i : Nat} (hi : i < vs.length + 1 + k) : ∀ j, (nodesOf vs g (k + j))[i]? = (nodesOf vs g k)[i]?
  | 0 => rfl
  | j + 1 => by
    show (nodesOf vs g (k + j + 1))[i]? = _
    simp only [nodesOf]
    rw [List.getElem?_append_left (by rw [nodes_len]; omega), nodes_at vs g hi j]
theorem nd_at (vs : List Bool) {gs gs' : Gl} (h : Ext gs gs') {k i : Nat} (hk : k ≤ gs.length) (hi : i < vs.length + 1 + k) : (ND vs gs')[i]? = (nodesOf vs (gf gs) k)[i]? := by
  unfold ND
  have hl := h.len
  rw [nodes_congr vs (g' := gf gs) k (fun i _ => rfl)]
  have e : gs'.length = k + (gs'.length - k) := by omega
  rw [e, nodes_at vs (gf gs') hi, nodes_congr vs k (fun i hi => gf_ext h (by omega))]
theorem lit_same (vs : List Bool) {gs gs' : Gl} (h : Ext gs gs') {k : Nat} (hk : k ≤ gs.length) {z : Int} (h0 : 0 ≤ z) (h1 : z < 2 * (vs.length + 1 + k : Nat)) : V vs gs' z = litV (nodesOf vs (gf gs) k) z := by
  unfold V litV
  rw [nd_at vs h hk (by omega)]
theorem v_ext {vs : List Bool} {n : Int} (hn : (vs.length : Int) = n) {gs gs' : Gl} (h : Ext gs gs') {z : Int} (hz : In n gs z) : V vs gs' z = V vs gs z := by
  obtain ⟨h0, h1⟩ := hz
  rw [lit_same vs h (Nat.le_refl _) h0 (by omega)]
  rfl
theorem v_not {vs : List Bool} {gs : Gl} {z : Int} (h0 : 0 ≤ z) : V vs gs (notL z) = !V vs gs z := by
  unfold V litV notL
  by_cases h : z % 2 = 1
  · rw [if_pos h]
    have e1 : (z - 1) / 2 = z / 2 := by omega
    have e2 : ¬ (z - 1) % 2 = 1 := by omega
    rw [e1]
    simp [h, e2]
  · rw [if_neg h]
    have e1 : (z + 1) / 2 = z / 2 := by omega
    have e2 : (z + 1) % 2 = 1 := by omega
    rw [e1]
    simp [h, e2]
theorem nd_zero (vs : List Bool) (gs : Gl) : (ND vs gs)[0]? = some false := by
  have := nd_at vs (Ext.refl gs) (k := 0) (i := 0) (Nat.zero_le _) (by omega)
  rw [this]
  rfl
theorem v_zero (vs : List Bool) (gs : Gl) : V vs gs 0 = false := by
  unfold V litV
  have e : ((0 : Int) / 2).toNat = 0 := by decide
  rw [e, nd_zero]
  rfl
theorem v_one (vs : List Bool) (gs : Gl) : V vs gs 1 = true := by
  unfold V litV
  have e : ((1 : Int) / 2).toNat = 0 := by decide
  rw [e, nd_zero]
  rfl
theorem v_var {vs : List Bool} {n : Int} (hn : (vs.length : Int) = n) (gs : Gl) {x : Int} (h0 : 0 ≤ x) (h1 : x < n) : V vs gs (2 * (x + 1)) = vs[x.toNat]?.getD false := by
  unfold V litV
  have e1 : ((2 * (x + 1)) / 2).toNat = x.toNat + 1 := by omega
  rw [e1, nd_at vs (Ext.refl gs) (k := 0) (Nat.zero_le _) (by omega)]
  simp [nodesOf]
/-- Each gate is right, and none is there twice. -/
def Good (n : Int) (gs : Gl) : Prop := ∀ i, i < gs.length → goodB n (gf gs) i = true
theorem good_at {n : Int} {gs : Gl} (h : Good n gs) {i : Nat} (hi : i < gs.length) : gateB (gf gs i).1 (gf gs i).2 (n + 1 + i) = true := by
  have := h i hi
  unfold goodB at this
  rw [Bool.and_eq_true] at this
  exact this.1
theorem v_node {vs : List Bool} {n : Int} (hn : (vs.length : Int) = n) {gs : Gl} (hg : Good n gs) {i : Nat} (hi : i < gs.length) : V vs gs (2 * (n + 1 + i)) = (V vs gs (gf gs i).1 && V vs gs (gf gs i).2) := by
  have hgb := of_decide_eq_true (good_at hg hi)
  obtain ⟨q1, q2, q3, q4⟩ := hgb
  rw [lit_same vs (Ext.refl gs) (k := i) (by omega) (z := (gf gs i).1) (by omega) (by omega), lit_same vs (Ext.refl gs) (k := i) (by omega) (z := (gf gs i).2) (by omega) (by omega)]
  rw [lit_same vs (Ext.refl gs) (k := i + 1) (by omega) (z := 2 * (n + 1 + i)) (by omega) (by omega)]
  unfold litV
  have e1 : ((2 * (n + 1 + (i : Int))) / 2).toNat = vs.length + 1 + i := by omega
  have e2 : ¬ (2 * (n + 1 + (i : Int))) % 2 = 1 := by omega
  rw [e1]
  simp only [nodesOf]
  rw [List.getElem?_append_right (by rw [nodes_len]; omega), nodes_len]
  simp only [Nat.sub_self, List.getElem?_cons_zero, Option.getD_some, e2, decide_false, Bool.bne_false]
  rfl
/-- What 'and' leaves: the gates are good, they go on, and the literal tells both. -/
structure Did (vs : List Bool) (n : Int) (gs : Gl) (r : Int × Gl) (v : Bool) : Prop where
  good : Good n r.2
  ext : Ext gs r.2
  val : V vs r.2 r.1 = v
  inn : In n r.2 r.1
variable {vs : List Bool} {n : Int} {gs : Gl}
theorem add_did (hn : (vs.length : Int) = n) (hg : Good n gs) {p q : Int} (hp : In n gs p) (hq : In n gs q) (h2 : 2 ≤ p) (hpq : p < q) (hd : p / 2 ≠ q / 2) : Did vs n gs (addG n gs p q) (V vs gs p && V vs gs q) := by
  have hin := (add_in n gs p q (by omega)).1
  unfold addG at hin ⊢
  cases h : placeG gs p q with
  | some i =>
    rw [h] at hin
    simp only at hin ⊢
    obtain ⟨hi, he⟩ := place_lt h
    have e : gf gs i = (p, q) := he
    refine ⟨hg, Ext.refl _, ?_, hin⟩
    rw [v_node hn hg hi, e]
  | none =>
    rw [h] at hin
    simp only at hin ⊢
    have hno : ∀ j, j < gs.length → gf gs j ≠ (p, q) := fun j hj e => by
      have h' := h
      unfold placeG at h'
      rw [List.findIdx?_eq_none_iff] at h'
      have := h' (gs[j]) (List.getElem_mem hj)
      unfold gf at e
      rw [List.getElem?_eq_getElem hj] at e
      simp only [Option.getD_some] at e
      rw [e] at this
      simp at this
    have hx : Ext gs (gs ++ [(p, q)]) := ⟨_, rfl⟩
    have hl : (gs ++ [(p, q)]).length = gs.length + 1 := by simp
    have hlast : gf (gs ++ [(p, q)]) gs.length = (p, q) := by
      unfold gf
      rw [List.getElem?_append_right (Nat.le_refl _), Nat.sub_self]; rfl
    have hgood : Good n (gs ++ [(p, q)]) := fun i hi => by
      rw [hl] at hi
      by_cases e : i = gs.length
      · subst e
        refine good_yes hlast (decide_eq_true ⟨h2, hpq, by have := hq.2; omega, hd⟩) ?_
        rintro ⟨j, hj, e⟩
        rw [gf_ext hx hj] at e
        exact hno j hj e
      · have h1 := hg i (by omega)
        unfold goodB at h1 ⊢
        rw [Bool.and_eq_true] at h1 ⊢
        rw [gf_ext hx (by omega)]
        refine ⟨h1.1, ?_⟩
        have : ∀ k, k ≤ i → allTo (fun j => gf (gs ++ [(p, q)]) j != gf gs i) k = allTo (fun j => gf gs j != gf gs i) k := by
          intro k
          induction k with
          | zero => intro _; rfl
          | succ k ih => intro hk; simp only [allTo]; rw [ih (by omega), gf_ext hx (by omega)]
        rw [this i (Nat.le_refl _)]
        exact h1.2
    refine ⟨hgood, hx, ?_, hin⟩
    have e2 : (2 * (n + ((gs.length + 1 : Nat) : Int))) = 2 * (n + 1 + (gs.length : Int)) := by omega
    rw [e2, v_node hn hgood (by rw [hl]; omega), hlast, v_ext hn hx hp, v_ext hn hx hq]
theorem ord_did (hn : (vs.length : Int) = n) (hg : Good n gs) {p q : Int} (hp : In n gs p) (hq : In n gs q) (hpq : p ≤ q) : Did vs n gs (ordL n gs p q) (V vs gs p && V vs gs q) := by
  have hin := (ord_in n gs p q (by omega) hq).1
  unfold ordL at hin ⊢
  by_cases h0 : p = 0
  · subst h0
    rw [if_pos rfl] at hin ⊢
    exact ⟨hg, Ext.refl _, by simp only; rw [v_zero]; rfl, hin⟩
  rw [if_neg h0] at hin ⊢
  by_cases h1 : p = 1 ∨ p = q
  · rw [if_pos h1] at hin ⊢
    refine ⟨hg, Ext.refl _, ?_, hin⟩
    simp only
    rcases h1 with rfl | rfl
    · rw [v_one]; rfl
    · rw [Bool.and_self]
  rw [if_neg h1] at hin ⊢
  have hp0 := hp.1
  by_cases h2 : p / 2 = q / 2
  · rw [if_pos h2] at hin ⊢
    refine ⟨hg, Ext.refl _, ?_, hin⟩
    simp only
    rw [v_zero]
    have e : q = notL p := by unfold notL; split <;> omega
    rw [e, v_not hp0]
    simp
  rw [if_neg h2] at hin ⊢
  exact add_did hn hg hp hq (by omega) (by omega) h2
theorem and_did (hn : (vs.length : Int) = n) (hg : Good n gs) {a b : Int} (ha : In n gs a) (hb : In n gs b) : Did vs n gs (andL n gs a b) (V vs gs a && V vs gs b) := by
  unfold andL
  by_cases h : b < a
  · rw [if_pos h, Bool.and_comm]
    exact ord_did hn hg hb ha (by omega)
  · rw [if_neg h]
    exact ord_did hn hg ha hb (by omega)
theorem or_did (hn : (vs.length : Int) = n) (hg : Good n gs) {a b : Int} (ha : In n gs a) (hb : In n gs b) : Did vs n gs (orL n gs a b) (V vs gs a || V vs gs b) := by
  obtain ⟨h1, h2, h3, h4⟩ := and_did hn hg (not_in ha) (not_in hb)
  refine ⟨h1, h2, ?_, not_in h4⟩
  show V vs (andL n gs (notL a) (notL b)).2 (notL (andL n gs (notL a) (notL b)).1) = _
  rw [v_not h4.1, h3, v_not ha.1, v_not hb.1]
  cases V vs gs a <;> cases V vs gs b <;> rfl
theorem two_did (hn : (vs.length : Int) = n) (hg : Good n gs) {a b c e : Int} (ha : In n gs a) (hb : In n gs b) (hc : In n gs c) (he : In n gs e) :
    Did vs n gs (orL n (andL n (andL n gs a b).2 c e).2 (andL n gs a b).1 (andL n (andL n gs a b).2 c e).1) ((V vs gs a && V vs gs b) || (V vs gs c && V vs gs e)) := by
  obtain ⟨h1, h2, h3, h4⟩ := and_did hn hg ha hb
  obtain ⟨k1, k2, k3, k4⟩ := and_did hn h1 (hc.more h2.len) (he.more h2.len)
  obtain ⟨l1, l2, l3, l4⟩ := or_did hn k1 (h4.more k2.len) k4
  refine ⟨l1, h2.trans (k2.trans l2), ?_, l4⟩
  rw [l3, k3, v_ext hn k2 h4, h3, v_ext hn h2 hc, v_ext hn h2 he]
theorem xor_did (hn : (vs.length : Int) = n) (hg : Good n gs) {a b : Int} (ha : In n gs a) (hb : In n gs b) : Did vs n gs (xorL n gs a b) (V vs gs a != V vs gs b) := by
  have h := two_did hn hg ha (not_in hb) (not_in ha) hb
  refine ⟨h.good, h.ext, ?_, h.inn⟩
  refine h.val.trans ?_
  rw [v_not ha.1, v_not hb.1]
  cases V vs gs a <;> cases V vs gs b <;> rfl
theorem ite_did (hn : (vs.length : Int) = n) (hg : Good n gs) {a b c : Int} (ha : In n gs a) (hb : In n gs b) (hc : In n gs c) : Did vs n gs (iteL n gs a b c) (if V vs gs a then V vs gs b else V vs gs c) := by
  have h := two_did hn hg ha hb (not_in ha) hc
  refine ⟨h.good, h.ext, ?_, h.inn⟩
  refine h.val.trans ?_
  rw [v_not ha.1]
  cases V vs gs a <;> cases V vs gs b <;> cases V vs gs c <;> rfl
theorem not_did (hn : (vs.length : Int) = n) (hg : Good n gs) {a : Int} (ha : In n gs a) : Did vs n gs (notL a, gs) (!V vs gs a) := ⟨hg, Ext.refl _, v_not ha.1, not_in ha⟩

theorem row_did (hn : (vs.length : Int) = n) (hg : Good n gs) (mk : T → Gl → Int × Gl) (t : T) (ev : T → Bool) : ∀ k, (∀ i, i < k → ∀ gs', Good n gs' → Did vs n gs' (mk (kid t i) gs') (ev (kid t i))) →
    Good n (makeRow mk t k gs).2 ∧ Ext gs (makeRow mk t k gs).2 ∧ ∀ i, i < k → In n (makeRow mk t k gs).2 (at0 (makeRow mk t k gs).1 i) ∧ V vs (makeRow mk t k gs).2 (at0 (makeRow mk t k gs).1 i) = ev (kid t i)
  | 0, _ => ⟨hg, Ext.refl _, fun i hi => absurd hi (Nat.not_lt_zero _)⟩
  | k + 1, h => by
    obtain ⟨h1, h2, h3⟩ := row_did hn hg mk t ev k (fun i hi => h i (by omega))
    obtain ⟨k1, k2, k3, k4⟩ := h k (by omega) (makeRow mk t k gs).2 h1
    refine ⟨k1, h2.trans k2, fun i hi => ?_⟩
    simp only [makeRow]
    by_cases e : i = k
    · subst e
      have hl := row_len mk t gs i
      have : at0 ((makeRow mk t i gs).1 ++ [(mk (kid t i) (makeRow mk t i gs).2).1]) i = (mk (kid t i) (makeRow mk t i gs).2).1 := by
        have := at0_app_eq (ks := (makeRow mk t i gs).1) (x := (mk (kid t i) (makeRow mk t i gs).2).1)
        rwa [hl] at this
      rw [this]
      exact ⟨k4, k3⟩
    · rw [at0_app_lt (by rw [row_len]; omega)]
      obtain ⟨i1, i2⟩ := h3 i (by omega)
      exact ⟨i1.more k2.len, by rw [v_ext hn k2 i1, i2]⟩
theorem op_did (hn : (vs.length : Int) = n) (hg : Good n gs) {k : Int} {ks : List Int} (hk : 3 ≤ k ∧ k ≤ 7) (x : Nat → Bool) (h : ∀ i, i < (if k = 3 then 1 else if k = 7 then 3 else 2) → In n gs (at0 ks i) ∧ V vs gs (at0 ks i) = x i) :
    Did vs n gs (opL n k gs ks) (if k = 3 then !x 0 else if k = 4 then x 0 && x 1 else if k = 5 then x 0 || x 1 else if k = 6 then x 0 != x 1 else if x 0 then x 1 else x 2) := by
  unfold opL
  by_cases e3 : k = 3
  · rw [if_pos e3, if_pos e3]
    obtain ⟨i0, v0⟩ := h 0 (by rw [if_pos e3]; omega)
    rw [← v0]
    exact not_did hn hg i0
  · rw [if_neg e3, if_neg e3]
    obtain ⟨i0, v0⟩ := h 0 (by rw [if_neg e3]; split <;> omega)
    obtain ⟨i1, v1⟩ := h 1 (by rw [if_neg e3]; split <;> omega)
    rw [← v0, ← v1]
    by_cases e4 : k = 4
    · rw [if_pos e4, if_pos e4]; exact and_did hn hg i0 i1
    · rw [if_neg e4, if_neg e4]
      by_cases e5 : k = 5
      · rw [if_pos e5, if_pos e5]; exact or_did hn hg i0 i1
      · rw [if_neg e5, if_neg e5]
        by_cases e6 : k = 6
        · rw [if_pos e6, if_pos e6]; exact xor_did hn hg i0 i1
        · rw [if_neg e6, if_neg e6]
          obtain ⟨i2, v2⟩ := h 2 (by rw [if_neg e3, if_pos (by omega)]; omega)
          rw [← v2]
          exact ite_did hn hg i0 i1 i2
theorem evalT_op (vs : List Bool) {d : Nat} {t : T} (hd : 0 < d) (h1 : kd t ≠ 1) (h2 : kd t ≠ 2) : evalT vs d t = (if kd t = 3 then !evalT vs (d - 1) (kid t 0) else if kd t = 4 then evalT vs (d - 1) (kid t 0) && evalT vs (d - 1) (kid t 1) else if kd t = 5 then evalT vs (d - 1) (kid t 0) || evalT vs (d - 1) (kid t 1) else if kd t = 6 then evalT vs (d - 1) (kid t 0) != evalT vs (d - 1) (kid t 1) else if evalT vs (d - 1) (kid t 0) then evalT vs (d - 1) (kid t 1) else evalT vs (d - 1) (kid t 2)) := by
  cases d with
  | zero => omega
  | succ d => simp only [evalT]; rw [if_neg h1, if_neg h2]; rfl
theorem evalT_var (vs : List Bool) (d : Nat) {t : T} (h1 : kd t = 1) : evalT vs d t = vs[(nn t).toNat]?.getD false := by
  cases d <;> simp only [evalT] <;> rw [if_pos h1]
theorem evalT_const (vs : List Bool) (d : Nat) {t : T} (h2 : kd t = 2) : evalT vs d t = decide (nn t = 1) := by
  cases d <;> simp only [evalT]
  · rw [if_neg (by omega)]
  · rw [if_neg (by omega), if_pos h2]
theorem make_did (hn : (vs.length : Int) = n) : ∀ (d : Nat) (t : T) (gs : Gl), OkT n d t → Good n gs → Did vs n gs (makeT n d t gs) (evalT vs d t) := by
  intro d
  induction d using Nat.strongRecOn with
  | _ d ih =>
    intro t gs hok hg
    have hh := hok.here
    have hin := (make_fine (n := n) (by omega) d t gs hok).1
    by_cases h1 : kd t = 1
    · rw [makeT_var n d t gs h1] at hin ⊢
      unfold Here at hh
      exact ⟨hg, Ext.refl _, by rw [evalT_var vs d h1]; exact v_var hn gs (by omega) (by omega), hin⟩
    · by_cases h2 : kd t = 2
      · rw [makeT_const n d t gs h2] at hin ⊢
        unfold Here at hh
        refine ⟨hg, Ext.refl _, ?_, hin⟩
        rw [evalT_const vs d h2]
        simp only
        obtain e | e : nn t = 0 ∨ nn t = 1 := by omega
        · rw [e, v_zero]; rfl
        · rw [e, v_one]; rfl
      · rw [makeT_op n d t gs h1 h2 (fun e => hok.zero e)]
        have hd : 0 < d := by
          rcases Nat.eq_zero_or_pos d with e | e
          · have := hok.zero e
            unfold Here at hh
            omega
          · exact e
        obtain ⟨r1, r2, r3⟩ := row_did hn hg (makeT n (d - 1)) t (evalT vs (d - 1)) (ln t) (fun i hi gs' hg' => ih (d - 1) (by omega) (kid t i) gs' (hok.kid hi) hg')
        have hk : 3 ≤ kd t ∧ kd t ≤ 7 ∧ ln t = (if kd t = 3 then 1 else if kd t = 7 then 3 else 2) := by
          unfold Here at hh
          rcases hh with hh | hh | hh | hh | hh
          · omega
          · omega
          · rw [if_pos hh.1]; omega
          · rw [if_neg (by omega), if_neg (by omega)]; omega
          · rw [if_neg (by omega), if_pos hh.1]; omega
        have ho := op_did hn r1 (k := kd t) (ks := (makeRow (makeT n (d - 1)) t (ln t) gs).1) ⟨hk.1, hk.2.1⟩ (fun i => evalT vs (d - 1) (kid t i)) (fun i hi => r3 i (by rw [hk.2.2]; exact hi))
        exact ⟨ho.good, r2.trans ho.ext, by rw [ho.val, evalT_op vs hd h1 h2], ho.inn⟩

/- What is there stays. -/
def Stays (n : Int) (f : Gl → Int × Gl) : Prop := ∀ gs gs', Ext (f gs).2 gs' → f gs' = ((f gs).1, gs')
theorem place_ext {gs gs' : Gl} (h : Ext gs gs') {p q : Int} {i : Nat} (hp : placeG gs p q = some i) : placeG gs' p q = some i := by
  obtain ⟨e, rfl⟩ := h
  unfold placeG at hp ⊢
  rw [List.findIdx?_append, hp]; rfl
theorem add_stays (n p q : Int) : Stays n (fun gs => addG n gs p q) := by
  intro gs gs' h
  simp only at h ⊢
  unfold addG at h ⊢
  cases hp : placeG gs p q with
  | some i =>
    rw [hp] at h
    simp only at h ⊢
    rw [place_ext h hp]
  | none =>
    rw [hp] at h
    simp only at h ⊢
    have h1 : placeG (gs ++ [(p, q)]) p q = some gs.length := by
      unfold placeG at hp ⊢
      rw [List.findIdx?_append, hp]
      simp [List.findIdx?_cons]
    rw [place_ext h h1]
    simp only
    congr 1
    push_cast
    omega
theorem ord_stays (n p q : Int) : Stays n (fun gs => ordL n gs p q) := by
  intro gs gs' h
  simp only at h ⊢
  unfold ordL at h ⊢
  by_cases h0 : p = 0
  · rw [if_pos h0, if_pos h0]
  rw [if_neg h0] at h ⊢
  rw [if_neg h0]
  by_cases h1 : p = 1 ∨ p = q
  · rw [if_pos h1, if_pos h1]
  rw [if_neg h1] at h ⊢
  rw [if_neg h1]
  by_cases h2 : p / 2 = q / 2
  · rw [if_pos h2, if_pos h2]
  rw [if_neg h2] at h ⊢
  rw [if_neg h2]
  exact add_stays n p q gs gs' h
theorem and_stays (n a b : Int) : Stays n (fun gs => andL n gs a b) := by
  intro gs gs' h
  simp only at h ⊢
  unfold andL at h ⊢
  by_cases h0 : b < a
  · rw [if_pos h0] at h ⊢
    rw [if_pos h0]
    exact ord_stays n b a gs gs' h
  · rw [if_neg h0] at h ⊢
    rw [if_neg h0]
    exact ord_stays n a b gs gs' h
theorem or_stays (n a b : Int) : Stays n (fun gs => orL n gs a b) := by
  intro gs gs' h
  have h1 := and_stays n (notL a) (notL b) gs gs' h
  simp only at h1 ⊢
  unfold orL
  rw [h1]
theorem and_ext (n a b : Int) (gs : Gl) : Ext gs (andL n gs a b).2 := by
  have ho : ∀ p q, Ext gs (ordL n gs p q).2 := fun p q => by
    unfold ordL
    split
    · exact Ext.refl _
    · split
      · exact Ext.refl _
      · split
        · exact Ext.refl _
        · unfold addG
          cases placeG gs p q with
          | some i => exact Ext.refl _
          | none => exact ⟨_, rfl⟩
  unfold andL
  split
  · exact ho b a
  · exact ho a b
theorem two_stays (n a b c e : Int) : Stays n (fun gs => orL n (andL n (andL n gs a b).2 c e).2 (andL n gs a b).1 (andL n (andL n gs a b).2 c e).1) := by
  intro gs gs' h
  simp only at h ⊢
  have h3 : Ext (andL n (andL n gs a b).2 c e).2 gs' := Ext.trans (and_ext n (notL (andL n gs a b).1) (notL (andL n (andL n gs a b).2 c e).1) _) h
  have h2 : Ext (andL n gs a b).2 gs' := Ext.trans (and_ext n c e _) h3
  have q1 : andL n gs' a b = ((andL n gs a b).1, gs') := and_stays n a b gs gs' h2
  have q2 : andL n gs' c e = ((andL n (andL n gs a b).2 c e).1, gs') := and_stays n c e _ gs' h3
  rw [q1]
  simp only
  rw [q2]
  exact or_stays n _ _ _ gs' h
theorem op_stays (n k : Int) (ks : List Int) : Stays n (fun gs => opL n k gs ks) := by
  intro gs gs' h
  simp only at h ⊢
  unfold opL at h ⊢
  by_cases e3 : k = 3
  · rw [if_pos e3, if_pos e3]
  rw [if_neg e3] at h ⊢
  rw [if_neg e3]
  by_cases e4 : k = 4
  · rw [if_pos e4] at h ⊢
    rw [if_pos e4]
    exact and_stays n _ _ gs gs' h
  rw [if_neg e4] at h ⊢
  rw [if_neg e4]
  by_cases e5 : k = 5
  · rw [if_pos e5] at h ⊢
    rw [if_pos e5]
    exact or_stays n _ _ gs gs' h
  rw [if_neg e5] at h ⊢
  rw [if_neg e5]
  by_cases e6 : k = 6
  · rw [if_pos e6] at h ⊢
    rw [if_pos e6]
    exact two_stays n _ _ _ _ gs gs' h
  rw [if_neg e6] at h ⊢
  rw [if_neg e6]
  exact two_stays n _ _ _ _ gs gs' h
theorem op_ext (n k : Int) (ks : List Int) (gs : Gl) : Ext gs (opL n k gs ks).2 := by
  unfold opL
  split
  · exact Ext.refl _
  · split
    · exact and_ext _ _ _ _
    · split
      · exact and_ext _ _ _ _
      · split
        · exact (and_ext _ _ _ _).trans ((and_ext _ _ _ _).trans (and_ext _ _ _ _))
        · exact (and_ext _ _ _ _).trans ((and_ext _ _ _ _).trans (and_ext _ _ _ _))
theorem row_stays (n : Int) (mk : T → Gl → Int × Gl) (t : T) : ∀ k, (∀ i, i < k → Stays n (mk (kid t i)) ∧ ∀ gs, Ext gs (mk (kid t i) gs).2) → (∀ gs gs', Ext (makeRow mk t k gs).2 gs' → makeRow mk t k gs' = ((makeRow mk t k gs).1, gs')) ∧ ∀ gs, Ext gs (makeRow mk t k gs).2
  | 0, _ => ⟨fun gs gs' _ => rfl, fun gs => Ext.refl _⟩
  | k + 1, h => by
    obtain ⟨h1, h2⟩ := row_stays n mk t k (fun i hi => h i (by omega))
    obtain ⟨k1, k2⟩ := h k (by omega)
    refine ⟨fun gs gs' hx => ?_, fun gs => (h2 gs).trans (k2 _)⟩
    simp only [makeRow] at hx ⊢
    rw [h1 gs gs' ((k2 _).trans hx)]
    simp only
    rw [k1 _ gs' hx]
theorem make_stays (n : Int) : ∀ (d : Nat) (t : T), (d = 0 → ln t = 0) → OkT n d t → Stays n (makeT n d t) ∧ ∀ gs, Ext gs (makeT n d t gs).2 := by
  intro d
  induction d using Nat.strongRecOn with
  | _ d ih =>
    intro t hz hok
    have hh := hok.here
    by_cases h1 : kd t = 1
    · exact ⟨fun gs gs' _ => by rw [makeT_var n d t gs h1, makeT_var n d t gs' h1], fun gs => by rw [makeT_var n d t gs h1]; exact Ext.refl _⟩
    by_cases h2 : kd t = 2
    · exact ⟨fun gs gs' _ => by rw [makeT_const n d t gs h2, makeT_const n d t gs' h2], fun gs => by rw [makeT_const n d t gs h2]; exact Ext.refl _⟩
    have hd : 0 < d := by
      rcases Nat.eq_zero_or_pos d with e | e
      · have := hok.zero e
        unfold Here at hh
        omega
      · exact e
    obtain ⟨r1, r2⟩ := row_stays n (makeT n (d - 1)) t (ln t) (fun i hi => ih (d - 1) (by omega) (kid t i) (fun e => (hok.kid hi).zero e) (hok.kid hi))
    refine ⟨fun gs gs' hx => ?_, fun gs => ?_⟩
    · rw [makeT_op n d t gs h1 h2 hz] at hx ⊢
      rw [makeT_op n d t gs' h1 h2 hz]
      rw [r1 gs gs' ((op_ext _ _ _ _).trans hx)]
      simp only
      exact op_stays n _ _ _ gs' hx
    · rw [makeT_op n d t gs h1 h2 hz]
      exact (r2 gs).trans (op_ext _ _ _ _)
/-- How many gates there may be. -/
def fullN : Nat → Nat
  | 0 => 0
  | d + 1 => 1 + 3 * fullN d
theorem sum_const (m k : Nat) : sumTo (fun _ => m) k = k * m := by
  induction k with
  | zero => simp [sumTo]
  | succ k ih => rw [sumTo, ih, Nat.succ_mul]
theorem make_full {n : Int} (hn : 0 ≤ n) : ∀ (d : Nat) (t : T) (gs : Gl), OkT n d t → Fine n gs (3 * fullN d) (makeT n d t gs) := by
  intro d
  induction d using Nat.strongRecOn with
  | _ d ih =>
    intro t gs hok
    have hh := hok.here
    by_cases h1 : kd t = 1
    · rw [makeT_var n d t gs h1]
      unfold Here at hh
      exact ⟨⟨by simp only []; omega, by simp only []; omega⟩, Nat.le_refl _, by simp only []; omega⟩
    · by_cases h2 : kd t = 2
      · rw [makeT_const n d t gs h2]
        unfold Here at hh
        exact ⟨⟨by simp only []; omega, by simp only []; omega⟩, Nat.le_refl _, by simp only []; omega⟩
      · rw [makeT_op n d t gs h1 h2 (fun e => hok.zero e)]
        have hd : 0 < d := by
          rcases Nat.eq_zero_or_pos d with e | e
          · have := hok.zero e
            unfold Here at hh
            omega
          · exact e
        have hf : fullN d = 1 + 3 * fullN (d - 1) := by
          cases d with
          | zero => omega
          | succ d => rfl
        obtain ⟨r1, r2, r3⟩ := row_fine (n := n) (makeT n (d - 1)) t (fun _ => fullN (d - 1)) gs (ln t) (fun i hi gs' => ih (d - 1) (by omega) (kid t i) gs' (hok.kid hi))
        rw [sum_const] at r2
        have hk : 3 ≤ kd t ∧ kd t ≤ 7 ∧ ln t = (if kd t = 3 then 1 else if kd t = 7 then 3 else 2) := by
          unfold Here at hh
          rcases hh with hh | hh | hh | hh | hh
          · omega
          · omega
          · rw [if_pos hh.1]; omega
          · rw [if_neg (by omega), if_neg (by omega)]; omega
          · rw [if_neg (by omega), if_pos hh.1]; omega
        have hl3 : ln t ≤ 3 := by unfold Here at hh; omega
        have hm : ln t * fullN (d - 1) ≤ 3 * fullN (d - 1) := Nat.mul_le_mul_right _ hl3
        obtain ⟨o1, o2, o3⟩ := op_fine (n := n) (k := kd t) (gs := (makeRow (makeT n (d - 1)) t (ln t) gs).2) (ks := (makeRow (makeT n (d - 1)) t (ln t) gs).1) hn ⟨hk.1, hk.2.1⟩ (fun i hi => r3 i (by rw [hk.2.2]; exact hi))
        refine ⟨o1, by omega, ?_⟩
        omega
end Go.Proofs.Ytaileckcflnbdaa.buildEval
