/- ReadMath; HeldStore: one text, so that the claim has fewer files. -/
import Derived.Test.YtffacjebnbplaaaGreatDoorPart5
import Derived.Test.YtffacjebnbplaaaGreatDoorNetBytes
import Derived.Test.YtffacjebnbplaaaGreatDoorPart1
import Derived.StillTail
import Derived.Deep.RegionHeld3
/- The words of a network's text, and what they tell of their numbers and names; of no program; conditions: a right network. -/
namespace Go.Proofs.YtffacjebnbplaaaGreatDoor.readMath
open Go.RowKit Go.Deep base netSem netLines netBytes askWords askSem
set_option linter.unusedVariables false

/- Numbers. -/
def dg (k : Nat) : UInt8 := UInt8.ofNat (48 + k)
def dec4 (n : Nat) : List UInt8 := if n < 10 then [dg n] else if n < 100 then [dg (n / 10), dg (n % 10)] else if n < 1000 then [dg (n / 100), dg (n / 10 % 10), dg (n % 10)] else [dg (n / 1000), dg (n / 100 % 10), dg (n / 10 % 10), dg (n % 10)]
theorem dec4_eq {n : Nat} (h : n ≤ 1000) : Lib.decDigits n = dec4 n := by
  unfold dec4
  by_cases h1 : n < 10
  · rw [if_pos h1, dec_small h1]; rfl
  · rw [if_neg h1, dec_more h1]
    by_cases h2 : n < 100
    · rw [if_pos h2, dec_small (by omega)]; rfl
    · rw [if_neg h2, dec_more (by omega), Nat.div_div_eq_div_mul]
      by_cases h3 : n < 1000
      · rw [if_pos h3, dec_small (by omega)]; rfl
      · rw [if_neg h3, dec_more (by omega), Nat.div_div_eq_div_mul, dec_small (by omega)]; rfl
theorem itoa_eq {n : Nat} (h : n ≤ 1000) : Lib.itoa (n : Int) = dec4 n := by
  rw [← dec4_eq h]
  unfold Lib.itoa
  simp
def isNumL (l : List UInt8) : Bool := decide ((numbers.cutS (piece l)).size ≠ 0 ∧ (numbers.cutS (piece l)).size ≤ 18 ∧ ¬ (numbers.digS (numbers.cutS (piece l)) 0 = 48 ∧ l ≠ [48])) && numbers.allS (numbers.cutS (piece l)) (numbers.cutS (piece l)).size
theorem isNum_piece (l : List UInt8) : numbers.isNum (piece l) = isNumL l := by
  unfold numbers.isNum isNumL
  rw [numbers.toList_data]
  rfl
def fine (l : List UInt8) : Bool := !l.isEmpty && l.all fun b => b != 32 && b != 10
def numOk (n : Nat) : Bool := isNumL (dec4 n) && !numbers.negS (piece (dec4 n)) && decide (numbers.valS (numbers.cutS (piece (dec4 n))) (numbers.cutS (piece (dec4 n))).size = (n : Int)) && fine (dec4 n)
theorem num_all : ∀ n, n < 1001 → numOk n = true := by decide +kernel
theorem num_facts {n : Nat} (h : n ≤ 1000) : numbers.isNum (numW n) = true ∧ numbers.numS (numW n) = (n : Int) ∧ fine (Lib.itoa (n : Int)) = true := by
  have h1 := num_all n (by omega)
  simp only [numOk, Bool.and_eq_true, decide_eq_true_eq, Bool.not_eq_true'] at h1
  obtain ⟨⟨⟨a, b⟩, c⟩, d⟩ := h1
  have e : numW n = piece (dec4 n) := by unfold numW piece; rw [itoa_eq h]
  have e2 : numbers.isNum (numW n) = true := by rw [e, isNum_piece, a]
  refine ⟨e2, ?_, by rw [itoa_eq h]; exact d⟩
  unfold numbers.numS
  rw [if_pos e2, e, b]
  exact c

/- Words. -/
theorem fine_facts {l : List UInt8} (h : fine l = true) : l ≠ [] ∧ (∀ b ∈ l, b ≠ 32) ∧ (∀ b ∈ l, b ≠ 10) := by
  simp only [fine, Bool.and_eq_true, List.all_eq_true, bne_iff_ne, ne_eq, Bool.not_eq_true', List.isEmpty_eq_false_iff] at h
  exact ⟨h.1, fun b hb => (h.2 b hb).1, fun b hb => (h.2 b hb).2⟩
theorem join_cons (x y : Wd) (r : List Wd) : Lib.join (x :: y :: r) [32] = x ++ 32 :: Lib.join (y :: r) [32] := by
  simp [Lib.join, List.intercalate]
theorem join_one (x : Wd) : Lib.join [x] [32] = x := by simp [Lib.join, List.intercalate]
theorem words_join : ∀ ws : List Wd, (∀ x ∈ ws, fine x = true) → wordsL (Lib.join ws [32]) = ws
  | [], _ => rfl
  | [x], h => by
    obtain ⟨h1, h2, _⟩ := fine_facts (h x (by simp))
    rw [join_one]
    unfold wordsL kept
    rw [cutC_miss 32 x h2, List.filter_cons_of_pos (by cases x with | nil => exact absurd rfl h1 | cons _ _ => rfl)]
    rfl
  | x :: y :: r, h => by
    obtain ⟨h1, h2, _⟩ := fine_facts (h x (by simp))
    have ih := words_join (y :: r) (fun z hz => h z (by simp only [List.mem_cons] at hz ⊢; exact .inr hz))
    rw [join_cons]
    unfold wordsL kept at ih ⊢
    rw [cutC_hit 32 x _ h2, List.filter_cons_of_pos (by cases x with | nil => exact absurd rfl h1 | cons _ _ => rfl), ih]
theorem join_no : ∀ ws : List Wd, (∀ x ∈ ws, fine x = true) → ∀ b ∈ Lib.join ws [32], b ≠ 10
  | [], _, b, hb => by simp [Lib.join, List.intercalate] at hb
  | [x], h, b, hb => by rw [join_one] at hb; exact (fine_facts (h x (by simp))).2.2 b hb
  | x :: y :: r, h, b, hb => by
    rw [join_cons] at hb
    rcases List.mem_append.1 hb with hb | hb
    · exact (fine_facts (h x (by simp))).2.2 b hb
    · rcases List.mem_cons.1 hb with rfl | hb
      · decide
      · exact join_no (y :: r) (fun z hz => h z (by simp only [List.mem_cons] at hz ⊢; exact .inr hz)) b hb
theorem cut_lines : ∀ Ws : List (List Wd), (∀ ws ∈ Ws, ∀ x ∈ ws, fine x = true) → cutC 10 (Ws.flatMap lineB) = Ws.map (fun ws => Lib.join ws [32]) ++ [[]]
  | [], _ => rfl
  | ws :: Ws, h => by
    have e : (ws :: Ws).flatMap lineB = Lib.join ws [32] ++ 10 :: Ws.flatMap lineB := by simp [lineB]
    rw [e, cutC_hit 10 _ _ (join_no ws (h ws (by simp))), cut_lines Ws (fun y hy => h y (by simp [hy]))]
    rfl

/- The words of each line. -/
def kRouter : Wd := [114, 111, 117, 116, 101, 114]
def kLink : Wd := [108, 105, 110, 107]
def kCost : Wd := [99, 111, 115, 116]
def kOrigin : Wd := [111, 114, 105, 103, 105, 110]
def kExternal : Wd := [101, 120, 116, 101, 114, 110, 97, 108]
def kImport : Wd := [105, 109, 112, 111, 114, 116]
def kFrom : Wd := [102, 114, 111, 109]
def kFilter : Wd := [102, 105, 108, 116, 101, 114]
def kTo : Wd := [116, 111]
def kPort : Wd := [112, 111, 114, 116]
def rW (s : Ss) (i : Nat) : List Wd := [kRouter, nm s i]
def lkW (s : Ss) (g : R) (i : Nat) : List Wd := [kLink, nm s (g i 0), nm s (g i 1), kCost, Lib.itoa (g i 2)]
def oW (s : Ss) (z : List Int) (i : Nat) : List Wd := [kOrigin, nm s (zAt z i)]
def eW (s : Ss) (z : List Int) (i : Nat) : List Wd := [kExternal, nm s (zAt z i)]
def dW (h d n : Int) : List Wd := (deedW h.toNat d.toNat n.toNat).map (·.data.toList)
def iW (s : Ss) (x : R) (i : Nat) : List Wd := [kImport, nm s (x i 0), kFrom, nm s (x i 1)] ++ dW (x i 2) (x i 3) (x i 4)
def fW (s : Ss) (f : R) (i : Nat) : List Wd := [kFilter, nm s (f i 0), kTo, nm s (f i 1), kPort, Lib.itoa (f i 2), Lib.itoa (f i 3)]
def allW (l : Nat → Nat) (s : Ss) (g : R) (o e : List Int) (x f : R) : List (List Wd) :=
  (List.range (l 0)).map (rW s) ++ (List.range (l 1)).map (lkW s g) ++ (List.range (l 2)).map (oW s o) ++ (List.range (l 3)).map (eW s e) ++ (List.range (l 4)).map (iW s x) ++ (List.range (l 5)).map (fW s f)
theorem flatMap_same {α β : Type} {f g : α → List β} : ∀ {l : List α}, (∀ x ∈ l, f x = g x) → l.flatMap f = l.flatMap g
  | [], _ => rfl
  | x :: l, h => by rw [List.flatMap_cons, List.flatMap_cons, h x (by simp), flatMap_same (fun y hy => h y (by simp [hy]))]
theorem up_lines {W : Nat → List Wd} {L : Nat → List UInt8} {n : Nat} (h : ∀ i, i < n → lineB (W i) = L i) : ((List.range n).map W).flatMap lineB = upTo L n := by
  unfold upTo
  rw [List.flatMap_map]
  exact flatMap_same fun i hi => h i (List.mem_range.1 hi)
variable {l : Nat → Nat} {s : Ss} {g x f : R} {o e : List Int}
theorem all_text (h : netBytes.Good l s g o e x f) : (allW l s g o e x f).flatMap lineB = netL l s g o e x f := by
  unfold allW netL
  simp only [List.flatMap_append]
  rw [up_lines (L := routerL s) (fun i _ => by simp [lineB, Lib.join, List.intercalate, routerL, rW, kRouter]),
    up_lines (L := linkL s g) (fun i _ => by simp [lineB, Lib.join, List.intercalate, linkL, lkW, kLink, kCost]),
    up_lines (L := origL s o) (fun i _ => by simp [lineB, Lib.join, List.intercalate, origL, oW, kOrigin]),
    up_lines (L := extL s e) (fun i _ => by simp [lineB, Lib.join, List.intercalate, extL, eW, kExternal]),
    up_lines (L := impL s x) (fun i hi => by
      obtain ⟨a, b, hh, d, n, _, _, q1, q2, q3, _, e1, e2, e3, e4, e5⟩ := h.impo i hi
      rw [← imp_line q1 q2 q3 e1 e2 e3 e4 e5]
      unfold iW dW
      rw [e1, e2, e3, e4, e5, List.map_append]
      rfl),
    up_lines (L := filtL s f) (fun i _ => by simp [lineB, Lib.join, List.intercalate, filtL, fW, kFilter, kTo, kPort])]
theorem name_byte {n : Int} (h : names.letB n = true ∨ names.digB n = true) : n ≠ 32 ∧ n ≠ 10 := by
  rcases h with h | h
  · have := of_decide_eq_true h; omega
  · have := of_decide_eq_true h; omega
theorem allTo_at {p : Nat → Bool} : ∀ {n i : Nat}, names.allTo p n = true → i < n → p i = true
  | 0, i, _, hi => by omega
  | n + 1, i, h, hi => by
    by_cases e : p i = true
    · exact e
    · rw [names.allTo_false hi (by simpa using e)] at h; cases h
theorem name_fine {t : ByteArray} (h : names.nameB t = true) : fine t.data.toList = true := by
  simp only [names.nameB, Bool.and_eq_true, decide_eq_true_eq] at h
  obtain ⟨⟨h1, h2⟩, h3⟩ := h
  have hl : t.data.toList.length = t.size := by simp
  simp only [fine, Bool.and_eq_true, List.all_eq_true, bne_iff_ne, ne_eq, Bool.not_eq_true', List.isEmpty_eq_false_iff]
  refine ⟨fun e0 => by rw [e0] at hl; simp at hl; omega, fun b hb => ?_⟩
  obtain ⟨i, hi, e0⟩ := List.getElem_of_mem hb
  have hg := allTo_at h3 (i := i) (by omega)
  have hb' : names.byt t i = (b.toNat : Int) := by
    unfold names.byt
    rw [List.getD_eq_getElem?_getD, List.getElem?_eq_getElem hi, e0]; rfl
  unfold names.good at hg
  rw [hb'] at hg
  have := name_byte (n := (b.toNat : Int)) (by
    simp only [Bool.or_eq_true, Bool.and_eq_true] at hg
    rcases hg with hg | hg
    · exact .inl hg
    · exact .inr hg.2)
  exact ⟨fun e1 => by subst e1; exact this.1 rfl, fun e1 => by subst e1; exact this.2 rfl⟩
/-- A router's number by its name. -/
theorem name_at (h : routersB s (l 0) = true) {a : Nat} (ha : a < l 0) : names.nameB (s a) = true ∧ nameAt s (l 0) (s a) = a ∧ nameAt s a (s a) < 0 := by
  simp only [routersB, Bool.and_eq_true] at h
  have h1 := allN_iff.1 h.2 a ha
  simp only [routerB, Bool.and_eq_true, decide_eq_true_eq] at h1
  refine ⟨h1.1, ?_, h1.2⟩
  refine firstAt_hit ha (decide_eq_true rfl) fun i hi => ?_
  cases e0 : same s (s a) i with
  | false => rfl
  | true =>
    have := firstAt_spec.2 ⟨i, hi, e0⟩
    have h2 := h1.2
    unfold nameAt at h2
    omega
end Go.Proofs.YtffacjebnbplaaaGreatDoor.readMath

/- A region that draws its order, whose last operation waits for all others: what the others leave as it is may be read first, and only the last one need not leave it so; of no program; conditions: none. -/
namespace Go.Proofs.YtffacjebnbplaaaGreatDoor.heldStore
open Go

variable {P : Program} {ops : Array Oper} {Q : Exit → Act → World → Prop} {S : World → Prop} {n : Nat}

/-- Whatever comes up next: behind each operation but the last S holds. -/
def Goes (P : Program) (ops : Array Oper) (Q : Exit → Act → World → Prop) (S : World → Prop) (n : Nat) : Nat → Array Bool → Act → World → Prop
  | 0, listed, a, w => Region.ready .any ops listed = [] ∧ Q .normal a w
  | fuel + 1, listed, a, w => (Region.ready .any ops listed = [] → Q .normal a w) ∧
      ∀ i ∈ Region.ready .any ops listed, wpOp P ops Q i (fun a' w' => (i < n → S w') ∧ Goes P ops Q S n fuel (listed.setIfInBounds i true) a' w') a w

theorem Goes.any : ∀ (fuel : Nat) (listed : Array Bool) (a : Act) (w : World), Goes P ops Q S n fuel listed a w → wpAny P .any ops Q fuel listed a w
  | 0, _, _, _, h => h
  | fuel + 1, _, _, _, h => ⟨h.1, fun i hi => wpOp_mono (fun a' w' h' => Goes.any fuel _ a' w' h'.2) (h.2 i hi)⟩

theorem Goes.first {i : Nat} {oi : Oper} {v : Value} (hi : ops[i]? = some oi) (hsel : ∀ (j : Nat) (o : Oper) cs b, ops[j]? = some o → o.op ≠ .select cs b)
    (hs : Region.sinkB .any ops n = true) (hc : Region.chainB .any ops n = true) (hn : n < ops.size) (hin : i < n)
    (hQ : ∀ c a w, Q (.panic c) (a.put oi.dst v) w → Q (.panic c) a w) (fuel : Nat) : ∀ (listed : Array Bool) (a : Act) (w : World), HeadInv .any ops n listed →
      (∀ j oj, ops[j]? = some oj → j ≠ i → listed.getD j true = false → (∀ e ∈ oj.after, Region.binds .any e = true → e.on ≠ i) → oi.apart ops oj = true) →
      i ∈ Region.ready .any ops listed → YieldsIf P ops S oi v a → S w →
      Goes P ops Q S n fuel (listed.setIfInBounds i true) (a.put oi.dst v) w → Goes P ops Q S n (fuel + 1) listed a w := by
  induction fuel with
  | zero =>
    intro listed a w inv _ hr hy hS H
    refine ⟨fun h => absurd hr (by rw [h]; exact List.not_mem_nil), fun j hj => ?_⟩
    by_cases hji : j = i
    · subst hji
      exact hy.wpOp hi hS ⟨fun _ => hS, H⟩
    · have h1 := ready_mono hj hji
      rw [H.1] at h1
      cases h1
  | succ fuel ih =>
    intro listed a w inv hfree hr hy hS H
    have hun := (mem_ready.1 hr).1
    refine ⟨fun h => absurd hr (by rw [h]; exact List.not_mem_nil), fun j hj => ?_⟩
    by_cases hji : j = i
    · subst hji
      exact hy.wpOp hi hS ⟨fun _ => hS, H⟩
    · have hjn : j < n := by
        rcases Nat.lt_or_ge j n with h | h
        · exact h
        · exact absurd hj (tail_waits hs hc hn inv _ i rfl hin hun j h)
      obtain ⟨hjun, oj, hoj, hall⟩ := mem_ready.1 hj
      have hnot : ∀ e ∈ oj.after, Region.binds .any e = true → e.on ≠ i := fun e he hb heq => by
        have h1 := hall e he hb
        rw [heq, getD_both hun] at h1
        cases h1
      have hfree' : ∀ k ok, ops[k]? = some ok → k ≠ i → (listed.setIfInBounds j true).getD k true = false → (∀ e ∈ ok.after, Region.binds .any e = true → e.on ≠ i) → oi.apart ops ok = true := fun k ok hk hki hu hno => by
        refine hfree k ok hk hki ?_ hno
        by_cases hjk : j = k
        · rw [← hjk]; exact hjun
        · rw [getD_set_ne true hjk] at hu; exact hu
      have h1 := wpOp_putIf hoj (hfree j oj hoj hji hjun hnot) (fun cs b => hsel i oi cs b hi) (fun cs b => hsel j oj cs b hoj) hQ hy (H.2 j (ready_mono hj hji))
      refine wpOp_mono (fun a' w' h3 => ⟨fun _ => h3.2.1 hjn, ih _ a' w' (inv.set hj hjn) hfree' (ready_mono hr (Ne.symm hji)) h3.1 (h3.2.1 hjn) ?_⟩) h1
      rw [Array.setIfInBounds_comm _ _ hji]
      exact h3.2.2

/-- The facts of a region that a run of the kernel shows. -/
structure LastOf (ops : Array Oper) (n : Nat) : Prop where
  sel : Region.noSelect ops = true
  sink : Region.sinkB .any ops n = true
  chain : Region.chainB .any ops n = true
  lt : n < ops.size

/-- Operation number i is read first. -/
theorem Goes.take {i : Nat} {oi : Oper} {v : Value} {fuel : Nat} {listed : Array Bool} {a : Act} {w : World} (d : Option Tmp) (hE : LastOf ops n) (hi : ops[i]? = some oi) (hd : oi.dst = d) (inv : HeadInv .any ops n listed)
    (hf : Region.free .any ops listed i = true) (hr : (Region.ready .any ops listed).contains i = true) (hin : i < n)
    (hQ : ∀ c a w, Q (.panic c) (a.put d v) w → Q (.panic c) a w) (hy : YieldsIf P ops S oi v a) (hS : S w)
    (h : HeadInv .any ops n (listed.setIfInBounds i true) → Goes P ops Q S n fuel (listed.setIfInBounds i true) (a.put d v) w) : Goes P ops Q S n (fuel + 1) listed a w := by
  subst hd
  have hr' : i ∈ Region.ready .any ops listed := by simpa using hr
  exact Goes.first hi (Region.noSelect_spec hE.sel) hE.sink hE.chain hE.lt hin hQ fuel listed a w inv (Region.free_spec hi hf) hr' hy hS (h (inv.set hr' hin))
/-- One operation may come up. -/
theorem Goes.one {i : Nat} {o : Oper} {fuel : Nat} {listed : Array Bool} {a : Act} {w : World} (inv : HeadInv .any ops n listed) (hr : Region.ready .any ops listed = [i]) (hin : i < n) (ho : ops[i]? = some o)
    (h : HeadInv .any ops n (listed.setIfInBounds i true) → ∀ K' : Act → World → Prop, Shut (∀ a w, S w → (S w → Goes P ops Q S n fuel (listed.setIfInBounds i true) a w) → K' a w) → if Region.wanted o (yielded ops a.tmps) = true then Oper.wp P o a w K' Q else K' (a.put o.dst undef) w) :
    Goes P ops Q S n (fuel + 1) listed a w :=
  ⟨fun h0 => (by rw [hr] at h0; cases h0), fun j hj => by
    have hj' := hj
    rw [hr] at hj
    have e : j = i := by simpa using hj
    subst e
    exact wpOp_step ho fun K' hK => h (inv.set hj' hin) K' fun a w hS hW => hK a w ⟨fun _ => hS, hW hS⟩⟩
/-- Two may. -/
theorem Goes.two {i j : Nat} {o p : Oper} {fuel : Nat} {listed : Array Bool} {a : Act} {w : World} (inv : HeadInv .any ops n listed) (hr : Region.ready .any ops listed = [i, j]) (hin : i < n) (hjn : j < n) (ho : ops[i]? = some o) (hp : ops[j]? = some p)
    (h : HeadInv .any ops n (listed.setIfInBounds i true) → ∀ K' : Act → World → Prop, Shut (∀ a w, S w → (S w → Goes P ops Q S n fuel (listed.setIfInBounds i true) a w) → K' a w) → if Region.wanted o (yielded ops a.tmps) = true then Oper.wp P o a w K' Q else K' (a.put o.dst undef) w)
    (h' : HeadInv .any ops n (listed.setIfInBounds j true) → ∀ K' : Act → World → Prop, Shut (∀ a w, S w → (S w → Goes P ops Q S n fuel (listed.setIfInBounds j true) a w) → K' a w) → if Region.wanted p (yielded ops a.tmps) = true then Oper.wp P p a w K' Q else K' (a.put p.dst undef) w) :
    Goes P ops Q S n (fuel + 1) listed a w :=
  ⟨fun h0 => (by rw [hr] at h0; cases h0), fun k hk => by
    have hk' := hk
    rw [hr] at hk
    rcases List.mem_cons.1 hk with e | e
    · subst e
      exact wpOp_step ho fun K' hK => h (inv.set hk' hin) K' fun a w hS hW => hK a w ⟨fun _ => hS, hW hS⟩
    · have e : k = j := by simpa using e
      subst e
      exact wpOp_step hp fun K' hK => h' (inv.set hk' hjn) K' fun a w hS hW => hK a w ⟨fun _ => hS, hW hS⟩⟩
/-- The last one. -/
theorem Goes.last {o : Oper} {listed : Array Bool} {a : Act} {w : World} (hr : Region.ready .any ops listed = [n]) (hd : Region.ready .any ops (listed.setIfInBounds n true) = []) (ho : ops[n]? = some o)
    (h : ∀ K' : Act → World → Prop, Shut (∀ a w, Q .normal a w → K' a w) → if Region.wanted o (yielded ops a.tmps) = true then Oper.wp P o a w K' Q else K' (a.put o.dst undef) w) :
    Goes P ops Q S n 1 listed a w :=
  ⟨fun h0 => (by rw [hr] at h0; cases h0), fun j hj => by
    rw [hr] at hj
    have e : j = n := by simpa using hj
    subst e
    exact wpOp_step ho fun K' hK => h K' fun a w hq => hK a w ⟨fun hlt => absurd hlt (Nat.lt_irrefl _), hd, hq⟩⟩
/-- The region's beginning. -/
theorem region_goes {id : Nat} {a : Act} {w : World} (n m : Nat) (S : World → Prop) (hm : P.follows .mixedOrders = true) (hz : ops.size = m) (hE : LastOf ops n) (hS : S w.drew)
    (h : LastOf ops n → HeadInv .any ops n (Array.replicate m false) → S w.drew → Goes P ops Q S n m (Array.replicate m false) a w.drew) : (Code.region id ops true).wp P Q a w := by
  subst hz
  exact wp_region_any hm (Goes.any _ _ _ _ (h hE ⟨by simp, fun j oj _ hl => (by rw [getD_replicate_false] at hl; cases hl), fun t _ ht => getD_in (by simpa using ht) (getD_replicate_false _ _)⟩ hS))
end Go.Proofs.YtffacjebnbplaaaGreatDoor.heldStore
