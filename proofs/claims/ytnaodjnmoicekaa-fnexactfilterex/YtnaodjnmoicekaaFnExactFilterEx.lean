/- For every network and two numbers FilterEx answers as its specification (the expression and the code); the network is as it was, and the answer owns its memory; conditions: none. -/
import Derived.Test.YtnaodjnmoicekaaFexFace
import Derived.Test.YtnaodjnmoicekaaNetMarks
import Derived.Test.YtnaodjnmoicekaaNetArgs
import Derived.Test.YtnaodjnmoicekaaTreeMark
import Derived.Test.YtnaodjnmoicekaaTreeEq
namespace Go.Proofs.Ytnaodjnmoicekaa.fnExactFilterEx
open Go.ChangeShapes Go.WideShapes Go.ChangeAt Go.RowKit Go.Deep Go.Joins Go base copy names netSem netCopy netWhole netOKImpl netOKSpec netArgs args intsOwn netMark trees built ownTree ownEx ownExE rowsImpl treeOwn treeMark treeEq fexSem fexImpl fexSpec fexFace
set_option linter.unusedVariables false

theorem nil_ns {N : Nat → Nat} {a b g : Nat} (hu : N 0 < N 1 ∧ N 1 < N 2 ∧ N 2 < N 3 ∧ N 3 < N 4 ∧ N 4 < N 5) (h : g < N 0 ∨ N 5 < g) : ¬ Ns N g := by
  rintro ⟨i, hi, rfl⟩
  match i, hi with
  | 0, _ => omega
  | 1, _ => omega
  | 2, _ => omega
  | 3, _ => omega
  | 4, _ => omega
  | 5, _ => omega
  | i + 6, hi => omega
theorem ns_low {N : Nat → Nat} {M g : Nat} (hu : N 0 < N 1 ∧ N 1 < N 2 ∧ N 2 < N 3 ∧ N 3 < N 4 ∧ N 4 < N 5) (h : M ≤ N 0) (hg : Ns N g) : M ≤ g := by
  obtain ⟨i, hi, rfl⟩ := hg
  match i, hi with
  | 0, _ => omega
  | 1, _ => omega
  | 2, _ => omega
  | 3, _ => omega
  | 4, _ => omega
  | 5, _ => omega
  | i + 6, hi => omega

theorem ans_small (ok : Bool) (F : Nat) (t : T) (hz : F = 0 → ln t = 0) (h : ok = okB F t 1 0) : rowN F (ansT ok t) ≤ 400 := by
  cases ok with
  | false => exact Nat.zero_le _
  | true =>
    have h1 := (okB_iff.1 h.symm).1
    have h2 := size_rowN hz
    show rowN F t ≤ 400
    omega
theorem zT_row (F : Nat) : rowN F zT ≤ 400 := Nat.zero_le _

set_option maxHeartbeats 400000 in
theorem markE (F : Nat) (k n : Int) (t : T) (a : Option Addr) (l c : Nat) (S : Nat → Prop) (w : World) (ho : Ow w F t a l S) (hS : ∀ b, S b → b < w.heap.size) (hm : rowN F t ≤ 400) :
    Calls Try.prog 12 #[.agg #[.int .i64 k, .int .i64 n, .slice a l c], .int .i64 1] w fun e w' => e = .returned (.int .i64 (1 + 2 * (rowN F t : Int))) ∧ Ow w' F (markT F 1 t) a l S ∧ ∃ w1, Below w.heap.size w w1 ∧ Fr S w1 w' := by
  have HO := hid ho
  clear ho
  go_enter Try.func12, Try.ntmps12
  go_wp2_with fail
  refine (markS F t a l c 1 S _ (HO.out.below (by repeat (first | exact Below.refl _ _ | assumption | refine Below.drew ?_ | refine Below.alloc ?_ (by first | exact Nat.le_refl _ | omega | (simp; done) | (simp; omega)) _ | refine Below.setCell ?_ (by first | exact Nat.le_refl _ | omega | (simp; done) | (simp; omega)) _))) (by omega) (by omega)).mono ?_
  rintro e w1 ⟨rfl, ho1, hf1⟩
  have HO1 := hid ho1
  have HF1 := hid hf1
  clear ho1 hf1
  have HB1 : Hid (Below w.heap.size w (w.alloc (.cells #[.int .i64 k, .int .i64 n, .slice a l c] 32))) := (by repeat (first | exact Below.refl _ _ | assumption | refine Below.drew ?_ | refine Below.alloc ?_ (by first | exact Nat.le_refl _ | omega | (simp; done) | (simp; omega)) _ | refine Below.setCell ?_ (by first | exact Nat.le_refl _ | omega | (simp; done) | (simp; omega)) _))
  go_wp2
  go_ret
  exact ⟨rfl, HO1.out, _, HB1.out, HF1.out⟩
set_option maxHeartbeats 400000 in
theorem heldE (F : Nat) (k n : Int) (t : T) (a : Option Addr) (l c : Nat) (w : World) (hr : Rd (fun _ => True) 1048576 w F (markT F 1 t) a l) (hm : rowN F t ≤ 400) :
    Calls Try.prog 13 #[.agg #[.int .i64 k, .int .i64 n, .slice a l c], .int .i64 1] w fun e w' => e = .returned (.int .i64 (1 + 2 * (rowN F t : Int))) ∧ Below w.heap.size w w' := by
  have HR := hid hr
  clear hr
  obtain ⟨m, hmm⟩ : ∃ m, 1 + 2 * (rowN F t : Int) = m := ⟨_, rfl⟩
  have hp : 0 ≤ m := by omega
  rw [hmm]
  have HM := hid hmm
  clear hmm
  go_enter Try.func13, Try.ntmps13
  go_wp2_with fail
  refine (heldS F t a l c 1 _ (HR.out.below (by repeat (first | exact Below.refl _ _ | assumption | refine Below.drew ?_ | refine Below.alloc ?_ (by first | exact Nat.le_refl _ | omega | (simp; done) | (simp; omega)) _ | refine Below.setCell ?_ (by first | exact Nat.le_refl _ | omega | (simp; done) | (simp; omega)) _))) (by omega) (by omega)).mono ?_
  rintro e w1 ⟨rfl, hb1⟩
  have HB1 := hid ((show Below w.heap.size w _ from (by repeat (first | exact Below.refl _ _ | assumption | refine Below.drew ?_ | refine Below.alloc ?_ (by first | exact Nat.le_refl _ | omega | (simp; done) | (simp; omega)) _ | refine Below.setCell ?_ (by first | exact Nat.le_refl _ | omega | (simp; done) | (simp; omega)) _))).trans (hb1.mono (by simp)))
  clear hb1
  rw [HM.out]
  go_wp2
  go_ret
  exact ⟨rfl, HB1.out⟩

/-- The law's own variables: what the specification answered, and what the program did. -/
def Vr (w : World) (Y G : Nat) (t : T) (a0 a1 : Option Addr) (c0 c1 : Nat) : Prop := (w.cell? ⟨Y, 0, none⟩ = some (.int .i64 (kd t)) ∧ w.cell? ⟨Y, 1, none⟩ = some (.int .i64 (nn t)) ∧ w.cell? ⟨Y, 2, none⟩ = some (.slice a0 (ln t) c0)) ∧
    (w.cell? ⟨G, 0, none⟩ = some (.int .i64 (kd t)) ∧ w.cell? ⟨G, 1, none⟩ = some (.int .i64 (nn t)) ∧ w.cell? ⟨G, 2, none⟩ = some (.slice a1 (ln t) c1))
theorem Vr.below {w w' : World} {Y G : Nat} {t : T} {a0 a1 : Option Addr} {c0 c1 : Nat} (h : Vr w Y G t a0 a1 c0 c1) (hb : Below w.heap.size w w') : Vr w' Y G t a0 a1 c0 c1 :=
  ⟨⟨keep hb h.1.1, keep hb h.1.2.1, keep hb h.1.2.2⟩, ⟨keep hb h.2.1, keep hb h.2.2.1, keep hb h.2.2.2⟩⟩
theorem Vr.fr {S : Nat → Prop} {w w' : World} {Y G : Nat} {t : T} {a0 a1 : Option Addr} {c0 c1 : Nat} (h : Vr w Y G t a0 a1 c0 c1) (hf : Fr S w w') (h1 : ¬ S Y) (h2 : ¬ S G) : Vr w' Y G t a0 a1 c0 c1 :=
  ⟨⟨(hf.cell h1).trans h.1.1, (hf.cell h1).trans h.1.2.1, (hf.cell h1).trans h.1.2.2⟩, ⟨(hf.cell h2).trans h.2.1, (hf.cell h2).trans h.2.2.1, (hf.cell h2).trans h.2.2.2⟩⟩
theorem rd_fr {q S : Nat → Prop} {M D : Nat} {w w' : World} {t : T} {a : Option Addr} {l : Nat} (h : Rd q M w D t a l) (hf : Fr S w w') (hq : ∀ b, q b → ¬ S b) : Rd q M w' D t a l :=
  h.kept fun b o v hb hc => ⟨(hf.cell (hq b hb)).trans hc, hb⟩
theorem ow_fr {S S' : Nat → Prop} {D : Nat} {w w' : World} {t : T} {a : Option Addr} {l : Nat} (h : Ow w D t a l S') (hf : Fr S w w') (hq : ∀ b, S' b → ¬ S b) : Ow w' D t a l S' :=
  h.kept fun b hb _ => hf.block b (hq b hb)

theorem cell_of_block {w w' : World} {b o : Nat} (h : w'.heap[b]? = w.heap[b]?) : w'.cell? ⟨b, o, none⟩ = w.cell? ⟨b, o, none⟩ := by simp [World.cell?, h]
theorem Vr.blocks {w w' : World} {Y G : Nat} {t : T} {a0 a1 : Option Addr} {c0 c1 : Nat} (h : Vr w Y G t a0 a1 c0 c1) (hY : w'.heap[Y]? = w.heap[Y]?) (hG : w'.heap[G]? = w.heap[G]?) : Vr w' Y G t a0 a1 c0 c1 :=
  ⟨⟨(cell_of_block hY).trans h.1.1, (cell_of_block hY).trans h.1.2.1, (cell_of_block hY).trans h.1.2.2⟩, (cell_of_block hG).trans h.2.1, (cell_of_block hG).trans h.2.2.1, (cell_of_block hG).trans h.2.2.2⟩
set_option maxHeartbeats 12800000 in
set_option maxRecDepth 8000 in
theorem walk (p : Nat → Option Addr) (l c : Nat → Nat) (s : Ss) (g : R) (o e : List Int) (x f : R) (a b : Int) (w : World) (h : NetIs w p l s g o e x f) :
    Calls Try.prog 3 #[netV p l c, .int .i64 a, .int .i64 b] w fun e' w' => e' = .returned (.bool true) ∧ Below w.heap.size w w' := by
  have HN := hid h
  have HM : Hid (∀ i, i < 6 → l i ≤ maxLen) := fun i hi => by
    match i, hi with
    | 0, _ => exact h.routers.most
    | 1, _ => exact h.links.most
    | 2, _ => exact h.origins.most
    | 3, _ => exact h.externals.most
    | 4, _ => exact h.imports.most
    | 5, _ => exact h.filters.most
    | i + 6, hi => exact absurd hi (by omega)
  have HS := hid h.routers.size
  have HO := hid h.origins.length
  have HE := hid h.externals.length
  clear h
  have C1 : ∀ w8 : World, Below ((w.alloc (.cells #[.slice (p 0) (l 0) (c 0), .slice (p 1) (l 1) (c 1), .slice (p 2) (l 2) (c 2), .slice (p 3) (l 3) (c 3), .slice (p 4) (l 4) (c 4), .slice (p 5) (l 5) (c 5)] 28))).heap.size (w.alloc (.cells #[.slice (p 0) (l 0) (c 0), .slice (p 1) (l 1) (c 1), .slice (p 2) (l 2) (c 2), .slice (p 3) (l 3) (c 3), .slice (p 4) (l 4) (c 4), .slice (p 5) (l 5) (c 5)] 28)) w8 → (w8.cell? ⟨w.heap.size, 0, none⟩ = some (.slice (p 0) (l 0) (c 0)) ∧ w8.cell? ⟨w.heap.size, 1, none⟩ = some (.slice (p 1) (l 1) (c 1)) ∧ w8.cell? ⟨w.heap.size, 2, none⟩ = some (.slice (p 2) (l 2) (c 2)) ∧ w8.cell? ⟨w.heap.size, 3, none⟩ = some (.slice (p 3) (l 3) (c 3)) ∧ w8.cell? ⟨w.heap.size, 4, none⟩ = some (.slice (p 4) (l 4) (c 4)) ∧ w8.cell? ⟨w.heap.size, 5, none⟩ = some (.slice (p 5) (l 5) (c 5))) ∧ NetIs w8 p l s g o e x f ∧ Below w.heap.size w w8 ∧ w.heap.size < w8.heap.size :=
    fun w8 hb => ⟨⟨keep hb (by simp [go_sem]), keep hb (by simp [go_sem]), keep hb (by simp [go_sem]), keep hb (by simp [go_sem]), keep hb (by simp [go_sem]), keep hb (by simp [go_sem])⟩, (HN.out.below (by repeat (first | exact Below.refl _ _ | assumption | refine Below.drew ?_ | refine Below.alloc ?_ (by first | exact Nat.le_refl _ | omega | (simp; done) | (simp; omega)) _ | refine Below.setCell ?_ (by first | exact Nat.le_refl _ | omega | (simp; done) | (simp; omega)) _))).below hb, (show Below w.heap.size w _ from (by repeat (first | exact Below.refl _ _ | assumption | refine Below.drew ?_ | refine Below.alloc ?_ (by first | exact Nat.le_refl _ | omega | (simp; done) | (simp; omega)) _ | refine Below.setCell ?_ (by first | exact Nat.le_refl _ | omega | (simp; done) | (simp; omega)) _))).trans (hb.mono (by simp)), Nat.lt_of_lt_of_le (by simp) hb.size⟩
  have HC1 := hid C1
  clear C1
  obtain ⟨t, ht⟩ : ∃ t, fxA (netB l s g o e x f) (inB a 0 (l 0 - 1) && inB b 0 (l 0 - 1)) (19 + l 5) (fexT f a b (l 5)) = t := ⟨_, rfl⟩
  obtain ⟨C, hC⟩ : ∃ C, fxC (netB l s g o e x f) (inB a 0 (l 0 - 1) && inB b 0 (l 0 - 1)) (19 + l 5) (fexT f a b (l 5)) = C := ⟨_, rfl⟩
  have hm : rowN (19 + l 5) t ≤ 400 := by
    rw [← ht]
    unfold fxA
    split
    · split
      · exact ans_small _ _ _ (fun e => by omega) rfl
      · exact zT_row _
    · exact zT_row _
  have ET := hid ht
  have EC := hid hC
  obtain ⟨F, hF⟩ : ∃ F, 19 + l 5 = F := ⟨_, rfl⟩
  have EF := hid hF
  rw [hF] at hm
  have HMm := hid hm
  have dc : (C != C) = false := by simp
  clear ht hC hF hm
  unfold netV
  go_enter Try.func3, Try.ntmps3
  go_wp2_with fail
  refine (szNet p l c s g o e x f 1048576 _ (HN.out.below (by repeat (first | exact Below.refl _ _ | assumption | refine Below.drew ?_ | refine Below.alloc ?_ (by first | exact Nat.le_refl _ | omega | (simp; done) | (simp; omega)) _ | refine Below.setCell ?_ (by first | exact Nat.le_refl _ | omega | (simp; done) | (simp; omega)) _))) (by omega) (by omega)).mono ?_
  rintro e' w1 ⟨r, rfl, hb, hr1, hr2, hr3⟩
  have H3 := hid hr3
  have HB := hid hb
  obtain ⟨⟨q0, q1, q2, q3, q4, q5⟩, hn, hB, hz⟩ := HC1.out w1 hb
  have NW := hid hn
  clear hr3 hn
  by_cases hneg : r < 0
  · clear hb
    go_wp2
    go_ret
    exact ⟨rfl, hB⟩
  have HL := hid (H3.out (by omega))
  clear hb hB

  go_wp2_with fail
  refine (toNet p l c s g o e x f _ NW.out HL.out).mono ?_
  rintro e' w2 ⟨Na, rfl, hb, hc⟩
  have HB := hid (HB.out.trans (hb.mono HB.out.size))
  clear q0 q1 q2 q3 q4 q5 hz NW
  obtain ⟨⟨q0, q1, q2, q3, q4, q5⟩, hn, -, hz⟩ := HC1.out w2 HB.out
  have NW := hid hn
  clear hn
  have CA := hid (hc.net HM.out HS.out HO.out HE.out)
  clear hc hb
  unfold netV
  go_wp2_with fail
  refine (fex_spec (fun i => some ⟨Na i, 0, none⟩) l l s g o e x f a b _ CA.out (Nat.le_refl _) (Nat.le_refl _)).mono ?_
  rintro e' w3 ⟨a0, l0, c0, rfl, hb, hr⟩
  rw [ET.out, EC.out]
  rw [ET.out, EF.out] at hr
  obtain rfl := hr.len
  have HB := hid (HB.out.trans (hb.mono HB.out.size))
  clear q0 q1 q2 q3 q4 q5 hz NW
  obtain ⟨⟨q0, q1, q2, q3, q4, q5⟩, hn, -, hz⟩ := HC1.out w3 HB.out
  have NW := hid hn
  clear hn
  have T := hid (rd_old hr)
  clear hr hb CA
  have HB3s := hid HB.out.size
  go_wp2_with fail
  have HA3 : Hid (Below w3.heap.size w3 (w3.alloc (.cells #[.int .i64 (kd t), .int .i64 (nn t), .slice a0 (ln t) c0] 32))) := (by repeat (first | exact Below.refl _ _ | assumption | refine Below.drew ?_ | refine Below.alloc ?_ (by first | exact Nat.le_refl _ | omega | (simp; done) | (simp; omega)) _ | refine Below.setCell ?_ (by first | exact Nat.le_refl _ | omega | (simp; done) | (simp; omega)) _))
  have v0 := cell_new w3 #[.int .i64 (kd t), .int .i64 (nn t), .slice a0 (ln t) c0] 32 (i := 0) rfl
  have v1 := cell_new w3 #[.int .i64 (kd t), .int .i64 (nn t), .slice a0 (ln t) c0] 32 (i := 1) rfl
  have v2 := cell_new w3 #[.int .i64 (kd t), .int .i64 (nn t), .slice a0 (ln t) c0] 32 (i := 2) rfl
  refine (toNet p l c s g o e x f _ (NW.out.below HA3.out) HL.out).mono ?_
  rintro e' w5 ⟨Nb, rfl, hb5, hc⟩
  have hb : Below w3.heap.size w3 w5 := HA3.out.trans (hb5.mono (by simp))
  have CY : Hid (w5.cell? ⟨w3.heap.size, 0, none⟩ = some (.int .i64 (kd t)) ∧ w5.cell? ⟨w3.heap.size, 1, none⟩ = some (.int .i64 (nn t)) ∧ w5.cell? ⟨w3.heap.size, 2, none⟩ = some (.slice a0 (ln t) c0)) := ⟨keep hb5 v0, keep hb5 v1, keep hb5 v2⟩
  have T : Hid (Rd (fun q => q < w3.heap.size) 1048576 w5 F t a0 (ln t)) := (T.out.imp fun q hq => hq.2).below hb
  have HB := hid (HB.out.trans (hb.mono HB.out.size))
  clear q0 q1 q2 q3 q4 q5 hz NW
  obtain ⟨⟨q0, q1, q2, q3, q4, q5⟩, hn, -, hz⟩ := HC1.out w5 HB.out
  have NW := hid hn
  clear hn
  have CB := hid hc
  have NL := hid (And.intro (show w3.heap.size < Nb 0 by have := hc.low; simp at this; omega) (And.intro hc.up hc.lt))
  clear hc hb hb5 HA3 v0 v1 v2
  unfold netV
  go_wp2_with fail
  have HA5 : Hid (Below w5.heap.size w5 (w5.alloc (.cells #[.slice (some ⟨Nb 0, 0, none⟩) (l 0) (l 0), .slice (some ⟨Nb 1, 0, none⟩) (l 1) (l 1), .slice (some ⟨Nb 2, 0, none⟩) (l 2) (l 2), .slice (some ⟨Nb 3, 0, none⟩) (l 3) (l 3), .slice (some ⟨Nb 4, 0, none⟩) (l 4) (l 4), .slice (some ⟨Nb 5, 0, none⟩) (l 5) (l 5)] 39))) := (by repeat (first | exact Below.refl _ _ | assumption | refine Below.drew ?_ | refine Below.alloc ?_ (by first | exact Nat.le_refl _ | omega | (simp; done) | (simp; omega)) _ | refine Below.setCell ?_ (by first | exact Nat.le_refl _ | omega | (simp; done) | (simp; omega)) _))
  refine (fex_impl (fun i => some ⟨Nb i, 0, none⟩) l l s g o e x f a b _ ((CB.out.net HM.out HS.out HO.out HE.out).below HA5.out) (Nat.le_refl _) (Nat.le_refl _)).mono ?_
  rintro e' w6 ⟨a1, l1, c1, rfl, hb6, ho⟩
  rw [ET.out, EC.out]
  rw [ET.out, EF.out] at ho
  obtain rfl := ho.len
  have hb : Below w5.heap.size w5 w6 := HA5.out.trans (hb6.mono (by simp))
  have XC : Hid (∀ w9 : World, (∀ o v, w6.cell? ⟨w5.heap.size, o, none⟩ = some v → w9.cell? ⟨w5.heap.size, o, none⟩ = some v) → (w9.cell? ⟨w5.heap.size, 0, none⟩ = some (.slice (some ⟨Nb 0, 0, none⟩) (l 0) (l 0)) ∧ w9.cell? ⟨w5.heap.size, 1, none⟩ = some (.slice (some ⟨Nb 1, 0, none⟩) (l 1) (l 1)) ∧ w9.cell? ⟨w5.heap.size, 2, none⟩ = some (.slice (some ⟨Nb 2, 0, none⟩) (l 2) (l 2)) ∧ w9.cell? ⟨w5.heap.size, 3, none⟩ = some (.slice (some ⟨Nb 3, 0, none⟩) (l 3) (l 3)) ∧ w9.cell? ⟨w5.heap.size, 4, none⟩ = some (.slice (some ⟨Nb 4, 0, none⟩) (l 4) (l 4)) ∧ w9.cell? ⟨w5.heap.size, 5, none⟩ = some (.slice (some ⟨Nb 5, 0, none⟩) (l 5) (l 5)))) :=
    fun w9 hk => ⟨hk _ _ (keep hb6 (by simp [go_sem])), hk _ _ (keep hb6 (by simp [go_sem])), hk _ _ (keep hb6 (by simp [go_sem])), hk _ _ (keep hb6 (by simp [go_sem])), hk _ _ (keep hb6 (by simp [go_sem])), hk _ _ (keep hb6 (by simp [go_sem]))⟩
  have O : Hid (Ow w6 F t a1 (ln t) (fun q => w5.heap.size < q ∧ q < w6.heap.size)) := ho.sub fun q hq => ⟨by have := hq.1; simp at this; omega, hq.2⟩
  have Z : Hid (w5.heap.size < w6.heap.size) := Nat.lt_of_lt_of_le (by simp) hb6.size
  have HB := hid (HB.out.trans (hb.mono HB.out.size))
  have T := hid (T.out.below hb)
  have CY := hid (And.intro (keep hb CY.out.1) (And.intro (keep hb CY.out.2.1) (keep hb CY.out.2.2)))
  have CB := hid (CB.out.below hb)
  clear q0 q1 q2 q3 q4 q5 hz NW
  obtain ⟨⟨q0, q1, q2, q3, q4, q5⟩, hn, -, hz⟩ := HC1.out w6 HB.out
  have NW := hid hn
  clear hn
  have XK : Hid (∀ o v, w6.cell? ⟨w5.heap.size, o, none⟩ = some v → w6.cell? ⟨w5.heap.size, o, none⟩ = some v) := fun _ _ h => h
  clear hb6 hb ho HA5
  have hzY : w3.heap.size < w6.heap.size := World.block_lt_of_cell? _ _ CY.out.1
  obtain ⟨y0, y1, y2⟩ := CY.out
  go_wp2_with fail
  have hb : Below w6.heap.size w6 (w6.alloc (.cells #[.int .i64 (kd t), .int .i64 (nn t), .slice a1 (ln t) c1] 32)) := (by repeat (first | exact Below.refl _ _ | assumption | refine Below.drew ?_ | refine Below.alloc ?_ (by first | exact Nat.le_refl _ | omega | (simp; done) | (simp; omega)) _ | refine Below.setCell ?_ (by first | exact Nat.le_refl _ | omega | (simp; done) | (simp; omega)) _))
  have R : Hid (Vr (w6.alloc (.cells #[.int .i64 (kd t), .int .i64 (nn t), .slice a1 (ln t) c1] 32)) w3.heap.size w6.heap.size t a0 a1 c0 c1) := ⟨⟨keep hb y0, keep hb y1, keep hb y2⟩, cell_new _ _ _ rfl, cell_new _ _ _ rfl, cell_new _ _ _ rfl⟩
  have Z : Hid (w5.heap.size < w6.heap.size ∧ w6.heap.size < (w6.alloc (.cells #[.int .i64 (kd t), .int .i64 (nn t), .slice a1 (ln t) c1] 32)).heap.size) := ⟨Z.out, by simp⟩
  generalize (w6.alloc (.cells #[.int .i64 (kd t), .int .i64 (nn t), .slice a1 (ln t) c1] 32)) = w7 at *
  have HB := hid (HB.out.trans (hb.mono HB.out.size))
  have T := hid (T.out.below hb)
  have CY := hid (And.intro (keep hb CY.out.1) (And.intro (keep hb CY.out.2.1) (keep hb CY.out.2.2)))
  have CB := hid (CB.out.below hb)
  have XK := hid (fun o v (h : w6.cell? ⟨w5.heap.size, o, none⟩ = some v) => keep hb (XK.out o v h))
  have O := hid (O.out.below hb)
  clear q0 q1 q2 q3 q4 q5 hz NW
  obtain ⟨⟨q0, q1, q2, q3, q4, q5⟩, hn, -, hz⟩ := HC1.out w7 HB.out
  have NW := hid hn
  clear hn
  clear hb y0 y1 y2 CY hzY
  refine (eqE_of F (eqS F) _ _ t a1 a0 (ln t) c1 c0 _ ((O.out.rd.imp fun _ _ => trivial).wide (by unfold maxLen; omega)) ((T.out.imp fun _ _ => trivial).wide (by unfold maxLen; omega))).mono ?_
  rintro e' w8 ⟨rfl, hb⟩
  have HB := hid (HB.out.trans (hb.mono HB.out.size))
  have T := hid (T.out.below hb)
  have CB := hid (CB.out.below hb)
  have XK := hid (fun o v (h : w6.cell? ⟨w5.heap.size, o, none⟩ = some v) => keep hb (XK.out o v h))
  have O := hid (O.out.below hb)
  have R := hid (R.out.below hb)
  have Z := hid (And.intro Z.out.1 (Nat.lt_of_lt_of_le Z.out.2 hb.size))
  clear q0 q1 q2 q3 q4 q5 hz NW
  obtain ⟨⟨q0, q1, q2, q3, q4, q5⟩, hn, -, hz⟩ := HC1.out w8 HB.out
  have NW := hid hn
  clear hn
  clear hb
  obtain ⟨x0, x1, x2, x3, x4, x5⟩ := XC.out w8 XK.out
  have zz : w5.heap.size < w8.heap.size := by have := Z.out; omega
  have CN := hid (CB.out.net HM.out HS.out HO.out HE.out)
  go_wp2_with fail
  go_region_with (first
    | (go_at_call 7; refine (toNet p l c s g o e x f _ (NW.out.below (Below.refl _ w8).drew) HL.out).mono ?_; rintro e' w9 ⟨N9, rfl, hb9, hc9⟩; have hb9' : Below w8.heap.size w8 w9 := ((Below.refl _ w8).drew).trans hb9; obtain ⟨x0, x1, x2, x3, x4, x5⟩ := XC.out w9 (fun o v h => keep hb9' (XK.out o v h)); clear hb9)
    | (go_at_call 10; refine (eqNet (fun i => some ⟨Nb i, 0, none⟩) (fun i => some ⟨N9 i, 0, none⟩) l l l s g o e x f _ (CN.out.below hb9') (hc9.net HM.out HS.out HO.out HE.out)).mono ?_; rintro e' w10 ⟨rfl, hb10⟩))
  all_goals
    have hb : Below w8.heap.size w8 w10 := hb9'.trans (hb10.mono hb9'.size)
    clear hb9' hb10 hc9 CN x0 x1 x2 x3 x4 x5 zz
    have HB := hid (HB.out.trans (hb.mono HB.out.size))
    have T := hid (T.out.below hb)
    have CB := hid (CB.out.below hb)
    have XK := hid (fun o v (h : w6.cell? ⟨w5.heap.size, o, none⟩ = some v) => keep hb (XK.out o v h))
    have O := hid (O.out.below hb)
    have R := hid (R.out.below hb)
    have Z := hid (And.intro Z.out.1 (Nat.lt_of_lt_of_le Z.out.2 hb.size))
    clear q0 q1 q2 q3 q4 q5 hz NW
    obtain ⟨⟨q0, q1, q2, q3, q4, q5⟩, hn, -, hz⟩ := HC1.out w10 HB.out
    have NW := hid hn
    clear hn
    clear hb
    obtain ⟨x0, x1, x2, x3, x4, x5⟩ := XC.out w10 XK.out
    have zz : w5.heap.size < w10.heap.size := by have := Z.out; omega
    go_wp2_with fail
    refine (mark_net _ Nb l s g o e x f _ CB.out HL.out).mono ?_
    rintro e' w11 ⟨r11, rfl, hr11, hr11', hch⟩
    clear x0 x1 x2 x3 x4 x5 zz
    have nY : Hid (¬ Ns Nb w3.heap.size) := nil_ns (a := 0) (b := 0) NL.out.2.1 (.inl NL.out.1)
    have nG : Hid (¬ Ns Nb w6.heap.size) := nil_ns (a := 0) (b := 0) NL.out.2.1 (.inr (by have := NL.out; have := Z.out; omega))
    have nT : Hid (∀ q, q < w3.heap.size → ¬ Ns Nb q) := fun q hq => nil_ns (a := 0) (b := 0) NL.out.2.1 (.inl (by have := NL.out; omega))
    have nO : Hid (∀ q, (w5.heap.size < q ∧ q < w6.heap.size) → ¬ Ns Nb q) := fun q hq => nil_ns (a := 0) (b := 0) NL.out.2.1 (.inr (by have := NL.out; omega))
    have ltY : w3.heap.size < w10.heap.size := World.block_lt_of_cell? _ _ R.out.1.1
    have ltG : w6.heap.size < w10.heap.size := World.block_lt_of_cell? _ _ R.out.2.1
    have HB := hid (Ch.below HB.out hch (fun b hb => Nat.le_trans HB3s.out (ns_low NL.out.2.1 (by have := NL.out; omega) hb)))
    have R := hid (R.out.blocks (hch.block _ ltY nY.out) (hch.block _ ltG nG.out))
    have T := hid (T.out.kept fun q o v hq hc => ⟨(cell_of_block (hch.block q (by have := World.block_lt_of_cell? _ _ hc; exact this) (nT.out q hq))).trans hc, hq⟩)
    have O := hid (O.out.kept fun q hq hlt => hch.block q hlt (nO.out q hq))
    clear CB XK hch nY nG nT nO ltY ltG
    clear q0 q1 q2 q3 q4 q5 hz NW
    obtain ⟨⟨q0, q1, q2, q3, q4, q5⟩, hn, -, hz⟩ := HC1.out w11 HB.out
    have NW := hid hn
    clear hn
    obtain ⟨⟨p0, p1, p2⟩, g0, g1, g2⟩ := R.out
    have zY : w3.heap.size < w11.heap.size := World.block_lt_of_cell? _ _ p0
    have zG : w6.heap.size < w11.heap.size := World.block_lt_of_cell? _ _ g0
    have hk0 : decide (r11 < 0) = false := decide_eq_false (by omega)
    go_wp2_with fail
    refine (eqE_of F (eqS F) _ _ t a1 a0 (ln t) c1 c0 _ ((O.out.rd.imp fun _ _ => trivial).wide (by unfold maxLen; omega)) ((T.out.imp fun _ _ => trivial).wide (by unfold maxLen; omega))).mono ?_
    rintro e' w12 ⟨rfl, hb⟩
    clear p0 p1 p2 g0 g1 g2 zY zG hk0
    have HB := hid (HB.out.trans (hb.mono HB.out.size))
    have T := hid (T.out.below hb)
    have O := hid (O.out.below hb)
    have R := hid (R.out.below hb)
    clear q0 q1 q2 q3 q4 q5 hz NW
    obtain ⟨⟨q0, q1, q2, q3, q4, q5⟩, hn, -, hz⟩ := HC1.out w12 HB.out
    have NW := hid hn
    clear hn
    clear hb
    obtain ⟨⟨p0, p1, p2⟩, g0, g1, g2⟩ := R.out
    have zG : w6.heap.size < w12.heap.size := World.block_lt_of_cell? _ _ g0
    have HZG := hid zG
    go_wp2_with fail
    refine (markE F _ _ t a1 (ln t) c1 _ _ O.out (fun q hq => by have := HZG.out; omega) HMm.out).mono ?_
    rintro e' w13 ⟨rfl, ho13, w12', hb13, hf13⟩
    clear p0 p1 p2 g0 g1 g2 zG
    have HB := hid ((HB.out.trans (hb13.mono HB.out.size)).trans (hf13.below fun q hq => by have := HB3s.out; have := NL.out; omega))
    have R := hid ((R.out.below hb13).fr hf13 (by have := NL.out; omega) (by omega))
    have T := hid (rd_fr (T.out.below hb13) hf13 fun q hq => by have := NL.out; omega)
    have O := hid (ho13.rd.imp (q' := fun _ => True) fun _ _ => trivial)
    clear ho13 hb13 hf13 HZG
    obtain ⟨m, hmm⟩ : ∃ m, 1 + 2 * (rowN F t : Int) = m := ⟨_, rfl⟩
    have hm0 : 0 ≤ m := by omega
    have dm : (m != m) = false := by simp
    have HMM := hid hmm
    rw [hmm]
    clear hmm
    clear q0 q1 q2 q3 q4 q5 hz NW
    obtain ⟨⟨q0, q1, q2, q3, q4, q5⟩, hn, -, hz⟩ := HC1.out w13 HB.out
    have NW := hid hn
    clear hn
    obtain ⟨⟨p0, p1, p2⟩, g0, g1, g2⟩ := R.out
    have zG : w6.heap.size < w13.heap.size := World.block_lt_of_cell? _ _ g0
    go_wp2_with fail
    refine (heldE F _ _ t a1 (ln t) c1 _ O.out HMm.out).mono ?_
    rintro e' w14 ⟨rfl, hb⟩
    rw [HMM.out]
    clear p0 p1 p2 g0 g1 g2 zG
    have HB := hid (HB.out.trans (hb.mono HB.out.size))
    have T := hid (T.out.below hb)
    have O := hid (O.out.below hb)
    have R := hid (R.out.below hb)
    clear q0 q1 q2 q3 q4 q5 hz NW
    obtain ⟨⟨q0, q1, q2, q3, q4, q5⟩, hn, -, hz⟩ := HC1.out w14 HB.out
    have NW := hid hn
    clear hn
    clear hb
    go_wp2_with fail
    refine (toNet p l c s g o e x f _ NW.out HL.out).mono ?_
    rintro e' w15 ⟨Nd, rfl, hb, hc⟩
    have HB := hid (HB.out.trans (hb.mono HB.out.size))
    have T := hid (T.out.below hb)
    have O := hid (O.out.below hb)
    have R := hid (R.out.below hb)
    clear q0 q1 q2 q3 q4 q5 hz NW
    obtain ⟨⟨q0, q1, q2, q3, q4, q5⟩, hn, -, hz⟩ := HC1.out w15 HB.out
    have NW := hid hn
    clear hn
    have CD := hid (hc.net HM.out HS.out HO.out HE.out)
    clear hc hb
    unfold netV
    go_wp2_with fail
    refine (fex_impl (fun i => some ⟨Nd i, 0, none⟩) l l s g o e x f a b _ CD.out (Nat.le_refl _) (Nat.le_refl _)).mono ?_
    rintro e' w16 ⟨a3, l3, c3, rfl, hb, ho⟩
    rw [ET.out, EC.out]
    rw [ET.out, EF.out] at ho
    obtain rfl := ho.len
    have HB := hid (HB.out.trans (hb.mono HB.out.size))
    have T := hid (T.out.below hb)
    have O := hid (O.out.below hb)
    have R := hid (R.out.below hb)
    clear q0 q1 q2 q3 q4 q5 hz NW
    obtain ⟨⟨q0, q1, q2, q3, q4, q5⟩, hn, -, hz⟩ := HC1.out w16 HB.out
    have NW := hid hn
    clear hn
    have X := hid (ho.rd.imp (q' := fun _ => True) fun _ _ => trivial)
    clear hb ho CD
    obtain ⟨⟨p0, p1, p2⟩, g0, g1, g2⟩ := R.out
    have zY : w3.heap.size < w16.heap.size := World.block_lt_of_cell? _ _ p0
    go_wp2_with fail
    have hb : Below w16.heap.size w16 (w16.alloc (.cells #[.int .i64 (kd t), .int .i64 (nn t), .slice a3 (ln t) c3] 32)) := (by repeat (first | exact Below.refl _ _ | assumption | refine Below.drew ?_ | refine Below.alloc ?_ (by first | exact Nat.le_refl _ | omega | (simp; done) | (simp; omega)) _ | refine Below.setCell ?_ (by first | exact Nat.le_refl _ | omega | (simp; done) | (simp; omega)) _))
    generalize (w16.alloc (.cells #[.int .i64 (kd t), .int .i64 (nn t), .slice a3 (ln t) c3] 32)) = w17 at *
    clear p0 p1 p2 g0 g1 g2 zY
    have HB := hid (HB.out.trans (hb.mono HB.out.size))
    have T := hid (T.out.below hb)
    have O := hid (O.out.below hb)
    have R := hid (R.out.below hb)
    clear q0 q1 q2 q3 q4 q5 hz NW
    obtain ⟨⟨q0, q1, q2, q3, q4, q5⟩, hn, -, hz⟩ := HC1.out w17 HB.out
    have NW := hid hn
    clear hn
    have X := hid (X.out.below hb)
    clear hb
    refine (eqE_of F (eqS F) _ _ t a3 a0 (ln t) c3 c0 _ (X.out.wide (by unfold maxLen; omega)) ((T.out.imp fun _ _ => trivial).wide (by unfold maxLen; omega))).mono ?_
    rintro e' w18 ⟨rfl, hb⟩
    have HB := hid (HB.out.trans (hb.mono HB.out.size))
    have T := hid (T.out.below hb)
    have O := hid (O.out.below hb)
    have R := hid (R.out.below hb)
    clear q0 q1 q2 q3 q4 q5 hz NW
    obtain ⟨⟨q0, q1, q2, q3, q4, q5⟩, hn, -, hz⟩ := HC1.out w18 HB.out
    have NW := hid hn
    clear hn
    clear hb X
    obtain ⟨⟨p0, p1, p2⟩, g0, g1, g2⟩ := R.out
    have zG : w6.heap.size < w18.heap.size := World.block_lt_of_cell? _ _ g0
    go_wp2_with fail
    refine (heldE F _ _ t a1 (ln t) c1 _ O.out HMm.out).mono ?_
    rintro e' w19 ⟨rfl, hb⟩
    rw [HMM.out]
    clear p0 p1 p2 g0 g1 g2 zG
    have HB := hid (HB.out.trans (hb.mono HB.out.size))
    clear hb
    go_wp2
    go_ret
    exact ⟨rfl, (HC1.out _ HB.out).2.2.1⟩


theorem own : ownKnob Try.prog.godebug = none := by kernel_rfl
theorem laidOut : laidOutB Try.prog = true := by kernel_rfl

set_option maxRecDepth 100000 in
theorem lifted (os : Os) (started : os.Started) (H : Type) (enc : TypeId × Value → H) :
    ReturnsInHanded {} Try.checked os 3 .any (Rows.fnExactFilterExSpec.pre6 enc Try.prog Try.f3 Rows.fnExactFilterExRow.domain false) (Rows.fnExactFilterExSpec.post enc Try.prog Try.f3 false true false false) := by
  refine returnsInHanded_of_change (C := Try.checked) own started (by kernel_rfl) Try.func3
    (ChangeSpec.witness6 (enc := enc) (C := Try.checked) false ⟨#[], #[.agg #[.slice none 0 0, .slice none 0 0, .slice none 0 0, .slice none 0 0, .slice none 0 0, .slice none 0 0], .int .i64 0, .int .i64 0], []⟩ 8 (by kernel_rfl) (by kernel_rfl) (by kernel_rfl) (by kernel_rfl)) ?_
  intro W base args ds gs before hval0 hW hcnd _
  have hval : ∀ (j : Nat) t v, Try.f3.params[j]? = some t → args[j]? = some v → Value.okWide Try.prog W .any base t v := hval0
  have hW' := hW
  obtain ⟨p, q, hA0, hV, rfl, hfz, hnd⟩ := hW
  have hA : DataW.TrodAll enc Try.prog W 0 (fun _ => true) true Try.f3.params.toList args.toList ds p := hA0
  rw [Try.params3] at hA hval
  obtain ⟨v0, vs0, d0, ds0, p0, q0, hargs, rfl, rfl, h0, r0⟩ := trodAll_cons hA
  obtain ⟨v1, vs1, d1, ds1, p1, q1, rfl, rfl, rfl, h1, r1⟩ := trodAll_cons r0
  obtain ⟨v2, vs2, d2, ds2, p2, q2, rfl, rfl, rfl, h2, r2⟩ := trodAll_cons r1
  obtain ⟨rfl, rfl, rfl⟩ := trodAll_nil r2
  obtain rfl : args = #[v0, v1, v2] := by cases args; simp_all
  obtain ⟨rfl, rfl⟩ := trodVars_none hV
  have k0 := h0
  have lt0 : ∀ x ∈ p0, x.block < W.heap.size := by obtain ⟨m, hm⟩ := k0; exact DataW.trod_lt m _ _ _ hm
  have k1 := h1
  have lt1 : ∀ x ∈ p1, x.block < W.heap.size := by obtain ⟨m, hm⟩ := k1; exact DataW.trod_lt m _ _ _ hm
  have k2 := h2
  have lt2 : ∀ x ∈ p2, x.block < W.heap.size := by obtain ⟨m, hm⟩ := k2; exact DataW.trod_lt m _ _ _ hm
  obtain ⟨p, l, c, s, g, o, e, x, f, rfl, hnet⟩ := net_of_trod (hval 0 28 v0 rfl rfl) h0
  obtain ⟨a1, rfl⟩ := okWide_int Try.underlying3 (hval 1 3 v1 rfl rfl)
  obtain ⟨b1, rfl⟩ := okWide_int Try.underlying3 (hval 2 3 v2 rfl rfl)
  clear hA0 hval0
  refine (walk p l c s g o e x f a1 b1 W hnet).mono fun e W' ⟨he, bel⟩ => ?_
  subst he
  exact ⟨_, rfl, _, _, _, [], _, [], hW', trodAll_mk1 (shut_bool Try.underlying4 _), (trodAll_cons_mk (Below.trod laidOut (by kernel_rfl) (of_decide_eq_true (by kernel_rfl)) k0 bel lt0) (trodAll_cons_mk (Below.trod laidOut (by kernel_rfl) (of_decide_eq_true (by kernel_rfl)) k1 bel lt1) (trodAll_cons_mk (Below.trod laidOut (by kernel_rfl) (of_decide_eq_true (by kernel_rfl)) k2 bel lt2) trodAll_mk0))), rfl, bel.frame _, fun h => by cases h⟩

theorem over : Rows.fnExactFilterExRow.holds Try.pinned (OpenSpec.ofChange Rows.fnExactFilterExSpec) :=
  OpenClaim.holds_of_wide 3 Try.f3 rfl rfl rfl rfl rfl rfl rfl ⟨rfl, rfl, rfl, rfl, rfl⟩ rfl rfl rfl rfl rfl (by kernel_rfl) Try.func3 (by kernel_rfl)
    (of_decide_eq_true (by kernel_rfl)) (by unfold Func.isWrapper; first | (rw [if_pos (by decide +kernel)]; kernel_rfl) | (rw [if_neg (by decide +kernel)]; exact ⟨rfl, rfl⟩))
    (fun os started H enc _ => lifted os started H enc)
end Go.Proofs.Ytnaodjnmoicekaa.fnExactFilterEx
namespace Go.Proofs.Ytnaodjnmoicekaa
theorem fnExactFilterEx_holds : Rows.FnExactFilterExSaid := fnExactFilterEx.over
end Go.Proofs.Ytnaodjnmoicekaa
