/- The value of a word, of the program and of the specification: for every right word that lies in memory and values that it may have; conditions: none. -/
import Derived.Test.YtikdadpapdkfiaaWordSpec
import Derived.Deep.RegionHeld3
namespace Go.Proofs.Ytikdadpapdkfiaa.wordVal
open Go.RowKit Go.Deep base trees wordTrees wordSpec
set_option linter.unusedVariables false

theorem and_le : ∀ x y : Fin 64, 0 ≤ bits .and .i64 ((x.val : Nat) : Int) ((y.val : Nat) : Int) ∧ bits .and .i64 ((x.val : Nat) : Int) ((y.val : Nat) : Int) ≤ ((x.val : Nat) : Int) := by decide +kernel
theorem and_bounds {x y m : Int} (hm : m ≤ 64) (hx0 : 0 ≤ x) (hx : x < m) (hy0 : 0 ≤ y) (hy : y < m) : 0 ≤ bits .and .i64 x y ∧ bits .and .i64 x y < m := by
  have h := and_le ⟨x.toNat, by omega⟩ ⟨y.toNat, by omega⟩
  have e1 : ((x.toNat : Nat) : Int) = x := by omega
  have e2 : ((y.toNat : Nat) : Int) = y := by omega
  simp only [e1, e2] at h
  omega
def modOf (b : Nat) : Int := ((2 ^ b : Nat) : Int)
def valW (b : Nat) (vs : List Int) : Nat → T → Int
  | 0, t => if kd t = 1 then nn t else vs[(nn t).toNat]?.getD 0
  | d + 1, t => if kd t = 1 then nn t else if kd t = 2 then vs[(nn t).toNat]?.getD 0 else
      if kd t = 3 then (valW b vs d (kid t 0) + valW b vs d (kid t 1)) % modOf b else
      if kd t = 4 then bits .and .i64 (valW b vs d (kid t 0)) (valW b vs d (kid t 1)) else min (valW b vs d (kid t 0)) (valW b vs d (kid t 1))
variable {b d : Nat} {t : T} {w : World} {a : Option Addr} {l : Nat} {vs : List Int}
theorem val_const (h : kd t = 1) : valW b vs d t = nn t := by cases d <;> simp [valW, h]
theorem val_var (h : kd t = 2) : valW b vs d t = vs[(nn t).toNat]?.getD 0 := by cases d <;> simp [valW, h]
theorem val_pos (hd : 0 < d) : valW b vs d t = if kd t = 1 then nn t else if kd t = 2 then vs[(nn t).toNat]?.getD 0 else
      if kd t = 3 then (valW b vs (d - 1) (kid t 0) + valW b vs (d - 1) (kid t 1)) % modOf b else
      if kd t = 4 then bits .and .i64 (valW b vs (d - 1) (kid t 0)) (valW b vs (d - 1) (kid t 1)) else min (valW b vs (d - 1) (kid t 0)) (valW b vs (d - 1) (kid t 1)) := by
  cases d with
  | zero => omega
  | succ d => rfl
theorem mod_cases {b : Nat} (h1 : 1 ≤ b) (h2 : b ≤ 6) : (b = 1 ∧ modOf b = 2) ∨ (b = 2 ∧ modOf b = 4) ∨ (b = 3 ∧ modOf b = 8) ∨ (b = 4 ∧ modOf b = 16) ∨ (b = 5 ∧ modOf b = 32) ∨ (b = 6 ∧ modOf b = 64) := by
  rcases bits_cases h1 h2 with rfl | rfl | rfl | rfl | rfl | rfl <;> decide
theorem mod_bounds {b : Nat} (h1 : 1 ≤ b) (h2 : b ≤ 6) : 2 ≤ modOf b ∧ modOf b ≤ 64 := by
  rcases mod_cases h1 h2 with ⟨_, h⟩ | ⟨_, h⟩ | ⟨_, h⟩ | ⟨_, h⟩ | ⟨_, h⟩ | ⟨_, h⟩ <;> omega
/-- Values that words of so many bits may have: one for each variable, each of so many bits. -/
def Fit (b : Nat) (vs : List Int) : Prop := vs.length = 12 / b ∧ ∀ i, i < vs.length → 0 ≤ vs[i]?.getD 0 ∧ vs[i]?.getD 0 < modOf b
theorem shape_cases (h : shapeW b t = true) : (kd t = 1 ∧ ln t = 0 ∧ 0 ≤ nn t ∧ nn t < modOf b) ∨ (kd t = 2 ∧ ln t = 0 ∧ 0 ≤ nn t ∧ nn t < ((12 / b : Nat) : Int)) ∨ ((kd t = 3 ∨ kd t = 4 ∨ kd t = 5) ∧ ln t = 2 ∧ nn t = 0) := by
  have h1 := of_decide_eq_true h
  rcases kids_cases (kd t) with e | e | e | e
  · left
    have e1 : kidsW (kd t) = 0 := by rw [e]; rfl
    have e2 : mostW b (kd t) = modOf b - 1 := by rw [e]; rfl
    rw [e1, e2] at h1
    exact ⟨e, by omega, by omega, by omega⟩
  · right; left
    have e1 : kidsW (kd t) = 0 := by rw [e]; rfl
    have e2 : mostW b (kd t) = ((12 / b : Nat) : Int) - 1 := by rw [e]; rfl
    rw [e1, e2] at h1
    generalize ((12 / b : Nat) : Int) = m at *
    exact ⟨e, by omega, by omega, by omega⟩
  · right; right
    have e1 : kidsW (kd t) = 2 := by unfold kidsW; rw [if_neg (by omega), if_pos e]
    have e2 : mostW b (kd t) = 0 := by unfold mostW; rw [if_neg (by omega), if_neg (by omega)]
    rw [e1, e2] at h1
    exact ⟨e, by omega, by omega⟩
  · rw [e.1] at h1; omega
theorem val_bounds (h1 : 1 ≤ b) (h2 : b ≤ 6) (hf : Fit b vs) {q : Nat → Prop} {M : Nat} (hr : Rd q M w d t a l) (hR : rightW b d t = true) : 0 ≤ valW b vs d t ∧ valW b vs d t < modOf b := by
  induction d using Nat.strongRecOn generalizing t a l with
  | _ d ih =>
  have hm := mod_bounds h1 h2
  rcases shape_cases (right_shape hr.zero hR) with ⟨e, e1, e2, e3⟩ | ⟨e, e1, e2, e3⟩ | ⟨e, e1, e2⟩
  · rw [val_const e]; exact ⟨e2, e3⟩
  · rw [val_var e]; exact hf.2 _ (by rw [hf.1]; omega)
  · have hl := hr.len
    obtain ⟨hd, _, _, _, _, _, _, x, lx, cx, _, hx⟩ := hr.cell (i := 0) (by omega)
    obtain ⟨_, _, _, _, _, _, _, y, ly, cy, _, hy⟩ := hr.cell (i := 1) (by omega)
    have b0 := ih (d - 1) (by omega) hx (right_kid hr.zero hR (by omega))
    have b1 := ih (d - 1) (by omega) hy (right_kid hr.zero hR (by omega))
    rw [val_pos hd, if_neg (by omega), if_neg (by omega)]
    split
    · exact ⟨Int.emod_nonneg _ (by omega), Int.emod_lt_of_pos _ (by omega)⟩
    · split
      · exact and_bounds hm.2 b0.1 b0.2 b1.1 b1.2
      · omega

def VaW (F : FuncId) (b d : Nat) : Prop := ∀ (t : T) (a : Option Addr) (l c : Nat) (va : Option Addr) (vl vc : Nat) (vs : List Int) (w : World), Rd (fun _ => True) 1048576 w d t a l → rightW b d t = true → Fit b vs → IntRow w va vl vs →
    Calls Try.prog F #[.agg #[.int .i64 (kd t), .int .i64 (nn t), .slice a l c], .int .i64 (b : Int), .slice va vl vc] w fun e w' => e = .returned (.int .i64 (valW b vs d t)) ∧ Below w.heap.size w w'
/-- What a call at one word answers, from a world on. -/
def At (F : FuncId) (W : World) (k n : Int) (x : Option Addr) (m s : Nat) (u v : Value) (r : Int) : Prop :=
  ∀ (w' : World) (args : Array Value), args = #[.agg #[.int .i64 k, .int .i64 n, .slice x m s], u, v] → Below W.heap.size W w' → Calls Try.prog F args w' fun e w'' => e = .returned (.int .i64 r) ∧ Below w'.heap.size w' w''
theorem At.later {F : FuncId} {W W' : World} {k n : Int} {x : Option Addr} {m s : Nat} {u v : Value} {r : Int} (h : At F W k n x m s u v r) (hb : Below W.heap.size W W') : At F W' k n x m s u v r :=
  fun w' args he hw => h w' args he (hb.trans (hw.mono hb.size))
theorem kid_facts {F : FuncId} {va : Option Addr} {vl vc : Nat} (h1 : 1 ≤ b) (h2 : b ≤ 6) (hI : VaW F b (d - 1)) (hr : Rd (fun _ => True) 1048576 w d t a l) (hR : rightW b d t = true) (hf : Fit b vs) (hv : IntRow w va vl vs) {i : Nat} (hi : i < l) :
    ∃ b' off, a = some ⟨b', off, none⟩ ∧ ∃ k n x m s, w.cell? ⟨b', off + i * 3, none⟩ = some (.int .i64 k) ∧ w.cell? ⟨b', off + i * 3 + 1, none⟩ = some (.int .i64 n) ∧ w.cell? ⟨b', off + i * 3 + 2, none⟩ = some (.slice x m s) ∧
      Hid (At F w k n x m s (.int .i64 (b : Int)) (.slice va vl vc) (valW b vs (d - 1) (kid t i))) ∧ 0 ≤ valW b vs (d - 1) (kid t i) ∧ valW b vs (d - 1) (kid t i) < modOf b := by
  obtain ⟨hd, b', off, e, -, hc0, hc1, x, m, s, hc2, hx⟩ := hr.cell hi
  have hi' : i < ln t := by rw [hr.len]; exact hi
  have hb := val_bounds h1 h2 hf hx (right_kid hr.zero hR hi')
  refine ⟨b', off, e, _, _, x, m, s, hc0, hc1, hc2, fun w' args he hb => ?_, hb.1, hb.2⟩
  subst he
  exact hI (kid t i) x m s va vl vc vs w' (hx.below hb) (right_kid hr.zero hR hi') hf (hv.below hb)

set_option maxHeartbeats 3200000 in
set_option maxRecDepth 8000 in
theorem number_impl (b : Nat) (hb1 : 1 ≤ b) (hb2 : b ≤ 6) (d : Nat) : VaW 17 b d := by
  induction d using Nat.strongRecOn with
  | _ d ih =>
  intro t a l c va vl vc vs w hr hR hf hv
  have HL := hid hr.len
  have HZ := hid hr.zero
  have HR := hid hr
  have HI := hid ih
  have HRT := hid hR
  have HV := hid hv
  have HF := hid hf
  have hvl := hv.most
  unfold maxLen at hvl
  have hsh := shape_cases (right_shape hr.zero hR)
  rw [hr.len] at hsh
  clear hr ih hR hv hf
  rcases hsh with ⟨h1, h2, h3, h4⟩ | ⟨h1, h2, h3, h4⟩ | ⟨h1, h2, h3⟩
  · rw [val_const h1, h1]
    clear h1
    generalize nn t = n at *
    go_enter Try.func17, Try.ntmps17
    go_wp2
    go_ret
    exact ⟨rfl, (by repeat (first | exact Below.refl _ _ | assumption | refine Below.drew ?_ | refine Below.alloc ?_ (by first | exact Nat.le_refl _ | omega | (simp; done) | (simp; omega)) _ | refine Below.setCell ?_ (by first | exact Nat.le_refl _ | omega | (simp; done) | (simp; omega)) _))⟩
  · have hE := val_var (b := b) (d := d) (vs := vs) h1
    have hlt : nn t < (vl : Int) := by have := HF.out.1; have := HV.out.length; omega
    obtain ⟨n, hn⟩ : ∃ n : Nat, nn t = n := ⟨(nn t).toNat, by omega⟩
    obtain ⟨bb, off, rfl, hc⟩ := HV.out.cell n (by omega)
    have hbw := World.block_lt_of_cell? _ _ hc
    rw [hE, h1, hn]
    simp only [Int.toNat_natCast]
    rw [hn] at hlt h3
    generalize vs[n]?.getD 0 = res at *
    clear hE h1 hn h4
    go_enter Try.func17, Try.ntmps17
    go_wp2
    go_ret
    exact ⟨rfl, (by repeat (first | exact Below.refl _ _ | assumption | refine Below.drew ?_ | refine Below.alloc ?_ (by first | exact Nat.le_refl _ | omega | (simp; done) | (simp; omega)) _ | refine Below.setCell ?_ (by first | exact Nat.le_refl _ | omega | (simp; done) | (simp; omega)) _))⟩
  · have hd : 0 < d := (HR.out.cell (i := 0) (by omega)).1
    obtain ⟨bb, off, rfl, k0, n0, x0, m0, s0, g0, g1, g2, E0, p0, p1⟩ := kid_facts (vc := vc) hb1 hb2 (HI.out (d - 1) (by omega)) HR.out HRT.out HF.out HV.out (i := 0) (by omega)
    obtain ⟨b', off', heq, k1, n1, x1, m1, s1, j0, j1, j2, E1, q0, q1⟩ := kid_facts (vc := vc) hb1 hb2 (HI.out (d - 1) (by omega)) HR.out HRT.out HF.out HV.out (i := 1) (by omega)
    obtain ⟨rfl, rfl⟩ : bb = b' ∧ off = off' := by simpa using heq
    simp only [Nat.zero_mul, Nat.add_zero] at g0 g1 g2
    simp only [Nat.one_mul, Nat.add_assoc, Nat.reduceAdd] at j0 j1 j2
    have hbw := World.block_lt_of_cell? _ _ g0
    rw [val_pos hd, if_neg (by omega), if_neg (by omega), h3]
    subst h2
    clear h3 hd heq HV HF HRT HI HR HL HZ
    have hmm := mod_bounds hb1 hb2
    generalize valW b vs (d - 1) (kid t 0) = e0 at *
    generalize valW b vs (d - 1) (kid t 1) = e1 at *
    rcases h1 with h1 | h1 | h1
    · rw [if_pos h1, h1]
      rcases mod_cases hb1 hb2 with ⟨rfl, e⟩ | ⟨rfl, e⟩ | ⟨rfl, e⟩ | ⟨rfl, e⟩ | ⟨rfl, e⟩ | ⟨rfl, e⟩
      all_goals
        rw [e] at p1 q1 ⊢
        clear e h1 hmm
        go_enter Try.func17, Try.ntmps17
        go_wp2_with fail
        have HW : Hid (Below w.heap.size w (w.alloc (.cells #[.int .i64 3, .int .i64 0, .slice (some ⟨bb, off, none⟩) 2 c] 25))) := (by repeat (first | exact Below.refl _ _ | assumption | refine Below.drew ?_ | refine Below.alloc ?_ (by first | exact Nat.le_refl _ | omega | (simp; done) | (simp; omega)) _ | refine Below.setCell ?_ (by first | exact Nat.le_refl _ | omega | (simp; done) | (simp; omega)) _))
        have f0 : (w.alloc (.cells #[.int .i64 3, .int .i64 0, .slice (some ⟨bb, off, none⟩) 2 c] 25)).cell? ⟨w.heap.size, 0, none⟩ = some (.int .i64 3) := by simp [go_sem]
        have f2 : (w.alloc (.cells #[.int .i64 3, .int .i64 0, .slice (some ⟨bb, off, none⟩) 2 c] 25)).cell? ⟨w.heap.size, 2, none⟩ = some (.slice (some ⟨bb, off, none⟩) 2 c) := by simp [go_sem]
        replace g0 := keep HW.out g0
        replace g1 := keep HW.out g1
        replace g2 := keep HW.out g2
        replace j0 := keep HW.out j0
        replace j1 := keep HW.out j1
        replace j2 := keep HW.out j2
        replace E0 := hid (E0.out.later HW.out)
        replace E1 := hid (E1.out.later HW.out)
        have HWZ := hid HW.out.size
        generalize (w.alloc (.cells #[.int .i64 3, .int .i64 0, .slice (some ⟨bb, off, none⟩) 2 c] 25)) = W at *
        have HK : Hid (∀ w8 : World, Below W.heap.size W w8 → w8.cell? ⟨w.heap.size, 0, none⟩ = some (.int .i64 3) ∧ w8.cell? ⟨w.heap.size, 2, none⟩ = some (.slice (some ⟨bb, off, none⟩) 2 c) ∧ w8.cell? ⟨bb, off, none⟩ = some (.int .i64 k0) ∧ w8.cell? ⟨bb, off + 1, none⟩ = some (.int .i64 n0) ∧ w8.cell? ⟨bb, off + 2, none⟩ = some (.slice x0 m0 s0) ∧ w8.cell? ⟨bb, off + 3, none⟩ = some (.int .i64 k1) ∧ w8.cell? ⟨bb, off + 4, none⟩ = some (.int .i64 n1) ∧ w8.cell? ⟨bb, off + 5, none⟩ = some (.slice x1 m1 s1) ∧ Below W.heap.size W w8) :=
          fun w8 h => ⟨keep h f0, keep h f2, keep h g0, keep h g1, keep h g2, keep h j0, keep h j1, keep h j2, h⟩
        clear f0 f2 g0 g1 g2 j0 j1 j2
        go_region_held3 (fun w8 => w8.cell? ⟨w.heap.size, 0, none⟩ = some (.int .i64 3) ∧ w8.cell? ⟨w.heap.size, 2, none⟩ = some (.slice (some ⟨bb, off, none⟩) 2 c) ∧ w8.cell? ⟨bb, off, none⟩ = some (.int .i64 k0) ∧ w8.cell? ⟨bb, off + 1, none⟩ = some (.int .i64 n0) ∧ w8.cell? ⟨bb, off + 2, none⟩ = some (.slice x0 m0 s0) ∧ w8.cell? ⟨bb, off + 3, none⟩ = some (.int .i64 k1) ∧ w8.cell? ⟨bb, off + 4, none⟩ = some (.int .i64 n1) ∧ w8.cell? ⟨bb, off + 5, none⟩ = some (.slice x1 m1 s1) ∧ Below W.heap.size W w8)
          (refine HK.out _ (by repeat (first | exact Below.refl _ _ | assumption | refine Below.drew ?_)))
          (first
            | (go_at_call 17; refine (E0.out _ _ (by rfl) (by repeat (first | exact Below.refl _ _ | assumption | refine Below.drew ?_))).mono ?_; rintro e w7 ⟨rfl, hb7⟩; have hb57 : Below W.heap.size W w7 := Below.trans (by repeat (first | exact Below.refl _ _ | assumption | refine Below.drew ?_)) (hb7.mono (Below.size (B := W.heap.size) (by repeat (first | exact Below.refl _ _ | assumption | refine Below.drew ?_)))); clear hb7)
            | (go_at_call 17; refine (E1.out _ _ (by rfl) (by repeat (first | exact Below.refl _ _ | assumption | refine Below.drew ?_))).mono ?_; rintro e w9 ⟨rfl, hb9⟩; have hb59 : Below W.heap.size W w9 := Below.trans (by repeat (first | exact Below.refl _ _ | assumption | refine Below.drew ?_)) (hb9.mono (Below.size (B := W.heap.size) (by repeat (first | exact Below.refl _ _ | assumption | refine Below.drew ?_)))); clear hb9))
        all_goals
          have HB2 := hid (HW.out.trans (Below.mono (by first | exact hb59 | exact hb57 | assumption) HWZ.out))
          go_wp2
        all_goals
          go_ret
          refine ⟨ret_int ?_, HB2.out⟩
          first | rfl | omega
    · rw [if_neg (by omega), if_pos h1, h1]
      clear h1 hmm
      go_enter Try.func17, Try.ntmps17
      go_wp2_with fail
      have HW : Hid (Below w.heap.size w (w.alloc (.cells #[.int .i64 4, .int .i64 0, .slice (some ⟨bb, off, none⟩) 2 c] 25))) := (by repeat (first | exact Below.refl _ _ | assumption | refine Below.drew ?_ | refine Below.alloc ?_ (by first | exact Nat.le_refl _ | omega | (simp; done) | (simp; omega)) _ | refine Below.setCell ?_ (by first | exact Nat.le_refl _ | omega | (simp; done) | (simp; omega)) _))
      have f0 : (w.alloc (.cells #[.int .i64 4, .int .i64 0, .slice (some ⟨bb, off, none⟩) 2 c] 25)).cell? ⟨w.heap.size, 0, none⟩ = some (.int .i64 4) := by simp [go_sem]
      have f2 : (w.alloc (.cells #[.int .i64 4, .int .i64 0, .slice (some ⟨bb, off, none⟩) 2 c] 25)).cell? ⟨w.heap.size, 2, none⟩ = some (.slice (some ⟨bb, off, none⟩) 2 c) := by simp [go_sem]
      replace g0 := keep HW.out g0
      replace g1 := keep HW.out g1
      replace g2 := keep HW.out g2
      replace j0 := keep HW.out j0
      replace j1 := keep HW.out j1
      replace j2 := keep HW.out j2
      replace E0 := hid (E0.out.later HW.out)
      replace E1 := hid (E1.out.later HW.out)
      have HWZ := hid HW.out.size
      generalize (w.alloc (.cells #[.int .i64 4, .int .i64 0, .slice (some ⟨bb, off, none⟩) 2 c] 25)) = W at *
      have HK : Hid (∀ w8 : World, Below W.heap.size W w8 → w8.cell? ⟨w.heap.size, 0, none⟩ = some (.int .i64 4) ∧ w8.cell? ⟨w.heap.size, 2, none⟩ = some (.slice (some ⟨bb, off, none⟩) 2 c) ∧ w8.cell? ⟨bb, off, none⟩ = some (.int .i64 k0) ∧ w8.cell? ⟨bb, off + 1, none⟩ = some (.int .i64 n0) ∧ w8.cell? ⟨bb, off + 2, none⟩ = some (.slice x0 m0 s0) ∧ w8.cell? ⟨bb, off + 3, none⟩ = some (.int .i64 k1) ∧ w8.cell? ⟨bb, off + 4, none⟩ = some (.int .i64 n1) ∧ w8.cell? ⟨bb, off + 5, none⟩ = some (.slice x1 m1 s1) ∧ Below W.heap.size W w8) :=
        fun w8 h => ⟨keep h f0, keep h f2, keep h g0, keep h g1, keep h g2, keep h j0, keep h j1, keep h j2, h⟩
      clear f0 f2 g0 g1 g2 j0 j1 j2
      go_region_held3 (fun w8 => w8.cell? ⟨w.heap.size, 0, none⟩ = some (.int .i64 4) ∧ w8.cell? ⟨w.heap.size, 2, none⟩ = some (.slice (some ⟨bb, off, none⟩) 2 c) ∧ w8.cell? ⟨bb, off, none⟩ = some (.int .i64 k0) ∧ w8.cell? ⟨bb, off + 1, none⟩ = some (.int .i64 n0) ∧ w8.cell? ⟨bb, off + 2, none⟩ = some (.slice x0 m0 s0) ∧ w8.cell? ⟨bb, off + 3, none⟩ = some (.int .i64 k1) ∧ w8.cell? ⟨bb, off + 4, none⟩ = some (.int .i64 n1) ∧ w8.cell? ⟨bb, off + 5, none⟩ = some (.slice x1 m1 s1) ∧ Below W.heap.size W w8)
        (refine HK.out _ (by repeat (first | exact Below.refl _ _ | assumption | refine Below.drew ?_)))
        (first
          | (go_at_call 17; refine (E0.out _ _ (by rfl) (by repeat (first | exact Below.refl _ _ | assumption | refine Below.drew ?_))).mono ?_; rintro e w7 ⟨rfl, hb7⟩; have hb57 : Below W.heap.size W w7 := Below.trans (by repeat (first | exact Below.refl _ _ | assumption | refine Below.drew ?_)) (hb7.mono (Below.size (B := W.heap.size) (by repeat (first | exact Below.refl _ _ | assumption | refine Below.drew ?_)))); clear hb7)
          | (go_at_call 17; refine (E1.out _ _ (by rfl) (by repeat (first | exact Below.refl _ _ | assumption | refine Below.drew ?_))).mono ?_; rintro e w9 ⟨rfl, hb9⟩; have hb59 : Below W.heap.size W w9 := Below.trans (by repeat (first | exact Below.refl _ _ | assumption | refine Below.drew ?_)) (hb9.mono (Below.size (B := W.heap.size) (by repeat (first | exact Below.refl _ _ | assumption | refine Below.drew ?_)))); clear hb9))
      all_goals
        have HB2 := hid (HW.out.trans (Below.mono (by first | exact hb59 | exact hb57 | assumption) HWZ.out))
        go_wp2
      all_goals
        go_ret
        refine ⟨ret_int ?_, HB2.out⟩
        first | rfl | omega
    · rw [if_neg (by omega), if_neg (by omega), h1]
      clear h1
      go_enter Try.func17, Try.ntmps17
      go_wp2_with fail
      have HW : Hid (Below w.heap.size w (w.alloc (.cells #[.int .i64 5, .int .i64 0, .slice (some ⟨bb, off, none⟩) 2 c] 25))) := (by repeat (first | exact Below.refl _ _ | assumption | refine Below.drew ?_ | refine Below.alloc ?_ (by first | exact Nat.le_refl _ | omega | (simp; done) | (simp; omega)) _ | refine Below.setCell ?_ (by first | exact Nat.le_refl _ | omega | (simp; done) | (simp; omega)) _))
      have f0 : (w.alloc (.cells #[.int .i64 5, .int .i64 0, .slice (some ⟨bb, off, none⟩) 2 c] 25)).cell? ⟨w.heap.size, 0, none⟩ = some (.int .i64 5) := by simp [go_sem]
      have f2 : (w.alloc (.cells #[.int .i64 5, .int .i64 0, .slice (some ⟨bb, off, none⟩) 2 c] 25)).cell? ⟨w.heap.size, 2, none⟩ = some (.slice (some ⟨bb, off, none⟩) 2 c) := by simp [go_sem]
      replace g0 := keep HW.out g0
      replace g1 := keep HW.out g1
      replace g2 := keep HW.out g2
      replace j0 := keep HW.out j0
      replace j1 := keep HW.out j1
      replace j2 := keep HW.out j2
      replace E0 := hid (E0.out.later HW.out)
      replace E1 := hid (E1.out.later HW.out)
      have HWZ := hid HW.out.size
      generalize (w.alloc (.cells #[.int .i64 5, .int .i64 0, .slice (some ⟨bb, off, none⟩) 2 c] 25)) = W at *
      have HK : Hid (∀ w8 : World, Below W.heap.size W w8 → w8.cell? ⟨w.heap.size, 0, none⟩ = some (.int .i64 5) ∧ w8.cell? ⟨w.heap.size, 2, none⟩ = some (.slice (some ⟨bb, off, none⟩) 2 c) ∧ w8.cell? ⟨bb, off, none⟩ = some (.int .i64 k0) ∧ w8.cell? ⟨bb, off + 1, none⟩ = some (.int .i64 n0) ∧ w8.cell? ⟨bb, off + 2, none⟩ = some (.slice x0 m0 s0) ∧ w8.cell? ⟨bb, off + 3, none⟩ = some (.int .i64 k1) ∧ w8.cell? ⟨bb, off + 4, none⟩ = some (.int .i64 n1) ∧ w8.cell? ⟨bb, off + 5, none⟩ = some (.slice x1 m1 s1) ∧ Below W.heap.size W w8) :=
        fun w8 h => ⟨keep h f0, keep h f2, keep h g0, keep h g1, keep h g2, keep h j0, keep h j1, keep h j2, h⟩
      clear f0 f2 g0 g1 g2 j0 j1 j2
      go_region_held3 (fun w8 => w8.cell? ⟨w.heap.size, 0, none⟩ = some (.int .i64 5) ∧ w8.cell? ⟨w.heap.size, 2, none⟩ = some (.slice (some ⟨bb, off, none⟩) 2 c) ∧ w8.cell? ⟨bb, off, none⟩ = some (.int .i64 k0) ∧ w8.cell? ⟨bb, off + 1, none⟩ = some (.int .i64 n0) ∧ w8.cell? ⟨bb, off + 2, none⟩ = some (.slice x0 m0 s0) ∧ w8.cell? ⟨bb, off + 3, none⟩ = some (.int .i64 k1) ∧ w8.cell? ⟨bb, off + 4, none⟩ = some (.int .i64 n1) ∧ w8.cell? ⟨bb, off + 5, none⟩ = some (.slice x1 m1 s1) ∧ Below W.heap.size W w8)
        (refine HK.out _ (by repeat (first | exact Below.refl _ _ | assumption | refine Below.drew ?_)))
        (first
          | (go_at_call 17; refine (E0.out _ _ (by rfl) (by repeat (first | exact Below.refl _ _ | assumption | refine Below.drew ?_))).mono ?_; rintro e w7 ⟨rfl, hb7⟩; have hb57 : Below W.heap.size W w7 := Below.trans (by repeat (first | exact Below.refl _ _ | assumption | refine Below.drew ?_)) (hb7.mono (Below.size (B := W.heap.size) (by repeat (first | exact Below.refl _ _ | assumption | refine Below.drew ?_)))); clear hb7)
          | (go_at_call 17; refine (E1.out _ _ (by rfl) (by repeat (first | exact Below.refl _ _ | assumption | refine Below.drew ?_))).mono ?_; rintro e w9 ⟨rfl, hb9⟩; have hb59 : Below W.heap.size W w9 := Below.trans (by repeat (first | exact Below.refl _ _ | assumption | refine Below.drew ?_)) (hb9.mono (Below.size (B := W.heap.size) (by repeat (first | exact Below.refl _ _ | assumption | refine Below.drew ?_)))); clear hb9))
      all_goals
        have HB2 := hid (HW.out.trans (Below.mono (by first | exact hb59 | exact hb57 | assumption) HWZ.out))
        go_wp2
      all_goals
        go_ret
        refine ⟨ret_int ?_, HB2.out⟩
        first | rfl | omega

set_option maxHeartbeats 3200000 in
set_option maxRecDepth 8000 in
theorem value_spec (b : Nat) (hb1 : 1 ≤ b) (hb2 : b ≤ 6) (d : Nat) : VaW 20 b d := by
  induction d using Nat.strongRecOn with
  | _ d ih =>
  intro t a l c va vl vc vs w hr hR hf hv
  have HL := hid hr.len
  have HZ := hid hr.zero
  have HR := hid hr
  have HI := hid ih
  have HRT := hid hR
  have HV := hid hv
  have HF := hid hf
  have hvl := hv.most
  unfold maxLen at hvl
  have hsh := shape_cases (right_shape hr.zero hR)
  rw [hr.len] at hsh
  clear hr ih hR hv hf
  rcases hsh with ⟨h1, h2, h3, h4⟩ | ⟨h1, h2, h3, h4⟩ | ⟨h1, h2, h3⟩
  · rw [val_const h1, h1]
    clear h1
    generalize nn t = n at *
    go_enter Try.func20, Try.ntmps20
    go_wp2
    go_ret
    exact ⟨rfl, (by repeat (first | exact Below.refl _ _ | assumption | refine Below.drew ?_ | refine Below.alloc ?_ (by first | exact Nat.le_refl _ | omega | (simp; done) | (simp; omega)) _ | refine Below.setCell ?_ (by first | exact Nat.le_refl _ | omega | (simp; done) | (simp; omega)) _))⟩
  · have hE := val_var (b := b) (d := d) (vs := vs) h1
    have hlt : nn t < (vl : Int) := by have := HF.out.1; have := HV.out.length; omega
    obtain ⟨n, hn⟩ : ∃ n : Nat, nn t = n := ⟨(nn t).toNat, by omega⟩
    obtain ⟨bb, off, rfl, hc⟩ := HV.out.cell n (by omega)
    have hbw := World.block_lt_of_cell? _ _ hc
    rw [hE, h1, hn]
    simp only [Int.toNat_natCast]
    rw [hn] at hlt h3
    generalize vs[n]?.getD 0 = res at *
    clear hE h1 hn h4
    go_enter Try.func20, Try.ntmps20
    go_wp2
    go_ret
    exact ⟨rfl, (by repeat (first | exact Below.refl _ _ | assumption | refine Below.drew ?_ | refine Below.alloc ?_ (by first | exact Nat.le_refl _ | omega | (simp; done) | (simp; omega)) _ | refine Below.setCell ?_ (by first | exact Nat.le_refl _ | omega | (simp; done) | (simp; omega)) _))⟩
  · have hd : 0 < d := (HR.out.cell (i := 0) (by omega)).1
    obtain ⟨bb, off, rfl, k0, n0, x0, m0, s0, g0, g1, g2, E0, p0, p1⟩ := kid_facts (vc := vc) hb1 hb2 (HI.out (d - 1) (by omega)) HR.out HRT.out HF.out HV.out (i := 0) (by omega)
    obtain ⟨b', off', heq, k1, n1, x1, m1, s1, j0, j1, j2, E1, q0, q1⟩ := kid_facts (vc := vc) hb1 hb2 (HI.out (d - 1) (by omega)) HR.out HRT.out HF.out HV.out (i := 1) (by omega)
    obtain ⟨rfl, rfl⟩ : bb = b' ∧ off = off' := by simpa using heq
    simp only [Nat.zero_mul, Nat.add_zero] at g0 g1 g2
    simp only [Nat.one_mul, Nat.add_assoc, Nat.reduceAdd] at j0 j1 j2
    have hbw := World.block_lt_of_cell? _ _ g0
    rw [val_pos hd, if_neg (by omega), if_neg (by omega), h3]
    subst h2
    clear h3 hd heq HV HF HRT HI HR HL HZ
    have hmm := mod_bounds hb1 hb2
    generalize valW b vs (d - 1) (kid t 0) = e0 at *
    generalize valW b vs (d - 1) (kid t 1) = e1 at *
    rcases h1 with h1 | h1 | h1
    · rw [if_pos h1, h1]
      rcases mod_cases hb1 hb2 with ⟨rfl, e⟩ | ⟨rfl, e⟩ | ⟨rfl, e⟩ | ⟨rfl, e⟩ | ⟨rfl, e⟩ | ⟨rfl, e⟩
      all_goals
        rw [e] at p1 q1 ⊢
        clear e h1 hmm
        go_enter Try.func20, Try.ntmps20
        go_wp2_with fail
        refine (E0.out _ _ rfl (by repeat (first | exact Below.refl _ _ | assumption | refine Below.drew ?_ | refine Below.alloc ?_ (by first | exact Nat.le_refl _ | omega | (simp; done) | (simp; omega)) _ | refine Below.setCell ?_ (by first | exact Nat.le_refl _ | omega | (simp; done) | (simp; omega)) _))).mono ?_
        rintro e w1 ⟨rfl, hb1⟩
        have f0 : w1.cell? ⟨w.heap.size, 0, none⟩ = some (.int .i64 3) := keep hb1 (by simp [go_sem])
        have f2 : w1.cell? ⟨w.heap.size, 2, none⟩ = some (.slice (some ⟨bb, off, none⟩) 2 c) := keep hb1 (by simp [go_sem])
        have HB := hid ((show Below w.heap.size w _ from (by repeat (first | exact Below.refl _ _ | assumption | refine Below.drew ?_ | refine Below.alloc ?_ (by first | exact Nat.le_refl _ | omega | (simp; done) | (simp; omega)) _ | refine Below.setCell ?_ (by first | exact Nat.le_refl _ | omega | (simp; done) | (simp; omega)) _))).trans (hb1.mono (by simp)))
        have hws : w.heap.size < w1.heap.size := World.block_lt_of_cell? _ _ f0
        clear hb1
        replace j0 := keep HB.out j0
        replace j1 := keep HB.out j1
        replace j2 := keep HB.out j2
        go_wp2_with fail
        refine (E1.out _ _ rfl HB.out).mono ?_
        rintro e w2 ⟨rfl, hb2⟩
        replace f0 := keep hb2 f0
        have HB2 := hid (HB.out.trans (hb2.mono HB.out.size))
        clear hb2
        go_wp2
        all_goals
          go_ret
          refine ⟨ret_int ?_, HB2.out⟩
          first | rfl | omega
    · rw [if_neg (by omega), if_pos h1, h1]
      clear h1 hmm
      go_enter Try.func20, Try.ntmps20
      go_wp2_with fail
      refine (E0.out _ _ rfl (by repeat (first | exact Below.refl _ _ | assumption | refine Below.drew ?_ | refine Below.alloc ?_ (by first | exact Nat.le_refl _ | omega | (simp; done) | (simp; omega)) _ | refine Below.setCell ?_ (by first | exact Nat.le_refl _ | omega | (simp; done) | (simp; omega)) _))).mono ?_
      rintro e w1 ⟨rfl, hb1⟩
      have f0 : w1.cell? ⟨w.heap.size, 0, none⟩ = some (.int .i64 4) := keep hb1 (by simp [go_sem])
      have f2 : w1.cell? ⟨w.heap.size, 2, none⟩ = some (.slice (some ⟨bb, off, none⟩) 2 c) := keep hb1 (by simp [go_sem])
      have HB := hid ((show Below w.heap.size w _ from (by repeat (first | exact Below.refl _ _ | assumption | refine Below.drew ?_ | refine Below.alloc ?_ (by first | exact Nat.le_refl _ | omega | (simp; done) | (simp; omega)) _ | refine Below.setCell ?_ (by first | exact Nat.le_refl _ | omega | (simp; done) | (simp; omega)) _))).trans (hb1.mono (by simp)))
      have hws : w.heap.size < w1.heap.size := World.block_lt_of_cell? _ _ f0
      clear hb1
      replace j0 := keep HB.out j0
      replace j1 := keep HB.out j1
      replace j2 := keep HB.out j2
      go_wp2_with fail
      refine (E1.out _ _ rfl HB.out).mono ?_
      rintro e w2 ⟨rfl, hb2⟩
      replace f0 := keep hb2 f0
      have HB2 := hid (HB.out.trans (hb2.mono HB.out.size))
      clear hb2
      go_wp2
      all_goals
        go_ret
        refine ⟨ret_int ?_, HB2.out⟩
        first | rfl | omega
    · rw [if_neg (by omega), if_neg (by omega), h1]
      clear h1
      go_enter Try.func20, Try.ntmps20
      go_wp2_with fail
      refine (E0.out _ _ rfl (by repeat (first | exact Below.refl _ _ | assumption | refine Below.drew ?_ | refine Below.alloc ?_ (by first | exact Nat.le_refl _ | omega | (simp; done) | (simp; omega)) _ | refine Below.setCell ?_ (by first | exact Nat.le_refl _ | omega | (simp; done) | (simp; omega)) _))).mono ?_
      rintro e w1 ⟨rfl, hb1⟩
      have f0 : w1.cell? ⟨w.heap.size, 0, none⟩ = some (.int .i64 5) := keep hb1 (by simp [go_sem])
      have f2 : w1.cell? ⟨w.heap.size, 2, none⟩ = some (.slice (some ⟨bb, off, none⟩) 2 c) := keep hb1 (by simp [go_sem])
      have HB := hid ((show Below w.heap.size w _ from (by repeat (first | exact Below.refl _ _ | assumption | refine Below.drew ?_ | refine Below.alloc ?_ (by first | exact Nat.le_refl _ | omega | (simp; done) | (simp; omega)) _ | refine Below.setCell ?_ (by first | exact Nat.le_refl _ | omega | (simp; done) | (simp; omega)) _))).trans (hb1.mono (by simp)))
      have hws : w.heap.size < w1.heap.size := World.block_lt_of_cell? _ _ f0
      clear hb1
      replace j0 := keep HB.out j0
      replace j1 := keep HB.out j1
      replace j2 := keep HB.out j2
      go_wp2_with fail
      refine (E1.out _ _ rfl HB.out).mono ?_
      rintro e w2 ⟨rfl, hb2⟩
      replace f0 := keep hb2 f0
      have HB2 := hid (HB.out.trans (hb2.mono HB.out.size))
      clear hb2
      go_wp2
      all_goals
        go_ret
        refine ⟨ret_int ?_, HB2.out⟩
        first | rfl | omega
end Go.Proofs.Ytikdadpapdkfiaa.wordVal
