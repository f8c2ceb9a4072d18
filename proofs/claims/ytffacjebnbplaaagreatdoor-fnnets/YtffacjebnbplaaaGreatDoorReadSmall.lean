/- What the readers of a network's lines ask, of the program: forms, names' numbers, a text's copy; conditions: rows in memory. -/
import Derived.Test.YtffacjebnbplaaaGreatDoorPart10
import Derived.Test.YtffacjebnbplaaaGreatDoorPart11
namespace Go.Proofs.YtffacjebnbplaaaGreatDoor.readSmall
open Go.RowKit Go.Deep Go base netSem netLines netBytes netImpl askWords askSem readMath readNew readMem
set_option linter.unusedVariables false

theorem results_tmp3 {fn : Func} {p u v : Tmp} (h : fn.results = #[.tmp p, .tmp u, .tmp v]) (tmps : Array Value) (P : Program) (w : World) :
    (results fn tmps).run P w = .ok (.tuple #[tmps.getD p undef, tmps.getD u undef, tmps.getD v undef]) w := by
  simp only [results, h]
  simp
theorem results_c2 {fn : Func} {p u : Tmp} {ty : TypeId} (h : fn.results = #[.cell p ty, .tmp u]) (tmps : Array Value) (P : Program) (w : World) :
    (results fn tmps).run P w =
      ((asAddr (tmps.getD p undef)).run P w).andThen fun a w₁ => ((loadVar ty a).run P w₁).andThen fun v w₂ => .ok (.tuple #[v, tmps.getD u undef]) w₂ := by
  simp only [results, h]
  simp
theorem results_c3 {fn : Func} {p u u2 : Tmp} {ty : TypeId} (h : fn.results = #[.cell p ty, .tmp u, .tmp u2]) (tmps : Array Value) (P : Program) (w : World) :
    (results fn tmps).run P w =
      ((asAddr (tmps.getD p undef)).run P w).andThen fun a w₁ => ((loadVar ty a).run P w₁).andThen fun v w₂ => .ok (.tuple #[v, tmps.getD u undef, tmps.getD u2 undef]) w₂ := by
  simp only [results, h]
  simp
def formAt (R form : List Wd) (i : Nat) : Bool := (form.getD i [] == []) || (form.getD i [] == R.getD i [])
def formB (R form : List Wd) : Bool := decide (R.length = form.length) && allN (formAt R form) form.length
theorem piece_list (l : Wd) : (piece l).toList = l := numbers.toList_data _
set_option maxHeartbeats 1600000 in
theorem form_impl (A : Nat) (a : Option Addr) (c : Nat) (R form : List Wd) (fb : Nat) (w : World) (hR : TRow A w a c R) (hF : ∀ i x, form[i]? = some x → w.cell? ⟨fb, i, none⟩ = some (.string (piece x))) (hm : form.length ≤ 100) :
    Calls Tryz.prog 63 #[.slice a R.length c, .slice (some ⟨fb, 0, none⟩) form.length form.length] w fun e w' => e = .returned (.bool (formB R form)) ∧ w' = w := by
  have hcap := hR.cap
  have hmost := hR.most
  unfold maxLen at hmost
  have HR := hid hR.cell
  have HF := hid hF
  clear hR hF
  by_cases hl : R.length = form.length
  · have hq : ((R.length : Int) == (form.length : Int)) = true := by simp [hl]
    have HB : Hid (formB R form = allN (formAt R form) form.length) := by
      show _ = _
      unfold formB
      rw [decide_eq_true hl, Bool.true_and]
    go_enter Tryz.func63, Tryz.ntmps63
    go_wp2
    go_loop [14] (fun i => ∃ k : Nat, k ≤ form.length ∧ i = .int .i64 k ∧ ∀ j, j < k → formAt R form j = true) (fun i => form.length - (intOf i).toNat)
    case atStart => exact ⟨0, Nat.zero_le _, rfl, fun j hj => absurd hj (Nat.not_lt_zero _)⟩
    case round =>
      obtain ⟨k, hk, rfl, ha⟩ := hrel
      have HA := hid ha
      clear ha
      by_cases hlt : k < form.length
      · have hlr : k < R.length := by omega
        have hf := HF.out k _ (List.getElem?_eq_getElem hlt)
        obtain ⟨b, off, rfl, hb, hr⟩ := HR.out k _ (List.getElem?_eq_getElem hlr)
        have HE : Hid (formAt R form k = ((form[k] == []) || (form[k] == R[k]))) := by
          show _ = _
          unfold formAt
          rw [List.getD_eq_getElem?_getD, List.getD_eq_getElem?_getD, List.getElem?_eq_getElem hlt, List.getElem?_eq_getElem hlr]
          rfl
        generalize form[k] = fw at *
        generalize R[k] = rw0 at *
        cases h1 : (fw == ([] : Wd)) with
        | true =>
          have e1 : ((piece fw).toList == ([] : List UInt8)) = true := by rw [piece_list]; exact h1
          have HE2 : Hid (formAt R form k = true) := by show _ = _; rw [HE.out, h1]; rfl
          clear h1 HE
          go_wp2
          go_round
          case rel =>
            refine ⟨k + 1, by omega, by go_num, fun j hj => ?_⟩
            by_cases e : j = k
            · subst e; exact HE2.out
            · exact HA.out j (by omega)
          case measure => simp [intOf]; omega
        | false =>
          have e1 : ((piece fw).toList == ([] : List UInt8)) = false := by rw [piece_list]; exact h1
          cases h2 : (fw == rw0) with
          | true =>
            have e2 : ((piece fw).toList == (piece rw0).toList) = true := by rw [piece_list, piece_list]; exact h2
            have HE2 : Hid (formAt R form k = true) := by show _ = _; rw [HE.out, h2]; simp
            clear h1 h2 HE
            go_wp2
            go_round
            case rel =>
              refine ⟨k + 1, by omega, by go_num, fun j hj => ?_⟩
              by_cases e : j = k
              · subst e; exact HE2.out
              · exact HA.out j (by omega)
            case measure => simp [intOf]; omega
          | false =>
            have e2 : ((piece fw).toList == (piece rw0).toList) = false := by rw [piece_list, piece_list]; exact h2
            have HE2 : Hid (formAt R form k = false) := by show _ = _; rw [HE.out, h1, h2]; rfl
            clear h1 h2 HE
            go_wp2
            go_ret
            exact ⟨ret_bool (by rw [HB.out, allN_false hlt HE2.out]), rfl⟩
      · have e : k = form.length := by omega
        have hdk : decide ((k : Int) < (form.length : Int)) = false := decide_eq_false (by omega)
        have HA2 : Hid (allN (formAt R form) form.length = true) := hid (allN_of fun j hj => HA.out j (by omega))
        clear HA
        go_wp2
        go_ret
        exact ⟨ret_bool (by rw [HB.out, HA2.out]), rfl⟩
  · have hq : ((R.length : Int) == (form.length : Int)) = false := beq_eq_false_iff_ne.2 (by omega)
    have HB : Hid (formB R form = false) := by
      show _ = _
      unfold formB
      rw [decide_eq_false hl, Bool.false_and]
    clear hl
    go_enter Tryz.func63, Tryz.ntmps63
    go_wp2
    go_ret
    exact ⟨ret_bool HB.out.symm, rfl⟩
set_option maxHeartbeats 800000 in
theorem number_impl (M : Nat) (a : Option Addr) (n c : Nat) (s : Ss) (t : ByteArray) (i : Nat) (w : World) (hc : w.cell? ⟨M, 0, none⟩ = some (.slice a n c)) (hr : StrRow w a n s) (ht : names.nameB t = true) (hi : nameAt s n t = i) :
    Calls Tryz.prog 83 #[.pointer (some ⟨M, 0, none⟩), .string t] w fun e w' => e = .returned (.tuple #[.int .i64 i, .int .i64 0]) ∧ w' = w := by
  have hsz : t.size ≤ maxLen := by
    simp only [names.nameB, Bool.and_eq_true, decide_eq_true_eq] at ht
    unfold maxLen
    omega
  have HN := hid (names.name_impl t w hsz)
  have HI := hid (index_str a n c s t w hr)
  rw [ht] at HN
  rw [hi] at HI
  clear ht hr hsz hi
  go_enter Tryz.func83, Tryz.ntmps83
  go_wp2_with fail
  refine HN.out.mono ?_
  rintro e w' ⟨rfl, rfl⟩
  go_wp2_with fail
  refine HI.out.mono ?_
  rintro e w' ⟨rfl, rfl⟩
  go_wp2
  go_ret2
  exact ⟨rfl, rfl⟩
set_option maxHeartbeats 800000 in
theorem two_impl (M : Nat) (a : Option Addr) (n c : Nat) (s : Ss) (t u : ByteArray) (i j : Nat) (w : World) (hc : w.cell? ⟨M, 0, none⟩ = some (.slice a n c)) (hr : StrRow w a n s) (ht : names.nameB t = true) (hi : nameAt s n t = i) (hu : names.nameB u = true) (hj : nameAt s n u = j) :
    Calls Tryz.prog 65 #[.pointer (some ⟨M, 0, none⟩), .string t, .string u] w fun e w' => e = .returned (.tuple #[.int .i64 i, .int .i64 j, .int .i64 0]) ∧ w' = w := by
  have H1 := hid (number_impl M a n c s t i w hc hr ht hi)
  have H2 := hid (number_impl M a n c s u j w hc hr hu hj)
  clear hc hr ht hu hi hj
  go_enter Tryz.func65, Tryz.ntmps65
  go_wp2_with fail
  refine H1.out.mono ?_
  rintro e w' ⟨rfl, rfl⟩
  go_wp2_with fail
  refine H2.out.mono ?_
  rintro e w' ⟨rfl, rfl⟩
  go_wp2
  refine bodyPost_ret (v := .tuple #[.int .i64 i, .int .i64 j, .int .i64 0]) (by rw [results_tmp3 rfl]; go_simp) rfl ?_
  exact ⟨rfl, rfl⟩
theorem clone_impl (t : ByteArray) (w : World) (h : t.size ≤ 1048576) :
    Calls Tryz.prog 82 #[.string t] w fun e w' => e = .returned (.string t) ∧ Below w.heap.size w w' := by
  have HC := hid (AnyPu.stringslite_Clone Tryz.laysPu25 t w (by omega))
  go_enter Tryz.func82, Tryz.ntmps82
  go_wp2_with fail
  refine HC.out.mono ?_
  rintro e w' ⟨rfl, hb⟩
  have HB := hid hb
  clear hb HC
  go_wp2
  go_ret
  exact ⟨rfl, HB.out⟩
theorem prefix_impl (s p : ByteArray) (w : World) :
    Calls Tryz.prog 44 #[.string s, .string p] w fun e w' => e = .returned (.bool (Lib.hasPrefix s.data.toList p.data.toList)) ∧ w' = w := by
  have h := Any.strings_HasPrefix Tryz.lays99 s p w
  change Calls Tryz.prog 44 _ _ _ at h
  exact h
end Go.Proofs.YtffacjebnbplaaaGreatDoor.readSmall
