/- What the cards over the table of the codes' words share: from the row's list to the table, and the witness; conditions: none. -/
import Derived.Test.YtijdmgdcnljmnaeDoorCodes
import Derived.Test.YtijdmgdcnljmnaeDoorCards
import Derived.Test.YtijdmgdcnljmnaeDoorTie
import Derived.ProofKit
import Derived.OpenShut
import Derived.ShutString
import Derived.OpenVars
import Derived.SevenTiedAt
import Derived.Deep.DeepHandedRow
import Derived.Lib.LaidTab
namespace Go.Proofs.YtijdmgdcnljmnaeDoor.door
open Go.ChangeShapes Go.WideShapes Go.ChangeAt Go.RowKit base codes

theorem own : ownKnob Tryd.prog.godebug = none := by kernel_rfl
theorem laidOut : laidOutB Tryd.prog = true := by kernel_rfl
theorem gTab : Tryd.prog.globalNamed "loop.example/g00159/impl.codeWords" = some 0 := by kernel_rfl
theorem gTabType : (Tryd.prog.globals[0]?).map (·.type) = some 37 := by kernel_rfl
theorem cells_tab : Tryd.prog.cellsOf 37 = 13 := by kernel_rfl
theorem cells_str : Tryd.prog.cellsOf 9 = 1 := by kernel_rfl

def strData {H : Type} (ss : List ByteArray) : DataW H := .agg (ss.map fun s => .lit (.string s.data.toList))
theorem cells_of_strs {H : Type} {enc : TypeId × Value → H} {P : Program} {w : World} {base : Nat} {sp : Nat → Bool} {held : Bool} {fuel : Nat} {t e : TypeId} {n : Nat} {cs : List Value} {ss : List ByteArray} {p : List MemPlace}
    (ht : P.underlying t = some (.array n e)) (he : P.underlying e = some .string) (hce : P.cellsOf e = 1) (hct : P.cellsOf t = n)
    (h : DataW.trod enc P w base sp held fuel t cs = some (strData ss, p)) : cs = ss.map fun s => Value.string s := by
  cases fuel with
  | zero => simp [DataW.trod] at h
  | succ fuel =>
    simp only [DataW.trod, ht, hce, hct, Nat.mul_one] at h
    split at h
    · rename_i hl
      obtain ⟨xs, hm, hx⟩ := Option.map_eq_some_iff.1 h
      have hxs : xs.map (·.1) = ss.map fun s => (DataW.lit (.string s.data.toList) : DataW H) := by
        have := congrArg Prod.fst hx
        simpa [strData] using this
      have hxl : xs.length = n := by simpa using Lib.mapM_length hm
      have hsl : ss.length = n := by
        have := congrArg List.length hxs
        simp at this
        omega
      apply List.ext_getElem?
      intro i
      by_cases hi : i < n
      · obtain ⟨b, hb, hf⟩ := Lib.mapM_at hm i i (by simp [hi])
        obtain ⟨s, hc, rfl, _⟩ := DataW.trod_string he hf
        have h1 : cs[i]? = some (.string s) := by
          have := congrArg (·[0]?) hc
          simpa [List.getElem?_take, List.getElem?_drop] using this
        have h2 : (xs.map (·.1))[i]? = some (DataW.lit (.string s.data.toList) : DataW H) := by simp [hb]
        rw [hxs] at h2
        simp only [List.getElem?_map, Option.map_eq_some_iff, DataW.lit.injEq, Lit.string.injEq] at h2
        obtain ⟨s', hs', e'⟩ := h2
        have e2 : s' = s := by
          cases s'; cases s
          simp at e'
          rw [e']
        rw [h1]
        simp [hs', e2]
      · rw [List.getElem?_eq_none (by omega), List.getElem?_eq_none (by simp; omega)]
    · cases h

/-- WHAT THE ROW's LIST GIVES: the table's cells hold the words. -/
theorem table {W : World} (h : laidMetH Tryd.prog Rows.fnExactCodeWordRow.laid W) : TableIn W := by
  have h' : laidMet Tryd.prog [("loop.example/g00159/impl.codeWords", strData words)] W := h
  obtain ⟨ps, ⟨g', t', cs, fuel, p, q, hg', ht', hvar, hd, _, _⟩, _⟩ := h'
  obtain rfl := Option.some.inj (gTab.symm.trans hg')
  obtain rfl := Option.some.inj (gTabType.symm.trans ht')
  have hcs := cells_of_strs Tryd.underlying37 Tryd.underlying9 cells_str cells_tab hd
  have hcs' : cs = tab := by rw [← Array.toArray_toList (xs := cs), hcs]; rfl
  refine ⟨fun i hi => ?_, ?_⟩
  · have hv := World.var?_cell gTab hvar i
    rw [hv]
    have : cs[i]? = cs.toList[i]? := by simp
    rw [this, hcs]
    have hl : i < words.length := hi
    rw [List.getElem?_map, List.getElem?_eq_getElem hl]
    rfl
  · have hh := hvar
    simp only [World.var?, gTab, Option.bind_some] at hh
    split at hh
    · rename_i c t fr hb
      simp only [Option.some.injEq] at hh
      exact ⟨t, fr, by rw [hb, hh, hcs']⟩
    · cases hh
end Go.Proofs.YtijdmgdcnljmnaeDoor.door
