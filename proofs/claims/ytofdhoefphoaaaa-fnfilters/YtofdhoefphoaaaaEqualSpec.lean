/- EqualEx of the specification: for all rows of expressions that lie in memory; conditions: none. -/
import Derived.Test.YtofdhoefphoaaaaRowsSpec
import Derived.Test.YtofdhoefphoaaaaFaceImpl
namespace Go.Proofs.Ytofdhoefphoaaaa.equalSpec
open Go.RowKit Go.Deep Go base trees built heldStore drawn ownTree ownEx ownExE treeSpec rowsImpl copySpec rowsSpec equalImpl lessImpl faceImpl
set_option linter.unusedVariables false

theorem nz_q {q : Nat → Prop} {B : Nat} {w : World} {M D : Nat} {t : T} {a : Option Addr} {l : Nat} (h : Rd (Nz q B w) M w D t a l) {q' : Nat → Prop} (h1 : ∀ b, q b → q' b) (h2 : ∀ b, B ≤ b → q' b) : Rd q' M w D t a l :=
  h.imp fun b hb => by
    rcases hb with hb | hb
    · exact h1 b hb.1
    · exact h2 b hb.1
theorem rowsC_zero {d : Nat} {A B : T} {la lb : Nat} (h : rowsC d A B la lb = 0) : la = lb ∧ la ≤ 6 ∧ allOk d A la = true ∧ allOk d B la = true := by
  unfold rowsC at h
  split at h
  · omega
  · split at h
    · omega
    · split at h
      · omega
      · rename_i h1 h2 h3
        obtain rfl : la = lb := by omega
        refine ⟨rfl, by omega, ?_, ?_⟩
        · cases h' : allOk d A la with
          | true => rfl
          | false => exact absurd (.inl h') h3
        · cases h' : allOk d B la with
          | true => rfl
          | false => exact absurd (.inr h') h3

end Go.Proofs.Ytofdhoefphoaaaa.equalSpec
