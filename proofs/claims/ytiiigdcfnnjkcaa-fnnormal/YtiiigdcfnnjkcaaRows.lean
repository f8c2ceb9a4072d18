/-
  No cell of these rows narrows 'for every input' (looked for: loops, veiled, ifaces, maps, wideKeys, modest, calm, conditions, laid).
  DERIVED. THE GIVEN ROWS OF THIS SEAT. 4 by the template 'for every input the law returns true; each argument reads behind the call as it read before'; 0 by the template 'total and deterministic' (their statements: YtiiigdcfnnjkcaaTotals.lean).
  GIVEN WITH THE SEED: the statements are not yours to turn. If you find one false, say at which input.
  Laid BY PROGRAM, IN A SANDBOX (cutbox-rows.mjs): the forced cells as the released guide's own fill.sh prints them over the translation 67b805ab79a9d495… (all of the seat's roots in one cut). By AI agents, Wed Nov 11 2026. No macro, syntax, notation, axiom, sorry.
-/
import Derived.Test.YtiiigdcfnnjkcaaChecked
import GoSem.Claim
import GoSem.ClaimJoined
import GoSem.ClaimMapViews
import Derived.JoinedTies
import Derived.KernelRfl
namespace Go.Proofs.Ytiiigdcfnnjkcaa
/- THE CELL 'sum', in the pinned program and in every row, IS THE sha256 OF THE DUMP (.gsa) THAT YtiiigdcfnnjkcaaProg.lean LOADS. Nothing in Lean hashes anything: it is a label: what it is worth is what the hold of that sum in a sandbox is worth. -/
noncomputable def Try.pinned : Pinned := { name := "ytiiigdcfnnjkcaa", sum := "67b805ab79a9d49593f8dc2aa367fbf42f145514b9d6ff10c70c4e15cbc57734", checked := Try.checked }
namespace Rows
def none {H : Type} : Left H := { results := [], args := [] }

/-- 'laws.FnNormal': WHATEVER THE INPUT: true; the input reads as it did. -/
def fnNormalSpec : ChangeSpec := { name := "fnNormal", fn := fun _ => fun
  | [d] => { results := [.lit (.bool true)], args := [d] }
  | _ => none }
def fnNormalRow : OpenClaim := { program := "ytiiigdcfnnjkcaa", sum := "67b805ab79a9d49593f8dc2aa367fbf42f145514b9d6ff10c70c4e15cbc57734", func := "loop.example/g00159/laws.FnNormal", spec := "fnNormal", unfollowed := true, recurses := true, apart := false }
def FnNormalSaid : Prop := fnNormalRow.holds Try.pinned (OpenSpec.ofChange fnNormalSpec)

/-- ITS FALSE NEIGHBOUR: 'it returns false'. Refute it at one input. -/
def fnNormalWrong : ChangeSpec := { name := "fnNormal", fn := fun _ => fun
  | [d] => { results := [.lit (.bool false)], args := [d] }
  | _ => none }
def FnNormalWrongFalsely : Prop := fnNormalRow.holds Try.pinned (OpenSpec.ofChange fnNormalWrong)

/-- 'laws.FnResolves': WHATEVER THE INPUT: true; the input reads as it did. -/
def fnResolvesSpec : ChangeSpec := { name := "fnResolves", fn := fun _ => fun
  | [d1, d2] => { results := [.lit (.bool true)], args := [d1, d2] }
  | _ => none }
def fnResolvesRow : OpenClaim := { program := "ytiiigdcfnnjkcaa", sum := "67b805ab79a9d49593f8dc2aa367fbf42f145514b9d6ff10c70c4e15cbc57734", func := "loop.example/g00159/laws.FnResolves", spec := "fnResolves", unfollowed := true, recurses := true, apart := false }
def FnResolvesSaid : Prop := fnResolvesRow.holds Try.pinned (OpenSpec.ofChange fnResolvesSpec)

/-- ITS FALSE NEIGHBOUR: 'it returns false'. Refute it at one input. -/
def fnResolvesWrong : ChangeSpec := { name := "fnResolves", fn := fun _ => fun
  | [d1, d2] => { results := [.lit (.bool false)], args := [d1, d2] }
  | _ => none }
def FnResolvesWrongFalsely : Prop := fnResolvesRow.holds Try.pinned (OpenSpec.ofChange fnResolvesWrong)

/-- 'laws.FnExactNormalCnf': WHATEVER THE INPUT: true; the input reads as it did. -/
def fnExactNormalCnfSpec : ChangeSpec := { name := "fnExactNormalCnf", fn := fun _ => fun
  | [d] => { results := [.lit (.bool true)], args := [d] }
  | _ => none }
def fnExactNormalCnfRow : OpenClaim := { program := "ytiiigdcfnnjkcaa", sum := "67b805ab79a9d49593f8dc2aa367fbf42f145514b9d6ff10c70c4e15cbc57734", func := "loop.example/g00159/laws.FnExactNormalCnf", spec := "fnExactNormalCnf", unfollowed := true, recurses := true, apart := false }
def FnExactNormalCnfSaid : Prop := fnExactNormalCnfRow.holds Try.pinned (OpenSpec.ofChange fnExactNormalCnfSpec)

/-- ITS FALSE NEIGHBOUR: 'it returns false'. Refute it at one input. -/
def fnExactNormalCnfWrong : ChangeSpec := { name := "fnExactNormalCnf", fn := fun _ => fun
  | [d] => { results := [.lit (.bool false)], args := [d] }
  | _ => none }
def FnExactNormalCnfWrongFalsely : Prop := fnExactNormalCnfRow.holds Try.pinned (OpenSpec.ofChange fnExactNormalCnfWrong)

/-- 'laws.FnExactResolve': WHATEVER THE INPUT: true; the input reads as it did. -/
def fnExactResolveSpec : ChangeSpec := { name := "fnExactResolve", fn := fun _ => fun
  | [d1, d2, d3] => { results := [.lit (.bool true)], args := [d1, d2, d3] }
  | _ => none }
def fnExactResolveRow : OpenClaim := { program := "ytiiigdcfnnjkcaa", sum := "67b805ab79a9d49593f8dc2aa367fbf42f145514b9d6ff10c70c4e15cbc57734", func := "loop.example/g00159/laws.FnExactResolve", spec := "fnExactResolve", unfollowed := true, recurses := true, apart := false }
def FnExactResolveSaid : Prop := fnExactResolveRow.holds Try.pinned (OpenSpec.ofChange fnExactResolveSpec)

/-- ITS FALSE NEIGHBOUR: 'it returns false'. Refute it at one input. -/
def fnExactResolveWrong : ChangeSpec := { name := "fnExactResolve", fn := fun _ => fun
  | [d1, d2, d3] => { results := [.lit (.bool false)], args := [d1, d2, d3] }
  | _ => none }
def FnExactResolveWrongFalsely : Prop := fnExactResolveRow.holds Try.pinned (OpenSpec.ofChange fnExactResolveWrong)

/- THE SECOND FORM. 'bulk': how many values and letters a reading holds, each counted each time it is reached (what is shared counts as often as it is met; a slice's spare places count too). A statement '..UptoSaid' is the law's where the arguments, and the package variables that the reading takes, are together of bulk at most 1048576: NARROWER than '..Said'. Prove '..Said' where nothing that the law and all that it calls make is longer than what came in: it says more and counts as full. Else prove '..UptoSaid'. A law counts once. -/
mutual
def uptoBulk {H : Type} : DataW H → Nat
  | .lit (.string bytes) => bytes.length + 1
  | .lit _ => 1
  | .nil => 1
  | .ptr d => uptoBulk d + 1
  | .slice elems spare => uptoBulkAll elems + uptoBulkAll spare + 1
  | .agg parts => uptoBulkAll parts + 1
  | .iface _ d => uptoBulk d + 1
  | .map entries => uptoBulkEntries entries + 1
  | .held _ => 1
def uptoBulkAll {H : Type} : List (DataW H) → Nat
  | [] => 0
  | d :: r => uptoBulk d + uptoBulkAll r
def uptoBulkEntries {H : Type} : List (Lit × DataW H) → Nat
  | [] => 0
  | x :: r => uptoBulkEntry x + uptoBulkEntries r
def uptoBulkEntry {H : Type} : Lit × DataW H → Nat
  | (.string bytes, d) => bytes.length + uptoBulk d + 1
  | (_, d) => uptoBulk d + 1
 end
def uptoSmall : (H : Type) → List (DataW H) → Bool := fun _ ds => decide (uptoBulkAll ds ≤ 1048576)
def OpenSpec.upto (s : _root_.Go.ChangeSpec) : _root_.Go.OpenSpec := { _root_.Go.OpenSpec.ofChange s with cond := some uptoSmall }

/-- 'laws.FnNormal', WHERE WHAT IT READS IS OF BULK AT MOST 1048576: true; the input reads as it did. -/
def fnNormalUptoRow : OpenClaim := { program := "ytiiigdcfnnjkcaa", sum := "67b805ab79a9d49593f8dc2aa367fbf42f145514b9d6ff10c70c4e15cbc57734", func := "loop.example/g00159/laws.FnNormal", spec := "fnNormal", unfollowed := true, recurses := true, apart := false, narrowed := true }
def FnNormalUptoSaid : Prop := fnNormalUptoRow.holds Try.pinned (OpenSpec.upto fnNormalSpec)

/-- 'laws.FnResolves', WHERE WHAT IT READS IS OF BULK AT MOST 1048576: true; the input reads as it did. -/
def fnResolvesUptoRow : OpenClaim := { program := "ytiiigdcfnnjkcaa", sum := "67b805ab79a9d49593f8dc2aa367fbf42f145514b9d6ff10c70c4e15cbc57734", func := "loop.example/g00159/laws.FnResolves", spec := "fnResolves", unfollowed := true, recurses := true, apart := false, narrowed := true }
def FnResolvesUptoSaid : Prop := fnResolvesUptoRow.holds Try.pinned (OpenSpec.upto fnResolvesSpec)

/-- 'laws.FnExactNormalCnf', WHERE WHAT IT READS IS OF BULK AT MOST 1048576: true; the input reads as it did. -/
def fnExactNormalCnfUptoRow : OpenClaim := { program := "ytiiigdcfnnjkcaa", sum := "67b805ab79a9d49593f8dc2aa367fbf42f145514b9d6ff10c70c4e15cbc57734", func := "loop.example/g00159/laws.FnExactNormalCnf", spec := "fnExactNormalCnf", unfollowed := true, recurses := true, apart := false, narrowed := true }
def FnExactNormalCnfUptoSaid : Prop := fnExactNormalCnfUptoRow.holds Try.pinned (OpenSpec.upto fnExactNormalCnfSpec)

/-- 'laws.FnExactResolve', WHERE WHAT IT READS IS OF BULK AT MOST 1048576: true; the input reads as it did. -/
def fnExactResolveUptoRow : OpenClaim := { program := "ytiiigdcfnnjkcaa", sum := "67b805ab79a9d49593f8dc2aa367fbf42f145514b9d6ff10c70c4e15cbc57734", func := "loop.example/g00159/laws.FnExactResolve", spec := "fnExactResolve", unfollowed := true, recurses := true, apart := false, narrowed := true }
def FnExactResolveUptoSaid : Prop := fnExactResolveUptoRow.holds Try.pinned (OpenSpec.upto fnExactResolveSpec)

end Rows
end Go.Proofs.Ytiiigdcfnnjkcaa
