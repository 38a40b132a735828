/-
  No cell of these rows narrows 'for every input' (looked for: loops, veiled, ifaces, maps, wideKeys, modest, calm, conditions, laid).
  DERIVED. THE GIVEN ROWS OF THIS SEAT. 7 by the template 'for every input the law returns true; each argument reads behind the call as it read before'; 0 by the template 'total and deterministic' (their statements: YtahikgdgbgclkaaTotals.lean).
  GIVEN WITH THE SEED: the statements are not yours to turn. If you find one false, say at which input.
  Laid BY PROGRAM, IN A SANDBOX (cutbox-rows.mjs): the forced cells as the released guide's own fill.sh prints them over the translation 010ccf123bb93b6f… (all of the seat's roots in one cut). By AI agents, Wed Nov 11 2026. No macro, syntax, notation, axiom, sorry.
-/
import Derived.Test.YtahikgdgbgclkaaChecked
import GoSem.Claim
import GoSem.ClaimJoined
import GoSem.ClaimMapViews
import Derived.JoinedTies
import Derived.KernelRfl
namespace Go.Proofs.Ytahikgdgbgclkaa
/- THE CELL 'sum', in the pinned program and in every row, IS THE sha256 OF THE DUMP (.gsa) THAT YtahikgdgbgclkaaProg.lean LOADS. Nothing in Lean hashes anything: it is a label: what it is worth is what the hold of that sum in a sandbox is worth. -/
noncomputable def Try.pinned : Pinned := { name := "ytahikgdgbgclkaa", sum := "010ccf123bb93b6fdc93569536bf082ec1806dbe24cbccdb3c2f571be285dbdb", checked := Try.checked }
namespace Rows
def none {H : Type} : Left H := { results := [], args := [] }

/-- 'emendatelaw06.TextdiffDistanceMatchesReference': WHATEVER THE INPUT: true; the input reads as it did. -/
def textdiffDistanceMatchesReferenceSpec : ChangeSpec := { name := "textdiffDistanceMatchesReference", fn := fun _ => fun
  | [d1, d2] => { results := [.lit (.bool true)], args := [d1, d2] }
  | _ => none }
def textdiffDistanceMatchesReferenceRow : OpenClaim := { program := "ytahikgdgbgclkaa", sum := "010ccf123bb93b6fdc93569536bf082ec1806dbe24cbccdb3c2f571be285dbdb", func := "emendate/emendatelaw06.TextdiffDistanceMatchesReference", spec := "textdiffDistanceMatchesReference", unfollowed := true, recurses := true, apart := false }
def TextdiffDistanceMatchesReferenceSaid : Prop := textdiffDistanceMatchesReferenceRow.holds Try.pinned (OpenSpec.ofChange textdiffDistanceMatchesReferenceSpec)

/-- ITS FALSE NEIGHBOUR: 'it returns false'. Refute it at one input. -/
def textdiffDistanceMatchesReferenceWrong : ChangeSpec := { name := "textdiffDistanceMatchesReference", fn := fun _ => fun
  | [d1, d2] => { results := [.lit (.bool false)], args := [d1, d2] }
  | _ => none }
def TextdiffDistanceMatchesReferenceWrongFalsely : Prop := textdiffDistanceMatchesReferenceRow.holds Try.pinned (OpenSpec.ofChange textdiffDistanceMatchesReferenceWrong)

/-- 'emendatelaw06.TextdiffMetric': WHATEVER THE INPUT: true; the input reads as it did. -/
def textdiffMetricSpec : ChangeSpec := { name := "textdiffMetric", fn := fun _ => fun
  | [d1, d2, d3] => { results := [.lit (.bool true)], args := [d1, d2, d3] }
  | _ => none }
def textdiffMetricRow : OpenClaim := { program := "ytahikgdgbgclkaa", sum := "010ccf123bb93b6fdc93569536bf082ec1806dbe24cbccdb3c2f571be285dbdb", func := "emendate/emendatelaw06.TextdiffMetric", spec := "textdiffMetric", unfollowed := true, recurses := true, apart := false }
def TextdiffMetricSaid : Prop := textdiffMetricRow.holds Try.pinned (OpenSpec.ofChange textdiffMetricSpec)

/-- ITS FALSE NEIGHBOUR: 'it returns false'. Refute it at one input. -/
def textdiffMetricWrong : ChangeSpec := { name := "textdiffMetric", fn := fun _ => fun
  | [d1, d2, d3] => { results := [.lit (.bool false)], args := [d1, d2, d3] }
  | _ => none }
def TextdiffMetricWrongFalsely : Prop := textdiffMetricRow.holds Try.pinned (OpenSpec.ofChange textdiffMetricWrong)

/-- 'emendatelaw06.TextdiffCommonParts': WHATEVER THE INPUT: true; the input reads as it did. -/
def textdiffCommonPartsSpec : ChangeSpec := { name := "textdiffCommonParts", fn := fun _ => fun
  | [d1, d2, d3] => { results := [.lit (.bool true)], args := [d1, d2, d3] }
  | _ => none }
def textdiffCommonPartsRow : OpenClaim := { program := "ytahikgdgbgclkaa", sum := "010ccf123bb93b6fdc93569536bf082ec1806dbe24cbccdb3c2f571be285dbdb", func := "emendate/emendatelaw06.TextdiffCommonParts", spec := "textdiffCommonParts", unfollowed := true, recurses := true, apart := false }
def TextdiffCommonPartsSaid : Prop := textdiffCommonPartsRow.holds Try.pinned (OpenSpec.ofChange textdiffCommonPartsSpec)

/-- ITS FALSE NEIGHBOUR: 'it returns false'. Refute it at one input. -/
def textdiffCommonPartsWrong : ChangeSpec := { name := "textdiffCommonParts", fn := fun _ => fun
  | [d1, d2, d3] => { results := [.lit (.bool false)], args := [d1, d2, d3] }
  | _ => none }
def TextdiffCommonPartsWrongFalsely : Prop := textdiffCommonPartsRow.holds Try.pinned (OpenSpec.ofChange textdiffCommonPartsWrong)

/-- 'emendatelaw06.TextdiffDiffMatchesReference': WHATEVER THE INPUT: true; the input reads as it did. -/
def textdiffDiffMatchesReferenceSpec : ChangeSpec := { name := "textdiffDiffMatchesReference", fn := fun _ => fun
  | [d1, d2] => { results := [.lit (.bool true)], args := [d1, d2] }
  | _ => none }
def textdiffDiffMatchesReferenceRow : OpenClaim := { program := "ytahikgdgbgclkaa", sum := "010ccf123bb93b6fdc93569536bf082ec1806dbe24cbccdb3c2f571be285dbdb", func := "emendate/emendatelaw06.TextdiffDiffMatchesReference", spec := "textdiffDiffMatchesReference", unfollowed := true, recurses := true, apart := false }
def TextdiffDiffMatchesReferenceSaid : Prop := textdiffDiffMatchesReferenceRow.holds Try.pinned (OpenSpec.ofChange textdiffDiffMatchesReferenceSpec)

/-- ITS FALSE NEIGHBOUR: 'it returns false'. Refute it at one input. -/
def textdiffDiffMatchesReferenceWrong : ChangeSpec := { name := "textdiffDiffMatchesReference", fn := fun _ => fun
  | [d1, d2] => { results := [.lit (.bool false)], args := [d1, d2] }
  | _ => none }
def TextdiffDiffMatchesReferenceWrongFalsely : Prop := textdiffDiffMatchesReferenceRow.holds Try.pinned (OpenSpec.ofChange textdiffDiffMatchesReferenceWrong)

/-- 'emendatelaw06.TextdiffDiffTransforms': WHATEVER THE INPUT: true; the input reads as it did. -/
def textdiffDiffTransformsSpec : ChangeSpec := { name := "textdiffDiffTransforms", fn := fun _ => fun
  | [d1, d2] => { results := [.lit (.bool true)], args := [d1, d2] }
  | _ => none }
def textdiffDiffTransformsRow : OpenClaim := { program := "ytahikgdgbgclkaa", sum := "010ccf123bb93b6fdc93569536bf082ec1806dbe24cbccdb3c2f571be285dbdb", func := "emendate/emendatelaw06.TextdiffDiffTransforms", spec := "textdiffDiffTransforms", unfollowed := true, recurses := true, apart := false }
def TextdiffDiffTransformsSaid : Prop := textdiffDiffTransformsRow.holds Try.pinned (OpenSpec.ofChange textdiffDiffTransformsSpec)

/-- ITS FALSE NEIGHBOUR: 'it returns false'. Refute it at one input. -/
def textdiffDiffTransformsWrong : ChangeSpec := { name := "textdiffDiffTransforms", fn := fun _ => fun
  | [d1, d2] => { results := [.lit (.bool false)], args := [d1, d2] }
  | _ => none }
def TextdiffDiffTransformsWrongFalsely : Prop := textdiffDiffTransformsRow.holds Try.pinned (OpenSpec.ofChange textdiffDiffTransformsWrong)

/-- 'emendatelaw06.TextdiffHullTransforms': WHATEVER THE INPUT: true; the input reads as it did. -/
def textdiffHullTransformsSpec : ChangeSpec := { name := "textdiffHullTransforms", fn := fun _ => fun
  | [d1, d2] => { results := [.lit (.bool true)], args := [d1, d2] }
  | _ => none }
def textdiffHullTransformsRow : OpenClaim := { program := "ytahikgdgbgclkaa", sum := "010ccf123bb93b6fdc93569536bf082ec1806dbe24cbccdb3c2f571be285dbdb", func := "emendate/emendatelaw06.TextdiffHullTransforms", spec := "textdiffHullTransforms", unfollowed := true, recurses := true, apart := false }
def TextdiffHullTransformsSaid : Prop := textdiffHullTransformsRow.holds Try.pinned (OpenSpec.ofChange textdiffHullTransformsSpec)

/-- ITS FALSE NEIGHBOUR: 'it returns false'. Refute it at one input. -/
def textdiffHullTransformsWrong : ChangeSpec := { name := "textdiffHullTransforms", fn := fun _ => fun
  | [d1, d2] => { results := [.lit (.bool false)], args := [d1, d2] }
  | _ => none }
def TextdiffHullTransformsWrongFalsely : Prop := textdiffHullTransformsRow.holds Try.pinned (OpenSpec.ofChange textdiffHullTransformsWrong)

/-- 'emendatelaw06.TextdiffOneEdit': WHATEVER THE INPUT: true; the input reads as it did. -/
def textdiffOneEditSpec : ChangeSpec := { name := "textdiffOneEdit", fn := fun _ => fun
  | [d1, d2] => { results := [.lit (.bool true)], args := [d1, d2] }
  | _ => none }
def textdiffOneEditRow : OpenClaim := { program := "ytahikgdgbgclkaa", sum := "010ccf123bb93b6fdc93569536bf082ec1806dbe24cbccdb3c2f571be285dbdb", func := "emendate/emendatelaw06.TextdiffOneEdit", spec := "textdiffOneEdit", unfollowed := true, recurses := true, apart := false }
def TextdiffOneEditSaid : Prop := textdiffOneEditRow.holds Try.pinned (OpenSpec.ofChange textdiffOneEditSpec)

/-- ITS FALSE NEIGHBOUR: 'it returns false'. Refute it at one input. -/
def textdiffOneEditWrong : ChangeSpec := { name := "textdiffOneEdit", fn := fun _ => fun
  | [d1, d2] => { results := [.lit (.bool false)], args := [d1, d2] }
  | _ => none }
def TextdiffOneEditWrongFalsely : Prop := textdiffOneEditRow.holds Try.pinned (OpenSpec.ofChange textdiffOneEditWrong)

/- THE SECOND FORM. 'bulk': how many values and letters a reading holds, each counted each time it is reached (what is shared counts as often as it is met; a slice's spare places count too). A statement '..UptoSaid' is the law's where the arguments, and the package variables that the reading takes, are together of bulk at most 1048576: NARROWER than '..Said'. Prove '..Said' where nothing that the law and all that it calls make is longer than what came in: it says more and counts as full. Else prove '..UptoSaid'. A law counts once. -/
mutual
def uptoBulk {H : Type} : DataW H → Nat
  | .lit (.string bytes) => bytes.length + 1
  | .lit _ => 1
  | .nil => 1
  | .ptr d => uptoBulk d + 1
  | .slice elems spare => uptoBulkAll elems + uptoBulkAll spare + 1
  | .agg parts => uptoBulkAll parts + 1
  | .iface _ d => uptoBulk d + 1
  | .map entries => uptoBulkEntries entries + 1
  | .held _ => 1
def uptoBulkAll {H : Type} : List (DataW H) → Nat
  | [] => 0
  | d :: r => uptoBulk d + uptoBulkAll r
def uptoBulkEntries {H : Type} : List (Lit × DataW H) → Nat
  | [] => 0
  | x :: r => uptoBulkEntry x + uptoBulkEntries r
def uptoBulkEntry {H : Type} : Lit × DataW H → Nat
  | (.string bytes, d) => bytes.length + uptoBulk d + 1
  | (_, d) => uptoBulk d + 1
 end
def uptoSmall : (H : Type) → List (DataW H) → Bool := fun _ ds => decide (uptoBulkAll ds ≤ 1048576)
def OpenSpec.upto (s : _root_.Go.ChangeSpec) : _root_.Go.OpenSpec := { _root_.Go.OpenSpec.ofChange s with cond := some uptoSmall }

/-- 'emendatelaw06.TextdiffDistanceMatchesReference', WHERE WHAT IT READS IS OF BULK AT MOST 1048576: true; the input reads as it did. -/
def textdiffDistanceMatchesReferenceUptoRow : OpenClaim := { program := "ytahikgdgbgclkaa", sum := "010ccf123bb93b6fdc93569536bf082ec1806dbe24cbccdb3c2f571be285dbdb", func := "emendate/emendatelaw06.TextdiffDistanceMatchesReference", spec := "textdiffDistanceMatchesReference", unfollowed := true, recurses := true, apart := false, narrowed := true }
def TextdiffDistanceMatchesReferenceUptoSaid : Prop := textdiffDistanceMatchesReferenceUptoRow.holds Try.pinned (OpenSpec.upto textdiffDistanceMatchesReferenceSpec)

/-- 'emendatelaw06.TextdiffMetric', WHERE WHAT IT READS IS OF BULK AT MOST 1048576: true; the input reads as it did. -/
def textdiffMetricUptoRow : OpenClaim := { program := "ytahikgdgbgclkaa", sum := "010ccf123bb93b6fdc93569536bf082ec1806dbe24cbccdb3c2f571be285dbdb", func := "emendate/emendatelaw06.TextdiffMetric", spec := "textdiffMetric", unfollowed := true, recurses := true, apart := false, narrowed := true }
def TextdiffMetricUptoSaid : Prop := textdiffMetricUptoRow.holds Try.pinned (OpenSpec.upto textdiffMetricSpec)

/-- 'emendatelaw06.TextdiffCommonParts', WHERE WHAT IT READS IS OF BULK AT MOST 1048576: true; the input reads as it did. -/
def textdiffCommonPartsUptoRow : OpenClaim := { program := "ytahikgdgbgclkaa", sum := "010ccf123bb93b6fdc93569536bf082ec1806dbe24cbccdb3c2f571be285dbdb", func := "emendate/emendatelaw06.TextdiffCommonParts", spec := "textdiffCommonParts", unfollowed := true, recurses := true, apart := false, narrowed := true }
def TextdiffCommonPartsUptoSaid : Prop := textdiffCommonPartsUptoRow.holds Try.pinned (OpenSpec.upto textdiffCommonPartsSpec)

/-- 'emendatelaw06.TextdiffDiffMatchesReference', WHERE WHAT IT READS IS OF BULK AT MOST 1048576: true; the input reads as it did. -/
def textdiffDiffMatchesReferenceUptoRow : OpenClaim := { program := "ytahikgdgbgclkaa", sum := "010ccf123bb93b6fdc93569536bf082ec1806dbe24cbccdb3c2f571be285dbdb", func := "emendate/emendatelaw06.TextdiffDiffMatchesReference", spec := "textdiffDiffMatchesReference", unfollowed := true, recurses := true, apart := false, narrowed := true }
def TextdiffDiffMatchesReferenceUptoSaid : Prop := textdiffDiffMatchesReferenceUptoRow.holds Try.pinned (OpenSpec.upto textdiffDiffMatchesReferenceSpec)

/-- 'emendatelaw06.TextdiffDiffTransforms', WHERE WHAT IT READS IS OF BULK AT MOST 1048576: true; the input reads as it did. -/
def textdiffDiffTransformsUptoRow : OpenClaim := { program := "ytahikgdgbgclkaa", sum := "010ccf123bb93b6fdc93569536bf082ec1806dbe24cbccdb3c2f571be285dbdb", func := "emendate/emendatelaw06.TextdiffDiffTransforms", spec := "textdiffDiffTransforms", unfollowed := true, recurses := true, apart := false, narrowed := true }
def TextdiffDiffTransformsUptoSaid : Prop := textdiffDiffTransformsUptoRow.holds Try.pinned (OpenSpec.upto textdiffDiffTransformsSpec)

/-- 'emendatelaw06.TextdiffHullTransforms', WHERE WHAT IT READS IS OF BULK AT MOST 1048576: true; the input reads as it did. -/
def textdiffHullTransformsUptoRow : OpenClaim := { program := "ytahikgdgbgclkaa", sum := "010ccf123bb93b6fdc93569536bf082ec1806dbe24cbccdb3c2f571be285dbdb", func := "emendate/emendatelaw06.TextdiffHullTransforms", spec := "textdiffHullTransforms", unfollowed := true, recurses := true, apart := false, narrowed := true }
def TextdiffHullTransformsUptoSaid : Prop := textdiffHullTransformsUptoRow.holds Try.pinned (OpenSpec.upto textdiffHullTransformsSpec)

/-- 'emendatelaw06.TextdiffOneEdit', WHERE WHAT IT READS IS OF BULK AT MOST 1048576: true; the input reads as it did. -/
def textdiffOneEditUptoRow : OpenClaim := { program := "ytahikgdgbgclkaa", sum := "010ccf123bb93b6fdc93569536bf082ec1806dbe24cbccdb3c2f571be285dbdb", func := "emendate/emendatelaw06.TextdiffOneEdit", spec := "textdiffOneEdit", unfollowed := true, recurses := true, apart := false, narrowed := true }
def TextdiffOneEditUptoSaid : Prop := textdiffOneEditUptoRow.holds Try.pinned (OpenSpec.upto textdiffOneEditSpec)

end Rows
end Go.Proofs.Ytahikgdgbgclkaa
