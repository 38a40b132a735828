/-
  NARROWER THAN 'FOR EVERY INPUT', by the rows' own cells (each row's printed sentence says how): NfaValidMatchesReference: laid · NfaClosureIsLeastFixpoint: laid · NfaStepMatchesReference: laid · NfaStepIsMonotone: laid · NfaRunMatchesReference: laid · NfaRunIsCompositional: laid · NfaFromRegexesMatches: loops, laid · NfaFromRegexesErrors: loops, laid.
  DERIVED. THE GIVEN ROWS OF THIS SEAT. 8 by the template 'for every input the law returns true; each argument reads behind the call as it read before'; 0 by the template 'total and deterministic' (their statements: YtogpnlkjcdedlaaDoorTotals.lean).
  GIVEN WITH THE SEED: the statements are not yours to turn. If you find one false, say at which input.
  Laid BY PROGRAM, IN A SANDBOX (cutbox-rows.mjs): the forced cells as the released guide's own fill.sh prints them over the translation af6576760bae1b16… (all of the seat's roots in one cut). By AI agents, Wed Nov 11 2026. No macro, syntax, notation, axiom, sorry.
-/
import Derived.Test.YtogpnlkjcdedlaaDoorChecked
import GoSem.Claim
import GoSem.ClaimJoined
import GoSem.ClaimMapViews
import Derived.JoinedTies
import Derived.KernelRfl
namespace Go.Proofs.YtogpnlkjcdedlaaDoor
/- THE CELL 'sum', in the pinned program and in every row, IS THE sha256 OF THE DUMP (.gsa) THAT YtogpnlkjcdedlaaDoorProg.lean LOADS. Nothing in Lean hashes anything: it is a label: what it is worth is what the hold of that sum in a sandbox is worth. -/
noncomputable def Tryd.pinned : Pinned := { name := "ytogpnlkjcdedlaadoor", sum := "af6576760bae1b1663afbc59f157913230ac2b8685e4ee704d007e1b11805690", checked := Tryd.checked }
namespace Rows
def none {H : Type} : Left H := { results := [], args := [] }

/- WHAT THE LISTED PACKAGE-LEVEL VARIABLES READ AS WHEN THE CALL BEGINS. Each datum BY PROGRAM (the guide's laid-datum.mjs) off the statement by which the dump's own 'gosem.cut.vars' lays the variable. In a bare row this is a premise. The card (YtogpnlkjcdedlaaDoorCards.lean) ties it to the program's text. -/
def laid_math_bits_deBruijn64tab {H : Type} : DataW H := .agg [.lit (.int .u8 0), .lit (.int .u8 1), .lit (.int .u8 56), .lit (.int .u8 2), .lit (.int .u8 57), .lit (.int .u8 49), .lit (.int .u8 28), .lit (.int .u8 3), .lit (.int .u8 61), .lit (.int .u8 58), .lit (.int .u8 42), .lit (.int .u8 50), .lit (.int .u8 38), .lit (.int .u8 29), .lit (.int .u8 17), .lit (.int .u8 4), .lit (.int .u8 62), .lit (.int .u8 47), .lit (.int .u8 59), .lit (.int .u8 36), .lit (.int .u8 45), .lit (.int .u8 43), .lit (.int .u8 51), .lit (.int .u8 22), .lit (.int .u8 53), .lit (.int .u8 39), .lit (.int .u8 33), .lit (.int .u8 30), .lit (.int .u8 24), .lit (.int .u8 18), .lit (.int .u8 12), .lit (.int .u8 5), .lit (.int .u8 63), .lit (.int .u8 55), .lit (.int .u8 48), .lit (.int .u8 27), .lit (.int .u8 60), .lit (.int .u8 41), .lit (.int .u8 37), .lit (.int .u8 16), .lit (.int .u8 46), .lit (.int .u8 35), .lit (.int .u8 44), .lit (.int .u8 21), .lit (.int .u8 52), .lit (.int .u8 32), .lit (.int .u8 23), .lit (.int .u8 11), .lit (.int .u8 54), .lit (.int .u8 26), .lit (.int .u8 40), .lit (.int .u8 15), .lit (.int .u8 34), .lit (.int .u8 20), .lit (.int .u8 31), .lit (.int .u8 10), .lit (.int .u8 25), .lit (.int .u8 14), .lit (.int .u8 19), .lit (.int .u8 9), .lit (.int .u8 13), .lit (.int .u8 8), .lit (.int .u8 7), .lit (.int .u8 6)]

/-- 'emendatelaw09.NfaValidMatchesReference': WHATEVER THE INPUT: true; the input reads as it did. -/
def nfaValidMatchesReferenceSpec : ChangeSpec := { name := "nfaValidMatchesReference", fn := fun _ => fun
  | [d] => { results := [.lit (.bool true)], args := [d] }
  | _ => none }
def nfaValidMatchesReferenceRow : OpenClaim := { program := "ytogpnlkjcdedlaadoor", sum := "af6576760bae1b1663afbc59f157913230ac2b8685e4ee704d007e1b11805690", func := "emendate/emendatelaw09.NfaValidMatchesReference", spec := "nfaValidMatchesReference", unfollowed := true, recurses := true, named := ["math/bits.deBruijn64tab"], plainKeys := false, apart := false, laid := [("math/bits.deBruijn64tab", laid_math_bits_deBruijn64tab)] }
def NfaValidMatchesReferenceSaid : Prop := nfaValidMatchesReferenceRow.holds Tryd.pinned (OpenSpec.ofChange nfaValidMatchesReferenceSpec)

/-- ITS FALSE NEIGHBOUR: 'it returns false'. Refute it at one input. -/
def nfaValidMatchesReferenceWrong : ChangeSpec := { name := "nfaValidMatchesReference", fn := fun _ => fun
  | [d] => { results := [.lit (.bool false)], args := [d] }
  | _ => none }
def NfaValidMatchesReferenceWrongFalsely : Prop := nfaValidMatchesReferenceRow.holds Tryd.pinned (OpenSpec.ofChange nfaValidMatchesReferenceWrong)

/-- 'emendatelaw09.NfaClosureIsLeastFixpoint': WHATEVER THE INPUT: true; the input reads as it did. -/
def nfaClosureIsLeastFixpointSpec : ChangeSpec := { name := "nfaClosureIsLeastFixpoint", fn := fun _ => fun
  | [d1, d2] => { results := [.lit (.bool true)], args := [d1, d2] }
  | _ => none }
def nfaClosureIsLeastFixpointRow : OpenClaim := { program := "ytogpnlkjcdedlaadoor", sum := "af6576760bae1b1663afbc59f157913230ac2b8685e4ee704d007e1b11805690", func := "emendate/emendatelaw09.NfaClosureIsLeastFixpoint", spec := "nfaClosureIsLeastFixpoint", unfollowed := true, recurses := true, named := ["math/bits.deBruijn64tab"], plainKeys := false, apart := false, laid := [("math/bits.deBruijn64tab", laid_math_bits_deBruijn64tab)] }
def NfaClosureIsLeastFixpointSaid : Prop := nfaClosureIsLeastFixpointRow.holds Tryd.pinned (OpenSpec.ofChange nfaClosureIsLeastFixpointSpec)

/-- ITS FALSE NEIGHBOUR: 'it returns false'. Refute it at one input. -/
def nfaClosureIsLeastFixpointWrong : ChangeSpec := { name := "nfaClosureIsLeastFixpoint", fn := fun _ => fun
  | [d1, d2] => { results := [.lit (.bool false)], args := [d1, d2] }
  | _ => none }
def NfaClosureIsLeastFixpointWrongFalsely : Prop := nfaClosureIsLeastFixpointRow.holds Tryd.pinned (OpenSpec.ofChange nfaClosureIsLeastFixpointWrong)

/-- 'emendatelaw09.NfaStepMatchesReference': WHATEVER THE INPUT: true; the input reads as it did. -/
def nfaStepMatchesReferenceSpec : ChangeSpec := { name := "nfaStepMatchesReference", fn := fun _ => fun
  | [d1, d2, d3] => { results := [.lit (.bool true)], args := [d1, d2, d3] }
  | _ => none }
def nfaStepMatchesReferenceRow : OpenClaim := { program := "ytogpnlkjcdedlaadoor", sum := "af6576760bae1b1663afbc59f157913230ac2b8685e4ee704d007e1b11805690", func := "emendate/emendatelaw09.NfaStepMatchesReference", spec := "nfaStepMatchesReference", unfollowed := true, recurses := true, named := ["math/bits.deBruijn64tab"], plainKeys := false, apart := false, laid := [("math/bits.deBruijn64tab", laid_math_bits_deBruijn64tab)] }
def NfaStepMatchesReferenceSaid : Prop := nfaStepMatchesReferenceRow.holds Tryd.pinned (OpenSpec.ofChange nfaStepMatchesReferenceSpec)

/-- ITS FALSE NEIGHBOUR: 'it returns false'. Refute it at one input. -/
def nfaStepMatchesReferenceWrong : ChangeSpec := { name := "nfaStepMatchesReference", fn := fun _ => fun
  | [d1, d2, d3] => { results := [.lit (.bool false)], args := [d1, d2, d3] }
  | _ => none }
def NfaStepMatchesReferenceWrongFalsely : Prop := nfaStepMatchesReferenceRow.holds Tryd.pinned (OpenSpec.ofChange nfaStepMatchesReferenceWrong)

/-- 'emendatelaw09.NfaStepIsMonotone': WHATEVER THE INPUT: true; the input reads as it did. -/
def nfaStepIsMonotoneSpec : ChangeSpec := { name := "nfaStepIsMonotone", fn := fun _ => fun
  | [d1, d2, d3] => { results := [.lit (.bool true)], args := [d1, d2, d3] }
  | _ => none }
def nfaStepIsMonotoneRow : OpenClaim := { program := "ytogpnlkjcdedlaadoor", sum := "af6576760bae1b1663afbc59f157913230ac2b8685e4ee704d007e1b11805690", func := "emendate/emendatelaw09.NfaStepIsMonotone", spec := "nfaStepIsMonotone", unfollowed := true, recurses := true, named := ["math/bits.deBruijn64tab"], plainKeys := false, apart := false, laid := [("math/bits.deBruijn64tab", laid_math_bits_deBruijn64tab)] }
def NfaStepIsMonotoneSaid : Prop := nfaStepIsMonotoneRow.holds Tryd.pinned (OpenSpec.ofChange nfaStepIsMonotoneSpec)

/-- ITS FALSE NEIGHBOUR: 'it returns false'. Refute it at one input. -/
def nfaStepIsMonotoneWrong : ChangeSpec := { name := "nfaStepIsMonotone", fn := fun _ => fun
  | [d1, d2, d3] => { results := [.lit (.bool false)], args := [d1, d2, d3] }
  | _ => none }
def NfaStepIsMonotoneWrongFalsely : Prop := nfaStepIsMonotoneRow.holds Tryd.pinned (OpenSpec.ofChange nfaStepIsMonotoneWrong)

/-- 'emendatelaw09.NfaRunMatchesReference': WHATEVER THE INPUT: true; the input reads as it did. -/
def nfaRunMatchesReferenceSpec : ChangeSpec := { name := "nfaRunMatchesReference", fn := fun _ => fun
  | [d1, d2] => { results := [.lit (.bool true)], args := [d1, d2] }
  | _ => none }
def nfaRunMatchesReferenceRow : OpenClaim := { program := "ytogpnlkjcdedlaadoor", sum := "af6576760bae1b1663afbc59f157913230ac2b8685e4ee704d007e1b11805690", func := "emendate/emendatelaw09.NfaRunMatchesReference", spec := "nfaRunMatchesReference", unfollowed := true, recurses := true, named := ["math/bits.deBruijn64tab"], plainKeys := false, apart := false, laid := [("math/bits.deBruijn64tab", laid_math_bits_deBruijn64tab)] }
def NfaRunMatchesReferenceSaid : Prop := nfaRunMatchesReferenceRow.holds Tryd.pinned (OpenSpec.ofChange nfaRunMatchesReferenceSpec)

/-- ITS FALSE NEIGHBOUR: 'it returns false'. Refute it at one input. -/
def nfaRunMatchesReferenceWrong : ChangeSpec := { name := "nfaRunMatchesReference", fn := fun _ => fun
  | [d1, d2] => { results := [.lit (.bool false)], args := [d1, d2] }
  | _ => none }
def NfaRunMatchesReferenceWrongFalsely : Prop := nfaRunMatchesReferenceRow.holds Tryd.pinned (OpenSpec.ofChange nfaRunMatchesReferenceWrong)

/-- 'emendatelaw09.NfaRunIsCompositional': WHATEVER THE INPUT: true; the input reads as it did. -/
def nfaRunIsCompositionalSpec : ChangeSpec := { name := "nfaRunIsCompositional", fn := fun _ => fun
  | [d1, d2, d3] => { results := [.lit (.bool true)], args := [d1, d2, d3] }
  | _ => none }
def nfaRunIsCompositionalRow : OpenClaim := { program := "ytogpnlkjcdedlaadoor", sum := "af6576760bae1b1663afbc59f157913230ac2b8685e4ee704d007e1b11805690", func := "emendate/emendatelaw09.NfaRunIsCompositional", spec := "nfaRunIsCompositional", unfollowed := true, recurses := true, named := ["math/bits.deBruijn64tab"], plainKeys := false, apart := false, laid := [("math/bits.deBruijn64tab", laid_math_bits_deBruijn64tab)] }
def NfaRunIsCompositionalSaid : Prop := nfaRunIsCompositionalRow.holds Tryd.pinned (OpenSpec.ofChange nfaRunIsCompositionalSpec)

/-- ITS FALSE NEIGHBOUR: 'it returns false'. Refute it at one input. -/
def nfaRunIsCompositionalWrong : ChangeSpec := { name := "nfaRunIsCompositional", fn := fun _ => fun
  | [d1, d2, d3] => { results := [.lit (.bool false)], args := [d1, d2, d3] }
  | _ => none }
def NfaRunIsCompositionalWrongFalsely : Prop := nfaRunIsCompositionalRow.holds Tryd.pinned (OpenSpec.ofChange nfaRunIsCompositionalWrong)

/-- 'emendatelaw09.NfaFromRegexesMatches': WHATEVER THE INPUT: true; the input reads as it did. -/
def nfaFromRegexesMatchesSpec : ChangeSpec := { name := "nfaFromRegexesMatches", fn := fun _ => fun
  | [d1, d2] => { results := [.lit (.bool true)], args := [d1, d2] }
  | _ => none }
def nfaFromRegexesMatchesRow : OpenClaim := { program := "ytogpnlkjcdedlaadoor", sum := "af6576760bae1b1663afbc59f157913230ac2b8685e4ee704d007e1b11805690", func := "emendate/emendatelaw09.NfaFromRegexesMatches", spec := "nfaFromRegexesMatches", unfollowed := true, recurses := true, named := ["math/bits.deBruijn64tab"], loops := true, plainKeys := false, apart := false, laid := [("math/bits.deBruijn64tab", laid_math_bits_deBruijn64tab)] }
def NfaFromRegexesMatchesSaid : Prop := nfaFromRegexesMatchesRow.holds Tryd.pinned (OpenSpec.ofChange nfaFromRegexesMatchesSpec)

/-- ITS FALSE NEIGHBOUR: 'it returns false'. Refute it at one input. -/
def nfaFromRegexesMatchesWrong : ChangeSpec := { name := "nfaFromRegexesMatches", fn := fun _ => fun
  | [d1, d2] => { results := [.lit (.bool false)], args := [d1, d2] }
  | _ => none }
def NfaFromRegexesMatchesWrongFalsely : Prop := nfaFromRegexesMatchesRow.holds Tryd.pinned (OpenSpec.ofChange nfaFromRegexesMatchesWrong)

/-- 'emendatelaw09.NfaFromRegexesErrors': WHATEVER THE INPUT: true; the input reads as it did. -/
def nfaFromRegexesErrorsSpec : ChangeSpec := { name := "nfaFromRegexesErrors", fn := fun _ => fun
  | [d] => { results := [.lit (.bool true)], args := [d] }
  | _ => none }
def nfaFromRegexesErrorsRow : OpenClaim := { program := "ytogpnlkjcdedlaadoor", sum := "af6576760bae1b1663afbc59f157913230ac2b8685e4ee704d007e1b11805690", func := "emendate/emendatelaw09.NfaFromRegexesErrors", spec := "nfaFromRegexesErrors", unfollowed := true, recurses := true, named := ["math/bits.deBruijn64tab"], loops := true, plainKeys := false, apart := false, laid := [("math/bits.deBruijn64tab", laid_math_bits_deBruijn64tab)] }
def NfaFromRegexesErrorsSaid : Prop := nfaFromRegexesErrorsRow.holds Tryd.pinned (OpenSpec.ofChange nfaFromRegexesErrorsSpec)

/-- ITS FALSE NEIGHBOUR: 'it returns false'. Refute it at one input. -/
def nfaFromRegexesErrorsWrong : ChangeSpec := { name := "nfaFromRegexesErrors", fn := fun _ => fun
  | [d] => { results := [.lit (.bool false)], args := [d] }
  | _ => none }
def NfaFromRegexesErrorsWrongFalsely : Prop := nfaFromRegexesErrorsRow.holds Tryd.pinned (OpenSpec.ofChange nfaFromRegexesErrorsWrong)

/- THE SECOND FORM. 'bulk': how many values and letters a reading holds, each counted each time it is reached (what is shared counts as often as it is met; a slice's spare places count too). A statement '..UptoSaid' is the law's where the arguments, and the package variables that the reading takes, are together of bulk at most 1048576: NARROWER than '..Said'. Prove '..Said' where nothing that the law and all that it calls make is longer than what came in: it says more and counts as full. Else prove '..UptoSaid'. A law counts once. -/
mutual
def uptoBulk {H : Type} : DataW H → Nat
  | .lit (.string bytes) => bytes.length + 1
  | .lit _ => 1
  | .nil => 1
  | .ptr d => uptoBulk d + 1
  | .slice elems spare => uptoBulkAll elems + uptoBulkAll spare + 1
  | .agg parts => uptoBulkAll parts + 1
  | .iface _ d => uptoBulk d + 1
  | .map entries => uptoBulkEntries entries + 1
  | .held _ => 1
def uptoBulkAll {H : Type} : List (DataW H) → Nat
  | [] => 0
  | d :: r => uptoBulk d + uptoBulkAll r
def uptoBulkEntries {H : Type} : List (Lit × DataW H) → Nat
  | [] => 0
  | x :: r => uptoBulkEntry x + uptoBulkEntries r
def uptoBulkEntry {H : Type} : Lit × DataW H → Nat
  | (.string bytes, d) => bytes.length + uptoBulk d + 1
  | (_, d) => uptoBulk d + 1
 end
def uptoSmall : (H : Type) → List (DataW H) → Bool := fun _ ds => decide (uptoBulkAll ds ≤ 1048576)
def OpenSpec.upto (s : _root_.Go.ChangeSpec) : _root_.Go.OpenSpec := { _root_.Go.OpenSpec.ofChange s with cond := some uptoSmall }

/-- 'emendatelaw09.NfaValidMatchesReference', WHERE WHAT IT READS IS OF BULK AT MOST 1048576: true; the input reads as it did. -/
def nfaValidMatchesReferenceUptoRow : OpenClaim := { program := "ytogpnlkjcdedlaadoor", sum := "af6576760bae1b1663afbc59f157913230ac2b8685e4ee704d007e1b11805690", func := "emendate/emendatelaw09.NfaValidMatchesReference", spec := "nfaValidMatchesReference", unfollowed := true, recurses := true, named := ["math/bits.deBruijn64tab"], plainKeys := false, apart := false, laid := [("math/bits.deBruijn64tab", laid_math_bits_deBruijn64tab)], narrowed := true }
def NfaValidMatchesReferenceUptoSaid : Prop := nfaValidMatchesReferenceUptoRow.holds Tryd.pinned (OpenSpec.upto nfaValidMatchesReferenceSpec)

/-- 'emendatelaw09.NfaClosureIsLeastFixpoint', WHERE WHAT IT READS IS OF BULK AT MOST 1048576: true; the input reads as it did. -/
def nfaClosureIsLeastFixpointUptoRow : OpenClaim := { program := "ytogpnlkjcdedlaadoor", sum := "af6576760bae1b1663afbc59f157913230ac2b8685e4ee704d007e1b11805690", func := "emendate/emendatelaw09.NfaClosureIsLeastFixpoint", spec := "nfaClosureIsLeastFixpoint", unfollowed := true, recurses := true, named := ["math/bits.deBruijn64tab"], plainKeys := false, apart := false, laid := [("math/bits.deBruijn64tab", laid_math_bits_deBruijn64tab)], narrowed := true }
def NfaClosureIsLeastFixpointUptoSaid : Prop := nfaClosureIsLeastFixpointUptoRow.holds Tryd.pinned (OpenSpec.upto nfaClosureIsLeastFixpointSpec)

/-- 'emendatelaw09.NfaStepMatchesReference', WHERE WHAT IT READS IS OF BULK AT MOST 1048576: true; the input reads as it did. -/
def nfaStepMatchesReferenceUptoRow : OpenClaim := { program := "ytogpnlkjcdedlaadoor", sum := "af6576760bae1b1663afbc59f157913230ac2b8685e4ee704d007e1b11805690", func := "emendate/emendatelaw09.NfaStepMatchesReference", spec := "nfaStepMatchesReference", unfollowed := true, recurses := true, named := ["math/bits.deBruijn64tab"], plainKeys := false, apart := false, laid := [("math/bits.deBruijn64tab", laid_math_bits_deBruijn64tab)], narrowed := true }
def NfaStepMatchesReferenceUptoSaid : Prop := nfaStepMatchesReferenceUptoRow.holds Tryd.pinned (OpenSpec.upto nfaStepMatchesReferenceSpec)

/-- 'emendatelaw09.NfaStepIsMonotone', WHERE WHAT IT READS IS OF BULK AT MOST 1048576: true; the input reads as it did. -/
def nfaStepIsMonotoneUptoRow : OpenClaim := { program := "ytogpnlkjcdedlaadoor", sum := "af6576760bae1b1663afbc59f157913230ac2b8685e4ee704d007e1b11805690", func := "emendate/emendatelaw09.NfaStepIsMonotone", spec := "nfaStepIsMonotone", unfollowed := true, recurses := true, named := ["math/bits.deBruijn64tab"], plainKeys := false, apart := false, laid := [("math/bits.deBruijn64tab", laid_math_bits_deBruijn64tab)], narrowed := true }
def NfaStepIsMonotoneUptoSaid : Prop := nfaStepIsMonotoneUptoRow.holds Tryd.pinned (OpenSpec.upto nfaStepIsMonotoneSpec)

/-- 'emendatelaw09.NfaRunMatchesReference', WHERE WHAT IT READS IS OF BULK AT MOST 1048576: true; the input reads as it did. -/
def nfaRunMatchesReferenceUptoRow : OpenClaim := { program := "ytogpnlkjcdedlaadoor", sum := "af6576760bae1b1663afbc59f157913230ac2b8685e4ee704d007e1b11805690", func := "emendate/emendatelaw09.NfaRunMatchesReference", spec := "nfaRunMatchesReference", unfollowed := true, recurses := true, named := ["math/bits.deBruijn64tab"], plainKeys := false, apart := false, laid := [("math/bits.deBruijn64tab", laid_math_bits_deBruijn64tab)], narrowed := true }
def NfaRunMatchesReferenceUptoSaid : Prop := nfaRunMatchesReferenceUptoRow.holds Tryd.pinned (OpenSpec.upto nfaRunMatchesReferenceSpec)

/-- 'emendatelaw09.NfaRunIsCompositional', WHERE WHAT IT READS IS OF BULK AT MOST 1048576: true; the input reads as it did. -/
def nfaRunIsCompositionalUptoRow : OpenClaim := { program := "ytogpnlkjcdedlaadoor", sum := "af6576760bae1b1663afbc59f157913230ac2b8685e4ee704d007e1b11805690", func := "emendate/emendatelaw09.NfaRunIsCompositional", spec := "nfaRunIsCompositional", unfollowed := true, recurses := true, named := ["math/bits.deBruijn64tab"], plainKeys := false, apart := false, laid := [("math/bits.deBruijn64tab", laid_math_bits_deBruijn64tab)], narrowed := true }
def NfaRunIsCompositionalUptoSaid : Prop := nfaRunIsCompositionalUptoRow.holds Tryd.pinned (OpenSpec.upto nfaRunIsCompositionalSpec)

/-- 'emendatelaw09.NfaFromRegexesMatches', WHERE WHAT IT READS IS OF BULK AT MOST 1048576: true; the input reads as it did. -/
def nfaFromRegexesMatchesUptoRow : OpenClaim := { program := "ytogpnlkjcdedlaadoor", sum := "af6576760bae1b1663afbc59f157913230ac2b8685e4ee704d007e1b11805690", func := "emendate/emendatelaw09.NfaFromRegexesMatches", spec := "nfaFromRegexesMatches", unfollowed := true, recurses := true, named := ["math/bits.deBruijn64tab"], loops := true, plainKeys := false, apart := false, laid := [("math/bits.deBruijn64tab", laid_math_bits_deBruijn64tab)], narrowed := true }
def NfaFromRegexesMatchesUptoSaid : Prop := nfaFromRegexesMatchesUptoRow.holds Tryd.pinned (OpenSpec.upto nfaFromRegexesMatchesSpec)

/-- 'emendatelaw09.NfaFromRegexesErrors', WHERE WHAT IT READS IS OF BULK AT MOST 1048576: true; the input reads as it did. -/
def nfaFromRegexesErrorsUptoRow : OpenClaim := { program := "ytogpnlkjcdedlaadoor", sum := "af6576760bae1b1663afbc59f157913230ac2b8685e4ee704d007e1b11805690", func := "emendate/emendatelaw09.NfaFromRegexesErrors", spec := "nfaFromRegexesErrors", unfollowed := true, recurses := true, named := ["math/bits.deBruijn64tab"], loops := true, plainKeys := false, apart := false, laid := [("math/bits.deBruijn64tab", laid_math_bits_deBruijn64tab)], narrowed := true }
def NfaFromRegexesErrorsUptoSaid : Prop := nfaFromRegexesErrorsUptoRow.holds Tryd.pinned (OpenSpec.upto nfaFromRegexesErrorsSpec)

end Rows
end Go.Proofs.YtogpnlkjcdedlaaDoor
