/-
  NARROWER THAN 'FOR EVERY INPUT', by the rows' own cells (each row's printed sentence says how): RegexValid: loops, laid · RegexParse: laid · RegexFormat: loops, laid · RegexRoundTrip: loops, laid · RegexMatch: loops, laid · RegexDerive: loops, laid · RegexDeriveAll: loops, laid · RegexAlgebra: loops, laid · RegexNesting: laid.
  DERIVED. THE GIVEN ROWS OF THIS SEAT. 9 by the template 'for every input the law returns true; each argument reads behind the call as it read before'; 0 by the template 'total and deterministic' (their statements: YtednoideboeehaaDoorTotals.lean).
  GIVEN WITH THE SEED: the statements are not yours to turn. If you find one false, say at which input.
  Laid BY PROGRAM, IN A SANDBOX (cutbox-rows.mjs): the forced cells as the released guide's own fill.sh prints them over the translation 4bcb556cd710a94b… (all of the seat's roots in one cut). By AI agents, Wed Nov 11 2026. No macro, syntax, notation, axiom, sorry.
-/
import Derived.Test.YtednoideboeehaaDoorChecked
import GoSem.Claim
import GoSem.ClaimJoined
import GoSem.ClaimMapViews
import Derived.JoinedTies
import Derived.KernelRfl
namespace Go.Proofs.YtednoideboeehaaDoor
/- THE CELL 'sum', in the pinned program and in every row, IS THE sha256 OF THE DUMP (.gsa) THAT YtednoideboeehaaDoorProg.lean LOADS. Nothing in Lean hashes anything: it is a label: what it is worth is what the hold of that sum in a sandbox is worth. -/
noncomputable def Tryd.pinned : Pinned := { name := "ytednoideboeehaadoor", sum := "4bcb556cd710a94b1b271dac577e1d37804dc587d07317de9dd4334ccdfef837", checked := Tryd.checked }
namespace Rows
def none {H : Type} : Left H := { results := [], args := [] }

/- WHAT THE LISTED PACKAGE-LEVEL VARIABLES READ AS WHEN THE CALL BEGINS. Each datum BY PROGRAM (the guide's laid-datum.mjs) off the statement by which the dump's own 'gosem.cut.vars' lays the variable. In a bare row this is a premise. The card (YtednoideboeehaaDoorCards.lean) ties it to the program's text. -/
def laid_math_bits_deBruijn64tab {H : Type} : DataW H := .agg [.lit (.int .u8 0), .lit (.int .u8 1), .lit (.int .u8 56), .lit (.int .u8 2), .lit (.int .u8 57), .lit (.int .u8 49), .lit (.int .u8 28), .lit (.int .u8 3), .lit (.int .u8 61), .lit (.int .u8 58), .lit (.int .u8 42), .lit (.int .u8 50), .lit (.int .u8 38), .lit (.int .u8 29), .lit (.int .u8 17), .lit (.int .u8 4), .lit (.int .u8 62), .lit (.int .u8 47), .lit (.int .u8 59), .lit (.int .u8 36), .lit (.int .u8 45), .lit (.int .u8 43), .lit (.int .u8 51), .lit (.int .u8 22), .lit (.int .u8 53), .lit (.int .u8 39), .lit (.int .u8 33), .lit (.int .u8 30), .lit (.int .u8 24), .lit (.int .u8 18), .lit (.int .u8 12), .lit (.int .u8 5), .lit (.int .u8 63), .lit (.int .u8 55), .lit (.int .u8 48), .lit (.int .u8 27), .lit (.int .u8 60), .lit (.int .u8 41), .lit (.int .u8 37), .lit (.int .u8 16), .lit (.int .u8 46), .lit (.int .u8 35), .lit (.int .u8 44), .lit (.int .u8 21), .lit (.int .u8 52), .lit (.int .u8 32), .lit (.int .u8 23), .lit (.int .u8 11), .lit (.int .u8 54), .lit (.int .u8 26), .lit (.int .u8 40), .lit (.int .u8 15), .lit (.int .u8 34), .lit (.int .u8 20), .lit (.int .u8 31), .lit (.int .u8 10), .lit (.int .u8 25), .lit (.int .u8 14), .lit (.int .u8 19), .lit (.int .u8 9), .lit (.int .u8 13), .lit (.int .u8 8), .lit (.int .u8 7), .lit (.int .u8 6)]

/-- 'emendatelaw08.RegexValid': WHATEVER THE INPUT: true; the input reads as it did. -/
def regexValidSpec : ChangeSpec := { name := "regexValid", fn := fun _ => fun
  | [d] => { results := [.lit (.bool true)], args := [d] }
  | _ => none }
def regexValidRow : OpenClaim := { program := "ytednoideboeehaadoor", sum := "4bcb556cd710a94b1b271dac577e1d37804dc587d07317de9dd4334ccdfef837", func := "emendate/emendatelaw08.RegexValid", spec := "regexValid", inPlace := ["internal/bytealg.IndexByteString", "internal/abi.NoEscape"], unfollowed := true, recurses := true, named := ["math/bits.deBruijn64tab"], loops := true, plainKeys := false, apart := false, laid := [("math/bits.deBruijn64tab", laid_math_bits_deBruijn64tab)] }
def RegexValidSaid : Prop := regexValidRow.holds Tryd.pinned (OpenSpec.ofChange regexValidSpec)

/-- ITS FALSE NEIGHBOUR: 'it returns false'. Refute it at one input. -/
def regexValidWrong : ChangeSpec := { name := "regexValid", fn := fun _ => fun
  | [d] => { results := [.lit (.bool false)], args := [d] }
  | _ => none }
def RegexValidWrongFalsely : Prop := regexValidRow.holds Tryd.pinned (OpenSpec.ofChange regexValidWrong)

/-- 'emendatelaw08.RegexParse': WHATEVER THE INPUT: true; the input reads as it did. -/
def regexParseSpec : ChangeSpec := { name := "regexParse", fn := fun _ => fun
  | [d] => { results := [.lit (.bool true)], args := [d] }
  | _ => none }
def regexParseRow : OpenClaim := { program := "ytednoideboeehaadoor", sum := "4bcb556cd710a94b1b271dac577e1d37804dc587d07317de9dd4334ccdfef837", func := "emendate/emendatelaw08.RegexParse", spec := "regexParse", inPlace := ["internal/bytealg.IndexByteString", "internal/abi.NoEscape"], unfollowed := true, recurses := true, named := ["math/bits.deBruijn64tab"], plainKeys := false, apart := false, laid := [("math/bits.deBruijn64tab", laid_math_bits_deBruijn64tab)] }
def RegexParseSaid : Prop := regexParseRow.holds Tryd.pinned (OpenSpec.ofChange regexParseSpec)

/-- ITS FALSE NEIGHBOUR: 'it returns false'. Refute it at one input. -/
def regexParseWrong : ChangeSpec := { name := "regexParse", fn := fun _ => fun
  | [d] => { results := [.lit (.bool false)], args := [d] }
  | _ => none }
def RegexParseWrongFalsely : Prop := regexParseRow.holds Tryd.pinned (OpenSpec.ofChange regexParseWrong)

/-- 'emendatelaw08.RegexFormat': WHATEVER THE INPUT: true; the input reads as it did. -/
def regexFormatSpec : ChangeSpec := { name := "regexFormat", fn := fun _ => fun
  | [d] => { results := [.lit (.bool true)], args := [d] }
  | _ => none }
def regexFormatRow : OpenClaim := { program := "ytednoideboeehaadoor", sum := "4bcb556cd710a94b1b271dac577e1d37804dc587d07317de9dd4334ccdfef837", func := "emendate/emendatelaw08.RegexFormat", spec := "regexFormat", inPlace := ["internal/bytealg.IndexByteString", "internal/abi.NoEscape"], unfollowed := true, recurses := true, named := ["math/bits.deBruijn64tab"], loops := true, plainKeys := false, apart := false, laid := [("math/bits.deBruijn64tab", laid_math_bits_deBruijn64tab)] }
def RegexFormatSaid : Prop := regexFormatRow.holds Tryd.pinned (OpenSpec.ofChange regexFormatSpec)

/-- ITS FALSE NEIGHBOUR: 'it returns false'. Refute it at one input. -/
def regexFormatWrong : ChangeSpec := { name := "regexFormat", fn := fun _ => fun
  | [d] => { results := [.lit (.bool false)], args := [d] }
  | _ => none }
def RegexFormatWrongFalsely : Prop := regexFormatRow.holds Tryd.pinned (OpenSpec.ofChange regexFormatWrong)

/-- 'emendatelaw08.RegexRoundTrip': WHATEVER THE INPUT: true; the input reads as it did. -/
def regexRoundTripSpec : ChangeSpec := { name := "regexRoundTrip", fn := fun _ => fun
  | [d1, d2] => { results := [.lit (.bool true)], args := [d1, d2] }
  | _ => none }
def regexRoundTripRow : OpenClaim := { program := "ytednoideboeehaadoor", sum := "4bcb556cd710a94b1b271dac577e1d37804dc587d07317de9dd4334ccdfef837", func := "emendate/emendatelaw08.RegexRoundTrip", spec := "regexRoundTrip", inPlace := ["internal/bytealg.IndexByteString", "internal/abi.NoEscape"], unfollowed := true, recurses := true, named := ["math/bits.deBruijn64tab"], loops := true, plainKeys := false, apart := false, laid := [("math/bits.deBruijn64tab", laid_math_bits_deBruijn64tab)] }
def RegexRoundTripSaid : Prop := regexRoundTripRow.holds Tryd.pinned (OpenSpec.ofChange regexRoundTripSpec)

/-- ITS FALSE NEIGHBOUR: 'it returns false'. Refute it at one input. -/
def regexRoundTripWrong : ChangeSpec := { name := "regexRoundTrip", fn := fun _ => fun
  | [d1, d2] => { results := [.lit (.bool false)], args := [d1, d2] }
  | _ => none }
def RegexRoundTripWrongFalsely : Prop := regexRoundTripRow.holds Tryd.pinned (OpenSpec.ofChange regexRoundTripWrong)

/-- 'emendatelaw08.RegexMatch': WHATEVER THE INPUT: true; the input reads as it did. -/
def regexMatchSpec : ChangeSpec := { name := "regexMatch", fn := fun _ => fun
  | [d1, d2] => { results := [.lit (.bool true)], args := [d1, d2] }
  | _ => none }
def regexMatchRow : OpenClaim := { program := "ytednoideboeehaadoor", sum := "4bcb556cd710a94b1b271dac577e1d37804dc587d07317de9dd4334ccdfef837", func := "emendate/emendatelaw08.RegexMatch", spec := "regexMatch", inPlace := ["internal/bytealg.IndexByteString", "internal/abi.NoEscape"], unfollowed := true, recurses := true, named := ["math/bits.deBruijn64tab"], loops := true, plainKeys := false, apart := false, laid := [("math/bits.deBruijn64tab", laid_math_bits_deBruijn64tab)] }
def RegexMatchSaid : Prop := regexMatchRow.holds Tryd.pinned (OpenSpec.ofChange regexMatchSpec)

/-- ITS FALSE NEIGHBOUR: 'it returns false'. Refute it at one input. -/
def regexMatchWrong : ChangeSpec := { name := "regexMatch", fn := fun _ => fun
  | [d1, d2] => { results := [.lit (.bool false)], args := [d1, d2] }
  | _ => none }
def RegexMatchWrongFalsely : Prop := regexMatchRow.holds Tryd.pinned (OpenSpec.ofChange regexMatchWrong)

/-- 'emendatelaw08.RegexDerive': WHATEVER THE INPUT: true; the input reads as it did. -/
def regexDeriveSpec : ChangeSpec := { name := "regexDerive", fn := fun _ => fun
  | [d1, d2, d3] => { results := [.lit (.bool true)], args := [d1, d2, d3] }
  | _ => none }
def regexDeriveRow : OpenClaim := { program := "ytednoideboeehaadoor", sum := "4bcb556cd710a94b1b271dac577e1d37804dc587d07317de9dd4334ccdfef837", func := "emendate/emendatelaw08.RegexDerive", spec := "regexDerive", inPlace := ["internal/bytealg.IndexByteString", "internal/abi.NoEscape"], unfollowed := true, recurses := true, named := ["math/bits.deBruijn64tab"], loops := true, plainKeys := false, apart := false, laid := [("math/bits.deBruijn64tab", laid_math_bits_deBruijn64tab)] }
def RegexDeriveSaid : Prop := regexDeriveRow.holds Tryd.pinned (OpenSpec.ofChange regexDeriveSpec)

/-- ITS FALSE NEIGHBOUR: 'it returns false'. Refute it at one input. -/
def regexDeriveWrong : ChangeSpec := { name := "regexDerive", fn := fun _ => fun
  | [d1, d2, d3] => { results := [.lit (.bool false)], args := [d1, d2, d3] }
  | _ => none }
def RegexDeriveWrongFalsely : Prop := regexDeriveRow.holds Tryd.pinned (OpenSpec.ofChange regexDeriveWrong)

/-- 'emendatelaw08.RegexDeriveAll': WHATEVER THE INPUT: true; the input reads as it did. -/
def regexDeriveAllSpec : ChangeSpec := { name := "regexDeriveAll", fn := fun _ => fun
  | [d1, d2] => { results := [.lit (.bool true)], args := [d1, d2] }
  | _ => none }
def regexDeriveAllRow : OpenClaim := { program := "ytednoideboeehaadoor", sum := "4bcb556cd710a94b1b271dac577e1d37804dc587d07317de9dd4334ccdfef837", func := "emendate/emendatelaw08.RegexDeriveAll", spec := "regexDeriveAll", inPlace := ["internal/bytealg.IndexByteString", "internal/abi.NoEscape"], unfollowed := true, recurses := true, named := ["math/bits.deBruijn64tab"], loops := true, plainKeys := false, apart := false, laid := [("math/bits.deBruijn64tab", laid_math_bits_deBruijn64tab)] }
def RegexDeriveAllSaid : Prop := regexDeriveAllRow.holds Tryd.pinned (OpenSpec.ofChange regexDeriveAllSpec)

/-- ITS FALSE NEIGHBOUR: 'it returns false'. Refute it at one input. -/
def regexDeriveAllWrong : ChangeSpec := { name := "regexDeriveAll", fn := fun _ => fun
  | [d1, d2] => { results := [.lit (.bool false)], args := [d1, d2] }
  | _ => none }
def RegexDeriveAllWrongFalsely : Prop := regexDeriveAllRow.holds Tryd.pinned (OpenSpec.ofChange regexDeriveAllWrong)

/-- 'emendatelaw08.RegexAlgebra': WHATEVER THE INPUT: true; the input reads as it did. -/
def regexAlgebraSpec : ChangeSpec := { name := "regexAlgebra", fn := fun _ => fun
  | [d1, d2, d3] => { results := [.lit (.bool true)], args := [d1, d2, d3] }
  | _ => none }
def regexAlgebraRow : OpenClaim := { program := "ytednoideboeehaadoor", sum := "4bcb556cd710a94b1b271dac577e1d37804dc587d07317de9dd4334ccdfef837", func := "emendate/emendatelaw08.RegexAlgebra", spec := "regexAlgebra", inPlace := ["internal/bytealg.IndexByteString", "internal/abi.NoEscape"], unfollowed := true, recurses := true, named := ["math/bits.deBruijn64tab"], loops := true, plainKeys := false, apart := false, laid := [("math/bits.deBruijn64tab", laid_math_bits_deBruijn64tab)] }
def RegexAlgebraSaid : Prop := regexAlgebraRow.holds Tryd.pinned (OpenSpec.ofChange regexAlgebraSpec)

/-- ITS FALSE NEIGHBOUR: 'it returns false'. Refute it at one input. -/
def regexAlgebraWrong : ChangeSpec := { name := "regexAlgebra", fn := fun _ => fun
  | [d1, d2, d3] => { results := [.lit (.bool false)], args := [d1, d2, d3] }
  | _ => none }
def RegexAlgebraWrongFalsely : Prop := regexAlgebraRow.holds Tryd.pinned (OpenSpec.ofChange regexAlgebraWrong)

/-- 'emendatelaw08.RegexNesting': WHATEVER THE INPUT: true; the input reads as it did. -/
def regexNestingSpec : ChangeSpec := { name := "regexNesting", fn := fun _ => fun
  | [d] => { results := [.lit (.bool true)], args := [d] }
  | _ => none }
def regexNestingRow : OpenClaim := { program := "ytednoideboeehaadoor", sum := "4bcb556cd710a94b1b271dac577e1d37804dc587d07317de9dd4334ccdfef837", func := "emendate/emendatelaw08.RegexNesting", spec := "regexNesting", inPlace := ["internal/bytealg.IndexByteString", "internal/abi.NoEscape"], unfollowed := true, recurses := true, named := ["math/bits.deBruijn64tab"], plainKeys := false, apart := false, laid := [("math/bits.deBruijn64tab", laid_math_bits_deBruijn64tab)] }
def RegexNestingSaid : Prop := regexNestingRow.holds Tryd.pinned (OpenSpec.ofChange regexNestingSpec)

/-- ITS FALSE NEIGHBOUR: 'it returns false'. Refute it at one input. -/
def regexNestingWrong : ChangeSpec := { name := "regexNesting", fn := fun _ => fun
  | [d] => { results := [.lit (.bool false)], args := [d] }
  | _ => none }
def RegexNestingWrongFalsely : Prop := regexNestingRow.holds Tryd.pinned (OpenSpec.ofChange regexNestingWrong)

/- THE SECOND FORM. 'bulk': how many values and letters a reading holds, each counted each time it is reached (what is shared counts as often as it is met; a slice's spare places count too). A statement '..UptoSaid' is the law's where the arguments, and the package variables that the reading takes, are together of bulk at most 1048576: NARROWER than '..Said'. Prove '..Said' where nothing that the law and all that it calls make is longer than what came in: it says more and counts as full. Else prove '..UptoSaid'. A law counts once. -/
mutual
def uptoBulk {H : Type} : DataW H → Nat
  | .lit (.string bytes) => bytes.length + 1
  | .lit _ => 1
  | .nil => 1
  | .ptr d => uptoBulk d + 1
  | .slice elems spare => uptoBulkAll elems + uptoBulkAll spare + 1
  | .agg parts => uptoBulkAll parts + 1
  | .iface _ d => uptoBulk d + 1
  | .map entries => uptoBulkEntries entries + 1
  | .held _ => 1
def uptoBulkAll {H : Type} : List (DataW H) → Nat
  | [] => 0
  | d :: r => uptoBulk d + uptoBulkAll r
def uptoBulkEntries {H : Type} : List (Lit × DataW H) → Nat
  | [] => 0
  | x :: r => uptoBulkEntry x + uptoBulkEntries r
def uptoBulkEntry {H : Type} : Lit × DataW H → Nat
  | (.string bytes, d) => bytes.length + uptoBulk d + 1
  | (_, d) => uptoBulk d + 1
 end
def uptoSmall : (H : Type) → List (DataW H) → Bool := fun _ ds => decide (uptoBulkAll ds ≤ 1048576)
def OpenSpec.upto (s : _root_.Go.ChangeSpec) : _root_.Go.OpenSpec := { _root_.Go.OpenSpec.ofChange s with cond := some uptoSmall }

/-- 'emendatelaw08.RegexValid', WHERE WHAT IT READS IS OF BULK AT MOST 1048576: true; the input reads as it did. -/
def regexValidUptoRow : OpenClaim := { program := "ytednoideboeehaadoor", sum := "4bcb556cd710a94b1b271dac577e1d37804dc587d07317de9dd4334ccdfef837", func := "emendate/emendatelaw08.RegexValid", spec := "regexValid", inPlace := ["internal/bytealg.IndexByteString", "internal/abi.NoEscape"], unfollowed := true, recurses := true, named := ["math/bits.deBruijn64tab"], loops := true, plainKeys := false, apart := false, laid := [("math/bits.deBruijn64tab", laid_math_bits_deBruijn64tab)], narrowed := true }
def RegexValidUptoSaid : Prop := regexValidUptoRow.holds Tryd.pinned (OpenSpec.upto regexValidSpec)

/-- 'emendatelaw08.RegexParse', WHERE WHAT IT READS IS OF BULK AT MOST 1048576: true; the input reads as it did. -/
def regexParseUptoRow : OpenClaim := { program := "ytednoideboeehaadoor", sum := "4bcb556cd710a94b1b271dac577e1d37804dc587d07317de9dd4334ccdfef837", func := "emendate/emendatelaw08.RegexParse", spec := "regexParse", inPlace := ["internal/bytealg.IndexByteString", "internal/abi.NoEscape"], unfollowed := true, recurses := true, named := ["math/bits.deBruijn64tab"], plainKeys := false, apart := false, laid := [("math/bits.deBruijn64tab", laid_math_bits_deBruijn64tab)], narrowed := true }
def RegexParseUptoSaid : Prop := regexParseUptoRow.holds Tryd.pinned (OpenSpec.upto regexParseSpec)

/-- 'emendatelaw08.RegexFormat', WHERE WHAT IT READS IS OF BULK AT MOST 1048576: true; the input reads as it did. -/
def regexFormatUptoRow : OpenClaim := { program := "ytednoideboeehaadoor", sum := "4bcb556cd710a94b1b271dac577e1d37804dc587d07317de9dd4334ccdfef837", func := "emendate/emendatelaw08.RegexFormat", spec := "regexFormat", inPlace := ["internal/bytealg.IndexByteString", "internal/abi.NoEscape"], unfollowed := true, recurses := true, named := ["math/bits.deBruijn64tab"], loops := true, plainKeys := false, apart := false, laid := [("math/bits.deBruijn64tab", laid_math_bits_deBruijn64tab)], narrowed := true }
def RegexFormatUptoSaid : Prop := regexFormatUptoRow.holds Tryd.pinned (OpenSpec.upto regexFormatSpec)

/-- 'emendatelaw08.RegexRoundTrip', WHERE WHAT IT READS IS OF BULK AT MOST 1048576: true; the input reads as it did. -/
def regexRoundTripUptoRow : OpenClaim := { program := "ytednoideboeehaadoor", sum := "4bcb556cd710a94b1b271dac577e1d37804dc587d07317de9dd4334ccdfef837", func := "emendate/emendatelaw08.RegexRoundTrip", spec := "regexRoundTrip", inPlace := ["internal/bytealg.IndexByteString", "internal/abi.NoEscape"], unfollowed := true, recurses := true, named := ["math/bits.deBruijn64tab"], loops := true, plainKeys := false, apart := false, laid := [("math/bits.deBruijn64tab", laid_math_bits_deBruijn64tab)], narrowed := true }
def RegexRoundTripUptoSaid : Prop := regexRoundTripUptoRow.holds Tryd.pinned (OpenSpec.upto regexRoundTripSpec)

/-- 'emendatelaw08.RegexMatch', WHERE WHAT IT READS IS OF BULK AT MOST 1048576: true; the input reads as it did. -/
def regexMatchUptoRow : OpenClaim := { program := "ytednoideboeehaadoor", sum := "4bcb556cd710a94b1b271dac577e1d37804dc587d07317de9dd4334ccdfef837", func := "emendate/emendatelaw08.RegexMatch", spec := "regexMatch", inPlace := ["internal/bytealg.IndexByteString", "internal/abi.NoEscape"], unfollowed := true, recurses := true, named := ["math/bits.deBruijn64tab"], loops := true, plainKeys := false, apart := false, laid := [("math/bits.deBruijn64tab", laid_math_bits_deBruijn64tab)], narrowed := true }
def RegexMatchUptoSaid : Prop := regexMatchUptoRow.holds Tryd.pinned (OpenSpec.upto regexMatchSpec)

/-- 'emendatelaw08.RegexDerive', WHERE WHAT IT READS IS OF BULK AT MOST 1048576: true; the input reads as it did. -/
def regexDeriveUptoRow : OpenClaim := { program := "ytednoideboeehaadoor", sum := "4bcb556cd710a94b1b271dac577e1d37804dc587d07317de9dd4334ccdfef837", func := "emendate/emendatelaw08.RegexDerive", spec := "regexDerive", inPlace := ["internal/bytealg.IndexByteString", "internal/abi.NoEscape"], unfollowed := true, recurses := true, named := ["math/bits.deBruijn64tab"], loops := true, plainKeys := false, apart := false, laid := [("math/bits.deBruijn64tab", laid_math_bits_deBruijn64tab)], narrowed := true }
def RegexDeriveUptoSaid : Prop := regexDeriveUptoRow.holds Tryd.pinned (OpenSpec.upto regexDeriveSpec)

/-- 'emendatelaw08.RegexDeriveAll', WHERE WHAT IT READS IS OF BULK AT MOST 1048576: true; the input reads as it did. -/
def regexDeriveAllUptoRow : OpenClaim := { program := "ytednoideboeehaadoor", sum := "4bcb556cd710a94b1b271dac577e1d37804dc587d07317de9dd4334ccdfef837", func := "emendate/emendatelaw08.RegexDeriveAll", spec := "regexDeriveAll", inPlace := ["internal/bytealg.IndexByteString", "internal/abi.NoEscape"], unfollowed := true, recurses := true, named := ["math/bits.deBruijn64tab"], loops := true, plainKeys := false, apart := false, laid := [("math/bits.deBruijn64tab", laid_math_bits_deBruijn64tab)], narrowed := true }
def RegexDeriveAllUptoSaid : Prop := regexDeriveAllUptoRow.holds Tryd.pinned (OpenSpec.upto regexDeriveAllSpec)

/-- 'emendatelaw08.RegexAlgebra', WHERE WHAT IT READS IS OF BULK AT MOST 1048576: true; the input reads as it did. -/
def regexAlgebraUptoRow : OpenClaim := { program := "ytednoideboeehaadoor", sum := "4bcb556cd710a94b1b271dac577e1d37804dc587d07317de9dd4334ccdfef837", func := "emendate/emendatelaw08.RegexAlgebra", spec := "regexAlgebra", inPlace := ["internal/bytealg.IndexByteString", "internal/abi.NoEscape"], unfollowed := true, recurses := true, named := ["math/bits.deBruijn64tab"], loops := true, plainKeys := false, apart := false, laid := [("math/bits.deBruijn64tab", laid_math_bits_deBruijn64tab)], narrowed := true }
def RegexAlgebraUptoSaid : Prop := regexAlgebraUptoRow.holds Tryd.pinned (OpenSpec.upto regexAlgebraSpec)

/-- 'emendatelaw08.RegexNesting', WHERE WHAT IT READS IS OF BULK AT MOST 1048576: true; the input reads as it did. -/
def regexNestingUptoRow : OpenClaim := { program := "ytednoideboeehaadoor", sum := "4bcb556cd710a94b1b271dac577e1d37804dc587d07317de9dd4334ccdfef837", func := "emendate/emendatelaw08.RegexNesting", spec := "regexNesting", inPlace := ["internal/bytealg.IndexByteString", "internal/abi.NoEscape"], unfollowed := true, recurses := true, named := ["math/bits.deBruijn64tab"], plainKeys := false, apart := false, laid := [("math/bits.deBruijn64tab", laid_math_bits_deBruijn64tab)], narrowed := true }
def RegexNestingUptoSaid : Prop := regexNestingUptoRow.holds Tryd.pinned (OpenSpec.upto regexNestingSpec)

end Rows
end Go.Proofs.YtednoideboeehaaDoor
