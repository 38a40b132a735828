/-
  NARROWER THAN 'FOR EVERY INPUT', by the rows' own cells (each row's printed sentence says how): BytesetOf: laid · BytesetOperations: laid · BytesetAll: laid · BytesetAlgebra: laid · BytesetClasses: laid · BytesetRefines: laid.
  DERIVED. THE GIVEN ROWS OF THIS SEAT. 6 by the template 'for every input the law returns true; each argument reads behind the call as it read before'; 0 by the template 'total and deterministic' (their statements: YtnjlnldbfejjpaaDoorTotals.lean).
  GIVEN WITH THE SEED: the statements are not yours to turn. If you find one false, say at which input.
  Laid BY PROGRAM, IN A SANDBOX (cutbox-rows.mjs): the forced cells as the released guide's own fill.sh prints them over the translation f9834466168a6613… (all of the seat's roots in one cut). By AI agents, Wed Nov 11 2026. No macro, syntax, notation, axiom, sorry.
-/
import Derived.Test.YtnjlnldbfejjpaaDoorChecked
import GoSem.Claim
import GoSem.ClaimJoined
import GoSem.ClaimMapViews
import Derived.JoinedTies
import Derived.KernelRfl
namespace Go.Proofs.YtnjlnldbfejjpaaDoor
/- THE CELL 'sum', in the pinned program and in every row, IS THE sha256 OF THE DUMP (.gsa) THAT YtnjlnldbfejjpaaDoorProg.lean LOADS. Nothing in Lean hashes anything: it is a label: what it is worth is what the hold of that sum in a sandbox is worth. -/
noncomputable def Tryd.pinned : Pinned := { name := "ytnjlnldbfejjpaadoor", sum := "f9834466168a661334a4f158d97c1619db0e14ee95e8b11cf086bd89bd0d08dc", checked := Tryd.checked }
namespace Rows
def none {H : Type} : Left H := { results := [], args := [] }

/- WHAT THE LISTED PACKAGE-LEVEL VARIABLES READ AS WHEN THE CALL BEGINS. Each datum BY PROGRAM (the guide's laid-datum.mjs) off the statement by which the dump's own 'gosem.cut.vars' lays the variable. In a bare row this is a premise. The card (YtnjlnldbfejjpaaDoorCards.lean) ties it to the program's text. -/
def laid_math_bits_deBruijn64tab {H : Type} : DataW H := .agg [.lit (.int .u8 0), .lit (.int .u8 1), .lit (.int .u8 56), .lit (.int .u8 2), .lit (.int .u8 57), .lit (.int .u8 49), .lit (.int .u8 28), .lit (.int .u8 3), .lit (.int .u8 61), .lit (.int .u8 58), .lit (.int .u8 42), .lit (.int .u8 50), .lit (.int .u8 38), .lit (.int .u8 29), .lit (.int .u8 17), .lit (.int .u8 4), .lit (.int .u8 62), .lit (.int .u8 47), .lit (.int .u8 59), .lit (.int .u8 36), .lit (.int .u8 45), .lit (.int .u8 43), .lit (.int .u8 51), .lit (.int .u8 22), .lit (.int .u8 53), .lit (.int .u8 39), .lit (.int .u8 33), .lit (.int .u8 30), .lit (.int .u8 24), .lit (.int .u8 18), .lit (.int .u8 12), .lit (.int .u8 5), .lit (.int .u8 63), .lit (.int .u8 55), .lit (.int .u8 48), .lit (.int .u8 27), .lit (.int .u8 60), .lit (.int .u8 41), .lit (.int .u8 37), .lit (.int .u8 16), .lit (.int .u8 46), .lit (.int .u8 35), .lit (.int .u8 44), .lit (.int .u8 21), .lit (.int .u8 52), .lit (.int .u8 32), .lit (.int .u8 23), .lit (.int .u8 11), .lit (.int .u8 54), .lit (.int .u8 26), .lit (.int .u8 40), .lit (.int .u8 15), .lit (.int .u8 34), .lit (.int .u8 20), .lit (.int .u8 31), .lit (.int .u8 10), .lit (.int .u8 25), .lit (.int .u8 14), .lit (.int .u8 19), .lit (.int .u8 9), .lit (.int .u8 13), .lit (.int .u8 8), .lit (.int .u8 7), .lit (.int .u8 6)]

/-- 'emendatelaw07.BytesetOf': WHATEVER THE INPUT: true; the input reads as it did. -/
def bytesetOfSpec : ChangeSpec := { name := "bytesetOf", fn := fun _ => fun
  | [d1, d2, d3] => { results := [.lit (.bool true)], args := [d1, d2, d3] }
  | _ => none }
def bytesetOfRow : OpenClaim := { program := "ytnjlnldbfejjpaadoor", sum := "f9834466168a661334a4f158d97c1619db0e14ee95e8b11cf086bd89bd0d08dc", func := "emendate/emendatelaw07.BytesetOf", spec := "bytesetOf", unfollowed := true, recurses := true, named := ["math/bits.deBruijn64tab"], apart := false, laid := [("math/bits.deBruijn64tab", laid_math_bits_deBruijn64tab)] }
def BytesetOfSaid : Prop := bytesetOfRow.holds Tryd.pinned (OpenSpec.ofChange bytesetOfSpec)

/-- ITS FALSE NEIGHBOUR: 'it returns false'. Refute it at one input. -/
def bytesetOfWrong : ChangeSpec := { name := "bytesetOf", fn := fun _ => fun
  | [d1, d2, d3] => { results := [.lit (.bool false)], args := [d1, d2, d3] }
  | _ => none }
def BytesetOfWrongFalsely : Prop := bytesetOfRow.holds Tryd.pinned (OpenSpec.ofChange bytesetOfWrong)

/-- 'emendatelaw07.BytesetOperations': WHATEVER THE INPUT: true; the input reads as it did. -/
def bytesetOperationsSpec : ChangeSpec := { name := "bytesetOperations", fn := fun _ => fun
  | [d1, d2] => { results := [.lit (.bool true)], args := [d1, d2] }
  | _ => none }
def bytesetOperationsRow : OpenClaim := { program := "ytnjlnldbfejjpaadoor", sum := "f9834466168a661334a4f158d97c1619db0e14ee95e8b11cf086bd89bd0d08dc", func := "emendate/emendatelaw07.BytesetOperations", spec := "bytesetOperations", unfollowed := true, recurses := true, named := ["math/bits.deBruijn64tab"], apart := false, laid := [("math/bits.deBruijn64tab", laid_math_bits_deBruijn64tab)] }
def BytesetOperationsSaid : Prop := bytesetOperationsRow.holds Tryd.pinned (OpenSpec.ofChange bytesetOperationsSpec)

/-- ITS FALSE NEIGHBOUR: 'it returns false'. Refute it at one input. -/
def bytesetOperationsWrong : ChangeSpec := { name := "bytesetOperations", fn := fun _ => fun
  | [d1, d2] => { results := [.lit (.bool false)], args := [d1, d2] }
  | _ => none }
def BytesetOperationsWrongFalsely : Prop := bytesetOperationsRow.holds Tryd.pinned (OpenSpec.ofChange bytesetOperationsWrong)

/-- 'emendatelaw07.BytesetAll': WHATEVER THE INPUT: true; the input reads as it did. -/
def bytesetAllSpec : ChangeSpec := { name := "bytesetAll", fn := fun _ => fun
  | [d1, d2] => { results := [.lit (.bool true)], args := [d1, d2] }
  | _ => none }
def bytesetAllRow : OpenClaim := { program := "ytnjlnldbfejjpaadoor", sum := "f9834466168a661334a4f158d97c1619db0e14ee95e8b11cf086bd89bd0d08dc", func := "emendate/emendatelaw07.BytesetAll", spec := "bytesetAll", unfollowed := true, recurses := true, named := ["math/bits.deBruijn64tab"], apart := false, laid := [("math/bits.deBruijn64tab", laid_math_bits_deBruijn64tab)] }
def BytesetAllSaid : Prop := bytesetAllRow.holds Tryd.pinned (OpenSpec.ofChange bytesetAllSpec)

/-- ITS FALSE NEIGHBOUR: 'it returns false'. Refute it at one input. -/
def bytesetAllWrong : ChangeSpec := { name := "bytesetAll", fn := fun _ => fun
  | [d1, d2] => { results := [.lit (.bool false)], args := [d1, d2] }
  | _ => none }
def BytesetAllWrongFalsely : Prop := bytesetAllRow.holds Tryd.pinned (OpenSpec.ofChange bytesetAllWrong)

/-- 'emendatelaw07.BytesetAlgebra': WHATEVER THE INPUT: true; the input reads as it did. -/
def bytesetAlgebraSpec : ChangeSpec := { name := "bytesetAlgebra", fn := fun _ => fun
  | [d1, d2, d3] => { results := [.lit (.bool true)], args := [d1, d2, d3] }
  | _ => none }
def bytesetAlgebraRow : OpenClaim := { program := "ytnjlnldbfejjpaadoor", sum := "f9834466168a661334a4f158d97c1619db0e14ee95e8b11cf086bd89bd0d08dc", func := "emendate/emendatelaw07.BytesetAlgebra", spec := "bytesetAlgebra", unfollowed := true, recurses := true, named := ["math/bits.deBruijn64tab"], apart := false, laid := [("math/bits.deBruijn64tab", laid_math_bits_deBruijn64tab)] }
def BytesetAlgebraSaid : Prop := bytesetAlgebraRow.holds Tryd.pinned (OpenSpec.ofChange bytesetAlgebraSpec)

/-- ITS FALSE NEIGHBOUR: 'it returns false'. Refute it at one input. -/
def bytesetAlgebraWrong : ChangeSpec := { name := "bytesetAlgebra", fn := fun _ => fun
  | [d1, d2, d3] => { results := [.lit (.bool false)], args := [d1, d2, d3] }
  | _ => none }
def BytesetAlgebraWrongFalsely : Prop := bytesetAlgebraRow.holds Tryd.pinned (OpenSpec.ofChange bytesetAlgebraWrong)

/-- 'emendatelaw07.BytesetClasses': WHATEVER THE INPUT: true; the input reads as it did. -/
def bytesetClassesSpec : ChangeSpec := { name := "bytesetClasses", fn := fun _ => fun
  | [d] => { results := [.lit (.bool true)], args := [d] }
  | _ => none }
def bytesetClassesRow : OpenClaim := { program := "ytnjlnldbfejjpaadoor", sum := "f9834466168a661334a4f158d97c1619db0e14ee95e8b11cf086bd89bd0d08dc", func := "emendate/emendatelaw07.BytesetClasses", spec := "bytesetClasses", unfollowed := true, recurses := true, named := ["math/bits.deBruijn64tab"], apart := false, laid := [("math/bits.deBruijn64tab", laid_math_bits_deBruijn64tab)] }
def BytesetClassesSaid : Prop := bytesetClassesRow.holds Tryd.pinned (OpenSpec.ofChange bytesetClassesSpec)

/-- ITS FALSE NEIGHBOUR: 'it returns false'. Refute it at one input. -/
def bytesetClassesWrong : ChangeSpec := { name := "bytesetClasses", fn := fun _ => fun
  | [d] => { results := [.lit (.bool false)], args := [d] }
  | _ => none }
def BytesetClassesWrongFalsely : Prop := bytesetClassesRow.holds Tryd.pinned (OpenSpec.ofChange bytesetClassesWrong)

/-- 'emendatelaw07.BytesetRefines': WHATEVER THE INPUT: true; the input reads as it did. -/
def bytesetRefinesSpec : ChangeSpec := { name := "bytesetRefines", fn := fun _ => fun
  | [d1, d2, d3] => { results := [.lit (.bool true)], args := [d1, d2, d3] }
  | _ => none }
def bytesetRefinesRow : OpenClaim := { program := "ytnjlnldbfejjpaadoor", sum := "f9834466168a661334a4f158d97c1619db0e14ee95e8b11cf086bd89bd0d08dc", func := "emendate/emendatelaw07.BytesetRefines", spec := "bytesetRefines", unfollowed := true, recurses := true, named := ["math/bits.deBruijn64tab"], apart := false, laid := [("math/bits.deBruijn64tab", laid_math_bits_deBruijn64tab)] }
def BytesetRefinesSaid : Prop := bytesetRefinesRow.holds Tryd.pinned (OpenSpec.ofChange bytesetRefinesSpec)

/-- ITS FALSE NEIGHBOUR: 'it returns false'. Refute it at one input. -/
def bytesetRefinesWrong : ChangeSpec := { name := "bytesetRefines", fn := fun _ => fun
  | [d1, d2, d3] => { results := [.lit (.bool false)], args := [d1, d2, d3] }
  | _ => none }
def BytesetRefinesWrongFalsely : Prop := bytesetRefinesRow.holds Tryd.pinned (OpenSpec.ofChange bytesetRefinesWrong)

/- THE SECOND FORM. 'bulk': how many values and letters a reading holds, each counted each time it is reached (what is shared counts as often as it is met; a slice's spare places count too). A statement '..UptoSaid' is the law's where the arguments, and the package variables that the reading takes, are together of bulk at most 1048576: NARROWER than '..Said'. Prove '..Said' where nothing that the law and all that it calls make is longer than what came in: it says more and counts as full. Else prove '..UptoSaid'. A law counts once. -/
mutual
def uptoBulk {H : Type} : DataW H → Nat
  | .lit (.string bytes) => bytes.length + 1
  | .lit _ => 1
  | .nil => 1
  | .ptr d => uptoBulk d + 1
  | .slice elems spare => uptoBulkAll elems + uptoBulkAll spare + 1
  | .agg parts => uptoBulkAll parts + 1
  | .iface _ d => uptoBulk d + 1
  | .map entries => uptoBulkEntries entries + 1
  | .held _ => 1
def uptoBulkAll {H : Type} : List (DataW H) → Nat
  | [] => 0
  | d :: r => uptoBulk d + uptoBulkAll r
def uptoBulkEntries {H : Type} : List (Lit × DataW H) → Nat
  | [] => 0
  | x :: r => uptoBulkEntry x + uptoBulkEntries r
def uptoBulkEntry {H : Type} : Lit × DataW H → Nat
  | (.string bytes, d) => bytes.length + uptoBulk d + 1
  | (_, d) => uptoBulk d + 1
 end
def uptoSmall : (H : Type) → List (DataW H) → Bool := fun _ ds => decide (uptoBulkAll ds ≤ 1048576)
def OpenSpec.upto (s : _root_.Go.ChangeSpec) : _root_.Go.OpenSpec := { _root_.Go.OpenSpec.ofChange s with cond := some uptoSmall }

/-- 'emendatelaw07.BytesetOf', WHERE WHAT IT READS IS OF BULK AT MOST 1048576: true; the input reads as it did. -/
def bytesetOfUptoRow : OpenClaim := { program := "ytnjlnldbfejjpaadoor", sum := "f9834466168a661334a4f158d97c1619db0e14ee95e8b11cf086bd89bd0d08dc", func := "emendate/emendatelaw07.BytesetOf", spec := "bytesetOf", unfollowed := true, recurses := true, named := ["math/bits.deBruijn64tab"], apart := false, laid := [("math/bits.deBruijn64tab", laid_math_bits_deBruijn64tab)], narrowed := true }
def BytesetOfUptoSaid : Prop := bytesetOfUptoRow.holds Tryd.pinned (OpenSpec.upto bytesetOfSpec)

/-- 'emendatelaw07.BytesetOperations', WHERE WHAT IT READS IS OF BULK AT MOST 1048576: true; the input reads as it did. -/
def bytesetOperationsUptoRow : OpenClaim := { program := "ytnjlnldbfejjpaadoor", sum := "f9834466168a661334a4f158d97c1619db0e14ee95e8b11cf086bd89bd0d08dc", func := "emendate/emendatelaw07.BytesetOperations", spec := "bytesetOperations", unfollowed := true, recurses := true, named := ["math/bits.deBruijn64tab"], apart := false, laid := [("math/bits.deBruijn64tab", laid_math_bits_deBruijn64tab)], narrowed := true }
def BytesetOperationsUptoSaid : Prop := bytesetOperationsUptoRow.holds Tryd.pinned (OpenSpec.upto bytesetOperationsSpec)

/-- 'emendatelaw07.BytesetAll', WHERE WHAT IT READS IS OF BULK AT MOST 1048576: true; the input reads as it did. -/
def bytesetAllUptoRow : OpenClaim := { program := "ytnjlnldbfejjpaadoor", sum := "f9834466168a661334a4f158d97c1619db0e14ee95e8b11cf086bd89bd0d08dc", func := "emendate/emendatelaw07.BytesetAll", spec := "bytesetAll", unfollowed := true, recurses := true, named := ["math/bits.deBruijn64tab"], apart := false, laid := [("math/bits.deBruijn64tab", laid_math_bits_deBruijn64tab)], narrowed := true }
def BytesetAllUptoSaid : Prop := bytesetAllUptoRow.holds Tryd.pinned (OpenSpec.upto bytesetAllSpec)

/-- 'emendatelaw07.BytesetAlgebra', WHERE WHAT IT READS IS OF BULK AT MOST 1048576: true; the input reads as it did. -/
def bytesetAlgebraUptoRow : OpenClaim := { program := "ytnjlnldbfejjpaadoor", sum := "f9834466168a661334a4f158d97c1619db0e14ee95e8b11cf086bd89bd0d08dc", func := "emendate/emendatelaw07.BytesetAlgebra", spec := "bytesetAlgebra", unfollowed := true, recurses := true, named := ["math/bits.deBruijn64tab"], apart := false, laid := [("math/bits.deBruijn64tab", laid_math_bits_deBruijn64tab)], narrowed := true }
def BytesetAlgebraUptoSaid : Prop := bytesetAlgebraUptoRow.holds Tryd.pinned (OpenSpec.upto bytesetAlgebraSpec)

/-- 'emendatelaw07.BytesetClasses', WHERE WHAT IT READS IS OF BULK AT MOST 1048576: true; the input reads as it did. -/
def bytesetClassesUptoRow : OpenClaim := { program := "ytnjlnldbfejjpaadoor", sum := "f9834466168a661334a4f158d97c1619db0e14ee95e8b11cf086bd89bd0d08dc", func := "emendate/emendatelaw07.BytesetClasses", spec := "bytesetClasses", unfollowed := true, recurses := true, named := ["math/bits.deBruijn64tab"], apart := false, laid := [("math/bits.deBruijn64tab", laid_math_bits_deBruijn64tab)], narrowed := true }
def BytesetClassesUptoSaid : Prop := bytesetClassesUptoRow.holds Tryd.pinned (OpenSpec.upto bytesetClassesSpec)

/-- 'emendatelaw07.BytesetRefines', WHERE WHAT IT READS IS OF BULK AT MOST 1048576: true; the input reads as it did. -/
def bytesetRefinesUptoRow : OpenClaim := { program := "ytnjlnldbfejjpaadoor", sum := "f9834466168a661334a4f158d97c1619db0e14ee95e8b11cf086bd89bd0d08dc", func := "emendate/emendatelaw07.BytesetRefines", spec := "bytesetRefines", unfollowed := true, recurses := true, named := ["math/bits.deBruijn64tab"], apart := false, laid := [("math/bits.deBruijn64tab", laid_math_bits_deBruijn64tab)], narrowed := true }
def BytesetRefinesUptoSaid : Prop := bytesetRefinesUptoRow.holds Tryd.pinned (OpenSpec.upto bytesetRefinesSpec)

end Rows
end Go.Proofs.YtnjlnldbfejjpaaDoor
