/-
  No cell of these rows narrows 'for every input' (looked for: loops, veiled, ifaces, maps, wideKeys, modest, calm, conditions, laid).
  DERIVED. THE GIVEN ROWS OF THIS SEAT. 5 by the template 'for every input the law returns true; each argument reads behind the call as it read before'; 0 by the template 'total and deterministic' (their statements: YtelbagaiijffdaaTotals.lean).
  GIVEN WITH THE SEED: the statements are not yours to turn. If you find one false, say at which input.
  Laid BY PROGRAM, IN A SANDBOX (cutbox-rows.mjs): the forced cells as the released guide's own fill.sh prints them over the translation a3facc5cc9932f48… (all of the seat's roots in one cut). By AI agents, Wed Nov 11 2026. No macro, syntax, notation, axiom, sorry.
-/
import Derived.Test.YtelbagaiijffdaaChecked
import GoSem.Claim
import GoSem.ClaimJoined
import GoSem.ClaimMapViews
import Derived.JoinedTies
import Derived.KernelRfl
namespace Go.Proofs.Ytelbagaiijffdaa
/- THE CELL 'sum', in the pinned program and in every row, IS THE sha256 OF THE DUMP (.gsa) THAT YtelbagaiijffdaaProg.lean LOADS. Nothing in Lean hashes anything: it is a label: what it is worth is what the hold of that sum in a sandbox is worth. -/
noncomputable def Try.pinned : Pinned := { name := "ytelbagaiijffdaa", sum := "a3facc5cc9932f4896a9ddcbe65bef408f6548c13571a461d82048eb8711b81c", checked := Try.checked }
namespace Rows
def none {H : Type} : Left H := { results := [], args := [] }

/-- 'emendatelaw10.DfaRun': WHATEVER THE INPUT: true; the input reads as it did. -/
def dfaRunSpec : ChangeSpec := { name := "dfaRun", fn := fun _ => fun
  | [d1, d2] => { results := [.lit (.bool true)], args := [d1, d2] }
  | _ => none }
def dfaRunRow : OpenClaim := { program := "ytelbagaiijffdaa", sum := "a3facc5cc9932f4896a9ddcbe65bef408f6548c13571a461d82048eb8711b81c", func := "emendate/emendatelaw10.DfaRun", spec := "dfaRun", unfollowed := true, recurses := true, plainKeys := false, apart := false }
def DfaRunSaid : Prop := dfaRunRow.holds Try.pinned (OpenSpec.ofChange dfaRunSpec)

/-- ITS FALSE NEIGHBOUR: 'it returns false'. Refute it at one input. -/
def dfaRunWrong : ChangeSpec := { name := "dfaRun", fn := fun _ => fun
  | [d1, d2] => { results := [.lit (.bool false)], args := [d1, d2] }
  | _ => none }
def DfaRunWrongFalsely : Prop := dfaRunRow.holds Try.pinned (OpenSpec.ofChange dfaRunWrong)

/-- 'emendatelaw10.DfaMinimizeKeeps': WHATEVER THE INPUT: true; the input reads as it did. -/
def dfaMinimizeKeepsSpec : ChangeSpec := { name := "dfaMinimizeKeeps", fn := fun _ => fun
  | [d1, d2] => { results := [.lit (.bool true)], args := [d1, d2] }
  | _ => none }
def dfaMinimizeKeepsRow : OpenClaim := { program := "ytelbagaiijffdaa", sum := "a3facc5cc9932f4896a9ddcbe65bef408f6548c13571a461d82048eb8711b81c", func := "emendate/emendatelaw10.DfaMinimizeKeeps", spec := "dfaMinimizeKeeps", unfollowed := true, recurses := true, plainKeys := false, apart := false }
def DfaMinimizeKeepsSaid : Prop := dfaMinimizeKeepsRow.holds Try.pinned (OpenSpec.ofChange dfaMinimizeKeepsSpec)

/-- ITS FALSE NEIGHBOUR: 'it returns false'. Refute it at one input. -/
def dfaMinimizeKeepsWrong : ChangeSpec := { name := "dfaMinimizeKeeps", fn := fun _ => fun
  | [d1, d2] => { results := [.lit (.bool false)], args := [d1, d2] }
  | _ => none }
def DfaMinimizeKeepsWrongFalsely : Prop := dfaMinimizeKeepsRow.holds Try.pinned (OpenSpec.ofChange dfaMinimizeKeepsWrong)

/-- 'emendatelaw10.DfaDifference': WHATEVER THE INPUT: true; the input reads as it did. -/
def dfaDifferenceSpec : ChangeSpec := { name := "dfaDifference", fn := fun _ => fun
  | [d1, d2] => { results := [.lit (.bool true)], args := [d1, d2] }
  | _ => none }
def dfaDifferenceRow : OpenClaim := { program := "ytelbagaiijffdaa", sum := "a3facc5cc9932f4896a9ddcbe65bef408f6548c13571a461d82048eb8711b81c", func := "emendate/emendatelaw10.DfaDifference", spec := "dfaDifference", unfollowed := true, recurses := true, plainKeys := false, apart := false }
def DfaDifferenceSaid : Prop := dfaDifferenceRow.holds Try.pinned (OpenSpec.ofChange dfaDifferenceSpec)

/-- ITS FALSE NEIGHBOUR: 'it returns false'. Refute it at one input. -/
def dfaDifferenceWrong : ChangeSpec := { name := "dfaDifference", fn := fun _ => fun
  | [d1, d2] => { results := [.lit (.bool false)], args := [d1, d2] }
  | _ => none }
def DfaDifferenceWrongFalsely : Prop := dfaDifferenceRow.holds Try.pinned (OpenSpec.ofChange dfaDifferenceWrong)

/-- 'emendatelaw10.DfaDifferenceLeast': WHATEVER THE INPUT: true; the input reads as it did. -/
def dfaDifferenceLeastSpec : ChangeSpec := { name := "dfaDifferenceLeast", fn := fun _ => fun
  | [d1, d2, d3] => { results := [.lit (.bool true)], args := [d1, d2, d3] }
  | _ => none }
def dfaDifferenceLeastRow : OpenClaim := { program := "ytelbagaiijffdaa", sum := "a3facc5cc9932f4896a9ddcbe65bef408f6548c13571a461d82048eb8711b81c", func := "emendate/emendatelaw10.DfaDifferenceLeast", spec := "dfaDifferenceLeast", unfollowed := true, recurses := true, plainKeys := false, apart := false }
def DfaDifferenceLeastSaid : Prop := dfaDifferenceLeastRow.holds Try.pinned (OpenSpec.ofChange dfaDifferenceLeastSpec)

/-- ITS FALSE NEIGHBOUR: 'it returns false'. Refute it at one input. -/
def dfaDifferenceLeastWrong : ChangeSpec := { name := "dfaDifferenceLeast", fn := fun _ => fun
  | [d1, d2, d3] => { results := [.lit (.bool false)], args := [d1, d2, d3] }
  | _ => none }
def DfaDifferenceLeastWrongFalsely : Prop := dfaDifferenceLeastRow.holds Try.pinned (OpenSpec.ofChange dfaDifferenceLeastWrong)

/-- 'emendatelaw10.DfaClasses': WHATEVER THE INPUT: true; the input reads as it did. -/
def dfaClassesSpec : ChangeSpec := { name := "dfaClasses", fn := fun _ => fun
  | [d1, d2] => { results := [.lit (.bool true)], args := [d1, d2] }
  | _ => none }
def dfaClassesRow : OpenClaim := { program := "ytelbagaiijffdaa", sum := "a3facc5cc9932f4896a9ddcbe65bef408f6548c13571a461d82048eb8711b81c", func := "emendate/emendatelaw10.DfaClasses", spec := "dfaClasses", unfollowed := true, recurses := true, plainKeys := false, apart := false }
def DfaClassesSaid : Prop := dfaClassesRow.holds Try.pinned (OpenSpec.ofChange dfaClassesSpec)

/-- ITS FALSE NEIGHBOUR: 'it returns false'. Refute it at one input. -/
def dfaClassesWrong : ChangeSpec := { name := "dfaClasses", fn := fun _ => fun
  | [d1, d2] => { results := [.lit (.bool false)], args := [d1, d2] }
  | _ => none }
def DfaClassesWrongFalsely : Prop := dfaClassesRow.holds Try.pinned (OpenSpec.ofChange dfaClassesWrong)

/- THE SECOND FORM. 'bulk': how many values and letters a reading holds, each counted each time it is reached (what is shared counts as often as it is met; a slice's spare places count too). A statement '..UptoSaid' is the law's where the arguments, and the package variables that the reading takes, are together of bulk at most 1048576: NARROWER than '..Said'. Prove '..Said' where nothing that the law and all that it calls make is longer than what came in: it says more and counts as full. Else prove '..UptoSaid'. A law counts once. -/
mutual
def uptoBulk {H : Type} : DataW H → Nat
  | .lit (.string bytes) => bytes.length + 1
  | .lit _ => 1
  | .nil => 1
  | .ptr d => uptoBulk d + 1
  | .slice elems spare => uptoBulkAll elems + uptoBulkAll spare + 1
  | .agg parts => uptoBulkAll parts + 1
  | .iface _ d => uptoBulk d + 1
  | .map entries => uptoBulkEntries entries + 1
  | .held _ => 1
def uptoBulkAll {H : Type} : List (DataW H) → Nat
  | [] => 0
  | d :: r => uptoBulk d + uptoBulkAll r
def uptoBulkEntries {H : Type} : List (Lit × DataW H) → Nat
  | [] => 0
  | x :: r => uptoBulkEntry x + uptoBulkEntries r
def uptoBulkEntry {H : Type} : Lit × DataW H → Nat
  | (.string bytes, d) => bytes.length + uptoBulk d + 1
  | (_, d) => uptoBulk d + 1
 end
def uptoSmall : (H : Type) → List (DataW H) → Bool := fun _ ds => decide (uptoBulkAll ds ≤ 1048576)
def OpenSpec.upto (s : _root_.Go.ChangeSpec) : _root_.Go.OpenSpec := { _root_.Go.OpenSpec.ofChange s with cond := some uptoSmall }

/-- 'emendatelaw10.DfaRun', WHERE WHAT IT READS IS OF BULK AT MOST 1048576: true; the input reads as it did. -/
def dfaRunUptoRow : OpenClaim := { program := "ytelbagaiijffdaa", sum := "a3facc5cc9932f4896a9ddcbe65bef408f6548c13571a461d82048eb8711b81c", func := "emendate/emendatelaw10.DfaRun", spec := "dfaRun", unfollowed := true, recurses := true, plainKeys := false, apart := false, narrowed := true }
def DfaRunUptoSaid : Prop := dfaRunUptoRow.holds Try.pinned (OpenSpec.upto dfaRunSpec)

/-- 'emendatelaw10.DfaMinimizeKeeps', WHERE WHAT IT READS IS OF BULK AT MOST 1048576: true; the input reads as it did. -/
def dfaMinimizeKeepsUptoRow : OpenClaim := { program := "ytelbagaiijffdaa", sum := "a3facc5cc9932f4896a9ddcbe65bef408f6548c13571a461d82048eb8711b81c", func := "emendate/emendatelaw10.DfaMinimizeKeeps", spec := "dfaMinimizeKeeps", unfollowed := true, recurses := true, plainKeys := false, apart := false, narrowed := true }
def DfaMinimizeKeepsUptoSaid : Prop := dfaMinimizeKeepsUptoRow.holds Try.pinned (OpenSpec.upto dfaMinimizeKeepsSpec)

/-- 'emendatelaw10.DfaDifference', WHERE WHAT IT READS IS OF BULK AT MOST 1048576: true; the input reads as it did. -/
def dfaDifferenceUptoRow : OpenClaim := { program := "ytelbagaiijffdaa", sum := "a3facc5cc9932f4896a9ddcbe65bef408f6548c13571a461d82048eb8711b81c", func := "emendate/emendatelaw10.DfaDifference", spec := "dfaDifference", unfollowed := true, recurses := true, plainKeys := false, apart := false, narrowed := true }
def DfaDifferenceUptoSaid : Prop := dfaDifferenceUptoRow.holds Try.pinned (OpenSpec.upto dfaDifferenceSpec)

/-- 'emendatelaw10.DfaDifferenceLeast', WHERE WHAT IT READS IS OF BULK AT MOST 1048576: true; the input reads as it did. -/
def dfaDifferenceLeastUptoRow : OpenClaim := { program := "ytelbagaiijffdaa", sum := "a3facc5cc9932f4896a9ddcbe65bef408f6548c13571a461d82048eb8711b81c", func := "emendate/emendatelaw10.DfaDifferenceLeast", spec := "dfaDifferenceLeast", unfollowed := true, recurses := true, plainKeys := false, apart := false, narrowed := true }
def DfaDifferenceLeastUptoSaid : Prop := dfaDifferenceLeastUptoRow.holds Try.pinned (OpenSpec.upto dfaDifferenceLeastSpec)

/-- 'emendatelaw10.DfaClasses', WHERE WHAT IT READS IS OF BULK AT MOST 1048576: true; the input reads as it did. -/
def dfaClassesUptoRow : OpenClaim := { program := "ytelbagaiijffdaa", sum := "a3facc5cc9932f4896a9ddcbe65bef408f6548c13571a461d82048eb8711b81c", func := "emendate/emendatelaw10.DfaClasses", spec := "dfaClasses", unfollowed := true, recurses := true, plainKeys := false, apart := false, narrowed := true }
def DfaClassesUptoSaid : Prop := dfaClassesUptoRow.holds Try.pinned (OpenSpec.upto dfaClassesSpec)

end Rows
end Go.Proofs.Ytelbagaiijffdaa
