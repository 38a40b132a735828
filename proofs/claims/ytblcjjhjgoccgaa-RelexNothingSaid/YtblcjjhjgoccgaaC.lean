/-
  Contract: the machine's advance.
-/
import Derived.Test.YtblcjjhjgoccgaaRv
import Derived.StillTailTactics
set_option linter.unusedSimpArgs false
set_option linter.unusedVariables false
namespace Go.Proofs.Ytblcjjhjgoccgaa
open Go.RowKit Lx Go.Frame

/-- A machine in a block of the call's own. -/
structure MB (w0 W : World) (mb : Nat) (a1 : Option Addr) (n1 c1 : Nat) (a2 : Option Addr) (n2 c2 : Nat) (a3 : Option Addr) (n3 c3 : Nat) (q : Int) : Prop where
  box : W.heap[mb]? = some (.cells #[.slice a1 n1 c1, .slice a2 n2 c2, .slice a3 n3 c3, .int .i64 q] 63 (0, 0))
  lo : w0.heap.size ≤ mb
  bel : Below w0.heap.size w0 W
/-- What advance answers for a successor. -/
def advT (D : Df) (d : Int) : Value := if d < 0 then .tuple #[.int .i64 0, .bool false] else .tuple #[.int .i64 (ac D d.toNat), .bool true]
theorem advT_no {D : Df} {d : Int} (h : d < 0) : advT D d = .tuple #[.int .i64 0, .bool false] := if_pos h
theorem advT_yes {D : Df} {d : Int} (h : ¬ d < 0) : advT D d = .tuple #[.int .i64 (ac D d.toNat), .bool true] := if_neg h
end Go.Proofs.Ytblcjjhjgoccgaa
