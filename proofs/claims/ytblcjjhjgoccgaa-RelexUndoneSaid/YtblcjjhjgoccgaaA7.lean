/-
  Contracts: OnesCount64, TrailingZeros64; sets as values; with, Has.
-/
import Derived.Test.YtblcjjhjgoccgaaProg
import Derived.Test.YtblcjjhjgoccgaaM7
import Derived.Test.YtblcjjhjgoccgaaKt
import Derived.WalkKit
import Derived.Below
import Derived.OneCell
import Derived.BigQuiet
import Derived.BigRegion
import Derived.Deep.RegionHeld3
import Derived.Deep.LoopGhost
import Derived.Outline
import Derived.OwnWalk
import Derived.Laws.BitsAllLaws

set_option linter.unusedSimpArgs false
set_option linter.unusedVariables false
namespace Go.Proofs.Ytblcjjhjgoccgaa
open Go.RowKit Bs Go.Frame

theorem wr64 {n : Nat} (h : n < 18446744073709551616) : IntKind.u64.wrap (n : Int) = (n : Int) := by rw [IntKind.wrap_u64]; omega
theorem uand {a b : Nat} (ha : a < 18446744073709551616) (hb : b < 18446744073709551616) : bits .and .u64 (a : Int) (b : Int) = ((a &&& b : Nat) : Int) := u64_and_nat a b ha hb

theorem im127 (x : Nat) (h : x < 4611686018427387904) : bits .and .i64 (x : Int) 127 = ((x % 128 : Nat) : Int) := by
  have e := bits_nat .i64 63 (by decide) (fun n h0 h1 => IntWalk.i64_in n ⟨by omega, by omega⟩) x 127 (by omega) (by decide)
  have e2 : x &&& 127 = x % 128 := Nat.and_two_pow_sub_one_eq_mod x 7
  rw [← e2]
  exact e.1
end Go.Proofs.Ytblcjjhjgoccgaa
