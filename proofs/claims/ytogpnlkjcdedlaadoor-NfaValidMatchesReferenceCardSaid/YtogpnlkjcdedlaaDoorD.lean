/-
  Contracts: Of and the reference's.
-/
import Derived.Test.YtogpnlkjcdedlaaDoorC
import Derived.Test.YtogpnlkjcdedlaaDoorRq
import Derived.Deep.LoopGhost
import Derived.LoopIn
import Derived.TacticsInMore
set_option linter.unusedSimpArgs false
set_option linter.unusedVariables false
namespace Go.Proofs.YtogpnlkjcdedlaaDoor
open Go.RowKit Bs Go.Frame

/-- A box that holds a set. -/
def SB (W : World) (b : Nat) (p : Nat → Bool) : Prop := W.heap[b]? = some (.cells #[.int .u64 (wd p 0 : Int), .int .u64 (wd p 1 : Int), .int .u64 (wd p 2 : Int), .int .u64 (wd p 3 : Int)] 48 (0, 0))
theorem wd_false (k : Nat) : wd (fun _ => false) k = 0 := nb_zero 64
theorem zcells : (#[.int .u64 (wd (fun _ => false) 0 : Int), .int .u64 (wd (fun _ => false) 1 : Int), .int .u64 (wd (fun _ => false) 2 : Int), .int .u64 (wd (fun _ => false) 3 : Int)] : Array Value) = #[.int .u64 0, .int .u64 0, .int .u64 0, .int .u64 0] := by
  rw [wd_false, wd_false, wd_false, wd_false]; rfl
theorem sb_zero {W : World} {b : Nat} (h : W.heap[b]? = some (.cells #[.int .u64 0, .int .u64 0, .int .u64 0, .int .u64 0] 48 (0, 0))) : SB W b (fun _ => false) := by unfold SB; rw [zcells]; exact h
def zset : Obj := .cells #[.int .u64 0, .int .u64 0, .int .u64 0, .int .u64 0] 48
/-- The bytes of the first i. -/
def ofp (s : ByteArray) : Nat → Nat → Bool
  | 0 => fun _ => false
  | i + 1 => if h : i < s.size then add1 (ofp s i) s[i].toNat else ofp s i
theorem ofp_next (s : ByteArray) {i : Nat} (h : i < s.size) : ofp s (i + 1) = add1 (ofp s i) s[i].toNat := by
  rw [ofp]; simp only [h, dite_true]

end Go.Proofs.YtogpnlkjcdedlaaDoor
