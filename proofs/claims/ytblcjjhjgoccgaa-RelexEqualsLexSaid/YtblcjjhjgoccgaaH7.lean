/-
  Contracts: Len; the reference's List and Len.
-/
import Derived.Test.YtblcjjhjgoccgaaG7
set_option linter.unusedSimpArgs false
set_option linter.unusedVariables false
namespace Go.Proofs.Ytblcjjhjgoccgaa
open Go.RowKit Bs Go.Frame

theorem ix0 (a b c d : Int) (w : World) : (Instr.index 64 (.agg #[.int .u64 a, .int .u64 b, .int .u64 c, .int .u64 d]) (.int .i64 0)).run Try.prog w = .ok (.int .u64 a) w := by kernel_rfl
theorem ix1 (a b c d : Int) (w : World) : (Instr.index 64 (.agg #[.int .u64 a, .int .u64 b, .int .u64 c, .int .u64 d]) (.int .i64 1)).run Try.prog w = .ok (.int .u64 b) w := by kernel_rfl
theorem ix2 (a b c d : Int) (w : World) : (Instr.index 64 (.agg #[.int .u64 a, .int .u64 b, .int .u64 c, .int .u64 d]) (.int .i64 2)).run Try.prog w = .ok (.int .u64 c) w := by kernel_rfl
theorem ix3 (a b c d : Int) (w : World) : (Instr.index 64 (.agg #[.int .u64 a, .int .u64 b, .int .u64 c, .int .u64 d]) (.int .i64 3)).run Try.prog w = .ok (.int .u64 d) w := by kernel_rfl
theorem len_step (p : Nat → Bool) (i : Nat) : ((cnt p (64 * i) : Nat) : Int) + (pc 64 (wd p i) : Int) = (cnt p (64 * (i + 1)) : Int) := by
  have h : pc 64 (wd p i) = cnt (fun j => p (64 * i + j)) 64 := pc_nb 64 _
  rw [h, show 64 * (i + 1) = 64 * i + 64 by omega, cnt_add]
  omega
/-- Bytes as values. -/
def bys (l : List (Fin 256)) : List Value := l.map fun x => Value.int .u8 (x.1 : Int)
theorem bys_length (l : List (Fin 256)) : (bys l).length = l.length := by simp [bys]
theorem bys_snoc (l : List (Fin 256)) (x : Fin 256) : bys (l ++ [x]) = bys l ++ [.int .u8 (x.1 : Int)] := by simp [bys]
theorem Try.info5 : (Try.prog.info? 5).map (fun i => (i.zero, i.size, i.bytes)) = some (some (.int .u8 0), 1, 1) := by kernel_rfl
/-- What the reference's List comes to. -/
def ListRes (p : Nat → Bool) (w : World) (e : Ending) (w' : World) : Prop := (∃ a c, e = .returned (.slice a (cnt p 256) c)) ∧ Below w.heap.size w w'
end Go.Proofs.Ytblcjjhjgoccgaa
