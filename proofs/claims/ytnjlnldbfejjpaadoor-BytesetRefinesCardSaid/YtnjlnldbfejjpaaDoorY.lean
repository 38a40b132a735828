/-
  Two sets of the same words are equal: what the walk meets at == and != of arrays.
-/
import Derived.Test.YtnjlnldbfejjpaaDoorP
import Derived.Laws.StructEq
import Derived.ChangeKeysEq
namespace Go.Proofs.YtnjlnldbfejjpaaDoor
open Go.RowKit Bs Go.Frame

theorem info23 : (Tryd.prog.info? 23).isSome = true := by kernel_rfl
theorem noGuard25 : Tryd.prog.eqGuardType Tryd.prog.depth 25 = false := by kernel_rfl
theorem part0 (a b c d : Int) (w : World) : (Go.part 23 #[Value.int .u64 a, .int .u64 b, .int .u64 c, .int .u64 d] 0).run Tryd.prog w = .ok (.int .u64 a) w := by kernel_rfl
theorem part1 (a b c d : Int) (w : World) : (Go.part 23 #[Value.int .u64 a, .int .u64 b, .int .u64 c, .int .u64 d] 1).run Tryd.prog w = .ok (.int .u64 b) w := by kernel_rfl
theorem part2 (a b c d : Int) (w : World) : (Go.part 23 #[Value.int .u64 a, .int .u64 b, .int .u64 c, .int .u64 d] 2).run Tryd.prog w = .ok (.int .u64 c) w := by kernel_rfl
theorem part3 (a b c d : Int) (w : World) : (Go.part 23 #[Value.int .u64 a, .int .u64 b, .int .u64 c, .int .u64 d] 3).run Tryd.prog w = .ok (.int .u64 d) w := by kernel_rfl
theorem eqIn (a b c d : Int) (w : World) : (Op.equalIn 10000 25 (.agg #[.int .u64 a, .int .u64 b, .int .u64 c, .int .u64 d]) (.agg #[.int .u64 a, .int .u64 b, .int .u64 c, .int .u64 d])).run Tryd.prog w = .ok true w := by
  obtain ⟨i, hi⟩ := Option.isSome_iff_exists.1 info23
  rw [show (10000 : Nat) = 9999 + 1 from rfl, run_equalIn_array w 9999 _ _ Tryd.underlying25 hi, cells23]
  have h0 : ∀ w, (Go.part 23 #[Value.int .u64 a, .int .u64 b, .int .u64 c, .int .u64 d] 0).run Tryd.prog w = .ok (.int .u64 a) w := fun w => part0 a b c d w
  have h1 : ∀ w, (Go.part 23 #[Value.int .u64 a, .int .u64 b, .int .u64 c, .int .u64 d] 1).run Tryd.prog w = .ok (.int .u64 b) w := fun w => part1 a b c d w
  have h2 : ∀ w, (Go.part 23 #[Value.int .u64 a, .int .u64 b, .int .u64 c, .int .u64 d] 2).run Tryd.prog w = .ok (.int .u64 c) w := fun w => part2 a b c d w
  have h3 : ∀ w, (Go.part 23 #[Value.int .u64 a, .int .u64 b, .int .u64 c, .int .u64 d] 3).run Tryd.prog w = .ok (.int .u64 d) w := fun w => part3 a b c d w
  have he : ∀ (x : Int) (w : World), (Op.equalIn 9999 23 (.int .u64 x) (.int .u64 x)).run Tryd.prog w = .ok true w := fun x w => by
    rw [run_equalIn_int w 9998 23 .u64 .u64 x x Tryd.underlying23]; simp
  rw [show List.range 4 = [0, 1, 2, 3] from rfl]
  simp [Op.eqItems, Sem.run_bind, h0, h1, h2, h3, he]
theorem eql_set (a b c d : Int) (w : World) : (binOp .eql 25 (.agg #[.int .u64 a, .int .u64 b, .int .u64 c, .int .u64 d]) (.agg #[.int .u64 a, .int .u64 b, .int .u64 c, .int .u64 d])).run Tryd.prog w = .ok (.bool true) w := by
  rw [run_eql_struct, eqIn]; rfl
theorem neq_set (a b c d : Int) (w : World) : (binOp .neq 25 (.agg #[.int .u64 a, .int .u64 b, .int .u64 c, .int .u64 d]) (.agg #[.int .u64 a, .int .u64 b, .int .u64 c, .int .u64 d])).run Tryd.prog w = .ok (.bool false) w := by
  rw [run_neq_struct, eqIn]; rfl
end Go.Proofs.YtnjlnldbfejjpaaDoor
