/-
  Contracts: shaped.
-/
import Derived.Test.YtogpnlkjcdedlaaDoorJ
set_option linter.unusedSimpArgs false
set_option linter.unusedVariables false
namespace Go.Proofs.YtogpnlkjcdedlaaDoor
open Go.RowKit Bs Rg Go.Frame
attribute [local go_sem] eq_zero eq_set

set_option maxRecDepth 100000 in
set_option maxHeartbeats 4000000 in
theorem shaped_any (k : Int) (s : BS) (a : Option Addr) (n c : Nat) (w : World) (hn : n < 140737488355328) :
    Calls Tryd.prog 75 #[.agg #[.int .i64 k, .int .u64 (ws s 0 : Int), .int .u64 (ws s 1 : Int), .int .u64 (ws s 2 : Int), .int .u64 (ws s 3 : Int), .slice a n c]] w fun e w' => e = .returned (.bool (shaped k s n)) ∧ Below w.heap.size w w' := by
  have hk : k = 1 ∨ k = 2 ∨ k = 3 ∨ k = 4 ∨ k = 5 ∨ k = 6 ∨ (k ≠ 1 ∧ k ≠ 2 ∧ k ≠ 3 ∧ k ≠ 4 ∧ k ≠ 5 ∧ k ≠ 6) := by omega
  have hn : n = 0 ∨ n = 1 ∨ ((2 : Int) ≤ n ∧ ¬ (n : Int) = 0 ∧ ¬ (n : Int) = 1 ∧ ¬ n = 0 ∧ ¬ n = 1 ∧ 2 ≤ n) := by omega
  rcases hk with rfl | rfl | rfl | rfl | rfl | rfl | ⟨h1, h2, h3, h4, h5, h6⟩ <;> rcases hn with rfl | rfl | ⟨n1, n2, n3, n4, n5, n6⟩
  all_goals
    go_enter Tryd.func75, Tryd.ntmps75
    go_wp2_with fail
    go_quiet (fail)
    go_wp2
  all_goals
    go_ret
    refine ⟨?_, below_drewN ((Below.refl _ _).alloc (Nat.le_refl _) _) _⟩
    simp [shaped, *]

end Go.Proofs.YtogpnlkjcdedlaaDoor
