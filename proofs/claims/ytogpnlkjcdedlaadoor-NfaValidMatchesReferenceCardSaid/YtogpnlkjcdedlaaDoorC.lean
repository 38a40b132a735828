/-
  Contracts: the reference's with; Has and the reference's.
-/
import Derived.Test.YtogpnlkjcdedlaaDoorB
set_option linter.unusedSimpArgs false
set_option linter.unusedVariables false
namespace Go.Proofs.YtogpnlkjcdedlaaDoor
open Go.RowKit Bs Go.Frame
theorem has_bit {p : Nat → Bool} {k j : Nat} (hj : j < 64) : bits .and .u64 ((wd p k : Int) / (2 : Int) ^ j) 1 = ((p (64 * k + j)).toNat : Int) := by
  have h := nb_has (fun i => p (64 * k + i)) hj
  have e : (wd p k : Int) / (2 : Int) ^ j = ((wd p k / 2 ^ j : Nat) : Int) := by simp
  have k1 := uand (a := wd p k / 2 ^ j) (b := 1) (Nat.lt_of_le_of_lt (Nat.div_le_self _ _) (wd_lt p k)) (by decide)
  rw [e]
  refine k1.trans ?_
  rw [Nat.and_one_is_mod]
  exact congrArg _ h

set_option maxRecDepth 100000 in
set_option maxHeartbeats 2000000 in
theorem Has_any (p : Nat → Bool) (b : Nat) (w : World) (hb : b < 256) :
    Calls Tryd.prog 74 #[sv p, .int .u8 (b : Int)] w fun e w' => e = .returned (.bool (p b)) ∧ Below w.heap.size w w' := by
  obtain ⟨k, j, hk, hj, rfl⟩ : ∃ k j, k < 4 ∧ j < 64 ∧ b = 64 * k + j := ⟨b / 64, b % 64, by omega, by omega, by omega⟩
  obtain ⟨b, hb'⟩ : ∃ b, b = 64 * k + j := ⟨_, rfl⟩
  have q1 : (b : Int) / 64 = (k : Int) := by omega
  have q2 : (b : Int) % 64 = (j : Int) := by omega
  have q3 : b / 64 = k := by omega
  have q4 : b % 64 = j := by omega
  have E := has_bit (p := p) (k := k) hj
  rw [← hb'] at E ⊢
  clear hb' hb hj
  unfold sv
  have hk4 : k = 0 ∨ k = 1 ∨ k = 2 ∨ k = 3 := by omega
  cases hp : p b
  all_goals (
    rw [hp] at E
    simp only [Bool.toNat_false, Bool.toNat_true, Int.natCast_zero, Int.natCast_one] at E
    clear hp
    rcases hk4 with rfl | rfl | rfl | rfl
    all_goals (
      go_enter Tryd.func74, Tryd.ntmps74
      go_wp2
      go_ret
      exact ⟨rfl, (Below.refl _ _).alloc (Nat.le_refl _) _⟩))


end Go.Proofs.YtogpnlkjcdedlaaDoor
