/-
  Contracts: the reference's with; Has and the reference's.
-/
import Derived.Test.YtblcjjhjgoccgaaB7
set_option linter.unusedSimpArgs false
set_option linter.unusedVariables false
namespace Go.Proofs.Ytblcjjhjgoccgaa
open Go.RowKit Bs Go.Frame

set_option maxRecDepth 100000 in
set_option maxHeartbeats 2000000 in
theorem rwith_any (p : Nat → Bool) (b : Nat) (w : World) (hb : b < 256) :
    Calls Try.prog 46 #[sv p, .int .u8 (b : Int)] w fun e w' => e = .returned (sv (add1 p b)) ∧ Below w.heap.size w w' := by
  obtain ⟨k, j, hk, hj, rfl⟩ : ∃ k j, k < 4 ∧ j < 64 ∧ b = 64 * k + j := ⟨b / 64, b % 64, by omega, by omega, by omega⟩
  obtain ⟨b, hb'⟩ : ∃ b, b = 64 * k + j := ⟨_, rfl⟩
  have q1 : (b : Int) / 64 = (k : Int) := by omega
  have q2 : (b : Int) % 64 = (j : Int) := by omega
  have q3 : b / 64 = k := by omega
  have q4 : b % 64 = j := by omega
  have H : ∀ k' : Nat, k' ≠ k → wd (add1 p b) k' = wd p k' := fun k' h => by rw [hb']; exact wd_add_other p hj h
  have E := or_pow (p := p) (k := k) hj
  rw [← hb'] at E ⊢
  clear hb' hb hj
  unfold sv
  have hk4 : k = 0 ∨ k = 1 ∨ k = 2 ∨ k = 3 := by omega
  rcases hk4 with rfl | rfl | rfl | rfl
  · rw [H 1 (by decide), H 2 (by decide), H 3 (by decide)]
    have H' := hid H; clear H
    go_enter Try.func46, Try.ntmps46
    go_wp2
    refine bodyPost_ret (v := .agg #[.int .u64 (wd (add1 p b) 0 : Int), .int .u64 (wd p 1 : Int), .int .u64 (wd p 2 : Int), .int .u64 (wd p 3 : Int)]) ?_ rfl ⟨rfl, ?_⟩
    · simp [results, Try.results46, go_sem]
    · exact ((Below.refl _ _).alloc (Nat.le_refl _) _).alloc (by simp) _
  · rw [H 0 (by decide), H 2 (by decide), H 3 (by decide)]
    have H' := hid H; clear H
    go_enter Try.func46, Try.ntmps46
    go_wp2
    refine bodyPost_ret (v := .agg #[.int .u64 (wd p 0 : Int), .int .u64 (wd (add1 p b) 1 : Int), .int .u64 (wd p 2 : Int), .int .u64 (wd p 3 : Int)]) ?_ rfl ⟨rfl, ?_⟩
    · simp [results, Try.results46, go_sem]
    · exact ((Below.refl _ _).alloc (Nat.le_refl _) _).alloc (by simp) _
  · rw [H 0 (by decide), H 1 (by decide), H 3 (by decide)]
    have H' := hid H; clear H
    go_enter Try.func46, Try.ntmps46
    go_wp2
    refine bodyPost_ret (v := .agg #[.int .u64 (wd p 0 : Int), .int .u64 (wd p 1 : Int), .int .u64 (wd (add1 p b) 2 : Int), .int .u64 (wd p 3 : Int)]) ?_ rfl ⟨rfl, ?_⟩
    · simp [results, Try.results46, go_sem]
    · exact ((Below.refl _ _).alloc (Nat.le_refl _) _).alloc (by simp) _
  · rw [H 0 (by decide), H 1 (by decide), H 2 (by decide)]
    have H' := hid H; clear H
    go_enter Try.func46, Try.ntmps46
    go_wp2
    refine bodyPost_ret (v := .agg #[.int .u64 (wd p 0 : Int), .int .u64 (wd p 1 : Int), .int .u64 (wd p 2 : Int), .int .u64 (wd (add1 p b) 3 : Int)]) ?_ rfl ⟨rfl, ?_⟩
    · simp [results, Try.results46, go_sem]
    · exact ((Below.refl _ _).alloc (Nat.le_refl _) _).alloc (by simp) _

theorem has_bit {p : Nat → Bool} {k j : Nat} (hj : j < 64) : bits .and .u64 ((wd p k : Int) / (2 : Int) ^ j) 1 = ((p (64 * k + j)).toNat : Int) := by
  have h := nb_has (fun i => p (64 * k + i)) hj
  have e : (wd p k : Int) / (2 : Int) ^ j = ((wd p k / 2 ^ j : Nat) : Int) := by simp
  have k1 := uand (a := wd p k / 2 ^ j) (b := 1) (Nat.lt_of_le_of_lt (Nat.div_le_self _ _) (wd_lt p k)) (by decide)
  rw [e]
  refine k1.trans ?_
  rw [Nat.and_one_is_mod]
  exact congrArg _ h

set_option maxRecDepth 100000 in
set_option maxHeartbeats 2000000 in
theorem rHas_any (p : Nat → Bool) (b : Nat) (w : World) (hb : b < 256) :
    Calls Try.prog 56 #[sv p, .int .u8 (b : Int)] w fun e w' => e = .returned (.bool (p b)) ∧ Below w.heap.size w w' := by
  obtain ⟨k, j, hk, hj, rfl⟩ : ∃ k j, k < 4 ∧ j < 64 ∧ b = 64 * k + j := ⟨b / 64, b % 64, by omega, by omega, by omega⟩
  obtain ⟨b, hb'⟩ : ∃ b, b = 64 * k + j := ⟨_, rfl⟩
  have q1 : (b : Int) / 64 = (k : Int) := by omega
  have q2 : (b : Int) % 64 = (j : Int) := by omega
  have q3 : b / 64 = k := by omega
  have q4 : b % 64 = j := by omega
  have E := has_bit (p := p) (k := k) hj
  rw [← hb'] at E ⊢
  clear hb' hb hj
  unfold sv
  have hk4 : k = 0 ∨ k = 1 ∨ k = 2 ∨ k = 3 := by omega
  cases hp : p b
  all_goals (
    rw [hp] at E
    simp only [Bool.toNat_false, Bool.toNat_true, Int.natCast_zero, Int.natCast_one] at E
    clear hp
    rcases hk4 with rfl | rfl | rfl | rfl
    all_goals (
      go_enter Try.func56, Try.ntmps56
      go_wp2
      go_ret
      exact ⟨rfl, (Below.refl _ _).alloc (Nat.le_refl _) _⟩))


end Go.Proofs.Ytblcjjhjgoccgaa
