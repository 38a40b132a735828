/-
  Contracts: Union, Intersect, Complement.
-/
import Derived.Test.YtblcjjhjgoccgaaE7
set_option linter.unusedSimpArgs false
set_option linter.unusedVariables false
namespace Go.Proofs.Ytblcjjhjgoccgaa
open Go.RowKit Bs Go.Frame

/-- The first i words of g, the others of p. -/
def mix (g p : Nat → Bool) (i x : Nat) : Bool := if x < 64 * i then g x else p x
theorem mix_zero (g p : Nat → Bool) (x : Nat) : mix g p 0 x = p x := by unfold mix; rw [if_neg (by omega)]
theorem mix_four (g p : Nat → Bool) {x : Nat} (h : x < 256) : mix g p 4 x = g x := by unfold mix; rw [if_pos (by omega)]
theorem wd_mix_lt (g p : Nat → Bool) {i k : Nat} (h : k < i) : wd (mix g p i) k = wd g k := nb_congr fun j hj => by unfold mix; rw [if_pos (by omega)]
theorem wd_mix_ge (g p : Nat → Bool) {i k : Nat} (h : i ≤ k) : wd (mix g p i) k = wd p k := nb_congr fun j hj => by unfold mix; rw [if_neg (by omega)]
theorem or_wd (p q : Nat → Bool) (k : Nat) : bits .or .u64 (wd p k : Int) (wd q k : Int) = (wd (fun x => p x || q x) k : Int) :=
  (u64_or_nat _ _ (wd_lt p k) (wd_lt q k)).trans (congrArg _ (nb_or (fun j => p (64 * k + j)) (fun j => q (64 * k + j)) 64).symm)
theorem and_wd (p q : Nat → Bool) (k : Nat) : bits .and .u64 (wd p k : Int) (wd q k : Int) = (wd (fun x => p x && q x) k : Int) :=
  (u64_and_nat _ _ (wd_lt p k) (wd_lt q k)).trans (congrArg _ (nb_and (fun j => p (64 * k + j)) (fun j => q (64 * k + j)) 64).symm)
theorem not_wd (p : Nat → Bool) (k : Nat) : bits .xor .u64 18446744073709551615 (wd p k : Int) = (wd (fun x => !p x) k : Int) :=
  (u64_xor_nat 18446744073709551615 _ (by decide) (wd_lt p k)).trans (congrArg _ (nb_not (fun j => p (64 * k + j)) 64).symm)

end Go.Proofs.Ytblcjjhjgoccgaa
