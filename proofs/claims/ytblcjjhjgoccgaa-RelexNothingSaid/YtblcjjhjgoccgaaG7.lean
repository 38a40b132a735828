/-
  Contracts: the reference's Union, Intersect, Complement.
-/
import Derived.Test.YtblcjjhjgoccgaaF7
set_option linter.unusedSimpArgs false
set_option linter.unusedVariables false
namespace Go.Proofs.Ytblcjjhjgoccgaa
open Go.RowKit Bs Go.Frame

/-- What lies below i. -/
def upto (g : Nat → Bool) (i x : Nat) : Bool := decide (x < i) && g x
theorem upto_zero (g : Nat → Bool) (x : Nat) : upto g 0 x = false := by simp [upto]
theorem upto_end (g : Nat → Bool) {i x : Nat} (h : x < i) : upto g i x = g x := by simp [upto, h]
theorem upto_yes {g : Nat → Bool} {i : Nat} (h : g i = true) : upto g (i + 1) = add1 (upto g i) i := by
  funext x
  unfold upto add1
  by_cases e : x = i
  · subst e; simp [h]
  · have e1 : (x < i + 1) ↔ x < i := by omega
    simp [e, e1]
theorem upto_no {g : Nat → Bool} {i : Nat} (h : g i = false) : upto g (i + 1) = upto g i := by
  funext x
  unfold upto
  by_cases e : x = i
  · subst e; simp [h]
  · have e1 : (x < i + 1) ↔ x < i := by omega
    simp [e1]

end Go.Proofs.Ytblcjjhjgoccgaa
