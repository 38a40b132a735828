/-
  Contracts: Range and the reference's.
-/
import Derived.Test.YtogpnlkjcdedlaaDoorD
set_option linter.unusedSimpArgs false
set_option linter.unusedVariables false
namespace Go.Proofs.YtogpnlkjcdedlaaDoor
open Go.RowKit Bs Go.Frame

theorem SB_congr {W : World} {b : Nat} {p q : Nat → Bool} (h : ∀ x, x < 256 → p x = q x) (hs : SB W b p) : SB W b q := by
  unfold SB at hs ⊢
  rw [← wd_congr (by decide) h, ← wd_congr (by decide) h, ← wd_congr (by decide) h, ← wd_congr (by decide) h]
  exact hs
/-- The bytes from lo to hi, hi not among them. -/
def rgp (lo hi x : Nat) : Bool := decide (lo ≤ x) && decide (x < hi)
theorem rgp_empty {lo hi : Nat} (h : hi ≤ lo) (x : Nat) : rgp lo hi x = false := by
  unfold rgp
  rw [Bool.eq_false_iff]
  simp
  omega
theorem rgp_next {lo i : Nat} (h : lo ≤ i) : rgp lo (i + 1) = add1 (rgp lo i) i := by
  funext x
  unfold rgp add1
  rw [Bool.eq_iff_iff]
  simp
  omega
theorem rgp_end {lo hi i : Nat} (h1 : i = lo ∨ i ≤ hi + 1) (h2 : hi < i) (x : Nat) : rgp lo i x = rgp lo (hi + 1) x := by
  rcases h1 with rfl | h1
  · rw [rgp_empty (Nat.le_refl _), rgp_empty (by omega)]
  · rw [show i = hi + 1 by omega]

end Go.Proofs.YtogpnlkjcdedlaaDoor
