/-
  Contracts: All, its iterator.
-/
import Derived.Test.YtblcjjhjgoccgaaH7
import Derived.RangeFuncNested
import Derived.RangeFuncBound
import Derived.RangeFuncCalls
import Derived.RangeFuncLeaves
import Derived.RangeFuncFrom
import Derived.OwnWalkIn
import Derived.TacticsInMore
import Derived.LoopNIn
import Derived.LoopIn
set_option linter.unusedSimpArgs false
set_option linter.unusedVariables false
namespace Go.Proofs.Ytblcjjhjgoccgaa
open Go.RowKit Bs Go.Frame

attribute [local go_sem] Oper.semAt_some
attribute [local irreducible] nb cnt pc els

def encB (x : Fin 256) : Array Value := #[.int .u8 (x.1 : Int)]
/-- A round leaves the table alone. -/
def Zero (W W' : World) : Prop := W'.heap[0]? = W.heap[0]?
theorem Zero.trans {X Y Z : World} (h : Zero X Y) (k : Zero Y Z) : Zero X Z := Eq.trans k h
theorem Zero.refl (X : World) : Zero X X := rfl
/-- What is left of word i from place m on. -/
def rest7 (p : Nat → Bool) (i m : Nat) : Nat := nb (fun j => p (64 * i + j) && decide (m ≤ j)) 64
theorem rest_zero (p : Nat → Bool) (i : Nat) : rest7 p i 0 = wd p i := nb_congr fun j _ => by simp
theorem rest_lt (p : Nat → Bool) (i m : Nat) : rest7 p i m < 18446744073709551616 := nb_lt 64 _
theorem rest_end {p : Nat → Bool} {i m : Nat} (hm : m ≤ 64) (h : rest7 p i m = 0) : els p (64 * (i + 1)) = els p (64 * i + m) :=
  els_skip (by omega) fun j h1 h2 => by
    have := nb_eq_zero h (j - 64 * i) (by omega)
    rw [show 64 * i + (j - 64 * i) = j by omega] at this
    simpa [show m ≤ j - 64 * i by omega] using this
theorem rest_next {p : Nat → Bool} {i m : Nat} (hi : i < 4) (h : rest7 p i m ≠ 0) : ∃ (j y : Nat) (b : Fin 256), j < 64 ∧ b.1 = 64 * i + j ∧ m ≤ j ∧ rest7 p i m = 2 ^ j * (1 + 2 * y) ∧ rest7 p i m &&& (rest7 p i m - 1) = rest7 p i (j + 1) ∧
    els p (64 * i + (j + 1)) = els p (64 * i + m) ++ [b] := by
  obtain ⟨j, hj, hf, hl⟩ := nb_some 64 _ h
  obtain ⟨y, hy⟩ := nb_least j 64 _ hj hl hf
  have hc := nb_clear hj hl hf
  simp only [Bool.and_eq_true, decide_eq_true_eq] at hf
  refine ⟨j, y, ⟨64 * i + j, by omega⟩, hj, rfl, hf.2, hy, hc.trans (nb_congr fun x hx => ?_), ?_⟩
  · by_cases e : j < x
    · have e1 : m ≤ x := by omega
      simp [e, e1, show j + 1 ≤ x by omega]
    · simp [e, show ¬ j + 1 ≤ x by omega]
  · rw [← Nat.add_assoc, els_hit hf.1 (by omega)]
    congr 1
    refine els_skip (by omega) fun x h1 h2 => ?_
    have := hl (x - 64 * i) (by omega)
    rw [show 64 * i + (x - 64 * i) = x by omega] at this
    simpa [show m ≤ x - 64 * i by omega] using this
theorem rest_less {p : Nat → Bool} {i m : Nat} (h : rest7 p i m ≠ 0) : rest7 p i m &&& (rest7 p i m - 1) < rest7 p i m := by
  have : rest7 p i m &&& (rest7 p i m - 1) ≤ rest7 p i m - 1 := Nat.and_le_right
  omega

end Go.Proofs.Ytblcjjhjgoccgaa
