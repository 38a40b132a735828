/-
  Tables of ints in memory; the contract of renumber.
-/
import Derived.Test.YtblcjjhjgoccgaaI7
import Derived.Laws.MakeOwn
import Derived.Deep.WholeRow
set_option linter.unusedSimpArgs false
set_option linter.unusedVariables false
namespace Go.Proofs.Ytblcjjhjgoccgaa
open Go.RowKit Bs Go.Frame

/-- The cells of a table of ints. -/
def ic (N : Nat) (T : Nat → Int) : Array Value := (Array.range N).map fun t => .int .i64 (T t)
theorem ic_at {N t : Nat} (T : Nat → Int) (h : t < N) : (ic N T)[t]? = some (.int .i64 (T t)) := by
  unfold ic
  rw [Array.getElem?_map, Array.getElem?_eq_getElem (by simpa using h)]
  simp
def upd (T : Nat → Int) (k : Nat) (z : Int) : Nat → Int := fun t => if t = k then z else T t
theorem ic_upd {N k : Nat} (T : Nat → Int) (z : Int) : (ic N T).setIfInBounds k (.int .i64 z) = ic N (upd T k z) := by
  apply Array.ext_getElem?
  intro i
  rw [Array.getElem?_setIfInBounds]
  have hs : ∀ T, (ic N T).size = N := fun T => by simp [ic]
  by_cases hi : i < N
  · rw [ic_at _ hi, ic_at _ hi]
    by_cases e : k = i
    · rw [if_pos e, if_pos (by rw [hs]; omega)]
      simp [upd, e]
    · rw [if_neg e]
      have e' : ¬ i = k := fun h => e h.symm
      simp [upd, e']
  · rw [Array.getElem?_eq_none (by rw [hs]; omega), Array.getElem?_eq_none (by rw [hs]; omega)]
    by_cases e : k = i
    · rw [if_pos e, if_neg (by rw [hs]; omega)]
    · rw [if_neg e]
theorem ic_congr {N : Nat} {T U : Nat → Int} (h : ∀ t, t < N → T t = U t) : ic N T = ic N U := by
  apply Array.ext_getElem?
  intro i
  by_cases hi : i < N
  · rw [ic_at _ hi, ic_at _ hi, h i hi]
  · rw [Array.getElem?_eq_none (by simp [ic]; omega), Array.getElem?_eq_none (by simp [ic]; omega)]
theorem ic_cell {W : World} {b N t : Nat} {T : Nat → Int} {ty : TypeId} (h : W.heap[b]? = some (.cells (ic N T) ty (0, 0))) (ht : t < N) : W.cell? ⟨b, t, none⟩ = some (.int .i64 (T t)) := by
  simp only [World.cell?, h]; exact ic_at T ht
/-- The classes when the first i have their numbers. -/
def part (c : Nat → Nat) (i t : Nat) : Int := if t < i then (num (Ec c) t : Int) else (c t : Int)
theorem part_next (c : Nat → Nat) (i : Nat) : upd (part c i) i (num (Ec c) i : Int) = part c (i + 1) := by
  funext t
  unfold upd part
  by_cases e : t = i
  · subst e; simp
  · rw [if_neg e]
    by_cases h : t < i
    · rw [if_pos h, if_pos (by omega)]
    · rw [if_neg h, if_neg (by omega)]
theorem given_next {c : Nat → Nat} {i : Nat} (h : given c i (c i) = 0) : upd (fun v => (given c i v : Int)) (c i) ((cf (Ec c) i : Int) + 1) = fun v => (given c (i + 1) v : Int) := by
  funext v
  unfold upd
  rw [given]
  by_cases e : v = c i
  · subst e; rw [if_pos rfl, if_pos ⟨rfl, h⟩]; simp
  · rw [if_neg e, if_neg (by intro k; exact e k.1.symm)]
theorem given_stay {c : Nat → Nat} {i : Nat} (h : given c i (c i) ≠ 0) : given c (i + 1) = given c i := by
  funext v
  rw [given, if_neg (by rintro ⟨rfl, k⟩; exact h k)]
/-- What renumber comes to. -/
def RnRes (g : Nat) (c : Nat → Nat) (w : World) (e : Ending) (w' : World) : Prop :=
  (∃ v, e = .returned v) ∧ w'.heap[g]? = some (.cells (ic 256 fun t => (num (Ec c) t : Int)) 3 (0, 0)) ∧ Kept (fun b => b = g ∨ w.heap.size ≤ b) w w'

end Go.Proofs.Ytblcjjhjgoccgaa
