/-
  The arguments opened.
-/
import Derived.Test.YtahikgdgbgclkaaOp
import Derived.Test.YtahikgdgbgclkaaG
import Derived.Test.YtahikgdgbgclkaaRows
set_option linter.unusedSimpArgs false
set_option linter.unusedVariables false
namespace Go.Proofs.Ytahikgdgbgclkaa
open Go.ChangeShapes Go.WideShapes Go.ChangeAt Go.RowKit Te Go.Frame
open Go.ChangeMaps (open_string shut_string)

theorem own : ownKnob Try.prog.godebug = none := by kernel_rfl
theorem laidOut : laidOutB Try.prog = true := by kernel_rfl
/-- What came in of an edit: numbers that are ints, a string that a machine can hold. -/
def In (e : Ed) : Prop := -9223372036854775808 ≤ e.1 ∧ e.1 ≤ 9223372036854775807 ∧ -9223372036854775808 ≤ e.2.1 ∧ e.2.1 ≤ 9223372036854775807 ∧ e.2.2.size ≤ 140737488351232
theorem open_edit {H : Type} {enc : TypeId × Value → H} {w : World} {r : Reach} {b0 base : Nat} {sp : Nat → Bool} {held : Bool} {v : Value} {d : DataW H} {p : List MemPlace} (hv : Value.okWide Try.prog w r b0 30 v) (h : DataW.Trod enc Try.prog w base sp held 30 v d p)
    (hz : ∀ n ∈ d.weights Try.prog 30, n ≤ reachBytes) : ∃ (a d : Int) (s : ByteArray), v = .agg #[.int .i64 a, .int .i64 d, .string s] ∧ In (a, d, s) := by
  obtain ⟨c0, c1, c2, y0, y1, y2, m, rfl, hD, _, e0, e1, e2⟩ := Go.Joins.open_agg3 Try.underlying30 (by kernel_rfl) (by kernel_rfl) hv h
  obtain ⟨a, ha, _, ha'⟩ := DataW.trod_int Try.underlying3 e0
  obtain ⟨d, hd, _, hd'⟩ := DataW.trod_int Try.underlying3 e1
  obtain ⟨s, hs, hy2, _⟩ := DataW.trod_string Try.underlying9 e2
  obtain rfl : c0 = .int .i64 a := by simpa using ha
  obtain rfl : c1 = .int .i64 d := by simpa using hd
  obtain rfl : c2 = .string s := by simpa using hs
  refine ⟨a, d, s, rfl, (bounds_i64 ha').1, (bounds_i64 ha').2, (bounds_i64 hd').1, (bounds_i64 hd').2, ?_⟩
  refine hz _ ?_
  rw [hD]
  simp [DataW.weights, Try.underlying30, DataW.weightsEach, hy2]
end Go.Proofs.Ytahikgdgbgclkaa
