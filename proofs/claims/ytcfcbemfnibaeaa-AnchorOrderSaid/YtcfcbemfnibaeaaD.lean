/-
  What the laws share: the arguments opened.
-/
import Derived.Test.YtcfcbemfnibaeaaC
import Derived.Test.YtcfcbemfnibaeaaFr
import Derived.Test.YtcfcbemfnibaeaaRows
import Derived.ChangeOld
import Derived.Lib.SmallJoins
namespace Go.Proofs.Ytcfcbemfnibaeaa
open Go.ChangeShapes Go.WideShapes Go.ChangeAt Go.RowKit Go.Frame
open Go.ChangeMaps (open_string shut_string)

theorem own : ownKnob Try.prog.godebug = none := by kernel_rfl
theorem laidOut : laidOutB Try.prog = true := by kernel_rfl

theorem open_anchor {H : Type} {enc : TypeId × Value → H} {w : World} {r : Reach} {b0 base : Nat} {sp : Nat → Bool} {held : Bool} {v : Value} {d : DataW H} {p : List MemPlace} (hv : Value.okWide Try.prog w r b0 23 v) (h : DataW.Trod enc Try.prog w base sp held 23 v d p) :
    ∃ (o : Int) (b : Bool), v = .agg #[.int .i64 o, .bool b] := by
  obtain ⟨c0, c1, y0, y1, m, rfl, _, _, e0, e1⟩ := Go.Joins.open_agg2 Try.underlying23 (by kernel_rfl) (by kernel_rfl) hv h
  obtain ⟨o, ho, _, _⟩ := DataW.trod_int Try.underlying3 e0
  obtain ⟨b, hb, _⟩ := DataW.trod_bool Try.underlying4 e1
  obtain rfl : c0 = .int .i64 o := by simpa using ho
  obtain rfl : c1 = .bool b := by simpa using hb
  exact ⟨o, b, rfl⟩
theorem open_edit {H : Type} {enc : TypeId × Value → H} {w : World} {r : Reach} {b0 base : Nat} {sp : Nat → Bool} {held : Bool} {v : Value} {d : DataW H} {p : List MemPlace} (hv : Value.okWide Try.prog w r b0 25 v) (h : DataW.Trod enc Try.prog w base sp held 25 v d p) :
    ∃ (a d : Int) (s : ByteArray), v = .agg #[.int .i64 a, .int .i64 d, .string s] ∧ s.size ≤ maxLen := by
  obtain ⟨c0, c1, c2, y0, y1, y2, m, rfl, _, _, e0, e1, e2⟩ := Go.Joins.open_agg3 Try.underlying25 (by kernel_rfl) (by kernel_rfl) hv h
  obtain ⟨a, ha, _, _⟩ := DataW.trod_int Try.underlying3 e0
  obtain ⟨d, hd, _, _⟩ := DataW.trod_int Try.underlying3 e1
  obtain ⟨s, hs, _, hz⟩ := DataW.trod_string Try.underlying9 e2
  obtain rfl : c0 = .int .i64 a := by simpa using ha
  obtain rfl : c1 = .int .i64 d := by simpa using hd
  obtain rfl : c2 = .string s := by simpa using hs
  exact ⟨a, d, s, rfl, hz⟩

theorem SmallP.mid {o a d : Int} {n : Nat} (h : SmallP o a d n) : Mid o a d n := by
  obtain ⟨h1, h2, h3, h4, h5, h6, h7⟩ := h
  exact ⟨h1, by omega, h3, by omega, h5, by omega, by omega⟩

end Go.Proofs.Ytcfcbemfnibaeaa
