/-
  Contract: recognize.
-/
import Derived.Test.YtblcjjhjgoccgaaC
set_option linter.unusedSimpArgs false
set_option linter.unusedVariables false
namespace Go.Proofs.Ytblcjjhjgoccgaa
open Go.RowKit Lx Go.Frame

/-- A token's cells. -/
def tkv (t : Tk) : List Value := [.int .i64 t.kind, .int .i64 (t.pos : Int), .string t.txt, .int .i64 (t.look : Int)]
/-- A token in a block. -/
def TB (W : World) (b : Nat) (kind : Int) (pos : Nat) (txt : ByteArray) (look : Nat) : Prop := W.heap[b]? = some (.cells #[.int .i64 kind, .int .i64 (pos : Int), .string txt, .int .i64 (look : Int)] 47 (0, 0))
theorem TB.lt {W : World} {b : Nat} {kind : Int} {pos : Nat} {txt : ByteArray} {look : Nat} (h : TB W b kind pos txt look) : b < W.heap.size := heap_lt h
theorem TB.free {W : World} {b : Nat} {kind : Int} {pos : Nat} {txt : ByteArray} {look : Nat} (h : TB W b kind pos txt look) (k : Nat) : W.frozen? ⟨b, k, none⟩ = false := Go.Frame.free h k
theorem drop_at {s : ByteArray} {i : Nat} (h : i < s.size) : s.data.toList.drop i = s[i] :: s.data.toList.drop (i + 1) := by
  have hl : i < s.data.toList.length := h
  rw [List.drop_eq_getElem_cons hl]; rfl
end Go.Proofs.Ytblcjjhjgoccgaa
