/-
  Lists of texts in memory; columns.
-/
import Derived.Test.YtelbagaiijffdaaTk
import Derived.Test.YtelbagaiijffdaaTe
set_option linter.unusedSimpArgs false
set_option linter.unusedVariables false
namespace Go.Proofs.Ytelbagaiijffdaa
open Go.RowKit Lx Go.Frame

theorem info9 : (Try.prog.info? 9).map (fun i => (i.zero, i.size, i.bytes)) = some (some (.string ByteArray.empty), 1, 16) := by kernel_rfl
theorem und54 : Try.prog.underlying 54 = some (.slice 9) := by kernel_rfl
/-- A list of texts under way: the first i stand, the others are empty. -/
def sfil (l : List ByteArray) (i : Nat) : List ByteArray := l.take i ++ List.replicate (l.length - i) ByteArray.empty
theorem sfil_len (l : List ByteArray) {i : Nat} (h : i ≤ l.length) : (sfil l i).length = l.length := by unfold sfil; simp; omega
theorem sfil_set {l : List ByteArray} {i : Nat} {x : ByteArray} (h : l[i]? = some x) : (sfil l i).set i x = sfil l (i + 1) := by
  obtain ⟨hl, rfl⟩ := List.getElem?_eq_some_iff.1 h
  unfold sfil
  have ht : (l.take i).length = i := by rw [List.length_take]; omega
  rw [List.set_append, if_neg (by omega), ht, Nat.sub_self, show l.length - i = (l.length - (i + 1)) + 1 by omega, List.replicate_succ, List.set_cons_zero, List.take_add_one, h, List.append_assoc]
  rfl
theorem sfil_zero (l : List ByteArray) : sfil l 0 = List.replicate l.length ByteArray.empty := by simp [sfil]
theorem sfil_all (l : List ByteArray) : sfil l l.length = l := by simp [sfil]
theorem made_strs (n : Nat) : madeCells #[Value.string ByteArray.empty] n = ((List.replicate n ByteArray.empty).map Value.string).toArray := by
  apply Array.ext_getElem?
  intro i
  unfold madeCells
  simp only [List.map_replicate, List.getElem?_toArray, Array.getElem?_map]
  by_cases h : i < n
  · simp [h, Nat.mod_one]
  · simp [h]
/-- n empty texts. -/
def zsr (n : Nat) : Array Value := ((List.replicate n ByteArray.empty).map Value.string).toArray
theorem make_s (w : World) (n : Nat) (hn : n ≤ 1000000) : (Instr.makeSlice 54 (.int .i64 (n : Int)) (.int .i64 (n : Int))).run Try.prog w = .ok (.slice (some ⟨w.heap.size, 0, none⟩) n n) (w.alloc (.cells (zsr n) 9)) := by
  obtain ⟨i, hi, h0, h1, h2⟩ := info_parts info9
  have := run_make (P := Try.prog) w 54 9 i _ und54 hi h0 .i64 .i64 (n : Int) (n : Int) (by omega) (Int.le_refl _) (by rw [h2]; omega) (by omega)
  rw [h1, show (Value.string ByteArray.empty).cells = #[.string ByteArray.empty] by kernel_rfl] at this
  rw [made_strs] at this
  simpa [zsr] using this
/-- A block that holds a list of texts. -/
def SB (W : World) (b : Nat) (l : List ByteArray) : Prop := W.heap[b]? = some (.cells (l.map Value.string).toArray 9 (0, 0))
theorem SB.set {W : World} {b i : Nat} {l : List ByteArray} (h : SB W b l) (x : ByteArray) : SB (W.setCell ⟨b, i, none⟩ (.string x)) b (l.set i x) := by
  unfold SB at h ⊢
  rw [blk_put h]
  congr 2
  apply Array.ext'
  simp [List.map_set]
theorem SB.row {W : World} {b : Nat} {l : List ByteArray} (h : SB W b l) : Row W (some ⟨b, 0, none⟩) l.length (l.map Value.string) := by
  refine ⟨by simp, .inr ⟨b, 0, rfl, heap_lt h, fun i x hi => ?_⟩⟩
  unfold SB at h
  rw [Nat.zero_add]
  simp only [World.cell?, h]
  simpa using hi
theorem SB.cell {W : World} {b i : Nat} {l : List ByteArray} (h : SB W b l) (hi : i < l.length) : ∃ x, W.cell? ⟨b, i, none⟩ = some (.string x) := by
  refine ⟨l[i], ?_⟩
  unfold SB at h
  simp only [World.cell?, h]
  simp [hi]
theorem SB.keep {W W' : World} {b : Nat} {l : List ByteArray} (h : SB W b l) (hb : Below W.heap.size W W') : SB W' b l := (hb.block b (heap_lt h)).trans h
/-- What a function returns that makes a list of texts in a block of its own. -/
def SRes (w : World) (l : List ByteArray) (e : Ending) (w' : World) : Prop := (∃ b, e = .returned (.slice (some ⟨b, 0, none⟩) l.length l.length) ∧ SB w' b l ∧ w.heap.size ≤ b) ∧ Below w.heap.size w w'
/-- The numbers of a column. -/
def col (rows : List (List Int)) (c : Nat) : List Int := rows.map fun r => r.getD c 0
theorem col_succ {rows : List (List Int)} {i : Nat} {r : List Int} {c : Nat} (h : rows[i]? = some r) : col (rows.take (i + 1)) c = col (rows.take i) c ++ [r.getD c 0] := by
  unfold col; rw [List.take_add_one, h]; simp
end Go.Proofs.Ytelbagaiijffdaa
