/-
  Contracts: example, awake.
-/
import Derived.Test.YtblcjjhjgoccgaaH
set_option linter.unusedSimpArgs false
set_option linter.unusedVariables false
namespace Go.Proofs.Ytblcjjhjgoccgaa
open Go.RowKit Lx Go.Frame Go.Shelf

/-- Blocks laid one behind the other. -/
def alls (w : World) : List Obj → World
  | [] => w
  | o :: l => alls (w.alloc o) l
theorem alls_below : ∀ (l : List Obj) (w : World), Below w.heap.size w (alls w l)
  | [], w => Below.refl _ _
  | o :: l, w => (bel1 w o).trans ((alls_below l (w.alloc o)).mono (by simp))
theorem alls_at : ∀ (l : List Obj) (w : World) (i : Nat) (o : Obj), l[i]? = some o → (alls w l).heap[w.heap.size + i]? = some o
  | [], w, i, o, h => by simp at h
  | x :: l, w, 0, o, h => by
    simp at h; subst h
    exact ((alls_below l (w.alloc x)).block _ (by simp)).trans (alloc_new _ _)
  | x :: l, w, i + 1, o, h => by
    have := alls_at l (w.alloc x) i o (by simpa using h)
    rw [show w.heap.size + (i + 1) = (w.alloc x).heap.size + i by simp; omega]
    exact this
theorem info3 : (Try.prog.info? 3).map (fun i => (i.zero, i.size, i.bytes)) = some (some (.int .i64 0), 1, 8) := by kernel_rfl
theorem make_cls (w : World) : (Instr.makeSlice 22 (.int .i64 256) (.int .i64 256)).run Try.prog w = .ok (.slice (some ⟨w.heap.size, 0, none⟩) 256 256) (w.alloc (.cells (madeCells #[Value.int .i64 0] 256) 3)) := by
  obtain ⟨i, hi, h0, h1, h2⟩ := info_parts info3
  have := run_make (P := Try.prog) w 22 3 i _ Try.underlying22 hi h0 .i64 .i64 256 256 (by omega) (Int.le_refl _) (by rw [h2]; omega) (by omega)
  rw [h1, show (Value.int .i64 0).cells = #[.int .i64 0] by kernel_rfl] at this
  simpa using this
/-- The automaton of the document's example: a+ and ab. -/
def exD : Df := ⟨List.replicate 97 0 ++ [1, 2] ++ List.replicate 157 0, [[-1, 1, -1], [-1, 2, 3], [-1, 2, -1], [-1, -1, -1]], [-1, 0, 0, 1]⟩
theorem exD_vd : Vd exD 4 3 where
  hn := rfl
  pos := by decide
  le := by decide
  k1 := by decide
  cl := by kernel_rfl
  cls := by
    intro x hx
    simp only [exD, List.mem_append, List.mem_replicate, List.mem_cons, List.not_mem_nil, or_false] at hx
    rcases hx with (⟨_, rfl⟩ | (rfl | rfl)) | ⟨_, rfl⟩
    · exact ⟨0, by decide, rfl⟩
    · exact ⟨1, by decide, rfl⟩
    · exact ⟨2, by decide, rfl⟩
    · exact ⟨0, by decide, rfl⟩
  row := by
    intro r hr
    simp only [exD, List.mem_cons, List.not_mem_nil, or_false] at hr
    rcases hr with rfl | rfl | rfl | rfl <;> exact ⟨rfl, by decide⟩
  al := rfl
  acc := by decide
theorem row_blk {W : World} {b : Nat} {c : Array Value} {t : TypeId} {l : List Value} {n : Nat} (h : W.heap[b]? = some (.cells c t (0, 0))) (hc : c.toList = l) (hn : l.length = n) : Row W (some ⟨b, 0, none⟩) n l := by
  refine ⟨hn, .inr ⟨b, 0, rfl, heap_lt h, fun i x hi => ?_⟩⟩
  rw [← hc] at hi
  rw [Nat.zero_add]
  simp only [World.cell?, h]
  simpa using hi
/-- The world behind example. -/
theorem exCls : ((madeCells #[Value.int .i64 0] 256).setIfInBounds 97 (.int .i64 1)).setIfInBounds 98 (.int .i64 2) = (exD.cls.map iv).toArray := by kernel_rfl
def exObjs (s : Nat) : List Obj := [.cells #[Value.slice none 0 0, Value.slice none 0 0, Value.slice none 0 0] 25, .cells (madeCells #[Value.int .i64 0] 256) 3, .cells #[.int .i64 (-1), .int .i64 1, .int .i64 (-1)] 3, .cells #[.int .i64 (-1), .int .i64 2, .int .i64 3] 3, .cells #[.int .i64 (-1), .int .i64 2, .int .i64 (-1)] 3, .cells #[.int .i64 (-1), .int .i64 (-1), .int .i64 (-1)] 3,
  .cells #[.slice (some ⟨s + 2, 0, none⟩) 3 3, .slice (some ⟨s + 3, 0, none⟩) 3 3, .slice (some ⟨s + 4, 0, none⟩) 3 3, .slice (some ⟨s + 5, 0, none⟩) 3 3] 22, .cells #[.int .i64 (-1), .int .i64 0, .int .i64 0, .int .i64 1] 3,
  .cells #[.slice (some ⟨s + 1, 0, none⟩) 256 256, .slice (some ⟨s + 6, 0, none⟩) 4 4, .slice (some ⟨s + 7, 0, none⟩) 4 4] 25]
/-- What example returns. -/
def ExRes (w : World) (e : Ending) (w' : World) : Prop := ∃ a1 a2 a3, e = .returned (.agg #[.slice a1 256 256, .slice a2 4 4, .slice a3 4 4]) ∧ DA w' exD a1 256 a2 4 a3 4 ∧ Below w.heap.size w w'
end Go.Proofs.Ytblcjjhjgoccgaa
