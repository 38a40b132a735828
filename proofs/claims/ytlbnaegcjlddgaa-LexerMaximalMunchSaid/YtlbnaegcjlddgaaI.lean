/-
  Contracts: example, awake.
-/
import Derived.Test.YtlbnaegcjlddgaaH
set_option linter.unusedSimpArgs false
set_option linter.unusedVariables false
namespace Go.Proofs.Ytlbnaegcjlddgaa
open Go.RowKit Lx Go.Frame Go.Shelf

/-- Blocks laid one behind the other. -/
def alls (w : World) : List Obj → World
  | [] => w
  | o :: l => alls (w.alloc o) l
theorem alls_below : ∀ (l : List Obj) (w : World), Below w.heap.size w (alls w l)
  | [], w => Below.refl _ _
  | o :: l, w => (bel1 w o).trans ((alls_below l (w.alloc o)).mono (by simp))
theorem alls_at : ∀ (l : List Obj) (w : World) (i : Nat) (o : Obj), l[i]? = some o → (alls w l).heap[w.heap.size + i]? = some o
  | [], w, i, o, h => by simp at h
  | x :: l, w, 0, o, h => by
    simp at h; subst h
    exact ((alls_below l (w.alloc x)).block _ (by simp)).trans (alloc_new _ _)
  | x :: l, w, i + 1, o, h => by
    have := alls_at l (w.alloc x) i o (by simpa using h)
    rw [show w.heap.size + (i + 1) = (w.alloc x).heap.size + i by simp; omega]
    exact this
theorem info3 : (Try.prog.info? 3).map (fun i => (i.zero, i.size, i.bytes)) = some (some (.int .i64 0), 1, 8) := by kernel_rfl
theorem make_cls (w : World) : (Instr.makeSlice 22 (.int .i64 256) (.int .i64 256)).run Try.prog w = .ok (.slice (some ⟨w.heap.size, 0, none⟩) 256 256) (w.alloc (.cells (madeCells #[Value.int .i64 0] 256) 3)) := by
  obtain ⟨i, hi, h0, h1, h2⟩ := info_parts info3
  have := run_make (P := Try.prog) w 22 3 i _ Try.underlying22 hi h0 .i64 .i64 256 256 (by omega) (Int.le_refl _) (by rw [h2]; omega) (by omega)
  rw [h1, show (Value.int .i64 0).cells = #[.int .i64 0] by kernel_rfl] at this
  simpa using this
/-- The automaton of the document's example: a+ and ab. -/
def exD : Df := ⟨List.replicate 97 0 ++ [1, 2] ++ List.replicate 157 0, [[-1, 1, -1], [-1, 2, 3], [-1, 2, -1], [-1, -1, -1]], [-1, 0, 0, 1]⟩
theorem exD_vd : Vd exD 4 3 where
  hn := rfl
  pos := by decide
  le := by decide
  k1 := by decide
  cl := by kernel_rfl
  cls := by
    intro x hx
    simp only [exD, List.mem_append, List.mem_replicate, List.mem_cons, List.not_mem_nil, or_false] at hx
    rcases hx with (⟨_, rfl⟩ | (rfl | rfl)) | ⟨_, rfl⟩
    · exact ⟨0, by decide, rfl⟩
    · exact ⟨1, by decide, rfl⟩
    · exact ⟨2, by decide, rfl⟩
    · exact ⟨0, by decide, rfl⟩
  row := by
    intro r hr
    simp only [exD, List.mem_cons, List.not_mem_nil, or_false] at hr
    rcases hr with rfl | rfl | rfl | rfl <;> exact ⟨rfl, by decide⟩
  al := rfl
  acc := by decide
theorem row_blk {W : World} {b : Nat} {c : Array Value} {t : TypeId} {l : List Value} {n : Nat} (h : W.heap[b]? = some (.cells c t (0, 0))) (hc : c.toList = l) (hn : l.length = n) : Row W (some ⟨b, 0, none⟩) n l := by
  refine ⟨hn, .inr ⟨b, 0, rfl, heap_lt h, fun i x hi => ?_⟩⟩
  rw [← hc] at hi
  rw [Nat.zero_add]
  simp only [World.cell?, h]
  simpa using hi
/-- The world behind example. -/
theorem exCls : ((madeCells #[Value.int .i64 0] 256).setIfInBounds 97 (.int .i64 1)).setIfInBounds 98 (.int .i64 2) = (exD.cls.map iv).toArray := by kernel_rfl
def exObjs (s : Nat) : List Obj := [.cells #[Value.slice none 0 0, Value.slice none 0 0, Value.slice none 0 0] 25, .cells (madeCells #[Value.int .i64 0] 256) 3, .cells #[.int .i64 (-1), .int .i64 1, .int .i64 (-1)] 3, .cells #[.int .i64 (-1), .int .i64 2, .int .i64 3] 3, .cells #[.int .i64 (-1), .int .i64 2, .int .i64 (-1)] 3, .cells #[.int .i64 (-1), .int .i64 (-1), .int .i64 (-1)] 3,
  .cells #[.slice (some ⟨s + 2, 0, none⟩) 3 3, .slice (some ⟨s + 3, 0, none⟩) 3 3, .slice (some ⟨s + 4, 0, none⟩) 3 3, .slice (some ⟨s + 5, 0, none⟩) 3 3] 22, .cells #[.int .i64 (-1), .int .i64 0, .int .i64 0, .int .i64 1] 3,
  .cells #[.slice (some ⟨s + 1, 0, none⟩) 256 256, .slice (some ⟨s + 6, 0, none⟩) 4 4, .slice (some ⟨s + 7, 0, none⟩) 4 4] 25]
/-- What example returns. -/
def ExRes (w : World) (e : Ending) (w' : World) : Prop := ∃ a1 a2 a3, e = .returned (.agg #[.slice a1 256 256, .slice a2 4 4, .slice a3 4 4]) ∧ DA w' exD a1 256 a2 4 a3 4 ∧ Below w.heap.size w w'
set_option maxRecDepth 100000 in
set_option maxHeartbeats 4000000 in
theorem example_any (w : World) : Calls Try.prog 20 #[] w (ExRes w) := by
  obtain ⟨M, hM⟩ : ∃ M : Array Value, M = madeCells #[Value.int .i64 0] 256 := ⟨_, rfl⟩
  obtain ⟨X, hX⟩ : ∃ X, X = alls w (exObjs w.heap.size) := ⟨_, rfl⟩
  have bX := alls_below (exObjs w.heap.size) w
  have at_ := fun i o h => alls_at (exObjs w.heap.size) w i o h
  rw [← hX] at bX at_
  have h0 : X.heap[w.heap.size]? = some (.cells #[Value.slice none 0 0, Value.slice none 0 0, Value.slice none 0 0] 25 (0, 0)) := at_ 0 _ rfl
  have h1 : X.heap[w.heap.size + 1]? = some (.cells M 3 (0, 0)) := by rw [hM]; exact at_ 1 _ rfl
  have h2 := at_ 2 _ rfl
  have h3 := at_ 3 _ rfl
  have h4 := at_ 4 _ rfl
  have h5 := at_ 5 _ rfl
  have h6 := at_ 6 _ rfl
  have h7 := at_ 7 _ rfl
  have h8 : X.heap[w.heap.size + 1 + 1 + 1 + 1 + 1 + 1 + 1 + 1]? = some (.cells #[.slice (some ⟨w.heap.size + 1, 0, none⟩) 256 256, .slice (some ⟨w.heap.size + 1 + 1 + 1 + 1 + 1 + 1, 0, none⟩) 4 4, .slice (some ⟨w.heap.size + 1 + 1 + 1 + 1 + 1 + 1 + 1, 0, none⟩) 4 4] 25 (0, 0)) := at_ 8 _ rfl
  obtain ⟨c0, c1, c2⟩ := cells3 h8
  have g1 := Go.Frame.free h1 97
  have g2 := Go.Frame.free h1 98
  have m1 : X.cell? ⟨w.heap.size + 1, 97, none⟩ = some (.int .i64 0) := by
    have : M[97]? = some (.int .i64 0) := by rw [hM]; kernel_rfl
    simp only [World.cell?, h1]; exact this
  have m2 : X.cell? ⟨w.heap.size + 1, 98, none⟩ = some (.int .i64 0) := by
    have : M[98]? = some (.int .i64 0) := by rw [hM]; kernel_rfl
    simp only [World.cell?, h1]; exact this
  have hXX : X = alls w (exObjs w.heap.size) := hX
  have HH := hid (And.intro h1 (And.intro h2 (And.intro h3 (And.intro h4 (And.intro h5 (And.intro h6 (And.intro h7 bX)))))))
  have HM := hid hM
  have H0 := hid h0
  have H8 := hid h8
  clear h0 h1 h2 h3 h4 h5 h6 h7 h8 at_ bX hXX
  have hmk := make_cls
  go_enter Try.func20, Try.ntmps20
  go_upto_region 2 with fail
  rw [show (((((((((w.alloc (Obj.cells #[Value.slice none 0 0, Value.slice none 0 0, Value.slice none 0 0] 25)).alloc (Obj.cells (madeCells #[Value.int .i64 0] 256) 3)).alloc (.cells #[.int .i64 (-1), .int .i64 1, .int .i64 (-1)] 3)).alloc (.cells #[.int .i64 (-1), .int .i64 2, .int .i64 3] 3)).alloc (.cells #[.int .i64 (-1), .int .i64 2, .int .i64 (-1)] 3)).alloc (.cells #[.int .i64 (-1), .int .i64 (-1), .int .i64 (-1)] 3)).alloc
      (.cells #[.slice (some ⟨w.heap.size + 1 + 1, 0, none⟩) 3 3, .slice (some ⟨w.heap.size + 1 + 1 + 1, 0, none⟩) 3 3, .slice (some ⟨w.heap.size + 1 + 1 + 1 + 1, 0, none⟩) 3 3, .slice (some ⟨w.heap.size + 1 + 1 + 1 + 1 + 1, 0, none⟩) 3 3] 22)).alloc (.cells #[.int .i64 (-1), .int .i64 0, .int .i64 0, .int .i64 1] 3)).alloc
      (.cells #[.slice (some ⟨w.heap.size + 1, 0, none⟩) 256 256, .slice (some ⟨w.heap.size + 1 + 1 + 1 + 1 + 1 + 1, 0, none⟩) 4 4, .slice (some ⟨w.heap.size + 1 + 1 + 1 + 1 + 1 + 1 + 1, 0, none⟩) 4 4] 25)) = X from by rw [hX]; rfl]
  clear hX hM
  obtain ⟨B, hB⟩ : ∃ B, B = w.heap.size + 1 + 1 + 1 + 1 + 1 + 1 + 1 + 1 := ⟨_, rfl⟩
  have q1 : ¬ B = w.heap.size + 1 := by omega
  have q2 : ¬ w.heap.size + 1 = B := by omega
  have q3 : ¬ B = w.heap.size := by omega
  have q4 : ¬ w.heap.size = B := by omega
  rw [← hB] at c0 c1 c2 H8 ⊢
  clear hB
  go_upto_region 4 with fail
  obtain ⟨Y, hY⟩ : ∃ Y, Y = (X.setCell ⟨w.heap.size + 1, 97, none⟩ (.int .i64 1)).setCell ⟨w.heap.size + 1, 98, none⟩ (.int .i64 2) := ⟨_, rfl⟩
  have h0 : Y.heap[w.heap.size]? = some (.cells #[Value.slice none 0 0, Value.slice none 0 0, Value.slice none 0 0] 25 (0, 0)) := by rw [hY]; exact blk_set (blk_set H0.out (by simp)) (by simp)
  have h8 : Y.heap[B]? = some (.cells #[.slice (some ⟨w.heap.size + 1, 0, none⟩) 256 256, .slice (some ⟨w.heap.size + 1 + 1 + 1 + 1 + 1 + 1, 0, none⟩) 4 4, .slice (some ⟨w.heap.size + 1 + 1 + 1 + 1 + 1 + 1 + 1, 0, none⟩) 4 4] 25 (0, 0)) := by rw [hY]; exact blk_set (blk_set H8.out q1) q1
  have HY := hid hY
  rw [← hY]
  clear hY c0 c1 c2 g1 g2 m1 m2
  obtain ⟨c0, c1, c2⟩ := cells3 h8
  obtain ⟨z0, z1, z2⟩ := cells3 h0
  have f0 := Go.Frame.free h0 0
  have f1 := Go.Frame.free h0 1
  have f2 := Go.Frame.free h0 2
  clear h0 h8
  go_wp2_with fail
  refine bodyPost_ret (v := .agg #[.slice (some ⟨w.heap.size + 1, 0, none⟩) 256 256, .slice (some ⟨w.heap.size + 6, 0, none⟩) 4 4, .slice (some ⟨w.heap.size + 7, 0, none⟩) 4 4]) ?_ rfl ⟨_, _, _, rfl, ?_, ?_⟩
  · simp [results, Try.results20, go_sem, z0, z1, z2]
  · obtain ⟨h1, h2, h3, h4, h5, h6, h7, _⟩ := HH.out
    have put : ∀ (Z : World) (i : Nat) (o : Obj) (b j : Nat) (v : Value), Z.heap[w.heap.size + i]? = some o → w.heap.size + i ≠ b → (Z.setCell ⟨b, j, none⟩ v).heap[w.heap.size + i]? = some o := fun Z i o b j v h hn => blk_set h hn
    obtain ⟨Z, hZ⟩ : ∃ Z, Z = (((Y.setCell ⟨w.heap.size, 0, none⟩ (.slice (some ⟨w.heap.size + 1, 0, none⟩) 256 256)).setCell ⟨w.heap.size, 1, none⟩ (.slice (some ⟨w.heap.size + 1 + 1 + 1 + 1 + 1 + 1, 0, none⟩) 4 4)).setCell ⟨w.heap.size, 2, none⟩ (.slice (some ⟨w.heap.size + 1 + 1 + 1 + 1 + 1 + 1 + 1, 0, none⟩) 4 4)) := ⟨_, rfl⟩
    have far : ∀ (i : Nat) (o : Obj), 2 ≤ i → X.heap[w.heap.size + i]? = some o → Z.heap[w.heap.size + i]? = some o := fun i o hi h => by
      rw [hZ, HY.out]
      exact put _ _ _ _ _ _ (put _ _ _ _ _ _ (put _ _ _ _ _ _ (put _ _ _ _ _ _ (put _ _ _ _ _ _ h (by omega)) (by omega)) (by omega)) (by omega)) (by omega)
    have k1 : Z.heap[w.heap.size + 1]? = some (.cells ((M.setIfInBounds 97 (.int .i64 1)).setIfInBounds 98 (.int .i64 2)) 3 (0, 0)) := by
      rw [hZ, HY.out]
      exact put _ _ _ _ _ _ (put _ _ _ _ _ _ (put _ _ _ _ _ _ (blk_put (blk_put h1)) (by omega)) (by omega)) (by omega)
    rw [HM.out, exCls] at k1
    rw [← hZ]
    have k2 := far 2 _ (by omega) h2
    have k3 := far 3 _ (by omega) h3
    have k4 := far 4 _ (by omega) h4
    have k5 := far 5 _ (by omega) h5
    have k6 := far 6 _ (by omega) h6
    have k7 := far 7 _ (by omega) h7
    refine ⟨row_blk k1 rfl (by kernel_rfl), ⟨rfl, .inr ⟨w.heap.size + 6, 0, rfl, heap_lt k6, ?_⟩⟩, row_blk k7 rfl rfl, by omega, by omega, by omega, by decide⟩
    intro i r hi
    have q0 : Z.cell? ⟨w.heap.size + 6, 0 + 0, none⟩ = some (.slice (some ⟨w.heap.size + 2, 0, none⟩) 3 3) := by simp [World.cell?, k6]
    have q1 : Z.cell? ⟨w.heap.size + 6, 0 + 1, none⟩ = some (.slice (some ⟨w.heap.size + 3, 0, none⟩) 3 3) := by simp [World.cell?, k6]
    have q2 : Z.cell? ⟨w.heap.size + 6, 0 + 2, none⟩ = some (.slice (some ⟨w.heap.size + 4, 0, none⟩) 3 3) := by simp [World.cell?, k6]
    have q3 : Z.cell? ⟨w.heap.size + 6, 0 + 3, none⟩ = some (.slice (some ⟨w.heap.size + 5, 0, none⟩) 3 3) := by simp [World.cell?, k6]
    match i, hi with
    | 0, hi => cases hi; exact ⟨_, _, q0, row_blk k2 rfl rfl, by decide⟩
    | 1, hi => cases hi; exact ⟨_, _, q1, row_blk k3 rfl rfl, by decide⟩
    | 2, hi => cases hi; exact ⟨_, _, q2, row_blk k4 rfl rfl, by decide⟩
    | 3, hi => cases hi; exact ⟨_, _, q3, row_blk k5 rfl rfl, by decide⟩
    | i + 4, hi => simp [exD] at hi
  · repeat (refine Below.setCell ?_ (by first | (simp; done) | (simp; omega)) _)
    rw [HY.out]
    repeat (refine Below.setCell ?_ (by first | (simp; done) | (simp; omega)) _)
    exact HH.out.2.2.2.2.2.2.2
end Go.Proofs.Ytlbnaegcjlddgaa
