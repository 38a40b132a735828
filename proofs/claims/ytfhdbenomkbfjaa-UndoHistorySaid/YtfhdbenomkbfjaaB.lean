/-
  Contracts: Clone, inverse, become, Text, Version, Depth.
-/
import Derived.Test.YtfhdbenomkbfjaaA
import Derived.Test.YtfhdbenomkbfjaaK
import Derived.Lib.UnsafeStr
import Derived.Lib.BufferWrite
import Derived.Lib.Strings
import Derived.Lib.Walk
import Derived.Lib.Hide
import Derived.Laws.MakeOwn
import Derived.StillTailTactics

namespace Go.Proofs.Ytfhdbenomkbfjaa
open Go.RowKit Te Go.Frame

theorem Try.info5 : (Try.prog.info? 5).map (fun i => (i.zero, i.size, i.bytes)) = some (some (.int .u8 0), 1, 1) := by kernel_rfl
set_option maxRecDepth 100000 in
set_option maxHeartbeats 4000000 in
theorem lclone_any (s : ByteArray) (w : World) (hlim : s.size ≤ 1000000) :
    Calls Try.prog 36 #[.string s] w fun e w' => e = .returned (.string s) ∧ Below w.heap.size w w' := by
  by_cases h0 : s.size = 0
  · have hs : s = ⟨#[]⟩ := by
      apply ByteArray.ext
      exact Array.eq_empty_of_size_eq_zero h0
    subst hs
    go_enter Try.func36, Try.ntmps36
    go_wp2
    go_ret
    exact ⟨rfl, Below.refl _ _⟩
  · obtain ⟨i0, hi, hz0, hz1, hz2⟩ := info_parts Try.info5
    have hinfo : (Try.prog.info? 5).map (·.size) = some 1 := by rw [hi]; simp [hz1]
    have hco : Try.prog.cellsOf 5 = 1 := by simp [Program.cellsOf, hi, hz1]
    obtain ⟨M, hM⟩ : ∃ M, M = madeCells (Value.int .u8 0).cells (((s.size : Nat) : Int).toNat * i0.size) := ⟨_, rfl⟩
    have hMs : M.size = s.size := by rw [hM, size_madeCells, hz1]; simp
    have hmk : ∀ W : World, (Instr.makeSlice 62 (.int .i64 (s.size : Int)) (.int .i64 (s.size : Int))).run Try.prog W = .ok (.slice (some ⟨W.heap.size, 0, none⟩) s.size s.size) (W.alloc (.cells M 5)) := fun W => by
      have h := run_make (P := Try.prog) W 62 5 i0 (.int .u8 0) Try.underlying62 hi hz0 .i64 .i64 (s.size : Int) (s.size : Int) (by omega) (by omega) (by rw [hz2]; omega) (by omega)
      rw [← hM] at h
      simpa using h
    clear hM
    have hcp := Lib.run_copy_row_string (P := Try.prog) (w.alloc (.cells M 5)) 62 9 3 5 w.heap.size 0 s.size s.size s M 5 Try.underlying62 hinfo (heap_alloc_new w _) (Nat.le_refl _) (by omega)
    obtain ⟨Y, hY⟩ : ∃ Y, Y = (M.toList.take 0 ++ Lib.byteCells s.data.toList ++ M.toList.drop (0 + s.size)).toArray := ⟨_, rfl⟩
    rw [← hY] at hcp
    have hYl : Y.toList = Lib.byteCells s.data.toList := by
      rw [hY, List.toList_toArray, List.take_zero, List.nil_append, List.drop_of_length_le (by rw [Array.length_toList]; omega), List.append_nil]
    have hYs : Y.size = s.size := by rw [← Array.length_toList, hYl, Lib.byteCells_length, ← Lib.size_eq]
    have hgY : ((w.alloc (.cells M 5)).setRow w.heap.size Y).heap[w.heap.size]? = some (.cells Y 5 (0, 0)) := setRow_heap _ _ M _ 5 (0, 0) (heap_alloc_new w _)
    have hne : s.data.toList ≠ [] := fun e => h0 (by rw [Lib.size_eq, e]; rfl)
    have hUS := Lib.run_unsafeString_row (P := Try.prog) ((w.alloc (.cells M 5)).setRow w.heap.size Y) 67 3 9 5 Try.underlying67 hco w.heap.size Y.size (by unfold World.shape?; rw [hgY]) s.data.toList hne (by rw [← Lib.size_eq]; omega) (by rw [← Lib.size_eq]; omega)
      (fun j x hx => Lib.cells_of_row hgY Y.size j _ (by rw [List.take_of_length_le (by rw [Array.length_toList]; exact Nat.le_refl _), hYl]; simp [Lib.byteCells, hx]))
    rw [← Lib.size_eq] at hUS
    clear hY
    go_enter Try.func36, Try.ntmps36
    go_wp2
    go_ret
    have hb1 : Below w.heap.size w (w.alloc (.cells M 5)) := (Below.refl _ w).alloc (Nat.le_refl _) _
    have hb2 : Below w.heap.size (w.alloc (.cells M 5)) ((w.alloc (.cells M 5)).setRow w.heap.size Y) := ⟨rfl, rfl, rfl, by simp, fun k hk => setRow_other _ _ _ _ (by omega)⟩
    exact ⟨rfl, Lib.below_freeze (hb1.trans hb2) (p := ⟨w.heap.size, 0, none⟩) (Nat.le_refl _) _⟩
set_option maxRecDepth 100000 in
set_option maxHeartbeats 4000000 in
theorem clone_any (s : ByteArray) (w : World) (hlim : s.size ≤ 1000000) :
    Calls Try.prog 34 #[.string s] w fun e w' => e = .returned (.string s) ∧ Below w.heap.size w w' := by
  go_enter Try.func34, Try.ntmps34
  go_wp2_with fail
  refine (lclone_any s w hlim).mono ?_
  rintro e w1 ⟨rfl, b1⟩
  go_wp2
  go_ret
  exact ⟨rfl, b1⟩

set_option maxRecDepth 100000 in
set_option maxHeartbeats 4000000 in
/-- The edit that undoes one which fits. -/
theorem inverse_any (s t : ByteArray) (a d : Int) (w : World) (hs : s.size ≤ 1000000) (ht : t.size ≤ 1000000) (hf : Fit s.size (a, d, t)) :
    Calls Try.prog 28 #[.string s, .agg #[.int .i64 a, .int .i64 d, .string t]] w fun e w' => e = .returned (edv (inv s (a, d, t))) ∧ Below w.heap.size w w' := by
  have V := hid (show inv' s (a, d, t) = .tuple #[edv (inv s (a, d, t)), .int .i64 0] from if_pos hf)
  have ha : a ≤ 9223372036854775807 := by have h1 := hf.1; have h2 := hf.2.1; have h3 := hf.2.2; simp only at h1 h2 h3; omega
  have hi2 : (inv s (a, d, t)).2.2.size ≤ 1000000 := by
    obtain ⟨x, y, t', he, hl⟩ := hf.nat
    simp only [Prod.mk.injEq] at he
    obtain ⟨rfl, rfl, rfl⟩ := he
    rw [L_inv]
    show (s.extract x (x + y)).size ≤ _
    rw [ByteArray.size_extract]; omega
  obtain ⟨⟨p, q, r⟩, hx⟩ : ∃ x, x = inv s (a, d, t) := ⟨_, rfl⟩
  rw [← hx] at V hi2
  have HX := hid hx
  have hi3 : r.size ≤ 1000000 := hi2
  clear hx hf hi2
  obtain ⟨W, hW⟩ : ∃ W, W = ((w.alloc (.cells #[.int .i64 a, .int .i64 d, .string t] 31)).alloc zcell) := ⟨_, rfl⟩
  have bW : Below w.heap.size w W := by rw [hW]; exact ((Below.refl _ _).alloc (Nat.le_refl _) _).alloc (by simp) _
  have hsz := hid (show W.heap.size = w.heap.size + 2 by rw [hW]; simp)
  have hz := hid (show W.heap[w.heap.size + 1]? = some zcell by rw [hW]; exact alloc_at _ _ (by simp; done))
  have HW := hid (show W = ((w.alloc (.cells #[.int .i64 a, .int .i64 d, .string t] 31)).alloc (.cells #[.int .i64 0, .int .i64 0, .string { data := #[] }] 31)) from hW)
  clear hW
  go_enter Try.func28, Try.ntmps28
  go_wp2_with fail
  rw [← HW.out]
  refine (invert_any s t a d W hs ht ha).mono ?_
  rintro e w1 ⟨rfl, b1⟩
  rw [V.out]
  unfold edv
  dsimp only
  go_wp2_with fail
  refine (clone_any r _ hi3).mono ?_
  rintro e w2 ⟨rfl, b2⟩
  have X1 := (b2.block w1.heap.size (by simp)).trans (alloc_new w1 (.cells #[.int .i64 p, .int .i64 q, .string r] 31))
  have Z1 := (b2.block (w.heap.size + 1) (by have := b1.size; have := hsz.out; simp; omega)).trans (blk_alloc (o' := .cells #[.int .i64 p, .int .i64 q, .string r] 31) ((b1.block _ (by have := hsz.out; omega)).trans hz.out))
  have B2 : Below w.heap.size w w2 := ((bW.trans (b1.mono bW.size)).alloc (by have := bW.size; have := b1.size; omega) _).trans (b2.mono (by have := bW.size; have := b1.size; simp; omega))
  have hl2 := heap_lt X1
  have hle : w.heap.size + 1 < w1.heap.size := by have := b1.size; have := hsz.out; omega
  have hle2 : w.heap.size ≤ w1.heap.size := by omega
  have hne : ¬ w1.heap.size = w.heap.size + 1 := by omega
  obtain ⟨c0, c1, c2⟩ := cells3 X1
  obtain ⟨f0, f1, f2⟩ := frozen3 X1
  obtain ⟨r0, r1, r2⟩ := cells3 Z1
  obtain ⟨g0, g1, g2⟩ := frozen3 Z1
  have hz2 := heap_lt Z1
  have HB := hid B2
  have HL := hid hle2
  clear X1 Z1 B2 hle2
  go_wp2
  refine bodyPost_ret (v := .agg #[.int .i64 p, .int .i64 q, .string r]) ?_ rfl ⟨?_, ?_⟩
  · simp [results, Try.results28, go_sem, r0, r1, r2]
  · rw [← HX.out]; rfl
  · repeat (refine Below.setCell ?_ (by first | exact HL.out | (simp; done) | (simp; omega)) _)
    exact HB.out

theorem cells4' {W : World} {b : Nat} {x y z v : Value} {t : TypeId} (h : W.heap[b]? = some (.cells #[x, y, z, v] t (0, 0))) : W.frozen? ⟨b, 0, none⟩ = false ∧ W.frozen? ⟨b, 1, none⟩ = false ∧ W.frozen? ⟨b, 2, none⟩ = false ∧ W.frozen? ⟨b, 3, none⟩ = false :=
  ⟨free h 0, free h 1, free h 2, free h 3⟩
set_option maxRecDepth 100000 in
set_option maxHeartbeats 4000000 in
theorem become_any (B : Nat) (s t : ByteArray) (vu vr : Value) (v : Nat) (w : World) (hb : w.heap[B]? = some (.cells #[.string s, vu, vr, .int .i64 (v : Int)] 53 (0, 0))) (hv : v ≤ 1000000) :
    Calls Try.prog 29 #[.pointer (some ⟨B, 0, none⟩), .string t] w fun e w' => e = .returned (.tuple #[]) ∧ w'.heap[B]? = some (.cells #[.string t, vu, vr, .int .i64 ((v + 1 : Nat) : Int)] 53 (0, 0)) ∧ Kept (· = B) w w' := by
  obtain ⟨c0, c1, c2, c3⟩ := cells4 hb
  obtain ⟨f0, f1, f2, f3⟩ := cells4' hb
  have HB := hid hb
  have hl := heap_lt hb
  have hv' : (v : Int) ≤ 1000000 := by omega
  clear hb
  go_enter Try.func29, Try.ntmps29
  go_wp2
  go_end0
  refine ⟨rfl, ?_, ?_⟩
  · rw [blk_put (blk_put HB.out)]
    simp [Array.setIfInBounds]
  · exact ((Kept.refl _ _).setCell (by rfl) _).setCell (by rfl) _
set_option maxRecDepth 100000 in
theorem text_any (B : Nat) (s : ByteArray) (vu vr : Value) (v : Int) (w : World) (hb : w.heap[B]? = some (.cells #[.string s, vu, vr, .int .i64 v] 53 (0, 0))) :
    Calls Try.prog 15 #[.pointer (some ⟨B, 0, none⟩)] w fun e w' => e = .returned (.string s) ∧ w = w' := by
  obtain ⟨c0, c1, c2, c3⟩ := cells4 hb
  clear hb
  go_enter Try.func15, Try.ntmps15
  go_wp2
  go_ret
  exact ⟨rfl, rfl⟩
set_option maxRecDepth 100000 in
theorem version_any (B : Nat) (s : ByteArray) (vu vr : Value) (v : Int) (w : World) (hb : w.heap[B]? = some (.cells #[.string s, vu, vr, .int .i64 v] 53 (0, 0))) :
    Calls Try.prog 17 #[.pointer (some ⟨B, 0, none⟩)] w fun e w' => e = .returned (.int .i64 v) ∧ w = w' := by
  obtain ⟨c0, c1, c2, c3⟩ := cells4 hb
  clear hb
  go_enter Try.func17, Try.ntmps17
  go_wp2
  go_ret
  exact ⟨rfl, rfl⟩
set_option maxRecDepth 100000 in
theorem depth_any (B : Nat) (s : ByteArray) (pu pr : Option Addr) (nu cu nr cr : Nat) (v : Int) (w : World) (hb : w.heap[B]? = some (.cells #[.string s, .slice pu nu cu, .slice pr nr cr, .int .i64 v] 53 (0, 0))) :
    Calls Try.prog 14 #[.pointer (some ⟨B, 0, none⟩)] w fun e w' => e = .returned (.tuple #[.int .i64 (nu : Int), .int .i64 (nr : Int)]) ∧ Below w.heap.size w w' := by
  obtain ⟨c0, c1, c2, c3⟩ := cells4 hb
  clear hb
  go_enter Try.func14, Try.ntmps14
  go_wp2
  go_quiet (fail)
  go_wp2
  go_ret2
  exact ⟨rfl, below_drewN (Below.refl _ _) _⟩
end Go.Proofs.Ytfhdbenomkbfjaa
