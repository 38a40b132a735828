/-
  Contracts: Replace at an edit that does not fit; the reference's functions; the height bound of the statements.
-/
import Derived.Test.YtaafnodabjbakaaG
import Derived.Test.YtaafnodabjbakaaRg
namespace Go.Proofs.Ytaafnodabjbakaa
open Go.RowKit Rp

theorem below_drewN' {B : Nat} {a w : World} (h : Below B a w) : ∀ n : Nat, Below B a (w.drewN n)
  | 0 => h
  | _ + 1 => ⟨h.os, h.tape, h.output, h.size, h.block⟩


set_option maxRecDepth 100000 in
set_option maxHeartbeats 8000000 in
theorem Replace_no1 (p : Option Addr) (l : List UInt8) (w : World) (h : Rope w p l) (a d : Int) (ins : ByteArray) (_ : l.length ≤ 400000000)
    (hx : a < 0) :
    Calls Try.prog 15 #[.agg #[.pointer p], .agg #[.int .i64 a, .int .i64 d, .string ins]] w fun e w' => e = .returned (.tuple #[.agg #[.pointer none], .int .i64 2]) ∧ Below w.heap.size w w' := by
  obtain ⟨W, hW⟩ : ∃ W : World, W = ((w.alloc (.cells #[.pointer p] 26)).alloc (.cells #[.int .i64 a, .int .i64 d, .string ins] 32)).alloc (.cells #[.pointer none] 26) := ⟨_, rfl⟩
  have bW : Below w.heap.size w W := by rw [hW]; exact (((Below.refl _ _).alloc (Nat.le_refl _) _).alloc (by simp) _).alloc (by simp; omega) _
  have hsz : W.heap.size = w.heap.size + 3 := by rw [hW]; simp
  have hB0 : W.heap[w.heap.size]? = some (.cells #[.pointer p] 26 (0, 0)) := by
    rw [hW, Below.heap_alloc _ _ _ (by simp; omega), Below.heap_alloc _ _ _ (by simp)]; exact alloc_new _ _
  have hB1 : W.heap[w.heap.size + 1]? = some (.cells #[.int .i64 a, .int .i64 d, .string ins] 32 (0, 0)) := by
    rw [hW, Below.heap_alloc _ _ _ (by simp)]
    have := alloc_new (w.alloc (.cells #[.pointer p] 26)) (.cells #[.int .i64 a, .int .i64 d, .string ins] 32)
    simpa using this
  have hB2 : W.heap[w.heap.size + 1 + 1]? = some (.cells #[.pointer none] 26 (0, 0)) := by
    rw [hW]
    have := alloc_new ((w.alloc (.cells #[.pointer p] 26)).alloc (.cells #[.int .i64 a, .int .i64 d, .string ins] 32)) (.cells #[.pointer none] 26)
    simpa using this
  have Keep := hid (show ∀ W', Below W.heap.size W W' → W'.cell? ⟨w.heap.size, 0, none⟩ = some (.pointer p) ∧ W'.cell? ⟨w.heap.size + 1, 0, none⟩ = some (.int .i64 a) ∧ W'.cell? ⟨w.heap.size + 1, 1, none⟩ = some (.int .i64 d) ∧
      W'.heap[w.heap.size + 1 + 1]? = some (.cells #[.pointer none] 26 (0, 0)) from fun W' hb => by
    have e0 := hb.block w.heap.size (by omega)
    have e1 := hb.block (w.heap.size + 1) (by omega)
    have e2 := hb.block (w.heap.size + 1 + 1) (by omega)
    refine ⟨?_, ?_, ?_, e2.trans hB2⟩
    · show World.cell? W' ⟨w.heap.size, 0, none⟩ = _; unfold World.cell?; rw [e0, hB0]; rfl
    · show World.cell? W' ⟨w.heap.size + 1, 0, none⟩ = _; unfold World.cell?; rw [e1, hB1]; rfl
    · show World.cell? W' ⟨w.heap.size + 1, 1, none⟩ = _; unfold World.cell?; rw [e1, hB1]; rfl)
  obtain ⟨k0, k1, k2, k4⟩ := Keep.out _ (Below.refl _ W)
  have HW := hid hW
  have hRW := h.below bW
  have HSZ := hid hsz
  have hle : w.heap.size ≤ W.heap.size := by omega
  clear hB0 hB1 hB2 hsz hW
  have kc := cell_of_one k4
  have kf := free_of_one k4
  clear k4
  have h1 := hx; clear hx
  have g0 : decide (a < 0) = true := by simpa using h1
  go_enter Try.func15, Try.ntmps15
  go_wp2
  rw [← HW.out]
  go_quiet (fail)
  go_wp2
  exact bodyPost_ret (v := .tuple #[.agg #[.pointer none], .int .i64 2]) (by simp [results, Try.results15, go_sem, kc]) rfl ⟨rfl, (below_drewN' bW _).setCell (by show w.heap.size ≤ _; simp; omega) _⟩

set_option maxRecDepth 100000 in
set_option maxHeartbeats 8000000 in
theorem Replace_no2 (p : Option Addr) (l : List UInt8) (w : World) (h : Rope w p l) (a d : Int) (ins : ByteArray) (_ : l.length ≤ 400000000)
    (hx : 0 ≤ a ∧ d < 0) :
    Calls Try.prog 15 #[.agg #[.pointer p], .agg #[.int .i64 a, .int .i64 d, .string ins]] w fun e w' => e = .returned (.tuple #[.agg #[.pointer none], .int .i64 2]) ∧ Below w.heap.size w w' := by
  obtain ⟨W, hW⟩ : ∃ W : World, W = ((w.alloc (.cells #[.pointer p] 26)).alloc (.cells #[.int .i64 a, .int .i64 d, .string ins] 32)).alloc (.cells #[.pointer none] 26) := ⟨_, rfl⟩
  have bW : Below w.heap.size w W := by rw [hW]; exact (((Below.refl _ _).alloc (Nat.le_refl _) _).alloc (by simp) _).alloc (by simp; omega) _
  have hsz : W.heap.size = w.heap.size + 3 := by rw [hW]; simp
  have hB0 : W.heap[w.heap.size]? = some (.cells #[.pointer p] 26 (0, 0)) := by
    rw [hW, Below.heap_alloc _ _ _ (by simp; omega), Below.heap_alloc _ _ _ (by simp)]; exact alloc_new _ _
  have hB1 : W.heap[w.heap.size + 1]? = some (.cells #[.int .i64 a, .int .i64 d, .string ins] 32 (0, 0)) := by
    rw [hW, Below.heap_alloc _ _ _ (by simp)]
    have := alloc_new (w.alloc (.cells #[.pointer p] 26)) (.cells #[.int .i64 a, .int .i64 d, .string ins] 32)
    simpa using this
  have hB2 : W.heap[w.heap.size + 1 + 1]? = some (.cells #[.pointer none] 26 (0, 0)) := by
    rw [hW]
    have := alloc_new ((w.alloc (.cells #[.pointer p] 26)).alloc (.cells #[.int .i64 a, .int .i64 d, .string ins] 32)) (.cells #[.pointer none] 26)
    simpa using this
  have Keep := hid (show ∀ W', Below W.heap.size W W' → W'.cell? ⟨w.heap.size, 0, none⟩ = some (.pointer p) ∧ W'.cell? ⟨w.heap.size + 1, 0, none⟩ = some (.int .i64 a) ∧ W'.cell? ⟨w.heap.size + 1, 1, none⟩ = some (.int .i64 d) ∧
      W'.heap[w.heap.size + 1 + 1]? = some (.cells #[.pointer none] 26 (0, 0)) from fun W' hb => by
    have e0 := hb.block w.heap.size (by omega)
    have e1 := hb.block (w.heap.size + 1) (by omega)
    have e2 := hb.block (w.heap.size + 1 + 1) (by omega)
    refine ⟨?_, ?_, ?_, e2.trans hB2⟩
    · show World.cell? W' ⟨w.heap.size, 0, none⟩ = _; unfold World.cell?; rw [e0, hB0]; rfl
    · show World.cell? W' ⟨w.heap.size + 1, 0, none⟩ = _; unfold World.cell?; rw [e1, hB1]; rfl
    · show World.cell? W' ⟨w.heap.size + 1, 1, none⟩ = _; unfold World.cell?; rw [e1, hB1]; rfl)
  obtain ⟨k0, k1, k2, k4⟩ := Keep.out _ (Below.refl _ W)
  have HW := hid hW
  have hRW := h.below bW
  have HSZ := hid hsz
  have hle : w.heap.size ≤ W.heap.size := by omega
  clear hB0 hB1 hB2 hsz hW
  have kc := cell_of_one k4
  have kf := free_of_one k4
  clear k4
  obtain ⟨h1, h2⟩ := hx
  have g0 : decide (a < 0) = false := by simp; omega
  have g1 : decide (d < 0) = true := by simpa using h2
  go_enter Try.func15, Try.ntmps15
  go_wp2
  rw [← HW.out]
  go_quiet (fail)
  go_wp2
  exact bodyPost_ret (v := .tuple #[.agg #[.pointer none], .int .i64 2]) (by simp [results, Try.results15, go_sem, kc]) rfl ⟨rfl, (below_drewN' bW _).setCell (by show w.heap.size ≤ _; simp; omega) _⟩

set_option maxRecDepth 100000 in
set_option maxHeartbeats 8000000 in
theorem Replace_no4 (p : Option Addr) (l : List UInt8) (w : World) (h : Rope w p l) (a d : Int) (ins : ByteArray) (hs : l.length ≤ 400000000)
    (hx : 0 ≤ a ∧ 0 ≤ d ∧ a ≤ (l.length : Int) ∧ (l.length : Int) - a < d) :
    Calls Try.prog 15 #[.agg #[.pointer p], .agg #[.int .i64 a, .int .i64 d, .string ins]] w fun e w' => e = .returned (.tuple #[.agg #[.pointer none], .int .i64 2]) ∧ Below w.heap.size w w' := by
  obtain ⟨W, hW⟩ : ∃ W : World, W = ((w.alloc (.cells #[.pointer p] 26)).alloc (.cells #[.int .i64 a, .int .i64 d, .string ins] 32)).alloc (.cells #[.pointer none] 26) := ⟨_, rfl⟩
  have bW : Below w.heap.size w W := by rw [hW]; exact (((Below.refl _ _).alloc (Nat.le_refl _) _).alloc (by simp) _).alloc (by simp; omega) _
  have hsz : W.heap.size = w.heap.size + 3 := by rw [hW]; simp
  have hB0 : W.heap[w.heap.size]? = some (.cells #[.pointer p] 26 (0, 0)) := by
    rw [hW, Below.heap_alloc _ _ _ (by simp; omega), Below.heap_alloc _ _ _ (by simp)]; exact alloc_new _ _
  have hB1 : W.heap[w.heap.size + 1]? = some (.cells #[.int .i64 a, .int .i64 d, .string ins] 32 (0, 0)) := by
    rw [hW, Below.heap_alloc _ _ _ (by simp)]
    have := alloc_new (w.alloc (.cells #[.pointer p] 26)) (.cells #[.int .i64 a, .int .i64 d, .string ins] 32)
    simpa using this
  have hB2 : W.heap[w.heap.size + 1 + 1]? = some (.cells #[.pointer none] 26 (0, 0)) := by
    rw [hW]
    have := alloc_new ((w.alloc (.cells #[.pointer p] 26)).alloc (.cells #[.int .i64 a, .int .i64 d, .string ins] 32)) (.cells #[.pointer none] 26)
    simpa using this
  have Keep := hid (show ∀ W', Below W.heap.size W W' → W'.cell? ⟨w.heap.size, 0, none⟩ = some (.pointer p) ∧ W'.cell? ⟨w.heap.size + 1, 0, none⟩ = some (.int .i64 a) ∧ W'.cell? ⟨w.heap.size + 1, 1, none⟩ = some (.int .i64 d) ∧
      W'.heap[w.heap.size + 1 + 1]? = some (.cells #[.pointer none] 26 (0, 0)) from fun W' hb => by
    have e0 := hb.block w.heap.size (by omega)
    have e1 := hb.block (w.heap.size + 1) (by omega)
    have e2 := hb.block (w.heap.size + 1 + 1) (by omega)
    refine ⟨?_, ?_, ?_, e2.trans hB2⟩
    · show World.cell? W' ⟨w.heap.size, 0, none⟩ = _; unfold World.cell?; rw [e0, hB0]; rfl
    · show World.cell? W' ⟨w.heap.size + 1, 0, none⟩ = _; unfold World.cell?; rw [e1, hB1]; rfl
    · show World.cell? W' ⟨w.heap.size + 1, 1, none⟩ = _; unfold World.cell?; rw [e1, hB1]; rfl)
  obtain ⟨k0, k1, k2, k4⟩ := Keep.out _ (Below.refl _ W)
  have HW := hid hW
  have hRW := h.below bW
  have HSZ := hid hsz
  have hle : w.heap.size ≤ W.heap.size := by omega
  clear hB0 hB1 hB2 hsz hW
  have kc := cell_of_one k4
  have kf := free_of_one k4
  clear k4
  obtain ⟨h1, h2, h3, h4⟩ := hx
  have g0 : decide (a < 0) = false := by simp; omega
  have g1 : decide (d < 0) = false := by simp; omega
  have g2 : decide ((l.length : Int) < a) = false := by simp; omega
  have g3 : decide ((l.length : Int) - a < d) = true := by simpa using h4
  have e4 : IntKind.i64.wrap (↑l.length - a) = (l.length : Int) - a := wrapIn (by omega) (by omega)
  go_enter Try.func15, Try.ntmps15
  go_wp2
  rw [← HW.out]
  go_region_held3 (fun w' => w'.cell? ⟨w.heap.size, 0, none⟩ = some (.pointer p) ∧ w'.cell? ⟨w.heap.size + 1, 0, none⟩ = some (.int .i64 a) ∧ w'.cell? ⟨w.heap.size + 1, 1, none⟩ = some (.int .i64 d))
    (first | exact ⟨k0, k1, k2⟩ | exact ⟨(Keep.out _ hb1).1, (Keep.out _ hb1).2.1, (Keep.out _ hb1).2.2.1⟩ | exact ⟨(Keep.out _ hb2).1, (Keep.out _ hb2).2.1, (Keep.out _ hb2).2.2.1⟩)
    (first
      | (go_at_call 25; (with_reducible refine (Len_any p l W.drew (hRW.below (Below.refl _ _).drew)).mono ?_); rintro e w1 ⟨rfl, hb10⟩; have hb1 := undrew hb10)
      | (go_at_call 25; (with_reducible refine (Len_any p l w1 (hRW.below hb1)).mono ?_); rintro e w2 ⟨rfl, hb20⟩; have hb2 := hb1.trans (hb20.mono hb1.size)))
  obtain ⟨_, _, _, hbx⟩ := Keep.out _ hb2
  have c0 := cell_of_one hbx
  have f0 := free_of_one hbx
  go_wp2
  exact bodyPost_ret (v := .tuple #[.agg #[.pointer none], .int .i64 2]) (by simp [results, Try.results15, go_sem, c0]) rfl ⟨rfl, (bW.trans (hb2.mono hle)).setCell (by show w.heap.size ≤ _; simp; omega) _⟩

set_option maxRecDepth 100000 in
set_option maxHeartbeats 8000000 in
theorem Replace_no3 (p : Option Addr) (l : List UInt8) (w : World) (h : Rope w p l) (a d : Int) (ins : ByteArray) (_ : l.length ≤ 400000000)
    (hx : 0 ≤ a ∧ 0 ≤ d ∧ (l.length : Int) < a) :
    Calls Try.prog 15 #[.agg #[.pointer p], .agg #[.int .i64 a, .int .i64 d, .string ins]] w fun e w' => e = .returned (.tuple #[.agg #[.pointer none], .int .i64 2]) ∧ Below w.heap.size w w' := by
  obtain ⟨W, hW⟩ : ∃ W : World, W = ((w.alloc (.cells #[.pointer p] 26)).alloc (.cells #[.int .i64 a, .int .i64 d, .string ins] 32)).alloc (.cells #[.pointer none] 26) := ⟨_, rfl⟩
  have bW : Below w.heap.size w W := by rw [hW]; exact (((Below.refl _ _).alloc (Nat.le_refl _) _).alloc (by simp) _).alloc (by simp; omega) _
  have hsz : W.heap.size = w.heap.size + 3 := by rw [hW]; simp
  have hB0 : W.heap[w.heap.size]? = some (.cells #[.pointer p] 26 (0, 0)) := by
    rw [hW, Below.heap_alloc _ _ _ (by simp; omega), Below.heap_alloc _ _ _ (by simp)]; exact alloc_new _ _
  have hB1 : W.heap[w.heap.size + 1]? = some (.cells #[.int .i64 a, .int .i64 d, .string ins] 32 (0, 0)) := by
    rw [hW, Below.heap_alloc _ _ _ (by simp)]
    have := alloc_new (w.alloc (.cells #[.pointer p] 26)) (.cells #[.int .i64 a, .int .i64 d, .string ins] 32)
    simpa using this
  have hB2 : W.heap[w.heap.size + 1 + 1]? = some (.cells #[.pointer none] 26 (0, 0)) := by
    rw [hW]
    have := alloc_new ((w.alloc (.cells #[.pointer p] 26)).alloc (.cells #[.int .i64 a, .int .i64 d, .string ins] 32)) (.cells #[.pointer none] 26)
    simpa using this
  have Keep := hid (show ∀ W', Below W.heap.size W W' → W'.cell? ⟨w.heap.size, 0, none⟩ = some (.pointer p) ∧ W'.cell? ⟨w.heap.size + 1, 0, none⟩ = some (.int .i64 a) ∧ W'.cell? ⟨w.heap.size + 1, 1, none⟩ = some (.int .i64 d) ∧
      W'.heap[w.heap.size + 1 + 1]? = some (.cells #[.pointer none] 26 (0, 0)) from fun W' hb => by
    have e0 := hb.block w.heap.size (by omega)
    have e1 := hb.block (w.heap.size + 1) (by omega)
    have e2 := hb.block (w.heap.size + 1 + 1) (by omega)
    refine ⟨?_, ?_, ?_, e2.trans hB2⟩
    · show World.cell? W' ⟨w.heap.size, 0, none⟩ = _; unfold World.cell?; rw [e0, hB0]; rfl
    · show World.cell? W' ⟨w.heap.size + 1, 0, none⟩ = _; unfold World.cell?; rw [e1, hB1]; rfl
    · show World.cell? W' ⟨w.heap.size + 1, 1, none⟩ = _; unfold World.cell?; rw [e1, hB1]; rfl)
  obtain ⟨k0, k1, k2, k4⟩ := Keep.out _ (Below.refl _ W)
  have HW := hid hW
  have hRW := h.below bW
  have HSZ := hid hsz
  have hle : w.heap.size ≤ W.heap.size := by omega
  clear hB0 hB1 hB2 hsz hW
  have kc := cell_of_one k4
  have kf := free_of_one k4
  clear k4
  obtain ⟨h1, h2, h3⟩ := hx
  have g0 : decide (a < 0) = false := by simp; omega
  have g1 : decide (d < 0) = false := by simp; omega
  have g2 : decide ((l.length : Int) < a) = true := by simpa using h3
  go_enter Try.func15, Try.ntmps15
  go_wp2
  rw [← HW.out]
  refine wp_region_noPanic ?_
  refine wp_region_held_drew (S := fun w' => w'.cell? ⟨w.heap.size, 0, none⟩ = some (.pointer p) ∧ w'.cell? ⟨w.heap.size + 1, 0, none⟩ = some (.int .i64 a) ∧ w'.cell? ⟨w.heap.size + 1, 1, none⟩ = some (.int .i64 d)) (by kernel_rfl) ⟨k0, k1, k2⟩ (fun hHeld => ?_)
  refine takeW (i := 0) (k := 10) (oi := _) (v := ?v0) rfl rfl (by kernel_rfl) (by kernel_rfl) (by kernel_rfl) (fun _ _ _ h => h) (Or.inl ⟨by rfl, ?y0⟩) hHeld ?r0
  case y0 => (intro w' hSw; (try dsimp only at hSw); go_simp; first | done | with_reducible rfl)
  simp only [List.setIfInBounds_toArray, List.set_cons_zero, List.set_cons_succ]
  refine takeW (i := 1) (k := 11) (oi := _) (v := ?v1) rfl rfl (by kernel_rfl) (by kernel_rfl) (by kernel_rfl) (fun _ _ _ h => h) (Or.inl ⟨by rfl, ?y1⟩) hHeld ?r1
  case y1 => (intro w' hSw; (try dsimp only at hSw); go_simp; first | done | with_reducible rfl)
  simp only [List.setIfInBounds_toArray, List.set_cons_zero, List.set_cons_succ]
  refine takeW (i := 2) (k := 12) (oi := _) (v := ?v2) rfl rfl (by kernel_rfl) (by kernel_rfl) (by kernel_rfl) (fun _ _ _ h => h) (Or.inl ⟨by rfl, ?y2⟩) hHeld ?r2
  case y2 => (intro w' hSw; (try dsimp only at hSw); go_simp; first | done | with_reducible rfl)
  simp only [List.setIfInBounds_toArray, List.set_cons_zero, List.set_cons_succ]
  refine takeW (i := 3) (k := 13) (oi := _) (v := ?v3) rfl rfl (by kernel_rfl) (by kernel_rfl) (by kernel_rfl) (fun _ _ _ h => h) (Or.inl ⟨by rfl, ?y3⟩) hHeld ?r3
  case y3 => (intro w' hSw; (try dsimp only at hSw); go_simp; first | done | with_reducible rfl)
  simp only [List.setIfInBounds_toArray, List.set_cons_zero, List.set_cons_succ]
  refine takeW (i := 4) (k := 14) (oi := _) (v := ?v4) rfl rfl (by kernel_rfl) (by kernel_rfl) (by kernel_rfl) (fun _ _ _ h => h) (Or.inl ⟨by rfl, ?y4⟩) hHeld ?r4
  case y4 => (intro w' hSw; (try dsimp only at hSw); go_simp; first | done | with_reducible rfl)
  simp only [List.setIfInBounds_toArray, List.set_cons_zero, List.set_cons_succ]
  refine takeW (i := 5) (k := 15) (oi := _) (v := ?v5) rfl rfl (by kernel_rfl) (by kernel_rfl) (by kernel_rfl) (fun _ _ _ h => h) (Or.inl ⟨by rfl, ?y5⟩) hHeld ?r5
  case y5 => (intro w' hSw; (try dsimp only at hSw); go_simp; first | done | with_reducible rfl)
  simp only [List.setIfInBounds_toArray, List.set_cons_zero, List.set_cons_succ]
  refine takeW (i := 6) (k := 16) (oi := _) (v := ?v6) rfl rfl (by kernel_rfl) (by kernel_rfl) (by kernel_rfl) (fun _ _ _ h => h) (Or.inl ⟨by rfl, ?y6⟩) hHeld ?r6
  case y6 => (intro w' hSw; (try dsimp only at hSw); go_simp; first | done | with_reducible rfl)
  simp only [List.setIfInBounds_toArray, List.set_cons_zero, List.set_cons_succ]
  refine takeW (i := 7) (k := 17) (oi := _) (v := ?v7) rfl rfl (by kernel_rfl) (by kernel_rfl) (by kernel_rfl) (fun _ _ _ h => h) (Or.inl ⟨by rfl, ?y7⟩) hHeld ?r7
  case y7 => (intro w' hSw; (try dsimp only at hSw); go_simp; first | done | with_reducible rfl)
  simp only [List.setIfInBounds_toArray, List.set_cons_zero, List.set_cons_succ]
  refine takeW (i := 8) (k := 18) (oi := _) (v := ?v8) rfl rfl (by kernel_rfl) (by kernel_rfl) (by kernel_rfl) (fun _ _ _ h => h) (Or.inl ⟨by rfl, ?y8⟩) hHeld ?r8
  case y8 => (intro w' hSw; (try dsimp only at hSw); go_simp; first | done | with_reducible rfl)
  simp only [List.setIfInBounds_toArray, List.set_cons_zero, List.set_cons_succ]
  refine takeW (i := 9) (k := 19) (oi := _) (v := ?v9) rfl rfl (by kernel_rfl) (by kernel_rfl) (by kernel_rfl) (fun _ _ _ h => h) (Or.inl ⟨by rfl, ?y9⟩) hHeld ?r9
  case y9 => (intro w' hSw; (try dsimp only at hSw); go_simp; first | done | with_reducible rfl)
  simp only [List.setIfInBounds_toArray, List.set_cons_zero, List.set_cons_succ]
  refine takeW (i := 10) (k := 20) (oi := _) (v := ?v10) rfl rfl (by kernel_rfl) (by kernel_rfl) (by kernel_rfl) (fun _ _ _ h => h) (Or.inl ⟨by rfl, ?y10⟩) hHeld ?r10
  case y10 => (intro w' hSw; (try dsimp only at hSw); go_simp; first | done | with_reducible rfl)
  simp only [List.setIfInBounds_toArray, List.set_cons_zero, List.set_cons_succ]
  refine takeW (i := 11) (k := 21) (oi := _) (v := ?v11) rfl rfl (by kernel_rfl) (by kernel_rfl) (by kernel_rfl) (fun _ _ _ h => h) (Or.inl ⟨by rfl, ?y11⟩) hHeld ?r11
  case y11 => (intro w' hSw; (try dsimp only at hSw); go_simp; first | done | with_reducible rfl)
  simp only [List.setIfInBounds_toArray, List.set_cons_zero, List.set_cons_succ]
  refine callW (i := 12) (oi := _) rfl (by kernel_rfl) (fun K hK => ?_)
  go_simp
  refine (Len_any p l W.drew (hRW.below (Below.refl _ _).drew)).mono ?_
  rintro e w1 ⟨rfl, hb10⟩
  have hb1 := undrew hb10
  obtain ⟨z0, z1, z2, hbx⟩ := Keep.out _ hb1
  have c0 := cell_of_one hbx
  have f0 := free_of_one hbx
  clear hHeld
  refine hK.out _ _ ⟨z0, z1, z2⟩ (fun hHeld => ?_)
  clear hK K
  (try simp only [Act.put, List.setIfInBounds_toArray, List.set_cons_zero, List.set_cons_succ])
  refine takeW (i := 13) (k := 23) (oi := _) (v := ?v12) rfl rfl (by kernel_rfl) (by kernel_rfl) (by kernel_rfl) (fun _ _ _ h => h) (Or.inl ⟨by rfl, ?y12⟩) hHeld ?r12
  case y12 => (intro w' hSw; (try dsimp only at hSw); go_simp; first | done | with_reducible rfl)
  simp only [List.setIfInBounds_toArray, List.set_cons_zero, List.set_cons_succ]
  refine takeW (i := 14) (k := 24) (oi := _) (v := ?v13) rfl rfl (by kernel_rfl) (by kernel_rfl) (by kernel_rfl) (fun _ _ _ h => h) (Or.inl ⟨by rfl, ?y13⟩) hHeld ?r13
  case y13 => (intro w' hSw; (try dsimp only at hSw); go_simp; first | done | with_reducible rfl)
  simp only [List.setIfInBounds_toArray, List.set_cons_zero, List.set_cons_succ]
  refine takeW (i := 15) (k := 25) (oi := _) (v := ?v14) rfl rfl (by kernel_rfl) (by kernel_rfl) (by kernel_rfl) (fun _ _ _ h => h) (Or.inl ⟨by rfl, ?y14⟩) hHeld ?r14
  case y14 => (intro w' hSw; (try dsimp only at hSw); go_simp; first | done | with_reducible rfl)
  simp only [List.setIfInBounds_toArray, List.set_cons_zero, List.set_cons_succ]
  refine takeW (i := 16) (k := 26) (oi := _) (v := undef) rfl rfl (by kernel_rfl) (by kernel_rfl) (by kernel_rfl) (fun _ _ _ h => h) (Or.inr ⟨by rfl, rfl⟩) hHeld ?_
  simp only [List.setIfInBounds_toArray, List.set_cons_zero, List.set_cons_succ]
  refine takeW (i := 17) (k := 27) (oi := _) (v := undef) rfl rfl (by kernel_rfl) (by kernel_rfl) (by kernel_rfl) (fun _ _ _ h => h) (Or.inr ⟨by rfl, rfl⟩) hHeld ?_
  simp only [List.setIfInBounds_toArray, List.set_cons_zero, List.set_cons_succ]
  refine takeW (i := 18) (k := 28) (oi := _) (v := undef) rfl rfl (by kernel_rfl) (by kernel_rfl) (by kernel_rfl) (fun _ _ _ h => h) (Or.inr ⟨by rfl, rfl⟩) hHeld ?_
  simp only [List.setIfInBounds_toArray, List.set_cons_zero, List.set_cons_succ]
  refine takeW (i := 19) (k := 29) (oi := _) (v := undef) rfl rfl (by kernel_rfl) (by kernel_rfl) (by kernel_rfl) (fun _ _ _ h => h) (Or.inr ⟨by rfl, rfl⟩) hHeld ?_
  simp only [List.setIfInBounds_toArray, List.set_cons_zero, List.set_cons_succ]
  refine takeW (i := 20) (k := 30) (oi := _) (v := undef) rfl rfl (by kernel_rfl) (by kernel_rfl) (by kernel_rfl) (fun _ _ _ h => h) (Or.inr ⟨by rfl, rfl⟩) hHeld ?_
  simp only [List.setIfInBounds_toArray, List.set_cons_zero, List.set_cons_succ]
  refine takeW (i := 21) (k := 31) (oi := _) (v := undef) rfl rfl (by kernel_rfl) (by kernel_rfl) (by kernel_rfl) (fun _ _ _ h => h) (Or.inr ⟨by rfl, rfl⟩) hHeld ?_
  simp only [List.setIfInBounds_toArray, List.set_cons_zero, List.set_cons_succ]
  refine takeW (i := 22) (k := 32) (oi := _) (v := undef) rfl rfl (by kernel_rfl) (by kernel_rfl) (by kernel_rfl) (fun _ _ _ h => h) (Or.inr ⟨by rfl, rfl⟩) hHeld ?_
  simp only [List.setIfInBounds_toArray, List.set_cons_zero, List.set_cons_succ]
  refine takeW (i := 23) (k := 33) (oi := _) (v := undef) rfl rfl (by kernel_rfl) (by kernel_rfl) (by kernel_rfl) (fun _ _ _ h => h) (Or.inr ⟨by rfl, rfl⟩) hHeld ?_
  simp only [List.setIfInBounds_toArray, List.set_cons_zero, List.set_cons_succ]
  refine takeW (i := 24) (k := 34) (oi := _) (v := ?v15) rfl rfl (by kernel_rfl) (by kernel_rfl) (by kernel_rfl) (fun _ _ _ h => h) (Or.inl ⟨by rfl, ?y15⟩) hHeld ?r15
  case y15 => (intro w' hSw; (try dsimp only at hSw); go_simp; first | done | with_reducible rfl)
  simp only [List.setIfInBounds_toArray, List.set_cons_zero, List.set_cons_succ]
  refine wpAnyH_done (by kernel_rfl) (NoPanic.normal ?_) _
  go_wp2
  exact bodyPost_ret (v := .tuple #[.agg #[.pointer none], .int .i64 2]) (by simp [results, Try.results15, go_sem, c0]) rfl ⟨rfl, (bW.trans (hb1.mono hle)).setCell (by show w.heap.size ≤ _; simp; omega) _⟩


theorem Replace_no (p : Option Addr) (l : List UInt8) (w : World) (h : Rope w p l) (a d : Int) (ins : ByteArray) (hs : l.length ≤ 400000000)
    (hx : a < 0 ∨ (0 ≤ a ∧ d < 0) ∨ (0 ≤ a ∧ 0 ≤ d ∧ (l.length : Int) < a) ∨ (0 ≤ a ∧ 0 ≤ d ∧ a ≤ (l.length : Int) ∧ (l.length : Int) - a < d)) :
    Calls Try.prog 15 #[.agg #[.pointer p], .agg #[.int .i64 a, .int .i64 d, .string ins]] w fun e w' => e = .returned (.tuple #[.agg #[.pointer none], .int .i64 2]) ∧ Below w.heap.size w w' := by
  rcases hx with hx | hx | hx | hx
  · exact Replace_no1 p l w h a d ins hs hx
  · exact Replace_no2 p l w h a d ins hs hx
  · exact Replace_no3 p l w h a d ins hs hx
  · exact Replace_no4 p l w h a d ins hs hx

end Go.Proofs.Ytaafnodabjbakaa
