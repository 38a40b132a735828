/-
  Contracts: awake.
-/
import Derived.Test.YtcmoehjalgppmaaG

namespace Go.Proofs.Ytcmoehjalgppmaa
open Go.RowKit Te Go.Frame

def sAb : ByteArray := { data := #[97, 98, 10, 10, 99, 100] }
theorem v1 : psv { data := #[97, 98, 10, 10, 99, 100] } 2 = .tuple #[.agg #[.int .i64 0, .int .i64 2], .int .i64 0] := by kernel_rfl
theorem v2 : psv { data := #[97, 98, 10, 10, 99, 100] } 3 = .tuple #[.agg #[.int .i64 1, .int .i64 0], .int .i64 0] := by kernel_rfl
theorem v3 : ofv { data := #[97, 98, 10, 10, 99, 100] } 2 2 = .tuple #[.int .i64 6, .int .i64 0] := by kernel_rfl
theorem v4 : ofv { data := #[97, 98, 10, 10, 99, 100] } 1 1 = .tuple #[.int .i64 0, .int .i64 2] := by kernel_rfl
theorem v5 : N { data := #[97, 98, 10, 10, 99, 100] } = 2 := by kernel_rfl
theorem v6 : N { data := #[] } = 0 := by kernel_rfl
theorem ix_zero (W : World) : Ix W none 0 { data := #[] } := ⟨by kernel_rfl, .inl rfl⟩

set_option maxRecDepth 100000 in
set_option maxHeartbeats 4000000 in
theorem awake_any (w : World) : Calls Try.prog 10 #[] w fun e w' => e = .returned (.bool true) ∧ Below w.heap.size w w' := by
  go_enter Try.func10, Try.ntmps10
  go_wp2_with fail
  refine (new_any _ w (by decide)).mono ?_
  rintro e w1 ⟨⟨p, n, c, rfl, hI, _⟩, b1⟩
  have M1 := fun w h => position_any { data := #[97, 98, 10, 10, 99, 100] } p n c 2 w (by decide) h
  have M2 := fun w h => position_any { data := #[97, 98, 10, 10, 99, 100] } p n c 3 w (by decide) h
  have M3 := fun w h => offset_any { data := #[97, 98, 10, 10, 99, 100] } p n c 2 2 w (by decide) h
  have M4 := fun w h => offset_any { data := #[97, 98, 10, 10, 99, 100] } p n c 1 1 w (by decide) h
  have M5 := fun w h => lines_any { data := #[97, 98, 10, 10, 99, 100] } p n c w (by decide) h
  have M6 := fun w => lines_any { data := #[] } none 0 0 w (by decide) (ix_zero w)
  rw [v1] at M1
  rw [v2] at M2
  rw [v3] at M3
  rw [v4] at M4
  rw [v5] at M5
  rw [v6] at M6
  obtain ⟨W, hW⟩ : ∃ W, W = w1.alloc (.cells #[.string { data := #[97, 98, 10, 10, 99, 100] }, .slice p n c] 26) := ⟨_, rfl⟩
  have bW : Below w.heap.size w W := by rw [hW]; exact b1.alloc b1.size _
  have HI := hid (show ∀ w', Below W.heap.size W w' → Ix w' p n { data := #[97, 98, 10, 10, 99, 100] } from fun w' h => (hI.below ((Below.refl _ _).alloc (Nat.le_refl _) (.cells #[.string { data := #[97, 98, 10, 10, 99, 100] }, .slice p n c] 26))).below (by rw [← hW]; exact h))
  have Keep := hid (show ∀ w', Below W.heap.size W w' → w'.cell? ⟨w1.heap.size, 0, none⟩ = some (.string { data := #[97, 98, 10, 10, 99, 100] }) ∧ w'.cell? ⟨w1.heap.size, 1, none⟩ = some (.slice p n c) from fun w' h =>
    cells2 ((h.block _ (by rw [hW]; simp)).trans (show W.heap[w1.heap.size]? = _ by rw [hW]; exact alloc_new _ _)))
  have hsz := hid (show W.heap.size = w1.heap.size + 1 by rw [hW]; simp)
  have HW := hid hW
  clear hW hI b1
  go_wp2_with fail
  rw [← HW.out]
  refine (M1 W (HI.out _ (Below.refl _ _))).mono ?_
  rintro e w2 ⟨rfl, b2⟩
  obtain ⟨k0, k1⟩ := Keep.out _ b2
  have l2 : w1.heap.size < w2.heap.size := by have := b2.size; have := hsz.out; omega
  have X2 := alloc_new w2 (.cells #[.int .i64 0, .int .i64 2] 30)
  have B2 := b2.alloc b2.size (.cells #[.int .i64 0, .int .i64 2] 30)
  obtain ⟨u2, hu2⟩ : ∃ u2, u2 = w2.alloc (.cells #[.int .i64 0, .int .i64 2] 30) := ⟨_, rfl⟩
  have HU2 := hid hu2
  rw [← hu2] at X2 B2
  clear hu2
  go_wp2_with fail
  rw [← HU2.out]
  refine (M2 u2 (HI.out _ B2)).mono ?_
  rintro e w3 ⟨rfl, b3⟩
  have X2' := (b3.block _ (heap_lt X2)).trans X2
  have B3 := B2.trans (b3.mono B2.size)
  clear k0 k1 l2 X2
  obtain ⟨k0, k1⟩ := Keep.out _ B3
  have l3 : w1.heap.size < w3.heap.size := by have := B3.size; have := hsz.out; omega
  have X3 := alloc_new w3 (.cells #[.int .i64 1, .int .i64 0] 30)
  have X2 := blk_alloc (o' := .cells #[.int .i64 1, .int .i64 0] 30) X2'
  have B4 := B3.alloc B3.size (.cells #[.int .i64 1, .int .i64 0] 30)
  obtain ⟨u3, hu3⟩ : ∃ u3, u3 = w3.alloc (.cells #[.int .i64 1, .int .i64 0] 30) := ⟨_, rfl⟩
  have HU3 := hid hu3
  rw [← hu3] at X2 X3 B4
  clear hu3 X2'
  go_wp2_with fail
  rw [← HU3.out]
  refine (M3 u3 (HI.out _ B4)).mono ?_
  rintro e w4 ⟨rfl, b4⟩
  have B5 := B4.trans (b4.mono B4.size)
  have Y2 := (b4.block _ (heap_lt X2)).trans X2
  have Y3 := (b4.block _ (heap_lt X3)).trans X3
  clear k0 k1 l3 X2 X3
  obtain ⟨k0, k1⟩ := Keep.out _ B5
  go_wp2_with fail
  refine (M4 w4 (HI.out _ B5)).mono ?_
  rintro e w5 ⟨rfl, b5⟩
  have B6 := B5.trans (b5.mono B5.size)
  have Z2 := blk_alloc (o' := .cells #[.string { data := #[] }, .slice none 0 0] 26) ((b5.block _ (heap_lt Y2)).trans Y2)
  have Z3 := blk_alloc (o' := .cells #[.string { data := #[] }, .slice none 0 0] 26) ((b5.block _ (heap_lt Y3)).trans Y3)
  have Z4 := alloc_new w5 (.cells #[.string { data := #[] }, .slice none 0 0] 26)
  have B7 := B6.alloc B6.size (.cells #[.string { data := #[] }, .slice none 0 0] 26)
  clear k0 k1 Y2 Y3
  obtain ⟨u5, hu5⟩ : ∃ u5, u5 = w5.alloc (.cells #[.string { data := #[] }, .slice none 0 0] 26) := ⟨_, rfl⟩
  rw [← hu5] at Z2 Z3 Z4 B7
  have HU5 := hid hu5
  obtain ⟨k0, k1⟩ := Keep.out _ B7
  obtain ⟨k2, k3⟩ := cells2 Z2
  obtain ⟨k4, k5⟩ := cells2 Z3
  obtain ⟨k6, k7⟩ := cells2 Z4
  rw [hu5] at k0 k1 k2 k3 k4 k5 k6 k7
  clear hu5
  go_wp2_with fail
  rw [← HU5.out]
  refine (M5 u5 (HI.out _ B7)).mono ?_
  rintro e w6 ⟨rfl, b6⟩
  have B8 := B7.trans (b6.mono B7.size)
  obtain ⟨k2, k3⟩ := cells2 ((b6.block _ (heap_lt Z2)).trans Z2)
  obtain ⟨k4, k5⟩ := cells2 ((b6.block _ (heap_lt Z3)).trans Z3)
  obtain ⟨k6, k7⟩ := cells2 ((b6.block _ (heap_lt Z4)).trans Z4)
  go_wp2_with fail
  refine (M6 _).mono ?_
  rintro e w7 ⟨rfl, b7⟩
  go_wp2
  go_ret
  exact ⟨rfl, bW.trans ((B8.trans (b7.mono B8.size)).mono bW.size)⟩

set_option maxRecDepth 100000 in
set_option maxHeartbeats 4000000 in
theorem same_any (s : ByteArray) (p : Option Addr) (n c : Nat) (w : World) (hs : s.size ≤ 900000) (h : Ix w p n s) :
    Calls Try.prog 11 #[.agg #[.string s, .slice p n c], .string s] w fun e w' => e = .returned (.bool true) ∧ Below w.heap.size w w' := by
  have hN := N_le s
  obtain ⟨W, hW⟩ : ∃ W, W = w.alloc (.cells #[.string s, .slice p n c] 26) := ⟨_, rfl⟩
  have bW : Below w.heap.size w W := by rw [hW]; exact (Below.refl _ _).alloc (Nat.le_refl _) _
  have HI := hid (show ∀ w', Below W.heap.size W w' → Ix w' p n s from fun w' h' => (h.below bW).below h')
  have hsz := hid (show W.heap.size = w.heap.size + 1 by rw [hW]; simp)
  have Keep := hid (show ∀ w', Below W.heap.size W w' → w'.cell? ⟨w.heap.size, 0, none⟩ = some (.string s) ∧ w'.cell? ⟨w.heap.size, 1, none⟩ = some (.slice p n c) from fun w' h =>
    cells2 ((h.block _ (by rw [hW]; simp)).trans (show W.heap[w.heap.size]? = _ by rw [hW]; exact alloc_new _ _)))
  have HW := hid hW
  clear hW h
  go_enter Try.func11, Try.ntmps11
  go_wp2_with fail
  rw [← HW.out]
  refine (rlines_any s W (by omega)).mono ?_
  rintro e w1 ⟨⟨q, d, rfl, hr⟩, b1⟩
  obtain ⟨k0, k1⟩ := Keep.out _ b1
  have HR := hid (show ∀ w', Below w1.heap.size w1 w' → Row w' q (N s + 1) (strs (Ls s)) from fun w' h => hr.below h)
  clear hr
  go_wp2_with fail
  refine (lines_any s p n c w1 (by omega) (HI.out _ b1)).mono ?_
  rintro e w2 ⟨rfl, b2⟩
  have B2 := b1.trans (b2.mono b1.size)
  clear k0 k1
  go_wp2_with fail
  go_loopg [6] (N s + 1) (fun k s6 wr => ∃ i : Nat, s6 = .int .i64 i ∧ i + k = N s + 1 ∧ Below W.heap.size W wr ∧ Below w1.heap.size w1 wr)
  case atStart => exact ⟨0, rfl, by omega, B2, b2⟩
  case round =>
    obtain ⟨i, rfl, hk, hbw, hb1⟩ := hrel
    by_cases hlt : i < N s + 1
    · have hlt' : (i : Int) < (N s : Int) + 1 := by omega
      have hi0 : (0 : Int) ≤ (i : Int) := by omega
      have hi : i ≤ N s := by omega
      have V := hid (lnv_yes hi)
      obtain ⟨k0, k1⟩ := Keep.out _ hbw
      have hi' := hid hi
      clear hi
      go_wp2_with fail
      refine (line_any s p n c i wr (by omega) (HI.out _ hbw)).mono ?_
      rintro e w3 ⟨rfl, b3⟩
      rw [V.out]
      have hb3 := hbw.trans (b3.mono hbw.size)
      have hb4 := hb1.trans (b3.mono hb1.size)
      obtain ⟨b, off, hp, hb, c0⟩ := (HR.out _ hb4).at hi'.out
      subst hp
      clear k0 k1
      go_wp2
      go_roundg (gk - 1)
      case measure => omega
      case rel => exact ⟨i + 1, by go_num, by omega, hb3, hb4⟩
    · have hin : ¬ (i : Int) < (N s : Int) + 1 := by omega
      obtain ⟨go, rfl⟩ : ∃ go, go = gk := ⟨_, rfl⟩
      obtain ⟨w0, hw0⟩ : ∃ w0, w0 = wr := ⟨_, rfl⟩
      rw [← hw0] at hbw
      clear hlt hb1
      go_wp2_with fail
      rw [← hw0]
      clear hw0
      go_loopg [9] (s.size + 1) (fun k s9 wr => ∃ j : Nat, s9 = .int .i64 j ∧ j + k = s.size + 1 ∧ Below W.heap.size W wr)
      case atStart => exact ⟨0, rfl, by omega, hbw⟩
      case round =>
        obtain ⟨j, rfl, hk', hbr⟩ := hrel
        by_cases hlt : j < s.size + 1
        · have hlt' : (j : Int) ≤ (s.size : Int) := by omega
          have hj0 : (0 : Int) ≤ (j : Int) := by omega
          have V := hid (psv_yes (s := s) (o := j) (by omega))
          obtain ⟨k0, k1⟩ := Keep.out _ hbr
          go_wp2_with fail
          refine (position_any s p n c j wr (by omega) (HI.out _ hbr)).mono ?_
          rintro e w3 ⟨rfl, b3⟩
          rw [V.out]
          have hb3 := hbr.trans (b3.mono hbr.size)
          go_wp2_with fail
          refine (rposition_any s j _ (by omega)).mono ?_
          rintro e w4 ⟨rfl, b4⟩
          rw [V.out]
          have x1 := (b4.block w3.heap.size (by simp)).trans (alloc_new w3 (.cells #[.int .i64 (ln s j), .int .i64 ((j : Int) - (bg s (ln s j) : Int))] 30))
          obtain ⟨m0, m1⟩ := cells2 x1
          have l1 := heap_lt x1
          have hb4 := (hb3.alloc hb3.size (.cells #[.int .i64 (ln s j), .int .i64 ((j : Int) - (bg s (ln s j) : Int))] 30)).trans (b4.mono (by have := hb3.size; simp; omega))
          clear k0 k1 x1
          go_wp2
          go_roundg (gk - 1)
          case measure => omega
          case rel => exact ⟨j + 1, by go_num, by omega, hb4.alloc hb4.size _⟩
        · have hout : ¬ (j : Int) ≤ (s.size : Int) := by omega
          obtain ⟨k0, k1⟩ := Keep.out _ hbr
          have V := hid (psv_no (s := s) (o := (s.size : Int) + 1) (by omega))
          have bs : (s.size : Int) ≤ 900000 := by omega
          go_wp2_with fail
          refine (position_any s p n c ((s.size : Int) + 1) wr (by omega) (HI.out _ hbr)).mono ?_
          rintro e w3 ⟨rfl, b3⟩
          rw [V.out]
          have hb3 := hbr.trans (b3.mono hbr.size)
          clear k0 k1
          go_wp2
          go_ret
          exact ⟨rfl, bW.trans ((hb3.alloc hb3.size _).mono bW.size)⟩
end Go.Proofs.Ytcmoehjalgppmaa
