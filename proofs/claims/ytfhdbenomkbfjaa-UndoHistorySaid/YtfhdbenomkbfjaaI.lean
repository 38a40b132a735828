/-
  Contracts: awake; text.
-/
import Derived.Test.YtfhdbenomkbfjaaH
set_option linter.unusedSimpArgs false
set_option linter.unusedVariables false
namespace Go.Proofs.Ytfhdbenomkbfjaa
open Go.RowKit Te Go.Frame

def x0 : St := ⟨{ data := #[97, 98, 99] }, [], [], 0⟩
def x1 : St := ⟨{ data := #[97, 120, 121, 99] }, [(1, 2, { data := #[98] })], [], 1⟩
def x2 : St := ⟨{ data := #[122, 97, 120, 121, 99] }, [(0, 1, { data := #[] }), (1, 2, { data := #[98] })], [], 2⟩
def x3 : St := ⟨{ data := #[97, 120, 121, 99] }, [(1, 2, { data := #[98] })], [(0, 0, { data := #[122] })], 3⟩
def x4 : St := ⟨{ data := #[97, 98, 99] }, [], [(1, 1, { data := #[120, 121] }), (0, 0, { data := #[122] })], 4⟩
def x5 : St := ⟨{ data := #[97, 120, 121, 99] }, [(1, 2, { data := #[98] })], [(0, 0, { data := #[122] })], 5⟩
theorem s1 : doR x0 (1, 1, { data := #[120, 121] }) = (x1, (1, 1, { data := #[120, 121] }), 0) := by kernel_rfl
theorem s2 : doR x1 (0, 0, { data := #[122] }) = (x2, (0, 0, { data := #[122] }), 0) := by kernel_rfl
theorem s3 : undoR x2 = (x3, (0, 1, { data := #[] }), 0) := by kernel_rfl
theorem s4 : undoR x3 = (x4, (1, 2, { data := #[98] }), 0) := by kernel_rfl
theorem s5 : redoR x4 = (x5, (1, 1, { data := #[120, 121] }), 0) := by kernel_rfl
theorem k0 : Ok 20000 0 x0 := Ok.new (by decide)
theorem k1 : Ok 20000 1 x1 := by have := k0.do (e := (1, 1, { data := #[120, 121] })) (by decide); rwa [s1] at this
theorem k2 : Ok 20000 2 x2 := by have := k1.do (e := (0, 0, { data := #[122] })) (by decide); rwa [s2] at this
theorem k3 : Ok 20000 3 x3 := by have := k2.undo; rwa [s3] at this
theorem k4 : Ok 20000 4 x4 := by have := k3.undo; rwa [s4] at this

theorem depth_hi (F : Nat → Prop) (w : World) (B : Nat) (x : St) (h : Hi F w B x) :
    Calls Try.prog 14 #[.pointer (some ⟨B, 0, none⟩)] w fun e w' => e = .returned (.tuple #[.int .i64 (x.U.length : Int), .int .i64 (x.R.length : Int)]) ∧ Below w.heap.size w w' := by
  obtain ⟨vu, vr, hB, h1, h2, _⟩ := h
  have e1 : ∃ p c, vu = .slice p x.U.length c := by
    rcases h1.2 with ⟨rfl, h0⟩ | ⟨g, cap, cur, rfl, _⟩
    · exact ⟨none, 0, by rw [h0]⟩
    · exact ⟨_, cap, rfl⟩
  have e2 : ∃ p c, vr = .slice p x.R.length c := by
    rcases h2.2 with ⟨rfl, h0⟩ | ⟨g, cap, cur, rfl, _⟩
    · exact ⟨none, 0, by rw [h0]⟩
    · exact ⟨_, cap, rfl⟩
  obtain ⟨p, c, rfl⟩ := e1
  obtain ⟨q, d, rfl⟩ := e2
  exact depth_any B x.s p q _ c _ d _ w hB
theorem text_hi (F : Nat → Prop) (w : World) (B : Nat) (x : St) (h : Hi F w B x) : Calls Try.prog 15 #[.pointer (some ⟨B, 0, none⟩)] w fun e w' => e = .returned (.string x.s) ∧ w = w' := by
  obtain ⟨vu, vr, hB, _⟩ := h
  exact text_any B _ _ _ _ w hB
theorem version_hi (F : Nat → Prop) (w : World) (B : Nat) (x : St) (h : Hi F w B x) : Calls Try.prog 17 #[.pointer (some ⟨B, 0, none⟩)] w fun e w' => e = .returned (.int .i64 (x.v : Int)) ∧ w = w' := by
  obtain ⟨vu, vr, hB, _⟩ := h
  exact version_any B _ _ _ _ w hB
/-- A box is made behind a history: the blocks that the history may write to are those without it. -/
theorem Hist.box {F : Nat → Prop} {w : World} {B : Nat} {s : ByteArray} {U R : List Ed} {v : Nat} (h : Hist F w B s U R v) (o : Obj) : Hist (sans F w.heap.size (w.heap.size + 1)) (w.alloc o) B s U R v :=
  (h.mono (G := sans F w.heap.size (w.heap.size + 1)) fun b hb hl => ⟨hb, by omega⟩).below ((Below.refl _ _).alloc (Nat.le_refl _) _)
theorem Up.box {F : Nat → Prop} {w : World} (h : Up F w) (o : Obj) : Up (sans F w.heap.size (w.heap.size + 1)) (w.alloc o) := fun b hb => by
  have hb' : w.heap.size + 1 ≤ b := by simpa using hb
  exact ⟨h b (by omega), by omega⟩
theorem Up.kept {F : Nat → Prop} {w w' : World} (h : Up F w) (k : Kept F w w') : Up F w' := h.mono k.size
theorem Kept.unbut {F : Nat → Prop} {a c : Nat} {w w' : World} (h : Kept (sans F a c) w w') : Kept F w w' := h.mono fun _ hb => hb.1

set_option maxRecDepth 100000 in
set_option maxHeartbeats 4000000 in
theorem awake_any (w : World) : Calls Try.prog 9 #[] w fun e w' => e = .returned (.bool true) ∧ Below w.heap.size w w' := by
  have N := hid (new_any { data := #[97, 98, 99] } w)
  go_enter Try.func9, Try.ntmps9
  go_wp2_with fail
  refine N.out.mono ?_
  rintro e w1 ⟨rfl, hh, b1, z1⟩
  obtain ⟨F, hF⟩ : ∃ F : Nat → Prop, F = fun b => w.heap.size ≤ b := ⟨_, rfl⟩
  have H1 : Hi F w1 w.heap.size x0 := hh.mono fun b hb _ => by rw [hF]; exact (show w.heap.size ≤ b by rw [hb]; exact Nat.le_refl _)
  have U1 : Up F w1 := fun b hb => by rw [hF]; exact Nat.le_trans b1.size hb
  have A1 : Kept F w w1 := Kept.below b1 (fun b hb => by rw [hF]; exact hb)
  clear hh b1 z1
  go_wp2_with fail
  refine (do_any F w1 w.heap.size x0 x1 1 1 { data := #[120, 121] } _ 0 20000 0 s1 H1 U1 k0 (by decide) (by decide) (by decide) (by decide)).mono ?_
  rintro e w2 ⟨rfl, H2, A2⟩
  have U2 := U1.kept A2
  have A2 := A1.trans A2
  clear H1 U1 A1
  go_wp2_with fail
  refine (do_any F w2 w.heap.size x1 x2 0 0 { data := #[122] } _ 0 20000 1 s2 H2 U2 k1 (by decide) (by decide) (by decide) (by decide)).mono ?_
  rintro e w3 ⟨rfl, H3, A3⟩
  have U3 := U2.kept A3
  have A3 := A2.trans A3
  clear H2 U2 A2
  go_wp2_with fail
  refine Calls.mono (show Calls Try.prog 15 #[.pointer (some ⟨w.heap.size, 0, none⟩)] w3 fun e w' => e = .returned (.string { data := #[122, 97, 120, 121, 99] }) ∧ w3 = w' from text_hi F w3 w.heap.size x2 H3) ?_
  rintro e w3' ⟨rfl, rfl⟩
  go_wp2_with fail
  refine (undo_any F w3 w.heap.size x2 x3 0 1 { data := #[] } 0 20000 2 s3 H3 U3 k2 (by decide) (by decide)).mono ?_
  rintro e w4 ⟨rfl, H4, A4⟩
  have U4 := U3.kept A4
  have A4 := A3.trans A4
  clear H3 U3 A3
  have X5 := alloc_new w4 (.cells #[.int .i64 0, .int .i64 1, .string { data := #[] }] 31)
  have H5 := H4.box (.cells #[.int .i64 0, .int .i64 1, .string { data := #[] }] 31)
  have U5 := U4.box (.cells #[.int .i64 0, .int .i64 1, .string { data := #[] }] 31)
  have A5 := A4.alloc U4 (.cells #[.int .i64 0, .int .i64 1, .string { data := #[] }] 31)
  obtain ⟨w5, hw5⟩ : ∃ w5, w5 = w4.alloc (.cells #[.int .i64 0, .int .i64 1, .string { data := #[] }] 31) := ⟨_, rfl⟩
  have HW5 := hid hw5
  rw [← hw5] at X5 H5 U5 A5
  obtain ⟨F5, hF5⟩ : ∃ F5, F5 = sans F w4.heap.size (w4.heap.size + 1) := ⟨_, rfl⟩
  rw [← hF5] at H5 U5
  clear hw5 H4 U4 A4
  go_wp2_with fail
  rw [← HW5.out]
  refine (undo_any F5 w5 w.heap.size x3 x4 1 2 { data := #[98] } 0 20000 3 s4 H5 U5 k3 (by decide) (by decide)).mono ?_
  rintro e w6 ⟨rfl, H6, A6⟩
  have Y5 := (A6.block w4.heap.size (by rw [hF5]; exact fun h => h.2 (by omega))).trans X5
  have U6 := U5.kept A6
  have A6 := A5.trans (A6.mono (by rw [hF5]; exact fun b hb => hb.1))
  clear H5 U5 A5 X5
  have X7 := alloc_new w6 (.cells #[.int .i64 1, .int .i64 2, .string { data := #[98] }] 31)
  have Y7 := blk_alloc (o' := .cells #[.int .i64 1, .int .i64 2, .string { data := #[98] }] 31) Y5
  have H7 := H6.box (.cells #[.int .i64 1, .int .i64 2, .string { data := #[98] }] 31)
  have U7 := U6.box (.cells #[.int .i64 1, .int .i64 2, .string { data := #[98] }] 31)
  have A7 := A6.alloc (fun b hb => by have := U6 b hb; rw [hF5] at this; exact this.1) (.cells #[.int .i64 1, .int .i64 2, .string { data := #[98] }] 31)
  have L5 := heap_lt Y5
  obtain ⟨w7, hw7⟩ : ∃ w7, w7 = w6.alloc (.cells #[.int .i64 1, .int .i64 2, .string { data := #[98] }] 31) := ⟨_, rfl⟩
  have HW7 := hid hw7
  rw [← hw7] at X7 Y7 H7 U7 A7
  obtain ⟨F7, hF7⟩ : ∃ F7, F7 = sans F5 w6.heap.size (w6.heap.size + 1) := ⟨_, rfl⟩
  rw [← hF7] at H7 U7
  clear hw7 H6 U6 A6 Y5
  go_wp2_with fail
  rw [← HW7.out]
  refine (redo_any F7 w7 w.heap.size x4 x5 1 1 { data := #[120, 121] } 0 20000 4 s5 H7 U7 k4 (by decide) (by decide)).mono ?_
  rintro e w8 ⟨rfl, H8, A8⟩
  have Y5 := (A8.block w4.heap.size (by rw [hF7, hF5]; exact fun h => h.1.2 (by omega))).trans Y7
  have Z7 := (A8.block w6.heap.size (by rw [hF7]; exact fun h => h.2 (by omega))).trans X7
  have U8 := U7.kept A8
  have A8 := A7.trans (A8.mono (by rw [hF7, hF5]; exact fun b hb => hb.1.1))
  clear H7 U7 A7 X7 Y7
  have X9 := alloc_new w8 (.cells #[.int .i64 1, .int .i64 1, .string { data := #[120, 121] }] 31)
  have Y9 := blk_alloc (o' := .cells #[.int .i64 1, .int .i64 1, .string { data := #[120, 121] }] 31) Y5
  have Z9 := blk_alloc (o' := .cells #[.int .i64 1, .int .i64 1, .string { data := #[120, 121] }] 31) Z7
  have H9 := H8.box (.cells #[.int .i64 1, .int .i64 1, .string { data := #[120, 121] }] 31)
  have A9 := A8.alloc (fun b hb => by have := U8 b hb; rw [hF7, hF5] at this; exact this.1.1) (.cells #[.int .i64 1, .int .i64 1, .string { data := #[120, 121] }] 31)
  obtain ⟨w9, hw9⟩ : ∃ w9, w9 = w8.alloc (.cells #[.int .i64 1, .int .i64 1, .string { data := #[120, 121] }] 31) := ⟨_, rfl⟩
  have HW9 := hid hw9
  rw [← hw9] at X9 Y9 Z9 H9 A9
  clear hw9 H8 U8 A8 Y5 Z7
  go_wp2_with fail
  rw [← HW9.out]
  refine Calls.mono (show Calls Try.prog 14 #[.pointer (some ⟨w.heap.size, 0, none⟩)] w9 fun e w' => e = .returned (.tuple #[.int .i64 1, .int .i64 1]) ∧ Below w9.heap.size w9 w' from depth_hi _ w9 w.heap.size x5 H9) ?_
  rintro e w10 ⟨rfl, bA⟩
  have H10 := H9.below bA
  have A10 := A9.trans (Kept.below bA (fun b hb => by rw [hF]; exact Nat.le_trans A9.size hb))
  obtain ⟨a0, a1, a2⟩ := cells3 ((bA.block _ (heap_lt X9)).trans X9)
  obtain ⟨b0, b1, b2⟩ := cells3 ((bA.block _ (heap_lt Y9)).trans Y9)
  obtain ⟨c0, c1, c2⟩ := cells3 ((bA.block _ (heap_lt Z9)).trans Z9)
  clear X9 Y9 Z9 H9
  go_wp2_with fail
  refine Calls.mono (show Calls Try.prog 17 #[.pointer (some ⟨w.heap.size, 0, none⟩)] w10 fun e w' => e = .returned (.int .i64 5) ∧ w10 = w' from version_hi _ w10 w.heap.size x5 H10) ?_
  rintro e w11 ⟨rfl, rfl⟩
  go_wp2
  go_ret
  refine ⟨rfl, A10.toBelow fun b hb => by rw [hF] at hb; exact hb⟩
end Go.Proofs.Ytfhdbenomkbfjaa
