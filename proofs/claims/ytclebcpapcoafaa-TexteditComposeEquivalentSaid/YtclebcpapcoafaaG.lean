/-
  Contracts: awake.
-/
import Derived.Test.YtclebcpapcoafaaF
import Derived.Test.YtclebcpapcoafaaFr

namespace Go.Proofs.Ytclebcpapcoafaa
open Go.RowKit Te Go.Frame

def ecells (l : List Ed) : List Value := l.flatMap fun x => [.int .i64 x.1, .int .i64 x.2.1, .string x.2.2]
theorem ecells_at : ∀ (l : List Ed) (i : Nat) (x : Ed), l[i]? = some x → (ecells l)[i * 3]? = some (.int .i64 x.1) ∧ (ecells l)[i * 3 + 1]? = some (.int .i64 x.2.1) ∧ (ecells l)[i * 3 + 2]? = some (.string x.2.2)
  | y :: l, 0, x, h => by
    simp at h; subst h
    exact ⟨rfl, rfl, rfl⟩
  | y :: l, i + 1, x, h => by
    obtain ⟨h1, h2, h3⟩ := ecells_at l i x (by simpa using h)
    rw [show (i + 1) * 3 = i * 3 + 1 + 1 + 1 by omega, show i * 3 + 1 + 1 + 1 + 1 = (i * 3 + 1) + 1 + 1 + 1 by omega, show i * 3 + 1 + 1 + 1 + 2 = (i * 3 + 2) + 1 + 1 + 1 by omega]
    exact ⟨h1, h2, h3⟩
/-- A row that a composite literal made. -/
theorem row_blk {W : World} {g n : Nat} {l : List Ed} (h : W.heap[g]? = some (.cells (ecells l).toArray 23 (0, 0))) (hl : l.length = n) : Row W (some ⟨g, 0, none⟩) n l := by
  refine ⟨hl, .inr ⟨g, 0, rfl, heap_lt h, fun i x hx => ?_⟩⟩
  obtain ⟨d0, d1, d2⟩ := ecells_at l i x hx
  refine ⟨?_, ?_, ?_⟩
  · simp [World.cell?, h, d0]
  · simp [World.cell?, h, d1]
  · simp [World.cell?, h, d2]

def cX : ByteArray := { data := #[88] }
def cAbcdef : ByteArray := { data := #[97, 98, 99, 100, 101, 102] }
theorem v1 : apv { data := #[97, 98, 99, 100, 101, 102] } (2, 3, { data := #[88] }) = .tuple #[.string { data := #[97, 98, 88, 102] }, .int .i64 0] := by kernel_rfl
theorem v2 : inv' { data := #[97, 98, 99, 100, 101, 102] } (2, 3, { data := #[88] }) = .tuple #[.agg #[.int .i64 2, .int .i64 1, .string { data := #[99, 100, 101] }], .int .i64 0] := by kernel_rfl
theorem v3 : cmv (cmp { data := #[97, 98, 99, 100, 101, 102] } [(1, 1, { data := #[88, 89] }), (4, 1, { data := #[] })]) = .tuple #[.agg #[.int .i64 1, .int .i64 3, .string { data := #[88, 89, 99] }], .int .i64 0] := by kernel_rfl
theorem v4 : rbv (3, 1, { data := #[122] }) (0, 2, { data := #[112, 113, 114] }) = .tuple #[.agg #[.int .i64 4, .int .i64 1, .string { data := #[122] }], .bool true] := by kernel_rfl

set_option maxRecDepth 100000 in
set_option maxHeartbeats 4000000 in
theorem awake_any (w : World) : Calls Try.prog 12 #[] w fun e w' => e = .returned (.bool true) ∧ Below w.heap.size w w' := by
  have M1 := fun w => apply_any { data := #[97, 98, 99, 100, 101, 102] } { data := #[88] } 2 3 w (by decide) (by decide) (by decide)
  have M2 := fun w => invert_any { data := #[97, 98, 99, 100, 101, 102] } { data := #[88] } 2 3 w (by decide) (by decide) (by decide)
  have M4 := fun w => rebase_any 3 1 { data := #[122] } 0 2 { data := #[112, 113, 114] } w (by decide) (by decide) (by decide)
  rw [v1] at M1
  rw [v2] at M2
  rw [v4] at M4
  go_enter Try.func12, Try.ntmps12
  go_wp2_with fail
  refine (M1 _).mono ?_
  rintro e w1 ⟨rfl, b1⟩
  go_wp2_with fail
  refine (M2 _).mono ?_
  rintro e w2 ⟨rfl, b2⟩
  have B2 := b1.trans (b2.mono b1.size)
  go_wp2_with fail
  have X3 : Bx (w2.alloc (.cells #[.int .i64 2, .int .i64 1, .string { data := #[99, 100, 101] }] 23)) w2.heap.size (2, 1, { data := #[99, 100, 101] }) := alloc_new _ _
  have B3 := B2.alloc B2.size (.cells #[.int .i64 2, .int .i64 1, .string { data := #[99, 100, 101] }] 23)
  have Z3 : (w2.alloc (.cells #[.int .i64 2, .int .i64 1, .string { data := #[99, 100, 101] }] 23)).heap.size = w2.heap.size + 1 := by simp
  obtain ⟨u, hu⟩ : ∃ u, u = w2.alloc (.cells #[.int .i64 2, .int .i64 1, .string { data := #[99, 100, 101] }] 23) := ⟨_, rfl⟩
  rw [← hu] at X3 B3 Z3 ⊢
  rw [← Z3]
  refine (compose_any { data := #[97, 98, 99, 100, 101, 102] } (some ⟨u.heap.size, 0, none⟩) 2 2 [(1, 1, { data := #[88, 89] }), (4, 1, { data := #[] })] _ (by decide) (by decide) (by intro x hx; simp at hx; rcases hx with rfl | rfl <;> decide) (row_blk (alloc_new _ _) rfl)).mono ?_
  rw [v3]
  rintro e w3 ⟨rfl, b3⟩
  have X3' := (X3.below ((Below.refl _ _).alloc (Nat.le_refl _) _)).below (W' := w3) (b3.mono (Nat.le_refl _))
  have B4 : Below w.heap.size w w3 := (B3.alloc B3.size _).trans (b3.mono (by have := B3.size; simp; omega))
  have hlt : w2.heap.size < w3.heap.size := heap_lt X3'
  clear X3 hu b3 B3 Z3
  go_wp2_with fail
  have X5 : Bx (w3.alloc (.cells #[.int .i64 1, .int .i64 3, .string { data := #[88, 89, 99] }] 23)) w3.heap.size (1, 3, { data := #[88, 89, 99] }) := alloc_new _ _
  have X3 : Bx (w3.alloc (.cells #[.int .i64 1, .int .i64 3, .string { data := #[88, 89, 99] }] 23)) w2.heap.size (2, 1, { data := #[99, 100, 101] }) := X3'.below ((Below.refl _ _).alloc (Nat.le_refl _) _)
  have B5 := B4.alloc B4.size (.cells #[.int .i64 1, .int .i64 3, .string { data := #[88, 89, 99] }] 23)
  have Z5 : (w3.alloc (.cells #[.int .i64 1, .int .i64 3, .string { data := #[88, 89, 99] }] 23)).heap.size = w3.heap.size + 1 := by simp
  obtain ⟨u', hu'⟩ : ∃ u', u' = w3.alloc (.cells #[.int .i64 1, .int .i64 3, .string { data := #[88, 89, 99] }] 23) := ⟨_, rfl⟩
  rw [← hu'] at X3 X5 B5 Z5 ⊢
  clear hu' X3'
  refine (M4 _).mono ?_
  rintro e w4 ⟨rfl, b4⟩
  have B6 := B5.trans (b4.mono B5.size)
  obtain ⟨k00, k01, k02⟩ := (X3.below b4).cells
  obtain ⟨k10, k11, k12⟩ := (X5.below b4).cells
  have l1 := heap_lt (X3.below b4)
  have l2 := heap_lt (X5.below b4)
  clear X3 X5 b4 B5
  obtain ⟨z, hz⟩ : ∃ z, z = w4.alloc (.cells #[.int .i64 4, .int .i64 1, .string { data := #[122] }] 23) := ⟨_, rfl⟩
  go_wp2
  go_ret
  refine ⟨?_, ?_⟩
  · rfl
  · exact B6.alloc B6.size _
end Go.Proofs.Ytclebcpapcoafaa
