/-
  Contract: awake.
-/
import Derived.Test.YtlbnaegcjlddgaaI
set_option linter.unusedSimpArgs false
set_option linter.unusedVariables false
namespace Go.Proofs.Ytlbnaegcjlddgaa
open Go.RowKit Lx Go.Frame Go.Shelf

theorem trow_blk {W : World} {b : Nat} {t : TypeId} {c : Array Value} (l : List TQ) {n : Nat} (h : W.heap[b]? = some (.cells c t (0, 0))) (hc : c.toList = tl l) (hn : l.length = n) : TRow W (some ⟨b, 0, none⟩) n l := by
  refine ⟨by simpa using hn, .inr ⟨b, 0, rfl, heap_lt h, fun i cs hi j v hj => ?_⟩⟩
  rw [List.getElem?_map] at hi
  obtain ⟨t, ht2, rfl⟩ := Option.map_eq_some_iff.1 hi
  have hu := tl_at ht2 hj
  rw [← hc] at hu
  rw [Nat.zero_add]
  simp only [World.cell?, h]
  simpa using hu
def sA : ByteArray := ⟨#[97, 97, 97, 98, 120]⟩
def sB : ByteArray := ⟨#[97, 98]⟩
def tA : List TQ := [(0, 0, ⟨#[97, 97, 97]⟩, 4), (-1, 3, ⟨#[98]⟩, 1), (-1, 4, ⟨#[120]⟩, 1)]
def tB : List TQ := [(1, 0, ⟨#[97, 98]⟩, 3)]
set_option maxRecDepth 100000 in
theorem lexA : lexT exD sA = tA := by kernel_rfl
set_option maxRecDepth 100000 in
theorem lexB : lexT exD sB = tB := by kernel_rfl
theorem txA : (⟨(txb tA).toArray⟩ : ByteArray) = sA := by rfl
set_option maxRecDepth 100000 in
set_option maxHeartbeats 4000000 in
theorem awake_any (w : World) : Calls Try.prog 10 #[] w fun e w' => e = .returned (.bool true) ∧ Below w.heap.size w w' := by
  go_enter Try.func10, Try.ntmps10
  go_upto_region 1 with fail
  go_wp2_with fail
  refine (example_any w).mono ?_
  rintro e w1 ⟨a1, a2, a3, rfl, h1, b1⟩
  have H1 := hid h1
  have B1 := hid b1
  clear h1 b1
  go_wp2_with fail
  have L := Lex_any w1 exD 4 3 exD_vd a1 256 256 a2 4 4 a3 4 4 H1.out sA (by decide)
  rw [lexA] at L
  refine L.mono ?_
  rintro e w2 ⟨⟨p, c, rfl, h2⟩, b2⟩
  have H2 := hid h2
  have B2 := hid (B1.out.trans (b2.mono B1.out.size))
  clear L h2 b2
  go_wp2_with fail
  refine (example_any w2).mono ?_
  rintro e w3 ⟨a1', a2', a3', rfl, h3, b3⟩
  have H3 := hid h3
  have H2' := hid (H2.out.below b3)
  have B3 := hid (B2.out.trans (b3.mono B2.out.size))
  clear h3 b3
  go_wp2_with fail
  have L := Lex_any w3 exD 4 3 exD_vd a1' 256 256 a2' 4 4 a3' 4 4 H3.out sB (by decide)
  rw [lexB] at L
  refine L.mono ?_
  rintro e w4 ⟨⟨p', c', rfl, h4⟩, b4⟩
  have H4 := hid h4
  have H24 := hid (H2'.out.below b4)
  have B4 := hid (B3.out.trans (b4.mono B3.out.size))
  clear L h4 b4
  go_upto_region 2 with fail
  go_wp2_with fail
  obtain ⟨U, hU⟩ : ∃ U, U = w4.alloc (.cells #[.int .i64 0, .int .i64 0, .string { data := #[97, 97, 97] }, .int .i64 4, .int .i64 (-1), .int .i64 3, .string { data := #[98] }, .int .i64 1, .int .i64 (-1), .int .i64 4, .string { data := #[120] }, .int .i64 1] 32) := ⟨_, rfl⟩
  have u1 := alloc_new w4 (.cells #[.int .i64 0, .int .i64 0, .string { data := #[97, 97, 97] }, .int .i64 4, .int .i64 (-1), .int .i64 3, .string { data := #[98] }, .int .i64 1, .int .i64 (-1), .int .i64 4, .string { data := #[120] }, .int .i64 1] 32)
  have bU := bel1 w4 (.cells #[.int .i64 0, .int .i64 0, .string { data := #[97, 97, 97] }, .int .i64 4, .int .i64 (-1), .int .i64 3, .string { data := #[98] }, .int .i64 1, .int .i64 (-1), .int .i64 4, .string { data := #[120] }, .int .i64 1] 32)
  rw [← hU] at u1 bU ⊢
  have S := Same_any U p tA.length c tA (some ⟨w4.heap.size, 0, none⟩) 3 3 tA (H24.out.below bU) (trow_blk tA u1 rfl rfl) (by decide) (by decide)
  rw [decide_eq_true rfl] at S
  have HU := hid (And.intro (H24.out.below bU) (And.intro (H4.out.below bU) (B4.out.trans (bU.mono B4.out.size))))
  clear hU u1 bU
  refine S.mono ?_
  rintro e w5 ⟨rfl, b5⟩
  have H5 := hid (And.intro (HU.out.1.below b5) (And.intro (HU.out.2.1.below b5) (HU.out.2.2.trans (b5.mono HU.out.2.2.size))))
  clear S b5
  go_wp2_with fail
  obtain ⟨V, hV⟩ : ∃ V, V = w5.alloc (.cells #[.int .i64 1, .int .i64 0, .string { data := #[97, 98] }, .int .i64 3] 32) := ⟨_, rfl⟩
  have u1 := alloc_new w5 (.cells #[.int .i64 1, .int .i64 0, .string { data := #[97, 98] }, .int .i64 3] 32)
  have bU := bel1 w5 (.cells #[.int .i64 1, .int .i64 0, .string { data := #[97, 98] }, .int .i64 3] 32)
  rw [← hV] at u1 bU ⊢
  have S := Same_any V p' tB.length c' tB (some ⟨w5.heap.size, 0, none⟩) 1 1 tB (H5.out.2.1.below bU) (trow_blk tB u1 rfl rfl) (by decide) (by decide)
  rw [decide_eq_true rfl] at S
  have HV := hid (And.intro (H5.out.1.below bU) (H5.out.2.2.trans (bU.mono H5.out.2.2.size)))
  clear hV u1 bU
  refine S.mono ?_
  rintro e w6 ⟨rfl, b6⟩
  have H6 := hid (And.intro (HV.out.1.below b6) (HV.out.2.trans (b6.mono HV.out.2.size)))
  clear S b6
  go_wp2_with fail
  have T := Text_any w6 p tA.length c tA H6.out.1 (by decide) (by decide)
  rw [txA] at T
  refine T.mono ?_
  rintro e w7 ⟨rfl, b7⟩
  have H7 := hid (H6.out.2.trans (b7.mono H6.out.2.size))
  clear T b7
  have e1 : sA = ⟨#[97, 97, 97, 98, 120]⟩ := rfl
  rw [e1]
  go_wp2_with fail
  go_ret
  exact ⟨rfl, H7.out⟩
end Go.Proofs.Ytlbnaegcjlddgaa
