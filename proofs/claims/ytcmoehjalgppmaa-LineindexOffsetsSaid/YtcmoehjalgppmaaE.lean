/-
  Contracts: the reference's Line, Offset; Offset.
-/
import Derived.Test.YtcmoehjalgppmaaD

namespace Go.Proofs.Ytcmoehjalgppmaa
open Go.RowKit Te Go.Frame

theorem Row.at {W : World} {p : Option Addr} {s : ByteArray} (h : Row W p (N s + 1) (strs (Ls s))) {i : Nat} (hi : i ≤ N s) : ∃ b off, p = some ⟨b, off, none⟩ ∧ b < W.heap.size ∧ W.cell? ⟨b, off + i, none⟩ = some (.string (lineAt s i)) := by
  rcases h.2 with h0 | ⟨b, off, rfl, hb, hx⟩
  · omega
  · exact ⟨b, off, rfl, hb, hx _ _ (strs_at (Ls_at hi))⟩

set_option maxRecDepth 100000 in
set_option maxHeartbeats 2000000 in
theorem rline_any (s : ByteArray) (k : Int) (w : World) (hs : s.size ≤ 1000000) :
    Calls Try.prog 16 #[.string s, .int .i64 k] w fun e w' => e = .returned (lnv s k) ∧ Below w.heap.size w w' := by
  have hN := N_le s
  go_enter Try.func16, Try.ntmps16
  go_wp2_with fail
  refine (rlines_any s w hs).mono ?_
  rintro e w1 ⟨⟨p, c, rfl, hr⟩, b1⟩
  by_cases h0 : 0 ≤ k
  · obtain ⟨m, rfl⟩ : ∃ m : Nat, k = m := ⟨k.toNat, by omega⟩
    by_cases h1 : m ≤ N s
    · have V := hid (lnv_yes h1)
      have q1 : ¬ ((N s : Int) + 1 ≤ (m : Int)) := by omega
      obtain ⟨b, off, rfl, hb, c0⟩ := hr.at h1
      clear hr
      go_wp2
      go_ret2
      exact ⟨by rw [V.out]; rfl, b1⟩
    · have V := hid (lnv_no (s := s) (n := (m : Int)) (by omega))
      have q1 : ((N s : Int) + 1 ≤ (m : Int)) := by omega
      clear hr
      go_wp2
      go_ret2
      exact ⟨by rw [V.out]; rfl, b1⟩
  · have V := hid (lnv_no (s := s) (n := k) (by omega))
    have q1 : k < 0 := by omega
    clear hr
    go_wp2
    go_ret2
    exact ⟨by rw [V.out]; rfl, b1⟩

/-- The results of Offset. -/
def ofv (s : ByteArray) (l c : Int) : Value := if (0 ≤ l ∧ l ≤ N s) ∧ 0 ≤ c ∧ c ≤ (lineAt s l.toNat).size then .tuple #[.int .i64 ((bg s l.toNat : Int) + c), .int .i64 0] else .tuple #[.int .i64 0, .int .i64 2]
theorem ofv_yes {s : ByteArray} {l c : Nat} (h : l ≤ N s) (hc : c ≤ (lineAt s l).size) : ofv s l c = .tuple #[.int .i64 ((bg s l : Int) + c), .int .i64 0] := by
  unfold ofv; rw [if_pos ⟨⟨by omega, by omega⟩, by omega, by rw [Int.toNat_natCast]; omega⟩, Int.toNat_natCast]
theorem ofv_no {s : ByteArray} {l c : Int} (h : ¬ (0 ≤ l ∧ l ≤ N s)) : ofv s l c = .tuple #[.int .i64 0, .int .i64 2] := if_neg fun h' => h h'.1
theorem ofv_not {s : ByteArray} {l : Nat} {c : Int} (h : ¬ (0 ≤ c ∧ c ≤ (lineAt s l).size)) : ofv s l c = .tuple #[.int .i64 0, .int .i64 2] := if_neg fun h' => h (by have := h'.2; rwa [Int.toNat_natCast] at this)

set_option maxRecDepth 100000 in
set_option maxHeartbeats 2000000 in
theorem offset_any (s : ByteArray) (p : Option Addr) (n c : Nat) (l k : Int) (w : World) (hs : s.size ≤ 1000000) (h : Ix w p n s) :
    Calls Try.prog 13 #[.agg #[.string s, .slice p n c], .agg #[.int .i64 l, .int .i64 k]] w fun e w' => e = .returned (ofv s l k) ∧ Below w.heap.size w w' := by
  have hN := N_le s
  obtain ⟨W, hW⟩ : ∃ W, W = (w.alloc (.cells #[.string s, .slice p n c] 26)).alloc (.cells #[.int .i64 l, .int .i64 k] 30) := ⟨_, rfl⟩
  have bW : Below w.heap.size w W := by rw [hW]; exact ((Below.refl _ _).alloc (Nat.le_refl _) _).alloc (by simp) _
  have hsz := hid (show W.heap.size = w.heap.size + 2 by rw [hW]; simp)
  have Keep := hid (show ∀ w', Below W.heap.size W w' → w'.cell? ⟨w.heap.size, 0, none⟩ = some (.string s) ∧ w'.cell? ⟨w.heap.size, 1, none⟩ = some (.slice p n c) ∧ w'.cell? ⟨w.heap.size + 1, 0, none⟩ = some (.int .i64 l) ∧ w'.cell? ⟨w.heap.size + 1, 1, none⟩ = some (.int .i64 k) from fun w' h => by
    have g := hsz.out
    have x1 := (h.block w.heap.size (by omega)).trans (show W.heap[w.heap.size]? = some (.cells #[.string s, .slice p n c] 26 (0, 0)) by rw [hW]; exact blk_alloc (alloc_new _ _))
    have x2 := (h.block (w.heap.size + 1) (by omega)).trans (show W.heap[w.heap.size + 1]? = some (.cells #[.int .i64 l, .int .i64 k] 30 (0, 0)) by rw [hW]; exact alloc_at _ _ (by simp))
    exact ⟨(cells2 x1).1, (cells2 x1).2, cells2 x2⟩)
  have HI := hid (h.below bW)
  have HW := hid hW
  clear hW h
  go_enter Try.func13, Try.ntmps13
  go_wp2_with fail
  rw [← HW.out]
  refine (line_any s p n c l W hs HI.out).mono ?_
  rintro e w1 ⟨rfl, b1⟩
  obtain ⟨k0, k1, k2, k3⟩ := Keep.out _ b1
  by_cases h0 : 0 ≤ l ∧ l ≤ N s
  · obtain ⟨m, rfl⟩ : ∃ m : Nat, l = m := ⟨l.toNat, by omega⟩
    have h1 : m ≤ N s := by omega
    have hb := bg_en h1
    have hls := lineAt_size h1
    rw [lnv_yes h1]
    have HM := hid h1
    by_cases h2 : 0 ≤ k ∧ k ≤ (lineAt s m).size
    · obtain ⟨j, rfl⟩ : ∃ j : Nat, k = j := ⟨k.toNat, by omega⟩
      have V := hid (ofv_yes (c := j) h1 (by omega))
      have q1 : ¬ (((lineAt s m).size : Int) < (j : Int)) := by omega
      have q2 : IntKind.i64.wrap ((bg s m : Int) + (j : Int)) = (bg s m : Int) + (j : Int) := wrapIn (by omega) (by omega)
      clear hb hls h0 h1
      go_wp2_with fail
      refine wp_region_below (by kernel_rfl) (by kernel_rfl) ?_
      intro X f _ hf hs'
      clear k0 k1 k2 k3
      have k0 := fun x => (Keep.out _ (b1.trans ((hf.out x).mono b1.size))).1
      have k1 := fun x => (Keep.out _ (b1.trans ((hf.out x).mono b1.size))).2.1
      have k2 := fun x => (Keep.out _ (b1.trans ((hf.out x).mono b1.size))).2.2.1
      have k3 := fun x => (Keep.out _ (b1.trans ((hf.out x).mono b1.size))).2.2.2
      repeat (go_big_quiet_step (first
        | (go_at_call 23; exact calls_below hf hs' (start_any s p n c m _ hs HM.out (HI.out.below (b1.trans ((hf.out _).mono b1.size)))))))
      refine wpQuiet_nil ?_
      intro w' hw'
      go_wp2
      go_ret2
      exact ⟨by rw [V.out]; rfl, bW.trans ((b1.trans (hw'.mono b1.size)).mono bW.size)⟩
    · have V := hid (ofv_not h2)
      clear hb hls h0 h1
      have hb2 := bW.trans (b1.mono bW.size)
      by_cases h3 : k < 0
      · go_wp2
        go_ret2
        exact ⟨by rw [V.out]; rfl, hb2⟩
      · have h4 : ((lineAt s m).size : Int) < k := by omega
        go_wp2
        go_ret2
        exact ⟨by rw [V.out]; rfl, hb2⟩
  · have V := hid (ofv_no (c := k) h0)
    rw [lnv_no h0]
    clear h0
    go_wp2
    go_ret2
    exact ⟨by rw [V.out]; rfl, bW.trans (b1.mono bW.size)⟩
end Go.Proofs.Ytcmoehjalgppmaa
