/-
  LineindexOffsets, for every input: the law returns true and leaves its arguments as they read. No condition.
-/
import Derived.Test.YtcmoehjalgppmaaI
namespace Go.Proofs.Ytcmoehjalgppmaa.lineindexOffsets
open Go.ChangeShapes Go.WideShapes Go.ChangeAt Go.RowKit Go.Frame
open Go.ChangeMaps (open_string shut_string)
open Te
theorem ofv_shape (s : ByteArray) (a c : Int) : ∃ x y : Int, ofv s a c = .tuple #[.int .i64 x, .int .i64 y] := by
  unfold ofv
  split
  · exact ⟨_, _, rfl⟩
  · exact ⟨_, _, rfl⟩
theorem lnv_shape (s : ByteArray) (n : Int) : ∃ (t : ByteArray) (y : Int), lnv s n = .tuple #[.string t, .int .i64 y] := by
  unfold lnv
  split
  · exact ⟨_, _, rfl⟩
  · exact ⟨_, _, rfl⟩
theorem psv_shape (s : ByteArray) (n : Int) : ∃ x z y : Int, psv s n = .tuple #[.agg #[.int .i64 x, .int .i64 z], .int .i64 y] := by
  unfold psv
  split
  · exact ⟨_, _, _, rfl⟩
  · exact ⟨_, _, _, rfl⟩
set_option maxRecDepth 100000 in
set_option maxHeartbeats 4000000 in
theorem walk (s : ByteArray) (a c k : Int) (w : World) (_ha : -9223372036854775808 ≤ a ∧ a ≤ 9223372036854775807) (_hc : -9223372036854775808 ≤ c ∧ c ≤ 9223372036854775807) :
    Calls Try.prog 4 #[.string s, .agg #[.int .i64 a, .int .i64 c], .int .i64 k] w fun e w' => e = .returned (.bool true) ∧ Below w.heap.size w w' := by
  clear _ha _hc
  have b0 : Below w.heap.size w (w.alloc (.cells #[.int .i64 a, .int .i64 c] 30)) := (Below.refl _ _).alloc (Nat.le_refl _) _
  by_cases h : s.size ≤ 300
  · have h' : (s.size : Int) ≤ 300 := by omega
    have H := hid h
    clear h
    obtain ⟨x1, y1, e1⟩ := ofv_shape s a c
    obtain ⟨x2, y2, e2⟩ := lnv_shape s k
    obtain ⟨x3, z3, y3, e3⟩ := psv_shape s k
    have E1 := hid e1
    have E2 := hid e2
    have E3 := hid e3
    clear e1 e2 e3
    go_enter Try.func4, Try.ntmps4
    go_wp2_with fail
    refine (new_any s _ (by have := H.out; omega)).mono ?_
    rintro e w1 ⟨⟨p, n, q, rfl, hI, _⟩, b1⟩
    have B1 := b0.trans (b1.mono b0.size)
    obtain ⟨W, hW⟩ : ∃ W, W = w1.alloc (.cells #[.string s, .slice p n q] 26) := ⟨_, rfl⟩
    have bW : Below w.heap.size w W := by rw [hW]; exact B1.alloc B1.size _
    have HI := hid (show ∀ w', Below W.heap.size W w' → Ix w' p n s from fun w' h => (hI.below ((Below.refl _ _).alloc (Nat.le_refl _) (.cells #[.string s, .slice p n q] 26))).below (by rw [← hW]; exact h))
    have hsz := hid (show W.heap.size = w1.heap.size + 1 by rw [hW]; simp)
    have hlt := hid (show w.heap.size < w1.heap.size by have := b1.size; simp at this; omega)
    have Keep := hid (show ∀ w', Below W.heap.size W w' → (w'.cell? ⟨w1.heap.size, 0, none⟩ = some (.string s) ∧ w'.cell? ⟨w1.heap.size, 1, none⟩ = some (.slice p n q)) ∧ (w'.cell? ⟨w.heap.size, 0, none⟩ = some (.int .i64 a) ∧ w'.cell? ⟨w.heap.size, 1, none⟩ = some (.int .i64 c)) ∧ w.heap.size < w'.heap.size ∧ w1.heap.size < w'.heap.size from fun w' h => by
      have g1 := hsz.out
      have g2 := hlt.out
      have g3 := h.size
      have t1 : W.heap[w1.heap.size]? = some (.cells #[.string s, .slice p n q] 26 (0, 0)) := by rw [hW]; exact alloc_new _ _
      have t2 : W.heap[w.heap.size]? = some (.cells #[.int .i64 a, .int .i64 c] 30 (0, 0)) := by
        rw [hW]
        exact blk_alloc ((b1.block _ (by simp)).trans (alloc_new _ _))
      exact ⟨cells2 ((h.block _ (by omega)).trans t1), cells2 ((h.block _ (by omega)).trans t2), by omega, by omega⟩)
    obtain ⟨⟨k0, k1⟩, ⟨k2, k3⟩, k4, k5⟩ := Keep.out _ (Below.refl _ _)
    have HW := hid hW
    rw [hW] at k0 k1 k2 k3 k4 k5
    clear hW hI b1
    go_wp2_with fail
    rw [← HW.out]
    refine (offset_any s p n q a c W (by have := H.out; omega) (HI.out _ (Below.refl _ _))).mono ?_
    rintro e w2 ⟨rfl, b2⟩
    rw [E1.out]
    clear k0 k1 k2 k3 k4 k5
    obtain ⟨⟨k0, k1⟩, ⟨k2, k3⟩, k4, k5⟩ := Keep.out _ b2
    go_wp2_with fail
    refine (roffset_any s a c w2 (by have := H.out; omega)).mono ?_
    rintro e w3 ⟨rfl, b3⟩
    rw [E1.out]
    have B3 := b2.trans (b3.mono b2.size)
    clear k0 k1 k2 k3 k4 k5
    obtain ⟨⟨k0, k1⟩, ⟨k2, k3⟩, k4, k5⟩ := Keep.out _ B3
    go_wp2_with fail
    refine (line_any s p n q k w3 (by have := H.out; omega) (HI.out _ B3)).mono ?_
    rintro e w4 ⟨rfl, b4⟩
    rw [E2.out]
    have B4 := B3.trans (b4.mono B3.size)
    clear k0 k1 k2 k3 k4 k5
    obtain ⟨⟨k0, k1⟩, ⟨k2, k3⟩, k4, k5⟩ := Keep.out _ B4
    go_wp2_with fail
    refine (rline_any s k w4 (by have := H.out; omega)).mono ?_
    rintro e w5 ⟨rfl, b5⟩
    rw [E2.out]
    have B5 := B4.trans (b5.mono B4.size)
    clear k0 k1 k2 k3 k4 k5
    obtain ⟨⟨k0, k1⟩, ⟨k2, k3⟩, k4, k5⟩ := Keep.out _ B5
    go_wp2_with fail
    refine (position_any s p n q k w5 (by have := H.out; omega) (HI.out _ B5)).mono ?_
    rintro e w6 ⟨rfl, b6⟩
    rw [E3.out]
    have B6 := B5.trans (b6.mono B5.size)
    have B7 := B6.alloc B6.size (.cells #[.int .i64 x3, .int .i64 z3] 30)
    clear k0 k1 k2 k3 k4 k5
    go_wp2_with fail
    refine (rposition_any s k _ (by have := H.out; omega)).mono ?_
    rintro e w7 ⟨rfl, b7⟩
    rw [E3.out]
    have B8 := B7.trans (b7.mono B7.size)
    have X6 := blk_alloc (o' := .cells #[.int .i64 x3, .int .i64 z3] 30) ((b7.block w6.heap.size (by simp)).trans (alloc_new w6 (.cells #[.int .i64 x3, .int .i64 z3] 30)))
    have X7 := alloc_new w7 (.cells #[.int .i64 x3, .int .i64 z3] 30)
    have B9 := B8.alloc B8.size (.cells #[.int .i64 x3, .int .i64 z3] 30)
    go_wp2_with fail
    refine (awake_any _).mono ?_
    rintro e w8 ⟨rfl, b8⟩
    obtain ⟨m0, m1⟩ := cells2 ((b8.block _ (heap_lt X6)).trans X6)
    obtain ⟨m2, m3⟩ := cells2 ((b8.block _ (heap_lt X7)).trans X7)
    clear X6 X7
    go_wp2
    go_ret
    refine ⟨by rfl, bW.trans ((B9.trans (b8.mono B9.size)).mono bW.size)⟩
  · have h' : (300 : Int) < (s.size : Int) := by omega
    go_enter Try.func4, Try.ntmps4
    go_wp2_with fail
    refine (awake_any _).mono ?_
    rintro e w1 ⟨rfl, b1⟩
    go_wp2
    go_ret
    exact ⟨rfl, b0.trans (b1.mono b0.size)⟩

theorem lifted (os : Os) (started : os.Started) (H : Type) (enc : TypeId × Value → H) :
    ReturnsInHanded {} Try.checked os 4 .any (Rows.lineindexOffsetsSpec.pre6 enc Try.prog Try.f4 Rows.lineindexOffsetsRow.domain false) (Rows.lineindexOffsetsSpec.post enc Try.prog Try.f4 false true false false) := by
  refine Go.Frame.lifted (C := Try.checked) (tb := 4) own started (by kernel_rfl) Try.func4
    (ChangeSpec.witness6 (enc := enc) (C := Try.checked) false ⟨#[], #[.string ByteArray.empty, .agg #[.int .i64 0, .int .i64 0], .int .i64 0], []⟩ 8 (by kernel_rfl) (by kernel_rfl) (by kernel_rfl) (by kernel_rfl))
    laidOut (by kernel_rfl) (by kernel_rfl) Try.underlying4 rfl ?_ ?_
  · intro ds h
    have h : ds.length = 3 := h
    match ds, h with
    | [_, _, _], _ => rfl
  · intro W base args ds p hlen hval0 hA hsz0
    have hval : ∀ (j : Nat) t v, Try.f4.params[j]? = some t → args[j]? = some v → Value.okWide Try.prog W .any base t v := hval0
    have hA : DataW.TrodAll enc Try.prog W 0 (fun _ => true) true Try.f4.params.toList args.toList ds p := hA
    have hsz : (DataW.weightsEach Try.prog Try.f4.params.toList ds).all (· ≤ reachBytes) = true := hsz0
    rw [Try.params4] at hA hval hsz
    obtain ⟨v0, vs0, d0, ds0, p0, q0, hargs, hds, _, th0, tr0⟩ := trodAll_cons hA
    obtain ⟨v1, vs1, d1, ds1, p1, q1, rfl, rfl, _, th1, tr1⟩ := trodAll_cons tr0
    obtain ⟨v2, vs2, d2, ds2, p2, q2, rfl, rfl, _, th2, tr2⟩ := trodAll_cons tr1
    obtain ⟨rfl, rfl, _⟩ := trodAll_nil tr2
    obtain rfl : args = #[v0, v1, v2] := by cases args; simp_all
    subst hds
    obtain ⟨t0, rfl, _, _, _⟩ := open_string Try.underlying9 (hval 0 9 v0 rfl rfl) th0
    obtain ⟨a1, c1, rfl, ha1, hc1⟩ := open_pos (hval 1 30 v1 rfl rfl) th1
    obtain ⟨n2, rfl⟩ := okWide_int Try.underlying3 (hval 2 3 v2 rfl rfl)
    exact walk t0 a1 c1 n2 W ha1 hc1

theorem over : Rows.lineindexOffsetsRow.holds Try.pinned (OpenSpec.ofChange Rows.lineindexOffsetsSpec) :=
  OpenClaim.holds_of_wide 4 Try.f4 rfl rfl rfl rfl rfl rfl rfl ⟨rfl, rfl, rfl, rfl, rfl⟩ rfl rfl rfl rfl rfl (by kernel_rfl) Try.func4 (by kernel_rfl)
    (of_decide_eq_true (by kernel_rfl)) (by unfold Func.isWrapper; first | (rw [if_pos (by decide +kernel)]; kernel_rfl) | (rw [if_neg (by decide +kernel)]; exact ⟨rfl, rfl⟩))
    (fun os started H enc _ => lifted os started H enc)

/-- THE STATEMENT -/
theorem proved : Rows.LineindexOffsetsSaid :=
  over
#print axioms proved
end Go.Proofs.Ytcmoehjalgppmaa.lineindexOffsets
