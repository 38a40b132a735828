/-
  AnchorMove, for every input: the law returns true and leaves its arguments as they read. No condition.
-/
import Derived.Test.YtcfcbemfnibaeaaD
namespace Go.Proofs.Ytcfcbemfnibaeaa.anchorMove
open Go.ChangeShapes Go.WideShapes Go.ChangeAt Go.RowKit Go.Frame
open Go.ChangeMaps (open_string shut_string)

set_option maxRecDepth 100000 in
set_option maxHeartbeats 1000000 in
theorem walk (o : Int) (r : Bool) (a d : Int) (s : ByteArray) (w : World) (_hs : s.size ≤ maxLen) :
    Calls Try.prog 3 #[.agg #[.int .i64 o, .bool r], .agg #[.int .i64 a, .int .i64 d, .string s]] w fun e w' => e = .returned (.bool true) ∧ Below w.heap.size w w' := by
  obtain ⟨W, hW⟩ : ∃ W, W = (w.alloc (.cells #[.int .i64 o, .bool r] 23)).alloc (.cells #[.int .i64 a, .int .i64 d, .string s] 25) := ⟨_, rfl⟩
  have bW : Below w.heap.size w W := by rw [hW]; exact ((Below.refl _ _).alloc (Nat.le_refl _) _).alloc (by simp) _
  have hx : W.heap[w.heap.size]? = some (.cells #[.int .i64 o, .bool r] 23 (0, 0)) := by rw [hW]; exact blk_alloc (alloc_new _ _)
  have hy : W.heap[w.heap.size + 1]? = some (.cells #[.int .i64 a, .int .i64 d, .string s] 25 (0, 0)) := by rw [hW]; exact alloc_at _ _ (by simp)
  have KA := hid (show ∀ W', Below W.heap.size W W' → W'.cell? ⟨w.heap.size, 0, none⟩ = some (.int .i64 o) ∧ W'.cell? ⟨w.heap.size, 1, none⟩ = some (.bool r) from fun W' hb => cells2 ((hb.block _ (heap_lt hx)).trans hx))
  have KE := hid (show ∀ W', Below W.heap.size W W' → W'.cell? ⟨w.heap.size + 1, 0, none⟩ = some (.int .i64 a) ∧ W'.cell? ⟨w.heap.size + 1, 1, none⟩ = some (.int .i64 d) ∧ W'.cell? ⟨w.heap.size + 1, 2, none⟩ = some (.string s) from fun W' hb => cells3 ((hb.block _ (heap_lt hy)).trans hy))
  have HW := hid hW
  have hle := bW.size
  clear hx hy hW
  by_cases h : SmallP o a d s.size
  · have H := hid h
    have HM := hid h.mid
    obtain ⟨k0, k1⟩ := KA.out _ (Below.refl _ W)
    obtain ⟨e0, e1, e2⟩ := KE.out _ (Below.refl _ W)
    clear h
    go_enter Try.func3, Try.ntmps3
    go_wp2_with fail
    rw [← HW.out]
    refine (small_yes _ _ _ _ _ _ H.out).mono ?_
    rintro e w1 ⟨rfl, hb1⟩
    have H1 := hid (show ∀ W', Below w1.heap.size w1 W' → Below W.heap.size W W' from fun W' h => hb1.trans (h.mono hb1.size))
    go_wp2_with fail
    refine wp_region_below (by kernel_rfl) (by kernel_rfl) ?_
    intro X f _ hf hs
    have k0 := fun x => (KA.out _ (H1.out _ (hf.out x))).1
    have k1 := fun x => (KA.out _ (H1.out _ (hf.out x))).2
    have e0 := fun x => (KE.out _ (H1.out _ (hf.out x))).1
    have e1 := fun x => (KE.out _ (H1.out _ (hf.out x))).2.1
    have e2 := fun x => (KE.out _ (H1.out _ (hf.out x))).2.2
    repeat (go_big_quiet_step (first
      | (go_at_call 9; exact calls_below hf hs (awake_any _))
      | (go_at_call 10; exact calls_below hf hs (move_any _ _ _ _ _ _ HM.out))
      | (go_at_call 11; exact calls_below hf hs (rmove_any _ _ _ _ _ _ HM.out))))
    refine wpQuiet_nil ?_
    intro w' hw'
    go_wp2
    go_ret
    exact ⟨rfl, bW.trans ((H1.out _ hw').mono hle)⟩
  · have H := hid h
    obtain ⟨k0, k1⟩ := KA.out _ (Below.refl _ W)
    obtain ⟨e0, e1, e2⟩ := KE.out _ (Below.refl _ W)
    clear h
    go_enter Try.func3, Try.ntmps3
    go_wp2_with fail
    rw [← HW.out]
    refine (small_no _ _ _ _ _ _ H.out).mono ?_
    rintro e w1 ⟨rfl, hb1⟩
    go_wp2_with fail
    refine (awake_any _).mono ?_
    rintro e w2 ⟨rfl, hb2⟩
    go_wp2
    go_ret
    exact ⟨rfl, bW.trans ((hb1.trans (hb2.mono hb1.size)).mono hle)⟩


theorem lifted (os : Os) (started : os.Started) (H : Type) (enc : TypeId × Value → H) :
    ReturnsInHanded {} Try.checked os 3 .any (Rows.anchorMoveSpec.pre6 enc Try.prog Try.f3 Rows.anchorMoveRow.domain false) (Rows.anchorMoveSpec.post enc Try.prog Try.f3 false true false false) := by
  refine Go.Frame.lifted (C := Try.checked) (tb := 4) own started (by kernel_rfl) Try.func3
    (ChangeSpec.witness6 (enc := enc) (C := Try.checked) false ⟨#[], #[.agg #[.int .i64 0, .bool false], .agg #[.int .i64 0, .int .i64 0, .string ByteArray.empty]], []⟩ 8 (by kernel_rfl) (by kernel_rfl) (by kernel_rfl) (by kernel_rfl))
    laidOut (by kernel_rfl) (by kernel_rfl) Try.underlying4 rfl ?_ ?_
  · intro ds h
    have h : ds.length = 2 := h
    match ds, h with
    | [_, _], _ => rfl
  · intro W base args ds p hlen hval0 hA hsz0
    have hval : ∀ (j : Nat) t v, Try.f3.params[j]? = some t → args[j]? = some v → Value.okWide Try.prog W .any base t v := hval0
    have hA : DataW.TrodAll enc Try.prog W 0 (fun _ => true) true Try.f3.params.toList args.toList ds p := hA
    have hsz : (DataW.weightsEach Try.prog Try.f3.params.toList ds).all (· ≤ reachBytes) = true := hsz0
    rw [Try.params3] at hA hval hsz
    obtain ⟨v0, vs0, d0, ds0, p0, q0, hargs, hds, _, th0, tr0⟩ := trodAll_cons hA
    obtain ⟨v1, vs1, d1, ds1, p1, q1, rfl, rfl, _, th1, tr1⟩ := trodAll_cons tr0
    obtain ⟨rfl, rfl, _⟩ := trodAll_nil tr1
    obtain rfl : args = #[v0, v1] := by cases args; simp_all
    subst hds
    obtain ⟨o0, r0, rfl⟩ := open_anchor (hval 0 23 v0 rfl rfl) th0
    obtain ⟨a, d, s, rfl, hs⟩ := open_edit (hval 1 25 v1 rfl rfl) th1
    exact walk o0 r0 a d s W hs

theorem over : Rows.anchorMoveRow.holds Try.pinned (OpenSpec.ofChange Rows.anchorMoveSpec) :=
  OpenClaim.holds_of_wide 3 Try.f3 rfl rfl rfl rfl rfl rfl rfl ⟨rfl, rfl, rfl, rfl, rfl⟩ rfl rfl rfl rfl rfl (by kernel_rfl) Try.func3 (by kernel_rfl)
    (of_decide_eq_true (by kernel_rfl)) (by unfold Func.isWrapper; first | (rw [if_pos (by decide +kernel)]; kernel_rfl) | (rw [if_neg (by decide +kernel)]; exact ⟨rfl, rfl⟩))
    (fun os started H enc _ => lifted os started H enc)

/-- THE STATEMENT -/
theorem proved : Rows.AnchorMoveSaid :=
  over
#print axioms proved
end Go.Proofs.Ytcfcbemfnibaeaa.anchorMove
