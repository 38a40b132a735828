/-
  AnchorOrder, for every input: the law returns true and leaves its arguments as they read. No condition.
-/
import Derived.Test.YtcfcbemfnibaeaaD
namespace Go.Proofs.Ytcfcbemfnibaeaa.anchorOrder
open Go.ChangeShapes Go.WideShapes Go.ChangeAt Go.RowKit Go.Frame
open Go.ChangeMaps (open_string shut_string)

theorem field0 (w : World) (v : Int) (b : Bool) : (Instr.field 23 (.agg #[.int .i64 v, .bool b]) 0).run Try.prog w = .ok (.int .i64 v) w := by kernel_rfl
theorem mv_mono {o0 o1 a d : Int} {r0 r1 : Bool} {n : Nat} (h : o0 ≤ o1) (hr : r0 = true → r1 = true) (hn : (0 : Int) ≤ n) : mv o0 r0 a d n ≤ mv o1 r1 a d n := by
  unfold mv
  repeat' split
  all_goals first | omega | simp_all

set_option maxRecDepth 100000 in
set_option maxHeartbeats 2000000 in
theorem walk (o0 : Int) (r0 : Bool) (o1 : Int) (r1 : Bool) (a d : Int) (s : ByteArray) (w : World) (_hs : s.size ≤ maxLen) :
    Calls Try.prog 6 #[.agg #[.int .i64 o0, .bool r0], .agg #[.int .i64 o1, .bool r1], .agg #[.int .i64 a, .int .i64 d, .string s]] w fun e w' => e = .returned (.bool true) ∧ Below w.heap.size w w' := by
  obtain ⟨W, hW⟩ : ∃ W, W = (((w.alloc (.cells #[.int .i64 o0, .bool r0] 23)).alloc (.cells #[.int .i64 o1, .bool r1] 23)).alloc (.cells #[.int .i64 a, .int .i64 d, .string s] 25)) := ⟨_, rfl⟩
  have bW : Below w.heap.size w W := by rw [hW]; exact ((((Below.refl _ _).alloc (Nat.le_refl _) _).alloc (by simp) _).alloc (by simp; omega) _)
  have hx0 : W.heap[w.heap.size]? = some (.cells #[.int .i64 o0, .bool r0] 23 (0, 0)) := by rw [hW]; exact blk_alloc (blk_alloc (alloc_new _ _))
  have K0 := hid (show ∀ W', Below W.heap.size W W' → W'.cell? ⟨w.heap.size, 0, none⟩ = some (.int .i64 o0) ∧ W'.cell? ⟨w.heap.size, 1, none⟩ = some (.bool r0) from fun W' hb => cells2 ((hb.block _ (heap_lt hx0)).trans hx0))
  have hx1 : W.heap[w.heap.size + 1]? = some (.cells #[.int .i64 o1, .bool r1] 23 (0, 0)) := by rw [hW]; exact blk_alloc (alloc_at _ _ (by simp; done))
  have K1 := hid (show ∀ W', Below W.heap.size W W' → W'.cell? ⟨w.heap.size + 1, 0, none⟩ = some (.int .i64 o1) ∧ W'.cell? ⟨w.heap.size + 1, 1, none⟩ = some (.bool r1) from fun W' hb => cells2 ((hb.block _ (heap_lt hx1)).trans hx1))
  have hx2 : W.heap[w.heap.size + 2]? = some (.cells #[.int .i64 a, .int .i64 d, .string s] 25 (0, 0)) := by rw [hW]; exact alloc_at _ _ (by simp; done)
  have K2 := hid (show ∀ W', Below W.heap.size W W' → W'.cell? ⟨w.heap.size + 2, 0, none⟩ = some (.int .i64 a) ∧ W'.cell? ⟨w.heap.size + 2, 1, none⟩ = some (.int .i64 d) ∧ W'.cell? ⟨w.heap.size + 2, 2, none⟩ = some (.string s) from fun W' hb => cells3 ((hb.block _ (heap_lt hx2)).trans hx2))
  have HW := hid hW
  have hle := bW.size
  clear hx0 hx1 hx2 hW
  by_cases h0 : SmallP o0 a d s.size
  · have H0 := hid h0
    have M0 := hid h0.mid
    clear h0
    by_cases h1 : SmallP o1 a d s.size
    · have H1 := hid h1
      have M1 := hid h1.mid
      clear h1
      by_cases hc : o1 < o0 ∨ (r0 = true ∧ r1 = false)
      · rcases hc with hc | ⟨rfl, rfl⟩
        · go_enter Try.func6, Try.ntmps6
          obtain ⟨k00, k01⟩ := K0.out _ (Below.refl _ W)
          obtain ⟨k10, k11⟩ := K1.out _ (Below.refl _ W)
          obtain ⟨k20, k21, k22⟩ := K2.out _ (Below.refl _ W)
          go_wp2_with fail
          rw [← HW.out]
          refine (small_yes _ _ _ _ _ _ H0.out).mono ?_
          rintro e w1 ⟨rfl, hb1⟩
          obtain ⟨k00, k01⟩ := K0.out _ hb1
          obtain ⟨k10, k11⟩ := K1.out _ hb1
          obtain ⟨k20, k21, k22⟩ := K2.out _ hb1
          go_wp2_with fail
          refine (small_yes _ _ _ _ _ _ H1.out).mono ?_
          rintro e w2 ⟨rfl, hb2'⟩
          have hb2 := hb1.trans (hb2'.mono hb1.size)
          obtain ⟨k00, k01⟩ := K0.out _ hb2
          obtain ⟨k10, k11⟩ := K1.out _ hb2
          obtain ⟨k20, k21, k22⟩ := K2.out _ hb2
          go_wp2_with fail
          refine (awake_any _).mono ?_
          rintro e w9 ⟨rfl, hb9⟩
          go_wp2
          go_ret
          exact ⟨rfl, bW.trans ((hb2.trans (hb9.mono hb2.size)).mono hle)⟩
        · by_cases hq : o1 < o0
          all_goals
            (try (have hq' : o0 ≤ o1 := by omega))
            go_enter Try.func6, Try.ntmps6
            obtain ⟨k00, k01⟩ := K0.out _ (Below.refl _ W)
            obtain ⟨k10, k11⟩ := K1.out _ (Below.refl _ W)
            obtain ⟨k20, k21, k22⟩ := K2.out _ (Below.refl _ W)
            go_wp2_with fail
            rw [← HW.out]
            refine (small_yes _ _ _ _ _ _ H0.out).mono ?_
            rintro e w1 ⟨rfl, hb1⟩
            obtain ⟨k00, k01⟩ := K0.out _ hb1
            obtain ⟨k10, k11⟩ := K1.out _ hb1
            obtain ⟨k20, k21, k22⟩ := K2.out _ hb1
            go_wp2_with fail
            refine (small_yes _ _ _ _ _ _ H1.out).mono ?_
            rintro e w2 ⟨rfl, hb2'⟩
            have hb2 := hb1.trans (hb2'.mono hb1.size)
            obtain ⟨k00, k01⟩ := K0.out _ hb2
            obtain ⟨k10, k11⟩ := K1.out _ hb2
            obtain ⟨k20, k21, k22⟩ := K2.out _ hb2
            go_wp2_with fail
            refine (awake_any _).mono ?_
            rintro e w9 ⟨rfl, hb9⟩
            go_wp2
            go_ret
            exact ⟨rfl, bW.trans ((hb2.trans (hb9.mono hb2.size)).mono hle)⟩
      · have hc1 : o0 ≤ o1 := by omega
        have hfin := hid (mv_mono (o0 := o0) (o1 := o1) (r0 := r0) (r1 := r1) (a := a) (d := d) (n := s.size) hc1 (fun h => by cases r1 <;> simp_all) (by omega))
        have hcr : r0 = false ∨ r1 = true := by cases r0 <;> cases r1 <;> simp_all
        clear hc
        rcases hcr with rfl | rfl
        all_goals
          (try (rcases Bool.eq_false_or_eq_true r0 with rfl | rfl))
        all_goals
          go_enter Try.func6, Try.ntmps6
          obtain ⟨k00, k01⟩ := K0.out _ (Below.refl _ W)
          obtain ⟨k10, k11⟩ := K1.out _ (Below.refl _ W)
          obtain ⟨k20, k21, k22⟩ := K2.out _ (Below.refl _ W)
          go_wp2_with fail
          rw [← HW.out]
          refine (small_yes _ _ _ _ _ _ H0.out).mono ?_
          rintro e w1 ⟨rfl, hb1⟩
          obtain ⟨k00, k01⟩ := K0.out _ hb1
          obtain ⟨k10, k11⟩ := K1.out _ hb1
          obtain ⟨k20, k21, k22⟩ := K2.out _ hb1
          go_wp2_with fail
          refine (small_yes _ _ _ _ _ _ H1.out).mono ?_
          rintro e w2 ⟨rfl, hb2'⟩
          have hb2 := hb1.trans (hb2'.mono hb1.size)
          obtain ⟨k00, k01⟩ := K0.out _ hb2
          obtain ⟨k10, k11⟩ := K1.out _ hb2
          obtain ⟨k20, k21, k22⟩ := K2.out _ hb2
          go_wp2_with fail
          have Hb := hid (show ∀ W', Below w2.heap.size w2 W' → Below W.heap.size W W' from fun W' h => hb2.trans (h.mono hb2.size))
          refine wp_region_below (by kernel_rfl) (by kernel_rfl) ?_
          intro X f _ hf hs
          clear k00 k01 k10 k11 k20 k21 k22
          have k00 := fun x => (K0.out _ (Hb.out _ (hf.out x))).1
          have k01 := fun x => (K0.out _ (Hb.out _ (hf.out x))).2
          have k10 := fun x => (K1.out _ (Hb.out _ (hf.out x))).1
          have k11 := fun x => (K1.out _ (Hb.out _ (hf.out x))).2
          have k20 := fun x => (K2.out _ (Hb.out _ (hf.out x))).1
          have k21 := fun x => (K2.out _ (Hb.out _ (hf.out x))).2.1
          have k22 := fun x => (K2.out _ (Hb.out _ (hf.out x))).2.2
          have hfi := hfin.out
          have hfl : ∀ (w : World) (v : Int) (b : Bool), (Instr.field 23 (.agg #[.int .i64 v, .bool b]) 0).run Try.prog w = .ok (.int .i64 v) w := field0
          repeat (go_big_quiet_step (first
            | (go_at_call 9; exact calls_below hf hs (awake_any _))
            | (go_at_call 10; with_reducible exact calls_below hf hs (move_any o0 _ _ _ _ _ M0.out))
            | (go_at_call 10; with_reducible exact calls_below hf hs (move_any o1 _ _ _ _ _ M1.out))))
          refine wpQuiet_nil ?_
          intro w' hw'
          go_wp2
          go_ret
          exact ⟨rfl, bW.trans ((Hb.out _ hw').mono hle)⟩
    · have H1 := hid h1
      clear h1
      go_enter Try.func6, Try.ntmps6
      obtain ⟨k00, k01⟩ := K0.out _ (Below.refl _ W)
      obtain ⟨k10, k11⟩ := K1.out _ (Below.refl _ W)
      obtain ⟨k20, k21, k22⟩ := K2.out _ (Below.refl _ W)
      go_wp2_with fail
      rw [← HW.out]
      refine (small_yes _ _ _ _ _ _ H0.out).mono ?_
      rintro e w1 ⟨rfl, hb1⟩
      obtain ⟨k00, k01⟩ := K0.out _ hb1
      obtain ⟨k10, k11⟩ := K1.out _ hb1
      obtain ⟨k20, k21, k22⟩ := K2.out _ hb1
      go_wp2_with fail
      refine (small_no _ _ _ _ _ _ H1.out).mono ?_
      rintro e w2 ⟨rfl, hb2'⟩
      have hb2 := hb1.trans (hb2'.mono hb1.size)
      go_wp2_with fail
      refine (awake_any _).mono ?_
      rintro e w9 ⟨rfl, hb9⟩
      go_wp2
      go_ret
      exact ⟨rfl, bW.trans ((hb2.trans (hb9.mono hb2.size)).mono hle)⟩
  · have H0 := hid h0
    clear h0
    go_enter Try.func6, Try.ntmps6
    obtain ⟨k00, k01⟩ := K0.out _ (Below.refl _ W)
    obtain ⟨k10, k11⟩ := K1.out _ (Below.refl _ W)
    obtain ⟨k20, k21, k22⟩ := K2.out _ (Below.refl _ W)
    go_wp2_with fail
    rw [← HW.out]
    refine (small_no _ _ _ _ _ _ H0.out).mono ?_
    rintro e w1 ⟨rfl, hb1⟩
    go_wp2_with fail
    refine (awake_any _).mono ?_
    rintro e w9 ⟨rfl, hb9⟩
    go_wp2
    go_ret
    exact ⟨rfl, bW.trans ((hb1.trans (hb9.mono hb1.size)).mono hle)⟩

theorem lifted (os : Os) (started : os.Started) (H : Type) (enc : TypeId × Value → H) :
    ReturnsInHanded {} Try.checked os 6 .any (Rows.anchorOrderSpec.pre6 enc Try.prog Try.f6 Rows.anchorOrderRow.domain false) (Rows.anchorOrderSpec.post enc Try.prog Try.f6 false true false false) := by
  refine Go.Frame.lifted (C := Try.checked) (tb := 4) own started (by kernel_rfl) Try.func6
    (ChangeSpec.witness6 (enc := enc) (C := Try.checked) false ⟨#[], #[.agg #[.int .i64 0, .bool false], .agg #[.int .i64 0, .bool false], .agg #[.int .i64 0, .int .i64 0, .string ByteArray.empty]], []⟩ 8 (by kernel_rfl) (by kernel_rfl) (by kernel_rfl) (by kernel_rfl))
    laidOut (by kernel_rfl) (by kernel_rfl) Try.underlying4 rfl ?_ ?_
  · intro ds h
    have h : ds.length = 3 := h
    match ds, h with
    | [_, _, _], _ => rfl
  · intro W base args ds p hlen hval0 hA hsz0
    have hval : ∀ (j : Nat) t v, Try.f6.params[j]? = some t → args[j]? = some v → Value.okWide Try.prog W .any base t v := hval0
    have hA : DataW.TrodAll enc Try.prog W 0 (fun _ => true) true Try.f6.params.toList args.toList ds p := hA
    have hsz : (DataW.weightsEach Try.prog Try.f6.params.toList ds).all (· ≤ reachBytes) = true := hsz0
    rw [Try.params6] at hA hval hsz
    obtain ⟨v0, vs0, d0, ds0, p0, q0, hargs, hds, _, th0, tr0⟩ := trodAll_cons hA
    obtain ⟨v1, vs1, d1, ds1, p1, q1, rfl, rfl, _, th1, tr1⟩ := trodAll_cons tr0
    obtain ⟨v2, vs2, d2, ds2, p2, q2, rfl, rfl, _, th2, tr2⟩ := trodAll_cons tr1
    obtain ⟨rfl, rfl, _⟩ := trodAll_nil tr2
    obtain rfl : args = #[v0, v1, v2] := by cases args; simp_all
    subst hds
    obtain ⟨o0, r0, rfl⟩ := open_anchor (hval 0 23 v0 rfl rfl) th0
    obtain ⟨o1, r1, rfl⟩ := open_anchor (hval 1 23 v1 rfl rfl) th1
    obtain ⟨a, d, s, rfl, hs⟩ := open_edit (hval 2 25 v2 rfl rfl) th2
    exact walk o0 r0 o1 r1 a d s W hs

theorem over : Rows.anchorOrderRow.holds Try.pinned (OpenSpec.ofChange Rows.anchorOrderSpec) :=
  OpenClaim.holds_of_wide 6 Try.f6 rfl rfl rfl rfl rfl rfl rfl ⟨rfl, rfl, rfl, rfl, rfl⟩ rfl rfl rfl rfl rfl (by kernel_rfl) Try.func6 (by kernel_rfl)
    (of_decide_eq_true (by kernel_rfl)) (by unfold Func.isWrapper; first | (rw [if_pos (by decide +kernel)]; kernel_rfl) | (rw [if_neg (by decide +kernel)]; exact ⟨rfl, rfl⟩))
    (fun os started H enc _ => lifted os started H enc)

/-- THE STATEMENT -/
theorem proved : Rows.AnchorOrderSaid :=
  over
#print axioms proved
end Go.Proofs.Ytcfcbemfnibaeaa.anchorOrder
