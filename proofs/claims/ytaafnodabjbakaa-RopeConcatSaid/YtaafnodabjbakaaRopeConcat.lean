/-
  RopeConcat, for every input: the law returns true and leaves its arguments as they read. No condition.
-/
import Derived.Test.YtaafnodabjbakaaRows
import Derived.Test.YtaafnodabjbakaaZ
import Derived.WalkKit
import Derived.ProofKit
import Derived.OpenShut
import Derived.ShutString
namespace Go.Proofs.Ytaafnodabjbakaa.ropeConcat
open Go.ChangeShapes Go.WideShapes Go.ChangeAt Go.RowKit
open Go.ChangeMaps (open_string shut_string)
set_option linter.unusedVariables false      -- a walk need not use every 'w<i>' (that an integer argument fits its kind)

theorem own : ownKnob Try.prog.godebug = none := by kernel_rfl

set_option maxRecDepth 100000 in
set_option maxHeartbeats 4000000 in
theorem main (a0 a1 a2 : ByteArray) (w : World) (h0 : a0.size ≤ 1000) (h1 : a1.size ≤ 1000) (h2 : a2.size ≤ 1000) :
    Calls Try.prog 4 #[.string a0, .string a1, .string a2] w fun e w' => e = .returned (.bool true) ∧ Below w.heap.size w w' := by
  have i0 : (a0.size : Int) ≤ 1000 := by omega
  have i1 : (a1.size : Int) ≤ 1000 := by omega
  have i2 : (a2.size : Int) ≤ 1000 := by omega
  have T1 := hid (show (a0 ++ a1 ++ a2).data.toList = (a0.data.toList ++ a1.data.toList) ++ a2.data.toList by simp only [ByteArray.data_append, Array.toList_append])
  have T2 := hid (show (a0 ++ a1 ++ a2).data.toList = a0.data.toList ++ (a1.data.toList ++ a2.data.toList) by simp only [ByteArray.data_append, Array.toList_append, List.append_assoc])
  have z01 : (a0 ++ a1).size ≤ 2000 := by rw [ByteArray.size_append]; omega
  have z012 : (a0 ++ a1 ++ a2).size ≤ 3000 := by rw [ByteArray.size_append, ByteArray.size_append]; omega
  have l0 : a0.data.toList.length ≤ 1000 := by simpa using h0
  have l1 : a1.data.toList.length ≤ 1000 := by simpa using h1
  have l2 : a2.data.toList.length ≤ 1000 := by simpa using h2
  have n01 : ¬ 9223372036854775807 < a0.size + a1.size := by omega
  have n012 : ¬ 9223372036854775807 < a0.size + a1.size + a2.size := by omega
  have n012' : ¬ 9223372036854775807 < (a0 ++ a1).size + a2.size := by omega
  have L0 := hid l0
  have L1 := hid l1
  have L2 := hid l2
  clear l0 l1 l2
  go_enter Try.func4, Try.ntmps4
  go_wp2_with fail
  refine (New_any a0 w (by omega)).mono ?_
  rintro e w1 ⟨p, rfl, hp1, hb1⟩
  go_wp2_with fail
  refine (New_any a1 w1 (by omega)).mono ?_
  rintro e w2 ⟨q, rfl, hq2, hb2⟩
  go_wp2_with fail
  refine (New_any a2 w2 (by omega)).mono ?_
  rintro e w3 ⟨r, rfl, hr3, hb3⟩
  have hp3 := (hp1.below hb2).below hb3
  have hq3 := hq2.below hb3
  have hb := hb1.trans ((hb2.trans (hb3.mono hb2.size)).mono hb1.size)
  clear hp1 hq2 hb1 hb2 hb3
  obtain ⟨W, hW⟩ : ∃ W : World, W = (((w3.alloc (.cells #[.pointer p] 26)).alloc (.cells #[.pointer q] 26)).alloc (.cells #[.pointer r] 26)).alloc (.cells #[.pointer none] 26) := ⟨_, rfl⟩
  have bW : Below w3.heap.size w3 W := by rw [hW]; exact ((((Below.refl _ _).alloc (Nat.le_refl _) _).alloc (by first | (simp; done) | (simp; omega)) _).alloc (by first | (simp; done) | (simp; omega)) _).alloc (by first | (simp; done) | (simp; omega)) _
  have x0 : W.heap[w3.heap.size]? = some (.cells #[.pointer p] 26 (0, 0)) := by
    rw [hW, Below.heap_alloc _ _ _ (by first | (simp; done) | (simp; omega)), Below.heap_alloc _ _ _ (by first | (simp; done) | (simp; omega)), Below.heap_alloc _ _ _ (by first | (simp; done) | (simp; omega))]; exact alloc_new _ _
  have x1 : W.heap[w3.heap.size + 1]? = some (.cells #[.pointer q] 26 (0, 0)) := by
    rw [hW, Below.heap_alloc _ _ _ (by first | (simp; done) | (simp; omega)), Below.heap_alloc _ _ _ (by first | (simp; done) | (simp; omega))]
    have := alloc_new (w3.alloc (.cells #[.pointer p] 26)) (.cells #[.pointer q] 26)
    simpa using this
  have x2 : W.heap[w3.heap.size + 1 + 1]? = some (.cells #[.pointer r] 26 (0, 0)) := by
    rw [hW, Below.heap_alloc _ _ _ (by first | (simp; done) | (simp; omega))]
    have := alloc_new ((w3.alloc (.cells #[.pointer p] 26)).alloc (.cells #[.pointer q] 26)) (.cells #[.pointer r] 26)
    simpa using this
  have x3 : W.heap[w3.heap.size + 1 + 1 + 1]? = some (.cells #[.pointer none] 26 (0, 0)) := by
    rw [hW]
    have := alloc_new (((w3.alloc (.cells #[.pointer p] 26)).alloc (.cells #[.pointer q] 26)).alloc (.cells #[.pointer r] 26)) (.cells #[.pointer none] 26)
    simpa using this
  have Keep := hid (show ∀ W', Below W.heap.size W W' → W'.cell? ⟨w3.heap.size, 0, none⟩ = some (.pointer p) ∧ W'.cell? ⟨w3.heap.size + 1, 0, none⟩ = some (.pointer q) ∧
      W'.cell? ⟨w3.heap.size + 1 + 1, 0, none⟩ = some (.pointer r) ∧ W'.cell? ⟨w3.heap.size + 1 + 1 + 1, 0, none⟩ = some (.pointer none) from fun W' hb =>
    ⟨cell_of_one ((hb.block _ (heap_lt x0)).trans x0), cell_of_one ((hb.block _ (heap_lt x1)).trans x1), cell_of_one ((hb.block _ (heap_lt x2)).trans x2), cell_of_one ((hb.block _ (heap_lt x3)).trans x3)⟩)
  obtain ⟨k0, k1, k2, k3⟩ := Keep.out _ (Below.refl _ W)
  have HW := hid hW
  have hp := hp3.below bW
  have hq := hq3.below bW
  have hr := hr3.below bW
  have bwW := hb.trans (bW.mono hb.size)
  have hle := bwW.size
  clear x0 x1 x2 x3 hW hp3 hq3 hr3 bW hb
  go_upto_region 5 with fail
  rw [← HW.out]
  go_region_held3 (fun W' => W'.cell? ⟨w3.heap.size, 0, none⟩ = some (.pointer p) ∧ W'.cell? ⟨w3.heap.size + 1, 0, none⟩ = some (.pointer q) ∧
      W'.cell? ⟨w3.heap.size + 1 + 1, 0, none⟩ = some (.pointer r) ∧ W'.cell? ⟨w3.heap.size + 1 + 1 + 1, 0, none⟩ = some (.pointer none))
    (first | exact ⟨k0, k1, k2, k3⟩ | exact Keep.out _ ‹_›)
    (first
      | (go_at_call 11; (with_reducible refine (awake_any W.drew).mono ?_); rintro e y1 ⟨rfl, g1'⟩; have g1 := undrew g1')
      | (go_at_call 14; (with_reducible refine (Concat_any p q _ _ y1 (hp.below g1) (hq.below g1) ?_).mono ?_); (have := L0.out; have := L1.out; omega); rintro e y2 ⟨r2, rfl, s2, g2'⟩; have g2 := g1.trans (g2'.mono g1.size))
      | (go_at_call 14; (with_reducible refine (Concat_any r2 r _ _ y2 s2 (hr.below g2) ?_).mono ?_); (have := L0.out; have := L1.out; have := L2.out; rw [List.length_append]; omega); rintro e y3 ⟨r3, rfl, s3, g3'⟩; have g3 := g2.trans (g3'.mono g2.size))
      | (go_at_call 12; (with_reducible refine (holds_ok r3 (a0 ++ a1 ++ a2) y3 ?_ ?_).mono ?_); (rw [T1.out]; exact s3); omega; rintro e y4 ⟨rfl, g4'⟩; have g4 := g3.trans (g4'.mono g3.size))
      | (go_at_call 14; (with_reducible refine (Concat_any q r _ _ y4 (hq.below g4) (hr.below g4) ?_).mono ?_); (have := L2.out; have := L1.out; omega); rintro e y5 ⟨r5, rfl, s5, g5'⟩; have g5 := g4.trans (g5'.mono g4.size))
      | (go_at_call 14; (with_reducible refine (Concat_any p r5 _ _ y5 (hp.below g5) s5 ?_).mono ?_); (have := L0.out; have := L1.out; have := L2.out; rw [List.length_append]; omega); rintro e y6 ⟨r6, rfl, s6, g6'⟩; have g6 := g5.trans (g6'.mono g5.size))
      | (go_at_call 12; (with_reducible refine (holds_ok r6 (a0 ++ a1 ++ a2) y6 ?_ ?_).mono ?_); (rw [T2.out]; exact s6); omega; rintro e y7 ⟨rfl, g7'⟩; have g7 := g6.trans (g7'.mono g6.size))
      | (go_at_call 14; (with_reducible refine (Concat_any none p _ _ y7 (rope_none y7) (hp.below g7) ?_).mono ?_); (have := L0.out; simp; omega); rintro e y8 ⟨r8, rfl, s8, g8'⟩; have g8 := g7.trans (g8'.mono g7.size))
      | (go_at_call 12; (with_reducible refine (holds_ok r8 a0 y8 ?_ ?_).mono ?_); exact s8; omega; rintro e y9 ⟨rfl, g9'⟩; have g9 := g8.trans (g9'.mono g8.size))
      | (go_at_call 14; (with_reducible refine (Concat_any p none _ _ y9 (hp.below g9) (rope_none y9) ?_).mono ?_); (have := L0.out; simp; omega); rintro e y10 ⟨r10, rfl, s10, g10'⟩; have g10 := g9.trans (g10'.mono g9.size))
      | (go_at_call 12; (with_reducible refine (holds_ok r10 a0 y10 ?_ ?_).mono ?_); (simpa using s10); omega; rintro e y11 ⟨rfl, g11'⟩; have g11 := g10.trans (g11'.mono g10.size))
      | (go_at_call 12; (with_reducible refine (holds_ok none ⟨#[]⟩ y11 ?_ ?_).mono ?_); exact rope_none y11; decide; rintro e y12 ⟨rfl, g12'⟩; have g12 := g11.trans (g12'.mono g11.size)))
  go_wp2
  go_ret
  exact ⟨rfl, bwW.trans (g12.mono hle)⟩

theorem walk (a0 a1 a2 : ByteArray) (w : World) :
    Calls Try.prog 4 #[.string a0, .string a1, .string a2] w fun e w' => e = .returned (.bool true) ∧ Below w.heap.size w w' := by
  by_cases h0 : 1000 < a0.size
  · have i0 : (1000 : Int) < (a0.size : Int) := by omega
    go_enter Try.func4, Try.ntmps4
    go_wp2_with (go_at_call 11; refine (awake_any w).mono ?_; rintro e w1 ⟨rfl, hb1⟩)
    go_ret
    exact ⟨rfl, hb1⟩
  · have i0 : (a0.size : Int) ≤ 1000 := by omega
    by_cases h1 : 1000 < a1.size
    · have i1 : (1000 : Int) < (a1.size : Int) := by omega
      go_enter Try.func4, Try.ntmps4
      go_wp2_with (go_at_call 11; refine (awake_any w).mono ?_; rintro e w1 ⟨rfl, hb1⟩)
      go_ret
      exact ⟨rfl, hb1⟩
    · have i1 : (a1.size : Int) ≤ 1000 := by omega
      by_cases h2 : 1000 < a2.size
      · have i2 : (1000 : Int) < (a2.size : Int) := by omega
        go_enter Try.func4, Try.ntmps4
        go_wp2_with (go_at_call 11; refine (awake_any w).mono ?_; rintro e w1 ⟨rfl, hb1⟩)
        go_ret
        exact ⟨rfl, hb1⟩
      · exact main a0 a1 a2 w (by omega) (by omega) (by omega)

/-! ### THE ROW's STEP: WRITTEN OUT: LEAVE IT -/
set_option maxRecDepth 100000 in
theorem lifted (os : Os) (started : os.Started) (H : Type) (enc : TypeId × Value → H) :
    ReturnsInHanded {} Try.checked os 4 .any (Rows.ropeConcatSpec.pre6 enc Try.prog Try.f4 Rows.ropeConcatRow.domain false) (Rows.ropeConcatSpec.post enc Try.prog Try.f4 false true false false) := by
  refine returnsInHanded_of_change (C := Try.checked) own started (by kernel_rfl) Try.func4
    (ChangeSpec.witness6 (enc := enc) (C := Try.checked) false ⟨#[], #[.string ByteArray.empty, .string ByteArray.empty, .string ByteArray.empty], []⟩ 8 (by kernel_rfl) (by kernel_rfl) (by kernel_rfl) (by kernel_rfl)) ?_
  intro W base args ds gs before hval0 hW hcnd _
  have hval : ∀ (j : Nat) t v, Try.f4.params[j]? = some t → args[j]? = some v → Value.okWide Try.prog W .any base t v := hval0
  have hW' := hW
  obtain ⟨p, q, hA0, hV, rfl, hfz, hnd⟩ := hW
  have hA : DataW.TrodAll enc Try.prog W 0 (fun _ => true) true Try.f4.params.toList args.toList ds p := hA0
  rw [Try.params4] at hA hval
  obtain ⟨v0, vs0, d0, ds0, p0, q0, hargs, rfl, rfl, h0, r0⟩ := trodAll_cons hA
  obtain ⟨v1, vs1, d1, ds1, p1, q1, rfl, rfl, rfl, h1, r1⟩ := trodAll_cons r0
  obtain ⟨v2, vs2, d2, ds2, p2, q2, rfl, rfl, rfl, h2, r2⟩ := trodAll_cons r1
  obtain ⟨rfl, rfl, rfl⟩ := trodAll_nil r2
  obtain rfl : args = #[v0, v1, v2] := by cases args; simp_all
  obtain ⟨rfl, rfl⟩ := trodVars_none hV
  obtain ⟨a0, rfl, rfl, rfl, w0⟩ := open_string Try.underlying9 (hval 0 9 v0 rfl rfl) h0
  obtain ⟨a1, rfl, rfl, rfl, w1⟩ := open_string Try.underlying9 (hval 1 9 v1 rfl rfl) h1
  obtain ⟨a2, rfl, rfl, rfl, w2⟩ := open_string Try.underlying9 (hval 2 9 v2 rfl rfl) h2
  clear hA0 hval0
  simp only [List.append_nil] at hW'
  refine (walk a0 a1 a2 W).mono fun e W' ⟨he, bel⟩ => ?_
  subst he
  exact ⟨_, rfl, _, _, _, [], _, [], hW', trodAll_mk1 (shut_bool Try.underlying4 _), (trodAll_cons_mk (shut_string Try.underlying9 w0) (trodAll_cons_mk (shut_string Try.underlying9 w1) (trodAll_cons_mk (shut_string Try.underlying9 w2) trodAll_mk0))), rfl, bel.frame _, fun h => by cases h⟩

theorem over : Rows.ropeConcatRow.holds Try.pinned (OpenSpec.ofChange Rows.ropeConcatSpec) :=
  OpenClaim.holds_of_wide 4 Try.f4 rfl rfl rfl rfl rfl rfl rfl ⟨rfl, rfl, rfl, rfl, rfl⟩ rfl rfl rfl rfl rfl (by kernel_rfl) Try.func4 (by kernel_rfl)
    (of_decide_eq_true (by kernel_rfl)) (by unfold Func.isWrapper; first | (rw [if_pos (by decide +kernel)]; kernel_rfl) | (rw [if_neg (by decide +kernel)]; exact ⟨rfl, rfl⟩))
    (fun os started H enc _ => lifted os started H enc)

/-- ████ THE STATEMENT ████ -/
theorem proved : Rows.RopeConcatSaid :=
  over
#print axioms proved
end Go.Proofs.Ytaafnodabjbakaa.ropeConcat
