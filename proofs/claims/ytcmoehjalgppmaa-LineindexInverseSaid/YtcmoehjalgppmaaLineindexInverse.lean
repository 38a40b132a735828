/-
  LineindexInverse, for every input: the law returns true and leaves its arguments as they read. No condition.
-/
import Derived.Test.YtcmoehjalgppmaaI
namespace Go.Proofs.Ytcmoehjalgppmaa.lineindexInverse
open Go.ChangeShapes Go.WideShapes Go.ChangeAt Go.RowKit Go.Frame
open Go.ChangeMaps (open_string shut_string)
open Te
set_option maxRecDepth 100000 in
set_option maxHeartbeats 4000000 in
theorem walk (s : ByteArray) (w : World) :
    Calls Try.prog 5 #[.string s] w fun e w' => e = .returned (.bool true) ∧ Below w.heap.size w w' := by
  by_cases h : s.size ≤ 300
  · have h' : (s.size : Int) ≤ 300 := by omega
    have H := hid h
    clear h
    go_enter Try.func5, Try.ntmps5
    go_wp2_with fail
    refine (new_any s w (by have := H.out; omega)).mono ?_
    rintro e w1 ⟨⟨p, n, c, rfl, hI, _⟩, b1⟩
    obtain ⟨W, hW⟩ : ∃ W, W = w1.alloc (.cells #[.string s, .slice p n c] 26) := ⟨_, rfl⟩
    have bW : Below w.heap.size w W := by rw [hW]; exact b1.alloc b1.size _
    have HI := hid (show ∀ w', Below W.heap.size W w' → Ix w' p n s from fun w' h => (hI.below ((Below.refl _ _).alloc (Nat.le_refl _) (.cells #[.string s, .slice p n c] 26))).below (by rw [← hW]; exact h))
    have hsz := hid (show W.heap.size = w1.heap.size + 1 by rw [hW]; simp)
    have Keep := hid (show ∀ w', Below W.heap.size W w' → w'.cell? ⟨w1.heap.size, 0, none⟩ = some (.string s) ∧ w'.cell? ⟨w1.heap.size, 1, none⟩ = some (.slice p n c) from fun w' h =>
      cells2 ((h.block _ (by rw [hW]; simp)).trans (show W.heap[w1.heap.size]? = _ by rw [hW]; exact alloc_new _ _)))
    have HW := hid hW
    clear hW hI
    go_wp2_with fail
    rw [← HW.out]
    go_loopg [4] (s.size + 1) (fun k s4 wr => ∃ j : Nat, s4 = .int .i64 j ∧ j + k = s.size + 1 ∧ Below W.heap.size W wr)
    case atStart => exact ⟨0, rfl, by omega, Below.refl _ _⟩
    case round =>
      obtain ⟨j, rfl, hk, hbr⟩ := hrel
      obtain ⟨k0, k1⟩ := Keep.out _ hbr
      by_cases hlt : j < s.size + 1
      · have hlt' : (j : Int) ≤ (s.size : Int) := by omega
        have hj0 : (0 : Int) ≤ (j : Int) := by omega
        have hj : j ≤ s.size := by omega
        have V := hid (psv_yes (s := s) (o := j) hj)
        have hb := bg_ln (s := s) (o := j)
        have hl := ln_le s j
        have he := le_en hj
        obtain ⟨q, hq⟩ : ∃ q : Nat, (j : Int) - (bg s (ln s j) : Int) = (q : Int) := ⟨j - bg s (ln s j), by omega⟩
        have U := hid (show ofv s (ln s j) (q : Int) = .tuple #[.int .i64 (j : Int), .int .i64 0] by
          rw [ofv_yes hl (by rw [lineAt_size hl]; omega)]
          rw [show (bg s (ln s j) : Int) + (q : Int) = (j : Int) by omega])
        have Q := hid hq
        clear hb hl he hq
        go_wp2_with fail
        refine (position_any s p n c j wr (by have := H.out; omega) (HI.out _ hbr)).mono ?_
        rintro e w3 ⟨rfl, b3⟩
        rw [V.out, Q.out]
        have hb3 := hbr.trans (b3.mono hbr.size)
        clear k0 k1
        obtain ⟨k0, k1⟩ := Keep.out _ hb3
        have l3 : w1.heap.size < w3.heap.size := by have := hb3.size; have := hsz.out; omega
        have hb4 := hb3.alloc hb3.size (.cells #[.int .i64 (ln s j), .int .i64 (q : Int)] 30)
        go_wp2_with fail
        refine (offset_any s p n c (ln s j) (q : Int) _ (by have := H.out; omega) (HI.out _ hb4)).mono ?_
        rintro e w4 ⟨rfl, b4⟩
        rw [U.out]
        have hb5 := hb4.trans (b4.mono hb4.size)
        clear k0 k1
        go_wp2
        go_roundg (gk - 1)
        case measure => omega
        case rel => exact ⟨j + 1, by go_num, by omega, hb5⟩
      · have hout : ¬ (j : Int) ≤ (s.size : Int) := by omega
        go_wp2_with fail
        refine (awake_any wr).mono ?_
        rintro e w3 ⟨rfl, b3⟩
        go_wp2
        go_ret
        exact ⟨rfl, bW.trans ((hbr.trans (b3.mono hbr.size)).mono bW.size)⟩
  · have h' : (300 : Int) < (s.size : Int) := by omega
    go_enter Try.func5, Try.ntmps5
    go_wp2_with fail
    refine (awake_any w).mono ?_
    rintro e w1 ⟨rfl, b1⟩
    go_wp2
    go_ret
    exact ⟨rfl, b1⟩

theorem lifted (os : Os) (started : os.Started) (H : Type) (enc : TypeId × Value → H) :
    ReturnsInHanded {} Try.checked os 5 .any (Rows.lineindexInverseSpec.pre6 enc Try.prog Try.f5 Rows.lineindexInverseRow.domain false) (Rows.lineindexInverseSpec.post enc Try.prog Try.f5 false true false false) := by
  refine Go.Frame.lifted (C := Try.checked) (tb := 4) own started (by kernel_rfl) Try.func5
    (ChangeSpec.witness6 (enc := enc) (C := Try.checked) false ⟨#[], #[.string ByteArray.empty], []⟩ 8 (by kernel_rfl) (by kernel_rfl) (by kernel_rfl) (by kernel_rfl))
    laidOut (by kernel_rfl) (by kernel_rfl) Try.underlying4 rfl ?_ ?_
  · intro ds h
    have h : ds.length = 1 := h
    match ds, h with
    | [_], _ => rfl
  · intro W base args ds p hlen hval0 hA hsz0
    have hval : ∀ (j : Nat) t v, Try.f5.params[j]? = some t → args[j]? = some v → Value.okWide Try.prog W .any base t v := hval0
    have hA : DataW.TrodAll enc Try.prog W 0 (fun _ => true) true Try.f5.params.toList args.toList ds p := hA
    have hsz : (DataW.weightsEach Try.prog Try.f5.params.toList ds).all (· ≤ reachBytes) = true := hsz0
    rw [Try.params5] at hA hval hsz
    obtain ⟨v0, vs0, d0, ds0, p0, q0, hargs, hds, _, th0, tr0⟩ := trodAll_cons hA
    obtain ⟨rfl, rfl, _⟩ := trodAll_nil tr0
    obtain rfl : args = #[v0] := by cases args; simp_all
    subst hds
    obtain ⟨t0, rfl, _, _, _⟩ := open_string Try.underlying9 (hval 0 9 v0 rfl rfl) th0
    exact walk t0 W 

theorem over : Rows.lineindexInverseRow.holds Try.pinned (OpenSpec.ofChange Rows.lineindexInverseSpec) :=
  OpenClaim.holds_of_wide 5 Try.f5 rfl rfl rfl rfl rfl rfl rfl ⟨rfl, rfl, rfl, rfl, rfl⟩ rfl rfl rfl rfl rfl (by kernel_rfl) Try.func5 (by kernel_rfl)
    (of_decide_eq_true (by kernel_rfl)) (by unfold Func.isWrapper; first | (rw [if_pos (by decide +kernel)]; kernel_rfl) | (rw [if_neg (by decide +kernel)]; exact ⟨rfl, rfl⟩))
    (fun os started H enc _ => lifted os started H enc)

/-- THE STATEMENT -/
theorem proved : Rows.LineindexInverseSaid :=
  over
#print axioms proved
end Go.Proofs.Ytcmoehjalgppmaa.lineindexInverse
