/-
  TextdiffMetric, for every input: the law returns true and leaves its arguments as they read. No condition.
-/
import Derived.Test.YtahikgdgbgclkaaN
import Derived.Test.YtahikgdgbgclkaaI
set_option linter.unusedSimpArgs false
set_option linter.unusedVariables false
namespace Go.Proofs.Ytahikgdgbgclkaa.textdiffMetric
open Go.ChangeShapes Go.WideShapes Go.ChangeAt Go.RowKit Go.Frame
open Go.ChangeMaps (open_string shut_string)
open Te
set_option maxRecDepth 100000 in
set_option maxHeartbeats 4000000 in
theorem walk (a b c : ByteArray) (w : World) (ha : a.size ≤ 140737488351232) (hb : b.size ≤ 140737488351232) (hc : c.size ≤ 140737488351232) :
    Calls Try.prog 4 #[.string a, .string b, .string c] w fun e w' => e = .returned (.bool true) ∧ Below w.heap.size w w' := by
  go_enter Try.func4, Try.ntmps4
  go_wp2_with fail
  refine (awake_any w).mono ?_
  rintro e w1 ⟨rfl, b1⟩
  have B1 := hid b1
  clear b1
  go_wp2_with fail
  refine (few_any a b w1).mono ?_
  rintro e w1' ⟨rfl, rfl⟩
  by_cases hF : Few a b
  · rw [decide_eq_true hF]
    go_wp2_with fail
    refine (few_any b c w1).mono ?_
    rintro e w1' ⟨rfl, rfl⟩
    by_cases hG : Few b c
    · rw [decide_eq_true hG]
      have h1 : a.size ≤ 10000 := by have := hF.1; omega
      have h2 : b.size ≤ 10000 := by have := hF.2; omega
      have h3 : c.size ≤ 10000 := by have := hG.2; omega
      have hba : D b a 0 0 = D a b 0 0 := dist_symm _ _
      have hz : D a b 0 0 = 0 ↔ a = b := ⟨fun h => L_inj (dist_zero.1 h), fun h => by subst h; exact dist_zero.2 rfl⟩
      have ht : D a c 0 0 ≤ D a b 0 0 + D b c 0 0 := dist_tri _ _ _
      have hl := D_le a b 0 0
      have hl2 := D_le b c 0 0
      have HBA := hid hba
      have HZ := hid hz
      have ht' : (D a c 0 0 : Int) ≤ (D a b 0 0 : Int) + (D b c 0 0 : Int) := by omega
      have l1 : (D a b 0 0 : Int) ≤ 20000 := by omega
      have l2 : (D b c 0 0 : Int) ≤ 20000 := by omega
      have l3 : (0 : Int) ≤ (D a b 0 0 : Int) := by omega
      have l4 : (0 : Int) ≤ (D b c 0 0 : Int) := by omega
      clear hF hG hba hz hl hl2
      go_wp2_with fail
      refine (Distance_any a b w1 h1 h2).mono ?_
      rintro e w2 ⟨rfl, b2⟩
      have B2 := hid (B1.out.trans (b2.mono B1.out.size))
      clear b2
      go_wp2_with fail
      refine (Distance_any b a w2 h2 h1).mono ?_
      rintro e w3 ⟨rfl, b3⟩
      have B3 := hid (B2.out.trans (b3.mono B2.out.size))
      clear b3
      rw [HBA.out]
      by_cases he : a = b
      · have hz0 := HZ.out.2 he
        have e2 : ((D a b 0 0 : Int) == 0) = true := by simp [hz0]
        have e1 : (a.toList == b.toList) = true := by rw [ByteArray.toList_eq, ByteArray.toList_eq, he]; simp
        have HE := hid he
        have HZ0 := hid hz0
        clear hz0 he
        go_wp2_with fail
        refine (Distance_any a c w3 h1 h3).mono ?_
        rintro e w4 ⟨rfl, b4⟩
        have B4 := hid (B3.out.trans (b4.mono B3.out.size))
        clear b4
        go_wp2_with fail
        refine (Distance_any b c w4 h2 h3).mono ?_
        rintro e w5 ⟨rfl, b5⟩
        have B5 := B4.out.trans (b5.mono B4.out.size)
        have HT := hid ht
        go_wp2
        go_ret
        refine ⟨?_, B5⟩
        simp [HT.out]
      · have hz0 : ¬ D a b 0 0 = 0 := fun h => he (HZ.out.1 h)
        have e2 : ((D a b 0 0 : Int) == 0) = false := by simp [hz0]
        have e1 : (a.toList == b.toList) = false := by
          rw [ByteArray.toList_eq, ByteArray.toList_eq]
          exact beq_eq_false_iff_ne.2 (fun h => he (L_inj h))
        have HE := hid he
        have HZ0 := hid hz0
        clear hz0 he
        go_wp2_with fail
        refine (Distance_any a c w3 h1 h3).mono ?_
        rintro e w4 ⟨rfl, b4⟩
        have B4 := hid (B3.out.trans (b4.mono B3.out.size))
        clear b4
        go_wp2_with fail
        refine (Distance_any b c w4 h2 h3).mono ?_
        rintro e w5 ⟨rfl, b5⟩
        have B5 := B4.out.trans (b5.mono B4.out.size)
        have HT := hid ht
        go_wp2
        go_ret
        refine ⟨?_, B5⟩
        simp [HT.out]
    · rw [decide_eq_false hG]
      clear hF hG
      go_wp2
      go_ret
      exact ⟨rfl, B1.out⟩
  · rw [decide_eq_false hF]
    clear hF
    go_wp2
    go_ret
    exact ⟨rfl, B1.out⟩

theorem lifted (os : Os) (started : os.Started) (H : Type) (enc : TypeId × Value → H) :
    ReturnsInHanded {} Try.checked os 4 .any (Rows.textdiffMetricSpec.pre6 enc Try.prog Try.f4 Rows.textdiffMetricRow.domain false) (Rows.textdiffMetricSpec.post enc Try.prog Try.f4 false true false false) := by
  refine Go.Frame.lifted (C := Try.checked) (tb := 4) own started (by kernel_rfl) Try.func4
    (ChangeSpec.witness6 (enc := enc) (C := Try.checked) false ⟨#[], #[.string ByteArray.empty, .string ByteArray.empty, .string ByteArray.empty], []⟩ 8 (by kernel_rfl) (by kernel_rfl) (by kernel_rfl) (by kernel_rfl))
    laidOut (by kernel_rfl) (by kernel_rfl) Try.underlying4 rfl ?_ ?_
  · intro ds h
    have h : ds.length = 3 := h
    match ds, h with
    | [_, _, _], _ => rfl
  · intro W base args ds p hlen hval0 hA hsz0
    have hval : ∀ (j : Nat) t v, Try.f4.params[j]? = some t → args[j]? = some v → Value.okWide Try.prog W .any base t v := hval0
    have hA : DataW.TrodAll enc Try.prog W 0 (fun _ => true) true Try.f4.params.toList args.toList ds p := hA
    have hsz : (DataW.weightsEach Try.prog Try.f4.params.toList ds).all (· ≤ reachBytes) = true := hsz0
    rw [Try.params4] at hA hval hsz
    obtain ⟨v0, vs0, d0, ds0, p0, q0, hargs, hds, _, th0, tr0⟩ := trodAll_cons hA
    obtain ⟨v1, vs1, d1, ds1, p1, q1, rfl, rfl, _, th1, tr1⟩ := trodAll_cons tr0
    obtain ⟨v2, vs2, d2, ds2, p2, q2, rfl, rfl, _, th2, tr2⟩ := trodAll_cons tr1
    obtain ⟨rfl, rfl, _⟩ := trodAll_nil tr2
    obtain rfl : args = #[v0, v1, v2] := by cases args; simp_all
    subst hds
    obtain ⟨t0, rfl, hd0, _, _⟩ := open_string Try.underlying9 (hval 0 9 v0 rfl rfl) th0
    have hs0 : t0.size ≤ 140737488351232 := of_decide_eq_true (List.all_eq_true.1 hsz _ (DataW.weights_mem_each (j := 0) rfl rfl _ (by rw [hd0]; simp [DataW.weights])))
    obtain ⟨t1, rfl, hd1, _, _⟩ := open_string Try.underlying9 (hval 1 9 v1 rfl rfl) th1
    have hs1 : t1.size ≤ 140737488351232 := of_decide_eq_true (List.all_eq_true.1 hsz _ (DataW.weights_mem_each (j := 1) rfl rfl _ (by rw [hd1]; simp [DataW.weights])))
    obtain ⟨t2, rfl, hd2, _, _⟩ := open_string Try.underlying9 (hval 2 9 v2 rfl rfl) th2
    have hs2 : t2.size ≤ 140737488351232 := of_decide_eq_true (List.all_eq_true.1 hsz _ (DataW.weights_mem_each (j := 2) rfl rfl _ (by rw [hd2]; simp [DataW.weights])))
    exact walk t0 t1 t2 W hs0 hs1 hs2

theorem over : Rows.textdiffMetricRow.holds Try.pinned (OpenSpec.ofChange Rows.textdiffMetricSpec) :=
  OpenClaim.holds_of_wide 4 Try.f4 rfl rfl rfl rfl rfl rfl rfl ⟨rfl, rfl, rfl, rfl, rfl⟩ rfl rfl rfl rfl rfl (by kernel_rfl) Try.func4 (by kernel_rfl)
    (of_decide_eq_true (by kernel_rfl)) (by unfold Func.isWrapper; first | (rw [if_pos (by decide +kernel)]; kernel_rfl) | (rw [if_neg (by decide +kernel)]; exact ⟨rfl, rfl⟩))
    (fun os started H enc _ => lifted os started H enc)

/-- THE STATEMENT -/
theorem proved : Rows.TextdiffMetricSaid :=
  over
#print axioms proved
end Go.Proofs.Ytahikgdgbgclkaa.textdiffMetric
