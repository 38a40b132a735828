/-
  TextdiffDistanceMatchesReference, for every input: the law returns true and leaves its arguments as they read. No condition.
-/
import Derived.Test.YtahikgdgbgclkaaN
import Derived.Test.YtahikgdgbgclkaaI
set_option linter.unusedSimpArgs false
set_option linter.unusedVariables false
namespace Go.Proofs.Ytahikgdgbgclkaa.textdiffDistanceMatchesReference
open Go.ChangeShapes Go.WideShapes Go.ChangeAt Go.RowKit Go.Frame
open Go.ChangeMaps (open_string shut_string)
open Te
set_option maxRecDepth 100000 in
set_option maxHeartbeats 4000000 in
theorem walk (a b : ByteArray) (w : World) (ha : a.size ≤ 140737488351232) (hb : b.size ≤ 140737488351232) :
    Calls Try.prog 3 #[.string a, .string b] w fun e w' => e = .returned (.bool true) ∧ Below w.heap.size w w' := by
  go_enter Try.func3, Try.ntmps3
  go_wp2_with fail
  refine (awake_any w).mono ?_
  rintro e w1 ⟨rfl, b1⟩
  have B1 := hid b1
  clear b1
  go_wp2_with fail
  refine (few_any a b w1).mono ?_
  rintro e w1' ⟨rfl, rfl⟩
  by_cases hF : Few a b
  · rw [decide_eq_true hF]
    have h1 : a.size ≤ 10000 := by have := hF.1; omega
    have h2 : b.size ≤ 10000 := by have := hF.2; omega
    clear hF
    go_wp2_with fail
    refine (Distance_any a b w1 h1 h2).mono ?_
    rintro e w2 ⟨rfl, b2⟩
    have B2 := hid (B1.out.trans (b2.mono B1.out.size))
    clear b2
    go_wp2_with fail
    refine (rDistance_any a b w2 h1 h2).mono ?_
    rintro e w3 ⟨rfl, b3⟩
    have B3 := B2.out.trans (b3.mono B2.out.size)
    go_wp2
    go_ret
    exact ⟨rfl, B3⟩
  · rw [decide_eq_false hF]
    clear hF
    go_wp2
    go_ret
    exact ⟨rfl, B1.out⟩

theorem lifted (os : Os) (started : os.Started) (H : Type) (enc : TypeId × Value → H) :
    ReturnsInHanded {} Try.checked os 3 .any (Rows.textdiffDistanceMatchesReferenceSpec.pre6 enc Try.prog Try.f3 Rows.textdiffDistanceMatchesReferenceRow.domain false) (Rows.textdiffDistanceMatchesReferenceSpec.post enc Try.prog Try.f3 false true false false) := by
  refine Go.Frame.lifted (C := Try.checked) (tb := 4) own started (by kernel_rfl) Try.func3
    (ChangeSpec.witness6 (enc := enc) (C := Try.checked) false ⟨#[], #[.string ByteArray.empty, .string ByteArray.empty], []⟩ 8 (by kernel_rfl) (by kernel_rfl) (by kernel_rfl) (by kernel_rfl))
    laidOut (by kernel_rfl) (by kernel_rfl) Try.underlying4 rfl ?_ ?_
  · intro ds h
    have h : ds.length = 2 := h
    match ds, h with
    | [_, _], _ => rfl
  · intro W base args ds p hlen hval0 hA hsz0
    have hval : ∀ (j : Nat) t v, Try.f3.params[j]? = some t → args[j]? = some v → Value.okWide Try.prog W .any base t v := hval0
    have hA : DataW.TrodAll enc Try.prog W 0 (fun _ => true) true Try.f3.params.toList args.toList ds p := hA
    have hsz : (DataW.weightsEach Try.prog Try.f3.params.toList ds).all (· ≤ reachBytes) = true := hsz0
    rw [Try.params3] at hA hval hsz
    obtain ⟨v0, vs0, d0, ds0, p0, q0, hargs, hds, _, th0, tr0⟩ := trodAll_cons hA
    obtain ⟨v1, vs1, d1, ds1, p1, q1, rfl, rfl, _, th1, tr1⟩ := trodAll_cons tr0
    obtain ⟨rfl, rfl, _⟩ := trodAll_nil tr1
    obtain rfl : args = #[v0, v1] := by cases args; simp_all
    subst hds
    obtain ⟨t0, rfl, hd0, _, _⟩ := open_string Try.underlying9 (hval 0 9 v0 rfl rfl) th0
    have hs0 : t0.size ≤ 140737488351232 := of_decide_eq_true (List.all_eq_true.1 hsz _ (DataW.weights_mem_each (j := 0) rfl rfl _ (by rw [hd0]; simp [DataW.weights])))
    obtain ⟨t1, rfl, hd1, _, _⟩ := open_string Try.underlying9 (hval 1 9 v1 rfl rfl) th1
    have hs1 : t1.size ≤ 140737488351232 := of_decide_eq_true (List.all_eq_true.1 hsz _ (DataW.weights_mem_each (j := 1) rfl rfl _ (by rw [hd1]; simp [DataW.weights])))
    exact walk t0 t1 W hs0 hs1

theorem over : Rows.textdiffDistanceMatchesReferenceRow.holds Try.pinned (OpenSpec.ofChange Rows.textdiffDistanceMatchesReferenceSpec) :=
  OpenClaim.holds_of_wide 3 Try.f3 rfl rfl rfl rfl rfl rfl rfl ⟨rfl, rfl, rfl, rfl, rfl⟩ rfl rfl rfl rfl rfl (by kernel_rfl) Try.func3 (by kernel_rfl)
    (of_decide_eq_true (by kernel_rfl)) (by unfold Func.isWrapper; first | (rw [if_pos (by decide +kernel)]; kernel_rfl) | (rw [if_neg (by decide +kernel)]; exact ⟨rfl, rfl⟩))
    (fun os started H enc _ => lifted os started H enc)

/-- THE STATEMENT -/
theorem proved : Rows.TextdiffDistanceMatchesReferenceSaid :=
  over
#print axioms proved
end Go.Proofs.Ytahikgdgbgclkaa.textdiffDistanceMatchesReference
