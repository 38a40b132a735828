/-
  DfaRun, for every input: the law returns true and leaves its arguments as they read. No condition.
-/
import Derived.Test.YtelbagaiijffdaaO
import Derived.Test.YtelbagaiijffdaaUv
import Derived.Test.YtelbagaiijffdaaK
set_option linter.unusedSimpArgs false
set_option linter.unusedVariables false
namespace Go.Proofs.Ytelbagaiijffdaa.dfaRun
open Go.ChangeShapes Go.WideShapes Go.ChangeAt Go.RowKit Go.Frame
open Go.ChangeMaps (open_string shut_string)
open Lx
set_option maxRecDepth 100000 in
set_option maxHeartbeats 8000000 in
theorem walk (D : Df) (a1 : Option Addr) (n1 c1 : Nat) (a2 : Option Addr) (n2 c2 : Nat) (a3 : Option Addr) (n3 c3 : Nat) (s : ByteArray) (w : World) (hD : DA w D a1 n1 a2 n2 a3 n3) (hs0 : s.size ≤ 140737488351232) :
    Calls Try.prog 3 #[.agg #[.slice a1 n1 c1, .slice a2 n2 c2, .slice a3 n3 c3], .string s] w fun e w' => e = .returned (.bool true) ∧ Below w.heap.size w w' := by
  obtain ⟨W, hW⟩ : ∃ W, W = w.alloc (.cells #[.slice a1 n1 c1, .slice a2 n2 c2, .slice a3 n3 c3] 25) := ⟨_, rfl⟩
  have x0 := alloc_new w (.cells #[.slice a1 n1 c1, .slice a2 n2 c2, .slice a3 n3 c3] 25)
  have b0 := bel1 w (.cells #[.slice a1 n1 c1, .slice a2 n2 c2, .slice a3 n3 c3] 25)
  rw [← hW] at x0 b0
  have HW := hid (And.intro x0 (And.intro b0 hD))
  obtain ⟨d0, d1, d2⟩ := cells3 x0
  have CW := hid (awake_any W)
  clear x0 b0 hD
  have big : (40 < n2 ∨ 300 < n1 ∨ 50 < n3 ∨ 100 < s.size) ∨ (n2 ≤ 40 ∧ n1 ≤ 300 ∧ n3 ≤ 50 ∧ s.size ≤ 100) := by omega
  rcases big with hbig | ⟨h2, h1, h3, hs⟩
  · have h4 : (40 < n2) ∨ (¬ 40 < n2 ∧ 300 < n1) ∨ (¬ 40 < n2 ∧ ¬ 300 < n1 ∧ 50 < n3) ∨ (¬ 40 < n2 ∧ ¬ 300 < n1 ∧ ¬ 50 < n3 ∧ 100 < s.size) := by omega
    clear hbig
    rcases h4 with g2 | ⟨g2, g1⟩ | ⟨g2, g1, g3⟩ | ⟨g2, g1, g3, gs⟩
    · have i2 : (40 : Int) < (n2 : Int) := by omega
      go_enter Try.func3, Try.ntmps3
      go_upto_region 1 with fail
      rw [← hW]
      clear hW
      go_wp2_with fail
      refine CW.out.mono ?_
      rintro e V ⟨rfl, b1⟩
      have HB := hid (HW.out.2.1.trans (b1.mono HW.out.2.1.size))
      clear b1 CW
      go_wp2
      go_ret
      exact ⟨rfl, HB.out⟩
    · have i2 : ¬ (40 : Int) < (n2 : Int) := by omega
      have i1 : (300 : Int) < (n1 : Int) := by omega
      go_enter Try.func3, Try.ntmps3
      go_upto_region 1 with fail
      rw [← hW]
      clear hW
      go_wp2_with fail
      refine CW.out.mono ?_
      rintro e V ⟨rfl, b1⟩
      have HB := hid (HW.out.2.1.trans (b1.mono HW.out.2.1.size))
      clear b1 CW
      go_wp2
      go_ret
      exact ⟨rfl, HB.out⟩
    · have i2 : ¬ (40 : Int) < (n2 : Int) := by omega
      have i1 : ¬ (300 : Int) < (n1 : Int) := by omega
      have i3 : (50 : Int) < (n3 : Int) := by omega
      go_enter Try.func3, Try.ntmps3
      go_upto_region 1 with fail
      rw [← hW]
      clear hW
      go_wp2_with fail
      refine CW.out.mono ?_
      rintro e V ⟨rfl, b1⟩
      have HB := hid (HW.out.2.1.trans (b1.mono HW.out.2.1.size))
      clear b1 CW
      go_wp2
      go_ret
      exact ⟨rfl, HB.out⟩
    · have i2 : ¬ (40 : Int) < (n2 : Int) := by omega
      have i1 : ¬ (300 : Int) < (n1 : Int) := by omega
      have i3 : ¬ (50 : Int) < (n3 : Int) := by omega
      have is : (100 : Int) < (s.size : Int) := by omega
      go_enter Try.func3, Try.ntmps3
      go_upto_region 1 with fail
      rw [← hW]
      clear hW
      go_wp2_with fail
      refine CW.out.mono ?_
      rintro e V ⟨rfl, b1⟩
      have HB := hid (HW.out.2.1.trans (b1.mono HW.out.2.1.size))
      clear b1 CW
      go_wp2
      go_ret
      exact ⟨rfl, HB.out⟩
  · have i2 : ¬ (40 : Int) < (n2 : Int) := by omega
    have i1 : ¬ (300 : Int) < (n1 : Int) := by omega
    have i3 : ¬ (50 : Int) < (n3 : Int) := by omega
    have is : ¬ (100 : Int) < (s.size : Int) := by omega
    have j2 : ¬ 40 < n2 := by omega
    have j1 : ¬ 300 < n1 := by omega
    have j3 : ¬ 50 < n3 := by omega
    have js : ¬ 100 < s.size := by omega
    have CV := RValid_any W D a1 n1 c1 a2 n2 c2 a3 n3 c3 (HW.out.2.2.below HW.out.2.1)
    obtain ⟨u, hu⟩ : ∃ u, u = valid D := ⟨_, rfl⟩
    rw [← hu] at CV
    have CV := hid CV
    have HU := hid hu
    clear hu CW
    go_enter Try.func3, Try.ntmps3
    go_upto_region 1 with fail
    rw [← hW]
    clear hW
    go_wp2_with fail
    refine CV.out.mono ?_
    rintro e V ⟨rfl, b1⟩
    have HV := hid (And.intro ((b1.block _ (heap_lt HW.out.1)).trans HW.out.1) (And.intro (HW.out.2.1.trans (b1.mono HW.out.2.1.size)) HW.out.2.2))
    clear b1 CV d0 d1 d2
    have CA := hid (fun (X : World) (hX : Below V.heap.size V X) => awake_any X)
    have CD := fun (X : World) (hX : Below V.heap.size V X) => Valid_any X D a1 n1 c1 a2 n2 c2 a3 n3 c3 (HV.out.2.2.below (HV.out.2.1.trans (hX.mono HV.out.2.1.size)))
    rw [← HU.out] at CD
    have CD := hid CD
    have x0 := HV.out.1
    obtain ⟨d0, d1, d2⟩ := cells3 x0
    cases u
    · go_wp2_with fail
      refine wp_region_below (by kernel_rfl) (by kernel_rfl) ?_
      intro X f _ hf hs9
      have k0 := fun q => ((hf.out q).block _ (heap_lt x0)).trans x0
      have k1 := fun q => (cells3 (k0 q)).1
      have k2 := fun q => (cells3 (k0 q)).2.1
      have k3 := fun q => (cells3 (k0 q)).2.2
      clear k0
      repeat (go_big_quiet_step (first | (go_at_call 8; with_reducible exact calls_below hf hs9 (CA.out _ (hf.out _))) | (go_at_call 10; with_reducible exact calls_below hf hs9 (CD.out _ (hf.out _)))))
      refine wpQuiet_nil ?_
      intro U hU
      have HB := hid (HV.out.2.1.trans (hU.mono HV.out.2.1.size))
      clear k1 k2 k3 hU hf hs9
      go_wp2
      go_ret
      exact ⟨rfl, HB.out⟩
    · obtain ⟨n, k, hv⟩ := valid_iff.1 HU.out.symm
      have C1 := fun (X : World) (hX : Below V.heap.size V X) => dRun_any X D n k hv a1 n1 c1 a2 n2 c2 a3 n3 c3 (HV.out.2.2.below (HV.out.2.1.trans (hX.mono HV.out.2.1.size))) s hs0
      have C2 := fun (X : World) (hX : Below V.heap.size V X) => Run_any X D n k hv a1 n1 c1 a2 n2 c2 a3 n3 c3 (HV.out.2.2.below (HV.out.2.1.trans (hX.mono HV.out.2.1.size))) s (by omega)
      have he : rn D 0 s.data.toList = runD D s.data.toList := rn_run s.data.toList 0
      rw [he] at C1
      obtain ⟨z, hz⟩ : ∃ z, z = runD D s.data.toList := ⟨_, rfl⟩
      rw [← hz] at C1 C2
      have C1 := hid C1
      have C2 := hid C2
      clear he hz hv
      go_wp2_with fail
      refine wp_region_below (by kernel_rfl) (by kernel_rfl) ?_
      intro X f _ hf hs9
      have k0 := fun q => ((hf.out q).block _ (heap_lt x0)).trans x0
      have k1 := fun q => (cells3 (k0 q)).1
      have k2 := fun q => (cells3 (k0 q)).2.1
      have k3 := fun q => (cells3 (k0 q)).2.2
      clear k0
      repeat (go_big_quiet_step (first | (go_at_call 8; with_reducible exact calls_below hf hs9 (CA.out _ (hf.out _))) | (go_at_call 10; with_reducible exact calls_below hf hs9 (CD.out _ (hf.out _))) | (go_at_call 11; with_reducible exact calls_below hf hs9 (C1.out _ (hf.out _))) | (go_at_call 12; with_reducible exact calls_below hf hs9 (C2.out _ (hf.out _)))))
      refine wpQuiet_nil ?_
      intro U hU
      have HB := hid (HV.out.2.1.trans (hU.mono HV.out.2.1.size))
      clear k1 k2 k3 hU hf hs9
      go_wp2
      go_ret
      exact ⟨rfl, HB.out⟩

theorem lifted (os : Os) (started : os.Started) (H : Type) (enc : TypeId × Value → H) :
    ReturnsInHanded {} Try.checked os 3 .any (Rows.dfaRunSpec.pre6 enc Try.prog Try.f3 Rows.dfaRunRow.domain false) (Rows.dfaRunSpec.post enc Try.prog Try.f3 false true false false) := by
  refine Go.Frame.lifted (C := Try.checked) (tb := 4) own started (by kernel_rfl) Try.func3
    (ChangeSpec.witness6 (enc := enc) (C := Try.checked) false ⟨#[], #[.agg #[.slice none 0 0, .slice none 0 0, .slice none 0 0], .string ByteArray.empty], []⟩ 8 (by kernel_rfl) (by kernel_rfl) (by kernel_rfl) (by kernel_rfl))
    laidOut (by kernel_rfl) (by kernel_rfl) Try.underlying4 rfl ?_ ?_
  · intro ds h
    have h : ds.length = 2 := h
    match ds, h with
    | [_, _], _ => rfl
  · intro W base args ds p hlen hval0 hA hsz0
    have hval : ∀ (j : Nat) t v, Try.f3.params[j]? = some t → args[j]? = some v → Value.okWide Try.prog W .any base t v := hval0
    have hA : DataW.TrodAll enc Try.prog W 0 (fun _ => true) true Try.f3.params.toList args.toList ds p := hA
    have hsz : (DataW.weightsEach Try.prog Try.f3.params.toList ds).all (· ≤ reachBytes) = true := hsz0
    rw [Try.params3] at hA hval hsz
    obtain ⟨v0, vs0, d0, ds0, p0, q0, hargs, hds, _, th0, tr0⟩ := trodAll_cons hA
    obtain ⟨v1, vs1, d1, ds1, p1, q1, rfl, rfl, _, th1, tr1⟩ := trodAll_cons tr0
    obtain ⟨rfl, rfl, _⟩ := trodAll_nil tr1
    obtain rfl : args = #[v0, v1] := by cases args; simp_all
    subst hds
    obtain ⟨Du0, a1x0, n1x0, c1x0, a2x0, n2x0, c2x0, a3x0, n3x0, c3x0, rfl, hDu0⟩ := open_dfa (hval 0 25 v0 rfl rfl) th0 (fun n hn => of_decide_eq_true (List.all_eq_true.1 hsz _ (DataW.weights_mem_each (j := 0) rfl rfl n hn)))
    obtain ⟨t1, rfl, hd1, _, _⟩ := open_string Try.underlying9 (hval 1 9 v1 rfl rfl) th1
    have hs1 : t1.size ≤ 140737488351232 := of_decide_eq_true (List.all_eq_true.1 hsz _ (DataW.weights_mem_each (j := 1) rfl rfl _ (by rw [hd1]; simp [DataW.weights])))
    exact walk Du0 a1x0 n1x0 c1x0 a2x0 n2x0 c2x0 a3x0 n3x0 c3x0 t1 W hDu0 hs1

theorem over : Rows.dfaRunRow.holds Try.pinned (OpenSpec.ofChange Rows.dfaRunSpec) :=
  OpenClaim.holds_of_wide 3 Try.f3 rfl rfl rfl rfl rfl rfl rfl ⟨rfl, rfl, rfl, rfl, rfl⟩ rfl rfl rfl rfl rfl (by kernel_rfl) Try.func3 (by kernel_rfl)
    (of_decide_eq_true (by kernel_rfl)) (by unfold Func.isWrapper; first | (rw [if_pos (by decide +kernel)]; kernel_rfl) | (rw [if_neg (by decide +kernel)]; exact ⟨rfl, rfl⟩))
    (fun os started H enc _ => lifted os started H enc)

/-- THE STATEMENT -/
theorem proved : Rows.DfaRunSaid :=
  over
#print axioms proved
end Go.Proofs.Ytelbagaiijffdaa.dfaRun
