/-
  DfaDifferenceLeast, for every input: the law returns true and leaves its arguments as they read. No condition.
-/
import Derived.Test.YtelbagaiijffdaaO
import Derived.Test.YtelbagaiijffdaaUv
import Derived.Test.YtelbagaiijffdaaUw
import Derived.Test.YtelbagaiijffdaaUx
set_option linter.unusedSimpArgs false
set_option linter.unusedVariables false
namespace Go.Proofs.Ytelbagaiijffdaa.dfaDifferenceLeast
open Go.ChangeShapes Go.WideShapes Go.ChangeAt Go.RowKit Go.Frame
open Go.ChangeMaps (open_string shut_string)
open Lx
set_option maxRecDepth 100000 in
set_option maxHeartbeats 8000000 in
theorem walk (D : Df) (a1 : Option Addr) (n1 c1 : Nat) (a2 : Option Addr) (n2 c2 : Nat) (a3 : Option Addr) (n3 c3 : Nat) (E : Df) (b1 : Option Addr) (m1 d1 : Nat) (b2 : Option Addr) (m2 d2 : Nat) (b3 : Option Addr) (m3 d3 : Nat) (s : ByteArray) (w : World) (hD : DA w D a1 n1 a2 n2 a3 n3) (hE : DA w E b1 m1 b2 m2 b3 m3) (hs0 : s.size ≤ 140737488351232) :
    Calls Try.prog 6 #[.agg #[.slice a1 n1 c1, .slice a2 n2 c2, .slice a3 n3 c3], .agg #[.slice b1 m1 d1, .slice b2 m2 d2, .slice b3 m3 d3], .string s] w fun e w' => e = .returned (.bool true) ∧ Below w.heap.size w w' := by
  obtain ⟨W, hW⟩ : ∃ W, W = (w.alloc (.cells #[.slice a1 n1 c1, .slice a2 n2 c2, .slice a3 n3 c3] 25)).alloc (.cells #[.slice b1 m1 d1, .slice b2 m2 d2, .slice b3 m3 d3] 25) := ⟨_, rfl⟩
  have HW := hid (show W.heap[w.heap.size]? = some (.cells #[.slice a1 n1 c1, .slice a2 n2 c2, .slice a3 n3 c3] 25 (0, 0)) ∧ W.heap[w.heap.size + 1]? = some (.cells #[.slice b1 m1 d1, .slice b2 m2 d2, .slice b3 m3 d3] 25 (0, 0)) ∧ Below w.heap.size w W ∧ DA w D a1 n1 a2 n2 a3 n3 ∧ DA w E b1 m1 b2 m2 b3 m3 from by
    rw [hW]
    exact ⟨blk_alloc (alloc_new _ _), at_alloc _ _ _ (sz1 _ _), below_allocs (bel1 _ _) (Nat.le_refl _) _, hD, hE⟩)
  have x0 := HW.out.1
  have y0 := HW.out.2.1
  obtain ⟨u, hu⟩ : ∃ u, u = smD D 10 6 := ⟨_, rfl⟩
  obtain ⟨v, hv⟩ : ∃ v, v = smD E 10 6 := ⟨_, rfl⟩
  have C1 := fun (X : World) (hX : Below W.heap.size W X) => (small_any X D 10 6 (by omega) (by omega) a1 n1 c1 a2 n2 c2 a3 n3 c3 (hD.below (HW.out.2.2.1.trans (hX.mono HW.out.2.2.1.size))) : Calls Try.prog 13 #[.agg #[.slice a1 n1 c1, .slice a2 n2 c2, .slice a3 n3 c3], .int .i64 10, .int .i64 6] X fun e w' => e = .returned (.bool (smD D 10 6)) ∧ Below X.heap.size X w')
  have C2 := fun (X : World) (hX : Below W.heap.size W X) => (small_any X E 10 6 (by omega) (by omega) b1 m1 d1 b2 m2 d2 b3 m3 d3 (hE.below (HW.out.2.2.1.trans (hX.mono HW.out.2.2.1.size))) : Calls Try.prog 13 #[.agg #[.slice b1 m1 d1, .slice b2 m2 d2, .slice b3 m3 d3], .int .i64 10, .int .i64 6] X fun e w' => e = .returned (.bool (smD E 10 6)) ∧ Below X.heap.size X w')
  rw [← hu] at C1
  rw [← hv] at C2
  have C1 := hid C1
  have C2 := hid C2
  have HU := hid (And.intro hu hv)
  clear hu hv hD hE
  cases u
  · go_enter Try.func6, Try.ntmps6
    go_upto_region 1 with fail
    rw [← hW]
    clear hW
    refine wp_region_below (by kernel_rfl) (by kernel_rfl) ?_
    intro X f _ hf hs9
    have k0 := fun q => ((hf.out q).block _ (heap_lt x0)).trans x0
    have k1 := fun q => (cells3 (k0 q)).1
    have k2 := fun q => (cells3 (k0 q)).2.1
    have k3 := fun q => (cells3 (k0 q)).2.2
    have j0 := fun q => ((hf.out q).block _ (heap_lt y0)).trans y0
    have j1 := fun q => (cells3 (j0 q)).1
    have j2 := fun q => (cells3 (j0 q)).2.1
    have j3 := fun q => (cells3 (j0 q)).2.2
    clear k0 j0
    repeat (go_big_quiet_step (first | (go_at_call 13; with_reducible exact calls_below hf hs9 (C1.out _ (hf.out _))) | (go_at_call 13; with_reducible exact calls_below hf hs9 (C2.out _ (hf.out _)))))
    refine wpQuiet_nil ?_
    intro U hU
    have HB := hid (HW.out.2.2.1.trans (hU.mono HW.out.2.2.1.size))
    have CW := hid (awake_any U)
    clear k1 k2 k3 j1 j2 j3 hU hf hs9
    go_wp2_with fail
    refine CW.out.mono ?_
    rintro e V ⟨rfl, b1⟩
    have HZ := hid (HB.out.trans (b1.mono HB.out.size))
    clear b1 CW
    go_wp2
    go_ret
    exact ⟨rfl, HZ.out⟩
  · cases v
    · go_enter Try.func6, Try.ntmps6
      go_upto_region 1 with fail
      rw [← hW]
      clear hW
      refine wp_region_below (by kernel_rfl) (by kernel_rfl) ?_
      intro X f _ hf hs9
      have k0 := fun q => ((hf.out q).block _ (heap_lt x0)).trans x0
      have k1 := fun q => (cells3 (k0 q)).1
      have k2 := fun q => (cells3 (k0 q)).2.1
      have k3 := fun q => (cells3 (k0 q)).2.2
      have j0 := fun q => ((hf.out q).block _ (heap_lt y0)).trans y0
      have j1 := fun q => (cells3 (j0 q)).1
      have j2 := fun q => (cells3 (j0 q)).2.1
      have j3 := fun q => (cells3 (j0 q)).2.2
      clear k0 j0
      repeat (go_big_quiet_step (first | (go_at_call 13; with_reducible exact calls_below hf hs9 (C1.out _ (hf.out _))) | (go_at_call 13; with_reducible exact calls_below hf hs9 (C2.out _ (hf.out _)))))
      refine wpQuiet_nil ?_
      intro U hU
      have HB := hid (HW.out.2.2.1.trans (hU.mono HW.out.2.2.1.size))
      have CW := hid (awake_any U)
      clear k1 k2 k3 j1 j2 j3 hU hf hs9
      go_wp2_with fail
      refine CW.out.mono ?_
      rintro e V ⟨rfl, b1⟩
      have HZ := hid (HB.out.trans (b1.mono HB.out.size))
      clear b1 CW
      go_wp2
      go_ret
      exact ⟨rfl, HZ.out⟩
    · have hsu := HU.out.1
      have hsv := HU.out.2
      unfold smD at hsu hsv
      simp only [eq_comm (a := true), Bool.and_eq_true, decide_eq_true_eq] at hsu hsv
      obtain ⟨n, k, hv⟩ := valid_iff.1 hsu.1
      obtain ⟨m, l, hw⟩ := valid_iff.1 hsv.1
      clear hsu hsv
      have HVV := hid (And.intro hv hw)
      by_cases h60 : 60 < s.size
      · have i60 : (60 : Int) < (s.size : Int) := by omega
        clear hv hw
        go_enter Try.func6, Try.ntmps6
        go_upto_region 1 with fail
        rw [← hW]
        clear hW
        refine wp_region_below (by kernel_rfl) (by kernel_rfl) ?_
        intro X f _ hf hs9
        have k0 := fun q => ((hf.out q).block _ (heap_lt x0)).trans x0
        have k1 := fun q => (cells3 (k0 q)).1
        have k2 := fun q => (cells3 (k0 q)).2.1
        have k3 := fun q => (cells3 (k0 q)).2.2
        have j0 := fun q => ((hf.out q).block _ (heap_lt y0)).trans y0
        have j1 := fun q => (cells3 (j0 q)).1
        have j2 := fun q => (cells3 (j0 q)).2.1
        have j3 := fun q => (cells3 (j0 q)).2.2
        clear k0 j0
        repeat (go_big_quiet_step (first | (go_at_call 13; with_reducible exact calls_below hf hs9 (C1.out _ (hf.out _))) | (go_at_call 13; with_reducible exact calls_below hf hs9 (C2.out _ (hf.out _)))))
        refine wpQuiet_nil ?_
        intro U hU
        have HB := hid (HW.out.2.2.1.trans (hU.mono HW.out.2.2.1.size))
        have CW := hid (awake_any U)
        clear k1 k2 k3 j1 j2 j3 hU hf hs9
        go_wp2_with fail
        refine CW.out.mono ?_
        rintro e V ⟨rfl, b1⟩
        have HZ := hid (HB.out.trans (b1.mono HB.out.size))
        clear b1 CW
        go_wp2
        go_ret
        exact ⟨rfl, HZ.out⟩
      · have i60 : ¬ (60 : Int) < (s.size : Int) := by omega
        have R1 := fun (X : World) (hX : Below W.heap.size W X) => dRun_any X D n k hv a1 n1 c1 a2 n2 c2 a3 n3 c3 (HW.out.2.2.2.1.below (HW.out.2.2.1.trans (hX.mono HW.out.2.2.1.size))) s hs0
        have R2 := fun (X : World) (hX : Below W.heap.size W X) => dRun_any X E m l hw b1 m1 d1 b2 m2 d2 b3 m3 d3 (HW.out.2.2.2.2.below (HW.out.2.2.1.trans (hX.mono HW.out.2.2.1.size))) s hs0
        obtain ⟨x, hx⟩ : ∃ x, x = rn D 0 s.data.toList := ⟨_, rfl⟩
        obtain ⟨y, hy⟩ : ∃ y, y = rn E 0 s.data.toList := ⟨_, rfl⟩
        rw [← hx] at R1
        rw [← hy] at R2
        have R1 := hid R1
        have R2 := hid R2
        have HXY := hid (And.intro hx hy)
        clear hv hw hx hy
        by_cases hxy : x = y
        · have hxy' : (x == y) = true := by rw [beq_iff_eq]; exact hxy
          go_enter Try.func6, Try.ntmps6
          go_upto_region 1 with fail
          rw [← hW]
          clear hW
          refine wp_region_below (by kernel_rfl) (by kernel_rfl) ?_
          intro X f _ hf hs9
          have k0 := fun q => ((hf.out q).block _ (heap_lt x0)).trans x0
          have k1 := fun q => (cells3 (k0 q)).1
          have k2 := fun q => (cells3 (k0 q)).2.1
          have k3 := fun q => (cells3 (k0 q)).2.2
          have j0 := fun q => ((hf.out q).block _ (heap_lt y0)).trans y0
          have j1 := fun q => (cells3 (j0 q)).1
          have j2 := fun q => (cells3 (j0 q)).2.1
          have j3 := fun q => (cells3 (j0 q)).2.2
          clear k0 j0
          repeat (go_big_quiet_step (first | (go_at_call 13; with_reducible exact calls_below hf hs9 (C1.out _ (hf.out _))) | (go_at_call 13; with_reducible exact calls_below hf hs9 (C2.out _ (hf.out _))) | (go_at_call 11; with_reducible exact calls_below hf hs9 (R1.out _ (hf.out _))) | (go_at_call 11; with_reducible exact calls_below hf hs9 (R2.out _ (hf.out _)))))
          refine wpQuiet_nil ?_
          intro U hU
          have HB := hid (HW.out.2.2.1.trans (hU.mono HW.out.2.2.1.size))
          have CW := hid (awake_any U)
          clear k1 k2 k3 j1 j2 j3 hU hf hs9
          go_wp2_with fail
          refine CW.out.mono ?_
          rintro e V ⟨rfl, b1⟩
          have HZ := hid (HB.out.trans (b1.mono HB.out.size))
          clear b1 CW
          go_wp2
          go_ret
          exact ⟨rfl, HZ.out⟩
        · have hxy' : (x == y) = false := by rw [beq_eq_false_iff_ne]; exact hxy
          have HNE := hid hxy
          clear hxy
          go_enter Try.func6, Try.ntmps6
          go_upto_region 1 with fail
          rw [← hW]
          clear hW
          refine wp_region_below (by kernel_rfl) (by kernel_rfl) ?_
          intro X f _ hf hs9
          have k0 := fun q => ((hf.out q).block _ (heap_lt x0)).trans x0
          have k1 := fun q => (cells3 (k0 q)).1
          have k2 := fun q => (cells3 (k0 q)).2.1
          have k3 := fun q => (cells3 (k0 q)).2.2
          have j0 := fun q => ((hf.out q).block _ (heap_lt y0)).trans y0
          have j1 := fun q => (cells3 (j0 q)).1
          have j2 := fun q => (cells3 (j0 q)).2.1
          have j3 := fun q => (cells3 (j0 q)).2.2
          clear k0 j0
          repeat (go_big_quiet_step (first | (go_at_call 13; with_reducible exact calls_below hf hs9 (C1.out _ (hf.out _))) | (go_at_call 13; with_reducible exact calls_below hf hs9 (C2.out _ (hf.out _))) | (go_at_call 11; with_reducible exact calls_below hf hs9 (R1.out _ (hf.out _))) | (go_at_call 11; with_reducible exact calls_below hf hs9 (R2.out _ (hf.out _)))))
          refine wpQuiet_nil ?_
          intro U hU
          have HB := hid (And.intro (HW.out.2.2.1.trans (hU.mono HW.out.2.2.1.size)) (And.intro ((hU.block _ (heap_lt x0)).trans x0) ((hU.block _ (heap_lt y0)).trans y0)))
          clear k1 k2 k3 j1 j2 j3 hU hf hs9 C1 C2 R1 R2
          have CD := hid (difference_any U D E n k m l HVV.out.1 HVV.out.2 a1 n1 c1 a2 n2 c2 a3 n3 c3 (HW.out.2.2.2.1.below HB.out.1) b1 m1 d1 b2 m2 d2 b3 m3 d3 (HW.out.2.2.2.2.below HB.out.1))
          obtain ⟨e0, e1, e2⟩ := cells3 HB.out.2.1
          obtain ⟨f0, f1, f2⟩ := cells3 HB.out.2.2
          go_wp2_with fail
          refine CD.out.mono ?_
          rintro e V ⟨hd, bV⟩
          rcases hd with ⟨t, rfl, hdif, hleast⟩ | ⟨rfl, hall⟩
          · have hst := hleast s.data.toList (by rw [← HXY.out.1, ← HXY.out.2]; exact HNE.out)
            have hord := vl_order hst
            have hts : t.size ≤ s.size := by
              have h1 : t.data.toList.length = t.size := rfl
              have h2 : s.data.toList.length = s.size := rfl
              omega
            have HO := hid (And.intro hdif hord)
            have HV := hid (And.intro (HB.out.1.trans (bV.mono HB.out.1.size)) (And.intro ((bV.block _ (heap_lt HB.out.2.1)).trans HB.out.2.1) ((bV.block _ (heap_lt HB.out.2.2)).trans HB.out.2.2)))
            clear hdif hleast hst hord bV CD e0 e1 e2 f0 f1 f2
            have CA := hid (fun (X : World) (hX : Below V.heap.size V X) => awake_any X)
            have R1 := fun (X : World) (hX : Below V.heap.size V X) => dRun_any X D n k HVV.out.1 a1 n1 c1 a2 n2 c2 a3 n3 c3 (HW.out.2.2.2.1.below (HV.out.1.trans (hX.mono HV.out.1.size))) t (by omega)
            have R2 := fun (X : World) (hX : Below V.heap.size V X) => dRun_any X E m l HVV.out.2 b1 m1 d1 b2 m2 d2 b3 m3 d3 (HW.out.2.2.2.2.below (HV.out.1.trans (hX.mono HV.out.1.size))) t (by omega)
            obtain ⟨p, hp⟩ : ∃ p, p = rn D 0 t.data.toList := ⟨_, rfl⟩
            obtain ⟨q, hq⟩ : ∃ q, q = rn E 0 t.data.toList := ⟨_, rfl⟩
            have hpq : ¬ p = q := by rw [hp, hq]; exact HO.out.1
            have hpq' : (p == q) = false := by rw [beq_eq_false_iff_ne]; exact hpq
            have hpq2 : (p != q) = true := by rw [bne, hpq']; rfl
            rw [← hp] at R1
            rw [← hq] at R2
            have R1 := hid R1
            have R2 := hid R2
            clear hp hq hpq
            have x0 := HV.out.2.1
            have y0 := HV.out.2.2
            obtain ⟨z, hz⟩ : ∃ z, z = (Op.bytesLess t.data.toList s.data.toList || t.data.toList == s.data.toList) := ⟨_, rfl⟩
            have hz2 : (Op.bytesLess t.toList s.toList || t.toList == s.toList) = z := by rw [hz]; simp only [ByteArray.toList_eq]
            have hcase : t.size < s.size ∨ (t.size = s.size ∧ z = true) := by
              have h3 := HO.out.2
              rw [hz]; exact h3
            clear hz
            rcases hcase with hlt | ⟨heq, rfl⟩
            · have hlt' : (t.size : Int) < (s.size : Int) := by omega
              go_wp2_with fail
              refine wp_region_below (by kernel_rfl) (by kernel_rfl) ?_
              intro X f _ hf hs9
              have k0 := fun q => ((hf.out q).block _ (heap_lt x0)).trans x0
              have k1 := fun q => (cells3 (k0 q)).1
              have k2 := fun q => (cells3 (k0 q)).2.1
              have k3 := fun q => (cells3 (k0 q)).2.2
              have j0 := fun q => ((hf.out q).block _ (heap_lt y0)).trans y0
              have j1 := fun q => (cells3 (j0 q)).1
              have j2 := fun q => (cells3 (j0 q)).2.1
              have j3 := fun q => (cells3 (j0 q)).2.2
              clear k0 j0
              repeat (go_big_quiet_step (first | (go_at_call 8; with_reducible exact calls_below hf hs9 (CA.out _ (hf.out _))) | (go_at_call 11; with_reducible exact calls_below hf hs9 (R1.out _ (hf.out _))) | (go_at_call 11; with_reducible exact calls_below hf hs9 (R2.out _ (hf.out _)))))
              refine wpQuiet_nil ?_
              intro U hU
              have HZ := hid (HV.out.1.trans (hU.mono HV.out.1.size))
              clear k1 k2 k3 j1 j2 j3 hU hf hs9
              go_wp2
              go_ret
              exact ⟨rfl, HZ.out⟩
            · have hlt : ¬ t.size < s.size := by omega
              have hlt' : ¬ (t.size : Int) < (s.size : Int) := by omega
              have heq' : ((t.size : Int) == (s.size : Int)) = true := by rw [beq_iff_eq]; omega
              have heq2 : (t.size == s.size) = true := by rw [beq_iff_eq]; omega
              clear heq
              go_wp2_with fail
              refine wp_region_below (by kernel_rfl) (by kernel_rfl) ?_
              intro X f _ hf hs9
              have k0 := fun q => ((hf.out q).block _ (heap_lt x0)).trans x0
              have k1 := fun q => (cells3 (k0 q)).1
              have k2 := fun q => (cells3 (k0 q)).2.1
              have k3 := fun q => (cells3 (k0 q)).2.2
              have j0 := fun q => ((hf.out q).block _ (heap_lt y0)).trans y0
              have j1 := fun q => (cells3 (j0 q)).1
              have j2 := fun q => (cells3 (j0 q)).2.1
              have j3 := fun q => (cells3 (j0 q)).2.2
              clear k0 j0
              repeat (go_big_quiet_step (first | (go_at_call 8; with_reducible exact calls_below hf hs9 (CA.out _ (hf.out _))) | (go_at_call 11; with_reducible exact calls_below hf hs9 (R1.out _ (hf.out _))) | (go_at_call 11; with_reducible exact calls_below hf hs9 (R2.out _ (hf.out _)))))
              refine wpQuiet_nil ?_
              intro U hU
              have HZ := hid (HV.out.1.trans (hU.mono HV.out.1.size))
              clear k1 k2 k3 j1 j2 j3 hU hf hs9
              go_wp2
              go_ret
              exact ⟨rfl, HZ.out⟩
          · exact absurd (hall s.data.toList) (by rw [← HXY.out.1, ← HXY.out.2]; exact HNE.out)

theorem lifted (os : Os) (started : os.Started) (H : Type) (enc : TypeId × Value → H) :
    ReturnsInHanded {} Try.checked os 6 .any (Rows.dfaDifferenceLeastSpec.pre6 enc Try.prog Try.f6 Rows.dfaDifferenceLeastRow.domain false) (Rows.dfaDifferenceLeastSpec.post enc Try.prog Try.f6 false true false false) := by
  refine Go.Frame.lifted (C := Try.checked) (tb := 4) own started (by kernel_rfl) Try.func6
    (ChangeSpec.witness6 (enc := enc) (C := Try.checked) false ⟨#[], #[.agg #[.slice none 0 0, .slice none 0 0, .slice none 0 0], .agg #[.slice none 0 0, .slice none 0 0, .slice none 0 0], .string ByteArray.empty], []⟩ 8 (by kernel_rfl) (by kernel_rfl) (by kernel_rfl) (by kernel_rfl))
    laidOut (by kernel_rfl) (by kernel_rfl) Try.underlying4 rfl ?_ ?_
  · intro ds h
    have h : ds.length = 3 := h
    match ds, h with
    | [_, _, _], _ => rfl
  · intro W base args ds p hlen hval0 hA hsz0
    have hval : ∀ (j : Nat) t v, Try.f6.params[j]? = some t → args[j]? = some v → Value.okWide Try.prog W .any base t v := hval0
    have hA : DataW.TrodAll enc Try.prog W 0 (fun _ => true) true Try.f6.params.toList args.toList ds p := hA
    have hsz : (DataW.weightsEach Try.prog Try.f6.params.toList ds).all (· ≤ reachBytes) = true := hsz0
    rw [Try.params6] at hA hval hsz
    obtain ⟨v0, vs0, d0, ds0, p0, q0, hargs, hds, _, th0, tr0⟩ := trodAll_cons hA
    obtain ⟨v1, vs1, d1, ds1, p1, q1, rfl, rfl, _, th1, tr1⟩ := trodAll_cons tr0
    obtain ⟨v2, vs2, d2, ds2, p2, q2, rfl, rfl, _, th2, tr2⟩ := trodAll_cons tr1
    obtain ⟨rfl, rfl, _⟩ := trodAll_nil tr2
    obtain rfl : args = #[v0, v1, v2] := by cases args; simp_all
    subst hds
    obtain ⟨Du0, a1x0, n1x0, c1x0, a2x0, n2x0, c2x0, a3x0, n3x0, c3x0, rfl, hDu0⟩ := open_dfa (hval 0 25 v0 rfl rfl) th0 (fun n hn => of_decide_eq_true (List.all_eq_true.1 hsz _ (DataW.weights_mem_each (j := 0) rfl rfl n hn)))
    obtain ⟨Du1, a1x1, n1x1, c1x1, a2x1, n2x1, c2x1, a3x1, n3x1, c3x1, rfl, hDu1⟩ := open_dfa (hval 1 25 v1 rfl rfl) th1 (fun n hn => of_decide_eq_true (List.all_eq_true.1 hsz _ (DataW.weights_mem_each (j := 1) rfl rfl n hn)))
    obtain ⟨t2, rfl, hd2, _, _⟩ := open_string Try.underlying9 (hval 2 9 v2 rfl rfl) th2
    have hs2 : t2.size ≤ 140737488351232 := of_decide_eq_true (List.all_eq_true.1 hsz _ (DataW.weights_mem_each (j := 2) rfl rfl _ (by rw [hd2]; simp [DataW.weights])))
    exact walk Du0 a1x0 n1x0 c1x0 a2x0 n2x0 c2x0 a3x0 n3x0 c3x0 Du1 a1x1 n1x1 c1x1 a2x1 n2x1 c2x1 a3x1 n3x1 c3x1 t2 W hDu0 hDu1 hs2

theorem over : Rows.dfaDifferenceLeastRow.holds Try.pinned (OpenSpec.ofChange Rows.dfaDifferenceLeastSpec) :=
  OpenClaim.holds_of_wide 6 Try.f6 rfl rfl rfl rfl rfl rfl rfl ⟨rfl, rfl, rfl, rfl, rfl⟩ rfl rfl rfl rfl rfl (by kernel_rfl) Try.func6 (by kernel_rfl)
    (of_decide_eq_true (by kernel_rfl)) (by unfold Func.isWrapper; first | (rw [if_pos (by decide +kernel)]; kernel_rfl) | (rw [if_neg (by decide +kernel)]; exact ⟨rfl, rfl⟩))
    (fun os started H enc _ => lifted os started H enc)

/-- THE STATEMENT -/
theorem proved : Rows.DfaDifferenceLeastSaid :=
  over
#print axioms proved
end Go.Proofs.Ytelbagaiijffdaa.dfaDifferenceLeast
