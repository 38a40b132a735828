/-
  TextdiffHullTransforms, for every input: the law returns true and leaves its arguments as they read. No condition.
-/
import Derived.Test.YtahikgdgbgclkaaN
import Derived.Test.YtahikgdgbgclkaaJ
import Derived.Test.YtahikgdgbgclkaaK
set_option linter.unusedSimpArgs false
set_option linter.unusedVariables false
namespace Go.Proofs.Ytahikgdgbgclkaa.textdiffHullTransforms
open Go.ChangeShapes Go.WideShapes Go.ChangeAt Go.RowKit Go.Frame
open Go.ChangeMaps (open_string shut_string)
open Te
theorem hull_ends (a b : ByteArray) : ∃ (p d : Nat) (s u : ByteArray), hull a b = ((p : Int), (d : Int), s) ∧ p + d ≤ a.size ∧ s.size ≤ b.size ∧ u = a.extract p (p + d) ∧ u.size = d ∧
    (∀ (h1 : 0 < u.size) (h2 : 0 < s.size), ¬ ((u[0]'h1).toNat : Int) = ((s[0]'h2).toNat : Int) ∧ ¬ ((u[u.size - 1]'(by omega)).toNat : Int) = ((s[s.size - 1]'(by omega)).toNat : Int)) := by
  have h1 := cp_le a b
  have h2 := hs_le a b
  obtain ⟨P, X, Y, Q, e1, e2, e3, e4, e5, e6, e7, e8, e9⟩ := hull_parts a b
  refine ⟨cp a b, a.size - cp a b - hs a b, b.extract (cp a b) (b.size - hs a b), a.extract (cp a b) (cp a b + (a.size - cp a b - hs a b)), rfl, by omega, by rw [ByteArray.size_extract]; omega, rfl, by rw [ByteArray.size_extract]; omega, ?_⟩
  have eu : a.extract (cp a b) (cp a b + (a.size - cp a b - hs a b)) = a.extract (cp a b) (a.size - hs a b) := by congr 1; omega
  rw [eu]
  intro h1 h2
  have x0 := L_at h1
  have y0 := L_at h2
  have x1 := L_at (s := a.extract (cp a b) (a.size - hs a b)) (i := (a.extract (cp a b) (a.size - hs a b)).size - 1) (by omega)
  have y1 := L_at (s := b.extract (cp a b) (b.size - hs a b)) (i := (b.extract (cp a b) (b.size - hs a b)).size - 1) (by omega)
  have lx : X.length = (a.extract (cp a b) (a.size - hs a b)).size := by rw [← e7, L_len]
  have ly : Y.length = (b.extract (cp a b) (b.size - hs a b)).size := by rw [← e6, L_len]
  rw [e7] at x0 x1
  rw [e6] at y0 y1
  exact ⟨fun e => e8 _ _ x0 y0 (byte_eq.2 e), fun e => e9 _ _ (by rw [lx]; exact x1) (by rw [ly]; exact y1) (byte_eq.2 e)⟩
set_option maxRecDepth 100000 in
set_option maxHeartbeats 8000000 in
theorem walk (a b : ByteArray) (w : World) (ha : a.size ≤ 140737488351232) (hb : b.size ≤ 140737488351232) :
    Calls Try.prog 8 #[.string a, .string b] w fun e w' => e = .returned (.bool true) ∧ Below w.heap.size w w' := by
  go_enter Try.func8, Try.ntmps8
  go_wp2_with fail
  refine (awake_any w).mono ?_
  rintro e w1 ⟨rfl, b1⟩
  have B1 := hid b1
  clear b1
  go_wp2_with fail
  refine (few_any a b w1).mono ?_
  rintro e w1' ⟨rfl, rfl⟩
  by_cases hF : Few a b
  · rw [decide_eq_true hF]
    have h1 : a.size ≤ 10000 := by have := hF.1; omega
    have h2 : b.size ≤ 10000 := by have := hF.2; omega
    clear hF
    obtain ⟨p, d, s, u, hh, hpd, hsb, hu, hus, hends⟩ := hull_ends a b
    obtain ⟨g1, g2, _⟩ := hull_good a b
    have CH := hid (fun w' => Hull_any a b w' h1 h2)
    have CR := hid (fun w' => rHull_any a b w' h1 h2)
    rw [hh] at g1 g2 CH CR
    unfold edv at CH CR
    have G := hid (And.intro g1 g2)
    have HE := hid hends
    have HU := hid hu
    clear hh g1 g2 hends hu
    go_wp2_with fail
    refine (CH.out _).mono ?_
    rintro e w2 ⟨rfl, b2⟩
    have B2 := hid (B1.out.trans (b2.mono B1.out.size))
    clear b2
    go_wp2_with fail
    obtain ⟨V, hV⟩ : ∃ V, V = ((w2.alloc (.cells #[.int .i64 (p : Int), .int .i64 (d : Int), .string s] 30)).alloc (.cells #[.int .i64 (p : Int), .int .i64 (d : Int), .string s] 30)) := ⟨_, rfl⟩
    obtain ⟨v1, v2, v3, v4⟩ := two w2 (.cells #[.int .i64 (p : Int), .int .i64 (d : Int), .string s] 30) (.cells #[.int .i64 (p : Int), .int .i64 (d : Int), .string s] 30)
    rw [← hV] at v1 v2 v3 v4 ⊢
    have X0 := hid (fun W' (h : Below V.heap.size V W') => (h.block w2.heap.size (by omega)).trans v1)
    have BV := hid (B2.out.trans (v3.mono B2.out.size))
    have RV := hid (erow_one (x := ((p : Int), (d : Int), s)) v2)
    clear hV v1 v2 v3 v4
    refine (together_any a b (some ⟨w2.heap.size + 1, 0, none⟩) 1 1 [((p : Int), (d : Int), s)] V h1 (by omega) (by omega) G.out.1 G.out.2 RV.out).mono ?_
    rintro e w3 ⟨rfl, b3⟩
    have B3 := hid (BV.out.trans (b3.mono BV.out.size))
    have X3 := hid (fun W' (h : Below w3.heap.size w3 W') => X0.out W' (b3.trans (h.mono b3.size)))
    obtain ⟨c0, c1, c2⟩ := cells3 (X3.out _ (Below.refl _ _))
    have e1 : (b.toList == b.toList) = true := by simp
    clear b3
    go_wp2_with fail
    refine wp_region_below (by kernel_rfl) (by kernel_rfl) ?_
    intro X f _ hf hs
    have k0 := fun x => (cells3 (X3.out _ (hf.out x))).1
    have k1 := fun x => (cells3 (X3.out _ (hf.out x))).2.1
    have k2 := fun x => (cells3 (X3.out _ (hf.out x))).2.2
    repeat (go_big_quiet_step (first | (go_at_call 19; exact calls_below hf hs (CR.out _))))
    refine wpQuiet_nil ?_
    intro Y hY
    have B4 := hid (B3.out.trans (hY.mono B3.out.size))
    obtain ⟨y0, y1, y2⟩ := cells3 (X3.out _ hY)
    clear hY k0 k1 k2 c0 c1 c2 hf hs
    have q0 : (0 : Int) ≤ (p : Int) := by omega
    have q1 : (0 : Int) ≤ (p : Int) + (d : Int) := by omega
    have q2 : (p : Int) ≤ (p : Int) + (d : Int) := by omega
    have q3 : (p : Int) + (d : Int) ≤ (a.size : Int) := by omega
    have w5 : IntKind.i64.wrap ((p : Int) + (d : Int)) = (p : Int) + (d : Int) := wrapIn (by omega) (by omega)
    go_wp2_with fail
    rw [← HU.out]
    have us : (u.size : Int) ≤ 10000 := by omega
    have ss : (s.size : Int) ≤ 10000 := by omega
    clear hus
    by_cases hu0 : u.size = 0
    · have e2 : ((u.size : Int) == 0) = true := by simp [hu0]
      go_quiet (fail)
      go_wp2
      go_ret
      exact ⟨by first | rfl | simp [hu0], below_drewN B4.out _⟩
    · have e2 : ((u.size : Int) == 0) = false := by simp [hu0]
      have e3 : ¬ (u.size : Int) = 0 := by omega
      by_cases hs0 : s.size = 0
      · have e4 : ((s.size : Int) == 0) = true := by simp [hs0]
        go_quiet (fail)
        go_wp2
        go_ret
        exact ⟨by first | rfl | simp [hs0], below_drewN B4.out _⟩
      · have e4 : ((s.size : Int) == 0) = false := by simp [hs0]
        have e5 : ¬ (s.size : Int) = 0 := by omega
        have u0 : 0 < u.size := by omega
        have s0 : 0 < s.size := by omega
        have u1 : u.size - 1 < u.size := by omega
        have s1 : s.size - 1 < s.size := by omega
        obtain ⟨n1, n2⟩ := HE.out u0 s0
        have i1 : (0 : Int) < (u.size : Int) := by omega
        have i2 : (0 : Int) < (s.size : Int) := by omega
        have w6 : IntKind.i64.wrap ((u.size : Int) - 1) = ((u.size - 1 : Nat) : Int) := by rw [wrapIn (by omega) (by omega)]; omega
        have w7 : IntKind.i64.wrap ((s.size : Int) - 1) = ((s.size - 1 : Nat) : Int) := by rw [wrapIn (by omega) (by omega)]; omega
        have p1 : (0 : Int) ≤ ((u.size - 1 : Nat) : Int) := by omega
        have p2 : (0 : Int) ≤ ((s.size - 1 : Nat) : Int) := by omega
        have p3 : ((u.size - 1 : Nat) : Int) < (u.size : Int) := by omega
        have p4 : ((s.size - 1 : Nat) : Int) < (s.size : Int) := by omega
        go_quiet (fail)
        go_wp2
        go_ret
        exact ⟨by first | rfl | simp [hu0, hs0, n1, n2], below_drewN B4.out _⟩
  · rw [decide_eq_false hF]
    clear hF
    go_wp2
    go_ret
    exact ⟨rfl, B1.out⟩

theorem lifted (os : Os) (started : os.Started) (H : Type) (enc : TypeId × Value → H) :
    ReturnsInHanded {} Try.checked os 8 .any (Rows.textdiffHullTransformsSpec.pre6 enc Try.prog Try.f8 Rows.textdiffHullTransformsRow.domain false) (Rows.textdiffHullTransformsSpec.post enc Try.prog Try.f8 false true false false) := by
  refine Go.Frame.lifted (C := Try.checked) (tb := 4) own started (by kernel_rfl) Try.func8
    (ChangeSpec.witness6 (enc := enc) (C := Try.checked) false ⟨#[], #[.string ByteArray.empty, .string ByteArray.empty], []⟩ 8 (by kernel_rfl) (by kernel_rfl) (by kernel_rfl) (by kernel_rfl))
    laidOut (by kernel_rfl) (by kernel_rfl) Try.underlying4 rfl ?_ ?_
  · intro ds h
    have h : ds.length = 2 := h
    match ds, h with
    | [_, _], _ => rfl
  · intro W base args ds p hlen hval0 hA hsz0
    have hval : ∀ (j : Nat) t v, Try.f8.params[j]? = some t → args[j]? = some v → Value.okWide Try.prog W .any base t v := hval0
    have hA : DataW.TrodAll enc Try.prog W 0 (fun _ => true) true Try.f8.params.toList args.toList ds p := hA
    have hsz : (DataW.weightsEach Try.prog Try.f8.params.toList ds).all (· ≤ reachBytes) = true := hsz0
    rw [Try.params8] at hA hval hsz
    obtain ⟨v0, vs0, d0, ds0, p0, q0, hargs, hds, _, th0, tr0⟩ := trodAll_cons hA
    obtain ⟨v1, vs1, d1, ds1, p1, q1, rfl, rfl, _, th1, tr1⟩ := trodAll_cons tr0
    obtain ⟨rfl, rfl, _⟩ := trodAll_nil tr1
    obtain rfl : args = #[v0, v1] := by cases args; simp_all
    subst hds
    obtain ⟨t0, rfl, hd0, _, _⟩ := open_string Try.underlying9 (hval 0 9 v0 rfl rfl) th0
    have hs0 : t0.size ≤ 140737488351232 := of_decide_eq_true (List.all_eq_true.1 hsz _ (DataW.weights_mem_each (j := 0) rfl rfl _ (by rw [hd0]; simp [DataW.weights])))
    obtain ⟨t1, rfl, hd1, _, _⟩ := open_string Try.underlying9 (hval 1 9 v1 rfl rfl) th1
    have hs1 : t1.size ≤ 140737488351232 := of_decide_eq_true (List.all_eq_true.1 hsz _ (DataW.weights_mem_each (j := 1) rfl rfl _ (by rw [hd1]; simp [DataW.weights])))
    exact walk t0 t1 W hs0 hs1

theorem over : Rows.textdiffHullTransformsRow.holds Try.pinned (OpenSpec.ofChange Rows.textdiffHullTransformsSpec) :=
  OpenClaim.holds_of_wide 8 Try.f8 rfl rfl rfl rfl rfl rfl rfl ⟨rfl, rfl, rfl, rfl, rfl⟩ rfl rfl rfl rfl rfl (by kernel_rfl) Try.func8 (by kernel_rfl)
    (of_decide_eq_true (by kernel_rfl)) (by unfold Func.isWrapper; first | (rw [if_pos (by decide +kernel)]; kernel_rfl) | (rw [if_neg (by decide +kernel)]; exact ⟨rfl, rfl⟩))
    (fun os started H enc _ => lifted os started H enc)

/-- THE STATEMENT -/
theorem proved : Rows.TextdiffHullTransformsSaid :=
  over
#print axioms proved
end Go.Proofs.Ytahikgdgbgclkaa.textdiffHullTransforms
