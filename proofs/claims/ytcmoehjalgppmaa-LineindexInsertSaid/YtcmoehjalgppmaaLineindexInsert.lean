/-
  LineindexInsert, for every input: the law returns true and leaves its arguments as they read. No condition.
-/
import Derived.Test.YtcmoehjalgppmaaI
import Derived.Deep.CutRange
import Derived.Deep.CutBlock
namespace Go.Proofs.Ytcmoehjalgppmaa.lineindexInsert
open Go.ChangeShapes Go.WideShapes Go.ChangeAt Go.RowKit Go.Frame
open Go.ChangeMaps (open_string shut_string)
open Te
theorem open_u16 {H : Type} {enc : TypeId × Value → H} {w : World} {r : Reach} {b0 base : Nat} {sp : Nat → Bool} {held : Bool} {v : Value} {d : DataW H} {p : List MemPlace} (h0 : Value.okWide Try.prog w r b0 52 v) (h : DataW.Trod enc Try.prog w base sp held 52 v d p) :
    ∃ u : Nat, v = .int .u16 (u : Int) ∧ u ≤ 65535 := by
  obtain ⟨m, rfl⟩ := okWide_int Try.underlying52 h0
  obtain ⟨fuel, hf⟩ := h
  obtain ⟨n, hv, _, hw⟩ := DataW.trod_int Try.underlying52 hf
  have e : m = n := by
    have hv' : [Value.int .u16 m] = [Value.int .u16 n] := hv
    simpa using hv'
  subst e
  simp [Lit.wf, IntKind.min, IntKind.max, IntKind.signed, IntKind.bits] at hw
  exact ⟨m.toNat, by rw [Int.toNat_of_nonneg (by omega)], by omega⟩
set_option maxRecDepth 100000 in
set_option maxHeartbeats 4000000 in
theorem walk (s t : ByteArray) (u : Nat) (w : World) (hu : u ≤ 65535) :
    Calls Try.prog 9 #[.string s, .string t, .int .u16 (u : Int)] w fun e w' => e = .returned (.bool true) ∧ Below w.heap.size w w' := by
  by_cases h1 : s.size ≤ 200
  · have h1' : (s.size : Int) ≤ 200 := by omega
    by_cases h2 : t.size ≤ 50
    · have h2' : (t.size : Int) ≤ 50 := by omega
      have H1 := hid h1
      have H2 := hid h2
      clear h1 h2
      go_enter Try.func9, Try.ntmps9
      go_wp2_with fail
      go_loopg [7, 8] t.size (fun k s7 s8 wr => ∃ i : Nat, s7 = .int .i64 (ln t i) ∧ s8 = .int .i64 i ∧ i + k = t.size ∧ w = wr)
      case atStart => exact ⟨0, rfl, rfl, by omega, rfl⟩
      case round =>
        obtain ⟨i, rfl, rfl, hk, rfl⟩ := hrel
        have hi0 : (0 : Int) ≤ (i : Int) := by omega
        have hl := ln_le t i
        have hN := N_le t
        have hl1 : (ln t i : Int) ≤ 50 := by omega
        have hl0 : (0 : Int) ≤ (ln t i : Int) := by omega
        by_cases hlt : i < t.size
        · have hlt' : (i : Int) < (t.size : Int) := by omega
          by_cases hc : nl t i = true
          · have hc' := (nl_byte hlt).1 hc
            have e5 := hid (ln_yes hc)
            clear hc hl hN
            go_wp2
            go_roundg (gk - 1)
            case measure => omega
            case rel => exact ⟨i + 1, by rw [e5.out]; go_num, by go_num, by omega, rfl⟩
          · have hc' : ¬ (t[i].toNat : Int) = 10 := fun h => hc ((nl_byte hlt).2 h)
            have e5 := hid (ln_no hc)
            clear hc hl hN
            go_wp2
            go_roundg (gk - 1)
            case measure => omega
            case rel => exact ⟨i + 1, by rw [e5.out], by go_num, by omega, rfl⟩
        · have hin : ¬ (i : Int) < (t.size : Int) := by omega
          obtain rfl : i = t.size := by omega
          rw [ln_size] at hl0 hl1 ⊢
          clear hl
          go_wp2_with fail
          refine (new_any s w (by have := H1.out; omega)).mono ?_
          rintro e w1 ⟨⟨p, n, q, rfl, hI, _⟩, b1⟩
          obtain ⟨W, hW⟩ : ∃ W, W = w1.alloc (.cells #[.string s, .slice p n q] 26) := ⟨_, rfl⟩
          have bW : Below w.heap.size w W := by rw [hW]; exact b1.alloc b1.size _
          have HI := hid (show ∀ w', Below W.heap.size W w' → Ix w' p n s from fun w' h => (hI.below ((Below.refl _ _).alloc (Nat.le_refl _) (.cells #[.string s, .slice p n q] 26))).below (by rw [← hW]; exact h))
          have hsz := hid (show W.heap.size = w1.heap.size + 1 by rw [hW]; simp)
          have Keep := hid (show ∀ w', Below W.heap.size W w' → w'.cell? ⟨w1.heap.size, 0, none⟩ = some (.string s) ∧ w'.cell? ⟨w1.heap.size, 1, none⟩ = some (.slice p n q) from fun w' h =>
            cells2 ((h.block _ (by rw [hW]; simp)).trans (show W.heap[w1.heap.size]? = _ by rw [hW]; exact alloc_new _ _)))
          have HW := hid hW
          clear hW hI
          go_wp2_with fail
          rw [← HW.out]
          obtain ⟨a, ha⟩ : ∃ a, a = u % (s.size + 1) := ⟨_, rfl⟩
          have hal : a ≤ s.size := by have := Nat.mod_lt u (show 0 < s.size + 1 by omega); omega
          have hf := hid (show Fit s.size ((a : Int), (0 : Int), t) from fit_nat (d := 0).2 (by omega))
          have ht : (u : Int).tmod ((s.size : Int) + 1) = (a : Int) := by rw [ha, Int.tmod_eq_emod_of_nonneg (by omega), Int.natCast_emod]; rfl
          have hu1 : (u : Int) ≤ 65535 := by omega
          have hu0 : (0 : Int) ≤ (u : Int) := by omega
          have hs1 : ¬ ((s.size : Int) + 1 = 0) := by omega
          have hw1 : IntKind.i64.wrap ((s.size : Int) + 1) = (s.size : Int) + 1 := wrapIn (by omega) (by omega)
          have hw2 : IntKind.i64.wrap (u : Int) = (u : Int) := wrapIn (by omega) (by omega)
          have ha2 := hid hal
          clear ha hal
          obtain ⟨k0, k1⟩ := Keep.out _ (Below.refl _ _)
          have l0 : w1.heap.size < W.heap.size := by have := hsz.out; omega
          go_cut [10, 11] from 35 to 47 (fun s10 s11 wx => ∃ (g : Nat) (p' : Option Addr) (n' c' : Nat), s10 = .pointer (some ⟨g, 0, none⟩) ∧ s11 = .int .i64 0 ∧ wx.heap[g]? = some (.cells #[.string (ap s ((a : Int), (0 : Int), t)), .slice p' n' c'] 26 (0, 0)) ∧ Ix wx p' n' (ap s ((a : Int), (0 : Int), t)) ∧ Below W.heap.size W wx)
          case first =>
            go_region_with (go_at_call 20; refine (update_yes s p n q t a 0 _ (by have := H1.out; omega) (by have := H2.out; omega) (by have := ha2.out; omega) hf.out).mono ?_; rintro e y ⟨⟨p', n', c', rfl, hIy, hp⟩, by1⟩; try (have x1 : y.heap[W.heap.size]? = some (.cells #[.string { data := #[] }, .slice none 0 0] 26 (0, 0)) := (by1.block W.heap.size (by simp)).trans (alloc_new _ _); obtain ⟨m0, m1⟩ := cells2 x1; obtain ⟨f0, f1⟩ := free2 x1; have lx := heap_lt x1))
            all_goals (go_wp2_with fail; go_meet)
            all_goals first
              | exact ⟨y.heap.size, p', n', c', rfl, rfl, alloc_new _ _, hIy.below ((Below.refl _ _).alloc (Nat.le_refl _) _), ((Below.refl _ W).drew.trans by1).alloc by1.size _⟩
              | (have hne : ∀ a, p' = some a → a.block ≠ W.heap.size := fun a ha => by have h3 := hp a ha; have h4 : W.heap.size + 1 ≤ a.block := (by simpa using h3); omega
                 refine ⟨W.heap.size, p', n', c', rfl, rfl, two_set1 (two_set0 x1), Row.set (Row.set hIy hne) hne, ?_⟩
                 refine Below.setCell ?_ (by first | exact Nat.le_refl _ | (simp; done) | (simp; omega)) _
                 refine Below.setCell ?_ (by first | exact Nat.le_refl _ | (simp; done) | (simp; omega)) _
                 exact ((Below.refl _ W).alloc (Nat.le_refl _) _).drew.trans (by1.mono (by simp)))
          case rest =>
            obtain ⟨g, p', n', c', rfl, rfl, hg, hIy, hbx⟩ := hcut
            obtain ⟨k2, k3⟩ := cells2 hg
            have hNa : N (ap s ((a : Int), (0 : Int), t)) = N s + N t := N_ap s t a
            have hsa : (ap s ((a : Int), (0 : Int), t)).size ≤ 250 := by
              have := ap_le hf.out
              have h3 : (ap s ((a : Int), (0 : Int), t)).size ≤ s.size + t.size := this
              have := H1.out
              have := H2.out
              omega
            obtain ⟨r, hr⟩ : ∃ r, r = ap s ((a : Int), (0 : Int), t) := ⟨_, rfl⟩
            rw [← hr] at hIy k2 hNa hsa hg
            have HIy := hid (show ∀ w', Below wc.heap.size wc w' → Ix w' p' n' r from fun w' h => hIy.below h)
            have HX := hid (show ∀ w', Below wc.heap.size wc w' → Below W.heap.size W w' from fun w' h => hbx.trans (h.mono hbx.size))
            have HG := hid (show ∀ w', Below wc.heap.size wc w' → w'.cell? ⟨g, 0, none⟩ = some (.string r) ∧ w'.cell? ⟨g, 1, none⟩ = some (.slice p' n' c') from fun w' h => cells2 ((h.block _ (heap_lt hg)).trans hg)) 
            have hNs := N_le s
            have M1 := fun w h => lines_any r p' n' c' w (by omega) h
            rw [hNa] at M1
            have M2 := fun w h => lines_any s p n q w (by omega) h
            have hn1 : IntKind.i64.wrap (((N s : Int) + 1) + (N t : Int)) = (N s : Int) + 1 + (N t : Int) := wrapIn (by omega) (by omega)
            have hn2 : (((N s + N t : Nat) : Int) + 1) = (N s : Int) + 1 + (N t : Int) := by omega
            clear hr k0 k1 k2 k3 hIy hNa hbx hg
            go_wp2_with fail
            refine wp_region_below (by kernel_rfl) (by kernel_rfl) ?_
            intro X f _ hf' hs'
            have k0 := fun x => (Keep.out _ (HX.out _ (hf'.out x))).1
            have k1 := fun x => (Keep.out _ (HX.out _ (hf'.out x))).2
            have k2 := fun x => (HG.out _ (hf'.out x)).1
            have k3 := fun x => (HG.out _ (hf'.out x)).2
            repeat (go_big_quiet_step (first
              | (go_at_call 10; exact calls_below hf' hs' (awake_any _))
              | (go_at_call 19; with_reducible exact calls_below hf' hs' (M1 _ (HIy.out _ (hf'.out _))))
              | (go_at_call 19; with_reducible exact calls_below hf' hs' (M2 _ (HI.out _ (HX.out _ (hf'.out _)))))))
            refine wpQuiet_nil ?_
            intro w' hw'
            go_wp2
            go_ret
            have hbq : ((N s : Int) + (N t : Int) + 1 == (N s : Int) + 1 + (N t : Int)) = true := by simp; omega
            exact ⟨by show Ending.returned (.bool ((N s : Int) + (N t : Int) + 1 == (N s : Int) + 1 + (N t : Int))) = _; rw [hbq], bW.trans ((HX.out _ hw').mono bW.size)⟩
    · have h2' : (50 : Int) < (t.size : Int) := by omega
      go_enter Try.func9, Try.ntmps9
      go_wp2_with fail
      refine (awake_any _).mono ?_
      rintro e w1 ⟨rfl, b1⟩
      go_wp2
      go_ret
      exact ⟨rfl, b1⟩
  · have h1' : (200 : Int) < (s.size : Int) := by omega
    go_enter Try.func9, Try.ntmps9
    go_wp2_with fail
    refine (awake_any _).mono ?_
    rintro e w1 ⟨rfl, b1⟩
    go_wp2
    go_ret
    exact ⟨rfl, b1⟩

theorem lifted (os : Os) (started : os.Started) (H : Type) (enc : TypeId × Value → H) :
    ReturnsInHanded {} Try.checked os 9 .any (Rows.lineindexInsertSpec.pre6 enc Try.prog Try.f9 Rows.lineindexInsertRow.domain false) (Rows.lineindexInsertSpec.post enc Try.prog Try.f9 false true false false) := by
  refine Go.Frame.lifted (C := Try.checked) (tb := 4) own started (by kernel_rfl) Try.func9
    (ChangeSpec.witness6 (enc := enc) (C := Try.checked) false ⟨#[], #[.string ByteArray.empty, .string ByteArray.empty, .int .u16 0], []⟩ 8 (by kernel_rfl) (by kernel_rfl) (by kernel_rfl) (by kernel_rfl))
    laidOut (by kernel_rfl) (by kernel_rfl) Try.underlying4 rfl ?_ ?_
  · intro ds h
    have h : ds.length = 3 := h
    match ds, h with
    | [_, _, _], _ => rfl
  · intro W base args ds p hlen hval0 hA hsz0
    have hval : ∀ (j : Nat) t v, Try.f9.params[j]? = some t → args[j]? = some v → Value.okWide Try.prog W .any base t v := hval0
    have hA : DataW.TrodAll enc Try.prog W 0 (fun _ => true) true Try.f9.params.toList args.toList ds p := hA
    have hsz : (DataW.weightsEach Try.prog Try.f9.params.toList ds).all (· ≤ reachBytes) = true := hsz0
    rw [Try.params9] at hA hval hsz
    obtain ⟨v0, vs0, d0, ds0, p0, q0, hargs, hds, _, th0, tr0⟩ := trodAll_cons hA
    obtain ⟨v1, vs1, d1, ds1, p1, q1, rfl, rfl, _, th1, tr1⟩ := trodAll_cons tr0
    obtain ⟨v2, vs2, d2, ds2, p2, q2, rfl, rfl, _, th2, tr2⟩ := trodAll_cons tr1
    obtain ⟨rfl, rfl, _⟩ := trodAll_nil tr2
    obtain rfl : args = #[v0, v1, v2] := by cases args; simp_all
    subst hds
    obtain ⟨t0, rfl, _, _, _⟩ := open_string Try.underlying9 (hval 0 9 v0 rfl rfl) th0
    obtain ⟨t1, rfl, _, _, _⟩ := open_string Try.underlying9 (hval 1 9 v1 rfl rfl) th1
    obtain ⟨u2, rfl, hu2⟩ := open_u16 (hval 2 52 v2 rfl rfl) th2
    exact walk t0 t1 u2 W hu2

theorem over : Rows.lineindexInsertRow.holds Try.pinned (OpenSpec.ofChange Rows.lineindexInsertSpec) :=
  OpenClaim.holds_of_wide 9 Try.f9 rfl rfl rfl rfl rfl rfl rfl ⟨rfl, rfl, rfl, rfl, rfl⟩ rfl rfl rfl rfl rfl (by kernel_rfl) Try.func9 (by kernel_rfl)
    (of_decide_eq_true (by kernel_rfl)) (by unfold Func.isWrapper; first | (rw [if_pos (by decide +kernel)]; kernel_rfl) | (rw [if_neg (by decide +kernel)]; exact ⟨rfl, rfl⟩))
    (fun os started H enc _ => lifted os started H enc)

/-- THE STATEMENT -/
theorem proved : Rows.LineindexInsertSaid :=
  over
#print axioms proved
end Go.Proofs.Ytcmoehjalgppmaa.lineindexInsert
