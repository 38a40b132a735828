/-
  TextdiffOneEdit, for every input: the law returns true and leaves its arguments as they read. No condition.
-/
import Derived.Test.YtahikgdgbgclkaaN
import Derived.Test.YtahikgdgbgclkaaK
set_option linter.unusedSimpArgs false
set_option linter.unusedVariables false
namespace Go.Proofs.Ytahikgdgbgclkaa.textdiffOneEdit
open Go.ChangeShapes Go.WideShapes Go.ChangeAt Go.RowKit Go.Frame
open Go.ChangeMaps (open_string shut_string)
open Te
set_option maxRecDepth 100000 in
set_option maxHeartbeats 8000000 in
theorem walk (a : ByteArray) (x y : Int) (t : ByteArray) (w : World) (ha : a.size ≤ 140737488351232) (hI : In (x, y, t)) :
    Calls Try.prog 9 #[.string a, .agg #[.int .i64 x, .int .i64 y, .string t]] w fun e w' => e = .returned (.bool true) ∧ Below w.heap.size w w' := by
  have hts : t.size ≤ 140737488351232 := hI.2.2.2.2
  obtain ⟨W, hW⟩ : ∃ W, W = w.alloc (.cells #[.int .i64 x, .int .i64 y, .string t] 30) := ⟨_, rfl⟩
  have bW : Below w.heap.size w W := by rw [hW]; exact (Below.refl _ _).alloc (Nat.le_refl _) _
  have hsz : w.heap.size < W.heap.size := by rw [hW]; simp
  have K0 := hid (fun W' (h : Below W.heap.size W W') => (h.block w.heap.size hsz).trans (show W.heap[w.heap.size]? = some (.cells #[.int .i64 x, .int .i64 y, .string t] 30 (0, 0)) by rw [hW]; exact alloc_new _ _))
  have HW := hid hW
  clear hW
  go_enter Try.func9, Try.ntmps9
  go_wp2_with fail
  rw [← HW.out]
  refine (awake_any W).mono ?_
  rintro e w1 ⟨rfl, b1⟩
  have B1 := hid b1
  obtain ⟨c0, c1, c2⟩ := cells3 (K0.out _ b1)
  clear b1
  go_wp2_with fail
  refine (rapply_any a t x y w1 ha hts).mono ?_
  rintro e w2 ⟨rfl, b2⟩
  have B2 := hid (B1.out.trans (b2.mono B1.out.size))
  clear b2 c0 c1 c2
  by_cases hf : Fit a.size (x, y, t)
  · rw [apv_yes hf]
    obtain ⟨p, d, t', he, hl⟩ := hf.nat
    simp only [Prod.mk.injEq] at he
    obtain ⟨rfl, rfl, rfl⟩ := he
    obtain ⟨b, hb⟩ : ∃ b, b = ap a ((p : Int), (d : Int), t) := ⟨_, rfl⟩
    obtain ⟨g1, g2, g3, g4⟩ := ap_hull hl hb
    have g5 := ap_dist (t := t) hl
    have g6 := hull_dist a b
    rw [← hb] at g5 ⊢
    clear hf hb hI
    go_wp2_with fail
    refine (few_any a b w2).mono ?_
    rintro e w2' ⟨rfl, rfl⟩
    by_cases hF : Few a b
    · rw [decide_eq_true hF]
      have h1 : a.size ≤ 10000 := by have := hF.1; omega
      have h2 : b.size ≤ 10000 := by have := hF.2; omega
      clear hF
      obtain ⟨_, _, _, gs⟩ := hull_good a b
      obtain ⟨q, hq⟩ : ∃ q, q = cp a b := ⟨_, rfl⟩
      obtain ⟨m, hm⟩ : ∃ m, m = a.size - cp a b - hs a b := ⟨_, rfl⟩
      obtain ⟨s, hs'⟩ : ∃ s, s = b.extract (cp a b) (b.size - hs a b) := ⟨_, rfl⟩
      have hh : hull a b = ((q : Int), (m : Int), s) := by unfold hull; rw [hq, hm, hs']
      rw [hh] at gs
      simp only at gs
      have CH := hid (fun w' => Hull_any a b w' h1 h2)
      have CD := hid (fun w' => Distance_any a b w' h1 h2)
      rw [hh] at CH
      unfold edv at CH
      have hD : D a b 0 0 = dist (L a) (L b) := rfl
      rw [← hD] at g5 g6
      rw [← gs] at g3 g4 g6
      rw [← hm] at g2 g4 g6
      obtain ⟨dd, hdd⟩ : ∃ dd, dd = D a b 0 0 := ⟨_, rfl⟩
      rw [← hdd] at g5 g6 CD
      clear hD hdd hq hm hs' hh gs
      have a1 : ((dd : Nat) : Int) ≤ (d : Int) + (t.size : Int) := by omega
      have a2 : ((dd : Nat) : Int) ≤ (m : Int) + (s.size : Int) := by omega
      have a3 : (m : Int) - (s.size : Int) = (d : Int) - (t.size : Int) := by omega
      have a4 : (m : Int) ≤ (d : Int) := by omega
      have a5 : (s.size : Int) ≤ (t.size : Int) := by omega
      have b1 : (d : Int) ≤ 20000 := by omega
      have b2 : (t.size : Int) ≤ 20000 := by omega
      have b3 : (0 : Int) ≤ (d : Int) := by omega
      have b4 : (0 : Int) ≤ (t.size : Int) := by omega
      have b5 : (0 : Int) ≤ (m : Int) := by omega
      have b6 : (0 : Int) ≤ (s.size : Int) := by omega
      have a6 : m ≤ d := g2
      have a7 : s.size ≤ t.size := g3
      have a8 : dd ≤ d + t.size := g5
      have a9 : dd ≤ m + s.size := g6
      clear g1 g2 g3 g4 g5 g6
      go_wp2_with fail
      refine (CH.out _).mono ?_
      rintro e w3 ⟨rfl, b3'⟩
      have B3 := hid (B2.out.trans (b3'.mono B2.out.size))
      clear b3'
      go_wp2_with fail
      obtain ⟨V, hV⟩ : ∃ V, V = w3.alloc (.cells #[.int .i64 (q : Int), .int .i64 (m : Int), .string s] 30) := ⟨_, rfl⟩
      have BV := hid (show Below W.heap.size W V by rw [hV]; exact B3.out.alloc B3.out.size _)
      have X0 := hid (fun W' (h : Below V.heap.size V W') => (h.block w3.heap.size (by rw [hV]; simp)).trans (show V.heap[w3.heap.size]? = some (.cells #[.int .i64 (q : Int), .int .i64 (m : Int), .string s] 30 (0, 0)) by rw [hV]; exact alloc_new _ _))
      rw [← hV]
      clear hV
      refine wp_region_below (by kernel_rfl) (by kernel_rfl) ?_
      intro X f _ hf hs
      have k0 := fun x => (cells3 (X0.out _ (hf.out x))).1
      have k1 := fun x => (cells3 (X0.out _ (hf.out x))).2.1
      have k2 := fun x => (cells3 (X0.out _ (hf.out x))).2.2
      have l1 := fun x => (cells3 (K0.out _ (BV.out.trans ((hf.out x).mono BV.out.size)))).2.1
      have l2 := fun x => (cells3 (K0.out _ (BV.out.trans ((hf.out x).mono BV.out.size)))).2.2
      repeat (go_big_quiet_step (first | (go_at_call 12; exact calls_below hf hs (CD.out _))))
      refine wpQuiet_nil ?_
      intro Y hY
      have BY := bW.trans ((BV.out.trans (hY.mono BV.out.size)).mono bW.size)
      go_wp2
      go_ret
      refine ⟨?_, BY⟩
      first | rfl | (simp; done) | (simp; omega)
    · rw [decide_eq_false hF]
      clear hF
      go_wp2
      go_ret
      exact ⟨rfl, bW.trans (B2.out.mono bW.size)⟩
  · rw [apv_no hf]
    clear hf
    go_wp2
    go_ret
    exact ⟨rfl, bW.trans (B2.out.mono bW.size)⟩

theorem lifted (os : Os) (started : os.Started) (H : Type) (enc : TypeId × Value → H) :
    ReturnsInHanded {} Try.checked os 9 .any (Rows.textdiffOneEditSpec.pre6 enc Try.prog Try.f9 Rows.textdiffOneEditRow.domain false) (Rows.textdiffOneEditSpec.post enc Try.prog Try.f9 false true false false) := by
  refine Go.Frame.lifted (C := Try.checked) (tb := 4) own started (by kernel_rfl) Try.func9
    (ChangeSpec.witness6 (enc := enc) (C := Try.checked) false ⟨#[], #[.string ByteArray.empty, .agg #[.int .i64 0, .int .i64 0, .string ByteArray.empty]], []⟩ 8 (by kernel_rfl) (by kernel_rfl) (by kernel_rfl) (by kernel_rfl))
    laidOut (by kernel_rfl) (by kernel_rfl) Try.underlying4 rfl ?_ ?_
  · intro ds h
    have h : ds.length = 2 := h
    match ds, h with
    | [_, _], _ => rfl
  · intro W base args ds p hlen hval0 hA hsz0
    have hval : ∀ (j : Nat) t v, Try.f9.params[j]? = some t → args[j]? = some v → Value.okWide Try.prog W .any base t v := hval0
    have hA : DataW.TrodAll enc Try.prog W 0 (fun _ => true) true Try.f9.params.toList args.toList ds p := hA
    have hsz : (DataW.weightsEach Try.prog Try.f9.params.toList ds).all (· ≤ reachBytes) = true := hsz0
    rw [Try.params9] at hA hval hsz
    obtain ⟨v0, vs0, d0, ds0, p0, q0, hargs, hds, _, th0, tr0⟩ := trodAll_cons hA
    obtain ⟨v1, vs1, d1, ds1, p1, q1, rfl, rfl, _, th1, tr1⟩ := trodAll_cons tr0
    obtain ⟨rfl, rfl, _⟩ := trodAll_nil tr1
    obtain rfl : args = #[v0, v1] := by cases args; simp_all
    subst hds
    obtain ⟨t0, rfl, hd0, _, _⟩ := open_string Try.underlying9 (hval 0 9 v0 rfl rfl) th0
    have hs0 : t0.size ≤ 140737488351232 := of_decide_eq_true (List.all_eq_true.1 hsz _ (DataW.weights_mem_each (j := 0) rfl rfl _ (by rw [hd0]; simp [DataW.weights])))
    obtain ⟨a1, d1, s1, rfl, h1⟩ := open_edit (hval 1 30 v1 rfl rfl) th1 (fun n hn => of_decide_eq_true (List.all_eq_true.1 hsz _ (DataW.weights_mem_each (j := 1) rfl rfl n hn)))
    exact walk t0 a1 d1 s1 W hs0 h1

theorem over : Rows.textdiffOneEditRow.holds Try.pinned (OpenSpec.ofChange Rows.textdiffOneEditSpec) :=
  OpenClaim.holds_of_wide 9 Try.f9 rfl rfl rfl rfl rfl rfl rfl ⟨rfl, rfl, rfl, rfl, rfl⟩ rfl rfl rfl rfl rfl (by kernel_rfl) Try.func9 (by kernel_rfl)
    (of_decide_eq_true (by kernel_rfl)) (by unfold Func.isWrapper; first | (rw [if_pos (by decide +kernel)]; kernel_rfl) | (rw [if_neg (by decide +kernel)]; exact ⟨rfl, rfl⟩))
    (fun os started H enc _ => lifted os started H enc)

/-- THE STATEMENT -/
theorem proved : Rows.TextdiffOneEditSaid :=
  over
#print axioms proved
end Go.Proofs.Ytahikgdgbgclkaa.textdiffOneEdit
