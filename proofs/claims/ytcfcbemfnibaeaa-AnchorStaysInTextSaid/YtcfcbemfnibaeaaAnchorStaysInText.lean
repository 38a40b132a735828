/-
  AnchorStaysInText, for every input: the law returns true and leaves its arguments as they read. No condition.
-/
import Derived.Test.YtcfcbemfnibaeaaD
namespace Go.Proofs.Ytcfcbemfnibaeaa.anchorStaysInText
open Go.ChangeShapes Go.WideShapes Go.ChangeAt Go.RowKit Go.Frame
open Go.ChangeMaps (open_string shut_string)

set_option maxRecDepth 100000 in
set_option maxHeartbeats 2000000 in
theorem fits_yes (a d : Int) (s : ByteArray) (n : Int) (w : World) (h0 : 0 ≤ n) (hn : n ≤ 1000000) (h : 0 ≤ a ∧ 0 ≤ d ∧ a ≤ n ∧ d ≤ n - a) :
    Calls Try.prog 12 #[.agg #[.int .i64 a, .int .i64 d, .string s], .int .i64 n] w fun e w' => e = .returned (.bool true) ∧ Below w.heap.size w w' := by
  obtain ⟨h1, h2, h3, h4⟩ := h
  go_enter Try.func12, Try.ntmps12
  go_wp2
  go_ret
  exact ⟨rfl, (Below.refl _ _).alloc (Nat.le_refl _) _⟩
set_option maxRecDepth 100000 in
set_option maxHeartbeats 2000000 in
theorem fits_no (a d : Int) (s : ByteArray) (n : Int) (w : World) (h0 : 0 ≤ n) (hn : n ≤ 1000000) (h : ¬ (0 ≤ a ∧ 0 ≤ d ∧ a ≤ n ∧ d ≤ n - a)) :
    Calls Try.prog 12 #[.agg #[.int .i64 a, .int .i64 d, .string s], .int .i64 n] w fun e w' => e = .returned (.bool false) ∧ Below w.heap.size w w' := by
  have H := hid h
  clear h
  go_enter Try.func12, Try.ntmps12
  go_wp2
  all_goals
    go_ret
    refine ⟨?_, (Below.refl _ _).alloc (Nat.le_refl _) _⟩
    first
      | rfl
      | (have : ¬ d ≤ n - a := fun h' => H.out ⟨by assumption, by assumption, by assumption, h'⟩
         simp [this])

set_option maxRecDepth 100000 in
set_option maxHeartbeats 2000000 in
theorem mv_in {o a d m : Int} {r : Bool} {n : Nat} (h : 0 ≤ o ∧ o ≤ m) (hf : 0 ≤ a ∧ 0 ≤ d ∧ a ≤ m ∧ d ≤ m - a) : 0 ≤ mv o r a d n ∧ mv o r a d n ≤ m - d + n := by
  unfold mv
  repeat' split
  all_goals omega

set_option maxRecDepth 100000 in
set_option maxHeartbeats 2000000 in
theorem walk (o0 : Int) (r0 : Bool) (a d : Int) (s : ByteArray) (n : Int) (w : World) (_hs : s.size ≤ maxLen) (hn0 : 0 ≤ n) (hn1 : n < 256) :
    Calls Try.prog 4 #[.agg #[.int .i64 o0, .bool r0], .agg #[.int .i64 a, .int .i64 d, .string s], .int .u8 n] w fun e w' => e = .returned (.bool true) ∧ Below w.heap.size w w' := by
  obtain ⟨m, hm⟩ : ∃ m, m = n % 101 := ⟨_, rfl⟩
  have hm0 : 0 ≤ m := by omega
  have hm1 : m ≤ 100 := by omega
  obtain ⟨W, hW⟩ : ∃ W, W = ((w.alloc (.cells #[.int .i64 o0, .bool r0] 23)).alloc (.cells #[.int .i64 a, .int .i64 d, .string s] 25)) := ⟨_, rfl⟩
  have bW : Below w.heap.size w W := by rw [hW]; exact (((Below.refl _ _).alloc (Nat.le_refl _) _).alloc (by simp) _)
  have hx0 : W.heap[w.heap.size]? = some (.cells #[.int .i64 o0, .bool r0] 23 (0, 0)) := by rw [hW]; exact blk_alloc (alloc_new _ _)
  have K0 := hid (show ∀ W', Below W.heap.size W W' → W'.cell? ⟨w.heap.size, 0, none⟩ = some (.int .i64 o0) ∧ W'.cell? ⟨w.heap.size, 1, none⟩ = some (.bool r0) from fun W' hb => cells2 ((hb.block _ (heap_lt hx0)).trans hx0))
  have hx1 : W.heap[w.heap.size + 1]? = some (.cells #[.int .i64 a, .int .i64 d, .string s] 25 (0, 0)) := by rw [hW]; exact alloc_at _ _ (by simp; done)
  have K1 := hid (show ∀ W', Below W.heap.size W W' → W'.cell? ⟨w.heap.size + 1, 0, none⟩ = some (.int .i64 a) ∧ W'.cell? ⟨w.heap.size + 1, 1, none⟩ = some (.int .i64 d) ∧ W'.cell? ⟨w.heap.size + 1, 2, none⟩ = some (.string s) from fun W' hb => cells3 ((hb.block _ (heap_lt hx1)).trans hx1))
  have HW := hid hW
  have hle := bW.size
  clear hx0 hx1 hW
  rw [hm] at hm0 hm1
  clear hm
  by_cases hF : 0 ≤ a ∧ 0 ≤ d ∧ a ≤ n % 101 ∧ d ≤ n % 101 - a
  · have HF := hid hF
    clear hF
    by_cases hS : SmallP o0 a d s.size
    · have HS := hid hS
      clear hS
      by_cases hc : n % 101 < o0
      · go_enter Try.func4, Try.ntmps4
        obtain ⟨k00, k01⟩ := K0.out _ (Below.refl _ W)
        obtain ⟨k10, k11, k12⟩ := K1.out _ (Below.refl _ W)
        go_wp2_with fail
        rw [← HW.out]
        refine (fits_yes _ _ _ _ _ hm0 (by omega) HF.out).mono ?_
        rintro e w1 ⟨rfl, hb1⟩
        obtain ⟨k00, k01⟩ := K0.out _ hb1
        obtain ⟨k10, k11, k12⟩ := K1.out _ hb1
        go_wp2_with fail
        refine (small_yes _ _ _ _ _ _ HS.out).mono ?_
        rintro e w2 ⟨rfl, hb2'⟩
        have hb2 := hb1.trans (hb2'.mono hb1.size)
        obtain ⟨k00, k01⟩ := K0.out _ hb2
        obtain ⟨k10, k11, k12⟩ := K1.out _ hb2
        go_wp2_with fail
        refine (awake_any _).mono ?_
        rintro e w9 ⟨rfl, hb9⟩
        go_wp2
        go_ret
        exact ⟨rfl, bW.trans ((hb2.trans (hb9.mono hb2.size)).mono hle)⟩
      · have hc' : o0 ≤ n % 101 := by omega
        have HV := hid (mv_in (r := r0) (n := s.size) ⟨HS.out.1, hc'⟩ HF.out)
        have s0 := HS.out.2.2.2.2.1
        have s1 := HS.out.2.2.2.2.2.1
        have s2 := HS.out.2.2.2.2.2.2
        clear hc
        go_enter Try.func4, Try.ntmps4
        obtain ⟨k00, k01⟩ := K0.out _ (Below.refl _ W)
        obtain ⟨k10, k11, k12⟩ := K1.out _ (Below.refl _ W)
        go_wp2_with fail
        rw [← HW.out]
        refine (fits_yes _ _ _ _ _ hm0 (by omega) HF.out).mono ?_
        rintro e w1 ⟨rfl, hb1⟩
        obtain ⟨k00, k01⟩ := K0.out _ hb1
        obtain ⟨k10, k11, k12⟩ := K1.out _ hb1
        go_wp2_with fail
        refine (small_yes _ _ _ _ _ _ HS.out).mono ?_
        rintro e w2 ⟨rfl, hb2'⟩
        have hb2 := hb1.trans (hb2'.mono hb1.size)
        obtain ⟨k00, k01⟩ := K0.out _ hb2
        obtain ⟨k10, k11, k12⟩ := K1.out _ hb2
        go_wp2_with fail
        refine (move_any _ _ _ _ _ _ HS.out.mid).mono ?_
        rintro e w3 ⟨rfl, hb3'⟩
        have hb3 := hb2.trans (hb3'.mono hb2.size)
        obtain ⟨V, hV⟩ : ∃ V, V = mv o0 r0 a d s.size := ⟨_, rfl⟩
        obtain ⟨v0, v1⟩ := HV.out
        rw [← hV] at v0 v1 ⊢
        clear hV
        go_wp2_with fail
        obtain ⟨Y, hY⟩ : ∃ Y, Y = w3.alloc (.cells #[.int .i64 V, .bool r0] 23) := ⟨_, rfl⟩
        have hbx : Y.heap[w3.heap.size]? = some (.cells #[.int .i64 V, .bool r0] 23 (0, 0)) := by rw [hY]; exact alloc_new _ _
        have hbY : Below W.heap.size W Y := by rw [hY]; exact hb3.alloc hb3.size _
        rw [← hY]
        clear hY
        refine (awake_any _).mono ?_
        rintro e w4 ⟨rfl, hb4'⟩
        have hb4 := hbY.trans (hb4'.mono hbY.size)
        obtain ⟨k00, k01⟩ := K0.out _ hb4
        obtain ⟨k10, k11, k12⟩ := K1.out _ hb4
        obtain ⟨j0, j1⟩ := cells2 ((hb4'.block _ (heap_lt hbx)).trans hbx)
        go_wp2
        go_ret
        exact ⟨rfl, bW.trans (hb4.mono hle)⟩
    · have HS := hid hS
      clear hS
      go_enter Try.func4, Try.ntmps4
      obtain ⟨k00, k01⟩ := K0.out _ (Below.refl _ W)
      obtain ⟨k10, k11, k12⟩ := K1.out _ (Below.refl _ W)
      go_wp2_with fail
      rw [← HW.out]
      refine (fits_yes _ _ _ _ _ hm0 (by omega) HF.out).mono ?_
      rintro e w1 ⟨rfl, hb1⟩
      obtain ⟨k00, k01⟩ := K0.out _ hb1
      obtain ⟨k10, k11, k12⟩ := K1.out _ hb1
      go_wp2_with fail
      refine (small_no _ _ _ _ _ _ HS.out).mono ?_
      rintro e w2 ⟨rfl, hb2'⟩
      have hb2 := hb1.trans (hb2'.mono hb1.size)
      go_wp2_with fail
      refine (awake_any _).mono ?_
      rintro e w9 ⟨rfl, hb9⟩
      go_wp2
      go_ret
      exact ⟨rfl, bW.trans ((hb2.trans (hb9.mono hb2.size)).mono hle)⟩
  · have HF := hid hF
    clear hF
    go_enter Try.func4, Try.ntmps4
    obtain ⟨k00, k01⟩ := K0.out _ (Below.refl _ W)
    obtain ⟨k10, k11, k12⟩ := K1.out _ (Below.refl _ W)
    go_wp2_with fail
    rw [← HW.out]
    refine (fits_no _ _ _ _ _ hm0 (by omega) HF.out).mono ?_
    rintro e w1 ⟨rfl, hb1⟩
    go_wp2_with fail
    refine (awake_any _).mono ?_
    rintro e w9 ⟨rfl, hb9⟩
    go_wp2
    go_ret
    exact ⟨rfl, bW.trans ((hb1.trans (hb9.mono hb1.size)).mono hle)⟩

theorem lifted (os : Os) (started : os.Started) (H : Type) (enc : TypeId × Value → H) :
    ReturnsInHanded {} Try.checked os 4 .any (Rows.anchorStaysInTextSpec.pre6 enc Try.prog Try.f4 Rows.anchorStaysInTextRow.domain false) (Rows.anchorStaysInTextSpec.post enc Try.prog Try.f4 false true false false) := by
  refine Go.Frame.lifted (C := Try.checked) (tb := 4) own started (by kernel_rfl) Try.func4
    (ChangeSpec.witness6 (enc := enc) (C := Try.checked) false ⟨#[], #[.agg #[.int .i64 0, .bool false], .agg #[.int .i64 0, .int .i64 0, .string ByteArray.empty], .int .u8 0], []⟩ 8 (by kernel_rfl) (by kernel_rfl) (by kernel_rfl) (by kernel_rfl))
    laidOut (by kernel_rfl) (by kernel_rfl) Try.underlying4 rfl ?_ ?_
  · intro ds h
    have h : ds.length = 3 := h
    match ds, h with
    | [_, _, _], _ => rfl
  · intro W base args ds p hlen hval0 hA hsz0
    have hval : ∀ (j : Nat) t v, Try.f4.params[j]? = some t → args[j]? = some v → Value.okWide Try.prog W .any base t v := hval0
    have hA : DataW.TrodAll enc Try.prog W 0 (fun _ => true) true Try.f4.params.toList args.toList ds p := hA
    have hsz : (DataW.weightsEach Try.prog Try.f4.params.toList ds).all (· ≤ reachBytes) = true := hsz0
    rw [Try.params4] at hA hval hsz
    obtain ⟨v0, vs0, d0, ds0, p0, q0, hargs, hds, _, th0, tr0⟩ := trodAll_cons hA
    obtain ⟨v1, vs1, d1, ds1, p1, q1, rfl, rfl, _, th1, tr1⟩ := trodAll_cons tr0
    obtain ⟨v2, vs2, d2, ds2, p2, q2, rfl, rfl, _, th2, tr2⟩ := trodAll_cons tr1
    obtain ⟨rfl, rfl, _⟩ := trodAll_nil tr2
    obtain rfl : args = #[v0, v1, v2] := by cases args; simp_all
    subst hds
    obtain ⟨o0, r0, rfl⟩ := open_anchor (hval 0 23 v0 rfl rfl) th0
    obtain ⟨a, d, s, rfl, hs⟩ := open_edit (hval 1 25 v1 rfl rfl) th1
    obtain ⟨n, rfl, _, _, hn⟩ := open_int Try.underlying5 (hval 2 5 v2 rfl rfl) th2
    exact walk o0 r0 a d s n W hs (bounds_u8 hn).1 (by have := (bounds_u8 hn).2; omega)

theorem over : Rows.anchorStaysInTextRow.holds Try.pinned (OpenSpec.ofChange Rows.anchorStaysInTextSpec) :=
  OpenClaim.holds_of_wide 4 Try.f4 rfl rfl rfl rfl rfl rfl rfl ⟨rfl, rfl, rfl, rfl, rfl⟩ rfl rfl rfl rfl rfl (by kernel_rfl) Try.func4 (by kernel_rfl)
    (of_decide_eq_true (by kernel_rfl)) (by unfold Func.isWrapper; first | (rw [if_pos (by decide +kernel)]; kernel_rfl) | (rw [if_neg (by decide +kernel)]; exact ⟨rfl, rfl⟩))
    (fun os started H enc _ => lifted os started H enc)

/-- THE STATEMENT -/
theorem proved : Rows.AnchorStaysInTextSaid :=
  over
#print axioms proved
end Go.Proofs.Ytcfcbemfnibaeaa.anchorStaysInText
