/-
  AnchorUndo, for every input: the law returns true and leaves its arguments as they read. No condition.
-/
import Derived.Test.YtcfcbemfnibaeaaD
namespace Go.Proofs.Ytcfcbemfnibaeaa.anchorUndo
open Go.ChangeShapes Go.WideShapes Go.ChangeAt Go.RowKit Go.Frame
open Go.ChangeMaps (open_string shut_string)

theorem mv_empty (o : Int) (r : Bool) (a : Int) : mv o r a 0 (ByteArray.size { data := #[] }) = o := by
  unfold mv
  have : ((ByteArray.size { data := #[] } : Nat) : Int) = 0 := rfl
  rw [this]
  repeat' split
  all_goals omega
theorem mv_to0 (o : Int) (r : Bool) (a : Int) (w : World) {d : Int} {n : Nat} (h : SmallP o a d n) :
    Calls Try.prog 10 #[.agg #[.int .i64 o, .bool r], .agg #[.int .i64 a, .int .i64 0, .string { data := #[] }]] w fun e w' => e = .returned (.agg #[.int .i64 o, .bool r]) ∧ Below w.heap.size w w' :=
  move_to o a 0 r { data := #[] } w ⟨h.1, by have := h.2.1; omega, h.2.2.1, by have := h.2.2.2.1; omega, by omega, by omega, by decide⟩ o (mv_empty o r a)
theorem mv_undo {o a d : Int} {r : Bool} {n m : Nat} (hm : (m : Int) = d) (h : o < a ∨ a + d < o) : mv (mv o r a d n) r a n m = o := by
  rcases h with h | h
  · rw [← mv_a h]
    exact (mv_a h).symm
  · rw [← mv_b (x := o + (n - d)) (by omega) h rfl]
    exact (mv_b (by omega) (by omega) (by omega)).symm
theorem mv_mid {o a d : Int} {r : Bool} {n : Nat} (h : SmallP o a d n) : 0 ≤ mv o r a d n ∧ mv o r a d n ≤ 3000 := by
  obtain ⟨h1, h2, h3, h4, h5, h6, h7⟩ := h
  unfold mv
  repeat' split
  all_goals omega
theorem mid_undo {o a d : Int} {r : Bool} {s t : ByteArray} (h : SmallP o a d s.size) (ht : (t.size : Int) = d) :
    ∀ k e, [(a, d, s), (a, (s.size : Int), t)][k]? = some e → MidL (([(a, d, s), (a, (s.size : Int), t)].take k).foldl mvl [(o, r)]) e := by
  have hh := h
  obtain ⟨h1, h2, h3, h4, h5, h6, h7⟩ := hh
  have hv := mv_mid (r := r) h
  intro k e he
  match k, he with
  | 0, he =>
    cases he
    intro x hx
    simp at hx
    subst hx
    exact h.mid
  | 1, he =>
    cases he
    intro x hx
    simp [mvl] at hx
    subst hx
    refine ⟨hv.1, ?_, h3, ?_, ?_, ?_, ?_⟩ <;> simp only <;> omega
theorem anc1 {W : World} {g : Nat} {o : Int} {r : Bool} (h : Anc W g [(o, r)]) : W.cell? ⟨g, 0, none⟩ = some (.int .i64 o) ∧ W.cell? ⟨g, 1, none⟩ = some (.bool r) :=
  ⟨(h 0 _ rfl).1, (h 0 _ rfl).2.1⟩

set_option maxRecDepth 100000 in
set_option maxHeartbeats 4000000 in
theorem walk (o : Int) (r : Bool) (a d : Int) (s t : ByteArray) (w : World) (_hs : s.size ≤ maxLen) (ht0 : t.size ≤ maxLen) :
    Calls Try.prog 7 #[.agg #[.int .i64 o, .bool r], .agg #[.int .i64 a, .int .i64 d, .string s], .string t] w fun e w' => e = .returned (.bool true) ∧ Below w.heap.size w w' := by
  obtain ⟨W, hW⟩ : ∃ W, W = ((w.alloc (.cells #[.int .i64 o, .bool r] 23)).alloc (.cells #[.int .i64 a, .int .i64 d, .string s] 25)) := ⟨_, rfl⟩
  have bW : Below w.heap.size w W := by rw [hW]; exact (((Below.refl _ _).alloc (Nat.le_refl _) _).alloc (by simp) _)
  have hx0 : W.heap[w.heap.size]? = some (.cells #[.int .i64 o, .bool r] 23 (0, 0)) := by rw [hW]; exact blk_alloc (alloc_new _ _)
  have K0 := hid (show ∀ W', Below W.heap.size W W' → W'.cell? ⟨w.heap.size, 0, none⟩ = some (.int .i64 o) ∧ W'.cell? ⟨w.heap.size, 1, none⟩ = some (.bool r) from fun W' hb => cells2 ((hb.block _ (heap_lt hx0)).trans hx0))
  have hx1 : W.heap[w.heap.size + 1]? = some (.cells #[.int .i64 a, .int .i64 d, .string s] 25 (0, 0)) := by rw [hW]; exact alloc_at _ _ (by simp; done)
  have K1 := hid (show ∀ W', Below W.heap.size W W' → W'.cell? ⟨w.heap.size + 1, 0, none⟩ = some (.int .i64 a) ∧ W'.cell? ⟨w.heap.size + 1, 1, none⟩ = some (.int .i64 d) ∧ W'.cell? ⟨w.heap.size + 1, 2, none⟩ = some (.string s) from fun W' hb => cells3 ((hb.block _ (heap_lt hx1)).trans hx1))
  have HWs := hid (show W.heap.size = w.heap.size + 1 + 1 by rw [hW]; simp)
  have HW := hid hW
  have hle := bW.size
  clear hx0 hx1 hW
  have ht1 : (t.size : Int) ≤ 9223372036854775807 := by unfold maxLen at ht0; omega
  by_cases hS : SmallP o a d s.size
  · have HS := hid hS
    clear hS
    by_cases hT : (t.size : Int) = d
    · have HT := hid hT
      have hT2 : ((t.size : Int) != d) = false := by rw [hT]; simp
      have hTd : ((t.size : Int) == d) = true := by rw [hT]; simp
      clear hT
      have HV : Hid (o < a ∨ a + d < o → mv (mv o r a d s.size) r a s.size t.size = o) := hid fun h => mv_undo HT.out h
      have M1 := fun w => mv_to0 o r a w HS.out
      obtain ⟨s0, s1, s2, s3, s4, s5, s6⟩ := HS.out
      have s6' : (s.size : Int) ≤ 1000 := by omega
      go_enter Try.func7, Try.ntmps7
      obtain ⟨k00, k01⟩ := K0.out _ (Below.refl _ W)
      obtain ⟨k10, k11, k12⟩ := K1.out _ (Below.refl _ W)
      go_wp2_with fail
      rw [← HW.out]
      refine (small_yes _ _ _ _ _ _ HS.out).mono ?_
      rintro e w1 ⟨rfl, hb1⟩
      obtain ⟨k00, k01⟩ := K0.out _ hb1
      obtain ⟨k10, k11, k12⟩ := K1.out _ hb1
      go_wp2_with fail
      have Hb := hid (show ∀ W', Below w1.heap.size w1 W' → Below W.heap.size W W' from fun W' h => hb1.trans (h.mono hb1.size))
      refine wp_region_below (by kernel_rfl) (by kernel_rfl) ?_
      intro X f _ hf hs
      clear k00 k01 k10 k11 k12
      have k00 := fun x => (K0.out _ (Hb.out _ (hf.out x))).1
      have k01 := fun x => (K0.out _ (Hb.out _ (hf.out x))).2
      have k10 := fun x => (K1.out _ (Hb.out _ (hf.out x))).1
      have k11 := fun x => (K1.out _ (Hb.out _ (hf.out x))).2.1
      have k12 := fun x => (K1.out _ (Hb.out _ (hf.out x))).2.2
      repeat (go_big_quiet_step (first
        | (go_at_call 10; exact calls_below hf hs (M1 _))))
      refine wpQuiet_nil ?_
      intro w5 hw5
      have hb5 := Hb.out _ hw5
      clear hf hs Hb k00 k01 k10 k11 k12
      obtain ⟨k00, k01⟩ := K0.out _ hb5
      obtain ⟨k10, k11, k12⟩ := K1.out _ hb5
      have hl5 : w.heap.size + 1 < w5.heap.size := by have := hb5.size; have := HWs.out; omega
      have hl5' : w.heap.size < w5.heap.size := by omega
      rcases (by omega : o < a ∨ (a ≤ o ∧ o ≤ a + d) ∨ a + d < o) with hk | ⟨hk, hk'⟩ | hk
      · have HVV := hid (HV.out (.inl hk))
        obtain ⟨n10, n11, n12⟩ := K1.out _ (hb5.alloc hb5.size (.cells #[.int .i64 o, .bool r] 23))
        go_wp2_with fail
        have hz1 := hid (show (w5.alloc (.cells #[.int .i64 o, .bool r] 23)).heap.size = w5.heap.size + 1 by simp)
        refine (moveAll_any _ 1 1 _ 2 2 [(o, r)] [(a, d, s), (a, (s.size : Int), t)] _ (by omega) (by omega) (by omega) (by omega) rfl rfl ?_ ?_ ?_ ?_ (mid_undo HS.out HT.out)).mono ?_
        · refine anc_blk ?_
          repeat (first | exact alloc_new _ _ | exact alloc_at _ _ (by simp; done) | refine blk_alloc ?_)
        · refine eds_blk ?_
          repeat (first | exact alloc_new _ _ | exact alloc_at _ _ (by simp; done) | refine blk_alloc ?_)
        · simp; try omega
        · simp; try omega
        rintro e w6 ⟨g, cap, rfl, hA, hg, hgl, hcap, hb6'⟩
        have hb6 : Below W.heap.size W w6 := (((hb5.alloc hb5.size _).alloc (by have := hb5.size; simp; omega) _)).trans (hb6'.mono (by have := hb5.size; simp; omega))
        have hA2 : Anc w6 g [(o, r)] := by
          have e : [(a, d, s), (a, (s.size : Int), t)].foldl mvl [(o, r)] = [(o, r)] := by
            show [(mv (mv o r a d s.size) r a s.size t.size, r)] = [(o, r)]
            rw [HVV.out]
          rw [e] at hA
          exact hA
        have HA := hid (show ∀ W', Below w6.heap.size w6 W' → Anc W' g [(o, r)] from fun W' h => hA2.below hgl h)
        have hcap' : (1 : Int) ≤ (cap : Int) := by omega
        clear hA hA2 hb6' hg
        obtain ⟨k00, k01⟩ := K0.out _ hb6
        obtain ⟨k10, k11, k12⟩ := K1.out _ hb6
        go_wp2_with fail
        have Hb := hid (show ∀ W', Below w6.heap.size w6 W' → Below W.heap.size W W' from fun W' h => hb6.trans (h.mono hb6.size))
        refine wp_region_below (by kernel_rfl) (by kernel_rfl) ?_
        intro X f _ hf hs
        clear k00 k01 k10 k11 k12
        have k00 := fun x => (K0.out _ (Hb.out _ (hf.out x))).1
        have k01 := fun x => (K0.out _ (Hb.out _ (hf.out x))).2
        have k10 := fun x => (K1.out _ (Hb.out _ (hf.out x))).1
        have k11 := fun x => (K1.out _ (Hb.out _ (hf.out x))).2.1
        have k12 := fun x => (K1.out _ (Hb.out _ (hf.out x))).2.2
        have j0 := fun x => (anc1 (HA.out _ (hf.out x))).1
        have j1 := fun x => (anc1 (HA.out _ (hf.out x))).2
        repeat (go_big_quiet_step (first
          | (go_at_call 9; exact calls_below hf hs (awake_any _))))
        refine wpQuiet_nil ?_
        intro w7 hw7
        have hb7 := Hb.out _ hw7
        clear hf hs Hb k00 k01 k10 k11 k12
        go_wp2
        go_ret
        exact ⟨rfl, bW.trans (hb7.mono hle)⟩
      · go_wp2_with fail
        refine (awake_any _).mono ?_
        rintro e w9 ⟨rfl, hb9⟩
        go_wp2
        go_ret
        exact ⟨rfl, bW.trans ((hb5.trans (hb9.mono hb5.size)).mono hle)⟩
      · have hk2 : a ≤ o := by omega
        have hk3 : ¬ o ≤ a + d := by omega
        have hk4 : decide (o ≤ a + d) = false := by simp; omega
        have HVV := hid (HV.out (.inr hk))
        obtain ⟨n10, n11, n12⟩ := K1.out _ (hb5.alloc hb5.size (.cells #[.int .i64 o, .bool r] 23))
        go_wp2_with fail
        have hz1 := hid (show (w5.alloc (.cells #[.int .i64 o, .bool r] 23)).heap.size = w5.heap.size + 1 by simp)
        refine (moveAll_any _ 1 1 _ 2 2 [(o, r)] [(a, d, s), (a, (s.size : Int), t)] _ (by omega) (by omega) (by omega) (by omega) rfl rfl ?_ ?_ ?_ ?_ (mid_undo HS.out HT.out)).mono ?_
        · refine anc_blk ?_
          repeat (first | exact alloc_new _ _ | exact alloc_at _ _ (by simp; done) | refine blk_alloc ?_)
        · refine eds_blk ?_
          repeat (first | exact alloc_new _ _ | exact alloc_at _ _ (by simp; done) | refine blk_alloc ?_)
        · simp; try omega
        · simp; try omega
        rintro e w6 ⟨g, cap, rfl, hA, hg, hgl, hcap, hb6'⟩
        have hb6 : Below W.heap.size W w6 := (((hb5.alloc hb5.size _).alloc (by have := hb5.size; simp; omega) _)).trans (hb6'.mono (by have := hb5.size; simp; omega))
        have hA2 : Anc w6 g [(o, r)] := by
          have e : [(a, d, s), (a, (s.size : Int), t)].foldl mvl [(o, r)] = [(o, r)] := by
            show [(mv (mv o r a d s.size) r a s.size t.size, r)] = [(o, r)]
            rw [HVV.out]
          rw [e] at hA
          exact hA
        have HA := hid (show ∀ W', Below w6.heap.size w6 W' → Anc W' g [(o, r)] from fun W' h => hA2.below hgl h)
        have hcap' : (1 : Int) ≤ (cap : Int) := by omega
        clear hA hA2 hb6' hg
        obtain ⟨k00, k01⟩ := K0.out _ hb6
        obtain ⟨k10, k11, k12⟩ := K1.out _ hb6
        go_wp2_with fail
        have Hb := hid (show ∀ W', Below w6.heap.size w6 W' → Below W.heap.size W W' from fun W' h => hb6.trans (h.mono hb6.size))
        refine wp_region_below (by kernel_rfl) (by kernel_rfl) ?_
        intro X f _ hf hs
        clear k00 k01 k10 k11 k12
        have k00 := fun x => (K0.out _ (Hb.out _ (hf.out x))).1
        have k01 := fun x => (K0.out _ (Hb.out _ (hf.out x))).2
        have k10 := fun x => (K1.out _ (Hb.out _ (hf.out x))).1
        have k11 := fun x => (K1.out _ (Hb.out _ (hf.out x))).2.1
        have k12 := fun x => (K1.out _ (Hb.out _ (hf.out x))).2.2
        have j0 := fun x => (anc1 (HA.out _ (hf.out x))).1
        have j1 := fun x => (anc1 (HA.out _ (hf.out x))).2
        repeat (go_big_quiet_step (first
          | (go_at_call 9; exact calls_below hf hs (awake_any _))))
        refine wpQuiet_nil ?_
        intro w7 hw7
        have hb7 := Hb.out _ hw7
        clear hf hs Hb k00 k01 k10 k11 k12
        go_wp2
        go_ret
        exact ⟨rfl, bW.trans (hb7.mono hle)⟩
    · have HT := hid hT
      have hT2 : ((t.size : Int) != d) = true := by simpa using hT
      clear hT
      go_enter Try.func7, Try.ntmps7
      obtain ⟨k00, k01⟩ := K0.out _ (Below.refl _ W)
      obtain ⟨k10, k11, k12⟩ := K1.out _ (Below.refl _ W)
      go_wp2_with fail
      rw [← HW.out]
      refine (small_yes _ _ _ _ _ _ HS.out).mono ?_
      rintro e w1 ⟨rfl, hb1⟩
      obtain ⟨k00, k01⟩ := K0.out _ hb1
      obtain ⟨k10, k11, k12⟩ := K1.out _ hb1
      go_wp2_with fail
      refine (awake_any _).mono ?_
      rintro e w9 ⟨rfl, hb9⟩
      go_wp2
      go_ret
      exact ⟨rfl, bW.trans ((hb1.trans (hb9.mono hb1.size)).mono hle)⟩
  · have HS := hid hS
    clear hS
    go_enter Try.func7, Try.ntmps7
    obtain ⟨k00, k01⟩ := K0.out _ (Below.refl _ W)
    obtain ⟨k10, k11, k12⟩ := K1.out _ (Below.refl _ W)
    go_wp2_with fail
    rw [← HW.out]
    refine (small_no _ _ _ _ _ _ HS.out).mono ?_
    rintro e w1 ⟨rfl, hb1⟩
    go_wp2_with fail
    refine (awake_any _).mono ?_
    rintro e w9 ⟨rfl, hb9⟩
    go_wp2
    go_ret
    exact ⟨rfl, bW.trans ((hb1.trans (hb9.mono hb1.size)).mono hle)⟩

theorem lifted (os : Os) (started : os.Started) (H : Type) (enc : TypeId × Value → H) :
    ReturnsInHanded {} Try.checked os 7 .any (Rows.anchorUndoSpec.pre6 enc Try.prog Try.f7 Rows.anchorUndoRow.domain false) (Rows.anchorUndoSpec.post enc Try.prog Try.f7 false true false false) := by
  refine Go.Frame.lifted (C := Try.checked) (tb := 4) own started (by kernel_rfl) Try.func7
    (ChangeSpec.witness6 (enc := enc) (C := Try.checked) false ⟨#[], #[.agg #[.int .i64 0, .bool false], .agg #[.int .i64 0, .int .i64 0, .string ByteArray.empty], .string ByteArray.empty], []⟩ 8 (by kernel_rfl) (by kernel_rfl) (by kernel_rfl) (by kernel_rfl))
    laidOut (by kernel_rfl) (by kernel_rfl) Try.underlying4 rfl ?_ ?_
  · intro ds h
    have h : ds.length = 3 := h
    match ds, h with
    | [_, _, _], _ => rfl
  · intro W base args ds p hlen hval0 hA hsz0
    have hval : ∀ (j : Nat) t v, Try.f7.params[j]? = some t → args[j]? = some v → Value.okWide Try.prog W .any base t v := hval0
    have hA : DataW.TrodAll enc Try.prog W 0 (fun _ => true) true Try.f7.params.toList args.toList ds p := hA
    have hsz : (DataW.weightsEach Try.prog Try.f7.params.toList ds).all (· ≤ reachBytes) = true := hsz0
    rw [Try.params7] at hA hval hsz
    obtain ⟨v0, vs0, d0, ds0, p0, q0, hargs, hds, _, th0, tr0⟩ := trodAll_cons hA
    obtain ⟨v1, vs1, d1, ds1, p1, q1, rfl, rfl, _, th1, tr1⟩ := trodAll_cons tr0
    obtain ⟨v2, vs2, d2, ds2, p2, q2, rfl, rfl, _, th2, tr2⟩ := trodAll_cons tr1
    obtain ⟨rfl, rfl, _⟩ := trodAll_nil tr2
    obtain rfl : args = #[v0, v1, v2] := by cases args; simp_all
    subst hds
    obtain ⟨o0, r0, rfl⟩ := open_anchor (hval 0 23 v0 rfl rfl) th0
    obtain ⟨a, d, s, rfl, hs⟩ := open_edit (hval 1 25 v1 rfl rfl) th1
    obtain ⟨t, rfl, _, _, ht⟩ := open_string Try.underlying9 (hval 2 9 v2 rfl rfl) th2
    exact walk o0 r0 a d s t W hs ht

theorem over : Rows.anchorUndoRow.holds Try.pinned (OpenSpec.ofChange Rows.anchorUndoSpec) :=
  OpenClaim.holds_of_wide 7 Try.f7 rfl rfl rfl rfl rfl rfl rfl ⟨rfl, rfl, rfl, rfl, rfl⟩ rfl rfl rfl rfl rfl (by kernel_rfl) Try.func7 (by kernel_rfl)
    (of_decide_eq_true (by kernel_rfl)) (by unfold Func.isWrapper; first | (rw [if_pos (by decide +kernel)]; kernel_rfl) | (rw [if_neg (by decide +kernel)]; exact ⟨rfl, rfl⟩))
    (fun os started H enc _ => lifted os started H enc)

/-- THE STATEMENT -/
theorem proved : Rows.AnchorUndoSaid :=
  over
#print axioms proved
end Go.Proofs.Ytcfcbemfnibaeaa.anchorUndo
