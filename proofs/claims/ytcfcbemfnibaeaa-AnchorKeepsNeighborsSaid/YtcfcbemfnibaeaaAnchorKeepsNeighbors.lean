/-
  AnchorKeepsNeighbors, for every input: the law returns true and leaves its arguments as they read. No condition.
-/
import Derived.Test.YtcfcbemfnibaeaaD
namespace Go.Proofs.Ytcfcbemfnibaeaa.anchorKeepsNeighbors
open Go.ChangeShapes Go.WideShapes Go.ChangeAt Go.RowKit Go.Frame
open Go.ChangeMaps (open_string shut_string)

theorem list_ex (x : ByteArray) (i j : Nat) : (x.extract i j).data.toList = (x.data.toList.take j).drop i := by
  rw [ByteArray.data_extract, Array.toList_extract]
  simp [List.drop_take]
theorem list_app (x y : ByteArray) : (x ++ y).data.toList = x.data.toList ++ y.data.toList := by
  simp
theorem bytes_ext {x y : ByteArray} (h : x.data.toList = y.data.toList) : x = y := by
  apply ByteArray.ext; apply Array.ext'; exact h
theorem len_data (x : ByteArray) : x.data.toList.length = x.size := by rw [Array.length_toList]; rfl
theorem ex1 (t s : ByteArray) (na k no : Nat) (h : no ≤ na) (h1 : na ≤ t.size) : (t.extract 0 na ++ s ++ t.extract k t.size).extract 0 no = t.extract 0 no := by
  apply bytes_ext
  have := len_data t
  simp only [list_ex, list_app, List.drop_zero, List.append_assoc]
  rw [List.take_append_of_le_length (by rw [List.length_take]; omega), List.take_take, Nat.min_eq_left h]
theorem below_drewN {n : Nat} {A B : World} (h : Below n A B) (k : Nat) : Below n A (B.drewN k) := by
  induction k with
  | zero => exact h
  | succ k ih => exact ih.drew
theorem ex_size (t s : ByteArray) (na k : Nat) (h1 : na ≤ k) (h2 : k ≤ t.size) : (t.extract 0 na ++ s ++ t.extract k t.size).size = na + s.size + (t.size - k) := by
  have := len_data t
  have := len_data s
  rw [← len_data]
  simp only [list_ex, list_app, List.length_append, List.length_drop, List.length_take]
  omega
theorem ex2 (t s : ByteArray) (na k no nv n : Nat) (h : na ≤ k) (h1 : k ≤ no) (h2 : no ≤ t.size) (hv : nv + k = na + s.size + no) (hn : n = na + s.size + (t.size - k)) : (t.extract 0 na ++ s ++ t.extract k t.size).extract nv n = t.extract no t.size := by
  apply bytes_ext
  have lt := len_data t
  have ls := len_data s
  have hl : ((t.extract 0 na ++ s ++ t.extract k t.size).data.toList).length = n := by rw [len_data, ex_size t s na k h (by omega), hn]
  rw [list_ex, List.take_of_length_le (by omega), list_app, List.drop_append, list_app]
  simp only [list_ex, List.drop_zero, List.length_append, List.length_take]
  rw [List.drop_eq_nil_of_le (by simp [List.length_append, List.length_take]; omega)]
  simp only [List.nil_append, List.drop_drop]
  congr 1
  omega
set_option maxRecDepth 100000 in
set_option maxHeartbeats 2000000 in
theorem fits_yes (a d : Int) (s : ByteArray) (n : Int) (w : World) (h0 : 0 ≤ n) (hn : n ≤ 1000000) (h : 0 ≤ a ∧ 0 ≤ d ∧ a ≤ n ∧ d ≤ n - a) :
    Calls Try.prog 12 #[.agg #[.int .i64 a, .int .i64 d, .string s], .int .i64 n] w fun e w' => e = .returned (.bool true) ∧ Below w.heap.size w w' := by
  obtain ⟨h1, h2, h3, h4⟩ := h
  go_enter Try.func12, Try.ntmps12
  go_wp2
  go_ret
  exact ⟨rfl, (Below.refl _ _).alloc (Nat.le_refl _) _⟩
set_option maxRecDepth 100000 in
set_option maxHeartbeats 2000000 in
theorem fits_no (a d : Int) (s : ByteArray) (n : Int) (w : World) (h0 : 0 ≤ n) (hn : n ≤ 1000000) (h : ¬ (0 ≤ a ∧ 0 ≤ d ∧ a ≤ n ∧ d ≤ n - a)) :
    Calls Try.prog 12 #[.agg #[.int .i64 a, .int .i64 d, .string s], .int .i64 n] w fun e w' => e = .returned (.bool false) ∧ Below w.heap.size w w' := by
  have H := hid h
  clear h
  go_enter Try.func12, Try.ntmps12
  go_wp2
  all_goals
    go_ret
    refine ⟨?_, (Below.refl _ _).alloc (Nat.le_refl _) _⟩
    first
      | rfl
      | (have : ¬ d ≤ n - a := fun h' => H.out ⟨by assumption, by assumption, by assumption, h'⟩
         simp [this])

set_option maxRecDepth 100000 in
set_option maxHeartbeats 2000000 in
theorem mv_in {o a d m : Int} {r : Bool} {n : Nat} (h : 0 ≤ o ∧ o ≤ m) (hf : 0 ≤ a ∧ 0 ≤ d ∧ a ≤ m ∧ d ≤ m - a) : 0 ≤ mv o r a d n ∧ mv o r a d n ≤ m - d + n := by
  unfold mv
  repeat' split
  all_goals omega


set_option maxRecDepth 100000 in
set_option maxHeartbeats 4000000 in
theorem walk (t : ByteArray) (o : Int) (r : Bool) (a d : Int) (s : ByteArray) (w : World) (_ht : t.size ≤ maxLen) (_hs : s.size ≤ maxLen) :
    Calls Try.prog 5 #[.string t, .agg #[.int .i64 o, .bool r], .agg #[.int .i64 a, .int .i64 d, .string s]] w fun e w' => e = .returned (.bool true) ∧ Below w.heap.size w w' := by
  obtain ⟨W, hW⟩ : ∃ W, W = ((w.alloc (.cells #[.int .i64 o, .bool r] 23)).alloc (.cells #[.int .i64 a, .int .i64 d, .string s] 25)) := ⟨_, rfl⟩
  have bW : Below w.heap.size w W := by rw [hW]; exact (((Below.refl _ _).alloc (Nat.le_refl _) _).alloc (by simp) _)
  have hx0 : W.heap[w.heap.size]? = some (.cells #[.int .i64 o, .bool r] 23 (0, 0)) := by rw [hW]; exact blk_alloc (alloc_new _ _)
  have K0 := hid (show ∀ W', Below W.heap.size W W' → W'.cell? ⟨w.heap.size, 0, none⟩ = some (.int .i64 o) ∧ W'.cell? ⟨w.heap.size, 1, none⟩ = some (.bool r) from fun W' hb => cells2 ((hb.block _ (heap_lt hx0)).trans hx0))
  have hx1 : W.heap[w.heap.size + 1]? = some (.cells #[.int .i64 a, .int .i64 d, .string s] 25 (0, 0)) := by rw [hW]; exact alloc_at _ _ (by simp; done)
  have K1 := hid (show ∀ W', Below W.heap.size W W' → W'.cell? ⟨w.heap.size + 1, 0, none⟩ = some (.int .i64 a) ∧ W'.cell? ⟨w.heap.size + 1, 1, none⟩ = some (.int .i64 d) ∧ W'.cell? ⟨w.heap.size + 1, 2, none⟩ = some (.string s) from fun W' hb => cells3 ((hb.block _ (heap_lt hx1)).trans hx1))
  have HW := hid hW
  have hle := bW.size
  clear hx0 hx1 hW
  by_cases hT : (100 : Int) < (t.size : Int)
  · go_enter Try.func5, Try.ntmps5
    obtain ⟨k00, k01⟩ := K0.out _ (Below.refl _ W)
    obtain ⟨k10, k11, k12⟩ := K1.out _ (Below.refl _ W)
    go_wp2_with fail
    rw [← HW.out]
    refine (awake_any _).mono ?_
    rintro e w9 ⟨rfl, hb9⟩
    go_wp2
    go_ret
    exact ⟨rfl, bW.trans (hb9.mono hle)⟩
  have hT' : (t.size : Int) ≤ 100 := by omega
  have hT0 : (0 : Int) ≤ (t.size : Int) := by omega
  clear hT
  by_cases hF : 0 ≤ a ∧ 0 ≤ d ∧ a ≤ (t.size : Int) ∧ d ≤ (t.size : Int) - a
  · have HF := hid hF
    clear hF
    by_cases hS : SmallP o a d s.size
    · have HS := hid hS
      clear hS
      by_cases hc : (t.size : Int) < o
      · go_enter Try.func5, Try.ntmps5
        obtain ⟨k00, k01⟩ := K0.out _ (Below.refl _ W)
        obtain ⟨k10, k11, k12⟩ := K1.out _ (Below.refl _ W)
        go_wp2_with fail
        rw [← HW.out]
        refine (fits_yes _ _ _ _ _ hT0 (by omega) HF.out).mono ?_
        rintro e w1 ⟨rfl, hb1⟩
        obtain ⟨k00, k01⟩ := K0.out _ hb1
        obtain ⟨k10, k11, k12⟩ := K1.out _ hb1
        go_wp2_with fail
        refine (small_yes _ _ _ _ _ _ HS.out).mono ?_
        rintro e w2 ⟨rfl, hb2'⟩
        have hb2 := hb1.trans (hb2'.mono hb1.size)
        obtain ⟨k00, k01⟩ := K0.out _ hb2
        obtain ⟨k10, k11, k12⟩ := K1.out _ hb2
        go_wp2_with fail
        refine (awake_any _).mono ?_
        rintro e w9 ⟨rfl, hb9⟩
        go_wp2
        go_ret
        exact ⟨rfl, bW.trans ((hb2.trans (hb9.mono hb2.size)).mono hle)⟩
      · have hc' : o ≤ (t.size : Int) := by omega
        obtain ⟨f0, f1, f2, f3⟩ := HF.out
        obtain ⟨s0, s1, s2, s3, s4, s5, s6⟩ := HS.out
        have s6' : (s.size : Int) ≤ 1000 := by omega
        clear hc
        obtain ⟨na, rfl⟩ : ∃ n : Nat, a = n := ⟨a.toNat, by omega⟩
        obtain ⟨nd, rfl⟩ : ∃ n : Nat, d = n := ⟨d.toNat, by omega⟩
        obtain ⟨no, rfl⟩ : ∃ n : Nat, o = n := ⟨o.toNat, by omega⟩
        go_enter Try.func5, Try.ntmps5
        obtain ⟨k00, k01⟩ := K0.out _ (Below.refl _ W)
        obtain ⟨k10, k11, k12⟩ := K1.out _ (Below.refl _ W)
        go_wp2_with fail
        rw [← HW.out]
        refine (fits_yes _ _ _ _ _ hT0 (by omega) HF.out).mono ?_
        rintro e w1 ⟨rfl, hb1⟩
        obtain ⟨k00, k01⟩ := K0.out _ hb1
        obtain ⟨k10, k11, k12⟩ := K1.out _ hb1
        go_wp2_with fail
        refine (small_yes _ _ _ _ _ _ HS.out).mono ?_
        rintro e w2 ⟨rfl, hb2'⟩
        have hb2 := hb1.trans (hb2'.mono hb1.size)
        obtain ⟨k00, k01⟩ := K0.out _ hb2
        obtain ⟨k10, k11, k12⟩ := K1.out _ hb2
        go_wp2_with fail
        go_quiet (fail)
        obtain ⟨T, hT⟩ : ∃ T, T = t.extract 0 na ++ s ++ t.extract (na + nd) t.size := ⟨_, rfl⟩
        have hTs : T.size = na + s.size + (t.size - (na + nd)) := by rw [hT]; exact ex_size t s na (na + nd) (by omega) (by omega)
        have HT := hid hT
        have q1 : T.size ≤ 2000 := by omega
        have q1' : (T.size : Int) ≤ 2000 := by omega
        rw [← hT]
        obtain ⟨w5, hw5⟩ : ∃ w5, w5 = w2.drewN nq := ⟨_, rfl⟩
        have hb5 : Below W.heap.size W w5 := by rw [hw5]; exact below_drewN hb2 nq
        rw [← hw5]
        clear hT hw5
        obtain ⟨k00, k01⟩ := K0.out _ hb5
        obtain ⟨k10, k11, k12⟩ := K1.out _ hb5
        go_wp2_with fail
        refine (move_any _ _ _ _ _ _ HS.out.mid).mono ?_
        rintro e w3 ⟨rfl, hb3'⟩
        have hb3 := hb5.trans (hb3'.mono hb5.size)
        have HTs := hid hTs
        clear hTs
        rcases (by omega : no < na ∨ (na ≤ no ∧ no ≤ na + nd) ∨ na + nd < no) with hk | ⟨hk, hk'⟩ | hk
        · have hV : mv (no : Int) r na nd s.size = (no : Int) := (mv_a (by omega)).symm
          have hk2 : ¬ na + nd < no := by omega
          have hk3 : decide ((na : Int) + nd < (no : Int)) = false := by simp; omega
          have hk4 : no ≤ T.size := by have := HTs.out; omega
          have hk5 : ¬ (no : Int) < 0 := by omega
          have hk6 : ¬ (T.size : Int) < (no : Int) := by omega
          have hE : T.extract 0 no = t.extract 0 no := by rw [HT.out]; exact ex1 t s na (na + nd) no (by omega) (by omega)
          rw [hV]
          clear hV
          go_wp2_with fail
          obtain ⟨Y, hY⟩ : ∃ Y, Y = w3.alloc (.cells #[.int .i64 no, .bool r] 23) := ⟨_, rfl⟩
          have hbx : Y.heap[w3.heap.size]? = some (.cells #[.int .i64 no, .bool r] 23 (0, 0)) := by rw [hY]; exact alloc_new _ _
          have hbY : Below W.heap.size W Y := by rw [hY]; exact hb3.alloc hb3.size _
          rw [← hY]
          clear hY
          obtain ⟨k00, k01⟩ := K0.out _ hbY
          obtain ⟨k10, k11, k12⟩ := K1.out _ hbY
          obtain ⟨j0, j1⟩ := cells2 hbx
          go_quiet (fail)
          go_wp2_with fail
          go_quiet (fail)
          go_wp2_with fail
          refine (awake_any _).mono ?_
          rintro e w9 ⟨rfl, hb9⟩
          have hb8 : Below W.heap.size W _ := (below_drewN hbY _).trans (hb9.mono (below_drewN hbY _).size)
          go_wp2
          go_ret
          exact ⟨rfl, bW.trans (hb8.mono hle)⟩
        · obtain ⟨nb, hnb⟩ : ∃ nb, nb = na + s.size := ⟨_, rfl⟩
          have HNB := hid hnb
          clear hnb
          cases r
          · have hV : mv (no : Int) false na nd s.size = (na : Int) := (mv_d (by omega) (by omega)).symm
            have hk2 : ¬ na + nd < no := by omega
            have hk3 : decide ((na : Int) + nd < (no : Int)) = false := by simp; omega
            have hk7 : ¬ no < na := by omega
            have hk8 : decide (no < na) = false := by simp; omega
            have hk4 : na ≤ T.size := by have := HTs.out; omega
            have hk5 : ¬ ((na : Nat) : Int) < 0 := by omega
            have hk6 : ¬ (T.size : Int) < ((na : Nat) : Int) := by omega
            rw [hV]
            clear hV
            go_wp2_with fail
            obtain ⟨Y, hY⟩ : ∃ Y, Y = w3.alloc (.cells #[.int .i64 na, .bool false] 23) := ⟨_, rfl⟩
            have hbx : Y.heap[w3.heap.size]? = some (.cells #[.int .i64 na, .bool false] 23 (0, 0)) := by rw [hY]; exact alloc_new _ _
            have hbY : Below W.heap.size W Y := by rw [hY]; exact hb3.alloc hb3.size _
            rw [← hY]
            clear hY
            obtain ⟨k00, k01⟩ := K0.out _ hbY
            obtain ⟨k10, k11, k12⟩ := K1.out _ hbY
            obtain ⟨j0, j1⟩ := cells2 hbx
            go_quiet (fail)
            go_wp2_with fail
            go_quiet (fail)
            go_wp2_with fail
            refine (awake_any _).mono ?_
            rintro e w9 ⟨rfl, hb9⟩
            have hb8 : Below W.heap.size W _ := (below_drewN hbY _).trans (hb9.mono (below_drewN hbY _).size)
            go_wp2
            go_ret
            exact ⟨rfl, bW.trans (hb8.mono hle)⟩
          · have hV : mv (no : Int) true na nd s.size = (nb : Int) := by rw [HNB.out, ← mv_c (o := (no : Int)) (a := na) (d := nd) (n := s.size) (by omega) (by omega)]; omega
            have hk2 : ¬ na + nd < no := by omega
            have hk3 : decide ((na : Int) + nd < (no : Int)) = false := by simp; omega
            have hk7 : ¬ no < na := by omega
            have hk8 : decide (no < na) = false := by simp; omega
            have hk4 : nb ≤ T.size := by have := HTs.out; have := HNB.out; omega
            have hk5 : ¬ ((nb : Nat) : Int) < 0 := by omega
            have hk6 : ¬ (T.size : Int) < ((nb : Nat) : Int) := by omega
            rw [hV]
            clear hV
            go_wp2_with fail
            obtain ⟨Y, hY⟩ : ∃ Y, Y = w3.alloc (.cells #[.int .i64 nb, .bool true] 23) := ⟨_, rfl⟩
            have hbx : Y.heap[w3.heap.size]? = some (.cells #[.int .i64 nb, .bool true] 23 (0, 0)) := by rw [hY]; exact alloc_new _ _
            have hbY : Below W.heap.size W Y := by rw [hY]; exact hb3.alloc hb3.size _
            rw [← hY]
            clear hY
            obtain ⟨k00, k01⟩ := K0.out _ hbY
            obtain ⟨k10, k11, k12⟩ := K1.out _ hbY
            obtain ⟨j0, j1⟩ := cells2 hbx
            go_quiet (fail)
            go_wp2_with fail
            go_quiet (fail)
            go_wp2_with fail
            refine (awake_any _).mono ?_
            rintro e w9 ⟨rfl, hb9⟩
            have hb8 : Below W.heap.size W _ := (below_drewN hbY _).trans (hb9.mono (below_drewN hbY _).size)
            go_wp2
            go_ret
            exact ⟨rfl, bW.trans (hb8.mono hle)⟩
        · obtain ⟨nb, hnb⟩ : ∃ nb, nb = no + s.size - nd := ⟨_, rfl⟩
          have HNB := hid hnb
          clear hnb
          have hV : mv (no : Int) r na nd s.size = (nb : Int) := by rw [HNB.out]; exact (mv_b (by omega) (by omega) (by omega)).symm
          have hk2 : na + nd < no := hk
          have hk3 : decide ((na : Int) + nd < (no : Int)) = true := by simp; omega
          have hk7 : ¬ no < na := by omega
          have hk8 : decide (no < na) = false := by simp; omega
          have hk4 : nb ≤ T.size := by have := HTs.out; have := HNB.out; omega
          have hk5 : ¬ ((nb : Nat) : Int) < 0 := by omega
          have hk6 : ¬ (T.size : Int) < ((nb : Nat) : Int) := by omega
          have hE : T.extract nb T.size = t.extract no t.size := by rw [HTs.out, HT.out]; exact ex2 t s na (na + nd) no nb _ (by omega) (by omega) (by omega) (by have := HNB.out; omega) rfl
          rw [hV]
          clear hV
          go_wp2_with fail
          obtain ⟨Y, hY⟩ : ∃ Y, Y = w3.alloc (.cells #[.int .i64 nb, .bool r] 23) := ⟨_, rfl⟩
          have hbx : Y.heap[w3.heap.size]? = some (.cells #[.int .i64 nb, .bool r] 23 (0, 0)) := by rw [hY]; exact alloc_new _ _
          have hbY : Below W.heap.size W Y := by rw [hY]; exact hb3.alloc hb3.size _
          rw [← hY]
          clear hY
          obtain ⟨k00, k01⟩ := K0.out _ hbY
          obtain ⟨k10, k11, k12⟩ := K1.out _ hbY
          obtain ⟨j0, j1⟩ := cells2 hbx
          go_quiet (fail)
          go_wp2_with fail
          go_quiet (fail)
          go_wp2_with fail
          refine (awake_any _).mono ?_
          rintro e w9 ⟨rfl, hb9⟩
          have hb8 : Below W.heap.size W _ := (below_drewN hbY _).trans (hb9.mono (below_drewN hbY _).size)
          go_wp2
          go_ret
          exact ⟨rfl, bW.trans (hb8.mono hle)⟩
    · have HS := hid hS
      clear hS
      go_enter Try.func5, Try.ntmps5
      obtain ⟨k00, k01⟩ := K0.out _ (Below.refl _ W)
      obtain ⟨k10, k11, k12⟩ := K1.out _ (Below.refl _ W)
      go_wp2_with fail
      rw [← HW.out]
      refine (fits_yes _ _ _ _ _ hT0 (by omega) HF.out).mono ?_
      rintro e w1 ⟨rfl, hb1⟩
      obtain ⟨k00, k01⟩ := K0.out _ hb1
      obtain ⟨k10, k11, k12⟩ := K1.out _ hb1
      go_wp2_with fail
      refine (small_no _ _ _ _ _ _ HS.out).mono ?_
      rintro e w2 ⟨rfl, hb2'⟩
      have hb2 := hb1.trans (hb2'.mono hb1.size)
      go_wp2_with fail
      refine (awake_any _).mono ?_
      rintro e w9 ⟨rfl, hb9⟩
      go_wp2
      go_ret
      exact ⟨rfl, bW.trans ((hb2.trans (hb9.mono hb2.size)).mono hle)⟩
  · have HF := hid hF
    clear hF
    go_enter Try.func5, Try.ntmps5
    obtain ⟨k00, k01⟩ := K0.out _ (Below.refl _ W)
    obtain ⟨k10, k11, k12⟩ := K1.out _ (Below.refl _ W)
    go_wp2_with fail
    rw [← HW.out]
    refine (fits_no _ _ _ _ _ hT0 (by omega) HF.out).mono ?_
    rintro e w1 ⟨rfl, hb1⟩
    go_wp2_with fail
    refine (awake_any _).mono ?_
    rintro e w9 ⟨rfl, hb9⟩
    go_wp2
    go_ret
    exact ⟨rfl, bW.trans ((hb1.trans (hb9.mono hb1.size)).mono hle)⟩

theorem lifted (os : Os) (started : os.Started) (H : Type) (enc : TypeId × Value → H) :
    ReturnsInHanded {} Try.checked os 5 .any (Rows.anchorKeepsNeighborsSpec.pre6 enc Try.prog Try.f5 Rows.anchorKeepsNeighborsRow.domain false) (Rows.anchorKeepsNeighborsSpec.post enc Try.prog Try.f5 false true false false) := by
  refine Go.Frame.lifted (C := Try.checked) (tb := 4) own started (by kernel_rfl) Try.func5
    (ChangeSpec.witness6 (enc := enc) (C := Try.checked) false ⟨#[], #[.string ByteArray.empty, .agg #[.int .i64 0, .bool false], .agg #[.int .i64 0, .int .i64 0, .string ByteArray.empty]], []⟩ 8 (by kernel_rfl) (by kernel_rfl) (by kernel_rfl) (by kernel_rfl))
    laidOut (by kernel_rfl) (by kernel_rfl) Try.underlying4 rfl ?_ ?_
  · intro ds h
    have h : ds.length = 3 := h
    match ds, h with
    | [_, _, _], _ => rfl
  · intro W base args ds p hlen hval0 hA hsz0
    have hval : ∀ (j : Nat) t v, Try.f5.params[j]? = some t → args[j]? = some v → Value.okWide Try.prog W .any base t v := hval0
    have hA : DataW.TrodAll enc Try.prog W 0 (fun _ => true) true Try.f5.params.toList args.toList ds p := hA
    have hsz : (DataW.weightsEach Try.prog Try.f5.params.toList ds).all (· ≤ reachBytes) = true := hsz0
    rw [Try.params5] at hA hval hsz
    obtain ⟨v0, vs0, d0, ds0, p0, q0, hargs, hds, _, th0, tr0⟩ := trodAll_cons hA
    obtain ⟨v1, vs1, d1, ds1, p1, q1, rfl, rfl, _, th1, tr1⟩ := trodAll_cons tr0
    obtain ⟨v2, vs2, d2, ds2, p2, q2, rfl, rfl, _, th2, tr2⟩ := trodAll_cons tr1
    obtain ⟨rfl, rfl, _⟩ := trodAll_nil tr2
    obtain rfl : args = #[v0, v1, v2] := by cases args; simp_all
    subst hds
    obtain ⟨t, rfl, _, _, ht⟩ := open_string Try.underlying9 (hval 0 9 v0 rfl rfl) th0
    obtain ⟨o1, r1, rfl⟩ := open_anchor (hval 1 23 v1 rfl rfl) th1
    obtain ⟨a, d, s, rfl, hs⟩ := open_edit (hval 2 25 v2 rfl rfl) th2
    exact walk t o1 r1 a d s W ht hs

theorem over : Rows.anchorKeepsNeighborsRow.holds Try.pinned (OpenSpec.ofChange Rows.anchorKeepsNeighborsSpec) :=
  OpenClaim.holds_of_wide 5 Try.f5 rfl rfl rfl rfl rfl rfl rfl ⟨rfl, rfl, rfl, rfl, rfl⟩ rfl rfl rfl rfl rfl (by kernel_rfl) Try.func5 (by kernel_rfl)
    (of_decide_eq_true (by kernel_rfl)) (by unfold Func.isWrapper; first | (rw [if_pos (by decide +kernel)]; kernel_rfl) | (rw [if_neg (by decide +kernel)]; exact ⟨rfl, rfl⟩))
    (fun os started H enc _ => lifted os started H enc)

/-- THE STATEMENT -/
theorem proved : Rows.AnchorKeepsNeighborsSaid :=
  over
#print axioms proved
end Go.Proofs.Ytcfcbemfnibaeaa.anchorKeepsNeighbors
