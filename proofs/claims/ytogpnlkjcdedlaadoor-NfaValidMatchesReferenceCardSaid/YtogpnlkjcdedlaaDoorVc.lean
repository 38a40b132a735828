/-
  Contracts: ContainsFunc, Valid.
-/
import Derived.Test.YtogpnlkjcdedlaaDoorVb
set_option linter.unusedSimpArgs false
set_option linter.unusedVariables false
namespace Go.Proofs.YtogpnlkjcdedlaaDoor
open Go.RowKit Bs Rg Nf Go.Frame
attribute [local go_sem] eq_zero eq_set

set_option maxRecDepth 100000 in
set_option maxHeartbeats 4000000 in
theorem clo32_any (w : World) (B : Nat) (n st : Int) (a1 a2 : Option Addr) (m c1 k c2 : Nat) (f t : Int) (e : Bool) (s : BS) (hB : w.heap[B]? = some (.cells #[.int .i64 n, .int .i64 st, .slice a1 m c1, .slice a2 k c2] 25 (0, 0))) :
    Calls Tryd.prog 32 #[.agg #[.int .i64 f, .int .i64 t, .bool e, .int .u64 (ws s 0 : Int), .int .u64 (ws s 1 : Int), .int .u64 (ws s 2 : Int), .int .u64 (ws s 3 : Int)], .pointer (some ⟨B, 0, none⟩)] w fun r w' => r = .returned (.bool (!arcOk n ⟨f, t, e, s⟩)) ∧ Below w.heap.size w w' := by
  obtain ⟨W, hW⟩ : ∃ W, W = w.alloc (.cells #[.int .i64 f, .int .i64 t, .bool e, .int .u64 (ws s 0 : Int), .int .u64 (ws s 1 : Int), .int .u64 (ws s 2 : Int), .int .u64 (ws s 3 : Int)] 55) := ⟨_, rfl⟩
  have HB := hid (show Below w.heap.size w W from by rw [hW]; exact bel1 _ _)
  have X0 := hid (show W.heap[B]? = some (.cells #[.int .i64 n, .int .i64 st, .slice a1 m c1, .slice a2 k c2] 25 (0, 0)) from by rw [hW]; exact blk_alloc hB)
  have X1 := hid (show W.heap[w.heap.size]? = some (.cells #[.int .i64 f, .int .i64 t, .bool e, .int .u64 (ws s 0 : Int), .int .u64 (ws s 1 : Int), .int .u64 (ws s 2 : Int), .int .u64 (ws s 3 : Int)] 55 (0, 0)) from by rw [hW]; exact alloc_new _ _)
  have CF := hid (fun V => nfits_any V n st a1 a2 m c1 k c2 f t e s)
  clear hB
  obtain ⟨d0, d1, d2, d3⟩ := cells4 X0.out
  obtain ⟨e0, e1, e2, e3, e4, e5, e6⟩ := cells7a X1.out
  obtain ⟨y, hy⟩ : ∃ y, y = arcOk n ⟨f, t, e, s⟩ := ⟨_, rfl⟩
  rw [← hy] at CF ⊢
  clear hy
  go_enter Tryd.func32, Tryd.ntmps32
  go_upto_region 1 with fail
  rw [← hW]
  clear hW
  go_wp2_with fail
  refine (CF.out _).mono ?_
  rintro r V ⟨rfl, b1⟩
  go_wp2
  go_ret
  exact ⟨rfl, HB.out.trans (b1.mono HB.out.size)⟩
set_option maxRecDepth 100000 in
set_option maxHeartbeats 4000000 in
theorem idx53_any (w : World) (B : Nat) (n st : Int) (a1 a2 : Option Addr) (m c1 k c2 : Nat) (l : List Arc) (hB : w.heap[B]? = some (.cells #[.int .i64 n, .int .i64 st, .slice a1 m c1, .slice a2 k c2] 25 (0, 0))) (hA : CRow 7 w a1 m (l.map acs)) (hm : m ≤ 140737488355328) :
    Calls Tryd.prog 53 #[.slice a1 m c1, .func (.func 32) #[] #[.pointer (some ⟨B, 0, none⟩)]] w fun r w' => (∃ x : Int, r = .returned (.int .i64 x) ∧ decide (0 ≤ x) = !l.all (arcOk n)) ∧ Below w.heap.size w w' := by
  have H0 := hid (And.intro hB (And.intro hA (heap_lt hB)))
  have CL := hid (fun V f t e s (hV : V.heap[B]? = some (.cells #[.int .i64 n, .int .i64 st, .slice a1 m c1, .slice a2 k c2] 25 (0, 0))) => clo32_any V B n st a1 a2 m c1 k c2 f t e s hV)
  have hl : l.length = m := by have := hA.1; simpa using this
  have HL := hid hl
  clear hB hA hl
  go_enter Tryd.func53, Tryd.ntmps53
  go_wp2_with fail
  go_loopg [8] m (fun kk s8 wr => ∃ i : Nat, s8 = .int .i64 (i : Int) ∧ i + kk = m ∧ (l.take i).all (arcOk n) = true ∧ Below w.heap.size w wr)
  case atStart => exact ⟨0, rfl, by omega, by simp, Below.refl _ _⟩
  case round =>
    obtain ⟨i, rfl, hik, htk, hbw⟩ := hrel
    by_cases hlt : i < m
    · have hlt' : (i : Int) < (m : Int) := by omega
      obtain ⟨b, off, f, t, e, s, rfl, hbl, ha, q0, q1, q2, q3, q4, q5, q6⟩ := arc_at (H0.out.2.1.below (W' := wr) (by exact hbw)) hlt
      have HX := hid (And.intro htk (And.intro hbw ha))
      have CL2 := hid (CL.out wr f t e s ((hbw.block _ H0.out.2.2).trans H0.out.1))
      obtain ⟨y, hy⟩ : ∃ y, y = arcOk n ⟨f, t, e, s⟩ := ⟨_, rfl⟩
      rw [← hy] at CL2
      have HY := hid hy
      clear htk hbw ha hy hbl
      go_wp2_with fail
      refine CL2.out.mono ?_
      rintro r V ⟨rfl, b1⟩
      have HZ := hid (HX.out.2.1.trans (b1.mono HX.out.2.1.size))
      clear b1
      cases y
      · skip
        go_wp2
        go_ret
        refine ⟨⟨i, rfl, ?_⟩, HZ.out⟩
        have h1 : l.all (arcOk n) = false := by
          rw [List.all_eq_false]
          exact ⟨_, List.mem_of_getElem? HX.out.2.2, by rw [← HY.out]; simp⟩
        rw [h1]; simp
      · skip
        go_wp2
        go_roundg (gk - 1)
        case measure => omega
        case rel =>
          refine ⟨i + 1, by go_num, by omega, ?_, HZ.out⟩
          rw [List.take_add_one, HX.out.2.2, List.all_append, HX.out.1, Bool.true_and]
          simpa using HY.out.symm
    · have hlt' : ¬ (i : Int) < (m : Int) := by omega
      have hall : l.all (arcOk n) = true := by rw [List.take_of_length_le (by have := HL.out; omega)] at htk; exact htk
      have HZ := hid (And.intro hall hbw)
      clear htk hbw hall
      go_wp2
      go_ret
      exact ⟨⟨-1, rfl, by rw [HZ.out.1]; rfl⟩, HZ.out.2⟩
set_option maxRecDepth 100000 in
set_option maxHeartbeats 4000000 in
theorem cont31_any (w : World) (B : Nat) (n st : Int) (a1 a2 : Option Addr) (m c1 k c2 : Nat) (l : List Arc) (hB : w.heap[B]? = some (.cells #[.int .i64 n, .int .i64 st, .slice a1 m c1, .slice a2 k c2] 25 (0, 0))) (hA : CRow 7 w a1 m (l.map acs)) (hm : m ≤ 140737488355328) :
    Calls Tryd.prog 31 #[.slice a1 m c1, .func (.func 32) #[] #[.pointer (some ⟨B, 0, none⟩)]] w fun r w' => r = .returned (.bool (!l.all (arcOk n))) ∧ Below w.heap.size w w' := by
  have CI := hid (idx53_any w B n st a1 a2 m c1 k c2 l hB hA hm)
  obtain ⟨y, hy⟩ : ∃ y, y = !l.all (arcOk n) := ⟨_, rfl⟩
  rw [← hy] at CI ⊢
  clear hy hB hA
  go_enter Tryd.func31, Tryd.ntmps31
  go_wp2_with fail
  refine CI.out.mono ?_
  rintro r V ⟨⟨x, rfl, hx⟩, b1⟩
  by_cases h0 : 0 ≤ x
  · rw [decide_eq_true h0] at hx
    subst hx
    go_wp2
    go_ret
    exact ⟨rfl, b1⟩
  · rw [decide_eq_false h0] at hx
    subst hx
    go_wp2
    go_ret
    exact ⟨by show Ending.returned (.bool (decide (0 ≤ x))) = _; rw [decide_eq_false (by omega : ¬ 0 ≤ x)], b1⟩
set_option maxRecDepth 100000 in
set_option maxHeartbeats 4000000 in
theorem clo35_any (w : World) (x : Int) : Calls Tryd.prog 35 #[.int .i64 x] w fun r w' => r = .returned (.bool (!decide (-1 ≤ x))) ∧ Below w.heap.size w w' := by
  by_cases h : x < -1
  · rw [decide_eq_false (by omega : ¬ -1 ≤ x)]
    go_enter Tryd.func35, Tryd.ntmps35
    go_wp2
    go_ret
    exact ⟨rfl, Below.refl _ _⟩
  · rw [decide_eq_true (by omega : -1 ≤ x)]
    go_enter Tryd.func35, Tryd.ntmps35
    go_wp2
    go_ret
    exact ⟨rfl, Below.refl _ _⟩
set_option maxRecDepth 100000 in
set_option maxHeartbeats 4000000 in
theorem idx54_any (w : World) (a1 : Option Addr) (m c1 : Nat) (l : List Int) (hA : Row w a1 m (l.map iv)) (hm : m ≤ 140737488355328) :
    Calls Tryd.prog 54 #[.slice a1 m c1, .func (.func 35) #[] #[]] w fun r w' => (∃ x : Int, r = .returned (.int .i64 x) ∧ decide (0 ≤ x) = !l.all fun x => decide (-1 ≤ x)) ∧ Below w.heap.size w w' := by
  have H0 := hid hA
  have CL := hid (fun V x => clo35_any V x)
  have hl : l.length = m := by have := hA.1; simpa using this
  have HL := hid hl
  clear hA hl
  go_enter Tryd.func54, Tryd.ntmps54
  go_wp2_with fail
  go_loopg [8] m (fun kk s8 wr => ∃ i : Nat, s8 = .int .i64 (i : Int) ∧ i + kk = m ∧ (l.take i).all (fun x => decide (-1 ≤ x)) = true ∧ Below w.heap.size w wr)
  case atStart => exact ⟨0, rfl, by omega, by simp, Below.refl _ _⟩
  case round =>
    obtain ⟨i, rfl, hik, htk, hbw⟩ := hrel
    by_cases hlt : i < m
    · have hlt' : (i : Int) < (m : Int) := by omega
      obtain ⟨b, off, x, rfl, hbl, ha, q0⟩ := int_at (H0.out.below (W' := wr) (by exact hbw)) hlt
      have HX := hid (And.intro htk (And.intro hbw ha))
      have CL2 := hid (CL.out wr x)
      obtain ⟨y, hy⟩ : ∃ y, y = decide (-1 ≤ x) := ⟨_, rfl⟩
      rw [← hy] at CL2
      have HY := hid hy
      clear htk hbw ha hy hbl
      go_wp2_with fail
      refine CL2.out.mono ?_
      rintro r V ⟨rfl, b1⟩
      have HZ := hid (HX.out.2.1.trans (b1.mono HX.out.2.1.size))
      clear b1
      cases y
      · skip
        go_wp2
        go_ret
        refine ⟨⟨i, rfl, ?_⟩, HZ.out⟩
        have h1 : (l.all fun x => decide (-1 ≤ x)) = false := by
          rw [List.all_eq_false]
          exact ⟨_, List.mem_of_getElem? HX.out.2.2, by rw [← HY.out]; simp⟩
        rw [h1]; simp
      · skip
        go_wp2
        go_roundg (gk - 1)
        case measure => omega
        case rel =>
          refine ⟨i + 1, by go_num, by omega, ?_, HZ.out⟩
          rw [List.take_add_one, HX.out.2.2, List.all_append, HX.out.1, Bool.true_and]
          simpa using HY.out.symm
    · have hlt' : ¬ (i : Int) < (m : Int) := by omega
      have hall : (l.all fun x => decide (-1 ≤ x)) = true := by rw [List.take_of_length_le (by have := HL.out; omega)] at htk; exact htk
      have HZ := hid (And.intro hall hbw)
      clear htk hbw hall
      go_wp2
      go_ret
      exact ⟨⟨-1, rfl, by rw [HZ.out.1]; rfl⟩, HZ.out.2⟩
set_option maxRecDepth 100000 in
set_option maxHeartbeats 4000000 in
theorem cont34_any (w : World) (a1 : Option Addr) (m c1 : Nat) (l : List Int) (hA : Row w a1 m (l.map iv)) (hm : m ≤ 140737488355328) :
    Calls Tryd.prog 34 #[.slice a1 m c1, .func (.func 35) #[] #[]] w fun r w' => r = .returned (.bool (!l.all fun x => decide (-1 ≤ x))) ∧ Below w.heap.size w w' := by
  have CI := hid (idx54_any w a1 m c1 l hA hm)
  obtain ⟨y, hy⟩ : ∃ y, y = !l.all fun x => decide (-1 ≤ x) := ⟨_, rfl⟩
  rw [← hy] at CI ⊢
  clear hy hA
  go_enter Tryd.func34, Tryd.ntmps34
  go_wp2_with fail
  refine CI.out.mono ?_
  rintro r V ⟨⟨x, rfl, hx⟩, b1⟩
  by_cases h0 : 0 ≤ x
  · rw [decide_eq_true h0] at hx
    subst hx
    go_wp2
    go_ret
    exact ⟨rfl, b1⟩
  · rw [decide_eq_false h0] at hx
    subst hx
    go_wp2
    go_ret
    exact ⟨by show Ending.returned (.bool (decide (0 ≤ x))) = _; rw [decide_eq_false (by omega : ¬ 0 ≤ x)], b1⟩
set_option maxRecDepth 100000 in
set_option maxHeartbeats 4000000 in
theorem NValid_any (w : World) (N : Nfa) (a1 a2 : Option Addr) (m c1 k c2 : Nat) (h : NA w N a1 m a2 k) :
    Calls Tryd.prog 12 #[.agg #[.int .i64 N.n, .int .i64 N.st, .slice a1 m c1, .slice a2 k c2]] w fun r w' => r = .returned (.bool (valid N)) ∧ Below w.heap.size w w' := by
  obtain ⟨n, st, arcs, acc⟩ := N
  have hlk := h.lk
  simp only at hlk
  obtain ⟨W, hW⟩ : ∃ W, W = w.alloc (.cells #[.int .i64 n, .int .i64 st, .slice a1 m c1, .slice a2 k c2] 25) := ⟨_, rfl⟩
  have HB := hid (show Below w.heap.size w W from by rw [hW]; exact bel1 _ _)
  have HW := hid (show W.heap[w.heap.size]? = some (.cells #[.int .i64 n, .int .i64 st, .slice a1 m c1, .slice a2 k c2] 25 (0, 0)) from by rw [hW]; exact alloc_new _ _)
  have H := hid (h.below HB.out)
  clear h
  obtain ⟨y1, h1⟩ : ∃ y, y = isS n st := ⟨_, rfl⟩
  obtain ⟨y2, h2⟩ : ∃ y, y = arcs.all (arcOk n) := ⟨_, rfl⟩
  obtain ⟨y3, h3⟩ : ∃ y, y = acc.all fun x => decide (-1 ≤ x) := ⟨_, rfl⟩
  have hv : valid ⟨n, st, arcs, acc⟩ = (decide (1 ≤ n) && decide (n ≤ 2000) && y1 && y2 && decide ((k : Int) = n) && y3) := by rw [h1, h2, h3, ← hlk]; rfl
  obtain ⟨q, hq⟩ : ∃ q, q = valid ⟨n, st, arcs, acc⟩ := ⟨_, rfl⟩
  rw [← hq]
  rw [hv] at hq
  have C1 := hid (fun V => show Calls Tryd.prog 30 #[.agg #[.int .i64 n, .int .i64 st, .slice a1 m c1, .slice a2 k c2], .int .i64 st] V fun e w' => e = .returned (.bool y1) ∧ Below V.heap.size V w' from h1 ▸ isState_any V n st st a1 a2 m c1 k c2)
  have C2 := hid (fun V (hV : Below W.heap.size W V) => show Calls Tryd.prog 31 #[.slice a1 m c1, .func (.func 32) #[] #[.pointer (some ⟨w.heap.size, 0, none⟩)]] V fun e w' => e = .returned (.bool (!y2)) ∧ Below V.heap.size V w' from h2 ▸ cont31_any V w.heap.size n st a1 a2 m c1 k c2 arcs ((hV.block _ (heap_lt HW.out)).trans HW.out) (H.out.arcs.below hV) H.out.hm)
  have C3 := hid (fun V (hV : Below W.heap.size W V) => show Calls Tryd.prog 34 #[.slice a2 k c2, .func (.func 35) #[] #[]] V fun e w' => e = .returned (.bool (!y3)) ∧ Below V.heap.size V w' from h3 ▸ cont34_any V a2 k c2 acc (H.out.acc.below hV) H.out.hk)
  clear h1 h2 h3 hv hlk H
  obtain ⟨d0, d1, d2, d3⟩ := cells4 HW.out
  have hq' := hid hq
  clear hq
  go_enter Tryd.func12, Tryd.ntmps12
  go_upto_region 1 with fail
  rw [← hW]
  clear hW
  by_cases g1 : 1 ≤ n
  · by_cases g2 : n ≤ 2000
    · go_wp2_with fail
      refine (C1.out _).mono ?_
      rintro r V ⟨rfl, b1⟩
      have HV := hid b1
      have X := hid ((b1.block _ (heap_lt HW.out)).trans HW.out)
      clear b1 d0 d1 d2 d3
      obtain ⟨d0, d1, d2, d3⟩ := cells4 X.out
      cases y1
      · skip
        go_wp2
        go_ret
        exact ⟨by rw [hq'.out]; simp, HB.out.trans (HV.out.mono HB.out.size)⟩
      · skip
        go_wp2_with fail
        refine (C2.out _ HV.out).mono ?_
        rintro r V2 ⟨rfl, b1⟩
        have HV2 := hid (HV.out.trans (b1.mono HV.out.size))
        have X2 := hid ((b1.block _ (heap_lt X.out)).trans X.out)
        clear b1 d0 d1 d2 d3
        obtain ⟨d0, d1, d2, d3⟩ := cells4 X2.out
        cases y2
        · skip
          go_wp2
          go_ret
          exact ⟨by rw [hq'.out]; simp, HB.out.trans (HV2.out.mono HB.out.size)⟩
        · by_cases g3 : (k : Int) = n
          · subst g3
            go_wp2_with fail
            refine (C3.out _ HV2.out).mono ?_
            rintro r V3 ⟨rfl, b1⟩
            have HV3 := hid (HV2.out.trans (b1.mono HV2.out.size))
            clear b1 d0 d1 d2 d3
            have hq3 : q = y3 := by rw [hq'.out, decide_eq_true g1, decide_eq_true g2]; simp
            cases y3
            · skip
              go_wp2
              go_ret
              exact ⟨by rw [hq3]; rfl, HB.out.trans (HV3.out.mono HB.out.size)⟩
            · skip
              go_wp2
              go_ret
              exact ⟨by rw [hq3]; rfl, HB.out.trans (HV3.out.mono HB.out.size)⟩
          · have g4 : ((k : Int) == n) = false := by simpa using g3
            go_wp2
            go_ret
            exact ⟨by rw [hq'.out, decide_eq_false g3]; simp, HB.out.trans (HV2.out.mono HB.out.size)⟩
    · go_wp2
      go_ret
      exact ⟨by rw [hq'.out, decide_eq_false (by omega : ¬ n ≤ 2000)]; simp, HB.out⟩
  · go_wp2
    go_ret
    exact ⟨by rw [hq'.out, decide_eq_false (by omega : ¬ 1 ≤ n)]; simp, HB.out⟩
end Go.Proofs.YtogpnlkjcdedlaaDoor
