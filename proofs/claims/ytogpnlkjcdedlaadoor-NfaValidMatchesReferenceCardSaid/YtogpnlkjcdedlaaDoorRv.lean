/-
  Contract: the reference's Valid.
-/
import Derived.Test.YtogpnlkjcdedlaaDoorVc
set_option linter.unusedSimpArgs false
set_option linter.unusedVariables false
namespace Go.Proofs.YtogpnlkjcdedlaaDoor
open Go.RowKit Bs Rg Nf Go.Frame
attribute [local go_sem] eq_zero eq_set

theorem valid_def (n st : Int) (arcs : List Arc) (acc : List Int) (k : Nat) (hk : acc.length = k) : valid ⟨n, st, arcs, acc⟩ = (decide (1 ≤ n) && decide (n ≤ 2000) && isS n st && arcs.all (arcOk n) && decide ((k : Int) = n) && acc.all fun x => decide (-1 ≤ x)) := by rw [← hk]; rfl
theorem arc_no {k f t : Int} {e : Bool} {s : BS} (h : f < 0 ∨ k ≤ f ∨ t < 0 ∨ k ≤ t) : arcOk k ⟨f, t, e, s⟩ = false := by
  rw [← Bool.not_eq_true, arcOk_iff]
  rintro ⟨⟨h1, h2⟩, ⟨h3, h4⟩, _⟩
  simp only at h1 h2 h3 h4
  omega
set_option maxRecDepth 100000 in
set_option maxHeartbeats 4000000 in
theorem RValid_any (w : World) (N : Nfa) (a1 a2 : Option Addr) (m c1 k c2 : Nat) (h : NA w N a1 m a2 k) :
    Calls Tryd.prog 13 #[.agg #[.int .i64 N.n, .int .i64 N.st, .slice a1 m c1, .slice a2 k c2]] w fun r w' => r = .returned (.bool (valid N)) ∧ Below w.heap.size w w' := by
  obtain ⟨n, st, arcs, acc⟩ := N
  have hlk := h.lk
  have hlm := h.lm
  simp only at hlk hlm
  have hkb := h.hk
  have hmb := h.hm
  obtain ⟨W, hW⟩ : ∃ W, W = w.alloc (.cells #[.int .i64 n, .int .i64 st, .slice a1 m c1, .slice a2 k c2] 25) := ⟨_, rfl⟩
  have HB := hid (show Below w.heap.size w W from by rw [hW]; exact bel1 _ _)
  have HW := hid (show W.heap[w.heap.size]? = some (.cells #[.int .i64 n, .int .i64 st, .slice a1 m c1, .slice a2 k c2] 25 (0, 0)) from by rw [hW]; exact alloc_new _ _)
  have H := hid (h.below HB.out)
  clear h
  obtain ⟨q, hq⟩ : ∃ q, q = valid ⟨n, st, arcs, acc⟩ := ⟨_, rfl⟩
  rw [← hq]
  rw [valid_def n st arcs acc k hlk] at hq
  have hq' := hid hq
  have HL := hid (And.intro hlk hlm)
  clear hq hlk hlm
  obtain ⟨d0, d1, d2, d3⟩ := cells4 HW.out
  go_enter Tryd.func13, Tryd.ntmps13
  go_upto_region 1 with fail
  rw [← hW]
  clear hW
  by_cases g1 : n < 1
  · go_wp2
    go_ret
    exact ⟨by rw [hq'.out, decide_eq_false (by omega : ¬ 1 ≤ n)]; simp, HB.out⟩
  by_cases g2 : 2000 < n
  · go_wp2
    go_ret
    exact ⟨by rw [hq'.out, decide_eq_false (by omega : ¬ n ≤ 2000)]; simp, HB.out⟩
  by_cases g3 : st < 0
  · go_wp2
    go_ret
    have e : isS n st = false := by rw [← Bool.not_eq_true, isS_iff]; omega
    exact ⟨by rw [hq'.out, e]; simp, HB.out⟩
  by_cases g4 : n ≤ st
  · go_wp2
    go_ret
    have e : isS n st = false := by rw [← Bool.not_eq_true, isS_iff]; omega
    exact ⟨by rw [hq'.out, e]; simp, HB.out⟩
  by_cases g5 : (k : Int) = n
  · have HQ := hid (show q = (arcs.all (arcOk n) && acc.all fun x => decide (-1 ≤ x)) from by
      have e : isS n st = true := by rw [isS_iff]; omega
      rw [hq'.out, e, decide_eq_true (by omega : 1 ≤ n), decide_eq_true (by omega : n ≤ 2000), decide_eq_true g5]; simp)
    clear hq'
    subst g5
    go_wp2_with fail
    go_loopg [3] k (fun kk s3 wr => ∃ i : Nat, s3 = .int .i64 (i : Int) ∧ i + kk = k ∧ (acc.take i).all (fun x => decide (-1 ≤ x)) = true ∧ wr = W)
    case atStart => exact ⟨0, rfl, by omega, by simp, rfl⟩
    case round =>
      obtain ⟨i, rfl, hik, htk, hw⟩ := hrel
      obtain rfl : W = wr := hw.symm
      by_cases hlt : i < k
      · have hlt' : (i : Int) < (k : Int) := by omega
        obtain ⟨b, off, x, rfl, hbl, ha, p0⟩ := int_at H.out.acc hlt
        have HX := hid (And.intro htk ha)
        clear htk ha hbl
        by_cases hx : x < -1
        · go_wp2
          go_ret
          refine ⟨?_, HB.out⟩
          have e : (acc.all fun x => decide (-1 ≤ x)) = false := by
            rw [List.all_eq_false]
            exact ⟨_, List.mem_of_getElem? HX.out.2, by simp; omega⟩
          rw [HQ.out, e]; simp
        · go_wp2
          go_roundg (gk - 1)
          case measure => omega
          case rel =>
            refine ⟨i + 1, by go_num, by omega, ?_, rfl⟩
            rw [List.take_add_one, HX.out.2, List.all_append, HX.out.1, Bool.true_and]
            simp; omega
      · have hlt' : ¬ (i : Int) < (k : Int) := by omega
        have HA := hid (show (acc.all fun x => decide (-1 ≤ x)) = true from by rw [List.take_of_length_le (by have := HL.out.1; omega)] at htk; exact htk)
        clear htk
        go_wp2_with fail
        go_loopg [4, 5] m (fun kk s4 _ wr => ∃ i : Nat, s4 = .int .i64 (i : Int) ∧ i + kk = m ∧ (arcs.take i).all (arcOk k) = true ∧ Below W.heap.size W wr)
        case atStart => exact ⟨0, rfl, by omega, by simp, Below.refl _ _⟩
        case round =>
          obtain ⟨i, rfl, hik, htk, hbw⟩ := hrel
          have hW2 := (hbw.block _ (heap_lt HW.out)).trans HW.out
          clear d0 d1 d2 d3
          obtain ⟨d0, d1, d2, d3⟩ := cells4 hW2
          by_cases hlt : i < m
          · have hlt' : (i : Int) < (m : Int) := by omega
            obtain ⟨b, off, f, t, e, s, rfl, hbl, ha, q0, q1, q2, q3, q4, q5, q6⟩ := arc_at (H.out.arcs.below hbw) hlt
            have HX := hid (And.intro htk (And.intro hbw ha))
            obtain ⟨V, hV⟩ : ∃ V, V = wr.alloc (.cells #[.int .i64 f, .int .i64 t, .bool e, .int .u64 (ws s 0 : Int), .int .u64 (ws s 1 : Int), .int .u64 (ws s 2 : Int), .int .u64 (ws s 3 : Int)] 55) := ⟨_, rfl⟩
            have HV := hid (show Below W.heap.size W V from by rw [hV]; exact hbw.trans ((bel1 _ _).mono hbw.size))
            have hV2 : V.heap[w.heap.size]? = some (.cells #[.int .i64 (k : Int), .int .i64 st, .slice (some ⟨b, off, none⟩) m c1, .slice a2 k c2] 25 (0, 0)) := by rw [hV]; exact blk_alloc hW2
            have hV3 : V.heap[wr.heap.size]? = some (.cells #[.int .i64 f, .int .i64 t, .bool e, .int .u64 (ws s 0 : Int), .int .u64 (ws s 1 : Int), .int .u64 (ws s 2 : Int), .int .u64 (ws s 3 : Int)] 55 (0, 0)) := by rw [hV]; exact alloc_new _ _
            clear htk ha hbl hbw hW2
            go_upto_region 12 with fail
            rw [← hV]
            clear hV d0 d1 d2 d3 q0 q1 q2 q3 q4 q5 q6
            obtain ⟨d0, d1, d2, d3⟩ := cells4 hV2
            obtain ⟨e0, e1, e2, e3, e4, e5, e6⟩ := cells7a hV3
            clear hV2 hV3
            have no : arcOk (k : Int) ⟨f, t, e, s⟩ = false → q = false := fun h => by
              have e : arcs.all (arcOk (k : Int)) = false := by
                rw [List.all_eq_false]
                exact ⟨_, List.mem_of_getElem? HX.out.2.2, by rw [h]; simp⟩
              rw [HQ.out, e]; rfl
            have NO := hid no
            clear no
            by_cases h1 : f < 0
            · go_wp2
              go_ret
              exact ⟨by rw [NO.out (arc_no (.inl h1))]; rfl, HB.out.trans (HV.out.mono HB.out.size)⟩
            by_cases h2 : (k : Int) ≤ f
            · go_wp2
              go_ret
              exact ⟨by rw [NO.out (arc_no (.inr (.inl h2)))]; rfl, HB.out.trans (HV.out.mono HB.out.size)⟩
            by_cases h3 : t < 0
            · go_wp2
              go_ret
              exact ⟨by rw [NO.out (arc_no (.inr (.inr (.inl h3))))]; rfl, HB.out.trans (HV.out.mono HB.out.size)⟩
            by_cases h4 : (k : Int) ≤ t
            · go_wp2
              go_ret
              exact ⟨by rw [NO.out (arc_no (.inr (.inr (.inr h4))))]; rfl, HB.out.trans (HV.out.mono HB.out.size)⟩
            have yes : (e = true → emp s = true) → (arcs.take (i + 1)).all (arcOk (k : Int)) = true := fun h => by
              rw [List.take_add_one, HX.out.2.2, List.all_append, HX.out.1, Bool.true_and]
              show (arcOk (k : Int) ⟨f, t, e, s⟩ && true) = true
              rw [Bool.and_true, arcOk_iff]
              exact ⟨⟨by show 0 ≤ f; omega, by show f < _; omega⟩, ⟨by show 0 ≤ t; omega, by show t < _; omega⟩, fun he => emp_iff.1 (h he)⟩
            have YES := hid yes
            clear yes
            cases e
            · go_wp2
              go_roundg (gk - 1)
              case measure => omega
              case rel => exact ⟨i + 1, by go_num, by omega, YES.out (fun h => by cases h), HV.out⟩
            · cases hs : emp s
              · go_wp2
                go_ret
                exact ⟨by rw [NO.out (by rw [← Bool.not_eq_true, arcOk_iff]; rintro ⟨_, _, h⟩; rw [emp_iff.2 (h rfl)] at hs; cases hs)]; rfl, HB.out.trans (HV.out.mono HB.out.size)⟩
              · go_wp2
                go_roundg (gk - 1)
                case measure => omega
                case rel => exact ⟨i + 1, by go_num, by omega, YES.out (fun _ => hs), HV.out⟩
          · have hlt' : ¬ (i : Int) < (m : Int) := by omega
            have HA2 := hid (show arcs.all (arcOk (k : Int)) = true from by rw [List.take_of_length_le (by have := HL.out.2; omega)] at htk; exact htk)
            have HV := hid hbw
            clear htk hbw hW2
            go_wp2
            go_ret
            exact ⟨by rw [HQ.out, HA.out, HA2.out]; rfl, HB.out.trans (HV.out.mono HB.out.size)⟩
  · have g6 : ((k : Int) == n) = false := by simpa using g5
    go_wp2
    go_ret
    exact ⟨by rw [hq'.out, decide_eq_false g5]; simp, HB.out⟩
end Go.Proofs.YtogpnlkjcdedlaaDoor
