/-
  Contract: the reference's Valid.
-/
import Derived.Test.YtelbagaiijffdaaB
set_option linter.unusedSimpArgs false
set_option linter.unusedVariables false
namespace Go.Proofs.Ytelbagaiijffdaa
open Go.RowKit Lx Go.Frame

/-- What is known of the rows once the simple tests are passed. -/
def rest (D : Df) (k n : Nat) : Bool := D.cls.all (inR 0 ((k : Int) - 1)) && D.nxt.all (rowOk k n) && D.acc.all fun x => decide (-1 ≤ x)
set_option maxRecDepth 100000 in
set_option maxHeartbeats 4000000 in
theorem RValid_any (w : World) (D : Df) (a1 : Option Addr) (n1 c1 : Nat) (a2 : Option Addr) (n2 c2 : Nat) (a3 : Option Addr) (n3 c3 : Nat) (h : DA w D a1 n1 a2 n2 a3 n3) :
    Calls Try.prog 9 #[.agg #[.slice a1 n1 c1, .slice a2 n2 c2, .slice a3 n3 c3]] w fun e w' => e = .returned (.bool (valid D)) ∧ Below w.heap.size w w' := by
  have hve := valid_eq D n1 n2 n3 h.l1 h.l2 h.l3
  have hl1 := h.l1
  have hl2 := h.l2
  have hl3 := h.l3
  have HLN := hid (And.intro hl1 (And.intro hl2 hl3))
  obtain ⟨q, hq⟩ : ∃ q, q = valid D := ⟨_, rfl⟩
  rw [← hq]
  rw [← hq] at hve
  have HQ := hid hve
  have hb1 := h.h1
  have hb2 := h.h2
  have hb3 := h.h3
  obtain ⟨W, hW⟩ : ∃ W, W = w.alloc (.cells #[.slice a1 n1 c1, .slice a2 n2 c2, .slice a3 n3 c3] 25) := ⟨_, rfl⟩
  have HB := hid (show Below w.heap.size w W from by rw [hW]; exact bel1 _ _)
  have HW := hid (show W.heap[w.heap.size]? = some (.cells #[.slice a1 n1 c1, .slice a2 n2 c2, .slice a3 n3 c3] 25 (0, 0)) from by rw [hW]; exact alloc_new _ _)
  have HD := hid (h.below HB.out)
  clear hq hve h hl1 hl2 hl3
  obtain ⟨d0, d1, d2⟩ := cells3 HW.out
  go_enter Try.func9, Try.ntmps9
  go_upto_region 1 with fail
  rw [← hW]
  clear hW
  by_cases g1 : n1 = 256
  case neg =>
    have g1' : ((n1 : Int) != 256) = true := by simp; omega
    go_wp2
    go_ret
    exact ⟨by rw [HQ.out, decide_eq_false g1]; simp, HB.out⟩
  have g1' : ((n1 : Int) != 256) = false := by simp [g1]
  by_cases g2 : n2 < 1
  · have g2' : (n2 : Int) < 1 := by omega
    go_wp2
    go_ret
    exact ⟨by rw [HQ.out, decide_eq_false (by omega : ¬ 1 ≤ n2)]; simp, HB.out⟩
  have g2' : ¬ (n2 : Int) < 1 := by omega
  by_cases g3 : 500 < n2
  · have g3' : (500 : Int) < (n2 : Int) := by omega
    go_wp2
    go_ret
    exact ⟨by rw [HQ.out, decide_eq_false (by omega : ¬ n2 ≤ 500)]; simp, HB.out⟩
  have g3' : ¬ (500 : Int) < (n2 : Int) := by omega
  by_cases g4 : n3 = n2
  case neg =>
    have g4' : ((n3 : Int) != (n2 : Int)) = true := by simp; omega
    go_wp2
    go_ret
    exact ⟨by rw [HQ.out, decide_eq_false g4]; simp, HB.out⟩
  have g4' : ((n3 : Int) != (n2 : Int)) = false := by simp [g4]
  obtain ⟨b, off, r, ra, rc, rfl, _, hr0, p0, hrow, hrl⟩ := row_at HD.out.nxt (i := 0) (by omega)
  have hwd : wid D = r.length := by
    unfold wid
    cases hh : D.nxt with
    | nil => rw [hh] at hr0; simp at hr0
    | cons x l => rw [hh] at hr0; simp at hr0; rw [hr0]; rfl
  obtain ⟨k, hk⟩ : ∃ k, k = r.length := ⟨_, rfl⟩
  rw [← hk] at p0 hrl
  rw [hwd, ← hk] at HQ
  have HQ := HQ
  rw [Nat.add_zero] at p0
  clear hrow hr0 hwd hk
  by_cases g5 : k < 1
  · have g5' : (k : Int) < 1 := by omega
    go_wp2
    go_ret
    exact ⟨by rw [HQ.out, decide_eq_false (by omega : ¬ 1 ≤ k)]; simp, HB.out⟩
  have g5' : ¬ (k : Int) < 1 := by omega
  have HQ9 := hid (show q = rest D k n2 from by
    rw [HQ.out, decide_eq_true (by omega : 1 ≤ n2), decide_eq_true (by omega : n2 ≤ 500), decide_eq_true (by omega : 1 ≤ k), decide_eq_true g1, decide_eq_true g4]; unfold rest; simp)
  subst g4
  subst g1
  clear HQ
  go_wp2_with fail
  go_loopg [5] 256 (fun kk s5 wr => ∃ i : Nat, s5 = .int .i64 (i : Int) ∧ i + kk = 256 ∧ (D.cls.take i).all (inR 0 ((k : Int) - 1)) = true ∧ wr = W)
  case atStart => exact ⟨0, rfl, by omega, by simp, rfl⟩
  case round =>
    obtain ⟨i, rfl, hik, htk, hw⟩ := hrel
    obtain rfl : W = wr := hw.symm
    by_cases hlt : i < 256
    · have hlt' : (i : Int) < 256 := by omega
      have hi0 : (0 : Int) ≤ (i : Int) := by omega
      obtain ⟨b1, o1, x, rfl, _, hx, q0⟩ := int_at HD.out.cls hlt
      have HX := hid (And.intro htk hx)
      have no : inR 0 ((k : Int) - 1) x = false → q = false := fun h => by
        have e : D.cls.all (inR 0 ((k : Int) - 1)) = false := by
          rw [List.all_eq_false]
          exact ⟨_, List.mem_of_getElem? HX.out.2, by rw [h]; simp⟩
        rw [HQ9.out]; unfold rest; rw [e]; rfl
      have NO := hid no
      clear htk hx no
      by_cases h1 : x < 0
      · go_wp2
        go_ret
        exact ⟨by rw [NO.out (by unfold inR; rw [decide_eq_false (by omega : ¬ 0 ≤ x)]; rfl)]; rfl, HB.out⟩
      · by_cases h2 : (k : Int) ≤ x
        · go_wp2
          go_ret
          exact ⟨by rw [NO.out (by unfold inR; rw [decide_eq_false (by omega : ¬ x ≤ (k : Int) - 1), Bool.and_false])]; rfl, HB.out⟩
        · go_wp2
          go_roundg (gk - 1)
          case measure => omega
          case rel =>
            refine ⟨i + 1, by go_num, by omega, ?_, rfl⟩
            rw [List.take_add_one, HX.out.2, List.all_append, HX.out.1, Bool.true_and]
            simp [inR]; omega
    · have hlt' : ¬ (i : Int) < 256 := by omega
      have HC := hid (show D.cls.all (inR 0 ((k : Int) - 1)) = true from by rw [List.take_of_length_le (by have := HLN.out.1; omega)] at htk; exact htk)
      clear htk
      go_wp2_with fail
      go_loopg [6] n3 (fun kk s6 wr => ∃ i : Nat, s6 = .int .i64 (i : Int) ∧ i + kk = n3 ∧ (D.nxt.take i).all (rowOk k n3) = true ∧ (D.acc.take i).all (fun x => decide (-1 ≤ x)) = true ∧ wr = W)
      case atStart => exact ⟨0, rfl, by omega, by simp, by simp, rfl⟩
      case round =>
        obtain ⟨i, rfl, hik, htk, hta, hw⟩ := hrel
        obtain rfl : W = wr := hw.symm
        by_cases hlt : i < n3
        · have hlt' : (i : Int) < (n3 : Int) := by omega
          have hi0 : (0 : Int) ≤ (i : Int) := by omega
          obtain ⟨b1, o1, r1, ra1, rc1, e1, _, hx, q0, hrow, hrl1⟩ := row_at HD.out.nxt hlt
          simp only [Option.some.injEq, Addr.mk.injEq, and_true] at e1
          obtain ⟨rfl, rfl⟩ := e1
          obtain ⟨b2, o2, x2, rfl, _, hx2, q2⟩ := int_at HD.out.acc hlt
          have HX := hid (And.intro htk (And.intro hx (And.intro hta hx2)))
          have no1 : rowOk k n3 r1 = false → q = false := fun h => by
            have e : D.nxt.all (rowOk k n3) = false := by
              rw [List.all_eq_false]
              exact ⟨_, List.mem_of_getElem? HX.out.2.1, by rw [h]; simp⟩
            rw [HQ9.out]; unfold rest; rw [e, Bool.and_false]; rfl
          have no2 : x2 < -1 → q = false := fun h => by
            have e : (D.acc.all fun x => decide (-1 ≤ x)) = false := by
              rw [List.all_eq_false]
              exact ⟨_, List.mem_of_getElem? HX.out.2.2.2, by simp; omega⟩
            rw [HQ9.out]; unfold rest; rw [e, Bool.and_false]
          have NO := hid (And.intro no1 no2)
          obtain ⟨m, hm⟩ : ∃ m, m = r1.length := ⟨_, rfl⟩
          have HM := hid hm
          rw [← hm] at q0
          clear htk hta hx hx2 no1 no2 hm
          by_cases h1 : m = k
          case neg =>
            have h1' : ((m : Int) != (k : Int)) = true := by simp; omega
            go_wp2
            go_ret
            exact ⟨by rw [NO.out.1 (by unfold rowOk; rw [← HM.out, decide_eq_false h1]; rfl)]; rfl, HB.out⟩
          subst h1
          have h1' : ((m : Int) != (m : Int)) = false := by simp
          by_cases h2 : x2 < -1
          · go_wp2
            go_ret
            exact ⟨by rw [NO.out.2 h2]; rfl, HB.out⟩
          have HRW := hid hrow
          clear hrow
          obtain ⟨go, rfl⟩ : ∃ go, go = gk := ⟨_, rfl⟩
          go_wp2_with fail
          go_loopg [7] m (fun kk s7 wr => ∃ j : Nat, s7 = .int .i64 (j : Int) ∧ j + kk = m ∧ (r1.take j).all (inR (-1) ((n3 : Int) - 1)) = true ∧ wr = W)
          case atStart => exact ⟨0, rfl, by omega, by simp, rfl⟩
          case round =>
            obtain ⟨j, rfl, hjk, htj, hw⟩ := hrel
            obtain rfl : W = wr := hw.symm
            by_cases hjl : j < m
            · have hjl' : (j : Int) < (m : Int) := by omega
              have hj0 : (0 : Int) ≤ (j : Int) := by omega
              obtain ⟨b3, o3, x3, rfl, _, hx3, q3⟩ := int_at HRW.out (i := j) (by rw [← HM.out]; exact hjl)
              have HJ := hid (And.intro htj hx3)
              have no3 : inR (-1) ((n3 : Int) - 1) x3 = false → q = false := fun h => NO.out.1 (by
                unfold rowOk
                have e : r1.all (inR (-1) ((n3 : Int) - 1)) = false := by
                  rw [List.all_eq_false]
                  exact ⟨_, List.mem_of_getElem? HJ.out.2, by rw [h]; simp⟩
                rw [e, Bool.and_false])
              have NO3 := hid no3
              clear htj hx3 no3
              by_cases h3 : x3 < -1
              · go_wp2
                go_ret
                exact ⟨by rw [NO3.out (by unfold inR; rw [decide_eq_false (by omega : ¬ -1 ≤ x3)]; rfl)]; rfl, HB.out⟩
              · by_cases h4 : (n3 : Int) ≤ x3
                · go_wp2
                  go_ret
                  exact ⟨by rw [NO3.out (by unfold inR; rw [decide_eq_false (by omega : ¬ x3 ≤ (n3 : Int) - 1), Bool.and_false])]; rfl, HB.out⟩
                · go_wp2
                  go_roundg (gk - 1)
                  case measure => omega
                  case rel =>
                    refine ⟨j + 1, by go_num, by omega, ?_, rfl⟩
                    rw [List.take_add_one, HJ.out.2, List.all_append, HJ.out.1, Bool.true_and]
                    simp [inR]; omega
            · have hjl' : ¬ (j : Int) < (m : Int) := by omega
              have HJ := hid (show rowOk m n3 r1 = true from by
                unfold rowOk
                rw [List.take_of_length_le (by rw [← HM.out]; omega)] at htj
                rw [htj, decide_eq_true HM.out.symm]; rfl)
              clear htj
              go_wp2
              go_roundg (go - 1)
              case measure => omega
              case rel =>
                refine ⟨i + 1, by go_num, by omega, ?_, ?_, rfl⟩
                · rw [List.take_add_one, HX.out.2.1, List.all_append, HX.out.1, Bool.true_and]
                  simpa using HJ.out
                · rw [List.take_add_one, HX.out.2.2.2, List.all_append, HX.out.2.2.1, Bool.true_and]
                  simp; omega
        · have hlt' : ¬ (i : Int) < (n3 : Int) := by omega
          have HC2 := hid (show D.nxt.all (rowOk k n3) = true from by rw [List.take_of_length_le (by have := HLN.out.2.1; omega)] at htk; exact htk)
          have HC3 := hid (show (D.acc.all fun x => decide (-1 ≤ x)) = true from by rw [List.take_of_length_le (by have := HLN.out.2.2; omega)] at hta; exact hta)
          clear htk hta
          go_wp2
          go_ret
          exact ⟨by rw [HQ9.out]; unfold rest; rw [HC.out, HC2.out, HC3.out]; rfl, HB.out⟩

end Go.Proofs.Ytelbagaiijffdaa
