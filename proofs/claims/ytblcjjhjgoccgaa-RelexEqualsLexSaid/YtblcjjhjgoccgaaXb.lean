/-
  Contracts: cmp.Compare of ints, the binary search among the tokens, starting.
-/
import Derived.Test.YtblcjjhjgoccgaaXa
set_option linter.unusedSimpArgs false
set_option linter.unusedVariables false
namespace Go.Proofs.Ytblcjjhjgoccgaa
open Go.RowKit Lx Go.Frame

set_option maxRecDepth 100000 in
set_option maxHeartbeats 2000000 in
theorem isNaN_any (x : Int) (w : World) : Calls Try.prog 59 #[.int .i64 x] w fun e w' => e = .returned (.bool false) ∧ w' = w := by
  have h : (x == x) = true := by simp
  go_enter Try.func59, Try.ntmps59
  go_wp2
  go_ret
  exact ⟨rfl, rfl⟩
def cmv (x y : Int) : Int := if x < y then -1 else if y < x then 1 else 0
set_option maxRecDepth 100000 in
set_option maxHeartbeats 2000000 in
theorem compare_any (x y : Int) (w : World) : Calls Try.prog 55 #[.int .i64 x, .int .i64 y] w fun e w' => e = .returned (.int .i64 (cmv x y)) ∧ w' = w := by
  unfold cmv
  by_cases h1 : x < y
  · rw [if_pos h1]
    go_enter Try.func55, Try.ntmps55
    go_wp2_with (first | (go_at_call 59; refine (isNaN_any _ _).mono ?_; rintro e w1 ⟨rfl, rfl⟩) | fail)
    go_ret
    exact ⟨rfl, rfl⟩
  · rw [if_neg h1]
    by_cases h2 : y < x
    · rw [if_pos h2]
      go_enter Try.func55, Try.ntmps55
      go_wp2_with (first | (go_at_call 59; refine (isNaN_any _ _).mono ?_; rintro e w1 ⟨rfl, rfl⟩) | fail)
      go_ret
      exact ⟨rfl, rfl⟩
    · rw [if_neg h2]
      go_enter Try.func55, Try.ntmps55
      go_wp2_with (first | (go_at_call 59; refine (isNaN_any _ _).mono ?_; rintro e w1 ⟨rfl, rfl⟩) | fail)
      go_ret
      exact ⟨rfl, rfl⟩
set_option maxRecDepth 100000 in
set_option maxHeartbeats 2000000 in
theorem clo54_any (k a l x : Int) (s : ByteArray) (w : World) : Calls Try.prog 54 #[.agg #[.int .i64 k, .int .i64 a, .string s, .int .i64 l], .int .i64 x] w fun e w' => e = .returned (.int .i64 (cmv a x)) ∧ Below w.heap.size w w' := by
  have bb := (Below.refl w.heap.size w).alloc (Nat.le_refl _) (.cells #[.int .i64 k, .int .i64 a, .string s, .int .i64 l] 47)
  go_enter Try.func54, Try.ntmps54
  go_wp2_with (first | (go_at_call 55; refine (compare_any _ _ _).mono ?_; rintro e w1 ⟨rfl, rfl⟩) | fail)
  go_ret
  exact ⟨rfl, bb⟩
/-- What the search returns. -/
def SgRes (l : List TQ) (x : Int) (w : World) (e : Ending) (w' : World) : Prop := (∃ k : Nat, e = .returned (.tuple #[.int .i64 (k : Int), .bool (decide (fd l x < l.length))]) ∧ (fd l x < l.length → k = fd l x)) ∧ Below w.heap.size w w'
def Inc (l : List TQ) : Prop := ∀ (i j : Nat) (t u : TQ), l[i]? = some t → l[j]? = some u → i < j → t.2.1 < u.2.1
set_option maxRecDepth 100000 in
set_option maxHeartbeats 4000000 in
theorem search_any (w : World) (a : Option Addr) (n c : Nat) (l : List TQ) (h : TRow w a n l) (hn : n ≤ 140737488355328) (hi : Inc l) (x : Int) :
    Calls Try.prog 53 #[.slice a n c, .int .i64 x, .func (.func 54) #[] #[]] w (SgRes l x w) := by
  have H := hid h
  have HL := hid h.len
  have HI := hid hi
  obtain ⟨q, hq⟩ : ∃ q, q = decide (fd l x < l.length) := ⟨_, rfl⟩
  have HQ := hid hq
  clear h hi hq
  go_enter Try.func53, Try.ntmps53
  go_wp2_with fail
  go_loopg [9, 10] n (fun kk s9 s10 wr => ∃ i j : Nat, s9 = .int .i64 i ∧ s10 = .int .i64 j ∧ j = i + kk ∧ j ≤ n ∧ (∀ (k : Nat) (t : TQ), k < i → l[k]? = some t → t.2.1 < x) ∧ (∀ (k : Nat) (t : TQ), j ≤ k → l[k]? = some t → x ≤ t.2.1) ∧ Below w.heap.size w wr)
  case atStart => exact ⟨0, n, rfl, rfl, by omega, by omega, fun k t hk => by omega, fun k t hk ht => by have := (List.getElem?_eq_some_iff.1 ht).1; have := HL.out; omega, Below.refl _ _⟩
  case round =>
    obtain ⟨i, j, rfl, rfl, hj, hjn, h1, h2, hbw⟩ := hrel
    have H1 := hid h1
    have H2 := hid h2
    have HB := hid hbw
    by_cases hlt : i < j
    · have hlt' : (i : Int) < (j : Int) := by omega
      have hi0 : (0 : Int) ≤ (i : Int) := by omega
      obtain ⟨m, hm⟩ : ∃ m : Nat, ((i : Int) + ((i : Int) + (gk : Int))) / 2 = (m : Int) := ⟨(i + (i + gk)) / 2, by omega⟩
      have hm0 := hid (show i ≤ m ∧ m < j by omega)
      have hmn : m < n := by omega
      have hmn' : (m : Int) < (n : Int) := by omega
      have hm00 : (0 : Int) ≤ (m : Int) := by omega
      obtain ⟨b, o, ⟨xk, xa, xs, xl⟩, rfl, _, hx, x0, x1, x2, x3⟩ := trow_at (H.out.below hbw) hmn
      simp only at x0 x1 x2 x3
      have HX := hid hx
      have CC := hid (fun V => clo54_any xk xa xl x xs V)
      clear h1 h2 hbw hx
      by_cases hc : xa < x
      · have e1 : cmv xa x = -1 := by unfold cmv; rw [if_pos hc]
        rw [e1] at CC
        go_wp2_with fail
        refine (CC.out _).mono ?_
        rintro e w1 ⟨rfl, b1⟩
        have HB2 := hid (HB.out.trans (b1.mono HB.out.size))
        have HC := hid hc
        clear hm hc e1 b1
        go_wp2
        go_roundg (j - (m + 1))
        case measure => have := hm0.out; omega
        case rel =>
          refine ⟨m + 1, j, by go_num, by go_num, by have := hm0.out; omega, hjn, fun k t hk ht => ?_, H2.out, HB2.out⟩
          by_cases e : k = m
          · subst e; have := HX.out; rw [ht] at this; cases this; exact HC.out
          · have := HI.out k m t _ ht HX.out (by omega)
            have := HC.out
            simp only at *
            omega
      · have e1 : ∃ z : Int, cmv xa x = z ∧ ¬ z < 0 := ⟨_, rfl, by unfold cmv; rw [if_neg hc]; split <;> omega⟩
        obtain ⟨z, e1, hz⟩ := e1
        rw [e1] at CC
        go_wp2_with fail
        refine (CC.out _).mono ?_
        rintro e w1 ⟨rfl, b1⟩
        have HB2 := hid (HB.out.trans (b1.mono HB.out.size))
        have HC := hid hc
        clear hm hc e1 b1
        go_wp2
        go_roundg (m - i)
        case measure => have := hm0.out; omega
        case rel =>
          refine ⟨i, m, by first | rfl | go_num, by first | rfl | go_num, by have := hm0.out; omega, by omega, H1.out, fun k t hk ht => ?_, HB2.out⟩
          by_cases e : k = m
          · subst e; have := HX.out; rw [ht] at this; cases this; have := HC.out; simp only at *; omega
          · have := HI.out m k _ t HX.out ht (by omega)
            have := HC.out
            simp only at *
            omega
    · have hij : j = i := by omega
      subst hij
      have hin : ¬ (j : Int) < (j : Int) := by omega
      clear h1 h2 hbw hj hlt
      by_cases hjlt : j < n
      · have hjlt' : (j : Int) < (n : Int) := by omega
        have hj0 : (0 : Int) ≤ (j : Int) := by omega
        obtain ⟨b, o, ⟨xk, xa, xs, xl⟩, rfl, _, hx, x0, x1, x2, x3⟩ := trow_at (H.out.below HB.out) hjlt
        simp only at x0 x1 x2 x3
        have HX := hid hx
        clear hx
        have CC := hid (fun V => clo54_any xk xa xl x xs V)
        by_cases he : xa = x
        · have he2 := he.symm
          subst he2
          have e1 : cmv x x = 0 := by unfold cmv; rw [if_neg (by omega), if_neg (by omega)]
          rw [e1] at CC
          have hf : fd l x = j := fd_of HX.out rfl fun k u hk hu => by have := H1.out k u hk hu; omega
          have HF := hid (show fd l x < l.length ∧ j = fd l x from ⟨by rw [hf, HL.out]; exact hjlt, hf.symm⟩)
          have HQ2 := hid (show q = true by rw [HQ.out]; exact decide_eq_true HF.out.1)
          clear hf e1
          go_wp2_with fail
          refine (CC.out _).mono ?_
          rintro e w1 ⟨rfl, b1⟩
          have HB2 := hid (HB.out.trans (b1.mono HB.out.size))
          clear b1
          go_wp2
          go_ret2
          exact ⟨⟨j, by first | (rw [decide_eq_true HF.out.1]; done) | (rw [decide_eq_true HF.out.1]; rfl), fun _ => HF.out.2⟩, HB2.out⟩
        · have e1 : ∃ z : Int, cmv xa x = z ∧ (z == 0) = false := by
            refine ⟨_, rfl, ?_⟩
            unfold cmv
            split
            · rfl
            · rw [if_pos (by omega)]; rfl
          obtain ⟨z, e1, hz⟩ := e1
          rw [e1] at CC
          have hf : fd l x = l.length := fd_no fun k u hu => by
            intro hux
            by_cases h1 : k < j
            · have := H1.out k u h1 hu; omega
            · by_cases h2 : k = j
              · subst h2; have := HX.out; rw [hu] at this; cases this; exact he hux
              · have h3 := HI.out j k _ u HX.out hu (by omega)
                have h4 := H2.out j _ (Nat.le_refl _) HX.out
                simp only at h3 h4
                omega
          have HF := hid (show ¬ fd l x < l.length by rw [hf]; omega)
          clear hf e1
          go_wp2_with fail
          refine (CC.out _).mono ?_
          rintro e w1 ⟨rfl, b1⟩
          have HB2 := hid (HB.out.trans (b1.mono HB.out.size))
          clear b1
          go_wp2
          go_ret2
          exact ⟨⟨j, by first | (rw [decide_eq_false HF.out]; done) | (rw [decide_eq_false HF.out]; rfl), fun h => absurd h HF.out⟩, HB2.out⟩
      · have hjlt' : ¬ (j : Int) < (n : Int) := by omega
        have hf : fd l x = l.length := fd_no fun k u hu => by
          have := (List.getElem?_eq_some_iff.1 hu).1
          have := H1.out k u (by have := HL.out; omega) hu
          omega
        have HF := hid (show ¬ fd l x < l.length by rw [hf]; omega)
        clear hf
        go_wp2
        go_ret2
        exact ⟨⟨j, by first | (rw [decide_eq_false HF.out]; done) | (rw [decide_eq_false HF.out]; rfl), fun h => absurd h HF.out⟩, HB.out⟩
set_option maxRecDepth 100000 in
set_option maxHeartbeats 4000000 in
theorem starting_any (w : World) (a : Option Addr) (n c : Nat) (l : List TQ) (h : TRow w a n l) (hn : n ≤ 140737488355328) (hi : Inc l) (x : Int) :
    Calls Try.prog 42 #[.slice a n c, .int .i64 x] w (SgRes l x w) := by
  have H := hid (search_any w a n c l h hn hi x)
  obtain ⟨q, hq⟩ : ∃ q, q = decide (fd l x < l.length) := ⟨_, rfl⟩
  clear h hi
  unfold SgRes at H ⊢
  rw [← hq] at H ⊢
  clear hq
  go_enter Try.func42, Try.ntmps42
  go_wp2_with fail
  refine H.out.mono ?_
  rintro e w1 ⟨⟨k, rfl, hk⟩, hb⟩
  have HK := hid (And.intro hk hb)
  clear hk hb
  go_wp2
  go_ret2
  exact ⟨⟨k, rfl, HK.out.1⟩, HK.out.2⟩
end Go.Proofs.Ytblcjjhjgoccgaa
