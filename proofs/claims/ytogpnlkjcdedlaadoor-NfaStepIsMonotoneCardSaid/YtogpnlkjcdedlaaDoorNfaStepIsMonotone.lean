/-
  NfaStepIsMonotone, for every input: the law returns true and leaves its arguments as they read. No condition beside the listed variable's own text (the card ties it).
-/
import Derived.Test.YtogpnlkjcdedlaaDoorZ04
import Derived.Test.YtogpnlkjcdedlaaDoorZ15
import Derived.Test.YtogpnlkjcdedlaaDoorZ19
set_option linter.unusedSimpArgs false
set_option linter.unusedVariables false
namespace Go.Proofs.YtogpnlkjcdedlaaDoor.nfaStepIsMonotone
open Go.ChangeShapes Go.WideShapes Go.ChangeAt Go.RowKit Go.Frame
open Go.ChangeMaps (open_string shut_string)
open Bs Rg Nf
attribute [local irreducible] ws
attribute [local go_sem] eq_zero eq_set
theorem row_tail {w : World} {a : Option Addr} {q c : Nat} {E : List Int} (h : Row w a q (E.map iv)) (h1 : 1 ≤ q) (hc : q ≤ c) : Row w (if c = 1 then a else a.map (·.add 1)) (q - 1) (E.tail.map iv) := by
  have hl : E.length = q := by have := h.1; simpa using this
  refine ⟨by simp [hl], ?_⟩
  rcases h.2 with h0 | ⟨b, off, rfl, hb, hx⟩
  · omega
  · by_cases e : c = 1
    · left; omega
    · rw [if_neg e]
      refine .inr ⟨b, off + 1, by show some ((⟨b, off, none⟩ : Addr).add 1) = _; rw [add_at], hb, fun i x hi => ?_⟩
      have h2 := hx (i + 1) x (by rw [List.getElem?_map] at hi ⊢; rw [← hi]; simp [List.getElem?_tail])
      rw [show off + 1 + i = off + (i + 1) by omega]; exact h2
theorem elx_sorted (n : Nat) (p : Nat → Bool) : ∀ (i j x y : Nat), i < j → (elx n p)[i]? = some x → (elx n p)[j]? = some y → x < y := by
  intro i j x y hij hx hy
  obtain ⟨h1, rfl⟩ := List.getElem?_eq_some_iff.1 hx
  obtain ⟨h2, rfl⟩ := List.getElem?_eq_some_iff.1 hy
  have hp : (elx n p).Pairwise (· < ·) := List.Pairwise.filter _ List.pairwise_lt_range
  exact List.pairwise_iff_getElem.1 hp i j h1 h2 hij
set_option maxRecDepth 100000 in
set_option maxHeartbeats 4000000 in
theorem walk (N : Nfa) (a1 : Option Addr) (m c1 : Nat) (a2 : Option Addr) (k c2 : Nat) (E : List Int) (a : Option Addr) (q c : Nat) (bt : Nat) (w : World) (hN : InN w N a1 m c1 a2 k c2) (hE : Row w a q (E.map iv) ∧ q ≤ 140737488355328 ∧ q ≤ c ∧ c ≤ maxLen ∧ (a = none → c = 0) ∧ ∀ e ∈ E, -9223372036854775808 ≤ e ∧ e ≤ 9223372036854775807) (hbt : bt < 256) (hT : Tb w) :
    Calls Tryd.prog 6 #[.agg #[.int .i64 N.n, .int .i64 N.st, .slice a1 m c1, .slice a2 k c2], .slice a q c, .int .u8 (bt : Int)] w fun e w' => e = .returned (.bool true) ∧ Below w.heap.size w w' := by
  have CA := hid (fun V (hV : Below w.heap.size w V) => awake_any V (hT.below hV))
  have CL := hid (fun V (hV : Below w.heap.size w V) => light_any V N a1 a2 m c1 k c2 (hN.na.below hV))
  have HI := hid (And.intro hN hT)
  have x0 := hid (alloc_new w (.cells #[.int .i64 N.n, .int .i64 N.st, .slice a1 m c1, .slice a2 k c2] 25))
  have B0 := hid (bel1 w (.cells #[.int .i64 N.n, .int .i64 N.st, .slice a1 m c1, .slice a2 k c2] 25))
  obtain ⟨y, hy⟩ : ∃ y, y = (decide (m ≤ 60) && decide (N.n ≤ 40) && valid N) := ⟨_, rfl⟩
  rw [← hy] at CL
  have HY := hid hy
  have HE := hid hE
  have hq := hE.2.1
  clear hN hT hy hE
  go_enter Tryd.func6, Tryd.ntmps6
  go_wp2_with fail
  refine (CA.out _ B0.out).mono ?_
  rintro e W ⟨rfl, b1⟩
  have X := hid (And.intro ((b1.block _ (heap_lt x0.out)).trans x0.out) (B0.out.trans (b1.mono B0.out.size)))
  clear b1 CA
  obtain ⟨d0, d1, d2, d3⟩ := cells4 X.out.1
  go_wp2_with fail
  refine (CL.out _ X.out.2).mono ?_
  rintro e W2 ⟨rfl, b2⟩
  have X2 := hid (And.intro ((b2.block _ (heap_lt X.out.1)).trans X.out.1) (X.out.2.trans (b2.mono X.out.2.size)))
  clear b2 CL d0 d1 d2 d3
  cases y
  · go_wp2
    go_ret
    exact ⟨rfl, X2.out.2⟩
  · have hy2 := HY.out
    simp only [eq_comm (a := true), Bool.and_eq_true, decide_eq_true_eq] at hy2
    obtain ⟨⟨hm, hnn⟩, hval⟩ := hy2
    obtain ⟨n, hv⟩ := valid_iff.1 hval
    have hn40 : n ≤ 40 := by have := hv.hn; omega
    have HV := hid (And.intro hv hm)
    have CN := hid (fun V (hV : Below w.heap.size w V) => NMS_any V N n hv a1 a2 m c1 k c2 HI.out.1.mc HI.out.1.cc HI.out.1.nil1 (HI.out.1.na.below hV) (by omega))
    clear hm hnn hval hv
    obtain ⟨d0, d1, d2, d3⟩ := cells4 X2.out.1
    by_cases h60 : (60 : Int) < (q : Int)
    · go_wp2
      go_ret
      exact ⟨rfl, X2.out.2⟩
    · by_cases hq0 : q = 0
      · subst hq0
        go_wp2
        go_ret
        exact ⟨rfl, X2.out.2⟩
      · have hq0' : ((q : Int) == 0) = false := by simpa using hq0
        have hq1 : (1 : Int) ≤ (q : Int) := by omega
        obtain ⟨L, hL⟩ : ∃ L, L = elx n (stp N (clo (Ep N) (ini n E)) (UInt8.ofNat bt)) := ⟨_, rfl⟩
        obtain ⟨M, hM⟩ : ∃ M, M = elx n (stp N (clo (Ep N) (ini n E.tail)) (UInt8.ofNat bt)) := ⟨_, rfl⟩
        have hLn : L.length ≤ 40 := by rw [hL]; exact Nat.le_trans (elx_length _ _) hn40
        have hMn : M.length ≤ 40 := by rw [hM]; exact Nat.le_trans (elx_length _ _) hn40
        obtain ⟨ta, hta⟩ : ∃ ta, ta = (if c = 1 then a else a.map (·.add 1)) := ⟨_, rfl⟩
        have HTA := hid hta
        have HLM := hid (show (∀ (i j x y : Nat), i < j → L[i]? = some x → L[j]? = some y → x < y) ∧ (∀ (i j x y : Nat), i < j → M[i]? = some x → M[j]? = some y → x < y) ∧ ∀ x, x ∈ M → x ∈ L from by
          refine ⟨by rw [hL]; exact elx_sorted _ _, by rw [hM]; exact elx_sorted _ _, fun x hx => ?_⟩
          rw [hM, mem_elx] at hx
          rw [hL, mem_elx]
          refine ⟨hx.1, stp_mono (fun z hz => clo_mono (fun u hu => ?_) hz) hx.2⟩
          rw [ini_iff] at hu ⊢
          exact ⟨hu.1, List.mem_of_mem_tail hu.2⟩)
        have D1 := hid (fun V (hV : Below w.heap.size w V) => show Calls Tryd.prog 18 #[.agg #[.int .i64 N.n, .int .i64 N.st, .slice a1 m c1, .slice a2 k c2], .slice a q c, .int .u8 (bt : Int)] V (RS L V) from hL ▸ NStep_any V N n HV.out.1 a1 a2 m c1 k c2 (HI.out.1.na.below hV) (CN.out V hV) E a q c (HE.out.1.below hV) hq bt hbt (HI.out.2.below hV))
        have D2 := hid (fun V (hV : Below w.heap.size w V) => show Calls Tryd.prog 18 #[.agg #[.int .i64 N.n, .int .i64 N.st, .slice a1 m c1, .slice a2 k c2], .slice ta (q - 1) (c - 1), .int .u8 (bt : Int)] V (RS M V) from hM ▸ NStep_any V N n HV.out.1 a1 a2 m c1 k c2 (HI.out.1.na.below hV) (CN.out V hV) E.tail ta (q - 1) (c - 1) (by rw [hta]; exact row_tail (HE.out.1.below hV) (by omega) HE.out.2.2.1) (by omega) bt hbt (HI.out.2.below hV))
        clear hL hM CN hta
        obtain ⟨lL, hlL⟩ : ∃ lL, lL = L.length := ⟨_, rfl⟩
        obtain ⟨lM, hlM⟩ : ∃ lM, lM = M.length := ⟨_, rfl⟩
        have HLL := hid (And.intro hlL hlM)
        unfold RS at D1 D2
        rw [← hlL] at D1 hLn
        rw [← hlM] at D2 hMn
        clear hlL hlM d0 d1 d2 d3
        go_wp2_with fail
        refine region_inv (fun b a' w' => ∃ (v26 v27 v28 v29 v30 v31 v32 v33 v34 v7 v8 : Value), a' = { tmps := #[.agg #[.int .i64 N.n, .int .i64 N.st, .slice a1 m c1, .slice a2 k c2], .slice a q c, .int .u8 (bt : Int), .pointer (some ⟨w.heap.size, 0, none⟩), undef, undef, .bool false, v7, v8, undef, undef, .bool true, .bool false, .agg #[.int .i64 N.n, .int .i64 N.st, .slice a1 m c1, .slice a2 k c2], .bool true, .bool false, .bool false, .slice a q c, .int .i64 (q : Int), .bool (decide ((60 : Int) < (q : Int))), .bool (decide ((60 : Int) < (q : Int))), .bool (decide ((60 : Int) < (q : Int))), .slice a q c, .int .i64 (q : Int), .bool false, .bool (decide ((60 : Int) < (q : Int))), v26, v27, v28, v29, v30, v31, v32, v33, v34, undef, undef, undef, undef, undef, undef, undef, undef, undef, undef, undef, undef, undef, undef, undef, undef, undef, undef, undef, undef, undef, undef, undef, undef, undef, undef, undef, undef, undef, undef, undef, undef, undef, undef, undef, undef, undef, undef], defers := [] } ∧ Below W2.heap.size W2 w' ∧ w'.heap[w.heap.size]? = some (.cells #[.int .i64 N.n, .int .i64 N.st, .slice a1 m c1, .slice a2 k c2] 25 (0, 0)) ∧ (b 0 = true → v26 = .agg #[.int .i64 N.n, .int .i64 N.st, .slice a1 m c1, .slice a2 k c2]) ∧ (b 1 = true → v27 = .slice a q c) ∧ (b 2 = true → v28 = .int .u8 (bt : Int)) ∧ (b 3 = true → ∃ (p : Option Addr) (q' : Nat), v29 = .slice p lL q' ∧ Row w' p lL (ints L)) ∧ (b 4 = true → v30 = .agg #[.int .i64 N.n, .int .i64 N.st, .slice a1 m c1, .slice a2 k c2]) ∧ (b 5 = true → v31 = .slice a q c) ∧ (b 6 = true → v32 = .slice ta (q - 1) (c - 1)) ∧ (b 7 = true → v33 = .int .u8 (bt : Int)) ∧ (b 8 = true → ∃ (p : Option Addr) (q' : Nat), v34 = .slice p lM q' ∧ Row w' p lM (ints M)) ∧ (b 9 = true → v7 = v29) ∧ (b 10 = true → v8 = v34) ∧ (b 3 = true → b 0 = true) ∧ (b 3 = true → b 1 = true) ∧ (b 3 = true → b 2 = true) ∧ (b 6 = true → b 5 = true) ∧ (b 8 = true → b 4 = true) ∧ (b 8 = true → b 6 = true) ∧ (b 8 = true → b 7 = true) ∧ (b 9 = true → b 3 = true) ∧ (b 10 = true → b 8 = true)) (by kernel_rfl) (back_of (by kernel_rfl)) ?step2 ?done2 ?init2
        case step2 =>
          rintro b a' w' i o ho ⟨v26, v27, v28, v29, v30, v31, v32, v33, v34, v7, v8, rfl, hk, hx, h0, h1, h2, h3, h4, h5, h6, h7, h8, h9, h10, q3_0, q3_1, q3_2, q6_5, q8_4, q8_6, q8_7, q9_3, q10_8⟩ hbi hd K hK
          have hlt : i < 11 := by have := (Array.getElem?_eq_some_iff.1 ho).1; simpa using this
          have dep : ∀ k, (o.after.any fun e => Region.binds .any e && e.on == k) = true → b k = true := fun k hk => by
            obtain ⟨e, he, h⟩ := Array.any_eq_true'.1 hk
            simp only [Bool.and_eq_true, beq_iff_eq] at h
            rw [← h.2]; exact hd e he h.1
          clear hd
          have hi : i = 0 ∨ i = 1 ∨ i = 2 ∨ i = 3 ∨ i = 4 ∨ i = 5 ∨ i = 6 ∨ i = 7 ∨ i = 8 ∨ i = 9 ∨ i = 10 := by omega
          clear hlt
          rcases hi with rfl | rfl | rfl | rfl | rfl | rfl | rfl | rfl | rfl | rfl | rfl
          · simp only [List.getElem?_toArray, List.getElem?_cons_zero, List.getElem?_cons_succ, Option.some.injEq] at ho
            subst ho
            obtain ⟨d0, d1, d2, d3⟩ := cells4 hx
            go_simp
            refine hK.out _ _ ⟨_, _, _, _, _, _, _, _, _, _, _, rfl, hk, hx, fun _ => rfl, fun h => h1 (by simpa using h), fun h => h2 (by simpa using h), fun h => h3 (by simpa using h), fun h => h4 (by simpa using h), fun h => h5 (by simpa using h), fun h => h6 (by simpa using h), fun h => h7 (by simpa using h), fun h => h8 (by simpa using h), fun h => h9 (by simpa using h), fun h => h10 (by simpa using h), fun h => by simp [q3_0 (by simpa using h)], fun h => by simp [q3_1 (by simpa using h)], fun h => by simp [q3_2 (by simpa using h)], fun h => by simp [q6_5 (by simpa using h)], fun h => by simp [q8_4 (by simpa using h)], fun h => by simp [q8_6 (by simpa using h)], fun h => by simp [q8_7 (by simpa using h)], fun h => by simp [q9_3 (by simpa using h)], fun h => by simp [q10_8 (by simpa using h)]⟩
          · simp only [List.getElem?_toArray, List.getElem?_cons_zero, List.getElem?_cons_succ, Option.some.injEq] at ho
            subst ho
            go_simp
            refine hK.out _ _ ⟨_, _, _, _, _, _, _, _, _, _, _, rfl, hk, hx, fun h => h0 (by simpa using h), fun _ => rfl, fun h => h2 (by simpa using h), fun h => h3 (by simpa using h), fun h => h4 (by simpa using h), fun h => h5 (by simpa using h), fun h => h6 (by simpa using h), fun h => h7 (by simpa using h), fun h => h8 (by simpa using h), fun h => h9 (by simpa using h), fun h => h10 (by simpa using h), fun h => by simp [q3_0 (by simpa using h)], fun h => by simp [q3_1 (by simpa using h)], fun h => by simp [q3_2 (by simpa using h)], fun h => by simp [q6_5 (by simpa using h)], fun h => by simp [q8_4 (by simpa using h)], fun h => by simp [q8_6 (by simpa using h)], fun h => by simp [q8_7 (by simpa using h)], fun h => by simp [q9_3 (by simpa using h)], fun h => by simp [q10_8 (by simpa using h)]⟩
          · simp only [List.getElem?_toArray, List.getElem?_cons_zero, List.getElem?_cons_succ, Option.some.injEq] at ho
            subst ho
            go_simp
            refine hK.out _ _ ⟨_, _, _, _, _, _, _, _, _, _, _, rfl, hk, hx, fun h => h0 (by simpa using h), fun h => h1 (by simpa using h), fun _ => rfl, fun h => h3 (by simpa using h), fun h => h4 (by simpa using h), fun h => h5 (by simpa using h), fun h => h6 (by simpa using h), fun h => h7 (by simpa using h), fun h => h8 (by simpa using h), fun h => h9 (by simpa using h), fun h => h10 (by simpa using h), fun h => by simp [q3_0 (by simpa using h)], fun h => by simp [q3_1 (by simpa using h)], fun h => by simp [q3_2 (by simpa using h)], fun h => by simp [q6_5 (by simpa using h)], fun h => by simp [q8_4 (by simpa using h)], fun h => by simp [q8_6 (by simpa using h)], fun h => by simp [q8_7 (by simpa using h)], fun h => by simp [q9_3 (by simpa using h)], fun h => by simp [q10_8 (by simpa using h)]⟩
          · simp only [List.getElem?_toArray, List.getElem?_cons_zero, List.getElem?_cons_succ, Option.some.injEq] at ho
            subst ho
            have e_0 := dep 0 (by kernel_rfl)
            have e_1 := dep 1 (by kernel_rfl)
            have e_2 := dep 2 (by kernel_rfl)
            obtain rfl := h0 e_0
            obtain rfl := h1 e_1
            obtain rfl := h2 e_2
            have HCS := hid (D1.out w' (X2.out.2.trans (hk.mono X2.out.2.size)))
            have n9 : b 9 = false := by
              cases hb : b 9
              · rfl
              · have := q9_3 hb; rw [hbi] at this; cases this
            go_simp
            refine HCS.out.mono ?_
            rintro e W5 ⟨⟨p5, q5, rfl, r5⟩, b5⟩
            refine hK.out _ _ ⟨_, _, _, _, _, _, _, _, _, _, _, rfl, hk.trans (b5.mono hk.size), (b5.block _ (heap_lt hx)).trans hx, fun _ => rfl, fun _ => rfl, fun _ => rfl, fun _ => ⟨p5, q5, rfl, r5⟩, fun h => h4 (by simpa using h), fun h => h5 (by simpa using h), fun h => h6 (by simpa using h), fun h => h7 (by simpa using h), fun h => (by obtain ⟨p9, q9, g1, g2⟩ := (h8 (by simpa using h)); exact ⟨p9, q9, g1, g2.below b5⟩), fun h => absurd h (by simp [n9]), fun h => h10 (by simpa using h), fun _ => by simp [e_0], fun _ => by simp [e_1], fun _ => by simp [e_2], fun h => by simp [q6_5 (by simpa using h)], fun h => by simp [q8_4 (by simpa using h)], fun h => by simp [q8_6 (by simpa using h)], fun h => by simp [q8_7 (by simpa using h)], fun h => by simp [q9_3 (by simpa using h)], fun h => by simp [q10_8 (by simpa using h)]⟩
          · simp only [List.getElem?_toArray, List.getElem?_cons_zero, List.getElem?_cons_succ, Option.some.injEq] at ho
            subst ho
            obtain ⟨d0, d1, d2, d3⟩ := cells4 hx
            go_simp
            refine hK.out _ _ ⟨_, _, _, _, _, _, _, _, _, _, _, rfl, hk, hx, fun h => h0 (by simpa using h), fun h => h1 (by simpa using h), fun h => h2 (by simpa using h), fun h => h3 (by simpa using h), fun _ => rfl, fun h => h5 (by simpa using h), fun h => h6 (by simpa using h), fun h => h7 (by simpa using h), fun h => h8 (by simpa using h), fun h => h9 (by simpa using h), fun h => h10 (by simpa using h), fun h => by simp [q3_0 (by simpa using h)], fun h => by simp [q3_1 (by simpa using h)], fun h => by simp [q3_2 (by simpa using h)], fun h => by simp [q6_5 (by simpa using h)], fun h => by simp [q8_4 (by simpa using h)], fun h => by simp [q8_6 (by simpa using h)], fun h => by simp [q8_7 (by simpa using h)], fun h => by simp [q9_3 (by simpa using h)], fun h => by simp [q10_8 (by simpa using h)]⟩
          · simp only [List.getElem?_toArray, List.getElem?_cons_zero, List.getElem?_cons_succ, Option.some.injEq] at ho
            subst ho
            go_simp
            refine hK.out _ _ ⟨_, _, _, _, _, _, _, _, _, _, _, rfl, hk, hx, fun h => h0 (by simpa using h), fun h => h1 (by simpa using h), fun h => h2 (by simpa using h), fun h => h3 (by simpa using h), fun h => h4 (by simpa using h), fun _ => rfl, fun h => h6 (by simpa using h), fun h => h7 (by simpa using h), fun h => h8 (by simpa using h), fun h => h9 (by simpa using h), fun h => h10 (by simpa using h), fun h => by simp [q3_0 (by simpa using h)], fun h => by simp [q3_1 (by simpa using h)], fun h => by simp [q3_2 (by simpa using h)], fun h => by simp [q6_5 (by simpa using h)], fun h => by simp [q8_4 (by simpa using h)], fun h => by simp [q8_6 (by simpa using h)], fun h => by simp [q8_7 (by simpa using h)], fun h => by simp [q9_3 (by simpa using h)], fun h => by simp [q10_8 (by simpa using h)]⟩
          · simp only [List.getElem?_toArray, List.getElem?_cons_zero, List.getElem?_cons_succ, Option.some.injEq] at ho
            subst ho
            have e_5 := dep 5 (by kernel_rfl)
            obtain rfl := h5 e_5
            have HTA2 := HTA.out
            go_simp
            refine hK.out _ _ ⟨_, _, _, _, _, _, _, _, _, _, _, rfl, hk, hx, fun h => h0 (by simpa using h), fun h => h1 (by simpa using h), fun h => h2 (by simpa using h), fun h => h3 (by simpa using h), fun h => h4 (by simpa using h), fun _ => rfl, fun _ => by rw [HTA2]; rfl, fun h => h7 (by simpa using h), fun h => h8 (by simpa using h), fun h => h9 (by simpa using h), fun h => h10 (by simpa using h), fun h => by simp [q3_0 (by simpa using h)], fun h => by simp [q3_1 (by simpa using h)], fun h => by simp [q3_2 (by simpa using h)], fun _ => by simp [e_5], fun h => by simp [q8_4 (by simpa using h)], fun h => by simp [q8_6 (by simpa using h)], fun h => by simp [q8_7 (by simpa using h)], fun h => by simp [q9_3 (by simpa using h)], fun h => by simp [q10_8 (by simpa using h)]⟩
          · simp only [List.getElem?_toArray, List.getElem?_cons_zero, List.getElem?_cons_succ, Option.some.injEq] at ho
            subst ho
            go_simp
            refine hK.out _ _ ⟨_, _, _, _, _, _, _, _, _, _, _, rfl, hk, hx, fun h => h0 (by simpa using h), fun h => h1 (by simpa using h), fun h => h2 (by simpa using h), fun h => h3 (by simpa using h), fun h => h4 (by simpa using h), fun h => h5 (by simpa using h), fun h => h6 (by simpa using h), fun _ => rfl, fun h => h8 (by simpa using h), fun h => h9 (by simpa using h), fun h => h10 (by simpa using h), fun h => by simp [q3_0 (by simpa using h)], fun h => by simp [q3_1 (by simpa using h)], fun h => by simp [q3_2 (by simpa using h)], fun h => by simp [q6_5 (by simpa using h)], fun h => by simp [q8_4 (by simpa using h)], fun h => by simp [q8_6 (by simpa using h)], fun h => by simp [q8_7 (by simpa using h)], fun h => by simp [q9_3 (by simpa using h)], fun h => by simp [q10_8 (by simpa using h)]⟩
          · simp only [List.getElem?_toArray, List.getElem?_cons_zero, List.getElem?_cons_succ, Option.some.injEq] at ho
            subst ho
            have e_4 := dep 4 (by kernel_rfl)
            have e_6 := dep 6 (by kernel_rfl)
            have e_7 := dep 7 (by kernel_rfl)
            have e_5 := q6_5 e_6
            obtain rfl := h4 e_4
            obtain rfl := h5 e_5
            obtain rfl := h6 e_6
            obtain rfl := h7 e_7
            have HCS := hid (D2.out w' (X2.out.2.trans (hk.mono X2.out.2.size)))
            have n10 : b 10 = false := by
              cases hb : b 10
              · rfl
              · have := q10_8 hb; rw [hbi] at this; cases this
            go_simp
            refine HCS.out.mono ?_
            rintro e W5 ⟨⟨p5, q5, rfl, r5⟩, b5⟩
            refine hK.out _ _ ⟨_, _, _, _, _, _, _, _, _, _, _, rfl, hk.trans (b5.mono hk.size), (b5.block _ (heap_lt hx)).trans hx, fun h => h0 (by simpa using h), fun h => h1 (by simpa using h), fun h => h2 (by simpa using h), fun h => (by obtain ⟨p9, q9, g1, g2⟩ := (h3 (by simpa using h)); exact ⟨p9, q9, g1, g2.below b5⟩), fun _ => rfl, fun _ => rfl, fun _ => rfl, fun _ => rfl, fun _ => ⟨p5, q5, rfl, r5⟩, fun h => h9 (by simpa using h), fun h => absurd h (by simp [n10]), fun h => by simp [q3_0 (by simpa using h)], fun h => by simp [q3_1 (by simpa using h)], fun h => by simp [q3_2 (by simpa using h)], fun h => by simp [q6_5 (by simpa using h)], fun _ => by simp [e_4], fun _ => by simp [e_6], fun _ => by simp [e_7], fun h => by simp [q9_3 (by simpa using h)], fun h => by simp [q10_8 (by simpa using h)]⟩
          · simp only [List.getElem?_toArray, List.getElem?_cons_zero, List.getElem?_cons_succ, Option.some.injEq] at ho
            subst ho
            have e_3 := dep 3 (by kernel_rfl)
            have e_0 := q3_0 e_3
            have e_1 := q3_1 e_3
            have e_2 := q3_2 e_3
            obtain rfl := h0 e_0
            obtain rfl := h1 e_1
            obtain rfl := h2 e_2
            obtain ⟨p3, q3, rfl, r3⟩ := (h3 e_3)
            go_simp
            refine hK.out _ _ ⟨_, _, _, _, _, _, _, _, _, _, _, rfl, hk, hx, fun _ => rfl, fun _ => rfl, fun _ => rfl, fun _ => ⟨p3, q3, rfl, r3⟩, fun h => h4 (by simpa using h), fun h => h5 (by simpa using h), fun h => h6 (by simpa using h), fun h => h7 (by simpa using h), fun h => h8 (by simpa using h), fun _ => rfl, fun h => h10 (by simpa using h), fun h => by simp [q3_0 (by simpa using h)], fun h => by simp [q3_1 (by simpa using h)], fun h => by simp [q3_2 (by simpa using h)], fun h => by simp [q6_5 (by simpa using h)], fun h => by simp [q8_4 (by simpa using h)], fun h => by simp [q8_6 (by simpa using h)], fun h => by simp [q8_7 (by simpa using h)], fun _ => by simp [e_3], fun h => by simp [q10_8 (by simpa using h)]⟩
          · simp only [List.getElem?_toArray, List.getElem?_cons_zero, List.getElem?_cons_succ, Option.some.injEq] at ho
            subst ho
            have e_8 := dep 8 (by kernel_rfl)
            have e_4 := q8_4 e_8
            have e_6 := q8_6 e_8
            have e_7 := q8_7 e_8
            have e_5 := q6_5 e_6
            obtain rfl := h4 e_4
            obtain rfl := h5 e_5
            obtain rfl := h6 e_6
            obtain rfl := h7 e_7
            obtain ⟨p8, q8, rfl, r8⟩ := (h8 e_8)
            go_simp
            refine hK.out _ _ ⟨_, _, _, _, _, _, _, _, _, _, _, rfl, hk, hx, fun h => h0 (by simpa using h), fun h => h1 (by simpa using h), fun h => h2 (by simpa using h), fun h => h3 (by simpa using h), fun _ => rfl, fun _ => rfl, fun _ => rfl, fun _ => rfl, fun _ => ⟨p8, q8, rfl, r8⟩, fun h => h9 (by simpa using h), fun _ => rfl, fun h => by simp [q3_0 (by simpa using h)], fun h => by simp [q3_1 (by simpa using h)], fun h => by simp [q3_2 (by simpa using h)], fun h => by simp [q6_5 (by simpa using h)], fun h => by simp [q8_4 (by simpa using h)], fun h => by simp [q8_6 (by simpa using h)], fun h => by simp [q8_7 (by simpa using h)], fun h => by simp [q9_3 (by simpa using h)], fun _ => by simp [e_8]⟩
        case done2 =>
          rintro b a' w' ⟨v26, v27, v28, v29, v30, v31, v32, v33, v34, v7, v8, rfl, hk, hx, h0, h1, h2, h3, h4, h5, h6, h7, h8, h9, h10, q3_0, q3_1, q3_2, q6_5, q8_4, q8_6, q8_7, q9_3, q10_8⟩ hall
          obtain rfl := h0 (hall 0)
          obtain rfl := h1 (hall 1)
          obtain rfl := h2 (hall 2)
          obtain rfl := h4 (hall 4)
          obtain rfl := h5 (hall 5)
          obtain rfl := h6 (hall 6)
          obtain rfl := h7 (hall 7)
          obtain ⟨p3, q3, e29, r3⟩ := h3 (hall 3)
          obtain ⟨p8, q8, e34, r8⟩ := h8 (hall 8)
          obtain rfl := h9 (hall 9)
          obtain rfl := h10 (hall 10)
          subst e29 e34
          have HR := hid (And.intro hk (And.intro r3 r8))
          clear h0 h1 h2 h3 h4 h5 h6 h7 h8 h9 h10 hk hx r3 r8 hall
          obtain ⟨w3, hw3⟩ : ∃ w3, w3 = w' := ⟨_, rfl⟩
          rw [← hw3] at HR ⊢
          clear hw3
          go_wp2_with fail
          go_loopg [9, 10] lM (fun kk s9 s10 wr => ∃ i j : Nat, s9 = .int .i64 (j : Int) ∧ s10 = .int .i64 (i : Int) ∧ i + kk = lM ∧ j ≤ lL ∧ (∀ z x y, z < j → L[z]? = some x → M[i]? = some y → x < y) ∧ Below w3.heap.size w3 wr)
          case atStart => exact ⟨0, 0, rfl, rfl, by omega, Nat.zero_le _, (fun z x y hz => by omega), Below.refl _ _⟩
          case round =>
            obtain ⟨i, j, rfl, rfl, hik, hjl, hinv, hbw⟩ := hrel
            by_cases hlt : i < lM
            · have hlt' : (i : Int) < (lM : Int) := by omega
              have hi0 : (0 : Int) ≤ (i : Int) := by omega
              obtain ⟨y, hy⟩ : ∃ y, M[i]? = some y := ⟨M[i]'(by have := HLL.out.2; omega), List.getElem?_eq_getElem _⟩
              have HH := hid (And.intro hinv (And.intro hy hbw))
              obtain ⟨go, rfl⟩ : ∃ go, go = gk := ⟨_, rfl⟩
              obtain ⟨w4, hw4⟩ : ∃ w4, w4 = wr := ⟨_, rfl⟩
              rw [← hw4] at HH
              clear hinv hy hbw
              go_wp2_with fail
              rw [← hw4]
              clear hw4
              go_loopg [9] (lL - j) (fun k3 s9 wr => ∃ z : Nat, s9 = .int .i64 (z : Int) ∧ z + k3 = lL ∧ j ≤ z ∧ (∀ z' x, z' < z → L[z']? = some x → x < y) ∧ Below w4.heap.size w4 wr)
              case atStart => exact ⟨j, rfl, by omega, Nat.le_refl _, fun z x hz hx => HH.out.1 z x y hz hx HH.out.2.1, Below.refl _ _⟩
              case round =>
                obtain ⟨z, rfl, hzk, hjz, hinv, hbw⟩ := hrel
                have hbw3 := HH.out.2.2.trans (hbw.mono HH.out.2.2.size)
                have rM := HR.out.2.2.below hbw3
                obtain ⟨pb, po, rfl, c0⟩ : ∃ pb po, p8 = some ⟨pb, po, none⟩ ∧ wr.cell? ⟨pb, po + i, none⟩ = some (.int .i64 (y : Int)) := by
                  rcases rM.2 with h0 | ⟨pb, po, e, _, hc⟩
                  · omega
                  · exact ⟨pb, po, e, hc i _ (Go.Frame.ints_at HH.out.2.1)⟩
                by_cases hz : z < lL
                · have hz' : decide ((z : Int) < (lL : Int)) = true := decide_eq_true (by omega)
                  have hz1 : (z : Int) < (lL : Int) := by omega
                  have hz2 : ((z : Int) == (lL : Int)) = false := by simp; omega
                  have hz0 : (0 : Int) ≤ (z : Int) := by omega
                  obtain ⟨x, hx⟩ : ∃ x, L[z]? = some x := ⟨L[z]'(by have := HLL.out.1; omega), List.getElem?_eq_getElem _⟩
                  have rL := HR.out.2.1.below hbw3
                  obtain ⟨lb, lo, rfl, c1⟩ : ∃ lb lo, p3 = some ⟨lb, lo, none⟩ ∧ wr.cell? ⟨lb, lo + z, none⟩ = some (.int .i64 (x : Int)) := by
                    rcases rL.2 with h0 | ⟨lb, lo, e, _, hc⟩
                    · omega
                    · exact ⟨lb, lo, e, hc z _ (Go.Frame.ints_at hx)⟩
                  have HK := hid (And.intro hinv (And.intro hx (And.intro hbw hjz)))
                  clear hinv hx hbw hbw3 rM rL hjz
                  by_cases hxy : x < y
                  · have hxy' : decide ((x : Int) < (y : Int)) = true := decide_eq_true (by omega)
                    go_wp2_with fail
                    go_quiet (fail)
                    go_wp2
                    go_roundg (gk - 1)
                    case measure => omega
                    case rel =>
                      refine ⟨z + 1, by go_num, by omega, by have := HK.out.2.2.2; omega, fun z' x' hz' hx' => ?_, below_drewN HK.out.2.2.1 _⟩
                      by_cases e : z' = z
                      · subst e; rw [HK.out.2.1] at hx'; simp at hx'; omega
                      · exact HK.out.1 z' x' (by omega) hx'
                  · have hxy' : decide ((x : Int) < (y : Int)) = false := decide_eq_false (by omega)
                    have hxe : x = y := by
                      obtain ⟨z9, hz9⟩ := List.getElem?_of_mem (HLM.out.2.2 y (List.mem_of_getElem? HH.out.2.1))
                      rcases Nat.lt_trichotomy z z9 with h | h | h
                      · have := HLM.out.1 z z9 x y h HK.out.2.1 hz9; omega
                      · subst h; rw [HK.out.2.1] at hz9; simpa using hz9
                      · have := HK.out.1 z9 y h hz9; omega
                    have hne : ((x : Int) != (y : Int)) = false := by simp [hxe]
                    have HXE := hid hxe
                    have hxy2 : ¬ (x : Int) < (y : Int) := by omega
                    clear hxe hxy
                    go_wp2_with fail
                    go_quiet (fail)
                    go_wp2_with fail
                    go_quiet (fail)
                    go_wp2
                    go_roundg (go - 1)
                    case measure => omega
                    case rel =>
                      refine ⟨i + 1, z, by go_num, by go_num, by omega, by omega, fun z' x' y' hz' hx' hy' => ?_, below_drewN (HH.out.2.2.trans (HK.out.2.2.1.mono HH.out.2.2.size)) _⟩
                      have h1 := HK.out.1 z' x' hz' hx'
                      have h2 := HLM.out.2.1 i (i + 1) y y' (by omega) HH.out.2.1 hy'
                      omega
                · exfalso
                  obtain ⟨z9, hz9⟩ := List.getElem?_of_mem (HLM.out.2.2 y (List.mem_of_getElem? HH.out.2.1))
                  have h1 := (List.getElem?_eq_some_iff.1 hz9).1
                  have h2 := HLL.out.1
                  have := hinv z9 y (by omega) hz9
                  omega
            · have hlt' : ¬ (i : Int) < (lM : Int) := by omega
              have HH := hid hbw
              clear hinv hbw
              go_wp2
              go_ret
              exact ⟨rfl, X2.out.2.trans ((HR.out.1.trans (HH.out.mono HR.out.1.size)).mono X2.out.2.size)⟩
        case init2 =>
          exact ⟨_, _, _, _, _, _, _, _, _, _, _, rfl, (Below.refl _ _).drew, X2.out.1, fun h => absurd h (by simp), fun h => absurd h (by simp), fun h => absurd h (by simp), fun h => absurd h (by simp), fun h => absurd h (by simp), fun h => absurd h (by simp), fun h => absurd h (by simp), fun h => absurd h (by simp), fun h => absurd h (by simp), fun h => absurd h (by simp), fun h => absurd h (by simp), fun h => absurd h (by simp), fun h => absurd h (by simp), fun h => absurd h (by simp), fun h => absurd h (by simp), fun h => absurd h (by simp), fun h => absurd h (by simp), fun h => absurd h (by simp), fun h => absurd h (by simp), fun h => absurd h (by simp)⟩

set_option maxRecDepth 100000 in
theorem lifted (os : Os) (started : os.Started) (H : Type) (enc : TypeId × Value → H) :
    ReturnsInHanded {} Tryd.checked os 6 .any (fun w args => (Rows.nfaStepIsMonotoneSpec.pre enc Tryd.prog Tryd.f6 [] false w args ∧ laidMetH Tryd.prog laidT w) ∧ sizedMet enc Tryd.prog Tryd.f6 (OpenSpec.ofChange Rows.nfaStepIsMonotoneSpec) false w args) (Rows.nfaStepIsMonotoneSpec.post enc Tryd.prog Tryd.f6 false true false false) := by
  refine Go.Frame.lifted_laid (C := Tryd.checked) (tb := 4) laidT own started (by kernel_rfl) Tryd.func6
    (ChangeSpec.witness_shaped (enc := enc) (C := Tryd.checked) (os := os) (X := fun w _ => laidMetH Tryd.prog laidT w) false (World.doorLaid Tryd.prog 400 os) #[.agg #[.int .i64 0, .int .i64 0, .slice none 0 0, .slice none 0 0], .slice none 0 0, .int .u8 0] 8 rfl (World.shaped_of_RefB (by kernel_rfl) (by kernel_rfl)) (by kernel_rfl) (by kernel_rfl) (by kernel_rfl) (door_met os _))
    laidOut (by kernel_rfl) (by kernel_rfl) Tryd.underlying4 rfl ?_ ?_
  · intro ds h
    have h : ds.length = 3 := h
    match ds, h with
    | [_, _, _], _ => rfl
  · intro W base args ds p hlen hval0 hA hsz0 hlaid
    have hval : ∀ (j : Nat) t v, Tryd.f6.params[j]? = some t → args[j]? = some v → Value.okWide Tryd.prog W .any base t v := hval0
    have hA : DataW.TrodAll enc Tryd.prog W 0 (fun _ => true) true Tryd.f6.params.toList args.toList ds p := hA
    have hsz : (DataW.weightsEach Tryd.prog Tryd.f6.params.toList ds).all (· ≤ reachBytes) = true := hsz0
    have hT := tb_of_laid hlaid
    rw [Tryd.params6] at hA hval hsz
    obtain ⟨v0, vs0, d0, ds0, p0, q0, hargs, hds, _, th0, tr0⟩ := trodAll_cons hA
    obtain ⟨v1, vs1, d1, ds1, p1, q1, rfl, rfl, _, th1, tr1⟩ := trodAll_cons tr0
    obtain ⟨v2, vs2, d2, ds2, p2, q2, rfl, rfl, _, th2, tr2⟩ := trodAll_cons tr1
    obtain ⟨rfl, rfl, _⟩ := trodAll_nil tr2
    obtain rfl : args = #[v0, v1, v2] := by cases args; simp_all
    subst hds
    obtain ⟨Au0, a0x, m0, c0x, a0y, k0, c0y, rfl, hAu0⟩ := open_nfa (hval 0 25 v0 rfl rfl) th0 (fun n hn => of_decide_eq_true (List.all_eq_true.1 hsz _ (DataW.weights_mem_each (j := 0) rfl rfl n hn)))
    obtain ⟨E1, a1, l1, c1, rfl, hE1⟩ := open_ints (hval 1 23 v1 rfl rfl) th1 (fun n hn => of_decide_eq_true (List.all_eq_true.1 hsz _ (DataW.weights_mem_each (j := 1) rfl rfl n hn)))
    obtain ⟨n2, rfl, hn2⟩ := open_u8 (hval 2 5 v2 rfl rfl) th2
    exact walk Au0 a0x m0 c0x a0y k0 c0y E1 a1 l1 c1 n2 W hAu0 hE1 hn2 hT

theorem over : Rows.NfaStepIsMonotoneSaid :=
  OpenClaim.holds_of_wide 6 Tryd.f6 rfl rfl rfl rfl rfl rfl rfl ⟨rfl, rfl, rfl, rfl, rfl⟩ rfl rfl rfl rfl rfl (by kernel_rfl) Tryd.func6 (by kernel_rfl)
    (of_decide_eq_true (by kernel_rfl)) (by unfold Func.isWrapper; first | (rw [if_pos (by decide +kernel)]; kernel_rfl) | (rw [if_neg (by decide +kernel)]; exact ⟨rfl, rfl⟩))
    (fun os started H enc _ => lifted os started H enc)

/-- THE STATEMENT: the tied card. -/
theorem proved : Rows.NfaStepIsMonotoneCardSaid :=
  Claim7.holds_tied_plain_at .later [] [.data] true (true, "71511bba388963e0e3fd5284ca385c3324698947e3f3d6d231727d3500f7d1f1") false
    over (fun _ h => by cases h) (by kernel_rfl) (fun _ h => by cases h) nfaStepIsMonotone_row_tie rfl ⟨rfl, rfl⟩ (by kernel_rfl) rfl
    (fun f fn hf hfn => by
      obtain rfl : f = 6 := Option.some.inj ((show Tryd.prog.funcNamed "emendate/emendatelaw09.NfaStepIsMonotone" = some 6 by kernel_rfl).symm.trans hf) |>.symm
      obtain rfl : fn = Tryd.f6 := (Option.some.inj (Tryd.func6.symm.trans hfn)).symm
      exact ⟨by kernel_rfl, fun j t ht => by
        rw [Tryd.params6] at ht
        have hm : t ∈ [25, 23, 5] := by simpa using Array.mem_of_getElem? ht
        have hall : ([25, 23, 5].all fun u => !Tryd.prog.wantsStandIn u) = true := by kernel_rfl
        exact (show Tryd.prog.wantsStandIn t = false by simpa using List.all_eq_true.1 hall t hm)⟩)
    (by kernel_rfl)
#print axioms proved
end Go.Proofs.YtogpnlkjcdedlaaDoor.nfaStepIsMonotone
