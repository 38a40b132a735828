/-
  LexerAppend, for every input: the law returns true and leaves its arguments as they read. No condition.
-/
import Derived.Test.YtlbnaegcjlddgaaO
import Derived.Test.YtlbnaegcjlddgaaJ
import Derived.Test.YtlbnaegcjlddgaaN
import Derived.Test.YtlbnaegcjlddgaaIv
set_option linter.unusedSimpArgs false
set_option linter.unusedVariables false
namespace Go.Proofs.Ytlbnaegcjlddgaa.lexerAppend
open Go.ChangeShapes Go.WideShapes Go.ChangeAt Go.RowKit Go.Frame
open Go.ChangeMaps (open_string shut_string)
open Lx
set_option maxRecDepth 100000 in
set_option maxHeartbeats 4000000 in
theorem walk (D : Df) (a1 : Option Addr) (n1 c1 : Nat) (a2 : Option Addr) (n2 c2 : Nat) (a3 : Option Addr) (n3 c3 : Nat) (s : ByteArray) (t : ByteArray) (w : World) (hD : DA w D a1 n1 a2 n2 a3 n3) (hs0 : s.size ≤ 140737488351232) (ht0 : t.size ≤ 140737488351232) :
    Calls Try.prog 9 #[.agg #[.slice a1 n1 c1, .slice a2 n2 c2, .slice a3 n3 c3], .string s, .string t] w fun e w' => e = .returned (.bool true) ∧ Below w.heap.size w w' := by
  have CA := hid (fun V (hV : Below w.heap.size w V) => awake_any V)
  have CL := hid (fun V (hV : Below w.heap.size w V) => light_any V D a1 n1 c1 a2 n2 c2 a3 n3 c3 (hD.below hV) s (by omega))
  have HI := hid hD
  have x0 := hid (alloc_new w (.cells #[.slice a1 n1 c1, .slice a2 n2 c2, .slice a3 n3 c3] 25))
  have B0 := hid (bel1 w (.cells #[.slice a1 n1 c1, .slice a2 n2 c2, .slice a3 n3 c3] 25))
  obtain ⟨y, hy⟩ : ∃ y, y = (decide (n2 ≤ 60) && (decide (s.size ≤ 60) && valid D)) := ⟨_, rfl⟩
  rw [← hy] at CL
  have HY := hid hy
  clear hD hy
  go_enter Try.func9, Try.ntmps9
  go_wp2_with fail
  refine (CA.out _ B0.out).mono ?_
  rintro e W ⟨rfl, b1⟩
  have X := hid (And.intro ((b1.block _ (heap_lt x0.out)).trans x0.out) (B0.out.trans (b1.mono B0.out.size)))
  clear b1 CA
  obtain ⟨d0, d1, d2⟩ := cells3 X.out.1
  go_wp2_with fail
  refine (CL.out _ X.out.2).mono ?_
  rintro e W2 ⟨rfl, b2⟩
  have X2 := hid (And.intro ((b2.block _ (heap_lt X.out.1)).trans X.out.1) (X.out.2.trans (b2.mono X.out.2.size)))
  clear b2 CL d0 d1 d2
  cases y
  · go_wp2
    go_ret
    exact ⟨rfl, X2.out.2⟩
  · have hy2 := HY.out
    simp only [eq_comm (a := true), Bool.and_eq_true, decide_eq_true_eq] at hy2
    obtain ⟨hm, hs60, hval⟩ := hy2
    obtain ⟨n, k, hv⟩ := valid_iff.1 hval
    have hs6 : s.size ≤ 1000000 := by omega
    have HV := hid hv
    have DL := hid (fun V (hV : Below w.heap.size w V) (s' : ByteArray) (h' : s'.size ≤ 1000000) => Lex_any V D n k HV.out a1 n1 c1 a2 n2 c2 a3 n3 c3 (HI.out.below hV) s' h')
    clear hm hval hv
    obtain ⟨d0, d1, d2⟩ := cells3 X2.out.1
    by_cases h30 : (30 : Int) < (t.size : Int)
    · go_wp2
      go_ret
      exact ⟨rfl, X2.out.2⟩
    · obtain ⟨L, hL⟩ : ∃ L, L = lexT D s := ⟨_, rfl⟩
      obtain ⟨M, hM⟩ : ∃ M, M = lexT D (s ++ t) := ⟨_, rfl⟩
      have hst : (s ++ t).size = s.size + t.size := ByteArray.size_append
      have hLn : L.length ≤ 60 := by rw [hL]; exact Nat.le_trans (lexT_len _ _) hs60
      have hMn : M.length ≤ 90 := by rw [hM]; exact Nat.le_trans (lexT_len _ _) (by omega)
      have D1 := hid (fun V (hV : Below w.heap.size w V) => show Calls Try.prog 13 #[.agg #[.slice a1 n1 c1, .slice a2 n2 c2, .slice a3 n3 c3], .string s] V (TRes V L) from hL ▸ DL.out V hV s hs6)
      have D2 := hid (fun V (hV : Below w.heap.size w V) => show Calls Try.prog 13 #[.agg #[.slice a1 n1 c1, .slice a2 n2 c2, .slice a3 n3 c3], .string (s ++ t)] V (TRes V M) from hM ▸ DL.out V hV (s ++ t) (by omega))
      have H0 := hid (show (lexAt D s 0).map tq = L.drop 0 ∧ (lexAt D (s ++ t) 0).map tq = M.drop 0 from by rw [hL, hM]; exact ⟨rfl, rfl⟩)
      clear hL hM DL
      obtain ⟨lL, hlL⟩ : ∃ lL, lL = L.length := ⟨_, rfl⟩
      obtain ⟨lM, hlM⟩ : ∃ lM, lM = M.length := ⟨_, rfl⟩
      have HLL := hid (And.intro hlL hlM)
      have HST := hid hst
      unfold TRes at D1 D2
      rw [← hlL] at D1 hLn
      rw [← hlM] at D2 hMn
      clear hlL hlM d0 d1 d2 hst
      go_wp2_with fail
      refine region_inv (fun b a' w' => ∃ (v21 v22 v23 v24 v25 v26 v27 v28 v7 v8 : Value), a' = { tmps := #[.agg #[.slice a1 n1 c1, .slice a2 n2 c2, .slice a3 n3 c3], .string s, .string t, .pointer (some ⟨w.heap.size, 0, none⟩), undef, undef, .bool false, v7, v8, undef, .bool true, .bool false, .agg #[.slice a1 n1 c1, .slice a2 n2 c2, .slice a3 n3 c3], .string s, .bool true, .bool false, .bool false, .string t, .int .i64 (t.size : Int), .bool (decide ((30 : Int) < (t.size : Int))), .bool (decide ((30 : Int) < (t.size : Int))), v21, v22, v23, v24, v25, v26, v27, v28, undef, undef, undef, undef, undef, undef, undef, undef, undef, undef, undef, undef, undef, undef, undef, undef, undef, undef, undef, undef, undef, undef, undef, undef, undef, undef, undef, undef, undef, undef, undef, undef, undef, undef, undef, undef, undef], defers := [] } ∧ Below W2.heap.size W2 w' ∧ w'.heap[w.heap.size]? = some (.cells #[.slice a1 n1 c1, .slice a2 n2 c2, .slice a3 n3 c3] 25 (0, 0)) ∧ (b 0 = true → v21 = .agg #[.slice a1 n1 c1, .slice a2 n2 c2, .slice a3 n3 c3]) ∧ (b 1 = true → v22 = .string s) ∧ (b 2 = true → ∃ (p : Option Addr) (q' : Nat), v23 = .slice p lL q' ∧ TRow w' p lL L) ∧ (b 3 = true → v24 = .agg #[.slice a1 n1 c1, .slice a2 n2 c2, .slice a3 n3 c3]) ∧ (b 4 = true → v25 = .string s) ∧ (b 5 = true → v26 = .string t) ∧ (b 6 = true → v27 = .string (s ++ t)) ∧ (b 7 = true → ∃ (p : Option Addr) (q' : Nat), v28 = .slice p lM q' ∧ TRow w' p lM M) ∧ (b 8 = true → v7 = v23) ∧ (b 9 = true → v8 = v28) ∧ (b 2 = true → b 0 = true) ∧ (b 2 = true → b 1 = true) ∧ (b 6 = true → b 4 = true) ∧ (b 6 = true → b 5 = true) ∧ (b 7 = true → b 3 = true) ∧ (b 7 = true → b 6 = true) ∧ (b 8 = true → b 2 = true) ∧ (b 9 = true → b 7 = true)) (by kernel_rfl) (back_of (by kernel_rfl)) ?step2 ?done2 ?init2
      case step2 =>
        rintro b a' w' i o ho ⟨v21, v22, v23, v24, v25, v26, v27, v28, v7, v8, rfl, hk, hx, h0, h1, h2, h3, h4, h5, h6, h7, h8, h9, q2_0, q2_1, q6_4, q6_5, q7_3, q7_6, q8_2, q9_7⟩ hbi hd K hK
        have hlt : i < 10 := by have := (Array.getElem?_eq_some_iff.1 ho).1; simpa using this
        have dep : ∀ k, (o.after.any fun e => Region.binds .any e && e.on == k) = true → b k = true := fun k hk => by
          obtain ⟨e, he, h⟩ := Array.any_eq_true'.1 hk
          simp only [Bool.and_eq_true, beq_iff_eq] at h
          rw [← h.2]; exact hd e he h.1
        clear hd
        have hi : i = 0 ∨ i = 1 ∨ i = 2 ∨ i = 3 ∨ i = 4 ∨ i = 5 ∨ i = 6 ∨ i = 7 ∨ i = 8 ∨ i = 9 := by omega
        clear hlt
        rcases hi with rfl | rfl | rfl | rfl | rfl | rfl | rfl | rfl | rfl | rfl
        · simp only [List.getElem?_toArray, List.getElem?_cons_zero, List.getElem?_cons_succ, Option.some.injEq] at ho
          subst ho
          obtain ⟨d0, d1, d2⟩ := cells3 hx
          go_simp
          refine hK.out _ _ ⟨_, _, _, _, _, _, _, _, _, _, rfl, hk, hx, fun _ => rfl, fun h => h1 (by simpa using h), fun h => h2 (by simpa using h), fun h => h3 (by simpa using h), fun h => h4 (by simpa using h), fun h => h5 (by simpa using h), fun h => h6 (by simpa using h), fun h => h7 (by simpa using h), fun h => h8 (by simpa using h), fun h => h9 (by simpa using h), fun h => by simp [q2_0 (by simpa using h)], fun h => by simp [q2_1 (by simpa using h)], fun h => by simp [q6_4 (by simpa using h)], fun h => by simp [q6_5 (by simpa using h)], fun h => by simp [q7_3 (by simpa using h)], fun h => by simp [q7_6 (by simpa using h)], fun h => by simp [q8_2 (by simpa using h)], fun h => by simp [q9_7 (by simpa using h)]⟩
        · simp only [List.getElem?_toArray, List.getElem?_cons_zero, List.getElem?_cons_succ, Option.some.injEq] at ho
          subst ho
          go_simp
          refine hK.out _ _ ⟨_, _, _, _, _, _, _, _, _, _, rfl, hk, hx, fun h => h0 (by simpa using h), fun _ => rfl, fun h => h2 (by simpa using h), fun h => h3 (by simpa using h), fun h => h4 (by simpa using h), fun h => h5 (by simpa using h), fun h => h6 (by simpa using h), fun h => h7 (by simpa using h), fun h => h8 (by simpa using h), fun h => h9 (by simpa using h), fun h => by simp [q2_0 (by simpa using h)], fun h => by simp [q2_1 (by simpa using h)], fun h => by simp [q6_4 (by simpa using h)], fun h => by simp [q6_5 (by simpa using h)], fun h => by simp [q7_3 (by simpa using h)], fun h => by simp [q7_6 (by simpa using h)], fun h => by simp [q8_2 (by simpa using h)], fun h => by simp [q9_7 (by simpa using h)]⟩
        · simp only [List.getElem?_toArray, List.getElem?_cons_zero, List.getElem?_cons_succ, Option.some.injEq] at ho
          subst ho
          have e_0 := dep 0 (by kernel_rfl)
          have e_1 := dep 1 (by kernel_rfl)
          obtain rfl := h0 e_0
          obtain rfl := h1 e_1
          have HCS := hid (D1.out w' (X2.out.2.trans (hk.mono X2.out.2.size)))
          have n8 : b 8 = false := by
            cases hb : b 8
            · rfl
            · have := q8_2 hb; rw [hbi] at this; cases this
          go_simp
          refine HCS.out.mono ?_
          rintro e W5 ⟨⟨p5, q5, rfl, r5⟩, b5⟩
          refine hK.out _ _ ⟨_, _, _, _, _, _, _, _, _, _, rfl, hk.trans (b5.mono hk.size), (b5.block _ (heap_lt hx)).trans hx, fun _ => rfl, fun _ => rfl, fun _ => ⟨p5, q5, rfl, r5⟩, fun h => h3 (by simpa using h), fun h => h4 (by simpa using h), fun h => h5 (by simpa using h), fun h => h6 (by simpa using h), fun h => (by obtain ⟨p9, q9, g1, g2⟩ := (h7 (by simpa using h)); exact ⟨p9, q9, g1, g2.below b5⟩), fun h => absurd h (by simp [n8]), fun h => h9 (by simpa using h), fun _ => by simp [e_0], fun _ => by simp [e_1], fun h => by simp [q6_4 (by simpa using h)], fun h => by simp [q6_5 (by simpa using h)], fun h => by simp [q7_3 (by simpa using h)], fun h => by simp [q7_6 (by simpa using h)], fun h => by simp [q8_2 (by simpa using h)], fun h => by simp [q9_7 (by simpa using h)]⟩
        · simp only [List.getElem?_toArray, List.getElem?_cons_zero, List.getElem?_cons_succ, Option.some.injEq] at ho
          subst ho
          obtain ⟨d0, d1, d2⟩ := cells3 hx
          go_simp
          refine hK.out _ _ ⟨_, _, _, _, _, _, _, _, _, _, rfl, hk, hx, fun h => h0 (by simpa using h), fun h => h1 (by simpa using h), fun h => h2 (by simpa using h), fun _ => rfl, fun h => h4 (by simpa using h), fun h => h5 (by simpa using h), fun h => h6 (by simpa using h), fun h => h7 (by simpa using h), fun h => h8 (by simpa using h), fun h => h9 (by simpa using h), fun h => by simp [q2_0 (by simpa using h)], fun h => by simp [q2_1 (by simpa using h)], fun h => by simp [q6_4 (by simpa using h)], fun h => by simp [q6_5 (by simpa using h)], fun h => by simp [q7_3 (by simpa using h)], fun h => by simp [q7_6 (by simpa using h)], fun h => by simp [q8_2 (by simpa using h)], fun h => by simp [q9_7 (by simpa using h)]⟩
        · simp only [List.getElem?_toArray, List.getElem?_cons_zero, List.getElem?_cons_succ, Option.some.injEq] at ho
          subst ho
          go_simp
          refine hK.out _ _ ⟨_, _, _, _, _, _, _, _, _, _, rfl, hk, hx, fun h => h0 (by simpa using h), fun h => h1 (by simpa using h), fun h => h2 (by simpa using h), fun h => h3 (by simpa using h), fun _ => rfl, fun h => h5 (by simpa using h), fun h => h6 (by simpa using h), fun h => h7 (by simpa using h), fun h => h8 (by simpa using h), fun h => h9 (by simpa using h), fun h => by simp [q2_0 (by simpa using h)], fun h => by simp [q2_1 (by simpa using h)], fun h => by simp [q6_4 (by simpa using h)], fun h => by simp [q6_5 (by simpa using h)], fun h => by simp [q7_3 (by simpa using h)], fun h => by simp [q7_6 (by simpa using h)], fun h => by simp [q8_2 (by simpa using h)], fun h => by simp [q9_7 (by simpa using h)]⟩
        · simp only [List.getElem?_toArray, List.getElem?_cons_zero, List.getElem?_cons_succ, Option.some.injEq] at ho
          subst ho
          go_simp
          refine hK.out _ _ ⟨_, _, _, _, _, _, _, _, _, _, rfl, hk, hx, fun h => h0 (by simpa using h), fun h => h1 (by simpa using h), fun h => h2 (by simpa using h), fun h => h3 (by simpa using h), fun h => h4 (by simpa using h), fun _ => rfl, fun h => h6 (by simpa using h), fun h => h7 (by simpa using h), fun h => h8 (by simpa using h), fun h => h9 (by simpa using h), fun h => by simp [q2_0 (by simpa using h)], fun h => by simp [q2_1 (by simpa using h)], fun h => by simp [q6_4 (by simpa using h)], fun h => by simp [q6_5 (by simpa using h)], fun h => by simp [q7_3 (by simpa using h)], fun h => by simp [q7_6 (by simpa using h)], fun h => by simp [q8_2 (by simpa using h)], fun h => by simp [q9_7 (by simpa using h)]⟩
        · simp only [List.getElem?_toArray, List.getElem?_cons_zero, List.getElem?_cons_succ, Option.some.injEq] at ho
          subst ho
          have e_4 := dep 4 (by kernel_rfl)
          have e_5 := dep 5 (by kernel_rfl)
          obtain rfl := h4 e_4
          obtain rfl := h5 e_5
          have hns : ¬ 9223372036854775807 < s.size + t.size := by omega
          go_simp
          refine hK.out _ _ ⟨_, _, _, _, _, _, _, _, _, _, rfl, hk, hx, fun h => h0 (by simpa using h), fun h => h1 (by simpa using h), fun h => h2 (by simpa using h), fun h => h3 (by simpa using h), fun _ => rfl, fun _ => rfl, fun _ => rfl, fun h => h7 (by simpa using h), fun h => h8 (by simpa using h), fun h => h9 (by simpa using h), fun h => by simp [q2_0 (by simpa using h)], fun h => by simp [q2_1 (by simpa using h)], fun _ => by simp [e_4], fun _ => by simp [e_5], fun h => by simp [q7_3 (by simpa using h)], fun h => by simp [q7_6 (by simpa using h)], fun h => by simp [q8_2 (by simpa using h)], fun h => by simp [q9_7 (by simpa using h)]⟩
        · simp only [List.getElem?_toArray, List.getElem?_cons_zero, List.getElem?_cons_succ, Option.some.injEq] at ho
          subst ho
          have e_3 := dep 3 (by kernel_rfl)
          have e_6 := dep 6 (by kernel_rfl)
          have e_4 := q6_4 e_6
          have e_5 := q6_5 e_6
          obtain rfl := h3 e_3
          obtain rfl := h4 e_4
          obtain rfl := h5 e_5
          obtain rfl := h6 e_6
          have HCS := hid (D2.out w' (X2.out.2.trans (hk.mono X2.out.2.size)))
          have n9 : b 9 = false := by
            cases hb : b 9
            · rfl
            · have := q9_7 hb; rw [hbi] at this; cases this
          go_simp
          refine HCS.out.mono ?_
          rintro e W5 ⟨⟨p5, q5, rfl, r5⟩, b5⟩
          refine hK.out _ _ ⟨_, _, _, _, _, _, _, _, _, _, rfl, hk.trans (b5.mono hk.size), (b5.block _ (heap_lt hx)).trans hx, fun h => h0 (by simpa using h), fun h => h1 (by simpa using h), fun h => (by obtain ⟨p9, q9, g1, g2⟩ := (h2 (by simpa using h)); exact ⟨p9, q9, g1, g2.below b5⟩), fun _ => rfl, fun _ => rfl, fun _ => rfl, fun _ => rfl, fun _ => ⟨p5, q5, rfl, r5⟩, fun h => h8 (by simpa using h), fun h => absurd h (by simp [n9]), fun h => by simp [q2_0 (by simpa using h)], fun h => by simp [q2_1 (by simpa using h)], fun h => by simp [q6_4 (by simpa using h)], fun h => by simp [q6_5 (by simpa using h)], fun _ => by simp [e_3], fun _ => by simp [e_6], fun h => by simp [q8_2 (by simpa using h)], fun h => by simp [q9_7 (by simpa using h)]⟩
        · simp only [List.getElem?_toArray, List.getElem?_cons_zero, List.getElem?_cons_succ, Option.some.injEq] at ho
          subst ho
          have e_2 := dep 2 (by kernel_rfl)
          have e_0 := q2_0 e_2
          have e_1 := q2_1 e_2
          obtain rfl := h0 e_0
          obtain rfl := h1 e_1
          obtain ⟨p2, q2, rfl, r2⟩ := (h2 e_2)
          go_simp
          refine hK.out _ _ ⟨_, _, _, _, _, _, _, _, _, _, rfl, hk, hx, fun _ => rfl, fun _ => rfl, fun _ => ⟨p2, q2, rfl, r2⟩, fun h => h3 (by simpa using h), fun h => h4 (by simpa using h), fun h => h5 (by simpa using h), fun h => h6 (by simpa using h), fun h => h7 (by simpa using h), fun _ => rfl, fun h => h9 (by simpa using h), fun h => by simp [q2_0 (by simpa using h)], fun h => by simp [q2_1 (by simpa using h)], fun h => by simp [q6_4 (by simpa using h)], fun h => by simp [q6_5 (by simpa using h)], fun h => by simp [q7_3 (by simpa using h)], fun h => by simp [q7_6 (by simpa using h)], fun _ => by simp [e_2], fun h => by simp [q9_7 (by simpa using h)]⟩
        · simp only [List.getElem?_toArray, List.getElem?_cons_zero, List.getElem?_cons_succ, Option.some.injEq] at ho
          subst ho
          have e_7 := dep 7 (by kernel_rfl)
          have e_3 := q7_3 e_7
          have e_6 := q7_6 e_7
          have e_4 := q6_4 e_6
          have e_5 := q6_5 e_6
          obtain rfl := h3 e_3
          obtain rfl := h4 e_4
          obtain rfl := h5 e_5
          obtain rfl := h6 e_6
          obtain ⟨p7, q7, rfl, r7⟩ := (h7 e_7)
          go_simp
          refine hK.out _ _ ⟨_, _, _, _, _, _, _, _, _, _, rfl, hk, hx, fun h => h0 (by simpa using h), fun h => h1 (by simpa using h), fun h => h2 (by simpa using h), fun _ => rfl, fun _ => rfl, fun _ => rfl, fun _ => rfl, fun _ => ⟨p7, q7, rfl, r7⟩, fun h => h8 (by simpa using h), fun _ => rfl, fun h => by simp [q2_0 (by simpa using h)], fun h => by simp [q2_1 (by simpa using h)], fun h => by simp [q6_4 (by simpa using h)], fun h => by simp [q6_5 (by simpa using h)], fun h => by simp [q7_3 (by simpa using h)], fun h => by simp [q7_6 (by simpa using h)], fun h => by simp [q8_2 (by simpa using h)], fun _ => by simp [e_7]⟩
      case done2 =>
        rintro b a' w' ⟨v21, v22, v23, v24, v25, v26, v27, v28, v7, v8, rfl, hk, hx, h0, h1, h2, h3, h4, h5, h6, h7, h8, h9, q2_0, q2_1, q6_4, q6_5, q7_3, q7_6, q8_2, q9_7⟩ hall
        obtain rfl := h0 (hall 0)
        obtain rfl := h1 (hall 1)
        obtain rfl := h3 (hall 3)
        obtain rfl := h4 (hall 4)
        obtain rfl := h5 (hall 5)
        obtain rfl := h6 (hall 6)
        obtain ⟨p2, q2, e23, r2⟩ := h2 (hall 2)
        obtain ⟨p7, q7, e28, r7⟩ := h7 (hall 7)
        obtain rfl := h8 (hall 8)
        obtain rfl := h9 (hall 9)
        subst e23 e28
        have HR := hid (And.intro hk (And.intro r2 r7))
        clear h0 h1 h2 h3 h4 h5 h6 h7 h8 h9 hk hx r2 r7 hall
        obtain ⟨w3, hw3⟩ : ∃ w3, w3 = w' := ⟨_, rfl⟩
        rw [← hw3] at HR ⊢
        clear hw3
        go_wp2_with fail
        go_loopg [9] lL (fun kk s9 wr => ∃ i p : Nat, s9 = .int .i64 (i : Int) ∧ i + kk = lL ∧ p ≤ s.size ∧ Hid ((lexAt D s p).map tq = L.drop i ∧ (lexAt D (s ++ t) p).map tq = M.drop i) ∧ Below w3.heap.size w3 wr)
        case atStart => exact ⟨0, 0, rfl, by omega, Nat.zero_le _, H0, Below.refl _ _⟩
        case round =>
          obtain ⟨i, p, rfl, hk, hp, hl, hb⟩ := hrel
          have HB1 := hid hb
          have HB := hid (X2.out.2.trans ((HR.out.1.trans (hb.mono HR.out.1.size)).mono X2.out.2.size))
          have R1 := hid (HR.out.2.1.below hb)
          have R2 := hid (HR.out.2.2.below hb)
          clear hb
          by_cases hlt : i < lL
          · have hlt' : (i : Int) < (lL : Int) := by omega
            have hltb : decide ((i : Int) < (lL : Int)) = true := decide_eq_true hlt'
            have hi0 : (0 : Int) ≤ (i : Int) := by omega
            have hi1 : IntKind.i64.wrap ((i : Int) + 1) = (i : Int) + 1 := wrapIn (by omega) (by omega)
            obtain ⟨hps, hx, hl2, hp2⟩ := lex_step hl.out.1 (by have := HLL.out.1; omega) hp
            obtain ⟨z1, z2, z3, z4, z5⟩ := sc_bounds (D := D) hps
            obtain ⟨b, o, u, rfl, _, hx', x0, x1, x2, x3⟩ := trow_at R1.out hlt
            obtain rfl : u = tq (tokAt D s p) := by rw [hx] at hx'; simpa using hx'.symm
            obtain ⟨tx, htx⟩ : ∃ tx, tx = (tokAt D s p).txt := ⟨_, rfl⟩
            obtain ⟨tk, htk⟩ : ∃ tk, tk = (tokAt D s p).kind := ⟨_, rfl⟩
            obtain ⟨lk, hlk⟩ : ∃ lk, lk = (tokAt D s p).look := ⟨_, rfl⟩
            have hlk2 : lk = (sc D s p).2.2 := hlk
            have hpe : (tokAt D s p).pos = p := rfl
            have HTQ := hid (show tq (tokAt D s p) = (tk, (p : Int), tx, (lk : Int)) from by rw [htx, htk, hlk]; rfl)
            simp only [tq, hpe, ← htx, ← htk, ← hlk] at x0 x1 x2 x3
            have g1 : IntKind.i64.wrap ((p : Int) + (lk : Int)) = (p : Int) + (lk : Int) := wrapIn (by omega) (by omega)
            have HX := hid hx
            have HLK := hid hlk2
            clear hx hx' htx htk hlk hpe
            by_cases hend : p + lk ≤ s.size
            · have g2 : (p : Int) + (lk : Int) ≤ (s.size : Int) := by omega
              have g2b : decide ((p : Int) + (lk : Int) ≤ (s.size : Int)) = true := decide_eq_true g2
              have hsc := sc_app (t := t) hps (show p + (sc D s p).2.2 ≤ s.size from by omega)
              have htk2 := tok_app (t := t) hps (show p + (sc D s p).2.2 ≤ s.size from by omega)
              have hiM : i < lM := by
                apply Nat.lt_of_not_le
                intro hle
                have := lex_done hl.out.2 (by have := HLL.out.2; omega) (by have := HST.out; omega)
                have := HST.out
                omega
              have hiM' : (i : Int) < (lM : Int) := by omega
              have hiM2 : ¬ (lM : Int) ≤ (i : Int) := by omega
              have hiM3 : decide ((lM : Int) ≤ (i : Int)) = false := decide_eq_false hiM2
              obtain ⟨_, hy, hm2, _⟩ := lex_step hl.out.2 (by have := HLL.out.2; omega) (by have := HST.out; omega)
              obtain ⟨b', o', u', rfl, _, hy', y0, y1, y2, y3⟩ := trow_at R2.out hiM
              obtain rfl : u' = tq (tokAt D (s ++ t) p) := by rw [hy] at hy'; simpa using hy'.symm
              rw [htk2, HTQ.out] at y0 y1 y2 y3
              simp only at y0 y1 y2 y3
              rw [hsc] at hm2
              have HN := hid (And.intro hl2 hm2)
              clear hl hl2 hm2 hy hy' hsc htk2 hlk2
              go_wp2_with fail
              go_quiet (fail)
              go_wp2_with fail
              go_quiet (fail)
              go_wp2
              go_roundg (gk - 1)
              case measure => omega
              case rel => exact ⟨i + 1, p + (sc D s p).2.1, by go_num, by omega, hp2, HN, below_drewN HB1.out _⟩
            · have g2 : ¬ (p : Int) + (lk : Int) ≤ (s.size : Int) := by omega
              have g2b : decide ((p : Int) + (lk : Int) ≤ (s.size : Int)) = false := decide_eq_false g2
              clear hl hl2 hlk2
              go_wp2_with fail
              go_quiet (fail)
              go_wp2
              go_ret
              exact ⟨rfl, below_drewN HB.out _⟩
          · have hlt' : ¬ (i : Int) < (lL : Int) := by omega
            have hltb : decide ((i : Int) < (lL : Int)) = false := decide_eq_false hlt'
            clear hl
            go_wp2_with fail
            go_quiet (fail)
            go_wp2
            go_ret
            exact ⟨rfl, below_drewN HB.out _⟩
      case init2 =>
        exact ⟨_, _, _, _, _, _, _, _, _, _, rfl, (Below.refl _ _).drew, X2.out.1, fun h => absurd h (by simp), fun h => absurd h (by simp), fun h => absurd h (by simp), fun h => absurd h (by simp), fun h => absurd h (by simp), fun h => absurd h (by simp), fun h => absurd h (by simp), fun h => absurd h (by simp), fun h => absurd h (by simp), fun h => absurd h (by simp), fun h => absurd h (by simp), fun h => absurd h (by simp), fun h => absurd h (by simp), fun h => absurd h (by simp), fun h => absurd h (by simp), fun h => absurd h (by simp), fun h => absurd h (by simp), fun h => absurd h (by simp)⟩

theorem lifted (os : Os) (started : os.Started) (H : Type) (enc : TypeId × Value → H) :
    ReturnsInHanded {} Try.checked os 9 .any (Rows.lexerAppendSpec.pre6 enc Try.prog Try.f9 Rows.lexerAppendRow.domain false) (Rows.lexerAppendSpec.post enc Try.prog Try.f9 false true false false) := by
  refine Go.Frame.lifted (C := Try.checked) (tb := 4) own started (by kernel_rfl) Try.func9
    (ChangeSpec.witness6 (enc := enc) (C := Try.checked) false ⟨#[], #[.agg #[.slice none 0 0, .slice none 0 0, .slice none 0 0], .string ByteArray.empty, .string ByteArray.empty], []⟩ 8 (by kernel_rfl) (by kernel_rfl) (by kernel_rfl) (by kernel_rfl))
    laidOut (by kernel_rfl) (by kernel_rfl) Try.underlying4 rfl ?_ ?_
  · intro ds h
    have h : ds.length = 3 := h
    match ds, h with
    | [_, _, _], _ => rfl
  · intro W base args ds p hlen hval0 hA hsz0
    have hval : ∀ (j : Nat) t v, Try.f9.params[j]? = some t → args[j]? = some v → Value.okWide Try.prog W .any base t v := hval0
    have hA : DataW.TrodAll enc Try.prog W 0 (fun _ => true) true Try.f9.params.toList args.toList ds p := hA
    have hsz : (DataW.weightsEach Try.prog Try.f9.params.toList ds).all (· ≤ reachBytes) = true := hsz0
    rw [Try.params9] at hA hval hsz
    obtain ⟨v0, vs0, d0, ds0, p0, q0, hargs, hds, _, th0, tr0⟩ := trodAll_cons hA
    obtain ⟨v1, vs1, d1, ds1, p1, q1, rfl, rfl, _, th1, tr1⟩ := trodAll_cons tr0
    obtain ⟨v2, vs2, d2, ds2, p2, q2, rfl, rfl, _, th2, tr2⟩ := trodAll_cons tr1
    obtain ⟨rfl, rfl, _⟩ := trodAll_nil tr2
    obtain rfl : args = #[v0, v1, v2] := by cases args; simp_all
    subst hds
    obtain ⟨Du, a1x, n1x, c1x, a2x, n2x, c2x, a3x, n3x, c3x, rfl, hDu⟩ := open_dfa (hval 0 25 v0 rfl rfl) th0 (fun n hn => of_decide_eq_true (List.all_eq_true.1 hsz _ (DataW.weights_mem_each (j := 0) rfl rfl n hn)))
    obtain ⟨t1, rfl, hd1, _, _⟩ := open_string Try.underlying9 (hval 1 9 v1 rfl rfl) th1
    have hs1 : t1.size ≤ 140737488351232 := of_decide_eq_true (List.all_eq_true.1 hsz _ (DataW.weights_mem_each (j := 1) rfl rfl _ (by rw [hd1]; simp [DataW.weights])))
    obtain ⟨t2, rfl, hd2, _, _⟩ := open_string Try.underlying9 (hval 2 9 v2 rfl rfl) th2
    have hs2 : t2.size ≤ 140737488351232 := of_decide_eq_true (List.all_eq_true.1 hsz _ (DataW.weights_mem_each (j := 2) rfl rfl _ (by rw [hd2]; simp [DataW.weights])))
    exact walk Du a1x n1x c1x a2x n2x c2x a3x n3x c3x t1 t2 W hDu hs1 hs2

theorem over : Rows.lexerAppendRow.holds Try.pinned (OpenSpec.ofChange Rows.lexerAppendSpec) :=
  OpenClaim.holds_of_wide 9 Try.f9 rfl rfl rfl rfl rfl rfl rfl ⟨rfl, rfl, rfl, rfl, rfl⟩ rfl rfl rfl rfl rfl (by kernel_rfl) Try.func9 (by kernel_rfl)
    (of_decide_eq_true (by kernel_rfl)) (by unfold Func.isWrapper; first | (rw [if_pos (by decide +kernel)]; kernel_rfl) | (rw [if_neg (by decide +kernel)]; exact ⟨rfl, rfl⟩))
    (fun os started H enc _ => lifted os started H enc)

/-- THE STATEMENT -/
theorem proved : Rows.LexerAppendSaid :=
  over
#print axioms proved
end Go.Proofs.Ytlbnaegcjlddgaa.lexerAppend
