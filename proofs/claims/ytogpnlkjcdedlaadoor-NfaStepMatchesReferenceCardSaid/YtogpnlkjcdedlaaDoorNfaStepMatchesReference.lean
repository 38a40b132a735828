/-
  NfaStepMatchesReference, for every input: the law returns true and leaves its arguments as they read. No condition beside the listed variable's own text (the card ties it).
-/
import Derived.Test.YtogpnlkjcdedlaaDoorZ04
import Derived.Test.YtogpnlkjcdedlaaDoorZ15
import Derived.Test.YtogpnlkjcdedlaaDoorZ19
set_option linter.unusedSimpArgs false
set_option linter.unusedVariables false
namespace Go.Proofs.YtogpnlkjcdedlaaDoor.nfaStepMatchesReference
open Go.ChangeShapes Go.WideShapes Go.ChangeAt Go.RowKit Go.Frame
open Go.ChangeMaps (open_string shut_string)
open Bs Rg Nf
attribute [local irreducible] ws
attribute [local go_sem] eq_zero eq_set
set_option maxRecDepth 100000 in
set_option maxHeartbeats 4000000 in
theorem walk (N : Nfa) (a1 : Option Addr) (m c1 : Nat) (a2 : Option Addr) (k c2 : Nat) (E : List Int) (a : Option Addr) (q c : Nat) (bt : Nat) (w : World) (hN : InN w N a1 m c1 a2 k c2) (hE : Row w a q (E.map iv) ∧ q ≤ 140737488355328 ∧ q ≤ c ∧ c ≤ maxLen ∧ (a = none → c = 0) ∧ ∀ e ∈ E, -9223372036854775808 ≤ e ∧ e ≤ 9223372036854775807) (hbt : bt < 256) (hT : Tb w) :
    Calls Tryd.prog 5 #[.agg #[.int .i64 N.n, .int .i64 N.st, .slice a1 m c1, .slice a2 k c2], .slice a q c, .int .u8 (bt : Int)] w fun e w' => e = .returned (.bool true) ∧ Below w.heap.size w w' := by
  have CA := hid (fun V (hV : Below w.heap.size w V) => awake_any V (hT.below hV))
  have CL := hid (fun V (hV : Below w.heap.size w V) => light_any V N a1 a2 m c1 k c2 (hN.na.below hV))
  have HI := hid (And.intro hN hT)
  have x0 := hid (alloc_new w (.cells #[.int .i64 N.n, .int .i64 N.st, .slice a1 m c1, .slice a2 k c2] 25))
  have B0 := hid (bel1 w (.cells #[.int .i64 N.n, .int .i64 N.st, .slice a1 m c1, .slice a2 k c2] 25))
  obtain ⟨y, hy⟩ : ∃ y, y = (decide (m ≤ 60) && decide (N.n ≤ 40) && valid N) := ⟨_, rfl⟩
  rw [← hy] at CL
  have HY := hid hy
  have HE := hid hE
  have hq := hE.2.1
  clear hN hT hy hE
  go_enter Tryd.func5, Tryd.ntmps5
  go_wp2_with fail
  refine (CA.out _ B0.out).mono ?_
  rintro e W ⟨rfl, b1⟩
  have X := hid (And.intro ((b1.block _ (heap_lt x0.out)).trans x0.out) (B0.out.trans (b1.mono B0.out.size)))
  clear b1 CA
  obtain ⟨d0, d1, d2, d3⟩ := cells4 X.out.1
  go_wp2_with fail
  refine (CL.out _ X.out.2).mono ?_
  rintro e W2 ⟨rfl, b2⟩
  have X2 := hid (And.intro ((b2.block _ (heap_lt X.out.1)).trans X.out.1) (X.out.2.trans (b2.mono X.out.2.size)))
  clear b2 CL d0 d1 d2 d3
  cases y
  · go_wp2
    go_ret
    exact ⟨rfl, X2.out.2⟩
  · have hy2 := HY.out
    simp only [eq_comm (a := true), Bool.and_eq_true, decide_eq_true_eq] at hy2
    obtain ⟨⟨hm, hnn⟩, hval⟩ := hy2
    obtain ⟨n, hv⟩ := valid_iff.1 hval
    have hn40 : n ≤ 40 := by have := hv.hn; omega
    have HV := hid (And.intro hv hm)
    have CN := hid (fun V (hV : Below w.heap.size w V) => NMS_any V N n hv a1 a2 m c1 k c2 HI.out.1.mc HI.out.1.cc HI.out.1.nil1 (HI.out.1.na.below hV) (by omega))
    clear hm hnn hval hv
    obtain ⟨d0, d1, d2, d3⟩ := cells4 X2.out.1
    by_cases h60 : (60 : Int) < (q : Int)
    · go_wp2
      go_ret
      exact ⟨rfl, X2.out.2⟩
    · obtain ⟨L, hL⟩ : ∃ L, L = elx n (stp N (clo (Ep N) (ini n E)) (UInt8.ofNat bt)) := ⟨_, rfl⟩
      have hLn : L.length ≤ 40 := by rw [hL]; exact Nat.le_trans (elx_length _ _) hn40
      have D1 := hid (fun V (hV : Below w.heap.size w V) => show Calls Tryd.prog 18 #[.agg #[.int .i64 N.n, .int .i64 N.st, .slice a1 m c1, .slice a2 k c2], .slice a q c, .int .u8 (bt : Int)] V (RS L V) from hL ▸ NStep_any V N n HV.out.1 a1 a2 m c1 k c2 (HI.out.1.na.below hV) (CN.out V hV) E a q c (HE.out.1.below hV) hq bt hbt (HI.out.2.below hV))
      have D2 := hid (fun V (hV : Below w.heap.size w V) => show Calls Tryd.prog 19 #[.agg #[.int .i64 N.n, .int .i64 N.st, .slice a1 m c1, .slice a2 k c2], .slice a q c, .int .u8 (bt : Int)] V (RS L V) from hL ▸ RStep_any V N n HV.out.1 a1 a2 m c1 k c2 (HI.out.1.na.below hV) (by have := HV.out.2; omega) E a q c (HE.out.1.below hV) hq bt hbt)
      have D4 := hid (fun V p1 d1 p2 d2 (h1 : Row V p1 L.length (ints L)) (h2 : Row V p2 L.length (ints L)) => show Calls Tryd.prog 16 #[.slice p1 L.length d1, .slice p2 L.length d2] V fun e w' => e = .returned (.bool true) ∧ Below V.heap.size V w' from by
        have h := RSame_any V p1 p2 L.length d1 L.length d2 _ _ (by rw [← ints_iv]; exact h1) (by rw [← ints_iv]; exact h2) (by omega)
        rw [decide_eq_true rfl] at h
        exact h)
      clear hL CN
      obtain ⟨lL, hlL⟩ : ∃ lL, lL = L.length := ⟨_, rfl⟩
      have HLL := hid hlL
      unfold RS at D1 D2
      rw [← hlL] at D1 D2 D4 hLn
      clear hlL d0 d1 d2 d3
      go_wp2_with fail
      refine region_inv (fun b a' w' => ∃ (v17 v18 v19 v20 v21 v22 v23 v24 v25 v6 : Value), a' = { tmps := #[.agg #[.int .i64 N.n, .int .i64 N.st, .slice a1 m c1, .slice a2 k c2], .slice a q c, .int .u8 (bt : Int), .pointer (some ⟨w.heap.size, 0, none⟩), undef, undef, v6, .bool true, .bool false, .agg #[.int .i64 N.n, .int .i64 N.st, .slice a1 m c1, .slice a2 k c2], .bool true, .bool false, .bool false, .slice a q c, .int .i64 (q : Int), .bool (decide ((60 : Int) < (q : Int))), .bool (decide ((60 : Int) < (q : Int))), v17, v18, v19, v20, v21, v22, v23, v24, v25], defers := [] } ∧ Below W2.heap.size W2 w' ∧ w'.heap[w.heap.size]? = some (.cells #[.int .i64 N.n, .int .i64 N.st, .slice a1 m c1, .slice a2 k c2] 25 (0, 0)) ∧ (b 0 = true → v17 = .agg #[.int .i64 N.n, .int .i64 N.st, .slice a1 m c1, .slice a2 k c2]) ∧ (b 1 = true → v18 = .slice a q c) ∧ (b 2 = true → v19 = .int .u8 (bt : Int)) ∧ (b 3 = true → ∃ (p : Option Addr) (q' : Nat), v20 = .slice p lL q' ∧ Row w' p lL (ints L)) ∧ (b 4 = true → v21 = .agg #[.int .i64 N.n, .int .i64 N.st, .slice a1 m c1, .slice a2 k c2]) ∧ (b 5 = true → v22 = .slice a q c) ∧ (b 6 = true → v23 = .int .u8 (bt : Int)) ∧ (b 7 = true → ∃ (p : Option Addr) (q' : Nat), v24 = .slice p lL q' ∧ Row w' p lL (ints L)) ∧ (b 8 = true → v25 = .bool true) ∧ (b 9 = true → v6 = .bool true) ∧ (b 3 = true → b 0 = true) ∧ (b 3 = true → b 1 = true) ∧ (b 3 = true → b 2 = true) ∧ (b 7 = true → b 4 = true) ∧ (b 7 = true → b 5 = true) ∧ (b 7 = true → b 6 = true) ∧ (b 8 = true → b 3 = true) ∧ (b 8 = true → b 7 = true) ∧ (b 9 = true → b 8 = true)) (by kernel_rfl) (back_of (by kernel_rfl)) ?step2 ?done2 ?init2
      case step2 =>
        rintro b a' w' i o ho ⟨v17, v18, v19, v20, v21, v22, v23, v24, v25, v6, rfl, hk, hx, h0, h1, h2, h3, h4, h5, h6, h7, h8, h9, q3_0, q3_1, q3_2, q7_4, q7_5, q7_6, q8_3, q8_7, q9_8⟩ hbi hd K hK
        have hlt : i < 10 := by have := (Array.getElem?_eq_some_iff.1 ho).1; simpa using this
        have dep : ∀ k, (o.after.any fun e => Region.binds .any e && e.on == k) = true → b k = true := fun k hk => by
          obtain ⟨e, he, h⟩ := Array.any_eq_true'.1 hk
          simp only [Bool.and_eq_true, beq_iff_eq] at h
          rw [← h.2]; exact hd e he h.1
        clear hd
        have hi : i = 0 ∨ i = 1 ∨ i = 2 ∨ i = 3 ∨ i = 4 ∨ i = 5 ∨ i = 6 ∨ i = 7 ∨ i = 8 ∨ i = 9 := by omega
        clear hlt
        rcases hi with rfl | rfl | rfl | rfl | rfl | rfl | rfl | rfl | rfl | rfl
        · simp only [List.getElem?_toArray, List.getElem?_cons_zero, List.getElem?_cons_succ, Option.some.injEq] at ho
          subst ho
          obtain ⟨d0, d1, d2, d3⟩ := cells4 hx
          go_simp
          refine hK.out _ _ ⟨_, _, _, _, _, _, _, _, _, _, rfl, hk, hx, fun _ => rfl, fun h => h1 (by simpa using h), fun h => h2 (by simpa using h), fun h => h3 (by simpa using h), fun h => h4 (by simpa using h), fun h => h5 (by simpa using h), fun h => h6 (by simpa using h), fun h => h7 (by simpa using h), fun h => h8 (by simpa using h), fun h => h9 (by simpa using h), fun h => by simp [q3_0 (by simpa using h)], fun h => by simp [q3_1 (by simpa using h)], fun h => by simp [q3_2 (by simpa using h)], fun h => by simp [q7_4 (by simpa using h)], fun h => by simp [q7_5 (by simpa using h)], fun h => by simp [q7_6 (by simpa using h)], fun h => by simp [q8_3 (by simpa using h)], fun h => by simp [q8_7 (by simpa using h)], fun h => by simp [q9_8 (by simpa using h)]⟩
        · simp only [List.getElem?_toArray, List.getElem?_cons_zero, List.getElem?_cons_succ, Option.some.injEq] at ho
          subst ho
          go_simp
          refine hK.out _ _ ⟨_, _, _, _, _, _, _, _, _, _, rfl, hk, hx, fun h => h0 (by simpa using h), fun _ => rfl, fun h => h2 (by simpa using h), fun h => h3 (by simpa using h), fun h => h4 (by simpa using h), fun h => h5 (by simpa using h), fun h => h6 (by simpa using h), fun h => h7 (by simpa using h), fun h => h8 (by simpa using h), fun h => h9 (by simpa using h), fun h => by simp [q3_0 (by simpa using h)], fun h => by simp [q3_1 (by simpa using h)], fun h => by simp [q3_2 (by simpa using h)], fun h => by simp [q7_4 (by simpa using h)], fun h => by simp [q7_5 (by simpa using h)], fun h => by simp [q7_6 (by simpa using h)], fun h => by simp [q8_3 (by simpa using h)], fun h => by simp [q8_7 (by simpa using h)], fun h => by simp [q9_8 (by simpa using h)]⟩
        · simp only [List.getElem?_toArray, List.getElem?_cons_zero, List.getElem?_cons_succ, Option.some.injEq] at ho
          subst ho
          go_simp
          refine hK.out _ _ ⟨_, _, _, _, _, _, _, _, _, _, rfl, hk, hx, fun h => h0 (by simpa using h), fun h => h1 (by simpa using h), fun _ => rfl, fun h => h3 (by simpa using h), fun h => h4 (by simpa using h), fun h => h5 (by simpa using h), fun h => h6 (by simpa using h), fun h => h7 (by simpa using h), fun h => h8 (by simpa using h), fun h => h9 (by simpa using h), fun h => by simp [q3_0 (by simpa using h)], fun h => by simp [q3_1 (by simpa using h)], fun h => by simp [q3_2 (by simpa using h)], fun h => by simp [q7_4 (by simpa using h)], fun h => by simp [q7_5 (by simpa using h)], fun h => by simp [q7_6 (by simpa using h)], fun h => by simp [q8_3 (by simpa using h)], fun h => by simp [q8_7 (by simpa using h)], fun h => by simp [q9_8 (by simpa using h)]⟩
        · simp only [List.getElem?_toArray, List.getElem?_cons_zero, List.getElem?_cons_succ, Option.some.injEq] at ho
          subst ho
          have e_0 := dep 0 (by kernel_rfl)
          have e_1 := dep 1 (by kernel_rfl)
          have e_2 := dep 2 (by kernel_rfl)
          obtain rfl := h0 e_0
          obtain rfl := h1 e_1
          obtain rfl := h2 e_2
          have HCS := hid (D1.out w' (X2.out.2.trans (hk.mono X2.out.2.size)))
          go_simp
          refine HCS.out.mono ?_
          rintro e W5 ⟨⟨p5, q5, rfl, r5⟩, b5⟩
          refine hK.out _ _ ⟨_, _, _, _, _, _, _, _, _, _, rfl, hk.trans (b5.mono hk.size), (b5.block _ (heap_lt hx)).trans hx, fun _ => rfl, fun _ => rfl, fun _ => rfl, fun _ => ⟨p5, q5, rfl, r5⟩, fun h => h4 (by simpa using h), fun h => h5 (by simpa using h), fun h => h6 (by simpa using h), fun h => (by obtain ⟨p9, q9, g1, g2⟩ := (h7 (by simpa using h)); exact ⟨p9, q9, g1, g2.below b5⟩), fun h => h8 (by simpa using h), fun h => h9 (by simpa using h), fun _ => by simp [e_0], fun _ => by simp [e_1], fun _ => by simp [e_2], fun h => by simp [q7_4 (by simpa using h)], fun h => by simp [q7_5 (by simpa using h)], fun h => by simp [q7_6 (by simpa using h)], fun h => by simp [q8_3 (by simpa using h)], fun h => by simp [q8_7 (by simpa using h)], fun h => by simp [q9_8 (by simpa using h)]⟩
        · simp only [List.getElem?_toArray, List.getElem?_cons_zero, List.getElem?_cons_succ, Option.some.injEq] at ho
          subst ho
          obtain ⟨d0, d1, d2, d3⟩ := cells4 hx
          go_simp
          refine hK.out _ _ ⟨_, _, _, _, _, _, _, _, _, _, rfl, hk, hx, fun h => h0 (by simpa using h), fun h => h1 (by simpa using h), fun h => h2 (by simpa using h), fun h => h3 (by simpa using h), fun _ => rfl, fun h => h5 (by simpa using h), fun h => h6 (by simpa using h), fun h => h7 (by simpa using h), fun h => h8 (by simpa using h), fun h => h9 (by simpa using h), fun h => by simp [q3_0 (by simpa using h)], fun h => by simp [q3_1 (by simpa using h)], fun h => by simp [q3_2 (by simpa using h)], fun h => by simp [q7_4 (by simpa using h)], fun h => by simp [q7_5 (by simpa using h)], fun h => by simp [q7_6 (by simpa using h)], fun h => by simp [q8_3 (by simpa using h)], fun h => by simp [q8_7 (by simpa using h)], fun h => by simp [q9_8 (by simpa using h)]⟩
        · simp only [List.getElem?_toArray, List.getElem?_cons_zero, List.getElem?_cons_succ, Option.some.injEq] at ho
          subst ho
          go_simp
          refine hK.out _ _ ⟨_, _, _, _, _, _, _, _, _, _, rfl, hk, hx, fun h => h0 (by simpa using h), fun h => h1 (by simpa using h), fun h => h2 (by simpa using h), fun h => h3 (by simpa using h), fun h => h4 (by simpa using h), fun _ => rfl, fun h => h6 (by simpa using h), fun h => h7 (by simpa using h), fun h => h8 (by simpa using h), fun h => h9 (by simpa using h), fun h => by simp [q3_0 (by simpa using h)], fun h => by simp [q3_1 (by simpa using h)], fun h => by simp [q3_2 (by simpa using h)], fun h => by simp [q7_4 (by simpa using h)], fun h => by simp [q7_5 (by simpa using h)], fun h => by simp [q7_6 (by simpa using h)], fun h => by simp [q8_3 (by simpa using h)], fun h => by simp [q8_7 (by simpa using h)], fun h => by simp [q9_8 (by simpa using h)]⟩
        · simp only [List.getElem?_toArray, List.getElem?_cons_zero, List.getElem?_cons_succ, Option.some.injEq] at ho
          subst ho
          go_simp
          refine hK.out _ _ ⟨_, _, _, _, _, _, _, _, _, _, rfl, hk, hx, fun h => h0 (by simpa using h), fun h => h1 (by simpa using h), fun h => h2 (by simpa using h), fun h => h3 (by simpa using h), fun h => h4 (by simpa using h), fun h => h5 (by simpa using h), fun _ => rfl, fun h => h7 (by simpa using h), fun h => h8 (by simpa using h), fun h => h9 (by simpa using h), fun h => by simp [q3_0 (by simpa using h)], fun h => by simp [q3_1 (by simpa using h)], fun h => by simp [q3_2 (by simpa using h)], fun h => by simp [q7_4 (by simpa using h)], fun h => by simp [q7_5 (by simpa using h)], fun h => by simp [q7_6 (by simpa using h)], fun h => by simp [q8_3 (by simpa using h)], fun h => by simp [q8_7 (by simpa using h)], fun h => by simp [q9_8 (by simpa using h)]⟩
        · simp only [List.getElem?_toArray, List.getElem?_cons_zero, List.getElem?_cons_succ, Option.some.injEq] at ho
          subst ho
          have e_4 := dep 4 (by kernel_rfl)
          have e_5 := dep 5 (by kernel_rfl)
          have e_6 := dep 6 (by kernel_rfl)
          obtain rfl := h4 e_4
          obtain rfl := h5 e_5
          obtain rfl := h6 e_6
          have HCS := hid (D2.out w' (X2.out.2.trans (hk.mono X2.out.2.size)))
          go_simp
          refine HCS.out.mono ?_
          rintro e W5 ⟨⟨p5, q5, rfl, r5⟩, b5⟩
          refine hK.out _ _ ⟨_, _, _, _, _, _, _, _, _, _, rfl, hk.trans (b5.mono hk.size), (b5.block _ (heap_lt hx)).trans hx, fun h => h0 (by simpa using h), fun h => h1 (by simpa using h), fun h => h2 (by simpa using h), fun h => (by obtain ⟨p9, q9, g1, g2⟩ := (h3 (by simpa using h)); exact ⟨p9, q9, g1, g2.below b5⟩), fun _ => rfl, fun _ => rfl, fun _ => rfl, fun _ => ⟨p5, q5, rfl, r5⟩, fun h => h8 (by simpa using h), fun h => h9 (by simpa using h), fun h => by simp [q3_0 (by simpa using h)], fun h => by simp [q3_1 (by simpa using h)], fun h => by simp [q3_2 (by simpa using h)], fun _ => by simp [e_4], fun _ => by simp [e_5], fun _ => by simp [e_6], fun h => by simp [q8_3 (by simpa using h)], fun h => by simp [q8_7 (by simpa using h)], fun h => by simp [q9_8 (by simpa using h)]⟩
        · simp only [List.getElem?_toArray, List.getElem?_cons_zero, List.getElem?_cons_succ, Option.some.injEq] at ho
          subst ho
          have e_3 := dep 3 (by kernel_rfl)
          have e_7 := dep 7 (by kernel_rfl)
          have e_0 := q3_0 e_3
          have e_1 := q3_1 e_3
          have e_2 := q3_2 e_3
          have e_4 := q7_4 e_7
          have e_5 := q7_5 e_7
          have e_6 := q7_6 e_7
          obtain rfl := h0 e_0
          obtain rfl := h1 e_1
          obtain rfl := h2 e_2
          obtain ⟨p3, q3, rfl, r3⟩ := (h3 e_3)
          obtain rfl := h4 e_4
          obtain rfl := h5 e_5
          obtain rfl := h6 e_6
          obtain ⟨p7, q7, rfl, r7⟩ := (h7 e_7)
          have HCS := hid (D4.out w' p3 q3 p7 q7 r3 r7)
          go_simp
          refine HCS.out.mono ?_
          rintro e W5 ⟨rfl, b5⟩
          refine hK.out _ _ ⟨_, _, _, _, _, _, _, _, _, _, rfl, hk.trans (b5.mono hk.size), (b5.block _ (heap_lt hx)).trans hx, fun _ => rfl, fun _ => rfl, fun _ => rfl, fun _ => ⟨p3, q3, rfl, r3.below b5⟩, fun _ => rfl, fun _ => rfl, fun _ => rfl, fun _ => ⟨p7, q7, rfl, r7.below b5⟩, fun _ => rfl, fun h => h9 (by simpa using h), fun h => by simp [q3_0 (by simpa using h)], fun h => by simp [q3_1 (by simpa using h)], fun h => by simp [q3_2 (by simpa using h)], fun h => by simp [q7_4 (by simpa using h)], fun h => by simp [q7_5 (by simpa using h)], fun h => by simp [q7_6 (by simpa using h)], fun _ => by simp [e_3], fun _ => by simp [e_7], fun h => by simp [q9_8 (by simpa using h)]⟩
        · simp only [List.getElem?_toArray, List.getElem?_cons_zero, List.getElem?_cons_succ, Option.some.injEq] at ho
          subst ho
          have e_8 := dep 8 (by kernel_rfl)
          have e_3 := q8_3 e_8
          have e_7 := q8_7 e_8
          have e_0 := q3_0 e_3
          have e_1 := q3_1 e_3
          have e_2 := q3_2 e_3
          have e_4 := q7_4 e_7
          have e_5 := q7_5 e_7
          have e_6 := q7_6 e_7
          obtain rfl := h0 e_0
          obtain rfl := h1 e_1
          obtain rfl := h2 e_2
          obtain ⟨p3, q3, rfl, r3⟩ := (h3 e_3)
          obtain rfl := h4 e_4
          obtain rfl := h5 e_5
          obtain rfl := h6 e_6
          obtain ⟨p7, q7, rfl, r7⟩ := (h7 e_7)
          obtain rfl := h8 e_8
          go_simp
          refine hK.out _ _ ⟨_, _, _, _, _, _, _, _, _, _, rfl, hk, hx, fun _ => rfl, fun _ => rfl, fun _ => rfl, fun _ => ⟨p3, q3, rfl, r3⟩, fun _ => rfl, fun _ => rfl, fun _ => rfl, fun _ => ⟨p7, q7, rfl, r7⟩, fun _ => rfl, fun _ => rfl, fun h => by simp [q3_0 (by simpa using h)], fun h => by simp [q3_1 (by simpa using h)], fun h => by simp [q3_2 (by simpa using h)], fun h => by simp [q7_4 (by simpa using h)], fun h => by simp [q7_5 (by simpa using h)], fun h => by simp [q7_6 (by simpa using h)], fun h => by simp [q8_3 (by simpa using h)], fun h => by simp [q8_7 (by simpa using h)], fun _ => by simp [e_8]⟩
      case done2 =>
        rintro b a' w' ⟨v17, v18, v19, v20, v21, v22, v23, v24, v25, v6, rfl, hk, hx, h0, h1, h2, h3, h4, h5, h6, h7, h8, h9, q3_0, q3_1, q3_2, q7_4, q7_5, q7_6, q8_3, q8_7, q9_8⟩ hall
        obtain rfl := h9 (hall 9)
        have HR2 := hid hk
        clear h0 h1 h2 h3 h4 h5 h6 h7 h8 h9 hk hx hall
        go_wp2
        go_ret
        exact ⟨rfl, X2.out.2.trans (HR2.out.mono X2.out.2.size)⟩
      case init2 =>
        exact ⟨_, _, _, _, _, _, _, _, _, _, rfl, (Below.refl _ _).drew, X2.out.1, fun h => absurd h (by simp), fun h => absurd h (by simp), fun h => absurd h (by simp), fun h => absurd h (by simp), fun h => absurd h (by simp), fun h => absurd h (by simp), fun h => absurd h (by simp), fun h => absurd h (by simp), fun h => absurd h (by simp), fun h => absurd h (by simp), fun h => absurd h (by simp), fun h => absurd h (by simp), fun h => absurd h (by simp), fun h => absurd h (by simp), fun h => absurd h (by simp), fun h => absurd h (by simp), fun h => absurd h (by simp), fun h => absurd h (by simp), fun h => absurd h (by simp)⟩

set_option maxRecDepth 100000 in
theorem lifted (os : Os) (started : os.Started) (H : Type) (enc : TypeId × Value → H) :
    ReturnsInHanded {} Tryd.checked os 5 .any (fun w args => (Rows.nfaStepMatchesReferenceSpec.pre enc Tryd.prog Tryd.f5 [] false w args ∧ laidMetH Tryd.prog laidT w) ∧ sizedMet enc Tryd.prog Tryd.f5 (OpenSpec.ofChange Rows.nfaStepMatchesReferenceSpec) false w args) (Rows.nfaStepMatchesReferenceSpec.post enc Tryd.prog Tryd.f5 false true false false) := by
  refine Go.Frame.lifted_laid (C := Tryd.checked) (tb := 4) laidT own started (by kernel_rfl) Tryd.func5
    (ChangeSpec.witness_shaped (enc := enc) (C := Tryd.checked) (os := os) (X := fun w _ => laidMetH Tryd.prog laidT w) false (World.doorLaid Tryd.prog 400 os) #[.agg #[.int .i64 0, .int .i64 0, .slice none 0 0, .slice none 0 0], .slice none 0 0, .int .u8 0] 8 rfl (World.shaped_of_RefB (by kernel_rfl) (by kernel_rfl)) (by kernel_rfl) (by kernel_rfl) (by kernel_rfl) (door_met os _))
    laidOut (by kernel_rfl) (by kernel_rfl) Tryd.underlying4 rfl ?_ ?_
  · intro ds h
    have h : ds.length = 3 := h
    match ds, h with
    | [_, _, _], _ => rfl
  · intro W base args ds p hlen hval0 hA hsz0 hlaid
    have hval : ∀ (j : Nat) t v, Tryd.f5.params[j]? = some t → args[j]? = some v → Value.okWide Tryd.prog W .any base t v := hval0
    have hA : DataW.TrodAll enc Tryd.prog W 0 (fun _ => true) true Tryd.f5.params.toList args.toList ds p := hA
    have hsz : (DataW.weightsEach Tryd.prog Tryd.f5.params.toList ds).all (· ≤ reachBytes) = true := hsz0
    have hT := tb_of_laid hlaid
    rw [Tryd.params5] at hA hval hsz
    obtain ⟨v0, vs0, d0, ds0, p0, q0, hargs, hds, _, th0, tr0⟩ := trodAll_cons hA
    obtain ⟨v1, vs1, d1, ds1, p1, q1, rfl, rfl, _, th1, tr1⟩ := trodAll_cons tr0
    obtain ⟨v2, vs2, d2, ds2, p2, q2, rfl, rfl, _, th2, tr2⟩ := trodAll_cons tr1
    obtain ⟨rfl, rfl, _⟩ := trodAll_nil tr2
    obtain rfl : args = #[v0, v1, v2] := by cases args; simp_all
    subst hds
    obtain ⟨Au0, a0x, m0, c0x, a0y, k0, c0y, rfl, hAu0⟩ := open_nfa (hval 0 25 v0 rfl rfl) th0 (fun n hn => of_decide_eq_true (List.all_eq_true.1 hsz _ (DataW.weights_mem_each (j := 0) rfl rfl n hn)))
    obtain ⟨E1, a1, l1, c1, rfl, hE1⟩ := open_ints (hval 1 23 v1 rfl rfl) th1 (fun n hn => of_decide_eq_true (List.all_eq_true.1 hsz _ (DataW.weights_mem_each (j := 1) rfl rfl n hn)))
    obtain ⟨n2, rfl, hn2⟩ := open_u8 (hval 2 5 v2 rfl rfl) th2
    exact walk Au0 a0x m0 c0x a0y k0 c0y E1 a1 l1 c1 n2 W hAu0 hE1 hn2 hT

theorem over : Rows.NfaStepMatchesReferenceSaid :=
  OpenClaim.holds_of_wide 5 Tryd.f5 rfl rfl rfl rfl rfl rfl rfl ⟨rfl, rfl, rfl, rfl, rfl⟩ rfl rfl rfl rfl rfl (by kernel_rfl) Tryd.func5 (by kernel_rfl)
    (of_decide_eq_true (by kernel_rfl)) (by unfold Func.isWrapper; first | (rw [if_pos (by decide +kernel)]; kernel_rfl) | (rw [if_neg (by decide +kernel)]; exact ⟨rfl, rfl⟩))
    (fun os started H enc _ => lifted os started H enc)

/-- THE STATEMENT: the tied card. -/
theorem proved : Rows.NfaStepMatchesReferenceCardSaid :=
  Claim7.holds_tied_plain_at .later [] [.data] true (true, "71511bba388963e0e3fd5284ca385c3324698947e3f3d6d231727d3500f7d1f1") false
    over (fun _ h => by cases h) (by kernel_rfl) (fun _ h => by cases h) nfaStepMatchesReference_row_tie rfl ⟨rfl, rfl⟩ (by kernel_rfl) rfl
    (fun f fn hf hfn => by
      obtain rfl : f = 5 := Option.some.inj ((show Tryd.prog.funcNamed "emendate/emendatelaw09.NfaStepMatchesReference" = some 5 by kernel_rfl).symm.trans hf) |>.symm
      obtain rfl : fn = Tryd.f5 := (Option.some.inj (Tryd.func5.symm.trans hfn)).symm
      exact ⟨by kernel_rfl, fun j t ht => by
        rw [Tryd.params5] at ht
        have hm : t ∈ [25, 23, 5] := by simpa using Array.mem_of_getElem? ht
        have hall : ([25, 23, 5].all fun u => !Tryd.prog.wantsStandIn u) = true := by kernel_rfl
        exact (show Tryd.prog.wantsStandIn t = false by simpa using List.all_eq_true.1 hall t hm)⟩)
    (by kernel_rfl)
#print axioms proved
end Go.Proofs.YtogpnlkjcdedlaaDoor.nfaStepMatchesReference
