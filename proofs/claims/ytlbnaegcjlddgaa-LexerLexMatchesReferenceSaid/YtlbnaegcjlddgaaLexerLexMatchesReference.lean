/-
  LexerLexMatchesReference, for every input: the law returns true and leaves its arguments as they read. No condition.
-/
import Derived.Test.YtlbnaegcjlddgaaO
import Derived.Test.YtlbnaegcjlddgaaJ
import Derived.Test.YtlbnaegcjlddgaaIv
set_option linter.unusedSimpArgs false
set_option linter.unusedVariables false
namespace Go.Proofs.Ytlbnaegcjlddgaa.lexerLexMatchesReference
open Go.ChangeShapes Go.WideShapes Go.ChangeAt Go.RowKit Go.Frame
open Go.ChangeMaps (open_string shut_string)
open Lx
set_option maxRecDepth 100000 in
set_option maxHeartbeats 4000000 in
theorem walk (D : Df) (a1 : Option Addr) (n1 c1 : Nat) (a2 : Option Addr) (n2 c2 : Nat) (a3 : Option Addr) (n3 c3 : Nat) (s : ByteArray) (w : World) (hD : DA w D a1 n1 a2 n2 a3 n3) (hs0 : s.size ≤ 140737488351232) :
    Calls Try.prog 3 #[.agg #[.slice a1 n1 c1, .slice a2 n2 c2, .slice a3 n3 c3], .string s] w fun e w' => e = .returned (.bool true) ∧ Below w.heap.size w w' := by
  have CA := hid (fun V (hV : Below w.heap.size w V) => awake_any V)
  have CL := hid (fun V (hV : Below w.heap.size w V) => light_any V D a1 n1 c1 a2 n2 c2 a3 n3 c3 (hD.below hV) s (by omega))
  have HI := hid hD
  have x0 := hid (alloc_new w (.cells #[.slice a1 n1 c1, .slice a2 n2 c2, .slice a3 n3 c3] 25))
  have B0 := hid (bel1 w (.cells #[.slice a1 n1 c1, .slice a2 n2 c2, .slice a3 n3 c3] 25))
  obtain ⟨y, hy⟩ : ∃ y, y = (decide (n2 ≤ 60) && (decide (s.size ≤ 60) && valid D)) := ⟨_, rfl⟩
  rw [← hy] at CL
  have HY := hid hy
  clear hD hy
  go_enter Try.func3, Try.ntmps3
  go_wp2_with fail
  refine (CA.out _ B0.out).mono ?_
  rintro e W ⟨rfl, b1⟩
  have X := hid (And.intro ((b1.block _ (heap_lt x0.out)).trans x0.out) (B0.out.trans (b1.mono B0.out.size)))
  clear b1 CA
  obtain ⟨d0, d1, d2⟩ := cells3 X.out.1
  go_wp2_with fail
  refine (CL.out _ X.out.2).mono ?_
  rintro e W2 ⟨rfl, b2⟩
  have X2 := hid (And.intro ((b2.block _ (heap_lt X.out.1)).trans X.out.1) (X.out.2.trans (b2.mono X.out.2.size)))
  clear b2 CL d0 d1 d2
  cases y
  · go_wp2
    go_ret
    exact ⟨rfl, X2.out.2⟩
  · have hy2 := HY.out
    simp only [eq_comm (a := true), Bool.and_eq_true, decide_eq_true_eq] at hy2
    obtain ⟨hm, hs60, hval⟩ := hy2
    obtain ⟨n, k, hv⟩ := valid_iff.1 hval
    have hs6 : s.size ≤ 1000000 := by omega
    have HV := hid hv
    have DL := hid (fun V (hV : Below w.heap.size w V) (s' : ByteArray) (h' : s'.size ≤ 1000000) => Lex_any V D n k HV.out a1 n1 c1 a2 n2 c2 a3 n3 c3 (HI.out.below hV) s' h')
    clear hm hval hv
    obtain ⟨d0, d1, d2⟩ := cells3 X2.out.1
    obtain ⟨L, hL⟩ : ∃ L, L = lexT D s := ⟨_, rfl⟩
    have hLn : L.length ≤ 60 := by rw [hL]; exact Nat.le_trans (lexT_len _ _) hs60
    have D1 := hid (fun V (hV : Below w.heap.size w V) => show Calls Try.prog 13 #[.agg #[.slice a1 n1 c1, .slice a2 n2 c2, .slice a3 n3 c3], .string s] V (TRes V L) from hL ▸ DL.out V hV s hs6)
    have D2 := hid (fun V (hV : Below w.heap.size w V) => show Calls Try.prog 14 #[.agg #[.slice a1 n1 c1, .slice a2 n2 c2, .slice a3 n3 c3], .string s] V (TRes V L) from hL ▸ RLex_any V D n k HV.out a1 n1 c1 a2 n2 c2 a3 n3 c3 (HI.out.below hV) s hs6)
    have D4 := hid (fun V p1 d1 p2 d2 (h1 : TRow V p1 L.length L) (h2 : TRow V p2 L.length L) => show Calls Try.prog 12 #[.slice p1 L.length d1, .slice p2 L.length d2] V fun e w' => e = .returned (.bool true) ∧ Below V.heap.size V w' from by
      have h := Same_any V p1 L.length d1 L p2 L.length d2 L h1 h2 (by omega) (by omega)
      rw [decide_eq_true rfl] at h
      exact h)
    clear hL DL
    obtain ⟨lL, hlL⟩ : ∃ lL, lL = L.length := ⟨_, rfl⟩
    have HLL := hid hlL
    unfold TRes at D1 D2
    rw [← hlL] at D1 D2 D4 hLn
    clear hlL d0 d1 d2
    go_wp2_with fail
    refine region_inv (fun b a' w' => ∃ (v11 v12 v13 v14 v15 v16 v17 v4 : Value), a' = { tmps := #[.agg #[.slice a1 n1 c1, .slice a2 n2 c2, .slice a3 n3 c3], .string s, .pointer (some ⟨w.heap.size, 0, none⟩), undef, v4, .bool true, .bool false, .agg #[.slice a1 n1 c1, .slice a2 n2 c2, .slice a3 n3 c3], .string s, .bool true, .bool false, v11, v12, v13, v14, v15, v16, v17], defers := [] } ∧ Below W2.heap.size W2 w' ∧ w'.heap[w.heap.size]? = some (.cells #[.slice a1 n1 c1, .slice a2 n2 c2, .slice a3 n3 c3] 25 (0, 0)) ∧ (b 0 = true → v11 = .agg #[.slice a1 n1 c1, .slice a2 n2 c2, .slice a3 n3 c3]) ∧ (b 1 = true → v12 = .string s) ∧ (b 2 = true → ∃ (p : Option Addr) (q' : Nat), v13 = .slice p lL q' ∧ TRow w' p lL L) ∧ (b 3 = true → v14 = .agg #[.slice a1 n1 c1, .slice a2 n2 c2, .slice a3 n3 c3]) ∧ (b 4 = true → v15 = .string s) ∧ (b 5 = true → ∃ (p : Option Addr) (q' : Nat), v16 = .slice p lL q' ∧ TRow w' p lL L) ∧ (b 6 = true → v17 = .bool true) ∧ (b 7 = true → v4 = .bool true) ∧ (b 2 = true → b 0 = true) ∧ (b 2 = true → b 1 = true) ∧ (b 5 = true → b 3 = true) ∧ (b 5 = true → b 4 = true) ∧ (b 6 = true → b 2 = true) ∧ (b 6 = true → b 5 = true) ∧ (b 7 = true → b 6 = true)) (by kernel_rfl) (back_of (by kernel_rfl)) ?step2 ?done2 ?init2
    case step2 =>
      rintro b a' w' i o ho ⟨v11, v12, v13, v14, v15, v16, v17, v4, rfl, hk, hx, h0, h1, h2, h3, h4, h5, h6, h7, q2_0, q2_1, q5_3, q5_4, q6_2, q6_5, q7_6⟩ hbi hd K hK
      have hlt : i < 8 := by have := (Array.getElem?_eq_some_iff.1 ho).1; simpa using this
      have dep : ∀ k, (o.after.any fun e => Region.binds .any e && e.on == k) = true → b k = true := fun k hk => by
        obtain ⟨e, he, h⟩ := Array.any_eq_true'.1 hk
        simp only [Bool.and_eq_true, beq_iff_eq] at h
        rw [← h.2]; exact hd e he h.1
      clear hd
      have hi : i = 0 ∨ i = 1 ∨ i = 2 ∨ i = 3 ∨ i = 4 ∨ i = 5 ∨ i = 6 ∨ i = 7 := by omega
      clear hlt
      rcases hi with rfl | rfl | rfl | rfl | rfl | rfl | rfl | rfl
      · simp only [List.getElem?_toArray, List.getElem?_cons_zero, List.getElem?_cons_succ, Option.some.injEq] at ho
        subst ho
        obtain ⟨d0, d1, d2⟩ := cells3 hx
        go_simp
        refine hK.out _ _ ⟨_, _, _, _, _, _, _, _, rfl, hk, hx, fun _ => rfl, fun h => h1 (by simpa using h), fun h => h2 (by simpa using h), fun h => h3 (by simpa using h), fun h => h4 (by simpa using h), fun h => h5 (by simpa using h), fun h => h6 (by simpa using h), fun h => h7 (by simpa using h), fun h => by simp [q2_0 (by simpa using h)], fun h => by simp [q2_1 (by simpa using h)], fun h => by simp [q5_3 (by simpa using h)], fun h => by simp [q5_4 (by simpa using h)], fun h => by simp [q6_2 (by simpa using h)], fun h => by simp [q6_5 (by simpa using h)], fun h => by simp [q7_6 (by simpa using h)]⟩
      · simp only [List.getElem?_toArray, List.getElem?_cons_zero, List.getElem?_cons_succ, Option.some.injEq] at ho
        subst ho
        go_simp
        refine hK.out _ _ ⟨_, _, _, _, _, _, _, _, rfl, hk, hx, fun h => h0 (by simpa using h), fun _ => rfl, fun h => h2 (by simpa using h), fun h => h3 (by simpa using h), fun h => h4 (by simpa using h), fun h => h5 (by simpa using h), fun h => h6 (by simpa using h), fun h => h7 (by simpa using h), fun h => by simp [q2_0 (by simpa using h)], fun h => by simp [q2_1 (by simpa using h)], fun h => by simp [q5_3 (by simpa using h)], fun h => by simp [q5_4 (by simpa using h)], fun h => by simp [q6_2 (by simpa using h)], fun h => by simp [q6_5 (by simpa using h)], fun h => by simp [q7_6 (by simpa using h)]⟩
      · simp only [List.getElem?_toArray, List.getElem?_cons_zero, List.getElem?_cons_succ, Option.some.injEq] at ho
        subst ho
        have e_0 := dep 0 (by kernel_rfl)
        have e_1 := dep 1 (by kernel_rfl)
        obtain rfl := h0 e_0
        obtain rfl := h1 e_1
        have HCS := hid (D1.out w' (X2.out.2.trans (hk.mono X2.out.2.size)))
        go_simp
        refine HCS.out.mono ?_
        rintro e W5 ⟨⟨p5, q5, rfl, r5⟩, b5⟩
        refine hK.out _ _ ⟨_, _, _, _, _, _, _, _, rfl, hk.trans (b5.mono hk.size), (b5.block _ (heap_lt hx)).trans hx, fun _ => rfl, fun _ => rfl, fun _ => ⟨p5, q5, rfl, r5⟩, fun h => h3 (by simpa using h), fun h => h4 (by simpa using h), fun h => (by obtain ⟨p9, q9, g1, g2⟩ := (h5 (by simpa using h)); exact ⟨p9, q9, g1, g2.below b5⟩), fun h => h6 (by simpa using h), fun h => h7 (by simpa using h), fun _ => by simp [e_0], fun _ => by simp [e_1], fun h => by simp [q5_3 (by simpa using h)], fun h => by simp [q5_4 (by simpa using h)], fun h => by simp [q6_2 (by simpa using h)], fun h => by simp [q6_5 (by simpa using h)], fun h => by simp [q7_6 (by simpa using h)]⟩
      · simp only [List.getElem?_toArray, List.getElem?_cons_zero, List.getElem?_cons_succ, Option.some.injEq] at ho
        subst ho
        obtain ⟨d0, d1, d2⟩ := cells3 hx
        go_simp
        refine hK.out _ _ ⟨_, _, _, _, _, _, _, _, rfl, hk, hx, fun h => h0 (by simpa using h), fun h => h1 (by simpa using h), fun h => h2 (by simpa using h), fun _ => rfl, fun h => h4 (by simpa using h), fun h => h5 (by simpa using h), fun h => h6 (by simpa using h), fun h => h7 (by simpa using h), fun h => by simp [q2_0 (by simpa using h)], fun h => by simp [q2_1 (by simpa using h)], fun h => by simp [q5_3 (by simpa using h)], fun h => by simp [q5_4 (by simpa using h)], fun h => by simp [q6_2 (by simpa using h)], fun h => by simp [q6_5 (by simpa using h)], fun h => by simp [q7_6 (by simpa using h)]⟩
      · simp only [List.getElem?_toArray, List.getElem?_cons_zero, List.getElem?_cons_succ, Option.some.injEq] at ho
        subst ho
        go_simp
        refine hK.out _ _ ⟨_, _, _, _, _, _, _, _, rfl, hk, hx, fun h => h0 (by simpa using h), fun h => h1 (by simpa using h), fun h => h2 (by simpa using h), fun h => h3 (by simpa using h), fun _ => rfl, fun h => h5 (by simpa using h), fun h => h6 (by simpa using h), fun h => h7 (by simpa using h), fun h => by simp [q2_0 (by simpa using h)], fun h => by simp [q2_1 (by simpa using h)], fun h => by simp [q5_3 (by simpa using h)], fun h => by simp [q5_4 (by simpa using h)], fun h => by simp [q6_2 (by simpa using h)], fun h => by simp [q6_5 (by simpa using h)], fun h => by simp [q7_6 (by simpa using h)]⟩
      · simp only [List.getElem?_toArray, List.getElem?_cons_zero, List.getElem?_cons_succ, Option.some.injEq] at ho
        subst ho
        have e_3 := dep 3 (by kernel_rfl)
        have e_4 := dep 4 (by kernel_rfl)
        obtain rfl := h3 e_3
        obtain rfl := h4 e_4
        have HCS := hid (D2.out w' (X2.out.2.trans (hk.mono X2.out.2.size)))
        go_simp
        refine HCS.out.mono ?_
        rintro e W5 ⟨⟨p5, q5, rfl, r5⟩, b5⟩
        refine hK.out _ _ ⟨_, _, _, _, _, _, _, _, rfl, hk.trans (b5.mono hk.size), (b5.block _ (heap_lt hx)).trans hx, fun h => h0 (by simpa using h), fun h => h1 (by simpa using h), fun h => (by obtain ⟨p9, q9, g1, g2⟩ := (h2 (by simpa using h)); exact ⟨p9, q9, g1, g2.below b5⟩), fun _ => rfl, fun _ => rfl, fun _ => ⟨p5, q5, rfl, r5⟩, fun h => h6 (by simpa using h), fun h => h7 (by simpa using h), fun h => by simp [q2_0 (by simpa using h)], fun h => by simp [q2_1 (by simpa using h)], fun _ => by simp [e_3], fun _ => by simp [e_4], fun h => by simp [q6_2 (by simpa using h)], fun h => by simp [q6_5 (by simpa using h)], fun h => by simp [q7_6 (by simpa using h)]⟩
      · simp only [List.getElem?_toArray, List.getElem?_cons_zero, List.getElem?_cons_succ, Option.some.injEq] at ho
        subst ho
        have e_2 := dep 2 (by kernel_rfl)
        have e_5 := dep 5 (by kernel_rfl)
        have e_0 := q2_0 e_2
        have e_1 := q2_1 e_2
        have e_3 := q5_3 e_5
        have e_4 := q5_4 e_5
        obtain rfl := h0 e_0
        obtain rfl := h1 e_1
        obtain ⟨p2, q2, rfl, r2⟩ := (h2 e_2)
        obtain rfl := h3 e_3
        obtain rfl := h4 e_4
        obtain ⟨p5, q5, rfl, r5⟩ := (h5 e_5)
        have HCS := hid (D4.out w' p2 q2 p5 q5 r2 r5)
        go_simp
        refine HCS.out.mono ?_
        rintro e W5 ⟨rfl, b5⟩
        refine hK.out _ _ ⟨_, _, _, _, _, _, _, _, rfl, hk.trans (b5.mono hk.size), (b5.block _ (heap_lt hx)).trans hx, fun _ => rfl, fun _ => rfl, fun _ => ⟨p2, q2, rfl, r2.below b5⟩, fun _ => rfl, fun _ => rfl, fun _ => ⟨p5, q5, rfl, r5.below b5⟩, fun _ => rfl, fun h => h7 (by simpa using h), fun h => by simp [q2_0 (by simpa using h)], fun h => by simp [q2_1 (by simpa using h)], fun h => by simp [q5_3 (by simpa using h)], fun h => by simp [q5_4 (by simpa using h)], fun _ => by simp [e_2], fun _ => by simp [e_5], fun h => by simp [q7_6 (by simpa using h)]⟩
      · simp only [List.getElem?_toArray, List.getElem?_cons_zero, List.getElem?_cons_succ, Option.some.injEq] at ho
        subst ho
        have e_6 := dep 6 (by kernel_rfl)
        have e_2 := q6_2 e_6
        have e_5 := q6_5 e_6
        have e_0 := q2_0 e_2
        have e_1 := q2_1 e_2
        have e_3 := q5_3 e_5
        have e_4 := q5_4 e_5
        obtain rfl := h0 e_0
        obtain rfl := h1 e_1
        obtain ⟨p2, q2, rfl, r2⟩ := (h2 e_2)
        obtain rfl := h3 e_3
        obtain rfl := h4 e_4
        obtain ⟨p5, q5, rfl, r5⟩ := (h5 e_5)
        obtain rfl := h6 e_6
        go_simp
        refine hK.out _ _ ⟨_, _, _, _, _, _, _, _, rfl, hk, hx, fun _ => rfl, fun _ => rfl, fun _ => ⟨p2, q2, rfl, r2⟩, fun _ => rfl, fun _ => rfl, fun _ => ⟨p5, q5, rfl, r5⟩, fun _ => rfl, fun _ => rfl, fun h => by simp [q2_0 (by simpa using h)], fun h => by simp [q2_1 (by simpa using h)], fun h => by simp [q5_3 (by simpa using h)], fun h => by simp [q5_4 (by simpa using h)], fun h => by simp [q6_2 (by simpa using h)], fun h => by simp [q6_5 (by simpa using h)], fun _ => by simp [e_6]⟩
    case done2 =>
      rintro b a' w' ⟨v11, v12, v13, v14, v15, v16, v17, v4, rfl, hk, hx, h0, h1, h2, h3, h4, h5, h6, h7, q2_0, q2_1, q5_3, q5_4, q6_2, q6_5, q7_6⟩ hall
      obtain rfl := h7 (hall 7)
      have HR2 := hid hk
      clear h0 h1 h2 h3 h4 h5 h6 h7 hk hx hall
      go_wp2
      go_ret
      exact ⟨rfl, X2.out.2.trans (HR2.out.mono X2.out.2.size)⟩
    case init2 =>
      exact ⟨_, _, _, _, _, _, _, _, rfl, (Below.refl _ _).drew, X2.out.1, fun h => absurd h (by simp), fun h => absurd h (by simp), fun h => absurd h (by simp), fun h => absurd h (by simp), fun h => absurd h (by simp), fun h => absurd h (by simp), fun h => absurd h (by simp), fun h => absurd h (by simp), fun h => absurd h (by simp), fun h => absurd h (by simp), fun h => absurd h (by simp), fun h => absurd h (by simp), fun h => absurd h (by simp), fun h => absurd h (by simp), fun h => absurd h (by simp)⟩

theorem lifted (os : Os) (started : os.Started) (H : Type) (enc : TypeId × Value → H) :
    ReturnsInHanded {} Try.checked os 3 .any (Rows.lexerLexMatchesReferenceSpec.pre6 enc Try.prog Try.f3 Rows.lexerLexMatchesReferenceRow.domain false) (Rows.lexerLexMatchesReferenceSpec.post enc Try.prog Try.f3 false true false false) := by
  refine Go.Frame.lifted (C := Try.checked) (tb := 4) own started (by kernel_rfl) Try.func3
    (ChangeSpec.witness6 (enc := enc) (C := Try.checked) false ⟨#[], #[.agg #[.slice none 0 0, .slice none 0 0, .slice none 0 0], .string ByteArray.empty], []⟩ 8 (by kernel_rfl) (by kernel_rfl) (by kernel_rfl) (by kernel_rfl))
    laidOut (by kernel_rfl) (by kernel_rfl) Try.underlying4 rfl ?_ ?_
  · intro ds h
    have h : ds.length = 2 := h
    match ds, h with
    | [_, _], _ => rfl
  · intro W base args ds p hlen hval0 hA hsz0
    have hval : ∀ (j : Nat) t v, Try.f3.params[j]? = some t → args[j]? = some v → Value.okWide Try.prog W .any base t v := hval0
    have hA : DataW.TrodAll enc Try.prog W 0 (fun _ => true) true Try.f3.params.toList args.toList ds p := hA
    have hsz : (DataW.weightsEach Try.prog Try.f3.params.toList ds).all (· ≤ reachBytes) = true := hsz0
    rw [Try.params3] at hA hval hsz
    obtain ⟨v0, vs0, d0, ds0, p0, q0, hargs, hds, _, th0, tr0⟩ := trodAll_cons hA
    obtain ⟨v1, vs1, d1, ds1, p1, q1, rfl, rfl, _, th1, tr1⟩ := trodAll_cons tr0
    obtain ⟨rfl, rfl, _⟩ := trodAll_nil tr1
    obtain rfl : args = #[v0, v1] := by cases args; simp_all
    subst hds
    obtain ⟨Du, a1x, n1x, c1x, a2x, n2x, c2x, a3x, n3x, c3x, rfl, hDu⟩ := open_dfa (hval 0 25 v0 rfl rfl) th0 (fun n hn => of_decide_eq_true (List.all_eq_true.1 hsz _ (DataW.weights_mem_each (j := 0) rfl rfl n hn)))
    obtain ⟨t1, rfl, hd1, _, _⟩ := open_string Try.underlying9 (hval 1 9 v1 rfl rfl) th1
    have hs1 : t1.size ≤ 140737488351232 := of_decide_eq_true (List.all_eq_true.1 hsz _ (DataW.weights_mem_each (j := 1) rfl rfl _ (by rw [hd1]; simp [DataW.weights])))
    exact walk Du a1x n1x c1x a2x n2x c2x a3x n3x c3x t1 W hDu hs1

theorem over : Rows.lexerLexMatchesReferenceRow.holds Try.pinned (OpenSpec.ofChange Rows.lexerLexMatchesReferenceSpec) :=
  OpenClaim.holds_of_wide 3 Try.f3 rfl rfl rfl rfl rfl rfl rfl ⟨rfl, rfl, rfl, rfl, rfl⟩ rfl rfl rfl rfl rfl (by kernel_rfl) Try.func3 (by kernel_rfl)
    (of_decide_eq_true (by kernel_rfl)) (by unfold Func.isWrapper; first | (rw [if_pos (by decide +kernel)]; kernel_rfl) | (rw [if_neg (by decide +kernel)]; exact ⟨rfl, rfl⟩))
    (fun os started H enc _ => lifted os started H enc)

/-- THE STATEMENT -/
theorem proved : Rows.LexerLexMatchesReferenceSaid :=
  over
#print axioms proved
end Go.Proofs.Ytlbnaegcjlddgaa.lexerLexMatchesReference
