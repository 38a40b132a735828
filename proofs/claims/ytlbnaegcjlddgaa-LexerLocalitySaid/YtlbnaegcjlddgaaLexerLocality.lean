/-
  LexerLocality, for every input: the law returns true and leaves its arguments as they read. No condition.
-/
import Derived.Test.YtlbnaegcjlddgaaO
import Derived.Test.YtlbnaegcjlddgaaJ
import Derived.Test.YtlbnaegcjlddgaaN
import Derived.Test.YtlbnaegcjlddgaaIv
set_option linter.unusedSimpArgs false
set_option linter.unusedVariables false
namespace Go.Proofs.Ytlbnaegcjlddgaa.lexerLocality
open Go.ChangeShapes Go.WideShapes Go.ChangeAt Go.RowKit Go.Frame
open Go.ChangeMaps (open_string shut_string)
open Lx
set_option maxRecDepth 100000 in
set_option maxHeartbeats 4000000 in
theorem walk (D : Df) (a1 : Option Addr) (n1 c1 : Nat) (a2 : Option Addr) (n2 c2 : Nat) (a3 : Option Addr) (n3 c3 : Nat) (s : ByteArray) (t : ByteArray) (w : World) (hD : DA w D a1 n1 a2 n2 a3 n3) (hs0 : s.size ≤ 140737488351232) (ht0 : t.size ≤ 140737488351232) :
    Calls Try.prog 6 #[.agg #[.slice a1 n1 c1, .slice a2 n2 c2, .slice a3 n3 c3], .string s, .string t] w fun e w' => e = .returned (.bool true) ∧ Below w.heap.size w w' := by
  have CA := hid (fun V (hV : Below w.heap.size w V) => awake_any V)
  have CL := hid (fun V (hV : Below w.heap.size w V) => light_any V D a1 n1 c1 a2 n2 c2 a3 n3 c3 (hD.below hV) s (by omega))
  have HI := hid hD
  have x0 := hid (alloc_new w (.cells #[.slice a1 n1 c1, .slice a2 n2 c2, .slice a3 n3 c3] 25))
  have B0 := hid (bel1 w (.cells #[.slice a1 n1 c1, .slice a2 n2 c2, .slice a3 n3 c3] 25))
  obtain ⟨y, hy⟩ : ∃ y, y = (decide (n2 ≤ 60) && (decide (s.size ≤ 60) && valid D)) := ⟨_, rfl⟩
  rw [← hy] at CL
  have HY := hid hy
  clear hD hy
  go_enter Try.func6, Try.ntmps6
  go_wp2_with fail
  refine (CA.out _ B0.out).mono ?_
  rintro e W ⟨rfl, b1⟩
  have X := hid (And.intro ((b1.block _ (heap_lt x0.out)).trans x0.out) (B0.out.trans (b1.mono B0.out.size)))
  clear b1 CA
  obtain ⟨d0, d1, d2⟩ := cells3 X.out.1
  go_wp2_with fail
  refine (CL.out _ X.out.2).mono ?_
  rintro e W2 ⟨rfl, b2⟩
  have X2 := hid (And.intro ((b2.block _ (heap_lt X.out.1)).trans X.out.1) (X.out.2.trans (b2.mono X.out.2.size)))
  clear b2 CL d0 d1 d2
  cases y
  · go_wp2
    go_ret
    exact ⟨rfl, X2.out.2⟩
  · have hy2 := HY.out
    simp only [eq_comm (a := true), Bool.and_eq_true, decide_eq_true_eq] at hy2
    obtain ⟨hm, hs60, hval⟩ := hy2
    obtain ⟨n, k, hv⟩ := valid_iff.1 hval
    have hs6 : s.size ≤ 1000000 := by omega
    have HV := hid hv
    have DL := hid (fun V (hV : Below w.heap.size w V) (s' : ByteArray) (h' : s'.size ≤ 1000000) => Lex_any V D n k HV.out a1 n1 c1 a2 n2 c2 a3 n3 c3 (HI.out.below hV) s' h')
    clear hm hval hv
    obtain ⟨d0, d1, d2⟩ := cells3 X2.out.1
    by_cases h30 : (30 : Int) < (t.size : Int)
    · go_wp2
      go_ret
      exact ⟨rfl, X2.out.2⟩
    · have DL2 := hid DL.out
      obtain ⟨L, hL⟩ : ∃ L, L = lexT D s := ⟨_, rfl⟩
      have hLn : L.length ≤ 60 := by rw [hL]; exact Nat.le_trans (lexT_len _ _) hs60
      have D1 := hid (fun V (hV : Below w.heap.size w V) => show Calls Try.prog 13 #[.agg #[.slice a1 n1 c1, .slice a2 n2 c2, .slice a3 n3 c3], .string s] V (TRes V L) from hL ▸ DL.out V hV s hs6)
      have H0 := hid (show (lexAt D s 0).map tq = L.drop 0 from by rw [hL]; rfl)
      have HLX := hid hL
      obtain ⟨lL, hlL⟩ : ∃ lL, lL = L.length := ⟨_, rfl⟩
      have HLL := hid hlL
      unfold TRes at D1
      rw [← hlL] at D1 hLn
      clear hlL hL
      go_wp2_with fail
      refine (D1.out _ X2.out.2).mono ?_
      rintro e V1 ⟨⟨pL, qL, rfl, rL⟩, b3⟩
      have Y := hid (And.intro (X2.out.2.trans (b3.mono X2.out.2.size)) (And.intro ((b3.block _ (heap_lt X2.out.1)).trans X2.out.1) rL))
      clear b3 rL d0 d1 d2

      go_wp2_with fail
      go_loopg [8] lL (fun kk s8 wr => ∃ i : Nat, s8 = .int .i64 (i : Int) ∧ i + kk = lL ∧ Below V1.heap.size V1 wr)
      case atStart => exact ⟨0, rfl, by omega, Below.refl _ _⟩
      case round =>
        obtain ⟨i, rfl, hik, hb⟩ := hrel
        by_cases hlt : i < lL
        · have hlt' : (i : Int) < (lL : Int) := by omega
          have hi0 : (0 : Int) ≤ (i : Int) := by omega
          have hii : IntKind.i64.wrap ((i : Int) + 1) = (i : Int) + 1 := wrapIn (by omega) (by omega)
          obtain ⟨p, hps, hx⟩ := tok_of H0.out (i := i) (by have := HLL.out; omega)
          obtain ⟨z1, z2, z3, z4, z5⟩ := sc_bounds (D := D) hps
          obtain ⟨lb, lo, u, rfl, _, hx', x0, x1, x2, x3⟩ := trow_at (Y.out.2.2.below hb) hlt
          obtain rfl : u = tq (tokAt D s p) := by rw [hx] at hx'; simpa using hx'.symm
          obtain ⟨tx, htx⟩ : ∃ tx, tx = (tokAt D s p).txt := ⟨_, rfl⟩
          obtain ⟨tk, htk⟩ : ∃ tk, tk = (tokAt D s p).kind := ⟨_, rfl⟩
          obtain ⟨lk, hlk⟩ : ∃ lk, lk = (tokAt D s p).look := ⟨_, rfl⟩
          have hlk2 : lk = (sc D s p).2.2 := hlk
          have hpe : (tokAt D s p).pos = p := rfl
          have HTQ := hid (show tx = s.extract p (p + (sc D s p).2.1) ∧ tk = (sc D s p).1 ∧ lk = (sc D s p).2.2 from ⟨htx, htk, hlk⟩)
          simp only [tq, hpe, ← htx, ← htk, ← hlk] at x0 x1 x2 x3
          have g1 : IntKind.i64.wrap ((p : Int) + (lk : Int)) = (p : Int) + (lk : Int) := wrapIn (by omega) (by omega)
          have hp0 : ¬ (p : Int) < 0 := by omega
          have hp0b : decide ((p : Int) < 0) = false := decide_eq_false hp0
          obtain ⟨Z, hZ⟩ : ∃ Z, Z = wr.alloc (.cells #[.int .i64 tk, .int .i64 (p : Int), .string tx, .int .i64 (lk : Int)] 32) := ⟨_, rfl⟩
          have bZ : Below V1.heap.size V1 Z := by rw [hZ]; exact hb.alloc hb.size _
          have zb : Z.heap[wr.heap.size]? = some (.cells #[.int .i64 tk, .int .i64 (p : Int), .string tx, .int .i64 (lk : Int)] 32 (0, 0)) := by rw [hZ]; exact alloc_new _ _
          obtain ⟨e0, e1, e2, e3⟩ := cells4 zb
          obtain ⟨d0, d1, d2⟩ := cells3 ((bZ.block _ (heap_lt Y.out.2.1)).trans Y.out.2.1)
          have HZ := hid (And.intro bZ (And.intro (Y.out.1.trans (bZ.mono Y.out.1.size)) (And.intro ((bZ.block _ (heap_lt Y.out.2.1)).trans Y.out.2.1) zb)))
          clear hx hx' htx htk hlk hpe bZ zb hb
          by_cases hend : p + lk ≤ s.size
          · have hend1 : ¬ (s.size : Int) < (p : Int) + (lk : Int) := by omega
            have hend2 : decide (s.size < p + lk) = false := decide_eq_false (by omega)
            obtain ⟨q1, q2⟩ := tok_tail (t := t) hps (show p + (sc D s p).2.2 ≤ s.size from by omega)
            obtain ⟨ex, hex⟩ : ∃ ex, ex = s.extract p (p + lk) := ⟨_, rfl⟩
            have HEX := hid hex
            obtain ⟨M, hM⟩ : ∃ M, M = lexT D (ex ++ t) := ⟨_, rfl⟩
            have hsl : ex.size = lk := by rw [hex, ByteArray.size_extract]; omega
            have hsz : (ex ++ t).size = lk + t.size := by rw [ByteArray.size_append, hsl]
            have hMn : M.length ≤ 100 := by rw [hM]; exact Nat.le_trans (lexT_len _ _) (by omega)
            have hM0 : M[0]? = some (tk, 0, tx, (lk : Int)) ∧ M.length ≠ 0 := by
              have hcons : M = tq (tokAt D (ex ++ t) 0) :: (lexAt D (ex ++ t) (0 + (sc D (ex ++ t) 0).2.1)).map tq := by
                rw [hM]; unfold lexT; rw [lexAt_cons (by omega)]; rfl
              rw [hex, hlk2] at hcons
              refine ⟨?_, by rw [hcons]; simp⟩
              rw [hcons, List.getElem?_cons_zero]
              unfold tokAt tq
              rw [q1, q2, HTQ.out.1, HTQ.out.2.1, HTQ.out.2.2]
              rfl
            have D2 := hid (fun V (hV : Below w.heap.size w V) => show Calls Try.prog 13 #[.agg #[.slice a1 n1 c1, .slice a2 n2 c2, .slice a3 n3 c3], .string (ex ++ t)] V (TRes V M) from hM ▸ DL2.out V hV _ (by omega))
            obtain ⟨lM, hlM⟩ : ∃ lM, lM = M.length := ⟨_, rfl⟩
            have HM0 := hid hM0
            have HLM := hid hlM
            unfold TRes at D2
            rw [← hlM] at D2 hMn
            have hq1 : (0 : Int) ≤ (p : Int) := by omega
            have hq2 : (p : Int) ≤ (p : Int) + (lk : Int) := by omega
            have hq3 : (p : Int) + (lk : Int) ≤ (s.size : Int) := by omega
            have hns : ¬ 9223372036854775807 < ex.size + t.size := by omega
            clear hM hM0 hlM q1 q2 hsz hlk2 hex hsl
            go_upto_region 10 with fail
            rw [← hZ]
            clear hZ x0 x1 x2 x3
            go_upto_region 12 with fail
            refine region_inv (fun b a' w' => ∃ (v50 v51 v52 v53 v54 v55 v56 v57 v58 v11 : Value), a' = { tmps := #[.agg #[.slice a1 n1 c1, .slice a2 n2 c2, .slice a3 n3 c3], .string s, .string t, .pointer (some ⟨w.heap.size, 0, none⟩), undef, undef, u6, .slice (some ⟨lb, lo, none⟩) lL qL, .int .i64 (i : Int), .pointer (some ⟨wr.heap.size, 0, none⟩), .int .i64 ((p : Int) + (lk : Int)), v11, .bool true, .bool false, .agg #[.slice a1 n1 c1, .slice a2 n2 c2, .slice a3 n3 c3], .string s, .bool true, .bool false, .bool false, .string t, .int .i64 (t.size : Int), .bool (decide ((30 : Int) < (t.size : Int))), .bool (decide ((30 : Int) < (t.size : Int))), .agg #[.slice a1 n1 c1, .slice a2 n2 c2, .slice a3 n3 c3], .string s, .slice (some ⟨lb, lo, none⟩) lL qL, .int .i64 (i : Int), .slice (some ⟨lb, lo, none⟩) lL qL, .int .i64 (lL : Int), .bool true, u30, u31, .slice (some ⟨lb, lo, none⟩) lL qL, .int .i64 (i : Int), .pointer (some ⟨lb, lo + i * 4, none⟩), .agg #[.int .i64 tk, .int .i64 (p : Int), .string tx, .int .i64 (lk : Int)], .pointer (some ⟨wr.heap.size, 1, none⟩), .int .i64 (p : Int), .pointer (some ⟨wr.heap.size, 3, none⟩), .int .i64 (lk : Int), .int .i64 ((p : Int) + (lk : Int)), .pointer (some ⟨wr.heap.size, 1, none⟩), .int .i64 (p : Int), .bool false, .bool false, .int .i64 ((p : Int) + (lk : Int)), .string s, .int .i64 (s.size : Int), .bool false, .bool false, v50, v51, v52, v53, v54, v55, v56, v57, v58, u59, u60, u61, u62, u63, u64, u65, u66, u67, u68, u69, u70, u71, u72, u73, u74, u75, u76, u77, u78, u79, u80, u81, u82, u83, u84, u85, u86, u87, u88, u89, u90, u91, u92, u93, u94, u95], defers := [] } ∧ Below Z.heap.size Z w' ∧ w'.heap[w.heap.size]? = some (.cells #[.slice a1 n1 c1, .slice a2 n2 c2, .slice a3 n3 c3] 25 (0, 0)) ∧ w'.heap[wr.heap.size]? = some (.cells #[.int .i64 tk, .int .i64 (p : Int), .string tx, .int .i64 (lk : Int)] 32 (0, 0)) ∧ (b 0 = true → v50 = .agg #[.slice a1 n1 c1, .slice a2 n2 c2, .slice a3 n3 c3]) ∧ (b 1 = true → v51 = .string s) ∧ (b 2 = true → v52 = .pointer (some ⟨wr.heap.size, 1, none⟩)) ∧ (b 3 = true → v53 = .int .i64 (p : Int)) ∧ (b 4 = true → v54 = .int .i64 ((p : Int) + (lk : Int))) ∧ (b 5 = true → v55 = .string ex) ∧ (b 6 = true → v56 = .string t) ∧ (b 7 = true → v57 = .string (ex ++ t)) ∧ (b 8 = true → ∃ (p : Option Addr) (q' : Nat), v58 = .slice p lM q' ∧ TRow w' p lM M) ∧ (b 9 = true → v11 = v58) ∧ (b 3 = true → b 2 = true) ∧ (b 5 = true → b 1 = true) ∧ (b 5 = true → b 3 = true) ∧ (b 5 = true → b 4 = true) ∧ (b 7 = true → b 5 = true) ∧ (b 7 = true → b 6 = true) ∧ (b 8 = true → b 0 = true) ∧ (b 8 = true → b 7 = true) ∧ (b 9 = true → b 8 = true)) (by kernel_rfl) (back_of (by kernel_rfl)) ?step2 ?done2 ?init2
            case step2 =>
              rintro b a' w' i o ho ⟨v50, v51, v52, v53, v54, v55, v56, v57, v58, v11, rfl, hk, hx, hz, h0, h1, h2, h3, h4, h5, h6, h7, h8, h9, q3_2, q5_1, q5_3, q5_4, q7_5, q7_6, q8_0, q8_7, q9_8⟩ hbi hd K hK
              have hlt : i < 10 := by have := (Array.getElem?_eq_some_iff.1 ho).1; simpa using this
              have dep : ∀ k, (o.after.any fun e => Region.binds .any e && e.on == k) = true → b k = true := fun k hk => by
                obtain ⟨e, he, h⟩ := Array.any_eq_true'.1 hk
                simp only [Bool.and_eq_true, beq_iff_eq] at h
                rw [← h.2]; exact hd e he h.1
              clear hd
              have hi : i = 0 ∨ i = 1 ∨ i = 2 ∨ i = 3 ∨ i = 4 ∨ i = 5 ∨ i = 6 ∨ i = 7 ∨ i = 8 ∨ i = 9 := by omega
              clear hlt
              rcases hi with rfl | rfl | rfl | rfl | rfl | rfl | rfl | rfl | rfl | rfl
              · simp only [List.getElem?_toArray, List.getElem?_cons_zero, List.getElem?_cons_succ, Option.some.injEq] at ho
                subst ho
                obtain ⟨d0, d1, d2⟩ := cells3 hx
                go_simp
                refine hK.out _ _ ⟨_, _, _, _, _, _, _, _, _, _, rfl, hk, hx, hz, fun _ => rfl, fun h => h1 (by simpa using h), fun h => h2 (by simpa using h), fun h => h3 (by simpa using h), fun h => h4 (by simpa using h), fun h => h5 (by simpa using h), fun h => h6 (by simpa using h), fun h => h7 (by simpa using h), fun h => h8 (by simpa using h), fun h => h9 (by simpa using h), fun h => by simp [q3_2 (by simpa using h)], fun h => by simp [q5_1 (by simpa using h)], fun h => by simp [q5_3 (by simpa using h)], fun h => by simp [q5_4 (by simpa using h)], fun h => by simp [q7_5 (by simpa using h)], fun h => by simp [q7_6 (by simpa using h)], fun h => by simp [q8_0 (by simpa using h)], fun h => by simp [q8_7 (by simpa using h)], fun h => by simp [q9_8 (by simpa using h)]⟩
              · simp only [List.getElem?_toArray, List.getElem?_cons_zero, List.getElem?_cons_succ, Option.some.injEq] at ho
                subst ho
                go_simp
                refine hK.out _ _ ⟨_, _, _, _, _, _, _, _, _, _, rfl, hk, hx, hz, fun h => h0 (by simpa using h), fun _ => rfl, fun h => h2 (by simpa using h), fun h => h3 (by simpa using h), fun h => h4 (by simpa using h), fun h => h5 (by simpa using h), fun h => h6 (by simpa using h), fun h => h7 (by simpa using h), fun h => h8 (by simpa using h), fun h => h9 (by simpa using h), fun h => by simp [q3_2 (by simpa using h)], fun h => by simp [q5_1 (by simpa using h)], fun h => by simp [q5_3 (by simpa using h)], fun h => by simp [q5_4 (by simpa using h)], fun h => by simp [q7_5 (by simpa using h)], fun h => by simp [q7_6 (by simpa using h)], fun h => by simp [q8_0 (by simpa using h)], fun h => by simp [q8_7 (by simpa using h)], fun h => by simp [q9_8 (by simpa using h)]⟩
              · simp only [List.getElem?_toArray, List.getElem?_cons_zero, List.getElem?_cons_succ, Option.some.injEq] at ho
                subst ho
                go_simp
                refine hK.out _ _ ⟨_, _, _, _, _, _, _, _, _, _, rfl, hk, hx, hz, fun h => h0 (by simpa using h), fun h => h1 (by simpa using h), fun _ => rfl, fun h => h3 (by simpa using h), fun h => h4 (by simpa using h), fun h => h5 (by simpa using h), fun h => h6 (by simpa using h), fun h => h7 (by simpa using h), fun h => h8 (by simpa using h), fun h => h9 (by simpa using h), fun h => by simp [q3_2 (by simpa using h)], fun h => by simp [q5_1 (by simpa using h)], fun h => by simp [q5_3 (by simpa using h)], fun h => by simp [q5_4 (by simpa using h)], fun h => by simp [q7_5 (by simpa using h)], fun h => by simp [q7_6 (by simpa using h)], fun h => by simp [q8_0 (by simpa using h)], fun h => by simp [q8_7 (by simpa using h)], fun h => by simp [q9_8 (by simpa using h)]⟩
              · simp only [List.getElem?_toArray, List.getElem?_cons_zero, List.getElem?_cons_succ, Option.some.injEq] at ho
                subst ho
                have e_2 := dep 2 (by kernel_rfl)
                obtain rfl := h2 e_2
                obtain ⟨e0, e1, e2, e3⟩ := cells4 hz
                go_simp
                refine hK.out _ _ ⟨_, _, _, _, _, _, _, _, _, _, rfl, hk, hx, hz, fun h => h0 (by simpa using h), fun h => h1 (by simpa using h), fun _ => rfl, fun _ => rfl, fun h => h4 (by simpa using h), fun h => h5 (by simpa using h), fun h => h6 (by simpa using h), fun h => h7 (by simpa using h), fun h => h8 (by simpa using h), fun h => h9 (by simpa using h), fun _ => by simp [e_2], fun h => by simp [q5_1 (by simpa using h)], fun h => by simp [q5_3 (by simpa using h)], fun h => by simp [q5_4 (by simpa using h)], fun h => by simp [q7_5 (by simpa using h)], fun h => by simp [q7_6 (by simpa using h)], fun h => by simp [q8_0 (by simpa using h)], fun h => by simp [q8_7 (by simpa using h)], fun h => by simp [q9_8 (by simpa using h)]⟩
              · simp only [List.getElem?_toArray, List.getElem?_cons_zero, List.getElem?_cons_succ, Option.some.injEq] at ho
                subst ho
                go_simp
                refine hK.out _ _ ⟨_, _, _, _, _, _, _, _, _, _, rfl, hk, hx, hz, fun h => h0 (by simpa using h), fun h => h1 (by simpa using h), fun h => h2 (by simpa using h), fun h => h3 (by simpa using h), fun _ => rfl, fun h => h5 (by simpa using h), fun h => h6 (by simpa using h), fun h => h7 (by simpa using h), fun h => h8 (by simpa using h), fun h => h9 (by simpa using h), fun h => by simp [q3_2 (by simpa using h)], fun h => by simp [q5_1 (by simpa using h)], fun h => by simp [q5_3 (by simpa using h)], fun h => by simp [q5_4 (by simpa using h)], fun h => by simp [q7_5 (by simpa using h)], fun h => by simp [q7_6 (by simpa using h)], fun h => by simp [q8_0 (by simpa using h)], fun h => by simp [q8_7 (by simpa using h)], fun h => by simp [q9_8 (by simpa using h)]⟩
              · simp only [List.getElem?_toArray, List.getElem?_cons_zero, List.getElem?_cons_succ, Option.some.injEq] at ho
                subst ho
                have e_1 := dep 1 (by kernel_rfl)
                have e_3 := dep 3 (by kernel_rfl)
                have e_4 := dep 4 (by kernel_rfl)
                have e_2 := q3_2 e_3
                obtain rfl := h1 e_1
                obtain rfl := h2 e_2
                obtain rfl := h3 e_3
                obtain rfl := h4 e_4
                have HEX2 := HEX.out
                go_simp
                refine hK.out _ _ ⟨_, _, _, _, _, _, _, _, _, _, rfl, hk, hx, hz, fun h => h0 (by simpa using h), fun _ => rfl, fun _ => rfl, fun _ => rfl, fun _ => rfl, fun _ => by first | (rw [HEX2]; rfl) | (simp [HEX2]; done), fun h => h6 (by simpa using h), fun h => h7 (by simpa using h), fun h => h8 (by simpa using h), fun h => h9 (by simpa using h), fun h => by simp [q3_2 (by simpa using h)], fun _ => by simp [e_1], fun _ => by simp [e_3], fun _ => by simp [e_4], fun h => by simp [q7_5 (by simpa using h)], fun h => by simp [q7_6 (by simpa using h)], fun h => by simp [q8_0 (by simpa using h)], fun h => by simp [q8_7 (by simpa using h)], fun h => by simp [q9_8 (by simpa using h)]⟩
              · simp only [List.getElem?_toArray, List.getElem?_cons_zero, List.getElem?_cons_succ, Option.some.injEq] at ho
                subst ho
                go_simp
                refine hK.out _ _ ⟨_, _, _, _, _, _, _, _, _, _, rfl, hk, hx, hz, fun h => h0 (by simpa using h), fun h => h1 (by simpa using h), fun h => h2 (by simpa using h), fun h => h3 (by simpa using h), fun h => h4 (by simpa using h), fun h => h5 (by simpa using h), fun _ => rfl, fun h => h7 (by simpa using h), fun h => h8 (by simpa using h), fun h => h9 (by simpa using h), fun h => by simp [q3_2 (by simpa using h)], fun h => by simp [q5_1 (by simpa using h)], fun h => by simp [q5_3 (by simpa using h)], fun h => by simp [q5_4 (by simpa using h)], fun h => by simp [q7_5 (by simpa using h)], fun h => by simp [q7_6 (by simpa using h)], fun h => by simp [q8_0 (by simpa using h)], fun h => by simp [q8_7 (by simpa using h)], fun h => by simp [q9_8 (by simpa using h)]⟩
              · simp only [List.getElem?_toArray, List.getElem?_cons_zero, List.getElem?_cons_succ, Option.some.injEq] at ho
                subst ho
                have e_5 := dep 5 (by kernel_rfl)
                have e_6 := dep 6 (by kernel_rfl)
                have e_1 := q5_1 e_5
                have e_3 := q5_3 e_5
                have e_4 := q5_4 e_5
                have e_2 := q3_2 e_3
                obtain rfl := h1 e_1
                obtain rfl := h2 e_2
                obtain rfl := h3 e_3
                obtain rfl := h4 e_4
                obtain rfl := h5 e_5
                obtain rfl := h6 e_6
                go_simp
                refine hK.out _ _ ⟨_, _, _, _, _, _, _, _, _, _, rfl, hk, hx, hz, fun h => h0 (by simpa using h), fun _ => rfl, fun _ => rfl, fun _ => rfl, fun _ => rfl, fun _ => rfl, fun _ => rfl, fun _ => rfl, fun h => h8 (by simpa using h), fun h => h9 (by simpa using h), fun h => by simp [q3_2 (by simpa using h)], fun h => by simp [q5_1 (by simpa using h)], fun h => by simp [q5_3 (by simpa using h)], fun h => by simp [q5_4 (by simpa using h)], fun _ => by simp [e_5], fun _ => by simp [e_6], fun h => by simp [q8_0 (by simpa using h)], fun h => by simp [q8_7 (by simpa using h)], fun h => by simp [q9_8 (by simpa using h)]⟩
              · simp only [List.getElem?_toArray, List.getElem?_cons_zero, List.getElem?_cons_succ, Option.some.injEq] at ho
                subst ho
                have e_0 := dep 0 (by kernel_rfl)
                have e_7 := dep 7 (by kernel_rfl)
                have e_5 := q7_5 e_7
                have e_6 := q7_6 e_7
                have e_1 := q5_1 e_5
                have e_3 := q5_3 e_5
                have e_4 := q5_4 e_5
                have e_2 := q3_2 e_3
                obtain rfl := h0 e_0
                obtain rfl := h1 e_1
                obtain rfl := h2 e_2
                obtain rfl := h3 e_3
                obtain rfl := h4 e_4
                obtain rfl := h5 e_5
                obtain rfl := h6 e_6
                obtain rfl := h7 e_7
                have HCS := hid (D2.out w' (HZ.out.2.1.trans (hk.mono HZ.out.2.1.size)))
                have n9 : b 9 = false := by
                  cases hb : b 9
                  · rfl
                  · have := q9_8 hb; rw [hbi] at this; cases this
                go_simp
                refine HCS.out.mono ?_
                rintro e W5 ⟨⟨p5, q5, rfl, r5⟩, b5⟩
                refine hK.out _ _ ⟨_, _, _, _, _, _, _, _, _, _, rfl, hk.trans (b5.mono hk.size), (b5.block _ (heap_lt hx)).trans hx, (b5.block _ (heap_lt hz)).trans hz, fun _ => rfl, fun _ => rfl, fun _ => rfl, fun _ => rfl, fun _ => rfl, fun _ => rfl, fun _ => rfl, fun _ => rfl, fun _ => ⟨p5, q5, rfl, r5⟩, fun h => absurd h (by simp [n9]), fun h => by simp [q3_2 (by simpa using h)], fun h => by simp [q5_1 (by simpa using h)], fun h => by simp [q5_3 (by simpa using h)], fun h => by simp [q5_4 (by simpa using h)], fun h => by simp [q7_5 (by simpa using h)], fun h => by simp [q7_6 (by simpa using h)], fun _ => by simp [e_0], fun _ => by simp [e_7], fun h => by simp [q9_8 (by simpa using h)]⟩
              · simp only [List.getElem?_toArray, List.getElem?_cons_zero, List.getElem?_cons_succ, Option.some.injEq] at ho
                subst ho
                have e_8 := dep 8 (by kernel_rfl)
                have e_0 := q8_0 e_8
                have e_7 := q8_7 e_8
                have e_5 := q7_5 e_7
                have e_6 := q7_6 e_7
                have e_1 := q5_1 e_5
                have e_3 := q5_3 e_5
                have e_4 := q5_4 e_5
                have e_2 := q3_2 e_3
                obtain rfl := h0 e_0
                obtain rfl := h1 e_1
                obtain rfl := h2 e_2
                obtain rfl := h3 e_3
                obtain rfl := h4 e_4
                obtain rfl := h5 e_5
                obtain rfl := h6 e_6
                obtain rfl := h7 e_7
                obtain ⟨p8, q8, rfl, r8⟩ := (h8 e_8)
                go_simp
                refine hK.out _ _ ⟨_, _, _, _, _, _, _, _, _, _, rfl, hk, hx, hz, fun _ => rfl, fun _ => rfl, fun _ => rfl, fun _ => rfl, fun _ => rfl, fun _ => rfl, fun _ => rfl, fun _ => rfl, fun _ => ⟨p8, q8, rfl, r8⟩, fun _ => rfl, fun h => by simp [q3_2 (by simpa using h)], fun h => by simp [q5_1 (by simpa using h)], fun h => by simp [q5_3 (by simpa using h)], fun h => by simp [q5_4 (by simpa using h)], fun h => by simp [q7_5 (by simpa using h)], fun h => by simp [q7_6 (by simpa using h)], fun h => by simp [q8_0 (by simpa using h)], fun h => by simp [q8_7 (by simpa using h)], fun _ => by simp [e_8]⟩
            case done2 =>
              rintro b a' w' ⟨v50, v51, v52, v53, v54, v55, v56, v57, v58, v11, rfl, hk, hx, hz, h0, h1, h2, h3, h4, h5, h6, h7, h8, h9, q3_2, q5_1, q5_3, q5_4, q7_5, q7_6, q8_0, q8_7, q9_8⟩ hall
              obtain rfl := h0 (hall 0)
              obtain rfl := h1 (hall 1)
              obtain rfl := h2 (hall 2)
              obtain rfl := h3 (hall 3)
              obtain rfl := h4 (hall 4)
              obtain rfl := h5 (hall 5)
              obtain rfl := h6 (hall 6)
              obtain rfl := h7 (hall 7)
              obtain ⟨p8, q8, e58, r8⟩ := h8 (hall 8)
              obtain rfl := h9 (hall 9)
              subst e58
              have HR := hid hk
              obtain ⟨bm, om, ⟨yk, ya, ys, yl⟩, rfl, _, hy, y0, y1, y2, y3⟩ := trow_at r8 (i := 0) (by have := HM0.out.2; have := HLM.out; omega)
              have hy2 := HM0.out.1
              rw [hy] at hy2
              simp only [Option.some.injEq, Prod.mk.injEq] at hy2
              obtain ⟨rfl, rfl, rfl, rfl⟩ := hy2
              simp only [Nat.zero_mul, Nat.add_zero] at y0 y1 y2 y3
              obtain ⟨e0, e1, e2, e3⟩ := cells4 hz
              have hl1 : ((lM : Int) == 0) = false := by rw [beq_eq_false_iff_ne]; have := HM0.out.2; have := HLM.out; omega
              have hl2 : ¬ (lM : Int) = 0 := by have := HM0.out.2; have := HLM.out; omega
              have hl3 : (0 : Int) < (lM : Int) := by omega
              clear h0 h1 h2 h3 h4 h5 h6 h7 h8 h9 hk hx hz r8 hall hy d0 d1 d2
              obtain ⟨w3, hw3⟩ : ∃ w3, w3 = w' := ⟨_, rfl⟩
              rw [← hw3] at HR e0 e1 e2 e3 y0 y1 y2 y3 ⊢
              clear hw3
              go_wp2_with fail
              go_quiet (fail)
              go_wp2
              go_roundg (gk - 1)
              case measure => omega
              case rel => exact ⟨i + 1, by go_num, by omega, below_drewN (HZ.out.1.trans (HR.out.mono HZ.out.1.size)) _⟩
            case init2 =>
              exact ⟨_, _, _, _, _, _, _, _, _, _, rfl, (Below.refl _ _).drew, HZ.out.2.2.1, HZ.out.2.2.2, fun h => absurd h (by simp), fun h => absurd h (by simp), fun h => absurd h (by simp), fun h => absurd h (by simp), fun h => absurd h (by simp), fun h => absurd h (by simp), fun h => absurd h (by simp), fun h => absurd h (by simp), fun h => absurd h (by simp), fun h => absurd h (by simp), fun h => absurd h (by simp), fun h => absurd h (by simp), fun h => absurd h (by simp), fun h => absurd h (by simp), fun h => absurd h (by simp), fun h => absurd h (by simp), fun h => absurd h (by simp), fun h => absurd h (by simp), fun h => absurd h (by simp)⟩
          · clear hlk2
            have hend1 : (s.size : Int) < (p : Int) + (lk : Int) := by omega
            have hend2 : decide (s.size < p + lk) = true := decide_eq_true (by omega)
            go_upto_region 10 with fail
            rw [← hZ]
            clear hZ x0 x1 x2 x3
            go_wp2
            go_roundg (gk - 1)
            case measure => omega
            case rel => exact ⟨i + 1, by go_num, by omega, HZ.out.1⟩
        · have hlt' : ¬ (i : Int) < (lL : Int) := by omega
          go_wp2
          go_ret
          exact ⟨rfl, Y.out.1.trans (hb.mono Y.out.1.size)⟩

theorem lifted (os : Os) (started : os.Started) (H : Type) (enc : TypeId × Value → H) :
    ReturnsInHanded {} Try.checked os 6 .any (Rows.lexerLocalitySpec.pre6 enc Try.prog Try.f6 Rows.lexerLocalityRow.domain false) (Rows.lexerLocalitySpec.post enc Try.prog Try.f6 false true false false) := by
  refine Go.Frame.lifted (C := Try.checked) (tb := 4) own started (by kernel_rfl) Try.func6
    (ChangeSpec.witness6 (enc := enc) (C := Try.checked) false ⟨#[], #[.agg #[.slice none 0 0, .slice none 0 0, .slice none 0 0], .string ByteArray.empty, .string ByteArray.empty], []⟩ 8 (by kernel_rfl) (by kernel_rfl) (by kernel_rfl) (by kernel_rfl))
    laidOut (by kernel_rfl) (by kernel_rfl) Try.underlying4 rfl ?_ ?_
  · intro ds h
    have h : ds.length = 3 := h
    match ds, h with
    | [_, _, _], _ => rfl
  · intro W base args ds p hlen hval0 hA hsz0
    have hval : ∀ (j : Nat) t v, Try.f6.params[j]? = some t → args[j]? = some v → Value.okWide Try.prog W .any base t v := hval0
    have hA : DataW.TrodAll enc Try.prog W 0 (fun _ => true) true Try.f6.params.toList args.toList ds p := hA
    have hsz : (DataW.weightsEach Try.prog Try.f6.params.toList ds).all (· ≤ reachBytes) = true := hsz0
    rw [Try.params6] at hA hval hsz
    obtain ⟨v0, vs0, d0, ds0, p0, q0, hargs, hds, _, th0, tr0⟩ := trodAll_cons hA
    obtain ⟨v1, vs1, d1, ds1, p1, q1, rfl, rfl, _, th1, tr1⟩ := trodAll_cons tr0
    obtain ⟨v2, vs2, d2, ds2, p2, q2, rfl, rfl, _, th2, tr2⟩ := trodAll_cons tr1
    obtain ⟨rfl, rfl, _⟩ := trodAll_nil tr2
    obtain rfl : args = #[v0, v1, v2] := by cases args; simp_all
    subst hds
    obtain ⟨Du, a1x, n1x, c1x, a2x, n2x, c2x, a3x, n3x, c3x, rfl, hDu⟩ := open_dfa (hval 0 25 v0 rfl rfl) th0 (fun n hn => of_decide_eq_true (List.all_eq_true.1 hsz _ (DataW.weights_mem_each (j := 0) rfl rfl n hn)))
    obtain ⟨t1, rfl, hd1, _, _⟩ := open_string Try.underlying9 (hval 1 9 v1 rfl rfl) th1
    have hs1 : t1.size ≤ 140737488351232 := of_decide_eq_true (List.all_eq_true.1 hsz _ (DataW.weights_mem_each (j := 1) rfl rfl _ (by rw [hd1]; simp [DataW.weights])))
    obtain ⟨t2, rfl, hd2, _, _⟩ := open_string Try.underlying9 (hval 2 9 v2 rfl rfl) th2
    have hs2 : t2.size ≤ 140737488351232 := of_decide_eq_true (List.all_eq_true.1 hsz _ (DataW.weights_mem_each (j := 2) rfl rfl _ (by rw [hd2]; simp [DataW.weights])))
    exact walk Du a1x n1x c1x a2x n2x c2x a3x n3x c3x t1 t2 W hDu hs1 hs2

theorem over : Rows.lexerLocalityRow.holds Try.pinned (OpenSpec.ofChange Rows.lexerLocalitySpec) :=
  OpenClaim.holds_of_wide 6 Try.f6 rfl rfl rfl rfl rfl rfl rfl ⟨rfl, rfl, rfl, rfl, rfl⟩ rfl rfl rfl rfl rfl (by kernel_rfl) Try.func6 (by kernel_rfl)
    (of_decide_eq_true (by kernel_rfl)) (by unfold Func.isWrapper; first | (rw [if_pos (by decide +kernel)]; kernel_rfl) | (rw [if_neg (by decide +kernel)]; exact ⟨rfl, rfl⟩))
    (fun os started H enc _ => lifted os started H enc)

/-- THE STATEMENT -/
theorem proved : Rows.LexerLocalitySaid :=
  over
#print axioms proved
end Go.Proofs.Ytlbnaegcjlddgaa.lexerLocality
