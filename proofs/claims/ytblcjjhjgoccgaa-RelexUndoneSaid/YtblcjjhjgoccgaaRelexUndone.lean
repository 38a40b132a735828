/-
  RelexUndone, for every input: the law returns true and leaves its arguments as they read. No condition.
-/
import Derived.Test.YtblcjjhjgoccgaaXp
import Derived.Test.YtblcjjhjgoccgaaXo
set_option linter.unusedSimpArgs false
set_option linter.unusedVariables false
namespace Go.Proofs.Ytblcjjhjgoccgaa.relexUndone
open Go.ChangeShapes Go.WideShapes Go.ChangeAt Go.RowKit Go.Frame
open Go.ChangeMaps (open_string shut_string)
open Lx
attribute [local go_sem] eq_chg eq_tok
set_option maxRecDepth 100000 in
set_option maxHeartbeats 4000000 in
theorem walk (D : Df) (a1 : Option Addr) (n1 c1 : Nat) (a2 : Option Addr) (n2 c2 : Nat) (a3 : Option Addr) (n3 c3 : Nat) (s : ByteArray) (ed : Te.Ed) (w : World) (hD : DA w D a1 n1 a2 n2 a3 n3) (hs0 : s.size ≤ 140737488351232) (hIn : In ed) :
    Calls Try.prog 8 #[.agg #[.slice a1 n1 c1, .slice a2 n2 c2, .slice a3 n3 c3, .string s, .int .i64 ed.1, .int .i64 ed.2.1, .string ed.2.2]] w fun e w' => e = .returned (.bool true) ∧ Below w.heap.size w w' := by
  obtain ⟨at_, del, ins⟩ := ed
  obtain ⟨hi1, hi2, hi3, hi4, hi5⟩ := hIn
  simp only at hi1 hi2 hi3 hi4 hi5 ⊢
  have CM := hid (fun V (hV : Below w.heap.size w V) => may_any V D a1 n1 c1 a2 n2 c2 a3 n3 c3 (hD.below hV) s ins at_ del)
  have CA := hid (fun V => awake_any V)
  have HI := hid hD
  have x0 := hid (alloc_new w (.cells #[.slice a1 n1 c1, .slice a2 n2 c2, .slice a3 n3 c3, .string s, .int .i64 at_, .int .i64 del, .string ins] 29))
  have B0 := hid (bel1 w (.cells #[.slice a1 n1 c1, .slice a2 n2 c2, .slice a3 n3 c3, .string s, .int .i64 at_, .int .i64 del, .string ins] 29))
  obtain ⟨y, hy⟩ : ∃ y, y = mayB D s ins := ⟨_, rfl⟩
  rw [← hy] at CM
  have HY := hid hy
  clear hD hy
  go_enter Try.func8, Try.ntmps8
  go_wp2_with fail
  refine (CM.out _ B0.out).mono ?_
  rintro e W ⟨rfl, b1⟩
  have X := hid (And.intro ((b1.block _ (heap_lt x0.out)).trans x0.out) (B0.out.trans (b1.mono B0.out.size)))
  clear b1 CM
  cases y
  · go_wp2_with fail
    refine (CA.out _).mono ?_
    rintro e W2 ⟨rfl, b2⟩
    have X2 := hid (X.out.2.trans (b2.mono X.out.2.size))
    clear b2
    go_wp2
    go_ret
    exact ⟨rfl, X2.out⟩
  · have hy2 := HY.out.symm
    unfold mayB at hy2
    simp only [Bool.and_eq_true, decide_eq_true_eq] at hy2
    obtain ⟨hm, hs1, hin1⟩ := hy2
    obtain ⟨n, k, hv⟩ := sm_vd hm
    have HV := hid hv
    have CL := hid (fun V (hV : Below w.heap.size w V) (s' : ByteArray) (h' : s'.size ≤ 1000000) => RLex_any V D n k HV.out a1 n1 c1 a2 n2 c2 a3 n3 c3 (HI.out.below hV) s' h')
    clear hm hv
    obtain ⟨d0, d1, d2, d3, d4, d5, d6⟩ := cells7 X.out.1
    by_cases hfit : Te.Fit s.size (at_, del, ins)
    rotate_left
    · have CF := hid (fits_no at_ del (s.size : Int) ins W (by omega) (by omega) (by omega) hfit)
      go_wp2_with fail
      refine CF.out.mono ?_
      rintro e W2 ⟨rfl, b2⟩
      have X2 := hid (X.out.2.trans (b2.mono X.out.2.size))
      clear b2
      go_wp2_with fail
      refine (CA.out _).mono ?_
      rintro e W3 ⟨rfl, b9⟩
      have X9 := hid (X2.out.trans (b9.mono X2.out.size))
      clear b9
      go_wp2
      go_ret
      exact ⟨rfl, X9.out⟩
    have CF := hid (fits_yes at_ del (s.size : Int) ins W (by omega) (by omega) (by omega) hfit)
    obtain ⟨x, yv, t', he, hl⟩ := hfit.nat
    simp only [Prod.mk.injEq] at he
    obtain ⟨rfl, rfl, rfl⟩ := he
    clear hfit hi1 hi2 hi3 hi4 hi5
    go_wp2_with fail
    refine CF.out.mono ?_
    rintro e W2 ⟨rfl, b2⟩
    have X := hid (And.intro ((b2.block _ (heap_lt X.out.1)).trans X.out.1) (X.out.2.trans (b2.mono X.out.2.size)))
    clear b2 CF d0 d1 d2 d3 d4 d5 d6
    obtain ⟨d0, d1, d2, d3, d4, d5, d6⟩ := cells7 X.out.1
    obtain ⟨L, hL⟩ : ∃ L, L = lexT D s := ⟨_, rfl⟩
    obtain ⟨lL, hlL⟩ : ∃ lL, lL = L.length := ⟨_, rfl⟩
    have hlb : lL ≤ 100 := by rw [hlL, hL]; exact Nat.le_trans (lexT_len _ _) hs1
    have HL := hid (And.intro hL hlL)
    have C1 := hid (show Calls Try.prog 11 #[.agg #[.slice a1 n1 c1, .slice a2 n2 c2, .slice a3 n3 c3], .string s] W2 fun e w' => (∃ p c, e = .returned (.slice p lL c) ∧ TRow w' p lL L ∧ lL ≤ c) ∧ Below W2.heap.size W2 w' from by
      have := CL.out W2 X.out.2 s (by omega)
      unfold TRes at this
      rw [← hL, ← hlL] at this
      exact this)
    clear hL hlL
    go_wp2_with fail
    refine C1.out.mono ?_
    rintro e W3 ⟨⟨p, c, rfl, hr, hpc⟩, b2⟩
    have X := hid (And.intro ((b2.block _ (heap_lt X.out.1)).trans X.out.1) (X.out.2.trans (b2.mono X.out.2.size)))
    have R := hid hr
    clear hr b2 C1 d0 d1 d2 d3 d4 d5 d6
    obtain ⟨d0, d1, d2, d3, d4, d5, d6⟩ := cells7 X.out.1
    obtain ⟨m, hm⟩ : ∃ m, m = uM D s x := ⟨_, rfl⟩
    obtain ⟨ko, hko⟩ : ∃ ko, ko = (uR D s x yv ins).2 := ⟨_, rfl⟩
    obtain ⟨N, hN⟩ : ∃ N, N = (uR D s x yv ins).1 := ⟨_, rfl⟩
    obtain ⟨t, ht⟩ : ∃ t, t = nt s x yv ins := ⟨_, rfl⟩
    obtain ⟨M, hM⟩ : ∃ M, M = lexT D t := ⟨_, rfl⟩
    obtain ⟨lM, hlM⟩ : ∃ lM, lM = M.length := ⟨_, rfl⟩
    have hts : t.size ≤ 130 := by rw [ht]; have := nt_size (ins := ins) hl; omega
    have hlMb : lM ≤ 130 := by rw [hlM, hM]; exact Nat.le_trans (lexT_len _ _) hts
    have hu := uR_two (D := D) (ins := ins) hl
    have hmk : m ≤ ko := by rw [hm, hko]; exact hu.1
    have hkl : ko ≤ lL := by rw [hko, HL.out.2, HL.out.1]; exact hu.2
    have HN := hid (And.intro hm (And.intro hko (And.intro hN (And.intro ht (And.intro hM hlM)))))
    have hNb : N ≤ 130 := by
      have h1 := uR_len (D := D) (ins := ins) hl
      rw [← hN, List.length_take, List.length_map] at h1
      have h2 := lexAt_len D (nt s x yv ins) (nt s x yv ins).size (uP D s x) (by omega)
      rw [← ht] at h1 h2
      omega
    have HF := hid hl
    clear hu
    clear hm hko hN ht hM hlM hl
    have CU := hid (show Calls Try.prog 12 #[.agg #[.slice a1 n1 c1, .slice a2 n2 c2, .slice a3 n3 c3], .slice p lL c, .agg #[.int .i64 (x : Int), .int .i64 (yv : Int), .string ins]] W3 fun e w' => (∃ pl cl, e = .returned (.tuple #[.slice pl lM cl, .agg #[.int .i64 (m : Int), .int .i64 ((ko : Int) - (m : Int)), .int .i64 (N : Int)], .int .i64 0]) ∧ TRow w' pl lM M ∧ lM ≤ cl) ∧ Below W3.heap.size W3 w' from by
      have := Update_yes W3 D n k HV.out a1 n1 c1 a2 n2 c2 a3 n3 c3 (HI.out.below X.out.2) s (by omega) p lL c (by rw [← HL.out.1]; exact R.out) hpc x yv ins (by omega) HF.out
      obtain ⟨e1, e2, e3, e4, e5, e6⟩ := HN.out
      unfold URes at this
      rw [← e1, ← e2, ← e3, ← e4, ← e5, ← e6] at this
      exact this)
    go_wp2_with fail
    refine CU.out.mono ?_
    rintro e W4 ⟨⟨pl, cl, rfl, hl2, hcl⟩, b2⟩
    obtain ⟨V, hV⟩ : ∃ V, V = W4.alloc (.cells #[.int .i64 (m : Int), .int .i64 ((ko : Int) - (m : Int)), .int .i64 (N : Int)] 35) := ⟨_, rfl⟩
    have v1 := alloc_new W4 (.cells #[.int .i64 (m : Int), .int .i64 ((ko : Int) - (m : Int)), .int .i64 (N : Int)] 35)
    have bV := bel1 W4 (.cells #[.int .i64 (m : Int), .int .i64 ((ko : Int) - (m : Int)), .int .i64 (N : Int)] 35)
    rw [← hV] at v1 bV
    obtain ⟨B1, hC⟩ : ∃ B1, B1 = W4.heap.size := ⟨_, rfl⟩
    rw [← hC] at v1
    have b3 := b2.trans (bV.mono b2.size)
    have X := hid (And.intro ((b3.block _ (heap_lt X.out.1)).trans X.out.1) (X.out.2.trans (b3.mono X.out.2.size)))
    have R := hid (R.out.below b3)
    have RL := hid (hl2.below bV)
    have XB := hid v1
    have HCL := hid hcl
    clear hl2 b2 b3 bV v1 CU d0 d1 d2 d3 d4 d5 d6 hcl
    obtain ⟨d0, d1, d2, d3, d4, d5, d6⟩ := cells7 X.out.1
    obtain ⟨f0, f1, f2⟩ := cells3 XB.out
    go_upto_region 5 with fail
    rw [← hV, ← hC]
    clear hV hC
    have CT := hid (fun V9 (hV : Below V.heap.size V V9) => show Calls Try.prog 18 #[.slice pl lM cl] V9 fun e w' => e = .returned (.string t) ∧ Below V9.heap.size V9 w' from by
      have := RText_any V9 pl lM cl M (RL.out.below hV) (by omega) (by rw [HN.out.2.2.2.2.1, txb_len]; omega)
      rw [HN.out.2.2.2.2.1, txb_lexT] at this
      exact this)
    have CLT := hid (fun V9 (hV : Below V.heap.size V V9) => show Calls Try.prog 11 #[.agg #[.slice a1 n1 c1, .slice a2 n2 c2, .slice a3 n3 c3], .string t] V9 fun e w' => (∃ qa qc, e = .returned (.slice qa lM qc) ∧ TRow w' qa lM M) ∧ Below V9.heap.size V9 w' from by
      have := CL.out V9 (X.out.2.trans (hV.mono X.out.2.size)) t (by omega)
      unfold TRes at this
      rw [← HN.out.2.2.2.2.1, ← HN.out.2.2.2.2.2] at this
      refine this.mono ?_
      rintro e w' ⟨⟨qa, qc, h1, h2, h3⟩, h4⟩
      exact ⟨⟨qa, qc, h1, h2⟩, h4⟩)
    have CSM := hid (fun V9 (hV : Below V.heap.size V V9) qa qc (hq : TRow V9 qa lM M) => show Calls Try.prog 14 #[.slice pl lM cl, .slice qa lM qc] V9 fun e w' => e = .returned (.bool true) ∧ Below V9.heap.size V9 w' from by
      have := Same_any V9 pl lM cl M qa lM qc M (RL.out.below hV) hq (by omega) (by omega)
      rw [decide_eq_true rfl] at this
      exact this)
    clear d0 d1 d2 d3 d4 d5 d6 f0 f1 f2
    refine region_invB (fun b a' w' => ∃ (v38 v39 v40 v41 v42 v43 v44 v45 v46 v47 v48 v49 : Value), a' = { tmps := #[.agg #[.slice a1 n1 c1, .slice a2 n2 c2, .slice a3 n3 c3, .string s, .int .i64 (x : Int), .int .i64 (yv : Int), .string ins], .pointer (some ⟨w.heap.size, 0, none⟩), .bool false, .slice p lL c, .slice pl lM cl, .pointer (some ⟨B1, 0, none⟩), .int .i64 0, undef, undef, undef, .agg #[.slice a1 n1 c1, .slice a2 n2 c2, .slice a3 n3 c3, .string s, .int .i64 (x : Int), .int .i64 (yv : Int), .string ins], .bool true, .bool false, .bool false, .pointer (some ⟨w.heap.size, 3, none⟩), .string s, .int .i64 (s.size : Int), .pointer (some ⟨w.heap.size, 4, none⟩), .agg #[.int .i64 (x : Int), .int .i64 (yv : Int), .string ins], .bool true, .bool false, .bool false, undef, .pointer (some ⟨w.heap.size, 0, none⟩), .agg #[.slice a1 n1 c1, .slice a2 n2 c2, .slice a3 n3 c3], .pointer (some ⟨w.heap.size, 3, none⟩), .string s, .slice p lL c, .tuple #[.slice pl lM cl, .agg #[.int .i64 (m : Int), .int .i64 ((ko : Int) - (m : Int)), .int .i64 (N : Int)], .int .i64 0], .pointer (some ⟨w.heap.size, 0, none⟩), .agg #[.slice a1 n1 c1, .slice a2 n2 c2, .slice a3 n3 c3], .slice p lL c, .pointer (some ⟨w.heap.size, 4, none⟩), .agg #[.int .i64 (x : Int), .int .i64 (yv : Int), .string ins], .tuple #[.slice pl lM cl, .agg #[.int .i64 (m : Int), .int .i64 ((ko : Int) - (m : Int)), .int .i64 (N : Int)], .int .i64 0], .slice pl lM cl, .agg #[.int .i64 (m : Int), .int .i64 ((ko : Int) - (m : Int)), .int .i64 (N : Int)], .int .i64 0, v38, v39, v40, v41, v42, v43, v44, v45, v46, v47, v48, v49, undef, undef, undef, undef, undef, undef, undef, undef, undef, undef, undef, undef, undef, undef, undef, undef, undef, undef, undef, undef, undef, undef, undef, undef, undef, undef, undef, undef, undef, undef, undef, undef, undef, undef, undef, undef, undef, undef, undef], defers := [] } ∧ Below V.heap.size V w' ∧ (b 0 = true → v38 = .int .i64 0) ∧ (b 1 = true → v39 = .bool false) ∧ (b 2 = true → v40 = .bool false) ∧ (b 3 = true → v41 = .slice pl lM cl) ∧ (b 4 = true → v42 = .pointer (some ⟨w.heap.size, 0, none⟩)) ∧ (b 5 = true → v43 = .agg #[.slice a1 n1 c1, .slice a2 n2 c2, .slice a3 n3 c3]) ∧ (b 6 = true → v44 = .slice pl lM cl) ∧ (b 7 = true → v45 = .string t) ∧ (b 8 = true → ∃ qa qc, v46 = .slice qa lM qc ∧ TRow w' qa lM M) ∧ (b 9 = true → v47 = .bool true) ∧ (b 10 = true → v48 = .bool false) ∧ (b 11 = true → v49 = .bool false) ∧ (b 8 = true → b 5 = true) ∧ (b 8 = true → b 7 = true) ∧ (b 8 = true → b 2 = true) ∧ (b 9 = true → b 3 = true) ∧ (b 9 = true → b 8 = true) ∧ (b 9 = true → b 2 = true) ∧ (b 10 = true → b 9 = true) ∧ (b 10 = true → b 2 = true) ∧ (b 11 = true → b 2 = true) ∧ (b 11 = true → b 10 = true)) (by kernel_rfl) (bindB_of (by kernel_rfl)) ?step5 ?done5 ?init5
    case step5 =>
      rintro b a' w' i o ho ⟨v38, v39, v40, v41, v42, v43, v44, v45, v46, v47, v48, v49, rfl, hk, h0, h1, h2, h3, h4, h5, h6, h7, h8, h9, h10, h11, q8_5, q8_7, q8_2, q9_3, q9_8, q9_2, q10_9, q10_2, q11_2, q11_10⟩ hbi hd K hK
      have hlt : i < 12 := by have := (Array.getElem?_eq_some_iff.1 ho).1; simpa using this
      have dep : ∀ k, (o.after.any fun e => Region.binds .any e && e.on == k) = true → b k = true := fun k hk => by
        obtain ⟨e, he, h⟩ := Array.any_eq_true'.1 hk
        simp only [Bool.and_eq_true, beq_iff_eq] at h
        rw [← h.2]; exact hd e he h.1
      clear hd
      have hi : i = 0 ∨ i = 1 ∨ i = 2 ∨ i = 3 ∨ i = 4 ∨ i = 5 ∨ i = 6 ∨ i = 7 ∨ i = 8 ∨ i = 9 ∨ i = 10 ∨ i = 11 := by omega
      clear hlt
      rcases hi with rfl | rfl | rfl | rfl | rfl | rfl | rfl | rfl | rfl | rfl | rfl | rfl
      · simp only [List.getElem?_toArray, List.getElem?_cons_zero, List.getElem?_cons_succ, Option.some.injEq] at ho
        subst ho
        go_simp
        refine hK.out _ _ ⟨_, _, _, _, _, _, _, _, _, _, _, _, rfl, hk, fun _ => rfl, fun h => h1 (up_ne rfl h), fun h => h2 (up_ne rfl h), fun h => h3 (up_ne rfl h), fun h => h4 (up_ne rfl h), fun h => h5 (up_ne rfl h), fun h => h6 (up_ne rfl h), fun h => h7 (up_ne rfl h), fun h => h8 (up_ne rfl h), fun h => h9 (up_ne rfl h), fun h => h10 (up_ne rfl h), fun h => h11 (up_ne rfl h), fun h => up_of (q8_5 (up_ne rfl h)), fun h => up_of (q8_7 (up_ne rfl h)), fun h => up_of (q8_2 (up_ne rfl h)), fun h => up_of (q9_3 (up_ne rfl h)), fun h => up_of (q9_8 (up_ne rfl h)), fun h => up_of (q9_2 (up_ne rfl h)), fun h => up_of (q10_9 (up_ne rfl h)), fun h => up_of (q10_2 (up_ne rfl h)), fun h => up_of (q11_2 (up_ne rfl h)), fun h => up_of (q11_10 (up_ne rfl h))⟩
      · simp only [List.getElem?_toArray, List.getElem?_cons_zero, List.getElem?_cons_succ, Option.some.injEq] at ho
        subst ho
        have e_0 := dep 0 (by kernel_rfl)
        obtain rfl := h0 e_0
        go_simp
        refine hK.out _ _ ⟨_, _, _, _, _, _, _, _, _, _, _, _, rfl, hk, fun _ => rfl, fun _ => rfl, fun h => h2 (up_ne rfl h), fun h => h3 (up_ne rfl h), fun h => h4 (up_ne rfl h), fun h => h5 (up_ne rfl h), fun h => h6 (up_ne rfl h), fun h => h7 (up_ne rfl h), fun h => h8 (up_ne rfl h), fun h => h9 (up_ne rfl h), fun h => h10 (up_ne rfl h), fun h => h11 (up_ne rfl h), fun h => up_of (q8_5 (up_ne rfl h)), fun h => up_of (q8_7 (up_ne rfl h)), fun h => up_of (q8_2 (up_ne rfl h)), fun h => up_of (q9_3 (up_ne rfl h)), fun h => up_of (q9_8 (up_ne rfl h)), fun h => up_of (q9_2 (up_ne rfl h)), fun h => up_of (q10_9 (up_ne rfl h)), fun h => up_of (q10_2 (up_ne rfl h)), fun h => up_of (q11_2 (up_ne rfl h)), fun h => up_of (q11_10 (up_ne rfl h))⟩
      · simp only [List.getElem?_toArray, List.getElem?_cons_zero, List.getElem?_cons_succ, Option.some.injEq] at ho
        subst ho
        have e_1 := dep 1 (by kernel_rfl)
        obtain rfl := h1 e_1
        go_simp
        refine hK.out _ _ ⟨_, _, _, _, _, _, _, _, _, _, _, _, rfl, hk, fun h => h0 (up_ne rfl h), fun _ => rfl, fun _ => rfl, fun h => h3 (up_ne rfl h), fun h => h4 (up_ne rfl h), fun h => h5 (up_ne rfl h), fun h => h6 (up_ne rfl h), fun h => h7 (up_ne rfl h), fun h => h8 (up_ne rfl h), fun h => h9 (up_ne rfl h), fun h => h10 (up_ne rfl h), fun h => h11 (up_ne rfl h), fun h => up_of (q8_5 (up_ne rfl h)), fun h => up_of (q8_7 (up_ne rfl h)), fun h => up_of (q8_2 (up_ne rfl h)), fun h => up_of (q9_3 (up_ne rfl h)), fun h => up_of (q9_8 (up_ne rfl h)), fun h => up_of (q9_2 (up_ne rfl h)), fun h => up_of (q10_9 (up_ne rfl h)), fun h => up_of (q10_2 (up_ne rfl h)), fun h => up_of (q11_2 (up_ne rfl h)), fun h => up_of (q11_10 (up_ne rfl h))⟩
      · simp only [List.getElem?_toArray, List.getElem?_cons_zero, List.getElem?_cons_succ, Option.some.injEq] at ho
        subst ho
        have e_2 := dep 2 (by kernel_rfl)
        obtain rfl := h2 e_2
        go_simp
        refine hK.out _ _ ⟨_, _, _, _, _, _, _, _, _, _, _, _, rfl, hk, fun h => h0 (up_ne rfl h), fun h => h1 (up_ne rfl h), fun _ => rfl, fun _ => rfl, fun h => h4 (up_ne rfl h), fun h => h5 (up_ne rfl h), fun h => h6 (up_ne rfl h), fun h => h7 (up_ne rfl h), fun h => h8 (up_ne rfl h), fun h => h9 (up_ne rfl h), fun h => h10 (up_ne rfl h), fun h => h11 (up_ne rfl h), fun h => up_of (q8_5 (up_ne rfl h)), fun h => up_of (q8_7 (up_ne rfl h)), fun h => up_of (q8_2 (up_ne rfl h)), fun h => up_of (q9_3 (up_ne rfl h)), fun h => up_of (q9_8 (up_ne rfl h)), fun h => up_of (q9_2 (up_ne rfl h)), fun h => up_of (q10_9 (up_ne rfl h)), fun h => up_of (q10_2 (up_ne rfl h)), fun h => up_of (q11_2 (up_ne rfl h)), fun h => up_of (q11_10 (up_ne rfl h))⟩
      · simp only [List.getElem?_toArray, List.getElem?_cons_zero, List.getElem?_cons_succ, Option.some.injEq] at ho
        subst ho
        have e_2 := dep 2 (by kernel_rfl)
        obtain rfl := h2 e_2
        go_simp
        refine hK.out _ _ ⟨_, _, _, _, _, _, _, _, _, _, _, _, rfl, hk, fun h => h0 (up_ne rfl h), fun h => h1 (up_ne rfl h), fun _ => rfl, fun h => h3 (up_ne rfl h), fun _ => rfl, fun h => h5 (up_ne rfl h), fun h => h6 (up_ne rfl h), fun h => h7 (up_ne rfl h), fun h => h8 (up_ne rfl h), fun h => h9 (up_ne rfl h), fun h => h10 (up_ne rfl h), fun h => h11 (up_ne rfl h), fun h => up_of (q8_5 (up_ne rfl h)), fun h => up_of (q8_7 (up_ne rfl h)), fun h => up_of (q8_2 (up_ne rfl h)), fun h => up_of (q9_3 (up_ne rfl h)), fun h => up_of (q9_8 (up_ne rfl h)), fun h => up_of (q9_2 (up_ne rfl h)), fun h => up_of (q10_9 (up_ne rfl h)), fun h => up_of (q10_2 (up_ne rfl h)), fun h => up_of (q11_2 (up_ne rfl h)), fun h => up_of (q11_10 (up_ne rfl h))⟩
      · simp only [List.getElem?_toArray, List.getElem?_cons_zero, List.getElem?_cons_succ, Option.some.injEq] at ho
        subst ho
        have e_4 := dep 4 (by kernel_rfl)
        have e_2 := dep 2 (by kernel_rfl)
        obtain rfl := h2 e_2
        obtain rfl := h4 e_4
        obtain ⟨d0, d1, d2, d3, d4, d5, d6⟩ := cells7 ((hk.block _ (heap_lt X.out.1)).trans X.out.1)
        go_simp
        refine hK.out _ _ ⟨_, _, _, _, _, _, _, _, _, _, _, _, rfl, hk, fun h => h0 (up_ne rfl h), fun h => h1 (up_ne rfl h), fun _ => rfl, fun h => h3 (up_ne rfl h), fun _ => rfl, fun _ => rfl, fun h => h6 (up_ne rfl h), fun h => h7 (up_ne rfl h), fun h => h8 (up_ne rfl h), fun h => h9 (up_ne rfl h), fun h => h10 (up_ne rfl h), fun h => h11 (up_ne rfl h), fun h => up_of (q8_5 (up_ne rfl h)), fun h => up_of (q8_7 (up_ne rfl h)), fun h => up_of (q8_2 (up_ne rfl h)), fun h => up_of (q9_3 (up_ne rfl h)), fun h => up_of (q9_8 (up_ne rfl h)), fun h => up_of (q9_2 (up_ne rfl h)), fun h => up_of (q10_9 (up_ne rfl h)), fun h => up_of (q10_2 (up_ne rfl h)), fun h => up_of (q11_2 (up_ne rfl h)), fun h => up_of (q11_10 (up_ne rfl h))⟩
      · simp only [List.getElem?_toArray, List.getElem?_cons_zero, List.getElem?_cons_succ, Option.some.injEq] at ho
        subst ho
        have e_2 := dep 2 (by kernel_rfl)
        obtain rfl := h2 e_2
        go_simp
        refine hK.out _ _ ⟨_, _, _, _, _, _, _, _, _, _, _, _, rfl, hk, fun h => h0 (up_ne rfl h), fun h => h1 (up_ne rfl h), fun _ => rfl, fun h => h3 (up_ne rfl h), fun h => h4 (up_ne rfl h), fun h => h5 (up_ne rfl h), fun _ => rfl, fun h => h7 (up_ne rfl h), fun h => h8 (up_ne rfl h), fun h => h9 (up_ne rfl h), fun h => h10 (up_ne rfl h), fun h => h11 (up_ne rfl h), fun h => up_of (q8_5 (up_ne rfl h)), fun h => up_of (q8_7 (up_ne rfl h)), fun h => up_of (q8_2 (up_ne rfl h)), fun h => up_of (q9_3 (up_ne rfl h)), fun h => up_of (q9_8 (up_ne rfl h)), fun h => up_of (q9_2 (up_ne rfl h)), fun h => up_of (q10_9 (up_ne rfl h)), fun h => up_of (q10_2 (up_ne rfl h)), fun h => up_of (q11_2 (up_ne rfl h)), fun h => up_of (q11_10 (up_ne rfl h))⟩
      · simp only [List.getElem?_toArray, List.getElem?_cons_zero, List.getElem?_cons_succ, Option.some.injEq] at ho
        subst ho
        have e_6 := dep 6 (by kernel_rfl)
        have e_2 := dep 2 (by kernel_rfl)
        obtain rfl := h2 e_2
        obtain rfl := h6 e_6
        have CC := hid (CT.out w' hk)
        go_simp
        refine CC.out.mono ?_
        rintro e W5 ⟨rfl, b5⟩
        refine hK.out _ _ ⟨_, _, _, _, _, _, _, _, _, _, _, _, rfl, hk.trans (b5.mono hk.size), fun h => h0 (up_ne rfl h), fun h => h1 (up_ne rfl h), fun _ => rfl, fun h => h3 (up_ne rfl h), fun h => h4 (up_ne rfl h), fun h => h5 (up_ne rfl h), fun _ => rfl, fun _ => rfl, fun h => by obtain ⟨qa, qc, e, r⟩ := (h8 (up_ne rfl h)); exact ⟨qa, qc, e, r.below b5⟩, fun h => h9 (up_ne rfl h), fun h => h10 (up_ne rfl h), fun h => h11 (up_ne rfl h), fun h => up_of (q8_5 (up_ne rfl h)), fun h => up_of (q8_7 (up_ne rfl h)), fun h => up_of (q8_2 (up_ne rfl h)), fun h => up_of (q9_3 (up_ne rfl h)), fun h => up_of (q9_8 (up_ne rfl h)), fun h => up_of (q9_2 (up_ne rfl h)), fun h => up_of (q10_9 (up_ne rfl h)), fun h => up_of (q10_2 (up_ne rfl h)), fun h => up_of (q11_2 (up_ne rfl h)), fun h => up_of (q11_10 (up_ne rfl h))⟩
      · simp only [List.getElem?_toArray, List.getElem?_cons_zero, List.getElem?_cons_succ, Option.some.injEq] at ho
        subst ho
        have e_5 := dep 5 (by kernel_rfl)
        have e_7 := dep 7 (by kernel_rfl)
        have e_2 := dep 2 (by kernel_rfl)
        obtain rfl := h2 e_2
        obtain rfl := h5 e_5
        obtain rfl := h7 e_7
        have CC := hid (CLT.out w' hk)
        go_simp
        refine CC.out.mono ?_
        rintro e W5 ⟨⟨qa, qc, rfl, r5⟩, b5⟩
        refine hK.out _ _ ⟨_, _, _, _, _, _, _, _, _, _, _, _, rfl, hk.trans (b5.mono hk.size), fun h => h0 (up_ne rfl h), fun h => h1 (up_ne rfl h), fun _ => rfl, fun h => h3 (up_ne rfl h), fun h => h4 (up_ne rfl h), fun _ => rfl, fun h => h6 (up_ne rfl h), fun _ => rfl, fun _ => ⟨qa, qc, rfl, r5⟩, fun h => h9 (up_ne rfl h), fun h => h10 (up_ne rfl h), fun h => h11 (up_ne rfl h), fun _ => up_of e_5, fun _ => up_of e_7, fun _ => up_of e_2, fun h => up_of (q9_3 (up_ne rfl h)), fun h => up_of (q9_8 (up_ne rfl h)), fun h => up_of (q9_2 (up_ne rfl h)), fun h => up_of (q10_9 (up_ne rfl h)), fun h => up_of (q10_2 (up_ne rfl h)), fun h => up_of (q11_2 (up_ne rfl h)), fun h => up_of (q11_10 (up_ne rfl h))⟩
      · simp only [List.getElem?_toArray, List.getElem?_cons_zero, List.getElem?_cons_succ, Option.some.injEq] at ho
        subst ho
        have e_3 := dep 3 (by kernel_rfl)
        have e_8 := dep 8 (by kernel_rfl)
        have e_2 := dep 2 (by kernel_rfl)
        have e_5 := q8_5 e_8
        have e_7 := q8_7 e_8
        obtain rfl := h2 e_2
        obtain rfl := h3 e_3
        obtain rfl := h5 e_5
        obtain rfl := h7 e_7
        obtain ⟨qa, qc, rfl, r5⟩ := h8 e_8
        have CC := hid (CSM.out w' hk qa qc r5)
        go_simp
        refine CC.out.mono ?_
        rintro e W5 ⟨rfl, b5⟩
        refine hK.out _ _ ⟨_, _, _, _, _, _, _, _, _, _, _, _, rfl, hk.trans (b5.mono hk.size), fun h => h0 (up_ne rfl h), fun h => h1 (up_ne rfl h), fun _ => rfl, fun _ => rfl, fun h => h4 (up_ne rfl h), fun _ => rfl, fun h => h6 (up_ne rfl h), fun _ => rfl, fun _ => ⟨qa, qc, rfl, r5.below b5⟩, fun _ => rfl, fun h => h10 (up_ne rfl h), fun h => h11 (up_ne rfl h), fun h => up_of (q8_5 (up_ne rfl h)), fun h => up_of (q8_7 (up_ne rfl h)), fun h => up_of (q8_2 (up_ne rfl h)), fun _ => up_of e_3, fun _ => up_of e_8, fun _ => up_of e_2, fun h => up_of (q10_9 (up_ne rfl h)), fun h => up_of (q10_2 (up_ne rfl h)), fun h => up_of (q11_2 (up_ne rfl h)), fun h => up_of (q11_10 (up_ne rfl h))⟩
      · simp only [List.getElem?_toArray, List.getElem?_cons_zero, List.getElem?_cons_succ, Option.some.injEq] at ho
        subst ho
        have e_9 := dep 9 (by kernel_rfl)
        have e_2 := dep 2 (by kernel_rfl)
        have e_3 := q9_3 e_9
        have e_8 := q9_8 e_9
        have e_5 := q8_5 e_8
        have e_7 := q8_7 e_8
        obtain rfl := h2 e_2
        obtain rfl := h3 e_3
        obtain rfl := h5 e_5
        obtain rfl := h7 e_7
        obtain rfl := h9 e_9
        obtain ⟨qa, qc, rfl, r5⟩ := h8 e_8
        go_simp
        refine hK.out _ _ ⟨_, _, _, _, _, _, _, _, _, _, _, _, rfl, hk, fun h => h0 (up_ne rfl h), fun h => h1 (up_ne rfl h), fun _ => rfl, fun _ => rfl, fun h => h4 (up_ne rfl h), fun _ => rfl, fun h => h6 (up_ne rfl h), fun _ => rfl, fun _ => ⟨qa, qc, rfl, r5⟩, fun _ => rfl, fun _ => rfl, fun h => h11 (up_ne rfl h), fun h => up_of (q8_5 (up_ne rfl h)), fun h => up_of (q8_7 (up_ne rfl h)), fun h => up_of (q8_2 (up_ne rfl h)), fun h => up_of (q9_3 (up_ne rfl h)), fun h => up_of (q9_8 (up_ne rfl h)), fun h => up_of (q9_2 (up_ne rfl h)), fun _ => up_of e_9, fun _ => up_of e_2, fun h => up_of (q11_2 (up_ne rfl h)), fun h => up_of (q11_10 (up_ne rfl h))⟩
      · simp only [List.getElem?_toArray, List.getElem?_cons_zero, List.getElem?_cons_succ, Option.some.injEq] at ho
        subst ho
        have e_2 := dep 2 (by kernel_rfl)
        have e_10 := dep 10 (by kernel_rfl)
        have e_9 := q10_9 e_10
        have e_3 := q9_3 e_9
        have e_8 := q9_8 e_9
        have e_5 := q8_5 e_8
        have e_7 := q8_7 e_8
        obtain rfl := h2 e_2
        obtain rfl := h3 e_3
        obtain rfl := h5 e_5
        obtain rfl := h7 e_7
        obtain rfl := h9 e_9
        obtain rfl := h10 e_10
        obtain ⟨qa, qc, rfl, r5⟩ := h8 e_8
        go_simp
        refine hK.out _ _ ⟨_, _, _, _, _, _, _, _, _, _, _, _, rfl, hk, fun h => h0 (up_ne rfl h), fun h => h1 (up_ne rfl h), fun _ => rfl, fun _ => rfl, fun h => h4 (up_ne rfl h), fun _ => rfl, fun h => h6 (up_ne rfl h), fun _ => rfl, fun _ => ⟨qa, qc, rfl, r5⟩, fun _ => rfl, fun _ => rfl, fun _ => rfl, fun h => up_of (q8_5 (up_ne rfl h)), fun h => up_of (q8_7 (up_ne rfl h)), fun h => up_of (q8_2 (up_ne rfl h)), fun h => up_of (q9_3 (up_ne rfl h)), fun h => up_of (q9_8 (up_ne rfl h)), fun h => up_of (q9_2 (up_ne rfl h)), fun h => up_of (q10_9 (up_ne rfl h)), fun h => up_of (q10_2 (up_ne rfl h)), fun _ => up_of e_2, fun _ => up_of e_10⟩
    case done5 =>
      rintro b a' w' ⟨v38, v39, v40, v41, v42, v43, v44, v45, v46, v47, v48, v49, rfl, hk, h0, h1, h2, h3, h4, h5, h6, h7, h8, h9, h10, h11, q8_5, q8_7, q8_2, q9_3, q9_8, q9_2, q10_9, q10_2, q11_2, q11_10⟩ hall
      obtain rfl := h0 (hall 0)
      obtain rfl := h1 (hall 1)
      obtain rfl := h2 (hall 2)
      obtain rfl := h3 (hall 3)
      obtain rfl := h4 (hall 4)
      obtain rfl := h5 (hall 5)
      obtain rfl := h6 (hall 6)
      obtain rfl := h7 (hall 7)
      obtain ⟨qa, qc, rfl, r5⟩ := h8 (hall 8)
      obtain rfl := h9 (hall 9)
      obtain rfl := h10 (hall 10)
      obtain rfl := h11 (hall 11)
      obtain ⟨V7, rfl⟩ : ∃ V7, V7 = w' := ⟨_, rfl⟩
      have HK5 := hid hk
      have X := hid (And.intro ((hk.block _ (heap_lt X.out.1)).trans X.out.1) (X.out.2.trans (hk.mono X.out.2.size)))
      have R := hid (R.out.below hk)
      have RL := hid (RL.out.below hk)
      clear h0 h1 h2 h3 h4 h5 h6 h7 h8 h9 h10 h11 hk r5 hall
      obtain ⟨cA, hcA⟩ : ∃ cA : Int, cA = (uM D t x : Int) := ⟨_, rfl⟩
      obtain ⟨cB, hcB⟩ : ∃ cB : Int, cB = ((uR D t x ins.size (s.extract x (x + yv))).2 : Int) - (uM D t x : Int) := ⟨_, rfl⟩
      obtain ⟨cC, hcC⟩ : ∃ cC : Int, cC = ((uR D t x ins.size (s.extract x (x + yv))).1 : Int) := ⟨_, rfl⟩
      have hlx := HF.out
      have CU2 := hid (fun V9 (hV : Below V7.heap.size V7 V9) => show Calls Try.prog 12 #[.agg #[.slice a1 n1 c1, .slice a2 n2 c2, .slice a3 n3 c3], .slice pl lM cl, .agg #[.int .i64 (x : Int), .int .i64 (ins.size : Int), .string (s.extract x (x + yv))]] V9 fun e w' => (∃ pa pc, e = .returned (.tuple #[.slice pa lL pc, .agg #[.int .i64 cA, .int .i64 cB, .int .i64 cC], .int .i64 0]) ∧ TRow w' pa lL L ∧ lL ≤ pc) ∧ Below V9.heap.size V9 w' from by
        have := Update_yes V9 D n k HV.out a1 n1 c1 a2 n2 c2 a3 n3 c3 (HI.out.below (X.out.2.trans (hV.mono X.out.2.size))) t (by omega) pl lM cl (by rw [← HN.out.2.2.2.2.1]; exact RL.out.below hV) HCL.out x ins.size (s.extract x (x + yv)) (by rw [ByteArray.size_extract]; omega) (by rw [HN.out.2.2.2.1]; exact nt_back_fit hlx)
        unfold URes at this
        rw [← hcB, ← hcC, ← hcA] at this
        have e1 : nt t x ins.size (s.extract x (x + yv)) = s := by rw [HN.out.2.2.2.1]; exact nt_back hlx
        rw [e1, ← HL.out.1, ← HL.out.2] at this
        exact this)
      have w1 : IntKind.i64.wrap ((x : Int) + (yv : Int)) = (x : Int) + (yv : Int) := wrapIn (by omega) (by omega)
      have w2 : (0 : Int) ≤ (x : Int) := by omega
      have w3 : (x : Int) ≤ (x : Int) + (yv : Int) := by omega
      have w4 : (x : Int) + (yv : Int) ≤ (s.size : Int) := by omega
      clear hcA hcB hcC hlx
      go_upto_region 7 with fail
      refine region_invB (fun b a' w' => ∃ (v51 v52 v53 v54 v55 v56 v57 v58 v59 v60 v61 v62 v63 v64 v65 v66 v67 v68 v69 v70 v71 v72 v73 v74 v75 v50 v76 v77 v78 v8 v7 v9 : Value), a' = { tmps := #[.agg #[.slice a1 n1 c1, .slice a2 n2 c2, .slice a3 n3 c3, .string s, .int .i64 (x : Int), .int .i64 (yv : Int), .string ins], .pointer (some ⟨w.heap.size, 0, none⟩), .bool false, .slice p lL c, .slice pl lM cl, .pointer (some ⟨B1, 0, none⟩), .int .i64 0, v7, v8, v9, .agg #[.slice a1 n1 c1, .slice a2 n2 c2, .slice a3 n3 c3, .string s, .int .i64 (x : Int), .int .i64 (yv : Int), .string ins], .bool true, .bool false, .bool false, .pointer (some ⟨w.heap.size, 3, none⟩), .string s, .int .i64 (s.size : Int), .pointer (some ⟨w.heap.size, 4, none⟩), .agg #[.int .i64 (x : Int), .int .i64 (yv : Int), .string ins], .bool true, .bool false, .bool false, undef, .pointer (some ⟨w.heap.size, 0, none⟩), .agg #[.slice a1 n1 c1, .slice a2 n2 c2, .slice a3 n3 c3], .pointer (some ⟨w.heap.size, 3, none⟩), .string s, .slice p lL c, .tuple #[.slice pl lM cl, .agg #[.int .i64 (m : Int), .int .i64 ((ko : Int) - (m : Int)), .int .i64 (N : Int)], .int .i64 0], .pointer (some ⟨w.heap.size, 0, none⟩), .agg #[.slice a1 n1 c1, .slice a2 n2 c2, .slice a3 n3 c3], .slice p lL c, .pointer (some ⟨w.heap.size, 4, none⟩), .agg #[.int .i64 (x : Int), .int .i64 (yv : Int), .string ins], .tuple #[.slice pl lM cl, .agg #[.int .i64 (m : Int), .int .i64 ((ko : Int) - (m : Int)), .int .i64 (N : Int)], .int .i64 0], .slice pl lM cl, .agg #[.int .i64 (m : Int), .int .i64 ((ko : Int) - (m : Int)), .int .i64 (N : Int)], .int .i64 0, .int .i64 0, .bool false, .bool false, .slice pl lM cl, .pointer (some ⟨w.heap.size, 0, none⟩), .agg #[.slice a1 n1 c1, .slice a2 n2 c2, .slice a3 n3 c3], .slice pl lM cl, .string t, .slice qa lM qc, .bool true, .bool false, .bool false, v50, v51, v52, v53, v54, v55, v56, v57, v58, v59, v60, v61, v62, v63, v64, v65, v66, v67, v68, v69, v70, v71, v72, v73, v74, v75, v76, v77, v78, undef, undef, undef, undef, undef, undef, undef, undef, undef, undef], defers := [] } ∧ Hid ((((((Below V7.heap.size V7 w') ∧ ((b 0 = true → v51 = .pointer (some ⟨w.heap.size, 0, none⟩)))) ∧ (((b 1 = true → v52 = .agg #[.slice a1 n1 c1, .slice a2 n2 c2, .slice a3 n3 c3])) ∧ (((b 2 = true → v53 = .slice pl lM cl)) ∧ ((b 3 = true → v54 = .pointer (some ⟨w.heap.size, 4, none⟩)))))) ∧ ((((b 4 = true → v55 = .pointer (some ⟨w.heap.size, 4, none⟩))) ∧ (((b 5 = true → v56 = .int .i64 (x : Int))) ∧ ((b 6 = true → v57 = .pointer (some ⟨w.heap.size, 4, none⟩))))) ∧ (((b 7 = true → v58 = .pointer (some ⟨w.heap.size, 6, none⟩))) ∧ (((b 8 = true → v59 = .string ins)) ∧ ((b 9 = true → v60 = .int .i64 (ins.size : Int))))))) ∧ (((((b 10 = true → v61 = .pointer (some ⟨w.heap.size, 3, none⟩))) ∧ ((b 11 = true → v62 = .string s))) ∧ (((b 12 = true → v63 = .pointer (some ⟨w.heap.size, 4, none⟩))) ∧ (((b 13 = true → v64 = .pointer (some ⟨w.heap.size, 4, none⟩))) ∧ ((b 14 = true → v65 = .int .i64 (x : Int)))))) ∧ ((((b 15 = true → v66 = .pointer (some ⟨w.heap.size, 4, none⟩))) ∧ (((b 16 = true → v67 = .pointer (some ⟨w.heap.size, 4, none⟩))) ∧ ((b 17 = true → v68 = .int .i64 (x : Int))))) ∧ (((b 18 = true → v69 = .pointer (some ⟨w.heap.size, 4, none⟩))) ∧ (((b 19 = true → v70 = .pointer (some ⟨w.heap.size, 5, none⟩))) ∧ ((b 20 = true → v71 = .int .i64 (yv : Int)))))))) ∧ ((((((b 21 = true → v72 = .int .i64 ((x : Int) + (yv : Int)))) ∧ ((b 22 = true → v73 = .string (s.extract x (x + yv))))) ∧ (((b 23 = true → v74 = .agg #[.int .i64 (x : Int), .int .i64 (ins.size : Int), .string (s.extract x (x + yv))])) ∧ (((b 24 = true → ∃ pa pc, v75 = .tuple #[.slice pa lL pc, .agg #[.int .i64 cA, .int .i64 cB, .int .i64 cC], .int .i64 0] ∧ TRow w' pa lL L ∧ lL ≤ pc)) ∧ ((b 25 = true → v50 = v75))))) ∧ ((((b 26 = true → v75 = .tuple #[v76, .agg #[.int .i64 cA, .int .i64 cB, .int .i64 cC], .int .i64 0])) ∧ (((b 27 = true → v77 = .agg #[.int .i64 cA, .int .i64 cB, .int .i64 cC])) ∧ ((b 28 = true → v78 = .int .i64 0)))) ∧ (((b 29 = true → ∃ T : Nat, v8 = .pointer (some ⟨T, 0, none⟩) ∧ V7.heap.size ≤ T ∧ (b 31 = false → w'.heap[T]? = some (.cells #[.int .i64 0, .int .i64 0, .int .i64 0] 35 (0, 0))) ∧ (b 31 = true → w'.heap[T]? = some (.cells #[.int .i64 cA, .int .i64 cB, .int .i64 cC] 35 (0, 0))))) ∧ (((b 30 = true → v7 = v76)) ∧ ((b 32 = true → v9 = v78)))))) ∧ (((((b 24 = true → b 1 = true)) ∧ ((b 24 = true → b 2 = true))) ∧ (((b 24 = true → b 23 = true)) ∧ (((b 25 = true → b 24 = true)) ∧ ((b 26 = true → b 25 = true))))) ∧ ((((b 27 = true → b 25 = true)) ∧ (((b 28 = true → b 25 = true)) ∧ ((b 30 = true → b 26 = true)))) ∧ (((b 31 = true → b 29 = true)) ∧ (((b 31 = true → b 27 = true)) ∧ ((b 32 = true → b 28 = true))))))))) (by kernel_rfl) (bindB_of (by kernel_rfl)) ?step7 ?done7 ?init7
      case step7 =>
        rintro b a' w' i o ho ⟨v51, v52, v53, v54, v55, v56, v57, v58, v59, v60, v61, v62, v63, v64, v65, v66, v67, v68, v69, v70, v71, v72, v73, v74, v75, v50, v76, v77, v78, v8, v7, v9, rfl, F9⟩ hbi hd K hK
        have hlt : i < 33 := by have := (Array.getElem?_eq_some_iff.1 ho).1; simpa using this
        have dep : ∀ k, (o.after.any fun e => Region.binds .any e && e.on == k) = true → b k = true := fun k hk => by
          obtain ⟨e, he, h⟩ := Array.any_eq_true'.1 hk
          simp only [Bool.and_eq_true, beq_iff_eq] at h
          rw [← h.2]; exact hd e he h.1
        clear hd
        have hi : i = 0 ∨ i = 1 ∨ i = 2 ∨ i = 3 ∨ i = 4 ∨ i = 5 ∨ i = 6 ∨ i = 7 ∨ i = 8 ∨ i = 9 ∨ i = 10 ∨ i = 11 ∨ i = 12 ∨ i = 13 ∨ i = 14 ∨ i = 15 ∨ i = 16 ∨ i = 17 ∨ i = 18 ∨ i = 19 ∨ i = 20 ∨ i = 21 ∨ i = 22 ∨ i = 23 ∨ i = 24 ∨ i = 25 ∨ i = 26 ∨ i = 27 ∨ i = 28 ∨ i = 29 ∨ i = 30 ∨ i = 31 ∨ i = 32 := by omega
        clear hlt
        rcases hi with rfl | rfl | rfl | rfl | rfl | rfl | rfl | rfl | rfl | rfl | rfl | rfl | rfl | rfl | rfl | rfl | rfl | rfl | rfl | rfl | rfl | rfl | rfl | rfl | rfl | rfl | rfl | rfl | rfl | rfl | rfl | rfl | rfl
        · simp only [List.getElem?_toArray, List.getElem?_cons_zero, List.getElem?_cons_succ, Option.some.injEq] at ho
          subst ho
          have hk := F9.out.1.1.1.1.1
          have h9 := F9.out.1.1.2.2.2.2
          have h29 := F9.out.2.1.2.2.1
          go_simp
          refine hK.out _ _ ⟨_, _, _, _, _, _, _, _, _, _, _, _, _, _, _, _, _, _, _, _, _, _, _, _, _, _, _, _, _, _, _, _, rfl, hid ⟨⟨⟨⟨⟨(hk), (fun _ => rfl)⟩, ⟨(fun h => F9.out.1.1.1.2.1 (up_ne rfl h)), ⟨(fun h => F9.out.1.1.1.2.2.1 (up_ne rfl h)), (fun h => F9.out.1.1.1.2.2.2 (up_ne rfl h))⟩⟩⟩, ⟨⟨(fun h => F9.out.1.1.2.1.1 (up_ne rfl h)), ⟨(fun h => F9.out.1.1.2.1.2.1 (up_ne rfl h)), (fun h => F9.out.1.1.2.1.2.2 (up_ne rfl h))⟩⟩, ⟨(fun h => F9.out.1.1.2.2.1 (up_ne rfl h)), ⟨(fun h => F9.out.1.1.2.2.2.1 (up_ne rfl h)), (fun h => F9.out.1.1.2.2.2.2 (up_ne rfl h))⟩⟩⟩⟩, ⟨⟨⟨(fun h => F9.out.1.2.1.1.1 (up_ne rfl h)), (fun h => F9.out.1.2.1.1.2 (up_ne rfl h))⟩, ⟨(fun h => F9.out.1.2.1.2.1 (up_ne rfl h)), ⟨(fun h => F9.out.1.2.1.2.2.1 (up_ne rfl h)), (fun h => F9.out.1.2.1.2.2.2 (up_ne rfl h))⟩⟩⟩, ⟨⟨(fun h => F9.out.1.2.2.1.1 (up_ne rfl h)), ⟨(fun h => F9.out.1.2.2.1.2.1 (up_ne rfl h)), (fun h => F9.out.1.2.2.1.2.2 (up_ne rfl h))⟩⟩, ⟨(fun h => F9.out.1.2.2.2.1 (up_ne rfl h)), ⟨(fun h => F9.out.1.2.2.2.2.1 (up_ne rfl h)), (fun h => F9.out.1.2.2.2.2.2 (up_ne rfl h))⟩⟩⟩⟩⟩, ⟨⟨⟨⟨(fun h => F9.out.2.1.1.1.1 (up_ne rfl h)), (fun h => F9.out.2.1.1.1.2 (up_ne rfl h))⟩, ⟨(fun h => F9.out.2.1.1.2.1 (up_ne rfl h)), ⟨(fun h => F9.out.2.1.1.2.2.1 (up_ne rfl h)), (fun h => F9.out.2.1.1.2.2.2 (up_ne rfl h))⟩⟩⟩, ⟨⟨(fun h => F9.out.2.1.2.1.1 (up_ne rfl h)), ⟨(fun h => F9.out.2.1.2.1.2.1 (up_ne rfl h)), (fun h => F9.out.2.1.2.1.2.2 (up_ne rfl h))⟩⟩, ⟨(fun h => (h29 (by simpa using h)).imp fun T e => ⟨e.1, e.2.1, fun h9 => e.2.2.1 (by simpa using h9), fun h9 => e.2.2.2 (by simpa using h9)⟩), ⟨(fun h => F9.out.2.1.2.2.2.1 (up_ne rfl h)), (fun h => F9.out.2.1.2.2.2.2 (up_ne rfl h))⟩⟩⟩⟩, ⟨⟨⟨(fun h => up_of (F9.out.2.2.1.1.1 (up_ne rfl h))), (fun h => up_of (F9.out.2.2.1.1.2 (up_ne rfl h)))⟩, ⟨(fun h => up_of (F9.out.2.2.1.2.1 (up_ne rfl h))), ⟨(fun h => up_of (F9.out.2.2.1.2.2.1 (up_ne rfl h))), (fun h => up_of (F9.out.2.2.1.2.2.2 (up_ne rfl h)))⟩⟩⟩, ⟨⟨(fun h => up_of (F9.out.2.2.2.1.1 (up_ne rfl h))), ⟨(fun h => up_of (F9.out.2.2.2.1.2.1 (up_ne rfl h))), (fun h => up_of (F9.out.2.2.2.1.2.2 (up_ne rfl h)))⟩⟩, ⟨(fun h => up_of (F9.out.2.2.2.2.1 (up_ne rfl h))), ⟨(fun h => up_of (F9.out.2.2.2.2.2.1 (up_ne rfl h))), (fun h => up_of (F9.out.2.2.2.2.2.2 (up_ne rfl h)))⟩⟩⟩⟩⟩⟩⟩
        · simp only [List.getElem?_toArray, List.getElem?_cons_zero, List.getElem?_cons_succ, Option.some.injEq] at ho
          subst ho
          have hk := F9.out.1.1.1.1.1
          have h0 := F9.out.1.1.1.1.2
          have h9 := F9.out.1.1.2.2.2.2
          have h29 := F9.out.2.1.2.2.1
          have e_0 := dep 0 (by kernel_rfl)
          obtain rfl := h0 e_0
          obtain ⟨d0, d1, d2, d3, d4, d5, d6⟩ := cells7 ((hk.block _ (heap_lt X.out.1)).trans X.out.1)
          go_simp
          refine hK.out _ _ ⟨_, _, _, _, _, _, _, _, _, _, _, _, _, _, _, _, _, _, _, _, _, _, _, _, _, _, _, _, _, _, _, _, rfl, hid ⟨⟨⟨⟨⟨(hk), (fun _ => rfl)⟩, ⟨(fun _ => rfl), ⟨(fun h => F9.out.1.1.1.2.2.1 (up_ne rfl h)), (fun h => F9.out.1.1.1.2.2.2 (up_ne rfl h))⟩⟩⟩, ⟨⟨(fun h => F9.out.1.1.2.1.1 (up_ne rfl h)), ⟨(fun h => F9.out.1.1.2.1.2.1 (up_ne rfl h)), (fun h => F9.out.1.1.2.1.2.2 (up_ne rfl h))⟩⟩, ⟨(fun h => F9.out.1.1.2.2.1 (up_ne rfl h)), ⟨(fun h => F9.out.1.1.2.2.2.1 (up_ne rfl h)), (fun h => F9.out.1.1.2.2.2.2 (up_ne rfl h))⟩⟩⟩⟩, ⟨⟨⟨(fun h => F9.out.1.2.1.1.1 (up_ne rfl h)), (fun h => F9.out.1.2.1.1.2 (up_ne rfl h))⟩, ⟨(fun h => F9.out.1.2.1.2.1 (up_ne rfl h)), ⟨(fun h => F9.out.1.2.1.2.2.1 (up_ne rfl h)), (fun h => F9.out.1.2.1.2.2.2 (up_ne rfl h))⟩⟩⟩, ⟨⟨(fun h => F9.out.1.2.2.1.1 (up_ne rfl h)), ⟨(fun h => F9.out.1.2.2.1.2.1 (up_ne rfl h)), (fun h => F9.out.1.2.2.1.2.2 (up_ne rfl h))⟩⟩, ⟨(fun h => F9.out.1.2.2.2.1 (up_ne rfl h)), ⟨(fun h => F9.out.1.2.2.2.2.1 (up_ne rfl h)), (fun h => F9.out.1.2.2.2.2.2 (up_ne rfl h))⟩⟩⟩⟩⟩, ⟨⟨⟨⟨(fun h => F9.out.2.1.1.1.1 (up_ne rfl h)), (fun h => F9.out.2.1.1.1.2 (up_ne rfl h))⟩, ⟨(fun h => F9.out.2.1.1.2.1 (up_ne rfl h)), ⟨(fun h => F9.out.2.1.1.2.2.1 (up_ne rfl h)), (fun h => F9.out.2.1.1.2.2.2 (up_ne rfl h))⟩⟩⟩, ⟨⟨(fun h => F9.out.2.1.2.1.1 (up_ne rfl h)), ⟨(fun h => F9.out.2.1.2.1.2.1 (up_ne rfl h)), (fun h => F9.out.2.1.2.1.2.2 (up_ne rfl h))⟩⟩, ⟨(fun h => (h29 (by simpa using h)).imp fun T e => ⟨e.1, e.2.1, fun h9 => e.2.2.1 (by simpa using h9), fun h9 => e.2.2.2 (by simpa using h9)⟩), ⟨(fun h => F9.out.2.1.2.2.2.1 (up_ne rfl h)), (fun h => F9.out.2.1.2.2.2.2 (up_ne rfl h))⟩⟩⟩⟩, ⟨⟨⟨(fun h => up_of (F9.out.2.2.1.1.1 (up_ne rfl h))), (fun h => up_of (F9.out.2.2.1.1.2 (up_ne rfl h)))⟩, ⟨(fun h => up_of (F9.out.2.2.1.2.1 (up_ne rfl h))), ⟨(fun h => up_of (F9.out.2.2.1.2.2.1 (up_ne rfl h))), (fun h => up_of (F9.out.2.2.1.2.2.2 (up_ne rfl h)))⟩⟩⟩, ⟨⟨(fun h => up_of (F9.out.2.2.2.1.1 (up_ne rfl h))), ⟨(fun h => up_of (F9.out.2.2.2.1.2.1 (up_ne rfl h))), (fun h => up_of (F9.out.2.2.2.1.2.2 (up_ne rfl h)))⟩⟩, ⟨(fun h => up_of (F9.out.2.2.2.2.1 (up_ne rfl h))), ⟨(fun h => up_of (F9.out.2.2.2.2.2.1 (up_ne rfl h))), (fun h => up_of (F9.out.2.2.2.2.2.2 (up_ne rfl h)))⟩⟩⟩⟩⟩⟩⟩
        · simp only [List.getElem?_toArray, List.getElem?_cons_zero, List.getElem?_cons_succ, Option.some.injEq] at ho
          subst ho
          have hk := F9.out.1.1.1.1.1
          have h9 := F9.out.1.1.2.2.2.2
          have h29 := F9.out.2.1.2.2.1
          go_simp
          refine hK.out _ _ ⟨_, _, _, _, _, _, _, _, _, _, _, _, _, _, _, _, _, _, _, _, _, _, _, _, _, _, _, _, _, _, _, _, rfl, hid ⟨⟨⟨⟨⟨(hk), (fun h => F9.out.1.1.1.1.2 (up_ne rfl h))⟩, ⟨(fun h => F9.out.1.1.1.2.1 (up_ne rfl h)), ⟨(fun _ => rfl), (fun h => F9.out.1.1.1.2.2.2 (up_ne rfl h))⟩⟩⟩, ⟨⟨(fun h => F9.out.1.1.2.1.1 (up_ne rfl h)), ⟨(fun h => F9.out.1.1.2.1.2.1 (up_ne rfl h)), (fun h => F9.out.1.1.2.1.2.2 (up_ne rfl h))⟩⟩, ⟨(fun h => F9.out.1.1.2.2.1 (up_ne rfl h)), ⟨(fun h => F9.out.1.1.2.2.2.1 (up_ne rfl h)), (fun h => F9.out.1.1.2.2.2.2 (up_ne rfl h))⟩⟩⟩⟩, ⟨⟨⟨(fun h => F9.out.1.2.1.1.1 (up_ne rfl h)), (fun h => F9.out.1.2.1.1.2 (up_ne rfl h))⟩, ⟨(fun h => F9.out.1.2.1.2.1 (up_ne rfl h)), ⟨(fun h => F9.out.1.2.1.2.2.1 (up_ne rfl h)), (fun h => F9.out.1.2.1.2.2.2 (up_ne rfl h))⟩⟩⟩, ⟨⟨(fun h => F9.out.1.2.2.1.1 (up_ne rfl h)), ⟨(fun h => F9.out.1.2.2.1.2.1 (up_ne rfl h)), (fun h => F9.out.1.2.2.1.2.2 (up_ne rfl h))⟩⟩, ⟨(fun h => F9.out.1.2.2.2.1 (up_ne rfl h)), ⟨(fun h => F9.out.1.2.2.2.2.1 (up_ne rfl h)), (fun h => F9.out.1.2.2.2.2.2 (up_ne rfl h))⟩⟩⟩⟩⟩, ⟨⟨⟨⟨(fun h => F9.out.2.1.1.1.1 (up_ne rfl h)), (fun h => F9.out.2.1.1.1.2 (up_ne rfl h))⟩, ⟨(fun h => F9.out.2.1.1.2.1 (up_ne rfl h)), ⟨(fun h => F9.out.2.1.1.2.2.1 (up_ne rfl h)), (fun h => F9.out.2.1.1.2.2.2 (up_ne rfl h))⟩⟩⟩, ⟨⟨(fun h => F9.out.2.1.2.1.1 (up_ne rfl h)), ⟨(fun h => F9.out.2.1.2.1.2.1 (up_ne rfl h)), (fun h => F9.out.2.1.2.1.2.2 (up_ne rfl h))⟩⟩, ⟨(fun h => (h29 (by simpa using h)).imp fun T e => ⟨e.1, e.2.1, fun h9 => e.2.2.1 (by simpa using h9), fun h9 => e.2.2.2 (by simpa using h9)⟩), ⟨(fun h => F9.out.2.1.2.2.2.1 (up_ne rfl h)), (fun h => F9.out.2.1.2.2.2.2 (up_ne rfl h))⟩⟩⟩⟩, ⟨⟨⟨(fun h => up_of (F9.out.2.2.1.1.1 (up_ne rfl h))), (fun h => up_of (F9.out.2.2.1.1.2 (up_ne rfl h)))⟩, ⟨(fun h => up_of (F9.out.2.2.1.2.1 (up_ne rfl h))), ⟨(fun h => up_of (F9.out.2.2.1.2.2.1 (up_ne rfl h))), (fun h => up_of (F9.out.2.2.1.2.2.2 (up_ne rfl h)))⟩⟩⟩, ⟨⟨(fun h => up_of (F9.out.2.2.2.1.1 (up_ne rfl h))), ⟨(fun h => up_of (F9.out.2.2.2.1.2.1 (up_ne rfl h))), (fun h => up_of (F9.out.2.2.2.1.2.2 (up_ne rfl h)))⟩⟩, ⟨(fun h => up_of (F9.out.2.2.2.2.1 (up_ne rfl h))), ⟨(fun h => up_of (F9.out.2.2.2.2.2.1 (up_ne rfl h))), (fun h => up_of (F9.out.2.2.2.2.2.2 (up_ne rfl h)))⟩⟩⟩⟩⟩⟩⟩
        · simp only [List.getElem?_toArray, List.getElem?_cons_zero, List.getElem?_cons_succ, Option.some.injEq] at ho
          subst ho
          have hk := F9.out.1.1.1.1.1
          have h9 := F9.out.1.1.2.2.2.2
          have h29 := F9.out.2.1.2.2.1
          go_simp
          refine hK.out _ _ ⟨_, _, _, _, _, _, _, _, _, _, _, _, _, _, _, _, _, _, _, _, _, _, _, _, _, _, _, _, _, _, _, _, rfl, hid ⟨⟨⟨⟨⟨(hk), (fun h => F9.out.1.1.1.1.2 (up_ne rfl h))⟩, ⟨(fun h => F9.out.1.1.1.2.1 (up_ne rfl h)), ⟨(fun h => F9.out.1.1.1.2.2.1 (up_ne rfl h)), (fun _ => rfl)⟩⟩⟩, ⟨⟨(fun h => F9.out.1.1.2.1.1 (up_ne rfl h)), ⟨(fun h => F9.out.1.1.2.1.2.1 (up_ne rfl h)), (fun h => F9.out.1.1.2.1.2.2 (up_ne rfl h))⟩⟩, ⟨(fun h => F9.out.1.1.2.2.1 (up_ne rfl h)), ⟨(fun h => F9.out.1.1.2.2.2.1 (up_ne rfl h)), (fun h => F9.out.1.1.2.2.2.2 (up_ne rfl h))⟩⟩⟩⟩, ⟨⟨⟨(fun h => F9.out.1.2.1.1.1 (up_ne rfl h)), (fun h => F9.out.1.2.1.1.2 (up_ne rfl h))⟩, ⟨(fun h => F9.out.1.2.1.2.1 (up_ne rfl h)), ⟨(fun h => F9.out.1.2.1.2.2.1 (up_ne rfl h)), (fun h => F9.out.1.2.1.2.2.2 (up_ne rfl h))⟩⟩⟩, ⟨⟨(fun h => F9.out.1.2.2.1.1 (up_ne rfl h)), ⟨(fun h => F9.out.1.2.2.1.2.1 (up_ne rfl h)), (fun h => F9.out.1.2.2.1.2.2 (up_ne rfl h))⟩⟩, ⟨(fun h => F9.out.1.2.2.2.1 (up_ne rfl h)), ⟨(fun h => F9.out.1.2.2.2.2.1 (up_ne rfl h)), (fun h => F9.out.1.2.2.2.2.2 (up_ne rfl h))⟩⟩⟩⟩⟩, ⟨⟨⟨⟨(fun h => F9.out.2.1.1.1.1 (up_ne rfl h)), (fun h => F9.out.2.1.1.1.2 (up_ne rfl h))⟩, ⟨(fun h => F9.out.2.1.1.2.1 (up_ne rfl h)), ⟨(fun h => F9.out.2.1.1.2.2.1 (up_ne rfl h)), (fun h => F9.out.2.1.1.2.2.2 (up_ne rfl h))⟩⟩⟩, ⟨⟨(fun h => F9.out.2.1.2.1.1 (up_ne rfl h)), ⟨(fun h => F9.out.2.1.2.1.2.1 (up_ne rfl h)), (fun h => F9.out.2.1.2.1.2.2 (up_ne rfl h))⟩⟩, ⟨(fun h => (h29 (by simpa using h)).imp fun T e => ⟨e.1, e.2.1, fun h9 => e.2.2.1 (by simpa using h9), fun h9 => e.2.2.2 (by simpa using h9)⟩), ⟨(fun h => F9.out.2.1.2.2.2.1 (up_ne rfl h)), (fun h => F9.out.2.1.2.2.2.2 (up_ne rfl h))⟩⟩⟩⟩, ⟨⟨⟨(fun h => up_of (F9.out.2.2.1.1.1 (up_ne rfl h))), (fun h => up_of (F9.out.2.2.1.1.2 (up_ne rfl h)))⟩, ⟨(fun h => up_of (F9.out.2.2.1.2.1 (up_ne rfl h))), ⟨(fun h => up_of (F9.out.2.2.1.2.2.1 (up_ne rfl h))), (fun h => up_of (F9.out.2.2.1.2.2.2 (up_ne rfl h)))⟩⟩⟩, ⟨⟨(fun h => up_of (F9.out.2.2.2.1.1 (up_ne rfl h))), ⟨(fun h => up_of (F9.out.2.2.2.1.2.1 (up_ne rfl h))), (fun h => up_of (F9.out.2.2.2.1.2.2 (up_ne rfl h)))⟩⟩, ⟨(fun h => up_of (F9.out.2.2.2.2.1 (up_ne rfl h))), ⟨(fun h => up_of (F9.out.2.2.2.2.2.1 (up_ne rfl h))), (fun h => up_of (F9.out.2.2.2.2.2.2 (up_ne rfl h)))⟩⟩⟩⟩⟩⟩⟩
        · simp only [List.getElem?_toArray, List.getElem?_cons_zero, List.getElem?_cons_succ, Option.some.injEq] at ho
          subst ho
          have hk := F9.out.1.1.1.1.1
          have h3 := F9.out.1.1.1.2.2.2
          have h9 := F9.out.1.1.2.2.2.2
          have h29 := F9.out.2.1.2.2.1
          have e_3 := dep 3 (by kernel_rfl)
          obtain rfl := h3 e_3
          go_simp
          refine hK.out _ _ ⟨_, _, _, _, _, _, _, _, _, _, _, _, _, _, _, _, _, _, _, _, _, _, _, _, _, _, _, _, _, _, _, _, rfl, hid ⟨⟨⟨⟨⟨(hk), (fun h => F9.out.1.1.1.1.2 (up_ne rfl h))⟩, ⟨(fun h => F9.out.1.1.1.2.1 (up_ne rfl h)), ⟨(fun h => F9.out.1.1.1.2.2.1 (up_ne rfl h)), (fun _ => rfl)⟩⟩⟩, ⟨⟨(fun _ => rfl), ⟨(fun h => F9.out.1.1.2.1.2.1 (up_ne rfl h)), (fun h => F9.out.1.1.2.1.2.2 (up_ne rfl h))⟩⟩, ⟨(fun h => F9.out.1.1.2.2.1 (up_ne rfl h)), ⟨(fun h => F9.out.1.1.2.2.2.1 (up_ne rfl h)), (fun h => F9.out.1.1.2.2.2.2 (up_ne rfl h))⟩⟩⟩⟩, ⟨⟨⟨(fun h => F9.out.1.2.1.1.1 (up_ne rfl h)), (fun h => F9.out.1.2.1.1.2 (up_ne rfl h))⟩, ⟨(fun h => F9.out.1.2.1.2.1 (up_ne rfl h)), ⟨(fun h => F9.out.1.2.1.2.2.1 (up_ne rfl h)), (fun h => F9.out.1.2.1.2.2.2 (up_ne rfl h))⟩⟩⟩, ⟨⟨(fun h => F9.out.1.2.2.1.1 (up_ne rfl h)), ⟨(fun h => F9.out.1.2.2.1.2.1 (up_ne rfl h)), (fun h => F9.out.1.2.2.1.2.2 (up_ne rfl h))⟩⟩, ⟨(fun h => F9.out.1.2.2.2.1 (up_ne rfl h)), ⟨(fun h => F9.out.1.2.2.2.2.1 (up_ne rfl h)), (fun h => F9.out.1.2.2.2.2.2 (up_ne rfl h))⟩⟩⟩⟩⟩, ⟨⟨⟨⟨(fun h => F9.out.2.1.1.1.1 (up_ne rfl h)), (fun h => F9.out.2.1.1.1.2 (up_ne rfl h))⟩, ⟨(fun h => F9.out.2.1.1.2.1 (up_ne rfl h)), ⟨(fun h => F9.out.2.1.1.2.2.1 (up_ne rfl h)), (fun h => F9.out.2.1.1.2.2.2 (up_ne rfl h))⟩⟩⟩, ⟨⟨(fun h => F9.out.2.1.2.1.1 (up_ne rfl h)), ⟨(fun h => F9.out.2.1.2.1.2.1 (up_ne rfl h)), (fun h => F9.out.2.1.2.1.2.2 (up_ne rfl h))⟩⟩, ⟨(fun h => (h29 (by simpa using h)).imp fun T e => ⟨e.1, e.2.1, fun h9 => e.2.2.1 (by simpa using h9), fun h9 => e.2.2.2 (by simpa using h9)⟩), ⟨(fun h => F9.out.2.1.2.2.2.1 (up_ne rfl h)), (fun h => F9.out.2.1.2.2.2.2 (up_ne rfl h))⟩⟩⟩⟩, ⟨⟨⟨(fun h => up_of (F9.out.2.2.1.1.1 (up_ne rfl h))), (fun h => up_of (F9.out.2.2.1.1.2 (up_ne rfl h)))⟩, ⟨(fun h => up_of (F9.out.2.2.1.2.1 (up_ne rfl h))), ⟨(fun h => up_of (F9.out.2.2.1.2.2.1 (up_ne rfl h))), (fun h => up_of (F9.out.2.2.1.2.2.2 (up_ne rfl h)))⟩⟩⟩, ⟨⟨(fun h => up_of (F9.out.2.2.2.1.1 (up_ne rfl h))), ⟨(fun h => up_of (F9.out.2.2.2.1.2.1 (up_ne rfl h))), (fun h => up_of (F9.out.2.2.2.1.2.2 (up_ne rfl h)))⟩⟩, ⟨(fun h => up_of (F9.out.2.2.2.2.1 (up_ne rfl h))), ⟨(fun h => up_of (F9.out.2.2.2.2.2.1 (up_ne rfl h))), (fun h => up_of (F9.out.2.2.2.2.2.2 (up_ne rfl h)))⟩⟩⟩⟩⟩⟩⟩
        · simp only [List.getElem?_toArray, List.getElem?_cons_zero, List.getElem?_cons_succ, Option.some.injEq] at ho
          subst ho
          have hk := F9.out.1.1.1.1.1
          have h4 := F9.out.1.1.2.1.1
          have h9 := F9.out.1.1.2.2.2.2
          have h29 := F9.out.2.1.2.2.1
          have e_4 := dep 4 (by kernel_rfl)
          obtain rfl := h4 e_4
          obtain ⟨d0, d1, d2, d3, d4, d5, d6⟩ := cells7 ((hk.block _ (heap_lt X.out.1)).trans X.out.1)
          go_simp
          refine hK.out _ _ ⟨_, _, _, _, _, _, _, _, _, _, _, _, _, _, _, _, _, _, _, _, _, _, _, _, _, _, _, _, _, _, _, _, rfl, hid ⟨⟨⟨⟨⟨(hk), (fun h => F9.out.1.1.1.1.2 (up_ne rfl h))⟩, ⟨(fun h => F9.out.1.1.1.2.1 (up_ne rfl h)), ⟨(fun h => F9.out.1.1.1.2.2.1 (up_ne rfl h)), (fun h => F9.out.1.1.1.2.2.2 (up_ne rfl h))⟩⟩⟩, ⟨⟨(fun _ => rfl), ⟨(fun _ => rfl), (fun h => F9.out.1.1.2.1.2.2 (up_ne rfl h))⟩⟩, ⟨(fun h => F9.out.1.1.2.2.1 (up_ne rfl h)), ⟨(fun h => F9.out.1.1.2.2.2.1 (up_ne rfl h)), (fun h => F9.out.1.1.2.2.2.2 (up_ne rfl h))⟩⟩⟩⟩, ⟨⟨⟨(fun h => F9.out.1.2.1.1.1 (up_ne rfl h)), (fun h => F9.out.1.2.1.1.2 (up_ne rfl h))⟩, ⟨(fun h => F9.out.1.2.1.2.1 (up_ne rfl h)), ⟨(fun h => F9.out.1.2.1.2.2.1 (up_ne rfl h)), (fun h => F9.out.1.2.1.2.2.2 (up_ne rfl h))⟩⟩⟩, ⟨⟨(fun h => F9.out.1.2.2.1.1 (up_ne rfl h)), ⟨(fun h => F9.out.1.2.2.1.2.1 (up_ne rfl h)), (fun h => F9.out.1.2.2.1.2.2 (up_ne rfl h))⟩⟩, ⟨(fun h => F9.out.1.2.2.2.1 (up_ne rfl h)), ⟨(fun h => F9.out.1.2.2.2.2.1 (up_ne rfl h)), (fun h => F9.out.1.2.2.2.2.2 (up_ne rfl h))⟩⟩⟩⟩⟩, ⟨⟨⟨⟨(fun h => F9.out.2.1.1.1.1 (up_ne rfl h)), (fun h => F9.out.2.1.1.1.2 (up_ne rfl h))⟩, ⟨(fun h => F9.out.2.1.1.2.1 (up_ne rfl h)), ⟨(fun h => F9.out.2.1.1.2.2.1 (up_ne rfl h)), (fun h => F9.out.2.1.1.2.2.2 (up_ne rfl h))⟩⟩⟩, ⟨⟨(fun h => F9.out.2.1.2.1.1 (up_ne rfl h)), ⟨(fun h => F9.out.2.1.2.1.2.1 (up_ne rfl h)), (fun h => F9.out.2.1.2.1.2.2 (up_ne rfl h))⟩⟩, ⟨(fun h => (h29 (by simpa using h)).imp fun T e => ⟨e.1, e.2.1, fun h9 => e.2.2.1 (by simpa using h9), fun h9 => e.2.2.2 (by simpa using h9)⟩), ⟨(fun h => F9.out.2.1.2.2.2.1 (up_ne rfl h)), (fun h => F9.out.2.1.2.2.2.2 (up_ne rfl h))⟩⟩⟩⟩, ⟨⟨⟨(fun h => up_of (F9.out.2.2.1.1.1 (up_ne rfl h))), (fun h => up_of (F9.out.2.2.1.1.2 (up_ne rfl h)))⟩, ⟨(fun h => up_of (F9.out.2.2.1.2.1 (up_ne rfl h))), ⟨(fun h => up_of (F9.out.2.2.1.2.2.1 (up_ne rfl h))), (fun h => up_of (F9.out.2.2.1.2.2.2 (up_ne rfl h)))⟩⟩⟩, ⟨⟨(fun h => up_of (F9.out.2.2.2.1.1 (up_ne rfl h))), ⟨(fun h => up_of (F9.out.2.2.2.1.2.1 (up_ne rfl h))), (fun h => up_of (F9.out.2.2.2.1.2.2 (up_ne rfl h)))⟩⟩, ⟨(fun h => up_of (F9.out.2.2.2.2.1 (up_ne rfl h))), ⟨(fun h => up_of (F9.out.2.2.2.2.2.1 (up_ne rfl h))), (fun h => up_of (F9.out.2.2.2.2.2.2 (up_ne rfl h)))⟩⟩⟩⟩⟩⟩⟩
        · simp only [List.getElem?_toArray, List.getElem?_cons_zero, List.getElem?_cons_succ, Option.some.injEq] at ho
          subst ho
          have hk := F9.out.1.1.1.1.1
          have h9 := F9.out.1.1.2.2.2.2
          have h29 := F9.out.2.1.2.2.1
          go_simp
          refine hK.out _ _ ⟨_, _, _, _, _, _, _, _, _, _, _, _, _, _, _, _, _, _, _, _, _, _, _, _, _, _, _, _, _, _, _, _, rfl, hid ⟨⟨⟨⟨⟨(hk), (fun h => F9.out.1.1.1.1.2 (up_ne rfl h))⟩, ⟨(fun h => F9.out.1.1.1.2.1 (up_ne rfl h)), ⟨(fun h => F9.out.1.1.1.2.2.1 (up_ne rfl h)), (fun h => F9.out.1.1.1.2.2.2 (up_ne rfl h))⟩⟩⟩, ⟨⟨(fun h => F9.out.1.1.2.1.1 (up_ne rfl h)), ⟨(fun h => F9.out.1.1.2.1.2.1 (up_ne rfl h)), (fun _ => rfl)⟩⟩, ⟨(fun h => F9.out.1.1.2.2.1 (up_ne rfl h)), ⟨(fun h => F9.out.1.1.2.2.2.1 (up_ne rfl h)), (fun h => F9.out.1.1.2.2.2.2 (up_ne rfl h))⟩⟩⟩⟩, ⟨⟨⟨(fun h => F9.out.1.2.1.1.1 (up_ne rfl h)), (fun h => F9.out.1.2.1.1.2 (up_ne rfl h))⟩, ⟨(fun h => F9.out.1.2.1.2.1 (up_ne rfl h)), ⟨(fun h => F9.out.1.2.1.2.2.1 (up_ne rfl h)), (fun h => F9.out.1.2.1.2.2.2 (up_ne rfl h))⟩⟩⟩, ⟨⟨(fun h => F9.out.1.2.2.1.1 (up_ne rfl h)), ⟨(fun h => F9.out.1.2.2.1.2.1 (up_ne rfl h)), (fun h => F9.out.1.2.2.1.2.2 (up_ne rfl h))⟩⟩, ⟨(fun h => F9.out.1.2.2.2.1 (up_ne rfl h)), ⟨(fun h => F9.out.1.2.2.2.2.1 (up_ne rfl h)), (fun h => F9.out.1.2.2.2.2.2 (up_ne rfl h))⟩⟩⟩⟩⟩, ⟨⟨⟨⟨(fun h => F9.out.2.1.1.1.1 (up_ne rfl h)), (fun h => F9.out.2.1.1.1.2 (up_ne rfl h))⟩, ⟨(fun h => F9.out.2.1.1.2.1 (up_ne rfl h)), ⟨(fun h => F9.out.2.1.1.2.2.1 (up_ne rfl h)), (fun h => F9.out.2.1.1.2.2.2 (up_ne rfl h))⟩⟩⟩, ⟨⟨(fun h => F9.out.2.1.2.1.1 (up_ne rfl h)), ⟨(fun h => F9.out.2.1.2.1.2.1 (up_ne rfl h)), (fun h => F9.out.2.1.2.1.2.2 (up_ne rfl h))⟩⟩, ⟨(fun h => (h29 (by simpa using h)).imp fun T e => ⟨e.1, e.2.1, fun h9 => e.2.2.1 (by simpa using h9), fun h9 => e.2.2.2 (by simpa using h9)⟩), ⟨(fun h => F9.out.2.1.2.2.2.1 (up_ne rfl h)), (fun h => F9.out.2.1.2.2.2.2 (up_ne rfl h))⟩⟩⟩⟩, ⟨⟨⟨(fun h => up_of (F9.out.2.2.1.1.1 (up_ne rfl h))), (fun h => up_of (F9.out.2.2.1.1.2 (up_ne rfl h)))⟩, ⟨(fun h => up_of (F9.out.2.2.1.2.1 (up_ne rfl h))), ⟨(fun h => up_of (F9.out.2.2.1.2.2.1 (up_ne rfl h))), (fun h => up_of (F9.out.2.2.1.2.2.2 (up_ne rfl h)))⟩⟩⟩, ⟨⟨(fun h => up_of (F9.out.2.2.2.1.1 (up_ne rfl h))), ⟨(fun h => up_of (F9.out.2.2.2.1.2.1 (up_ne rfl h))), (fun h => up_of (F9.out.2.2.2.1.2.2 (up_ne rfl h)))⟩⟩, ⟨(fun h => up_of (F9.out.2.2.2.2.1 (up_ne rfl h))), ⟨(fun h => up_of (F9.out.2.2.2.2.2.1 (up_ne rfl h))), (fun h => up_of (F9.out.2.2.2.2.2.2 (up_ne rfl h)))⟩⟩⟩⟩⟩⟩⟩
        · simp only [List.getElem?_toArray, List.getElem?_cons_zero, List.getElem?_cons_succ, Option.some.injEq] at ho
          subst ho
          have hk := F9.out.1.1.1.1.1
          have h6 := F9.out.1.1.2.1.2.2
          have h9 := F9.out.1.1.2.2.2.2
          have h29 := F9.out.2.1.2.2.1
          have e_6 := dep 6 (by kernel_rfl)
          obtain rfl := h6 e_6
          go_simp
          refine hK.out _ _ ⟨_, _, _, _, _, _, _, _, _, _, _, _, _, _, _, _, _, _, _, _, _, _, _, _, _, _, _, _, _, _, _, _, rfl, hid ⟨⟨⟨⟨⟨(hk), (fun h => F9.out.1.1.1.1.2 (up_ne rfl h))⟩, ⟨(fun h => F9.out.1.1.1.2.1 (up_ne rfl h)), ⟨(fun h => F9.out.1.1.1.2.2.1 (up_ne rfl h)), (fun h => F9.out.1.1.1.2.2.2 (up_ne rfl h))⟩⟩⟩, ⟨⟨(fun h => F9.out.1.1.2.1.1 (up_ne rfl h)), ⟨(fun h => F9.out.1.1.2.1.2.1 (up_ne rfl h)), (fun _ => rfl)⟩⟩, ⟨(fun _ => rfl), ⟨(fun h => F9.out.1.1.2.2.2.1 (up_ne rfl h)), (fun h => F9.out.1.1.2.2.2.2 (up_ne rfl h))⟩⟩⟩⟩, ⟨⟨⟨(fun h => F9.out.1.2.1.1.1 (up_ne rfl h)), (fun h => F9.out.1.2.1.1.2 (up_ne rfl h))⟩, ⟨(fun h => F9.out.1.2.1.2.1 (up_ne rfl h)), ⟨(fun h => F9.out.1.2.1.2.2.1 (up_ne rfl h)), (fun h => F9.out.1.2.1.2.2.2 (up_ne rfl h))⟩⟩⟩, ⟨⟨(fun h => F9.out.1.2.2.1.1 (up_ne rfl h)), ⟨(fun h => F9.out.1.2.2.1.2.1 (up_ne rfl h)), (fun h => F9.out.1.2.2.1.2.2 (up_ne rfl h))⟩⟩, ⟨(fun h => F9.out.1.2.2.2.1 (up_ne rfl h)), ⟨(fun h => F9.out.1.2.2.2.2.1 (up_ne rfl h)), (fun h => F9.out.1.2.2.2.2.2 (up_ne rfl h))⟩⟩⟩⟩⟩, ⟨⟨⟨⟨(fun h => F9.out.2.1.1.1.1 (up_ne rfl h)), (fun h => F9.out.2.1.1.1.2 (up_ne rfl h))⟩, ⟨(fun h => F9.out.2.1.1.2.1 (up_ne rfl h)), ⟨(fun h => F9.out.2.1.1.2.2.1 (up_ne rfl h)), (fun h => F9.out.2.1.1.2.2.2 (up_ne rfl h))⟩⟩⟩, ⟨⟨(fun h => F9.out.2.1.2.1.1 (up_ne rfl h)), ⟨(fun h => F9.out.2.1.2.1.2.1 (up_ne rfl h)), (fun h => F9.out.2.1.2.1.2.2 (up_ne rfl h))⟩⟩, ⟨(fun h => (h29 (by simpa using h)).imp fun T e => ⟨e.1, e.2.1, fun h9 => e.2.2.1 (by simpa using h9), fun h9 => e.2.2.2 (by simpa using h9)⟩), ⟨(fun h => F9.out.2.1.2.2.2.1 (up_ne rfl h)), (fun h => F9.out.2.1.2.2.2.2 (up_ne rfl h))⟩⟩⟩⟩, ⟨⟨⟨(fun h => up_of (F9.out.2.2.1.1.1 (up_ne rfl h))), (fun h => up_of (F9.out.2.2.1.1.2 (up_ne rfl h)))⟩, ⟨(fun h => up_of (F9.out.2.2.1.2.1 (up_ne rfl h))), ⟨(fun h => up_of (F9.out.2.2.1.2.2.1 (up_ne rfl h))), (fun h => up_of (F9.out.2.2.1.2.2.2 (up_ne rfl h)))⟩⟩⟩, ⟨⟨(fun h => up_of (F9.out.2.2.2.1.1 (up_ne rfl h))), ⟨(fun h => up_of (F9.out.2.2.2.1.2.1 (up_ne rfl h))), (fun h => up_of (F9.out.2.2.2.1.2.2 (up_ne rfl h)))⟩⟩, ⟨(fun h => up_of (F9.out.2.2.2.2.1 (up_ne rfl h))), ⟨(fun h => up_of (F9.out.2.2.2.2.2.1 (up_ne rfl h))), (fun h => up_of (F9.out.2.2.2.2.2.2 (up_ne rfl h)))⟩⟩⟩⟩⟩⟩⟩
        · simp only [List.getElem?_toArray, List.getElem?_cons_zero, List.getElem?_cons_succ, Option.some.injEq] at ho
          subst ho
          have hk := F9.out.1.1.1.1.1
          have h7 := F9.out.1.1.2.2.1
          have h9 := F9.out.1.1.2.2.2.2
          have h29 := F9.out.2.1.2.2.1
          have e_7 := dep 7 (by kernel_rfl)
          obtain rfl := h7 e_7
          obtain ⟨d0, d1, d2, d3, d4, d5, d6⟩ := cells7 ((hk.block _ (heap_lt X.out.1)).trans X.out.1)
          go_simp
          refine hK.out _ _ ⟨_, _, _, _, _, _, _, _, _, _, _, _, _, _, _, _, _, _, _, _, _, _, _, _, _, _, _, _, _, _, _, _, rfl, hid ⟨⟨⟨⟨⟨(hk), (fun h => F9.out.1.1.1.1.2 (up_ne rfl h))⟩, ⟨(fun h => F9.out.1.1.1.2.1 (up_ne rfl h)), ⟨(fun h => F9.out.1.1.1.2.2.1 (up_ne rfl h)), (fun h => F9.out.1.1.1.2.2.2 (up_ne rfl h))⟩⟩⟩, ⟨⟨(fun h => F9.out.1.1.2.1.1 (up_ne rfl h)), ⟨(fun h => F9.out.1.1.2.1.2.1 (up_ne rfl h)), (fun h => F9.out.1.1.2.1.2.2 (up_ne rfl h))⟩⟩, ⟨(fun _ => rfl), ⟨(fun _ => rfl), (fun h => F9.out.1.1.2.2.2.2 (up_ne rfl h))⟩⟩⟩⟩, ⟨⟨⟨(fun h => F9.out.1.2.1.1.1 (up_ne rfl h)), (fun h => F9.out.1.2.1.1.2 (up_ne rfl h))⟩, ⟨(fun h => F9.out.1.2.1.2.1 (up_ne rfl h)), ⟨(fun h => F9.out.1.2.1.2.2.1 (up_ne rfl h)), (fun h => F9.out.1.2.1.2.2.2 (up_ne rfl h))⟩⟩⟩, ⟨⟨(fun h => F9.out.1.2.2.1.1 (up_ne rfl h)), ⟨(fun h => F9.out.1.2.2.1.2.1 (up_ne rfl h)), (fun h => F9.out.1.2.2.1.2.2 (up_ne rfl h))⟩⟩, ⟨(fun h => F9.out.1.2.2.2.1 (up_ne rfl h)), ⟨(fun h => F9.out.1.2.2.2.2.1 (up_ne rfl h)), (fun h => F9.out.1.2.2.2.2.2 (up_ne rfl h))⟩⟩⟩⟩⟩, ⟨⟨⟨⟨(fun h => F9.out.2.1.1.1.1 (up_ne rfl h)), (fun h => F9.out.2.1.1.1.2 (up_ne rfl h))⟩, ⟨(fun h => F9.out.2.1.1.2.1 (up_ne rfl h)), ⟨(fun h => F9.out.2.1.1.2.2.1 (up_ne rfl h)), (fun h => F9.out.2.1.1.2.2.2 (up_ne rfl h))⟩⟩⟩, ⟨⟨(fun h => F9.out.2.1.2.1.1 (up_ne rfl h)), ⟨(fun h => F9.out.2.1.2.1.2.1 (up_ne rfl h)), (fun h => F9.out.2.1.2.1.2.2 (up_ne rfl h))⟩⟩, ⟨(fun h => (h29 (by simpa using h)).imp fun T e => ⟨e.1, e.2.1, fun h9 => e.2.2.1 (by simpa using h9), fun h9 => e.2.2.2 (by simpa using h9)⟩), ⟨(fun h => F9.out.2.1.2.2.2.1 (up_ne rfl h)), (fun h => F9.out.2.1.2.2.2.2 (up_ne rfl h))⟩⟩⟩⟩, ⟨⟨⟨(fun h => up_of (F9.out.2.2.1.1.1 (up_ne rfl h))), (fun h => up_of (F9.out.2.2.1.1.2 (up_ne rfl h)))⟩, ⟨(fun h => up_of (F9.out.2.2.1.2.1 (up_ne rfl h))), ⟨(fun h => up_of (F9.out.2.2.1.2.2.1 (up_ne rfl h))), (fun h => up_of (F9.out.2.2.1.2.2.2 (up_ne rfl h)))⟩⟩⟩, ⟨⟨(fun h => up_of (F9.out.2.2.2.1.1 (up_ne rfl h))), ⟨(fun h => up_of (F9.out.2.2.2.1.2.1 (up_ne rfl h))), (fun h => up_of (F9.out.2.2.2.1.2.2 (up_ne rfl h)))⟩⟩, ⟨(fun h => up_of (F9.out.2.2.2.2.1 (up_ne rfl h))), ⟨(fun h => up_of (F9.out.2.2.2.2.2.1 (up_ne rfl h))), (fun h => up_of (F9.out.2.2.2.2.2.2 (up_ne rfl h)))⟩⟩⟩⟩⟩⟩⟩
        · simp only [List.getElem?_toArray, List.getElem?_cons_zero, List.getElem?_cons_succ, Option.some.injEq] at ho
          subst ho
          have hk := F9.out.1.1.1.1.1
          have h8 := F9.out.1.1.2.2.2.1
          have h9 := F9.out.1.1.2.2.2.2
          have h29 := F9.out.2.1.2.2.1
          have e_8 := dep 8 (by kernel_rfl)
          obtain rfl := h8 e_8
          go_simp
          refine hK.out _ _ ⟨_, _, _, _, _, _, _, _, _, _, _, _, _, _, _, _, _, _, _, _, _, _, _, _, _, _, _, _, _, _, _, _, rfl, hid ⟨⟨⟨⟨⟨(hk), (fun h => F9.out.1.1.1.1.2 (up_ne rfl h))⟩, ⟨(fun h => F9.out.1.1.1.2.1 (up_ne rfl h)), ⟨(fun h => F9.out.1.1.1.2.2.1 (up_ne rfl h)), (fun h => F9.out.1.1.1.2.2.2 (up_ne rfl h))⟩⟩⟩, ⟨⟨(fun h => F9.out.1.1.2.1.1 (up_ne rfl h)), ⟨(fun h => F9.out.1.1.2.1.2.1 (up_ne rfl h)), (fun h => F9.out.1.1.2.1.2.2 (up_ne rfl h))⟩⟩, ⟨(fun h => F9.out.1.1.2.2.1 (up_ne rfl h)), ⟨(fun _ => rfl), (fun _ => rfl)⟩⟩⟩⟩, ⟨⟨⟨(fun h => F9.out.1.2.1.1.1 (up_ne rfl h)), (fun h => F9.out.1.2.1.1.2 (up_ne rfl h))⟩, ⟨(fun h => F9.out.1.2.1.2.1 (up_ne rfl h)), ⟨(fun h => F9.out.1.2.1.2.2.1 (up_ne rfl h)), (fun h => F9.out.1.2.1.2.2.2 (up_ne rfl h))⟩⟩⟩, ⟨⟨(fun h => F9.out.1.2.2.1.1 (up_ne rfl h)), ⟨(fun h => F9.out.1.2.2.1.2.1 (up_ne rfl h)), (fun h => F9.out.1.2.2.1.2.2 (up_ne rfl h))⟩⟩, ⟨(fun h => F9.out.1.2.2.2.1 (up_ne rfl h)), ⟨(fun h => F9.out.1.2.2.2.2.1 (up_ne rfl h)), (fun h => F9.out.1.2.2.2.2.2 (up_ne rfl h))⟩⟩⟩⟩⟩, ⟨⟨⟨⟨(fun h => F9.out.2.1.1.1.1 (up_ne rfl h)), (fun h => F9.out.2.1.1.1.2 (up_ne rfl h))⟩, ⟨(fun h => F9.out.2.1.1.2.1 (up_ne rfl h)), ⟨(fun h => F9.out.2.1.1.2.2.1 (up_ne rfl h)), (fun h => F9.out.2.1.1.2.2.2 (up_ne rfl h))⟩⟩⟩, ⟨⟨(fun h => F9.out.2.1.2.1.1 (up_ne rfl h)), ⟨(fun h => F9.out.2.1.2.1.2.1 (up_ne rfl h)), (fun h => F9.out.2.1.2.1.2.2 (up_ne rfl h))⟩⟩, ⟨(fun h => (h29 (by simpa using h)).imp fun T e => ⟨e.1, e.2.1, fun h9 => e.2.2.1 (by simpa using h9), fun h9 => e.2.2.2 (by simpa using h9)⟩), ⟨(fun h => F9.out.2.1.2.2.2.1 (up_ne rfl h)), (fun h => F9.out.2.1.2.2.2.2 (up_ne rfl h))⟩⟩⟩⟩, ⟨⟨⟨(fun h => up_of (F9.out.2.2.1.1.1 (up_ne rfl h))), (fun h => up_of (F9.out.2.2.1.1.2 (up_ne rfl h)))⟩, ⟨(fun h => up_of (F9.out.2.2.1.2.1 (up_ne rfl h))), ⟨(fun h => up_of (F9.out.2.2.1.2.2.1 (up_ne rfl h))), (fun h => up_of (F9.out.2.2.1.2.2.2 (up_ne rfl h)))⟩⟩⟩, ⟨⟨(fun h => up_of (F9.out.2.2.2.1.1 (up_ne rfl h))), ⟨(fun h => up_of (F9.out.2.2.2.1.2.1 (up_ne rfl h))), (fun h => up_of (F9.out.2.2.2.1.2.2 (up_ne rfl h)))⟩⟩, ⟨(fun h => up_of (F9.out.2.2.2.2.1 (up_ne rfl h))), ⟨(fun h => up_of (F9.out.2.2.2.2.2.1 (up_ne rfl h))), (fun h => up_of (F9.out.2.2.2.2.2.2 (up_ne rfl h)))⟩⟩⟩⟩⟩⟩⟩
        · simp only [List.getElem?_toArray, List.getElem?_cons_zero, List.getElem?_cons_succ, Option.some.injEq] at ho
          subst ho
          have hk := F9.out.1.1.1.1.1
          have h9 := F9.out.1.1.2.2.2.2
          have h29 := F9.out.2.1.2.2.1
          go_simp
          refine hK.out _ _ ⟨_, _, _, _, _, _, _, _, _, _, _, _, _, _, _, _, _, _, _, _, _, _, _, _, _, _, _, _, _, _, _, _, rfl, hid ⟨⟨⟨⟨⟨(hk), (fun h => F9.out.1.1.1.1.2 (up_ne rfl h))⟩, ⟨(fun h => F9.out.1.1.1.2.1 (up_ne rfl h)), ⟨(fun h => F9.out.1.1.1.2.2.1 (up_ne rfl h)), (fun h => F9.out.1.1.1.2.2.2 (up_ne rfl h))⟩⟩⟩, ⟨⟨(fun h => F9.out.1.1.2.1.1 (up_ne rfl h)), ⟨(fun h => F9.out.1.1.2.1.2.1 (up_ne rfl h)), (fun h => F9.out.1.1.2.1.2.2 (up_ne rfl h))⟩⟩, ⟨(fun h => F9.out.1.1.2.2.1 (up_ne rfl h)), ⟨(fun h => F9.out.1.1.2.2.2.1 (up_ne rfl h)), (fun h => F9.out.1.1.2.2.2.2 (up_ne rfl h))⟩⟩⟩⟩, ⟨⟨⟨(fun _ => rfl), (fun h => F9.out.1.2.1.1.2 (up_ne rfl h))⟩, ⟨(fun h => F9.out.1.2.1.2.1 (up_ne rfl h)), ⟨(fun h => F9.out.1.2.1.2.2.1 (up_ne rfl h)), (fun h => F9.out.1.2.1.2.2.2 (up_ne rfl h))⟩⟩⟩, ⟨⟨(fun h => F9.out.1.2.2.1.1 (up_ne rfl h)), ⟨(fun h => F9.out.1.2.2.1.2.1 (up_ne rfl h)), (fun h => F9.out.1.2.2.1.2.2 (up_ne rfl h))⟩⟩, ⟨(fun h => F9.out.1.2.2.2.1 (up_ne rfl h)), ⟨(fun h => F9.out.1.2.2.2.2.1 (up_ne rfl h)), (fun h => F9.out.1.2.2.2.2.2 (up_ne rfl h))⟩⟩⟩⟩⟩, ⟨⟨⟨⟨(fun h => F9.out.2.1.1.1.1 (up_ne rfl h)), (fun h => F9.out.2.1.1.1.2 (up_ne rfl h))⟩, ⟨(fun h => F9.out.2.1.1.2.1 (up_ne rfl h)), ⟨(fun h => F9.out.2.1.1.2.2.1 (up_ne rfl h)), (fun h => F9.out.2.1.1.2.2.2 (up_ne rfl h))⟩⟩⟩, ⟨⟨(fun h => F9.out.2.1.2.1.1 (up_ne rfl h)), ⟨(fun h => F9.out.2.1.2.1.2.1 (up_ne rfl h)), (fun h => F9.out.2.1.2.1.2.2 (up_ne rfl h))⟩⟩, ⟨(fun h => (h29 (by simpa using h)).imp fun T e => ⟨e.1, e.2.1, fun h9 => e.2.2.1 (by simpa using h9), fun h9 => e.2.2.2 (by simpa using h9)⟩), ⟨(fun h => F9.out.2.1.2.2.2.1 (up_ne rfl h)), (fun h => F9.out.2.1.2.2.2.2 (up_ne rfl h))⟩⟩⟩⟩, ⟨⟨⟨(fun h => up_of (F9.out.2.2.1.1.1 (up_ne rfl h))), (fun h => up_of (F9.out.2.2.1.1.2 (up_ne rfl h)))⟩, ⟨(fun h => up_of (F9.out.2.2.1.2.1 (up_ne rfl h))), ⟨(fun h => up_of (F9.out.2.2.1.2.2.1 (up_ne rfl h))), (fun h => up_of (F9.out.2.2.1.2.2.2 (up_ne rfl h)))⟩⟩⟩, ⟨⟨(fun h => up_of (F9.out.2.2.2.1.1 (up_ne rfl h))), ⟨(fun h => up_of (F9.out.2.2.2.1.2.1 (up_ne rfl h))), (fun h => up_of (F9.out.2.2.2.1.2.2 (up_ne rfl h)))⟩⟩, ⟨(fun h => up_of (F9.out.2.2.2.2.1 (up_ne rfl h))), ⟨(fun h => up_of (F9.out.2.2.2.2.2.1 (up_ne rfl h))), (fun h => up_of (F9.out.2.2.2.2.2.2 (up_ne rfl h)))⟩⟩⟩⟩⟩⟩⟩
        · simp only [List.getElem?_toArray, List.getElem?_cons_zero, List.getElem?_cons_succ, Option.some.injEq] at ho
          subst ho
          have hk := F9.out.1.1.1.1.1
          have h9 := F9.out.1.1.2.2.2.2
          have h10 := F9.out.1.2.1.1.1
          have h29 := F9.out.2.1.2.2.1
          have e_10 := dep 10 (by kernel_rfl)
          obtain rfl := h10 e_10
          obtain ⟨d0, d1, d2, d3, d4, d5, d6⟩ := cells7 ((hk.block _ (heap_lt X.out.1)).trans X.out.1)
          go_simp
          refine hK.out _ _ ⟨_, _, _, _, _, _, _, _, _, _, _, _, _, _, _, _, _, _, _, _, _, _, _, _, _, _, _, _, _, _, _, _, rfl, hid ⟨⟨⟨⟨⟨(hk), (fun h => F9.out.1.1.1.1.2 (up_ne rfl h))⟩, ⟨(fun h => F9.out.1.1.1.2.1 (up_ne rfl h)), ⟨(fun h => F9.out.1.1.1.2.2.1 (up_ne rfl h)), (fun h => F9.out.1.1.1.2.2.2 (up_ne rfl h))⟩⟩⟩, ⟨⟨(fun h => F9.out.1.1.2.1.1 (up_ne rfl h)), ⟨(fun h => F9.out.1.1.2.1.2.1 (up_ne rfl h)), (fun h => F9.out.1.1.2.1.2.2 (up_ne rfl h))⟩⟩, ⟨(fun h => F9.out.1.1.2.2.1 (up_ne rfl h)), ⟨(fun h => F9.out.1.1.2.2.2.1 (up_ne rfl h)), (fun h => F9.out.1.1.2.2.2.2 (up_ne rfl h))⟩⟩⟩⟩, ⟨⟨⟨(fun _ => rfl), (fun _ => rfl)⟩, ⟨(fun h => F9.out.1.2.1.2.1 (up_ne rfl h)), ⟨(fun h => F9.out.1.2.1.2.2.1 (up_ne rfl h)), (fun h => F9.out.1.2.1.2.2.2 (up_ne rfl h))⟩⟩⟩, ⟨⟨(fun h => F9.out.1.2.2.1.1 (up_ne rfl h)), ⟨(fun h => F9.out.1.2.2.1.2.1 (up_ne rfl h)), (fun h => F9.out.1.2.2.1.2.2 (up_ne rfl h))⟩⟩, ⟨(fun h => F9.out.1.2.2.2.1 (up_ne rfl h)), ⟨(fun h => F9.out.1.2.2.2.2.1 (up_ne rfl h)), (fun h => F9.out.1.2.2.2.2.2 (up_ne rfl h))⟩⟩⟩⟩⟩, ⟨⟨⟨⟨(fun h => F9.out.2.1.1.1.1 (up_ne rfl h)), (fun h => F9.out.2.1.1.1.2 (up_ne rfl h))⟩, ⟨(fun h => F9.out.2.1.1.2.1 (up_ne rfl h)), ⟨(fun h => F9.out.2.1.1.2.2.1 (up_ne rfl h)), (fun h => F9.out.2.1.1.2.2.2 (up_ne rfl h))⟩⟩⟩, ⟨⟨(fun h => F9.out.2.1.2.1.1 (up_ne rfl h)), ⟨(fun h => F9.out.2.1.2.1.2.1 (up_ne rfl h)), (fun h => F9.out.2.1.2.1.2.2 (up_ne rfl h))⟩⟩, ⟨(fun h => (h29 (by simpa using h)).imp fun T e => ⟨e.1, e.2.1, fun h9 => e.2.2.1 (by simpa using h9), fun h9 => e.2.2.2 (by simpa using h9)⟩), ⟨(fun h => F9.out.2.1.2.2.2.1 (up_ne rfl h)), (fun h => F9.out.2.1.2.2.2.2 (up_ne rfl h))⟩⟩⟩⟩, ⟨⟨⟨(fun h => up_of (F9.out.2.2.1.1.1 (up_ne rfl h))), (fun h => up_of (F9.out.2.2.1.1.2 (up_ne rfl h)))⟩, ⟨(fun h => up_of (F9.out.2.2.1.2.1 (up_ne rfl h))), ⟨(fun h => up_of (F9.out.2.2.1.2.2.1 (up_ne rfl h))), (fun h => up_of (F9.out.2.2.1.2.2.2 (up_ne rfl h)))⟩⟩⟩, ⟨⟨(fun h => up_of (F9.out.2.2.2.1.1 (up_ne rfl h))), ⟨(fun h => up_of (F9.out.2.2.2.1.2.1 (up_ne rfl h))), (fun h => up_of (F9.out.2.2.2.1.2.2 (up_ne rfl h)))⟩⟩, ⟨(fun h => up_of (F9.out.2.2.2.2.1 (up_ne rfl h))), ⟨(fun h => up_of (F9.out.2.2.2.2.2.1 (up_ne rfl h))), (fun h => up_of (F9.out.2.2.2.2.2.2 (up_ne rfl h)))⟩⟩⟩⟩⟩⟩⟩
        · simp only [List.getElem?_toArray, List.getElem?_cons_zero, List.getElem?_cons_succ, Option.some.injEq] at ho
          subst ho
          have hk := F9.out.1.1.1.1.1
          have h9 := F9.out.1.1.2.2.2.2
          have h29 := F9.out.2.1.2.2.1
          go_simp
          refine hK.out _ _ ⟨_, _, _, _, _, _, _, _, _, _, _, _, _, _, _, _, _, _, _, _, _, _, _, _, _, _, _, _, _, _, _, _, rfl, hid ⟨⟨⟨⟨⟨(hk), (fun h => F9.out.1.1.1.1.2 (up_ne rfl h))⟩, ⟨(fun h => F9.out.1.1.1.2.1 (up_ne rfl h)), ⟨(fun h => F9.out.1.1.1.2.2.1 (up_ne rfl h)), (fun h => F9.out.1.1.1.2.2.2 (up_ne rfl h))⟩⟩⟩, ⟨⟨(fun h => F9.out.1.1.2.1.1 (up_ne rfl h)), ⟨(fun h => F9.out.1.1.2.1.2.1 (up_ne rfl h)), (fun h => F9.out.1.1.2.1.2.2 (up_ne rfl h))⟩⟩, ⟨(fun h => F9.out.1.1.2.2.1 (up_ne rfl h)), ⟨(fun h => F9.out.1.1.2.2.2.1 (up_ne rfl h)), (fun h => F9.out.1.1.2.2.2.2 (up_ne rfl h))⟩⟩⟩⟩, ⟨⟨⟨(fun h => F9.out.1.2.1.1.1 (up_ne rfl h)), (fun h => F9.out.1.2.1.1.2 (up_ne rfl h))⟩, ⟨(fun _ => rfl), ⟨(fun h => F9.out.1.2.1.2.2.1 (up_ne rfl h)), (fun h => F9.out.1.2.1.2.2.2 (up_ne rfl h))⟩⟩⟩, ⟨⟨(fun h => F9.out.1.2.2.1.1 (up_ne rfl h)), ⟨(fun h => F9.out.1.2.2.1.2.1 (up_ne rfl h)), (fun h => F9.out.1.2.2.1.2.2 (up_ne rfl h))⟩⟩, ⟨(fun h => F9.out.1.2.2.2.1 (up_ne rfl h)), ⟨(fun h => F9.out.1.2.2.2.2.1 (up_ne rfl h)), (fun h => F9.out.1.2.2.2.2.2 (up_ne rfl h))⟩⟩⟩⟩⟩, ⟨⟨⟨⟨(fun h => F9.out.2.1.1.1.1 (up_ne rfl h)), (fun h => F9.out.2.1.1.1.2 (up_ne rfl h))⟩, ⟨(fun h => F9.out.2.1.1.2.1 (up_ne rfl h)), ⟨(fun h => F9.out.2.1.1.2.2.1 (up_ne rfl h)), (fun h => F9.out.2.1.1.2.2.2 (up_ne rfl h))⟩⟩⟩, ⟨⟨(fun h => F9.out.2.1.2.1.1 (up_ne rfl h)), ⟨(fun h => F9.out.2.1.2.1.2.1 (up_ne rfl h)), (fun h => F9.out.2.1.2.1.2.2 (up_ne rfl h))⟩⟩, ⟨(fun h => (h29 (by simpa using h)).imp fun T e => ⟨e.1, e.2.1, fun h9 => e.2.2.1 (by simpa using h9), fun h9 => e.2.2.2 (by simpa using h9)⟩), ⟨(fun h => F9.out.2.1.2.2.2.1 (up_ne rfl h)), (fun h => F9.out.2.1.2.2.2.2 (up_ne rfl h))⟩⟩⟩⟩, ⟨⟨⟨(fun h => up_of (F9.out.2.2.1.1.1 (up_ne rfl h))), (fun h => up_of (F9.out.2.2.1.1.2 (up_ne rfl h)))⟩, ⟨(fun h => up_of (F9.out.2.2.1.2.1 (up_ne rfl h))), ⟨(fun h => up_of (F9.out.2.2.1.2.2.1 (up_ne rfl h))), (fun h => up_of (F9.out.2.2.1.2.2.2 (up_ne rfl h)))⟩⟩⟩, ⟨⟨(fun h => up_of (F9.out.2.2.2.1.1 (up_ne rfl h))), ⟨(fun h => up_of (F9.out.2.2.2.1.2.1 (up_ne rfl h))), (fun h => up_of (F9.out.2.2.2.1.2.2 (up_ne rfl h)))⟩⟩, ⟨(fun h => up_of (F9.out.2.2.2.2.1 (up_ne rfl h))), ⟨(fun h => up_of (F9.out.2.2.2.2.2.1 (up_ne rfl h))), (fun h => up_of (F9.out.2.2.2.2.2.2 (up_ne rfl h)))⟩⟩⟩⟩⟩⟩⟩
        · simp only [List.getElem?_toArray, List.getElem?_cons_zero, List.getElem?_cons_succ, Option.some.injEq] at ho
          subst ho
          have hk := F9.out.1.1.1.1.1
          have h9 := F9.out.1.1.2.2.2.2
          have h12 := F9.out.1.2.1.2.1
          have h29 := F9.out.2.1.2.2.1
          have e_12 := dep 12 (by kernel_rfl)
          obtain rfl := h12 e_12
          go_simp
          refine hK.out _ _ ⟨_, _, _, _, _, _, _, _, _, _, _, _, _, _, _, _, _, _, _, _, _, _, _, _, _, _, _, _, _, _, _, _, rfl, hid ⟨⟨⟨⟨⟨(hk), (fun h => F9.out.1.1.1.1.2 (up_ne rfl h))⟩, ⟨(fun h => F9.out.1.1.1.2.1 (up_ne rfl h)), ⟨(fun h => F9.out.1.1.1.2.2.1 (up_ne rfl h)), (fun h => F9.out.1.1.1.2.2.2 (up_ne rfl h))⟩⟩⟩, ⟨⟨(fun h => F9.out.1.1.2.1.1 (up_ne rfl h)), ⟨(fun h => F9.out.1.1.2.1.2.1 (up_ne rfl h)), (fun h => F9.out.1.1.2.1.2.2 (up_ne rfl h))⟩⟩, ⟨(fun h => F9.out.1.1.2.2.1 (up_ne rfl h)), ⟨(fun h => F9.out.1.1.2.2.2.1 (up_ne rfl h)), (fun h => F9.out.1.1.2.2.2.2 (up_ne rfl h))⟩⟩⟩⟩, ⟨⟨⟨(fun h => F9.out.1.2.1.1.1 (up_ne rfl h)), (fun h => F9.out.1.2.1.1.2 (up_ne rfl h))⟩, ⟨(fun _ => rfl), ⟨(fun _ => rfl), (fun h => F9.out.1.2.1.2.2.2 (up_ne rfl h))⟩⟩⟩, ⟨⟨(fun h => F9.out.1.2.2.1.1 (up_ne rfl h)), ⟨(fun h => F9.out.1.2.2.1.2.1 (up_ne rfl h)), (fun h => F9.out.1.2.2.1.2.2 (up_ne rfl h))⟩⟩, ⟨(fun h => F9.out.1.2.2.2.1 (up_ne rfl h)), ⟨(fun h => F9.out.1.2.2.2.2.1 (up_ne rfl h)), (fun h => F9.out.1.2.2.2.2.2 (up_ne rfl h))⟩⟩⟩⟩⟩, ⟨⟨⟨⟨(fun h => F9.out.2.1.1.1.1 (up_ne rfl h)), (fun h => F9.out.2.1.1.1.2 (up_ne rfl h))⟩, ⟨(fun h => F9.out.2.1.1.2.1 (up_ne rfl h)), ⟨(fun h => F9.out.2.1.1.2.2.1 (up_ne rfl h)), (fun h => F9.out.2.1.1.2.2.2 (up_ne rfl h))⟩⟩⟩, ⟨⟨(fun h => F9.out.2.1.2.1.1 (up_ne rfl h)), ⟨(fun h => F9.out.2.1.2.1.2.1 (up_ne rfl h)), (fun h => F9.out.2.1.2.1.2.2 (up_ne rfl h))⟩⟩, ⟨(fun h => (h29 (by simpa using h)).imp fun T e => ⟨e.1, e.2.1, fun h9 => e.2.2.1 (by simpa using h9), fun h9 => e.2.2.2 (by simpa using h9)⟩), ⟨(fun h => F9.out.2.1.2.2.2.1 (up_ne rfl h)), (fun h => F9.out.2.1.2.2.2.2 (up_ne rfl h))⟩⟩⟩⟩, ⟨⟨⟨(fun h => up_of (F9.out.2.2.1.1.1 (up_ne rfl h))), (fun h => up_of (F9.out.2.2.1.1.2 (up_ne rfl h)))⟩, ⟨(fun h => up_of (F9.out.2.2.1.2.1 (up_ne rfl h))), ⟨(fun h => up_of (F9.out.2.2.1.2.2.1 (up_ne rfl h))), (fun h => up_of (F9.out.2.2.1.2.2.2 (up_ne rfl h)))⟩⟩⟩, ⟨⟨(fun h => up_of (F9.out.2.2.2.1.1 (up_ne rfl h))), ⟨(fun h => up_of (F9.out.2.2.2.1.2.1 (up_ne rfl h))), (fun h => up_of (F9.out.2.2.2.1.2.2 (up_ne rfl h)))⟩⟩, ⟨(fun h => up_of (F9.out.2.2.2.2.1 (up_ne rfl h))), ⟨(fun h => up_of (F9.out.2.2.2.2.2.1 (up_ne rfl h))), (fun h => up_of (F9.out.2.2.2.2.2.2 (up_ne rfl h)))⟩⟩⟩⟩⟩⟩⟩
        · simp only [List.getElem?_toArray, List.getElem?_cons_zero, List.getElem?_cons_succ, Option.some.injEq] at ho
          subst ho
          have hk := F9.out.1.1.1.1.1
          have h9 := F9.out.1.1.2.2.2.2
          have h13 := F9.out.1.2.1.2.2.1
          have h29 := F9.out.2.1.2.2.1
          have e_13 := dep 13 (by kernel_rfl)
          obtain rfl := h13 e_13
          obtain ⟨d0, d1, d2, d3, d4, d5, d6⟩ := cells7 ((hk.block _ (heap_lt X.out.1)).trans X.out.1)
          go_simp
          refine hK.out _ _ ⟨_, _, _, _, _, _, _, _, _, _, _, _, _, _, _, _, _, _, _, _, _, _, _, _, _, _, _, _, _, _, _, _, rfl, hid ⟨⟨⟨⟨⟨(hk), (fun h => F9.out.1.1.1.1.2 (up_ne rfl h))⟩, ⟨(fun h => F9.out.1.1.1.2.1 (up_ne rfl h)), ⟨(fun h => F9.out.1.1.1.2.2.1 (up_ne rfl h)), (fun h => F9.out.1.1.1.2.2.2 (up_ne rfl h))⟩⟩⟩, ⟨⟨(fun h => F9.out.1.1.2.1.1 (up_ne rfl h)), ⟨(fun h => F9.out.1.1.2.1.2.1 (up_ne rfl h)), (fun h => F9.out.1.1.2.1.2.2 (up_ne rfl h))⟩⟩, ⟨(fun h => F9.out.1.1.2.2.1 (up_ne rfl h)), ⟨(fun h => F9.out.1.1.2.2.2.1 (up_ne rfl h)), (fun h => F9.out.1.1.2.2.2.2 (up_ne rfl h))⟩⟩⟩⟩, ⟨⟨⟨(fun h => F9.out.1.2.1.1.1 (up_ne rfl h)), (fun h => F9.out.1.2.1.1.2 (up_ne rfl h))⟩, ⟨(fun h => F9.out.1.2.1.2.1 (up_ne rfl h)), ⟨(fun _ => rfl), (fun _ => rfl)⟩⟩⟩, ⟨⟨(fun h => F9.out.1.2.2.1.1 (up_ne rfl h)), ⟨(fun h => F9.out.1.2.2.1.2.1 (up_ne rfl h)), (fun h => F9.out.1.2.2.1.2.2 (up_ne rfl h))⟩⟩, ⟨(fun h => F9.out.1.2.2.2.1 (up_ne rfl h)), ⟨(fun h => F9.out.1.2.2.2.2.1 (up_ne rfl h)), (fun h => F9.out.1.2.2.2.2.2 (up_ne rfl h))⟩⟩⟩⟩⟩, ⟨⟨⟨⟨(fun h => F9.out.2.1.1.1.1 (up_ne rfl h)), (fun h => F9.out.2.1.1.1.2 (up_ne rfl h))⟩, ⟨(fun h => F9.out.2.1.1.2.1 (up_ne rfl h)), ⟨(fun h => F9.out.2.1.1.2.2.1 (up_ne rfl h)), (fun h => F9.out.2.1.1.2.2.2 (up_ne rfl h))⟩⟩⟩, ⟨⟨(fun h => F9.out.2.1.2.1.1 (up_ne rfl h)), ⟨(fun h => F9.out.2.1.2.1.2.1 (up_ne rfl h)), (fun h => F9.out.2.1.2.1.2.2 (up_ne rfl h))⟩⟩, ⟨(fun h => (h29 (by simpa using h)).imp fun T e => ⟨e.1, e.2.1, fun h9 => e.2.2.1 (by simpa using h9), fun h9 => e.2.2.2 (by simpa using h9)⟩), ⟨(fun h => F9.out.2.1.2.2.2.1 (up_ne rfl h)), (fun h => F9.out.2.1.2.2.2.2 (up_ne rfl h))⟩⟩⟩⟩, ⟨⟨⟨(fun h => up_of (F9.out.2.2.1.1.1 (up_ne rfl h))), (fun h => up_of (F9.out.2.2.1.1.2 (up_ne rfl h)))⟩, ⟨(fun h => up_of (F9.out.2.2.1.2.1 (up_ne rfl h))), ⟨(fun h => up_of (F9.out.2.2.1.2.2.1 (up_ne rfl h))), (fun h => up_of (F9.out.2.2.1.2.2.2 (up_ne rfl h)))⟩⟩⟩, ⟨⟨(fun h => up_of (F9.out.2.2.2.1.1 (up_ne rfl h))), ⟨(fun h => up_of (F9.out.2.2.2.1.2.1 (up_ne rfl h))), (fun h => up_of (F9.out.2.2.2.1.2.2 (up_ne rfl h)))⟩⟩, ⟨(fun h => up_of (F9.out.2.2.2.2.1 (up_ne rfl h))), ⟨(fun h => up_of (F9.out.2.2.2.2.2.1 (up_ne rfl h))), (fun h => up_of (F9.out.2.2.2.2.2.2 (up_ne rfl h)))⟩⟩⟩⟩⟩⟩⟩
        · simp only [List.getElem?_toArray, List.getElem?_cons_zero, List.getElem?_cons_succ, Option.some.injEq] at ho
          subst ho
          have hk := F9.out.1.1.1.1.1
          have h9 := F9.out.1.1.2.2.2.2
          have h29 := F9.out.2.1.2.2.1
          go_simp
          refine hK.out _ _ ⟨_, _, _, _, _, _, _, _, _, _, _, _, _, _, _, _, _, _, _, _, _, _, _, _, _, _, _, _, _, _, _, _, rfl, hid ⟨⟨⟨⟨⟨(hk), (fun h => F9.out.1.1.1.1.2 (up_ne rfl h))⟩, ⟨(fun h => F9.out.1.1.1.2.1 (up_ne rfl h)), ⟨(fun h => F9.out.1.1.1.2.2.1 (up_ne rfl h)), (fun h => F9.out.1.1.1.2.2.2 (up_ne rfl h))⟩⟩⟩, ⟨⟨(fun h => F9.out.1.1.2.1.1 (up_ne rfl h)), ⟨(fun h => F9.out.1.1.2.1.2.1 (up_ne rfl h)), (fun h => F9.out.1.1.2.1.2.2 (up_ne rfl h))⟩⟩, ⟨(fun h => F9.out.1.1.2.2.1 (up_ne rfl h)), ⟨(fun h => F9.out.1.1.2.2.2.1 (up_ne rfl h)), (fun h => F9.out.1.1.2.2.2.2 (up_ne rfl h))⟩⟩⟩⟩, ⟨⟨⟨(fun h => F9.out.1.2.1.1.1 (up_ne rfl h)), (fun h => F9.out.1.2.1.1.2 (up_ne rfl h))⟩, ⟨(fun h => F9.out.1.2.1.2.1 (up_ne rfl h)), ⟨(fun h => F9.out.1.2.1.2.2.1 (up_ne rfl h)), (fun h => F9.out.1.2.1.2.2.2 (up_ne rfl h))⟩⟩⟩, ⟨⟨(fun _ => rfl), ⟨(fun h => F9.out.1.2.2.1.2.1 (up_ne rfl h)), (fun h => F9.out.1.2.2.1.2.2 (up_ne rfl h))⟩⟩, ⟨(fun h => F9.out.1.2.2.2.1 (up_ne rfl h)), ⟨(fun h => F9.out.1.2.2.2.2.1 (up_ne rfl h)), (fun h => F9.out.1.2.2.2.2.2 (up_ne rfl h))⟩⟩⟩⟩⟩, ⟨⟨⟨⟨(fun h => F9.out.2.1.1.1.1 (up_ne rfl h)), (fun h => F9.out.2.1.1.1.2 (up_ne rfl h))⟩, ⟨(fun h => F9.out.2.1.1.2.1 (up_ne rfl h)), ⟨(fun h => F9.out.2.1.1.2.2.1 (up_ne rfl h)), (fun h => F9.out.2.1.1.2.2.2 (up_ne rfl h))⟩⟩⟩, ⟨⟨(fun h => F9.out.2.1.2.1.1 (up_ne rfl h)), ⟨(fun h => F9.out.2.1.2.1.2.1 (up_ne rfl h)), (fun h => F9.out.2.1.2.1.2.2 (up_ne rfl h))⟩⟩, ⟨(fun h => (h29 (by simpa using h)).imp fun T e => ⟨e.1, e.2.1, fun h9 => e.2.2.1 (by simpa using h9), fun h9 => e.2.2.2 (by simpa using h9)⟩), ⟨(fun h => F9.out.2.1.2.2.2.1 (up_ne rfl h)), (fun h => F9.out.2.1.2.2.2.2 (up_ne rfl h))⟩⟩⟩⟩, ⟨⟨⟨(fun h => up_of (F9.out.2.2.1.1.1 (up_ne rfl h))), (fun h => up_of (F9.out.2.2.1.1.2 (up_ne rfl h)))⟩, ⟨(fun h => up_of (F9.out.2.2.1.2.1 (up_ne rfl h))), ⟨(fun h => up_of (F9.out.2.2.1.2.2.1 (up_ne rfl h))), (fun h => up_of (F9.out.2.2.1.2.2.2 (up_ne rfl h)))⟩⟩⟩, ⟨⟨(fun h => up_of (F9.out.2.2.2.1.1 (up_ne rfl h))), ⟨(fun h => up_of (F9.out.2.2.2.1.2.1 (up_ne rfl h))), (fun h => up_of (F9.out.2.2.2.1.2.2 (up_ne rfl h)))⟩⟩, ⟨(fun h => up_of (F9.out.2.2.2.2.1 (up_ne rfl h))), ⟨(fun h => up_of (F9.out.2.2.2.2.2.1 (up_ne rfl h))), (fun h => up_of (F9.out.2.2.2.2.2.2 (up_ne rfl h)))⟩⟩⟩⟩⟩⟩⟩
        · simp only [List.getElem?_toArray, List.getElem?_cons_zero, List.getElem?_cons_succ, Option.some.injEq] at ho
          subst ho
          have hk := F9.out.1.1.1.1.1
          have h9 := F9.out.1.1.2.2.2.2
          have h15 := F9.out.1.2.2.1.1
          have h29 := F9.out.2.1.2.2.1
          have e_15 := dep 15 (by kernel_rfl)
          obtain rfl := h15 e_15
          go_simp
          refine hK.out _ _ ⟨_, _, _, _, _, _, _, _, _, _, _, _, _, _, _, _, _, _, _, _, _, _, _, _, _, _, _, _, _, _, _, _, rfl, hid ⟨⟨⟨⟨⟨(hk), (fun h => F9.out.1.1.1.1.2 (up_ne rfl h))⟩, ⟨(fun h => F9.out.1.1.1.2.1 (up_ne rfl h)), ⟨(fun h => F9.out.1.1.1.2.2.1 (up_ne rfl h)), (fun h => F9.out.1.1.1.2.2.2 (up_ne rfl h))⟩⟩⟩, ⟨⟨(fun h => F9.out.1.1.2.1.1 (up_ne rfl h)), ⟨(fun h => F9.out.1.1.2.1.2.1 (up_ne rfl h)), (fun h => F9.out.1.1.2.1.2.2 (up_ne rfl h))⟩⟩, ⟨(fun h => F9.out.1.1.2.2.1 (up_ne rfl h)), ⟨(fun h => F9.out.1.1.2.2.2.1 (up_ne rfl h)), (fun h => F9.out.1.1.2.2.2.2 (up_ne rfl h))⟩⟩⟩⟩, ⟨⟨⟨(fun h => F9.out.1.2.1.1.1 (up_ne rfl h)), (fun h => F9.out.1.2.1.1.2 (up_ne rfl h))⟩, ⟨(fun h => F9.out.1.2.1.2.1 (up_ne rfl h)), ⟨(fun h => F9.out.1.2.1.2.2.1 (up_ne rfl h)), (fun h => F9.out.1.2.1.2.2.2 (up_ne rfl h))⟩⟩⟩, ⟨⟨(fun _ => rfl), ⟨(fun _ => rfl), (fun h => F9.out.1.2.2.1.2.2 (up_ne rfl h))⟩⟩, ⟨(fun h => F9.out.1.2.2.2.1 (up_ne rfl h)), ⟨(fun h => F9.out.1.2.2.2.2.1 (up_ne rfl h)), (fun h => F9.out.1.2.2.2.2.2 (up_ne rfl h))⟩⟩⟩⟩⟩, ⟨⟨⟨⟨(fun h => F9.out.2.1.1.1.1 (up_ne rfl h)), (fun h => F9.out.2.1.1.1.2 (up_ne rfl h))⟩, ⟨(fun h => F9.out.2.1.1.2.1 (up_ne rfl h)), ⟨(fun h => F9.out.2.1.1.2.2.1 (up_ne rfl h)), (fun h => F9.out.2.1.1.2.2.2 (up_ne rfl h))⟩⟩⟩, ⟨⟨(fun h => F9.out.2.1.2.1.1 (up_ne rfl h)), ⟨(fun h => F9.out.2.1.2.1.2.1 (up_ne rfl h)), (fun h => F9.out.2.1.2.1.2.2 (up_ne rfl h))⟩⟩, ⟨(fun h => (h29 (by simpa using h)).imp fun T e => ⟨e.1, e.2.1, fun h9 => e.2.2.1 (by simpa using h9), fun h9 => e.2.2.2 (by simpa using h9)⟩), ⟨(fun h => F9.out.2.1.2.2.2.1 (up_ne rfl h)), (fun h => F9.out.2.1.2.2.2.2 (up_ne rfl h))⟩⟩⟩⟩, ⟨⟨⟨(fun h => up_of (F9.out.2.2.1.1.1 (up_ne rfl h))), (fun h => up_of (F9.out.2.2.1.1.2 (up_ne rfl h)))⟩, ⟨(fun h => up_of (F9.out.2.2.1.2.1 (up_ne rfl h))), ⟨(fun h => up_of (F9.out.2.2.1.2.2.1 (up_ne rfl h))), (fun h => up_of (F9.out.2.2.1.2.2.2 (up_ne rfl h)))⟩⟩⟩, ⟨⟨(fun h => up_of (F9.out.2.2.2.1.1 (up_ne rfl h))), ⟨(fun h => up_of (F9.out.2.2.2.1.2.1 (up_ne rfl h))), (fun h => up_of (F9.out.2.2.2.1.2.2 (up_ne rfl h)))⟩⟩, ⟨(fun h => up_of (F9.out.2.2.2.2.1 (up_ne rfl h))), ⟨(fun h => up_of (F9.out.2.2.2.2.2.1 (up_ne rfl h))), (fun h => up_of (F9.out.2.2.2.2.2.2 (up_ne rfl h)))⟩⟩⟩⟩⟩⟩⟩
        · simp only [List.getElem?_toArray, List.getElem?_cons_zero, List.getElem?_cons_succ, Option.some.injEq] at ho
          subst ho
          have hk := F9.out.1.1.1.1.1
          have h9 := F9.out.1.1.2.2.2.2
          have h16 := F9.out.1.2.2.1.2.1
          have h29 := F9.out.2.1.2.2.1
          have e_16 := dep 16 (by kernel_rfl)
          obtain rfl := h16 e_16
          obtain ⟨d0, d1, d2, d3, d4, d5, d6⟩ := cells7 ((hk.block _ (heap_lt X.out.1)).trans X.out.1)
          go_simp
          refine hK.out _ _ ⟨_, _, _, _, _, _, _, _, _, _, _, _, _, _, _, _, _, _, _, _, _, _, _, _, _, _, _, _, _, _, _, _, rfl, hid ⟨⟨⟨⟨⟨(hk), (fun h => F9.out.1.1.1.1.2 (up_ne rfl h))⟩, ⟨(fun h => F9.out.1.1.1.2.1 (up_ne rfl h)), ⟨(fun h => F9.out.1.1.1.2.2.1 (up_ne rfl h)), (fun h => F9.out.1.1.1.2.2.2 (up_ne rfl h))⟩⟩⟩, ⟨⟨(fun h => F9.out.1.1.2.1.1 (up_ne rfl h)), ⟨(fun h => F9.out.1.1.2.1.2.1 (up_ne rfl h)), (fun h => F9.out.1.1.2.1.2.2 (up_ne rfl h))⟩⟩, ⟨(fun h => F9.out.1.1.2.2.1 (up_ne rfl h)), ⟨(fun h => F9.out.1.1.2.2.2.1 (up_ne rfl h)), (fun h => F9.out.1.1.2.2.2.2 (up_ne rfl h))⟩⟩⟩⟩, ⟨⟨⟨(fun h => F9.out.1.2.1.1.1 (up_ne rfl h)), (fun h => F9.out.1.2.1.1.2 (up_ne rfl h))⟩, ⟨(fun h => F9.out.1.2.1.2.1 (up_ne rfl h)), ⟨(fun h => F9.out.1.2.1.2.2.1 (up_ne rfl h)), (fun h => F9.out.1.2.1.2.2.2 (up_ne rfl h))⟩⟩⟩, ⟨⟨(fun h => F9.out.1.2.2.1.1 (up_ne rfl h)), ⟨(fun _ => rfl), (fun _ => rfl)⟩⟩, ⟨(fun h => F9.out.1.2.2.2.1 (up_ne rfl h)), ⟨(fun h => F9.out.1.2.2.2.2.1 (up_ne rfl h)), (fun h => F9.out.1.2.2.2.2.2 (up_ne rfl h))⟩⟩⟩⟩⟩, ⟨⟨⟨⟨(fun h => F9.out.2.1.1.1.1 (up_ne rfl h)), (fun h => F9.out.2.1.1.1.2 (up_ne rfl h))⟩, ⟨(fun h => F9.out.2.1.1.2.1 (up_ne rfl h)), ⟨(fun h => F9.out.2.1.1.2.2.1 (up_ne rfl h)), (fun h => F9.out.2.1.1.2.2.2 (up_ne rfl h))⟩⟩⟩, ⟨⟨(fun h => F9.out.2.1.2.1.1 (up_ne rfl h)), ⟨(fun h => F9.out.2.1.2.1.2.1 (up_ne rfl h)), (fun h => F9.out.2.1.2.1.2.2 (up_ne rfl h))⟩⟩, ⟨(fun h => (h29 (by simpa using h)).imp fun T e => ⟨e.1, e.2.1, fun h9 => e.2.2.1 (by simpa using h9), fun h9 => e.2.2.2 (by simpa using h9)⟩), ⟨(fun h => F9.out.2.1.2.2.2.1 (up_ne rfl h)), (fun h => F9.out.2.1.2.2.2.2 (up_ne rfl h))⟩⟩⟩⟩, ⟨⟨⟨(fun h => up_of (F9.out.2.2.1.1.1 (up_ne rfl h))), (fun h => up_of (F9.out.2.2.1.1.2 (up_ne rfl h)))⟩, ⟨(fun h => up_of (F9.out.2.2.1.2.1 (up_ne rfl h))), ⟨(fun h => up_of (F9.out.2.2.1.2.2.1 (up_ne rfl h))), (fun h => up_of (F9.out.2.2.1.2.2.2 (up_ne rfl h)))⟩⟩⟩, ⟨⟨(fun h => up_of (F9.out.2.2.2.1.1 (up_ne rfl h))), ⟨(fun h => up_of (F9.out.2.2.2.1.2.1 (up_ne rfl h))), (fun h => up_of (F9.out.2.2.2.1.2.2 (up_ne rfl h)))⟩⟩, ⟨(fun h => up_of (F9.out.2.2.2.2.1 (up_ne rfl h))), ⟨(fun h => up_of (F9.out.2.2.2.2.2.1 (up_ne rfl h))), (fun h => up_of (F9.out.2.2.2.2.2.2 (up_ne rfl h)))⟩⟩⟩⟩⟩⟩⟩
        · simp only [List.getElem?_toArray, List.getElem?_cons_zero, List.getElem?_cons_succ, Option.some.injEq] at ho
          subst ho
          have hk := F9.out.1.1.1.1.1
          have h9 := F9.out.1.1.2.2.2.2
          have h29 := F9.out.2.1.2.2.1
          go_simp
          refine hK.out _ _ ⟨_, _, _, _, _, _, _, _, _, _, _, _, _, _, _, _, _, _, _, _, _, _, _, _, _, _, _, _, _, _, _, _, rfl, hid ⟨⟨⟨⟨⟨(hk), (fun h => F9.out.1.1.1.1.2 (up_ne rfl h))⟩, ⟨(fun h => F9.out.1.1.1.2.1 (up_ne rfl h)), ⟨(fun h => F9.out.1.1.1.2.2.1 (up_ne rfl h)), (fun h => F9.out.1.1.1.2.2.2 (up_ne rfl h))⟩⟩⟩, ⟨⟨(fun h => F9.out.1.1.2.1.1 (up_ne rfl h)), ⟨(fun h => F9.out.1.1.2.1.2.1 (up_ne rfl h)), (fun h => F9.out.1.1.2.1.2.2 (up_ne rfl h))⟩⟩, ⟨(fun h => F9.out.1.1.2.2.1 (up_ne rfl h)), ⟨(fun h => F9.out.1.1.2.2.2.1 (up_ne rfl h)), (fun h => F9.out.1.1.2.2.2.2 (up_ne rfl h))⟩⟩⟩⟩, ⟨⟨⟨(fun h => F9.out.1.2.1.1.1 (up_ne rfl h)), (fun h => F9.out.1.2.1.1.2 (up_ne rfl h))⟩, ⟨(fun h => F9.out.1.2.1.2.1 (up_ne rfl h)), ⟨(fun h => F9.out.1.2.1.2.2.1 (up_ne rfl h)), (fun h => F9.out.1.2.1.2.2.2 (up_ne rfl h))⟩⟩⟩, ⟨⟨(fun h => F9.out.1.2.2.1.1 (up_ne rfl h)), ⟨(fun h => F9.out.1.2.2.1.2.1 (up_ne rfl h)), (fun h => F9.out.1.2.2.1.2.2 (up_ne rfl h))⟩⟩, ⟨(fun _ => rfl), ⟨(fun h => F9.out.1.2.2.2.2.1 (up_ne rfl h)), (fun h => F9.out.1.2.2.2.2.2 (up_ne rfl h))⟩⟩⟩⟩⟩, ⟨⟨⟨⟨(fun h => F9.out.2.1.1.1.1 (up_ne rfl h)), (fun h => F9.out.2.1.1.1.2 (up_ne rfl h))⟩, ⟨(fun h => F9.out.2.1.1.2.1 (up_ne rfl h)), ⟨(fun h => F9.out.2.1.1.2.2.1 (up_ne rfl h)), (fun h => F9.out.2.1.1.2.2.2 (up_ne rfl h))⟩⟩⟩, ⟨⟨(fun h => F9.out.2.1.2.1.1 (up_ne rfl h)), ⟨(fun h => F9.out.2.1.2.1.2.1 (up_ne rfl h)), (fun h => F9.out.2.1.2.1.2.2 (up_ne rfl h))⟩⟩, ⟨(fun h => (h29 (by simpa using h)).imp fun T e => ⟨e.1, e.2.1, fun h9 => e.2.2.1 (by simpa using h9), fun h9 => e.2.2.2 (by simpa using h9)⟩), ⟨(fun h => F9.out.2.1.2.2.2.1 (up_ne rfl h)), (fun h => F9.out.2.1.2.2.2.2 (up_ne rfl h))⟩⟩⟩⟩, ⟨⟨⟨(fun h => up_of (F9.out.2.2.1.1.1 (up_ne rfl h))), (fun h => up_of (F9.out.2.2.1.1.2 (up_ne rfl h)))⟩, ⟨(fun h => up_of (F9.out.2.2.1.2.1 (up_ne rfl h))), ⟨(fun h => up_of (F9.out.2.2.1.2.2.1 (up_ne rfl h))), (fun h => up_of (F9.out.2.2.1.2.2.2 (up_ne rfl h)))⟩⟩⟩, ⟨⟨(fun h => up_of (F9.out.2.2.2.1.1 (up_ne rfl h))), ⟨(fun h => up_of (F9.out.2.2.2.1.2.1 (up_ne rfl h))), (fun h => up_of (F9.out.2.2.2.1.2.2 (up_ne rfl h)))⟩⟩, ⟨(fun h => up_of (F9.out.2.2.2.2.1 (up_ne rfl h))), ⟨(fun h => up_of (F9.out.2.2.2.2.2.1 (up_ne rfl h))), (fun h => up_of (F9.out.2.2.2.2.2.2 (up_ne rfl h)))⟩⟩⟩⟩⟩⟩⟩
        · simp only [List.getElem?_toArray, List.getElem?_cons_zero, List.getElem?_cons_succ, Option.some.injEq] at ho
          subst ho
          have hk := F9.out.1.1.1.1.1
          have h9 := F9.out.1.1.2.2.2.2
          have h18 := F9.out.1.2.2.2.1
          have h29 := F9.out.2.1.2.2.1
          have e_18 := dep 18 (by kernel_rfl)
          obtain rfl := h18 e_18
          go_simp
          refine hK.out _ _ ⟨_, _, _, _, _, _, _, _, _, _, _, _, _, _, _, _, _, _, _, _, _, _, _, _, _, _, _, _, _, _, _, _, rfl, hid ⟨⟨⟨⟨⟨(hk), (fun h => F9.out.1.1.1.1.2 (up_ne rfl h))⟩, ⟨(fun h => F9.out.1.1.1.2.1 (up_ne rfl h)), ⟨(fun h => F9.out.1.1.1.2.2.1 (up_ne rfl h)), (fun h => F9.out.1.1.1.2.2.2 (up_ne rfl h))⟩⟩⟩, ⟨⟨(fun h => F9.out.1.1.2.1.1 (up_ne rfl h)), ⟨(fun h => F9.out.1.1.2.1.2.1 (up_ne rfl h)), (fun h => F9.out.1.1.2.1.2.2 (up_ne rfl h))⟩⟩, ⟨(fun h => F9.out.1.1.2.2.1 (up_ne rfl h)), ⟨(fun h => F9.out.1.1.2.2.2.1 (up_ne rfl h)), (fun h => F9.out.1.1.2.2.2.2 (up_ne rfl h))⟩⟩⟩⟩, ⟨⟨⟨(fun h => F9.out.1.2.1.1.1 (up_ne rfl h)), (fun h => F9.out.1.2.1.1.2 (up_ne rfl h))⟩, ⟨(fun h => F9.out.1.2.1.2.1 (up_ne rfl h)), ⟨(fun h => F9.out.1.2.1.2.2.1 (up_ne rfl h)), (fun h => F9.out.1.2.1.2.2.2 (up_ne rfl h))⟩⟩⟩, ⟨⟨(fun h => F9.out.1.2.2.1.1 (up_ne rfl h)), ⟨(fun h => F9.out.1.2.2.1.2.1 (up_ne rfl h)), (fun h => F9.out.1.2.2.1.2.2 (up_ne rfl h))⟩⟩, ⟨(fun _ => rfl), ⟨(fun _ => rfl), (fun h => F9.out.1.2.2.2.2.2 (up_ne rfl h))⟩⟩⟩⟩⟩, ⟨⟨⟨⟨(fun h => F9.out.2.1.1.1.1 (up_ne rfl h)), (fun h => F9.out.2.1.1.1.2 (up_ne rfl h))⟩, ⟨(fun h => F9.out.2.1.1.2.1 (up_ne rfl h)), ⟨(fun h => F9.out.2.1.1.2.2.1 (up_ne rfl h)), (fun h => F9.out.2.1.1.2.2.2 (up_ne rfl h))⟩⟩⟩, ⟨⟨(fun h => F9.out.2.1.2.1.1 (up_ne rfl h)), ⟨(fun h => F9.out.2.1.2.1.2.1 (up_ne rfl h)), (fun h => F9.out.2.1.2.1.2.2 (up_ne rfl h))⟩⟩, ⟨(fun h => (h29 (by simpa using h)).imp fun T e => ⟨e.1, e.2.1, fun h9 => e.2.2.1 (by simpa using h9), fun h9 => e.2.2.2 (by simpa using h9)⟩), ⟨(fun h => F9.out.2.1.2.2.2.1 (up_ne rfl h)), (fun h => F9.out.2.1.2.2.2.2 (up_ne rfl h))⟩⟩⟩⟩, ⟨⟨⟨(fun h => up_of (F9.out.2.2.1.1.1 (up_ne rfl h))), (fun h => up_of (F9.out.2.2.1.1.2 (up_ne rfl h)))⟩, ⟨(fun h => up_of (F9.out.2.2.1.2.1 (up_ne rfl h))), ⟨(fun h => up_of (F9.out.2.2.1.2.2.1 (up_ne rfl h))), (fun h => up_of (F9.out.2.2.1.2.2.2 (up_ne rfl h)))⟩⟩⟩, ⟨⟨(fun h => up_of (F9.out.2.2.2.1.1 (up_ne rfl h))), ⟨(fun h => up_of (F9.out.2.2.2.1.2.1 (up_ne rfl h))), (fun h => up_of (F9.out.2.2.2.1.2.2 (up_ne rfl h)))⟩⟩, ⟨(fun h => up_of (F9.out.2.2.2.2.1 (up_ne rfl h))), ⟨(fun h => up_of (F9.out.2.2.2.2.2.1 (up_ne rfl h))), (fun h => up_of (F9.out.2.2.2.2.2.2 (up_ne rfl h)))⟩⟩⟩⟩⟩⟩⟩
        · simp only [List.getElem?_toArray, List.getElem?_cons_zero, List.getElem?_cons_succ, Option.some.injEq] at ho
          subst ho
          have hk := F9.out.1.1.1.1.1
          have h9 := F9.out.1.1.2.2.2.2
          have h19 := F9.out.1.2.2.2.2.1
          have h29 := F9.out.2.1.2.2.1
          have e_19 := dep 19 (by kernel_rfl)
          obtain rfl := h19 e_19
          obtain ⟨d0, d1, d2, d3, d4, d5, d6⟩ := cells7 ((hk.block _ (heap_lt X.out.1)).trans X.out.1)
          go_simp
          refine hK.out _ _ ⟨_, _, _, _, _, _, _, _, _, _, _, _, _, _, _, _, _, _, _, _, _, _, _, _, _, _, _, _, _, _, _, _, rfl, hid ⟨⟨⟨⟨⟨(hk), (fun h => F9.out.1.1.1.1.2 (up_ne rfl h))⟩, ⟨(fun h => F9.out.1.1.1.2.1 (up_ne rfl h)), ⟨(fun h => F9.out.1.1.1.2.2.1 (up_ne rfl h)), (fun h => F9.out.1.1.1.2.2.2 (up_ne rfl h))⟩⟩⟩, ⟨⟨(fun h => F9.out.1.1.2.1.1 (up_ne rfl h)), ⟨(fun h => F9.out.1.1.2.1.2.1 (up_ne rfl h)), (fun h => F9.out.1.1.2.1.2.2 (up_ne rfl h))⟩⟩, ⟨(fun h => F9.out.1.1.2.2.1 (up_ne rfl h)), ⟨(fun h => F9.out.1.1.2.2.2.1 (up_ne rfl h)), (fun h => F9.out.1.1.2.2.2.2 (up_ne rfl h))⟩⟩⟩⟩, ⟨⟨⟨(fun h => F9.out.1.2.1.1.1 (up_ne rfl h)), (fun h => F9.out.1.2.1.1.2 (up_ne rfl h))⟩, ⟨(fun h => F9.out.1.2.1.2.1 (up_ne rfl h)), ⟨(fun h => F9.out.1.2.1.2.2.1 (up_ne rfl h)), (fun h => F9.out.1.2.1.2.2.2 (up_ne rfl h))⟩⟩⟩, ⟨⟨(fun h => F9.out.1.2.2.1.1 (up_ne rfl h)), ⟨(fun h => F9.out.1.2.2.1.2.1 (up_ne rfl h)), (fun h => F9.out.1.2.2.1.2.2 (up_ne rfl h))⟩⟩, ⟨(fun h => F9.out.1.2.2.2.1 (up_ne rfl h)), ⟨(fun _ => rfl), (fun _ => rfl)⟩⟩⟩⟩⟩, ⟨⟨⟨⟨(fun h => F9.out.2.1.1.1.1 (up_ne rfl h)), (fun h => F9.out.2.1.1.1.2 (up_ne rfl h))⟩, ⟨(fun h => F9.out.2.1.1.2.1 (up_ne rfl h)), ⟨(fun h => F9.out.2.1.1.2.2.1 (up_ne rfl h)), (fun h => F9.out.2.1.1.2.2.2 (up_ne rfl h))⟩⟩⟩, ⟨⟨(fun h => F9.out.2.1.2.1.1 (up_ne rfl h)), ⟨(fun h => F9.out.2.1.2.1.2.1 (up_ne rfl h)), (fun h => F9.out.2.1.2.1.2.2 (up_ne rfl h))⟩⟩, ⟨(fun h => (h29 (by simpa using h)).imp fun T e => ⟨e.1, e.2.1, fun h9 => e.2.2.1 (by simpa using h9), fun h9 => e.2.2.2 (by simpa using h9)⟩), ⟨(fun h => F9.out.2.1.2.2.2.1 (up_ne rfl h)), (fun h => F9.out.2.1.2.2.2.2 (up_ne rfl h))⟩⟩⟩⟩, ⟨⟨⟨(fun h => up_of (F9.out.2.2.1.1.1 (up_ne rfl h))), (fun h => up_of (F9.out.2.2.1.1.2 (up_ne rfl h)))⟩, ⟨(fun h => up_of (F9.out.2.2.1.2.1 (up_ne rfl h))), ⟨(fun h => up_of (F9.out.2.2.1.2.2.1 (up_ne rfl h))), (fun h => up_of (F9.out.2.2.1.2.2.2 (up_ne rfl h)))⟩⟩⟩, ⟨⟨(fun h => up_of (F9.out.2.2.2.1.1 (up_ne rfl h))), ⟨(fun h => up_of (F9.out.2.2.2.1.2.1 (up_ne rfl h))), (fun h => up_of (F9.out.2.2.2.1.2.2 (up_ne rfl h)))⟩⟩, ⟨(fun h => up_of (F9.out.2.2.2.2.1 (up_ne rfl h))), ⟨(fun h => up_of (F9.out.2.2.2.2.2.1 (up_ne rfl h))), (fun h => up_of (F9.out.2.2.2.2.2.2 (up_ne rfl h)))⟩⟩⟩⟩⟩⟩⟩
        · simp only [List.getElem?_toArray, List.getElem?_cons_zero, List.getElem?_cons_succ, Option.some.injEq] at ho
          subst ho
          have hk := F9.out.1.1.1.1.1
          have h9 := F9.out.1.1.2.2.2.2
          have h17 := F9.out.1.2.2.1.2.2
          have h20 := F9.out.1.2.2.2.2.2
          have h29 := F9.out.2.1.2.2.1
          have e_17 := dep 17 (by kernel_rfl)
          have e_20 := dep 20 (by kernel_rfl)
          obtain rfl := h17 e_17
          obtain rfl := h20 e_20
          go_simp
          refine hK.out _ _ ⟨_, _, _, _, _, _, _, _, _, _, _, _, _, _, _, _, _, _, _, _, _, _, _, _, _, _, _, _, _, _, _, _, rfl, hid ⟨⟨⟨⟨⟨(hk), (fun h => F9.out.1.1.1.1.2 (up_ne rfl h))⟩, ⟨(fun h => F9.out.1.1.1.2.1 (up_ne rfl h)), ⟨(fun h => F9.out.1.1.1.2.2.1 (up_ne rfl h)), (fun h => F9.out.1.1.1.2.2.2 (up_ne rfl h))⟩⟩⟩, ⟨⟨(fun h => F9.out.1.1.2.1.1 (up_ne rfl h)), ⟨(fun h => F9.out.1.1.2.1.2.1 (up_ne rfl h)), (fun h => F9.out.1.1.2.1.2.2 (up_ne rfl h))⟩⟩, ⟨(fun h => F9.out.1.1.2.2.1 (up_ne rfl h)), ⟨(fun h => F9.out.1.1.2.2.2.1 (up_ne rfl h)), (fun h => F9.out.1.1.2.2.2.2 (up_ne rfl h))⟩⟩⟩⟩, ⟨⟨⟨(fun h => F9.out.1.2.1.1.1 (up_ne rfl h)), (fun h => F9.out.1.2.1.1.2 (up_ne rfl h))⟩, ⟨(fun h => F9.out.1.2.1.2.1 (up_ne rfl h)), ⟨(fun h => F9.out.1.2.1.2.2.1 (up_ne rfl h)), (fun h => F9.out.1.2.1.2.2.2 (up_ne rfl h))⟩⟩⟩, ⟨⟨(fun h => F9.out.1.2.2.1.1 (up_ne rfl h)), ⟨(fun h => F9.out.1.2.2.1.2.1 (up_ne rfl h)), (fun _ => rfl)⟩⟩, ⟨(fun h => F9.out.1.2.2.2.1 (up_ne rfl h)), ⟨(fun h => F9.out.1.2.2.2.2.1 (up_ne rfl h)), (fun _ => rfl)⟩⟩⟩⟩⟩, ⟨⟨⟨⟨(fun _ => rfl), (fun h => F9.out.2.1.1.1.2 (up_ne rfl h))⟩, ⟨(fun h => F9.out.2.1.1.2.1 (up_ne rfl h)), ⟨(fun h => F9.out.2.1.1.2.2.1 (up_ne rfl h)), (fun h => F9.out.2.1.1.2.2.2 (up_ne rfl h))⟩⟩⟩, ⟨⟨(fun h => F9.out.2.1.2.1.1 (up_ne rfl h)), ⟨(fun h => F9.out.2.1.2.1.2.1 (up_ne rfl h)), (fun h => F9.out.2.1.2.1.2.2 (up_ne rfl h))⟩⟩, ⟨(fun h => (h29 (by simpa using h)).imp fun T e => ⟨e.1, e.2.1, fun h9 => e.2.2.1 (by simpa using h9), fun h9 => e.2.2.2 (by simpa using h9)⟩), ⟨(fun h => F9.out.2.1.2.2.2.1 (up_ne rfl h)), (fun h => F9.out.2.1.2.2.2.2 (up_ne rfl h))⟩⟩⟩⟩, ⟨⟨⟨(fun h => up_of (F9.out.2.2.1.1.1 (up_ne rfl h))), (fun h => up_of (F9.out.2.2.1.1.2 (up_ne rfl h)))⟩, ⟨(fun h => up_of (F9.out.2.2.1.2.1 (up_ne rfl h))), ⟨(fun h => up_of (F9.out.2.2.1.2.2.1 (up_ne rfl h))), (fun h => up_of (F9.out.2.2.1.2.2.2 (up_ne rfl h)))⟩⟩⟩, ⟨⟨(fun h => up_of (F9.out.2.2.2.1.1 (up_ne rfl h))), ⟨(fun h => up_of (F9.out.2.2.2.1.2.1 (up_ne rfl h))), (fun h => up_of (F9.out.2.2.2.1.2.2 (up_ne rfl h)))⟩⟩, ⟨(fun h => up_of (F9.out.2.2.2.2.1 (up_ne rfl h))), ⟨(fun h => up_of (F9.out.2.2.2.2.2.1 (up_ne rfl h))), (fun h => up_of (F9.out.2.2.2.2.2.2 (up_ne rfl h)))⟩⟩⟩⟩⟩⟩⟩
        · simp only [List.getElem?_toArray, List.getElem?_cons_zero, List.getElem?_cons_succ, Option.some.injEq] at ho
          subst ho
          have hk := F9.out.1.1.1.1.1
          have h9 := F9.out.1.1.2.2.2.2
          have h11 := F9.out.1.2.1.1.2
          have h14 := F9.out.1.2.1.2.2.2
          have h21 := F9.out.2.1.1.1.1
          have h29 := F9.out.2.1.2.2.1
          have e_11 := dep 11 (by kernel_rfl)
          have e_14 := dep 14 (by kernel_rfl)
          have e_21 := dep 21 (by kernel_rfl)
          obtain rfl := h11 e_11
          obtain rfl := h14 e_14
          obtain rfl := h21 e_21
          go_simp
          refine hK.out _ _ ⟨_, _, _, _, _, _, _, _, _, _, _, _, _, _, _, _, _, _, _, _, _, _, _, _, _, _, _, _, _, _, _, _, rfl, hid ⟨⟨⟨⟨⟨(hk), (fun h => F9.out.1.1.1.1.2 (up_ne rfl h))⟩, ⟨(fun h => F9.out.1.1.1.2.1 (up_ne rfl h)), ⟨(fun h => F9.out.1.1.1.2.2.1 (up_ne rfl h)), (fun h => F9.out.1.1.1.2.2.2 (up_ne rfl h))⟩⟩⟩, ⟨⟨(fun h => F9.out.1.1.2.1.1 (up_ne rfl h)), ⟨(fun h => F9.out.1.1.2.1.2.1 (up_ne rfl h)), (fun h => F9.out.1.1.2.1.2.2 (up_ne rfl h))⟩⟩, ⟨(fun h => F9.out.1.1.2.2.1 (up_ne rfl h)), ⟨(fun h => F9.out.1.1.2.2.2.1 (up_ne rfl h)), (fun h => F9.out.1.1.2.2.2.2 (up_ne rfl h))⟩⟩⟩⟩, ⟨⟨⟨(fun h => F9.out.1.2.1.1.1 (up_ne rfl h)), (fun _ => rfl)⟩, ⟨(fun h => F9.out.1.2.1.2.1 (up_ne rfl h)), ⟨(fun h => F9.out.1.2.1.2.2.1 (up_ne rfl h)), (fun _ => rfl)⟩⟩⟩, ⟨⟨(fun h => F9.out.1.2.2.1.1 (up_ne rfl h)), ⟨(fun h => F9.out.1.2.2.1.2.1 (up_ne rfl h)), (fun h => F9.out.1.2.2.1.2.2 (up_ne rfl h))⟩⟩, ⟨(fun h => F9.out.1.2.2.2.1 (up_ne rfl h)), ⟨(fun h => F9.out.1.2.2.2.2.1 (up_ne rfl h)), (fun h => F9.out.1.2.2.2.2.2 (up_ne rfl h))⟩⟩⟩⟩⟩, ⟨⟨⟨⟨(fun _ => rfl), (fun _ => rfl)⟩, ⟨(fun h => F9.out.2.1.1.2.1 (up_ne rfl h)), ⟨(fun h => F9.out.2.1.1.2.2.1 (up_ne rfl h)), (fun h => F9.out.2.1.1.2.2.2 (up_ne rfl h))⟩⟩⟩, ⟨⟨(fun h => F9.out.2.1.2.1.1 (up_ne rfl h)), ⟨(fun h => F9.out.2.1.2.1.2.1 (up_ne rfl h)), (fun h => F9.out.2.1.2.1.2.2 (up_ne rfl h))⟩⟩, ⟨(fun h => (h29 (by simpa using h)).imp fun T e => ⟨e.1, e.2.1, fun h9 => e.2.2.1 (by simpa using h9), fun h9 => e.2.2.2 (by simpa using h9)⟩), ⟨(fun h => F9.out.2.1.2.2.2.1 (up_ne rfl h)), (fun h => F9.out.2.1.2.2.2.2 (up_ne rfl h))⟩⟩⟩⟩, ⟨⟨⟨(fun h => up_of (F9.out.2.2.1.1.1 (up_ne rfl h))), (fun h => up_of (F9.out.2.2.1.1.2 (up_ne rfl h)))⟩, ⟨(fun h => up_of (F9.out.2.2.1.2.1 (up_ne rfl h))), ⟨(fun h => up_of (F9.out.2.2.1.2.2.1 (up_ne rfl h))), (fun h => up_of (F9.out.2.2.1.2.2.2 (up_ne rfl h)))⟩⟩⟩, ⟨⟨(fun h => up_of (F9.out.2.2.2.1.1 (up_ne rfl h))), ⟨(fun h => up_of (F9.out.2.2.2.1.2.1 (up_ne rfl h))), (fun h => up_of (F9.out.2.2.2.1.2.2 (up_ne rfl h)))⟩⟩, ⟨(fun h => up_of (F9.out.2.2.2.2.1 (up_ne rfl h))), ⟨(fun h => up_of (F9.out.2.2.2.2.2.1 (up_ne rfl h))), (fun h => up_of (F9.out.2.2.2.2.2.2 (up_ne rfl h)))⟩⟩⟩⟩⟩⟩⟩
        · simp only [List.getElem?_toArray, List.getElem?_cons_zero, List.getElem?_cons_succ, Option.some.injEq] at ho
          subst ho
          have hk := F9.out.1.1.1.1.1
          have h5 := F9.out.1.1.2.1.2.1
          have h9 := F9.out.1.1.2.2.2.2
          have h22 := F9.out.2.1.1.1.2
          have h29 := F9.out.2.1.2.2.1
          have e_5 := dep 5 (by kernel_rfl)
          have e_9 := dep 9 (by kernel_rfl)
          have e_22 := dep 22 (by kernel_rfl)
          obtain rfl := h5 e_5
          obtain rfl := h9 e_9
          obtain rfl := h22 e_22
          go_simp
          refine hK.out _ _ ⟨_, _, _, _, _, _, _, _, _, _, _, _, _, _, _, _, _, _, _, _, _, _, _, _, _, _, _, _, _, _, _, _, rfl, hid ⟨⟨⟨⟨⟨(hk), (fun h => F9.out.1.1.1.1.2 (up_ne rfl h))⟩, ⟨(fun h => F9.out.1.1.1.2.1 (up_ne rfl h)), ⟨(fun h => F9.out.1.1.1.2.2.1 (up_ne rfl h)), (fun h => F9.out.1.1.1.2.2.2 (up_ne rfl h))⟩⟩⟩, ⟨⟨(fun h => F9.out.1.1.2.1.1 (up_ne rfl h)), ⟨(fun _ => rfl), (fun h => F9.out.1.1.2.1.2.2 (up_ne rfl h))⟩⟩, ⟨(fun h => F9.out.1.1.2.2.1 (up_ne rfl h)), ⟨(fun h => F9.out.1.1.2.2.2.1 (up_ne rfl h)), (fun _ => rfl)⟩⟩⟩⟩, ⟨⟨⟨(fun h => F9.out.1.2.1.1.1 (up_ne rfl h)), (fun h => F9.out.1.2.1.1.2 (up_ne rfl h))⟩, ⟨(fun h => F9.out.1.2.1.2.1 (up_ne rfl h)), ⟨(fun h => F9.out.1.2.1.2.2.1 (up_ne rfl h)), (fun h => F9.out.1.2.1.2.2.2 (up_ne rfl h))⟩⟩⟩, ⟨⟨(fun h => F9.out.1.2.2.1.1 (up_ne rfl h)), ⟨(fun h => F9.out.1.2.2.1.2.1 (up_ne rfl h)), (fun h => F9.out.1.2.2.1.2.2 (up_ne rfl h))⟩⟩, ⟨(fun h => F9.out.1.2.2.2.1 (up_ne rfl h)), ⟨(fun h => F9.out.1.2.2.2.2.1 (up_ne rfl h)), (fun h => F9.out.1.2.2.2.2.2 (up_ne rfl h))⟩⟩⟩⟩⟩, ⟨⟨⟨⟨(fun h => F9.out.2.1.1.1.1 (up_ne rfl h)), (fun _ => rfl)⟩, ⟨(fun _ => rfl), ⟨(fun h => F9.out.2.1.1.2.2.1 (up_ne rfl h)), (fun h => F9.out.2.1.1.2.2.2 (up_ne rfl h))⟩⟩⟩, ⟨⟨(fun h => F9.out.2.1.2.1.1 (up_ne rfl h)), ⟨(fun h => F9.out.2.1.2.1.2.1 (up_ne rfl h)), (fun h => F9.out.2.1.2.1.2.2 (up_ne rfl h))⟩⟩, ⟨(fun h => (h29 (by simpa using h)).imp fun T e => ⟨e.1, e.2.1, fun h9 => e.2.2.1 (by simpa using h9), fun h9 => e.2.2.2 (by simpa using h9)⟩), ⟨(fun h => F9.out.2.1.2.2.2.1 (up_ne rfl h)), (fun h => F9.out.2.1.2.2.2.2 (up_ne rfl h))⟩⟩⟩⟩, ⟨⟨⟨(fun h => up_of (F9.out.2.2.1.1.1 (up_ne rfl h))), (fun h => up_of (F9.out.2.2.1.1.2 (up_ne rfl h)))⟩, ⟨(fun h => up_of (F9.out.2.2.1.2.1 (up_ne rfl h))), ⟨(fun h => up_of (F9.out.2.2.1.2.2.1 (up_ne rfl h))), (fun h => up_of (F9.out.2.2.1.2.2.2 (up_ne rfl h)))⟩⟩⟩, ⟨⟨(fun h => up_of (F9.out.2.2.2.1.1 (up_ne rfl h))), ⟨(fun h => up_of (F9.out.2.2.2.1.2.1 (up_ne rfl h))), (fun h => up_of (F9.out.2.2.2.1.2.2 (up_ne rfl h)))⟩⟩, ⟨(fun h => up_of (F9.out.2.2.2.2.1 (up_ne rfl h))), ⟨(fun h => up_of (F9.out.2.2.2.2.2.1 (up_ne rfl h))), (fun h => up_of (F9.out.2.2.2.2.2.2 (up_ne rfl h)))⟩⟩⟩⟩⟩⟩⟩
        · simp only [List.getElem?_toArray, List.getElem?_cons_zero, List.getElem?_cons_succ, Option.some.injEq] at ho
          subst ho
          have hk := F9.out.1.1.1.1.1
          have h1 := F9.out.1.1.1.2.1
          have h2 := F9.out.1.1.1.2.2.1
          have h9 := F9.out.1.1.2.2.2.2
          have h23 := F9.out.2.1.1.2.1
          have h29 := F9.out.2.1.2.2.1
          have q25_24 := F9.out.2.2.1.2.2.1
          have q26_25 := F9.out.2.2.1.2.2.2
          have e_1 := dep 1 (by kernel_rfl)
          have e_2 := dep 2 (by kernel_rfl)
          have e_23 := dep 23 (by kernel_rfl)
          obtain rfl := h1 e_1
          obtain rfl := h2 e_2
          obtain rfl := h23 e_23
          have n25 : b 25 = false := by
            cases hb : b 25
            · rfl
            · have := q25_24 hb; rw [hbi] at this; cases this
          have n26 : b 26 = false := by
            cases hb : b 26
            · rfl
            · have := q25_24 (q26_25 hb); rw [hbi] at this; cases this
          have CC := hid (CU2.out w' hk)
          go_simp
          refine CC.out.mono ?_
          rintro e W5 ⟨⟨pa, pc, rfl, r5, z5⟩, b5⟩
          refine hK.out _ _ ⟨_, _, _, _, _, _, _, _, _, _, _, _, _, _, _, _, _, _, _, _, _, _, _, _, _, _, _, _, _, _, _, _, rfl, hid ⟨⟨⟨⟨⟨(hk.trans (b5.mono hk.size)), (fun h => F9.out.1.1.1.1.2 (up_ne rfl h))⟩, ⟨(fun _ => rfl), ⟨(fun _ => rfl), (fun h => F9.out.1.1.1.2.2.2 (up_ne rfl h))⟩⟩⟩, ⟨⟨(fun h => F9.out.1.1.2.1.1 (up_ne rfl h)), ⟨(fun h => F9.out.1.1.2.1.2.1 (up_ne rfl h)), (fun h => F9.out.1.1.2.1.2.2 (up_ne rfl h))⟩⟩, ⟨(fun h => F9.out.1.1.2.2.1 (up_ne rfl h)), ⟨(fun h => F9.out.1.1.2.2.2.1 (up_ne rfl h)), (fun h => F9.out.1.1.2.2.2.2 (up_ne rfl h))⟩⟩⟩⟩, ⟨⟨⟨(fun h => F9.out.1.2.1.1.1 (up_ne rfl h)), (fun h => F9.out.1.2.1.1.2 (up_ne rfl h))⟩, ⟨(fun h => F9.out.1.2.1.2.1 (up_ne rfl h)), ⟨(fun h => F9.out.1.2.1.2.2.1 (up_ne rfl h)), (fun h => F9.out.1.2.1.2.2.2 (up_ne rfl h))⟩⟩⟩, ⟨⟨(fun h => F9.out.1.2.2.1.1 (up_ne rfl h)), ⟨(fun h => F9.out.1.2.2.1.2.1 (up_ne rfl h)), (fun h => F9.out.1.2.2.1.2.2 (up_ne rfl h))⟩⟩, ⟨(fun h => F9.out.1.2.2.2.1 (up_ne rfl h)), ⟨(fun h => F9.out.1.2.2.2.2.1 (up_ne rfl h)), (fun h => F9.out.1.2.2.2.2.2 (up_ne rfl h))⟩⟩⟩⟩⟩, ⟨⟨⟨⟨(fun h => F9.out.2.1.1.1.1 (up_ne rfl h)), (fun h => F9.out.2.1.1.1.2 (up_ne rfl h))⟩, ⟨(fun _ => rfl), ⟨(fun _ => ⟨pa, pc, rfl, r5, z5⟩), (fun h => absurd h (by simp [n25]))⟩⟩⟩, ⟨⟨(fun h => absurd h (by simp [n26])), ⟨(fun h => F9.out.2.1.2.1.2.1 (up_ne rfl h)), (fun h => F9.out.2.1.2.1.2.2 (up_ne rfl h))⟩⟩, ⟨(fun h => by obtain ⟨T, e, t1, t2, t3⟩ := (h29 (up_ne rfl h)); exact ⟨T, e, t1, fun h9 => (b5.block _ (heap_lt (t2 (by simpa using h9)))).trans (t2 (by simpa using h9)), fun h9 => (b5.block _ (heap_lt (t3 (by simpa using h9)))).trans (t3 (by simpa using h9))⟩), ⟨(fun h => F9.out.2.1.2.2.2.1 (up_ne rfl h)), (fun h => F9.out.2.1.2.2.2.2 (up_ne rfl h))⟩⟩⟩⟩, ⟨⟨⟨(fun _ => up_of e_1), (fun _ => up_of e_2)⟩, ⟨(fun _ => up_of e_23), ⟨(fun h => up_of (F9.out.2.2.1.2.2.1 (up_ne rfl h))), (fun h => up_of (F9.out.2.2.1.2.2.2 (up_ne rfl h)))⟩⟩⟩, ⟨⟨(fun h => up_of (F9.out.2.2.2.1.1 (up_ne rfl h))), ⟨(fun h => up_of (F9.out.2.2.2.1.2.1 (up_ne rfl h))), (fun h => up_of (F9.out.2.2.2.1.2.2 (up_ne rfl h)))⟩⟩, ⟨(fun h => up_of (F9.out.2.2.2.2.1 (up_ne rfl h))), ⟨(fun h => up_of (F9.out.2.2.2.2.2.1 (up_ne rfl h))), (fun h => up_of (F9.out.2.2.2.2.2.2 (up_ne rfl h)))⟩⟩⟩⟩⟩⟩⟩
        · simp only [List.getElem?_toArray, List.getElem?_cons_zero, List.getElem?_cons_succ, Option.some.injEq] at ho
          subst ho
          have hk := F9.out.1.1.1.1.1
          have h1 := F9.out.1.1.1.2.1
          have h2 := F9.out.1.1.1.2.2.1
          have h9 := F9.out.1.1.2.2.2.2
          have h23 := F9.out.2.1.1.2.1
          have h24 := F9.out.2.1.1.2.2.1
          have h29 := F9.out.2.1.2.2.1
          have q24_1 := F9.out.2.2.1.1.1
          have q24_2 := F9.out.2.2.1.1.2
          have q24_23 := F9.out.2.2.1.2.1
          have e_24 := dep 24 (by kernel_rfl)
          have e_1 := q24_1 e_24
          have e_2 := q24_2 e_24
          have e_23 := q24_23 e_24
          obtain rfl := h1 e_1
          obtain rfl := h2 e_2
          obtain rfl := h23 e_23
          obtain ⟨pa, pc, rfl, r5, z5⟩ := h24 e_24
          go_simp
          refine hK.out _ _ ⟨_, _, _, _, _, _, _, _, _, _, _, _, _, _, _, _, _, _, _, _, _, _, _, _, _, _, _, _, _, _, _, _, rfl, hid ⟨⟨⟨⟨⟨(hk), (fun h => F9.out.1.1.1.1.2 (up_ne rfl h))⟩, ⟨(fun _ => rfl), ⟨(fun _ => rfl), (fun h => F9.out.1.1.1.2.2.2 (up_ne rfl h))⟩⟩⟩, ⟨⟨(fun h => F9.out.1.1.2.1.1 (up_ne rfl h)), ⟨(fun h => F9.out.1.1.2.1.2.1 (up_ne rfl h)), (fun h => F9.out.1.1.2.1.2.2 (up_ne rfl h))⟩⟩, ⟨(fun h => F9.out.1.1.2.2.1 (up_ne rfl h)), ⟨(fun h => F9.out.1.1.2.2.2.1 (up_ne rfl h)), (fun h => F9.out.1.1.2.2.2.2 (up_ne rfl h))⟩⟩⟩⟩, ⟨⟨⟨(fun h => F9.out.1.2.1.1.1 (up_ne rfl h)), (fun h => F9.out.1.2.1.1.2 (up_ne rfl h))⟩, ⟨(fun h => F9.out.1.2.1.2.1 (up_ne rfl h)), ⟨(fun h => F9.out.1.2.1.2.2.1 (up_ne rfl h)), (fun h => F9.out.1.2.1.2.2.2 (up_ne rfl h))⟩⟩⟩, ⟨⟨(fun h => F9.out.1.2.2.1.1 (up_ne rfl h)), ⟨(fun h => F9.out.1.2.2.1.2.1 (up_ne rfl h)), (fun h => F9.out.1.2.2.1.2.2 (up_ne rfl h))⟩⟩, ⟨(fun h => F9.out.1.2.2.2.1 (up_ne rfl h)), ⟨(fun h => F9.out.1.2.2.2.2.1 (up_ne rfl h)), (fun h => F9.out.1.2.2.2.2.2 (up_ne rfl h))⟩⟩⟩⟩⟩, ⟨⟨⟨⟨(fun h => F9.out.2.1.1.1.1 (up_ne rfl h)), (fun h => F9.out.2.1.1.1.2 (up_ne rfl h))⟩, ⟨(fun _ => rfl), ⟨(fun _ => ⟨pa, pc, rfl, r5, z5⟩), (fun _ => rfl)⟩⟩⟩, ⟨⟨(fun h => F9.out.2.1.2.1.1 (up_ne rfl h)), ⟨(fun h => F9.out.2.1.2.1.2.1 (up_ne rfl h)), (fun h => F9.out.2.1.2.1.2.2 (up_ne rfl h))⟩⟩, ⟨(fun h => (h29 (by simpa using h)).imp fun T e => ⟨e.1, e.2.1, fun h9 => e.2.2.1 (by simpa using h9), fun h9 => e.2.2.2 (by simpa using h9)⟩), ⟨(fun h => F9.out.2.1.2.2.2.1 (up_ne rfl h)), (fun h => F9.out.2.1.2.2.2.2 (up_ne rfl h))⟩⟩⟩⟩, ⟨⟨⟨(fun h => up_of (F9.out.2.2.1.1.1 (up_ne rfl h))), (fun h => up_of (F9.out.2.2.1.1.2 (up_ne rfl h)))⟩, ⟨(fun h => up_of (F9.out.2.2.1.2.1 (up_ne rfl h))), ⟨(fun _ => up_of e_24), (fun h => up_of (F9.out.2.2.1.2.2.2 (up_ne rfl h)))⟩⟩⟩, ⟨⟨(fun h => up_of (F9.out.2.2.2.1.1 (up_ne rfl h))), ⟨(fun h => up_of (F9.out.2.2.2.1.2.1 (up_ne rfl h))), (fun h => up_of (F9.out.2.2.2.1.2.2 (up_ne rfl h)))⟩⟩, ⟨(fun h => up_of (F9.out.2.2.2.2.1 (up_ne rfl h))), ⟨(fun h => up_of (F9.out.2.2.2.2.2.1 (up_ne rfl h))), (fun h => up_of (F9.out.2.2.2.2.2.2 (up_ne rfl h)))⟩⟩⟩⟩⟩⟩⟩
        · simp only [List.getElem?_toArray, List.getElem?_cons_zero, List.getElem?_cons_succ, Option.some.injEq] at ho
          subst ho
          have hk := F9.out.1.1.1.1.1
          have h1 := F9.out.1.1.1.2.1
          have h2 := F9.out.1.1.1.2.2.1
          have h9 := F9.out.1.1.2.2.2.2
          have h23 := F9.out.2.1.1.2.1
          have h24 := F9.out.2.1.1.2.2.1
          have h25 := F9.out.2.1.1.2.2.2
          have h29 := F9.out.2.1.2.2.1
          have q24_1 := F9.out.2.2.1.1.1
          have q24_2 := F9.out.2.2.1.1.2
          have q24_23 := F9.out.2.2.1.2.1
          have q25_24 := F9.out.2.2.1.2.2.1
          have q30_26 := F9.out.2.2.2.1.2.2
          have e_25 := dep 25 (by kernel_rfl)
          have e_24 := q25_24 e_25
          have e_1 := q24_1 e_24
          have e_2 := q24_2 e_24
          have e_23 := q24_23 e_24
          obtain rfl := h1 e_1
          obtain rfl := h2 e_2
          obtain rfl := h23 e_23
          have n30 : b 30 = false := by
            cases hb : b 30
            · rfl
            · have := q30_26 hb; rw [hbi] at this; cases this
          obtain ⟨pa, pc, rfl, r5, z5⟩ := h24 e_24
          obtain rfl := h25 e_25
          go_simp
          refine hK.out _ _ ⟨_, _, _, _, _, _, _, _, _, _, _, _, _, _, _, _, _, _, _, _, _, _, _, _, _, _, _, _, _, _, _, _, rfl, hid ⟨⟨⟨⟨⟨(hk), (fun h => F9.out.1.1.1.1.2 (up_ne rfl h))⟩, ⟨(fun _ => rfl), ⟨(fun _ => rfl), (fun h => F9.out.1.1.1.2.2.2 (up_ne rfl h))⟩⟩⟩, ⟨⟨(fun h => F9.out.1.1.2.1.1 (up_ne rfl h)), ⟨(fun h => F9.out.1.1.2.1.2.1 (up_ne rfl h)), (fun h => F9.out.1.1.2.1.2.2 (up_ne rfl h))⟩⟩, ⟨(fun h => F9.out.1.1.2.2.1 (up_ne rfl h)), ⟨(fun h => F9.out.1.1.2.2.2.1 (up_ne rfl h)), (fun h => F9.out.1.1.2.2.2.2 (up_ne rfl h))⟩⟩⟩⟩, ⟨⟨⟨(fun h => F9.out.1.2.1.1.1 (up_ne rfl h)), (fun h => F9.out.1.2.1.1.2 (up_ne rfl h))⟩, ⟨(fun h => F9.out.1.2.1.2.1 (up_ne rfl h)), ⟨(fun h => F9.out.1.2.1.2.2.1 (up_ne rfl h)), (fun h => F9.out.1.2.1.2.2.2 (up_ne rfl h))⟩⟩⟩, ⟨⟨(fun h => F9.out.1.2.2.1.1 (up_ne rfl h)), ⟨(fun h => F9.out.1.2.2.1.2.1 (up_ne rfl h)), (fun h => F9.out.1.2.2.1.2.2 (up_ne rfl h))⟩⟩, ⟨(fun h => F9.out.1.2.2.2.1 (up_ne rfl h)), ⟨(fun h => F9.out.1.2.2.2.2.1 (up_ne rfl h)), (fun h => F9.out.1.2.2.2.2.2 (up_ne rfl h))⟩⟩⟩⟩⟩, ⟨⟨⟨⟨(fun h => F9.out.2.1.1.1.1 (up_ne rfl h)), (fun h => F9.out.2.1.1.1.2 (up_ne rfl h))⟩, ⟨(fun _ => rfl), ⟨(fun _ => ⟨pa, pc, rfl, r5, z5⟩), (fun _ => rfl)⟩⟩⟩, ⟨⟨(fun _ => rfl), ⟨(fun h => F9.out.2.1.2.1.2.1 (up_ne rfl h)), (fun h => F9.out.2.1.2.1.2.2 (up_ne rfl h))⟩⟩, ⟨(fun h => (h29 (by simpa using h)).imp fun T e => ⟨e.1, e.2.1, fun h9 => e.2.2.1 (by simpa using h9), fun h9 => e.2.2.2 (by simpa using h9)⟩), ⟨(fun h => absurd h (by simp [n30])), (fun h => F9.out.2.1.2.2.2.2 (up_ne rfl h))⟩⟩⟩⟩, ⟨⟨⟨(fun h => up_of (F9.out.2.2.1.1.1 (up_ne rfl h))), (fun h => up_of (F9.out.2.2.1.1.2 (up_ne rfl h)))⟩, ⟨(fun h => up_of (F9.out.2.2.1.2.1 (up_ne rfl h))), ⟨(fun h => up_of (F9.out.2.2.1.2.2.1 (up_ne rfl h))), (fun _ => up_of e_25)⟩⟩⟩, ⟨⟨(fun h => up_of (F9.out.2.2.2.1.1 (up_ne rfl h))), ⟨(fun h => up_of (F9.out.2.2.2.1.2.1 (up_ne rfl h))), (fun h => up_of (F9.out.2.2.2.1.2.2 (up_ne rfl h)))⟩⟩, ⟨(fun h => up_of (F9.out.2.2.2.2.1 (up_ne rfl h))), ⟨(fun h => up_of (F9.out.2.2.2.2.2.1 (up_ne rfl h))), (fun h => up_of (F9.out.2.2.2.2.2.2 (up_ne rfl h)))⟩⟩⟩⟩⟩⟩⟩
        · simp only [List.getElem?_toArray, List.getElem?_cons_zero, List.getElem?_cons_succ, Option.some.injEq] at ho
          subst ho
          have hk := F9.out.1.1.1.1.1
          have h1 := F9.out.1.1.1.2.1
          have h2 := F9.out.1.1.1.2.2.1
          have h9 := F9.out.1.1.2.2.2.2
          have h23 := F9.out.2.1.1.2.1
          have h24 := F9.out.2.1.1.2.2.1
          have h25 := F9.out.2.1.1.2.2.2
          have h29 := F9.out.2.1.2.2.1
          have q24_1 := F9.out.2.2.1.1.1
          have q24_2 := F9.out.2.2.1.1.2
          have q24_23 := F9.out.2.2.1.2.1
          have q25_24 := F9.out.2.2.1.2.2.1
          have e_25 := dep 25 (by kernel_rfl)
          have e_24 := q25_24 e_25
          have e_1 := q24_1 e_24
          have e_2 := q24_2 e_24
          have e_23 := q24_23 e_24
          obtain rfl := h1 e_1
          obtain rfl := h2 e_2
          obtain rfl := h23 e_23
          obtain ⟨pa, pc, rfl, r5, z5⟩ := h24 e_24
          obtain rfl := h25 e_25
          go_simp
          refine hK.out _ _ ⟨_, _, _, _, _, _, _, _, _, _, _, _, _, _, _, _, _, _, _, _, _, _, _, _, _, _, _, _, _, _, _, _, rfl, hid ⟨⟨⟨⟨⟨(hk), (fun h => F9.out.1.1.1.1.2 (up_ne rfl h))⟩, ⟨(fun _ => rfl), ⟨(fun _ => rfl), (fun h => F9.out.1.1.1.2.2.2 (up_ne rfl h))⟩⟩⟩, ⟨⟨(fun h => F9.out.1.1.2.1.1 (up_ne rfl h)), ⟨(fun h => F9.out.1.1.2.1.2.1 (up_ne rfl h)), (fun h => F9.out.1.1.2.1.2.2 (up_ne rfl h))⟩⟩, ⟨(fun h => F9.out.1.1.2.2.1 (up_ne rfl h)), ⟨(fun h => F9.out.1.1.2.2.2.1 (up_ne rfl h)), (fun h => F9.out.1.1.2.2.2.2 (up_ne rfl h))⟩⟩⟩⟩, ⟨⟨⟨(fun h => F9.out.1.2.1.1.1 (up_ne rfl h)), (fun h => F9.out.1.2.1.1.2 (up_ne rfl h))⟩, ⟨(fun h => F9.out.1.2.1.2.1 (up_ne rfl h)), ⟨(fun h => F9.out.1.2.1.2.2.1 (up_ne rfl h)), (fun h => F9.out.1.2.1.2.2.2 (up_ne rfl h))⟩⟩⟩, ⟨⟨(fun h => F9.out.1.2.2.1.1 (up_ne rfl h)), ⟨(fun h => F9.out.1.2.2.1.2.1 (up_ne rfl h)), (fun h => F9.out.1.2.2.1.2.2 (up_ne rfl h))⟩⟩, ⟨(fun h => F9.out.1.2.2.2.1 (up_ne rfl h)), ⟨(fun h => F9.out.1.2.2.2.2.1 (up_ne rfl h)), (fun h => F9.out.1.2.2.2.2.2 (up_ne rfl h))⟩⟩⟩⟩⟩, ⟨⟨⟨⟨(fun h => F9.out.2.1.1.1.1 (up_ne rfl h)), (fun h => F9.out.2.1.1.1.2 (up_ne rfl h))⟩, ⟨(fun _ => rfl), ⟨(fun _ => ⟨pa, pc, rfl, r5, z5⟩), (fun _ => rfl)⟩⟩⟩, ⟨⟨(fun h => F9.out.2.1.2.1.1 (up_ne rfl h)), ⟨(fun _ => rfl), (fun h => F9.out.2.1.2.1.2.2 (up_ne rfl h))⟩⟩, ⟨(fun h => (h29 (by simpa using h)).imp fun T e => ⟨e.1, e.2.1, fun h9 => e.2.2.1 (by simpa using h9), fun h9 => e.2.2.2 (by simpa using h9)⟩), ⟨(fun h => F9.out.2.1.2.2.2.1 (up_ne rfl h)), (fun h => F9.out.2.1.2.2.2.2 (up_ne rfl h))⟩⟩⟩⟩, ⟨⟨⟨(fun h => up_of (F9.out.2.2.1.1.1 (up_ne rfl h))), (fun h => up_of (F9.out.2.2.1.1.2 (up_ne rfl h)))⟩, ⟨(fun h => up_of (F9.out.2.2.1.2.1 (up_ne rfl h))), ⟨(fun h => up_of (F9.out.2.2.1.2.2.1 (up_ne rfl h))), (fun h => up_of (F9.out.2.2.1.2.2.2 (up_ne rfl h)))⟩⟩⟩, ⟨⟨(fun _ => up_of e_25), ⟨(fun h => up_of (F9.out.2.2.2.1.2.1 (up_ne rfl h))), (fun h => up_of (F9.out.2.2.2.1.2.2 (up_ne rfl h)))⟩⟩, ⟨(fun h => up_of (F9.out.2.2.2.2.1 (up_ne rfl h))), ⟨(fun h => up_of (F9.out.2.2.2.2.2.1 (up_ne rfl h))), (fun h => up_of (F9.out.2.2.2.2.2.2 (up_ne rfl h)))⟩⟩⟩⟩⟩⟩⟩
        · simp only [List.getElem?_toArray, List.getElem?_cons_zero, List.getElem?_cons_succ, Option.some.injEq] at ho
          subst ho
          have hk := F9.out.1.1.1.1.1
          have h1 := F9.out.1.1.1.2.1
          have h2 := F9.out.1.1.1.2.2.1
          have h9 := F9.out.1.1.2.2.2.2
          have h23 := F9.out.2.1.1.2.1
          have h24 := F9.out.2.1.1.2.2.1
          have h25 := F9.out.2.1.1.2.2.2
          have h29 := F9.out.2.1.2.2.1
          have q24_1 := F9.out.2.2.1.1.1
          have q24_2 := F9.out.2.2.1.1.2
          have q24_23 := F9.out.2.2.1.2.1
          have q25_24 := F9.out.2.2.1.2.2.1
          have q32_28 := F9.out.2.2.2.2.2.2
          have e_25 := dep 25 (by kernel_rfl)
          have e_24 := q25_24 e_25
          have e_1 := q24_1 e_24
          have e_2 := q24_2 e_24
          have e_23 := q24_23 e_24
          obtain rfl := h1 e_1
          obtain rfl := h2 e_2
          obtain rfl := h23 e_23
          have n32 : b 32 = false := by
            cases hb : b 32
            · rfl
            · have := q32_28 hb; rw [hbi] at this; cases this
          obtain ⟨pa, pc, rfl, r5, z5⟩ := h24 e_24
          obtain rfl := h25 e_25
          go_simp
          refine hK.out _ _ ⟨_, _, _, _, _, _, _, _, _, _, _, _, _, _, _, _, _, _, _, _, _, _, _, _, _, _, _, _, _, _, _, _, rfl, hid ⟨⟨⟨⟨⟨(hk), (fun h => F9.out.1.1.1.1.2 (up_ne rfl h))⟩, ⟨(fun _ => rfl), ⟨(fun _ => rfl), (fun h => F9.out.1.1.1.2.2.2 (up_ne rfl h))⟩⟩⟩, ⟨⟨(fun h => F9.out.1.1.2.1.1 (up_ne rfl h)), ⟨(fun h => F9.out.1.1.2.1.2.1 (up_ne rfl h)), (fun h => F9.out.1.1.2.1.2.2 (up_ne rfl h))⟩⟩, ⟨(fun h => F9.out.1.1.2.2.1 (up_ne rfl h)), ⟨(fun h => F9.out.1.1.2.2.2.1 (up_ne rfl h)), (fun h => F9.out.1.1.2.2.2.2 (up_ne rfl h))⟩⟩⟩⟩, ⟨⟨⟨(fun h => F9.out.1.2.1.1.1 (up_ne rfl h)), (fun h => F9.out.1.2.1.1.2 (up_ne rfl h))⟩, ⟨(fun h => F9.out.1.2.1.2.1 (up_ne rfl h)), ⟨(fun h => F9.out.1.2.1.2.2.1 (up_ne rfl h)), (fun h => F9.out.1.2.1.2.2.2 (up_ne rfl h))⟩⟩⟩, ⟨⟨(fun h => F9.out.1.2.2.1.1 (up_ne rfl h)), ⟨(fun h => F9.out.1.2.2.1.2.1 (up_ne rfl h)), (fun h => F9.out.1.2.2.1.2.2 (up_ne rfl h))⟩⟩, ⟨(fun h => F9.out.1.2.2.2.1 (up_ne rfl h)), ⟨(fun h => F9.out.1.2.2.2.2.1 (up_ne rfl h)), (fun h => F9.out.1.2.2.2.2.2 (up_ne rfl h))⟩⟩⟩⟩⟩, ⟨⟨⟨⟨(fun h => F9.out.2.1.1.1.1 (up_ne rfl h)), (fun h => F9.out.2.1.1.1.2 (up_ne rfl h))⟩, ⟨(fun _ => rfl), ⟨(fun _ => ⟨pa, pc, rfl, r5, z5⟩), (fun _ => rfl)⟩⟩⟩, ⟨⟨(fun h => F9.out.2.1.2.1.1 (up_ne rfl h)), ⟨(fun h => F9.out.2.1.2.1.2.1 (up_ne rfl h)), (fun _ => rfl)⟩⟩, ⟨(fun h => (h29 (by simpa using h)).imp fun T e => ⟨e.1, e.2.1, fun h9 => e.2.2.1 (by simpa using h9), fun h9 => e.2.2.2 (by simpa using h9)⟩), ⟨(fun h => F9.out.2.1.2.2.2.1 (up_ne rfl h)), (fun h => absurd h (by simp [n32]))⟩⟩⟩⟩, ⟨⟨⟨(fun h => up_of (F9.out.2.2.1.1.1 (up_ne rfl h))), (fun h => up_of (F9.out.2.2.1.1.2 (up_ne rfl h)))⟩, ⟨(fun h => up_of (F9.out.2.2.1.2.1 (up_ne rfl h))), ⟨(fun h => up_of (F9.out.2.2.1.2.2.1 (up_ne rfl h))), (fun h => up_of (F9.out.2.2.1.2.2.2 (up_ne rfl h)))⟩⟩⟩, ⟨⟨(fun h => up_of (F9.out.2.2.2.1.1 (up_ne rfl h))), ⟨(fun _ => up_of e_25), (fun h => up_of (F9.out.2.2.2.1.2.2 (up_ne rfl h)))⟩⟩, ⟨(fun h => up_of (F9.out.2.2.2.2.1 (up_ne rfl h))), ⟨(fun h => up_of (F9.out.2.2.2.2.2.1 (up_ne rfl h))), (fun h => up_of (F9.out.2.2.2.2.2.2 (up_ne rfl h)))⟩⟩⟩⟩⟩⟩⟩
        · simp only [List.getElem?_toArray, List.getElem?_cons_zero, List.getElem?_cons_succ, Option.some.injEq] at ho
          subst ho
          have hk := F9.out.1.1.1.1.1
          have h9 := F9.out.1.1.2.2.2.2
          have h24 := F9.out.2.1.1.2.2.1
          have q31_29 := F9.out.2.2.2.2.1
          have n31 : b 31 = false := by
            cases hb : b 31
            · rfl
            · have := q31_29 hb; rw [hbi] at this; cases this
          have b5 := bel1 w' (.cells #[.int .i64 0, .int .i64 0, .int .i64 0] 35)
          go_simp
          refine hK.out _ _ ⟨_, _, _, _, _, _, _, _, _, _, _, _, _, _, _, _, _, _, _, _, _, _, _, _, _, _, _, _, _, _, _, _, rfl, hid ⟨⟨⟨⟨⟨(hk.trans (b5.mono hk.size)), (fun h => F9.out.1.1.1.1.2 (up_ne rfl h))⟩, ⟨(fun h => F9.out.1.1.1.2.1 (up_ne rfl h)), ⟨(fun h => F9.out.1.1.1.2.2.1 (up_ne rfl h)), (fun h => F9.out.1.1.1.2.2.2 (up_ne rfl h))⟩⟩⟩, ⟨⟨(fun h => F9.out.1.1.2.1.1 (up_ne rfl h)), ⟨(fun h => F9.out.1.1.2.1.2.1 (up_ne rfl h)), (fun h => F9.out.1.1.2.1.2.2 (up_ne rfl h))⟩⟩, ⟨(fun h => F9.out.1.1.2.2.1 (up_ne rfl h)), ⟨(fun h => F9.out.1.1.2.2.2.1 (up_ne rfl h)), (fun h => F9.out.1.1.2.2.2.2 (up_ne rfl h))⟩⟩⟩⟩, ⟨⟨⟨(fun h => F9.out.1.2.1.1.1 (up_ne rfl h)), (fun h => F9.out.1.2.1.1.2 (up_ne rfl h))⟩, ⟨(fun h => F9.out.1.2.1.2.1 (up_ne rfl h)), ⟨(fun h => F9.out.1.2.1.2.2.1 (up_ne rfl h)), (fun h => F9.out.1.2.1.2.2.2 (up_ne rfl h))⟩⟩⟩, ⟨⟨(fun h => F9.out.1.2.2.1.1 (up_ne rfl h)), ⟨(fun h => F9.out.1.2.2.1.2.1 (up_ne rfl h)), (fun h => F9.out.1.2.2.1.2.2 (up_ne rfl h))⟩⟩, ⟨(fun h => F9.out.1.2.2.2.1 (up_ne rfl h)), ⟨(fun h => F9.out.1.2.2.2.2.1 (up_ne rfl h)), (fun h => F9.out.1.2.2.2.2.2 (up_ne rfl h))⟩⟩⟩⟩⟩, ⟨⟨⟨⟨(fun h => F9.out.2.1.1.1.1 (up_ne rfl h)), (fun h => F9.out.2.1.1.1.2 (up_ne rfl h))⟩, ⟨(fun h => F9.out.2.1.1.2.1 (up_ne rfl h)), ⟨(fun h => by obtain ⟨pa, pc, e, r, z⟩ := (h24 (up_ne rfl h)); exact ⟨pa, pc, e, r.below b5, z⟩), (fun h => F9.out.2.1.1.2.2.2 (up_ne rfl h))⟩⟩⟩, ⟨⟨(fun h => F9.out.2.1.2.1.1 (up_ne rfl h)), ⟨(fun h => F9.out.2.1.2.1.2.1 (up_ne rfl h)), (fun h => F9.out.2.1.2.1.2.2 (up_ne rfl h))⟩⟩, ⟨(fun _ => ⟨w'.heap.size, rfl, hk.size, fun _ => alloc_new _ _, fun h9 => absurd h9 (by simp [n31])⟩), ⟨(fun h => F9.out.2.1.2.2.2.1 (up_ne rfl h)), (fun h => F9.out.2.1.2.2.2.2 (up_ne rfl h))⟩⟩⟩⟩, ⟨⟨⟨(fun h => up_of (F9.out.2.2.1.1.1 (up_ne rfl h))), (fun h => up_of (F9.out.2.2.1.1.2 (up_ne rfl h)))⟩, ⟨(fun h => up_of (F9.out.2.2.1.2.1 (up_ne rfl h))), ⟨(fun h => up_of (F9.out.2.2.1.2.2.1 (up_ne rfl h))), (fun h => up_of (F9.out.2.2.1.2.2.2 (up_ne rfl h)))⟩⟩⟩, ⟨⟨(fun h => up_of (F9.out.2.2.2.1.1 (up_ne rfl h))), ⟨(fun h => up_of (F9.out.2.2.2.1.2.1 (up_ne rfl h))), (fun h => up_of (F9.out.2.2.2.1.2.2 (up_ne rfl h)))⟩⟩, ⟨(fun h => up_of (F9.out.2.2.2.2.1 (up_ne rfl h))), ⟨(fun h => up_of (F9.out.2.2.2.2.2.1 (up_ne rfl h))), (fun h => up_of (F9.out.2.2.2.2.2.2 (up_ne rfl h)))⟩⟩⟩⟩⟩⟩⟩
        · simp only [List.getElem?_toArray, List.getElem?_cons_zero, List.getElem?_cons_succ, Option.some.injEq] at ho
          subst ho
          have hk := F9.out.1.1.1.1.1
          have h1 := F9.out.1.1.1.2.1
          have h2 := F9.out.1.1.1.2.2.1
          have h9 := F9.out.1.1.2.2.2.2
          have h23 := F9.out.2.1.1.2.1
          have h24 := F9.out.2.1.1.2.2.1
          have h25 := F9.out.2.1.1.2.2.2
          have h26 := F9.out.2.1.2.1.1
          have h29 := F9.out.2.1.2.2.1
          have q24_1 := F9.out.2.2.1.1.1
          have q24_2 := F9.out.2.2.1.1.2
          have q24_23 := F9.out.2.2.1.2.1
          have q25_24 := F9.out.2.2.1.2.2.1
          have q26_25 := F9.out.2.2.1.2.2.2
          have e_26 := dep 26 (by kernel_rfl)
          have e_25 := q26_25 e_26
          have e_24 := q25_24 e_25
          have e_1 := q24_1 e_24
          have e_2 := q24_2 e_24
          have e_23 := q24_23 e_24
          obtain rfl := h1 e_1
          obtain rfl := h2 e_2
          obtain rfl := h23 e_23
          obtain ⟨pa, pc, rfl, r5, z5⟩ := h24 e_24
          obtain rfl := h25 e_25
          have e44 := h26 e_26
          simp only [Value.tuple.injEq, Array.mk.injEq, List.cons.injEq, and_true] at e44
          obtain rfl := e44
          go_simp
          refine hK.out _ _ ⟨_, _, _, _, _, _, _, _, _, _, _, _, _, _, _, _, _, _, _, _, _, _, _, _, _, _, _, _, _, _, _, _, rfl, hid ⟨⟨⟨⟨⟨(hk), (fun h => F9.out.1.1.1.1.2 (up_ne rfl h))⟩, ⟨(fun _ => rfl), ⟨(fun _ => rfl), (fun h => F9.out.1.1.1.2.2.2 (up_ne rfl h))⟩⟩⟩, ⟨⟨(fun h => F9.out.1.1.2.1.1 (up_ne rfl h)), ⟨(fun h => F9.out.1.1.2.1.2.1 (up_ne rfl h)), (fun h => F9.out.1.1.2.1.2.2 (up_ne rfl h))⟩⟩, ⟨(fun h => F9.out.1.1.2.2.1 (up_ne rfl h)), ⟨(fun h => F9.out.1.1.2.2.2.1 (up_ne rfl h)), (fun h => F9.out.1.1.2.2.2.2 (up_ne rfl h))⟩⟩⟩⟩, ⟨⟨⟨(fun h => F9.out.1.2.1.1.1 (up_ne rfl h)), (fun h => F9.out.1.2.1.1.2 (up_ne rfl h))⟩, ⟨(fun h => F9.out.1.2.1.2.1 (up_ne rfl h)), ⟨(fun h => F9.out.1.2.1.2.2.1 (up_ne rfl h)), (fun h => F9.out.1.2.1.2.2.2 (up_ne rfl h))⟩⟩⟩, ⟨⟨(fun h => F9.out.1.2.2.1.1 (up_ne rfl h)), ⟨(fun h => F9.out.1.2.2.1.2.1 (up_ne rfl h)), (fun h => F9.out.1.2.2.1.2.2 (up_ne rfl h))⟩⟩, ⟨(fun h => F9.out.1.2.2.2.1 (up_ne rfl h)), ⟨(fun h => F9.out.1.2.2.2.2.1 (up_ne rfl h)), (fun h => F9.out.1.2.2.2.2.2 (up_ne rfl h))⟩⟩⟩⟩⟩, ⟨⟨⟨⟨(fun h => F9.out.2.1.1.1.1 (up_ne rfl h)), (fun h => F9.out.2.1.1.1.2 (up_ne rfl h))⟩, ⟨(fun _ => rfl), ⟨(fun _ => ⟨pa, pc, rfl, r5, z5⟩), (fun _ => rfl)⟩⟩⟩, ⟨⟨(fun _ => rfl), ⟨(fun h => F9.out.2.1.2.1.2.1 (up_ne rfl h)), (fun h => F9.out.2.1.2.1.2.2 (up_ne rfl h))⟩⟩, ⟨(fun h => (h29 (by simpa using h)).imp fun T e => ⟨e.1, e.2.1, fun h9 => e.2.2.1 (by simpa using h9), fun h9 => e.2.2.2 (by simpa using h9)⟩), ⟨(fun _ => rfl), (fun h => F9.out.2.1.2.2.2.2 (up_ne rfl h))⟩⟩⟩⟩, ⟨⟨⟨(fun h => up_of (F9.out.2.2.1.1.1 (up_ne rfl h))), (fun h => up_of (F9.out.2.2.1.1.2 (up_ne rfl h)))⟩, ⟨(fun h => up_of (F9.out.2.2.1.2.1 (up_ne rfl h))), ⟨(fun h => up_of (F9.out.2.2.1.2.2.1 (up_ne rfl h))), (fun h => up_of (F9.out.2.2.1.2.2.2 (up_ne rfl h)))⟩⟩⟩, ⟨⟨(fun h => up_of (F9.out.2.2.2.1.1 (up_ne rfl h))), ⟨(fun h => up_of (F9.out.2.2.2.1.2.1 (up_ne rfl h))), (fun _ => up_of e_26)⟩⟩, ⟨(fun h => up_of (F9.out.2.2.2.2.1 (up_ne rfl h))), ⟨(fun h => up_of (F9.out.2.2.2.2.2.1 (up_ne rfl h))), (fun h => up_of (F9.out.2.2.2.2.2.2 (up_ne rfl h)))⟩⟩⟩⟩⟩⟩⟩
        · simp only [List.getElem?_toArray, List.getElem?_cons_zero, List.getElem?_cons_succ, Option.some.injEq] at ho
          subst ho
          have hk := F9.out.1.1.1.1.1
          have h1 := F9.out.1.1.1.2.1
          have h2 := F9.out.1.1.1.2.2.1
          have h9 := F9.out.1.1.2.2.2.2
          have h23 := F9.out.2.1.1.2.1
          have h24 := F9.out.2.1.1.2.2.1
          have h25 := F9.out.2.1.1.2.2.2
          have h27 := F9.out.2.1.2.1.2.1
          have h29 := F9.out.2.1.2.2.1
          have q24_1 := F9.out.2.2.1.1.1
          have q24_2 := F9.out.2.2.1.1.2
          have q24_23 := F9.out.2.2.1.2.1
          have q25_24 := F9.out.2.2.1.2.2.1
          have q27_25 := F9.out.2.2.2.1.1
          have e_29 := dep 29 (by kernel_rfl)
          have e_27 := dep 27 (by kernel_rfl)
          have e_25 := q27_25 e_27
          have e_24 := q25_24 e_25
          have e_1 := q24_1 e_24
          have e_2 := q24_2 e_24
          have e_23 := q24_23 e_24
          obtain rfl := h1 e_1
          obtain rfl := h2 e_2
          obtain rfl := h23 e_23
          obtain ⟨pa, pc, rfl, r5, z5⟩ := h24 e_24
          obtain rfl := h25 e_25
          obtain rfl := h27 e_27
          obtain ⟨T, rfl, t1, t2, t3⟩ := h29 e_29
          have t4 := t2 hbi
          obtain ⟨f0, f1, f2⟩ := frozen3 t4
          obtain ⟨e0, e1, e2⟩ := cells3 t4
          have hT := hid (And.intro t1 t4)
          clear t1 t4 t2 t3
          go_simp
          refine hK.out _ _ ⟨_, _, _, _, _, _, _, _, _, _, _, _, _, _, _, _, _, _, _, _, _, _, _, _, _, _, _, _, _, _, _, _, rfl, hid ⟨⟨⟨⟨⟨(below_put (below_put (below_put hk hT.out.1) hT.out.1) hT.out.1), (fun h => F9.out.1.1.1.1.2 (up_ne rfl h))⟩, ⟨(fun _ => rfl), ⟨(fun _ => rfl), (fun h => F9.out.1.1.1.2.2.2 (up_ne rfl h))⟩⟩⟩, ⟨⟨(fun h => F9.out.1.1.2.1.1 (up_ne rfl h)), ⟨(fun h => F9.out.1.1.2.1.2.1 (up_ne rfl h)), (fun h => F9.out.1.1.2.1.2.2 (up_ne rfl h))⟩⟩, ⟨(fun h => F9.out.1.1.2.2.1 (up_ne rfl h)), ⟨(fun h => F9.out.1.1.2.2.2.1 (up_ne rfl h)), (fun h => F9.out.1.1.2.2.2.2 (up_ne rfl h))⟩⟩⟩⟩, ⟨⟨⟨(fun h => F9.out.1.2.1.1.1 (up_ne rfl h)), (fun h => F9.out.1.2.1.1.2 (up_ne rfl h))⟩, ⟨(fun h => F9.out.1.2.1.2.1 (up_ne rfl h)), ⟨(fun h => F9.out.1.2.1.2.2.1 (up_ne rfl h)), (fun h => F9.out.1.2.1.2.2.2 (up_ne rfl h))⟩⟩⟩, ⟨⟨(fun h => F9.out.1.2.2.1.1 (up_ne rfl h)), ⟨(fun h => F9.out.1.2.2.1.2.1 (up_ne rfl h)), (fun h => F9.out.1.2.2.1.2.2 (up_ne rfl h))⟩⟩, ⟨(fun h => F9.out.1.2.2.2.1 (up_ne rfl h)), ⟨(fun h => F9.out.1.2.2.2.2.1 (up_ne rfl h)), (fun h => F9.out.1.2.2.2.2.2 (up_ne rfl h))⟩⟩⟩⟩⟩, ⟨⟨⟨⟨(fun h => F9.out.2.1.1.1.1 (up_ne rfl h)), (fun h => F9.out.2.1.1.1.2 (up_ne rfl h))⟩, ⟨(fun _ => rfl), ⟨(fun _ => ⟨pa, pc, rfl, trow_put3 hT.out.2 r5, z5⟩), (fun _ => rfl)⟩⟩⟩, ⟨⟨(fun h => F9.out.2.1.2.1.1 (up_ne rfl h)), ⟨(fun _ => rfl), (fun h => F9.out.2.1.2.1.2.2 (up_ne rfl h))⟩⟩, ⟨(fun _ => ⟨T, rfl, hT.out.1, fun h9 => absurd h9 (by simp), fun _ => three_set hT.out.2⟩), ⟨(fun h => F9.out.2.1.2.2.2.1 (up_ne rfl h)), (fun h => F9.out.2.1.2.2.2.2 (up_ne rfl h))⟩⟩⟩⟩, ⟨⟨⟨(fun h => up_of (F9.out.2.2.1.1.1 (up_ne rfl h))), (fun h => up_of (F9.out.2.2.1.1.2 (up_ne rfl h)))⟩, ⟨(fun h => up_of (F9.out.2.2.1.2.1 (up_ne rfl h))), ⟨(fun h => up_of (F9.out.2.2.1.2.2.1 (up_ne rfl h))), (fun h => up_of (F9.out.2.2.1.2.2.2 (up_ne rfl h)))⟩⟩⟩, ⟨⟨(fun h => up_of (F9.out.2.2.2.1.1 (up_ne rfl h))), ⟨(fun h => up_of (F9.out.2.2.2.1.2.1 (up_ne rfl h))), (fun h => up_of (F9.out.2.2.2.1.2.2 (up_ne rfl h)))⟩⟩, ⟨(fun _ => up_of e_29), ⟨(fun _ => up_of e_27), (fun h => up_of (F9.out.2.2.2.2.2.2 (up_ne rfl h)))⟩⟩⟩⟩⟩⟩⟩
        · simp only [List.getElem?_toArray, List.getElem?_cons_zero, List.getElem?_cons_succ, Option.some.injEq] at ho
          subst ho
          have hk := F9.out.1.1.1.1.1
          have h1 := F9.out.1.1.1.2.1
          have h2 := F9.out.1.1.1.2.2.1
          have h9 := F9.out.1.1.2.2.2.2
          have h23 := F9.out.2.1.1.2.1
          have h24 := F9.out.2.1.1.2.2.1
          have h25 := F9.out.2.1.1.2.2.2
          have h28 := F9.out.2.1.2.1.2.2
          have h29 := F9.out.2.1.2.2.1
          have q24_1 := F9.out.2.2.1.1.1
          have q24_2 := F9.out.2.2.1.1.2
          have q24_23 := F9.out.2.2.1.2.1
          have q25_24 := F9.out.2.2.1.2.2.1
          have q28_25 := F9.out.2.2.2.1.2.1
          have e_28 := dep 28 (by kernel_rfl)
          have e_25 := q28_25 e_28
          have e_24 := q25_24 e_25
          have e_1 := q24_1 e_24
          have e_2 := q24_2 e_24
          have e_23 := q24_23 e_24
          obtain rfl := h1 e_1
          obtain rfl := h2 e_2
          obtain rfl := h23 e_23
          obtain ⟨pa, pc, rfl, r5, z5⟩ := h24 e_24
          obtain rfl := h25 e_25
          obtain rfl := h28 e_28
          go_simp
          refine hK.out _ _ ⟨_, _, _, _, _, _, _, _, _, _, _, _, _, _, _, _, _, _, _, _, _, _, _, _, _, _, _, _, _, _, _, _, rfl, hid ⟨⟨⟨⟨⟨(hk), (fun h => F9.out.1.1.1.1.2 (up_ne rfl h))⟩, ⟨(fun _ => rfl), ⟨(fun _ => rfl), (fun h => F9.out.1.1.1.2.2.2 (up_ne rfl h))⟩⟩⟩, ⟨⟨(fun h => F9.out.1.1.2.1.1 (up_ne rfl h)), ⟨(fun h => F9.out.1.1.2.1.2.1 (up_ne rfl h)), (fun h => F9.out.1.1.2.1.2.2 (up_ne rfl h))⟩⟩, ⟨(fun h => F9.out.1.1.2.2.1 (up_ne rfl h)), ⟨(fun h => F9.out.1.1.2.2.2.1 (up_ne rfl h)), (fun h => F9.out.1.1.2.2.2.2 (up_ne rfl h))⟩⟩⟩⟩, ⟨⟨⟨(fun h => F9.out.1.2.1.1.1 (up_ne rfl h)), (fun h => F9.out.1.2.1.1.2 (up_ne rfl h))⟩, ⟨(fun h => F9.out.1.2.1.2.1 (up_ne rfl h)), ⟨(fun h => F9.out.1.2.1.2.2.1 (up_ne rfl h)), (fun h => F9.out.1.2.1.2.2.2 (up_ne rfl h))⟩⟩⟩, ⟨⟨(fun h => F9.out.1.2.2.1.1 (up_ne rfl h)), ⟨(fun h => F9.out.1.2.2.1.2.1 (up_ne rfl h)), (fun h => F9.out.1.2.2.1.2.2 (up_ne rfl h))⟩⟩, ⟨(fun h => F9.out.1.2.2.2.1 (up_ne rfl h)), ⟨(fun h => F9.out.1.2.2.2.2.1 (up_ne rfl h)), (fun h => F9.out.1.2.2.2.2.2 (up_ne rfl h))⟩⟩⟩⟩⟩, ⟨⟨⟨⟨(fun h => F9.out.2.1.1.1.1 (up_ne rfl h)), (fun h => F9.out.2.1.1.1.2 (up_ne rfl h))⟩, ⟨(fun _ => rfl), ⟨(fun _ => ⟨pa, pc, rfl, r5, z5⟩), (fun _ => rfl)⟩⟩⟩, ⟨⟨(fun h => F9.out.2.1.2.1.1 (up_ne rfl h)), ⟨(fun h => F9.out.2.1.2.1.2.1 (up_ne rfl h)), (fun _ => rfl)⟩⟩, ⟨(fun h => (h29 (by simpa using h)).imp fun T e => ⟨e.1, e.2.1, fun h9 => e.2.2.1 (by simpa using h9), fun h9 => e.2.2.2 (by simpa using h9)⟩), ⟨(fun h => F9.out.2.1.2.2.2.1 (up_ne rfl h)), (fun _ => rfl)⟩⟩⟩⟩, ⟨⟨⟨(fun h => up_of (F9.out.2.2.1.1.1 (up_ne rfl h))), (fun h => up_of (F9.out.2.2.1.1.2 (up_ne rfl h)))⟩, ⟨(fun h => up_of (F9.out.2.2.1.2.1 (up_ne rfl h))), ⟨(fun h => up_of (F9.out.2.2.1.2.2.1 (up_ne rfl h))), (fun h => up_of (F9.out.2.2.1.2.2.2 (up_ne rfl h)))⟩⟩⟩, ⟨⟨(fun h => up_of (F9.out.2.2.2.1.1 (up_ne rfl h))), ⟨(fun h => up_of (F9.out.2.2.2.1.2.1 (up_ne rfl h))), (fun h => up_of (F9.out.2.2.2.1.2.2 (up_ne rfl h)))⟩⟩, ⟨(fun h => up_of (F9.out.2.2.2.2.1 (up_ne rfl h))), ⟨(fun h => up_of (F9.out.2.2.2.2.2.1 (up_ne rfl h))), (fun _ => up_of e_28)⟩⟩⟩⟩⟩⟩⟩
      case done7 =>
        rintro b a' w' ⟨v51, v52, v53, v54, v55, v56, v57, v58, v59, v60, v61, v62, v63, v64, v65, v66, v67, v68, v69, v70, v71, v72, v73, v74, v75, v50, v76, v77, v78, v8, v7, v9, rfl, F9⟩ hall
        have hk := F9.out.1.1.1.1.1
        have h0 := F9.out.1.1.1.1.2
        have h1 := F9.out.1.1.1.2.1
        have h2 := F9.out.1.1.1.2.2.1
        have h3 := F9.out.1.1.1.2.2.2
        have h4 := F9.out.1.1.2.1.1
        have h5 := F9.out.1.1.2.1.2.1
        have h6 := F9.out.1.1.2.1.2.2
        have h7 := F9.out.1.1.2.2.1
        have h8 := F9.out.1.1.2.2.2.1
        have h9 := F9.out.1.1.2.2.2.2
        have h10 := F9.out.1.2.1.1.1
        have h11 := F9.out.1.2.1.1.2
        have h12 := F9.out.1.2.1.2.1
        have h13 := F9.out.1.2.1.2.2.1
        have h14 := F9.out.1.2.1.2.2.2
        have h15 := F9.out.1.2.2.1.1
        have h16 := F9.out.1.2.2.1.2.1
        have h17 := F9.out.1.2.2.1.2.2
        have h18 := F9.out.1.2.2.2.1
        have h19 := F9.out.1.2.2.2.2.1
        have h20 := F9.out.1.2.2.2.2.2
        have h21 := F9.out.2.1.1.1.1
        have h22 := F9.out.2.1.1.1.2
        have h23 := F9.out.2.1.1.2.1
        have h24 := F9.out.2.1.1.2.2.1
        have h25 := F9.out.2.1.1.2.2.2
        have h26 := F9.out.2.1.2.1.1
        have h27 := F9.out.2.1.2.1.2.1
        have h28 := F9.out.2.1.2.1.2.2
        have h29 := F9.out.2.1.2.2.1
        have h30 := F9.out.2.1.2.2.2.1
        have h32 := F9.out.2.1.2.2.2.2
        obtain rfl := h0 (hall 0)
        obtain rfl := h1 (hall 1)
        obtain rfl := h2 (hall 2)
        obtain rfl := h3 (hall 3)
        obtain rfl := h4 (hall 4)
        obtain rfl := h5 (hall 5)
        obtain rfl := h6 (hall 6)
        obtain rfl := h7 (hall 7)
        obtain rfl := h8 (hall 8)
        obtain rfl := h9 (hall 9)
        obtain rfl := h10 (hall 10)
        obtain rfl := h11 (hall 11)
        obtain rfl := h12 (hall 12)
        obtain rfl := h13 (hall 13)
        obtain rfl := h14 (hall 14)
        obtain rfl := h15 (hall 15)
        obtain rfl := h16 (hall 16)
        obtain rfl := h17 (hall 17)
        obtain rfl := h18 (hall 18)
        obtain rfl := h19 (hall 19)
        obtain rfl := h20 (hall 20)
        obtain rfl := h21 (hall 21)
        obtain rfl := h22 (hall 22)
        obtain rfl := h23 (hall 23)
        obtain ⟨pa, pc, rfl, r5, z5⟩ := h24 (hall 24)
        obtain rfl := h25 (hall 25)
        have e44 := h26 (hall 26)
        simp only [Value.tuple.injEq, Array.mk.injEq, List.cons.injEq, and_true] at e44
        obtain rfl := e44
        obtain rfl := h27 (hall 27)
        obtain rfl := h28 (hall 28)
        obtain ⟨T, rfl, t1, t2, t3⟩ := h29 (hall 29)
        obtain rfl := h30 (hall 30)
        obtain rfl := h32 (hall 32)
        have t4 := t3 (hall 31)
        have RB := hid r5
        have X := hid (X.out.2.trans (hk.mono X.out.2.size))
        have R := hid (R.out.below hk)
        clear hk r5 z5 t1 t2 t3 t4 hall h0 h1 h2 h3 h4 h5 h6 h7 h8 h9 h10 h11 h12 h13 h14 h15 h16 h17 h18 h19 h20 h21 h22 h23 h24 h25 h26 h27 h28 h29 h30 h32
        dsimp only
        go_wp2_with fail
        refine (CA.out _).mono ?_
        rintro e W8 ⟨rfl, b8⟩
        have X := hid (X.out.trans (b8.mono X.out.size))
        have CS := hid (Same_any W8 pa lL pc L p lL c L (RB.out.below b8) (R.out.below b8) (by omega) (by omega))
        rw [decide_eq_true rfl] at CS
        clear b8
        go_wp2_with fail
        refine CS.out.mono ?_
        rintro e W9 ⟨rfl, b9⟩
        have X := hid (X.out.trans (b9.mono X.out.size))
        clear b9 CS
        go_wp2
        go_ret
        exact ⟨rfl, X.out⟩
      case init7 =>
        exact ⟨_, _, _, _, _, _, _, _, _, _, _, _, _, _, _, _, _, _, _, _, _, _, _, _, _, _, _, _, _, _, _, _, rfl, hid ⟨⟨⟨⟨⟨((Below.refl _ _).drew), (fun h => absurd h (by simp))⟩, ⟨(fun h => absurd h (by simp)), ⟨(fun h => absurd h (by simp)), (fun h => absurd h (by simp))⟩⟩⟩, ⟨⟨(fun h => absurd h (by simp)), ⟨(fun h => absurd h (by simp)), (fun h => absurd h (by simp))⟩⟩, ⟨(fun h => absurd h (by simp)), ⟨(fun h => absurd h (by simp)), (fun h => absurd h (by simp))⟩⟩⟩⟩, ⟨⟨⟨(fun h => absurd h (by simp)), (fun h => absurd h (by simp))⟩, ⟨(fun h => absurd h (by simp)), ⟨(fun h => absurd h (by simp)), (fun h => absurd h (by simp))⟩⟩⟩, ⟨⟨(fun h => absurd h (by simp)), ⟨(fun h => absurd h (by simp)), (fun h => absurd h (by simp))⟩⟩, ⟨(fun h => absurd h (by simp)), ⟨(fun h => absurd h (by simp)), (fun h => absurd h (by simp))⟩⟩⟩⟩⟩, ⟨⟨⟨⟨(fun h => absurd h (by simp)), (fun h => absurd h (by simp))⟩, ⟨(fun h => absurd h (by simp)), ⟨(fun h => absurd h (by simp)), (fun h => absurd h (by simp))⟩⟩⟩, ⟨⟨(fun h => absurd h (by simp)), ⟨(fun h => absurd h (by simp)), (fun h => absurd h (by simp))⟩⟩, ⟨(fun h => absurd h (by simp)), ⟨(fun h => absurd h (by simp)), (fun h => absurd h (by simp))⟩⟩⟩⟩, ⟨⟨⟨(fun h => absurd h (by simp)), (fun h => absurd h (by simp))⟩, ⟨(fun h => absurd h (by simp)), ⟨(fun h => absurd h (by simp)), (fun h => absurd h (by simp))⟩⟩⟩, ⟨⟨(fun h => absurd h (by simp)), ⟨(fun h => absurd h (by simp)), (fun h => absurd h (by simp))⟩⟩, ⟨(fun h => absurd h (by simp)), ⟨(fun h => absurd h (by simp)), (fun h => absurd h (by simp))⟩⟩⟩⟩⟩⟩⟩
    case init5 =>
      exact ⟨_, _, _, _, _, _, _, _, _, _, _, _, rfl, (Below.refl _ _).drew, fun h => absurd h (by simp), fun h => absurd h (by simp), fun h => absurd h (by simp), fun h => absurd h (by simp), fun h => absurd h (by simp), fun h => absurd h (by simp), fun h => absurd h (by simp), fun h => absurd h (by simp), fun h => absurd h (by simp), fun h => absurd h (by simp), fun h => absurd h (by simp), fun h => absurd h (by simp), fun h => absurd h (by simp), fun h => absurd h (by simp), fun h => absurd h (by simp), fun h => absurd h (by simp), fun h => absurd h (by simp), fun h => absurd h (by simp), fun h => absurd h (by simp), fun h => absurd h (by simp), fun h => absurd h (by simp), fun h => absurd h (by simp)⟩

theorem lifted (os : Os) (started : os.Started) (H : Type) (enc : TypeId × Value → H) :
    ReturnsInHanded {} Try.checked os 8 .any (Rows.relexUndoneSpec.pre6 enc Try.prog Try.f8 Rows.relexUndoneRow.domain false) (Rows.relexUndoneSpec.post enc Try.prog Try.f8 false true false false) := by
  refine Go.Frame.lifted (C := Try.checked) (tb := 4) own started (by kernel_rfl) Try.func8
    (ChangeSpec.witness6 (enc := enc) (C := Try.checked) false ⟨#[], #[.agg #[.slice none 0 0, .slice none 0 0, .slice none 0 0, .string ByteArray.empty, .int .i64 0, .int .i64 0, .string ByteArray.empty]], []⟩ 8 (by kernel_rfl) (by kernel_rfl) (by kernel_rfl) (by kernel_rfl))
    laidOut (by kernel_rfl) (by kernel_rfl) Try.underlying4 rfl ?_ ?_
  · intro ds h
    have h : ds.length = 1 := h
    match ds, h with
    | [_], _ => rfl
  · intro W base args ds p hlen hval0 hA hsz0
    have hval : ∀ (j : Nat) t v, Try.f8.params[j]? = some t → args[j]? = some v → Value.okWide Try.prog W .any base t v := hval0
    have hA : DataW.TrodAll enc Try.prog W 0 (fun _ => true) true Try.f8.params.toList args.toList ds p := hA
    have hsz : (DataW.weightsEach Try.prog Try.f8.params.toList ds).all (· ≤ reachBytes) = true := hsz0
    rw [Try.params8] at hA hval hsz
    obtain ⟨v0, vs0, d0, ds0, p0, q0, hargs, hds, _, th0, tr0⟩ := trodAll_cons hA
    obtain ⟨rfl, rfl, _⟩ := trodAll_nil tr0
    obtain rfl : args = #[v0] := by cases args; simp_all
    subst hds
    obtain ⟨Du, a1x, n1x, c1x, a2x, n2x, c2x, a3x, n3x, c3x, sx, ex, rfl, hDu, hsx, hex⟩ := open_ask (hval 0 29 v0 rfl rfl) th0 (fun n hn => of_decide_eq_true (List.all_eq_true.1 hsz _ (DataW.weights_mem_each (j := 0) rfl rfl n hn)))
    exact walk Du a1x n1x c1x a2x n2x c2x a3x n3x c3x sx ex W hDu hsx hex

theorem over : Rows.relexUndoneRow.holds Try.pinned (OpenSpec.ofChange Rows.relexUndoneSpec) :=
  OpenClaim.holds_of_wide 8 Try.f8 rfl rfl rfl rfl rfl rfl rfl ⟨rfl, rfl, rfl, rfl, rfl⟩ rfl rfl rfl rfl rfl (by kernel_rfl) Try.func8 (by kernel_rfl)
    (of_decide_eq_true (by kernel_rfl)) (by unfold Func.isWrapper; first | (rw [if_pos (by decide +kernel)]; kernel_rfl) | (rw [if_neg (by decide +kernel)]; exact ⟨rfl, rfl⟩))
    (fun os started H enc _ => lifted os started H enc)

/-- THE STATEMENT -/
theorem proved : Rows.RelexUndoneSaid :=
  over
#print axioms proved
end Go.Proofs.Ytblcjjhjgoccgaa.relexUndone
