/-
  RelexNothing, for every input: the law returns true and leaves its arguments as they read. No condition.
-/
import Derived.Test.YtblcjjhjgoccgaaXp
import Derived.Test.YtblcjjhjgoccgaaXo
set_option linter.unusedSimpArgs false
set_option linter.unusedVariables false
namespace Go.Proofs.Ytblcjjhjgoccgaa.relexNothing
open Go.ChangeShapes Go.WideShapes Go.ChangeAt Go.RowKit Go.Frame
open Go.ChangeMaps (open_string shut_string)
open Lx
attribute [local go_sem] eq_chg eq_tok
set_option maxRecDepth 100000 in
set_option maxHeartbeats 4000000 in
theorem walk (D : Df) (a1 : Option Addr) (n1 c1 : Nat) (a2 : Option Addr) (n2 c2 : Nat) (a3 : Option Addr) (n3 c3 : Nat) (s : ByteArray) (u v : Nat) (w : World) (hD : DA w D a1 n1 a2 n2 a3 n3) (hs0 : s.size ≤ 140737488351232) (hu : u < 256) (hv0 : v < 256) :
    Calls Try.prog 7 #[.agg #[.slice a1 n1 c1, .slice a2 n2 c2, .slice a3 n3 c3], .string s, .agg #[.int .u8 (u : Int), .int .u8 (v : Int)]] w fun e w' => e = .returned (.bool true) ∧ Below w.heap.size w w' := by
  obtain ⟨W, hW⟩ : ∃ W, W = (w.alloc (.cells #[.slice a1 n1 c1, .slice a2 n2 c2, .slice a3 n3 c3] 25)).alloc (.cells #[.int .u8 (u : Int), .int .u8 (v : Int)] 48) := ⟨_, rfl⟩
  obtain ⟨x1, x2, bW, sW⟩ := two w (.cells #[.slice a1 n1 c1, .slice a2 n2 c2, .slice a3 n3 c3] 25) (.cells #[.int .u8 (u : Int), .int .u8 (v : Int)] 48)
  rw [← hW] at x1 x2 bW sW
  have X := hid (And.intro x1 (And.intro x2 bW))
  have CM := hid (fun V (hV : Below w.heap.size w V) => show Calls Try.prog 15 #[.agg #[.slice a1 n1 c1, .slice a2 n2 c2, .slice a3 n3 c3], .int .i64 40, .int .i64 20] V fun e w' => e = .returned (.bool (sm D 40 20)) ∧ Below V.heap.size V w' from Small_any V D a1 n1 c1 a2 n2 c2 a3 n3 c3 (hD.below hV) 40 20)
  have CA := hid (fun V => awake_any V)
  have HI := hid hD
  obtain ⟨y, hy⟩ : ∃ y, y = sm D 40 20 := ⟨_, rfl⟩
  rw [← hy] at CM
  have HY := hid hy
  obtain ⟨d0, d1, d2⟩ := cells3 x1
  clear hD hy x1 x2 bW sW
  go_enter Try.func7, Try.ntmps7
  go_upto_region 1 with fail
  rw [← hW]
  clear hW
  go_wp2_with fail
  refine (CM.out W X.out.2.2).mono ?_
  rintro e W1 ⟨rfl, b1⟩
  have X := hid (And.intro ((b1.block _ (heap_lt X.out.1)).trans X.out.1) (And.intro ((b1.block _ (heap_lt X.out.2.1)).trans X.out.2.1) (X.out.2.2.trans (b1.mono X.out.2.2.size))))
  clear b1 CM d0 d1 d2
  cases y
  · go_wp2_with fail
    refine (CA.out _).mono ?_
    rintro e W2 ⟨rfl, b2⟩
    have X2 := hid (X.out.2.2.trans (b2.mono X.out.2.2.size))
    clear b2
    go_wp2
    go_ret
    exact ⟨rfl, X2.out⟩
  · obtain ⟨n, k, hv⟩ := sm_vd HY.out.symm
    have HV := hid hv
    clear hv
    by_cases hs1 : s.size ≤ 100
    rotate_left
    · have hs2 : (100 : Int) < (s.size : Int) := by omega
      go_wp2_with fail
      refine (CA.out _).mono ?_
      rintro e W2 ⟨rfl, b2⟩
      have X2 := hid (X.out.2.2.trans (b2.mono X.out.2.2.size))
      clear b2
      go_wp2
      go_ret
      exact ⟨rfl, X2.out⟩
    have hs2 : ¬ (100 : Int) < (s.size : Int) := by omega
    obtain ⟨d0, d1, d2⟩ := cells3 X.out.1
    obtain ⟨L, hL⟩ : ∃ L, L = lexT D s := ⟨_, rfl⟩
    obtain ⟨lL, hlL⟩ : ∃ lL, lL = L.length := ⟨_, rfl⟩
    have hlb : lL ≤ 100 := by rw [hlL, hL]; exact Nat.le_trans (lexT_len _ _) hs1
    have HL := hid (And.intro hL hlL)
    have C1 := hid (show Calls Try.prog 11 #[.agg #[.slice a1 n1 c1, .slice a2 n2 c2, .slice a3 n3 c3], .string s] W1 fun e w' => (∃ p c, e = .returned (.slice p lL c) ∧ TRow w' p lL L ∧ lL ≤ c) ∧ Below W1.heap.size W1 w' from by
      have := RLex_any W1 D n k HV.out a1 n1 c1 a2 n2 c2 a3 n3 c3 (HI.out.below X.out.2.2) s (by omega)
      unfold TRes at this
      rw [← hL, ← hlL] at this
      exact this)
    clear hL hlL
    go_wp2_with fail
    refine C1.out.mono ?_
    rintro e W2 ⟨⟨p, c, rfl, hr, hpc⟩, b2⟩
    have X := hid (And.intro ((b2.block _ (heap_lt X.out.1)).trans X.out.1) (And.intro ((b2.block _ (heap_lt X.out.2.1)).trans X.out.2.1) (X.out.2.2.trans (b2.mono X.out.2.2.size))))
    have R := hid hr
    clear hr b2 C1 d0 d1 d2
    obtain ⟨d0, d1, d2⟩ := cells3 X.out.1
    obtain ⟨g0, g1⟩ := cells2 X.out.2.1
    obtain ⟨fr, hfr⟩ : ∃ fr : Nat, (u : Int) % ((s.size : Int) + 1) = (fr : Int) := ⟨u % (s.size + 1), by
      rw [show (s.size : Int) + 1 = ((s.size + 1 : Nat) : Int) by omega]; omega⟩
    have hfr2 : fr ≤ s.size := by
      have h1 : (u : Int) % ((s.size : Int) + 1) < (s.size : Int) + 1 := Int.emod_lt_of_pos _ (by omega)
      omega
    obtain ⟨yv, hyv⟩ : ∃ yv : Nat, (v : Int) % ((s.size : Int) - (fr : Int) + 1) = (yv : Int) := ⟨v % (s.size - fr + 1), by
      rw [show (s.size : Int) - (fr : Int) + 1 = ((s.size - fr + 1 : Nat) : Int) by omega]; omega⟩
    have hyv2 : fr + yv ≤ s.size := by
      have h1 : (v : Int) % ((s.size : Int) - (fr : Int) + 1) < (s.size : Int) - (fr : Int) + 1 := Int.emod_lt_of_pos _ (by omega)
      omega
    have k1 : IntKind.i64.wrap ((s.size : Int) + 1) = (s.size : Int) + 1 := wrapIn (by omega) (by omega)
    have k2 : IntKind.i64.wrap ((s.size : Int) - (fr : Int)) = (s.size : Int) - (fr : Int) := wrapIn (by omega) (by omega)
    have k3 : IntKind.i64.wrap ((s.size : Int) - (fr : Int) + 1) = (s.size : Int) - (fr : Int) + 1 := wrapIn (by omega) (by omega)
    have k4 : IntKind.i64.wrap ((fr : Int) + (yv : Int)) = ((fr + yv : Nat) : Int) := by rw [wrapIn (by omega) (by omega)]; omega
    have k5 : IntKind.i64.wrap (u : Int) = (u : Int) := wrapIn (by omega) (by omega)
    have k6 : IntKind.i64.wrap (v : Int) = (v : Int) := wrapIn (by omega) (by omega)
    have k7 : ¬ (s.size : Int) + 1 = 0 := by omega
    have k8 : ¬ (s.size : Int) - (fr : Int) + 1 = 0 := by omega
    have k9 : (u : Int).tmod ((s.size : Int) + 1) = (fr : Int) := by rw [Int.tmod_eq_emod_of_nonneg (by omega)]; exact hfr
    have k10 : (v : Int).tmod ((s.size : Int) - (fr : Int) + 1) = (yv : Int) := by rw [Int.tmod_eq_emod_of_nonneg (by omega)]; exact hyv
    have k11 : IntKind.i64.wrap (fr : Int) = (fr : Int) := wrapIn (by omega) (by omega)
    have k12 : IntKind.i64.wrap (yv : Int) = (yv : Int) := wrapIn (by omega) (by omega)
    obtain ⟨cX, hcX⟩ : ∃ cX : Int, cX = (uM D s fr : Int) := ⟨_, rfl⟩
    obtain ⟨cY, hcY⟩ : ∃ cY : Int, cY = ((uR D s fr 0 ByteArray.empty).2 : Int) - (uM D s fr : Int) := ⟨_, rfl⟩
    obtain ⟨cZ, hcZ⟩ : ∃ cZ : Int, cZ = ((uR D s fr 0 ByteArray.empty).1 : Int) := ⟨_, rfl⟩
    have CU1 := hid (show Calls Try.prog 12 #[.agg #[.slice a1 n1 c1, .slice a2 n2 c2, .slice a3 n3 c3], .slice p lL c, .agg #[.int .i64 (fr : Int), .int .i64 0, .string { data := #[] }]] W2 fun e w' => (∃ pa pc, e = .returned (.tuple #[.slice pa lL pc, .agg #[.int .i64 cX, .int .i64 cY, .int .i64 cZ], .int .i64 0]) ∧ TRow w' pa lL L ∧ lL ≤ pc) ∧ Below W2.heap.size W2 w' from by
      have := Update_yes W2 D n k HV.out a1 n1 c1 a2 n2 c2 a3 n3 c3 (HI.out.below X.out.2.2) s (by omega) p lL c (by rw [← HL.out.1]; exact R.out) hpc fr 0 ByteArray.empty (by decide) (by omega)
      unfold URes at this
      rw [← hcY, ← hcZ, ← hcX, nt_none hfr2, ← HL.out.1, ← HL.out.2] at this
      exact this)
    clear hcX hcY hcZ
    go_wp2_with fail
    refine CU1.out.mono ?_
    rintro e W3 ⟨⟨q1, r1, rfl, hq, hqr⟩, b2⟩
    obtain ⟨V, hV⟩ : ∃ V, V = W3.alloc (.cells #[.int .i64 cX, .int .i64 cY, .int .i64 cZ] 35) := ⟨_, rfl⟩
    have bV := bel1 W3 (.cells #[.int .i64 cX, .int .i64 cY, .int .i64 cZ] 35)
    rw [← hV] at bV
    obtain ⟨B1, hC⟩ : ∃ B1, B1 = W3.heap.size := ⟨_, rfl⟩
    have b3 := b2.trans (bV.mono b2.size)
    have X := hid (And.intro ((b3.block _ (heap_lt X.out.1)).trans X.out.1) (X.out.2.2.trans (b3.mono X.out.2.2.size)))
    have R := hid (R.out.below b3)
    have RQ := hid (hq.below bV)
    clear hq hqr b2 b3 bV CU1 d0 d1 d2 g0 g1
    obtain ⟨d0, d1, d2⟩ := cells3 X.out.1
    obtain ⟨cA, hcA⟩ : ∃ cA : Int, cA = (uM D s fr : Int) := ⟨_, rfl⟩
    obtain ⟨cB, hcB⟩ : ∃ cB : Int, cB = ((uR D s fr yv (s.extract fr (fr + yv))).2 : Int) - (uM D s fr : Int) := ⟨_, rfl⟩
    have hcC : ((uR D s fr yv (s.extract fr (fr + yv))).1 : Int) = cB := by
      have h1 := congrArg List.length (upd_eq (D := D) (ins := s.extract fr (fr + yv)) hyv2)
      rw [List.length_append, List.length_append, uR_len hyv2, List.length_take, List.length_map, List.length_drop, Nat.min_eq_left uM_le, nt_same hyv2] at h1
      have h2 := uR_two (D := D) (ins := s.extract fr (fr + yv)) hyv2
      omega
    have CU2 := hid (fun V9 (hV9 : Below V.heap.size V V9) => show Calls Try.prog 12 #[.agg #[.slice a1 n1 c1, .slice a2 n2 c2, .slice a3 n3 c3], .slice p lL c, .agg #[.int .i64 (fr : Int), .int .i64 (yv : Int), .string (s.extract fr (fr + yv))]] V9 fun e w' => (∃ pa pc, e = .returned (.tuple #[.slice pa lL pc, .agg #[.int .i64 cA, .int .i64 cB, .int .i64 cB], .int .i64 0]) ∧ TRow w' pa lL L ∧ lL ≤ pc) ∧ Below V9.heap.size V9 w' from by
      have := Update_yes V9 D n k HV.out a1 n1 c1 a2 n2 c2 a3 n3 c3 (HI.out.below (X.out.2.trans (hV9.mono X.out.2.size))) s (by omega) p lL c (by rw [← HL.out.1]; exact R.out.below hV9) hpc fr yv (s.extract fr (fr + yv)) (by rw [ByteArray.size_extract]; omega) hyv2
      unfold URes at this
      rw [← hcB, hcC, ← hcA, nt_same hyv2, ← HL.out.1, ← HL.out.2] at this
      exact this)
    have w1 : IntKind.i64.wrap ((fr : Int) + (yv : Int) - (fr : Int)) = (yv : Int) := by rw [wrapIn (by omega) (by omega)]; omega
    have w2 : (0 : Int) ≤ (fr : Int) := by omega
    have w3 : (fr : Int) ≤ (fr : Int) + (yv : Int) := by omega
    have w4 : (fr : Int) + (yv : Int) ≤ (s.size : Int) := by omega
    clear hcA hcB hcC hfr hyv k1 k2 k3 k4 k5 k6 k7 k8 k9 k10 k11 k12
    go_upto_region 7 with fail
    rw [← hV, ← hC]
    clear hV hC d0 d1 d2
    refine region_invB (fun b a' w' => ∃ (v56 v57 v58 v59 v60 v61 v62 v63 v64 v65 v66 v67 v55 v68 v69 v70 v14 v13 v15 : Value), a' = { tmps := #[.agg #[.slice a1 n1 c1, .slice a2 n2 c2, .slice a3 n3 c3], .string s, .agg #[.int .u8 (u : Int), .int .u8 (v : Int)], .pointer (some ⟨w.heap.size, 0, none⟩), undef, .pointer (some ⟨w.heap.size + 1, 0, none⟩), .bool false, .slice p lL c, .int .i64 (fr : Int), .int .i64 ((fr : Int) + (yv : Int)), .slice q1 lL r1, .pointer (some ⟨B1, 0, none⟩), .int .i64 0, v13, v14, v15, .agg #[.slice a1 n1 c1, .slice a2 n2 c2, .slice a3 n3 c3], .bool true, .bool false, .bool false, .string s, .int .i64 (s.size : Int), .bool (decide (100 < (s.size : Int))), .bool (decide (100 < (s.size : Int))), undef, .agg #[.slice a1 n1 c1, .slice a2 n2 c2, .slice a3 n3 c3], .string s, .slice p lL c, .pointer (some ⟨w.heap.size + 1, 0, none⟩), .int .u8 (u : Int), .int .i64 (u : Int), .string s, .int .i64 (s.size : Int), .int .i64 ((s.size : Int) + 1), .int .i64 (fr : Int), .int .i64 (fr : Int), .pointer (some ⟨w.heap.size + 1, 1, none⟩), .int .u8 (v : Int), .int .i64 (v : Int), .string s, .int .i64 (s.size : Int), .int .i64 (fr : Int), .int .i64 ((s.size : Int) - (fr : Int)), .int .i64 ((s.size : Int) - (fr : Int) + 1), .int .i64 (yv : Int), .int .i64 ((fr : Int) + (yv : Int)), .tuple #[.slice q1 lL r1, .agg #[.int .i64 cX, .int .i64 cY, .int .i64 cZ], .int .i64 0], .agg #[.slice a1 n1 c1, .slice a2 n2 c2, .slice a3 n3 c3], .slice p lL c, .int .i64 (fr : Int), .agg #[.int .i64 (fr : Int), .int .i64 0, .string { data := #[] }], .tuple #[.slice q1 lL r1, .agg #[.int .i64 cX, .int .i64 cY, .int .i64 cZ], .int .i64 0], .slice q1 lL r1, .agg #[.int .i64 cX, .int .i64 cY, .int .i64 cZ], .int .i64 0, v55, v56, v57, v58, v59, v60, v61, v62, v63, v64, v65, v66, v67, v68, v69, v70, undef, undef, undef, undef, undef, undef, undef, undef, undef, undef, undef, undef, undef, undef, undef, undef, undef, undef, undef, undef, undef, undef, undef, undef, undef, undef], defers := [] } ∧ Hid (((((Below V.heap.size V w') ∧ (((b 0 = true → v56 = .agg #[.slice a1 n1 c1, .slice a2 n2 c2, .slice a3 n3 c3])) ∧ ((b 1 = true → v57 = .slice p lL c)))) ∧ ((((b 2 = true → v58 = .int .i64 (fr : Int))) ∧ ((b 3 = true → v59 = .int .i64 ((fr : Int) + (yv : Int))))) ∧ (((b 4 = true → v60 = .int .i64 (fr : Int))) ∧ ((b 5 = true → v61 = .int .i64 (yv : Int)))))) ∧ (((((b 6 = true → v62 = .string s)) ∧ ((b 7 = true → v63 = .int .i64 (fr : Int)))) ∧ (((b 8 = true → v64 = .int .i64 ((fr : Int) + (yv : Int)))) ∧ ((b 9 = true → v65 = .string (s.extract fr (fr + yv)))))) ∧ ((((b 10 = true → v66 = .agg #[.int .i64 (fr : Int), .int .i64 (yv : Int), .string (s.extract fr (fr + yv))])) ∧ ((b 11 = true → ∃ pa pc, v67 = .tuple #[.slice pa lL pc, .agg #[.int .i64 cA, .int .i64 cB, .int .i64 cB], .int .i64 0] ∧ TRow w' pa lL L ∧ lL ≤ pc))) ∧ (((b 12 = true → v55 = v67)) ∧ ((b 13 = true → v67 = .tuple #[v68, .agg #[.int .i64 cA, .int .i64 cB, .int .i64 cB], .int .i64 0])))))) ∧ ((((((b 14 = true → v69 = .agg #[.int .i64 cA, .int .i64 cB, .int .i64 cB])) ∧ ((b 15 = true → v70 = .int .i64 0))) ∧ (((b 16 = true → ∃ T : Nat, v14 = .pointer (some ⟨T, 0, none⟩) ∧ V.heap.size ≤ T ∧ (b 18 = false → w'.heap[T]? = some (.cells #[.int .i64 0, .int .i64 0, .int .i64 0] 35 (0, 0))) ∧ (b 18 = true → w'.heap[T]? = some (.cells #[.int .i64 cA, .int .i64 cB, .int .i64 cB] 35 (0, 0))))) ∧ ((b 17 = true → v13 = v68)))) ∧ ((((b 19 = true → v15 = v70)) ∧ ((b 11 = true → b 0 = true))) ∧ (((b 11 = true → b 1 = true)) ∧ ((b 11 = true → b 10 = true))))) ∧ (((((b 12 = true → b 11 = true)) ∧ ((b 13 = true → b 12 = true))) ∧ (((b 14 = true → b 12 = true)) ∧ ((b 15 = true → b 12 = true)))) ∧ ((((b 17 = true → b 13 = true)) ∧ ((b 18 = true → b 16 = true))) ∧ (((b 18 = true → b 14 = true)) ∧ ((b 19 = true → b 15 = true)))))))) (by kernel_rfl) (bindB_of (by kernel_rfl)) ?step7 ?done7 ?init7
    case step7 =>
      rintro b a' w' i o ho ⟨v56, v57, v58, v59, v60, v61, v62, v63, v64, v65, v66, v67, v55, v68, v69, v70, v14, v13, v15, rfl, F9⟩ hbi hd K hK
      have hlt : i < 20 := by have := (Array.getElem?_eq_some_iff.1 ho).1; simpa using this
      have dep : ∀ k, (o.after.any fun e => Region.binds .any e && e.on == k) = true → b k = true := fun k hk => by
        obtain ⟨e, he, h⟩ := Array.any_eq_true'.1 hk
        simp only [Bool.and_eq_true, beq_iff_eq] at h
        rw [← h.2]; exact hd e he h.1
      clear hd
      have hi : i = 0 ∨ i = 1 ∨ i = 2 ∨ i = 3 ∨ i = 4 ∨ i = 5 ∨ i = 6 ∨ i = 7 ∨ i = 8 ∨ i = 9 ∨ i = 10 ∨ i = 11 ∨ i = 12 ∨ i = 13 ∨ i = 14 ∨ i = 15 ∨ i = 16 ∨ i = 17 ∨ i = 18 ∨ i = 19 := by omega
      clear hlt
      rcases hi with rfl | rfl | rfl | rfl | rfl | rfl | rfl | rfl | rfl | rfl | rfl | rfl | rfl | rfl | rfl | rfl | rfl | rfl | rfl | rfl
      · simp only [List.getElem?_toArray, List.getElem?_cons_zero, List.getElem?_cons_succ, Option.some.injEq] at ho
        subst ho
        have hk := F9.out.1.1.1.1
        have h9 := F9.out.1.2.1.2.2
        have h16 := F9.out.2.1.1.2.1
        obtain ⟨d0, d1, d2⟩ := cells3 ((hk.block _ (heap_lt X.out.1)).trans X.out.1)
        go_simp
        refine hK.out _ _ ⟨_, _, _, _, _, _, _, _, _, _, _, _, _, _, _, _, _, _, _, rfl, hid ⟨⟨⟨⟨(hk), ⟨(fun _ => rfl), (fun h => F9.out.1.1.1.2.2 (up_ne rfl h))⟩⟩, ⟨⟨(fun h => F9.out.1.1.2.1.1 (up_ne rfl h)), (fun h => F9.out.1.1.2.1.2 (up_ne rfl h))⟩, ⟨(fun h => F9.out.1.1.2.2.1 (up_ne rfl h)), (fun h => F9.out.1.1.2.2.2 (up_ne rfl h))⟩⟩⟩, ⟨⟨⟨(fun h => F9.out.1.2.1.1.1 (up_ne rfl h)), (fun h => F9.out.1.2.1.1.2 (up_ne rfl h))⟩, ⟨(fun h => F9.out.1.2.1.2.1 (up_ne rfl h)), (fun h => F9.out.1.2.1.2.2 (up_ne rfl h))⟩⟩, ⟨⟨(fun h => F9.out.1.2.2.1.1 (up_ne rfl h)), (fun h => F9.out.1.2.2.1.2 (up_ne rfl h))⟩, ⟨(fun h => F9.out.1.2.2.2.1 (up_ne rfl h)), (fun h => F9.out.1.2.2.2.2 (up_ne rfl h))⟩⟩⟩⟩, ⟨⟨⟨⟨(fun h => F9.out.2.1.1.1.1 (up_ne rfl h)), (fun h => F9.out.2.1.1.1.2 (up_ne rfl h))⟩, ⟨(fun h => (h16 (by simpa using h)).imp fun T e => ⟨e.1, e.2.1, fun h9 => e.2.2.1 (by simpa using h9), fun h9 => e.2.2.2 (by simpa using h9)⟩), (fun h => F9.out.2.1.1.2.2 (up_ne rfl h))⟩⟩, ⟨⟨(fun h => F9.out.2.1.2.1.1 (up_ne rfl h)), (fun h => up_of (F9.out.2.1.2.1.2 (up_ne rfl h)))⟩, ⟨(fun h => up_of (F9.out.2.1.2.2.1 (up_ne rfl h))), (fun h => up_of (F9.out.2.1.2.2.2 (up_ne rfl h)))⟩⟩⟩, ⟨⟨⟨(fun h => up_of (F9.out.2.2.1.1.1 (up_ne rfl h))), (fun h => up_of (F9.out.2.2.1.1.2 (up_ne rfl h)))⟩, ⟨(fun h => up_of (F9.out.2.2.1.2.1 (up_ne rfl h))), (fun h => up_of (F9.out.2.2.1.2.2 (up_ne rfl h)))⟩⟩, ⟨⟨(fun h => up_of (F9.out.2.2.2.1.1 (up_ne rfl h))), (fun h => up_of (F9.out.2.2.2.1.2 (up_ne rfl h)))⟩, ⟨(fun h => up_of (F9.out.2.2.2.2.1 (up_ne rfl h))), (fun h => up_of (F9.out.2.2.2.2.2 (up_ne rfl h)))⟩⟩⟩⟩⟩⟩
      · simp only [List.getElem?_toArray, List.getElem?_cons_zero, List.getElem?_cons_succ, Option.some.injEq] at ho
        subst ho
        have hk := F9.out.1.1.1.1
        have h9 := F9.out.1.2.1.2.2
        have h16 := F9.out.2.1.1.2.1
        go_simp
        refine hK.out _ _ ⟨_, _, _, _, _, _, _, _, _, _, _, _, _, _, _, _, _, _, _, rfl, hid ⟨⟨⟨⟨(hk), ⟨(fun h => F9.out.1.1.1.2.1 (up_ne rfl h)), (fun _ => rfl)⟩⟩, ⟨⟨(fun h => F9.out.1.1.2.1.1 (up_ne rfl h)), (fun h => F9.out.1.1.2.1.2 (up_ne rfl h))⟩, ⟨(fun h => F9.out.1.1.2.2.1 (up_ne rfl h)), (fun h => F9.out.1.1.2.2.2 (up_ne rfl h))⟩⟩⟩, ⟨⟨⟨(fun h => F9.out.1.2.1.1.1 (up_ne rfl h)), (fun h => F9.out.1.2.1.1.2 (up_ne rfl h))⟩, ⟨(fun h => F9.out.1.2.1.2.1 (up_ne rfl h)), (fun h => F9.out.1.2.1.2.2 (up_ne rfl h))⟩⟩, ⟨⟨(fun h => F9.out.1.2.2.1.1 (up_ne rfl h)), (fun h => F9.out.1.2.2.1.2 (up_ne rfl h))⟩, ⟨(fun h => F9.out.1.2.2.2.1 (up_ne rfl h)), (fun h => F9.out.1.2.2.2.2 (up_ne rfl h))⟩⟩⟩⟩, ⟨⟨⟨⟨(fun h => F9.out.2.1.1.1.1 (up_ne rfl h)), (fun h => F9.out.2.1.1.1.2 (up_ne rfl h))⟩, ⟨(fun h => (h16 (by simpa using h)).imp fun T e => ⟨e.1, e.2.1, fun h9 => e.2.2.1 (by simpa using h9), fun h9 => e.2.2.2 (by simpa using h9)⟩), (fun h => F9.out.2.1.1.2.2 (up_ne rfl h))⟩⟩, ⟨⟨(fun h => F9.out.2.1.2.1.1 (up_ne rfl h)), (fun h => up_of (F9.out.2.1.2.1.2 (up_ne rfl h)))⟩, ⟨(fun h => up_of (F9.out.2.1.2.2.1 (up_ne rfl h))), (fun h => up_of (F9.out.2.1.2.2.2 (up_ne rfl h)))⟩⟩⟩, ⟨⟨⟨(fun h => up_of (F9.out.2.2.1.1.1 (up_ne rfl h))), (fun h => up_of (F9.out.2.2.1.1.2 (up_ne rfl h)))⟩, ⟨(fun h => up_of (F9.out.2.2.1.2.1 (up_ne rfl h))), (fun h => up_of (F9.out.2.2.1.2.2 (up_ne rfl h)))⟩⟩, ⟨⟨(fun h => up_of (F9.out.2.2.2.1.1 (up_ne rfl h))), (fun h => up_of (F9.out.2.2.2.1.2 (up_ne rfl h)))⟩, ⟨(fun h => up_of (F9.out.2.2.2.2.1 (up_ne rfl h))), (fun h => up_of (F9.out.2.2.2.2.2 (up_ne rfl h)))⟩⟩⟩⟩⟩⟩
      · simp only [List.getElem?_toArray, List.getElem?_cons_zero, List.getElem?_cons_succ, Option.some.injEq] at ho
        subst ho
        have hk := F9.out.1.1.1.1
        have h9 := F9.out.1.2.1.2.2
        have h16 := F9.out.2.1.1.2.1
        go_simp
        refine hK.out _ _ ⟨_, _, _, _, _, _, _, _, _, _, _, _, _, _, _, _, _, _, _, rfl, hid ⟨⟨⟨⟨(hk), ⟨(fun h => F9.out.1.1.1.2.1 (up_ne rfl h)), (fun h => F9.out.1.1.1.2.2 (up_ne rfl h))⟩⟩, ⟨⟨(fun _ => rfl), (fun h => F9.out.1.1.2.1.2 (up_ne rfl h))⟩, ⟨(fun h => F9.out.1.1.2.2.1 (up_ne rfl h)), (fun h => F9.out.1.1.2.2.2 (up_ne rfl h))⟩⟩⟩, ⟨⟨⟨(fun h => F9.out.1.2.1.1.1 (up_ne rfl h)), (fun h => F9.out.1.2.1.1.2 (up_ne rfl h))⟩, ⟨(fun h => F9.out.1.2.1.2.1 (up_ne rfl h)), (fun h => F9.out.1.2.1.2.2 (up_ne rfl h))⟩⟩, ⟨⟨(fun h => F9.out.1.2.2.1.1 (up_ne rfl h)), (fun h => F9.out.1.2.2.1.2 (up_ne rfl h))⟩, ⟨(fun h => F9.out.1.2.2.2.1 (up_ne rfl h)), (fun h => F9.out.1.2.2.2.2 (up_ne rfl h))⟩⟩⟩⟩, ⟨⟨⟨⟨(fun h => F9.out.2.1.1.1.1 (up_ne rfl h)), (fun h => F9.out.2.1.1.1.2 (up_ne rfl h))⟩, ⟨(fun h => (h16 (by simpa using h)).imp fun T e => ⟨e.1, e.2.1, fun h9 => e.2.2.1 (by simpa using h9), fun h9 => e.2.2.2 (by simpa using h9)⟩), (fun h => F9.out.2.1.1.2.2 (up_ne rfl h))⟩⟩, ⟨⟨(fun h => F9.out.2.1.2.1.1 (up_ne rfl h)), (fun h => up_of (F9.out.2.1.2.1.2 (up_ne rfl h)))⟩, ⟨(fun h => up_of (F9.out.2.1.2.2.1 (up_ne rfl h))), (fun h => up_of (F9.out.2.1.2.2.2 (up_ne rfl h)))⟩⟩⟩, ⟨⟨⟨(fun h => up_of (F9.out.2.2.1.1.1 (up_ne rfl h))), (fun h => up_of (F9.out.2.2.1.1.2 (up_ne rfl h)))⟩, ⟨(fun h => up_of (F9.out.2.2.1.2.1 (up_ne rfl h))), (fun h => up_of (F9.out.2.2.1.2.2 (up_ne rfl h)))⟩⟩, ⟨⟨(fun h => up_of (F9.out.2.2.2.1.1 (up_ne rfl h))), (fun h => up_of (F9.out.2.2.2.1.2 (up_ne rfl h)))⟩, ⟨(fun h => up_of (F9.out.2.2.2.2.1 (up_ne rfl h))), (fun h => up_of (F9.out.2.2.2.2.2 (up_ne rfl h)))⟩⟩⟩⟩⟩⟩
      · simp only [List.getElem?_toArray, List.getElem?_cons_zero, List.getElem?_cons_succ, Option.some.injEq] at ho
        subst ho
        have hk := F9.out.1.1.1.1
        have h9 := F9.out.1.2.1.2.2
        have h16 := F9.out.2.1.1.2.1
        go_simp
        refine hK.out _ _ ⟨_, _, _, _, _, _, _, _, _, _, _, _, _, _, _, _, _, _, _, rfl, hid ⟨⟨⟨⟨(hk), ⟨(fun h => F9.out.1.1.1.2.1 (up_ne rfl h)), (fun h => F9.out.1.1.1.2.2 (up_ne rfl h))⟩⟩, ⟨⟨(fun h => F9.out.1.1.2.1.1 (up_ne rfl h)), (fun _ => rfl)⟩, ⟨(fun h => F9.out.1.1.2.2.1 (up_ne rfl h)), (fun h => F9.out.1.1.2.2.2 (up_ne rfl h))⟩⟩⟩, ⟨⟨⟨(fun h => F9.out.1.2.1.1.1 (up_ne rfl h)), (fun h => F9.out.1.2.1.1.2 (up_ne rfl h))⟩, ⟨(fun h => F9.out.1.2.1.2.1 (up_ne rfl h)), (fun h => F9.out.1.2.1.2.2 (up_ne rfl h))⟩⟩, ⟨⟨(fun h => F9.out.1.2.2.1.1 (up_ne rfl h)), (fun h => F9.out.1.2.2.1.2 (up_ne rfl h))⟩, ⟨(fun h => F9.out.1.2.2.2.1 (up_ne rfl h)), (fun h => F9.out.1.2.2.2.2 (up_ne rfl h))⟩⟩⟩⟩, ⟨⟨⟨⟨(fun h => F9.out.2.1.1.1.1 (up_ne rfl h)), (fun h => F9.out.2.1.1.1.2 (up_ne rfl h))⟩, ⟨(fun h => (h16 (by simpa using h)).imp fun T e => ⟨e.1, e.2.1, fun h9 => e.2.2.1 (by simpa using h9), fun h9 => e.2.2.2 (by simpa using h9)⟩), (fun h => F9.out.2.1.1.2.2 (up_ne rfl h))⟩⟩, ⟨⟨(fun h => F9.out.2.1.2.1.1 (up_ne rfl h)), (fun h => up_of (F9.out.2.1.2.1.2 (up_ne rfl h)))⟩, ⟨(fun h => up_of (F9.out.2.1.2.2.1 (up_ne rfl h))), (fun h => up_of (F9.out.2.1.2.2.2 (up_ne rfl h)))⟩⟩⟩, ⟨⟨⟨(fun h => up_of (F9.out.2.2.1.1.1 (up_ne rfl h))), (fun h => up_of (F9.out.2.2.1.1.2 (up_ne rfl h)))⟩, ⟨(fun h => up_of (F9.out.2.2.1.2.1 (up_ne rfl h))), (fun h => up_of (F9.out.2.2.1.2.2 (up_ne rfl h)))⟩⟩, ⟨⟨(fun h => up_of (F9.out.2.2.2.1.1 (up_ne rfl h))), (fun h => up_of (F9.out.2.2.2.1.2 (up_ne rfl h)))⟩, ⟨(fun h => up_of (F9.out.2.2.2.2.1 (up_ne rfl h))), (fun h => up_of (F9.out.2.2.2.2.2 (up_ne rfl h)))⟩⟩⟩⟩⟩⟩
      · simp only [List.getElem?_toArray, List.getElem?_cons_zero, List.getElem?_cons_succ, Option.some.injEq] at ho
        subst ho
        have hk := F9.out.1.1.1.1
        have h9 := F9.out.1.2.1.2.2
        have h16 := F9.out.2.1.1.2.1
        go_simp
        refine hK.out _ _ ⟨_, _, _, _, _, _, _, _, _, _, _, _, _, _, _, _, _, _, _, rfl, hid ⟨⟨⟨⟨(hk), ⟨(fun h => F9.out.1.1.1.2.1 (up_ne rfl h)), (fun h => F9.out.1.1.1.2.2 (up_ne rfl h))⟩⟩, ⟨⟨(fun h => F9.out.1.1.2.1.1 (up_ne rfl h)), (fun h => F9.out.1.1.2.1.2 (up_ne rfl h))⟩, ⟨(fun _ => rfl), (fun h => F9.out.1.1.2.2.2 (up_ne rfl h))⟩⟩⟩, ⟨⟨⟨(fun h => F9.out.1.2.1.1.1 (up_ne rfl h)), (fun h => F9.out.1.2.1.1.2 (up_ne rfl h))⟩, ⟨(fun h => F9.out.1.2.1.2.1 (up_ne rfl h)), (fun h => F9.out.1.2.1.2.2 (up_ne rfl h))⟩⟩, ⟨⟨(fun h => F9.out.1.2.2.1.1 (up_ne rfl h)), (fun h => F9.out.1.2.2.1.2 (up_ne rfl h))⟩, ⟨(fun h => F9.out.1.2.2.2.1 (up_ne rfl h)), (fun h => F9.out.1.2.2.2.2 (up_ne rfl h))⟩⟩⟩⟩, ⟨⟨⟨⟨(fun h => F9.out.2.1.1.1.1 (up_ne rfl h)), (fun h => F9.out.2.1.1.1.2 (up_ne rfl h))⟩, ⟨(fun h => (h16 (by simpa using h)).imp fun T e => ⟨e.1, e.2.1, fun h9 => e.2.2.1 (by simpa using h9), fun h9 => e.2.2.2 (by simpa using h9)⟩), (fun h => F9.out.2.1.1.2.2 (up_ne rfl h))⟩⟩, ⟨⟨(fun h => F9.out.2.1.2.1.1 (up_ne rfl h)), (fun h => up_of (F9.out.2.1.2.1.2 (up_ne rfl h)))⟩, ⟨(fun h => up_of (F9.out.2.1.2.2.1 (up_ne rfl h))), (fun h => up_of (F9.out.2.1.2.2.2 (up_ne rfl h)))⟩⟩⟩, ⟨⟨⟨(fun h => up_of (F9.out.2.2.1.1.1 (up_ne rfl h))), (fun h => up_of (F9.out.2.2.1.1.2 (up_ne rfl h)))⟩, ⟨(fun h => up_of (F9.out.2.2.1.2.1 (up_ne rfl h))), (fun h => up_of (F9.out.2.2.1.2.2 (up_ne rfl h)))⟩⟩, ⟨⟨(fun h => up_of (F9.out.2.2.2.1.1 (up_ne rfl h))), (fun h => up_of (F9.out.2.2.2.1.2 (up_ne rfl h)))⟩, ⟨(fun h => up_of (F9.out.2.2.2.2.1 (up_ne rfl h))), (fun h => up_of (F9.out.2.2.2.2.2 (up_ne rfl h)))⟩⟩⟩⟩⟩⟩
      · simp only [List.getElem?_toArray, List.getElem?_cons_zero, List.getElem?_cons_succ, Option.some.injEq] at ho
        subst ho
        have hk := F9.out.1.1.1.1
        have h3 := F9.out.1.1.2.1.2
        have h4 := F9.out.1.1.2.2.1
        have h9 := F9.out.1.2.1.2.2
        have h16 := F9.out.2.1.1.2.1
        have e_3 := dep 3 (by kernel_rfl)
        have e_4 := dep 4 (by kernel_rfl)
        obtain rfl := h3 e_3
        obtain rfl := h4 e_4
        go_simp
        refine hK.out _ _ ⟨_, _, _, _, _, _, _, _, _, _, _, _, _, _, _, _, _, _, _, rfl, hid ⟨⟨⟨⟨(hk), ⟨(fun h => F9.out.1.1.1.2.1 (up_ne rfl h)), (fun h => F9.out.1.1.1.2.2 (up_ne rfl h))⟩⟩, ⟨⟨(fun h => F9.out.1.1.2.1.1 (up_ne rfl h)), (fun _ => rfl)⟩, ⟨(fun _ => rfl), (fun _ => rfl)⟩⟩⟩, ⟨⟨⟨(fun h => F9.out.1.2.1.1.1 (up_ne rfl h)), (fun h => F9.out.1.2.1.1.2 (up_ne rfl h))⟩, ⟨(fun h => F9.out.1.2.1.2.1 (up_ne rfl h)), (fun h => F9.out.1.2.1.2.2 (up_ne rfl h))⟩⟩, ⟨⟨(fun h => F9.out.1.2.2.1.1 (up_ne rfl h)), (fun h => F9.out.1.2.2.1.2 (up_ne rfl h))⟩, ⟨(fun h => F9.out.1.2.2.2.1 (up_ne rfl h)), (fun h => F9.out.1.2.2.2.2 (up_ne rfl h))⟩⟩⟩⟩, ⟨⟨⟨⟨(fun h => F9.out.2.1.1.1.1 (up_ne rfl h)), (fun h => F9.out.2.1.1.1.2 (up_ne rfl h))⟩, ⟨(fun h => (h16 (by simpa using h)).imp fun T e => ⟨e.1, e.2.1, fun h9 => e.2.2.1 (by simpa using h9), fun h9 => e.2.2.2 (by simpa using h9)⟩), (fun h => F9.out.2.1.1.2.2 (up_ne rfl h))⟩⟩, ⟨⟨(fun h => F9.out.2.1.2.1.1 (up_ne rfl h)), (fun h => up_of (F9.out.2.1.2.1.2 (up_ne rfl h)))⟩, ⟨(fun h => up_of (F9.out.2.1.2.2.1 (up_ne rfl h))), (fun h => up_of (F9.out.2.1.2.2.2 (up_ne rfl h)))⟩⟩⟩, ⟨⟨⟨(fun h => up_of (F9.out.2.2.1.1.1 (up_ne rfl h))), (fun h => up_of (F9.out.2.2.1.1.2 (up_ne rfl h)))⟩, ⟨(fun h => up_of (F9.out.2.2.1.2.1 (up_ne rfl h))), (fun h => up_of (F9.out.2.2.1.2.2 (up_ne rfl h)))⟩⟩, ⟨⟨(fun h => up_of (F9.out.2.2.2.1.1 (up_ne rfl h))), (fun h => up_of (F9.out.2.2.2.1.2 (up_ne rfl h)))⟩, ⟨(fun h => up_of (F9.out.2.2.2.2.1 (up_ne rfl h))), (fun h => up_of (F9.out.2.2.2.2.2 (up_ne rfl h)))⟩⟩⟩⟩⟩⟩
      · simp only [List.getElem?_toArray, List.getElem?_cons_zero, List.getElem?_cons_succ, Option.some.injEq] at ho
        subst ho
        have hk := F9.out.1.1.1.1
        have h9 := F9.out.1.2.1.2.2
        have h16 := F9.out.2.1.1.2.1
        go_simp
        refine hK.out _ _ ⟨_, _, _, _, _, _, _, _, _, _, _, _, _, _, _, _, _, _, _, rfl, hid ⟨⟨⟨⟨(hk), ⟨(fun h => F9.out.1.1.1.2.1 (up_ne rfl h)), (fun h => F9.out.1.1.1.2.2 (up_ne rfl h))⟩⟩, ⟨⟨(fun h => F9.out.1.1.2.1.1 (up_ne rfl h)), (fun h => F9.out.1.1.2.1.2 (up_ne rfl h))⟩, ⟨(fun h => F9.out.1.1.2.2.1 (up_ne rfl h)), (fun h => F9.out.1.1.2.2.2 (up_ne rfl h))⟩⟩⟩, ⟨⟨⟨(fun _ => rfl), (fun h => F9.out.1.2.1.1.2 (up_ne rfl h))⟩, ⟨(fun h => F9.out.1.2.1.2.1 (up_ne rfl h)), (fun h => F9.out.1.2.1.2.2 (up_ne rfl h))⟩⟩, ⟨⟨(fun h => F9.out.1.2.2.1.1 (up_ne rfl h)), (fun h => F9.out.1.2.2.1.2 (up_ne rfl h))⟩, ⟨(fun h => F9.out.1.2.2.2.1 (up_ne rfl h)), (fun h => F9.out.1.2.2.2.2 (up_ne rfl h))⟩⟩⟩⟩, ⟨⟨⟨⟨(fun h => F9.out.2.1.1.1.1 (up_ne rfl h)), (fun h => F9.out.2.1.1.1.2 (up_ne rfl h))⟩, ⟨(fun h => (h16 (by simpa using h)).imp fun T e => ⟨e.1, e.2.1, fun h9 => e.2.2.1 (by simpa using h9), fun h9 => e.2.2.2 (by simpa using h9)⟩), (fun h => F9.out.2.1.1.2.2 (up_ne rfl h))⟩⟩, ⟨⟨(fun h => F9.out.2.1.2.1.1 (up_ne rfl h)), (fun h => up_of (F9.out.2.1.2.1.2 (up_ne rfl h)))⟩, ⟨(fun h => up_of (F9.out.2.1.2.2.1 (up_ne rfl h))), (fun h => up_of (F9.out.2.1.2.2.2 (up_ne rfl h)))⟩⟩⟩, ⟨⟨⟨(fun h => up_of (F9.out.2.2.1.1.1 (up_ne rfl h))), (fun h => up_of (F9.out.2.2.1.1.2 (up_ne rfl h)))⟩, ⟨(fun h => up_of (F9.out.2.2.1.2.1 (up_ne rfl h))), (fun h => up_of (F9.out.2.2.1.2.2 (up_ne rfl h)))⟩⟩, ⟨⟨(fun h => up_of (F9.out.2.2.2.1.1 (up_ne rfl h))), (fun h => up_of (F9.out.2.2.2.1.2 (up_ne rfl h)))⟩, ⟨(fun h => up_of (F9.out.2.2.2.2.1 (up_ne rfl h))), (fun h => up_of (F9.out.2.2.2.2.2 (up_ne rfl h)))⟩⟩⟩⟩⟩⟩
      · simp only [List.getElem?_toArray, List.getElem?_cons_zero, List.getElem?_cons_succ, Option.some.injEq] at ho
        subst ho
        have hk := F9.out.1.1.1.1
        have h9 := F9.out.1.2.1.2.2
        have h16 := F9.out.2.1.1.2.1
        go_simp
        refine hK.out _ _ ⟨_, _, _, _, _, _, _, _, _, _, _, _, _, _, _, _, _, _, _, rfl, hid ⟨⟨⟨⟨(hk), ⟨(fun h => F9.out.1.1.1.2.1 (up_ne rfl h)), (fun h => F9.out.1.1.1.2.2 (up_ne rfl h))⟩⟩, ⟨⟨(fun h => F9.out.1.1.2.1.1 (up_ne rfl h)), (fun h => F9.out.1.1.2.1.2 (up_ne rfl h))⟩, ⟨(fun h => F9.out.1.1.2.2.1 (up_ne rfl h)), (fun h => F9.out.1.1.2.2.2 (up_ne rfl h))⟩⟩⟩, ⟨⟨⟨(fun h => F9.out.1.2.1.1.1 (up_ne rfl h)), (fun _ => rfl)⟩, ⟨(fun h => F9.out.1.2.1.2.1 (up_ne rfl h)), (fun h => F9.out.1.2.1.2.2 (up_ne rfl h))⟩⟩, ⟨⟨(fun h => F9.out.1.2.2.1.1 (up_ne rfl h)), (fun h => F9.out.1.2.2.1.2 (up_ne rfl h))⟩, ⟨(fun h => F9.out.1.2.2.2.1 (up_ne rfl h)), (fun h => F9.out.1.2.2.2.2 (up_ne rfl h))⟩⟩⟩⟩, ⟨⟨⟨⟨(fun h => F9.out.2.1.1.1.1 (up_ne rfl h)), (fun h => F9.out.2.1.1.1.2 (up_ne rfl h))⟩, ⟨(fun h => (h16 (by simpa using h)).imp fun T e => ⟨e.1, e.2.1, fun h9 => e.2.2.1 (by simpa using h9), fun h9 => e.2.2.2 (by simpa using h9)⟩), (fun h => F9.out.2.1.1.2.2 (up_ne rfl h))⟩⟩, ⟨⟨(fun h => F9.out.2.1.2.1.1 (up_ne rfl h)), (fun h => up_of (F9.out.2.1.2.1.2 (up_ne rfl h)))⟩, ⟨(fun h => up_of (F9.out.2.1.2.2.1 (up_ne rfl h))), (fun h => up_of (F9.out.2.1.2.2.2 (up_ne rfl h)))⟩⟩⟩, ⟨⟨⟨(fun h => up_of (F9.out.2.2.1.1.1 (up_ne rfl h))), (fun h => up_of (F9.out.2.2.1.1.2 (up_ne rfl h)))⟩, ⟨(fun h => up_of (F9.out.2.2.1.2.1 (up_ne rfl h))), (fun h => up_of (F9.out.2.2.1.2.2 (up_ne rfl h)))⟩⟩, ⟨⟨(fun h => up_of (F9.out.2.2.2.1.1 (up_ne rfl h))), (fun h => up_of (F9.out.2.2.2.1.2 (up_ne rfl h)))⟩, ⟨(fun h => up_of (F9.out.2.2.2.2.1 (up_ne rfl h))), (fun h => up_of (F9.out.2.2.2.2.2 (up_ne rfl h)))⟩⟩⟩⟩⟩⟩
      · simp only [List.getElem?_toArray, List.getElem?_cons_zero, List.getElem?_cons_succ, Option.some.injEq] at ho
        subst ho
        have hk := F9.out.1.1.1.1
        have h9 := F9.out.1.2.1.2.2
        have h16 := F9.out.2.1.1.2.1
        go_simp
        refine hK.out _ _ ⟨_, _, _, _, _, _, _, _, _, _, _, _, _, _, _, _, _, _, _, rfl, hid ⟨⟨⟨⟨(hk), ⟨(fun h => F9.out.1.1.1.2.1 (up_ne rfl h)), (fun h => F9.out.1.1.1.2.2 (up_ne rfl h))⟩⟩, ⟨⟨(fun h => F9.out.1.1.2.1.1 (up_ne rfl h)), (fun h => F9.out.1.1.2.1.2 (up_ne rfl h))⟩, ⟨(fun h => F9.out.1.1.2.2.1 (up_ne rfl h)), (fun h => F9.out.1.1.2.2.2 (up_ne rfl h))⟩⟩⟩, ⟨⟨⟨(fun h => F9.out.1.2.1.1.1 (up_ne rfl h)), (fun h => F9.out.1.2.1.1.2 (up_ne rfl h))⟩, ⟨(fun _ => rfl), (fun h => F9.out.1.2.1.2.2 (up_ne rfl h))⟩⟩, ⟨⟨(fun h => F9.out.1.2.2.1.1 (up_ne rfl h)), (fun h => F9.out.1.2.2.1.2 (up_ne rfl h))⟩, ⟨(fun h => F9.out.1.2.2.2.1 (up_ne rfl h)), (fun h => F9.out.1.2.2.2.2 (up_ne rfl h))⟩⟩⟩⟩, ⟨⟨⟨⟨(fun h => F9.out.2.1.1.1.1 (up_ne rfl h)), (fun h => F9.out.2.1.1.1.2 (up_ne rfl h))⟩, ⟨(fun h => (h16 (by simpa using h)).imp fun T e => ⟨e.1, e.2.1, fun h9 => e.2.2.1 (by simpa using h9), fun h9 => e.2.2.2 (by simpa using h9)⟩), (fun h => F9.out.2.1.1.2.2 (up_ne rfl h))⟩⟩, ⟨⟨(fun h => F9.out.2.1.2.1.1 (up_ne rfl h)), (fun h => up_of (F9.out.2.1.2.1.2 (up_ne rfl h)))⟩, ⟨(fun h => up_of (F9.out.2.1.2.2.1 (up_ne rfl h))), (fun h => up_of (F9.out.2.1.2.2.2 (up_ne rfl h)))⟩⟩⟩, ⟨⟨⟨(fun h => up_of (F9.out.2.2.1.1.1 (up_ne rfl h))), (fun h => up_of (F9.out.2.2.1.1.2 (up_ne rfl h)))⟩, ⟨(fun h => up_of (F9.out.2.2.1.2.1 (up_ne rfl h))), (fun h => up_of (F9.out.2.2.1.2.2 (up_ne rfl h)))⟩⟩, ⟨⟨(fun h => up_of (F9.out.2.2.2.1.1 (up_ne rfl h))), (fun h => up_of (F9.out.2.2.2.1.2 (up_ne rfl h)))⟩, ⟨(fun h => up_of (F9.out.2.2.2.2.1 (up_ne rfl h))), (fun h => up_of (F9.out.2.2.2.2.2 (up_ne rfl h)))⟩⟩⟩⟩⟩⟩
      · simp only [List.getElem?_toArray, List.getElem?_cons_zero, List.getElem?_cons_succ, Option.some.injEq] at ho
        subst ho
        have hk := F9.out.1.1.1.1
        have h6 := F9.out.1.2.1.1.1
        have h7 := F9.out.1.2.1.1.2
        have h8 := F9.out.1.2.1.2.1
        have h9 := F9.out.1.2.1.2.2
        have h16 := F9.out.2.1.1.2.1
        have e_6 := dep 6 (by kernel_rfl)
        have e_7 := dep 7 (by kernel_rfl)
        have e_8 := dep 8 (by kernel_rfl)
        obtain rfl := h6 e_6
        obtain rfl := h7 e_7
        obtain rfl := h8 e_8
        go_simp
        refine hK.out _ _ ⟨_, _, _, _, _, _, _, _, _, _, _, _, _, _, _, _, _, _, _, rfl, hid ⟨⟨⟨⟨(hk), ⟨(fun h => F9.out.1.1.1.2.1 (up_ne rfl h)), (fun h => F9.out.1.1.1.2.2 (up_ne rfl h))⟩⟩, ⟨⟨(fun h => F9.out.1.1.2.1.1 (up_ne rfl h)), (fun h => F9.out.1.1.2.1.2 (up_ne rfl h))⟩, ⟨(fun h => F9.out.1.1.2.2.1 (up_ne rfl h)), (fun h => F9.out.1.1.2.2.2 (up_ne rfl h))⟩⟩⟩, ⟨⟨⟨(fun _ => rfl), (fun _ => rfl)⟩, ⟨(fun _ => rfl), (fun _ => rfl)⟩⟩, ⟨⟨(fun h => F9.out.1.2.2.1.1 (up_ne rfl h)), (fun h => F9.out.1.2.2.1.2 (up_ne rfl h))⟩, ⟨(fun h => F9.out.1.2.2.2.1 (up_ne rfl h)), (fun h => F9.out.1.2.2.2.2 (up_ne rfl h))⟩⟩⟩⟩, ⟨⟨⟨⟨(fun h => F9.out.2.1.1.1.1 (up_ne rfl h)), (fun h => F9.out.2.1.1.1.2 (up_ne rfl h))⟩, ⟨(fun h => (h16 (by simpa using h)).imp fun T e => ⟨e.1, e.2.1, fun h9 => e.2.2.1 (by simpa using h9), fun h9 => e.2.2.2 (by simpa using h9)⟩), (fun h => F9.out.2.1.1.2.2 (up_ne rfl h))⟩⟩, ⟨⟨(fun h => F9.out.2.1.2.1.1 (up_ne rfl h)), (fun h => up_of (F9.out.2.1.2.1.2 (up_ne rfl h)))⟩, ⟨(fun h => up_of (F9.out.2.1.2.2.1 (up_ne rfl h))), (fun h => up_of (F9.out.2.1.2.2.2 (up_ne rfl h)))⟩⟩⟩, ⟨⟨⟨(fun h => up_of (F9.out.2.2.1.1.1 (up_ne rfl h))), (fun h => up_of (F9.out.2.2.1.1.2 (up_ne rfl h)))⟩, ⟨(fun h => up_of (F9.out.2.2.1.2.1 (up_ne rfl h))), (fun h => up_of (F9.out.2.2.1.2.2 (up_ne rfl h)))⟩⟩, ⟨⟨(fun h => up_of (F9.out.2.2.2.1.1 (up_ne rfl h))), (fun h => up_of (F9.out.2.2.2.1.2 (up_ne rfl h)))⟩, ⟨(fun h => up_of (F9.out.2.2.2.2.1 (up_ne rfl h))), (fun h => up_of (F9.out.2.2.2.2.2 (up_ne rfl h)))⟩⟩⟩⟩⟩⟩
      · simp only [List.getElem?_toArray, List.getElem?_cons_zero, List.getElem?_cons_succ, Option.some.injEq] at ho
        subst ho
        have hk := F9.out.1.1.1.1
        have h2 := F9.out.1.1.2.1.1
        have h5 := F9.out.1.1.2.2.2
        have h9 := F9.out.1.2.1.2.2
        have h16 := F9.out.2.1.1.2.1
        have e_2 := dep 2 (by kernel_rfl)
        have e_5 := dep 5 (by kernel_rfl)
        have e_9 := dep 9 (by kernel_rfl)
        obtain rfl := h2 e_2
        obtain rfl := h5 e_5
        obtain rfl := h9 e_9
        go_simp
        refine hK.out _ _ ⟨_, _, _, _, _, _, _, _, _, _, _, _, _, _, _, _, _, _, _, rfl, hid ⟨⟨⟨⟨(hk), ⟨(fun h => F9.out.1.1.1.2.1 (up_ne rfl h)), (fun h => F9.out.1.1.1.2.2 (up_ne rfl h))⟩⟩, ⟨⟨(fun _ => rfl), (fun h => F9.out.1.1.2.1.2 (up_ne rfl h))⟩, ⟨(fun h => F9.out.1.1.2.2.1 (up_ne rfl h)), (fun _ => rfl)⟩⟩⟩, ⟨⟨⟨(fun h => F9.out.1.2.1.1.1 (up_ne rfl h)), (fun h => F9.out.1.2.1.1.2 (up_ne rfl h))⟩, ⟨(fun h => F9.out.1.2.1.2.1 (up_ne rfl h)), (fun _ => rfl)⟩⟩, ⟨⟨(fun _ => rfl), (fun h => F9.out.1.2.2.1.2 (up_ne rfl h))⟩, ⟨(fun h => F9.out.1.2.2.2.1 (up_ne rfl h)), (fun h => F9.out.1.2.2.2.2 (up_ne rfl h))⟩⟩⟩⟩, ⟨⟨⟨⟨(fun h => F9.out.2.1.1.1.1 (up_ne rfl h)), (fun h => F9.out.2.1.1.1.2 (up_ne rfl h))⟩, ⟨(fun h => (h16 (by simpa using h)).imp fun T e => ⟨e.1, e.2.1, fun h9 => e.2.2.1 (by simpa using h9), fun h9 => e.2.2.2 (by simpa using h9)⟩), (fun h => F9.out.2.1.1.2.2 (up_ne rfl h))⟩⟩, ⟨⟨(fun h => F9.out.2.1.2.1.1 (up_ne rfl h)), (fun h => up_of (F9.out.2.1.2.1.2 (up_ne rfl h)))⟩, ⟨(fun h => up_of (F9.out.2.1.2.2.1 (up_ne rfl h))), (fun h => up_of (F9.out.2.1.2.2.2 (up_ne rfl h)))⟩⟩⟩, ⟨⟨⟨(fun h => up_of (F9.out.2.2.1.1.1 (up_ne rfl h))), (fun h => up_of (F9.out.2.2.1.1.2 (up_ne rfl h)))⟩, ⟨(fun h => up_of (F9.out.2.2.1.2.1 (up_ne rfl h))), (fun h => up_of (F9.out.2.2.1.2.2 (up_ne rfl h)))⟩⟩, ⟨⟨(fun h => up_of (F9.out.2.2.2.1.1 (up_ne rfl h))), (fun h => up_of (F9.out.2.2.2.1.2 (up_ne rfl h)))⟩, ⟨(fun h => up_of (F9.out.2.2.2.2.1 (up_ne rfl h))), (fun h => up_of (F9.out.2.2.2.2.2 (up_ne rfl h)))⟩⟩⟩⟩⟩⟩
      · simp only [List.getElem?_toArray, List.getElem?_cons_zero, List.getElem?_cons_succ, Option.some.injEq] at ho
        subst ho
        have hk := F9.out.1.1.1.1
        have h0 := F9.out.1.1.1.2.1
        have h1 := F9.out.1.1.1.2.2
        have h9 := F9.out.1.2.1.2.2
        have h10 := F9.out.1.2.2.1.1
        have h16 := F9.out.2.1.1.2.1
        have q12_11 := F9.out.2.2.1.1.1
        have q13_12 := F9.out.2.2.1.1.2
        have e_0 := dep 0 (by kernel_rfl)
        have e_1 := dep 1 (by kernel_rfl)
        have e_10 := dep 10 (by kernel_rfl)
        obtain rfl := h0 e_0
        obtain rfl := h1 e_1
        obtain rfl := h10 e_10
        have n12 : b 12 = false := by
          cases hb : b 12
          · rfl
          · have := q12_11 hb; rw [hbi] at this; cases this
        have n13 : b 13 = false := by
          cases hb : b 13
          · rfl
          · have := q12_11 (q13_12 hb); rw [hbi] at this; cases this
        have CC := hid (CU2.out w' hk)
        go_simp
        refine CC.out.mono ?_
        rintro e W5 ⟨⟨pa, pc, rfl, r5, z5⟩, b5⟩
        refine hK.out _ _ ⟨_, _, _, _, _, _, _, _, _, _, _, _, _, _, _, _, _, _, _, rfl, hid ⟨⟨⟨⟨(hk.trans (b5.mono hk.size)), ⟨(fun _ => rfl), (fun _ => rfl)⟩⟩, ⟨⟨(fun h => F9.out.1.1.2.1.1 (up_ne rfl h)), (fun h => F9.out.1.1.2.1.2 (up_ne rfl h))⟩, ⟨(fun h => F9.out.1.1.2.2.1 (up_ne rfl h)), (fun h => F9.out.1.1.2.2.2 (up_ne rfl h))⟩⟩⟩, ⟨⟨⟨(fun h => F9.out.1.2.1.1.1 (up_ne rfl h)), (fun h => F9.out.1.2.1.1.2 (up_ne rfl h))⟩, ⟨(fun h => F9.out.1.2.1.2.1 (up_ne rfl h)), (fun h => F9.out.1.2.1.2.2 (up_ne rfl h))⟩⟩, ⟨⟨(fun _ => rfl), (fun _ => ⟨pa, pc, rfl, r5, z5⟩)⟩, ⟨(fun h => absurd h (by simp [n12])), (fun h => absurd h (by simp [n13]))⟩⟩⟩⟩, ⟨⟨⟨⟨(fun h => F9.out.2.1.1.1.1 (up_ne rfl h)), (fun h => F9.out.2.1.1.1.2 (up_ne rfl h))⟩, ⟨(fun h => by obtain ⟨T, e, t1, t2, t3⟩ := (h16 (up_ne rfl h)); exact ⟨T, e, t1, fun h9 => (b5.block _ (heap_lt (t2 (by simpa using h9)))).trans (t2 (by simpa using h9)), fun h9 => (b5.block _ (heap_lt (t3 (by simpa using h9)))).trans (t3 (by simpa using h9))⟩), (fun h => F9.out.2.1.1.2.2 (up_ne rfl h))⟩⟩, ⟨⟨(fun h => F9.out.2.1.2.1.1 (up_ne rfl h)), (fun _ => up_of e_0)⟩, ⟨(fun _ => up_of e_1), (fun _ => up_of e_10)⟩⟩⟩, ⟨⟨⟨(fun h => up_of (F9.out.2.2.1.1.1 (up_ne rfl h))), (fun h => up_of (F9.out.2.2.1.1.2 (up_ne rfl h)))⟩, ⟨(fun h => up_of (F9.out.2.2.1.2.1 (up_ne rfl h))), (fun h => up_of (F9.out.2.2.1.2.2 (up_ne rfl h)))⟩⟩, ⟨⟨(fun h => up_of (F9.out.2.2.2.1.1 (up_ne rfl h))), (fun h => up_of (F9.out.2.2.2.1.2 (up_ne rfl h)))⟩, ⟨(fun h => up_of (F9.out.2.2.2.2.1 (up_ne rfl h))), (fun h => up_of (F9.out.2.2.2.2.2 (up_ne rfl h)))⟩⟩⟩⟩⟩⟩
      · simp only [List.getElem?_toArray, List.getElem?_cons_zero, List.getElem?_cons_succ, Option.some.injEq] at ho
        subst ho
        have hk := F9.out.1.1.1.1
        have h0 := F9.out.1.1.1.2.1
        have h1 := F9.out.1.1.1.2.2
        have h9 := F9.out.1.2.1.2.2
        have h10 := F9.out.1.2.2.1.1
        have h11 := F9.out.1.2.2.1.2
        have h16 := F9.out.2.1.1.2.1
        have q11_0 := F9.out.2.1.2.1.2
        have q11_1 := F9.out.2.1.2.2.1
        have q11_10 := F9.out.2.1.2.2.2
        have e_11 := dep 11 (by kernel_rfl)
        have e_0 := q11_0 e_11
        have e_1 := q11_1 e_11
        have e_10 := q11_10 e_11
        obtain rfl := h0 e_0
        obtain rfl := h1 e_1
        obtain rfl := h10 e_10
        obtain ⟨pa, pc, rfl, r5, z5⟩ := h11 e_11
        go_simp
        refine hK.out _ _ ⟨_, _, _, _, _, _, _, _, _, _, _, _, _, _, _, _, _, _, _, rfl, hid ⟨⟨⟨⟨(hk), ⟨(fun _ => rfl), (fun _ => rfl)⟩⟩, ⟨⟨(fun h => F9.out.1.1.2.1.1 (up_ne rfl h)), (fun h => F9.out.1.1.2.1.2 (up_ne rfl h))⟩, ⟨(fun h => F9.out.1.1.2.2.1 (up_ne rfl h)), (fun h => F9.out.1.1.2.2.2 (up_ne rfl h))⟩⟩⟩, ⟨⟨⟨(fun h => F9.out.1.2.1.1.1 (up_ne rfl h)), (fun h => F9.out.1.2.1.1.2 (up_ne rfl h))⟩, ⟨(fun h => F9.out.1.2.1.2.1 (up_ne rfl h)), (fun h => F9.out.1.2.1.2.2 (up_ne rfl h))⟩⟩, ⟨⟨(fun _ => rfl), (fun _ => ⟨pa, pc, rfl, r5, z5⟩)⟩, ⟨(fun _ => rfl), (fun h => F9.out.1.2.2.2.2 (up_ne rfl h))⟩⟩⟩⟩, ⟨⟨⟨⟨(fun h => F9.out.2.1.1.1.1 (up_ne rfl h)), (fun h => F9.out.2.1.1.1.2 (up_ne rfl h))⟩, ⟨(fun h => (h16 (by simpa using h)).imp fun T e => ⟨e.1, e.2.1, fun h9 => e.2.2.1 (by simpa using h9), fun h9 => e.2.2.2 (by simpa using h9)⟩), (fun h => F9.out.2.1.1.2.2 (up_ne rfl h))⟩⟩, ⟨⟨(fun h => F9.out.2.1.2.1.1 (up_ne rfl h)), (fun h => up_of (F9.out.2.1.2.1.2 (up_ne rfl h)))⟩, ⟨(fun h => up_of (F9.out.2.1.2.2.1 (up_ne rfl h))), (fun h => up_of (F9.out.2.1.2.2.2 (up_ne rfl h)))⟩⟩⟩, ⟨⟨⟨(fun _ => up_of e_11), (fun h => up_of (F9.out.2.2.1.1.2 (up_ne rfl h)))⟩, ⟨(fun h => up_of (F9.out.2.2.1.2.1 (up_ne rfl h))), (fun h => up_of (F9.out.2.2.1.2.2 (up_ne rfl h)))⟩⟩, ⟨⟨(fun h => up_of (F9.out.2.2.2.1.1 (up_ne rfl h))), (fun h => up_of (F9.out.2.2.2.1.2 (up_ne rfl h)))⟩, ⟨(fun h => up_of (F9.out.2.2.2.2.1 (up_ne rfl h))), (fun h => up_of (F9.out.2.2.2.2.2 (up_ne rfl h)))⟩⟩⟩⟩⟩⟩
      · simp only [List.getElem?_toArray, List.getElem?_cons_zero, List.getElem?_cons_succ, Option.some.injEq] at ho
        subst ho
        have hk := F9.out.1.1.1.1
        have h0 := F9.out.1.1.1.2.1
        have h1 := F9.out.1.1.1.2.2
        have h9 := F9.out.1.2.1.2.2
        have h10 := F9.out.1.2.2.1.1
        have h11 := F9.out.1.2.2.1.2
        have h12 := F9.out.1.2.2.2.1
        have h16 := F9.out.2.1.1.2.1
        have q11_0 := F9.out.2.1.2.1.2
        have q11_1 := F9.out.2.1.2.2.1
        have q11_10 := F9.out.2.1.2.2.2
        have q12_11 := F9.out.2.2.1.1.1
        have q17_13 := F9.out.2.2.2.1.1
        have e_12 := dep 12 (by kernel_rfl)
        have e_11 := q12_11 e_12
        have e_0 := q11_0 e_11
        have e_1 := q11_1 e_11
        have e_10 := q11_10 e_11
        obtain rfl := h0 e_0
        obtain rfl := h1 e_1
        obtain rfl := h10 e_10
        have n17 : b 17 = false := by
          cases hb : b 17
          · rfl
          · have := q17_13 hb; rw [hbi] at this; cases this
        obtain ⟨pa, pc, rfl, r5, z5⟩ := h11 e_11
        obtain rfl := h12 e_12
        go_simp
        refine hK.out _ _ ⟨_, _, _, _, _, _, _, _, _, _, _, _, _, _, _, _, _, _, _, rfl, hid ⟨⟨⟨⟨(hk), ⟨(fun _ => rfl), (fun _ => rfl)⟩⟩, ⟨⟨(fun h => F9.out.1.1.2.1.1 (up_ne rfl h)), (fun h => F9.out.1.1.2.1.2 (up_ne rfl h))⟩, ⟨(fun h => F9.out.1.1.2.2.1 (up_ne rfl h)), (fun h => F9.out.1.1.2.2.2 (up_ne rfl h))⟩⟩⟩, ⟨⟨⟨(fun h => F9.out.1.2.1.1.1 (up_ne rfl h)), (fun h => F9.out.1.2.1.1.2 (up_ne rfl h))⟩, ⟨(fun h => F9.out.1.2.1.2.1 (up_ne rfl h)), (fun h => F9.out.1.2.1.2.2 (up_ne rfl h))⟩⟩, ⟨⟨(fun _ => rfl), (fun _ => ⟨pa, pc, rfl, r5, z5⟩)⟩, ⟨(fun _ => rfl), (fun _ => rfl)⟩⟩⟩⟩, ⟨⟨⟨⟨(fun h => F9.out.2.1.1.1.1 (up_ne rfl h)), (fun h => F9.out.2.1.1.1.2 (up_ne rfl h))⟩, ⟨(fun h => (h16 (by simpa using h)).imp fun T e => ⟨e.1, e.2.1, fun h9 => e.2.2.1 (by simpa using h9), fun h9 => e.2.2.2 (by simpa using h9)⟩), (fun h => absurd h (by simp [n17]))⟩⟩, ⟨⟨(fun h => F9.out.2.1.2.1.1 (up_ne rfl h)), (fun h => up_of (F9.out.2.1.2.1.2 (up_ne rfl h)))⟩, ⟨(fun h => up_of (F9.out.2.1.2.2.1 (up_ne rfl h))), (fun h => up_of (F9.out.2.1.2.2.2 (up_ne rfl h)))⟩⟩⟩, ⟨⟨⟨(fun h => up_of (F9.out.2.2.1.1.1 (up_ne rfl h))), (fun _ => up_of e_12)⟩, ⟨(fun h => up_of (F9.out.2.2.1.2.1 (up_ne rfl h))), (fun h => up_of (F9.out.2.2.1.2.2 (up_ne rfl h)))⟩⟩, ⟨⟨(fun h => up_of (F9.out.2.2.2.1.1 (up_ne rfl h))), (fun h => up_of (F9.out.2.2.2.1.2 (up_ne rfl h)))⟩, ⟨(fun h => up_of (F9.out.2.2.2.2.1 (up_ne rfl h))), (fun h => up_of (F9.out.2.2.2.2.2 (up_ne rfl h)))⟩⟩⟩⟩⟩⟩
      · simp only [List.getElem?_toArray, List.getElem?_cons_zero, List.getElem?_cons_succ, Option.some.injEq] at ho
        subst ho
        have hk := F9.out.1.1.1.1
        have h0 := F9.out.1.1.1.2.1
        have h1 := F9.out.1.1.1.2.2
        have h9 := F9.out.1.2.1.2.2
        have h10 := F9.out.1.2.2.1.1
        have h11 := F9.out.1.2.2.1.2
        have h12 := F9.out.1.2.2.2.1
        have h16 := F9.out.2.1.1.2.1
        have q11_0 := F9.out.2.1.2.1.2
        have q11_1 := F9.out.2.1.2.2.1
        have q11_10 := F9.out.2.1.2.2.2
        have q12_11 := F9.out.2.2.1.1.1
        have e_12 := dep 12 (by kernel_rfl)
        have e_11 := q12_11 e_12
        have e_0 := q11_0 e_11
        have e_1 := q11_1 e_11
        have e_10 := q11_10 e_11
        obtain rfl := h0 e_0
        obtain rfl := h1 e_1
        obtain rfl := h10 e_10
        obtain ⟨pa, pc, rfl, r5, z5⟩ := h11 e_11
        obtain rfl := h12 e_12
        go_simp
        refine hK.out _ _ ⟨_, _, _, _, _, _, _, _, _, _, _, _, _, _, _, _, _, _, _, rfl, hid ⟨⟨⟨⟨(hk), ⟨(fun _ => rfl), (fun _ => rfl)⟩⟩, ⟨⟨(fun h => F9.out.1.1.2.1.1 (up_ne rfl h)), (fun h => F9.out.1.1.2.1.2 (up_ne rfl h))⟩, ⟨(fun h => F9.out.1.1.2.2.1 (up_ne rfl h)), (fun h => F9.out.1.1.2.2.2 (up_ne rfl h))⟩⟩⟩, ⟨⟨⟨(fun h => F9.out.1.2.1.1.1 (up_ne rfl h)), (fun h => F9.out.1.2.1.1.2 (up_ne rfl h))⟩, ⟨(fun h => F9.out.1.2.1.2.1 (up_ne rfl h)), (fun h => F9.out.1.2.1.2.2 (up_ne rfl h))⟩⟩, ⟨⟨(fun _ => rfl), (fun _ => ⟨pa, pc, rfl, r5, z5⟩)⟩, ⟨(fun _ => rfl), (fun h => F9.out.1.2.2.2.2 (up_ne rfl h))⟩⟩⟩⟩, ⟨⟨⟨⟨(fun _ => rfl), (fun h => F9.out.2.1.1.1.2 (up_ne rfl h))⟩, ⟨(fun h => (h16 (by simpa using h)).imp fun T e => ⟨e.1, e.2.1, fun h9 => e.2.2.1 (by simpa using h9), fun h9 => e.2.2.2 (by simpa using h9)⟩), (fun h => F9.out.2.1.1.2.2 (up_ne rfl h))⟩⟩, ⟨⟨(fun h => F9.out.2.1.2.1.1 (up_ne rfl h)), (fun h => up_of (F9.out.2.1.2.1.2 (up_ne rfl h)))⟩, ⟨(fun h => up_of (F9.out.2.1.2.2.1 (up_ne rfl h))), (fun h => up_of (F9.out.2.1.2.2.2 (up_ne rfl h)))⟩⟩⟩, ⟨⟨⟨(fun h => up_of (F9.out.2.2.1.1.1 (up_ne rfl h))), (fun h => up_of (F9.out.2.2.1.1.2 (up_ne rfl h)))⟩, ⟨(fun _ => up_of e_12), (fun h => up_of (F9.out.2.2.1.2.2 (up_ne rfl h)))⟩⟩, ⟨⟨(fun h => up_of (F9.out.2.2.2.1.1 (up_ne rfl h))), (fun h => up_of (F9.out.2.2.2.1.2 (up_ne rfl h)))⟩, ⟨(fun h => up_of (F9.out.2.2.2.2.1 (up_ne rfl h))), (fun h => up_of (F9.out.2.2.2.2.2 (up_ne rfl h)))⟩⟩⟩⟩⟩⟩
      · simp only [List.getElem?_toArray, List.getElem?_cons_zero, List.getElem?_cons_succ, Option.some.injEq] at ho
        subst ho
        have hk := F9.out.1.1.1.1
        have h0 := F9.out.1.1.1.2.1
        have h1 := F9.out.1.1.1.2.2
        have h9 := F9.out.1.2.1.2.2
        have h10 := F9.out.1.2.2.1.1
        have h11 := F9.out.1.2.2.1.2
        have h12 := F9.out.1.2.2.2.1
        have h16 := F9.out.2.1.1.2.1
        have q11_0 := F9.out.2.1.2.1.2
        have q11_1 := F9.out.2.1.2.2.1
        have q11_10 := F9.out.2.1.2.2.2
        have q12_11 := F9.out.2.2.1.1.1
        have q19_15 := F9.out.2.2.2.2.2
        have e_12 := dep 12 (by kernel_rfl)
        have e_11 := q12_11 e_12
        have e_0 := q11_0 e_11
        have e_1 := q11_1 e_11
        have e_10 := q11_10 e_11
        obtain rfl := h0 e_0
        obtain rfl := h1 e_1
        obtain rfl := h10 e_10
        have n19 : b 19 = false := by
          cases hb : b 19
          · rfl
          · have := q19_15 hb; rw [hbi] at this; cases this
        obtain ⟨pa, pc, rfl, r5, z5⟩ := h11 e_11
        obtain rfl := h12 e_12
        go_simp
        refine hK.out _ _ ⟨_, _, _, _, _, _, _, _, _, _, _, _, _, _, _, _, _, _, _, rfl, hid ⟨⟨⟨⟨(hk), ⟨(fun _ => rfl), (fun _ => rfl)⟩⟩, ⟨⟨(fun h => F9.out.1.1.2.1.1 (up_ne rfl h)), (fun h => F9.out.1.1.2.1.2 (up_ne rfl h))⟩, ⟨(fun h => F9.out.1.1.2.2.1 (up_ne rfl h)), (fun h => F9.out.1.1.2.2.2 (up_ne rfl h))⟩⟩⟩, ⟨⟨⟨(fun h => F9.out.1.2.1.1.1 (up_ne rfl h)), (fun h => F9.out.1.2.1.1.2 (up_ne rfl h))⟩, ⟨(fun h => F9.out.1.2.1.2.1 (up_ne rfl h)), (fun h => F9.out.1.2.1.2.2 (up_ne rfl h))⟩⟩, ⟨⟨(fun _ => rfl), (fun _ => ⟨pa, pc, rfl, r5, z5⟩)⟩, ⟨(fun _ => rfl), (fun h => F9.out.1.2.2.2.2 (up_ne rfl h))⟩⟩⟩⟩, ⟨⟨⟨⟨(fun h => F9.out.2.1.1.1.1 (up_ne rfl h)), (fun _ => rfl)⟩, ⟨(fun h => (h16 (by simpa using h)).imp fun T e => ⟨e.1, e.2.1, fun h9 => e.2.2.1 (by simpa using h9), fun h9 => e.2.2.2 (by simpa using h9)⟩), (fun h => F9.out.2.1.1.2.2 (up_ne rfl h))⟩⟩, ⟨⟨(fun h => absurd h (by simp [n19])), (fun h => up_of (F9.out.2.1.2.1.2 (up_ne rfl h)))⟩, ⟨(fun h => up_of (F9.out.2.1.2.2.1 (up_ne rfl h))), (fun h => up_of (F9.out.2.1.2.2.2 (up_ne rfl h)))⟩⟩⟩, ⟨⟨⟨(fun h => up_of (F9.out.2.2.1.1.1 (up_ne rfl h))), (fun h => up_of (F9.out.2.2.1.1.2 (up_ne rfl h)))⟩, ⟨(fun h => up_of (F9.out.2.2.1.2.1 (up_ne rfl h))), (fun _ => up_of e_12)⟩⟩, ⟨⟨(fun h => up_of (F9.out.2.2.2.1.1 (up_ne rfl h))), (fun h => up_of (F9.out.2.2.2.1.2 (up_ne rfl h)))⟩, ⟨(fun h => up_of (F9.out.2.2.2.2.1 (up_ne rfl h))), (fun h => up_of (F9.out.2.2.2.2.2 (up_ne rfl h)))⟩⟩⟩⟩⟩⟩
      · simp only [List.getElem?_toArray, List.getElem?_cons_zero, List.getElem?_cons_succ, Option.some.injEq] at ho
        subst ho
        have hk := F9.out.1.1.1.1
        have h9 := F9.out.1.2.1.2.2
        have h11 := F9.out.1.2.2.1.2
        have q18_16 := F9.out.2.2.2.1.2
        have n18 : b 18 = false := by
          cases hb : b 18
          · rfl
          · have := q18_16 hb; rw [hbi] at this; cases this
        have b5 := bel1 w' (.cells #[.int .i64 0, .int .i64 0, .int .i64 0] 35)
        go_simp
        refine hK.out _ _ ⟨_, _, _, _, _, _, _, _, _, _, _, _, _, _, _, _, _, _, _, rfl, hid ⟨⟨⟨⟨(hk.trans (b5.mono hk.size)), ⟨(fun h => F9.out.1.1.1.2.1 (up_ne rfl h)), (fun h => F9.out.1.1.1.2.2 (up_ne rfl h))⟩⟩, ⟨⟨(fun h => F9.out.1.1.2.1.1 (up_ne rfl h)), (fun h => F9.out.1.1.2.1.2 (up_ne rfl h))⟩, ⟨(fun h => F9.out.1.1.2.2.1 (up_ne rfl h)), (fun h => F9.out.1.1.2.2.2 (up_ne rfl h))⟩⟩⟩, ⟨⟨⟨(fun h => F9.out.1.2.1.1.1 (up_ne rfl h)), (fun h => F9.out.1.2.1.1.2 (up_ne rfl h))⟩, ⟨(fun h => F9.out.1.2.1.2.1 (up_ne rfl h)), (fun h => F9.out.1.2.1.2.2 (up_ne rfl h))⟩⟩, ⟨⟨(fun h => F9.out.1.2.2.1.1 (up_ne rfl h)), (fun h => by obtain ⟨pa, pc, e, r, z⟩ := (h11 (up_ne rfl h)); exact ⟨pa, pc, e, r.below b5, z⟩)⟩, ⟨(fun h => F9.out.1.2.2.2.1 (up_ne rfl h)), (fun h => F9.out.1.2.2.2.2 (up_ne rfl h))⟩⟩⟩⟩, ⟨⟨⟨⟨(fun h => F9.out.2.1.1.1.1 (up_ne rfl h)), (fun h => F9.out.2.1.1.1.2 (up_ne rfl h))⟩, ⟨(fun _ => ⟨w'.heap.size, rfl, hk.size, fun _ => alloc_new _ _, fun h9 => absurd h9 (by simp [n18])⟩), (fun h => F9.out.2.1.1.2.2 (up_ne rfl h))⟩⟩, ⟨⟨(fun h => F9.out.2.1.2.1.1 (up_ne rfl h)), (fun h => up_of (F9.out.2.1.2.1.2 (up_ne rfl h)))⟩, ⟨(fun h => up_of (F9.out.2.1.2.2.1 (up_ne rfl h))), (fun h => up_of (F9.out.2.1.2.2.2 (up_ne rfl h)))⟩⟩⟩, ⟨⟨⟨(fun h => up_of (F9.out.2.2.1.1.1 (up_ne rfl h))), (fun h => up_of (F9.out.2.2.1.1.2 (up_ne rfl h)))⟩, ⟨(fun h => up_of (F9.out.2.2.1.2.1 (up_ne rfl h))), (fun h => up_of (F9.out.2.2.1.2.2 (up_ne rfl h)))⟩⟩, ⟨⟨(fun h => up_of (F9.out.2.2.2.1.1 (up_ne rfl h))), (fun h => up_of (F9.out.2.2.2.1.2 (up_ne rfl h)))⟩, ⟨(fun h => up_of (F9.out.2.2.2.2.1 (up_ne rfl h))), (fun h => up_of (F9.out.2.2.2.2.2 (up_ne rfl h)))⟩⟩⟩⟩⟩⟩
      · simp only [List.getElem?_toArray, List.getElem?_cons_zero, List.getElem?_cons_succ, Option.some.injEq] at ho
        subst ho
        have hk := F9.out.1.1.1.1
        have h0 := F9.out.1.1.1.2.1
        have h1 := F9.out.1.1.1.2.2
        have h9 := F9.out.1.2.1.2.2
        have h10 := F9.out.1.2.2.1.1
        have h11 := F9.out.1.2.2.1.2
        have h12 := F9.out.1.2.2.2.1
        have h13 := F9.out.1.2.2.2.2
        have h16 := F9.out.2.1.1.2.1
        have q11_0 := F9.out.2.1.2.1.2
        have q11_1 := F9.out.2.1.2.2.1
        have q11_10 := F9.out.2.1.2.2.2
        have q12_11 := F9.out.2.2.1.1.1
        have q13_12 := F9.out.2.2.1.1.2
        have e_13 := dep 13 (by kernel_rfl)
        have e_12 := q13_12 e_13
        have e_11 := q12_11 e_12
        have e_0 := q11_0 e_11
        have e_1 := q11_1 e_11
        have e_10 := q11_10 e_11
        obtain rfl := h0 e_0
        obtain rfl := h1 e_1
        obtain rfl := h10 e_10
        obtain ⟨pa, pc, rfl, r5, z5⟩ := h11 e_11
        obtain rfl := h12 e_12
        have e44 := h13 e_13
        simp only [Value.tuple.injEq, Array.mk.injEq, List.cons.injEq, and_true] at e44
        obtain rfl := e44
        go_simp
        refine hK.out _ _ ⟨_, _, _, _, _, _, _, _, _, _, _, _, _, _, _, _, _, _, _, rfl, hid ⟨⟨⟨⟨(hk), ⟨(fun _ => rfl), (fun _ => rfl)⟩⟩, ⟨⟨(fun h => F9.out.1.1.2.1.1 (up_ne rfl h)), (fun h => F9.out.1.1.2.1.2 (up_ne rfl h))⟩, ⟨(fun h => F9.out.1.1.2.2.1 (up_ne rfl h)), (fun h => F9.out.1.1.2.2.2 (up_ne rfl h))⟩⟩⟩, ⟨⟨⟨(fun h => F9.out.1.2.1.1.1 (up_ne rfl h)), (fun h => F9.out.1.2.1.1.2 (up_ne rfl h))⟩, ⟨(fun h => F9.out.1.2.1.2.1 (up_ne rfl h)), (fun h => F9.out.1.2.1.2.2 (up_ne rfl h))⟩⟩, ⟨⟨(fun _ => rfl), (fun _ => ⟨pa, pc, rfl, r5, z5⟩)⟩, ⟨(fun _ => rfl), (fun _ => rfl)⟩⟩⟩⟩, ⟨⟨⟨⟨(fun h => F9.out.2.1.1.1.1 (up_ne rfl h)), (fun h => F9.out.2.1.1.1.2 (up_ne rfl h))⟩, ⟨(fun h => (h16 (by simpa using h)).imp fun T e => ⟨e.1, e.2.1, fun h9 => e.2.2.1 (by simpa using h9), fun h9 => e.2.2.2 (by simpa using h9)⟩), (fun _ => rfl)⟩⟩, ⟨⟨(fun h => F9.out.2.1.2.1.1 (up_ne rfl h)), (fun h => up_of (F9.out.2.1.2.1.2 (up_ne rfl h)))⟩, ⟨(fun h => up_of (F9.out.2.1.2.2.1 (up_ne rfl h))), (fun h => up_of (F9.out.2.1.2.2.2 (up_ne rfl h)))⟩⟩⟩, ⟨⟨⟨(fun h => up_of (F9.out.2.2.1.1.1 (up_ne rfl h))), (fun h => up_of (F9.out.2.2.1.1.2 (up_ne rfl h)))⟩, ⟨(fun h => up_of (F9.out.2.2.1.2.1 (up_ne rfl h))), (fun h => up_of (F9.out.2.2.1.2.2 (up_ne rfl h)))⟩⟩, ⟨⟨(fun _ => up_of e_13), (fun h => up_of (F9.out.2.2.2.1.2 (up_ne rfl h)))⟩, ⟨(fun h => up_of (F9.out.2.2.2.2.1 (up_ne rfl h))), (fun h => up_of (F9.out.2.2.2.2.2 (up_ne rfl h)))⟩⟩⟩⟩⟩⟩
      · simp only [List.getElem?_toArray, List.getElem?_cons_zero, List.getElem?_cons_succ, Option.some.injEq] at ho
        subst ho
        have hk := F9.out.1.1.1.1
        have h0 := F9.out.1.1.1.2.1
        have h1 := F9.out.1.1.1.2.2
        have h9 := F9.out.1.2.1.2.2
        have h10 := F9.out.1.2.2.1.1
        have h11 := F9.out.1.2.2.1.2
        have h12 := F9.out.1.2.2.2.1
        have h14 := F9.out.2.1.1.1.1
        have h16 := F9.out.2.1.1.2.1
        have q11_0 := F9.out.2.1.2.1.2
        have q11_1 := F9.out.2.1.2.2.1
        have q11_10 := F9.out.2.1.2.2.2
        have q12_11 := F9.out.2.2.1.1.1
        have q14_12 := F9.out.2.2.1.2.1
        have e_16 := dep 16 (by kernel_rfl)
        have e_14 := dep 14 (by kernel_rfl)
        have e_12 := q14_12 e_14
        have e_11 := q12_11 e_12
        have e_0 := q11_0 e_11
        have e_1 := q11_1 e_11
        have e_10 := q11_10 e_11
        obtain rfl := h0 e_0
        obtain rfl := h1 e_1
        obtain rfl := h10 e_10
        obtain ⟨pa, pc, rfl, r5, z5⟩ := h11 e_11
        obtain rfl := h12 e_12
        obtain rfl := h14 e_14
        obtain ⟨T, rfl, t1, t2, t3⟩ := h16 e_16
        have t4 := t2 hbi
        obtain ⟨f0, f1, f2⟩ := frozen3 t4
        obtain ⟨e0, e1, e2⟩ := cells3 t4
        have hT := hid (And.intro t1 t4)
        clear t1 t4 t2 t3
        go_simp
        refine hK.out _ _ ⟨_, _, _, _, _, _, _, _, _, _, _, _, _, _, _, _, _, _, _, rfl, hid ⟨⟨⟨⟨(below_put (below_put (below_put hk hT.out.1) hT.out.1) hT.out.1), ⟨(fun _ => rfl), (fun _ => rfl)⟩⟩, ⟨⟨(fun h => F9.out.1.1.2.1.1 (up_ne rfl h)), (fun h => F9.out.1.1.2.1.2 (up_ne rfl h))⟩, ⟨(fun h => F9.out.1.1.2.2.1 (up_ne rfl h)), (fun h => F9.out.1.1.2.2.2 (up_ne rfl h))⟩⟩⟩, ⟨⟨⟨(fun h => F9.out.1.2.1.1.1 (up_ne rfl h)), (fun h => F9.out.1.2.1.1.2 (up_ne rfl h))⟩, ⟨(fun h => F9.out.1.2.1.2.1 (up_ne rfl h)), (fun h => F9.out.1.2.1.2.2 (up_ne rfl h))⟩⟩, ⟨⟨(fun _ => rfl), (fun _ => ⟨pa, pc, rfl, trow_put3 hT.out.2 r5, z5⟩)⟩, ⟨(fun _ => rfl), (fun h => F9.out.1.2.2.2.2 (up_ne rfl h))⟩⟩⟩⟩, ⟨⟨⟨⟨(fun _ => rfl), (fun h => F9.out.2.1.1.1.2 (up_ne rfl h))⟩, ⟨(fun _ => ⟨T, rfl, hT.out.1, fun h9 => absurd h9 (by simp), fun _ => three_set hT.out.2⟩), (fun h => F9.out.2.1.1.2.2 (up_ne rfl h))⟩⟩, ⟨⟨(fun h => F9.out.2.1.2.1.1 (up_ne rfl h)), (fun h => up_of (F9.out.2.1.2.1.2 (up_ne rfl h)))⟩, ⟨(fun h => up_of (F9.out.2.1.2.2.1 (up_ne rfl h))), (fun h => up_of (F9.out.2.1.2.2.2 (up_ne rfl h)))⟩⟩⟩, ⟨⟨⟨(fun h => up_of (F9.out.2.2.1.1.1 (up_ne rfl h))), (fun h => up_of (F9.out.2.2.1.1.2 (up_ne rfl h)))⟩, ⟨(fun h => up_of (F9.out.2.2.1.2.1 (up_ne rfl h))), (fun h => up_of (F9.out.2.2.1.2.2 (up_ne rfl h)))⟩⟩, ⟨⟨(fun h => up_of (F9.out.2.2.2.1.1 (up_ne rfl h))), (fun _ => up_of e_16)⟩, ⟨(fun _ => up_of e_14), (fun h => up_of (F9.out.2.2.2.2.2 (up_ne rfl h)))⟩⟩⟩⟩⟩⟩
      · simp only [List.getElem?_toArray, List.getElem?_cons_zero, List.getElem?_cons_succ, Option.some.injEq] at ho
        subst ho
        have hk := F9.out.1.1.1.1
        have h0 := F9.out.1.1.1.2.1
        have h1 := F9.out.1.1.1.2.2
        have h9 := F9.out.1.2.1.2.2
        have h10 := F9.out.1.2.2.1.1
        have h11 := F9.out.1.2.2.1.2
        have h12 := F9.out.1.2.2.2.1
        have h15 := F9.out.2.1.1.1.2
        have h16 := F9.out.2.1.1.2.1
        have q11_0 := F9.out.2.1.2.1.2
        have q11_1 := F9.out.2.1.2.2.1
        have q11_10 := F9.out.2.1.2.2.2
        have q12_11 := F9.out.2.2.1.1.1
        have q15_12 := F9.out.2.2.1.2.2
        have e_15 := dep 15 (by kernel_rfl)
        have e_12 := q15_12 e_15
        have e_11 := q12_11 e_12
        have e_0 := q11_0 e_11
        have e_1 := q11_1 e_11
        have e_10 := q11_10 e_11
        obtain rfl := h0 e_0
        obtain rfl := h1 e_1
        obtain rfl := h10 e_10
        obtain ⟨pa, pc, rfl, r5, z5⟩ := h11 e_11
        obtain rfl := h12 e_12
        obtain rfl := h15 e_15
        go_simp
        refine hK.out _ _ ⟨_, _, _, _, _, _, _, _, _, _, _, _, _, _, _, _, _, _, _, rfl, hid ⟨⟨⟨⟨(hk), ⟨(fun _ => rfl), (fun _ => rfl)⟩⟩, ⟨⟨(fun h => F9.out.1.1.2.1.1 (up_ne rfl h)), (fun h => F9.out.1.1.2.1.2 (up_ne rfl h))⟩, ⟨(fun h => F9.out.1.1.2.2.1 (up_ne rfl h)), (fun h => F9.out.1.1.2.2.2 (up_ne rfl h))⟩⟩⟩, ⟨⟨⟨(fun h => F9.out.1.2.1.1.1 (up_ne rfl h)), (fun h => F9.out.1.2.1.1.2 (up_ne rfl h))⟩, ⟨(fun h => F9.out.1.2.1.2.1 (up_ne rfl h)), (fun h => F9.out.1.2.1.2.2 (up_ne rfl h))⟩⟩, ⟨⟨(fun _ => rfl), (fun _ => ⟨pa, pc, rfl, r5, z5⟩)⟩, ⟨(fun _ => rfl), (fun h => F9.out.1.2.2.2.2 (up_ne rfl h))⟩⟩⟩⟩, ⟨⟨⟨⟨(fun h => F9.out.2.1.1.1.1 (up_ne rfl h)), (fun _ => rfl)⟩, ⟨(fun h => (h16 (by simpa using h)).imp fun T e => ⟨e.1, e.2.1, fun h9 => e.2.2.1 (by simpa using h9), fun h9 => e.2.2.2 (by simpa using h9)⟩), (fun h => F9.out.2.1.1.2.2 (up_ne rfl h))⟩⟩, ⟨⟨(fun _ => rfl), (fun h => up_of (F9.out.2.1.2.1.2 (up_ne rfl h)))⟩, ⟨(fun h => up_of (F9.out.2.1.2.2.1 (up_ne rfl h))), (fun h => up_of (F9.out.2.1.2.2.2 (up_ne rfl h)))⟩⟩⟩, ⟨⟨⟨(fun h => up_of (F9.out.2.2.1.1.1 (up_ne rfl h))), (fun h => up_of (F9.out.2.2.1.1.2 (up_ne rfl h)))⟩, ⟨(fun h => up_of (F9.out.2.2.1.2.1 (up_ne rfl h))), (fun h => up_of (F9.out.2.2.1.2.2 (up_ne rfl h)))⟩⟩, ⟨⟨(fun h => up_of (F9.out.2.2.2.1.1 (up_ne rfl h))), (fun h => up_of (F9.out.2.2.2.1.2 (up_ne rfl h)))⟩, ⟨(fun h => up_of (F9.out.2.2.2.2.1 (up_ne rfl h))), (fun _ => up_of e_15)⟩⟩⟩⟩⟩⟩
    case done7 =>
      rintro b a' w' ⟨v56, v57, v58, v59, v60, v61, v62, v63, v64, v65, v66, v67, v55, v68, v69, v70, v14, v13, v15, rfl, F9⟩ hall
      have hk := F9.out.1.1.1.1
      have h0 := F9.out.1.1.1.2.1
      have h1 := F9.out.1.1.1.2.2
      have h2 := F9.out.1.1.2.1.1
      have h3 := F9.out.1.1.2.1.2
      have h4 := F9.out.1.1.2.2.1
      have h5 := F9.out.1.1.2.2.2
      have h6 := F9.out.1.2.1.1.1
      have h7 := F9.out.1.2.1.1.2
      have h8 := F9.out.1.2.1.2.1
      have h9 := F9.out.1.2.1.2.2
      have h10 := F9.out.1.2.2.1.1
      have h11 := F9.out.1.2.2.1.2
      have h12 := F9.out.1.2.2.2.1
      have h13 := F9.out.1.2.2.2.2
      have h14 := F9.out.2.1.1.1.1
      have h15 := F9.out.2.1.1.1.2
      have h16 := F9.out.2.1.1.2.1
      have h17 := F9.out.2.1.1.2.2
      have h19 := F9.out.2.1.2.1.1
      obtain rfl := h0 (hall 0)
      obtain rfl := h1 (hall 1)
      obtain rfl := h2 (hall 2)
      obtain rfl := h3 (hall 3)
      obtain rfl := h4 (hall 4)
      obtain rfl := h5 (hall 5)
      obtain rfl := h6 (hall 6)
      obtain rfl := h7 (hall 7)
      obtain rfl := h8 (hall 8)
      obtain rfl := h9 (hall 9)
      obtain rfl := h10 (hall 10)
      obtain ⟨pa, pc, rfl, r5, z5⟩ := h11 (hall 11)
      obtain rfl := h12 (hall 12)
      have e44 := h13 (hall 13)
      simp only [Value.tuple.injEq, Array.mk.injEq, List.cons.injEq, and_true] at e44
      obtain rfl := e44
      obtain rfl := h14 (hall 14)
      obtain rfl := h15 (hall 15)
      obtain ⟨T, rfl, t1, t2, t3⟩ := h16 (hall 16)
      obtain rfl := h17 (hall 17)
      obtain rfl := h19 (hall 19)
      have t4 := t3 (hall 18)
      have RB := hid r5
      have XB := hid t4
      have X := hid (X.out.2.trans (hk.mono X.out.2.size))
      have R := hid (R.out.below hk)
      have RQ := hid (RQ.out.below hk)
      clear hk r5 z5 t1 t2 t3 t4 hall h0 h1 h2 h3 h4 h5 h6 h7 h8 h9 h10 h11 h12 h13 h14 h15 h16 h17 h19
      dsimp only
      go_wp2_with fail
      refine (CA.out _).mono ?_
      rintro e W8 ⟨rfl, b8⟩
      have X := hid (X.out.trans (b8.mono X.out.size))
      have XB := hid ((b8.block _ (heap_lt XB.out)).trans XB.out)
      have RB := hid (RB.out.below b8)
      have R := hid (R.out.below b8)
      have CS := hid (Same_any W8 q1 lL r1 L p lL c L (RQ.out.below b8) R.out (by omega) (by omega))
      rw [decide_eq_true rfl] at CS
      clear b8
      go_wp2_with fail
      refine CS.out.mono ?_
      rintro e W9 ⟨rfl, b9⟩
      have X := hid (X.out.trans (b9.mono X.out.size))
      have XB := hid ((b9.block _ (heap_lt XB.out)).trans XB.out)
      have CS2 := hid (Same_any W9 pa lL pc L p lL c L (RB.out.below b9) (R.out.below b9) (by omega) (by omega))
      rw [decide_eq_true rfl] at CS2
      clear b9 CS
      go_wp2_with fail
      refine CS2.out.mono ?_
      rintro e W10 ⟨rfl, b9⟩
      have X := hid (X.out.trans (b9.mono X.out.size))
      have XB := hid ((b9.block _ (heap_lt XB.out)).trans XB.out)
      clear b9 CS2
      obtain ⟨e0, e1, e2⟩ := cells3 XB.out
      go_wp2
      go_ret
      exact ⟨rfl, X.out⟩
    case init7 =>
      exact ⟨_, _, _, _, _, _, _, _, _, _, _, _, _, _, _, _, _, _, _, rfl, hid ⟨⟨⟨⟨((Below.refl _ _).drew), ⟨(fun h => absurd h (by simp)), (fun h => absurd h (by simp))⟩⟩, ⟨⟨(fun h => absurd h (by simp)), (fun h => absurd h (by simp))⟩, ⟨(fun h => absurd h (by simp)), (fun h => absurd h (by simp))⟩⟩⟩, ⟨⟨⟨(fun h => absurd h (by simp)), (fun h => absurd h (by simp))⟩, ⟨(fun h => absurd h (by simp)), (fun h => absurd h (by simp))⟩⟩, ⟨⟨(fun h => absurd h (by simp)), (fun h => absurd h (by simp))⟩, ⟨(fun h => absurd h (by simp)), (fun h => absurd h (by simp))⟩⟩⟩⟩, ⟨⟨⟨⟨(fun h => absurd h (by simp)), (fun h => absurd h (by simp))⟩, ⟨(fun h => absurd h (by simp)), (fun h => absurd h (by simp))⟩⟩, ⟨⟨(fun h => absurd h (by simp)), (fun h => absurd h (by simp))⟩, ⟨(fun h => absurd h (by simp)), (fun h => absurd h (by simp))⟩⟩⟩, ⟨⟨⟨(fun h => absurd h (by simp)), (fun h => absurd h (by simp))⟩, ⟨(fun h => absurd h (by simp)), (fun h => absurd h (by simp))⟩⟩, ⟨⟨(fun h => absurd h (by simp)), (fun h => absurd h (by simp))⟩, ⟨(fun h => absurd h (by simp)), (fun h => absurd h (by simp))⟩⟩⟩⟩⟩⟩

theorem lifted (os : Os) (started : os.Started) (H : Type) (enc : TypeId × Value → H) :
    ReturnsInHanded {} Try.checked os 7 .any (Rows.relexNothingSpec.pre6 enc Try.prog Try.f7 Rows.relexNothingRow.domain false) (Rows.relexNothingSpec.post enc Try.prog Try.f7 false true false false) := by
  refine Go.Frame.lifted (C := Try.checked) (tb := 4) own started (by kernel_rfl) Try.func7
    (ChangeSpec.witness6 (enc := enc) (C := Try.checked) false ⟨#[], #[.agg #[.slice none 0 0, .slice none 0 0, .slice none 0 0], .string ByteArray.empty, .agg #[.int .u8 0, .int .u8 0]], []⟩ 8 (by kernel_rfl) (by kernel_rfl) (by kernel_rfl) (by kernel_rfl))
    laidOut (by kernel_rfl) (by kernel_rfl) Try.underlying4 rfl ?_ ?_
  · intro ds h
    have h : ds.length = 3 := h
    match ds, h with
    | [_, _, _], _ => rfl
  · intro W base args ds p hlen hval0 hA hsz0
    have hval : ∀ (j : Nat) t v, Try.f7.params[j]? = some t → args[j]? = some v → Value.okWide Try.prog W .any base t v := hval0
    have hA : DataW.TrodAll enc Try.prog W 0 (fun _ => true) true Try.f7.params.toList args.toList ds p := hA
    have hsz : (DataW.weightsEach Try.prog Try.f7.params.toList ds).all (· ≤ reachBytes) = true := hsz0
    rw [Try.params7] at hA hval hsz
    obtain ⟨v0, vs0, d0, ds0, p0, q0, hargs, hds, _, th0, tr0⟩ := trodAll_cons hA
    obtain ⟨v1, vs1, d1, ds1, p1, q1, rfl, rfl, _, th1, tr1⟩ := trodAll_cons tr0
    obtain ⟨v2, vs2, d2, ds2, p2, q2, rfl, rfl, _, th2, tr2⟩ := trodAll_cons tr1
    obtain ⟨rfl, rfl, _⟩ := trodAll_nil tr2
    obtain rfl : args = #[v0, v1, v2] := by cases args; simp_all
    subst hds
    obtain ⟨Du, a1x, n1x, c1x, a2x, n2x, c2x, a3x, n3x, c3x, rfl, hDu⟩ := open_dfa (hval 0 25 v0 rfl rfl) th0 (fun n hn => of_decide_eq_true (List.all_eq_true.1 hsz _ (DataW.weights_mem_each (j := 0) rfl rfl n hn)))
    obtain ⟨t1, rfl, hd1, _, _⟩ := open_string Try.underlying9 (hval 1 9 v1 rfl rfl) th1
    have hs1 : t1.size ≤ 140737488351232 := of_decide_eq_true (List.all_eq_true.1 hsz _ (DataW.weights_mem_each (j := 1) rfl rfl _ (by rw [hd1]; simp [DataW.weights])))
    obtain ⟨n0x, n1y, rfl, hx0, hy0⟩ := open_two (hval 2 48 v2 rfl rfl) th2
    exact walk Du a1x n1x c1x a2x n2x c2x a3x n3x c3x t1 n0x n1y W hDu hs1 hx0 hy0

theorem over : Rows.relexNothingRow.holds Try.pinned (OpenSpec.ofChange Rows.relexNothingSpec) :=
  OpenClaim.holds_of_wide 7 Try.f7 rfl rfl rfl rfl rfl rfl rfl ⟨rfl, rfl, rfl, rfl, rfl⟩ rfl rfl rfl rfl rfl (by kernel_rfl) Try.func7 (by kernel_rfl)
    (of_decide_eq_true (by kernel_rfl)) (by unfold Func.isWrapper; first | (rw [if_pos (by decide +kernel)]; kernel_rfl) | (rw [if_neg (by decide +kernel)]; exact ⟨rfl, rfl⟩))
    (fun os started H enc _ => lifted os started H enc)

/-- THE STATEMENT -/
theorem proved : Rows.RelexNothingSaid :=
  over
#print axioms proved
end Go.Proofs.Ytblcjjhjgoccgaa.relexNothing
