/-
  LexerRestarts, for every input: the law returns true and leaves its arguments as they read. No condition.
-/
import Derived.Test.YtlbnaegcjlddgaaO
import Derived.Test.YtlbnaegcjlddgaaJ
import Derived.Test.YtlbnaegcjlddgaaN
import Derived.Test.YtlbnaegcjlddgaaIv
set_option linter.unusedSimpArgs false
set_option linter.unusedVariables false
namespace Go.Proofs.Ytlbnaegcjlddgaa.lexerRestarts
open Go.ChangeShapes Go.WideShapes Go.ChangeAt Go.RowKit Go.Frame
open Go.ChangeMaps (open_string shut_string)
open Lx
set_option maxRecDepth 100000 in
set_option maxHeartbeats 4000000 in
theorem walk (D : Df) (a1 : Option Addr) (n1 c1 : Nat) (a2 : Option Addr) (n2 c2 : Nat) (a3 : Option Addr) (n3 c3 : Nat) (s : ByteArray) (bn : Nat) (w : World) (hD : DA w D a1 n1 a2 n2 a3 n3) (hs0 : s.size ≤ 140737488351232) (hbn : bn < 256) :
    Calls Try.prog 7 #[.agg #[.slice a1 n1 c1, .slice a2 n2 c2, .slice a3 n3 c3], .string s, .int .u8 (bn : Int)] w fun e w' => e = .returned (.bool true) ∧ Below w.heap.size w w' := by
  have CA := hid (fun V (hV : Below w.heap.size w V) => awake_any V)
  have CL := hid (fun V (hV : Below w.heap.size w V) => light_any V D a1 n1 c1 a2 n2 c2 a3 n3 c3 (hD.below hV) s (by omega))
  have HI := hid hD
  have x0 := hid (alloc_new w (.cells #[.slice a1 n1 c1, .slice a2 n2 c2, .slice a3 n3 c3] 25))
  have B0 := hid (bel1 w (.cells #[.slice a1 n1 c1, .slice a2 n2 c2, .slice a3 n3 c3] 25))
  obtain ⟨y, hy⟩ : ∃ y, y = (decide (n2 ≤ 60) && (decide (s.size ≤ 60) && valid D)) := ⟨_, rfl⟩
  rw [← hy] at CL
  have HY := hid hy
  clear hD hy
  go_enter Try.func7, Try.ntmps7
  go_wp2_with fail
  refine (CA.out _ B0.out).mono ?_
  rintro e W ⟨rfl, b1⟩
  have X := hid (And.intro ((b1.block _ (heap_lt x0.out)).trans x0.out) (B0.out.trans (b1.mono B0.out.size)))
  clear b1 CA
  obtain ⟨d0, d1, d2⟩ := cells3 X.out.1
  go_wp2_with fail
  refine (CL.out _ X.out.2).mono ?_
  rintro e W2 ⟨rfl, b2⟩
  have X2 := hid (And.intro ((b2.block _ (heap_lt X.out.1)).trans X.out.1) (X.out.2.trans (b2.mono X.out.2.size)))
  clear b2 CL d0 d1 d2
  cases y
  · go_wp2
    go_ret
    exact ⟨rfl, X2.out.2⟩
  · have hy2 := HY.out
    simp only [eq_comm (a := true), Bool.and_eq_true, decide_eq_true_eq] at hy2
    obtain ⟨hm, hs60, hval⟩ := hy2
    obtain ⟨n, k, hv⟩ := valid_iff.1 hval
    have hs6 : s.size ≤ 1000000 := by omega
    have HV := hid hv
    have DL := hid (fun V (hV : Below w.heap.size w V) (s' : ByteArray) (h' : s'.size ≤ 1000000) => Lex_any V D n k HV.out a1 n1 c1 a2 n2 c2 a3 n3 c3 (HI.out.below hV) s' h')
    clear hm hval hv
    obtain ⟨d0, d1, d2⟩ := cells3 X2.out.1
    by_cases h30 : s.size = 0
    · have h31 : ((s.size : Int) == 0) = true := by rw [h30]; rfl
      go_wp2
      go_ret
      exact ⟨rfl, X2.out.2⟩
    · have h31 : ((s.size : Int) == 0) = false := by rw [beq_eq_false_iff_ne]; omega
      have h32 : ¬ (s.size : Int) = 0 := by omega
      obtain ⟨L, hL⟩ : ∃ L, L = lexT D s := ⟨_, rfl⟩
      have hLn : L.length ≤ 60 := by rw [hL]; exact Nat.le_trans (lexT_len _ _) hs60
      have D1 := hid (fun V (hV : Below w.heap.size w V) => show Calls Try.prog 13 #[.agg #[.slice a1 n1 c1, .slice a2 n2 c2, .slice a3 n3 c3], .string s] V (TRes V L) from hL ▸ DL.out V hV s hs6)
      have H0 := hid (show (lexAt D s 0).map tq = L.drop 0 from by rw [hL]; rfl)
      have HLX := hid hL
      obtain ⟨lL, hlL⟩ : ∃ lL, lL = L.length := ⟨_, rfl⟩
      have HLL := hid hlL
      unfold TRes at D1
      rw [← hlL] at D1 hLn
      clear hlL hL
      go_wp2_with fail
      refine (D1.out _ X2.out.2).mono ?_
      rintro e V1 ⟨⟨pL, qL, rfl, rL⟩, b3⟩
      have Y := hid (And.intro (X2.out.2.trans (b3.mono X2.out.2.size)) (And.intro ((b3.block _ (heap_lt X2.out.1)).trans X2.out.1) rL))
      clear b3 rL d0 d1 d2

      have hlL0 : lL ≠ 0 := by
        intro e
        have h1 := H0.out
        rw [lexAt_cons (by omega)] at h1
        have h2 := congrArg List.length h1
        have := HLL.out
        simp at h2; omega
      have hl31 : ((lL : Int) == 0) = false := by rw [beq_eq_false_iff_ne]; omega
      have hl32 : ¬ (lL : Int) = 0 := by omega
      obtain ⟨kk, hkk⟩ : ∃ kk, kk = bn % lL := ⟨_, rfl⟩
      have hkl : kk < lL := by rw [hkk]; exact Nat.mod_lt _ (by omega)
      have hmod : (bn : Int) % (lL : Int) = (kk : Int) := by rw [hkk]; omega
      have hmod2 : Int.tmod (bn : Int) (lL : Int) = (kk : Int) := by rw [Int.tmod_eq_emod_of_nonneg (by omega)]; exact hmod
      obtain ⟨p, hp, hlp⟩ := lex_reach H0.out kk (by have := HLL.out; omega)
      obtain ⟨hps, hx, _, _⟩ := lex_step hlp (by have := HLL.out; omega) hp
      have hsuf := lexT_suffix D s p hp
      rw [hlp] at hsuf
      obtain ⟨M, hM⟩ : ∃ M, M = lexT D (s.extract p s.size) := ⟨_, rfl⟩
      rw [← hM] at hsuf
      obtain ⟨lM, hlMe⟩ : ∃ lM, lM = lL - kk := ⟨_, rfl⟩
      have hlM : M.length = lM := by
        have h1 := congrArg List.length hsuf
        have := HLL.out
        simp at h1; omega
      have D2 := hid (fun V (hV : Below w.heap.size w V) => show Calls Try.prog 13 #[.agg #[.slice a1 n1 c1, .slice a2 n2 c2, .slice a3 n3 c3], .string (s.extract p s.size)] V (TRes V M) from hM ▸ Lex_any V D n k HV.out a1 n1 c1 a2 n2 c2 a3 n3 c3 (HI.out.below hV) (s.extract p s.size) (by rw [ByteArray.size_extract]; omega))
      unfold TRes at D2
      rw [hlM] at D2
      have HS := hid (And.intro hsuf (And.intro hlM (show (lexAt D (s.extract p s.size) 0).map tq = M.drop 0 from by rw [hM]; rfl)))
      have hlM2 : IntKind.i64.wrap ((lL : Int) - (kk : Int)) = (lM : Int) := by rw [wrapIn (by omega) (by omega)]; omega
      have HLM := hid hlMe
      have hlM3 : lM ≤ 60 := by omega
      obtain ⟨lb, lo, t, rfl, _, hx', x0, x1, x2, x3⟩ := trow_at Y.out.2.2 hkl
      obtain rfl : t = tq (tokAt D s p) := by rw [hx] at hx'; simpa using hx'.symm
      have x1' : V1.cell? ⟨lb, lo + kk * 4 + 1, none⟩ = some (.int .i64 (p : Int)) := x1
      have hi0 : (0 : Int) ≤ (kk : Int) := by omega
      have hi1 : (kk : Int) < (lL : Int) := by omega
      have hp0 : ¬ (p : Int) < 0 := by omega
      have hp1 : ¬ (s.size : Int) < (p : Int) := by omega
      have hp0b : decide ((p : Int) < 0) = false := decide_eq_false hp0
      have hp1b : decide (s.size < p) = false := decide_eq_false (by omega)
      have hp2 : (0 : Int) ≤ (p : Int) := by omega
      have hp3 : (p : Int) ≤ (s.size : Int) := by omega
      clear hx hx' x0 x1 x2 x3 hsuf hlp hM hlM hkk hlMe
      obtain ⟨d0, d1, d2⟩ := cells3 Y.out.2.1
      go_upto_region 12 with fail
      refine region_inv (fun b a' w' => ∃ (v48 v49 v50 v51 v52 v10 : Value), a' = { tmps := #[.agg #[.slice a1 n1 c1, .slice a2 n2 c2, .slice a3 n3 c3], .string s, .int .u8 (bn : Int), .pointer (some ⟨w.heap.size, 0, none⟩), undef, undef, .bool false, .slice (some ⟨lb, lo, none⟩) lL qL, .int .i64 (kk : Int), .int .i64 (p : Int), v10, undef, undef, .bool true, .bool false, .agg #[.slice a1 n1 c1, .slice a2 n2 c2, .slice a3 n3 c3], .string s, .bool true, .bool false, .bool false, .string s, .int .i64 (s.size : Int), .bool false, .bool false, .agg #[.slice a1 n1 c1, .slice a2 n2 c2, .slice a3 n3 c3], .string s, .slice (some ⟨lb, lo, none⟩) lL qL, .slice (some ⟨lb, lo, none⟩) lL qL, .int .i64 (lL : Int), .bool false, .int .u8 (bn : Int), .int .i64 (bn : Int), .slice (some ⟨lb, lo, none⟩) lL qL, .int .i64 (lL : Int), .int .i64 (kk : Int), .slice (some ⟨lb, lo, none⟩) lL qL, .int .i64 (kk : Int), .pointer (some ⟨lb, lo + kk * 4, none⟩), .pointer (some ⟨lb, lo + kk * 4 + 1, none⟩), .int .i64 (p : Int), .int .i64 (p : Int), .bool false, .bool false, .int .i64 (p : Int), .string s, .int .i64 (s.size : Int), .bool false, .bool false, v48, v49, v50, v51, v52, undef, undef, undef, undef, undef, undef, undef, undef, undef, undef, undef, undef, undef, undef, undef, undef, undef, undef, undef, undef, undef, undef, undef, undef, undef, undef, undef, undef, undef, undef], defers := [] } ∧ Below V1.heap.size V1 w' ∧ w'.heap[w.heap.size]? = some (.cells #[.slice a1 n1 c1, .slice a2 n2 c2, .slice a3 n3 c3] 25 (0, 0)) ∧ (b 0 = true → v48 = .agg #[.slice a1 n1 c1, .slice a2 n2 c2, .slice a3 n3 c3]) ∧ (b 1 = true → v49 = .string s) ∧ (b 2 = true → v50 = .int .i64 (p : Int)) ∧ (b 3 = true → v51 = .string (s.extract p s.size)) ∧ (b 4 = true → ∃ (p : Option Addr) (q' : Nat), v52 = .slice p lM q' ∧ TRow w' p lM M) ∧ (b 5 = true → v10 = v52) ∧ (b 3 = true → b 1 = true) ∧ (b 3 = true → b 2 = true) ∧ (b 4 = true → b 0 = true) ∧ (b 4 = true → b 3 = true) ∧ (b 5 = true → b 4 = true)) (by kernel_rfl) (back_of (by kernel_rfl)) ?step2 ?done2 ?init2
      case step2 =>
        rintro b a' w' i o ho ⟨v48, v49, v50, v51, v52, v10, rfl, hk, hx, h0, h1, h2, h3, h4, h5, q3_1, q3_2, q4_0, q4_3, q5_4⟩ hbi hd K hK
        have hlt : i < 6 := by have := (Array.getElem?_eq_some_iff.1 ho).1; simpa using this
        have dep : ∀ k, (o.after.any fun e => Region.binds .any e && e.on == k) = true → b k = true := fun k hk => by
          obtain ⟨e, he, h⟩ := Array.any_eq_true'.1 hk
          simp only [Bool.and_eq_true, beq_iff_eq] at h
          rw [← h.2]; exact hd e he h.1
        clear hd
        have hi : i = 0 ∨ i = 1 ∨ i = 2 ∨ i = 3 ∨ i = 4 ∨ i = 5 := by omega
        clear hlt
        rcases hi with rfl | rfl | rfl | rfl | rfl | rfl
        · simp only [List.getElem?_toArray, List.getElem?_cons_zero, List.getElem?_cons_succ, Option.some.injEq] at ho
          subst ho
          obtain ⟨d0, d1, d2⟩ := cells3 hx
          go_simp
          refine hK.out _ _ ⟨_, _, _, _, _, _, rfl, hk, hx, fun _ => rfl, fun h => h1 (by simpa using h), fun h => h2 (by simpa using h), fun h => h3 (by simpa using h), fun h => h4 (by simpa using h), fun h => h5 (by simpa using h), fun h => by simp [q3_1 (by simpa using h)], fun h => by simp [q3_2 (by simpa using h)], fun h => by simp [q4_0 (by simpa using h)], fun h => by simp [q4_3 (by simpa using h)], fun h => by simp [q5_4 (by simpa using h)]⟩
        · simp only [List.getElem?_toArray, List.getElem?_cons_zero, List.getElem?_cons_succ, Option.some.injEq] at ho
          subst ho
          go_simp
          refine hK.out _ _ ⟨_, _, _, _, _, _, rfl, hk, hx, fun h => h0 (by simpa using h), fun _ => rfl, fun h => h2 (by simpa using h), fun h => h3 (by simpa using h), fun h => h4 (by simpa using h), fun h => h5 (by simpa using h), fun h => by simp [q3_1 (by simpa using h)], fun h => by simp [q3_2 (by simpa using h)], fun h => by simp [q4_0 (by simpa using h)], fun h => by simp [q4_3 (by simpa using h)], fun h => by simp [q5_4 (by simpa using h)]⟩
        · simp only [List.getElem?_toArray, List.getElem?_cons_zero, List.getElem?_cons_succ, Option.some.injEq] at ho
          subst ho
          go_simp
          refine hK.out _ _ ⟨_, _, _, _, _, _, rfl, hk, hx, fun h => h0 (by simpa using h), fun h => h1 (by simpa using h), fun _ => rfl, fun h => h3 (by simpa using h), fun h => h4 (by simpa using h), fun h => h5 (by simpa using h), fun h => by simp [q3_1 (by simpa using h)], fun h => by simp [q3_2 (by simpa using h)], fun h => by simp [q4_0 (by simpa using h)], fun h => by simp [q4_3 (by simpa using h)], fun h => by simp [q5_4 (by simpa using h)]⟩
        · simp only [List.getElem?_toArray, List.getElem?_cons_zero, List.getElem?_cons_succ, Option.some.injEq] at ho
          subst ho
          have e_1 := dep 1 (by kernel_rfl)
          have e_2 := dep 2 (by kernel_rfl)
          obtain rfl := h1 e_1
          obtain rfl := h2 e_2
          go_simp
          refine hK.out _ _ ⟨_, _, _, _, _, _, rfl, hk, hx, fun h => h0 (by simpa using h), fun _ => rfl, fun _ => rfl, fun _ => rfl, fun h => h4 (by simpa using h), fun h => h5 (by simpa using h), fun _ => by simp [e_1], fun _ => by simp [e_2], fun h => by simp [q4_0 (by simpa using h)], fun h => by simp [q4_3 (by simpa using h)], fun h => by simp [q5_4 (by simpa using h)]⟩
        · simp only [List.getElem?_toArray, List.getElem?_cons_zero, List.getElem?_cons_succ, Option.some.injEq] at ho
          subst ho
          have e_0 := dep 0 (by kernel_rfl)
          have e_3 := dep 3 (by kernel_rfl)
          have e_1 := q3_1 e_3
          have e_2 := q3_2 e_3
          obtain rfl := h0 e_0
          obtain rfl := h1 e_1
          obtain rfl := h2 e_2
          obtain rfl := h3 e_3
          have HCS := hid (D2.out w' (Y.out.1.trans (hk.mono Y.out.1.size)))
          have n5 : b 5 = false := by
            cases hb : b 5
            · rfl
            · have := q5_4 hb; rw [hbi] at this; cases this
          go_simp
          refine HCS.out.mono ?_
          rintro e W5 ⟨⟨p5, q5, rfl, r5⟩, b5⟩
          refine hK.out _ _ ⟨_, _, _, _, _, _, rfl, hk.trans (b5.mono hk.size), (b5.block _ (heap_lt hx)).trans hx, fun _ => rfl, fun _ => rfl, fun _ => rfl, fun _ => rfl, fun _ => ⟨p5, q5, rfl, r5⟩, fun h => absurd h (by simp [n5]), fun h => by simp [q3_1 (by simpa using h)], fun h => by simp [q3_2 (by simpa using h)], fun _ => by simp [e_0], fun _ => by simp [e_3], fun h => by simp [q5_4 (by simpa using h)]⟩
        · simp only [List.getElem?_toArray, List.getElem?_cons_zero, List.getElem?_cons_succ, Option.some.injEq] at ho
          subst ho
          have e_4 := dep 4 (by kernel_rfl)
          have e_0 := q4_0 e_4
          have e_3 := q4_3 e_4
          have e_1 := q3_1 e_3
          have e_2 := q3_2 e_3
          obtain rfl := h0 e_0
          obtain rfl := h1 e_1
          obtain rfl := h2 e_2
          obtain rfl := h3 e_3
          obtain ⟨p4, q4, rfl, r4⟩ := (h4 e_4)
          go_simp
          refine hK.out _ _ ⟨_, _, _, _, _, _, rfl, hk, hx, fun _ => rfl, fun _ => rfl, fun _ => rfl, fun _ => rfl, fun _ => ⟨p4, q4, rfl, r4⟩, fun _ => rfl, fun h => by simp [q3_1 (by simpa using h)], fun h => by simp [q3_2 (by simpa using h)], fun h => by simp [q4_0 (by simpa using h)], fun h => by simp [q4_3 (by simpa using h)], fun _ => by simp [e_4]⟩
      case done2 =>
        rintro b a' w' ⟨v48, v49, v50, v51, v52, v10, rfl, hk, hx, h0, h1, h2, h3, h4, h5, q3_1, q3_2, q4_0, q4_3, q5_4⟩ hall
        obtain rfl := h0 (hall 0)
        obtain rfl := h1 (hall 1)
        obtain rfl := h2 (hall 2)
        obtain rfl := h3 (hall 3)
        obtain ⟨p4, q4, e52, r4⟩ := h4 (hall 4)
        obtain rfl := h5 (hall 5)
        subst e52
        have HR := hid (And.intro hk r4)
        clear h0 h1 h2 h3 h4 h5 hk hx r4 hall d0 d1 d2 x1'
        obtain ⟨w3, hw3⟩ : ∃ w3, w3 = w' := ⟨_, rfl⟩
        rw [← hw3] at HR ⊢
        clear hw3
        go_wp2_with fail
        go_loopg [11] lM (fun kz s11 wr => ∃ i : Nat, s11 = .int .i64 (i : Int) ∧ i + kz = lM ∧ Below w3.heap.size w3 wr)
        case atStart => exact ⟨0, rfl, by omega, Below.refl _ _⟩
        case round =>
          obtain ⟨i, rfl, hik, hb⟩ := hrel
          by_cases hlt : i < lM
          · have hlt' : (i : Int) < (lM : Int) := by omega
            have hi0 : (0 : Int) ≤ (i : Int) := by omega
            have hii : IntKind.i64.wrap ((i : Int) + 1) = (i : Int) + 1 := wrapIn (by omega) (by omega)
            obtain ⟨p', hp', hxM⟩ := tok_of HS.out.2.2 (i := i) (by have := HS.out.2.1; omega)
            obtain ⟨bm, om, ⟨yk, ya, ys, yl⟩, rfl, _, hy, y0, y1, y2, y3⟩ := trow_at (HR.out.2.below hb) hlt
            simp only at y0 y1 y2 y3
            have hya : 0 ≤ ya ∧ ya ≤ 60 := by
              rw [hxM] at hy
              have h1 := Option.some.inj hy
              have h2 : (p' : Int) = ya := congrArg (fun z : TQ => z.2.1) h1
              rw [ByteArray.size_extract] at hp'
              omega
            have hw1 : IntKind.i64.wrap (ya + (p : Int)) = ya + (p : Int) := wrapIn (by omega) (by omega)
            obtain ⟨ki, hki⟩ : ∃ ki, ki = kk + i := ⟨_, rfl⟩
            have hkl2 : ki < lL := by have := HLM.out; omega
            have hw2 : IntKind.i64.wrap ((kk : Int) + (i : Int)) = (ki : Int) := by rw [wrapIn (by omega) (by omega)]; omega
            have hki0 : (0 : Int) ≤ (ki : Int) := by omega
            have hki1 : (ki : Int) < (lL : Int) := by omega
            obtain ⟨Z, hZ⟩ : ∃ Z, Z = wr.alloc (.cells #[.int .i64 yk, .int .i64 (ya + (p : Int)), .string ys, .int .i64 yl] 32) := ⟨_, rfl⟩
            have bZ : Below w3.heap.size w3 Z := by rw [hZ]; exact hb.alloc hb.size _
            have zb : Z.heap[wr.heap.size]? = some (.cells #[.int .i64 yk, .int .i64 (ya + (p : Int)), .string ys, .int .i64 yl] 32 (0, 0)) := by rw [hZ]; exact alloc_new _ _
            obtain ⟨e0, e1, e2, e3⟩ := cells4 zb
            have bV := Y.out.1.trans ((HR.out.1.trans (bZ.mono HR.out.1.size)).mono Y.out.1.size)
            obtain ⟨bl, ol, t, ebl, _, hx, x0, x1, x2, x3⟩ := trow_at (Y.out.2.2.below (HR.out.1.trans (bZ.mono HR.out.1.size))) hkl2
            have hLk : L[ki]? = some (mv p (yk, ya, ys, yl)) := by
              have h1 := congrArg (fun l => l[i]?) HS.out.1
              simp only [List.getElem?_map, hy, List.getElem?_drop, Option.map_some] at h1
              rw [hki, h1]
            obtain rfl : t = mv p (yk, ya, ys, yl) := by rw [hx] at hLk; simpa using hLk
            cases ebl
            simp only [mv] at x0 x1 x2 x3
            have HZ := hid (And.intro bZ bV)
            clear hxM hp' hy hki bZ bV zb hx hLk hb hya
            go_upto_region 20 with fail
            rw [← hZ]
            clear hZ y0 y1 y2 y3
            go_quiet (fail)
            go_wp2
            go_roundg (gk - 1)
            case measure => omega
            case rel => exact ⟨i + 1, by go_num, by omega, below_drewN HZ.out.1 _⟩
          · have hlt' : ¬ (i : Int) < (lM : Int) := by omega
            go_wp2
            go_ret
            exact ⟨rfl, Y.out.1.trans ((HR.out.1.trans (hb.mono HR.out.1.size)).mono Y.out.1.size)⟩
      case init2 =>
        exact ⟨_, _, _, _, _, _, rfl, (Below.refl _ _).drew, Y.out.2.1, fun h => absurd h (by simp), fun h => absurd h (by simp), fun h => absurd h (by simp), fun h => absurd h (by simp), fun h => absurd h (by simp), fun h => absurd h (by simp), fun h => absurd h (by simp), fun h => absurd h (by simp), fun h => absurd h (by simp), fun h => absurd h (by simp), fun h => absurd h (by simp)⟩

theorem lifted (os : Os) (started : os.Started) (H : Type) (enc : TypeId × Value → H) :
    ReturnsInHanded {} Try.checked os 7 .any (Rows.lexerRestartsSpec.pre6 enc Try.prog Try.f7 Rows.lexerRestartsRow.domain false) (Rows.lexerRestartsSpec.post enc Try.prog Try.f7 false true false false) := by
  refine Go.Frame.lifted (C := Try.checked) (tb := 4) own started (by kernel_rfl) Try.func7
    (ChangeSpec.witness6 (enc := enc) (C := Try.checked) false ⟨#[], #[.agg #[.slice none 0 0, .slice none 0 0, .slice none 0 0], .string ByteArray.empty, .int .u8 0], []⟩ 8 (by kernel_rfl) (by kernel_rfl) (by kernel_rfl) (by kernel_rfl))
    laidOut (by kernel_rfl) (by kernel_rfl) Try.underlying4 rfl ?_ ?_
  · intro ds h
    have h : ds.length = 3 := h
    match ds, h with
    | [_, _, _], _ => rfl
  · intro W base args ds p hlen hval0 hA hsz0
    have hval : ∀ (j : Nat) t v, Try.f7.params[j]? = some t → args[j]? = some v → Value.okWide Try.prog W .any base t v := hval0
    have hA : DataW.TrodAll enc Try.prog W 0 (fun _ => true) true Try.f7.params.toList args.toList ds p := hA
    have hsz : (DataW.weightsEach Try.prog Try.f7.params.toList ds).all (· ≤ reachBytes) = true := hsz0
    rw [Try.params7] at hA hval hsz
    obtain ⟨v0, vs0, d0, ds0, p0, q0, hargs, hds, _, th0, tr0⟩ := trodAll_cons hA
    obtain ⟨v1, vs1, d1, ds1, p1, q1, rfl, rfl, _, th1, tr1⟩ := trodAll_cons tr0
    obtain ⟨v2, vs2, d2, ds2, p2, q2, rfl, rfl, _, th2, tr2⟩ := trodAll_cons tr1
    obtain ⟨rfl, rfl, _⟩ := trodAll_nil tr2
    obtain rfl : args = #[v0, v1, v2] := by cases args; simp_all
    subst hds
    obtain ⟨Du, a1x, n1x, c1x, a2x, n2x, c2x, a3x, n3x, c3x, rfl, hDu⟩ := open_dfa (hval 0 25 v0 rfl rfl) th0 (fun n hn => of_decide_eq_true (List.all_eq_true.1 hsz _ (DataW.weights_mem_each (j := 0) rfl rfl n hn)))
    obtain ⟨t1, rfl, hd1, _, _⟩ := open_string Try.underlying9 (hval 1 9 v1 rfl rfl) th1
    have hs1 : t1.size ≤ 140737488351232 := of_decide_eq_true (List.all_eq_true.1 hsz _ (DataW.weights_mem_each (j := 1) rfl rfl _ (by rw [hd1]; simp [DataW.weights])))
    obtain ⟨n2, rfl, hn2⟩ := open_u8 (hval 2 5 v2 rfl rfl) th2
    exact walk Du a1x n1x c1x a2x n2x c2x a3x n3x c3x t1 n2 W hDu hs1 hn2

theorem over : Rows.lexerRestartsRow.holds Try.pinned (OpenSpec.ofChange Rows.lexerRestartsSpec) :=
  OpenClaim.holds_of_wide 7 Try.f7 rfl rfl rfl rfl rfl rfl rfl ⟨rfl, rfl, rfl, rfl, rfl⟩ rfl rfl rfl rfl rfl (by kernel_rfl) Try.func7 (by kernel_rfl)
    (of_decide_eq_true (by kernel_rfl)) (by unfold Func.isWrapper; first | (rw [if_pos (by decide +kernel)]; kernel_rfl) | (rw [if_neg (by decide +kernel)]; exact ⟨rfl, rfl⟩))
    (fun os started H enc _ => lifted os started H enc)

/-- THE STATEMENT -/
theorem proved : Rows.LexerRestartsSaid :=
  over
#print axioms proved
end Go.Proofs.Ytlbnaegcjlddgaa.lexerRestarts
