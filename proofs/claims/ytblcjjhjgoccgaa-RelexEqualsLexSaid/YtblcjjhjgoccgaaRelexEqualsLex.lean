/-
  RelexEqualsLex, for every input: the law returns true and leaves its arguments as they read. No condition.
-/
import Derived.Test.YtblcjjhjgoccgaaXp
import Derived.Test.YtblcjjhjgoccgaaXo
set_option linter.unusedSimpArgs false
set_option linter.unusedVariables false
namespace Go.Proofs.Ytblcjjhjgoccgaa.relexEqualsLex
open Go.ChangeShapes Go.WideShapes Go.ChangeAt Go.RowKit Go.Frame
open Go.ChangeMaps (open_string shut_string)
open Lx
attribute [local go_sem] eq_chg eq_tok
set_option maxRecDepth 100000 in
set_option maxHeartbeats 4000000 in
theorem walk (D : Df) (a1 : Option Addr) (n1 c1 : Nat) (a2 : Option Addr) (n2 c2 : Nat) (a3 : Option Addr) (n3 c3 : Nat) (s : ByteArray) (E : List Te.Ed) (ae : Option Addr) (ne ce : Nat) (w : World) (hD : DA w D a1 n1 a2 n2 a3 n3) (hs0 : s.size ≤ 140737488351232) (hE : QRow w ae ne E) (hne : ne ≤ 140737488355328) (hIn : ∀ e ∈ E, In e) :
    Calls Try.prog 4 #[.agg #[.slice a1 n1 c1, .slice a2 n2 c2, .slice a3 n3 c3], .string s, .slice ae ne ce] w fun e w' => e = .returned (.bool true) ∧ Below w.heap.size w w' := by
  obtain ⟨W, hW⟩ : ∃ W, W = w.alloc (.cells #[.slice a1 n1 c1, .slice a2 n2 c2, .slice a3 n3 c3] 25) := ⟨_, rfl⟩
  have x1 := alloc_new w (.cells #[.slice a1 n1 c1, .slice a2 n2 c2, .slice a3 n3 c3] 25)
  have bW := bel1 w (.cells #[.slice a1 n1 c1, .slice a2 n2 c2, .slice a3 n3 c3] 25)
  rw [← hW] at x1 bW
  have X := hid (And.intro x1 bW)
  have CM := hid (fun V (hV : Below w.heap.size w V) => show Calls Try.prog 15 #[.agg #[.slice a1 n1 c1, .slice a2 n2 c2, .slice a3 n3 c3], .int .i64 40, .int .i64 20] V fun e w' => e = .returned (.bool (sm D 40 20)) ∧ Below V.heap.size V w' from Small_any V D a1 n1 c1 a2 n2 c2 a3 n3 c3 (hD.below hV) 40 20)
  have CA := hid (fun V => awake_any V)
  have HI := hid hD
  have HE := hid (And.intro hE hIn)
  obtain ⟨y, hy⟩ : ∃ y, y = sm D 40 20 := ⟨_, rfl⟩
  rw [← hy] at CM
  have HY := hid hy
  obtain ⟨d0, d1, d2⟩ := cells3 x1
  clear hD hy x1 bW hE hIn
  go_enter Try.func4, Try.ntmps4
  go_upto_region 1 with fail
  rw [← hW]
  clear hW
  go_wp2_with fail
  refine (CM.out W X.out.2).mono ?_
  rintro e W1 ⟨rfl, b1⟩
  have X := hid (And.intro ((b1.block _ (heap_lt X.out.1)).trans X.out.1) (X.out.2.trans (b1.mono X.out.2.size)))
  clear b1 CM d0 d1 d2
  have HQUIT : True := trivial
  cases y
  · go_wp2_with fail
    refine (CA.out _).mono ?_
    rintro e W2 ⟨rfl, b2⟩
    have X2 := hid (X.out.2.trans (b2.mono X.out.2.size))
    clear b2
    go_wp2
    go_ret
    exact ⟨rfl, X2.out⟩
  · obtain ⟨n, k, hv⟩ := sm_vd HY.out.symm
    have HV := hid hv
    clear hv
    by_cases hs1 : s.size ≤ 80
    rotate_left
    · have hs2 : (80 : Int) < (s.size : Int) := by omega
      go_wp2_with fail
      refine (CA.out _).mono ?_
      rintro e W2 ⟨rfl, b2⟩
      have X2 := hid (X.out.2.trans (b2.mono X.out.2.size))
      clear b2
      go_wp2
      go_ret
      exact ⟨rfl, X2.out⟩
    have hs2 : ¬ (80 : Int) < (s.size : Int) := by omega
    by_cases hn1 : ne ≤ 12
    rotate_left
    · have hn2 : (12 : Int) < (ne : Int) := by omega
      go_wp2_with fail
      refine (CA.out _).mono ?_
      rintro e W2 ⟨rfl, b2⟩
      have X2 := hid (X.out.2.trans (b2.mono X.out.2.size))
      clear b2
      go_wp2
      go_ret
      exact ⟨rfl, X2.out⟩
    have hn2 : ¬ (12 : Int) < (ne : Int) := by omega
    obtain ⟨d0, d1, d2⟩ := cells3 X.out.1
    have C1 := hid (show Calls Try.prog 11 #[.agg #[.slice a1 n1 c1, .slice a2 n2 c2, .slice a3 n3 c3], .string s] W1 fun e w' => (∃ p c, e = .returned (.slice p (lexT D s).length c) ∧ TRow w' p (lexT D s).length (lexT D s) ∧ (lexT D s).length ≤ c) ∧ Below W1.heap.size W1 w' from RLex_any W1 D n k HV.out a1 n1 c1 a2 n2 c2 a3 n3 c3 (HI.out.below X.out.2) s (by omega))
    go_wp2_with fail
    refine C1.out.mono ?_
    rintro e W2 ⟨⟨ps, cs, rfl, hr, hpc⟩, b2⟩
    have X := hid (And.intro ((b2.block _ (heap_lt X.out.1)).trans X.out.1) (X.out.2.trans (b2.mono X.out.2.size)))
    have R := hid (And.intro hr hpc)
    clear hr hpc b2 C1 d0 d1 d2
    go_wp2_with fail
    go_loopg [1, 7, 8] ne (fun kk s1 s7 s8 wr => ∃ (i : Nat) (q : ByteArray) (p : Option Addr) (c : Nat), s1 = .string q ∧ s7 = .slice p (lexT D q).length c ∧ s8 = .int .i64 (i : Int) ∧ i + kk = ne ∧ q.size ≤ 120 ∧ TRow wr p (lexT D q).length (lexT D q) ∧ (lexT D q).length ≤ c ∧ wr.heap[w.heap.size]? = some (.cells #[.slice a1 n1 c1, .slice a2 n2 c2, .slice a3 n3 c3] 25 (0, 0)) ∧ Below w.heap.size w wr)
    case atStart => exact ⟨0, s, ps, cs, rfl, rfl, rfl, by omega, by omega, R.out.1, R.out.2, X.out.1, X.out.2⟩
    case round =>
      obtain ⟨i, q, p, c, rfl, rfl, rfl, hk, hqs, hrow, hpc, hx, hb⟩ := hrel
      have X := hid (And.intro hx hb)
      obtain ⟨d0, d1, d2⟩ := cells3 hx
      obtain ⟨L, hL⟩ : ∃ L, L = lexT D q := ⟨_, rfl⟩
      obtain ⟨lL, hlL⟩ : ∃ lL, lL = L.length := ⟨_, rfl⟩
      have hlb : lL ≤ 120 := by rw [hlL, hL]; exact Nat.le_trans (lexT_len _ _) hqs
      rw [← hL, ← hlL] at hrow hpc ⊢
      have R := hid (And.intro hrow hpc)
      have HL := hid (And.intro hL hlL)
      clear hx hb hrow hpc hL hlL
      by_cases hlt : i < ne
      · have hlt' : (i : Int) < (ne : Int) := by omega
        have hi0 : (0 : Int) ≤ (i : Int) := by omega
        have hi1 : IntKind.i64.wrap ((i : Int) + 1) = (i : Int) + 1 := wrapIn (by omega) (by omega)
        obtain ⟨be, oe, ⟨at_, del, ins⟩, rfl, hbe, hee, y0, y1, y2⟩ := qrow_at (HE.out.1.below X.out.2) hlt
        obtain ⟨hi1', hi2', hi3', hi4', hi5'⟩ := HE.out.2 _ (List.mem_of_getElem? hee)
        simp only at hi1' hi2' hi3' hi4' hi5' y0 y1 y2
        have hsum : IntKind.i64.wrap ((q.size : Int) + (ins.size : Int)) = (q.size : Int) + (ins.size : Int) := wrapIn (by omega) (by omega)
        by_cases hlen : q.size + ins.size ≤ 120
        rotate_left
        · have hlen' : (120 : Int) < (q.size : Int) + (ins.size : Int) := by omega
          clear hi1' hi2' hi3' hi4' hi5' hee
          go_wp2_with fail
          refine (CA.out _).mono ?_
          rintro e W2 ⟨rfl, b2⟩
          have X2 := hid (X.out.2.trans (b2.mono X.out.2.size))
          clear b2
          go_wp2
          go_ret
          exact ⟨rfl, X2.out⟩
        have hlen' : ¬ (120 : Int) < (q.size : Int) + (ins.size : Int) := by omega
        obtain ⟨tt, er, lM, M, cA, cB, cC, hRP, hUP, hcase⟩ : ∃ (tt : ByteArray) (er : Int) (lM : Nat) (M : List TQ) (cA cB cC : Int),
            (∀ V, Calls Try.prog 16 #[.string q, .agg #[.int .i64 at_, .int .i64 del, .string ins]] V fun e w' => e = .returned (.tuple #[.string tt, .int .i64 er]) ∧ Below V.heap.size V w') ∧
            (∀ V, Below wr.heap.size wr V → Calls Try.prog 12 #[.agg #[.slice a1 n1 c1, .slice a2 n2 c2, .slice a3 n3 c3], .slice p lL c, .agg #[.int .i64 at_, .int .i64 del, .string ins]] V fun e w' => (∃ pa pc, e = .returned (.tuple #[.slice pa lM pc, .agg #[.int .i64 cA, .int .i64 cB, .int .i64 cC], .int .i64 er]) ∧ TRow w' pa lM M ∧ lM ≤ pc) ∧ Below V.heap.size V w') ∧
            ((er = 0 ∧ M = lexT D tt ∧ lM = M.length ∧ tt.size ≤ 120) ∨ er = 2) := by
          have hDA : ∀ V, Below wr.heap.size wr V → DA V D a1 n1 a2 n2 a3 n3 := fun V hV => HI.out.below (X.out.2.trans (hV.mono X.out.2.size))
          by_cases hfit : Te.Fit q.size (at_, del, ins)
          · obtain ⟨x, yv, t', he, hl⟩ := hfit.nat
            simp only [Prod.mk.injEq] at he
            obtain ⟨rfl, rfl, rfl⟩ := he
            refine ⟨nt q x yv ins, 0, (lexT D (nt q x yv ins)).length, lexT D (nt q x yv ins), (uM D q x : Int), ((uR D q x yv ins).2 : Int) - (uM D q x : Int), ((uR D q x yv ins).1 : Int), fun V => ?_, fun V hV => ?_, .inl ⟨rfl, rfl, rfl, ?_⟩⟩
            · have := Replace_any q ins (x : Int) (yv : Int) V (by omega) (by omega) (by omega)
              rw [apv_yes hfit] at this
              exact this
            · exact Update_yes V D n k HV.out a1 n1 c1 a2 n2 c2 a3 n3 c3 (hDA V hV) q (by omega) p lL c (by rw [← HL.out.1]; exact R.out.1.below hV) R.out.2 x yv ins (by omega) hl
            · have := nt_size (ins := ins) hl
              omega
          · refine ⟨.empty, 2, 0, [], 0, 0, 0, fun V => ?_, fun V hV => ?_, .inr rfl⟩
            · have := Replace_any q ins at_ del V (by omega) (by omega) (by omega)
              rw [apv_no hfit] at this
              exact this
            · refine (Update_no V D n k HV.out a1 n1 c1 a2 n2 c2 a3 n3 c3 (hDA V hV) q (by omega) p lL c (by rw [← HL.out.1]; exact R.out.1.below hV) at_ del ins (by omega) (by omega) hfit).mono ?_
              rintro e w' ⟨rfl, hb⟩
              exact ⟨⟨none, 0, rfl, ⟨rfl, .inl rfl⟩, Nat.le_refl _⟩, hb⟩
        have CR := hid hRP
        have HC := hid hcase
        clear hRP hcase hi1' hi2' hi3' hi4' hi5' hee
        go_wp2_with fail
        refine (CR.out _).mono ?_
        rintro e V ⟨rfl, b2⟩
        have X := hid (And.intro ((b2.block _ (heap_lt X.out.1)).trans X.out.1) (X.out.2.trans (b2.mono X.out.2.size)))
        have CU2 := hid (fun V9 (hV9 : Below V.heap.size V V9) => hUP V9 (b2.trans (hV9.mono b2.size)))
        have y0 := (b2.cell (p := ⟨be, _, none⟩) (Nat.lt_of_lt_of_le hbe (Nat.le_refl _))).trans y0
        have y1 := (b2.cell (p := ⟨be, _, none⟩) (Nat.lt_of_lt_of_le hbe (Nat.le_refl _))).trans y1
        have y2 := (b2.cell (p := ⟨be, _, none⟩) (Nat.lt_of_lt_of_le hbe (Nat.le_refl _))).trans y2
        have HYY := hid (And.intro y0 (And.intro y1 (And.intro y2 (Nat.lt_of_lt_of_le hbe b2.size))))
        have R := hid (And.intro (R.out.1.below b2) R.out.2)
        clear hUP b2 d0 d1 d2 y0 y1 y2 CR
        go_upto_region 10 with fail
        refine region_invB (fun b a' w' => ∃ (v58 v59 v60 v61 v62 v63 v64 v57 v65 v66 v67 v12 v11 v13 : Value), a' = { tmps := #[.agg #[.slice a1 n1 c1, .slice a2 n2 c2, .slice a3 n3 c3], .string q, .slice (some ⟨be, oe, none⟩) ne ce, .pointer (some ⟨w.heap.size, 0, none⟩), undef, undef, u6, .slice p lL c, .int .i64 (i : Int), .string tt, .int .i64 er, v11, v12, v13, .agg #[.slice a1 n1 c1, .slice a2 n2 c2, .slice a3 n3 c3], .bool true, .bool false, .bool false, .string s, .int .i64 (s.size : Int), .bool (decide (80 < (s.size : Int))), .bool (decide (80 < (s.size : Int))), .bool (decide (80 < (s.size : Int))), .slice (some ⟨be, oe, none⟩) ne ce, .int .i64 (ne : Int), .bool (decide (12 < (ne : Int))), .bool (decide (80 < (s.size : Int)) || decide (12 < (ne : Int))), undef, .agg #[.slice a1 n1 c1, .slice a2 n2 c2, .slice a3 n3 c3], .string s, .slice ps (lexT D s).length cs, .int .i64 (i : Int), .slice (some ⟨be, oe, none⟩) ne ce, .int .i64 (ne : Int), .bool true, u35, u36, .string q, .int .i64 (q.size : Int), .slice (some ⟨be, oe, none⟩) ne ce, .int .i64 (i : Int), .pointer (some ⟨be, oe + i * 3, none⟩), .pointer (some ⟨be, oe + i * 3 + 2, none⟩), .string ins, .int .i64 (ins.size : Int), .int .i64 ((q.size : Int) + (ins.size : Int)), .bool false, u47, .tuple #[.string tt, .int .i64 er], .string q, .slice (some ⟨be, oe, none⟩) ne ce, .int .i64 (i : Int), .pointer (some ⟨be, oe + i * 3, none⟩), .agg #[.int .i64 at_, .int .i64 del, .string ins], .tuple #[.string tt, .int .i64 er], .string tt, .int .i64 er, v57, v58, v59, v60, v61, v62, v63, v64, v65, v66, v67, u68, u69, u70, u71, u72, u73, u74, u75, u76, u77, u78, u79, u80, undef], defers := [] } ∧ Hid (((((Below V.heap.size V w') ∧ (((b 0 = true → v58 = .agg #[.slice a1 n1 c1, .slice a2 n2 c2, .slice a3 n3 c3])) ∧ ((b 1 = true → v59 = .slice p lL c)))) ∧ (((b 2 = true → v60 = .slice (some ⟨be, oe, none⟩) ne ce)) ∧ (((b 3 = true → v61 = .int .i64 (i : Int))) ∧ ((b 4 = true → v62 = .pointer (some ⟨be, oe + i * 3, none⟩)))))) ∧ ((((b 5 = true → v63 = .agg #[.int .i64 at_, .int .i64 del, .string ins])) ∧ (((b 6 = true → ∃ pa pc, v64 = .tuple #[.slice pa lM pc, .agg #[.int .i64 cA, .int .i64 cB, .int .i64 cC], .int .i64 er] ∧ TRow w' pa lM M ∧ lM ≤ pc)) ∧ ((b 7 = true → v57 = v64)))) ∧ ((((b 8 = true → v64 = .tuple #[v65, .agg #[.int .i64 cA, .int .i64 cB, .int .i64 cC], .int .i64 er])) ∧ ((b 9 = true → v66 = .agg #[.int .i64 cA, .int .i64 cB, .int .i64 cC]))) ∧ (((b 10 = true → v67 = .int .i64 er)) ∧ ((b 11 = true → ∃ T : Nat, v12 = .pointer (some ⟨T, 0, none⟩) ∧ V.heap.size ≤ T ∧ (b 13 = false → w'.heap[T]? = some (.cells #[.int .i64 0, .int .i64 0, .int .i64 0] 35 (0, 0))) ∧ (b 13 = true → w'.heap[T]? = some (.cells #[.int .i64 cA, .int .i64 cB, .int .i64 cC] 35 (0, 0))))))))) ∧ (((((b 12 = true → v11 = v65)) ∧ (((b 14 = true → v13 = v67)) ∧ ((b 6 = true → b 0 = true)))) ∧ (((b 6 = true → b 1 = true)) ∧ (((b 6 = true → b 5 = true)) ∧ ((b 7 = true → b 6 = true))))) ∧ ((((b 8 = true → b 7 = true)) ∧ (((b 9 = true → b 7 = true)) ∧ ((b 10 = true → b 7 = true)))) ∧ ((((b 12 = true → b 8 = true)) ∧ ((b 13 = true → b 11 = true))) ∧ (((b 13 = true → b 9 = true)) ∧ ((b 14 = true → b 10 = true)))))))) (by kernel_rfl) (bindB_of (by kernel_rfl)) ?step10 ?done10 ?init10
        case step10 =>
          rintro b a' w' i o ho ⟨v58, v59, v60, v61, v62, v63, v64, v57, v65, v66, v67, v12, v11, v13, rfl, F9⟩ hbi hd K hK
          have hlt : i < 15 := by have := (Array.getElem?_eq_some_iff.1 ho).1; simpa using this
          have dep : ∀ k, (o.after.any fun e => Region.binds .any e && e.on == k) = true → b k = true := fun k hk => by
            obtain ⟨e, he, h⟩ := Array.any_eq_true'.1 hk
            simp only [Bool.and_eq_true, beq_iff_eq] at h
            rw [← h.2]; exact hd e he h.1
          clear hd
          have hi : i = 0 ∨ i = 1 ∨ i = 2 ∨ i = 3 ∨ i = 4 ∨ i = 5 ∨ i = 6 ∨ i = 7 ∨ i = 8 ∨ i = 9 ∨ i = 10 ∨ i = 11 ∨ i = 12 ∨ i = 13 ∨ i = 14 := by omega
          clear hlt
          rcases hi with rfl | rfl | rfl | rfl | rfl | rfl | rfl | rfl | rfl | rfl | rfl | rfl | rfl | rfl | rfl
          · simp only [List.getElem?_toArray, List.getElem?_cons_zero, List.getElem?_cons_succ, Option.some.injEq] at ho
            subst ho
            have hk := F9.out.1.1.1.1
            have h9 := F9.out.1.2.2.1.2
            have h11 := F9.out.1.2.2.2.2
            obtain ⟨d0, d1, d2⟩ := cells3 ((hk.block _ (heap_lt X.out.1)).trans X.out.1)
            go_simp
            refine hK.out _ _ ⟨_, _, _, _, _, _, _, _, _, _, _, _, _, _, rfl, hid ⟨⟨⟨⟨(hk), ⟨(fun _ => rfl), (fun h => F9.out.1.1.1.2.2 (up_ne rfl h))⟩⟩, ⟨(fun h => F9.out.1.1.2.1 (up_ne rfl h)), ⟨(fun h => F9.out.1.1.2.2.1 (up_ne rfl h)), (fun h => F9.out.1.1.2.2.2 (up_ne rfl h))⟩⟩⟩, ⟨⟨(fun h => F9.out.1.2.1.1 (up_ne rfl h)), ⟨(fun h => F9.out.1.2.1.2.1 (up_ne rfl h)), (fun h => F9.out.1.2.1.2.2 (up_ne rfl h))⟩⟩, ⟨⟨(fun h => F9.out.1.2.2.1.1 (up_ne rfl h)), (fun h => F9.out.1.2.2.1.2 (up_ne rfl h))⟩, ⟨(fun h => F9.out.1.2.2.2.1 (up_ne rfl h)), (fun h => (h11 (by simpa using h)).imp fun T e => ⟨e.1, e.2.1, fun h9 => e.2.2.1 (by simpa using h9), fun h9 => e.2.2.2 (by simpa using h9)⟩)⟩⟩⟩⟩, ⟨⟨⟨(fun h => F9.out.2.1.1.1 (up_ne rfl h)), ⟨(fun h => F9.out.2.1.1.2.1 (up_ne rfl h)), (fun h => up_of (F9.out.2.1.1.2.2 (up_ne rfl h)))⟩⟩, ⟨(fun h => up_of (F9.out.2.1.2.1 (up_ne rfl h))), ⟨(fun h => up_of (F9.out.2.1.2.2.1 (up_ne rfl h))), (fun h => up_of (F9.out.2.1.2.2.2 (up_ne rfl h)))⟩⟩⟩, ⟨⟨(fun h => up_of (F9.out.2.2.1.1 (up_ne rfl h))), ⟨(fun h => up_of (F9.out.2.2.1.2.1 (up_ne rfl h))), (fun h => up_of (F9.out.2.2.1.2.2 (up_ne rfl h)))⟩⟩, ⟨⟨(fun h => up_of (F9.out.2.2.2.1.1 (up_ne rfl h))), (fun h => up_of (F9.out.2.2.2.1.2 (up_ne rfl h)))⟩, ⟨(fun h => up_of (F9.out.2.2.2.2.1 (up_ne rfl h))), (fun h => up_of (F9.out.2.2.2.2.2 (up_ne rfl h)))⟩⟩⟩⟩⟩⟩
          · simp only [List.getElem?_toArray, List.getElem?_cons_zero, List.getElem?_cons_succ, Option.some.injEq] at ho
            subst ho
            have hk := F9.out.1.1.1.1
            have h9 := F9.out.1.2.2.1.2
            have h11 := F9.out.1.2.2.2.2
            go_simp
            refine hK.out _ _ ⟨_, _, _, _, _, _, _, _, _, _, _, _, _, _, rfl, hid ⟨⟨⟨⟨(hk), ⟨(fun h => F9.out.1.1.1.2.1 (up_ne rfl h)), (fun _ => rfl)⟩⟩, ⟨(fun h => F9.out.1.1.2.1 (up_ne rfl h)), ⟨(fun h => F9.out.1.1.2.2.1 (up_ne rfl h)), (fun h => F9.out.1.1.2.2.2 (up_ne rfl h))⟩⟩⟩, ⟨⟨(fun h => F9.out.1.2.1.1 (up_ne rfl h)), ⟨(fun h => F9.out.1.2.1.2.1 (up_ne rfl h)), (fun h => F9.out.1.2.1.2.2 (up_ne rfl h))⟩⟩, ⟨⟨(fun h => F9.out.1.2.2.1.1 (up_ne rfl h)), (fun h => F9.out.1.2.2.1.2 (up_ne rfl h))⟩, ⟨(fun h => F9.out.1.2.2.2.1 (up_ne rfl h)), (fun h => (h11 (by simpa using h)).imp fun T e => ⟨e.1, e.2.1, fun h9 => e.2.2.1 (by simpa using h9), fun h9 => e.2.2.2 (by simpa using h9)⟩)⟩⟩⟩⟩, ⟨⟨⟨(fun h => F9.out.2.1.1.1 (up_ne rfl h)), ⟨(fun h => F9.out.2.1.1.2.1 (up_ne rfl h)), (fun h => up_of (F9.out.2.1.1.2.2 (up_ne rfl h)))⟩⟩, ⟨(fun h => up_of (F9.out.2.1.2.1 (up_ne rfl h))), ⟨(fun h => up_of (F9.out.2.1.2.2.1 (up_ne rfl h))), (fun h => up_of (F9.out.2.1.2.2.2 (up_ne rfl h)))⟩⟩⟩, ⟨⟨(fun h => up_of (F9.out.2.2.1.1 (up_ne rfl h))), ⟨(fun h => up_of (F9.out.2.2.1.2.1 (up_ne rfl h))), (fun h => up_of (F9.out.2.2.1.2.2 (up_ne rfl h)))⟩⟩, ⟨⟨(fun h => up_of (F9.out.2.2.2.1.1 (up_ne rfl h))), (fun h => up_of (F9.out.2.2.2.1.2 (up_ne rfl h)))⟩, ⟨(fun h => up_of (F9.out.2.2.2.2.1 (up_ne rfl h))), (fun h => up_of (F9.out.2.2.2.2.2 (up_ne rfl h)))⟩⟩⟩⟩⟩⟩
          · simp only [List.getElem?_toArray, List.getElem?_cons_zero, List.getElem?_cons_succ, Option.some.injEq] at ho
            subst ho
            have hk := F9.out.1.1.1.1
            have h9 := F9.out.1.2.2.1.2
            have h11 := F9.out.1.2.2.2.2
            go_simp
            refine hK.out _ _ ⟨_, _, _, _, _, _, _, _, _, _, _, _, _, _, rfl, hid ⟨⟨⟨⟨(hk), ⟨(fun h => F9.out.1.1.1.2.1 (up_ne rfl h)), (fun h => F9.out.1.1.1.2.2 (up_ne rfl h))⟩⟩, ⟨(fun _ => rfl), ⟨(fun h => F9.out.1.1.2.2.1 (up_ne rfl h)), (fun h => F9.out.1.1.2.2.2 (up_ne rfl h))⟩⟩⟩, ⟨⟨(fun h => F9.out.1.2.1.1 (up_ne rfl h)), ⟨(fun h => F9.out.1.2.1.2.1 (up_ne rfl h)), (fun h => F9.out.1.2.1.2.2 (up_ne rfl h))⟩⟩, ⟨⟨(fun h => F9.out.1.2.2.1.1 (up_ne rfl h)), (fun h => F9.out.1.2.2.1.2 (up_ne rfl h))⟩, ⟨(fun h => F9.out.1.2.2.2.1 (up_ne rfl h)), (fun h => (h11 (by simpa using h)).imp fun T e => ⟨e.1, e.2.1, fun h9 => e.2.2.1 (by simpa using h9), fun h9 => e.2.2.2 (by simpa using h9)⟩)⟩⟩⟩⟩, ⟨⟨⟨(fun h => F9.out.2.1.1.1 (up_ne rfl h)), ⟨(fun h => F9.out.2.1.1.2.1 (up_ne rfl h)), (fun h => up_of (F9.out.2.1.1.2.2 (up_ne rfl h)))⟩⟩, ⟨(fun h => up_of (F9.out.2.1.2.1 (up_ne rfl h))), ⟨(fun h => up_of (F9.out.2.1.2.2.1 (up_ne rfl h))), (fun h => up_of (F9.out.2.1.2.2.2 (up_ne rfl h)))⟩⟩⟩, ⟨⟨(fun h => up_of (F9.out.2.2.1.1 (up_ne rfl h))), ⟨(fun h => up_of (F9.out.2.2.1.2.1 (up_ne rfl h))), (fun h => up_of (F9.out.2.2.1.2.2 (up_ne rfl h)))⟩⟩, ⟨⟨(fun h => up_of (F9.out.2.2.2.1.1 (up_ne rfl h))), (fun h => up_of (F9.out.2.2.2.1.2 (up_ne rfl h)))⟩, ⟨(fun h => up_of (F9.out.2.2.2.2.1 (up_ne rfl h))), (fun h => up_of (F9.out.2.2.2.2.2 (up_ne rfl h)))⟩⟩⟩⟩⟩⟩
          · simp only [List.getElem?_toArray, List.getElem?_cons_zero, List.getElem?_cons_succ, Option.some.injEq] at ho
            subst ho
            have hk := F9.out.1.1.1.1
            have h9 := F9.out.1.2.2.1.2
            have h11 := F9.out.1.2.2.2.2
            go_simp
            refine hK.out _ _ ⟨_, _, _, _, _, _, _, _, _, _, _, _, _, _, rfl, hid ⟨⟨⟨⟨(hk), ⟨(fun h => F9.out.1.1.1.2.1 (up_ne rfl h)), (fun h => F9.out.1.1.1.2.2 (up_ne rfl h))⟩⟩, ⟨(fun h => F9.out.1.1.2.1 (up_ne rfl h)), ⟨(fun _ => rfl), (fun h => F9.out.1.1.2.2.2 (up_ne rfl h))⟩⟩⟩, ⟨⟨(fun h => F9.out.1.2.1.1 (up_ne rfl h)), ⟨(fun h => F9.out.1.2.1.2.1 (up_ne rfl h)), (fun h => F9.out.1.2.1.2.2 (up_ne rfl h))⟩⟩, ⟨⟨(fun h => F9.out.1.2.2.1.1 (up_ne rfl h)), (fun h => F9.out.1.2.2.1.2 (up_ne rfl h))⟩, ⟨(fun h => F9.out.1.2.2.2.1 (up_ne rfl h)), (fun h => (h11 (by simpa using h)).imp fun T e => ⟨e.1, e.2.1, fun h9 => e.2.2.1 (by simpa using h9), fun h9 => e.2.2.2 (by simpa using h9)⟩)⟩⟩⟩⟩, ⟨⟨⟨(fun h => F9.out.2.1.1.1 (up_ne rfl h)), ⟨(fun h => F9.out.2.1.1.2.1 (up_ne rfl h)), (fun h => up_of (F9.out.2.1.1.2.2 (up_ne rfl h)))⟩⟩, ⟨(fun h => up_of (F9.out.2.1.2.1 (up_ne rfl h))), ⟨(fun h => up_of (F9.out.2.1.2.2.1 (up_ne rfl h))), (fun h => up_of (F9.out.2.1.2.2.2 (up_ne rfl h)))⟩⟩⟩, ⟨⟨(fun h => up_of (F9.out.2.2.1.1 (up_ne rfl h))), ⟨(fun h => up_of (F9.out.2.2.1.2.1 (up_ne rfl h))), (fun h => up_of (F9.out.2.2.1.2.2 (up_ne rfl h)))⟩⟩, ⟨⟨(fun h => up_of (F9.out.2.2.2.1.1 (up_ne rfl h))), (fun h => up_of (F9.out.2.2.2.1.2 (up_ne rfl h)))⟩, ⟨(fun h => up_of (F9.out.2.2.2.2.1 (up_ne rfl h))), (fun h => up_of (F9.out.2.2.2.2.2 (up_ne rfl h)))⟩⟩⟩⟩⟩⟩
          · simp only [List.getElem?_toArray, List.getElem?_cons_zero, List.getElem?_cons_succ, Option.some.injEq] at ho
            subst ho
            have hk := F9.out.1.1.1.1
            have h2 := F9.out.1.1.2.1
            have h3 := F9.out.1.1.2.2.1
            have h9 := F9.out.1.2.2.1.2
            have h11 := F9.out.1.2.2.2.2
            have e_2 := dep 2 (by kernel_rfl)
            have e_3 := dep 3 (by kernel_rfl)
            obtain rfl := h2 e_2
            obtain rfl := h3 e_3
            go_simp
            refine hK.out _ _ ⟨_, _, _, _, _, _, _, _, _, _, _, _, _, _, rfl, hid ⟨⟨⟨⟨(hk), ⟨(fun h => F9.out.1.1.1.2.1 (up_ne rfl h)), (fun h => F9.out.1.1.1.2.2 (up_ne rfl h))⟩⟩, ⟨(fun _ => rfl), ⟨(fun _ => rfl), (fun _ => rfl)⟩⟩⟩, ⟨⟨(fun h => F9.out.1.2.1.1 (up_ne rfl h)), ⟨(fun h => F9.out.1.2.1.2.1 (up_ne rfl h)), (fun h => F9.out.1.2.1.2.2 (up_ne rfl h))⟩⟩, ⟨⟨(fun h => F9.out.1.2.2.1.1 (up_ne rfl h)), (fun h => F9.out.1.2.2.1.2 (up_ne rfl h))⟩, ⟨(fun h => F9.out.1.2.2.2.1 (up_ne rfl h)), (fun h => (h11 (by simpa using h)).imp fun T e => ⟨e.1, e.2.1, fun h9 => e.2.2.1 (by simpa using h9), fun h9 => e.2.2.2 (by simpa using h9)⟩)⟩⟩⟩⟩, ⟨⟨⟨(fun h => F9.out.2.1.1.1 (up_ne rfl h)), ⟨(fun h => F9.out.2.1.1.2.1 (up_ne rfl h)), (fun h => up_of (F9.out.2.1.1.2.2 (up_ne rfl h)))⟩⟩, ⟨(fun h => up_of (F9.out.2.1.2.1 (up_ne rfl h))), ⟨(fun h => up_of (F9.out.2.1.2.2.1 (up_ne rfl h))), (fun h => up_of (F9.out.2.1.2.2.2 (up_ne rfl h)))⟩⟩⟩, ⟨⟨(fun h => up_of (F9.out.2.2.1.1 (up_ne rfl h))), ⟨(fun h => up_of (F9.out.2.2.1.2.1 (up_ne rfl h))), (fun h => up_of (F9.out.2.2.1.2.2 (up_ne rfl h)))⟩⟩, ⟨⟨(fun h => up_of (F9.out.2.2.2.1.1 (up_ne rfl h))), (fun h => up_of (F9.out.2.2.2.1.2 (up_ne rfl h)))⟩, ⟨(fun h => up_of (F9.out.2.2.2.2.1 (up_ne rfl h))), (fun h => up_of (F9.out.2.2.2.2.2 (up_ne rfl h)))⟩⟩⟩⟩⟩⟩
          · simp only [List.getElem?_toArray, List.getElem?_cons_zero, List.getElem?_cons_succ, Option.some.injEq] at ho
            subst ho
            have hk := F9.out.1.1.1.1
            have h4 := F9.out.1.1.2.2.2
            have h9 := F9.out.1.2.2.1.2
            have h11 := F9.out.1.2.2.2.2
            have e_4 := dep 4 (by kernel_rfl)
            obtain rfl := h4 e_4
            have y0 := (hk.cell (p := ⟨be, _, none⟩) HYY.out.2.2.2).trans HYY.out.1
            have y1 := (hk.cell (p := ⟨be, _, none⟩) HYY.out.2.2.2).trans HYY.out.2.1
            have y2 := (hk.cell (p := ⟨be, _, none⟩) HYY.out.2.2.2).trans HYY.out.2.2.1
            go_simp
            refine hK.out _ _ ⟨_, _, _, _, _, _, _, _, _, _, _, _, _, _, rfl, hid ⟨⟨⟨⟨(hk), ⟨(fun h => F9.out.1.1.1.2.1 (up_ne rfl h)), (fun h => F9.out.1.1.1.2.2 (up_ne rfl h))⟩⟩, ⟨(fun h => F9.out.1.1.2.1 (up_ne rfl h)), ⟨(fun h => F9.out.1.1.2.2.1 (up_ne rfl h)), (fun _ => rfl)⟩⟩⟩, ⟨⟨(fun _ => rfl), ⟨(fun h => F9.out.1.2.1.2.1 (up_ne rfl h)), (fun h => F9.out.1.2.1.2.2 (up_ne rfl h))⟩⟩, ⟨⟨(fun h => F9.out.1.2.2.1.1 (up_ne rfl h)), (fun h => F9.out.1.2.2.1.2 (up_ne rfl h))⟩, ⟨(fun h => F9.out.1.2.2.2.1 (up_ne rfl h)), (fun h => (h11 (by simpa using h)).imp fun T e => ⟨e.1, e.2.1, fun h9 => e.2.2.1 (by simpa using h9), fun h9 => e.2.2.2 (by simpa using h9)⟩)⟩⟩⟩⟩, ⟨⟨⟨(fun h => F9.out.2.1.1.1 (up_ne rfl h)), ⟨(fun h => F9.out.2.1.1.2.1 (up_ne rfl h)), (fun h => up_of (F9.out.2.1.1.2.2 (up_ne rfl h)))⟩⟩, ⟨(fun h => up_of (F9.out.2.1.2.1 (up_ne rfl h))), ⟨(fun h => up_of (F9.out.2.1.2.2.1 (up_ne rfl h))), (fun h => up_of (F9.out.2.1.2.2.2 (up_ne rfl h)))⟩⟩⟩, ⟨⟨(fun h => up_of (F9.out.2.2.1.1 (up_ne rfl h))), ⟨(fun h => up_of (F9.out.2.2.1.2.1 (up_ne rfl h))), (fun h => up_of (F9.out.2.2.1.2.2 (up_ne rfl h)))⟩⟩, ⟨⟨(fun h => up_of (F9.out.2.2.2.1.1 (up_ne rfl h))), (fun h => up_of (F9.out.2.2.2.1.2 (up_ne rfl h)))⟩, ⟨(fun h => up_of (F9.out.2.2.2.2.1 (up_ne rfl h))), (fun h => up_of (F9.out.2.2.2.2.2 (up_ne rfl h)))⟩⟩⟩⟩⟩⟩
          · simp only [List.getElem?_toArray, List.getElem?_cons_zero, List.getElem?_cons_succ, Option.some.injEq] at ho
            subst ho
            have hk := F9.out.1.1.1.1
            have h0 := F9.out.1.1.1.2.1
            have h1 := F9.out.1.1.1.2.2
            have h5 := F9.out.1.2.1.1
            have h9 := F9.out.1.2.2.1.2
            have h11 := F9.out.1.2.2.2.2
            have q7_6 := F9.out.2.1.2.2.2
            have q8_7 := F9.out.2.2.1.1
            have e_0 := dep 0 (by kernel_rfl)
            have e_1 := dep 1 (by kernel_rfl)
            have e_5 := dep 5 (by kernel_rfl)
            obtain rfl := h0 e_0
            obtain rfl := h1 e_1
            obtain rfl := h5 e_5
            have n7 : b 7 = false := by
              cases hb : b 7
              · rfl
              · have := q7_6 hb; rw [hbi] at this; cases this
            have n8 : b 8 = false := by
              cases hb : b 8
              · rfl
              · have := q7_6 (q8_7 hb); rw [hbi] at this; cases this
            have CC := hid (CU2.out w' hk)
            go_simp
            refine CC.out.mono ?_
            rintro e W5 ⟨⟨pa, pc, rfl, r5, z5⟩, b5⟩
            refine hK.out _ _ ⟨_, _, _, _, _, _, _, _, _, _, _, _, _, _, rfl, hid ⟨⟨⟨⟨(hk.trans (b5.mono hk.size)), ⟨(fun _ => rfl), (fun _ => rfl)⟩⟩, ⟨(fun h => F9.out.1.1.2.1 (up_ne rfl h)), ⟨(fun h => F9.out.1.1.2.2.1 (up_ne rfl h)), (fun h => F9.out.1.1.2.2.2 (up_ne rfl h))⟩⟩⟩, ⟨⟨(fun _ => rfl), ⟨(fun _ => ⟨pa, pc, rfl, r5, z5⟩), (fun h => absurd h (by simp [n7]))⟩⟩, ⟨⟨(fun h => absurd h (by simp [n8])), (fun h => F9.out.1.2.2.1.2 (up_ne rfl h))⟩, ⟨(fun h => F9.out.1.2.2.2.1 (up_ne rfl h)), (fun h => by obtain ⟨T, e, t1, t2, t3⟩ := (h11 (up_ne rfl h)); exact ⟨T, e, t1, fun h9 => (b5.block _ (heap_lt (t2 (by simpa using h9)))).trans (t2 (by simpa using h9)), fun h9 => (b5.block _ (heap_lt (t3 (by simpa using h9)))).trans (t3 (by simpa using h9))⟩)⟩⟩⟩⟩, ⟨⟨⟨(fun h => F9.out.2.1.1.1 (up_ne rfl h)), ⟨(fun h => F9.out.2.1.1.2.1 (up_ne rfl h)), (fun _ => up_of e_0)⟩⟩, ⟨(fun _ => up_of e_1), ⟨(fun _ => up_of e_5), (fun h => up_of (F9.out.2.1.2.2.2 (up_ne rfl h)))⟩⟩⟩, ⟨⟨(fun h => up_of (F9.out.2.2.1.1 (up_ne rfl h))), ⟨(fun h => up_of (F9.out.2.2.1.2.1 (up_ne rfl h))), (fun h => up_of (F9.out.2.2.1.2.2 (up_ne rfl h)))⟩⟩, ⟨⟨(fun h => up_of (F9.out.2.2.2.1.1 (up_ne rfl h))), (fun h => up_of (F9.out.2.2.2.1.2 (up_ne rfl h)))⟩, ⟨(fun h => up_of (F9.out.2.2.2.2.1 (up_ne rfl h))), (fun h => up_of (F9.out.2.2.2.2.2 (up_ne rfl h)))⟩⟩⟩⟩⟩⟩
          · simp only [List.getElem?_toArray, List.getElem?_cons_zero, List.getElem?_cons_succ, Option.some.injEq] at ho
            subst ho
            have hk := F9.out.1.1.1.1
            have h0 := F9.out.1.1.1.2.1
            have h1 := F9.out.1.1.1.2.2
            have h5 := F9.out.1.2.1.1
            have h6 := F9.out.1.2.1.2.1
            have h9 := F9.out.1.2.2.1.2
            have h11 := F9.out.1.2.2.2.2
            have q6_0 := F9.out.2.1.1.2.2
            have q6_1 := F9.out.2.1.2.1
            have q6_5 := F9.out.2.1.2.2.1
            have e_6 := dep 6 (by kernel_rfl)
            have e_0 := q6_0 e_6
            have e_1 := q6_1 e_6
            have e_5 := q6_5 e_6
            obtain rfl := h0 e_0
            obtain rfl := h1 e_1
            obtain rfl := h5 e_5
            obtain ⟨pa, pc, rfl, r5, z5⟩ := h6 e_6
            go_simp
            refine hK.out _ _ ⟨_, _, _, _, _, _, _, _, _, _, _, _, _, _, rfl, hid ⟨⟨⟨⟨(hk), ⟨(fun _ => rfl), (fun _ => rfl)⟩⟩, ⟨(fun h => F9.out.1.1.2.1 (up_ne rfl h)), ⟨(fun h => F9.out.1.1.2.2.1 (up_ne rfl h)), (fun h => F9.out.1.1.2.2.2 (up_ne rfl h))⟩⟩⟩, ⟨⟨(fun _ => rfl), ⟨(fun _ => ⟨pa, pc, rfl, r5, z5⟩), (fun _ => rfl)⟩⟩, ⟨⟨(fun h => F9.out.1.2.2.1.1 (up_ne rfl h)), (fun h => F9.out.1.2.2.1.2 (up_ne rfl h))⟩, ⟨(fun h => F9.out.1.2.2.2.1 (up_ne rfl h)), (fun h => (h11 (by simpa using h)).imp fun T e => ⟨e.1, e.2.1, fun h9 => e.2.2.1 (by simpa using h9), fun h9 => e.2.2.2 (by simpa using h9)⟩)⟩⟩⟩⟩, ⟨⟨⟨(fun h => F9.out.2.1.1.1 (up_ne rfl h)), ⟨(fun h => F9.out.2.1.1.2.1 (up_ne rfl h)), (fun h => up_of (F9.out.2.1.1.2.2 (up_ne rfl h)))⟩⟩, ⟨(fun h => up_of (F9.out.2.1.2.1 (up_ne rfl h))), ⟨(fun h => up_of (F9.out.2.1.2.2.1 (up_ne rfl h))), (fun _ => up_of e_6)⟩⟩⟩, ⟨⟨(fun h => up_of (F9.out.2.2.1.1 (up_ne rfl h))), ⟨(fun h => up_of (F9.out.2.2.1.2.1 (up_ne rfl h))), (fun h => up_of (F9.out.2.2.1.2.2 (up_ne rfl h)))⟩⟩, ⟨⟨(fun h => up_of (F9.out.2.2.2.1.1 (up_ne rfl h))), (fun h => up_of (F9.out.2.2.2.1.2 (up_ne rfl h)))⟩, ⟨(fun h => up_of (F9.out.2.2.2.2.1 (up_ne rfl h))), (fun h => up_of (F9.out.2.2.2.2.2 (up_ne rfl h)))⟩⟩⟩⟩⟩⟩
          · simp only [List.getElem?_toArray, List.getElem?_cons_zero, List.getElem?_cons_succ, Option.some.injEq] at ho
            subst ho
            have hk := F9.out.1.1.1.1
            have h0 := F9.out.1.1.1.2.1
            have h1 := F9.out.1.1.1.2.2
            have h5 := F9.out.1.2.1.1
            have h6 := F9.out.1.2.1.2.1
            have h7 := F9.out.1.2.1.2.2
            have h9 := F9.out.1.2.2.1.2
            have h11 := F9.out.1.2.2.2.2
            have q6_0 := F9.out.2.1.1.2.2
            have q6_1 := F9.out.2.1.2.1
            have q6_5 := F9.out.2.1.2.2.1
            have q7_6 := F9.out.2.1.2.2.2
            have q12_8 := F9.out.2.2.2.1.1
            have e_7 := dep 7 (by kernel_rfl)
            have e_6 := q7_6 e_7
            have e_0 := q6_0 e_6
            have e_1 := q6_1 e_6
            have e_5 := q6_5 e_6
            obtain rfl := h0 e_0
            obtain rfl := h1 e_1
            obtain rfl := h5 e_5
            have n12 : b 12 = false := by
              cases hb : b 12
              · rfl
              · have := q12_8 hb; rw [hbi] at this; cases this
            obtain ⟨pa, pc, rfl, r5, z5⟩ := h6 e_6
            obtain rfl := h7 e_7
            go_simp
            refine hK.out _ _ ⟨_, _, _, _, _, _, _, _, _, _, _, _, _, _, rfl, hid ⟨⟨⟨⟨(hk), ⟨(fun _ => rfl), (fun _ => rfl)⟩⟩, ⟨(fun h => F9.out.1.1.2.1 (up_ne rfl h)), ⟨(fun h => F9.out.1.1.2.2.1 (up_ne rfl h)), (fun h => F9.out.1.1.2.2.2 (up_ne rfl h))⟩⟩⟩, ⟨⟨(fun _ => rfl), ⟨(fun _ => ⟨pa, pc, rfl, r5, z5⟩), (fun _ => rfl)⟩⟩, ⟨⟨(fun _ => rfl), (fun h => F9.out.1.2.2.1.2 (up_ne rfl h))⟩, ⟨(fun h => F9.out.1.2.2.2.1 (up_ne rfl h)), (fun h => (h11 (by simpa using h)).imp fun T e => ⟨e.1, e.2.1, fun h9 => e.2.2.1 (by simpa using h9), fun h9 => e.2.2.2 (by simpa using h9)⟩)⟩⟩⟩⟩, ⟨⟨⟨(fun h => absurd h (by simp [n12])), ⟨(fun h => F9.out.2.1.1.2.1 (up_ne rfl h)), (fun h => up_of (F9.out.2.1.1.2.2 (up_ne rfl h)))⟩⟩, ⟨(fun h => up_of (F9.out.2.1.2.1 (up_ne rfl h))), ⟨(fun h => up_of (F9.out.2.1.2.2.1 (up_ne rfl h))), (fun h => up_of (F9.out.2.1.2.2.2 (up_ne rfl h)))⟩⟩⟩, ⟨⟨(fun _ => up_of e_7), ⟨(fun h => up_of (F9.out.2.2.1.2.1 (up_ne rfl h))), (fun h => up_of (F9.out.2.2.1.2.2 (up_ne rfl h)))⟩⟩, ⟨⟨(fun h => up_of (F9.out.2.2.2.1.1 (up_ne rfl h))), (fun h => up_of (F9.out.2.2.2.1.2 (up_ne rfl h)))⟩, ⟨(fun h => up_of (F9.out.2.2.2.2.1 (up_ne rfl h))), (fun h => up_of (F9.out.2.2.2.2.2 (up_ne rfl h)))⟩⟩⟩⟩⟩⟩
          · simp only [List.getElem?_toArray, List.getElem?_cons_zero, List.getElem?_cons_succ, Option.some.injEq] at ho
            subst ho
            have hk := F9.out.1.1.1.1
            have h0 := F9.out.1.1.1.2.1
            have h1 := F9.out.1.1.1.2.2
            have h5 := F9.out.1.2.1.1
            have h6 := F9.out.1.2.1.2.1
            have h7 := F9.out.1.2.1.2.2
            have h9 := F9.out.1.2.2.1.2
            have h11 := F9.out.1.2.2.2.2
            have q6_0 := F9.out.2.1.1.2.2
            have q6_1 := F9.out.2.1.2.1
            have q6_5 := F9.out.2.1.2.2.1
            have q7_6 := F9.out.2.1.2.2.2
            have e_7 := dep 7 (by kernel_rfl)
            have e_6 := q7_6 e_7
            have e_0 := q6_0 e_6
            have e_1 := q6_1 e_6
            have e_5 := q6_5 e_6
            obtain rfl := h0 e_0
            obtain rfl := h1 e_1
            obtain rfl := h5 e_5
            obtain ⟨pa, pc, rfl, r5, z5⟩ := h6 e_6
            obtain rfl := h7 e_7
            go_simp
            refine hK.out _ _ ⟨_, _, _, _, _, _, _, _, _, _, _, _, _, _, rfl, hid ⟨⟨⟨⟨(hk), ⟨(fun _ => rfl), (fun _ => rfl)⟩⟩, ⟨(fun h => F9.out.1.1.2.1 (up_ne rfl h)), ⟨(fun h => F9.out.1.1.2.2.1 (up_ne rfl h)), (fun h => F9.out.1.1.2.2.2 (up_ne rfl h))⟩⟩⟩, ⟨⟨(fun _ => rfl), ⟨(fun _ => ⟨pa, pc, rfl, r5, z5⟩), (fun _ => rfl)⟩⟩, ⟨⟨(fun h => F9.out.1.2.2.1.1 (up_ne rfl h)), (fun _ => rfl)⟩, ⟨(fun h => F9.out.1.2.2.2.1 (up_ne rfl h)), (fun h => (h11 (by simpa using h)).imp fun T e => ⟨e.1, e.2.1, fun h9 => e.2.2.1 (by simpa using h9), fun h9 => e.2.2.2 (by simpa using h9)⟩)⟩⟩⟩⟩, ⟨⟨⟨(fun h => F9.out.2.1.1.1 (up_ne rfl h)), ⟨(fun h => F9.out.2.1.1.2.1 (up_ne rfl h)), (fun h => up_of (F9.out.2.1.1.2.2 (up_ne rfl h)))⟩⟩, ⟨(fun h => up_of (F9.out.2.1.2.1 (up_ne rfl h))), ⟨(fun h => up_of (F9.out.2.1.2.2.1 (up_ne rfl h))), (fun h => up_of (F9.out.2.1.2.2.2 (up_ne rfl h)))⟩⟩⟩, ⟨⟨(fun h => up_of (F9.out.2.2.1.1 (up_ne rfl h))), ⟨(fun _ => up_of e_7), (fun h => up_of (F9.out.2.2.1.2.2 (up_ne rfl h)))⟩⟩, ⟨⟨(fun h => up_of (F9.out.2.2.2.1.1 (up_ne rfl h))), (fun h => up_of (F9.out.2.2.2.1.2 (up_ne rfl h)))⟩, ⟨(fun h => up_of (F9.out.2.2.2.2.1 (up_ne rfl h))), (fun h => up_of (F9.out.2.2.2.2.2 (up_ne rfl h)))⟩⟩⟩⟩⟩⟩
          · simp only [List.getElem?_toArray, List.getElem?_cons_zero, List.getElem?_cons_succ, Option.some.injEq] at ho
            subst ho
            have hk := F9.out.1.1.1.1
            have h0 := F9.out.1.1.1.2.1
            have h1 := F9.out.1.1.1.2.2
            have h5 := F9.out.1.2.1.1
            have h6 := F9.out.1.2.1.2.1
            have h7 := F9.out.1.2.1.2.2
            have h9 := F9.out.1.2.2.1.2
            have h11 := F9.out.1.2.2.2.2
            have q6_0 := F9.out.2.1.1.2.2
            have q6_1 := F9.out.2.1.2.1
            have q6_5 := F9.out.2.1.2.2.1
            have q7_6 := F9.out.2.1.2.2.2
            have q14_10 := F9.out.2.2.2.2.2
            have e_7 := dep 7 (by kernel_rfl)
            have e_6 := q7_6 e_7
            have e_0 := q6_0 e_6
            have e_1 := q6_1 e_6
            have e_5 := q6_5 e_6
            obtain rfl := h0 e_0
            obtain rfl := h1 e_1
            obtain rfl := h5 e_5
            have n14 : b 14 = false := by
              cases hb : b 14
              · rfl
              · have := q14_10 hb; rw [hbi] at this; cases this
            obtain ⟨pa, pc, rfl, r5, z5⟩ := h6 e_6
            obtain rfl := h7 e_7
            go_simp
            refine hK.out _ _ ⟨_, _, _, _, _, _, _, _, _, _, _, _, _, _, rfl, hid ⟨⟨⟨⟨(hk), ⟨(fun _ => rfl), (fun _ => rfl)⟩⟩, ⟨(fun h => F9.out.1.1.2.1 (up_ne rfl h)), ⟨(fun h => F9.out.1.1.2.2.1 (up_ne rfl h)), (fun h => F9.out.1.1.2.2.2 (up_ne rfl h))⟩⟩⟩, ⟨⟨(fun _ => rfl), ⟨(fun _ => ⟨pa, pc, rfl, r5, z5⟩), (fun _ => rfl)⟩⟩, ⟨⟨(fun h => F9.out.1.2.2.1.1 (up_ne rfl h)), (fun h => F9.out.1.2.2.1.2 (up_ne rfl h))⟩, ⟨(fun _ => rfl), (fun h => (h11 (by simpa using h)).imp fun T e => ⟨e.1, e.2.1, fun h9 => e.2.2.1 (by simpa using h9), fun h9 => e.2.2.2 (by simpa using h9)⟩)⟩⟩⟩⟩, ⟨⟨⟨(fun h => F9.out.2.1.1.1 (up_ne rfl h)), ⟨(fun h => absurd h (by simp [n14])), (fun h => up_of (F9.out.2.1.1.2.2 (up_ne rfl h)))⟩⟩, ⟨(fun h => up_of (F9.out.2.1.2.1 (up_ne rfl h))), ⟨(fun h => up_of (F9.out.2.1.2.2.1 (up_ne rfl h))), (fun h => up_of (F9.out.2.1.2.2.2 (up_ne rfl h)))⟩⟩⟩, ⟨⟨(fun h => up_of (F9.out.2.2.1.1 (up_ne rfl h))), ⟨(fun h => up_of (F9.out.2.2.1.2.1 (up_ne rfl h))), (fun _ => up_of e_7)⟩⟩, ⟨⟨(fun h => up_of (F9.out.2.2.2.1.1 (up_ne rfl h))), (fun h => up_of (F9.out.2.2.2.1.2 (up_ne rfl h)))⟩, ⟨(fun h => up_of (F9.out.2.2.2.2.1 (up_ne rfl h))), (fun h => up_of (F9.out.2.2.2.2.2 (up_ne rfl h)))⟩⟩⟩⟩⟩⟩
          · simp only [List.getElem?_toArray, List.getElem?_cons_zero, List.getElem?_cons_succ, Option.some.injEq] at ho
            subst ho
            have hk := F9.out.1.1.1.1
            have h6 := F9.out.1.2.1.2.1
            have h9 := F9.out.1.2.2.1.2
            have q13_11 := F9.out.2.2.2.1.2
            have n13 : b 13 = false := by
              cases hb : b 13
              · rfl
              · have := q13_11 hb; rw [hbi] at this; cases this
            have b5 := bel1 w' (.cells #[.int .i64 0, .int .i64 0, .int .i64 0] 35)
            go_simp
            refine hK.out _ _ ⟨_, _, _, _, _, _, _, _, _, _, _, _, _, _, rfl, hid ⟨⟨⟨⟨(hk.trans (b5.mono hk.size)), ⟨(fun h => F9.out.1.1.1.2.1 (up_ne rfl h)), (fun h => F9.out.1.1.1.2.2 (up_ne rfl h))⟩⟩, ⟨(fun h => F9.out.1.1.2.1 (up_ne rfl h)), ⟨(fun h => F9.out.1.1.2.2.1 (up_ne rfl h)), (fun h => F9.out.1.1.2.2.2 (up_ne rfl h))⟩⟩⟩, ⟨⟨(fun h => F9.out.1.2.1.1 (up_ne rfl h)), ⟨(fun h => by obtain ⟨pa, pc, e, r, z⟩ := (h6 (up_ne rfl h)); exact ⟨pa, pc, e, r.below b5, z⟩), (fun h => F9.out.1.2.1.2.2 (up_ne rfl h))⟩⟩, ⟨⟨(fun h => F9.out.1.2.2.1.1 (up_ne rfl h)), (fun h => F9.out.1.2.2.1.2 (up_ne rfl h))⟩, ⟨(fun h => F9.out.1.2.2.2.1 (up_ne rfl h)), (fun _ => ⟨w'.heap.size, rfl, hk.size, fun _ => alloc_new _ _, fun h9 => absurd h9 (by simp [n13])⟩)⟩⟩⟩⟩, ⟨⟨⟨(fun h => F9.out.2.1.1.1 (up_ne rfl h)), ⟨(fun h => F9.out.2.1.1.2.1 (up_ne rfl h)), (fun h => up_of (F9.out.2.1.1.2.2 (up_ne rfl h)))⟩⟩, ⟨(fun h => up_of (F9.out.2.1.2.1 (up_ne rfl h))), ⟨(fun h => up_of (F9.out.2.1.2.2.1 (up_ne rfl h))), (fun h => up_of (F9.out.2.1.2.2.2 (up_ne rfl h)))⟩⟩⟩, ⟨⟨(fun h => up_of (F9.out.2.2.1.1 (up_ne rfl h))), ⟨(fun h => up_of (F9.out.2.2.1.2.1 (up_ne rfl h))), (fun h => up_of (F9.out.2.2.1.2.2 (up_ne rfl h)))⟩⟩, ⟨⟨(fun h => up_of (F9.out.2.2.2.1.1 (up_ne rfl h))), (fun h => up_of (F9.out.2.2.2.1.2 (up_ne rfl h)))⟩, ⟨(fun h => up_of (F9.out.2.2.2.2.1 (up_ne rfl h))), (fun h => up_of (F9.out.2.2.2.2.2 (up_ne rfl h)))⟩⟩⟩⟩⟩⟩
          · simp only [List.getElem?_toArray, List.getElem?_cons_zero, List.getElem?_cons_succ, Option.some.injEq] at ho
            subst ho
            have hk := F9.out.1.1.1.1
            have h0 := F9.out.1.1.1.2.1
            have h1 := F9.out.1.1.1.2.2
            have h5 := F9.out.1.2.1.1
            have h6 := F9.out.1.2.1.2.1
            have h7 := F9.out.1.2.1.2.2
            have h8 := F9.out.1.2.2.1.1
            have h9 := F9.out.1.2.2.1.2
            have h11 := F9.out.1.2.2.2.2
            have q6_0 := F9.out.2.1.1.2.2
            have q6_1 := F9.out.2.1.2.1
            have q6_5 := F9.out.2.1.2.2.1
            have q7_6 := F9.out.2.1.2.2.2
            have q8_7 := F9.out.2.2.1.1
            have e_8 := dep 8 (by kernel_rfl)
            have e_7 := q8_7 e_8
            have e_6 := q7_6 e_7
            have e_0 := q6_0 e_6
            have e_1 := q6_1 e_6
            have e_5 := q6_5 e_6
            obtain rfl := h0 e_0
            obtain rfl := h1 e_1
            obtain rfl := h5 e_5
            obtain ⟨pa, pc, rfl, r5, z5⟩ := h6 e_6
            obtain rfl := h7 e_7
            have e44 := h8 e_8
            simp only [Value.tuple.injEq, Array.mk.injEq, List.cons.injEq, and_true] at e44
            obtain rfl := e44
            go_simp
            refine hK.out _ _ ⟨_, _, _, _, _, _, _, _, _, _, _, _, _, _, rfl, hid ⟨⟨⟨⟨(hk), ⟨(fun _ => rfl), (fun _ => rfl)⟩⟩, ⟨(fun h => F9.out.1.1.2.1 (up_ne rfl h)), ⟨(fun h => F9.out.1.1.2.2.1 (up_ne rfl h)), (fun h => F9.out.1.1.2.2.2 (up_ne rfl h))⟩⟩⟩, ⟨⟨(fun _ => rfl), ⟨(fun _ => ⟨pa, pc, rfl, r5, z5⟩), (fun _ => rfl)⟩⟩, ⟨⟨(fun _ => rfl), (fun h => F9.out.1.2.2.1.2 (up_ne rfl h))⟩, ⟨(fun h => F9.out.1.2.2.2.1 (up_ne rfl h)), (fun h => (h11 (by simpa using h)).imp fun T e => ⟨e.1, e.2.1, fun h9 => e.2.2.1 (by simpa using h9), fun h9 => e.2.2.2 (by simpa using h9)⟩)⟩⟩⟩⟩, ⟨⟨⟨(fun _ => rfl), ⟨(fun h => F9.out.2.1.1.2.1 (up_ne rfl h)), (fun h => up_of (F9.out.2.1.1.2.2 (up_ne rfl h)))⟩⟩, ⟨(fun h => up_of (F9.out.2.1.2.1 (up_ne rfl h))), ⟨(fun h => up_of (F9.out.2.1.2.2.1 (up_ne rfl h))), (fun h => up_of (F9.out.2.1.2.2.2 (up_ne rfl h)))⟩⟩⟩, ⟨⟨(fun h => up_of (F9.out.2.2.1.1 (up_ne rfl h))), ⟨(fun h => up_of (F9.out.2.2.1.2.1 (up_ne rfl h))), (fun h => up_of (F9.out.2.2.1.2.2 (up_ne rfl h)))⟩⟩, ⟨⟨(fun _ => up_of e_8), (fun h => up_of (F9.out.2.2.2.1.2 (up_ne rfl h)))⟩, ⟨(fun h => up_of (F9.out.2.2.2.2.1 (up_ne rfl h))), (fun h => up_of (F9.out.2.2.2.2.2 (up_ne rfl h)))⟩⟩⟩⟩⟩⟩
          · simp only [List.getElem?_toArray, List.getElem?_cons_zero, List.getElem?_cons_succ, Option.some.injEq] at ho
            subst ho
            have hk := F9.out.1.1.1.1
            have h0 := F9.out.1.1.1.2.1
            have h1 := F9.out.1.1.1.2.2
            have h5 := F9.out.1.2.1.1
            have h6 := F9.out.1.2.1.2.1
            have h7 := F9.out.1.2.1.2.2
            have h9 := F9.out.1.2.2.1.2
            have h11 := F9.out.1.2.2.2.2
            have q6_0 := F9.out.2.1.1.2.2
            have q6_1 := F9.out.2.1.2.1
            have q6_5 := F9.out.2.1.2.2.1
            have q7_6 := F9.out.2.1.2.2.2
            have q9_7 := F9.out.2.2.1.2.1
            have e_11 := dep 11 (by kernel_rfl)
            have e_9 := dep 9 (by kernel_rfl)
            have e_7 := q9_7 e_9
            have e_6 := q7_6 e_7
            have e_0 := q6_0 e_6
            have e_1 := q6_1 e_6
            have e_5 := q6_5 e_6
            obtain rfl := h0 e_0
            obtain rfl := h1 e_1
            obtain rfl := h5 e_5
            obtain ⟨pa, pc, rfl, r5, z5⟩ := h6 e_6
            obtain rfl := h7 e_7
            obtain rfl := h9 e_9
            obtain ⟨T, rfl, t1, t2, t3⟩ := h11 e_11
            have t4 := t2 hbi
            obtain ⟨f0, f1, f2⟩ := frozen3 t4
            obtain ⟨e0, e1, e2⟩ := cells3 t4
            have hT := hid (And.intro t1 t4)
            clear t1 t4 t2 t3
            go_simp
            refine hK.out _ _ ⟨_, _, _, _, _, _, _, _, _, _, _, _, _, _, rfl, hid ⟨⟨⟨⟨(below_put (below_put (below_put hk hT.out.1) hT.out.1) hT.out.1), ⟨(fun _ => rfl), (fun _ => rfl)⟩⟩, ⟨(fun h => F9.out.1.1.2.1 (up_ne rfl h)), ⟨(fun h => F9.out.1.1.2.2.1 (up_ne rfl h)), (fun h => F9.out.1.1.2.2.2 (up_ne rfl h))⟩⟩⟩, ⟨⟨(fun _ => rfl), ⟨(fun _ => ⟨pa, pc, rfl, trow_put3 hT.out.2 r5, z5⟩), (fun _ => rfl)⟩⟩, ⟨⟨(fun h => F9.out.1.2.2.1.1 (up_ne rfl h)), (fun _ => rfl)⟩, ⟨(fun h => F9.out.1.2.2.2.1 (up_ne rfl h)), (fun _ => ⟨T, rfl, hT.out.1, fun h9 => absurd h9 (by simp), fun _ => three_set hT.out.2⟩)⟩⟩⟩⟩, ⟨⟨⟨(fun h => F9.out.2.1.1.1 (up_ne rfl h)), ⟨(fun h => F9.out.2.1.1.2.1 (up_ne rfl h)), (fun h => up_of (F9.out.2.1.1.2.2 (up_ne rfl h)))⟩⟩, ⟨(fun h => up_of (F9.out.2.1.2.1 (up_ne rfl h))), ⟨(fun h => up_of (F9.out.2.1.2.2.1 (up_ne rfl h))), (fun h => up_of (F9.out.2.1.2.2.2 (up_ne rfl h)))⟩⟩⟩, ⟨⟨(fun h => up_of (F9.out.2.2.1.1 (up_ne rfl h))), ⟨(fun h => up_of (F9.out.2.2.1.2.1 (up_ne rfl h))), (fun h => up_of (F9.out.2.2.1.2.2 (up_ne rfl h)))⟩⟩, ⟨⟨(fun h => up_of (F9.out.2.2.2.1.1 (up_ne rfl h))), (fun _ => up_of e_11)⟩, ⟨(fun _ => up_of e_9), (fun h => up_of (F9.out.2.2.2.2.2 (up_ne rfl h)))⟩⟩⟩⟩⟩⟩
          · simp only [List.getElem?_toArray, List.getElem?_cons_zero, List.getElem?_cons_succ, Option.some.injEq] at ho
            subst ho
            have hk := F9.out.1.1.1.1
            have h0 := F9.out.1.1.1.2.1
            have h1 := F9.out.1.1.1.2.2
            have h5 := F9.out.1.2.1.1
            have h6 := F9.out.1.2.1.2.1
            have h7 := F9.out.1.2.1.2.2
            have h9 := F9.out.1.2.2.1.2
            have h10 := F9.out.1.2.2.2.1
            have h11 := F9.out.1.2.2.2.2
            have q6_0 := F9.out.2.1.1.2.2
            have q6_1 := F9.out.2.1.2.1
            have q6_5 := F9.out.2.1.2.2.1
            have q7_6 := F9.out.2.1.2.2.2
            have q10_7 := F9.out.2.2.1.2.2
            have e_10 := dep 10 (by kernel_rfl)
            have e_7 := q10_7 e_10
            have e_6 := q7_6 e_7
            have e_0 := q6_0 e_6
            have e_1 := q6_1 e_6
            have e_5 := q6_5 e_6
            obtain rfl := h0 e_0
            obtain rfl := h1 e_1
            obtain rfl := h5 e_5
            obtain ⟨pa, pc, rfl, r5, z5⟩ := h6 e_6
            obtain rfl := h7 e_7
            obtain rfl := h10 e_10
            go_simp
            refine hK.out _ _ ⟨_, _, _, _, _, _, _, _, _, _, _, _, _, _, rfl, hid ⟨⟨⟨⟨(hk), ⟨(fun _ => rfl), (fun _ => rfl)⟩⟩, ⟨(fun h => F9.out.1.1.2.1 (up_ne rfl h)), ⟨(fun h => F9.out.1.1.2.2.1 (up_ne rfl h)), (fun h => F9.out.1.1.2.2.2 (up_ne rfl h))⟩⟩⟩, ⟨⟨(fun _ => rfl), ⟨(fun _ => ⟨pa, pc, rfl, r5, z5⟩), (fun _ => rfl)⟩⟩, ⟨⟨(fun h => F9.out.1.2.2.1.1 (up_ne rfl h)), (fun h => F9.out.1.2.2.1.2 (up_ne rfl h))⟩, ⟨(fun _ => rfl), (fun h => (h11 (by simpa using h)).imp fun T e => ⟨e.1, e.2.1, fun h9 => e.2.2.1 (by simpa using h9), fun h9 => e.2.2.2 (by simpa using h9)⟩)⟩⟩⟩⟩, ⟨⟨⟨(fun h => F9.out.2.1.1.1 (up_ne rfl h)), ⟨(fun _ => rfl), (fun h => up_of (F9.out.2.1.1.2.2 (up_ne rfl h)))⟩⟩, ⟨(fun h => up_of (F9.out.2.1.2.1 (up_ne rfl h))), ⟨(fun h => up_of (F9.out.2.1.2.2.1 (up_ne rfl h))), (fun h => up_of (F9.out.2.1.2.2.2 (up_ne rfl h)))⟩⟩⟩, ⟨⟨(fun h => up_of (F9.out.2.2.1.1 (up_ne rfl h))), ⟨(fun h => up_of (F9.out.2.2.1.2.1 (up_ne rfl h))), (fun h => up_of (F9.out.2.2.1.2.2 (up_ne rfl h)))⟩⟩, ⟨⟨(fun h => up_of (F9.out.2.2.2.1.1 (up_ne rfl h))), (fun h => up_of (F9.out.2.2.2.1.2 (up_ne rfl h)))⟩, ⟨(fun h => up_of (F9.out.2.2.2.2.1 (up_ne rfl h))), (fun _ => up_of e_10)⟩⟩⟩⟩⟩⟩
        case done10 =>
          rintro b a' w' ⟨v58, v59, v60, v61, v62, v63, v64, v57, v65, v66, v67, v12, v11, v13, rfl, F9⟩ hall
          have hk := F9.out.1.1.1.1
          have h0 := F9.out.1.1.1.2.1
          have h1 := F9.out.1.1.1.2.2
          have h2 := F9.out.1.1.2.1
          have h3 := F9.out.1.1.2.2.1
          have h4 := F9.out.1.1.2.2.2
          have h5 := F9.out.1.2.1.1
          have h6 := F9.out.1.2.1.2.1
          have h7 := F9.out.1.2.1.2.2
          have h8 := F9.out.1.2.2.1.1
          have h9 := F9.out.1.2.2.1.2
          have h10 := F9.out.1.2.2.2.1
          have h11 := F9.out.1.2.2.2.2
          have h12 := F9.out.2.1.1.1
          have h14 := F9.out.2.1.1.2.1
          obtain rfl := h0 (hall 0)
          obtain rfl := h1 (hall 1)
          obtain rfl := h2 (hall 2)
          obtain rfl := h3 (hall 3)
          obtain rfl := h4 (hall 4)
          obtain rfl := h5 (hall 5)
          obtain ⟨pa, pc, rfl, r5, z5⟩ := h6 (hall 6)
          obtain rfl := h7 (hall 7)
          have e44 := h8 (hall 8)
          simp only [Value.tuple.injEq, Array.mk.injEq, List.cons.injEq, and_true] at e44
          obtain rfl := e44
          obtain rfl := h9 (hall 9)
          obtain rfl := h10 (hall 10)
          obtain ⟨T, rfl, t1, t2, t3⟩ := h11 (hall 11)
          obtain rfl := h12 (hall 12)
          obtain rfl := h14 (hall 14)
          have t4 := t3 (hall 13)
          have RB := hid (And.intro r5 z5)
          have X := hid (And.intro ((hk.block _ (heap_lt X.out.1)).trans X.out.1) (X.out.2.trans (hk.mono X.out.2.size)))
          have R := hid (And.intro (R.out.1.below hk) R.out.2)
          clear hk r5 z5 t1 t2 t3 t4 hall h0 h1 h2 h3 h4 h5 h6 h7 h8 h9 h10 h11 h12 h14
          dsimp only
          rcases HC.out with ⟨rfl, rfl, rfl, hts⟩ | rfl
          · have HT := hid hts
            clear hts
            obtain ⟨d0, d1, d2⟩ := cells3 X.out.1
            have C1 := hid (show Calls Try.prog 11 #[.agg #[.slice a1 n1 c1, .slice a2 n2 c2, .slice a3 n3 c3], .string tt] w' fun e w'' => (∃ p c, e = .returned (.slice p (lexT D tt).length c) ∧ TRow w'' p (lexT D tt).length (lexT D tt) ∧ (lexT D tt).length ≤ c) ∧ Below w'.heap.size w' w'' from RLex_any w' D n k HV.out a1 n1 c1 a2 n2 c2 a3 n3 c3 (HI.out.below X.out.2) tt (by have := HT.out; omega))
            go_wp2_with fail
            refine C1.out.mono ?_
            rintro e W5 ⟨⟨pz, cz, rfl, hr, hpc⟩, b2⟩
            have X := hid (And.intro ((b2.block _ (heap_lt X.out.1)).trans X.out.1) (X.out.2.trans (b2.mono X.out.2.size)))
            have RB := hid (And.intro (RB.out.1.below b2) RB.out.2)
            have CS := hid (Same_any W5 pa (lexT D tt).length pc (lexT D tt) pz (lexT D tt).length cz (lexT D tt) RB.out.1 hr (by have := lexT_len D tt; have := HT.out; omega) (by have := lexT_len D tt; have := HT.out; omega))
            rw [decide_eq_true rfl] at CS
            clear C1 b2 hr hpc d0 d1 d2
            go_wp2_with fail
            refine CS.out.mono ?_
            rintro e W6 ⟨rfl, b2⟩
            have X := hid (And.intro ((b2.block _ (heap_lt X.out.1)).trans X.out.1) (X.out.2.trans (b2.mono X.out.2.size)))
            have RB := hid (And.intro (RB.out.1.below b2) RB.out.2)
            clear b2 CS
            go_wp2
            go_roundg (gk - 1)
            case measure => omega
            case rel => exact ⟨i + 1, tt, pa, pc, by first | rfl | go_num, by first | rfl | go_num, by first | rfl | go_num, by omega, HT.out, RB.out.1, RB.out.2, X.out.1, X.out.2⟩
          · go_wp2
            go_roundg (gk - 1)
            case measure => omega
            case rel =>
              obtain ⟨e1, e2⟩ := HL.out
              subst e2 e1
              exact ⟨i + 1, q, p, c, by first | rfl | go_num, by first | rfl | go_num, by first | rfl | go_num, by omega, hqs, R.out.1, R.out.2, X.out.1, X.out.2⟩
        case init10 =>
          exact ⟨_, _, _, _, _, _, _, _, _, _, _, _, _, _, rfl, hid ⟨⟨⟨⟨((Below.refl _ _).drew), ⟨(fun h => absurd h (by simp)), (fun h => absurd h (by simp))⟩⟩, ⟨(fun h => absurd h (by simp)), ⟨(fun h => absurd h (by simp)), (fun h => absurd h (by simp))⟩⟩⟩, ⟨⟨(fun h => absurd h (by simp)), ⟨(fun h => absurd h (by simp)), (fun h => absurd h (by simp))⟩⟩, ⟨⟨(fun h => absurd h (by simp)), (fun h => absurd h (by simp))⟩, ⟨(fun h => absurd h (by simp)), (fun h => absurd h (by simp))⟩⟩⟩⟩, ⟨⟨⟨(fun h => absurd h (by simp)), ⟨(fun h => absurd h (by simp)), (fun h => absurd h (by simp))⟩⟩, ⟨(fun h => absurd h (by simp)), ⟨(fun h => absurd h (by simp)), (fun h => absurd h (by simp))⟩⟩⟩, ⟨⟨(fun h => absurd h (by simp)), ⟨(fun h => absurd h (by simp)), (fun h => absurd h (by simp))⟩⟩, ⟨⟨(fun h => absurd h (by simp)), (fun h => absurd h (by simp))⟩, ⟨(fun h => absurd h (by simp)), (fun h => absurd h (by simp))⟩⟩⟩⟩⟩⟩
      · have hlt' : ¬ (i : Int) < (ne : Int) := by omega
        go_wp2_with fail
        refine (CA.out _).mono ?_
        rintro e W9 ⟨rfl, b9⟩
        have X9 := hid (X.out.2.trans (b9.mono X.out.2.size))
        clear b9 d0 d1 d2
        go_wp2
        go_ret
        exact ⟨rfl, X9.out⟩

theorem lifted (os : Os) (started : os.Started) (H : Type) (enc : TypeId × Value → H) :
    ReturnsInHanded {} Try.checked os 4 .any (Rows.relexEqualsLexSpec.pre6 enc Try.prog Try.f4 Rows.relexEqualsLexRow.domain false) (Rows.relexEqualsLexSpec.post enc Try.prog Try.f4 false true false false) := by
  refine Go.Frame.lifted (C := Try.checked) (tb := 4) own started (by kernel_rfl) Try.func4
    (ChangeSpec.witness6 (enc := enc) (C := Try.checked) false ⟨#[], #[.agg #[.slice none 0 0, .slice none 0 0, .slice none 0 0], .string ByteArray.empty, .slice none 0 0], []⟩ 8 (by kernel_rfl) (by kernel_rfl) (by kernel_rfl) (by kernel_rfl))
    laidOut (by kernel_rfl) (by kernel_rfl) Try.underlying4 rfl ?_ ?_
  · intro ds h
    have h : ds.length = 3 := h
    match ds, h with
    | [_, _, _], _ => rfl
  · intro W base args ds p hlen hval0 hA hsz0
    have hval : ∀ (j : Nat) t v, Try.f4.params[j]? = some t → args[j]? = some v → Value.okWide Try.prog W .any base t v := hval0
    have hA : DataW.TrodAll enc Try.prog W 0 (fun _ => true) true Try.f4.params.toList args.toList ds p := hA
    have hsz : (DataW.weightsEach Try.prog Try.f4.params.toList ds).all (· ≤ reachBytes) = true := hsz0
    rw [Try.params4] at hA hval hsz
    obtain ⟨v0, vs0, d0, ds0, p0, q0, hargs, hds, _, th0, tr0⟩ := trodAll_cons hA
    obtain ⟨v1, vs1, d1, ds1, p1, q1, rfl, rfl, _, th1, tr1⟩ := trodAll_cons tr0
    obtain ⟨v2, vs2, d2, ds2, p2, q2, rfl, rfl, _, th2, tr2⟩ := trodAll_cons tr1
    obtain ⟨rfl, rfl, _⟩ := trodAll_nil tr2
    obtain rfl : args = #[v0, v1, v2] := by cases args; simp_all
    subst hds
    obtain ⟨Du, a1x, n1x, c1x, a2x, n2x, c2x, a3x, n3x, c3x, rfl, hDu⟩ := open_dfa (hval 0 25 v0 rfl rfl) th0 (fun n hn => of_decide_eq_true (List.all_eq_true.1 hsz _ (DataW.weights_mem_each (j := 0) rfl rfl n hn)))
    obtain ⟨t1, rfl, hd1, _, _⟩ := open_string Try.underlying9 (hval 1 9 v1 rfl rfl) th1
    have hs1 : t1.size ≤ 140737488351232 := of_decide_eq_true (List.all_eq_true.1 hsz _ (DataW.weights_mem_each (j := 1) rfl rfl _ (by rw [hd1]; simp [DataW.weights])))
    obtain ⟨Et, at0, nt0, ct0, rfl, hEt, hnt, hin⟩ := open_edits (hval 2 40 v2 rfl rfl) th2 (fun n hn => of_decide_eq_true (List.all_eq_true.1 hsz _ (DataW.weights_mem_each (j := 2) rfl rfl n hn)))
    exact walk Du a1x n1x c1x a2x n2x c2x a3x n3x c3x t1 Et at0 nt0 ct0 W hDu hs1 hEt hnt hin

theorem over : Rows.relexEqualsLexRow.holds Try.pinned (OpenSpec.ofChange Rows.relexEqualsLexSpec) :=
  OpenClaim.holds_of_wide 4 Try.f4 rfl rfl rfl rfl rfl rfl rfl ⟨rfl, rfl, rfl, rfl, rfl⟩ rfl rfl rfl rfl rfl (by kernel_rfl) Try.func4 (by kernel_rfl)
    (of_decide_eq_true (by kernel_rfl)) (by unfold Func.isWrapper; first | (rw [if_pos (by decide +kernel)]; kernel_rfl) | (rw [if_neg (by decide +kernel)]; exact ⟨rfl, rfl⟩))
    (fun os started H enc _ => lifted os started H enc)

/-- THE STATEMENT -/
theorem proved : Rows.RelexEqualsLexSaid :=
  over
#print axioms proved
end Go.Proofs.Ytblcjjhjgoccgaa.relexEqualsLex
