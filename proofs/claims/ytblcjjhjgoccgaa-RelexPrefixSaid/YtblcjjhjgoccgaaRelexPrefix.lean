/-
  RelexPrefix, for every input: the law returns true and leaves its arguments as they read. No condition.
-/
import Derived.Test.YtblcjjhjgoccgaaXp
import Derived.Test.YtblcjjhjgoccgaaXo
set_option linter.unusedSimpArgs false
set_option linter.unusedVariables false
namespace Go.Proofs.Ytblcjjhjgoccgaa.relexPrefix
open Go.ChangeShapes Go.WideShapes Go.ChangeAt Go.RowKit Go.Frame
open Go.ChangeMaps (open_string shut_string)
open Lx
attribute [local go_sem] eq_chg eq_tok
set_option maxRecDepth 100000 in
set_option maxHeartbeats 4000000 in
theorem walk (D : Df) (a1 : Option Addr) (n1 c1 : Nat) (a2 : Option Addr) (n2 c2 : Nat) (a3 : Option Addr) (n3 c3 : Nat) (s : ByteArray) (ed : Te.Ed) (w : World) (hD : DA w D a1 n1 a2 n2 a3 n3) (hs0 : s.size ≤ 140737488351232) (hIn : In ed) :
    Calls Try.prog 6 #[.agg #[.slice a1 n1 c1, .slice a2 n2 c2, .slice a3 n3 c3, .string s, .int .i64 ed.1, .int .i64 ed.2.1, .string ed.2.2]] w fun e w' => e = .returned (.bool true) ∧ Below w.heap.size w w' := by
  obtain ⟨at_, del, ins⟩ := ed
  obtain ⟨hi1, hi2, hi3, hi4, hi5⟩ := hIn
  simp only at hi1 hi2 hi3 hi4 hi5 ⊢
  have CM := hid (fun V (hV : Below w.heap.size w V) => may_any V D a1 n1 c1 a2 n2 c2 a3 n3 c3 (hD.below hV) s ins at_ del)
  have CA := hid (fun V => awake_any V)
  have HI := hid hD
  have x0 := hid (alloc_new w (.cells #[.slice a1 n1 c1, .slice a2 n2 c2, .slice a3 n3 c3, .string s, .int .i64 at_, .int .i64 del, .string ins] 29))
  have B0 := hid (bel1 w (.cells #[.slice a1 n1 c1, .slice a2 n2 c2, .slice a3 n3 c3, .string s, .int .i64 at_, .int .i64 del, .string ins] 29))
  obtain ⟨y, hy⟩ : ∃ y, y = mayB D s ins := ⟨_, rfl⟩
  rw [← hy] at CM
  have HY := hid hy
  clear hD hy
  go_enter Try.func6, Try.ntmps6
  go_wp2_with fail
  refine (CM.out _ B0.out).mono ?_
  rintro e W ⟨rfl, b1⟩
  have X := hid (And.intro ((b1.block _ (heap_lt x0.out)).trans x0.out) (B0.out.trans (b1.mono B0.out.size)))
  clear b1 CM
  cases y
  · go_wp2_with fail
    refine (CA.out _).mono ?_
    rintro e W2 ⟨rfl, b2⟩
    have X2 := hid (X.out.2.trans (b2.mono X.out.2.size))
    clear b2
    go_wp2
    go_ret
    exact ⟨rfl, X2.out⟩
  · have hy2 := HY.out.symm
    unfold mayB at hy2
    simp only [Bool.and_eq_true, decide_eq_true_eq] at hy2
    obtain ⟨hm, hs1, hin1⟩ := hy2
    obtain ⟨n, k, hv⟩ := sm_vd hm
    have HV := hid hv
    have CL := hid (fun V (hV : Below w.heap.size w V) (s' : ByteArray) (h' : s'.size ≤ 1000000) => RLex_any V D n k HV.out a1 n1 c1 a2 n2 c2 a3 n3 c3 (HI.out.below hV) s' h')
    clear hm hv
    obtain ⟨d0, d1, d2, d3, d4, d5, d6⟩ := cells7 X.out.1
    by_cases hfit : Te.Fit s.size (at_, del, ins)
    rotate_left
    · have CF := hid (fits_no at_ del (s.size : Int) ins W (by omega) (by omega) (by omega) hfit)
      go_wp2_with fail
      refine CF.out.mono ?_
      rintro e W2 ⟨rfl, b2⟩
      have X2 := hid (X.out.2.trans (b2.mono X.out.2.size))
      clear b2
      go_wp2_with fail
      refine (CA.out _).mono ?_
      rintro e W3 ⟨rfl, b9⟩
      have X9 := hid (X2.out.trans (b9.mono X2.out.size))
      clear b9
      go_wp2
      go_ret
      exact ⟨rfl, X9.out⟩
    have CF := hid (fits_yes at_ del (s.size : Int) ins W (by omega) (by omega) (by omega) hfit)
    obtain ⟨x, yv, t', he, hl⟩ := hfit.nat
    simp only [Prod.mk.injEq] at he
    obtain ⟨rfl, rfl, rfl⟩ := he
    clear hfit hi1 hi2 hi3 hi4 hi5
    go_wp2_with fail
    refine CF.out.mono ?_
    rintro e W2 ⟨rfl, b2⟩
    have X := hid (And.intro ((b2.block _ (heap_lt X.out.1)).trans X.out.1) (X.out.2.trans (b2.mono X.out.2.size)))
    clear b2 CF d0 d1 d2 d3 d4 d5 d6
    obtain ⟨d0, d1, d2, d3, d4, d5, d6⟩ := cells7 X.out.1
    obtain ⟨L, hL⟩ : ∃ L, L = lexT D s := ⟨_, rfl⟩
    obtain ⟨lL, hlL⟩ : ∃ lL, lL = L.length := ⟨_, rfl⟩
    have hlb : lL ≤ 100 := by rw [hlL, hL]; exact Nat.le_trans (lexT_len _ _) hs1
    have HL := hid (And.intro hL hlL)
    have C1 := hid (show Calls Try.prog 11 #[.agg #[.slice a1 n1 c1, .slice a2 n2 c2, .slice a3 n3 c3], .string s] W2 fun e w' => (∃ p c, e = .returned (.slice p lL c) ∧ TRow w' p lL L ∧ lL ≤ c) ∧ Below W2.heap.size W2 w' from by
      have := CL.out W2 X.out.2 s (by omega)
      unfold TRes at this
      rw [← hL, ← hlL] at this
      exact this)
    clear hL hlL
    go_wp2_with fail
    refine C1.out.mono ?_
    rintro e W3 ⟨⟨p, c, rfl, hr, hpc⟩, b2⟩
    have X := hid (And.intro ((b2.block _ (heap_lt X.out.1)).trans X.out.1) (X.out.2.trans (b2.mono X.out.2.size)))
    have R := hid hr
    clear hr b2 C1 d0 d1 d2 d3 d4 d5 d6
    obtain ⟨d0, d1, d2, d3, d4, d5, d6⟩ := cells7 X.out.1
    obtain ⟨m, hm⟩ : ∃ m, m = uM D s x := ⟨_, rfl⟩
    obtain ⟨ko, hko⟩ : ∃ ko, ko = (uR D s x yv ins).2 := ⟨_, rfl⟩
    obtain ⟨N, hN⟩ : ∃ N, N = (uR D s x yv ins).1 := ⟨_, rfl⟩
    obtain ⟨t, ht⟩ : ∃ t, t = nt s x yv ins := ⟨_, rfl⟩
    obtain ⟨M, hM⟩ : ∃ M, M = lexT D t := ⟨_, rfl⟩
    obtain ⟨lM, hlM⟩ : ∃ lM, lM = M.length := ⟨_, rfl⟩
    have hts : t.size ≤ 130 := by rw [ht]; have := nt_size (ins := ins) hl; omega
    have hlMb : lM ≤ 130 := by rw [hlM, hM]; exact Nat.le_trans (lexT_len _ _) hts
    have hu := uR_two (D := D) (ins := ins) hl
    have hmk : m ≤ ko := by rw [hm, hko]; exact hu.1
    have hkl : ko ≤ lL := by rw [hko, HL.out.2, HL.out.1]; exact hu.2
    have HN := hid (And.intro hm (And.intro hko (And.intro hN (And.intro ht (And.intro hM hlM)))))
    have hNb : N ≤ 130 := by
      have h1 := uR_len (D := D) (ins := ins) hl
      rw [← hN, List.length_take, List.length_map] at h1
      have h2 := lexAt_len D (nt s x yv ins) (nt s x yv ins).size (uP D s x) (by omega)
      rw [← ht] at h1 h2
      omega
    have HF := hid hl
    clear hu
    clear hm hko hN ht hM hlM hl
    have CU := hid (show Calls Try.prog 12 #[.agg #[.slice a1 n1 c1, .slice a2 n2 c2, .slice a3 n3 c3], .slice p lL c, .agg #[.int .i64 (x : Int), .int .i64 (yv : Int), .string ins]] W3 fun e w' => (∃ pl cl, e = .returned (.tuple #[.slice pl lM cl, .agg #[.int .i64 (m : Int), .int .i64 ((ko : Int) - (m : Int)), .int .i64 (N : Int)], .int .i64 0]) ∧ TRow w' pl lM M ∧ lM ≤ cl) ∧ Below W3.heap.size W3 w' from by
      have := Update_yes W3 D n k HV.out a1 n1 c1 a2 n2 c2 a3 n3 c3 (HI.out.below X.out.2) s (by omega) p lL c (by rw [← HL.out.1]; exact R.out) hpc x yv ins (by omega) HF.out
      obtain ⟨e1, e2, e3, e4, e5, e6⟩ := HN.out
      unfold URes at this
      rw [← e1, ← e2, ← e3, ← e4, ← e5, ← e6] at this
      exact this)
    go_wp2_with fail
    refine CU.out.mono ?_
    rintro e W4 ⟨⟨pl, cl, rfl, hl2, hcl⟩, b2⟩
    obtain ⟨V, hV⟩ : ∃ V, V = W4.alloc (.cells #[.int .i64 (m : Int), .int .i64 ((ko : Int) - (m : Int)), .int .i64 (N : Int)] 35) := ⟨_, rfl⟩
    have v1 := alloc_new W4 (.cells #[.int .i64 (m : Int), .int .i64 ((ko : Int) - (m : Int)), .int .i64 (N : Int)] 35)
    have bV := bel1 W4 (.cells #[.int .i64 (m : Int), .int .i64 ((ko : Int) - (m : Int)), .int .i64 (N : Int)] 35)
    rw [← hV] at v1 bV
    obtain ⟨B1, hC⟩ : ∃ B1, B1 = W4.heap.size := ⟨_, rfl⟩
    rw [← hC] at v1
    have b3 := b2.trans (bV.mono b2.size)
    have X := hid (And.intro ((b3.block _ (heap_lt X.out.1)).trans X.out.1) (X.out.2.trans (b3.mono X.out.2.size)))
    have R := hid (R.out.below b3)
    have RL := hid (hl2.below bV)
    have XB := hid v1
    have HCL := hid hcl
    clear hl2 b2 b3 bV v1 CU d0 d1 d2 d3 d4 d5 d6 hcl
    obtain ⟨d0, d1, d2, d3, d4, d5, d6⟩ := cells7 X.out.1
    obtain ⟨f0, f1, f2⟩ := cells3 XB.out
    go_upto_region 5 with fail
    rw [← hV, ← hC]
    clear hV hC
    have hm0 : ¬ (m : Int) < 0 := by omega
    have hml : ¬ (lL : Int) < (m : Int) := by omega
    have hm00 : (0 : Int) ≤ (m : Int) := by omega
    go_wp2_with fail
    go_loopg [7] m (fun kk s7 wr => ∃ i : Nat, s7 = .int .i64 (i : Int) ∧ i + kk = m ∧ Below V.heap.size V wr)
    case atStart => exact ⟨0, rfl, by omega, Below.refl _ _⟩
    case round =>
      obtain ⟨i, rfl, hk, hb⟩ := hrel
      have HB := hid hb
      have X := hid (And.intro ((hb.block _ (heap_lt X.out.1)).trans X.out.1) (X.out.2.trans (hb.mono X.out.2.size)))
      have XB := hid ((hb.block _ (heap_lt XB.out)).trans XB.out)
      have R := hid (R.out.below hb)
      clear hb d0 d1 d2 d3 d4 d5 d6 f0 f1 f2
      obtain ⟨d0, d1, d2, d3, d4, d5, d6⟩ := cells7 X.out.1
      obtain ⟨f0, f1, f2⟩ := cells3 XB.out
      by_cases hlt : i < m
      · have hlt' : (i : Int) < (m : Int) := by omega
        have hlt2 : (i : Int) < (lL : Int) := by omega
        have hi0 : (0 : Int) ≤ (i : Int) := by omega
        have hi1 : IntKind.i64.wrap ((i : Int) + 1) = (i : Int) + 1 := wrapIn (by omega) (by omega)
        obtain ⟨b, o, ⟨xk, xa, xs, xl⟩, rfl, _, hx, y0, y1, y2, y3⟩ := trow_at R.out (i := i) (by omega)
        simp only at y1 y3
        have hle : xa + xl ≤ (x : Int) := by
          rw [HL.out.1] at hx
          exact pre_lt (l := lexT D s) (a := (x : Int)) (i := i) (by rw [HN.out.1] at hlt; exact hlt) hx
        have hbd := lexT_tb D s (by omega) (xk, xa, xs, xl) (by rw [HL.out.1] at hx; exact List.mem_of_getElem? hx)
        simp only at hbd
        have hsum : IntKind.i64.wrap (xa + xl) = xa + xl := wrapIn (by omega) (by omega)
        have hgt : decide ((x : Int) < xa + xl) = false := decide_eq_false (by omega)
        have hgt' : ¬ (x : Int) < xa + xl := by omega
        clear hx hbd y0 y2
        go_wp2_with fail
        go_quiet (fail)
        go_wp2
        go_roundg (gk - 1)
        case measure => omega
        case rel => exact ⟨i + 1, by go_num, by omega, below_drewN HB.out _⟩
      · have hlt' : ¬ (i : Int) < (m : Int) := by omega
        clear d0 d1 d2 d3 d4 d5 d6
        go_wp2_with fail
        refine wp_region_below (by kernel_rfl) (by kernel_rfl) ?_
        intro Y f _ hff hss
        have kb := fun q => (cells3 (((hff.out q).block _ (heap_lt XB.out)).trans XB.out)).1
        have kz := fun q => (cells7 (((hff.out q).block _ (heap_lt X.out.1)).trans X.out.1)).2.2.2.2.1
        by_cases hml : m = lL
        · have heq : ((m : Int) == (lL : Int)) = true := by rw [beq_iff_eq]; omega
          have heq' : (m : Int) = (lL : Int) := by omega
          repeat (go_big_quiet_step (first | (go_at_call 10; with_reducible exact calls_below hff hss (CA.out _))))
          refine wpQuiet_nil ?_
          intro U hU
          have XU := hid (X.out.2.trans (hU.mono X.out.2.size))
          clear kb kz hff hss hU
          go_wp2
          go_ret
          exact ⟨rfl, XU.out⟩
        · have heq : ((m : Int) == (lL : Int)) = false := by rw [beq_eq_false_iff_ne]; omega
          have heq' : ¬ (m : Int) = (lL : Int) := by omega
          have hm2 : (m : Int) < (lL : Int) := by omega
          obtain ⟨b, o, ⟨xk, xa, xs, xl⟩, rfl, hbl, hx, y0, y1, y2, y3⟩ := trow_at R.out (i := m) (by omega)
          simp only at y1 y3
          have hle : ¬ xa + xl ≤ (x : Int) := by
            rw [HL.out.1, HN.out.1] at hx
            exact pre_stop (l := lexT D s) (a := (x : Int)) hx
          have hbd := lexT_tb D s (by omega) (xk, xa, xs, xl) (by rw [HL.out.1] at hx; exact List.mem_of_getElem? hx)
          simp only at hbd
          have hsum : IntKind.i64.wrap (xa + xl) = xa + xl := wrapIn (by omega) (by omega)
          have hgt : decide ((x : Int) < xa + xl) = true := decide_eq_true (by omega)
          have hgt' : (x : Int) < xa + xl := by omega
          have k1 := fun q => ((hff.out q).cell (p := ⟨b, _, none⟩) hbl).trans y1
          have k3 := fun q => ((hff.out q).cell (p := ⟨b, _, none⟩) hbl).trans y3
          clear hx hbd y0 y2
          repeat (go_big_quiet_step (first | (go_at_call 10; with_reducible exact calls_below hff hss (CA.out _))))
          refine wpQuiet_nil ?_
          intro U hU
          have XU := hid (X.out.2.trans (hU.mono X.out.2.size))
          clear kb kz k1 k3 hff hss hU
          go_wp2
          go_ret
          exact ⟨rfl, XU.out⟩

theorem lifted (os : Os) (started : os.Started) (H : Type) (enc : TypeId × Value → H) :
    ReturnsInHanded {} Try.checked os 6 .any (Rows.relexPrefixSpec.pre6 enc Try.prog Try.f6 Rows.relexPrefixRow.domain false) (Rows.relexPrefixSpec.post enc Try.prog Try.f6 false true false false) := by
  refine Go.Frame.lifted (C := Try.checked) (tb := 4) own started (by kernel_rfl) Try.func6
    (ChangeSpec.witness6 (enc := enc) (C := Try.checked) false ⟨#[], #[.agg #[.slice none 0 0, .slice none 0 0, .slice none 0 0, .string ByteArray.empty, .int .i64 0, .int .i64 0, .string ByteArray.empty]], []⟩ 8 (by kernel_rfl) (by kernel_rfl) (by kernel_rfl) (by kernel_rfl))
    laidOut (by kernel_rfl) (by kernel_rfl) Try.underlying4 rfl ?_ ?_
  · intro ds h
    have h : ds.length = 1 := h
    match ds, h with
    | [_], _ => rfl
  · intro W base args ds p hlen hval0 hA hsz0
    have hval : ∀ (j : Nat) t v, Try.f6.params[j]? = some t → args[j]? = some v → Value.okWide Try.prog W .any base t v := hval0
    have hA : DataW.TrodAll enc Try.prog W 0 (fun _ => true) true Try.f6.params.toList args.toList ds p := hA
    have hsz : (DataW.weightsEach Try.prog Try.f6.params.toList ds).all (· ≤ reachBytes) = true := hsz0
    rw [Try.params6] at hA hval hsz
    obtain ⟨v0, vs0, d0, ds0, p0, q0, hargs, hds, _, th0, tr0⟩ := trodAll_cons hA
    obtain ⟨rfl, rfl, _⟩ := trodAll_nil tr0
    obtain rfl : args = #[v0] := by cases args; simp_all
    subst hds
    obtain ⟨Du, a1x, n1x, c1x, a2x, n2x, c2x, a3x, n3x, c3x, sx, ex, rfl, hDu, hsx, hex⟩ := open_ask (hval 0 29 v0 rfl rfl) th0 (fun n hn => of_decide_eq_true (List.all_eq_true.1 hsz _ (DataW.weights_mem_each (j := 0) rfl rfl n hn)))
    exact walk Du a1x n1x c1x a2x n2x c2x a3x n3x c3x sx ex W hDu hsx hex

theorem over : Rows.relexPrefixRow.holds Try.pinned (OpenSpec.ofChange Rows.relexPrefixSpec) :=
  OpenClaim.holds_of_wide 6 Try.f6 rfl rfl rfl rfl rfl rfl rfl ⟨rfl, rfl, rfl, rfl, rfl⟩ rfl rfl rfl rfl rfl (by kernel_rfl) Try.func6 (by kernel_rfl)
    (of_decide_eq_true (by kernel_rfl)) (by unfold Func.isWrapper; first | (rw [if_pos (by decide +kernel)]; kernel_rfl) | (rw [if_neg (by decide +kernel)]; exact ⟨rfl, rfl⟩))
    (fun os started H enc _ => lifted os started H enc)

/-- THE STATEMENT -/
theorem proved : Rows.RelexPrefixSaid :=
  over
#print axioms proved
end Go.Proofs.Ytblcjjhjgoccgaa.relexPrefix
