/-
  Contracts: slices.Reverse of bytes; path.
-/
import Derived.Test.YtelbagaiijffdaaUo
set_option linter.unusedSimpArgs false
set_option linter.unusedVariables false
namespace Go.Proofs.Ytelbagaiijffdaa
open Go.RowKit Lx Go.Frame
attribute [-instance] instBEqProd

theorem own_setAt {W : World} {base e n c i : Nat} {a : Option Addr} {xs : List Value} (h : W.ownsRow base e 1 (.slice a n c) n xs) (hi : i < n) :
    ∃ g, a = some ⟨g, 0, none⟩ ∧ base ≤ g ∧ (∃ x, W.cell? ⟨g, i, none⟩ = some x ∧ xs[i]? = some x) ∧ W.frozen? ⟨g, i, none⟩ = false ∧ ∀ v, (W.setCell ⟨g, i, none⟩ v).ownsRow base e 1 (.slice a n c) n (xs.set i v) := by
  have hl := h.1
  rcases h.2 with ⟨_, h0⟩ | ⟨g, cap, cur, he, hb, hg, h1, h2, h3, h4⟩
  · omega
  · simp only [Value.slice.injEq, true_and] at he
    obtain ⟨rfl, rfl⟩ := he
    rw [Nat.mul_one] at h3 h4 hl
    obtain ⟨x, hx⟩ : ∃ x, xs[i]? = some x := ⟨_, List.getElem?_eq_getElem (by omega)⟩
    refine ⟨g, rfl, hb, ⟨x, ?_, hx⟩, Go.Frame.free hg i, fun v => ⟨by simpa using hl, .inr ⟨g, c, _, rfl, hb, blk_put hg, h1, h2, by simpa using h3, ?_⟩⟩⟩
    · simp only [World.cell?, hg]
      rw [← Array.getElem?_toList]
      rw [← h4, List.getElem?_take, if_pos hi] at hx
      exact hx
    · rw [Nat.mul_one, Array.toList_setIfInBounds, List.take_set, h4]
/-- The first i and the last i exchanged. -/
def rvl (xs : List Int) (i : Nat) : List Int := (List.range xs.length).map fun k => if k < i ∨ xs.length ≤ k + i then xs.getD (xs.length - 1 - k) 0 else xs.getD k 0
theorem rvl_len (xs : List Int) (i : Nat) : (rvl xs i).length = xs.length := by simp [rvl]
theorem rvl_at {xs : List Int} {k : Nat} (h : k < xs.length) (i : Nat) : (rvl xs i)[k]? = some (if k < i ∨ xs.length ≤ k + i then xs.getD (xs.length - 1 - k) 0 else xs.getD k 0) := by
  unfold rvl; rw [List.getElem?_map, List.getElem?_range h]; rfl
theorem rvl_zero (xs : List Int) : rvl xs 0 = xs := by
  apply List.ext_getElem?
  intro k
  by_cases h : k < xs.length
  · rw [rvl_at h, if_neg (by omega), List.getD_eq_getElem?_getD, List.getElem?_eq_getElem h]; rfl
  · rw [List.getElem?_eq_none (by rw [rvl_len]; omega), List.getElem?_eq_none (by omega)]
theorem rvl_step {xs : List Int} {i : Nat} (h : 2 * i + 1 < xs.length) : ((rvl xs i).set i (xs.getD (xs.length - 1 - i) 0)).set (xs.length - 1 - i) (xs.getD i 0) = rvl xs (i + 1) := by
  apply List.ext_getElem?
  intro k
  by_cases hk : k < xs.length
  · rw [rvl_at hk]
    by_cases e1 : xs.length - 1 - i = k
    · subst e1
      rw [List.getElem?_set_self (by rw [List.length_set, rvl_len]; exact hk), if_pos (by omega)]
      congr 2
      omega
    · rw [List.getElem?_set_ne e1]
      by_cases e2 : i = k
      · subst e2
        rw [List.getElem?_set_self (by rw [rvl_len]; exact hk), if_pos (by omega)]
      · rw [List.getElem?_set_ne e2, rvl_at hk]
        by_cases e3 : k < i ∨ xs.length ≤ k + i
        · rw [if_pos e3, if_pos (by omega)]
        · rw [if_neg e3, if_neg (by omega)]
  · rw [List.getElem?_eq_none (by rw [List.length_set, List.length_set, rvl_len]; omega), List.getElem?_eq_none (by rw [rvl_len]; omega)]
theorem rvl_end {xs : List Int} {i : Nat} (h : xs.length ≤ 2 * i + 1) (h2 : i ≤ xs.length) : rvl xs i = xs.reverse := by
  apply List.ext_getElem?
  intro k
  by_cases hk : k < xs.length
  · rw [rvl_at hk, List.getElem?_reverse (by omega)]
    have hx : ∀ j, j < xs.length → xs[j]? = some (xs.getD j 0) := fun j hj => by rw [List.getD_eq_getElem?_getD, List.getElem?_eq_getElem hj]; rfl
    rw [hx _ (by omega)]
    congr 1
    split
    · rfl
    · congr 1; omega
  · rw [List.getElem?_eq_none (by rw [rvl_len]; omega), List.getElem?_eq_none (by simp; omega)]
set_option maxRecDepth 100000 in
set_option maxHeartbeats 8000000 in
theorem reverse_any (W : World) (base : Nat) (a : Option Addr) (n c : Nat) (xs : List Int) (h : W.ownsRow base 5 1 (.slice a n c) n (xs.map ub)) (hn : n ≤ 1000000) :
    Calls Try.prog 45 #[.slice a n c] W fun e w' => e = .returned (.tuple #[]) ∧ w'.ownsRow base 5 1 (.slice a n c) n (xs.reverse.map ub) ∧ Below base W w' := by
  have hl : xs.length = n := by have := h.1; simpa using this
  have HL := hid (And.intro hl h)
  have hs : IntKind.i64.wrap ((n : Int) - 1) = (n : Int) - 1 := wrapIn (by omega) (by omega)
  clear h
  go_enter Try.func45, Try.ntmps45
  go_wp2_with fail
  go_loopg [2, 3] (n + 1) (fun kk s2 s3 wr => ∃ i : Nat, s2 = .int .i64 (i : Int) ∧ s3 = .int .i64 ((n : Int) - 1 - (i : Int)) ∧ i + kk = n + 1 ∧ 2 * i ≤ n + 1 ∧ wr.ownsRow base 5 1 (.slice a n c) n ((rvl xs i).map ub) ∧ Below base W wr)
  case atStart => exact ⟨0, rfl, by go_num, by omega, by omega, by rw [rvl_zero]; exact HL.out.2, Below.refl _ _⟩
  case round =>
    obtain ⟨i, rfl, rfl, hk, h2i, hown, hb⟩ := hrel
    have HO := hid (And.intro hown hb)
    by_cases hlt : 2 * i + 1 < n
    · have hlt' : (i : Int) < (n : Int) - 1 - (i : Int) := by omega
      have hi1 : IntKind.i64.wrap ((i : Int) + 1) = (i : Int) + 1 := wrapIn (by omega) (by omega)
      obtain ⟨j, hj⟩ : ∃ j, j = n - 1 - i := ⟨_, rfl⟩
      have hjn : (n : Int) - 1 - (i : Int) = (j : Int) := by omega
      have hj1 : IntKind.i64.wrap ((j : Int) - 1) = (j : Int) - 1 := wrapIn (by omega) (by omega)
      rw [hjn] at hlt' ⊢
      obtain ⟨g, rfl, hg, ⟨x, cx, hx⟩, fx, sx⟩ := own_setAt hown (show i < n by omega)
      obtain ⟨g', he, _, ⟨y, cy, hy⟩, fy, _⟩ := own_setAt hown (show j < n by omega)
      simp only [Option.some.injEq, Addr.mk.injEq, and_true] at he
      subst he
      have hxv : x = .int .u8 (xs.getD i 0) := by
        rw [List.getElem?_map, rvl_at (by omega), if_neg (by omega)] at hx
        exact (Option.some.inj hx).symm
      have hyv : y = .int .u8 (xs.getD j 0) := by
        rw [List.getElem?_map, rvl_at (by omega), if_neg (by omega)] at hy
        exact (Option.some.inj hy).symm
      subst hxv hyv
      have hi0 : (0 : Int) ≤ (i : Int) := by omega
      have hi2 : (i : Int) < (n : Int) := by omega
      have hj0 : (0 : Int) ≤ (j : Int) := by omega
      have hj2 : (j : Int) < (n : Int) := by omega
      have hij : ¬ i = j := by omega
      have hij' : ¬ j = i := by omega
      have hN := (own_setAt (sx (.int .u8 (xs.getD j 0))) (show j < n by omega))
      obtain ⟨g2, he2, _, _, _, sx2⟩ := hN
      simp only [Option.some.injEq, Addr.mk.injEq, and_true] at he2
      subst he2
      have HN := hid (show ((wr.setCell ⟨g, i, none⟩ (.int .u8 (xs.getD j 0))).setCell ⟨g, j, none⟩ (.int .u8 (xs.getD i 0))).ownsRow base 5 1 (.slice (some ⟨g, 0, none⟩) n c) n ((rvl xs (i + 1)).map ub) ∧ Below base W ((wr.setCell ⟨g, i, none⟩ (.int .u8 (xs.getD j 0))).setCell ⟨g, j, none⟩ (.int .u8 (xs.getD i 0))) from by
        refine ⟨?_, below_put (below_put hb hg) hg⟩
        have h9 := sx2 (.int .u8 (xs.getD i 0))
        rw [← rvl_step (by omega), List.map_set, List.map_set]
        rw [HL.out.1, ← hj]
        exact h9)
      clear hown hb sx sx2 hx hy hj
      go_wp2
      go_region
      all_goals
        go_wp2
        go_roundg (gk - 1)
        case measure => omega
        case rel =>
          have h1 := HN.out.1
          have h2 := HN.out.2
          simp only [List.getD_eq_getElem?_getD] at h1 h2
          exact ⟨i + 1, by go_num, by congr 1; omega, by omega, by omega, h1, h2.drew⟩
    · have hlt' : ¬ (i : Int) < (n : Int) - 1 - (i : Int) := by omega
      have hi2 : i ≤ n := by omega
      rw [rvl_end (by omega) (by omega)] at hown
      have HX := hid (And.intro hown hb)
      clear hown hb
      go_wp2
      go_end0
      exact ⟨rfl, by simpa using HX.out.1, HX.out.2⟩
theorem strs_take (V : List Vis) : ∀ n, n ≤ V.length → strs (V.take n) = (strs V).take n := by
  have key : ∀ (m : Nat) (V : List Vis), V.length = m → ∀ n, n ≤ m → strs (V.take n) = (strs V).take n := by
    intro m
    induction m with
    | zero => intro V h n hn; rw [List.length_eq_zero_iff.1 h]; simp [strs]
    | succ m ih =>
      intro V h n hn
      obtain ⟨U, v, rfl⟩ : ∃ U v, V = U ++ [v] := ⟨V.dropLast, V.getLast (by intro e; rw [e] at h; simp at h), (List.dropLast_concat_getLast _).symm⟩
      have hU : U.length = m := by simpa using h
      by_cases e : n ≤ m
      · rw [List.take_append_of_le_length (by omega), strs_snoc, List.take_append_of_le_length (by rw [strs_len]; omega)]
        exact ih U hU n e
      · obtain rfl : n = m + 1 := by omega
        rw [List.take_of_length_le (by simp; omega), List.take_of_length_le (by rw [strs_len]; simp; omega)]
  exact key V.length V rfl
theorem strs_at {V : List Vis} {j : Nat} {v : Vis} (hv : V[j]? = some v) (hj : j ≠ 0) (hb : v.2.2.1 < j) : (strs V)[j]? = some ((strs V).getD v.2.2.1 [] ++ [v.2.2.2]) := by
  have hl := (List.getElem?_eq_some_iff.1 hv).1
  have h1 := strs_take V (j + 1) (by omega)
  rw [List.take_add_one, hv, Option.toList_some, strs_snoc, strs_take V j (by omega)] at h1
  have ht : ((strs V).take j).length = j := by rw [List.length_take, strs_len]; omega
  have hne : (strs V).take j ≠ [] := by intro e; rw [e] at ht; simp at ht; omega
  rw [if_neg hne] at h1
  have h2 := congrArg (fun l : List (List Nat) => l[j]?) h1
  rw [List.getElem?_append_right (l₁ := (strs V).take j) (by omega), ht, Nat.sub_self, List.getElem?_take, if_pos (Nat.lt_succ_self j)] at h2
  rw [← h2]
  simp only [List.getElem?_cons_zero, Option.some.injEq]
  congr 1
  rw [List.getD_eq_getElem?_getD, List.getD_eq_getElem?_getD, List.getElem?_take, if_pos hb]
/-- The bytes of a string of columns. -/
def byL (by_ : List Nat) (u : List Nat) : List Nat := u.map fun c => by_.getD c 0
set_option maxRecDepth 100000 in
set_option maxHeartbeats 8000000 in
theorem path_any (base : Nat) (W : World) (sb se N P : Nat) (t : TbS) (V : List Vis) (vis : Value) (h : SS base W sb se N P t V vis) (hO : Okv N P V) (hV : V.length ≤ 260000) (last : Nat) (hlast : last < V.length) (s : List Nat) (hs : (strs V)[last]? = some s) (ab : Option Addr) (m cb : Nat) (by_ : List Nat) (hB : Row W ab m ((zs by_).map iv)) (hby : ∀ b ∈ by_, b < 256) (hcol : ∀ (j : Nat) (v : Vis), V[j]? = some v → j ≠ 0 → v.2.2.2 < m) :
    Calls Try.prog 37 #[.pointer (some ⟨sb, 0, none⟩), .int .i64 (last : Int), .slice ab m cb] W fun e w' => e = .returned (.string (strOfNums (zs (byL by_ s)))) ∧ Below W.heap.size W w' := by
  obtain ⟨i0, hi, hz0, hz1, hz2⟩ := info_parts info5
  obtain ⟨va, vc, hve⟩ := own_form h.own
  subst hve
  have HS := hid (And.intro h (And.intro hO (And.intro hB (And.intro hby (And.intro hcol hs)))))
  have hml : by_.length = m := by have := hB.1; simpa [zs_len] using this
  clear h hO hB hby hcol hs
  go_enter Try.func37, Try.ntmps37
  go_wp2_with fail
  go_loopg [7, 8] last (fun kk s7 s8 wr => ∃ (i : Nat) (C : List Nat) (u : List Nat), s8 = .int .i64 (i : Int) ∧ i ≤ kk ∧ i < V.length ∧ (strs V)[i]? = some u ∧ s = u ++ C.reverse ∧ C.length + i ≤ last ∧ wr.ownsRow W.heap.size 5 1 s7 C.length ((zs (byL by_ C)).map ub) ∧ Below W.heap.size W wr)
  case atStart => exact ⟨last, [], s, rfl, Nat.le_refl _, hlast, HS.out.2.2.2.2.2, by simp, by simp, World.ownsRow_nil _ _ _ _, Below.refl _ _⟩
  case round =>
    obtain ⟨i, C, u, rfl, hk, hiV, hu, hsu, hCl, hown, hbw⟩ := hrel
    obtain ⟨a9, c9, rfl⟩ := own_form hown
    have HH := hid (And.intro hu (And.intro hsu (And.intro hown hbw)))
    by_cases hlt : i = 0
    · subst hlt
      have hu0 : u = [] := by
        obtain ⟨v, hv⟩ : ∃ v, V[0]? = some v := ⟨_, List.getElem?_eq_getElem hiV⟩
        have h1 := strs_take V 1 (by omega)
        rw [List.take_add_one, hv, List.take_zero, List.take_add_one, hu, List.take_zero] at h1
        have h2 : strs [v] = [[]] := rfl
        simp only [List.nil_append, Option.toList_some] at h1
        rw [h2] at h1
        simpa using h1.symm
      have hsC : s = C.reverse := by rw [hsu, hu0]; rfl
      have hxs : (zs (byL by_ C)).reverse = zs (byL by_ s) := by
        rw [hsC]; unfold zs byL; rw [List.map_reverse, List.map_reverse]
      have CR := hid (reverse_any wr W.heap.size a9 C.length c9 (zs (byL by_ C)) hown (by omega))
      have HXS := hid hxs
      clear hu hsu hown hbw hu0 hsC hxs
      go_wp2_with fail
      refine CR.out.mono ?_
      rintro e w5 ⟨rfl, hown5, hb5⟩
      rw [HXS.out] at hown5
      have hcv := conv_row (c := c9) (own_row' hown5)
      have HZ := hid (show Below W.heap.size W w5 from HH.out.2.2.2.trans hb5)
      clear hown5 hb5 CR
      go_wp2
      go_ret
      exact ⟨rfl, HZ.out⟩
    · have hi0 : ((i : Int) == 0) = false := by rw [beq_eq_false_iff_ne]; omega
      have hi2 : (0 : Int) ≤ (i : Int) := by omega
      have hi3 : (i : Int) < (V.length : Int) := by omega
      obtain ⟨⟨qa, qb, qf, qc⟩, hv⟩ : ∃ v, V[i]? = some v := ⟨_, List.getElem?_eq_getElem hiV⟩
      have hbf := (HS.out.2.1.bef i _ hv).resolve_left hlt
      have hcm := HS.out.2.2.2.2.1 i _ hv hlt
      have hsi := strs_at hv hlt hbf
      dsimp only at hbf hcm hsi
      have HV9 := hid hv
      have hSS := HS.out.1.keep hbw
      obtain ⟨g, rfl, p0, p1, p2, p3⟩ := own4_at hSS.own hv
      dsimp only at p0 p1 p2 p3
      obtain ⟨s0, s1, s2, s3, s4, s5⟩ := cells_of6 hSS.sbx
      obtain ⟨b6, o6, x6, rfl, _, hx6, pc6⟩ := int_at (HS.out.2.2.1.below hbw) hcm
      obtain ⟨z6, hz6⟩ : ∃ z, by_[qc]? = some z := ⟨_, List.getElem?_eq_getElem (by omega)⟩
      rw [zs_at hz6] at hx6
      obtain rfl := Option.some.inj hx6
      have hz256 := HS.out.2.2.2.1 z6 (List.mem_of_getElem? hz6)
      have hw8 : IntKind.u8.wrap (z6 : Int) = (z6 : Int) := by rw [IntKind.wrap_u8]; omega
      have hqc0 : (0 : Int) ≤ (qc : Int) := by omega
      have hqc1 : (qc : Int) < (m : Int) := by omega
      obtain ⟨u', hu'⟩ : ∃ u', u' = (strs V).getD qf [] := ⟨_, rfl⟩
      have HU := hid (show (strs V)[qf]? = some u' ∧ s = u' ++ (C ++ [qc]).reverse ∧ byL by_ (C ++ [qc]) = byL by_ C ++ [z6] from by
        refine ⟨?_, ?_, ?_⟩
        · rw [hu', List.getD_eq_getElem?_getD, List.getElem?_eq_getElem (by rw [strs_len]; omega)]; rfl
        · rw [hu] at hsi
          rw [hsu, Option.some.inj hsi, ← hu']
          simp
        · unfold byL
          rw [List.map_append]
          congr 1
          simp only [List.map_cons, List.map_nil]
          rw [List.getD_eq_getElem?_getD, hz6]; rfl)
      clear hu hsu hbw hv hsi hSS hz6 hx6 hu'
      go_wp2_with (at_builtin; refine wpList_append_own _ rfl (.tmp 20) (.tmp 33) 69 rfl W.heap.size 5 i0 (.int .u8 0) 1 1 und69 hi hz0 hz1 hz2 rfl (by decide) _ _ _ rfl (own_alloc hown _) ⟨wr.heap.size, 0, none⟩ 1 1 [.int .u8 (z6 : Int)] rfl rfl ?c1 ?c2 ?c3 ?c4 ?c5 ?_)
      first | (case c1 => exact fun j u hj => one_cell _ _ _ _ _ hj) | skip
      first | (case c2 => first | rfl | (intro u hu; simp at hu; subst hu; rfl)) | skip
      first | (case c3 => unfold maxLen; omega) | skip
      first | (case c4 => omega) | skip
      first | (case c5 => (have := HH.out.2.2.2.size; simp; omega)) | skip
      intro v' w1 hown' hgrow _
      have hb1 : Below W.heap.size W w1 := below_grown2 HH.out.2.2.2 HH.out.2.2.1 (Nat.le_refl _) hgrow HH.out.2.2.2.size
      have hown2 : w1.ownsRow W.heap.size 5 1 v' (C ++ [qc]).length ((zs (byL by_ (C ++ [qc]))).map ub) := by
        rw [HU.out.2.2, List.length_append]
        simpa [zs, ub] using hown'
      have hk1 := HS.out.1.keep hb1
      obtain ⟨t0, t1, t2, t3, t4, t5⟩ := cells_of6 hk1.sbx
      obtain ⟨g', he', q0, q1, q2, q3⟩ := own4_at (v := (qa, qb, qf, qc)) hk1.own HV9.out
      simp only [Option.some.injEq, Addr.mk.injEq, and_true] at he'
      subst he'
      dsimp only at q0 q1 q2 q3
      have HN := hid (And.intro hown2 hb1)
      clear hown' hgrow hown hown2 hb1 hk1
      go_wp2_with fail
      go_roundg qf
      case measure => omega
      case rel => exact ⟨qf, C ++ [qc], u', rfl, Nat.le_refl _, by omega, HU.out.1, HU.out.2.1, by simp; omega, HN.out.1, HN.out.2⟩
end Go.Proofs.Ytelbagaiijffdaa
