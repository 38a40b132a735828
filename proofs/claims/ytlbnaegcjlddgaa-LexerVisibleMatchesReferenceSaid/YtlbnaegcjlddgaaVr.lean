/-
  Contract: the reference's Visible.
-/
import Derived.Test.YtlbnaegcjlddgaaV
set_option linter.unusedSimpArgs false
set_option linter.unusedVariables false
namespace Go.Proofs.Ytlbnaegcjlddgaa
open Go.RowKit Lx Go.Frame

set_option maxRecDepth 100000 in
set_option maxHeartbeats 4000000 in
theorem RVisible_any (w : World) (E : List DQ) (ad : Option Addr) (nd cd : Nat) (lo : Bool) (m1 m2 : Int) (h : SRow w ad nd E) (a : Option Addr) (n c : Nat) (l : List TQ) (hT : TRow w a n l) (hn : n ≤ 1000000) :
    Calls Try.prog 18 #[.agg #[.slice ad nd cd, .bool lo, .int .i64 m1, .int .i64 m2], .slice a n c] w (TRes w (vis E l)) := by
  have HS := hid h
  have HT := hid hT
  have HL := hid (And.intro hT.len h.len)
  have hle := h.le
  obtain ⟨W, hW⟩ : ∃ W, W = w.alloc (.cells #[.slice ad nd cd, .bool lo, .int .i64 m1, .int .i64 m2] 39) := ⟨_, rfl⟩
  have x1 := alloc_new w (.cells #[.slice ad nd cd, .bool lo, .int .i64 m1, .int .i64 m2] 39)
  have bW := bel1 w (.cells #[.slice ad nd cd, .bool lo, .int .i64 m1, .int .i64 m2] 39)
  rw [← hW] at x1 bW
  have HW := hid (And.intro x1 bW)
  clear h hT x1 bW
  obtain ⟨i0, hi, hz0, hz1, hz2⟩ := info_parts info32
  go_enter Try.func18, Try.ntmps18
  go_upto_region 1 with fail
  rw [← hW]
  clear hW
  go_wp2_with fail
  go_loopg [5, 6] n (fun kk s5 s6 wr => ∃ (i : Nat) (out : List TQ), s6 = .int .i64 (i : Int) ∧ i + kk = n ∧ Hid (out = vis E (l.take i)) ∧
    wr.ownsRow W.heap.size 32 4 s5 out.length (tl out) ∧ wr.heap[w.heap.size]? = some (.cells #[.slice ad nd cd, .bool lo, .int .i64 m1, .int .i64 m2] 39 (0, 0)) ∧ Below W.heap.size W wr)
  case atStart => exact ⟨0, [], rfl, by omega, hid rfl, World.ownsRow_nil _ _ _ _, HW.out.1, Below.refl _ _⟩
  case round =>
    obtain ⟨i, out, rfl, hk, HR, hown, hx, hb⟩ := hrel
    by_cases hlt : i < n
    · have hlt' : (i : Int) < (n : Int) := by omega
      have hi0 : (0 : Int) ≤ (i : Int) := by omega
      have hii : IntKind.i64.wrap ((i : Int) + 1) = (i : Int) + 1 := wrapIn (by omega) (by omega)
      have hbw := HW.out.2.trans (hb.mono HW.out.2.size)
      obtain ⟨b, o, ⟨xk, xa, xs, xl⟩, rfl, _, hx', x0, x1, x2, x3⟩ := trow_at (HT.out.below hbw) hlt
      simp only at x0 x1 x2 x3
      have HV := hid (vis_snoc (E := E) hx')
      simp only at HV
      have hol := hid (show out.length < 1000001 from by rw [HR.out]; have := vis_len E l i; have := HL.out; omega)
      have HO := hid hown
      have HX := hid hx
      have HB := hid hb
      have HSR := hid (HS.out.below hbw)
      have XC := hid (And.intro x0 (And.intro x1 (And.intro x2 x3)))
      obtain ⟨d0, d1, d2, d3⟩ := cells4 hx
      clear hx' hown hx hb hbw x1 x2 x3
      by_cases g0 : 0 ≤ xk
      · by_cases g1 : xk < (nd : Int)
        · obtain ⟨m, rfl⟩ : ∃ m : Nat, xk = (m : Int) := ⟨xk.toNat, by omega⟩
          obtain ⟨bs, os, d, rfl, hd, q⟩ := drow_at HSR.out (i := m) (by omega)
          obtain ⟨dk, hdk⟩ : ∃ dk, dk = d.2.1 := ⟨_, rfl⟩
          have HSK := hid (show sk E (m : Int) = decide (dk = 2) from by rw [hdk]; exact sk_in hd)
          rw [← hdk] at q
          clear hd hdk
          by_cases g2 : dk = 2
          · subst g2
            have HVF := hid (show out = vis E (l.take (i + 1)) from by rw [HV.out, HR.out, HSK.out]; simp)
            go_wp2
            go_roundg (gk - 1)
            case measure => omega
            case rel => exact ⟨i + 1, out, by go_num, by omega, HVF, HO.out, HX.out, HB.out⟩
          · have g3 : (dk == 2) = false := by simpa using g2
            have HVF := hid (show out ++ [((m : Int), xa, xs, xl)] = vis E (l.take (i + 1)) from by rw [HV.out, HR.out, HSK.out, decide_eq_false g2]; rfl)
            obtain ⟨x0, x1, x2, x3⟩ := XC.out
            have hown := HO.out
            go_wp2_with (at_builtin; refine wpList_append_own _ rfl (.tmp 37) (.tmp 42) 29 rfl W.heap.size 32 i0 _ 4 40 Try.underlying29 hi hz0 hz1 hz2 rfl (by decide) _ _ _ rfl (own_alloc hown _) ⟨wr.heap.size, 0, none⟩ 1 1 (tqv ((m : Int), xa, xs, xl)) rfl rfl ?c1 ?c2 ?c3 ?c4 ?c5 ?_)
            case c1 => first | exact World.news_of_block (alloc_new _ _) | exact fun j u h => h
            case c2 => exact tqv_one
            case c3 => have := hol.out; unfold maxLen; omega
            case c4 => have := hol.out; omega
            case c5 => have := HB.out.size; simp; omega
            intro v' Y hown' hgrow _
            have bY : Below W.heap.size W Y := (HB.out.alloc HB.out.size _).grown hgrow (by have := HB.out.size; simp; omega) (fun k hk => (hown.lt k hk).1)
            have hown2 : Y.ownsRow W.heap.size 32 4 v' (out ++ [((m : Int), xa, xs, xl)]).length (tl (out ++ [((m : Int), xa, xs, xl)])) := by
              rw [tl_app, tl_one, List.length_append]
              exact hown'
            have HOY := hid hown2
            have HXY := hid ((bY.block _ (heap_lt HW.out.1)).trans HW.out.1)
            have HBY := hid bY
            clear hown hown2 hgrow hown' bY
            go_wp2
            go_roundg (gk - 1)
            case measure => omega
            case rel => exact ⟨i + 1, _, by go_num, by omega, HVF, HOY.out, HXY.out, HBY.out⟩
        · have HVF := hid (show out ++ [(xk, xa, xs, xl)] = vis E (l.take (i + 1)) from by rw [HV.out, HR.out, sk_hi (by have := HL.out.2; omega)]; rfl)
          obtain ⟨x0, x1, x2, x3⟩ := XC.out
          have hown := HO.out
          go_wp2_with (at_builtin; refine wpList_append_own _ rfl (.tmp 37) (.tmp 42) 29 rfl W.heap.size 32 i0 _ 4 40 Try.underlying29 hi hz0 hz1 hz2 rfl (by decide) _ _ _ rfl (own_alloc hown _) ⟨wr.heap.size, 0, none⟩ 1 1 (tqv (xk, xa, xs, xl)) rfl rfl ?c1 ?c2 ?c3 ?c4 ?c5 ?_)
          case c1 => first | exact World.news_of_block (alloc_new _ _) | exact fun j u h => h
          case c2 => exact tqv_one
          case c3 => have := hol.out; unfold maxLen; omega
          case c4 => have := hol.out; omega
          case c5 => have := HB.out.size; simp; omega
          intro v' Y hown' hgrow _
          have bY : Below W.heap.size W Y := (HB.out.alloc HB.out.size _).grown hgrow (by have := HB.out.size; simp; omega) (fun k hk => (hown.lt k hk).1)
          have hown2 : Y.ownsRow W.heap.size 32 4 v' (out ++ [(xk, xa, xs, xl)]).length (tl (out ++ [(xk, xa, xs, xl)])) := by
            rw [tl_app, tl_one, List.length_append]
            exact hown'
          have HOY := hid hown2
          have HXY := hid ((bY.block _ (heap_lt HW.out.1)).trans HW.out.1)
          have HBY := hid bY
          clear hown hown2 hgrow hown' bY
          go_wp2
          go_roundg (gk - 1)
          case measure => omega
          case rel => exact ⟨i + 1, _, by go_num, by omega, HVF, HOY.out, HXY.out, HBY.out⟩
      · have HVF := hid (show out ++ [(xk, xa, xs, xl)] = vis E (l.take (i + 1)) from by rw [HV.out, HR.out, sk_lo g0]; rfl)
        obtain ⟨x0, x1, x2, x3⟩ := XC.out
        have hown := HO.out
        go_wp2_with (at_builtin; refine wpList_append_own _ rfl (.tmp 37) (.tmp 42) 29 rfl W.heap.size 32 i0 _ 4 40 Try.underlying29 hi hz0 hz1 hz2 rfl (by decide) _ _ _ rfl (own_alloc hown _) ⟨wr.heap.size, 0, none⟩ 1 1 (tqv (xk, xa, xs, xl)) rfl rfl ?c1 ?c2 ?c3 ?c4 ?c5 ?_)
        case c1 => first | exact World.news_of_block (alloc_new _ _) | exact fun j u h => h
        case c2 => exact tqv_one
        case c3 => have := hol.out; unfold maxLen; omega
        case c4 => have := hol.out; omega
        case c5 => have := HB.out.size; simp; omega
        intro v' Y hown' hgrow _
        have bY : Below W.heap.size W Y := (HB.out.alloc HB.out.size _).grown hgrow (by have := HB.out.size; simp; omega) (fun k hk => (hown.lt k hk).1)
        have hown2 : Y.ownsRow W.heap.size 32 4 v' (out ++ [(xk, xa, xs, xl)]).length (tl (out ++ [(xk, xa, xs, xl)])) := by
          rw [tl_app, tl_one, List.length_append]
          exact hown'
        have HOY := hid hown2
        have HXY := hid ((bY.block _ (heap_lt HW.out.1)).trans HW.out.1)
        have HBY := hid bY
        clear hown hown2 hgrow hown' bY
        go_wp2
        go_roundg (gk - 1)
        case measure => omega
        case rel => exact ⟨i + 1, _, by go_num, by omega, HVF, HOY.out, HXY.out, HBY.out⟩
    · have hlt' : ¬ (i : Int) < (n : Int) := by omega
      have hall : out = vis E l := by rw [HR.out, List.take_of_length_le (by have := HL.out.1; omega)]
      rw [hall] at hown
      obtain ⟨p, c, rfl, hrow⟩ := own_trow hown
      have HF := hid (And.intro hrow (HW.out.2.trans (hb.mono HW.out.2.size)))
      clear hrow hown hb
      go_wp2
      go_ret
      exact ⟨⟨p, c, rfl, HF.out.1⟩, HF.out.2⟩
end Go.Proofs.Ytlbnaegcjlddgaa
