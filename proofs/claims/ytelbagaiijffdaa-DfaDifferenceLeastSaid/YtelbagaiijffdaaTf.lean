/-
  Contract: firsts.
-/
import Derived.Test.YtelbagaiijffdaaTd
set_option linter.unusedSimpArgs false
set_option linter.unusedVariables false
namespace Go.Proofs.Ytelbagaiijffdaa
open Go.RowKit Lx Go.Frame

/-- Where each number first occurs among the first i of a result of ranks. -/
def fi (ns : List Int) : Nat → List Nat
  | 0 => []
  | i + 1 => fi ns i ++ (if ns.getD i 0 = ((fi ns i).length : Int) then [i] else [])
theorem fi_len (ns : List Int) : ∀ i, (fi ns i).length ≤ i
  | 0 => Nat.le_refl _
  | i + 1 => by
    have := fi_len ns i
    rw [fi]; split <;> simp <;> omega
/-- A slice of numbers that lies behind what was there. -/
def ZRes (w : World) (l : List Nat) (e : Ending) (w' : World) : Prop := (∃ a c, e = .returned (.slice a l.length c) ∧ Row w' a l.length ((zs l).map iv)) ∧ Below w.heap.size w w'
theorem zs_snoc (l : List Nat) (i : Nat) : (zs (l ++ [i])).map iv = (zs l).map iv ++ [.int .i64 (i : Int)] := by simp [zs, iv]
set_option maxRecDepth 100000 in
set_option maxHeartbeats 4000000 in
theorem firsts_any (w : World) (a1 : Option Addr) (n1 c1 : Nat) (ns : List Int) (h1 : Row w a1 n1 (ns.map iv)) (hn1 : n1 ≤ 1000000) (out : List Nat) (hout : out = fi ns n1) :
    Calls Try.prog 28 #[.slice a1 n1 c1] w (ZRes w out) := by
  obtain ⟨i0, hi, hz0, hz1, hz2⟩ := info_parts info3
  subst hout
  have H1 := hid h1
  clear h1
  unfold ZRes
  go_enter Try.func28, Try.ntmps28
  go_wp2_with fail
  go_loopg [3, 8] n1 (fun kk s3 s8 wr => ∃ i : Nat, s8 = .int .i64 (i : Int) ∧ i + kk = n1 ∧ wr.ownsRow w.heap.size 3 1 s3 (fi ns i).length ((zs (fi ns i)).map iv) ∧ Below w.heap.size w wr)
  case atStart => exact ⟨0, rfl, by omega, World.ownsRow_nil _ _ _ _, Below.refl _ _⟩
  case round =>
    obtain ⟨i, rfl, hik, hown, hbw⟩ := hrel
    obtain ⟨a9, c9, rfl⟩ := own_form hown
    by_cases hlt : i < n1
    · have hlt' : (i : Int) < (n1 : Int) := by omega
      have hi0 : (0 : Int) ≤ (i : Int) := by omega
      have hi1 : IntKind.i64.wrap ((i : Int) + 1) = (i : Int) + 1 := wrapIn (by omega) (by omega)
      obtain ⟨b2, o2, x, rfl, _, hx, p2⟩ := int_at (H1.out.below hbw) hlt
      have hlen : (fi ns i).length ≤ 1000000 := Nat.le_trans (fi_len _ _) (by omega)
      have hel : fi ns (i + 1) = fi ns i ++ (if x = ((fi ns i).length : Int) then [i] else []) := by rw [fi, List.getD_eq_getElem?_getD, hx, Option.getD_some]
      by_cases hq : x = ((fi ns i).length : Int)
      · rw [if_pos hq] at hel
        have HH := hid (And.intro hel hbw)
        clear hel hbw hx
        go_wp2_with (at_builtin; refine wpList_append_own _ rfl (.tmp 17) (.tmp 19) 22 rfl w.heap.size 3 i0 (.int .i64 0) 1 8 Try.underlying22 hi hz0 hz1 hz2 rfl (by decide) _ _ _ rfl (own_alloc hown _) ⟨wr.heap.size, 0, none⟩ 1 1 [.int .i64 (i : Int)] rfl rfl ?c1 ?c2 ?c3 ?c4 ?c5 ?_)
        first | (case c1 => exact fun j u hj => one_cell _ _ _ _ _ hj) | skip
        first | (case c2 => first | rfl | (intro u hu; simp at hu; subst hu; rfl)) | skip
        first | (case c3 => unfold maxLen; omega) | skip
        first | (case c4 => omega) | skip
        first | (case c5 => (have := HH.out.2.size; simp; omega)) | skip
        intro v' w1 hown' hgrow _
        have hbw := HH.out.2
        have hb1 : Below w.heap.size w w1 := (hbw.alloc hbw.size _).grown hgrow (by have := hbw.size; simp; omega) (fun k hk => (hown.lt k hk).1)
        have hown2 : w1.ownsRow w.heap.size 3 1 v' (fi ns (i + 1)).length ((zs (fi ns (i + 1))).map iv) := by
          rw [HH.out.1, zs_snoc]
          simpa using hown'
        have HN := hid (And.intro hown2 hb1)
        clear hown' hgrow hown hbw hb1 hown2
        go_wp2
        go_roundg (gk - 1)
        case measure => omega
        case rel => exact ⟨i + 1, by go_num, by omega, HN.out.1, HN.out.2⟩
      · rw [if_neg hq, List.append_nil] at hel
        have HH := hid (And.intro hel (And.intro hbw hown))
        clear hel hbw hx hown
        go_wp2
        go_roundg (gk - 1)
        case measure => omega
        case rel => exact ⟨i + 1, by go_num, by omega, by rw [HH.out.1]; exact HH.out.2.2, HH.out.2.1⟩
    · have hlt' : ¬ (i : Int) < (n1 : Int) := by omega
      obtain rfl : i = n1 := by omega
      have HX := hid (And.intro (own_row' hown) hbw)
      clear hown hbw
      go_wp2
      go_ret
      exact ⟨⟨a9, ⟨c9, rfl⟩, HX.out.1⟩, HX.out.2⟩
end Go.Proofs.Ytelbagaiijffdaa
