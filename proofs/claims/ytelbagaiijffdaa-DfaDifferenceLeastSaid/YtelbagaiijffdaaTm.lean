/-
  Contract: columnsOf.
-/
import Derived.Test.YtelbagaiijffdaaTl
set_option linter.unusedSimpArgs false
set_option linter.unusedVariables false
namespace Go.Proofs.Ytelbagaiijffdaa
open Go.RowKit Lx Go.Frame

set_option maxRecDepth 100000 in
set_option maxHeartbeats 4000000 in
theorem columns_any (w : World) (a1 : Option Addr) (n1 c1 : Nat) (rows : List (List Int)) (m : Nat) (h1 : Rows2 w a1 n1 rows) (h0 : 0 < n1) (hn1 : n1 ≤ 1000000) (hm : m ≤ 1000000) (hrow : ∀ r ∈ rows, r.length = m) (out : List ByteArray) (hout : out = (List.range m).map fun c => strOfNums (kbs (col rows c))) :
    Calls Try.prog 31 #[.slice a1 n1 c1] w (SRes w out) := by
  obtain ⟨i0, hi, hz0, hz1, hz2⟩ := info_parts info3
  have hlo : out.length = m := by rw [hout]; simp
  obtain ⟨b0, o0, r0, ra0, rc0, rfl, _, hr0, p0, hrw0, _⟩ := row_at h1 h0
  have hr0m : r0.length = m := hrow r0 (List.mem_of_getElem? hr0)
  rw [hr0m, Nat.add_zero] at p0
  have hn0' : (0 : Int) < (n1 : Int) := by omega
  have HH := hid (And.intro h1 (And.intro hrow (And.intro hout (And.intro hlo h1.1))))
  have hmk := fun V => make_s V m hm
  obtain ⟨W, hW⟩ : ∃ W, W = w.alloc (.cells (zsr m) 9) := ⟨_, rfl⟩
  have HW := hid (show SB W w.heap.size (sfil out 0) ∧ Below w.heap.size w W from by rw [hW, sfil_zero, hlo]; exact ⟨alloc_new _ _, bel1 _ _⟩)
  unfold SRes
  rw [hlo]
  clear h1 hout hlo hrow hr0 hrw0
  go_enter Try.func31, Try.ntmps31
  go_wp2_with fail
  rw [← hW]
  clear hW hmk
  go_loopg [15] m (fun kk s15 wr => ∃ c : Nat, s15 = .int .i64 (c : Int) ∧ c + kk = m ∧ SB wr w.heap.size (sfil out c) ∧ Below w.heap.size w wr)
  case atStart => exact ⟨0, rfl, by omega, HW.out.1, HW.out.2⟩
  case round =>
    obtain ⟨c, rfl, hk, hI, hb⟩ := hrel
    have HB := hid hb
    have HI := hid hI
    by_cases hlt : c < m
    · have hlt' : (c : Int) < (m : Int) := by omega
      have hc0 : (0 : Int) ≤ (c : Int) := by omega
      have hc1 : IntKind.i64.wrap ((c : Int) + 1) = (c : Int) + 1 := wrapIn (by omega) (by omega)
      have hoi : out[c]? = some (strOfNums (kbs (col rows c))) := by rw [HH.out.2.2.1, List.getElem?_map, List.getElem?_range hlt]; rfl
      have HO := hid hoi
      clear hb hI hoi
      go_wp2_with fail
      obtain ⟨V, rfl⟩ : ∃ V, V = wr := ⟨_, rfl⟩
      obtain ⟨g1, rfl⟩ : ∃ g1, g1 = gk := ⟨_, rfl⟩
      go_loopg [5, 20] n1 (fun kk s5 s20 wi => ∃ i : Nat, s20 = .int .i64 (i : Int) ∧ i + kk = n1 ∧ wi.ownsRow V.heap.size 3 1 s5 i ((col (rows.take i) c).map iv) ∧ Below V.heap.size V wi)
      case atStart => exact ⟨0, rfl, by omega, by simpa [col] using World.ownsRow_nil _ _ _ _, Below.refl _ _⟩
      case round =>
        obtain ⟨i, rfl, hik, hown, hbw⟩ := hrel
        obtain ⟨a9, c9, rfl⟩ := own_form hown
        have hbw2 : Below w.heap.size w wr := HB.out.trans (hbw.mono HB.out.size)
        by_cases hil : i < n1
        · have hil' : (i : Int) < (n1 : Int) := by omega
          have hi0 : (0 : Int) ≤ (i : Int) := by omega
          have hi1 : IntKind.i64.wrap ((i : Int) + 1) = (i : Int) + 1 := wrapIn (by omega) (by omega)
          obtain ⟨b1, o1, r, ra, rc, he, _, hr, p1, hrw, _⟩ := row_at (HH.out.1.below hbw2) hil
          simp only [Option.some.injEq, Addr.mk.injEq, and_true] at he
          obtain ⟨rfl, rfl⟩ := he
          have hrm : r.length = m := HH.out.2.1 r (List.mem_of_getElem? hr)
          rw [hrm] at p1 hrw
          obtain ⟨b2, o2, x, rfl, _, hx, p2⟩ := int_at hrw hlt
          have hel : col (rows.take (i + 1)) c = col (rows.take i) c ++ [x] := by rw [col_succ hr, List.getD_eq_getElem?_getD, hx]; rfl
          have HE := hid (And.intro hel hbw)
          clear hel hbw hx hr hrw hbw2
          go_wp2_with (at_builtin; refine wpList_append_own _ rfl (.tmp 24) (.tmp 29) 22 rfl V.heap.size 3 i0 (.int .i64 0) 1 8 Try.underlying22 hi hz0 hz1 hz2 rfl (by decide) _ _ _ rfl (own_alloc hown _) ⟨wr.heap.size, 0, none⟩ 1 1 [.int .i64 x] rfl rfl ?c1 ?c2 ?c3 ?c4 ?c5 ?_)
          first | (case c1 => exact fun j u hj => one_cell _ _ _ _ _ hj) | skip
          first | (case c2 => first | rfl | (intro u hu; simp at hu; subst hu; rfl)) | skip
          first | (case c3 => unfold maxLen; omega) | skip
          first | (case c4 => omega) | skip
          first | (case c5 => (have := HE.out.2.size; simp; omega)) | skip
          intro v' w1 hown' hgrow _
          have hbw := HE.out.2
          have hb1 : Below V.heap.size V w1 := (hbw.alloc hbw.size _).grown hgrow (by have := hbw.size; simp; omega) (fun k hk => (hown.lt k hk).1)
          have hown2 : w1.ownsRow V.heap.size 3 1 v' (i + 1) ((col (rows.take (i + 1)) c).map iv) := by
            rw [HE.out.1, List.map_append]
            simpa [iv] using hown'
          have HN := hid (And.intro hown2 hb1)
          clear hown' hgrow hown hbw hb1 hown2
          go_wp2
          go_roundg (gk - 1)
          case measure => omega
          case rel => exact ⟨i + 1, by go_num, by omega, HN.out.1, HN.out.2⟩
        · have hil' : ¬ (i : Int) < (n1 : Int) := by omega
          obtain rfl : i = n1 := by omega
          have hrw := own_row' hown
          rw [List.take_of_length_le (by have := HH.out.2.2.2.2; omega)] at hrw
          have KK := hid (key_any wr a9 i c9 (col rows c) hrw hn1 _ rfl)
          have HX := hid (And.intro hbw hbw2)
          clear hown hbw hbw2 hrw
          go_wp2_with fail
          refine KK.out.mono ?_
          rintro e w5 ⟨rfl, hb5⟩
          have hbV : Below V.heap.size V w5 := HX.out.1.trans (hb5.mono HX.out.1.size)
          have hb5' : Below w.heap.size w w5 := HX.out.2.trans (hb5.mono HX.out.2.size)
          have hI5 := HI.out.keep hbV
          have hfr : w5.frozen? ⟨w.heap.size, c, none⟩ = false := Go.Frame.free hI5 c
          obtain ⟨z, q0⟩ := hI5.cell (i := c) (by rw [sfil_len out (by have := HH.out.2.2.2.1; omega), HH.out.2.2.2.1]; exact hlt)
          have HN := hid (show SB (w5.setCell ⟨w.heap.size, c, none⟩ (.string (strOfNums (kbs (col rows c))))) w.heap.size (sfil out (c + 1)) ∧ Below w.heap.size w (w5.setCell ⟨w.heap.size, c, none⟩ (.string (strOfNums (kbs (col rows c))))) from by rw [← sfil_set HO.out]; exact ⟨hI5.set _, below_put hb5' (Nat.le_refl _)⟩)
          clear hbV hb5' hI5 hb5
          go_wp2
          go_roundg (g1 - 1)
          case measure => omega
          case rel => exact ⟨c + 1, by go_num, by omega, HN.out.1, HN.out.2⟩
    · have hlt' : ¬ (c : Int) < (m : Int) := by omega
      have hin : c = out.length := by have := HH.out.2.2.2.1; omega
      rw [hin, sfil_all] at hI
      have HI := hid hI
      clear hI hb hin
      go_wp2
      go_ret
      exact ⟨⟨w.heap.size, rfl, HI.out, Nat.le_refl _⟩, HB.out⟩
end Go.Proofs.Ytelbagaiijffdaa
