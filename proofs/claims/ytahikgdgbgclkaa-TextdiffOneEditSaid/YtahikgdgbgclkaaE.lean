/-
  Contracts: Distance, runEnd, Diff.
-/
import Derived.Test.YtahikgdgbgclkaaD
import Derived.Test.YtahikgdgbgclkaaEv
import Derived.Laws.OwnMore
set_option linter.unusedSimpArgs false
set_option linter.unusedVariables false
namespace Go.Proofs.Ytahikgdgbgclkaa
open Go.RowKit Te Go.Frame

theorem Distance_any (a b : ByteArray) (w : World) (ha : a.size ≤ 10000) (hb : b.size ≤ 10000) :
    Calls Try.prog 12 #[.string a, .string b] w fun e w' => e = .returned (.int .i64 (D a b 0 0 : Int)) ∧ Below w.heap.size w w' := by
  go_enter Try.func12, Try.ntmps12
  go_wp2_with fail
  refine (newTable_any a b w ha hb).mono ?_
  rintro e w1 ⟨⟨g, T, rfl, hT, hD, hg⟩, b1⟩
  have HD := hid hD
  clear hD
  unfold tbv
  go_wp2_with fail
  refine (distance_any a b g 0 0 T w1 ha hb (Nat.zero_le _) (Nat.zero_le _) hT).mono ?_
  rintro e w2 ⟨rfl, b2⟩
  rw [HD.out 0 0 (Nat.zero_le _) (Nat.zero_le _)]
  go_wp2
  go_ret
  exact ⟨rfl, b1.trans (b2.mono b1.size)⟩

set_option maxRecDepth 100000 in
set_option maxHeartbeats 2000000 in
theorem runEnd_any (a b : ByteArray) (g i0 j0 : Nat) (T : Nat → Int) (w : World) (ha : a.size ≤ 10000) (hb : b.size ≤ 10000) (hi : i0 ≤ a.size) (hj : j0 ≤ b.size) (h : Tb w g (nn a b) T) (hT : ∀ i j, i ≤ a.size → j ≤ b.size → T (ix b i j) = (D a b i j : Int)) :
    Calls Try.prog 26 #[tbv a b g (nn a b), .int .i64 i0, .int .i64 j0] w fun e w' => e = .returned (.tuple #[.int .i64 ((re a b i0 j0).1 : Int), .int .i64 ((re a b i0 j0).2 : Int)]) ∧ Below w.heap.size w w' := by
  obtain ⟨W, hW⟩ : ∃ W, W = w.alloc (.cells #[.string a, .string b, .slice (some ⟨g, 0, none⟩) (nn a b) (nn a b)] 40) := ⟨_, rfl⟩
  have bW : Below w.heap.size w W := by rw [hW]; exact (Below.refl _ _).alloc (Nat.le_refl _) _
  have C0 := hid (show ∀ w', Below W.heap.size W w' → _ from by rw [hW]; exact tb_cells (w := w) a b g (nn a b))
  have HT := hid (fun w' (hw : Below W.heap.size W w') => h.below (bW.trans (hw.mono bW.size)))
  have HD := hid hT
  have HW := hid hW
  clear h hT hW
  unfold tbv
  go_enter Try.func26, Try.ntmps26
  go_wp2_with fail
  rw [← HW.out]
  go_loopg [1, 2] ((a.size - i0) + (b.size - j0)) (fun k p q wr => ∃ i j : Nat, p = .int .i64 i ∧ q = .int .i64 j ∧ k = (a.size - i) + (b.size - j) ∧ i ≤ a.size ∧ j ≤ b.size ∧ re a b i j = re a b i0 j0 ∧ Below W.heap.size W wr)
  case atStart => exact ⟨i0, j0, rfl, rfl, rfl, hi, hj, rfl, Below.refl _ _⟩
  case round =>
    obtain ⟨i, j, rfl, rfl, hk, hi1, hj1, hre, hbw⟩ := hrel
    obtain ⟨c0, c1, c2⟩ := C0.out _ hbw
    have HB := hid hbw
    have HR := hid hre
    clear hbw hre
    go_wp2_with fail
    refine (exhausted_any a b g (nn a b) i j _ ha hb hi1 hj1).mono ?_
    rintro e w1 ⟨rfl, b1⟩
    have hb1 := HB.out.trans (b1.mono HB.out.size)
    have HB1 := hid hb1
    obtain ⟨d0, d1, d2⟩ := C0.out _ hb1
    clear b1 hb1
    by_cases hl : i < a.size ∨ j < b.size
    · rw [decide_eq_false (show ¬ ¬ (i < a.size ∨ j < b.size) from fun h => h hl)]
      have HL := hid hl
      clear hl
      go_wp2_with fail
      refine (matches_any a b g (nn a b) i j _ ha hb hi1 hj1).mono ?_
      rintro e w2 ⟨rfl, b2⟩
      have hb2 := HB1.out.trans (b2.mono HB1.out.size)
      have HB2 := hid hb2
      obtain ⟨e0, e1, e2⟩ := C0.out _ hb2
      have T2 := hid (HT.out _ hb2)
      clear b2 hb2 d0 d1 d2 c0 c1 c2
      by_cases hm : Mt a b i j
      · rw [decide_eq_true hm]
        have hre : re a b i j = (i, j) := re_stop (.inr hm)
        have HM := hid hm
        clear hm
        go_wp2
        go_ret2
        rw [← HR.out, hre]
        exact ⟨rfl, bW.trans (HB2.out.mono bW.size)⟩
      · rw [decide_eq_false hm]
        have HM := hid hm
        clear hm
        go_wp2_with fail
        refine (deletes_any a b g i j T _ ha hb hi1 hj1 HL.out T2.out HD.out).mono ?_
        rintro e w3 ⟨rfl, b3⟩
        have hb3 := HB2.out.trans (b3.mono HB2.out.size)
        have HB3 := hid hb3
        clear b3 hb3 e0 e1 e2
        by_cases hd : Dl a b i j
        · rw [decide_eq_true hd]
          have hi2 := hd.1
          have hre := re_del HL.out HM.out hd
          have HE := hid hre
          clear hre hd
          go_wp2
          go_roundg ((a.size - (i + 1)) + (b.size - j))
          case measure => omega
          case rel => exact ⟨i + 1, j, by go_num, rfl, rfl, by omega, hj1, by rw [← HE.out, HR.out], HB3.out⟩
        · rw [decide_eq_false hd]
          have hj2 := (D_ins HM.out hd HL.out).1
          have hre := re_ins HL.out HM.out hd
          have HE := hid hre
          clear hre hd
          go_wp2
          go_roundg ((a.size - i) + (b.size - (j + 1)))
          case measure => omega
          case rel => exact ⟨i, j + 1, rfl, by go_num, rfl, hi1, by omega, by rw [← HE.out, HR.out], HB3.out⟩
    · rw [decide_eq_true hl]
      have hre : re a b i j = (i, j) := re_stop (.inl hl)
      have HL := hid hl
      clear hl
      go_wp2
      go_ret2
      rw [← HR.out, hre]
      exact ⟨rfl, bW.trans (HB1.out.mono bW.size)⟩
theorem info30 : (Try.prog.info? 30).map (fun i => (i.zero, i.size, i.bytes)) = some (some (.agg #[.int .i64 0, .int .i64 0, .string { data := #[] }]), 3, 32) := by kernel_rfl
/-- What Diff comes to. -/
def DfRes (a b : ByteArray) (w : World) (e : Ending) (w' : World) : Prop :=
  (∃ p c, e = .returned (.slice p (dg a b 0 0 none).length c) ∧ ERow w' p (dg a b 0 0 none).length (dg a b 0 0 none)) ∧ Below w.heap.size w w'
set_option maxRecDepth 100000 in
set_option maxHeartbeats 4000000 in
theorem Diff_any (a b : ByteArray) (w : World) (ha : a.size ≤ 10000) (hb : b.size ≤ 10000) : Calls Try.prog 15 #[.string a, .string b] w fun e w' => DfRes a b w e w' := by
  obtain ⟨i0, hi, hz0, hz1, hz2⟩ := info_parts info30
  go_enter Try.func15, Try.ntmps15
  go_wp2_with fail
  refine (newTable_any a b w ha hb).mono ?_
  rintro e w1 ⟨⟨g, T, rfl, hT, hD, hg⟩, b1⟩
  have HD := hid hD
  have H1 := hid (And.intro hT b1)
  clear hD hT b1
  unfold tbv
  go_wp2_with fail
  obtain ⟨W, hW⟩ : ∃ W, W = w1.alloc (.cells #[.string a, .string b, .slice (some ⟨g, 0, none⟩) (nn a b) (nn a b)] 40) := ⟨_, rfl⟩
  obtain ⟨hT, b1⟩ := H1.out
  have bx : Below w1.heap.size w1 W := by rw [hW]; exact (Below.refl _ _).alloc (Nat.le_refl _) _
  have bW := hid (b1.trans (bx.mono b1.size))
  have C0 := hid (show ∀ w', Below W.heap.size W w' → _ from by rw [hW]; exact tb_cells (w := w1) a b g (nn a b))
  have HT := hid (fun w' (hw : Below W.heap.size W w') => hT.below (bx.trans (hw.mono bx.size)))
  rw [← hW]
  clear hT b1 bx hW H1
  go_loopg [6, 7, 8] (a.size + b.size) (fun k v p q wr => ∃ (i j : Nat) (out : List Ed), p = .int .i64 i ∧ q = .int .i64 j ∧ k = (a.size - i) + (b.size - j) ∧ i ≤ a.size ∧ j ≤ b.size ∧ out.length ≤ i + j ∧
    out ++ dg a b i j none = dg a b 0 0 none ∧ wr.ownsRow W.heap.size 30 3 v out.length (ev out) ∧ Below W.heap.size W wr)
  case atStart => exact ⟨0, 0, [], rfl, rfl, by omega, Nat.zero_le _, Nat.zero_le _, Nat.zero_le _, rfl, World.ownsRow_nil _ _ _ _, Below.refl _ _⟩
  case round =>
    obtain ⟨i, j, out, rfl, rfl, hk, hi1, hj1, hol, hdg, hown, hbw⟩ := hrel
    obtain ⟨c0, c1, c2⟩ := C0.out _ hbw
    have HB := hid hbw
    have HR := hid hdg
    have HO := hid hown
    clear hbw hdg hown
    go_wp2_with fail
    refine (exhausted_any a b g (nn a b) i j _ ha hb hi1 hj1).mono ?_
    rintro e w2 ⟨rfl, b2⟩
    have hb2 := HB.out.trans (b2.mono HB.out.size)
    have HB2 := hid hb2
    have HO2 := hid (ownsRow_keep HO.out fun k hk => b2.block k (HO.out.lt k hk).2)
    obtain ⟨d0, d1, d2⟩ := C0.out _ hb2
    clear b2 hb2 c0 c1 c2
    by_cases hl : i < a.size ∨ j < b.size
    · rw [decide_eq_false (show ¬ ¬ (i < a.size ∨ j < b.size) from fun h => h hl)]
      have HL := hid hl
      clear hl
      go_wp2_with fail
      refine (matches_any a b g (nn a b) i j _ ha hb hi1 hj1).mono ?_
      rintro e w3 ⟨rfl, b3⟩
      have hb3 := HB2.out.trans (b3.mono HB2.out.size)
      have HB3 := hid hb3
      have HO3 := hid (ownsRow_keep HO2.out fun k hk => b3.block k (HO2.out.lt k hk).2)
      obtain ⟨e0, e1, e2⟩ := C0.out _ hb3
      have T3 := hid (HT.out _ hb3)
      clear b3 hb3 d0 d1 d2
      by_cases hm : Mt a b i j
      · rw [decide_eq_true hm]
        have h1 := hm.1
        have h2 := hm.2.1
        have HE := hid (dg_mt hm)
        clear hm
        go_wp2
        go_roundg ((a.size - (i + 1)) + (b.size - (j + 1)))
        case measure => omega
        case rel => exact ⟨i + 1, j + 1, out, by go_num, by go_num, rfl, by omega, by omega, by omega, by rw [← HE.out, HR.out], HO3.out, HB3.out⟩
      · rw [decide_eq_false hm]
        have HM := hid hm
        clear hm
        go_wp2_with fail
        refine (runEnd_any a b g i j T _ ha hb hi1 hj1 T3.out HD.out).mono ?_
        rintro e w4 ⟨rfl, b4⟩
        have hb4 := HB3.out.trans (b4.mono HB3.out.size)
        have HB4 := hid hb4
        have HO4 := hid (ownsRow_keep HO3.out fun k hk => b4.block k (HO3.out.lt k hk).2)
        clear b4 hb4 e0 e1 e2
        obtain ⟨q1, q2⟩ := dg_run HL.out HM.out
        obtain ⟨⟨r1, r2, r3⟩, _⟩ := dg_re a b i j
        obtain ⟨r4, r5⟩ := r3 hi1 hj1
        have HQ := hid q1
        clear q1 r3
        obtain ⟨x, hx⟩ : ∃ x, x = (re a b i j).1 := ⟨_, rfl⟩
        obtain ⟨y, hy⟩ : ∃ y, y = (re a b i j).2 := ⟨_, rfl⟩
        rw [← hx, ← hy] at HQ q2 ⊢
        rw [← hx] at r1 r4
        rw [← hy] at r2 r5
        have HX := hid hx
        have HY := hid hy
        clear hx hy
        have y1 : (j : Int) ≤ (y : Int) := by omega
        have y2 : (y : Int) ≤ (b.size : Int) := by omega
        have y3 : (0 : Int) ≤ (j : Int) := by omega
        have y4 : (0 : Int) ≤ (y : Int) := by omega
        have x1 : IntKind.i64.wrap ((x : Int) - (i : Int)) = ((x - i : Nat) : Int) := by rw [wrapIn (by omega) (by omega)]; omega
        have hown := HO4.out
        go_wp2_with (at_builtin; refine wpList_append_own _ rfl (.tmp 34) (.tmp 44) 27 rfl W.heap.size 30 i0 _ 3 32 Try.underlying27 hi hz0 hz1 hz2 rfl (by decide) _ _ _ rfl (own_alloc hown _) ⟨w4.heap.size, 0, none⟩ 1 1 [.int .i64 (i : Int), .int .i64 ((x - i : Nat) : Int), .string (b.extract j y)] rfl rfl ?c1 ?c2 ?c3 ?c4 ?c5 ?_)
        case c1 => exact World.news_of_block (alloc_new _ _)
        case c2 => intro u hu; simp at hu; rcases hu with rfl | rfl | rfl <;> rfl
        case c3 => unfold maxLen; omega
        case c4 => omega
        case c5 => have := HB4.out.size; simp; omega
        intro v' w5 hown' hgrow _
        have hb5 : Below W.heap.size W w5 := (HB4.out.alloc HB4.out.size _).grown hgrow (by have := HB4.out.size; simp; omega) (fun k hk => (hown.lt k hk).1)
        have hown2 : w5.ownsRow W.heap.size 30 3 v' (out ++ [ed b i j x y]).length (ev (out ++ [ed b i j x y])) := by
          rw [ev_app, List.length_append]
          simpa [ev, ed] using hown'
        have HO5 := hid hown2
        have HB5 := hid hb5
        clear hown' hgrow hown hown2 hb5
        go_wp2
        go_roundg ((a.size - x) + (b.size - y))
        case measure => omega
        case rel => exact ⟨x, y, out ++ [ed b i j x y], rfl, rfl, rfl, r4, r5, by simp; omega, by rw [← HR.out, HQ.out, List.append_assoc]; rfl, HO5.out, HB5.out⟩
    · rw [decide_eq_true hl]
      have hout : out = dg a b 0 0 none := by have := HR.out; rw [dg_end hl, List.append_nil] at this; exact this
      have HO3 := HO2.out
      rw [hout] at HO3
      obtain ⟨p, c, hv, hrow⟩ := own_erow HO3
      have HRR := hid hrow
      clear hl hrow HO3
      subst hv
      go_wp2
      go_ret
      exact ⟨⟨p, c, rfl, HRR.out⟩, bW.out.trans (HB2.out.mono bW.out.size)⟩
end Go.Proofs.Ytahikgdgbgclkaa
