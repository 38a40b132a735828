/-
  Contracts: the reference's Distance, Diff.
-/
import Derived.Test.YtahikgdgbgclkaaH
import Derived.Test.YtahikgdgbgclkaaE
set_option linter.unusedSimpArgs false
set_option linter.unusedVariables false
namespace Go.Proofs.Ytahikgdgbgclkaa
open Go.RowKit Te Go.Frame

set_option maxRecDepth 100000 in
set_option maxHeartbeats 2000000 in
theorem rDistance_any (a b : ByteArray) (w : World) (ha : a.size ≤ 10000) (hb : b.size ≤ 10000) :
    Calls Try.prog 13 #[.string a, .string b] w fun e w' => e = .returned (.int .i64 (D a b 0 0 : Int)) ∧ Below w.heap.size w w' := by
  have hx := ix_lt (a := a) (b := b) (Nat.zero_le _) (Nat.zero_le _)
  have e0 : ix b 0 0 = 0 := by unfold ix; omega
  rw [e0] at hx
  have x1 : (0 : Int) < ((nn a b : Nat) : Int) := by omega
  go_enter Try.func13, Try.ntmps13
  go_wp2_with fail
  refine (Table_any a b w ha hb).mono ?_
  rintro e w1 ⟨⟨g, T, rfl, hT, hD⟩, b1⟩
  have c0 : w1.cell? ⟨g, 0, none⟩ = some (.int .i64 (D a b 0 0 : Int)) := by
    rw [← hD 0 0 (Nat.zero_le _) (Nat.zero_le _), e0]; simp only [World.cell?, hT]; exact tr_at _ hx
  clear hT hD
  go_wp2
  go_ret
  exact ⟨rfl, b1⟩
theorem ed_nil (b : ByteArray) (i j : Nat) : ed b i j i j = ((i : Int), (0 : Int), { data := #[] }) := by
  have e1 : ((i - i : Nat) : Int) = 0 := by omega
  have e2 : b.extract j j = { data := #[] } := by
    apply L_inj
    rw [L_ex, List.drop_eq_nil_of_le (by rw [List.length_take]; omega)]
    rfl
  unfold ed
  rw [e1, e2]
theorem ed_del {b : ByteArray} {i0 j0 i j : Nat} (h : i0 ≤ i) : ed b i0 j0 (i + 1) j = ((ed b i0 j0 i j).1, (ed b i0 j0 i j).2.1 + 1, (ed b i0 j0 i j).2.2) := by
  unfold ed
  simp only [Prod.mk.injEq, true_and, and_true]
  omega
theorem ed_ins {b : ByteArray} {i0 j0 i j : Nat} (h : j0 ≤ j) : ed b i0 j0 i (j + 1) = ((ed b i0 j0 i j).1, (ed b i0 j0 i j).2.1, (ed b i0 j0 i j).2.2 ++ b.extract j (j + 1)) := by
  unfold ed
  simp only [Prod.mk.injEq, true_and]
  apply L_inj
  rw [L_app, L_ex, L_ex, L_ex, cut_cut _ h (Nat.le_succ j)]

set_option maxRecDepth 100000 in
set_option maxHeartbeats 8000000 in
theorem rDiff_any (a b : ByteArray) (w : World) (ha : a.size ≤ 10000) (hb : b.size ≤ 10000) : Calls Try.prog 16 #[.string a, .string b] w fun e w' => DfRes a b w e w' := by
  obtain ⟨i0, hi, hz0, hz1, hz2⟩ := info_parts info30
  have a1 : (a.size : Int) ≤ 10000 := by omega
  have b1 : (b.size : Int) ≤ 10000 := by omega
  go_enter Try.func16, Try.ntmps16
  go_wp2_with fail
  refine (Table_any a b w ha hb).mono ?_
  rintro e w1 ⟨⟨g, T, rfl, hT, hD⟩, bw1⟩
  have HD := hid hD
  have H1 := hid (And.intro hT bw1)
  have lg := heap_lt hT
  have lw := bw1.size
  clear hD hT bw1
  go_wp2_with fail
  obtain ⟨B, hB⟩ : ∃ B, B = w1.heap.size := ⟨_, rfl⟩
  have HB := hid hB
  rw [← hB] at lg lw ⊢
  obtain ⟨W, hW⟩ : ∃ W, W = w1.alloc (.cells #[.int .i64 0, .int .i64 0, .string { data := #[] }] 30) := ⟨_, rfl⟩
  have xB : W.heap[B]? = some (.cells #[.int .i64 0, .int .i64 0, .string { data := #[] }] 30 (0, 0)) := by rw [hW, hB]; exact alloc_new _ _
  have xG : W.heap[g]? = some (.cells (tr (nn a b) T) 3 (0, 0)) := by rw [hW]; exact blk_alloc H1.out.1
  have xW : Below w.heap.size w W := by rw [hW]; exact H1.out.2.alloc H1.out.2.size _
  rw [← hW]
  clear hW hB H1
  go_loopg [7, 9, 10, 11] (a.size + b.size) (fun k v op p q wr => ∃ (i j : Nat) (out : List Ed) (r : Option (Nat × Nat)) (x y : Int) (z : ByteArray), op = .bool r.isSome ∧ p = .int .i64 i ∧ q = .int .i64 j ∧ k = (a.size - i) + (b.size - j) ∧ i ≤ a.size ∧ j ≤ b.size ∧ out.length ≤ i + j ∧
    out ++ dg a b i j r = dg a b 0 0 none ∧ wr.ownsRow (B + 1) 30 3 v out.length (ev out) ∧ wr.heap[B]? = some (.cells #[.int .i64 x, .int .i64 y, .string z] 30 (0, 0)) ∧ (∀ q, r = some q → q.1 ≤ i ∧ q.2 ≤ j ∧ (x, y, z) = ed b q.1 q.2 i j) ∧
    wr.heap[g]? = some (.cells (tr (nn a b) T) 3 (0, 0)) ∧ Below w.heap.size w wr)
  case atStart => exact ⟨0, 0, [], none, 0, 0, _, rfl, rfl, rfl, by omega, Nat.zero_le _, Nat.zero_le _, Nat.zero_le _, rfl, World.ownsRow_nil _ _ _ _, xB, (fun q h => by cases h), xG, xW⟩
  case round =>
    obtain ⟨i, j, out, r, x, y, z, rfl, rfl, rfl, hk, hi1, hj1, hol, hdg, hown, hblk, hr, htab, hbw⟩ := hrel
    clear xB xG xW
    have hi2 : (i : Int) ≤ (a.size : Int) := by omega
    have hj2 : (j : Int) ≤ (b.size : Int) := by omega
    have hi0 : (0 : Int) ≤ (i : Int) := by omega
    have hj0 : (0 : Int) ≤ (j : Int) := by omega
    have lB := heap_lt hblk
    have HR := hid hr
    have HG := hid hdg
    have HO := hid hown
    have HK := hid (And.intro hblk (And.intro htab hbw))
    obtain ⟨c0, c1, c2⟩ := cells3 hblk
    obtain ⟨f0, f1, f2⟩ := frozen3 hblk
    clear hr hdg hown hblk htab hbw
    by_cases hl : i < a.size ∨ j < b.size
    · by_cases hm : Mt a b i j
      · have h1 := hm.1
        have h2 := hm.2.1
        have h1' : (i : Int) < (a.size : Int) := by omega
        have h2' : (j : Int) < (b.size : Int) := by omega
        have d1 : decide ((i : Int) < (a.size : Int)) = true := decide_eq_true h1'
        have d2 : decide ((j : Int) < (b.size : Int)) = true := decide_eq_true h2'
        have hc := byte_eq.1 ((mt_iff h1 h2).1 hm)
        have HM := hid hm
        clear hm hl
        cases r with
        | none =>
          have HE := hid (dg_mt HM.out)
          go_wp2_with fail
          go_quiet (fail)
          go_wp2
          go_roundg ((a.size - (i + 1)) + (b.size - (j + 1)))
          case measure => omega
          case rel => exact ⟨i + 1, j + 1, out, none, x, y, z, rfl, by go_num, by go_num, rfl, by omega, by omega, by omega, by rw [← HE.out, HG.out], HO.out, HK.out.1, (fun q h => by cases h), HK.out.2.1, below_drewN HK.out.2.2 _⟩
        | some q =>
          obtain ⟨q1, q2, q3⟩ := HR.out q rfl
          have HE := hid (dg_mt_run q HM.out)
          have HQ := hid q3
          have hown := HO.out
          clear q3
          go_wp2_with fail
          go_quiet (fail)
          obtain ⟨V, hV⟩ : ∃ V, V = wr.drewN nq := ⟨_, rfl⟩
          have hown := ownsRow_keep (w' := V) hown (fun k _ => by rw [hV]; rfl)
          have HK' := hid (show V.heap[B]? = some (.cells #[.int .i64 x, .int .i64 y, .string z] 30 (0, 0)) ∧ V.heap[g]? = some (.cells (tr (nn a b) T) 3 (0, 0)) ∧ Below w.heap.size w V by rw [hV]; exact ⟨HK.out.1, HK.out.2.1, below_drewN HK.out.2.2 _⟩)
          rw [← hV]
          obtain ⟨c0, c1, c2⟩ := cells3 HK'.out.1
          have lV := heap_lt HK'.out.1
          clear hV
          go_wp2_with (at_builtin; refine wpList_append_own _ rfl (.tmp 49) (.tmp 51) 27 rfl (B + 1) 30 i0 _ 3 32 Try.underlying27 hi hz0 hz1 hz2 rfl (by decide) _ _ _ rfl (own_alloc hown _) ⟨V.heap.size, 0, none⟩ 1 1 [.int .i64 x, .int .i64 y, .string z] rfl rfl ?c1 ?c2 ?c3 ?c4 ?c5 ?_)
          case c1 => exact World.news_of_block (alloc_new _ _)
          case c2 => intro u hu; simp at hu; rcases hu with rfl | rfl | rfl <;> rfl
          case c3 => unfold maxLen; omega
          case c4 => omega
          case c5 => simp; omega
          intro v' w5 hown' hgrow _
          have hb5 : Below (B + 1) V w5 := ((Below.refl (B + 1) V).alloc (by omega) _).grown hgrow (by simp; omega) (fun k hk => (hown.lt k hk).1)
          have hown2 : w5.ownsRow (B + 1) 30 3 v' (out ++ [ed b q.1 q.2 i j]).length (ev (out ++ [ed b q.1 q.2 i j])) := by
            rw [ev_app, List.length_append, ← HQ.out]
            simpa [ev] using hown'
          have HO5 := hid hown2
          have HB5 := hid hb5
          clear hown' hgrow hown hown2 hb5
          go_wp2
          go_roundg ((a.size - (i + 1)) + (b.size - (j + 1)))
          case measure => omega
          case rel => exact ⟨i + 1, j + 1, out ++ [ed b q.1 q.2 i j], none, x, y, z, rfl, by go_num, by go_num, rfl, by omega, by omega, by simp; omega, by rw [← HG.out, HE.out, List.append_assoc]; rfl, HO5.out, (HB5.out.block _ (by omega)).trans HK'.out.1, (fun q h => by cases h), (HB5.out.block _ (by omega)).trans HK'.out.2.1, HK'.out.2.2.trans (HB5.out.mono (by omega))⟩
      · have HM := hid hm
        have HL := hid hl
        have e9 : ∀ (h1 : i < a.size) (h2 : j < b.size), ¬ ((a[i]'h1).toNat : Int) = ((b[j]'h2).toNat : Int) := fun h1 h2 e => hm ((mt_iff h1 h2).2 (byte_eq.2 e))
        have H9 := hid e9
        clear hm e9
        cases r with
        | none =>
          have hw : (i < a.size ∧ j < b.size) ∨ ¬ j < b.size ∨ ¬ i < a.size := by omega
          rcases hw with hw | hw | hw
          · obtain ⟨h1, h2⟩ := hw
            have h1' : (i : Int) < (a.size : Int) := by omega
            have h2' : (j : Int) < (b.size : Int) := by omega
            have d1 : decide ((i : Int) < (a.size : Int)) = true := decide_eq_true h1'
            have d2 : decide ((j : Int) < (b.size : Int)) = true := decide_eq_true h2'
            have hc := H9.out h1 h2
            obtain ⟨r', hr'⟩ : ∃ r' : Option (Nat × Nat), r' = none := ⟨_, rfl⟩
            go_wp2_with fail
            go_quiet (fail)
            go_wp2_with fail
            obtain ⟨V, hV⟩ : ∃ V, V = ((((wr.drewN nq).setCell ⟨B, 0, none⟩ (.int .i64 (i : Int))).setCell ⟨B, 1, none⟩ (.int .i64 0)).setCell ⟨B, 2, none⟩ (.string { data := #[] })) := ⟨_, rfl⟩
            obtain ⟨x, hx⟩ : ∃ x, x = (i : Int) := ⟨_, rfl⟩
            obtain ⟨y, hy⟩ : ∃ y : Int, y = 0 := ⟨_, rfl⟩
            obtain ⟨z, hz⟩ : ∃ z : ByteArray, z = { data := #[] } := ⟨_, rfl⟩
            have HV := hid (show V.heap[B]? = some (.cells #[.int .i64 x, .int .i64 y, .string z] 30 (0, 0)) ∧ V.heap[g]? = some (.cells (tr (nn a b) T) 3 (0, 0)) ∧ Below w.heap.size w V ∧ V.ownsRow (B + 1) 30 3 _ out.length (ev out) by
              rw [hV, hx, hy, hz]
              exact ⟨three_set (show (wr.drewN nq).heap[B]? = _ from HK.out.1), far3 (show (wr.drewN nq).heap[g]? = _ from HK.out.2.1) (by omega), below_put (below_put (below_put (below_drewN HK.out.2.2 _) lw) lw) lw,
                ownsRow_setCell_below (ownsRow_setCell_below (ownsRow_setCell_below (show (wr.drewN nq).ownsRow _ _ _ _ _ _ from HO.out) (a := ⟨B, 0, none⟩) (by show B < _; omega) _) (a := ⟨B, 1, none⟩) (by show B < _; omega) _) (a := ⟨B, 2, none⟩) (by show B < _; omega) _⟩)
            have HX := hid (show (r'.getD (i, j)).1 ≤ i ∧ (r'.getD (i, j)).2 ≤ j ∧ (x, y, z) = ed b (r'.getD (i, j)).1 (r'.getD (i, j)).2 i j by rw [hr', hx, hy, hz]; exact ⟨Nat.le_refl _, Nat.le_refl _, (ed_nil b i j).symm⟩)
            have HG := hid (show out ++ dg a b i j r' = dg a b 0 0 none by rw [hr']; exact HG.out)
            rw [← hV]
            clear c0 c1 c2 f0 f1 f2 HK HO HR hV
            obtain ⟨k0, k1, k2⟩ := cells3 HV.out.1
            obtain ⟨g0, g1, g2⟩ := frozen3 HV.out.1
            have lV := heap_lt HV.out.1
            have hyb : 0 ≤ y ∧ y ≤ 10000 := by
              have := congrArg (fun e => e.2.1) HX.out.2.2
              simp only [ed] at this
              omega
            have hzb : z.size ≤ 10000 := by
              have := congrArg (fun e => e.2.2.size) HX.out.2.2
              simp only [ed_size hj1] at this
              omega
            clear hx hy hz
            have e1 : ((j : Int) == (b.size : Int)) = false := by simp; omega
            have hjl : j < b.size := h2
            have hia : i < a.size := h1
            have k0 : IntKind.i64.wrap ((i : Int) + 1) = (i : Int) + 1 := wrapIn (by omega) (by omega)
            have hy1 := ix_lt (a := a) (b := b) (i := i + 1) (j := j) (by omega) (by omega)
            have hy2 := ix_lt (a := a) (b := b) (i := i) (j := j + 1) (by omega) (by omega)
            have hx := ix_lt (a := a) (b := b) (i := i) (j := j) (by omega) (by omega)
            have hn := nn_le ha hb
            have y1 : (0 : Int) ≤ (ix b (i + 1) j : Int) := by omega
            have y2 : ((ix b (i + 1) j : Nat) : Int) < ((nn a b : Nat) : Int) := by omega
            have y3 : (0 : Int) ≤ (ix b i (j + 1) : Int) := by omega
            have y4 : ((ix b i (j + 1) : Nat) : Int) < ((nn a b : Nat) : Int) := by omega
            have m0 : IntKind.i64.wrap ((i : Int) * ((b.size : Int) + 1)) = (ix b i 0 : Int) := by
              have e0 := ix_int (b := b) i 0
              have := ix_lt (a := a) (b := b) (i := i) (j := 0) (by omega) (Nat.zero_le b.size)
              simp only [Int.natCast_zero, Int.add_zero] at e0
              rw [e0]; exact wrapIn (by omega) (by omega)
            have m1 : IntKind.i64.wrap ((ix b i 0 : Int) + (j : Int)) = (ix b i j : Int) := by
              rw [show (ix b i 0 : Int) + (j : Int) = (ix b i j : Int) by unfold ix; push_cast; omega]; exact wrapIn (by omega) (by omega)
            have m2 : IntKind.i64.wrap ((ix b i j : Int) + 1) = (ix b i (j + 1) : Int) := by
              rw [show (ix b i j : Int) + 1 = (ix b i (j + 1) : Int) by unfold ix; push_cast; omega]; exact wrapIn (by omega) (by omega)
            have m3 : IntKind.i64.wrap (((i : Int) + 1) * ((b.size : Int) + 1)) = (ix b (i + 1) 0 : Int) := by
              have e0 := ix_int (b := b) (i + 1) 0
              have := ix_lt (a := a) (b := b) (i := i + 1) (j := 0) (by omega) (Nat.zero_le b.size)
              push_cast at e0
              simp only [Int.add_zero] at e0
              rw [e0]; exact wrapIn (by omega) (by omega)
            have m4 : IntKind.i64.wrap ((ix b (i + 1) 0 : Int) + (j : Int)) = (ix b (i + 1) j : Int) := by
              rw [show (ix b (i + 1) 0 : Int) + (j : Int) = (ix b (i + 1) j : Int) by unfold ix; push_cast; omega]; exact wrapIn (by omega) (by omega)
            have t1 : V.cell? ⟨g, ix b (i + 1) j, none⟩ = some (.int .i64 (D a b (i + 1) j : Int)) := by
              rw [← HD.out (i + 1) j (by omega) (by omega)]; simp only [World.cell?, HV.out.2.1]; exact tr_at _ hy1
            have t2 : V.cell? ⟨g, ix b i (j + 1), none⟩ = some (.int .i64 (D a b i (j + 1) : Int)) := by
              rw [← HD.out i (j + 1) (by omega) (by omega)]; simp only [World.cell?, HV.out.2.1]; exact tr_at _ hy2
            by_cases hle : D a b (i + 1) j ≤ D a b i (j + 1)
            · have hd : Dl a b i j := ⟨hia, .inr hle⟩
              have HE := hid (dg_del r' HL.out HM.out hd)
              have HF := hid (ed_del (b := b) (j := j) (j0 := (r'.getD (i, j)).2) HX.out.1)
              have hle' : (D a b (i + 1) j : Int) ≤ (D a b i (j + 1) : Int) := by omega
              have hlt := hia
              clear hd
              have w1 : IntKind.i64.wrap (y + 1) = y + 1 := wrapIn (by have := hyb.1; omega) (by have := hyb.2; omega)
              go_quiet (fail)
              obtain ⟨U, hU⟩ : ∃ U, U = V.drewN nq := ⟨_, rfl⟩
              have HU := hid (show U.heap[B]? = some (.cells #[.int .i64 x, .int .i64 y, .string z] 30 (0, 0)) ∧ U.heap[g]? = some (.cells (tr (nn a b) T) 3 (0, 0)) ∧ Below w.heap.size w U ∧ U.ownsRow (B + 1) 30 3 _ out.length (ev out) by rw [hU]; exact ⟨HV.out.1, HV.out.2.1, below_drewN HV.out.2.2.1 _, HV.out.2.2.2⟩)
              rw [← hU]
              clear hU k0 k1 k2 g0 g1 g2
              obtain ⟨k0, k1, k2⟩ := cells3 HU.out.1
              obtain ⟨g0, g1, g2⟩ := frozen3 HU.out.1
              go_wp2
              go_roundg ((a.size - (i + 1)) + (b.size - j))
              case measure => omega
              case rel => exact ⟨i + 1, j, out, some (r'.getD (i, j)), x, y + 1, z, rfl, by go_num, rfl, rfl, by omega, hj1, by omega, by rw [← HE.out, HG.out], ownsRow_setCell_below HU.out.2.2.2 (a := ⟨B, 1, none⟩) (by show B < _; omega) _, blk_put (k := 1) HU.out.1, (fun q h => by cases h; exact ⟨by have := HX.out.1; omega, HX.out.2.1, by rw [HF.out, ← HX.out.2.2]⟩), (blk_set HU.out.2.1 (by show g ≠ B; omega)), below_put HU.out.2.2.1 lw⟩
            · have hd : ¬ Dl a b i j := fun h => by have := h.2; omega
              have HE := hid (dg_ins r' HL.out HM.out hd)
              have HF := hid (ed_ins (b := b) (i := i) (i0 := (r'.getD (i, j)).1) HX.out.2.1)
              have hle' : ¬ (D a b (i + 1) j : Int) ≤ (D a b i (j + 1) : Int) := by omega
              clear hd
              have s0 : (j : Int) ≤ (j : Int) + 1 := by omega
              have s1 : (j : Int) + 1 ≤ (b.size : Int) := by omega
              have s2 : (0 : Int) ≤ (j : Int) + 1 := by omega
              have s3 : IntKind.i64.wrap ((j : Int) + 1) = (j : Int) + 1 := wrapIn (by omega) (by omega)
              have s4 : (b.extract j (j + 1)).size ≤ 10000 := by rw [ByteArray.size_extract]; omega
              have s5 : ¬ 9223372036854775807 < z.size + (b.extract j (j + 1)).size := by omega
              go_quiet (fail)
              go_wp2_with fail
              obtain ⟨U, hU⟩ : ∃ U, U = V.drewN nq := ⟨_, rfl⟩
              have HU := hid (show U.heap[B]? = some (.cells #[.int .i64 x, .int .i64 y, .string z] 30 (0, 0)) ∧ U.heap[g]? = some (.cells (tr (nn a b) T) 3 (0, 0)) ∧ Below w.heap.size w U ∧ U.ownsRow (B + 1) 30 3 _ out.length (ev out) by rw [hU]; exact ⟨HV.out.1, HV.out.2.1, below_drewN HV.out.2.2.1 _, HV.out.2.2.2⟩)
              rw [← hU]
              have lU := heap_lt HU.out.1
              clear hU k0 k1 k2 g0 g1 g2
              refine (wpIn_wide (n := 0)).1 (wpIn_region_below_tail 9 free_wide (by kernel_rfl) (by kernel_rfl) (by kernel_rfl) ?_)
              intro X f _ hf hs
              have l2 := fun x => (cells3 (((hf.out x).block _ lU).trans HU.out.1)).2.2
              simp only [List.take_succ_cons, List.take_zero, List.drop_succ_cons, List.drop_zero]
              repeat (go_big_quiet_step (fail))
              refine wpQuiet_nil ?_
              intro Y hY
              have yB := (hY.block _ lU).trans HU.out.1
              have HYB := hid (show Y.heap[B]? = some (.cells #[.int .i64 x, .int .i64 y, .string z] 30 (0, 0)) ∧ Y.heap[g]? = some (.cells (tr (nn a b) T) 3 (0, 0)) ∧ Below w.heap.size w Y ∧ Y.ownsRow (B + 1) 30 3 _ out.length (ev out) from
                ⟨yB, (hY.block _ (by omega)).trans HU.out.2.1, HU.out.2.2.1.trans (hY.mono HU.out.2.2.1.size), ownsRow_keep HU.out.2.2.2 fun k hk => hY.block k (HU.out.2.2.2.lt k hk).2⟩)
              obtain ⟨_, _, m2'⟩ := cells3 yB
              have n2' := free yB 2
              clear yB hY l2 hf hs
              gi_wp2
              go_wp2
              go_roundg ((a.size - i) + (b.size - (j + 1)))
              case measure => omega
              case rel => exact ⟨i, j + 1, out, some (r'.getD (i, j)), x, y, z ++ b.extract j (j + 1), rfl, rfl, by go_num, rfl, hi1, by omega, by omega, by rw [← HE.out, HG.out], ownsRow_setCell_below HYB.out.2.2.2 (a := ⟨B, 2, none⟩) (by show B < _; omega) _, blk_put (k := 2) HYB.out.1, (fun q h => by cases h; exact ⟨HX.out.1, by have := HX.out.2.1; omega, by rw [HF.out, ← HX.out.2.2]⟩), (blk_set HYB.out.2.1 (by show g ≠ B; omega)), below_put HYB.out.2.2.1 lw⟩
          · have h2' : ¬ (j : Int) < (b.size : Int) := by omega
            have h1' : (i : Int) < (a.size : Int) := by have := HL.out; omega
            have d1 : decide ((i : Int) < (a.size : Int)) = true := decide_eq_true h1'
            have d2 : decide ((j : Int) < (b.size : Int)) = false := decide_eq_false h2'
            obtain ⟨r', hr'⟩ : ∃ r' : Option (Nat × Nat), r' = none := ⟨_, rfl⟩
            go_wp2_with fail
            go_quiet (fail)
            go_wp2_with fail
            obtain ⟨V, hV⟩ : ∃ V, V = ((((wr.drewN nq).setCell ⟨B, 0, none⟩ (.int .i64 (i : Int))).setCell ⟨B, 1, none⟩ (.int .i64 0)).setCell ⟨B, 2, none⟩ (.string { data := #[] })) := ⟨_, rfl⟩
            obtain ⟨x, hx⟩ : ∃ x, x = (i : Int) := ⟨_, rfl⟩
            obtain ⟨y, hy⟩ : ∃ y : Int, y = 0 := ⟨_, rfl⟩
            obtain ⟨z, hz⟩ : ∃ z : ByteArray, z = { data := #[] } := ⟨_, rfl⟩
            have HV := hid (show V.heap[B]? = some (.cells #[.int .i64 x, .int .i64 y, .string z] 30 (0, 0)) ∧ V.heap[g]? = some (.cells (tr (nn a b) T) 3 (0, 0)) ∧ Below w.heap.size w V ∧ V.ownsRow (B + 1) 30 3 _ out.length (ev out) by
              rw [hV, hx, hy, hz]
              exact ⟨three_set (show (wr.drewN nq).heap[B]? = _ from HK.out.1), far3 (show (wr.drewN nq).heap[g]? = _ from HK.out.2.1) (by omega), below_put (below_put (below_put (below_drewN HK.out.2.2 _) lw) lw) lw,
                ownsRow_setCell_below (ownsRow_setCell_below (ownsRow_setCell_below (show (wr.drewN nq).ownsRow _ _ _ _ _ _ from HO.out) (a := ⟨B, 0, none⟩) (by show B < _; omega) _) (a := ⟨B, 1, none⟩) (by show B < _; omega) _) (a := ⟨B, 2, none⟩) (by show B < _; omega) _⟩)
            have HX := hid (show (r'.getD (i, j)).1 ≤ i ∧ (r'.getD (i, j)).2 ≤ j ∧ (x, y, z) = ed b (r'.getD (i, j)).1 (r'.getD (i, j)).2 i j by rw [hr', hx, hy, hz]; exact ⟨Nat.le_refl _, Nat.le_refl _, (ed_nil b i j).symm⟩)
            have HG := hid (show out ++ dg a b i j r' = dg a b 0 0 none by rw [hr']; exact HG.out)
            rw [← hV]
            clear c0 c1 c2 f0 f1 f2 HK HO HR hV
            obtain ⟨k0, k1, k2⟩ := cells3 HV.out.1
            obtain ⟨g0, g1, g2⟩ := frozen3 HV.out.1
            have lV := heap_lt HV.out.1
            have hyb : 0 ≤ y ∧ y ≤ 10000 := by
              have := congrArg (fun e => e.2.1) HX.out.2.2
              simp only [ed] at this
              omega
            have hzb : z.size ≤ 10000 := by
              have := congrArg (fun e => e.2.2.size) HX.out.2.2
              simp only [ed_size hj1] at this
              omega
            clear hx hy hz
            have hjb : j = b.size := by omega
            have hd : Dl a b i j := ⟨by omega, .inl (by omega)⟩
            have HE := hid (dg_del r' HL.out HM.out hd)
            have HF := hid (ed_del (b := b) (j := j) (j0 := (r'.getD (i, j)).2) HX.out.1)
            have e1 : ((j : Int) == (b.size : Int)) = true := by simp [hjb]
            have hlt : i < a.size := hd.1
            clear hd hjb
            have w1 : IntKind.i64.wrap (y + 1) = y + 1 := wrapIn (by have := hyb.1; omega) (by have := hyb.2; omega)
            go_quiet (fail)
            obtain ⟨U, hU⟩ : ∃ U, U = V.drewN nq := ⟨_, rfl⟩
            have HU := hid (show U.heap[B]? = some (.cells #[.int .i64 x, .int .i64 y, .string z] 30 (0, 0)) ∧ U.heap[g]? = some (.cells (tr (nn a b) T) 3 (0, 0)) ∧ Below w.heap.size w U ∧ U.ownsRow (B + 1) 30 3 _ out.length (ev out) by rw [hU]; exact ⟨HV.out.1, HV.out.2.1, below_drewN HV.out.2.2.1 _, HV.out.2.2.2⟩)
            rw [← hU]
            clear hU k0 k1 k2 g0 g1 g2
            obtain ⟨k0, k1, k2⟩ := cells3 HU.out.1
            obtain ⟨g0, g1, g2⟩ := frozen3 HU.out.1
            go_wp2
            go_roundg ((a.size - (i + 1)) + (b.size - j))
            case measure => omega
            case rel => exact ⟨i + 1, j, out, some (r'.getD (i, j)), x, y + 1, z, rfl, by go_num, rfl, rfl, by omega, hj1, by omega, by rw [← HE.out, HG.out], ownsRow_setCell_below HU.out.2.2.2 (a := ⟨B, 1, none⟩) (by show B < _; omega) _, blk_put (k := 1) HU.out.1, (fun q h => by cases h; exact ⟨by have := HX.out.1; omega, HX.out.2.1, by rw [HF.out, ← HX.out.2.2]⟩), (blk_set HU.out.2.1 (by show g ≠ B; omega)), below_put HU.out.2.2.1 lw⟩
          · have h1' : ¬ (i : Int) < (a.size : Int) := by omega
            have h2' : (j : Int) < (b.size : Int) := by have := HL.out; omega
            have d1 : decide ((i : Int) < (a.size : Int)) = false := decide_eq_false h1'
            have d2 : decide ((j : Int) < (b.size : Int)) = true := decide_eq_true h2'
            obtain ⟨r', hr'⟩ : ∃ r' : Option (Nat × Nat), r' = none := ⟨_, rfl⟩
            go_wp2_with fail
            go_quiet (fail)
            go_wp2_with fail
            obtain ⟨V, hV⟩ : ∃ V, V = ((((wr.drewN nq).setCell ⟨B, 0, none⟩ (.int .i64 (i : Int))).setCell ⟨B, 1, none⟩ (.int .i64 0)).setCell ⟨B, 2, none⟩ (.string { data := #[] })) := ⟨_, rfl⟩
            obtain ⟨x, hx⟩ : ∃ x, x = (i : Int) := ⟨_, rfl⟩
            obtain ⟨y, hy⟩ : ∃ y : Int, y = 0 := ⟨_, rfl⟩
            obtain ⟨z, hz⟩ : ∃ z : ByteArray, z = { data := #[] } := ⟨_, rfl⟩
            have HV := hid (show V.heap[B]? = some (.cells #[.int .i64 x, .int .i64 y, .string z] 30 (0, 0)) ∧ V.heap[g]? = some (.cells (tr (nn a b) T) 3 (0, 0)) ∧ Below w.heap.size w V ∧ V.ownsRow (B + 1) 30 3 _ out.length (ev out) by
              rw [hV, hx, hy, hz]
              exact ⟨three_set (show (wr.drewN nq).heap[B]? = _ from HK.out.1), far3 (show (wr.drewN nq).heap[g]? = _ from HK.out.2.1) (by omega), below_put (below_put (below_put (below_drewN HK.out.2.2 _) lw) lw) lw,
                ownsRow_setCell_below (ownsRow_setCell_below (ownsRow_setCell_below (show (wr.drewN nq).ownsRow _ _ _ _ _ _ from HO.out) (a := ⟨B, 0, none⟩) (by show B < _; omega) _) (a := ⟨B, 1, none⟩) (by show B < _; omega) _) (a := ⟨B, 2, none⟩) (by show B < _; omega) _⟩)
            have HX := hid (show (r'.getD (i, j)).1 ≤ i ∧ (r'.getD (i, j)).2 ≤ j ∧ (x, y, z) = ed b (r'.getD (i, j)).1 (r'.getD (i, j)).2 i j by rw [hr', hx, hy, hz]; exact ⟨Nat.le_refl _, Nat.le_refl _, (ed_nil b i j).symm⟩)
            have HG := hid (show out ++ dg a b i j r' = dg a b 0 0 none by rw [hr']; exact HG.out)
            rw [← hV]
            clear c0 c1 c2 f0 f1 f2 HK HO HR hV
            obtain ⟨k0, k1, k2⟩ := cells3 HV.out.1
            obtain ⟨g0, g1, g2⟩ := frozen3 HV.out.1
            have lV := heap_lt HV.out.1
            have hyb : 0 ≤ y ∧ y ≤ 10000 := by
              have := congrArg (fun e => e.2.1) HX.out.2.2
              simp only [ed] at this
              omega
            have hzb : z.size ≤ 10000 := by
              have := congrArg (fun e => e.2.2.size) HX.out.2.2
              simp only [ed_size hj1] at this
              omega
            clear hx hy hz
            have hjl : j < b.size := by omega
            have e1 : ((j : Int) == (b.size : Int)) = false := by simp; omega
            have hd : ¬ Dl a b i j := fun h => hw h.1
            have HE := hid (dg_ins r' HL.out HM.out hd)
            have HF := hid (ed_ins (b := b) (i := i) (i0 := (r'.getD (i, j)).1) HX.out.2.1)
            clear hd
            have s0 : (j : Int) ≤ (j : Int) + 1 := by omega
            have s1 : (j : Int) + 1 ≤ (b.size : Int) := by omega
            have s2 : (0 : Int) ≤ (j : Int) + 1 := by omega
            have s3 : IntKind.i64.wrap ((j : Int) + 1) = (j : Int) + 1 := wrapIn (by omega) (by omega)
            have s4 : (b.extract j (j + 1)).size ≤ 10000 := by rw [ByteArray.size_extract]; omega
            have s5 : ¬ 9223372036854775807 < z.size + (b.extract j (j + 1)).size := by omega
            go_quiet (fail)
            go_wp2_with fail
            obtain ⟨U, hU⟩ : ∃ U, U = V.drewN nq := ⟨_, rfl⟩
            have HU := hid (show U.heap[B]? = some (.cells #[.int .i64 x, .int .i64 y, .string z] 30 (0, 0)) ∧ U.heap[g]? = some (.cells (tr (nn a b) T) 3 (0, 0)) ∧ Below w.heap.size w U ∧ U.ownsRow (B + 1) 30 3 _ out.length (ev out) by rw [hU]; exact ⟨HV.out.1, HV.out.2.1, below_drewN HV.out.2.2.1 _, HV.out.2.2.2⟩)
            rw [← hU]
            have lU := heap_lt HU.out.1
            clear hU k0 k1 k2 g0 g1 g2
            refine (wpIn_wide (n := 0)).1 (wpIn_region_below_tail 9 free_wide (by kernel_rfl) (by kernel_rfl) (by kernel_rfl) ?_)
            intro X f _ hf hs
            have l2 := fun x => (cells3 (((hf.out x).block _ lU).trans HU.out.1)).2.2
            simp only [List.take_succ_cons, List.take_zero, List.drop_succ_cons, List.drop_zero]
            repeat (go_big_quiet_step (fail))
            refine wpQuiet_nil ?_
            intro Y hY
            have yB := (hY.block _ lU).trans HU.out.1
            have HYB := hid (show Y.heap[B]? = some (.cells #[.int .i64 x, .int .i64 y, .string z] 30 (0, 0)) ∧ Y.heap[g]? = some (.cells (tr (nn a b) T) 3 (0, 0)) ∧ Below w.heap.size w Y ∧ Y.ownsRow (B + 1) 30 3 _ out.length (ev out) from
              ⟨yB, (hY.block _ (by omega)).trans HU.out.2.1, HU.out.2.2.1.trans (hY.mono HU.out.2.2.1.size), ownsRow_keep HU.out.2.2.2 fun k hk => hY.block k (HU.out.2.2.2.lt k hk).2⟩)
            obtain ⟨_, _, m2'⟩ := cells3 yB
            have n2' := free yB 2
            clear yB hY l2 hf hs
            gi_wp2
            go_wp2
            go_roundg ((a.size - i) + (b.size - (j + 1)))
            case measure => omega
            case rel => exact ⟨i, j + 1, out, some (r'.getD (i, j)), x, y, z ++ b.extract j (j + 1), rfl, rfl, by go_num, rfl, hi1, by omega, by omega, by rw [← HE.out, HG.out], ownsRow_setCell_below HYB.out.2.2.2 (a := ⟨B, 2, none⟩) (by show B < _; omega) _, blk_put (k := 2) HYB.out.1, (fun q h => by cases h; exact ⟨HX.out.1, by have := HX.out.2.1; omega, by rw [HF.out, ← HX.out.2.2]⟩), (blk_set HYB.out.2.1 (by show g ≠ B; omega)), below_put HYB.out.2.2.1 lw⟩
        | some q =>
          have hw : (i < a.size ∧ j < b.size) ∨ ¬ j < b.size ∨ ¬ i < a.size := by omega
          rcases hw with hw | hw | hw
          · obtain ⟨h1, h2⟩ := hw
            have h1' : (i : Int) < (a.size : Int) := by omega
            have h2' : (j : Int) < (b.size : Int) := by omega
            have d1 : decide ((i : Int) < (a.size : Int)) = true := decide_eq_true h1'
            have d2 : decide ((j : Int) < (b.size : Int)) = true := decide_eq_true h2'
            have hc := H9.out h1 h2
            obtain ⟨r', hr'⟩ : ∃ r' : Option (Nat × Nat), r' = some q := ⟨_, rfl⟩
            have HX := hid (show (r'.getD (i, j)).1 ≤ i ∧ (r'.getD (i, j)).2 ≤ j ∧ (x, y, z) = ed b (r'.getD (i, j)).1 (r'.getD (i, j)).2 i j by rw [hr']; exact HR.out q rfl)
            have HG := hid (show out ++ dg a b i j r' = dg a b 0 0 none by rw [hr']; exact HG.out)
            go_wp2_with fail
            go_quiet (fail)
            go_wp2_with fail
            obtain ⟨V, hV⟩ : ∃ V, V = wr.drewN nq := ⟨_, rfl⟩
            have HV := hid (show V.heap[B]? = some (.cells #[.int .i64 x, .int .i64 y, .string z] 30 (0, 0)) ∧ V.heap[g]? = some (.cells (tr (nn a b) T) 3 (0, 0)) ∧ Below w.heap.size w V ∧ V.ownsRow (B + 1) 30 3 _ out.length (ev out) by
              rw [hV]; exact ⟨HK.out.1, HK.out.2.1, below_drewN HK.out.2.2 _, HO.out⟩)
            rw [← hV]
            clear c0 c1 c2 f0 f1 f2 HK HO HR hV
            obtain ⟨k0, k1, k2⟩ := cells3 HV.out.1
            obtain ⟨g0, g1, g2⟩ := frozen3 HV.out.1
            have lV := heap_lt HV.out.1
            have hyb : 0 ≤ y ∧ y ≤ 10000 := by
              have := congrArg (fun e => e.2.1) HX.out.2.2
              simp only [ed] at this
              omega
            have hzb : z.size ≤ 10000 := by
              have := congrArg (fun e => e.2.2.size) HX.out.2.2
              simp only [ed_size hj1] at this
              omega
            have e1 : ((j : Int) == (b.size : Int)) = false := by simp; omega
            have hjl : j < b.size := h2
            have hia : i < a.size := h1
            have k0 : IntKind.i64.wrap ((i : Int) + 1) = (i : Int) + 1 := wrapIn (by omega) (by omega)
            have hy1 := ix_lt (a := a) (b := b) (i := i + 1) (j := j) (by omega) (by omega)
            have hy2 := ix_lt (a := a) (b := b) (i := i) (j := j + 1) (by omega) (by omega)
            have hx := ix_lt (a := a) (b := b) (i := i) (j := j) (by omega) (by omega)
            have hn := nn_le ha hb
            have y1 : (0 : Int) ≤ (ix b (i + 1) j : Int) := by omega
            have y2 : ((ix b (i + 1) j : Nat) : Int) < ((nn a b : Nat) : Int) := by omega
            have y3 : (0 : Int) ≤ (ix b i (j + 1) : Int) := by omega
            have y4 : ((ix b i (j + 1) : Nat) : Int) < ((nn a b : Nat) : Int) := by omega
            have m0 : IntKind.i64.wrap ((i : Int) * ((b.size : Int) + 1)) = (ix b i 0 : Int) := by
              have e0 := ix_int (b := b) i 0
              have := ix_lt (a := a) (b := b) (i := i) (j := 0) (by omega) (Nat.zero_le b.size)
              simp only [Int.natCast_zero, Int.add_zero] at e0
              rw [e0]; exact wrapIn (by omega) (by omega)
            have m1 : IntKind.i64.wrap ((ix b i 0 : Int) + (j : Int)) = (ix b i j : Int) := by
              rw [show (ix b i 0 : Int) + (j : Int) = (ix b i j : Int) by unfold ix; push_cast; omega]; exact wrapIn (by omega) (by omega)
            have m2 : IntKind.i64.wrap ((ix b i j : Int) + 1) = (ix b i (j + 1) : Int) := by
              rw [show (ix b i j : Int) + 1 = (ix b i (j + 1) : Int) by unfold ix; push_cast; omega]; exact wrapIn (by omega) (by omega)
            have m3 : IntKind.i64.wrap (((i : Int) + 1) * ((b.size : Int) + 1)) = (ix b (i + 1) 0 : Int) := by
              have e0 := ix_int (b := b) (i + 1) 0
              have := ix_lt (a := a) (b := b) (i := i + 1) (j := 0) (by omega) (Nat.zero_le b.size)
              push_cast at e0
              simp only [Int.add_zero] at e0
              rw [e0]; exact wrapIn (by omega) (by omega)
            have m4 : IntKind.i64.wrap ((ix b (i + 1) 0 : Int) + (j : Int)) = (ix b (i + 1) j : Int) := by
              rw [show (ix b (i + 1) 0 : Int) + (j : Int) = (ix b (i + 1) j : Int) by unfold ix; push_cast; omega]; exact wrapIn (by omega) (by omega)
            have t1 : V.cell? ⟨g, ix b (i + 1) j, none⟩ = some (.int .i64 (D a b (i + 1) j : Int)) := by
              rw [← HD.out (i + 1) j (by omega) (by omega)]; simp only [World.cell?, HV.out.2.1]; exact tr_at _ hy1
            have t2 : V.cell? ⟨g, ix b i (j + 1), none⟩ = some (.int .i64 (D a b i (j + 1) : Int)) := by
              rw [← HD.out i (j + 1) (by omega) (by omega)]; simp only [World.cell?, HV.out.2.1]; exact tr_at _ hy2
            by_cases hle : D a b (i + 1) j ≤ D a b i (j + 1)
            · have hd : Dl a b i j := ⟨hia, .inr hle⟩
              have HE := hid (dg_del r' HL.out HM.out hd)
              have HF := hid (ed_del (b := b) (j := j) (j0 := (r'.getD (i, j)).2) HX.out.1)
              have hle' : (D a b (i + 1) j : Int) ≤ (D a b i (j + 1) : Int) := by omega
              have hlt := hia
              clear hd
              have w1 : IntKind.i64.wrap (y + 1) = y + 1 := wrapIn (by have := hyb.1; omega) (by have := hyb.2; omega)
              go_quiet (fail)
              obtain ⟨U, hU⟩ : ∃ U, U = V.drewN nq := ⟨_, rfl⟩
              have HU := hid (show U.heap[B]? = some (.cells #[.int .i64 x, .int .i64 y, .string z] 30 (0, 0)) ∧ U.heap[g]? = some (.cells (tr (nn a b) T) 3 (0, 0)) ∧ Below w.heap.size w U ∧ U.ownsRow (B + 1) 30 3 _ out.length (ev out) by rw [hU]; exact ⟨HV.out.1, HV.out.2.1, below_drewN HV.out.2.2.1 _, HV.out.2.2.2⟩)
              rw [← hU]
              clear hU k0 k1 k2 g0 g1 g2
              obtain ⟨k0, k1, k2⟩ := cells3 HU.out.1
              obtain ⟨g0, g1, g2⟩ := frozen3 HU.out.1
              go_wp2
              go_roundg ((a.size - (i + 1)) + (b.size - j))
              case measure => omega
              case rel => exact ⟨i + 1, j, out, some (r'.getD (i, j)), x, y + 1, z, rfl, by go_num, rfl, rfl, by omega, hj1, by omega, by rw [← HE.out, HG.out], ownsRow_setCell_below HU.out.2.2.2 (a := ⟨B, 1, none⟩) (by show B < _; omega) _, blk_put (k := 1) HU.out.1, (fun q h => by cases h; exact ⟨by have := HX.out.1; omega, HX.out.2.1, by rw [HF.out, ← HX.out.2.2]⟩), (blk_set HU.out.2.1 (by show g ≠ B; omega)), below_put HU.out.2.2.1 lw⟩
            · have hd : ¬ Dl a b i j := fun h => by have := h.2; omega
              have HE := hid (dg_ins r' HL.out HM.out hd)
              have HF := hid (ed_ins (b := b) (i := i) (i0 := (r'.getD (i, j)).1) HX.out.2.1)
              have hle' : ¬ (D a b (i + 1) j : Int) ≤ (D a b i (j + 1) : Int) := by omega
              clear hd
              have s0 : (j : Int) ≤ (j : Int) + 1 := by omega
              have s1 : (j : Int) + 1 ≤ (b.size : Int) := by omega
              have s2 : (0 : Int) ≤ (j : Int) + 1 := by omega
              have s3 : IntKind.i64.wrap ((j : Int) + 1) = (j : Int) + 1 := wrapIn (by omega) (by omega)
              have s4 : (b.extract j (j + 1)).size ≤ 10000 := by rw [ByteArray.size_extract]; omega
              have s5 : ¬ 9223372036854775807 < z.size + (b.extract j (j + 1)).size := by omega
              go_quiet (fail)
              go_wp2_with fail
              obtain ⟨U, hU⟩ : ∃ U, U = V.drewN nq := ⟨_, rfl⟩
              have HU := hid (show U.heap[B]? = some (.cells #[.int .i64 x, .int .i64 y, .string z] 30 (0, 0)) ∧ U.heap[g]? = some (.cells (tr (nn a b) T) 3 (0, 0)) ∧ Below w.heap.size w U ∧ U.ownsRow (B + 1) 30 3 _ out.length (ev out) by rw [hU]; exact ⟨HV.out.1, HV.out.2.1, below_drewN HV.out.2.2.1 _, HV.out.2.2.2⟩)
              rw [← hU]
              have lU := heap_lt HU.out.1
              clear hU k0 k1 k2 g0 g1 g2
              refine (wpIn_wide (n := 0)).1 (wpIn_region_below_tail 9 free_wide (by kernel_rfl) (by kernel_rfl) (by kernel_rfl) ?_)
              intro X f _ hf hs
              have l2 := fun x => (cells3 (((hf.out x).block _ lU).trans HU.out.1)).2.2
              simp only [List.take_succ_cons, List.take_zero, List.drop_succ_cons, List.drop_zero]
              repeat (go_big_quiet_step (fail))
              refine wpQuiet_nil ?_
              intro Y hY
              have yB := (hY.block _ lU).trans HU.out.1
              have HYB := hid (show Y.heap[B]? = some (.cells #[.int .i64 x, .int .i64 y, .string z] 30 (0, 0)) ∧ Y.heap[g]? = some (.cells (tr (nn a b) T) 3 (0, 0)) ∧ Below w.heap.size w Y ∧ Y.ownsRow (B + 1) 30 3 _ out.length (ev out) from
                ⟨yB, (hY.block _ (by omega)).trans HU.out.2.1, HU.out.2.2.1.trans (hY.mono HU.out.2.2.1.size), ownsRow_keep HU.out.2.2.2 fun k hk => hY.block k (HU.out.2.2.2.lt k hk).2⟩)
              obtain ⟨_, _, m2'⟩ := cells3 yB
              have n2' := free yB 2
              clear yB hY l2 hf hs
              gi_wp2
              go_wp2
              go_roundg ((a.size - i) + (b.size - (j + 1)))
              case measure => omega
              case rel => exact ⟨i, j + 1, out, some (r'.getD (i, j)), x, y, z ++ b.extract j (j + 1), rfl, rfl, by go_num, rfl, hi1, by omega, by omega, by rw [← HE.out, HG.out], ownsRow_setCell_below HYB.out.2.2.2 (a := ⟨B, 2, none⟩) (by show B < _; omega) _, blk_put (k := 2) HYB.out.1, (fun q h => by cases h; exact ⟨HX.out.1, by have := HX.out.2.1; omega, by rw [HF.out, ← HX.out.2.2]⟩), (blk_set HYB.out.2.1 (by show g ≠ B; omega)), below_put HYB.out.2.2.1 lw⟩
          · have h2' : ¬ (j : Int) < (b.size : Int) := by omega
            have h1' : (i : Int) < (a.size : Int) := by have := HL.out; omega
            have d1 : decide ((i : Int) < (a.size : Int)) = true := decide_eq_true h1'
            have d2 : decide ((j : Int) < (b.size : Int)) = false := decide_eq_false h2'
            obtain ⟨r', hr'⟩ : ∃ r' : Option (Nat × Nat), r' = some q := ⟨_, rfl⟩
            have HX := hid (show (r'.getD (i, j)).1 ≤ i ∧ (r'.getD (i, j)).2 ≤ j ∧ (x, y, z) = ed b (r'.getD (i, j)).1 (r'.getD (i, j)).2 i j by rw [hr']; exact HR.out q rfl)
            have HG := hid (show out ++ dg a b i j r' = dg a b 0 0 none by rw [hr']; exact HG.out)
            go_wp2_with fail
            go_quiet (fail)
            go_wp2_with fail
            obtain ⟨V, hV⟩ : ∃ V, V = wr.drewN nq := ⟨_, rfl⟩
            have HV := hid (show V.heap[B]? = some (.cells #[.int .i64 x, .int .i64 y, .string z] 30 (0, 0)) ∧ V.heap[g]? = some (.cells (tr (nn a b) T) 3 (0, 0)) ∧ Below w.heap.size w V ∧ V.ownsRow (B + 1) 30 3 _ out.length (ev out) by
              rw [hV]; exact ⟨HK.out.1, HK.out.2.1, below_drewN HK.out.2.2 _, HO.out⟩)
            rw [← hV]
            clear c0 c1 c2 f0 f1 f2 HK HO HR hV
            obtain ⟨k0, k1, k2⟩ := cells3 HV.out.1
            obtain ⟨g0, g1, g2⟩ := frozen3 HV.out.1
            have lV := heap_lt HV.out.1
            have hyb : 0 ≤ y ∧ y ≤ 10000 := by
              have := congrArg (fun e => e.2.1) HX.out.2.2
              simp only [ed] at this
              omega
            have hzb : z.size ≤ 10000 := by
              have := congrArg (fun e => e.2.2.size) HX.out.2.2
              simp only [ed_size hj1] at this
              omega
            have hjb : j = b.size := by omega
            have hd : Dl a b i j := ⟨by omega, .inl (by omega)⟩
            have HE := hid (dg_del r' HL.out HM.out hd)
            have HF := hid (ed_del (b := b) (j := j) (j0 := (r'.getD (i, j)).2) HX.out.1)
            have e1 : ((j : Int) == (b.size : Int)) = true := by simp [hjb]
            have hlt : i < a.size := hd.1
            clear hd hjb
            have w1 : IntKind.i64.wrap (y + 1) = y + 1 := wrapIn (by have := hyb.1; omega) (by have := hyb.2; omega)
            go_quiet (fail)
            obtain ⟨U, hU⟩ : ∃ U, U = V.drewN nq := ⟨_, rfl⟩
            have HU := hid (show U.heap[B]? = some (.cells #[.int .i64 x, .int .i64 y, .string z] 30 (0, 0)) ∧ U.heap[g]? = some (.cells (tr (nn a b) T) 3 (0, 0)) ∧ Below w.heap.size w U ∧ U.ownsRow (B + 1) 30 3 _ out.length (ev out) by rw [hU]; exact ⟨HV.out.1, HV.out.2.1, below_drewN HV.out.2.2.1 _, HV.out.2.2.2⟩)
            rw [← hU]
            clear hU k0 k1 k2 g0 g1 g2
            obtain ⟨k0, k1, k2⟩ := cells3 HU.out.1
            obtain ⟨g0, g1, g2⟩ := frozen3 HU.out.1
            go_wp2
            go_roundg ((a.size - (i + 1)) + (b.size - j))
            case measure => omega
            case rel => exact ⟨i + 1, j, out, some (r'.getD (i, j)), x, y + 1, z, rfl, by go_num, rfl, rfl, by omega, hj1, by omega, by rw [← HE.out, HG.out], ownsRow_setCell_below HU.out.2.2.2 (a := ⟨B, 1, none⟩) (by show B < _; omega) _, blk_put (k := 1) HU.out.1, (fun q h => by cases h; exact ⟨by have := HX.out.1; omega, HX.out.2.1, by rw [HF.out, ← HX.out.2.2]⟩), (blk_set HU.out.2.1 (by show g ≠ B; omega)), below_put HU.out.2.2.1 lw⟩
          · have h1' : ¬ (i : Int) < (a.size : Int) := by omega
            have h2' : (j : Int) < (b.size : Int) := by have := HL.out; omega
            have d1 : decide ((i : Int) < (a.size : Int)) = false := decide_eq_false h1'
            have d2 : decide ((j : Int) < (b.size : Int)) = true := decide_eq_true h2'
            obtain ⟨r', hr'⟩ : ∃ r' : Option (Nat × Nat), r' = some q := ⟨_, rfl⟩
            have HX := hid (show (r'.getD (i, j)).1 ≤ i ∧ (r'.getD (i, j)).2 ≤ j ∧ (x, y, z) = ed b (r'.getD (i, j)).1 (r'.getD (i, j)).2 i j by rw [hr']; exact HR.out q rfl)
            have HG := hid (show out ++ dg a b i j r' = dg a b 0 0 none by rw [hr']; exact HG.out)
            go_wp2_with fail
            go_quiet (fail)
            go_wp2_with fail
            obtain ⟨V, hV⟩ : ∃ V, V = wr.drewN nq := ⟨_, rfl⟩
            have HV := hid (show V.heap[B]? = some (.cells #[.int .i64 x, .int .i64 y, .string z] 30 (0, 0)) ∧ V.heap[g]? = some (.cells (tr (nn a b) T) 3 (0, 0)) ∧ Below w.heap.size w V ∧ V.ownsRow (B + 1) 30 3 _ out.length (ev out) by
              rw [hV]; exact ⟨HK.out.1, HK.out.2.1, below_drewN HK.out.2.2 _, HO.out⟩)
            rw [← hV]
            clear c0 c1 c2 f0 f1 f2 HK HO HR hV
            obtain ⟨k0, k1, k2⟩ := cells3 HV.out.1
            obtain ⟨g0, g1, g2⟩ := frozen3 HV.out.1
            have lV := heap_lt HV.out.1
            have hyb : 0 ≤ y ∧ y ≤ 10000 := by
              have := congrArg (fun e => e.2.1) HX.out.2.2
              simp only [ed] at this
              omega
            have hzb : z.size ≤ 10000 := by
              have := congrArg (fun e => e.2.2.size) HX.out.2.2
              simp only [ed_size hj1] at this
              omega
            have hjl : j < b.size := by omega
            have e1 : ((j : Int) == (b.size : Int)) = false := by simp; omega
            have hd : ¬ Dl a b i j := fun h => hw h.1
            have HE := hid (dg_ins r' HL.out HM.out hd)
            have HF := hid (ed_ins (b := b) (i := i) (i0 := (r'.getD (i, j)).1) HX.out.2.1)
            clear hd
            have s0 : (j : Int) ≤ (j : Int) + 1 := by omega
            have s1 : (j : Int) + 1 ≤ (b.size : Int) := by omega
            have s2 : (0 : Int) ≤ (j : Int) + 1 := by omega
            have s3 : IntKind.i64.wrap ((j : Int) + 1) = (j : Int) + 1 := wrapIn (by omega) (by omega)
            have s4 : (b.extract j (j + 1)).size ≤ 10000 := by rw [ByteArray.size_extract]; omega
            have s5 : ¬ 9223372036854775807 < z.size + (b.extract j (j + 1)).size := by omega
            go_quiet (fail)
            go_wp2_with fail
            obtain ⟨U, hU⟩ : ∃ U, U = V.drewN nq := ⟨_, rfl⟩
            have HU := hid (show U.heap[B]? = some (.cells #[.int .i64 x, .int .i64 y, .string z] 30 (0, 0)) ∧ U.heap[g]? = some (.cells (tr (nn a b) T) 3 (0, 0)) ∧ Below w.heap.size w U ∧ U.ownsRow (B + 1) 30 3 _ out.length (ev out) by rw [hU]; exact ⟨HV.out.1, HV.out.2.1, below_drewN HV.out.2.2.1 _, HV.out.2.2.2⟩)
            rw [← hU]
            have lU := heap_lt HU.out.1
            clear hU k0 k1 k2 g0 g1 g2
            refine (wpIn_wide (n := 0)).1 (wpIn_region_below_tail 9 free_wide (by kernel_rfl) (by kernel_rfl) (by kernel_rfl) ?_)
            intro X f _ hf hs
            have l2 := fun x => (cells3 (((hf.out x).block _ lU).trans HU.out.1)).2.2
            simp only [List.take_succ_cons, List.take_zero, List.drop_succ_cons, List.drop_zero]
            repeat (go_big_quiet_step (fail))
            refine wpQuiet_nil ?_
            intro Y hY
            have yB := (hY.block _ lU).trans HU.out.1
            have HYB := hid (show Y.heap[B]? = some (.cells #[.int .i64 x, .int .i64 y, .string z] 30 (0, 0)) ∧ Y.heap[g]? = some (.cells (tr (nn a b) T) 3 (0, 0)) ∧ Below w.heap.size w Y ∧ Y.ownsRow (B + 1) 30 3 _ out.length (ev out) from
              ⟨yB, (hY.block _ (by omega)).trans HU.out.2.1, HU.out.2.2.1.trans (hY.mono HU.out.2.2.1.size), ownsRow_keep HU.out.2.2.2 fun k hk => hY.block k (HU.out.2.2.2.lt k hk).2⟩)
            obtain ⟨_, _, m2'⟩ := cells3 yB
            have n2' := free yB 2
            clear yB hY l2 hf hs
            gi_wp2
            go_wp2
            go_roundg ((a.size - i) + (b.size - (j + 1)))
            case measure => omega
            case rel => exact ⟨i, j + 1, out, some (r'.getD (i, j)), x, y, z ++ b.extract j (j + 1), rfl, rfl, by go_num, rfl, hi1, by omega, by omega, by rw [← HE.out, HG.out], ownsRow_setCell_below HYB.out.2.2.2 (a := ⟨B, 2, none⟩) (by show B < _; omega) _, blk_put (k := 2) HYB.out.1, (fun q h => by cases h; exact ⟨HX.out.1, by have := HX.out.2.1; omega, by rw [HF.out, ← HX.out.2.2]⟩), (blk_set HYB.out.2.1 (by show g ≠ B; omega)), below_put HYB.out.2.2.1 lw⟩
    · have hia : i = a.size := by omega
      have hjb : j = b.size := by omega
      have HE0 := HG.out
      have h1' : ¬ (i : Int) < (a.size : Int) := by omega
      have h2' : ¬ (j : Int) < (b.size : Int) := by omega
      cases r with
      | none =>
        have hout : out = dg a b 0 0 none := by rw [← HE0, dg_end hl, List.append_nil]
        have HO3 := HO.out
        rw [hout] at HO3
        obtain ⟨p, c, hv, hrow⟩ := own_erow HO3
        have HRR := hid hrow
        clear hl hrow HO3 HE0 hout
        subst hv
        go_wp2
        go_ret
        exact ⟨⟨p, c, rfl, HRR.out⟩, HK.out.2.2⟩
      | some q =>
        obtain ⟨q1, q2, q3⟩ := HR.out q rfl
        have hout : out ++ [ed b q.1 q.2 i j] = dg a b 0 0 none := by rw [← HE0, dg_end_run q hl]
        have HT := hid hout
        have HQ := hid q3
        have hown := HO.out
        clear hl HE0 hout q3
        go_wp2_with (at_builtin; refine wpList_append_own _ rfl (.tmp 110) (.tmp 112) 27 rfl (B + 1) 30 i0 _ 3 32 Try.underlying27 hi hz0 hz1 hz2 rfl (by decide) _ _ _ rfl (own_alloc hown _) ⟨wr.heap.size, 0, none⟩ 1 1 [.int .i64 x, .int .i64 y, .string z] rfl rfl ?c1 ?c2 ?c3 ?c4 ?c5 ?_)
        case c2 => exact ⟨rfl, rfl, rfl⟩
        case c3 => unfold maxLen; omega
        case c4 => omega
        case c5 => omega
        intro v' w5 hown' hgrow _
        have hb5 : Below (B + 1) wr w5 := ((Below.refl (B + 1) wr).alloc (by omega) _).grown hgrow (by simp; omega) (fun k hk => (hown.lt k hk).1)
        have hown2 : w5.ownsRow (B + 1) 30 3 v' (out ++ [ed b q.1 q.2 i j]).length (ev (out ++ [ed b q.1 q.2 i j])) := by
          rw [ev_app, List.length_append, ← HQ.out]
          simpa [ev] using hown'
        rw [HT.out] at hown2
        obtain ⟨p, c, hv, hrow⟩ := own_erow hown2
        have HRR := hid hrow
        have HB5 := hid hb5
        clear hown' hgrow hown hown2 hb5 hrow
        subst hv
        go_wp2
        go_ret
        exact ⟨⟨p, c, rfl, HRR.out⟩, HK.out.2.2.trans (HB5.out.mono (by omega))⟩
end Go.Proofs.Ytahikgdgbgclkaa
