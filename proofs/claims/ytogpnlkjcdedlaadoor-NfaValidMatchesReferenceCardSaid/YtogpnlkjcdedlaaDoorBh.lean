/-
  Bounds of first and last; contract: star.
-/
import Derived.Test.YtogpnlkjcdedlaaDoorBg
set_option linter.unusedSimpArgs false
set_option linter.unusedVariables false
namespace Go.Proofs.YtogpnlkjcdedlaaDoor
open Go.RowKit Bs Rg Nf Go.Frame
attribute [local go_sem] eq_zero eq_set

theorem fst_ok (r : Rx) : ∀ o, (fst r o).length ≤ np r ∧ ∀ x ∈ fst r o, o ≤ x ∧ x < o + np r := by
  induction r using Rx.ind with
  | h k s l ih =>
    have hC : ∀ m : List Rx, (∀ x ∈ m, ∀ o, (fst x o).length ≤ np x ∧ ∀ y ∈ fst x o, o ≤ y ∧ y < o + np x) → ∀ o, (fstC m o).length ≤ npL m ∧ ∀ x ∈ fstC m o, o ≤ x ∧ x < o + npL m := by
      intro m
      induction m with
      | nil => intro _ o; rw [fstC_nil]; simp
      | cons y m ihm =>
        intro hm o
        have h1 := hm y (by simp) o
        have h2 := ihm (fun x hx => hm x (by simp [hx])) (o + np y)
        rw [fstC_cons, npL]
        refine ⟨?_, fun x hx => ?_⟩
        · split <;> simp <;> omega
        · rcases List.mem_append.1 hx with hx | hx
          · have := h1.2 x hx; omega
          · split at hx
            · have := h2.2 x hx; omega
            · simp at hx
    have hU : ∀ m : List Rx, (∀ x ∈ m, ∀ o, (fst x o).length ≤ np x ∧ ∀ y ∈ fst x o, o ≤ y ∧ y < o + np x) → ∀ o, (fstU m o).length ≤ npL m ∧ ∀ x ∈ fstU m o, o ≤ x ∧ x < o + npL m := by
      intro m
      induction m with
      | nil => intro _ o; rw [fstU_nil]; simp
      | cons y m ihm =>
        intro hm o
        have h1 := hm y (by simp) o
        have h2 := ihm (fun x hx => hm x (by simp [hx])) (o + np y)
        rw [fstU_cons, npL]
        refine ⟨by simp; omega, fun x hx => ?_⟩
        rcases List.mem_append.1 hx with hx | hx
        · have := h1.2 x hx; omega
        · have := h2.2 x hx; omega
    intro o
    rw [fst_mk, np_mk]
    by_cases h3 : k = 3
    · rw [if_pos h3, if_pos h3]; simp
    · rw [if_neg h3, if_neg h3]
      by_cases h4 : k = 4
      · rw [if_pos h4]; exact hC l ih o
      · rw [if_neg h4]; exact hU l ih o
theorem las_ok (r : Rx) : ∀ o, (las r o).length ≤ np r ∧ ∀ x ∈ las r o, o ≤ x ∧ x < o + np r := by
  induction r using Rx.ind with
  | h k s l ih =>
    have hC : ∀ m : List Rx, (∀ x ∈ m, ∀ o, (las x o).length ≤ np x ∧ ∀ y ∈ las x o, o ≤ y ∧ y < o + np x) → ∀ o, (lasC m o).length ≤ npL m ∧ ∀ x ∈ lasC m o, o ≤ x ∧ x < o + npL m := by
      intro m
      induction m with
      | nil => intro _ o; rw [lasC_nil]; simp
      | cons y m ihm =>
        intro hm o
        have h1 := hm y (by simp) o
        have h2 := ihm (fun x hx => hm x (by simp [hx])) (o + np y)
        rw [lasC_cons, npL]
        refine ⟨?_, fun x hx => ?_⟩
        · split <;> simp <;> omega
        · rcases List.mem_append.1 hx with hx | hx
          · split at hx
            · have := h1.2 x hx; omega
            · simp at hx
          · have := h2.2 x hx; omega
    have hU : ∀ m : List Rx, (∀ x ∈ m, ∀ o, (las x o).length ≤ np x ∧ ∀ y ∈ las x o, o ≤ y ∧ y < o + np x) → ∀ o, (lasU m o).length ≤ npL m ∧ ∀ x ∈ lasU m o, o ≤ x ∧ x < o + npL m := by
      intro m
      induction m with
      | nil => intro _ o; rw [lasU_nil]; simp
      | cons y m ihm =>
        intro hm o
        have h1 := hm y (by simp) o
        have h2 := ihm (fun x hx => hm x (by simp [hx])) (o + np y)
        rw [lasU_cons, npL]
        refine ⟨by simp; omega, fun x hx => ?_⟩
        rcases List.mem_append.1 hx with hx | hx
        · have := h1.2 x hx; omega
        · have := h2.2 x hx; omega
    intro o
    rw [las_mk, np_mk]
    by_cases h3 : k = 3
    · rw [if_pos h3, if_pos h3]; simp
    · rw [if_neg h3, if_neg h3]
      by_cases h4 : k = 4
      · rw [if_pos h4]; exact hC l ih o
      · rw [if_neg h4]; exact hU l ih o
theorem TR.open {r : Rx} {base bb most : Nat} {S : List BS} {M : Nat → Nat → Bool} {A : List Int} {G : Nat → Prop} {U w' : World} {e : Ending} (h : TR r base bb most S M A G U e w') : ∃ a1 c1 a2 c2, e = .returned (.agg #[.bool (nul r), .slice a1 (fst r S.length).length c1, .slice a2 (las r S.length).length c2]) ∧ ∃ G', BX G' w' base bb most (S ++ os r) (orM M (pr r S.length)) (A ++ List.replicate (np r) (-1)) ∧ (∀ b, G' b → G b ∨ U.heap.size ≤ b) ∧ PR G' w' U.heap.size (.slice a1 (fst r S.length).length c1) (fst r S.length) ∧ PR G' w' U.heap.size (.slice a2 (las r S.length).length c2) (las r S.length) ∧ Kept (fun b => G b ∨ U.heap.size ≤ b) U w' := by
  obtain ⟨fv, lv, rfl, G', h1, h2, h3, h4, h5⟩ := h
  obtain ⟨a1, c1, rfl⟩ := own_form h3.1
  obtain ⟨a2, c2, rfl⟩ := own_form h4.1
  exact ⟨a1, c1, a2, c2, rfl, G', h1, h2, h3, h4, h5⟩
/-- A part laid into a new box. -/
def z3 : Obj := .cells #[.bool false, .slice none 0 0, .slice none 0 0] 108
def P3 (x y z : Value) : Obj := .cells #[x, y, z] 108
def set3 (W : World) (b : Nat) (x y z : Value) : World := ((W.setCell ⟨b, 0, none⟩ x).setCell ⟨b, 1, none⟩ y).setCell ⟨b, 2, none⟩ z
theorem set3_kept {F : Nat → Prop} {a W : World} {b : Nat} {x y z : Value} (h : Kept F a W) (hb : F b) : Kept F a (set3 W b x y z) := ((h.setCell (p := ⟨b, 0, none⟩) hb x).setCell (p := ⟨b, 1, none⟩) hb y).setCell (p := ⟨b, 2, none⟩) hb z
set_option maxRecDepth 100000 in
set_option maxHeartbeats 4000000 in
theorem star_any (s : BS) (x : Rx) (hX64 : TS 64 x) : TS 86 (.mk 6 s [x]) := by
  intro base bb most S M A G g W cs h hrc hg hm
  obtain ⟨a, n, c, rfl, hK⟩ := RC_mk.1 hrc
  have HB := hid h
  show Calls Tryd.prog 86 #[.pointer (some ⟨bb, 0, none⟩), .agg #[.int .i64 6, .int .u64 (ws s 0 : Int), .int .u64 (ws s 1 : Int), .int .u64 (ws s 2 : Int), .int .u64 (ws s 3 : Int), .slice a n c]] W _
  obtain ⟨X, hX⟩ : ∃ X, X = (W.alloc (.cells #[.int .i64 6, .int .u64 (ws s 0 : Int), .int .u64 (ws s 1 : Int), .int .u64 (ws s 2 : Int), .int .u64 (ws s 3 : Int), .slice a n c] 50)).alloc (.cells #[.bool false, .slice none 0 0, .slice none 0 0] 108) := ⟨_, rfl⟩
  have BXX := hid (show Below W.heap.size W X ∧ X.heap.size = W.heap.size + 2 from by rw [hX]; exact ⟨(bel1 _ _).alloc (by simp) _, by simp⟩)
  have hz : X.heap[W.heap.size + 1]? = some (.cells #[.bool false, .slice none 0 0, .slice none 0 0] 108 (0, 0)) := by rw [hX]; exact (by simpa using alloc_new (W.alloc (.cells #[.int .i64 6, .int .u64 (ws s 0 : Int), .int .u64 (ws s 1 : Int), .int .u64 (ws s 2 : Int), .int .u64 (ws s 3 : Int), .slice a n c] 50)) _)
  have hx6 : X.heap[W.heap.size]? = some (.cells #[.int .i64 6, .int .u64 (ws s 0 : Int), .int .u64 (ws s 1 : Int), .int .u64 (ws s 2 : Int), .int .u64 (ws s 3 : Int), .slice a n c] 50 (0, 0)) := by rw [hX]; exact blk_alloc (alloc_new _ _)
  obtain rfl : n = 1 := by have := hK.len; simpa using this.symm
  obtain ⟨b, off, k', s', l', a', n', c', rfl, hgb, hb, hxe, hK', q0, q1, q2, q3, q4, q5⟩ := (hK.below BXX.out.1).get (i := 0) (by decide)
  obtain rfl : x = .mk k' s' l' := by simpa using hxe
  simp only [Nat.zero_mul, Nat.add_zero] at q0 q1 q2 q3 q4 q5
  obtain ⟨x, hx⟩ : ∃ x, x = Rx.mk k' s' l' := ⟨_, rfl⟩
  have hnp : np (.mk 6 s [x]) = np x := by rw [np_mk, if_neg (by decide), npL, npL]; omega
  have hm' : S.length + np x ≤ most := by rw [← hnp, hx]; exact hm
  have CF := hid (show Calls Tryd.prog 64 #[.pointer (some ⟨bb, 0, none⟩), .agg #[.int .i64 k', .int .u64 (ws s' 0 : Int), .int .u64 (ws s' 1 : Int), .int .u64 (ws s' 2 : Int), .int .u64 (ws s' 3 : Int), .slice a' n' c']] X (TR x base bb most S M A G X) from by
    have h1 := hX64 base bb most S M A G g X _ (HB.out.below BXX.out.1) (RC_mk.2 ⟨a', n', c', rfl, hK'⟩) hg (by rw [← hx]; exact hm')
    rw [← hx] at h1; exact h1)
  have Hlt := hid (fun b hb => (h.lt b hb).2 : ∀ b, G b → b < W.heap.size)
  have HZ := hid (And.intro hz hm')
  have hmost := h.most
  rw [← hx]
  obtain ⟨d0, d1, d2, d3, d4, d5⟩ := cells6 hx6
  clear h hrc hg hK hK' hxe hm hm' hX64 hz hx6
  go_enter Tryd.func86, Tryd.ntmps86
  go_upto_region 1 with fail
  rw [← hX]
  clear hX
  go_wp2_with fail
  refine CF.out.mono ?_
  intro e w1 h1
  obtain ⟨a1, c1, a2, c2, rfl, G', hbx, hG', hf, hl, hkp⟩ := h1.open
  obtain ⟨F, hF⟩ : ∃ F, F = fst x S.length := ⟨_, rfl⟩
  obtain ⟨L, hL⟩ : ∃ L, L = las x S.length := ⟨_, rfl⟩
  obtain ⟨nl, hnl⟩ : ∃ nl, nl = nul x := ⟨_, rfl⟩
  rw [← hF] at hf ⊢
  rw [← hL] at hl ⊢
  rw [← hnl]
  have HN := hid (And.intro hF (And.intro hL hnl))
  clear hF hL hnl h1 CF d0 d1 d2 d3 d4 d5 q0 q1 q2 q3 q4 q5
  have hs2 := BXX.out.2
  have hs1 := hkp.size
  have hzR : w1.heap[W.heap.size + 1]? = some (.cells #[.bool false, .slice none 0 0, .slice none 0 0] 108 (0, 0)) := (hkp.block _ (by rintro (e | e); have := Hlt.out _ e; omega; omega)).trans HZ.out.1
  obtain ⟨Y, hY⟩ : ∃ Y, Y = w1.alloc (.cells #[.bool nl, .slice a1 F.length c1, .slice a2 L.length c2] 108) := ⟨_, rfl⟩
  have hP5 : Y.heap[w1.heap.size]? = some (.cells #[.bool nl, .slice a1 F.length c1, .slice a2 L.length c2] 108 (0, 0)) := by rw [hY]; exact alloc_new _ _
  have k3 : Kept (fun b => w1.heap.size ≤ b) w1 Y := by rw [hY]; exact (Kept.refl _ w1).alloc (fun b hb => hb) _
  have hnG : ∀ b, G' b → ¬ w1.heap.size ≤ b := fun b hb => by have := (hbx.lt b hb).2; omega
  have hzY : Y.heap[W.heap.size + 1]? = some (.cells #[.bool false, .slice none 0 0, .slice none 0 0] 108 (0, 0)) := (k3.block _ (by have := heap_lt hzR; omega)).trans hzR
  have CA := hid (addArcs_X base bb most (S ++ os x) (orM M (pr x S.length)) (A ++ List.replicate (np x) (-1)) G' Y (.slice a2 L.length c2) (.slice a1 F.length c1) (hbx.kept k3 hnG) L F _ _ (hl.kept k3 fun k hk => by have := (hl.1.lt k hk).2; omega) (hf.kept k3 fun k hk => by have := (hf.1.lt k hk).2; omega)
    (fun y hy => by rw [HN.out.2.1] at hy; have := (las_ok x S.length).2 y hy; rw [List.length_append, os_length]; omega)
    (fun y hy => by rw [HN.out.1] at hy; have := (fst_ok x S.length).2 y hy; have := HZ.out.2; omega)
    (by rw [HN.out.2.1]; have := (las_ok x S.length).1; have := HZ.out.2; omega) (by rw [HN.out.1]; have := (fst_ok x S.length).1; have := HZ.out.2; omega))
  have H1 := hid (And.intro hbx (And.intro hG' (And.intro hf (And.intro hl (And.intro hkp (And.intro k3 (And.intro hnG (And.intro hP5 hzY))))))))
  obtain ⟨y0, y1, y2⟩ := cells3 hP5
  clear hbx hG' hf hl hkp hzR k3 hnG hP5 hzY
  go_upto_region 2 with fail
  rw [← hY]
  clear hY
  go_wp2_with fail
  refine CA.out.mono ?_
  rintro e w3 ⟨rfl, hbx3, hkp3⟩
  have hP53 : w3.heap[w1.heap.size]? = some (.cells #[.bool nl, .slice a1 F.length c1, .slice a2 L.length c2] 108 (0, 0)) := (hkp3.block _ fun h => H1.out.2.2.2.2.2.2.1 _ h (Nat.le_refl _)).trans H1.out.2.2.2.2.2.2.2.1
  have hnR : ¬ G' (W.heap.size + 1) := fun h => by rcases H1.out.2.1 _ h with h | h; have := Hlt.out _ h; omega; omega
  have hzR3 : w3.heap[W.heap.size + 1]? = some (.cells #[.bool false, .slice none 0 0, .slice none 0 0] 108 (0, 0)) := (hkp3.block _ hnR).trans H1.out.2.2.2.2.2.2.2.2
  have hne : W.heap.size + 1 ≠ w1.heap.size := by omega
  have H3 := hid (And.intro hbx3 (And.intro hkp3 hnR))
  have g0 := Go.Frame.free hP53 0
  obtain ⟨u0, u1, u2⟩ := cells3 hP53
  have hP4 : (w3.setCell ⟨w1.heap.size, 0, none⟩ (.bool true)).heap[w1.heap.size]? = some (.cells #[.bool true, .slice a1 F.length c1, .slice a2 L.length c2] 108 (0, 0)) := (blk_put hP53).trans rfl
  have hR4 : (w3.setCell ⟨w1.heap.size, 0, none⟩ (.bool true)).heap[W.heap.size + 1]? = some (.cells #[.bool false, .slice none 0 0, .slice none 0 0] 108 (0, 0)) := blk_set hzR3 hne
  obtain ⟨v0, v1, v2⟩ := cells3 hP4
  obtain ⟨r0, r1, r2⟩ := cells3 hR4
  obtain ⟨g1, g2, g3⟩ := frozen3 hR4
  have hR5 := three_set (x' := .bool true) (y' := .slice a1 F.length c1) (z' := .slice a2 L.length c2) hR4
  obtain ⟨t0, t1, t2⟩ := cells3 hR5
  clear hbx3 hkp3 hP53 hzR3 hP4 hR4 hR5 hnR CA y0 y1 y2
  go_wp2
  refine bodyPost_ret (v := .agg #[.bool true, .slice a1 F.length c1, .slice a2 L.length c2]) ?_ rfl ?_
  · simp [results, Tryd.results86, go_sem, t0, t1, t2]
  · obtain ⟨hbx, hG', hf, hl, hkp, k3, hnG, hP5, hzY⟩ := H1.out
    obtain ⟨hbx3, hkp3, hnR⟩ := H3.out
    have e1 : os (.mk 6 s [x]) = os x := by rw [os_mk, if_neg (by decide), osL, osL, List.append_nil]
    have e2 : np (.mk 6 s [x]) = np x := hnp
    have e3 : fst (.mk 6 s [x]) S.length = F := by rw [fst_mk, if_neg (by decide), if_neg (by decide), fstU_cons, fstU_nil, List.append_nil, HN.out.1]
    have e4 : las (.mk 6 s [x]) S.length = L := by rw [las_mk, if_neg (by decide), if_neg (by decide), lasU_cons, lasU_nil, List.append_nil, HN.out.2.1]
    have e5 : addM (orM M (pr x S.length)) L F = orM M (pr (.mk 6 s [x]) S.length) := by
      funext i j
      rw [orM, pr_mk, if_neg (by decide), if_neg (by decide), prU_cons, prU_nil, lasU_cons, lasU_nil, fstU_cons, fstU_nil, List.append_nil, List.append_nil, ← HN.out.1, ← HN.out.2.1]
      simp [addM, orM, Bool.or_assoc]
    have k4 : Kept (fun b => b = w1.heap.size ∨ b = W.heap.size + 1) w3 (set3 (w3.setCell ⟨w1.heap.size, 0, none⟩ (.bool true)) (W.heap.size + 1) (.bool true) (.slice a1 F.length c1) (.slice a2 L.length c2)) := set3_kept ((Kept.refl _ w3).setCell (p := ⟨w1.heap.size, 0, none⟩) (.inl rfl) _) (.inr rfl)
    have hp : ∀ {v l}, PR G' w1 X.heap.size v l → PR G' (set3 (w3.setCell ⟨w1.heap.size, 0, none⟩ (.bool true)) (W.heap.size + 1) (.bool true) (.slice a1 F.length c1) (.slice a2 L.length c2)) W.heap.size v l := fun {v l} h => (((h.kept k3 fun k hk => by have := (h.1.lt k hk).2; omega).kept hkp3 h.2).kept k4 fun k hk => by have := h.1.lt k hk; omega).mono (by omega)
    refine ⟨.slice a1 F.length c1, .slice a2 L.length c2, by simp [nul], G', ?_, fun b hb => (hG' b hb).imp_right fun h => by omega, by rw [e3]; exact hp hf, by rw [e4]; exact hp hl, ?_⟩
    · rw [e1, e2, ← e5]
      exact hbx3.kept k4 fun b hb => by
        rintro (e | e)
        · exact hnG b hb (by omega)
        · exact hnR (e ▸ hb)
    · exact (((Kept.below BXX.out.1 fun b hb => .inr hb).trans (hkp.mono fun b hb => hb.imp_right fun h => by omega)).trans (k3.mono fun b hb => .inr (by omega))).trans ((hkp3.mono fun b hb => (hG' b hb).imp_right fun h => by omega).trans (k4.mono fun b hb => .inr (by omega)))
end Go.Proofs.YtogpnlkjcdedlaaDoor
