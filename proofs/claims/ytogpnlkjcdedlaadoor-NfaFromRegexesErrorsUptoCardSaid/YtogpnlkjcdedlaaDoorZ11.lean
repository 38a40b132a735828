/-
  Bounds of first and last; contract: star.
  append of a row of numbers to a row of the own.
  Contract: union.
-/
import Derived.Test.YtogpnlkjcdedlaaDoorZ10
import Derived.Deep.AppendSrc
section
set_option linter.unusedSimpArgs false
set_option linter.unusedVariables false
namespace Go.Proofs.YtogpnlkjcdedlaaDoor
open Go.RowKit Bs Rg Nf Go.Frame
attribute [local go_sem] eq_zero eq_set

theorem fst_ok (r : Rx) : ∀ o, (fst r o).length ≤ np r ∧ ∀ x ∈ fst r o, o ≤ x ∧ x < o + np r := by
  induction r using Rx.ind with
  | h k s l ih =>
    have hC : ∀ m : List Rx, (∀ x ∈ m, ∀ o, (fst x o).length ≤ np x ∧ ∀ y ∈ fst x o, o ≤ y ∧ y < o + np x) → ∀ o, (fstC m o).length ≤ npL m ∧ ∀ x ∈ fstC m o, o ≤ x ∧ x < o + npL m := by
      intro m
      induction m with
      | nil => intro _ o; rw [fstC_nil]; simp
      | cons y m ihm =>
        intro hm o
        have h1 := hm y (by simp) o
        have h2 := ihm (fun x hx => hm x (by simp [hx])) (o + np y)
        rw [fstC_cons, npL]
        refine ⟨?_, fun x hx => ?_⟩
        · split <;> simp <;> omega
        · rcases List.mem_append.1 hx with hx | hx
          · have := h1.2 x hx; omega
          · split at hx
            · have := h2.2 x hx; omega
            · simp at hx
    have hU : ∀ m : List Rx, (∀ x ∈ m, ∀ o, (fst x o).length ≤ np x ∧ ∀ y ∈ fst x o, o ≤ y ∧ y < o + np x) → ∀ o, (fstU m o).length ≤ npL m ∧ ∀ x ∈ fstU m o, o ≤ x ∧ x < o + npL m := by
      intro m
      induction m with
      | nil => intro _ o; rw [fstU_nil]; simp
      | cons y m ihm =>
        intro hm o
        have h1 := hm y (by simp) o
        have h2 := ihm (fun x hx => hm x (by simp [hx])) (o + np y)
        rw [fstU_cons, npL]
        refine ⟨by simp; omega, fun x hx => ?_⟩
        rcases List.mem_append.1 hx with hx | hx
        · have := h1.2 x hx; omega
        · have := h2.2 x hx; omega
    intro o
    rw [fst_mk, np_mk]
    by_cases h3 : k = 3
    · rw [if_pos h3, if_pos h3]; simp
    · rw [if_neg h3, if_neg h3]
      by_cases h4 : k = 4
      · rw [if_pos h4]; exact hC l ih o
      · rw [if_neg h4]; exact hU l ih o
theorem las_ok (r : Rx) : ∀ o, (las r o).length ≤ np r ∧ ∀ x ∈ las r o, o ≤ x ∧ x < o + np r := by
  induction r using Rx.ind with
  | h k s l ih =>
    have hC : ∀ m : List Rx, (∀ x ∈ m, ∀ o, (las x o).length ≤ np x ∧ ∀ y ∈ las x o, o ≤ y ∧ y < o + np x) → ∀ o, (lasC m o).length ≤ npL m ∧ ∀ x ∈ lasC m o, o ≤ x ∧ x < o + npL m := by
      intro m
      induction m with
      | nil => intro _ o; rw [lasC_nil]; simp
      | cons y m ihm =>
        intro hm o
        have h1 := hm y (by simp) o
        have h2 := ihm (fun x hx => hm x (by simp [hx])) (o + np y)
        rw [lasC_cons, npL]
        refine ⟨?_, fun x hx => ?_⟩
        · split <;> simp <;> omega
        · rcases List.mem_append.1 hx with hx | hx
          · split at hx
            · have := h1.2 x hx; omega
            · simp at hx
          · have := h2.2 x hx; omega
    have hU : ∀ m : List Rx, (∀ x ∈ m, ∀ o, (las x o).length ≤ np x ∧ ∀ y ∈ las x o, o ≤ y ∧ y < o + np x) → ∀ o, (lasU m o).length ≤ npL m ∧ ∀ x ∈ lasU m o, o ≤ x ∧ x < o + npL m := by
      intro m
      induction m with
      | nil => intro _ o; rw [lasU_nil]; simp
      | cons y m ihm =>
        intro hm o
        have h1 := hm y (by simp) o
        have h2 := ihm (fun x hx => hm x (by simp [hx])) (o + np y)
        rw [lasU_cons, npL]
        refine ⟨by simp; omega, fun x hx => ?_⟩
        rcases List.mem_append.1 hx with hx | hx
        · have := h1.2 x hx; omega
        · have := h2.2 x hx; omega
    intro o
    rw [las_mk, np_mk]
    by_cases h3 : k = 3
    · rw [if_pos h3, if_pos h3]; simp
    · rw [if_neg h3, if_neg h3]
      by_cases h4 : k = 4
      · rw [if_pos h4]; exact hC l ih o
      · rw [if_neg h4]; exact hU l ih o
theorem TR.open {r : Rx} {base bb most : Nat} {S : List BS} {M : Nat → Nat → Bool} {A : List Int} {G : Nat → Prop} {U w' : World} {e : Ending} (h : TR r base bb most S M A G U e w') : ∃ a1 c1 a2 c2, e = .returned (.agg #[.bool (nul r), .slice a1 (fst r S.length).length c1, .slice a2 (las r S.length).length c2]) ∧ ∃ G', BX G' w' base bb most (S ++ os r) (orM M (pr r S.length)) (A ++ List.replicate (np r) (-1)) ∧ (∀ b, G' b → G b ∨ U.heap.size ≤ b) ∧ PR G' w' U.heap.size (.slice a1 (fst r S.length).length c1) (fst r S.length) ∧ PR G' w' U.heap.size (.slice a2 (las r S.length).length c2) (las r S.length) ∧ Kept (fun b => G b ∨ U.heap.size ≤ b) U w' := by
  obtain ⟨fv, lv, rfl, G', h1, h2, h3, h4, h5⟩ := h
  obtain ⟨a1, c1, rfl⟩ := own_form h3.1
  obtain ⟨a2, c2, rfl⟩ := own_form h4.1
  exact ⟨a1, c1, a2, c2, rfl, G', h1, h2, h3, h4, h5⟩
/-- A part laid into a new box. -/
def z3 : Obj := .cells #[.bool false, .slice none 0 0, .slice none 0 0] 108
def P3 (x y z : Value) : Obj := .cells #[x, y, z] 108
def set3 (W : World) (b : Nat) (x y z : Value) : World := ((W.setCell ⟨b, 0, none⟩ x).setCell ⟨b, 1, none⟩ y).setCell ⟨b, 2, none⟩ z
theorem set3_kept {F : Nat → Prop} {a W : World} {b : Nat} {x y z : Value} (h : Kept F a W) (hb : F b) : Kept F a (set3 W b x y z) := ((h.setCell (p := ⟨b, 0, none⟩) hb x).setCell (p := ⟨b, 1, none⟩) hb y).setCell (p := ⟨b, 2, none⟩) hb z
set_option maxRecDepth 100000 in
set_option maxHeartbeats 4000000 in
theorem star_any (s : BS) (x : Rx) (hX64 : TS 64 x) : TS 86 (.mk 6 s [x]) := by
  intro base bb most S M A G g W cs h hrc hg hm
  obtain ⟨a, n, c, rfl, hK⟩ := RC_mk.1 hrc
  have HB := hid h
  show Calls Tryd.prog 86 #[.pointer (some ⟨bb, 0, none⟩), .agg #[.int .i64 6, .int .u64 (ws s 0 : Int), .int .u64 (ws s 1 : Int), .int .u64 (ws s 2 : Int), .int .u64 (ws s 3 : Int), .slice a n c]] W _
  obtain ⟨X, hX⟩ : ∃ X, X = (W.alloc (.cells #[.int .i64 6, .int .u64 (ws s 0 : Int), .int .u64 (ws s 1 : Int), .int .u64 (ws s 2 : Int), .int .u64 (ws s 3 : Int), .slice a n c] 50)).alloc (.cells #[.bool false, .slice none 0 0, .slice none 0 0] 108) := ⟨_, rfl⟩
  have BXX := hid (show Below W.heap.size W X ∧ X.heap.size = W.heap.size + 2 from by rw [hX]; exact ⟨(bel1 _ _).alloc (by simp) _, by simp⟩)
  have hz : X.heap[W.heap.size + 1]? = some (.cells #[.bool false, .slice none 0 0, .slice none 0 0] 108 (0, 0)) := by rw [hX]; exact (by simpa using alloc_new (W.alloc (.cells #[.int .i64 6, .int .u64 (ws s 0 : Int), .int .u64 (ws s 1 : Int), .int .u64 (ws s 2 : Int), .int .u64 (ws s 3 : Int), .slice a n c] 50)) _)
  have hx6 : X.heap[W.heap.size]? = some (.cells #[.int .i64 6, .int .u64 (ws s 0 : Int), .int .u64 (ws s 1 : Int), .int .u64 (ws s 2 : Int), .int .u64 (ws s 3 : Int), .slice a n c] 50 (0, 0)) := by rw [hX]; exact blk_alloc (alloc_new _ _)
  obtain rfl : n = 1 := by have := hK.len; simpa using this.symm
  obtain ⟨b, off, k', s', l', a', n', c', rfl, hgb, hb, hxe, hK', q0, q1, q2, q3, q4, q5⟩ := (hK.below BXX.out.1).get (i := 0) (by decide)
  obtain rfl : x = .mk k' s' l' := by simpa using hxe
  simp only [Nat.zero_mul, Nat.add_zero] at q0 q1 q2 q3 q4 q5
  obtain ⟨x, hx⟩ : ∃ x, x = Rx.mk k' s' l' := ⟨_, rfl⟩
  have hnp : np (.mk 6 s [x]) = np x := by rw [np_mk, if_neg (by decide), npL, npL]; omega
  have hm' : S.length + np x ≤ most := by rw [← hnp, hx]; exact hm
  have CF := hid (show Calls Tryd.prog 64 #[.pointer (some ⟨bb, 0, none⟩), .agg #[.int .i64 k', .int .u64 (ws s' 0 : Int), .int .u64 (ws s' 1 : Int), .int .u64 (ws s' 2 : Int), .int .u64 (ws s' 3 : Int), .slice a' n' c']] X (TR x base bb most S M A G X) from by
    have h1 := hX64 base bb most S M A G g X _ (HB.out.below BXX.out.1) (RC_mk.2 ⟨a', n', c', rfl, hK'⟩) hg (by rw [← hx]; exact hm')
    rw [← hx] at h1; exact h1)
  have Hlt := hid (fun b hb => (h.lt b hb).2 : ∀ b, G b → b < W.heap.size)
  have HZ := hid (And.intro hz hm')
  have hmost := h.most
  rw [← hx]
  obtain ⟨d0, d1, d2, d3, d4, d5⟩ := cells6 hx6
  clear h hrc hg hK hK' hxe hm hm' hX64 hz hx6
  go_enter Tryd.func86, Tryd.ntmps86
  go_upto_region 1 with fail
  rw [← hX]
  clear hX
  go_wp2_with fail
  refine CF.out.mono ?_
  intro e w1 h1
  obtain ⟨a1, c1, a2, c2, rfl, G', hbx, hG', hf, hl, hkp⟩ := h1.open
  obtain ⟨F, hF⟩ : ∃ F, F = fst x S.length := ⟨_, rfl⟩
  obtain ⟨L, hL⟩ : ∃ L, L = las x S.length := ⟨_, rfl⟩
  obtain ⟨nl, hnl⟩ : ∃ nl, nl = nul x := ⟨_, rfl⟩
  rw [← hF] at hf ⊢
  rw [← hL] at hl ⊢
  rw [← hnl]
  have HN := hid (And.intro hF (And.intro hL hnl))
  clear hF hL hnl h1 CF d0 d1 d2 d3 d4 d5 q0 q1 q2 q3 q4 q5
  have hs2 := BXX.out.2
  have hs1 := hkp.size
  have hzR : w1.heap[W.heap.size + 1]? = some (.cells #[.bool false, .slice none 0 0, .slice none 0 0] 108 (0, 0)) := (hkp.block _ (by rintro (e | e); have := Hlt.out _ e; omega; omega)).trans HZ.out.1
  obtain ⟨Y, hY⟩ : ∃ Y, Y = w1.alloc (.cells #[.bool nl, .slice a1 F.length c1, .slice a2 L.length c2] 108) := ⟨_, rfl⟩
  have hP5 : Y.heap[w1.heap.size]? = some (.cells #[.bool nl, .slice a1 F.length c1, .slice a2 L.length c2] 108 (0, 0)) := by rw [hY]; exact alloc_new _ _
  have k3 : Kept (fun b => w1.heap.size ≤ b) w1 Y := by rw [hY]; exact (Kept.refl _ w1).alloc (fun b hb => hb) _
  have hnG : ∀ b, G' b → ¬ w1.heap.size ≤ b := fun b hb => by have := (hbx.lt b hb).2; omega
  have hzY : Y.heap[W.heap.size + 1]? = some (.cells #[.bool false, .slice none 0 0, .slice none 0 0] 108 (0, 0)) := (k3.block _ (by have := heap_lt hzR; omega)).trans hzR
  have CA := hid (addArcs_X base bb most (S ++ os x) (orM M (pr x S.length)) (A ++ List.replicate (np x) (-1)) G' Y (.slice a2 L.length c2) (.slice a1 F.length c1) (hbx.kept k3 hnG) L F _ _ (hl.kept k3 fun k hk => by have := (hl.1.lt k hk).2; omega) (hf.kept k3 fun k hk => by have := (hf.1.lt k hk).2; omega)
    (fun y hy => by rw [HN.out.2.1] at hy; have := (las_ok x S.length).2 y hy; rw [List.length_append, os_length]; omega)
    (fun y hy => by rw [HN.out.1] at hy; have := (fst_ok x S.length).2 y hy; have := HZ.out.2; omega)
    (by rw [HN.out.2.1]; have := (las_ok x S.length).1; have := HZ.out.2; omega) (by rw [HN.out.1]; have := (fst_ok x S.length).1; have := HZ.out.2; omega))
  have H1 := hid (And.intro hbx (And.intro hG' (And.intro hf (And.intro hl (And.intro hkp (And.intro k3 (And.intro hnG (And.intro hP5 hzY))))))))
  obtain ⟨y0, y1, y2⟩ := cells3 hP5
  clear hbx hG' hf hl hkp hzR k3 hnG hP5 hzY
  go_upto_region 2 with fail
  rw [← hY]
  clear hY
  go_wp2_with fail
  refine CA.out.mono ?_
  rintro e w3 ⟨rfl, hbx3, hkp3⟩
  have hP53 : w3.heap[w1.heap.size]? = some (.cells #[.bool nl, .slice a1 F.length c1, .slice a2 L.length c2] 108 (0, 0)) := (hkp3.block _ fun h => H1.out.2.2.2.2.2.2.1 _ h (Nat.le_refl _)).trans H1.out.2.2.2.2.2.2.2.1
  have hnR : ¬ G' (W.heap.size + 1) := fun h => by rcases H1.out.2.1 _ h with h | h; have := Hlt.out _ h; omega; omega
  have hzR3 : w3.heap[W.heap.size + 1]? = some (.cells #[.bool false, .slice none 0 0, .slice none 0 0] 108 (0, 0)) := (hkp3.block _ hnR).trans H1.out.2.2.2.2.2.2.2.2
  have hne : W.heap.size + 1 ≠ w1.heap.size := by omega
  have H3 := hid (And.intro hbx3 (And.intro hkp3 hnR))
  have g0 := Go.Frame.free hP53 0
  obtain ⟨u0, u1, u2⟩ := cells3 hP53
  have hP4 : (w3.setCell ⟨w1.heap.size, 0, none⟩ (.bool true)).heap[w1.heap.size]? = some (.cells #[.bool true, .slice a1 F.length c1, .slice a2 L.length c2] 108 (0, 0)) := (blk_put hP53).trans rfl
  have hR4 : (w3.setCell ⟨w1.heap.size, 0, none⟩ (.bool true)).heap[W.heap.size + 1]? = some (.cells #[.bool false, .slice none 0 0, .slice none 0 0] 108 (0, 0)) := blk_set hzR3 hne
  obtain ⟨v0, v1, v2⟩ := cells3 hP4
  obtain ⟨r0, r1, r2⟩ := cells3 hR4
  obtain ⟨g1, g2, g3⟩ := frozen3 hR4
  have hR5 := three_set (x' := .bool true) (y' := .slice a1 F.length c1) (z' := .slice a2 L.length c2) hR4
  obtain ⟨t0, t1, t2⟩ := cells3 hR5
  clear hbx3 hkp3 hP53 hzR3 hP4 hR4 hR5 hnR CA y0 y1 y2
  go_wp2
  refine bodyPost_ret (v := .agg #[.bool true, .slice a1 F.length c1, .slice a2 L.length c2]) ?_ rfl ?_
  · simp [results, Tryd.results86, go_sem, t0, t1, t2]
  · obtain ⟨hbx, hG', hf, hl, hkp, k3, hnG, hP5, hzY⟩ := H1.out
    obtain ⟨hbx3, hkp3, hnR⟩ := H3.out
    have e1 : os (.mk 6 s [x]) = os x := by rw [os_mk, if_neg (by decide), osL, osL, List.append_nil]
    have e2 : np (.mk 6 s [x]) = np x := hnp
    have e3 : fst (.mk 6 s [x]) S.length = F := by rw [fst_mk, if_neg (by decide), if_neg (by decide), fstU_cons, fstU_nil, List.append_nil, HN.out.1]
    have e4 : las (.mk 6 s [x]) S.length = L := by rw [las_mk, if_neg (by decide), if_neg (by decide), lasU_cons, lasU_nil, List.append_nil, HN.out.2.1]
    have e5 : addM (orM M (pr x S.length)) L F = orM M (pr (.mk 6 s [x]) S.length) := by
      funext i j
      rw [orM, pr_mk, if_neg (by decide), if_neg (by decide), prU_cons, prU_nil, lasU_cons, lasU_nil, fstU_cons, fstU_nil, List.append_nil, List.append_nil, ← HN.out.1, ← HN.out.2.1]
      simp [addM, orM, Bool.or_assoc]
    have k4 : Kept (fun b => b = w1.heap.size ∨ b = W.heap.size + 1) w3 (set3 (w3.setCell ⟨w1.heap.size, 0, none⟩ (.bool true)) (W.heap.size + 1) (.bool true) (.slice a1 F.length c1) (.slice a2 L.length c2)) := set3_kept ((Kept.refl _ w3).setCell (p := ⟨w1.heap.size, 0, none⟩) (.inl rfl) _) (.inr rfl)
    have hp : ∀ {v l}, PR G' w1 X.heap.size v l → PR G' (set3 (w3.setCell ⟨w1.heap.size, 0, none⟩ (.bool true)) (W.heap.size + 1) (.bool true) (.slice a1 F.length c1) (.slice a2 L.length c2)) W.heap.size v l := fun {v l} h => (((h.kept k3 fun k hk => by have := (h.1.lt k hk).2; omega).kept hkp3 h.2).kept k4 fun k hk => by have := h.1.lt k hk; omega).mono (by omega)
    refine ⟨.slice a1 F.length c1, .slice a2 L.length c2, by simp [nul], G', ?_, fun b hb => (hG' b hb).imp_right fun h => by omega, by rw [e3]; exact hp hf, by rw [e4]; exact hp hl, ?_⟩
    · rw [e1, e2, ← e5]
      exact hbx3.kept k4 fun b hb => by
        rintro (e | e)
        · exact hnG b hb (by omega)
        · exact hnR (e ▸ hb)
    · exact (((Kept.below BXX.out.1 fun b hb => .inr hb).trans (hkp.mono fun b hb => hb.imp_right fun h => by omega)).trans (k3.mono fun b hb => .inr (by omega))).trans ((hkp3.mono fun b hb => (hG' b hb).imp_right fun h => by omega).trans (k4.mono fun b hb => .inr (by omega)))
end Go.Proofs.YtogpnlkjcdedlaaDoor
end
section
set_option linter.unusedSimpArgs false
set_option linter.unusedVariables false
namespace Go.Proofs.YtogpnlkjcdedlaaDoor
open Go.RowKit Bs Rg Nf Go.Frame
attribute [local go_sem] eq_zero eq_set

theorem own_le {W : World} {base e s n c : Nat} {a : Option Addr} {xs : List Value} (h : W.ownsRow base e s (.slice a n c) n xs) : n ≤ c := by
  rcases h.2 with ⟨e1, h0⟩ | ⟨g, cap, cur, e1, hb, hgg, hn2, _⟩
  · omega
  · simp only [Value.slice.injEq] at e1
    omega
theorem append_none {W : World} {base : Nat} {a1 a2 : Option Addr} {n c1 c2 : Nat} {xs : List Value} (h : W.ownsRow base 3 1 (.slice a1 n c1) n xs) : (Builtin.append_ #[23, 23] 23 #[.slice a1 n c1, .slice a2 0 c2]).run Tryd.prog W = .ok (.slice a1 n c1) W := by
  obtain ⟨i0, hi, hz0, hz1, hz2⟩ := info_parts Tryd.info3
  refine run_append_nothing W 23 23 23 3 i0 Tryd.underlying23 hi a1 n c1 (own_le h) _ ?_
  cases a2 with
  | none => exact Src.ofNil W Tryd.underlying23 c2
  | some q => exact Src.ofSlice W Tryd.underlying23 q 0 c2 [] (by simp) (by simp) (by simp)
theorem ints_append (F L : List Nat) : ints (F ++ L) = ints F ++ ints L := by simp [ints]
theorem ints_length (F : List Nat) : (ints F).length = F.length := by simp [ints]
theorem wpList_row {ops : Array Oper} {rest : List Oper} {o : Oper} {a : Act} {w : World} {Q : Exit → Act → World → Prop} (hgd : o.guard = none) (s x : Operand)
    (ho : o.op = .call { callee := .builtin .append, args := #[s, x], argTypes := #[23, 23] }) (hty : o.type = 23) (base b2 : Nat) (a1 a2 : Option Addr) (c1 c2 : Nat) (F L : List Nat)
    (hs : a.eval s = .slice a1 F.length c1) (hown : w.ownsRow base 3 1 (.slice a1 F.length c1) F.length (ints F)) (hx : a.eval x = .slice a2 L.length c2) (hown2 : w.ownsRow b2 3 1 (.slice a2 L.length c2) L.length (ints L))
    (hbase : base ≤ w.heap.size) (hF : F.length ≤ 1000) (hL : L.length ≤ 1000)
    (h : ∀ FF a3 c3 w', Hid (FF = F ++ L) → w'.ownsRow base 3 1 (.slice a3 FF.length c3) FF.length (ints FF) → w.grownBy w' (Value.slice a1 F.length c1).ownBlock → (∀ k, (Value.slice a3 FF.length c3).ownBlock = some k → (Value.slice a1 F.length c1).ownBlock = some k ∨ w.heap.size ≤ k) → wpList Tryd.prog ops Q rest (a.put o.dst (.slice a3 FF.length c3)) w') : wpList Tryd.prog ops Q (o :: rest) a w := by
  obtain ⟨i0, hi, hz0, hz1, hz2⟩ := info_parts Tryd.info3
  by_cases h0 : L.length = 0
  · obtain rfl : L = [] := List.length_eq_zero_iff.1 h0
    refine wpList_plain hgd fun K hK => ?_
    unfold Oper.wp execOp
    simp only [ho, hty, resolve, invoke, builtin, Sem.run_bind, Sem.run_pure, Result.andThen_ok, List.map_toArray, List.map_cons, List.map_nil, hs, hx]
    have hn := append_none (a2 := a2) (c2 := c2) hown
    simp only [List.length_nil] at *
    rw [hn]
    have := h F a1 c1 w (hid (by simp)) (by simpa using hown) ⟨rfl, rfl, rfl, Nat.le_refl _, fun _ _ _ => rfl⟩ (fun k hk => .inl (by simpa using hk))
    exact hK _ _ (by simpa using this)
  · rcases hown2.2 with ⟨e, h9⟩ | ⟨g, cap, cur, e, hb, hgg, hn2, hcm, hc2, ht⟩
    · omega
    · simp only [Value.slice.injEq] at e
      obtain ⟨rfl, _, rfl⟩ := e
      refine wpList_append_lies w hgd s x 23 ho base 3 i0 (.int .i64 0) 1 8 Tryd.underlying23 hi hz0 hz1 hz2 rfl (by decide) _ _ _ hs hown ⟨g, 0, none⟩ L.length c2 (ints L) hx (by rw [ints_length]; omega) (fun j u hj => ?_) (fun u hu => ?_) (by omega) (by unfold maxLen; omega) (by omega) hbase _ rfl ?_
      · obtain ⟨g', e', _, h8, _⟩ := own_cell hown2 hj
        simp only [Option.some.injEq, Addr.mk.injEq] at e'
        rw [← e'.1] at h8
        unfold Addr.add
        split
        · rename_i h7; rw [h7] at h8; exact h8
        · simpa using h8
      · simp only [ints, List.mem_map] at hu
        obtain ⟨y, _, rfl⟩ := hu
        rfl
      · intro g5 cap5 w' h1 h2 h3 h4
        have := h (F ++ L) (some ⟨g5, 0, none⟩) cap5 w' (hid rfl) (by rw [ints_append, List.length_append]; exact h1) h2 (fun k hk => by
          simp [Value.ownBlock] at hk
          subst hk
          rcases h3 with h3 | h3
          · exact .inl h3
          · exact .inr (by omega))
        rw [List.length_append] at this
        exact this
/-- The part under way in its box, beside the builder. -/
structure PT (G0 : Nat → Prop) (Y wr : World) (base bb most : Nat) (S : List BS) (M : Nat → Nat → Bool) (A : List Int) (G1 : Nat → Prop) (p5 : Nat) (nl : Bool) (a1 : Option Addr) (c1 : Nat) (F : List Nat) (a2 : Option Addr) (c2 : Nat) (L : List Nat) : Prop where
  bx : BX G1 wr base bb most S M A
  sub : ∀ b, G1 b → G0 b ∨ Y.heap.size ≤ b
  g0 : ∀ b, G0 b → b < p5
  pz : p5 + 1 = Y.heap.size
  box : wr.heap[p5]? = some (.cells #[.bool nl, .slice a1 F.length c1, .slice a2 L.length c2] 108 (0, 0))
  pf : PR G1 wr Y.heap.size (.slice a1 F.length c1) F
  pl : PR G1 wr Y.heap.size (.slice a2 L.length c2) L
  ne : ∀ k, (Value.slice a1 F.length c1).ownBlock = some k → (Value.slice a2 L.length c2).ownBlock ≠ some k
  kp : Kept (fun b => G0 b ∨ b = p5 ∨ Y.heap.size ≤ b) Y wr
theorem PT.np5 {G0 G1 : Nat → Prop} {Y wr : World} {base bb most p5 : Nat} {S : List BS} {M : Nat → Nat → Bool} {A : List Int} {nl : Bool} {a1 a2 : Option Addr} {c1 c2 : Nat} {F L : List Nat} (h : PT G0 Y wr base bb most S M A G1 p5 nl a1 c1 F a2 c2 L) : ¬ G1 p5 := fun hg => by
  have := h.pz
  rcases h.sub p5 hg with h1 | h1
  · have := h.g0 _ h1; omega
  · omega
theorem PT.put {G0 G1 : Nat → Prop} {Y wr : World} {base bb most p5 : Nat} {S : List BS} {M : Nat → Nat → Bool} {A : List Int} {nl : Bool} {a1 a2 : Option Addr} {c1 c2 : Nat} {F L : List Nat} (h : PT G0 Y wr base bb most S M A G1 p5 nl a1 c1 F a2 c2 L) (j : Nat) (v : Value) : BX G1 (wr.setCell ⟨p5, j, none⟩ v) base bb most S M A ∧ PR G1 (wr.setCell ⟨p5, j, none⟩ v) Y.heap.size (.slice a1 F.length c1) F ∧ PR G1 (wr.setCell ⟨p5, j, none⟩ v) Y.heap.size (.slice a2 L.length c2) L ∧ Kept (fun b => G0 b ∨ b = p5 ∨ Y.heap.size ≤ b) Y (wr.setCell ⟨p5, j, none⟩ v) := by
  have hk : Kept (fun b => b = p5) wr (wr.setCell ⟨p5, j, none⟩ v) := (Kept.refl (fun b => b = p5) wr).setCell (p := ⟨p5, j, none⟩) rfl v
  have hp := h.pz
  exact ⟨h.bx.kept hk fun b hb e => h.np5 ((show b = p5 from e) ▸ hb), h.pf.kept hk fun k hk' e => by have := (h.pf.1.lt k hk').1; omega, h.pl.kept hk fun k hk' e => by have := (h.pl.1.lt k hk').1; omega, h.kp.trans (hk.mono fun b hb => .inr (.inl hb))⟩
theorem PT.nul {G0 G1 : Nat → Prop} {Y wr : World} {base bb most p5 : Nat} {S : List BS} {M : Nat → Nat → Bool} {A : List Int} {nl : Bool} {a1 a2 : Option Addr} {c1 c2 : Nat} {F L : List Nat} (h : PT G0 Y wr base bb most S M A G1 p5 nl a1 c1 F a2 c2 L) (nl' : Bool) : PT G0 Y (wr.setCell ⟨p5, 0, none⟩ (.bool nl')) base bb most S M A G1 p5 nl' a1 c1 F a2 c2 L := by
  obtain ⟨h1, h2, h3, h4⟩ := h.put 0 (.bool nl')
  exact ⟨h1, h.sub, h.g0, h.pz, (blk_put h.box).trans rfl, h2, h3, h.ne, h4⟩
theorem PT.clr {G0 G1 : Nat → Prop} {Y wr : World} {base bb most p5 : Nat} {S : List BS} {M : Nat → Nat → Bool} {A : List Int} {nl : Bool} {a1 a2 : Option Addr} {c1 c2 : Nat} {F L : List Nat} (h : PT G0 Y wr base bb most S M A G1 p5 nl a1 c1 F a2 c2 L) : PT G0 Y (wr.setCell ⟨p5, 2, none⟩ (.slice none 0 0)) base bb most S M A G1 p5 nl a1 c1 F none 0 [] := by
  obtain ⟨h1, h2, h3, h4⟩ := h.put 2 (.slice none 0 0)
  exact ⟨h1, h.sub, h.g0, h.pz, (blk_put h.box).trans rfl, h2, PR.nil _ _ _, fun k _ h => by simp [Value.ownBlock] at h, h4⟩
theorem PT.first {G0 G1 : Nat → Prop} {Y wr : World} {base bb most p5 : Nat} {S : List BS} {M : Nat → Nat → Bool} {A : List Int} {nl : Bool} {a1 a2 : Option Addr} {c1 c2 : Nat} {F L : List Nat} (h : PT G0 Y wr base bb most S M A G1 p5 nl a1 c1 F a2 c2 L) {w' : World} {a3 : Option Addr} {c3 : Nat} {FF : List Nat} (ho : w'.ownsRow Y.heap.size 3 1 (.slice a3 FF.length c3) FF.length (ints FF)) (hg : wr.grownBy w' (Value.slice a1 F.length c1).ownBlock) (hw : ∀ k, (Value.slice a3 FF.length c3).ownBlock = some k → (Value.slice a1 F.length c1).ownBlock = some k ∨ wr.heap.size ≤ k) :
    PT G0 Y (w'.setCell ⟨p5, 1, none⟩ (.slice a3 FF.length c3)) base bb most S M A G1 p5 nl a3 c3 FF a2 c2 L := by
  have hp := h.pz
  have k1 : Kept (fun b => (Value.slice a1 F.length c1).ownBlock = some b ∨ wr.heap.size ≤ b) wr w' := Kept.grown (Kept.refl _ _) hg (fun b hb => .inr hb) (fun k hk => .inl hk)
  have hp5 : p5 < wr.heap.size := heap_lt h.box
  have n1 : ∀ b, G1 b → ¬ ((Value.slice a1 F.length c1).ownBlock = some b ∨ wr.heap.size ≤ b) := fun b hb => by
    rintro (e | e)
    · exact h.pf.2 b e hb
    · have := (h.bx.lt b hb).2; omega
  have n2 : ∀ k, (Value.slice a2 L.length c2).ownBlock = some k → ¬ ((Value.slice a1 F.length c1).ownBlock = some k ∨ wr.heap.size ≤ k) := fun k hk => by
    rintro (e | e)
    · exact h.ne k e hk
    · have := (h.pl.1.lt k hk).2; omega
  have hb : w'.heap[p5]? = some (.cells #[.bool nl, .slice a1 F.length c1, .slice a2 L.length c2] 108 (0, 0)) := (k1.block p5 (by
    rintro (e | e)
    · have := (h.pf.1.lt _ e).1; omega
    · omega)).trans h.box
  have k2 : Kept (fun b => b = p5) w' (w'.setCell ⟨p5, 1, none⟩ (.slice a3 FF.length c3)) := (Kept.refl (fun b => b = p5) w').setCell (p := ⟨p5, 1, none⟩) rfl _
  have hs0 := h.kp.size
  refine ⟨(h.bx.kept k1 n1).kept k2 fun b hb e => h.np5 ((show b = p5 from e) ▸ hb), h.sub, h.g0, h.pz, (blk_put hb).trans rfl, ⟨own_kept ho k2 fun k hk e => by have := (ho.lt k hk).1; omega, fun k hk hg1 => ?_⟩, (h.pl.kept k1 n2).kept k2 fun k hk e => by have := (h.pl.1.lt k hk).1; omega, fun k hk hk2 => ?_, (h.kp.trans (k1.mono fun b hb => ?_)).trans (k2.mono fun b hb => .inr (.inl hb))⟩
  · rcases hw k hk with e | e
    · exact h.pf.2 k e hg1
    · have := (h.bx.lt k hg1).2; omega
  · rcases hw k hk with e | e
    · exact h.ne k e hk2
    · have := (h.pl.1.lt k hk2).2; omega
  · rcases hb with e | e
    · exact .inr (.inr (h.pf.1.lt _ e).1)
    · exact .inr (.inr (by omega))
theorem PT.last {G0 G1 : Nat → Prop} {Y wr : World} {base bb most p5 : Nat} {S : List BS} {M : Nat → Nat → Bool} {A : List Int} {nl : Bool} {a1 a2 : Option Addr} {c1 c2 : Nat} {F L : List Nat} (h : PT G0 Y wr base bb most S M A G1 p5 nl a1 c1 F a2 c2 L) {w' : World} {a3 : Option Addr} {c3 : Nat} {FF : List Nat} (ho : w'.ownsRow Y.heap.size 3 1 (.slice a3 FF.length c3) FF.length (ints FF)) (hg : wr.grownBy w' (Value.slice a2 L.length c2).ownBlock) (hw : ∀ k, (Value.slice a3 FF.length c3).ownBlock = some k → (Value.slice a2 L.length c2).ownBlock = some k ∨ wr.heap.size ≤ k) :
    PT G0 Y (w'.setCell ⟨p5, 2, none⟩ (.slice a3 FF.length c3)) base bb most S M A G1 p5 nl a1 c1 F a3 c3 FF := by
  have hp := h.pz
  have k1 : Kept (fun b => (Value.slice a2 L.length c2).ownBlock = some b ∨ wr.heap.size ≤ b) wr w' := Kept.grown (Kept.refl _ _) hg (fun b hb => .inr hb) (fun k hk => .inl hk)
  have hp5 : p5 < wr.heap.size := heap_lt h.box
  have n1 : ∀ b, G1 b → ¬ ((Value.slice a2 L.length c2).ownBlock = some b ∨ wr.heap.size ≤ b) := fun b hb => by
    rintro (e | e)
    · exact h.pl.2 b e hb
    · have := (h.bx.lt b hb).2; omega
  have n2 : ∀ k, (Value.slice a1 F.length c1).ownBlock = some k → ¬ ((Value.slice a2 L.length c2).ownBlock = some k ∨ wr.heap.size ≤ k) := fun k hk => by
    rintro (e | e)
    · exact h.ne k hk e
    · have := (h.pf.1.lt k hk).2; omega
  have hb : w'.heap[p5]? = some (.cells #[.bool nl, .slice a1 F.length c1, .slice a2 L.length c2] 108 (0, 0)) := (k1.block p5 (by
    rintro (e | e)
    · have := (h.pl.1.lt _ e).1; omega
    · omega)).trans h.box
  have k2 : Kept (fun b => b = p5) w' (w'.setCell ⟨p5, 2, none⟩ (.slice a3 FF.length c3)) := (Kept.refl (fun b => b = p5) w').setCell (p := ⟨p5, 2, none⟩) rfl _
  have hs0 := h.kp.size
  refine ⟨(h.bx.kept k1 n1).kept k2 fun b hb e => h.np5 ((show b = p5 from e) ▸ hb), h.sub, h.g0, h.pz, (blk_put hb).trans rfl, (h.pf.kept k1 n2).kept k2 fun k hk e => by have := (h.pf.1.lt k hk).1; omega, ⟨own_kept ho k2 fun k hk e => by have := (ho.lt k hk).1; omega, fun k hk hg1 => ?_⟩, fun k hk hk2 => ?_, (h.kp.trans (k1.mono fun b hb => ?_)).trans (k2.mono fun b hb => .inr (.inl hb))⟩
  · rcases hw k hk with e | e
    · exact h.pl.2 k e hg1
    · have := (h.bx.lt k hg1).2; omega
  · rcases hw k hk2 with e | e
    · exact h.ne k hk e
    · have := (h.pf.1.lt k hk).2; omega
  · rcases hb with e | e
    · exact .inr (.inr (h.pl.1.lt _ e).1)
    · exact .inr (.inr (by omega))
/-- What a call did that may write to G1 and to new blocks. -/
theorem PT.call {G0 G1 : Nat → Prop} {Y wr : World} {base bb most p5 : Nat} {S : List BS} {M : Nat → Nat → Bool} {A : List Int} {nl : Bool} {a1 a2 : Option Addr} {c1 c2 : Nat} {F L : List Nat} (h : PT G0 Y wr base bb most S M A G1 p5 nl a1 c1 F a2 c2 L) {w' : World} {S' : List BS} {M' : Nat → Nat → Bool} {A' : List Int} {G2 : Nat → Prop} (hk : Kept (fun b => G1 b ∨ wr.heap.size ≤ b) wr w') (hb : BX G2 w' base bb most S' M' A') (hG : ∀ b, G2 b → G1 b ∨ wr.heap.size ≤ b) : PT G0 Y w' base bb most S' M' A' G2 p5 nl a1 c1 F a2 c2 L := by
  have hp5 : p5 < wr.heap.size := heap_lt h.box
  have hs0 := h.kp.size
  have m1 : ∀ {v l}, PR G1 wr Y.heap.size v l → PR G2 w' Y.heap.size v l := fun {v l} hp => ⟨own_kept hp.1 hk fun k hk' => by
      rintro (e | e)
      · exact hp.2 k hk' e
      · have := (hp.1.lt k hk').2; omega, fun k hk' hg => by
      rcases hG k hg with e | e
      · exact hp.2 k hk' e
      · have := (hp.1.lt k hk').2; omega⟩
  refine ⟨hb, fun b hb => ?_, h.g0, h.pz, (hk.block p5 (by rintro (e | e); exact h.np5 e; omega)).trans h.box, m1 h.pf, m1 h.pl, h.ne, h.kp.trans (hk.mono fun b hb => ?_)⟩
  · rcases hG b hb with e | e
    · exact h.sub b e
    · exact .inr (by omega)
  · rcases hb with e | e
    · exact (h.sub b e).imp_right .inr
    · exact .inr (.inr (by omega))
theorem PT.below {G0 G1 : Nat → Prop} {Y wr : World} {base bb most p5 : Nat} {S : List BS} {M : Nat → Nat → Bool} {A : List Int} {nl : Bool} {a1 a2 : Option Addr} {c1 c2 : Nat} {F L : List Nat} (h : PT G0 Y wr base bb most S M A G1 p5 nl a1 c1 F a2 c2 L) {w' : World} (hb : Below wr.heap.size wr w') : PT G0 Y w' base bb most S M A G1 p5 nl a1 c1 F a2 c2 L := h.call (Kept.below hb fun b hb => .inr hb) (h.bx.below hb) fun b hb => .inl hb
end Go.Proofs.YtogpnlkjcdedlaaDoor
end
section
set_option linter.unusedSimpArgs false
set_option linter.unusedVariables false
namespace Go.Proofs.YtogpnlkjcdedlaaDoor
open Go.RowKit Bs Rg Nf Go.Frame
attribute [local go_sem] eq_zero eq_set

theorem npL_take {l : List Rx} {i : Nat} {x : Rx} (h : l[i]? = some x) : npL (l.take i) + np x ≤ npL l := by
  have h1 : l = l.take (i + 1) ++ l.drop (i + 1) := (List.take_append_drop _ _).symm
  have h2 : npL l = npL (l.take (i + 1)) + npL (l.drop (i + 1)) := by rw [← npL_append, ← h1]
  rw [List.take_add_one, h, npL_append] at h2
  simp only [Option.toList_some, npL] at h2
  omega
theorem take_snoc {l : List Rx} {i : Nat} {x : Rx} (h : l[i]? = some x) : l.take (i + 1) = l.take i ++ [x] := by rw [List.take_add_one, h]; rfl
theorem fstU_len (m : List Rx) (o : Nat) : (fstU m o).length ≤ npL m := by
  have := (fst_ok (.mk 5 none8 m) o).1
  rwa [fst_mk, if_neg (by decide), if_neg (by decide), np_mk, if_neg (by decide)] at this
theorem lasU_len (m : List Rx) (o : Nat) : (lasU m o).length ≤ npL m := by
  have := (las_ok (.mk 5 none8 m) o).1
  rwa [las_mk, if_neg (by decide), if_neg (by decide), np_mk, if_neg (by decide)] at this
theorem nulU_append (l m : List Rx) : nulU (l ++ m) = (nulU l || nulU m) := by
  induction l with
  | nil => simp [nulU]
  | cons x l ih => simp [nulU, ih, Bool.or_assoc]
theorem RC.bound {g : Nat → Prop} {W : World} (r : Rx) : ∀ {cs : List Value}, RC g W r cs → RC (fun b => g b ∧ b < W.heap.size) W r cs := by
  induction r using Rx.ind with
  | h k s l ih =>
    intro cs h
    rw [RC_mk] at h ⊢
    obtain ⟨a, n, c, rfl, h1, h2, h3⟩ := h
    refine ⟨a, n, c, rfl, h1, h2, h3.imp id ?_⟩
    rintro ⟨b, off, rfl, hb, hlt, hK⟩
    refine ⟨b, off, rfl, ⟨hb, hlt⟩, hlt, RK_of fun i x hi => ?_⟩
    obtain ⟨cs, h4, h5⟩ := RK_get hK hi
    exact ⟨cs, h4, ih x (List.mem_of_getElem? hi) h5⟩
theorem Kd.bound {g : Nat → Prop} {W : World} {a : Option Addr} {n : Nat} {l : List Rx} (h : Kd g W a n l) : Kd (fun b => g b ∧ b < W.heap.size) W a n l := by
  refine ⟨h.1, h.2.1, h.2.2.imp id ?_⟩
  rintro ⟨b, off, rfl, hb, hlt, hK⟩
  refine ⟨b, off, rfl, ⟨hb, hlt⟩, hlt, RK_of fun i x hi => ?_⟩
  obtain ⟨cs, h4, h5⟩ := RK_get hK hi
  exact ⟨cs, h4, RC.bound x h5⟩
/-- The kid's part in its box. -/
structure KB (w : World) (K p8 : Nat) (y : Bool) (a3 : Option Addr) (c3 : Nat) (F2 : List Nat) (a4 : Option Addr) (c4 : Nat) (L2 : List Nat) : Prop where
  box : w.heap[p8]? = some (.cells #[.bool y, .slice a3 F2.length c3, .slice a4 L2.length c4] 108 (0, 0))
  r1 : w.ownsRow K 3 1 (.slice a3 F2.length c3) F2.length (ints F2)
  r2 : w.ownsRow K 3 1 (.slice a4 L2.length c4) L2.length (ints L2)
  hp : K ≤ p8
theorem KB.kept {F : Nat → Prop} {w w' : World} {K p8 : Nat} {y : Bool} {a3 a4 : Option Addr} {c3 c4 : Nat} {F2 L2 : List Nat} (h : KB w K p8 y a3 c3 F2 a4 c4 L2) (hk : Kept F w w') (hF : ∀ b, F b → b < K ∨ w.heap.size ≤ b) : KB w' K p8 y a3 c3 F2 a4 c4 L2 :=
  ⟨(hk.block _ fun e => by have := h.hp; have := heap_lt h.box; rcases hF _ e with h | h <;> omega).trans h.box, own_kept h.r1 hk fun k hk' e => by have := h.r1.lt k hk'; rcases hF _ e with h | h <;> omega, own_kept h.r2 hk fun k hk' e => by have := h.r2.lt k hk'; rcases hF _ e with h | h <;> omega, h.hp⟩
theorem KB.cells {w : World} {K p8 : Nat} {y : Bool} {a3 a4 : Option Addr} {c3 c4 : Nat} {F2 L2 : List Nat} (h : KB w K p8 y a3 c3 F2 a4 c4 L2) : w.cell? ⟨p8, 0, none⟩ = some (.bool y) ∧ w.cell? ⟨p8, 1, none⟩ = some (.slice a3 F2.length c3) ∧ w.cell? ⟨p8, 2, none⟩ = some (.slice a4 L2.length c4) := cells3 h.box
set_option maxRecDepth 100000 in
set_option maxHeartbeats 4000000 in
theorem union_any (s : BS) (l : List Rx) (h64 : ∀ x ∈ l, TS 64 x) : TS 85 (.mk 5 s l) := by
  intro base bb most S M A G g W cs h hrc hg hm
  obtain ⟨a, n, c, rfl, hK⟩ := RC_mk.1 hrc
  have HB := hid h
  show Calls Tryd.prog 85 #[.pointer (some ⟨bb, 0, none⟩), .agg #[.int .i64 5, .int .u64 (ws s 0 : Int), .int .u64 (ws s 1 : Int), .int .u64 (ws s 2 : Int), .int .u64 (ws s 3 : Int), .slice a n c]] W _
  obtain ⟨X, hX⟩ : ∃ X, X = (W.alloc (.cells #[.int .i64 5, .int .u64 (ws s 0 : Int), .int .u64 (ws s 1 : Int), .int .u64 (ws s 2 : Int), .int .u64 (ws s 3 : Int), .slice a n c] 50)).alloc (.cells #[.bool false, .slice none 0 0, .slice none 0 0] 108) := ⟨_, rfl⟩
  have BXX := hid (show Below W.heap.size W X ∧ X.heap.size = W.heap.size + 2 from by rw [hX]; exact ⟨(bel1 _ _).alloc (by simp) _, by simp⟩)
  have hz : X.heap[W.heap.size + 1]? = some (.cells #[.bool false, .slice none 0 0, .slice none 0 0] 108 (0, 0)) := by rw [hX]; exact (by simpa using alloc_new (W.alloc (.cells #[.int .i64 5, .int .u64 (ws s 0 : Int), .int .u64 (ws s 1 : Int), .int .u64 (ws s 2 : Int), .int .u64 (ws s 3 : Int), .slice a n c] 50)) _)
  have hx6 : X.heap[W.heap.size]? = some (.cells #[.int .i64 5, .int .u64 (ws s 0 : Int), .int .u64 (ws s 1 : Int), .int .u64 (ws s 2 : Int), .int .u64 (ws s 3 : Int), .slice a n c] 50 (0, 0)) := by rw [hX]; exact blk_alloc (alloc_new _ _)
  have hll := hid hK.len
  have hnn := hK.lt
  have HKX := hid (And.intro (hK.below BXX.out.1).bound (And.intro hg h64))
  have Hlt := hid (fun b hb => (h.lt b hb).2 : ∀ b, G b → b < W.heap.size)
  have hnp : np (.mk 5 s l) = npL l := by rw [np_mk, if_neg (by decide)]
  rw [hnp] at hm
  have HM := hid (And.intro hm h.most)
  obtain ⟨Y, hY⟩ : ∃ Y, Y = X.alloc (.cells #[.bool false, .slice none 0 0, .slice none 0 0] 108) := ⟨_, rfl⟩
  have BY := hid (show Below X.heap.size X Y ∧ Y.heap.size = X.heap.size + 1 from by rw [hY]; exact ⟨bel1 _ _, by simp⟩)
  have P0 := hid (show PT G Y Y base bb most S M A G X.heap.size false none 0 [] none 0 [] from
    ⟨HB.out.below (BXX.out.1.trans (BY.out.1.mono BXX.out.1.size)), fun b hb => .inl hb, fun b hb => by have := Hlt.out b hb; have := BXX.out.2; omega, BY.out.2.symm, by rw [hY]; exact alloc_new _ _, PR.nil _ _ _, PR.nil _ _ _, fun k hk => by simp [Value.ownBlock] at hk, Kept.refl _ _⟩)
  have HX := hid (And.intro hx6 hz)
  have hY6 : Y.heap[W.heap.size]? = some (.cells #[.int .i64 5, .int .u64 (ws s 0 : Int), .int .u64 (ws s 1 : Int), .int .u64 (ws s 2 : Int), .int .u64 (ws s 3 : Int), .slice a n c] 50 (0, 0)) := (BY.out.1.block _ (heap_lt hx6)).trans hx6
  obtain ⟨d0, d1, d2, d3, d4, d5⟩ := cells6 hY6
  clear h hrc hg hK hm h64 hz hx6 hY6
  go_enter Tryd.func85, Tryd.ntmps85
  go_upto_region 1 with fail
  rw [← hX]
  clear hX
  go_upto_region 2 with fail
  rw [← hY]
  clear hY
  go_wp2_with fail
  go_loopg [12] n (fun kk s12 wr => ∃ (i : Nat) (G1 : Nat → Prop) (a1 : Option Addr) (c1 : Nat) (a2 : Option Addr) (c2 : Nat), s12 = .int .i64 (i : Int) ∧ i + kk = n ∧ PT G Y wr base bb most (S ++ osL (l.take i)) (orM M (prU (l.take i) S.length)) (A ++ List.replicate (npL (l.take i)) (-1)) G1 X.heap.size (nulU (l.take i)) a1 c1 (fstU (l.take i) S.length) a2 c2 (lasU (l.take i) S.length))
  case atStart =>
    refine ⟨0, G, none, 0, none, 0, rfl, by omega, ?_⟩
    have e : orM M (prU [] S.length) = M := by funext i j; simp [orM, prU_nil]
    rw [List.take_zero, fstU_nil, lasU_nil, e]
    simpa [osL, npL, nulU] using P0.out
  case round =>
    obtain ⟨i, G1, a1, c1, a2, c2, rfl, hik, hpt⟩ := hrel
    by_cases hlt : i < n
    · have hlt' : (i : Int) < (n : Int) := by omega
      have hi0 : (0 : Int) ≤ (i : Int) := by omega
      obtain ⟨b, off, k', s', l', a', n', c', rfl, hgb, hb, hxe, hK', q0, q1, q2, q3, q4, q5⟩ := HKX.out.1.get hlt
      have hgn : ∀ b, (g b ∧ b < X.heap.size) → ¬ (G b ∨ b = X.heap.size ∨ Y.heap.size ≤ b) := fun b hb => by
        have := BY.out.2
        have := hb.2
        rintro (e | e | e)
        · exact HKX.out.2.1 b hb.1 e
        · omega
        · omega
      have hkx : ∀ b, (g b ∧ b < X.heap.size) → b < X.heap.size → wr.heap[b]? = X.heap[b]? := fun b hb hlt => (hpt.kp.block b (hgn b hb)).trans (BY.out.1.block b hlt)
      have hsX : X.heap.size ≤ wr.heap.size := by have := hpt.kp.size; have := BY.out.2; omega
      obtain ⟨S1, hS1⟩ : ∃ S1, S1 = S ++ osL (l.take i) := ⟨_, rfl⟩
      obtain ⟨M1, hM1⟩ : ∃ M1, M1 = orM M (prU (l.take i) S.length) := ⟨_, rfl⟩
      obtain ⟨A1, hA1⟩ : ∃ A1, A1 = A ++ List.replicate (npL (l.take i)) (-1) := ⟨_, rfl⟩
      obtain ⟨nl, hnl⟩ : ∃ nl, nl = nulU (l.take i) := ⟨_, rfl⟩
      obtain ⟨F, hF⟩ : ∃ F, F = fstU (l.take i) S.length := ⟨_, rfl⟩
      obtain ⟨L, hL⟩ : ∃ L, L = lasU (l.take i) S.length := ⟨_, rfl⟩
      obtain ⟨x, hx⟩ : ∃ x, x = Rx.mk k' s' l' := ⟨_, rfl⟩
      rw [← hx] at hxe
      rw [← hS1, ← hM1, ← hA1, ← hnl, ← hF, ← hL] at hpt
      have hSl : S1.length = S.length + npL (l.take i) := by rw [hS1, List.length_append, osL_length]
      have htk := npL_take hxe
      have hF1 : F.length ≤ 1000 := by rw [hF]; have := fstU_len (l.take i) S.length; have := HM.out; omega
      have hL1 : L.length ≤ 1000 := by rw [hL]; have := lasU_len (l.take i) S.length; have := HM.out; omega
      have hx1 : S1.length + np x ≤ most := by have := HM.out; omega
      have hxl : (fst x S1.length).length ≤ 1000 ∧ (las x S1.length).length ≤ 1000 := ⟨by have := (fst_ok x S1.length).1; have := HM.out; omega, by have := (las_ok x S1.length).1; have := HM.out; omega⟩
      have HN := hid (And.intro hS1 (And.intro hM1 (And.intro hA1 (And.intro hnl (And.intro hF (And.intro hL (And.intro hxe (And.intro hSl htk))))))))
      obtain ⟨U, hU⟩ : ∃ U, U = wr.alloc (.cells #[.int .i64 k', .int .u64 (ws s' 0 : Int), .int .u64 (ws s' 1 : Int), .int .u64 (ws s' 2 : Int), .int .u64 (ws s' 3 : Int), .slice a' n' c'] 50) := ⟨_, rfl⟩
      have BU := hid (show Below wr.heap.size wr U ∧ U.heap.size = wr.heap.size + 1 from by rw [hU]; exact ⟨bel1 _ _, by simp⟩)
      have hU6 : U.heap[wr.heap.size]? = some (.cells #[.int .i64 k', .int .u64 (ws s' 0 : Int), .int .u64 (ws s' 1 : Int), .int .u64 (ws s' 2 : Int), .int .u64 (ws s' 3 : Int), .slice a' n' c'] 50 (0, 0)) := by rw [hU]; exact alloc_new _ _
      have hcell : ∀ (j : Nat) v, X.cell? ⟨b, j, none⟩ = some v → wr.cell? ⟨b, j, none⟩ = some v := fun j v hv => by rw [← hv]; exact World.cell?_of_block (hkx b hgb hb)
      have q0 := hcell _ _ q0; have q1 := hcell _ _ q1; have q2 := hcell _ _ q2; have q3 := hcell _ _ q3; have q4 := hcell _ _ q4; have q5 := hcell _ _ q5
      have CF := hid (show Calls Tryd.prog 64 #[.pointer (some ⟨bb, 0, none⟩), .agg #[.int .i64 k', .int .u64 (ws s' 0 : Int), .int .u64 (ws s' 1 : Int), .int .u64 (ws s' 2 : Int), .int .u64 (ws s' 3 : Int), .slice a' n' c']] U (TR x base bb most S1 M1 A1 G1 U) from by
        have h1 := HKX.out.2.2 _ (List.mem_of_getElem? hxe) base bb most S1 M1 A1 G1 (fun b => g b ∧ b < X.heap.size) U (rcs k' s' (.slice a' n' c')) (hpt.bx.below BU.out.1) (by rw [hx]; exact RC_mk.2 ⟨a', n', c', rfl, (hK'.keep hsX hkx (fun _ h => h)).below BU.out.1⟩) (fun b hb hg1 => by
          rcases hpt.sub b hg1 with e | e
          · exact hgn b hb (.inl e)
          · exact hgn b hb (.inr (.inr e))) hx1
        exact h1)
      have HPT := hid hpt
      obtain ⟨e0, e1, e2, e3, e4, e5⟩ := cells6 hU6
      clear hpt hxe hK' hkx hgn hcell hS1 hM1 hA1 hnl hF hL hU6 hb hgb
      go_upto_region 5 with fail
      rw [← hU]
      clear hU q0 q1 q2 q3 q4 q5
      go_wp2_with fail
      refine CF.out.mono ?_
      intro e w3 h3
      obtain ⟨a3, c3, a4, c4, rfl, G2, hbx2, hG2, hr3, hr4, hkp3⟩ := h3.open
      obtain ⟨F2, hF2⟩ : ∃ F2, F2 = fst x S1.length := ⟨_, rfl⟩
      obtain ⟨L2, hL2⟩ : ∃ L2, L2 = las x S1.length := ⟨_, rfl⟩
      obtain ⟨y, hy⟩ : ∃ y, y = nul x := ⟨_, rfl⟩
      rw [← hF2] at hr3 hxl ⊢
      rw [← hL2] at hr4 hxl ⊢
      rw [← hy]
      have hsub2 : ∀ b, G2 b → G1 b ∨ wr.heap.size ≤ b := fun b hb => (hG2 b hb).imp_right fun e => by have := BU.out.2; omega
      have hp3 := HPT.out.call ((Kept.below BU.out.1 fun b hb => .inr hb).trans (hkp3.mono fun b hb => hb.imp_right fun e => by have := BU.out.2; omega)) hbx2 hsub2
      obtain ⟨V, hV⟩ : ∃ V, V = w3.alloc (.cells #[.bool y, .slice a3 F2.length c3, .slice a4 L2.length c4] 108) := ⟨_, rfl⟩
      have BV := hid (show Below w3.heap.size w3 V ∧ V.heap.size = w3.heap.size + 1 from by rw [hV]; exact ⟨bel1 _ _, by simp⟩)
      have PV := hid (hp3.below BV.out.1)
      have KV := hid (show KB V U.heap.size w3.heap.size y a3 c3 F2 a4 c4 L2 from ⟨by rw [hV]; exact alloc_new _ _, (hr3.below BV.out.1).1, (hr4.below BV.out.1).1, hkp3.size⟩)
      have HO := hid (show (∀ k, (Value.slice a1 F.length c1).ownBlock = some k → k < U.heap.size) ∧ (∀ k, (Value.slice a2 L.length c2).ownBlock = some k → k < U.heap.size) ∧ X.heap.size < U.heap.size from ⟨fun k hk => by have := (HPT.out.pf.1.lt k hk).2; have := BU.out.2; omega, fun k hk => by have := (HPT.out.pl.1.lt k hk).2; have := BU.out.2; omega, by have := heap_lt HPT.out.box; have := BU.out.2; omega⟩)
      have HN2 := hid (And.intro hF2 (And.intro hL2 hy))
      have hx2 := hxl
      clear hbx2 hG2 hr3 hr4 hkp3 h3 hsub2 hp3 CF hF2 hL2 hy hxl e0 e1 e2 e3 e4 e5
      obtain ⟨t0, t1, t2⟩ := cells3 PV.out.box
      obtain ⟨u0, u1, u2⟩ := KV.out.cells
      have f0 := Go.Frame.free PV.out.box 0
      go_upto_region 6 with fail
      rw [← hV]
      clear hV
      cases nl
      · have P1 := hid (PV.out.nul y)
        have K1 := hid (KV.out.kept ((Kept.refl (fun b => b = X.heap.size) V).setCell (p := ⟨X.heap.size, 0, none⟩) rfl (.bool y)) fun b hb => .inl (by have := HO.out.2.2; omega))
        obtain ⟨v0, v1, v2⟩ := cells3 P1.out.box
        obtain ⟨s0, s1, s2⟩ := K1.out.cells
        go_upto_region 7 with fail
        obtain ⟨V1, hV1⟩ : ∃ V1, V1 = V.setCell ⟨X.heap.size, 0, none⟩ (.bool y) := ⟨_, rfl⟩
        rw [← hV1] at P1 K1 v0 v1 v2 s0 s1 s2 ⊢
        clear hV1 t0 t1 t2 u0 u1 u2 f0
        go_wp2_with (at_builtin; refine wpList_row rfl (.tmp 27) (.tmp 29) rfl rfl Y.heap.size U.heap.size a1 a3 c1 c3 F F2 (by rfl) P1.out.pf.1 (by rfl) K1.out.r1 P1.out.kp.size hF1 hx2.1 ?_)
        intro FF a5 c5 w5 hFF ho5 hg5 hw5
        have P5 := hid (P1.out.first ho5 hg5 hw5)
        have b5 : w5.heap[X.heap.size]? = some (.cells #[.bool y, .slice a1 F.length c1, .slice a2 L.length c2] 108 (0, 0)) := (hg5.block _ (heap_lt P1.out.box) (fun e => by have := (P1.out.pf.1.lt _ e.symm).1; have := BY.out.2; omega)).trans P1.out.box
        have f5 := Go.Frame.free b5 1
        obtain ⟨z0, z1, z2⟩ := cells3 b5
        have K5 := hid (K1.out.kept ((Kept.grown (F := fun b => b = X.heap.size ∨ (Value.slice a1 F.length c1).ownBlock = some b ∨ V1.heap.size ≤ b) (Kept.refl _ V1) hg5 (fun b hb => .inr (.inr hb)) (fun k hk => .inr (.inl hk))).setCell (p := ⟨X.heap.size, 1, none⟩) (.inl rfl) (.slice a5 FF.length c5)) fun b hb => by
          rcases hb with e | e | e
          · exact .inl (by have := HO.out.2.2; omega)
          · exact .inl (HO.out.1 b e)
          · exact .inr e)
        clear b5 ho5 hg5 hw5 v0 v1 v2 s0 s1 s2
        go_upto_region 8 with fail
        obtain ⟨V5, hV5⟩ : ∃ V5, V5 = w5.setCell ⟨X.heap.size, 1, none⟩ (.slice a5 FF.length c5) := ⟨_, rfl⟩
        rw [← hV5] at P5 K5 ⊢
        clear hV5 z0 z1 z2 f5
        obtain ⟨v0, v1, v2⟩ := cells3 P5.out.box
        obtain ⟨s0, s1, s2⟩ := K5.out.cells
        go_wp2_with (at_builtin; refine wpList_row rfl (.tmp 33) (.tmp 35) rfl rfl Y.heap.size U.heap.size a2 a4 c2 c4 L L2 (by rfl) P5.out.pl.1 (by rfl) K5.out.r2 P5.out.kp.size hL1 hx2.2 ?_)
        intro LL a6 c6 w6 hLL ho6 hg6 hw6
        have P6 := hid (P5.out.last ho6 hg6 hw6)
        have b6 : w6.heap[X.heap.size]? = some (.cells #[.bool y, .slice a5 FF.length c5, .slice a2 L.length c2] 108 (0, 0)) := (hg6.block _ (heap_lt P5.out.box) (fun e => by have := (P5.out.pl.1.lt _ e.symm).1; have := BY.out.2; omega)).trans P5.out.box
        have f6 := Go.Frame.free b6 2
        obtain ⟨z0, z1, z2⟩ := cells3 b6
        have HFL := hid (And.intro hFF.out hLL.out)
        clear hFF hLL b6 ho6 hg6 hw6 v0 v1 v2 s0 s1 s2
        go_wp2
        go_roundg (gk - 1)
        case measure => omega
        case rel =>
          refine ⟨i + 1, G2, a5, c5, a6, c6, by go_num, by omega, ?_⟩
          obtain ⟨hS1, hM1, hA1, hnl, hF, hL, hxe, hSl, htk⟩ := HN.out
          obtain ⟨hF2, hL2, hy⟩ := HN2.out
          have h9 := P6.out
          rw [take_snoc hxe, osL_append, npL_append, fstU_append, lasU_append, nulU_append]
          have g1 : S ++ (osL (l.take i) ++ osL [x]) = S1 ++ os x := by rw [hS1]; simp [osL]
          have g2 : orM M (prU (l.take i ++ [x]) S.length) = orM M1 (pr x S1.length) := by funext p q; rw [hM1, orM, orM, orM, prU_append, prU_cons, prU_nil, hSl, Bool.or_false, Bool.or_assoc]
          have g3 : A ++ List.replicate (npL (l.take i) + npL [x]) (-1 : Int) = A1 ++ List.replicate (np x) (-1) := by rw [hA1, npL, npL, Nat.add_zero, ← List.replicate_append_replicate, List.append_assoc]
          have g4 : (nulU (l.take i) || nulU [x]) = y := by rw [← hnl]; simp [nulU, hy]
          have g5 : fstU (l.take i) S.length ++ fstU [x] (S.length + npL (l.take i)) = FF := by rw [HFL.out.1, hF, hF2, fstU_cons, fstU_nil, List.append_nil, hSl]
          have g6 : lasU (l.take i) S.length ++ lasU [x] (S.length + npL (l.take i)) = LL := by rw [HFL.out.2, hL, hL2, lasU_cons, lasU_nil, List.append_nil, hSl]
          rw [g1, g2, g3, g4, g5, g6]
          exact h9
      · have P1 := hid (PV.out.nul true)
        have K1 := hid (KV.out.kept ((Kept.refl (fun b => b = X.heap.size) V).setCell (p := ⟨X.heap.size, 0, none⟩) rfl (.bool true)) fun b hb => .inl (by have := HO.out.2.2; omega))
        obtain ⟨v0, v1, v2⟩ := cells3 P1.out.box
        obtain ⟨s0, s1, s2⟩ := K1.out.cells
        go_upto_region 7 with fail
        obtain ⟨V1, hV1⟩ : ∃ V1, V1 = V.setCell ⟨X.heap.size, 0, none⟩ (.bool true) := ⟨_, rfl⟩
        rw [← hV1] at P1 K1 v0 v1 v2 s0 s1 s2 ⊢
        clear hV1 t0 t1 t2 u0 u1 u2 f0
        go_wp2_with (at_builtin; refine wpList_row rfl (.tmp 27) (.tmp 29) rfl rfl Y.heap.size U.heap.size a1 a3 c1 c3 F F2 (by rfl) P1.out.pf.1 (by rfl) K1.out.r1 P1.out.kp.size hF1 hx2.1 ?_)
        intro FF a5 c5 w5 hFF ho5 hg5 hw5
        have P5 := hid (P1.out.first ho5 hg5 hw5)
        have b5 : w5.heap[X.heap.size]? = some (.cells #[.bool true, .slice a1 F.length c1, .slice a2 L.length c2] 108 (0, 0)) := (hg5.block _ (heap_lt P1.out.box) (fun e => by have := (P1.out.pf.1.lt _ e.symm).1; have := BY.out.2; omega)).trans P1.out.box
        have f5 := Go.Frame.free b5 1
        obtain ⟨z0, z1, z2⟩ := cells3 b5
        have K5 := hid (K1.out.kept ((Kept.grown (F := fun b => b = X.heap.size ∨ (Value.slice a1 F.length c1).ownBlock = some b ∨ V1.heap.size ≤ b) (Kept.refl _ V1) hg5 (fun b hb => .inr (.inr hb)) (fun k hk => .inr (.inl hk))).setCell (p := ⟨X.heap.size, 1, none⟩) (.inl rfl) (.slice a5 FF.length c5)) fun b hb => by
          rcases hb with e | e | e
          · exact .inl (by have := HO.out.2.2; omega)
          · exact .inl (HO.out.1 b e)
          · exact .inr e)
        clear b5 ho5 hg5 hw5 v0 v1 v2 s0 s1 s2
        go_upto_region 8 with fail
        obtain ⟨V5, hV5⟩ : ∃ V5, V5 = w5.setCell ⟨X.heap.size, 1, none⟩ (.slice a5 FF.length c5) := ⟨_, rfl⟩
        rw [← hV5] at P5 K5 ⊢
        clear hV5 z0 z1 z2 f5
        obtain ⟨v0, v1, v2⟩ := cells3 P5.out.box
        obtain ⟨s0, s1, s2⟩ := K5.out.cells
        go_wp2_with (at_builtin; refine wpList_row rfl (.tmp 33) (.tmp 35) rfl rfl Y.heap.size U.heap.size a2 a4 c2 c4 L L2 (by rfl) P5.out.pl.1 (by rfl) K5.out.r2 P5.out.kp.size hL1 hx2.2 ?_)
        intro LL a6 c6 w6 hLL ho6 hg6 hw6
        have P6 := hid (P5.out.last ho6 hg6 hw6)
        have b6 : w6.heap[X.heap.size]? = some (.cells #[.bool true, .slice a5 FF.length c5, .slice a2 L.length c2] 108 (0, 0)) := (hg6.block _ (heap_lt P5.out.box) (fun e => by have := (P5.out.pl.1.lt _ e.symm).1; have := BY.out.2; omega)).trans P5.out.box
        have f6 := Go.Frame.free b6 2
        obtain ⟨z0, z1, z2⟩ := cells3 b6
        have HFL := hid (And.intro hFF.out hLL.out)
        clear hFF hLL b6 ho6 hg6 hw6 v0 v1 v2 s0 s1 s2
        go_wp2
        go_roundg (gk - 1)
        case measure => omega
        case rel =>
          refine ⟨i + 1, G2, a5, c5, a6, c6, by go_num, by omega, ?_⟩
          obtain ⟨hS1, hM1, hA1, hnl, hF, hL, hxe, hSl, htk⟩ := HN.out
          obtain ⟨hF2, hL2, hy⟩ := HN2.out
          have h9 := P6.out
          rw [take_snoc hxe, osL_append, npL_append, fstU_append, lasU_append, nulU_append]
          have g1 : S ++ (osL (l.take i) ++ osL [x]) = S1 ++ os x := by rw [hS1]; simp [osL]
          have g2 : orM M (prU (l.take i ++ [x]) S.length) = orM M1 (pr x S1.length) := by funext p q; rw [hM1, orM, orM, orM, prU_append, prU_cons, prU_nil, hSl, Bool.or_false, Bool.or_assoc]
          have g3 : A ++ List.replicate (npL (l.take i) + npL [x]) (-1 : Int) = A1 ++ List.replicate (np x) (-1) := by rw [hA1, npL, npL, Nat.add_zero, ← List.replicate_append_replicate, List.append_assoc]
          have g4 : (nulU (l.take i) || nulU [x]) = true := by rw [← hnl]; simp [nulU, hy]
          have g5 : fstU (l.take i) S.length ++ fstU [x] (S.length + npL (l.take i)) = FF := by rw [HFL.out.1, hF, hF2, fstU_cons, fstU_nil, List.append_nil, hSl]
          have g6 : lasU (l.take i) S.length ++ lasU [x] (S.length + npL (l.take i)) = LL := by rw [HFL.out.2, hL, hL2, lasU_cons, lasU_nil, List.append_nil, hSl]
          rw [g1, g2, g3, g4, g5, g6]
          exact h9
    · have hlt' : ¬ (i : Int) < (n : Int) := by omega
      have hfull : l.take i = l := List.take_of_length_le (by have := hll.out; omega)
      rw [hfull] at hpt
      obtain ⟨F, hF⟩ : ∃ F, F = fstU l S.length := ⟨_, rfl⟩
      obtain ⟨L, hL⟩ : ∃ L, L = lasU l S.length := ⟨_, rfl⟩
      obtain ⟨nl, hnl⟩ : ∃ nl, nl = nulU l := ⟨_, rfl⟩
      rw [← hF, ← hL, ← hnl] at hpt
      have HN := hid (And.intro hF (And.intro hL hnl))
      have hXs := BXX.out.2
      have hYs := BY.out.2
      have hzw : wr.heap[W.heap.size + 1]? = some (.cells #[.bool false, .slice none 0 0, .slice none 0 0] 108 (0, 0)) := (hpt.kp.block _ (by rintro (e | e | e); have := Hlt.out _ e; omega; omega; omega)).trans ((BY.out.1.block _ (by omega)).trans HX.out.2)
      have HPT := hid hpt
      have hbox := hpt.box
      obtain ⟨z0, z1, z2⟩ := cells3 hbox
      obtain ⟨r0, r1, r2⟩ := cells3 hzw
      obtain ⟨f0, f1, f2⟩ := frozen3 hzw
      have hR := three_set (x' := .bool nl) (y' := .slice a1 F.length c1) (z' := .slice a2 L.length c2) hzw
      obtain ⟨t0, t1, t2⟩ := cells3 hR
      clear hpt hF hL hnl hfull hzw hbox hR hXs hYs
      go_wp2
      refine bodyPost_ret (v := .agg #[.bool nl, .slice a1 F.length c1, .slice a2 L.length c2]) ?_ rfl ?_
      · simp [results, Tryd.results85, go_sem, t0, t1, t2]
      · obtain ⟨hF, hL, hnl⟩ := HN.out
        have hXs := BXX.out.2
        have hYs := BY.out.2
        have e1 : os (.mk 5 s l) = osL l := by rw [os_mk, if_neg (by decide)]
        have e3 : fst (.mk 5 s l) S.length = F := by rw [fst_mk, if_neg (by decide), if_neg (by decide), hF]
        have e4 : las (.mk 5 s l) S.length = L := by rw [las_mk, if_neg (by decide), if_neg (by decide), hL]
        have e5 : pr (.mk 5 s l) S.length = prU l S.length := by funext p q; rw [pr_mk, if_neg (by decide), if_neg (by decide)]; simp
        have e6 : nul (.mk 5 s l) = nl := by rw [hnl]; simp [nul]
        have k4 : Kept (fun b => b = W.heap.size + 1) wr (set3 wr (W.heap.size + 1) (.bool nl) (.slice a1 F.length c1) (.slice a2 L.length c2)) := set3_kept (Kept.refl (fun b => b = W.heap.size + 1) wr) rfl
        refine ⟨.slice a1 F.length c1, .slice a2 L.length c2, by rw [e6], G1, ?_, fun b hb => (HPT.out.sub b hb).imp_right fun h => by omega, ?_, ?_, ?_⟩
        · rw [e1, e5, hnp]
          exact HPT.out.bx.kept k4 fun b hb e => by
            rcases HPT.out.sub b hb with h1 | h1
            · have := Hlt.out b h1; omega
            · omega
        · rw [e3]; exact (HPT.out.pf.kept k4 fun k hk e => by have := (HPT.out.pf.1.lt k hk).1; omega).mono (by omega)
        · rw [e4]; exact (HPT.out.pl.kept k4 fun k hk e => by have := (HPT.out.pl.1.lt k hk).1; omega).mono (by omega)
        · exact ((Kept.below (BXX.out.1.trans (BY.out.1.mono BXX.out.1.size)) fun b hb => .inr hb).trans (HPT.out.kp.mono fun b hb => by rcases hb with h | h | h; exact .inl h; exact .inr (by omega); exact .inr (by omega))).trans (k4.mono fun b hb => .inr (by omega))
end Go.Proofs.YtogpnlkjcdedlaaDoor
end
