/-
  Contract: add.
-/
import Derived.Test.YtednoideboeehaaDoorZ18
import Derived.Test.YtednoideboeehaaDoorZ19
section
set_option linter.unusedSimpArgs false
set_option linter.unusedVariables false
namespace Go.Proofs.YtednoideboeehaaDoor
open Go.RowKit Bs Rg Go.Frame

theorem Md.put {S : Nat → Prop} {a b : World} (h : Md S a b) {B o : Nat} (hB : S B ∨ a.heap.size ≤ B) (v : Value) : Md S a (b.setCell ⟨B, o, none⟩ v) :=
  ⟨h.os, h.tape, h.output, by simpa using h.size, fun k hk hs => (heap_setCell_other _ _ _ _ (by
    show k ≠ B
    rintro rfl
    rcases hB with e | e
    · exact hs e
    · omega)).trans (h.block k hk hs)⟩
/-- The last of a row, written anew. -/
theorem OX.setLast {base g n cap : Nat} {W w6 : World} {l : List Rx} {x y : Rx} {cs : List Value} {C C' : Array Value} (hln : l.length = n) (h : OX base W (.slice (some ⟨g, 0, none⟩) (n + 1) cap) (l ++ [y])) (hx : RC (fun b => base ≤ b ∧ b ≠ g) W x cs) (hB : W.heap[g]? = some (.cells C 27 (0, 0))) (hB' : w6.heap[g]? = some (.cells C' 27 (0, 0))) (hs : C'.size = C.size)
    (z1 : w6.heap.size = W.heap.size) (z4 : ∀ y, y ≠ g → w6.heap[y]? = W.heap[y]?) (z5 : ∀ j, ¬ (n * 6 ≤ j ∧ j < n * 6 + 6) → w6.cell? ⟨g, j, none⟩ = W.cell? ⟨g, j, none⟩) (z6 : ∀ (j : Nat) (v : Value), cs[j]? = some v → w6.cell? ⟨g, n * 6 + j, none⟩ = some v) : OX base w6 (.slice (some ⟨g, 0, none⟩) (n + 1) cap) (l ++ [x]) := by
  obtain ⟨vs, ho, hall⟩ := h
  have hl1 : (l ++ [y]).length = n + 1 := by simp [hln]
  have hl2 : (l ++ [x]).length = n + 1 := by simp [hln]
  rw [hl1] at ho
  rcases ho.2 with ⟨e, _⟩ | ⟨g2, cap2, cur, e, hb, hg, hn, hc1, hc2, htk⟩
  · cases e
  simp only [Value.slice.injEq, Option.some.injEq, Addr.mk.injEq, and_true, true_and] at e
  obtain ⟨rfl, rfl⟩ := e
  rw [hB] at hg
  simp only [Option.some.injEq, Obj.cells.injEq, and_true] at hg
  subst hg
  have hcs : cs.length = 6 := hx.six
  have keep : ∀ {z : Rx} {ds : List Value}, RC (fun b => base ≤ b ∧ b ≠ g) W z ds → RC (fun b => base ≤ b ∧ (Value.slice (some ⟨g, 0, none⟩) (n + 1) cap).ownBlock ≠ some b) w6 z ds := fun {z ds} hz =>
    RC.keep (by rw [z1]; exact Nat.le_refl _) (fun b hb _ => z4 b hb.2) (fun b hb => ⟨hb.1, fun e => by simp [Value.ownBlock] at e; exact hb.2 e.symm⟩) z hz
  have hcell : ∀ q, q < (n + 1) * 6 → (C'.toList.take ((n + 1) * 6))[q]? = w6.cell? ⟨g, q, none⟩ := fun q hq => by
    have hq' : q < C'.size := by rw [hs, hc2]; have := Nat.mul_le_mul_right 6 hn; omega
    rw [List.getElem?_take, if_pos hq, cellat hB' (Array.getElem?_eq_getElem hq')]
    simp [hq']
  have hcell0 : ∀ q, q < (n + 1) * 6 → vs[q]? = W.cell? ⟨g, q, none⟩ := fun q hq => by
    have hq' : q < C.size := by rw [hc2]; have := Nat.mul_le_mul_right 6 hn; omega
    rw [← htk, List.getElem?_take, if_pos hq, cellat hB (Array.getElem?_eq_getElem hq')]
    simp [hq']
  refine ⟨C'.toList.take ((n + 1) * 6), ?_, fun i z hi => ?_⟩
  · rw [hl2]
    refine ⟨by rw [List.length_take, Array.length_toList, hs, hc2]; have := Nat.mul_le_mul_right 6 hn; omega, .inr ⟨g, cap, C', rfl, hb, hB', hn, hc1, hs.trans hc2, rfl⟩⟩
  · by_cases e : i < n
    · rw [List.getElem?_append_left (by omega)] at hi
      obtain ⟨ds, h1, h2⟩ := hall i z (by rw [List.getElem?_append_left (by omega)]; exact hi)
      have hd6 := h1.six
      refine ⟨ds, keep (h1.more fun b hb => ⟨hb.1, fun e => hb.2 (by rw [e]; rfl)⟩), fun j u hj => ?_⟩
      have hj6 := (List.getElem?_eq_some_iff.1 hj).1
      rw [hcell _ (by omega), z5 _ (by omega), ← hcell0 _ (by omega)]
      exact h2 j u hj
    · rw [List.getElem?_append_right (by omega)] at hi
      have hi0 : i - l.length = 0 := by have := (List.getElem?_eq_some_iff.1 hi).1; simp at this; omega
      rw [hi0] at hi
      simp at hi
      subst hi
      obtain rfl : i = n := by omega
      refine ⟨cs, keep hx, fun j u hj => ?_⟩
      have hj6 := (List.getElem?_eq_some_iff.1 hj).1
      rw [hcell _ (by omega)]
      exact z6 j u hj

set_option maxRecDepth 100000 in
set_option maxHeartbeats 8000000 in
theorem add_any {N D m f base : Nat} {bb : Int} {T : List Nd} {F : List (List Rx)} {W : World} {pv v : Value} {t : List Rx} (hN : N ≤ D ∧ N ≤ m ∧ N ≤ f ∧ N ≤ base) (hd : DS W D m f base bb T F pv) (ht : LM N T W t v) (hp : ∀ x ∈ t, parts x ≤ 1000000) (hl : t.length ≤ 1000000000000) (hF : F.length ≤ 1000000000000) :
    Calls Tryd.prog 71 #[.pointer (some ⟨D, 0, none⟩), v] W fun e w' => ∃ pv' F', e = .returned (.tuple #[]) ∧ (t ∈ F ∧ F' = F ∨ t ∉ F ∧ F' = F ++ [t]) ∧ DS w' D m f base bb T F' pv' ∧ Fr D m f W pv w' pv' := by
  obtain ⟨i0, hi0, hz0, hz1, hz2⟩ := info_parts Tryd.info27
  obtain ⟨pa, rfl⟩ := ht.ptr
  obtain ⟨nt, hnt, _⟩ := id_any ht
  obtain ⟨pA, pC, rfl⟩ : ∃ pA pC, pv = .slice pA F.length pC := by
    obtain ⟨vs, ho⟩ := hd.row.len
    obtain ⟨a, c, e⟩ := own_form ho
    rw [List.length_map] at e
    exact ⟨a, c, e⟩
  obtain ⟨ns, hM, hFN⟩ := hd.fnd
  have HM := hid (FN.mem hd.tab.once hnt hFN)
  have HD := hid (And.intro hd (And.intro ht (And.intro hM (And.intro hFN hnt))))
  have HP := hid (And.intro hp (And.intro hl (And.intro hF hN)))
  have CI := hid (show Calls Tryd.prog 89 #[.pointer pa] W.drew fun e w' => e = .returned (.int .i64 (nt : Int)) ∧ w' = W.drew from by
    obtain ⟨n2, h2, h3⟩ := id_any (ht.below (W' := W.drew) (Below.refl _ _).drew)
    obtain rfl := NumL.uniq hd.tab.once hnt h2
    exact h3)
  have CI2 := hid (show Calls Tryd.prog 89 #[.pointer pa] W.drew.drew fun e w' => e = .returned (.int .i64 (nt : Int)) ∧ w' = W.drew.drew from by
    obtain ⟨n2, h2, h3⟩ := id_any (ht.below (W' := W.drew.drew) (Below.refl _ _).drew.drew)
    obtain rfl := NumL.uniq hd.tab.once hnt h2
    exact h3)
  have hlook : (Instr.lookup 76 (.map (some f)) (.int .i64 (nt : Int)) false).run Tryd.prog W.drew = .ok (.bool (decide (nt ∈ ns))) W.drew := run_lookF (W := W.drew) hM nt
  obtain ⟨c0, c1, c2, c3⟩ := cells4 hd.db
  clear hd ht hp hl hF hM hFN hnt
  go_enter Tryd.func71, Tryd.ntmps71
  go_wp2_with fail
  refine region_inv (fun b a' w' => ∃ (v4 v5 v6 v7 v8 v9 v10 v11 : Value), a' = { tmps := #[.pointer (some ⟨D, 0, none⟩), .pointer pa, undef, undef, v4, v5, v6, v7, v8, v9, v10, v11, undef, undef, undef, undef, undef, undef, undef, undef, undef, undef, undef, undef, undef, undef, undef, undef, undef, undef], defers := [] } ∧ (b 0 = true → v4 = .pointer (some ⟨D, 0, none⟩)) ∧ (b 1 = true → v5 = .pointer (some ⟨D, 0, none⟩)) ∧ (b 2 = true → v6 = .pointer (some ⟨D, 2, none⟩)) ∧ (b 3 = true → v7 = .map (some f)) ∧ (b 4 = true → v8 = .pointer pa) ∧ (b 5 = true → v9 = .int .i64 (nt : Int)) ∧ (b 6 = true → v10 = .bool (decide (nt ∈ ns))) ∧ (b 7 = true → v11 = .bool (!decide (nt ∈ ns))) ∧ w' = W.drew) (by kernel_rfl) (back_of (by kernel_rfl)) ?step ?done ?init
  case step =>
    rintro b a' w' i o ho ⟨v4, v5, v6, v7, v8, v9, v10, v11, rfl, h0, h1, h2, h3, h4, h5, h6, h7, rfl⟩ hbi hd K hK
    have hlt : i < 8 := by have := (Array.getElem?_eq_some_iff.1 ho).1; simpa using this
    have dep : ∀ k, (o.after.any fun e => Region.binds .any e && e.on == k) = true → b k = true := fun k hk => by
      obtain ⟨e, he, h⟩ := Array.any_eq_true'.1 hk
      simp only [Bool.and_eq_true, beq_iff_eq] at h
      rw [← h.2]; exact hd e he h.1
    clear hd
    have hi : i = 0 ∨ i = 1 ∨ i = 2 ∨ i = 3 ∨ i = 4 ∨ i = 5 ∨ i = 6 ∨ i = 7 := by omega
    clear hlt
    rcases hi with rfl | rfl | rfl | rfl | rfl | rfl | rfl | rfl
    · simp only [List.getElem?_toArray, List.getElem?_cons_zero, List.getElem?_cons_succ, Option.some.injEq] at ho
      subst ho
      go_simp
      refine hK.out _ _ ⟨_, _, _, _, _, _, _, _, rfl, fun _ => rfl, fun h => h1 (by simpa using h), fun h => h2 (by simpa using h), fun h => h3 (by simpa using h), fun h => h4 (by simpa using h), fun h => h5 (by simpa using h), fun h => h6 (by simpa using h), fun h => h7 (by simpa using h), rfl⟩
    · simp only [List.getElem?_toArray, List.getElem?_cons_zero, List.getElem?_cons_succ, Option.some.injEq] at ho
      subst ho
      obtain rfl := h0 (dep 0 (by kernel_rfl))
      go_simp
      refine hK.out _ _ ⟨_, _, _, _, _, _, _, _, rfl, fun h => h0 (by simpa using h), fun _ => rfl, fun h => h2 (by simpa using h), fun h => h3 (by simpa using h), fun h => h4 (by simpa using h), fun h => h5 (by simpa using h), fun h => h6 (by simpa using h), fun h => h7 (by simpa using h), rfl⟩
    · simp only [List.getElem?_toArray, List.getElem?_cons_zero, List.getElem?_cons_succ, Option.some.injEq] at ho
      subst ho
      obtain rfl := h1 (dep 1 (by kernel_rfl))
      go_simp
      refine hK.out _ _ ⟨_, _, _, _, _, _, _, _, rfl, fun h => h0 (by simpa using h), fun h => h1 (by simpa using h), fun _ => rfl, fun h => h3 (by simpa using h), fun h => h4 (by simpa using h), fun h => h5 (by simpa using h), fun h => h6 (by simpa using h), fun h => h7 (by simpa using h), rfl⟩
    · simp only [List.getElem?_toArray, List.getElem?_cons_zero, List.getElem?_cons_succ, Option.some.injEq] at ho
      subst ho
      obtain rfl := h2 (dep 2 (by kernel_rfl))
      have c2' : W.drew.cell? ⟨D, 2, none⟩ = some (.map (some f)) := c2
      go_simp
      refine hK.out _ _ ⟨_, _, _, _, _, _, _, _, rfl, fun h => h0 (by simpa using h), fun h => h1 (by simpa using h), fun h => h2 (by simpa using h), fun _ => rfl, fun h => h4 (by simpa using h), fun h => h5 (by simpa using h), fun h => h6 (by simpa using h), fun h => h7 (by simpa using h), rfl⟩
    · simp only [List.getElem?_toArray, List.getElem?_cons_zero, List.getElem?_cons_succ, Option.some.injEq] at ho
      subst ho
      go_simp
      refine hK.out _ _ ⟨_, _, _, _, _, _, _, _, rfl, fun h => h0 (by simpa using h), fun h => h1 (by simpa using h), fun h => h2 (by simpa using h), fun h => h3 (by simpa using h), fun _ => rfl, fun h => h5 (by simpa using h), fun h => h6 (by simpa using h), fun h => h7 (by simpa using h), rfl⟩
    · simp only [List.getElem?_toArray, List.getElem?_cons_zero, List.getElem?_cons_succ, Option.some.injEq] at ho
      subst ho
      obtain rfl := h4 (dep 4 (by kernel_rfl))
      go_simp
      refine CI.out.mono ?_
      rintro e w5 ⟨rfl, rfl⟩
      refine hK.out _ _ ⟨_, _, _, _, _, _, _, _, rfl, fun h => h0 (by simpa using h), fun h => h1 (by simpa using h), fun h => h2 (by simpa using h), fun h => h3 (by simpa using h), fun h => h4 (by simpa using h), fun _ => rfl, fun h => h6 (by simpa using h), fun h => h7 (by simpa using h), rfl⟩
    · simp only [List.getElem?_toArray, List.getElem?_cons_zero, List.getElem?_cons_succ, Option.some.injEq] at ho
      subst ho
      obtain rfl := h3 (dep 3 (by kernel_rfl))
      obtain rfl := h5 (dep 5 (by kernel_rfl))
      go_simp
      refine hK.out _ _ ⟨_, _, _, _, _, _, _, _, rfl, fun h => h0 (by simpa using h), fun h => h1 (by simpa using h), fun h => h2 (by simpa using h), fun h => h3 (by simpa using h), fun h => h4 (by simpa using h), fun h => h5 (by simpa using h), fun _ => rfl, fun h => h7 (by simpa using h), rfl⟩
    · simp only [List.getElem?_toArray, List.getElem?_cons_zero, List.getElem?_cons_succ, Option.some.injEq] at ho
      subst ho
      obtain rfl := h6 (dep 6 (by kernel_rfl))
      go_simp
      refine hK.out _ _ ⟨_, _, _, _, _, _, _, _, rfl, fun h => h0 (by simpa using h), fun h => h1 (by simpa using h), fun h => h2 (by simpa using h), fun h => h3 (by simpa using h), fun h => h4 (by simpa using h), fun h => h5 (by simpa using h), fun h => h6 (by simpa using h), fun _ => rfl, rfl⟩
  case done =>
    rintro b a' w' ⟨v4, v5, v6, v7, v8, v9, v10, v11, rfl, h0, h1, h2, h3, h4, h5, h6, h7, rfl⟩ hall
    obtain rfl := h0 (hall 0)
    obtain rfl := h1 (hall 1)
    obtain rfl := h2 (hall 2)
    obtain rfl := h3 (hall 3)
    obtain rfl := h4 (hall 4)
    obtain rfl := h5 (hall 5)
    obtain rfl := h6 (hall 6)
    obtain rfl := h7 (hall 7)
    clear h0 h1 h2 h3 h4 h5 h6 h7 hall CI hlook
    by_cases hq : nt ∈ ns
    · have hin := (HM.out).1 hq
      simp only [decide_eq_true hq, Bool.not_true]
      go_wp2_with fail
      go_end0
      exact ⟨_, F, rfl, .inl ⟨hin, rfl⟩, HD.out.1.below (Below.refl _ _).drew, Fr.ofBelow (Below.refl _ _).drew⟩
    · have hin : t ∉ F := fun h => hq (HM.out.2 h)
      have HU := hid (run_updF (W := W.drew.drew) (f := f) HD.out.2.2.1 nt hq)
      simp only [decide_eq_false hq, Bool.not_false]
      go_wp2_with fail
      refine region_inv (fun b a' w' => ∃ (v12 v13 v14 v15 v16 v17 : Value), a' = { tmps := #[.pointer (some ⟨D, 0, none⟩), .pointer pa, undef, undef, .pointer (some ⟨D, 0, none⟩), .pointer (some ⟨D, 0, none⟩), .pointer (some ⟨D, 2, none⟩), .map (some f), .pointer pa, .int .i64 (nt : Int), .bool false, .bool true, v12, v13, v14, v15, v16, v17, undef, undef, undef, undef, undef, undef, undef, undef, undef, undef, undef, undef], defers := [] } ∧ (b 0 = true → v12 = .pointer (some ⟨D, 0, none⟩)) ∧ (b 1 = true → v13 = .pointer (some ⟨D, 0, none⟩)) ∧ (b 2 = true → v14 = .pointer (some ⟨D, 2, none⟩)) ∧ (b 3 = true → v15 = .map (some f)) ∧ (b 4 = true → v16 = .pointer pa) ∧ (b 5 = true → v17 = .int .i64 (nt : Int)) ∧ (b 6 = false → w' = W.drew.drew) ∧ (b 6 = true → (MapF w' f (ns ++ [nt]) ∧ Md (· = f) W w' ∧ w'.heap.size = W.heap.size) ∧ b 3 = true ∧ b 5 = true)) (by kernel_rfl) (back_of (by kernel_rfl)) ?step1 ?done1 ?init1
      case step1 =>
        rintro b a' w' i o ho ⟨v12, v13, v14, v15, v16, v17, rfl, h0, h1, h2, h3, h4, h5, g0, g1⟩ hbi hd K hK
        have hlt : i < 7 := by have := (Array.getElem?_eq_some_iff.1 ho).1; simpa using this
        have dep : ∀ k, (o.after.any fun e => Region.binds .any e && e.on == k) = true → b k = true := fun k hk => by
          obtain ⟨e, he, h⟩ := Array.any_eq_true'.1 hk
          simp only [Bool.and_eq_true, beq_iff_eq] at h
          rw [← h.2]; exact hd e he h.1
        clear hd
        have hi : i = 0 ∨ i = 1 ∨ i = 2 ∨ i = 3 ∨ i = 4 ∨ i = 5 ∨ i = 6 := by omega
        clear hlt
        rcases hi with rfl | rfl | rfl | rfl | rfl | rfl | rfl
        · simp only [List.getElem?_toArray, List.getElem?_cons_zero, List.getElem?_cons_succ, Option.some.injEq] at ho
          subst ho
          go_simp
          refine hK.out _ _ ⟨_, _, _, _, _, _, rfl, fun _ => rfl, fun h => h1 (by simpa using h), fun h => h2 (by simpa using h), fun h => h3 (by simpa using h), fun h => h4 (by simpa using h), fun h => h5 (by simpa using h), fun h => g0 (by simpa using h), fun h => ⟨(g1 (by simpa using h)).1, by simp [(g1 (by simpa using h)).2.1], by simp [(g1 (by simpa using h)).2.2]⟩⟩
        · simp only [List.getElem?_toArray, List.getElem?_cons_zero, List.getElem?_cons_succ, Option.some.injEq] at ho
          subst ho
          obtain rfl := h0 (dep 0 (by kernel_rfl))
          go_simp
          refine hK.out _ _ ⟨_, _, _, _, _, _, rfl, fun h => h0 (by simpa using h), fun _ => rfl, fun h => h2 (by simpa using h), fun h => h3 (by simpa using h), fun h => h4 (by simpa using h), fun h => h5 (by simpa using h), fun h => g0 (by simpa using h), fun h => ⟨(g1 (by simpa using h)).1, by simp [(g1 (by simpa using h)).2.1], by simp [(g1 (by simpa using h)).2.2]⟩⟩
        · simp only [List.getElem?_toArray, List.getElem?_cons_zero, List.getElem?_cons_succ, Option.some.injEq] at ho
          subst ho
          obtain rfl := h1 (dep 1 (by kernel_rfl))
          go_simp
          refine hK.out _ _ ⟨_, _, _, _, _, _, rfl, fun h => h0 (by simpa using h), fun h => h1 (by simpa using h), fun _ => rfl, fun h => h3 (by simpa using h), fun h => h4 (by simpa using h), fun h => h5 (by simpa using h), fun h => g0 (by simpa using h), fun h => ⟨(g1 (by simpa using h)).1, by simp [(g1 (by simpa using h)).2.1], by simp [(g1 (by simpa using h)).2.2]⟩⟩
        · simp only [List.getElem?_toArray, List.getElem?_cons_zero, List.getElem?_cons_succ, Option.some.injEq] at ho
          subst ho
          obtain rfl := h2 (dep 2 (by kernel_rfl))
          have hb6 : b 6 = false := by
            cases hb' : b 6
            · rfl
            · have := (g1 hb').2.1; rw [hbi] at this; cases this
          obtain rfl := g0 hb6
          have c2' : W.drew.drew.cell? ⟨D, 2, none⟩ = some (.map (some f)) := c2
          go_simp
          refine hK.out _ _ ⟨_, _, _, _, _, _, rfl, fun h => h0 (by simpa using h), fun h => h1 (by simpa using h), fun h => h2 (by simpa using h), fun _ => rfl, fun h => h4 (by simpa using h), fun h => h5 (by simpa using h), fun _ => rfl, fun h => absurd h (by simp [hb6])⟩
        · simp only [List.getElem?_toArray, List.getElem?_cons_zero, List.getElem?_cons_succ, Option.some.injEq] at ho
          subst ho
          go_simp
          refine hK.out _ _ ⟨_, _, _, _, _, _, rfl, fun h => h0 (by simpa using h), fun h => h1 (by simpa using h), fun h => h2 (by simpa using h), fun h => h3 (by simpa using h), fun _ => rfl, fun h => h5 (by simpa using h), fun h => g0 (by simpa using h), fun h => ⟨(g1 (by simpa using h)).1, by simp [(g1 (by simpa using h)).2.1], by simp [(g1 (by simpa using h)).2.2]⟩⟩
        · simp only [List.getElem?_toArray, List.getElem?_cons_zero, List.getElem?_cons_succ, Option.some.injEq] at ho
          subst ho
          obtain rfl := h4 (dep 4 (by kernel_rfl))
          have hb6 : b 6 = false := by
            cases hb' : b 6
            · rfl
            · have := (g1 hb').2.2; rw [hbi] at this; cases this
          obtain rfl := g0 hb6
          go_simp
          refine CI2.out.mono ?_
          rintro e w5 ⟨rfl, rfl⟩
          refine hK.out _ _ ⟨_, _, _, _, _, _, rfl, fun h => h0 (by simpa using h), fun h => h1 (by simpa using h), fun h => h2 (by simpa using h), fun h => h3 (by simpa using h), fun h => h4 (by simpa using h), fun _ => rfl, fun _ => rfl, fun h => absurd h (by simp [hb6])⟩
        · simp only [List.getElem?_toArray, List.getElem?_cons_zero, List.getElem?_cons_succ, Option.some.injEq] at ho
          subst ho
          obtain rfl := h3 (dep 3 (by kernel_rfl))
          obtain rfl := h5 (dep 5 (by kernel_rfl))
          have hb3 := dep 3 (by kernel_rfl)
          have hb5 := dep 5 (by kernel_rfl)
          obtain rfl := g0 hbi
          obtain ⟨w6, hupd, u1, u2, u3⟩ := HU.out
          go_simp
          refine hK.out _ _ ⟨_, _, _, _, _, _, rfl, fun h => h0 (by simpa using h), fun h => h1 (by simpa using h), fun h => h2 (by simpa using h), fun h => h3 (by simpa using h), fun h => h4 (by simpa using h), fun h => h5 (by simpa using h), fun h => absurd h (by simp), fun _ => ⟨⟨u1, ⟨u2.os, u2.tape, u2.output, u2.size, u2.block⟩, u3⟩, by simp [hb3], by simp [hb5]⟩⟩
      case done1 =>
        rintro b a' w' ⟨v12, v13, v14, v15, v16, v17, rfl, h0, h1, h2, h3, h4, h5, g0, g1⟩ hall
        obtain ⟨⟨u1, u2, u3⟩, _, _⟩ := g1 (hall 6)
        obtain rfl := h0 (hall 0)
        obtain rfl := h1 (hall 1)
        obtain rfl := h2 (hall 2)
        obtain rfl := h3 (hall 3)
        obtain rfl := h4 (hall 4)
        obtain rfl := h5 (hall 5)
        have H1 := hid (And.intro u1 (And.intro u2 u3))
        clear g0 g1 u1 u2 u3 h0 h1 h2 h3 h4 h5 hall
        go_wp2_with fail
        obtain ⟨V, hV⟩ : ∃ V, V = w' := ⟨_, rfl⟩
        rw [← hV]
        have HV := hid (show DB V D m f bb (.slice pA F.length pC) ∧ LM N T V t (.pointer pa) ∧ OX base V (.slice pA F.length pC) (F.map ex) ∧ Tab V m T ∧ D < base ∧ base ≤ V.heap.size from by
          subst hV
          obtain ⟨e1, e2, e3⟩ := H1.out
          have hlt := HD.out.1.lt
          have hNN := HP.out.2.2.2
          exact ⟨(e2.block D HD.out.1.ltD HD.out.1.neDf).trans HD.out.1.db, HD.out.2.1.keep e2.size (fun k c hk => (e2.block k (heap_lt hk) (fun e => by subst e; obtain ⟨es, ck, g, _⟩ := HD.out.2.2.1; rw [g] at hk; cases hk)).trans hk) (fun k hk hl => e2.block k hl (by omega)), HD.out.1.row.keep e2.size (fun b hb hl => e2.block b hl (by omega)), HD.out.1.tab.keep (e2.block m (by omega) hlt.2.2.2.1), hlt.1, by omega⟩)
        have H1 := hid (show MapF V f (ns ++ [nt]) ∧ Md (· = f) W V ∧ V.heap.size = W.heap.size from by subst hV; exact H1.out)
        clear hV
        refine region_invB (fun b a' w' => ∃ (v18 v19 v20 v21 v22 v23 v24 v25 v26 v27 v28 v29 : Value) (k9 : Int) (s9 : BS) (a9 : Option Addr) (n9 c9 G g cap : Nat), a' = { tmps := #[.pointer (some ⟨D, 0, none⟩), .pointer pa, undef, undef, .pointer (some ⟨D, 0, none⟩), .pointer (some ⟨D, 0, none⟩), .pointer (some ⟨D, 2, none⟩), .map (some f), .pointer pa, .int .i64 (nt : Int), .bool false, .bool true, .pointer (some ⟨D, 0, none⟩), .pointer (some ⟨D, 0, none⟩), .pointer (some ⟨D, 2, none⟩), .map (some f), .pointer pa, .int .i64 (nt : Int), v18, v19, v20, v21, v22, v23, v24, v25, v26, v27, v28, v29], defers := [] } ∧ (b 0 = true → v18 = .pointer (some ⟨D, 0, none⟩)) ∧ (b 1 = true → v19 = .pointer (some ⟨D, 0, none⟩)) ∧ (b 2 = true → v20 = .pointer (some ⟨D, 3, none⟩)) ∧ (b 3 = true → v21 = .slice pA F.length pC) ∧ (b 4 = true → v22 = .pointer pa) ∧ (b 5 = true → v23 = .agg #[.int .i64 k9, .int .u64 (ws s9 0 : Int), .int .u64 (ws s9 1 : Int), .int .u64 (ws s9 2 : Int), .int .u64 (ws s9 3 : Int), .slice a9 n9 c9] ∧ (b 8 = false → RC (ge V.heap.size) w' (ex t) (rcs k9 s9 (.slice a9 n9 c9)))) ∧ (b 6 = true → v24 = .int .i64 (F.length : Int)) ∧ (b 7 = true → v25 = .slice (some ⟨G, 0, none⟩) 1 1 ∧ (b 8 = false → w'.heap[G]? = some (.cells #[.int .i64 0, .int .u64 0, .int .u64 0, .int .u64 0, .int .u64 0, .slice none 0 0] 27 (0, 0)))) ∧ (b 8 = true → v26 = .slice (some ⟨g, 0, none⟩) (F.length + 1) cap) ∧ (b 9 = true → v27 = .pointer (some ⟨g, F.length * 6, none⟩)) ∧ (b 11 = true → v28 = .pointer (some ⟨D, 0, none⟩)) ∧ (b 12 = true → v29 = .pointer (some ⟨D, 3, none⟩)) ∧ (b 8 = false → Below V.heap.size V w') ∧ (b 8 = true → (∀ k, k < 8 → b k = true) ∧ ((Value.slice pA F.length pC).ownBlock = some g ∨ V.heap.size ≤ g) ∧ base ≤ g ∧ (∃ C : Array Value, w'.heap[g]? = some (.cells C 27 (0, 0)) ∧ F.length * 6 + 6 ≤ C.size) ∧ Md (fun k => k = D ∨ (Value.slice pA F.length pC).ownBlock = some k) V w' ∧ (b 10 = false → OX base w' (.slice (some ⟨g, 0, none⟩) (F.length + 1) cap) (F.map ex ++ [.mk 0 none8 []]) ∧ RC (fun b => base ≤ b ∧ b ≠ g) w' (ex t) (rcs k9 s9 (.slice a9 n9 c9))) ∧ (b 10 = true → OX base w' (.slice (some ⟨g, 0, none⟩) (F.length + 1) cap) (F.map ex ++ [ex t]))) ∧ (b 9 = true → b 8 = true) ∧ (b 10 = true → b 8 = true ∧ b 9 = true) ∧ (b 13 = false → DB w' D m f bb (.slice pA F.length pC)) ∧ (b 13 = true → DB w' D m f bb (.slice (some ⟨g, 0, none⟩) (F.length + 1) cap) ∧ b 8 = true ∧ b 12 = true)) (by kernel_rfl) (bindB_of (by kernel_rfl)) ?step2 ?done2 ?init2
        case step2 =>
          rintro b a' w' i o ho ⟨v18, v19, v20, v21, v22, v23, v24, v25, v26, v27, v28, v29, k9, s9, a9, n9, c9, G, g, cap, rfl, h0, h1, h2, h3, h4, h5, h6, h7, h8, h9, h11, h12, g0, g1, g5, g2, g3, g4⟩ hbi hd K hK
          have hlt : i < 14 := by have := (Array.getElem?_eq_some_iff.1 ho).1; simpa using this
          have dep : ∀ k, (o.after.any fun e => Region.binds .any e && e.on == k) = true → b k = true := fun k hk => by
            obtain ⟨e, he, h⟩ := Array.any_eq_true'.1 hk
            simp only [Bool.and_eq_true, beq_iff_eq] at h
            rw [← h.2]; exact hd e he h.1
          clear hd
          have hi : i = 0 ∨ i = 1 ∨ i = 2 ∨ i = 3 ∨ i = 4 ∨ i = 5 ∨ i = 6 ∨ i = 7 ∨ i = 8 ∨ i = 9 ∨ i = 10 ∨ i = 11 ∨ i = 12 ∨ i = 13 := by omega
          clear hlt
          rcases hi with rfl | rfl | rfl | rfl | rfl | rfl | rfl | rfl | rfl | rfl | rfl | rfl | rfl | rfl
          · simp only [List.getElem?_toArray, List.getElem?_cons_zero, List.getElem?_cons_succ, Option.some.injEq] at ho
            subst ho
            have hb8 : b 8 = false := by
              cases hb' : b 8
              · rfl
              · have := (g1 hb').1 0 (by decide); rw [hbi] at this; cases this
            have hb13 : b 13 = false := by
              cases hb' : b 13
              · rfl
              · have := (g4 hb').2.1; rw [hb8] at this; cases this
            have hbel := g0 hb8
            go_simp
            refine hK.out _ _ ⟨_, _, _, _, _, _, _, _, _, _, _, _, k9, s9, a9, n9, c9, G, g, cap, rfl, fun _ => rfl, fun h => h1 (by simpa using h), fun h => h2 (by simpa using h), fun h => h3 (by simpa using h), fun h => h4 (by simpa using h), fun h => ⟨(h5 (by simpa using h)).1, fun h' => (h5 (by simpa using h)).2 (by simpa using h')⟩, fun h => h6 (by simpa using h), fun h => ⟨(h7 (by simpa using h)).1, fun h' => (h7 (by simpa using h)).2 (by simpa using h')⟩, fun h => h8 (by simpa using h), fun h => h9 (by simpa using h), fun h => h11 (by simpa using h), fun h => h12 (by simpa using h), fun h => g0 (by simpa using h), fun h => absurd h (by simp [hb8]), fun h => absurd (g5 (by simpa using h)) (by simp [hb8]), fun h => absurd (g2 (by simpa using h)).1 (by simp [hb8]), fun h => g3 (by simpa using h), fun h => absurd (g4 (by simpa using h)).2.1 (by simp [hb8])⟩
          · simp only [List.getElem?_toArray, List.getElem?_cons_zero, List.getElem?_cons_succ, Option.some.injEq] at ho
            subst ho
            obtain rfl := h0 (dep 0 (by kernel_rfl))
            have hb8 : b 8 = false := by
              cases hb' : b 8
              · rfl
              · have := (g1 hb').1 1 (by decide); rw [hbi] at this; cases this
            have hb13 : b 13 = false := by
              cases hb' : b 13
              · rfl
              · have := (g4 hb').2.1; rw [hb8] at this; cases this
            have hbel := g0 hb8
            go_simp
            refine hK.out _ _ ⟨_, _, _, _, _, _, _, _, _, _, _, _, k9, s9, a9, n9, c9, G, g, cap, rfl, fun h => h0 (by simpa using h), fun _ => rfl, fun h => h2 (by simpa using h), fun h => h3 (by simpa using h), fun h => h4 (by simpa using h), fun h => ⟨(h5 (by simpa using h)).1, fun h' => (h5 (by simpa using h)).2 (by simpa using h')⟩, fun h => h6 (by simpa using h), fun h => ⟨(h7 (by simpa using h)).1, fun h' => (h7 (by simpa using h)).2 (by simpa using h')⟩, fun h => h8 (by simpa using h), fun h => h9 (by simpa using h), fun h => h11 (by simpa using h), fun h => h12 (by simpa using h), fun h => g0 (by simpa using h), fun h => absurd h (by simp [hb8]), fun h => absurd (g5 (by simpa using h)) (by simp [hb8]), fun h => absurd (g2 (by simpa using h)).1 (by simp [hb8]), fun h => g3 (by simpa using h), fun h => absurd (g4 (by simpa using h)).2.1 (by simp [hb8])⟩
          · simp only [List.getElem?_toArray, List.getElem?_cons_zero, List.getElem?_cons_succ, Option.some.injEq] at ho
            subst ho
            obtain rfl := h1 (dep 1 (by kernel_rfl))
            have hb8 : b 8 = false := by
              cases hb' : b 8
              · rfl
              · have := (g1 hb').1 2 (by decide); rw [hbi] at this; cases this
            have hb13 : b 13 = false := by
              cases hb' : b 13
              · rfl
              · have := (g4 hb').2.1; rw [hb8] at this; cases this
            have hbel := g0 hb8
            go_simp
            refine hK.out _ _ ⟨_, _, _, _, _, _, _, _, _, _, _, _, k9, s9, a9, n9, c9, G, g, cap, rfl, fun h => h0 (by simpa using h), fun h => h1 (by simpa using h), fun _ => rfl, fun h => h3 (by simpa using h), fun h => h4 (by simpa using h), fun h => ⟨(h5 (by simpa using h)).1, fun h' => (h5 (by simpa using h)).2 (by simpa using h')⟩, fun h => h6 (by simpa using h), fun h => ⟨(h7 (by simpa using h)).1, fun h' => (h7 (by simpa using h)).2 (by simpa using h')⟩, fun h => h8 (by simpa using h), fun h => h9 (by simpa using h), fun h => h11 (by simpa using h), fun h => h12 (by simpa using h), fun h => g0 (by simpa using h), fun h => absurd h (by simp [hb8]), fun h => absurd (g5 (by simpa using h)) (by simp [hb8]), fun h => absurd (g2 (by simpa using h)).1 (by simp [hb8]), fun h => g3 (by simpa using h), fun h => absurd (g4 (by simpa using h)).2.1 (by simp [hb8])⟩
          · simp only [List.getElem?_toArray, List.getElem?_cons_zero, List.getElem?_cons_succ, Option.some.injEq] at ho
            subst ho
            obtain rfl := h2 (dep 2 (by kernel_rfl))
            have hb8 : b 8 = false := by
              cases hb' : b 8
              · rfl
              · have := (g1 hb').1 3 (by decide); rw [hbi] at this; cases this
            have hb13 : b 13 = false := by
              cases hb' : b 13
              · rfl
              · have := (g4 hb').2.1; rw [hb8] at this; cases this
            have hbel := g0 hb8
            obtain ⟨c0, c1, c2, c3⟩ := cells4 (g3 hb13)
            go_simp
            refine hK.out _ _ ⟨_, _, _, _, _, _, _, _, _, _, _, _, k9, s9, a9, n9, c9, G, g, cap, rfl, fun h => h0 (by simpa using h), fun h => h1 (by simpa using h), fun h => h2 (by simpa using h), fun _ => rfl, fun h => h4 (by simpa using h), fun h => ⟨(h5 (by simpa using h)).1, fun h' => (h5 (by simpa using h)).2 (by simpa using h')⟩, fun h => h6 (by simpa using h), fun h => ⟨(h7 (by simpa using h)).1, fun h' => (h7 (by simpa using h)).2 (by simpa using h')⟩, fun h => h8 (by simpa using h), fun h => h9 (by simpa using h), fun h => h11 (by simpa using h), fun h => h12 (by simpa using h), fun h => g0 (by simpa using h), fun h => absurd h (by simp [hb8]), fun h => absurd (g5 (by simpa using h)) (by simp [hb8]), fun h => absurd (g2 (by simpa using h)).1 (by simp [hb8]), fun h => g3 (by simpa using h), fun h => absurd (g4 (by simpa using h)).2.1 (by simp [hb8])⟩
          · simp only [List.getElem?_toArray, List.getElem?_cons_zero, List.getElem?_cons_succ, Option.some.injEq] at ho
            subst ho
            have hb8 : b 8 = false := by
              cases hb' : b 8
              · rfl
              · have := (g1 hb').1 4 (by decide); rw [hbi] at this; cases this
            have hb13 : b 13 = false := by
              cases hb' : b 13
              · rfl
              · have := (g4 hb').2.1; rw [hb8] at this; cases this
            have hbel := g0 hb8
            go_simp
            refine hK.out _ _ ⟨_, _, _, _, _, _, _, _, _, _, _, _, k9, s9, a9, n9, c9, G, g, cap, rfl, fun h => h0 (by simpa using h), fun h => h1 (by simpa using h), fun h => h2 (by simpa using h), fun h => h3 (by simpa using h), fun _ => rfl, fun h => ⟨(h5 (by simpa using h)).1, fun h' => (h5 (by simpa using h)).2 (by simpa using h')⟩, fun h => h6 (by simpa using h), fun h => ⟨(h7 (by simpa using h)).1, fun h' => (h7 (by simpa using h)).2 (by simpa using h')⟩, fun h => h8 (by simpa using h), fun h => h9 (by simpa using h), fun h => h11 (by simpa using h), fun h => h12 (by simpa using h), fun h => g0 (by simpa using h), fun h => absurd h (by simp [hb8]), fun h => absurd (g5 (by simpa using h)) (by simp [hb8]), fun h => absurd (g2 (by simpa using h)).1 (by simp [hb8]), fun h => g3 (by simpa using h), fun h => absurd (g4 (by simpa using h)).2.1 (by simp [hb8])⟩
          · simp only [List.getElem?_toArray, List.getElem?_cons_zero, List.getElem?_cons_succ, Option.some.injEq] at ho
            subst ho
            obtain rfl := h4 (dep 4 (by kernel_rfl))
            have hb8 : b 8 = false := by
              cases hb' : b 8
              · rfl
              · have := (g1 hb').1 5 (by decide); rw [hbi] at this; cases this
            have hb13 : b 13 = false := by
              cases hb' : b 13
              · rfl
              · have := (g4 hb').2.1; rw [hb8] at this; cases this
            have hbel := g0 hb8
            have CE := hid (lexpr_any (HV.out.2.1.below hbel) HP.out.1 HP.out.2.1)
            go_simp
            refine CE.out.mono ?_
            rintro e w5 ⟨⟨cs', rfl, hcs'⟩, b5⟩
            obtain ⟨k9', s9', l9', hxe⟩ : ∃ k' s' l', ex t = .mk k' s' l' := by
              cases ex t with
              | mk a b c => exact ⟨a, b, c, rfl⟩
            rw [hxe] at hcs'
            obtain ⟨a9', n9', c9', rfl, _⟩ := RC_mk.1 hcs'
            rw [← hxe] at hcs'
            have hs5 := hbel.size
            refine hK.out _ _ ⟨_, _, _, _, _, _, _, _, _, _, _, _, k9', s9', a9', n9', c9', G, g, cap, rfl, fun h => h0 (by simpa using h), fun h => h1 (by simpa using h), fun h => h2 (by simpa using h), fun h => h3 (by simpa using h), fun h => h4 (by simpa using h), fun _ => ⟨rfl, fun _ => hcs'.more fun b hb => Nat.le_trans hs5 hb⟩, fun h => h6 (by simpa using h), fun h => ⟨(h7 (by simpa using h)).1, fun h' => (b5.block _ (heap_lt ((h7 (by simpa using h)).2 hb8))).trans ((h7 (by simpa using h)).2 hb8)⟩, fun h => h8 (by simpa using h), fun h => h9 (by simpa using h), fun h => h11 (by simpa using h), fun h => h12 (by simpa using h), fun _ => hbel.trans (b5.mono hs5), fun h => absurd h (by simp [hb8]), fun h => absurd (g5 (by simpa using h)) (by simp [hb8]), fun h => absurd (g2 (by simpa using h)).1 (by simp [hb8]), fun _ => (b5.block _ (heap_lt (g3 hb13))).trans (g3 hb13), fun h => absurd (g4 (by simpa using h)).2.1 (by simp [hb8])⟩
          · simp only [List.getElem?_toArray, List.getElem?_cons_zero, List.getElem?_cons_succ, Option.some.injEq] at ho
            subst ho
            obtain rfl := h3 (dep 3 (by kernel_rfl))
            have hb8 : b 8 = false := by
              cases hb' : b 8
              · rfl
              · have := (g1 hb').1 6 (by decide); rw [hbi] at this; cases this
            have hb13 : b 13 = false := by
              cases hb' : b 13
              · rfl
              · have := (g4 hb').2.1; rw [hb8] at this; cases this
            have hbel := g0 hb8
            go_simp
            refine hK.out _ _ ⟨_, _, _, _, _, _, _, _, _, _, _, _, k9, s9, a9, n9, c9, G, g, cap, rfl, fun h => h0 (by simpa using h), fun h => h1 (by simpa using h), fun h => h2 (by simpa using h), fun h => h3 (by simpa using h), fun h => h4 (by simpa using h), fun h => ⟨(h5 (by simpa using h)).1, fun h' => (h5 (by simpa using h)).2 (by simpa using h')⟩, fun _ => rfl, fun h => ⟨(h7 (by simpa using h)).1, fun h' => (h7 (by simpa using h)).2 (by simpa using h')⟩, fun h => h8 (by simpa using h), fun h => h9 (by simpa using h), fun h => h11 (by simpa using h), fun h => h12 (by simpa using h), fun h => g0 (by simpa using h), fun h => absurd h (by simp [hb8]), fun h => absurd (g5 (by simpa using h)) (by simp [hb8]), fun h => absurd (g2 (by simpa using h)).1 (by simp [hb8]), fun h => g3 (by simpa using h), fun h => absurd (g4 (by simpa using h)).2.1 (by simp [hb8])⟩
          · simp only [List.getElem?_toArray, List.getElem?_cons_zero, List.getElem?_cons_succ, Option.some.injEq] at ho
            subst ho
            have hb8 : b 8 = false := by
              cases hb' : b 8
              · rfl
              · have := (g1 hb').1 7 (by decide); rw [hbi] at this; cases this
            have hb13 : b 13 = false := by
              cases hb' : b 13
              · rfl
              · have := (g4 hb').2.1; rw [hb8] at this; cases this
            have hbel := g0 hb8
            have b5 := bel1 w' (.cells #[.int .i64 0, .int .u64 0, .int .u64 0, .int .u64 0, .int .u64 0, .slice none 0 0] 27)
            have hs5 := hbel.size
            go_simp
            refine hK.out _ _ ⟨_, _, _, _, _, _, _, _, _, _, _, _, k9, s9, a9, n9, c9, w'.heap.size, g, cap, rfl, fun h => h0 (by simpa using h), fun h => h1 (by simpa using h), fun h => h2 (by simpa using h), fun h => h3 (by simpa using h), fun h => h4 (by simpa using h), fun h => ⟨(h5 (by simpa using h)).1, fun h' => ((h5 (by simpa using h)).2 hb8).below b5⟩, fun h => h6 (by simpa using h), fun _ => ⟨rfl, fun _ => alloc_new _ _⟩, fun h => h8 (by simpa using h), fun h => h9 (by simpa using h), fun h => h11 (by simpa using h), fun h => h12 (by simpa using h), fun _ => hbel.trans (b5.mono hs5), fun h => absurd h (by simp [hb8]), fun h => absurd (g5 (by simpa using h)) (by simp [hb8]), fun h => absurd (g2 (by simpa using h)).1 (by simp [hb8]), fun _ => (b5.block _ (heap_lt (g3 hb13))).trans (g3 hb13), fun h => absurd (g4 (by simpa using h)).2.1 (by simp [hb8])⟩
          · simp only [List.getElem?_toArray, List.getElem?_cons_zero, List.getElem?_cons_succ, Option.some.injEq] at ho
            subst ho
            have hb5 := dep 5 (by kernel_rfl)
            obtain rfl := h3 (dep 3 (by kernel_rfl))
            obtain ⟨rfl, hG⟩ := h7 (dep 7 (by kernel_rfl))
            obtain ⟨hv23, hRC⟩ := h5 hb5
            have hG := hG hbi
            have hRC := hRC hbi
            have hbel := g0 hbi
            have hb13 : b 13 = false := by
              cases hb' : b 13
              · rfl
              · have := (g4 hb').2.1; rw [hbi] at this; cases this
            have hb10 : b 10 = false := by
              cases hb' : b 10
              · rfl
              · have := (g2 hb').1; rw [hbi] at this; cases this
            have hDB := g3 hb13
            have hO : OX base w' (.slice pA F.length pC) (F.map ex) := HV.out.2.2.1.bel hbel
            have hol := fun k hk => (HV.out.2.2.1.own k hk).2
            obtain ⟨vs, ho, hall⟩ := hO
            rw [List.length_map] at ho
            have hF := HP.out.2.2.1
            have hbs := hbel.size
            have hbV := HV.out.2.2.2.2.2
            refine step_append_lies _ (by rfl) (.tmp 21) (.tmp 25) 25 (by rfl) base 27 i0 _ 6 64 Tryd.underlying25 hi0 hz0 hz1 hz2 (by rfl) (by decide) (.slice pA F.length pC) F.length vs (by rfl) ho ⟨G, 0, none⟩ 1 1 [.int .i64 0, .int .u64 0, .int .u64 0, .int .u64 0, .int .u64 0, .slice none 0 0] (by rfl) (by rfl) (World.news_of_block hG) (by intro u hu; simp at hu; rcases hu with rfl | rfl | rfl <;> rfl) (by decide) (by unfold maxLen; omega) (by omega) (by omega) _ rfl ?_
            intro gn cap5 w5 hown' hgrow hat hglt
            have hOX := OX.snoc (n := V.heap.size) (x := .mk 0 none8 []) (l := F.map ex) (by rw [List.length_map]; exact ho) hall (by rw [List.length_map]; exact hown') hgrow hol hbV (hat.imp id fun e => by rw [e]; exact Nat.le_refl _) (by rw [← rcs_none]; exact RC_mk.2 ⟨none, 0, 0, rfl, rfl, by omega, .inl rfl⟩)
            rw [List.length_map] at hOX
            have hge : base ≤ gn := by
              rcases hat with e | e
              · exact (ho.lt gn e).1
              · omega
            have hRC5 : RC (fun b => base ≤ b ∧ b ≠ gn) w5 (ex t) (rcs k9 s9 (.slice a9 n9 c9)) := by
              refine RC.keep (g := fun b => V.heap.size ≤ b ∧ b < w'.heap.size) hgrow.size (fun b hb hl => hgrow.block b hl fun e => by have := hol b e.symm; omega) (fun b hb => ⟨by omega, fun e => ?_⟩) _ hRC.lt
              rcases hat with e' | e'
              · have := hol gn e'; omega
              · omega
            have hDB5 : DB w5 D m f bb (.slice pA F.length pC) := (hgrow.block D (heap_lt hDB) (fun e => by have h1 := (ho.lt D e.symm).1; have h2 := HV.out.2.2.2.2.1; omega)).trans hDB
            have hMd : Md (fun k => k = D ∨ (Value.slice pA F.length pC).ownBlock = some k) V w5 := ⟨hgrow.os.trans hbel.os, hgrow.tape.trans hbel.tape, hgrow.output.trans hbel.output, Nat.le_trans hbs hgrow.size, fun k hk hn => (hgrow.block k (by omega) fun e => hn (.inr e.symm)).trans (hbel.block k hk)⟩
            have hC : ∃ C : Array Value, w5.heap[gn]? = some (.cells C 27 (0, 0)) ∧ F.length * 6 + 6 ≤ C.size := by
              rcases hown'.2 with ⟨e, _⟩ | ⟨g2, cap2, cur, e, _, hg, hn, _, hc2, _⟩
              · cases e
              · simp only [Value.slice.injEq, Option.some.injEq, Addr.mk.injEq, and_true, true_and] at e
                obtain ⟨rfl, rfl⟩ := e
                exact ⟨cur, hg, by rw [hc2]; omega⟩
            have hd8 : ∀ k, k < 8 → b k = true := fun k hk => by
              have h8 : k = 0 ∨ k = 1 ∨ k = 2 ∨ k = 3 ∨ k = 4 ∨ k = 5 ∨ k = 6 ∨ k = 7 := by omega
              rcases h8 with rfl | rfl | rfl | rfl | rfl | rfl | rfl | rfl <;> exact dep _ (by kernel_rfl)
            refine hK.out _ _ ⟨_, _, _, _, _, _, _, _, _, _, _, _, k9, s9, a9, n9, c9, G, gn, cap5, rfl, fun h => h0 (by simpa using h), fun h => h1 (by simpa using h), fun h => h2 (by simpa using h), fun _ => rfl, fun h => h4 (by simpa using h), fun h => ⟨hv23, fun h' => absurd h' (by simp)⟩, fun h => h6 (by simpa using h), fun h => ⟨rfl, fun h' => absurd h' (by simp)⟩, fun _ => rfl, fun h => absurd (g5 (by simpa using h)) (by simp [hbi]), fun h => h11 (by simpa using h), fun h => h12 (by simpa using h), fun h => absurd h (by simp), fun _ => ⟨fun k hk => by simp [hd8 k hk], hat.imp id (fun e => by omega), hge, hC, hMd, fun _ => ⟨hOX, hRC5⟩, fun h => absurd h (by simp [hb10])⟩, fun h => by simp [g5 (by simpa using h)], fun h => absurd h (by simp [hb10]), fun _ => hDB5, fun h => absurd h (by simp [hb13])⟩
          · simp only [List.getElem?_toArray, List.getElem?_cons_zero, List.getElem?_cons_succ, Option.some.injEq] at ho
            subst ho
            have hb8 := dep 8 (by kernel_rfl)
            obtain rfl := h8 hb8
            obtain rfl := h6 ((g1 hb8).1 6 (by decide))
            have i1 : (F.length : Int) < (F.length : Int) + 1 := by omega
            have i2 : (F.length : Int) < ((F.length + 1 : Nat) : Int) := by omega
            have GH := hid g1
            have HB := hid hb8
            clear g1 hb8
            go_simp
            have g1 := GH.out
            have hb8 := HB.out
            refine hK.out _ _ ⟨_, _, _, _, _, _, _, _, _, _, _, _, k9, s9, a9, n9, c9, G, g, cap, rfl, fun h => h0 (by simpa using h), fun h => h1 (by simpa using h), fun h => h2 (by simpa using h), fun h => h3 (by simpa using h), fun h => h4 (by simpa using h), fun h => ⟨(h5 (by simpa using h)).1, fun h' => (h5 (by simpa using h)).2 (by simpa using h')⟩, fun h => h6 (by simpa using h), fun h => ⟨(h7 (by simpa using h)).1, fun h' => (h7 (by simpa using h)).2 (by simpa using h')⟩, fun h => h8 (by simpa using h), fun _ => rfl, fun h => h11 (by simpa using h), fun h => h12 (by simpa using h), fun h => absurd h (by simp [hb8]), fun h => ⟨fun k hk => by have := (g1 hb8).1 k hk; simp [this], (g1 hb8).2.1, (g1 hb8).2.2.1, (g1 hb8).2.2.2.1, (g1 hb8).2.2.2.2.1, fun h' => (g1 hb8).2.2.2.2.2.1 (by simpa using h'), fun h' => (g1 hb8).2.2.2.2.2.2 (by simpa using h')⟩, fun _ => by simp [hb8], fun h => ⟨by simp [(g2 (by simpa using h)).1], by simp [(g2 (by simpa using h)).2]⟩, fun h => g3 (by simpa using h), fun h => ⟨(g4 (by simpa using h)).1, by simp [(g4 (by simpa using h)).2.1], by simp [(g4 (by simpa using h)).2.2]⟩⟩
          · simp only [List.getElem?_toArray, List.getElem?_cons_zero, List.getElem?_cons_succ, Option.some.injEq] at ho
            subst ho
            have hb8 := dep 8 (by kernel_rfl)
            obtain rfl := h9 (dep 9 (by kernel_rfl))
            obtain ⟨rfl, _⟩ := h5 ((g1 hb8).1 5 (by decide))
            obtain rfl := h8 hb8
            obtain ⟨q1, q2, q3, ⟨C, q4, q5⟩, q6, q7, _⟩ := g1 hb8
            obtain ⟨hO, hRC⟩ := q7 hbi
            have hb9 := dep 9 (by kernel_rfl)
            have f0 := free q4 (F.length * 6)
            have f1 := free q4 (F.length * 6 + 1)
            have f2 := free q4 (F.length * 6 + 2)
            have f3 := free q4 (F.length * 6 + 3)
            have f4 := free q4 (F.length * 6 + 4)
            have f5 := free q4 (F.length * 6 + 5)
            have e0 := cellin q4 (show F.length * 6 < C.size by omega)
            have e1 := cellin q4 (show F.length * 6 + 1 < C.size by omega)
            have e2 := cellin q4 (show F.length * 6 + 2 < C.size by omega)
            have e3 := cellin q4 (show F.length * 6 + 3 < C.size by omega)
            have e4 := cellin q4 (show F.length * 6 + 4 < C.size by omega)
            have e5 := cellin q4 (show F.length * 6 + 5 < C.size by omega)
            obtain ⟨w6, hw6⟩ : ∃ w6, w6 = ((((((w'.setCell ⟨g, F.length * 6, none⟩ (.int .i64 k9)).setCell ⟨g, F.length * 6 + 1, none⟩ (.int .u64 (ws s9 0 : Int))).setCell ⟨g, F.length * 6 + 2, none⟩ (.int .u64 (ws s9 1 : Int))).setCell ⟨g, F.length * 6 + 3, none⟩ (.int .u64 (ws s9 2 : Int))).setCell ⟨g, F.length * 6 + 4, none⟩ (.int .u64 (ws s9 3 : Int))).setCell ⟨g, F.length * 6 + 5, none⟩ (.slice a9 n9 c9)) := ⟨_, rfl⟩
            obtain ⟨p1, ⟨C', p2, p3⟩, p4, p5, p6, p7⟩ := put6 q4 (show F.length * 6 + 6 ≤ C.size by omega) _ _ _ _ _ _ w6 hw6
            have hO6 := hO.setLast (List.length_map ..) hRC q4 p2 p3 p1 p4 p5 p6
            have hM6 : Md (fun k => k = D ∨ (Value.slice pA F.length pC).ownBlock = some k) V w6 := by
              have hB : (fun k => k = D ∨ (Value.slice pA F.length pC).ownBlock = some k) g ∨ V.heap.size ≤ g := q2.imp .inr id
              rw [hw6]; exact (((((q6.put hB _).put hB _).put hB _).put hB _).put hB _).put hB _
            have hDg : D ≠ g := by have := HV.out.2.2.2.2.1; omega
            have hd8 := q1
            clear hO hRC q1 q6 q7 p5 p6 p7
            have GH := hid (And.intro hd8 hb8)
            have GG := hid g1
            clear g1 hd8 hb8
            go_simp
            have hd8 := GH.out.1
            have hb8 := GH.out.2
            rw [← hw6]
            refine hK.out _ _ ⟨_, _, _, _, _, _, _, _, _, _, _, _, k9, s9, a9, n9, c9, G, g, cap, rfl, fun h => h0 (by simpa using h), fun h => h1 (by simpa using h), fun h => h2 (by simpa using h), fun h => h3 (by simpa using h), fun h => h4 (by simpa using h), fun h => ⟨rfl, fun h' => absurd h' (by simp [hb8])⟩, fun h => h6 (by simpa using h), fun h => ⟨(h7 (by simpa using h)).1, fun h' => absurd h' (by simp [hb8])⟩, fun h => h8 (by simpa using h), fun _ => rfl, fun h => h11 (by simpa using h), fun h => h12 (by simpa using h), fun h => absurd h (by simp [hb8]), fun _ => ⟨fun k hk => by simp [hd8 k hk], q2, q3, ⟨C', p2, by omega⟩, hM6, fun h => absurd h (by simp), fun _ => hO6⟩, fun h => by simp [g5 (by simpa using h)], fun _ => ⟨by simp [hb8], by simp [hb9]⟩, fun h => (p4 D hDg).trans (g3 (by simpa using h)), fun h => ⟨(p4 D hDg).trans (g4 (by simpa using h)).1, by simp [hb8], by simp [(g4 (by simpa using h)).2.2]⟩⟩
          · simp only [List.getElem?_toArray, List.getElem?_cons_zero, List.getElem?_cons_succ, Option.some.injEq] at ho
            subst ho
            have hb8 := dep 8 (by kernel_rfl)
            obtain rfl := h8 hb8
            obtain rfl := h0 ((g1 hb8).1 0 (by decide))
            have GH := hid g1
            have HB := hid hb8
            clear g1 hb8
            go_simp
            have g1 := GH.out
            have hb8 := HB.out
            refine hK.out _ _ ⟨_, _, _, _, _, _, _, _, _, _, _, _, k9, s9, a9, n9, c9, G, g, cap, rfl, fun h => h0 (by simpa using h), fun h => h1 (by simpa using h), fun h => h2 (by simpa using h), fun h => h3 (by simpa using h), fun h => h4 (by simpa using h), fun h => ⟨(h5 (by simpa using h)).1, fun h' => (h5 (by simpa using h)).2 (by simpa using h')⟩, fun h => h6 (by simpa using h), fun h => ⟨(h7 (by simpa using h)).1, fun h' => (h7 (by simpa using h)).2 (by simpa using h')⟩, fun h => h8 (by simpa using h), fun h => h9 (by simpa using h), fun _ => rfl, fun h => h12 (by simpa using h), fun h => absurd h (by simp [hb8]), fun h => ⟨fun k hk => by have := (g1 hb8).1 k hk; simp [this], (g1 hb8).2.1, (g1 hb8).2.2.1, (g1 hb8).2.2.2.1, (g1 hb8).2.2.2.2.1, fun h' => (g1 hb8).2.2.2.2.2.1 (by simpa using h'), fun h' => (g1 hb8).2.2.2.2.2.2 (by simpa using h')⟩, fun h => by simp [g5 (by simpa using h)], fun h => ⟨by simp [(g2 (by simpa using h)).1], by simp [(g2 (by simpa using h)).2]⟩, fun h => g3 (by simpa using h), fun h => ⟨(g4 (by simpa using h)).1, by simp [(g4 (by simpa using h)).2.1], by simp [(g4 (by simpa using h)).2.2]⟩⟩
          · simp only [List.getElem?_toArray, List.getElem?_cons_zero, List.getElem?_cons_succ, Option.some.injEq] at ho
            subst ho
            have hb8 := dep 8 (by kernel_rfl)
            obtain rfl := h8 hb8
            obtain rfl := h11 (dep 11 (by kernel_rfl))
            have GH := hid g1
            have HB := hid hb8
            clear g1 hb8
            go_simp
            have g1 := GH.out
            have hb8 := HB.out
            refine hK.out _ _ ⟨_, _, _, _, _, _, _, _, _, _, _, _, k9, s9, a9, n9, c9, G, g, cap, rfl, fun h => h0 (by simpa using h), fun h => h1 (by simpa using h), fun h => h2 (by simpa using h), fun h => h3 (by simpa using h), fun h => h4 (by simpa using h), fun h => ⟨(h5 (by simpa using h)).1, fun h' => (h5 (by simpa using h)).2 (by simpa using h')⟩, fun h => h6 (by simpa using h), fun h => ⟨(h7 (by simpa using h)).1, fun h' => (h7 (by simpa using h)).2 (by simpa using h')⟩, fun h => h8 (by simpa using h), fun h => h9 (by simpa using h), fun h => h11 (by simpa using h), fun _ => rfl, fun h => absurd h (by simp [hb8]), fun h => ⟨fun k hk => by have := (g1 hb8).1 k hk; simp [this], (g1 hb8).2.1, (g1 hb8).2.2.1, (g1 hb8).2.2.2.1, (g1 hb8).2.2.2.2.1, fun h' => (g1 hb8).2.2.2.2.2.1 (by simpa using h'), fun h' => (g1 hb8).2.2.2.2.2.2 (by simpa using h')⟩, fun h => by simp [g5 (by simpa using h)], fun h => ⟨by simp [(g2 (by simpa using h)).1], by simp [(g2 (by simpa using h)).2]⟩, fun h => g3 (by simpa using h), fun h => ⟨(g4 (by simpa using h)).1, by simp [(g4 (by simpa using h)).2.1], by simp [(g4 (by simpa using h)).2.2]⟩⟩
          · simp only [List.getElem?_toArray, List.getElem?_cons_zero, List.getElem?_cons_succ, Option.some.injEq] at ho
            subst ho
            have hb8 := dep 8 (by kernel_rfl)
            obtain rfl := h8 hb8
            obtain rfl := h12 (dep 12 (by kernel_rfl))
            have hb12 := dep 12 (by kernel_rfl)
            have hDB := g3 hbi
            obtain ⟨q1, q2, q3, ⟨C, q4, q5⟩, q6, q7, q8⟩ := g1 hb8
            obtain ⟨c0, c1, c2, c3⟩ := cells4 hDB
            have f3 := free hDB 3
            have hDb := HV.out.2.2.2.2.1
            have hgD : g ≠ D := by omega
            have GH := hid (And.intro q1 (And.intro hb8 (And.intro q7 q8)))
            have GG := hid g1
            clear g1 q1 hb8 q7 q8
            go_simp
            obtain ⟨q1, hb8, q7, q8⟩ := GH.out
            refine hK.out _ _ ⟨_, _, _, _, _, _, _, _, _, _, _, _, k9, s9, a9, n9, c9, G, g, cap, rfl, fun h => h0 (by simpa using h), fun h => h1 (by simpa using h), fun h => h2 (by simpa using h), fun h => h3 (by simpa using h), fun h => h4 (by simpa using h), fun h => ⟨(h5 (by simpa using h)).1, fun h' => absurd h' (by simp [hb8])⟩, fun h => h6 (by simpa using h), fun h => ⟨(h7 (by simpa using h)).1, fun h' => absurd h' (by simp [hb8])⟩, fun _ => rfl, fun h => h9 (by simpa using h), fun h => h11 (by simpa using h), fun _ => rfl, fun h => absurd h (by simp [hb8]), fun _ => ⟨fun k hk => by simp [q1 k hk], q2, q3, ⟨C, blk_set q4 hgD, q5⟩, q6.put (.inl (.inl rfl)) _, fun h' => ⟨(q7 (by simpa using h')).1.put hDb, RC.keep (by simp) (fun b hb _ => heap_setCell_other _ _ _ _ (by show b ≠ D; omega)) (fun _ h => h) _ (q7 (by simpa using h')).2⟩, fun h' => (q8 (by simpa using h')).put hDb⟩, fun h => by simp [g5 (by simpa using h)], fun h => ⟨by simp [(g2 (by simpa using h)).1], by simp [(g2 (by simpa using h)).2]⟩, fun h => absurd h (by simp), fun _ => ⟨(blk_put (k := 3) hDB).trans rfl, by simp [hb8], by simp [hb12]⟩⟩
        case done2 =>
          rintro b a' w' ⟨v18, v19, v20, v21, v22, v23, v24, v25, v26, v27, v28, v29, k9, s9, a9, n9, c9, G, g, cap, rfl, h0, h1, h2, h3, h4, h5, h6, h7, h8, h9, h11, h12, g0, g1, g5, g2, g3, g4⟩ hall
          obtain ⟨_, q2, q3, _, q6, _, q8⟩ := g1 (hall 8)
          have q8 := q8 (hall 10)
          have q9 := (g4 (hall 13)).1
          have hz := hid (And.intro q2 (And.intro q3 (And.intro q6 (And.intro q8 q9))))
          clear q2 q3 q6 q8 q9 g0 g1 g2 g3 g4 g5 h0 h1 h2 h3 h4 h5 h6 h7 h8 h9 h11 h12 hall
          go_wp2_with fail
          go_end0
          obtain ⟨q2, q3, q6, q8, q9⟩ := hz.out
          obtain ⟨e1, e2, e3⟩ := H1.out
          have hlt := HD.out.1.lt
          have hown := HD.out.1.row.own
          have hff : w'.heap[f]? = V.heap[f]? := q6.block f (by have := hlt; omega) (by
            rintro (e | e)
            · exact HD.out.1.neDf e.symm
            · have := (hown f e).1; omega)
          have hmm : w'.heap[m]? = V.heap[m]? := q6.block m (by have := hlt; omega) (by
            rintro (e | e)
            · exact HD.out.1.neDm e.symm
            · have := (hown m e).1; omega)
          refine ⟨_, F ++ [t], rfl, .inr ⟨hin, rfl⟩, ⟨q9, HV.out.2.2.2.1.keep hmm, ⟨ns ++ [nt], e1.keep hff, HD.out.2.2.2.1.snoc HD.out.2.2.2.2⟩, by rw [List.map_append]; exact q8, ?_, hlt.1, hlt.2.1, hlt.2.2.1, hlt.2.2.2.1, Nat.le_trans HV.out.2.2.2.2.2 q6.size⟩, ⟨?_, ?_⟩⟩
          · refine List.nodup_append.2 ⟨HD.out.1.nodup, by simp, ?_⟩
            intro a ha b hb e
            simp at hb
            subst hb e
            exact hin ha
          · exact (e2.mono fun k e => .inr (.inr (.inl e))).trans ⟨q6.os, q6.tape, q6.output, q6.size, fun k hk hs => q6.block k hk (by
              rintro (e | e)
              · exact hs (.inl e)
              · exact hs (.inr (.inr (.inr e))))⟩
          · intro k hk
            simp [Value.ownBlock] at hk
            subst hk
            exact q2.imp id fun h => by omega
        case init2 =>
          exact ⟨_, _, _, _, _, _, _, _, _, _, _, _, 0, none8, none, 0, 0, 0, 0, 0, rfl, fun h => absurd h (by simp), fun h => absurd h (by simp), fun h => absurd h (by simp), fun h => absurd h (by simp), fun h => absurd h (by simp), fun h => absurd h (by simp), fun h => absurd h (by simp), fun h => absurd h (by simp), fun h => absurd h (by simp), fun h => absurd h (by simp), fun h => absurd h (by simp), fun h => absurd h (by simp), fun _ => (Below.refl _ _).drew, fun h => absurd h (by simp), fun h => absurd h (by simp), fun h => absurd h (by simp), fun _ => HV.out.1, fun h => absurd h (by simp)⟩
      case init1 =>
        exact ⟨_, _, _, _, _, _, rfl, fun h => absurd h (by simp), fun h => absurd h (by simp), fun h => absurd h (by simp), fun h => absurd h (by simp), fun h => absurd h (by simp), fun h => absurd h (by simp), fun _ => rfl, fun h => absurd h (by simp)⟩
  case init =>
    exact ⟨_, _, _, _, _, _, _, _, rfl, fun h => absurd h (by simp), fun h => absurd h (by simp), fun h => absurd h (by simp), fun h => absurd h (by simp), fun h => absurd h (by simp), fun h => absurd h (by simp), fun h => absurd h (by simp), fun h => absurd h (by simp), rfl⟩
end Go.Proofs.YtednoideboeehaaDoor
end
