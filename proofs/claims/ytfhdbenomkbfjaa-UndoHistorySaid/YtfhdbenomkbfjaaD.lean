/-
  Contracts: turn.
-/
import Derived.Test.YtfhdbenomkbfjaaC
import Derived.Test.YtfhdbenomkbfjaaRt
import Derived.Deep.AppendLies
set_option linter.unusedSimpArgs false
set_option linter.unusedVariables false

namespace Go.Proofs.Ytfhdbenomkbfjaa
open Go.RowKit Te Go.Frame

/-- The row of a stack with an edit on top. -/
theorem own_top {w : World} {v : Value} {x : Ed} {U : List Ed} (h : w.ownsRow 0 31 3 v (x :: U).length (ev (x :: U).reverse)) :
    ∃ g cap cur, v = .slice (some ⟨g, 0, none⟩) (U.length + 1) cap ∧ w.heap[g]? = some (.cells cur 31 (0, 0)) ∧ U.length + 1 ≤ cap ∧ cap ≤ maxLen ∧ cur.size = cap * 3 ∧ cur.toList.take (U.length * 3) = ev U.reverse ∧
      w.cell? ⟨g, U.length * 3, none⟩ = some (.int .i64 x.1) ∧ w.cell? ⟨g, U.length * 3 + 1, none⟩ = some (.int .i64 x.2.1) ∧ w.cell? ⟨g, U.length * 3 + 2, none⟩ = some (.string x.2.2) := by
  rcases h.2 with ⟨_, h0⟩ | ⟨g, cap, cur, rfl, hb, hg, hn, hm, hs, ht⟩
  · simp at h0
  · simp only [List.length_cons] at hn ht
    have e1 : ev (x :: U).reverse = ev U.reverse ++ ev [x] := by rw [List.reverse_cons, ev_app]
    have hl := ev_length U.reverse
    rw [List.length_reverse] at hl
    rw [e1, ev_one] at ht
    have at3 : ∀ k (u : Value), [Value.int .i64 x.1, .int .i64 x.2.1, .string x.2.2][k]? = some u → w.cell? ⟨g, U.length * 3 + k, none⟩ = some u := by
      intro k u hk
      have hk3 : k < 3 := by have := (List.getElem?_eq_some_iff.1 hk).1; simpa using this
      have : (cur.toList.take ((U.length + 1) * 3))[U.length * 3 + k]? = some u := by
        rw [ht, List.getElem?_append_right (by omega), show U.length * 3 + k - (ev U.reverse).length = k by omega]
        exact hk
      rw [List.getElem?_take, if_pos (by omega)] at this
      simp only [World.cell?, hg]
      simpa using this
    refine ⟨g, cap, cur, rfl, hg, hn, hm, hs, ?_, at3 0 _ rfl, at3 1 _ rfl, at3 2 _ rfl⟩
    have := congrArg (List.take (U.length * 3)) ht
    rw [List.take_take, Nat.min_eq_left (by omega), List.take_append_of_le_length (by omega), List.take_of_length_le (l := ev U.reverse) (by omega)] at this
    exact this

theorem apply_yes (s t : ByteArray) (a d : Int) (w : World) (hs : s.size ≤ 1000000) (ht : t.size ≤ 1000000) (hf : Fit s.size (a, d, t)) :
    Calls Try.prog 27 #[.string s, .agg #[.int .i64 a, .int .i64 d, .string t]] w fun e w' => e = .returned (.tuple #[.string (ap s (a, d, t)), .int .i64 0]) ∧ Below w.heap.size w w' := by
  have ha : a ≤ 9223372036854775807 := by have h1 := hf.1; have h2 := hf.2.1; have h3 := hf.2.2; simp only at h1 h2 h3; omega
  refine (apply_any s t a d w hs ht ha).mono ?_
  rintro e w' ⟨rfl, h⟩
  exact ⟨by rw [apv_yes hf], h⟩

set_option maxRecDepth 100000 in
set_option maxHeartbeats 4000000 in
theorem turn12_yes (F : Nat → Prop) (w : World) (B : Nat) (s : ByteArray) (a d : Int) (t : ByteArray) (U R : List Ed) (v : Nat) (h : Hist F w B s ((a, d, t) :: U) R v) (hup : Up F w) (hf : Fit s.size (a, d, t)) (hs : s.size ≤ 1000000) (ht : t.size ≤ 1000000) (hv : v ≤ 1000000) (hU : U.length ≤ 1000000) (hR : R.length ≤ 1000000) :
    Calls Try.prog 30 #[.pointer (some ⟨B, 0, none⟩), .pointer (some ⟨B, 1, none⟩), .pointer (some ⟨B, 2, none⟩)] w fun e w' => e = .returned (.tuple #[.agg #[.int .i64 a, .int .i64 d, .string t], .int .i64 0]) ∧ Hist F w' B (ap s (a, d, t)) U (inv s (a, d, t) :: R) (v + 1) ∧ Kept F w w' := by
  obtain ⟨i0, hi, hz0, hz1, hz2⟩ := info_parts Try.info31
  obtain ⟨vu, vr, hB, hu1, hr1, hFB, hFu, hFr, hne⟩ := h
  obtain ⟨g, cap, cur, rfl, hg, hn, hm, hcs, hct, x0, x1, x2⟩ := own_top hu1
  obtain ⟨pr, cr, rfl⟩ := own_form hr1
  obtain ⟨n, hnU⟩ : ∃ n, n = U.length := ⟨_, rfl⟩
  rw [← hnU] at hB hn hct x0 x1 x2 hFu hne
  have HF := hid hf
  obtain ⟨W1, hW1⟩ : ∃ W1, W1 = w.alloc (.cells #[.int .i64 0, .int .i64 0, .string { data := #[] }] 31) := ⟨_, rfl⟩
  have b1 : Below w.heap.size w W1 := by rw [hW1]; exact (Below.refl _ _).alloc (Nat.le_refl _) _
  have hz := show W1.heap[w.heap.size]? = some (.cells #[.int .i64 0, .int .i64 0, .string { data := #[] }] 31 (0, 0)) by rw [hW1]; exact alloc_new _ _
  have hsz1 := show W1.heap.size = w.heap.size + 1 by rw [hW1]; simp
  have hgl := heap_lt hg
  have hBl := heap_lt hB
  have y0 := (b1.cell (p := ⟨g, n * 3, none⟩) hgl).trans x0
  have y1 := (b1.cell (p := ⟨g, n * 3 + 1, none⟩) hgl).trans x1
  have y2 := (b1.cell (p := ⟨g, n * 3 + 2, none⟩) hgl).trans x2
  obtain ⟨_, c1, _, _⟩ := cells4 ((b1.block _ hBl).trans hB)
  obtain ⟨W, hW⟩ : ∃ W, W = W1.alloc (.cells #[.int .i64 a, .int .i64 d, .string t] 31) := ⟨_, rfl⟩
  have bW : Below w.heap.size w W := by rw [hW]; exact b1.alloc b1.size _
  have hsz := show W.heap.size = w.heap.size + 2 by rw [hW]; simp; omega
  have XZ := hid (show W.heap[w.heap.size]? = some (.cells #[.int .i64 0, .int .i64 0, .string { data := #[] }] 31 (0, 0)) by rw [hW]; exact blk_alloc hz)
  have XE := hid (show W.heap[w.heap.size + 1]? = some (.cells #[.int .i64 a, .int .i64 d, .string t] 31 (0, 0)) by rw [hW]; exact alloc_at _ _ (by omega))
  have XB := hid ((bW.block _ hBl).trans hB)
  have XG := hid ((bW.block _ hgl).trans hg)
  have XO := hid (ownsRow_keep hr1 fun k hk => bW.block k (hr1.lt k hk).2)
  rw [hW1] at y0 y1 y2 c1
  have HW := hid (show W = (w.alloc (.cells #[.int .i64 0, .int .i64 0, .string { data := #[] }] 31)).alloc (.cells #[.int .i64 a, .int .i64 d, .string t] 31) by rw [hW, hW1])
  have HGl := hid hgl
  have HBl := hid hBl
  have HCT := hid hct
  have HCS := hid hcs
  have HN := hid (And.intro hn hm)
  have HU := hid hnU
  have HP := hid hup
  have HSZ := hid hsz
  have HQ := hid (And.intro hFB (And.intro hFu (And.intro hFr hne)))
  have HRl := hid (fun k (hk : (Value.slice pr R.length cr).ownBlock = some k) => (hr1.lt k hk).2)
  have hn0 : (0 : Int) ≤ (n : Int) := by omega
  have hn9 : (n : Int) ≤ 1000000 := by omega
  clear hf hW hW1 hB hg hct hcs hn hm hnU hr1 hup hFB hFu hFr hne x0 x1 x2 hu1 hgl hBl b1 hsz hsz1 hz
  go_enter Try.func30, Try.ntmps30
  go_wp2_with fail
  rw [← HW.out]
  clear y0 y1 y2 c1
  refine wp_region_below (by kernel_rfl) (by kernel_rfl) ?_
  intro X f _ hfx hsf
  have k0 : ∀ x, (f x).cell? ⟨B, 0, none⟩ = some (.string s) := fun x => (cells4 (((hfx.out x).block B (by have := HBl.out; have := HSZ.out; omega)).trans XB.out)).1
  have e0 : ∀ x, (f x).cell? ⟨w.heap.size + 1, 0, none⟩ = some (.int .i64 a) := fun x => (cells3 (((hfx.out x).block _ (heap_lt XE.out)).trans XE.out)).1
  have e1 : ∀ x, (f x).cell? ⟨w.heap.size + 1, 1, none⟩ = some (.int .i64 d) := fun x => (cells3 (((hfx.out x).block _ (heap_lt XE.out)).trans XE.out)).2.1
  have e2 : ∀ x, (f x).cell? ⟨w.heap.size + 1, 2, none⟩ = some (.string t) := fun x => (cells3 (((hfx.out x).block _ (heap_lt XE.out)).trans XE.out)).2.2
  repeat (go_big_quiet_step (first | (go_at_call 27; exact calls_below hfx hsf (apply_yes _ _ _ _ _ hs ht HF.out))))
  refine wpQuiet_nil ?_
  intro w5 hb5
  clear k0 e0 e1 e2 hfx hsf
  have hB5 := (hb5.block B (by have := HBl.out; have := HSZ.out; omega)).trans XB.out
  have hG5 := (hb5.block g (by have := HGl.out; have := HSZ.out; omega)).trans XG.out
  obtain ⟨_, c1, _, _⟩ := cells4 hB5
  have HB5 := hid hB5
  have HG5 := hid hG5
  clear hB5 hG5
  go_wp2_with fail
  clear c1
  have hgB : g ≠ B := (HQ.out.2.1 g rfl).2
  refine (delete_any g n cap cur w5 HG5.out HN.out.1 (by have := HN.out.2; unfold maxLen at this; omega) HCS.out).mono ?_
  rintro e w6 ⟨rfl, ⟨cur', hg6, hs6, ht6⟩, kp6⟩
  have hB6 := (kp6.block B (fun e => hgB e.symm)).trans HB5.out
  obtain ⟨_, c1, _, _⟩ := cells4 hB6
  obtain ⟨_, f1, _, _⟩ := cells4' hB6
  have XE6 := (kp6.block (w.heap.size + 1) (by have := HGl.out; omega)).trans ((hb5.block _ (heap_lt XE.out)).trans XE.out)
  have XZ6 := (kp6.block w.heap.size (by have := HGl.out; omega)).trans ((hb5.block _ (heap_lt XZ.out)).trans XZ.out)
  have XO6 : w6.ownsRow 0 31 3 (.slice pr R.length cr) R.length (ev R.reverse) := ownsRow_keep XO.out fun k hk => by
    have h1 := HRl.out k hk
    have h2 : k ≠ g := fun e => HQ.out.2.2.2 g rfl (by rw [hk, e])
    exact (kp6.block k h2).trans (hb5.block k (by have := HSZ.out; omega))
  have HK6 : Kept F w w6 := ((Kept.below bW HP.out).trans (Kept.below hb5 (HP.out.mono bW.size))).trans (kp6.mono fun b hb => by rw [hb]; exact (HQ.out.2.1 g rfl).1)
  have hB7 : (w6.setCell ⟨B, 1, none⟩ (.slice (some ⟨g, 0, none⟩) n cap)).heap[B]? = some (.cells #[.string s, .slice (some ⟨g, 0, none⟩) n cap, .slice pr R.length cr, .int .i64 (v : Int)] 53 (0, 0)) := blk_put hB6
  have hne1 : w.heap.size + 1 ≠ B := by have := HBl.out; omega
  have hne0 : w.heap.size ≠ B := by have := HBl.out; omega
  have XE7 := blk_set (a := ⟨B, 1, none⟩) (v := .slice (some ⟨g, 0, none⟩) n cap) XE6 hne1
  have XZ7 := blk_set (a := ⟨B, 1, none⟩) (v := .slice (some ⟨g, 0, none⟩) n cap) XZ6 hne0
  have XG7 := blk_set (a := ⟨B, 1, none⟩) (v := .slice (some ⟨g, 0, none⟩) n cap) hg6 hgB
  have XO7 : (w6.setCell ⟨B, 1, none⟩ (.slice (some ⟨g, 0, none⟩) n cap)).ownsRow 0 31 3 (.slice pr R.length cr) R.length (ev R.reverse) := ownsRow_keep XO6 fun k hk => heap_setCell_other _ _ _ _ (HQ.out.2.2.1 k hk).2
  have HK7 : Kept F w (w6.setCell ⟨B, 1, none⟩ (.slice (some ⟨g, 0, none⟩) n cap)) := HK6.setCell HQ.out.1 _
  obtain ⟨W7, hW7⟩ : ∃ W7, W7 = w6.setCell ⟨B, 1, none⟩ (.slice (some ⟨g, 0, none⟩) n cap) := ⟨_, rfl⟩
  have HW7 := hid hW7
  rw [← hW7] at hB7 XE7 XZ7 XG7 XO7 HK7
  have HU7 := HP.out.mono HK7.size
  have HS6 := hid hs6
  have HT6 := hid ht6
  have hl7 : B < w6.heap.size := heap_lt hB6
  have Keep := hid (show ∀ W', Below W7.heap.size W7 W' → W'.cell? ⟨B, 0, none⟩ = some (.string s) ∧ W'.cell? ⟨w.heap.size + 1, 0, none⟩ = some (.int .i64 a) ∧ W'.cell? ⟨w.heap.size + 1, 1, none⟩ = some (.int .i64 d) ∧ W'.cell? ⟨w.heap.size + 1, 2, none⟩ = some (.string t) from fun W' h => by
    obtain ⟨k0, _, k2, _⟩ := cells4 ((h.block B (heap_lt hB7)).trans hB7)
    obtain ⟨e0, e1, e2⟩ := cells3 ((h.block _ (heap_lt XE7)).trans XE7)
    exact ⟨k0, e0, e1, e2⟩)
  have NB := hid (show some B ≠ (Value.slice pr R.length cr).ownBlock ∧ some (w.heap.size + 1) ≠ (Value.slice pr R.length cr).ownBlock ∧ some w.heap.size ≠ (Value.slice pr R.length cr).ownBlock ∧ some g ≠ (Value.slice pr R.length cr).ownBlock from
    ⟨fun h => (HQ.out.2.2.1 B h.symm).2 rfl, fun h => by have := HRl.out _ h.symm; omega, fun h => by have := HRl.out _ h.symm; omega, fun h => HQ.out.2.2.2 g rfl h.symm⟩)
  have G8 := hid (show ∀ (y : World) (o : Obj) (w8 : World), Below W7.heap.size W7 y → (y.alloc o).grownBy w8 (Value.slice pr R.length cr).ownBlock → ∀ b, b < W7.heap.size → some b ≠ (Value.slice pr R.length cr).ownBlock → w8.heap[b]? = W7.heap[b]? from fun y o w8 h1 hg b hb hn =>
    (hg.block b (by have := h1.size; simp; omega) hn).trans ((h1.alloc h1.size o).block b hb))
  have KG := hid (show ∀ W' : World, W'.heap[B]? = W7.heap[B]? → W'.heap[w.heap.size + 1]? = W7.heap[w.heap.size + 1]? → W'.cell? ⟨B, 0, none⟩ = some (.string s) ∧ W'.cell? ⟨w.heap.size + 1, 0, none⟩ = some (.int .i64 a) ∧ W'.cell? ⟨w.heap.size + 1, 1, none⟩ = some (.int .i64 d) ∧ W'.cell? ⟨w.heap.size + 1, 2, none⟩ = some (.string t) from fun W' h h' => by
    obtain ⟨k0, _, k2, _⟩ := cells4 (h.trans hB7)
    obtain ⟨e0, e1, e2⟩ := cells3 (h'.trans XE7)
    exact ⟨k0, e0, e1, e2⟩)
  have K2 := hid (show ∀ W', Below W7.heap.size W7 W' → W'.cell? ⟨B, 2, none⟩ = some (.slice pr R.length cr) from fun W' h => (cells4 ((h.block B (heap_lt hB7)).trans hB7)).2.2.1)
  have HL7 := hid (And.intro (heap_lt hB7) (heap_lt XE7))
  have HB7 := hid hB7
  have HE7 := hid XE7
  have HZ7 := hid XZ7
  have HG7 := hid XG7
  have HO7 := hid XO7
  clear hW7 hB7 XE7 XZ7 XG7 XO7 hB6 XE6 XZ6 XO6 HK6 hg6 kp6 hs6 ht6 hne1 hne0 hgB hb5
  go_wp2_with fail
  rw [← HW7.out]
  clear c1 f1
  obtain ⟨⟨ia, id, it⟩, hx⟩ : ∃ x, x = inv s (a, d, t) := ⟨_, rfl⟩
  have HX := hid hx
  have Inv := hid (show ∀ y, Calls Try.prog 28 #[.string s, .agg #[.int .i64 a, .int .i64 d, .string t]] y fun e w' => e = .returned (.agg #[.int .i64 ia, .int .i64 id, .string it]) ∧ Below y.heap.size y w' from fun y => by
    refine (inverse_any s t a d y hs ht HF.out).mono ?_
    rintro e w' ⟨rfl, h⟩
    exact ⟨by rw [← hx]; rfl, h⟩)
  clear hx
  have hBE : w.heap.size + 1 ≠ B := by have := HBl.out; omega
  have Ef := hid (show ∀ j k : Nat, (⟨B, k, none⟩ : Addr) ≠ ⟨w.heap.size + 1, j, none⟩ from fun j k e => hBE (congrArg Addr.block e).symm)
  clear hBE
  have hRm : R.length + 1 ≤ maxLen := by unfold maxLen; omega
  refine region_till 11 (fun w' => w'.cell? ⟨B, 0, none⟩ = some (.string s) ∧ w'.cell? ⟨w.heap.size + 1, 0, none⟩ = some (.int .i64 a) ∧ w'.cell? ⟨w.heap.size + 1, 1, none⟩ = some (.int .i64 d) ∧ w'.cell? ⟨w.heap.size + 1, 2, none⟩ = some (.string t)) (fun w' => w'.cell? ⟨B, 2, none⟩ = some (.slice pr R.length cr)) (by kernel_rfl) ?_
  have hS := Keep.out _ (Below.refl _ W7).drew
  have hT := K2.out _ (Below.refl _ W7).drew
  refine takeS (i := 0) (d := 44) (oi := _) (v := ?v0) rfl rfl (by kernel_rfl) (by kernel_rfl) (by kernel_rfl) (by kernel_rfl) (fun _ _ _ h => h) (Or.inl ⟨by rfl, ?y0⟩) hS (fun _ => hT) ?r0
  case y0 => (intro w' hSw; (try dsimp only at hSw); go_simp; first | done | with_reducible rfl)
  simp only [List.setIfInBounds_toArray, List.set_cons_zero, List.set_cons_succ]
  refine takeS (i := 1) (d := 45) (oi := _) (v := ?v1) rfl rfl (by kernel_rfl) (by kernel_rfl) (by kernel_rfl) (by kernel_rfl) (fun _ _ _ h => h) (Or.inl ⟨by rfl, ?y1⟩) hS (fun _ => hT) ?r1
  case y1 => (intro w' hSw; (try dsimp only at hSw); go_simp; first | done | with_reducible rfl)
  simp only [List.setIfInBounds_toArray, List.set_cons_zero, List.set_cons_succ]
  refine takeS (i := 2) (d := 46) (oi := _) (v := ?v2) rfl rfl (by kernel_rfl) (by kernel_rfl) (by kernel_rfl) (by kernel_rfl) (fun _ _ _ h => h) (Or.inl ⟨by rfl, ?y2⟩) hS (fun _ => hT) ?r2
  case y2 => (intro w' hSw; (try dsimp only at hSw); go_simp; first | done | with_reducible rfl)
  simp only [List.setIfInBounds_toArray, List.set_cons_zero, List.set_cons_succ]
  refine takeT (i := 3) (d := 47) (oi := _) (v := ?v3) rfl rfl (by kernel_rfl) (by kernel_rfl) (by kernel_rfl) (by kernel_rfl) (by kernel_rfl) (by kernel_rfl) (fun _ _ _ h => h) (Or.inl ⟨by rfl, ?y3⟩) hS hT ?r3
  case y3 => (intro w' hSw; (try dsimp only at hSw); go_simp; first | done | with_reducible rfl)
  simp only [List.setIfInBounds_toArray, List.set_cons_zero, List.set_cons_succ]
  refine takeS (i := 4) (d := 48) (oi := _) (v := ?v4) rfl rfl (by kernel_rfl) (by kernel_rfl) (by kernel_rfl) (by kernel_rfl) (fun _ _ _ h => h) (Or.inl ⟨by rfl, ?y4⟩) hS (fun _ => hT) ?r4
  case y4 => (intro w' hSw; (try dsimp only at hSw); go_simp; first | done | with_reducible rfl)
  simp only [List.setIfInBounds_toArray, List.set_cons_zero, List.set_cons_succ]
  refine takeS (i := 5) (d := 49) (oi := _) (v := ?v5) rfl rfl (by kernel_rfl) (by kernel_rfl) (by kernel_rfl) (by kernel_rfl) (fun _ _ _ h => h) (Or.inl ⟨by rfl, ?y5⟩) hS (fun _ => hT) ?r5
  case y5 => (intro w' hSw; (try dsimp only at hSw); go_simp; first | done | with_reducible rfl)
  simp only [List.setIfInBounds_toArray, List.set_cons_zero, List.set_cons_succ]
  refine takeS (i := 6) (d := 50) (oi := _) (v := ?v6) rfl rfl (by kernel_rfl) (by kernel_rfl) (by kernel_rfl) (by kernel_rfl) (fun _ _ _ h => h) (Or.inl ⟨by rfl, ?y6⟩) hS (fun _ => hT) ?r6
  case y6 => (intro w' hSw; (try dsimp only at hSw); go_simp; first | done | with_reducible rfl)
  simp only [List.setIfInBounds_toArray, List.set_cons_zero, List.set_cons_succ]
  refine takeS (i := 7) (d := 51) (oi := _) (v := ?v7) rfl rfl (by kernel_rfl) (by kernel_rfl) (by kernel_rfl) (by kernel_rfl) (fun _ _ _ h => h) (Or.inl ⟨by rfl, ?y7⟩) hS (fun _ => hT) ?r7
  case y7 => (intro w' hSw; (try dsimp only at hSw); go_simp; first | done | with_reducible rfl)
  simp only [List.setIfInBounds_toArray, List.set_cons_zero, List.set_cons_succ]
  refine takeS (i := 8) (d := 52) (oi := _) (v := ?v8) rfl rfl (by kernel_rfl) (by kernel_rfl) (by kernel_rfl) (by kernel_rfl) (fun _ _ _ h => h) (Or.inl ⟨by rfl, ?y8⟩) hS (fun _ => hT) ?r8
  case y8 => (intro w' hSw; (try dsimp only at hSw); go_simp; first | done | with_reducible rfl)
  simp only [List.setIfInBounds_toArray, List.set_cons_zero, List.set_cons_succ]
  refine carryT (i := 9) (oi := _) rfl (by kernel_rfl) (fun K hK => ?_)
  go_simp
  refine (Inv.out _).mono ?_
  rintro e y ⟨rfl, by1⟩
  have h1 : Below W7.heap.size W7 y := (Below.refl _ W7).drew.trans (by1.mono (Nat.le_refl _))
  clear hS hT
  have hS := Keep.out _ h1
  have hT := K2.out _ h1
  refine hK.out _ _ ⟨hS, fun _ => hT⟩ ?_
  clear hK K
  (try simp only [Act.put, List.setIfInBounds_toArray, List.set_cons_zero, List.set_cons_succ])
  refine carryT (i := 10) (oi := _) rfl (by kernel_rfl) (fun K hK => ?_)
  go_simp
  clear hS hT
  have hS := Keep.out _ (h1.alloc h1.size (.cells #[.int .i64 ia, .int .i64 id, .string it] 31))
  have hT := K2.out _ (h1.alloc h1.size (.cells #[.int .i64 ia, .int .i64 id, .string it] 31))
  refine hK.out _ _ ⟨hS, fun _ => hT⟩ ?_
  clear hK K
  (try simp only [Act.put, List.setIfInBounds_toArray, List.set_cons_zero, List.set_cons_succ])
  refine carryT (i := 11) (oi := _) rfl (by kernel_rfl) (fun K hK => ?_)
  refine step_append_lies _ (by rfl) (.tmp 47) (.tmp 54) 27 (by rfl) 0 31 i0 _ 3 32 Try.underlying27 hi hz0 hz1 hz2 (by rfl) (by decide) (.slice pr R.length cr) R.length (ev R.reverse) (by rfl) (ownsRow_keep HO7.out fun k hk => (h1.alloc h1.size _).block k (HO7.out.lt k hk).2) ⟨y.heap.size, 0, none⟩ 1 1 [.int .i64 ia, .int .i64 id, .string it] (by rfl) (by rfl) (World.news_of_block (alloc_new _ _)) (by intro u hu; simp at hu; rcases hu with rfl | rfl | rfl <;> rfl) (by decide) hRm (by omega) (Nat.zero_le _) _ rfl ?_
  intro g' cap' w8 hown8 hgrow8 hat8 hlt8
  have hB8 := (G8.out _ _ _ h1 hgrow8 _ HL7.out.1 NB.out.1).trans HB7.out
  obtain ⟨_, _, k2', _⟩ := cells4 hB8
  obtain ⟨_, _, f2', _⟩ := cells4' hB8
  clear hS hT
  have hS := KG.out _ (G8.out _ _ _ h1 hgrow8 _ HL7.out.1 NB.out.1) (G8.out _ _ _ h1 hgrow8 _ HL7.out.2 NB.out.2.1)
  refine hK.out _ _ ⟨hS, fun h => by simp at h⟩ ?_
  clear hK K
  (try simp only [Act.put, List.setIfInBounds_toArray, List.set_cons_zero, List.set_cons_succ])
  refine takeS (i := 12) (d := 56) (oi := _) (v := ?v12) rfl rfl (by kernel_rfl) (by kernel_rfl) (by kernel_rfl) (by kernel_rfl) (fun _ _ _ h => h) (Or.inl ⟨by rfl, ?y12⟩) hS (fun h => by simp at h) ?r12
  case y12 => (intro w' hSw; (try dsimp only at hSw); go_simp; first | done | with_reducible rfl)
  simp only [List.setIfInBounds_toArray, List.set_cons_zero, List.set_cons_succ]
  refine carryT (i := 13) (oi := _) rfl (by kernel_rfl) (fun K hK => ?_)
  go_simp
  refine hK.out _ _ ⟨⟨(World.cell?_setCell_other _ _ _ _ (by simp)).trans hS.1, (World.cell?_setCell_other _ _ _ _ (Ef.out _ _)).trans hS.2.1, (World.cell?_setCell_other _ _ _ _ (Ef.out _ _)).trans hS.2.2.1, (World.cell?_setCell_other _ _ _ _ (Ef.out _ _)).trans hS.2.2.2⟩, fun h => by simp at h⟩ ?_
  clear hK K hS
  (try simp only [Act.put, List.setIfInBounds_toArray, List.set_cons_zero, List.set_cons_succ])
  refine wpAnyT_done (by kernel_rfl) ?_ _
  all_goals
    have hE8 := (G8.out _ _ _ h1 hgrow8 _ HL7.out.2 NB.out.2.1).trans HE7.out
    have hZ8 := (G8.out _ _ _ h1 hgrow8 _ (heap_lt HZ7.out) NB.out.2.2.1).trans HZ7.out
    have hG8 := (G8.out _ _ _ h1 hgrow8 _ (heap_lt HG7.out) NB.out.2.2.2).trans HG7.out
    have HK8 : Kept F w w8 := (HK7.trans (Kept.below (h1.alloc h1.size _) HU7)).grown hgrow8 (HU7.mono (h1.alloc h1.size _).size) (fun k hk => (HQ.out.2.2.1 k hk).1)
    have hgB : g ≠ B := (HQ.out.2.1 g rfl).2
    have hg'F : F g' ∧ g' ≠ B ∧ g' ≠ g ∧ g' ≠ w.heap.size ∧ g' ≠ w.heap.size + 1 := by
      rcases hat8 with h | h
      · exact ⟨(HQ.out.2.2.1 g' h).1, (HQ.out.2.2.1 g' h).2, fun e => HQ.out.2.2.2 g rfl (by rw [h, e]), by have := HRl.out _ h; omega, by have := HRl.out _ h; omega⟩
      · have h2 : W7.heap.size ≤ g' := by rw [h]; exact (h1.alloc h1.size _).size
        have h3 := heap_lt HZ7.out
        have h4 := heap_lt HE7.out
        exact ⟨HU7 g' h2, by have := HL7.out.1; omega, by have := heap_lt HG7.out; omega, by omega, by omega⟩
    have hB9 : (w8.setCell ⟨B, 2, none⟩ (.slice (some ⟨g', 0, none⟩) (R.length + 1) cap')).heap[B]? = some (.cells #[.string s, .slice (some ⟨g, 0, none⟩) n cap, .slice (some ⟨g', 0, none⟩) (R.length + 1) cap', .int .i64 (v : Int)] 53 (0, 0)) := blk_put hB8
    have hne1 : w.heap.size + 1 ≠ B := by have := HBl.out; omega
    have hne0 : w.heap.size ≠ B := by have := HBl.out; omega
    have HE9 := hid (blk_set (a := ⟨B, 2, none⟩) (v := .slice (some ⟨g', 0, none⟩) (R.length + 1) cap') hE8 hne1)
    have HZ9 := hid (blk_set (a := ⟨B, 2, none⟩) (v := .slice (some ⟨g', 0, none⟩) (R.length + 1) cap') hZ8 hne0)
    have HG9 := hid (blk_set (a := ⟨B, 2, none⟩) (v := .slice (some ⟨g', 0, none⟩) (R.length + 1) cap') hG8 hgB)
    have HO9 := hid (ownsRow_keep hown8 (w' := w8.setCell ⟨B, 2, none⟩ (.slice (some ⟨g', 0, none⟩) (R.length + 1) cap')) fun k hk => heap_setCell_other _ _ _ _ (by
      simp only [Value.ownBlock, Option.some.injEq] at hk
      rw [← hk]; exact hg'F.2.1))
    have HK9 := HK8.setCell (p := ⟨B, 2, none⟩) HQ.out.1 (.slice (some ⟨g', 0, none⟩) (R.length + 1) cap')
    obtain ⟨W9, hW9⟩ : ∃ W9, W9 = w8.setCell ⟨B, 2, none⟩ (.slice (some ⟨g', 0, none⟩) (R.length + 1) cap') := ⟨_, rfl⟩
    rw [← hW9] at hB9 HE9 HZ9 HG9 HO9 HK9 ⊢
    have HB9 := hid hB9
    have HFg := hid hg'F
    clear hW9 hB9 hE8 hZ8 hG8 HK8 hgB hg'F hne1 hne0 hB8 k2' f2' hown8 hgrow8 hat8 hlt8 h1
    go_wp2_with fail
    refine (become_any B s (ap s (a, d, t)) _ _ v W9 HB9.out hv).mono ?_
    rintro e wA ⟨rfl, hBA, kpA⟩
    have XE := (kpA.block (w.heap.size + 1) (by have := HBl.out; omega)).trans HE9.out
    have XZ := (kpA.block w.heap.size (by have := HBl.out; omega)).trans HZ9.out
    have XGA := (kpA.block g (HQ.out.2.1 g rfl).2).trans HG9.out
    have XOA := ownsRow_keep HO9.out (w' := wA) fun k hk => kpA.block k (by
      simp only [Value.ownBlock, Option.some.injEq] at hk
      rw [← hk]; exact HFg.out.2.1)
    have HKA := HK9.trans (kpA.mono fun b hb => by rw [hb]; exact HQ.out.1)
    obtain ⟨e0, e1, e2⟩ := cells3 XE
    obtain ⟨z0, z1, z2⟩ := cells3 XZ
    obtain ⟨q0, q1, q2⟩ := frozen3 XZ
    have hzl := heap_lt XZ
    have HBA := hid hBA
    have HGA := hid XGA
    have HOA := hid XOA
    have HKA' := hid HKA
    clear hBA XE XZ XGA XOA HKA kpA
    go_wp2
    refine bodyPost_ret (v := .tuple #[.agg #[.int .i64 a, .int .i64 d, .string t], .int .i64 0]) ?_ rfl ⟨rfl, ?_, ?_⟩
    · simp [results, Try.results30, go_sem, z0, z1, z2]
    · have far : ∀ b, b ≠ w.heap.size → (((wA.setCell ⟨w.heap.size, 0, none⟩ (.int .i64 a)).setCell ⟨w.heap.size, 1, none⟩ (.int .i64 d)).setCell ⟨w.heap.size, 2, none⟩ (.string t)).heap[b]? = wA.heap[b]? := fun b hb => by
        rw [heap_setCell_other _ _ _ _ hb, heap_setCell_other _ _ _ _ hb, heap_setCell_other _ _ _ _ hb]
      have hBZ := (far B (by have := HBl.out; omega)).trans HBA.out
      have rowF : (((wA.setCell ⟨w.heap.size, 0, none⟩ (.int .i64 a)).setCell ⟨w.heap.size, 1, none⟩ (.int .i64 d)).setCell ⟨w.heap.size, 2, none⟩ (.string t)).ownsRow 0 31 3 (.slice (some ⟨g, 0, none⟩) n cap) U.length (ev U.reverse) := by
        rw [← HU.out]
        exact ⟨by rw [ev_length, List.length_reverse, ← HU.out], .inr ⟨g, cap, cur', rfl, Nat.zero_le _, (far g (by have := HGl.out; omega)).trans HGA.out, by have := HN.out.1; omega, HN.out.2, by rw [HS6.out, HCS.out], by rw [HT6.out, HCT.out]⟩⟩
      have rowT : (((wA.setCell ⟨w.heap.size, 0, none⟩ (.int .i64 a)).setCell ⟨w.heap.size, 1, none⟩ (.int .i64 d)).setCell ⟨w.heap.size, 2, none⟩ (.string t)).ownsRow 0 31 3 (.slice (some ⟨g', 0, none⟩) (R.length + 1) cap') (inv s (a, d, t) :: R).length (ev (inv s (a, d, t) :: R).reverse) := by
        have := ownsRow_keep HOA.out (w' := (((wA.setCell ⟨w.heap.size, 0, none⟩ (.int .i64 a)).setCell ⟨w.heap.size, 1, none⟩ (.int .i64 d)).setCell ⟨w.heap.size, 2, none⟩ (.string t))) fun k hk => by
          simp only [Value.ownBlock, Option.some.injEq] at hk
          rw [← hk]; exact far g' HFg.out.2.2.2.1
        rw [← HX.out, List.reverse_cons, ev_app, ev_one]
        simpa using this
      have fT : ∀ k, (Value.slice (some ⟨g', 0, none⟩) (R.length + 1) cap').ownBlock = some k → F k ∧ k ≠ B := by
        intro k hk
        simp only [Value.ownBlock, Option.some.injEq] at hk
        rw [← hk]; exact ⟨HFg.out.1, HFg.out.2.1⟩
      have nn : ∀ k, (Value.slice (some ⟨g, 0, none⟩) n cap).ownBlock = some k → (Value.slice (some ⟨g', 0, none⟩) (R.length + 1) cap').ownBlock ≠ some k := by
        intro k hk hk'
        simp only [Value.ownBlock, Option.some.injEq] at hk hk'
        exact HFg.out.2.2.1 (by rw [hk', hk])
      exact ⟨.slice (some ⟨g, 0, none⟩) n cap, .slice (some ⟨g', 0, none⟩) (R.length + 1) cap', hBZ, rowF, rowT, HQ.out.1, HQ.out.2.1, fT, nn⟩
    · refine ((HKA'.out.setCell ?_ _).setCell ?_ _).setCell ?_ _ <;> exact HP.out _ (Nat.le_refl _)
set_option maxRecDepth 100000 in
set_option maxHeartbeats 4000000 in
theorem turn21_yes (F : Nat → Prop) (w : World) (B : Nat) (s : ByteArray) (a d : Int) (t : ByteArray) (U R : List Ed) (v : Nat) (h : Hist F w B s R ((a, d, t) :: U) v) (hup : Up F w) (hf : Fit s.size (a, d, t)) (hs : s.size ≤ 1000000) (ht : t.size ≤ 1000000) (hv : v ≤ 1000000) (hU : U.length ≤ 1000000) (hR : R.length ≤ 1000000) :
    Calls Try.prog 30 #[.pointer (some ⟨B, 0, none⟩), .pointer (some ⟨B, 2, none⟩), .pointer (some ⟨B, 1, none⟩)] w fun e w' => e = .returned (.tuple #[.agg #[.int .i64 a, .int .i64 d, .string t], .int .i64 0]) ∧ Hist F w' B (ap s (a, d, t)) (inv s (a, d, t) :: R) U (v + 1) ∧ Kept F w w' := by
  obtain ⟨i0, hi, hz0, hz1, hz2⟩ := info_parts Try.info31
  obtain ⟨vr, vu, hB, hr1, hu1, hFB, hFr, hFu, hne0⟩ := h
  have hne : ∀ k, vu.ownBlock = some k → vr.ownBlock ≠ some k := fun k h h' => hne0 k h' h
  clear hne0
  obtain ⟨g, cap, cur, rfl, hg, hn, hm, hcs, hct, x0, x1, x2⟩ := own_top hu1
  obtain ⟨pr, cr, rfl⟩ := own_form hr1
  obtain ⟨n, hnU⟩ : ∃ n, n = U.length := ⟨_, rfl⟩
  rw [← hnU] at hB hn hct x0 x1 x2 hFu hne
  have HF := hid hf
  obtain ⟨W1, hW1⟩ : ∃ W1, W1 = w.alloc (.cells #[.int .i64 0, .int .i64 0, .string { data := #[] }] 31) := ⟨_, rfl⟩
  have b1 : Below w.heap.size w W1 := by rw [hW1]; exact (Below.refl _ _).alloc (Nat.le_refl _) _
  have hz := show W1.heap[w.heap.size]? = some (.cells #[.int .i64 0, .int .i64 0, .string { data := #[] }] 31 (0, 0)) by rw [hW1]; exact alloc_new _ _
  have hsz1 := show W1.heap.size = w.heap.size + 1 by rw [hW1]; simp
  have hgl := heap_lt hg
  have hBl := heap_lt hB
  have y0 := (b1.cell (p := ⟨g, n * 3, none⟩) hgl).trans x0
  have y1 := (b1.cell (p := ⟨g, n * 3 + 1, none⟩) hgl).trans x1
  have y2 := (b1.cell (p := ⟨g, n * 3 + 2, none⟩) hgl).trans x2
  obtain ⟨_, _, c1, _⟩ := cells4 ((b1.block _ hBl).trans hB)
  obtain ⟨W, hW⟩ : ∃ W, W = W1.alloc (.cells #[.int .i64 a, .int .i64 d, .string t] 31) := ⟨_, rfl⟩
  have bW : Below w.heap.size w W := by rw [hW]; exact b1.alloc b1.size _
  have hsz := show W.heap.size = w.heap.size + 2 by rw [hW]; simp; omega
  have XZ := hid (show W.heap[w.heap.size]? = some (.cells #[.int .i64 0, .int .i64 0, .string { data := #[] }] 31 (0, 0)) by rw [hW]; exact blk_alloc hz)
  have XE := hid (show W.heap[w.heap.size + 1]? = some (.cells #[.int .i64 a, .int .i64 d, .string t] 31 (0, 0)) by rw [hW]; exact alloc_at _ _ (by omega))
  have XB := hid ((bW.block _ hBl).trans hB)
  have XG := hid ((bW.block _ hgl).trans hg)
  have XO := hid (ownsRow_keep hr1 fun k hk => bW.block k (hr1.lt k hk).2)
  rw [hW1] at y0 y1 y2 c1
  have HW := hid (show W = (w.alloc (.cells #[.int .i64 0, .int .i64 0, .string { data := #[] }] 31)).alloc (.cells #[.int .i64 a, .int .i64 d, .string t] 31) by rw [hW, hW1])
  have HGl := hid hgl
  have HBl := hid hBl
  have HCT := hid hct
  have HCS := hid hcs
  have HN := hid (And.intro hn hm)
  have HU := hid hnU
  have HP := hid hup
  have HSZ := hid hsz
  have HQ := hid (And.intro hFB (And.intro hFu (And.intro hFr hne)))
  have HRl := hid (fun k (hk : (Value.slice pr R.length cr).ownBlock = some k) => (hr1.lt k hk).2)
  have hn0 : (0 : Int) ≤ (n : Int) := by omega
  have hn9 : (n : Int) ≤ 1000000 := by omega
  clear hf hW hW1 hB hg hct hcs hn hm hnU hr1 hup hFB hFu hFr hne x0 x1 x2 hu1 hgl hBl b1 hsz hsz1 hz
  go_enter Try.func30, Try.ntmps30
  go_wp2_with fail
  rw [← HW.out]
  clear y0 y1 y2 c1
  refine wp_region_below (by kernel_rfl) (by kernel_rfl) ?_
  intro X f _ hfx hsf
  have k0 : ∀ x, (f x).cell? ⟨B, 0, none⟩ = some (.string s) := fun x => (cells4 (((hfx.out x).block B (by have := HBl.out; have := HSZ.out; omega)).trans XB.out)).1
  have e0 : ∀ x, (f x).cell? ⟨w.heap.size + 1, 0, none⟩ = some (.int .i64 a) := fun x => (cells3 (((hfx.out x).block _ (heap_lt XE.out)).trans XE.out)).1
  have e1 : ∀ x, (f x).cell? ⟨w.heap.size + 1, 1, none⟩ = some (.int .i64 d) := fun x => (cells3 (((hfx.out x).block _ (heap_lt XE.out)).trans XE.out)).2.1
  have e2 : ∀ x, (f x).cell? ⟨w.heap.size + 1, 2, none⟩ = some (.string t) := fun x => (cells3 (((hfx.out x).block _ (heap_lt XE.out)).trans XE.out)).2.2
  repeat (go_big_quiet_step (first | (go_at_call 27; exact calls_below hfx hsf (apply_yes _ _ _ _ _ hs ht HF.out))))
  refine wpQuiet_nil ?_
  intro w5 hb5
  clear k0 e0 e1 e2 hfx hsf
  have hB5 := (hb5.block B (by have := HBl.out; have := HSZ.out; omega)).trans XB.out
  have hG5 := (hb5.block g (by have := HGl.out; have := HSZ.out; omega)).trans XG.out
  obtain ⟨_, _, c1, _⟩ := cells4 hB5
  have HB5 := hid hB5
  have HG5 := hid hG5
  clear hB5 hG5
  go_wp2_with fail
  clear c1
  have hgB : g ≠ B := (HQ.out.2.1 g rfl).2
  refine (delete_any g n cap cur w5 HG5.out HN.out.1 (by have := HN.out.2; unfold maxLen at this; omega) HCS.out).mono ?_
  rintro e w6 ⟨rfl, ⟨cur', hg6, hs6, ht6⟩, kp6⟩
  have hB6 := (kp6.block B (fun e => hgB e.symm)).trans HB5.out
  obtain ⟨_, _, c1, _⟩ := cells4 hB6
  obtain ⟨_, _, f1, _⟩ := cells4' hB6
  have XE6 := (kp6.block (w.heap.size + 1) (by have := HGl.out; omega)).trans ((hb5.block _ (heap_lt XE.out)).trans XE.out)
  have XZ6 := (kp6.block w.heap.size (by have := HGl.out; omega)).trans ((hb5.block _ (heap_lt XZ.out)).trans XZ.out)
  have XO6 : w6.ownsRow 0 31 3 (.slice pr R.length cr) R.length (ev R.reverse) := ownsRow_keep XO.out fun k hk => by
    have h1 := HRl.out k hk
    have h2 : k ≠ g := fun e => HQ.out.2.2.2 g rfl (by rw [hk, e])
    exact (kp6.block k h2).trans (hb5.block k (by have := HSZ.out; omega))
  have HK6 : Kept F w w6 := ((Kept.below bW HP.out).trans (Kept.below hb5 (HP.out.mono bW.size))).trans (kp6.mono fun b hb => by rw [hb]; exact (HQ.out.2.1 g rfl).1)
  have hB7 : (w6.setCell ⟨B, 2, none⟩ (.slice (some ⟨g, 0, none⟩) n cap)).heap[B]? = some (.cells #[.string s, .slice pr R.length cr, .slice (some ⟨g, 0, none⟩) n cap, .int .i64 (v : Int)] 53 (0, 0)) := blk_put hB6
  have hne1 : w.heap.size + 1 ≠ B := by have := HBl.out; omega
  have hne0 : w.heap.size ≠ B := by have := HBl.out; omega
  have XE7 := blk_set (a := ⟨B, 2, none⟩) (v := .slice (some ⟨g, 0, none⟩) n cap) XE6 hne1
  have XZ7 := blk_set (a := ⟨B, 2, none⟩) (v := .slice (some ⟨g, 0, none⟩) n cap) XZ6 hne0
  have XG7 := blk_set (a := ⟨B, 2, none⟩) (v := .slice (some ⟨g, 0, none⟩) n cap) hg6 hgB
  have XO7 : (w6.setCell ⟨B, 2, none⟩ (.slice (some ⟨g, 0, none⟩) n cap)).ownsRow 0 31 3 (.slice pr R.length cr) R.length (ev R.reverse) := ownsRow_keep XO6 fun k hk => heap_setCell_other _ _ _ _ (HQ.out.2.2.1 k hk).2
  have HK7 : Kept F w (w6.setCell ⟨B, 2, none⟩ (.slice (some ⟨g, 0, none⟩) n cap)) := HK6.setCell HQ.out.1 _
  obtain ⟨W7, hW7⟩ : ∃ W7, W7 = w6.setCell ⟨B, 2, none⟩ (.slice (some ⟨g, 0, none⟩) n cap) := ⟨_, rfl⟩
  have HW7 := hid hW7
  rw [← hW7] at hB7 XE7 XZ7 XG7 XO7 HK7
  have HU7 := HP.out.mono HK7.size
  have HS6 := hid hs6
  have HT6 := hid ht6
  have hl7 : B < w6.heap.size := heap_lt hB6
  have Keep := hid (show ∀ W', Below W7.heap.size W7 W' → W'.cell? ⟨B, 0, none⟩ = some (.string s) ∧ W'.cell? ⟨w.heap.size + 1, 0, none⟩ = some (.int .i64 a) ∧ W'.cell? ⟨w.heap.size + 1, 1, none⟩ = some (.int .i64 d) ∧ W'.cell? ⟨w.heap.size + 1, 2, none⟩ = some (.string t) from fun W' h => by
    obtain ⟨k0, _, k2, _⟩ := cells4 ((h.block B (heap_lt hB7)).trans hB7)
    obtain ⟨e0, e1, e2⟩ := cells3 ((h.block _ (heap_lt XE7)).trans XE7)
    exact ⟨k0, e0, e1, e2⟩)
  have NB := hid (show some B ≠ (Value.slice pr R.length cr).ownBlock ∧ some (w.heap.size + 1) ≠ (Value.slice pr R.length cr).ownBlock ∧ some w.heap.size ≠ (Value.slice pr R.length cr).ownBlock ∧ some g ≠ (Value.slice pr R.length cr).ownBlock from
    ⟨fun h => (HQ.out.2.2.1 B h.symm).2 rfl, fun h => by have := HRl.out _ h.symm; omega, fun h => by have := HRl.out _ h.symm; omega, fun h => HQ.out.2.2.2 g rfl h.symm⟩)
  have G8 := hid (show ∀ (y : World) (o : Obj) (w8 : World), Below W7.heap.size W7 y → (y.alloc o).grownBy w8 (Value.slice pr R.length cr).ownBlock → ∀ b, b < W7.heap.size → some b ≠ (Value.slice pr R.length cr).ownBlock → w8.heap[b]? = W7.heap[b]? from fun y o w8 h1 hg b hb hn =>
    (hg.block b (by have := h1.size; simp; omega) hn).trans ((h1.alloc h1.size o).block b hb))
  have KG := hid (show ∀ W' : World, W'.heap[B]? = W7.heap[B]? → W'.heap[w.heap.size + 1]? = W7.heap[w.heap.size + 1]? → W'.cell? ⟨B, 0, none⟩ = some (.string s) ∧ W'.cell? ⟨w.heap.size + 1, 0, none⟩ = some (.int .i64 a) ∧ W'.cell? ⟨w.heap.size + 1, 1, none⟩ = some (.int .i64 d) ∧ W'.cell? ⟨w.heap.size + 1, 2, none⟩ = some (.string t) from fun W' h h' => by
    obtain ⟨k0, _, k2, _⟩ := cells4 (h.trans hB7)
    obtain ⟨e0, e1, e2⟩ := cells3 (h'.trans XE7)
    exact ⟨k0, e0, e1, e2⟩)
  have K2 := hid (show ∀ W', Below W7.heap.size W7 W' → W'.cell? ⟨B, 1, none⟩ = some (.slice pr R.length cr) from fun W' h => (cells4 ((h.block B (heap_lt hB7)).trans hB7)).2.1)
  have HL7 := hid (And.intro (heap_lt hB7) (heap_lt XE7))
  have HB7 := hid hB7
  have HE7 := hid XE7
  have HZ7 := hid XZ7
  have HG7 := hid XG7
  have HO7 := hid XO7
  clear hW7 hB7 XE7 XZ7 XG7 XO7 hB6 XE6 XZ6 XO6 HK6 hg6 kp6 hs6 ht6 hne1 hne0 hgB hb5
  go_wp2_with fail
  rw [← HW7.out]
  clear c1 f1
  obtain ⟨⟨ia, id, it⟩, hx⟩ : ∃ x, x = inv s (a, d, t) := ⟨_, rfl⟩
  have HX := hid hx
  have Inv := hid (show ∀ y, Calls Try.prog 28 #[.string s, .agg #[.int .i64 a, .int .i64 d, .string t]] y fun e w' => e = .returned (.agg #[.int .i64 ia, .int .i64 id, .string it]) ∧ Below y.heap.size y w' from fun y => by
    refine (inverse_any s t a d y hs ht HF.out).mono ?_
    rintro e w' ⟨rfl, h⟩
    exact ⟨by rw [← hx]; rfl, h⟩)
  clear hx
  have hBE : w.heap.size + 1 ≠ B := by have := HBl.out; omega
  have Ef := hid (show ∀ j k : Nat, (⟨B, k, none⟩ : Addr) ≠ ⟨w.heap.size + 1, j, none⟩ from fun j k e => hBE (congrArg Addr.block e).symm)
  clear hBE
  have hRm : R.length + 1 ≤ maxLen := by unfold maxLen; omega
  refine region_till 11 (fun w' => w'.cell? ⟨B, 0, none⟩ = some (.string s) ∧ w'.cell? ⟨w.heap.size + 1, 0, none⟩ = some (.int .i64 a) ∧ w'.cell? ⟨w.heap.size + 1, 1, none⟩ = some (.int .i64 d) ∧ w'.cell? ⟨w.heap.size + 1, 2, none⟩ = some (.string t)) (fun w' => w'.cell? ⟨B, 1, none⟩ = some (.slice pr R.length cr)) (by kernel_rfl) ?_
  have hS := Keep.out _ (Below.refl _ W7).drew
  have hT := K2.out _ (Below.refl _ W7).drew
  refine takeS (i := 0) (d := 44) (oi := _) (v := ?v0) rfl rfl (by kernel_rfl) (by kernel_rfl) (by kernel_rfl) (by kernel_rfl) (fun _ _ _ h => h) (Or.inl ⟨by rfl, ?y0⟩) hS (fun _ => hT) ?r0
  case y0 => (intro w' hSw; (try dsimp only at hSw); go_simp; first | done | with_reducible rfl)
  simp only [List.setIfInBounds_toArray, List.set_cons_zero, List.set_cons_succ]
  refine takeS (i := 1) (d := 45) (oi := _) (v := ?v1) rfl rfl (by kernel_rfl) (by kernel_rfl) (by kernel_rfl) (by kernel_rfl) (fun _ _ _ h => h) (Or.inl ⟨by rfl, ?y1⟩) hS (fun _ => hT) ?r1
  case y1 => (intro w' hSw; (try dsimp only at hSw); go_simp; first | done | with_reducible rfl)
  simp only [List.setIfInBounds_toArray, List.set_cons_zero, List.set_cons_succ]
  refine takeS (i := 2) (d := 46) (oi := _) (v := ?v2) rfl rfl (by kernel_rfl) (by kernel_rfl) (by kernel_rfl) (by kernel_rfl) (fun _ _ _ h => h) (Or.inl ⟨by rfl, ?y2⟩) hS (fun _ => hT) ?r2
  case y2 => (intro w' hSw; (try dsimp only at hSw); go_simp; first | done | with_reducible rfl)
  simp only [List.setIfInBounds_toArray, List.set_cons_zero, List.set_cons_succ]
  refine takeT (i := 3) (d := 47) (oi := _) (v := ?v3) rfl rfl (by kernel_rfl) (by kernel_rfl) (by kernel_rfl) (by kernel_rfl) (by kernel_rfl) (by kernel_rfl) (fun _ _ _ h => h) (Or.inl ⟨by rfl, ?y3⟩) hS hT ?r3
  case y3 => (intro w' hSw; (try dsimp only at hSw); go_simp; first | done | with_reducible rfl)
  simp only [List.setIfInBounds_toArray, List.set_cons_zero, List.set_cons_succ]
  refine takeS (i := 4) (d := 48) (oi := _) (v := ?v4) rfl rfl (by kernel_rfl) (by kernel_rfl) (by kernel_rfl) (by kernel_rfl) (fun _ _ _ h => h) (Or.inl ⟨by rfl, ?y4⟩) hS (fun _ => hT) ?r4
  case y4 => (intro w' hSw; (try dsimp only at hSw); go_simp; first | done | with_reducible rfl)
  simp only [List.setIfInBounds_toArray, List.set_cons_zero, List.set_cons_succ]
  refine takeS (i := 5) (d := 49) (oi := _) (v := ?v5) rfl rfl (by kernel_rfl) (by kernel_rfl) (by kernel_rfl) (by kernel_rfl) (fun _ _ _ h => h) (Or.inl ⟨by rfl, ?y5⟩) hS (fun _ => hT) ?r5
  case y5 => (intro w' hSw; (try dsimp only at hSw); go_simp; first | done | with_reducible rfl)
  simp only [List.setIfInBounds_toArray, List.set_cons_zero, List.set_cons_succ]
  refine takeS (i := 6) (d := 50) (oi := _) (v := ?v6) rfl rfl (by kernel_rfl) (by kernel_rfl) (by kernel_rfl) (by kernel_rfl) (fun _ _ _ h => h) (Or.inl ⟨by rfl, ?y6⟩) hS (fun _ => hT) ?r6
  case y6 => (intro w' hSw; (try dsimp only at hSw); go_simp; first | done | with_reducible rfl)
  simp only [List.setIfInBounds_toArray, List.set_cons_zero, List.set_cons_succ]
  refine takeS (i := 7) (d := 51) (oi := _) (v := ?v7) rfl rfl (by kernel_rfl) (by kernel_rfl) (by kernel_rfl) (by kernel_rfl) (fun _ _ _ h => h) (Or.inl ⟨by rfl, ?y7⟩) hS (fun _ => hT) ?r7
  case y7 => (intro w' hSw; (try dsimp only at hSw); go_simp; first | done | with_reducible rfl)
  simp only [List.setIfInBounds_toArray, List.set_cons_zero, List.set_cons_succ]
  refine takeS (i := 8) (d := 52) (oi := _) (v := ?v8) rfl rfl (by kernel_rfl) (by kernel_rfl) (by kernel_rfl) (by kernel_rfl) (fun _ _ _ h => h) (Or.inl ⟨by rfl, ?y8⟩) hS (fun _ => hT) ?r8
  case y8 => (intro w' hSw; (try dsimp only at hSw); go_simp; first | done | with_reducible rfl)
  simp only [List.setIfInBounds_toArray, List.set_cons_zero, List.set_cons_succ]
  refine carryT (i := 9) (oi := _) rfl (by kernel_rfl) (fun K hK => ?_)
  go_simp
  refine (Inv.out _).mono ?_
  rintro e y ⟨rfl, by1⟩
  have h1 : Below W7.heap.size W7 y := (Below.refl _ W7).drew.trans (by1.mono (Nat.le_refl _))
  clear hS hT
  have hS := Keep.out _ h1
  have hT := K2.out _ h1
  refine hK.out _ _ ⟨hS, fun _ => hT⟩ ?_
  clear hK K
  (try simp only [Act.put, List.setIfInBounds_toArray, List.set_cons_zero, List.set_cons_succ])
  refine carryT (i := 10) (oi := _) rfl (by kernel_rfl) (fun K hK => ?_)
  go_simp
  clear hS hT
  have hS := Keep.out _ (h1.alloc h1.size (.cells #[.int .i64 ia, .int .i64 id, .string it] 31))
  have hT := K2.out _ (h1.alloc h1.size (.cells #[.int .i64 ia, .int .i64 id, .string it] 31))
  refine hK.out _ _ ⟨hS, fun _ => hT⟩ ?_
  clear hK K
  (try simp only [Act.put, List.setIfInBounds_toArray, List.set_cons_zero, List.set_cons_succ])
  refine carryT (i := 11) (oi := _) rfl (by kernel_rfl) (fun K hK => ?_)
  refine step_append_lies _ (by rfl) (.tmp 47) (.tmp 54) 27 (by rfl) 0 31 i0 _ 3 32 Try.underlying27 hi hz0 hz1 hz2 (by rfl) (by decide) (.slice pr R.length cr) R.length (ev R.reverse) (by rfl) (ownsRow_keep HO7.out fun k hk => (h1.alloc h1.size _).block k (HO7.out.lt k hk).2) ⟨y.heap.size, 0, none⟩ 1 1 [.int .i64 ia, .int .i64 id, .string it] (by rfl) (by rfl) (World.news_of_block (alloc_new _ _)) (by intro u hu; simp at hu; rcases hu with rfl | rfl | rfl <;> rfl) (by decide) hRm (by omega) (Nat.zero_le _) _ rfl ?_
  intro g' cap' w8 hown8 hgrow8 hat8 hlt8
  have hB8 := (G8.out _ _ _ h1 hgrow8 _ HL7.out.1 NB.out.1).trans HB7.out
  obtain ⟨_, k2', _, _⟩ := cells4 hB8
  obtain ⟨_, f2', _, _⟩ := cells4' hB8
  clear hS hT
  have hS := KG.out _ (G8.out _ _ _ h1 hgrow8 _ HL7.out.1 NB.out.1) (G8.out _ _ _ h1 hgrow8 _ HL7.out.2 NB.out.2.1)
  refine hK.out _ _ ⟨hS, fun h => by simp at h⟩ ?_
  clear hK K
  (try simp only [Act.put, List.setIfInBounds_toArray, List.set_cons_zero, List.set_cons_succ])
  refine takeS (i := 12) (d := 56) (oi := _) (v := ?v12) rfl rfl (by kernel_rfl) (by kernel_rfl) (by kernel_rfl) (by kernel_rfl) (fun _ _ _ h => h) (Or.inl ⟨by rfl, ?y12⟩) hS (fun h => by simp at h) ?r12
  case y12 => (intro w' hSw; (try dsimp only at hSw); go_simp; first | done | with_reducible rfl)
  simp only [List.setIfInBounds_toArray, List.set_cons_zero, List.set_cons_succ]
  refine carryT (i := 13) (oi := _) rfl (by kernel_rfl) (fun K hK => ?_)
  go_simp
  refine hK.out _ _ ⟨⟨(World.cell?_setCell_other _ _ _ _ (by simp)).trans hS.1, (World.cell?_setCell_other _ _ _ _ (Ef.out _ _)).trans hS.2.1, (World.cell?_setCell_other _ _ _ _ (Ef.out _ _)).trans hS.2.2.1, (World.cell?_setCell_other _ _ _ _ (Ef.out _ _)).trans hS.2.2.2⟩, fun h => by simp at h⟩ ?_
  clear hK K hS
  (try simp only [Act.put, List.setIfInBounds_toArray, List.set_cons_zero, List.set_cons_succ])
  refine wpAnyT_done (by kernel_rfl) ?_ _
  all_goals
    have hE8 := (G8.out _ _ _ h1 hgrow8 _ HL7.out.2 NB.out.2.1).trans HE7.out
    have hZ8 := (G8.out _ _ _ h1 hgrow8 _ (heap_lt HZ7.out) NB.out.2.2.1).trans HZ7.out
    have hG8 := (G8.out _ _ _ h1 hgrow8 _ (heap_lt HG7.out) NB.out.2.2.2).trans HG7.out
    have HK8 : Kept F w w8 := (HK7.trans (Kept.below (h1.alloc h1.size _) HU7)).grown hgrow8 (HU7.mono (h1.alloc h1.size _).size) (fun k hk => (HQ.out.2.2.1 k hk).1)
    have hgB : g ≠ B := (HQ.out.2.1 g rfl).2
    have hg'F : F g' ∧ g' ≠ B ∧ g' ≠ g ∧ g' ≠ w.heap.size ∧ g' ≠ w.heap.size + 1 := by
      rcases hat8 with h | h
      · exact ⟨(HQ.out.2.2.1 g' h).1, (HQ.out.2.2.1 g' h).2, fun e => HQ.out.2.2.2 g rfl (by rw [h, e]), by have := HRl.out _ h; omega, by have := HRl.out _ h; omega⟩
      · have h2 : W7.heap.size ≤ g' := by rw [h]; exact (h1.alloc h1.size _).size
        have h3 := heap_lt HZ7.out
        have h4 := heap_lt HE7.out
        exact ⟨HU7 g' h2, by have := HL7.out.1; omega, by have := heap_lt HG7.out; omega, by omega, by omega⟩
    have hB9 : (w8.setCell ⟨B, 1, none⟩ (.slice (some ⟨g', 0, none⟩) (R.length + 1) cap')).heap[B]? = some (.cells #[.string s, .slice (some ⟨g', 0, none⟩) (R.length + 1) cap', .slice (some ⟨g, 0, none⟩) n cap, .int .i64 (v : Int)] 53 (0, 0)) := blk_put hB8
    have hne1 : w.heap.size + 1 ≠ B := by have := HBl.out; omega
    have hne0 : w.heap.size ≠ B := by have := HBl.out; omega
    have HE9 := hid (blk_set (a := ⟨B, 1, none⟩) (v := .slice (some ⟨g', 0, none⟩) (R.length + 1) cap') hE8 hne1)
    have HZ9 := hid (blk_set (a := ⟨B, 1, none⟩) (v := .slice (some ⟨g', 0, none⟩) (R.length + 1) cap') hZ8 hne0)
    have HG9 := hid (blk_set (a := ⟨B, 1, none⟩) (v := .slice (some ⟨g', 0, none⟩) (R.length + 1) cap') hG8 hgB)
    have HO9 := hid (ownsRow_keep hown8 (w' := w8.setCell ⟨B, 1, none⟩ (.slice (some ⟨g', 0, none⟩) (R.length + 1) cap')) fun k hk => heap_setCell_other _ _ _ _ (by
      simp only [Value.ownBlock, Option.some.injEq] at hk
      rw [← hk]; exact hg'F.2.1))
    have HK9 := HK8.setCell (p := ⟨B, 1, none⟩) HQ.out.1 (.slice (some ⟨g', 0, none⟩) (R.length + 1) cap')
    obtain ⟨W9, hW9⟩ : ∃ W9, W9 = w8.setCell ⟨B, 1, none⟩ (.slice (some ⟨g', 0, none⟩) (R.length + 1) cap') := ⟨_, rfl⟩
    rw [← hW9] at hB9 HE9 HZ9 HG9 HO9 HK9 ⊢
    have HB9 := hid hB9
    have HFg := hid hg'F
    clear hW9 hB9 hE8 hZ8 hG8 HK8 hgB hg'F hne1 hne0 hB8 k2' f2' hown8 hgrow8 hat8 hlt8 h1
    go_wp2_with fail
    refine (become_any B s (ap s (a, d, t)) _ _ v W9 HB9.out hv).mono ?_
    rintro e wA ⟨rfl, hBA, kpA⟩
    have XE := (kpA.block (w.heap.size + 1) (by have := HBl.out; omega)).trans HE9.out
    have XZ := (kpA.block w.heap.size (by have := HBl.out; omega)).trans HZ9.out
    have XGA := (kpA.block g (HQ.out.2.1 g rfl).2).trans HG9.out
    have XOA := ownsRow_keep HO9.out (w' := wA) fun k hk => kpA.block k (by
      simp only [Value.ownBlock, Option.some.injEq] at hk
      rw [← hk]; exact HFg.out.2.1)
    have HKA := HK9.trans (kpA.mono fun b hb => by rw [hb]; exact HQ.out.1)
    obtain ⟨e0, e1, e2⟩ := cells3 XE
    obtain ⟨z0, z1, z2⟩ := cells3 XZ
    obtain ⟨q0, q1, q2⟩ := frozen3 XZ
    have hzl := heap_lt XZ
    have HBA := hid hBA
    have HGA := hid XGA
    have HOA := hid XOA
    have HKA' := hid HKA
    clear hBA XE XZ XGA XOA HKA kpA
    go_wp2
    refine bodyPost_ret (v := .tuple #[.agg #[.int .i64 a, .int .i64 d, .string t], .int .i64 0]) ?_ rfl ⟨rfl, ?_, ?_⟩
    · simp [results, Try.results30, go_sem, z0, z1, z2]
    · have far : ∀ b, b ≠ w.heap.size → (((wA.setCell ⟨w.heap.size, 0, none⟩ (.int .i64 a)).setCell ⟨w.heap.size, 1, none⟩ (.int .i64 d)).setCell ⟨w.heap.size, 2, none⟩ (.string t)).heap[b]? = wA.heap[b]? := fun b hb => by
        rw [heap_setCell_other _ _ _ _ hb, heap_setCell_other _ _ _ _ hb, heap_setCell_other _ _ _ _ hb]
      have hBZ := (far B (by have := HBl.out; omega)).trans HBA.out
      have rowF : (((wA.setCell ⟨w.heap.size, 0, none⟩ (.int .i64 a)).setCell ⟨w.heap.size, 1, none⟩ (.int .i64 d)).setCell ⟨w.heap.size, 2, none⟩ (.string t)).ownsRow 0 31 3 (.slice (some ⟨g, 0, none⟩) n cap) U.length (ev U.reverse) := by
        rw [← HU.out]
        exact ⟨by rw [ev_length, List.length_reverse, ← HU.out], .inr ⟨g, cap, cur', rfl, Nat.zero_le _, (far g (by have := HGl.out; omega)).trans HGA.out, by have := HN.out.1; omega, HN.out.2, by rw [HS6.out, HCS.out], by rw [HT6.out, HCT.out]⟩⟩
      have rowT : (((wA.setCell ⟨w.heap.size, 0, none⟩ (.int .i64 a)).setCell ⟨w.heap.size, 1, none⟩ (.int .i64 d)).setCell ⟨w.heap.size, 2, none⟩ (.string t)).ownsRow 0 31 3 (.slice (some ⟨g', 0, none⟩) (R.length + 1) cap') (inv s (a, d, t) :: R).length (ev (inv s (a, d, t) :: R).reverse) := by
        have := ownsRow_keep HOA.out (w' := (((wA.setCell ⟨w.heap.size, 0, none⟩ (.int .i64 a)).setCell ⟨w.heap.size, 1, none⟩ (.int .i64 d)).setCell ⟨w.heap.size, 2, none⟩ (.string t))) fun k hk => by
          simp only [Value.ownBlock, Option.some.injEq] at hk
          rw [← hk]; exact far g' HFg.out.2.2.2.1
        rw [← HX.out, List.reverse_cons, ev_app, ev_one]
        simpa using this
      have fT : ∀ k, (Value.slice (some ⟨g', 0, none⟩) (R.length + 1) cap').ownBlock = some k → F k ∧ k ≠ B := by
        intro k hk
        simp only [Value.ownBlock, Option.some.injEq] at hk
        rw [← hk]; exact ⟨HFg.out.1, HFg.out.2.1⟩
      have nn : ∀ k, (Value.slice (some ⟨g, 0, none⟩) n cap).ownBlock = some k → (Value.slice (some ⟨g', 0, none⟩) (R.length + 1) cap').ownBlock ≠ some k := by
        intro k hk hk'
        simp only [Value.ownBlock, Option.some.injEq] at hk hk'
        exact HFg.out.2.2.1 (by rw [hk', hk])
      exact ⟨.slice (some ⟨g', 0, none⟩) (R.length + 1) cap', .slice (some ⟨g, 0, none⟩) n cap, hBZ, rowT, rowF, HQ.out.1, fT, HQ.out.2.1, fun k h h' => nn k h' h⟩
    · refine ((HKA'.out.setCell ?_ _).setCell ?_ _).setCell ?_ _ <;> exact HP.out _ (Nat.le_refl _)
end Go.Proofs.Ytfhdbenomkbfjaa
