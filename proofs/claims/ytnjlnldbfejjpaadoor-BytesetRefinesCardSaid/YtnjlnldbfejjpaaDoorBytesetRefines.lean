/-
  BytesetRefines, for every input: the law returns true and leaves its arguments as they read. No condition beside the listed variable's own text (the card ties it).
-/
import Derived.Test.YtnjlnldbfejjpaaDoorR
set_option linter.unusedSimpArgs false
set_option linter.unusedVariables false
namespace Go.Proofs.YtnjlnldbfejjpaaDoor.bytesetRefines
open Go.ChangeShapes Go.WideShapes Go.ChangeAt Go.RowKit Go.Frame
open Go.ChangeMaps (open_string shut_string)
open Bs
attribute [local irreducible] nb cnt pc els cf fs
attribute [local go_sem] eqIn eql_set neq_set
set_option maxRecDepth 100000 in
set_option maxHeartbeats 4000000 in
theorem walk (a : Option Addr) (l c : Nat) (E : List (Nat → Bool)) (q : Nat → Bool) (x y : Nat) (w : World) (hE : Sets w a l E) (hx : x < 256) (hy : y < 256) (hT : Tb w) :
    Calls Tryd.prog 8 #[.slice a l c, sv q, .agg #[.int .u8 (x : Int), .int .u8 (y : Int)]] w fun e w' => e = .returned (.bool true) ∧ Below w.heap.size w w' := by
  by_cases h12 : l ≤ 12
  · have n6 : ¬ (12 : Int) < (l : Int) := by omega
    obtain ⟨i0, hi0, hz0, hz1, hz2⟩ := info_parts Tryd.info25
    obtain ⟨W, hW⟩ : ∃ W, W = (w.alloc (.cells #[.int .u64 (wd (q) 0 : Int), .int .u64 (wd (q) 1 : Int), .int .u64 (wd (q) 2 : Int), .int .u64 (wd (q) 3 : Int)] 25)).alloc (.cells #[.int .u8 (x : Int), .int .u8 (y : Int)] 46) := ⟨_, rfl⟩
    have X := hid (by have := Go.Frame.two w (.cells #[.int .u64 (wd (q) 0 : Int), .int .u64 (wd (q) 1 : Int), .int .u64 (wd (q) 2 : Int), .int .u64 (wd (q) 3 : Int)] 25) (.cells #[.int .u8 (x : Int), .int .u8 (y : Int)] 46); rw [← hW] at this; exact this)
    have HE := hid (show Sets W a l E from hE.below X.out.2.2.1)
    have HT := hid (hT.below X.out.2.2.1)
    have hl := hE.length
    have HL := hid (And.intro hl h12)
    clear hE hT hl
    unfold sv
    have n6' : (l : Int) ≤ 12 := by omega
    clear h12
    go_enter Tryd.func8, Tryd.ntmps8
    go_wp2_with fail
    rw [← hW]
    clear hW
    go_cut [7, 8] from 19 to 27 (fun s7 s8 wx => ∃ g h, s7 = .slice (some ⟨g, 0, none⟩) 256 256 ∧ s8 = .slice (some ⟨h, 0, none⟩) 256 256 ∧ wx.heap[g]? = some (.cells (ic 256 fun t => (num (Em E) t : Int)) 3 (0, 0)) ∧ wx.heap[h]? = some (.cells (ic 256 fun t => (num (Em (E ++ [q])) t : Int)) 3 (0, 0)) ∧ Below W.heap.size W wx)
    case first =>
      refine region_inv (fun b a' w' => ∃ v19 v20 v21 v22 v23 v24 v25 v26 v27 v7 v8 : Value, a' = { tmps := #[.slice a l c, .agg #[.int .u64 (wd (q) 0 : Int), .int .u64 (wd (q) 1 : Int), .int .u64 (wd (q) 2 : Int), .int .u64 (wd (q) 3 : Int)], .agg #[.int .u8 (x : Int), .int .u8 (y : Int)], undef, .pointer (some ⟨w.heap.size, 0, none⟩), .pointer (some ⟨w.heap.size + 1, 0, none⟩), .bool false, v7, v8, undef, undef, undef, undef, undef, undef, .slice a l c, .int .i64 (l : Int), .bool false, undef, v19, v20, v21, v22, v23, v24, v25, v26, v27, undef, undef, undef, undef, undef, undef, undef, undef, undef, undef, undef, undef, undef, undef, undef, undef, undef, undef, undef, undef, undef, undef, undef, undef, undef, undef, undef, undef, undef, undef, undef, undef, undef, undef, undef, undef, undef, undef, undef, undef, undef, undef, undef, undef, undef, undef, undef, undef, undef, undef, undef, undef, undef, undef, undef, undef, undef, undef, undef, undef, undef, undef, undef, undef, undef, undef, undef, undef, undef, undef, undef, undef, undef, undef, undef, undef, undef, undef, undef, undef, undef, undef, undef, undef, undef, undef, undef, undef, undef, undef, undef, undef, undef, undef, undef], defers := [] } ∧ (b 0 = true → v19 = .slice a l c) ∧ (b 3 = true → v22 = .slice a l c) ∧ (b 5 = true → v24 = .agg #[.int .u64 (wd (q) 0 : Int), .int .u64 (wd (q) 1 : Int), .int .u64 (wd (q) 2 : Int), .int .u64 (wd (q) 3 : Int)]) ∧ (b 9 = true → v7 = v20 ∧ b 1 = true) ∧ (b 10 = true → v8 = v27 ∧ b 8 = true) ∧ (b 7 = true → b 4 = true) ∧ (b 8 = true → b 7 = true) ∧ Fc W.heap.size E q W b v20 v21 v23 v25 v26 v27 w' ) (by kernel_rfl) (back_of (by kernel_rfl)) ?step ?done ?init
      case step =>
        rintro b a' w' i o ho ⟨v19, v20, v21, v22, v23, v24, v25, v26, v27, v7, v8, rfl, h0, h3, h5, h9, h10, h74, h87, hF⟩ hbi hd K hK
        have hlt : i < 11 := by have := (Array.getElem?_eq_some_iff.1 ho).1; simpa using this
        have dep : ∀ k, (o.after.any fun e => Region.binds .any e && e.on == k) = true → b k = true := fun k hk => by
          obtain ⟨e, he, h⟩ := Array.any_eq_true'.1 hk
          simp only [Bool.and_eq_true, beq_iff_eq] at h
          rw [← h.2]; exact hd e he h.1
        clear hd
        have hi : i = 0 ∨ i = 1 ∨ i = 2 ∨ i = 3 ∨ i = 4 ∨ i = 5 ∨ i = 6 ∨ i = 7 ∨ i = 8 ∨ i = 9 ∨ i = 10 := by omega
        clear hlt
        rcases hi with rfl | rfl | rfl | rfl | rfl | rfl | rfl | rfl | rfl | rfl | rfl
        · simp only [List.getElem?_toArray, List.getElem?_cons_zero, List.getElem?_cons_succ, Option.some.injEq] at ho
          subst ho
          go_simp
          refine hK.out _ _ ⟨_, _, _, _, _, _, _, _, _, _, _, rfl, fun _ => rfl, fun h => h3 (by simpa using h), fun h => h5 (by simpa using h), fun h => ⟨(h9 (by simpa using h)).1, (by simp [(h9 (by simpa using h)).2])⟩, fun h => ⟨(h10 (by simpa using h)).1, (by simp [(h10 (by simpa using h)).2])⟩, fun h => (by simp [h74 (by simpa using h)]), fun h => (by simp [h87 (by simpa using h)]), hF.at (fun k hk => by rcases hk with rfl | rfl | rfl | rfl | rfl | rfl <;> simp)⟩
        · simp only [List.getElem?_toArray, List.getElem?_cons_zero, List.getElem?_cons_succ, Option.some.injEq] at ho
          subst ho
          obtain rfl := h0 (dep 0 (by kernel_rfl))
          have hTw := HT.out.below hF.fb
          have hEw := HE.out.below hF.fb
          have CC := hid (Classes_any a l c E w' (by have := HL.out.2; omega) hEw hTw)
          go_simp
          refine CC.out.mono ?_
          rintro e w1 ⟨⟨g, rfl, hg, hgl⟩, b1⟩
          have F0 := hF.below hF.fb.size b1
          have hgN : W.heap.size ≤ g := Nat.le_trans hF.fb.size hgl
          refine hK.out _ _ ⟨_, _, _, _, _, _, _, _, _, _, _, rfl, fun h => h0 (by simpa using h), fun h => h3 (by simpa using h), fun h => h5 (by simpa using h), fun h => (by have := (h9 (by simpa using h)).2; rw [hbi] at this; cases this), fun h => ⟨(h10 (by simpa using h)).1, (by simp [(h10 (by simpa using h)).2])⟩, fun h => (by simp [h74 (by simpa using h)]), fun h => (by simp [h87 (by simpa using h)]), ?_⟩
          exact ⟨fun _ => ⟨g, rfl, hg, hgN⟩, fun h1 h2 => F0.f2 (by simpa using h1) (by simpa using h2), fun h1 h2 => F0.f4 (by simpa using h1) (by simpa using h2), fun h1 h2 => by
              obtain ⟨g, e1, e2, e3, e4⟩ := F0.f6 (by simpa using h1) (by simpa using h2)
              exact ⟨g, e1, e2, e3, fun h4 => e4 (by simpa using h4)⟩, fun h1 h2 => F0.f7 (by simpa using h1) (by simpa using h2), fun h1 => F0.f8 (by simpa using h1), F0.fb⟩
        · simp only [List.getElem?_toArray, List.getElem?_cons_zero, List.getElem?_cons_succ, Option.some.injEq] at ho
          subst ho
          go_simp
          have F0 := hF.below hF.fb.size ((Below.refl _ w').alloc (Nat.le_refl _) (.cells #[] 25))
          have hz := alloc_new w' (.cells #[] 25)
          have hs := hF.fb.size
          refine hK.out _ _ ⟨_, _, _, _, _, _, _, _, _, _, _, rfl, fun h => h0 (by simpa using h), fun h => h3 (by simpa using h), fun h => h5 (by simpa using h), fun h => ⟨(h9 (by simpa using h)).1, (by simp [(h9 (by simpa using h)).2])⟩, fun h => ⟨(h10 (by simpa using h)).1, (by simp [(h10 (by simpa using h)).2])⟩, fun h => (by simp [h74 (by simpa using h)]), fun h => (by simp [h87 (by simpa using h)]), ?_⟩
          exact ⟨fun h1 => F0.f1 (by simpa using h1), fun _ _ => ⟨_, rfl, hz, hs⟩, fun h1 h2 => F0.f4 (by simpa using h1) (by simpa using h2), fun h1 h2 => by
              obtain ⟨g, e1, e2, e3, e4⟩ := F0.f6 (by simpa using h1) (by simpa using h2)
              exact ⟨g, e1, e2, e3, fun h4 => e4 (by simpa using h4)⟩, fun h1 h2 => F0.f7 (by simpa using h1) (by simpa using h2), fun h1 => F0.f8 (by simpa using h1), F0.fb⟩
        · simp only [List.getElem?_toArray, List.getElem?_cons_zero, List.getElem?_cons_succ, Option.some.injEq] at ho
          subst ho
          go_simp
          refine hK.out _ _ ⟨_, _, _, _, _, _, _, _, _, _, _, rfl, fun h => h0 (by simpa using h), fun _ => rfl, fun h => h5 (by simpa using h), fun h => ⟨(h9 (by simpa using h)).1, (by simp [(h9 (by simpa using h)).2])⟩, fun h => ⟨(h10 (by simpa using h)).1, (by simp [(h10 (by simpa using h)).2])⟩, fun h => (by simp [h74 (by simpa using h)]), fun h => (by simp [h87 (by simpa using h)]), hF.at (fun k hk => by rcases hk with rfl | rfl | rfl | rfl | rfl | rfl <;> simp)⟩
        · simp only [List.getElem?_toArray, List.getElem?_cons_zero, List.getElem?_cons_succ, Option.some.injEq] at ho
          subst ho
          obtain ⟨g2, rfl, hg2, hn2⟩ := hF.f2 (dep 2 (by kernel_rfl)) hbi
          obtain rfl := h3 (dep 3 (by kernel_rfl))
          have hs := hF.fb.size
          have n7 : b 7 = false := by
            cases h : b 7
            · rfl
            · have := h74 h; rw [hbi] at this; cases this
          by_cases hl0 : l = 0
          · have hE0 : E = [] := List.length_eq_zero_iff.1 (by have := HL.out.1; omega)
            subst hl0
            refine step_append_none (by rfl) (.tmp 21) (.tmp 22) 41 (by rfl) (.slice (some ⟨g2, 0, none⟩) 0 0) (.slice a 0 c) (by rfl) (by rfl) (append_none _ _ _ _ _) ?_
            simp only [Act.put, List.setIfInBounds_toArray, List.set_cons_zero, List.set_cons_succ]
            have hown : w'.ownsRow W.heap.size 25 4 (.slice (some ⟨g2, 0, none⟩) 0 0) E.length (fl E) := by rw [hE0]; exact own_nil hn2 hg2
            refine hK.out _ _ ⟨_, _, _, _, _, _, _, _, _, _, _, rfl, fun h => h0 (by simpa using h), fun h => h3 (by simpa using h), fun h => h5 (by simpa using h), fun h => ⟨(h9 (by simpa using h)).1, (by simp [(h9 (by simpa using h)).2])⟩, fun h => ⟨(h10 (by simpa using h)).1, (by simp [(h10 (by simpa using h)).2])⟩, fun h => (by simp [h74 (by simpa using h)]), fun h => (by simp [h87 (by simpa using h)]), ?_⟩
            exact ⟨fun h1 => hF.f1 (by simpa using h1), fun h1 h2 => (by simp at h2), fun _ _ => hown, fun h1 h2 => by
              obtain ⟨g, e1, e2, e3, e4⟩ := hF.f6 (by simpa using h1) (by simpa using h2)
              refine ⟨g, e1, e2, e3, fun _ h => ?_⟩
              simp only [Value.ownBlock, Option.some.injEq] at h
              rw [h, e2] at hg2; simp at hg2, fun h1 h2 => hF.f7 (by simpa using h1) (by simpa using h2), fun h1 => hF.f8 (by simpa using h1), hF.fb⟩
          · obtain ⟨b0, off, p0, rfl, hb0, _⟩ := (HE.out.below hF.fb).at (i := 0) (by omega)
            have hEw := HE.out.below hF.fb
            have hl := HL.out.1
            have h12 := HL.out.2
            refine step_append_lies _ (by rfl) (.tmp 21) (.tmp 22) 41 (by rfl) W.heap.size 25 i0 _ 4 32 Tryd.underlying41 hi0 hz0 hz1 hz2 (by rfl) (by decide) (.slice (some ⟨g2, 0, none⟩) 0 0) 0 (fl []) (by rfl) (own_nil hn2 hg2) ⟨b0, off, none⟩ l c (fl E) (by rfl) (by rw [fl_length, hl]) (sets_news hEw) fl_one_cell (by omega) (by unfold maxLen; omega) (by omega) hs _ rfl ?_
            intro g4 cap4 w4 own4 grow4 at4 lt4
            have hfb : Below W.heap.size W w4 := below_grown hF.fb grow4 hs (by intro k hk; simp only [Value.ownBlock, Option.some.injEq] at hk; omega)
            have own4' : w4.ownsRow W.heap.size 25 4 (.slice (some ⟨g4, 0, none⟩) (0 + l) cap4) E.length (fl E) := by rw [hl, ← Nat.zero_add l]; simpa [fl] using own4
            have keep3 : ∀ g (cc : Array Value), w'.heap[g]? = some (Obj.cells cc 3 (0, 0)) → w4.heap[g]? = some (Obj.cells cc 3 (0, 0)) := fun g cc hg => (grow4.block g (heap_lt hg) (fun e => own_ne (own_nil hn2 hg2) hg e.symm)).trans hg
            simp only [Act.put, List.setIfInBounds_toArray, List.set_cons_zero, List.set_cons_succ]
            refine hK.out _ _ ⟨_, _, _, _, _, _, _, _, _, _, _, rfl, fun h => h0 (by simpa using h), fun h => h3 (by simpa using h), fun h => h5 (by simpa using h), fun h => ⟨(h9 (by simpa using h)).1, (by simp [(h9 (by simpa using h)).2])⟩, fun h => ⟨(h10 (by simpa using h)).1, (by simp [(h10 (by simpa using h)).2])⟩, fun h => (by simp [h74 (by simpa using h)]), fun h => (by simp [h87 (by simpa using h)]), ?_⟩
            refine ⟨fun h1 => ?_, fun h1 h2 => (by simp at h2), fun _ _ => own4', fun h1 h2 => ?_, fun h1 h2 => (by rw [show b 7 = true by simpa using h1] at n7; cases n7), fun h1 => ?_, hfb⟩
            · obtain ⟨g, e1, e2, e3⟩ := hF.f1 (by simpa using h1)
              exact ⟨g, e1, keep3 _ _ e2, e3⟩
            · obtain ⟨g, e1, e2, e3, e4⟩ := hF.f6 (by simpa using h1) (by simpa using h2)
              have hne : g2 ≠ g := fun h => by rw [h, e2] at hg2; simp at hg2
              refine ⟨g, e1, (grow4.block g (heap_lt e2) (fun e => by simp only [Value.ownBlock, Option.some.injEq] at e; exact hne e.symm)).trans e2, e3, fun _ h => ?_⟩
              simp only [Value.ownBlock, Option.some.injEq] at h
              rcases at4 with h6 | h6
              · simp only [Value.ownBlock, Option.some.injEq] at h6; exact hne (h6.trans h)
              · have := heap_lt e2; omega
            · obtain ⟨g, e1, e2, e3⟩ := hF.f8 (by simpa using h1)
              exact ⟨g, e1, keep3 _ _ e2, e3⟩
        · simp only [List.getElem?_toArray, List.getElem?_cons_zero, List.getElem?_cons_succ, Option.some.injEq] at ho
          subst ho
          obtain ⟨m0, m1, m2, m3⟩ := cells4 ((hF.fb.block _ (heap_lt X.out.1)).trans X.out.1)
          go_simp
          refine hK.out _ _ ⟨_, _, _, _, _, _, _, _, _, _, _, rfl, fun h => h0 (by simpa using h), fun h => h3 (by simpa using h), fun _ => rfl, fun h => ⟨(h9 (by simpa using h)).1, (by simp [(h9 (by simpa using h)).2])⟩, fun h => ⟨(h10 (by simpa using h)).1, (by simp [(h10 (by simpa using h)).2])⟩, fun h => (by simp [h74 (by simpa using h)]), fun h => (by simp [h87 (by simpa using h)]), hF.at (fun k hk => by rcases hk with rfl | rfl | rfl | rfl | rfl | rfl <;> simp)⟩
        · simp only [List.getElem?_toArray, List.getElem?_cons_zero, List.getElem?_cons_succ, Option.some.injEq] at ho
          subst ho
          obtain rfl := h5 (dep 5 (by kernel_rfl))
          go_simp
          have F0 := hF.below hF.fb.size ((Below.refl _ w').alloc (Nat.le_refl _) (.cells #[.int .u64 (wd (q) 0 : Int), .int .u64 (wd (q) 1 : Int), .int .u64 (wd (q) 2 : Int), .int .u64 (wd (q) 3 : Int)] 25))
          have hz := alloc_new w' (.cells #[.int .u64 (wd (q) 0 : Int), .int .u64 (wd (q) 1 : Int), .int .u64 (wd (q) 2 : Int), .int .u64 (wd (q) 3 : Int)] 25)
          have hs := hF.fb.size
          refine hK.out _ _ ⟨_, _, _, _, _, _, _, _, _, _, _, rfl, fun h => h0 (by simpa using h), fun h => h3 (by simpa using h), fun h => h5 (by simpa using h), fun h => ⟨(h9 (by simpa using h)).1, (by simp [(h9 (by simpa using h)).2])⟩, fun h => ⟨(h10 (by simpa using h)).1, (by simp [(h10 (by simpa using h)).2])⟩, fun h => (by simp [h74 (by simpa using h)]), fun h => (by simp [h87 (by simpa using h)]), ?_⟩
          exact ⟨fun h1 => F0.f1 (by simpa using h1), fun h1 h2 => F0.f2 (by simpa using h1) (by simpa using h2), fun h1 h2 => F0.f4 (by simpa using h1) (by simpa using h2), fun _ h2 => ⟨_, rfl, hz, hs, fun h4 e => by have := ((hF.f4 (by simpa using h4) (by simpa using h2)).lt _ e).2; omega⟩, fun h1 h2 => F0.f7 (by simpa using h1) (by simpa using h2), fun h1 => F0.f8 (by simpa using h1), F0.fb⟩
        · simp only [List.getElem?_toArray, List.getElem?_cons_zero, List.getElem?_cons_succ, Option.some.injEq] at ho
          subst ho
          have hown := hF.f4 (dep 4 (by kernel_rfl)) hbi
          obtain ⟨g6, rfl, hg6, hn6, hne6⟩ := hF.f6 (dep 6 (by kernel_rfl)) hbi
          have hne6 := hne6 (dep 4 (by kernel_rfl))
          have hs := hF.fb.size
          have hl := HL.out.1
          have h12 := HL.out.2
          refine step_append_lies _ (by rfl) (.tmp 23) (.tmp 25) 41 (by rfl) W.heap.size 25 i0 _ 4 32 Tryd.underlying41 hi0 hz0 hz1 hz2 (by rfl) (by decide) v23 E.length (fl E) (by rfl) hown ⟨g6, 0, none⟩ 1 1 (sl q) (by rfl) (by simp [sl]) (World.news_of_block hg6) (by intro u hu; simp [sl] at hu; rcases hu with rfl | rfl | rfl | rfl <;> rfl) (by decide) (by unfold maxLen; omega) (by omega) hs _ rfl ?_
          intro g7 cap7 w7 own7 grow7 at7 lt7
          have hfb : Below W.heap.size W w7 := below_grown hF.fb grow7 hs (by intro k hk; exact (hown.lt k hk).1)
          have own7' : w7.ownsRow W.heap.size 25 4 (.slice (some ⟨g7, 0, none⟩) (E.length + 1) cap7) (E ++ [q]).length (fl (E ++ [q])) := by rw [fl_app, fl_one, List.length_append]; exact own7
          simp only [Act.put, List.setIfInBounds_toArray, List.set_cons_zero, List.set_cons_succ]
          refine hK.out _ _ ⟨_, _, _, _, _, _, _, _, _, _, _, rfl, fun h => h0 (by simpa using h), fun h => h3 (by simpa using h), fun h => h5 (by simpa using h), fun h => ⟨(h9 (by simpa using h)).1, (by simp [(h9 (by simpa using h)).2])⟩, fun h => ⟨(h10 (by simpa using h)).1, (by simp [(h10 (by simpa using h)).2])⟩, fun _ => (by simp [dep 4 (by kernel_rfl)]), fun h => (by simp [h87 (by simpa using h)]), ?_⟩
          refine ⟨fun h1 => ?_, fun h1 h2 => ?_, fun h1 h2 => (by simp at h2), fun h1 h2 => (by simp at h2), fun _ _ => own7', fun h1 => ?_, hfb⟩
          · obtain ⟨g, e1, e2, e3⟩ := hF.f1 (by simpa using h1)
            exact ⟨g, e1, (grow7.block g (heap_lt e2) (fun e => own_ne hown e2 e.symm)).trans e2, e3⟩
          · have h4 : b 4 = false := (by simpa using h2)
            have h5' := dep 4 (by kernel_rfl)
            rw [h4] at h5'; cases h5'
          · have h8 : b 8 = true := by simpa using h1
            rw [h87 h8] at hbi; cases hbi
        · simp only [List.getElem?_toArray, List.getElem?_cons_zero, List.getElem?_cons_succ, Option.some.injEq] at ho
          subst ho
          have hown := hF.f7 (dep 7 (by kernel_rfl)) hbi
          obtain ⟨n8, hn8⟩ : ∃ n, n = (E ++ [q]).length := ⟨_, rfl⟩
          rw [← hn8] at hown
          obtain ⟨a8, c8, rfl, hS⟩ := own_sets hown
          have hTw := HT.out.below hF.fb
          have hn9 : n8 ≤ 1000 := by have := HL.out; rw [hn8, List.length_append]; simp; omega
          have CC := hid (Classes_any a8 n8 c8 (E ++ [q]) w' hn9 hS hTw)
          clear hn8 hn9 hS hown hTw
          go_simp
          refine CC.out.mono ?_
          rintro e w1 ⟨⟨g, rfl, hg, hgl⟩, b1⟩
          have F0 := hF.below hF.fb.size b1
          have hgN : W.heap.size ≤ g := Nat.le_trans hF.fb.size hgl
          refine hK.out _ _ ⟨_, _, _, _, _, _, _, _, _, _, _, rfl, fun h => h0 (by simpa using h), fun h => h3 (by simpa using h), fun h => h5 (by simpa using h), fun h => ⟨(h9 (by simpa using h)).1, (by simp [(h9 (by simpa using h)).2])⟩, fun h => (by have := (h10 (by simpa using h)).2; rw [hbi] at this; cases this), fun h => (by simp [h74 (by simpa using h)]), fun _ => (by simp [dep 7 (by kernel_rfl)]), ?_⟩
          exact ⟨fun h1 => F0.f1 (by simpa using h1), fun h1 h2 => F0.f2 (by simpa using h1) (by simpa using h2), fun h1 h2 => F0.f4 (by simpa using h1) (by simpa using h2), fun h1 h2 => by
              obtain ⟨g, e1, e2, e3, e4⟩ := F0.f6 (by simpa using h1) (by simpa using h2)
              exact ⟨g, e1, e2, e3, fun h4 => e4 (by simpa using h4)⟩, fun h1 h2 => (by simp at h2), fun _ => ⟨g, rfl, hg, hgN⟩, F0.fb⟩
        · simp only [List.getElem?_toArray, List.getElem?_cons_zero, List.getElem?_cons_succ, Option.some.injEq] at ho
          subst ho
          go_simp
          refine hK.out _ _ ⟨_, _, _, _, _, _, _, _, _, _, _, rfl, fun h => h0 (by simpa using h), fun h => h3 (by simpa using h), fun h => h5 (by simpa using h), fun _ => ⟨rfl, (by simp [dep 1 (by kernel_rfl)])⟩, fun h => ⟨(h10 (by simpa using h)).1, (by simp [(h10 (by simpa using h)).2])⟩, fun h => (by simp [h74 (by simpa using h)]), fun h => (by simp [h87 (by simpa using h)]), hF.at (fun k hk => by rcases hk with rfl | rfl | rfl | rfl | rfl | rfl <;> simp)⟩
        · simp only [List.getElem?_toArray, List.getElem?_cons_zero, List.getElem?_cons_succ, Option.some.injEq] at ho
          subst ho
          go_simp
          refine hK.out _ _ ⟨_, _, _, _, _, _, _, _, _, _, _, rfl, fun h => h0 (by simpa using h), fun h => h3 (by simpa using h), fun h => h5 (by simpa using h), fun h => ⟨(h9 (by simpa using h)).1, (by simp [(h9 (by simpa using h)).2])⟩, fun _ => ⟨rfl, (by simp [dep 8 (by kernel_rfl)])⟩, fun h => (by simp [h74 (by simpa using h)]), fun h => (by simp [h87 (by simpa using h)]), hF.at (fun k hk => by rcases hk with rfl | rfl | rfl | rfl | rfl | rfl <;> simp)⟩
      case done =>
        rintro b a' w' ⟨v19, v20, v21, v22, v23, v24, v25, v26, v27, v7, v8, rfl, h0, h3, h5, h9, h10, h74, h87, hF⟩ hall
        obtain ⟨g, rfl, hg, _⟩ := hF.f1 (hall 1)
        obtain ⟨h, rfl, hh, _⟩ := hF.f8 (hall 8)
        obtain rfl := (h9 (hall 9)).1
        obtain rfl := (h10 (hall 10)).1
        have HH := hid (And.intro hg (And.intro hh hF.fb))
        clear hg hh hF h0 h3 h5 h9 h10 h74 h87
        go_wp2_with fail
        go_meet
        exact ⟨g, h, rfl, rfl, HH.out.1, HH.out.2.1, HH.out.2.2⟩
      case init =>
        exact ⟨undef, undef, undef, undef, undef, undef, undef, undef, undef, undef, undef, rfl, by simp, by simp, by simp, by simp, by simp, by simp, by simp, ⟨by simp, by simp, by simp, by simp, by simp, by simp, (Below.refl _ _).drew⟩⟩
    case rest =>
      obtain ⟨g, h, rfl, rfl, hg, hh, hb⟩ := hcut
      have K := hid (fun Z (hZ : Below wc.heap.size wc Z) => show SB Z w.heap.size q ∧ Z.heap[w.heap.size + 1]? = some (.cells #[.int .u8 (x : Int), .int .u8 (y : Int)] 46 (0, 0)) ∧ Z.heap[g]? = some (.cells (ic 256 fun t => (num (Em E) t : Int)) 3 (0, 0)) ∧ Z.heap[h]? = some (.cells (ic 256 fun t => (num (Em (E ++ [q])) t : Int)) 3 (0, 0)) ∧ Below W.heap.size W Z from by
        have x0 := X.out.1
        have x1 := X.out.2.1
        exact ⟨(hZ.block _ (Nat.lt_of_lt_of_le (heap_lt x0) hb.size)).trans ((hb.block _ (heap_lt x0)).trans x0), (hZ.block _ (Nat.lt_of_lt_of_le (heap_lt x1) hb.size)).trans ((hb.block _ (heap_lt x1)).trans x1), (hZ.block _ (heap_lt hg)).trans hg, (hZ.block _ (heap_lt hh)).trans hh, hb.trans (hZ.mono hb.size)⟩)
      clear hg hh hb
      go_wp2_with fail
      refine wp_region_below (by kernel_rfl) (by kernel_rfl) ?_
      intro X' f _ hf hs
      have k0 := fun z => (cells2 (K.out _ (hf.out z)).2.1).1
      have k1 := fun z => (cells2 (K.out _ (hf.out z)).2.1).2
      repeat (go_big_quiet_step (fail))
      refine wpQuiet_nil ?_
      intro v1 hv1
      have HV := hid hv1
      clear k0 k1 hf hs hv1
      go_wp2_with fail
      go_loopg [11, 12] l (fun k s11 s12 wr => ∃ i : Nat, s11 = .bool (Em (E.take i) x y) ∧ s12 = .int .i64 i ∧ i + k = l ∧ Below wc.heap.size wc wr)
      case atStart => exact ⟨0, by simp [Em], rfl, by omega, HV.out⟩
      case round =>
        obtain ⟨i, rfl, rfl, hk, hB⟩ := hrel
        have HB := hid hB
        clear hB
        have l9 : (l : Int) ≤ 12 := n6'
        by_cases hlt : i < l
        · have hlt' : (i : Int) < (l : Int) := by omega
          have hi0' : (0 : Int) ≤ (i : Int) := by omega
          obtain ⟨b0, off, p, rfl, hbl, hp, _⟩ := HE.out.at hlt
          have KX := hid (fun Z (hZ : Below wr.heap.size wr Z) => show Z.cell? ⟨b0, off + i * 4, none⟩ = some (.int .u64 (wd p 0 : Int)) ∧ Z.cell? ⟨b0, off + i * 4 + 1, none⟩ = some (.int .u64 (wd p 1 : Int)) ∧ Z.cell? ⟨b0, off + i * 4 + 2, none⟩ = some (.int .u64 (wd p 2 : Int)) ∧ Z.cell? ⟨b0, off + i * 4 + 3, none⟩ = some (.int .u64 (wd p 3 : Int)) from by
            obtain ⟨b1, off1, p1, he, _, hp1, r0, r1, r2, r3⟩ := (HE.out.below (K.out _ (HB.out.trans (hZ.mono HB.out.size))).2.2.2.2).at hlt
            simp only [Option.some.injEq, Addr.mk.injEq] at he
            obtain ⟨rfl, rfl, _⟩ := he
            rw [hp] at hp1
            simp only [Option.some.injEq] at hp1
            subst hp1
            exact ⟨r0, r1, r2, r3⟩)
          have hem := fun z t => Em_take_succ (i := i) hp z t
          have HP := hid (And.intro hlt (hem x y))
          obtain ⟨u, hu⟩ : ∃ u, p x = u := ⟨_, rfl⟩
          obtain ⟨v, hv⟩ : ∃ v, p y = v := ⟨_, rfl⟩
          have C1 := hid (fun V => show Calls Tryd.prog 14 #[.agg #[.int .u64 (wd (p) 0 : Int), .int .u64 (wd (p) 1 : Int), .int .u64 (wd (p) 2 : Int), .int .u64 (wd (p) 3 : Int)], .int .u8 (x : Int)] V fun e w'' => e = .returned (.bool u) ∧ Below V.heap.size V w'' from hu ▸ Has_any p x V hx)
          have C2 := hid (fun V => show Calls Tryd.prog 14 #[.agg #[.int .u64 (wd (p) 0 : Int), .int .u64 (wd (p) 1 : Int), .int .u64 (wd (p) 2 : Int), .int .u64 (wd (p) 3 : Int)], .int .u8 (y : Int)] V fun e w'' => e = .returned (.bool v) ∧ Below V.heap.size V w'' from hv ▸ Has_any p y V hy)
          obtain ⟨m, hm⟩ : ∃ m, Em (E.take i) x y = m := ⟨_, rfl⟩
          rw [hm]
          have HU := hid (And.intro hu (And.intro hv hm))
          clear hlt hbl hp hem hu hv hm
          cases m
          · go_wp2_with fail
            refine wp_region_below (by kernel_rfl) (by kernel_rfl) ?_
            intro X' f _ hf hs
            repeat (go_big_quiet_step (fail))
            refine wpQuiet_nil ?_
            intro w' hw'
            have HW' := hid hw'
            clear hf hs hw'
            go_wp2
            go_roundg (gk - 1)
            case measure => have := HP.out.1; omega
            case rel => exact ⟨i + 1, by rw [HP.out.2, HU.out.2.2]; rfl, by go_num, by have := HP.out.1; omega, HB.out.trans (HW'.out.mono HB.out.size)⟩
          · go_wp2_with fail
            refine wp_region_below (by kernel_rfl) (by kernel_rfl) ?_
            intro X' f _ hf hs
            have k0 := fun z => (KX.out _ (hf.out z)).1
            have k1 := fun z => (KX.out _ (hf.out z)).2.1
            have k2 := fun z => (KX.out _ (hf.out z)).2.2.1
            have k3 := fun z => (KX.out _ (hf.out z)).2.2.2
            repeat (go_big_quiet_step (first | (go_at_call 14; with_reducible exact calls_below hf hs (C1.out _)) | (go_at_call 14; with_reducible exact calls_below hf hs (C2.out _))))
            refine wpQuiet_nil ?_
            intro w' hw'
            have HW' := hid hw'
            clear k0 k1 k2 k3 hf hs hw'
            go_wp2
            go_roundg (gk - 1)
            case measure => have := HP.out.1; omega
            case rel => exact ⟨i + 1, by rw [HP.out.2, HU.out.2.2, HU.out.1, HU.out.2.1]; simp, by go_num, by have := HP.out.1; omega, HB.out.trans (HW'.out.mono HB.out.size)⟩
        · have hin : ¬ (i : Int) < (l : Int) := by omega
          have i4 : i = l := by omega
          clear hlt
          obtain ⟨m, hm⟩ : ∃ m, Em (E.take i) x y = m := ⟨_, rfl⟩
          rw [hm]
          rw [List.take_of_length_le (by have := HL.out; omega)] at hm
          have HM := hid hm
          clear hm
          go_wp2_with fail
          obtain ⟨go, rfl⟩ : ∃ go, go = gk := ⟨_, rfl⟩
          go_loopg [13, 14] 256 (fun k s13 s14 wq => ∃ j : Nat, s13 = .int .i64 (cf (Em E) j : Int) ∧ s14 = .int .i64 j ∧ j + k = 256 ∧ Below wc.heap.size wc wq)
          case atStart => exact ⟨0, by rw [cf]; rfl, rfl, rfl, HB.out⟩
          case round =>
            obtain ⟨j, rfl, rfl, hk2, hB2⟩ := hrel
            by_cases hj : j < 256
            · have hj' : (j : Int) < 256 := by omega
              have hj0 : (0 : Int) ≤ (j : Int) := by omega
              have c0 := ic_cell (K.out _ hB2).2.2.1 hj
              have hcl := cf_le (Em E) j
              obtain ⟨Q, hQ⟩ : ∃ Q, cf (Em E) j = Q := ⟨_, rfl⟩
              obtain ⟨N, hN⟩ : ∃ N, num (Em E) j = N := ⟨_, rfl⟩
              have H2 := hid (And.intro hB2 (And.intro hj (And.intro hQ hN)))
              rw [hQ] at hcl ⊢
              rw [hN] at c0
              clear hB2 hj
              by_cases hf : fs (Em E) j = j
              · have e1 : N = Q := by rw [← hN, ← hQ]; exact num_new hf
                subst e1
                have HF := hid (cf_step_new hf)
                have n1 : ¬ (N : Int) < (N : Int) := by omega
                have n2 : ¬ (N : Int) < 0 := by omega
                have e2 : IntKind.i64.wrap ((N : Int) + 1) = (N : Int) + 1 := wrapIn (by omega) (by omega)
                clear hf hQ hN
                go_wp2
                go_roundg (gk - 1)
                case measure => have := H2.out.2.1; omega
                case rel => exact ⟨j + 1, by rw [HF.out, H2.out.2.2.1]; simp, by go_num, by have := H2.out.2.1; omega, H2.out.1⟩
              · have e1 : N < Q := by rw [← hN, ← hQ]; exact num_lt hf (Em_eqv E)
                have HF := hid (cf_step_old hf)
                have n1 : ¬ (Q : Int) < (N : Int) := by omega
                have n2 : ¬ (N : Int) < 0 := by omega
                have n3 : ¬ (N : Int) = (Q : Int) := by omega
                clear hf hQ hN
                go_wp2
                go_roundg (gk - 1)
                case measure => have := H2.out.2.1; omega
                case rel => exact ⟨j + 1, by rw [HF.out, H2.out.2.2.1], by go_num, by have := H2.out.2.1; omega, H2.out.1⟩
            · have hjn : ¬ (j : Int) < 256 := by omega
              have H2 := hid hB2
              have x0 : (0 : Int) ≤ (x : Int) := by omega
              have x1 : (x : Int) < 256 := by omega
              have y0 : (0 : Int) ≤ (y : Int) := by omega
              have y1 : (y : Int) < 256 := by omega
              have WQ := hid (X.out.2.2.1.trans ((K.out _ hB2).2.2.2.2.mono X.out.2.2.1.size))
              have CA := hid (fun Z (hZ : Below wr.heap.size wr Z) => awake_any Z (HT.out.below ((K.out _ hB2).2.2.2.2.trans (hZ.mono (K.out _ hB2).2.2.2.2.size))))
              obtain ⟨ca, hca⟩ : ∃ n, num (Em E) x = n := ⟨_, rfl⟩
              obtain ⟨cb, hcb⟩ : ∃ n, num (Em E) y = n := ⟨_, rfl⟩
              obtain ⟨da, hda⟩ : ∃ n, num (Em (E ++ [q])) x = n := ⟨_, rfl⟩
              obtain ⟨db, hdb⟩ : ∃ n, num (Em (E ++ [q])) y = n := ⟨_, rfl⟩
              obtain ⟨u, hu⟩ : ∃ u, q x = u := ⟨_, rfl⟩
              obtain ⟨v, hv⟩ : ∃ v, q y = v := ⟨_, rfl⟩
              have hc : ca = cb ↔ m = true := by rw [← hca, ← hcb, ← HM.out]; exact num_iff (Em_eqv E)
              have hd : da = db ↔ (m && (u == v)) = true := by
                rw [← hda, ← hdb, ← HM.out, ← hu, ← hv, num_iff (Em_eqv _)]
                simp [Em, List.all_append]
              have KC := hid (fun Z (hZ : Below wr.heap.size wr Z) => show Z.cell? ⟨g, x, none⟩ = some (.int .i64 (ca : Int)) ∧ Z.cell? ⟨g, y, none⟩ = some (.int .i64 (cb : Int)) ∧ Z.cell? ⟨h, x, none⟩ = some (.int .i64 (da : Int)) ∧ Z.cell? ⟨h, y, none⟩ = some (.int .i64 (db : Int)) ∧ SB Z w.heap.size q from by
                have kz := K.out _ (H2.out.trans (hZ.mono H2.out.size))
                refine ⟨?_, ?_, ?_, ?_, kz.1⟩
                · rw [ic_cell kz.2.2.1 hx, hca]
                · rw [ic_cell kz.2.2.1 hy, hcb]
                · rw [ic_cell kz.2.2.2.1 hx, hda]
                · rw [ic_cell kz.2.2.2.1 hy, hdb])
              have C1 := hid (fun V => show Calls Tryd.prog 14 #[.agg #[.int .u64 (wd (q) 0 : Int), .int .u64 (wd (q) 1 : Int), .int .u64 (wd (q) 2 : Int), .int .u64 (wd (q) 3 : Int)], .int .u8 (x : Int)] V fun e w'' => e = .returned (.bool u) ∧ Below V.heap.size V w'' from hu ▸ Has_any q x V hx)
              have C2 := hid (fun V => show Calls Tryd.prog 14 #[.agg #[.int .u64 (wd (q) 0 : Int), .int .u64 (wd (q) 1 : Int), .int .u64 (wd (q) 2 : Int), .int .u64 (wd (q) 3 : Int)], .int .u8 (y : Int)] V fun e w'' => e = .returned (.bool v) ∧ Below V.heap.size V w'' from hv ▸ Has_any q y V hy)
              clear hB2 hj hca hcb hda hdb hu hv
              cases m
              · have n1 : ¬ (ca : Int) = (cb : Int) := by have : ¬ ca = cb := fun e => by have := hc.1 e; cases this
                                                          omega
                have n2 : ¬ (da : Int) = (db : Int) := by have : ¬ da = db := fun e => by have := hd.1 e; simp at this
                                                          omega
                have b1 : ((ca : Int) == (cb : Int)) = false := by simpa using n1
                have b2 : ((da : Int) == (db : Int)) = false := by simpa using n2
                clear hc hd
                go_wp2_with fail
                refine wp_region_below (by kernel_rfl) (by kernel_rfl) ?_
                intro X' f _ hf hs
                have k0 := fun z => (KC.out _ (hf.out z)).1
                have k1 := fun z => (KC.out _ (hf.out z)).2.1
                have k2 := fun z => (KC.out _ (hf.out z)).2.2.1
                have k3 := fun z => (KC.out _ (hf.out z)).2.2.2.1
                have k4 := fun z => (cells4 (KC.out _ (hf.out z)).2.2.2.2).1
                have k5 := fun z => (cells4 (KC.out _ (hf.out z)).2.2.2.2).2.1
                have k6 := fun z => (cells4 (KC.out _ (hf.out z)).2.2.2.2).2.2.1
                have k7 := fun z => (cells4 (KC.out _ (hf.out z)).2.2.2.2).2.2.2
                repeat (go_big_quiet_step (first | (go_at_call 9; exact calls_below hf hs (CA.out _ (hf.out _)))))
                refine wpQuiet_nil ?_
                intro w' hw'
                have HW' := hid hw'
                clear k0 k1 k2 k3 k4 k5 k6 k7 hf hs hw'
                go_wp2
                go_ret
                exact ⟨(by first | (simp; done) | (simp; omega)), WQ.out.trans (HW'.out.mono WQ.out.size)⟩
              · obtain rfl : ca = cb := hc.2 rfl
                clear hc
                cases u <;> cases v
                · obtain rfl : da = db := hd.2 rfl
                  clear hd
                  go_wp2_with fail
                  refine wp_region_below (by kernel_rfl) (by kernel_rfl) ?_
                  intro X' f _ hf hs
                  have k0 := fun z => (KC.out _ (hf.out z)).1
                  have k1 := fun z => (KC.out _ (hf.out z)).2.1
                  have k2 := fun z => (KC.out _ (hf.out z)).2.2.1
                  have k3 := fun z => (KC.out _ (hf.out z)).2.2.2.1
                  have k4 := fun z => (cells4 (KC.out _ (hf.out z)).2.2.2.2).1
                  have k5 := fun z => (cells4 (KC.out _ (hf.out z)).2.2.2.2).2.1
                  have k6 := fun z => (cells4 (KC.out _ (hf.out z)).2.2.2.2).2.2.1
                  have k7 := fun z => (cells4 (KC.out _ (hf.out z)).2.2.2.2).2.2.2
                  repeat (go_big_quiet_step (first | (go_at_call 9; exact calls_below hf hs (CA.out _ (hf.out _))) | (go_at_call 14; with_reducible exact calls_below hf hs (C1.out _)) | (go_at_call 14; with_reducible exact calls_below hf hs (C2.out _))))
                  refine wpQuiet_nil ?_
                  intro w' hw'
                  have HW' := hid hw'
                  clear k0 k1 k2 k3 k4 k5 k6 k7 hf hs hw'
                  go_wp2
                  go_ret
                  exact ⟨(by first | (simp; done) | (simp; omega)), WQ.out.trans (HW'.out.mono WQ.out.size)⟩
                · have n2 : ¬ (da : Int) = (db : Int) := by have : ¬ da = db := fun e => by have := hd.1 e; simp at this
                                                            omega
                  have b2 : ((da : Int) == (db : Int)) = false := by simpa using n2
                  clear hd
                  go_wp2_with fail
                  refine wp_region_below (by kernel_rfl) (by kernel_rfl) ?_
                  intro X' f _ hf hs
                  have k0 := fun z => (KC.out _ (hf.out z)).1
                  have k1 := fun z => (KC.out _ (hf.out z)).2.1
                  have k2 := fun z => (KC.out _ (hf.out z)).2.2.1
                  have k3 := fun z => (KC.out _ (hf.out z)).2.2.2.1
                  have k4 := fun z => (cells4 (KC.out _ (hf.out z)).2.2.2.2).1
                  have k5 := fun z => (cells4 (KC.out _ (hf.out z)).2.2.2.2).2.1
                  have k6 := fun z => (cells4 (KC.out _ (hf.out z)).2.2.2.2).2.2.1
                  have k7 := fun z => (cells4 (KC.out _ (hf.out z)).2.2.2.2).2.2.2
                  repeat (go_big_quiet_step (first | (go_at_call 9; exact calls_below hf hs (CA.out _ (hf.out _))) | (go_at_call 14; with_reducible exact calls_below hf hs (C1.out _)) | (go_at_call 14; with_reducible exact calls_below hf hs (C2.out _))))
                  refine wpQuiet_nil ?_
                  intro w' hw'
                  have HW' := hid hw'
                  clear k0 k1 k2 k3 k4 k5 k6 k7 hf hs hw'
                  go_wp2
                  go_ret
                  exact ⟨(by first | (simp; done) | (simp; omega)), WQ.out.trans (HW'.out.mono WQ.out.size)⟩
                · have n2 : ¬ (da : Int) = (db : Int) := by have : ¬ da = db := fun e => by have := hd.1 e; simp at this
                                                            omega
                  have b2 : ((da : Int) == (db : Int)) = false := by simpa using n2
                  clear hd
                  go_wp2_with fail
                  refine wp_region_below (by kernel_rfl) (by kernel_rfl) ?_
                  intro X' f _ hf hs
                  have k0 := fun z => (KC.out _ (hf.out z)).1
                  have k1 := fun z => (KC.out _ (hf.out z)).2.1
                  have k2 := fun z => (KC.out _ (hf.out z)).2.2.1
                  have k3 := fun z => (KC.out _ (hf.out z)).2.2.2.1
                  have k4 := fun z => (cells4 (KC.out _ (hf.out z)).2.2.2.2).1
                  have k5 := fun z => (cells4 (KC.out _ (hf.out z)).2.2.2.2).2.1
                  have k6 := fun z => (cells4 (KC.out _ (hf.out z)).2.2.2.2).2.2.1
                  have k7 := fun z => (cells4 (KC.out _ (hf.out z)).2.2.2.2).2.2.2
                  repeat (go_big_quiet_step (first | (go_at_call 9; exact calls_below hf hs (CA.out _ (hf.out _))) | (go_at_call 14; with_reducible exact calls_below hf hs (C1.out _)) | (go_at_call 14; with_reducible exact calls_below hf hs (C2.out _))))
                  refine wpQuiet_nil ?_
                  intro w' hw'
                  have HW' := hid hw'
                  clear k0 k1 k2 k3 k4 k5 k6 k7 hf hs hw'
                  go_wp2
                  go_ret
                  exact ⟨(by first | (simp; done) | (simp; omega)), WQ.out.trans (HW'.out.mono WQ.out.size)⟩
                · obtain rfl : da = db := hd.2 rfl
                  clear hd
                  go_wp2_with fail
                  refine wp_region_below (by kernel_rfl) (by kernel_rfl) ?_
                  intro X' f _ hf hs
                  have k0 := fun z => (KC.out _ (hf.out z)).1
                  have k1 := fun z => (KC.out _ (hf.out z)).2.1
                  have k2 := fun z => (KC.out _ (hf.out z)).2.2.1
                  have k3 := fun z => (KC.out _ (hf.out z)).2.2.2.1
                  have k4 := fun z => (cells4 (KC.out _ (hf.out z)).2.2.2.2).1
                  have k5 := fun z => (cells4 (KC.out _ (hf.out z)).2.2.2.2).2.1
                  have k6 := fun z => (cells4 (KC.out _ (hf.out z)).2.2.2.2).2.2.1
                  have k7 := fun z => (cells4 (KC.out _ (hf.out z)).2.2.2.2).2.2.2
                  repeat (go_big_quiet_step (first | (go_at_call 9; exact calls_below hf hs (CA.out _ (hf.out _))) | (go_at_call 14; with_reducible exact calls_below hf hs (C1.out _)) | (go_at_call 14; with_reducible exact calls_below hf hs (C2.out _))))
                  refine wpQuiet_nil ?_
                  intro w' hw'
                  have HW' := hid hw'
                  clear k0 k1 k2 k3 k4 k5 k6 k7 hf hs hw'
                  go_wp2
                  go_ret
                  exact ⟨(by first | (simp; done) | (simp; omega)), WQ.out.trans (HW'.out.mono WQ.out.size)⟩
  · have n6 : (12 : Int) < (l : Int) := by omega
    have CA := hid (awake_any _ (hT.below (Go.Frame.two w (.cells #[.int .u64 (wd (q) 0 : Int), .int .u64 (wd (q) 1 : Int), .int .u64 (wd (q) 2 : Int), .int .u64 (wd (q) 3 : Int)] 25) (.cells #[.int .u8 (x : Int), .int .u8 (y : Int)] 46)).2.2.1))
    have BW := hid (Go.Frame.two w (.cells #[.int .u64 (wd (q) 0 : Int), .int .u64 (wd (q) 1 : Int), .int .u64 (wd (q) 2 : Int), .int .u64 (wd (q) 3 : Int)] 25) (.cells #[.int .u8 (x : Int), .int .u8 (y : Int)] 46)).2.2.1
    clear hT hE h12
    unfold sv
    go_enter Tryd.func8, Tryd.ntmps8
    go_wp2_with fail
    refine CA.out.mono ?_
    rintro e w1 ⟨rfl, b1⟩
    have B1 := BW.out.trans (b1.mono BW.out.size)
    go_wp2
    go_ret
    exact ⟨rfl, B1⟩

set_option maxRecDepth 100000 in
theorem lifted (os : Os) (started : os.Started) (H : Type) (enc : TypeId × Value → H) :
    ReturnsInHanded {} Tryd.checked os 8 .any (fun w args => (Rows.bytesetRefinesSpec.pre enc Tryd.prog Tryd.f8 [] false w args ∧ laidMetH Tryd.prog laidT w) ∧ sizedMet enc Tryd.prog Tryd.f8 (OpenSpec.ofChange Rows.bytesetRefinesSpec) false w args) (Rows.bytesetRefinesSpec.post enc Tryd.prog Tryd.f8 false true false false) := by
  refine Go.Frame.lifted_laid (C := Tryd.checked) (tb := 4) laidT own started (by kernel_rfl) Tryd.func8
    (ChangeSpec.witness_shaped (enc := enc) (C := Tryd.checked) (os := os) (X := fun w _ => laidMetH Tryd.prog laidT w) false (World.doorLaid Tryd.prog 400 os) #[.slice none 0 0, .agg #[.int .u64 0, .int .u64 0, .int .u64 0, .int .u64 0], .agg #[.int .u8 0, .int .u8 0]] 8 rfl (World.shaped_of_RefB (by kernel_rfl) (by kernel_rfl)) (by kernel_rfl) (by kernel_rfl) (by kernel_rfl) (door_met os _))
    laidOut (by kernel_rfl) (by kernel_rfl) Tryd.underlying4 rfl ?_ ?_
  · intro ds h
    have h : ds.length = 3 := h
    match ds, h with
    | [_, _, _], _ => rfl
  · intro W base args ds p hlen hval0 hA hsz0 hlaid
    have hval : ∀ (j : Nat) t v, Tryd.f8.params[j]? = some t → args[j]? = some v → Value.okWide Tryd.prog W .any base t v := hval0
    have hA : DataW.TrodAll enc Tryd.prog W 0 (fun _ => true) true Tryd.f8.params.toList args.toList ds p := hA
    have hsz : (DataW.weightsEach Tryd.prog Tryd.f8.params.toList ds).all (· ≤ reachBytes) = true := hsz0
    have hT := tb_of_laid hlaid
    rw [Tryd.params8] at hA hval hsz
    obtain ⟨v0, vs0, d0, ds0, p0, q0, hargs, hds, _, th0, tr0⟩ := trodAll_cons hA
    obtain ⟨v1, vs1, d1, ds1, p1, q1, rfl, rfl, _, th1, tr1⟩ := trodAll_cons tr0
    obtain ⟨v2, vs2, d2, ds2, p2, q2, rfl, rfl, _, th2, tr2⟩ := trodAll_cons tr1
    obtain ⟨rfl, rfl, _⟩ := trodAll_nil tr2
    obtain rfl : args = #[v0, v1, v2] := by cases args; simp_all
    subst hds
    obtain ⟨a0, l0, c0, E0, rfl, hE0⟩ := open_sets (hval 0 41 v0 rfl rfl) th0
    obtain ⟨q1, rfl⟩ := open_set (hval 1 25 v1 rfl rfl) th1
    obtain ⟨x2, y2, rfl, hx2, hy2⟩ := open_two (hval 2 46 v2 rfl rfl) th2
    exact walk a0 l0 c0 E0 q1 x2 y2 W hE0 hx2 hy2 hT

theorem over : Rows.BytesetRefinesSaid :=
  OpenClaim.holds_of_wide 8 Tryd.f8 rfl rfl rfl rfl rfl rfl rfl ⟨rfl, rfl, rfl, rfl, rfl⟩ rfl rfl rfl rfl rfl (by kernel_rfl) Tryd.func8 (by kernel_rfl)
    (of_decide_eq_true (by kernel_rfl)) (by unfold Func.isWrapper; first | (rw [if_pos (by decide +kernel)]; kernel_rfl) | (rw [if_neg (by decide +kernel)]; exact ⟨rfl, rfl⟩))
    (fun os started H enc _ => lifted os started H enc)

/-- THE STATEMENT: the tied card. -/
theorem proved : Rows.BytesetRefinesCardSaid :=
  Claim7.holds_tied_plain_at .later [] [.data] true (true, "f672231fa7014273d113998005b6c842c6084454db453b3aa5ceee129e95c009") false
    over (fun _ h => by cases h) (by kernel_rfl) (fun _ h => by cases h) bytesetRefines_row_tie rfl ⟨rfl, rfl⟩ (by kernel_rfl) rfl
    (fun f fn hf hfn => by
      obtain rfl : f = 8 := Option.some.inj ((show Tryd.prog.funcNamed "emendate/emendatelaw07.BytesetRefines" = some 8 by kernel_rfl).symm.trans hf) |>.symm
      obtain rfl : fn = Tryd.f8 := (Option.some.inj (Tryd.func8.symm.trans hfn)).symm
      exact ⟨by kernel_rfl, fun j t ht => by
        rw [Tryd.params8] at ht
        have hm : t ∈ [41, 25, 46] := by simpa using Array.mem_of_getElem? ht
        have hall : ([41, 25, 46].all fun u => !Tryd.prog.wantsStandIn u) = true := by kernel_rfl
        exact (show Tryd.prog.wantsStandIn t = false by simpa using List.all_eq_true.1 hall t hm)⟩)
    (by kernel_rfl)
#print axioms proved
end Go.Proofs.YtnjlnldbfejjpaaDoor.bytesetRefines
