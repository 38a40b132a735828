/-
  Contracts: scanner, its function.
-/
import Derived.Test.YtblcjjhjgoccgaaXe
import Derived.Test.YtblcjjhjgoccgaaIv
set_option linter.unusedSimpArgs false
set_option linter.unusedVariables false
namespace Go.Proofs.Ytblcjjhjgoccgaa
open Go.RowKit Lx Go.Frame

set_option maxRecDepth 100000 in
set_option maxHeartbeats 4000000 in
theorem scanner_any (w : World) (v : Value) (a1 : Option Addr) (n1 c1 : Nat) (a2 : Option Addr) (n2 c2 : Nat) (a3 : Option Addr) (n3 c3 : Nat) (t : ByteArray) (p : Int) :
    Calls Try.prog 41 #[.agg #[.slice a1 n1 c1, .slice a2 n2 c2, .slice a3 n3 c3], .string t, .int .i64 p] w fun e w' => e = .returned (.func (.func 51) #[] #[.pointer (some ⟨w.heap.size, 0, none⟩), .pointer (some ⟨w.heap.size + 1, 0, none⟩), .pointer (some ⟨w.heap.size + 1 + 1, 0, none⟩)]) ∧
      w'.heap[w.heap.size]? = some (.cells #[.slice a1 n1 c1, .slice a2 n2 c2, .slice a3 n3 c3] 25 (0, 0)) ∧ w'.heap[w.heap.size + 1]? = some (.cells #[.string t] 9 (0, 0)) ∧ w'.heap[w.heap.size + 1 + 1]? = some (.cells #[.int .i64 p] 3 (0, 0)) ∧ Below w.heap.size w w' := by
  obtain ⟨x1, x2, x3, bW, sW⟩ := three w (.cells #[.slice a1 n1 c1, .slice a2 n2 c2, .slice a3 n3 c3] 25) (.cells #[.string t] 9) (.cells #[.int .i64 p] 3)
  have HW := hid (And.intro x1 (And.intro x2 (And.intro x3 bW)))
  clear x1 x2 x3 bW sW
  go_enter Try.func41, Try.ntmps41
  go_wp2
  go_ret
  exact ⟨rfl, HW.out.1, HW.out.2.1, HW.out.2.2.1, HW.out.2.2.2⟩
/-- What the scanner's function needs. -/
structure SM (W : World) (D : Df) (t : ByteArray) (p : Nat) (B1 B2 B3 : Nat) (a1 : Option Addr) (n1 c1 : Nat) (a2 : Option Addr) (n2 c2 : Nat) (a3 : Option Addr) (n3 c3 : Nat) : Prop where
  da : DA W D a1 n1 a2 n2 a3 n3
  x1 : W.heap[B1]? = some (.cells #[.slice a1 n1 c1, .slice a2 n2 c2, .slice a3 n3 c3] 25 (0, 0))
  x2 : W.heap[B2]? = some (.cells #[.string t] 9 (0, 0))
  x3 : W.heap[B3]? = some (.cells #[.int .i64 (p : Int)] 3 (0, 0))
theorem sc_tail (D : Df) (t : ByteArray) (p : Nat) : sc D (t.extract p t.size) 0 = sc D t p := sc_suffix D t p 0
set_option maxRecDepth 100000 in
set_option maxHeartbeats 4000000 in
theorem scan_any (w : World) (D : Df) (n k : Nat) (hv : Vd D n k) (t : ByteArray) (p : Nat) (B1 B2 B3 : Nat) (a1 : Option Addr) (n1 c1 : Nat) (a2 : Option Addr) (n2 c2 : Nat) (a3 : Option Addr) (n3 c3 : Nat) (h : SM w D t p B1 B2 B3 a1 n1 c1 a2 n2 c2 a3 n3 c3) (hn : B1 ≠ B3 ∧ B2 ≠ B3) (hs : t.size ≤ 1000000) (hp : p < t.size) :
    Calls Try.prog 51 #[.pointer (some ⟨B1, 0, none⟩), .pointer (some ⟨B2, 0, none⟩), .pointer (some ⟨B3, 0, none⟩)] w fun e w' => e = .returned (.agg (tqv (tq (tokAt D t p))).toArray) ∧ w'.heap[B3]? = some (.cells #[.int .i64 ((p + (sc D t p).2.1 : Nat) : Int)] 3 (0, 0)) ∧ Kept (fun b => b = B3 ∨ w.heap.size ≤ b) w w' := by
  obtain ⟨W, hW⟩ : ∃ W, W = w.alloc (.cells #[.int .i64 0, .int .i64 0, .string { data := #[] }, .int .i64 0] 47) := ⟨_, rfl⟩
  have bW := bel1 w (.cells #[.int .i64 0, .int .i64 0, .string { data := #[] }, .int .i64 0] 47)
  have x0 := alloc_new w (.cells #[.int .i64 0, .int .i64 0, .string { data := #[] }, .int .i64 0] 47)
  rw [← hW] at bW x0
  have HH := hid h
  have l1 := heap_lt h.x1
  have l2 := heap_lt h.x2
  have l3 := heap_lt h.x3
  have x1 := (bW.block _ l1).trans h.x1
  have x2 := (bW.block _ l2).trans h.x2
  have x3 := (bW.block _ l3).trans h.x3
  obtain ⟨tk, htk⟩ : ∃ tk, tk = (sc D t p).1 := ⟨_, rfl⟩
  obtain ⟨z, hz⟩ : ∃ z, z = (sc D t p).2.1 := ⟨_, rfl⟩
  obtain ⟨lk, hlk⟩ : ∃ lk, lk = (sc D t p).2.2 := ⟨_, rfl⟩
  obtain ⟨tx, htx⟩ : ∃ tx, tx = t.extract p (p + z) := ⟨_, rfl⟩
  obtain ⟨q1, q2, q3, q4, q5⟩ := sc_bounds (D := D) hp
  have HE := hid (show tqv (tq (tokAt D t p)) = [.int .i64 tk, .int .i64 (p : Int), .string tx, .int .i64 (lk : Int)] from by rw [htk, hlk, htx, hz]; rfl)
  have hts : tx.size = z := by rw [htx, ex_len t (by omega) (by omega)]; omega
  have HTS := hid (And.intro hts hz)
  have CR := hid (fun V (hV : Below W.heap.size W V) => show Calls Try.prog 52 #[.agg #[.slice a1 n1 c1, .slice a2 n2 c2, .slice a3 n3 c3], .string (t.extract p t.size)] V fun e w' => e = .returned (.agg #[.int .i64 tk, .int .i64 0, .string tx, .int .i64 (lk : Int)]) ∧ Below V.heap.size V w' from by
    have hsz : (t.extract p t.size).size = t.size - p := by rw [ByteArray.size_extract]; omega
    have := recognize_any V D n k hv a1 n1 c1 a2 n2 c2 a3 n3 c3 ((h.da.below bW).below hV) (t.extract p t.size) (by omega) (by omega)
    rw [sc_tail] at this
    rw [htk, hlk, htx, hz]
    have e9 := ex_ex t p 0 (sc D t p).2.1 (by omega)
    rw [Nat.add_zero, Nat.zero_add] at e9
    rw [← e9]
    exact this)
  have X := hid (And.intro x1 (And.intro (heap_lt x1) (And.intro x2 (And.intro (heap_lt x2) (And.intro x3 (heap_lt x3))))))
  have HW := hid (And.intro x0 bW)
  have L3 := hid l3
  have HN := hid (And.intro hn (And.intro l1 l2))
  have hp0 : (0 : Int) ≤ (p : Int) := by omega
  have hp1 : (p : Int) ≤ (t.size : Int) := by omega
  have hpz : (p : Int) + (z : Int) ≤ 1000000 := by omega
  clear h hv x0 x1 x2 x3 bW htk hz hlk htx l1 l2 l3 hn q1 q2 q3 q4 q5 hts
  go_enter Try.func51, Try.ntmps51
  go_upto_region 1 with fail
  rw [← hW]
  clear hW
  refine region_inv (fun b a' w' => ∃ (v5 v6 v7 v8 v9 v4 : Value), a' = { tmps := #[.pointer (some ⟨B1, 0, none⟩), .pointer (some ⟨B2, 0, none⟩), .pointer (some ⟨B3, 0, none⟩), .pointer (some ⟨w.heap.size, 0, none⟩), v4, v5, v6, v7, v8, v9, undef, undef, undef, undef, undef, undef, undef, undef], defers := [] } ∧ Below W.heap.size W w' ∧ (b 0 = true → v5 = .agg #[.slice a1 n1 c1, .slice a2 n2 c2, .slice a3 n3 c3]) ∧ (b 1 = true → v6 = .string t) ∧ (b 2 = true → v7 = .int .i64 (p : Int)) ∧ (b 3 = true → v8 = .string (t.extract p t.size)) ∧ (b 4 = true → v9 = .agg #[.int .i64 tk, .int .i64 0, .string tx, .int .i64 (lk : Int)]) ∧ (b 5 = true → ∃ T : Nat, v4 = .pointer (some ⟨T, 0, none⟩) ∧ W.heap.size ≤ T ∧ (b 6 = false → w'.heap[T]? = some (.cells #[.int .i64 0, .int .i64 0, .string { data := #[] }, .int .i64 0] 47 (0, 0))) ∧ (b 6 = true → w'.heap[T]? = some (.cells #[.int .i64 tk, .int .i64 0, .string tx, .int .i64 (lk : Int)] 47 (0, 0)))) ∧ (b 3 = true → b 1 = true) ∧ (b 3 = true → b 2 = true) ∧ (b 4 = true → b 0 = true) ∧ (b 4 = true → b 3 = true) ∧ (b 6 = true → b 5 = true) ∧ (b 6 = true → b 4 = true)) (by kernel_rfl) (back_of (by kernel_rfl)) ?step ?done ?init
  case step =>
    rintro b a' w' i o ho ⟨v5, v6, v7, v8, v9, v4, rfl, hk, h0, h1, h2, h3, h4, h5, q3_1, q3_2, q4_0, q4_3, q6_5, q6_4⟩ hbi hd K hK
    have hlt : i < 7 := by have := (Array.getElem?_eq_some_iff.1 ho).1; simpa using this
    have dep : ∀ k, (o.after.any fun e => Region.binds .any e && e.on == k) = true → b k = true := fun k hk => by
      obtain ⟨e, he, h⟩ := Array.any_eq_true'.1 hk
      simp only [Bool.and_eq_true, beq_iff_eq] at h
      rw [← h.2]; exact hd e he h.1
    clear hd
    have hi : i = 0 ∨ i = 1 ∨ i = 2 ∨ i = 3 ∨ i = 4 ∨ i = 5 ∨ i = 6 := by omega
    clear hlt
    rcases hi with rfl | rfl | rfl | rfl | rfl | rfl | rfl
    · simp only [List.getElem?_toArray, List.getElem?_cons_zero, List.getElem?_cons_succ, Option.some.injEq] at ho
      subst ho
      obtain ⟨d0, d1, d2⟩ := cells3 ((hk.block _ X.out.2.1).trans X.out.1)
      go_simp
      refine hK.out _ _ ⟨_, _, _, _, _, _, rfl, hk, fun _ => rfl, fun h => h1 (by simpa using h), fun h => h2 (by simpa using h), fun h => h3 (by simpa using h), fun h => h4 (by simpa using h), fun h => (h5 (by simpa using h)).imp fun T e => ⟨e.1, e.2.1, fun h9 => e.2.2.1 (by simpa using h9), fun h9 => e.2.2.2 (by simpa using h9)⟩, fun h => by simp [q3_1 (by simpa using h)], fun h => by simp [q3_2 (by simpa using h)], fun h => by simp [q4_0 (by simpa using h)], fun h => by simp [q4_3 (by simpa using h)], fun h => by simp [q6_5 (by simpa using h)], fun h => by simp [q6_4 (by simpa using h)]⟩
    · simp only [List.getElem?_toArray, List.getElem?_cons_zero, List.getElem?_cons_succ, Option.some.injEq] at ho
      subst ho
      have d3 := cells1 ((hk.block _ X.out.2.2.2.1).trans X.out.2.2.1)
      go_simp
      refine hK.out _ _ ⟨_, _, _, _, _, _, rfl, hk, fun h => h0 (by simpa using h), fun _ => rfl, fun h => h2 (by simpa using h), fun h => h3 (by simpa using h), fun h => h4 (by simpa using h), fun h => (h5 (by simpa using h)).imp fun T e => ⟨e.1, e.2.1, fun h9 => e.2.2.1 (by simpa using h9), fun h9 => e.2.2.2 (by simpa using h9)⟩, fun h => by simp [q3_1 (by simpa using h)], fun h => by simp [q3_2 (by simpa using h)], fun h => by simp [q4_0 (by simpa using h)], fun h => by simp [q4_3 (by simpa using h)], fun h => by simp [q6_5 (by simpa using h)], fun h => by simp [q6_4 (by simpa using h)]⟩
    · simp only [List.getElem?_toArray, List.getElem?_cons_zero, List.getElem?_cons_succ, Option.some.injEq] at ho
      subst ho
      have d4 := cells1 ((hk.block _ X.out.2.2.2.2.2).trans X.out.2.2.2.2.1)
      go_simp
      refine hK.out _ _ ⟨_, _, _, _, _, _, rfl, hk, fun h => h0 (by simpa using h), fun h => h1 (by simpa using h), fun _ => rfl, fun h => h3 (by simpa using h), fun h => h4 (by simpa using h), fun h => (h5 (by simpa using h)).imp fun T e => ⟨e.1, e.2.1, fun h9 => e.2.2.1 (by simpa using h9), fun h9 => e.2.2.2 (by simpa using h9)⟩, fun h => by simp [q3_1 (by simpa using h)], fun h => by simp [q3_2 (by simpa using h)], fun h => by simp [q4_0 (by simpa using h)], fun h => by simp [q4_3 (by simpa using h)], fun h => by simp [q6_5 (by simpa using h)], fun h => by simp [q6_4 (by simpa using h)]⟩
    · simp only [List.getElem?_toArray, List.getElem?_cons_zero, List.getElem?_cons_succ, Option.some.injEq] at ho
      subst ho
      have e_1 := dep 1 (by kernel_rfl)
      have e_2 := dep 2 (by kernel_rfl)
      obtain rfl := h1 e_1
      obtain rfl := h2 e_2
      go_simp
      refine hK.out _ _ ⟨_, _, _, _, _, _, rfl, hk, fun h => h0 (by simpa using h), fun _ => rfl, fun _ => rfl, fun _ => rfl, fun h => h4 (by simpa using h), fun h => (h5 (by simpa using h)).imp fun T e => ⟨e.1, e.2.1, fun h9 => e.2.2.1 (by simpa using h9), fun h9 => e.2.2.2 (by simpa using h9)⟩, fun _ => by simp [e_1], fun _ => by simp [e_2], fun h => by simp [q4_0 (by simpa using h)], fun h => by simp [q4_3 (by simpa using h)], fun h => by simp [q6_5 (by simpa using h)], fun h => by simp [q6_4 (by simpa using h)]⟩
    · simp only [List.getElem?_toArray, List.getElem?_cons_zero, List.getElem?_cons_succ, Option.some.injEq] at ho
      subst ho
      have e_0 := dep 0 (by kernel_rfl)
      have e_3 := dep 3 (by kernel_rfl)
      have e_1 := q3_1 e_3
      have e_2 := q3_2 e_3
      obtain rfl := h0 e_0
      obtain rfl := h1 e_1
      obtain rfl := h2 e_2
      obtain rfl := h3 e_3
      have n6 : b 6 = false := by
        cases hb : b 6
        · rfl
        · have := q6_4 hb; rw [hbi] at this; cases this
      have CC := hid (CR.out _ hk)
      go_simp
      refine CC.out.mono ?_
      rintro e W5 ⟨rfl, b5⟩
      refine hK.out _ _ ⟨_, _, _, _, _, _, rfl, hk.trans (b5.mono hk.size), fun _ => rfl, fun _ => rfl, fun _ => rfl, fun _ => rfl, fun _ => rfl, fun h => by obtain ⟨T, e, t1, t2, t3⟩ := h5 (by simpa using h); exact ⟨T, e, t1, fun _ => (b5.block _ (heap_lt (t2 n6))).trans (t2 n6), fun h9 => absurd h9 (by simp [n6])⟩, fun h => by simp [q3_1 (by simpa using h)], fun h => by simp [q3_2 (by simpa using h)], fun _ => by simp [e_0], fun _ => by simp [e_3], fun h => by simp [q6_5 (by simpa using h)], fun h => by simp [q6_4 (by simpa using h)]⟩
    · simp only [List.getElem?_toArray, List.getElem?_cons_zero, List.getElem?_cons_succ, Option.some.injEq] at ho
      subst ho
      have n6 : b 6 = false := by
        cases hb : b 6
        · rfl
        · have := q6_5 hb; rw [hbi] at this; cases this
      have b5 := bel1 w' (.cells #[.int .i64 0, .int .i64 0, .string { data := #[] }, .int .i64 0] 47)
      go_simp
      refine hK.out _ _ ⟨_, _, _, _, _, _, rfl, hk.trans (b5.mono hk.size), fun h => h0 (by simpa using h), fun h => h1 (by simpa using h), fun h => h2 (by simpa using h), fun h => h3 (by simpa using h), fun h => h4 (by simpa using h), fun _ => ⟨w'.heap.size, rfl, hk.size, fun _ => alloc_new _ _, fun h9 => absurd h9 (by simp [n6])⟩, fun h => by simp [q3_1 (by simpa using h)], fun h => by simp [q3_2 (by simpa using h)], fun h => by simp [q4_0 (by simpa using h)], fun h => by simp [q4_3 (by simpa using h)], fun h => by simp [q6_5 (by simpa using h)], fun h => by simp [q6_4 (by simpa using h)]⟩
    · simp only [List.getElem?_toArray, List.getElem?_cons_zero, List.getElem?_cons_succ, Option.some.injEq] at ho
      subst ho
      have e_5 := dep 5 (by kernel_rfl)
      have e_4 := dep 4 (by kernel_rfl)
      have e_0 := q4_0 e_4
      have e_3 := q4_3 e_4
      have e_1 := q3_1 e_3
      have e_2 := q3_2 e_3
      obtain rfl := h0 e_0
      obtain rfl := h1 e_1
      obtain rfl := h2 e_2
      obtain rfl := h3 e_3
      obtain rfl := h4 e_4
      obtain ⟨T, rfl, t1, t2, t3⟩ := h5 e_5
      have t4 := t2 hbi
      obtain ⟨f0, f1, f2, f3⟩ := frozen4 t4
      obtain ⟨e0, e1, e2, e3⟩ := cells4 t4
      have hT := hid (And.intro t1 t4)
      clear t1 t4 t2 t3
      go_simp
      refine hK.out _ _ ⟨_, _, _, _, _, _, rfl, below_put (below_put (below_put (below_put hk hT.out.1) hT.out.1) hT.out.1) hT.out.1, fun _ => rfl, fun _ => rfl, fun _ => rfl, fun _ => rfl, fun _ => rfl, fun _ => ⟨T, rfl, hT.out.1, fun h9 => absurd h9 (by simp), fun _ => four_set hT.out.2⟩, fun h => by simp [q3_1 (by simpa using h)], fun h => by simp [q3_2 (by simpa using h)], fun h => by simp [q4_0 (by simpa using h)], fun h => by simp [q4_3 (by simpa using h)], fun _ => by simp [e_5], fun _ => by simp [e_4]⟩
  case done =>
    rintro b a' w' ⟨v5, v6, v7, v8, v9, v4, rfl, hk, h0, h1, h2, h3, h4, h5, q3_1, q3_2, q4_0, q4_3, q6_5, q6_4⟩ hall
    obtain rfl := h0 (hall 0)
    obtain rfl := h1 (hall 1)
    obtain rfl := h2 (hall 2)
    obtain rfl := h3 (hall 3)
    obtain rfl := h4 (hall 4)
    obtain ⟨T, rfl, hT, _, ht⟩ := h5 (hall 5)
    have ht := ht (hall 6)
    have HZ := hid (And.intro hk (And.intro hT ht))
    obtain ⟨r0, r1, r2, r3⟩ := cells4 ht
    obtain ⟨f0, f1, f2, f3⟩ := frozen4 ht
    have y0 := (hk.block _ (heap_lt HW.out.1)).trans HW.out.1
    obtain ⟨g0, g1, g2, g3⟩ := frozen4 y0
    obtain ⟨p0, p1, p2, p3⟩ := cells4 y0
    have y3 := (hk.block _ X.out.2.2.2.2.2).trans X.out.2.2.2.2.1
    have d4 := cells1 y3
    have f4 := Go.Frame.free y3 0
    have HY := hid (And.intro y0 y3)
    have nT3 : ¬ T = B3 := by have := X.out.2.2.2.2.2; omega
    have nT3' : ¬ B3 = T := by have := X.out.2.2.2.2.2; omega
    have nT0 : ¬ T = w.heap.size := by have := heap_lt HW.out.1; omega
    have nT0' : ¬ w.heap.size = T := by have := heap_lt HW.out.1; omega
    have n30 : ¬ B3 = w.heap.size := by have := L3.out; omega
    have n30' : ¬ w.heap.size = B3 := by have := L3.out; omega
    clear h0 h1 h2 h3 h4 h5 hk hT ht hall y0 y3
    have hsum : IntKind.i64.wrap ((p : Int) + (tx.size : Int)) = ((p + z : Nat) : Int) := by rw [HTS.out.1, wrapIn (by omega) (by omega)]; omega
    go_wp2_with fail
    refine bodyPost_ret (v := .agg #[.int .i64 tk, .int .i64 (p : Int), .string tx, .int .i64 (lk : Int)]) ?_ rfl ⟨by rw [HE.out], ?_, ?_⟩
    · simp [results, Try.results51, go_sem, p0, p1, p2, p3, nT0, nT0', n30, n30']
    · rw [← HTS.out.2]
      exact far4 ((blk_put (blk_set HY.out.2 (by first | (simp; done) | (simp; omega)))).trans rfl) n30
    · have hb3 := HN.out
      refine Kept.trans (Kept.below HW.out.2 fun b hb => .inr hb) (Kept.trans (Kept.below HZ.out.1 fun b hb => .inr (by have := HW.out.2.size; omega)) ?_)
      have hTw : w.heap.size ≤ T := by have := HW.out.2.size; have := HZ.out.2.1; omega
      refine Kept.setCell (Kept.setCell (Kept.setCell (Kept.setCell (Kept.setCell (Kept.setCell (Kept.refl _ _) ?_ _) ?_ _) ?_ _) ?_ _) ?_ _) ?_ _
      · exact .inr hTw
      · exact .inl rfl
      all_goals exact .inr (Nat.le_refl _)
  case init =>
    exact ⟨_, _, _, _, _, _, rfl, (Below.refl _ _).drew, fun h => absurd h (by simp), fun h => absurd h (by simp), fun h => absurd h (by simp), fun h => absurd h (by simp), fun h => absurd h (by simp), fun h => absurd h (by simp), fun h => absurd h (by simp), fun h => absurd h (by simp), fun h => absurd h (by simp), fun h => absurd h (by simp), fun h => absurd h (by simp), fun h => absurd h (by simp)⟩
end Go.Proofs.Ytblcjjhjgoccgaa
