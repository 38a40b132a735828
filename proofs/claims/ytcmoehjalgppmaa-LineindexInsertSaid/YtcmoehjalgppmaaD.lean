/-
  Contracts: the reference's Position, Line, Offset; Offset.
-/
import Derived.Test.YtcmoehjalgppmaaC

namespace Go.Proofs.Ytcmoehjalgppmaa
open Go.RowKit Te Go.Frame

theorem two_set0 {W : World} {b : Nat} {x y v : Value} {t : TypeId} (h : W.heap[b]? = some (.cells #[x, y] t (0, 0))) : (W.setCell ⟨b, 0, none⟩ v).heap[b]? = some (.cells #[v, y] t (0, 0)) := by
  have hlt := heap_lt h
  have h' : W.heap[b] = .cells #[x, y] t (0, 0) := by simpa [Array.getElem?_eq_getElem hlt] using h
  show (W.heap.modify b _)[b]? = _
  rw [Array.getElem?_eq_getElem (by simpa using hlt), Array.getElem_modify_self, h']
  rfl
theorem two_set1 {W : World} {b : Nat} {x y v : Value} {t : TypeId} (h : W.heap[b]? = some (.cells #[x, y] t (0, 0))) : (W.setCell ⟨b, 1, none⟩ v).heap[b]? = some (.cells #[x, v] t (0, 0)) := by
  have hlt := heap_lt h
  have h' : W.heap[b] = .cells #[x, y] t (0, 0) := by simpa [Array.getElem?_eq_getElem hlt] using h
  show (W.heap.modify b _)[b]? = _
  rw [Array.getElem?_eq_getElem (by simpa using hlt), Array.getElem_modify_self, h']
  rfl
theorem blk_set {W : World} {b : Nat} {o : Obj} {a : Addr} {v : Value} (h : W.heap[b]? = some o) (hn : b ≠ a.block) : (W.setCell a v).heap[b]? = some o := (heap_setCell_other W a b v hn).trans h

set_option maxRecDepth 100000 in
set_option maxHeartbeats 2000000 in
theorem rposition_any (s : ByteArray) (k : Int) (w : World) (hs : s.size ≤ 1000000) :
    Calls Try.prog 18 #[.string s, .int .i64 k] w fun e w' => e = .returned (psv s k) ∧ Below w.heap.size w w' := by
  obtain ⟨W, hW⟩ : ∃ W, W = (w.alloc (.cells #[.int .i64 0, .int .i64 0] 30)).alloc (.cells #[.int .i64 0, .int .i64 0] 30) := ⟨_, rfl⟩
  have bW : Below w.heap.size w W := by rw [hW]; exact ((Below.refl _ _).alloc (Nat.le_refl _) _).alloc (by simp) _
  have hsz := hid (show W.heap.size = w.heap.size + 2 by rw [hW]; simp)
  have hB := hid (show W.heap[w.heap.size]? = some (.cells #[.int .i64 0, .int .i64 0] 30 (0, 0)) by rw [hW]; exact blk_alloc (alloc_new _ _))
  have hC := hid (show W.heap[w.heap.size + 1]? = some (.cells #[.int .i64 0, .int .i64 0] 30 (0, 0)) by rw [hW]; exact alloc_at _ _ (by simp))
  have HW := hid hW
  clear hW
  by_cases h0 : 0 ≤ k
  · obtain ⟨o, rfl⟩ : ∃ o : Nat, k = o := ⟨k.toNat, by omega⟩
    by_cases h1 : o ≤ s.size
    · rw [psv_yes h1]
      have h1' : ¬ ((s.size : Int) < (o : Int)) := by omega
      go_enter Try.func18, Try.ntmps18
      go_wp2_with fail
      rw [← HW.out]
      go_loopg [7] o (fun k s7 wr => ∃ i : Nat, s7 = .int .i64 i ∧ i + k = o ∧ wr.heap.size = w.heap.size + 2 ∧ Below w.heap.size w wr ∧ wr.heap[w.heap.size]? = some (.cells #[.int .i64 0, .int .i64 0] 30 (0, 0)) ∧
        wr.heap[w.heap.size + 1]? = some (.cells #[.int .i64 (ln s i), .int .i64 ((i : Int) - (bg s (ln s i) : Int))] 30 (0, 0)))
      case atStart => exact ⟨0, rfl, by omega, hsz.out, bW, hB.out, hC.out⟩
      case round =>
        obtain ⟨i, rfl, hk, hz, hbw, h3, h4⟩ := hrel
        obtain ⟨k0, k1⟩ := cells2 h4
        obtain ⟨f0, f1⟩ := free2 h4
        by_cases hlt : i < o
        · have hlt' : (i : Int) < (o : Int) := by omega
          have hls : i < s.size := by omega
          have hls' : (i : Int) < (s.size : Int) := by omega
          have hi0 : (0 : Int) ≤ (i : Int) := by omega
          have q1 : IntKind.i64.wrap ((i : Int) - (bg s (ln s i) : Int) + 1) = (i : Int) - (bg s (ln s i) : Int) + 1 := wrapIn (by have := bg_ln (s := s) (o := i); omega) (by omega)
          by_cases hc : nl s i = true
          · have hc' := (nl_byte hls).1 hc
            have e5 := hid (bg_yes hc)
            have e6 := hid (ln_yes hc)
            clear hc
            have q5 : (ln s i : Int) ≤ 1000000 := by have := ln_le s i; have := N_le s; omega
            have H3 := hid h3
            have H4 := hid h4
            clear h3 h4
            go_wp2
            go_roundg (gk - 1)
            case measure => omega
            case rel =>
              refine ⟨i + 1, by go_num, by omega, ?_, ?_, ?_, ?_⟩
              · simpa using hz
              · refine Below.setCell ?_ (by first | (simp; done) | (simp; omega)) _; refine Below.setCell ?_ (by first | (simp; done) | (simp; omega)) _; refine Below.setCell ?_ (by first | (simp; done) | (simp; omega)) _; exact hbw
              · exact blk_set (blk_set (blk_set H3.out (by simp)) (by simp)) (by simp)
              · rw [e5.out, e6.out]
                have := two_set1 (v := .int .i64 0) (two_set0 (v := .int .i64 ((ln s i : Int) + 1)) (two_set1 (v := .int .i64 ((i : Int) - (bg s (ln s i) : Int) + 1)) H4.out))
                simpa using this
          · have hc' : ¬ (s[i].toNat : Int) = 10 := fun h => hc ((nl_byte hls).2 h)
            have e5 := hid (ln_no hc)
            clear hc
            have H3 := hid h3
            have H4 := hid h4
            clear h3 h4
            go_wp2
            go_roundg (gk - 1)
            case measure => omega
            case rel =>
              refine ⟨i + 1, by go_num, by omega, ?_, ?_, ?_, ?_⟩
              · simpa using hz
              · refine Below.setCell ?_ (by first | (simp; done) | (simp; omega)) _; exact hbw
              · exact blk_set H3.out (by simp)
              · rw [e5.out]
                have := two_set1 (v := .int .i64 ((i : Int) - (bg s (ln s i) : Int) + 1)) H4.out
                have e : (((i + 1 : Nat) : Int) - (bg s (ln s i) : Int)) = (i : Int) - (bg s (ln s i) : Int) + 1 := by omega
                rw [e]
                exact this
        · have hin : ¬ (i : Int) < (o : Int) := by omega
          obtain rfl : i = o := by omega
          obtain ⟨m0, m1⟩ := cells2 h3
          obtain ⟨g0, g1⟩ := free2 h3
          go_wp2
          refine bodyPost_ret (v := .tuple #[.agg #[.int .i64 (ln s i), .int .i64 ((i : Int) - (bg s (ln s i) : Int))], .int .i64 0]) ?_ rfl ⟨rfl, ?_⟩
          · simp [results, Try.results18, go_sem, m0, m1]
          · refine Below.setCell ?_ (by first | (simp; done) | (simp; omega)) _; refine Below.setCell ?_ (by first | (simp; done) | (simp; omega)) _; exact hbw
    · rw [psv_no (by omega)]
      have h1' : ((s.size : Int) < (o : Int)) := by omega
      go_enter Try.func18, Try.ntmps18
      go_wp2
      refine bodyPost_ret (v := .tuple #[.agg #[.int .i64 0, .int .i64 0], .int .i64 2]) ?_ rfl ⟨rfl, ?_⟩
      · simp [results, Try.results18, go_sem]
      · exact ((Below.refl _ _).alloc (Nat.le_refl _) _)
  · rw [psv_no (by omega)]
    have h1' : k < 0 := by omega
    go_enter Try.func18, Try.ntmps18
    go_wp2
    refine bodyPost_ret (v := .tuple #[.agg #[.int .i64 0, .int .i64 0], .int .i64 2]) ?_ rfl ⟨rfl, ?_⟩
    · simp [results, Try.results18, go_sem]
    · exact ((Below.refl _ _).alloc (Nat.le_refl _) _)
end Go.Proofs.Ytcmoehjalgppmaa
