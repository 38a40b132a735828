/-
  Contracts: New; the reference's Lines.
-/
import Derived.Test.YtcmoehjalgppmaaA
import Derived.Laws.OwnMore

namespace Go.Proofs.Ytcmoehjalgppmaa
open Go.RowKit Te Go.Frame

theorem Try.info3 : (Try.prog.info? 3).map (fun i => (i.zero, i.size, i.bytes)) = some (some (.int .i64 0), 1, 8) := by kernel_rfl
theorem Try.info9 : (Try.prog.info? 9).map (fun i => (i.zero, i.size, i.bytes)) = some (some (.string .empty), 1, 16) := by kernel_rfl
theorem one_cell (w : World) (t : TypeId) (v u : Value) (j : Nat) (hj : ([v] : List Value)[j]? = some u) : (w.alloc (.cells #[v] t)).cell? ((⟨w.heap.size, 0, none⟩ : Addr).add j) = some u := by
  match j, hj with
  | 0, hj =>
    simp only [List.getElem?_cons_zero, Option.some.injEq] at hj
    subst hj
    show World.cell? _ ⟨w.heap.size, 0 + 0, none⟩ = _
    unfold World.cell?
    rw [alloc_new]
    rfl
  | j + 1, hj => simp at hj
theorem own_row {W : World} {base : Nat} {e : TypeId} {v : Value} {n : Nat} {l : List Value} (h : W.ownsRow base e 1 v n l) : ∃ p c, v = .slice p n c ∧ Row W p n l := by
  have hl : l.length = n := by have := h.1; omega
  rcases h.2 with ⟨rfl, rfl⟩ | ⟨g, cap, cur, rfl, hb, hg, hn, _, hc, ht⟩
  · exact ⟨none, 0, rfl, hl, .inl rfl⟩
  · refine ⟨_, cap, rfl, hl, .inr ⟨g, 0, rfl, heap_lt hg, fun i x hx => ?_⟩⟩
    have hi := (List.getElem?_eq_some_iff.1 hx).1
    rw [← ht, List.getElem?_take] at hx
    split at hx
    · simp [World.cell?, hg]
      simpa using hx
    · cases hx
theorem free2 {W : World} {b : Nat} {x y : Value} {t : TypeId} (h : W.heap[b]? = some (.cells #[x, y] t (0, 0))) : W.frozen? ⟨b, 0, none⟩ = false ∧ W.frozen? ⟨b, 1, none⟩ = false := by
  refine ⟨?_, ?_⟩ <;> simp [World.frozen?, h]
theorem own_row' {W : World} {base : Nat} {e : TypeId} {p : Option Addr} {n c : Nat} {l : List Value} (h : W.ownsRow base e 1 (.slice p n c) n l) : Row W p n l := by
  obtain ⟨p', c', he, hr⟩ := own_row h
  simp only [Value.slice.injEq, true_and] at he
  rw [he.1]
  exact hr
theorem own_base {W : World} {base : Nat} {e : TypeId} {p : Option Addr} {n c : Nat} {l : List Value} (h : W.ownsRow base e 1 (.slice p n c) n l) : ∀ a, p = some a → base ≤ a.block := by
  intro a ha
  subst ha
  rcases h.2 with ⟨h1, _⟩ | ⟨g, cap, cur, h1, hb, _⟩
  · simp at h1
  · simp only [Value.slice.injEq, Option.some.injEq] at h1
    rw [h1.1]; exact hb
theorem Row.set {W : World} {p : Option Addr} {n : Nat} {l : List Value} (h : Row W p n l) {x : Addr} {v : Value} (hp : ∀ a, p = some a → a.block ≠ x.block) : Row (W.setCell x v) p n l := by
  refine ⟨h.1, h.2.imp id ?_⟩
  rintro ⟨b, off, rfl, hb, hx⟩
  refine ⟨b, off, rfl, by simpa using hb, fun i y hy => ?_⟩
  rw [World.cell?_setCell_other _ _ _ _ (fun e => hp _ rfl (by rw [e]))]
  exact hx i y hy
/-- What New comes to. -/
def NewRes (s : ByteArray) (w : World) (e : Ending) (w' : World) : Prop := (∃ p n c, e = .returned (.agg #[.string s, .slice p n c]) ∧ Ix w' p n s ∧ ∀ a, p = some a → w.heap.size ≤ a.block) ∧ Below w.heap.size w w'

set_option maxRecDepth 100000 in
set_option maxHeartbeats 2000000 in
theorem new_any (s : ByteArray) (w : World) (hs : s.size ≤ 1000000) : Calls Try.prog 12 #[.string s] w fun e w' => NewRes s w e w' := by
  obtain ⟨i0, hi, hz0, hz1, hz2⟩ := info_parts Try.info3
  obtain ⟨W, hW⟩ : ∃ W, W = w.alloc (.cells #[.string .empty, .slice none 0 0] 26) := ⟨_, rfl⟩
  have bW : Below w.heap.size w W := by rw [hW]; exact (Below.refl _ _).alloc (Nat.le_refl _) _
  have hsz := hid (show W.heap.size = w.heap.size + 1 by rw [hW]; simp)
  have hB := hid (show W.heap[w.heap.size]? = some (.cells #[.string .empty, .slice none 0 0] 26 (0, 0)) by rw [hW]; exact alloc_new _ _)
  have HW := hid hW
  clear hW
  go_enter Try.func12, Try.ntmps12
  go_wp2_with fail
  go_loopg [3, 7] s.size (fun k s3 s7 wr => ∃ i : Nat, s7 = .int .i64 i ∧ i + k = s.size ∧ wr.ownsRow W.heap.size 3 1 s3 (Sk s i).length (ints (Sk s i)) ∧ Below W.heap.size W wr)
  case atStart => exact ⟨0, rfl, by omega, World.ownsRow_nil _ _ _ _, by rw [HW.out]; exact Below.refl _ _⟩
  case round =>
    obtain ⟨i, rfl, hk, hown, hbw⟩ := hrel
    by_cases hlt : i < s.size
    · have hlt' : (i : Int) < (s.size : Int) := by omega
      have hi0 : (0 : Int) ≤ (i : Int) := by omega
      have hlen := Sk_len s i
      by_cases hc : nl s i = true
      · have hc' := (nl_byte hlt).1 hc
        have HC := hid hc
        clear hc
        go_wp2_with (at_builtin; refine wpList_append_own _ rfl (.tmp 14) (.tmp 17) 24 rfl W.heap.size 3 i0 (.int .i64 0) 1 8 Try.underlying24 hi hz0 hz1 hz2 rfl (by decide) _ _ _ rfl (hown.alloc _) ⟨wr.heap.size, 0, none⟩ 1 1 [.int .i64 (↑i + 1)] rfl rfl ?c1 ?c2 ?c3 ?c4 ?c5 ?_)
        case c1 => exact fun j u hj => one_cell _ _ _ _ _ hj
        case c2 => intro u hu; simp at hu; subst hu; rfl
        case c3 => unfold maxLen; omega
        case c4 => omega
        case c5 => have := hbw.size; simp; omega
        intro v' w1 hown' hgrow _
        have hb1 : Below W.heap.size W w1 := (hbw.alloc hbw.size _).grown hgrow (by have := hbw.size; simp; omega) (fun k hk => (hown.lt k hk).1)
        have hown2 : w1.ownsRow W.heap.size 3 1 v' (Sk s (i + 1)).length (ints (Sk s (i + 1))) := by
          rw [Sk_yes HC.out]
          simpa [ints] using hown'
        clear hown' hgrow hown
        go_wp2
        go_roundg (gk - 1)
        case measure => omega
        case rel => exact ⟨i + 1, by go_num, by omega, hown2, hb1⟩
      · have hc' : ¬ (s[i].toNat : Int) = 10 := fun h => hc ((nl_byte hlt).2 h)
        have hown2 := hown
        rw [← Sk_no hc] at hown2
        clear hc
        go_wp2
        go_roundg (gk - 1)
        case measure => omega
        case rel => exact ⟨i + 1, by go_num, by omega, hown2, hbw⟩
    · have hin : ¬ (i : Int) < (s.size : Int) := by omega
      obtain rfl : i = s.size := by omega
      obtain ⟨p, c, rfl, hrow⟩ := own_row hown
      obtain ⟨k0, k1⟩ := cells2 ((hbw.block _ (by have := hsz.out; omega)).trans hB.out)
      obtain ⟨f0, f1⟩ := free2 ((hbw.block _ (by have := hsz.out; omega)).trans hB.out)
      have hlw := heap_lt ((hbw.block _ (by have := hsz.out; omega)).trans hB.out)
      have HO := hid hown
      clear hown
      go_wp2
      refine bodyPost_ret (v := .agg #[.string s, .slice p (Sk s s.size).length c]) ?_ rfl ⟨⟨p, (Sk s s.size).length, c, rfl, ?_, fun a ha => by have := own_base HO.out a ha; have := hsz.out; omega⟩, ?_⟩
      · simp [results, Try.results12, go_sem, k0, k1]
      · refine own_row' (base := W.heap.size) (e := 3) (c := c) ?_
        exact ownsRow_setCell_below (ownsRow_setCell_below HO.out (a := ⟨w.heap.size, 0, none⟩) (by have := hsz.out; show w.heap.size < _; omega) _) (a := ⟨w.heap.size, 1, none⟩) (by have := hsz.out; show w.heap.size < _; omega) _
      · refine Below.setCell ?_ (by first | (simp; done) | (simp; omega)) _
        refine Below.setCell ?_ (by first | (simp; done) | (simp; omega)) _
        exact bW.trans (hbw.mono bW.size)

/-- What the reference's Lines comes to. -/
def LinesRes (s : ByteArray) (w : World) (e : Ending) (w' : World) : Prop := (∃ p c, e = .returned (.slice p (N s + 1) c) ∧ Row w' p (N s + 1) (strs (Ls s))) ∧ Below w.heap.size w w'

set_option maxRecDepth 100000 in
set_option maxHeartbeats 2000000 in
theorem rlines_any (s : ByteArray) (w : World) (hs : s.size ≤ 1000000) : Calls Try.prog 22 #[.string s] w fun e w' => LinesRes s w e w' := by
  obtain ⟨i0, hi, hz0, hz1, hz2⟩ := info_parts Try.info9
  go_enter Try.func22, Try.ntmps22
  go_wp2_with fail
  go_loopg [3, 4, 5] s.size (fun k s3 s4 s5 wr => ∃ i : Nat, s5 = .int .i64 i ∧ i + k = s.size ∧ s4 = .int .i64 (bg s (ln s i)) ∧ wr.ownsRow w.heap.size 9 1 s3 (ln s i) (strs ((Ls s).take (ln s i))) ∧ Below w.heap.size w wr)
  case atStart => exact ⟨0, rfl, by omega, rfl, World.ownsRow_nil _ _ _ _, Below.refl _ _⟩
  case round =>
    obtain ⟨i, rfl, hk, rfl, hown, hbw⟩ := hrel
    have hN := N_le s
    have hln := ln_le s i
    by_cases hlt : i < s.size
    · have hlt' : (i : Int) < (s.size : Int) := by omega
      have hi0 : (0 : Int) ≤ (i : Int) := by omega
      by_cases hc : nl s i = true
      · have hc' := (nl_byte hlt).1 hc
        have HC := hid hc
        have q1 : (bg s (ln s i) : Int) ≤ (i : Int) := by have := bg_ln (s := s) (o := i); omega
        have q0 : (0 : Int) ≤ (bg s (ln s i) : Int) := by omega
        have q2 : (i : Int) ≤ (s.size : Int) := by omega
        clear hc
        go_wp2_with (at_builtin; refine wpList_append_own _ rfl (.tmp 16) (.tmp 21) 49 rfl w.heap.size 9 i0 (.string .empty) 1 16 Try.underlying49 hi hz0 hz1 hz2 rfl (by decide) _ _ _ rfl (hown.alloc _) ⟨wr.heap.size, 0, none⟩ 1 1 [.string (s.extract (bg s (ln s i)) i)] rfl rfl ?c1 ?c2 ?c3 ?c4 ?c5 ?_)
        case c1 => exact fun j u hj => one_cell _ _ _ _ _ hj
        case c2 => intro u hu; simp at hu; subst hu; rfl
        case c3 => unfold maxLen; omega
        case c4 => omega
        case c5 => have := hbw.size; simp; omega
        intro v' w1 hown' hgrow _
        have hb1 : Below w.heap.size w w1 := (hbw.alloc hbw.size _).grown hgrow (by have := hbw.size; simp; omega) (fun k hk => (hown.lt k hk).1)
        have hown2 : w1.ownsRow w.heap.size 9 1 v' (ln s (i + 1)) (strs ((Ls s).take (ln s (i + 1)))) := by
          rw [ln_yes HC.out, Ls_take hln, strs, List.map_append]
          have e := (en_yes HC.out).1
          unfold lineAt
          rw [e]
          exact hown'
        have e5 := hid (bg_yes HC.out)
        clear hown' hgrow hown
        go_wp2
        go_roundg (gk - 1)
        case measure => omega
        case rel => exact ⟨i + 1, by go_num, by omega, by rw [e5.out]; go_num, hown2, hb1⟩
      · have hc' : ¬ (s[i].toNat : Int) = 10 := fun h => hc ((nl_byte hlt).2 h)
        have e5 := hid (ln_no hc)
        clear hc
        go_wp2
        go_roundg (gk - 1)
        case measure => omega
        case rel => exact ⟨i + 1, by go_num, by omega, by rw [e5.out], by rw [e5.out]; exact hown, hbw⟩
    · have hin : ¬ (i : Int) < (s.size : Int) := by omega
      obtain rfl : i = s.size := by omega
      rw [ln_size] at hown hln
      have q1 : (bg s (N s) : Int) ≤ (s.size : Int) := by have := bg_en (s := s) (n := N s) (Nat.le_refl _); omega
      have q0 : (0 : Int) ≤ (bg s (N s) : Int) := by omega
      have e0 := ln_size s
      go_wp2_with (at_builtin; refine wpList_append_own _ rfl (.tmp 25) (.tmp 29) 49 rfl w.heap.size 9 i0 (.string .empty) 1 16 Try.underlying49 hi hz0 hz1 hz2 rfl (by decide) _ _ _ rfl (hown.alloc _) ⟨wr.heap.size, 0, none⟩ 1 1 [.string (s.extract (bg s (N s)) s.size)] rfl rfl ?c1U ?c2U ?c3U ?c4U ?c5U ?_)
      case c2U => first | rfl | (intro u hu; simp at hu; subst hu; rfl)
      case c3U => unfold maxLen; omega
      case c4U => omega
      case c5U => have := hbw.size; simp; omega
      intro v' w1 hown' hgrow _
      have hb1 : Below w.heap.size w w1 := (hbw.alloc hbw.size _).grown hgrow (by have := hbw.size; simp; omega) (fun k hk => (hown.lt k hk).1)
      have hown2 : w1.ownsRow w.heap.size 9 1 v' (N s + 1) (strs (Ls s)) := by
        have : Ls s = (Ls s).take (N s + 1) := by rw [List.take_of_length_le (by rw [Ls_length]; exact Nat.le_refl _)]
        rw [this, Ls_take (Nat.le_refl _), strs, List.map_append]
        unfold lineAt
        rw [en_last]
        exact hown'
      obtain ⟨p, c, rfl, hrow⟩ := own_row hown2
      clear hown' hgrow hown
      go_wp2
      go_ret
      exact ⟨⟨p, c, rfl, hrow⟩, hb1⟩
end Go.Proofs.Ytcmoehjalgppmaa
