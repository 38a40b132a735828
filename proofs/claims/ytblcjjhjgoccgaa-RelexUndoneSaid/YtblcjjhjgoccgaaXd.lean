/-
  Contracts: slices.Grow of nil, slices.Concat of slices of tokens.
-/
import Derived.Test.YtblcjjhjgoccgaaXc
set_option linter.unusedSimpArgs false
set_option linter.unusedVariables false
namespace Go.Proofs.Ytblcjjhjgoccgaa
open Go.RowKit Lx Go.Frame Go.Shelf

set_option maxRecDepth 100000 in
set_option maxHeartbeats 4000000 in
theorem Grow_any (w : World) (m : Nat) (hm : m ≤ 1000000) : Calls Try.prog 43 #[.slice none 0 0, .int .i64 (m : Int)] w (fun e w' => (∃ a c, e = .returned (.slice a 0 c) ∧ w'.ownsRow w.heap.size 47 4 (.slice a 0 c) 0 (tl [])) ∧ Below w.heap.size w w') := by
  obtain ⟨i0, hi, hz0, hz1, hz2⟩ := info_parts info47
  by_cases h0 : m = 0
  · subst h0
    go_enter Try.func43, Try.ntmps43
    go_wp2
    go_ret
    exact ⟨⟨none, 0, rfl, World.ownsRow_nil _ _ _ _⟩, Below.refl _ _⟩
  · have h1 : (0 : Int) < (m : Int) := by omega
    have h2 : ¬ (m : Int) < 0 := by omega
    have hs : (m : Int) - 0 = (m : Int) := by omega
    have hr := Lib.run_append_nil_zeros (P := Try.prog) w 32 3 32 47 i0 _ .i64 .i64 Try.underlying32 Try.underlying3 hi hz0 m (by omega) (by rw [hz1]; decide) (by omega) (by rw [hz2]; omega)
    obtain ⟨C, hC⟩ : ∃ C, C = Builtin.zeroCells (Value.agg #[.int .i64 0, .int .i64 0, .string { data := #[] }, .int .i64 0]).cells m ++ Builtin.zeroCells (Value.agg #[.int .i64 0, .int .i64 0, .string { data := #[] }, .int .i64 0]).cells (grownCap w m 0 47 - m) := ⟨_, rfl⟩
    obtain ⟨q, hq⟩ : ∃ q, q = grownCap w m 0 47 := ⟨_, rfl⟩
    have hge := grownCap_ge w m 0 47
    have hle := grownCap_le_maxLen w m 0 47 (by unfold maxLen; omega)
    have hCs : C.size = q * 4 := by
      rw [hC, hq]
      simp only [Array.size_append, size_zeroCells, Value.cells]
      simp
      omega
    rw [← hC, ← hq] at hr
    rw [← hq] at hge hle
    have HO := hid (show (w.drew.alloc (.cells C 47)).ownsRow w.heap.size 47 4 (.slice (some ⟨w.heap.size, 0, none⟩) 0 q) 0 (tl []) from by
      refine ⟨rfl, .inr ⟨w.heap.size, q, C, rfl, Nat.le_refl _, alloc_new _ _, by omega, hle, hCs, by simp [tl]⟩⟩)
    have HB := hid (show Below w.heap.size w (w.drew.alloc (.cells C 47)) from (Below.refl w.heap.size w).drew.alloc (Nat.le_refl _) _)
    have hq0 : (0 : Int) ≤ (q : Int) := by omega
    clear hC hq hCs hle
    go_enter Try.func43, Try.ntmps43
    go_wp2_with (at_builtin; refine Lib.wpList_append_run _ rfl _ _ _ _ rfl _ _ rfl rfl _ _ hr ?_)
    go_ret
    exact ⟨⟨_, q, rfl, HO.out⟩, HB.out⟩
theorem own_down {W : World} {b b' e s n : Nat} {v : Value} {xs : List Value} (h : W.ownsRow b e s v n xs) (hb : b' ≤ b) : W.ownsRow b' e s v n xs := by
  refine ⟨h.1, ?_⟩
  rcases h.2 with hn | ⟨g, cap, cur, rfl, h1, h2⟩
  · exact .inl hn
  · exact .inr ⟨g, cap, cur, rfl, Nat.le_trans hb h1, h2⟩
/-- A list of slices: pointer, capacity, tokens. -/
abbrev SQ := Option Addr × Nat × List TQ
def sqv (e : SQ) : Value := .slice e.1 e.2.2.length e.2.1
def cat (S : List SQ) : List TQ := S.flatMap fun e => e.2.2
theorem cat_snoc {S : List SQ} {i : Nat} {e : SQ} (h : S[i]? = some e) : cat (S.take (i + 1)) = cat (S.take i) ++ e.2.2 := by
  unfold cat
  rw [List.take_add_one, h, List.flatMap_append]
  simp
theorem cat_le {S : List SQ} {i : Nat} {e : SQ} (h : S[i]? = some e) : (cat (S.take i)).length + e.2.2.length ≤ (cat S).length := by
  have e1 : cat S = cat (S.take (i + 1)) ++ cat (S.drop (i + 1)) := by unfold cat; rw [← List.flatMap_append, List.take_append_drop]
  rw [e1, cat_snoc h, List.length_append, List.length_append]
  omega
/-- A slice of slices of tokens in memory. -/
def SRow (W : World) (p : Option Addr) (n : Nat) (S : List SQ) : Prop := Row W p n (S.map sqv) ∧ ∀ e ∈ S, TRow W e.1 e.2.2.length e.2.2
theorem SRow.below {W W' : World} {p : Option Addr} {n : Nat} {S : List SQ} (h : SRow W p n S) (hb : Below W.heap.size W W') : SRow W' p n S := ⟨h.1.below hb, fun e he => (h.2 e he).below hb⟩
theorem srow_at {W : World} {p : Option Addr} {n i : Nat} {S : List SQ} (h : SRow W p n S) (hi : i < n) : ∃ b off e, p = some ⟨b, off, none⟩ ∧ S[i]? = some e ∧ W.cell? ⟨b, off + i, none⟩ = some (.slice e.1 e.2.2.length e.2.1) ∧ TRow W e.1 e.2.2.length e.2.2 := by
  have hl : S.length = n := by have := h.1.1; simpa using this
  rcases h.1.2 with h0 | ⟨b, off, rfl, hb, hx⟩
  · omega
  · have hil : i < S.length := by omega
    have h1 : S[i]? = some S[i] := List.getElem?_eq_getElem hil
    exact ⟨b, off, S[i], rfl, h1, hx i _ (by rw [List.getElem?_map, h1]; rfl), h.2 _ (List.getElem_mem _)⟩
set_option maxRecDepth 100000 in
set_option maxHeartbeats 4000000 in
theorem Concat_any (w : World) (p : Option Addr) (n c : Nat) (S : List SQ) (h : SRow w p n S) (hn : n ≤ 1000) (ht : (cat S).length ≤ 1000000) : Calls Try.prog 27 #[.slice p n c] w (ORes w (cat S)) := by
  have H := hid h
  have HL := hid (show S.length = n from by have := h.1.1; simpa using this)
  have HT := hid ht
  clear h ht
  go_enter Try.func27, Try.ntmps27
  go_wp2_with fail
  go_loopg [3, 11] n (fun kk s3 s11 wr => ∃ (i m : Nat), s3 = .int .i64 (m : Int) ∧ s11 = .int .i64 (i : Int) ∧ i + kk = n ∧ m = (cat (S.take i)).length ∧ Below w.heap.size w wr)
  case atStart => exact ⟨0, 0, rfl, rfl, by omega, rfl, Below.refl _ _⟩
  case round =>
    obtain ⟨i, m, rfl, rfl, hk, hm, hb⟩ := hrel
    by_cases hlt : i < n
    · have hlt' : (i : Int) < (n : Int) := by omega
      have hi0 : (0 : Int) ≤ (i : Int) := by omega
      have hi1 : IntKind.i64.wrap ((i : Int) + 1) = (i : Int) + 1 := wrapIn (by omega) (by omega)
      obtain ⟨b, o, ⟨ea, ec, el⟩, rfl, hx, x0, _⟩ := srow_at (H.out.below hb) hlt
      simp only at x0
      have HX := hid (show m + el.length = (cat (S.take (i + 1))).length from by rw [cat_snoc hx, List.length_append, hm])
      have hle : m + el.length ≤ 1000000 := by have := cat_le hx; have := HT.out; simp only at *; omega
      have hsum : IntKind.i64.wrap ((m : Int) + (el.length : Int)) = ((m + el.length : Nat) : Int) := by rw [wrapIn (by omega) (by omega)]; omega
      have hng : ¬ ((m + el.length : Nat) : Int) < 0 := by omega
      obtain ⟨q, hq⟩ : ∃ q, q = m + el.length := ⟨_, rfl⟩
      rw [← hq] at HX hle hsum hng
      have HB := hid hb
      clear hb hx hm hq
      go_wp2
      go_roundg (gk - 1)
      case measure => omega
      case rel => exact ⟨i + 1, q, rfl, by go_num, by omega, HX.out, HB.out⟩
    · have hlt' : ¬ (i : Int) < (n : Int) := by omega
      have hall : S.take i = S := List.take_of_length_le (by have := HL.out; omega)
      rw [hall] at hm
      have CG := hid (Grow_any wr m (by have := HT.out; omega))
      have HB := hid hb
      clear hb hm hall
      go_wp2_with fail
      refine CG.out.mono ?_
      rintro e V ⟨⟨a, c1, rfl, hown⟩, hbV⟩
      have HO := hid (own_down hown HB.out.size)
      have HBV := hid (HB.out.trans (hbV.mono HB.out.size))
      clear hown hbV CG
      go_wp2_with fail
      obtain ⟨go, rfl⟩ : ∃ go, go = gk := ⟨_, rfl⟩
      go_loopg [6, 27] n (fun kk s6 s27 wq => ∃ (i : Nat) (a : Option Addr) (k c1 : Nat), s6 = .slice a k c1 ∧ s27 = .int .i64 (i : Int) ∧ i + kk = n ∧ k = (cat (S.take i)).length ∧ wq.ownsRow w.heap.size 47 4 (.slice a k c1) k (tl (cat (S.take i))) ∧ Below w.heap.size w wq)
      case atStart => exact ⟨0, a, 0, c1, rfl, rfl, by omega, rfl, HO.out, HBV.out⟩
      case round =>
        obtain ⟨j, a, k, c1, rfl, rfl, hk, hkl, hown, hb⟩ := hrel
        by_cases hjlt : j < n
        · have hjlt' : (j : Int) < (n : Int) := by omega
          have hj0 : (0 : Int) ≤ (j : Int) := by omega
          have hj1 : IntKind.i64.wrap ((j : Int) + 1) = (j : Int) + 1 := wrapIn (by omega) (by omega)
          obtain ⟨b, o, ⟨ea, ec, el⟩, rfl, hx, x0, hrow⟩ := srow_at (H.out.below hb) hjlt
          simp only at x0 hrow
          have hle : k + el.length ≤ 1000000 := by have := cat_le hx; have := HT.out; simp only at *; omega
          have HX := hid (show k + el.length = (cat (S.take (j + 1))).length ∧ cat (S.take (j + 1)) = cat (S.take j) ++ el from ⟨by rw [cat_snoc hx, List.length_append, hkl], cat_snoc hx⟩)
          have HOW := hid (And.intro hown (And.intro hb hrow))
          clear hown hb hrow hx hkl
          go_wp2_with (at_builtin; refine wpList_toks rfl _ _ rfl rfl w.heap.size a ea k el.length c1 ec _ el rfl HOW.out.1 rfl HOW.out.2.2 HOW.out.2.1.size (by omega) (by omega) ?_)
          intro a3 c3 w' hown' hg
          have HN := hid (And.intro hown' (show Below w.heap.size w w' from HOW.out.2.1.grown hg HOW.out.2.1.size (fun z hz => (HOW.out.1.lt z hz).1)))
          clear hown' hg
          go_wp2
          go_roundg (gk - 1)
          case measure => omega
          case rel => exact ⟨j + 1, a3, k + el.length, c3, by first | rfl | go_num, by go_num, by omega, HX.out.1, by rw [HX.out.2]; exact HN.out.1, HN.out.2⟩
        · have hjlt' : ¬ (j : Int) < (n : Int) := by omega
          have hall : S.take j = S := List.take_of_length_le (by have := HL.out; omega)
          rw [hall] at hkl hown
          have HF := hid (And.intro hkl (And.intro hown hb))
          clear hkl hown hb hall
          go_wp2
          go_ret
          exact ⟨⟨a, c1, by rw [← HF.out.1]; rfl, by rw [← HF.out.1]; exact HF.out.2.1⟩, HF.out.2.2⟩
end Go.Proofs.Ytblcjjhjgoccgaa
