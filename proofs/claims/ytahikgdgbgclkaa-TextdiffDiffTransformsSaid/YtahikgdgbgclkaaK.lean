/-
  Contracts: Together; the reference's Fits, Apply.
-/
import Derived.Test.YtahikgdgbgclkaaF
import Derived.Test.YtahikgdgbgclkaaEv
set_option linter.unusedSimpArgs false
set_option linter.unusedVariables false
namespace Go.Proofs.Ytahikgdgbgclkaa
open Go.RowKit Te Go.Frame

theorem sep_step {n lo : Nat} {E : List Ed} {i : Nat} {x : Ed} (h : Sep n (E.drop i) lo) (hx : E[i]? = some x) : ∃ (p d : Nat) (s : ByteArray), x = ((p : Int), (d : Int), s) ∧ lo ≤ p ∧ p + d ≤ n ∧ Sep n (E.drop (i + 1)) (p + d + 1) := by
  obtain ⟨hl, rfl⟩ := List.getElem?_eq_some_iff.1 hx
  rw [List.drop_eq_getElem_cons hl] at h
  exact h
theorem tgt_step {a : ByteArray} {E : List Ed} {i k p d : Nat} {s : ByteArray} (hx : E[i]? = some ((p : Int), (d : Int), s)) : tgt a (E.drop i) k = ((L a).take p).drop k ++ L s ++ tgt a (E.drop (i + 1)) (p + d) := by
  obtain ⟨hl, he⟩ := List.getElem?_eq_some_iff.1 hx
  rw [List.drop_eq_getElem_cons hl, he]
  rfl

set_option maxRecDepth 100000 in
set_option maxHeartbeats 4000000 in
/-- Together, of edits that increase and fit. -/
theorem together_any (a t : ByteArray) (p : Option Addr) (n c : Nat) (E : List Ed) (w : World) (ha : a.size ≤ 10000) (hn : n ≤ 1000000) (ht : t.size ≤ 1000000) (hE : Sep a.size E 0) (hT : tgt a E 0 = L t) (h : ERow w p n E) :
    Calls Try.prog 17 #[.string a, .slice p n c] w fun e w' => e = .returned (.tuple #[.string t, .bool true]) ∧ Below w.heap.size w w' := by
  have HR := hid h
  have hl := hid h.1
  have HT := hid hT
  have HE := hid hE
  have a1 : (a.size : Int) ≤ 10000 := by omega
  clear h hT hE
  go_enter Try.func17, Try.ntmps17
  go_wp2_with fail
  go_loopg [6, 7, 8] n (fun k s6 s7 s8 wr => ∃ (i at_ lo : Nat) (out : ByteArray), s6 = .string out ∧ s7 = .int .i64 at_ ∧ s8 = .int .i64 i ∧ i + k = n ∧ at_ ≤ lo ∧ at_ ≤ a.size ∧ Sep a.size (E.drop i) lo ∧ L out ++ tgt a (E.drop i) at_ = L t ∧ Below w.heap.size w wr)
  case atStart => exact ⟨0, 0, 0, _, rfl, rfl, rfl, by omega, Nat.le_refl _, Nat.zero_le _, HE.out, by rw [List.drop_zero, HT.out]; rfl, Below.refl _ _⟩
  case round =>
    obtain ⟨i, at_, lo, out, rfl, rfl, rfl, hk, hlo, hat, hsep, htg, hbw⟩ := hrel
    have HB := hid hbw
    have HTG := hid htg
    have hat' : (at_ : Int) ≤ (a.size : Int) := by omega
    have hat0 : (0 : Int) ≤ (at_ : Int) := by omega
    have hos : out.size ≤ 1000000 := by
      have := congrArg List.length htg
      rw [List.length_append, L_len, L_len] at this
      omega
    by_cases hlt : i < n
    · have hlt' : (i : Int) < (n : Int) := by omega
      have hi0 : (0 : Int) ≤ (i : Int) := by omega
      obtain ⟨x, hxi⟩ : ∃ x, E[i]? = some x := ⟨_, List.getElem?_eq_getElem (by rw [hl.out]; exact hlt)⟩
      obtain ⟨q, d, s, rfl, h1, h2, hsep'⟩ := sep_step hsep hxi
      have htg' := tgt_step (a := a) (k := at_) hxi
      have HS := hid hsep'
      rw [htg'] at htg
      have hss : s.size ≤ 1000000 := by
        have := congrArg List.length htg
        simp only [List.length_append, L_len] at this
        omega
      have HX := hid htg
      obtain ⟨b, off, rfl, hb, hx⟩ := (HR.out.below hbw).2.resolve_left (by omega)
      obtain ⟨c0, c1, c2⟩ := hx i _ hxi
      have q0 : (0 : Int) ≤ (q : Int) := by omega
      have q1 : (q : Int) ≤ (a.size : Int) := by omega
      have q2 : (at_ : Int) ≤ (q : Int) := by omega
      have q3 : ¬ (q : Int) < (at_ : Int) := by omega
      have q4 : ¬ (a.size : Int) < (q : Int) := by omega
      have d0 : ¬ (d : Int) < 0 := by omega
      have d1 : ¬ (a.size : Int) - (q : Int) < (d : Int) := by omega
      have d2 : (0 : Int) ≤ (d : Int) := by omega
      have z1 : (a.extract at_ q).size ≤ 10000 := by rw [ByteArray.size_extract]; omega
      have z2 : (out ++ a.extract at_ q).size ≤ 1010000 := by rw [ByteArray.size_append]; omega
      have n1 : ¬ 9223372036854775807 < out.size + (a.extract at_ q).size := by omega
      have n2 : ¬ 9223372036854775807 < (out ++ a.extract at_ q).size + s.size := by omega
      clear hx htg' htg hsep hsep'
      go_wp2_with fail
      obtain ⟨V, hV⟩ : ∃ V, V = wr.alloc (.cells #[.int .i64 (q : Int), .int .i64 (d : Int), .string s] 30) := ⟨_, rfl⟩
      have hB := hid (show V.heap[wr.heap.size]? = some (.cells #[.int .i64 (q : Int), .int .i64 (d : Int), .string s] 30 (0, 0)) by rw [hV]; exact alloc_new _ _)
      have hbV := hid (show Below w.heap.size w V by rw [hV]; exact hbw.alloc hbw.size _)
      rw [← hV]
      clear hV c0 c1 c2
      obtain ⟨k0, k1, k2⟩ := cells3 hB.out
      go_quiet (fail)
      go_wp2
      go_roundg (gk - 1)
      case measure => omega
      case rel =>
        refine ⟨i + 1, q + d, q + d + 1, out ++ a.extract at_ q ++ s, rfl, by go_num, by go_num, by omega, by omega, by omega, HS.out, ?_, below_drewN hbV.out _⟩
        rw [L_app, L_app, L_ex, ← HX.out]
        simp only [List.append_assoc]
    · have hin : i = n := by omega
      have hn1 : ¬ (i : Int) < (n : Int) := by omega
      have hnil : E.drop i = [] := List.drop_eq_nil_of_le (by rw [hl.out]; omega)
      rw [hnil] at htg
      have e1 : out ++ a.extract at_ a.size = t := by
        apply L_inj
        rw [L_app, L_ex, ← htg, List.take_of_length_le (by rw [L_len]; exact Nat.le_refl _)]
        rfl
      have n1 : ¬ 9223372036854775807 < out.size + (a.extract at_ a.size).size := by rw [ByteArray.size_extract]; omega
      have HE1 := hid e1
      clear htg hsep hnil e1
      go_wp2
      go_ret2
      rw [HE1.out]
      exact ⟨rfl, HB.out⟩
set_option maxRecDepth 100000 in
set_option maxHeartbeats 2000000 in
theorem fits_yes (a d : Int) (s t : ByteArray) (w : World) (hn : s.size ≤ 140737488351232) (h : Fit s.size (a, d, t)) :
    Calls Try.prog 29 #[.string s, .agg #[.int .i64 a, .int .i64 d, .string t]] w fun e w' => e = .returned (.bool true) ∧ Below w.heap.size w w' := by
  obtain ⟨h1, h2, h3⟩ := h
  have h1 : 0 ≤ a := h1
  have h2 : 0 ≤ d := h2
  have h3 : d ≤ s.size - a := h3
  have h4 : a ≤ s.size := by omega
  have h5 : (s.size : Int) ≤ 1000000000000000 := by omega
  go_enter Try.func29, Try.ntmps29
  go_wp2
  go_ret
  exact ⟨rfl, (Below.refl _ _).alloc (Nat.le_refl _) _⟩
set_option maxRecDepth 100000 in
set_option maxHeartbeats 2000000 in
theorem fits_no (a d : Int) (s t : ByteArray) (w : World) (hn : s.size ≤ 140737488351232) (h : ¬ Fit s.size (a, d, t)) :
    Calls Try.prog 29 #[.string s, .agg #[.int .i64 a, .int .i64 d, .string t]] w fun e w' => e = .returned (.bool false) ∧ Below w.heap.size w w' := by
  have H : Hid (¬ (0 ≤ a ∧ 0 ≤ d ∧ d ≤ s.size - a)) := h
  have h5 : (s.size : Int) ≤ 1000000000000000 := by omega
  clear h
  go_enter Try.func29, Try.ntmps29
  go_wp2
  all_goals
    go_ret
    refine ⟨?_, (Below.refl _ _).alloc (Nat.le_refl _) _⟩
    first
      | rfl
      | (have : ¬ d ≤ s.size - a := fun h' => H.out ⟨by assumption, by assumption, h'⟩
         simp [this])
/-- The results of Apply. -/
def apv (s : ByteArray) (e : Ed) : Value := if Fit s.size e then .tuple #[.string (ap s e), .int .i64 0] else .tuple #[.string .empty, .int .i64 2]
theorem apv_yes {s : ByteArray} {e : Ed} (h : Fit s.size e) : apv s e = .tuple #[.string (ap s e), .int .i64 0] := if_pos h
theorem apv_no {s : ByteArray} {e : Ed} (h : ¬ Fit s.size e) : apv s e = .tuple #[.string .empty, .int .i64 2] := if_neg h
theorem ap_def (s t : ByteArray) (a d : Nat) : s.extract 0 a ++ t ++ s.extract (a + d) s.size = ap s ((a : Int), (d : Int), t) := by
  unfold ap; simp only [Int.toNat_natCast]
set_option maxRecDepth 100000 in
set_option maxHeartbeats 2000000 in
theorem rapply_any (s t : ByteArray) (a d : Int) (w : World) (hs : s.size ≤ 140737488351232) (ht : t.size ≤ 140737488351232) :
    Calls Try.prog 20 #[.string s, .agg #[.int .i64 a, .int .i64 d, .string t]] w fun e w' => e = .returned (apv s (a, d, t)) ∧ Below w.heap.size w w' := by
  have b1 : Below w.heap.size w (w.alloc (.cells #[.int .i64 a, .int .i64 d, .string t] 30)) := (Below.refl _ _).alloc (Nat.le_refl _) _
  by_cases hf : Fit s.size (a, d, t)
  · have HF := hid hf
    obtain ⟨x, y, t', he, hl⟩ := hf.nat
    simp only [Prod.mk.injEq] at he
    obtain ⟨rfl, rfl, rfl⟩ := he
    have a0 : (0 : Int) ≤ (x : Int) := by omega
    have d0 : (0 : Int) ≤ (y : Int) := by omega
    have a1 : (x : Int) ≤ (s.size : Int) := by omega
    have a2 : (x : Int) + (y : Int) ≤ (s.size : Int) := by omega
    have e4 : IntKind.i64.wrap (↑x + ↑y) = (x : Int) + (y : Int) := wrapIn (by omega) (by omega)
    clear hf
    go_enter Try.func20, Try.ntmps20
    go_wp2_with (go_at_call 29; refine (fits_yes _ _ _ _ _ hs HF.out).mono ?_; rintro e w1 ⟨rfl, hbl⟩)
    obtain ⟨c0, c1, c2⟩ := cells3 ((hbl.block _ (by simp)).trans (alloc_new w (.cells #[.int .i64 x, .int .i64 y, .string t] 30)))
    have z1 : (s.extract 0 x).size ≤ 140737488351232 := by rw [ByteArray.size_extract]; omega
    have z2 : (s.extract (x + y) s.size).size ≤ 140737488351232 := by rw [ByteArray.size_extract]; omega
    have z3 : (s.extract 0 x ++ t).size ≤ 281474976702464 := by rw [ByteArray.size_append]; omega
    go_quiet (fail)
    go_wp2
    go_ret2
    rw [apv_yes HF.out, ← ap_def]
    exact ⟨rfl, ⟨hbl.os, hbl.tape, hbl.output, Nat.le_trans b1.size hbl.size, fun k hk => (hbl.block k (by simp; omega)).trans (b1.block k hk)⟩⟩
  · have HF := hid hf
    clear hf
    go_enter Try.func20, Try.ntmps20
    go_wp2_with (go_at_call 29; refine (fits_no _ _ _ _ _ hs HF.out).mono ?_; rintro e w1 ⟨rfl, hbl⟩)
    go_ret2
    rw [apv_no HF.out]
    exact ⟨rfl, b1.trans (hbl.mono (by simp))⟩
end Go.Proofs.Ytahikgdgbgclkaa
