/-
  Plain maths: what the tokens of a text are (no program).
-/
import Derived.Test.YtblcjjhjgoccgaaH
set_option linter.unusedSimpArgs false
set_option linter.unusedVariables false
namespace Go.Proofs.Ytblcjjhjgoccgaa
open Lx Go.Frame

theorem ex_list (x : ByteArray) (i j : Nat) : (x.extract i j).data.toList = (x.data.toList.take j).drop i := by
  rw [ByteArray.data_extract, Array.toList_extract, List.extract_eq_take_drop, List.drop_take]
theorem data_len (s : ByteArray) : s.data.toList.length = s.size := rfl
/-- One token on. -/
theorem lex_step {D : Df} {s : ByteArray} {L : List TQ} {i p : Nat} (h : (lexAt D s p).map tq = L.drop i) (hi : i < L.length) (hp : p ≤ s.size) :
    p < s.size ∧ L[i]? = some (tq (tokAt D s p)) ∧ (lexAt D s (p + (sc D s p).2.1)).map tq = L.drop (i + 1) ∧ p + (sc D s p).2.1 ≤ s.size := by
  have hps : p < s.size := by
    apply Nat.lt_of_not_le
    intro hle
    rw [lexAt_end hle, List.map_nil] at h
    have := congrArg List.length h
    simp at this; omega
  rw [lexAt_cons hps, List.map_cons, List.drop_eq_getElem_cons hi] at h
  obtain ⟨h1, h2⟩ := List.cons.inj h
  exact ⟨hps, by rw [h1]; exact List.getElem?_eq_getElem hi, h2, (sc_bounds hps).2.1⟩
theorem lex_done {D : Df} {s : ByteArray} {L : List TQ} {i p : Nat} (h : (lexAt D s p).map tq = L.drop i) (hi : L.length ≤ i) (hp : p ≤ s.size) : p = s.size := by
  rw [List.drop_of_length_le hi] at h
  apply Nat.le_antisymm hp
  apply Nat.le_of_not_lt
  intro hps
  rw [lexAt_cons hps] at h
  simp at h
/-- Each token has its place. -/
theorem lex_reach {D : Df} {s : ByteArray} {L : List TQ} (h0 : (lexAt D s 0).map tq = L.drop 0) : ∀ k, k ≤ L.length → ∃ p, p ≤ s.size ∧ (lexAt D s p).map tq = L.drop k
  | 0, _ => ⟨0, Nat.zero_le _, h0⟩
  | k + 1, hk => by
    obtain ⟨p, hp, h⟩ := lex_reach h0 k (by omega)
    obtain ⟨_, _, h3, h4⟩ := lex_step h (by omega) hp
    exact ⟨_, h4, h3⟩
theorem tok_of {D : Df} {s : ByteArray} {L : List TQ} (h0 : (lexAt D s 0).map tq = L.drop 0) {i : Nat} (hi : i < L.length) : ∃ p, p < s.size ∧ L[i]? = some (tq (tokAt D s p)) := by
  obtain ⟨p, hp, h⟩ := lex_reach h0 i (by omega)
  obtain ⟨h1, h2, _⟩ := lex_step h hi hp
  exact ⟨p, h1, h2⟩
/-- The texts are the text. -/
theorem txb_lexAt (D : Df) (s : ByteArray) : ∀ (d p : Nat), s.size - p ≤ d → txb ((lexAt D s p).map tq) = s.data.toList.drop p
  | d, p, h => by
    by_cases hp : p < s.size
    · obtain ⟨h1, h2, _⟩ := sc_bounds (D := D) hp
      match d, h with
      | 0, h => omega
      | d + 1, h =>
        have ih := txb_lexAt D s d (p + (sc D s p).2.1) (by omega)
        rw [lexAt_cons hp, List.map_cons]
        have e : txb (tq (tokAt D s p) :: (lexAt D s (p + (sc D s p).2.1)).map tq) = (s.extract p (p + (sc D s p).2.1)).data.toList ++ txb ((lexAt D s (p + (sc D s p).2.1)).map tq) := by
          simp [txb, tq, tokAt]
        rw [e, ih, ex_list, List.drop_take]
        rw [show p + (sc D s p).2.1 - p = (sc D s p).2.1 by omega, ← List.drop_drop]
        exact List.take_append_drop _ _
    · rw [lexAt_end (by omega), List.drop_of_length_le (by rw [data_len]; omega)]; rfl
theorem txb_lexT (D : Df) (s : ByteArray) : (⟨(txb (lexT D s)).toArray⟩ : ByteArray) = s := by
  unfold lexT
  rw [txb_lexAt D s s.size 0 (by omega), List.drop_zero]
theorem txb_len (D : Df) (s : ByteArray) : (txb (lexT D s)).length = s.size := by
  have h := congrArg ByteArray.size (txb_lexT D s)
  rw [← h]; simp [ByteArray.size]
/-- What is examined decides. -/
theorem scan_local (D : Df) : ∀ (l l' : List UInt8) (q look : Nat) (kind : Int) (size : Nat), 1 ≤ size → size ≤ max 1 look → (scan D q l look kind size).2.2 ≤ look + l.length → l'.take ((scan D q l look kind size).2.2 - look) = l.take ((scan D q l look kind size).2.2 - look) → scan D q l' look kind size = scan D q l look kind size
  | [], l', q, look, kind, size, _, _, h, _ => by simp only [scan, List.length_nil] at h; omega
  | b :: r, l', q, look, kind, size, z1, z2, h, ht => by
    have hb := (scan_bounds D (b :: r) q look kind size z1 z2).2.2.1
    match l', ht with
    | [], ht =>
      have := congrArg List.length ht
      simp at this; omega
    | b' :: r', ht =>
      obtain ⟨m, hm⟩ : ∃ m, (scan D q (b :: r) look kind size).2.2 - look = m + 1 := ⟨_, (Nat.succ_pred_eq_of_pos (by omega)).symm⟩
      rw [hm, List.take_succ_cons, List.take_succ_cons] at ht
      obtain ⟨rfl, ht2⟩ := List.cons.inj ht
      simp only [scan] at h hm ⊢
      by_cases h0 : dl D q b'.toNat < 0
      · rw [if_pos h0, if_pos h0]
      · rw [if_neg h0] at h hm ⊢
        rw [if_neg h0]
        by_cases h1 : 0 ≤ ac D (dl D q b'.toNat).toNat
        · rw [if_pos h1] at h hm ⊢
          rw [if_pos h1]
          refine scan_local D r r' _ (look + 1) _ (look + 1) (by omega) (by omega) (by simp only [List.length_cons] at h; omega) ?_
          rw [show (scan D (dl D q b'.toNat).toNat r (look + 1) (ac D (dl D q b'.toNat).toNat) (look + 1)).2.2 - (look + 1) = m by omega]; exact ht2
        · rw [if_neg h1] at h hm ⊢
          rw [if_neg h1]
          refine scan_local D r r' _ (look + 1) _ size z1 (by omega) (by simp only [List.length_cons] at h; omega) ?_
          rw [show (scan D (dl D q b'.toNat).toNat r (look + 1) kind size).2.2 - (look + 1) = m by omega]; exact ht2
/-- The same token, where the examined bytes are the same and the end is not among them. -/
theorem sc_local {D : Df} {s s' : ByteArray} {p p' : Nat} (hp : p < s.size) (h : p + (sc D s p).2.2 ≤ s.size) (ht : (s'.data.toList.drop p').take (sc D s p).2.2 = (s.data.toList.drop p).take (sc D s p).2.2) : sc D s' p' = sc D s p := by
  unfold sc at h ht ⊢
  refine scan_local D _ _ 0 0 (-1) 1 (by omega) (by omega) ?_ ?_
  · rw [List.length_drop, data_len]; omega
  · rw [Nat.sub_zero]; exact ht
theorem sc_suffix (D : Df) (s : ByteArray) (p i : Nat) : sc D (s.extract p s.size) i = sc D s (p + i) := by
  unfold sc
  rw [ex_list, List.take_of_length_le (by rw [data_len]; exact Nat.le_refl _), List.drop_drop]
/-- A token moved. -/
def mv (a : Nat) (t : TQ) : TQ := (t.1, t.2.1 + (a : Int), t.2.2.1, t.2.2.2)
theorem ex_ex (s : ByteArray) (p i z : Nat) (h : p + i + z ≤ s.size) : (s.extract p s.size).extract i (i + z) = s.extract (p + i) (p + i + z) := by
  apply ByteArray.ext
  apply Array.toList_inj.1
  have hall : s.data.toList.take s.size = s.data.toList := List.take_of_length_le (Nat.le_refl _)
  have h1 : ((s.extract p s.size).extract i (i + z)).data.toList = ((s.data.toList.drop p).take (i + z)).drop i := by rw [ex_list, ex_list, hall]
  have h2 : (s.extract (p + i) (p + i + z)).data.toList = (s.data.toList.take (p + i + z)).drop (p + i) := ex_list _ _ _
  rw [h1, h2, List.drop_take, List.drop_drop, List.drop_take]
  congr 1
  omega
theorem lexAt_suffix (D : Df) (s : ByteArray) (p : Nat) (hp : p ≤ s.size) : ∀ (d i : Nat), s.size - (p + i) ≤ d → ((lexAt D (s.extract p s.size) i).map tq).map (mv p) = (lexAt D s (p + i)).map tq
  | d, i, h => by
    have hsz : (s.extract p s.size).size = s.size - p := by rw [ByteArray.size_extract]; omega
    by_cases hi : p + i < s.size
    · have hi' : i < (s.extract p s.size).size := by omega
      obtain ⟨h1, h2, _⟩ := sc_bounds (D := D) hi
      match d, h with
      | 0, h => omega
      | d + 1, h =>
        have ih := lexAt_suffix D s p hp d (i + (sc D s (p + i)).2.1) (by omega)
        rw [lexAt_cons hi, lexAt_cons hi', sc_suffix, List.map_cons, List.map_cons, List.map_cons]
        rw [ih, Nat.add_assoc]
        congr 1
        unfold tokAt tq mv
        rw [sc_suffix]
        simp only [Prod.mk.injEq, true_and, and_true]
        refine ⟨by omega, ?_⟩
        rw [ex_ex s p i _ (by omega)]
    · rw [lexAt_end (by omega), lexAt_end (by omega)]; rfl
theorem lexT_suffix (D : Df) (s : ByteArray) (p : Nat) (hp : p ≤ s.size) : (lexT D (s.extract p s.size)).map (mv p) = (lexAt D s p).map tq := lexAt_suffix D s p hp s.size 0 (by omega)
/-- A token in a longer text. -/
theorem sc_app {D : Df} {s t : ByteArray} {p : Nat} (hp : p < s.size) (h : p + (sc D s p).2.2 ≤ s.size) : sc D (s ++ t) p = sc D s p := by
  refine sc_local hp h ?_
  rw [show (s ++ t).data.toList = s.data.toList ++ t.data.toList by rw [ByteArray.data_append, Array.toList_append], List.drop_append_of_le_length (by rw [data_len]; omega), List.take_append_of_le_length (by rw [List.length_drop, data_len]; omega)]
theorem ex_app {s t : ByteArray} {p z : Nat} (h : p + z ≤ s.size) : (s ++ t).extract p (p + z) = s.extract p (p + z) := by
  apply ByteArray.ext
  apply Array.toList_inj.1
  rw [ex_list, ex_list, show (s ++ t).data.toList = s.data.toList ++ t.data.toList by rw [ByteArray.data_append, Array.toList_append], List.take_append_of_le_length (by rw [data_len]; omega)]
theorem tok_app {D : Df} {s t : ByteArray} {p : Nat} (hp : p < s.size) (h : p + (sc D s p).2.2 ≤ s.size) : tq (tokAt D (s ++ t) p) = tq (tokAt D s p) := by
  obtain ⟨h1, h2, _⟩ := sc_bounds (D := D) hp
  unfold tokAt tq
  rw [sc_app hp h]
  simp only [Prod.mk.injEq, true_and, and_true]
  rw [ex_app (by omega)]
/-- A token alone, with any tail. -/
theorem tok_tail {D : Df} {s t : ByteArray} {p : Nat} (hp : p < s.size) (h : p + (sc D s p).2.2 ≤ s.size) : sc D (s.extract p (p + (sc D s p).2.2) ++ t) 0 = sc D s p ∧ (s.extract p (p + (sc D s p).2.2) ++ t).extract 0 (0 + (sc D s p).2.1) = s.extract p (p + (sc D s p).2.1) := by
  obtain ⟨h1, h2, h3, _⟩ := sc_bounds (D := D) hp
  have hl : (s.extract p (p + (sc D s p).2.2)).data.toList = (s.data.toList.drop p).take (sc D s p).2.2 := by
    rw [ex_list, List.drop_take]; congr 1; omega
  constructor
  · refine sc_local hp h ?_
    rw [show (s.extract p (p + (sc D s p).2.2) ++ t).data.toList = (s.extract p (p + (sc D s p).2.2)).data.toList ++ t.data.toList by rw [ByteArray.data_append, Array.toList_append], List.drop_zero, List.take_append_of_le_length (by rw [data_len, ex_len s (by omega) h]; omega), hl, List.take_take]
    congr 1; omega
  · apply ByteArray.ext
    apply Array.toList_inj.1
    rw [ex_list, ex_list, show (s.extract p (p + (sc D s p).2.2) ++ t).data.toList = (s.extract p (p + (sc D s p).2.2)).data.toList ++ t.data.toList by rw [ByteArray.data_append, Array.toList_append], List.drop_zero, List.take_append_of_le_length (by rw [data_len, ex_len s (by omega) h]; omega), hl, List.take_take, List.drop_take]
    congr 1; omega

end Go.Proofs.Ytblcjjhjgoccgaa
