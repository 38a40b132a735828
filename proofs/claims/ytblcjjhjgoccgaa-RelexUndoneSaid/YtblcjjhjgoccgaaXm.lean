/-
  Plain maths: an edit of a scanned text (no program).
-/
import Derived.Test.YtblcjjhjgoccgaaN
import Derived.Test.YtblcjjhjgoccgaaM6
set_option linter.unusedSimpArgs false
set_option linter.unusedVariables false
namespace Go.Proofs.Ytblcjjhjgoccgaa
open Lx Go.Frame

/-- How many tokens stand before the first one that examined a place behind a. -/
def pre : List TQ → Int → Nat
  | [], _ => 0
  | t :: l, a => if t.2.1 + t.2.2.2 ≤ a then pre l a + 1 else 0
/-- Where the token at x stands. -/
def fd : List TQ → Int → Nat
  | [], _ => 0
  | t :: l, x => if t.2.1 = x then 0 else fd l x + 1
theorem pre_le : ∀ (l : List TQ) (a : Int), pre l a ≤ l.length
  | [], _ => Nat.le_refl _
  | t :: l, a => by
    unfold pre
    have := pre_le l a
    split <;> simp only [List.length_cons] <;> omega
theorem pre_step {L : List TQ} {i : Nat} {t : TQ} (h : L[i]? = some t) (a : Int) : pre (L.drop i) a = if t.2.1 + t.2.2.2 ≤ a then pre (L.drop (i + 1)) a + 1 else 0 := by
  obtain ⟨hl, rfl⟩ := List.getElem?_eq_some_iff.1 h
  rw [List.drop_eq_getElem_cons hl]; rfl
theorem pre_lt : ∀ {l : List TQ} {a : Int} {i : Nat} {t : TQ}, i < pre l a → l[i]? = some t → t.2.1 + t.2.2.2 ≤ a
  | x :: l, a, i, t, h, hi => by
    unfold pre at h
    split at h
    · match i, hi with
      | 0, hi => simp at hi; subst hi; assumption
      | i + 1, hi => exact pre_lt (l := l) (a := a) (i := i) (by omega) (by simpa using hi)
    · omega
theorem pre_stop : ∀ {l : List TQ} {a : Int} {t : TQ}, l[pre l a]? = some t → ¬ t.2.1 + t.2.2.2 ≤ a
  | x :: l, a, t, hi => by
    unfold pre at hi
    split at hi
    · exact pre_stop (l := l) (by simpa using hi)
    · simp at hi; subst hi; assumption
theorem fd_le : ∀ (l : List TQ) (x : Int), fd l x ≤ l.length
  | [], _ => Nat.le_refl _
  | t :: l, x => by
    unfold fd
    have := fd_le l x
    split <;> simp only [List.length_cons] <;> omega
theorem fd_step {L : List TQ} {i : Nat} {t : TQ} (h : L[i]? = some t) (x : Int) : fd (L.drop i) x = if t.2.1 = x then 0 else fd (L.drop (i + 1)) x + 1 := by
  obtain ⟨hl, rfl⟩ := List.getElem?_eq_some_iff.1 h
  rw [List.drop_eq_getElem_cons hl]; rfl
theorem fd_hit : ∀ {l : List TQ} {x : Int}, fd l x < l.length → ∃ t, l[fd l x]? = some t ∧ t.2.1 = x
  | [], x, h => by simp at h
  | t :: l, x, h => by
    by_cases e : t.2.1 = x
    · exact ⟨t, by unfold fd; rw [if_pos e]; rfl, e⟩
    · have e1 : fd (t :: l) x = fd l x + 1 := by rw [fd, if_neg e]
      rw [e1] at h ⊢
      obtain ⟨u, h1, h2⟩ := fd_hit (l := l) (x := x) (by simpa using h)
      exact ⟨u, by simpa using h1, h2⟩
theorem fd_of : ∀ {l : List TQ} {x : Int} {i : Nat} {t : TQ}, l[i]? = some t → t.2.1 = x → (∀ (j : Nat) (u : TQ), j < i → l[j]? = some u → u.2.1 ≠ x) → fd l x = i
  | y :: l, x, 0, t, h, e, _ => by simp at h; subst h; rw [fd, if_pos e]
  | y :: l, x, i + 1, t, h, e, hn => by
    rw [fd, if_neg (hn 0 y (by omega) rfl), fd_of (l := l) (by simpa using h) e fun j u hj hu => hn (j + 1) u (by omega) (by simpa using hu)]
theorem fd_no : ∀ {l : List TQ} {x : Int}, (∀ (j : Nat) (u : TQ), l[j]? = some u → u.2.1 ≠ x) → fd l x = l.length
  | [], x, _ => rfl
  | y :: l, x, hn => by rw [fd, if_neg (hn 0 y rfl), fd_no (l := l) fun j u hu => hn (j + 1) u (by simpa using hu)]; rfl
/-- The length of the texts. -/
def tot (l : List TQ) : Nat := (txb l).length
theorem tot_snoc {l : List TQ} {i : Nat} {t : TQ} (h : l[i]? = some t) : tot (l.take (i + 1)) = tot (l.take i) + t.2.2.1.size := by
  unfold tot
  rw [txb_snoc h, List.length_append]; rfl
/-- The scan from a place until it meets the old tokens: how many tokens, and which old one follows. -/
def rscF (D : Df) (t : ByteArray) (L : List TQ) (lo d : Int) : Nat → Nat → Nat × Nat
  | 0, _ => (0, L.length)
  | f + 1, p => if p < t.size then
      if lo ≤ (p : Int) ∧ fd L ((p : Int) - d) < L.length then (0, fd L ((p : Int) - d))
      else ((rscF D t L lo d f (p + (sc D t p).2.1)).1 + 1, (rscF D t L lo d f (p + (sc D t p).2.1)).2)
    else (0, L.length)
theorem rscF_more (D : Df) (t : ByteArray) (L : List TQ) (lo d : Int) : ∀ (f g p : Nat), t.size - p ≤ f → t.size - p ≤ g → rscF D t L lo d f p = rscF D t L lo d g p
  | 0, 0, p, _, _ => rfl
  | 0, g + 1, p, h, _ => by simp only [rscF]; rw [if_neg (by omega)]
  | f + 1, 0, p, _, h => by simp only [rscF]; rw [if_neg (by omega)]
  | f + 1, g + 1, p, h1, h2 => by
    simp only [rscF]
    by_cases hp : p < t.size
    · have := sc_bounds (D := D) hp
      rw [if_pos hp, if_pos hp, rscF_more D t L lo d f g _ (by omega) (by omega)]
    · rw [if_neg hp, if_neg hp]
def rsc (D : Df) (t : ByteArray) (L : List TQ) (lo d : Int) (p : Nat) : Nat × Nat := rscF D t L lo d t.size p
section
variable {D : Df} {t : ByteArray} {L : List TQ} {lo d : Int} {p : Nat}
theorem rsc_end (h : t.size ≤ p) : rsc D t L lo d p = (0, L.length) := by
  unfold rsc
  cases hs : t.size with
  | zero => rfl
  | succ f => simp only [rscF]; rw [if_neg (by omega)]
theorem rsc_met (h : p < t.size) (h1 : lo ≤ (p : Int)) (h2 : fd L ((p : Int) - d) < L.length) : rsc D t L lo d p = (0, fd L ((p : Int) - d)) := by
  unfold rsc
  rw [show t.size = (t.size - 1) + 1 by omega]
  simp only [rscF]
  rw [if_pos (by omega), if_pos ⟨h1, h2⟩]
theorem rsc_next (h : p < t.size) (h1 : ¬ (lo ≤ (p : Int) ∧ fd L ((p : Int) - d) < L.length)) : rsc D t L lo d p = ((rsc D t L lo d (p + (sc D t p).2.1)).1 + 1, (rsc D t L lo d (p + (sc D t p).2.1)).2) := by
  have hb := sc_bounds (D := D) h
  unfold rsc
  have e : rscF D t L lo d t.size p = rscF D t L lo d ((t.size - 1) + 1) p := by rw [show t.size - 1 + 1 = t.size by omega]
  rw [e]
  simp only [rscF]
  rw [if_pos h, if_neg h1, rscF_more D t L lo d (t.size - 1) t.size _ (by omega) (by omega)]
end
/-- A token moved by d. -/
def mvI (d : Int) (t : TQ) : TQ := (t.1, t.2.1 + d, t.2.2.1, t.2.2.2)
/-- What an edit comes to: how many tokens stay, where the scan begins. -/
structure Ed3 (s : ByteArray) (x y : Nat) (ins : ByteArray) : Prop where
  fit : x + y ≤ s.size
def nt (s : ByteArray) (x y : Nat) (ins : ByteArray) : ByteArray := Te.ap s ((x : Int), (y : Int), ins)
theorem nt_list (s : ByteArray) (x y : Nat) (ins : ByteArray) : (nt s x y ins).data.toList = s.data.toList.take x ++ ins.data.toList ++ s.data.toList.drop (x + y) := Te.L_ap s ins x y
theorem nt_size {s : ByteArray} {x y : Nat} {ins : ByteArray} (h : x + y ≤ s.size) : (nt s x y ins).size + y = s.size + ins.size := by
  have := congrArg List.length (nt_list s x y ins)
  simp only [List.length_append, List.length_take, List.length_drop, data_len] at this
  omega
section
variable {D : Df} {s ins : ByteArray} {x y : Nat}
theorem nt_take (h : x + y ≤ s.size) {p z : Nat} (hz : p + z ≤ x) : ((nt s x y ins).data.toList.drop p).take z = (s.data.toList.drop p).take z := by
  have e : ∀ (l : List UInt8), (l.drop p).take z = (l.take (p + z)).drop p := fun l => by rw [List.drop_take]; congr 1; omega
  rw [e, e, nt_list, List.append_assoc, List.take_append_of_le_length (by rw [List.length_take, data_len]; omega), List.take_take]
  congr 2; omega
theorem nt_ex (h : x + y ≤ s.size) {p z : Nat} (hz : p + z ≤ x) : (nt s x y ins).extract p (p + z) = s.extract p (p + z) := by
  apply ByteArray.ext
  apply Array.toList_inj.1
  rw [ex_list, ex_list, List.drop_take, List.drop_take]
  rw [show p + z - p = z by omega]
  exact nt_take h hz
/-- The tokens ahead of the edit stay. -/
theorem keep_pre (h : x + y ≤ s.size) : ∀ k, k ≤ pre (lexT D s) (x : Int) → tot ((lexT D s).take k) ≤ x ∧ (lexAt D s (tot ((lexT D s).take k))).map tq = (lexT D s).drop k ∧
    (lexT D s).take k ++ (lexAt D (nt s x y ins) (tot ((lexT D s).take k))).map tq = lexT D (nt s x y ins)
  | 0, _ => ⟨Nat.zero_le _, rfl, rfl⟩
  | k + 1, hk => by
    obtain ⟨h1, h2, h3⟩ := keep_pre h k (by omega)
    have hkl : k < (lexT D s).length := Nat.lt_of_lt_of_le hk (pre_le _ _)
    obtain ⟨q1, q2, q3, q4⟩ := lex_step h2 hkl (by omega)
    obtain ⟨b1, b2, b3, b4, b5⟩ := sc_bounds (D := D) q1
    have hx := pre_lt hk q2
    obtain ⟨p, hp⟩ : ∃ p, p = tot ((lexT D s).take k) := ⟨_, rfl⟩
    have hts : tot ((lexT D s).take (k + 1)) = tot ((lexT D s).take k) + (sc D s (tot ((lexT D s).take k))).2.1 := by rw [tot_snoc q2]; exact congrArg _ (tok_len q1)
    rw [hts]
    rw [← hp] at h1 h2 h3 q1 q2 q3 q4 b1 b2 b3 b4 b5 hx ⊢
    have hx' : p + (sc D s p).2.2 ≤ x := by
      have : (p : Int) + ((sc D s p).2.2 : Int) ≤ (x : Int) := hx
      omega
    have hn := nt_size (ins := ins) h
    have hsc : sc D (nt s x y ins) p = sc D s p := sc_local q1 (by omega) (nt_take h hx')
    refine ⟨by omega, q3, ?_⟩
    have hpt : p < (nt s x y ins).size := by
      have := congrArg List.length (nt_take (ins := ins) h (p := p) (z := (sc D s p).2.2) hx')
      simp only [List.length_take, List.length_drop, data_len] at this
      omega
    have ht : tq (tokAt D (nt s x y ins) p) = tq (tokAt D s p) := by
      unfold tokAt tq
      rw [hsc]
      simp only [Prod.mk.injEq, true_and, and_true]
      exact nt_ex h (by omega)
    rw [List.take_add_one, q2, List.append_assoc, ← h3, lexAt_cons hpt, List.map_cons, hsc, ht]
    rfl
/-- A token behind the edit. -/
theorem nt_suffix (h : x + y ≤ s.size) {p : Nat} (hp : x + ins.size ≤ p) (hp2 : p ≤ (nt s x y ins).size) : (nt s x y ins).extract p (nt s x y ins).size = s.extract (p - ins.size + y) s.size := by
  have hn := nt_size (ins := ins) h
  apply ByteArray.ext
  apply Array.toList_inj.1
  rw [ex_list, ex_list, List.take_of_length_le (by rw [data_len]; exact Nat.le_refl _), List.take_of_length_le (by rw [data_len]; exact Nat.le_refl _), nt_list]
  rw [show p = (s.data.toList.take x ++ ins.data.toList).length + (p - ins.size - x) by simp only [List.length_append, List.length_take, data_len]; omega, ← List.drop_drop, List.drop_left, List.drop_drop]
  congr 1
  simp only [List.length_append, List.length_take, data_len]; omega
theorem lex_pos {L : List TQ} (h0 : (lexAt D s 0).map tq = L.drop 0) {i : Nat} {t : TQ} (hi : L[i]? = some t) : ∃ p, p < s.size ∧ t = tq (tokAt D s p) ∧ (lexAt D s p).map tq = L.drop i ∧ p = tot (L.take i) := by
  have hil := (List.getElem?_eq_some_iff.1 hi).1
  have : ∀ k, k ≤ L.length → ∃ p, p ≤ s.size ∧ (lexAt D s p).map tq = L.drop k ∧ p = tot (L.take k) := by
    intro k
    induction k with
    | zero => intro _; exact ⟨0, Nat.zero_le _, h0, rfl⟩
    | succ k ih =>
      intro hk
      obtain ⟨p, hp, h, e⟩ := ih (by omega)
      obtain ⟨q1, q2, h3, h4⟩ := lex_step h (by omega) hp
      exact ⟨_, h4, h3, by rw [tot_snoc q2, ← e]; exact congrArg _ (tok_len q1).symm⟩
  obtain ⟨p, hp, h, e⟩ := this i (by omega)
  obtain ⟨h1, h2, _⟩ := lex_step h hil hp
  rw [hi] at h2
  exact ⟨p, h1, by cases h2; rfl, h, e⟩
/-- Tokens increase. -/
theorem lex_inc {L : List TQ} (h0 : (lexAt D s 0).map tq = L.drop 0) {i j : Nat} {t u : TQ} (hi : L[i]? = some t) (hj : L[j]? = some u) (hij : i < j) : t.2.1 < u.2.1 := by
  obtain ⟨p, hp, rfl, h1, e1⟩ := lex_pos h0 hi
  obtain ⟨q, hq, rfl, h2, e2⟩ := lex_pos h0 hj
  show (p : Int) < (q : Int)
  have hb := sc_bounds (D := D) hp
  have e3 := tot_snoc hi
  have : tot (L.take (i + 1)) ≤ tot (L.take j) := by
    unfold tot
    rw [show L.take (i + 1) = (L.take j).take (i + 1) by rw [List.take_take]; congr 1; omega]
    conv => rhs; rw [← List.take_append_drop (i + 1) (L.take j), txb_app, List.length_append]
    omega
  have e4 : (tq (tokAt D s p)).2.2.1.size = (sc D s p).2.1 := tok_len hp
  omega
theorem lex_at {L : List TQ} (h0 : (lexAt D s 0).map tq = L.drop 0) {z : Int} (h : fd L z < L.length) : ∃ p : Nat, z = (p : Int) ∧ p < s.size ∧ (lexAt D s p).map tq = L.drop (fd L z) := by
  obtain ⟨t, h1, h2⟩ := fd_hit h
  obtain ⟨p, hp, rfl, h3, _⟩ := lex_pos h0 h1
  exact ⟨p, h2.symm, hp, h3⟩
/-- The rest of the tokens. -/
theorem rest_eq (h : x + y ≤ s.size) : ∀ (f p : Nat), (nt s x y ins).size - p ≤ f → p ≤ (nt s x y ins).size →
    (lexAt D (nt s x y ins) p).map tq = ((lexAt D (nt s x y ins) p).map tq).take (rsc D (nt s x y ins) (lexT D s) ((x : Int) + ins.size) ((ins.size : Int) - y) p).1 ++
      ((lexT D s).drop (rsc D (nt s x y ins) (lexT D s) ((x : Int) + ins.size) ((ins.size : Int) - y) p).2).map (mvI ((ins.size : Int) - y))
    ∧ (rsc D (nt s x y ins) (lexT D s) ((x : Int) + ins.size) ((ins.size : Int) - y) p).1 ≤ (lexAt D (nt s x y ins) p).length
  | f, p, hf, hp => by
    by_cases hlt : p < (nt s x y ins).size
    · by_cases hm : (x : Int) + ins.size ≤ (p : Int) ∧ fd (lexT D s) ((p : Int) - ((ins.size : Int) - y)) < (lexT D s).length
      · rw [rsc_met hlt hm.1 hm.2]
        obtain ⟨q, hq, hqs, hql⟩ := lex_at (D := D) (s := s) (L := lexT D s) rfl hm.2
        have hqe : q = p - ins.size + y := by omega
        rw [List.take_zero, List.nil_append, ← hql]
        refine ⟨?_, Nat.zero_le _⟩
        rw [← lexT_suffix D s q (by omega), ← lexT_suffix D (nt s x y ins) p hp, nt_suffix h (by omega) hp, ← hqe, List.map_map]
        congr 1
        funext t
        show mv p t = mvI _ (mv q t)
        unfold mv mvI
        simp only [Prod.mk.injEq, true_and, and_true]
        omega
      · rw [rsc_next hlt hm]
        have hb := sc_bounds (D := D) hlt
        match f, hf with
        | 0, hf => omega
        | f + 1, hf =>
          obtain ⟨ih, il⟩ := rest_eq h f (p + (sc D (nt s x y ins) p).2.1) (by omega) (by omega)
          rw [lexAt_cons hlt, List.map_cons]
          simp only [List.take_succ_cons, List.cons_append, List.cons.injEq, true_and, List.length_cons]
          exact ⟨ih, by omega⟩
    · rw [rsc_end (by omega), lexAt_end (by omega)]
      simp
end
/-- The parts of an update: tokens that stay, new ones, where the old ones go on. -/
def uM (D : Df) (s : ByteArray) (x : Nat) : Nat := pre (lexT D s) (x : Int)
def uP (D : Df) (s : ByteArray) (x : Nat) : Nat := tot ((lexT D s).take (uM D s x))
def uR (D : Df) (s : ByteArray) (x y : Nat) (ins : ByteArray) : Nat × Nat := rsc D (nt s x y ins) (lexT D s) ((x : Int) + ins.size) ((ins.size : Int) - y) (uP D s x)
section
variable {D : Df} {s ins : ByteArray} {x y : Nat}
theorem uP_le (h : x + y ≤ s.size) : uP D s x ≤ x := (keep_pre (ins := ByteArray.empty) h _ (Nat.le_refl _)).1
theorem uP_new (h : x + y ≤ s.size) : uP D s x ≤ (nt s x y ins).size := by
  have h1 := uP_le (D := D) h
  have h2 := nt_size (ins := ins) h
  omega
theorem upd_eq (h : x + y ≤ s.size) : lexT D (nt s x y ins) = (lexT D s).take (uM D s x) ++ (((lexAt D (nt s x y ins) (uP D s x)).map tq).take (uR D s x y ins).1 ++ ((lexT D s).drop (uR D s x y ins).2).map (mvI ((ins.size : Int) - y))) := by
  have h1 := (rest_eq (D := D) (ins := ins) h _ (uP D s x) (Nat.le_refl _) (uP_new h)).1
  rw [← (keep_pre (ins := ins) h _ (Nat.le_refl _)).2.2]
  exact congrArg _ h1
theorem uR_len (h : x + y ≤ s.size) : (((lexAt D (nt s x y ins) (uP D s x)).map tq).take (uR D s x y ins).1).length = (uR D s x y ins).1 := by
  have h1 := (rest_eq (D := D) (ins := ins) h _ (uP D s x) (Nat.le_refl _) (uP_new h)).2
  rw [List.length_take, List.length_map]
  exact Nat.min_eq_left h1
theorem rsc_two {t : ByteArray} {L : List TQ} {lo d : Int} {m : Nat} (hL : m ≤ L.length) (hm : ∀ p : Nat, lo ≤ (p : Int) → fd L ((p : Int) - d) < L.length → m ≤ fd L ((p : Int) - d)) : ∀ (f p : Nat), t.size - p ≤ f → m ≤ (rsc D t L lo d p).2 ∧ (rsc D t L lo d p).2 ≤ L.length
  | f, p, hf => by
    by_cases hlt : p < t.size
    · by_cases hc : lo ≤ (p : Int) ∧ fd L ((p : Int) - d) < L.length
      · rw [rsc_met hlt hc.1 hc.2]; exact ⟨hm p hc.1 hc.2, Nat.le_of_lt hc.2⟩
      · rw [rsc_next hlt hc]
        have hb := sc_bounds (D := D) hlt
        match f, hf with
        | 0, hf => omega
        | f + 1, hf => exact rsc_two hL hm f _ (by omega)
    · rw [rsc_end (by omega)]; exact ⟨hL, Nat.le_refl _⟩
theorem uR_two (h : x + y ≤ s.size) : uM D s x ≤ (uR D s x y ins).2 ∧ (uR D s x y ins).2 ≤ (lexT D s).length := by
  refine rsc_two (pre_le _ _) (fun p hlo hfd => ?_) _ _ (Nat.le_refl _)
  apply Nat.le_of_not_lt
  intro hlt
  obtain ⟨t, h1, h2⟩ := fd_hit hfd
  have h3 := pre_lt hlt h1
  obtain ⟨q, hq, rfl, _⟩ := lex_pos (D := D) (s := s) rfl h1
  have hb := sc_bounds (D := D) hq
  have h4 : (q : Int) = (p : Int) - ((ins.size : Int) - y) := h2
  have h5 : (q : Int) + ((sc D s q).2.2 : Int) ≤ (x : Int) := h3
  omega
theorem uM_le : uM D s x ≤ (lexT D s).length := pre_le _ _
end
end Go.Proofs.Ytblcjjhjgoccgaa
