/-
  Plain maths: the application of an edit; stacks of edits (no program).
-/
namespace Te
abbrev Ed := Int × Int × ByteArray
def Fit (n : Int) (e : Ed) : Prop := 0 ≤ e.1 ∧ 0 ≤ e.2.1 ∧ e.2.1 ≤ n - e.1
instance (n : Int) (e : Ed) : Decidable (Fit n e) := by unfold Fit; infer_instance
def ap (s : ByteArray) (e : Ed) : ByteArray := s.extract 0 e.1.toNat ++ e.2.2 ++ s.extract (e.1.toNat + e.2.1.toNat) s.size
def inv (s : ByteArray) (e : Ed) : Ed := (e.1, (e.2.2.size : Int), s.extract e.1.toNat (e.1.toNat + e.2.1.toNat))

theorem list_ex (x : ByteArray) (i j : Nat) : (x.extract i j).data.toList = (x.data.toList.take j).drop i := by
  rw [ByteArray.data_extract, Array.toList_extract]
  simp [List.drop_take]
theorem list_app (x y : ByteArray) : (x ++ y).data.toList = x.data.toList ++ y.data.toList := by
  simp
theorem bytes_ext {x y : ByteArray} (h : x.data.toList = y.data.toList) : x = y := by
  apply ByteArray.ext; apply Array.ext'; exact h
theorem len_data (x : ByteArray) : x.data.toList.length = x.size := by rw [Array.length_toList]; rfl

theorem Fit.nat {n : Nat} {e : Ed} (h : Fit n e) : ∃ (a d : Nat) (t : ByteArray), e = ((a : Int), (d : Int), t) ∧ a + d ≤ n := by
  obtain ⟨a, d, t⟩ := e
  obtain ⟨h1, h2, h3⟩ := h
  simp only at h1 h2 h3
  exact ⟨a.toNat, d.toNat, t, by simp [Int.toNat_of_nonneg h1, Int.toNat_of_nonneg h2], by omega⟩
theorem fit_nat {n a d : Nat} {t : ByteArray} : Fit n ((a : Int), (d : Int), t) ↔ a + d ≤ n := by
  unfold Fit; constructor
  · intro h; simp only at h; omega
  · intro h; simp only; omega

/-- The list of bytes. -/
def L (s : ByteArray) : List UInt8 := s.data.toList
theorem L_inj {x y : ByteArray} (h : L x = L y) : x = y := bytes_ext h
theorem L_len (x : ByteArray) : (L x).length = x.size := len_data x
theorem L_ex (x : ByteArray) (i j : Nat) : L (x.extract i j) = ((L x).take j).drop i := list_ex x i j
theorem L_app (x y : ByteArray) : L (x ++ y) = L x ++ L y := list_app x y
theorem L_ap (s t : ByteArray) (a d : Nat) : L (ap s ((a : Int), (d : Int), t)) = (L s).take a ++ L t ++ (L s).drop (a + d) := by
  unfold ap
  simp only [L_app, L_ex, Int.toNat_natCast, List.drop_zero]
  have : (L s).take s.size = L s := List.take_of_length_le (by rw [L_len]; exact Nat.le_refl _)
  rw [this]
theorem L_inv (s t : ByteArray) (a d : Nat) : inv s ((a : Int), (d : Int), t) = ((a : Int), (t.size : Int), s.extract a (a + d)) := by
  unfold inv
  simp only [Int.toNat_natCast]

theorem ap_size {s : ByteArray} {e : Ed} (h : Fit s.size e) : ((ap s e).size : Int) + e.2.1 = s.size + e.2.2.size := by
  obtain ⟨a, d, t, rfl, h⟩ := h.nat
  have : (ap s ((a : Int), (d : Int), t)).size + d = s.size + t.size := by
    rw [← L_len, L_ap]
    simp only [List.length_append, List.length_take, List.length_drop, L_len]
    omega
  simp only
  omega
/-- A piece in the middle replaced. -/
theorem apl {s t : ByteArray} {P D Q : List UInt8} {a d : Nat} (h : L s = P ++ D ++ Q) (ha : P.length = a) (hd : D.length = d) : L (ap s ((a : Int), (d : Int), t)) = P ++ L t ++ Q := by
  rw [L_ap, h]
  have e1 : (P ++ D ++ Q).take a = P := by rw [List.append_assoc, ← ha]; simp
  have e2 : (P ++ D ++ Q).drop (a + d) = Q := by
    rw [show a + d = (P ++ D).length by simp [ha, hd]]
    simp
  rw [e1, e2]
theorem mid {s : ByteArray} {P D Q : List UInt8} {a d : Nat} (h : L s = P ++ D ++ Q) (ha : P.length = a) (hd : D.length = d) : L (s.extract a (a + d)) = D := by
  rw [L_ex, h]
  rw [show a + d = (P ++ D).length by simp [ha, hd]]
  rw [List.take_left, ← ha, List.drop_left]
theorem split {s : ByteArray} {a d : Nat} (h : a + d ≤ s.size) : ∃ P D Q, L s = P ++ D ++ Q ∧ P.length = a ∧ D.length = d := by
  refine ⟨(L s).take a, ((L s).drop a).take d, (L s).drop (a + d), ?_, ?_, ?_⟩
  · rw [List.append_assoc, ← List.drop_drop, List.take_append_drop, List.take_append_drop]
  · rw [List.length_take, L_len]; omega
  · rw [List.length_take, List.length_drop, L_len]; omega

theorem ap_inv {s : ByteArray} {e : Ed} (h : Fit s.size e) : Fit (ap s e).size (inv s e) ∧ ap (ap s e) (inv s e) = s ∧ inv (ap s e) (inv s e) = e := by
  have hs := ap_size h
  obtain ⟨a, d, t, rfl, hl⟩ := h.nat
  obtain ⟨P, D, Q, h1, h2, h3⟩ := split hl
  have h4 := apl (t := t) h1 h2 h3
  have h5 := mid h1 h2 h3
  rw [L_inv]
  simp only at hs
  refine ⟨fit_nat.2 (by omega), ?_, ?_⟩
  · apply L_inj
    rw [apl h4 h2 (L_len t), h5, h1]
  · rw [L_inv]
    have : (s.extract a (a + d)).size = d := by rw [← L_len, h5, h3]
    rw [this]
    have : (ap s ((a : Int), (d : Int), t)).extract a (a + t.size) = t := L_inj (mid h4 h2 (L_len t))
    rw [this]


theorem ap_le {s : ByteArray} {e : Ed} (h : Fit s.size e) : (ap s e).size ≤ s.size + e.2.2.size := by
  have := ap_size h
  have := h.2.1
  omega

/-! Lists of edits. -/
def apAll : ByteArray → List Ed → Option ByteArray
  | s, [] => some s
  | s, e :: E => if Fit s.size e then apAll (ap s e) E else none
def ivs : ByteArray → List Ed → List Ed
  | _, [] => []
  | s, e :: E => ivs (ap s e) E ++ [inv s e]
def sz : List Ed → Nat
  | [] => 0
  | e :: E => e.2.2.size + sz E
theorem ivs_length : ∀ (E : List Ed) (s : ByteArray), (ivs s E).length = E.length
  | [], _ => rfl
  | e :: E, s => by simp [ivs, ivs_length E]
theorem sz_append : ∀ (A B : List Ed), sz (A ++ B) = sz A + sz B
  | [], B => by simp [sz]
  | a :: A, B => by simp [sz, sz_append A B]; omega
theorem apAll_append : ∀ (A B : List Ed) (s : ByteArray), apAll s (A ++ B) = (apAll s A).bind fun t => apAll t B
  | [], B, s => by simp [apAll]
  | a :: A, B, s => by
    simp only [apAll, List.cons_append]
    by_cases h : Fit s.size a
    · rw [if_pos h, if_pos h, apAll_append A B]
    · rw [if_neg h, if_neg h]; rfl
theorem ivs_append : ∀ (A : List Ed) (x : Ed) (s t : ByteArray), apAll s A = some t → ivs s (A ++ [x]) = inv t x :: ivs s A
  | [], x, s, t, h => by
    simp [apAll] at h
    subst h
    rfl
  | a :: A, x, s, t, h => by
    simp only [apAll] at h
    by_cases hf : Fit s.size a
    · rw [if_pos hf] at h
      simp only [ivs, List.cons_append, ivs_append A x _ t h]
    · rw [if_neg hf] at h; cases h

theorem back : ∀ (E : List Ed) (s t : ByteArray), apAll s E = some t → apAll t (ivs s E) = some s ∧ ivs t (ivs s E) = E ∧ t.size + sz (ivs s E) = s.size + sz E
  | [], s, t, h => by
    simp [apAll] at h
    subst h
    simp [apAll, ivs, sz]
  | e :: E, s, t, h => by
    simp only [apAll] at h
    by_cases hf : Fit s.size e
    · rw [if_pos hf] at h
      obtain ⟨h1, h2, h3⟩ := back E (ap s e) t h
      obtain ⟨f1, f2, f3⟩ := ap_inv hf
      have hz := ap_size hf
      refine ⟨?_, ?_, ?_⟩
      · simp only [ivs, apAll_append, h1, Option.bind_some, apAll, if_pos f1, f2]
      · simp only [ivs]
        rw [ivs_append _ _ _ _ h1, h2, f3]
      · simp only [ivs, sz_append, sz]
        obtain ⟨a, d, u, rfl, hl⟩ := hf.nat
        have : (inv s ((a : Int), (d : Int), u)).2.2.size = d := by
          rw [L_inv]
          show (s.extract a (a + d)).size = d
          rw [← L_len, L_ex, List.length_drop, List.length_take, L_len]; omega
        simp only at hz
        simp only
        omega
    · rw [if_neg hf] at h; cases h

/-! Stacks: the edit on top first. -/
theorem ins_le {s : ByteArray} {e : Ed} (h : Fit s.size e) : e.2.2.size ≤ (ap s e).size := by
  have := ap_size h
  obtain ⟨h1, h2, h3⟩ := h
  omega
/-- Each edit of the stack fits the text that those above it leave; no text is longer than K. -/
def Ch (K : Nat) : ByteArray → List Ed → Prop
  | s, [] => s.size ≤ K
  | s, e :: E => s.size ≤ K ∧ Fit s.size e ∧ Ch K (ap s e) E
theorem Ch.size {K : Nat} {s : ByteArray} {E : List Ed} (h : Ch K s E) : s.size ≤ K := by
  cases E with
  | nil => exact h
  | cons e E => exact h.1
theorem Ch.fit {K : Nat} {s : ByteArray} {e : Ed} {E : List Ed} (h : Ch K s (e :: E)) : Fit s.size e := h.2.1
theorem Ch.pop {K : Nat} {s : ByteArray} {e : Ed} {E : List Ed} (h : Ch K s (e :: E)) : Ch K (ap s e) E := h.2.2
theorem Ch.ins {K : Nat} {s : ByteArray} {e : Ed} {E : List Ed} (h : Ch K s (e :: E)) : e.2.2.size ≤ K := Nat.le_trans (ins_le h.fit) h.pop.size
theorem Ch.push {K : Nat} {s : ByteArray} {e : Ed} {E : List Ed} (h : Ch K s E) (hf : Fit s.size e) (hs : (ap s e).size ≤ K) : Ch K (ap s e) (inv s e :: E) := by
  obtain ⟨h1, h2, _⟩ := ap_inv hf
  exact ⟨hs, h1, by rw [h2]; exact h⟩
/-- The history as the document tells it: the first text, the edits, how many of them stand. -/
structure Tale (K : Nat) (S0 : ByteArray) (E : List Ed) (k : Nat) (s : ByteArray) (U R : List Ed) : Prop where
  le : k ≤ E.length
  now : apAll S0 (E.take k) = some s
  undos : U = ivs S0 (E.take k)
  redos : R = E.drop k
  chU : Ch K s U
  chR : Ch K s R
theorem Tale.start {K : Nat} {s : ByteArray} (h : s.size ≤ K) : Tale K s [] 0 s [] [] := ⟨Nat.le_refl _, rfl, rfl, rfl, h, h⟩
theorem Tale.do {K : Nat} {S0 : ByteArray} {E : List Ed} {k : Nat} {s : ByteArray} {U R : List Ed} (h : Tale K S0 E k s U R) {e : Ed} (hf : Fit s.size e) (hs : (ap s e).size ≤ K) :
    Tale K S0 (E.take k ++ [e]) (k + 1) (ap s e) (inv s e :: U) [] := by
  have hl := h.le
  have ht : (E.take k ++ [e]).take (k + 1) = E.take k ++ [e] := List.take_of_length_le (by simp; omega)
  refine ⟨by simp; omega, ?_, ?_, ?_, h.chU.push hf hs, hs⟩
  · rw [ht, apAll_append, h.now]
    simp [apAll, hf]
  · rw [ht, ivs_append _ _ _ _ h.now, h.undos]
  · symm; apply List.drop_eq_nil_of_le; simp; omega
theorem take_pred {E : List Ed} {k : Nat} (h : k < E.length) : E.take (k + 1) = E.take k ++ [E[k]] := by
  rw [List.take_succ_eq_append_getElem h]
/-- Undo: the edit that stands last is reverted. -/
theorem Tale.undo {K : Nat} {S0 : ByteArray} {E : List Ed} {k : Nat} {s : ByteArray} {U R : List Ed} (h : Tale K S0 E (k + 1) s U R) :
    ∃ t e, E[k]? = some e ∧ apAll S0 (E.take k) = some t ∧ Fit t.size e ∧ s = ap t e ∧ U = inv t e :: ivs S0 (E.take k) ∧ ap s (inv t e) = t ∧ inv s (inv t e) = e ∧
      Tale K S0 E k t (ivs S0 (E.take k)) (e :: R) := by
  have hl := h.le
  have hk : k < E.length := by omega
  have hn := h.now
  rw [take_pred hk, apAll_append] at hn
  cases ht : apAll S0 (E.take k) with
  | none => rw [ht] at hn; cases hn
  | some t =>
    rw [ht] at hn
    simp only [Option.bind_some, apAll] at hn
    by_cases hf : Fit t.size E[k]
    · rw [if_pos hf] at hn
      simp only [Option.some.injEq] at hn
      obtain ⟨f1, f2, f3⟩ := ap_inv hf
      have hU : U = inv t E[k] :: ivs S0 (E.take k) := by
        rw [h.undos, take_pred hk, ivs_append _ _ _ _ ht]
      have hc := h.chU
      rw [hU] at hc
      refine ⟨t, E[k], List.getElem?_eq_getElem hk, rfl, hf, hn.symm, hU, by rw [← hn]; exact f2, by rw [← hn]; exact f3, by omega, ht, rfl, ?_, ?_, ?_⟩
      · rw [h.redos, List.drop_eq_getElem_cons hk]
      · have := hc.pop
        rw [← hn, f2] at this
        exact this
      · have := h.chR.push (e := inv t E[k]) (by rw [← hn]; exact f1) (by rw [← hn, f2]; have := hc.pop.size; rwa [← hn, f2] at this)
        rw [← hn, f2, f3] at this
        exact this
    · rw [if_neg hf] at hn; cases hn
theorem Tale.redo {K : Nat} {S0 : ByteArray} {E : List Ed} {k : Nat} {s : ByteArray} {U R : List Ed} (h : Tale K S0 E k s U R) (hk : k < E.length) :
    ∃ e R', E[k]? = some e ∧ R = e :: R' ∧ Fit s.size e ∧ Tale K S0 E (k + 1) (ap s e) (inv s e :: U) R' := by
  have hR : R = E[k] :: E.drop (k + 1) := by rw [h.redos, List.drop_eq_getElem_cons hk]
  have hc := h.chR
  rw [hR] at hc
  refine ⟨E[k], E.drop (k + 1), List.getElem?_eq_getElem hk, hR, hc.fit, by omega, ?_, ?_, rfl, h.chU.push hc.fit hc.pop.size, hc.pop⟩
  · rw [take_pred hk, apAll_append, h.now]
    simp [apAll, hc.fit]
  · rw [take_pred hk, ivs_append _ _ _ _ h.now, h.undos]
theorem Tale.lenU {K : Nat} {S0 : ByteArray} {E : List Ed} {k : Nat} {s : ByteArray} {U R : List Ed} (h : Tale K S0 E k s U R) : U.length = k := by
  have := h.le
  rw [h.undos, ivs_length, List.length_take]; omega
theorem Tale.lenR {K : Nat} {S0 : ByteArray} {E : List Ed} {k : Nat} {s : ByteArray} {U R : List Ed} (h : Tale K S0 E k s U R) : R.length = E.length - k := by
  rw [h.redos, List.length_drop]
end Te
