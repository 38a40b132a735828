/-
  Plain maths of edits: application, inversion, composition, rebasing (no program).
-/
namespace Te
abbrev Ed := Int × Int × ByteArray
def Fit (n : Int) (e : Ed) : Prop := 0 ≤ e.1 ∧ 0 ≤ e.2.1 ∧ e.2.1 ≤ n - e.1
instance (n : Int) (e : Ed) : Decidable (Fit n e) := by unfold Fit; infer_instance
def ap (s : ByteArray) (e : Ed) : ByteArray := s.extract 0 e.1.toNat ++ e.2.2 ++ s.extract (e.1.toNat + e.2.1.toNat) s.size
def inv (s : ByteArray) (e : Ed) : Ed := (e.1, (e.2.2.size : Int), s.extract e.1.toNat (e.1.toNat + e.2.1.toNat))

theorem list_ex (x : ByteArray) (i j : Nat) : (x.extract i j).data.toList = (x.data.toList.take j).drop i := by
  rw [ByteArray.data_extract, Array.toList_extract]
  simp [List.drop_take]
theorem list_app (x y : ByteArray) : (x ++ y).data.toList = x.data.toList ++ y.data.toList := by
  simp
theorem bytes_ext {x y : ByteArray} (h : x.data.toList = y.data.toList) : x = y := by
  apply ByteArray.ext; apply Array.ext'; exact h
theorem len_data (x : ByteArray) : x.data.toList.length = x.size := by rw [Array.length_toList]; rfl

theorem Fit.nat {n : Nat} {e : Ed} (h : Fit n e) : ∃ (a d : Nat) (t : ByteArray), e = ((a : Int), (d : Int), t) ∧ a + d ≤ n := by
  obtain ⟨a, d, t⟩ := e
  obtain ⟨h1, h2, h3⟩ := h
  simp only at h1 h2 h3
  exact ⟨a.toNat, d.toNat, t, by simp [Int.toNat_of_nonneg h1, Int.toNat_of_nonneg h2], by omega⟩
theorem fit_nat {n a d : Nat} {t : ByteArray} : Fit n ((a : Int), (d : Int), t) ↔ a + d ≤ n := by
  unfold Fit; constructor
  · intro h; simp only at h; omega
  · intro h; simp only; omega

/-- The list of bytes. -/
def L (s : ByteArray) : List UInt8 := s.data.toList
theorem L_inj {x y : ByteArray} (h : L x = L y) : x = y := bytes_ext h
theorem L_len (x : ByteArray) : (L x).length = x.size := len_data x
theorem L_ex (x : ByteArray) (i j : Nat) : L (x.extract i j) = ((L x).take j).drop i := list_ex x i j
theorem L_app (x y : ByteArray) : L (x ++ y) = L x ++ L y := list_app x y
theorem L_ap (s t : ByteArray) (a d : Nat) : L (ap s ((a : Int), (d : Int), t)) = (L s).take a ++ L t ++ (L s).drop (a + d) := by
  unfold ap
  simp only [L_app, L_ex, Int.toNat_natCast, List.drop_zero]
  have : (L s).take s.size = L s := List.take_of_length_le (by rw [L_len]; exact Nat.le_refl _)
  rw [this]
theorem L_inv (s t : ByteArray) (a d : Nat) : inv s ((a : Int), (d : Int), t) = ((a : Int), (t.size : Int), s.extract a (a + d)) := by
  unfold inv
  simp only [Int.toNat_natCast]

theorem ap_size {s : ByteArray} {e : Ed} (h : Fit s.size e) : ((ap s e).size : Int) + e.2.1 = s.size + e.2.2.size := by
  obtain ⟨a, d, t, rfl, h⟩ := h.nat
  have : (ap s ((a : Int), (d : Int), t)).size + d = s.size + t.size := by
    rw [← L_len, L_ap]
    simp only [List.length_append, List.length_take, List.length_drop, L_len]
    omega
  simp only
  omega
/-- A piece in the middle replaced. -/
theorem apl {s t : ByteArray} {P D Q : List UInt8} {a d : Nat} (h : L s = P ++ D ++ Q) (ha : P.length = a) (hd : D.length = d) : L (ap s ((a : Int), (d : Int), t)) = P ++ L t ++ Q := by
  rw [L_ap, h]
  have e1 : (P ++ D ++ Q).take a = P := by rw [List.append_assoc, ← ha]; simp
  have e2 : (P ++ D ++ Q).drop (a + d) = Q := by
    rw [show a + d = (P ++ D).length by simp [ha, hd]]
    simp
  rw [e1, e2]
theorem mid {s : ByteArray} {P D Q : List UInt8} {a d : Nat} (h : L s = P ++ D ++ Q) (ha : P.length = a) (hd : D.length = d) : L (s.extract a (a + d)) = D := by
  rw [L_ex, h]
  rw [show a + d = (P ++ D).length by simp [ha, hd]]
  rw [List.take_left, ← ha, List.drop_left]
theorem split {s : ByteArray} {a d : Nat} (h : a + d ≤ s.size) : ∃ P D Q, L s = P ++ D ++ Q ∧ P.length = a ∧ D.length = d := by
  refine ⟨(L s).take a, ((L s).drop a).take d, (L s).drop (a + d), ?_, ?_, ?_⟩
  · rw [List.append_assoc, ← List.drop_drop, List.take_append_drop, List.take_append_drop]
  · rw [List.length_take, L_len]; omega
  · rw [List.length_take, List.length_drop, L_len]; omega

theorem ap_inv {s : ByteArray} {e : Ed} (h : Fit s.size e) : Fit (ap s e).size (inv s e) ∧ ap (ap s e) (inv s e) = s ∧ inv (ap s e) (inv s e) = e := by
  have hs := ap_size h
  obtain ⟨a, d, t, rfl, hl⟩ := h.nat
  obtain ⟨P, D, Q, h1, h2, h3⟩ := split hl
  have h4 := apl (t := t) h1 h2 h3
  have h5 := mid h1 h2 h3
  rw [L_inv]
  simp only at hs
  refine ⟨fit_nat.2 (by omega), ?_, ?_⟩
  · apply L_inj
    rw [apl h4 h2 (L_len t), h5, h1]
  · rw [L_inv]
    have : (s.extract a (a + d)).size = d := by rw [← L_len, h5, h3]
    rw [this]
    have : (ap s ((a : Int), (d : Int), t)).extract a (a + t.size) = t := L_inj (mid h4 h2 (L_len t))
    rw [this]

/-! Lists of edits. -/
def apAll : ByteArray → List Ed → Option ByteArray
  | s, [] => some s
  | s, e :: E => if Fit s.size e then apAll (ap s e) E else none
def ivs : ByteArray → List Ed → List Ed
  | _, [] => []
  | s, e :: E => ivs (ap s e) E ++ [inv s e]
def sz : List Ed → Nat
  | [] => 0
  | e :: E => e.2.2.size + sz E
theorem ivs_length : ∀ (E : List Ed) (s : ByteArray), (ivs s E).length = E.length
  | [], _ => rfl
  | e :: E, s => by simp [ivs, ivs_length E]
theorem sz_append : ∀ (A B : List Ed), sz (A ++ B) = sz A + sz B
  | [], B => by simp [sz]
  | a :: A, B => by simp [sz, sz_append A B]; omega
theorem apAll_append : ∀ (A B : List Ed) (s : ByteArray), apAll s (A ++ B) = (apAll s A).bind fun t => apAll t B
  | [], B, s => by simp [apAll]
  | a :: A, B, s => by
    simp only [apAll, List.cons_append]
    by_cases h : Fit s.size a
    · rw [if_pos h, if_pos h, apAll_append A B]
    · rw [if_neg h, if_neg h]; rfl
theorem ivs_append : ∀ (A : List Ed) (x : Ed) (s t : ByteArray), apAll s A = some t → ivs s (A ++ [x]) = inv t x :: ivs s A
  | [], x, s, t, h => by
    simp [apAll] at h
    subst h
    rfl
  | a :: A, x, s, t, h => by
    simp only [apAll] at h
    by_cases hf : Fit s.size a
    · rw [if_pos hf] at h
      simp only [ivs, List.cons_append, ivs_append A x _ t h]
    · rw [if_neg hf] at h; cases h

theorem back : ∀ (E : List Ed) (s t : ByteArray), apAll s E = some t → apAll t (ivs s E) = some s ∧ ivs t (ivs s E) = E ∧ t.size + sz (ivs s E) = s.size + sz E
  | [], s, t, h => by
    simp [apAll] at h
    subst h
    simp [apAll, ivs, sz]
  | e :: E, s, t, h => by
    simp only [apAll] at h
    by_cases hf : Fit s.size e
    · rw [if_pos hf] at h
      obtain ⟨h1, h2, h3⟩ := back E (ap s e) t h
      obtain ⟨f1, f2, f3⟩ := ap_inv hf
      have hz := ap_size hf
      refine ⟨?_, ?_, ?_⟩
      · simp only [ivs, apAll_append, h1, Option.bind_some, apAll, if_pos f1, f2]
      · simp only [ivs]
        rw [ivs_append _ _ _ _ h1, h2, f3]
      · simp only [ivs, sz_append, sz]
        obtain ⟨a, d, u, rfl, hl⟩ := hf.nat
        have : (inv s ((a : Int), (d : Int), u)).2.2.size = d := by
          rw [L_inv]
          show (s.extract a (a + d)).size = d
          rw [← L_len, L_ex, List.length_drop, List.length_take, L_len]; omega
        simp only at hz
        simp only
        omega
    · rw [if_neg hf] at h; cases h

/-! Composition. -/
/-- The text, and how many bytes in front and behind no edit has reached. -/
def cst : ByteArray → Int → Int → List Ed → Option (ByteArray × Int × Int)
  | t, b, c, [] => some (t, b, c)
  | t, b, c, e :: E => if Fit t.size e then cst (ap t e) (min b e.1) (min c (t.size - e.1 - e.2.1)) E else none
def fin (s : ByteArray) (r : ByteArray × Int × Int) : Ed := (r.2.1, s.size - r.2.2 - r.2.1, r.1.extract r.2.1.toNat (r.1.size - r.2.2).toNat)
def cmp (s : ByteArray) (E : List Ed) : Option Ed :=
  if E = [] then some (0, 0, ByteArray.empty) else (cst s s.size s.size E).map (fin s)
def Inv (s t : ByteArray) (b c : Int) : Prop :=
  ∃ (k m : Nat), b = k ∧ c = m ∧ k + m ≤ s.size ∧ k + m ≤ t.size ∧ (L t).take k = (L s).take k ∧ (L t).drop (t.size - m) = (L s).drop (s.size - m)
def Inv0 (s t : ByteArray) (b c : Int) : Prop := (t = s ∧ b = s.size ∧ c = s.size) ∨ Inv s t b c
theorem Inv0.step {s t : ByteArray} {b c : Int} (h : Inv0 s t b c) {e : Ed} (hf : Fit t.size e) : Inv s (ap t e) (min b e.1) (min c (t.size - e.1 - e.2.1)) := by
  have hz := ap_size hf
  obtain ⟨a, d, u, rfl, hl⟩ := hf.nat
  simp only at hz ⊢
  have key : ∀ (k m : Nat), k ≤ a → m + a + d ≤ t.size → (L (ap t ((a : Int), (d : Int), u))).take k = (L t).take k ∧ (L (ap t ((a : Int), (d : Int), u))).drop ((ap t ((a : Int), (d : Int), u)).size - m) = (L t).drop (t.size - m) := by
    intro k m hk hm
    rw [L_ap]
    have lt := L_len t
    have lu := L_len u
    refine ⟨?_, ?_⟩
    · rw [List.append_assoc, List.take_append_of_le_length (by rw [List.length_take]; omega), List.take_take, Nat.min_eq_left hk]
    · rw [List.drop_append, List.drop_eq_nil_of_le (by rw [List.length_append, List.length_take]; omega), List.nil_append, List.drop_drop]
      congr 1
      rw [List.length_append, List.length_take]
      omega
  rcases h with ⟨rfl, rfl, rfl⟩ | ⟨k, m, rfl, rfl, h1, h2, h3, h4⟩
  · obtain ⟨k1, k2⟩ := key a (t.size - a - d) (Nat.le_refl _) (by omega)
    exact ⟨a, t.size - a - d, by omega, by omega, by omega, by omega, k1, k2⟩
  · obtain ⟨k1, k2⟩ := key (min k a) (min m (t.size - a - d)) (by omega) (by omega)
    refine ⟨min k a, min m (t.size - a - d), by omega, by omega, by omega, by omega, ?_, ?_⟩
    · rw [k1]
      have := congrArg (List.take (min k a)) h3
      rw [List.take_take, List.take_take] at this
      rwa [show min (min k a) k = min k a by omega] at this
    · rw [k2]
      have := congrArg (List.drop (m - min m (t.size - a - d))) h4
      rw [List.drop_drop, List.drop_drop] at this
      rwa [show t.size - m + (m - min m (t.size - a - d)) = t.size - min m (t.size - a - d) by omega, show s.size - m + (m - min m (t.size - a - d)) = s.size - min m (t.size - a - d) by omega] at this
theorem cst_inv : ∀ (E : List Ed) (s t : ByteArray) (b c : Int), Inv s t b c → ∀ r, cst t b c E = some r → Inv s r.1 r.2.1 r.2.2 ∧ apAll t E = some r.1
  | [], s, t, b, c, h, r, hr => by
    simp [cst] at hr
    subst hr
    exact ⟨h, rfl⟩
  | e :: E, s, t, b, c, h, r, hr => by
    simp only [cst] at hr
    by_cases hf : Fit t.size e
    · rw [if_pos hf] at hr
      simp only [apAll, if_pos hf]
      exact cst_inv E s _ _ _ (Inv0.step (Or.inr h) hf) r hr
    · rw [if_neg hf] at hr; cases hr
theorem cst_none : ∀ (E : List Ed) (t : ByteArray) (b c : Int), cst t b c E = none ↔ apAll t E = none
  | [], t, b, c => by simp [cst, apAll]
  | e :: E, t, b, c => by
    simp only [cst, apAll]
    by_cases hf : Fit t.size e
    · rw [if_pos hf, if_pos hf]
      exact cst_none E _ _ _
    · rw [if_neg hf, if_neg hf]
      simp
/-- The whole list's composition keeps the invariant. -/
theorem cst_all {E : List Ed} {s : ByteArray} (hE : E ≠ []) {r : ByteArray × Int × Int} (h : cst s s.size s.size E = some r) : Inv s r.1 r.2.1 r.2.2 ∧ apAll s E = some r.1 := by
  match E, hE with
  | e :: E, _ =>
    simp only [cst] at h
    by_cases hf : Fit s.size e
    · rw [if_pos hf] at h
      simp only [apAll, if_pos hf]
      exact cst_inv E s _ _ _ (Inv0.step (Or.inl ⟨rfl, rfl, rfl⟩) hf) r h
    · rw [if_neg hf] at h; cases h
theorem Inv.done {s t : ByteArray} {b c : Int} (h : Inv s t b c) : Fit s.size (fin s (t, b, c)) ∧ ap s (fin s (t, b, c)) = t := by
  obtain ⟨k, m, rfl, rfl, h1, h2, h3, h4⟩ := h
  have e : fin s (t, (k : Int), (m : Int)) = ((k : Int), ((s.size - m - k : Nat) : Int), t.extract k (t.size - m)) := by
    unfold fin
    simp only [Int.toNat_natCast]
    rw [show ((s.size : Int) - m - k) = ((s.size - m - k : Nat) : Int) by omega, show ((t.size : Int) - m).toNat = t.size - m by omega]
  rw [e]
  refine ⟨fit_nat.2 (by omega), ?_⟩
  apply L_inj
  rw [L_ap, L_ex, ← h3, show k + (s.size - m - k) = s.size - m by omega, ← h4]
  have e1 : (L t).take k ++ ((L t).take (t.size - m)).drop k = (L t).take (t.size - m) := by
    have : (L t).take k = ((L t).take (t.size - m)).take k := by rw [List.take_take, Nat.min_eq_left (by omega)]
    rw [this, List.take_append_drop]
  rw [e1, List.take_append_drop]
theorem cmp_ok {s : ByteArray} {E : List Ed} {t : ByteArray} (h : apAll s E = some t) : ∃ e, cmp s E = some e ∧ Fit s.size e ∧ ap s e = t := by
  by_cases hE : E = []
  · subst hE
    simp [apAll] at h
    subst h
    refine ⟨(0, 0, ByteArray.empty), by simp [cmp], ?_, ?_⟩
    · exact ⟨by simp, by simp, by simp⟩
    · apply L_inj
      have h := L_ap s ByteArray.empty 0 0
      have e : L ByteArray.empty = [] := rfl
      rw [e] at h
      simpa using h
  · unfold cmp
    rw [if_neg hE]
    match hc : cst s s.size s.size E with
    | none => rw [(cst_none E s _ _).1 hc] at h; cases h
    | some r =>
      obtain ⟨h1, h2⟩ := cst_all hE hc
      rw [h] at h2
      injection h2 with h2
      exact ⟨_, rfl, h1.done.1, by rw [h1.done.2, h2]⟩
theorem cmp_none {s : ByteArray} {E : List Ed} (h : apAll s E = none) : cmp s E = none := by
  by_cases hE : E = []
  · subst hE; simp [apAll] at h
  · unfold cmp
    rw [if_neg hE, (cst_none E s _ _).2 h]; rfl

/-! Rebasing. -/
def Ok (e : Ed) : Prop := Fit 2147483647 e
instance (e : Ed) : Decidable (Ok e) := by unfold Ok; infer_instance
def rb (a b : Ed) : Ed × Bool :=
  if Ok a ∧ Ok b then
    if b.1 + b.2.1 ≤ a.1 then ((a.1 + (b.2.2.size - b.2.1), a.2.1, a.2.2), true)
    else if a.1 + a.2.1 ≤ b.1 then (a, true)
    else ((0, 0, ByteArray.empty), false)
  else ((0, 0, ByteArray.empty), false)
theorem rb_eq {a b : Ed} (ha : Ok a) (hb : Ok b) : rb a b = if b.1 + b.2.1 ≤ a.1 then ((a.1 + (b.2.2.size - b.2.1), a.2.1, a.2.2), true) else if a.1 + a.2.1 ≤ b.1 then (a, true) else ((0, 0, ByteArray.empty), false) := by
  unfold rb; rw [if_pos ⟨ha, hb⟩]
/-- 'a' lies in front of 'b'. -/
theorem front {s t u : ByteArray} {a d a' d' : Nat} (h : a + d ≤ a') (h' : a' + d' ≤ s.size) :
    Fit (ap s ((a : Int), (d : Int), t)).size (((a' : Int) + (t.size - d)), (d' : Int), u) ∧ Fit (ap s ((a' : Int), (d' : Int), u)).size ((a : Int), (d : Int), t) ∧
    ap (ap s ((a : Int), (d : Int), t)) (((a' : Int) + (t.size - d)), (d' : Int), u) = ap (ap s ((a' : Int), (d' : Int), u)) ((a : Int), (d : Int), t) := by
  have z1 := ap_size (s := s) (e := ((a : Int), (d : Int), t)) (fit_nat.2 (by omega))
  have z2 := ap_size (s := s) (e := ((a' : Int), (d' : Int), u)) (fit_nat.2 (by omega))
  simp only at z1 z2
  have e : (a' : Int) + (t.size - d) = ((a' - d + t.size : Nat) : Int) := by omega
  rw [e]
  refine ⟨fit_nat.2 (by omega), fit_nat.2 (by omega), ?_⟩
  apply L_inj
  obtain ⟨P, D, Q, h1, h2, h3⟩ := split (s := s) (a := a) (d := d) (by omega)
  have hQ : Q.length = s.size - a - d := by
    have := congrArg List.length h1
    simp only [List.length_append, L_len] at this
    omega
  obtain ⟨M, D', Q', rfl, h4, h5⟩ : ∃ M D' Q', Q = M ++ D' ++ Q' ∧ M.length = a' - a - d ∧ D'.length = d' := by
    refine ⟨Q.take (a' - a - d), (Q.drop (a' - a - d)).take d', Q.drop (a' - a - d + d'), ?_, ?_, ?_⟩
    · rw [List.append_assoc, ← List.drop_drop, List.take_append_drop, List.take_append_drop]
    · rw [List.length_take]; omega
    · rw [List.length_take, List.length_drop]; omega
  have f1 := apl (t := t) h1 h2 h3
  have g1 : L s = (P ++ D ++ M) ++ D' ++ Q' := by rw [h1]; simp [List.append_assoc]
  have f2 := apl (t := u) g1 (a := a') (by simp only [List.length_append]; omega) h5
  have f3 := apl (t := u) (s := ap s ((a : Int), (d : Int), t)) (P := P ++ L t ++ M) (D := D') (Q := Q') (a := a' - d + t.size) (by rw [f1]; simp [List.append_assoc]) (by simp only [List.length_append, L_len]; omega) h5
  have f4 := apl (t := t) (s := ap s ((a' : Int), (d' : Int), u)) (P := P) (D := D) (Q := M ++ L u ++ Q') (a := a) (by rw [f2]; simp [List.append_assoc]) h2 h3
  rw [f3, f4]
  simp [List.append_assoc]

theorem commutes {s : ByteArray} {a b : Ed} (hs : s.size ≤ 1000000) (ha : Fit s.size a) (hb : Fit s.size b) :
    (rb a b).2 = (rb b a).2 ∧ ((rb a b).2 = true → (a.2.1 = 0 ∧ b.2.1 = 0 ∧ a.1 = b.1) ∨
      ∃ t, apAll s [a, (rb b a).1] = some t ∧ apAll s [b, (rb a b).1] = some t) := by
  have ha' := ha
  have hb' := hb
  obtain ⟨p, d, t, rfl, h1⟩ := ha.nat
  obtain ⟨q, g, u, rfl, h2⟩ := hb.nat
  have o1 : Ok ((p : Int), (d : Int), t) := by unfold Ok Fit; simp only; omega
  have o2 : Ok ((q : Int), (g : Int), u) := by unfold Ok Fit; simp only; omega
  rw [rb_eq o1 o2, rb_eq o2 o1]
  simp only
  by_cases c1 : (q : Int) + g ≤ p
  · by_cases c2 : (p : Int) + d ≤ q
    · rw [if_pos c1, if_pos c2]
      exact ⟨rfl, fun _ => .inl (by omega)⟩
    · rw [if_pos c1, if_neg c2, if_pos c1]
      refine ⟨rfl, fun _ => .inr ⟨ap (ap s ((q : Int), (g : Int), u)) ((p : Int) + (u.size - g), (d : Int), t), ?_, ?_⟩⟩
      all_goals obtain ⟨f1, f2, f3⟩ := front (s := s) (t := u) (u := t) (a := q) (d := g) (a' := p) (d' := d) (by omega) h1
      · simp only [apAll, if_pos ha', if_pos f2, f3]
      · simp only [apAll, if_pos hb', if_pos f1]
  · by_cases c2 : (p : Int) + d ≤ q
    · rw [if_neg c1, if_pos c2, if_pos c2]
      refine ⟨rfl, fun _ => .inr ⟨ap (ap s ((p : Int), (d : Int), t)) ((q : Int) + (t.size - d), (g : Int), u), ?_, ?_⟩⟩
      all_goals obtain ⟨f1, f2, f3⟩ := front (s := s) (t := t) (u := u) (a := p) (d := d) (a' := q) (d' := g) (by omega) h2
      · simp only [apAll, if_pos ha', if_pos f1]
      · simp only [apAll, if_pos hb', if_pos f2, f3]
    · rw [if_neg c1, if_neg c2, if_neg c2, if_neg c1]
      exact ⟨rfl, fun h => by cases h⟩
end Te
