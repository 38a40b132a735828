/-
  Plain maths: reading the text of an expression gives the expression back (namespace Rg; no program).
  Plain maths: partial derivatives, what they match, how many there can be however often one derives (namespace Rg; no program).
  Plain maths: an expression while a string is read: marks, and what they say (namespace Rg; no program).
-/
import Derived.Test.YtednoideboeehaaDoorZ09
import Derived.Test.YtednoideboeehaaDoorZ03
section
namespace Rg
theorem fmt_mk {k : Int} {s : BS} {l : List Rx} : fmt (.mk k s l) = if k = 2 then [40, 41] else if k = 3 then fmtS s else if k = 4 then fmtC l else if k = 5 then fmtU l else if k = 6 then fmtK l else [] := by rw [fmt]
theorem prt_mk {k : Int} {s : BS} {l : List Rx} : prt (.mk k s l) = if k = 1 then false else if k = 3 then wr s || wr (cpl s) else prtL l := by rw [prt]
/-- No sign of repetition stands here. -/
def noS (t : List UInt8) : Prop := ∀ c u, t = c :: u → c ≠ 42 ∧ c ≠ 43 ∧ c ≠ 63
theorem post_none {t : List UInt8} (h : noS t) (x : Rx) : post x t = (x, t) := by
  cases t with
  | nil => rw [post]
  | cons c t =>
    obtain ⟨h1, h2, h3⟩ := h c t rfl
    rw [post, if_neg h1, if_neg h2, if_neg h3]
/-- How an atom's text begins. -/
def Hd (l : List UInt8) : Prop := ∃ c u, l = c :: u ∧ c ≠ 41 ∧ c ≠ 124 ∧ c ≠ 42 ∧ c ≠ 43 ∧ c ≠ 63
theorem Hd.app {l : List UInt8} (h : Hd l) (t : List UInt8) : Hd (l ++ t) := by
  obtain ⟨c, u, rfl, r⟩ := h
  exact ⟨c, u ++ t, rfl, r⟩
theorem Hd.noS {l : List UInt8} (h : Hd l) : noS l := by
  obtain ⟨c, u, rfl, _, _, r⟩ := h
  intro c' u' e
  simp at e
  rw [← e.1]; exact r
theorem Hd.stop {l : List UInt8} (h : Hd l) : stop l = false := by
  obtain ⟨c, u, rfl, h1, h2, _⟩ := h
  simp [Rg.stop, h1, h2]
theorem Hd.grp (l : List UInt8) : Hd (grp true l) := ⟨40, _, rfl, by decide⟩
theorem noS_stop {t : List UInt8} (h : stop t = true) : noS t := by
  intro c u e
  subst e
  simp [stop] at h
  rcases h with rfl | rfl <;> decide

/-- What reading does to the text of x, by where it is met. -/
structure Rb (x : Rx) : Prop where
  regex : ∀ n t, (∀ c u, t = c :: u → c = 41) → 4 * (fmt x ++ t).length + 4 ≤ n → pRegex n (fmt x ++ t) = .ok x t
  branch : x.k ≠ 5 → ∀ n t, stop t = true → 4 * (fmt x ++ t).length + 3 ≤ n → ∃ xs, br xs = x ∧ pReps n [] (fmt x ++ t) = .ok xs t
  repeat_ : x.k ≠ 4 → x.k ≠ 5 → ∀ n t, noS t → 4 * (fmt x ++ t).length + 2 ≤ n → pRepeat n (fmt x ++ t) = .ok x t
  atom : x.k = 3 → ∀ n t, 4 * (fmt x ++ t).length + 1 ≤ n → pAtom n (fmt x ++ t) = .ok x t
  hd : x.k ≠ 4 → x.k ≠ 5 → Hd (fmt x)
theorem stop_noS {t : List UInt8} (h : ∀ c u, t = c :: u → c = 41) : stop t = true := by
  cases t with
  | nil => rfl
  | cons c t => rw [h c t rfl]; rfl
/-- A branch read to its end is the whole. -/
theorem regex_of {x : Rx} (h : ∀ n t, stop t = true → 4 * (fmt x ++ t).length + 3 ≤ n → ∃ xs, br xs = x ∧ pReps n [] (fmt x ++ t) = .ok xs t) (n : Nat) (t : List UInt8) (ht : ∀ c u, t = c :: u → c = 41) (hn : 4 * (fmt x ++ t).length + 4 ≤ n) : pRegex n (fmt x ++ t) = .ok x t := by
  cases n with
  | zero => omega
  | succ n =>
  obtain ⟨xs, rfl, h1⟩ := h n t (stop_noS ht) (by omega)
  rw [pRegex, h1]
  simp only
  cases n with
  | zero => omega
  | succ n =>
  rw [pAlts, skip_hd (fun u e => by have := ht _ _ e; simp at this)]
  rfl
/-- One thing alone is a branch. -/
theorem branch_of {x : Rx} (h : ∀ n t, noS t → 4 * (fmt x ++ t).length + 2 ≤ n → pRepeat n (fmt x ++ t) = .ok x t) (hh : Hd (fmt x)) (n : Nat) (t : List UInt8) (ht : stop t = true) (hn : 4 * (fmt x ++ t).length + 3 ≤ n) : ∃ xs, br xs = x ∧ pReps n [] (fmt x ++ t) = .ok xs t := by
  refine ⟨[x], rfl, ?_⟩
  have hp : 0 < (fmt x).length := by obtain ⟨c, u, e, _⟩ := hh; rw [e]; simp
  cases n with
  | zero => omega
  | succ n =>
  rw [pReps, (hh.app t).stop, if_neg (by simp), h n t (noS_stop ht) (by omega)]
  simp only
  cases n with
  | zero => omega
  | succ n =>
  rw [pReps, if_pos ht]; rfl
theorem repeat_of {x : Rx} (h : ∀ n t, 4 * (fmt x ++ t).length + 1 ≤ n → pAtom n (fmt x ++ t) = .ok x t) (n : Nat) (t : List UInt8) (ht : noS t) (hn : 4 * (fmt x ++ t).length + 2 ≤ n) : pRepeat n (fmt x ++ t) = .ok x t := by
  cases n with
  | zero => omega
  | succ n =>
  rw [pRepeat, h n t (by omega)]
  simp only
  rw [post_none ht]
/-- In parentheses it is an atom. -/
theorem Rb.group {x : Rx} (h : Rb x) (n : Nat) (t : List UInt8) (hn : 4 * (grp true (fmt x) ++ t).length + 1 ≤ n) : pAtom n (grp true (fmt x) ++ t) = .ok x t := by
  cases n with
  | zero => omega
  | succ n =>
  unfold grp at hn ⊢
  rw [if_pos rfl] at hn ⊢
  rw [List.cons_append, List.append_assoc] at hn ⊢
  rw [pAtom, skip_cons]
  simp only
  rw [h.regex n ([41] ++ t) (fun c u e => by simp at e; exact e.1.symm) (by simp at hn ⊢; omega)]
  rfl
/-- A kid, in parentheses or not, is one thing. -/
theorem Rb.unit {x : Rx} (h : Rb x) {p : Bool} (hp : p = false → x.k ≠ 4 ∧ x.k ≠ 5) : Hd (grp p (fmt x)) ∧ ∀ n t, noS t → 4 * (grp p (fmt x) ++ t).length + 2 ≤ n → pRepeat n (grp p (fmt x) ++ t) = .ok x t := by
  cases p with
  | true =>
    refine ⟨Hd.grp _, fun n t ht hn => ?_⟩
    cases n with
    | zero => omega
    | succ n =>
    rw [pRepeat, h.group n t (by omega)]
    simp only
    rw [post_none ht]
  | false =>
    obtain ⟨h4, h5⟩ := hp rfl
    exact ⟨h.hd h4 h5, fun n t ht hn => h.repeat_ h4 h5 n t ht hn⟩
theorem fmtC_cons {x : Rx} {l : List Rx} : fmtC (x :: l) = grp (x.k == 4 || x.k == 5) (fmt x) ++ fmtC l := by rw [fmtC]
theorem fmtV_cons {x : Rx} {l : List Rx} : fmtV (x :: l) = 124 :: (grp (x.k == 5) (fmt x) ++ fmtV l) := by rw [fmtV]
theorem fmtU_cons {x : Rx} {l : List Rx} : fmtU (x :: l) = grp (x.k == 5) (fmt x) ++ fmtV l := by rw [fmtU]
theorem noS_fmtC : ∀ (l : List Rx), (∀ x ∈ l, Rb x) → ∀ {t : List UInt8}, stop t = true → noS (fmtC l ++ t)
  | [], _, t, ht => by rw [fmtC]; exact noS_stop ht
  | x :: l, h, t, ht => by
    rw [fmtC_cons, List.append_assoc]
    exact ((Rb.unit (h x (by simp)) (p := x.k == 4 || x.k == 5) (by simp)).1.app _).noS
theorem reps_fmtC : ∀ (l : List Rx), (∀ x ∈ l, Rb x) → ∀ (n : Nat) (acc : List Rx) (t : List UInt8), stop t = true → 4 * (fmtC l ++ t).length + 3 ≤ n → pReps n acc (fmtC l ++ t) = .ok (acc ++ l) t
  | [], _, n, acc, t, ht, hn => by
    cases n with
    | zero => omega
    | succ n =>
    rw [fmtC, List.nil_append, pReps, if_pos ht, List.append_nil]
  | x :: l, h, n, acc, t, ht, hn => by
    cases n with
    | zero => omega
    | succ n =>
    obtain ⟨u1, u2⟩ := Rb.unit (h x (by simp)) (p := x.k == 4 || x.k == 5) (by simp)
    have hl : ∀ y ∈ l, Rb y := fun y hy => h y (by simp [hy])
    rw [fmtC_cons, List.append_assoc] at hn ⊢
    have hp : 0 < (grp (x.k == 4 || x.k == 5) (fmt x)).length := by obtain ⟨c, u, e, _⟩ := u1; rw [e]; simp
    rw [pReps, (u1.app _).stop, if_neg (by simp), u2 n _ (noS_fmtC l hl ht) (by omega)]
    simp only
    rw [reps_fmtC l hl n _ t ht (by rw [List.length_append] at hn; omega), List.append_assoc]
    rfl
theorem stop_fmtV (l : List Rx) {t : List UInt8} (ht : stop t = true) : stop (fmtV l ++ t) = true := by
  cases l with
  | nil => rw [fmtV]; exact ht
  | cons x l => rw [fmtV_cons]; rfl
/-- A kid of a union is a branch. -/
theorem Rb.arm {x : Rx} (h : Rb x) (n : Nat) (t : List UInt8) (ht : stop t = true) (hn : 4 * (grp (x.k == 5) (fmt x) ++ t).length + 3 ≤ n) : ∃ xs, br xs = x ∧ pReps n [] (grp (x.k == 5) (fmt x) ++ t) = .ok xs t := by
  by_cases h5 : x.k = 5
  · have e : (x.k == 5) = true := by simp [h5]
    rw [e] at hn ⊢
    obtain ⟨u1, u2⟩ := Rb.unit h (p := true) (by simp)
    refine ⟨[x], rfl, ?_⟩
    cases n with
    | zero => omega
    | succ n =>
    have hp : 0 < (grp true (fmt x)).length := by obtain ⟨c, u, e, _⟩ := u1; rw [e]; simp
    rw [pReps, (u1.app t).stop, if_neg (by simp), u2 n t (noS_stop ht) (by omega)]
    simp only
    cases n with
    | zero => omega
    | succ n =>
    rw [pReps, if_pos ht]; rfl
  · have e : (x.k == 5) = false := by simp [h5]
    rw [e] at hn ⊢
    exact h.branch h5 n t ht hn
theorem alts_fmtV : ∀ (l : List Rx), (∀ x ∈ l, Rb x) → ∀ (n : Nat) (acc : List Rx) (t : List UInt8), (∀ c u, t = c :: u → c = 41) → 4 * (fmtV l ++ t).length + 3 ≤ n → pAlts n acc (fmtV l ++ t) = .ok (al (acc ++ l)) t
  | [], _, n, acc, t, ht, hn => by
    cases n with
    | zero => omega
    | succ n =>
    rw [fmtV, List.nil_append, pAlts, skip_hd (fun u e => by have := ht _ _ e; simp at this), List.append_nil]
  | x :: l, h, n, acc, t, ht, hn => by
    cases n with
    | zero => omega
    | succ n =>
    have hl : ∀ y ∈ l, Rb y := fun y hy => h y (by simp [hy])
    rw [fmtV_cons, List.cons_append, List.append_assoc] at hn ⊢
    obtain ⟨xs, e, h1⟩ := (h x (by simp)).arm n (fmtV l ++ t) (stop_fmtV l (stop_noS ht)) (by simp at hn ⊢; omega)
    rw [pAlts, skip_cons]
    simp only
    rw [h1]
    simp only
    rw [e, alts_fmtV l hl n _ t ht (by simp at hn ⊢; omega), List.append_assoc]
    rfl
theorem br_two {l : List Rx} (h : 2 ≤ l.length) : br l = .mk 4 none8 l := by
  cases l with
  | nil => simp at h
  | cons x l =>
    cases l with
    | nil => simp at h
    | cons y l => rfl
theorem two_form {l : List Rx} (h : 2 ≤ l.length) : ∃ x y m, l = x :: y :: m := by
  cases l with
  | nil => simp at h
  | cons x l =>
    cases l with
    | nil => simp at h
    | cons y l => exact ⟨x, y, l, rfl⟩
theorem one_form {l : List Rx} (h : l.length = 1) : ∃ x, l = [x] := by
  cases l with
  | nil => simp at h
  | cons x l =>
    cases l with
    | nil => exact ⟨x, rfl⟩
    | cons y l => simp at h
theorem Rx.eta (x : Rx) : x = .mk x.k x.s x.l := by cases x; rfl
/-- The text of a valid expression that has one reads as the expression. -/
theorem rb (r : Rx) : Vd r → prt r = true → Rb r := by
  induction r using Rx.ind with
  | h k s l ih =>
    intro hv hp
    rw [prt_mk] at hp
    have n12 : ¬ (2 : Int) = 1 := by decide
    rcases shaped_kind hv.shaped with rfl | rfl | rfl | rfl | rfl | rfl
    · simp at hp
    · -- the empty expression
      have hl : l = [] := List.eq_nil_of_length_eq_zero (shaped_leaf hv.shaped (by simp))
      have hs : s = none8 := shaped_emp hv.shaped (by decide)
      subst hl hs
      have hf : fmt (.mk 2 none8 []) = [40, 41] := by rw [fmt_mk, if_pos rfl]
      have hat : ∀ n t, 4 * (fmt (.mk 2 none8 []) ++ t).length + 1 ≤ n → pAtom n (fmt (.mk 2 none8 []) ++ t) = .ok (.mk 2 none8 []) t := by
        intro n t hn
        rw [hf] at hn ⊢
        obtain ⟨n, rfl⟩ : ∃ m, n = m + 4 := ⟨n - 4, by simp at hn; omega⟩
        show pAtom (n + 3 + 1) (40 :: 41 :: t) = _
        rw [pAtom, skip_cons]
        simp only
        rw [pRegex, pReps, if_pos (by rfl)]
        simp only
        rw [pAlts, skip_ne _ (by decide)]
        simp only
        rw [show al [br []] = eps from rfl, skip_cons]; rfl
      have hh : Hd (fmt (.mk 2 none8 [])) := by rw [hf]; exact ⟨40, [41], rfl, by decide⟩
      have hr := repeat_of hat
      have hb := branch_of hr hh
      exact ⟨regex_of hb, fun _ => hb, fun _ _ => hr, fun _ => hat, fun _ _ => hh⟩
    · -- a set
      have hl : l = [] := List.eq_nil_of_length_eq_zero (shaped_leaf hv.shaped (by simp))
      subst hl
      rw [if_neg (by decide), if_pos rfl] at hp
      have hf : fmt (.mk 3 s []) = fmtS s := by rw [fmt_mk, if_neg (by decide), if_pos rfl]
      have hat : ∀ n t, 4 * (fmt (.mk 3 s []) ++ t).length + 1 ≤ n → pAtom n (fmt (.mk 3 s []) ++ t) = .ok (.mk 3 s []) t := by
        intro n t hn
        rw [hf] at hn ⊢
        cases n with
        | zero => omega
        | succ n =>
        obtain ⟨h1, h2, _⟩ := setM_fmt hp t
        rw [pAtom, h2]
        simp only
        rw [h1]; rfl
      have hh : Hd (fmt (.mk 3 s [])) := by rw [hf]; exact (setM_fmt hp []).2.2
      have hr := repeat_of hat
      have hb := branch_of hr hh
      exact ⟨regex_of hb, fun _ => hb, fun _ _ => hr, fun _ => hat, fun _ _ => hh⟩
    · -- one behind the other
      rw [if_neg (by decide), if_neg (by decide), prtL_iff] at hp
      have hs : s = none8 := shaped_emp hv.shaped (by decide)
      subst hs
      have hk : ∀ x ∈ l, Rb x := fun x hx => ih x hx (hv.kid hx) (hp x hx)
      have h2 := shaped_two hv.shaped (.inl rfl)
      have hf : fmt (.mk 4 none8 l) = fmtC l := by rw [fmt_mk, if_neg (by decide), if_neg (by decide), if_pos rfl]
      have hb : ∀ n t, stop t = true → 4 * (fmt (.mk 4 none8 l) ++ t).length + 3 ≤ n → ∃ xs, br xs = .mk 4 none8 l ∧ pReps n [] (fmt (.mk 4 none8 l) ++ t) = .ok xs t := by
        intro n t ht hn
        rw [hf] at hn ⊢
        refine ⟨l, ?_, reps_fmtC l hk n [] t ht hn⟩
        exact br_two h2
      exact ⟨regex_of hb, fun _ => hb, fun h => absurd rfl h, fun h => absurd (show (4 : Int) = 3 from h) (by decide), fun h => absurd rfl h⟩
    · -- one or the other
      rw [if_neg (by decide), if_neg (by decide), prtL_iff] at hp
      have hs : s = none8 := shaped_emp hv.shaped (by decide)
      subst hs
      have hk : ∀ x ∈ l, Rb x := fun x hx => ih x hx (hv.kid hx) (hp x hx)
      have h2 := shaped_two hv.shaped (.inr rfl)
      have hf : fmt (.mk 5 none8 l) = fmtU l := by rw [fmt_mk, if_neg (by decide), if_neg (by decide), if_neg (by decide), if_pos rfl]
      refine ⟨fun n t ht hn => ?_, fun h => absurd rfl h, fun _ h => absurd rfl h, fun h => absurd (show (5 : Int) = 3 from h) (by decide), fun _ h => absurd rfl h⟩
      rw [hf] at hn ⊢
      obtain ⟨x, y, m, rfl⟩ := two_form h2
      rw [fmtU_cons, List.append_assoc] at hn ⊢
      cases n with
      | zero => omega
      | succ n =>
      obtain ⟨xs, e, h1⟩ := (hk x (by simp)).arm n (fmtV (y :: m) ++ t) (stop_fmtV _ (stop_noS ht)) (by omega)
      rw [pRegex, h1]
      simp only
      rw [e, alts_fmtV (y :: m) (fun z hz => hk z (by simp at hz ⊢; exact .inr hz)) n _ t ht (by rw [List.length_append] at hn; omega)]
      rfl
    · -- any number of times
      rw [if_neg (by decide), if_neg (by decide), prtL_iff] at hp
      have hs : s = none8 := shaped_emp hv.shaped (by decide)
      subst hs
      have h1 := shaped_star hv.shaped
      obtain ⟨x, rfl⟩ := one_form h1
      have hx := ih x (by simp) (hv.kid (by simp)) (hp x (by simp))
      have hf : fmt (.mk 6 none8 [x]) = grp (!(x.k == 3)) (fmt x) ++ [42] := by rw [fmt_mk, if_neg (by decide), if_neg (by decide), if_neg (by decide), if_neg (by decide), if_pos rfl, fmtK]
      have hat : ∀ n t, 4 * (grp (!(x.k == 3)) (fmt x) ++ t).length + 1 ≤ n → pAtom n (grp (!(x.k == 3)) (fmt x) ++ t) = .ok x t := by
        intro n t hn
        by_cases h3 : x.k = 3
        · have e : (!(x.k == 3)) = false := by simp [h3]
          rw [e] at hn ⊢
          exact hx.atom h3 n t hn
        · have e : (!(x.k == 3)) = true := by simp [h3]
          rw [e] at hn ⊢
          exact hx.group n t hn
      have hr : ∀ n t, noS t → 4 * (fmt (.mk 6 none8 [x]) ++ t).length + 2 ≤ n → pRepeat n (fmt (.mk 6 none8 [x]) ++ t) = .ok (.mk 6 none8 [x]) t := by
        intro n t ht hn
        rw [hf, List.append_assoc] at hn ⊢
        cases n with
        | zero => omega
        | succ n =>
        rw [pRepeat, hat n _ (by omega)]
        simp only
        rw [show ([42] ++ t : List UInt8) = 42 :: t from rfl, post, if_pos rfl, post_none ht]
        rfl
      have hh : Hd (fmt (.mk 6 none8 [x])) := by
        rw [hf]
        refine Hd.app ?_ _
        by_cases h3 : x.k = 3
        · have e : (!(x.k == 3)) = false := by simp [h3]
          rw [e]
          exact hx.hd (by rw [h3]; decide) (by rw [h3]; decide)
        · have e : (!(x.k == 3)) = true := by simp [h3]
          rw [e]; exact Hd.grp _
      have hb := branch_of hr hh
      exact ⟨regex_of hb, fun _ => hb, fun _ _ => hr, fun h => absurd (show (6 : Int) = 3 from h) (by decide), fun _ _ => hh⟩
theorem parse_fmt {r : Rx} (hv : Vd r) (hp : prt r = true) : pRegex (4 * (fmt r).length + 4) (fmt r) = .ok r [] := by
  have := (rb r hv hp).regex (4 * (fmt r).length + 4) [] (by simp) (by simp)
  rwa [List.append_nil] at this
end Rg
end
section
namespace Rg

mutual
/-- c is a partial derivative of r, with z behind it. -/
def PD (b : UInt8) : Rx → List Rx → List Rx → Prop
  | .mk k s l => fun z c => (k = 3 ∧ s b = true ∧ c = z) ∨ (k = 4 ∧ PDC b l z c) ∨ (k = 5 ∧ PDU b l z c) ∨ (k = 6 ∧ PDU b l (.mk k s l :: z) c)
def PDC (b : UInt8) : List Rx → List Rx → List Rx → Prop
  | [] => fun _ _ => False
  | x :: l => fun z c => PD b x (l ++ z) c ∨ (nul x = true ∧ PDC b l z c)
def PDU (b : UInt8) : List Rx → List Rx → List Rx → Prop
  | [] => fun _ _ => False
  | x :: l => fun z c => PD b x z c ∨ PDU b l z c
end
theorem PD_mk {b : UInt8} {k : Int} {s : BS} {l z c : List Rx} : PD b (.mk k s l) z c ↔ (k = 3 ∧ s b = true ∧ c = z) ∨ (k = 4 ∧ PDC b l z c) ∨ (k = 5 ∧ PDU b l z c) ∨ (k = 6 ∧ PDU b l (.mk k s l :: z) c) := by rw [PD]
theorem PDC_cons {b : UInt8} {x : Rx} {l z c : List Rx} : PDC b (x :: l) z c ↔ PD b x (l ++ z) c ∨ (nul x = true ∧ PDC b l z c) := by rw [PDC]
theorem PDC_nil {b : UInt8} {z c : List Rx} : PDC b [] z c ↔ False := by rw [PDC]
theorem PDU_cons {b : UInt8} {x : Rx} {l z c : List Rx} : PDU b (x :: l) z c ↔ PD b x z c ∨ PDU b l z c := by rw [PDU]
theorem PDU_nil {b : UInt8} {z c : List Rx} : PDU b [] z c ↔ False := by rw [PDU]
theorem PDU_iff {b : UInt8} {l z c : List Rx} : PDU b l z c ↔ ∃ x ∈ l, PD b x z c := by
  induction l with
  | nil => simp [PDU_nil]
  | cons x l ih => simp [PDU_cons, ih]
theorem PDC_append {b : UInt8} {l m z c : List Rx} : PDC b (l ++ m) z c ↔ PDC b l (m ++ z) c ∨ (nulC l = true ∧ PDC b m z c) := by
  induction l with
  | nil => simp [PDC_nil, nulC]
  | cons x l ih =>
    rw [List.cons_append, PDC_cons, ih, PDC_cons, nulC, List.append_assoc, Bool.and_eq_true]
    constructor
    · rintro (h | ⟨h, h' | ⟨h', h''⟩⟩)
      · exact .inl (.inl h)
      · exact .inl (.inr ⟨h, h'⟩)
      · exact .inr ⟨⟨h, h'⟩, h''⟩
    · rintro ((h | ⟨h, h'⟩) | ⟨⟨h, h'⟩, h''⟩)
      · exact .inl h
      · exact .inr ⟨h, .inl h'⟩
      · exact .inr ⟨h, .inr ⟨h', h''⟩⟩

/-! What they match. -/
theorem cons_split {b : UInt8} {t u v : List UInt8} (h : b :: t = u ++ v) : (u = [] ∧ v = b :: t) ∨ ∃ u', u = b :: u' ∧ t = u' ++ v := by
  cases u with
  | nil => exact .inl ⟨rfl, by simpa using h.symm⟩
  | cons c u =>
    simp at h
    obtain ⟨rfl, rfl⟩ := h
    exact .inr ⟨u, rfl, rfl⟩
theorem LC_front {b : UInt8} {x : Rx} {l : List Rx} {t : List UInt8} : LC (x :: l) (b :: t) ↔ (∃ u v, t = u ++ v ∧ L x (b :: u) ∧ LC l v) ∨ (nul x = true ∧ LC l (b :: t)) := by
  rw [LC_cons]
  constructor
  · rintro ⟨u, v, h, h1, h2⟩
    rcases cons_split h with ⟨rfl, rfl⟩ | ⟨u', rfl, rfl⟩
    · exact .inr ⟨nul_iff.2 h1, h2⟩
    · exact .inl ⟨u', v, rfl, h1, h2⟩
  · rintro (⟨u, v, rfl, h1, h2⟩ | ⟨h1, h2⟩)
    · exact ⟨b :: u, v, rfl, h1, h2⟩
    · exact ⟨[], b :: t, rfl, nul_iff.1 h1, h2⟩
theorem PD_L {b : UInt8} (r : Rx) : ∀ {z : List Rx} {t : List UInt8}, (∃ c, PD b r z c ∧ LC c t) ↔ ∃ u v, t = u ++ v ∧ L r (b :: u) ∧ LC z v := by
  induction r using Rx.ind with
  | h k s l ih =>
    have hU : ∀ (m : List Rx), (∀ x ∈ m, x ∈ l) → ∀ {z : List Rx} {t : List UInt8}, (∃ c, PDU b m z c ∧ LC c t) ↔ ∃ u v, t = u ++ v ∧ LU m (b :: u) ∧ LC z v := by
      intro m
      induction m with
      | nil => intro _ z t; simp [PDU_nil, LU_nil]
      | cons x m ihm =>
        intro hm z t
        have h1 := @ih x (hm x (by simp)) z t
        have h2 := @ihm (fun y hy => hm y (by simp [hy])) z t
        constructor
        · rintro ⟨c, hc, ht⟩
          rcases PDU_cons.1 hc with hc | hc
          · obtain ⟨u, v, a1, a2, a3⟩ := h1.1 ⟨c, hc, ht⟩
            exact ⟨u, v, a1, LU_cons.2 (.inl a2), a3⟩
          · obtain ⟨u, v, a1, a2, a3⟩ := h2.1 ⟨c, hc, ht⟩
            exact ⟨u, v, a1, LU_cons.2 (.inr a2), a3⟩
        · rintro ⟨u, v, a1, a2, a3⟩
          rcases LU_cons.1 a2 with a2 | a2
          · obtain ⟨c, hc, ht⟩ := h1.2 ⟨u, v, a1, a2, a3⟩
            exact ⟨c, PDU_cons.2 (.inl hc), ht⟩
          · obtain ⟨c, hc, ht⟩ := h2.2 ⟨u, v, a1, a2, a3⟩
            exact ⟨c, PDU_cons.2 (.inr hc), ht⟩
    have hC : ∀ (m : List Rx), (∀ x ∈ m, x ∈ l) → ∀ {z : List Rx} {t : List UInt8}, (∃ c, PDC b m z c ∧ LC c t) ↔ ∃ u v, t = u ++ v ∧ LC m (b :: u) ∧ LC z v := by
      intro m
      induction m with
      | nil => intro _ z t; simp [PDC_nil, LC_nil]
      | cons x m ihm =>
        intro hm z t
        have h1 := @ih x (hm x (by simp)) (m ++ z) t
        have h2 := @ihm (fun y hy => hm y (by simp [hy])) z t
        constructor
        · rintro ⟨c, hc, ht⟩
          rcases PDC_cons.1 hc with hc | ⟨hn, hc⟩
          · obtain ⟨u, v, a1, a2, a3⟩ := h1.1 ⟨c, hc, ht⟩
            obtain ⟨v1, v2, rfl, b1, b2⟩ := LC_append.1 a3
            exact ⟨u ++ v1, v2, by rw [a1, List.append_assoc], LC_front.2 (.inl ⟨u, v1, rfl, a2, b1⟩), b2⟩
          · obtain ⟨u, v, a1, a2, a3⟩ := h2.1 ⟨c, hc, ht⟩
            exact ⟨u, v, a1, LC_front.2 (.inr ⟨hn, a2⟩), a3⟩
        · rintro ⟨u, v, a1, a2, a3⟩
          rcases LC_front.1 a2 with ⟨u1, u2, rfl, b1, b2⟩ | ⟨hn, a2⟩
          · obtain ⟨c, hc, ht⟩ := h1.2 ⟨u1, u2 ++ v, by rw [a1, List.append_assoc], b1, LC_append.2 ⟨u2, v, rfl, b2, a3⟩⟩
            exact ⟨c, PDC_cons.2 (.inl hc), ht⟩
          · obtain ⟨c, hc, ht⟩ := h2.2 ⟨u, v, a1, a2, a3⟩
            exact ⟨c, PDC_cons.2 (.inr ⟨hn, hc⟩), ht⟩
    intro z t
    constructor
    · rintro ⟨c, hc, ht⟩
      rcases PD_mk.1 hc with ⟨rfl, hs, rfl⟩ | ⟨rfl, he⟩ | ⟨rfl, he⟩ | ⟨rfl, he⟩
      · exact ⟨[], t, rfl, by rw [L_mk]; simp; exact hs, ht⟩
      · obtain ⟨u, v, a1, a2, a3⟩ := (@hC l (fun _ h => h) z t).1 ⟨c, he, ht⟩
        exact ⟨u, v, a1, by rw [L_mk]; simp; exact a2, a3⟩
      · obtain ⟨u, v, a1, a2, a3⟩ := (@hU l (fun _ h => h) z t).1 ⟨c, he, ht⟩
        exact ⟨u, v, a1, by rw [L_mk]; simp; exact a2, a3⟩
      · obtain ⟨u, v, a1, a2, a3⟩ := (@hU l (fun _ h => h) (.mk 6 s l :: z) t).1 ⟨c, he, ht⟩
        obtain ⟨v1, v2, rfl, b1, b2⟩ := LC_cons.1 a3
        refine ⟨u ++ v1, v2, by rw [a1, List.append_assoc], ?_, b2⟩
        rw [L_mk] at b1 ⊢
        simp at b1 ⊢
        exact Rep.first.2 ⟨u, v1, rfl, a2, b1⟩
    · rintro ⟨u, v, a1, a2, a3⟩
      rw [L_mk] at a2
      rcases a2 with ⟨rfl, h⟩ | ⟨rfl, b', h, hs⟩ | ⟨rfl, h⟩ | ⟨rfl, h⟩ | ⟨rfl, h⟩
      · cases h
      · simp at h
        obtain ⟨rfl, rfl⟩ := h
        exact ⟨z, PD_mk.2 (.inl ⟨rfl, hs, rfl⟩), by rw [a1]; exact a3⟩
      · obtain ⟨c, hc, ht⟩ := (hC l (fun _ h => h)).2 ⟨u, v, a1, h, a3⟩
        exact ⟨c, PD_mk.2 (.inr (.inl ⟨rfl, hc⟩)), ht⟩
      · obtain ⟨c, hc, ht⟩ := (hU l (fun _ h => h)).2 ⟨u, v, a1, h, a3⟩
        exact ⟨c, PD_mk.2 (.inr (.inr (.inl ⟨rfl, hc⟩))), ht⟩
      · obtain ⟨u1, u2, rfl, b1, b2⟩ := Rep.first.1 h
        obtain ⟨c, hc, ht⟩ := (@hU l (fun _ h => h) (.mk 6 s l :: z) t).2 ⟨u1, u2 ++ v, by rw [a1, List.append_assoc], b1, LC_cons.2 ⟨u2, v, rfl, by rw [L_mk]; simp; exact b2, a3⟩⟩
        exact ⟨c, PD_mk.2 (.inr (.inr (.inr ⟨rfl, hc⟩))), ht⟩

/-! All that may ever remain. -/
mutual
def CT : Rx → List Rx → List (List Rx)
  | .mk k s l => fun z => if k = 3 then [z] else if k = 4 then CTC l z else if k = 5 then CTU l z else if k = 6 then CTU l (.mk k s l :: z) else []
def CTC : List Rx → List Rx → List (List Rx)
  | [] => fun _ => []
  | x :: l => fun z => CT x (l ++ z) ++ CTC l z
def CTU : List Rx → List Rx → List (List Rx)
  | [] => fun _ => []
  | x :: l => fun z => CT x z ++ CTU l z
end
theorem CT_mk {k : Int} {s : BS} {l z : List Rx} : CT (.mk k s l) z = if k = 3 then [z] else if k = 4 then CTC l z else if k = 5 then CTU l z else if k = 6 then CTU l (.mk k s l :: z) else [] := by rw [CT]
theorem CTC_cons {x : Rx} {l z : List Rx} : CTC (x :: l) z = CT x (l ++ z) ++ CTC l z := by rw [CTC]
theorem CTU_cons {x : Rx} {l z : List Rx} : CTU (x :: l) z = CT x z ++ CTU l z := by rw [CTU]
theorem CTC_nil {z : List Rx} : CTC [] z = [] := by rw [CTC]
theorem CTU_nil {z : List Rx} : CTU [] z = [] := by rw [CTU]
theorem CTC_append {l m z : List Rx} : CTC (l ++ m) z = CTC l (m ++ z) ++ CTC m z := by
  induction l with
  | nil => simp [CTC_nil]
  | cons x l ih => rw [List.cons_append, CTC_cons, CTC_cons, ih, List.append_assoc, List.append_assoc]
theorem PD_CT {b : UInt8} (r : Rx) : ∀ {z c : List Rx}, PD b r z c → c ∈ CT r z := by
  induction r using Rx.ind with
  | h k s l ih =>
    have hU : ∀ (m : List Rx), (∀ x ∈ m, x ∈ l) → ∀ {z c : List Rx}, PDU b m z c → c ∈ CTU m z := by
      intro m
      induction m with
      | nil => intro _ z c h; rw [PDU_nil] at h; exact h.elim
      | cons x m ihm =>
        intro hm z c h
        rw [CTU_cons, List.mem_append]
        rcases PDU_cons.1 h with h | h
        · exact .inl (ih x (hm x (by simp)) h)
        · exact .inr (ihm (fun y hy => hm y (by simp [hy])) h)
    have hC : ∀ (m : List Rx), (∀ x ∈ m, x ∈ l) → ∀ {z c : List Rx}, PDC b m z c → c ∈ CTC m z := by
      intro m
      induction m with
      | nil => intro _ z c h; rw [PDC_nil] at h; exact h.elim
      | cons x m ihm =>
        intro hm z c h
        rw [CTC_cons, List.mem_append]
        rcases PDC_cons.1 h with h | h
        · exact .inl (ih x (hm x (by simp)) h)
        · exact .inr (ihm (fun y hy => hm y (by simp [hy])) h.2)
    intro z c h
    rw [CT_mk]
    rcases PD_mk.1 h with ⟨rfl, hs, rfl⟩ | ⟨rfl, hc⟩ | ⟨rfl, hc⟩ | ⟨rfl, hc⟩
    · simp
    · simpa using hC l (fun _ h => h) hc
    · simpa using hU l (fun _ h => h) hc
    · simpa using hU l (fun _ h => h) hc
theorem PDC_CTC {b : UInt8} : ∀ {l z c : List Rx}, PDC b l z c → c ∈ CTC l z
  | [], z, c, h => by rw [PDC_nil] at h; exact h.elim
  | x :: l, z, c, h => by
    rw [CTC_cons, List.mem_append]
    rcases PDC_cons.1 h with h | h
    · exact .inl (PD_CT x h)
    · exact .inr (PDC_CTC h.2)
/-- Deriving what may remain leads to what may remain. -/
theorem CT_closed {b : UInt8} (r : Rx) : ∀ {z c c' : List Rx}, c ∈ CT r z → PDC b c [] c' → c' ∈ CT r z ∨ c' ∈ CTC z [] := by
  induction r using Rx.ind with
  | h k s l ih =>
    have hU : ∀ (m : List Rx), (∀ x ∈ m, x ∈ l) → ∀ {z c c' : List Rx}, c ∈ CTU m z → PDC b c [] c' → c' ∈ CTU m z ∨ c' ∈ CTC z [] := by
      intro m
      induction m with
      | nil => intro _ z c c' h; simp [CTU_nil] at h
      | cons x m ihm =>
        intro hm z c c' h hd
        rw [CTU_cons, List.mem_append] at h ⊢
        rcases h with h | h
        · exact (ih x (hm x (by simp)) h hd).imp .inl id
        · exact (ihm (fun y hy => hm y (by simp [hy])) h hd).imp .inr id
    have hC : ∀ (m : List Rx), (∀ x ∈ m, x ∈ l) → ∀ {z c c' : List Rx}, c ∈ CTC m z → PDC b c [] c' → c' ∈ CTC m z ∨ c' ∈ CTC z [] := by
      intro m
      induction m with
      | nil => intro _ z c c' h; simp [CTC_nil] at h
      | cons x m ihm =>
        intro hm z c c' h hd
        rw [CTC_cons, List.mem_append] at h ⊢
        rcases h with h | h
        · rcases ih x (hm x (by simp)) h hd with h | h
          · exact .inl (.inl h)
          · rw [CTC_append, List.append_nil, List.mem_append] at h
            exact h.imp .inr id
        · exact (ihm (fun y hy => hm y (by simp [hy])) h hd).imp .inr id
    intro z c c' h hd
    rw [CT_mk] at h ⊢
    by_cases h3 : k = 3
    · rw [if_pos h3] at h ⊢
      simp at h
      subst h
      exact .inr (PDC_CTC hd)
    rw [if_neg h3] at h ⊢
    by_cases h4 : k = 4
    · rw [if_pos h4] at h ⊢
      exact hC l (fun _ h => h) h hd
    rw [if_neg h4] at h ⊢
    by_cases h5 : k = 5
    · rw [if_pos h5] at h ⊢
      exact hU l (fun _ h => h) h hd
    rw [if_neg h5] at h ⊢
    by_cases h6 : k = 6
    · rw [if_pos h6] at h ⊢
      rcases hU l (fun _ h => h) h hd with h | h
      · exact .inl h
      · rw [CTC_cons, List.append_nil, List.mem_append, CT_mk, if_neg h3, if_neg h4, if_neg h5, if_pos h6] at h
        exact h
    · rw [if_neg h6] at h; simp at h
theorem CT_length (r : Rx) : ∀ {z : List Rx}, (CT r z).length ≤ parts r := by
  induction r using Rx.ind with
  | h k s l ih =>
    have hU : ∀ (m : List Rx), (∀ x ∈ m, x ∈ l) → ∀ {z : List Rx}, (CTU m z).length ≤ partsL m := by
      intro m
      induction m with
      | nil => intro _ z; simp [CTU_nil]
      | cons x m ihm =>
        intro hm z
        rw [CTU_cons, List.length_append, partsL]
        have := @ih x (hm x (by simp)) z
        have := @ihm (fun y hy => hm y (by simp [hy])) z
        omega
    have hC : ∀ (m : List Rx), (∀ x ∈ m, x ∈ l) → ∀ {z : List Rx}, (CTC m z).length ≤ partsL m := by
      intro m
      induction m with
      | nil => intro _ z; simp [CTC_nil]
      | cons x m ihm =>
        intro hm z
        rw [CTC_cons, List.length_append, partsL]
        have := @ih x (hm x (by simp)) (m ++ z)
        have := @ihm (fun y hy => hm y (by simp [hy])) z
        omega
    intro z
    rw [CT_mk, parts]
    split
    · simp
    split
    · have := @hC l (fun _ h => h) z; omega
    split
    · have := @hU l (fun _ h => h) z; omega
    split
    · have := @hU l (fun _ h => h) (.mk k s l :: z); omega
    · simp
theorem partsL_append : ∀ {l m : List Rx}, partsL (l ++ m) = partsL l + partsL m
  | [], m => by simp [partsL]
  | x :: l, m => by rw [List.cons_append, partsL, partsL, partsL_append]; omega
/-- How great what remains may be. -/
theorem CT_parts (r : Rx) : ∀ {z c : List Rx}, c ∈ CT r z → partsL c ≤ partsL z + parts r * parts r := by
  induction r using Rx.ind with
  | h k s l ih =>
    have sq : ∀ {a b : Nat}, a ≤ b → a * a ≤ b * b := fun h => Nat.mul_le_mul h h
    have hU : ∀ (m : List Rx), (∀ x ∈ m, x ∈ l) → ∀ {z c : List Rx}, c ∈ CTU m z → partsL c ≤ partsL z + partsL m * partsL m := by
      intro m
      induction m with
      | nil => intro _ z c h; simp [CTU_nil] at h
      | cons x m ihm =>
        intro hm z c h
        rw [CTU_cons, List.mem_append] at h
        rw [partsL]
        rcases h with h | h
        · have := ih x (hm x (by simp)) h
          have := sq (Nat.le_add_right (parts x) (partsL m)); omega
        · have := ihm (fun y hy => hm y (by simp [hy])) h
          have := sq (Nat.le_add_left (partsL m) (parts x)); omega
    have hC : ∀ (m : List Rx), (∀ x ∈ m, x ∈ l) → ∀ {z c : List Rx}, c ∈ CTC m z → partsL c ≤ partsL z + partsL m + partsL m * partsL m := by
      intro m
      induction m with
      | nil => intro _ z c h; simp [CTC_nil] at h
      | cons x m ihm =>
        intro hm z c h
        rw [CTC_cons, List.mem_append] at h
        rw [partsL]
        rcases h with h | h
        · have := ih x (hm x (by simp)) h
          rw [partsL_append] at this
          have := sq (Nat.le_add_right (parts x) (partsL m)); omega
        · have := ihm (fun y hy => hm y (by simp [hy])) h
          have := sq (Nat.le_add_left (partsL m) (parts x)); omega
    intro z c h
    rw [CT_mk] at h
    have e : (partsL l + 1) * (partsL l + 1) = partsL l * partsL l + 2 * partsL l + 1 := by
      rw [Nat.add_mul, Nat.mul_add]; omega
    rw [parts, e]
    split at h
    · simp at h; subst h; omega
    split at h
    · have := hC l (fun _ h => h) h; omega
    split at h
    · have := hU l (fun _ h => h) h; omega
    split at h
    · have := hU l (fun _ h => h) h
      rw [partsL, parts] at this; omega
    · simp at h
/-- Each is a part of what it was made of. -/
theorem CT_mem {Q : Rx → Prop} (hQ : ∀ k s l, Q (.mk k s l) → ∀ x ∈ l, Q x) (r : Rx) : ∀ {z c : List Rx}, Q r → (∀ x ∈ z, Q x) → c ∈ CT r z → ∀ x ∈ c, Q x := by
  induction r using Rx.ind with
  | h k s l ih =>
    have hU : ∀ (m : List Rx), (∀ x ∈ m, x ∈ l) → ∀ {z c : List Rx}, (∀ x ∈ m, Q x) → (∀ x ∈ z, Q x) → c ∈ CTU m z → ∀ x ∈ c, Q x := by
      intro m
      induction m with
      | nil => intro _ z c _ _ h; simp [CTU_nil] at h
      | cons x m ihm =>
        intro hm z c hq hz h
        rw [CTU_cons, List.mem_append] at h
        rcases h with h | h
        · exact ih x (hm x (by simp)) (hq x (by simp)) hz h
        · exact ihm (fun y hy => hm y (by simp [hy])) (fun y hy => hq y (by simp [hy])) hz h
    have hC : ∀ (m : List Rx), (∀ x ∈ m, x ∈ l) → ∀ {z c : List Rx}, (∀ x ∈ m, Q x) → (∀ x ∈ z, Q x) → c ∈ CTC m z → ∀ x ∈ c, Q x := by
      intro m
      induction m with
      | nil => intro _ z c _ _ h; simp [CTC_nil] at h
      | cons x m ihm =>
        intro hm z c hq hz h
        rw [CTC_cons, List.mem_append] at h
        rcases h with h | h
        · refine ih x (hm x (by simp)) (hq x (by simp)) (fun y hy => ?_) h
          rcases List.mem_append.1 hy with hy | hy
          · exact hq y (by simp [hy])
          · exact hz y hy
        · exact ihm (fun y hy => hm y (by simp [hy])) (fun y hy => hq y (by simp [hy])) hz h
    intro z c hr hz h
    have hk := hQ k s l hr
    rw [CT_mk] at h
    split at h
    · simp at h; subst h; exact hz
    split at h
    · exact hC l (fun _ h => h) hk hz h
    split at h
    · exact hU l (fun _ h => h) hk hz h
    split at h
    · refine hU l (fun _ h => h) hk (fun y hy => ?_) h
      rcases List.mem_cons.1 hy with rfl | hy
      · exact hr
      · exact hz y hy
    · simp at h

/-! Joined. -/
/-- What a list of expressions is as one. -/
def ex : List Rx → Rx
  | [] => .mk 2 none8 []
  | [x] => x
  | l => .mk 4 none8 l
/-- What several are together. -/
def jn : List Rx → Rx
  | [] => .mk 1 none8 []
  | [x] => x
  | l => .mk 5 none8 l
theorem L_ex {l : List Rx} {t : List UInt8} : L (ex l) t ↔ LC l t := by
  match l with
  | [] => rw [ex, L_mk, LC_nil]; simp
  | [x] => rw [ex, LC_one]
  | x :: y :: l => rw [show ex (x :: y :: l) = .mk 4 none8 (x :: y :: l) from rfl, L_mk]; simp
theorem L_jn {l : List Rx} {t : List UInt8} : L (jn l) t ↔ LU l t := by
  match l with
  | [] => rw [jn, L_mk, LU_nil]; simp
  | [x] => rw [jn, LU_one]
  | x :: y :: l => rw [show jn (x :: y :: l) = .mk 5 none8 (x :: y :: l) from rfl, L_mk]; simp
theorem PD_ex {b : UInt8} {l c : List Rx} : PD b (ex l) [] c ↔ PDC b l [] c := by
  match l with
  | [] => rw [ex, PD_mk, PDC_nil]; simp
  | [x] => rw [ex, PDC_cons, PDC_nil]; simp
  | x :: y :: l => rw [show ex (x :: y :: l) = .mk 4 none8 (x :: y :: l) from rfl, PD_mk]; simp
theorem PD_jn {b : UInt8} {l c : List Rx} : PD b (jn l) [] c ↔ PDU b l [] c := by
  match l with
  | [] => rw [jn, PD_mk, PDU_nil]; simp
  | [x] => rw [jn, PDU_cons, PDU_nil]; simp
  | x :: y :: l => rw [show jn (x :: y :: l) = .mk 5 none8 (x :: y :: l) from rfl, PD_mk]; simp
/-- The derivative by a byte: its partial derivatives, each once. -/
def Der (b : UInt8) (r d : Rx) : Prop := ∃ F : List (List Rx), F.Nodup ∧ (∀ c, c ∈ F ↔ PD b r [] c) ∧ d = jn (F.map ex)
theorem Der.L {b : UInt8} {r d : Rx} (h : Der b r d) {t : List UInt8} : L d t ↔ L r (b :: t) := by
  obtain ⟨F, _, hF, rfl⟩ := h
  rw [L_jn, LU_iff]
  have := @PD_L b r [] t
  constructor
  · rintro ⟨x, hx, ht⟩
    obtain ⟨c, hc, rfl⟩ := List.mem_map.1 hx
    obtain ⟨u, v, rfl, h1, h2⟩ := this.1 ⟨c, (hF c).1 hc, L_ex.1 ht⟩
    rw [LC_nil] at h2
    subst h2
    rw [List.append_nil]; exact h1
  · intro ht
    obtain ⟨c, hc, h2⟩ := this.2 ⟨t, [], (List.append_nil t).symm, ht, LC_nil.2 rfl⟩
    exact ⟨ex c, List.mem_map.2 ⟨c, (hF c).2 hc, rfl⟩, L_ex.2 h2⟩
theorem nodup_len {α : Type} [DecidableEq α] : ∀ {l m : List α}, l.Nodup → (∀ x ∈ l, x ∈ m) → l.length ≤ m.length
  | [], m, _, _ => Nat.zero_le _
  | x :: l, m, h, hm => by
    rw [List.nodup_cons] at h
    have hx := hm x (by simp)
    have := nodup_len (m := m.erase x) h.2 fun y hy => by
      refine (List.mem_erase_of_ne ?_).2 (hm y (by simp [hy]))
      rintro rfl
      exact h.1 hy
    rw [List.length_erase_of_mem hx] at this
    have := List.length_pos_of_mem hx
    simp; omega
/-- Derived from r any number of times. -/
def Dv (r d : Rx) : Prop := d = r ∨ ∃ F : List (List Rx), F.Nodup ∧ (∀ c ∈ F, c ∈ CT r []) ∧ d = jn (F.map ex)
theorem Dv.step {b : UInt8} {r d d' : Rx} (h : Dv r d) (hd : Der b d d') : Dv r d' := by
  obtain ⟨F', hn, hF', rfl⟩ := hd
  refine .inr ⟨F', hn, fun c hc => ?_, rfl⟩
  rcases h with rfl | ⟨F, _, hF, rfl⟩
  · exact PD_CT _ ((hF' c).1 hc)
  · have h1 := (hF' c).1 hc
    rw [PD_jn, PDU_iff] at h1
    obtain ⟨x, hx, h2⟩ := h1
    obtain ⟨c1, hc1, rfl⟩ := List.mem_map.1 hx
    rw [PD_ex] at h2
    rcases CT_closed r (hF c1 hc1) h2 with h3 | h3
    · exact h3
    · simp [CTC_nil] at h3
theorem partsL_map {f : List Rx → Rx} {n : Nat} : ∀ {F : List (List Rx)}, (∀ c ∈ F, parts (f c) ≤ n) → partsL (F.map f) ≤ F.length * n
  | [], _ => by simp [partsL]
  | c :: F, h => by
    have h1 := h c (by simp)
    have h2 := partsL_map (F := F) fun c hc => h c (by simp [hc])
    rw [List.map_cons, partsL, List.length_cons, Nat.add_mul]; omega
theorem parts_pos (r : Rx) : 1 ≤ parts r := by cases r; rw [parts]; omega
theorem parts_ex {l : List Rx} : parts (ex l) ≤ partsL l + 1 := by
  match l with
  | [] => rw [ex, parts]; omega
  | [x] => rw [ex, partsL, partsL]; omega
  | x :: y :: l => rw [show ex (x :: y :: l) = .mk 4 none8 (x :: y :: l) from rfl, parts]; omega
theorem parts_jn {l : List Rx} : parts (jn l) ≤ partsL l + 1 := by
  match l with
  | [] => rw [jn, parts]; omega
  | [x] => rw [jn, partsL, partsL]; omega
  | x :: y :: l => rw [show jn (x :: y :: l) = .mk 5 none8 (x :: y :: l) from rfl, parts]; omega
theorem depth_ex {l : List Rx} : depth (ex l) ≤ depthL l + 1 := by
  match l with
  | [] => rw [ex, depth]; omega
  | [x] => rw [ex, depthL, depthL]; omega
  | x :: y :: l => rw [show ex (x :: y :: l) = .mk 4 none8 (x :: y :: l) from rfl, depth]; omega
theorem depth_jn {l : List Rx} : depth (jn l) ≤ depthL l + 1 := by
  match l with
  | [] => rw [jn, depth]; omega
  | [x] => rw [jn, depthL, depthL]; omega
  | x :: y :: l => rw [show jn (x :: y :: l) = .mk 5 none8 (x :: y :: l) from rfl, depth]; omega
theorem emp_none : emp none8 = true := emp_iff.2 rfl
theorem Vd_ex {l : List Rx} (h : ∀ x ∈ l, Vd x) : Vd (ex l) := by
  match l with
  | [] => rw [ex]; exact Vd.mk (by simp [shaped, emp_none]) (by simp)
  | [x] => rw [ex]; exact h x (by simp)
  | x :: y :: l => rw [show ex (x :: y :: l) = .mk 4 none8 (x :: y :: l) from rfl]; exact Vd.mk (by simp [shaped, emp_none]) h
theorem Vd_jn {l : List Rx} (h : ∀ x ∈ l, Vd x) : Vd (jn l) := by
  match l with
  | [] => rw [jn]; exact Vd.mk (by simp [shaped, emp_none]) (by simp)
  | [x] => rw [jn]; exact h x (by simp)
  | x :: y :: l => rw [show jn (x :: y :: l) = .mk 5 none8 (x :: y :: l) from rfl]; exact Vd.mk (by simp [shaped, emp_none]) h
theorem kid_depth {k : Int} {s : BS} {l : List Rx} {d : Nat} (h : depth (.mk k s l) ≤ d) {x : Rx} (hx : x ∈ l) : depth x ≤ d := by
  rw [depth] at h
  have := depthL_le.1 (show depthL l ≤ d - 1 by omega) x hx
  omega
theorem Dv.fine {r d : Rx} (h : Dv r d) (hv : Vd r) : Vd d ∧ depth d ≤ depth r + 2 ∧ parts d ≤ parts r * (parts r * parts r + 1) + 1 := by
  rcases h with rfl | ⟨F, hn, hF, rfl⟩
  · refine ⟨hv, by omega, ?_⟩
    have h1 := parts_pos d
    have h2 := Nat.le_mul_of_pos_right (parts d) (show 0 < parts d * parts d + 1 by omega)
    omega
  · have hc : ∀ c ∈ F, ∀ x ∈ c, Vd x ∧ depth x ≤ depth r := fun c hc =>
      CT_mem (Q := fun x => Vd x ∧ depth x ≤ depth r) (fun k s l h x hx => ⟨h.1.kid hx, kid_depth h.2 hx⟩) r ⟨hv, Nat.le_refl _⟩ (by simp) (hF c hc)
    refine ⟨Vd_jn fun x hx => ?_, ?_, ?_⟩
    · obtain ⟨c, h1, rfl⟩ := List.mem_map.1 hx
      exact Vd_ex fun y hy => (hc c h1 y hy).1
    · refine Nat.le_trans depth_jn (Nat.add_le_add_right (m := depth r + 1) ((@depthL_le _ (depth r + 1)).2 fun x hx => ?_) 1)
      obtain ⟨c, h1, rfl⟩ := List.mem_map.1 hx
      exact Nat.le_trans depth_ex (Nat.add_le_add_right (depthL_le.2 fun y hy => (hc c h1 y hy).2) 1)
    · have h1 : ∀ c ∈ F, parts (ex c) ≤ parts r * parts r + 1 := fun c h => by
        have h2 := CT_parts r (hF c h)
        rw [show partsL ([] : List Rx) = 0 by rw [partsL], Nat.zero_add] at h2
        exact Nat.le_trans parts_ex (Nat.add_le_add_right h2 1)
      have h2 := partsL_map h1
      have h3 : F.length ≤ parts r := by
        classical
        exact Nat.le_trans (nodup_len hn hF) (CT_length r)
      have h4 := Nat.mul_le_mul_right (parts r * parts r + 1) h3
      have := @parts_jn (F.map ex)
      omega
end Rg
end
section
namespace Rg

/-- An expression with marks: kind, set, kids, whether it matches the empty string, whether a match may end here. -/
inductive Pg where
  | mk (k : Int) (s : BS) (l : List Pg) (nu en : Bool)
def Pg.en : Pg → Bool | .mk _ _ _ _ e => e
def Pg.nu : Pg → Bool | .mk _ _ _ u _ => u
theorem Pg.ind {P : Pg → Prop} (h : ∀ k s l nu en, (∀ x ∈ l, P x) → P (.mk k s l nu en)) : ∀ r, P r
  | .mk k s l nu en => h k s l nu en fun x _ => Pg.ind h x
decreasing_by
  simp_wf
  have := List.sizeOf_lt_of_mem ‹x ∈ l›
  omega
mutual
def np : Rx → Pg
  | .mk k s l => .mk k s (npL l) (nul (.mk k s l)) false
def npL : List Rx → List Pg
  | [] => []
  | x :: l => np x :: npL l
end
mutual
/-- One byte more; g: whether a match may begin with it. -/
def rd (b : UInt8) : Pg → Bool → Pg
  | .mk k s l nu en, g =>
    if k = 3 then .mk k s l nu (g && s b)
    else if k = 4 then .mk k s (rdC b l g false).1 nu (rdC b l g false).2
    else if k = 5 then .mk k s (rdU b l g).1 nu (rdU b l g).2
    else if k = 6 then .mk k s (rdU b l (g || en)).1 nu (rdU b l (g || en)).2
    else .mk k s l nu en
def rdU (b : UInt8) : List Pg → Bool → List Pg × Bool
  | [], _ => ([], false)
  | x :: l, g => (rd b x g :: (rdU b l g).1, (rd b x g).en || (rdU b l g).2)
def rdC (b : UInt8) : List Pg → Bool → Bool → List Pg × Bool
  | [], _, e => ([], e)
  | x :: l, g, e => (rd b x g :: (rdC b l (x.en || (g && x.nu)) ((rd b x g).en || (e && x.nu))).1, (rdC b l (x.en || (g && x.nu)) ((rd b x g).en || (e && x.nu))).2)
end

section
variable (U : List UInt8)
/-- The bytes from i to n. -/
def seg (i n : Nat) : List UInt8 := (U.take n).drop i
/-- A match of A that began at a place of f ends at n. -/
def E (A : List UInt8 → Prop) (n : Nat) (f : Nat → Prop) : Prop := ∃ i, i < n ∧ f i ∧ A (seg U i n)
theorem seg_self (n : Nat) : seg U n n = [] := by
  unfold seg; rw [List.drop_eq_nil_iff]; simp; omega
theorem seg_len {i n : Nat} (hn : n ≤ U.length) : (seg U i n).length = n - i := by
  unfold seg; simp; omega
theorem seg_app {i j n : Nat} (h1 : i ≤ j) (h2 : j ≤ n) : seg U i j ++ seg U j n = seg U i n := by
  unfold seg
  have e : U.take n = U.take j ++ (U.take n).drop j := by
    have := (List.take_append_drop j (U.take n)).symm
    rw [List.take_take, Nat.min_eq_left h2] at this
    exact this
  by_cases hj : j ≤ U.length
  · have hl : i ≤ (U.take j).length := by simp; omega
    conv => rhs; rw [e]
    rw [List.drop_append_of_le_length hl]
  · have e1 : U.take j = U := List.take_of_length_le (by omega)
    have e2 : U.take n = U := List.take_of_length_le (by omega)
    rw [e1, e2, List.drop_eq_nil_of_le (by omega : U.length ≤ j), List.append_nil]
theorem seg_split {i n : Nat} {u v : List UInt8} (hi : i ≤ n) (hn : n ≤ U.length) (h : seg U i n = u ++ v) : i + u.length ≤ n ∧ seg U i (i + u.length) = u ∧ seg U (i + u.length) n = v := by
  have hl := seg_len U (i := i) hn
  rw [h, List.length_append] at hl
  have hj : i + u.length ≤ n := by omega
  have h2 := seg_app U (Nat.le_add_right i u.length) hj
  rw [h] at h2
  have h3 : (seg U i (i + u.length)).length = u.length := by rw [seg_len U (by omega)]; omega
  exact ⟨hj, List.append_inj h2 h3⟩
theorem seg_ne {i n : Nat} (hi : i < n) (hn : n ≤ U.length) : seg U i n ≠ [] := by
  intro h
  have := seg_len U (i := i) hn
  rw [h] at this
  simp at this
  omega
theorem seg_one {n : Nat} {b : UInt8} (h : U[n]? = some b) : seg U n (n + 1) = [b] := by
  unfold seg
  rw [List.take_add_one, h]
  have hl : (U.take n).length = n := by have := (List.getElem?_eq_some_iff.1 h).1; simp; omega
  rw [List.drop_append_of_le_length (by omega), List.drop_eq_nil_of_le (by omega)]
  rfl
theorem E_congr {A : List UInt8 → Prop} {n : Nat} {f f' : Nat → Prop} (h : ∀ i, i < n → (f i ↔ f' i)) : E U A n f ↔ E U A n f' :=
  ⟨fun ⟨i, h1, h2, h3⟩ => ⟨i, h1, (h i h1).1 h2, h3⟩, fun ⟨i, h1, h2, h3⟩ => ⟨i, h1, (h i h1).2 h2, h3⟩⟩
/-- Where the next kid may begin. -/
def nxt (x : Rx) (f : Nat → Prop) : Nat → Prop := fun i => E U (L x) i f ∨ (f i ∧ nul x = true)
theorem E_cons {x : Rx} {l : List Rx} {n : Nat} {f : Nat → Prop} (hn : n ≤ U.length) : E U (LC (x :: l)) n f ↔ E U (LC l) n (nxt U x f) ∨ (E U (L x) n f ∧ nulC l = true) := by
  constructor
  · rintro ⟨i, hi, hf, h⟩
    rw [LC_cons] at h
    obtain ⟨u, v, huv, hx, hl⟩ := h
    obtain ⟨hj, hu, hv⟩ := seg_split U (by omega) hn huv
    by_cases hvn : v = []
    · subst hvn
      refine .inr ⟨⟨i, hi, hf, ?_⟩, ?_⟩
      · rw [huv, List.append_nil]; exact hx
      · rw [nulC_iff]; intro y hy; rw [nul_iff]; exact LC_nil_iff.1 hl y hy
    · refine .inl ⟨i + u.length, ?_, ?_, by rw [hv]; exact hl⟩
      · apply Nat.lt_of_le_of_ne hj
        intro e
        rw [e, seg_self] at hv
        exact hvn hv.symm
      · by_cases hun : u = []
        · subst hun
          exact .inr ⟨hf, nul_iff.2 hx⟩
        · exact .inl ⟨i, by have := List.length_pos_iff.2 hun; omega, hf, by rw [hu]; exact hx⟩
  · rintro (⟨j, hj, hf, h⟩ | ⟨⟨i, hi, hf, h⟩, hl⟩)
    · rcases hf with ⟨i, hi, hf, hx⟩ | ⟨hf, hx⟩
      · exact ⟨i, by omega, hf, by rw [LC_cons]; exact ⟨_, _, (seg_app U (by omega) (by omega)).symm, hx, h⟩⟩
      · exact ⟨j, hj, hf, by rw [LC_cons]; exact ⟨[], _, rfl, nul_iff.1 hx, h⟩⟩
    · refine ⟨i, hi, hf, ?_⟩
      rw [LC_cons]
      refine ⟨_, [], (List.append_nil _).symm, h, LC_nil_iff.2 fun y hy => nul_iff.1 (nulC_iff.1 hl y hy)⟩
theorem E_none {n : Nat} {f : Nat → Prop} (hn : n ≤ U.length) : ¬ E U (LC []) n f := by
  rintro ⟨i, hi, _, h⟩
  rw [LC_nil] at h
  exact seg_ne U hi hn h
theorem E_star {A : List UInt8 → Prop} {n : Nat} {f : Nat → Prop} (hn : n ≤ U.length) : E U (Rep A) n f ↔ E U A n (fun i => f i ∨ E U (Rep A) i f) := by
  constructor
  · rintro ⟨i, hi, hf, h⟩
    rw [Rep.last] at h
    rcases h with h | ⟨u, v, huv, hv, hu, hA⟩
    · exact absurd h (seg_ne U hi hn)
    · obtain ⟨hj, hu', hv'⟩ := seg_split U (by omega) hn huv
      refine ⟨i + u.length, ?_, ?_, by rw [hv']; exact hA⟩
      · apply Nat.lt_of_le_of_ne hj
        intro e
        rw [e, seg_self] at hv'
        exact hv hv'.symm
      · by_cases hun : u = []
        · subst hun; exact .inl hf
        · exact .inr ⟨i, by have := List.length_pos_iff.2 hun; omega, hf, by rw [hu']; exact hu⟩
  · rintro ⟨j, hj, hf, h⟩
    rcases hf with hf | ⟨i, hi, hf, hr⟩
    · exact ⟨j, hj, hf, .one h⟩
    · exact ⟨i, by omega, hf, by rw [← seg_app U (by omega : i ≤ j) (by omega)]; exact hr.app (.one h)⟩

mutual
/-- The marks after n bytes, where a match may begin at the places of f. -/
def Inv : Rx → Nat → (Nat → Prop) → Pg → Prop
  | .mk k s l, n, f, p => ∃ l' en, p = .mk k s l' (nul (.mk k s l)) en ∧ (en = true ↔ E U (L (.mk k s l)) n f) ∧
    (if k = 4 then InvC l n f l' else if k = 6 then InvU l n (fun i => f i ∨ E U (L (.mk k s l)) i f) l' else InvU l n f l')
def InvU : List Rx → Nat → (Nat → Prop) → List Pg → Prop
  | [], _, _, l' => l' = []
  | x :: l, n, f, l' => ∃ p q, l' = p :: q ∧ Inv x n f p ∧ InvU l n f q
def InvC : List Rx → Nat → (Nat → Prop) → List Pg → Prop
  | [], _, _, l' => l' = []
  | x :: l, n, f, l' => ∃ p q, l' = p :: q ∧ Inv x n f p ∧ InvC l n (nxt U x f) q
end
theorem Inv_mk {k : Int} {s : BS} {l : List Rx} {n : Nat} {f : Nat → Prop} {p : Pg} : Inv U (.mk k s l) n f p ↔ ∃ l' en, p = .mk k s l' (nul (.mk k s l)) en ∧ (en = true ↔ E U (L (.mk k s l)) n f) ∧
    (if k = 4 then InvC U l n f l' else if k = 6 then InvU U l n (fun i => f i ∨ E U (L (.mk k s l)) i f) l' else InvU U l n f l') := by rw [Inv]
theorem Inv.en {x : Rx} {n : Nat} {f : Nat → Prop} {p : Pg} (h : Inv U x n f p) : p.en = true ↔ E U (L x) n f := by
  obtain ⟨k, s, l⟩ := x
  obtain ⟨l', en, rfl, he, _⟩ := (Inv_mk U).1 h
  exact he
theorem Inv.nu {x : Rx} {n : Nat} {f : Nat → Prop} {p : Pg} (h : Inv U x n f p) : p.nu = nul x := by
  obtain ⟨k, s, l⟩ := x
  obtain ⟨l', en, rfl, he, _⟩ := (Inv_mk U).1 h
  rfl
theorem E_zero {A : List UInt8 → Prop} {f : Nat → Prop} : ¬ E U A 0 f := by rintro ⟨i, hi, _⟩; omega
theorem inv_zero (r : Rx) : ∀ f, Inv U r 0 f (np r) := by
  induction r using Rx.ind with
  | h k s l ih =>
    intro f
    rw [Inv_mk, np]
    refine ⟨_, _, rfl, by simp [E_zero], ?_⟩
    have hU : ∀ (m : List Rx), (∀ x ∈ m, x ∈ l) → ∀ f, InvU U m 0 f (npL m) := by
      intro m
      induction m with
      | nil => intro _ f; rw [InvU, npL]
      | cons x m ihm => intro hm f; rw [InvU, npL]; exact ⟨_, _, rfl, ih x (hm x (by simp)) f, ihm (fun y hy => hm y (by simp [hy])) f⟩
    have hC : ∀ (m : List Rx), (∀ x ∈ m, x ∈ l) → ∀ f, InvC U m 0 f (npL m) := by
      intro m
      induction m with
      | nil => intro _ f; rw [InvC, npL]
      | cons x m ihm => intro hm f; rw [InvC, npL]; exact ⟨_, _, rfl, ih x (hm x (by simp)) f, ihm (fun y hy => hm y (by simp [hy])) _⟩
    split
    · exact hC l (fun x hx => hx) f
    split
    · exact hU l (fun x hx => hx) _
    · exact hU l (fun x hx => hx) f
theorem inv_step (r : Rx) : Vd r → ∀ {n : Nat} {f : Nat → Prop} {p : Pg} {b : UInt8} {g : Bool}, U[n]? = some b → (g = true ↔ f n) → Inv U r n f p → Inv U r (n + 1) f (rd b p g) := by
  induction r using Rx.ind with
  | h k s l ih =>
    intro hv n f p b g hb hg h
    have hn : n + 1 ≤ U.length := (List.getElem?_eq_some_iff.1 hb).1
    obtain ⟨l', en, rfl, he, hk⟩ := (Inv_mk U).1 h
    rw [Inv_mk, rd]
    have hU : ∀ (m : List Rx), (∀ x ∈ m, x ∈ l) → ∀ {f : Nat → Prop} {g : Bool} {m' : List Pg}, (g = true ↔ f n) → InvU U m n f m' → InvU U m (n + 1) f (rdU b m' g).1 ∧ ((rdU b m' g).2 = true ↔ E U (LU m) (n + 1) f) := by
      intro m
      induction m with
      | nil =>
        intro _ f g m' _ h
        rw [InvU] at h
        subst h
        rw [rdU, InvU]
        refine ⟨rfl, ?_⟩
        simp
        rintro ⟨i, _, _, hi⟩
        rw [LU_nil] at hi
        exact hi
      | cons x m ihm =>
        intro hm f g m' hg h
        rw [InvU] at h
        obtain ⟨p, q, rfl, hp, hq⟩ := h
        have h1 := ih x (hm x (by simp)) (hv.kid (hm x (by simp))) hb hg hp
        obtain ⟨h2, h3⟩ := ihm (fun y hy => hm y (by simp [hy])) hg hq
        rw [rdU, InvU]
        refine ⟨⟨_, _, rfl, h1, h2⟩, ?_⟩
        rw [Bool.or_eq_true, Inv.en U h1, h3]
        constructor
        · rintro (⟨i, a1, a2, a3⟩ | ⟨i, a1, a2, a3⟩)
          · exact ⟨i, a1, a2, LU_cons.2 (.inl a3)⟩
          · exact ⟨i, a1, a2, LU_cons.2 (.inr a3)⟩
        · rintro ⟨i, a1, a2, a3⟩
          rcases LU_cons.1 a3 with a3 | a3
          · exact .inl ⟨i, a1, a2, a3⟩
          · exact .inr ⟨i, a1, a2, a3⟩
    have hC : ∀ (m : List Rx), (∀ x ∈ m, x ∈ l) → ∀ {f : Nat → Prop} {g e : Bool} {m' : List Pg}, (g = true ↔ f n) → InvC U m n f m' → InvC U m (n + 1) f (rdC b m' g e).1 ∧ ((rdC b m' g e).2 = true ↔ E U (LC m) (n + 1) f ∨ (e = true ∧ nulC m = true)) := by
      intro m
      induction m with
      | nil =>
        intro _ f g e m' _ h
        rw [InvC] at h
        subst h
        rw [rdC, InvC]
        refine ⟨rfl, ?_⟩
        simp [E_none U hn, nulC]
      | cons x m ihm =>
        intro hm f g e m' hg h
        rw [InvC] at h
        obtain ⟨p, q, rfl, hp, hq⟩ := h
        have h1 := ih x (hm x (by simp)) (hv.kid (hm x (by simp))) hb hg hp
        have hg' : (p.en || (g && p.nu)) = true ↔ nxt U x f n := by
          rw [Bool.or_eq_true, Bool.and_eq_true, Inv.en U hp, Inv.nu U hp, hg]; rfl
        obtain ⟨h2, h3⟩ := ihm (fun y hy => hm y (by simp [hy])) (e := (rd b p g).en || (e && p.nu)) hg' hq
        rw [rdC, InvC]
        refine ⟨⟨_, _, rfl, h1, h2⟩, ?_⟩
        rw [h3, Bool.or_eq_true, Bool.and_eq_true, Inv.en U h1, Inv.nu U hp, E_cons U hn, nulC, Bool.and_eq_true]
        constructor
        · rintro (a | ⟨a | a, c⟩)
          · exact .inl (.inl a)
          · exact .inl (.inr ⟨a, c⟩)
          · exact .inr ⟨a.1, a.2, c⟩
        · rintro ((a | a) | ⟨a, c, d⟩)
          · exact .inl a
          · exact .inr ⟨.inl a.1, a.2⟩
          · exact .inr ⟨.inr ⟨a, c⟩, d⟩
    have hEL : ∀ {A : List UInt8 → Prop} {m : Nat}, (∀ t, L (.mk k s l) t ↔ A t) → (E U (L (.mk k s l)) m f ↔ E U A m f) := fun hA =>
      ⟨fun ⟨i, a1, a2, a3⟩ => ⟨i, a1, a2, (hA _).1 a3⟩, fun ⟨i, a1, a2, a3⟩ => ⟨i, a1, a2, (hA _).2 a3⟩⟩
    have n14 : ¬ (1 : Int) = 4 := by decide
    have n16 : ¬ (1 : Int) = 6 := by decide
    have n24 : ¬ (2 : Int) = 4 := by decide
    have n26 : ¬ (2 : Int) = 6 := by decide
    have n34 : ¬ (3 : Int) = 4 := by decide
    have n36 : ¬ (3 : Int) = 6 := by decide
    have n54 : ¬ (5 : Int) = 4 := by decide
    have n56 : ¬ (5 : Int) = 6 := by decide
    have n64 : ¬ (6 : Int) = 4 := by decide
    rcases shaped_kind hv.shaped with rfl | rfl | rfl | rfl | rfl | rfl
    · rw [if_neg n14, if_neg n16] at hk
      have hl : l = [] := List.eq_nil_of_length_eq_zero (shaped_leaf hv.shaped (by simp))
      subst hl
      rw [InvU] at hk
      refine ⟨l', en, by simp, ?_, by rw [if_neg n14, if_neg n16, InvU]; exact hk⟩
      rw [he]
      have no : ∀ m, ¬ E U (L (.mk 1 s [])) m f := fun m ⟨i, _, _, h⟩ => by rw [L_mk] at h; simp at h
      simp [no]
    · rw [if_neg n24, if_neg n26] at hk
      have hl : l = [] := List.eq_nil_of_length_eq_zero (shaped_leaf hv.shaped (by simp))
      subst hl
      rw [InvU] at hk
      refine ⟨l', en, by simp, ?_, by rw [if_neg n24, if_neg n26, InvU]; exact hk⟩
      rw [he]
      have no : ∀ m, m ≤ U.length → ¬ E U (L (.mk 2 s [])) m f := fun m hm ⟨i, hi, _, h⟩ => by rw [L_mk] at h; simp at h; exact seg_ne U hi hm h
      simp [no n (by omega), no (n + 1) hn]
    · rw [if_neg n34, if_neg n36] at hk
      have hl : l = [] := List.eq_nil_of_length_eq_zero (shaped_leaf hv.shaped (by simp))
      subst hl
      rw [InvU] at hk
      refine ⟨l', g && s b, by simp, ?_, by rw [if_neg n34, if_neg n36, InvU]; exact hk⟩
      rw [Bool.and_eq_true]
      constructor
      · rintro ⟨h1, h2⟩
        exact ⟨n, by omega, hg.1 h1, by rw [seg_one U hb, L_mk]; simp; exact h2⟩
      · rintro ⟨i, hi, hf, h⟩
        rw [L_mk] at h
        simp at h
        obtain ⟨c, hc, hs⟩ := h
        have hl := seg_len U (i := i) hn
        rw [hc] at hl
        simp at hl
        have hin : i = n := by omega
        subst hin
        rw [seg_one U hb] at hc
        simp at hc
        subst hc
        exact ⟨hg.2 hf, hs⟩
    · rw [if_pos rfl] at hk
      obtain ⟨h1, h2⟩ := hC l (fun x hx => hx) (e := false) hg hk
      refine ⟨_, _, by rw [if_neg (by decide), if_pos rfl], ?_, by rw [if_pos rfl]; exact h1⟩
      rw [h2, hEL (A := LC l) (fun t => by rw [L_mk]; simp)]
      simp
    · rw [if_neg n54, if_neg n56] at hk
      obtain ⟨h1, h2⟩ := hU l (fun x hx => hx) hg hk
      refine ⟨_, _, by rw [if_neg (by decide), if_neg (by decide), if_pos rfl], ?_, by rw [if_neg n54, if_neg n56]; exact h1⟩
      rw [h2, hEL (A := LU l) (fun t => by rw [L_mk]; simp)]
    · rw [if_neg n64, if_pos rfl] at hk
      have hA : ∀ t, L (.mk 6 s l) t ↔ Rep (LU l) t := fun t => by rw [L_mk]; simp
      have hg' : (g || en) = true ↔ (f n ∨ E U (L (.mk 6 s l)) n f) := by rw [Bool.or_eq_true, hg, he]
      have hk' : InvU U l n (fun i => f i ∨ E U (L (.mk 6 s l)) i f) l' := hk
      obtain ⟨h1, h2⟩ := hU l (fun x hx => hx) hg' hk'
      refine ⟨_, _, by rw [if_neg (by decide), if_neg (by decide), if_neg (by decide), if_pos rfl], ?_, by rw [if_neg n64, if_pos rfl]; exact h1⟩
      rw [h2, hEL (A := Rep (LU l)) hA, E_star U hn]
      refine E_congr U fun i _ => ?_
      rw [hEL (A := Rep (LU l)) hA]
end
/-- All of a string read. -/
def rds : List UInt8 → Nat → Pg → Pg
  | [], _, p => p
  | b :: t, n, p => rds t (n + 1) (rd b p (n == 0))
def mtc (r : Rx) (s : List UInt8) : Bool := match s with
  | [] => nul r
  | s => (rds s 0 (np r)).en
theorem rds_inv {U : List UInt8} {r : Rx} (hv : Vd r) : ∀ {t : List UInt8} {n : Nat} {p : Pg}, U.drop n = t → n ≤ U.length → Inv U r n (fun i => i = 0) p → Inv U r U.length (fun i => i = 0) (rds t n p)
  | [], n, p, h, hn, hp => by
    have : U.length ≤ n := by rw [List.drop_eq_nil_iff] at h; exact h
    rw [rds, show U.length = n by omega]; exact hp
  | b :: t, n, p, h, hn, hp => by
    have hb : U[n]? = some b := by
      have h1 := congrArg (fun l => l[0]?) h
      simpa using h1
    rw [rds]
    refine rds_inv hv (n := n + 1) ?_ (List.getElem?_eq_some_iff.1 hb).1 (inv_step U r hv hb (by simp) hp)
    rw [← List.drop_drop, h]; rfl
theorem mtc_iff {r : Rx} (hv : Vd r) {s : List UInt8} : mtc r s = true ↔ L r s := by
  cases s with
  | nil => exact nul_iff
  | cons b t =>
    have h := rds_inv (U := b :: t) hv rfl (Nat.zero_le _) (inv_zero (b :: t) r _)
    show (rds (b :: t) 0 (np r)).en = true ↔ _
    have h : Inv (b :: t) r (b :: t).length (fun i => i = 0) (rds (b :: t) 0 (np r)) := h
    rw [Inv.en _ h]
    have e : seg (b :: t) 0 (b :: t).length = b :: t := by unfold seg; rw [List.take_length]; rfl
    constructor
    · rintro ⟨i, _, rfl, hi⟩
      rw [e] at hi; exact hi
    · intro hL
      exact ⟨0, by simp, rfl, by rw [e]; exact hL⟩
end Rg
end
