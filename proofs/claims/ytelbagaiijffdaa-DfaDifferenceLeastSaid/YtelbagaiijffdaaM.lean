/-
  Plain maths: deterministic automata, maximal munch (namespace Lx; no program).
-/
import Derived.Test.YtelbagaiijffdaaFr
set_option linter.unusedVariables false
namespace Lx

structure Df where
  cls : List Int
  nxt : List (List Int)
  acc : List Int
def wid (D : Df) : Nat := (D.nxt.headD []).length
def valid (D : Df) : Bool := decide (1 ≤ D.nxt.length) && decide (D.nxt.length ≤ 500) && decide (1 ≤ wid D) && decide (D.cls.length = 256) && D.cls.all (fun x => decide (0 ≤ x) && decide (x ≤ (wid D : Int) - 1)) &&
  D.nxt.all (fun r => decide (r.length = wid D) && r.all fun x => decide (-1 ≤ x) && decide (x ≤ (D.nxt.length : Int) - 1)) && decide (D.acc.length = D.nxt.length) && D.acc.all fun x => decide (-1 ≤ x)
/-- A valid automaton with n states and k classes. -/
structure Vd (D : Df) (n k : Nat) : Prop where
  hn : D.nxt.length = n
  pos : 1 ≤ n
  le : n ≤ 500
  k1 : 1 ≤ k
  cl : D.cls.length = 256
  cls : ∀ x ∈ D.cls, ∃ c : Nat, c < k ∧ x = (c : Int)
  row : ∀ r ∈ D.nxt, r.length = k ∧ ∀ x ∈ r, -1 ≤ x ∧ x < (n : Int)
  al : D.acc.length = n
  acc : ∀ x ∈ D.acc, -1 ≤ x
theorem wid_of {D : Df} {n k : Nat} (h : Vd D n k) : wid D = k := by
  unfold wid
  cases hh : D.nxt with
  | nil => have := h.hn; have := h.pos; rw [hh] at *; simp at *; omega
  | cons r l => exact (h.row r (by rw [hh]; simp)).1
theorem valid_iff {D : Df} : valid D = true ↔ ∃ n k, Vd D n k := by
  unfold valid
  simp only [Bool.and_eq_true, decide_eq_true_eq, List.all_eq_true]
  constructor
  · rintro ⟨⟨⟨⟨⟨⟨⟨h1, h2⟩, h3⟩, h4⟩, h5⟩, h6⟩, h7⟩, h8⟩
    refine ⟨D.nxt.length, wid D, rfl, h1, h2, h3, h4, fun x hx => ?_, fun r hr => ⟨(h6 r hr).1, fun x hx => ?_⟩, h7, h8⟩
    · have := h5 x hx; exact ⟨x.toNat, by omega, by omega⟩
    · have := (h6 r hr).2 x hx; omega
  · rintro ⟨n, k, h⟩
    have hw := wid_of h
    rw [hw, h.hn]
    refine ⟨⟨⟨⟨⟨⟨⟨h.pos, h.le⟩, h.k1⟩, h.cl⟩, fun x hx => ?_⟩, fun r hr => ⟨(h.row r hr).1, fun x hx => ?_⟩⟩, h.al⟩, h.acc⟩
    · obtain ⟨c, hc, rfl⟩ := h.cls x hx; omega
    · have := (h.row r hr).2 x hx; omega
/-- Where a byte leads. -/
def dl (D : Df) (q b : Nat) : Int := (D.nxt.getD q []).getD (D.cls.getD b 0).toNat (-1)
def ac (D : Df) (q : Nat) : Int := D.acc.getD q (-1)
theorem dl_at {D : Df} {n k : Nat} (h : Vd D n k) {q b : Nat} (hq : q < n) (hb : b < 256) : ∃ (r : List Int) (c : Nat), D.nxt[q]? = some r ∧ D.cls[b]? = some (c : Int) ∧ c < k ∧ r.length = k ∧ r[c]? = some (dl D q b) ∧ -1 ≤ dl D q b ∧ dl D q b < (n : Int) := by
  have hr : D.nxt[q]? = some (D.nxt[q]'(by rw [h.hn]; exact hq)) := List.getElem?_eq_getElem _
  have hc : D.cls[b]? = some (D.cls[b]'(by rw [h.cl]; exact hb)) := List.getElem?_eq_getElem _
  obtain ⟨c, hck, hce⟩ := h.cls _ (List.mem_of_getElem? hc)
  obtain ⟨hl, hx⟩ := h.row _ (List.mem_of_getElem? hr)
  have hcl : c < (D.nxt[q]'(by rw [h.hn]; exact hq)).length := by rw [hl]; exact hck
  have hd : dl D q b = (D.nxt[q]'(by rw [h.hn]; exact hq))[c] := by
    unfold dl
    rw [List.getD_eq_getElem?_getD, List.getD_eq_getElem?_getD, List.getD_eq_getElem?_getD, hr, hc, hce]
    simp only [Option.getD_some, Int.toNat_natCast]
    rw [List.getElem?_eq_getElem hcl]; rfl
  refine ⟨_, c, hr, by rw [hc, hce], hck, hl, by rw [hd]; exact List.getElem?_eq_getElem hcl, ?_⟩
  rw [hd]
  exact hx _ (List.getElem_mem _)
theorem ac_at {D : Df} {n k : Nat} (h : Vd D n k) {q : Nat} (hq : q < n) : D.acc[q]? = some (ac D q) ∧ -1 ≤ ac D q := by
  have hl : q < D.acc.length := by rw [h.al]; exact hq
  have he : ac D q = D.acc[q] := by unfold ac; rw [List.getD_eq_getElem?_getD, List.getElem?_eq_getElem hl]; rfl
  rw [he]
  exact ⟨List.getElem?_eq_getElem hl, h.acc _ (List.getElem_mem _)⟩
/-- The longest part that is accepted: its number, its length, how much was examined. -/
def scan (D : Df) : Nat → List UInt8 → Nat → Int → Nat → Int × Nat × Nat
  | _, [], look, kind, size => (kind, size, look + 1)
  | q, b :: r, look, kind, size =>
    if dl D q b.toNat < 0 then (kind, size, look + 1)
    else if 0 ≤ ac D (dl D q b.toNat).toNat then scan D (dl D q b.toNat).toNat r (look + 1) (ac D (dl D q b.toNat).toNat) (look + 1)
    else scan D (dl D q b.toNat).toNat r (look + 1) kind size
structure Tk where
  kind : Int
  pos : Nat
  txt : ByteArray
  look : Nat
def sc (D : Df) (s : ByteArray) (i : Nat) : Int × Nat × Nat := scan D 0 (s.data.toList.drop i) 0 (-1) 1
def tokAt (D : Df) (s : ByteArray) (i : Nat) : Tk := ⟨(sc D s i).1, i, s.extract i (i + (sc D s i).2.1), (sc D s i).2.2⟩
def lexF (D : Df) (s : ByteArray) : Nat → Nat → List Tk
  | 0, _ => []
  | f + 1, i => if i < s.size then tokAt D s i :: lexF D s f (i + (sc D s i).2.1) else []
def lex (D : Df) (s : ByteArray) : List Tk := lexF D s s.size 0
/-- Bounds of what is found. -/
theorem scan_bounds (D : Df) : ∀ (l : List UInt8) (q look : Nat) (kind : Int) (size : Nat), 1 ≤ size → size ≤ max 1 look →
    1 ≤ (scan D q l look kind size).2.1 ∧ (scan D q l look kind size).2.1 ≤ max 1 (look + l.length) ∧ look + 1 ≤ (scan D q l look kind size).2.2 ∧ (scan D q l look kind size).2.2 ≤ look + l.length + 1 ∧ (scan D q l look kind size).2.1 ≤ (scan D q l look kind size).2.2
  | [], q, look, kind, size, h1, h2 => by simp only [scan, List.length_nil]; omega
  | b :: r, q, look, kind, size, h1, h2 => by
    simp only [scan, List.length_cons]
    split
    · simp only; omega
    · split
      · have h := scan_bounds D r (dl D q b.toNat).toNat (look + 1) (ac D (dl D q b.toNat).toNat) (look + 1) (by omega) (by omega)
        omega
      · have h := scan_bounds D r (dl D q b.toNat).toNat (look + 1) kind size h1 (by omega)
        omega
theorem scan_kind {D : Df} {n k : Nat} (hv : Vd D n k) : ∀ (l : List UInt8) (q look : Nat) (kind : Int) (size : Nat), q < n → -1 ≤ kind → -1 ≤ (scan D q l look kind size).1
  | [], q, look, kind, size, _, h => h
  | b :: r, q, look, kind, size, hq, h => by
    simp only [scan]
    obtain ⟨_, c, _, _, _, _, _, h1, h2⟩ := dl_at hv hq b.toNat_lt
    split
    · exact h
    · split
      · exact scan_kind hv r _ _ _ _ (by omega) (by omega)
      · exact scan_kind hv r _ _ _ _ (by omega) h
theorem sc_bounds {D : Df} {s : ByteArray} {i : Nat} (hi : i < s.size) : 1 ≤ (sc D s i).2.1 ∧ i + (sc D s i).2.1 ≤ s.size ∧ (sc D s i).2.1 ≤ (sc D s i).2.2 ∧ i + (sc D s i).2.2 ≤ s.size + 1 ∧ 1 ≤ (sc D s i).2.2 := by
  have h := scan_bounds D (s.data.toList.drop i) 0 0 (-1) 1 (by omega) (by omega)
  have hl : (s.data.toList.drop i).length = s.size - i := by rw [List.length_drop]; rfl
  rw [hl] at h
  unfold sc
  omega
theorem ex_len (s : ByteArray) {i j : Nat} (h : i ≤ j) (h2 : j ≤ s.size) : (s.extract i j).size = j - i := by
  rw [ByteArray.size_extract]; omega
theorem tok_len {D : Df} {s : ByteArray} {i : Nat} (hi : i < s.size) : (tokAt D s i).txt.size = (sc D s i).2.1 := by
  have := sc_bounds (D := D) hi
  show (s.extract i (i + (sc D s i).2.1)).size = _
  rw [ex_len s (by omega) (by omega)]; omega
theorem lexF_more (D : Df) (s : ByteArray) : ∀ (f g i : Nat), s.size - i ≤ f → s.size - i ≤ g → lexF D s f i = lexF D s g i
  | 0, 0, i, _, _ => rfl
  | 0, g + 1, i, h, _ => by simp only [lexF]; rw [if_neg (by omega)]
  | f + 1, 0, i, _, h => by simp only [lexF]; rw [if_neg (by omega)]
  | f + 1, g + 1, i, h1, h2 => by
    simp only [lexF]
    by_cases hi : i < s.size
    · have := sc_bounds (D := D) hi
      rw [if_pos hi, if_pos hi, lexF_more D s f g _ (by omega) (by omega)]
    · rw [if_neg hi, if_neg hi]
/-- The tokens from a place on. -/
def lexAt (D : Df) (s : ByteArray) (i : Nat) : List Tk := lexF D s s.size i
theorem lexAt_end {D : Df} {s : ByteArray} {i : Nat} (h : s.size ≤ i) : lexAt D s i = [] := by
  unfold lexAt
  cases hs : s.size with
  | zero => rfl
  | succ f => simp only [lexF]; rw [if_neg (by omega)]
theorem lexAt_cons {D : Df} {s : ByteArray} {i : Nat} (h : i < s.size) : lexAt D s i = tokAt D s i :: lexAt D s (i + (sc D s i).2.1) := by
  have hb := sc_bounds (D := D) h
  unfold lexAt
  have e : lexF D s s.size i = lexF D s ((s.size - 1) + 1) i := by rw [show s.size - 1 + 1 = s.size by omega]
  rw [e]
  simp only [lexF]
  rw [if_pos h, lexF_more D s (s.size - 1) s.size _ (by omega) (by omega)]
theorem lexAt_len (D : Df) (s : ByteArray) : ∀ (d i : Nat), s.size - i ≤ d → (lexAt D s i).length ≤ d
  | d, i, h => by
    by_cases hi : i < s.size
    · rw [lexAt_cons hi]
      have hb := sc_bounds (D := D) hi
      match d, h with
      | 0, h => omega
      | d + 1, h => have := lexAt_len D s d (i + (sc D s i).2.1) (by omega); simp only [List.length_cons]; omega
    · rw [lexAt_end (by omega)]; simp
end Lx
