/-
  Contracts: Size, few, ApplyAll and its reference.
-/
import Derived.Test.YtclebcpapcoafaaB

namespace Go.Proofs.Ytclebcpapcoafaa
open Go.RowKit Te

/-- A slice of edits in memory. -/
def Row (W : World) (p : Option Addr) (n : Nat) (E : List Ed) : Prop :=
  E.length = n ∧ (n = 0 ∨ ∃ b off, p = some ⟨b, off, none⟩ ∧ b < W.heap.size ∧ ∀ i (x : Ed), E[i]? = some x →
    W.cell? ⟨b, off + i * 3, none⟩ = some (.int .i64 x.1) ∧ W.cell? ⟨b, off + i * 3 + 1, none⟩ = some (.int .i64 x.2.1) ∧ W.cell? ⟨b, off + i * 3 + 2, none⟩ = some (.string x.2.2))
theorem Row.below {W W' : World} {p : Option Addr} {n : Nat} {E : List Ed} (h : Row W p n E) (hb : Below W.heap.size W W') : Row W' p n E := by
  refine ⟨h.1, h.2.imp id ?_⟩
  rintro ⟨b, off, rfl, hlt, hx⟩
  refine ⟨b, off, rfl, Nat.lt_of_lt_of_le hlt hb.size, fun i x hi => ?_⟩
  obtain ⟨h1, h2, h3⟩ := hx i x hi
  exact ⟨(hb.cell (p := ⟨b, _, none⟩) hlt).trans h1, (hb.cell (p := ⟨b, _, none⟩) hlt).trans h2, (hb.cell (p := ⟨b, _, none⟩) hlt).trans h3⟩
/-- No offset is too large for an int. -/
def Big (E : List Ed) : Prop := ∀ x ∈ E, x.1 ≤ 9223372036854775807

theorem sz_take : ∀ (E : List Ed) (i : Nat), sz (E.take i) ≤ sz E
  | [], i => by simp
  | e :: E, 0 => by simp [sz]
  | e :: E, i + 1 => by simp only [List.take_succ_cons, sz]; have := sz_take E i; omega
theorem sz_step {E : List Ed} {i : Nat} {x : Ed} (h : E[i]? = some x) : sz (E.take (i + 1)) = sz (E.take i) + x.2.2.size := by
  rw [List.take_add_one, h]
  simp [sz_append, sz]
theorem ret_int {a b : Int} (h : a = b) : Ending.returned (.int .i64 a) = .returned (.int .i64 b) := by rw [h]

set_option maxRecDepth 100000 in
set_option maxHeartbeats 2000000 in
theorem size_any (p : Option Addr) (n c : Nat) (E : List Ed) (w : World) (hn : n ≤ 1000000) (hE : sz E ≤ 1000000000000000000) (h : Row w p n E) :
    Calls Try.prog 26 #[.slice p n c] w fun e w' => e = .returned (.int .i64 (sz E)) ∧ w = w' := by
  have HE := hid hE
  have HR := hid h
  have hl := hid h.1
  clear h hE
  go_enter Try.func26, Try.ntmps26
  go_wp2_with fail
  go_loopg [3, 4] n (fun k s3 s4 wr => ∃ i : Nat, s3 = .int .i64 (sz (E.take i)) ∧ s4 = .int .i64 i ∧ i + k = n ∧ w = wr)
  case atStart => exact ⟨0, rfl, rfl, by omega, rfl⟩
  case round =>
    obtain ⟨i, rfl, rfl, hk, rfl⟩ := hrel
    by_cases hlt : i < n
    · have hlt' : (i : Int) < (n : Int) := by omega
      have hi0 : (0 : Int) ≤ (i : Int) := by omega
      obtain ⟨b, off, rfl, hb, hx⟩ := HR.out.2.resolve_left (by omega)
      obtain ⟨x, hxi⟩ : ∃ x, E[i]? = some x := ⟨_, List.getElem?_eq_getElem (by rw [hl.out]; exact hlt)⟩
      obtain ⟨c0, c1, c2⟩ := hx i x hxi
      have hs := sz_step hxi
      have hs2 := sz_take E (i + 1)
      have hz : ((sz (E.take i) : Int) + (x.2.2.size : Int)) ≤ 1000000000000000000 := by have := HE.out; omega
      have hz0 : (0 : Int) ≤ (sz (E.take i) : Int) := by omega
      have HS := hid hs
      clear hx hs hs2 hxi
      go_wp2
      go_roundg (gk - 1)
      case measure => omega
      case rel => exact ⟨i + 1, by rw [HS.out]; go_num, by go_num, by omega, rfl⟩
    · have hin : ¬ (i : Int) < (n : Int) := by omega
      have e : sz (E.take i) = sz E := by rw [List.take_of_length_le (by rw [hl.out]; omega)]
      have He := hid e
      clear e
      go_wp2
      go_ret
      exact ⟨ret_int (by rw [He.out]), rfl⟩

def Few (s : ByteArray) (E : List Ed) : Prop := s.size ≤ 300 ∧ E.length ≤ 12 ∧ sz E ≤ 400
instance (s : ByteArray) (E : List Ed) : Decidable (Few s E) := by unfold Few; infer_instance

set_option maxRecDepth 100000 in
set_option maxHeartbeats 2000000 in
theorem few_any (s : ByteArray) (p : Option Addr) (n c : Nat) (E : List Ed) (w : World) (hE : E.length ≤ 12 → sz E ≤ 1000000000000000000) (h : Row w p n E) :
    Calls Try.prog 13 #[.string s, .slice p n c] w fun e w' => e = .returned (.bool (decide (Few s E))) ∧ w = w' := by
  have HE := hid hE
  have HR := hid h
  have hl := hid h.1
  clear h hE
  by_cases h1 : s.size ≤ 300
  · have h1' : (s.size : Int) ≤ 300 := by omega
    by_cases h2 : n ≤ 12
    · have h2' : (n : Int) ≤ 12 := by omega
      go_enter Try.func13, Try.ntmps13
      go_wp2_with fail
      refine (size_any p n c E w (by omega) (HE.out (by rw [hl.out]; exact h2)) HR.out).mono ?_
      rintro e w' ⟨rfl, rfl⟩
      go_wp2
      go_ret
      refine ⟨?_, rfl⟩
      have e : decide ((sz E : Int) ≤ 400) = decide (Few s E) := by
        have := hl.out
        unfold Few
        simp only [h1, true_and, this, h2]
        exact decide_eq_decide.2 (by omega)
      rw [← e]
      rfl
    · have h2' : (12 : Int) < (n : Int) := by omega
      go_enter Try.func13, Try.ntmps13
      go_wp2
      go_ret
      refine ⟨?_, rfl⟩
      rw [decide_eq_false (fun hf : Few s E => by have := hf.2.1; have := hl.out; omega)]
      rfl
  · have h1' : (300 : Int) < (s.size : Int) := by omega
    go_enter Try.func13, Try.ntmps13
    go_wp2
    go_ret
    refine ⟨?_, rfl⟩
    rw [decide_eq_false (fun hf : Few s E => by have := hf.1; omega)]
    rfl

/-- The results of ApplyAll. -/
def alv : Option ByteArray → Value
  | some t => .tuple #[.string t, .int .i64 0]
  | none => .tuple #[.string .empty, .int .i64 2]
theorem apAll_drop {cur : ByteArray} {E : List Ed} {i : Nat} {x : Ed} (h : E[i]? = some x) : apAll cur (E.drop i) = if Fit cur.size x then apAll (ap cur x) (E.drop (i + 1)) else none := by
  obtain ⟨hl, rfl⟩ := List.getElem?_eq_some_iff.1 h
  rw [List.drop_eq_getElem_cons hl]
  rfl
theorem sz_drop {E : List Ed} {i : Nat} {x : Ed} (h : E[i]? = some x) : sz (E.drop i) = x.2.2.size + sz (E.drop (i + 1)) := by
  obtain ⟨hl, rfl⟩ := List.getElem?_eq_some_iff.1 h
  rw [List.drop_eq_getElem_cons hl]
  rfl
theorem ap_le {s : ByteArray} {e : Ed} (h : Fit s.size e) : (ap s e).size ≤ s.size + e.2.2.size := by
  have := ap_size h
  have := h.2.1
  omega

set_option maxRecDepth 100000 in
set_option maxHeartbeats 2000000 in
theorem applyAll_any (s : ByteArray) (p : Option Addr) (n c : Nat) (E : List Ed) (w : World) (hn : n ≤ 1000000) (hE : s.size + sz E ≤ 1000000) (hB : Big E) (h : Row w p n E) :
    Calls Try.prog 16 #[.string s, .slice p n c] w fun e w' => e = .returned (alv (apAll s E)) ∧ Below w.heap.size w w' := by
  have HE := hid hE
  have HR := hid h
  have hl := hid h.1
  have HB := hid hB
  clear h hE hB
  go_enter Try.func16, Try.ntmps16
  go_wp2_with fail
  go_loopg [0, 12] n (fun k s0 s12 wr => ∃ (i : Nat) (cur : ByteArray), s0 = .string cur ∧ s12 = .int .i64 i ∧ i + k = n ∧ apAll cur (E.drop i) = apAll s E ∧ cur.size + sz (E.drop i) ≤ 1000000 ∧ Below w.heap.size w wr)
  case atStart => exact ⟨0, s, rfl, rfl, by omega, rfl, HE.out, Below.refl _ _⟩
  case round =>
    obtain ⟨i, cur, rfl, rfl, hk, hap, hsz, hbw⟩ := hrel
    have HA := hid hap
    have HZ := hid hsz
    clear hap hsz
    by_cases hlt : i < n
    · have hlt' : (i : Int) < (n : Int) := by omega
      have hi0 : (0 : Int) ≤ (i : Int) := by omega
      obtain ⟨⟨a, d, t⟩, hxi⟩ : ∃ x, E[i]? = some x := ⟨_, List.getElem?_eq_getElem (by rw [hl.out]; exact hlt)⟩
      have HX := hid hxi
      have hrow := (HR.out.below hbw).2.resolve_left (by omega)
      obtain ⟨b, off, rfl, hb, hx⟩ := hrow
      obtain ⟨c0, c1, c2⟩ := hx i _ hxi
      have hz1 : cur.size ≤ 1000000 := by have := HZ.out; omega
      have hz2 : t.size ≤ 1000000 := by have := HZ.out; have := sz_drop hxi; simp only at this; omega
      have ha : a ≤ 9223372036854775807 := HB.out _ (List.mem_of_getElem? hxi)
      clear hx hxi
      go_wp2_with fail
      refine (apply_any cur t a d _ hz1 hz2 ha).mono ?_
      rintro e w1 ⟨rfl, hb1⟩
      have hb2 : Below wr.heap.size wr w1 := ((Below.refl _ _).alloc (Nat.le_refl _) _).trans (hb1.mono (by simp))
      by_cases hf : Fit cur.size (a, d, t)
      · have HF := hid hf
        rw [apv_yes hf]
        clear hf
        go_wp2
        go_roundg (gk - 1)
        case measure => omega
        case rel =>
          refine ⟨i + 1, _, rfl, by go_num, by omega, ?_, ?_, hbw.trans (hb2.mono hbw.size)⟩
          · have := apAll_drop (cur := cur) HX.out
            rw [if_pos HF.out] at this
            rw [← this, HA.out]
          · have := ap_le HF.out
            have := HZ.out
            have := sz_drop HX.out
            simp only at *
            omega
      · have HF := hid hf
        rw [apv_no hf]
        clear hf
        go_wp2
        go_ret2
        refine ⟨?_, hbw.trans (hb2.mono hbw.size)⟩
        have := apAll_drop (cur := cur) HX.out
        rw [if_neg HF.out, HA.out] at this
        rw [this]; rfl
    · have hin : ¬ (i : Int) < (n : Int) := by omega
      go_wp2
      go_ret2
      refine ⟨?_, hbw⟩
      have := HA.out
      rw [List.drop_eq_nil_of_le (by rw [hl.out]; omega)] at this
      rw [← this]; rfl
set_option maxRecDepth 100000 in
set_option maxHeartbeats 2000000 in
theorem rapplyAll_any (s : ByteArray) (p : Option Addr) (n c : Nat) (E : List Ed) (w : World) (hn : n ≤ 1000000) (hE : s.size + sz E ≤ 1000000) (h : Row w p n E) :
    Calls Try.prog 17 #[.string s, .slice p n c] w fun e w' => e = .returned (alv (apAll s E)) ∧ Below w.heap.size w w' := by
  have HE := hid hE
  have HR := hid h
  have hl := hid h.1
  clear h hE
  go_enter Try.func17, Try.ntmps17
  go_wp2_with fail
  go_loopg [0, 6] n (fun k s0 s12 wr => ∃ (i : Nat) (cur : ByteArray), s0 = .string cur ∧ s12 = .int .i64 i ∧ i + k = n ∧ apAll cur (E.drop i) = apAll s E ∧ cur.size + sz (E.drop i) ≤ 1000000 ∧ Below w.heap.size w wr)
  case atStart => exact ⟨0, s, rfl, rfl, by omega, rfl, HE.out, Below.refl _ _⟩
  case round =>
    obtain ⟨i, cur, rfl, rfl, hk, hap, hsz, hbw⟩ := hrel
    have HA := hid hap
    have HZ := hid hsz
    clear hap hsz
    by_cases hlt : i < n
    · have hlt' : (i : Int) < (n : Int) := by omega
      have hi0 : (0 : Int) ≤ (i : Int) := by omega
      obtain ⟨⟨a, d, t⟩, hxi⟩ : ∃ x, E[i]? = some x := ⟨_, List.getElem?_eq_getElem (by rw [hl.out]; exact hlt)⟩
      have HX := hid hxi
      have hrow := (HR.out.below hbw).2.resolve_left (by omega)
      obtain ⟨b, off, rfl, hb, hx⟩ := hrow
      obtain ⟨c0, c1, c2⟩ := hx i _ hxi
      have hz1 : cur.size ≤ 1000000 := by have := HZ.out; omega
      have hz2 : t.size ≤ 1000000 := by have := HZ.out; have := sz_drop hxi; simp only at this; omega
      clear hx hxi
      go_wp2_with fail
      refine (rapply_any cur t a d _ hz1 hz2).mono ?_
      rintro e w1 ⟨rfl, hb2⟩
      by_cases hf : Fit cur.size (a, d, t)
      · have HF := hid hf
        rw [apv_yes hf]
        clear hf
        go_wp2
        go_roundg (gk - 1)
        case measure => omega
        case rel =>
          refine ⟨i + 1, _, rfl, by go_num, by omega, ?_, ?_, hbw.trans (hb2.mono hbw.size)⟩
          · have := apAll_drop (cur := cur) HX.out
            rw [if_pos HF.out] at this
            rw [← this, HA.out]
          · have := ap_le HF.out
            have := HZ.out
            have := sz_drop HX.out
            simp only at *
            omega
      · have HF := hid hf
        rw [apv_no hf]
        clear hf
        go_wp2
        go_ret2
        refine ⟨?_, hbw.trans (hb2.mono hbw.size)⟩
        have := apAll_drop (cur := cur) HX.out
        rw [if_neg HF.out, HA.out] at this
        rw [this]; rfl
    · have hin : ¬ (i : Int) < (n : Int) := by omega
      go_wp2
      go_ret2
      refine ⟨?_, hbw⟩
      have := HA.out
      rw [List.drop_eq_nil_of_le (by rw [hl.out]; omega)] at this
      rw [← this]; rfl
end Go.Proofs.Ytclebcpapcoafaa
