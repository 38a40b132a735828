/-
  Two histories side by side; the edits that a row of calls of Do accepts.
-/
import Derived.Test.YtfhdbenomkbfjaaJ
set_option linter.unusedSimpArgs false
set_option linter.unusedVariables false
namespace Te
def doAll (x : St) : List Ed → St
  | [] => x
  | e :: L => doAll (doR x e).1 L
def acs (x : St) : List Ed → List Ed
  | [] => []
  | e :: L => (if (doR x e).2.2 = 0 then [e] else []) ++ acs (doR x e).1 L
theorem doAll_append : ∀ (A B : List Ed) (x : St), doAll x (A ++ B) = doAll (doAll x A) B
  | [], _, _ => rfl
  | a :: A, B, x => by simp only [List.cons_append, doAll, doAll_append A B]
theorem acs_append : ∀ (A B : List Ed) (x : St), acs x (A ++ B) = acs x A ++ acs (doAll x A) B
  | [], _, _ => rfl
  | a :: A, B, x => by simp only [List.cons_append, acs, doAll, acs_append A B, List.append_assoc]
theorem doR_fail {x : St} {e : Ed} (h : (doR x e).2.2 ≠ 0) : (doR x e).1 = x := (do_out (K := e.2.2.size) (Nat.le_refl _) (show doR x e = ((doR x e).1, (doR x e).2.1, (doR x e).2.2) from rfl)).2 h
theorem ta_do {K : Nat} {S0 : ByteArray} {E : List Ed} {x : St} (h : Ta K S0 E E.length x) (hK : 4000 ≤ K) (e : Ed) : Ta K S0 (E ++ if (doR x e).2.2 = 0 then [e] else []) (E ++ if (doR x e).2.2 = 0 then [e] else []).length (doR x e).1 := by
  by_cases h0 : (doR x e).2.2 = 0
  · rw [if_pos h0]
    have hd : doR x e = ((doR x e).1, (doR x e).2.1, 0) := by rw [← h0]
    obtain ⟨hf, hx, _⟩ := do_ok hd
    have hs : (ap x.s e).size ≤ 4000 := by
      unfold doR at h0
      rw [if_pos hf] at h0
      by_cases hs : (ap x.s e).size ≤ 4000
      · exact hs
      · rw [if_neg hs] at h0; simp at h0
    have := Tale.do h hf (by omega)
    rw [List.take_length] at this
    rw [hx]
    simpa using this
  · rw [if_neg h0, doR_fail h0]
    simpa using h
theorem ta_doAll {K : Nat} {S0 : ByteArray} (hK : 4000 ≤ K) : ∀ (L : List Ed) (E : List Ed) (x : St), Ta K S0 E E.length x → Ta K S0 (E ++ acs x L) (E ++ acs x L).length (doAll x L)
  | [], E, x, h => by simpa [acs, doAll] using h
  | e :: L, E, x, h => by
    have := ta_doAll hK L _ _ (ta_do h hK e)
    simpa only [acs, doAll, List.append_assoc] using this
theorem ta_start {K : Nat} {s : ByteArray} (h : s.size ≤ K) (hK : 4000 ≤ K) (L : List Ed) : Ta K s (acs ⟨s, [], [], 0⟩ L) (acs ⟨s, [], [], 0⟩ L).length (doAll ⟨s, [], [], 0⟩ L) := by
  have := ta_doAll hK L [] ⟨s, [], [], 0⟩ (Tale.start h)
  simpa using this
theorem doAll_step {x : St} {L : List Ed} {i : Nat} {e : Ed} (h : L[i]? = some e) : doAll x (L.take (i + 1)) = (doR (doAll x (L.take i)) e).1 := by
  rw [List.take_add_one, h, doAll_append]
  rfl
theorem acs_step {x : St} {L : List Ed} {i : Nat} {e : Ed} (h : L[i]? = some e) : acs x (L.take (i + 1)) = acs x (L.take i) ++ if (doR (doAll x (L.take i)) e).2.2 = 0 then [e] else [] := by
  rw [List.take_add_one, h, acs_append]
  simp [acs]
theorem acs_pre (x : St) (L : List Ed) (i : Nat) : acs x (L.take i) = (acs x L).take (acs x (L.take i)).length := by
  have := acs_append (L.take i) (L.drop i) x
  rw [List.take_append_drop] at this
  rw [this]
  simp
theorem ok_doAll {K : Nat} (hK : 4000 ≤ K) : ∀ (L : List Ed) (n : Nat) (x : St), Ok K n x → Ok K (n + L.length) (doAll x L)
  | [], n, x, h => h
  | e :: L, n, x, h => by
    have := ok_doAll hK L (n + 1) _ (h.do hK (e := e))
    simp only [doAll, List.length_cons]
    exact this.mono (by omega)
theorem ta_pre {K : Nat} {S0 : ByteArray} {A B : List Ed} {j : Nat} {x y : St} (h : Ta K S0 A j x) (h' : Ta K S0 B B.length y) (hB : B = A.take j) : x.s = y.s := by
  have h1 := h.now
  have h2 := h'.now
  rw [List.take_length, hB, h1] at h2
  simpa using h2
theorem doR_same {x y : St} (h : x.s = y.s) (e : Ed) : (doR x e).2.2 = (doR y e).2.2 ∧ (doR x e).1.s = (doR y e).1.s := by
  unfold doR
  rw [h]
  split
  · split
    · exact ⟨rfl, rfl⟩
    · exact ⟨rfl, h⟩
  · exact ⟨rfl, h⟩
theorem redo_none {x : St} (h : x.R = []) : redoR x = (x, zed, 15) := by
  unfold redoR
  rw [h]
theorem doR_clears {x : St} {e : Ed} (h : (doR x e).2.2 = 0) : (doR x e).1.R = [] := by
  have hd : doR x e = ((doR x e).1, (doR x e).2.1, 0) := by rw [← h]
  rw [(do_ok hd).2.1]
end Te
namespace Go.Proofs.Ytfhdbenomkbfjaa
open Go.RowKit Te Go.Frame
/-- Two histories, apart from each other and from what is older than n0. -/
def Pair (n0 : Nat) (w : World) (B C : Nat) (x y : St) : Prop :=
  ∃ F G : Nat → Prop, Hi F w B x ∧ Hi G w C y ∧ (∀ b, F b → n0 ≤ b ∧ b < w.heap.size) ∧ (∀ b, G b → n0 ≤ b ∧ b < w.heap.size) ∧ (∀ b, F b → ¬ G b)
theorem Pair.swap {n0 : Nat} {w : World} {B C : Nat} {x y : St} (h : Pair n0 w B C x y) : Pair n0 w C B y x := by
  obtain ⟨F, G, h1, h2, h3, h4, h5⟩ := h
  exact ⟨G, F, h2, h1, h4, h3, fun b h h' => h5 b h' h⟩
theorem Pair.below {n0 : Nat} {w w' : World} {B C : Nat} {x y : St} (h : Pair n0 w B C x y) (hb : Below w.heap.size w w') : Pair n0 w' B C x y := by
  obtain ⟨F, G, h1, h2, h3, h4, h5⟩ := h
  exact ⟨F, G, h1.below hb, h2.below hb, fun b h => ⟨(h3 b h).1, Nat.lt_of_lt_of_le (h3 b h).2 hb.size⟩, fun b h => ⟨(h4 b h).1, Nat.lt_of_lt_of_le (h4 b h).2 hb.size⟩, h5⟩
theorem Pair.first {n0 : Nat} {w : World} {B C : Nat} {x y : St} (h : Pair n0 w B C x y) (hn : n0 ≤ w.heap.size) :
    ∃ F, Hi F w B x ∧ Up F w ∧ ∀ w' x', Hi F w' B x' → Kept F w w' → Pair n0 w' B C x' y ∧ Below n0 w w' := by
  obtain ⟨F, G, h1, h2, h3, h4, h5⟩ := h
  refine ⟨fun b => F b ∨ w.heap.size ≤ b, h1.mono fun b hb _ => .inl hb, fun b hb => .inr hb, fun w' x' h' hk => ⟨⟨fun b => (F b ∨ w.heap.size ≤ b) ∧ b < w'.heap.size, G, ?_, ?_, ?_, ?_, ?_⟩, ?_⟩⟩
  · exact h'.mono fun b hb hl => ⟨hb, hl⟩
  · exact h2.keep hk fun b hb hf => hf.elim (fun h => h5 b h hb) (fun h => by have := (h4 b hb).2; omega)
  · rintro b ⟨hb | hb, hl⟩
    · exact ⟨(h3 b hb).1, hl⟩
    · exact ⟨by omega, hl⟩
  · exact fun b hb => ⟨(h4 b hb).1, Nat.lt_of_lt_of_le (h4 b hb).2 hk.size⟩
  · rintro b ⟨hb | hb, _⟩ hg
    · exact h5 b hb hg
    · have := (h4 b hg).2; omega
  · exact hk.toBelow fun b hb => hb.elim (fun h => (h3 b h).1) (fun h => by omega)
theorem pair_do {n0 : Nat} {w : World} {B C : Nat} {x y x' : St} {a d : Int} {t : ByteArray} {z : Ed} {er : Int} {K n : Nat} (h : Pair n0 w B C x y) (hn0 : n0 ≤ w.heap.size) (hr : doR x (a, d, t) = (x', z, er)) (ok : Ok K n x) (hK : K ≤ 1000000) (hn : n ≤ 900000) (ht : t.size ≤ 1000000) (ha : a ≤ 9223372036854775807) :
    Calls Try.prog 19 #[.pointer (some ⟨B, 0, none⟩), .agg #[.int .i64 a, .int .i64 d, .string t]] w fun e w' => e = .returned (.int .i64 er) ∧ Pair n0 w' B C x' y ∧ Below n0 w w' := by
  obtain ⟨F, h1, h2, h3⟩ := h.first hn0
  refine (do_any F w B x x' a d t z er K n hr h1 h2 ok hK hn ht ha).mono ?_
  rintro e w' ⟨rfl, h4, h5⟩
  exact ⟨rfl, h3 w' x' h4 h5⟩
theorem pair_undo {n0 : Nat} {w : World} {B C : Nat} {x y x' : St} {a d : Int} {t : ByteArray} {er : Int} {K n : Nat} (h : Pair n0 w B C x y) (hn0 : n0 ≤ w.heap.size) (hr : undoR x = (x', (a, d, t), er)) (ok : Ok K n x) (hK : K ≤ 1000000) (hn : n ≤ 900000) :
    Calls Try.prog 20 #[.pointer (some ⟨B, 0, none⟩)] w fun e w' => e = .returned (.tuple #[.agg #[.int .i64 a, .int .i64 d, .string t], .int .i64 er]) ∧ Pair n0 w' B C x' y ∧ Below n0 w w' := by
  obtain ⟨F, h1, h2, h3⟩ := h.first hn0
  refine (undo_any F w B x x' a d t er K n hr h1 h2 ok hK hn).mono ?_
  rintro e w' ⟨rfl, h4, h5⟩
  exact ⟨rfl, h3 w' x' h4 h5⟩
theorem pair_redo {n0 : Nat} {w : World} {B C : Nat} {x y x' : St} {a d : Int} {t : ByteArray} {er : Int} {K n : Nat} (h : Pair n0 w B C x y) (hn0 : n0 ≤ w.heap.size) (hr : redoR x = (x', (a, d, t), er)) (ok : Ok K n x) (hK : K ≤ 1000000) (hn : n ≤ 900000) :
    Calls Try.prog 21 #[.pointer (some ⟨B, 0, none⟩)] w fun e w' => e = .returned (.tuple #[.agg #[.int .i64 a, .int .i64 d, .string t], .int .i64 er]) ∧ Pair n0 w' B C x' y ∧ Below n0 w w' := by
  obtain ⟨F, h1, h2, h3⟩ := h.first hn0
  refine (redo_any F w B x x' a d t er K n hr h1 h2 ok hK hn).mono ?_
  rintro e w' ⟨rfl, h4, h5⟩
  exact ⟨rfl, h3 w' x' h4 h5⟩
theorem pair_text {n0 : Nat} {w : World} {B C : Nat} {x y : St} (h : Pair n0 w B C x y) : Calls Try.prog 15 #[.pointer (some ⟨B, 0, none⟩)] w fun e w' => e = .returned (.string x.s) ∧ w = w' := by
  obtain ⟨F, G, h1, _⟩ := h
  exact text_hi F w B x h1
theorem pair_depth {n0 : Nat} {w : World} {B C : Nat} {x y : St} (h : Pair n0 w B C x y) : Calls Try.prog 14 #[.pointer (some ⟨B, 0, none⟩)] w fun e w' => e = .returned (.tuple #[.int .i64 (x.U.length : Int), .int .i64 (x.R.length : Int)]) ∧ Below w.heap.size w w' := by
  obtain ⟨F, G, h1, _⟩ := h
  exact depth_hi F w B x h1
/-- Two histories made one after the other. -/
theorem pair_new {n0 : Nat} {w1 w2 w3 : World} {x y : St} (h0 : n0 ≤ w1.heap.size) (h1 : Hi (· = w1.heap.size) w2 w1.heap.size x) (z1 : w2.heap.size = w1.heap.size + 1) (h2 : Hi (· = w2.heap.size) w3 w2.heap.size y) (b2 : Below w2.heap.size w2 w3) (z2 : w3.heap.size = w2.heap.size + 1) : Pair n0 w3 w1.heap.size w2.heap.size x y :=
  ⟨_, _, h1.below b2, h2, fun b (hb : b = w1.heap.size) => by omega, fun b (hb : b = w2.heap.size) => by omega, fun b (h : b = w1.heap.size) (h' : b = w2.heap.size) => by omega⟩
end Go.Proofs.Ytfhdbenomkbfjaa
