/-
  Contracts: endsWithin, Fits, Apply and Replace of the references; Update and its reference.
-/
import Derived.Test.YtcmoehjalgppmaaF

namespace Go.Proofs.Ytcmoehjalgppmaa
open Go.RowKit Te Go.Frame

theorem cells3 {W : World} {b : Nat} {x y z : Value} {t : TypeId} (h : W.heap[b]? = some (.cells #[x, y, z] t (0, 0))) : W.cell? ⟨b, 0, none⟩ = some x ∧ W.cell? ⟨b, 1, none⟩ = some y ∧ W.cell? ⟨b, 2, none⟩ = some z := by
  refine ⟨?_, ?_, ?_⟩ <;> simp [World.cell?, h]
set_option maxRecDepth 100000 in
set_option maxHeartbeats 2000000 in
theorem ends_yes (a d : Int) (s : ByteArray) (n : Int) (w : World) (h0 : 0 ≤ n) (hn : n ≤ 1000000000000000) (h : Fit n (a, d, s)) :
    Calls Try.prog 29 #[.agg #[.int .i64 a, .int .i64 d, .string s], .int .i64 n] w fun e w' => e = .returned (.bool true) ∧ Below w.heap.size w w' := by
  obtain ⟨h1, h2, h3⟩ := h
  have h1 : 0 ≤ a := h1
  have h2 : 0 ≤ d := h2
  have h3 : d ≤ n - a := h3
  go_enter Try.func29, Try.ntmps29
  go_wp2
  go_ret
  exact ⟨rfl, (Below.refl _ _).alloc (Nat.le_refl _) _⟩
set_option maxRecDepth 100000 in
set_option maxHeartbeats 2000000 in
theorem ends_no (a d : Int) (s : ByteArray) (n : Int) (w : World) (h0 : 0 ≤ n) (hn : n ≤ 1000000000000000) (ha : a ≤ 9223372036854775807) (h : ¬ Fit n (a, d, s)) :
    Calls Try.prog 29 #[.agg #[.int .i64 a, .int .i64 d, .string s], .int .i64 n] w fun e w' => e = .returned (.bool false) ∧ Below w.heap.size w w' := by
  have H : Hid (¬ (0 ≤ a ∧ 0 ≤ d ∧ d ≤ n - a)) := h
  clear h
  go_enter Try.func29, Try.ntmps29
  go_wp2
  all_goals
    go_ret
    refine ⟨?_, (Below.refl _ _).alloc (Nat.le_refl _) _⟩
    first
      | rfl
      | (have : ¬ d ≤ n - a := fun h' => H.out ⟨by assumption, by assumption, h'⟩
         simp [this])
set_option maxRecDepth 100000 in
set_option maxHeartbeats 2000000 in
theorem fits_yes (a d : Int) (s t : ByteArray) (w : World) (hn : s.size ≤ 1000000) (h : Fit s.size (a, d, t)) :
    Calls Try.prog 30 #[.int .i64 s.size, .agg #[.int .i64 a, .int .i64 d, .string t]] w fun e w' => e = .returned (.bool true) ∧ Below w.heap.size w w' := by
  obtain ⟨h1, h2, h3⟩ := h
  have h1 : 0 ≤ a := h1
  have h2 : 0 ≤ d := h2
  have h3 : d ≤ s.size - a := h3
  have h4 : a ≤ s.size := by omega
  have h5 : (s.size : Int) ≤ 1000000000000000 := by omega
  go_enter Try.func30, Try.ntmps30
  go_wp2
  go_ret
  exact ⟨rfl, (Below.refl _ _).alloc (Nat.le_refl _) _⟩
set_option maxRecDepth 100000 in
set_option maxHeartbeats 2000000 in
theorem fits_no (a d : Int) (s t : ByteArray) (w : World) (hn : s.size ≤ 1000000) (h : ¬ Fit s.size (a, d, t)) :
    Calls Try.prog 30 #[.int .i64 s.size, .agg #[.int .i64 a, .int .i64 d, .string t]] w fun e w' => e = .returned (.bool false) ∧ Below w.heap.size w w' := by
  have H : Hid (¬ (0 ≤ a ∧ 0 ≤ d ∧ d ≤ s.size - a)) := h
  have h5 : (s.size : Int) ≤ 1000000000000000 := by omega
  clear h
  go_enter Try.func30, Try.ntmps30
  go_wp2
  all_goals
    go_ret
    refine ⟨?_, (Below.refl _ _).alloc (Nat.le_refl _) _⟩
    first
      | rfl
      | (have : ¬ d ≤ s.size - a := fun h' => H.out ⟨by assumption, by assumption, h'⟩
         simp [this])
/-- The results of Apply. -/
def apv (s : ByteArray) (e : Ed) : Value := if Fit s.size e then .tuple #[.string (ap s e), .int .i64 0] else .tuple #[.string .empty, .int .i64 2]
theorem apv_yes {s : ByteArray} {e : Ed} (h : Fit s.size e) : apv s e = .tuple #[.string (ap s e), .int .i64 0] := if_pos h
theorem apv_no {s : ByteArray} {e : Ed} (h : ¬ Fit s.size e) : apv s e = .tuple #[.string .empty, .int .i64 2] := if_neg h
theorem ap_def (s t : ByteArray) (a d : Nat) : s.extract 0 a ++ t ++ s.extract (a + d) s.size = ap s ((a : Int), (d : Int), t) := by
  unfold ap; simp only [Int.toNat_natCast]
set_option maxRecDepth 100000 in
set_option maxHeartbeats 2000000 in
theorem apply_any (s t : ByteArray) (a d : Int) (w : World) (hs : s.size ≤ 1000000) (ht : t.size ≤ 1000000) (ha : a ≤ 9223372036854775807) :
    Calls Try.prog 27 #[.string s, .agg #[.int .i64 a, .int .i64 d, .string t]] w fun e w' => e = .returned (apv s (a, d, t)) ∧ Below w.heap.size w w' := by
  have b1 : Below w.heap.size w (w.alloc (.cells #[.int .i64 a, .int .i64 d, .string t] 45)) := (Below.refl _ _).alloc (Nat.le_refl _) _
  have s1 : (s.size : Int) ≤ 1000000000000000 := by omega
  have s0 : (0 : Int) ≤ (s.size : Int) := by omega
  by_cases hf : Fit s.size (a, d, t)
  · have HF := hid hf
    obtain ⟨x, y, t', he, hl⟩ := hf.nat
    simp only [Prod.mk.injEq] at he
    obtain ⟨rfl, rfl, rfl⟩ := he
    have a0 : (0 : Int) ≤ (x : Int) := by omega
    have d0 : (0 : Int) ≤ (y : Int) := by omega
    have a1 : (x : Int) ≤ (s.size : Int) := by omega
    have a2 : (x : Int) + (y : Int) ≤ (s.size : Int) := by omega
    have e4 : IntKind.i64.wrap (↑x + ↑y) = (x : Int) + (y : Int) := wrapIn (by omega) (by omega)
    clear hf
    go_enter Try.func27, Try.ntmps27
    go_wp2_with (go_at_call 29; refine (ends_yes _ _ _ _ _ s0 s1 HF.out).mono ?_; rintro e w1 ⟨rfl, hbl⟩)
    obtain ⟨c0, c1, c2⟩ := cells3 ((hbl.block _ (by simp)).trans (alloc_new w (.cells #[.int .i64 x, .int .i64 y, .string t] 45)))
    have z1 : (s.extract 0 x).size ≤ 1000000 := by rw [ByteArray.size_extract]; omega
    have z2 : (s.extract (x + y) s.size).size ≤ 1000000 := by rw [ByteArray.size_extract]; omega
    have z3 : (s.extract 0 x ++ t).size ≤ 2000000 := by rw [ByteArray.size_append]; omega
    go_quiet (fail)
    go_wp2
    go_ret2
    rw [apv_yes HF.out, ← ap_def]
    exact ⟨rfl, ⟨hbl.os, hbl.tape, hbl.output, Nat.le_trans b1.size hbl.size, fun k hk => (hbl.block k (by simp; omega)).trans (b1.block k hk)⟩⟩
  · have HF := hid hf
    clear hf
    go_enter Try.func27, Try.ntmps27
    go_wp2_with (go_at_call 29; refine (ends_no _ _ _ _ _ s0 s1 ha HF.out).mono ?_; rintro e w1 ⟨rfl, hbl⟩)
    go_ret2
    rw [apv_no HF.out]
    exact ⟨rfl, b1.trans (hbl.mono (by simp))⟩
set_option maxRecDepth 100000 in
set_option maxHeartbeats 2000000 in
theorem rapply_any (s t : ByteArray) (a d : Int) (w : World) (hs : s.size ≤ 1000000) (ht : t.size ≤ 1000000) :
    Calls Try.prog 28 #[.string s, .agg #[.int .i64 a, .int .i64 d, .string t]] w fun e w' => e = .returned (apv s (a, d, t)) ∧ Below w.heap.size w w' := by
  have b1 : Below w.heap.size w (w.alloc (.cells #[.int .i64 a, .int .i64 d, .string t] 45)) := (Below.refl _ _).alloc (Nat.le_refl _) _
  by_cases hf : Fit s.size (a, d, t)
  · have HF := hid hf
    obtain ⟨x, y, t', he, hl⟩ := hf.nat
    simp only [Prod.mk.injEq] at he
    obtain ⟨rfl, rfl, rfl⟩ := he
    have a0 : (0 : Int) ≤ (x : Int) := by omega
    have d0 : (0 : Int) ≤ (y : Int) := by omega
    have a1 : (x : Int) ≤ (s.size : Int) := by omega
    have a2 : (x : Int) + (y : Int) ≤ (s.size : Int) := by omega
    have e4 : IntKind.i64.wrap (↑x + ↑y) = (x : Int) + (y : Int) := wrapIn (by omega) (by omega)
    clear hf
    go_enter Try.func28, Try.ntmps28
    go_wp2_with (go_at_call 30; refine (fits_yes _ _ _ _ _ hs HF.out).mono ?_; rintro e w1 ⟨rfl, hbl⟩)
    obtain ⟨c0, c1, c2⟩ := cells3 ((hbl.block _ (by simp)).trans (alloc_new w (.cells #[.int .i64 x, .int .i64 y, .string t] 45)))
    have z1 : (s.extract 0 x).size ≤ 1000000 := by rw [ByteArray.size_extract]; omega
    have z2 : (s.extract (x + y) s.size).size ≤ 1000000 := by rw [ByteArray.size_extract]; omega
    have z3 : (s.extract 0 x ++ t).size ≤ 2000000 := by rw [ByteArray.size_append]; omega
    go_quiet (fail)
    go_wp2
    go_ret2
    rw [apv_yes HF.out, ← ap_def]
    exact ⟨rfl, ⟨hbl.os, hbl.tape, hbl.output, Nat.le_trans b1.size hbl.size, fun k hk => (hbl.block k (by simp; omega)).trans (b1.block k hk)⟩⟩
  · have HF := hid hf
    clear hf
    go_enter Try.func28, Try.ntmps28
    go_wp2_with (go_at_call 30; refine (fits_no _ _ _ _ _ hs HF.out).mono ?_; rintro e w1 ⟨rfl, hbl⟩)
    go_ret2
    rw [apv_no HF.out]
    exact ⟨rfl, b1.trans (hbl.mono (by simp))⟩


set_option maxRecDepth 100000 in
set_option maxHeartbeats 2000000 in
theorem rupdate_any (s t : ByteArray) (a d : Int) (w : World) (hs : s.size ≤ 1000000) (ht : t.size ≤ 1000000) :
    Calls Try.prog 21 #[.string s, .agg #[.int .i64 a, .int .i64 d, .string t]] w fun e w' => e = .returned (apv s (a, d, t)) ∧ Below w.heap.size w w' := by
  have b1 : Below w.heap.size w (w.alloc (.cells #[.int .i64 a, .int .i64 d, .string t] 45)) := (Below.refl _ _).alloc (Nat.le_refl _) _
  go_enter Try.func21, Try.ntmps21
  go_wp2_with fail
  refine (rapply_any s t a d _ hs ht).mono ?_
  rintro e w1 ⟨rfl, b2⟩
  have hb := b1.trans (b2.mono (by simp))
  by_cases hf : Fit s.size (a, d, t)
  · have V := hid (apv_yes hf)
    rw [apv_yes hf]
    clear hf
    go_wp2
    go_ret2
    exact ⟨by rw [V.out]; rfl, hb⟩
  · have V := hid (apv_no hf)
    rw [apv_no hf]
    clear hf
    go_wp2
    go_ret2
    exact ⟨by rw [V.out]; rfl, hb⟩

/-- What Update comes to. -/
def UpdRes (s : ByteArray) (e : Ed) (w : World) (o : Ending) (w' : World) : Prop := Below w.heap.size w w' ∧
  ((Fit s.size e ∧ ∃ p n c, o = .returned (.tuple #[.agg #[.string (ap s e), .slice p n c], .int .i64 0]) ∧ Ix w' p n (ap s e) ∧ ∀ a, p = some a → w.heap.size ≤ a.block) ∨ (¬ Fit s.size e ∧ o = .returned (.tuple #[.agg #[.string .empty, .slice none 0 0], .int .i64 2])))

set_option maxRecDepth 100000 in
set_option maxHeartbeats 2000000 in
theorem update_any (s : ByteArray) (p : Option Addr) (n c : Nat) (t : ByteArray) (a d : Int) (w : World) (hs : s.size ≤ 400000) (ht : t.size ≤ 400000) (ha : a ≤ 9223372036854775807) :
    Calls Try.prog 20 #[.agg #[.string s, .slice p n c], .agg #[.int .i64 a, .int .i64 d, .string t]] w fun e w' => UpdRes s (a, d, t) w e w' := by
  obtain ⟨W, hW⟩ : ∃ W, W = ((w.alloc (.cells #[.string s, .slice p n c] 26)).alloc (.cells #[.int .i64 a, .int .i64 d, .string t] 45)).alloc (.cells #[.string { data := #[] }, .slice none 0 0] 26) := ⟨_, rfl⟩
  have bW : Below w.heap.size w W := by rw [hW]; exact (((Below.refl _ _).alloc (Nat.le_refl _) _).alloc (by simp) _).alloc (by simp; omega) _
  have hsz := hid (show W.heap.size = w.heap.size + 3 by rw [hW]; simp)
  have hD := hid (show W.heap[w.heap.size + 2]? = some (.cells #[.string { data := #[] }, .slice none 0 0] 26 (0, 0)) by rw [hW]; exact alloc_at _ _ (by simp))
  have HW := hid hW
  clear hW
  go_enter Try.func20, Try.ntmps20
  go_wp2_with fail
  rw [← HW.out]
  refine (apply_any s t a d W (by omega) (by omega) ha).mono ?_
  rintro e w1 ⟨rfl, b1⟩
  by_cases hf : Fit s.size (a, d, t)
  · rw [apv_yes hf]
    have HF := hid hf
    have hz := hid (show (ap s (a, d, t)).size ≤ s.size + t.size from ap_le hf)
    clear hf
    go_wp2_with fail
    refine (new_any (ap s (a, d, t)) w1 (by have := hz.out; omega)).mono ?_
    rintro e w2 ⟨⟨p', n', c', rfl, hI, hp⟩, b2⟩
    have x1 := ((b1.trans (b2.mono b1.size)).block (w.heap.size + 2) (by have := hsz.out; omega)).trans hD.out
    obtain ⟨k0, k1⟩ := cells2 x1
    obtain ⟨f0, f1⟩ := free2 x1
    have HP := hid (show ∀ a, p' = some a → w.heap.size ≤ a.block from fun a ha => by have := hp a ha; have := b1.size; have := hsz.out; omega)
    have HI := hid (And.intro hI (show ∀ a, p' = some a → a.block ≠ w.heap.size + 2 from fun a ha => by have := hp a ha; have := b1.size; have := hsz.out; omega))
    have hlt := heap_lt x1
    have HB := hid (bW.trans ((b1.trans (b2.mono b1.size)).mono bW.size))
    clear x1 hI hp
    go_wp2
    refine bodyPost_ret (v := .tuple #[.agg #[.string (ap s (a, d, t)), .slice p' n' c'], .int .i64 0]) ?_ rfl ⟨?_, .inl ⟨HF.out, p', n', c', rfl, ?_, HP.out⟩⟩
    · simp [results, Try.results20, go_sem, k0, k1]
    · refine Below.setCell ?_ (by first | (simp; done) | (simp; omega)) _
      refine Below.setCell ?_ (by first | (simp; done) | (simp; omega)) _
      exact HB.out
    · exact Row.set (Row.set HI.out.1 HI.out.2) HI.out.2
  · rw [apv_no hf]
    have HF := hid hf
    clear hf
    have x1 := (b1.block (w.heap.size + 2) (by have := hsz.out; omega)).trans hD.out
    obtain ⟨k0, k1⟩ := cells2 x1
    obtain ⟨f0, f1⟩ := free2 x1
    go_wp2
    refine bodyPost_ret (v := .tuple #[.agg #[.string .empty, .slice none 0 0], .int .i64 2]) ?_ rfl ⟨?_, .inr ⟨HF.out, rfl⟩⟩
    · simp [results, Try.results20, go_sem, k0, k1]
      try rfl
    · refine Below.setCell ?_ (by first | (simp; done) | (simp; omega)) _
      refine Below.setCell ?_ (by first | (simp; done) | (simp; omega)) _
      exact bW.trans (b1.mono bW.size)
theorem update_yes (s : ByteArray) (p : Option Addr) (n c : Nat) (t : ByteArray) (a d : Int) (w : World) (hs : s.size ≤ 400000) (ht : t.size ≤ 400000) (ha : a ≤ 9223372036854775807) (hf : Fit s.size (a, d, t)) :
    Calls Try.prog 20 #[.agg #[.string s, .slice p n c], .agg #[.int .i64 a, .int .i64 d, .string t]] w fun e w' => (∃ p n c, e = .returned (.tuple #[.agg #[.string (ap s (a, d, t)), .slice p n c], .int .i64 0]) ∧ Ix w' p n (ap s (a, d, t)) ∧ ∀ a, p = some a → w.heap.size ≤ a.block) ∧ Below w.heap.size w w' := by
  refine (update_any s p n c t a d w hs ht ha).mono ?_
  rintro e w' ⟨hb, ⟨_, h⟩ | ⟨h, _⟩⟩
  · exact ⟨h, hb⟩
  · exact absurd hf h
end Go.Proofs.Ytcmoehjalgppmaa
