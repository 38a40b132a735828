/-
  The reference's parser: contract: char.
-/
import Derived.Test.YtednoideboeehaaDoorZ23
section
set_option linter.unusedSimpArgs false
set_option linter.unusedVariables false
namespace Go.Proofs.YtednoideboeehaaDoor
open Go.RowKit Bs Rg Go.Frame

def spc (br : Bool) : List UInt8 := if br = true then spI else spO
theorem pln_chr : ∀ (b : Fin 256) (br : Bool), pln b br = (prn (UInt8.ofNat b) && !(spc br).contains (UInt8.ofNat b)) := by decide +kernel
theorem pln_byte (b : UInt8) (br : Bool) : pln b.toNat br = (prn b && !(spc br).contains b) := by
  have := pln_chr ⟨b.toNat, b.toNat_lt⟩ br
  simpa using this
theorem prn_nat (b : UInt8) : prn b = decide (32 ≤ b.toNat ∧ b.toNat ≤ 126) := by
  unfold prn; rw [Bool.eq_iff_iff]; simp [UInt8.le_iff_toNat_le]
/-- What reading a char comes to. -/
def CO (pb : Nat) (s : ByteArray) (r : Pr UInt8) (w : World) (e : Ending) (w' : World) : Prop :=
  Pk pb w w' ∧ match r with
    | .ok b t => e = .returned (.int .i64 (b.toNat : Int)) ∧ RS pb s w' t false
    | .bad t => e = .returned (.int .i64 0) ∧ RS pb s w' t true
theorem plain_b (b : UInt8) (br : Bool) (w : World) : Calls Tryd.prog 87 #[.int .i64 (b.toNat : Int), .bool br] w fun e w' => e = .returned (.bool (prn b && !(spc br).contains b)) ∧ Below w.heap.size w w' := by
  have h := plain_any b.toNat br w
  rw [pln_byte] at h
  exact h.mono fun e w' ⟨h1, h2⟩ => ⟨h1, h2 ▸ Below.refl _ _⟩
theorem plain_none (br : Bool) (w : World) : Calls Tryd.prog 87 #[.int .i64 (-1), .bool br] w fun e w' => e = .returned (.bool false) ∧ Below w.heap.size w w' :=
  (plain_out (-1) br w (.inl (by omega))).mono fun e w' ⟨h1, h2⟩ => ⟨h1, h2 ▸ Below.refl _ _⟩
theorem letter_b (b : UInt8) (w : World) : Calls Tryd.prog 115 #[.int .i64 (b.toNat : Int)] w fun e w' => e = .returned (.bool (letter b)) ∧ Below w.heap.size w w' :=
  (letter_any b w).mono fun e w' ⟨h1, h2⟩ => ⟨h1, h2 ▸ Below.refl _ _⟩
theorem next_b (pb : Nat) (s : ByteArray) (w : World) (b : UInt8) (t : List UInt8) (bad : Bool) (h : RS pb s w (b :: t) bad) : Calls Tryd.prog 56 #[.pointer (some ⟨pb, 0, none⟩)] w fun e w' => e = .returned (.int .i64 (b.toNat : Int)) ∧ RS pb s w' (b :: t) bad ∧ Below w.heap.size w w' :=
  (next_any pb s w (b :: t) bad h).mono fun e w' ⟨h1, h2⟩ => ⟨h1, h.below h2, h2⟩
theorem next_0 (pb : Nat) (s : ByteArray) (w : World) (bad : Bool) (h : RS pb s w [] bad) : Calls Tryd.prog 56 #[.pointer (some ⟨pb, 0, none⟩)] w fun e w' => e = .returned (.int .i64 (-1)) ∧ RS pb s w' [] bad ∧ Below w.heap.size w w' :=
  (next_any pb s w [] bad h).mono fun e w' ⟨h1, h2⟩ => ⟨h1, h.below h2, h2⟩
set_option maxRecDepth 100000 in
set_option maxHeartbeats 4000000 in
theorem char_nil (pb : Nat) (s : ByteArray) (w : World) (br : Bool) (h : RS pb s w [] false) :
    Calls Tryd.prog 110 #[.pointer (some ⟨pb, 0, none⟩), .bool br] w (CO pb s (.bad []) w) := by
  have C1 := hid (next_0 pb s w false h)
  have CP := hid (fun V => plain_none br V)
  clear h
  go_enter Tryd.func110, Tryd.ntmps110
  go_wp2_with fail
  refine C1.out.mono ?_
  rintro e W1 ⟨rfl, h1, b1⟩
  have H1 := hid (And.intro h1 (Pk.of (pb := pb) b1))
  clear h1 b1
  go_wp2_with fail
  refine (CP.out _).mono ?_
  rintro e W2 ⟨rfl, b2⟩
  have H2 := hid (And.intro (H1.out.1.below b2) (H1.out.2.trans (Pk.of b2)))
  clear b2
  obtain ⟨c0, c1, c2⟩ := H2.out.1.cells
  have f2 := Go.Frame.free H2.out.1.box 2
  go_wp2
  go_ret
  exact ⟨(H2.out.2).put, rfl, H2.out.1.fail⟩
set_option maxRecDepth 100000 in
set_option maxHeartbeats 4000000 in
theorem char_one (pb : Nat) (s : ByteArray) (w : World) (br : Bool) (b : UInt8) (t : List UInt8) (hb : b ≠ 92) (h : RS pb s w (b :: t) false) :
    Calls Tryd.prog 110 #[.pointer (some ⟨pb, 0, none⟩), .bool br] w (CO pb s (if (prn b && !(spc br).contains b) = true then .ok b t else .bad (b :: t)) w) := by
  have C1 := hid (next_b pb s w b t false h)
  have CP := hid (fun V => plain_b b br V)
  have g1 : ((b.toNat : Int) == 92) = false := by
    rw [← Bool.not_eq_true]
    intro h
    have : b.toNat = 92 := by simp at h; omega
    exact hb (UInt8.toNat_inj.1 (by rw [this]; rfl))
  obtain ⟨q, hq⟩ : ∃ q, q = (prn b && !(spc br).contains b) := ⟨_, rfl⟩
  rw [← hq] at CP ⊢
  have hnx := h.next
  have hpk : ((s.size - (b :: t).length : Nat) : Int) ≤ 1000000 := by have := h.sz; omega
  obtain ⟨n, hn⟩ : ∃ n : Int, n = (b.toNat : Int) := ⟨_, rfl⟩
  clear hq hb h
  cases q
  · go_enter Tryd.func110, Tryd.ntmps110
    go_wp2_with fail
    refine C1.out.mono ?_
    rintro e W1 ⟨rfl, h1, b1⟩
    have H1 := hid (And.intro h1 (Pk.of (pb := pb) b1))
    clear h1 b1
    go_wp2_with fail
    refine (CP.out _).mono ?_
    rintro e W2 ⟨rfl, b2⟩
    have H2 := hid (And.intro (H1.out.1.below b2) (H1.out.2.trans (Pk.of b2)))
    clear b2
    obtain ⟨c0, c1, c2⟩ := H2.out.1.cells
    have f2 := Go.Frame.free H2.out.1.box 2
    go_wp2
    go_ret
    exact ⟨(H2.out.2).put, rfl, H2.out.1.fail⟩
  · go_enter Tryd.func110, Tryd.ntmps110
    go_wp2_with fail
    refine C1.out.mono ?_
    rintro e W1 ⟨rfl, h1, b1⟩
    have H1 := hid (And.intro h1 (Pk.of (pb := pb) b1))
    clear h1 b1
    go_wp2_with fail
    refine (CP.out _).mono ?_
    rintro e W2 ⟨rfl, b2⟩
    have H2 := hid (And.intro (H1.out.1.below b2) (H1.out.2.trans (Pk.of b2)))
    clear b2
    obtain ⟨c0, c1, c2⟩ := H2.out.1.cells
    obtain ⟨p, hp⟩ : ∃ p, p = s.size - (b :: t).length := ⟨_, rfl⟩
    obtain ⟨p', hp'⟩ : ∃ p', p' = s.size - t.length := ⟨_, rfl⟩
    rw [← hp] at c1 hnx hpk
    rw [← hp'] at hnx
    have HP := hid hp'
    clear hp hp'
    have f1 := Go.Frame.free H2.out.1.box 1
    go_wp2
    go_ret
    refine ⟨(H2.out.2).put, rfl, ?_⟩
    rw [HP.out]
    exact H2.out.1.step
set_option maxRecDepth 100000 in
set_option maxHeartbeats 4000000 in
theorem char_end (pb : Nat) (s : ByteArray) (w : World) (br : Bool) (h : RS pb s w [92] false) :
    Calls Tryd.prog 110 #[.pointer (some ⟨pb, 0, none⟩), .bool br] w (CO pb s (.bad []) w) := by
  have C1 := hid (next_b pb s w 92 [] false h)
  have hnx := h.next
  have hpk : ((s.size - ((92 : UInt8) :: []).length : Nat) : Int) ≤ 1000000 := by have := h.sz; omega
  obtain ⟨p, hp⟩ : ∃ p, p = s.size - ((92 : UInt8) :: []).length := ⟨_, rfl⟩
  obtain ⟨p', hp'⟩ : ∃ p', p' = s.size - [].length := ⟨_, rfl⟩
  have HPP := hid (And.intro hp hp')
  rw [← hp] at hnx hpk
  rw [← hp'] at hnx
  have CN := hid (fun V (h : RS pb s V [] false) => next_0 pb s V false h)
  clear h hp hp'
  go_enter Tryd.func110, Tryd.ntmps110
  go_wp2_with fail
  refine C1.out.mono ?_
  rintro e W1 ⟨rfl, h1, b1⟩
  have H1 := hid (And.intro h1 (Pk.of (pb := pb) b1))
  clear h1 b1
  obtain ⟨c0, c1, c2⟩ := H1.out.1.cells
  rw [← HPP.out.1] at c1
  have f1 := Go.Frame.free H1.out.1.box 1
  go_upto_region 4 with fail
  obtain ⟨V, hV⟩ : ∃ V, V = W1.setCell ⟨pb, 1, none⟩ (.int .i64 (p' : Int)) := ⟨_, rfl⟩
  have H2 := hid (show RS pb s V [] false ∧ Pk pb w V from by
    rw [hV, HPP.out.2]
    exact ⟨H1.out.1.step, H1.out.2.put⟩)
  rw [← hV]
  clear hV c0 c1 c2 f1
  go_wp2_with fail
  refine (CN.out _ H2.out.1).mono ?_
  rintro e W3 ⟨rfl, h3, b3⟩
  have H3 := hid (And.intro h3 (H2.out.2.trans (Pk.of (pb := pb) b3)))
  clear h3 b3
  obtain ⟨c0, c1, c2⟩ := H3.out.1.cells
  have f2 := Go.Frame.free H3.out.1.box 2
  go_wp2
  go_ret
  exact ⟨(H3.out.2).put, rfl, H3.out.1.fail⟩
set_option maxRecDepth 100000 in
set_option maxHeartbeats 4000000 in
theorem char_n (pb : Nat) (s : ByteArray) (w : World) (br : Bool) (t : List UInt8) (h : RS pb s w (92 :: 110 :: t) false) :
    Calls Tryd.prog 110 #[.pointer (some ⟨pb, 0, none⟩), .bool br] w (CO pb s (.ok 10 t) w) := by
  have C1 := hid (next_b pb s w 92 (110 :: t) false h)
  have hnx := h.next
  have hpk : ((s.size - ((92 : UInt8) :: (110 :: t)).length : Nat) : Int) ≤ 1000000 := by have := h.sz; omega
  obtain ⟨p, hp⟩ : ∃ p, p = s.size - ((92 : UInt8) :: (110 :: t)).length := ⟨_, rfl⟩
  obtain ⟨p', hp'⟩ : ∃ p', p' = s.size - (110 :: t).length := ⟨_, rfl⟩
  have HPP := hid (And.intro hp hp')
  rw [← hp] at hnx hpk
  rw [← hp'] at hnx
  have CN := hid (fun V (h : RS pb s V (110 :: t) false) => next_b pb s V 110 t false h)
  have hny : (p' : Int) + 1 = ((s.size - t.length : Nat) : Int) := by
    have h1 := h.le
    rw [hp']; simp only [List.length_cons] at h1 ⊢; omega
  have hpk' : (p' : Int) ≤ 1000000 := by have := h.sz; rw [hp']; omega
  clear h hp hp'
  go_enter Tryd.func110, Tryd.ntmps110
  go_wp2_with fail
  refine C1.out.mono ?_
  rintro e W1 ⟨rfl, h1, b1⟩
  have H1 := hid (And.intro h1 (Pk.of (pb := pb) b1))
  clear h1 b1
  obtain ⟨c0, c1, c2⟩ := H1.out.1.cells
  rw [← HPP.out.1] at c1
  have f1 := Go.Frame.free H1.out.1.box 1
  go_upto_region 4 with fail
  obtain ⟨V, hV⟩ : ∃ V, V = W1.setCell ⟨pb, 1, none⟩ (.int .i64 (p' : Int)) := ⟨_, rfl⟩
  have H2 := hid (show RS pb s V (110 :: t) false ∧ Pk pb w V from by
    rw [hV, HPP.out.2]
    exact ⟨H1.out.1.step, H1.out.2.put⟩)
  rw [← hV]
  clear hV c0 c1 c2 f1
  go_wp2_with fail
  refine (CN.out _ H2.out.1).mono ?_
  rintro e W3 ⟨rfl, h3, b3⟩
  have H3 := hid (And.intro h3 (H2.out.2.trans (Pk.of (pb := pb) b3)))
  clear h3 b3
  obtain ⟨c0, c1, c2⟩ := H3.out.1.cells
  rw [← HPP.out.2] at c1
  have f1 := Go.Frame.free H3.out.1.box 1
  go_wp2
  go_ret
  exact ⟨(H3.out.2).put, rfl, H3.out.1.step⟩
set_option maxRecDepth 100000 in
set_option maxHeartbeats 4000000 in
theorem char_t (pb : Nat) (s : ByteArray) (w : World) (br : Bool) (t : List UInt8) (h : RS pb s w (92 :: 116 :: t) false) :
    Calls Tryd.prog 110 #[.pointer (some ⟨pb, 0, none⟩), .bool br] w (CO pb s (.ok 9 t) w) := by
  have C1 := hid (next_b pb s w 92 (116 :: t) false h)
  have hnx := h.next
  have hpk : ((s.size - ((92 : UInt8) :: (116 :: t)).length : Nat) : Int) ≤ 1000000 := by have := h.sz; omega
  obtain ⟨p, hp⟩ : ∃ p, p = s.size - ((92 : UInt8) :: (116 :: t)).length := ⟨_, rfl⟩
  obtain ⟨p', hp'⟩ : ∃ p', p' = s.size - (116 :: t).length := ⟨_, rfl⟩
  have HPP := hid (And.intro hp hp')
  rw [← hp] at hnx hpk
  rw [← hp'] at hnx
  have CN := hid (fun V (h : RS pb s V (116 :: t) false) => next_b pb s V 116 t false h)
  have hny : (p' : Int) + 1 = ((s.size - t.length : Nat) : Int) := by
    have h1 := h.le
    rw [hp']; simp only [List.length_cons] at h1 ⊢; omega
  have hpk' : (p' : Int) ≤ 1000000 := by have := h.sz; rw [hp']; omega
  clear h hp hp'
  go_enter Tryd.func110, Tryd.ntmps110
  go_wp2_with fail
  refine C1.out.mono ?_
  rintro e W1 ⟨rfl, h1, b1⟩
  have H1 := hid (And.intro h1 (Pk.of (pb := pb) b1))
  clear h1 b1
  obtain ⟨c0, c1, c2⟩ := H1.out.1.cells
  rw [← HPP.out.1] at c1
  have f1 := Go.Frame.free H1.out.1.box 1
  go_upto_region 4 with fail
  obtain ⟨V, hV⟩ : ∃ V, V = W1.setCell ⟨pb, 1, none⟩ (.int .i64 (p' : Int)) := ⟨_, rfl⟩
  have H2 := hid (show RS pb s V (116 :: t) false ∧ Pk pb w V from by
    rw [hV, HPP.out.2]
    exact ⟨H1.out.1.step, H1.out.2.put⟩)
  rw [← hV]
  clear hV c0 c1 c2 f1
  go_wp2_with fail
  refine (CN.out _ H2.out.1).mono ?_
  rintro e W3 ⟨rfl, h3, b3⟩
  have H3 := hid (And.intro h3 (H2.out.2.trans (Pk.of (pb := pb) b3)))
  clear h3 b3
  obtain ⟨c0, c1, c2⟩ := H3.out.1.cells
  rw [← HPP.out.2] at c1
  have f1 := Go.Frame.free H3.out.1.box 1
  go_wp2
  go_ret
  exact ⟨(H3.out.2).put, rfl, H3.out.1.step⟩
set_option maxRecDepth 100000 in
set_option maxHeartbeats 4000000 in
theorem char_esc (pb : Nat) (s : ByteArray) (w : World) (br : Bool) (b : UInt8) (t : List UInt8) (h1 : b ≠ 110) (h2 : b ≠ 116) (h : RS pb s w (92 :: b :: t) false) :
    Calls Tryd.prog 110 #[.pointer (some ⟨pb, 0, none⟩), .bool br] w (CO pb s (if (prn b && !letter b) = true then .ok b t else .bad (b :: t)) w) := by
  have C1 := hid (next_b pb s w 92 (b :: t) false h)
  have hnx := h.next
  have hpk : ((s.size - ((92 : UInt8) :: (b :: t)).length : Nat) : Int) ≤ 1000000 := by have := h.sz; omega
  obtain ⟨p, hp⟩ : ∃ p, p = s.size - ((92 : UInt8) :: (b :: t)).length := ⟨_, rfl⟩
  obtain ⟨p', hp'⟩ : ∃ p', p' = s.size - (b :: t).length := ⟨_, rfl⟩
  have HPP := hid (And.intro hp hp')
  rw [← hp] at hnx hpk
  rw [← hp'] at hnx
  have CN := hid (fun V (h : RS pb s V (b :: t) false) => next_b pb s V b t false h)
  have CL := hid (fun V => letter_b b V)
  have hny : (p' : Int) + 1 = ((s.size - t.length : Nat) : Int) := by
    have h1 := h.le
    rw [hp']; simp only [List.length_cons] at h1 ⊢; omega
  have hpk' : (p' : Int) ≤ 1000000 := by have := h.sz; rw [hp']; omega
  have g1 : ((b.toNat : Int) == 110) = false := by
    rw [← Bool.not_eq_true]; intro h
    have : b.toNat = 110 := by simp at h; omega
    exact h1 (UInt8.toNat_inj.1 (by rw [this]; rfl))
  have g2 : ((b.toNat : Int) == 116) = false := by
    rw [← Bool.not_eq_true]; intro h
    have : b.toNat = 116 := by simp at h; omega
    exact h2 (UInt8.toNat_inj.1 (by rw [this]; rfl))
  have hcase : ((b.toNat : Int) < 32 ∧ prn b = false) ∨ (32 ≤ (b.toNat : Int) ∧ 126 < (b.toNat : Int) ∧ prn b = false) ∨ (32 ≤ (b.toNat : Int) ∧ (b.toNat : Int) ≤ 126 ∧ prn b = true) := by
    rw [prn_nat]; simp; omega
  obtain ⟨m, hm⟩ : ∃ m, m = letter b := ⟨_, rfl⟩
  rw [← hm] at CL ⊢
  clear h hp hp' h1 h2 hm
  rcases hcase with ⟨k1, k2⟩ | ⟨k1, k3, k2⟩ | ⟨k1, k3, k2⟩
  · rw [k2]
    clear k2
    have k1' : ¬ (32 : Int) ≤ (b.toNat : Int) := by omega
    go_enter Tryd.func110, Tryd.ntmps110
    go_wp2_with fail
    refine C1.out.mono ?_
    rintro e W1 ⟨rfl, h1, b1⟩
    have H1 := hid (And.intro h1 (Pk.of (pb := pb) b1))
    clear h1 b1
    obtain ⟨c0, c1, c2⟩ := H1.out.1.cells
    rw [← HPP.out.1] at c1
    have f1 := Go.Frame.free H1.out.1.box 1
    go_upto_region 4 with fail
    obtain ⟨V, hV⟩ : ∃ V, V = W1.setCell ⟨pb, 1, none⟩ (.int .i64 (p' : Int)) := ⟨_, rfl⟩
    have H2 := hid (show RS pb s V (b :: t) false ∧ Pk pb w V from by
      rw [hV, HPP.out.2]
      exact ⟨H1.out.1.step, H1.out.2.put⟩)
    rw [← hV]
    clear hV c0 c1 c2 f1
    go_wp2_with fail
    refine (CN.out _ H2.out.1).mono ?_
    rintro e W3 ⟨rfl, h3, b3⟩
    have H3 := hid (And.intro h3 (H2.out.2.trans (Pk.of (pb := pb) b3)))
    clear h3 b3
    obtain ⟨c0, c1, c2⟩ := H3.out.1.cells
    have f2 := Go.Frame.free H3.out.1.box 2
    go_wp2
    go_ret
    exact ⟨(H3.out.2).put, rfl, H3.out.1.fail⟩
  · rw [k2]
    clear k2
    have k3' : ¬ (b.toNat : Int) ≤ 126 := by omega
    go_enter Tryd.func110, Tryd.ntmps110
    go_wp2_with fail
    refine C1.out.mono ?_
    rintro e W1 ⟨rfl, h1, b1⟩
    have H1 := hid (And.intro h1 (Pk.of (pb := pb) b1))
    clear h1 b1
    obtain ⟨c0, c1, c2⟩ := H1.out.1.cells
    rw [← HPP.out.1] at c1
    have f1 := Go.Frame.free H1.out.1.box 1
    go_upto_region 4 with fail
    obtain ⟨V, hV⟩ : ∃ V, V = W1.setCell ⟨pb, 1, none⟩ (.int .i64 (p' : Int)) := ⟨_, rfl⟩
    have H2 := hid (show RS pb s V (b :: t) false ∧ Pk pb w V from by
      rw [hV, HPP.out.2]
      exact ⟨H1.out.1.step, H1.out.2.put⟩)
    rw [← hV]
    clear hV c0 c1 c2 f1
    go_wp2_with fail
    refine (CN.out _ H2.out.1).mono ?_
    rintro e W3 ⟨rfl, h3, b3⟩
    have H3 := hid (And.intro h3 (H2.out.2.trans (Pk.of (pb := pb) b3)))
    clear h3 b3
    obtain ⟨c0, c1, c2⟩ := H3.out.1.cells
    have f2 := Go.Frame.free H3.out.1.box 2
    go_wp2
    go_ret
    exact ⟨(H3.out.2).put, rfl, H3.out.1.fail⟩
  · rw [k2]
    clear k2
    cases m
    · skip
      go_enter Tryd.func110, Tryd.ntmps110
      go_wp2_with fail
      refine C1.out.mono ?_
      rintro e W1 ⟨rfl, h1, b1⟩
      have H1 := hid (And.intro h1 (Pk.of (pb := pb) b1))
      clear h1 b1
      obtain ⟨c0, c1, c2⟩ := H1.out.1.cells
      rw [← HPP.out.1] at c1
      have f1 := Go.Frame.free H1.out.1.box 1
      go_upto_region 4 with fail
      obtain ⟨V, hV⟩ : ∃ V, V = W1.setCell ⟨pb, 1, none⟩ (.int .i64 (p' : Int)) := ⟨_, rfl⟩
      have H2 := hid (show RS pb s V (b :: t) false ∧ Pk pb w V from by
        rw [hV, HPP.out.2]
        exact ⟨H1.out.1.step, H1.out.2.put⟩)
      rw [← hV]
      clear hV c0 c1 c2 f1
      go_wp2_with fail
      refine (CN.out _ H2.out.1).mono ?_
      rintro e W3 ⟨rfl, h3, b3⟩
      have H3 := hid (And.intro h3 (H2.out.2.trans (Pk.of (pb := pb) b3)))
      clear h3 b3
      go_wp2_with fail
      refine (CL.out _).mono ?_
      rintro e W4 ⟨rfl, b3⟩
      have H4 := hid (And.intro (H3.out.1.below b3) (H3.out.2.trans (Pk.of (pb := pb) b3)))
      clear b3
      obtain ⟨c0, c1, c2⟩ := H4.out.1.cells
      rw [← HPP.out.2] at c1
      have f1 := Go.Frame.free H4.out.1.box 1
      go_wp2
      go_ret
      exact ⟨(H4.out.2).put, rfl, H4.out.1.step⟩
    · skip
      go_enter Tryd.func110, Tryd.ntmps110
      go_wp2_with fail
      refine C1.out.mono ?_
      rintro e W1 ⟨rfl, h1, b1⟩
      have H1 := hid (And.intro h1 (Pk.of (pb := pb) b1))
      clear h1 b1
      obtain ⟨c0, c1, c2⟩ := H1.out.1.cells
      rw [← HPP.out.1] at c1
      have f1 := Go.Frame.free H1.out.1.box 1
      go_upto_region 4 with fail
      obtain ⟨V, hV⟩ : ∃ V, V = W1.setCell ⟨pb, 1, none⟩ (.int .i64 (p' : Int)) := ⟨_, rfl⟩
      have H2 := hid (show RS pb s V (b :: t) false ∧ Pk pb w V from by
        rw [hV, HPP.out.2]
        exact ⟨H1.out.1.step, H1.out.2.put⟩)
      rw [← hV]
      clear hV c0 c1 c2 f1
      go_wp2_with fail
      refine (CN.out _ H2.out.1).mono ?_
      rintro e W3 ⟨rfl, h3, b3⟩
      have H3 := hid (And.intro h3 (H2.out.2.trans (Pk.of (pb := pb) b3)))
      clear h3 b3
      go_wp2_with fail
      refine (CL.out _).mono ?_
      rintro e W4 ⟨rfl, b3⟩
      have H4 := hid (And.intro (H3.out.1.below b3) (H3.out.2.trans (Pk.of (pb := pb) b3)))
      clear b3
      obtain ⟨c0, c1, c2⟩ := H4.out.1.cells
      have f2 := Go.Frame.free H4.out.1.box 2
      go_wp2
      go_ret
      exact ⟨(H4.out.2).put, rfl, H4.out.1.fail⟩
theorem char_any (pb : Nat) (s : ByteArray) (w : World) (br : Bool) (l : List UInt8) (h : RS pb s w l false) :
    Calls Tryd.prog 110 #[.pointer (some ⟨pb, 0, none⟩), .bool br] w (CO pb s (chr (spc br) l) w) := by
  match l, h with
  | [], h => exact char_nil pb s w br h
  | b :: t, h =>
    by_cases hb : b = 92
    · subst hb
      rw [chr, if_pos rfl]
      match t, h with
      | [], h => exact char_end pb s w br h
      | b :: t, h =>
        rw [escd]
        by_cases h1 : b = 110
        · subst h1; exact char_n pb s w br t h
        by_cases h2 : b = 116
        · subst h2; exact char_t pb s w br t h
        rw [if_neg h1, if_neg h2]
        have := char_esc pb s w br b t h1 h2 h
        cases hp : prn b <;> cases hl : letter b <;> rw [hp, hl] at this <;> simpa using this
    · rw [chr, if_neg hb]
      have := char_one pb s w br b t hb h
      cases hp : prn b <;> cases hl : (spc br).contains b <;> rw [hp, hl] at this <;> simpa using this
end Go.Proofs.YtednoideboeehaaDoor
end
