/-
  Contract: awake.
-/
import Derived.Test.YtnjlnldbfejjpaaDoorL
set_option linter.unusedSimpArgs false
set_option linter.unusedVariables false
namespace Go.Proofs.YtnjlnldbfejjpaaDoor
open Go.RowKit Bs Go.Frame

def sab : ByteArray := { data := #[97, 98] }
def sbc : ByteArray := { data := #[98, 99] }
def ex : List (Nat → Bool) := [ofp sab 2, ofp sbc 2]
theorem ex_zero : ∀ a, a < 97 → Em ex 0 a = true := by decide +kernel
theorem ex_97 : ∀ a, a < 97 → Em ex a 97 = false := by decide +kernel
theorem ex_98 : ∀ a, a < 98 → Em ex a 98 = false := by decide +kernel
theorem ex_99 : ∀ a, a < 99 → Em ex a 99 = false := by decide +kernel
theorem ex_100 : Em ex 0 100 = true := by decide +kernel
theorem fs_old {E : Nat → Nat → Bool} {a b : Nat} (hab : a < b) (h : E a b = true) : fs E b ≠ b := fun e => by
  have := fs_least (E := E) (a := a) (b := b) (by omega)
  rw [h] at this; cases this
theorem cf_flat {E : Nat → Nat → Bool} {m : Nat} : ∀ {n : Nat}, m ≤ n → (∀ a, m ≤ a → a < n → fs E a ≠ a) → cf E n = cf E m
  | 0, h, _ => by rw [show m = 0 by omega]
  | n + 1, h, k => by
    by_cases e : m = n + 1
    · rw [e]
    · rw [cf_step_old (k n (by omega) (by omega)), cf_flat (n := n) (by omega) fun a h1 h2 => k a h1 (by omega)]
theorem ex_nums : num (Em ex) 0 = 0 ∧ num (Em ex) 97 = 1 ∧ num (Em ex) 98 = 2 ∧ num (Em ex) 99 = 3 ∧ num (Em ex) 100 = 0 := by
  have z : num (Em ex) 0 = 0 := by have := num_le (Em ex) 0; omega
  have c1 : cf (Em ex) 1 = 1 := by
    rw [cf_step_new (fs_none (E := ex) (b := 0) (fun x h => by omega)).1, cf]
  have c97 : cf (Em ex) 97 = 1 := by
    rw [cf_flat (m := 1) (by omega) fun a h1 h2 => fs_old (a := 0) (by omega) (ex_zero a h2), c1]
  have c98 : cf (Em ex) 98 = 2 := by rw [cf_step_new (fs_none ex_97).1, c97]
  have c99 : cf (Em ex) 99 = 3 := by rw [cf_step_new (fs_none ex_98).1, c98]
  refine ⟨z, by rw [(fs_none ex_97).2, c97], by rw [(fs_none ex_98).2, c98], by rw [(fs_none ex_99).2, c99], ?_⟩
  rw [← num_of (Em_eqv ex) ex_100, z]
theorem ex_len : cnt (rgp 97 100) 256 = 3 := by decide +kernel
theorem ex_len0 : cnt (rgp 99 98) 256 = 0 := by decide +kernel
set_option maxRecDepth 100000 in
set_option maxHeartbeats 4000000 in
theorem awake_any (w : World) (hT : Tb w) : Calls Tryd.prog 9 #[] w fun e w' => e = .returned (.bool true) ∧ Below w.heap.size w w' := by
  have C1 := hid (fun V => show Calls Tryd.prog 11 #[.int .u8 97, .int .u8 99] V fun e w'' => e = .returned (.agg #[.int .u64 (wd (rgp 97 100) 0 : Int), .int .u64 (wd (rgp 97 100) 1 : Int), .int .u64 (wd (rgp 97 100) 2 : Int), .int .u64 (wd (rgp 97 100) 3 : Int)]) ∧ Below V.heap.size V w'' from Range_any 97 99 V (by decide) (by decide))
  have C2 := hid (fun V => show Calls Tryd.prog 10 #[.string { data := #[97, 98] }] V fun e w'' => e = .returned (.agg #[.int .u64 (wd (ofp sab 2) 0 : Int), .int .u64 (wd (ofp sab 2) 1 : Int), .int .u64 (wd (ofp sab 2) 2 : Int), .int .u64 (wd (ofp sab 2) 3 : Int)]) ∧ Below V.heap.size V w'' from Of_any sab V (by decide))
  have C3 := hid (fun V => show Calls Tryd.prog 10 #[.string { data := #[98, 99] }] V fun e w'' => e = .returned (.agg #[.int .u64 (wd (ofp sbc 2) 0 : Int), .int .u64 (wd (ofp sbc 2) 1 : Int), .int .u64 (wd (ofp sbc 2) 2 : Int), .int .u64 (wd (ofp sbc 2) 3 : Int)]) ∧ Below V.heap.size V w'' from Of_any sbc V (by decide))
  have C5 := hid (fun V => show Calls Tryd.prog 22 #[.agg #[.int .u64 (wd (rgp 97 100) 0 : Int), .int .u64 (wd (rgp 97 100) 1 : Int), .int .u64 (wd (rgp 97 100) 2 : Int), .int .u64 (wd (rgp 97 100) 3 : Int)]] V fun e w'' => e = .returned (.int .i64 3) ∧ Below V.heap.size V w'' from by have := Len_any (rgp 97 100) V; rw [ex_len] at this; exact this)
  have C6 := hid (fun V => show Calls Tryd.prog 14 #[.agg #[.int .u64 (wd (rgp 97 100) 0 : Int), .int .u64 (wd (rgp 97 100) 1 : Int), .int .u64 (wd (rgp 97 100) 2 : Int), .int .u64 (wd (rgp 97 100) 3 : Int)], .int .u8 98] V fun e w'' => e = .returned (.bool true) ∧ Below V.heap.size V w'' from Has_any (rgp 97 100) 98 V (by decide))
  have C7 := hid (fun V => show Calls Tryd.prog 14 #[.agg #[.int .u64 (wd (rgp 97 100) 0 : Int), .int .u64 (wd (rgp 97 100) 1 : Int), .int .u64 (wd (rgp 97 100) 2 : Int), .int .u64 (wd (rgp 97 100) 3 : Int)], .int .u8 100] V fun e w'' => e = .returned (.bool false) ∧ Below V.heap.size V w'' from Has_any (rgp 97 100) 100 V (by decide))
  have C8 := hid (fun V => show Calls Tryd.prog 11 #[.int .u8 99, .int .u8 97] V fun e w'' => e = .returned (.agg #[.int .u64 (wd (rgp 99 98) 0 : Int), .int .u64 (wd (rgp 99 98) 1 : Int), .int .u64 (wd (rgp 99 98) 2 : Int), .int .u64 (wd (rgp 99 98) 3 : Int)]) ∧ Below V.heap.size V w'' from Range_any 99 97 V (by decide) (by decide))
  have C9 := hid (fun V => show Calls Tryd.prog 22 #[.agg #[.int .u64 (wd (rgp 99 98) 0 : Int), .int .u64 (wd (rgp 99 98) 1 : Int), .int .u64 (wd (rgp 99 98) 2 : Int), .int .u64 (wd (rgp 99 98) 3 : Int)]] V fun e w'' => e = .returned (.int .i64 0) ∧ Below V.heap.size V w'' from by have := Len_any (rgp 99 98) V; rw [ex_len0] at this; exact this)
  have HT := hid hT
  clear hT
  go_enter Tryd.func9, Tryd.ntmps9
  go_wp2_with fail
  refine (C1.out _).mono ?_
  rintro e w1 ⟨rfl, b1⟩
  have B1 := hid b1
  clear b1
  go_wp2_with fail
  obtain ⟨W, hW⟩ : ∃ W, W = w1.alloc (.cells #[.int .u64 (wd (rgp 97 100) 0 : Int), .int .u64 (wd (rgp 97 100) 1 : Int), .int .u64 (wd (rgp 97 100) 2 : Int), .int .u64 (wd (rgp 97 100) 3 : Int)] 25) := ⟨_, rfl⟩
  have X := hid (show SB W w1.heap.size (rgp 97 100) ∧ Below w.heap.size w W from by rw [hW]; exact ⟨alloc_new _ _, below_made B1.out B1.out.size⟩)
  rw [← hW]
  clear hW
  refine (C2.out _).mono ?_
  rintro e w2 ⟨rfl, b2⟩
  have B2 := hid b2
  clear b2
  go_wp2_with fail
  refine (C3.out _).mono ?_
  rintro e w3 ⟨rfl, b3⟩
  have B3 := hid b3
  clear b3
  go_wp2_with fail
  obtain ⟨V, hV⟩ : ∃ V, V = w3.alloc (.cells #[.int .u64 (wd (ofp sab 2) 0 : Int), .int .u64 (wd (ofp sab 2) 1 : Int), .int .u64 (wd (ofp sab 2) 2 : Int), .int .u64 (wd (ofp sab 2) 3 : Int), .int .u64 (wd (ofp sbc 2) 0 : Int), .int .u64 (wd (ofp sbc 2) 1 : Int), .int .u64 (wd (ofp sbc 2) 2 : Int), .int .u64 (wd (ofp sbc 2) 3 : Int)] 25) := ⟨_, rfl⟩
  have X3 := hid (show Sets V (some ⟨w3.heap.size, 0, none⟩) 2 ex ∧ Below W.heap.size W V from by
    rw [hV]
    refine ⟨⟨rfl, .inr ⟨_, 0, rfl, by simp, ?_⟩⟩, below_made (B2.out.trans (B3.out.mono B2.out.size)) (Nat.le_trans B2.out.size B3.out.size)⟩
    intro i cs hi j v hj
    have hb : (w3.alloc (.cells #[.int .u64 (wd (ofp sab 2) 0 : Int), .int .u64 (wd (ofp sab 2) 1 : Int), .int .u64 (wd (ofp sab 2) 2 : Int), .int .u64 (wd (ofp sab 2) 3 : Int), .int .u64 (wd (ofp sbc 2) 0 : Int), .int .u64 (wd (ofp sbc 2) 1 : Int), .int .u64 (wd (ofp sbc 2) 2 : Int), .int .u64 (wd (ofp sbc 2) 3 : Int)] 25)).heap[w3.heap.size]? = some (.cells #[.int .u64 (wd (ofp sab 2) 0 : Int), .int .u64 (wd (ofp sab 2) 1 : Int), .int .u64 (wd (ofp sab 2) 2 : Int), .int .u64 (wd (ofp sab 2) 3 : Int), .int .u64 (wd (ofp sbc 2) 0 : Int), .int .u64 (wd (ofp sbc 2) 1 : Int), .int .u64 (wd (ofp sbc 2) 2 : Int), .int .u64 (wd (ofp sbc 2) 3 : Int)] 25 (0, 0)) := alloc_new _ _
    have hc : ∀ k, (w3.alloc (.cells #[.int .u64 (wd (ofp sab 2) 0 : Int), .int .u64 (wd (ofp sab 2) 1 : Int), .int .u64 (wd (ofp sab 2) 2 : Int), .int .u64 (wd (ofp sab 2) 3 : Int), .int .u64 (wd (ofp sbc 2) 0 : Int), .int .u64 (wd (ofp sbc 2) 1 : Int), .int .u64 (wd (ofp sbc 2) 2 : Int), .int .u64 (wd (ofp sbc 2) 3 : Int)] 25)).cell? ⟨w3.heap.size, k, none⟩ = (#[.int .u64 (wd (ofp sab 2) 0 : Int), .int .u64 (wd (ofp sab 2) 1 : Int), .int .u64 (wd (ofp sab 2) 2 : Int), .int .u64 (wd (ofp sab 2) 3 : Int), .int .u64 (wd (ofp sbc 2) 0 : Int), .int .u64 (wd (ofp sbc 2) 1 : Int), .int .u64 (wd (ofp sbc 2) 2 : Int), .int .u64 (wd (ofp sbc 2) 3 : Int)] : Array Value)[k]? := fun k => by simp only [World.cell?, hb]; rfl
    match i, hi with
    | 0, hi =>
      simp [ex, sl] at hi; subst hi
      match j, hj with
      | 0, hj => simp at hj; subst hj; exact hc 0
      | 1, hj => simp at hj; subst hj; exact hc 1
      | 2, hj => simp at hj; subst hj; exact hc 2
      | 3, hj => simp at hj; subst hj; exact hc 3
      | j + 4, hj => simp at hj
    | 1, hi =>
      simp [ex, sl] at hi; subst hi
      match j, hj with
      | 0, hj => simp at hj; subst hj; exact hc 4
      | 1, hj => simp at hj; subst hj; exact hc 5
      | 2, hj => simp at hj; subst hj; exact hc 6
      | 3, hj => simp at hj; subst hj; exact hc 7
      | j + 4, hj => simp at hj
    | i + 2, hi => simp [ex] at hi)
  rw [← hV]
  clear hV
  have bV := X.out.2.trans (X3.out.2.mono X.out.2.size)
  refine (Classes_any (some ⟨w3.heap.size, 0, none⟩) 2 2 ex V (by decide) X3.out.1 (HT.out.below bV)).mono ?_
  rintro e w5 ⟨⟨g, rfl, hg, hgl⟩, b5⟩
  obtain ⟨n0, n1, n2, n3, n4⟩ := ex_nums
  have bV5 := bV.trans (b5.mono bV.size)
  have hr : SB w5 w1.heap.size (rgp 97 100) := ((b5.block _ (Nat.lt_of_lt_of_le (heap_lt X.out.1) X3.out.2.size)).trans ((X3.out.2.block _ (heap_lt X.out.1)).trans X.out.1))
  have KR := hid (fun Z (hZ : Below w5.heap.size w5 Z) => cells4 ((hZ.block _ (heap_lt hr)).trans hr))
  have KC := hid (fun Z (hZ : Below w5.heap.size w5 Z) => show Z.cell? ⟨g, 0, none⟩ = some (.int .i64 0) ∧ Z.cell? ⟨g, 97, none⟩ = some (.int .i64 1) ∧ Z.cell? ⟨g, 98, none⟩ = some (.int .i64 2) ∧ Z.cell? ⟨g, 99, none⟩ = some (.int .i64 3) ∧ Z.cell? ⟨g, 100, none⟩ = some (.int .i64 0) from by
    have hz := (hZ.block _ (heap_lt hg)).trans hg
    refine ⟨?_, ?_, ?_, ?_, ?_⟩
    · rw [ic_cell hz (by decide), n0]; rfl
    · rw [ic_cell hz (by decide), n1]; rfl
    · rw [ic_cell hz (by decide), n2]; rfl
    · rw [ic_cell hz (by decide), n3]; rfl
    · rw [ic_cell hz (by decide), n4]; rfl)
  have BB := hid bV5
  clear n0 n1 n2 n3 n4 hr hg hgl b5 bV5 bV
  obtain ⟨r0, r1, r2, r3⟩ := KR.out _ (Below.refl _ _)
  go_wp2_with fail
  refine (C5.out _).mono ?_
  rintro e w6 ⟨rfl, b6⟩
  clear r0 r1 r2 r3
  obtain ⟨r0, r1, r2, r3⟩ := KR.out _ b6
  have B6 := hid b6
  clear b6
  go_wp2_with fail
  refine (C6.out _).mono ?_
  rintro e w7 ⟨rfl, b7⟩
  clear r0 r1 r2 r3
  have B7 := hid (B6.out.trans (b7.mono B6.out.size))
  clear b7
  obtain ⟨r0, r1, r2, r3⟩ := KR.out _ B7.out
  go_wp2_with fail
  refine (C7.out _).mono ?_
  rintro e w8 ⟨rfl, b8⟩
  clear r0 r1 r2 r3
  have B8 := hid (B7.out.trans (b8.mono B7.out.size))
  clear b8
  go_wp2_with fail
  refine (C8.out _).mono ?_
  rintro e w9 ⟨rfl, b9⟩
  have B9 := hid (B8.out.trans (b9.mono B8.out.size))
  clear b9
  go_wp2_with fail
  refine (C9.out _).mono ?_
  rintro e w10 ⟨rfl, b10⟩
  have B10 := hid (B9.out.trans (b10.mono B9.out.size))
  clear b10
  obtain ⟨k0, k1, k2, k3, k4⟩ := KC.out _ B10.out
  go_wp2
  go_ret
  exact ⟨rfl, BB.out.trans (B10.out.mono BB.out.size)⟩
end Go.Proofs.YtnjlnldbfejjpaaDoor
