/-
  Contract: the reference's Ints.
-/
import Derived.Test.YtelbagaiijffdaaTj
import Derived.BigQuiet
set_option linter.unusedSimpArgs false
set_option linter.unusedVariables false
namespace Go.Proofs.Ytelbagaiijffdaa
open Go.RowKit Lx Go.Frame

set_option maxRecDepth 100000 in
set_option maxHeartbeats 4000000 in
theorem ints_any (w : World) (a1 : Option Addr) (n1 c1 : Nat) (l : List Int) (a2 : Option Addr) (n2 c2 : Nat) (m : List Int) (h1 : Row w a1 n1 (l.map iv)) (h2 : Row w a2 n2 (m.map iv)) (hn1 : n1 ≤ 1000000) (hn2 : n2 ≤ 1000000) (u : Bool) (hu : u = decide (l = m)) :
    Calls Try.prog 18 #[.slice a1 n1 c1, .slice a2 n2 c2] w (fun e w' => e = .returned (.bool u) ∧ Below w.heap.size w w') := by
  have hl1 : l.length = n1 := by have := h1.1; simpa using this
  have hl2 : m.length = n2 := by have := h2.1; simpa using this
  have HH := hid (And.intro h1 (And.intro h2 (And.intro hl1 (And.intro hl2 hu))))
  clear h1 h2 hl1 hl2 hu
  by_cases hne : n1 = n2
  · subst hne
    go_enter Try.func18, Try.ntmps18
    go_wp2_with fail
    go_loopg [5] n1 (fun kk s5 wr => ∃ i : Nat, s5 = .int .i64 (i : Int) ∧ i + kk = n1 ∧ l.take i = m.take i ∧ Below w.heap.size w wr)
    case atStart => exact ⟨0, rfl, by omega, by simp, Below.refl _ _⟩
    case round =>
      obtain ⟨i, rfl, hik, ht, hbw⟩ := hrel
      have HT := hid ht
      have HB := hid hbw
      clear ht hbw
      by_cases hlt : i < n1
      · have hlt' : (i : Int) < (n1 : Int) := by omega
        have hi0 : (0 : Int) ≤ (i : Int) := by omega
        have hi1 : IntKind.i64.wrap ((i : Int) + 1) = (i : Int) + 1 := wrapIn (by omega) (by omega)
        obtain ⟨b1, o1, x, rfl, _, hx, p1⟩ := int_at (HH.out.1.below HB.out) hlt
        obtain ⟨b2, o2, y, rfl, _, hy, p2⟩ := int_at (HH.out.2.1.below HB.out) hlt
        have HX := hid (And.intro hx hy)
        clear hx hy
        by_cases hq : x = y
        · subst hq
          go_wp2_with fail
          go_quiet (fail)
          go_wp2
          go_roundg (gk - 1)
          case measure => omega
          case rel => exact ⟨i + 1, by go_num, by omega, by rw [List.take_add_one, List.take_add_one, HX.out.1, HX.out.2, HT.out], below_drewN HB.out _⟩
        · go_wp2_with fail
          go_quiet (fail)
          go_wp2
          go_ret
          refine ⟨?_, below_drewN HB.out _⟩
          rw [HH.out.2.2.2.2, decide_eq_false]
          · rfl
          · intro e
            have a := HX.out.1
            rw [e, HX.out.2] at a
            exact hq (Option.some.inj a).symm
      · have hlt' : ¬ (i : Int) < (n1 : Int) := by omega
        obtain rfl : i = n1 := by omega
        go_wp2
        go_ret
        refine ⟨?_, HB.out⟩
        have e := HT.out
        rw [List.take_of_length_le (by have := HH.out.2.2.1; omega), List.take_of_length_le (by have := HH.out.2.2.2.1; omega)] at e
        rw [HH.out.2.2.2.2, decide_eq_true e]
        rfl
  · have hne' : ¬ (n1 : Int) = (n2 : Int) := by omega
    go_enter Try.func18, Try.ntmps18
    go_wp2
    go_ret
    refine ⟨?_, Below.refl _ _⟩
    rw [HH.out.2.2.2.2, decide_eq_false]
    · rfl
    · intro e
      have a := HH.out.2.2.1
      rw [e, HH.out.2.2.2.1] at a
      omega
end Go.Proofs.Ytelbagaiijffdaa
