/-
  Contracts: Same, few, awake.
-/
import Derived.Test.YtahikgdgbgclkaaE
import Derived.Test.YtahikgdgbgclkaaF
set_option linter.unusedSimpArgs false
set_option linter.unusedVariables false
namespace Go.Proofs.Ytahikgdgbgclkaa
open Go.RowKit Te Go.Frame

set_option maxRecDepth 100000 in
set_option maxHeartbeats 4000000 in
theorem same_any (p q : Option Addr) (n c m : Nat) (E : List Ed) (w : World) (hn : n ≤ 1000000) (h : ERow w p n E) (h' : ERow w q n E) :
    Calls Try.prog 14 #[.slice p n c, .slice q n m] w fun e w' => e = .returned (.bool true) ∧ Below w.heap.size w w' := by
  have HR := hid h
  have HR' := hid h'
  have hl := hid h.1
  clear h h'
  go_enter Try.func14, Try.ntmps14
  go_wp2_with fail
  go_loopg [5] n (fun k s5 wr => ∃ (i : Nat), s5 = .int .i64 i ∧ i + k = n ∧ Below w.heap.size w wr)
  case atStart => exact ⟨0, rfl, by omega, Below.refl _ _⟩
  case round =>
    obtain ⟨i, rfl, hk, hbw⟩ := hrel
    by_cases hlt : i < n
    · have hlt' : (i : Int) < (n : Int) := by omega
      have hi0 : (0 : Int) ≤ (i : Int) := by omega
      obtain ⟨⟨a, d, t⟩, hxi⟩ : ∃ x, E[i]? = some x := ⟨_, List.getElem?_eq_getElem (by rw [hl.out]; exact hlt)⟩
      obtain ⟨b, off, rfl, hb, hx⟩ := (HR.out.below hbw).2.resolve_left (by omega)
      obtain ⟨b', off', rfl, hb', hx'⟩ := (HR'.out.below hbw).2.resolve_left (by omega)
      obtain ⟨c0, c1, c2⟩ := hx i _ hxi
      obtain ⟨d0, d1, d2⟩ := hx' i _ hxi
      clear hx hx' hxi
      go_wp2_with fail
      go_quiet (fail)
      go_wp2
      go_roundg (gk - 1)
      case measure => omega
      case rel => exact ⟨i + 1, by go_num, by omega, by first | exact hbw | exact hbw.drew | exact below_drewN hbw _⟩
    · have hin : ¬ (i : Int) < (n : Int) := by omega
      go_wp2
      go_ret
      exact ⟨rfl, hbw⟩
/-- Short enough. -/
def Few (a b : ByteArray) : Prop := a.size ≤ 80 ∧ b.size ≤ 80
instance (a b : ByteArray) : Decidable (Few a b) := by unfold Few; infer_instance
set_option maxHeartbeats 1000000 in
theorem few_any (a b : ByteArray) (w : World) : Calls Try.prog 11 #[.string a, .string b] w fun e w' => e = .returned (.bool (decide (Few a b))) ∧ w = w' := by
  by_cases h1 : a.size ≤ 80
  · have h1' : (a.size : Int) ≤ 80 := by omega
    by_cases h2 : b.size ≤ 80
    · rw [decide_eq_true (show Few a b from ⟨h1, h2⟩)]
      have h2' : (b.size : Int) ≤ 80 := by omega
      go_enter Try.func11, Try.ntmps11
      go_wp2
      go_ret
      exact ⟨by simp [h1, h2], rfl⟩
    · rw [decide_eq_false (show ¬ Few a b from fun h => h2 h.2)]
      have h2' : ¬ (b.size : Int) ≤ 80 := by omega
      go_enter Try.func11, Try.ntmps11
      go_wp2
      go_ret
      exact ⟨by simp [h1, h2], rfl⟩
  · rw [decide_eq_false (show ¬ Few a b from fun h => h1 h.1)]
    have h1' : ¬ (a.size : Int) ≤ 80 := by omega
    go_enter Try.func11, Try.ntmps11
    go_wp2
    go_ret
    exact ⟨by simp [h1], rfl⟩
def kitten : ByteArray := { data := #[107, 105, 116, 116, 101, 110] }
def sitting : ByteArray := { data := #[115, 105, 116, 116, 105, 110, 103] }
def abcd : ByteArray := { data := #[97, 98, 99, 100] }
def axcd : ByteArray := { data := #[97, 120, 99, 100] }
def abxbcd : ByteArray := { data := #[97, 98, 120, 98, 99, 100] }
theorem ex_dist : D kitten sitting 0 0 = 5 := by decide +kernel
theorem ex_diff : dg abcd axcd 0 0 none = [(1, 1, { data := #[120] })] := by
  rw [dg_mt (by decide +kernel), dg_del none (by decide +kernel) (by decide +kernel) (by decide +kernel), dg_ins _ (by decide +kernel) (by decide +kernel) (by decide +kernel), dg_mt_run _ (by decide +kernel), dg_mt (by decide +kernel), dg_end (by decide +kernel)]
  decide +kernel
theorem ex_hull : hull abcd abxbcd = (2, 0, { data := #[120, 98] }) := by decide +kernel
set_option maxRecDepth 100000 in
set_option maxHeartbeats 4000000 in
theorem awake_any (w : World) : Calls Try.prog 10 #[] w fun e w' => e = .returned (.bool true) ∧ Below w.heap.size w w' := by
  have CA := hid (Distance_any kitten sitting w (by decide) (by decide))
  rw [ex_dist] at CA
  have CB := hid (fun w' => Diff_any abcd axcd w' (by decide) (by decide))
  unfold DfRes at CB
  rw [ex_diff] at CB
  have CC := hid (fun w' => Hull_any abcd abxbcd w' (by decide) (by decide))
  rw [ex_hull] at CC
  unfold edv at CC
  unfold kitten sitting at CA
  unfold abcd axcd at CB
  unfold abcd abxbcd at CC
  go_enter Try.func10, Try.ntmps10
  go_wp2_with fail
  refine CA.out.mono ?_
  rintro e w1 ⟨rfl, b1⟩
  have B1 := hid b1
  clear b1
  go_wp2_with fail
  refine (CB.out _).mono ?_
  rintro e w2 ⟨⟨p, c, rfl, hrow⟩, b2⟩
  have B2 := hid (B1.out.trans (b2.mono B1.out.size))
  have HR := hid hrow
  clear b2 hrow
  go_wp2_with fail
  have bV : Below w2.heap.size w2 (w2.alloc (.cells #[.int .i64 1, .int .i64 1, .string { data := #[120] }] 30)) := (Below.refl _ _).alloc (Nat.le_refl _) _
  refine (same_any p (some ⟨w2.heap.size, 0, none⟩) 1 c 1 [(1, 1, { data := #[120] })] _ (by omega) (ERow.below HR.out bV) (erow_one (x := (1, 1, { data := #[120] })) (alloc_new _ _))).mono ?_
  rintro e w3 ⟨rfl, b3⟩
  have B3 := hid (B2.out.trans ((bV.trans (b3.mono bV.size)).mono B2.out.size))
  clear bV b3
  go_wp2_with fail
  refine (CC.out _).mono ?_
  rintro e w4 ⟨rfl, b4⟩
  have B4 := B3.out.trans (b4.mono B3.out.size)
  go_wp2
  go_ret
  exact ⟨rfl, B4⟩
end Go.Proofs.Ytahikgdgbgclkaa
