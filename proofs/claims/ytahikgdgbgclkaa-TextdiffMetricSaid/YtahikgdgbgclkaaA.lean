/-
  Contracts: index, distance, compute, exhausted, matches, deletes of a table.
-/
import Derived.Test.YtahikgdgbgclkaaProg
import Derived.Test.YtahikgdgbgclkaaM
import Derived.Test.YtahikgdgbgclkaaKt
import Derived.WalkKit
import Derived.Below
import Derived.OneCell
import Derived.BigQuiet
import Derived.BigRegion
import Derived.Deep.RegionHeld3
import Derived.Deep.LoopGhost
import Derived.Outline
import Derived.OwnWalk

set_option linter.unusedSimpArgs false
set_option linter.unusedVariables false
namespace Go.Proofs.Ytahikgdgbgclkaa
open Go.RowKit Te Go.Frame

/-- The cells of a table: what T says, each in 32 bits. -/
def Tb (W : World) (g N : Nat) (T : Nat → Int) : Prop := g < W.heap.size ∧ (∀ t, t < N → W.cell? ⟨g, t, none⟩ = some (.int .i32 (T t))) ∧ ∀ t, -2147483648 ≤ T t ∧ T t ≤ 2147483647
theorem Tb.below {W W' : World} {g N : Nat} {T : Nat → Int} (h : Tb W g N T) (hb : Below W.heap.size W W') : Tb W' g N T :=
  ⟨Nat.lt_of_lt_of_le h.1 hb.size, fun t ht => (hb.cell (p := ⟨g, _, none⟩) h.1).trans (h.2.1 t ht), h.2.2⟩
/-- The place of a pair. -/
def ix (b : ByteArray) (i j : Nat) : Nat := i * (b.size + 1) + j
/-- The size of a table. -/
def nn (a b : ByteArray) : Nat := (a.size + 1) * (b.size + 1)
theorem ix_lt {a b : ByteArray} {i j : Nat} (hi : i ≤ a.size) (hj : j ≤ b.size) : ix b i j < nn a b := by
  unfold ix nn
  have : i * (b.size + 1) ≤ a.size * (b.size + 1) := Nat.mul_le_mul_right _ hi
  rw [Nat.add_mul]
  omega
theorem nn_le {a b : ByteArray} (ha : a.size ≤ 10000) (hb : b.size ≤ 10000) : nn a b ≤ 100020001 := by
  unfold nn
  have h1 : (a.size + 1) * (b.size + 1) ≤ 10001 * (b.size + 1) := Nat.mul_le_mul_right _ (by omega)
  have h2 : 10001 * (b.size + 1) ≤ 10001 * 10001 := Nat.mul_le_mul_left _ (by omega)
  omega
/-- The value of a table. -/
def tbv (a b : ByteArray) (g N : Nat) : Value := .agg #[.string a, .string b, .slice (some ⟨g, 0, none⟩) N N]
theorem ix_int {b : ByteArray} (i j : Nat) : (i : Int) * ((b.size : Int) + 1) + (j : Int) = (ix b i j : Int) := by
  unfold ix; push_cast; rfl

set_option maxRecDepth 100000 in
set_option maxHeartbeats 2000000 in
theorem index_any (a b : ByteArray) (g N i j : Nat) (w : World) (ha : a.size ≤ 10000) (hb : b.size ≤ 10000) (hi : i ≤ a.size) (hj : j ≤ b.size) :
    Calls Try.prog 32 #[tbv a b g N, .int .i64 i, .int .i64 j] w fun e w' => e = .returned (.int .i64 (ix b i j : Int)) ∧ Below w.heap.size w w' := by
  have hx := ix_lt hi hj
  have hn := nn_le ha hb
  have e0 := ix_int (b := b) i 0
  have e1 := ix_int (b := b) i j
  have h0 := ix_lt (b := b) hi (Nat.zero_le _)
  simp only [Int.natCast_zero, Int.add_zero] at e0
  have b1 : (b.size : Int) ≤ 10000 := by omega
  have q1 : IntKind.i64.wrap ((i : Int) * ((b.size : Int) + 1)) = (ix b i 0 : Int) := by rw [e0]; exact wrapIn (by omega) (by omega)
  have q2 : IntKind.i64.wrap ((ix b i 0 : Int) + (j : Int)) = (ix b i j : Int) := by rw [← e0, e1]; exact wrapIn (by omega) (by omega)
  unfold tbv
  go_enter Try.func32, Try.ntmps32
  go_wp2
  go_ret
  exact ⟨rfl, (Below.refl _ _).alloc (Nat.le_refl _) _⟩

theorem tb_cells {w : World} (a b : ByteArray) (g N : Nat) : ∀ w', Below (w.alloc (.cells #[.string a, .string b, .slice (some ⟨g, 0, none⟩) N N] 40)).heap.size (w.alloc (.cells #[.string a, .string b, .slice (some ⟨g, 0, none⟩) N N] 40)) w' →
    w'.cell? ⟨w.heap.size, 0, none⟩ = some (.string a) ∧ w'.cell? ⟨w.heap.size, 1, none⟩ = some (.string b) ∧ w'.cell? ⟨w.heap.size, 2, none⟩ = some (.slice (some ⟨g, 0, none⟩) N N) :=
  fun w' h => cells3 ((h.block _ (by simp)).trans (alloc_new _ _))
set_option maxRecDepth 100000 in
set_option maxHeartbeats 2000000 in
theorem distance_any (a b : ByteArray) (g i j : Nat) (T : Nat → Int) (w : World) (ha : a.size ≤ 10000) (hb : b.size ≤ 10000) (hi : i ≤ a.size) (hj : j ≤ b.size) (h : Tb w g (nn a b) T) :
    Calls Try.prog 22 #[tbv a b g (nn a b), .int .i64 i, .int .i64 j] w fun e w' => e = .returned (.int .i64 (T (ix b i j))) ∧ Below w.heap.size w w' := by
  have hx := ix_lt hi hj
  have hn := nn_le ha hb
  have hT := h.2.2 (ix b i j)
  have bW : Below w.heap.size w (w.alloc (.cells #[.string a, .string b, .slice (some ⟨g, 0, none⟩) (nn a b) (nn a b)] 40)) := (Below.refl _ _).alloc (Nat.le_refl _) _
  have C0 := hid (tb_cells (w := w) a b g (nn a b))
  have HT := hid (fun w' (hw : Below (w.alloc (.cells #[.string a, .string b, .slice (some ⟨g, 0, none⟩) (nn a b) (nn a b)] 40)).heap.size (w.alloc (.cells #[.string a, .string b, .slice (some ⟨g, 0, none⟩) (nn a b) (nn a b)] 40)) w') => (h.below (bW.trans (hw.mono bW.size))).2.1 _ hx)
  have x0 : (0 : Int) ≤ (ix b i j : Int) := by omega
  have x1 : ((ix b i j : Nat) : Int) < ((nn a b : Nat) : Int) := by omega
  have e1 : IntKind.i64.wrap (T (ix b i j)) = T (ix b i j) := wrapIn (by omega) (by omega)
  clear h
  unfold tbv
  go_enter Try.func22, Try.ntmps22
  go_wp2_with fail
  refine wp_region_below (by kernel_rfl) (by kernel_rfl) ?_
  intro X f _ hf hs
  have k0 := fun x => (C0.out _ (hf.out x)).1
  have k1 := fun x => (C0.out _ (hf.out x)).2.1
  have k2 := fun x => (C0.out _ (hf.out x)).2.2
  have k3 := fun x => HT.out _ (hf.out x)
  repeat (go_big_quiet_step (first | (go_at_call 32; exact calls_below hf hs (index_any a b g (nn a b) i j _ ha hb hi hj))))
  refine wpQuiet_nil ?_
  intro w' hw'
  go_wp2
  go_ret
  exact ⟨rfl, bW.trans (hw'.mono bW.size)⟩

/-- What compute returns. -/
def cmpv (a b : ByteArray) (T : Nat → Int) (i j : Nat) : Int :=
  if i = a.size then (b.size : Int) - j else if j = b.size then (a.size : Int) - i else if Mt a b i j then T (ix b (i + 1) (j + 1)) else 1 + min (T (ix b (i + 1) j)) (T (ix b i (j + 1)))
set_option maxRecDepth 100000 in
set_option maxHeartbeats 2000000 in
theorem compute_any (a b : ByteArray) (g i j : Nat) (T : Nat → Int) (w : World) (ha : a.size ≤ 10000) (hb : b.size ≤ 10000) (hi : i ≤ a.size) (hj : j ≤ b.size) (h : Tb w g (nn a b) T) :
    Calls Try.prog 31 #[tbv a b g (nn a b), .int .i64 i, .int .i64 j] w fun e w' => e = .returned (.int .i64 (cmpv a b T i j)) ∧ Below w.heap.size w w' := by
  have bW : Below w.heap.size w (w.alloc (.cells #[.string a, .string b, .slice (some ⟨g, 0, none⟩) (nn a b) (nn a b)] 40)) := (Below.refl _ _).alloc (Nat.le_refl _) _
  have C0 := hid (tb_cells (w := w) a b g (nn a b))
  have HT := hid (fun w' (hw : Below (w.alloc (.cells #[.string a, .string b, .slice (some ⟨g, 0, none⟩) (nn a b) (nn a b)] 40)).heap.size (w.alloc (.cells #[.string a, .string b, .slice (some ⟨g, 0, none⟩) (nn a b) (nn a b)] 40)) w') => h.below (bW.trans (hw.mono bW.size)))
  have hT := hid h.2.2
  clear h
  by_cases hia : i = a.size
  · have e0 : cmpv a b T i j = (b.size : Int) - j := by unfold cmpv; rw [if_pos hia]
    subst hia
    rw [e0]
    unfold tbv
    go_enter Try.func31, Try.ntmps31
    go_wp2
    go_ret
    exact ⟨rfl, bW⟩
  · by_cases hjb : j = b.size
    · have e0 : cmpv a b T i j = (a.size : Int) - i := by unfold cmpv; rw [if_neg hia, if_pos hjb]
      have n0 : ¬ (i : Int) = (a.size : Int) := by omega
      subst hjb
      rw [e0]
      unfold tbv
      go_enter Try.func31, Try.ntmps31
      go_wp2
      go_ret
      exact ⟨rfl, bW⟩
    · have n0 : ¬ (i : Int) = (a.size : Int) := by omega
      have n1 : ¬ (j : Int) = (b.size : Int) := by omega
      have hi1 : i < a.size := by omega
      have hj1 : j < b.size := by omega
      have hi2 : (i : Int) < (a.size : Int) := by omega
      have hj2 : (j : Int) < (b.size : Int) := by omega
      have hi0 : (0 : Int) ≤ (i : Int) := by omega
      have hj0 : (0 : Int) ≤ (j : Int) := by omega
      have x1 : IntKind.i64.wrap ((i : Int) + 1) = ((i + 1 : Nat) : Int) := by rw [wrapIn (by omega) (by omega)]; omega
      have x2 : IntKind.i64.wrap ((j : Int) + 1) = ((j + 1 : Nat) : Int) := by rw [wrapIn (by omega) (by omega)]; omega
      by_cases hm : Mt a b i j
      · have e0 : cmpv a b T i j = T (ix b (i + 1) (j + 1)) := by unfold cmpv; rw [if_neg hia, if_neg hjb, if_pos hm]
        have hc := byte_eq.1 ((mt_iff hi1 hj1).1 hm)
        rw [e0]
        unfold tbv
        go_enter Try.func31, Try.ntmps31
        go_wp2_with fail
        go_quiet (fail)
        go_wp2_with fail
        refine (distance_any a b g (i + 1) (j + 1) T _ ha hb (by omega) (by omega) (HT.out _ (below_drewN (Below.refl _ _) _))).mono ?_
        rintro e w1 ⟨rfl, b1⟩
        go_wp2_with fail
        go_ret
        exact ⟨rfl, (below_drewN bW _).trans (b1.mono bW.size)⟩
      · have e0 : cmpv a b T i j = 1 + min (T (ix b (i + 1) j)) (T (ix b i (j + 1))) := by unfold cmpv; rw [if_neg hia, if_neg hjb, if_neg hm]
        have hc : ¬ ((a[i]'hi1).toNat : Int) = ((b[j]'hj1).toNat : Int) := fun e => hm ((mt_iff hi1 hj1).2 (byte_eq.2 e))
        rw [e0]
        unfold tbv
        go_enter Try.func31, Try.ntmps31
        go_wp2_with fail
        go_quiet (fail)
        go_wp2_with fail
        obtain ⟨V, hV⟩ : ∃ V, V = (w.alloc (.cells #[.string a, .string b, .slice (some ⟨g, 0, none⟩) (nn a b) (nn a b)] 40)).drewN nq := ⟨_, rfl⟩
        have bV : Below w.heap.size w V := by rw [hV]; exact below_drewN bW _
        have hVs : V.heap.size = w.heap.size + 1 := by rw [hV]; simp
        have C1 := hid (fun w' (hw : Below V.heap.size V w') => C0.out w' ((below_drewN (Below.refl _ _) nq).trans (by rw [hV] at hw; exact hw)))
        have T1 := hid (fun w' (hw : Below V.heap.size V w') => HT.out w' ((below_drewN (Below.refl _ _) nq).trans (by rw [hV] at hw; exact hw)))
        have t1 := hT.out (ix b (i + 1) j)
        have t2 := hT.out (ix b i (j + 1))
        rw [← hV]
        clear hV
        have CA := hid (show ∀ w', Below V.heap.size V w' → Calls Try.prog 22 #[.agg #[.string a, .string b, .slice (some ⟨g, 0, none⟩) (nn a b) (nn a b)], .int .i64 ((i : Int) + 1), .int .i64 (j : Int)] w' fun e w'' => e = .returned (.int .i64 (T (ix b (i + 1) j))) ∧ Below w'.heap.size w' w'' from
          fun w' hw => distance_any a b g (i + 1) j T w' ha hb (by omega) hj (T1.out _ hw))
        have CB := hid (show ∀ w', Below V.heap.size V w' → Calls Try.prog 22 #[.agg #[.string a, .string b, .slice (some ⟨g, 0, none⟩) (nn a b) (nn a b)], .int .i64 (i : Int), .int .i64 ((j : Int) + 1)] w' fun e w'' => e = .returned (.int .i64 (T (ix b i (j + 1)))) ∧ Below w'.heap.size w' w'' from
          fun w' hw => distance_any a b g i (j + 1) T w' ha hb hi (by omega) (T1.out _ hw))
        refine wp_region_below (by kernel_rfl) (by kernel_rfl) ?_
        intro X f _ hf hs
        have k0 := fun x => (C1.out _ (hf.out x)).1
        have k1 := fun x => (C1.out _ (hf.out x)).2.1
        have k2 := fun x => (C1.out _ (hf.out x)).2.2
        repeat (go_big_quiet_step (first
          | (go_at_call 22; with_reducible exact calls_below hf hs (CA.out _ (hf.out _)))
          | (go_at_call 22; with_reducible exact calls_below hf hs (CB.out _ (hf.out _)))))
        refine wpQuiet_nil ?_
        intro w' hw'
        go_wp2_with fail
        all_goals
          go_ret
          refine ⟨?_, bV.trans (hw'.mono bV.size)⟩
          first
            | (rw [Int.min_eq_left (by omega)]; rfl)
            | (rw [Int.min_eq_right (by omega)]; rfl)
set_option maxRecDepth 100000 in
set_option maxHeartbeats 2000000 in
theorem exhausted_any (a b : ByteArray) (g N i j : Nat) (w : World) (ha : a.size ≤ 10000) (hb : b.size ≤ 10000) (hi : i ≤ a.size) (hj : j ≤ b.size) :
    Calls Try.prog 24 #[tbv a b g N, .int .i64 i, .int .i64 j] w fun e w' => e = .returned (.bool (decide (¬ (i < a.size ∨ j < b.size)))) ∧ Below w.heap.size w w' := by
  have bW : Below w.heap.size w (w.alloc (.cells #[.string a, .string b, .slice (some ⟨g, 0, none⟩) N N] 40)) := (Below.refl _ _).alloc (Nat.le_refl _) _
  by_cases hia : i = a.size
  · by_cases hjb : j = b.size
    · rw [decide_eq_true (show ¬ (i < a.size ∨ j < b.size) by omega)]
      subst hia hjb
      unfold tbv
      go_enter Try.func24, Try.ntmps24
      go_wp2
      go_ret
      exact ⟨rfl, bW⟩
    · rw [decide_eq_false (show ¬ ¬ (i < a.size ∨ j < b.size) by omega)]
      have n1 : ¬ (j : Int) = (b.size : Int) := by omega
      subst hia
      unfold tbv
      go_enter Try.func24, Try.ntmps24
      go_wp2
      go_ret
      refine ⟨?_, bW⟩
      simp [n1]
  · rw [decide_eq_false (show ¬ ¬ (i < a.size ∨ j < b.size) by omega)]
    have n0 : ¬ (i : Int) = (a.size : Int) := by omega
    unfold tbv
    go_enter Try.func24, Try.ntmps24
    go_wp2
    go_ret
    exact ⟨rfl, bW⟩
set_option maxRecDepth 100000 in
set_option maxHeartbeats 2000000 in
theorem matches_any (a b : ByteArray) (g N i j : Nat) (w : World) (ha : a.size ≤ 10000) (hb : b.size ≤ 10000) (hi : i ≤ a.size) (hj : j ≤ b.size) :
    Calls Try.prog 25 #[tbv a b g N, .int .i64 i, .int .i64 j] w fun e w' => e = .returned (.bool (decide (Mt a b i j))) ∧ Below w.heap.size w w' := by
  have bW : Below w.heap.size w (w.alloc (.cells #[.string a, .string b, .slice (some ⟨g, 0, none⟩) N N] 40)) := (Below.refl _ _).alloc (Nat.le_refl _) _
  have hi0 : (0 : Int) ≤ (i : Int) := by omega
  have hj0 : (0 : Int) ≤ (j : Int) := by omega
  by_cases hia : i < a.size
  · have hi2 : (i : Int) < (a.size : Int) := by omega
    have hd1 : decide ((i : Int) < (a.size : Int)) = true := decide_eq_true hi2
    by_cases hjb : j < b.size
    · have hj2 : (j : Int) < (b.size : Int) := by omega
      have hd2 : decide ((j : Int) < (b.size : Int)) = true := decide_eq_true hj2
      by_cases hm : Mt a b i j
      · rw [decide_eq_true hm]
        have hc := byte_eq.1 ((mt_iff hia hjb).1 hm)
        unfold tbv
        go_enter Try.func25, Try.ntmps25
        go_wp2_with fail
        go_quiet (fail)
        go_wp2
        go_ret
        refine ⟨?_, below_drewN bW _⟩
        simp [hc]
      · rw [decide_eq_false hm]
        have hc : ¬ ((a[i]'hia).toNat : Int) = ((b[j]'hjb).toNat : Int) := fun e => hm ((mt_iff hia hjb).2 (byte_eq.2 e))
        unfold tbv
        go_enter Try.func25, Try.ntmps25
        go_wp2_with fail
        go_quiet (fail)
        go_wp2
        go_ret
        refine ⟨?_, below_drewN bW _⟩
        simp [hc]
    · rw [decide_eq_false (show ¬ Mt a b i j from fun h => hjb h.2.1)]
      have hd2 : decide ((j : Int) < (b.size : Int)) = false := decide_eq_false (by omega)
      unfold tbv
      go_enter Try.func25, Try.ntmps25
      go_wp2_with fail
      go_quiet (fail)
      go_wp2
      go_ret
      exact ⟨rfl, below_drewN bW _⟩
  · rw [decide_eq_false (show ¬ Mt a b i j from fun h => hia h.1)]
    have hd1 : decide ((i : Int) < (a.size : Int)) = false := decide_eq_false (by omega)
    unfold tbv
    go_enter Try.func25, Try.ntmps25
    go_wp2_with fail
    go_quiet (fail)
    go_wp2
    go_ret
    exact ⟨rfl, below_drewN bW _⟩
set_option maxRecDepth 100000 in
set_option maxHeartbeats 2000000 in
/-- deletes, of a table that holds the distances. -/
theorem deletes_any (a b : ByteArray) (g i j : Nat) (T : Nat → Int) (w : World) (ha : a.size ≤ 10000) (hb : b.size ≤ 10000) (hi : i ≤ a.size) (hj : j ≤ b.size) (hl : i < a.size ∨ j < b.size) (h : Tb w g (nn a b) T) (hT : ∀ i j, i ≤ a.size → j ≤ b.size → T (ix b i j) = (D a b i j : Int)) :
    Calls Try.prog 33 #[tbv a b g (nn a b), .int .i64 i, .int .i64 j] w fun e w' => e = .returned (.bool (decide (Dl a b i j))) ∧ Below w.heap.size w w' := by
  have bW : Below w.heap.size w (w.alloc (.cells #[.string a, .string b, .slice (some ⟨g, 0, none⟩) (nn a b) (nn a b)] 40)) := (Below.refl _ _).alloc (Nat.le_refl _) _
  have C0 := hid (tb_cells (w := w) a b g (nn a b))
  have HT := hid (fun w' (hw : Below (w.alloc (.cells #[.string a, .string b, .slice (some ⟨g, 0, none⟩) (nn a b) (nn a b)] 40)).heap.size (w.alloc (.cells #[.string a, .string b, .slice (some ⟨g, 0, none⟩) (nn a b) (nn a b)] 40)) w') => h.below (bW.trans (hw.mono bW.size)))
  clear h
  by_cases hia : i = a.size
  · rw [decide_eq_false (show ¬ Dl a b i j from fun h => by have := h.1; omega)]
    subst hia
    unfold tbv
    go_enter Try.func33, Try.ntmps33
    go_wp2
    go_ret
    exact ⟨rfl, bW⟩
  · have n0 : ¬ (i : Int) = (a.size : Int) := by omega
    by_cases hjb : j = b.size
    · rw [decide_eq_true (show Dl a b i j from ⟨by omega, .inl (by omega)⟩)]
      subst hjb
      unfold tbv
      go_enter Try.func33, Try.ntmps33
      go_wp2
      go_ret
      exact ⟨rfl, bW⟩
    · have n1 : ¬ (j : Int) = (b.size : Int) := by omega
      have x1 : IntKind.i64.wrap ((i : Int) + 1) = (i : Int) + 1 := wrapIn (by omega) (by omega)
      have x2 : IntKind.i64.wrap ((j : Int) + 1) = (j : Int) + 1 := wrapIn (by omega) (by omega)
      have hd : decide (Dl a b i j) = decide (D a b (i + 1) j ≤ D a b i (j + 1)) := by
        apply decide_eq_decide.2
        constructor
        · intro h; have := h.2.resolve_left (by omega); omega
        · intro h; exact ⟨by omega, .inr (by omega)⟩
      rw [hd]
      have CA := hid (show ∀ w', Below (w.alloc (.cells #[.string a, .string b, .slice (some ⟨g, 0, none⟩) (nn a b) (nn a b)] 40)).heap.size (w.alloc (.cells #[.string a, .string b, .slice (some ⟨g, 0, none⟩) (nn a b) (nn a b)] 40)) w' →
          Calls Try.prog 22 #[.agg #[.string a, .string b, .slice (some ⟨g, 0, none⟩) (nn a b) (nn a b)], .int .i64 ((i : Int) + 1), .int .i64 (j : Int)] w' fun e w'' => e = .returned (.int .i64 (D a b (i + 1) j : Int)) ∧ Below w'.heap.size w' w'' from
        fun w' hw => by have := distance_any a b g (i + 1) j T w' ha hb (by omega) hj (HT.out _ hw); rw [hT _ _ (by omega) hj] at this; exact this)
      have CB := hid (show ∀ w', Below (w.alloc (.cells #[.string a, .string b, .slice (some ⟨g, 0, none⟩) (nn a b) (nn a b)] 40)).heap.size (w.alloc (.cells #[.string a, .string b, .slice (some ⟨g, 0, none⟩) (nn a b) (nn a b)] 40)) w' →
          Calls Try.prog 22 #[.agg #[.string a, .string b, .slice (some ⟨g, 0, none⟩) (nn a b) (nn a b)], .int .i64 (i : Int), .int .i64 ((j : Int) + 1)] w' fun e w'' => e = .returned (.int .i64 (D a b i (j + 1) : Int)) ∧ Below w'.heap.size w' w'' from
        fun w' hw => by have := distance_any a b g i (j + 1) T w' ha hb hi (by omega) (HT.out _ hw); rw [hT _ _ hi (by omega)] at this; exact this)
      have hT' := hid hT
      clear hT hd
      unfold tbv
      go_enter Try.func33, Try.ntmps33
      go_wp2_with fail
      refine wp_region_below (by kernel_rfl) (by kernel_rfl) ?_
      intro X f _ hf hs
      have k0 := fun x => (C0.out _ (hf.out x)).1
      have k1 := fun x => (C0.out _ (hf.out x)).2.1
      have k2 := fun x => (C0.out _ (hf.out x)).2.2
      repeat (go_big_quiet_step (first
        | (go_at_call 22; with_reducible exact calls_below hf hs (CA.out _ (hf.out _)))
        | (go_at_call 22; with_reducible exact calls_below hf hs (CB.out _ (hf.out _)))))
      refine wpQuiet_nil ?_
      intro w' hw'
      go_wp2
      go_ret
      exact ⟨rfl, bW.trans (hw'.mono bW.size)⟩
end Go.Proofs.Ytahikgdgbgclkaa
