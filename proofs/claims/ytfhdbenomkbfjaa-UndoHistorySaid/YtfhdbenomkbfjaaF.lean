/-
  Contracts: New, Do.
-/
import Derived.Test.YtfhdbenomkbfjaaE
set_option linter.unusedSimpArgs false
set_option linter.unusedVariables false

namespace Go.Proofs.Ytfhdbenomkbfjaa
open Go.RowKit Te Go.Frame

set_option maxRecDepth 100000 in
theorem new_any (s : ByteArray) (w : World) :
    Calls Try.prog 11 #[.string s] w fun e w' => e = .returned (.pointer (some ⟨w.heap.size, 0, none⟩)) ∧ Hist (· = w.heap.size) w' w.heap.size s [] [] 0 ∧ Below w.heap.size w w' ∧ w'.heap.size = w.heap.size + 1 := by
  go_enter Try.func11, Try.ntmps11
  go_wp2
  go_ret
  refine ⟨rfl, ⟨.slice none 0 0, .slice none 0 0, alloc_new _ _, World.ownsRow_nil _ _ _ _, World.ownsRow_nil _ _ _ _, rfl, ?_, ?_, ?_⟩, (Below.refl _ _).alloc (Nat.le_refl _) _, by simp⟩
  all_goals (intro k hk; simp [Value.ownBlock] at hk)
theorem apply_no (s t : ByteArray) (a d : Int) (w : World) (hs : s.size ≤ 1000000) (ht : t.size ≤ 1000000) (ha : a ≤ 9223372036854775807) (hf : ¬ Fit s.size (a, d, t)) :
    Calls Try.prog 27 #[.string s, .agg #[.int .i64 a, .int .i64 d, .string t]] w fun e w' => e = .returned (.tuple #[.string .empty, .int .i64 2]) ∧ Below w.heap.size w w' := by
  refine (apply_any s t a d w hs ht ha).mono ?_
  rintro e w' ⟨rfl, h⟩
  exact ⟨by rw [apv_no hf], h⟩

set_option maxRecDepth 100000 in
set_option maxHeartbeats 4000000 in
theorem do_range (F : Nat → Prop) (w : World) (B : Nat) (s : ByteArray) (a d : Int) (t : ByteArray) (U R : List Ed) (v : Nat) (h : Hist F w B s U R v) (hf : ¬ Fit s.size (a, d, t)) (hs : s.size ≤ 1000000) (ht : t.size ≤ 1000000) (ha : a ≤ 9223372036854775807) :
    Calls Try.prog 19 #[.pointer (some ⟨B, 0, none⟩), .agg #[.int .i64 a, .int .i64 d, .string t]] w fun e w' => e = .returned (.int .i64 2) ∧ Below w.heap.size w w' := by
  obtain ⟨vu, vr, hB, _⟩ := h
  have hBl := heap_lt hB
  obtain ⟨W, hW⟩ : ∃ W, W = w.alloc (.cells #[.int .i64 a, .int .i64 d, .string t] 31) := ⟨_, rfl⟩
  have bW : Below w.heap.size w W := by rw [hW]; exact (Below.refl _ _).alloc (Nat.le_refl _) _
  have XE := hid (show W.heap[w.heap.size]? = some (.cells #[.int .i64 a, .int .i64 d, .string t] 31 (0, 0)) by rw [hW]; exact alloc_new _ _)
  have XB := hid ((bW.block _ hBl).trans hB)
  have HW := hid hW
  have HF := hid hf
  clear hW hB hf
  go_enter Try.func19, Try.ntmps19
  go_wp2_with fail
  rw [← HW.out]
  refine wp_region_below (by kernel_rfl) (by kernel_rfl) ?_
  intro X f _ hfx hsf
  have k0 : ∀ x, (f x).cell? ⟨B, 0, none⟩ = some (.string s) := fun x => (cells4 (((hfx.out x).block B (heap_lt XB.out)).trans XB.out)).1
  have e0 : ∀ x, (f x).cell? ⟨w.heap.size, 0, none⟩ = some (.int .i64 a) := fun x => (cells3 (((hfx.out x).block _ (heap_lt XE.out)).trans XE.out)).1
  have e1 : ∀ x, (f x).cell? ⟨w.heap.size, 1, none⟩ = some (.int .i64 d) := fun x => (cells3 (((hfx.out x).block _ (heap_lt XE.out)).trans XE.out)).2.1
  have e2 : ∀ x, (f x).cell? ⟨w.heap.size, 2, none⟩ = some (.string t) := fun x => (cells3 (((hfx.out x).block _ (heap_lt XE.out)).trans XE.out)).2.2
  repeat (go_big_quiet_step (first | (go_at_call 27; exact calls_below hfx hsf (apply_no _ _ _ _ _ hs ht ha HF.out))))
  refine wpQuiet_nil ?_
  intro w5 hb5
  clear k0 e0 e1 e2 hfx hsf
  go_wp2
  go_ret
  exact ⟨rfl, bW.trans (hb5.mono bW.size)⟩

set_option maxRecDepth 100000 in
set_option maxHeartbeats 4000000 in
theorem do_limit (F : Nat → Prop) (w : World) (B : Nat) (s : ByteArray) (a d : Int) (t : ByteArray) (U R : List Ed) (v : Nat) (h : Hist F w B s U R v) (hf : Fit s.size (a, d, t)) (hs : s.size ≤ 1000000) (ht : t.size ≤ 1000000) (hz : 4000 < (ap s (a, d, t)).size) :
    Calls Try.prog 19 #[.pointer (some ⟨B, 0, none⟩), .agg #[.int .i64 a, .int .i64 d, .string t]] w fun e w' => e = .returned (.int .i64 11) ∧ Below w.heap.size w w' := by
  obtain ⟨vu, vr, hB, _⟩ := h
  have hBl := heap_lt hB
  have hz' : (4000 : Int) < ((ap s (a, d, t)).size : Int) := by omega
  obtain ⟨W, hW⟩ : ∃ W, W = w.alloc (.cells #[.int .i64 a, .int .i64 d, .string t] 31) := ⟨_, rfl⟩
  have bW : Below w.heap.size w W := by rw [hW]; exact (Below.refl _ _).alloc (Nat.le_refl _) _
  have XE := hid (show W.heap[w.heap.size]? = some (.cells #[.int .i64 a, .int .i64 d, .string t] 31 (0, 0)) by rw [hW]; exact alloc_new _ _)
  have XB := hid ((bW.block _ hBl).trans hB)
  have HW := hid hW
  have HF := hid hf
  clear hW hB hf
  go_enter Try.func19, Try.ntmps19
  go_wp2_with fail
  rw [← HW.out]
  refine wp_region_below (by kernel_rfl) (by kernel_rfl) ?_
  intro X f _ hfx hsf
  have k0 : ∀ x, (f x).cell? ⟨B, 0, none⟩ = some (.string s) := fun x => (cells4 (((hfx.out x).block B (heap_lt XB.out)).trans XB.out)).1
  have e0 : ∀ x, (f x).cell? ⟨w.heap.size, 0, none⟩ = some (.int .i64 a) := fun x => (cells3 (((hfx.out x).block _ (heap_lt XE.out)).trans XE.out)).1
  have e1 : ∀ x, (f x).cell? ⟨w.heap.size, 1, none⟩ = some (.int .i64 d) := fun x => (cells3 (((hfx.out x).block _ (heap_lt XE.out)).trans XE.out)).2.1
  have e2 : ∀ x, (f x).cell? ⟨w.heap.size, 2, none⟩ = some (.string t) := fun x => (cells3 (((hfx.out x).block _ (heap_lt XE.out)).trans XE.out)).2.2
  repeat (go_big_quiet_step (first | (go_at_call 27; exact calls_below hfx hsf (apply_yes _ _ _ _ _ hs ht HF.out))))
  refine wpQuiet_nil ?_
  intro w5 hb5
  clear k0 e0 e1 e2 hfx hsf
  go_wp2
  go_ret
  exact ⟨rfl, bW.trans (hb5.mono bW.size)⟩

set_option maxRecDepth 100000 in
set_option maxHeartbeats 4000000 in
theorem do_yes (F : Nat → Prop) (w : World) (B : Nat) (s : ByteArray) (a d : Int) (t : ByteArray) (U R : List Ed) (v : Nat) (h : Hist F w B s U R v) (hup : Up F w) (hf : Fit s.size (a, d, t)) (hs : s.size ≤ 1000000) (ht : t.size ≤ 1000000) (hz : (ap s (a, d, t)).size ≤ 4000) (hv : v ≤ 1000000) (hU : U.length ≤ 1000000) :
    Calls Try.prog 19 #[.pointer (some ⟨B, 0, none⟩), .agg #[.int .i64 a, .int .i64 d, .string t]] w fun e w' => e = .returned (.int .i64 0) ∧ Hist F w' B (ap s (a, d, t)) (inv s (a, d, t) :: U) [] (v + 1) ∧ Kept F w w' := by
  obtain ⟨i0, hi, hz0, hz1, hz2⟩ := info_parts Try.info31
  obtain ⟨vu, vr, hB, hu1, hr1, hFB, hFu, hFr, hne⟩ := h
  obtain ⟨pr, cr, rfl⟩ := own_form hu1
  have hBl := heap_lt hB
  have hz' : ((ap s (a, d, t)).size : Int) ≤ 4000 := by omega
  obtain ⟨W, hW⟩ : ∃ W, W = w.alloc (.cells #[.int .i64 a, .int .i64 d, .string t] 31) := ⟨_, rfl⟩
  have bW : Below w.heap.size w W := by rw [hW]; exact (Below.refl _ _).alloc (Nat.le_refl _) _
  have XE := hid (show W.heap[w.heap.size]? = some (.cells #[.int .i64 a, .int .i64 d, .string t] 31 (0, 0)) by rw [hW]; exact alloc_new _ _)
  have XB := hid ((bW.block _ hBl).trans hB)
  have XO := hid (ownsRow_keep hu1 fun k hk => bW.block k (hu1.lt k hk).2)
  have HRl := hid (fun k (hk : (Value.slice pr U.length cr).ownBlock = some k) => (hu1.lt k hk).2)
  have HW := hid hW
  have HF := hid hf
  have HP := hid hup
  have HBl := hid hBl
  have HQ := hid (And.intro hFB hFu)
  clear hW hB hf hu1 hr1 hFB hFu hFr hne hup hz
  go_enter Try.func19, Try.ntmps19
  go_wp2_with fail
  rw [← HW.out]
  refine wp_region_below (by kernel_rfl) (by kernel_rfl) ?_
  intro X f _ hfx hsf
  have k0 : ∀ x, (f x).cell? ⟨B, 0, none⟩ = some (.string s) := fun x => (cells4 (((hfx.out x).block B (heap_lt XB.out)).trans XB.out)).1
  have e0 : ∀ x, (f x).cell? ⟨w.heap.size, 0, none⟩ = some (.int .i64 a) := fun x => (cells3 (((hfx.out x).block _ (heap_lt XE.out)).trans XE.out)).1
  have e1 : ∀ x, (f x).cell? ⟨w.heap.size, 1, none⟩ = some (.int .i64 d) := fun x => (cells3 (((hfx.out x).block _ (heap_lt XE.out)).trans XE.out)).2.1
  have e2 : ∀ x, (f x).cell? ⟨w.heap.size, 2, none⟩ = some (.string t) := fun x => (cells3 (((hfx.out x).block _ (heap_lt XE.out)).trans XE.out)).2.2
  repeat (go_big_quiet_step (first | (go_at_call 27; exact calls_below hfx hsf (apply_yes _ _ _ _ _ hs ht HF.out))))
  refine wpQuiet_nil ?_
  intro W7 hb5
  clear k0 e0 e1 e2 hfx hsf
  have hB7 := (hb5.block B (heap_lt XB.out)).trans XB.out
  have XE7 := (hb5.block _ (heap_lt XE.out)).trans XE.out
  have HK7 : Kept F w W7 := (Kept.below bW HP.out).trans (Kept.below hb5 (HP.out.mono bW.size))
  have HU7 := HP.out.mono HK7.size
  have HO7 := hid (ownsRow_keep XO.out fun k hk => hb5.block k (XO.out.lt k hk).2)
  have Keep := hid (show ∀ W', Below W7.heap.size W7 W' → W'.cell? ⟨B, 0, none⟩ = some (.string s) ∧ W'.cell? ⟨w.heap.size, 0, none⟩ = some (.int .i64 a) ∧ W'.cell? ⟨w.heap.size, 1, none⟩ = some (.int .i64 d) ∧ W'.cell? ⟨w.heap.size, 2, none⟩ = some (.string t) from fun W' h => by
    obtain ⟨k0, _, k2, _⟩ := cells4 ((h.block B (heap_lt hB7)).trans hB7)
    obtain ⟨e0, e1, e2⟩ := cells3 ((h.block _ (heap_lt XE7)).trans XE7)
    exact ⟨k0, e0, e1, e2⟩)
  have NB := hid (show some B ≠ (Value.slice pr U.length cr).ownBlock ∧ some w.heap.size ≠ (Value.slice pr U.length cr).ownBlock from
    ⟨fun h => (HQ.out.2 B h.symm).2 rfl, fun h => by have := HRl.out _ h.symm; omega⟩)
  have G8 := hid (show ∀ (y : World) (o : Obj) (w8 : World), Below W7.heap.size W7 y → (y.alloc o).grownBy w8 (Value.slice pr U.length cr).ownBlock → ∀ b, b < W7.heap.size → some b ≠ (Value.slice pr U.length cr).ownBlock → w8.heap[b]? = W7.heap[b]? from fun y o w8 h1 hg b hb hn =>
    (hg.block b (by have := h1.size; simp; omega) hn).trans ((h1.alloc h1.size o).block b hb))
  have KG := hid (show ∀ W' : World, W'.heap[B]? = W7.heap[B]? → W'.heap[w.heap.size]? = W7.heap[w.heap.size]? → W'.cell? ⟨B, 0, none⟩ = some (.string s) ∧ W'.cell? ⟨w.heap.size, 0, none⟩ = some (.int .i64 a) ∧ W'.cell? ⟨w.heap.size, 1, none⟩ = some (.int .i64 d) ∧ W'.cell? ⟨w.heap.size, 2, none⟩ = some (.string t) from fun W' h h' => by
    obtain ⟨k0, _, k2, _⟩ := cells4 (h.trans hB7)
    obtain ⟨e0, e1, e2⟩ := cells3 (h'.trans XE7)
    exact ⟨k0, e0, e1, e2⟩)
  have K2 := hid (show ∀ W', Below W7.heap.size W7 W' → W'.cell? ⟨B, 1, none⟩ = some (.slice pr U.length cr) from fun W' h => (cells4 ((h.block B (heap_lt hB7)).trans hB7)).2.1)
  have HL7 := hid (And.intro (heap_lt hB7) (heap_lt XE7))
  have HB7 := hid hB7
  clear hB7 XE7 hb5
  go_wp2_with fail
  obtain ⟨⟨ia, id, it⟩, hx⟩ : ∃ x, x = inv s (a, d, t) := ⟨_, rfl⟩
  have HX := hid hx
  have Inv := hid (show ∀ y, Calls Try.prog 28 #[.string s, .agg #[.int .i64 a, .int .i64 d, .string t]] y fun e w' => e = .returned (.agg #[.int .i64 ia, .int .i64 id, .string it]) ∧ Below y.heap.size y w' from fun y => by
    refine (inverse_any s t a d y hs ht HF.out).mono ?_
    rintro e w' ⟨rfl, h⟩
    exact ⟨by rw [← hx]; rfl, h⟩)
  clear hx
  have hBE : w.heap.size ≠ B := by have := HBl.out; omega
  have Ef := hid (show ∀ j k : Nat, (⟨B, k, none⟩ : Addr) ≠ ⟨w.heap.size, j, none⟩ from fun j k e => hBE (congrArg Addr.block e).symm)
  clear hBE
  have hRm : U.length + 1 ≤ maxLen := by unfold maxLen; omega
  refine region_till 12 (fun w' => w'.cell? ⟨B, 0, none⟩ = some (.string s) ∧ w'.cell? ⟨w.heap.size, 0, none⟩ = some (.int .i64 a) ∧ w'.cell? ⟨w.heap.size, 1, none⟩ = some (.int .i64 d) ∧ w'.cell? ⟨w.heap.size, 2, none⟩ = some (.string t)) (fun w' => w'.cell? ⟨B, 1, none⟩ = some (.slice pr U.length cr)) (by kernel_rfl) ?_
  have hS := Keep.out _ (Below.refl _ W7).drew
  have hT := K2.out _ (Below.refl _ W7).drew
  refine takeS (i := 0) (d := 22) (oi := _) (v := ?v0) rfl rfl (by kernel_rfl) (by kernel_rfl) (by kernel_rfl) (by kernel_rfl) (fun _ _ _ h => h) (Or.inl ⟨by rfl, ?y0⟩) hS (fun _ => hT) ?r0
  case y0 => (intro w' hSw; (try dsimp only at hSw); go_simp; first | done | with_reducible rfl)
  simp only [List.setIfInBounds_toArray, List.set_cons_zero, List.set_cons_succ]
  refine takeS (i := 1) (d := 23) (oi := _) (v := ?v1) rfl rfl (by kernel_rfl) (by kernel_rfl) (by kernel_rfl) (by kernel_rfl) (fun _ _ _ h => h) (Or.inl ⟨by rfl, ?y1⟩) hS (fun _ => hT) ?r1
  case y1 => (intro w' hSw; (try dsimp only at hSw); go_simp; first | done | with_reducible rfl)
  simp only [List.setIfInBounds_toArray, List.set_cons_zero, List.set_cons_succ]
  refine takeS (i := 2) (d := 24) (oi := _) (v := ?v2) rfl rfl (by kernel_rfl) (by kernel_rfl) (by kernel_rfl) (by kernel_rfl) (fun _ _ _ h => h) (Or.inl ⟨by rfl, ?y2⟩) hS (fun _ => hT) ?r2
  case y2 => (intro w' hSw; (try dsimp only at hSw); go_simp; first | done | with_reducible rfl)
  simp only [List.setIfInBounds_toArray, List.set_cons_zero, List.set_cons_succ]
  refine takeS (i := 3) (d := 25) (oi := _) (v := ?v3) rfl rfl (by kernel_rfl) (by kernel_rfl) (by kernel_rfl) (by kernel_rfl) (fun _ _ _ h => h) (Or.inl ⟨by rfl, ?y3⟩) hS (fun _ => hT) ?r3
  case y3 => (intro w' hSw; (try dsimp only at hSw); go_simp; first | done | with_reducible rfl)
  simp only [List.setIfInBounds_toArray, List.set_cons_zero, List.set_cons_succ]
  refine takeT (i := 4) (d := 26) (oi := _) (v := ?v4) rfl rfl (by kernel_rfl) (by kernel_rfl) (by kernel_rfl) (by kernel_rfl) (by kernel_rfl) (by kernel_rfl) (fun _ _ _ h => h) (Or.inl ⟨by rfl, ?y4⟩) hS hT ?r4
  case y4 => (intro w' hSw; (try dsimp only at hSw); go_simp; first | done | with_reducible rfl)
  simp only [List.setIfInBounds_toArray, List.set_cons_zero, List.set_cons_succ]
  refine takeS (i := 5) (d := 27) (oi := _) (v := ?v5) rfl rfl (by kernel_rfl) (by kernel_rfl) (by kernel_rfl) (by kernel_rfl) (fun _ _ _ h => h) (Or.inl ⟨by rfl, ?y5⟩) hS (fun _ => hT) ?r5
  case y5 => (intro w' hSw; (try dsimp only at hSw); go_simp; first | done | with_reducible rfl)
  simp only [List.setIfInBounds_toArray, List.set_cons_zero, List.set_cons_succ]
  refine takeS (i := 6) (d := 28) (oi := _) (v := ?v6) rfl rfl (by kernel_rfl) (by kernel_rfl) (by kernel_rfl) (by kernel_rfl) (fun _ _ _ h => h) (Or.inl ⟨by rfl, ?y6⟩) hS (fun _ => hT) ?r6
  case y6 => (intro w' hSw; (try dsimp only at hSw); go_simp; first | done | with_reducible rfl)
  simp only [List.setIfInBounds_toArray, List.set_cons_zero, List.set_cons_succ]
  refine takeS (i := 7) (d := 29) (oi := _) (v := ?v7) rfl rfl (by kernel_rfl) (by kernel_rfl) (by kernel_rfl) (by kernel_rfl) (fun _ _ _ h => h) (Or.inl ⟨by rfl, ?y7⟩) hS (fun _ => hT) ?r7
  case y7 => (intro w' hSw; (try dsimp only at hSw); go_simp; first | done | with_reducible rfl)
  simp only [List.setIfInBounds_toArray, List.set_cons_zero, List.set_cons_succ]
  refine takeS (i := 8) (d := 30) (oi := _) (v := ?v8) rfl rfl (by kernel_rfl) (by kernel_rfl) (by kernel_rfl) (by kernel_rfl) (fun _ _ _ h => h) (Or.inl ⟨by rfl, ?y8⟩) hS (fun _ => hT) ?r8
  case y8 => (intro w' hSw; (try dsimp only at hSw); go_simp; first | done | with_reducible rfl)
  simp only [List.setIfInBounds_toArray, List.set_cons_zero, List.set_cons_succ]
  refine takeS (i := 9) (d := 31) (oi := _) (v := ?v9) rfl rfl (by kernel_rfl) (by kernel_rfl) (by kernel_rfl) (by kernel_rfl) (fun _ _ _ h => h) (Or.inl ⟨by rfl, ?y9⟩) hS (fun _ => hT) ?r9
  case y9 => (intro w' hSw; (try dsimp only at hSw); go_simp; first | done | with_reducible rfl)
  simp only [List.setIfInBounds_toArray, List.set_cons_zero, List.set_cons_succ]
  refine carryT (i := 10) (oi := _) rfl (by kernel_rfl) (fun K hK => ?_)
  go_simp
  refine (Inv.out _).mono ?_
  rintro e y ⟨rfl, by1⟩
  have h1 : Below W7.heap.size W7 y := (Below.refl _ W7).drew.trans (by1.mono (Nat.le_refl _))
  clear hS hT
  have hS := Keep.out _ h1
  have hT := K2.out _ h1
  refine hK.out _ _ ⟨hS, fun _ => hT⟩ ?_
  clear hK K
  (try simp only [Act.put, List.setIfInBounds_toArray, List.set_cons_zero, List.set_cons_succ])
  refine carryT (i := 11) (oi := _) rfl (by kernel_rfl) (fun K hK => ?_)
  go_simp
  clear hS hT
  have hS := Keep.out _ (h1.alloc h1.size (.cells #[.int .i64 ia, .int .i64 id, .string it] 31))
  have hT := K2.out _ (h1.alloc h1.size (.cells #[.int .i64 ia, .int .i64 id, .string it] 31))
  refine hK.out _ _ ⟨hS, fun _ => hT⟩ ?_
  clear hK K
  (try simp only [Act.put, List.setIfInBounds_toArray, List.set_cons_zero, List.set_cons_succ])
  refine carryT (i := 12) (oi := _) rfl (by kernel_rfl) (fun K hK => ?_)
  refine step_append_lies _ (by rfl) (.tmp 26) (.tmp 33) 27 (by rfl) 0 31 i0 _ 3 32 Try.underlying27 hi hz0 hz1 hz2 (by rfl) (by decide) (.slice pr U.length cr) U.length (ev U.reverse) (by rfl) (ownsRow_keep HO7.out fun k hk => (h1.alloc h1.size _).block k (HO7.out.lt k hk).2) ⟨y.heap.size, 0, none⟩ 1 1 [.int .i64 ia, .int .i64 id, .string it] (by rfl) (by rfl) (World.news_of_block (alloc_new _ _)) (by intro u hu; simp at hu; rcases hu with rfl | rfl | rfl <;> rfl) (by decide) hRm (by omega) (Nat.zero_le _) _ rfl ?_
  intro g' cap' w8 hown8 hgrow8 hat8 hlt8
  have hB8 := (G8.out _ _ _ h1 hgrow8 _ HL7.out.1 NB.out.1).trans HB7.out
  obtain ⟨_, k2', _, _⟩ := cells4 hB8
  obtain ⟨_, f2', _, _⟩ := cells4' hB8
  clear hS hT
  have hS := KG.out _ (G8.out _ _ _ h1 hgrow8 _ HL7.out.1 NB.out.1) (G8.out _ _ _ h1 hgrow8 _ HL7.out.2 NB.out.2)
  refine hK.out _ _ ⟨hS, fun h => by simp at h⟩ ?_
  clear hK K
  (try simp only [Act.put, List.setIfInBounds_toArray, List.set_cons_zero, List.set_cons_succ])
  refine takeS (i := 13) (d := 35) (oi := _) (v := ?v13) rfl rfl (by kernel_rfl) (by kernel_rfl) (by kernel_rfl) (by kernel_rfl) (fun _ _ _ h => h) (Or.inl ⟨by rfl, ?y13⟩) hS (fun h => by simp at h) ?r13
  case y13 => (intro w' hSw; (try dsimp only at hSw); go_simp; first | done | with_reducible rfl)
  simp only [List.setIfInBounds_toArray, List.set_cons_zero, List.set_cons_succ]
  refine takeS (i := 14) (d := 36) (oi := _) (v := ?v14) rfl rfl (by kernel_rfl) (by kernel_rfl) (by kernel_rfl) (by kernel_rfl) (fun _ _ _ h => h) (Or.inl ⟨by rfl, ?y14⟩) hS (fun h => by simp at h) ?r14
  case y14 => (intro w' hSw; (try dsimp only at hSw); go_simp; first | done | with_reducible rfl)
  simp only [List.setIfInBounds_toArray, List.set_cons_zero, List.set_cons_succ]
  refine carryT (i := 15) (oi := _) rfl (by kernel_rfl) (fun K hK => ?_)
  go_simp
  refine hK.out _ _ ⟨⟨(World.cell?_setCell_other _ _ _ _ (by simp)).trans hS.1, (World.cell?_setCell_other _ _ _ _ (Ef.out _ _)).trans hS.2.1, (World.cell?_setCell_other _ _ _ _ (Ef.out _ _)).trans hS.2.2.1, (World.cell?_setCell_other _ _ _ _ (Ef.out _ _)).trans hS.2.2.2⟩, fun h => by simp at h⟩ ?_
  clear hK K hS
  (try simp only [Act.put, List.setIfInBounds_toArray, List.set_cons_zero, List.set_cons_succ])
  refine wpAnyT_done (by kernel_rfl) ?_ _
  all_goals
    have HK8 : Kept F w w8 := (HK7.trans (Kept.below (h1.alloc h1.size _) HU7)).grown hgrow8 (HU7.mono (h1.alloc h1.size _).size) (fun k hk => (HQ.out.2 k hk).1)
    have hg'F : F g' ∧ g' ≠ B := by
      rcases hat8 with h | h
      · exact ⟨(HQ.out.2 g' h).1, (HQ.out.2 g' h).2⟩
      · have h2 : W7.heap.size ≤ g' := by rw [h]; exact (h1.alloc h1.size _).size
        exact ⟨HU7 g' h2, by have := HL7.out.1; omega⟩
    have hB9 : (w8.setCell ⟨B, 1, none⟩ (.slice (some ⟨g', 0, none⟩) (U.length + 1) cap')).heap[B]? = some (.cells #[.string s, .slice (some ⟨g', 0, none⟩) (U.length + 1) cap', vr, .int .i64 (v : Int)] 53 (0, 0)) := blk_put hB8
    have HO9 := hid (ownsRow_keep hown8 (w' := w8.setCell ⟨B, 1, none⟩ (.slice (some ⟨g', 0, none⟩) (U.length + 1) cap')) fun k hk => heap_setCell_other _ _ _ _ (by
      simp only [Value.ownBlock, Option.some.injEq] at hk
      rw [← hk]; exact hg'F.2))
    have HK9 := hid (HK8.setCell (p := ⟨B, 1, none⟩) HQ.out.1 (.slice (some ⟨g', 0, none⟩) (U.length + 1) cap'))
    obtain ⟨W9, hW9⟩ : ∃ W9, W9 = w8.setCell ⟨B, 1, none⟩ (.slice (some ⟨g', 0, none⟩) (U.length + 1) cap') := ⟨_, rfl⟩
    rw [← hW9] at hB9 HO9 HK9 ⊢
    obtain ⟨_, _, c2, _⟩ := cells4 hB9
    obtain ⟨_, _, f2, _⟩ := cells4' hB9
    have hBA : (W9.setCell ⟨B, 2, none⟩ (.slice none 0 0)).heap[B]? = some (.cells #[.string s, .slice (some ⟨g', 0, none⟩) (U.length + 1) cap', .slice none 0 0, .int .i64 (v : Int)] 53 (0, 0)) := blk_put hB9
    have HBA := hid hBA
    have HFg := hid hg'F
    have hl9 := heap_lt hB9
    clear hW9 hB9 HK8 hg'F hB8 k2' f2' hown8 hgrow8 hat8 hlt8 h1 hBA HK7 HU7
    go_wp2_with fail
    refine (become_any B s (ap s (a, d, t)) _ _ v _ HBA.out hv).mono ?_
    rintro e wA ⟨rfl, hBA, kpA⟩
    have XOA := ownsRow_keep HO9.out (w' := wA) fun k hk => (kpA.block k (by
      simp only [Value.ownBlock, Option.some.injEq] at hk
      rw [← hk]; exact HFg.out.2)).trans (heap_setCell_other _ _ _ _ (by
      simp only [Value.ownBlock, Option.some.injEq] at hk
      rw [← hk]; exact HFg.out.2))
    have HKA := hid ((HK9.out.setCell (p := ⟨B, 2, none⟩) HQ.out.1 (.slice none 0 0)).trans (kpA.mono fun b hb => by rw [hb]; exact HQ.out.1))
    have HBA := hid hBA
    have HOA := hid XOA
    clear hBA XOA kpA c2 f2
    go_wp2
    go_ret
    refine ⟨rfl, ⟨.slice (some ⟨g', 0, none⟩) (U.length + 1) cap', .slice none 0 0, HBA.out, ?_, World.ownsRow_nil _ _ _ _, HQ.out.1, ?_, ?_, ?_⟩, HKA.out⟩
    · have := HOA.out
      rw [← HX.out, List.reverse_cons, ev_app, ev_one]
      simpa using this
    · intro k hk
      simp only [Value.ownBlock, Option.some.injEq] at hk
      rw [← hk]; exact HFg.out
    · intro k hk; simp [Value.ownBlock] at hk
    · intro k hk hk'; simp [Value.ownBlock] at hk'
end Go.Proofs.Ytfhdbenomkbfjaa
