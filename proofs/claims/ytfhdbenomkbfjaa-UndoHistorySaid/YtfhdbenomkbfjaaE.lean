/-
  Contracts: turn of nothing, Undo, Redo.
-/
import Derived.Test.YtfhdbenomkbfjaaD
set_option linter.unusedSimpArgs false
set_option linter.unusedVariables false

namespace Go.Proofs.Ytfhdbenomkbfjaa
open Go.RowKit Te Go.Frame

set_option maxRecDepth 100000 in
set_option maxHeartbeats 4000000 in
theorem turn_no (w : World) (B i j : Nat) (p : Option Addr) (c : Nat) (hc : w.cell? ⟨B, i, none⟩ = some (.slice p 0 c)) (hl : B < w.heap.size) :
    Calls Try.prog 30 #[.pointer (some ⟨B, 0, none⟩), .pointer (some ⟨B, i, none⟩), .pointer (some ⟨B, j, none⟩)] w fun e w' => e = .returned (.tuple #[.agg #[.int .i64 0, .int .i64 0, .string .empty], .int .i64 15]) ∧ Below w.heap.size w w' := by
  have c1 := (((Below.refl _ w).alloc (Nat.le_refl _) (.cells #[.int .i64 0, .int .i64 0, .string { data := #[] }] 31)).cell (p := ⟨B, i, none⟩) hl).trans hc
  clear hc
  go_enter Try.func30, Try.ntmps30
  go_wp2
  refine bodyPost_ret (v := .tuple #[.agg #[.int .i64 0, .int .i64 0, .string .empty], .int .i64 15]) ?_ rfl ⟨rfl, ?_⟩
  · simp [results, Try.results30, go_sem]
    try rfl
  · exact (Below.refl _ w).alloc (Nat.le_refl _) _

set_option maxRecDepth 100000 in
set_option maxHeartbeats 4000000 in
theorem undo_no (F : Nat → Prop) (w : World) (B : Nat) (s : ByteArray) (R : List Ed) (v : Nat) (h : Hist F w B s [] R v) :
    Calls Try.prog 20 #[.pointer (some ⟨B, 0, none⟩)] w fun e w' => e = .returned (.tuple #[.agg #[.int .i64 0, .int .i64 0, .string .empty], .int .i64 15]) ∧ Below w.heap.size w w' := by
  obtain ⟨vu, vr, hB, hu1, hr1, _⟩ := h
  obtain ⟨pu, cu, rfl⟩ := own_form hu1
  have hl := heap_lt hB
  have HL := hid hl
  obtain ⟨W, hW⟩ : ∃ W, W = w.alloc (.cells #[.int .i64 0, .int .i64 0, .string { data := #[] }] 31) := ⟨_, rfl⟩
  have bW : Below w.heap.size w W := by rw [hW]; exact (Below.refl _ _).alloc (Nat.le_refl _) _
  have Tn := hid (show ∀ W', Below W.heap.size W W' → Calls Try.prog 30 #[.pointer (some ⟨B, 0, none⟩), .pointer (some ⟨B, 1, none⟩), .pointer (some ⟨B, 2, none⟩)] W' fun e w' => e = .returned (.tuple #[.agg #[.int .i64 0, .int .i64 0, .string .empty], .int .i64 15]) ∧ Below W'.heap.size W' w' from fun W' hb =>
    turn_no W' B 1 2 pu cu (cells4 ((hb.block B (Nat.lt_of_lt_of_le hl bW.size)).trans ((bW.block B hl).trans hB))).2.1 (Nat.lt_of_lt_of_le hl (Nat.le_trans bW.size hb.size)))
  have XZ := hid (show W.heap[w.heap.size]? = some (.cells #[.int .i64 0, .int .i64 0, .string { data := #[] }] 31 (0, 0)) by rw [hW]; exact alloc_new _ _)
  have HW := hid hW
  clear hW hB hu1 hr1 hl
  go_enter Try.func20, Try.ntmps20
  go_wp2_with fail
  rw [← HW.out]
  go_region_held3 (fun _ => True) (trivial)
    (first | (go_at_call 30; refine (Tn.out _ (Below.refl _ _).drew).mono ?_; rintro e y ⟨rfl, by1⟩; have hb := (Below.refl _ W).drew.trans (by1.mono (Nat.le_refl _)); obtain ⟨z0, z1, z2⟩ := cells3 ((hb.block _ (heap_lt XZ.out)).trans XZ.out); obtain ⟨q0, q1, q2⟩ := frozen3 ((hb.block _ (heap_lt XZ.out)).trans XZ.out); have hzl := heap_lt ((hb.block _ (heap_lt XZ.out)).trans XZ.out)))
  go_wp2
  refine bodyPost_ret (v := .tuple #[.agg #[.int .i64 0, .int .i64 0, .string .empty], .int .i64 15]) ?_ rfl ⟨rfl, ?_⟩
  · simp [results, Try.results20, go_sem, z0, z1, z2]
    try rfl
  · repeat (refine Below.setCell ?_ (by first | exact Nat.le_refl _ | (simp; done)) _)
    exact bW.trans (hb.mono bW.size)

set_option maxRecDepth 100000 in
set_option maxHeartbeats 4000000 in
theorem undo_yes (F : Nat → Prop) (w : World) (B : Nat) (s : ByteArray) (a d : Int) (t : ByteArray) (U R : List Ed) (v : Nat) (h : Hist F w B s ((a, d, t) :: U) R v) (hup : Up F w) (hf : Fit s.size (a, d, t)) (hs : s.size ≤ 1000000) (ht : t.size ≤ 1000000) (hv : v ≤ 1000000) (hU : U.length ≤ 1000000) (hR : R.length ≤ 1000000) :
    Calls Try.prog 20 #[.pointer (some ⟨B, 0, none⟩)] w fun e w' => e = .returned (.tuple #[.agg #[.int .i64 a, .int .i64 d, .string t], .int .i64 0]) ∧ Hist F w' B (ap s (a, d, t)) U (inv s (a, d, t) :: R) (v + 1) ∧ Kept F w w' := by
  have hBl : B < w.heap.size := by obtain ⟨vu, vr, hB, _⟩ := h; exact heap_lt hB
  obtain ⟨W, hW⟩ : ∃ W, W = w.alloc (.cells #[.int .i64 0, .int .i64 0, .string { data := #[] }] 31) := ⟨_, rfl⟩
  have bW : Below w.heap.size w W := by rw [hW]; exact (Below.refl _ _).alloc (Nat.le_refl _) _
  have hsz := show W.heap.size = w.heap.size + 1 by rw [hW]; simp
  have hW1 : Hist (fun b => F b ∧ b ≠ w.heap.size) W.drew B s ((a, d, t) :: U) R v := ((h.mono (G := fun b => F b ∧ b ≠ w.heap.size) fun b hb hl => ⟨hb, by omega⟩).below bW).below (Below.refl _ _).drew
  have hup1 : Up (fun b => F b ∧ b ≠ w.heap.size) W.drew := fun b hb => by
    have hb' : W.heap.size ≤ b := hb
    exact ⟨hup b (by omega), by omega⟩
  have Tn := hid (turn12_yes (fun b => F b ∧ b ≠ w.heap.size) W.drew B s a d t U R v hW1 hup1 hf hs ht hv hU hR)
  have XZ := hid (show W.heap[w.heap.size]? = some (.cells #[.int .i64 0, .int .i64 0, .string { data := #[] }] 31 (0, 0)) by rw [hW]; exact alloc_new _ _)
  have HW := hid hW
  have HP := hid hup
  have HF := hid hf
  have hne : B ≠ w.heap.size := by omega
  have HN := hid hne
  clear hW h hW1 hup1 hup hf hne hsz
  go_enter Try.func20, Try.ntmps20
  go_wp2_with fail
  rw [← HW.out]
  go_region_held3 (fun _ => True) (trivial)
    (first | (go_at_call 30; refine Tn.out.mono ?_; rintro e y ⟨rfl, hy, ky⟩; have XZy := (ky.block w.heap.size (fun h => h.2 rfl)).trans (show W.drew.heap[w.heap.size]? = _ from XZ.out); have HY := hid hy; have KY := hid ky; clear hy ky; obtain ⟨z0, z1, z2⟩ := cells3 XZy; obtain ⟨q0, q1, q2⟩ := frozen3 XZy; have hzl := heap_lt XZy; clear XZy))
  go_wp2
  refine bodyPost_ret (v := .tuple #[.agg #[.int .i64 a, .int .i64 d, .string t], .int .i64 0]) ?_ rfl ⟨rfl, ?_, ?_⟩
  · simp [results, Try.results20, go_sem, z0, z1, z2]
  · refine (HY.out.keep (G := (· = w.heap.size)) ?_ (fun b hb hg => hb.2 hg)).mono fun b hb _ => hb.1
    exact (((Kept.refl _ _).setCell (by rfl) _).setCell (by rfl) _).setCell (by rfl) _
  · have k1 : Kept F w y := (Kept.below bW HP.out).trans ((Kept.refl F W).drew.trans (KY.out.mono fun b hb => hb.1))
    refine ((k1.setCell ?_ _).setCell ?_ _).setCell ?_ _ <;> exact HP.out _ (Nat.le_refl _)

set_option maxRecDepth 100000 in
set_option maxHeartbeats 4000000 in
theorem redo_no (F : Nat → Prop) (w : World) (B : Nat) (s : ByteArray) (R : List Ed) (v : Nat) (h : Hist F w B s R [] v) :
    Calls Try.prog 21 #[.pointer (some ⟨B, 0, none⟩)] w fun e w' => e = .returned (.tuple #[.agg #[.int .i64 0, .int .i64 0, .string .empty], .int .i64 15]) ∧ Below w.heap.size w w' := by
  obtain ⟨vr, vu, hB, hr1, hu1, _⟩ := h
  obtain ⟨pu, cu, rfl⟩ := own_form hu1
  have hl := heap_lt hB
  have HL := hid hl
  obtain ⟨W, hW⟩ : ∃ W, W = w.alloc (.cells #[.int .i64 0, .int .i64 0, .string { data := #[] }] 31) := ⟨_, rfl⟩
  have bW : Below w.heap.size w W := by rw [hW]; exact (Below.refl _ _).alloc (Nat.le_refl _) _
  have Tn := hid (show ∀ W', Below W.heap.size W W' → Calls Try.prog 30 #[.pointer (some ⟨B, 0, none⟩), .pointer (some ⟨B, 2, none⟩), .pointer (some ⟨B, 1, none⟩)] W' fun e w' => e = .returned (.tuple #[.agg #[.int .i64 0, .int .i64 0, .string .empty], .int .i64 15]) ∧ Below W'.heap.size W' w' from fun W' hb =>
    turn_no W' B 2 1 pu cu (cells4 ((hb.block B (Nat.lt_of_lt_of_le hl bW.size)).trans ((bW.block B hl).trans hB))).2.2.1 (Nat.lt_of_lt_of_le hl (Nat.le_trans bW.size hb.size)))
  have XZ := hid (show W.heap[w.heap.size]? = some (.cells #[.int .i64 0, .int .i64 0, .string { data := #[] }] 31 (0, 0)) by rw [hW]; exact alloc_new _ _)
  have HW := hid hW
  clear hW hB hu1 hr1 hl
  go_enter Try.func21, Try.ntmps21
  go_wp2_with fail
  rw [← HW.out]
  go_region_held3 (fun _ => True) (trivial)
    (first | (go_at_call 30; refine (Tn.out _ (Below.refl _ _).drew).mono ?_; rintro e y ⟨rfl, by1⟩; have hb := (Below.refl _ W).drew.trans (by1.mono (Nat.le_refl _)); obtain ⟨z0, z1, z2⟩ := cells3 ((hb.block _ (heap_lt XZ.out)).trans XZ.out); obtain ⟨q0, q1, q2⟩ := frozen3 ((hb.block _ (heap_lt XZ.out)).trans XZ.out); have hzl := heap_lt ((hb.block _ (heap_lt XZ.out)).trans XZ.out)))
  go_wp2
  refine bodyPost_ret (v := .tuple #[.agg #[.int .i64 0, .int .i64 0, .string .empty], .int .i64 15]) ?_ rfl ⟨rfl, ?_⟩
  · simp [results, Try.results21, go_sem, z0, z1, z2]
    try rfl
  · repeat (refine Below.setCell ?_ (by first | exact Nat.le_refl _ | (simp; done)) _)
    exact bW.trans (hb.mono bW.size)

set_option maxRecDepth 100000 in
set_option maxHeartbeats 4000000 in
theorem redo_yes (F : Nat → Prop) (w : World) (B : Nat) (s : ByteArray) (a d : Int) (t : ByteArray) (U R : List Ed) (v : Nat) (h : Hist F w B s R ((a, d, t) :: U) v) (hup : Up F w) (hf : Fit s.size (a, d, t)) (hs : s.size ≤ 1000000) (ht : t.size ≤ 1000000) (hv : v ≤ 1000000) (hU : U.length ≤ 1000000) (hR : R.length ≤ 1000000) :
    Calls Try.prog 21 #[.pointer (some ⟨B, 0, none⟩)] w fun e w' => e = .returned (.tuple #[.agg #[.int .i64 a, .int .i64 d, .string t], .int .i64 0]) ∧ Hist F w' B (ap s (a, d, t)) (inv s (a, d, t) :: R) U (v + 1) ∧ Kept F w w' := by
  have hBl : B < w.heap.size := by obtain ⟨vu, vr, hB, _⟩ := h; exact heap_lt hB
  obtain ⟨W, hW⟩ : ∃ W, W = w.alloc (.cells #[.int .i64 0, .int .i64 0, .string { data := #[] }] 31) := ⟨_, rfl⟩
  have bW : Below w.heap.size w W := by rw [hW]; exact (Below.refl _ _).alloc (Nat.le_refl _) _
  have hsz := show W.heap.size = w.heap.size + 1 by rw [hW]; simp
  have hW1 : Hist (fun b => F b ∧ b ≠ w.heap.size) W.drew B s R ((a, d, t) :: U) v := ((h.mono (G := fun b => F b ∧ b ≠ w.heap.size) fun b hb hl => ⟨hb, by omega⟩).below bW).below (Below.refl _ _).drew
  have hup1 : Up (fun b => F b ∧ b ≠ w.heap.size) W.drew := fun b hb => by
    have hb' : W.heap.size ≤ b := hb
    exact ⟨hup b (by omega), by omega⟩
  have Tn := hid (turn21_yes (fun b => F b ∧ b ≠ w.heap.size) W.drew B s a d t U R v hW1 hup1 hf hs ht hv hU hR)
  have XZ := hid (show W.heap[w.heap.size]? = some (.cells #[.int .i64 0, .int .i64 0, .string { data := #[] }] 31 (0, 0)) by rw [hW]; exact alloc_new _ _)
  have HW := hid hW
  have HP := hid hup
  have HF := hid hf
  have hne : B ≠ w.heap.size := by omega
  have HN := hid hne
  clear hW h hW1 hup1 hup hf hne hsz
  go_enter Try.func21, Try.ntmps21
  go_wp2_with fail
  rw [← HW.out]
  go_region_held3 (fun _ => True) (trivial)
    (first | (go_at_call 30; refine Tn.out.mono ?_; rintro e y ⟨rfl, hy, ky⟩; have XZy := (ky.block w.heap.size (fun h => h.2 rfl)).trans (show W.drew.heap[w.heap.size]? = _ from XZ.out); have HY := hid hy; have KY := hid ky; clear hy ky; obtain ⟨z0, z1, z2⟩ := cells3 XZy; obtain ⟨q0, q1, q2⟩ := frozen3 XZy; have hzl := heap_lt XZy; clear XZy))
  go_wp2
  refine bodyPost_ret (v := .tuple #[.agg #[.int .i64 a, .int .i64 d, .string t], .int .i64 0]) ?_ rfl ⟨rfl, ?_, ?_⟩
  · simp [results, Try.results21, go_sem, z0, z1, z2]
  · refine (HY.out.keep (G := (· = w.heap.size)) ?_ (fun b hb hg => hb.2 hg)).mono fun b hb _ => hb.1
    exact (((Kept.refl _ _).setCell (by rfl) _).setCell (by rfl) _).setCell (by rfl) _
  · have k1 : Kept F w y := (Kept.below bW HP.out).trans ((Kept.refl F W).drew.trans (KY.out.mono fun b hb => hb.1))
    refine ((k1.setCell ?_ _).setCell ?_ _).setCell ?_ _ <;> exact HP.out _ (Nat.le_refl _)
end Go.Proofs.Ytfhdbenomkbfjaa
