/-
  Contracts: Undo, Redo, Do as plain functions of the history; run.
-/
import Derived.Test.YtfhdbenomkbfjaaN
import Derived.Test.YtfhdbenomkbfjaaF
set_option linter.unusedSimpArgs false
set_option linter.unusedVariables false

namespace Go.Proofs.Ytfhdbenomkbfjaa
open Go.RowKit Te Go.Frame

theorem undo_any (F : Nat → Prop) (w : World) (B : Nat) (x x' : St) (a' d' : Int) (t' : ByteArray) (er : Int) (K n : Nat) (hr : undoR x = (x', (a', d', t'), er)) (h : Hi F w B x) (hup : Up F w) (ok : Ok K n x) (hK : K ≤ 1000000) (hn : n ≤ 900000) :
    Calls Try.prog 20 #[.pointer (some ⟨B, 0, none⟩)] w fun e w' => e = .returned (.tuple #[.agg #[.int .i64 a', .int .i64 d', .string t'], .int .i64 er]) ∧ Hi F w' B x' ∧ Kept F w w' := by
  obtain ⟨s, U, R, v⟩ := x
  obtain ⟨hU, hR, hv, hl⟩ := ok
  cases U with
  | nil =>
    simp only [undoR, zed, Prod.mk.injEq] at hr
    obtain ⟨rfl, ⟨rfl, rfl, rfl⟩, rfl⟩ := hr
    refine (undo_no F w B s R v h).mono ?_
    rintro e w' ⟨rfl, hb⟩
    exact ⟨rfl, h.below hb, Kept.below hb hup⟩
  | cons x U =>
    obtain ⟨a, d, t⟩ := x
    simp only [undoR, Prod.mk.injEq] at hr
    obtain ⟨rfl, ⟨rfl, rfl, rfl⟩, rfl⟩ := hr
    simp only [List.length_cons] at hl hv
    exact undo_yes F w B s a d t U R v h hup hU.fit (Nat.le_trans hU.size hK) (Nat.le_trans hU.ins hK) (by omega) (by omega) (by omega)
theorem redo_any (F : Nat → Prop) (w : World) (B : Nat) (x x' : St) (a' d' : Int) (t' : ByteArray) (er : Int) (K n : Nat) (hr : redoR x = (x', (a', d', t'), er)) (h : Hi F w B x) (hup : Up F w) (ok : Ok K n x) (hK : K ≤ 1000000) (hn : n ≤ 900000) :
    Calls Try.prog 21 #[.pointer (some ⟨B, 0, none⟩)] w fun e w' => e = .returned (.tuple #[.agg #[.int .i64 a', .int .i64 d', .string t'], .int .i64 er]) ∧ Hi F w' B x' ∧ Kept F w w' := by
  obtain ⟨s, U, R, v⟩ := x
  obtain ⟨hU, hR, hv, hl⟩ := ok
  cases R with
  | nil =>
    simp only [redoR, zed, Prod.mk.injEq] at hr
    obtain ⟨rfl, ⟨rfl, rfl, rfl⟩, rfl⟩ := hr
    refine (redo_no F w B s U v h).mono ?_
    rintro e w' ⟨rfl, hb⟩
    exact ⟨rfl, h.below hb, Kept.below hb hup⟩
  | cons x R =>
    obtain ⟨a, d, t⟩ := x
    simp only [redoR, Prod.mk.injEq] at hr
    obtain ⟨rfl, ⟨rfl, rfl, rfl⟩, rfl⟩ := hr
    simp only [List.length_cons] at hl hv
    exact redo_yes F w B s a d t R U v h hup hR.fit (Nat.le_trans hR.size hK) (Nat.le_trans hR.ins hK) (by omega) (by omega) (by omega)
theorem do_any (F : Nat → Prop) (w : World) (B : Nat) (x x' : St) (a d : Int) (t : ByteArray) (z : Ed) (er : Int) (K n : Nat) (hr : doR x (a, d, t) = (x', z, er)) (h : Hi F w B x) (hup : Up F w) (ok : Ok K n x) (hK : K ≤ 1000000) (hn : n ≤ 900000) (ht : t.size ≤ 1000000) (ha : a ≤ 9223372036854775807) :
    Calls Try.prog 19 #[.pointer (some ⟨B, 0, none⟩), .agg #[.int .i64 a, .int .i64 d, .string t]] w fun e w' => e = .returned (.int .i64 er) ∧ Hi F w' B x' ∧ Kept F w w' := by
  obtain ⟨s, U, R, v⟩ := x
  obtain ⟨hU, hR, hv, hl⟩ := ok
  have hs : s.size ≤ 1000000 := Nat.le_trans hU.size hK
  simp only at hl hv
  unfold doR at hr
  by_cases hf : Fit s.size (a, d, t)
  · simp only [if_pos hf] at hr
    by_cases hz : (ap s (a, d, t)).size ≤ 4000
    · simp only [if_pos hz, Prod.mk.injEq] at hr
      obtain ⟨rfl, rfl, rfl⟩ := hr
      exact do_yes F w B s a d t U R v h hup hf hs ht hz (by omega) (by omega)
    · simp only [if_neg hz, Prod.mk.injEq] at hr
      obtain ⟨rfl, rfl, rfl⟩ := hr
      refine (do_limit F w B s a d t U R v h hf hs ht (by omega)).mono ?_
      rintro e w' ⟨rfl, hb⟩
      exact ⟨rfl, h.below hb, Kept.below hb hup⟩
  · simp only [if_neg hf, Prod.mk.injEq] at hr
    obtain ⟨rfl, rfl, rfl⟩ := hr
    refine (do_range F w B s a d t U R v h hf hs ht ha).mono ?_
    rintro e w' ⟨rfl, hb⟩
    exact ⟨rfl, h.below hb, Kept.below hb hup⟩
theorem doR_err (x : St) (e : Ed) : ((doR x e).2.2 = 0 ∧ (doR x e).2.1 = e) ∨ (((doR x e).2.2 = 2 ∨ (doR x e).2.2 = 11) ∧ (doR x e).2.1 = zed) := by
  unfold doR
  split
  · split
    · exact .inl ⟨rfl, rfl⟩
    · exact .inr ⟨.inr rfl, rfl⟩
  · exact .inr ⟨.inl rfl, rfl⟩

theorem Hist.keepOld {F : Nat → Prop} {w w' : World} {a c B : Nat} {s : ByteArray} {U R : List Ed} {v : Nat} (_ : Hist F w B s U R v) (h : Hist (sans F a c) w B s U R v) (hk : ∀ b, sans F a c b → w'.heap[b]? = w.heap[b]?) : Hist F w' B s U R v := by
  obtain ⟨vu, vr, h1, h2, h3, h4, h5, h6, h7⟩ := h
  exact ⟨vu, vr, (hk _ h4).trans h1, ownsRow_keep h2 fun k hk' => hk _ (h5 k hk').1, ownsRow_keep h3 fun k hk' => hk _ (h6 k hk').1, h4.1, fun k hk' => ⟨(h5 k hk').1.1, (h5 k hk').2⟩, fun k hk' => ⟨(h6 k hk').1.1, (h6 k hk').2⟩, h7⟩
theorem rem3 (k : Nat) (hk : k < 256) : (IntKind.u8.wrap (Int.tmod (k : Int) 3)) = ((k % 3 : Nat) : Int) := by
  rw [Int.tmod_eq_emod_of_nonneg (by omega)]
  have : ((k : Int) % 3) = ((k % 3 : Nat) : Int) := by omega
  rw [this]
  have h3 : k % 3 < 3 := Nat.mod_lt _ (by omega)
  revert h3
  generalize k % 3 = j
  intro h3
  match j, h3 with
  | 0, _ => rfl
  | 1, _ => rfl
  | 2, _ => rfl

set_option maxRecDepth 100000 in
set_option maxHeartbeats 4000000 in
theorem run_undo (F : Nat → Prop) (w : World) (B : Nat) (x x' : St) (k : Nat) (a d : Int) (t : ByteArray) (a' d' : Int) (t' : ByteArray) (er : Int) (K n : Nat) (hr : undoR x = (x', (a', d', t'), er)) (h : Hi F w B x) (hup : Up F w) (ok : Ok K n x) (hK : K ≤ 1000000) (hn : n ≤ 900000) (hk : k < 256) (h1 : k % 3 = 1) :
    Calls Try.prog 12 #[.pointer (some ⟨B, 0, none⟩), .agg #[.int .u8 (k : Int), .int .i64 a, .int .i64 d, .string t]] w fun e w' => e = .returned (.tuple #[.agg #[.int .i64 a', .int .i64 d', .string t'], .int .i64 er]) ∧ Hi F w' B x' ∧ Kept F w w' := by
  obtain ⟨W, hW⟩ : ∃ W, W = (w.alloc (.cells #[.int .u8 (k : Int), .int .i64 a, .int .i64 d, .string t] 36)).alloc (.cells #[.int .i64 0, .int .i64 0, .string { data := #[] }] 31) := ⟨_, rfl⟩
  have bW : Below w.heap.size w W := by rw [hW]; exact ((Below.refl _ _).alloc (Nat.le_refl _) _).alloc (by simp) _
  have hsz := show W.heap.size = w.heap.size + 2 by rw [hW]; simp
  have C := hid (undo_any (sans F w.heap.size W.heap.size) W B x x' a' d' t' er K n hr (h.but bW _) (hup.but bW.size _) ok hK hn)
  have HX := hid (show W.heap[w.heap.size]? = some (.cells #[.int .u8 (k : Int), .int .i64 a, .int .i64 d, .string t] 36 (0, 0)) by rw [hW]; exact blk_alloc (alloc_new _ _))
  have HZ := hid (show W.heap[w.heap.size + 1]? = some (.cells #[.int .i64 0, .int .i64 0, .string { data := #[] }] 31 (0, 0)) by rw [hW]; exact alloc_at _ _ (by simp))
  have HW := hid hW
  have HS := hid hsz
  have HP := hid hup
  have hm : (IntKind.u8.wrap (Int.tmod (k : Int) 3)) = 1 := by rw [rem3 k hk, h1]; rfl
  clear hW hsz h
  go_enter Try.func12, Try.ntmps12
  go_wp2_with fail
  rw [← HW.out]
  refine C.out.mono ?_
  rintro e w1 ⟨rfl, hy, ky⟩
  have hb : ∀ b, (b = w.heap.size ∨ b = w.heap.size + 1) → w1.heap[b]? = W.heap[b]? := fun b hb => ky.block b fun h => h.2 (by have := HS.out; omega)
  have XX := (hb _ (.inl rfl)).trans HX.out
  have XZ := (hb _ (.inr rfl)).trans HZ.out
  obtain ⟨z0, z1, z2⟩ := cells3 XZ
  obtain ⟨q0, q1, q2⟩ := frozen3 XZ
  obtain ⟨k0, k1, k2, k3⟩ := cells4 XX
  have hzl := heap_lt XZ
  have HY := hid hy
  have KY := hid ky
  clear hy ky hb XX XZ
  go_wp2
  refine bodyPost_ret (v := .tuple #[.agg #[.int .i64 a', .int .i64 d', .string t'], .int .i64 er]) ?_ rfl ⟨rfl, ?_, ?_⟩
  · simp [results, Try.results12, go_sem, z0, z1, z2]
  · refine (HY.out.unbut.keepOld (c := W.heap.size) HY.out ?_)
    intro b hb
    have hne : b ≠ w.heap.size + 1 := fun e => hb.2 (by have := HS.out; omega)
    rw [heap_setCell_other _ _ _ _ hne, heap_setCell_other _ _ _ _ hne, heap_setCell_other _ _ _ _ hne]
  · have k1 : Kept F w w1 := (Kept.below bW HP.out).trans (KY.out.mono fun b hb => hb.1)
    refine ((k1.setCell ?_ _).setCell ?_ _).setCell ?_ _ <;> exact HP.out _ (by simp)
set_option maxRecDepth 100000 in
set_option maxHeartbeats 4000000 in
theorem run_redo (F : Nat → Prop) (w : World) (B : Nat) (x x' : St) (k : Nat) (a d : Int) (t : ByteArray) (a' d' : Int) (t' : ByteArray) (er : Int) (K n : Nat) (hr : redoR x = (x', (a', d', t'), er)) (h : Hi F w B x) (hup : Up F w) (ok : Ok K n x) (hK : K ≤ 1000000) (hn : n ≤ 900000) (hk : k < 256) (h1 : k % 3 = 2) :
    Calls Try.prog 12 #[.pointer (some ⟨B, 0, none⟩), .agg #[.int .u8 (k : Int), .int .i64 a, .int .i64 d, .string t]] w fun e w' => e = .returned (.tuple #[.agg #[.int .i64 a', .int .i64 d', .string t'], .int .i64 er]) ∧ Hi F w' B x' ∧ Kept F w w' := by
  obtain ⟨W, hW⟩ : ∃ W, W = (w.alloc (.cells #[.int .u8 (k : Int), .int .i64 a, .int .i64 d, .string t] 36)).alloc (.cells #[.int .i64 0, .int .i64 0, .string { data := #[] }] 31) := ⟨_, rfl⟩
  have bW : Below w.heap.size w W := by rw [hW]; exact ((Below.refl _ _).alloc (Nat.le_refl _) _).alloc (by simp) _
  have hsz := show W.heap.size = w.heap.size + 2 by rw [hW]; simp
  have C := hid (redo_any (sans F w.heap.size W.heap.size) W B x x' a' d' t' er K n hr (h.but bW _) (hup.but bW.size _) ok hK hn)
  have HX := hid (show W.heap[w.heap.size]? = some (.cells #[.int .u8 (k : Int), .int .i64 a, .int .i64 d, .string t] 36 (0, 0)) by rw [hW]; exact blk_alloc (alloc_new _ _))
  have HZ := hid (show W.heap[w.heap.size + 1]? = some (.cells #[.int .i64 0, .int .i64 0, .string { data := #[] }] 31 (0, 0)) by rw [hW]; exact alloc_at _ _ (by simp))
  have HW := hid hW
  have HS := hid hsz
  have HP := hid hup
  have hm : (IntKind.u8.wrap (Int.tmod (k : Int) 3)) = 2 := by rw [rem3 k hk, h1]; rfl
  clear hW hsz h
  go_enter Try.func12, Try.ntmps12
  go_wp2_with fail
  rw [← HW.out]
  refine C.out.mono ?_
  rintro e w1 ⟨rfl, hy, ky⟩
  have hb : ∀ b, (b = w.heap.size ∨ b = w.heap.size + 1) → w1.heap[b]? = W.heap[b]? := fun b hb => ky.block b fun h => h.2 (by have := HS.out; omega)
  have XX := (hb _ (.inl rfl)).trans HX.out
  have XZ := (hb _ (.inr rfl)).trans HZ.out
  obtain ⟨z0, z1, z2⟩ := cells3 XZ
  obtain ⟨q0, q1, q2⟩ := frozen3 XZ
  obtain ⟨k0, k1, k2, k3⟩ := cells4 XX
  have hzl := heap_lt XZ
  have HY := hid hy
  have KY := hid ky
  clear hy ky hb XX XZ
  go_wp2
  refine bodyPost_ret (v := .tuple #[.agg #[.int .i64 a', .int .i64 d', .string t'], .int .i64 er]) ?_ rfl ⟨rfl, ?_, ?_⟩
  · simp [results, Try.results12, go_sem, z0, z1, z2]
  · refine (HY.out.unbut.keepOld (c := W.heap.size) HY.out ?_)
    intro b hb
    have hne : b ≠ w.heap.size + 1 := fun e => hb.2 (by have := HS.out; omega)
    rw [heap_setCell_other _ _ _ _ hne, heap_setCell_other _ _ _ _ hne, heap_setCell_other _ _ _ _ hne]
  · have k1 : Kept F w w1 := (Kept.below bW HP.out).trans (KY.out.mono fun b hb => hb.1)
    refine ((k1.setCell ?_ _).setCell ?_ _).setCell ?_ _ <;> exact HP.out _ (by simp)
set_option maxRecDepth 100000 in
set_option maxHeartbeats 4000000 in
theorem run_do_yes (F : Nat → Prop) (w : World) (B : Nat) (x x' : St) (k : Nat) (a d : Int) (t : ByteArray) (K n : Nat) (hr : doR x (a, d, t) = (x', (a, d, t), 0)) (h : Hi F w B x) (hup : Up F w) (ok : Ok K n x) (hK : K ≤ 1000000) (hn : n ≤ 900000) (hk : k < 256) (h1 : k % 3 = 0) (ht : t.size ≤ 1000000) (ha : a ≤ 9223372036854775807) :
    Calls Try.prog 12 #[.pointer (some ⟨B, 0, none⟩), .agg #[.int .u8 (k : Int), .int .i64 a, .int .i64 d, .string t]] w fun e w' => e = .returned (.tuple #[.agg #[.int .i64 a, .int .i64 d, .string t], .int .i64 0]) ∧ Hi F w' B x' ∧ Kept F w w' := by
  obtain ⟨W, hW⟩ : ∃ W, W = (w.alloc (.cells #[.int .u8 (k : Int), .int .i64 a, .int .i64 d, .string t] 36)).alloc (.cells #[.int .i64 0, .int .i64 0, .string { data := #[] }] 31) := ⟨_, rfl⟩
  have bW : Below w.heap.size w W := by rw [hW]; exact ((Below.refl _ _).alloc (Nat.le_refl _) _).alloc (by simp) _
  have hsz := show W.heap.size = w.heap.size + 2 by rw [hW]; simp
  have C := hid (do_any (sans F w.heap.size W.heap.size) W B x x' a d t (a, d, t) 0 K n hr (h.but bW _) (hup.but bW.size _) ok hK hn ht ha)
  have HX := hid (show W.heap[w.heap.size]? = some (.cells #[.int .u8 (k : Int), .int .i64 a, .int .i64 d, .string t] 36 (0, 0)) by rw [hW]; exact blk_alloc (alloc_new _ _))
  have HZ := hid (show W.heap[w.heap.size + 1]? = some (.cells #[.int .i64 0, .int .i64 0, .string { data := #[] }] 31 (0, 0)) by rw [hW]; exact alloc_at _ _ (by simp))
  have HW := hid hW
  have HS := hid hsz
  have HP := hid hup
  have hm : (IntKind.u8.wrap (Int.tmod (k : Int) 3)) = 0 := by rw [rem3 k hk, h1]; rfl
  obtain ⟨y0, y1, y2, y3⟩ := cells4 HX.out
  rw [hW] at y0 y1 y2 y3
  clear hW hsz h
  go_enter Try.func12, Try.ntmps12
  go_wp2_with fail
  rw [← HW.out]
  clear y0 y1 y2 y3
  refine C.out.mono ?_
  rintro e w1 ⟨rfl, hy, ky⟩
  have hb : ∀ b, (b = w.heap.size ∨ b = w.heap.size + 1) → w1.heap[b]? = W.heap[b]? := fun b hb => ky.block b fun h => h.2 (by have := HS.out; omega)
  have XX := (hb _ (.inl rfl)).trans HX.out
  have XZ := (hb _ (.inr rfl)).trans HZ.out
  obtain ⟨z0, z1, z2⟩ := cells3 XZ
  obtain ⟨q0, q1, q2⟩ := frozen3 XZ
  obtain ⟨k0, k1, k2, k3⟩ := cells4 XX
  have hzl := heap_lt XZ
  have HY := hid hy
  have KY := hid ky
  clear hy ky hb XX XZ
  go_wp2
  refine bodyPost_ret (v := .tuple #[.agg #[.int .i64 a, .int .i64 d, .string t], .int .i64 0]) ?_ rfl ⟨rfl, ?_, ?_⟩
  · simp [results, Try.results12, go_sem, z0, z1, z2]
  · refine (HY.out.unbut.keepOld (c := W.heap.size) HY.out ?_)
    intro b hb
    have hne : b ≠ w.heap.size + 1 := fun e => hb.2 (by have := HS.out; omega)
    rw [heap_setCell_other _ _ _ _ hne, heap_setCell_other _ _ _ _ hne, heap_setCell_other _ _ _ _ hne]
  · have k1 : Kept F w w1 := (Kept.below bW HP.out).trans (KY.out.mono fun b hb => hb.1)
    refine ((k1.setCell ?_ _).setCell ?_ _).setCell ?_ _ <;> exact HP.out _ (by simp)
set_option maxRecDepth 100000 in
set_option maxHeartbeats 4000000 in
theorem run_do_no (F : Nat → Prop) (w : World) (B : Nat) (x x' : St) (k : Nat) (a d : Int) (t : ByteArray) (er : Int) (K n : Nat) (hr : doR x (a, d, t) = (x', zed, er)) (her : er = 2 ∨ er = 11) (h : Hi F w B x) (hup : Up F w) (ok : Ok K n x) (hK : K ≤ 1000000) (hn : n ≤ 900000) (hk : k < 256) (h1 : k % 3 = 0) (ht : t.size ≤ 1000000) (ha : a ≤ 9223372036854775807) :
    Calls Try.prog 12 #[.pointer (some ⟨B, 0, none⟩), .agg #[.int .u8 (k : Int), .int .i64 a, .int .i64 d, .string t]] w fun e w' => e = .returned (.tuple #[.agg #[.int .i64 0, .int .i64 0, .string { data := #[] }], .int .i64 er]) ∧ Hi F w' B x' ∧ Kept F w w' := by
  obtain ⟨W, hW⟩ : ∃ W, W = (w.alloc (.cells #[.int .u8 (k : Int), .int .i64 a, .int .i64 d, .string t] 36)).alloc (.cells #[.int .i64 0, .int .i64 0, .string { data := #[] }] 31) := ⟨_, rfl⟩
  have bW : Below w.heap.size w W := by rw [hW]; exact ((Below.refl _ _).alloc (Nat.le_refl _) _).alloc (by simp) _
  have hsz := show W.heap.size = w.heap.size + 2 by rw [hW]; simp
  have C := hid (do_any (sans F w.heap.size W.heap.size) W B x x' a d t zed er K n hr (h.but bW _) (hup.but bW.size _) ok hK hn ht ha)
  have HX := hid (show W.heap[w.heap.size]? = some (.cells #[.int .u8 (k : Int), .int .i64 a, .int .i64 d, .string t] 36 (0, 0)) by rw [hW]; exact blk_alloc (alloc_new _ _))
  have HZ := hid (show W.heap[w.heap.size + 1]? = some (.cells #[.int .i64 0, .int .i64 0, .string { data := #[] }] 31 (0, 0)) by rw [hW]; exact alloc_at _ _ (by simp))
  have HW := hid hW
  have HS := hid hsz
  have HP := hid hup
  have hm : (IntKind.u8.wrap (Int.tmod (k : Int) 3)) = 0 := by rw [rem3 k hk, h1]; rfl
  have he0 : ¬ er = 0 := by omega
  have he1 : (er == 0) = false := beq_eq_false_iff_ne.2 he0
  obtain ⟨y0, y1, y2, y3⟩ := cells4 HX.out
  rw [hW] at y0 y1 y2 y3
  clear hW hsz h
  go_enter Try.func12, Try.ntmps12
  go_wp2_with fail
  rw [← HW.out]
  clear y0 y1 y2 y3
  refine C.out.mono ?_
  rintro e w1 ⟨rfl, hy, ky⟩
  have hb : ∀ b, (b = w.heap.size ∨ b = w.heap.size + 1) → w1.heap[b]? = W.heap[b]? := fun b hb => ky.block b fun h => h.2 (by have := HS.out; omega)
  have XX := (hb _ (.inl rfl)).trans HX.out
  have XZ := (hb _ (.inr rfl)).trans HZ.out
  obtain ⟨z0, z1, z2⟩ := cells3 XZ
  obtain ⟨q0, q1, q2⟩ := frozen3 XZ
  obtain ⟨k0, k1, k2, k3⟩ := cells4 XX
  have hzl := heap_lt XZ
  have HY := hid hy
  have KY := hid ky
  clear hy ky hb XX XZ
  go_wp2
  refine bodyPost_ret (v := .tuple #[.agg #[.int .i64 0, .int .i64 0, .string { data := #[] }], .int .i64 er]) ?_ rfl ⟨rfl, ?_, ?_⟩
  · simp [results, Try.results12, go_sem, z0, z1, z2]
  · refine (HY.out.unbut.keepOld (c := W.heap.size) HY.out ?_)
    intro b hb
    have hne : b ≠ w.heap.size + 1 := fun e => hb.2 (by have := HS.out; omega)
    rw [heap_setCell_other _ _ _ _ hne, heap_setCell_other _ _ _ _ hne, heap_setCell_other _ _ _ _ hne]
  · have k1 : Kept F w w1 := (Kept.below bW HP.out).trans (KY.out.mono fun b hb => hb.1)
    refine ((k1.setCell ?_ _).setCell ?_ _).setCell ?_ _ <;> exact HP.out _ (by simp)
theorem run_any (F : Nat → Prop) (w : World) (B : Nat) (x x' : St) (k : Nat) (a d : Int) (t : ByteArray) (a' d' : Int) (t' : ByteArray) (er : Int) (K n : Nat) (hr : runR x k (a, d, t) = (x', (a', d', t'), er)) (h : Hi F w B x) (hup : Up F w) (ok : Ok K n x) (hK : K ≤ 1000000) (hn : n ≤ 900000) (hk : k < 256) (ht : t.size ≤ 1000000) (ha : a ≤ 9223372036854775807) :
    Calls Try.prog 12 #[.pointer (some ⟨B, 0, none⟩), .agg #[.int .u8 (k : Int), .int .i64 a, .int .i64 d, .string t]] w fun e w' => e = .returned (.tuple #[.agg #[.int .i64 a', .int .i64 d', .string t'], .int .i64 er]) ∧ Hi F w' B x' ∧ Kept F w w' := by
  unfold runR at hr
  by_cases h1 : k % 3 = 1
  · rw [if_pos h1] at hr
    exact run_undo F w B x x' k a d t a' d' t' er K n hr h hup ok hK hn hk h1
  · rw [if_neg h1] at hr
    by_cases h2 : k % 3 = 2
    · rw [if_pos h2] at hr
      exact run_redo F w B x x' k a d t a' d' t' er K n hr h hup ok hK hn hk h2
    · rw [if_neg h2] at hr
      have h0 : k % 3 = 0 := by omega
      have hd := doR_err x (a, d, t)
      rw [hr] at hd
      simp only [zed, Prod.mk.injEq] at hd
      rcases hd with ⟨rfl, rfl, rfl, rfl⟩ | ⟨her, rfl, rfl, rfl⟩
      · exact run_do_yes F w B x x' k a' d' t' K n hr h hup ok hK hn hk h0 ht ha
      · exact run_do_no F w B x x' k a d t er K n hr her h hup ok hK hn hk h0 ht ha
end Go.Proofs.Ytfhdbenomkbfjaa
