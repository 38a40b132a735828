/-
  Contracts: the reference's Do in one, Run.
-/
import Derived.Test.YtfhdbenomkbfjaaW
set_option linter.unusedSimpArgs false
set_option linter.unusedVariables false
namespace Go.Proofs.Ytfhdbenomkbfjaa
open Go.RowKit Te Go.Frame
theorem rdo_any (S0 : ByteArray) (p : Option Addr) (n c : Nat) (E : List Ed) (k : Nat) (x x' : St) (a d : Int) (t : ByteArray) (z : Ed) (er : Int) (K : Nat) (w : World) (h : Ta K S0 E k x) (hr' : doR x (a, d, t) = (x', z, er)) (hK : K ≤ 1000000) (hK4 : 4000 ≤ K) (hk9 : k ≤ 900000) (hv9 : x.v ≤ 900000) (ht : t.size ≤ 1000000) (hc : n ≤ c) (hr : ERow w p n E) :
    Calls Try.prog 25 #[.agg #[.string S0, .slice p n c, .int .i64 (k : Int), .int .i64 (x.v : Int)], .agg #[.int .i64 a, .int .i64 d, .string t]] w fun e w' => DoRes K S0 p n x' er w e w' := by
  unfold doR at hr'
  by_cases hf : Fit x.s.size (a, d, t)
  · rw [if_pos hf] at hr'
    by_cases hz : (ap x.s (a, d, t)).size ≤ 4000
    · rw [if_pos hz] at hr'
      simp only [Prod.mk.injEq] at hr'
      obtain ⟨rfl, rfl, rfl⟩ := hr'
      by_cases hk0 : k = 0
      · subst hk0
        exact rdo_yes0 S0 p n c E x _ a d t K w h hf hz rfl hK4 hK hv9 ht hc hr
      · exact rdo_yes1 S0 p n c E k x _ a d t K w h hf hz rfl hK4 (by omega) hK hk9 hv9 ht hc hr
    · rw [if_neg hz] at hr'
      simp only [Prod.mk.injEq] at hr'
      obtain ⟨rfl, rfl, rfl⟩ := hr'
      exact rdo_limit S0 p n c E k x a d t K w h hf (by omega) hK hk9 hv9 ht hc hr
  · rw [if_neg hf] at hr'
    simp only [Prod.mk.injEq] at hr'
    obtain ⟨rfl, rfl, rfl⟩ := hr'
    exact rdo_range S0 p n c E k x a d t K w h hf hK hk9 hv9 ht hc hr
theorem rundo_any (S0 : ByteArray) (p : Option Addr) (n c : Nat) (E : List Ed) (k : Nat) (x x' : St) (a d : Int) (t : ByteArray) (er : Int) (K : Nat) (w : World) (h : Ta K S0 E k x) (hr' : undoR x = (x', (a, d, t), er)) (hK : K ≤ 1000000) (hn9 : n ≤ 900000) (hv9 : x.v ≤ 900000) (hc : n ≤ c) (hr : ERow w p n E) :
    Calls Try.prog 23 #[.agg #[.string S0, .slice p n c, .int .i64 (k : Int), .int .i64 (x.v : Int)]] w fun e w' => RunRes K S0 p n x' a d t er w e w' := by
  cases k with
  | zero =>
    obtain ⟨h1, _⟩ := ta_undo0 h
    rw [h1] at hr'
    simp only [zed, Prod.mk.injEq] at hr'
    obtain ⟨rfl, ⟨rfl, rfl, rfl⟩, rfl⟩ := hr'
    exact rundo_no S0 p n c E x K w h hc hr
  | succ k =>
    obtain ⟨s, U, R, v⟩ := x
    obtain ⟨u, ⟨ea, ed, et⟩, h1, h2, h3, h4, h5, h6, h7, h8⟩ := Tale.undo h
    simp only at h4 h5 h6 h7
    subst h5
    simp only [undoR, h6, h7, Prod.mk.injEq] at hr'
    obtain ⟨rfl, hi, rfl⟩ := hr'
    have hm := tale_at h (i := k) (by omega)
    obtain ⟨u', e', g1, _, _, _, _, g6⟩ := hm
    rw [h1] at g1
    simp only [Option.some.injEq] at g1
    subst g1
    exact rundo_yes S0 p n c E k ⟨s, _, R, v⟩ ⟨u, ivs S0 (E.take k), (ea, ed, et) :: R, v + 1⟩ ea ed et a d t K w h1 h8 h3 hi rfl (by simp only at hv9; show v ≤ 1000000; omega) (by omega) hK (Nat.le_trans g6 hK) hc hr
theorem rredo_any (S0 : ByteArray) (p : Option Addr) (n c : Nat) (E : List Ed) (k : Nat) (x x' : St) (a d : Int) (t : ByteArray) (er : Int) (K : Nat) (w : World) (h : Ta K S0 E k x) (hr' : redoR x = (x', (a, d, t), er)) (hn9 : n ≤ 900000) (hv9 : x.v ≤ 900000) (hc : n ≤ c) (hr : ERow w p n E) :
    Calls Try.prog 24 #[.agg #[.string S0, .slice p n c, .int .i64 (k : Int), .int .i64 (x.v : Int)]] w fun e w' => RunRes K S0 p n x' a d t er w e w' := by
  by_cases hk : k < E.length
  · obtain ⟨s, U, R, v⟩ := x
    obtain ⟨⟨ea, ed, et⟩, R', h1, h2, h3, h4⟩ := Tale.redo h hk
    simp only at h2 h3 h4
    subst h2
    simp only [redoR, Prod.mk.injEq] at hr'
    obtain ⟨rfl, ⟨rfl, rfl, rfl⟩, rfl⟩ := hr'
    exact rredo_yes S0 p n c E k ⟨s, U, _, v⟩ _ _ _ _ K w h1 h4 rfl (by simp only at hv9; show v ≤ 1000000; omega) (by omega) hc hr
  · have hkn : k = n := by have := h.le; have := hr.1; omega
    subst hkn
    rw [ta_redo0 h hk] at hr'
    simp only [zed, Prod.mk.injEq] at hr'
    obtain ⟨rfl, ⟨rfl, rfl, rfl⟩, rfl⟩ := hr'
    exact rredo_no S0 p k c E x K w h hc hr
theorem four (w : World) (o1 o2 o3 o4 : Obj) : ((((w.alloc o1).alloc o2).alloc o3).alloc o4).heap[w.heap.size]? = some o1 ∧ ((((w.alloc o1).alloc o2).alloc o3).alloc o4).heap[w.heap.size + 1]? = some o2 ∧ ((((w.alloc o1).alloc o2).alloc o3).alloc o4).heap[w.heap.size + 1 + 1]? = some o3 ∧ ((((w.alloc o1).alloc o2).alloc o3).alloc o4).heap[w.heap.size + 1 + 1 + 1]? = some o4 ∧
    Below w.heap.size w ((((w.alloc o1).alloc o2).alloc o3).alloc o4) ∧ ((((w.alloc o1).alloc o2).alloc o3).alloc o4).heap.size = w.heap.size + 4 := by
  obtain ⟨h1, h2, h3, h4, h5⟩ := three w o1 o2 o3
  exact ⟨blk_alloc h1, blk_alloc h2, blk_alloc h3, alloc_at _ _ (by rw [h5]), h4.alloc h4.size _, by simp⟩
theorem erow_far {w W1 : World} {p p' : Option Addr} {n n' lim B i : Nat} {E E' : List Ed} {u : Value} (h : ERow W1 p' n' E') (hp : (p' = p ∧ n' = n) ∨ ∀ a, p' = some a → lim ≤ a.block) (hr : ERow w p n E) (hw : w.heap.size ≤ B) (hB : B < lim) : ERow (W1.setCell ⟨B, i, none⟩ u) p' n' E' := by
  refine ⟨h.1, ?_⟩
  rcases h.2 with h0 | ⟨b, off, rfl, hb, hx⟩
  · exact .inl h0
  · by_cases hn : n' = 0
    · exact .inl hn
    · have hne : b ≠ B := by
        rcases hp with ⟨rfl, rfl⟩ | hp
        · obtain ⟨b', off', he, hb', _⟩ := hr.2.resolve_left hn
          simp only [Option.some.injEq, Addr.mk.injEq] at he
          omega
        · have := hp _ rfl
          simp only at this
          omega
      refine .inr ⟨b, off, rfl, by simpa using hb, fun j y hy => ?_⟩
      obtain ⟨c0, c1, c2⟩ := hx j y hy
      refine ⟨?_, ?_, ?_⟩
      · rw [World.cell?_setCell_other _ _ _ _ (fun e => hne (congrArg Addr.block e).symm)]; exact c0
      · rw [World.cell?_setCell_other _ _ _ _ (fun e => hne (congrArg Addr.block e).symm)]; exact c1
      · rw [World.cell?_setCell_other _ _ _ _ (fun e => hne (congrArg Addr.block e).symm)]; exact c2
set_option maxRecDepth 100000 in
set_option maxHeartbeats 8000000 in
theorem rrun_undo (S0 : ByteArray) (p : Option Addr) (n c : Nat) (E : List Ed) (k : Nat) (x x' : St) (kd : Nat) (a d : Int) (t : ByteArray) (a' d' : Int) (t' : ByteArray) (er : Int) (K : Nat) (w : World) (h : Ta K S0 E k x) (hr' : undoR x = (x', (a', d', t'), er)) (hK : K ≤ 1000000) (hn9 : n ≤ 900000) (hv9 : x.v ≤ 900000) (hc : n ≤ c) (hr : ERow w p n E) (hkd : kd < 256) (h1 : kd % 3 = 1) :
    Calls Try.prog 13 #[.agg #[.string S0, .slice p n c, .int .i64 (k : Int), .int .i64 (x.v : Int)], .agg #[.int .u8 (kd : Int), .int .i64 a, .int .i64 d, .string t]] w fun e w' => RunRes K S0 p n x' a' d' t' er w e w' := by
  obtain ⟨hx0, hx1, hx2, hx3, bW, hsz⟩ := four w (stc S0 p n c k x.v) (.cells #[.int .u8 (kd : Int), .int .i64 a, .int .i64 d, .string t] 36) (stc { data := #[] } none 0 0 0 0) (edc 0 0 { data := #[] })
  obtain ⟨W, hW⟩ : ∃ W, W = (((w.alloc (stc S0 p n c k x.v)).alloc (.cells #[.int .u8 (kd : Int), .int .i64 a, .int .i64 d, .string t] 36)).alloc (stc { data := #[] } none 0 0 0 0)).alloc (edc 0 0 { data := #[] }) := ⟨_, rfl⟩
  rw [← hW] at hx0 hx1 hx2 hx3 bW hsz
  have C := hid (rundo_any S0 p n c E k x x' a' d' t' er K W h hr' hK hn9 hv9 hc (hr.below bW))
  simp only [stc, edc] at hx0 hx1 hx2 hx3 hW
  have X2 := hid hx2
  have X3 := hid hx3
  obtain ⟨k0, k1, k2, k3⟩ := cells4 hx0
  obtain ⟨e0, e1, e2, e3⟩ := cells4 hx1
  rw [hW] at k0 k1 k2 k3 e0 e1 e2 e3
  have RW := hid hr
  have HB := hid bW
  have HSZ := hid hsz
  have HW := hid hW
  have hm : (kd : Int) % 3 = 1 := by omega
  have hkd' : (kd : Int) ≤ 255 := by omega
  clear h hr' hr hx0 hx1 hx2 hx3 bW hsz hW h1
  go_enter Try.func13, Try.ntmps13
  go_wp2_with fail
  rw [← HW.out]
  refine C.out.mono ?_
  rintro e w1 ⟨p', n', c', k', E', rfl, hE, hcc, hT, hp, hb⟩
  clear k0 k1 k2 k3 e0 e1 e2 e3
  have Y2 := (hb.block _ (heap_lt X2.out)).trans X2.out
  have Y3 := (hb.block _ (heap_lt X3.out)).trans X3.out
  obtain ⟨z0, z1, z2, z3⟩ := cells4 Y2
  obtain ⟨f0, f1, f2, f3⟩ := frozen4 Y2
  obtain ⟨y0, y1, y2⟩ := cells3 Y3
  obtain ⟨g0, g1, g2⟩ := frozen3 Y3
  have hl2 := heap_lt Y2
  have hl3 := heap_lt Y3
  have HE := hid hE
  have HT := hid hT
  have HP := hid hp
  have HBB := hid hb
  clear hE hT hp hb Y2 Y3
  go_wp2
  have HB2 : Below w.heap.size w w1 := HB.out.trans (HBB.out.mono HB.out.size)
  have hE : ERow (((((((w1.setCell ⟨w.heap.size + 1 + 1, 0, none⟩ (.string S0)).setCell ⟨w.heap.size + 1 + 1, 1, none⟩ (.slice p' n' c')).setCell ⟨w.heap.size + 1 + 1, 2, none⟩ (.int .i64 (k' : Int))).setCell ⟨w.heap.size + 1 + 1, 3, none⟩ (.int .i64 (x'.v : Int))).setCell ⟨w.heap.size + 1 + 1 + 1, 0, none⟩ (.int .i64 a')).setCell ⟨w.heap.size + 1 + 1 + 1, 1, none⟩ (.int .i64 d')).setCell ⟨w.heap.size + 1 + 1 + 1, 2, none⟩ (.string t')) p' n' E' := by
    repeat (refine erow_far ?_ HP.out RW.out (by omega) (by have := HSZ.out; omega))
    exact HE.out
  have hw : Below w.heap.size w (((((((w1.setCell ⟨w.heap.size + 1 + 1, 0, none⟩ (.string S0)).setCell ⟨w.heap.size + 1 + 1, 1, none⟩ (.slice p' n' c')).setCell ⟨w.heap.size + 1 + 1, 2, none⟩ (.int .i64 (k' : Int))).setCell ⟨w.heap.size + 1 + 1, 3, none⟩ (.int .i64 (x'.v : Int))).setCell ⟨w.heap.size + 1 + 1 + 1, 0, none⟩ (.int .i64 a')).setCell ⟨w.heap.size + 1 + 1 + 1, 1, none⟩ (.int .i64 d')).setCell ⟨w.heap.size + 1 + 1 + 1, 2, none⟩ (.string t')) := by
    repeat (refine Below.setCell ?_ (by first | (simp; done) | (simp; omega)) _)
    exact HB2
  refine bodyPost_ret (v := .tuple #[.agg #[.string S0, .slice p' n' c', .int .i64 (k' : Int), .int .i64 (x'.v : Int)], .agg #[.int .i64 a', .int .i64 d', .string t'], .int .i64 er]) ?_ rfl ⟨p', n', c', k', E', rfl, hE, hcc, HT.out, HP.out.imp id (fun h q hq => Nat.le_trans HB.out.size (h q hq)), hw⟩
  simp [results, Try.results13, go_sem, z0, z1, z2, z3, y0, y1, y2]
set_option maxRecDepth 100000 in
set_option maxHeartbeats 8000000 in
theorem rrun_redo (S0 : ByteArray) (p : Option Addr) (n c : Nat) (E : List Ed) (k : Nat) (x x' : St) (kd : Nat) (a d : Int) (t : ByteArray) (a' d' : Int) (t' : ByteArray) (er : Int) (K : Nat) (w : World) (h : Ta K S0 E k x) (hr' : redoR x = (x', (a', d', t'), er)) (hK : K ≤ 1000000) (hn9 : n ≤ 900000) (hv9 : x.v ≤ 900000) (hc : n ≤ c) (hr : ERow w p n E) (hkd : kd < 256) (h1 : kd % 3 = 2) :
    Calls Try.prog 13 #[.agg #[.string S0, .slice p n c, .int .i64 (k : Int), .int .i64 (x.v : Int)], .agg #[.int .u8 (kd : Int), .int .i64 a, .int .i64 d, .string t]] w fun e w' => RunRes K S0 p n x' a' d' t' er w e w' := by
  obtain ⟨hx0, hx1, hx2, hx3, bW, hsz⟩ := four w (stc S0 p n c k x.v) (.cells #[.int .u8 (kd : Int), .int .i64 a, .int .i64 d, .string t] 36) (stc { data := #[] } none 0 0 0 0) (edc 0 0 { data := #[] })
  obtain ⟨W, hW⟩ : ∃ W, W = (((w.alloc (stc S0 p n c k x.v)).alloc (.cells #[.int .u8 (kd : Int), .int .i64 a, .int .i64 d, .string t] 36)).alloc (stc { data := #[] } none 0 0 0 0)).alloc (edc 0 0 { data := #[] }) := ⟨_, rfl⟩
  rw [← hW] at hx0 hx1 hx2 hx3 bW hsz
  have C := hid (rredo_any S0 p n c E k x x' a' d' t' er K W h hr' hn9 hv9 hc (hr.below bW))
  simp only [stc, edc] at hx0 hx1 hx2 hx3 hW
  have X2 := hid hx2
  have X3 := hid hx3
  obtain ⟨k0, k1, k2, k3⟩ := cells4 hx0
  obtain ⟨e0, e1, e2, e3⟩ := cells4 hx1
  rw [hW] at k0 k1 k2 k3 e0 e1 e2 e3
  have RW := hid hr
  have HB := hid bW
  have HSZ := hid hsz
  have HW := hid hW
  have hm : (kd : Int) % 3 = 2 := by omega
  have hkd' : (kd : Int) ≤ 255 := by omega
  clear h hr' hr hx0 hx1 hx2 hx3 bW hsz hW h1
  go_enter Try.func13, Try.ntmps13
  go_wp2_with fail
  rw [← HW.out]
  refine C.out.mono ?_
  rintro e w1 ⟨p', n', c', k', E', rfl, hE, hcc, hT, hp, hb⟩
  clear k0 k1 k2 k3 e0 e1 e2 e3
  have Y2 := (hb.block _ (heap_lt X2.out)).trans X2.out
  have Y3 := (hb.block _ (heap_lt X3.out)).trans X3.out
  obtain ⟨z0, z1, z2, z3⟩ := cells4 Y2
  obtain ⟨f0, f1, f2, f3⟩ := frozen4 Y2
  obtain ⟨y0, y1, y2⟩ := cells3 Y3
  obtain ⟨g0, g1, g2⟩ := frozen3 Y3
  have hl2 := heap_lt Y2
  have hl3 := heap_lt Y3
  have HE := hid hE
  have HT := hid hT
  have HP := hid hp
  have HBB := hid hb
  clear hE hT hp hb Y2 Y3
  go_wp2
  have HB2 : Below w.heap.size w w1 := HB.out.trans (HBB.out.mono HB.out.size)
  have hE : ERow (((((((w1.setCell ⟨w.heap.size + 1 + 1, 0, none⟩ (.string S0)).setCell ⟨w.heap.size + 1 + 1, 1, none⟩ (.slice p' n' c')).setCell ⟨w.heap.size + 1 + 1, 2, none⟩ (.int .i64 (k' : Int))).setCell ⟨w.heap.size + 1 + 1, 3, none⟩ (.int .i64 (x'.v : Int))).setCell ⟨w.heap.size + 1 + 1 + 1, 0, none⟩ (.int .i64 a')).setCell ⟨w.heap.size + 1 + 1 + 1, 1, none⟩ (.int .i64 d')).setCell ⟨w.heap.size + 1 + 1 + 1, 2, none⟩ (.string t')) p' n' E' := by
    repeat (refine erow_far ?_ HP.out RW.out (by omega) (by have := HSZ.out; omega))
    exact HE.out
  have hw : Below w.heap.size w (((((((w1.setCell ⟨w.heap.size + 1 + 1, 0, none⟩ (.string S0)).setCell ⟨w.heap.size + 1 + 1, 1, none⟩ (.slice p' n' c')).setCell ⟨w.heap.size + 1 + 1, 2, none⟩ (.int .i64 (k' : Int))).setCell ⟨w.heap.size + 1 + 1, 3, none⟩ (.int .i64 (x'.v : Int))).setCell ⟨w.heap.size + 1 + 1 + 1, 0, none⟩ (.int .i64 a')).setCell ⟨w.heap.size + 1 + 1 + 1, 1, none⟩ (.int .i64 d')).setCell ⟨w.heap.size + 1 + 1 + 1, 2, none⟩ (.string t')) := by
    repeat (refine Below.setCell ?_ (by first | (simp; done) | (simp; omega)) _)
    exact HB2
  refine bodyPost_ret (v := .tuple #[.agg #[.string S0, .slice p' n' c', .int .i64 (k' : Int), .int .i64 (x'.v : Int)], .agg #[.int .i64 a', .int .i64 d', .string t'], .int .i64 er]) ?_ rfl ⟨p', n', c', k', E', rfl, hE, hcc, HT.out, HP.out.imp id (fun h q hq => Nat.le_trans HB.out.size (h q hq)), hw⟩
  simp [results, Try.results13, go_sem, z0, z1, z2, z3, y0, y1, y2]
set_option maxRecDepth 100000 in
set_option maxHeartbeats 8000000 in
theorem rrun_do_yes (S0 : ByteArray) (p : Option Addr) (n c : Nat) (E : List Ed) (k : Nat) (x x' : St) (kd : Nat) (a d : Int) (t : ByteArray) (K : Nat) (w : World) (h : Ta K S0 E k x) (hr' : doR x (a, d, t) = (x', (a, d, t), 0)) (hK : K ≤ 1000000) (hn9 : n ≤ 900000) (hv9 : x.v ≤ 900000) (hc : n ≤ c) (hr : ERow w p n E) (hkd : kd < 256) (h1 : kd % 3 = 0) (hk9 : k ≤ 900000) (hK4 : 4000 ≤ K) (ht : t.size ≤ 1000000) :
    Calls Try.prog 13 #[.agg #[.string S0, .slice p n c, .int .i64 (k : Int), .int .i64 (x.v : Int)], .agg #[.int .u8 (kd : Int), .int .i64 a, .int .i64 d, .string t]] w fun e w' => RunRes K S0 p n x' a d t 0 w e w' := by
  obtain ⟨hx0, hx1, hx2, hx3, bW, hsz⟩ := four w (stc S0 p n c k x.v) (.cells #[.int .u8 (kd : Int), .int .i64 a, .int .i64 d, .string t] 36) (stc { data := #[] } none 0 0 0 0) (edc 0 0 { data := #[] })
  obtain ⟨W, hW⟩ : ∃ W, W = (((w.alloc (stc S0 p n c k x.v)).alloc (.cells #[.int .u8 (kd : Int), .int .i64 a, .int .i64 d, .string t] 36)).alloc (stc { data := #[] } none 0 0 0 0)).alloc (edc 0 0 { data := #[] }) := ⟨_, rfl⟩
  rw [← hW] at hx0 hx1 hx2 hx3 bW hsz
  have C := hid (rdo_any S0 p n c E k x x' a d t _ 0 K W h hr' hK hK4 hk9 hv9 ht hc (hr.below bW))
  simp only [stc, edc] at hx0 hx1 hx2 hx3 hW
  have X2 := hid hx2
  have X3 := hid hx3
  have X1 := hid hx1
  obtain ⟨k0, k1, k2, k3⟩ := cells4 hx0
  obtain ⟨e0, e1, e2, e3⟩ := cells4 hx1
  rw [hW] at k0 k1 k2 k3 e0 e1 e2 e3
  have RW := hid hr
  have HB := hid bW
  have HSZ := hid hsz
  have HW := hid hW
  have hm : (kd : Int) % 3 = 0 := by omega
  have hkd' : (kd : Int) ≤ 255 := by omega
  clear h hr' hr hx0 hx1 hx2 hx3 bW hsz hW h1
  go_enter Try.func13, Try.ntmps13
  go_wp2_with fail
  rw [← HW.out]
  refine C.out.mono ?_
  rintro e w1 ⟨p', n', c', k', E', rfl, hE, hcc, hT, hp, hb⟩
  clear k0 k1 k2 k3 e0 e1 e2 e3
  have hbx := hb.alloc hb.size (stc S0 p' n' c' k' x'.v)
  have Y1 := (hbx.block _ (heap_lt X1.out)).trans X1.out
  have Y2 := (hbx.block _ (heap_lt X2.out)).trans X2.out
  have Y3 := (hbx.block _ (heap_lt X3.out)).trans X3.out
  have Y4 := alloc_new w1 (stc S0 p' n' c' k' x'.v)
  have HE := hid (hE.below ((Below.refl _ w1).alloc (Nat.le_refl _) (stc S0 p' n' c' k' x'.v)))
  simp only [stc] at hbx Y1 Y2 Y3 Y4 HE
  obtain ⟨w2, hw2⟩ : ∃ u, u = w1.alloc (.cells #[.string S0, .slice p' n' c', .int .i64 (k' : Int), .int .i64 (x'.v : Int)] 29) := ⟨_, rfl⟩
  obtain ⟨B, hB⟩ : ∃ B, B = w1.heap.size := ⟨_, rfl⟩
  have hBW : W.heap.size ≤ B := by rw [hB]; exact hb.size
  rw [← hw2] at hbx Y1 Y2 Y3 Y4 HE
  rw [← hB] at Y4
  obtain ⟨v0, v1, v2, v3⟩ := cells4 Y1
  obtain ⟨b0, b1, b2, b3⟩ := cells4 Y4
  obtain ⟨z0, z1, z2, z3⟩ := cells4 Y2
  obtain ⟨f0, f1, f2, f3⟩ := frozen4 Y2
  obtain ⟨y0, y1, y2⟩ := cells3 Y3
  obtain ⟨g0, g1, g2⟩ := frozen3 Y3
  have hl2 := heap_lt Y2
  have hl3 := heap_lt Y3
  have hlB := heap_lt Y4
  have hd1 : ¬ B = w.heap.size + 1 + 1 := by have := HSZ.out; omega
  have hd2 : ¬ B = w.heap.size + 1 + 1 + 1 := by have := HSZ.out; omega
  have HT := hid hT
  have HP := hid hp
  have HBB := hid hbx
  have HW2 := hid hw2
  have HBe := hid hB
  rw [hw2] at v0 v1 v2 v3 b0 b1 b2 b3 z0 z1 z2 z3 f0 f1 f2 f3 y0 y1 y2 g0 g1 g2 hl2 hl3 hlB
  rw [hB] at b0 b1 b2 b3 hd1 hd2 hlB
  clear hE hT hp hb hbx Y1 Y2 Y3 Y4 hw2 hB hBW
  go_wp2_with fail
  rw [← HW2.out] at v0 v1 v2 v3 b0 b1 b2 b3 z0 z1 z2 z3 f0 f1 f2 f3 y0 y1 y2 g0 g1 g2 hl2 hl3 hlB
  rw [← HBe.out] at b0 b1 b2 b3 hd1 hd2 hlB
  rw [← HW2.out]
  rw [← HBe.out]
  have nB2 : B ≠ w.heap.size + 1 + 1 := hd1
  have nB3 : B ≠ w.heap.size + 1 + 1 + 1 := hd2
  have n12 : w.heap.size + 1 ≠ w.heap.size + 1 + 1 := by omega
  have n13 : w.heap.size + 1 ≠ w.heap.size + 1 + 1 + 1 := by omega
  have L1 : ∀ (W' : World) (j : Nat) (u : Value), (W'.setCell ⟨w.heap.size + 1 + 1, j, none⟩ u).heap[B]? = W'.heap[B]? := fun W' j u => heap_setCell_other _ _ _ _ nB2
  have L2 : ∀ (W' : World) (j : Nat) (u : Value), (W'.setCell ⟨w.heap.size + 1 + 1 + 1, j, none⟩ u).heap[B]? = W'.heap[B]? := fun W' j u => heap_setCell_other _ _ _ _ nB3
  have L3 : ∀ (W' : World) (j : Nat) (u : Value), (W'.setCell ⟨w.heap.size + 1 + 1, j, none⟩ u).heap[w.heap.size + 1]? = W'.heap[w.heap.size + 1]? := fun W' j u => heap_setCell_other _ _ _ _ n12
  have L4 : ∀ (W' : World) (j : Nat) (u : Value), (W'.setCell ⟨w.heap.size + 1 + 1 + 1, j, none⟩ u).heap[w.heap.size + 1]? = W'.heap[w.heap.size + 1]? := fun W' j u => heap_setCell_other _ _ _ _ n13
  have L5 : ∀ (W' : World) (i : Nat), W'.drew.heap[i]? = W'.heap[i]? := fun _ _ => rfl
  have k7 : w2.drew.cell? ⟨B, 0, none⟩ = some (.string S0) ∧ w2.drew.cell? ⟨B, 1, none⟩ = some (.slice p' n' c') ∧ w2.drew.cell? ⟨B, 2, none⟩ = some (.int .i64 (k' : Int)) ∧ w2.drew.cell? ⟨B, 3, none⟩ = some (.int .i64 (x'.v : Int)) ∧ w2.drew.cell? ⟨w.heap.size + 1, 1, none⟩ = some (.int .i64 a) ∧ w2.drew.cell? ⟨w.heap.size + 1, 2, none⟩ = some (.int .i64 d) ∧ w2.drew.cell? ⟨w.heap.size + 1, 3, none⟩ = some (.string t) := ⟨b0, b1, b2, b3, v1, v2, v3⟩
  have KK := hid (show ∀ W' : World, W'.heap[B]? = w2.heap[B]? → W'.heap[w.heap.size + 1]? = w2.heap[w.heap.size + 1]? → W'.cell? ⟨B, 0, none⟩ = some (.string S0) ∧ W'.cell? ⟨B, 1, none⟩ = some (.slice p' n' c') ∧ W'.cell? ⟨B, 2, none⟩ = some (.int .i64 (k' : Int)) ∧ W'.cell? ⟨B, 3, none⟩ = some (.int .i64 (x'.v : Int)) ∧ W'.cell? ⟨w.heap.size + 1, 1, none⟩ = some (.int .i64 a) ∧ W'.cell? ⟨w.heap.size + 1, 2, none⟩ = some (.int .i64 d) ∧ W'.cell? ⟨w.heap.size + 1, 3, none⟩ = some (.string t) from fun W' h1 h2 => by
    have hh : ∀ i, W'.cell? ⟨B, i, none⟩ = w2.cell? ⟨B, i, none⟩ := fun i => by simp only [World.cell?, h1]
    have hg : ∀ i, W'.cell? ⟨w.heap.size + 1, i, none⟩ = w2.cell? ⟨w.heap.size + 1, i, none⟩ := fun i => by simp only [World.cell?, h2]
    simp only [hh, hg]
    exact k7)
  clear b0 b1 b2 b3 v0 v1 v2 v3
  go_region_held3 (fun w' => w'.cell? ⟨B, 0, none⟩ = some (.string S0) ∧ w'.cell? ⟨B, 1, none⟩ = some (.slice p' n' c') ∧ w'.cell? ⟨B, 2, none⟩ = some (.int .i64 (k' : Int)) ∧ w'.cell? ⟨B, 3, none⟩ = some (.int .i64 (x'.v : Int)) ∧ w'.cell? ⟨w.heap.size + 1, 1, none⟩ = some (.int .i64 a) ∧ w'.cell? ⟨w.heap.size + 1, 2, none⟩ = some (.int .i64 d) ∧ w'.cell? ⟨w.heap.size + 1, 3, none⟩ = some (.string t))
    (refine KK.out _ ?_ ?_ <;> simp only [L1, L2, L3, L4, L5]) (fail)
  clear L1 L2 L3 L4 L5 KK k7
  all_goals go_wp2
  have HB2 : Below w.heap.size w w2 := HB.out.trans (HBB.out.mono HB.out.size)
  have hE : ERow (((((((w2.setCell ⟨w.heap.size + 1 + 1, 0, none⟩ (.string S0)).setCell ⟨w.heap.size + 1 + 1, 1, none⟩ (.slice p' n' c')).setCell ⟨w.heap.size + 1 + 1, 2, none⟩ (.int .i64 (k' : Int))).setCell ⟨w.heap.size + 1 + 1, 3, none⟩ (.int .i64 (x'.v : Int))).setCell ⟨w.heap.size + 1 + 1 + 1, 0, none⟩ (.int .i64 a)).setCell ⟨w.heap.size + 1 + 1 + 1, 1, none⟩ (.int .i64 d)).setCell ⟨w.heap.size + 1 + 1 + 1, 2, none⟩ (.string t)) p' n' E' := by
    repeat (refine erow_far ?_ HP.out RW.out (by omega) (by have := HSZ.out; omega))
    exact HE.out
  have hw : Below w.heap.size w (((((((w2.setCell ⟨w.heap.size + 1 + 1, 0, none⟩ (.string S0)).setCell ⟨w.heap.size + 1 + 1, 1, none⟩ (.slice p' n' c')).setCell ⟨w.heap.size + 1 + 1, 2, none⟩ (.int .i64 (k' : Int))).setCell ⟨w.heap.size + 1 + 1, 3, none⟩ (.int .i64 (x'.v : Int))).setCell ⟨w.heap.size + 1 + 1 + 1, 0, none⟩ (.int .i64 a)).setCell ⟨w.heap.size + 1 + 1 + 1, 1, none⟩ (.int .i64 d)).setCell ⟨w.heap.size + 1 + 1 + 1, 2, none⟩ (.string t)) := by
    repeat (refine Below.setCell ?_ (by first | (simp; done) | (simp; omega)) _)
    exact HB2
  have hE' := hE.below (Below.refl _ _).drew
  have hw' := hw.drew
  refine bodyPost_ret (v := .tuple #[.agg #[.string S0, .slice p' n' c', .int .i64 (k' : Int), .int .i64 (x'.v : Int)], .agg #[.int .i64 a, .int .i64 d, .string t], .int .i64 0]) ?_ rfl ⟨p', n', c', k', E', rfl, hE', hcc, HT.out, HP.out.imp id (fun h q hq => Nat.le_trans HB.out.size (h q hq)), hw'⟩
  simp [results, Try.results13, go_sem, z0, z1, z2, z3, y0, y1, y2]
set_option maxRecDepth 100000 in
set_option maxHeartbeats 8000000 in
theorem rrun_do_no (S0 : ByteArray) (p : Option Addr) (n c : Nat) (E : List Ed) (k : Nat) (x x' : St) (kd : Nat) (a d : Int) (t : ByteArray) (er : Int) (K : Nat) (w : World) (h : Ta K S0 E k x) (hr' : doR x (a, d, t) = (x', zed, er)) (her : er ≠ 0) (hK : K ≤ 1000000) (hn9 : n ≤ 900000) (hv9 : x.v ≤ 900000) (hc : n ≤ c) (hr : ERow w p n E) (hkd : kd < 256) (h1 : kd % 3 = 0) (hk9 : k ≤ 900000) (hK4 : 4000 ≤ K) (ht : t.size ≤ 1000000) :
    Calls Try.prog 13 #[.agg #[.string S0, .slice p n c, .int .i64 (k : Int), .int .i64 (x.v : Int)], .agg #[.int .u8 (kd : Int), .int .i64 a, .int .i64 d, .string t]] w fun e w' => RunRes K S0 p n x' 0 0 { data := #[] } er w e w' := by
  obtain ⟨hx0, hx1, hx2, hx3, bW, hsz⟩ := four w (stc S0 p n c k x.v) (.cells #[.int .u8 (kd : Int), .int .i64 a, .int .i64 d, .string t] 36) (stc { data := #[] } none 0 0 0 0) (edc 0 0 { data := #[] })
  obtain ⟨W, hW⟩ : ∃ W, W = (((w.alloc (stc S0 p n c k x.v)).alloc (.cells #[.int .u8 (kd : Int), .int .i64 a, .int .i64 d, .string t] 36)).alloc (stc { data := #[] } none 0 0 0 0)).alloc (edc 0 0 { data := #[] }) := ⟨_, rfl⟩
  rw [← hW] at hx0 hx1 hx2 hx3 bW hsz
  have C := hid (rdo_any S0 p n c E k x x' a d t _ er K W h hr' hK hK4 hk9 hv9 ht hc (hr.below bW))
  simp only [stc, edc] at hx0 hx1 hx2 hx3 hW
  have X2 := hid hx2
  have X3 := hid hx3
  have X1 := hid hx1
  obtain ⟨k0, k1, k2, k3⟩ := cells4 hx0
  obtain ⟨e0, e1, e2, e3⟩ := cells4 hx1
  rw [hW] at k0 k1 k2 k3 e0 e1 e2 e3
  have RW := hid hr
  have HB := hid bW
  have HSZ := hid hsz
  have HW := hid hW
  have he1 : (er == 0) = false := beq_eq_false_iff_ne.2 her
  have hm : (kd : Int) % 3 = 0 := by omega
  have hkd' : (kd : Int) ≤ 255 := by omega
  clear h hr' hr hx0 hx1 hx2 hx3 bW hsz hW h1
  go_enter Try.func13, Try.ntmps13
  go_wp2_with fail
  rw [← HW.out]
  refine C.out.mono ?_
  rintro e w1 ⟨p', n', c', k', E', rfl, hE, hcc, hT, hp, hb⟩
  clear k0 k1 k2 k3 e0 e1 e2 e3
  have hbx := hb.alloc hb.size (stc S0 p' n' c' k' x'.v)
  have Y1 := (hbx.block _ (heap_lt X1.out)).trans X1.out
  have Y2 := (hbx.block _ (heap_lt X2.out)).trans X2.out
  have Y3 := (hbx.block _ (heap_lt X3.out)).trans X3.out
  have Y4 := alloc_new w1 (stc S0 p' n' c' k' x'.v)
  have HE := hid (hE.below ((Below.refl _ w1).alloc (Nat.le_refl _) (stc S0 p' n' c' k' x'.v)))
  simp only [stc] at hbx Y1 Y2 Y3 Y4 HE
  obtain ⟨w2, hw2⟩ : ∃ u, u = w1.alloc (.cells #[.string S0, .slice p' n' c', .int .i64 (k' : Int), .int .i64 (x'.v : Int)] 29) := ⟨_, rfl⟩
  obtain ⟨B, hB⟩ : ∃ B, B = w1.heap.size := ⟨_, rfl⟩
  have hBW : W.heap.size ≤ B := by rw [hB]; exact hb.size
  rw [← hw2] at hbx Y1 Y2 Y3 Y4 HE
  rw [← hB] at Y4
  obtain ⟨v0, v1, v2, v3⟩ := cells4 Y1
  obtain ⟨b0, b1, b2, b3⟩ := cells4 Y4
  obtain ⟨z0, z1, z2, z3⟩ := cells4 Y2
  obtain ⟨f0, f1, f2, f3⟩ := frozen4 Y2
  obtain ⟨y0, y1, y2⟩ := cells3 Y3
  obtain ⟨g0, g1, g2⟩ := frozen3 Y3
  have hl2 := heap_lt Y2
  have hl3 := heap_lt Y3
  have hlB := heap_lt Y4
  have hd1 : ¬ B = w.heap.size + 1 + 1 := by have := HSZ.out; omega
  have hd2 : ¬ B = w.heap.size + 1 + 1 + 1 := by have := HSZ.out; omega
  have HT := hid hT
  have HP := hid hp
  have HBB := hid hbx
  have HW2 := hid hw2
  have HBe := hid hB
  rw [hw2] at v0 v1 v2 v3 b0 b1 b2 b3 z0 z1 z2 z3 f0 f1 f2 f3 y0 y1 y2 g0 g1 g2 hl2 hl3 hlB
  rw [hB] at b0 b1 b2 b3 hd1 hd2 hlB
  clear hE hT hp hb hbx Y1 Y2 Y3 Y4 hw2 hB hBW
  go_wp2_with fail
  rw [← HW2.out] at v0 v1 v2 v3 b0 b1 b2 b3 z0 z1 z2 z3 f0 f1 f2 f3 y0 y1 y2 g0 g1 g2 hl2 hl3 hlB
  rw [← HBe.out] at b0 b1 b2 b3 hd1 hd2 hlB
  rw [← HW2.out]
  have HB2 : Below w.heap.size w w2 := HB.out.trans (HBB.out.mono HB.out.size)
  have hE : ERow (((((((w2.setCell ⟨w.heap.size + 1 + 1, 0, none⟩ (.string S0)).setCell ⟨w.heap.size + 1 + 1, 1, none⟩ (.slice p' n' c')).setCell ⟨w.heap.size + 1 + 1, 2, none⟩ (.int .i64 (k' : Int))).setCell ⟨w.heap.size + 1 + 1, 3, none⟩ (.int .i64 (x'.v : Int))).setCell ⟨w.heap.size + 1 + 1 + 1, 0, none⟩ (.int .i64 0)).setCell ⟨w.heap.size + 1 + 1 + 1, 1, none⟩ (.int .i64 0)).setCell ⟨w.heap.size + 1 + 1 + 1, 2, none⟩ (.string { data := #[] })) p' n' E' := by
    repeat (refine erow_far ?_ HP.out RW.out (by omega) (by have := HSZ.out; omega))
    exact HE.out
  have hw : Below w.heap.size w (((((((w2.setCell ⟨w.heap.size + 1 + 1, 0, none⟩ (.string S0)).setCell ⟨w.heap.size + 1 + 1, 1, none⟩ (.slice p' n' c')).setCell ⟨w.heap.size + 1 + 1, 2, none⟩ (.int .i64 (k' : Int))).setCell ⟨w.heap.size + 1 + 1, 3, none⟩ (.int .i64 (x'.v : Int))).setCell ⟨w.heap.size + 1 + 1 + 1, 0, none⟩ (.int .i64 0)).setCell ⟨w.heap.size + 1 + 1 + 1, 1, none⟩ (.int .i64 0)).setCell ⟨w.heap.size + 1 + 1 + 1, 2, none⟩ (.string { data := #[] })) := by
    repeat (refine Below.setCell ?_ (by first | (simp; done) | (simp; omega)) _)
    exact HB2
  refine bodyPost_ret (v := .tuple #[.agg #[.string S0, .slice p' n' c', .int .i64 (k' : Int), .int .i64 (x'.v : Int)], .agg #[.int .i64 0, .int .i64 0, .string { data := #[] }], .int .i64 er]) ?_ rfl ⟨p', n', c', k', E', rfl, hE, hcc, HT.out, HP.out.imp id (fun h q hq => Nat.le_trans HB.out.size (h q hq)), hw⟩
  simp [results, Try.results13, go_sem, z0, z1, z2, z3, y0, y1, y2]
theorem rrun_any (S0 : ByteArray) (p : Option Addr) (n c : Nat) (E : List Ed) (k : Nat) (x x' : St) (kd : Nat) (a d : Int) (t : ByteArray) (a' d' : Int) (t' : ByteArray) (er : Int) (K : Nat) (w : World) (h : Ta K S0 E k x) (hr' : runR x kd (a, d, t) = (x', (a', d', t'), er)) (hK : K ≤ 1000000) (hK4 : 4000 ≤ K) (hn9 : n ≤ 900000) (hv9 : x.v ≤ 900000) (hc : n ≤ c) (hr : ERow w p n E) (hkd : kd < 256) (ht : t.size ≤ 1000000) :
    Calls Try.prog 13 #[.agg #[.string S0, .slice p n c, .int .i64 (k : Int), .int .i64 (x.v : Int)], .agg #[.int .u8 (kd : Int), .int .i64 a, .int .i64 d, .string t]] w fun e w' => RunRes K S0 p n x' a' d' t' er w e w' := by
  have hk9 : k ≤ 900000 := by have := h.le; have := hr.1; omega
  unfold runR at hr'
  by_cases h1 : kd % 3 = 1
  · rw [if_pos h1] at hr'
    exact rrun_undo S0 p n c E k x x' kd a d t a' d' t' er K w h hr' hK hn9 hv9 hc hr hkd h1
  · rw [if_neg h1] at hr'
    by_cases h2 : kd % 3 = 2
    · rw [if_pos h2] at hr'
      exact rrun_redo S0 p n c E k x x' kd a d t a' d' t' er K w h hr' hK hn9 hv9 hc hr hkd h2
    · rw [if_neg h2] at hr'
      have h0 : kd % 3 = 0 := by omega
      have hd := doR_err x (a, d, t)
      rw [hr'] at hd
      simp only [zed, Prod.mk.injEq] at hd
      rcases hd with ⟨rfl, rfl, rfl, rfl⟩ | ⟨her, rfl, rfl, rfl⟩
      · exact rrun_do_yes S0 p n c E k x x' kd a' d' t' K w h hr' hK hn9 hv9 hc hr hkd h0 hk9 hK4 ht
      · exact rrun_do_no S0 p n c E k x x' kd a d t er K w h hr' (by omega) hK hn9 hv9 hc hr hkd h0 hk9 hK4 ht
end Go.Proofs.Ytfhdbenomkbfjaa
