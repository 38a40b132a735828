/-
  Contracts: Invert, Rebase and its reference.
-/
import Derived.Test.YtclebcpapcoafaaA
import Derived.BigRegion

namespace Go.Proofs.Ytclebcpapcoafaa
open Go.RowKit Te

theorem frozen3 {W : World} {b : Nat} {x y z : Value} {t : TypeId} (h : W.heap[b]? = some (.cells #[x, y, z] t (0, 0))) : W.frozen? ⟨b, 0, none⟩ = false ∧ W.frozen? ⟨b, 1, none⟩ = false ∧ W.frozen? ⟨b, 2, none⟩ = false := by
  refine ⟨?_, ?_, ?_⟩ <;> simp [World.frozen?, h]
def zcell : Obj := .cells #[.int .i64 0, .int .i64 0, .string { data := #[] }] 23

def inv' (s : ByteArray) (e : Ed) : Value := if Fit s.size e then .tuple #[edv (inv s e), .int .i64 0] else .tuple #[edv (0, 0, .empty), .int .i64 2]
theorem inv_def (s t : ByteArray) (a d : Nat) : edv (inv s ((a : Int), (d : Int), t)) = .agg #[.int .i64 a, .int .i64 t.size, .string (s.extract a (a + d))] := by rw [L_inv]; rfl

set_option maxRecDepth 100000 in
set_option maxHeartbeats 4000000 in
theorem invert_any (s t : ByteArray) (a d : Int) (w : World) (hs : s.size ≤ 1000000) (ht : t.size ≤ 1000000) (ha : a ≤ 9223372036854775807) :
    Calls Try.prog 18 #[.string s, .agg #[.int .i64 a, .int .i64 d, .string t]] w fun e w' => e = .returned (inv' s (a, d, t)) ∧ Below w.heap.size w w' := by
  have s1 : (s.size : Int) ≤ 1000000000000000 := by omega
  have s0 : (0 : Int) ≤ (s.size : Int) := by omega
  have t1 : (t.size : Int) ≤ 1000000 := by omega
  by_cases hf : Fit s.size (a, d, t)
  · have HF := hid hf
    obtain ⟨x, y, t', he, hl⟩ := hf.nat
    simp only [Prod.mk.injEq] at he
    obtain ⟨rfl, rfl, rfl⟩ := he
    have a0 : (0 : Int) ≤ (x : Int) := by omega
    have d0 : (0 : Int) ≤ (y : Int) := by omega
    have a1 : (x : Int) ≤ (s.size : Int) := by omega
    have a2 : (x : Int) + (y : Int) ≤ (s.size : Int) := by omega
    have a3 : (x : Int) ≤ (x : Int) + (y : Int) := by omega
    have a5 : (0 : Int) ≤ (x : Int) + (y : Int) := by omega
    have e4 : IntKind.i64.wrap (↑x + ↑y) = (x : Int) + (y : Int) := wrapIn (by omega) (by omega)
    clear hf
    go_enter Try.func18, Try.ntmps18
    go_wp2_with (go_at_call 27; refine (ends_yes _ _ _ _ _ s0 s1 HF.out).mono ?_; rintro e w1 ⟨rfl, hbl⟩)
    obtain ⟨W, hW⟩ : ∃ W, W = ((w.alloc (.cells #[.int .i64 x, .int .i64 y, .string t] 23)).alloc zcell) := ⟨_, rfl⟩
    have hbl : Below W.heap.size W w1 := by rw [hW]; exact hbl
    have bW : Below w.heap.size w W := by rw [hW]; exact ((Below.refl _ _).alloc (Nat.le_refl _) _).alloc (by simp) _
    have hs : W.heap.size = w.heap.size + 1 + 1 := by rw [hW]; simp
    obtain ⟨c0, c1, c2⟩ := cells3 ((hbl.block _ (by omega)).trans (show W.heap[w.heap.size]? = some (.cells #[.int .i64 x, .int .i64 y, .string t] 23 (0, 0)) by rw [hW]; exact blk_alloc (alloc_new _ _)))
    have hz := (hbl.block (w.heap.size + 1) (by omega)).trans (show W.heap[w.heap.size + 1]? = some zcell by rw [hW]; exact alloc_at _ _ (by simp; done))
    obtain ⟨r0, r1, r2⟩ := cells3 hz
    obtain ⟨f0, f1, f2⟩ := frozen3 hz
    clear hz
    go_region
    all_goals go_wp2
    refine bodyPost_ret (v := .tuple #[.agg #[.int .i64 x, .int .i64 t.size, .string (s.extract x (x + y))], .int .i64 0]) ?_ rfl ⟨?_, ?_⟩
    · simp [results, Try.results18, go_sem, r0, r1, r2]
    · rw [inv', if_pos HF.out, inv_def]
    · exact (((((bW.trans (hbl.mono (by omega))).setCell (by simp) _).setCell (by simp) _).setCell (by simp) _)).drew
  · have HF := hid hf
    clear hf
    go_enter Try.func18, Try.ntmps18
    go_wp2_with (go_at_call 27; refine (ends_no _ _ _ _ _ s0 s1 ha HF.out).mono ?_; rintro e w1 ⟨rfl, hbl⟩; have bW := (((Below.refl _ w).alloc (Nat.le_refl _) (.cells #[.int .i64 a, .int .i64 d, .string t] 23)).alloc (by simp) zcell).trans (hbl.mono (by simp; omega)); have hz := (hbl.block (w.heap.size + 1) (by simp)).trans (alloc_at _ zcell (by simp; done)); obtain ⟨r0, r1, r2⟩ := cells3 hz; obtain ⟨f0, f1, f2⟩ := frozen3 hz)
    refine bodyPost_ret (v := .tuple #[.agg #[.int .i64 0, .int .i64 0, .string .empty], .int .i64 2]) ?_ rfl ⟨?_, ?_⟩
    · simp [results, Try.results18, go_sem, r0, r1, r2]
      rfl
    · rw [inv', if_neg HF.out]; rfl
    · exact (((bW.setCell (by simp) _).setCell (by simp) _).setCell (by simp) _)

def rbv (a b : Ed) : Value := .tuple #[edv (rb a b).1, .bool (rb a b).2]
def Bx (W : World) (b : Nat) (e : Ed) : Prop := W.heap[b]? = some (.cells #[.int .i64 e.1, .int .i64 e.2.1, .string e.2.2] 23 (0, 0))
theorem Bx.below {W W' : World} {b : Nat} {e : Ed} (h : Bx W b e) (hb : Below W.heap.size W W') : Bx W' b e := (hb.block _ (heap_lt h)).trans h
theorem Bx.alloc {W : World} {b : Nat} {e : Ed} {o : Obj} (h : Bx W b e) : Bx (W.alloc o) b e := blk_alloc h
theorem Bx.cells {W : World} {b : Nat} {x y : Int} {z : ByteArray} (h : Bx W b (x, y, z)) : W.cell? ⟨b, 0, none⟩ = some (.int .i64 x) ∧ W.cell? ⟨b, 1, none⟩ = some (.int .i64 y) ∧ W.cell? ⟨b, 2, none⟩ = some (.string z) := cells3 h
theorem Bx.free {W : World} {b : Nat} {e : Ed} (h : Bx W b e) : W.frozen? ⟨b, 0, none⟩ = false ∧ W.frozen? ⟨b, 1, none⟩ = false ∧ W.frozen? ⟨b, 2, none⟩ = false := frozen3 h
theorem rb_no {a b : Ed} (h : ¬ (Ok a ∧ Ok b)) : rbv a b = .tuple #[.agg #[.int .i64 0, .int .i64 0, .string .empty], .bool false] := by
  unfold rbv rb; rw [if_neg h]; rfl
theorem rb_1 {a b g d : Int} {s t : ByteArray} (ha : Ok (a, d, s)) (hb : Ok (b, g, t)) (h : b + g ≤ a) : rbv (a, d, s) (b, g, t) = .tuple #[.agg #[.int .i64 (a + (t.size - g)), .int .i64 d, .string s], .bool true] := by
  unfold rbv; rw [rb_eq ha hb, if_pos h]; rfl
theorem rb_2 {a b g d : Int} {s t : ByteArray} (ha : Ok (a, d, s)) (hb : Ok (b, g, t)) (h : ¬ b + g ≤ a) (h' : a + d ≤ b) : rbv (a, d, s) (b, g, t) = .tuple #[.agg #[.int .i64 a, .int .i64 d, .string s], .bool true] := by
  unfold rbv; rw [rb_eq ha hb, if_neg h, if_pos h']; rfl
theorem rb_3 {a b g d : Int} {s t : ByteArray} (ha : Ok (a, d, s)) (hb : Ok (b, g, t)) (h : ¬ b + g ≤ a) (h' : ¬ a + d ≤ b) : rbv (a, d, s) (b, g, t) = .tuple #[.agg #[.int .i64 0, .int .i64 0, .string .empty], .bool false] := by
  unfold rbv; rw [rb_eq ha hb, if_neg h, if_neg h']; rfl

def rbW (w : World) (a d : Int) (s : ByteArray) (b g : Int) (t : ByteArray) : World := ((w.alloc (.cells #[.int .i64 a, .int .i64 d, .string s] 23)).alloc (.cells #[.int .i64 b, .int .i64 g, .string t] 23)).alloc zcell
theorem rbW_facts (w : World) (a d : Int) (s : ByteArray) (b g : Int) (t : ByteArray) : Below w.heap.size w (rbW w a d s b g t) ∧ (rbW w a d s b g t).heap.size = w.heap.size + 1 + 1 + 1 ∧
    Bx (rbW w a d s b g t) w.heap.size (a, d, s) ∧ Bx (rbW w a d s b g t) (w.heap.size + 1) (b, g, t) ∧ Bx (rbW w a d s b g t) (w.heap.size + 1 + 1) (0, 0, .empty) :=
  ⟨(((Below.refl _ _).alloc (Nat.le_refl _) _).alloc (by simp) _).alloc (by simp; omega) _, by simp [rbW], blk_alloc (blk_alloc (alloc_new _ _)), blk_alloc (alloc_at _ _ (by simp)), alloc_at _ _ (by simp)⟩

set_option maxRecDepth 100000 in
set_option maxHeartbeats 4000000 in
theorem rebase_any (a d : Int) (s : ByteArray) (b g : Int) (t : ByteArray) (w : World) (ha : a ≤ 9223372036854775807) (hb : b ≤ 9223372036854775807) (ht : t.size ≤ 1000000000000000) :
    Calls Try.prog 23 #[.agg #[.int .i64 a, .int .i64 d, .string s], .agg #[.int .i64 b, .int .i64 g, .string t]] w fun e w' => e = .returned (rbv (a, d, s) (b, g, t)) ∧ Below w.heap.size w w' := by
  obtain ⟨bW, hsz, x1, x2, x3⟩ := rbW_facts w a d s b g t
  obtain ⟨W, hW⟩ : ∃ W, W = rbW w a d s b g t := ⟨_, rfl⟩
  rw [← hW] at bW hsz x1 x2 x3
  have X := hid (show ∀ W', Below W.heap.size W W' → Bx W' w.heap.size (a, d, s) ∧ Bx W' (w.heap.size + 1) (b, g, t) ∧ Bx W' (w.heap.size + 1 + 1) (0, 0, .empty) from fun W' h => ⟨x1.below h, x2.below h, x3.below h⟩)
  have HW := hid (show W = ((w.alloc (.cells #[.int .i64 a, .int .i64 d, .string s] 23)).alloc (.cells #[.int .i64 b, .int .i64 g, .string t] 23)).alloc (.cells #[.int .i64 0, .int .i64 0, .string { data := #[] }] 23) from hW)
  have t1 : (t.size : Int) ≤ 1000000000000000 := by omega
  have t0 : (0 : Int) ≤ (t.size : Int) := by omega
  clear x1 x2 x3 hW
  by_cases hA : Ok (a, d, s)
  · have HA := hid hA
    obtain ⟨a1', a2', a3'⟩ := hA
    have a1 : 0 ≤ a := a1'
    have a2 : 0 ≤ d := a2'
    have a3 : d ≤ 2147483647 - a := a3'
    clear a1' a2' a3'
    by_cases hB : Ok (b, g, t)
    · have HB := hid hB
      obtain ⟨b1', b2', b3'⟩ := hB
      have b1 : 0 ≤ b := b1'
      have b2 : 0 ≤ g := b2'
      have b3 : g ≤ 2147483647 - b := b3'
      clear b1' b2' b3'
      by_cases c1 : b + g ≤ a
      · have C1 := hid c1
        go_enter Try.func23, Try.ntmps23
        go_wp2_with fail
        rw [← HW.out]
        refine (ends_yes _ _ _ _ _ (by decide) (by decide) HA.out).mono ?_
        rintro e w1 ⟨rfl, hb1⟩
        obtain ⟨x1, x2, x3⟩ := X.out _ hb1
        obtain ⟨k10, k11, k12⟩ := x2.cells
        clear x1 x2 x3
        go_wp2_with fail
        refine (ends_yes _ _ _ _ _ (by decide) (by decide) HB.out).mono ?_
        rintro e w2 ⟨rfl, hb2'⟩
        have hb2 := hb1.trans (hb2'.mono hb1.size)
        clear k10 k11 k12
        obtain ⟨x1, x2, x3⟩ := X.out _ hb2
        obtain ⟨k00, k01, k02⟩ := x1.cells
        obtain ⟨k10, k11, k12⟩ := x2.cells
        obtain ⟨k20, k21, k22⟩ := x3.cells
        obtain ⟨f00, f01, f02⟩ := x1.free
        obtain ⟨f20, f21, f22⟩ := x3.free
        clear x1 x2 x3
        go_wp2
        refine bodyPost_ret (v := .tuple #[.agg #[.int .i64 (a + (t.size - g)), .int .i64 d, .string s], .bool true]) ?_ rfl ⟨?_, ?_⟩
        · simp [results, Try.results23, go_sem, k20, k21, k22]
          try omega
        · rw [rb_1 HA.out HB.out C1.out]
        · repeat (first | exact bW.trans (hb2.mono bW.size) | refine Below.setCell ?_ (by first | (simp; done) | (simp; omega)) _)
      · have C1 := hid c1
        have c1 : a < b + g := by omega
        by_cases c2 : a + d ≤ b
        · have C2 := hid c2
          go_enter Try.func23, Try.ntmps23
          go_wp2_with fail
          rw [← HW.out]
          refine (ends_yes _ _ _ _ _ (by decide) (by decide) HA.out).mono ?_
          rintro e w1 ⟨rfl, hb1⟩
          obtain ⟨x1, x2, x3⟩ := X.out _ hb1
          obtain ⟨k10, k11, k12⟩ := x2.cells
          clear x1 x2 x3
          go_wp2_with fail
          refine (ends_yes _ _ _ _ _ (by decide) (by decide) HB.out).mono ?_
          rintro e w2 ⟨rfl, hb2'⟩
          have hb2 := hb1.trans (hb2'.mono hb1.size)
          clear k10 k11 k12
          obtain ⟨x1, x2, x3⟩ := X.out _ hb2
          obtain ⟨k00, k01, k02⟩ := x1.cells
          obtain ⟨k10, k11, k12⟩ := x2.cells
          obtain ⟨k20, k21, k22⟩ := x3.cells
          obtain ⟨f00, f01, f02⟩ := x1.free
          obtain ⟨f20, f21, f22⟩ := x3.free
          clear x1 x2 x3
          go_wp2
          refine bodyPost_ret (v := .tuple #[.agg #[.int .i64 a, .int .i64 d, .string s], .bool true]) ?_ rfl ⟨?_, ?_⟩
          · simp [results, Try.results23, go_sem, k20, k21, k22]
          · rw [rb_2 HA.out HB.out (by have := C1.out; omega) C2.out]
          · repeat (first | exact bW.trans (hb2.mono bW.size) | refine Below.setCell ?_ (by first | (simp; done) | (simp; omega)) _)
        · have C2 := hid c2
          have c2 : b < a + d := by omega
          go_enter Try.func23, Try.ntmps23
          go_wp2_with fail
          rw [← HW.out]
          refine (ends_yes _ _ _ _ _ (by decide) (by decide) HA.out).mono ?_
          rintro e w1 ⟨rfl, hb1⟩
          obtain ⟨x1, x2, x3⟩ := X.out _ hb1
          obtain ⟨k10, k11, k12⟩ := x2.cells
          clear x1 x2 x3
          go_wp2_with fail
          refine (ends_yes _ _ _ _ _ (by decide) (by decide) HB.out).mono ?_
          rintro e w2 ⟨rfl, hb2'⟩
          have hb2 := hb1.trans (hb2'.mono hb1.size)
          clear k10 k11 k12
          obtain ⟨x1, x2, x3⟩ := X.out _ hb2
          obtain ⟨k00, k01, k02⟩ := x1.cells
          obtain ⟨k10, k11, k12⟩ := x2.cells
          obtain ⟨k20, k21, k22⟩ := x3.cells
          obtain ⟨f00, f01, f02⟩ := x1.free
          obtain ⟨f20, f21, f22⟩ := x3.free
          clear x1 x2 x3
          go_wp2
          refine bodyPost_ret (v := .tuple #[.agg #[.int .i64 0, .int .i64 0, .string .empty], .bool false]) ?_ rfl ⟨?_, ?_⟩
          · simp [results, Try.results23, go_sem, k20, k21, k22]
            try rfl
          · rw [rb_3 HA.out HB.out (by have := C1.out; omega) (by have := C2.out; omega)]
          · repeat (first | exact bW.trans (hb2.mono bW.size) | refine Below.setCell ?_ (by first | (simp; done) | (simp; omega)) _)
    · have HB := hid hB
      clear hB
      go_enter Try.func23, Try.ntmps23
      go_wp2_with fail
      rw [← HW.out]
      refine (ends_yes _ _ _ _ _ (by decide) (by decide) HA.out).mono ?_
      rintro e w1 ⟨rfl, hb1⟩
      obtain ⟨x1, x2, x3⟩ := X.out _ hb1
      obtain ⟨k10, k11, k12⟩ := x2.cells
      clear x1 x2 x3
      go_wp2_with fail
      refine (ends_no _ _ _ _ _ (by decide) (by decide) hb HB.out).mono ?_
      rintro e w2 ⟨rfl, hb2'⟩
      have hb2 := hb1.trans (hb2'.mono hb1.size)
      clear k10 k11 k12
      obtain ⟨x1, x2, x3⟩ := X.out _ hb2
      obtain ⟨k00, k01, k02⟩ := x1.cells
      obtain ⟨k10, k11, k12⟩ := x2.cells
      obtain ⟨k20, k21, k22⟩ := x3.cells
      obtain ⟨f00, f01, f02⟩ := x1.free
      obtain ⟨f20, f21, f22⟩ := x3.free
      clear x1 x2 x3
      go_wp2
      refine bodyPost_ret (v := .tuple #[.agg #[.int .i64 0, .int .i64 0, .string .empty], .bool false]) ?_ rfl ⟨?_, ?_⟩
      · simp [results, Try.results23, go_sem, k20, k21, k22]
        try rfl
      · rw [rb_no fun h => HB.out h.2]
      · repeat (first | exact bW.trans (hb2.mono bW.size) | refine Below.setCell ?_ (by first | (simp; done) | (simp; omega)) _)
  · have HA := hid hA
    clear hA
    go_enter Try.func23, Try.ntmps23
    go_wp2_with fail
    rw [← HW.out]
    refine (ends_no _ _ _ _ _ (by decide) (by decide) ha HA.out).mono ?_
    rintro e w1 ⟨rfl, hb1⟩
    obtain ⟨x1, x2, x3⟩ := X.out _ hb1
    obtain ⟨k00, k01, k02⟩ := x1.cells
    obtain ⟨k10, k11, k12⟩ := x2.cells
    obtain ⟨k20, k21, k22⟩ := x3.cells
    obtain ⟨f00, f01, f02⟩ := x1.free
    obtain ⟨f20, f21, f22⟩ := x3.free
    clear x1 x2 x3
    go_wp2
    refine bodyPost_ret (v := .tuple #[.agg #[.int .i64 0, .int .i64 0, .string .empty], .bool false]) ?_ rfl ⟨?_, ?_⟩
    · simp [results, Try.results23, go_sem, k20, k21, k22]
      try rfl
    · rw [rb_no fun h => HA.out h.1]
    · repeat (first | exact bW.trans (hb1.mono bW.size) | refine Below.setCell ?_ (by first | (simp; done) | (simp; omega)) _)

set_option maxRecDepth 100000 in
set_option maxHeartbeats 4000000 in
theorem rrebase_any (a d : Int) (s : ByteArray) (b g : Int) (t : ByteArray) (w : World) (ha : a ≤ 9223372036854775807) (hb : b ≤ 9223372036854775807) (ht : t.size ≤ 1000000000000000) :
    Calls Try.prog 24 #[.agg #[.int .i64 a, .int .i64 d, .string s], .agg #[.int .i64 b, .int .i64 g, .string t]] w fun e w' => e = .returned (rbv (a, d, s) (b, g, t)) ∧ Below w.heap.size w w' := by
  obtain ⟨bW, hsz, x1, x2, x3⟩ := rbW_facts w a d s b g t
  obtain ⟨W, hW⟩ : ∃ W, W = rbW w a d s b g t := ⟨_, rfl⟩
  rw [← hW] at bW hsz x1 x2 x3
  have X := hid (show ∀ W', Below W.heap.size W W' → Bx W' w.heap.size (a, d, s) ∧ Bx W' (w.heap.size + 1) (b, g, t) ∧ Bx W' (w.heap.size + 1 + 1) (0, 0, .empty) from fun W' h => ⟨x1.below h, x2.below h, x3.below h⟩)
  have HW := hid (show W = ((w.alloc (.cells #[.int .i64 a, .int .i64 d, .string s] 23)).alloc (.cells #[.int .i64 b, .int .i64 g, .string t] 23)).alloc (.cells #[.int .i64 0, .int .i64 0, .string { data := #[] }] 23) from hW)
  have t1 : (t.size : Int) ≤ 1000000000000000 := by omega
  have t0 : (0 : Int) ≤ (t.size : Int) := by omega
  clear x1 x2 x3 hW
  by_cases hA : Ok (a, d, s)
  · have HA := hid hA
    obtain ⟨a1', a2', a3'⟩ := hA
    have a1 : 0 ≤ a := a1'
    have a2 : 0 ≤ d := a2'
    have a3 : d ≤ 2147483647 - a := a3'
    clear a1' a2' a3'
    by_cases hB : Ok (b, g, t)
    · have HB := hid hB
      obtain ⟨b1', b2', b3'⟩ := hB
      have b1 : 0 ≤ b := b1'
      have b2 : 0 ≤ g := b2'
      have b3 : g ≤ 2147483647 - b := b3'
      clear b1' b2' b3'
      by_cases c1 : b + g ≤ a
      · have C1 := hid c1
        go_enter Try.func24, Try.ntmps24
        go_wp2_with fail
        rw [← HW.out]
        refine (small_yes _ _ _ _ HA.out).mono ?_
        rintro e w1 ⟨rfl, hb1⟩
        obtain ⟨x1, x2, x3⟩ := X.out _ hb1
        obtain ⟨k10, k11, k12⟩ := x2.cells
        clear x1 x2 x3
        go_wp2_with fail
        refine (small_yes _ _ _ _ HB.out).mono ?_
        rintro e w2 ⟨rfl, hb2'⟩
        have hb2 := hb1.trans (hb2'.mono hb1.size)
        clear k10 k11 k12
        obtain ⟨x1, x2, x3⟩ := X.out _ hb2
        obtain ⟨k00, k01, k02⟩ := x1.cells
        obtain ⟨k10, k11, k12⟩ := x2.cells
        obtain ⟨k20, k21, k22⟩ := x3.cells
        obtain ⟨f00, f01, f02⟩ := x1.free
        obtain ⟨f20, f21, f22⟩ := x3.free
        clear x1 x2 x3
        go_wp2
        refine bodyPost_ret (v := .tuple #[.agg #[.int .i64 (a + (t.size - g)), .int .i64 d, .string s], .bool true]) ?_ rfl ⟨?_, ?_⟩
        · simp [results, Try.results24, go_sem, k20, k21, k22]
          try omega
        · rw [rb_1 HA.out HB.out C1.out]
        · repeat (first | exact bW.trans (hb2.mono bW.size) | refine Below.setCell ?_ (by first | (simp; done) | (simp; omega)) _)
      · have C1 := hid c1
        have c1 : a < b + g := by omega
        by_cases c2 : a + d ≤ b
        · have C2 := hid c2
          go_enter Try.func24, Try.ntmps24
          go_wp2_with fail
          rw [← HW.out]
          refine (small_yes _ _ _ _ HA.out).mono ?_
          rintro e w1 ⟨rfl, hb1⟩
          obtain ⟨x1, x2, x3⟩ := X.out _ hb1
          obtain ⟨k10, k11, k12⟩ := x2.cells
          clear x1 x2 x3
          go_wp2_with fail
          refine (small_yes _ _ _ _ HB.out).mono ?_
          rintro e w2 ⟨rfl, hb2'⟩
          have hb2 := hb1.trans (hb2'.mono hb1.size)
          clear k10 k11 k12
          obtain ⟨x1, x2, x3⟩ := X.out _ hb2
          obtain ⟨k00, k01, k02⟩ := x1.cells
          obtain ⟨k10, k11, k12⟩ := x2.cells
          obtain ⟨k20, k21, k22⟩ := x3.cells
          obtain ⟨f00, f01, f02⟩ := x1.free
          obtain ⟨f20, f21, f22⟩ := x3.free
          clear x1 x2 x3
          go_wp2
          refine bodyPost_ret (v := .tuple #[.agg #[.int .i64 a, .int .i64 d, .string s], .bool true]) ?_ rfl ⟨?_, ?_⟩
          · simp [results, Try.results24, go_sem, k20, k21, k22]
          · rw [rb_2 HA.out HB.out (by have := C1.out; omega) C2.out]
          · repeat (first | exact bW.trans (hb2.mono bW.size) | refine Below.setCell ?_ (by first | (simp; done) | (simp; omega)) _)
        · have C2 := hid c2
          have c2 : b < a + d := by omega
          go_enter Try.func24, Try.ntmps24
          go_wp2_with fail
          rw [← HW.out]
          refine (small_yes _ _ _ _ HA.out).mono ?_
          rintro e w1 ⟨rfl, hb1⟩
          obtain ⟨x1, x2, x3⟩ := X.out _ hb1
          obtain ⟨k10, k11, k12⟩ := x2.cells
          clear x1 x2 x3
          go_wp2_with fail
          refine (small_yes _ _ _ _ HB.out).mono ?_
          rintro e w2 ⟨rfl, hb2'⟩
          have hb2 := hb1.trans (hb2'.mono hb1.size)
          clear k10 k11 k12
          obtain ⟨x1, x2, x3⟩ := X.out _ hb2
          obtain ⟨k00, k01, k02⟩ := x1.cells
          obtain ⟨k10, k11, k12⟩ := x2.cells
          obtain ⟨k20, k21, k22⟩ := x3.cells
          obtain ⟨f00, f01, f02⟩ := x1.free
          obtain ⟨f20, f21, f22⟩ := x3.free
          clear x1 x2 x3
          go_wp2
          refine bodyPost_ret (v := .tuple #[.agg #[.int .i64 0, .int .i64 0, .string .empty], .bool false]) ?_ rfl ⟨?_, ?_⟩
          · simp [results, Try.results24, go_sem, k20, k21, k22]
            try rfl
          · rw [rb_3 HA.out HB.out (by have := C1.out; omega) (by have := C2.out; omega)]
          · repeat (first | exact bW.trans (hb2.mono bW.size) | refine Below.setCell ?_ (by first | (simp; done) | (simp; omega)) _)
    · have HB := hid hB
      clear hB
      go_enter Try.func24, Try.ntmps24
      go_wp2_with fail
      rw [← HW.out]
      refine (small_yes _ _ _ _ HA.out).mono ?_
      rintro e w1 ⟨rfl, hb1⟩
      obtain ⟨x1, x2, x3⟩ := X.out _ hb1
      obtain ⟨k10, k11, k12⟩ := x2.cells
      clear x1 x2 x3
      go_wp2_with fail
      refine (small_no _ _ _ _ HB.out).mono ?_
      rintro e w2 ⟨rfl, hb2'⟩
      have hb2 := hb1.trans (hb2'.mono hb1.size)
      clear k10 k11 k12
      obtain ⟨x1, x2, x3⟩ := X.out _ hb2
      obtain ⟨k00, k01, k02⟩ := x1.cells
      obtain ⟨k10, k11, k12⟩ := x2.cells
      obtain ⟨k20, k21, k22⟩ := x3.cells
      obtain ⟨f00, f01, f02⟩ := x1.free
      obtain ⟨f20, f21, f22⟩ := x3.free
      clear x1 x2 x3
      go_wp2
      refine bodyPost_ret (v := .tuple #[.agg #[.int .i64 0, .int .i64 0, .string .empty], .bool false]) ?_ rfl ⟨?_, ?_⟩
      · simp [results, Try.results24, go_sem, k20, k21, k22]
        try rfl
      · rw [rb_no fun h => HB.out h.2]
      · repeat (first | exact bW.trans (hb2.mono bW.size) | refine Below.setCell ?_ (by first | (simp; done) | (simp; omega)) _)
  · have HA := hid hA
    clear hA
    go_enter Try.func24, Try.ntmps24
    go_wp2_with fail
    rw [← HW.out]
    refine (small_no _ _ _ _ HA.out).mono ?_
    rintro e w1 ⟨rfl, hb1⟩
    obtain ⟨x1, x2, x3⟩ := X.out _ hb1
    obtain ⟨k00, k01, k02⟩ := x1.cells
    obtain ⟨k10, k11, k12⟩ := x2.cells
    obtain ⟨k20, k21, k22⟩ := x3.cells
    obtain ⟨f00, f01, f02⟩ := x1.free
    obtain ⟨f20, f21, f22⟩ := x3.free
    clear x1 x2 x3
    go_wp2
    refine bodyPost_ret (v := .tuple #[.agg #[.int .i64 0, .int .i64 0, .string .empty], .bool false]) ?_ rfl ⟨?_, ?_⟩
    · simp [results, Try.results24, go_sem, k20, k21, k22]
      try rfl
    · rw [rb_no fun h => HA.out h.1]
    · repeat (first | exact bW.trans (hb1.mono bW.size) | refine Below.setCell ?_ (by first | (simp; done) | (simp; omega)) _)

end Go.Proofs.Ytclebcpapcoafaa
