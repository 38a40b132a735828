/-
  Contracts: the reference's Union, Intersect, Complement.
-/
import Derived.Test.YtnjlnldbfejjpaaDoorF
set_option linter.unusedSimpArgs false
set_option linter.unusedVariables false
namespace Go.Proofs.YtnjlnldbfejjpaaDoor
open Go.RowKit Bs Go.Frame

/-- What lies below i. -/
def upto (g : Nat → Bool) (i x : Nat) : Bool := decide (x < i) && g x
theorem upto_zero (g : Nat → Bool) (x : Nat) : upto g 0 x = false := by simp [upto]
theorem upto_end (g : Nat → Bool) {i x : Nat} (h : x < i) : upto g i x = g x := by simp [upto, h]
theorem upto_yes {g : Nat → Bool} {i : Nat} (h : g i = true) : upto g (i + 1) = add1 (upto g i) i := by
  funext x
  unfold upto add1
  by_cases e : x = i
  · subst e; simp [h]
  · have e1 : (x < i + 1) ↔ x < i := by omega
    simp [e, e1]
theorem upto_no {g : Nat → Bool} {i : Nat} (h : g i = false) : upto g (i + 1) = upto g i := by
  funext x
  unfold upto
  by_cases e : x = i
  · subst e; simp [h]
  · have e1 : (x < i + 1) ↔ x < i := by omega
    simp [e1]

set_option maxRecDepth 100000 in
set_option maxHeartbeats 4000000 in
theorem rUnion_any (p q : Nat → Bool) (w : World) :
    Calls Tryd.prog 17 #[sv p, sv q] w fun e w' => e = .returned (sv (fun x => p x || q x)) ∧ Below w.heap.size w w' := by
  obtain ⟨g, hg⟩ : ∃ g : Nat → Bool, g = fun x => p x || q x := ⟨_, rfl⟩
  have G := hid (show ∀ x, g x = (fun x => p x || q x) x from fun x => by rw [hg])
  rw [← hg]
  clear hg
  obtain ⟨W, hW⟩ : ∃ W, W = ((((w.alloc (.cells #[.int .u64 (wd (p) 0 : Int), .int .u64 (wd (p) 1 : Int), .int .u64 (wd (p) 2 : Int), .int .u64 (wd (p) 3 : Int)] 25)).alloc (.cells #[.int .u64 (wd (q) 0 : Int), .int .u64 (wd (q) 1 : Int), .int .u64 (wd (q) 2 : Int), .int .u64 (wd (q) 3 : Int)] 25)).alloc zset).alloc zset) := ⟨_, rfl⟩
  have HX := hid (by have := Go.Frame.four w (.cells #[.int .u64 (wd (p) 0 : Int), .int .u64 (wd (p) 1 : Int), .int .u64 (wd (p) 2 : Int), .int .u64 (wd (p) 3 : Int)] 25) (.cells #[.int .u64 (wd (q) 0 : Int), .int .u64 (wd (q) 1 : Int), .int .u64 (wd (q) 2 : Int), .int .u64 (wd (q) 3 : Int)] 25) zset zset; rw [← hW] at this; exact this)
  have HW := hid hW
  unfold zset at hW
  unfold sv
  go_enter Tryd.func17, Tryd.ntmps17
  go_wp2_with fail
  rw [← hW]
  clear hW
  go_loopg [6] 256 (fun k sl wr => ∃ i : Nat, sl = .int .i64 i ∧ i + k = 256 ∧ SB wr (w.heap.size) p ∧ SB wr (w.heap.size + 1) q ∧ SB wr (w.heap.size + 1 + 1) (fun _ => false) ∧ SB wr (w.heap.size + 1 + 1 + 1) (upto g i) ∧ Below w.heap.size w wr)
  case atStart => exact ⟨0, rfl, rfl, HX.out.1, HX.out.2.1, sb_zero HX.out.2.2.1, SB_congr (fun x _ => (upto_zero g x).symm) (sb_zero HX.out.2.2.2.1), HX.out.2.2.2.2.1⟩
  case round =>
    obtain ⟨i, rfl, hk, hp, hq, hR, hD, hbw⟩ := hrel
    by_cases hlt : i < 256
    · have hlt' : (i : Int) < 256 := by omega
      have e3 : IntKind.u8.wrap (i : Int) = (i : Int) := by rw [IntKind.wrap_u8]; omega
      have Cp := hid (fun V => show Calls Tryd.prog 15 #[.agg #[.int .u64 (wd (p) 0 : Int), .int .u64 (wd (p) 1 : Int), .int .u64 (wd (p) 2 : Int), .int .u64 (wd (p) 3 : Int)], .int .u8 (i : Int)] V fun e w'' => e = .returned (.bool (p i)) ∧ Below V.heap.size V w'' from rHas_any p i V hlt)
      have Cq := hid (fun V => show Calls Tryd.prog 15 #[.agg #[.int .u64 (wd (q) 0 : Int), .int .u64 (wd (q) 1 : Int), .int .u64 (wd (q) 2 : Int), .int .u64 (wd (q) 3 : Int)], .int .u8 (i : Int)] V fun e w'' => e = .returned (.bool (q i)) ∧ Below V.heap.size V w'' from rHas_any q i V hlt)
      have CW := hid (fun (h : g i = true) V => show Calls Tryd.prog 30 #[.agg #[.int .u64 (wd (upto g i) 0 : Int), .int .u64 (wd (upto g i) 1 : Int), .int .u64 (wd (upto g i) 2 : Int), .int .u64 (wd (upto g i) 3 : Int)], .int .u8 (i : Int)] V fun e w'' => e = .returned (.agg #[.int .u64 (wd (upto g (i + 1)) 0 : Int), .int .u64 (wd (upto g (i + 1)) 1 : Int), .int .u64 (wd (upto g (i + 1)) 2 : Int), .int .u64 (wd (upto g (i + 1)) 3 : Int)]) ∧ Below V.heap.size V w'' from by rw [upto_yes h]; exact rwith_any (upto g i) i V hlt)
      have K := hid (fun V (hV : Below wr.heap.size wr V) => (show SB V (w.heap.size) p ∧ SB V (w.heap.size + 1) q ∧ SB V (w.heap.size + 1 + 1) (fun _ => false) ∧ SB V (w.heap.size + 1 + 1 + 1) (upto g i) ∧ Below w.heap.size w V from
        ⟨(hV.block _ (heap_lt hp)).trans hp, (hV.block _ (heap_lt hq)).trans hq, (hV.block _ (heap_lt hR)).trans hR, (hV.block _ (heap_lt hD)).trans hD, hbw.trans (hV.mono hbw.size)⟩))
      have L := hid hlt
      obtain ⟨p0, p1, p2, p3⟩ := cells4 hp
      obtain ⟨q0, q1, q2, q3⟩ := cells4 hq
      clear hp hq hR hD hbw hlt
      go_wp2_with fail
      refine (Cp.out _).mono ?_
      rintro e w1 ⟨rfl, b1⟩
      cases hp : p i
      · skip
        have HB1 := hid b1
        obtain ⟨q0, q1, q2, q3⟩ := cells4 (K.out _ b1).2.1
        clear b1
        go_wp2_with fail
        refine (Cq.out _).mono ?_
        rintro e w2 ⟨rfl, b2'⟩
        have b2 := HB1.out.trans (b2'.mono HB1.out.size)
        clear b2'
        cases hq : q i
        · skip
          have gn : g i = false := by rw [G.out]; simp [hp, hq]
          obtain ⟨kp, kq, kR, kD, kb⟩ := K.out _ b2
          have HZ := hid (And.intro gn (And.intro kp (And.intro kq (And.intro kR (And.intro kD kb)))))
          clear kp kq kR kD kb gn b2
          go_wp2
          go_roundg (gk - 1)
          case measure => have := L.out; omega
          case rel =>
            obtain ⟨gn, kp, kq, kR, kD, kb⟩ := HZ.out
            exact ⟨i + 1, by go_num, by have := L.out; omega, kp, kq, kR, by rw [upto_no gn]; exact kD, kb⟩
        · skip
          have gy : g i = true := by rw [G.out]; simp [hp, hq]
          have CX := hid (CW.out gy)
          obtain ⟨kp, kq, kR, kD, kb⟩ := K.out _ b2
          have HK := hid (And.intro b2 True.intro)
          obtain ⟨d0, d1, d2, d3⟩ := cells4 kD
          clear kp kq kR kD kb gy b2
          go_wp2_with fail
          refine (CX.out _).mono ?_
          rintro e Y ⟨rfl, hY⟩
          have bY := HK.out.1.trans (hY.mono HK.out.1.size)
          obtain ⟨kp, kq, kR, kD, kb⟩ := K.out _ bY
          have HZ := hid (And.intro kp (And.intro kq (And.intro kR (And.intro kD kb))))
          obtain ⟨f0, f1, f2, f3⟩ := frozen4 kD
          obtain ⟨c0, c1, c2, c3⟩ := cells4 kD
          clear kp kq kR kD kb bY hY d0 d1 d2 d3
          go_wp2
          go_roundg (gk - 1)
          case measure => have := L.out; omega
          case rel =>
            obtain ⟨kp, kq, kR, kD, kb⟩ := HZ.out
            have h5 := kb.size
            refine ⟨i + 1, by go_num, by have := L.out; omega, far4 kp (by omega), far4 kq (by omega), far4 kR (by omega), four_set kD, ?_⟩
            exact below_put (below_put (below_put (below_put kb (by omega)) (by omega)) (by omega)) (by omega)
      · skip
        have gy : g i = true := by rw [G.out]; simp [hp]
        have CX := hid (CW.out gy)
        obtain ⟨kp, kq, kR, kD, kb⟩ := K.out _ b1
        have HK := hid (And.intro b1 True.intro)
        obtain ⟨d0, d1, d2, d3⟩ := cells4 kD
        clear kp kq kR kD kb gy b1
        go_wp2_with fail
        refine (CX.out _).mono ?_
        rintro e Y ⟨rfl, hY⟩
        have bY := HK.out.1.trans (hY.mono HK.out.1.size)
        obtain ⟨kp, kq, kR, kD, kb⟩ := K.out _ bY
        have HZ := hid (And.intro kp (And.intro kq (And.intro kR (And.intro kD kb))))
        obtain ⟨f0, f1, f2, f3⟩ := frozen4 kD
        obtain ⟨c0, c1, c2, c3⟩ := cells4 kD
        clear kp kq kR kD kb bY hY d0 d1 d2 d3
        go_wp2
        go_roundg (gk - 1)
        case measure => have := L.out; omega
        case rel =>
          obtain ⟨kp, kq, kR, kD, kb⟩ := HZ.out
          have h5 := kb.size
          refine ⟨i + 1, by go_num, by have := L.out; omega, far4 kp (by omega), far4 kq (by omega), far4 kR (by omega), four_set kD, ?_⟩
          exact below_put (below_put (below_put (below_put kb (by omega)) (by omega)) (by omega)) (by omega)
    · have hin : ¬ (i : Int) < 256 := by omega
      have hA' : SB wr (w.heap.size + 1 + 1 + 1) g := SB_congr (fun x hx => upto_end g (by omega) ) hD
      obtain ⟨c0, c1, c2, c3⟩ := cells4 hA'
      obtain ⟨a0, a1, a2, a3⟩ := cells4 hR
      obtain ⟨f0, f1, f2, f3⟩ := frozen4 hR
      have HA := hid hR
      have HB := hid hbw
      clear hp hq hA' hR hD hbw
      go_wp2
      have z := four_set (x' := .int .u64 (wd g 0 : Int)) (y' := .int .u64 (wd g 1 : Int)) (z' := .int .u64 (wd g 2 : Int)) (u' := .int .u64 (wd g 3 : Int)) HA.out
      obtain ⟨r0, r1, r2, r3⟩ := cells4 z
      refine bodyPost_ret (v := sv g) ?_ rfl ⟨rfl, ?_⟩
      · unfold sv; simp [results, Tryd.results17, go_sem, r0, r1, r2, r3]
      · exact below_put (below_put (below_put (below_put HB.out (by omega)) (by omega)) (by omega)) (by omega)

set_option maxRecDepth 100000 in
set_option maxHeartbeats 4000000 in
theorem rIntersect_any (p q : Nat → Bool) (w : World) :
    Calls Tryd.prog 19 #[sv p, sv q] w fun e w' => e = .returned (sv (fun x => p x && q x)) ∧ Below w.heap.size w w' := by
  obtain ⟨g, hg⟩ : ∃ g : Nat → Bool, g = fun x => p x && q x := ⟨_, rfl⟩
  have G := hid (show ∀ x, g x = (fun x => p x && q x) x from fun x => by rw [hg])
  rw [← hg]
  clear hg
  obtain ⟨W, hW⟩ : ∃ W, W = ((((w.alloc (.cells #[.int .u64 (wd (p) 0 : Int), .int .u64 (wd (p) 1 : Int), .int .u64 (wd (p) 2 : Int), .int .u64 (wd (p) 3 : Int)] 25)).alloc (.cells #[.int .u64 (wd (q) 0 : Int), .int .u64 (wd (q) 1 : Int), .int .u64 (wd (q) 2 : Int), .int .u64 (wd (q) 3 : Int)] 25)).alloc zset).alloc zset) := ⟨_, rfl⟩
  have HX := hid (by have := Go.Frame.four w (.cells #[.int .u64 (wd (p) 0 : Int), .int .u64 (wd (p) 1 : Int), .int .u64 (wd (p) 2 : Int), .int .u64 (wd (p) 3 : Int)] 25) (.cells #[.int .u64 (wd (q) 0 : Int), .int .u64 (wd (q) 1 : Int), .int .u64 (wd (q) 2 : Int), .int .u64 (wd (q) 3 : Int)] 25) zset zset; rw [← hW] at this; exact this)
  have HW := hid hW
  unfold zset at hW
  unfold sv
  go_enter Tryd.func19, Tryd.ntmps19
  go_wp2_with fail
  rw [← hW]
  clear hW
  go_loopg [6] 256 (fun k sl wr => ∃ i : Nat, sl = .int .i64 i ∧ i + k = 256 ∧ SB wr (w.heap.size) p ∧ SB wr (w.heap.size + 1) q ∧ SB wr (w.heap.size + 1 + 1) (fun _ => false) ∧ SB wr (w.heap.size + 1 + 1 + 1) (upto g i) ∧ Below w.heap.size w wr)
  case atStart => exact ⟨0, rfl, rfl, HX.out.1, HX.out.2.1, sb_zero HX.out.2.2.1, SB_congr (fun x _ => (upto_zero g x).symm) (sb_zero HX.out.2.2.2.1), HX.out.2.2.2.2.1⟩
  case round =>
    obtain ⟨i, rfl, hk, hp, hq, hR, hD, hbw⟩ := hrel
    by_cases hlt : i < 256
    · have hlt' : (i : Int) < 256 := by omega
      have e3 : IntKind.u8.wrap (i : Int) = (i : Int) := by rw [IntKind.wrap_u8]; omega
      have Cp := hid (fun V => show Calls Tryd.prog 15 #[.agg #[.int .u64 (wd (p) 0 : Int), .int .u64 (wd (p) 1 : Int), .int .u64 (wd (p) 2 : Int), .int .u64 (wd (p) 3 : Int)], .int .u8 (i : Int)] V fun e w'' => e = .returned (.bool (p i)) ∧ Below V.heap.size V w'' from rHas_any p i V hlt)
      have Cq := hid (fun V => show Calls Tryd.prog 15 #[.agg #[.int .u64 (wd (q) 0 : Int), .int .u64 (wd (q) 1 : Int), .int .u64 (wd (q) 2 : Int), .int .u64 (wd (q) 3 : Int)], .int .u8 (i : Int)] V fun e w'' => e = .returned (.bool (q i)) ∧ Below V.heap.size V w'' from rHas_any q i V hlt)
      have CW := hid (fun (h : g i = true) V => show Calls Tryd.prog 30 #[.agg #[.int .u64 (wd (upto g i) 0 : Int), .int .u64 (wd (upto g i) 1 : Int), .int .u64 (wd (upto g i) 2 : Int), .int .u64 (wd (upto g i) 3 : Int)], .int .u8 (i : Int)] V fun e w'' => e = .returned (.agg #[.int .u64 (wd (upto g (i + 1)) 0 : Int), .int .u64 (wd (upto g (i + 1)) 1 : Int), .int .u64 (wd (upto g (i + 1)) 2 : Int), .int .u64 (wd (upto g (i + 1)) 3 : Int)]) ∧ Below V.heap.size V w'' from by rw [upto_yes h]; exact rwith_any (upto g i) i V hlt)
      have K := hid (fun V (hV : Below wr.heap.size wr V) => (show SB V (w.heap.size) p ∧ SB V (w.heap.size + 1) q ∧ SB V (w.heap.size + 1 + 1) (fun _ => false) ∧ SB V (w.heap.size + 1 + 1 + 1) (upto g i) ∧ Below w.heap.size w V from
        ⟨(hV.block _ (heap_lt hp)).trans hp, (hV.block _ (heap_lt hq)).trans hq, (hV.block _ (heap_lt hR)).trans hR, (hV.block _ (heap_lt hD)).trans hD, hbw.trans (hV.mono hbw.size)⟩))
      have L := hid hlt
      obtain ⟨p0, p1, p2, p3⟩ := cells4 hp
      obtain ⟨q0, q1, q2, q3⟩ := cells4 hq
      clear hp hq hR hD hbw hlt
      go_wp2_with fail
      refine (Cp.out _).mono ?_
      rintro e w1 ⟨rfl, b1⟩
      cases hp : p i
      · skip
        have gn : g i = false := by rw [G.out]; simp [hp]
        obtain ⟨kp, kq, kR, kD, kb⟩ := K.out _ b1
        have HZ := hid (And.intro gn (And.intro kp (And.intro kq (And.intro kR (And.intro kD kb)))))
        clear kp kq kR kD kb gn b1
        go_wp2
        go_roundg (gk - 1)
        case measure => have := L.out; omega
        case rel =>
          obtain ⟨gn, kp, kq, kR, kD, kb⟩ := HZ.out
          exact ⟨i + 1, by go_num, by have := L.out; omega, kp, kq, kR, by rw [upto_no gn]; exact kD, kb⟩
      · skip
        have HB1 := hid b1
        obtain ⟨q0, q1, q2, q3⟩ := cells4 (K.out _ b1).2.1
        clear b1
        go_wp2_with fail
        refine (Cq.out _).mono ?_
        rintro e w2 ⟨rfl, b2'⟩
        have b2 := HB1.out.trans (b2'.mono HB1.out.size)
        clear b2'
        cases hq : q i
        · skip
          have gn : g i = false := by rw [G.out]; simp [hp, hq]
          obtain ⟨kp, kq, kR, kD, kb⟩ := K.out _ b2
          have HZ := hid (And.intro gn (And.intro kp (And.intro kq (And.intro kR (And.intro kD kb)))))
          clear kp kq kR kD kb gn b2
          go_wp2
          go_roundg (gk - 1)
          case measure => have := L.out; omega
          case rel =>
            obtain ⟨gn, kp, kq, kR, kD, kb⟩ := HZ.out
            exact ⟨i + 1, by go_num, by have := L.out; omega, kp, kq, kR, by rw [upto_no gn]; exact kD, kb⟩
        · skip
          have gy : g i = true := by rw [G.out]; simp [hp, hq]
          have CX := hid (CW.out gy)
          obtain ⟨kp, kq, kR, kD, kb⟩ := K.out _ b2
          have HK := hid (And.intro b2 True.intro)
          obtain ⟨d0, d1, d2, d3⟩ := cells4 kD
          clear kp kq kR kD kb gy b2
          go_wp2_with fail
          refine (CX.out _).mono ?_
          rintro e Y ⟨rfl, hY⟩
          have bY := HK.out.1.trans (hY.mono HK.out.1.size)
          obtain ⟨kp, kq, kR, kD, kb⟩ := K.out _ bY
          have HZ := hid (And.intro kp (And.intro kq (And.intro kR (And.intro kD kb))))
          obtain ⟨f0, f1, f2, f3⟩ := frozen4 kD
          obtain ⟨c0, c1, c2, c3⟩ := cells4 kD
          clear kp kq kR kD kb bY hY d0 d1 d2 d3
          go_wp2
          go_roundg (gk - 1)
          case measure => have := L.out; omega
          case rel =>
            obtain ⟨kp, kq, kR, kD, kb⟩ := HZ.out
            have h5 := kb.size
            refine ⟨i + 1, by go_num, by have := L.out; omega, far4 kp (by omega), far4 kq (by omega), far4 kR (by omega), four_set kD, ?_⟩
            exact below_put (below_put (below_put (below_put kb (by omega)) (by omega)) (by omega)) (by omega)
    · have hin : ¬ (i : Int) < 256 := by omega
      have hA' : SB wr (w.heap.size + 1 + 1 + 1) g := SB_congr (fun x hx => upto_end g (by omega) ) hD
      obtain ⟨c0, c1, c2, c3⟩ := cells4 hA'
      obtain ⟨a0, a1, a2, a3⟩ := cells4 hR
      obtain ⟨f0, f1, f2, f3⟩ := frozen4 hR
      have HA := hid hR
      have HB := hid hbw
      clear hp hq hA' hR hD hbw
      go_wp2
      have z := four_set (x' := .int .u64 (wd g 0 : Int)) (y' := .int .u64 (wd g 1 : Int)) (z' := .int .u64 (wd g 2 : Int)) (u' := .int .u64 (wd g 3 : Int)) HA.out
      obtain ⟨r0, r1, r2, r3⟩ := cells4 z
      refine bodyPost_ret (v := sv g) ?_ rfl ⟨rfl, ?_⟩
      · unfold sv; simp [results, Tryd.results19, go_sem, r0, r1, r2, r3]
      · exact below_put (below_put (below_put (below_put HB.out (by omega)) (by omega)) (by omega)) (by omega)

set_option maxRecDepth 100000 in
set_option maxHeartbeats 4000000 in
theorem rComplement_any (p : Nat → Bool) (w : World) :
    Calls Tryd.prog 21 #[sv p] w fun e w' => e = .returned (sv (fun x => !p x)) ∧ Below w.heap.size w w' := by
  obtain ⟨g, hg⟩ : ∃ g : Nat → Bool, g = fun x => !p x := ⟨_, rfl⟩
  have G := hid (show ∀ x, g x = (fun x => !p x) x from fun x => by rw [hg])
  rw [← hg]
  clear hg
  obtain ⟨W, hW⟩ : ∃ W, W = (((w.alloc (.cells #[.int .u64 (wd (p) 0 : Int), .int .u64 (wd (p) 1 : Int), .int .u64 (wd (p) 2 : Int), .int .u64 (wd (p) 3 : Int)] 25)).alloc zset).alloc zset) := ⟨_, rfl⟩
  have HX := hid (by have := Go.Frame.three w (.cells #[.int .u64 (wd (p) 0 : Int), .int .u64 (wd (p) 1 : Int), .int .u64 (wd (p) 2 : Int), .int .u64 (wd (p) 3 : Int)] 25) zset zset; rw [← hW] at this; exact this)
  have HW := hid hW
  unfold zset at hW
  unfold sv
  go_enter Tryd.func21, Tryd.ntmps21
  go_wp2_with fail
  rw [← hW]
  clear hW
  go_loopg [4] 256 (fun k sl wr => ∃ i : Nat, sl = .int .i64 i ∧ i + k = 256 ∧ SB wr (w.heap.size) p ∧ SB wr (w.heap.size + 1) (fun _ => false) ∧ SB wr (w.heap.size + 1 + 1) (upto g i) ∧ Below w.heap.size w wr)
  case atStart => exact ⟨0, rfl, rfl, HX.out.1, sb_zero HX.out.2.1, SB_congr (fun x _ => (upto_zero g x).symm) (sb_zero HX.out.2.2.1), HX.out.2.2.2.1⟩
  case round =>
    obtain ⟨i, rfl, hk, hp, hR, hD, hbw⟩ := hrel
    by_cases hlt : i < 256
    · have hlt' : (i : Int) < 256 := by omega
      have e3 : IntKind.u8.wrap (i : Int) = (i : Int) := by rw [IntKind.wrap_u8]; omega
      have Cp := hid (fun V => show Calls Tryd.prog 15 #[.agg #[.int .u64 (wd (p) 0 : Int), .int .u64 (wd (p) 1 : Int), .int .u64 (wd (p) 2 : Int), .int .u64 (wd (p) 3 : Int)], .int .u8 (i : Int)] V fun e w'' => e = .returned (.bool (p i)) ∧ Below V.heap.size V w'' from rHas_any p i V hlt)
      have CW := hid (fun (h : g i = true) V => show Calls Tryd.prog 30 #[.agg #[.int .u64 (wd (upto g i) 0 : Int), .int .u64 (wd (upto g i) 1 : Int), .int .u64 (wd (upto g i) 2 : Int), .int .u64 (wd (upto g i) 3 : Int)], .int .u8 (i : Int)] V fun e w'' => e = .returned (.agg #[.int .u64 (wd (upto g (i + 1)) 0 : Int), .int .u64 (wd (upto g (i + 1)) 1 : Int), .int .u64 (wd (upto g (i + 1)) 2 : Int), .int .u64 (wd (upto g (i + 1)) 3 : Int)]) ∧ Below V.heap.size V w'' from by rw [upto_yes h]; exact rwith_any (upto g i) i V hlt)
      have K := hid (fun V (hV : Below wr.heap.size wr V) => (show SB V (w.heap.size) p ∧ SB V (w.heap.size + 1) (fun _ => false) ∧ SB V (w.heap.size + 1 + 1) (upto g i) ∧ Below w.heap.size w V from
        ⟨(hV.block _ (heap_lt hp)).trans hp, (hV.block _ (heap_lt hR)).trans hR, (hV.block _ (heap_lt hD)).trans hD, hbw.trans (hV.mono hbw.size)⟩))
      have L := hid hlt
      obtain ⟨p0, p1, p2, p3⟩ := cells4 hp
      clear hp hR hD hbw hlt
      go_wp2_with fail
      refine (Cp.out _).mono ?_
      rintro e w1 ⟨rfl, b1⟩
      cases hp : p i
      · skip
        have gy : g i = true := by rw [G.out]; simp [hp]
        have CX := hid (CW.out gy)
        obtain ⟨kp, kR, kD, kb⟩ := K.out _ b1
        have HK := hid (And.intro b1 True.intro)
        obtain ⟨d0, d1, d2, d3⟩ := cells4 kD
        clear kp kR kD kb gy b1
        go_wp2_with fail
        refine (CX.out _).mono ?_
        rintro e Y ⟨rfl, hY⟩
        have bY := HK.out.1.trans (hY.mono HK.out.1.size)
        obtain ⟨kp, kR, kD, kb⟩ := K.out _ bY
        have HZ := hid (And.intro kp (And.intro kR (And.intro kD kb)))
        obtain ⟨f0, f1, f2, f3⟩ := frozen4 kD
        obtain ⟨c0, c1, c2, c3⟩ := cells4 kD
        clear kp kR kD kb bY hY d0 d1 d2 d3
        go_wp2
        go_roundg (gk - 1)
        case measure => have := L.out; omega
        case rel =>
          obtain ⟨kp, kR, kD, kb⟩ := HZ.out
          have h5 := kb.size
          refine ⟨i + 1, by go_num, by have := L.out; omega, far4 kp (by omega), far4 kR (by omega), four_set kD, ?_⟩
          exact below_put (below_put (below_put (below_put kb (by omega)) (by omega)) (by omega)) (by omega)
      · skip
        have gn : g i = false := by rw [G.out]; simp [hp]
        obtain ⟨kp, kR, kD, kb⟩ := K.out _ b1
        have HZ := hid (And.intro gn (And.intro kp (And.intro kR (And.intro kD kb))))
        clear kp kR kD kb gn b1
        go_wp2
        go_roundg (gk - 1)
        case measure => have := L.out; omega
        case rel =>
          obtain ⟨gn, kp, kR, kD, kb⟩ := HZ.out
          exact ⟨i + 1, by go_num, by have := L.out; omega, kp, kR, by rw [upto_no gn]; exact kD, kb⟩
    · have hin : ¬ (i : Int) < 256 := by omega
      have hA' : SB wr (w.heap.size + 1 + 1) g := SB_congr (fun x hx => upto_end g (by omega) ) hD
      obtain ⟨c0, c1, c2, c3⟩ := cells4 hA'
      obtain ⟨a0, a1, a2, a3⟩ := cells4 hR
      obtain ⟨f0, f1, f2, f3⟩ := frozen4 hR
      have HA := hid hR
      have HB := hid hbw
      clear hp hA' hR hD hbw
      go_wp2
      have z := four_set (x' := .int .u64 (wd g 0 : Int)) (y' := .int .u64 (wd g 1 : Int)) (z' := .int .u64 (wd g 2 : Int)) (u' := .int .u64 (wd g 3 : Int)) HA.out
      obtain ⟨r0, r1, r2, r3⟩ := cells4 z
      refine bodyPost_ret (v := sv g) ?_ rfl ⟨rfl, ?_⟩
      · unfold sv; simp [results, Tryd.results21, go_sem, r0, r1, r2, r3]
      · exact below_put (below_put (below_put (below_put HB.out (by omega)) (by omega)) (by omega)) (by omega)

end Go.Proofs.YtnjlnldbfejjpaaDoor
