/-
  The examples of the document as plain maths.
  Contract: Parse.
  Expressions with marks in memory: the blocks of a tree lie in an interval, those of its kids in intervals one behind the other.
  Expressions with marks: a node opened, its kids moved on one by one.
  Contracts: read, readConcat.
  Contract: read.
-/
import Derived.Test.YtednoideboeehaaDoorZ09
import Derived.Test.YtednoideboeehaaDoorZ10
import Derived.Test.YtednoideboeehaaDoorZ04
import Derived.Test.YtednoideboeehaaDoorZ06
import Derived.Deep.LoopGhost
import Derived.LoopIn
import Derived.Test.YtednoideboeehaaDoorZ02
section
set_option linter.unusedSimpArgs false
set_option linter.unusedVariables false
namespace Go.Proofs.YtednoideboeehaaDoor
open Rg

def exA : Rx := cat [setx (one 97), star (alt [setx (one 98), setx (one 99)])]
def exB : Rx := cat [setx (one 97), star (setx (one 97))]
def exC : Rx := alt [setx (uni (rng 97 99) (rng 120 120)), eps]
theorem qA : parseR [97, 40, 98, 124, 99, 41, 42] = (exA, 0, 0) := by rfl
theorem qB : parseR [97, 43] = (exB, 0, 0) := by rfl
theorem qC : parseR [91, 97, 45, 99, 120, 93, 63] = (exC, 0, 0) := by rfl
theorem qD : parseR [97, 41] = (zr, 1, 3) := by rfl
theorem qE : parseR [91, 97] = (zr, 2, 3) := by rfl
theorem mA1 : mtc exA [97, 98, 99, 98] = true := by rfl
theorem mA2 : mtc exA [98, 97] = false := by rfl
theorem mA3 : mtc exA [97, 99, 98] = true := by rfl
theorem mA4 : mtc exA [98] = false := by rfl
theorem fB : fmt exB = [97, 97, 42] := by decide +kernel
theorem fC : fmt exC = [91, 97, 45, 99, 120, 93, 124, 40, 41] := by decide +kernel
theorem vA : fits exA 30 = true := by decide +kernel
theorem vB : fits exB 30 = true := by decide +kernel
theorem vC : fits exC 30 = true := by decide +kernel
theorem prB : prt exB = true := by decide +kernel
theorem prC : prt exC = true := by decide +kernel
theorem nA : nul exA = false := by rfl
theorem pcA : parts exA ≤ 100 := by decide +kernel
theorem pcB : parts exB ≤ 100 := by decide +kernel
theorem pcC : parts exC ≤ 100 := by decide +kernel
theorem der_mtc {b : UInt8} {r d : Rx} (h : Der b r d) (hv : Vd r) (t : List UInt8) : mtc d t = mtc r (b :: t) := by
  have hd := ((Dv.step (.inl rfl) h).fine hv).1
  rw [Bool.eq_iff_iff, mtc_iff hd, mtc_iff hv, h.L]
theorem der_fits {b : UInt8} {r d : Rx} (h : Der b r d) (hf : fits r 30 = true) : fits d 32 = true := by
  have hv : Vd r := ⟨_, hf⟩
  have hd := (Dv.step (.inl rfl) h).fine hv
  have := (fits_depth hv).1 hf
  exact (fits_depth hd.1).2 (by omega)
theorem der_parts {b : UInt8} {r d : Rx} (h : Der b r d) (hv : Vd r) (hp : parts r ≤ 90) : parts d ≤ 1000000 := by
  have hd := ((Dv.step (.inl rfl) h).fine hv).2.2
  have h1 : parts r * parts r ≤ 90 * 90 := Nat.mul_le_mul hp hp
  have h2 : parts r * (parts r * parts r + 1) ≤ 90 * (90 * 90 + 1) := Nat.mul_le_mul hp (by omega)
  omega
end Go.Proofs.YtednoideboeehaaDoor
end
section
set_option linter.unusedSimpArgs false
set_option linter.unusedVariables false
namespace Go.Proofs.YtednoideboeehaaDoor
open Go.RowKit Bs Rg Go.Frame
attribute [local go_sem] eq_zero eq_set

/-- The boxes of Parse: the three results, the parser, the variable that points to it. -/
structure PB (w : World) (W : World) : Prop where
  r0 : ∃ x0 x1 x2 x3 x4 x5, W.heap[w.heap.size]? = some (.cells #[x0, x1, x2, x3, x4, x5] 27 (0, 0))
  r1 : ∃ y, W.heap[w.heap.size + 1]? = some (.cells #[y] 3 (0, 0))
  r2 : ∃ z, W.heap[w.heap.size + 1 + 1]? = some (.cells #[z] 31 (0, 0))
  r4 : W.heap[w.heap.size + 1 + 1 + 1 + 1]? = some (.cells #[.pointer (some ⟨w.heap.size + 1 + 1 + 1, 0, none⟩)] 45 (0, 0))
  bel : Below w.heap.size w W
theorem PB.pk {w W W' : World} (h : PB w W) (hp : Pk (w.heap.size + 1 + 1 + 1) W W') : PB w W' := by
  obtain ⟨⟨x0, x1, x2, x3, x4, x5, h0⟩, ⟨y, h1⟩, ⟨z, h2⟩, h4, hb⟩ := h
  exact ⟨⟨x0, x1, x2, x3, x4, x5, (hp.block (by omega) (heap_lt h0)).trans h0⟩, ⟨y, (hp.block (by omega) (heap_lt h1)).trans h1⟩, ⟨z, (hp.block (by omega) (heap_lt h2)).trans h2⟩, (hp.block (by omega) (heap_lt h4)).trans h4, Pk.toBelow hb (by omega) (by have := heap_lt h0; omega) hp⟩
theorem PB.below {w W W' : World} (h : PB w W) (hp : Below W.heap.size W W') : PB w W' := h.pk (Pk.of hp)
/-- The results laid. -/
def laid (w W : World) (x0 x1 x2 x3 x4 x5 y z : Value) : World :=
  (((((((W.setCell ⟨w.heap.size, 0, none⟩ x0).setCell ⟨w.heap.size, 1, none⟩ x1).setCell ⟨w.heap.size, 2, none⟩ x2).setCell ⟨w.heap.size, 3, none⟩ x3).setCell ⟨w.heap.size, 4, none⟩ x4).setCell ⟨w.heap.size, 5, none⟩ x5).setCell ⟨w.heap.size + 1, 0, none⟩ y).setCell ⟨w.heap.size + 1 + 1, 0, none⟩ z
theorem PB.laid {w W : World} (h : PB w W) (x0 x1 x2 x3 x4 x5 y z : Value) : (laid w W x0 x1 x2 x3 x4 x5 y z).heap[w.heap.size]? = some (.cells #[x0, x1, x2, x3, x4, x5] 27 (0, 0)) ∧ (laid w W x0 x1 x2 x3 x4 x5 y z).heap[w.heap.size + 1]? = some (.cells #[y] 3 (0, 0)) ∧ (laid w W x0 x1 x2 x3 x4 x5 y z).heap[w.heap.size + 1 + 1]? = some (.cells #[z] 31 (0, 0)) ∧ Below w.heap.size w (laid w W x0 x1 x2 x3 x4 x5 y z) := by
  obtain ⟨⟨u0, u1, u2, u3, u4, u5, h0⟩, ⟨v, h1⟩, ⟨z', h2⟩, h4, hb⟩ := h
  have far : ∀ {B : Nat} {o : Obj}, W.heap[B]? = some o → B ≠ w.heap.size → ((((((W.setCell ⟨w.heap.size, 0, none⟩ x0).setCell ⟨w.heap.size, 1, none⟩ x1).setCell ⟨w.heap.size, 2, none⟩ x2).setCell ⟨w.heap.size, 3, none⟩ x3).setCell ⟨w.heap.size, 4, none⟩ x4).setCell ⟨w.heap.size, 5, none⟩ x5).heap[B]? = some o := fun h hn => blk_set (blk_set (blk_set (blk_set (blk_set (blk_set h hn) hn) hn) hn) hn) hn
  refine ⟨blk_set (blk_set (six_set h0) (by show w.heap.size ≠ w.heap.size + 1; omega)) (by show w.heap.size ≠ w.heap.size + 1 + 1; omega), ?_, ?_, ?_⟩
  · exact blk_set ((blk_put (far h1 (by omega))).trans rfl) (by show w.heap.size + 1 ≠ w.heap.size + 1 + 1; omega)
  · exact (blk_put (blk_set (far h2 (by omega)) (by show w.heap.size + 1 + 1 ≠ w.heap.size + 1; omega))).trans rfl
  · unfold Go.Proofs.YtednoideboeehaaDoor.laid
    repeat (refine below_put ?_ (by omega))
    exact hb

theorem laid_far (w W : World) (x0 x1 x2 x3 x4 x5 y z : Value) {b : Nat} (hb : w.heap.size + 3 ≤ b) : (laid w W x0 x1 x2 x3 x4 x5 y z).heap[b]? = W.heap[b]? := by
  unfold laid
  have n0 : b ≠ w.heap.size := by omega
  have n1 : b ≠ w.heap.size + 1 := by omega
  have n2 : b ≠ w.heap.size + 1 + 1 := by omega
  rw [heap_setCell_other _ _ _ _ n2, heap_setCell_other _ _ _ _ n1, heap_setCell_other _ _ _ _ n0, heap_setCell_other _ _ _ _ n0, heap_setCell_other _ _ _ _ n0, heap_setCell_other _ _ _ _ n0, heap_setCell_other _ _ _ _ n0, heap_setCell_other _ _ _ _ n0]
theorem laid_size (w W : World) (x0 x1 x2 x3 x4 x5 y z : Value) : (laid w W x0 x1 x2 x3 x4 x5 y z).heap.size = W.heap.size := by simp [laid, World.setCell]

set_option maxRecDepth 100000 in
set_option maxHeartbeats 4000000 in
theorem Parse_any (s : ByteArray) (w : World) (hs : s.size ≤ 1000000) :
    Calls Tryd.prog 16 #[.string s] w fun e w' => (∃ cs : List Value, e = .returned (.tuple #[.agg cs.toArray, .int .i64 ((parseR s.data.toList).2.1 : Int), .int .i64 ((parseR s.data.toList).2.2 : Int)]) ∧ RC (ge w.heap.size) w' (parseR s.data.toList).1 cs) ∧ Below w.heap.size w w' := by
  have hmf' := hmf
  obtain ⟨l, hl⟩ : ∃ l, l = s.data.toList := ⟨_, rfl⟩
  have hll : l.length = s.size := by rw [hl]; rfl
  rw [← hl]
  obtain ⟨W5, hW5⟩ : ∃ W5, W5 = (((((w.alloc (.cells #[.int .i64 0, .int .u64 0, .int .u64 0, .int .u64 0, .int .u64 0, .slice none 0 0] 27)).alloc (.cells #[.int .i64 0] 3)).alloc (.cells #[.int .i64 0] 31)).alloc (.cells #[.string s, .int .i64 0] 47)).alloc (.cells #[.pointer (some ⟨w.heap.size + 1 + 1 + 1, 0, none⟩)] 45)) := ⟨_, rfl⟩
  have hPB : PB w W5 := by
    rw [hW5]
    refine ⟨⟨_, _, _, _, _, _, blk_alloc (blk_alloc (blk_alloc (blk_alloc (alloc_new _ _))))⟩, ⟨_, blk_alloc (blk_alloc (blk_alloc (alloc_at _ _ (by simp))))⟩, ⟨_, blk_alloc (blk_alloc (alloc_at _ _ (by simp)))⟩, alloc_at _ _ (by simp), ?_⟩
    exact ((((bel1 _ _).alloc (by simp) _).alloc (by simp; omega) _).alloc (by simp; omega) _).alloc (by simp; omega) _
  have hPS : PS (w.heap.size + 1 + 1 + 1) s W5 0 l := by
    refine ⟨?_, by rw [hl]; rfl, by omega, hs⟩
    rw [hW5]
    exact blk_alloc (alloc_at _ _ (by simp))
  have C := hid ((descent (4 * l.length + 4)).2.2.2 _ s 0 l W5 hPS (Nat.le_refl _))
  have H5 := hid hPB
  obtain ⟨q, hq⟩ : ∃ q, q = parseR l := ⟨_, rfl⟩
  rw [← hq]
  unfold parseR at hq
  have h9 : W5.heap.size = w.heap.size + 5 := by rw [hW5]; simp
  clear hPB hPS
  cases hr : pRegex (4 * l.length + 4) l with
  | bad t =>
    rw [hr] at C hq
    simp only [out_bad] at C
    have Q := hid (show q = (zr, l.length - t.length, 3) from hq)
    clear hq
    go_enter_defers Tryd.func16, Tryd.ntmps16
    go_wp2_with fail
    rw [← hW5]
    refine C.out.mono ?_
    rintro e W6 ⟨B6, rfl, p', hP'⟩
    have H6 := hid (And.intro (H5.out.pk B6) hP')
    clear B6 hP'
    go_wp2
    refine leaves_cons (f := 31) (args := #[.pointer (some ⟨w.heap.size + 1 + 1 + 1 + 1, 0, none⟩), .pointer (some ⟨w.heap.size, 0, none⟩), .pointer (some ⟨w.heap.size + 1, 0, none⟩), .pointer (some ⟨w.heap.size + 1 + 1, 0, none⟩)]) (by simp) (by simp [go_sem]) ?_
    obtain ⟨⟨x0, x1, x2, x3, x4, x5, y0⟩, ⟨y, y1⟩, ⟨z, y2⟩, y4, yb⟩ := H6.out.1
    refine (catch_p _ _ _ _ _ p' s x0 x1 x2 x3 x4 x5 y z 9 _ [] _ y4 H6.out.2.box y0 y1 y2 (by omega) (by omega) (by omega)).mono ?_
    rintro e u' w'' ⟨rfl, rfl, hw⟩
    have hw2 : w'' = laid w W6 (.int .i64 0) (.int .u64 0) (.int .u64 0) (.int .u64 0) (.int .u64 0) (.slice none 0 0) (.int .i64 (p' : Int)) (.int .i64 3) := hw
    obtain ⟨k0, k1, k2, kb⟩ := H6.out.1.laid (.int .i64 0) (.int .u64 0) (.int .u64 0) (.int .u64 0) (.int .u64 0) (.slice none 0 0) (.int .i64 (p' : Int)) (.int .i64 3)
    rw [← hw2] at k0 k1 k2 kb
    obtain ⟨m0, m1, m2, m3, m4, m5⟩ := cells6 k0
    have m6 := cells1 k1
    have m7 := cells1 k2
    have hp := H6.out.2.len
    have hple := H6.out.2.le
    clear hw hw2 y0 y1 y2 y4 yb
    simp [Leaves, settle, results, Tryd.results16, go_sem, m0, m1, m2, m3, m4, m5, m6, m7]
    refine ⟨⟨_, ⟨rfl, ?_, ?_⟩, ?_⟩, kb⟩
    · rw [Q.out]; simp only; omega
    · rw [Q.out]; rfl
    · rw [Q.out]; exact zr_rc _ _
  | ok x t =>
    rw [hr] at C hq
    simp only [out_ok] at C
    have hd30 := hid hr
    cases t with
    | cons b t2 =>
      have Q := hid (show q = (zr, l.length - (t2.length + 1), 3) from hq)
      clear hq
      go_enter_defers Tryd.func16, Tryd.ntmps16
      go_wp2_with fail
      rw [← hW5]
      refine C.out.mono ?_
      rintro e W6 ⟨B6, ⟨v, rfl, hv⟩, p', hP'⟩
      obtain ⟨hpl, _⟩ := hP'.head
      have hpl' : (p' : Int) < (s.size : Int) := by omega
      have H6 := hid (And.intro (H5.out.pk B6) (And.intro hP' trivial))
      obtain ⟨_, c1⟩ := hP'.cells
      have c4 := cells1 H6.out.1.r4
      clear B6 hP' hv
      go_wp2_with (go_at_call 33; refine (fail_any _ _).mono ?_; rintro e W7 ⟨rfl, rfl⟩)
      clear c1 c4
      refine leaves_cons (f := 31) (args := #[.pointer (some ⟨w.heap.size + 1 + 1 + 1 + 1, 0, none⟩), .pointer (some ⟨w.heap.size, 0, none⟩), .pointer (some ⟨w.heap.size + 1, 0, none⟩), .pointer (some ⟨w.heap.size + 1 + 1, 0, none⟩)]) (by simp) (by simp [go_sem]) ?_
      obtain ⟨⟨x0, x1, x2, x3, x4, x5, y0⟩, ⟨y, y1⟩, ⟨z, y2⟩, y4, yb⟩ := H6.out.1
      refine (catch_p _ _ _ _ _ p' s x0 x1 x2 x3 x4 x5 y z 9 _ [] _ y4 H6.out.2.1.box y0 y1 y2 (by omega) (by omega) (by omega)).mono ?_
      rintro e u' w'' ⟨rfl, rfl, hw⟩
      have hw2 : w'' = laid w W7 (.int .i64 0) (.int .u64 0) (.int .u64 0) (.int .u64 0) (.int .u64 0) (.slice none 0 0) (.int .i64 (p' : Int)) (.int .i64 3) := hw
      obtain ⟨k0, k1, k2, kb⟩ := H6.out.1.laid (.int .i64 0) (.int .u64 0) (.int .u64 0) (.int .u64 0) (.int .u64 0) (.slice none 0 0) (.int .i64 (p' : Int)) (.int .i64 3)
      rw [← hw2] at k0 k1 k2 kb
      obtain ⟨m0, m1, m2, m3, m4, m5⟩ := cells6 k0
      have m6 := cells1 k1
      have m7 := cells1 k2
      have hp := H6.out.2.1.len
      have hple := H6.out.2.1.le
      clear hw hw2 y0 y1 y2 y4 yb
      simp [Leaves, settle, results, Tryd.results16, go_sem, m0, m1, m2, m3, m4, m5, m6, m7]
      refine ⟨⟨_, ⟨rfl, ?_, ?_⟩, ?_⟩, kb⟩
      · rw [Q.out]; simp at hp ⊢; omega
      · rw [Q.out]; rfl
      · rw [Q.out]; exact zr_rc _ _
    | nil =>
      have hwd : Wd x := (p_wd _).2.2.2.1 hr (by omega)
      by_cases hdx : depth x ≤ 30
      · have Q := hid (show q = (x, 0, 0) by rw [hq]; simp only; rw [if_pos hdx])
        clear hq
        have hdx' : ¬ (30 : Int) < (depth x : Int) := by omega
        go_enter_defers Tryd.func16, Tryd.ntmps16
        go_wp2_with fail
        rw [← hW5]
        refine C.out.mono ?_
        rintro e W6 ⟨B6, ⟨v, rfl, hv⟩, p', hP'⟩
        have hpe : p' = s.size := hP'.done
        have hpn : ¬ (p' : Int) < (s.size : Int) := by omega
        have H6 := hid (And.intro (H5.out.pk B6) (And.intro hP' hv))
        obtain ⟨_, c1⟩ := hP'.cells
        have c4 := cells1 H6.out.1.r4
        obtain ⟨xb, rfl, _⟩ := PT.ptr hv
        obtain ⟨_, k', s', a', n', c', l', _, _, hkb⟩ := hv.block
        have c6 := (cells7 hkb).2.2.2.2.2.2
        have CE := hid (expr_any _ x W6 _ hwd hv)
        clear B6 hP' hv hkb
        obtain ⟨d, hd⟩ : ∃ d, d = depth x := ⟨_, rfl⟩
        rw [← hd] at c6 hdx'
        clear hd
        go_wp2_with fail
        refine CE.out.mono ?_
        rintro e W7 ⟨⟨cs, rfl, hcs⟩, B7⟩
        have H7 := hid (And.intro (H6.out.1.below B7) hcs)
        clear B7 hcs c1 c4 c6
        obtain ⟨kx, sx, lx⟩ := x
        obtain ⟨ax, nx, cx, rfl, hKx⟩ := RC_mk.1 H7.out.2
        have HKx := hid hKx
        clear hKx
        rw [show (rcs kx sx (.slice ax nx cx)).toArray = #[.int .i64 kx, .int .u64 (ws sx 0 : Int), .int .u64 (ws sx 1 : Int), .int .u64 (ws sx 2 : Int), .int .u64 (ws sx 3 : Int), .slice ax nx cx] from rfl]
        obtain ⟨⟨x0, x1, x2, x3, x4, x5, y0⟩, ⟨y, y1⟩, ⟨z, y2⟩, y4, yb⟩ := H7.out.1
        obtain ⟨e0, e1, e2, e3, e4, e5⟩ := cells6 y0
        have f0 := free y0 0
        have f1 := free y0 1
        have f2 := free y0 2
        have f3 := free y0 3
        have f4 := free y0 4
        have f5 := free y0 5
        have g1 := cells1 y1
        have h1 := free y1 0
        have g2 := cells1 y2
        have h2 := free y2 0
        clear y0 y1 y2 y4 yb
        go_wp2
        refine leaves_cons (f := 31) (args := #[.pointer (some ⟨w.heap.size + 1 + 1 + 1 + 1, 0, none⟩), .pointer (some ⟨w.heap.size, 0, none⟩), .pointer (some ⟨w.heap.size + 1, 0, none⟩), .pointer (some ⟨w.heap.size + 1 + 1, 0, none⟩)]) (by simp) (by simp [go_sem]) ?_
        refine (catch_idle _ _ _ _ _).mono ?_
        rintro e u' w'' ⟨rfl, rfl, hw⟩
        have hw2 : w'' = laid w W7 (.int .i64 kx) (.int .u64 (ws sx 0 : Int)) (.int .u64 (ws sx 1 : Int)) (.int .u64 (ws sx 2 : Int)) (.int .u64 (ws sx 3 : Int)) (.slice ax nx cx) (.int .i64 0) (.int .i64 0) := hw
        obtain ⟨k0, k1, k2, kb⟩ := (H7.out.1).laid (.int .i64 kx) (.int .u64 (ws sx 0 : Int)) (.int .u64 (ws sx 1 : Int)) (.int .u64 (ws sx 2 : Int)) (.int .u64 (ws sx 3 : Int)) (.slice ax nx cx) (.int .i64 0) (.int .i64 0)
        rw [← hw2] at k0 k1 k2 kb
        obtain ⟨m0, m1, m2, m3, m4, m5⟩ := cells6 k0
        have m6 := cells1 k1
        have m7 := cells1 k2
        have Q2 := hw2
        clear hw hw2 e0 e1 e2 e3 e4 e5 f0 f1 f2 f3 f4 f5 g1 g2 h1 h2
        simp [Leaves, settle, results, Tryd.results16, go_sem, m0, m1, m2, m3, m4, m5, m6, m7]
        refine ⟨⟨_, ⟨rfl, ?_, ?_⟩, ?_⟩, kb⟩
        · rw [Q.out]; rfl
        · rw [Q.out]; rfl
        · rw [Q.out, Q2]
          have hle : w.heap.size + 3 ≤ W6.heap.size := by have h1 := heap_lt H6.out.1.r4; omega
          exact RC.keep (by rw [laid_size]; exact Nat.le_refl _) (fun b hb _ => laid_far w W7 _ _ _ _ _ _ _ _ (Nat.le_trans hle hb)) (fun b hb => Nat.le_trans (Nat.le_trans (Nat.le_add_right _ 3) hle) hb) _ (RC_mk.2 ⟨ax, nx, cx, rfl, HKx.out⟩)
      · have Q := hid (show q = (zr, 0, 11) by rw [hq]; simp only; rw [if_neg hdx])
        clear hq
        have hdx' : (30 : Int) < (depth x : Int) := by omega
        go_enter_defers Tryd.func16, Tryd.ntmps16
        go_wp2_with fail
        rw [← hW5]
        refine C.out.mono ?_
        rintro e W6 ⟨B6, ⟨v, rfl, hv⟩, p', hP'⟩
        have hpe : p' = s.size := hP'.done
        have hpn : ¬ (p' : Int) < (s.size : Int) := by omega
        have H6 := hid (And.intro (H5.out.pk B6) (And.intro hP' hv))
        obtain ⟨_, c1⟩ := hP'.cells
        have c4 := cells1 H6.out.1.r4
        obtain ⟨xb, rfl, _⟩ := PT.ptr hv
        obtain ⟨_, k', s', a', n', c', l', _, _, hkb⟩ := hv.block
        have c6 := (cells7 hkb).2.2.2.2.2.2
        clear B6 hP' hv hkb
        obtain ⟨d, hd⟩ : ∃ d, d = depth x := ⟨_, rfl⟩
        rw [← hd] at c6 hdx'
        clear hd
        obtain ⟨⟨x0, x1, x2, x3, x4, x5, y0⟩, ⟨y, y1⟩, ⟨z, y2⟩, y4, yb⟩ := H6.out.1
        obtain ⟨e0, e1, e2, e3, e4, e5⟩ := cells6 y0
        have f0 := free y0 0
        have f1 := free y0 1
        have f2 := free y0 2
        have f3 := free y0 3
        have f4 := free y0 4
        have f5 := free y0 5
        have g1 := cells1 y1
        have h1 := free y1 0
        have g2 := cells1 y2
        have h2 := free y2 0
        clear y0 y1 y2 y4 yb
        go_wp2
        refine leaves_cons (f := 31) (args := #[.pointer (some ⟨w.heap.size + 1 + 1 + 1 + 1, 0, none⟩), .pointer (some ⟨w.heap.size, 0, none⟩), .pointer (some ⟨w.heap.size + 1, 0, none⟩), .pointer (some ⟨w.heap.size + 1 + 1, 0, none⟩)]) (by simp) (by simp [go_sem]) ?_
        refine (catch_idle _ _ _ _ _).mono ?_
        rintro e u' w'' ⟨rfl, rfl, hw⟩
        have hw2 : w'' = laid w W6 (.int .i64 0) (.int .u64 0) (.int .u64 0) (.int .u64 0) (.int .u64 0) (.slice none 0 0) (.int .i64 0) (.int .i64 11) := hw
        obtain ⟨k0, k1, k2, kb⟩ := (H6.out.1).laid (.int .i64 0) (.int .u64 0) (.int .u64 0) (.int .u64 0) (.int .u64 0) (.slice none 0 0) (.int .i64 0) (.int .i64 11)
        rw [← hw2] at k0 k1 k2 kb
        obtain ⟨m0, m1, m2, m3, m4, m5⟩ := cells6 k0
        have m6 := cells1 k1
        have m7 := cells1 k2
        have Q2 := hw2
        clear hw hw2 e0 e1 e2 e3 e4 e5 f0 f1 f2 f3 f4 f5 g1 g2 h1 h2
        simp [Leaves, settle, results, Tryd.results16, go_sem, m0, m1, m2, m3, m4, m5, m6, m7]
        refine ⟨⟨_, ⟨rfl, ?_, ?_⟩, ?_⟩, kb⟩
        · rw [Q.out]; rfl
        · rw [Q.out]; rfl
        · rw [Q.out]; exact zr_rc _ _
end Go.Proofs.YtednoideboeehaaDoor
end
section
set_option linter.unusedSimpArgs false
set_option linter.unusedVariables false
namespace Go.Proofs.YtednoideboeehaaDoor
open Go.RowKit Bs Rg Go.Frame

/-- The cells of an expression with marks. -/
def pcs (k : Int) (s : BS) (v : Value) (nu en : Bool) : List Value := [.int .i64 k, .int .u64 (ws s 0 : Int), .int .u64 (ws s 1 : Int), .int .u64 (ws s 2 : Int), .int .u64 (ws s 3 : Int), v, .bool nu, .bool en]
/-- No cell of the block is frozen. -/
def Fz (W : World) (b : Nat) : Prop := ∀ j, W.frozen? ⟨b, j, none⟩ = false
theorem Fz.keep {W W' : World} {b : Nat} (h : Fz W b) (hb : W'.heap[b]? = W.heap[b]?) : Fz W' b := fun j => by
  rw [← h j]
  unfold World.frozen?
  simp only [hb]
theorem Fz.put {W : World} {b : Nat} (h : Fz W b) (a : Addr) (v : Value) : Fz (W.setCell a v) b := fun j => by
  rw [World.frozen?_setCell]; exact h j
mutual
/-- Cells that are an expression with marks, its blocks from lo to hi. -/
def PC (W : World) : Pg → List Value → Nat → Nat → Prop
  | .mk k s l nu en, cs, lo, hi => ∃ a n c, cs = pcs k s (.slice a n c) nu en ∧ l.length = n ∧ n < 140737488355328 ∧ lo ≤ hi ∧ hi ≤ W.heap.size ∧ (n = 0 ∨ ∃ b m, a = some ⟨b, 0, none⟩ ∧ lo ≤ b ∧ b < m ∧ Fz W b ∧ PK W b l 0 m hi)
/-- A row of them. -/
def PK (W : World) (b : Nat) : List Pg → Nat → Nat → Nat → Prop
  | [], _, lo, hi => lo ≤ hi
  | x :: l, off, lo, hi => ∃ mid cs, (∀ (j : Nat) (v : Value), cs[j]? = some v → W.cell? ⟨b, off + j, none⟩ = some v) ∧ PC W x cs lo mid ∧ PK W b l (off + 8) mid hi
end
theorem PC_mk {W : World} {k : Int} {s : BS} {l : List Pg} {nu en : Bool} {cs : List Value} {lo hi : Nat} : PC W (.mk k s l nu en) cs lo hi ↔ ∃ a n c, cs = pcs k s (.slice a n c) nu en ∧ l.length = n ∧ n < 140737488355328 ∧ lo ≤ hi ∧ hi ≤ W.heap.size ∧ (n = 0 ∨ ∃ b m, a = some ⟨b, 0, none⟩ ∧ lo ≤ b ∧ b < m ∧ Fz W b ∧ PK W b l 0 m hi) := by rw [PC]
theorem PC.le {W : World} {x : Pg} {cs : List Value} {lo hi : Nat} (h : PC W x cs lo hi) : lo ≤ hi ∧ hi ≤ W.heap.size ∧ cs.length = 8 := by
  obtain ⟨k, s, l, nu, en⟩ := x
  obtain ⟨a, n, c, rfl, _, _, h1, h2, _⟩ := PC_mk.1 h
  exact ⟨h1, h2, rfl⟩
theorem PK.le {W : World} {b : Nat} : ∀ {l : List Pg} {off lo hi : Nat}, PK W b l off lo hi → lo ≤ hi
  | [], off, lo, hi, h => by rw [PK] at h; exact h
  | x :: l, off, lo, hi, h => by
    rw [PK] at h
    obtain ⟨mid, cs, _, h1, h2⟩ := h
    have := h1.le.1
    have := PK.le h2
    omega
theorem PK.keep {W W' : World} {b : Nat} (hs : W.heap.size ≤ W'.heap.size) : ∀ {l : List Pg} (_ : ∀ x ∈ l, ∀ {cs : List Value} {lo hi : Nat}, (∀ y, lo ≤ y → y < hi → W'.heap[y]? = W.heap[y]?) → PC W x cs lo hi → PC W' x cs lo hi) {off lo hi : Nat},
    (∀ j, off ≤ j → j < off + 8 * l.length → W'.cell? ⟨b, j, none⟩ = W.cell? ⟨b, j, none⟩) → (∀ y, lo ≤ y → y < hi → W'.heap[y]? = W.heap[y]?) → PK W b l off lo hi → PK W' b l off lo hi
  | [], _, off, lo, hi, _, _, h => by rw [PK] at h ⊢; exact h
  | x :: l, ih, off, lo, hi, hc, hk, h => by
    rw [PK] at h ⊢
    obtain ⟨mid, cs, h1, h2, h3⟩ := h
    have l1 := h2.le
    have l2 := h3.le
    refine ⟨mid, cs, fun j v hj => ?_, ih x (by simp) (fun y y1 y2 => hk y y1 (by omega)) h2, PK.keep hs (fun y hy => ih y (by simp [hy])) (fun j j1 j2 => hc j (by omega) (by simp; omega)) (fun y y1 y2 => hk y (by omega) y2) h3⟩
    have hj' := (List.getElem?_eq_some_iff.1 hj).1
    rw [hc (off + j) (by omega) (by simp; omega)]
    exact h1 j v hj
theorem PC.keep {W W' : World} (hs : W.heap.size ≤ W'.heap.size) (x : Pg) : ∀ {cs : List Value} {lo hi : Nat}, (∀ y, lo ≤ y → y < hi → W'.heap[y]? = W.heap[y]?) → PC W x cs lo hi → PC W' x cs lo hi := by
  induction x using Pg.ind with
  | h k s l nu en ih =>
    intro cs lo hi hk h
    rw [PC_mk] at h ⊢
    obtain ⟨a, n, c, rfl, h1, h2, h3, h4, h5⟩ := h
    refine ⟨a, n, c, rfl, h1, h2, h3, Nat.le_trans h4 hs, h5.imp id ?_⟩
    rintro ⟨b, m, rfl, hb, hbm, hF, hK⟩
    have := hK.le
    exact ⟨b, m, rfl, hb, hbm, hF.keep (hk b hb (by omega)), PK.keep hs ih (fun j _ _ => World.cell?_of_block (hk b hb (by omega))) (fun y y1 y2 => hk y (by omega) y2) hK⟩
theorem PC.below {W W' : World} {x : Pg} {cs : List Value} {lo hi : Nat} (h : PC W x cs lo hi) (hb : Below W.heap.size W W') : PC W' x cs lo hi :=
  PC.keep hb.size x (fun y _ hy => hb.block y (Nat.lt_of_lt_of_le hy h.le.2.1)) h
/-- A row, its cells as they were, its kids' blocks as they were. -/
theorem PK.kept {W W' : World} {b : Nat} (hs : W.heap.size ≤ W'.heap.size) {l : List Pg} {off lo hi : Nat} (hc : ∀ j, off ≤ j → j < off + 8 * l.length → W'.cell? ⟨b, j, none⟩ = W.cell? ⟨b, j, none⟩) (hk : ∀ y, lo ≤ y → y < hi → W'.heap[y]? = W.heap[y]?) (h : PK W b l off lo hi) : PK W' b l off lo hi :=
  PK.keep hs (fun x _ {_ _ _} h1 h2 => PC.keep hs x h1 h2) hc hk h
theorem PK.snoc {W : World} {b : Nat} : ∀ {l : List Pg} {off lo mid hi : Nat} {x : Pg} {cs : List Value}, PK W b l off lo mid → (∀ (j : Nat) (v : Value), cs[j]? = some v → W.cell? ⟨b, off + 8 * l.length + j, none⟩ = some v) → (∀ m, m ≤ mid → PC W x cs m hi) → PK W b (l ++ [x]) off lo hi
  | [], off, lo, mid, hi, x, cs, h, hc, hx => by
    rw [PK] at h
    rw [List.nil_append, PK]
    refine ⟨hi, cs, fun j v hj => by simpa using hc j v hj, hx lo h, by rw [PK]; exact Nat.le_refl _⟩
  | y :: l, off, lo, mid, hi, x, cs, h, hc, hx => by
    rw [PK] at h
    obtain ⟨m, cs', h1, h2, h3⟩ := h
    rw [List.cons_append, PK]
    exact ⟨m, cs', h1, h2, PK.snoc h3 (fun j v hj => by rw [← hc j v hj]; congr 2; simp; omega) hx⟩
/-- A kid of a row: where it lies; and the row with another in its place. -/
theorem PK.opened {W : World} {b : Nat} : ∀ {l : List Pg} {off lo hi i : Nat} {x : Pg}, PK W b l off lo hi → l[i]? = some x → ∃ m1 m2 cs, lo ≤ m1 ∧ m2 ≤ hi ∧ (∀ (j : Nat) (v : Value), cs[j]? = some v → W.cell? ⟨b, off + i * 8 + j, none⟩ = some v) ∧ PC W x cs m1 m2 ∧
    ∀ (W' : World) (x' : Pg) (cs' : List Value), W.heap.size ≤ W'.heap.size → (∀ y, lo ≤ y → y < hi → ¬ (m1 ≤ y ∧ y < m2) → W'.heap[y]? = W.heap[y]?) → (∀ j, ¬ (off + i * 8 ≤ j ∧ j < off + i * 8 + 8) → W'.cell? ⟨b, j, none⟩ = W.cell? ⟨b, j, none⟩) → (∀ (j : Nat) (v : Value), cs'[j]? = some v → W'.cell? ⟨b, off + i * 8 + j, none⟩ = some v) → PC W' x' cs' m1 m2 → PK W' b (l.set i x') off lo hi
  | [], off, lo, hi, i, x, h, hi' => by simp at hi'
  | y :: l, off, lo, hi, 0, x, h, hi' => by
    rw [PK] at h
    obtain ⟨mid, cs, h1, h2, h3⟩ := h
    simp at hi'
    subst hi'
    have := h2.le.1
    have := h3.le
    refine ⟨lo, mid, cs, Nat.le_refl _, h3.le, by simpa using h1, h2, ?_⟩
    intro W' x' cs' hs hk hc hc' hx'
    rw [List.set_cons_zero, PK]
    exact ⟨mid, cs', by simpa using hc', hx', h3.kept hs (fun j j1 j2 => hc j (by omega)) (fun z z1 z2 => hk z (by omega) z2 (by omega))⟩
  | y :: l, off, lo, hi, i + 1, x, h, hi' => by
    rw [PK] at h
    obtain ⟨mid, cs, h1, h2, h3⟩ := h
    have l1 := h2.le
    obtain ⟨m1, m2, cs1, a1, a2, a3, a4, a5⟩ := PK.opened (i := i) h3 (by simpa using hi')
    have l2 := h3.le
    have l3 := a4.le
    refine ⟨m1, m2, cs1, by omega, a2, fun j v hj => by rw [← a3 j v hj]; congr 2; omega, a4, ?_⟩
    intro W' x' cs' hs hk hc hc' hx'
    rw [List.set_cons_succ, PK]
    refine ⟨mid, cs, fun j v hj => ?_, PC.keep hs y (fun z z1 z2 => hk z z1 (by omega) (by omega)) h2, a5 W' x' cs' hs (fun z z1 z2 z3 => hk z (by omega) z2 z3) (fun j hj => hc j (by omega)) (fun j v hj => by rw [← hc' j v hj]; congr 2; omega) hx'⟩
    have hj' := (List.getElem?_eq_some_iff.1 hj).1
    rw [hc (off + j) (by omega)]
    exact h1 j v hj
/-- What moving on may change: the mark of the part at ⟨A, o⟩, the blocks of its interval. -/
def Mv (A o lo hi : Nat) (w w' : World) : Prop := w.heap.size ≤ w'.heap.size ∧ (∀ y, y < w.heap.size → y ≠ A → ¬ (lo ≤ y ∧ y < hi) → w'.heap[y]? = w.heap[y]?) ∧ (∀ j, j ≠ o + 7 → w'.cell? ⟨A, j, none⟩ = w.cell? ⟨A, j, none⟩) ∧ w'.os = w.os ∧ w'.tape = w.tape ∧ w'.output = w.output
/-- A part at an address. -/
def At (W : World) (A o : Nat) (x : Pg) (lo hi : Nat) : Prop := A < W.heap.size ∧ ¬ (lo ≤ A ∧ A < hi) ∧ Fz W A ∧ ∃ cs, (∀ (j : Nat) (v : Value), cs[j]? = some v → W.cell? ⟨A, o + j, none⟩ = some v) ∧ PC W x cs lo hi
end Go.Proofs.YtednoideboeehaaDoor
end
section
set_option linter.unusedSimpArgs false
set_option linter.unusedVariables false
namespace Go.Proofs.YtednoideboeehaaDoor
open Go.RowKit Bs Rg Go.Frame

/-- A repetition has one kid, throughout. -/
inductive Sp : Pg → Prop
  | mk {k : Int} {s : BS} {l : List Pg} {nu en : Bool} : (k = 6 → l.length = 1) → (∀ x ∈ l, Sp x) → Sp (.mk k s l nu en)
theorem Sp.one {k : Int} {s : BS} {l : List Pg} {nu en : Bool} (h : Sp (.mk k s l nu en)) : k = 6 → l.length = 1 := by cases h; assumption
theorem Sp.kid {k : Int} {s : BS} {l : List Pg} {nu en : Bool} (h : Sp (.mk k s l nu en)) : ∀ x ∈ l, Sp x := by cases h; assumption
theorem sp_np (r : Rx) : Vd r → Sp (np r) := by
  induction r using Rx.ind with
  | h k s l ih =>
    intro hv
    rw [np]
    have hl : ∀ (m : List Rx), (∀ x ∈ m, x ∈ l) → (npL m).length = m.length ∧ ∀ y ∈ npL m, Sp y := by
      intro m
      induction m with
      | nil => intro _; rw [npL]; simp
      | cons x m ihm =>
        intro hm
        obtain ⟨h1, h2⟩ := ihm fun y hy => hm y (by simp [hy])
        rw [npL]
        refine ⟨by simp [h1], fun y hy => ?_⟩
        rcases List.mem_cons.1 hy with rfl | hy
        · exact ih x (hm x (by simp)) (hv.kid (hm x (by simp)))
        · exact h2 y hy
    obtain ⟨h1, h2⟩ := hl l fun _ h => h
    refine .mk (fun hk => ?_) h2
    rw [h1]; subst hk; exact shaped_star hv.shaped
theorem rd_mk {b : UInt8} {k : Int} {s : BS} {l : List Pg} {nu en g : Bool} : rd b (.mk k s l nu en) g = if k = 3 then .mk k s l nu (g && s b)
    else if k = 4 then .mk k s (rdC b l g false).1 nu (rdC b l g false).2
    else if k = 5 then .mk k s (rdU b l g).1 nu (rdU b l g).2
    else if k = 6 then .mk k s (rdU b l (g || en)).1 nu (rdU b l (g || en)).2
    else .mk k s l nu en := by rw [rd]
theorem rdU_cons {b : UInt8} {x : Pg} {l : List Pg} {g : Bool} : rdU b (x :: l) g = (rd b x g :: (rdU b l g).1, (rd b x g).en || (rdU b l g).2) := by rw [rdU]
theorem rdC_cons {b : UInt8} {x : Pg} {l : List Pg} {g e : Bool} : rdC b (x :: l) g e = (rd b x g :: (rdC b l (x.en || (g && x.nu)) ((rd b x g).en || (e && x.nu))).1, (rdC b l (x.en || (g && x.nu)) ((rd b x g).en || (e && x.nu))).2) := by rw [rdC]
theorem rdU_nil {b : UInt8} {g : Bool} : rdU b [] g = ([], false) := by rw [rdU]
theorem rdC_nil {b : UInt8} {g e : Bool} : rdC b [] g e = ([], e) := by rw [rdC]
theorem sp_rd {b : UInt8} (x : Pg) : Sp x → ∀ g, Sp (rd b x g) := by
  induction x using Pg.ind with
  | h k s l nu en ih =>
    intro hs g
    have hU : ∀ (m : List Pg), (∀ x ∈ m, x ∈ l) → ∀ g, (rdU b m g).1.length = m.length ∧ ∀ y ∈ (rdU b m g).1, Sp y := by
      intro m
      induction m with
      | nil => intro _ g; rw [rdU_nil]; simp
      | cons x m ihm =>
        intro hm g
        obtain ⟨h1, h2⟩ := ihm (fun y hy => hm y (by simp [hy])) g
        rw [rdU_cons]
        refine ⟨by simp [h1], fun y hy => ?_⟩
        rcases List.mem_cons.1 hy with rfl | hy
        · exact ih x (hm x (by simp)) (hs.kid x (hm x (by simp))) g
        · exact h2 y hy
    have hC : ∀ (m : List Pg), (∀ x ∈ m, x ∈ l) → ∀ g e, (rdC b m g e).1.length = m.length ∧ ∀ y ∈ (rdC b m g e).1, Sp y := by
      intro m
      induction m with
      | nil => intro _ g e; rw [rdC_nil]; simp
      | cons x m ihm =>
        intro hm g e
        obtain ⟨h1, h2⟩ := ihm (fun y hy => hm y (by simp [hy])) (x.en || (g && x.nu)) ((rd b x g).en || (e && x.nu))
        rw [rdC_cons]
        refine ⟨by simp [h1], fun y hy => ?_⟩
        rcases List.mem_cons.1 hy with rfl | hy
        · exact ih x (hm x (by simp)) (hs.kid x (hm x (by simp))) g
        · exact h2 y hy
    rw [rd_mk]
    split
    · exact .mk hs.one hs.kid
    split
    · rename_i h4
      obtain ⟨h1, h2⟩ := hC l (fun _ h => h) g false
      exact .mk (fun h => by omega) h2
    split
    · obtain ⟨h1, h2⟩ := hU l (fun _ h => h) g
      exact .mk (fun h => by omega) h2
    split
    · obtain ⟨h1, h2⟩ := hU l (fun _ h => h) (g || en)
      exact .mk (fun h => by rw [h1]; exact hs.one h) h2
    · exact .mk hs.one hs.kid

theorem Mv.refl (A o lo hi : Nat) (w : World) : Mv A o lo hi w w := ⟨Nat.le_refl _, fun _ _ _ _ => rfl, fun _ _ => rfl, rfl, rfl, rfl⟩
theorem Mv.trans {A o lo hi : Nat} {a b c : World} (h : Mv A o lo hi a b) (k : Mv A o lo hi b c) : Mv A o lo hi a c :=
  ⟨Nat.le_trans h.1 k.1, fun y h1 h2 h3 => (k.2.1 y (Nat.lt_of_lt_of_le h1 h.1) h2 h3).trans (h.2.1 y h1 h2 h3), fun j hj => (k.2.2.1 j hj).trans (h.2.2.1 j hj), k.2.2.2.1.trans h.2.2.2.1, k.2.2.2.2.1.trans h.2.2.2.2.1, k.2.2.2.2.2.trans h.2.2.2.2.2⟩
theorem Mv.below {A o lo hi : Nat} {a b : World} (hA : A < a.heap.size) (h : Below a.heap.size a b) : Mv A o lo hi a b :=
  ⟨h.size, fun y hy _ _ => h.block y hy, fun j _ => World.cell?_of_block (h.block A hA), h.os, h.tape, h.output⟩
theorem At.below {W W' : World} {A o lo hi : Nat} {x : Pg} (h : At W A o x lo hi) (hb : Below W.heap.size W W') : At W' A o x lo hi := by
  obtain ⟨h1, h2, h3, cs, h4, h5⟩ := h
  exact ⟨Nat.lt_of_lt_of_le h1 hb.size, h2, h3.keep (hb.block A h1), cs, fun j v hj => (World.cell?_of_block (hb.block A h1)).trans (h4 j v hj), h5.below hb⟩
/-- A node's own cells. -/
def Nc (W : World) (A o : Nat) (k : Int) (s : BS) (v : Value) (nu en : Bool) : Prop := ∀ (j : Nat) (u : Value), (pcs k s v nu en)[j]? = some u → W.cell? ⟨A, o + j, none⟩ = some u
theorem Nc.cells {W : World} {A o : Nat} {k : Int} {s : BS} {v : Value} {nu en : Bool} (h : Nc W A o k s v nu en) : W.cell? ⟨A, o, none⟩ = some (.int .i64 k) ∧ W.cell? ⟨A, o + 1, none⟩ = some (.int .u64 (ws s 0 : Int)) ∧ W.cell? ⟨A, o + 2, none⟩ = some (.int .u64 (ws s 1 : Int)) ∧ W.cell? ⟨A, o + 3, none⟩ = some (.int .u64 (ws s 2 : Int)) ∧ W.cell? ⟨A, o + 4, none⟩ = some (.int .u64 (ws s 3 : Int)) ∧ W.cell? ⟨A, o + 5, none⟩ = some v ∧ W.cell? ⟨A, o + 6, none⟩ = some (.bool nu) ∧ W.cell? ⟨A, o + 7, none⟩ = some (.bool en) :=
  ⟨h 0 _ rfl, h 1 _ rfl, h 2 _ rfl, h 3 _ rfl, h 4 _ rfl, h 5 _ rfl, h 6 _ rfl, h 7 _ rfl⟩
theorem Nc.keep {W W' : World} {A o : Nat} {k : Int} {s : BS} {v : Value} {nu en : Bool} (h : Nc W A o k s v nu en) (hc : ∀ j, W'.cell? ⟨A, j, none⟩ = W.cell? ⟨A, j, none⟩) : Nc W' A o k s v nu en := fun j u hj => (hc _).trans (h j u hj)
theorem Nc.put {W : World} {A o : Nat} {k : Int} {s : BS} {v : Value} {nu en : Bool} (h : Nc W A o k s v nu en) (e : Bool) : Nc (W.setCell ⟨A, o + 7, none⟩ (.bool e)) A o k s v nu e := by
  intro j u hj
  have hj' : j = 0 ∨ j = 1 ∨ j = 2 ∨ j = 3 ∨ j = 4 ∨ j = 5 ∨ j = 6 ∨ j = 7 := by have := (List.getElem?_eq_some_iff.1 hj).1; simp [pcs] at this; omega
  by_cases h7 : j = 7
  · subst h7
    have : u = .bool e := by simpa [pcs] using hj.symm
    subst this
    have h1 := h 7 _ rfl
    exact World.cell?_setCell_same _ _ _ h1
  · rw [World.cell?_setCell_other _ _ _ _ (fun e => h7 (by simp at e; try omega))]
    refine h j u ?_
    rcases hj' with rfl | rfl | rfl | rfl | rfl | rfl | rfl | rfl <;> first | exact hj | exact absurd rfl h7
/-- A node with kids, opened. -/
structure Lp (W : World) (A o lo hi : Nat) (k : Int) (s : BS) (n c : Nat) (nu : Bool) (B m : Nat) (q : List Pg) (en : Bool) : Prop where
  own : Nc W A o k s (.slice (some ⟨B, 0, none⟩) n c) nu en
  fA : Fz W A
  fB : Fz W B
  len : q.length = n
  lt : n < 140737488355328
  Alt : A < W.heap.size
  Aout : ¬ (lo ≤ A ∧ A < hi)
  lB : lo ≤ B
  Bm : B < m
  hi_le : hi ≤ W.heap.size
  kids : PK W B q 0 m hi
theorem Lp.shut {W : World} {A o lo hi : Nat} {k : Int} {s : BS} {n c : Nat} {nu : Bool} {B m : Nat} {q : List Pg} {en : Bool} (h : Lp W A o lo hi k s n c nu B m q en) : At W A o (.mk k s q nu en) lo hi := by
  have := h.kids.le
  have := h.lB
  have := h.Bm
  exact ⟨h.Alt, h.Aout, h.fA, _, h.own, PC_mk.2 ⟨_, n, c, rfl, h.len, h.lt, by omega, h.hi_le, .inr ⟨B, m, rfl, h.lB, h.Bm, h.fB, h.kids⟩⟩⟩
/-- Opened: its kids, if there are any. -/
theorem At.opened {W : World} {A o lo hi : Nat} {k : Int} {s : BS} {l : List Pg} {nu en : Bool} (h : At W A o (.mk k s l nu en) lo hi) : Fz W A ∧ A < W.heap.size ∧ ∃ a n c, l.length = n ∧ n < 140737488355328 ∧ Nc W A o k s (.slice a n c) nu en ∧ (n = 0 ∨ ∃ B m, a = some ⟨B, 0, none⟩ ∧ Lp W A o lo hi k s n c nu B m l en) := by
  obtain ⟨h1, h2, h3, cs, h4, h5⟩ := h
  obtain ⟨a, n, c, rfl, g1, g2, g3, g4, g5⟩ := PC_mk.1 h5
  refine ⟨h3, h1, a, n, c, g1, g2, h4, g5.imp id ?_⟩
  rintro ⟨B, m, rfl, e1, e2, e3, e4⟩
  exact ⟨B, m, rfl, h4, h3, e3, g1, g2, h1, h2, e1, e2, g4, e4⟩
/-- A leaf, another mark. -/
theorem At.put {W : World} {A o lo hi : Nat} {k : Int} {s : BS} {l : List Pg} {nu en : Bool} (h : At W A o (.mk k s l nu en) lo hi) (e : Bool) : At (W.setCell ⟨A, o + 7, none⟩ (.bool e)) A o (.mk k s l nu e) lo hi ∧ Mv A o lo hi W (W.setCell ⟨A, o + 7, none⟩ (.bool e)) := by
  obtain ⟨h1, h2, h3, cs, h4, h5⟩ := h
  obtain ⟨a, n, c, rfl, g1, g2, g3, g4, g5⟩ := PC_mk.1 h5
  have kb : ∀ y, y ≠ A → (W.setCell ⟨A, o + 7, none⟩ (.bool e)).heap[y]? = W.heap[y]? := fun y hy => heap_setCell_other _ _ _ _ hy
  refine ⟨⟨by simpa using h1, h2, h3.put _ _, _, Nc.put h4 e, PC_mk.2 ⟨a, n, c, rfl, g1, g2, g3, by simpa using g4, g5.imp id ?_⟩⟩, by simp, fun y _ hy _ => kb y hy, fun j hj => World.cell?_setCell_other _ _ _ _ (fun e => hj (by simp at e; try omega)), rfl, rfl, rfl⟩
  rintro ⟨B, m, rfl, e1, e2, e3, e4⟩
  have := e4.le
  exact ⟨B, m, rfl, e1, e2, e3.put _ _, e4.kept (by simp) (fun j _ _ => World.cell?_of_block (kb B (by omega))) (fun y y1 y2 => kb y (by omega))⟩
theorem Lp.put {W : World} {A o lo hi : Nat} {k : Int} {s : BS} {n c : Nat} {nu : Bool} {B m : Nat} {q : List Pg} {en : Bool} (h : Lp W A o lo hi k s n c nu B m q en) (e : Bool) : Lp (W.setCell ⟨A, o + 7, none⟩ (.bool e)) A o lo hi k s n c nu B m q e ∧ Mv A o lo hi W (W.setCell ⟨A, o + 7, none⟩ (.bool e)) := by
  have kb : ∀ y, y ≠ A → (W.setCell ⟨A, o + 7, none⟩ (.bool e)).heap[y]? = W.heap[y]? := fun y hy => heap_setCell_other _ _ _ _ hy
  have l1 := h.kids.le
  have l2 := h.lB
  have l3 := h.Bm
  have l4 := h.Aout
  refine ⟨⟨h.own.put e, h.fA.put _ _, h.fB.put _ _, h.len, h.lt, by simpa using h.Alt, h.Aout, h.lB, h.Bm, by simpa using h.hi_le, h.kids.kept (by simp) (fun j _ _ => World.cell?_of_block (kb B (by omega))) (fun y y1 y2 => kb y (by omega))⟩, by simp, fun y _ hy _ => kb y hy, fun j hj => World.cell?_setCell_other _ _ _ _ (fun e => hj (by simp at e; try omega)), rfl, rfl, rfl⟩
/-- A kid, and the node with the kid moved on. -/
theorem Lp.kid {W : World} {A o lo hi : Nat} {k : Int} {s : BS} {n c : Nat} {nu : Bool} {B m : Nat} {q : List Pg} {en : Bool} (h : Lp W A o lo hi k s n c nu B m q en) {i : Nat} {x : Pg} (hx : q[i]? = some x) :
    ∃ m1 m2, At W B (i * 8) x m1 m2 ∧ B < m1 ∧ ∀ (W' : World) (x' : Pg), At W' B (i * 8) x' m1 m2 → Mv B (i * 8) m1 m2 W W' → Lp W' A o lo hi k s n c nu B m (q.set i x') en ∧ Mv A o lo hi W W' := by
  have l1 := h.kids.le
  have l2 := h.lB
  have l3 := h.Bm
  have l4 := h.Aout
  have l5 := h.hi_le
  have l6 := h.Alt
  obtain ⟨m1, m2, cs, a1, a2, a3, a4, a5⟩ := PK.opened h.kids hx
  have l7 := a4.le
  simp only [Nat.zero_add] at a3 a5
  refine ⟨m1, m2, ⟨by omega, by omega, h.fB, cs, a3, a4⟩, by omega, fun W' x' hA hM => ?_⟩
  obtain ⟨g1, g2, g3, cs', g4, g5⟩ := hA
  have kA : W'.heap[A]? = W.heap[A]? := hM.2.1 A (by omega) (by omega) (by omega)
  refine ⟨⟨h.own.keep fun j => World.cell?_of_block kA, h.fA.keep kA, g3, by simpa using h.len, h.lt, Nat.lt_of_lt_of_le h.Alt hM.1, h.Aout, h.lB, h.Bm, Nat.le_trans h.hi_le hM.1, ?_⟩, hM.1, fun y y1 y2 y3 => hM.2.1 y y1 (by omega) (by omega), fun j _ => World.cell?_of_block kA, hM.2.2.2⟩
  exact a5 W' x' cs' hM.1 (fun y y1 y2 y3 => hM.2.1 y (by omega) (by omega) y3) (fun j hj => hM.2.2.1 j (by omega)) g4 g5
theorem At.cells {W : World} {A o lo hi : Nat} {x : Pg} (h : At W A o x lo hi) : W.cell? ⟨A, o + 6, none⟩ = some (.bool x.nu) ∧ W.cell? ⟨A, o + 7, none⟩ = some (.bool x.en) := by
  obtain ⟨k, s, l, nu, en⟩ := x
  obtain ⟨_, _, a, n, c, _, _, h1, _⟩ := h.opened
  exact ⟨h1.cells.2.2.2.2.2.2.1, h1.cells.2.2.2.2.2.2.2⟩
end Go.Proofs.YtednoideboeehaaDoor
end
section
set_option linter.unusedSimpArgs false
set_option linter.unusedVariables false
namespace Go.Proofs.YtednoideboeehaaDoor
open Go.RowKit Bs Rg Go.Frame
attribute [local go_sem] eq_zero eq_set

/-- What moving on by a byte does to the part at an address. -/
def RdC (x : Pg) : Prop := ∀ (W : World) (A o lo hi : Nat) (b : UInt8) (g : Bool), At W A o x lo hi →
    Calls Tryd.prog 46 #[.pointer (some ⟨A, o, none⟩), .int .u8 (b.toNat : Int), .bool g] W fun e w' => e = .returned (.tuple #[]) ∧ At w' A o (rd b x g) lo hi ∧ Mv A o lo hi W w'
theorem rd_nu (b : UInt8) (x : Pg) (g : Bool) : (rd b x g).nu = x.nu := by
  obtain ⟨k, s, l, nu, en⟩ := x
  rw [rd_mk]
  split; · rfl
  split; · rfl
  split; · rfl
  split <;> rfl
theorem drop_at {α : Type} {l : List α} {i : Nat} {x : α} (h : l[i]? = some x) : l.drop i = x :: l.drop (i + 1) := by
  have hi := (List.getElem?_eq_some_iff.1 h)
  obtain ⟨h1, h2⟩ := hi
  rw [List.drop_eq_getElem_cons h1, h2]
theorem at_done {α : Type} {d r : List α} {x : α} (i : Nat) (h : d.length = i) : (d ++ x :: r)[i]? = some x := by
  rw [List.getElem?_append_right (by omega), h]; simp
theorem set_done {α : Type} {d r : List α} {x y : α} (i : Nat) (h : d.length = i) : (d ++ x :: r).set i y = (d ++ [y]) ++ r := by
  rw [List.set_append_right _ _ (by omega), h]; simp
/-- A node whose first kids have been moved on. -/
def Gn (W : World) (A o lo hi : Nat) (k : Int) (s : BS) (a : Option Addr) (n c : Nat) (nu : Bool) (q : List Pg) (en : Bool) : Prop :=
  q.length = n ∧ Nc W A o k s (.slice a n c) nu en ∧ Fz W A ∧ A < W.heap.size ∧ (n = 0 ∧ At W A o (.mk k s q nu en) lo hi ∨ ∃ B m, a = some ⟨B, 0, none⟩ ∧ Lp W A o lo hi k s n c nu B m q en)
theorem Gn.shut {W : World} {A o lo hi : Nat} {k : Int} {s : BS} {a : Option Addr} {n c : Nat} {nu : Bool} {q : List Pg} {en : Bool} (h : Gn W A o lo hi k s a n c nu q en) : At W A o (.mk k s q nu en) lo hi := by
  rcases h.2.2.2.2 with ⟨_, h⟩ | ⟨B, m, _, h⟩
  · exact h
  · exact h.shut
theorem At.gn {W : World} {A o lo hi : Nat} {k : Int} {s : BS} {l : List Pg} {nu en : Bool} (h : At W A o (.mk k s l nu en) lo hi) : ∃ a n c, n < 140737488355328 ∧ Gn W A o lo hi k s a n c nu l en := by
  obtain ⟨h1, h2, a, n, c, h3, h4, h5, h6⟩ := h.opened
  exact ⟨a, n, c, h4, h3, h5, h1, h2, h6.imp (fun e => ⟨e, h⟩) id⟩
theorem Gn.put {W : World} {A o lo hi : Nat} {k : Int} {s : BS} {a : Option Addr} {n c : Nat} {nu : Bool} {q : List Pg} {en : Bool} (h : Gn W A o lo hi k s a n c nu q en) (e : Bool) : Gn (W.setCell ⟨A, o + 7, none⟩ (.bool e)) A o lo hi k s a n c nu q e ∧ Mv A o lo hi W (W.setCell ⟨A, o + 7, none⟩ (.bool e)) := by
  obtain ⟨h1, h2, h3, h4, h5⟩ := h
  rcases h5 with ⟨h0, h5⟩ | ⟨B, m, h0, h5⟩
  · exact ⟨⟨h1, h2.put e, h3.put _ _, by simpa using h4, .inl ⟨h0, (h5.put e).1⟩⟩, (h5.put e).2⟩
  · exact ⟨⟨h1, h2.put e, h3.put _ _, by simpa using h4, .inr ⟨B, m, h0, (h5.put e).1⟩⟩, (h5.put e).2⟩
theorem Gn.kid {W : World} {A o lo hi : Nat} {k : Int} {s : BS} {a : Option Addr} {n c : Nat} {nu : Bool} {q : List Pg} {en : Bool} (h : Gn W A o lo hi k s a n c nu q en) {i : Nat} {x : Pg} (hx : q[i]? = some x) :
    ∃ B m1 m2, a = some ⟨B, 0, none⟩ ∧ At W B (i * 8) x m1 m2 ∧ ∀ (W' : World) (x' : Pg), At W' B (i * 8) x' m1 m2 → Mv B (i * 8) m1 m2 W W' → Gn W' A o lo hi k s a n c nu (q.set i x') en ∧ Mv A o lo hi W W' := by
  obtain ⟨h1, h2, h3, h4, h5⟩ := h
  have hi := (List.getElem?_eq_some_iff.1 hx).1
  rcases h5 with ⟨h0, h5⟩ | ⟨B, m, h0, h5⟩
  · omega
  · obtain ⟨m1, m2, e1, e2, e3⟩ := h5.kid hx
    refine ⟨B, m1, m2, h0, e1, fun W' x' hA hM => ?_⟩
    obtain ⟨g1, g2⟩ := e3 W' x' hA hM
    subst h0
    exact ⟨⟨by simpa using h1, g1.own, g1.fA, g1.Alt, .inr ⟨B, m, rfl, g1⟩⟩, g2⟩

set_option maxRecDepth 100000 in
set_option maxHeartbeats 4000000 in
theorem readC_of {k : Int} {s : BS} {l : List Pg} {nu en : Bool} (IH : ∀ x ∈ l, RdC x) (W : World) (A o lo hi : Nat) (b : UInt8) (g : Bool) (h : At W A o (.mk k s l nu en) lo hi) :
    Calls Tryd.prog 68 #[.pointer (some ⟨A, o, none⟩), .int .u8 (b.toNat : Int), .bool g] W fun e w' => e = .returned (.tuple #[]) ∧ At w' A o (.mk k s (rdC b l g false).1 nu (rdC b l g false).2) lo hi ∧ Mv A o lo hi W w' := by
  obtain ⟨a, n, c, hnl, G⟩ := h.gn
  clear h
  have G1 := hid (G.put false)
  obtain ⟨c0, c1, c2, c3, c4, c5, c6, c7⟩ := G.2.1.cells
  have f7 := G.2.2.1 (o + 7)
  obtain ⟨d0, d1, d2, d3, d4, d5, d6, d7⟩ := G1.out.1.2.1.cells
  have hln := hid G.1
  have HI := hid IH
  clear G IH
  obtain ⟨W1, hW1⟩ : ∃ W1, W1 = W.setCell ⟨A, o + 7, none⟩ (.bool false) := ⟨_, rfl⟩
  rw [← hW1] at G1 d0 d1 d2 d3 d4 d5 d6 d7
  obtain ⟨R, hR⟩ : ∃ R, R = rdC b l g false := ⟨_, rfl⟩
  rw [← hR]
  have HR := hid hR
  clear hR
  go_enter Tryd.func68, Tryd.ntmps68
  go_wp2_with fail
  rw [← hW1]
  clear hW1
  go_loopg [2, 17] n (fun k1 s2 s17 wr => ∃ (i : Nat) (d : List Pg) (gi ei : Bool), s17 = .int .i64 (i : Int) ∧ s2 = .bool gi ∧ i + k1 = n ∧ d.length = i ∧ Gn wr A o lo hi k s a n c nu (d ++ l.drop i) ei ∧ Mv A o lo hi W wr ∧ R = (d ++ (rdC b (l.drop i) gi ei).1, (rdC b (l.drop i) gi ei).2))
  case atStart => exact ⟨0, [], g, false, rfl, rfl, by omega, rfl, by simpa using G1.out.1, G1.out.2, by rw [HR.out]; simp⟩
  case round =>
    obtain ⟨i, d, gi, ei, rfl, rfl, hk1, hd, hG, hM, hRi⟩ := hrel
    by_cases hlt : i < n
    · have hlt' : (i : Int) < (n : Int) := by omega
      have hi : i < l.length := by rw [hln.out]; exact hlt
      obtain ⟨x, hx⟩ : ∃ x, l[i]? = some x := ⟨_, List.getElem?_eq_getElem hi⟩
      have hdr := drop_at hx
      rw [hdr] at hG hRi
      obtain ⟨B, m1, m2, rfl, hAt, hback⟩ := hG.kid (at_done i hd)
      obtain ⟨p0, p1, p2, p3, p4, p5, p6, p7⟩ := hG.2.1.cells
      obtain ⟨k6, k7⟩ := hAt.cells
      obtain ⟨xe, hxe⟩ : ∃ xe, xe = x.en := ⟨_, rfl⟩
      obtain ⟨xn, hxn⟩ : ∃ xn, xn = x.nu := ⟨_, rfl⟩
      rw [← hxe] at k7
      rw [← hxn] at k6
      have CK := hid (HI.out x (List.mem_of_getElem? hx) wr B (i * 8) m1 m2 b gi hAt)
      obtain ⟨y, hy⟩ : ∃ y, y = rd b x gi := ⟨_, rfl⟩
      rw [← hy] at CK
      have hyn : y.nu = xn := by rw [hy, rd_nu, hxn]
      rw [rdC_cons, ← hy, ← hxe, ← hxn] at hRi
      have hback := fun W' hA hM => set_done (d := d) (r := l.drop (i + 1)) (x := x) (y := y) i hd ▸ hback W' y hA hM
      have HX := hid (And.intro hback (And.intro hM (And.intro hRi hyn)))
      clear hx hdr hG hback hM hRi hAt hxe hxn hy hyn
      cases xe <;> cases gi
      all_goals
        go_wp2_with fail
        refine CK.out.mono ?_
        rintro e w2 ⟨rfl, hAt2, hM2⟩
        obtain ⟨hG2, hM3⟩ := HX.out.1 w2 hAt2 hM2
        obtain ⟨p0, p1, p2, p3, p4, p5, p6, p7⟩ := hG2.2.1.cells
        obtain ⟨k6, k7⟩ := hAt2.cells
        have f7 := hG2.2.2.1 (o + 7)
        rw [HX.out.2.2.2] at k6
        obtain ⟨ye, hye⟩ : ∃ ye, ye = y.en := ⟨_, rfl⟩
        rw [← hye] at k7
        have HG := hid (And.intro hG2 (And.intro (HX.out.2.1.trans hM3) hye))
        clear hG2 hM3 hAt2 hM2 hye
        cases ye <;> cases ei
      all_goals
        go_wp2
        go_roundg (gk - 1)
        case measure => omega
        case rel =>
          obtain ⟨q1, q2⟩ := HG.out.1.put _
          refine ⟨i + 1, d ++ [y], _, _, by go_num, rfl, by omega, by simp [hd], q1, HG.out.2.1.trans q2, ?_⟩
          rw [HX.out.2.2.1, ← HG.out.2.2]
          simp
    · have hlt' : ¬ (i : Int) < (n : Int) := by omega
      have HX := hid (And.intro hG (And.intro hM hRi))
      clear hG hM hRi
      go_wp2
      go_end0
      refine ⟨rfl, ?_, HX.out.2.1⟩
      have h0 := HX.out.2.2
      have h1 := HX.out.1.shut
      rw [List.drop_eq_nil_of_le (by rw [hln.out]; omega), rdC_nil] at h0
      rw [List.drop_eq_nil_of_le (by rw [hln.out]; omega)] at h1
      rw [h0]; exact h1
end Go.Proofs.YtednoideboeehaaDoor
end
section
set_option linter.unusedSimpArgs false
set_option linter.unusedVariables false
namespace Go.Proofs.YtednoideboeehaaDoor
open Go.RowKit Bs Rg Go.Frame
attribute [local go_sem] eq_zero eq_set

theorem Lp.below {W W' : World} {A o lo hi : Nat} {k : Int} {s : BS} {n c : Nat} {nu : Bool} {B m : Nat} {q : List Pg} {en : Bool} (h : Lp W A o lo hi k s n c nu B m q en) (hb : Below W.heap.size W W') : Lp W' A o lo hi k s n c nu B m q en := by
  have l1 := h.kids.le
  have l2 := h.Bm
  have l3 := h.hi_le
  exact ⟨h.own.keep fun j => World.cell?_of_block (hb.block A h.Alt), h.fA.keep (hb.block A h.Alt), h.fB.keep (hb.block B (by omega)), h.len, h.lt, Nat.lt_of_lt_of_le h.Alt hb.size, h.Aout, h.lB, h.Bm, Nat.le_trans h.hi_le hb.size,
    h.kids.kept hb.size (fun j _ _ => World.cell?_of_block (hb.block B (by omega))) (fun y y1 y2 => hb.block y (by omega))⟩
theorem Gn.below {W W' : World} {A o lo hi : Nat} {k : Int} {s : BS} {a : Option Addr} {n c : Nat} {nu : Bool} {q : List Pg} {en : Bool} (h : Gn W A o lo hi k s a n c nu q en) (hb : Below W.heap.size W W') : Gn W' A o lo hi k s a n c nu q en := by
  obtain ⟨h1, h2, h3, h4, h5⟩ := h
  refine ⟨h1, h2.keep fun j => World.cell?_of_block (hb.block A h4), h3.keep (hb.block A h4), Nat.lt_of_lt_of_le h4 hb.size, ?_⟩
  rcases h5 with ⟨h0, h5⟩ | ⟨B, m, h0, h5⟩
  · exact .inl ⟨h0, h5.below hb⟩
  · exact .inr ⟨B, m, h0, h5.below hb⟩

set_option maxRecDepth 100000 in
set_option maxHeartbeats 4000000 in
theorem readU_of {s : BS} {l : List Pg} {nu en : Bool} (IH : ∀ x ∈ l, RdC x) (W : World) (A o lo hi : Nat) (b : UInt8) (g : Bool) (h : At W A o (.mk 5 s l nu en) lo hi) :
    Calls Tryd.prog 46 #[.pointer (some ⟨A, o, none⟩), .int .u8 (b.toNat : Int), .bool g] W fun e w' => e = .returned (.tuple #[]) ∧ At w' A o (.mk 5 s (rdU b l g).1 nu (rdU b l g).2) lo hi ∧ Mv A o lo hi W w' := by
  obtain ⟨a, n, c, hnl, G⟩ := h.gn
  clear h
  have G1 := hid (G.put false)
  obtain ⟨c0, c1, c2, c3, c4, c5, c6, c7⟩ := G.2.1.cells
  have f7 := G.2.2.1 (o + 7)
  obtain ⟨d0, d1, d2, d3, d4, d5, d6, d7⟩ := G1.out.1.2.1.cells
  have hln := hid G.1
  have HI := hid IH
  clear G IH
  obtain ⟨W1, hW1⟩ : ∃ W1, W1 = W.setCell ⟨A, o + 7, none⟩ (.bool false) := ⟨_, rfl⟩
  rw [← hW1] at G1 d0 d1 d2 d3 d4 d5 d6 d7
  obtain ⟨R, hR⟩ : ∃ R, R = rdU b l g := ⟨_, rfl⟩
  rw [← hR]
  have HR := hid hR
  clear hR
  go_enter Tryd.func46, Tryd.ntmps46
  go_wp2_with fail
  rw [← hW1]
  clear hW1
  go_loopg [41] n (fun k1 s17 wr => ∃ (i : Nat) (d : List Pg) (ei : Bool), s17 = .int .i64 (i : Int) ∧ i + k1 = n ∧ d.length = i ∧ Gn wr A o lo hi 5 s a n c nu (d ++ l.drop i) ei ∧ Mv A o lo hi W wr ∧ R = (d ++ (rdU b (l.drop i) g).1, ei || (rdU b (l.drop i) g).2))
  case atStart => exact ⟨0, [], false, rfl, by omega, rfl, by simpa using G1.out.1, G1.out.2, by rw [HR.out]; simp⟩
  case round =>
    obtain ⟨i, d, ei, rfl, hk1, hd, hG, hM, hRi⟩ := hrel
    by_cases hlt : i < n
    · have hlt' : (i : Int) < (n : Int) := by omega
      have hi : i < l.length := by rw [hln.out]; exact hlt
      obtain ⟨x, hx⟩ : ∃ x, l[i]? = some x := ⟨_, List.getElem?_eq_getElem hi⟩
      have hdr := drop_at hx
      rw [hdr] at hG hRi
      obtain ⟨B, m1, m2, rfl, hAt, hback⟩ := hG.kid (at_done i hd)
      obtain ⟨p0, p1, p2, p3, p4, p5, p6, p7⟩ := hG.2.1.cells
      have CK := hid (HI.out x (List.mem_of_getElem? hx) wr B (i * 8) m1 m2 b g hAt)
      obtain ⟨y, hy⟩ : ∃ y, y = rd b x g := ⟨_, rfl⟩
      rw [← hy] at CK
      rw [rdU_cons, ← hy] at hRi
      have hback := fun W' hA hM => set_done (d := d) (r := l.drop (i + 1)) (x := x) (y := y) i hd ▸ hback W' y hA hM
      have HX := hid (And.intro hback (And.intro hM hRi))
      clear hx hdr hG hback hM hRi hAt hy
      go_wp2_with fail
      refine CK.out.mono ?_
      rintro e w2 ⟨rfl, hAt2, hM2⟩
      obtain ⟨hG2, hM3⟩ := HX.out.1 w2 hAt2 hM2
      obtain ⟨p0, p1, p2, p3, p4, p5, p6, p7⟩ := hG2.2.1.cells
      obtain ⟨k6, k7⟩ := hAt2.cells
      have f7 := hG2.2.2.1 (o + 7)
      obtain ⟨ye, hye⟩ : ∃ ye, ye = y.en := ⟨_, rfl⟩
      rw [← hye] at k7
      have HG := hid (And.intro hG2 (And.intro (HX.out.2.1.trans hM3) hye))
      clear hG2 hM3 hAt2 hM2 hye
      cases ei
      all_goals
        go_wp2
        go_roundg (gk - 1)
        case measure => omega
        case rel =>
          obtain ⟨q1, q2⟩ := HG.out.1.put _
          refine ⟨i + 1, d ++ [y], _, by go_num, by omega, by simp [hd], q1, HG.out.2.1.trans q2, ?_⟩
          rw [HX.out.2.2, ← HG.out.2.2]
          simp
    · have hlt' : ¬ (i : Int) < (n : Int) := by omega
      have HX := hid (And.intro hG (And.intro hM hRi))
      clear hG hM hRi
      go_wp2
      go_end0
      refine ⟨rfl, ?_, HX.out.2.1⟩
      have h0 := HX.out.2.2
      have h1 := HX.out.1.shut
      rw [List.drop_eq_nil_of_le (by rw [hln.out]; omega), rdU_nil] at h0
      rw [List.drop_eq_nil_of_le (by rw [hln.out]; omega)] at h1
      rw [h0]
      simpa using h1

set_option maxRecDepth 100000 in
set_option maxHeartbeats 4000000 in
theorem readS_of {s : BS} {l : List Pg} {nu en : Bool} (W : World) (A o lo hi : Nat) (b : UInt8) (g : Bool) (h : At W A o (.mk 3 s l nu en) lo hi) :
    Calls Tryd.prog 46 #[.pointer (some ⟨A, o, none⟩), .int .u8 (b.toNat : Int), .bool g] W fun e w' => e = .returned (.tuple #[]) ∧ At w' A o (.mk 3 s l nu (g && s b)) lo hi ∧ Mv A o lo hi W w' := by
  obtain ⟨fA, hA, a, n, c, _, _, own, _⟩ := h.opened
  obtain ⟨c0, c1, c2, c3, c4, c5, c6, c7⟩ := own.cells
  have f7 := fA (o + 7)
  have HH := hid (And.intro h hA)
  clear own fA h hA
  have CH := hid (HasB_any s b W)
  cases g
  · go_enter Tryd.func46, Tryd.ntmps46
    go_wp2_with fail
    go_end0
    exact ⟨rfl, (HH.out.1.put false).1, (HH.out.1.put false).2⟩
  · go_enter Tryd.func46, Tryd.ntmps46
    go_wp2_with fail
    refine CH.out.mono ?_
    rintro e w2 ⟨rfl, hB⟩
    have h2 := HH.out.1.below hB
    obtain ⟨fA, hA, a', n', c', _, _, own, _⟩ := h2.opened
    obtain ⟨c0, c1, c2, c3, c4, c5, c6, c7⟩ := own.cells
    have f7 := fA (o + 7)
    have H2 := hid (And.intro h2 (show Mv A o lo hi W w2 from Mv.below HH.out.2 hB))
    clear own fA h2 hA hB
    go_wp2_with fail
    go_end0
    exact ⟨rfl, by simpa using (H2.out.1.put (s b)).1, H2.out.2.trans (H2.out.1.put (s b)).2⟩

set_option maxRecDepth 100000 in
set_option maxHeartbeats 4000000 in
theorem readK_of {s : BS} {x : Pg} {nu en : Bool} (IH : RdC x) (W : World) (A o lo hi : Nat) (b : UInt8) (g : Bool) (h : At W A o (.mk 6 s [x] nu en) lo hi) :
    Calls Tryd.prog 46 #[.pointer (some ⟨A, o, none⟩), .int .u8 (b.toNat : Int), .bool g] W fun e w' => e = .returned (.tuple #[]) ∧ At w' A o (.mk 6 s [rd b x (g || en)] nu (rd b x (g || en)).en) lo hi ∧ Mv A o lo hi W w' := by
  obtain ⟨a, n, c, hnl, G⟩ := h.gn
  clear h
  obtain rfl : n = 1 := G.1.symm
  obtain ⟨B, m1, m2, rfl, hAt, hback⟩ := G.kid (i := 0) (x := x) rfl
  obtain ⟨c0, c1, c2, c3, c4, c5, c6, c7⟩ := G.2.1.cells
  have HX := hid G
  have HI := hid IH
  have hA := G.2.2.2.1
  clear G hback hAt IH
  cases g <;> cases en
  all_goals
    go_enter Tryd.func46, Tryd.ntmps46
    go_wp2_with fail
    refine (wpIn_wide (n := 0)).1 (wpIn_region_below_tail 13 free_wide (by kernel_rfl) (by kernel_rfl) (by kernel_rfl) ?_)
    intro X f _ hf hs
    have k5 := fun x => (World.cell?_of_block (a := ⟨A, o + 5, none⟩) ((hf.out x).block A hA)).trans c5
    have k7 := fun x => (World.cell?_of_block (a := ⟨A, o + 7, none⟩) ((hf.out x).block A hA)).trans c7
    simp only [List.take_succ_cons, List.take_zero, List.drop_succ_cons, List.drop_zero]
    repeat (go_big_quiet_step (first | fail))
    refine wpQuiet_nil ?_
    intro Y hY
    have GY := HX.out.below hY
    have MY : Mv A o lo hi W Y := Mv.below hA hY
    clear hY k5 k7 hf hs
    obtain ⟨B', m1, m2, hBB, hAt, hback⟩ := GY.kid (i := 0) (x := x) rfl
    simp only [Option.some.injEq, Addr.mk.injEq, and_true] at hBB
    subst hBB
    rw [Nat.zero_mul] at hAt hback
    have CK := fun g => HI.out Y B 0 m1 m2 b g hAt
    have HY := hid (And.intro hback MY)
    clear hback MY GY hAt
    gi_wp2
    refine ⟨trivial, rfl, callsIn_wide.2 ((CK _).mono ?_)⟩
    rintro e w2 ⟨rfl, hAt2, hM2⟩
    obtain ⟨hG2, hM3⟩ := HY.out.1 w2 _ hAt2 hM2
    obtain ⟨p0, p1, p2, p3, p4, p5, p6, p7⟩ := hG2.2.1.cells
    obtain ⟨k6, k7⟩ := hAt2.cells
    simp only [Nat.zero_add] at k6 k7
    have f7 := hG2.2.2.1 (o + 7)
    have HG := hid (And.intro hG2 (HY.out.2.trans hM3))
    clear hG2 hM3 hAt2 hM2 CK
    gi_wp2
    go_wp2
    go_end0
    exact ⟨rfl, (HG.out.1.put _).1.shut, HG.out.2.trans (HG.out.1.put _).2⟩

set_option maxRecDepth 100000 in
set_option maxHeartbeats 4000000 in
theorem readO_of {k : Int} {s : BS} {l : List Pg} {nu en : Bool} (h3 : ¬ k = 3) (h4 : ¬ k = 4) (h5 : ¬ k = 5) (h6 : ¬ k = 6) (W : World) (A o lo hi : Nat) (b : UInt8) (g : Bool) (h : At W A o (.mk k s l nu en) lo hi) :
    Calls Tryd.prog 46 #[.pointer (some ⟨A, o, none⟩), .int .u8 (b.toNat : Int), .bool g] W fun e w' => e = .returned (.tuple #[]) ∧ At w' A o (.mk k s l nu en) lo hi ∧ Mv A o lo hi W w' := by
  obtain ⟨fA, hA, a, n, c, _, _, own, _⟩ := h.opened
  obtain ⟨c0, c1, c2, c3, c4, c5, c6, c7⟩ := own.cells
  have HH := hid h
  clear own fA h hA
  go_enter Tryd.func46, Tryd.ntmps46
  go_wp2_with fail
  go_end0
  exact ⟨rfl, HH.out, Mv.refl _ _ _ _ _⟩

set_option maxRecDepth 100000 in
set_option maxHeartbeats 4000000 in
theorem readT_of {s : BS} {l : List Pg} {nu en : Bool} (IH : ∀ x ∈ l, RdC x) (W : World) (A o lo hi : Nat) (b : UInt8) (g : Bool) (h : At W A o (.mk 4 s l nu en) lo hi) :
    Calls Tryd.prog 46 #[.pointer (some ⟨A, o, none⟩), .int .u8 (b.toNat : Int), .bool g] W fun e w' => e = .returned (.tuple #[]) ∧ At w' A o (.mk 4 s (rdC b l g false).1 nu (rdC b l g false).2) lo hi ∧ Mv A o lo hi W w' := by
  obtain ⟨fA, hA, a, n, c, _, _, own, _⟩ := h.opened
  obtain ⟨c0, c1, c2, c3, c4, c5, c6, c7⟩ := own.cells
  have CC := hid (readC_of IH W A o lo hi b g h)
  clear own fA h hA
  go_enter Tryd.func46, Tryd.ntmps46
  go_wp2_with fail
  refine CC.out.mono ?_
  rintro e w2 ⟨rfl, h2⟩
  have H2 := hid h2
  clear h2
  go_wp2_with fail
  go_end0
  exact ⟨rfl, H2.out⟩
theorem read_any (x : Pg) : Sp x → RdC x := by
  induction x using Pg.ind with
  | h k s l nu en ih =>
    intro hs W A o lo hi b g h
    have IH : ∀ x ∈ l, RdC x := fun x hx => ih x hx (hs.kid x hx)
    rw [rd_mk]
    by_cases h3 : k = 3
    · subst h3; rw [if_pos rfl]; exact readS_of W A o lo hi b g h
    rw [if_neg h3]
    by_cases h4 : k = 4
    · subst h4; rw [if_pos rfl]; exact readT_of IH W A o lo hi b g h
    rw [if_neg h4]
    by_cases h5 : k = 5
    · subst h5; rw [if_pos rfl]; exact readU_of IH W A o lo hi b g h
    rw [if_neg h5]
    by_cases h6 : k = 6
    · subst h6; rw [if_pos rfl]
      have h1 := hs.one rfl
      match l, h1 with
      | [x], _ =>
        have := readK_of (IH x (by simp)) W A o lo hi b g h
        rw [rdU_cons, rdU_nil]
        simpa using this
    rw [if_neg h6]
    exact readO_of h3 h4 h5 h6 W A o lo hi b g h
end Go.Proofs.YtednoideboeehaaDoor
end
