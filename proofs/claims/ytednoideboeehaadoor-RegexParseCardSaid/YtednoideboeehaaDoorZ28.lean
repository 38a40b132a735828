/-
  The reference's parser: contract: repeat.
-/
import Derived.Test.YtednoideboeehaaDoorZ27
import Derived.Deep.LoopGhost
import Derived.LoopIn
import Derived.TacticsInMore
section
set_option linter.unusedSimpArgs false
set_option linter.unusedVariables false
namespace Go.Proofs.YtednoideboeehaaDoor
open Go.RowKit Bs Rg Go.Frame
attribute [local go_sem] eq_zero eq_set

/-- The blocks of the call's own, but for one. -/
def gB (n B : Nat) (b : Nat) : Prop := n + 1 ≤ b ∧ b ≠ B
/-- repeat's loop: the result's box, the box of what has been read, its kids, the parser. -/
structure RP (pb : Nat) (s : ByteArray) (w : World) (B : Nat) (W : World) (k : Int) (S : BS) (l : List Rx) (a : Option Addr) (n c : Nat) (t : List UInt8) (bad : Bool) : Prop where
  res : W.heap[w.heap.size]? = some (.cells #[.int .i64 0, .int .u64 0, .int .u64 0, .int .u64 0, .int .u64 0, .slice none 0 0] 27 (0, 0))
  box : W.heap[B]? = some (.cells #[.int .i64 k, .int .u64 (ws S 0 : Int), .int .u64 (ws S 1 : Int), .int .u64 (ws S 2 : Int), .int .u64 (ws S 3 : Int), .slice a n c] 27 (0, 0))
  kd : Kd (gB w.heap.size B) W a n l
  pk : Pk pb w W
  rs : RS pb s W t bad
  h1 : w.heap.size < B
  h2 : pb < w.heap.size
theorem RP.hB {pb B n c : Nat} {s : ByteArray} {w W : World} {k : Int} {S : BS} {l : List Rx} {a : Option Addr} {t : List UInt8} {bad : Bool} (h : RP pb s w B W k S l a n c t bad) : B < W.heap.size := heap_lt h.box
theorem RP.bel {pb B n c : Nat} {s : ByteArray} {w W W' : World} {k : Int} {S : BS} {l : List Rx} {a : Option Addr} {t : List UInt8} {bad : Bool} (h : RP pb s w B W k S l a n c t bad) (hb : Below W.heap.size W W') : RP pb s w B W' k S l a n c t bad :=
  ⟨(hb.block _ (heap_lt h.res)).trans h.res, (hb.block _ h.hB).trans h.box, h.kd.below hb, h.pk.trans (Pk.of hb), h.rs.below hb, h.h1, h.h2⟩
theorem kd_six {g : Nat → Prop} {B n : Nat} {W : World} {l : List Rx} {a : Option Addr} (h : Kd g W a n l) (hg : ∀ b, g b → b ≠ B) {x0 x1 x2 x3 x4 x5 : Value} : Kd g ((((((W.setCell ⟨B, 0, none⟩ x0).setCell ⟨B, 1, none⟩ x1).setCell ⟨B, 2, none⟩ x2).setCell ⟨B, 3, none⟩ x3).setCell ⟨B, 4, none⟩ x4).setCell ⟨B, 5, none⟩ x5) a n l :=
  Kd.put (Kd.put (Kd.put (Kd.put (Kd.put (Kd.put h hg) hg) hg) hg) hg) hg
/-- Another expression in the box. -/
theorem RP.six {pb B n c n2 c2 : Nat} {s : ByteArray} {w W : World} {k k2 : Int} {S S2 : BS} {l l2 : List Rx} {a a2 : Option Addr} {t : List UInt8} {bad : Bool} (h : RP pb s w B W k S l a n c t bad) (hk : Kd (gB w.heap.size B) W a2 n2 l2) :
    RP pb s w B ((((((W.setCell ⟨B, 0, none⟩ (.int .i64 k2)).setCell ⟨B, 1, none⟩ (.int .u64 (ws S2 0 : Int))).setCell ⟨B, 2, none⟩ (.int .u64 (ws S2 1 : Int))).setCell ⟨B, 3, none⟩ (.int .u64 (ws S2 2 : Int))).setCell ⟨B, 4, none⟩ (.int .u64 (ws S2 3 : Int))).setCell ⟨B, 5, none⟩ (.slice a2 n2 c2)) k2 S2 l2 a2 n2 c2 t bad := by
  have hn : w.heap.size ≠ B := by have := h.h1; omega
  have hp : pb ≠ B := by have := h.h1; have := h.h2; omega
  refine ⟨blk_set (blk_set (blk_set (blk_set (blk_set (blk_set h.res hn) hn) hn) hn) hn) hn, six_set h.box, kd_six hk fun b hb => hb.2, ?_, h.rs.six hp, h.h1, h.h2⟩
  have hle : w.heap.size ≤ B := Nat.le_of_lt h.h1
  exact (((((h.pk.putNew hle).putNew hle).putNew hle).putNew hle).putNew hle).putNew hle
theorem RP.sixz {pb B n c n2 c2 : Nat} {s : ByteArray} {w W : World} {k k2 : Int} {S : BS} {l l2 : List Rx} {a a2 : Option Addr} {t : List UInt8} {bad : Bool} (h : RP pb s w B W k S l a n c t bad) (hk : Kd (gB w.heap.size B) W a2 n2 l2) :
    RP pb s w B ((((((W.setCell ⟨B, 0, none⟩ (.int .i64 k2)).setCell ⟨B, 1, none⟩ (.int .u64 0)).setCell ⟨B, 2, none⟩ (.int .u64 0)).setCell ⟨B, 3, none⟩ (.int .u64 0)).setCell ⟨B, 4, none⟩ (.int .u64 0)).setCell ⟨B, 5, none⟩ (.slice a2 n2 c2)) k2 none8 l2 a2 n2 c2 t bad := by
  have h1 := h.six (k2 := k2) (S2 := none8) (c2 := c2) hk
  rw [ws_none, ws_none, ws_none, ws_none] at h1
  exact h1
/-- One byte further. -/
theorem RP.step {pb B n c : Nat} {s : ByteArray} {w W : World} {k : Int} {S : BS} {l : List Rx} {a : Option Addr} {b : UInt8} {t : List UInt8} {bad : Bool} (h : RP pb s w B W k S l a n c (b :: t) bad) : RP pb s w B (W.setCell ⟨pb, 1, none⟩ (.int .i64 ((s.size - t.length : Nat) : Int))) k S l a n c t bad := by
  have hn : w.heap.size ≠ pb := by have := h.h2; omega
  have hp : B ≠ pb := by have := h.h1; have := h.h2; omega
  exact ⟨blk_set h.res hn, blk_set h.box hp, h.kd.put (fun b hb => by have := hb.1; have := h.h2; omega), h.pk.put, h.rs.step, h.h1, h.h2⟩
/-- A row of two expressions, just made. -/
theorem two_row {g : Nat → Prop} {W : World} {x y : Rx} {c d : List Value} (hx : RC g W x c) (hy : RC g W y d) (hn : g W.heap.size) : Kd g (W.alloc (.cells (c ++ d).toArray 27)) (some ⟨W.heap.size, 0, none⟩) 2 [x, y] := by
  have h1 : (W.alloc (.cells (c ++ d).toArray 27)).heap[W.heap.size]? = some (.cells (c ++ d).toArray 27 (0, 0)) := alloc_new _ _
  refine ⟨rfl, by decide, .inr ⟨W.heap.size, 0, rfl, hn, by simp, ?_⟩⟩
  rw [RK, RK, RK]
  refine ⟨⟨c, fun j v hj => ?_, hx.below (bel1 _ _)⟩, ⟨d, fun j v hj => ?_, hy.below (bel1 _ _)⟩, trivial⟩
  · simp only [World.cell?, h1]
    have := (List.getElem?_eq_some_iff.1 hj).1
    simp [List.getElem?_append_left this, hj]
  · simp only [World.cell?, h1]
    have h6 := hx.six
    simp [List.getElem?_append_right (show c.length ≤ 6 + j by omega), h6, hj]
/-- What repeat answers. -/
def rM : Pr Rx → Pr Rx
  | .bad t => .bad t
  | .ok x t => .ok (post x t).1 (post x t).2
/-- How far repeat's loop has come. -/
def At6 (R : Pr Rx) (bad : Bool) (x : Rx) (t : List UInt8) : Prop := if bad = true then R = .bad t else R = .ok (post x t).1 (post x t).2
theorem at6_bad {R : Pr Rx} {x : Rx} {t : List UInt8} : At6 R true x t ↔ R = .bad t := by unfold At6; simp
theorem at6_ok {R : Pr Rx} {x : Rx} {t : List UInt8} : At6 R false x t ↔ R = .ok (post x t).1 (post x t).2 := by unfold At6; simp
theorem RC.kdlt {g : Nat → Prop} {W : World} {a : Option Addr} {n : Nat} {l : List Rx} (h : Kd g W a n l) : Kd (fun b => g b ∧ b < W.heap.size) W a n l := by
  have h1 : RC g W (.mk 0 none8 l) (rcs 0 none8 (.slice a n 0)) := RC_mk.2 ⟨a, n, 0, rfl, h⟩
  obtain ⟨a', n', c', e, h2⟩ := RC_mk.1 h1.lt
  simp [rcs] at e
  obtain ⟨rfl, rfl, rfl⟩ := e
  exact h2
theorem rc_out2 {pb B n c : Nat} {s : ByteArray} {w W : World} {k : Int} {S : BS} {l : List Rx} {a : Option Addr} {t : List UInt8} {bad : Bool} (h : RP pb s w B W k S l a n c t bad) {x0 x1 x2 x3 x4 x5 : Value} : RC (ge w.heap.size) ((((((W.setCell ⟨w.heap.size, 0, none⟩ x0).setCell ⟨w.heap.size, 1, none⟩ x1).setCell ⟨w.heap.size, 2, none⟩ x2).setCell ⟨w.heap.size, 3, none⟩ x3).setCell ⟨w.heap.size, 4, none⟩ x4).setCell ⟨w.heap.size, 5, none⟩ x5) (.mk k S l) (rcs k S (.slice a n c)) :=
  RC_mk.2 ⟨a, n, c, rfl, (kd_six h.kd fun b hb => by have := hb.1; omega).more fun b hb => by have h1 := hb.1; show w.heap.size ≤ b; omega⟩
set_option maxRecDepth 100000 in
set_option maxHeartbeats 4000000 in
theorem rrepeat_any (pb : Nat) (s : ByteArray) (R : Pr Rx) (l : List UInt8) (CA : ∀ V, RS pb s V l false → Calls Tryd.prog 95 #[.pointer (some ⟨pb, 0, none⟩)] V (AO pb s R V)) (w : World) (h : RS pb s w l false) :
    Calls Tryd.prog 76 #[.pointer (some ⟨pb, 0, none⟩)] w (AO pb s (rM R) w) := by
  have hpb := hid (heap_lt h.box)
  obtain ⟨W0, hW0⟩ : ∃ W0, W0 = w.alloc (.cells #[.int .i64 0, .int .u64 0, .int .u64 0, .int .u64 0, .int .u64 0, .slice none 0 0] 27) := ⟨_, rfl⟩
  have H0 := hid (show W0.heap[w.heap.size]? = some (.cells #[.int .i64 0, .int .u64 0, .int .u64 0, .int .u64 0, .int .u64 0, .slice none 0 0] 27 (0, 0)) ∧ Pk pb w W0 ∧ RS pb s W0 l false ∧ W0.heap.size = w.heap.size + 1 from by
    have hb : Below w.heap.size w W0 := by rw [hW0]; exact bel1 _ _
    exact ⟨by rw [hW0]; exact alloc_new _ _, Pk.of hb, h.below hb, by rw [hW0]; simp⟩)
  obtain ⟨RR, hRR⟩ : ∃ RR, RR = rM R := ⟨_, rfl⟩
  rw [← hRR]
  have HRR := hid hRR
  clear h hRR
  go_enter Tryd.func76, Tryd.ntmps76
  go_wp2_with fail
  rw [← hW0]
  clear hW0
  refine (CA W0 H0.out.2.2.1).mono ?_
  rintro e W1 ⟨hpk, x', cs, rfl, hrc, hm⟩
  obtain ⟨k1, S1, l1⟩ := x'
  obtain ⟨a1, n1, c1, rfl, hKd⟩ := RC_mk.1 hrc
  rw [rcs_arr2]
  obtain ⟨B, hB⟩ : ∃ B, B = W1.heap.size := ⟨_, rfl⟩
  obtain ⟨W2, hW2⟩ : ∃ V, V = W1.alloc (.cells #[.int .i64 k1, .int .u64 (ws S1 0 : Int), .int .u64 (ws S1 1 : Int), .int .u64 (ws S1 2 : Int), .int .u64 (ws S1 3 : Int), .slice a1 n1 c1] 27) := ⟨_, rfl⟩
  have hbl : Below W1.heap.size W1 W2 := by rw [hW2]; exact bel1 _ _
  have hw1 : w.heap.size < W1.heap.size := by have := hpk.size; have := H0.out.2.2.2; omega
  obtain ⟨bad, t1, hR1, hat⟩ : ∃ bad t1, RS pb s W1 t1 bad ∧ At6 RR bad (.mk k1 S1 l1) t1 := by
    rw [HRR.out]
    cases R with
    | bad t => exact ⟨true, t, hm, at6_bad.2 rfl⟩
    | ok x t => exact ⟨false, t, hm.2, at6_ok.2 (by rw [hm.1]; rfl)⟩
  have H2 := hid (show RP pb s w B W2 k1 S1 l1 a1 n1 c1 t1 bad from
    ⟨((hpk.trans (Pk.of hbl)).block (by have := hpb.out; omega) (heap_lt H0.out.1)).trans H0.out.1, by rw [hB, hW2]; exact alloc_new _ _,
      ((RC.kdlt hKd).keep hbl.size (fun b _ hl => hbl.block b hl) (fun b hb => (show gB w.heap.size B b from ⟨by have h1 : W0.heap.size ≤ b := hb.1; have := H0.out.2.2.2; omega, by have := hb.2; omega⟩))), (H0.out.2.1.trans hpk).trans (Pk.of hbl), hR1.below hbl, by omega, hpb.out⟩)
  have HA := hid hat
  clear hpk hrc hKd hm hbl hw1 hR1 hat
  go_wp2_with fail
  rw [← hB, ← hW2]
  clear hB hW2
  go_loopg [12] t1.length (fun kk s12 wr => ∃ (bad : Bool) (k' : Int) (S' : BS) (l' : List Rx) (aq : Option Addr) (nq cq : Nat) (t : List UInt8), RP pb s w B wr k' S' l' aq nq cq t bad ∧ At6 RR bad (.mk k' S' l') t ∧ t.length ≤ kk)
  case atStart => exact ⟨bad, k1, S1, l1, a1, n1, c1, t1, H2.out, HA.out, Nat.le_refl _⟩
  case round =>
    obtain ⟨bad, k', S', l', aq, nq, cq, t, hrp, hat, hk⟩ := hrel
    have HX := hid hrp
    obtain ⟨p0, p1, p2, p3, p4, p5⟩ := cells6 HX.out.box
    obtain ⟨z0, z1, z2⟩ := HX.out.rs.cells
    cases bad with
    | true =>
      have HR := hid (at6_bad.1 hat)
      clear hrp hat hk
      have hres := HX.out.res
      obtain ⟨d0, d1, d2, d3, d4, d5⟩ := cells6 hres
      have f0 := Go.Frame.free hres 0
      have f1 := Go.Frame.free hres 1
      have f2 := Go.Frame.free hres 2
      have f3 := Go.Frame.free hres 3
      have f4 := Go.Frame.free hres 4
      have f5 := Go.Frame.free hres 5
      clear hres
      go_wp2
      have zz := six_set (y0 := .int .i64 k') (y1 := .int .u64 (ws S' 0 : Int)) (y2 := .int .u64 (ws S' 1 : Int)) (y3 := .int .u64 (ws S' 2 : Int)) (y4 := .int .u64 (ws S' 3 : Int)) (y5 := (.slice aq nq cq)) HX.out.res
      obtain ⟨r0, r1, r2, r3, r4, r5⟩ := cells6 zz
      refine bodyPost_ret (v := .agg #[.int .i64 k', .int .u64 (ws S' 0 : Int), .int .u64 (ws S' 1 : Int), .int .u64 (ws S' 2 : Int), .int .u64 (ws S' 3 : Int), (.slice aq nq cq)]) ?_ rfl ?_
      · simp [results, Tryd.results76, go_sem, r0, r1, r2, r3, r4, r5]
      · have k1 := pk_six (x0 := .int .i64 k') (x1 := .int .u64 (ws S' 0 : Int)) (x2 := .int .u64 (ws S' 1 : Int)) (x3 := .int .u64 (ws S' 2 : Int)) (x4 := .int .u64 (ws S' 3 : Int)) (x5 := (.slice aq nq cq)) HX.out.pk
        have k2 := HX.out.rs.six (B := w.heap.size) (x0 := .int .i64 k') (x1 := .int .u64 (ws S' 0 : Int)) (x2 := .int .u64 (ws S' 1 : Int)) (x3 := .int .u64 (ws S' 2 : Int)) (x4 := .int .u64 (ws S' 3 : Int)) (x5 := (.slice aq nq cq)) (by have := HX.out.h2; omega)
        exact ⟨k1, _, _, rfl, rc_out2 HX.out, by rw [HR.out]; exact k2⟩
    | false =>
      have HR0 := hid (at6_ok.1 hat)
      have HK0 := hid hk
      have CN := hid (next_any pb s wr t false HX.out.rs)
      clear hrp hat hk
      by_cases h42 : ∃ u, t = 42 :: u
      · obtain ⟨u, rfl⟩ := h42
        have HR := hid (show RR = .ok (post (star (.mk k' S' l')) u).1 (post (star (.mk k' S' l')) u).2 from by rw [HR0.out]; rw [post]; simp)
        have HK := hid (show u.length + 1 ≤ gk from by have := HK0.out; simpa using this)
        go_wp2_with fail
        refine CN.out.mono ?_
        rintro e W4 ⟨rfl, b4⟩
        have H4 := hid (HX.out.bel b4)
        clear b4 p0 p1 p2 p3 p4 p5 z0 z1 z2
        obtain ⟨p0, p1, p2, p3, p4, p5⟩ := cells6 H4.out.box
        have CS := hid (show Calls Tryd.prog 96 #[.agg #[.int .i64 k', .int .u64 (ws S' 0 : Int), .int .u64 (ws S' 1 : Int), .int .u64 (ws S' 2 : Int), .int .u64 (ws S' 3 : Int), (.slice aq nq cq)]] W4 _ from rstar_any (gB w.heap.size B) (.mk k' S' l') W4 (rcs k' S' (.slice aq nq cq)) (RC_mk.2 ⟨_, _, _, rfl, H4.out.kd⟩))
        go_wp2_with fail
        refine CS.out.mono ?_
        rintro e W5 ⟨⟨cs', rfl, hrc⟩, b5⟩
        obtain ⟨a2, n2, c2, rfl, hKd⟩ := RC_mk.1 hrc
        rw [rcs_arr2]
        have H5 := hid (H4.out.bel b5)
        have HKd := hid (show Kd (gB w.heap.size B) W5 a2 n2 [.mk k' S' l'] from hKd.more fun b hb => hb.elim id fun hb => ⟨by have := H4.out.hB; have := H4.out.h1; omega, by have := H4.out.hB; omega⟩)
        clear b5 hrc hKd p0 p1 p2 p3 p4 p5
        obtain ⟨p0, p1, p2, p3, p4, p5⟩ := cells6 H5.out.box
        have f0 := Go.Frame.free H5.out.box 0
        have f1 := Go.Frame.free H5.out.box 1
        have f2 := Go.Frame.free H5.out.box 2
        have f3 := Go.Frame.free H5.out.box 3
        have f4 := Go.Frame.free H5.out.box 4
        have f5 := Go.Frame.free H5.out.box 5
        go_upto_region 11 with fail
        have HY0 := H5.out.six (k2 := 6) (S2 := none8) (c2 := c2) HKd.out
        obtain ⟨X, hX⟩ : ∃ X, X = ((((((W5.setCell ⟨B, 0, none⟩ (.int .i64 6)).setCell ⟨B, 1, none⟩ (.int .u64 (ws none8 0 : Int))).setCell ⟨B, 2, none⟩ (.int .u64 (ws none8 1 : Int))).setCell ⟨B, 3, none⟩ (.int .u64 (ws none8 2 : Int))).setCell ⟨B, 4, none⟩ (.int .u64 (ws none8 3 : Int))).setCell ⟨B, 5, none⟩ (.slice a2 n2 c2)) := ⟨_, rfl⟩
        rw [← hX] at HY0 ⊢
        have HY := hid HY0
        clear hX HY0 p0 p1 p2 p3 p4 p5 f0 f1 f2 f3 f4 f5
        have hnx := HY.out.rs.next
        obtain ⟨z0, z1, z2⟩ := HY.out.rs.cells
        have f1 := Go.Frame.free HY.out.rs.box 1
        obtain ⟨p9, hp⟩ : ∃ p, p = s.size - ((42 : UInt8) :: u).length := ⟨_, rfl⟩
        obtain ⟨p8, hp'⟩ : ∃ p', p' = s.size - u.length := ⟨_, rfl⟩
        rw [← hp] at z1 hnx
        rw [← hp'] at hnx
        have HP2 := hid hp'
        have hpb'' : (p9 : Int) ≤ 1000000 := by have := HY.out.rs.sz; omega
        clear hp hp'
        go_wp2
        have HV := hid (show RP pb s w B (X.setCell ⟨pb, 1, none⟩ (.int .i64 (p8 : Int))) 6 none8 [.mk k' S' l'] a2 n2 c2 u false from by rw [HP2.out]; exact HY.out.step)
        go_roundg (gk - 1)
        case measure => have := HK.out; omega
        case rel => exact ⟨false, 6, none8, [.mk k' S' l'], a2, n2, c2, u, HV.out, at6_ok.2 HR.out, by have := HK.out; omega⟩
      · have q42 : (nx t == 42) = false := nx_eq (b := 42) fun u hu => h42 ⟨u, hu⟩
        by_cases h43 : ∃ u, t = 43 :: u
        · obtain ⟨u, rfl⟩ := h43
          clear h42 q42
          have HR := hid (show RR = .ok (post (cat [.mk k' S' l', star (.mk k' S' l')]) u).1 (post (cat [.mk k' S' l', star (.mk k' S' l')]) u).2 from by rw [HR0.out]; rw [post]; simp)
          have HK := hid (show u.length + 1 ≤ gk from by have := HK0.out; simpa using this)
          go_wp2_with fail
          refine CN.out.mono ?_
          rintro e W4 ⟨rfl, b4⟩
          have H4 := hid (HX.out.bel b4)
          clear b4 p0 p1 p2 p3 p4 p5 z0 z1 z2
          go_upto_region 8 with fail
          refine region_inv (fun b a' w' => ∃ (v20 v21 v22 v23 v24 : Value) (a9 : Option Addr) (n9 c9 g9 : Nat), a' = { tmps := #[.pointer (some ⟨pb, 0, none⟩), undef, .pointer (some ⟨w.heap.size, 0, none⟩), .pointer (some ⟨B, 0, none⟩), .pointer (some ⟨pb, 0, none⟩), .agg #[.int .i64 k1, .int .u64 (ws S1 0 : Int), .int .u64 (ws S1 1 : Int), .int .u64 (ws S1 2 : Int), .int .u64 (ws S1 3 : Int), .slice a1 n1 c1], .pointer (some ⟨pb, 0, none⟩), .pointer (some ⟨pb, 0, none⟩), .pointer (some ⟨pb, 2, none⟩), .bool false, .bool true, .pointer (some ⟨pb, 0, none⟩), .int .i64 (nx (43 :: u)), u13, .bool (nx (43 :: u) == 42), .bool (nx (43 :: u) == 42), u16, u17, .bool (nx (43 :: u) == 43), .bool (nx (43 :: u) == 43), v20, v21, v22, v23, v24, u25, u26, u27, u28, u29, u30, u31, u32, u33, u34, u35, u36, u37, undef], defers := [] } ∧ (b 0 = true → v20 = .agg #[.int .i64 k', .int .u64 (ws S' 0 : Int), .int .u64 (ws S' 1 : Int), .int .u64 (ws S' 2 : Int), .int .u64 (ws S' 3 : Int), (.slice aq nq cq)]) ∧ (b 1 = true → v21 = .agg #[.int .i64 k', .int .u64 (ws S' 0 : Int), .int .u64 (ws S' 1 : Int), .int .u64 (ws S' 2 : Int), .int .u64 (ws S' 3 : Int), (.slice aq nq cq)]) ∧ (b 2 = true → v22 = .agg #[.int .i64 6, .int .u64 (ws none8 0 : Int), .int .u64 (ws none8 1 : Int), .int .u64 (ws none8 2 : Int), .int .u64 (ws none8 3 : Int), .slice a9 n9 c9] ∧ Kd (gB w.heap.size B) w' a9 n9 [.mk k' S' l']) ∧ (b 3 = true → v23 = .slice (some ⟨g9, 0, none⟩) 2 2 ∧ Kd (gB w.heap.size B) w' (some ⟨g9, 0, none⟩) 2 [.mk k' S' l', star (.mk k' S' l')]) ∧ (b 4 = true → v24 = .agg #[.int .i64 4, .int .u64 0, .int .u64 0, .int .u64 0, .int .u64 0, .slice (some ⟨g9, 0, none⟩) 2 2]) ∧ (b 5 = false → RP pb s w B w' k' S' l' aq nq cq (43 :: u) false) ∧ (b 5 = true → RP pb s w B w' 4 none8 [.mk k' S' l', star (.mk k' S' l')] (some ⟨g9, 0, none⟩) 2 2 (43 :: u) false) ∧ (b 2 = true → b 1 = true) ∧ (b 3 = true → b 0 = true) ∧ (b 3 = true → b 2 = true) ∧ (b 4 = true → b 3 = true) ∧ (b 5 = true → b 4 = true)) (by kernel_rfl) (back_of (by kernel_rfl)) ?step ?done ?init
          case step =>
            rintro b a' w' i o ho ⟨v20, v21, v22, v23, v24, a9, n9, c9, g9, rfl, h0, h1, h2, h3, h4, h5n, h5, q21, q30, q32, q43, q54⟩ hbi hd K hK
            have hlt : i < 6 := by have := (Array.getElem?_eq_some_iff.1 ho).1; simpa using this
            have dep : ∀ k, (o.after.any fun e => Region.binds .any e && e.on == k) = true → b k = true := fun k hk => by
              obtain ⟨e, he, h⟩ := Array.any_eq_true'.1 hk
              simp only [Bool.and_eq_true, beq_iff_eq] at h
              rw [← h.2]; exact hd e he h.1
            clear hd
            have hi : i = 0 ∨ i = 1 ∨ i = 2 ∨ i = 3 ∨ i = 4 ∨ i = 5 := by omega
            clear hlt
            rcases hi with rfl | rfl | rfl | rfl | rfl | rfl
            · simp only [List.getElem?_toArray, List.getElem?_cons_zero, List.getElem?_cons_succ, Option.some.injEq] at ho
              subst ho
              have hb5 : b 5 = false := by
                cases hb : b 5
                · rfl
                · have := q30 (q43 (q54 hb))
                  rw [hbi] at this; cases this
              have y1 := (h5n hb5).box
              obtain ⟨p0, p1, p2, p3, p4, p5⟩ := cells6 y1
              go_simp
              refine hK.out _ _ ⟨_, _, _, _, _, a9, n9, c9, g9, rfl, fun _ => rfl, fun h => h1 (by simpa using h), fun h => h2 (by simpa using h), fun h => h3 (by simpa using h), fun h => h4 (by simpa using h), fun h => h5n (by simpa using h), fun h => h5 (by simpa using h), fun h => by simp [q21 (by simpa using h)], fun _ => by simp, fun h => by simp [q32 (by simpa using h)], fun h => by simp [q43 (by simpa using h)], fun h => by simp [q54 (by simpa using h)]⟩
            · simp only [List.getElem?_toArray, List.getElem?_cons_zero, List.getElem?_cons_succ, Option.some.injEq] at ho
              subst ho
              have hb5 : b 5 = false := by
                cases hb : b 5
                · rfl
                · have := q21 (q32 (q43 (q54 hb)))
                  rw [hbi] at this; cases this
              have y1 := (h5n hb5).box
              obtain ⟨p0, p1, p2, p3, p4, p5⟩ := cells6 y1
              go_simp
              refine hK.out _ _ ⟨_, _, _, _, _, a9, n9, c9, g9, rfl, fun h => h0 (by simpa using h), fun _ => rfl, fun h => h2 (by simpa using h), fun h => h3 (by simpa using h), fun h => h4 (by simpa using h), fun h => h5n (by simpa using h), fun h => h5 (by simpa using h), fun _ => by simp, fun h => by simp [q30 (by simpa using h)], fun h => by simp [q32 (by simpa using h)], fun h => by simp [q43 (by simpa using h)], fun h => by simp [q54 (by simpa using h)]⟩
            · simp only [List.getElem?_toArray, List.getElem?_cons_zero, List.getElem?_cons_succ, Option.some.injEq] at ho
              subst ho
              have hb5 : b 5 = false := by
                cases hb : b 5
                · rfl
                · have := q32 (q43 (q54 hb))
                  rw [hbi] at this; cases this
              obtain rfl := h1 (dep 1 (by kernel_rfl))
              have hb1 := dep 1 (by kernel_rfl)
              have HQ := h5n hb5
              have CS := hid (show Calls Tryd.prog 96 #[.agg #[.int .i64 k', .int .u64 (ws S' 0 : Int), .int .u64 (ws S' 1 : Int), .int .u64 (ws S' 2 : Int), .int .u64 (ws S' 3 : Int), (.slice aq nq cq)]] w' _ from rstar_any (gB w.heap.size B) (.mk k' S' l') w' (rcs k' S' (.slice aq nq cq)) (RC_mk.2 ⟨_, _, _, rfl, HQ.kd⟩))
              go_simp
              refine CS.out.mono ?_
              rintro e W5 ⟨⟨cs', rfl, hrc⟩, b5⟩
              obtain ⟨a2, n2, c2, rfl, hKd⟩ := RC_mk.1 hrc
              have hKd := (show Kd (gB w.heap.size B) W5 a2 n2 [.mk k' S' l'] from hKd.more fun b hb => hb.elim id fun hb => ⟨by have := HQ.hB; have := HQ.h1; omega, by have := HQ.hB; omega⟩)
              refine hK.out _ _ ⟨_, _, _, _, _, a2, n2, c2, g9, rfl, fun h => h0 (by simpa using h), fun _ => rfl, fun _ => ⟨rfl, hKd⟩, fun h => (by have := q32 (by simpa using h); rw [hbi] at this; cases this), fun h => h4 (by simpa using h), fun h => (h5n (by simpa using h)).bel b5, fun h => (h5 (by simpa using h)).bel b5, fun _ => by simp [hb1], fun h => by simp [q30 (by simpa using h)], fun _ => by simp, fun h => by simp [q43 (by simpa using h)], fun h => by simp [q54 (by simpa using h)]⟩
            · simp only [List.getElem?_toArray, List.getElem?_cons_zero, List.getElem?_cons_succ, Option.some.injEq] at ho
              subst ho
              have hb5 : b 5 = false := by
                cases hb : b 5
                · rfl
                · have := q43 (q54 hb)
                  rw [hbi] at this; cases this
              obtain rfl := h0 (dep 0 (by kernel_rfl))
              obtain ⟨rfl, hk2⟩ := h2 (dep 2 (by kernel_rfl))
              have hb0 := dep 0 (by kernel_rfl)
              have hb2 := dep 2 (by kernel_rfl)
              have hb1 := q21 hb2
              obtain rfl := h1 hb1
              have HQ := h5n hb5
              have b5 := bel1 w' (.cells #[.int .i64 k', .int .u64 (ws S' 0 : Int), .int .u64 (ws S' 1 : Int), .int .u64 (ws S' 2 : Int), .int .u64 (ws S' 3 : Int), .slice aq nq cq, .int .i64 6, .int .u64 (ws none8 0 : Int), .int .u64 (ws none8 1 : Int), .int .u64 (ws none8 2 : Int), .int .u64 (ws none8 3 : Int), .slice a9 n9 c9] 27)
              have hrow := two_row (g := gB w.heap.size B) (RC_mk.2 ⟨_, _, cq, rfl, HQ.kd⟩ : RC _ w' (.mk k' S' l') (rcs k' S' (.slice aq nq cq))) (RC_mk.2 ⟨_, _, c9, rfl, hk2⟩ : RC _ w' (star (.mk k' S' l')) (rcs 6 none8 (.slice a9 n9 c9))) ⟨by have := HQ.hB; have := HQ.h1; omega, by have := HQ.hB; omega⟩
              go_simp
              refine hK.out _ _ ⟨_, _, _, _, _, a9, n9, c9, w'.heap.size, rfl, fun _ => rfl, fun _ => rfl, fun _ => ⟨rfl, hk2.below b5⟩, fun _ => ⟨rfl, hrow⟩, fun h => (by have := q43 (by simpa using h); rw [hbi] at this; cases this), fun h => (h5n (by simpa using h)).bel b5, fun h => (by have := q43 (q54 (by simpa using h)); rw [hbi] at this; cases this), fun h => by simp [q21 (by simpa using h)], fun _ => by simp [hb0], fun _ => by simp [hb2], fun _ => by simp, fun h => by simp [q54 (by simpa using h)]⟩
            · simp only [List.getElem?_toArray, List.getElem?_cons_zero, List.getElem?_cons_succ, Option.some.injEq] at ho
              subst ho
              obtain ⟨rfl, hk3⟩ := h3 (dep 3 (by kernel_rfl))
              have hb3 := dep 3 (by kernel_rfl)
              have hb0 := q30 hb3
              have hb2 := q32 hb3
              have hb1 := q21 hb2
              obtain rfl := h0 hb0
              obtain rfl := h1 hb1
              obtain ⟨rfl, hk2⟩ := h2 hb2
              go_simp
              refine hK.out _ _ ⟨_, _, _, _, _, a9, n9, c9, g9, rfl, fun _ => rfl, fun _ => rfl, fun _ => ⟨rfl, hk2⟩, fun _ => ⟨rfl, hk3⟩, fun _ => rfl, fun h => h5n (by simpa using h), fun h => h5 (by simpa using h), fun h => by simp [q21 (by simpa using h)], fun h => by simp [q30 (by simpa using h)], fun h => by simp [q32 (by simpa using h)], fun _ => by simp [hb3], fun _ => by simp⟩
            · simp only [List.getElem?_toArray, List.getElem?_cons_zero, List.getElem?_cons_succ, Option.some.injEq] at ho
              subst ho
              obtain rfl := h4 (dep 4 (by kernel_rfl))
              have hb4 := dep 4 (by kernel_rfl)
              have hb3 := q43 hb4
              have hb0 := q30 hb3
              have hb2 := q32 hb3
              have hb1 := q21 hb2
              obtain rfl := h0 hb0
              obtain rfl := h1 hb1
              obtain ⟨rfl, hk2⟩ := h2 hb2
              obtain ⟨rfl, hk3⟩ := h3 hb3
              have HQ := h5n hbi
              obtain ⟨p0, p1, p2, p3, p4, p5⟩ := cells6 HQ.box
              have f0 := Go.Frame.free HQ.box 0
              have f1 := Go.Frame.free HQ.box 1
              have f2 := Go.Frame.free HQ.box 2
              have f3 := Go.Frame.free HQ.box 3
              have f4 := Go.Frame.free HQ.box 4
              have f5 := Go.Frame.free HQ.box 5
              have HZ := HQ.sixz (k2 := 4) (c2 := 2) hk3
              go_simp
              refine hK.out _ _ ⟨_, _, _, _, _, a9, n9, c9, g9, rfl, fun _ => rfl, fun _ => rfl, fun _ => ⟨rfl, kd_six hk2 fun b hb => hb.2⟩, fun _ => ⟨rfl, kd_six hk3 fun b hb => hb.2⟩, fun _ => rfl, fun h => absurd h (by simp), fun _ => HZ, fun h => by simp [q21 (by simpa using h)], fun h => by simp [q30 (by simpa using h)], fun h => by simp [q32 (by simpa using h)], fun h => by simp [q43 (by simpa using h)], fun _ => by simp [hb4]⟩
          case done =>
            rintro b a' w' ⟨v20, v21, v22, v23, v24, a9, n9, c9, g9, rfl, h0, h1, h2, h3, h4, h5n, h5, q21, q30, q32, q43, q54⟩ hall
            obtain rfl := h0 (hall 0)
            obtain rfl := h1 (hall 1)
            obtain ⟨rfl, -⟩ := h2 (hall 2)
            obtain ⟨rfl, -⟩ := h3 (hall 3)
            obtain rfl := h4 (hall 4)
            have HY := hid (h5 (hall 5))
            clear h2 h3 h5 h5n h0 h1 h4 q21 q30 q32 q43 q54
            go_upto_region 11 with fail
            have hnx := HY.out.rs.next
            obtain ⟨z0, z1, z2⟩ := HY.out.rs.cells
            have f1 := Go.Frame.free HY.out.rs.box 1
            obtain ⟨p9, hp⟩ : ∃ p, p = s.size - ((43 : UInt8) :: u).length := ⟨_, rfl⟩
            obtain ⟨p8, hp'⟩ : ∃ p', p' = s.size - u.length := ⟨_, rfl⟩
            rw [← hp] at z1 hnx
            rw [← hp'] at hnx
            have HP2 := hid hp'
            have hpb'' : (p9 : Int) ≤ 1000000 := by have := HY.out.rs.sz; omega
            clear hp hp'
            go_wp2
            have HV := hid (show RP pb s w B (w'.setCell ⟨pb, 1, none⟩ (.int .i64 (p8 : Int))) 4 none8 [.mk k' S' l', star (.mk k' S' l')] (some ⟨g9, 0, none⟩) 2 2 u false from by rw [HP2.out]; exact HY.out.step)
            go_roundg (gk - 1)
            case measure => have := HK.out; omega
            case rel => exact ⟨false, 4, none8, [.mk k' S' l', star (.mk k' S' l')], (some ⟨g9, 0, none⟩), 2, 2, u, HV.out, at6_ok.2 HR.out, by have := HK.out; omega⟩
          case init =>
            exact ⟨_, _, _, _, _, none, 0, 0, 0, rfl, fun h => absurd h (by simp), fun h => absurd h (by simp), fun h => absurd h (by simp), fun h => absurd h (by simp), fun h => absurd h (by simp), fun _ => H4.out.bel (Below.refl _ _).drew, fun h => absurd h (by simp), fun h => absurd h (by simp), fun h => absurd h (by simp), fun h => absurd h (by simp), fun h => absurd h (by simp), fun h => absurd h (by simp)⟩
        · have h42' := h42
          clear h42
          have q43 : (nx t == 43) = false := nx_eq (b := 43) fun u hu => h43 ⟨u, hu⟩
          by_cases h63 : ∃ u, t = 63 :: u
          · obtain ⟨u, rfl⟩ := h63
            clear h43 h42' q42 q43
            have HR := hid (show RR = .ok (post (alt [.mk k' S' l', eps]) u).1 (post (alt [.mk k' S' l', eps]) u).2 from by rw [HR0.out]; rw [post]; simp)
            have HK := hid (show u.length + 1 ≤ gk from by have := HK0.out; simpa using this)
            go_wp2_with fail
            refine CN.out.mono ?_
            rintro e W4 ⟨rfl, b4⟩
            have H4 := hid (HX.out.bel b4)
            clear b4 p0 p1 p2 p3 p4 p5 z0 z1 z2
            obtain ⟨p0, p1, p2, p3, p4, p5⟩ := cells6 H4.out.box
            have hbx := blk_alloc (o' := .cells #[.int .i64 k', .int .u64 (ws S' 0 : Int), .int .u64 (ws S' 1 : Int), .int .u64 (ws S' 2 : Int), .int .u64 (ws S' 3 : Int), .slice aq nq cq, .int .i64 2, .int .u64 0, .int .u64 0, .int .u64 0, .int .u64 0, .slice none 0 0] 27) H4.out.box
            have hrow := two_row (g := gB w.heap.size B) (RC_mk.2 ⟨_, _, cq, rfl, H4.out.kd⟩ : RC _ W4 (.mk k' S' l') (rcs k' S' (.slice aq nq cq))) (RC_mk.2 ⟨none, 0, 0, ezrcs _ _ |>.symm, rfl, by decide, .inl rfl⟩ : RC _ W4 eps [.int .i64 2, .int .u64 0, .int .u64 0, .int .u64 0, .int .u64 0, .slice none 0 0]) ⟨by have := H4.out.hB; have := H4.out.h1; omega, by have := H4.out.hB; omega⟩
            have HY0 := (H4.out.bel (bel1 W4 (.cells #[.int .i64 k', .int .u64 (ws S' 0 : Int), .int .u64 (ws S' 1 : Int), .int .u64 (ws S' 2 : Int), .int .u64 (ws S' 3 : Int), .slice aq nq cq, .int .i64 2, .int .u64 0, .int .u64 0, .int .u64 0, .int .u64 0, .slice none 0 0] 27))).sixz (k2 := 5) (c2 := 2) hrow
            have HY1 := hid HY0
            clear HY0 hrow
            obtain ⟨q0, q1, q2, q3, q4, q5⟩ := cells6 hbx
            have f0 := Go.Frame.free hbx 0
            have f1 := Go.Frame.free hbx 1
            have f2 := Go.Frame.free hbx 2
            have f3 := Go.Frame.free hbx 3
            have f4 := Go.Frame.free hbx 4
            have f5 := Go.Frame.free hbx 5
            clear hbx
            go_upto_region 11 with fail
            obtain ⟨X, hX⟩ : ∃ X, X = (((((((W4.alloc (.cells #[.int .i64 k', .int .u64 (ws S' 0 : Int), .int .u64 (ws S' 1 : Int), .int .u64 (ws S' 2 : Int), .int .u64 (ws S' 3 : Int), .slice aq nq cq, .int .i64 2, .int .u64 0, .int .u64 0, .int .u64 0, .int .u64 0, .slice none 0 0] 27)).setCell ⟨B, 0, none⟩ (.int .i64 5)).setCell ⟨B, 1, none⟩ (.int .u64 0)).setCell ⟨B, 2, none⟩ (.int .u64 0)).setCell ⟨B, 3, none⟩ (.int .u64 0)).setCell ⟨B, 4, none⟩ (.int .u64 0)).setCell ⟨B, 5, none⟩ (.slice (some ⟨W4.heap.size, 0, none⟩) 2 2)) := ⟨_, rfl⟩
            have HY := hid (show RP pb s w B X 5 none8 [.mk k' S' l', eps] (some ⟨W4.heap.size, 0, none⟩) 2 2 (63 :: u) false from by rw [hX]; exact HY1.out)
            rw [← hX]
            clear hX HY1 p0 p1 p2 p3 p4 p5 q0 q1 q2 q3 q4 q5 f0 f1 f2 f3 f4 f5
            have hnx := HY.out.rs.next
            obtain ⟨z0, z1, z2⟩ := HY.out.rs.cells
            have f1 := Go.Frame.free HY.out.rs.box 1
            obtain ⟨p9, hp⟩ : ∃ p, p = s.size - ((63 : UInt8) :: u).length := ⟨_, rfl⟩
            obtain ⟨p8, hp'⟩ : ∃ p', p' = s.size - u.length := ⟨_, rfl⟩
            rw [← hp] at z1 hnx
            rw [← hp'] at hnx
            have HP2 := hid hp'
            have hpb'' : (p9 : Int) ≤ 1000000 := by have := HY.out.rs.sz; omega
            clear hp hp'
            go_wp2
            have HV := hid (show RP pb s w B (X.setCell ⟨pb, 1, none⟩ (.int .i64 (p8 : Int))) 5 none8 [.mk k' S' l', eps] (some ⟨W4.heap.size, 0, none⟩) 2 2 u false from by rw [HP2.out]; exact HY.out.step)
            go_roundg (gk - 1)
            case measure => have := HK.out; omega
            case rel => exact ⟨false, 5, none8, [.mk k' S' l', eps], (some ⟨W4.heap.size, 0, none⟩), 2, 2, u, HV.out, at6_ok.2 HR.out, by have := HK.out; omega⟩
          · have q63 : (nx t == 63) = false := nx_eq (b := 63) fun u hu => h63 ⟨u, hu⟩
            have HR := hid (show RR = .ok (.mk k' S' l') t from by
              rw [HR0.out]
              cases t with
              | nil => rfl
              | cons b v =>
                rw [post, if_neg (fun e => h42' ⟨v, by rw [e]⟩), if_neg (fun e => h43 ⟨v, by rw [e]⟩), if_neg (fun e => h63 ⟨v, by rw [e]⟩)])
            clear h43 h63 h42'
            go_wp2_with fail
            refine CN.out.mono ?_
            rintro e W4 ⟨rfl, b4⟩
            have H4 := hid (HX.out.bel b4)
            clear b4 p0 p1 p2 p3 p4 p5 z0 z1 z2
            obtain ⟨p0, p1, p2, p3, p4, p5⟩ := cells6 H4.out.box
            have hres := H4.out.res
            obtain ⟨d0, d1, d2, d3, d4, d5⟩ := cells6 hres
            have f0 := Go.Frame.free hres 0
            have f1 := Go.Frame.free hres 1
            have f2 := Go.Frame.free hres 2
            have f3 := Go.Frame.free hres 3
            have f4 := Go.Frame.free hres 4
            have f5 := Go.Frame.free hres 5
            clear hres
            go_wp2
            have zz := six_set (y0 := .int .i64 k') (y1 := .int .u64 (ws S' 0 : Int)) (y2 := .int .u64 (ws S' 1 : Int)) (y3 := .int .u64 (ws S' 2 : Int)) (y4 := .int .u64 (ws S' 3 : Int)) (y5 := (.slice aq nq cq)) H4.out.res
            obtain ⟨r0, r1, r2, r3, r4, r5⟩ := cells6 zz
            refine bodyPost_ret (v := .agg #[.int .i64 k', .int .u64 (ws S' 0 : Int), .int .u64 (ws S' 1 : Int), .int .u64 (ws S' 2 : Int), .int .u64 (ws S' 3 : Int), (.slice aq nq cq)]) ?_ rfl ?_
            · simp [results, Tryd.results76, go_sem, r0, r1, r2, r3, r4, r5]
            · have k1 := pk_six (x0 := .int .i64 k') (x1 := .int .u64 (ws S' 0 : Int)) (x2 := .int .u64 (ws S' 1 : Int)) (x3 := .int .u64 (ws S' 2 : Int)) (x4 := .int .u64 (ws S' 3 : Int)) (x5 := (.slice aq nq cq)) H4.out.pk
              have k2 := H4.out.rs.six (B := w.heap.size) (x0 := .int .i64 k') (x1 := .int .u64 (ws S' 0 : Int)) (x2 := .int .u64 (ws S' 1 : Int)) (x3 := .int .u64 (ws S' 2 : Int)) (x4 := .int .u64 (ws S' 3 : Int)) (x5 := (.slice aq nq cq)) (by have := H4.out.h2; omega)
              exact ⟨k1, _, _, rfl, rc_out2 H4.out, by rw [HR.out]; exact ⟨rfl, k2⟩⟩
end Go.Proofs.YtednoideboeehaaDoor
end
