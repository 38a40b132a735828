/-
  The reference's parser: contracts: branch, regex; all of the descent.
  The reference's parser: contracts: regex; all of the descent.
-/
import Derived.Test.YtednoideboeehaaDoorZ28
import Derived.Deep.AppendLies
section
set_option linter.unusedSimpArgs false
set_option linter.unusedVariables false
namespace Go.Proofs.YtednoideboeehaaDoor
open Go.RowKit Bs Rg Go.Frame
attribute [local go_sem] eq_zero eq_set

theorem OX.built {base n b : Nat} {W : World} {x : Rx} {cs : List Value} (hx : RC (ge n) W x cs) (hn : base ≤ n) (hb : base ≤ W.heap.size) (hW : W.heap.size = b) : OX base (W.alloc (.cells cs.toArray 27)) (.slice (some ⟨b, 0, none⟩) 1 1) [x] := by
  subst hW
  have h6 := hx.six
  refine ⟨cs, ⟨by simp [h6], .inr ⟨W.heap.size, 1, cs.toArray, rfl, hb, alloc_new _ _, Nat.le_refl _, by unfold maxLen; omega, by simp [h6], by simp [List.take_of_length_le, h6]⟩⟩, fun i y hi => ?_⟩
  have hi0 : i = 0 := by have := (List.getElem?_eq_some_iff.1 hi).1; simp at this; exact this
  subst hi0
  simp at hi
  subst hi
  exact ⟨cs, RC.keep (g := fun b => ge n b ∧ b < W.heap.size) (bel1 W _).size (fun b hb hl => (bel1 W _).block b hl) (fun b hb => ⟨Nat.le_trans hn hb.1, by simp [Value.ownBlock]; have := hb.2; omega⟩) x hx.lt, fun j u hj => by simpa using hj⟩
/-- A loop that gathers: the result's box, the row, the parser. -/
structure EB (pb : Nat) (s : ByteArray) (w : World) (W : World) (v : Value) (l : List Rx) (t : List UInt8) (bad : Bool) : Prop where
  res : W.heap[w.heap.size]? = some (.cells #[.int .i64 0, .int .u64 0, .int .u64 0, .int .u64 0, .int .u64 0, .slice none 0 0] 27 (0, 0))
  ox : OX (w.heap.size + 1) W v l
  pk : Pk pb w W
  rs : RS pb s W t bad
  h2 : pb < w.heap.size
  h3 : w.heap.size + 1 ≤ W.heap.size
theorem EB.bel {pb : Nat} {s : ByteArray} {w W W' : World} {v : Value} {l : List Rx} {t : List UInt8} {bad : Bool} (h : EB pb s w W v l t bad) (hb : Below W.heap.size W W') : EB pb s w W' v l t bad :=
  ⟨(hb.block _ (heap_lt h.res)).trans h.res, h.ox.bel hb, h.pk.trans (Pk.of hb), h.rs.below hb, h.h2, Nat.le_trans h.h3 hb.size⟩
theorem EB.pkk {pb : Nat} {s : ByteArray} {w W W' : World} {v : Value} {l : List Rx} {t t' : List UInt8} {bad bad' : Bool} (h : EB pb s w W v l t bad) (hb : Pk pb W W') (hr : RS pb s W' t' bad') : EB pb s w W' v l t' bad' :=
  ⟨(hb.block (by have := h.h2; omega) (heap_lt h.res)).trans h.res, h.ox.keep hb.size (fun b hb' hl => hb.block (by have := h.h2; omega) hl), h.pk.trans hb, hr, h.h2, Nat.le_trans h.h3 hb.size⟩
theorem EB.step {pb : Nat} {s : ByteArray} {w W : World} {v : Value} {l : List Rx} {b : UInt8} {t : List UInt8} {bad : Bool} (h : EB pb s w W v l (b :: t) bad) : EB pb s w (W.setCell ⟨pb, 1, none⟩ (.int .i64 ((s.size - t.length : Nat) : Int))) v l t bad :=
  ⟨blk_set h.res (by show w.heap.size ≠ pb; have := h.h2; omega), OX.put h.ox (by have := h.h2; omega), h.pk.put, h.rs.step, h.h2, by simpa using h.h3⟩
/-- One more, behind a call and an append: V is the world ahead of the call, W behind it. -/
theorem EB.snoc {pb g cap : Nat} {s : ByteArray} {w V W W' : World} {v : Value} {l : List Rx} {x : Rx} {cs vs : List Value} {t : List UInt8} {bad : Bool} (hV : OX (w.heap.size + 1) V v l) (hVs : w.heap.size + 1 ≤ V.heap.size) (h : EB pb s w W v l t bad) (hx : RC (ge V.heap.size) W x cs)
    (ho : W.ownsRow (w.heap.size + 1) 27 6 v l.length vs) (hall : ∀ (i : Nat) (x : Rx), l[i]? = some x → ∃ cs : List Value, RC (fun b => w.heap.size + 1 ≤ b ∧ v.ownBlock ≠ some b) W x cs ∧ ∀ (j : Nat) (u : Value), cs[j]? = some u → vs[i * 6 + j]? = some u)
    (h' : W'.ownsRow (w.heap.size + 1) 27 6 (.slice (some ⟨g, 0, none⟩) (l.length + 1) cap) (l.length + 1) (vs ++ cs)) (hg : (W.alloc (.cells cs.toArray 27)).grownBy W' v.ownBlock) (hat : v.ownBlock = some g ∨ (W.alloc (.cells cs.toArray 27)).heap.size ≤ g) :
    EB pb s w W' (.slice (some ⟨g, 0, none⟩) (l.length + 1) cap) (l ++ [x]) t bad := by
  have hb := bel1 W (.cells cs.toArray 27)
  have hB := h.bel hb
  have hkeep : ∀ b, b < w.heap.size + 1 → W'.heap[b]? = (W.alloc (.cells cs.toArray 27)).heap[b]? := fun b hb' => hg.block b (by have := hB.h3; omega) (fun e => by have h1 := (ho.lt b e.symm).1; omega)
  refine ⟨(hkeep _ (by omega)).trans hB.res, ?_, Kept.grown hB.pk hg (fun b hb => .inr (by have := hB.h3; have hb' := hb; omega)) (fun k hk => .inr (by have h1 := (ho.lt k hk).1; omega)), ⟨(hkeep _ (by have := h.h2; omega)).trans hB.rs.box, h.rs.rest, h.rs.le, h.rs.sz⟩, h.h2, Nat.le_trans hB.h3 hg.size⟩
  exact OX.snoc (n := V.heap.size) (own_alloc ho _) (fun i y hi => by
      obtain ⟨z, h1, h2⟩ := hall i y hi
      exact ⟨z, h1.below hb, h2⟩) h' hg (fun b hb' => (hV.own b hb').2) hVs (hat.imp id fun e => by exact e) (hx.below hb)
/-- How far branch's loop has come. -/
def At7 (R : Pr Rx) (bad : Bool) (acc : List Rx) (t : List UInt8) (kk N L : Nat) : Prop :=
  acc.length ≤ L ∧ if bad = true then R = .bad t else ∃ m, R = brP (pReps m acc t) ∧ 4 * t.length + 3 ≤ m ∧ m ≤ kk ∧ m ≤ N ∧ acc.length + t.length ≤ L
theorem at7_bad {R : Pr Rx} {acc : List Rx} {t : List UInt8} {kk N L : Nat} : At7 R true acc t kk N L ↔ acc.length ≤ L ∧ R = .bad t := by unfold At7; simp
theorem at7_ok {R : Pr Rx} {acc : List Rx} {t : List UInt8} {kk N L : Nat} : At7 R false acc t kk N L ↔ acc.length ≤ L ∧ ∃ m, R = brP (pReps m acc t) ∧ 4 * t.length + 3 ≤ m ∧ m ≤ kk ∧ m ≤ N ∧ acc.length + t.length ≤ L := by unfold At7; simp
/-- How far regex' loop has come. -/
def At8 (R : Pr Rx) (bad : Bool) (acc : List Rx) (t : List UInt8) (kk N L : Nat) : Prop :=
  acc.length ≤ L + 1 ∧ if bad = true then R = .bad t else ∃ m, R = pAlts m acc t ∧ 4 * t.length + 1 ≤ m ∧ m ≤ kk ∧ m ≤ N ∧ acc.length + t.length ≤ L + 1
theorem at8_bad {R : Pr Rx} {acc : List Rx} {t : List UInt8} {kk N L : Nat} : At8 R true acc t kk N L ↔ acc.length ≤ L + 1 ∧ R = .bad t := by unfold At8; simp
theorem at8_ok {R : Pr Rx} {acc : List Rx} {t : List UInt8} {kk N L : Nat} : At8 R false acc t kk N L ↔ acc.length ≤ L + 1 ∧ ∃ m, R = pAlts m acc t ∧ 4 * t.length + 1 ≤ m ∧ m ≤ kk ∧ m ≤ N ∧ acc.length + t.length ≤ L + 1 := by unfold At8; simp
set_option maxRecDepth 100000 in
set_option maxHeartbeats 4000000 in
theorem rbranch_any (N : Nat) (pb : Nat) (s : ByteArray) (IH : ∀ n, n < N → ∀ (V : World) (l : List UInt8), RS pb s V l false → 4 * l.length + 2 ≤ n → Calls Tryd.prog 76 #[.pointer (some ⟨pb, 0, none⟩)] V (AO pb s (pRepeat n l) V)) (w : World) (l : List UInt8) (h : RS pb s w l false) (hn : 4 * l.length + 3 ≤ N) :
    Calls Tryd.prog 55 #[.pointer (some ⟨pb, 0, none⟩)] w (AO pb s (brP (pReps N [] l)) w) := by
  have hpb := hid (heap_lt h.box)
  obtain ⟨i0, hi, hz0, hz1, hz2⟩ := info_parts Tryd.info27
  obtain ⟨R, hR⟩ : ∃ R, R = brP (pReps N [] l) := ⟨_, rfl⟩
  rw [← hR]
  obtain ⟨L, hL⟩ : ∃ L, L = l.length := ⟨_, rfl⟩
  have HL0 := hid (show L ≤ 1000000 by have := h.sz; have := h.le; omega)
  obtain ⟨W0, hW0⟩ : ∃ W0, W0 = w.alloc (.cells #[.int .i64 0, .int .u64 0, .int .u64 0, .int .u64 0, .int .u64 0, .slice none 0 0] 27) := ⟨_, rfl⟩
  have H0 := hid (show EB pb s w W0 (.slice none 0 0) [] l false from by
    have hb : Below w.heap.size w W0 := by rw [hW0]; exact bel1 _ _
    exact ⟨by rw [hW0]; exact alloc_new _ _, OX.nil _ _, Pk.of hb, h.below hb, hpb.out, by rw [hW0]; simp⟩)
  have HA := hid (show At7 R false [] l N N L from at7_ok.2 ⟨by simp, N, hR, hn, Nat.le_refl _, Nat.le_refl _, by simp [hL]⟩)
  have IH' := hid IH
  clear IH h hR hL hn
  go_enter Tryd.func55, Tryd.ntmps55
  go_wp2_with fail
  rw [← hW0]
  clear hW0
  go_loopg [3] N (fun kk s3 wr => ∃ (bad : Bool) (acc : List Rx) (t : List UInt8), EB pb s w wr s3 acc t bad ∧ At7 R bad acc t kk N L)
  case atStart => exact ⟨false, [], l, H0.out, HA.out⟩
  case round =>
    obtain ⟨bad, acc, t, hE, hat⟩ := hrel
    have HX := hid hE
    have HT := hid hat
    have HL := hid (show acc.length ≤ 2000000 ∧ True from ⟨by have := hat.1; have := HL0.out; omega, trivial⟩)
    clear hE hat
    obtain ⟨z0, z1, z2⟩ := HX.out.rs.cells
    cases bad with
    | true =>
      have HF := hid (at7_bad.1 HT.out).2
      obtain ⟨a9, c9, rfl, hKd⟩ := HX.out.ox.kd (by have := HL.out.1; omega)
      have HKd := hid hKd
      clear hKd
      match acc, HX, HF, HKd, HL with
      | [], HX, HF, HKd, HL =>
        have hres := HX.out.res
        obtain ⟨d0, d1, d2, d3, d4, d5⟩ := cells6 hres
        have f0 := Go.Frame.free hres 0
        have f1 := Go.Frame.free hres 1
        have f2 := Go.Frame.free hres 2
        have f3 := Go.Frame.free hres 3
        have f4 := Go.Frame.free hres 4
        have f5 := Go.Frame.free hres 5
        clear hres
        go_wp2
        have zz := six_set (y0 := .int .i64 2) (y1 := .int .u64 0) (y2 := .int .u64 0) (y3 := .int .u64 0) (y4 := .int .u64 0) (y5 := .slice none 0 0) HX.out.res
        obtain ⟨r0, r1, r2, r3, r4, r5⟩ := cells6 zz
        refine bodyPost_ret (v := .agg #[.int .i64 2, .int .u64 0, .int .u64 0, .int .u64 0, .int .u64 0, .slice none 0 0]) ?_ rfl ?_
        · simp [results, Tryd.results55, go_sem, r0, r1, r2, r3, r4, r5]
        · have kk1 := pk_six (x0 := .int .i64 2) (x1 := .int .u64 0) (x2 := .int .u64 0) (x3 := .int .u64 0) (x4 := .int .u64 0) (x5 := .slice none 0 0) HX.out.pk
          have kk2 := HX.out.rs.six (B := w.heap.size) (x0 := .int .i64 2) (x1 := .int .u64 0) (x2 := .int .u64 0) (x3 := .int .u64 0) (x4 := .int .u64 0) (x5 := .slice none 0 0) (by have := HX.out.h2; omega)
          exact ⟨kk1, _, _, rfl, (RC_mk.2 ⟨none, 0, 0, (ezrcs _ _).symm, rfl, by decide, .inl rfl⟩ : RC _ _ eps [.int .i64 2, .int .u64 0, .int .u64 0, .int .u64 0, .int .u64 0, .slice none 0 0]), by rw [HF.out]; exact kk2⟩
      | [x], HX, HF, HKd, HL =>
        obtain ⟨b, off, k2, S2, l2, a2, n2, c2, rfl, hgb, hbl, hx, hk2, q0, q1, q2, q3, q4, q5⟩ := HKd.out.get (i := 0) (by simp)
        simp only [Nat.zero_mul, Nat.add_zero] at q0 q1 q2 q3 q4 q5
        have hxx : x = .mk k2 S2 l2 := by simpa using hx
        subst hxx
        have H9 := hid hk2
        clear hx hk2
        have hres := HX.out.res
        obtain ⟨d0, d1, d2, d3, d4, d5⟩ := cells6 hres
        have f0 := Go.Frame.free hres 0
        have f1 := Go.Frame.free hres 1
        have f2 := Go.Frame.free hres 2
        have f3 := Go.Frame.free hres 3
        have f4 := Go.Frame.free hres 4
        have f5 := Go.Frame.free hres 5
        clear hres
        go_wp2
        have zz := six_set (y0 := .int .i64 k2) (y1 := .int .u64 (ws S2 0 : Int)) (y2 := .int .u64 (ws S2 1 : Int)) (y3 := .int .u64 (ws S2 2 : Int)) (y4 := .int .u64 (ws S2 3 : Int)) (y5 := .slice a2 n2 c2) HX.out.res
        obtain ⟨r0, r1, r2, r3, r4, r5⟩ := cells6 zz
        refine bodyPost_ret (v := .agg #[.int .i64 k2, .int .u64 (ws S2 0 : Int), .int .u64 (ws S2 1 : Int), .int .u64 (ws S2 2 : Int), .int .u64 (ws S2 3 : Int), .slice a2 n2 c2]) ?_ rfl ?_
        · simp [results, Tryd.results55, go_sem, r0, r1, r2, r3, r4, r5]
        · have kk1 := pk_six (x0 := .int .i64 k2) (x1 := .int .u64 (ws S2 0 : Int)) (x2 := .int .u64 (ws S2 1 : Int)) (x3 := .int .u64 (ws S2 2 : Int)) (x4 := .int .u64 (ws S2 3 : Int)) (x5 := .slice a2 n2 c2) HX.out.pk
          have kk2 := HX.out.rs.six (B := w.heap.size) (x0 := .int .i64 k2) (x1 := .int .u64 (ws S2 0 : Int)) (x2 := .int .u64 (ws S2 1 : Int)) (x3 := .int .u64 (ws S2 2 : Int)) (x4 := .int .u64 (ws S2 3 : Int)) (x5 := .slice a2 n2 c2) (by have := HX.out.h2; omega)
          exact ⟨kk1, _, _, rfl, (RC_mk.2 ⟨a2, n2, c2, rfl, (kd_six H9.out fun b hb => by have h1 : w.heap.size + 1 ≤ b := hb; omega).more fun b hb => by have h1 : w.heap.size + 1 ≤ b := hb; show w.heap.size ≤ b; omega⟩ : RC _ _ (.mk k2 S2 l2) (rcs k2 S2 (.slice a2 n2 c2))), by rw [HF.out]; exact kk2⟩
      | x :: y :: acc', HX, HF, HKd, HL =>
        obtain ⟨nn, hnn⟩ : ∃ nn, nn = (x :: y :: acc').length := ⟨_, rfl⟩
        have hn2 : ((nn : Int) == 0) = false ∧ ((nn : Int) == 1) = false ∧ ¬ nn = 0 ∧ ¬ nn = 1 := by rw [hnn]; simp; omega
        obtain ⟨e1, e2, e3, e4⟩ := hn2
        have HK9 := hid (show Kd (ge (w.heap.size + 1)) _ a9 nn _ from hnn ▸ HKd.out)
        rw [← hnn]
        clear hnn HKd
        have hres := HX.out.res
        obtain ⟨d0, d1, d2, d3, d4, d5⟩ := cells6 hres
        have f0 := Go.Frame.free hres 0
        have f1 := Go.Frame.free hres 1
        have f2 := Go.Frame.free hres 2
        have f3 := Go.Frame.free hres 3
        have f4 := Go.Frame.free hres 4
        have f5 := Go.Frame.free hres 5
        clear hres
        go_wp2
        have zz := six_set (y0 := .int .i64 4) (y1 := .int .u64 0) (y2 := .int .u64 0) (y3 := .int .u64 0) (y4 := .int .u64 0) (y5 := .slice a9 nn c9) HX.out.res
        obtain ⟨r0, r1, r2, r3, r4, r5⟩ := cells6 zz
        refine bodyPost_ret (v := .agg #[.int .i64 4, .int .u64 0, .int .u64 0, .int .u64 0, .int .u64 0, .slice a9 nn c9]) ?_ rfl ?_
        · simp [results, Tryd.results55, go_sem, r0, r1, r2, r3, r4, r5]
        · have kk1 := pk_six (x0 := .int .i64 4) (x1 := .int .u64 0) (x2 := .int .u64 0) (x3 := .int .u64 0) (x4 := .int .u64 0) (x5 := .slice a9 nn c9) HX.out.pk
          have kk2 := HX.out.rs.six (B := w.heap.size) (x0 := .int .i64 4) (x1 := .int .u64 0) (x2 := .int .u64 0) (x3 := .int .u64 0) (x4 := .int .u64 0) (x5 := .slice a9 nn c9) (by have := HX.out.h2; omega)
          exact ⟨kk1, _, _, rfl, (RC_mk.2 ⟨a9, nn, c9, (ezrcs _ _).symm, (kd_six HK9.out fun b hb => by have h1 : w.heap.size + 1 ≤ b := hb; omega).more fun b hb => by have h1 : w.heap.size + 1 ≤ b := hb; show w.heap.size ≤ b; omega⟩ : RC _ _ (.mk 4 none8 (x :: y :: acc')) [.int .i64 4, .int .u64 0, .int .u64 0, .int .u64 0, .int .u64 0, .slice a9 nn c9]), by rw [HF.out]; exact kk2⟩
    | false =>
      cases t with
      | nil =>
        have HF := hid (show R = .ok (br acc) [] from by
          obtain ⟨-, m, h1, h2, -⟩ := at7_ok.1 HT.out
          obtain ⟨m, rfl⟩ : ∃ q, m = q + 1 := ⟨m - 1, by omega⟩
          rw [h1, pReps, if_pos (show stop _ = true from rfl)]; rfl)
        have hnx : (nx [] != -1) = false := rfl
        go_wp2_with fail
        refine (next_any pb s _ [] false HX.out.rs).mono ?_
        rintro e Wa ⟨rfl, ba⟩
        have Ha := hid (HX.out.bel ba)
        clear ba
        obtain ⟨z0, z1, z2⟩ := Ha.out.rs.cells
        obtain ⟨a9, c9, rfl, hKd⟩ := Ha.out.ox.kd (by have := HL.out.1; omega)
        have HKd := hid hKd
        clear hKd
        match acc, Ha, HF, HKd, HL with
        | [], Ha, HF, HKd, HL =>
          have hres := Ha.out.res
          obtain ⟨d0, d1, d2, d3, d4, d5⟩ := cells6 hres
          have f0 := Go.Frame.free hres 0
          have f1 := Go.Frame.free hres 1
          have f2 := Go.Frame.free hres 2
          have f3 := Go.Frame.free hres 3
          have f4 := Go.Frame.free hres 4
          have f5 := Go.Frame.free hres 5
          clear hres
          go_wp2
          have zz := six_set (y0 := .int .i64 2) (y1 := .int .u64 0) (y2 := .int .u64 0) (y3 := .int .u64 0) (y4 := .int .u64 0) (y5 := .slice none 0 0) Ha.out.res
          obtain ⟨r0, r1, r2, r3, r4, r5⟩ := cells6 zz
          refine bodyPost_ret (v := .agg #[.int .i64 2, .int .u64 0, .int .u64 0, .int .u64 0, .int .u64 0, .slice none 0 0]) ?_ rfl ?_
          · simp [results, Tryd.results55, go_sem, r0, r1, r2, r3, r4, r5]
          · have kk1 := pk_six (x0 := .int .i64 2) (x1 := .int .u64 0) (x2 := .int .u64 0) (x3 := .int .u64 0) (x4 := .int .u64 0) (x5 := .slice none 0 0) Ha.out.pk
            have kk2 := Ha.out.rs.six (B := w.heap.size) (x0 := .int .i64 2) (x1 := .int .u64 0) (x2 := .int .u64 0) (x3 := .int .u64 0) (x4 := .int .u64 0) (x5 := .slice none 0 0) (by have := Ha.out.h2; omega)
            exact ⟨kk1, _, _, rfl, (RC_mk.2 ⟨none, 0, 0, (ezrcs _ _).symm, rfl, by decide, .inl rfl⟩ : RC _ _ eps [.int .i64 2, .int .u64 0, .int .u64 0, .int .u64 0, .int .u64 0, .slice none 0 0]), by rw [HF.out]; exact ⟨rfl, kk2⟩⟩
        | [x], Ha, HF, HKd, HL =>
          obtain ⟨b, off, k2, S2, l2, a2, n2, c2, rfl, hgb, hbl, hx, hk2, q0, q1, q2, q3, q4, q5⟩ := HKd.out.get (i := 0) (by simp)
          simp only [Nat.zero_mul, Nat.add_zero] at q0 q1 q2 q3 q4 q5
          have hxx : x = .mk k2 S2 l2 := by simpa using hx
          subst hxx
          have H9 := hid hk2
          clear hx hk2
          have hres := Ha.out.res
          obtain ⟨d0, d1, d2, d3, d4, d5⟩ := cells6 hres
          have f0 := Go.Frame.free hres 0
          have f1 := Go.Frame.free hres 1
          have f2 := Go.Frame.free hres 2
          have f3 := Go.Frame.free hres 3
          have f4 := Go.Frame.free hres 4
          have f5 := Go.Frame.free hres 5
          clear hres
          go_wp2
          have zz := six_set (y0 := .int .i64 k2) (y1 := .int .u64 (ws S2 0 : Int)) (y2 := .int .u64 (ws S2 1 : Int)) (y3 := .int .u64 (ws S2 2 : Int)) (y4 := .int .u64 (ws S2 3 : Int)) (y5 := .slice a2 n2 c2) Ha.out.res
          obtain ⟨r0, r1, r2, r3, r4, r5⟩ := cells6 zz
          refine bodyPost_ret (v := .agg #[.int .i64 k2, .int .u64 (ws S2 0 : Int), .int .u64 (ws S2 1 : Int), .int .u64 (ws S2 2 : Int), .int .u64 (ws S2 3 : Int), .slice a2 n2 c2]) ?_ rfl ?_
          · simp [results, Tryd.results55, go_sem, r0, r1, r2, r3, r4, r5]
          · have kk1 := pk_six (x0 := .int .i64 k2) (x1 := .int .u64 (ws S2 0 : Int)) (x2 := .int .u64 (ws S2 1 : Int)) (x3 := .int .u64 (ws S2 2 : Int)) (x4 := .int .u64 (ws S2 3 : Int)) (x5 := .slice a2 n2 c2) Ha.out.pk
            have kk2 := Ha.out.rs.six (B := w.heap.size) (x0 := .int .i64 k2) (x1 := .int .u64 (ws S2 0 : Int)) (x2 := .int .u64 (ws S2 1 : Int)) (x3 := .int .u64 (ws S2 2 : Int)) (x4 := .int .u64 (ws S2 3 : Int)) (x5 := .slice a2 n2 c2) (by have := Ha.out.h2; omega)
            exact ⟨kk1, _, _, rfl, (RC_mk.2 ⟨a2, n2, c2, rfl, (kd_six H9.out fun b hb => by have h1 : w.heap.size + 1 ≤ b := hb; omega).more fun b hb => by have h1 : w.heap.size + 1 ≤ b := hb; show w.heap.size ≤ b; omega⟩ : RC _ _ (.mk k2 S2 l2) (rcs k2 S2 (.slice a2 n2 c2))), by rw [HF.out]; exact ⟨rfl, kk2⟩⟩
        | x :: y :: acc', Ha, HF, HKd, HL =>
          obtain ⟨nn, hnn⟩ : ∃ nn, nn = (x :: y :: acc').length := ⟨_, rfl⟩
          have hn2 : ((nn : Int) == 0) = false ∧ ((nn : Int) == 1) = false ∧ ¬ nn = 0 ∧ ¬ nn = 1 := by rw [hnn]; simp; omega
          obtain ⟨e1, e2, e3, e4⟩ := hn2
          have HK9 := hid (show Kd (ge (w.heap.size + 1)) _ a9 nn _ from hnn ▸ HKd.out)
          rw [← hnn]
          clear hnn HKd
          have hres := Ha.out.res
          obtain ⟨d0, d1, d2, d3, d4, d5⟩ := cells6 hres
          have f0 := Go.Frame.free hres 0
          have f1 := Go.Frame.free hres 1
          have f2 := Go.Frame.free hres 2
          have f3 := Go.Frame.free hres 3
          have f4 := Go.Frame.free hres 4
          have f5 := Go.Frame.free hres 5
          clear hres
          go_wp2
          have zz := six_set (y0 := .int .i64 4) (y1 := .int .u64 0) (y2 := .int .u64 0) (y3 := .int .u64 0) (y4 := .int .u64 0) (y5 := .slice a9 nn c9) Ha.out.res
          obtain ⟨r0, r1, r2, r3, r4, r5⟩ := cells6 zz
          refine bodyPost_ret (v := .agg #[.int .i64 4, .int .u64 0, .int .u64 0, .int .u64 0, .int .u64 0, .slice a9 nn c9]) ?_ rfl ?_
          · simp [results, Tryd.results55, go_sem, r0, r1, r2, r3, r4, r5]
          · have kk1 := pk_six (x0 := .int .i64 4) (x1 := .int .u64 0) (x2 := .int .u64 0) (x3 := .int .u64 0) (x4 := .int .u64 0) (x5 := .slice a9 nn c9) Ha.out.pk
            have kk2 := Ha.out.rs.six (B := w.heap.size) (x0 := .int .i64 4) (x1 := .int .u64 0) (x2 := .int .u64 0) (x3 := .int .u64 0) (x4 := .int .u64 0) (x5 := .slice a9 nn c9) (by have := Ha.out.h2; omega)
            exact ⟨kk1, _, _, rfl, (RC_mk.2 ⟨a9, nn, c9, (ezrcs _ _).symm, (kd_six HK9.out fun b hb => by have h1 : w.heap.size + 1 ≤ b := hb; omega).more fun b hb => by have h1 : w.heap.size + 1 ≤ b := hb; show w.heap.size ≤ b; omega⟩ : RC _ _ (.mk 4 none8 (x :: y :: acc')) [.int .i64 4, .int .u64 0, .int .u64 0, .int .u64 0, .int .u64 0, .slice a9 nn c9]), by rw [HF.out]; exact ⟨rfl, kk2⟩⟩
      | cons b v =>
        have m1 : (nx (b :: v) != -1) = true := by simp [nx, bne]
        by_cases h124 : b = 124
        · subst h124
          have HF := hid (show R = .ok (br acc) (124 :: v) from by
            obtain ⟨-, m, h1, h2, -⟩ := at7_ok.1 HT.out
            obtain ⟨m, rfl⟩ : ∃ q, m = q + 1 := ⟨m - 1, by omega⟩
            rw [h1, pReps, if_pos (show stop _ = true from rfl)]; rfl)
          have m2 : (nx (124 :: v) != 124) = false := rfl
          go_wp2_with fail
          refine (next_any pb s _ _ false HX.out.rs).mono ?_
          rintro e Wa ⟨rfl, ba⟩
          have Ha := hid (HX.out.bel ba)
          clear ba
          obtain ⟨z0, z1, z2⟩ := Ha.out.rs.cells
          go_wp2_with fail
          refine (next_any pb s _ _ false Ha.out.rs).mono ?_
          rintro e Wc ⟨rfl, bc⟩
          have Hc := hid (Ha.out.bel bc)
          clear bc
          obtain ⟨z0, z1, z2⟩ := Hc.out.rs.cells
          obtain ⟨a9, c9, rfl, hKd⟩ := Hc.out.ox.kd (by have := HL.out.1; omega)
          have HKd := hid hKd
          clear hKd
          match acc, Hc, HF, HKd, HL with
          | [], Hc, HF, HKd, HL =>
            have hres := Hc.out.res
            obtain ⟨d0, d1, d2, d3, d4, d5⟩ := cells6 hres
            have f0 := Go.Frame.free hres 0
            have f1 := Go.Frame.free hres 1
            have f2 := Go.Frame.free hres 2
            have f3 := Go.Frame.free hres 3
            have f4 := Go.Frame.free hres 4
            have f5 := Go.Frame.free hres 5
            clear hres
            go_wp2
            have zz := six_set (y0 := .int .i64 2) (y1 := .int .u64 0) (y2 := .int .u64 0) (y3 := .int .u64 0) (y4 := .int .u64 0) (y5 := .slice none 0 0) Hc.out.res
            obtain ⟨r0, r1, r2, r3, r4, r5⟩ := cells6 zz
            refine bodyPost_ret (v := .agg #[.int .i64 2, .int .u64 0, .int .u64 0, .int .u64 0, .int .u64 0, .slice none 0 0]) ?_ rfl ?_
            · simp [results, Tryd.results55, go_sem, r0, r1, r2, r3, r4, r5]
            · have kk1 := pk_six (x0 := .int .i64 2) (x1 := .int .u64 0) (x2 := .int .u64 0) (x3 := .int .u64 0) (x4 := .int .u64 0) (x5 := .slice none 0 0) Hc.out.pk
              have kk2 := Hc.out.rs.six (B := w.heap.size) (x0 := .int .i64 2) (x1 := .int .u64 0) (x2 := .int .u64 0) (x3 := .int .u64 0) (x4 := .int .u64 0) (x5 := .slice none 0 0) (by have := Hc.out.h2; omega)
              exact ⟨kk1, _, _, rfl, (RC_mk.2 ⟨none, 0, 0, (ezrcs _ _).symm, rfl, by decide, .inl rfl⟩ : RC _ _ eps [.int .i64 2, .int .u64 0, .int .u64 0, .int .u64 0, .int .u64 0, .slice none 0 0]), by rw [HF.out]; exact ⟨rfl, kk2⟩⟩
          | [x], Hc, HF, HKd, HL =>
            obtain ⟨b, off, k2, S2, l2, a2, n2, c2, rfl, hgb, hbl, hx, hk2, q0, q1, q2, q3, q4, q5⟩ := HKd.out.get (i := 0) (by simp)
            simp only [Nat.zero_mul, Nat.add_zero] at q0 q1 q2 q3 q4 q5
            have hxx : x = .mk k2 S2 l2 := by simpa using hx
            subst hxx
            have H9 := hid hk2
            clear hx hk2
            have hres := Hc.out.res
            obtain ⟨d0, d1, d2, d3, d4, d5⟩ := cells6 hres
            have f0 := Go.Frame.free hres 0
            have f1 := Go.Frame.free hres 1
            have f2 := Go.Frame.free hres 2
            have f3 := Go.Frame.free hres 3
            have f4 := Go.Frame.free hres 4
            have f5 := Go.Frame.free hres 5
            clear hres
            go_wp2
            have zz := six_set (y0 := .int .i64 k2) (y1 := .int .u64 (ws S2 0 : Int)) (y2 := .int .u64 (ws S2 1 : Int)) (y3 := .int .u64 (ws S2 2 : Int)) (y4 := .int .u64 (ws S2 3 : Int)) (y5 := .slice a2 n2 c2) Hc.out.res
            obtain ⟨r0, r1, r2, r3, r4, r5⟩ := cells6 zz
            refine bodyPost_ret (v := .agg #[.int .i64 k2, .int .u64 (ws S2 0 : Int), .int .u64 (ws S2 1 : Int), .int .u64 (ws S2 2 : Int), .int .u64 (ws S2 3 : Int), .slice a2 n2 c2]) ?_ rfl ?_
            · simp [results, Tryd.results55, go_sem, r0, r1, r2, r3, r4, r5]
            · have kk1 := pk_six (x0 := .int .i64 k2) (x1 := .int .u64 (ws S2 0 : Int)) (x2 := .int .u64 (ws S2 1 : Int)) (x3 := .int .u64 (ws S2 2 : Int)) (x4 := .int .u64 (ws S2 3 : Int)) (x5 := .slice a2 n2 c2) Hc.out.pk
              have kk2 := Hc.out.rs.six (B := w.heap.size) (x0 := .int .i64 k2) (x1 := .int .u64 (ws S2 0 : Int)) (x2 := .int .u64 (ws S2 1 : Int)) (x3 := .int .u64 (ws S2 2 : Int)) (x4 := .int .u64 (ws S2 3 : Int)) (x5 := .slice a2 n2 c2) (by have := Hc.out.h2; omega)
              exact ⟨kk1, _, _, rfl, (RC_mk.2 ⟨a2, n2, c2, rfl, (kd_six H9.out fun b hb => by have h1 : w.heap.size + 1 ≤ b := hb; omega).more fun b hb => by have h1 : w.heap.size + 1 ≤ b := hb; show w.heap.size ≤ b; omega⟩ : RC _ _ (.mk k2 S2 l2) (rcs k2 S2 (.slice a2 n2 c2))), by rw [HF.out]; exact ⟨rfl, kk2⟩⟩
          | x :: y :: acc', Hc, HF, HKd, HL =>
            obtain ⟨nn, hnn⟩ : ∃ nn, nn = (x :: y :: acc').length := ⟨_, rfl⟩
            have hn2 : ((nn : Int) == 0) = false ∧ ((nn : Int) == 1) = false ∧ ¬ nn = 0 ∧ ¬ nn = 1 := by rw [hnn]; simp; omega
            obtain ⟨e1, e2, e3, e4⟩ := hn2
            have HK9 := hid (show Kd (ge (w.heap.size + 1)) _ a9 nn _ from hnn ▸ HKd.out)
            rw [← hnn]
            clear hnn HKd
            have hres := Hc.out.res
            obtain ⟨d0, d1, d2, d3, d4, d5⟩ := cells6 hres
            have f0 := Go.Frame.free hres 0
            have f1 := Go.Frame.free hres 1
            have f2 := Go.Frame.free hres 2
            have f3 := Go.Frame.free hres 3
            have f4 := Go.Frame.free hres 4
            have f5 := Go.Frame.free hres 5
            clear hres
            go_wp2
            have zz := six_set (y0 := .int .i64 4) (y1 := .int .u64 0) (y2 := .int .u64 0) (y3 := .int .u64 0) (y4 := .int .u64 0) (y5 := .slice a9 nn c9) Hc.out.res
            obtain ⟨r0, r1, r2, r3, r4, r5⟩ := cells6 zz
            refine bodyPost_ret (v := .agg #[.int .i64 4, .int .u64 0, .int .u64 0, .int .u64 0, .int .u64 0, .slice a9 nn c9]) ?_ rfl ?_
            · simp [results, Tryd.results55, go_sem, r0, r1, r2, r3, r4, r5]
            · have kk1 := pk_six (x0 := .int .i64 4) (x1 := .int .u64 0) (x2 := .int .u64 0) (x3 := .int .u64 0) (x4 := .int .u64 0) (x5 := .slice a9 nn c9) Hc.out.pk
              have kk2 := Hc.out.rs.six (B := w.heap.size) (x0 := .int .i64 4) (x1 := .int .u64 0) (x2 := .int .u64 0) (x3 := .int .u64 0) (x4 := .int .u64 0) (x5 := .slice a9 nn c9) (by have := Hc.out.h2; omega)
              exact ⟨kk1, _, _, rfl, (RC_mk.2 ⟨a9, nn, c9, (ezrcs _ _).symm, (kd_six HK9.out fun b hb => by have h1 : w.heap.size + 1 ≤ b := hb; omega).more fun b hb => by have h1 : w.heap.size + 1 ≤ b := hb; show w.heap.size ≤ b; omega⟩ : RC _ _ (.mk 4 none8 (x :: y :: acc')) [.int .i64 4, .int .u64 0, .int .u64 0, .int .u64 0, .int .u64 0, .slice a9 nn c9]), by rw [HF.out]; exact ⟨rfl, kk2⟩⟩
        · have m2 : (nx (b :: v) != 124) = true := by simp [nx, bne]; intro e; exact h124 (UInt8.toNat_inj.1 (show b.toNat = 124 by omega))
          by_cases h41 : b = 41
          · subst h41
            have HF := hid (show R = .ok (br acc) (41 :: v) from by
              obtain ⟨-, m, h1, h2, -⟩ := at7_ok.1 HT.out
              obtain ⟨m, rfl⟩ : ∃ q, m = q + 1 := ⟨m - 1, by omega⟩
              rw [h1, pReps, if_pos (show stop _ = true from rfl)]; rfl)
            have m3 : (nx (41 :: v) != 41) = false := rfl
            clear h124
            go_wp2_with fail
            refine (next_any pb s _ _ false HX.out.rs).mono ?_
            rintro e Wa ⟨rfl, ba⟩
            have Ha := hid (HX.out.bel ba)
            clear ba
            obtain ⟨z0, z1, z2⟩ := Ha.out.rs.cells
            go_wp2_with fail
            refine (next_any pb s _ _ false Ha.out.rs).mono ?_
            rintro e Wc ⟨rfl, bc⟩
            have Hc := hid (Ha.out.bel bc)
            clear bc
            obtain ⟨z0, z1, z2⟩ := Hc.out.rs.cells
            go_wp2_with fail
            refine (next_any pb s _ _ false Hc.out.rs).mono ?_
            rintro e Wd ⟨rfl, bd⟩
            have Hd := hid (Hc.out.bel bd)
            clear bd
            obtain ⟨z0, z1, z2⟩ := Hd.out.rs.cells
            obtain ⟨a9, c9, rfl, hKd⟩ := Hd.out.ox.kd (by have := HL.out.1; omega)
            have HKd := hid hKd
            clear hKd
            match acc, Hd, HF, HKd, HL with
            | [], Hd, HF, HKd, HL =>
              have hres := Hd.out.res
              obtain ⟨d0, d1, d2, d3, d4, d5⟩ := cells6 hres
              have f0 := Go.Frame.free hres 0
              have f1 := Go.Frame.free hres 1
              have f2 := Go.Frame.free hres 2
              have f3 := Go.Frame.free hres 3
              have f4 := Go.Frame.free hres 4
              have f5 := Go.Frame.free hres 5
              clear hres
              go_wp2
              have zz := six_set (y0 := .int .i64 2) (y1 := .int .u64 0) (y2 := .int .u64 0) (y3 := .int .u64 0) (y4 := .int .u64 0) (y5 := .slice none 0 0) Hd.out.res
              obtain ⟨r0, r1, r2, r3, r4, r5⟩ := cells6 zz
              refine bodyPost_ret (v := .agg #[.int .i64 2, .int .u64 0, .int .u64 0, .int .u64 0, .int .u64 0, .slice none 0 0]) ?_ rfl ?_
              · simp [results, Tryd.results55, go_sem, r0, r1, r2, r3, r4, r5]
              · have kk1 := pk_six (x0 := .int .i64 2) (x1 := .int .u64 0) (x2 := .int .u64 0) (x3 := .int .u64 0) (x4 := .int .u64 0) (x5 := .slice none 0 0) Hd.out.pk
                have kk2 := Hd.out.rs.six (B := w.heap.size) (x0 := .int .i64 2) (x1 := .int .u64 0) (x2 := .int .u64 0) (x3 := .int .u64 0) (x4 := .int .u64 0) (x5 := .slice none 0 0) (by have := Hd.out.h2; omega)
                exact ⟨kk1, _, _, rfl, (RC_mk.2 ⟨none, 0, 0, (ezrcs _ _).symm, rfl, by decide, .inl rfl⟩ : RC _ _ eps [.int .i64 2, .int .u64 0, .int .u64 0, .int .u64 0, .int .u64 0, .slice none 0 0]), by rw [HF.out]; exact ⟨rfl, kk2⟩⟩
            | [x], Hd, HF, HKd, HL =>
              obtain ⟨b, off, k2, S2, l2, a2, n2, c2, rfl, hgb, hbl, hx, hk2, q0, q1, q2, q3, q4, q5⟩ := HKd.out.get (i := 0) (by simp)
              simp only [Nat.zero_mul, Nat.add_zero] at q0 q1 q2 q3 q4 q5
              have hxx : x = .mk k2 S2 l2 := by simpa using hx
              subst hxx
              have H9 := hid hk2
              clear hx hk2
              have hres := Hd.out.res
              obtain ⟨d0, d1, d2, d3, d4, d5⟩ := cells6 hres
              have f0 := Go.Frame.free hres 0
              have f1 := Go.Frame.free hres 1
              have f2 := Go.Frame.free hres 2
              have f3 := Go.Frame.free hres 3
              have f4 := Go.Frame.free hres 4
              have f5 := Go.Frame.free hres 5
              clear hres
              go_wp2
              have zz := six_set (y0 := .int .i64 k2) (y1 := .int .u64 (ws S2 0 : Int)) (y2 := .int .u64 (ws S2 1 : Int)) (y3 := .int .u64 (ws S2 2 : Int)) (y4 := .int .u64 (ws S2 3 : Int)) (y5 := .slice a2 n2 c2) Hd.out.res
              obtain ⟨r0, r1, r2, r3, r4, r5⟩ := cells6 zz
              refine bodyPost_ret (v := .agg #[.int .i64 k2, .int .u64 (ws S2 0 : Int), .int .u64 (ws S2 1 : Int), .int .u64 (ws S2 2 : Int), .int .u64 (ws S2 3 : Int), .slice a2 n2 c2]) ?_ rfl ?_
              · simp [results, Tryd.results55, go_sem, r0, r1, r2, r3, r4, r5]
              · have kk1 := pk_six (x0 := .int .i64 k2) (x1 := .int .u64 (ws S2 0 : Int)) (x2 := .int .u64 (ws S2 1 : Int)) (x3 := .int .u64 (ws S2 2 : Int)) (x4 := .int .u64 (ws S2 3 : Int)) (x5 := .slice a2 n2 c2) Hd.out.pk
                have kk2 := Hd.out.rs.six (B := w.heap.size) (x0 := .int .i64 k2) (x1 := .int .u64 (ws S2 0 : Int)) (x2 := .int .u64 (ws S2 1 : Int)) (x3 := .int .u64 (ws S2 2 : Int)) (x4 := .int .u64 (ws S2 3 : Int)) (x5 := .slice a2 n2 c2) (by have := Hd.out.h2; omega)
                exact ⟨kk1, _, _, rfl, (RC_mk.2 ⟨a2, n2, c2, rfl, (kd_six H9.out fun b hb => by have h1 : w.heap.size + 1 ≤ b := hb; omega).more fun b hb => by have h1 : w.heap.size + 1 ≤ b := hb; show w.heap.size ≤ b; omega⟩ : RC _ _ (.mk k2 S2 l2) (rcs k2 S2 (.slice a2 n2 c2))), by rw [HF.out]; exact ⟨rfl, kk2⟩⟩
            | x :: y :: acc', Hd, HF, HKd, HL =>
              obtain ⟨nn, hnn⟩ : ∃ nn, nn = (x :: y :: acc').length := ⟨_, rfl⟩
              have hn2 : ((nn : Int) == 0) = false ∧ ((nn : Int) == 1) = false ∧ ¬ nn = 0 ∧ ¬ nn = 1 := by rw [hnn]; simp; omega
              obtain ⟨e1, e2, e3, e4⟩ := hn2
              have HK9 := hid (show Kd (ge (w.heap.size + 1)) _ a9 nn _ from hnn ▸ HKd.out)
              rw [← hnn]
              clear hnn HKd
              have hres := Hd.out.res
              obtain ⟨d0, d1, d2, d3, d4, d5⟩ := cells6 hres
              have f0 := Go.Frame.free hres 0
              have f1 := Go.Frame.free hres 1
              have f2 := Go.Frame.free hres 2
              have f3 := Go.Frame.free hres 3
              have f4 := Go.Frame.free hres 4
              have f5 := Go.Frame.free hres 5
              clear hres
              go_wp2
              have zz := six_set (y0 := .int .i64 4) (y1 := .int .u64 0) (y2 := .int .u64 0) (y3 := .int .u64 0) (y4 := .int .u64 0) (y5 := .slice a9 nn c9) Hd.out.res
              obtain ⟨r0, r1, r2, r3, r4, r5⟩ := cells6 zz
              refine bodyPost_ret (v := .agg #[.int .i64 4, .int .u64 0, .int .u64 0, .int .u64 0, .int .u64 0, .slice a9 nn c9]) ?_ rfl ?_
              · simp [results, Tryd.results55, go_sem, r0, r1, r2, r3, r4, r5]
              · have kk1 := pk_six (x0 := .int .i64 4) (x1 := .int .u64 0) (x2 := .int .u64 0) (x3 := .int .u64 0) (x4 := .int .u64 0) (x5 := .slice a9 nn c9) Hd.out.pk
                have kk2 := Hd.out.rs.six (B := w.heap.size) (x0 := .int .i64 4) (x1 := .int .u64 0) (x2 := .int .u64 0) (x3 := .int .u64 0) (x4 := .int .u64 0) (x5 := .slice a9 nn c9) (by have := Hd.out.h2; omega)
                exact ⟨kk1, _, _, rfl, (RC_mk.2 ⟨a9, nn, c9, (ezrcs _ _).symm, (kd_six HK9.out fun b hb => by have h1 : w.heap.size + 1 ≤ b := hb; omega).more fun b hb => by have h1 : w.heap.size + 1 ≤ b := hb; show w.heap.size ≤ b; omega⟩ : RC _ _ (.mk 4 none8 (x :: y :: acc')) [.int .i64 4, .int .u64 0, .int .u64 0, .int .u64 0, .int .u64 0, .slice a9 nn c9]), by rw [HF.out]; exact ⟨rfl, kk2⟩⟩
          · have m3 : (nx (b :: v) != 41) = true := by simp [nx, bne]; intro e; exact h41 (UInt8.toNat_inj.1 (show b.toNat = 41 by omega))
            have hst : ¬ stop (b :: v) = true := by simp [stop, h124, h41]
            have HST := hid hst
            clear hst h124 h41
            go_wp2_with fail
            refine (next_any pb s _ _ false HX.out.rs).mono ?_
            rintro e Wa ⟨rfl, ba⟩
            have Ha := hid (HX.out.bel ba)
            clear ba
            obtain ⟨z0, z1, z2⟩ := Ha.out.rs.cells
            go_wp2_with fail
            refine (next_any pb s _ _ false Ha.out.rs).mono ?_
            rintro e Wc ⟨rfl, bc⟩
            have Hc := hid (Ha.out.bel bc)
            clear bc
            obtain ⟨z0, z1, z2⟩ := Hc.out.rs.cells
            go_wp2_with fail
            refine (next_any pb s _ _ false Hc.out.rs).mono ?_
            rintro e Wd ⟨rfl, bd⟩
            have Hd := hid (Hc.out.bel bd)
            clear bd
            obtain ⟨z0, z1, z2⟩ := Hd.out.rs.cells
            obtain ⟨m, hmm⟩ : ∃ m, R = brP (pReps (m + 1) acc (b :: v)) ∧ 4 * (b :: v).length + 3 ≤ m + 1 ∧ m + 1 ≤ gk ∧ m + 1 ≤ N ∧ acc.length + (b :: v).length ≤ L := by
              obtain ⟨-, m, h1, h2, h3, h4, h5⟩ := at7_ok.1 HT.out
              obtain ⟨m, rfl⟩ : ∃ q, m = q + 1 := ⟨m - 1, by omega⟩
              exact ⟨m, h1, h2, h3, h4, h5⟩
            have HM := hid hmm
            clear hmm
            have CR := hid (IH'.out m (by have := HM.out.2.2.2.1; omega) Wd (b :: v) Hd.out.rs (by have := HM.out.2.1; omega))
            have HL9 := hid (show acc.length + 1 ≤ 2000000 by have := HL0.out; have := HM.out.2.2.2.2; simp at this; omega)
            clear z0 z1 z2
            go_wp2_with fail
            refine CR.out.mono ?_
            rintro e Wr9 ⟨hpk, x', cs, rfl, hrc, hm⟩
            obtain ⟨k2, S2, l2⟩ := x'
            obtain ⟨a2, n2, c2, rfl, hKd⟩ := RC_mk.1 hrc
            rw [rcs_arr2]
            obtain ⟨bad2, t2, hR2, hat2⟩ : ∃ bad2 t2, RS pb s Wr9 t2 bad2 ∧ At7 R bad2 (acc ++ [.mk k2 S2 l2]) t2 (gk - 1) N L := by
              obtain ⟨h1, h2, h3, h4, h5⟩ := HM.out
              rw [pReps, if_neg HST.out] at h1
              cases hr : pRepeat m (b :: v) with
              | bad u =>
                rw [hr] at hm h1
                exact ⟨true, u, hm, at7_bad.2 ⟨by simp at h5 ⊢; omega, h1⟩⟩
              | ok x u =>
                rw [hr] at hm h1
                have hlu := (p_len m).2.1 hr
                exact ⟨false, u, hm.2, at7_ok.2 ⟨by simp at h5 ⊢; omega, m, by rw [hm.1]; exact h1, by omega, by omega, by omega, by simp at h5 hlu ⊢; omega⟩⟩
            have HN := hid (And.intro (Hd.out.pkk hpk hR2) hat2)
            clear hR2 hat2
            obtain ⟨vs, ho, hall⟩ := HN.out.1.ox
            obtain ⟨aa, cc, rfl⟩ := own_form ho
            have HRC := hid hrc
            have HO := hid (And.intro ho hall)
            clear hpk hrc hKd hm ho hall
            go_wp2_with (at_builtin; refine wpList_append_lies _ rfl (.tmp 24) (.tmp 27) 25 rfl (w.heap.size + 1) 27 i0 _ 6 64 Tryd.underlying25 hi hz0 hz1 hz2 rfl (by decide) _ _ _ rfl (own_alloc HO.out.1 _) ⟨Wr9.heap.size, 0, none⟩ 1 1 (rcs k2 S2 (.slice a2 n2 c2)) rfl rfl (World.news_of_block (alloc_new _ _)) ?c2 (by decide) ?c3 ?c4 ?c5 _ rfl ?_)
            case c2 => intro u hu; simp [rcs] at hu; rcases hu with rfl | rfl | rfl | rfl | rfl | rfl <;> rfl
            case c3 => have := HL9.out; unfold maxLen; omega
            case c4 => have := HL9.out; omega
            case c5 => have := HN.out.1.h3; first | exact this | (simp; omega) | omega
            intro g cap w2 hown' hgrow hat _
            have hE := EB.snoc (cs := rcs k2 S2 (.slice a2 n2 c2)) Hd.out.ox Hd.out.h3 HN.out.1 HRC.out HO.out.1 HO.out.2 hown' hgrow (hat.imp id (fun e => by rw [e, size_alloc]; exact Nat.le_refl _))
            have HE := hid hE
            clear hE hown' hgrow hat
            go_wp2
            go_roundg (gk - 1)
            case measure => have := HM.out.2.2.1; omega
            case rel => exact ⟨bad2, _, t2, HE.out, HN.out.2⟩
end Go.Proofs.YtednoideboeehaaDoor
end
section
set_option linter.unusedSimpArgs false
set_option linter.unusedVariables false
namespace Go.Proofs.YtednoideboeehaaDoor
open Go.RowKit Bs Rg Go.Frame
attribute [local go_sem] eq_zero eq_set

set_option maxRecDepth 100000 in
set_option maxHeartbeats 4000000 in
theorem rregex_any (N : Nat) (pb : Nat) (s : ByteArray) (IH : ∀ n, n < N → ∀ (V : World) (l : List UInt8), RS pb s V l false → 4 * l.length + 3 ≤ n → Calls Tryd.prog 55 #[.pointer (some ⟨pb, 0, none⟩)] V (AO pb s (brP (pReps n [] l)) V)) (w : World) (l : List UInt8) (h : RS pb s w l false) (hn : 4 * l.length + 4 ≤ N) :
    Calls Tryd.prog 35 #[.pointer (some ⟨pb, 0, none⟩)] w (AO pb s (pRegex N l) w) := by
  have hpb := hid (heap_lt h.box)
  obtain ⟨N, rfl⟩ : ∃ M, N = M + 1 := ⟨N - 1, by omega⟩
  obtain ⟨i0, hi, hz0, hz1, hz2⟩ := info_parts Tryd.info27
  obtain ⟨R, hR⟩ : ∃ R, R = pRegex (N + 1) l := ⟨_, rfl⟩
  rw [← hR]
  obtain ⟨L, hL⟩ : ∃ L, L = l.length := ⟨_, rfl⟩
  have HL0 := hid (show L ≤ 1000000 by have := h.sz; have := h.le; omega)
  obtain ⟨W0, hW0⟩ : ∃ W0, W0 = w.alloc (.cells #[.int .i64 0, .int .u64 0, .int .u64 0, .int .u64 0, .int .u64 0, .slice none 0 0] 27) := ⟨_, rfl⟩
  have H0 := hid (show W0.heap[w.heap.size]? = some (.cells #[.int .i64 0, .int .u64 0, .int .u64 0, .int .u64 0, .int .u64 0, .slice none 0 0] 27 (0, 0)) ∧ Pk pb w W0 ∧ RS pb s W0 l false ∧ W0.heap.size = w.heap.size + 1 from by
    have hb : Below w.heap.size w W0 := by rw [hW0]; exact bel1 _ _
    exact ⟨by rw [hW0]; exact alloc_new _ _, Pk.of hb, h.below hb, by rw [hW0]; simp⟩)
  have CB := hid (IH N (by omega) W0 l H0.out.2.2.1 (by omega))
  have IH' := hid IH
  have HRR := hid (And.intro hR (And.intro hL hn))
  clear IH h hR hL hn
  go_enter Tryd.func35, Tryd.ntmps35
  go_wp2_with fail
  rw [← hW0]
  clear hW0
  refine CB.out.mono ?_
  rintro e W1 ⟨hpk, x', cs, rfl, hrc, hm⟩
  obtain ⟨k1, S1, l1⟩ := x'
  obtain ⟨a1, n1, c1, rfl, hKd⟩ := RC_mk.1 hrc
  rw [rcs_arr2]
  obtain ⟨bad, t1, hR1, hat⟩ : ∃ bad t1, RS pb s W1 t1 bad ∧ At8 R bad [.mk k1 S1 l1] t1 N N L := by
    obtain ⟨h1, h2, h3⟩ := HRR.out
    rw [pRegex] at h1
    cases hr : pReps N [] l with
    | bad t => rw [hr] at hm h1; exact ⟨true, t, hm, at8_bad.2 ⟨by simp, h1⟩⟩
    | ok xs t =>
      rw [hr] at hm h1
      have hlt := (p_len N).2.2.1 hr
      exact ⟨false, t, hm.2, at8_ok.2 ⟨by simp, N, by rw [hm.1]; exact h1, by omega, Nat.le_refl _, Nat.le_refl _, by simp; omega⟩⟩
  obtain ⟨W2, hW2⟩ : ∃ V, V = W1.alloc (.cells #[.int .i64 k1, .int .u64 (ws S1 0 : Int), .int .u64 (ws S1 1 : Int), .int .u64 (ws S1 2 : Int), .int .u64 (ws S1 3 : Int), .slice a1 n1 c1] 27) := ⟨_, rfl⟩
  have hbl : Below W1.heap.size W1 W2 := by rw [hW2]; exact bel1 _ _
  have hOX := OX.built (b := W1.heap.size) (base := w.heap.size + 1) (cs := rcs k1 S1 (.slice a1 n1 c1)) hrc (by have := H0.out.2.2.2; omega) (by have := hpk.size; have := H0.out.2.2.2; omega) rfl
  change OX _ (W1.alloc (.cells #[.int .i64 k1, .int .u64 (ws S1 0 : Int), .int .u64 (ws S1 1 : Int), .int .u64 (ws S1 2 : Int), .int .u64 (ws S1 3 : Int), .slice a1 n1 c1] 27)) _ _ at hOX
  rw [← hW2] at hOX
  have H2 := hid (show EB pb s w W2 (.slice (some ⟨W1.heap.size, 0, none⟩) 1 1) [.mk k1 S1 l1] t1 bad from
    ⟨((hpk.trans (Pk.of hbl)).block (by have := hpb.out; omega) (heap_lt H0.out.1)).trans H0.out.1, hOX, (H0.out.2.1.trans hpk).trans (Pk.of hbl), hR1.below hbl, hpb.out, by have := hpk.size; have := hbl.size; have := H0.out.2.2.2; omega⟩)
  have HA := hid hat
  clear hpk hrc hKd hm hR1 hat hbl hOX
  go_wp2_with fail
  rw [← hW2]
  clear hW2
  go_loopg [3] N (fun kk s3 wr => ∃ (bad : Bool) (acc : List Rx) (t : List UInt8), EB pb s w wr s3 acc t bad ∧ At8 R bad acc t kk N L ∧ acc ≠ [])
  case atStart => exact ⟨bad, [.mk k1 S1 l1], t1, H2.out, HA.out, by simp⟩
  case round =>
    obtain ⟨bad, acc, t, hE, hat, HNE⟩ := hrel
    have HX := hid hE
    have HT := hid hat
    have HL := hid (show acc.length ≤ 2000000 ∧ True from ⟨by have := hat.1; have := HL0.out; omega, trivial⟩)
    clear hE hat
    obtain ⟨z0, z1, z2⟩ := HX.out.rs.cells
    cases bad with
    | true =>
      have HF := hid (at8_bad.1 HT.out).2
      obtain ⟨a9, c9, rfl, hKd⟩ := HX.out.ox.kd (by have := HL.out.1; omega)
      have HKd := hid hKd
      clear hKd
      match acc, HNE, HX, HF, HKd, HL with
      | [x], _, HX, HF, HKd, HL =>
        obtain ⟨b, off, k2, S2, l2, a2, n2, c2, rfl, hgb, hbl, hx, hk2, q0, q1, q2, q3, q4, q5⟩ := HKd.out.get (i := 0) (by simp)
        simp only [Nat.zero_mul, Nat.add_zero] at q0 q1 q2 q3 q4 q5
        have hxx : x = .mk k2 S2 l2 := by simpa using hx
        subst hxx
        have H9 := hid hk2
        clear hx hk2
        have hres := HX.out.res
        obtain ⟨d0, d1, d2, d3, d4, d5⟩ := cells6 hres
        have f0 := Go.Frame.free hres 0
        have f1 := Go.Frame.free hres 1
        have f2 := Go.Frame.free hres 2
        have f3 := Go.Frame.free hres 3
        have f4 := Go.Frame.free hres 4
        have f5 := Go.Frame.free hres 5
        clear hres
        go_wp2
        have zz := six_set (y0 := .int .i64 k2) (y1 := .int .u64 (ws S2 0 : Int)) (y2 := .int .u64 (ws S2 1 : Int)) (y3 := .int .u64 (ws S2 2 : Int)) (y4 := .int .u64 (ws S2 3 : Int)) (y5 := .slice a2 n2 c2) HX.out.res
        obtain ⟨r0, r1, r2, r3, r4, r5⟩ := cells6 zz
        refine bodyPost_ret (v := .agg #[.int .i64 k2, .int .u64 (ws S2 0 : Int), .int .u64 (ws S2 1 : Int), .int .u64 (ws S2 2 : Int), .int .u64 (ws S2 3 : Int), .slice a2 n2 c2]) ?_ rfl ?_
        · simp [results, Tryd.results35, go_sem, r0, r1, r2, r3, r4, r5]
        · have kk1 := pk_six (x0 := .int .i64 k2) (x1 := .int .u64 (ws S2 0 : Int)) (x2 := .int .u64 (ws S2 1 : Int)) (x3 := .int .u64 (ws S2 2 : Int)) (x4 := .int .u64 (ws S2 3 : Int)) (x5 := .slice a2 n2 c2) HX.out.pk
          have kk2 := HX.out.rs.six (B := w.heap.size) (x0 := .int .i64 k2) (x1 := .int .u64 (ws S2 0 : Int)) (x2 := .int .u64 (ws S2 1 : Int)) (x3 := .int .u64 (ws S2 2 : Int)) (x4 := .int .u64 (ws S2 3 : Int)) (x5 := .slice a2 n2 c2) (by have := HX.out.h2; omega)
          exact ⟨kk1, _, _, rfl, (RC_mk.2 ⟨a2, n2, c2, rfl, (kd_six H9.out fun b hb => by have h1 : w.heap.size + 1 ≤ b := hb; omega).more fun b hb => by have h1 : w.heap.size + 1 ≤ b := hb; show w.heap.size ≤ b; omega⟩ : RC _ _ (.mk k2 S2 l2) (rcs k2 S2 (.slice a2 n2 c2))), by rw [HF.out]; exact kk2⟩
      | x :: y :: acc', _, HX, HF, HKd, HL =>
        obtain ⟨nn, hnn⟩ : ∃ nn, nn = (x :: y :: acc').length := ⟨_, rfl⟩
        have hn2 : ((nn : Int) == 0) = false ∧ ((nn : Int) == 1) = false ∧ ¬ nn = 0 ∧ ¬ nn = 1 := by rw [hnn]; simp; omega
        obtain ⟨e1, e2, e3, e4⟩ := hn2
        have HK9 := hid (show Kd (ge (w.heap.size + 1)) _ a9 nn _ from hnn ▸ HKd.out)
        rw [← hnn]
        clear hnn HKd
        have hres := HX.out.res
        obtain ⟨d0, d1, d2, d3, d4, d5⟩ := cells6 hres
        have f0 := Go.Frame.free hres 0
        have f1 := Go.Frame.free hres 1
        have f2 := Go.Frame.free hres 2
        have f3 := Go.Frame.free hres 3
        have f4 := Go.Frame.free hres 4
        have f5 := Go.Frame.free hres 5
        clear hres
        go_wp2
        have zz := six_set (y0 := .int .i64 5) (y1 := .int .u64 0) (y2 := .int .u64 0) (y3 := .int .u64 0) (y4 := .int .u64 0) (y5 := .slice a9 nn c9) HX.out.res
        obtain ⟨r0, r1, r2, r3, r4, r5⟩ := cells6 zz
        refine bodyPost_ret (v := .agg #[.int .i64 5, .int .u64 0, .int .u64 0, .int .u64 0, .int .u64 0, .slice a9 nn c9]) ?_ rfl ?_
        · simp [results, Tryd.results35, go_sem, r0, r1, r2, r3, r4, r5]
        · have kk1 := pk_six (x0 := .int .i64 5) (x1 := .int .u64 0) (x2 := .int .u64 0) (x3 := .int .u64 0) (x4 := .int .u64 0) (x5 := .slice a9 nn c9) HX.out.pk
          have kk2 := HX.out.rs.six (B := w.heap.size) (x0 := .int .i64 5) (x1 := .int .u64 0) (x2 := .int .u64 0) (x3 := .int .u64 0) (x4 := .int .u64 0) (x5 := .slice a9 nn c9) (by have := HX.out.h2; omega)
          exact ⟨kk1, _, _, rfl, (RC_mk.2 ⟨a9, nn, c9, (ezrcs _ _).symm, (kd_six HK9.out fun b hb => by have h1 : w.heap.size + 1 ≤ b := hb; omega).more fun b hb => by have h1 : w.heap.size + 1 ≤ b := hb; show w.heap.size ≤ b; omega⟩ : RC _ _ (.mk 5 none8 (x :: y :: acc')) [.int .i64 5, .int .u64 0, .int .u64 0, .int .u64 0, .int .u64 0, .slice a9 nn c9]), by rw [HF.out]; exact kk2⟩
    | false =>
      by_cases h124 : ∃ v, t = 124 :: v
      · obtain ⟨v, rfl⟩ := h124
        have m2 : (nx (124 :: v) == 124) = true := rfl
        go_wp2_with fail
        refine (next_any pb s _ _ false HX.out.rs).mono ?_
        rintro e Wa ⟨rfl, ba⟩
        have Ha := hid (HX.out.bel ba)
        clear ba
        obtain ⟨z0, z1, z2⟩ := Ha.out.rs.cells
        obtain ⟨m, hmm⟩ : ∃ m, R = pAlts (m + 1) acc (124 :: v) ∧ 4 * ((124 : UInt8) :: v).length + 1 ≤ m + 1 ∧ m + 1 ≤ gk ∧ m + 1 ≤ N ∧ acc.length + ((124 : UInt8) :: v).length ≤ L + 1 := by
          obtain ⟨-, m, h1, h2, h3, h4, h5⟩ := at8_ok.1 HT.out
          obtain ⟨m, rfl⟩ : ∃ q, m = q + 1 := ⟨m - 1, by omega⟩
          exact ⟨m, h1, h2, h3, h4, h5⟩
        have HM := hid hmm
        clear hmm z0 z1 z2
        have hnx := Ha.out.rs.next
        obtain ⟨z0, z1, z2⟩ := Ha.out.rs.cells
        have f1 := Go.Frame.free Ha.out.rs.box 1
        obtain ⟨p9, hp⟩ : ∃ p, p = s.size - ((124 : UInt8) :: v).length := ⟨_, rfl⟩
        obtain ⟨p8, hp'⟩ : ∃ p', p' = s.size - v.length := ⟨_, rfl⟩
        rw [← hp] at z1 hnx
        rw [← hp'] at hnx
        have HP2 := hid hp'
        have hpb'' : (p9 : Int) ≤ 1000000 := by have := Ha.out.rs.sz; omega
        clear hp hp'
        go_upto_region 4 with fail
        obtain ⟨V9, hV⟩ : ∃ V, V = Wa.setCell ⟨pb, 1, none⟩ (.int .i64 (p8 : Int)) := ⟨_, rfl⟩
        have HV := hid (show EB pb s w V9 u3 acc v false from by rw [hV, HP2.out]; exact Ha.out.step)
        rw [← hV]
        clear hV z0 z1 z2 f1 hnx hpb''
        have CR := hid (IH'.out m (by have := HM.out.2.2.2.1; omega) V9 v HV.out.rs (by have := HM.out.2.1; simp at this; omega))
        have HL9 := hid (show acc.length + 1 ≤ 2000000 by have := HL0.out; have := HM.out.2.2.2.2; simp at this; omega)
        go_wp2_with fail
        refine CR.out.mono ?_
        rintro e Wr9 ⟨hpk, x', cs, rfl, hrc, hm⟩
        obtain ⟨k2, S2, l2⟩ := x'
        obtain ⟨a2, n2, c2, rfl, hKd⟩ := RC_mk.1 hrc
        rw [rcs_arr2]
        obtain ⟨bad2, t2, hR2, hat2⟩ : ∃ bad2 t2, RS pb s Wr9 t2 bad2 ∧ At8 R bad2 (acc ++ [.mk k2 S2 l2]) t2 (gk - 1) N L := by
          obtain ⟨h1, h2, h3, h4, h5⟩ := HM.out
          rw [pAlts, skip_cons] at h1
          simp only at h1
          cases hr : pReps m [] v with
          | bad u =>
            rw [hr] at hm h1
            exact ⟨true, u, hm, at8_bad.2 ⟨by simp at h5 ⊢; omega, h1⟩⟩
          | ok x u =>
            rw [hr] at hm h1
            have hlu := (p_len m).2.2.1 hr
            exact ⟨false, u, hm.2, at8_ok.2 ⟨by simp at h5 ⊢; omega, m, by rw [hm.1]; exact h1, by simp at h2; omega, by omega, by omega, by simp at h5 ⊢; omega⟩⟩
        have HN := hid (And.intro (HV.out.pkk hpk hR2) hat2)
        clear hR2 hat2
        obtain ⟨vs, ho, hall⟩ := HN.out.1.ox
        obtain ⟨aa, cc, rfl⟩ := own_form ho
        have HRC := hid hrc
        have HO := hid (And.intro ho hall)
        clear hpk hrc hKd hm ho hall
        go_wp2_with (at_builtin; refine wpList_append_lies _ rfl (.tmp 24) (.tmp 27) 25 rfl (w.heap.size + 1) 27 i0 _ 6 64 Tryd.underlying25 hi hz0 hz1 hz2 rfl (by decide) _ _ _ rfl (own_alloc HO.out.1 _) ⟨Wr9.heap.size, 0, none⟩ 1 1 (rcs k2 S2 (.slice a2 n2 c2)) rfl rfl (World.news_of_block (alloc_new _ _)) ?c2 (by decide) ?c3 ?c4 ?c5 _ rfl ?_)
        case c2 => intro u hu; simp [rcs] at hu; rcases hu with rfl | rfl | rfl | rfl | rfl | rfl <;> rfl
        case c3 => have := HL9.out; unfold maxLen; omega
        case c4 => have := HL9.out; omega
        case c5 => have := HN.out.1.h3; first | exact this | (simp; omega) | omega
        intro g cap w2 hown' hgrow hat _
        have hE := EB.snoc (cs := rcs k2 S2 (.slice a2 n2 c2)) HV.out.ox HV.out.h3 HN.out.1 HRC.out HO.out.1 HO.out.2 hown' hgrow (hat.imp id (fun e => by rw [e, size_alloc]; exact Nat.le_refl _))
        have HE := hid hE
        clear hE hown' hgrow hat
        go_wp2
        go_roundg (gk - 1)
        case measure => have := HM.out.2.2.1; omega
        case rel => exact ⟨bad2, _, t2, HE.out, HN.out.2, by simp⟩
      · have HF := hid (show R = .ok (al acc) t from by
          obtain ⟨-, m, h1, h2, -⟩ := at8_ok.1 HT.out
          obtain ⟨m, rfl⟩ : ∃ q, m = q + 1 := ⟨m - 1, by omega⟩
          rw [h1, pAlts, skip_hd fun v hv => h124 ⟨v, hv⟩])
        have m2 : (nx t == 124) = false := nx_eq (b := 124) fun v hv => h124 ⟨v, hv⟩
        clear h124
        go_wp2_with fail
        refine (next_any pb s _ t false HX.out.rs).mono ?_
        rintro e Wa ⟨rfl, ba⟩
        have Ha := hid (HX.out.bel ba)
        clear ba
        obtain ⟨z0, z1, z2⟩ := Ha.out.rs.cells
        obtain ⟨a9, c9, rfl, hKd⟩ := Ha.out.ox.kd (by have := HL.out.1; omega)
        have HKd := hid hKd
        clear hKd
        match acc, HNE, Ha, HF, HKd, HL with
        | [x], _, Ha, HF, HKd, HL =>
          obtain ⟨b, off, k2, S2, l2, a2, n2, c2, rfl, hgb, hbl, hx, hk2, q0, q1, q2, q3, q4, q5⟩ := HKd.out.get (i := 0) (by simp)
          simp only [Nat.zero_mul, Nat.add_zero] at q0 q1 q2 q3 q4 q5
          have hxx : x = .mk k2 S2 l2 := by simpa using hx
          subst hxx
          have H9 := hid hk2
          clear hx hk2
          have hres := Ha.out.res
          obtain ⟨d0, d1, d2, d3, d4, d5⟩ := cells6 hres
          have f0 := Go.Frame.free hres 0
          have f1 := Go.Frame.free hres 1
          have f2 := Go.Frame.free hres 2
          have f3 := Go.Frame.free hres 3
          have f4 := Go.Frame.free hres 4
          have f5 := Go.Frame.free hres 5
          clear hres
          go_wp2
          have zz := six_set (y0 := .int .i64 k2) (y1 := .int .u64 (ws S2 0 : Int)) (y2 := .int .u64 (ws S2 1 : Int)) (y3 := .int .u64 (ws S2 2 : Int)) (y4 := .int .u64 (ws S2 3 : Int)) (y5 := .slice a2 n2 c2) Ha.out.res
          obtain ⟨r0, r1, r2, r3, r4, r5⟩ := cells6 zz
          refine bodyPost_ret (v := .agg #[.int .i64 k2, .int .u64 (ws S2 0 : Int), .int .u64 (ws S2 1 : Int), .int .u64 (ws S2 2 : Int), .int .u64 (ws S2 3 : Int), .slice a2 n2 c2]) ?_ rfl ?_
          · simp [results, Tryd.results35, go_sem, r0, r1, r2, r3, r4, r5]
          · have kk1 := pk_six (x0 := .int .i64 k2) (x1 := .int .u64 (ws S2 0 : Int)) (x2 := .int .u64 (ws S2 1 : Int)) (x3 := .int .u64 (ws S2 2 : Int)) (x4 := .int .u64 (ws S2 3 : Int)) (x5 := .slice a2 n2 c2) Ha.out.pk
            have kk2 := Ha.out.rs.six (B := w.heap.size) (x0 := .int .i64 k2) (x1 := .int .u64 (ws S2 0 : Int)) (x2 := .int .u64 (ws S2 1 : Int)) (x3 := .int .u64 (ws S2 2 : Int)) (x4 := .int .u64 (ws S2 3 : Int)) (x5 := .slice a2 n2 c2) (by have := Ha.out.h2; omega)
            exact ⟨kk1, _, _, rfl, (RC_mk.2 ⟨a2, n2, c2, rfl, (kd_six H9.out fun b hb => by have h1 : w.heap.size + 1 ≤ b := hb; omega).more fun b hb => by have h1 : w.heap.size + 1 ≤ b := hb; show w.heap.size ≤ b; omega⟩ : RC _ _ (.mk k2 S2 l2) (rcs k2 S2 (.slice a2 n2 c2))), by rw [HF.out]; exact ⟨rfl, kk2⟩⟩
        | x :: y :: acc', _, Ha, HF, HKd, HL =>
          obtain ⟨nn, hnn⟩ : ∃ nn, nn = (x :: y :: acc').length := ⟨_, rfl⟩
          have hn2 : ((nn : Int) == 0) = false ∧ ((nn : Int) == 1) = false ∧ ¬ nn = 0 ∧ ¬ nn = 1 := by rw [hnn]; simp; omega
          obtain ⟨e1, e2, e3, e4⟩ := hn2
          have HK9 := hid (show Kd (ge (w.heap.size + 1)) _ a9 nn _ from hnn ▸ HKd.out)
          rw [← hnn]
          clear hnn HKd
          have hres := Ha.out.res
          obtain ⟨d0, d1, d2, d3, d4, d5⟩ := cells6 hres
          have f0 := Go.Frame.free hres 0
          have f1 := Go.Frame.free hres 1
          have f2 := Go.Frame.free hres 2
          have f3 := Go.Frame.free hres 3
          have f4 := Go.Frame.free hres 4
          have f5 := Go.Frame.free hres 5
          clear hres
          go_wp2
          have zz := six_set (y0 := .int .i64 5) (y1 := .int .u64 0) (y2 := .int .u64 0) (y3 := .int .u64 0) (y4 := .int .u64 0) (y5 := .slice a9 nn c9) Ha.out.res
          obtain ⟨r0, r1, r2, r3, r4, r5⟩ := cells6 zz
          refine bodyPost_ret (v := .agg #[.int .i64 5, .int .u64 0, .int .u64 0, .int .u64 0, .int .u64 0, .slice a9 nn c9]) ?_ rfl ?_
          · simp [results, Tryd.results35, go_sem, r0, r1, r2, r3, r4, r5]
          · have kk1 := pk_six (x0 := .int .i64 5) (x1 := .int .u64 0) (x2 := .int .u64 0) (x3 := .int .u64 0) (x4 := .int .u64 0) (x5 := .slice a9 nn c9) Ha.out.pk
            have kk2 := Ha.out.rs.six (B := w.heap.size) (x0 := .int .i64 5) (x1 := .int .u64 0) (x2 := .int .u64 0) (x3 := .int .u64 0) (x4 := .int .u64 0) (x5 := .slice a9 nn c9) (by have := Ha.out.h2; omega)
            exact ⟨kk1, _, _, rfl, (RC_mk.2 ⟨a9, nn, c9, (ezrcs _ _).symm, (kd_six HK9.out fun b hb => by have h1 : w.heap.size + 1 ≤ b := hb; omega).more fun b hb => by have h1 : w.heap.size + 1 ≤ b := hb; show w.heap.size ≤ b; omega⟩ : RC _ _ (.mk 5 none8 (x :: y :: acc')) [.int .i64 5, .int .u64 0, .int .u64 0, .int .u64 0, .int .u64 0, .slice a9 nn c9]), by rw [HF.out]; exact ⟨rfl, kk2⟩⟩
theorem ratom_any2 (pb : Nat) (s : ByteArray) (n : Nat) (IH : ∀ (V : World) (l : List UInt8), RS pb s V l false → 4 * l.length + 4 ≤ n → Calls Tryd.prog 35 #[.pointer (some ⟨pb, 0, none⟩)] V (AO pb s (pRegex n l) V)) (w : World) (l : List UInt8) (h : RS pb s w l false) (hn : 4 * l.length + 1 ≤ n + 1) :
    Calls Tryd.prog 95 #[.pointer (some ⟨pb, 0, none⟩)] w (AO pb s (pAtom (n + 1) l) w) := by
  rw [pAtom]
  cases h40 : skip 40 l with
  | some t =>
    obtain rfl := skip_some h40
    have := atom_grp pb s w t (pRegex n t) (fun V hV => IH V t hV (by simp at hn; omega)) h
    unfold grpM at this
    exact this
  | none =>
    simp only
    unfold setM
    cases h91 : skip 91 l with
    | some t =>
      obtain rfl := skip_some h91
      simp only
      exact atom_brk pb s w t h
    | none =>
      simp only
      cases h46 : skip 46 l with
      | some t =>
        obtain rfl := skip_some h46
        exact atom_dot pb s w t h
      | none =>
        simp only
        have := atom_char pb s w l (skip_none h40) (skip_none h91) (skip_none h46) h
        cases hc : chr spO l with
        | bad t => rw [hc] at this; exact this
        | ok b t => rw [hc] at this; exact this
/-- The reference's descent, all of it. -/
theorem rdescent (pb : Nat) (s : ByteArray) (N : Nat) : (∀ (V : World) (l : List UInt8), RS pb s V l false → 4 * l.length + 1 ≤ N → Calls Tryd.prog 95 #[.pointer (some ⟨pb, 0, none⟩)] V (AO pb s (pAtom N l) V)) ∧
    (∀ (V : World) (l : List UInt8), RS pb s V l false → 4 * l.length + 2 ≤ N → Calls Tryd.prog 76 #[.pointer (some ⟨pb, 0, none⟩)] V (AO pb s (pRepeat N l) V)) ∧
    (∀ (V : World) (l : List UInt8), RS pb s V l false → 4 * l.length + 3 ≤ N → Calls Tryd.prog 55 #[.pointer (some ⟨pb, 0, none⟩)] V (AO pb s (brP (pReps N [] l)) V)) ∧
    (∀ (V : World) (l : List UInt8), RS pb s V l false → 4 * l.length + 4 ≤ N → Calls Tryd.prog 35 #[.pointer (some ⟨pb, 0, none⟩)] V (AO pb s (pRegex N l) V)) := by
  induction N using Nat.strongRecOn with
  | _ N ih =>
    refine ⟨fun V l h hn => ?_, fun V l h hn => ?_, fun V l h hn => ?_, fun V l h hn => ?_⟩
    · obtain ⟨n, rfl⟩ : ∃ n, N = n + 1 := ⟨N - 1, by omega⟩
      exact ratom_any2 pb s n (ih n (by omega)).2.2.2 V l h hn
    · obtain ⟨n, rfl⟩ : ∃ n, N = n + 1 := ⟨N - 1, by omega⟩
      have h1 := rrepeat_any pb s (pAtom n l) l (fun V' hV' => (ih n (by omega)).1 V' l hV' (by omega)) V h
      rw [pRepeat]
      cases hr : pAtom n l with
      | bad t => rw [hr] at h1; exact h1
      | ok x t => rw [hr] at h1; exact h1
    · exact rbranch_any N pb s (fun n hn => (ih n hn).2.1) V l h hn
    · exact rregex_any N pb s (fun n hn => (ih n hn).2.2.1) V l h hn
end Go.Proofs.YtednoideboeehaaDoor
end
