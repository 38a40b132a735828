/-
  BytesetAll, for every input: the law returns true and leaves its arguments as they read. No condition beside the listed variable's own text (the card ties it).
-/
import Derived.Test.YtnjlnldbfejjpaaDoorY
import Derived.Test.YtnjlnldbfejjpaaDoorQ
namespace Go.Proofs.YtnjlnldbfejjpaaDoor.bytesetAll
open Go.ChangeShapes Go.WideShapes Go.ChangeAt Go.RowKit Go.Frame
open Go.ChangeMaps (open_string shut_string)
open Bs
attribute [local irreducible] nb cnt pc els cf fs
attribute [local go_sem] eqIn eql_set neq_set
attribute [local go_sem] Oper.semAt_some
open Go.Shelf
theorem w64_small {i : Nat} (h : i < 256) : wrap64 (i : Int) = (i : Int) := by
  have e : IntKind.i64.wrap (i : Int) = (i : Int) := wrapIn (by omega) (by omega)
  rw [IntWalk.i64_left] at e
  exact e
theorem els_at (p : Nat → Bool) {i : Nat} {x : Fin 256} (h : (els p 256)[i]? = some x) : p x.1 = true := (els_mem (Nat.le_refl _) (List.mem_of_getElem? h)).2
theorem els_lt (p : Nat → Bool) {i : Nat} {x y : Fin 256} (h : (els p 256)[i]? = some x) (k : (els p 256)[i + 1]? = some y) : x.1 < y.1 := by
  have hs := els_sorted p 256 (Nat.le_refl _)
  rw [List.pairwise_iff_getElem] at hs
  obtain ⟨h1, h2⟩ := List.getElem?_eq_some_iff.1 h
  obtain ⟨k1, k2⟩ := List.getElem?_eq_some_iff.1 k
  have := hs i (i + 1) h1 k1 (by omega)
  rw [h2, k2] at this
  exact this
theorem row_at {W : World} {a : Option Addr} {L : Nat} {l : List (Fin 256)} (h : Row W a L (bys l)) {i : Nat} {x : Fin 256} (hi : l[i]? = some x) : ∃ b off, a = some ⟨b, off, none⟩ ∧ b < W.heap.size ∧ ∀ (j : Nat) (y : Fin 256), l[j]? = some y → W.cell? ⟨b, off + j, none⟩ = some (.int .u8 (y.1 : Int)) := by
  have hl := h.1
  rw [bys_length] at hl
  have := (List.getElem?_eq_some_iff.1 hi).1
  rcases h.2 with h0 | ⟨b, off, rfl, hb, hx⟩
  · omega
  · exact ⟨b, off, rfl, hb, fun j y hy => hx j _ (by unfold bys; rw [List.getElem?_map, hy]; rfl)⟩
set_option maxRecDepth 100000 in
set_option maxHeartbeats 4000000 in
theorem walk (p : Nat → Bool) (t : Nat) (w : World) (ht : t < 256) (hT : Tb w) :
    Calls Tryd.prog 5 #[sv p, .int .u8 (t : Int)] w fun e w' => e = .returned (.bool true) ∧ Below w.heap.size w w' := by
  obtain ⟨W, hW⟩ : ∃ W, W = ((w.alloc (.cells #[.int .u64 (wd (p) 0 : Int), .int .u64 (wd (p) 1 : Int), .int .u64 (wd (p) 2 : Int), .int .u64 (wd (p) 3 : Int)] 25)).alloc (.cells #[.int .u8 (t : Int)] 5)).alloc (.cells #[.bool false] 4) := ⟨_, rfl⟩
  have X := hid (by have := Go.Frame.three w (.cells #[.int .u64 (wd (p) 0 : Int), .int .u64 (wd (p) 1 : Int), .int .u64 (wd (p) 2 : Int), .int .u64 (wd (p) 3 : Int)] 25) (.cells #[.int .u8 (t : Int)] 5) (.cells #[.bool false] 4); rw [← hW] at this; exact this)
  have TW := hid (hT.below X.out.2.2.2.1)
  have T0 := hid hT
  clear hT
  have hl := cnt_le p 256
  have hll := els_length p 256
  obtain ⟨L, hL⟩ : ∃ L, L = cnt p 256 := ⟨_, rfl⟩
  rw [← hL] at hl hll
  have CE := hid (fun V (hV : Tb V) => show Calls Tryd.prog 24 #[.agg #[.int .u64 (wd (p) 0 : Int), .int .u64 (wd (p) 1 : Int), .int .u64 (wd (p) 2 : Int), .int .u64 (wd (p) 3 : Int)]] V fun e w' => (∃ a c, e = .returned (.tuple #[.slice a L c, .bool true]) ∧ Row w' a L (bys (els p 256))) ∧ Below V.heap.size V w' from by have := elements_any p V hV; unfold ElRes at this; rw [← hL] at this; exact this)
  have CL := hid (fun V => show Calls Tryd.prog 22 #[.agg #[.int .u64 (wd (p) 0 : Int), .int .u64 (wd (p) 1 : Int), .int .u64 (wd (p) 2 : Int), .int .u64 (wd (p) 3 : Int)]] V fun e w'' => e = .returned (.int .i64 (L : Int)) ∧ Below V.heap.size V w'' from by rw [hL]; exact Len_any p V)
  have CA := hid (fun V => show Calls Tryd.prog 25 #[.agg #[.int .u64 (wd (p) 0 : Int), .int .u64 (wd (p) 1 : Int), .int .u64 (wd (p) 2 : Int), .int .u64 (wd (p) 3 : Int)]] V fun e w' => e = .returned (.func (.func 33) #[] #[.pointer (some ⟨V.heap.size, 0, none⟩)]) ∧ w' = V.alloc (.cells #[.int .u64 (wd (p) 0 : Int), .int .u64 (wd (p) 1 : Int), .int .u64 (wd (p) 2 : Int), .int .u64 (wd (p) 3 : Int)] 25) from All_any p V)
  obtain ⟨i0, i1, i2, i3⟩ := cells4 X.out.1
  have LL := hid (And.intro hl hll)
  clear hL hl hll
  refine (callsIn_wide (n := 6)).1 ?_
  unfold sv
  refine callsIn_of_wp_marks Tryd.func5 rfl trivial ?_ rfl
  simp only [Tryd.ntmps5, List.size_toArray, List.length_cons, List.length_nil, Nat.reduceAdd, Nat.reduceSub, Array.replicate_succ, Array.replicate_zero, List.push_toArray, List.append_toArray, List.nil_append, List.cons_append]
  refine wpIn_wide.2 ?_
  go_wp2_with fail
  rw [← hW]
  clear hW
  refine (CE.out _ TW.out).mono ?_
  rintro e w1 ⟨⟨a, c, rfl, hrow⟩, b1⟩
  have E1 := hid b1
  have R1 := hid hrow
  clear b1 hrow i0 i1 i2 i3
  go_wp2_with fail
  obtain ⟨V, hV⟩ : ∃ V, V = w1.alloc (.cells #[.slice a L c] 34) := ⟨_, rfl⟩
  have SV := hid (show SB V w.heap.size p ∧ V.heap[w.heap.size + 1]? = some (.cells #[.int .u8 (t : Int)] 5 (0, 0)) ∧ V.heap[w.heap.size + 1 + 1]? = some (.cells #[.bool false] 4 (0, 0)) ∧ V.heap[w1.heap.size]? = some (.cells #[.slice a L c] 34 (0, 0)) ∧ Row V a L (bys (els p 256)) ∧ Below w.heap.size w V from by
    obtain ⟨x0, x1, x2, x3, x4⟩ := X.out
    have he := E1.out
    rw [hV]
    exact ⟨blk_alloc ((he.block _ (heap_lt x0)).trans x0), blk_alloc ((he.block _ (heap_lt x1)).trans x1), blk_alloc ((he.block _ (heap_lt x2)).trans x2), alloc_new _ _, R1.out.below ((Below.refl _ _).alloc (Nat.le_refl _) _), below_made (x3.trans (he.mono x3.size)) (Nat.le_trans x3.size he.size)⟩)
  have E2 := hid (show Below w1.heap.size w1 V from by rw [hV]; exact (Below.refl _ _).alloc (Nat.le_refl _) _)
  have K := hid (fun Z (hZ : Below V.heap.size V Z) => show SB Z w.heap.size p ∧ Z.heap[w.heap.size + 1]? = some (.cells #[.int .u8 (t : Int)] 5 (0, 0)) ∧ Z.heap[w.heap.size + 1 + 1]? = some (.cells #[.bool false] 4 (0, 0)) ∧ Z.heap[w1.heap.size]? = some (.cells #[.slice a L c] 34 (0, 0)) ∧ Row Z a L (bys (els p 256)) ∧ Below w.heap.size w Z from by
    obtain ⟨x0, x1, x2, x3, x4, x5⟩ := SV.out
    exact ⟨(hZ.block _ (heap_lt x0)).trans x0, (hZ.block _ (heap_lt x1)).trans x1, (hZ.block _ (heap_lt x2)).trans x2, (hZ.block _ (heap_lt x3)).trans x3, x4.below hZ, x5.trans (hZ.mono x5.size)⟩)
  rw [← hV]
  clear hV
  refine wp_region_below (by kernel_rfl) (by kernel_rfl) ?_
  intro X' f _ hf hs
  have k0 := fun x => (cells4 (K.out _ (hf.out x)).1).1
  have k1 := fun x => (cells4 (K.out _ (hf.out x)).1).2.1
  have k2 := fun x => (cells4 (K.out _ (hf.out x)).1).2.2.1
  have k3 := fun x => (cells4 (K.out _ (hf.out x)).1).2.2.2
  have k4 := fun x => cells1 (K.out _ (hf.out x)).2.2.2.1
  repeat (go_big_quiet_step (first | (go_at_call 22; with_reducible exact calls_below hf hs (CL.out _))))
  refine wpQuiet_nil ?_
  intro v2 h2
  have H2 := hid h2
  clear k0 k1 k2 k3 k4 hf hs h2
  go_wp2_with fail
  go_loopg [7] L (fun k s7 wr => ∃ i : Nat, s7 = .int .i64 i ∧ i + k = L ∧ Below V.heap.size V wr)
  case atStart => exact ⟨0, rfl, by omega, H2.out⟩
  case round =>
    obtain ⟨i, rfl, hk, hB⟩ := hrel
    have HB := hid hB
    clear hB
    by_cases hlt : i < L
    · have hlt' : (i : Int) < (L : Int) := by omega
      have hi0 : (0 : Int) ≤ (i : Int) := by omega
      obtain ⟨x, hx⟩ : ∃ x, (els p 256)[i]? = some x := ⟨(els p 256)[i]'(by have := LL.out.2; omega), List.getElem?_eq_getElem (by have := LL.out.2; omega)⟩
      obtain ⟨b, off, rfl, _⟩ := row_at SV.out.2.2.2.2.1 hx
      have KX := hid (fun Z (hZ : Below wr.heap.size wr Z) => show (∀ (j : Nat) (y : Fin 256), (els p 256)[j]? = some y → Z.cell? ⟨b, off + j, none⟩ = some (.int .u8 (y.1 : Int))) from by
        obtain ⟨b', off', he, _, hr⟩ := row_at (K.out _ (HB.out.trans (hZ.mono HB.out.size))).2.2.2.2.1 hx
        simp only [Option.some.injEq, Addr.mk.injEq] at he
        obtain ⟨rfl, rfl, _⟩ := he
        exact hr)
      have c4 := cells1 (K.out _ HB.out).2.2.2.1
      have CX := hid (fun Z => show Calls Tryd.prog 15 #[.agg #[.int .u64 (wd (p) 0 : Int), .int .u64 (wd (p) 1 : Int), .int .u64 (wd (p) 2 : Int), .int .u64 (wd (p) 3 : Int)], .int .u8 (x.1 : Int)] Z fun e w'' => e = .returned (.bool true) ∧ Below Z.heap.size Z w'' from by have := rHas_any p x.1 Z x.2; rw [els_at p hx] at this; exact this)
      have HL := hid hlt
      have l9 : (L : Int) ≤ 256 := by have := LL.out.1; omega
      clear hlt
      cases i with
      | zero =>
        go_wp2_with fail
        refine wp_region_below (by kernel_rfl) (by kernel_rfl) ?_
        intro X' f _ hf hs
        have k0 := fun x => (cells4 (K.out _ (HB.out.trans ((hf.out x).mono HB.out.size))).1).1
        have k1 := fun x => (cells4 (K.out _ (HB.out.trans ((hf.out x).mono HB.out.size))).1).2.1
        have k2 := fun x => (cells4 (K.out _ (HB.out.trans ((hf.out x).mono HB.out.size))).1).2.2.1
        have k3 := fun x => (cells4 (K.out _ (HB.out.trans ((hf.out x).mono HB.out.size))).1).2.2.2
        have k4 := fun x => cells1 (K.out _ (HB.out.trans ((hf.out x).mono HB.out.size))).2.2.2.1
        have k5 : ∀ z, (f z).cell? ⟨b, off, none⟩ = some (.int .u8 (x.1 : Int)) := fun z => KX.out _ (hf.out z) 0 x hx
        repeat (go_big_quiet_step (first | (go_at_call 15; with_reducible exact calls_below hf hs (CX.out _))))
        refine wpQuiet_nil ?_
        intro w' hw'
        have HW' := hid hw'
        clear k0 k1 k2 k3 k4 k5 hf hs hw'
        go_wp2
        go_roundg (gk - 1)
        case measure => have := HL.out; omega
        case rel => exact ⟨1, by go_num, by have := HL.out; omega, HB.out.trans (HW'.out.mono HB.out.size)⟩
      | succ i =>
        obtain ⟨y, hy⟩ : ∃ y, (els p 256)[i]? = some y := ⟨(els p 256)[i]'(by have := LL.out.2; have := HL.out; omega), List.getElem?_eq_getElem (by have := LL.out.2; have := HL.out; omega)⟩
        have hxy := els_lt p hy hx
        have n1 : ¬ (x.1 : Int) ≤ (y.1 : Int) := by omega
        have n1' : ¬ x.1 ≤ y.1 := by omega
        obtain ⟨xv, hxv⟩ : ∃ v : Nat, v = x.1 := ⟨_, rfl⟩
        obtain ⟨yv, hyv⟩ : ∃ v : Nat, v = y.1 := ⟨_, rfl⟩
        have i1 : (0 : Int) ≤ (i : Int) := by omega
        have i2 : (i : Int) < (L : Int) := by omega
        have i3 : (0 : Int) < ((i + 1 : Nat) : Int) := by omega
        rw [← hxv] at CX n1 n1'
        rw [← hyv] at n1 n1'
        have KX1 := hid (fun Z (hZ : Below wr.heap.size wr Z) => show Z.cell? ⟨b, off + (i + 1), none⟩ = some (.int .u8 (xv : Int)) from by rw [hxv]; exact KX.out _ hZ (i + 1) x hx)
        have KX2 := hid (fun Z (hZ : Below wr.heap.size wr Z) => show Z.cell? ⟨b, off + i, none⟩ = some (.int .u8 (yv : Int)) from by rw [hyv]; exact KX.out _ hZ i y hy)
        clear hxy hxv hyv hx hy
        have iL : i < 256 := by have := HL.out; have := LL.out.1; omega
        have e2 := w64_small iL
        clear iL
        go_wp2_with fail
        refine wp_region_below (by kernel_rfl) (by kernel_rfl) ?_
        intro X' f _ hf hs
        have k0 := fun x => (cells4 (K.out _ (HB.out.trans ((hf.out x).mono HB.out.size))).1).1
        have k1 := fun x => (cells4 (K.out _ (HB.out.trans ((hf.out x).mono HB.out.size))).1).2.1
        have k2 := fun x => (cells4 (K.out _ (HB.out.trans ((hf.out x).mono HB.out.size))).1).2.2.1
        have k3 := fun x => (cells4 (K.out _ (HB.out.trans ((hf.out x).mono HB.out.size))).1).2.2.2
        have k4 := fun x => cells1 (K.out _ (HB.out.trans ((hf.out x).mono HB.out.size))).2.2.2.1
        have k5 := fun z => KX1.out _ (hf.out z)
        have k6 := fun z => KX2.out _ (hf.out z)
        repeat (go_big_quiet_step (first | (go_at_call 15; with_reducible exact calls_below hf hs (CX.out _))))
        refine wpQuiet_nil ?_
        intro w' hw'
        have HW' := hid hw'
        clear k0 k1 k2 k3 k4 k5 k6 hf hs hw' e2
        go_wp2
        go_roundg (gk - 1)
        case measure => have := HL.out; omega
        case rel => exact ⟨i + 1 + 1, by go_num, by have := HL.out; omega, HB.out.trans (HW'.out.mono HB.out.size)⟩
    · have hin : ¬ (i : Int) < (L : Int) := by omega
      have i4 : i = L := by omega
      clear hlt
      have bN : Below V.heap.size V (wr.alloc (.cells #[.int .i64 0] 3)) := HB.out.alloc HB.out.size _
      obtain ⟨q0, q1, q2, q3⟩ := cells4 (K.out _ bN).1
      have c4 := cells1 (K.out _ HB.out).2.2.2.1
      go_wp2_with fail
      refine (CA.out _).mono ?_
      rintro e w5 ⟨rfl, rfl⟩
      go_wp2_with fail
      obtain ⟨Y, hY⟩ : ∃ Y, Y = ((wr.alloc (.cells #[.int .i64 0] 3)).alloc (.cells #[.int .u64 (wd (p) 0 : Int), .int .u64 (wd (p) 1 : Int), .int .u64 (wd (p) 2 : Int), .int .u64 (wd (p) 3 : Int)] 25)) := ⟨_, rfl⟩
      obtain ⟨y4, y5, bY, ysz⟩ := two wr (.cells #[.int .i64 0] 3) (.cells #[.int .u64 (wd (p) 0 : Int), .int .u64 (wd (p) 1 : Int), .int .u64 (wd (p) 2 : Int), .int .u64 (wd (p) 3 : Int)] 25)
      have hs1 : (wr.alloc (.cells #[.int .i64 0] 3)).heap.size = wr.heap.size + 1 := by simp
      try rw [hs1]
      rw [← hY] at y4 y5 bY ysz ⊢
      clear hY hs1 bN q0 q1 q2 q3 c4
      have B1w := hid (X.out.2.2.2.1.trans (E1.out.mono X.out.2.2.2.1.size))
      have hVw : Below w1.heap.size w1 V := E2.out
      have hB := HB.out
      have bYV := hB.trans (bY.mono hB.size)
      have bYw := hVw.trans (bYV.mono hVw.size)
      have y3 : Y.heap[w1.heap.size]? = some (.cells #[.slice a L c] 34 (0, 0)) := (K.out _ bYV).2.2.2.1
      have TY := hid (T0.out.below (B1w.out.trans (bYw.mono B1w.out.size)))
      have hw1 : w1.heap.size ≤ wr.heap.size := Nat.le_trans hVw.size hB.size
      have hw0 := B1w.out.size
      have t0 := T0.out.1
      have hwV : w1.heap.size < wr.heap.size := Nat.lt_of_lt_of_le (heap_lt SV.out.2.2.2.1) hB.size
      refine (wpIn_wide (n := 6)).1 ?_
      refine wpIn_rangeFunc_ownF (n := 6) rfl (by omega) (gf := 33) (lb := #[.pointer (some ⟨wr.heap.size + 1, 0, none⟩)]) rfl trivial (enters_of Tryd.func33 (by kernel_rfl) rfl)
        (all_stops 5 (wr.heap.size + 1) (by omega) Y p y5 TY.out) Zero.trans
        (fun X l o o' hl h _ _ => World.putObj_heap_other (by omega)) (Below.refl _ _) (fun _ => rfl)
        (fun pre W' => pre.length ≤ t ∧ (W'.heap[w1.heap.size]? = some (.cells #[.slice a L c] 34 (0, 0)) ∧ W'.heap[wr.heap.size]? = some (.cells #[.int .i64 ((pre.length : Nat) : Int)] 3 (0, 0)) ∧ Y.heap.size ≤ W'.heap.size ∧ Below w1.heap.size w1 W'))
        (fun cd pre W' => (cd = .ret ∧ ¬ pre <+: els p 256) ∨ (cd = .exit 2 ∧ pre.length = t + 1 ∧ (W'.heap[w1.heap.size]? = some (.cells #[.slice a L c] 34 (0, 0)) ∧ W'.heap[wr.heap.size]? = some (.cells #[.int .i64 ((pre.length : Nat) : Int)] 3 (0, 0)) ∧ Y.heap.size ≤ W'.heap.size ∧ Below w1.heap.size w1 W')))
        (fun s A B row hs hg hr => ⟨hs.1, own_block hs.2.1 hg (fun r e => (hr r e).2), own_block hs.2.2.1 hg (fun r e => (hr r e).2), Nat.le_trans hs.2.2.2.1 hg.size, hs.2.2.2.2.grown hg (by omega) (fun k e => by have := (hr k e).1; omega)⟩)
        (fun cd s A B row hs hg hr => hs.elim .inl fun hs => .inr ⟨hs.1, hs.2.1, own_block hs.2.2.1 hg (fun r e => (hr r e).2), own_block hs.2.2.2.1 hg (fun r e => (hr r e).2), Nat.le_trans hs.2.2.2.2.1 hg.size, hs.2.2.2.2.2.grown hg (by omega) (fun k e => by have := (hr k e).1; omega)⟩)
        ⟨Nat.zero_le _, y3, y4, Nat.le_refl _, bYw⟩
        (fun x => { tmps := #[.agg #[.int .u64 (wd (p) 0 : Int), .int .u64 (wd (p) 1 : Int), .int .u64 (wd (p) 2 : Int), .int .u64 (wd (p) 3 : Int)], .int .u8 (t : Int), .pointer (some ⟨w.heap.size, 0, none⟩), .pointer (some ⟨w.heap.size + 1, 0, none⟩), .pointer (some ⟨w.heap.size + 1 + 1, 0, none⟩), .pointer (some ⟨w1.heap.size, 0, none⟩), .bool true, .int .i64 (L : Int), .pointer (some ⟨wr.heap.size, 0, none⟩), .int .u8 (x.1 : Int), .tuple #[.slice a L c, .bool true], .agg #[.int .u64 (wd (p) 0 : Int), .int .u64 (wd (p) 1 : Int), .int .u64 (wd (p) 2 : Int), .int .u64 (wd (p) 3 : Int)], .tuple #[.slice a L c, .bool true], .slice a L c, .bool true, .bool true, .bool false, .bool false, .slice a L c, .int .i64 (L : Int), .agg #[.int .u64 (wd (p) 0 : Int), .int .u64 (wd (p) 1 : Int), .int .u64 (wd (p) 2 : Int), .int .u64 (wd (p) 3 : Int)], .int .i64 (L : Int), .bool false, .bool false, .int .i64 (L : Int), .slice a L c, .int .i64 (L : Int), .bool false, u28, u29, u30, u31, u32, u33, u34, u35, u36, u37, u38, u39, u40, u41, u42, u43, u44, u45, u46, u47, u48, u49, u50, u51, u52, .agg #[.int .u64 (wd (p) 0 : Int), .int .u64 (wd (p) 1 : Int), .int .u64 (wd (p) 2 : Int), .int .u64 (wd (p) 3 : Int)], .func (.func 33) #[] #[.pointer (some ⟨wr.heap.size + 1, 0, none⟩)], .int .u8 (x.1 : Int), undef, undef, undef, undef, undef, undef, undef, undef, undef, undef, undef, undef, undef, undef, undef, undef, undef, undef, undef, undef, undef, undef, undef, undef, undef, undef, undef, undef, undef], defers := [] }) ?assign ?body ?done ?stop
      case assign =>
        intro l x W K hK
        unfold encB
        gi_wp2
        exact hK
      case body =>
        rintro l pre x W' ⟨hle, g5, g8, gS, gB⟩ hpl
        obtain ⟨n, hn⟩ : ∃ n, n = pre.length := ⟨_, rfl⟩
        rw [← hn] at hle g8 hpl
        have c5 := cells1 g5
        have c8 := cells1 g8
        have f8 := free g8 0
        have hxl := x.2
        have hb1 := X.out.2.1
        have hb2 := X.out.2.2.1
        have up : ∀ b o, b < W.heap.size → W.heap[b]? = some o → W'.heap[b]? = some o := fun b o hb ho => (gB.block b (Nat.lt_of_lt_of_le hb E1.out.size)).trans ((E1.out.block b hb).trans ho)
        have z1 := up _ _ (heap_lt hb1) hb1
        have z2 := up _ _ (heap_lt hb2) hb2
        have k1 := cells1 z1
        have k2 := cells1 z2
        have f2 := free z2 0
        have hRW := R1.out.below gB
        have hwW := X.out.2.2.2.2
        have hE1 := E1.out.size
        obtain ⟨xv, hxv⟩ : ∃ v : Nat, v = x.1 := ⟨_, rfl⟩
        rw [← hxv] at hxl ⊢
        have e1 : IntKind.i64.wrap (t : Int) = (t : Int) := wrapIn (by omega) (by omega)
        have e2 : IntKind.i64.wrap ((n : Int) + 1) = (n : Int) + 1 := wrapIn (by omega) (by omega)
        have HH := hid (And.intro g5 (And.intro g8 (And.intro gS (And.intro gB (And.intro hn (And.intro hxv (And.intro hle (And.intro hwW hwV))))))))
        by_cases h1 : L ≤ n
        · have i1 : (L : Int) ≤ (n : Int) := by omega
          have HN := hid (show ¬ (pre ++ [x]) <+: els p 256 from fun h => by have := h.length_le; rw [List.length_append, ← hn] at this; have := LL.out.2; simp at *; omega)
          clear g5 g8 gS gB hn hxv hle hRW z1 z2 up hb1 hb2 hpl hwW
          gi_wp2
          exact ⟨KeepsOthers.setCell _ _ _, .inl ⟨rfl, HN.out⟩⟩
        · have i1 : ¬ (L : Int) ≤ (n : Int) := by omega
          have i2 : (n : Int) < (L : Int) := by omega
          have i3 : (0 : Int) ≤ (n : Int) := by omega
          obtain ⟨y, hy⟩ : ∃ y, (els p 256)[n]? = some y := ⟨(els p 256)[n]'(by have := LL.out.2; omega), List.getElem?_eq_getElem (by have := LL.out.2; omega)⟩
          obtain ⟨b, off, rfl, _, hr⟩ := row_at hRW hy
          have c9 := hr n y hy
          have hyl := y.2
          obtain ⟨yv, hyv⟩ : ∃ v : Nat, v = y.1 := ⟨_, rfl⟩
          rw [← hyv] at c9 hyl
          by_cases hxy : xv = yv
          · have HX := hid (And.intro hxy (And.intro hyv hy))
            subst hxy
            by_cases h2 : n + 1 ≤ t
            · have j1 : ¬ (t : Int) < (n : Int) + 1 := by omega
              have kt : (W'.setCell ⟨wr.heap.size, 0, none⟩ (.int .i64 ((n : Int) + 1))).cell? ⟨w.heap.size + 1, 0, none⟩ = some (.int .u8 (t : Int)) := cells1 (blk_set z1 (by show w.heap.size + 1 ≠ wr.heap.size; omega))
              have hne1 : ¬ w.heap.size + 1 = wr.heap.size := by omega
              have hne2 : ¬ wr.heap.size = w.heap.size + 1 := by omega
              clear g5 g8 gS gB hn hxv hle hRW z1 z2 up hb1 hb2 hpl hwW hr hyv hy f2 k2
              gi_wp2
              obtain ⟨g5, g8, gS, gB, hn, hxv, hle, hwW, hwV⟩ := HH.out
              refine ⟨KeepsOthers.setCell _ _ _, heap_setCell_other _ _ _ _ (by show 0 ≠ wr.heap.size; omega), by rw [List.length_append, ← hn]; simpa using h2, blk_set g5 (by show w1.heap.size ≠ wr.heap.size; omega), ?_, by have h9 := gS; simp; omega, below_put gB (by omega)⟩
              rw [List.length_append, ← hn]
              exact blk_put g8
            · have j1 : (t : Int) < (n : Int) + 1 := by omega
              have kt : (W'.setCell ⟨wr.heap.size, 0, none⟩ (.int .i64 ((n : Int) + 1))).cell? ⟨w.heap.size + 1, 0, none⟩ = some (.int .u8 (t : Int)) := cells1 (blk_set z1 (by show w.heap.size + 1 ≠ wr.heap.size; omega))
              have hne1 : ¬ w.heap.size + 1 = wr.heap.size := by omega
              have hne2 : ¬ wr.heap.size = w.heap.size + 1 := by omega
              clear g5 g8 gS gB hn hxv hle hRW z1 z2 up hb1 hb2 hpl hwW hr hyv hy f2 k2
              gi_wp2
              obtain ⟨g5, g8, gS, gB, hn, hxv, hle, hwW, hwV⟩ := HH.out
              refine ⟨KeepsOthers.setCell _ _ _, .inr ⟨rfl, by rw [List.length_append, ← hn]; simp; omega, blk_set g5 (by show w1.heap.size ≠ wr.heap.size; omega), ?_, by have h9 := gS; simp; omega, below_put gB (by omega)⟩⟩
              rw [List.length_append, ← hn]
              exact blk_put g8
          · have n1 : ¬ (xv : Int) = (yv : Int) := by omega
            have HN := hid (show ¬ (pre ++ [x]) <+: els p 256 from fun h => by
              obtain ⟨r, hr⟩ := h
              rw [← hr, hn] at hy
              simp at hy
              rw [hy] at hxv
              omega)
            clear g5 g8 gS gB hn hxv hle hRW z1 z2 up hb1 hb2 hpl hwW hr hyv hy f8
            gi_wp2
            exact ⟨KeepsOthers.setCell _ _ _, .inl ⟨rfl, HN.out⟩⟩
      case done =>
        rintro D ys W' hD rfl ⟨hle, g5, g8, gS, gB⟩ hK
        rw [LL.out.2] at hle g8
        have hmin : ¬ (t : Int) + 1 < (L : Int) := by omega
        have hmin2 : (L : Int) ≤ (t : Int) + 1 := by omega
        have e1 : IntKind.i64.wrap (t : Int) = (t : Int) := wrapIn (by omega) (by omega)
        have e2 : IntKind.i64.wrap ((t : Int) + 1) = (t : Int) + 1 := wrapIn (by omega) (by omega)
        have hbw := B1w.out.trans (gB.mono B1w.out.size)
        have CAW := hid (awake_any W' (T0.out.below hbw))
        have HH := hid (And.intro g5 (And.intro g8 (And.intro gS (And.intro gB (And.intro hK (And.intro hD hbw))))))
        clear g5 g8 gS gB hK hD hbw
        go_wp2_with fail
        refine CAW.out.mono ?_
        rintro e w9 ⟨rfl, b9⟩
        obtain ⟨g5, g8, gS, gB, hK, hD, hbw⟩ := HH.out
        have k5 := cells1 ((b9.block _ (heap_lt g5)).trans g5)
        have k8 := cells1 ((b9.block _ (heap_lt g8)).trans g8)
        have hb1 := X.out.2.1
        have hb2 := X.out.2.2.1
        have up : ∀ b o, b < W.heap.size → W.heap[b]? = some o → w9.heap[b]? = some o := fun b o hb ho => (b9.block b (Nat.lt_of_lt_of_le hb (Nat.le_trans E1.out.size gB.size))).trans ((gB.block b (Nat.lt_of_lt_of_le hb E1.out.size)).trans ((E1.out.block b hb).trans ho))
        have z1 := up _ _ (heap_lt hb1) hb1
        have z2 := up _ _ (heap_lt hb2) hb2
        have k1 := cells1 z1
        have k2 := cells1 z2
        have f2 := free z2 0
        have yK := (b9.block _ (heap_lt hK)).trans hK
        have yB := hbw.trans (b9.mono hbw.size)
        have hwL := X.out.2.2.2.2
        have hW1 := E1.out.size
        have HQ := hid (And.intro z2 (And.intro yK (And.intro yB (And.intro hD (And.intro hwL hW1)))))
        clear g5 g8 gS gB hK hD hbw hb1 hb2 up z1 z2 yK yB hwL hW1 b9
        go_wp2
        obtain ⟨z2, yK, yB, hD, hwL, hW1⟩ := HQ.out
        have q2 := blk_put (k := 0) (v := .bool true) z2
        have qK : (w9.setCell ⟨w.heap.size + 1 + 1, 0, none⟩ (.bool true)).heap[D]? = some (.deferred (some [])) := blk_set yK (by show D ≠ w.heap.size + 1 + 1; omega)
        have qB : Below w.heap.size w (w9.setCell ⟨w.heap.size + 1 + 1, 0, none⟩ (.bool true)) := below_put yB (by omega)
        refine leaves_dcl (n0 := w.heap.size) [D] _ ⟨by omega, qK, by simp, trivial⟩ fun W'' hW'' => ?_
        have z3 := cells1 ((hW''.block _ (by simp; omega)).trans q2)
        exact ⟨.bool true, by simp [results, Tryd.results5, go_sem, z3], rfl, qB.trans (hW''.toBelow fun b hb => by simp at hb; omega)⟩
      case stop =>
        rintro D cd pre W' hD hpre hix hK
        rcases hix with ⟨rfl, hno⟩ | ⟨rfl, hlen, g5, g8, gS, gB⟩
        · exact absurd hpre hno
        rw [hlen] at g8
        have hL1 : t + 1 ≤ L := by have := hpre.length_le; have := LL.out.2; omega
        have hmin : (t : Int) + 1 ≤ (L : Int) := by omega
        have hmin2 : ¬ (L : Int) < (t : Int) + 1 := by omega
        have e1 : IntKind.i64.wrap (t : Int) = (t : Int) := wrapIn (by omega) (by omega)
        have e2 : IntKind.i64.wrap ((t : Int) + 1) = (t : Int) + 1 := wrapIn (by omega) (by omega)
        refine wpIn_wide.2 ?_
        have hbw := B1w.out.trans (gB.mono B1w.out.size)
        have CAW := hid (awake_any W' (T0.out.below hbw))
        have HH := hid (And.intro g5 (And.intro g8 (And.intro gS (And.intro gB (And.intro hK (And.intro hD hbw))))))
        clear g5 g8 gS gB hK hD hbw
        go_wp2_with fail
        refine CAW.out.mono ?_
        rintro e w9 ⟨rfl, b9⟩
        obtain ⟨g5, g8, gS, gB, hK, hD, hbw⟩ := HH.out
        have k5 := cells1 ((b9.block _ (heap_lt g5)).trans g5)
        have k8 := cells1 ((b9.block _ (heap_lt g8)).trans g8)
        have hb1 := X.out.2.1
        have hb2 := X.out.2.2.1
        have up : ∀ b o, b < W.heap.size → W.heap[b]? = some o → w9.heap[b]? = some o := fun b o hb ho => (b9.block b (Nat.lt_of_lt_of_le hb (Nat.le_trans E1.out.size gB.size))).trans ((gB.block b (Nat.lt_of_lt_of_le hb E1.out.size)).trans ((E1.out.block b hb).trans ho))
        have z1 := up _ _ (heap_lt hb1) hb1
        have z2 := up _ _ (heap_lt hb2) hb2
        have k1 := cells1 z1
        have k2 := cells1 z2
        have f2 := free z2 0
        have yK := (b9.block _ (heap_lt hK)).trans hK
        have yB := hbw.trans (b9.mono hbw.size)
        have hwL := X.out.2.2.2.2
        have hW1 := E1.out.size
        have HQ := hid (And.intro z2 (And.intro yK (And.intro yB (And.intro hD (And.intro hwL hW1)))))
        clear g5 g8 gS gB hK hD hbw hb1 hb2 up z1 z2 yK yB hwL hW1 b9
        go_wp2
        · skip
          obtain ⟨z2, yK, yB, hD, hwL, hW1⟩ := HQ.out
          have q2 := blk_put (k := 0) (v := .bool true) z2
          have qK : (w9.setCell ⟨w.heap.size + 1 + 1, 0, none⟩ (.bool true)).heap[D]? = some (.deferred (some [])) := blk_set yK (by show D ≠ w.heap.size + 1 + 1; omega)
          have qB : Below w.heap.size w (w9.setCell ⟨w.heap.size + 1 + 1, 0, none⟩ (.bool true)) := below_put yB (by omega)
          refine leaves_dcl (n0 := w.heap.size) [D] _ ⟨by omega, qK, by simp, trivial⟩ fun W'' hW'' => ?_
          have z3 := cells1 ((hW''.block _ (by simp; omega)).trans q2)
          exact ⟨.bool true, by simp [results, Tryd.results5, go_sem, z3], rfl, qB.trans (hW''.toBelow fun b hb => by simp at hb; omega)⟩
        · have h9 : (t : Int) + 1 = (L : Int) := by omega
          have hv : ((t : Int) + 1 == (L : Int)) = true := by simp [h9]
          rw [hv]
          obtain ⟨z2, yK, yB, hD, hwL, hW1⟩ := HQ.out
          have q2 := blk_put (k := 0) (v := .bool true) z2
          have qK : (w9.setCell ⟨w.heap.size + 1 + 1, 0, none⟩ (.bool true)).heap[D]? = some (.deferred (some [])) := blk_set yK (by show D ≠ w.heap.size + 1 + 1; omega)
          have qB : Below w.heap.size w (w9.setCell ⟨w.heap.size + 1 + 1, 0, none⟩ (.bool true)) := below_put yB (by omega)
          refine leaves_dcl (n0 := w.heap.size) [D] _ ⟨by omega, qK, by simp, trivial⟩ fun W'' hW'' => ?_
          have z3 := cells1 ((hW''.block _ (by simp; omega)).trans q2)
          exact ⟨.bool true, by simp [results, Tryd.results5, go_sem, z3], rfl, qB.trans (hW''.toBelow fun b hb => by simp at hb; omega)⟩

set_option maxRecDepth 100000 in
theorem lifted (os : Os) (started : os.Started) (H : Type) (enc : TypeId × Value → H) :
    ReturnsInHanded {} Tryd.checked os 5 .any (fun w args => (Rows.bytesetAllSpec.pre enc Tryd.prog Tryd.f5 [] false w args ∧ laidMetH Tryd.prog laidT w) ∧ sizedMet enc Tryd.prog Tryd.f5 (OpenSpec.ofChange Rows.bytesetAllSpec) false w args) (Rows.bytesetAllSpec.post enc Tryd.prog Tryd.f5 false true false false) := by
  refine Go.Frame.lifted_laid (C := Tryd.checked) (tb := 4) laidT own started (by kernel_rfl) Tryd.func5
    (ChangeSpec.witness_shaped (enc := enc) (C := Tryd.checked) (os := os) (X := fun w _ => laidMetH Tryd.prog laidT w) false (World.doorLaid Tryd.prog 400 os) #[.agg #[.int .u64 0, .int .u64 0, .int .u64 0, .int .u64 0], .int .u8 0] 8 rfl (World.shaped_of_RefB (by kernel_rfl) (by kernel_rfl)) (by kernel_rfl) (by kernel_rfl) (by kernel_rfl) (door_met os _))
    laidOut (by kernel_rfl) (by kernel_rfl) Tryd.underlying4 rfl ?_ ?_
  · intro ds h
    have h : ds.length = 2 := h
    match ds, h with
    | [_, _], _ => rfl
  · intro W base args ds p hlen hval0 hA hsz0 hlaid
    have hval : ∀ (j : Nat) t v, Tryd.f5.params[j]? = some t → args[j]? = some v → Value.okWide Tryd.prog W .any base t v := hval0
    have hA : DataW.TrodAll enc Tryd.prog W 0 (fun _ => true) true Tryd.f5.params.toList args.toList ds p := hA
    have hsz : (DataW.weightsEach Tryd.prog Tryd.f5.params.toList ds).all (· ≤ reachBytes) = true := hsz0
    have hT := tb_of_laid hlaid
    rw [Tryd.params5] at hA hval hsz
    obtain ⟨v0, vs0, d0, ds0, p0, q0, hargs, hds, _, th0, tr0⟩ := trodAll_cons hA
    obtain ⟨v1, vs1, d1, ds1, p1, q1, rfl, rfl, _, th1, tr1⟩ := trodAll_cons tr0
    obtain ⟨rfl, rfl, _⟩ := trodAll_nil tr1
    obtain rfl : args = #[v0, v1] := by cases args; simp_all
    subst hds
    obtain ⟨q0, rfl⟩ := open_set (hval 0 25 v0 rfl rfl) th0
    obtain ⟨n1, rfl, hn1⟩ := open_u8 (hval 1 5 v1 rfl rfl) th1
    exact walk q0 n1 W hn1 hT

theorem over : Rows.BytesetAllSaid :=
  OpenClaim.holds_of_wide 5 Tryd.f5 rfl rfl rfl rfl rfl rfl rfl ⟨rfl, rfl, rfl, rfl, rfl⟩ rfl rfl rfl rfl rfl (by kernel_rfl) Tryd.func5 (by kernel_rfl)
    (of_decide_eq_true (by kernel_rfl)) (by unfold Func.isWrapper; first | (rw [if_pos (by decide +kernel)]; kernel_rfl) | (rw [if_neg (by decide +kernel)]; exact ⟨rfl, rfl⟩))
    (fun os started H enc _ => lifted os started H enc)

/-- THE STATEMENT: the tied card. -/
theorem proved : Rows.BytesetAllCardSaid :=
  Claim7.holds_tied_plain_at .later [] [.data] true (true, "f672231fa7014273d113998005b6c842c6084454db453b3aa5ceee129e95c009") false
    over (fun _ h => by cases h) (by kernel_rfl) (fun _ h => by cases h) bytesetAll_row_tie rfl ⟨rfl, rfl⟩ (by kernel_rfl) rfl
    (fun f fn hf hfn => by
      obtain rfl : f = 5 := Option.some.inj ((show Tryd.prog.funcNamed "emendate/emendatelaw07.BytesetAll" = some 5 by kernel_rfl).symm.trans hf) |>.symm
      obtain rfl : fn = Tryd.f5 := (Option.some.inj (Tryd.func5.symm.trans hfn)).symm
      exact ⟨by kernel_rfl, fun j t ht => by
        rw [Tryd.params5] at ht
        have hm : t ∈ [25, 5] := by simpa using Array.mem_of_getElem? ht
        have hall : ([25, 5].all fun u => !Tryd.prog.wantsStandIn u) = true := by kernel_rfl
        exact (show Tryd.prog.wantsStandIn t = false by simpa using List.all_eq_true.1 hall t hm)⟩)
    (by kernel_rfl)
#print axioms proved
end Go.Proofs.YtnjlnldbfejjpaaDoor.bytesetAll
