/-
  The machine: contract: targets.
-/
import Derived.Test.YtogpnlkjcdedlaaDoorMm
set_option linter.unusedSimpArgs false
set_option linter.unusedVariables false
namespace Go.Proofs.YtogpnlkjcdedlaaDoor
open Go.RowKit Bs Rg Nf Go.Frame
attribute [local go_sem] eq_zero eq_set

/-- Where the first arcs of a list lead on a byte. -/
def ts (l : List Arc) (b : UInt8) (y : Nat) : Bool := l.any fun a => a.s b && decide (a.t = (y : Int))
theorem ts_nil (b : UInt8) : ts [] b = fun _ => false := rfl
theorem ts_snoc_no {l : List Arc} {a : Arc} {b : UInt8} (h : a.s b = false) : ts (l ++ [a]) b = ts l b := by
  funext y; unfold ts; rw [List.any_append]; simp [h]
theorem ts_snoc_yes {l : List Arc} {a : Arc} {b : UInt8} {t : Nat} (h : a.s b = true) (ht : a.t = (t : Int)) : ts (l ++ [a]) b = add1 (ts l b) t := by
  funext y; unfold ts add1; rw [List.any_append]
  refine congrArg (fun z => (_ || z)) ?_
  rw [Bool.eq_iff_iff]; simp [h, ht]; omega
theorem ts_tg {N : Nfa} {l : List Arc} {x : Nat} {b : Nat} (h : ∀ z, z ∈ l ↔ z ∈ N.arcs ∧ z.f = (x : Int)) : ts l (UInt8.ofNat b) = tg N (x, b) := by
  funext y
  rw [Bool.eq_iff_iff]
  show ts l _ y = true ↔ tgt N (fun z => z == x) (UInt8.ofNat b) y = true
  rw [tgt_iff]
  unfold ts
  rw [List.any_eq_true]
  constructor
  · rintro ⟨a, ha, h1⟩
    simp only [Bool.and_eq_true, decide_eq_true_eq] at h1
    obtain ⟨h2, h3⟩ := (h a).1 ha
    exact ⟨a, h2, h1.1, ⟨x, h3, by simp⟩, h1.2⟩
  · rintro ⟨a, ha, h1, ⟨z, h2, h3⟩, h4⟩
    have : z = x := by simpa using h3
    exact ⟨a, (h a).2 ⟨ha, by rw [h2, this]⟩, by simp [h1, h4]⟩
/-- A byte is in a set. -/
theorem lf_of (s : BS) (b : Nat) : lf s b = s (UInt8.ofNat b) := rfl
/-- What targets answers. -/
def TO (G : Nat → Prop) (mb ab sb K ca cs n : Nat) (N : Nfa) (p : Nat × Nat) (w : World) (e : Ending) (w' : World) : Prop :=
  ∃ blk, e = .returned (.slice (some ⟨blk, 0, none⟩) (mw n) (mw n)) ∧ MB w' blk (tg N p) (mw n) ∧ (G blk ∨ w.heap.size ≤ blk) ∧ blk ≠ K ∧ MC (fun b => G b ∨ w.heap.size ≤ b) w' mb ab sb K ca cs N n ∧ Kept (fun b => b = K ∨ w.heap.size ≤ b) w w'
theorem fi_none {q : Nat × Nat} {ps : List (Nat × Nat)} (h : ps.findIdx? (fun p => decide (q = p)) = none) : True := trivial
theorem fi_some {q : Nat × Nat} {ps : List (Nat × Nat)} {j : Nat} (h : ps.findIdx? (fun p => decide (q = p)) = some j) : ps[j]? = some q := by
  obtain ⟨h1, h2⟩ := List.findIdx?_eq_some_iff_getElem.1 h
  rw [List.getElem?_eq_getElem h1]
  have := h2.1
  rw [of_decide_eq_true this]
set_option maxRecDepth 100000 in
set_option maxHeartbeats 4000000 in
theorem targets_any (G : Nat → Prop) (w : World) (mb ab sb K ca cs n : Nat) (N : Nfa) (h : MC G w mb ab sb K ca cs N n) (x b : Nat) (hx : x < n) (hb : b < 256) :
    Calls Tryd.prog 61 #[.pointer (some ⟨mb, 0, none⟩), .agg #[.int .i64 (x : Int), .int .u8 (b : Int)]] w (TO G mb ab sb K ca cs n N (x, b) w) := by
  obtain ⟨W, hW⟩ : ∃ W, W = w.alloc (.cells #[.int .i64 (x : Int), .int .u8 (b : Int)] 105) := ⟨_, rfl⟩
  have bW : Below w.heap.size w W := by rw [hW]; exact bel1 _ _
  have hX : W.heap[w.heap.size]? = some (.cells #[.int .i64 (x : Int), .int .u8 (b : Int)] 105 (0, 0)) := by rw [hW]; exact alloc_new _ _
  have hM := (h.more (G' := fun b => G b ∨ w.heap.size ≤ b) fun _ _ h => .inl h).below bW
  have HB := hid bW
  have HX := hid hX
  have HM := hid hM
  have HG := hid h
  obtain ⟨ps, vs, hMap, hV⟩ := hM.known
  have hv := hid hV
  have HMap := hid hMap
  clear hV h hM bW hX
  obtain ⟨R, hR⟩ : ∃ R, R = (match ps.findIdx? (fun p => decide ((x, b) = p)) with | some j => Value.tuple #[vs.getD j (.slice none 0 0), .bool true] | none => .tuple #[.slice none 0 0, .bool false]) := ⟨_, rfl⟩
  have LK := hid (fun V (hV : Below W.heap.size W V) => show (Instr.lookup 96 (.map (some K)) (.agg #[.int .i64 (x : Int), .int .u8 (b : Int)]) true).run Tryd.prog V = .ok R V from by rw [hR]; exact run_lookM (HMap.out.keep (hV.block K HM.out.gk)) (x, b))
  go_enter Tryd.func61, Tryd.ntmps61
  go_upto_region 1 with fail
  rw [← hW]
  clear hW hMap
  refine wp_region_below (by kernel_rfl) (by kernel_rfl) ?_
  intro X f _ hf hs
  have z2 := fun y => (cells3 (((hf.out y).block _ (heap_lt HM.out.box)).trans HM.out.box)).2.2
  have k0 := fun y => (cells2 (((hf.out y).block _ (heap_lt HX.out)).trans HX.out)).1
  have k1 := fun y => (cells2 (((hf.out y).block _ (heap_lt HX.out)).trans HX.out)).2
  have LK2 := fun y => LK.out (f y) (hf.out y)
  cases hfi : ps.findIdx? (fun p => decide ((x, b) = p)) with
  | some j =>
    obtain ⟨blk, g1, g2, g3, g4⟩ := hv.out j (x, b) (fi_some hfi)
    rw [hfi] at hR
    simp only at hR
    rw [List.getD_eq_getElem?_getD, g1] at hR
    simp only [Option.getD_some] at hR
    have HS := hid (And.intro g2 (And.intro g3 g4))
    clear g1 g2 g3 g4 hfi
    subst hR
    repeat (go_big_quiet_step (first | fail))
    refine wpQuiet_nil ?_
    intro w2 hw2
    have H2 := hid hw2
    clear z2 k0 k1 LK2 hf hs hw2
    go_wp2
    go_ret
    exact ⟨blk, rfl, HS.out.1.below H2.out, HS.out.2.1, HS.out.2.2, HM.out.below H2.out, Kept.below (HB.out.trans (H2.out.mono HB.out.size)) fun b hb => .inr hb⟩
  | none =>
    rw [hfi] at hR
    simp only at hR
    have HF := hid hfi
    clear hfi
    subst hR
    repeat (go_big_quiet_step (first | fail))
    refine wpQuiet_nil ?_
    intro w2 hw2
    have H2 := hid (HB.out.trans (hw2.mono HB.out.size))
    have M2 := hid (HM.out.below hw2)
    have X2 := hid ((hw2.block _ (heap_lt HX.out)).trans HX.out)
    have MP2 := hid (HMap.out.keep (hw2.block K HM.out.gk))
    clear z2 k0 k1 LK2 hf hs hw2
    have CN := hid (noStates_any _ w2 mb ab sb K ca cs n N M2.out)
    go_wp2_with fail
    refine CN.out.mono ?_
    rintro e w3 ⟨rfl, hmb, b3, hs3⟩
    have H3 := hid (H2.out.trans (b3.mono H2.out.size))
    have M3 := hid ((M2.out.more (G' := fun b => (G b ∨ w.heap.size ≤ b) ∧ b < w2.heap.size) fun b hl hg => ⟨hg, hl⟩).below b3)
    have X3 := hid ((b3.block _ (heap_lt X2.out)).trans X2.out)
    have MP3 := hid (MP2.out.keep (b3.block K M2.out.gk))
    have hlo : w.heap.size ≤ w2.heap.size := H2.out.size
    obtain ⟨B, hB⟩ : ∃ B, B = w2.heap.size := ⟨_, rfl⟩
    rw [← hB] at hmb hlo ⊢
    have M3 := hid (M3.out.more (G' := fun b => (G b ∨ w.heap.size ≤ b) ∧ b < B) fun b _ hg => ⟨hg.1, by rw [hB]; exact hg.2⟩)
    have HS := hid (And.intro hmb (And.intro hlo (And.intro (show B ≠ K from by have := M2.out.gk; omega) (show w.heap.size < B from by rw [hB]; exact heap_lt X2.out))))
    clear b3 CN hmb hs3 hlo hB
    obtain ⟨a, k, c, l, q0, hrow, hk9, hl, hfar⟩ := M3.out.arcs x hx
    have HL := hid (And.intro hrow (And.intro hl hfar))
    clear hrow hl hfar
    go_upto_region 5 with fail
    have hx0 : (0 : Int) ≤ (x : Int) := by omega
    have hxn : (x : Int) < (n : Int) := by omega
    refine wp_region_below (by kernel_rfl) (by kernel_rfl) ?_
    intro X' f' _ hf hs
    have z0 := fun y => (cells3 (((hf.out y).block _ (heap_lt M3.out.box)).trans M3.out.box)).1
    have k0 := fun y => (cells2 (((hf.out y).block _ (heap_lt X3.out)).trans X3.out)).1
    have k1 := fun y => ((hf.out y).cell (p := ⟨ab, x, none⟩) M3.out.ga.2.2).trans q0
    repeat (go_big_quiet_step (first | fail))
    refine wpQuiet_nil ?_
    intro w4 hw4
    have H4 := hid (H3.out.trans (hw4.mono H3.out.size))
    have M4 := hid (M3.out.below hw4)
    have X4 := hid ((hw4.block _ (heap_lt X3.out)).trans X3.out)
    have MP4 := hid (MP3.out.keep (hw4.block K M3.out.gk))
    have S4 := hid (And.intro (HS.out.1.below hw4) HS.out.2)
    have L4 := hid (And.intro (HL.out.1.below hw4) HL.out.2)
    clear z0 k0 k1 hf hs hw4 q0
    clear H2 M2 X2 MP2 H3 M3 X3 MP3 HS HL
    go_wp2_with fail
    go_loopg [32] k (fun kk s32 wr => ∃ i : Nat, s32 = .int .i64 (i : Int) ∧ i + kk = k ∧ MB wr B (ts (l.take i) (UInt8.ofNat b)) (mw n) ∧ Kept (fun q => q = B ∨ w4.heap.size ≤ q) w4 wr)
    case atStart => exact ⟨0, rfl, by omega, by rw [List.take_zero, ts_nil]; exact S4.out.1, Kept.refl _ _⟩
    case round =>
      obtain ⟨i, rfl, hik, hmb, hkp⟩ := hrel
      by_cases hlt : i < k
      · have hlt' : (i : Int) < (k : Int) := by omega
        have hrow := CRow_kept L4.out.1 hkp.size (fun h0 b off e hb => hkp.block b (by have := (L4.out.2.2 h0 b off e).1.2; have := S4.out.1.lt; omega))
        obtain ⟨b0, off, f, t, e, s, rfl, hbl, ha, q0, q1, q2, q3, q4, q5, q6⟩ := arc_at hrow hlt
        obtain ⟨xt, yt, hxt, hyt, _, rfl, _⟩ := M4.out.vn.arcs _ ((L4.out.2.1 _).1 (List.mem_of_getElem? ha)).1
        have hX := (hkp.block w.heap.size (by have := S4.out.2.2.2; have := heap_lt X4.out; omega)).trans X4.out
        obtain ⟨V, hV⟩ : ∃ V, V = wr.alloc (.cells #[.int .i64 f, .int .i64 (yt : Int), .bool e, .int .u64 (ws s 0 : Int), .int .u64 (ws s 1 : Int), .int .u64 (ws s 2 : Int), .int .u64 (ws s 3 : Int)] 55) := ⟨_, rfl⟩
        have bV : Below wr.heap.size wr V := by rw [hV]; exact bel1 _ _
        have HV := hid (show V.heap[wr.heap.size]? = some (.cells #[.int .i64 f, .int .i64 (yt : Int), .bool e, .int .u64 (ws s 0 : Int), .int .u64 (ws s 1 : Int), .int .u64 (ws s 2 : Int), .int .u64 (ws s 3 : Int)] 55 (0, 0)) ∧ V.heap[w.heap.size]? = some (.cells #[.int .i64 (x : Int), .int .u8 (b : Int)] 105 (0, 0)) ∧ MB V B (ts (l.take i) (UInt8.ofNat b)) (mw n) ∧ Kept (fun q => q = B ∨ w4.heap.size ≤ q) w4 V from
          ⟨by rw [hV]; exact alloc_new _ _, (bV.block _ (heap_lt hX)).trans hX, hmb.below bV, hkp.trans (Kept.below bV fun b hb => .inr (Nat.le_trans hkp.size hb))⟩)
        have HA := hid (And.intro ha hyt)
        clear hmb hkp hX bV ha hrow hbl hyt hxt
        go_upto_region 8 with fail
        rw [← hV]
        clear hV q0 q1 q2 q3 q4 q5 q6
        obtain ⟨e0, e1, e2, e3, e4, e5, e6⟩ := cells7a HV.out.1
        obtain ⟨k0, k1⟩ := cells2 HV.out.2.1
        have CH := hid (show Calls Tryd.prog 74 #[.agg #[.int .u64 (ws s 0 : Int), .int .u64 (ws s 1 : Int), .int .u64 (ws s 2 : Int), .int .u64 (ws s 3 : Int)], .int .u8 (b : Int)] V fun e w' => e = .returned (.bool (s (UInt8.ofNat b))) ∧ Below V.heap.size V w' from by have := Has_any (lf s) b V hb; rw [sv_lf] at this; exact this)
        obtain ⟨yy, hyy⟩ : ∃ y, y = s (UInt8.ofNat b) := ⟨_, rfl⟩
        rw [← hyy] at CH
        have HY := hid hyy
        clear hyy
        go_wp2_with fail
        refine CH.out.mono ?_
        rintro e9 V2 ⟨rfl, b9⟩
        have HV2 := hid (show V2.heap[wr.heap.size]? = some (.cells #[.int .i64 f, .int .i64 (yt : Int), .bool e, .int .u64 (ws s 0 : Int), .int .u64 (ws s 1 : Int), .int .u64 (ws s 2 : Int), .int .u64 (ws s 3 : Int)] 55 (0, 0)) ∧ MB V2 B (ts (l.take i) (UInt8.ofNat b)) (mw n) ∧ Kept (fun q => q = B ∨ w4.heap.size ≤ q) w4 V2 from
          ⟨(b9.block _ (heap_lt HV.out.1)).trans HV.out.1, HV.out.2.2.1.below b9, HV.out.2.2.2.trans (Kept.below b9 fun b hb => .inr (Nat.le_trans HV.out.2.2.2.size hb))⟩)
        clear b9 CH e0 e1 e2 e3 e4 e5 e6 k0 k1
        cases yy with
        | false =>
          go_wp2
          go_roundg (gk - 1)
          case measure => omega
          case rel => exact ⟨i + 1, by go_num, by omega, by rw [List.take_add_one, HA.out.1]; show MB V2 B (ts (l.take i ++ [_]) _) _; rw [ts_snoc_no HY.out.symm]; exact HV2.out.2.1, HV2.out.2.2⟩
        | true =>
          obtain ⟨e0, e1, e2, e3, e4, e5, e6⟩ := cells7a HV2.out.1
          have CA := hid (add_any V2 B (mw n) yt _ HV2.out.2.1 (mw_lt HA.out.2) (mw_le M4.out.vn.le))
          go_wp2_with fail
          refine CA.out.mono ?_
          rintro e9 V3 ⟨rfl, hmb3, hkp3, hs3⟩
          have HV3 := hid (And.intro hmb3 (HV2.out.2.2.trans (hkp3.mono fun b hb => .inl hb)))
          clear hmb3 hkp3 hs3 CA e0 e1 e2 e3 e4 e5 e6
          go_wp2
          go_roundg (gk - 1)
          case measure => omega
          case rel => exact ⟨i + 1, by go_num, by omega, by rw [List.take_add_one, HA.out.1]; show MB V3 B (ts (l.take i ++ [_]) _) _; rw [ts_snoc_yes HY.out.symm rfl]; exact HV3.out.1, HV3.out.2⟩
      · have hlt' : ¬ (i : Int) < (k : Int) := by omega
        have hlk : l.length = k := by have := L4.out.1.1; simpa using this
        rw [List.take_of_length_le (by omega), ts_tg L4.out.2.1] at hmb
        have hBw := S4.out.1.lt
        have hX := (hkp.block w.heap.size (by have := S4.out.2.2.2; have := heap_lt X4.out; omega)).trans X4.out
        have MR := hid (M4.out.kept hkp (fun b hl hg hF => by have := hg.2; omega) (by have := S4.out.2.2.1; have := M4.out.gk; omega))
        have MPR := hid (MP4.out.keep (hkp.block K (by have := S4.out.2.2.1; have := M4.out.gk; omega)))
        obtain ⟨w9, hu, hu2, hu3, hu4⟩ := run_updM (W := wr.drew) (MPR.out.keep rfl) (x, b) (.slice (some ⟨B, 0, none⟩) (mw n) (mw n)) HF.out
        have hu : (Instr.mapUpdate 96 (.map (some K)) (.agg #[.int .i64 (x : Int), .int .u8 (b : Int)]) (.slice (some ⟨B, 0, none⟩) (mw n) (mw n))).run Tryd.prog wr.drew = .ok () w9 := hu
        have HH := hid (And.intro hmb (And.intro hkp (And.intro hu2 (And.intro hu3 hu4))))
        have z2 := MR.out.cells.2.2
        obtain ⟨k0, k1⟩ := cells2 hX
        clear hmb hkp hu2 hu3 hu4 hX
        go_wp2_with fail
        go_region
        go_wp2
        go_ret
        obtain ⟨hmb, hkp, hu2, hu3, hu4⟩ := HH.out
        have hBK := S4.out.2.2.1
        have hlo := S4.out.2.1
        have hadd := MC.add (W := wr) (blk := B) MR.out MPR.out hu2 ⟨hu3.os, hu3.tape, hu3.output, hu3.size, hu3.block⟩ hu4 hmb hBK
        refine ⟨B, rfl, (hu3.block B hBK).trans hmb, .inr hlo, hBK, hadd.more fun b hl hg => hg.elim (fun hg => hg.1) (fun e => .inr (e ▸ hlo)), ?_⟩
        have k1 : Kept (fun b => b = K ∨ w.heap.size ≤ b) w w4 := Kept.below H4.out fun b hb => .inr hb
        have k2 : Kept (fun b => b = K ∨ w.heap.size ≤ b) w4 wr := hkp.mono fun b hb => .inr (by rcases hb with rfl | hb; exact hlo; have := H4.out.size; omega)
        have k3 : Kept (fun b => b = K ∨ w.heap.size ≤ b) wr w9 := ⟨hu3.os, hu3.tape, hu3.output, hu3.size, fun b hb => hu3.block b (fun e => hb (.inl e))⟩
        exact (k1.trans k2).trans k3
end Go.Proofs.YtogpnlkjcdedlaaDoor
