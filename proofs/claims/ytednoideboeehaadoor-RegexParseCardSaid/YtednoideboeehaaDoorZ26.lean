/-
  The reference's parser: contracts: One, star; what its descent answers.
  Contracts: the reference's elements and set.
  Contracts: the reference's Dot and set.
-/
import Derived.Test.YtednoideboeehaaDoorZ25
import Derived.Test.YtednoideboeehaaDoorZ11
import Derived.Deep.Cut
import Derived.Test.YtednoideboeehaaDoorZ23
import Derived.Test.YtednoideboeehaaDoorZ14
section
set_option linter.unusedSimpArgs false
set_option linter.unusedVariables false
namespace Go.Proofs.YtednoideboeehaaDoor
open Go.RowKit Bs Rg Go.Frame
attribute [local go_sem] eq_zero eq_set

theorem zero_box (w : World) : (w.alloc (.cells #[.int .i64 0, .int .u64 0, .int .u64 0, .int .u64 0, .int .u64 0, .slice none 0 0] 27)).heap[w.heap.size]? = some (.cells #[.int .i64 0, .int .u64 0, .int .u64 0, .int .u64 0, .int .u64 0, .slice none 0 0] 27 (0, 0)) ∧ Below w.heap.size w (w.alloc (.cells #[.int .i64 0, .int .u64 0, .int .u64 0, .int .u64 0, .int .u64 0, .slice none 0 0] 27)) := ⟨alloc_new _ _, bel1 _ _⟩
/-- A result laid into its box, the first of the call's own. -/
theorem below_six {w V : World} (h : Below w.heap.size w V) {x0 x1 x2 x3 x4 x5 : Value} : Below w.heap.size w ((((((V.setCell ⟨w.heap.size, 0, none⟩ x0).setCell ⟨w.heap.size, 1, none⟩ x1).setCell ⟨w.heap.size, 2, none⟩ x2).setCell ⟨w.heap.size, 3, none⟩ x3).setCell ⟨w.heap.size, 4, none⟩ x4).setCell ⟨w.heap.size, 5, none⟩ x5) :=
  below_put (below_put (below_put (below_put (below_put (below_put h (Nat.le_refl _)) (Nat.le_refl _)) (Nat.le_refl _)) (Nat.le_refl _)) (Nat.le_refl _)) (Nat.le_refl _)
theorem one_of_add (b : UInt8) : sv (add1 (fun _ => false) b.toNat) = .agg #[.int .u64 (ws (one b) 0 : Int), .int .u64 (ws (one b) 1 : Int), .int .u64 (ws (one b) 2 : Int), .int .u64 (ws (one b) 3 : Int)] := sv_to (add_one b)
set_option maxRecDepth 100000 in
set_option maxHeartbeats 4000000 in
theorem rSet1_any (b : UInt8) (w : World) : Calls Tryd.prog 86 #[.agg #[.int .u64 0, .int .u64 0, .int .u64 0, .int .u64 0], .int .i64 (b.toNat : Int)] w fun e w' => e = .returned (.agg #[.int .u64 (ws (one b) 0 : Int), .int .u64 (ws (one b) 1 : Int), .int .u64 (ws (one b) 2 : Int), .int .u64 (ws (one b) 3 : Int)]) ∧ Below w.heap.size w w' := by
  have h := rWith_any (fun _ => false) b.toNat w b.toNat_lt
  rw [show sv (fun _ => false) = .agg #[.int .u64 0, .int .u64 0, .int .u64 0, .int .u64 0] by unfold sv; rw [wd_false, wd_false, wd_false, wd_false]; rfl, one_of_add] at h
  exact h
set_option maxRecDepth 100000 in
set_option maxHeartbeats 4000000 in
theorem rOneX_any (b : UInt8) (w : World) : Calls Tryd.prog 109 #[.int .i64 (b.toNat : Int)] w fun e w' => e = .returned (.agg #[.int .i64 3, .int .u64 (ws (one b) 0 : Int), .int .u64 (ws (one b) 1 : Int), .int .u64 (ws (one b) 2 : Int), .int .u64 (ws (one b) 3 : Int), .slice none 0 0]) ∧ Below w.heap.size w w' := by
  have C := hid (fun V => rSet1_any b V)
  obtain ⟨W, hW⟩ : ∃ W, W = w.alloc (.cells #[.int .i64 0, .int .u64 0, .int .u64 0, .int .u64 0, .int .u64 0, .slice none 0 0] 27) := ⟨_, rfl⟩
  have H := hid (zero_box w)
  rw [← hW] at H
  go_enter Tryd.func109, Tryd.ntmps109
  go_wp2_with fail
  rw [← hW]
  clear hW
  refine (C.out _).mono ?_
  rintro e V ⟨rfl, b1⟩
  have HB := hid (H.out.2.trans (b1.mono H.out.2.size))
  have hres := (b1.block _ (heap_lt H.out.1)).trans H.out.1
  have HR := hid hres
  obtain ⟨c0, c1, c2, c3, c4, c5⟩ := cells6 hres
  have f0 := Go.Frame.free hres 0
  have f1 := Go.Frame.free hres 1
  have f2 := Go.Frame.free hres 2
  have f3 := Go.Frame.free hres 3
  have f4 := Go.Frame.free hres 4
  have f5 := Go.Frame.free hres 5
  clear b1 hres
  go_wp2
  have zz := six_set (y0 := .int .i64 3) (y1 := .int .u64 (ws (one b) 0 : Int)) (y2 := .int .u64 (ws (one b) 1 : Int)) (y3 := .int .u64 (ws (one b) 2 : Int)) (y4 := .int .u64 (ws (one b) 3 : Int)) (y5 := .slice none 0 0) HR.out
  obtain ⟨r0, r1, r2, r3, r4, r5⟩ := cells6 zz
  refine bodyPost_ret (v := .agg #[.int .i64 3, .int .u64 (ws (one b) 0 : Int), .int .u64 (ws (one b) 1 : Int), .int .u64 (ws (one b) 2 : Int), .int .u64 (ws (one b) 3 : Int), .slice none 0 0]) ?_ rfl ⟨rfl, below_six HB.out⟩
  simp [results, Tryd.results109, go_sem, r0, r1, r2, r3, r4, r5]
theorem ezrcs (K : Int) (v : Value) : rcs K none8 v = [.int .i64 K, .int .u64 0, .int .u64 0, .int .u64 0, .int .u64 0, v] := by
  unfold rcs; rw [ws_none, ws_none, ws_none, ws_none]; rfl
/-- A row of one expression, just made. -/
theorem one_row {g : Nat → Prop} {W : World} {x : Rx} {c : List Value} {n0 : Nat} (hx : RC g W x c) (hn : n0 ≤ W.heap.size) : Kd (fun b => g b ∨ n0 ≤ b) (W.alloc (.cells c.toArray 27)) (some ⟨W.heap.size, 0, none⟩) 1 [x] := by
  refine ⟨rfl, by decide, .inr ⟨W.heap.size, 0, rfl, .inr hn, by simp, ?_⟩⟩
  rw [RK, RK]
  refine ⟨⟨c, fun j v hj => ?_, (hx.below (bel1 _ _)).more fun b h => .inl h⟩, trivial⟩
  have h1 : (W.alloc (.cells c.toArray 27)).heap[W.heap.size]? = some (.cells c.toArray 27 (0, 0)) := alloc_new _ _
  rw [Nat.zero_add]
  simp only [World.cell?, h1]
  simp [hj]
set_option maxRecDepth 100000 in
set_option maxHeartbeats 4000000 in
theorem rstar_any (g : Nat → Prop) (x : Rx) (w : World) (cs : List Value) (h : RC g w x cs) :
    Calls Tryd.prog 96 #[.agg cs.toArray] w fun e w' => (∃ cs', e = .returned (.agg cs'.toArray) ∧ RC (fun b => g b ∨ w.heap.size ≤ b) w' (star x) cs') ∧ Below w.heap.size w w' := by
  obtain ⟨k, s, l⟩ := x
  obtain ⟨a, n, c, rfl, hK⟩ := RC_mk.1 h
  show Calls Tryd.prog 96 #[.agg #[.int .i64 k, .int .u64 (ws s 0 : Int), .int .u64 (ws s 1 : Int), .int .u64 (ws s 2 : Int), .int .u64 (ws s 3 : Int), .slice a n c]] w _
  obtain ⟨W, hW⟩ : ∃ W, W = (w.alloc (.cells #[.int .i64 k, .int .u64 (ws s 0 : Int), .int .u64 (ws s 1 : Int), .int .u64 (ws s 2 : Int), .int .u64 (ws s 3 : Int), .slice a n c] 27)).alloc (.cells #[.int .i64 0, .int .u64 0, .int .u64 0, .int .u64 0, .int .u64 0, .slice none 0 0] 27) := ⟨_, rfl⟩
  obtain ⟨x0, x1, bW, hsz⟩ := Go.Frame.two w (.cells #[.int .i64 k, .int .u64 (ws s 0 : Int), .int .u64 (ws s 1 : Int), .int .u64 (ws s 2 : Int), .int .u64 (ws s 3 : Int), .slice a n c] 27) (.cells #[.int .i64 0, .int .u64 0, .int .u64 0, .int .u64 0, .int .u64 0, .slice none 0 0] 27)
  rw [← hW] at x0 x1 bW hsz
  have hsz2 : W.heap.size = w.heap.size + 1 + 1 := hsz
  obtain ⟨c0, c1, c2, c3, c4, c5⟩ := cells6 (hW ▸ x0)
  have hrow := one_row (n0 := w.heap.size) (h.below bW) bW.size
  obtain ⟨V, hV⟩ : ∃ V, V = W.alloc (.cells #[.int .i64 k, .int .u64 (ws s 0 : Int), .int .u64 (ws s 1 : Int), .int .u64 (ws s 2 : Int), .int .u64 (ws s 3 : Int), .slice a n c] 27) := ⟨_, rfl⟩
  change Kd _ (W.alloc (.cells #[.int .i64 k, .int .u64 (ws s 0 : Int), .int .u64 (ws s 1 : Int), .int .u64 (ws s 2 : Int), .int .u64 (ws s 3 : Int), .slice a n c] 27)) _ 1 _ at hrow
  rw [← hV] at hrow
  have hb1 : Below W.heap.size W V := by rw [hV]; exact bel1 _ _
  have HX := hid (cells6 x0)
  have HX1 := hid x1
  have HBW := hid bW
  have HRC := hid h
  have HR := hid (And.intro ((hb1.block _ (heap_lt x1)).trans x1) (And.intro (bW.trans (hb1.mono bW.size)) (And.intro hrow hsz)))
  clear x0 x1 bW h hK hb1 hrow
  go_enter Tryd.func96, Tryd.ntmps96
  go_upto_region 1 with fail
  rw [← hW]
  clear hW
  clear c0 c1 c2 c3 c4 c5
  obtain ⟨c0, c1, c2, c3, c4, c5⟩ := HX.out
  have hres := HX1.out
  obtain ⟨d0, d1, d2, d3, d4, d5⟩ := cells6 hres
  have f0 := Go.Frame.free hres 0
  have f1 := Go.Frame.free hres 1
  have f2 := Go.Frame.free hres 2
  have f3 := Go.Frame.free hres 3
  have f4 := Go.Frame.free hres 4
  have f5 := Go.Frame.free hres 5
  clear hres
  have hlt1 : w.heap.size + 1 < W.heap.size := by omega
  go_wp2
  obtain ⟨X, hX⟩ : ∃ X, X = ((((((W.setCell ⟨w.heap.size + 1, 0, none⟩ (.int .i64 6)).setCell ⟨w.heap.size + 1, 1, none⟩ (.int .u64 0)).setCell ⟨w.heap.size + 1, 2, none⟩ (.int .u64 0)).setCell ⟨w.heap.size + 1, 3, none⟩ (.int .u64 0)).setCell ⟨w.heap.size + 1, 4, none⟩ (.int .u64 0)).setCell ⟨w.heap.size + 1, 5, none⟩ (.slice (some ⟨w.heap.size + 2, 0, none⟩) 1 1)) := ⟨_, rfl⟩
  rw [← hX]
  have hXs : X.heap.size = w.heap.size + 2 := by rw [hX]; simp; omega
  have hb : Below w.heap.size w X := by
    rw [hX]
    exact below_put (below_put (below_put (below_put (below_put (below_put HBW.out (by omega)) (by omega)) (by omega)) (by omega)) (by omega)) (by omega)
  have hcell := six_set (y0 := .int .i64 6) (y1 := .int .u64 0) (y2 := .int .u64 0) (y3 := .int .u64 0) (y4 := .int .u64 0) (y5 := .slice (some ⟨w.heap.size + 2, 0, none⟩) 1 1) HX1.out
  rw [← hX] at hcell
  have hc2 := blk_alloc (o' := .cells #[.int .i64 k, .int .u64 (ws s 0 : Int), .int .u64 (ws s 1 : Int), .int .u64 (ws s 2 : Int), .int .u64 (ws s 3 : Int), .slice a n c] 27) hcell
  obtain ⟨r0, r1, r2, r3, r4, r5⟩ := cells6 hc2
  have hrow := one_row (n0 := w.heap.size) (HRC.out.below hb) hb.size
  refine bodyPost_ret (v := .agg #[.int .i64 6, .int .u64 0, .int .u64 0, .int .u64 0, .int .u64 0, .slice (some ⟨w.heap.size + 2, 0, none⟩) 1 1]) ?_ rfl ⟨⟨[.int .i64 6, .int .u64 0, .int .u64 0, .int .u64 0, .int .u64 0, .slice (some ⟨w.heap.size + 2, 0, none⟩) 1 1], rfl, ?_⟩, below_made hb hb.size⟩
  · simp [results, Tryd.results96, go_sem, r0, r1, r2, r3, r4, r5]
  · rw [← ezrcs, ← hXs]
    exact RC_mk.2 ⟨_, _, _, rfl, hrow⟩
end Go.Proofs.YtednoideboeehaaDoor
end
section
set_option linter.unusedSimpArgs false
set_option linter.unusedVariables false
namespace Go.Proofs.YtednoideboeehaaDoor
open Go.RowKit Bs Rg Go.Frame
attribute [local go_sem] eq_zero eq_set

theorem wrn_J : ∀ b : Fin 256, okb (UInt8.ofNat b) = true → wrn b true = wch spJ (UInt8.ofNat b) := by decide +kernel
theorem wrn_O : ∀ b : Fin 256, okb (UInt8.ofNat b) = true → wrn b false = wch spO (UInt8.ofNat b) := by decide +kernel
theorem wrn_len (b : Nat) (br : Bool) : (wrn b br).length ≤ 2 := by
  unfold wrn
  split
  · simp
  split
  · simp
  split <;> simp
theorem wch_size (sp : List UInt8) (b : UInt8) : (⟨(wch sp b).toArray⟩ : ByteArray).size ≤ 2 := by
  show (wch sp b).toArray.size ≤ 2
  rw [List.size_toArray]
  unfold wch
  split
  · simp
  split
  · simp
  split <;> simp
theorem elms_far {s : BS} {n b : Nat} (h : 126 < b) : elms s n b = [] := by
  cases n with
  | zero => rfl
  | succ n => rw [elms, if_pos h]
theorem elms_skip {s : BS} {n b : Nat} (h : nt s b = false) : elms s (n + 1) b = elms s n (b + 1) := by
  rw [elms]
  by_cases e : 126 < b
  · rw [if_pos e, elms_far (by omega)]
  · rw [if_neg e, if_pos h]
theorem elms_run {s : BS} {n b : Nat} (h1 : b ≤ 126) (h2 : nt s b = true) (h3 : b + 2 ≤ lor s 256 b) : elms s (n + 1) b = wch spJ (UInt8.ofNat b) ++ 45 :: (wch spJ (UInt8.ofNat (lor s 256 b)) ++ elms s n (lor s 256 b + 1)) := by
  rw [elms, if_neg (by omega), if_neg (by rw [h2]; simp), if_pos h3]
theorem elms_alone {s : BS} {n b : Nat} (h1 : b ≤ 126) (h2 : nt s b = true) (h3 : ¬ b + 2 ≤ lor s 256 b) : elms s (n + 1) b = wch spJ (UInt8.ofNat b) ++ elms s n (b + 1) := by
  rw [elms, if_neg (by omega), if_neg (by rw [h2]; simp), if_neg h3]
theorem nt_okb {s : BS} (hs : ∀ b, s b = true → okb b = true) {n : Nat} (hn : n < 256) (h : nt s n = true) : (32 ≤ n ∧ n ≤ 126) ∨ n = 9 ∨ n = 10 := (okb_nat hn).1 (nt_ok hs hn h).1
theorem lor_stop {s : BS} {f x : Nat} (h : nt s (x + 1) = false) : lor s f x = x := by
  cases f with
  | zero => rfl
  | succ f => rw [lor, if_neg (by rw [h]; simp)]
theorem lor_low {s : BS} (hs : ∀ b, s b = true → okb b = true) {b : Nat} (hb : b = 9 ∨ b = 10) : ¬ b + 2 ≤ lor s 256 b := by
  have h11 : nt s 11 = false := by
    rw [← Bool.not_eq_true]; intro h
    have := nt_okb hs (n := 11) (by omega) h; omega
  rcases hb with rfl | rfl
  · rw [lor]
    split
    · rw [lor_stop h11]; omega
    · omega
  · rw [lor_stop h11]; omega

set_option maxRecDepth 100000 in
set_option maxHeartbeats 4000000 in
theorem elements_any (s : BS) (w : World) (hs : ∀ b, s b = true → okb b = true) :
    Calls Tryd.prog 66 #[.agg #[.int .u64 (ws s 0 : Int), .int .u64 (ws s 1 : Int), .int .u64 (ws s 2 : Int), .int .u64 (ws s 3 : Int)]] w fun e w' => e = .returned (.string ⟨(elms s 200 0).toArray⟩) ∧ Below w.heap.size w w' := by
  have CH := hid (fun (i : Nat) (hi : i < 256) V => rHasB_any s i V hi)
  have CW := hid (fun (i : Nat) (hi : i < 256) (hk : okb (UInt8.ofNat i) = true) V => show Calls Tryd.prog 65 #[.int .i64 (i : Int), .bool true] V fun e w' => e = .returned (.string ⟨(wch spJ (UInt8.ofNat i)).toArray⟩) ∧ Below V.heap.size V w' from by have := written_any i true V hi; rw [wrn_J ⟨i, hi⟩ hk] at this; exact this)
  obtain ⟨E, hE⟩ : ∃ E, E = elms s 200 0 := ⟨_, rfl⟩
  have HS := hid hs
  have HE := hid hE
  rw [← hE]
  clear hE hs
  obtain ⟨W, hW⟩ : ∃ W, W = w.alloc (.cells #[.int .u64 (ws s 0 : Int), .int .u64 (ws s 1 : Int), .int .u64 (ws s 2 : Int), .int .u64 (ws s 3 : Int)] 24) := ⟨_, rfl⟩
  have HX := hid (show W.heap[w.heap.size]? = some (.cells #[.int .u64 (ws s 0 : Int), .int .u64 (ws s 1 : Int), .int .u64 (ws s 2 : Int), .int .u64 (ws s 3 : Int)] 24 (0, 0)) ∧ Below w.heap.size w W from by rw [hW]; exact ⟨alloc_new _ _, bel1 _ _⟩)
  go_enter Tryd.func66, Tryd.ntmps66
  go_wp2_with fail
  rw [← hW]
  clear hW
  go_loopg [3, 4] 256 (fun k s3 s4 wr => ∃ (b f : Nat) (S : ByteArray), s3 = .string S ∧ s4 = .int .i64 (b : Int) ∧ b + k = 256 ∧ 127 ≤ b + f ∧ S.data.toList ++ elms s f b = E ∧ S.size ≤ 10 * b ∧ wr.heap[w.heap.size]? = some (.cells #[.int .u64 (ws s 0 : Int), .int .u64 (ws s 1 : Int), .int .u64 (ws s 2 : Int), .int .u64 (ws s 3 : Int)] 24 (0, 0)) ∧ Below w.heap.size w wr)
  case atStart => exact ⟨0, 200, ⟨#[]⟩, rfl, rfl, by omega, by omega, by rw [HE.out]; rfl, by decide, HX.out.1, HX.out.2⟩
  case round =>
    obtain ⟨b, f, S, rfl, rfl, hk, hf, hSE, hSz, hbx, hbw⟩ := hrel
    obtain ⟨p0, p1, p2, p3⟩ := cells4 hbx
    by_cases hlt : b < 256
    · have hlt' : (b : Int) < 256 := by omega
      have C := hid (CH.out b hlt)
      have HA := hid (And.intro hf (And.intro hSE (And.intro hSz (And.intro hbx (And.intro hbw (And.intro hlt hk))))))
      clear hf hSE hSz hbx hbw hlt hk
      cases hc : nt s b
      · rw [hc] at C
        go_wp2_with fail
        refine (C.out _).mono ?_
        rintro e V ⟨rfl, b1⟩
        have B1 := hid b1
        clear b1
        go_wp2
        go_roundg (256 - (b + 1))
        case measure => have := HA.out.2.2.2.2.2; omega
        case rel =>
          obtain ⟨h1, h2, h3, h4, h5, h6, h7⟩ := HA.out
          refine ⟨b + 1, f - 1, S, rfl, by go_num, by omega, by omega, ?_, by omega, (B1.out.block _ (heap_lt h4)).trans h4, h5.trans (B1.out.mono h5.size)⟩
          rw [← h2]
          cases f with
          | zero => rw [elms_far (by omega), elms_far (by omega)]
          | succ f => rw [elms_skip hc]; rfl
      · rw [hc] at C
        have HC := hid hc
        have hok := nt_okb HS.out HA.out.2.2.2.2.2.1 hc
        have hkb := (nt_ok HS.out HA.out.2.2.2.2.2.1 hc).1
        have HK := hid (And.intro hok hkb)
        clear hc hkb
        by_cases h32 : 32 ≤ b
        · have g32 : (32 : Int) ≤ (b : Int) := by omega
          have H32 := hid (show b ≤ 126 by omega)
          clear hok
          go_wp2_with fail
          refine (C.out _).mono ?_
          rintro e V ⟨rfl, b1⟩
          have B1 := hid b1
          clear b1 p0 p1 p2 p3
          go_wp2_with fail
          obtain ⟨go, rfl⟩ : ∃ go, go = gk := ⟨_, rfl⟩
          go_loopg [5] (126 - b) (fun k s5 Vr => ∃ (x g : Nat), s5 = .int .i64 (x : Int) ∧ x + k = 126 ∧ b ≤ x ∧ lor s g x = lor s 256 b ∧ 126 ≤ x + g ∧ Vr.heap[w.heap.size]? = some (.cells #[.int .u64 (ws s 0 : Int), .int .u64 (ws s 1 : Int), .int .u64 (ws s 2 : Int), .int .u64 (ws s 3 : Int)] 24 (0, 0)) ∧ Below w.heap.size w Vr)
          case atStart =>
            obtain ⟨h1, h2, h3, h4, h5, h6, h7⟩ := HA.out
            exact ⟨b, 256, rfl, by have := H32.out; omega, by omega, rfl, by omega, (B1.out.block _ (heap_lt h4)).trans h4, h5.trans (B1.out.mono h5.size)⟩
          case round =>
            obtain ⟨x, g, rfl, hx, hbx', hlor, hg, hbq, hbv⟩ := hrel
            obtain ⟨p0, p1, p2, p3⟩ := cells4 hbq
            have HZ := hid (And.intro hbq (And.intro hbv (And.intro hlor hg)))
            clear hbq hbv hlor hg
            have hv1 : IntKind.i64.wrap ((x : Int) + 1) = (x : Int) + 1 := by rw [wrapIn] <;> omega
            by_cases hx6 : x < 126
            · have hx7 : (x : Int) < 126 := by omega
              have CX := hid (show ∀ V, Calls Tryd.prog 57 #[.agg #[.int .u64 (ws s 0 : Int), .int .u64 (ws s 1 : Int), .int .u64 (ws s 2 : Int), .int .u64 (ws s 3 : Int)], .int .i64 ((x : Int) + 1)] V fun e w' => e = .returned (.bool (nt s (x + 1))) ∧ Below V.heap.size V w' from fun V => by have := CH.out (x + 1) (by omega) V; rw [Int.natCast_add] at this; exact this)
              cases hn : nt s (x + 1)
              · rw [hn] at CX
                have HN := hid (show x = lor s 256 b by rw [← HZ.out.2.2.1, lor_stop hn])
                go_wp2_with fail
                refine (CX.out _).mono ?_
                rintro e U ⟨rfl, b2⟩
                have HU := hid (HZ.out.2.1.trans (b2.mono HZ.out.2.1.size))
                have HUb := hid ((b2.block _ (heap_lt HZ.out.1)).trans HZ.out.1)
                clear b2 hn
                by_cases h2 : b + 2 ≤ x
                · have hlr := lor_spec s 256 b
                  have hxb : x ≤ 126 := by omega
                  have hkx := hid (nt_ok HS.out (n := x) (by omega) (hlr.2.1 x (by omega) (by rw [← HN.out]; omega))).1
                  have g2 : (2 : Int) ≤ (x : Int) - (b : Int) := by omega
                  have hv2 : IntKind.i64.wrap ((x : Int) - (b : Int)) = (x : Int) - (b : Int) := by rw [wrapIn] <;> omega
                  obtain ⟨A, hA⟩ : ∃ A : ByteArray, A = ⟨(wch spJ (UInt8.ofNat b)).toArray⟩ := ⟨_, rfl⟩
                  obtain ⟨B, hB⟩ : ∃ B : ByteArray, B = ⟨(wch spJ (UInt8.ofNat x)).toArray⟩ := ⟨_, rfl⟩
                  have CB := hid (CW.out b HA.out.2.2.2.2.2.1 HK.out.2)
                  have CL := hid (CW.out x (by omega) hkx.out)
                  rw [← hA] at CB
                  rw [← hB] at CL
                  have hAs : A.size ≤ 2 := by rw [hA]; exact wch_size _ _
                  have hBs : B.size ≤ 2 := by rw [hB]; exact wch_size _ _
                  have hSs : S.size ≤ 10 * b := HA.out.2.2.1
                  have n1 : ¬ 9223372036854775807 < S.size + A.size := by omega
                  have n2 : ¬ 9223372036854775807 < S.size + A.size + 1 := by omega
                  have n3 : ¬ 9223372036854775807 < S.size + A.size + 1 + B.size := by omega
                  have HQ := hid (And.intro hA (And.intro hB (And.intro hAs (And.intro hBs (And.intro hSs (And.intro h2 hxb))))))
                  clear hA hB hAs hBs hSs hlr h2 hxb
                  go_wp2_with fail
                  refine (CB.out _).mono ?_
                  rintro e U1 ⟨rfl, b3⟩
                  have HU1 := hid (And.intro (HU.out.trans (b3.mono HU.out.size)) ((b3.block _ (heap_lt HUb.out)).trans HUb.out))
                  clear b3
                  go_wp2_with fail
                  refine (CL.out _).mono ?_
                  rintro e U2 ⟨rfl, b3⟩
                  have HU2 := hid (And.intro (HU1.out.1.trans (b3.mono HU1.out.1.size)) ((b3.block _ (heap_lt HU1.out.2)).trans HU1.out.2))
                  clear b3
                  go_wp2
                  go_roundg (256 - (x + 1))
                  case measure => have := HA.out.2.2.2.2.2.2; have := HQ.out.2.2.2.2.2; omega
                  case rel =>
                    obtain ⟨h1, h2, h3, h4, h5, h6, h7⟩ := HA.out
                    obtain ⟨r1, r2, r3, r4, r5, r6, r7⟩ := HQ.out
                    refine ⟨x + 1, f - 1, S ++ A ++ { data := #[45] } ++ B, rfl, by go_num, by omega, by omega, ?_, ?_, HU2.out.2, HU2.out.1⟩
                    · rw [← h2]
                      obtain ⟨f, rfl⟩ : ∃ g, f = g + 1 := ⟨f - 1, by omega⟩
                      rw [elms_run (by omega) HC.out (by rw [← HN.out]; exact r6), ← HN.out, r1, r2]
                      simp
                    · rw [ByteArray.size_append, ByteArray.size_append, ByteArray.size_append]
                      show S.size + A.size + 1 + B.size ≤ _
                      omega
                · have g2 : ¬ (2 : Int) ≤ (x : Int) - (b : Int) := by omega
                  have hv2 : IntKind.i64.wrap ((x : Int) - (b : Int)) = (x : Int) - (b : Int) := by rw [wrapIn] <;> omega
                  obtain ⟨A, hA⟩ : ∃ A : ByteArray, A = ⟨(wch spJ (UInt8.ofNat b)).toArray⟩ := ⟨_, rfl⟩
                  have CB := hid (CW.out b HA.out.2.2.2.2.2.1 HK.out.2)
                  rw [← hA] at CB
                  have hAs : A.size ≤ 2 := by rw [hA]; exact wch_size _ _
                  have hSs : S.size ≤ 10 * b := HA.out.2.2.1
                  have hb6 := (nt_ok HS.out HA.out.2.2.2.2.2.1 HC.out).2
                  have n1 : ¬ 9223372036854775807 < S.size + A.size := by omega
                  have HQ := hid (And.intro hA (And.intro hAs (And.intro hSs (And.intro h2 hb6))))
                  clear hA hAs hSs h2 hb6
                  go_wp2_with fail
                  refine (CB.out _).mono ?_
                  rintro e U1 ⟨rfl, b3⟩
                  have HU1 := hid (And.intro (HU.out.trans (b3.mono HU.out.size)) ((b3.block _ (heap_lt HUb.out)).trans HUb.out))
                  clear b3
                  go_wp2
                  go_roundg (256 - (b + 1))
                  case measure => have := HA.out.2.2.2.2.2; omega
                  case rel =>
                    obtain ⟨h1, h2, h3, h4, h5, h6, h7⟩ := HA.out
                    obtain ⟨r1, r3, r5, r6, r7⟩ := HQ.out
                    refine ⟨b + 1, f - 1, S ++ A, rfl, by go_num, by omega, by omega, ?_, ?_, HU1.out.2, HU1.out.1⟩
                    · rw [← h2]
                      obtain ⟨f, rfl⟩ : ∃ g, f = g + 1 := ⟨f - 1, by omega⟩
                      rw [elms_alone (by omega) HC.out (by rw [← HN.out]; exact r6), r1]
                      simp
                    · rw [ByteArray.size_append]; omega
              · rw [hn] at CX
                have HN := hid hn
                clear hn
                go_wp2_with fail
                refine (CX.out _).mono ?_
                rintro e U ⟨rfl, b2⟩
                have HU := hid (HZ.out.2.1.trans (b2.mono HZ.out.2.1.size))
                have HUb := hid ((b2.block _ (heap_lt HZ.out.1)).trans HZ.out.1)
                clear b2
                go_wp2
                go_roundg (gk - 1)
                case measure => omega
                case rel =>
                  obtain ⟨e1, e2, e3, e4⟩ := HZ.out
                  refine ⟨x + 1, g - 1, by go_num, by omega, by omega, ?_, by omega, HUb.out, HU.out⟩
                  rw [← e3]
                  cases g with
                  | zero => omega
                  | succ g => rw [lor, if_pos HN.out]; rfl
            · have hx7 : ¬ (x : Int) < 126 := by omega
              obtain rfl : x = 126 := by omega
              have HN := hid (show 126 = lor s 256 b by
                rw [← HZ.out.2.2.1, lor_stop]
                rw [← Bool.not_eq_true]; intro h
                have := nt_okb HS.out (n := 127) (by omega) h; omega)
              have HU := hid HZ.out.2.1
              have HUb := hid HZ.out.1
              by_cases h2 : b + 2 ≤ 126
              · have hlr := lor_spec s 256 b
                have hxb : 126 ≤ 126 := by omega
                have hkx := hid (nt_ok HS.out (n := 126) (by omega) (hlr.2.1 126 (by omega) (by rw [← HN.out]; omega))).1
                have g2 : (2 : Int) ≤ 126 - (b : Int) := by omega
                have hv2 : IntKind.i64.wrap (126 - (b : Int)) = 126 - (b : Int) := by rw [wrapIn] <;> omega
                obtain ⟨A, hA⟩ : ∃ A : ByteArray, A = ⟨(wch spJ (UInt8.ofNat b)).toArray⟩ := ⟨_, rfl⟩
                obtain ⟨B, hB⟩ : ∃ B : ByteArray, B = ⟨(wch spJ (UInt8.ofNat 126)).toArray⟩ := ⟨_, rfl⟩
                have CB := hid (CW.out b HA.out.2.2.2.2.2.1 HK.out.2)
                have CL := hid (CW.out 126 (by omega) hkx.out)
                rw [← hA] at CB
                rw [← hB] at CL
                have hAs : A.size ≤ 2 := by rw [hA]; exact wch_size _ _
                have hBs : B.size ≤ 2 := by rw [hB]; exact wch_size _ _
                have hSs : S.size ≤ 10 * b := HA.out.2.2.1
                have n1 : ¬ 9223372036854775807 < S.size + A.size := by omega
                have n2 : ¬ 9223372036854775807 < S.size + A.size + 1 := by omega
                have n3 : ¬ 9223372036854775807 < S.size + A.size + 1 + B.size := by omega
                have HQ := hid (And.intro hA (And.intro hB (And.intro hAs (And.intro hBs (And.intro hSs (And.intro h2 hxb))))))
                clear hA hB hAs hBs hSs hlr h2 hxb
                go_wp2_with fail
                refine (CB.out _).mono ?_
                rintro e U1 ⟨rfl, b3⟩
                have HU1 := hid (And.intro (HU.out.trans (b3.mono HU.out.size)) ((b3.block _ (heap_lt HUb.out)).trans HUb.out))
                clear b3
                go_wp2_with fail
                refine (CL.out _).mono ?_
                rintro e U2 ⟨rfl, b3⟩
                have HU2 := hid (And.intro (HU1.out.1.trans (b3.mono HU1.out.1.size)) ((b3.block _ (heap_lt HU1.out.2)).trans HU1.out.2))
                clear b3
                go_wp2
                go_roundg (256 - (126 + 1))
                case measure => have := HA.out.2.2.2.2.2.2; have := HQ.out.2.2.2.2.2; omega
                case rel =>
                  obtain ⟨h1, h2, h3, h4, h5, h6, h7⟩ := HA.out
                  obtain ⟨r1, r2, r3, r4, r5, r6, r7⟩ := HQ.out
                  refine ⟨126 + 1, f - 1, S ++ A ++ { data := #[45] } ++ B, rfl, by go_num, by omega, by omega, ?_, ?_, HU2.out.2, HU2.out.1⟩
                  · rw [← h2]
                    obtain ⟨f, rfl⟩ : ∃ g, f = g + 1 := ⟨f - 1, by omega⟩
                    rw [elms_run (by omega) HC.out (by rw [← HN.out]; exact r6), ← HN.out, r1, r2]
                    simp
                  · rw [ByteArray.size_append, ByteArray.size_append, ByteArray.size_append]
                    show S.size + A.size + 1 + B.size ≤ _
                    omega
              · have g2 : ¬ (2 : Int) ≤ 126 - (b : Int) := by omega
                have hv2 : IntKind.i64.wrap (126 - (b : Int)) = 126 - (b : Int) := by rw [wrapIn] <;> omega
                obtain ⟨A, hA⟩ : ∃ A : ByteArray, A = ⟨(wch spJ (UInt8.ofNat b)).toArray⟩ := ⟨_, rfl⟩
                have CB := hid (CW.out b HA.out.2.2.2.2.2.1 HK.out.2)
                rw [← hA] at CB
                have hAs : A.size ≤ 2 := by rw [hA]; exact wch_size _ _
                have hSs : S.size ≤ 10 * b := HA.out.2.2.1
                have hb6 := (nt_ok HS.out HA.out.2.2.2.2.2.1 HC.out).2
                have n1 : ¬ 9223372036854775807 < S.size + A.size := by omega
                have HQ := hid (And.intro hA (And.intro hAs (And.intro hSs (And.intro h2 hb6))))
                clear hA hAs hSs h2 hb6
                go_wp2_with fail
                refine (CB.out _).mono ?_
                rintro e U1 ⟨rfl, b3⟩
                have HU1 := hid (And.intro (HU.out.trans (b3.mono HU.out.size)) ((b3.block _ (heap_lt HUb.out)).trans HUb.out))
                clear b3
                go_wp2
                go_roundg (256 - (b + 1))
                case measure => have := HA.out.2.2.2.2.2; omega
                case rel =>
                  obtain ⟨h1, h2, h3, h4, h5, h6, h7⟩ := HA.out
                  obtain ⟨r1, r3, r5, r6, r7⟩ := HQ.out
                  refine ⟨b + 1, f - 1, S ++ A, rfl, by go_num, by omega, by omega, ?_, ?_, HU1.out.2, HU1.out.1⟩
                  · rw [← h2]
                    obtain ⟨f, rfl⟩ : ∃ g, f = g + 1 := ⟨f - 1, by omega⟩
                    rw [elms_alone (by omega) HC.out (by rw [← HN.out]; exact r6), r1]
                    simp
                  · rw [ByteArray.size_append]; omega
        · have g32 : ¬ (32 : Int) ≤ (b : Int) := by omega
          have HN := hid (show b = 9 ∨ b = 10 by omega)
          clear hok
          go_wp2_with fail
          refine (C.out _).mono ?_
          rintro e V ⟨rfl, b1⟩
          have HU := hid (HA.out.2.2.2.2.1.trans (b1.mono HA.out.2.2.2.2.1.size))
          have HUb := hid ((b1.block _ (heap_lt HA.out.2.2.2.1)).trans HA.out.2.2.2.1)
          clear b1 p0 p1 p2 p3
          go_wp2_with fail
          obtain ⟨go, rfl⟩ : ∃ go, go = gk := ⟨_, rfl⟩
          go_loopg [5] 0 (fun k s5 Vr => s5 = .int .i64 (b : Int) ∧ Vr = V)
          case atStart => exact ⟨rfl, rfl⟩
          case round =>
            obtain ⟨rfl, rfl⟩ := hrel
            have h2 : ¬ b + 2 ≤ b := by omega
            have g2 : ¬ (2 : Int) ≤ (b : Int) - (b : Int) := by omega
            have hv2 : IntKind.i64.wrap ((b : Int) - (b : Int)) = (b : Int) - (b : Int) := by rw [wrapIn] <;> omega
            have hv3 : (b : Int) - (b : Int) = 0 := by omega
            obtain ⟨A, hA⟩ : ∃ A : ByteArray, A = ⟨(wch spJ (UInt8.ofNat b)).toArray⟩ := ⟨_, rfl⟩
            have CB := hid (CW.out b HA.out.2.2.2.2.2.1 HK.out.2)
            rw [← hA] at CB
            have hAs : A.size ≤ 2 := by rw [hA]; exact wch_size _ _
            have hSs : S.size ≤ 10 * b := HA.out.2.2.1
            have hb6 := (nt_ok HS.out HA.out.2.2.2.2.2.1 HC.out).2
            have n1 : ¬ 9223372036854775807 < S.size + A.size := by omega
            have HQ := hid (And.intro hA (And.intro hAs (And.intro hSs (And.intro h2 hb6))))
            clear hA hAs hSs h2 hb6
            go_wp2_with fail
            refine (CB.out _).mono ?_
            rintro e U1 ⟨rfl, b3⟩
            have HU1 := hid (And.intro (HU.out.trans (b3.mono HU.out.size)) ((b3.block _ (heap_lt HUb.out)).trans HUb.out))
            clear b3
            go_wp2
            go_roundg (256 - (b + 1))
            case measure => have := HA.out.2.2.2.2.2; omega
            case rel =>
              obtain ⟨h1, h2, h3, h4, h5, h6, h7⟩ := HA.out
              obtain ⟨r1, r3, r5, r6, r7⟩ := HQ.out
              refine ⟨b + 1, f - 1, S ++ A, rfl, by go_num, by omega, by omega, ?_, ?_, HU1.out.2, HU1.out.1⟩
              · rw [← h2]
                obtain ⟨f, rfl⟩ : ∃ g, f = g + 1 := ⟨f - 1, by omega⟩
                rw [elms_alone (by omega) HC.out (lor_low HS.out HN.out), r1]
                simp
              · rw [ByteArray.size_append]; omega
    · have hin : ¬ (b : Int) < 256 := by omega
      have HA := hid (And.intro hSE hbw)
      clear hSE hbw hbx hf hSz
      go_wp2
      go_ret
      refine ⟨?_, HA.out.2⟩
      have h1 := HA.out.1
      rw [elms_far (by omega), List.append_nil] at h1
      rw [← h1]; rfl
end Go.Proofs.YtednoideboeehaaDoor
end
section
set_option linter.unusedSimpArgs false
set_option linter.unusedVariables false
namespace Go.Proofs.YtednoideboeehaaDoor
open Go.RowKit Bs Rg Go.Frame
attribute [local go_sem] eq_zero eq_set

theorem rOne_any (w : World) : Calls Tryd.prog 86 #[.agg #[.int .u64 0, .int .u64 0, .int .u64 0, .int .u64 0], .int .i64 10] w fun e w' => e = .returned (.agg #[.int .u64 (ws (one 10) 0 : Int), .int .u64 (ws (one 10) 1 : Int), .int .u64 (ws (one 10) 2 : Int), .int .u64 (ws (one 10) 3 : Int)]) ∧ Below w.heap.size w w' := by
  have h := rWith_any (fun _ => false) 10 w (by decide)
  have h2 := sv_to (s := one 10) (add_one 10)
  rw [show (10 : UInt8).toNat = 10 from rfl] at h2
  rw [show sv (fun _ => false) = .agg #[.int .u64 0, .int .u64 0, .int .u64 0, .int .u64 0] by unfold sv; rw [wd_false, wd_false, wd_false, wd_false]; rfl, h2] at h
  exact h
set_option maxRecDepth 100000 in
set_option maxHeartbeats 4000000 in
theorem rDot_any (w : World) : Calls Tryd.prog 64 #[] w fun e w' => e = .returned (.agg #[.int .u64 (ws dot 0 : Int), .int .u64 (ws dot 1 : Int), .int .u64 (ws dot 2 : Int), .int .u64 (ws dot 3 : Int)]) ∧ Below w.heap.size w w' := by
  have C1 := hid (fun V => rOne_any V)
  have C2 := hid (fun V => rNotB_any (one 10) V)
  rw [show cpl (one 10) = dot from rfl] at C2
  obtain ⟨W, hW⟩ : ∃ W, W = w.alloc zset := ⟨_, rfl⟩
  have HX := hid (show W.heap[w.heap.size]? = some (.cells #[.int .u64 0, .int .u64 0, .int .u64 0, .int .u64 0] 24 (0, 0)) ∧ Below w.heap.size w W from by rw [hW]; exact ⟨alloc_new _ _, bel1 _ _⟩)
  unfold zset at hW
  go_enter Tryd.func64, Tryd.ntmps64
  go_wp2_with fail
  rw [← hW]
  clear hW
  refine (C1.out _).mono ?_
  rintro e W1 ⟨rfl, b1⟩
  have B1 := hid b1
  clear b1
  go_wp2_with fail
  refine (C2.out _).mono ?_
  rintro e W2 ⟨rfl, b2⟩
  have hb := B1.out.trans (b2.mono B1.out.size)
  have y0 := (hb.block _ (heap_lt HX.out.1)).trans HX.out.1
  have z := four_set (x' := .int .u64 (ws dot 0 : Int)) (y' := .int .u64 (ws dot 1 : Int)) (z' := .int .u64 (ws dot 2 : Int)) (u' := .int .u64 (ws dot 3 : Int)) y0
  obtain ⟨f0, f1, f2, f3⟩ := frozen4 y0
  obtain ⟨c0, c1, c2, c3⟩ := cells4 y0
  obtain ⟨r0, r1, r2, r3⟩ := cells4 z
  have HB := hid (HX.out.2.trans (hb.mono HX.out.2.size))
  clear y0 z hb b2
  go_wp2
  refine bodyPost_ret (v := .agg #[.int .u64 (ws dot 0 : Int), .int .u64 (ws dot 1 : Int), .int .u64 (ws dot 2 : Int), .int .u64 (ws dot 3 : Int)]) ?_ rfl ⟨rfl, ?_⟩
  · simp [results, Tryd.results64, go_sem, r0, r1, r2, r3]
  · exact below_put (below_put (below_put (below_put HB.out (by omega)) (by omega)) (by omega)) (by omega)
/-- The elements below i. -/
def fl (s : BS) (i : Nat) : List Nat := (List.range i).filter (nt s)
theorem fl_yes {s : BS} {i : Nat} (h : nt s i = true) : fl s (i + 1) = fl s i ++ [i] := by unfold fl; rw [List.range_succ, List.filter_append]; simp [h]
theorem fl_no {s : BS} {i : Nat} (h : nt s i = false) : fl s (i + 1) = fl s i := by unfold fl; rw [List.range_succ, List.filter_append]; simp [h]
theorem fl_len (s : BS) (i : Nat) : (fl s i).length ≤ i := by unfold fl; have := List.length_filter_le (nt s) (List.range i); simpa using this
theorem fmtS_eq (s : BS) : fmtS s = if eqs s dot = true then [46] else match fl s 256 with
    | [b] => wch spO (UInt8.ofNat b)
    | _ => if wr s = true then 91 :: (elms s 200 0 ++ [93]) else 91 :: 94 :: (elms (cpl s) 200 0 ++ [93]) := by
  unfold fmtS
  have e1 : eqd s dot = eqs s dot := rfl
  rw [e1]
  split
  · rfl
  · unfold only
    change (match (match fl s 256 with | [b] => some (UInt8.ofNat b) | _ => none) with | some b => wch spO b | none => _) = _
    match fl s 256 with
    | [] => rfl
    | [b] => rfl
    | _ :: _ :: _ => rfl
theorem one_wr {s : BS} (hp : (wr s || wr (cpl s)) = true) {b : Nat} (h : fl s 256 = [b]) : wr s = true := by
  rw [Bool.or_eq_true] at hp
  rcases hp with hp | hp
  · exact hp
  · exfalso
    have h2 := (wr_nat.1 hp).2
    have m : ∀ x, x < 256 → (nt s x = true ↔ x = b) := fun x hx => by
      have : x ∈ fl s 256 ↔ nt s x = true := by unfold fl; rw [List.mem_filter]; simp [hx]
      rw [← this, h]; simp
    have k : ∀ x, x < 256 → x ≠ b → okb (UInt8.ofNat x) = true := fun x hx hn => h2 x hx (by
      have := m x hx
      show (!s (UInt8.ofNat x)) = true
      cases hq : s (UInt8.ofNat x)
      · rfl
      · exact absurd (this.1 hq) hn)
    have k0 := k 0 (by omega)
    have k1 := k 1 (by omega)
    by_cases e : b = 0
    · have := k1 (by omega); revert this; decide
    · have := k0 (by omega); revert this; decide
set_option maxRecDepth 100000 in
set_option maxHeartbeats 4000000 in
theorem rset_any (s : BS) (w : World) (hp : (wr s || wr (cpl s)) = true) :
    Calls Tryd.prog 42 #[.agg #[.int .u64 (ws s 0 : Int), .int .u64 (ws s 1 : Int), .int .u64 (ws s 2 : Int), .int .u64 (ws s 3 : Int)]] w fun e w' => e = .returned (.string ⟨(fmtS s).toArray⟩) ∧ Below w.heap.size w w' := by
  have CH := hid (fun (i : Nat) (hi : i < 256) V => rHasB_any s i V hi)
  have CD := hid (fun V => rDot_any V)
  have CW := hid (fun V => rwritable_any s V)
  have CN := hid (fun V => rNotB_any s V)
  obtain ⟨y, hy⟩ : ∃ y, y = wr s := ⟨_, rfl⟩
  obtain ⟨d, hd⟩ : ∃ d, d = eqs s dot := ⟨_, rfl⟩
  rw [← hy] at CW
  obtain ⟨R, hR⟩ : ∃ R, R = fmtS s := ⟨_, rfl⟩
  rw [← hR]
  have HP := hid (And.intro hp (And.intro hy (And.intro hd (hR.trans (fmtS_eq s)))))
  obtain ⟨W, hW⟩ : ∃ W, W = w.alloc (.cells #[.int .u64 (ws s 0 : Int), .int .u64 (ws s 1 : Int), .int .u64 (ws s 2 : Int), .int .u64 (ws s 3 : Int)] 24) := ⟨_, rfl⟩
  have HX := hid (show W.heap[w.heap.size]? = some (.cells #[.int .u64 (ws s 0 : Int), .int .u64 (ws s 1 : Int), .int .u64 (ws s 2 : Int), .int .u64 (ws s 3 : Int)] 24 (0, 0)) ∧ Below w.heap.size w W from by rw [hW]; exact ⟨alloc_new _ _, bel1 _ _⟩)
  clear hp hy hR
  go_enter Tryd.func42, Tryd.ntmps42
  go_upto_region 1 with fail
  rw [← hW]
  clear hW
  refine wp_region_below (by kernel_rfl) (by kernel_rfl) ?_
  intro X' f _ hf hs
  have k0 := fun x => (cells4 (((hf.out x).block _ (heap_lt HX.out.1)).trans HX.out.1)).1
  have k1 := fun x => (cells4 (((hf.out x).block _ (heap_lt HX.out.1)).trans HX.out.1)).2.1
  have k2 := fun x => (cells4 (((hf.out x).block _ (heap_lt HX.out.1)).trans HX.out.1)).2.2.1
  have k3 := fun x => (cells4 (((hf.out x).block _ (heap_lt HX.out.1)).trans HX.out.1)).2.2.2
  repeat (go_big_quiet_step (first
    | (go_at_call 64; exact calls_below hf hs (CD.out _))))
  refine wpQuiet_nil ?_
  intro w1 hw1
  have H1 := hid (And.intro ((hw1.block _ (heap_lt HX.out.1)).trans HX.out.1) (HX.out.2.trans (hw1.mono HX.out.2.size)))
  clear k0 k1 k2 k3 hf hs hw1
  simp only [← hd]
  clear hd
  cases d
  rotate_left
  · go_wp2
    go_ret
    refine ⟨?_, H1.out.2⟩
    have h := HP.out.2.2.2
    rw [if_pos HP.out.2.2.1.symm] at h
    rw [h]; rfl
  go_wp2_with fail
  go_loopg [3, 4, 5] 256 (fun k s3 s4 s5 wr => ∃ (i n o : Nat), s3 = .int .i64 (n : Int) ∧ s4 = .int .i64 (o : Int) ∧ s5 = .int .i64 (i : Int) ∧ i + k = 256 ∧ n = (fl s i).length ∧ o = (fl s i).getLastD 0 ∧ wr.heap[w.heap.size]? = some (.cells #[.int .u64 (ws s 0 : Int), .int .u64 (ws s 1 : Int), .int .u64 (ws s 2 : Int), .int .u64 (ws s 3 : Int)] 24 (0, 0)) ∧ Below w.heap.size w wr)
  case atStart => exact ⟨0, 0, 0, rfl, rfl, rfl, rfl, rfl, rfl, H1.out.1, H1.out.2⟩
  case round =>
    obtain ⟨i, n, o, rfl, rfl, rfl, hk, hn, ho, hbx, hbw⟩ := hrel
    obtain ⟨p0, p1, p2, p3⟩ := cells4 hbx
    by_cases hlt : i < 256
    · have hlt' : (i : Int) < 256 := by omega
      have C := hid (CH.out i hlt)
      have hni := fl_len s i
      rw [← hn] at hni
      have hv1 : IntKind.i64.wrap ((n : Int) + 1) = (n : Int) + 1 := by rw [wrapIn] <;> omega
      have HA := hid (And.intro hn (And.intro ho (And.intro hbx (And.intro hbw (And.intro hlt hk)))))
      clear hn ho hbx hbw hlt hk hni
      cases hc : nt s i
      · rw [hc] at C
        go_wp2_with fail
        refine (C.out _).mono ?_
        rintro e V ⟨rfl, b1⟩
        have B1 := hid b1
        clear b1
        go_wp2
        go_roundg (gk - 1)
        case measure => have := HA.out.2.2.2.2; omega
        case rel =>
          obtain ⟨h1, h2, h3, h4, h5, h6⟩ := HA.out
          exact ⟨i + 1, n, o, rfl, rfl, by go_num, by omega, by rw [fl_no hc]; exact h1, by rw [fl_no hc]; exact h2, (B1.out.block _ (heap_lt h3)).trans h3, h4.trans (B1.out.mono h4.size)⟩
      · rw [hc] at C
        go_wp2_with fail
        refine (C.out _).mono ?_
        rintro e V ⟨rfl, b1⟩
        have B1 := hid b1
        clear b1
        go_wp2
        go_roundg (gk - 1)
        case measure => have := HA.out.2.2.2.2; omega
        case rel =>
          obtain ⟨h1, h2, h3, h4, h5, h6⟩ := HA.out
          exact ⟨i + 1, n + 1, i, by go_num, rfl, by go_num, by omega, by rw [fl_yes hc, List.length_append, ← h1]; rfl, by rw [fl_yes hc]; simp, (B1.out.block _ (heap_lt h3)).trans h3, h4.trans (B1.out.mono h4.size)⟩
    · have hin : ¬ (i : Int) < 256 := by omega
      obtain rfl : i = 256 := by omega
      by_cases h1 : n = 1
      · subst h1
        obtain ⟨b, hb⟩ := (List.length_eq_one_iff).1 hn.symm
        have hob : o = b := by rw [ho, hb]; rfl
        obtain rfl : y = true := HP.out.2.1.trans (one_wr HP.out.1 hb)
        have hb6 : b < 256 ∧ nt s b = true := by
          have : b ∈ fl s 256 := by rw [hb]; simp
          unfold fl at this
          rw [List.mem_filter] at this
          simpa using this
        have CO := hid (fun V => show Calls Tryd.prog 65 #[.int .i64 (o : Int), .bool false] V fun e w' => e = .returned (.string ⟨(wch spO (UInt8.ofNat b)).toArray⟩) ∧ Below V.heap.size V w' from by
          have := written_any b false V hb6.1
          rw [wrn_O ⟨b, hb6.1⟩ ((wr_nat.1 HP.out.2.1.symm).2 b hb6.1 hb6.2)] at this
          rw [hob]; exact this)
        have HA := hid (And.intro hb (And.intro hbx hbw))
        clear hn ho hb hob hb6 hbx hbw
        go_wp2_with fail
        refine (CW.out _).mono ?_
        rintro e V ⟨rfl, b1⟩
        have B1 := hid b1
        clear b1
        go_wp2_with fail
        refine (CO.out _).mono ?_
        rintro e V2 ⟨rfl, b2⟩
        go_wp2
        go_ret
        have h3 := B1.out.trans (b2.mono B1.out.size)
        refine ⟨?_, HA.out.2.2.trans (h3.mono HA.out.2.2.size)⟩
        have h := HP.out.2.2.2
        rw [if_neg (by rw [← HP.out.2.2.1]; simp), HA.out.1] at h
        rw [h]; rfl
      · have g1 : ((n : Int) == 1) = false := by simp; omega
        have hR2 : R = if y = true then 91 :: (elms s 200 0 ++ [93]) else 91 :: 94 :: (elms (cpl s) 200 0 ++ [93]) := by
          have h := HP.out.2.2.2
          rw [if_neg (by rw [← HP.out.2.2.1]; simp)] at h
          rw [HP.out.2.1, h]
          match hm : fl s 256 with
          | [] => rfl
          | [b] => rw [hm] at hn; simp at hn; exact absurd hn h1
          | _ :: _ :: _ => rfl
        have HA := hid (And.intro hbx (And.intro hbw hR2))
        clear hn ho hbx hbw hR2 h1
        go_wp2_with fail
        refine (CW.out _).mono ?_
        rintro e V ⟨rfl, b1⟩
        have H2 := hid (And.intro ((b1.block _ (heap_lt HA.out.1)).trans HA.out.1) (HA.out.2.1.trans (b1.mono HA.out.2.1.size)))
        clear b1 p0 p1 p2 p3
        obtain ⟨p0, p1, p2, p3⟩ := cells4 H2.out.1
        cases y
        · have hwc : Rg.wr (cpl s) = true := by have h := HP.out.1; rw [← HP.out.2.1] at h; simpa using h
          have CE := hid (fun V => elements_any (cpl s) V (wr_iff.1 hwc).2)
          have hlen := elms_len (cpl s) 200 0
          obtain ⟨Q, hQ⟩ : ∃ Q : ByteArray, Q = ⟨(elms (cpl s) 200 0).toArray⟩ := ⟨_, rfl⟩
          rw [← hQ] at CE
          have hQs : Q.size ≤ 1000000 := by rw [hQ]; show (elms (cpl s) 200 0).toArray.size ≤ _; simp; omega
          have n1 : ¬ 9223372036854775807 < 2 + Q.size := by omega
          have n2 : ¬ 9223372036854775807 < 2 + Q.size + 1 := by omega
          have HQ := hid hQ
          clear hwc hlen hQ hQs
          go_wp2_with fail
          refine (CN.out _).mono ?_
          rintro e V2 ⟨rfl, b1⟩
          have H3 := hid (H2.out.2.trans (b1.mono H2.out.2.size))
          clear b1
          go_wp2_with fail
          refine (CE.out _).mono ?_
          rintro e V3 ⟨rfl, b1⟩
          go_wp2
          go_ret
          refine ⟨?_, H3.out.trans (b1.mono H3.out.size)⟩
          have h := HA.out.2.2
          rw [if_neg (by simp)] at h
          rw [h]
          show Ending.returned (.string ({ data := #[91, 94] } ++ Q ++ { data := #[93] })) = _
          congr 2
          apply ByteArray.ext
          rw [HQ.out]
          simp
        · have hwc : Rg.wr s = true := HP.out.2.1.symm
          have CE := hid (fun V => elements_any s V (wr_iff.1 hwc).2)
          have hlen := elms_len s 200 0
          obtain ⟨Q, hQ⟩ : ∃ Q : ByteArray, Q = ⟨(elms s 200 0).toArray⟩ := ⟨_, rfl⟩
          rw [← hQ] at CE
          have hQs : Q.size ≤ 1000000 := by rw [hQ]; show (elms s 200 0).toArray.size ≤ _; simp; omega
          have n1 : ¬ 9223372036854775807 < 1 + Q.size := by omega
          have n2 : ¬ 9223372036854775807 < 1 + Q.size + 1 := by omega
          have HQ := hid hQ
          clear hwc hlen hQ hQs
          go_wp2_with fail
          refine (CE.out _).mono ?_
          rintro e V3 ⟨rfl, b1⟩
          go_wp2
          go_ret
          refine ⟨?_, H2.out.2.trans (b1.mono H2.out.2.size)⟩
          have h := HA.out.2.2
          simp only [if_true] at h
          rw [h]
          show Ending.returned (.string ({ data := #[91] } ++ Q ++ { data := #[93] })) = _
          congr 2
          apply ByteArray.ext
          rw [HQ.out]
          simp
end Go.Proofs.YtednoideboeehaaDoor
end
