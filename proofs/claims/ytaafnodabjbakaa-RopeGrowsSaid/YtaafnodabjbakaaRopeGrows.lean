/-
  RopeGrows, for every input: the law returns true and leaves its arguments as they read. No condition.
-/
import Derived.Test.YtaafnodabjbakaaRows
import Derived.Test.YtaafnodabjbakaaJ
import Derived.WalkKit
import Derived.ProofKit
import Derived.OpenShut
import Derived.ShutString
import Derived.ChangeOld
import Derived.Below
import Derived.Lib.SmallJoins
import Derived.Deep.LoopGhost
import Derived.SliceStrings
namespace Go.Proofs.Ytaafnodabjbakaa.ropeGrows
open Go.ChangeShapes Go.WideShapes Go.ChangeAt Go.RowKit
open Go.ChangeMaps (open_string shut_string)
set_option linter.unusedVariables false      -- a walk need not use every 'w<i>' (that an integer argument fits its kind)

theorem own : ownKnob Try.prog.godebug = none := by kernel_rfl
theorem laidOut : laidOutB Try.prog = true := by kernel_rfl

/-- A slice of strings that came in: nil, or a row of cells. -/
def IsStrs (W : World) (a : Option Addr) (len cap : Nat) : Prop :=
  len = 0 ∨ ∃ (b off : Nat) (f : Nat → ByteArray), a = some ⟨b, off, none⟩ ∧ b < W.heap.size ∧ len ≤ cap ∧ cap ≤ maxLen ∧ ∀ i, i < len → W.cell? ⟨b, off + i, none⟩ = some (.string (f i))

theorem add_at (b off k : Nat) : (⟨b, off, none⟩ : Addr).add k = ⟨b, off + k, none⟩ := by
  unfold Addr.add
  split <;> simp_all

theorem open_strs1 {H : Type} {enc : TypeId × Value → H} {w : World} {base : Nat} {spare : Nat → Bool} {held : Bool} {fuel : Nat} {a : Option Addr} {len cap : Nat} {x : DataW H × List MemPlace}
    (h : DataW.trod enc Try.prog w base spare held fuel 55 [.slice a len cap] = some x) : IsStrs w a len cap := by
  rcases Go.Deep.open_slice1 Try.underlying55 (by kernel_rfl) h with ⟨hc, _⟩ | ⟨y, l, c, m, n, V, D, Pl, hc, _, hl, hm, hmm, _, hx⟩
  · simp at hc
    exact .inl hc.2.1
  · simp at hc
    obtain ⟨rfl, rfl, rfl⟩ := hc
    by_cases h0 : len = 0
    · exact .inl h0
    have hlm : len ≤ m := by rw [hmm]; split <;> omega
    have each : ∀ i, i < len → ∃ q : ByteArray, w.cell? (y.add i) = some (.string q) := by
      intro i hi
      obtain ⟨h1, h2⟩ := hx i (by omega)
      obtain ⟨q2, hq2, _, _⟩ := DataW.trod_string Try.underlying9 h2
      exact ⟨q2, by rw [h1]; simpa using hq2⟩
    obtain ⟨f, hf⟩ : ∃ f : Nat → ByteArray, ∀ i, i < len → w.cell? (y.add i) = some (.string (f i)) :=
      ⟨fun i => if h : i < len then Classical.choose (each i h) else .empty, fun i hi => by simp only [hi, dif_pos]; exact Classical.choose_spec (each i hi)⟩
    obtain ⟨b, off, spot⟩ := y
    have hs0 := hf 0 (by omega)
    obtain rfl : spot = none := by simpa [Addr.add] using World.cell?_spot hs0
    refine .inr ⟨b, off, f, rfl, ?_, hl, hm, fun i hi => ?_⟩
    · by_cases hb : b < w.heap.size
      · exact hb
      · exfalso
        have : w.cell? ⟨b, off, none⟩ = none := by unfold World.cell?; rw [Array.getElem?_eq_none (by simpa using hb)]
        simp [Addr.add] at hs0
        rw [this] at hs0; cases hs0
    · have := hf i hi
      rw [add_at] at this
      exact this

set_option maxRecDepth 100000 in
set_option maxHeartbeats 8000000 in
theorem walk (b0 : Option Addr) (len0 cap0 : Nat) (a1 : Bool) (w : World) (hE : IsStrs w b0 len0 cap0) :
    Calls Try.prog 10 #[.slice b0 len0 cap0, .bool a1] w fun e w' => e = .returned (.bool true) ∧ Below w.heap.size w w' := by
  by_cases g : 200 < len0
  · have g' : (200 : Int) < (len0 : Int) := by omega
    go_enter Try.func10, Try.ntmps10
    go_wp2_with fail
    refine (awake_any w).mono ?_
    rintro e w1 ⟨rfl, hb1⟩
    go_wp2
    go_ret
    exact ⟨rfl, hb1⟩
  have g' : (len0 : Int) ≤ 200 := by omega
  go_enter Try.func10, Try.ntmps10
  go_wp2_with fail
  go_loopg [6, 7] len0 (fun k s6 s7 wr => ∃ (i : Nat) (s : ByteArray) (r : Option Addr), s6 = .string s ∧ s7 = .int .i64 i ∧ i + k = len0 ∧ s.size ≤ 4070 ∧ Bx wr w.heap.size (.pointer r) 26 ∧ Rope wr r s.data.toList ∧ Below w.heap.size w wr ∧ w.heap.size < wr.heap.size)
  case atStart =>
    refine ⟨0, .empty, none, rfl, rfl, by omega, by simp, alloc_new _ _, rope_none _, (Below.refl _ _).alloc (Nat.le_refl _) _, by simp⟩
  case round =>
    obtain ⟨i, s, r, rfl, rfl, hk, hs, hB, hr, hb, hlt⟩ := hrel
    have kB := hB.cell
    by_cases hi : i < len0
    · have hi1 : (i : Int) < (len0 : Int) := by omega
      have hi0 : (0 : Int) ≤ (i : Int) := by omega
      have hl : ¬ len0 = 0 := by omega
      obtain ⟨b, off, f, rfl, hblt, hlc, hcm, hf⟩ := hE.resolve_left hl
      have f0 := hf i hi
      obtain ⟨x, hfi⟩ : ∃ x, f i = x := ⟨_, rfl⟩
      rw [hfi] at f0
      have KE := hid (show ∀ W', Below w.heap.size w W' → W'.cell? ⟨b, off + i, none⟩ = some (.string x) from fun W' hb => (hb.cell (p := ⟨b, off + i, none⟩) hblt).trans f0)
      clear f0 hfi hf
      have f0 := KE.out _ hb
      by_cases hx : 70 < x.size
      · have hx' : (70 : Int) < (x.size : Int) := by omega
        go_wp2_with fail
        refine (awake_any wr).mono ?_
        rintro e w2 ⟨rfl, hb2⟩
        go_wp2
        go_ret
        exact ⟨rfl, hb.trans (hb2.mono hb.size)⟩
      have hx' : (x.size : Int) ≤ 70 := by omega
      by_cases hz : 4000 < s.size
      · have hz' : (4000 : Int) < (s.size : Int) := by omega
        go_wp2_with fail
        refine (awake_any wr).mono ?_
        rintro e w2 ⟨rfl, hb2⟩
        go_wp2
        go_ret
        exact ⟨rfl, hb.trans (hb2.mono hb.size)⟩
      have hz' : (s.size : Int) ≤ 4000 := by omega
      have n01 : ¬ 9223372036854775807 < x.size + s.size := by omega
      have n02 : ¬ 9223372036854775807 < s.size + x.size := by omega
      have KB := hid (show ∀ W', Below wr.heap.size wr W' → Bx W' w.heap.size (.pointer r) 26 from fun W' hb => (hb.block _ hlt).trans hB)
      have KF := hid (show ∀ W', Below wr.heap.size wr W' → W'.cell? ⟨b, off + i, none⟩ = some (.string x) from fun W' hb' => KE.out _ (hb.trans (hb'.mono hb.size)))
      cases a1 with
      | true =>
        go_upto_region 11 with fail
        go_cut [6] from 31 to 43 (fun s6 wx => ∃ (r2 : Option Addr), s6 = .string (x ++ s) ∧ Bx wx w.heap.size (.pointer r2) 26 ∧ Rope wx r2 (x ++ s).data.toList ∧ Below w.heap.size w wx ∧ wr.heap.size ≤ wx.heap.size)
        case first =>
          go_region_with (first
            | (go_at_call 13; (with_reducible refine (New_any x wr.drew (by omega)).mono ?_); rintro e y1 ⟨q, rfl, s1, g1'⟩; have g1 := undrew g1'; have u1 := (KB.out _ g1).cell; have u2 := KF.out _ g1)
            | (go_at_call 14; (with_reducible refine (Concat_any q r _ _ y1 s1 (hr.below g1) (by simp; omega)).mono ?_); rintro e y2 ⟨r2, rfl, s2, g2'⟩; have g2 := g1.trans (g2'.mono g1.size); have x2 := KB.out _ g2; have u3 := x2.cell; have u4 := x2.free; have u5 := KF.out _ g2))
          all_goals (go_wp2_with fail; go_meet)
          all_goals exact ⟨_, rfl, x2.set _, by rw [ByteArray.data_append, Array.toList_append]; exact s2.setBox x2, (hb.trans (g2.mono hb.size)).setCell (Nat.le_refl _) _, by simp; exact g2.size⟩
        case rest =>
          obtain ⟨r2, rfl, hB2, hr2, hbx, hge⟩ := hcut
          obtain ⟨t, ht⟩ : ∃ t, t = x ++ s := ⟨_, rfl⟩
          have ht2 : t.size ≤ 4070 := by rw [ht, ByteArray.size_append]; omega
          rw [← ht] at hr2
          rw [← ht]
          have KX := hid (show ∀ W', Below wc.heap.size wc W' → Bx W' w.heap.size (.pointer r2) 26 from fun W' hb => (hb.block _ (by omega)).trans hB2)
          have v0 := hB2.cell
          clear hB hB2 ht
          go_wp2_with fail
          refine (Len_s r2 t wc hr2).mono ?_
          rintro e y1 ⟨rfl, g1⟩
          have v1 := (KX.out _ g1).cell
          go_wp2_with fail
          refine (Height_s r2 t y1 (hr2.below g1)).mono ?_
          rintro e y2 ⟨n, rfl, hn, g2'⟩
          have g2 := g1.trans (g2'.mono g1.size)
          have v2 := (KX.out _ g2).cell
          have n0 : (0 : Int) ≤ (n : Int) := by omega
          go_wp2_with fail
          refine (Height_s r2 t y2 (hr2.below g2)).mono ?_
          rintro e y3 ⟨m, rfl, hm, g3'⟩
          have g3 := g2.trans (g3'.mono g2.size)
          go_wp2_with fail
          refine (Bound_any t.size (by omega) y3).mono ?_
          rintro e y4 ⟨rfl, rfl⟩
          have hmi : (m : Int) ≤ (Rp.hb t.size : Int) := by omega
          go_wp2
          go_roundg (gk - 1)
          case measure => omega
          case rel => exact ⟨i + 1, t, r2, rfl, rfl, by omega, ht2, KX.out _ g3, hr2.below g3, hbx.trans (g3.mono hbx.size), by have := g3.size; omega⟩
      | false =>
        go_upto_region 12 with fail
        go_cut [6] from 44 to 56 (fun s6 wx => ∃ (r2 : Option Addr), s6 = .string (s ++ x) ∧ Bx wx w.heap.size (.pointer r2) 26 ∧ Rope wx r2 (s ++ x).data.toList ∧ Below w.heap.size w wx ∧ wr.heap.size ≤ wx.heap.size)
        case first =>
          go_region_with (first
            | (go_at_call 13; (with_reducible refine (New_any x wr.drew (by omega)).mono ?_); rintro e y1 ⟨q, rfl, s1, g1'⟩; have g1 := undrew g1'; have u1 := (KB.out _ g1).cell; have u2 := KF.out _ g1)
            | (go_at_call 14; (with_reducible refine (Concat_any r q _ _ y1 (hr.below g1) s1 (by simp; omega)).mono ?_); rintro e y2 ⟨r2, rfl, s2, g2'⟩; have g2 := g1.trans (g2'.mono g1.size); have x2 := KB.out _ g2; have u3 := x2.cell; have u4 := x2.free; have u5 := KF.out _ g2))
          all_goals (go_wp2_with fail; go_meet)
          all_goals exact ⟨_, rfl, x2.set _, by rw [ByteArray.data_append, Array.toList_append]; exact s2.setBox x2, (hb.trans (g2.mono hb.size)).setCell (Nat.le_refl _) _, by simp; exact g2.size⟩
        case rest =>
          obtain ⟨r2, rfl, hB2, hr2, hbx, hge⟩ := hcut
          obtain ⟨t, ht⟩ : ∃ t, t = s ++ x := ⟨_, rfl⟩
          have ht2 : t.size ≤ 4070 := by rw [ht, ByteArray.size_append]; omega
          rw [← ht] at hr2
          rw [← ht]
          have KX := hid (show ∀ W', Below wc.heap.size wc W' → Bx W' w.heap.size (.pointer r2) 26 from fun W' hb => (hb.block _ (by omega)).trans hB2)
          have v0 := hB2.cell
          clear hB hB2 ht
          go_wp2_with fail
          refine (Len_s r2 t wc hr2).mono ?_
          rintro e y1 ⟨rfl, g1⟩
          have v1 := (KX.out _ g1).cell
          go_wp2_with fail
          refine (Height_s r2 t y1 (hr2.below g1)).mono ?_
          rintro e y2 ⟨n, rfl, hn, g2'⟩
          have g2 := g1.trans (g2'.mono g1.size)
          have v2 := (KX.out _ g2).cell
          have n0 : (0 : Int) ≤ (n : Int) := by omega
          go_wp2_with fail
          refine (Height_s r2 t y2 (hr2.below g2)).mono ?_
          rintro e y3 ⟨m, rfl, hm, g3'⟩
          have g3 := g2.trans (g3'.mono g2.size)
          go_wp2_with fail
          refine (Bound_any t.size (by omega) y3).mono ?_
          rintro e y4 ⟨rfl, rfl⟩
          have hmi : (m : Int) ≤ (Rp.hb t.size : Int) := by omega
          go_wp2
          go_roundg (gk - 1)
          case measure => omega
          case rel => exact ⟨i + 1, t, r2, rfl, rfl, by omega, ht2, KX.out _ g3, hr2.below g3, hbx.trans (g3.mono hbx.size), by have := g3.size; omega⟩
    · have hi1 : ¬ (i : Int) < (len0 : Int) := by omega
      go_wp2_with fail
      refine (awake_any wr).mono ?_
      rintro e w2 ⟨rfl, hb2⟩
      have kB2 : w2.cell? ⟨w.heap.size, 0, none⟩ = some (.pointer r) := cell_of_one ((hb2.block _ hlt).trans hB)
      go_wp2_with fail
      refine (String_s r s w2 (hr.below hb2) (by omega)).mono ?_
      rintro e w3 ⟨rfl, hb3'⟩
      have hb3 := hb2.trans (hb3'.mono hb2.size)
      go_wp2
      go_ret
      exact ⟨rfl, hb.trans (hb3.mono hb.size)⟩

/-! ### THE ROW's STEP: WRITTEN OUT: LEAVE IT -/
set_option maxRecDepth 100000 in
theorem lifted (os : Os) (started : os.Started) (H : Type) (enc : TypeId × Value → H) :
    ReturnsInHanded {} Try.checked os 10 .any (Rows.ropeGrowsSpec.pre6 enc Try.prog Try.f10 Rows.ropeGrowsRow.domain false) (Rows.ropeGrowsSpec.post enc Try.prog Try.f10 false true false false) := by
  refine returnsInHanded_of_change (C := Try.checked) own started (by kernel_rfl) Try.func10
    (ChangeSpec.witness6 (enc := enc) (C := Try.checked) false ⟨#[], #[.slice none 0 0, .bool false], []⟩ 8 (by kernel_rfl) (by kernel_rfl) (by kernel_rfl) (by kernel_rfl)) ?_
  intro W base args ds gs before hval0 hW hcnd _
  have hval : ∀ (j : Nat) t v, Try.f10.params[j]? = some t → args[j]? = some v → Value.okWide Try.prog W .any base t v := hval0
  have hW' := hW
  obtain ⟨p, q, hA0, hV, rfl, hfz, hnd⟩ := hW
  have hA : DataW.TrodAll enc Try.prog W 0 (fun _ => true) true Try.f10.params.toList args.toList ds p := hA0
  rw [Try.params10] at hA hval
  obtain ⟨v0, vs0, d0, ds0, p0, q0, hargs, rfl, rfl, h0, r0⟩ := trodAll_cons hA
  obtain ⟨v1, vs1, d1, ds1, p1, q1, rfl, rfl, rfl, h1, r1⟩ := trodAll_cons r0
  obtain ⟨rfl, rfl, rfl⟩ := trodAll_nil r1
  obtain rfl : args = #[v0, v1] := by cases args; simp_all
  obtain ⟨rfl, rfl⟩ := trodVars_none hV
  obtain ⟨b0, len0, cap0, rfl⟩ := okWide_slice Try.underlying55 (hval 0 55 v0 rfl rfl)
  have k0 := h0
  have lt0 : ∀ x ∈ p0, x.block < W.heap.size := by obtain ⟨m, hm⟩ := k0; exact DataW.trod_lt m _ _ _ hm
  have hE : IsStrs W b0 len0 cap0 := by obtain ⟨fuel, hf⟩ := h0; exact open_strs1 hf
  obtain ⟨a1, rfl, rfl, rfl⟩ := open_bool Try.underlying4 (hval 1 4 v1 rfl rfl) h1
  clear hA0 hval0
  refine (walk b0 len0 cap0 a1 W hE).mono fun e W' ⟨he, bel⟩ => ?_
  subst he
  exact ⟨_, rfl, _, _, _, [], _, [], hW', trodAll_mk1 (shut_bool Try.underlying4 _), trodAll_cons_mk (Below.trod laidOut (by kernel_rfl) (of_decide_eq_true (by kernel_rfl)) k0 bel lt0) (trodAll_cons_mk (shut_bool Try.underlying4 _) trodAll_mk0), rfl, bel.frame _, fun h => by cases h⟩

theorem over : Rows.ropeGrowsRow.holds Try.pinned (OpenSpec.ofChange Rows.ropeGrowsSpec) :=
  OpenClaim.holds_of_wide 10 Try.f10 rfl rfl rfl rfl rfl rfl rfl ⟨rfl, rfl, rfl, rfl, rfl⟩ rfl rfl rfl rfl rfl (by kernel_rfl) Try.func10 (by kernel_rfl)
    (of_decide_eq_true (by kernel_rfl)) (by unfold Func.isWrapper; first | (rw [if_pos (by decide +kernel)]; kernel_rfl) | (rw [if_neg (by decide +kernel)]; exact ⟨rfl, rfl⟩))
    (fun os started H enc _ => lifted os started H enc)

/-- ████ THE STATEMENT ████ -/
theorem proved : Rows.RopeGrowsSaid :=
  over
#print axioms proved
end Go.Proofs.Ytaafnodabjbakaa.ropeGrows
