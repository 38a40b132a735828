/-
  RopeHistory, for every input: the law returns true and leaves its arguments as they read. No condition.
-/
import Derived.Test.YtaafnodabjbakaaRows
import Derived.Test.YtaafnodabjbakaaJ
import Derived.Test.YtaafnodabjbakaaFr
import Derived.ChangeOld
import Derived.Lib.SmallJoins
import Derived.Deep.LoopGhost
import Derived.SliceStrings
namespace Go.Proofs.Ytaafnodabjbakaa.ropeHistory
open Go.ChangeShapes Go.WideShapes Go.ChangeAt Go.RowKit Go.Frame Rp
open Go.ChangeMaps (open_string shut_string)

theorem own : ownKnob Try.prog.godebug = none := by kernel_rfl
theorem laidOut : laidOutB Try.prog = true := by kernel_rfl
theorem weightsAll_mem {H : Type} {P : Program} {e : TypeId} : ∀ {l : List (DataW H)} {d : DataW H}, d ∈ l → ∀ n ∈ d.weights P e, n ∈ DataW.weightsAll P e l
  | d' :: r, d, hd, n, hn => by
    simp only [DataW.weightsAll, List.mem_append]
    rcases List.mem_cons.1 hd with rfl | h
    · exact Or.inl hn
    · exact Or.inr (weightsAll_mem h n hn)
/-- A slice of edits that came in: nil, or a row of structs of three cells each. -/
def IsEdits (W : World) (a : Option Addr) (len cap : Nat) : Prop :=
  len = 0 ∨ ∃ (b off : Nat) (f : Nat → Int × Int × ByteArray), a = some ⟨b, off, none⟩ ∧ b < W.heap.size ∧ len ≤ cap ∧ cap ≤ maxLen ∧
    ∀ i, i < len → W.cell? ⟨b, off + i * 3, none⟩ = some (.int .i64 (f i).1) ∧ W.cell? ⟨b, off + i * 3 + 1, none⟩ = some (.int .i64 (f i).2.1) ∧ W.cell? ⟨b, off + i * 3 + 2, none⟩ = some (.string (f i).2.2) ∧ (f i).2.2.size ≤ 140737488351232

theorem add_at (b off k : Nat) : (⟨b, off, none⟩ : Addr).add k = ⟨b, off + k, none⟩ := by
  unfold Addr.add
  split <;> simp_all

theorem open_edits {H : Type} {enc : TypeId × Value → H} {w : World} {base : Nat} {spare : Nat → Bool} {held : Bool} {fuel : Nat} {a : Option Addr} {len cap : Nat} {x : DataW H × List MemPlace}
    (h : DataW.trod enc Try.prog w base spare held fuel 45 [.slice a len cap] = some x) (hz : ∀ n ∈ x.1.weights Try.prog 45, n ≤ reachBytes) : IsEdits w a len cap := by
  rcases Go.Deep.open_slice Try.underlying45 h with ⟨hc, _⟩ | ⟨y, l, c, m, n, D, Pl, hc, _, hl, hm, hmm, hxe, hx⟩
  · simp at hc
    exact .inl hc.2.1
  · simp at hc
    obtain ⟨rfl, rfl, rfl⟩ := hc
    by_cases h0 : len = 0
    · exact .inl h0
    have c32 : Try.prog.cellsOf 32 = 3 := by kernel_rfl
    have hlm : len ≤ m := by rw [hmm]; split <;> omega
    have each : ∀ i, i < len → ∃ q : Int × Int × ByteArray, w.cell? (y.add (i * 3)) = some (.int .i64 q.1) ∧ w.cell? (y.add (i * 3 + 1)) = some (.int .i64 q.2.1) ∧ w.cell? (y.add (i * 3 + 2)) = some (.string q.2.2) ∧ q.2.2.size ≤ 140737488351232 := by
      intro i hi
      obtain ⟨cs', h1, h2⟩ := hx i (by omega)
      rw [c32] at h1
      obtain ⟨_, hlen, hcell⟩ := World.cells?_some h1
      match cs', hlen with
      | [v0, v1, v2], _ =>
        obtain ⟨y0, y1, y2, k, hD, _, g0, g1, g2⟩ := Go.Deep.trod_struct3 Try.underlying32 h2
        have e3 : Try.prog.cellsOf 3 = 1 := by kernel_rfl
        have e9 : Try.prog.cellsOf 9 = 1 := by kernel_rfl
        simp [e3] at g0 g1
        simp [e9] at g2
        obtain ⟨q0, hq0, _, _⟩ := DataW.trod_int Try.underlying3 g0
        obtain ⟨q1, hq1, _, _⟩ := DataW.trod_int Try.underlying3 g1
        obtain ⟨q2, hq2, hy2, _⟩ := DataW.trod_string Try.underlying9 g2
        obtain rfl : v0 = .int .i64 q0 := by simpa using hq0
        obtain rfl : v1 = .int .i64 q1 := by simpa using hq1
        obtain rfl : v2 = .string q2 := by simpa using hq2
        have u0 := hcell 0 (by omega)
        have u1 := hcell 1 (by omega)
        have u2 := hcell 2 (by omega)
        rw [Go.Deep.add_add] at u0 u1 u2
        have hz2 : q2.size ≤ 140737488351232 := by
          subst hxe
          simp only [Prod.mk.injEq] at hD
          refine hz _ ?_
          have hmem : D i ∈ (List.range len).map D := List.mem_map.2 ⟨i, by simpa using hi, rfl⟩
          have e : q2.size ∈ (D i).weights Try.prog 32 := by
            rw [hD.1]
            have hl2 : q2.size = q2.data.toList.length := by rw [Array.length_toList]; rfl
            clear hl2
            simp [DataW.weights, Try.underlying32, DataW.weightsEach, hy2]
          simp only [DataW.weights, Try.underlying45, List.mem_cons, List.mem_append]
          exact .inr (.inl (weightsAll_mem hmem _ e))
        exact ⟨(q0, q1, q2), by simpa using u0, by simpa using u1, by simpa using u2, hz2⟩
    obtain ⟨f, hf⟩ : ∃ f : Nat → Int × Int × ByteArray, ∀ i, i < len → w.cell? (y.add (i * 3)) = some (.int .i64 (f i).1) ∧ w.cell? (y.add (i * 3 + 1)) = some (.int .i64 (f i).2.1) ∧ w.cell? (y.add (i * 3 + 2)) = some (.string (f i).2.2) ∧ (f i).2.2.size ≤ 140737488351232 :=
      ⟨fun i => if h : i < len then Classical.choose (each i h) else (0, 0, .empty), fun i hi => by simp only [hi, dif_pos]; exact Classical.choose_spec (each i hi)⟩
    obtain ⟨b, off, spot⟩ := y
    have hs0 := (hf 0 (by omega)).1
    obtain rfl : spot = none := by simpa [Addr.add] using World.cell?_spot hs0
    refine .inr ⟨b, off, f, rfl, ?_, hl, hm, fun i hi => ?_⟩
    · by_cases hb : b < w.heap.size
      · exact hb
      · exfalso
        have : w.cell? ⟨b, off, none⟩ = none := by unfold World.cell?; rw [Array.getElem?_eq_none (by simpa using hb)]
        simp [Addr.add] at hs0
        rw [this] at hs0; cases hs0
    · have := hf i hi
      rw [add_at, add_at, add_at] at this
      exact this

set_option maxRecDepth 100000 in
set_option maxHeartbeats 4000000 in
theorem walk (a0 : ByteArray) (b1 : Option Addr) (len1 cap1 : Nat) (w : World) (hE : IsEdits w b1 len1 cap1) :
    Calls Try.prog 7 #[.string a0, .slice b1 len1 cap1] w fun e w' => e = .returned (.bool true) ∧ Below w.heap.size w w' := by
  by_cases h : 1000 < a0.size
  · have h' : (1000 : Int) < (a0.size : Int) := by omega
    go_enter Try.func7, Try.ntmps7
    go_wp2_with fail
    refine (awake_any w).mono ?_
    rintro e w1 ⟨rfl, hb1⟩
    go_wp2
    go_ret
    exact ⟨rfl, hb1⟩
  have h' : (a0.size : Int) ≤ 1000 := by omega
  by_cases g : 40 < len1
  · have g' : (40 : Int) < (len1 : Int) := by omega
    go_enter Try.func7, Try.ntmps7
    go_wp2_with fail
    refine (awake_any w).mono ?_
    rintro e w1 ⟨rfl, hb1⟩
    go_wp2
    go_ret
    exact ⟨rfl, hb1⟩
  have g' : (len1 : Int) ≤ 40 := by omega
  go_enter Try.func7, Try.ntmps7
  go_wp2_with fail
  refine (New_any a0 w (by omega)).mono ?_
  rintro e w1 ⟨p, rfl, hp, hb1⟩
  go_wp2_with fail
  go_loopg [0, 6] len1 (fun k s0 s6 wr => ∃ (i : Nat) (s : ByteArray) (r : Option Addr), s0 = .string s ∧ s6 = .int .i64 i ∧ i + k = len1 ∧ s.size ≤ 2000 ∧ Bx wr w1.heap.size (.pointer r) 26 ∧ Rope wr r s.data.toList ∧ Below w.heap.size w wr ∧ w1.heap.size < wr.heap.size)
  case atStart =>
    refine ⟨0, a0, p, rfl, rfl, by omega, by omega, alloc_new _ _, hp.below ((Below.refl _ _).alloc (Nat.le_refl _) _), hb1.alloc hb1.size _, by simp⟩
  case round =>
    obtain ⟨i, s, r, rfl, rfl, hk, hs, hB, hr, hb, hlt⟩ := hrel
    by_cases hi : i < len1
    · have hi1 : (i : Int) < (len1 : Int) := by omega
      have hi0 : (0 : Int) ≤ (i : Int) := by omega
      have hl : ¬ len1 = 0 := by omega
      obtain ⟨b, off, f, rfl, hblt, hlc, hcm, hf⟩ := hE.resolve_left hl
      obtain ⟨f0, f1, f2, fz⟩ := hf i hi
      obtain ⟨a, d, ins, hfi⟩ : ∃ a d ins, f i = (a, d, ins) := ⟨_, _, _, rfl⟩
      rw [hfi] at f0 f1 f2 fz
      have fz' : ins.size ≤ 140737488351232 := fz
      clear fz
      have KE := hid (show ∀ W', Below w.heap.size w W' → W'.cell? ⟨b, off + i * 3, none⟩ = some (.int .i64 a) ∧ W'.cell? ⟨b, off + i * 3 + 1, none⟩ = some (.int .i64 d) ∧ W'.cell? ⟨b, off + i * 3 + 2, none⟩ = some (.string ins) from fun W' hb =>
        ⟨(hb.cell (p := ⟨b, off + i * 3, none⟩) hblt).trans f0, (hb.cell (p := ⟨b, off + i * 3 + 1, none⟩) hblt).trans f1, (hb.cell (p := ⟨b, off + i * 3 + 2, none⟩) hblt).trans f2⟩)
      clear f0 f1 f2 hfi hf
      obtain ⟨f0, f1, f2⟩ := KE.out _ hb
      have hw : ¬ 9223372036854775807 < s.size + ins.size := by omega
      have e4 : IntKind.i64.wrap ((s.size : Int) + (ins.size : Int)) = (s.size : Int) + (ins.size : Int) := IntWalk.i64_in _ (by omega)
      by_cases hz : 2000 < s.size + ins.size
      · have hz' : (2000 : Int) < (s.size : Int) + (ins.size : Int) := by omega
        go_wp2_with fail
        refine (awake_any wr).mono ?_
        rintro e w2 ⟨rfl, hb2⟩
        go_wp2
        go_ret
        exact ⟨rfl, hb.trans (hb2.mono hb.size)⟩
      · have hz' : (s.size : Int) + (ins.size : Int) ≤ 2000 := by omega
        go_upto_region 9 with fail
        obtain ⟨t, n, ht, hn, hR, hR'⟩ := replace_pair s a d ins (by omega) (by omega)
        have HR := hid hR
        have HR' := hid hR'
        have HN := hid hn
        clear hR hR' hn
        have KB := hid (show ∀ W', Below wr.heap.size wr W' → Bx W' w1.heap.size (.pointer r) 26 from fun W' hb => (hb.block _ hlt).trans hB)
        have KS := hid (show ∀ W', Below wr.heap.size wr W' → W'.cell? ⟨w1.heap.size, 0, none⟩ = some (.pointer r) ∧ W'.cell? ⟨b, off + i * 3, none⟩ = some (.int .i64 a) ∧ W'.cell? ⟨b, off + i * 3 + 1, none⟩ = some (.int .i64 d) ∧ W'.cell? ⟨b, off + i * 3 + 2, none⟩ = some (.string ins) from fun W' hb' =>
          ⟨(KB.out _ hb').cell, KE.out _ (hb.trans (hb'.mono hb.size))⟩)
        obtain ⟨k3, _, _, _⟩ := KS.out _ (Below.refl _ wr)
        go_cut [7, 8] from 41 to 49 (fun s7 s8 wx => ∃ (B : Nat) (q : Option Addr), s7 = .pointer (some ⟨B, 0, none⟩) ∧ s8 = .int .i64 n ∧ Bx wx B (.pointer q) 26 ∧ Rope wx q t.data.toList ∧ Below wr.heap.size wr wx ∧ wr.heap.size ≤ B)
        case first =>
          go_region_held3 (fun W' => W'.cell? ⟨w1.heap.size, 0, none⟩ = some (.pointer r) ∧ W'.cell? ⟨b, off + i * 3, none⟩ = some (.int .i64 a) ∧ W'.cell? ⟨b, off + i * 3 + 1, none⟩ = some (.int .i64 d) ∧ W'.cell? ⟨b, off + i * 3 + 2, none⟩ = some (.string ins))
            (first
              | exact ⟨k3, f0, f1, f2⟩
              | exact KS.out _ g1
              | exact KS.out _ (g1.alloc g1.size _)
              | exact KS.out _ (g1.setCell (Nat.le_refl _) _)
              | exact KS.out _ ((Below.refl _ _).alloc (Nat.le_refl _) _)
              | exact KS.out _ ((Below.refl _ _).alloc (Nat.le_refl _) _).drew)
            (first
              | (go_at_call 15; (with_reducible refine (HR.out r wr.drew (hr.below (Below.refl _ _).drew)).mono ?_); rintro e y1 ⟨q, rfl, s1, g1'⟩; have g1 := undrew g1')
              | (go_at_call 15; refine (HR.out r (wr.alloc _).drew (hr.below ((Below.refl _ _).alloc (Nat.le_refl _) _).drew)).mono ?_; rintro e y1 ⟨q, rfl, s1, g1'⟩; have x2 := box_after wr _ _ (undrew g1'); have c0 := cell_of_one x2; have c1 := free_of_one x2; have g1 := ((Below.refl wr.heap.size wr).alloc (Nat.le_refl _) _).trans ((undrew g1').mono (by simp))))
          all_goals (go_wp2_with fail; go_meet)
          · exact ⟨_, _, rfl, rfl, alloc_new _ _, s1.below ((Below.refl _ _).alloc (Nat.le_refl _) _), g1.alloc g1.size _, g1.size⟩
          · exact ⟨_, _, rfl, rfl, setCell_box x2, s1.setBox x2, g1.setCell (Nat.le_refl _) _, Nat.le_refl _⟩
        case rest =>
          obtain ⟨B, q, rfl, rfl, hB2, hq, hbx, hBge⟩ := hcut
          obtain ⟨m3, m0, m1, m2⟩ := KS.out _ hbx
          have KW := hid (show ∀ W', Below wc.heap.size wc W' → Bx W' B (.pointer q) 26 ∧ Bx W' w1.heap.size (.pointer r) 26 from fun W' hb' =>
            ⟨(hb'.block _ (heap_lt hB2)).trans hB2, KB.out _ (hbx.trans (hb'.mono hbx.size))⟩)
          clear hB2
          have hbw := hb.trans (hbx.mono hb.size)
          rcases HN.out with rfl | rfl
          · go_wp2_with fail
            refine (HR'.out wc).mono ?_
            rintro e y2 ⟨rfl, g2⟩
            obtain ⟨z1, z2⟩ := KW.out _ g2
            have c1 := z1.cell
            have c2 := z2.cell
            have c3 := z2.free
            have hq2 := hq.below g2
            obtain ⟨y3, hy3⟩ : ∃ y3, y3 = y2.setCell ⟨w1.heap.size, 0, none⟩ (.pointer q) := ⟨_, rfl⟩
            have hx3 : Bx y3 w1.heap.size (.pointer q) 26 := by rw [hy3]; exact z2.set _
            have hq3 : Rope y3 q t.data.toList := by rw [hy3]; exact hq2.setBox z2
            have hb3 : Below w.heap.size w y3 := by rw [hy3]; exact (hbw.trans (g2.mono hbw.size)).setCell (p := ⟨w1.heap.size, 0, none⟩) hb1.size _
            have hs3 : w1.heap.size < y3.heap.size := heap_lt hx3
            have c4 := hx3.cell
            have c5 := hx3.cell
            rw [hy3] at c5
            have HY3 := hid hy3
            clear hy3 z1 z2
            go_wp2_with fail
            rw [← HY3.out]
            refine (holds_ok q t y3 hq3 (by omega)).mono ?_
            rintro e y4 ⟨rfl, g4⟩
            have hx4 : Bx y4 w1.heap.size (.pointer q) 26 := (g4.block _ hs3).trans hx3
            go_wp2
            go_roundg (gk - 1)
            case measure => omega
            case rel => exact ⟨i + 1, t, q, rfl, rfl, by omega, by omega, hx4, hq3.below g4, hb3.trans (g4.mono hb3.size), heap_lt hx4⟩
          · go_wp2_with fail
            refine (HR'.out wc).mono ?_
            rintro e y2 ⟨rfl, g2⟩
            obtain ⟨z1, z2⟩ := KW.out _ g2
            go_wp2
            go_roundg (gk - 1)
            case measure => omega
            case rel => exact ⟨i + 1, s, r, rfl, rfl, by omega, hs, z2, hr.below (hbx.trans (g2.mono hbx.size)), hbw.trans (g2.mono hbw.size), heap_lt z2⟩
    · have hi1 : ¬ (i : Int) < (len1 : Int) := by omega
      have kB := hB.cell
      go_wp2_with fail
      refine (joined_any r s wr hr (by omega)).mono ?_
      rintro e y1 ⟨rfl, g1⟩
      go_wp2_with fail
      refine (awake_any y1).mono ?_
      rintro e y2 ⟨rfl, g2'⟩
      have g2 := g1.trans (g2'.mono g1.size)
      go_wp2
      go_ret
      exact ⟨rfl, hb.trans (g2.mono hb.size)⟩

theorem lifted (os : Os) (started : os.Started) (H : Type) (enc : TypeId × Value → H) :
    ReturnsInHanded {} Try.checked os 7 .any (Rows.ropeHistorySpec.pre6 enc Try.prog Try.f7 Rows.ropeHistoryRow.domain false) (Rows.ropeHistorySpec.post enc Try.prog Try.f7 false true false false) := by
  refine Go.Frame.lifted (C := Try.checked) (tb := 4) own started (by kernel_rfl) Try.func7
    (ChangeSpec.witness6 (enc := enc) (C := Try.checked) false ⟨#[], #[.string ByteArray.empty, .slice none 0 0], []⟩ 8 (by kernel_rfl) (by kernel_rfl) (by kernel_rfl) (by kernel_rfl))
    laidOut (by kernel_rfl) (by kernel_rfl) Try.underlying4 rfl ?_ ?_
  · intro ds h
    have h : ds.length = 2 := h
    match ds, h with
    | [_, _], _ => rfl
  · intro W base args ds p hlen hval0 hA hsz0
    have hval : ∀ (j : Nat) t v, Try.f7.params[j]? = some t → args[j]? = some v → Value.okWide Try.prog W .any base t v := hval0
    have hA : DataW.TrodAll enc Try.prog W 0 (fun _ => true) true Try.f7.params.toList args.toList ds p := hA
    have hsz : (DataW.weightsEach Try.prog Try.f7.params.toList ds).all (· ≤ reachBytes) = true := hsz0
    rw [Try.params7] at hA hval hsz
    obtain ⟨v0, vs0, d0, ds0, p0, q0, hargs, hds, _, th0, tr0⟩ := trodAll_cons hA
    obtain ⟨v1, vs1, d1, ds1, p1, q1, rfl, rfl, _, th1, tr1⟩ := trodAll_cons tr0
    obtain ⟨rfl, rfl, _⟩ := trodAll_nil tr1
    obtain rfl : args = #[v0, v1] := by cases args; simp_all
    subst hds
    obtain ⟨a0, rfl, _, _, _⟩ := open_string Try.underlying9 (hval 0 9 v0 rfl rfl) th0
    obtain ⟨b1, len1, cap1, rfl⟩ := okWide_slice Try.underlying45 (hval 1 45 v1 rfl rfl)
    have hE : IsEdits W b1 len1 cap1 := by
      obtain ⟨fuel, hf⟩ := th1
      refine open_edits hf ?_
      intro n hn
      exact of_decide_eq_true (List.all_eq_true.1 hsz _ (DataW.weights_mem_each (j := 1) rfl rfl n hn))
    exact walk a0 b1 len1 cap1 W hE

theorem over : Rows.ropeHistoryRow.holds Try.pinned (OpenSpec.ofChange Rows.ropeHistorySpec) :=
  OpenClaim.holds_of_wide 7 Try.f7 rfl rfl rfl rfl rfl rfl rfl ⟨rfl, rfl, rfl, rfl, rfl⟩ rfl rfl rfl rfl rfl (by kernel_rfl) Try.func7 (by kernel_rfl)
    (of_decide_eq_true (by kernel_rfl)) (by unfold Func.isWrapper; first | (rw [if_pos (by decide +kernel)]; kernel_rfl) | (rw [if_neg (by decide +kernel)]; exact ⟨rfl, rfl⟩))
    (fun os started H enc _ => lifted os started H enc)

/-- THE STATEMENT -/
theorem proved : Rows.RopeHistorySaid :=
  over
#print axioms proved
end Go.Proofs.Ytaafnodabjbakaa.ropeHistory
