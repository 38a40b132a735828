/-
  Contract: awake.
-/
import Derived.Test.YtogpnlkjcdedlaaDoorBr
import Derived.Test.YtogpnlkjcdedlaaDoorMr
import Derived.Test.YtogpnlkjcdedlaaDoorMn
import Derived.Test.YtogpnlkjcdedlaaDoorVc
set_option linter.unusedSimpArgs false
set_option linter.unusedVariables false
namespace Go.Proofs.YtogpnlkjcdedlaaDoor
open Go.RowKit Bs Rg Nf Go.Frame
attribute [local go_sem] eq_zero eq_set

theorem cells6o {W : World} {b off : Nat} {xs : Array Value} {t : TypeId} (h : W.heap[b]? = some (.cells xs t (0, 0))) (j : Nat) (v : Value) (hj : xs[off + j]? = some v) : W.cell? ⟨b, off + j, none⟩ = some v := by
  simp [World.cell?, h]
  simpa using hj
theorem row1 {W : World} {b : Nat} {t : TypeId} {x0 x1 x2 x3 x4 x5 : Value} {r : Rx} {g : Nat → Prop} (h : W.heap[b]? = some (.cells #[x0, x1, x2, x3, x4, x5] t (0, 0))) (hg : g b) (hr : RC g W r [x0, x1, x2, x3, x4, x5]) : Kd g W (some ⟨b, 0, none⟩) 1 [r] := by
  refine ⟨rfl, by decide, .inr ⟨b, 0, rfl, hg, heap_lt h, ?_⟩⟩
  rw [RK, RK]
  refine ⟨⟨_, fun j v hj => cells6o h j v ?_, hr⟩, trivial⟩
  rw [Nat.zero_add]
  simpa using hj
theorem row2 {W : World} {b : Nat} {t : TypeId} {x0 x1 x2 x3 x4 x5 y0 y1 y2 y3 y4 y5 : Value} {r s : Rx} {g : Nat → Prop} (h : W.heap[b]? = some (.cells #[x0, x1, x2, x3, x4, x5, y0, y1, y2, y3, y4, y5] t (0, 0))) (hg : g b) (hr : RC g W r [x0, x1, x2, x3, x4, x5]) (hs : RC g W s [y0, y1, y2, y3, y4, y5]) : Kd g W (some ⟨b, 0, none⟩) 2 [r, s] := by
  refine ⟨rfl, by decide, .inr ⟨b, 0, rfl, hg, heap_lt h, ?_⟩⟩
  rw [RK, RK, RK]
  refine ⟨⟨_, fun j v hj => cells6o h j v ?_, hr⟩, ⟨_, fun j v hj => cells6o h j v ?_, hs⟩, trivial⟩
  · match j, hj with
    | 0, hj => simpa using hj
    | 1, hj => simpa using hj
    | 2, hj => simpa using hj
    | 3, hj => simpa using hj
    | 4, hj => simpa using hj
    | 5, hj => simpa using hj
    | j + 6, hj => simp at hj
  · match j, hj with
    | 0, hj => simpa using hj
    | 1, hj => simpa using hj
    | 2, hj => simpa using hj
    | 3, hj => simpa using hj
    | 4, hj => simpa using hj
    | 5, hj => simpa using hj
    | j + 6, hj => simp at hj
theorem rc97 (g : Nat → Prop) (W : World) : RC g W (.mk 3 (byt 97) []) [.int .i64 3, .int .u64 0, .int .u64 8589934592, .int .u64 0, .int .u64 0, .slice none 0 0] := by
  refine RC_mk.2 ⟨none, 0, 0, ?_, rfl, by decide, .inl rfl⟩
  unfold rcs; rw [ws97.1.1, ws97.1.2, ws97.2.1, ws97.2.2]; rfl
theorem rc98 (g : Nat → Prop) (W : World) : RC g W (.mk 3 (byt 98) []) [.int .i64 3, .int .u64 0, .int .u64 17179869184, .int .u64 0, .int .u64 0, .slice none 0 0] := by
  refine RC_mk.2 ⟨none, 0, 0, ?_, rfl, by decide, .inl rfl⟩
  unfold rcs; rw [ws98.1.1, ws98.1.2, ws98.2.1, ws98.2.2]; rfl
theorem ws_none8 : (ws none8 0 = 0 ∧ ws none8 1 = 0) ∧ ws none8 2 = 0 ∧ ws none8 3 = 0 := by refine ⟨⟨?_, ?_⟩, ?_, ?_⟩ <;> kernel_rfl
theorem rcK {g : Nat → Prop} {W : World} {k : Int} {a : Option Addr} {n c : Nat} {l : List Rx} (h : Kd g W a n l) : RC g W (.mk k none8 l) [.int .i64 k, .int .u64 0, .int .u64 0, .int .u64 0, .int .u64 0, .slice a n c] := by
  refine RC_mk.2 ⟨a, n, c, ?_, h⟩
  unfold rcs; rw [ws_none8.1.1, ws_none8.1.2, ws_none8.2.1, ws_none8.2.2]; rfl
/-- What awake needs of FromRegexes. -/
def EX (w : World) (e : Ending) (w' : World) : Prop := ∃ a1 m c1 a2 c2, e = .returned (.tuple #[.agg #[.int .i64 4, .int .i64 0, .slice a1 m c1, .slice a2 4 c2], .int .i64 0]) ∧ NA w' (PA [exA, exB]) a1 m a2 4 ∧ m ≤ c1 ∧ c1 ≤ maxLen ∧ (a1 = none → c1 = 0)
set_option maxRecDepth 100000 in
theorem ex_fr {g : Nat → Prop} {a : Option Addr} {c : Nat} {W : World} (hK : Kd g W a 2 [exA, exB]) : Calls Tryd.prog 24 #[.slice a 2 c] W fun e w' => EX W e w' ∧ Below W.heap.size W w' := by
  refine (FromRegexes_any g [exA, exB] a 2 c W hK).mono ?_
  rintro e w' ⟨h, hb⟩
  refine ⟨?_, hb⟩
  unfold FR at h
  rw [if_neg (by rw [ok_ab]; exact fun h => Bool.noConfusion h), if_neg (by rw [parts_ab]; decide), npL_ab] at h
  obtain ⟨a1, m, c1, a2, c2, rfl, h⟩ := h
  exact ⟨a1, m, c1, a2, c2, rfl, h⟩
theorem vn_ab : Vn (PA [exA, exB]) 4 := by
  obtain ⟨n, h⟩ := valid_iff.1 valid_ab
  have e : (n : Int) = ((npL [exA, exB] + 1 : Nat) : Int) := h.hn.symm
  rw [npL_ab] at e
  obtain rfl : n = 4 := by omega
  exact h
set_option maxRecDepth 100000 in
set_option maxHeartbeats 4000000 in
theorem awake_any (w : World) (hT : Tb w) : Calls Tryd.prog 11 #[] w fun e w' => e = .returned (.bool true) ∧ Below w.heap.size w w' := by
  have HT := hid hT
  clear hT
  go_enter Tryd.func11, Tryd.ntmps11
  go_wp2_with fail
  refine (lset_97 _).mono ?_
  rintro e W1 ⟨rfl, b1⟩
  have B1 := hid b1
  clear b1
  go_wp2_with fail
  refine (lset_97 _).mono ?_
  rintro e W2 ⟨rfl, b2⟩
  have B2 := hid b2
  clear b2
  go_wp2_with fail
  refine (lset_98 _).mono ?_
  rintro e W3 ⟨rfl, b3⟩
  have B3 := hid b3
  clear b3
  go_wp2_with fail
  obtain ⟨V, hV⟩ : ∃ V, V = (W3.alloc (.cells #[.int .i64 3, .int .u64 0, .int .u64 8589934592, .int .u64 0, .int .u64 0, .slice none 0 0, .int .i64 3, .int .u64 0, .int .u64 17179869184, .int .u64 0, .int .u64 0, .slice none 0 0] 50)).alloc (.cells #[.int .i64 6, .int .u64 0, .int .u64 0, .int .u64 0, .int .u64 0, .slice (some ⟨W1.heap.size, 0, none⟩) 1 1, .int .i64 4, .int .u64 0, .int .u64 0, .int .u64 0, .int .u64 0, .slice (some ⟨W3.heap.size, 0, none⟩) 2 2] 50) := ⟨_, rfl⟩
  have h12 : (W1.alloc (.cells #[.int .i64 3, .int .u64 0, .int .u64 8589934592, .int .u64 0, .int .u64 0, .slice none 0 0] 50)).heap.size = W1.heap.size + 1 := by simp
  have h3 := B3.out
  have h2 := B2.out
  have hV3 := two W3 (.cells #[.int .i64 3, .int .u64 0, .int .u64 8589934592, .int .u64 0, .int .u64 0, .slice none 0 0, .int .i64 3, .int .u64 0, .int .u64 17179869184, .int .u64 0, .int .u64 0, .slice none 0 0] 50) (.cells #[.int .i64 6, .int .u64 0, .int .u64 0, .int .u64 0, .int .u64 0, .slice (some ⟨W1.heap.size, 0, none⟩) 1 1, .int .i64 4, .int .u64 0, .int .u64 0, .int .u64 0, .int .u64 0, .slice (some ⟨W3.heap.size, 0, none⟩) 2 2] 50)
  rw [← hV] at hV3
  have h23 := h2.trans (h3.mono h2.size)
  have HV := hid (show Below w.heap.size w V ∧ Kd (fun _ => True) V (some ⟨W3.heap.size + 1, 0, none⟩) 2 [exA, exB] from by
    have e1 : Below W1.heap.size W1 (W1.alloc (.cells #[.int .i64 3, .int .u64 0, .int .u64 8589934592, .int .u64 0, .int .u64 0, .slice none 0 0] 50)) := bel1 _ _
    have e2 : Below W1.heap.size W1 W3 := e1.trans (h23.mono (by omega))
    have e3 : Below W1.heap.size W1 V := e2.trans (hV3.2.2.1.mono e2.size)
    have k1 : V.heap[W1.heap.size]? = some (.cells #[.int .i64 3, .int .u64 0, .int .u64 8589934592, .int .u64 0, .int .u64 0, .slice none 0 0] 50 (0, 0)) := by
      refine (hV3.2.2.1.block _ (by have := h23.size; omega)).trans ((h23.block _ (by omega)).trans (alloc_new _ _))
    refine ⟨B1.out.trans (e3.mono B1.out.size), row2 hV3.2.1 trivial (rcK (row1 k1 trivial (rc97 _ _))) (rcK (row2 hV3.1 trivial (rc97 _ _) (rc98 _ _)))⟩)
  rw [← hV]
  clear hV hV3 h23 h2 h3 h12 B1 B2 B3
  refine (ex_fr HV.out.2).mono ?_
  rintro e V1 ⟨⟨a1, m, c1, a2, c2, rfl, hN, hmc, hcc, hnil⟩, bV⟩
  have HN := hid (And.intro hN (And.intro hmc (And.intro hcc hnil)))
  have BV := hid bV
  clear hN hmc hcc hnil bV
  go_upto_region 3 with fail
  obtain ⟨X, hX⟩ : ∃ X, X = V1.alloc (.cells #[.int .i64 4, .int .i64 0, .slice a1 m c1, .slice a2 4 c2] 25) := ⟨_, rfl⟩
  have HX := hid (show Below w.heap.size w X ∧ X.heap[V1.heap.size]? = some (.cells #[.int .i64 4, .int .i64 0, .slice a1 m c1, .slice a2 4 c2] 25 (0, 0)) ∧ NA X (PA [exA, exB]) a1 m a2 4 from by
    rw [hX]
    have e1 := HV.out.1.trans (BV.out.mono HV.out.1.size)
    exact ⟨e1.trans ((bel1 _ _).mono e1.size), alloc_new _ _, HN.out.1.below (bel1 _ _)⟩)
  rw [← hX]
  clear hX
  have CV := hid (fun Z (hZ : Below X.heap.size X Z) => show Calls Tryd.prog 12 #[.agg #[.int .i64 4, .int .i64 0, .slice a1 m c1, .slice a2 4 c2]] Z fun r w' => r = .returned (.bool true) ∧ Below Z.heap.size Z w' from by
    have h := NValid_any Z (PA [exA, exB]) a1 a2 m c1 4 c2 (HX.out.2.2.below hZ)
    rw [valid_ab] at h
    exact h)
  have CR := hid (fun Z (s : ByteArray) (hs : s.size ≤ 1000000) (hZ : Below X.heap.size X Z) => show Calls Tryd.prog 20 #[.agg #[.int .i64 4, .int .i64 0, .slice a1 m c1, .slice a2 4 c2], .string s] Z fun r w' => r = .returned (.int .i64 (run (PA [exA, exB]) 4 s.data.toList)) ∧ Below Z.heap.size Z w' from
    NRun_any Z (PA [exA, exB]) 4 vn_ab a1 a2 m c1 4 c2 (HX.out.2.2.below hZ) (fun Y hY => newMachine_plain Y (PA [exA, exB]) 4 vn_ab a1 a2 m c1 4 c2 HN.out.2.1 HN.out.2.2.1 HN.out.2.2.2 ((HX.out.2.2.below hZ).below hY) (PA_srt _) (PA_plain _)) s hs (HT.out.below (HX.out.1.trans (hZ.mono HX.out.1.size))))
  have Raa := hid (fun Z (hZ : Below X.heap.size X Z) => show Calls Tryd.prog 20 #[.agg #[.int .i64 4, .int .i64 0, .slice a1 m c1, .slice a2 4 c2], .string { data := #[97, 97] }] Z fun r w' => r = .returned (.int .i64 0) ∧ Below Z.heap.size Z w' from by
    have h := CR.out Z ⟨#[97, 97]⟩ (by decide) hZ
    rw [show run (PA [exA, exB]) 4 (ByteArray.mk #[97, 97]).data.toList = 0 from run_aa] at h
    exact h)
  have Rab := hid (fun Z (hZ : Below X.heap.size X Z) => show Calls Tryd.prog 20 #[.agg #[.int .i64 4, .int .i64 0, .slice a1 m c1, .slice a2 4 c2], .string { data := #[97, 98] }] Z fun r w' => r = .returned (.int .i64 1) ∧ Below Z.heap.size Z w' from by
    have h := CR.out Z ⟨#[97, 98]⟩ (by decide) hZ
    rw [show run (PA [exA, exB]) 4 (ByteArray.mk #[97, 98]).data.toList = 1 from run_ab] at h
    exact h)
  have Rb := hid (fun Z (hZ : Below X.heap.size X Z) => show Calls Tryd.prog 20 #[.agg #[.int .i64 4, .int .i64 0, .slice a1 m c1, .slice a2 4 c2], .string { data := #[98] }] Z fun r w' => r = .returned (.int .i64 (-1)) ∧ Below Z.heap.size Z w' from by
    have h := CR.out Z ⟨#[98]⟩ (by decide) hZ
    rw [show run (PA [exA, exB]) 4 (ByteArray.mk #[98]).data.toList = -1 from run_b] at h
    exact h)
  have CZ := hid (fun Z => show Calls Tryd.prog 12 #[.agg #[.int .i64 0, .int .i64 0, .slice none 0 0, .slice none 0 0]] Z fun r w' => r = .returned (.bool false) ∧ Below Z.heap.size Z w' from
    NValid_any Z ⟨0, 0, [], []⟩ none none 0 0 0 0 ⟨⟨rfl, .inl rfl⟩, ⟨rfl, .inl rfl⟩, by decide, by decide⟩)
  have Z0 := hid (Below.refl X.heap.size X)
  clear CR HT HN BV HV
  obtain ⟨p0, p1, p2, p3⟩ := cells4 ((Z0.out.block _ (heap_lt HX.out.2.1)).trans HX.out.2.1)
  go_wp2_with fail
  refine (CV.out _ Z0.out).mono ?_
  rintro e U0 ⟨rfl, b0⟩
  clear p0 p1 p2 p3
  have Z1 := hid (Z0.out.trans (b0.mono Z0.out.size))
  clear b0
  obtain ⟨p0, p1, p2, p3⟩ := cells4 ((Z1.out.block _ (heap_lt HX.out.2.1)).trans HX.out.2.1)
  go_wp2_with fail
  refine (Raa.out _ Z1.out).mono ?_
  rintro e U1 ⟨rfl, b1⟩
  clear p0 p1 p2 p3
  have Z2 := hid (Z1.out.trans (b1.mono Z1.out.size))
  clear b1
  obtain ⟨p0, p1, p2, p3⟩ := cells4 ((Z2.out.block _ (heap_lt HX.out.2.1)).trans HX.out.2.1)
  go_wp2_with fail
  refine (Rab.out _ Z2.out).mono ?_
  rintro e U2 ⟨rfl, b2⟩
  clear p0 p1 p2 p3
  have Z3 := hid (Z2.out.trans (b2.mono Z2.out.size))
  clear b2
  obtain ⟨p0, p1, p2, p3⟩ := cells4 ((Z3.out.block _ (heap_lt HX.out.2.1)).trans HX.out.2.1)
  go_wp2_with fail
  refine (Rb.out _ Z3.out).mono ?_
  rintro e U3 ⟨rfl, b3⟩
  clear p0 p1 p2 p3
  have Z4 := hid (Z3.out.trans (b3.mono Z3.out.size))
  clear b3
  obtain ⟨p0, p1, p2, p3⟩ := cells4 ((Z4.out.block _ (heap_lt HX.out.2.1)).trans HX.out.2.1)
  go_wp2_with fail
  refine (CZ.out _).mono ?_
  rintro e U4 ⟨rfl, b4⟩
  clear p0 p1 p2 p3
  have Z5 := hid (Z4.out.trans (b4.mono Z4.out.size))
  clear b4
  go_wp2_with fail
  go_ret
  exact ⟨rfl, HX.out.1.trans (Z5.out.mono HX.out.1.size)⟩
end Go.Proofs.YtogpnlkjcdedlaaDoor
