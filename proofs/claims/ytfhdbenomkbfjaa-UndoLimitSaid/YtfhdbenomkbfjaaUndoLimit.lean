/-
  UndoLimit, for every input: the law returns true and leaves its arguments as they read. No condition.
-/
import Derived.Test.YtfhdbenomkbfjaaJ
set_option linter.unusedSimpArgs false
set_option linter.unusedVariables false
namespace Go.Proofs.Ytfhdbenomkbfjaa.undoLimit
open Go.ChangeShapes Go.WideShapes Go.ChangeAt Go.RowKit Go.Frame
open Go.ChangeMaps (open_string shut_string)
open Te
theorem limR (s : ByteArray) (a : Nat) (t : ByteArray) (ha : a ≤ s.size) : Fit s.size ((a : Int), (0 : Int), t) ∧ (ap s ((a : Int), (0 : Int), t)).size = s.size + t.size := by
  have hf : Fit s.size ((a : Int), (0 : Int), t) := ⟨by simp, by simp, by simp only; omega⟩
  have := ap_size hf
  simp only at this
  exact ⟨hf, by omega⟩
theorem do_lim_yes (s : ByteArray) (a : Nat) (t : ByteArray) (ha : a ≤ s.size) (hl : s.size + t.size ≤ 4000) : doR ⟨s, [], [], 0⟩ ((a : Int), (0 : Int), t) = (⟨ap s ((a : Int), (0 : Int), t), [inv s ((a : Int), (0 : Int), t)], [], 1⟩, ((a : Int), (0 : Int), t), 0) := by
  obtain ⟨hf, hz⟩ := limR s a t ha
  simp only [doR, if_pos hf]
  rw [if_pos (by omega)]
theorem do_lim_no (s : ByteArray) (a : Nat) (t : ByteArray) (ha : a ≤ s.size) (hl : 4000 < s.size + t.size) : doR ⟨s, [], [], 0⟩ ((a : Int), (0 : Int), t) = (⟨s, [], [], 0⟩, zed, 11) := by
  obtain ⟨hf, hz⟩ := limR s a t ha
  simp only [doR, if_pos hf]
  rw [if_neg (by omega)]
set_option maxRecDepth 100000 in
set_option maxHeartbeats 8000000 in
theorem walk (n k m : Nat) (w : World) (hn : n ≤ 65535) (hk : k ≤ 65535) (hm : m ≤ 65535) :
    Calls Try.prog 8 #[.int .u16 (n : Int), .int .u16 (k : Int), .int .u16 (m : Int)] w fun e w' => e = .returned (.bool true) ∧ Below w.heap.size w w' := by
  obtain ⟨size, hsize⟩ : ∃ size, size = n % 4001 := ⟨_, rfl⟩
  obtain ⟨more, hmore⟩ : ∃ more, more = m % 4001 := ⟨_, rfl⟩
  have hs4 : size ≤ 4000 := by omega
  have hm4 : more ≤ 4000 := by omega
  obtain ⟨a, ha⟩ : ∃ a, a = k % (size + 1) := ⟨_, rfl⟩
  have has : a ≤ size := by have : k % (size + 1) < size + 1 := Nat.mod_lt _ (by omega); omega
  have e1 : (n : Int) % 4001 = (size : Int) := by omega
  have e2 : (m : Int) % 4001 = (more : Int) := by omega
  have e6 : IntKind.i64.wrap ((size : Int) + 1) = (size : Int) + 1 := wrapIn (by omega) (by omega)
  have e7 : (k : Int) % ((size : Int) + 1) = (a : Int) := by rw [ha]; simp
  have e5 : IntKind.i64.wrap (k : Int) = (k : Int) := wrapIn (by omega) (by omega)
  have e9 : Int.tmod (k : Int) ((size : Int) + 1) = (a : Int) := by rw [Int.tmod_eq_emod_of_nonneg (by omega)]; exact e7
  have e8 : ¬ ((size : Int) + 1) = 0 := by omega
  have hn' : (n : Int) ≤ 65535 := by omega
  have hk' : (k : Int) ≤ 65535 := by omega
  have hm' : (m : Int) ≤ 65535 := by omega
  have HA := hid has
  have HS := hid hs4
  have HM := hid hm4
  clear hsize hmore ha has hn hk hm
  go_enter Try.func8, Try.ntmps8
  go_wp2_with fail
  refine (awake_any w).mono ?_
  rintro e w1 ⟨rfl, b1⟩
  go_wp2_with fail
  refine (mk_any size w1 (by have := HS.out; omega)).mono ?_
  rintro e w2 ⟨⟨s, rfl, hss⟩, b2⟩
  have b2 := b1.trans (b2.mono b1.size)
  clear b1
  go_wp2_with fail
  refine (new_any s w2).mono ?_
  rintro e w3 ⟨rfl, hh, b3, _⟩
  have HSS := hid hss
  clear hss
  have F3 : Hi (fun b => w.heap.size ≤ b) w3 w2.heap.size ⟨s, [], [], 0⟩ := hh.mono fun b hb _ => (show w.heap.size ≤ b by rw [hb]; exact b2.size)
  have B3 := b2.trans (b3.mono b2.size)
  have H3 := hid (show ∀ w', Below w3.heap.size w3 w' → Hi (fun b => w.heap.size ≤ b) w' w2.heap.size ⟨s, [], [], 0⟩ from fun w' h => F3.below h)
  have HB3 := hid B3
  obtain ⟨B, hB⟩ : ∃ B, B = w2.heap.size := ⟨_, rfl⟩
  rw [← hB] at H3 ⊢
  have H0 := H3.out _ (Below.refl _ _).drew
  clear hh b3 b2 F3 B3 hB
  go_wp2_with fail
  have MK := hid (show ∀ W, Calls Try.prog 22 #[.int .i64 (more : Int)] W fun e w' => (∃ t : ByteArray, e = .returned (.string t) ∧ t.size = more) ∧ Below W.heap.size W w' from fun W => mk_any more W (by have := HM.out; omega))
  by_cases hlim : size + more ≤ 4000
  · have hlim' : (size : Int) + (more : Int) ≤ 4000 := by omega
    have HL := hid hlim
    clear hlim
    have DO := hid (show ∀ (y : World) (t : ByteArray), Below w3.heap.size w3 y → t.size = more → Calls Try.prog 19 #[.pointer (some ⟨B, 0, none⟩), .agg #[.int .i64 (a : Int), .int .i64 0, .string t]] y fun e y2 => e = .returned (.int .i64 0) ∧ Hi (fun b => w.heap.size ≤ b) y2 B ⟨ap s ((a : Int), (0 : Int), t), [inv s ((a : Int), (0 : Int), t)], [], 1⟩ ∧ Kept (fun b => w.heap.size ≤ b) y y2 from fun y t hb htt =>
      do_any (fun b => w.heap.size ≤ b) y B ⟨s, [], [], 0⟩ ⟨ap s ((a : Int), (0 : Int), t), [inv s ((a : Int), (0 : Int), t)], [], 1⟩ a 0 t _ 0 20000 0 (do_lim_yes s a t (by rw [HSS.out]; exact HA.out) (by rw [HSS.out, htt]; exact HL.out)) (H3.out _ hb) (fun b hh => Nat.le_trans (HB3.out.trans (hb.mono HB3.out.size)).size hh) (Ok.new (by rw [HSS.out]; have := HS.out; omega)) (by omega) (by omega) (by rw [htt]; have := HM.out; omega) (by have := HA.out; have := HS.out; omega))
    go_region_held3 (fun _ => True) (trivial)
      (first
        | (go_at_call 22; refine (MK.out _).mono ?_; rintro e y ⟨⟨t, rfl, htt⟩, by1⟩; have hb := (Below.refl _ w3).drew.trans (by1.mono (Nat.le_refl _)); have DT := DO.out _ _ hb htt; clear by1)
        | (go_at_call 19; refine DT.mono ?_; rintro e y2 ⟨rfl, H4, A4⟩))
    have HZ := hid (show (ap s ((a : Int), (0 : Int), t)).size = size + more from by rw [(limR s a t (by rw [HSS.out]; exact HA.out)).2, HSS.out, htt])
    have TX := hid (text_hi _ y2 B ⟨ap s ((a : Int), (0 : Int), t), [inv s ((a : Int), (0 : Int), t)], [], 1⟩ H4)
    have VX := hid (show Calls Try.prog 17 #[.pointer (some ⟨B, 0, none⟩)] y2 fun e w' => e = .returned (.int .i64 1) ∧ y2 = w' from version_hi _ y2 B ⟨ap s ((a : Int), (0 : Int), t), [inv s ((a : Int), (0 : Int), t)], [], 1⟩ H4)
    have BB := hid ((HB3.out.trans (hb.mono HB3.out.size)).trans (A4.toBelow (n := w.heap.size) fun b hb => hb))
    clear H4 A4 DT hb htt
    obtain ⟨r, hr⟩ : ∃ r, r = (ap s ((a : Int), (0 : Int), t)) := ⟨_, rfl⟩
    rw [← hr] at HZ
    have hz : (r.size : Int) = (size : Int) + (more : Int) := by have := HZ.out; omega
    have TX2 := hid (show Calls Try.prog 15 #[.pointer (some ⟨B, 0, none⟩)] y2 fun e w' => e = .returned (.string r) ∧ y2 = w' from by rw [hr]; exact TX.out)
    clear hr
    go_wp2_with fail
    refine TX2.out.mono ?_
    rintro e w5 ⟨rfl, rfl⟩
    go_wp2_with fail
    refine VX.out.mono ?_
    rintro e w6 ⟨rfl, rfl⟩
    go_wp2
    go_ret
    exact ⟨rfl, BB.out⟩
  · have hlim' : 4000 < (size : Int) + (more : Int) := by omega
    have HL := hid (show 4000 < size + more by omega)
    clear hlim
    have DO := hid (show ∀ (y : World) (t : ByteArray), Below w3.heap.size w3 y → t.size = more → Calls Try.prog 19 #[.pointer (some ⟨B, 0, none⟩), .agg #[.int .i64 (a : Int), .int .i64 0, .string t]] y fun e y2 => e = .returned (.int .i64 11) ∧ Hi (fun b => w.heap.size ≤ b) y2 B ⟨s, [], [], 0⟩ ∧ Kept (fun b => w.heap.size ≤ b) y y2 from fun y t hb htt =>
      do_any (fun b => w.heap.size ≤ b) y B ⟨s, [], [], 0⟩ ⟨s, [], [], 0⟩ a 0 t _ 11 20000 0 (do_lim_no s a t (by rw [HSS.out]; exact HA.out) (by rw [HSS.out, htt]; exact HL.out)) (H3.out _ hb) (fun b hh => Nat.le_trans (HB3.out.trans (hb.mono HB3.out.size)).size hh) (Ok.new (by rw [HSS.out]; have := HS.out; omega)) (by omega) (by omega) (by rw [htt]; have := HM.out; omega) (by have := HA.out; have := HS.out; omega))
    go_region_held3 (fun _ => True) (trivial)
      (first
        | (go_at_call 22; refine (MK.out _).mono ?_; rintro e y ⟨⟨t, rfl, htt⟩, by1⟩; have hb := (Below.refl _ w3).drew.trans (by1.mono (Nat.le_refl _)); have DT := DO.out _ _ hb htt; clear by1)
        | (go_at_call 19; refine DT.mono ?_; rintro e y2 ⟨rfl, H4, A4⟩))
    have HZ := hid (show s.size = size from HSS.out)
    have TX := hid (text_hi _ y2 B ⟨s, [], [], 0⟩ H4)
    have VX := hid (show Calls Try.prog 17 #[.pointer (some ⟨B, 0, none⟩)] y2 fun e w' => e = .returned (.int .i64 0) ∧ y2 = w' from version_hi _ y2 B ⟨s, [], [], 0⟩ H4)
    have BB := hid ((HB3.out.trans (hb.mono HB3.out.size)).trans (A4.toBelow (n := w.heap.size) fun b hb => hb))
    clear H4 A4 DT hb htt
    obtain ⟨r, hr⟩ : ∃ r, r = s := ⟨_, rfl⟩
    rw [← hr] at HZ
    have hz : (r.size : Int) = (size : Int) := by have := HZ.out; omega
    have TX2 := hid (show Calls Try.prog 15 #[.pointer (some ⟨B, 0, none⟩)] y2 fun e w' => e = .returned (.string r) ∧ y2 = w' from by rw [hr]; exact TX.out)
    clear hr
    go_wp2_with fail
    refine TX2.out.mono ?_
    rintro e w5 ⟨rfl, rfl⟩
    go_wp2_with fail
    refine VX.out.mono ?_
    rintro e w6 ⟨rfl, rfl⟩
    go_wp2
    go_ret
    exact ⟨rfl, BB.out⟩

theorem lifted (os : Os) (started : os.Started) (H : Type) (enc : TypeId × Value → H) :
    ReturnsInHanded {} Try.checked os 8 .any (Rows.undoLimitSpec.pre6 enc Try.prog Try.f8 Rows.undoLimitRow.domain false) (Rows.undoLimitSpec.post enc Try.prog Try.f8 false true false false) := by
  refine Go.Frame.lifted (C := Try.checked) (tb := 4) own started (by kernel_rfl) Try.func8
    (ChangeSpec.witness6 (enc := enc) (C := Try.checked) false ⟨#[], #[.int .u16 0, .int .u16 0, .int .u16 0], []⟩ 8 (by kernel_rfl) (by kernel_rfl) (by kernel_rfl) (by kernel_rfl))
    laidOut (by kernel_rfl) (by kernel_rfl) Try.underlying4 rfl ?_ ?_
  · intro ds h
    have h : ds.length = 3 := h
    match ds, h with
    | [_, _, _], _ => rfl
  · intro W base args ds p hlen hval0 hA hsz0
    have hval : ∀ (j : Nat) t v, Try.f8.params[j]? = some t → args[j]? = some v → Value.okWide Try.prog W .any base t v := hval0
    have hA : DataW.TrodAll enc Try.prog W 0 (fun _ => true) true Try.f8.params.toList args.toList ds p := hA
    have hsz : (DataW.weightsEach Try.prog Try.f8.params.toList ds).all (· ≤ reachBytes) = true := hsz0
    rw [Try.params8] at hA hval hsz
    obtain ⟨v0, vs0, d0, ds0, p0, q0, hargs, hds, _, th0, tr0⟩ := trodAll_cons hA
    obtain ⟨v1, vs1, d1, ds1, p1, q1, rfl, rfl, _, th1, tr1⟩ := trodAll_cons tr0
    obtain ⟨v2, vs2, d2, ds2, p2, q2, rfl, rfl, _, th2, tr2⟩ := trodAll_cons tr1
    obtain ⟨rfl, rfl, _⟩ := trodAll_nil tr2
    obtain rfl : args = #[v0, v1, v2] := by cases args; simp_all
    subst hds
    obtain ⟨u0, rfl, h0⟩ := open_u16 (hval 0 49 v0 rfl rfl) th0
    obtain ⟨u1, rfl, h1⟩ := open_u16 (hval 1 49 v1 rfl rfl) th1
    obtain ⟨u2, rfl, h2⟩ := open_u16 (hval 2 49 v2 rfl rfl) th2
    exact walk u0 u1 u2 W h0 h1 h2

theorem over : Rows.undoLimitRow.holds Try.pinned (OpenSpec.ofChange Rows.undoLimitSpec) :=
  OpenClaim.holds_of_wide 8 Try.f8 rfl rfl rfl rfl rfl rfl rfl ⟨rfl, rfl, rfl, rfl, rfl⟩ rfl rfl rfl rfl rfl (by kernel_rfl) Try.func8 (by kernel_rfl)
    (of_decide_eq_true (by kernel_rfl)) (by unfold Func.isWrapper; first | (rw [if_pos (by decide +kernel)]; kernel_rfl) | (rw [if_neg (by decide +kernel)]; exact ⟨rfl, rfl⟩))
    (fun os started H enc _ => lifted os started H enc)

/-- THE STATEMENT -/
theorem proved : Rows.UndoLimitSaid :=
  over
#print axioms proved
end Go.Proofs.Ytfhdbenomkbfjaa.undoLimit
