/-
  LineindexUpdate, for every input: the law returns true and leaves its arguments as they read. No condition.
-/
import Derived.Test.YtcmoehjalgppmaaI
import Derived.Deep.CutRange
import Derived.Deep.CutBlock
namespace Go.Proofs.Ytcmoehjalgppmaa.lineindexUpdate
open Go.ChangeShapes Go.WideShapes Go.ChangeAt Go.RowKit Go.Frame
open Go.ChangeMaps (open_string shut_string)
open Te
theorem update_no (s : ByteArray) (p : Option Addr) (n c : Nat) (t : ByteArray) (a d : Int) (w : World) (hs : s.size ≤ 400000) (ht : t.size ≤ 400000) (ha : a ≤ 9223372036854775807) (hf : ¬ Fit s.size (a, d, t)) :
    Calls Try.prog 20 #[.agg #[.string s, .slice p n c], .agg #[.int .i64 a, .int .i64 d, .string t]] w fun e w' => e = .returned (.tuple #[.agg #[.string .empty, .slice none 0 0], .int .i64 2]) ∧ Below w.heap.size w w' := by
  refine (update_any s p n c t a d w hs ht ha).mono ?_
  rintro e w' ⟨hb, ⟨h, _⟩ | ⟨_, h⟩⟩
  · exact absurd h hf
  · exact ⟨h, hb⟩
set_option maxRecDepth 100000 in
set_option maxHeartbeats 8000000 in
theorem walk (s : ByteArray) (b : Option Addr) (len cap : Nat) (w : World) (hE : ∃ E : List Ed, ERow w b len E ∧ ∀ e ∈ E, In e) :
    Calls Try.prog 8 #[.string s, .slice b len cap] w fun e w' => e = .returned (.bool true) ∧ Below w.heap.size w w' := by
  obtain ⟨E, hrow, hin⟩ := hE
  have HR := hid hrow
  have HI := hid hin
  have hl := hid hrow.1
  clear hrow hin
  by_cases h1 : s.size ≤ 200
  · have h1' : (s.size : Int) ≤ 200 := by omega
    by_cases h2 : len ≤ 20
    · have h2' : (len : Int) ≤ 20 := by omega
      have H1 := hid h1
      have H2 := hid h2
      clear h1 h2
      go_enter Try.func8, Try.ntmps8
      go_wp2_with fail
      refine (new_any s w (by have := H1.out; omega)).mono ?_
      rintro e w1 ⟨⟨p0, n0, c0, rfl, hI0, _⟩, b1⟩
      go_wp2_with fail
      have hB0 := alloc_new w1 (.cells #[.string s, .slice p0 n0 c0] 26)
      have hI1 := hI0.below ((Below.refl _ _).alloc (Nat.le_refl _) (.cells #[.string s, .slice p0 n0 c0] 26))
      have b2 := b1.alloc b1.size (.cells #[.string s, .slice p0 n0 c0] 26)
      have hBw := hid b1.size
      obtain ⟨W, hW⟩ : ∃ W, W = w1.alloc (.cells #[.string s, .slice p0 n0 c0] 26) := ⟨_, rfl⟩
      rw [← hW] at hB0 hI1 b2 ⊢
      obtain ⟨B, hBe⟩ : ∃ B, B = w1.heap.size := ⟨_, rfl⟩
      rw [← hBe] at hB0 hBw ⊢
      clear hW hI0 b1 hBe
      go_loopg [0, 6] len (fun k s0 s6 wr => ∃ (i : Nat) (cur : ByteArray) (p : Option Addr) (n c : Nat), s0 = .string cur ∧ s6 = .int .i64 i ∧ i + k = len ∧ wr.heap[B]? = some (.cells #[.string cur, .slice p n c] 26 (0, 0)) ∧ Ix wr p n cur ∧ cur.size ≤ 300 ∧ Below w.heap.size w wr)
      case atStart => exact ⟨0, s, p0, n0, c0, rfl, rfl, by omega, hB0, hI1, by have := H1.out; omega, b2⟩
      case round =>
        obtain ⟨i, cur, p, n, c, rfl, rfl, hk, hB, hI, hcs, hbw⟩ := hrel
        clear hI1 hB0 b2
        have HI' := hid (show ∀ w', Below wr.heap.size wr w' → Ix w' p n cur from fun w' h => hI.below h)
        have Keep := hid (show ∀ w', Below wr.heap.size wr w' → w'.cell? ⟨B, 0, none⟩ = some (.string cur) ∧ w'.cell? ⟨B, 1, none⟩ = some (.slice p n c) from fun w' h => cells2 ((h.block _ (heap_lt hB)).trans hB))
        have hBl := hid (heap_lt hB)
        have HB := hid hB
        have hi0 : (0 : Int) ≤ (i : Int) := by omega
        have hcs' : (cur.size : Int) ≤ 300 := by omega
        clear hB hI
        by_cases hlt : i < len
        · have hlt' : (i : Int) < (len : Int) := by omega
          obtain ⟨⟨a, d, t⟩, hxi⟩ : ∃ x, E[i]? = some x := ⟨_, List.getElem?_eq_getElem (by rw [hl.out]; exact hlt)⟩
          have hInx := HI.out _ (List.mem_of_getElem? hxi)
          obtain ⟨bb, off, rfl, hbb, _⟩ := HR.out.2.resolve_left (by omega)
          have KE := hid (show ∀ w', Below wr.heap.size wr w' → w'.cell? ⟨bb, off + i * 3, none⟩ = some (.int .i64 a) ∧ w'.cell? ⟨bb, off + i * 3 + 1, none⟩ = some (.int .i64 d) ∧ w'.cell? ⟨bb, off + i * 3 + 2, none⟩ = some (.string t) from fun w' h => by
            rcases (HR.out.below (hbw.trans (h.mono hbw.size))).2 with h0 | ⟨b', off', he, _, hx⟩
            · omega
            · cases he; exact hx i _ hxi)
          have hbbr : bb < wr.heap.size := Nat.lt_of_lt_of_le hbb hbw.size
          have ha : a ≤ 9223372036854775807 := hInx.2.1
          have hts : (t.size : Int) ≤ 140737488351232 := by have := hInx.2.2.2.2; simp only at this; omega
          have ha' := hid ha
          clear hInx hxi ha
          obtain ⟨e0, e1, e2⟩ := KE.out _ (Below.refl _ _)
          by_cases hsz : cur.size + t.size ≤ 300
          · have hsz' : (cur.size : Int) + (t.size : Int) ≤ 300 := by omega
            have HZ := hid hsz
            clear hsz
            have hBl' := hBl.out
            obtain ⟨k0, k1⟩ := Keep.out _ (Below.refl _ _)
            by_cases hf : Fit cur.size (a, d, t)
            · have HF := hid hf
              have AV := hid (apv_yes hf)
              clear hf
              go_wp2_with fail
              go_cut [7, 8] from 39 to 47 (fun s7 s8 wx => ∃ (g : Nat) (p' : Option Addr) (n' c' : Nat), s7 = .pointer (some ⟨g, 0, none⟩) ∧ s8 = .int .i64 0 ∧ wx.heap[g]? = some (.cells #[.string (ap cur (a, d, t)), .slice p' n' c'] 26 (0, 0)) ∧ Ix wx p' n' (ap cur (a, d, t)) ∧ Below wr.heap.size wr wx ∧ (∀ a, p' = some a → a.block ≠ B) ∧ g ≠ B)
              case first =>
                go_region_with (go_at_call 20; refine (update_yes cur p n c t a d _ (by have := HZ.out; omega) (by have := HZ.out; omega) ha'.out HF.out).mono ?_; rintro e y ⟨⟨p', n', c', rfl, hIy, hp⟩, by1⟩; try (have x1 : y.heap[wr.heap.size]? = some (.cells #[.string { data := #[] }, .slice none 0 0] 26 (0, 0)) := (by1.block wr.heap.size (by simp)).trans (alloc_new _ _); obtain ⟨m0, m1⟩ := cells2 x1; obtain ⟨f0, f1⟩ := free2 x1; have lx := heap_lt x1))
                all_goals (go_wp2_with fail; go_meet)
                all_goals first
                  | (have hne : ∀ a, p' = some a → a.block ≠ B := fun a ha => by have h3 := hp a ha; have h4 : wr.heap.size ≤ a.block := (by simpa using h3); omega
                     exact ⟨y.heap.size, p', n', c', rfl, rfl, alloc_new _ _, hIy.below ((Below.refl _ _).alloc (Nat.le_refl _) _), ((Below.refl _ wr).drew.trans by1).alloc by1.size _, hne, by have h5 : wr.heap.size ≤ y.heap.size := by1.size; omega⟩)
                  | (have hne : ∀ a, p' = some a → a.block ≠ wr.heap.size ∧ a.block ≠ B := fun a ha => by have h3 := hp a ha; have h4 : wr.heap.size + 1 ≤ a.block := (by simpa using h3); omega
                     refine ⟨wr.heap.size, p', n', c', rfl, rfl, two_set1 (two_set0 x1), Row.set (Row.set hIy fun a ha => (hne a ha).1) fun a ha => (hne a ha).1, ?_, fun a ha => (hne a ha).2, by omega⟩
                     refine Below.setCell ?_ (by first | exact Nat.le_refl _ | (simp; done) | (simp; omega)) _
                     refine Below.setCell ?_ (by first | exact Nat.le_refl _ | (simp; done) | (simp; omega)) _
                     exact ((Below.refl _ wr).alloc (Nat.le_refl _) _).drew.trans (by1.mono (by simp)))
              case rest =>
                obtain ⟨g, p', n', c', rfl, rfl, hg, hIy, hbx, hpB, hgB⟩ := hcut
                clear e0 e1 e2 k0 k1
                obtain ⟨e0, e1, e2⟩ := KE.out _ hbx
                have hsr := hid (show (ap cur (a, d, t)).size ≤ 300 by
                  have h3 : (ap cur (a, d, t)).size ≤ cur.size + t.size := ap_le HF.out
                  have := HZ.out
                  omega)
                obtain ⟨r, hr⟩ : ∃ r, r = ap cur (a, d, t) := ⟨_, rfl⟩
                rw [← hr] at hg hIy hsr AV
                have BX := hid hbx
                have BY := hid ((hbx.block _ hBl.out).trans HB.out)
                have IX := hid (HI'.out _ hbx)
                have hbbx : bb < wc.heap.size := Nat.lt_of_lt_of_le hbbr hbx.size
                have HG := hid (And.intro hg (And.intro hIy (And.intro hpB hgB)))
                have HN := hid (N_le cur)
                clear hbx hr hg hIy hpB hgB
                go_wp2_with fail
                refine (rupdate_any cur t a d wc (by have := HZ.out; omega) (by have := HZ.out; omega)).mono ?_
                rintro e w2 ⟨rfl, b2⟩
                rw [AV.out]
                have G2 := hid ((b2.block _ (heap_lt HG.out.1)).trans HG.out.1)
                have Y2 := hid ((b2.block _ (heap_lt BY.out)).trans BY.out)
                obtain ⟨k0, k1⟩ := cells2 G2.out
                clear e0 e1 e2
                go_wp2_with fail
                refine (same_any r p' n' c' w2 (by have := hsr.out; omega) (HG.out.2.1.below b2)).mono ?_
                rintro e w3 ⟨rfl, b3⟩
                have G3 := hid ((b3.block _ (heap_lt G2.out)).trans G2.out)
                have Y3 := hid ((b3.block _ (heap_lt Y2.out)).trans Y2.out)
                have B3 := hid (b2.trans (b3.mono b2.size))
                clear k0 k1
                obtain ⟨k0, k1⟩ := cells2 Y3.out
                go_wp2_with fail
                refine (lines_any cur p n c w3 (by have := HZ.out; omega) (IX.out.below B3.out)).mono ?_
                rintro e w4 ⟨rfl, b4⟩
                have B4 := hid (B3.out.trans (b4.mono B3.out.size))
                clear k0 k1
                go_wp2_with fail
                refine (rlines_any cur w4 (by have := HZ.out; omega)).mono ?_
                rintro e w5 ⟨⟨q, cq, rfl, _⟩, b5⟩
                have B5 := hid (B4.out.trans (b5.mono B4.out.size))
                have G5 := hid ((B5.out.block _ (heap_lt HG.out.1)).trans HG.out.1)
                have Y5 := hid ((B5.out.block _ (heap_lt BY.out)).trans BY.out)
                obtain ⟨k0, k1⟩ := cells2 G5.out
                obtain ⟨k2, k3⟩ := cells2 Y5.out
                obtain ⟨f0, f1⟩ := free2 Y5.out
                have l5 := heap_lt G5.out
                have l6 := heap_lt Y5.out
                have hNn : (N cur : Int) ≤ 300 := by have := HN.out; omega
                go_wp2
                go_roundg (gk - 1)
                case measure => omega
                case rel =>
                  refine ⟨i + 1, r, p', n', c', rfl, by go_num, by omega, two_set1 (two_set0 Y5.out), Row.set (Row.set (HG.out.2.1.below B5.out) HG.out.2.2.1) HG.out.2.2.1, hsr.out, ?_⟩
                  refine Below.setCell ?_ (by exact hBw.out) _
                  refine Below.setCell ?_ (by exact hBw.out) _
                  exact hbw.trans ((BX.out.trans (B5.out.mono BX.out.size)).mono hbw.size)
            · have HF := hid hf
              have AV := hid (apv_no hf)
              clear hf
              go_wp2_with fail
              go_cut [7, 8] from 39 to 47 (fun s7 s8 wx => ∃ (g : Nat), s7 = .pointer (some ⟨g, 0, none⟩) ∧ s8 = .int .i64 2 ∧ Below wr.heap.size wr wx)
              case first =>
                go_region_with (go_at_call 20; refine (update_no cur p n c t a d _ (by have := HZ.out; omega) (by have := HZ.out; omega) ha'.out HF.out).mono ?_; rintro e y ⟨rfl, by1⟩; try (have x1 : y.heap[wr.heap.size]? = some (.cells #[.string { data := #[] }, .slice none 0 0] 26 (0, 0)) := (by1.block wr.heap.size (by simp)).trans (alloc_new _ _); obtain ⟨m0, m1⟩ := cells2 x1; obtain ⟨f0, f1⟩ := free2 x1; have lx := heap_lt x1))
                all_goals (go_wp2_with fail; go_meet)
                all_goals first
                  | exact ⟨y.heap.size, rfl, rfl, ((Below.refl _ wr).drew.trans by1).alloc by1.size _⟩
                  | exact ⟨wr.heap.size, rfl, rfl, ((Below.refl _ wr).alloc (Nat.le_refl _) _).drew.trans (by1.mono (by simp))⟩
                  | (refine ⟨wr.heap.size, rfl, rfl, ?_⟩
                     refine Below.setCell ?_ (by first | exact Nat.le_refl _ | (simp; done) | (simp; omega)) _
                     refine Below.setCell ?_ (by first | exact Nat.le_refl _ | (simp; done) | (simp; omega)) _
                     exact ((Below.refl _ wr).alloc (Nat.le_refl _) _).drew.trans (by1.mono (by simp)))
              case rest =>
                obtain ⟨g, rfl, rfl, hbx⟩ := hcut
                clear e0 e1 e2 k0 k1
                obtain ⟨e0, e1, e2⟩ := KE.out _ hbx
                have BX := hid hbx
                have BY := hid ((hbx.block _ hBl.out).trans HB.out)
                have IX := hid (HI'.out _ hbx)
                have hbbx : bb < wc.heap.size := Nat.lt_of_lt_of_le hbbr hbx.size
                clear hbx
                go_wp2_with fail
                refine (rupdate_any cur t a d wc (by have := HZ.out; omega) (by have := HZ.out; omega)).mono ?_
                rintro e w2 ⟨rfl, b2⟩
                rw [AV.out]
                go_wp2
                go_roundg (gk - 1)
                case measure => omega
                case rel => exact ⟨i + 1, cur, p, n, c, rfl, by go_num, by omega, (b2.block _ (heap_lt BY.out)).trans BY.out, IX.out.below b2, by have := HZ.out; omega, hbw.trans ((BX.out.trans (b2.mono BX.out.size)).mono hbw.size)⟩
          · have hsz' : (300 : Int) < (cur.size : Int) + (t.size : Int) := by omega
            clear hsz
            go_wp2_with fail
            refine (awake_any wr).mono ?_
            rintro e w2 ⟨rfl, b2⟩
            go_wp2
            go_ret
            exact ⟨rfl, hbw.trans (b2.mono hbw.size)⟩
        · have hout : ¬ (i : Int) < (len : Int) := by omega
          clear hlt
          go_wp2_with fail
          refine (awake_any wr).mono ?_
          rintro e w2 ⟨rfl, b2⟩
          obtain ⟨k0, k1⟩ := Keep.out _ b2
          go_wp2_with fail
          refine (same_any cur p n c w2 (by omega) (HI'.out _ b2)).mono ?_
          rintro e w3 ⟨rfl, b3⟩
          go_wp2
          go_ret
          exact ⟨rfl, hbw.trans ((b2.trans (b3.mono b2.size)).mono hbw.size)⟩
    · have h2' : (20 : Int) < (len : Int) := by omega
      go_enter Try.func8, Try.ntmps8
      go_wp2_with fail
      refine (awake_any _).mono ?_
      rintro e w1 ⟨rfl, b1⟩
      go_wp2
      go_ret
      exact ⟨rfl, b1⟩
  · have h1' : (200 : Int) < (s.size : Int) := by omega
    go_enter Try.func8, Try.ntmps8
    go_wp2_with fail
    refine (awake_any _).mono ?_
    rintro e w1 ⟨rfl, b1⟩
    go_wp2
    go_ret
    exact ⟨rfl, b1⟩

theorem lifted (os : Os) (started : os.Started) (H : Type) (enc : TypeId × Value → H) :
    ReturnsInHanded {} Try.checked os 8 .any (Rows.lineindexUpdateSpec.pre6 enc Try.prog Try.f8 Rows.lineindexUpdateRow.domain false) (Rows.lineindexUpdateSpec.post enc Try.prog Try.f8 false true false false) := by
  refine Go.Frame.lifted (C := Try.checked) (tb := 4) own started (by kernel_rfl) Try.func8
    (ChangeSpec.witness6 (enc := enc) (C := Try.checked) false ⟨#[], #[.string ByteArray.empty, .slice none 0 0], []⟩ 8 (by kernel_rfl) (by kernel_rfl) (by kernel_rfl) (by kernel_rfl))
    laidOut (by kernel_rfl) (by kernel_rfl) Try.underlying4 rfl ?_ ?_
  · intro ds h
    have h : ds.length = 2 := h
    match ds, h with
    | [_, _], _ => rfl
  · intro W base args ds p hlen hval0 hA hsz0
    have hval : ∀ (j : Nat) t v, Try.f8.params[j]? = some t → args[j]? = some v → Value.okWide Try.prog W .any base t v := hval0
    have hA : DataW.TrodAll enc Try.prog W 0 (fun _ => true) true Try.f8.params.toList args.toList ds p := hA
    have hsz : (DataW.weightsEach Try.prog Try.f8.params.toList ds).all (· ≤ reachBytes) = true := hsz0
    rw [Try.params8] at hA hval hsz
    obtain ⟨v0, vs0, d0, ds0, p0, q0, hargs, hds, _, th0, tr0⟩ := trodAll_cons hA
    obtain ⟨v1, vs1, d1, ds1, p1, q1, rfl, rfl, _, th1, tr1⟩ := trodAll_cons tr0
    obtain ⟨rfl, rfl, _⟩ := trodAll_nil tr1
    obtain rfl : args = #[v0, v1] := by cases args; simp_all
    subst hds
    obtain ⟨t0, rfl, _, _, _⟩ := open_string Try.underlying9 (hval 0 9 v0 rfl rfl) th0
    obtain ⟨b1, len1, cap1, rfl⟩ := okWide_slice Try.underlying43 (hval 1 43 v1 rfl rfl)
    have hE : ∃ E : List Ed, ERow W b1 len1 E ∧ ∀ e ∈ E, In e := by
      obtain ⟨fuel, hf⟩ := th1
      refine open_edits hf ?_
      intro n hn
      exact of_decide_eq_true (List.all_eq_true.1 hsz _ (DataW.weights_mem_each (j := 1) rfl rfl n hn))
    exact walk t0 b1 len1 cap1 W hE

theorem over : Rows.lineindexUpdateRow.holds Try.pinned (OpenSpec.ofChange Rows.lineindexUpdateSpec) :=
  OpenClaim.holds_of_wide 8 Try.f8 rfl rfl rfl rfl rfl rfl rfl ⟨rfl, rfl, rfl, rfl, rfl⟩ rfl rfl rfl rfl rfl (by kernel_rfl) Try.func8 (by kernel_rfl)
    (of_decide_eq_true (by kernel_rfl)) (by unfold Func.isWrapper; first | (rw [if_pos (by decide +kernel)]; kernel_rfl) | (rw [if_neg (by decide +kernel)]; exact ⟨rfl, rfl⟩))
    (fun os started H enc _ => lifted os started H enc)

/-- THE STATEMENT -/
theorem proved : Rows.LineindexUpdateSaid :=
  over
#print axioms proved
end Go.Proofs.Ytcmoehjalgppmaa.lineindexUpdate
