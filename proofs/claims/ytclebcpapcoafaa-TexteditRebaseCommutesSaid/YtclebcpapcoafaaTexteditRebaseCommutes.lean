/-
  TexteditRebaseCommutes, for every input: the law returns true and leaves its arguments as they read. No condition.
-/
import Derived.Test.YtclebcpapcoafaaH
namespace Go.Proofs.Ytclebcpapcoafaa.texteditRebaseCommutes
open Go.ChangeShapes Go.WideShapes Go.ChangeAt Go.RowKit Go.Frame
open Go.ChangeMaps (open_string shut_string)
open Te
theorem rb_ins (a b : Ed) : (rb a b).1.2.2.size ≤ a.2.2.size := by
  unfold rb
  split
  · split
    · exact Nat.le_refl _
    · split
      · exact Nat.le_refl _
      · exact Nat.zero_le _
  · exact Nat.zero_le _
theorem two {s r : ByteArray} {e f : Ed} (h : apAll s [e, f] = some r) : f.1 ≤ s.size + e.2.2.size := by
  simp only [apAll] at h
  by_cases h1 : Fit s.size e
  · rw [if_pos h1] at h
    by_cases h2 : Fit (ap s e).size f
    · have := ap_le h1
      have e1 := h2.2.1
      have e2 := h2.2.2
      omega
    · rw [if_neg h2] at h; cases h
  · rw [if_neg h1] at h; cases h

set_option maxRecDepth 100000 in
set_option maxHeartbeats 4000000 in
theorem walk (s : ByteArray) (a d : Int) (t : ByteArray) (b g : Int) (u : ByteArray) (w : World) (hI : In (a, d, t)) (hJ : In (b, g, u)) :
    Calls Try.prog 10 #[.string s, .agg #[.int .i64 a, .int .i64 d, .string t], .agg #[.int .i64 b, .int .i64 g, .string u]] w fun e w' => e = .returned (.bool true) ∧ Below w.heap.size w w' := by
  obtain ⟨W, hW⟩ : ∃ W, W = (w.alloc (.cells #[.int .i64 a, .int .i64 d, .string t] 23)).alloc (.cells #[.int .i64 b, .int .i64 g, .string u] 23) := ⟨_, rfl⟩
  have bW : Below w.heap.size w W := by rw [hW]; exact ((Below.refl _ _).alloc (Nat.le_refl _) _).alloc (by simp) _
  have hsz : W.heap.size = w.heap.size + 1 + 1 := by rw [hW]; simp
  have X := hid (show ∀ W', Below W.heap.size W W' → Bx W' w.heap.size (a, d, t) ∧ Bx W' (w.heap.size + 1) (b, g, u) from fun W' h => ⟨(show Bx W w.heap.size (a, d, t) by rw [hW]; exact blk_alloc (alloc_new _ _)).below h, (show Bx W (w.heap.size + 1) (b, g, u) by rw [hW]; exact alloc_at _ _ (by simp)).below h⟩)
  have HW := hid hW
  clear hW
  have hle := bW.size
  have ha := hid hI.2.1
  have hb := hid hJ.2.1
  have HI := hid (show ∀ e ∈ [((a, d, t) : Ed), (b, g, u)], In e from fun e he => by simp at he; rcases he with rfl | rfl; exact hI; exact hJ)
  clear hI hJ
  go_enter Try.func10, Try.ntmps10
  go_wp2_with fail
  rw [← HW.out]
  refine (awake_any W).mono ?_
  rintro e w1 ⟨rfl, hb1⟩
  obtain ⟨x1, x2⟩ := X.out _ hb1
  obtain ⟨k00, k01, k02⟩ := x1.cells
  obtain ⟨k10, k11, k12⟩ := x2.cells
  clear x1 x2
  go_wp2_with fail
  have b1' : Below W.heap.size W (w1.alloc (.cells (ecells [(a, d, t), (b, g, u)]).toArray 23)) := hb1.alloc hb1.size _
  refine (few_any s (some ⟨w1.heap.size, 0, none⟩) 2 2 [(a, d, t), (b, g, u)] _ (In.few HI.out) (row_blk (alloc_new _ _) rfl)).mono ?_
  rintro e w1' ⟨rfl, rfl⟩
  obtain ⟨v, hv⟩ : ∃ v, v = w1.alloc (.cells (ecells [(a, d, t), (b, g, u)]).toArray 23) := ⟨_, rfl⟩
  rw [show w1.alloc _ = v from hv.symm]
  rw [← hv] at b1'
  clear hv k00 k01 k02 k10 k11 k12
  obtain ⟨x1, x2⟩ := X.out _ b1'
  obtain ⟨k00, k01, k02⟩ := x1.cells
  obtain ⟨k10, k11, k12⟩ := x2.cells
  clear x1 x2
  by_cases hF : Few s [(a, d, t), (b, g, u)]
  · rw [decide_eq_true hF]
    have hS := hid hF.sum
    have hs := hid (show s.size ≤ 1000000 by have := hS.out; omega)
    have ht := hid (show t.size ≤ 1000000000000000 by have := hS.out; simp only [sz] at this; omega)
    have hu := hid (show u.size ≤ 1000000000000000 by have := hS.out; simp only [sz] at this; omega)
    have hS2 := hid (show s.size + t.size + u.size ≤ 1000000 by have := hS.out; simp only [sz] at this; omega)
    clear hF
    go_wp2_with fail
    by_cases hf : Fit s.size (a, d, t)
    · refine (fits_yes a d s t v hs.out hf).mono ?_
      rintro e w2 ⟨rfl, b2⟩
      have hb2 := b1'.trans (b2.mono b1'.size)
      have HF := hid hf
      clear k00 k01 k02 k10 k11 k12 hf
      obtain ⟨x1, x2⟩ := X.out _ hb2
      obtain ⟨k00, k01, k02⟩ := x1.cells
      obtain ⟨k10, k11, k12⟩ := x2.cells
      clear x1 x2
      go_wp2_with fail
      by_cases hg : Fit s.size (b, g, u)
      · refine (fits_yes b g s u w2 hs.out hg).mono ?_
        rintro e w3 ⟨rfl, b3⟩
        have hb3 := hb2.trans (b3.mono hb2.size)
        have HG := hid hg
        obtain ⟨C1, C2⟩ := commutes hs.out HF.out hg
        have HC1 := hid C1
        have HC2 := hid C2
        have d0 := hid HF.out.2.1
        have g0 := hid HG.out.2.1
        clear k00 k01 k02 k10 k11 k12 hg C1 C2
        obtain ⟨x1, x2⟩ := X.out _ hb3
        obtain ⟨k00, k01, k02⟩ := x1.cells
        obtain ⟨k10, k11, k12⟩ := x2.cells
        clear x1 x2
        go_wp2_with fail
        refine (rebase_any a d t b g u w3 ha.out hb.out hu.out).mono ?_
        rintro e w4 ⟨rfl, b4⟩
        have hb4 := hb3.trans (b4.mono hb3.size)
        obtain ⟨⟨⟨xa, xd, xt⟩, o⟩, hx⟩ : ∃ r, r = rb (a, d, t) (b, g, u) := ⟨_, rfl⟩
        have hrx : rbv (a, d, t) (b, g, u) = .tuple #[.agg #[.int .i64 xa, .int .i64 xd, .string xt], .bool o] := by unfold rbv; rw [← hx]; rfl
        rw [hrx]
        have HX := hid hx
        clear k00 k01 k02 k10 k11 k12 hx hrx
        obtain ⟨x1, x2⟩ := X.out _ (hb4.alloc hb4.size (.cells #[.int .i64 xa, .int .i64 xd, .string xt] 23))
        obtain ⟨k00, k01, k02⟩ := x1.cells
        obtain ⟨k10, k11, k12⟩ := x2.cells
        clear x1 x2
        go_wp2_with fail
        have Y : Bx (w4.alloc (.cells #[.int .i64 xa, .int .i64 xd, .string xt] 23)) w4.heap.size (xa, xd, xt) := alloc_new _ _
        have hb4' := hb4.alloc hb4.size (.cells #[.int .i64 xa, .int .i64 xd, .string xt] 23)
        obtain ⟨z, hz⟩ : ∃ z, z = w4.alloc (.cells #[.int .i64 xa, .int .i64 xd, .string xt] 23) := ⟨_, rfl⟩
        rw [← hz] at Y hb4' ⊢
        clear hz
        refine (rebase_any b g u a d t z hb.out ha.out ht.out).mono ?_
        rintro e w5 ⟨rfl, b5⟩
        have hb5 := hb4'.trans (b5.mono hb4'.size)
        have Y5 := Y.below b5
        obtain ⟨⟨⟨ya, yd, yt⟩, o'⟩, hy⟩ : ∃ r, r = rb (b, g, u) (a, d, t) := ⟨_, rfl⟩
        have hry : rbv (b, g, u) (a, d, t) = .tuple #[.agg #[.int .i64 ya, .int .i64 yd, .string yt], .bool o'] := by unfold rbv; rw [← hy]; rfl
        rw [hry]
        rw [← HX.out, ← hy] at HC1 HC2
        obtain rfl : o = o' := HC1.out
        have HY := hid hy
        clear k00 k01 k02 k10 k11 k12 hy hry Y
        have P6 : Bx (w5.alloc (.cells #[.int .i64 ya, .int .i64 yd, .string yt] 23)) w5.heap.size (ya, yd, yt) := alloc_new _ _
        have Q6 : Bx (w5.alloc (.cells #[.int .i64 ya, .int .i64 yd, .string yt] 23)) w4.heap.size (xa, xd, xt) := Y5.alloc
        have hb6 := hb5.alloc hb5.size (.cells #[.int .i64 ya, .int .i64 yd, .string yt] 23)
        obtain ⟨x1, x2⟩ := X.out _ hb6
        obtain ⟨k00, k01, k02⟩ := x1.cells
        obtain ⟨k10, k11, k12⟩ := x2.cells
        obtain ⟨k20, k21, k22⟩ := P6.cells
        obtain ⟨k30, k31, k32⟩ := Q6.cells
        have HP6 := hid P6
        have HQ6 := hid Q6
        clear x1 x2 P6 Q6 Y5
        rcases o with _ | _
        · go_wp2
          go_ret
          exact ⟨rfl, bW.trans (hb6.mono hle)⟩
        · by_cases hc : d = 0 ∧ g = 0 ∧ a = b
          · obtain ⟨e1, e2, e3⟩ := hc
            have E1 : (d == 0) = true := by simp [e1]
            have E2 : (g == 0) = true := by simp [e2]
            have E3 : (a == b) = true := by simp [e3]
            clear e1 e2 e3
            go_wp2
            go_ret
            exact ⟨rfl, bW.trans (hb6.mono hle)⟩
          · obtain ⟨r, hr1, hr2⟩ := (HC2.out rfl).resolve_left hc
            have f1 := two hr1
            have f2 := two hr2
            have i1 := rb_ins (b, g, u) (a, d, t)
            have i2 := rb_ins (a, d, t) (b, g, u)
            rw [← HY.out] at i1
            rw [← HX.out] at i2
            simp only at hr1 hr2 f1 f2 i1 i2
            have HR1 := hid hr1
            have HR2 := hid hr2
            have S1 := hid (show s.size + sz [(a, d, t), (ya, yd, yt)] ≤ 1000000 by have := hS2.out; simp only [sz]; omega)
            have S2 := hid (show s.size + sz [(b, g, u), (xa, xd, xt)] ≤ 1000000 by have := hS2.out; simp only [sz]; omega)
            have B1 := hid (show Big [(a, d, t), (ya, yd, yt)] by
              intro x hx
              simp at hx
              rcases hx with rfl | rfl
              · exact ha.out
              · have := hS2.out; simp only; omega)
            have B2 := hid (show Big [(b, g, u), (xa, xd, xt)] by
              intro x hx
              simp at hx
              rcases hx with rfl | rfl
              · exact hb.out
              · have := hS2.out; simp only; omega)
            clear hr1 hr2 f1 f2 i1 i2
            have R1 : Row ((w5.alloc (.cells #[.int .i64 ya, .int .i64 yd, .string yt] 23)).alloc (.cells #[.int .i64 a, .int .i64 d, .string t, .int .i64 ya, .int .i64 yd, .string yt] 23)) (some ⟨w5.heap.size + 1, 0, none⟩) 2 [(a, d, t), (ya, yd, yt)] := row_blk (alloc_at _ _ (by simp)) rfl
            have hb7 := hb6.alloc hb6.size (.cells #[.int .i64 a, .int .i64 d, .string t, .int .i64 ya, .int .i64 yd, .string yt] 23)
            have HR := hid R1
            have HB := hid hb7
            clear R1 hb7
            rcases (show (d == 0) = false ∨ ((d == 0) = true ∧ (g == 0) = false) ∨ ((d == 0) = true ∧ (g == 0) = true ∧ (a == b) = false) by
              by_cases h1 : d = 0
              · by_cases h2 : g = 0
                · refine .inr (.inr ⟨by simp [h1], by simp [h2], ?_⟩)
                  have : ¬ a = b := fun h3 => hc ⟨h1, h2, h3⟩
                  simpa using this
                · exact .inr (.inl ⟨by simp [h1], by simpa using h2⟩)
              · exact .inl (by simpa using h1)) with E1 | ⟨E1, E2⟩ | ⟨E1, E2, E3⟩
            all_goals
              clear hc
              go_wp2_with fail
              refine (applyAll_any s _ 2 2 _ _ (by decide) S1.out B1.out HR.out).mono ?_
              rintro e w7 ⟨rfl, b7⟩
              have hb8 := HB.out.trans (b7.mono HB.out.size)
              rw [HR1.out]
              unfold alv
              have y1 := ((HQ6.out.alloc (o := .cells #[.int .i64 a, .int .i64 d, .string t, .int .i64 ya, .int .i64 yd, .string yt] 23)).below b7)
              clear k00 k01 k02 k10 k11 k12 k20 k21 k22 k30 k31 k32
              obtain ⟨x1, x2⟩ := X.out _ hb8
              obtain ⟨k10, k11, k12⟩ := x2.cells
              obtain ⟨k30, k31, k32⟩ := y1.cells
              have R2 : Row (w7.alloc (.cells #[.int .i64 b, .int .i64 g, .string u, .int .i64 xa, .int .i64 xd, .string xt] 23)) (some ⟨w7.heap.size, 0, none⟩) 2 [(b, g, u), (xa, xd, xt)] := row_blk (alloc_new _ _) rfl
              have hb9 := hb8.alloc hb8.size (.cells #[.int .i64 b, .int .i64 g, .string u, .int .i64 xa, .int .i64 xd, .string xt] 23)
              have HRR := hid R2
              clear x1 x2 y1 R2
              go_wp2_with fail
              refine (applyAll_any s _ 2 2 _ _ (by decide) S2.out B2.out HRR.out).mono ?_
              rintro e w8 ⟨rfl, b8⟩
              have hb10 := hb9.trans (b8.mono hb9.size)
              rw [HR2.out]
              unfold alv
              clear k10 k11 k12 k30 k31 k32
              go_wp2
              go_ret
              exact ⟨rfl, bW.trans (hb10.mono hle)⟩
      · refine (fits_no b g s u w2 hs.out hg).mono ?_
        rintro e w3 ⟨rfl, b3⟩
        have hb3 := hb2.trans (b3.mono hb2.size)
        go_wp2
        go_ret
        exact ⟨rfl, bW.trans (hb3.mono hle)⟩
    · refine (fits_no a d s t v hs.out hf).mono ?_
      rintro e w2 ⟨rfl, b2⟩
      have hb2 := b1'.trans (b2.mono b1'.size)
      go_wp2
      go_ret
      exact ⟨rfl, bW.trans (hb2.mono hle)⟩
  · rw [decide_eq_false hF]
    go_wp2
    go_ret
    exact ⟨rfl, bW.trans (b1'.mono hle)⟩

theorem lifted (os : Os) (started : os.Started) (H : Type) (enc : TypeId × Value → H) :
    ReturnsInHanded {} Try.checked os 10 .any (Rows.texteditRebaseCommutesSpec.pre6 enc Try.prog Try.f10 Rows.texteditRebaseCommutesRow.domain false) (Rows.texteditRebaseCommutesSpec.post enc Try.prog Try.f10 false true false false) := by
  refine Go.Frame.lifted (C := Try.checked) (tb := 4) own started (by kernel_rfl) Try.func10
    (ChangeSpec.witness6 (enc := enc) (C := Try.checked) false ⟨#[], #[.string ByteArray.empty, .agg #[.int .i64 0, .int .i64 0, .string ByteArray.empty], .agg #[.int .i64 0, .int .i64 0, .string ByteArray.empty]], []⟩ 8 (by kernel_rfl) (by kernel_rfl) (by kernel_rfl) (by kernel_rfl))
    laidOut (by kernel_rfl) (by kernel_rfl) Try.underlying4 rfl ?_ ?_
  · intro ds h
    have h : ds.length = 3 := h
    match ds, h with
    | [_, _, _], _ => rfl
  · intro W base args ds p hlen hval0 hA hsz0
    have hval : ∀ (j : Nat) t v, Try.f10.params[j]? = some t → args[j]? = some v → Value.okWide Try.prog W .any base t v := hval0
    have hA : DataW.TrodAll enc Try.prog W 0 (fun _ => true) true Try.f10.params.toList args.toList ds p := hA
    have hsz : (DataW.weightsEach Try.prog Try.f10.params.toList ds).all (· ≤ reachBytes) = true := hsz0
    rw [Try.params10] at hA hval hsz
    obtain ⟨v0, vs0, d0, ds0, p0, q0, hargs, hds, _, th0, tr0⟩ := trodAll_cons hA
    obtain ⟨v1, vs1, d1, ds1, p1, q1, rfl, rfl, _, th1, tr1⟩ := trodAll_cons tr0
    obtain ⟨v2, vs2, d2, ds2, p2, q2, rfl, rfl, _, th2, tr2⟩ := trodAll_cons tr1
    obtain ⟨rfl, rfl, _⟩ := trodAll_nil tr2
    obtain rfl : args = #[v0, v1, v2] := by cases args; simp_all
    subst hds
    obtain ⟨t0, rfl, _, _, _⟩ := open_string Try.underlying9 (hval 0 9 v0 rfl rfl) th0
    obtain ⟨a1, d1, s1, rfl, h1⟩ := open_edit (hval 1 23 v1 rfl rfl) th1 (fun n hn => of_decide_eq_true (List.all_eq_true.1 hsz _ (DataW.weights_mem_each (j := 1) rfl rfl n hn)))
    obtain ⟨a2, d2, s2, rfl, h2⟩ := open_edit (hval 2 23 v2 rfl rfl) th2 (fun n hn => of_decide_eq_true (List.all_eq_true.1 hsz _ (DataW.weights_mem_each (j := 2) rfl rfl n hn)))
    exact walk t0 a1 d1 s1 a2 d2 s2 W h1 h2

theorem over : Rows.texteditRebaseCommutesRow.holds Try.pinned (OpenSpec.ofChange Rows.texteditRebaseCommutesSpec) :=
  OpenClaim.holds_of_wide 10 Try.f10 rfl rfl rfl rfl rfl rfl rfl ⟨rfl, rfl, rfl, rfl, rfl⟩ rfl rfl rfl rfl rfl (by kernel_rfl) Try.func10 (by kernel_rfl)
    (of_decide_eq_true (by kernel_rfl)) (by unfold Func.isWrapper; first | (rw [if_pos (by decide +kernel)]; kernel_rfl) | (rw [if_neg (by decide +kernel)]; exact ⟨rfl, rfl⟩))
    (fun os started H enc _ => lifted os started H enc)

/-- THE STATEMENT -/
theorem proved : Rows.TexteditRebaseCommutesSaid :=
  over
#print axioms proved
end Go.Proofs.Ytclebcpapcoafaa.texteditRebaseCommutes
