/-
  Contract: the reference's Small.
-/
import Derived.Test.YtelbagaiijffdaaRv
import Derived.Test.YtelbagaiijffdaaUi
set_option linter.unusedSimpArgs false
set_option linter.unusedVariables false
namespace Go.Proofs.Ytelbagaiijffdaa
open Go.RowKit Lx Go.Frame

/-- Valid, with few states and classes. -/
def smD (D : Df) (p q : Nat) : Bool := valid D && (decide (D.nxt.length ≤ p) && decide (wid D ≤ q))
set_option maxRecDepth 100000 in
set_option maxHeartbeats 8000000 in
theorem small_any (w : World) (D : Df) (p q : Nat) (hp : p ≤ 1000) (hq : q ≤ 1000) (a1 : Option Addr) (n1 c1 : Nat) (a2 : Option Addr) (n2 c2 : Nat) (a3 : Option Addr) (n3 c3 : Nat) (h : DA w D a1 n1 a2 n2 a3 n3) :
    Calls Try.prog 13 #[.agg #[.slice a1 n1 c1, .slice a2 n2 c2, .slice a3 n3 c3], .int .i64 (p : Int), .int .i64 (q : Int)] w fun e w' => e = .returned (.bool (smD D p q)) ∧ Below w.heap.size w w' := by
  obtain ⟨W, hW⟩ : ∃ W, W = w.alloc (.cells #[.slice a1 n1 c1, .slice a2 n2 c2, .slice a3 n3 c3] 25) := ⟨_, rfl⟩
  have x0 := alloc_new w (.cells #[.slice a1 n1 c1, .slice a2 n2 c2, .slice a3 n3 c3] 25)
  have b0 := bel1 w (.cells #[.slice a1 n1 c1, .slice a2 n2 c2, .slice a3 n3 c3] 25)
  rw [← hW] at x0 b0
  have HW := hid (And.intro x0 (And.intro b0 h))
  obtain ⟨d0, d1, d2⟩ := cells3 x0
  have CV := RValid_any W D a1 n1 c1 a2 n2 c2 a3 n3 c3 (h.below b0)
  have hl2 := h.l2
  obtain ⟨z, hz⟩ : ∃ z, z = smD D p q := ⟨_, rfl⟩
  rw [← hz]
  obtain ⟨u, hu⟩ : ∃ u, u = valid D := ⟨_, rfl⟩
  rw [← hu] at CV
  have CV := hid CV
  have HU := hid (And.intro hu (And.intro hz hl2))
  clear x0 b0 h hu hz hl2
  cases u
  · go_enter Try.func13, Try.ntmps13
    go_upto_region 1 with fail
    rw [← hW]
    clear hW
    go_wp2_with fail
    refine CV.out.mono ?_
    rintro e V ⟨rfl, b1⟩
    have HB := hid (HW.out.2.1.trans (b1.mono HW.out.2.1.size))
    have HZ := hid (show z = false from by rw [HU.out.2.1]; unfold smD; rw [← HU.out.1]; rfl)
    clear b1 CV d0 d1 d2
    go_wp2
    go_ret
    exact ⟨by rw [HZ.out]; rfl, HB.out⟩
  · obtain ⟨n, k, hv⟩ := valid_iff.1 HU.out.1.symm
    have hn2 : n2 = n := by have := HU.out.2.2; have := hv.hn; omega
    subst hn2
    have hw := wid_of hv
    have HV := hid hv
    by_cases g1 : n2 ≤ p
    · have i1 : (n2 : Int) ≤ (p : Int) := by omega
      have HZ := hid (show z = decide (k ≤ q) from by
        rw [HU.out.2.1]; unfold smD; rw [← HU.out.1, hw, hv.hn, decide_eq_true g1]; simp)
      have hpos := hv.pos
      clear hw hv
      go_enter Try.func13, Try.ntmps13
      go_upto_region 1 with fail
      rw [← hW]
      clear hW
      go_wp2_with fail
      refine CV.out.mono ?_
      rintro e V ⟨rfl, b1⟩
      have hb := HW.out.2.1.trans (b1.mono HW.out.2.1.size)
      have HB := hid hb
      have x1 := (b1.block _ (heap_lt HW.out.1)).trans HW.out.1
      clear b1 CV d0 d1 d2
      obtain ⟨d0, d1, d2⟩ := cells3 x1
      obtain ⟨g, o, r, ra, rc, rfl, _, hr, pr, _, _⟩ := row_at (HW.out.2.2.nxt.below hb) (show 0 < n2 by omega)
      have hrl := (HV.out.row r (List.mem_of_getElem? hr)).1
      rw [hrl, Nat.add_zero] at pr
      have hn0 : (0 : Int) < (n2 : Int) := by omega
      clear x1 hb hr
      by_cases g2 : k ≤ q
      · have i2 : (k : Int) ≤ (q : Int) := by omega
        go_wp2
        go_ret
        exact ⟨by rw [HZ.out, decide_eq_true g2]; rfl, HB.out⟩
      · have i2 : ¬ (k : Int) ≤ (q : Int) := by omega
        go_wp2
        go_ret
        exact ⟨by rw [HZ.out, decide_eq_false g2]; rfl, HB.out⟩
    · have i1 : ¬ (n2 : Int) ≤ (p : Int) := by omega
      have HZ := hid (show z = false from by
        rw [HU.out.2.1]; unfold smD; rw [hv.hn, decide_eq_false g1]; simp)
      clear hw hv
      go_enter Try.func13, Try.ntmps13
      go_upto_region 1 with fail
      rw [← hW]
      clear hW
      go_wp2_with fail
      refine CV.out.mono ?_
      rintro e V ⟨rfl, b1⟩
      have HB := hid (HW.out.2.1.trans (b1.mono HW.out.2.1.size))
      have x1 := (b1.block _ (heap_lt HW.out.1)).trans HW.out.1
      clear b1 CV d0 d1 d2
      obtain ⟨d0, d1, d2⟩ := cells3 x1
      clear x1
      go_wp2
      go_ret
      exact ⟨by rw [HZ.out]; rfl, HB.out⟩
end Go.Proofs.Ytelbagaiijffdaa
