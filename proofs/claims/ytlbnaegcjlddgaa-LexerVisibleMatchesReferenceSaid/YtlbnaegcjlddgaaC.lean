/-
  Contract: the machine's advance.
-/
import Derived.Test.YtlbnaegcjlddgaaRv
import Derived.StillTailTactics
set_option linter.unusedSimpArgs false
set_option linter.unusedVariables false
namespace Go.Proofs.Ytlbnaegcjlddgaa
open Go.RowKit Lx Go.Frame

/-- A machine in a block of the call's own. -/
structure MB (w0 W : World) (mb : Nat) (a1 : Option Addr) (n1 c1 : Nat) (a2 : Option Addr) (n2 c2 : Nat) (a3 : Option Addr) (n3 c3 : Nat) (q : Int) : Prop where
  box : W.heap[mb]? = some (.cells #[.slice a1 n1 c1, .slice a2 n2 c2, .slice a3 n3 c3, .int .i64 q] 63 (0, 0))
  lo : w0.heap.size ≤ mb
  bel : Below w0.heap.size w0 W
/-- What advance answers for a successor. -/
def advT (D : Df) (d : Int) : Value := if d < 0 then .tuple #[.int .i64 0, .bool false] else .tuple #[.int .i64 (ac D d.toNat), .bool true]
theorem advT_no {D : Df} {d : Int} (h : d < 0) : advT D d = .tuple #[.int .i64 0, .bool false] := if_pos h
theorem advT_yes {D : Df} {d : Int} (h : ¬ d < 0) : advT D d = .tuple #[.int .i64 (ac D d.toNat), .bool true] := if_neg h
set_option maxRecDepth 100000 in
set_option maxHeartbeats 4000000 in
theorem advance_any (w0 W : World) (D : Df) (n k : Nat) (hv : Vd D n k) (mb : Nat) (a1 : Option Addr) (n1 c1 : Nat) (a2 : Option Addr) (n2 c2 : Nat) (a3 : Option Addr) (n3 c3 : Nat) (h : DA w0 D a1 n1 a2 n2 a3 n3) (q : Nat) (hq : q < n) (hm : MB w0 W mb a1 n1 c1 a2 n2 c2 a3 n3 c3 q) (b : Nat) (hb : b < 256) :
    Calls Try.prog 33 #[.pointer (some ⟨mb, 0, none⟩), .int .u8 (b : Int)] W fun e w' => e = .returned (advT D (dl D q b)) ∧ MB w0 w' mb a1 n1 c1 a2 n2 c2 a3 n3 c3 (dl D q b) ∧ Kept (fun x => x = mb) W w' := by
  obtain ⟨r, c, hr, hc, hck, hrl, hrc, hd1, hd2⟩ := dl_at hv hq hb
  obtain ⟨d, hd⟩ : ∃ d, d = dl D q b := ⟨_, rfl⟩
  rw [← hd] at hrc hd1 hd2 ⊢
  have hn2 : n2 = n := by have h1 := h.l2; have h2 := hv.hn; omega
  have hn1 : n1 = 256 := by have h1 := h.l1; have h2 := hv.cl; omega
  have hn3 : n3 = n := by have h1 := h.l3; have h2 := hv.al; omega
  obtain ⟨V, hV⟩ : ∃ V, V = ({ W with drawn := W.drawn + 1 } : World) := ⟨_, rfl⟩
  have bV : Below w0.heap.size w0 V := by rw [hV]; exact hm.bel.drew
  have xV : V.heap[mb]? = some (.cells #[.slice a1 n1 c1, .slice a2 n2 c2, .slice a3 n3 c3, .int .i64 (q : Int)] 63 (0, 0)) := by rw [hV]; exact hm.box
  have kV : Kept (fun x => x = mb) W V := by rw [hV]; exact (Kept.refl _ W).drew
  have hh := h.below bV
  obtain ⟨b2, o2, r', ra, rc, e2, _, hr', p2, hrow, hrl'⟩ := row_at hh.nxt (i := q) (by omega)
  obtain rfl : r' = r := by rw [hr] at hr'; simpa using hr'.symm
  obtain ⟨b1, o1, x1, e1, _, hx1, p1⟩ := int_at hh.cls (i := b) (by omega)
  obtain rfl : x1 = (c : Int) := by rw [hc] at hx1; simpa using hx1.symm
  obtain ⟨b3, o3, x3, e3, _, hx3, p3⟩ := int_at hrow (i := c) (by omega)
  obtain rfl : x3 = d := by rw [hrc] at hx3; simpa using hx3.symm
  have HM := hid hm
  have HH := hid h
  have HV := hid (And.intro hv (And.intro hn3 (And.intro bV kV)))
  have HX := hid xV
  rw [hrl] at p2
  subst e1 e2 e3
  have g1 : (0 : Int) ≤ (q : Int) := by omega
  have g2 : (q : Int) < (n2 : Int) := by omega
  have g3 : (0 : Int) ≤ (b : Int) := by omega
  have g4 : (b : Int) < (n1 : Int) := by omega
  have g5 : (0 : Int) ≤ (c : Int) := by omega
  have g6 : (c : Int) < (k : Int) := by omega
  have HD := hid (And.intro hd1 hd2)
  obtain ⟨m0, m1, m2, m3⟩ := cells4 xV
  have f3 := Go.Frame.free xV 3
  clear hm h hv hh hrow hrl' hr hc hr' hx1 hx3 hrc hn1 hn2 hn3 hrl bV kV hd
  go_enter Try.func33, Try.ntmps33
  go_wp2_with fail
  refine wp_region_still_tail 24 (by kernel_rfl) (by kernel_rfl) ?_
  rw [← hV]
  clear hV
  simp only [List.take_succ_cons, List.take_zero, List.drop_succ_cons, List.drop_zero]
  repeat still_step
  refine wpStill_nil ?_
  obtain ⟨U, hU⟩ : ∃ U, U = V.setCell ⟨mb, 3, none⟩ (.int .i64 x3) := ⟨_, rfl⟩
  have xU : U.heap[mb]? = some (.cells #[.slice (some ⟨b1, o1, none⟩) n1 c1, .slice (some ⟨b2, o2, none⟩) n2 c2, .slice a3 n3 c3, .int .i64 x3] 63 (0, 0)) := by rw [hU]; exact (blk_put HX.out).trans rfl
  have HU := hid (show Kept (fun x => x = mb) W U ∧ Below w0.heap.size w0 U from by
    rw [hU]
    exact ⟨HV.out.2.2.2.setCell (p := ⟨mb, 3, none⟩) rfl _, below_put HV.out.2.2.1 HM.out.lo⟩)
  have HXU := hid xU
  go_upto_region 2 with fail
  rw [← hU]
  clear hU m0 m1 m2 m3 f3 p1 p2 p3
  obtain ⟨m0, m1, m2, m3⟩ := cells4 xU
  clear xU
  by_cases hneg : x3 < 0
  · obtain rfl : x3 = -1 := by have := HD.out; omega
    go_wp2
    refine bodyPost_ret (v := .tuple #[.int .i64 0, .bool false]) ?_ rfl ⟨by rw [advT_no (by decide)], ⟨HXU.out, HM.out.lo, HU.out.2⟩, HU.out.1⟩
    simp [results, Try.results33, go_sem]
  · obtain ⟨p, rfl⟩ : ∃ p : Nat, x3 = (p : Int) := ⟨x3.toNat, by omega⟩
    have he : ((p : Int) == -1) = false := by first | (simp; done) | (simp; omega)
    have hpn : p < n3 := by have := HD.out; have := HV.out.2.1; omega
    have hpI : (p : Int) < (n3 : Int) := by omega
    have hp0 : (0 : Int) ≤ (p : Int) := by omega
    obtain ⟨b4, o4, x4, rfl, _, hx4, p4⟩ := int_at (HH.out.below HU.out.2).acc hpn
    have HX4 := hid (show ac D p = x4 from by
      have := (ac_at HV.out.1 (q := p) (by have := HV.out.2.1; omega)).1
      rw [hx4] at this; simpa using this.symm)
    clear hx4
    go_wp2_with fail
    go_quiet (fail)
    go_wp2
    refine bodyPost_ret (v := .tuple #[.int .i64 x4, .bool true]) ?_ rfl ⟨by rw [advT_yes (by omega), Int.toNat_natCast, HX4.out], ⟨HXU.out, HM.out.lo, below_drewN HU.out.2 _⟩, Kept.trans HU.out.1 (by exact ⟨rfl, rfl, rfl, Nat.le_refl _, fun _ _ => rfl⟩)⟩
    simp [results, Try.results33, go_sem]
end Go.Proofs.Ytlbnaegcjlddgaa
