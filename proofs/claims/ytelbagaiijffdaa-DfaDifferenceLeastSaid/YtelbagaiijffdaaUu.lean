/-
  Contract: the reference's Same, of equal automata.
-/
import Derived.Test.YtelbagaiijffdaaUi
set_option linter.unusedSimpArgs false
set_option linter.unusedVariables false
namespace Go.Proofs.Ytelbagaiijffdaa
open Go.RowKit Lx Go.Frame

set_option maxRecDepth 100000 in
set_option maxHeartbeats 8000000 in
theorem same_yes (w : World) (D : Df) (n k : Nat) (hv : Vd D n k) (hk9 : k ≤ 1000000) (a1 : Option Addr) (n1 c1 : Nat) (a2 : Option Addr) (n2 c2 : Nat) (a3 : Option Addr) (n3 c3 : Nat) (h : DA w D a1 n1 a2 n2 a3 n3) (b1 : Option Addr) (m1 d1 : Nat) (b2 : Option Addr) (m2 d2 : Nat) (b3 : Option Addr) (m3 d3 : Nat) (h' : DA w D b1 m1 b2 m2 b3 m3) :
    Calls Try.prog 15 #[.agg #[.slice a1 n1 c1, .slice a2 n2 c2, .slice a3 n3 c3], .agg #[.slice b1 m1 d1, .slice b2 m2 d2, .slice b3 m3 d3]] w fun e w' => e = .returned (.bool true) ∧ Below w.heap.size w w' := by
  have hn1 : n1 = 256 := by have h1 := h.l1; have h2 := hv.cl; omega
  have hm1 : m1 = 256 := by have h1 := h'.l1; have h2 := hv.cl; omega
  have hn2 : n = n2 := by have h1 := h.l2; have h2 := hv.hn; omega
  have hm2 : n = m2 := by have h1 := h'.l2; have h2 := hv.hn; omega
  have hn3 : n = n3 := by have h1 := h.l3; have h2 := hv.al; omega
  have hm3 : n = m3 := by have h1 := h'.l3; have h2 := hv.al; omega
  subst hn1 hm1 hn2 hm2 hn3 hm3
  have hle := hv.le
  have HV := hid (And.intro hv (And.intro h h'))
  obtain ⟨W, hW⟩ : ∃ W, W = (w.alloc (.cells #[.slice a1 256 c1, .slice a2 n c2, .slice a3 n c3] 25)).alloc (.cells #[.slice b1 256 d1, .slice b2 n d2, .slice b3 n d3] 25) := ⟨_, rfl⟩
  have x1 := alloc_new w (.cells #[.slice a1 256 c1, .slice a2 n c2, .slice a3 n c3] 25)
  have hWx : W.heap[w.heap.size]? = some (.cells #[.slice a1 256 c1, .slice a2 n c2, .slice a3 n c3] 25 (0, 0)) ∧ W.heap[w.heap.size + 1]? = some (.cells #[.slice b1 256 d1, .slice b2 n d2, .slice b3 n d3] 25 (0, 0)) ∧ Below w.heap.size w W := by
    rw [hW]
    refine ⟨blk_alloc x1, ?_, (bel1 _ _).alloc (by simp) _⟩
    have := alloc_new (w.alloc (.cells #[.slice a1 256 c1, .slice a2 n c2, .slice a3 n c3] 25)) (.cells #[.slice b1 256 d1, .slice b2 n d2, .slice b3 n d3] 25)
    rw [World.size_alloc] at this
    exact this
  clear x1
  have HW := hid hWx
  obtain ⟨p0, p1, p2⟩ := cells3 hWx.1
  obtain ⟨q0, q1, q2⟩ := cells3 hWx.2.1
  have C1 := hid (ints_any W a1 256 c1 D.cls b1 256 d1 D.cls (h.cls.below hWx.2.2) (h'.cls.below hWx.2.2) (by omega) (by omega) true (by simp))
  clear hWx h h' hv
  go_enter Try.func15, Try.ntmps15
  go_upto_region 1 with fail
  rw [← hW]
  clear hW
  go_wp2_with fail
  refine C1.out.mono ?_
  rintro e V ⟨rfl, bb1⟩
  have HX := hid (And.intro (HW.out.2.2.trans (bb1.mono HW.out.2.2.size)) (And.intro ((bb1.block _ (heap_lt HW.out.1)).trans HW.out.1) ((bb1.block _ (heap_lt HW.out.2.1)).trans HW.out.2.1)))
  clear bb1 C1 p0 p1 p2 q0 q1 q2
  obtain ⟨p0, p1, p2⟩ := cells3 HX.out.2.1
  obtain ⟨q0, q1, q2⟩ := cells3 HX.out.2.2
  have C2 := hid (ints_any V a3 n c3 D.acc b3 n d3 D.acc (HV.out.2.1.acc.below HX.out.1) (HV.out.2.2.acc.below HX.out.1) (by omega) (by omega) true (by simp))
  go_wp2_with fail
  refine C2.out.mono ?_
  rintro e V2 ⟨rfl, bb2⟩
  have HY := hid (And.intro (HX.out.1.trans (bb2.mono HX.out.1.size)) (And.intro ((bb2.block _ (heap_lt HX.out.2.1)).trans HX.out.2.1) ((bb2.block _ (heap_lt HX.out.2.2)).trans HX.out.2.2)))
  clear bb2 C2 p0 p1 p2 q0 q1 q2
  go_wp2_with fail
  go_loopg [5] n (fun kk s5 wr => ∃ i : Nat, s5 = .int .i64 (i : Int) ∧ i + kk = n ∧ Below w.heap.size w wr ∧ wr.heap[w.heap.size]? = some (.cells #[.slice a1 256 c1, .slice a2 n c2, .slice a3 n c3] 25 (0, 0)) ∧ wr.heap[w.heap.size + 1]? = some (.cells #[.slice b1 256 d1, .slice b2 n d2, .slice b3 n d3] 25 (0, 0)))
  case atStart => exact ⟨0, rfl, by omega, HY.out⟩
  case round =>
    obtain ⟨i, rfl, hk, hb, hx, hy⟩ := hrel
    have HB := hid (And.intro hb (And.intro hx hy))
    obtain ⟨p0, p1, p2⟩ := cells3 hx
    obtain ⟨q0, q1, q2⟩ := cells3 hy
    by_cases hlt : i < n
    · have hlt' : (i : Int) < (n : Int) := by omega
      have hi0 : (0 : Int) ≤ (i : Int) := by omega
      have hi1 : IntKind.i64.wrap ((i : Int) + 1) = (i : Int) + 1 := wrapIn (by omega) (by omega)
      obtain ⟨g1, o1, r, ra, rc, rfl, _, hr, u1, hrw, _⟩ := row_at (HV.out.2.1.nxt.below hb) hlt
      obtain ⟨g2, o2, r', ra', rc', rfl, _, hr', u2, hrw', _⟩ := row_at (HV.out.2.2.nxt.below hb) hlt
      rw [hr] at hr'
      obtain rfl := Option.some.inj hr'
      have hrl := (HV.out.1.row r (List.mem_of_getElem? hr)).1
      rw [hrl] at u1 u2 hrw hrw'
      have CI := hid (fun (X : World) (hX : Below wr.heap.size wr X) => ints_any X ra k rc r ra' k rc' r (hrw.below hX) (hrw'.below hX) hk9 hk9 true (by simp))
      clear hx hy hr hr' hrw hrw' hb
      go_wp2_with fail
      refine wp_region_below (by kernel_rfl) (by kernel_rfl) ?_
      intro X f _ hf hs
      have k0 := fun q => ((hf.out q).block _ (heap_lt HB.out.2.1)).trans HB.out.2.1
      have k1 := fun q => (cells3 (k0 q)).2.1
      have k2 := fun q => ((hf.out q).block _ (heap_lt HB.out.2.2)).trans HB.out.2.2
      have k3 := fun q => (cells3 (k2 q)).2.1
      have k4 := fun q => ((hf.out q).cell (p := ⟨g1, o1 + i, none⟩) (by assumption)).trans u1
      have k5 := fun q => ((hf.out q).cell (p := ⟨g2, o2 + i, none⟩) (by assumption)).trans u2
      clear k0 k2
      repeat (go_big_quiet_step (first | (go_at_call 18; with_reducible exact calls_below hf hs (CI.out _ (hf.out _)))))
      refine wpQuiet_nil ?_
      intro U hU
      have HN := hid (show Below w.heap.size w U ∧ U.heap[w.heap.size]? = some (.cells #[.slice a1 256 c1, .slice (some ⟨g1, o1, none⟩) n c2, .slice a3 n c3] 25 (0, 0)) ∧ U.heap[w.heap.size + 1]? = some (.cells #[.slice b1 256 d1, .slice (some ⟨g2, o2, none⟩) n d2, .slice b3 n d3] 25 (0, 0)) from ⟨HB.out.1.trans (hU.mono HB.out.1.size), (hU.block _ (heap_lt HB.out.2.1)).trans HB.out.2.1, (hU.block _ (heap_lt HB.out.2.2)).trans HB.out.2.2⟩)
      clear k1 k3 k4 k5 hU hf hs CI
      go_wp2
      go_roundg (gk - 1)
      case measure => omega
      case rel => exact ⟨i + 1, by go_num, by omega, HN.out⟩
    · have hlt' : ¬ (i : Int) < (n : Int) := by omega
      clear hb hx hy
      go_wp2
      go_ret
      exact ⟨rfl, HB.out.1⟩
end Go.Proofs.Ytelbagaiijffdaa
