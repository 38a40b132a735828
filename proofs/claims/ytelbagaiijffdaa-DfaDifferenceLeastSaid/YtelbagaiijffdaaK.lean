/-
  Contracts: the reference's Step, accept, Run.
-/
import Derived.Test.YtelbagaiijffdaaTa
set_option linter.unusedSimpArgs false
set_option linter.unusedVariables false
namespace Go.Proofs.Ytelbagaiijffdaa
open Go.RowKit Lx Go.Frame

def stp (D : Df) (q : Int) (b : UInt8) : Int := if q < 0 then -1 else dl D q.toNat b.toNat
def accI (D : Df) (q : Int) : Int := if q < 0 then -1 else ac D q.toNat
def runD (D : Df) (l : List UInt8) : Int := accI D (l.foldl (stp D) 0)
theorem data_len (s : ByteArray) : s.data.toList.length = s.size := rfl
theorem fold_neg (D : Df) : ∀ (l : List UInt8) (x : Int), x < 0 → l.foldl (stp D) x < 0
  | [], x, h => h
  | b :: l, x, h => by
    rw [List.foldl_cons]
    exact fold_neg D l _ (by unfold stp; rw [if_pos h]; decide)
theorem accI_neg {D : Df} {x : Int} (h : x < 0) : accI D x < 0 := by unfold accI; rw [if_pos h]; decide
theorem ac_ge {D : Df} {n k : Nat} (hv : Vd D n k) (q : Nat) : -1 ≤ ac D q := by
  by_cases h : q < n
  · exact (ac_at hv h).2
  · unfold ac
    rw [List.getD_eq_getElem?_getD, List.getElem?_eq_none (by rw [hv.al]; omega)]
    exact Int.le_refl _
theorem accI_ge {D : Df} {n k : Nat} (hv : Vd D n k) (q : Int) : -1 ≤ accI D q := by
  unfold accI
  split
  · exact Int.le_refl _
  · exact ac_ge hv _
theorem stp_lt {D : Df} {n k : Nat} (hv : Vd D n k) {q : Int} (h : -1 ≤ q ∧ q < (n : Int)) (b : UInt8) : -1 ≤ stp D q b ∧ stp D q b < (n : Int) := by
  unfold stp
  split
  · omega
  · obtain ⟨_, _, _, _, _, _, _, h1, h2⟩ := dl_at hv (q := q.toNat) (by omega) b.toNat_lt
    exact ⟨h1, h2⟩
theorem rn_run {D : Df} : ∀ (l : List UInt8) (q : Nat), rn D q l = accI D (l.foldl (stp D) (q : Int))
  | [], q => by simp only [rn, List.foldl_nil]; unfold accI; rw [if_neg (by omega), Int.toNat_natCast]
  | b :: r, q => by
    have e : stp D (q : Int) b = dl D q b.toNat := by unfold stp; rw [if_neg (by omega), Int.toNat_natCast]
    simp only [rn, List.foldl_cons, e]
    by_cases h : dl D q b.toNat < 0
    · rw [if_pos h]
      have := fold_neg D r _ h
      unfold accI
      rw [if_pos this]
    · rw [if_neg h, rn_run r _, Int.toNat_of_nonneg (by omega)]
set_option maxRecDepth 100000 in
set_option maxHeartbeats 4000000 in
theorem Step_any (w : World) (D : Df) (n k : Nat) (hv : Vd D n k) (a1 : Option Addr) (n1 c1 : Nat) (a2 : Option Addr) (n2 c2 : Nat) (a3 : Option Addr) (n3 c3 : Nat) (h : DA w D a1 n1 a2 n2 a3 n3) (q : Int) (hq : -1 ≤ q ∧ q < (n : Int)) (u : UInt8) :
    Calls Try.prog 24 #[.agg #[.slice a1 n1 c1, .slice a2 n2 c2, .slice a3 n3 c3], .int .i64 q, .int .u8 (u.toNat : Int)] w fun e w' => e = .returned (.int .i64 (stp D q u)) ∧ Below w.heap.size w w' := by
  have hn2 : n2 = n := by have h1 := h.l2; have h2 := hv.hn; omega
  have hn1 : n1 = 256 := by have h1 := h.l1; have h2 := hv.cl; omega
  have hbt := u.toNat_lt
  obtain ⟨W, hW⟩ : ∃ W, W = w.alloc (.cells #[.slice a1 n1 c1, .slice a2 n2 c2, .slice a3 n3 c3] 25) := ⟨_, rfl⟩
  have x1 := alloc_new w (.cells #[.slice a1 n1 c1, .slice a2 n2 c2, .slice a3 n3 c3] 25)
  have bW := bel1 w (.cells #[.slice a1 n1 c1, .slice a2 n2 c2, .slice a3 n3 c3] 25)
  rw [← hW] at x1 bW
  have HW := hid bW
  by_cases hneg : q < 0
  · have hst : stp D q u = -1 := by unfold stp; rw [if_pos hneg]
    have HS := hid hst
    clear hst h bW hW x1 hn1 hn2
    go_enter Try.func24, Try.ntmps24
    go_wp2
    go_ret
    exact ⟨by rw [HS.out]; rfl, bel1 _ _⟩
  · obtain ⟨m, rfl⟩ : ∃ m : Nat, q = (m : Int) := ⟨q.toNat, by omega⟩
    have hst : stp D (m : Int) u = dl D m u.toNat := by unfold stp; rw [if_neg hneg, Int.toNat_natCast]
    obtain ⟨r, c, hr, hc, hck, hrl, hrc, hd1, hd2⟩ := dl_at hv (q := m) (by omega) hbt
    rw [← hst] at hrc
    have hh := h.below bW
    obtain ⟨b2, o2, r', ra, rc, e2, _, hr', p2, hrow, hrl'⟩ := row_at hh.nxt (i := m) (by omega)
    obtain rfl : r' = r := by rw [hr] at hr'; simpa using hr'.symm
    obtain ⟨b1, o1, y1, e1, _, hy1, p1⟩ := int_at hh.cls (i := u.toNat) (by omega)
    obtain rfl : y1 = (c : Int) := by rw [hc] at hy1; simpa using hy1.symm
    obtain ⟨b3, o3, y3, e3, _, hy3, p3⟩ := int_at hrow (i := c) (by omega)
    have hy4 : stp D (m : Int) u = y3 := by rw [hrc] at hy3; simpa using hy3
    have HY := hid hy4
    rw [hrl] at p2
    subst e1 e2 e3
    obtain ⟨d0, d1, d2⟩ := cells3 x1
    have g1 : (0 : Int) ≤ (m : Int) := by omega
    have g2 : (m : Int) < (n2 : Int) := by omega
    have g3 : (0 : Int) ≤ (u.toNat : Int) := by omega
    have g4 : (u.toNat : Int) < (n1 : Int) := by omega
    have g5 : (0 : Int) ≤ (c : Int) := by omega
    have g6 : (c : Int) < (k : Int) := by omega
    clear hh hrow hrl' hr hc hr' hy1 hy3 hrc hrl hy4 hst x1 bW h hn1 hn2
    go_enter Try.func24, Try.ntmps24
    go_upto_region 3 with fail
    rw [← hW]
    clear hW
    go_quiet (fail)
    go_wp2
    go_ret
    exact ⟨by rw [HY.out]; rfl, below_drewN HW.out _⟩
set_option maxRecDepth 100000 in
set_option maxHeartbeats 4000000 in
theorem accept_any (w : World) (D : Df) (n k : Nat) (hv : Vd D n k) (a1 : Option Addr) (n1 c1 : Nat) (a2 : Option Addr) (n2 c2 : Nat) (a3 : Option Addr) (n3 c3 : Nat) (h : DA w D a1 n1 a2 n2 a3 n3) (q : Int) (hq : -1 ≤ q ∧ q < (n : Int)) :
    Calls Try.prog 25 #[.agg #[.slice a1 n1 c1, .slice a2 n2 c2, .slice a3 n3 c3], .int .i64 q] w fun e w' => e = .returned (.int .i64 (accI D q)) ∧ Below w.heap.size w w' := by
  have hn3 : n3 = n := by have h1 := h.l3; have h2 := hv.al; omega
  obtain ⟨W, hW⟩ : ∃ W, W = w.alloc (.cells #[.slice a1 n1 c1, .slice a2 n2 c2, .slice a3 n3 c3] 25) := ⟨_, rfl⟩
  have x1 := alloc_new w (.cells #[.slice a1 n1 c1, .slice a2 n2 c2, .slice a3 n3 c3] 25)
  have bW := bel1 w (.cells #[.slice a1 n1 c1, .slice a2 n2 c2, .slice a3 n3 c3] 25)
  rw [← hW] at x1 bW
  have HW := hid bW
  by_cases hneg : q < 0
  · have hst : accI D q = -1 := by unfold accI; rw [if_pos hneg]
    have HS := hid hst
    clear hst h bW hW x1 hn3
    go_enter Try.func25, Try.ntmps25
    go_wp2
    go_ret
    exact ⟨by rw [HS.out]; rfl, bel1 _ _⟩
  · obtain ⟨m, rfl⟩ : ∃ m : Nat, q = (m : Int) := ⟨q.toNat, by omega⟩
    have hst : accI D (m : Int) = ac D m := by unfold accI; rw [if_neg hneg, Int.toNat_natCast]
    obtain ⟨b1, o1, y1, e1, _, hy1, p1⟩ := int_at (h.below bW).acc (i := m) (by omega)
    have hy4 : accI D (m : Int) = y1 := by
      have := (ac_at hv (q := m) (by omega)).1
      rw [hy1] at this; rw [hst]; simpa using this.symm
    have HY := hid hy4
    subst e1
    obtain ⟨d0, d1, d2⟩ := cells3 x1
    have g1 : (0 : Int) ≤ (m : Int) := by omega
    have g2 : (m : Int) < (n3 : Int) := by omega
    clear hy1 hy4 hst x1 bW h hn3
    go_enter Try.func25, Try.ntmps25
    go_upto_region 3 with fail
    rw [← hW]
    clear hW
    go_wp2
    go_ret
    exact ⟨by rw [HY.out]; rfl, HW.out⟩
set_option maxRecDepth 100000 in
set_option maxHeartbeats 4000000 in
theorem Run_any (w : World) (D : Df) (n k : Nat) (hv : Vd D n k) (a1 : Option Addr) (n1 c1 : Nat) (a2 : Option Addr) (n2 c2 : Nat) (a3 : Option Addr) (n3 c3 : Nat) (h : DA w D a1 n1 a2 n2 a3 n3) (s : ByteArray) (hs : s.size ≤ 1000000) :
    Calls Try.prog 12 #[.agg #[.slice a1 n1 c1, .slice a2 n2 c2, .slice a3 n3 c3], .string s] w fun e w' => e = .returned (.int .i64 (runD D s.data.toList)) ∧ Below w.heap.size w w' := by
  have CS := hid (fun V (hV : Below w.heap.size w V) q (hq : -1 ≤ q ∧ q < (n : Int)) u => Step_any V D n k hv a1 n1 c1 a2 n2 c2 a3 n3 c3 (h.below hV) q hq u)
  have CC := hid (fun V (hV : Below w.heap.size w V) q (hq : -1 ≤ q ∧ q < (n : Int)) => accept_any V D n k hv a1 n1 c1 a2 n2 c2 a3 n3 c3 (h.below hV) q hq)
  have HV := hid hv
  obtain ⟨W, hW⟩ : ∃ W, W = w.alloc (.cells #[.slice a1 n1 c1, .slice a2 n2 c2, .slice a3 n3 c3] 25) := ⟨_, rfl⟩
  have x1 := alloc_new w (.cells #[.slice a1 n1 c1, .slice a2 n2 c2, .slice a3 n3 c3] 25)
  have bW := bel1 w (.cells #[.slice a1 n1 c1, .slice a2 n2 c2, .slice a3 n3 c3] 25)
  rw [← hW] at x1 bW
  have HW := hid (And.intro x1 bW)
  have hn0 := hv.pos
  clear h hv x1 bW
  go_enter Try.func12, Try.ntmps12
  go_upto_region 1 with fail
  rw [← hW]
  clear hW
  go_wp2_with fail
  go_loopg [5, 6] s.size (fun kk s5 s6 wr => ∃ (i : Nat) (q : Int), s5 = .int .i64 q ∧ s6 = .int .i64 (i : Int) ∧ i + kk = s.size ∧ -1 ≤ q ∧ q < (n : Int) ∧ Hid (runD D s.data.toList = accI D ((s.data.toList.drop i).foldl (stp D) q)) ∧
    wr.heap[w.heap.size]? = some (.cells #[.slice a1 n1 c1, .slice a2 n2 c2, .slice a3 n3 c3] 25 (0, 0)) ∧ Below w.heap.size w wr)
  case atStart => exact ⟨0, 0, rfl, rfl, by omega, by omega, by omega, hid rfl, HW.out.1, HW.out.2⟩
  case round =>
    obtain ⟨i, q, rfl, rfl, hk, hq1, hq2, hr, hx, hb⟩ := hrel
    have HX := hid (And.intro hx hb)
    by_cases hlt : i < s.size
    · have hlt' : (i : Int) < (s.size : Int) := by omega
      have hi0 : (0 : Int) ≤ (i : Int) := by omega
      have hii : IntKind.i64.wrap ((i : Int) + 1) = (i : Int) + 1 := wrapIn (by omega) (by omega)
      obtain ⟨q', hq'⟩ : ∃ q', q' = stp D q s[i] := ⟨_, rfl⟩
      have hst := stp_lt HV.out (q := q) ⟨hq1, hq2⟩ s[i]
      rw [← hq'] at hst
      have C1 := hid (fun V (hV : Below w.heap.size w V) => show Calls Try.prog 24 #[.agg #[.slice a1 n1 c1, .slice a2 n2 c2, .slice a3 n3 c3], .int .i64 q, .int .u8 (s[i].toNat : Int)] V fun e w' => e = .returned (.int .i64 q') ∧ Below V.heap.size V w' from hq' ▸ CS.out V hV q ⟨hq1, hq2⟩ s[i])
      have HR := hid (show runD D s.data.toList = accI D ((s.data.toList.drop (i + 1)).foldl (stp D) q') from by rw [hr.out, drop_at hlt, List.foldl_cons, hq'])
      clear hr hx hb hq'
      go_wp2_with fail
      refine wp_region_below (by kernel_rfl) (by kernel_rfl) ?_
      intro X' f _ hf hs'
      have lA := heap_lt HX.out.1
      have k0 := fun x => (cells3 (((hf.out x).block _ lA).trans HX.out.1)).1
      have k1 := fun x => (cells3 (((hf.out x).block _ lA).trans HX.out.1)).2.1
      have k2 := fun x => (cells3 (((hf.out x).block _ lA).trans HX.out.1)).2.2
      have E1 := hid (fun V (hV : Below wr.heap.size wr V) => C1.out V (HX.out.2.trans (hV.mono HX.out.2.size)))
      clear C1
      repeat (go_big_quiet_step (first
        | (go_at_call 24; exact calls_below hf hs' (E1.out _ (hf.out _)))))
      refine wpQuiet_nil ?_
      intro w' hw'
      have HB := hid (And.intro ((hw'.block _ lA).trans HX.out.1) (HX.out.2.trans (hw'.mono HX.out.2.size)))
      clear k0 k1 k2 hf hs' hw' lA
      go_wp2
      go_roundg (gk - 1)
      case measure => omega
      case rel => exact ⟨i + 1, q', rfl, by go_num, by omega, hst.1, hst.2, HR, HB.out.1, HB.out.2⟩
    · have hlt' : ¬ (i : Int) < (s.size : Int) := by omega
      have C1 := CC.out wr hb q ⟨hq1, hq2⟩
      have hnil : s.data.toList.drop i = [] := List.drop_of_length_le (by rw [data_len]; omega)
      have HR := hid (show runD D s.data.toList = accI D q from by rw [hr.out, hnil]; rfl)
      rw [← HR.out] at C1
      obtain ⟨d0, d1, d2⟩ := cells3 hx
      clear hr hnil hx
      go_wp2_with fail
      refine C1.mono ?_
      rintro e V ⟨rfl, b3⟩
      clear C1
      go_wp2
      go_ret
      exact ⟨rfl, hb.trans (b3.mono hb.size)⟩

end Go.Proofs.Ytelbagaiijffdaa
