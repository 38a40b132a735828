/-
  Contract: dfa.Run.
-/
import Derived.Test.YtelbagaiijffdaaRv
import Derived.BigQuiet
set_option linter.unusedSimpArgs false
set_option linter.unusedVariables false
namespace Go.Proofs.Ytelbagaiijffdaa
open Go.RowKit Lx Go.Frame

/-- A run with an end in between. -/
def rn (D : Df) : Nat → List UInt8 → Int
  | q, [] => ac D q
  | q, b :: r => if dl D q b.toNat < 0 then -1 else rn D (dl D q b.toNat).toNat r
theorem drop_at {s : ByteArray} {i : Nat} (hi : i < s.size) : s.data.toList.drop i = s[i] :: s.data.toList.drop (i + 1) := by
  rw [List.drop_eq_getElem_cons (show i < s.data.toList.length from hi)]; rfl
set_option maxRecDepth 100000 in
set_option maxHeartbeats 4000000 in
theorem dRun_any (w : World) (D : Df) (n k : Nat) (hv : Vd D n k) (a1 : Option Addr) (n1 c1 : Nat) (a2 : Option Addr) (n2 c2 : Nat) (a3 : Option Addr) (n3 c3 : Nat) (h : DA w D a1 n1 a2 n2 a3 n3) (s : ByteArray) (hs : s.size ≤ 140737488351232) :
    Calls Try.prog 11 #[.agg #[.slice a1 n1 c1, .slice a2 n2 c2, .slice a3 n3 c3], .string s] w fun e w' => e = .returned (.int .i64 (rn D 0 s.data.toList)) ∧ Below w.heap.size w w' := by
  have HV := hid (And.intro hv h)
  have hn2 : n2 = n := by have h1 := h.l2; have h2 := hv.hn; omega
  have hn1 : n1 = 256 := by have h1 := h.l1; have h2 := hv.cl; omega
  have hn3 : n3 = n := by have h1 := h.l3; have h2 := hv.al; omega
  have HN := hid (And.intro hn1 (And.intro hn2 hn3))
  obtain ⟨W, hW⟩ : ∃ W, W = w.alloc (.cells #[.slice a1 n1 c1, .slice a2 n2 c2, .slice a3 n3 c3] 25) := ⟨_, rfl⟩
  have x1 := alloc_new w (.cells #[.slice a1 n1 c1, .slice a2 n2 c2, .slice a3 n3 c3] 25)
  have bW := bel1 w (.cells #[.slice a1 n1 c1, .slice a2 n2 c2, .slice a3 n3 c3] 25)
  rw [← hW] at x1 bW
  have HW := hid (And.intro x1 bW)
  obtain ⟨d0, d1, d2⟩ := cells3 x1
  have CV := hid (show Calls Try.prog 10 #[.agg #[.slice a1 n1 c1, .slice a2 n2 c2, .slice a3 n3 c3]] W fun e w' => e = .returned (.bool true) ∧ Below W.heap.size W w' from by
    have := Valid_any W D a1 n1 c1 a2 n2 c2 a3 n3 c3 (h.below bW)
    rw [valid_iff.2 ⟨n, k, hv⟩] at this
    exact this)
  obtain ⟨z, hz⟩ : ∃ z, z = rn D 0 s.data.toList := ⟨_, rfl⟩
  rw [← hz]
  have HZ := hid hz
  clear h hv x1 bW hn1 hn2 hn3 hz
  go_enter Try.func11, Try.ntmps11
  go_upto_region 1 with fail
  rw [← hW]
  clear hW
  go_wp2_with fail
  refine CV.out.mono ?_
  rintro e V ⟨rfl, b1⟩
  have HX := hid (And.intro ((b1.block _ (heap_lt HW.out.1)).trans HW.out.1) (HW.out.2.trans (b1.mono HW.out.2.size)))
  clear d0 d1 d2 b1 CV
  go_wp2_with fail
  go_loopg [5, 12] s.size (fun kk s5 s12 wr => ∃ (i q : Nat), s5 = .int .i64 (q : Int) ∧ s12 = .int .i64 (i : Int) ∧ i + kk = s.size ∧ q < n ∧ z = rn D q (s.data.toList.drop i) ∧ wr.heap[w.heap.size]? = some (.cells #[.slice a1 n1 c1, .slice a2 n2 c2, .slice a3 n3 c3] 25 (0, 0)) ∧ Below w.heap.size w wr)
  case atStart => exact ⟨0, 0, rfl, rfl, by omega, HV.out.1.pos, HZ.out, HX.out.1, HX.out.2⟩
  case round =>
    obtain ⟨i, q, rfl, rfl, hk, hqn, hsc, hx0, hb⟩ := hrel
    obtain ⟨d0, d1, d2⟩ := cells3 hx0
    have HB := hid hb
    have HX := hid hx0
    have hl1 : IntKind.i64.wrap ((i : Int) + 1) = (i : Int) + 1 := wrapIn (by omega) (by omega)
    by_cases hlt : i < s.size
    · have hlt' : (i : Int) < (s.size : Int) := by omega
      have hi0 : (0 : Int) ≤ (i : Int) := by omega
      have hbt := s[i].toNat_lt
      have HS := hid (show z = rn D q (s[i] :: s.data.toList.drop (i + 1)) from by rw [hsc, drop_at hlt])
      obtain ⟨r, c, hr, hc, hck, hrl, hrc, hd1, hd2⟩ := dl_at HV.out.1 hqn hbt
      obtain ⟨d, hd⟩ : ∃ d, d = dl D q s[i].toNat := ⟨_, rfl⟩
      rw [← hd] at hrc hd1 hd2
      have HD := hid hd
      have hh := HV.out.2.below hb
      obtain ⟨b2, o2, r', ra, rc, e2, _, hr', p2, hrow, hrl'⟩ := row_at hh.nxt (i := q) (by have := HN.out; omega)
      obtain rfl : r' = r := by rw [hr] at hr'; simpa using hr'.symm
      obtain ⟨b1, o1, y1, e1, _, hy1, p1⟩ := int_at hh.cls (i := s[i].toNat) (by have := HN.out; omega)
      obtain rfl : y1 = (c : Int) := by rw [hc] at hy1; simpa using hy1.symm
      obtain ⟨b3, o3, y3, e3, _, hy3, p3⟩ := int_at hrow (i := c) (by omega)
      obtain rfl : y3 = d := by rw [hrc] at hy3; simpa using hy3.symm
      rw [hrl] at p2
      subst e1 e2 e3
      have g1 : (0 : Int) ≤ (q : Int) := by omega
      have g2 : (q : Int) < (n2 : Int) := by have := HN.out; omega
      have g3 : (0 : Int) ≤ (s[i].toNat : Int) := by omega
      have g4 : (s[i].toNat : Int) < (n1 : Int) := by have := HN.out; omega
      have g5 : (0 : Int) ≤ (c : Int) := by omega
      have g6 : (c : Int) < (k : Int) := by omega
      clear hh hsc hrow hrl' hr hc hr' hy1 hy3 hrc hrl hd hx0 hb
      go_upto_region 7 with fail
      go_quiet (fail)
      by_cases hneg : y3 < 0
      · obtain rfl : y3 = -1 := by omega
        have HR := hid (show (-1 : Int) = z from by rw [HS.out]; simp only [rn]; rw [← HD.out, if_pos hneg])
        clear hd1 hd2 hneg
        go_wp2_with fail
        go_ret
        exact ⟨by first | (rw [HR.out]; done) | (rw [HR.out]; rfl), below_drewN HB.out _⟩
      · obtain ⟨q', hq'⟩ : ∃ q' : Nat, y3 = (q' : Int) := ⟨y3.toNat, by omega⟩
        have hqn' : q' < n := by omega
        have HR := hid (show z = rn D q' (s.data.toList.drop (i + 1)) from by rw [HS.out]; simp only [rn]; rw [← HD.out, if_neg hneg, hq', Int.toNat_natCast])
        have g9 : ((q' : Int) == -1) = false := by first | (simp; done) | (simp; omega)
        subst hq'
        go_wp2_with fail
        go_roundg (gk - 1)
        case measure => omega
        case rel => exact ⟨i + 1, q', rfl, by go_num, by omega, hqn', HR.out, HX.out, below_drewN HB.out _⟩
    · obtain rfl : i = s.size := by omega
      have hnil : s.data.toList.drop s.size = [] := List.drop_of_length_le (Nat.le_refl _)
      have HR := hid (show z = ac D q from by rw [hsc, hnil]; rfl)
      obtain ⟨b4, o4, y4, e4, _, hy4, p4⟩ := int_at (HV.out.2.below hb).acc (i := q) (by have := HN.out; omega)
      obtain ⟨hac1, hac2⟩ := ac_at HV.out.1 hqn
      have HF := hid (show y4 = z from by rw [HR.out]; rw [hy4] at hac1; simpa using hac1)
      subst e4
      have g7 : (0 : Int) ≤ (q : Int) := by omega
      have g8 : (q : Int) < (n3 : Int) := by have := HN.out; omega
      clear hsc hnil hx0 hb hy4 hac1
      go_wp2_with fail
      go_ret
      exact ⟨by first | (rw [HF.out]; done) | (rw [HF.out]; rfl), HB.out⟩
end Go.Proofs.Ytelbagaiijffdaa
