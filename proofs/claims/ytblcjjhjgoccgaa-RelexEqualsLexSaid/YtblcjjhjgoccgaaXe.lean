/-
  Contract: recognize.
-/
import Derived.Test.YtblcjjhjgoccgaaXd
import Derived.StillTailTactics
set_option linter.unusedSimpArgs false
set_option linter.unusedVariables false
namespace Go.Proofs.Ytblcjjhjgoccgaa
open Go.RowKit Lx Go.Frame

set_option maxRecDepth 100000 in
set_option maxHeartbeats 4000000 in
theorem recognize_any (w : World) (D : Df) (n k : Nat) (hv : Vd D n k) (a1 : Option Addr) (n1 c1 : Nat) (a2 : Option Addr) (n2 c2 : Nat) (a3 : Option Addr) (n3 c3 : Nat) (h : DA w D a1 n1 a2 n2 a3 n3) (s : ByteArray) (hs : s.size ≤ 1000000) (hp : 0 < s.size) :
    Calls Try.prog 52 #[.agg #[.slice a1 n1 c1, .slice a2 n2 c2, .slice a3 n3 c3], .string s] w fun e w' => e = .returned (.agg #[.int .i64 (sc D s 0).1, .int .i64 0, .string (s.extract 0 (sc D s 0).2.1), .int .i64 ((sc D s 0).2.2 : Int)]) ∧ Below w.heap.size w w' := by
  have HV := hid (And.intro hv h)
  have hn2 : n2 = n := by have h1 := h.l2; have h2 := hv.hn; omega
  have hn1 : n1 = 256 := by have h1 := h.l1; have h2 := hv.cl; omega
  have hn3 : n3 = n := by have h1 := h.l3; have h2 := hv.al; omega
  have HN := hid (And.intro hn1 (And.intro hn2 hn3))
  obtain ⟨W, hW⟩ : ∃ W, W = ((w.alloc (.cells #[.slice a1 n1 c1, .slice a2 n2 c2, .slice a3 n3 c3] 25)).alloc (.cells #[.int .i64 0, .int .i64 0, .string { data := #[] }, .int .i64 0] 47)).alloc (.cells #[.int .i64 (-1), .int .i64 0, .string (s.extract 0 1), .int .i64 ((s.size : Int) + 1)] 47) := ⟨_, rfl⟩
  obtain ⟨x1, x2, x3, bW, sW⟩ := three w (.cells #[.slice a1 n1 c1, .slice a2 n2 c2, .slice a3 n3 c3] 25) (.cells #[.int .i64 0, .int .i64 0, .string { data := #[] }, .int .i64 0] 47) (.cells #[.int .i64 (-1), .int .i64 0, .string (s.extract 0 1), .int .i64 ((s.size : Int) + 1)] 47)
  rw [← hW] at x1 x2 x3 bW sW
  have HW := hid (And.intro x1 (And.intro x2 (And.intro x3 (And.intro bW sW))))
  have hw1 : IntKind.i64.wrap ((s.size : Int) + 1) = (s.size : Int) + 1 := wrapIn (by omega) (by omega)
  have hp1 : (1 : Int) ≤ (s.size : Int) := by omega
  clear h hv x1 x2 x3 bW sW hn1 hn2 hn3
  go_enter Try.func52, Try.ntmps52
  go_upto_region 2 with fail
  rw [← hW]
  clear hW
  go_wp2_with fail
  go_loopg [6, 17] s.size (fun kk s6 s17 wr => ∃ (i q size : Nat) (kind : Int), s6 = .int .i64 (q : Int) ∧ s17 = .int .i64 (i : Int) ∧ i + kk = s.size ∧ q < n ∧ size ≤ s.size ∧ sc D s 0 = scan D q (s.data.toList.drop i) i kind size ∧
    wr.heap[w.heap.size]? = some (.cells #[.slice a1 n1 c1, .slice a2 n2 c2, .slice a3 n3 c3] 25 (0, 0)) ∧ wr.heap[w.heap.size + 1]? = some (.cells #[.int .i64 0, .int .i64 0, .string { data := #[] }, .int .i64 0] 47 (0, 0)) ∧ wr.heap[w.heap.size + 1 + 1]? = some (.cells #[.int .i64 kind, .int .i64 0, .string (s.extract 0 size), .int .i64 ((s.size : Int) + 1)] 47 (0, 0)) ∧ Below w.heap.size w wr)
  case atStart => exact ⟨0, 0, 1, -1, rfl, rfl, by omega, HV.out.1.pos, by omega, rfl, HW.out.1, HW.out.2.1, HW.out.2.2.1, HW.out.2.2.2.1⟩
  case round =>
    obtain ⟨i, q, size, kind, rfl, rfl, hk, hqn, hsz, hsc, hx0, hx1, hx2, hb⟩ := hrel
    obtain ⟨d0, d1, d2⟩ := cells3 hx0
    obtain ⟨r0, r1, r2, r3⟩ := cells4 hx1
    obtain ⟨t0, t1, t2, t3⟩ := cells4 hx2
    have fr0 := Go.Frame.free hx1 0
    have fr1 := Go.Frame.free hx1 1
    have fr2 := Go.Frame.free hx1 2
    have fr3 := Go.Frame.free hx1 3
    have ft0 := Go.Frame.free hx2 0
    have ft2 := Go.Frame.free hx2 2
    have ft3 := Go.Frame.free hx2 3
    have HB := hid hb
    have HX := hid (And.intro hx0 (And.intro hx1 hx2))
    have hl1 : IntKind.i64.wrap ((i : Int) + 1) = (i : Int) + 1 := wrapIn (by omega) (by omega)
    by_cases hlt : i < s.size
    · have hlt' : (i : Int) < (s.size : Int) := by omega
      have hi0 : (0 : Int) ≤ (i : Int) := by omega
      have hbt := s[i].toNat_lt
      have HS := hid (show sc D s 0 = scan D q (s[i] :: s.data.toList.drop (i + 1)) i kind size from by rw [hsc, drop_at hlt])
      obtain ⟨r, c, hr, hc, hck, hrl, hrc, hd1, hd2⟩ := dl_at HV.out.1 hqn hbt
      obtain ⟨d, hd⟩ : ∃ d, d = dl D q s[i].toNat := ⟨_, rfl⟩
      rw [← hd] at hrc hd1 hd2
      have HD := hid hd
      have hh := HV.out.2.below hb
      obtain ⟨b2, o2, r', ra, rc, e2, _, hr', p2, hrow, hrl'⟩ := row_at hh.nxt (i := q) (by have := HN.out; omega)
      obtain rfl : r' = r := by rw [hr] at hr'; simpa using hr'.symm
      obtain ⟨b1, o1, y1, e1, _, hy1, p1⟩ := int_at hh.cls (i := s[i].toNat) (by have := HN.out; omega)
      obtain rfl : y1 = (c : Int) := by rw [hc] at hy1; simpa using hy1.symm
      obtain ⟨b3, o3, y3, e3, _, hy3, p3⟩ := int_at hrow (i := c) (by omega)
      obtain rfl : y3 = d := by rw [hrc] at hy3; simpa using hy3.symm
      rw [hrl] at p2
      subst e1 e2 e3
      have g1 : (0 : Int) ≤ (q : Int) := by omega
      have g2 : (q : Int) < (n2 : Int) := by have := HN.out; omega
      have g3 : (0 : Int) ≤ (s[i].toNat : Int) := by omega
      have g4 : (s[i].toNat : Int) < (n1 : Int) := by have := HN.out; omega
      have g5 : (0 : Int) ≤ (c : Int) := by omega
      have g6 : (c : Int) < (k : Int) := by omega
      clear hh hsc hrow hrl' hr hc hr' hy1 hy3 hrc hrl hd hx0 hx1 hx2 hb
      go_upto_region 6 with fail
      go_quiet (fail)
      by_cases hneg : y3 < 0
      · obtain rfl : y3 = -1 := by omega
        have HR := hid (show sc D s 0 = (kind, size, i + 1) from by rw [HS.out]; simp only [scan]; rw [← HD.out, if_pos hneg])
        clear hd1 hd2 hneg
        go_wp2_with fail
        refine bodyPost_ret (v := .agg #[.int .i64 kind, .int .i64 0, .string (s.extract 0 size), .int .i64 ((i : Int) + 1)]) ?_ rfl ⟨by rw [HR.out]; rfl, ?_⟩
        · simp [results, Try.results52, go_sem, r0, r1, r2, r3]
        · repeat (refine Below.setCell ?_ (by first | (simp; done) | (simp; omega)) _)
          exact below_drewN HB.out _
      · obtain ⟨q', hq'⟩ : ∃ q' : Nat, y3 = (q' : Int) := ⟨y3.toNat, by omega⟩
        have hqn' : q' < n := by omega
        obtain ⟨b4, o4, y4, e4, _, hy4, p4⟩ := int_at (HV.out.2.below HB.out).acc (i := q') (by have := HN.out; omega)
        obtain ⟨hac1, hac2⟩ := ac_at HV.out.1 hqn'
        have h5 : ac D q' = y4 := by rw [hy4] at hac1; simpa using hac1.symm
        have HS2 := hid (show sc D s 0 = if 0 ≤ y4 then scan D q' (s.data.toList.drop (i + 1)) (i + 1) y4 (i + 1) else scan D q' (s.data.toList.drop (i + 1)) (i + 1) kind size from by
          rw [HS.out]; simp only [scan]; rw [← HD.out, if_neg hneg, hq', Int.toNat_natCast, h5])
        subst e4
        have g7 : (0 : Int) ≤ (q' : Int) := by omega
        have g8 : (q' : Int) < (n3 : Int) := by have := HN.out; omega
        have g9 : ((q' : Int) == -1) = false := by first | (simp; done) | (simp; omega)
        subst hq'
        clear hy4 hac1 h5
        by_cases hac : 0 ≤ y4
        · have HR := hid (show sc D s 0 = scan D q' (s.data.toList.drop (i + 1)) (i + 1) y4 (i + 1) from by rw [HS2.out, if_pos hac])
          have hsl : (i : Int) + 1 ≤ (s.size : Int) := by omega
          have hsl0 : (0 : Int) ≤ (i : Int) + 1 := by omega
          have HTX : ∀ U : World, U.heap[w.heap.size + 1 + 1]? = some (.cells #[.int .i64 kind, .int .i64 0, .string (s.extract 0 size), .int .i64 ((s.size : Int) + 1)] 47 (0, 0)) → ((U.setCell ⟨w.heap.size + 1 + 1, 0, none⟩ (.int .i64 y4)).setCell ⟨w.heap.size + 1 + 1, 2, none⟩ (.string (s.extract 0 (i + 1)))).heap[w.heap.size + 1 + 1]? = some (.cells #[.int .i64 y4, .int .i64 0, .string (s.extract 0 (i + 1)), .int .i64 ((s.size : Int) + 1)] 47 (0, 0)) := fun U hU => by rw [blk_put (blk_put hU)]; rfl
          have HT := hid HTX
          clear HTX
          go_upto_region 12 with fail
          go_region_with fail
          go_wp2_with fail
          go_roundg (gk - 1)
          case measure => omega
          case rel =>
            have hbz := HB.out.size
            refine ⟨i + 1, q', i + 1, y4, rfl, by go_num, by omega, hqn', by omega, HR.out, ?_, ?_, HT.out _ HX.out.2.2, ?_⟩
            · exact blk_set (blk_set HX.out.1 (by simp; omega)) (by simp; omega)
            · exact blk_set (blk_set HX.out.2.1 (by first | (simp; done) | (simp; omega))) (by first | (simp; done) | (simp; omega))
            · exact below_put (below_put (below_drewN HB.out _) (by omega)) (by omega)
        · have HR := hid (show sc D s 0 = scan D q' (s.data.toList.drop (i + 1)) (i + 1) kind size from by rw [HS2.out, if_neg hac])
          go_wp2_with fail
          go_roundg (gk - 1)
          case measure => omega
          case rel => exact ⟨i + 1, q', size, kind, rfl, by go_num, by omega, hqn', hsz, HR.out, HX.out.1, HX.out.2.1, HX.out.2.2, below_drewN HB.out _⟩
    · obtain rfl : i = s.size := by omega
      have hnil : s.data.toList.drop s.size = [] := List.drop_of_length_le (Nat.le_refl _)
      have HR := hid (show sc D s 0 = (kind, size, s.size + 1) from by rw [hsc, hnil]; rfl)
      clear hsc hnil hx0 hx1 hx2 hb
      go_wp2_with fail
      refine bodyPost_ret (v := .agg #[.int .i64 kind, .int .i64 0, .string (s.extract 0 size), .int .i64 ((s.size : Int) + 1)]) ?_ rfl ⟨by rw [HR.out]; rfl, ?_⟩
      · simp [results, Try.results52, go_sem, r0, r1, r2, r3]
      · repeat (refine Below.setCell ?_ (by first | (simp; done) | (simp; omega)) _)
        exact HB.out
end Go.Proofs.Ytblcjjhjgoccgaa
