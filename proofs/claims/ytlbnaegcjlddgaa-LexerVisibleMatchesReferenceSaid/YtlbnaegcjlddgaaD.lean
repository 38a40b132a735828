/-
  Contract: recognize.
-/
import Derived.Test.YtlbnaegcjlddgaaC
set_option linter.unusedSimpArgs false
set_option linter.unusedVariables false
namespace Go.Proofs.Ytlbnaegcjlddgaa
open Go.RowKit Lx Go.Frame

/-- A token's cells. -/
def tkv (t : Tk) : List Value := [.int .i64 t.kind, .int .i64 (t.pos : Int), .string t.txt, .int .i64 (t.look : Int)]
/-- A token in a block. -/
def TB (W : World) (b : Nat) (kind : Int) (pos : Nat) (txt : ByteArray) (look : Nat) : Prop := W.heap[b]? = some (.cells #[.int .i64 kind, .int .i64 (pos : Int), .string txt, .int .i64 (look : Int)] 32 (0, 0))
theorem TB.lt {W : World} {b : Nat} {kind : Int} {pos : Nat} {txt : ByteArray} {look : Nat} (h : TB W b kind pos txt look) : b < W.heap.size := heap_lt h
theorem TB.free {W : World} {b : Nat} {kind : Int} {pos : Nat} {txt : ByteArray} {look : Nat} (h : TB W b kind pos txt look) (k : Nat) : W.frozen? ⟨b, k, none⟩ = false := Go.Frame.free h k
theorem drop_at {s : ByteArray} {i : Nat} (h : i < s.size) : s.data.toList.drop i = s[i] :: s.data.toList.drop (i + 1) := by
  have hl : i < s.data.toList.length := h
  rw [List.drop_eq_getElem_cons hl]; rfl
set_option maxRecDepth 100000 in
set_option maxHeartbeats 4000000 in
theorem recognize_any (w : World) (D : Df) (n k : Nat) (hv : Vd D n k) (a1 : Option Addr) (n1 c1 : Nat) (a2 : Option Addr) (n2 c2 : Nat) (a3 : Option Addr) (n3 c3 : Nat) (h : DA w D a1 n1 a2 n2 a3 n3) (s : ByteArray) (hs : s.size ≤ 1000000) (p : Nat) (hp : p < s.size) :
    Calls Try.prog 23 #[.agg #[.slice a1 n1 c1, .slice a2 n2 c2, .slice a3 n3 c3], .string s, .int .i64 (p : Int)] w fun e w' => e = .returned (.agg #[.int .i64 (sc D s p).1, .int .i64 (p : Int), .string (s.extract p (p + (sc D s p).2.1)), .int .i64 ((sc D s p).2.2 : Int)]) ∧ Below w.heap.size w w' := by
  have CA := hid (fun W q (hq : q < n) mb (hm : MB w W mb a1 n1 c1 a2 n2 c2 a3 n3 c3 ((q : Nat) : Int)) b (hb : b < 256) => advance_any w W D n k hv mb a1 n1 c1 a2 n2 c2 a3 n3 c3 h q hq hm b hb)
  have HV := hid (And.intro hv h)
  obtain ⟨W, hW⟩ : ∃ W, W = (w.alloc (.cells #[.slice a1 n1 c1, .slice a2 n2 c2, .slice a3 n3 c3] 25)).alloc (.cells #[.int .i64 0, .int .i64 0, .string { data := #[] }, .int .i64 0] 32) := ⟨_, rfl⟩
  obtain ⟨x1, x2, bW, sW⟩ := two w (.cells #[.slice a1 n1 c1, .slice a2 n2 c2, .slice a3 n3 c3] 25) (.cells #[.int .i64 0, .int .i64 0, .string { data := #[] }, .int .i64 0] 32)
  rw [← hW] at x1 x2 bW sW
  have HW := hid (And.intro x1 (And.intro x2 (And.intro bW sW)))
  obtain ⟨d0, d1, d2⟩ := cells3 x1
  clear h hv x1 x2 bW sW
  have hp1 : (0 : Int) ≤ (p : Int) := by omega
  have hp2 : (p : Int) ≤ (p : Int) + 1 := by omega
  have hp3 : (p : Int) + 1 ≤ (s.size : Int) := by omega
  have hp4 : IntKind.i64.wrap ((p : Int) + 1) = (p : Int) + 1 := wrapIn (by omega) (by omega)
  go_enter Try.func23, Try.ntmps23
  go_upto_region 1 with fail
  rw [← hW]
  clear hW
  go_upto_region 4 with fail
  obtain ⟨X, hX⟩ : ∃ X, X = (W.alloc (.cells #[.slice a1 n1 c1, .slice a2 n2 c2, .slice a3 n3 c3, .int .i64 0] 63)).alloc (.cells #[.int .i64 (-1), .int .i64 (p : Int), .string (s.extract p (p + 1)), .int .i64 0] 32) := ⟨_, rfl⟩
  obtain ⟨y1, y2, bX, sX⟩ := two W (.cells #[.slice a1 n1 c1, .slice a2 n2 c2, .slice a3 n3 c3, .int .i64 0] 63) (.cells #[.int .i64 (-1), .int .i64 (p : Int), .string (s.extract p (p + 1)), .int .i64 0] 32)
  rw [← hX] at y1 y2 bX sX
  have HX := hid (show X.heap[w.heap.size]? = some (.cells #[.slice a1 n1 c1, .slice a2 n2 c2, .slice a3 n3 c3] 25 (0, 0)) ∧ X.heap[w.heap.size + 1]? = some (.cells #[.int .i64 0, .int .i64 0, .string { data := #[] }, .int .i64 0] 32 (0, 0)) ∧ MB w X W.heap.size a1 n1 c1 a2 n2 c2 a3 n3 c3 ((0 : Nat) : Int) ∧ TB X (W.heap.size + 1) (-1) p (s.extract p (p + 1)) 0 from
    ⟨(bX.block _ (heap_lt HW.out.1)).trans HW.out.1, (bX.block _ (heap_lt HW.out.2.1)).trans HW.out.2.1, ⟨y1, by have := HW.out.2.2.1.size; omega, HW.out.2.2.1.trans (bX.mono HW.out.2.2.1.size)⟩, y2⟩)
  rw [← hX]
  clear hX d0 d1 d2 y1 y2 bX sX
  go_wp2_with fail
  go_loopg [10] (s.size - p) (fun kk s10 wr => ∃ (i look q size : Nat) (kind : Int), s10 = .int .i64 (i : Int) ∧ i + kk = s.size ∧ Hid (i = p + look) ∧ q < n ∧ p + size ≤ s.size ∧ sc D s p = scan D q (s.data.toList.drop i) look kind size ∧
    wr.heap[w.heap.size]? = some (.cells #[.slice a1 n1 c1, .slice a2 n2 c2, .slice a3 n3 c3] 25 (0, 0)) ∧ wr.heap[w.heap.size + 1]? = some (.cells #[.int .i64 0, .int .i64 0, .string { data := #[] }, .int .i64 0] 32 (0, 0)) ∧ MB w wr W.heap.size a1 n1 c1 a2 n2 c2 a3 n3 c3 (q : Int) ∧ TB wr (W.heap.size + 1) kind p (s.extract p (p + size)) look)
  case atStart => exact ⟨p, 0, 0, 1, -1, rfl, by omega, hid rfl, HV.out.1.pos, by omega, rfl, HX.out.1, HX.out.2.1, HX.out.2.2.1, HX.out.2.2.2⟩
  case round =>
    obtain ⟨i, look, q, size, kind, rfl, hk, HI, hqn, hsz, hsc, hx0, hx1, hmb, htb⟩ := hrel
    obtain ⟨t0, t1, t2, t3⟩ := cells4 htb
    have f3 := htb.free 3
    have hl1 : IntKind.i64.wrap ((look : Int) + 1) = (look : Int) + 1 := by have := HI.out; exact wrapIn (by omega) (by omega)
    by_cases hlt : i < s.size
    · have hlt' : (i : Int) < (s.size : Int) := by omega
      have hi0 : (0 : Int) ≤ (i : Int) := by omega
      have hi1 : IntKind.i64.wrap ((i : Int) + 1) = (i : Int) + 1 := wrapIn (by omega) (by omega)
      obtain ⟨U, hU⟩ : ∃ U, U = wr.setCell ⟨W.heap.size + 1, 3, none⟩ (.int .i64 ((look : Int) + 1)) := ⟨_, rfl⟩
      have hneB : w.heap.size ≠ W.heap.size + 1 ∧ w.heap.size + 1 ≠ W.heap.size + 1 ∧ W.heap.size ≠ W.heap.size + 1 := by have := HW.out.2.2.2; omega
      have HU := hid (show U.heap[w.heap.size]? = some (.cells #[.slice a1 n1 c1, .slice a2 n2 c2, .slice a3 n3 c3] 25 (0, 0)) ∧ U.heap[w.heap.size + 1]? = some (.cells #[.int .i64 0, .int .i64 0, .string { data := #[] }, .int .i64 0] 32 (0, 0)) ∧ MB w U W.heap.size a1 n1 c1 a2 n2 c2 a3 n3 c3 (q : Int) ∧ TB U (W.heap.size + 1) kind p (s.extract p (p + size)) (look + 1) from by
        rw [hU]
        exact ⟨blk_set hx0 hneB.1, blk_set hx1 hneB.2.1, ⟨blk_set hmb.box hneB.2.2, hmb.lo, below_put hmb.bel (by have := hmb.lo; omega)⟩, (blk_put htb).trans rfl⟩)
      have hbt := s[i].toNat_lt
      have CC := hid (CA.out U q hqn W.heap.size HU.out.2.2.1 s[i].toNat hbt)
      have HS := hid (show sc D s p = scan D q (s[i] :: s.data.toList.drop (i + 1)) look kind size from by rw [hsc, drop_at hlt])
      clear hsc hx0 hx1 hmb htb hneB
      go_upto_region 8 with fail
      rw [← hU]
      clear hU t0 t1 t2 t3 f3
      go_wp2_with fail
      refine CC.out.mono ?_
      rintro e V ⟨rfl, hmv, kV⟩
      have HVV := hid (show V.heap[w.heap.size]? = some (.cells #[.slice a1 n1 c1, .slice a2 n2 c2, .slice a3 n3 c3] 25 (0, 0)) ∧ V.heap[w.heap.size + 1]? = some (.cells #[.int .i64 0, .int .i64 0, .string { data := #[] }, .int .i64 0] 32 (0, 0)) ∧ MB w V W.heap.size a1 n1 c1 a2 n2 c2 a3 n3 c3 (dl D q s[i].toNat) ∧ TB V (W.heap.size + 1) kind p (s.extract p (p + size)) (look + 1) from
        ⟨(kV.block _ (by have := HW.out.2.2.2; omega)).trans HU.out.1, (kV.block _ (by have := HW.out.2.2.2; omega)).trans HU.out.2.1, hmv, (kV.block _ (by omega)).trans HU.out.2.2.2⟩)
      obtain ⟨_, _, _, _, _, _, _, hd1, hd2⟩ := dl_at HV.out.1 hqn hbt
      obtain ⟨d, hd⟩ : ∃ d, d = dl D q s[i].toNat := ⟨_, rfl⟩
      have HD := hid hd
      rw [← hd] at HVV hd1 hd2 ⊢
      clear hmv kV CC hd
      obtain ⟨t0, t1, t2, t3⟩ := cells4 HVV.out.2.2.2
      obtain ⟨r0, r1, r2, r3⟩ := cells4 HVV.out.2.1
      have fr : ∀ j, V.frozen? ⟨w.heap.size + 1, j, none⟩ = false := fun j => Go.Frame.free HVV.out.2.1 j
      have ft0 := HVV.out.2.2.2.free 0
      have ft2 := HVV.out.2.2.2.free 2
      have hq1 : (p : Int) ≤ (i : Int) + 1 := by have := HI.out; omega
      have hq2 : (i : Int) + 1 ≤ (s.size : Int) := by omega
      by_cases hneg : d < 0
      · rw [advT_no hneg]
        have fr0 := fr 0
        have fr1 := fr 1
        have fr2 := fr 2
        have fr3 := fr 3
        have HR := hid (show sc D s p = (kind, size, look + 1) from by rw [HS.out]; simp only [scan]; rw [← HD.out, if_pos hneg])
        go_wp2_with fail
        refine bodyPost_ret (v := .agg #[.int .i64 kind, .int .i64 (p : Int), .string (s.extract p (p + size)), .int .i64 ((look : Int) + 1)]) ?_ rfl ⟨by rw [HR.out]; rfl, ?_⟩
        · simp [results, Try.results23, go_sem, r0, r1, r2, r3]
        · repeat (refine Below.setCell ?_ (by first | (simp; done) | (simp; omega)) _)
          exact HVV.out.2.2.1.bel
      · rw [advT_yes hneg]
        have hpn : d.toNat < n := by omega
        by_cases hac : 0 ≤ ac D d.toNat
        · have HR := hid (show sc D s p = scan D d.toNat (s.data.toList.drop (i + 1)) (look + 1) (ac D d.toNat) (look + 1) from by rw [HS.out]; simp only [scan]; rw [← HD.out, if_neg hneg, if_pos hac])
          go_wp2_with fail
          go_region
          have hpi : i + 1 = p + (look + 1) := by have := HI.out; omega
          have hneB : w.heap.size ≠ W.heap.size + 1 ∧ w.heap.size + 1 ≠ W.heap.size + 1 ∧ W.heap.size ≠ W.heap.size + 1 := by have := HW.out.2.2.2; omega
          have hdn : ((d.toNat : Nat) : Int) = d := Int.toNat_of_nonneg (by omega)
          obtain ⟨Z, hZ⟩ : ∃ Z, Z = ((V.setCell ⟨W.heap.size + 1, 0, none⟩ (.int .i64 (ac D d.toNat))).setCell ⟨W.heap.size + 1, 2, none⟩ (.string (s.extract p (i + 1)))).drew := ⟨_, rfl⟩
          have HZ := hid (show Z.heap[w.heap.size]? = some (.cells #[.slice a1 n1 c1, .slice a2 n2 c2, .slice a3 n3 c3] 25 (0, 0)) ∧ Z.heap[w.heap.size + 1]? = some (.cells #[.int .i64 0, .int .i64 0, .string { data := #[] }, .int .i64 0] 32 (0, 0)) ∧ MB w Z W.heap.size a1 n1 c1 a2 n2 c2 a3 n3 c3 ((d.toNat : Nat) : Int) ∧ TB Z (W.heap.size + 1) (ac D d.toNat) p (s.extract p (p + (look + 1))) (look + 1) from by
            rw [hZ]
            refine ⟨blk_set (blk_set HVV.out.1 hneB.1) hneB.1, blk_set (blk_set HVV.out.2.1 hneB.2.1) hneB.2.1, ⟨?_, HVV.out.2.2.1.lo, (below_put (below_put HVV.out.2.2.1.bel (by have := HVV.out.2.2.1.lo; omega)) (by have := HVV.out.2.2.1.lo; omega)).drew⟩, ?_⟩
            · rw [hdn]; exact blk_set (blk_set HVV.out.2.2.1.box hneB.2.2) hneB.2.2
            · rw [← hpi]; exact (blk_put ((blk_put HVV.out.2.2.2).trans rfl)).trans rfl)
          rw [← hZ]
          have hsz2 : p + (look + 1) ≤ s.size := by omega
          clear hZ hdn hneB hpi
          go_wp2
          go_roundg (gk - 1)
          case measure => omega
          case rel => exact ⟨i + 1, look + 1, d.toNat, look + 1, ac D d.toNat, by go_num, by omega, hid (by have := HI.out; omega), hpn, hsz2, HR.out, HZ.out.1, HZ.out.2.1, HZ.out.2.2.1, HZ.out.2.2.2⟩
        · have HR := hid (show sc D s p = scan D d.toNat (s.data.toList.drop (i + 1)) (look + 1) kind size from by rw [HS.out]; simp only [scan]; rw [← HD.out, if_neg hneg, if_neg hac])
          have hdn : ((d.toNat : Nat) : Int) = d := Int.toNat_of_nonneg (by omega)
          have HDN := hid hdn
          clear hdn
          go_wp2_with fail
          go_roundg (gk - 1)
          case measure => omega
          case rel => exact ⟨i + 1, look + 1, d.toNat, size, kind, by go_num, by omega, hid (by have := HI.out; omega), hpn, hsz, HR.out, HVV.out.1, HVV.out.2.1, HDN.out ▸ HVV.out.2.2.1, HVV.out.2.2.2⟩
    · have hlt' : ¬ (i : Int) < (s.size : Int) := by omega
      have hnil : s.data.toList.drop i = [] := List.drop_of_length_le (show s.data.toList.length ≤ i from by have : s.data.toList.length = s.size := rfl; omega)
      have HR := hid (show sc D s p = (kind, size, look + 1) from by rw [hsc, hnil]; rfl)
      obtain ⟨r0, r1, r2, r3⟩ := cells4 hx1
      have fr0 := Go.Frame.free hx1 0
      have fr1 := Go.Frame.free hx1 1
      have fr2 := Go.Frame.free hx1 2
      have fr3 := Go.Frame.free hx1 3
      have HB := hid hmb.bel
      have hneB : w.heap.size + 1 ≠ W.heap.size + 1 := by have := HW.out.2.2.2; omega
      clear hsc hnil hmb htb hx0 hx1
      go_wp2_with fail
      refine bodyPost_ret (v := .agg #[.int .i64 kind, .int .i64 (p : Int), .string (s.extract p (p + size)), .int .i64 ((look : Int) + 1)]) ?_ rfl ⟨by rw [HR.out]; rfl, ?_⟩
      · simp [results, Try.results23, go_sem, r0, r1, r2, r3, hneB]
      · repeat (refine Below.setCell ?_ (by first | (simp; done) | (simp; have := HW.out.2.2.2; omega)) _)
        exact HB.out
end Go.Proofs.Ytlbnaegcjlddgaa
