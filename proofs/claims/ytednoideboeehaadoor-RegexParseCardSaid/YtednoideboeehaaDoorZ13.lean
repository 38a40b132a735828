/-
  Contract: Match.
  Contracts: writable, printable, lastOfRun, writeChar.
  Contracts: printable, lastOfRun, writeChar.
  Contract: writeBrackets.
  Contracts: Len; the reference's List and Len.
  Contracts: All, its iterator.
-/
import Derived.Test.YtednoideboeehaaDoorZ11
import Derived.Test.YtednoideboeehaaDoorZ12
import Derived.Test.YtednoideboeehaaDoorZ06
import Derived.Test.YtednoideboeehaaDoorZ09
import Derived.Test.YtednoideboeehaaDoorZ02
import Derived.Deep.LoopGhost
import Derived.LoopIn
import Derived.Test.YtednoideboeehaaDoorZ05
import Derived.Test.YtednoideboeehaaDoorZ03
import Derived.RangeFuncNested
import Derived.RangeFuncBound
import Derived.RangeFuncCalls
import Derived.RangeFuncLeaves
import Derived.RangeFuncFrom
import Derived.OwnWalkIn
import Derived.TacticsInMore
import Derived.LoopNIn
section
set_option linter.unusedSimpArgs false
set_option linter.unusedVariables false
namespace Go.Proofs.YtednoideboeehaaDoor
open Go.RowKit Bs Rg Go.Frame
attribute [local go_sem] eq_zero eq_set

/-- What is left to be read, with the answer so far. -/
def fin : List UInt8 → Nat → Pg → Bool → Bool
  | [], _, _, m => m
  | b :: t, n, p, _ => fin t (n + 1) (rd b p (n == 0)) (rd b p (n == 0)).en
theorem fin_rds : ∀ (t : List UInt8) (n : Nat) (p : Pg) (b : UInt8), fin (b :: t) n p false = (rds (b :: t) n p).en
  | [], n, p, b => by rw [fin, fin, rds, rds]
  | c :: t, n, p, b => by
    have h := fin_rds t (n + 1) (rd b p (n == 0)) c
    rw [fin, rds, ← h, fin, fin]
theorem fin_mtc (r : Rx) (s : List UInt8) : fin s 0 (np r) (nul r) = mtc r s := by
  cases s with
  | nil => rfl
  | cons b t =>
    have := fin_rds t 0 (np r) b
    rw [fin] at this ⊢
    rw [this]; rfl
theorem np_nu (r : Rx) : (np r).nu = nul r := by obtain ⟨k, s, l⟩ := r; rw [np]; rfl

set_option maxRecDepth 100000 in
set_option maxHeartbeats 4000000 in
theorem Match_any (g : Nat → Prop) (r : Rx) (s : ByteArray) (w : World) (cs : List Value) (hf : fits r 32 = true) (hp : parts r ≤ 1000000) (hs : s.size ≤ 1000000) (h : RC g w r cs) :
    Calls Tryd.prog 23 #[.agg cs.toArray, .string s] w fun e w' => e = .returned (.bool (mtc r s.data.toList)) ∧ Below w.heap.size w w' := by
  have hv : Vd r := ⟨_, hf⟩
  obtain ⟨k, S, l⟩ := r
  obtain ⟨a, n, c, rfl, hK⟩ := RC_mk.1 h
  have CM := hid (fun V (hV : Below w.heap.size w V) => matchable_any g (.mk k S l) V _ (h.below hV))
  have CN := hid (fun V (hV : Below w.heap.size w V) => newProgress_any g (.mk k S l) V _ hp (h.below hV))
  rw [hf] at CM
  obtain ⟨R, hR⟩ : ∃ R, R = mtc (.mk k S l) s.data.toList := ⟨_, rfl⟩
  rw [← hR]
  rw [← fin_mtc] at hR
  obtain ⟨p0, hp0⟩ : ∃ p0, p0 = np (.mk k S l) := ⟨_, rfl⟩
  have hsp : Sp p0 := by rw [hp0]; exact sp_np _ hv
  have hnu : p0.nu = nul (.mk k S l) := by rw [hp0, np_nu]
  rw [← hp0] at CN hR
  rw [← hnu] at hR
  have HR := hid (And.intro hR (And.intro hsp (And.intro hs (bel1 w (.cells #[.int .i64 k, .int .u64 (ws S 0 : Int), .int .u64 (ws S 1 : Int), .int .u64 (ws S 2 : Int), .int .u64 (ws S 3 : Int), .slice a n c] 27)))))
  have hx0 := hid (alloc_new w (.cells #[.int .i64 k, .int .u64 (ws S 0 : Int), .int .u64 (ws S 1 : Int), .int .u64 (ws S 2 : Int), .int .u64 (ws S 3 : Int), .slice a n c] 27))
  clear hf hv hp h hK hR hp0 hsp hnu hs
  show Calls Tryd.prog 23 #[.agg #[.int .i64 k, .int .u64 (ws S 0 : Int), .int .u64 (ws S 1 : Int), .int .u64 (ws S 2 : Int), .int .u64 (ws S 3 : Int), .slice a n c], .string s] w _
  go_enter Tryd.func23, Tryd.ntmps23
  go_wp2_with fail
  refine (CM.out _ HR.out.2.2.2).mono ?_
  rintro e w1 ⟨rfl, b1⟩
  have hx1 := (b1.block _ (heap_lt hx0.out)).trans hx0.out
  have B1 := hid (HR.out.2.2.2.trans (b1.mono HR.out.2.2.2.size))
  clear b1
  obtain ⟨c0, c1, c2, c3, c4, c5⟩ := cells6 hx1
  clear hx1
  go_wp2_with fail
  refine (CN.out _ B1.out).mono ?_
  rintro e w2 ⟨⟨ps, rfl, hPC⟩, b2⟩
  obtain ⟨k', s', l', nu, en⟩ := p0
  obtain ⟨a', n', c', rfl, hPC'⟩ := PC_mk.1 hPC
  have B2 := hid (B1.out.trans (b2.mono B1.out.size))
  obtain ⟨W3, hW3⟩ : ∃ W3, W3 = w2.alloc (.cells #[.int .i64 k', .int .u64 (ws s' 0 : Int), .int .u64 (ws s' 1 : Int), .int .u64 (ws s' 2 : Int), .int .u64 (ws s' 3 : Int), .slice a' n' c', .bool nu, .bool en] 69) := ⟨_, rfl⟩
  have b3 : Below w2.heap.size w2 W3 := by rw [hW3]; exact bel1 _ _
  have hA' : W3.heap[w2.heap.size]? = some (.cells #[.int .i64 k', .int .u64 (ws s' 0 : Int), .int .u64 (ws s' 1 : Int), .int .u64 (ws s' 2 : Int), .int .u64 (ws s' 3 : Int), .slice a' n' c', .bool nu, .bool en] 69 (0, 0)) := by rw [hW3]; exact alloc_new _ _
  have hAt : At W3 w2.heap.size 0 (.mk k' s' l' nu en) w1.heap.size w2.heap.size := by
    refine ⟨heap_lt hA', by omega, free hA', pcs k' s' (.slice a' n' c') nu en, fun j v hj => by rw [Nat.zero_add]; exact cell_at hA' (by rw [← hj]; simp [pcs]), PC.keep b3.size _ (fun y y1 y2 => b3.block y y2) hPC⟩
  have HA := hid (And.intro hAt (B2.out.trans (b3.mono B2.out.size)))
  rw [show Pg.nu (.mk k' s' l' nu en) = nu from rfl] at HR
  clear hPC hPC' b2 hA' b3 hAt
  unfold pcs
  go_wp2_with fail
  rw [← hW3]
  clear hW3
  go_loopg [6, 17] s.size (fun k1 s6 s17 wr => ∃ (i : Nat) (p : Pg) (m : Bool), s17 = .int .i64 (i : Int) ∧ s6 = .bool m ∧ i + k1 = s.size ∧ At wr w2.heap.size 0 p w1.heap.size w2.heap.size ∧ Sp p ∧ Below w.heap.size w wr ∧ w.heap.size ≤ w2.heap.size ∧ R = fin (s.data.toList.drop i) i p m)
  case atStart => exact ⟨0, _, _, rfl, rfl, by omega, HA.out.1, HR.out.2.1, HA.out.2, B2.out.size, by simpa using HR.out.1⟩
  case round =>
    obtain ⟨i, p, m, rfl, rfl, hk1, hAt, hsp, hB, hwA, hRi⟩ := hrel
    have hsz := HR.out.2.2.1
    by_cases hlt : i < s.size
    · have hlt' : (i : Int) < (s.size : Int) := by omega
      have hi0 : (0 : Int) ≤ (i : Int) := by omega
      have hdr : s.data.toList.drop i = s[i] :: s.data.toList.drop (i + 1) := by
        rw [List.drop_eq_getElem_cons (by simpa using hlt)]; rfl
      rw [hdr, fin] at hRi
      have CK := hid (read_any p hsp wr w2.heap.size 0 _ _ s[i] (i == 0) hAt)
      have hsp' := hid (sp_rd (b := s[i]) p hsp (i == 0))
      obtain ⟨y, hy⟩ : ∃ y, y = rd s[i] p (i == 0) := ⟨_, rfl⟩
      rw [← hy] at hRi CK hsp'
      have hi1 : ((i : Int) == 0) = (i == 0) := by
        by_cases h0 : i = 0
        · subst h0; rfl
        · rw [beq_eq_false_iff_ne.2 h0, beq_eq_false_iff_ne.2 (by omega : (i : Int) ≠ 0)]
      have HX := hid (And.intro hRi (And.intro hB (And.intro hwA hAt.1)))
      clear hRi hB hwA hAt hsp hdr hy
      go_wp2_with fail
      refine CK.out.mono ?_
      rintro e w3 ⟨rfl, hAt3, hM3⟩
      have e7 := hAt3.cells.2
      simp only [Nat.zero_add] at e7
      have H3 := hid (And.intro hAt3 (show Below w.heap.size w w3 from HX.out.2.1.trans ⟨hM3.2.2.2.1, hM3.2.2.2.2.1, hM3.2.2.2.2.2, hM3.1, fun y hy => hM3.2.1 y (Nat.lt_of_lt_of_le hy HX.out.2.1.size) (by have := HX.out.2.2.1; omega) (by have := B1.out.size; omega)⟩))
      clear hAt3 hM3
      go_wp2
      go_roundg (gk - 1)
      case measure => omega
      case rel => exact ⟨i + 1, y, _, by go_num, rfl, by omega, H3.out.1, hsp'.out, H3.out.2, HX.out.2.2.1, HX.out.1⟩
    · have hlt' : ¬ (i : Int) < (s.size : Int) := by omega
      have HX := hid (And.intro hRi hB)
      clear hAt hB hRi
      go_wp2
      go_ret
      refine ⟨?_, HX.out.2⟩
      rw [HX.out.1, List.drop_eq_nil_of_le (by simp; omega), fin]
      rfl
end Go.Proofs.YtednoideboeehaaDoor
end
section
set_option linter.unusedSimpArgs false
set_option linter.unusedVariables false
namespace Go.Proofs.YtednoideboeehaaDoor
open Go.RowKit Bs Rg Go.Frame
attribute [local go_sem] eq_zero eq_set

/-- All bytes that can be written. -/
def allw : BS := uni (rng 32 126) (fun b => b == 9 || b == 10)
theorem allw_ok (b : UInt8) : allw b = okb b := by
  unfold allw okb uni rng prn
  simp only [Bool.or_assoc]
theorem wr_eqs (s : BS) : (!emp s && eqs (uni s allw) allw) = wr s := by
  rw [Bool.eq_iff_iff, wr_iff, Bool.and_eq_true, eqs_iff]
  constructor
  · rintro ⟨h1, h2⟩
    refine ⟨fun e => (by rw [emp_iff.2 e] at h1; cases h1), fun b hb => ?_⟩
    have := congrFun h2 b
    rw [← allw_ok, ← this]
    simp [uni, hb]
  · rintro ⟨h1, h2⟩
    refine ⟨?_, ?_⟩
    · cases h : emp s
      · rfl
      · exact absurd (emp_iff.1 h) h1
    · funext b
      unfold uni
      cases h : s b
      · rfl
      · rw [allw_ok, h2 b h]; rfl
theorem ofp_tn : sv (ofp ⟨#[9, 10]⟩ 2) = .agg #[.int .u64 (ws (fun b => b == 9 || b == 10) 0 : Int), .int .u64 (ws (fun b => b == 9 || b == 10) 1 : Int), .int .u64 (ws (fun b => b == 9 || b == 10) 2 : Int), .int .u64 (ws (fun b => b == 9 || b == 10) 3 : Int)] := by
  have h1 : ofp ⟨#[9, 10]⟩ 2 = add1 (ofp ⟨#[9, 10]⟩ 1) (10 : UInt8).toNat := ofp_next ⟨#[9, 10]⟩ (i := 1) (by decide)
  have h0 : ofp ⟨#[9, 10]⟩ 1 = add1 (fun _ => false) (9 : UInt8).toNat := ofp_next ⟨#[9, 10]⟩ (i := 0) (by decide)
  rw [h1, h0]
  refine sv_to fun x hx => ?_
  have a9 := add_one 9 x hx
  have a10 := add_one 10 x hx
  unfold add1 lf at *
  simp only [Bool.false_or] at a9 a10 ⊢
  rw [a9, a10]; rfl

set_option maxRecDepth 100000 in
set_option maxHeartbeats 4000000 in
theorem writable_any (s : BS) (w : World) : Calls Tryd.prog 58 #[.agg #[.int .u64 (ws s 0 : Int), .int .u64 (ws s 1 : Int), .int .u64 (ws s 2 : Int), .int .u64 (ws s 3 : Int)]] w fun e w' => e = .returned (.bool (wr s)) ∧ Below w.heap.size w w' := by
  have CR := hid (fun V => show Calls Tryd.prog 78 #[.int .u8 32, .int .u8 126] V _ from RangeB_any 32 126 V)
  have CO := hid (fun V => Of_any ⟨#[9, 10]⟩ V (by decide))
  rw [show (ByteArray.mk #[9, 10]).size = 2 from rfl, ofp_tn] at CO
  have CU := hid (fun V => UnionB_any (rng 32 126) (fun b => b == 9 || b == 10) V)
  rw [show uni (rng 32 126) (fun b => b == 9 || b == 10) = allw from rfl] at CU
  have CU2 := hid (fun V => UnionB_any s allw V)
  obtain ⟨u, hu⟩ : ∃ u, u = uni s allw := ⟨_, rfl⟩
  rw [← hu] at CU2
  have F := hid (wr_eqs s)
  rw [← hu] at F
  have x0 := hid (alloc_new w (.cells #[.int .u64 (ws s 0 : Int), .int .u64 (ws s 1 : Int), .int .u64 (ws s 2 : Int), .int .u64 (ws s 3 : Int)] 24))
  have B0 := hid (bel1 w (.cells #[.int .u64 (ws s 0 : Int), .int .u64 (ws s 1 : Int), .int .u64 (ws s 2 : Int), .int .u64 (ws s 3 : Int)] 24))
  clear hu
  go_enter Tryd.func58, Tryd.ntmps58
  go_wp2_with fail
  refine (CR.out _).mono ?_
  rintro e W1 ⟨rfl, b1⟩
  have y0 := hid ((b1.block _ (heap_lt x0.out)).trans x0.out)
  have B1 := hid (B0.out.trans (b1.mono B0.out.size))
  clear b1
  go_wp2_with fail
  refine (CO.out _).mono ?_
  rintro e W2 ⟨rfl, b2⟩
  have y1 := hid ((b2.block _ (heap_lt y0.out)).trans y0.out)
  have B2 := hid (B1.out.trans (b2.mono B1.out.size))
  clear b2
  go_wp2_with fail
  refine (CU.out _).mono ?_
  rintro e W3 ⟨rfl, b3⟩
  have y2 := (b3.block _ (heap_lt y1.out)).trans y1.out
  have B3 := B2.out.trans (b3.mono B2.out.size)
  obtain ⟨W4, hW4⟩ : ∃ W4, W4 = W3.alloc (.cells #[.int .u64 (ws allw 0 : Int), .int .u64 (ws allw 1 : Int), .int .u64 (ws allw 2 : Int), .int .u64 (ws allw 3 : Int)] 24) := ⟨_, rfl⟩
  have z0 : W4.heap[w.heap.size]? = some (.cells #[.int .u64 (ws s 0 : Int), .int .u64 (ws s 1 : Int), .int .u64 (ws s 2 : Int), .int .u64 (ws s 3 : Int)] 24 (0, 0)) := by rw [hW4]; exact blk_alloc y2
  have z1 : W4.heap[W3.heap.size]? = some (.cells #[.int .u64 (ws allw 0 : Int), .int .u64 (ws allw 1 : Int), .int .u64 (ws allw 2 : Int), .int .u64 (ws allw 3 : Int)] 24 (0, 0)) := by rw [hW4]; exact alloc_new _ _
  have B4 : Below w.heap.size w W4 := by rw [hW4]; exact B3.alloc B3.size _
  have Z := hid (And.intro z0 (And.intro z1 B4))
  have l0 := heap_lt z0
  have l1 := heap_lt z1
  clear b3 y2 B3 z0 z1 B4
  go_wp2_with fail
  rw [← hW4]
  clear hW4
  cases he : emp s
  all_goals
    rw [he] at F
    go_wp2_with fail
    refine wp_region_below (by kernel_rfl) (by kernel_rfl) ?_
    intro X f _ hf hs
    have k0 := fun x => (cells4 (((hf.out x).block _ l0).trans Z.out.1)).1
    have k1 := fun x => (cells4 (((hf.out x).block _ l0).trans Z.out.1)).2.1
    have k2 := fun x => (cells4 (((hf.out x).block _ l0).trans Z.out.1)).2.2.1
    have k3 := fun x => (cells4 (((hf.out x).block _ l0).trans Z.out.1)).2.2.2
    have m0 := fun x => (cells4 (((hf.out x).block _ l1).trans Z.out.2.1)).1
    have m1 := fun x => (cells4 (((hf.out x).block _ l1).trans Z.out.2.1)).2.1
    have m2 := fun x => (cells4 (((hf.out x).block _ l1).trans Z.out.2.1)).2.2.1
    have m3 := fun x => (cells4 (((hf.out x).block _ l1).trans Z.out.2.1)).2.2.2
    repeat (go_big_quiet_step (first | (go_at_call 77; with_reducible exact calls_below hf hs (CU2.out _))))
    refine wpQuiet_nil ?_
    intro Y hY
    have HY := hid (Z.out.2.2.trans (hY.mono Z.out.2.2.size))
    clear hY hf hs k0 k1 k2 k3 m0 m1 m2 m3
    go_wp2
    go_ret
    exact ⟨by rw [← F.out]; rfl, HY.out⟩
end Go.Proofs.YtednoideboeehaaDoor
end
section
set_option linter.unusedSimpArgs false
set_option linter.unusedVariables false
namespace Go.Proofs.YtednoideboeehaaDoor
open Go.RowKit Bs Rg Go.Frame
attribute [local go_sem] eq_zero eq_set

theorem prtm {k : Int} {s : BS} {l : List Rx} : prt (.mk k s l) = if k = 1 then false else if k = 3 then wr s || wr (cpl s) else prtL l := by rw [prt]
theorem drop_one {α : Type} {l : List α} {i : Nat} {x : α} (h : l[i]? = some x) : l.drop i = x :: l.drop (i + 1) := by
  obtain ⟨h1, h2⟩ := List.getElem?_eq_some_iff.1 h
  rw [List.drop_eq_getElem_cons h1, h2]

set_option maxRecDepth 100000 in
set_option maxHeartbeats 4000000 in
theorem printable_any (g : Nat → Prop) (r : Rx) : ∀ (w : World) (cs : List Value), RC g w r cs →
    Calls Tryd.prog 39 #[.agg cs.toArray] w fun e w' => e = .returned (.bool (prt r)) ∧ Below w.heap.size w w' := by
  induction r using Rx.ind with
  | h k s l ih =>
  intro w cs h
  obtain ⟨a, n, c, rfl, hK⟩ := RC_mk.1 h
  clear h
  show Calls Tryd.prog 39 #[.agg #[.int .i64 k, .int .u64 (ws s 0 : Int), .int .u64 (ws s 1 : Int), .int .u64 (ws s 2 : Int), .int .u64 (ws s 3 : Int), .slice a n c]] w _
  obtain ⟨q, hq⟩ : ∃ q, q = prt (.mk k s l) := ⟨_, rfl⟩
  rw [← hq]
  rw [prtm] at hq
  obtain ⟨W, hW⟩ : ∃ W, W = w.alloc (.cells #[.int .i64 k, .int .u64 (ws s 0 : Int), .int .u64 (ws s 1 : Int), .int .u64 (ws s 2 : Int), .int .u64 (ws s 3 : Int), .slice a n c] 27) := ⟨_, rfl⟩
  have bW : Below w.heap.size w W := by rw [hW]; exact bel1 _ _
  have x0 : W.heap[w.heap.size]? = some (.cells #[.int .i64 k, .int .u64 (ws s 0 : Int), .int .u64 (ws s 1 : Int), .int .u64 (ws s 2 : Int), .int .u64 (ws s 3 : Int), .slice a n c] 27 (0, 0)) := by rw [hW]; exact alloc_new _ _
  obtain ⟨c0, c1, c2, c3, c4, c5⟩ := cells6 x0
  by_cases h1 : k = 1
  · subst h1
    rw [if_pos rfl] at hq
    have F := hid hq
    have BW := hid bW
    clear hq hK ih bW x0
    go_enter Tryd.func39, Tryd.ntmps39
    go_wp2_with fail
    rw [← hW]
    clear hW
    go_wp2
    go_ret
    exact ⟨by rw [F.out]; rfl, BW.out⟩
  rw [if_neg h1] at hq
  by_cases h3 : k = 3
  · subst h3
    rw [if_pos rfl] at hq
    have CW := hid (fun V => writable_any s V)
    have CC := hid (fun V => ComplementB_any s V)
    have CW2 := hid (fun V => writable_any (cpl s) V)
    have BX := hid (And.intro bW x0)
    clear hK ih bW x0
    cases hw : wr s
    all_goals
      rw [hw] at CW hq
      have F := hid hq
      clear hq
      go_enter Tryd.func39, Tryd.ntmps39
      go_wp2_with fail
      rw [← hW]
      clear hW
      go_wp2_with fail
      refine (CW.out _).mono ?_
      rintro e W1 ⟨rfl, b1⟩
      obtain ⟨c0, c1, c2, c3, c4, c5⟩ := cells6 ((b1.block _ (heap_lt BX.out.2)).trans BX.out.2)
      have B1 := hid (BX.out.1.trans (b1.mono BX.out.1.size))
      clear b1
      go_wp2_with fail
    · refine (CC.out _).mono ?_
      rintro e W2 ⟨rfl, b2⟩
      have B2 := hid (B1.out.trans (b2.mono B1.out.size))
      clear b2
      go_wp2_with fail
      refine (CW2.out _).mono ?_
      rintro e W3 ⟨rfl, b3⟩
      have B3 := hid (B2.out.trans (b3.mono B2.out.size))
      clear b3
      go_wp2
      go_ret
      exact ⟨by rw [F.out]; rfl, B3.out⟩
    · go_ret
      exact ⟨by rw [F.out]; rfl, B1.out⟩
  rw [if_neg h3] at hq
  have e1 : (k == 1) = false := by simpa using h1
  have e3 : (k == 3) = false := by simpa using h3
  have F := hid hq
  have hln := hid hK.len
  have hnl := hK.lt
  have HK := hid (And.intro (hK.below bW) (And.intro bW x0))
  have IH := hid ih
  clear hK ih bW x0 hq
  go_enter Tryd.func39, Tryd.ntmps39
  go_wp2_with fail
  rw [← hW]
  clear hW
  go_wp2_with fail
  go_loopg [23] n (fun k s7 wr => ∃ (i : Nat), s7 = .int .i64 i ∧ i + k = n ∧ prtL l = prtL (l.drop i) ∧ Below W.heap.size W wr)
  case atStart => exact ⟨0, rfl, by omega, by simp, Below.refl _ _⟩
  case round =>
    obtain ⟨i, rfl, hk, hsh, hbw⟩ := hrel
    by_cases hlt : i < n
    · have hlt' : (i : Int) < (n : Int) := by omega
      obtain ⟨b, off, k', s', l', a', n', c', rfl, _, hb, hx, hK', q0, q1, q2, q3, q4, q5⟩ := (HK.out.1.below hbw).get (i := i) hlt
      rw [drop_one hx, prtL] at hsh
      have HX := hid (And.intro hx (And.intro hK' (And.intro hbw hsh)))
      have CR := hid (fun V (hV : Below wr.heap.size wr V) => IH.out _ (List.mem_of_getElem? HX.out.1) V _ (RC_mk.2 ⟨a', n', c', rfl, HX.out.2.1.below hV⟩))
      clear hx hK' hbw hsh
      obtain ⟨z, hz⟩ : ∃ z, z = prt (.mk k' s' l') := ⟨_, rfl⟩
      rw [← hz] at CR HX
      clear hz
      go_wp2_with fail
      refine (CR.out _ (bel1 _ _)).mono ?_
      rintro e W2 ⟨rfl, b2⟩
      have HB := hid (HX.out.2.2.1.trans (((bel1 wr _).trans (b2.mono (bel1 wr _).size)).mono HX.out.2.2.1.size))
      clear b2
      cases z
      · go_wp2
        go_ret
        exact ⟨by rw [F.out, HX.out.2.2.2]; rfl, HK.out.2.1.trans (HB.out.mono HK.out.2.1.size)⟩
      · go_wp2
        go_roundg (gk - 1)
        case measure => omega
        case rel => exact ⟨i + 1, by go_num, by omega, by rw [HX.out.2.2.2]; rfl, HB.out⟩
    · have hin : ¬ (i : Int) < (n : Int) := by omega
      have HX := hid (And.intro hsh hbw)
      clear hsh hbw
      go_wp2
      go_ret
      refine ⟨?_, HK.out.2.1.trans (HX.out.2.mono HK.out.2.1.size)⟩
      rw [F.out, HX.out.1, List.drop_eq_nil_of_le (by have := hln.out; omega), prtL]; rfl

set_option maxRecDepth 100000 in
set_option maxHeartbeats 4000000 in
theorem last_any (s : BS) (b : Nat) (w : World) (hs : ∀ c, s c = true → okb c = true) (hb : b ≤ 126) :
    Calls Tryd.prog 103 #[.agg #[.int .u64 (ws s 0 : Int), .int .u64 (ws s 1 : Int), .int .u64 (ws s 2 : Int), .int .u64 (ws s 3 : Int)], .int .u8 (b : Int)] w fun e w' => e = .returned (.int .u8 (lor s 256 b : Int)) ∧ Below w.heap.size w w' := by
  obtain ⟨q, hq⟩ : ∃ q, q = lor s 256 b := ⟨_, rfl⟩
  rw [← hq]
  have HQ := hid (And.intro hq hs)
  obtain ⟨W, hW⟩ : ∃ W, W = w.alloc (.cells #[.int .u64 (ws s 0 : Int), .int .u64 (ws s 1 : Int), .int .u64 (ws s 2 : Int), .int .u64 (ws s 3 : Int)] 24) := ⟨_, rfl⟩
  have HW := hid (show Below w.heap.size w W ∧ W.heap[w.heap.size]? = some (.cells #[.int .u64 (ws s 0 : Int), .int .u64 (ws s 1 : Int), .int .u64 (ws s 2 : Int), .int .u64 (ws s 3 : Int)] 24 (0, 0)) from by rw [hW]; exact ⟨bel1 _ _, alloc_new _ _⟩)
  clear hq hs
  go_enter Tryd.func103, Tryd.ntmps103
  go_wp2_with fail
  rw [← hW]
  clear hW
  go_loopg [1] (126 - b) (fun k s1 wr => ∃ (cur m : Nat), s1 = .int .u8 (cur : Int) ∧ cur + k = 126 ∧ b ≤ cur ∧ cur + m = b + 256 ∧ q = lor s m cur ∧ Below W.heap.size W wr)
  case atStart => exact ⟨b, 256, rfl, by omega, Nat.le_refl _, rfl, HQ.out.1, Below.refl _ _⟩
  case round =>
    obtain ⟨cur, m, rfl, hk, hbc, hm, hl, hbw⟩ := hrel
    have hw8 : IntKind.u8.wrap ((cur : Int) + 1) = ((cur + 1 : Nat) : Int) := by rw [IntKind.wrap_u8]; omega
    obtain ⟨m, rfl⟩ : ∃ m', m = m' + 1 := ⟨m - 1, by omega⟩
    rw [lor] at hl
    have CH := hid (show Calls Tryd.prog 67 #[.agg #[.int .u64 (ws s 0 : Int), .int .u64 (ws s 1 : Int), .int .u64 (ws s 2 : Int), .int .u64 (ws s 3 : Int)], .int .u8 ((cur + 1 : Nat) : Int)] wr _ from Has_any (lf s) (cur + 1) wr (by omega))
    obtain ⟨d0, d1, d2, d3⟩ := cells4 ((hbw.block _ (heap_lt HW.out.2)).trans HW.out.2)
    have HX := hid (And.intro hl hbw)
    clear hl hbw
    go_wp2_with fail
    refine CH.out.mono ?_
    rintro e W2 ⟨rfl, b2⟩
    have HB := hid (HX.out.2.trans (b2.mono HX.out.2.size))
    clear b2
    cases hn : lf s (cur + 1)
    · have hn' := hid (show ¬ nt s (cur + 1) = true by rw [show nt s (cur + 1) = lf s (cur + 1) from rfl, hn]; simp)
      go_wp2
      go_ret
      refine ⟨?_, HW.out.1.trans (HB.out.mono HW.out.1.size)⟩
      rw [HX.out.1, if_neg hn'.out]; rfl
    · have hn' := hid (show nt s (cur + 1) = true from hn)
      have h126 := (nt_ok HQ.out.2 (by omega) hn'.out).2
      go_wp2
      go_roundg (gk - 1)
      case measure => omega
      case rel => exact ⟨cur + 1, m, by first | rfl | simp, by omega, by omega, by omega, by rw [HX.out.1, if_pos hn'.out], HB.out⟩

/-- A text so far, in a builder of the call's own; what writing leaves alone. -/
def Wt (B b : Nat) (w w' : World) (t : List UInt8) : Prop := Lib.IsBuilderF 62 5 B b (Lib.byteCells t) w' ∧ Below B w w' ∧ Lib.OthersKept 5 (some b) w w'
theorem Wt.trans {B b : Nat} {w w' w'' : World} {t t' : List UInt8} (h : Wt B b w w' t) (k : Wt B b w' w'' t') : Wt B b w w'' t' := ⟨k.1, h.2.1.trans k.2.1, h.2.2.trans k.2.2⟩
theorem writeByte (B b : Nat) (t : List UInt8) (c : UInt8) (w : World) (h : Lib.IsBuilderF 62 5 B b (Lib.byteCells t) w) (hl : t.length ≤ 1000000000) (hB : B ≤ w.heap.size) :
    Calls Tryd.prog 63 #[.pointer (some ⟨b, 0, none⟩), .int .u8 (c.toNat : Int)] w fun e w' => e = .returned .nilIface ∧ Wt B b w w' (t ++ [c]) := by
  refine (Tryd.Builder_WriteByte_k B b _ (c.toNat : Int) w h (by rw [Lib.byteCells_length]; omega) hB).mono ?_
  rintro e w' ⟨rfl, h1, h2, h3⟩
  refine ⟨rfl, ?_, h2, h3⟩
  rw [Lib.byteCells_append]; exact .inr h1
theorem writeStr (B b : Nat) (t : List UInt8) (s : ByteArray) (w : World) (h : Lib.IsBuilderF 62 5 B b (Lib.byteCells t) w) (hl : t.length ≤ 1000000000) (hs : s.size ≤ 1000000000) (hB : B ≤ w.heap.size) :
    Calls Tryd.prog 60 #[.pointer (some ⟨b, 0, none⟩), .string s] w fun e w' => e = .returned (.tuple #[.int .i64 s.size, .nilIface]) ∧ Wt B b w w' (t ++ s.data.toList) := by
  refine (Tryd.Builder_WriteString_k B b _ s w h (by rw [Lib.byteCells_length]; omega) hB).mono ?_
  rintro e w' ⟨rfl, h1, h2, h3⟩
  refine ⟨rfl, ?_, h2, h3⟩
  rw [Lib.byteCells_append]; exact .inr h1

set_option maxRecDepth 100000 in
set_option maxHeartbeats 4000000 in
theorem writeChar_any (B b : Nat) (t : List UInt8) (c : UInt8) (sp : ByteArray) (w : World) (h : Lib.IsBuilderF 62 5 B b (Lib.byteCells t) w) (hl : t.length ≤ 100000000) (hB : B ≤ w.heap.size) :
    Calls Tryd.prog 84 #[.pointer (some ⟨b, 0, none⟩), .int .u8 (c.toNat : Int), .string sp] w fun e w' => e = .returned (.tuple #[]) ∧ Wt B b w w' (t ++ wch sp.data.toList c) := by
  unfold wch
  by_cases h10 : c = 10
  · subst h10
    rw [if_pos rfl]
    show Calls Tryd.prog 84 #[.pointer (some ⟨b, 0, none⟩), .int .u8 10, .string sp] w _
    have C := hid (writeStr B b t ⟨#[92, 110]⟩ w h (by omega) (by decide) hB)
    clear h
    go_enter Tryd.func84, Tryd.ntmps84
    go_wp2_with fail
    refine C.out.mono ?_
    rintro e w1 ⟨rfl, h1⟩
    have H := hid h1
    clear h1
    go_wp2
    go_end0
    exact ⟨rfl, H.out⟩
  rw [if_neg h10]
  have e10 : ((c.toNat : Int) == 10) = false := by
    rw [beq_eq_false_iff_ne]; intro e; exact h10 (UInt8.toNat_inj.1 (by simp; omega))
  by_cases h9 : c = 9
  · subst h9
    rw [if_pos rfl]
    show Calls Tryd.prog 84 #[.pointer (some ⟨b, 0, none⟩), .int .u8 9, .string sp] w _
    have C := hid (writeStr B b t ⟨#[92, 116]⟩ w h (by omega) (by decide) hB)
    clear h
    go_enter Tryd.func84, Tryd.ntmps84
    go_wp2_with fail
    refine C.out.mono ?_
    rintro e w1 ⟨rfl, h1⟩
    have H := hid h1
    clear h1
    go_wp2
    go_end0
    exact ⟨rfl, H.out⟩
  rw [if_neg h9]
  have e9 : ((c.toNat : Int) == 9) = false := by
    rw [beq_eq_false_iff_ne]; intro e; exact h9 (UInt8.toNat_inj.1 (by simp; omega))
  have hI : decide (0 ≤ Lib.indexByte sp.data.toList c) = sp.data.toList.contains c := ib_contains _ _
  have CI := hid (fun V => Tryd.strings_IndexByte sp (c.toNat : Int) V)
  rw [show ((c.toNat : Int).toNat).toUInt8 = c by simp] at CI
  obtain ⟨j, hj⟩ : ∃ j, j = Lib.indexByte sp.data.toList c := ⟨_, rfl⟩
  rw [← hj] at CI hI
  clear hj
  have C1 := hid (writeByte B b t c w h (by omega) hB)
  have C2 := hid (show Calls Tryd.prog 63 #[.pointer (some ⟨b, 0, none⟩), .int .u8 92] w _ from writeByte B b t 92 w h (by omega) hB)
  have HB := hid (And.intro hB hl)
  clear h hB hl
  cases hc : sp.data.toList.contains c
  · rw [hc] at hI
    have hj : ¬ (0 : Int) ≤ j := of_decide_eq_false hI
    clear hI
    rw [if_neg (by simp)]
    go_enter Tryd.func84, Tryd.ntmps84
    go_wp2_with fail
    refine (CI.out _).mono ?_
    rintro e w1 ⟨rfl, rfl⟩
    go_wp2_with fail
    refine C1.out.mono ?_
    rintro e w1 ⟨rfl, h1⟩
    have H := hid h1
    clear h1
    go_wp2
    go_end0
    exact ⟨rfl, H.out⟩
  · rw [hc] at hI
    have hj : (0 : Int) ≤ j := of_decide_eq_true hI
    clear hI
    rw [if_pos rfl]
    go_enter Tryd.func84, Tryd.ntmps84
    go_wp2_with fail
    refine (CI.out _).mono ?_
    rintro e w1 ⟨rfl, rfl⟩
    go_wp2_with fail
    refine C2.out.mono ?_
    rintro e w1 ⟨rfl, h1⟩
    have C3 := hid (writeByte B b (t ++ [92]) c w1 h1.1 (by simp; have := HB.out.2; omega) (Nat.le_trans HB.out.1 h1.2.1.size))
    have H := hid h1
    clear h1
    go_wp2_with fail
    refine C3.out.mono ?_
    rintro e w2 ⟨rfl, h2⟩
    have H2 := hid (H.out.trans h2)
    clear h2
    go_wp2
    go_end0
    exact ⟨rfl, by simpa using H2.out⟩
end Go.Proofs.YtednoideboeehaaDoor
end
section
set_option linter.unusedSimpArgs false
set_option linter.unusedVariables false
namespace Go.Proofs.YtednoideboeehaaDoor
open Go.RowKit Bs Rg Go.Frame
attribute [local go_sem] eq_zero eq_set

theorem ownsF_below {w w' : World} {B e n : Nat} {v : Value} {xs : List Value} (h : w.ownsRowF B e 1 v n xs) (hb : Below w.heap.size w w') : w'.ownsRowF B e 1 v n xs := by
  refine ⟨h.1, ?_⟩
  rcases h.2 with hn | ⟨g, cap, cur, fz, rfl, hB, hg, rest⟩
  · exact .inl hn
  · exact .inr ⟨g, cap, cur, fz, rfl, hB, (hb.block g (heap_lt hg)).trans hg, rest⟩
theorem bld_below {B b : Nat} {t : List Value} {w w' : World} (h : Lib.IsBuilderF 62 5 B b t w) (hb : Below w.heap.size w w') : Lib.IsBuilderF 62 5 B b t w' := by
  have key : ∀ p, Lib.BuilderAtF 62 5 B b p t w → Lib.BuilderAtF 62 5 B b p t w' := by
    rintro p ⟨h1, v, h2, h3, h4⟩
    exact ⟨h1, v, (hb.block b (heap_lt h2)).trans h2, ownsF_below h3 hb, h4⟩
  exact h.imp (key _) (key _)
theorem bld_lt {B b : Nat} {t : List Value} {w : World} (h : Lib.IsBuilderF 62 5 B b t w) : B ≤ b ∧ b < w.heap.size := by
  rcases h with ⟨h1, v, h2, _⟩ | ⟨h1, v, h2, _⟩ <;> exact ⟨h1, heap_lt h2⟩
theorem Wt.below {B b : Nat} {w w' w'' : World} {t : List UInt8} (h : Wt B b w w' t) (hB : B ≤ w'.heap.size) (hb : Below w'.heap.size w' w'') : Wt B b w w'' t :=
  ⟨bld_below h.1 hb, h.2.1.trans (hb.mono hB), fun i o hi hb' ho => (hb.block i (heap_lt (h.2.2 i o hi hb' ho))).trans (h.2.2 i o hi hb' ho)⟩
theorem Wt.start {B b : Nat} {w : World} {t : List UInt8} (h : Lib.IsBuilderF 62 5 B b (Lib.byteCells t) w) : Wt B b w w t := ⟨h, Below.refl _ _, Lib.OthersKept.refl _ _ _⟩
theorem Wt.box {B b : Nat} {w w' : World} {t : List UInt8} (h : Wt B b w w' t) {x : Nat} {c : Array Value} {ty : TypeId} (hx : w.heap[x]? = some (.cells c ty (0, 0))) (h1 : x ≠ b) (h2 : ty ≠ 5) : w'.heap[x]? = some (.cells c ty (0, 0)) :=
  h.2.2 x _ hx (by simpa using h1) (fun c' fz e => h2 (by simp at e; exact e.2.1))
theorem wch_len (sp : List UInt8) (b : UInt8) : (wch sp b).length ≤ 2 := by
  unfold wch
  split; · simp
  split; · simp
  split <;> simp
theorem elms_succ (s : BS) (n b : Nat) : elms s (n + 1) b = if 126 < b then [] else if nt s b = false then elms s n (b + 1) else if b + 2 ≤ lor s 256 b then wch spJ (UInt8.ofNat b) ++ 45 :: (wch spJ (UInt8.ofNat (lor s 256 b)) ++ elms s n (lor s 256 b + 1)) else wch spJ (UInt8.ofNat b) ++ elms s n (b + 1) := by rw [elms]
theorem elms_len (s : BS) : ∀ (m b : Nat), (elms s m b).length ≤ 5 * m
  | 0, b => by rw [elms]; simp
  | m + 1, b => by
    rw [elms]
    split; · simp
    split; · have := elms_len s m (b + 1); omega
    split
    · have := elms_len s m (lor s 256 b + 1)
      have := wch_len spJ (UInt8.ofNat b)
      have := wch_len spJ (UInt8.ofNat (lor s 256 b))
      simp; omega
    · have := elms_len s m (b + 1)
      have := wch_len spJ (UInt8.ofNat b)
      simp; omega

set_option maxRecDepth 100000 in
set_option maxHeartbeats 4000000 in
theorem fbrackets_any (B b : Nat) (t : List UInt8) (st : ByteArray) (s : BS) (w : World) (hs : ∀ c, s c = true → okb c = true) (h : Lib.IsBuilderF 62 5 B b (Lib.byteCells t) w) (hl : t.length ≤ 10000000) (hst : st.size ≤ 100) (hB : B ≤ w.heap.size) :
    Calls Tryd.prog 85 #[.pointer (some ⟨b, 0, none⟩), .string st, .agg #[.int .u64 (ws s 0 : Int), .int .u64 (ws s 1 : Int), .int .u64 (ws s 2 : Int), .int .u64 (ws s 3 : Int)]] w fun e w' => e = .returned (.tuple #[]) ∧ Wt B b w w' (t ++ st.data.toList ++ elms s 200 0 ++ [93]) := by
  obtain ⟨W, hW⟩ : ∃ W, W = w.alloc (.cells #[.int .u64 (ws s 0 : Int), .int .u64 (ws s 1 : Int), .int .u64 (ws s 2 : Int), .int .u64 (ws s 3 : Int)] 24) := ⟨_, rfl⟩
  have bW : Below w.heap.size w W := by rw [hW]; exact bel1 _ _
  have x0 : W.heap[w.heap.size]? = some (.cells #[.int .u64 (ws s 0 : Int), .int .u64 (ws s 1 : Int), .int .u64 (ws s 2 : Int), .int .u64 (ws s 3 : Int)] 24 (0, 0)) := by rw [hW]; exact alloc_new _ _
  have hbb := bld_lt h
  have hWt : Wt B b w W t := (Wt.start h).below hB bW
  have CS := hid (writeStr B b t st W hWt.1 (by omega) (by omega) (Nat.le_trans hB bW.size))
  have HS := hid hs
  have HL := hid (And.intro hl (And.intro hst (And.intro hB hbb)))
  have HW := hid (And.intro hWt (And.intro x0 bW))
  have Q := hid (show st.data.toList.length ≤ 100 by simpa using hst)
  clear h hl hst hB hs bW x0 hWt hbb
  go_enter Tryd.func85, Tryd.ntmps85
  go_wp2_with fail
  rw [← hW]
  clear hW
  go_wp2_with fail
  refine CS.out.mono ?_
  rintro e w1 ⟨rfl, h1⟩
  have H1 := hid (And.intro (HW.out.1.trans h1) (h1.box HW.out.2.1 (by have := HL.out.2.2.2; omega) (by decide)))
  clear h1
  go_wp2_with fail
  go_loopg [6] 127 (fun k s6 wr => ∃ (cur m : Nat) (d : List UInt8), s6 = .int .u8 (cur : Int) ∧ cur + k = 127 ∧ 127 ≤ cur + m ∧ elms s 200 0 = d ++ elms s m cur ∧ Wt B b w wr (t ++ st.data.toList ++ d) ∧ wr.heap[w.heap.size]? = some (.cells #[.int .u64 (ws s 0 : Int), .int .u64 (ws s 1 : Int), .int .u64 (ws s 2 : Int), .int .u64 (ws s 3 : Int)] 24 (0, 0)))
  case atStart => exact ⟨0, 200, [], rfl, rfl, by omega, rfl, by simpa using H1.out.1, H1.out.2⟩
  case round =>
    obtain ⟨cur, m, d, rfl, hk, hm, hel, hwt, hx⟩ := hrel
    have hdl : d.length ≤ 1000 := by have := elms_len s 200 0; rw [hel] at this; simp at this; omega
    by_cases hc : cur ≤ 126
    · have hc' : (cur : Int) ≤ 126 := by omega
      obtain ⟨m, rfl⟩ : ∃ m', m = m' + 1 := ⟨m - 1, by omega⟩
      rw [elms_succ s m cur, if_neg (by omega)] at hel
      have hw8 : IntKind.u8.wrap ((cur : Int) + 1) = ((cur + 1 : Nat) : Int) := by rw [IntKind.wrap_u8]; omega
      obtain ⟨d0, d1, d2, d3⟩ := cells4 hx
      have CH := hid (show Calls Tryd.prog 67 #[.agg #[.int .u64 (ws s 0 : Int), .int .u64 (ws s 1 : Int), .int .u64 (ws s 2 : Int), .int .u64 (ws s 3 : Int)], .int .u8 (cur : Int)] wr _ from Has_any (lf s) cur wr (by omega))
      have HX := hid (And.intro hwt (And.intro hx (And.intro hel hdl)))
      clear hwt hx hel hdl
      go_wp2_with fail
      refine CH.out.mono ?_
      rintro e w2 ⟨rfl, b2⟩
      have hwt2 := HX.out.1.below (Nat.le_trans HL.out.2.2.1 HX.out.1.2.1.size) b2
      have hx2 := (b2.block _ (heap_lt HX.out.2.1)).trans HX.out.2.1
      have hB2 := Nat.le_trans HL.out.2.2.1 hwt2.2.1.size
      cases hn : lf s cur
      · have H2 := hid (And.intro hwt2 (And.intro hx2 (show elms s 200 0 = d ++ elms s m (cur + 1) by rw [HX.out.2.2.1, if_pos (show nt s cur = false from hn)])))
        clear hwt2 hx2 b2 hn hB2
        go_wp2
        go_roundg (127 - (cur + 1))
        case measure => omega
        case rel => exact ⟨cur + 1, m, d, by first | rfl | simp, by omega, by omega, H2.out.2.2, H2.out.1, H2.out.2.1⟩
      · have hnt : nt s cur = true := hn
        obtain ⟨l1, l2, l3⟩ := lor_spec s 256 cur
        have l4 := lor_lt HS.out (n := 256) (show cur ≤ 126 by omega)
        have hel := HX.out.2.2.1
        rw [if_neg (by rw [hnt]; simp)] at hel
        have CC := hid (show Calls Tryd.prog 84 #[.pointer (some ⟨b, 0, none⟩), .int .u8 (cur : Int), .string ⟨#[93, 92, 45, 94]⟩] w2 _ from by
          have := writeChar_any B b _ (UInt8.ofNat cur) ⟨#[93, 92, 45, 94]⟩ w2 hwt2.1 (by have := HL.out.1; have := HX.out.2.2.2; have := Q.out; simp only [List.length_append]; omega) hB2
          rw [toNat_of (show cur < 256 by omega), show (⟨#[93, 92, 45, 94]⟩ : ByteArray).data.toList = spJ from rfl] at this
          exact this)
        obtain ⟨L, hL⟩ : ∃ L, L = lor s 256 cur := ⟨_, rfl⟩
        rw [← hL] at l1 l4 hel
        have H2 := hid (And.intro hwt2 (And.intro hx2 (And.intro hel (And.intro hL hB2))))
        clear hwt2 hx2 b2 hn hB2 hnt l2 l3 hel hL
        go_wp2_with fail
        refine CC.out.mono ?_
        rintro e w3 ⟨rfl, h3⟩
        have hx3 := h3.box H2.out.2.1 (by have := HL.out.2.2.2; omega) (by decide)
        obtain ⟨d0, d1, d2, d3⟩ := cells4 hx3
        have hwt3 := H2.out.1.trans h3
        have CL := hid (last_any s cur w3 HS.out (by omega))
        rw [← H2.out.2.2.2.1] at CL
        have H3 := hid (And.intro hwt3 hx3)
        clear h3 hwt3 hx3
        go_wp2_with fail
        refine CL.out.mono ?_
        rintro e w4 ⟨rfl, b4⟩
        have hB3 := Nat.le_trans HL.out.2.2.1 H3.out.1.2.1.size
        have hwt4 := H3.out.1.below hB3 b4
        have hx4 := (b4.block _ (heap_lt H3.out.2)).trans H3.out.2
        have hB4 := Nat.le_trans HL.out.2.2.1 hwt4.2.1.size
        have hw9 : IntKind.u8.wrap ((L : Int) - (cur : Int)) = ((L - cur : Nat) : Int) := by rw [IntKind.wrap_u8]; omega
        have hl4 : (t ++ st.data.toList ++ d ++ wch spJ (UInt8.ofNat cur)).length ≤ 20000000 := by
          have := HL.out.1; have := HX.out.2.2.2; have := Q.out; have := wch_len spJ (UInt8.ofNat cur); simp only [List.length_append]; omega
        by_cases h2 : cur + 2 ≤ L
        · have h2' : (2 : Int) ≤ ((L - cur : Nat) : Int) := by omega
          have hel := H2.out.2.2.1
          rw [if_pos h2] at hel
          have CB := hid (show Calls Tryd.prog 63 #[.pointer (some ⟨b, 0, none⟩), .int .u8 45] w4 _ from writeByte B b _ 45 w4 hwt4.1 (by omega) hB4)
          have H4 := hid (And.intro hwt4 (And.intro hx4 (And.intro hel hB4)))
          clear hwt4 hx4 hel hB4 b4
          go_wp2_with fail
          refine CB.out.mono ?_
          rintro e w5 ⟨rfl, h5⟩
          have hx5 := h5.box H4.out.2.1 (by have := HL.out.2.2.2; omega) (by decide)
          have CC2 := hid (show Calls Tryd.prog 84 #[.pointer (some ⟨b, 0, none⟩), .int .u8 (L : Int), .string ⟨#[93, 92, 45, 94]⟩] w5 _ from by
            have := writeChar_any B b _ (UInt8.ofNat L) ⟨#[93, 92, 45, 94]⟩ w5 h5.1 (by simp only [List.length_append, List.length_cons, List.length_nil] at hl4 ⊢; omega) (Nat.le_trans H4.out.2.2.2 h5.2.1.size)
            rw [toNat_of (show L < 256 by omega), show (⟨#[93, 92, 45, 94]⟩ : ByteArray).data.toList = spJ from rfl] at this
            exact this)
          have H5 := hid (And.intro (H4.out.1.trans h5) hx5)
          clear h5 hx5
          go_wp2_with fail
          refine CC2.out.mono ?_
          rintro e w6 ⟨rfl, h6⟩
          have hx6 := h6.box H5.out.2 (by have := HL.out.2.2.2; omega) (by decide)
          have H6 := hid (And.intro (H5.out.1.trans h6) hx6)
          have hwL : IntKind.u8.wrap ((L : Int) + 1) = ((L + 1 : Nat) : Int) := by rw [IntKind.wrap_u8]; omega
          clear h6 hx6
          go_wp2
          go_roundg (127 - (L + 1))
          case measure => omega
          case rel => exact ⟨L + 1, m, d ++ wch spJ (UInt8.ofNat cur) ++ [45] ++ wch spJ (UInt8.ofNat L), by first | rfl | simp, by omega, by omega, by rw [H4.out.2.2.1]; simp, by simpa using H6.out.1, H6.out.2⟩
        · have h2' : ¬ (2 : Int) ≤ ((L - cur : Nat) : Int) := by omega
          have hel := H2.out.2.2.1
          rw [if_neg h2] at hel
          have H4 := hid (And.intro hwt4 (And.intro hx4 hel))
          clear hwt4 hx4 hel hB4 b4
          go_wp2
          go_roundg (127 - (cur + 1))
          case measure => omega
          case rel => exact ⟨cur + 1, m, d ++ wch spJ (UInt8.ofNat cur), by first | rfl | simp, by omega, by omega, by rw [H4.out.2.2]; simp, by simpa using H4.out.1, H4.out.2.1⟩
    · have hc' : ¬ (cur : Int) ≤ 126 := by omega
      have he : elms s m cur = [] := by
        cases m with
        | zero => rw [elms]
        | succ m => rw [elms_succ s m cur, if_pos (by omega)]
      rw [he, List.append_nil] at hel
      have CB := hid (show Calls Tryd.prog 63 #[.pointer (some ⟨b, 0, none⟩), .int .u8 93] wr _ from writeByte B b _ 93 wr hwt.1 (by have := HL.out.1; have := Q.out; simp only [List.length_append]; omega) (Nat.le_trans HL.out.2.2.1 hwt.2.1.size))
      have HX := hid (And.intro hwt hel)
      clear hwt hel hx hdl he
      go_wp2_with fail
      refine CB.out.mono ?_
      rintro e w2 ⟨rfl, h2⟩
      have H2 := hid (HX.out.1.trans h2)
      clear h2
      go_wp2
      go_end0
      exact ⟨rfl, by rw [HX.out.2]; exact H2.out⟩
end Go.Proofs.YtednoideboeehaaDoor
end
section
set_option linter.unusedSimpArgs false
set_option linter.unusedVariables false
namespace Go.Proofs.YtednoideboeehaaDoor
open Go.RowKit Bs Go.Frame

theorem ix0 (a b c d : Int) (w : World) : (Instr.index 24 (.agg #[.int .u64 a, .int .u64 b, .int .u64 c, .int .u64 d]) (.int .i64 0)).run Tryd.prog w = .ok (.int .u64 a) w := by kernel_rfl
theorem ix1 (a b c d : Int) (w : World) : (Instr.index 24 (.agg #[.int .u64 a, .int .u64 b, .int .u64 c, .int .u64 d]) (.int .i64 1)).run Tryd.prog w = .ok (.int .u64 b) w := by kernel_rfl
theorem ix2 (a b c d : Int) (w : World) : (Instr.index 24 (.agg #[.int .u64 a, .int .u64 b, .int .u64 c, .int .u64 d]) (.int .i64 2)).run Tryd.prog w = .ok (.int .u64 c) w := by kernel_rfl
theorem ix3 (a b c d : Int) (w : World) : (Instr.index 24 (.agg #[.int .u64 a, .int .u64 b, .int .u64 c, .int .u64 d]) (.int .i64 3)).run Tryd.prog w = .ok (.int .u64 d) w := by kernel_rfl
theorem len_step (p : Nat → Bool) (i : Nat) : ((cnt p (64 * i) : Nat) : Int) + (pc 64 (wd p i) : Int) = (cnt p (64 * (i + 1)) : Int) := by
  have h : pc 64 (wd p i) = cnt (fun j => p (64 * i + j)) 64 := pc_nb 64 _
  rw [h, show 64 * (i + 1) = 64 * i + 64 by omega, cnt_add]
  omega
set_option maxRecDepth 100000 in
set_option maxHeartbeats 4000000 in
theorem Len_any (p : Nat → Bool) (w : World) :
    Calls Tryd.prog 82 #[sv p] w fun e w' => e = .returned (.int .i64 (cnt p 256 : Int)) ∧ Below w.heap.size w w' := by
  have bW : Below w.heap.size w (w.alloc (.cells #[.int .u64 (wd (p) 0 : Int), .int .u64 (wd (p) 1 : Int), .int .u64 (wd (p) 2 : Int), .int .u64 (wd (p) 3 : Int)] 24)) := (Below.refl _ _).alloc (Nat.le_refl _) _
  have HW := hid bW
  clear bW
  unfold sv
  go_enter Tryd.func82, Tryd.ntmps82
  go_wp2_with fail
  go_loopg [3, 7] 4 (fun k s3 s7 wr => ∃ i : Nat, s3 = .int .i64 (cnt p (64 * i) : Int) ∧ s7 = .int .i64 i ∧ i + k = 4 ∧ Below w.heap.size w wr)
  case atStart => exact ⟨0, rfl, rfl, rfl, HW.out⟩
  case round =>
    obtain ⟨i, rfl, rfl, hk, hbw⟩ := hrel
    have hi5 : i = 0 ∨ i = 1 ∨ i = 2 ∨ i = 3 ∨ i = 4 := by omega
    rcases hi5 with rfl | rfl | rfl | rfl | rfl
    · have CO := hid (show Calls Tryd.prog 99 #[.int .u64 (wd p 0 : Int)] wr fun e w'' => e = .returned (.int .i64 (pc 64 (wd p 0) : Int)) ∧ w'' = wr from ones_any _ wr (wd_lt p 0))
      have ix := ix0 (wd p 0) (wd p 1) (wd p 2) (wd p 3) wr
      have e0 : ((cnt p (64 * 0) : Nat) : Int) + (pc 64 (wd p 0) : Int) = (cnt p (64 * (0 + 1)) : Int) := len_step p 0
      have hl := cnt_le p (64 * (0 + 1))
      have e1 : IntKind.i64.wrap (cnt p (64 * (0 + 1)) : Int) = (cnt p (64 * (0 + 1)) : Int) := wrapIn (by omega) (by omega)
      obtain ⟨x, hx⟩ : ∃ x, x = cnt p (64 * 0) := ⟨_, rfl⟩
      obtain ⟨y, hy⟩ : ∃ y, y = cnt p (64 * (0 + 1)) := ⟨_, rfl⟩
      rw [← hy] at e0 e1
      rw [← hx] at e0 ⊢
      have HB := hid hbw
      have HY := hid hy
      clear hbw hx hy hl
      go_wp2_with fail
      refine CO.out.mono ?_
      rintro e w' ⟨rfl, rfl⟩
      go_wp2
      go_roundg (gk - 1)
      case measure => omega
      case rel => exact ⟨1, by rw [HY.out], by go_num, by omega, HB.out⟩
    · have CO := hid (show Calls Tryd.prog 99 #[.int .u64 (wd p 1 : Int)] wr fun e w'' => e = .returned (.int .i64 (pc 64 (wd p 1) : Int)) ∧ w'' = wr from ones_any _ wr (wd_lt p 1))
      have ix := ix1 (wd p 0) (wd p 1) (wd p 2) (wd p 3) wr
      have e0 : ((cnt p (64 * 1) : Nat) : Int) + (pc 64 (wd p 1) : Int) = (cnt p (64 * (1 + 1)) : Int) := len_step p 1
      have hl := cnt_le p (64 * (1 + 1))
      have e1 : IntKind.i64.wrap (cnt p (64 * (1 + 1)) : Int) = (cnt p (64 * (1 + 1)) : Int) := wrapIn (by omega) (by omega)
      obtain ⟨x, hx⟩ : ∃ x, x = cnt p (64 * 1) := ⟨_, rfl⟩
      obtain ⟨y, hy⟩ : ∃ y, y = cnt p (64 * (1 + 1)) := ⟨_, rfl⟩
      rw [← hy] at e0 e1
      rw [← hx] at e0 ⊢
      have HB := hid hbw
      have HY := hid hy
      clear hbw hx hy hl
      go_wp2_with fail
      refine CO.out.mono ?_
      rintro e w' ⟨rfl, rfl⟩
      go_wp2
      go_roundg (gk - 1)
      case measure => omega
      case rel => exact ⟨2, by rw [HY.out], by go_num, by omega, HB.out⟩
    · have CO := hid (show Calls Tryd.prog 99 #[.int .u64 (wd p 2 : Int)] wr fun e w'' => e = .returned (.int .i64 (pc 64 (wd p 2) : Int)) ∧ w'' = wr from ones_any _ wr (wd_lt p 2))
      have ix := ix2 (wd p 0) (wd p 1) (wd p 2) (wd p 3) wr
      have e0 : ((cnt p (64 * 2) : Nat) : Int) + (pc 64 (wd p 2) : Int) = (cnt p (64 * (2 + 1)) : Int) := len_step p 2
      have hl := cnt_le p (64 * (2 + 1))
      have e1 : IntKind.i64.wrap (cnt p (64 * (2 + 1)) : Int) = (cnt p (64 * (2 + 1)) : Int) := wrapIn (by omega) (by omega)
      obtain ⟨x, hx⟩ : ∃ x, x = cnt p (64 * 2) := ⟨_, rfl⟩
      obtain ⟨y, hy⟩ : ∃ y, y = cnt p (64 * (2 + 1)) := ⟨_, rfl⟩
      rw [← hy] at e0 e1
      rw [← hx] at e0 ⊢
      have HB := hid hbw
      have HY := hid hy
      clear hbw hx hy hl
      go_wp2_with fail
      refine CO.out.mono ?_
      rintro e w' ⟨rfl, rfl⟩
      go_wp2
      go_roundg (gk - 1)
      case measure => omega
      case rel => exact ⟨3, by rw [HY.out], by go_num, by omega, HB.out⟩
    · have CO := hid (show Calls Tryd.prog 99 #[.int .u64 (wd p 3 : Int)] wr fun e w'' => e = .returned (.int .i64 (pc 64 (wd p 3) : Int)) ∧ w'' = wr from ones_any _ wr (wd_lt p 3))
      have ix := ix3 (wd p 0) (wd p 1) (wd p 2) (wd p 3) wr
      have e0 : ((cnt p (64 * 3) : Nat) : Int) + (pc 64 (wd p 3) : Int) = (cnt p (64 * (3 + 1)) : Int) := len_step p 3
      have hl := cnt_le p (64 * (3 + 1))
      have e1 : IntKind.i64.wrap (cnt p (64 * (3 + 1)) : Int) = (cnt p (64 * (3 + 1)) : Int) := wrapIn (by omega) (by omega)
      obtain ⟨x, hx⟩ : ∃ x, x = cnt p (64 * 3) := ⟨_, rfl⟩
      obtain ⟨y, hy⟩ : ∃ y, y = cnt p (64 * (3 + 1)) := ⟨_, rfl⟩
      rw [← hy] at e0 e1
      rw [← hx] at e0 ⊢
      have HB := hid hbw
      have HY := hid hy
      clear hbw hx hy hl
      go_wp2_with fail
      refine CO.out.mono ?_
      rintro e w' ⟨rfl, rfl⟩
      go_wp2
      go_roundg (gk - 1)
      case measure => omega
      case rel => exact ⟨4, by rw [HY.out], by go_num, by omega, HB.out⟩
    · have HB := hid hbw
      clear hbw
      go_wp2
      go_ret
      exact ⟨rfl, HB.out⟩

end Go.Proofs.YtednoideboeehaaDoor
end
section
set_option linter.unusedSimpArgs false
set_option linter.unusedVariables false
namespace Go.Proofs.YtednoideboeehaaDoor
open Go.RowKit Bs Go.Frame

attribute [local go_sem] Oper.semAt_some
attribute [local irreducible] nb cnt pc els

set_option maxHeartbeats 400000 in
theorem All_any (p : Nat → Bool) (w : World) :
    Calls Tryd.prog 83 #[sv p] w fun e w' => e = .returned (.func (.func 100) #[] #[.pointer (some ⟨w.heap.size, 0, none⟩)]) ∧ w' = w.alloc (.cells #[.int .u64 (wd (p) 0 : Int), .int .u64 (wd (p) 1 : Int), .int .u64 (wd (p) 2 : Int), .int .u64 (wd (p) 3 : Int)] 24) := by
  unfold sv
  go_enter Tryd.func83, Tryd.ntmps83
  go_wp2
  go_ret
  exact ⟨rfl, rfl⟩

def encB (x : Fin 256) : Array Value := #[.int .u8 (x.1 : Int)]
/-- A round leaves the table alone. -/
def Zero (W W' : World) : Prop := W'.heap[0]? = W.heap[0]?
theorem Zero.trans {X Y Z : World} (h : Zero X Y) (k : Zero Y Z) : Zero X Z := Eq.trans k h
theorem Zero.refl (X : World) : Zero X X := rfl
/-- What is left of word i from place m on. -/
def rest (p : Nat → Bool) (i m : Nat) : Nat := nb (fun j => p (64 * i + j) && decide (m ≤ j)) 64
theorem rest_zero (p : Nat → Bool) (i : Nat) : rest p i 0 = wd p i := nb_congr fun j _ => by simp
theorem rest_lt (p : Nat → Bool) (i m : Nat) : rest p i m < 18446744073709551616 := nb_lt 64 _
theorem rest_end {p : Nat → Bool} {i m : Nat} (hm : m ≤ 64) (h : rest p i m = 0) : els p (64 * (i + 1)) = els p (64 * i + m) :=
  els_skip (by omega) fun j h1 h2 => by
    have := nb_eq_zero h (j - 64 * i) (by omega)
    rw [show 64 * i + (j - 64 * i) = j by omega] at this
    simpa [show m ≤ j - 64 * i by omega] using this
theorem rest_next {p : Nat → Bool} {i m : Nat} (hi : i < 4) (h : rest p i m ≠ 0) : ∃ (j y : Nat) (b : Fin 256), j < 64 ∧ b.1 = 64 * i + j ∧ m ≤ j ∧ rest p i m = 2 ^ j * (1 + 2 * y) ∧ rest p i m &&& (rest p i m - 1) = rest p i (j + 1) ∧
    els p (64 * i + (j + 1)) = els p (64 * i + m) ++ [b] := by
  obtain ⟨j, hj, hf, hl⟩ := nb_some 64 _ h
  obtain ⟨y, hy⟩ := nb_least j 64 _ hj hl hf
  have hc := nb_clear hj hl hf
  simp only [Bool.and_eq_true, decide_eq_true_eq] at hf
  refine ⟨j, y, ⟨64 * i + j, by omega⟩, hj, rfl, hf.2, hy, hc.trans (nb_congr fun x hx => ?_), ?_⟩
  · by_cases e : j < x
    · have e1 : m ≤ x := by omega
      simp [e, e1, show j + 1 ≤ x by omega]
    · simp [e, show ¬ j + 1 ≤ x by omega]
  · rw [← Nat.add_assoc, els_hit hf.1 (by omega)]
    congr 1
    refine els_skip (by omega) fun x h1 h2 => ?_
    have := hl (x - 64 * i) (by omega)
    rw [show 64 * i + (x - 64 * i) = x by omega] at this
    simpa [show m ≤ x - 64 * i by omega] using this
theorem rest_less {p : Nat → Bool} {i m : Nat} (h : rest p i m ≠ 0) : rest p i m &&& (rest p i m - 1) < rest p i m := by
  have : rest p i m &&& (rest p i m - 1) ≤ rest p i m - 1 := Nat.and_le_right
  omega

set_option maxRecDepth 100000 in
set_option maxHeartbeats 2000000 in
theorem all_stops (k A : Nat) (hk : 1 ≤ k) (w0 : World) (p : Nat → Bool) (hA : SB w0 A p) (hT : Tb w0) :
    SeqStopsK Fence.wide k Tryd.prog 100 #[.pointer (some ⟨A, 0, none⟩)] encB Zero (fun ys => ys = els p 256) (fun ys => ys <+: els p 256) 256 w0 := by
  intro l J Jx W hW _ _ hY h0
  obtain ⟨a0, a1, a2, a3⟩ := cells4 ((hW.block _ (heap_lt hA)).trans hA)
  have TW := hid (hT.below hW)
  have HY := hid hY
  clear hY hW hA hT
  refine callsIn_of_wp Tryd.func100 rfl trivial ?_ rfl
  simp only [Tryd.ntmps100, List.size_toArray, List.length_cons, List.length_nil, Nat.reduceAdd, Nat.reduceSub, Array.replicate_succ, Array.replicate_zero, List.push_toArray, List.append_toArray, List.nil_append, List.cons_append]
  gi_wp2
  gi_loopw [6] (fun s wr => ∃ (i : Nat), s = .int .i64 i ∧ i ≤ 4 ∧ J (els p (64 * i)) wr ∧ Zero W wr)
    (fun s _ => (4 - intOf s).toNat)
  case atStart => exact ⟨0, rfl, by omega, by rw [show els p (64 * 0) = [] by rw [Nat.mul_zero, els]]; exact h0, Zero.refl _⟩
  case round =>
    obtain ⟨i, rfl, hi, hJ, hZ⟩ := hrel
    have HJ := hid (And.intro hJ hZ)
    clear hJ hZ
    by_cases hi4 : i < 4
    · have hlt' : (i : Int) < 4 := by omega
      have ix : ∀ V, (Instr.index 24 (.agg #[.int .u64 (wd p 0 : Int), .int .u64 (wd p 1 : Int), .int .u64 (wd p 2 : Int), .int .u64 (wd p 3 : Int)]) (.int .i64 (i : Int))).run Tryd.prog V = .ok (.int .u64 (wd p i : Int)) V := fun V => by
        have hi5 : i = 0 ∨ i = 1 ∨ i = 2 ∨ i = 3 := by omega
        rcases hi5 with rfl | rfl | rfl | rfl
        · exact ix0 (wd p 0) (wd p 1) (wd p 2) (wd p 3) V
        · exact ix1 (wd p 0) (wd p 1) (wd p 2) (wd p 3) V
        · exact ix2 (wd p 0) (wd p 1) (wd p 2) (wd p 3) V
        · exact ix3 (wd p 0) (wd p 1) (wd p 2) (wd p 3) V
      have e1 : IntKind.i64.wrap (64 * (i : Int)) = 64 * (i : Int) := wrapIn (by omega) (by omega)
      have e2 : IntKind.i64.wrap ((i : Int) + 1) = (i : Int) + 1 := wrapIn (by omega) (by omega)
      have L := hid hi4
      clear hi hi4
      gi_wp2
      gi_loopw [4] (fun s wr => ∃ (m x : Nat), s = .int .u64 (x : Int) ∧ x = rest p i m ∧ m ≤ 64 ∧ J (els p (64 * i + m)) wr ∧ Zero W wr)
        (fun s _ => (intOf s).toNat)
      case atStart => exact ⟨0, wd p i, rfl, (rest_zero p i).symm, by omega, HJ.out.1, HJ.out.2⟩
      case round =>
        obtain ⟨m, x, rfl, hx, hm, hJ, hZ⟩ := hrel
        by_cases h0 : x = 0
        · have n0 : (x : Int) = 0 := by omega
          have HH := hid (And.intro hx (And.intro hm (And.intro hJ hZ)))
          clear hx hm hJ hZ
          subst h0
          gi_wp2
          go_roundw
          case rel =>
            obtain ⟨hx, hm, hJ, hZ⟩ := HH.out
            have := L.out
            exact ⟨i + 1, by go_num, by omega, by rw [rest_end hm hx.symm]; exact hJ, hZ⟩
          case measure => have := L.out; simp only [intOf]; omega
        · have n0 : ¬ (x : Int) = 0 := by omega
          obtain ⟨j, y, b, hj, hb, hmj, hxy, hcl, hel⟩ := rest_next (p := p) (m := m) L.out (by rw [← hx]; exact h0)
          have hless := rest_less (p := p) (i := i) (m := m) (by rw [← hx]; exact h0)
          have hxl := rest_lt p i m
          rw [← hx] at hxy hcl hless hxl
          obtain ⟨z, hz⟩ : ∃ z, z = rest p i (j + 1) := ⟨_, rfl⟩
          rw [← hz] at hcl
          rw [hcl] at hless
          have CT := hid (fun V (hV : Zero W V) => tz_any x j y V hxl hj hxy (TW.out.same hV))
          have hlen : (els p (64 * i + m)).length < 256 := by have h1 := els_length p (64 * i + m); have h2 := cnt_le p (64 * i + m); have h3 := L.out; omega
          have i4 := L.out
          obtain ⟨fn, tmps, assign, body, hyv, hR⟩ := HY.out _ b _ hJ hlen
          rw [show encB b = #[.int .u8 (64 * (i : Int) + (j : Int))] by unfold encB; rw [hb]; simp] at hyv
          have e3 : IntKind.i64.wrap (64 * (i : Int) + (j : Int)) = 64 * (i : Int) + (j : Int) := wrapIn (by omega) (by omega)
          have e4 : IntKind.u8.wrap (64 * (i : Int) + (j : Int)) = 64 * (i : Int) + (j : Int) := by rw [IntKind.wrap_u8]; omega
          have e5 : IntKind.u64.wrap ((x : Int) - 1) = ((x - 1 : Nat) : Int) := by rw [IntKind.wrap_u64]; omega
          have e6 : bits .and .u64 (x : Int) ((x - 1 : Nat) : Int) = (z : Int) := by rw [uand hxl (by omega), hcl]
          have HH := hid (And.intro hx (And.intro hm (And.intro hJ (And.intro hZ (And.intro hz (And.intro hel (And.intro hless hj)))))))
          have cT := CT.out wr hZ
          clear hx hm hJ hZ hz hel hless hj hcl hxy hxl hmj i4 hlen h0 hb
          gi_wp2
          refine ⟨trivial, callsIn_wide.2 (cT.mono ?_)⟩
          rintro e w' ⟨rfl, rfl⟩
          gi_wp2
          refine hR.mono ?_
          rintro e W3 (⟨rfl, hJ3, hk3⟩ | ⟨rfl, hJx3⟩)
          · have HK := hid (And.intro hJ3 hk3)
            clear hJ3 hk3 hR
            gi_wp2
            go_roundw
            case rel =>
              obtain ⟨hx, hm, hJ, hZ, hz, hel, hless, hj⟩ := HH.out
              exact ⟨j + 1, z, rfl, hz, by omega, by rw [hel]; exact HK.out.1, hZ.trans HK.out.2⟩
            case measure =>
              obtain ⟨hx, hm, hJ, hZ, hz, hel, hless, hj⟩ := HH.out
              simp only [intOf]; omega
          · have HK := hid hJx3
            clear hJx3 hR
            gi_wp2
            obtain ⟨hx, hm, hJ, hZ, hz, hel, hless, hj⟩ := HH.out
            refine bodyPost_ret (results_none rfl _ _ _) rfl ?_
            exact ⟨⟨_, rfl⟩, .inr ⟨_, by rw [← hel]; exact els_prefix (by have := L.out; omega), HK.out⟩⟩
    · have i4 : i = 4 := by omega
      subst i4
      gi_wp2
      go_end0
      exact ⟨⟨_, rfl⟩, .inl ⟨_, rfl, HJ.out.1⟩⟩

end Go.Proofs.YtednoideboeehaaDoor
end
