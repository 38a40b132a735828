/-
  The document's examples as maths; plus.
-/
import Derived.Test.YtelbagaiijffdaaUu
import Derived.Test.YtelbagaiijffdaaUs
set_option linter.unusedSimpArgs false
set_option linter.unusedVariables false
namespace Go.Proofs.Ytelbagaiijffdaa
open Go.RowKit Lx Go.Frame
attribute [-instance] instBEqProd

def PA : Df := ⟨clb 97, [[-1, 1], [-1, 1]], [-1, 0]⟩
def PB_ : Df := ⟨clb 97, [[-1, 1], [-1, 2], [-1, 1]], [-1, 0, 0]⟩
def PC : Df := ⟨clb 97, [[-1, -1]], [-1]⟩
theorem mini_a : mini PA = PA := by kernel_rfl
theorem mini_b : mini PB_ = PA := by kernel_rfl
theorem mR_a : (mR PA).2.length = 2 := by kernel_rfl
theorem mR_b : (mR PB_).2.length = 2 := by kernel_rfl
theorem vd_a : Vd PA 2 2 := by
  obtain ⟨n, k, h⟩ := valid_iff.1 (show valid PA = true by kernel_rfl)
  have h1 : n = 2 := h.hn.symm
  have h2 : k = 2 := (h.row [-1, 1] (by simp [PA])).1.symm
  rwa [h1, h2] at h
theorem vd_b : Vd PB_ 3 2 := by
  obtain ⟨n, k, h⟩ := valid_iff.1 (show valid PB_ = true by kernel_rfl)
  have h1 : n = 3 := h.hn.symm
  have h2 : k = 2 := (h.row [-1, 1] (by simp [PB_])).1.symm
  rwa [h1, h2] at h
theorem vd_c : Vd PC 1 2 := by
  obtain ⟨n, k, h⟩ := valid_iff.1 (show valid PC = true by kernel_rfl)
  have h1 : n = 1 := h.hn.symm
  have h2 : k = 2 := (h.row [-1, -1] (by simp [PC])).1.symm
  rwa [h1, h2] at h
theorem valid_zero : valid ⟨[], [], []⟩ = false := by kernel_rfl
theorem clb_at (b : UInt8) : (clb 97).getD b.toNat 0 = if b.toNat = 97 then 1 else 0 := by
  have hb := b.toNat_lt
  unfold clb
  rw [List.getD_eq_getElem?_getD]
  by_cases h : b.toNat = 97
  · rw [h, List.getElem?_set_self (by rw [List.length_replicate]; omega)]; rfl
  · rw [List.getElem?_set_ne (fun e => h e.symm), List.getElem?_replicate, if_pos (by omega), if_neg h]; rfl
theorem dl_a (q : Nat) (hq : q < 2) (b : UInt8) : dl PA q b.toNat = if b.toNat = 97 then 1 else -1 := by
  unfold dl
  show (PA.nxt.getD q []).getD ((clb 97).getD b.toNat 0).toNat (-1) = _
  rw [clb_at]
  have : q = 0 ∨ q = 1 := by omega
  split <;> rcases this with rfl | rfl <;> rfl
theorem dl_b (q : Nat) (hq : q < 3) (b : UInt8) : dl PB_ q b.toNat = if b.toNat = 97 then (if q = 1 then 2 else 1) else -1 := by
  unfold dl
  show (PB_.nxt.getD q []).getD ((clb 97).getD b.toNat 0).toNat (-1) = _
  rw [clb_at]
  have : q = 0 ∨ q = 1 ∨ q = 2 := by omega
  split <;> rcases this with rfl | rfl | rfl <;> rfl
theorem dl_c (b : UInt8) : dl PC 0 b.toNat = -1 := by
  unfold dl
  show (PC.nxt.getD 0 []).getD ((clb 97).getD b.toNat 0).toNat (-1) = _
  rw [clb_at]
  split <;> rfl
theorem same_ab : ∀ (t : List UInt8) (q r : Nat), (q = 0 ∧ r = 0) ∨ (q = 1 ∧ r = 1) ∨ (q = 1 ∧ r = 2) → rn PA q t = rn PB_ r t
  | [], q, r, h => by rcases h with ⟨rfl, rfl⟩ | ⟨rfl, rfl⟩ | ⟨rfl, rfl⟩ <;> rfl
  | b :: t, q, r, h => by
    have hq : q < 2 := by omega
    have hr : r < 3 := by omega
    rw [rn, rn, dl_a q hq, dl_b r hr]
    by_cases h97 : b.toNat = 97
    · rw [if_pos h97, if_pos h97]
      by_cases h1 : r = 1
      · rw [if_pos h1, if_neg (by omega), if_neg (by omega)]
        exact same_ab t 1 2 (by omega)
      · rw [if_neg h1, if_neg (by omega), if_neg (by omega)]
        exact same_ab t 1 1 (by omega)
    · rw [if_neg h97, if_neg h97, if_pos (by omega), if_pos (by omega)]
theorem dif_ab {e : Ending} (h : DfRes PA PB_ e) : e = .returned (.tuple #[.string ByteArray.empty, .bool false]) := by
  rcases h with ⟨s, _, hne, _⟩ | ⟨h, _⟩
  · exact absurd (same_ab s.data.toList 0 0 (.inl ⟨rfl, rfl⟩)) hne
  · exact h
theorem dif_ac {e : Ending} (h : DfRes PA PC e) : e = .returned (.tuple #[.string ⟨#[97]⟩, .bool true]) := by
  have h97 : rn PA 0 [97] ≠ rn PC 0 [97] := by
    have e1 : rn PA 0 [97] = 0 := by kernel_rfl
    have e2 : rn PC 0 [97] = -1 := by kernel_rfl
    rw [e1, e2]; decide
  rcases h with ⟨s, rfl, hne, hl⟩ | ⟨_, h⟩
  · have hle := hl [97] h97
    rw [show Bf.vl (nat8 [97]) = 98 from rfl] at hle
    obtain ⟨⟨l⟩⟩ := s
    have hs : l = [97] := by
      dsimp only at hne hle
      match l, hne, hle with
      | [], hne, hle => exact absurd rfl hne
      | [c], hne, hle =>
        by_cases hc : c.toNat = 97
        · rw [show c = 97 from UInt8.toNat_inj.1 hc]
        · refine absurd ?_ hne
          have e1 : rn PA 0 [c] = -1 := by rw [rn, dl_a 0 (by omega), if_neg hc, if_pos (by omega)]
          have e2 : rn PC 0 [c] = -1 := by rw [rn, dl_c, if_pos (by omega)]
          rw [e1, e2]
      | c :: d :: r, hne, hle =>
        exfalso
        obtain h9 | ⟨u, x, h9⟩ := snoc_cases (nat8 (c :: d :: r))
        · simp [nat8] at h9
        · rw [h9, Bf.vl_snoc] at hle
          have hu : u.length = r.length + 1 := by
            have := congrArg List.length h9
            simp [nat8] at this
            omega
          obtain h8 | ⟨v, y, h8⟩ := snoc_cases u
          · rw [h8] at hu; simp at hu
          · rw [h8, Bf.vl_snoc] at hle
            omega
    rw [hs]
  · exact absurd (h [97]) h97
theorem run_aa : rn PA 0 [97, 97] = 0 := by kernel_rfl
theorem run_e : rn PA 0 [] = -1 := by kernel_rfl
theorem run_ab : rn PA 0 [97, 98] = -1 := by kernel_rfl
theorem ib_alloc (W : World) (l : List Int) (o : Obj) (ho : o = .cells (l.map iv).toArray 3 (0, 0)) : IB (W.alloc o) W.heap.size l := by
  rw [ho]; exact alloc_new _ _
/-- An automaton out of blocks. -/
theorem da_of {W : World} {D : Df} {g q c m : Nat} {bs : List Nat} (h1 : IB W g D.cls) (hc : D.cls.length = 256) (hm : D.nxt.length = m) (hm2 : m ≤ 1000) (hb : bs.length = m) (ho : W.heap[q]? = some (.cells ((bs.zip D.nxt).map fun p => Value.slice (some ⟨p.1, 0, none⟩) p.2.length p.2.length).toArray 22 (0, 0))) (hr : ∀ p ∈ bs.zip D.nxt, IB W p.1 p.2 ∧ p.2.length ≤ 1000) (hacc : IB W c D.acc) (ha : D.acc.length = m) (hx : ∀ x ∈ D.acc, x ≤ 9223372036854775807) :
    DA W D (some ⟨g, 0, none⟩) 256 (some ⟨q, 0, none⟩) m (some ⟨c, 0, none⟩) m := by
  have r1 := h1.row
  rw [hc] at r1
  have r3 := hacc.row
  rw [ha] at r3
  refine ⟨r1, ⟨hm, .inr ⟨q, 0, rfl, heap_lt ho, fun i r hi => ?_⟩⟩, r3, by omega, by omega, by omega, hx⟩
  have hil := (List.getElem?_eq_some_iff.1 hi).1
  have hbi : bs[i]? = some (bs[i]'(by omega)) := List.getElem?_eq_getElem _
  obtain ⟨b, hb9⟩ : ∃ b, bs[i]? = some b := ⟨_, hbi⟩
  have hz : (bs.zip D.nxt)[i]? = some (b, r) := List.getElem?_zip_eq_some.2 ⟨hb9, hi⟩
  obtain ⟨i1, i2⟩ := hr _ (List.mem_of_getElem? hz)
  refine ⟨some ⟨b, 0, none⟩, r.length, ?_, i1.row, by dsimp only at i2; omega⟩
  simp only [World.cell?, ho]
  rw [Nat.zero_add]
  simp [hz]
/-- An automaton in blocks of its own. -/
structure LY (W : World) (D : Df) (g q c m : Nat) (bs : List Nat) : Prop where
  h1 : IB W g D.cls
  hc : D.cls.length = 256
  hm : D.nxt.length = m
  hm2 : m ≤ 1000
  hb : bs.length = m
  ho : W.heap[q]? = some (.cells ((bs.zip D.nxt).map fun p => Value.slice (some ⟨p.1, 0, none⟩) p.2.length p.2.length).toArray 22 (0, 0))
  hr : ∀ p ∈ bs.zip D.nxt, IB W p.1 p.2 ∧ p.2.length ≤ 1000
  hacc : IB W c D.acc
  ha : D.acc.length = m
  hx : ∀ x ∈ D.acc, x ≤ 9223372036854775807
theorem LY.da {W : World} {D : Df} {g q c m : Nat} {bs : List Nat} (h : LY W D g q c m bs) : DA W D (some ⟨g, 0, none⟩) 256 (some ⟨q, 0, none⟩) m (some ⟨c, 0, none⟩) m := da_of h.h1 h.hc h.hm h.hm2 h.hb h.ho h.hr h.hacc h.ha h.hx
theorem LY.map {W W' : World} {D : Df} {g q c m : Nat} {bs : List Nat} (h : LY W D g q c m bs) (hk : ∀ (k : Nat) (x : Array Value) (t : Nat), t ≠ 25 → W.heap[k]? = some (Obj.cells x t (0, 0)) → W'.heap[k]? = some (Obj.cells x t (0, 0))) : LY W' D g q c m bs :=
  ⟨hk _ _ 3 (by decide) h.h1, h.hc, h.hm, h.hm2, h.hb, hk _ _ 22 (by decide) h.ho, fun p hp => ⟨hk _ _ 3 (by decide) (h.hr p hp).1, (h.hr p hp).2⟩, hk _ _ 3 (by decide) h.hacc, h.ha, h.hx⟩
theorem LY.keep {W W' : World} {D : Df} {g q c m : Nat} {bs : List Nat} (h : LY W D g q c m bs) (hb : Below W.heap.size W W') : LY W' D g q c m bs := h.map fun k x t _ hk => (hb.block _ (heap_lt hk)).trans hk
/-- A store into a box of an automaton. -/
theorem LY.put {W : World} {D : Df} {g q c m B j : Nat} {bs : List Nat} {u : Value} {y : Array Value} (h : LY W D g q c m bs) (hB : W.heap[B]? = some (Obj.cells y 25 (0, 0))) : LY (W.setCell ⟨B, j, none⟩ u) D g q c m bs := h.map fun k x t ht hk => blk_set hk (fun e => by
  have e' : k = B := e
  rw [e', hB] at hk
  simp at hk
  exact ht hk.2.symm)
theorem at_alloc (X : World) (o : Obj) (k : Nat) (hk : X.heap.size = k) : (X.alloc o).heap[k]? = some o := by subst hk; exact alloc_new X o
theorem sz1 (X : World) (o : Obj) : (X.alloc o).heap.size = X.heap.size + 1 := World.size_alloc ..
/-- Two rows and the numbers, laid one behind the other. -/
def lay2 (V : World) (r1 r2 a : List Int) : World := (((V.alloc (.cells (r1.map iv).toArray 3)).alloc (.cells (r2.map iv).toArray 3)).alloc (.cells #[.slice (some ⟨V.heap.size, 0, none⟩) r1.length r1.length, .slice (some ⟨V.heap.size + 1, 0, none⟩) r2.length r2.length] 22)).alloc (.cells (a.map iv).toArray 3)
def lay3 (V : World) (r1 r2 r3 a : List Int) : World := ((((V.alloc (.cells (r1.map iv).toArray 3)).alloc (.cells (r2.map iv).toArray 3)).alloc (.cells (r3.map iv).toArray 3)).alloc (.cells #[.slice (some ⟨V.heap.size, 0, none⟩) r1.length r1.length, .slice (some ⟨V.heap.size + 1, 0, none⟩) r2.length r2.length, .slice (some ⟨V.heap.size + 1 + 1, 0, none⟩) r3.length r3.length] 22)).alloc (.cells (a.map iv).toArray 3)
theorem below_allocs {n : Nat} {V W : World} (h : Below n V W) (hn : n ≤ V.heap.size) (o : Obj) : Below n V (W.alloc o) := h.alloc (Nat.le_trans hn (by have := h.size; omega)) o
theorem lay2_below (V : World) (r1 r2 a : List Int) : Below V.heap.size V (lay2 V r1 r2 a) :=
  below_allocs (below_allocs (below_allocs (bel1 _ _) (Nat.le_refl _) _) (Nat.le_refl _) _) (Nat.le_refl _) _
theorem lay3_below (V : World) (r1 r2 r3 a : List Int) : Below V.heap.size V (lay3 V r1 r2 r3 a) :=
  below_allocs (below_allocs (below_allocs (below_allocs (bel1 _ _) (Nat.le_refl _) _) (Nat.le_refl _) _) (Nat.le_refl _) _) (Nat.le_refl _) _
theorem lay2_da {V : World} {g : Nat} (h : IB V g (clb 97)) (r1 r2 a : List Int) (h1 : r1.length ≤ 1000) (h2 : r2.length ≤ 1000) (ha : a.length = 2) (hx : ∀ x ∈ a, x ≤ 9223372036854775807) :
    LY (lay2 V r1 r2 a) ⟨clb 97, [r1, r2], a⟩ g (V.heap.size + 1 + 1) (V.heap.size + 1 + 1 + 1) 2 [V.heap.size, V.heap.size + 1] := by
  refine ⟨(h.keep (lay2_below V r1 r2 a)), clb_len 97, rfl, by omega, rfl, ?_, ?_, ?_, ha, hx⟩
  · exact blk_alloc (at_alloc _ _ _ (by simp only [sz1]))
  · intro p hp
    simp only [List.zip_cons_cons, List.zip_nil_right, List.mem_cons, List.not_mem_nil, or_false] at hp
    rcases hp with rfl | rfl
    · exact ⟨blk_alloc (blk_alloc (blk_alloc (alloc_new _ _))), h1⟩
    · exact ⟨blk_alloc (blk_alloc (at_alloc _ _ _ (by simp only [sz1]))), h2⟩
  · exact at_alloc _ _ _ (by simp only [sz1])
theorem lay3_da {V : World} {g : Nat} (h : IB V g (clb 97)) (r1 r2 r3 a : List Int) (h1 : r1.length ≤ 1000) (h2 : r2.length ≤ 1000) (h3 : r3.length ≤ 1000) (ha : a.length = 3) (hx : ∀ x ∈ a, x ≤ 9223372036854775807) :
    LY (lay3 V r1 r2 r3 a) ⟨clb 97, [r1, r2, r3], a⟩ g (V.heap.size + 1 + 1 + 1) (V.heap.size + 1 + 1 + 1 + 1) 3 [V.heap.size, V.heap.size + 1, V.heap.size + 1 + 1] := by
  refine ⟨(h.keep (lay3_below V r1 r2 r3 a)), clb_len 97, rfl, by omega, rfl, ?_, ?_, ?_, ha, hx⟩
  · exact blk_alloc (at_alloc _ _ _ (by simp only [sz1]))
  · intro p hp
    simp only [List.zip_cons_cons, List.zip_nil_right, List.mem_cons, List.not_mem_nil, or_false] at hp
    rcases hp with rfl | rfl | rfl
    · exact ⟨blk_alloc (blk_alloc (blk_alloc (blk_alloc (alloc_new _ _)))), h1⟩
    · exact ⟨blk_alloc (blk_alloc (blk_alloc (at_alloc _ _ _ (by simp only [sz1])))), h2⟩
    · exact ⟨blk_alloc (blk_alloc (at_alloc _ _ _ (by simp only [sz1]))), h3⟩
  · exact at_alloc _ _ _ (by simp only [sz1])
set_option maxRecDepth 100000 in
set_option maxHeartbeats 8000000 in
theorem plus_any (w : World) : Calls Try.prog 19 #[] w fun e w' => (∃ x1 x2 x3 y1 y2 y3, e = .returned (.tuple #[.agg #[.slice x1 256 256, .slice x2 2 2, .slice x3 2 2], .agg #[.slice y1 256 256, .slice y2 3 3, .slice y3 3 3]]) ∧ DA w' PA x1 256 x2 2 x3 2 ∧ DA w' PB_ y1 256 y2 3 y3 3) ∧ Below w.heap.size w w' := by
  go_enter Try.func19, Try.ntmps19
  go_wp2_with fail
  obtain ⟨W, hW⟩ : ∃ W, W = (w.alloc (.cells #[.slice none 0 0, .slice none 0 0, .slice none 0 0] 25)).alloc (.cells #[.slice none 0 0, .slice none 0 0, .slice none 0 0] 25) := ⟨_, rfl⟩
  have HW := hid (show W.heap[w.heap.size]? = some (.cells #[.slice none 0 0, .slice none 0 0, .slice none 0 0] 25 (0, 0)) ∧ W.heap[w.heap.size + 1]? = some (.cells #[.slice none 0 0, .slice none 0 0, .slice none 0 0] 25 (0, 0)) ∧ Below w.heap.size w W from by
    rw [hW]
    exact ⟨blk_alloc (alloc_new _ _), at_alloc _ _ _ (sz1 _ _), below_allocs (bel1 _ _) (Nat.le_refl _) _⟩)
  rw [← hW]
  clear hW
  refine (class_any W 97 (by omega)).mono ?_
  rintro e V ⟨⟨g, rfl, hI, hg⟩, bV⟩
  rw [clb_len]
  have HV := hid (And.intro (HW.out.2.2.trans (bV.mono HW.out.2.2.size)) (And.intro ((bV.block _ (heap_lt HW.out.1)).trans HW.out.1) ((bV.block _ (heap_lt HW.out.2.1)).trans HW.out.2.1)))
  have h1 := lay2_da hI [-1, 1] [-1, 1] [-1, 0] (by decide) (by decide) rfl (by decide)
  have b1 := lay2_below V [-1, 1] [-1, 1] [-1, 0]
  obtain ⟨A, hA⟩ : ∃ A, A = lay2 V [-1, 1] [-1, 1] [-1, 0] := ⟨_, rfl⟩
  rw [← hA] at h1 b1
  have H1 := hid (And.intro h1 (And.intro (HV.out.1.trans (b1.mono HV.out.1.size)) (And.intro ((b1.block _ (heap_lt HV.out.2.1)).trans HV.out.2.1) ((b1.block _ (heap_lt HV.out.2.2)).trans HV.out.2.2))))
  have hA2 : A = (((V.alloc (.cells #[.int .i64 (-1), .int .i64 1] 3)).alloc (.cells #[.int .i64 (-1), .int .i64 1] 3)).alloc (.cells #[.slice (some ⟨V.heap.size, 0, none⟩) 2 2, .slice (some ⟨V.heap.size + 1, 0, none⟩) 2 2] 22)).alloc (.cells #[.int .i64 (-1), .int .i64 0] 3) := hA
  clear hI bV h1 b1 hA
  go_wp2_with fail
  rw [← hA2]
  clear hA2
  refine (class_any A 97 (by omega)).mono ?_
  rintro e U ⟨⟨g', rfl, hI, hg'⟩, bU⟩
  rw [clb_len]
  have HU := hid (And.intro (H1.out.2.1.trans (bU.mono H1.out.2.1.size)) (And.intro ((bU.block _ (heap_lt H1.out.2.2.1)).trans H1.out.2.2.1) (And.intro ((bU.block _ (heap_lt H1.out.2.2.2)).trans H1.out.2.2.2) (H1.out.1.keep bU))))
  have h1 := lay3_da hI [-1, 1] [-1, 2] [-1, 1] [-1, 0, 0] (by decide) (by decide) (by decide) rfl (by decide)
  have b1 := lay3_below U [-1, 1] [-1, 2] [-1, 1] [-1, 0, 0]
  obtain ⟨B, hB⟩ : ∃ B, B = lay3 U [-1, 1] [-1, 2] [-1, 1] [-1, 0, 0] := ⟨_, rfl⟩
  rw [← hB] at h1 b1
  have y0 := (b1.block _ (heap_lt HU.out.2.1)).trans HU.out.2.1
  have y1 := (b1.block _ (heap_lt HU.out.2.2.1)).trans HU.out.2.2.1
  have H2 := hid (And.intro h1 (And.intro (HU.out.1.trans (b1.mono HU.out.1.size)) (And.intro (HU.out.2.2.2.keep b1) (And.intro y0 y1))))
  have hB2 : B = ((((U.alloc (.cells #[.int .i64 (-1), .int .i64 1] 3)).alloc (.cells #[.int .i64 (-1), .int .i64 2] 3)).alloc (.cells #[.int .i64 (-1), .int .i64 1] 3)).alloc (.cells #[.slice (some ⟨U.heap.size, 0, none⟩) 2 2, .slice (some ⟨U.heap.size + 1, 0, none⟩) 2 2, .slice (some ⟨U.heap.size + 1 + 1, 0, none⟩) 2 2] 22)).alloc (.cells #[.int .i64 (-1), .int .i64 0, .int .i64 0] 3) := hB
  have hl0 := heap_lt HU.out.2.1
  have hl1 := heap_lt HU.out.2.2.1
  have f0 := Go.Frame.free y0 0
  have f1 := Go.Frame.free y0 1
  have f2 := Go.Frame.free y0 2
  have k0 := Go.Frame.free y1 0
  have k1 := Go.Frame.free y1 1
  have k2 := Go.Frame.free y1 2
  obtain ⟨u0, u1, u2⟩ := cells3 y0
  obtain ⟨v0, v1, v2⟩ := cells3 y1
  rw [hB2] at f0 f1 f2 k0 k1 k2 u0 u1 u2 v0 v1 v2
  clear hI bU h1 b1 hB y0 y1
  go_wp2_with fail
  rw [← hB2]
  clear hB2 f0 f1 f2 k0 k1 k2 u0 u1 u2 v0 v1 v2
  have y0 := H2.out.2.2.2.1
  have y1 := H2.out.2.2.2.2
  have hn : w.heap.size + 1 ≠ w.heap.size := by omega
  have hn' : w.heap.size ≠ w.heap.size + 1 := by omega
  have z1 := blk_put (k := 0) (v := .slice (some ⟨g, 0, none⟩) 256 256) y0
  have z2 := blk_put (k := 1) (v := .slice (some ⟨V.heap.size + 1 + 1, 0, none⟩) 2 2) z1
  have z3 := blk_put (k := 2) (v := .slice (some ⟨V.heap.size + 1 + 1 + 1, 0, none⟩) 2 2) z2
  have t1 := blk_set (a := ⟨w.heap.size, 2, none⟩) (v := .slice (some ⟨V.heap.size + 1 + 1 + 1, 0, none⟩) 2 2) (blk_set (a := ⟨w.heap.size, 1, none⟩) (v := .slice (some ⟨V.heap.size + 1 + 1, 0, none⟩) 2 2) (blk_set (a := ⟨w.heap.size, 0, none⟩) (v := .slice (some ⟨g, 0, none⟩) 256 256) y1 hn) hn) hn
  have t2 := blk_put (k := 0) (v := .slice (some ⟨g', 0, none⟩) 256 256) t1
  have t3 := blk_put (k := 1) (v := .slice (some ⟨U.heap.size + 1 + 1 + 1, 0, none⟩) 3 3) t2
  have t4 := blk_put (k := 2) (v := .slice (some ⟨U.heap.size + 1 + 1 + 1 + 1, 0, none⟩) 3 3) t3
  have z4 := blk_set (a := ⟨w.heap.size + 1, 2, none⟩) (v := .slice (some ⟨U.heap.size + 1 + 1 + 1 + 1, 0, none⟩) 3 3) (blk_set (a := ⟨w.heap.size + 1, 1, none⟩) (v := .slice (some ⟨U.heap.size + 1 + 1 + 1, 0, none⟩) 3 3) (blk_set (a := ⟨w.heap.size + 1, 0, none⟩) (v := .slice (some ⟨g', 0, none⟩) 256 256) z3 hn') hn') hn'
  obtain ⟨r0, r1, r2⟩ := cells3 (z4.trans rfl)
  obtain ⟨s0, s1, s2⟩ := cells3 (t4.trans rfl)
  have LA := (((((H2.out.2.2.1.put (j := 0) (u := .slice (some ⟨g, 0, none⟩) 256 256) y0).put (j := 1) (u := .slice (some ⟨V.heap.size + 1 + 1, 0, none⟩) 2 2) z1).put (j := 2) (u := .slice (some ⟨V.heap.size + 1 + 1 + 1, 0, none⟩) 2 2) z2).put (j := 0) (u := .slice (some ⟨g', 0, none⟩) 256 256) t1).put (j := 1) (u := .slice (some ⟨U.heap.size + 1 + 1 + 1, 0, none⟩) 3 3) t2).put (j := 2) (u := .slice (some ⟨U.heap.size + 1 + 1 + 1 + 1, 0, none⟩) 3 3) t3
  have LB9 := (((((H2.out.1.put (j := 0) (u := .slice (some ⟨g, 0, none⟩) 256 256) y0).put (j := 1) (u := .slice (some ⟨V.heap.size + 1 + 1, 0, none⟩) 2 2) z1).put (j := 2) (u := .slice (some ⟨V.heap.size + 1 + 1 + 1, 0, none⟩) 2 2) z2).put (j := 0) (u := .slice (some ⟨g', 0, none⟩) 256 256) t1).put (j := 1) (u := .slice (some ⟨U.heap.size + 1 + 1 + 1, 0, none⟩) 3 3) t2).put (j := 2) (u := .slice (some ⟨U.heap.size + 1 + 1 + 1 + 1, 0, none⟩) 3 3) t3
  have hbe := below_put (j := 2) (u := .slice (some ⟨U.heap.size + 1 + 1 + 1 + 1, 0, none⟩) 3 3) (below_put (j := 1) (u := .slice (some ⟨U.heap.size + 1 + 1 + 1, 0, none⟩) 3 3) (below_put (j := 0) (u := .slice (some ⟨g', 0, none⟩) 256 256) (below_put (j := 2) (u := .slice (some ⟨V.heap.size + 1 + 1 + 1, 0, none⟩) 2 2) (below_put (j := 1) (u := .slice (some ⟨V.heap.size + 1 + 1, 0, none⟩) 2 2) (below_put (j := 0) (u := .slice (some ⟨g, 0, none⟩) 256 256) H2.out.2.1 (Nat.le_refl _)) (Nat.le_refl _)) (Nat.le_refl _)) (show w.heap.size ≤ w.heap.size + 1 by omega)) (show w.heap.size ≤ w.heap.size + 1 by omega)) (show w.heap.size ≤ w.heap.size + 1 by omega)
  refine bodyPost_ret (v := .tuple #[.agg #[.slice (some ⟨g, 0, none⟩) 256 256, .slice (some ⟨V.heap.size + 1 + 1, 0, none⟩) 2 2, .slice (some ⟨V.heap.size + 1 + 1 + 1, 0, none⟩) 2 2], .agg #[.slice (some ⟨g', 0, none⟩) 256 256, .slice (some ⟨U.heap.size + 1 + 1 + 1, 0, none⟩) 3 3, .slice (some ⟨U.heap.size + 1 + 1 + 1 + 1, 0, none⟩) 3 3]]) ?_ rfl ⟨⟨_, _, _, _, _, _, rfl, LA.da, LB9.da⟩, hbe⟩
  clear z1 z2 z3 z4 t1 t2 t3 t4 LA LB9 hbe y0 y1
  simp [results, Try.results19, go_sem, r0, r1, r2, s0, s1, s2]
end Go.Proofs.Ytelbagaiijffdaa
