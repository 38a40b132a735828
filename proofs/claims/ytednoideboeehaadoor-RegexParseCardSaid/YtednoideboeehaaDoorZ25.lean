/-
  The reference's parser: contract: brackets.
-/
import Derived.Test.YtednoideboeehaaDoorZ24
import Derived.Test.YtednoideboeehaaDoorZ23
import Derived.Test.YtednoideboeehaaDoorZ09
section
set_option linter.unusedSimpArgs false
set_option linter.unusedVariables false
namespace Go.Proofs.YtednoideboeehaaDoor
open Go.RowKit Bs Rg Go.Frame
attribute [local go_sem] eq_zero eq_set

/-- A set with the bytes from lo up to b. -/
def upb (S : BS) (lo b : Nat) : BS := fun x => S x || (decide (lo ≤ x.toNat) && decide (x.toNat < b))
theorem upb_start (S : BS) (lo : Nat) : upb S lo lo = S := by
  funext x; unfold upb
  by_cases h : lo ≤ x.toNat
  · simp [h, show ¬ x.toNat < lo by omega]
  · simp [h]
theorem upb_end (S : BS) (lo hi : UInt8) : upb S lo.toNat (hi.toNat + 1) = uni S (rng lo hi) := by
  funext x; unfold upb uni rng
  simp only [UInt8.le_iff_toNat_le, Nat.lt_succ_iff]
theorem rWithB_any (S : BS) (lo b : Nat) (w : World) (hlo : lo ≤ b) (hb : b < 256) : Calls Tryd.prog 86 #[.agg #[.int .u64 (ws (upb S lo b) 0 : Int), .int .u64 (ws (upb S lo b) 1 : Int), .int .u64 (ws (upb S lo b) 2 : Int), .int .u64 (ws (upb S lo b) 3 : Int)], .int .i64 (b : Int)] w fun e w' => e = .returned (.agg #[.int .u64 (ws (upb S lo (b + 1)) 0 : Int), .int .u64 (ws (upb S lo (b + 1)) 1 : Int), .int .u64 (ws (upb S lo (b + 1)) 2 : Int), .int .u64 (ws (upb S lo (b + 1)) 3 : Int)]) ∧ Below w.heap.size w w' := by
  have h := rWith_any (lf (upb S lo b)) b w hb
  rw [sv_to (p := add1 (lf (upb S lo b)) b) (s := upb S lo (b + 1)) (fun x hx => by
    unfold add1 lf upb
    have hx2 : (UInt8.ofNat x).toNat = x := toNat_of hx
    rw [hx2]
    by_cases e : x = b
    · subst e; simp [hlo]
    · have e1 : (x == b) = false := by simpa using e
      have e2 : (x < b + 1) ↔ x < b := by omega
      rw [e1, Bool.or_false]
      simp only [e2])] at h
  exact h
/-- What brackets answers. -/
def BO (pb : Nat) (s : ByteArray) (r : Pr BS) (w : World) (e : Ending) (w' : World) : Prop :=
  Pk pb w w' ∧ match r with
    | .ok S t => e = .returned (.agg #[.int .i64 3, .int .u64 (ws S 0 : Int), .int .u64 (ws S 1 : Int), .int .u64 (ws S 2 : Int), .int .u64 (ws S 3 : Int), .slice none 0 0]) ∧ RS pb s w' t false
    | .bad t => e = .returned (.agg #[.int .i64 0, .int .u64 0, .int .u64 0, .int .u64 0, .int .u64 0, .slice none 0 0]) ∧ RS pb s w' t true
/-- Where the loop over the elements stands. -/
def At3 (M : Pr BS) (first bad : Bool) (S : BS) (l : List UInt8) : Prop :=
  if bad = true then M = .bad l else if first = true then S = none8 ∧ M = elts l else ∃ n, l.length < n ∧ M = brk n S l
/-- The set, or its complement. -/
def fin3 (no : Bool) : Pr BS → Pr BS
  | .bad u => .bad u
  | .ok S u => .ok (if no = true then cpl S else S) u
/-- What is fixed while brackets runs. -/
structure BX3 (pb : Nat) (w V : World) (b4 : Nat) (S : BS) : Prop where
  res : V.heap[w.heap.size]? = some (.cells #[.int .i64 0, .int .u64 0, .int .u64 0, .int .u64 0, .int .u64 0, .slice none 0 0] 27 (0, 0))
  set : V.heap[b4]? = some (.cells #[.int .u64 (ws S 0 : Int), .int .u64 (ws S 1 : Int), .int .u64 (ws S 2 : Int), .int .u64 (ws S 3 : Int)] 24 (0, 0))
  pk : Pk pb w V
theorem BX3.step {pb : Nat} {w V V' : World} {b4 : Nat} {S : BS} (h : BX3 pb w V b4 S) (hpb : pb < w.heap.size) (h4 : w.heap.size < b4) (hp : Pk pb V V') : BX3 pb w V' b4 S :=
  ⟨(hp.block (by omega) (heap_lt h.res)).trans h.res, (hp.block (by omega) (heap_lt h.set)).trans h.set, h.pk.trans hp⟩
theorem BX3.put {pb : Nat} {w V : World} {b4 j : Nat} {S : BS} {v : Value} (h : BX3 pb w V b4 S) (hpb : pb < w.heap.size) (h4 : w.heap.size < b4) : BX3 pb w (V.setCell ⟨pb, j, none⟩ v) b4 S := h.step hpb h4 (Pk.refl _ _).put
theorem BX3.lay {pb : Nat} {w V : World} {b4 : Nat} {S T : BS} (h : BX3 pb w V b4 S) (h4 : w.heap.size < b4) : BX3 pb w ((((V.setCell ⟨b4, 0, none⟩ (.int .u64 (ws T 0 : Int))).setCell ⟨b4, 1, none⟩ (.int .u64 (ws T 1 : Int))).setCell ⟨b4, 2, none⟩ (.int .u64 (ws T 2 : Int))).setCell ⟨b4, 3, none⟩ (.int .u64 (ws T 3 : Int))) b4 T :=
  ⟨far4 h.res (by omega), four_set h.set, Kept.setCell (Kept.setCell (Kept.setCell (Kept.setCell h.pk (.inr (Nat.le_of_lt h4)) _) (.inr (Nat.le_of_lt h4)) _) (.inr (Nat.le_of_lt h4)) _) (.inr (Nat.le_of_lt h4)) _⟩
theorem chr_bad_len {sp l t : List UInt8} (h : chr sp l = .bad t) : t.length ≤ l.length := by
  cases l with
  | nil => simp [chr] at h; rw [h]; simp
  | cons b l =>
    rw [chr] at h
    split at h
    · cases l with
      | nil => simp [escd] at h; rw [h]; simp
      | cons c l =>
        rw [escd] at h
        split at h; · injection h with h; rw [← h]; simp
        split at h; · cases h
        split at h; · cases h
        split at h; · injection h with h; rw [← h]; simp
        · cases h
    split at h; · injection h with h; rw [← h]; simp
    split at h; · injection h with h; rw [← h]; simp
    · cases h
theorem at3_go {M : Pr BS} {first : Bool} {S : BS} {l : List UInt8} (h : At3 M first false S l) (hn : first = false → ∀ t, l ≠ 93 :: t) :
    (∀ t, elt l = .bad t → M = .bad t) ∧ (∀ s' t, elt l = .ok s' t → ∃ n, t.length < n ∧ M = brk n (uni S s') t) := by
  unfold At3 at h
  rw [if_neg (by simp)] at h
  cases first
  · rw [if_neg (by simp)] at h
    obtain ⟨n, h1, h2⟩ := h
    obtain ⟨n, rfl⟩ : ∃ m, n = m + 1 := ⟨n - 1, by omega⟩
    rw [brk, skip_hd (hn rfl)] at h2
    refine ⟨fun t ht => by rw [h2, ht], fun s' t ht => ⟨n, ?_, by rw [h2, ht]⟩⟩
    have := elt_len ht; omega
  · rw [if_pos rfl] at h
    obtain ⟨rfl, h2⟩ := h
    unfold elts at h2
    refine ⟨fun t ht => by rw [h2, ht], fun s' t ht => ⟨t.length + 1, by omega, ?_⟩⟩
    rw [h2, ht]
    have : uni none8 s' = s' := by funext x; simp [uni, none8]
    rw [this]
theorem at3_end {M : Pr BS} {S : BS} {t : List UInt8} (h : At3 M false false S (93 :: t)) : M = .ok S t := by
  unfold At3 at h
  rw [if_neg (by simp), if_neg (by simp)] at h
  obtain ⟨n, h1, h2⟩ := h
  obtain ⟨n, rfl⟩ : ∃ m, n = m + 1 := ⟨n - 1, by omega⟩
  rw [h2, brk, skip_cons]
theorem at3_bad {M : Pr BS} {f : Bool} {S : BS} {t : List UInt8} (h : M = .bad t) : At3 M f true S t := by unfold At3; rw [if_pos rfl]; exact h
theorem at3_ok {M : Pr BS} {S : BS} {t : List UInt8} (h : ∃ n, t.length < n ∧ M = brk n S t) : At3 M false false S t := by unfold At3; rw [if_neg (by simp), if_neg (by simp)]; exact h
theorem RS.far {pb b4 : Nat} {s : ByteArray} {V : World} {l : List UInt8} {bad : Bool} {x y z u : Value} (h : RS pb s V l bad) (hn : pb ≠ b4) : RS pb s ((((V.setCell ⟨b4, 0, none⟩ x).setCell ⟨b4, 1, none⟩ y).setCell ⟨b4, 2, none⟩ z).setCell ⟨b4, 3, none⟩ u) l bad := ⟨far4 h.box hn, h.rest, h.le, h.sz⟩
/-- The place set back. -/
theorem RS.back {pb : Nat} {s : ByteArray} {V : World} {l u : List UInt8} {bad bad' : Bool} {W : World} (h : RS pb s V l bad) (hu : RS pb s W u bad') : RS pb s ((V.setCell ⟨pb, 2, none⟩ (.bool true)).setCell ⟨pb, 1, none⟩ (.int .i64 ((s.size - u.length : Nat) : Int))) u true :=
  ⟨(blk_put (blk_put h.box)).trans rfl, hu.rest, hu.le, hu.sz⟩
theorem pk_six {pb : Nat} {w V : World} (h : Pk pb w V) {x0 x1 x2 x3 x4 x5 : Value} : Pk pb w ((((((V.setCell ⟨w.heap.size, 0, none⟩ x0).setCell ⟨w.heap.size, 1, none⟩ x1).setCell ⟨w.heap.size, 2, none⟩ x2).setCell ⟨w.heap.size, 3, none⟩ x3).setCell ⟨w.heap.size, 4, none⟩ x4).setCell ⟨w.heap.size, 5, none⟩ x5) :=
  Kept.setCell (Kept.setCell (Kept.setCell (Kept.setCell (Kept.setCell (Kept.setCell h (.inr (Nat.le_refl _)) _) (.inr (Nat.le_refl _)) _) (.inr (Nat.le_refl _)) _) (.inr (Nat.le_refl _)) _) (.inr (Nat.le_refl _)) _) (.inr (Nat.le_refl _)) _
theorem RS.six {pb B : Nat} {s : ByteArray} {V : World} {l : List UInt8} {bad : Bool} (h : RS pb s V l bad) (hn : pb ≠ B) {x0 x1 x2 x3 x4 x5 : Value} : RS pb s ((((((V.setCell ⟨B, 0, none⟩ x0).setCell ⟨B, 1, none⟩ x1).setCell ⟨B, 2, none⟩ x2).setCell ⟨B, 3, none⟩ x3).setCell ⟨B, 4, none⟩ x4).setCell ⟨B, 5, none⟩ x5) l bad :=
  ⟨blk_set (blk_set (blk_set (blk_set (blk_set (blk_set h.box hn) hn) hn) hn) hn) hn, h.rest, h.le, h.sz⟩
theorem elt_bad1 {l t : List UInt8} (h : chr spI l = .bad t) : elt l = .bad t := by unfold elt; rw [h]
theorem elt_lone {l t : List UInt8} {lo : UInt8} (h : chr spI l = .ok lo t) (hn : ∀ u, t ≠ 45 :: u) : elt l = .ok (rng lo lo) t := by unfold elt; rw [h]; simp only; rw [skip_hd hn]
theorem elt_run1 {l u v : List UInt8} {lo : UInt8} (h : chr spI l = .ok lo (45 :: u)) (h2 : chr spI u = .bad v) : elt l = .bad v := by
  unfold elt; rw [h]; simp only; rw [skip_cons]; simp only; rw [h2]
theorem elt_run2 {l u v : List UInt8} {lo hi : UInt8} (h : chr spI l = .ok lo (45 :: u)) (h2 : chr spI u = .ok hi v) : elt l = if hi < lo then .bad u else .ok (rng lo hi) v := by
  unfold elt; rw [h]; simp only; rw [skip_cons]; simp only; rw [h2]
set_option maxRecDepth 100000 in
set_option maxHeartbeats 4000000 in
theorem brackets_from (pb : Nat) (s : ByteArray) (w : World) (l0 l1 : List UInt8) (no : Bool) (hl : l0 = if no = true then 94 :: l1 else l1) (hno : no = false → ∀ t, l0 ≠ 94 :: t) (h : RS pb s w l0 false) :
    Calls Tryd.prog 108 #[.pointer (some ⟨pb, 0, none⟩)] w (BO pb s (fin3 no (elts l1)) w) := by
  have hpb := heap_lt h.box
  obtain ⟨M, hM⟩ : ∃ M, M = elts l1 := ⟨_, rfl⟩
  rw [← hM]
  obtain ⟨W0, hW0⟩ : ∃ W0, W0 = w.alloc (.cells #[.int .i64 0, .int .u64 0, .int .u64 0, .int .u64 0, .int .u64 0, .slice none 0 0] 27) := ⟨_, rfl⟩
  have H0 := hid (show W0.heap[w.heap.size]? = some (.cells #[.int .i64 0, .int .u64 0, .int .u64 0, .int .u64 0, .int .u64 0, .slice none 0 0] 27 (0, 0)) ∧ Pk pb w W0 ∧ RS pb s W0 l0 false from by
    have hb : Below w.heap.size w W0 := by rw [hW0]; exact bel1 _ _
    exact ⟨by rw [hW0]; exact alloc_new _ _, Pk.of hb, h.below hb⟩)
  have CN := hid (fun V (hR : RS pb s V l0 false) => next_any pb s V l0 false hR)
  have HM := hid hM
  have HL := hid (And.intro hl hno)
  have hnq : (nx l0 == 94) = no := by
    cases no
    · rw [← Bool.not_eq_true]; intro h
      cases l0 with
      | nil => simp [nx] at h
      | cons b t =>
        have : b.toNat = 94 := by simp [nx] at h; omega
        exact hno rfl t (by rw [show b = 94 from UInt8.toNat_inj.1 (by rw [this]; rfl)])
    · rw [hl]; rfl
  clear h hM hl hno
  go_enter Tryd.func108, Tryd.ntmps108
  go_wp2_with fail
  rw [← hW0]
  clear hW0
  refine (CN.out _ H0.out.2.2).mono ?_
  rintro e W1 ⟨rfl, b1⟩
  have H1 := hid (show W1.heap[w.heap.size]? = some (.cells #[.int .i64 0, .int .u64 0, .int .u64 0, .int .u64 0, .int .u64 0, .slice none 0 0] 27 (0, 0)) ∧ Pk pb w W1 ∧ RS pb s W1 l0 false from ⟨(b1.block _ (heap_lt H0.out.1)).trans H0.out.1, H0.out.2.1.trans (Pk.of b1), H0.out.2.2.below b1⟩)
  clear b1
  cases no
  · go_wp2_with fail
    obtain ⟨V4, hV4⟩ : ∃ V, V = W1.alloc (.cells #[.int .u64 0, .int .u64 0, .int .u64 0, .int .u64 0] 24) := ⟨_, rfl⟩
    obtain ⟨b4, hb4⟩ : ∃ b, b = W1.heap.size := ⟨_, rfl⟩
    have H4 := hid (show BX3 pb w V4 b4 none8 ∧ RS pb s V4 l1 false ∧ w.heap.size < b4 from by
      have hbl : Below W1.heap.size W1 V4 := by rw [hV4]; exact bel1 _ _
      have hl : l0 = l1 := HL.out.1
      refine ⟨⟨(hbl.block _ (heap_lt H1.out.1)).trans H1.out.1, ?_, H1.out.2.1.trans (Pk.of hbl)⟩, hl ▸ H1.out.2.2.below hbl, hb4 ▸ heap_lt H1.out.1⟩
      rw [hV4, hb4, ws_none, ws_none, ws_none, ws_none]; exact alloc_new _ _)
    rw [← hV4, ← hb4]
    clear hV4 hb4
    go_loopg [5] (l1.length + 1) (fun kk s5 wr => ∃ (first bad : Bool) (S : BS) (l : List UInt8), s5 = .bool first ∧ kk = l.length + (!bad).toNat ∧ BX3 pb w wr b4 S ∧ RS pb s wr l bad ∧ At3 M first bad S l)
    case atStart => exact ⟨true, false, none8, l1, rfl, rfl, H4.out.1, H4.out.2.1, by unfold At3; rw [if_neg (by simp), if_pos rfl]; exact ⟨rfl, HM.out⟩⟩
    case round =>
      obtain ⟨first, bad, S, l, rfl, hk, hbx, hrs, hat⟩ := hrel
      have HC := hid (And.intro hpb H4.out.2.2)
      obtain ⟨z0, z1, z2⟩ := hrs.cells
      have HK := hid hk
      have HB := hid (And.intro hbx hrs)
      cases bad
      · cases first
        · by_cases h93 : ∃ t, l = 93 :: t
          · obtain ⟨t, rfl⟩ := h93
            have CX := hid (next_b pb s wr 93 t false HB.out.2)
            have HE := hid (at3_end hat)
            clear hk hbx hrs hat
            go_wp2_with fail
            refine CX.out.mono ?_
            rintro e EW ⟨rfl, hr, bx⟩
            have E := hid (And.intro (HB.out.1.step HC.out.1 HC.out.2 (Pk.of bx)) hr)
            clear hr bx z0 z1 z2
            obtain ⟨z0, z1, z2⟩ := E.out.2.cells
            have f1 := Go.Frame.free E.out.2.box 1
            have hnx := E.out.2.next
            obtain ⟨p, hp⟩ : ∃ p, p = s.size - ((93 : UInt8) :: t).length := ⟨_, rfl⟩
            obtain ⟨p', hp'⟩ : ∃ p', p' = s.size - t.length := ⟨_, rfl⟩
            rw [← hp] at z1 hnx
            rw [← hp'] at hnx
            have HP := hid hp'
            have hpb' : (p : Int) ≤ 1000000 := by have := E.out.2.sz; omega
            clear hp hp'
            go_upto_region 26 with fail
            obtain ⟨FW, hF⟩ : ∃ FW, FW = EW.setCell ⟨pb, 1, none⟩ (.int .i64 (p' : Int)) := ⟨_, rfl⟩
            have F := hid (show BX3 pb w FW b4 S ∧ RS pb s FW t false from by rw [hF, HP.out]; exact ⟨E.out.1.put HC.out.1 HC.out.2, E.out.2.step⟩)
            rw [← hF]
            clear hF z0 z1 z2 f1
            have hres := F.out.1.res
            have HRES := hid hres
            obtain ⟨g0, g1, g2, g3, g4, g5⟩ := cells6 hres
            obtain ⟨p0, p1, p2, p3⟩ := cells4 F.out.1.set
            have f0 := Go.Frame.free hres 0
            have f1 := Go.Frame.free hres 1
            have f2 := Go.Frame.free hres 2
            have f3 := Go.Frame.free hres 3
            have f4 := Go.Frame.free hres 4
            have f5 := Go.Frame.free hres 5
            clear hres
            go_wp2
            have zz := six_set (y0 := .int .i64 3) (y1 := .int .u64 (ws S 0 : Int)) (y2 := .int .u64 (ws S 1 : Int)) (y3 := .int .u64 (ws S 2 : Int)) (y4 := .int .u64 (ws S 3 : Int)) (y5 := .slice none 0 0) HRES.out
            obtain ⟨r0, r1, r2, r3, r4, r5⟩ := cells6 zz
            rw [HE.out]
            refine bodyPost_ret (v := .agg #[.int .i64 3, .int .u64 (ws S 0 : Int), .int .u64 (ws S 1 : Int), .int .u64 (ws S 2 : Int), .int .u64 (ws S 3 : Int), .slice none 0 0]) ?_ rfl ?_
            · simp [results, Tryd.results108, go_sem, r0, r1, r2, r3, r4, r5]
            · have k1 := pk_six (x0 := .int .i64 3) (x1 := .int .u64 (ws S 0 : Int)) (x2 := .int .u64 (ws S 1 : Int)) (x3 := .int .u64 (ws S 2 : Int)) (x4 := .int .u64 (ws S 3 : Int)) (x5 := .slice none 0 0) F.out.1.pk
              have k2 := F.out.2.six (B := w.heap.size) (x0 := .int .i64 3) (x1 := .int .u64 (ws S 0 : Int)) (x2 := .int .u64 (ws S 1 : Int)) (x3 := .int .u64 (ws S 2 : Int)) (x4 := .int .u64 (ws S 3 : Int)) (x5 := .slice none 0 0) (by have := HC.out.1; omega)
              show BO pb s (.ok S t) w _ _
              exact ⟨k1, rfl, k2⟩
          · have hq93 : (nx l == 93) = false := by
              rw [← Bool.not_eq_true]; intro h
              cases l with
              | nil => simp [nx] at h
              | cons b t =>
                have : b.toNat = 93 := by simp [nx] at h; omega
                exact h93 ⟨t, by rw [show b = 93 from UInt8.toNat_inj.1 (by rw [this]; rfl)]⟩
            have hq93' : (nx l != 93) = true := by simp [bne, hq93]
            have HG := hid (at3_go hat (fun _ t ht => h93 ⟨t, ht⟩))
            have CX := hid (next_any pb s wr l false HB.out.2)
            clear hk hbx hrs hat h93
            go_wp2_with fail
            refine CX.out.mono ?_
            rintro e wr ⟨rfl, bx⟩
            have HB := hid (And.intro (HB.out.1.step HC.out.1 HC.out.2 (Pk.of bx)) (HB.out.2.below bx))
            clear bx z0 z1 z2
            obtain ⟨z0, z1, z2⟩ := HB.out.2.cells
            have CC := hid (char_any pb s wr true l HB.out.2)
            rw [show spc true = spI from rfl] at CC
            cases hc : chr spI l with
            | bad t =>
              rw [hc] at CC
              have HE := hid (show M = .bad t from HG.out.1 _ (elt_bad1 hc))
              have HT := hid (chr_bad_len hc)
              clear hc
              go_wp2_with fail
              refine CC.out.mono ?_
              rintro e QW ⟨hpk, rfl, hr⟩
              have Q := hid (And.intro (HB.out.1.step HC.out.1 HC.out.2 hpk) (And.intro hr True.intro))
              clear hpk hr
              obtain ⟨z0, z1, z2⟩ := Q.out.2.1.cells
              go_wp2_with fail
              obtain ⟨go, rfl⟩ : ∃ go, go = gk := ⟨_, rfl⟩
              go_loopg [9] 0 (fun kk s9 Vr => Vr = QW)
              case atStart => rfl
              case round =>
                obtain rfl := hrel
                go_wp2
                go_roundg (t.length)
                case measure => have := HK.out; have := HT.out; simp only [Bool.not_false, Bool.toNat_true] at *; omega
                case rel => exact ⟨false, true, S, t, rfl, by simp, Q.out.1, Q.out.2.1, at3_bad (HE.out)⟩
            | ok lo t =>
              rw [hc] at CC
              have HT := hid (chr_len hc)
              have HCC := hid hc
              clear hc
              have hlo8 := lo.toNat_lt
              go_wp2_with fail
              refine CC.out.mono ?_
              rintro e QW ⟨hpk, rfl, hr⟩
              have Q := hid (And.intro (HB.out.1.step HC.out.1 HC.out.2 hpk) hr)
              clear hpk hr
              obtain ⟨z0, z1, z2⟩ := Q.out.2.cells
              by_cases h45 : ∃ u, t = 45 :: u
              · obtain ⟨u, rfl⟩ := h45
                have CX := hid (next_b pb s QW 45 u false Q.out.2)
                go_wp2_with fail
                refine CX.out.mono ?_
                rintro e XW ⟨rfl, hr, bx⟩
                have X := hid (And.intro (Q.out.1.step HC.out.1 HC.out.2 (Pk.of bx)) hr)
                clear hr bx z0 z1 z2
                obtain ⟨z0, z1, z2⟩ := X.out.2.cells
                have f1 := Go.Frame.free X.out.2.box 1
                have hnx := X.out.2.next
                obtain ⟨p, hp⟩ : ∃ p, p = s.size - (45 :: u).length := ⟨_, rfl⟩
                obtain ⟨p', hp'⟩ : ∃ p', p' = s.size - u.length := ⟨_, rfl⟩
                rw [← hp] at z1 hnx
                rw [← hp'] at hnx
                have HP := hid hp'
                have hpb' : (p : Int) ≤ 1000000 := by have := X.out.2.sz; omega
                clear hp hp'
                go_upto_region 12 with fail
                obtain ⟨YW, hY⟩ : ∃ YW, YW = XW.setCell ⟨pb, 1, none⟩ (.int .i64 (p' : Int)) := ⟨_, rfl⟩
                have Y := hid (show BX3 pb w YW b4 S ∧ RS pb s YW u false from by rw [hY, HP.out]; exact ⟨X.out.1.put HC.out.1 HC.out.2, X.out.2.step⟩)
                rw [← hY]
                clear hY z0 z1 z2 f1
                obtain ⟨z0, z1, z2⟩ := Y.out.2.cells
                have C2 := hid (char_any pb s YW true u Y.out.2)
                rw [show spc true = spI from rfl] at C2
                cases hc2 : chr spI u with
                | bad v =>
                  rw [hc2] at C2
                  have HE := hid (show M = .bad v from HG.out.1 _ (elt_run1 HCC.out hc2))
                  have HT2 := hid (chr_bad_len hc2)
                  clear hc2
                  go_wp2_with fail
                  refine C2.out.mono ?_
                  rintro e RW ⟨hpk, rfl, hr⟩
                  have R := hid (And.intro (Y.out.1.step HC.out.1 HC.out.2 hpk) (And.intro hr True.intro))
                  clear hpk hr z0 z1 z2
                  obtain ⟨z0, z1, z2⟩ := R.out.2.1.cells
                  go_wp2_with fail
                  obtain ⟨go, rfl⟩ : ∃ go, go = gk := ⟨_, rfl⟩
                  go_loopg [9] 0 (fun kk s9 Vr => Vr = RW)
                  case atStart => rfl
                  case round =>
                    obtain rfl := hrel
                    go_wp2
                    go_roundg (v.length)
                    case measure => have := HK.out; have := HT.out; have := HT2.out; simp only [List.length_cons] at *; simp only [Bool.not_false, Bool.toNat_true] at *; omega
                    case rel => exact ⟨false, true, S, v, rfl, by simp, R.out.1, R.out.2.1, at3_bad (HE.out)⟩
                | ok hi v =>
                  rw [hc2] at C2
                  have HT2 := hid (chr_len hc2)
                  have HE0 := hid (elt_run2 HCC.out hc2)
                  have hhi8 := hi.toNat_lt
                  clear hc2
                  go_wp2_with fail
                  refine C2.out.mono ?_
                  rintro e RW ⟨hpk, rfl, hr⟩
                  have R := hid (And.intro (Y.out.1.step HC.out.1 HC.out.2 hpk) hr)
                  clear hpk hr z0 z1 z2
                  by_cases hl : hi < lo
                  · have hl' : (hi.toNat : Int) < (lo.toNat : Int) := by have := UInt8.lt_iff_toNat_lt.1 hl; omega
                    have HE := hid (show M = .bad u from HG.out.1 _ (by rw [HE0.out, if_pos hl]))
                    clear hl
                    obtain ⟨z0, z1, z2⟩ := R.out.2.cells
                    have f1 := Go.Frame.free R.out.2.box 1
                    have f2 := Go.Frame.free R.out.2.box 2
                    go_upto_region 17 with fail
                    obtain ⟨BW, hB⟩ : ∃ BW, BW = (RW.setCell ⟨pb, 2, none⟩ (.bool true)).setCell ⟨pb, 1, none⟩ (.int .i64 ((s.size - u.length : Nat) : Int)) := ⟨_, rfl⟩
                    have B := hid (show BX3 pb w BW b4 S ∧ RS pb s BW u true ∧ True from by rw [hB]; exact ⟨(R.out.1.put HC.out.1 HC.out.2).put HC.out.1 HC.out.2, RS.back R.out.2 Y.out.2, trivial⟩)
                    rw [← hB]
                    clear hB z0 z1 z2 f1 f2
                    obtain ⟨z0, z1, z2⟩ := B.out.2.1.cells
                    go_wp2_with fail
                    obtain ⟨go, rfl⟩ : ∃ go, go = gk := ⟨_, rfl⟩
                    go_loopg [9] 0 (fun kk s9 Vr => Vr = BW)
                    case atStart => rfl
                    case round =>
                      obtain rfl := hrel
                      go_wp2
                      go_roundg (u.length)
                      case measure => have := HK.out; have := HT.out; simp only [List.length_cons] at *; simp only [Bool.not_false, Bool.toNat_true] at *; omega
                      case rel => exact ⟨false, true, S, u, rfl, by simp, B.out.1, B.out.2.1, at3_bad (HE.out)⟩
                  · have hl0 : ¬ (hi.toNat : Int) < (lo.toNat : Int) := by intro h; exact hl (UInt8.lt_iff_toNat_lt.2 (by omega))
                    have hlq : decide (hi.toNat < lo.toNat) = false := by rw [decide_eq_false_iff_not]; omega
                    have hl' : decide ((hi.toNat : Int) < (lo.toNat : Int)) = false := by rw [decide_eq_false_iff_not]; omega
                    have HE := hid (show elt l = .ok (rng lo hi) v by rw [HE0.out, if_neg hl])
                    have HQ := hid (show BX3 pb w RW b4 S ∧ RS pb s RW v false ∧ lo.toNat ≤ hi.toNat from ⟨R.out.1, R.out.2, by omega⟩)
                    clear hl hl0
                    obtain ⟨z0, z1, z2⟩ := HQ.out.2.1.cells
                    go_wp2_with fail
                    obtain ⟨go, rfl⟩ : ∃ go, go = gk := ⟨_, rfl⟩
                    go_loopg [9] (hi.toNat + 1 - lo.toNat) (fun kk s9 Vr => ∃ b : Nat, s9 = .int .i64 (b : Int) ∧ b + kk = hi.toNat + 1 ∧ lo.toNat ≤ b ∧ BX3 pb w Vr b4 (upb S lo.toNat b) ∧ RS pb s Vr v false)
                    case atStart => exact ⟨lo.toNat, rfl, by have := HQ.out.2.2; omega, Nat.le_refl _, by rw [upb_start]; exact HQ.out.1, HQ.out.2.1⟩
                    case round =>
                      obtain ⟨b, rfl, hbk, hlo, hb1, hb2⟩ := hrel
                      obtain ⟨z0, z1, z2⟩ := hb2.cells
                      by_cases hbh : b ≤ hi.toNat
                      · have hbh' : (b : Int) ≤ (hi.toNat : Int) := by omega
                        have hb256 : b < 256 := by have := hi.toNat_lt; omega
                        have CX := hid (fun V => rWithB_any S lo.toNat b V hlo hb256)
                        obtain ⟨p0, p1, p2, p3⟩ := cells4 hb1.set
                        have HR := hid (And.intro hb1 (And.intro hb2 (And.intro hlo (And.intro hbk hb256))))
                        clear hb1 hb2 hlo hbk hbh
                        go_wp2_with fail
                        refine (CX.out _).mono ?_
                        rintro e X1 ⟨rfl, bx⟩
                        have HX1 := hid (And.intro (HR.out.1.step HC.out.1 HC.out.2 (Pk.of bx)) (HR.out.2.1.below bx))
                        obtain ⟨f0, f1, f2, f3⟩ := frozen4 HX1.out.1.set
                        obtain ⟨p0, p1, p2, p3⟩ := cells4 HX1.out.1.set
                        clear bx
                        go_wp2
                        go_roundg (gk - 1)
                        case measure => have := HR.out.2.2.2.1; omega
                        case rel => exact ⟨b + 1, by go_num, by have := HR.out.2.2.2.1; omega, by have := HR.out.2.2.1; omega, HX1.out.1.lay HC.out.2, HX1.out.2.far (by have := HC.out; omega)⟩
                      · have hbh' : ¬ (b : Int) ≤ (hi.toNat : Int) := by omega
                        obtain rfl : b = hi.toNat + 1 := by omega
                        have HR := hid (And.intro hb1 hb2)
                        clear hb1 hb2 hlo hbk hbh
                        go_wp2
                        go_roundg (v.length + 1)
                        case measure => have := HK.out; have := HT.out; have := HT2.out; simp only [List.length_cons] at *; simp only [Bool.not_false, Bool.toNat_true] at *; omega
                        case rel =>
                          have hE := HE.out
                          exact ⟨false, false, upb S lo.toNat (hi.toNat + 1), v, rfl, by simp, HR.out.1, HR.out.2, at3_ok (by rw [upb_end]; exact HG.out.2 _ _ hE)⟩
              · have hq45 : (nx t == 45) = false := by
                  rw [← Bool.not_eq_true]; intro h
                  cases t with
                  | nil => simp [nx] at h
                  | cons b t =>
                    have : b.toNat = 45 := by simp [nx] at h; omega
                    exact h45 ⟨t, by rw [show b = 45 from UInt8.toNat_inj.1 (by rw [this]; rfl)]⟩
                have HE := hid (elt_lone HCC.out (fun u hu => h45 ⟨u, hu⟩))
                have CX := hid (next_any pb s QW t false Q.out.2)
                clear h45
                go_wp2_with fail
                refine CX.out.mono ?_
                rintro e XW ⟨rfl, bx⟩
                have HQ := hid (show BX3 pb w XW b4 S ∧ RS pb s XW t false ∧ lo.toNat ≤ lo.toNat from ⟨Q.out.1.step HC.out.1 HC.out.2 (Pk.of bx), Q.out.2.below bx, Nat.le_refl _⟩)
                clear bx z0 z1 z2
                obtain ⟨z0, z1, z2⟩ := HQ.out.2.1.cells
                go_wp2_with fail
                obtain ⟨go, rfl⟩ : ∃ go, go = gk := ⟨_, rfl⟩
                go_loopg [9] (lo.toNat + 1 - lo.toNat) (fun kk s9 Vr => ∃ b : Nat, s9 = .int .i64 (b : Int) ∧ b + kk = lo.toNat + 1 ∧ lo.toNat ≤ b ∧ BX3 pb w Vr b4 (upb S lo.toNat b) ∧ RS pb s Vr t false)
                case atStart => exact ⟨lo.toNat, rfl, by have := HQ.out.2.2; omega, Nat.le_refl _, by rw [upb_start]; exact HQ.out.1, HQ.out.2.1⟩
                case round =>
                  obtain ⟨b, rfl, hbk, hlo, hb1, hb2⟩ := hrel
                  obtain ⟨z0, z1, z2⟩ := hb2.cells
                  by_cases hbh : b ≤ lo.toNat
                  · have hbh' : (b : Int) ≤ (lo.toNat : Int) := by omega
                    have hb256 : b < 256 := by have := lo.toNat_lt; omega
                    have CX := hid (fun V => rWithB_any S lo.toNat b V hlo hb256)
                    obtain ⟨p0, p1, p2, p3⟩ := cells4 hb1.set
                    have HR := hid (And.intro hb1 (And.intro hb2 (And.intro hlo (And.intro hbk hb256))))
                    clear hb1 hb2 hlo hbk hbh
                    go_wp2_with fail
                    refine (CX.out _).mono ?_
                    rintro e X1 ⟨rfl, bx⟩
                    have HX1 := hid (And.intro (HR.out.1.step HC.out.1 HC.out.2 (Pk.of bx)) (HR.out.2.1.below bx))
                    obtain ⟨f0, f1, f2, f3⟩ := frozen4 HX1.out.1.set
                    obtain ⟨p0, p1, p2, p3⟩ := cells4 HX1.out.1.set
                    clear bx
                    go_wp2
                    go_roundg (gk - 1)
                    case measure => have := HR.out.2.2.2.1; omega
                    case rel => exact ⟨b + 1, by go_num, by have := HR.out.2.2.2.1; omega, by have := HR.out.2.2.1; omega, HX1.out.1.lay HC.out.2, HX1.out.2.far (by have := HC.out; omega)⟩
                  · have hbh' : ¬ (b : Int) ≤ (lo.toNat : Int) := by omega
                    obtain rfl : b = lo.toNat + 1 := by omega
                    have HR := hid (And.intro hb1 hb2)
                    clear hb1 hb2 hlo hbk hbh
                    go_wp2
                    go_roundg (t.length + 1)
                    case measure => have := HK.out; have := HT.out; simp only [Bool.not_false, Bool.toNat_true] at *; omega
                    case rel =>
                      have hE := HE.out
                      exact ⟨false, false, upb S lo.toNat (lo.toNat + 1), t, rfl, by simp, HR.out.1, HR.out.2, at3_ok (by rw [upb_end]; exact HG.out.2 _ _ hE)⟩
        · have HG := hid (at3_go hat (fun h => by cases h))
          clear hk hbx hrs hat
          have CC := hid (char_any pb s wr true l HB.out.2)
          rw [show spc true = spI from rfl] at CC
          cases hc : chr spI l with
          | bad t =>
            rw [hc] at CC
            have HE := hid (show M = .bad t from HG.out.1 _ (elt_bad1 hc))
            have HT := hid (chr_bad_len hc)
            clear hc
            go_wp2_with fail
            refine CC.out.mono ?_
            rintro e QW ⟨hpk, rfl, hr⟩
            have Q := hid (And.intro (HB.out.1.step HC.out.1 HC.out.2 hpk) (And.intro hr True.intro))
            clear hpk hr
            obtain ⟨z0, z1, z2⟩ := Q.out.2.1.cells
            go_wp2_with fail
            obtain ⟨go, rfl⟩ : ∃ go, go = gk := ⟨_, rfl⟩
            go_loopg [9] 0 (fun kk s9 Vr => Vr = QW)
            case atStart => rfl
            case round =>
              obtain rfl := hrel
              go_wp2
              go_roundg (t.length)
              case measure => have := HK.out; have := HT.out; simp only [Bool.not_false, Bool.toNat_true] at *; omega
              case rel => exact ⟨false, true, S, t, rfl, by simp, Q.out.1, Q.out.2.1, at3_bad (HE.out)⟩
          | ok lo t =>
            rw [hc] at CC
            have HT := hid (chr_len hc)
            have HCC := hid hc
            clear hc
            have hlo8 := lo.toNat_lt
            go_wp2_with fail
            refine CC.out.mono ?_
            rintro e QW ⟨hpk, rfl, hr⟩
            have Q := hid (And.intro (HB.out.1.step HC.out.1 HC.out.2 hpk) hr)
            clear hpk hr
            obtain ⟨z0, z1, z2⟩ := Q.out.2.cells
            by_cases h45 : ∃ u, t = 45 :: u
            · obtain ⟨u, rfl⟩ := h45
              have CX := hid (next_b pb s QW 45 u false Q.out.2)
              go_wp2_with fail
              refine CX.out.mono ?_
              rintro e XW ⟨rfl, hr, bx⟩
              have X := hid (And.intro (Q.out.1.step HC.out.1 HC.out.2 (Pk.of bx)) hr)
              clear hr bx z0 z1 z2
              obtain ⟨z0, z1, z2⟩ := X.out.2.cells
              have f1 := Go.Frame.free X.out.2.box 1
              have hnx := X.out.2.next
              obtain ⟨p, hp⟩ : ∃ p, p = s.size - (45 :: u).length := ⟨_, rfl⟩
              obtain ⟨p', hp'⟩ : ∃ p', p' = s.size - u.length := ⟨_, rfl⟩
              rw [← hp] at z1 hnx
              rw [← hp'] at hnx
              have HP := hid hp'
              have hpb' : (p : Int) ≤ 1000000 := by have := X.out.2.sz; omega
              clear hp hp'
              go_upto_region 12 with fail
              obtain ⟨YW, hY⟩ : ∃ YW, YW = XW.setCell ⟨pb, 1, none⟩ (.int .i64 (p' : Int)) := ⟨_, rfl⟩
              have Y := hid (show BX3 pb w YW b4 S ∧ RS pb s YW u false from by rw [hY, HP.out]; exact ⟨X.out.1.put HC.out.1 HC.out.2, X.out.2.step⟩)
              rw [← hY]
              clear hY z0 z1 z2 f1
              obtain ⟨z0, z1, z2⟩ := Y.out.2.cells
              have C2 := hid (char_any pb s YW true u Y.out.2)
              rw [show spc true = spI from rfl] at C2
              cases hc2 : chr spI u with
              | bad v =>
                rw [hc2] at C2
                have HE := hid (show M = .bad v from HG.out.1 _ (elt_run1 HCC.out hc2))
                have HT2 := hid (chr_bad_len hc2)
                clear hc2
                go_wp2_with fail
                refine C2.out.mono ?_
                rintro e RW ⟨hpk, rfl, hr⟩
                have R := hid (And.intro (Y.out.1.step HC.out.1 HC.out.2 hpk) (And.intro hr True.intro))
                clear hpk hr z0 z1 z2
                obtain ⟨z0, z1, z2⟩ := R.out.2.1.cells
                go_wp2_with fail
                obtain ⟨go, rfl⟩ : ∃ go, go = gk := ⟨_, rfl⟩
                go_loopg [9] 0 (fun kk s9 Vr => Vr = RW)
                case atStart => rfl
                case round =>
                  obtain rfl := hrel
                  go_wp2
                  go_roundg (v.length)
                  case measure => have := HK.out; have := HT.out; have := HT2.out; simp only [List.length_cons] at *; simp only [Bool.not_false, Bool.toNat_true] at *; omega
                  case rel => exact ⟨false, true, S, v, rfl, by simp, R.out.1, R.out.2.1, at3_bad (HE.out)⟩
              | ok hi v =>
                rw [hc2] at C2
                have HT2 := hid (chr_len hc2)
                have HE0 := hid (elt_run2 HCC.out hc2)
                have hhi8 := hi.toNat_lt
                clear hc2
                go_wp2_with fail
                refine C2.out.mono ?_
                rintro e RW ⟨hpk, rfl, hr⟩
                have R := hid (And.intro (Y.out.1.step HC.out.1 HC.out.2 hpk) hr)
                clear hpk hr z0 z1 z2
                by_cases hl : hi < lo
                · have hl' : (hi.toNat : Int) < (lo.toNat : Int) := by have := UInt8.lt_iff_toNat_lt.1 hl; omega
                  have HE := hid (show M = .bad u from HG.out.1 _ (by rw [HE0.out, if_pos hl]))
                  clear hl
                  obtain ⟨z0, z1, z2⟩ := R.out.2.cells
                  have f1 := Go.Frame.free R.out.2.box 1
                  have f2 := Go.Frame.free R.out.2.box 2
                  go_upto_region 17 with fail
                  obtain ⟨BW, hB⟩ : ∃ BW, BW = (RW.setCell ⟨pb, 2, none⟩ (.bool true)).setCell ⟨pb, 1, none⟩ (.int .i64 ((s.size - u.length : Nat) : Int)) := ⟨_, rfl⟩
                  have B := hid (show BX3 pb w BW b4 S ∧ RS pb s BW u true ∧ True from by rw [hB]; exact ⟨(R.out.1.put HC.out.1 HC.out.2).put HC.out.1 HC.out.2, RS.back R.out.2 Y.out.2, trivial⟩)
                  rw [← hB]
                  clear hB z0 z1 z2 f1 f2
                  obtain ⟨z0, z1, z2⟩ := B.out.2.1.cells
                  go_wp2_with fail
                  obtain ⟨go, rfl⟩ : ∃ go, go = gk := ⟨_, rfl⟩
                  go_loopg [9] 0 (fun kk s9 Vr => Vr = BW)
                  case atStart => rfl
                  case round =>
                    obtain rfl := hrel
                    go_wp2
                    go_roundg (u.length)
                    case measure => have := HK.out; have := HT.out; simp only [List.length_cons] at *; simp only [Bool.not_false, Bool.toNat_true] at *; omega
                    case rel => exact ⟨false, true, S, u, rfl, by simp, B.out.1, B.out.2.1, at3_bad (HE.out)⟩
                · have hl0 : ¬ (hi.toNat : Int) < (lo.toNat : Int) := by intro h; exact hl (UInt8.lt_iff_toNat_lt.2 (by omega))
                  have hlq : decide (hi.toNat < lo.toNat) = false := by rw [decide_eq_false_iff_not]; omega
                  have hl' : decide ((hi.toNat : Int) < (lo.toNat : Int)) = false := by rw [decide_eq_false_iff_not]; omega
                  have HE := hid (show elt l = .ok (rng lo hi) v by rw [HE0.out, if_neg hl])
                  have HQ := hid (show BX3 pb w RW b4 S ∧ RS pb s RW v false ∧ lo.toNat ≤ hi.toNat from ⟨R.out.1, R.out.2, by omega⟩)
                  clear hl hl0
                  obtain ⟨z0, z1, z2⟩ := HQ.out.2.1.cells
                  go_wp2_with fail
                  obtain ⟨go, rfl⟩ : ∃ go, go = gk := ⟨_, rfl⟩
                  go_loopg [9] (hi.toNat + 1 - lo.toNat) (fun kk s9 Vr => ∃ b : Nat, s9 = .int .i64 (b : Int) ∧ b + kk = hi.toNat + 1 ∧ lo.toNat ≤ b ∧ BX3 pb w Vr b4 (upb S lo.toNat b) ∧ RS pb s Vr v false)
                  case atStart => exact ⟨lo.toNat, rfl, by have := HQ.out.2.2; omega, Nat.le_refl _, by rw [upb_start]; exact HQ.out.1, HQ.out.2.1⟩
                  case round =>
                    obtain ⟨b, rfl, hbk, hlo, hb1, hb2⟩ := hrel
                    obtain ⟨z0, z1, z2⟩ := hb2.cells
                    by_cases hbh : b ≤ hi.toNat
                    · have hbh' : (b : Int) ≤ (hi.toNat : Int) := by omega
                      have hb256 : b < 256 := by have := hi.toNat_lt; omega
                      have CX := hid (fun V => rWithB_any S lo.toNat b V hlo hb256)
                      obtain ⟨p0, p1, p2, p3⟩ := cells4 hb1.set
                      have HR := hid (And.intro hb1 (And.intro hb2 (And.intro hlo (And.intro hbk hb256))))
                      clear hb1 hb2 hlo hbk hbh
                      go_wp2_with fail
                      refine (CX.out _).mono ?_
                      rintro e X1 ⟨rfl, bx⟩
                      have HX1 := hid (And.intro (HR.out.1.step HC.out.1 HC.out.2 (Pk.of bx)) (HR.out.2.1.below bx))
                      obtain ⟨f0, f1, f2, f3⟩ := frozen4 HX1.out.1.set
                      obtain ⟨p0, p1, p2, p3⟩ := cells4 HX1.out.1.set
                      clear bx
                      go_wp2
                      go_roundg (gk - 1)
                      case measure => have := HR.out.2.2.2.1; omega
                      case rel => exact ⟨b + 1, by go_num, by have := HR.out.2.2.2.1; omega, by have := HR.out.2.2.1; omega, HX1.out.1.lay HC.out.2, HX1.out.2.far (by have := HC.out; omega)⟩
                    · have hbh' : ¬ (b : Int) ≤ (hi.toNat : Int) := by omega
                      obtain rfl : b = hi.toNat + 1 := by omega
                      have HR := hid (And.intro hb1 hb2)
                      clear hb1 hb2 hlo hbk hbh
                      go_wp2
                      go_roundg (v.length + 1)
                      case measure => have := HK.out; have := HT.out; have := HT2.out; simp only [List.length_cons] at *; simp only [Bool.not_false, Bool.toNat_true] at *; omega
                      case rel =>
                        have hE := HE.out
                        exact ⟨false, false, upb S lo.toNat (hi.toNat + 1), v, rfl, by simp, HR.out.1, HR.out.2, at3_ok (by rw [upb_end]; exact HG.out.2 _ _ hE)⟩
            · have hq45 : (nx t == 45) = false := by
                rw [← Bool.not_eq_true]; intro h
                cases t with
                | nil => simp [nx] at h
                | cons b t =>
                  have : b.toNat = 45 := by simp [nx] at h; omega
                  exact h45 ⟨t, by rw [show b = 45 from UInt8.toNat_inj.1 (by rw [this]; rfl)]⟩
              have HE := hid (elt_lone HCC.out (fun u hu => h45 ⟨u, hu⟩))
              have CX := hid (next_any pb s QW t false Q.out.2)
              clear h45
              go_wp2_with fail
              refine CX.out.mono ?_
              rintro e XW ⟨rfl, bx⟩
              have HQ := hid (show BX3 pb w XW b4 S ∧ RS pb s XW t false ∧ lo.toNat ≤ lo.toNat from ⟨Q.out.1.step HC.out.1 HC.out.2 (Pk.of bx), Q.out.2.below bx, Nat.le_refl _⟩)
              clear bx z0 z1 z2
              obtain ⟨z0, z1, z2⟩ := HQ.out.2.1.cells
              go_wp2_with fail
              obtain ⟨go, rfl⟩ : ∃ go, go = gk := ⟨_, rfl⟩
              go_loopg [9] (lo.toNat + 1 - lo.toNat) (fun kk s9 Vr => ∃ b : Nat, s9 = .int .i64 (b : Int) ∧ b + kk = lo.toNat + 1 ∧ lo.toNat ≤ b ∧ BX3 pb w Vr b4 (upb S lo.toNat b) ∧ RS pb s Vr t false)
              case atStart => exact ⟨lo.toNat, rfl, by have := HQ.out.2.2; omega, Nat.le_refl _, by rw [upb_start]; exact HQ.out.1, HQ.out.2.1⟩
              case round =>
                obtain ⟨b, rfl, hbk, hlo, hb1, hb2⟩ := hrel
                obtain ⟨z0, z1, z2⟩ := hb2.cells
                by_cases hbh : b ≤ lo.toNat
                · have hbh' : (b : Int) ≤ (lo.toNat : Int) := by omega
                  have hb256 : b < 256 := by have := lo.toNat_lt; omega
                  have CX := hid (fun V => rWithB_any S lo.toNat b V hlo hb256)
                  obtain ⟨p0, p1, p2, p3⟩ := cells4 hb1.set
                  have HR := hid (And.intro hb1 (And.intro hb2 (And.intro hlo (And.intro hbk hb256))))
                  clear hb1 hb2 hlo hbk hbh
                  go_wp2_with fail
                  refine (CX.out _).mono ?_
                  rintro e X1 ⟨rfl, bx⟩
                  have HX1 := hid (And.intro (HR.out.1.step HC.out.1 HC.out.2 (Pk.of bx)) (HR.out.2.1.below bx))
                  obtain ⟨f0, f1, f2, f3⟩ := frozen4 HX1.out.1.set
                  obtain ⟨p0, p1, p2, p3⟩ := cells4 HX1.out.1.set
                  clear bx
                  go_wp2
                  go_roundg (gk - 1)
                  case measure => have := HR.out.2.2.2.1; omega
                  case rel => exact ⟨b + 1, by go_num, by have := HR.out.2.2.2.1; omega, by have := HR.out.2.2.1; omega, HX1.out.1.lay HC.out.2, HX1.out.2.far (by have := HC.out; omega)⟩
                · have hbh' : ¬ (b : Int) ≤ (lo.toNat : Int) := by omega
                  obtain rfl : b = lo.toNat + 1 := by omega
                  have HR := hid (And.intro hb1 hb2)
                  clear hb1 hb2 hlo hbk hbh
                  go_wp2
                  go_roundg (t.length + 1)
                  case measure => have := HK.out; have := HT.out; simp only [Bool.not_false, Bool.toNat_true] at *; omega
                  case rel =>
                    have hE := HE.out
                    exact ⟨false, false, upb S lo.toNat (lo.toNat + 1), t, rfl, by simp, HR.out.1, HR.out.2, at3_ok (by rw [upb_end]; exact HG.out.2 _ _ hE)⟩
      · have HE := hid (show M = .bad l by unfold At3 at hat; rw [if_pos rfl] at hat; exact hat)
        obtain ⟨r0, r1, r2, r3, r4, r5⟩ := cells6 hbx.res
        have f0 := Go.Frame.free hbx.res 0
        have f1 := Go.Frame.free hbx.res 1
        have f2 := Go.Frame.free hbx.res 2
        have f3 := Go.Frame.free hbx.res 3
        have f4 := Go.Frame.free hbx.res 4
        have f5 := Go.Frame.free hbx.res 5
        have HRES := hid hbx.res
        clear hk hbx hrs hat
        go_wp2
        have zz := six_set (y0 := .int .i64 0) (y1 := .int .u64 0) (y2 := .int .u64 0) (y3 := .int .u64 0) (y4 := .int .u64 0) (y5 := .slice none 0 0) HRES.out
        obtain ⟨q0, q1, q2, q3, q4, q5⟩ := cells6 zz
        rw [HE.out]
        refine bodyPost_ret (v := .agg #[.int .i64 0, .int .u64 0, .int .u64 0, .int .u64 0, .int .u64 0, .slice none 0 0]) ?_ rfl ?_
        · simp [results, Tryd.results108, go_sem, q0, q1, q2, q3, q4, q5]
        · have k1 := pk_six (x0 := .int .i64 0) (x1 := .int .u64 0) (x2 := .int .u64 0) (x3 := .int .u64 0) (x4 := .int .u64 0) (x5 := .slice none 0 0) HB.out.1.pk
          have k2 := HB.out.2.six (B := w.heap.size) (x0 := .int .i64 0) (x1 := .int .u64 0) (x2 := .int .u64 0) (x3 := .int .u64 0) (x4 := .int .u64 0) (x5 := .slice none 0 0) (by have := HC.out.1; omega)
          show BO pb s (.bad l) w _ _
          exact ⟨k1, rfl, k2⟩
  · obtain rfl : l0 = 94 :: l1 := HL.out.1
    have hnx := H1.out.2.2.next
    obtain ⟨z0, z1, z2⟩ := H1.out.2.2.cells
    have f1 := Go.Frame.free H1.out.2.2.box 1
    obtain ⟨p, hp⟩ : ∃ p, p = s.size - ((94 : UInt8) :: l1).length := ⟨_, rfl⟩
    obtain ⟨p', hp'⟩ : ∃ p', p' = s.size - l1.length := ⟨_, rfl⟩
    rw [← hp] at z1 hnx
    rw [← hp'] at hnx
    have HP := hid hp'
    have hpb' : (p : Int) ≤ 1000000 := by have := H1.out.2.2.sz; omega
    clear hp hp'
    go_upto_region 4 with fail
    obtain ⟨V0, hV0⟩ : ∃ V, V = W1.setCell ⟨pb, 1, none⟩ (.int .i64 (p' : Int)) := ⟨_, rfl⟩
    have H2 := hid (show V0.heap[w.heap.size]? = some (.cells #[.int .i64 0, .int .u64 0, .int .u64 0, .int .u64 0, .int .u64 0, .slice none 0 0] 27 (0, 0)) ∧ Pk pb w V0 ∧ RS pb s V0 l1 false from by
      rw [hV0, HP.out]
      exact ⟨blk_set H1.out.1 (by show w.heap.size ≠ pb; omega), H1.out.2.1.put, H1.out.2.2.step⟩)
    rw [← hV0]
    clear hV0 z0 z1 z2 f1
    go_wp2_with fail
    obtain ⟨V4, hV4⟩ : ∃ V, V = V0.alloc (.cells #[.int .u64 0, .int .u64 0, .int .u64 0, .int .u64 0] 24) := ⟨_, rfl⟩
    obtain ⟨b4, hb4⟩ : ∃ b, b = V0.heap.size := ⟨_, rfl⟩
    have H4 := hid (show BX3 pb w V4 b4 none8 ∧ RS pb s V4 l1 false ∧ w.heap.size < b4 from by
      have hbl : Below V0.heap.size V0 V4 := by rw [hV4]; exact bel1 _ _
      refine ⟨⟨(hbl.block _ (heap_lt H2.out.1)).trans H2.out.1, ?_, H2.out.2.1.trans (Pk.of hbl)⟩, H2.out.2.2.below hbl, hb4 ▸ heap_lt H2.out.1⟩
      rw [hV4, hb4, ws_none, ws_none, ws_none, ws_none]; exact alloc_new _ _)
    rw [← hV4, ← hb4]
    clear hV4 hb4
    go_loopg [5] (l1.length + 1) (fun kk s5 wr => ∃ (first bad : Bool) (S : BS) (l : List UInt8), s5 = .bool first ∧ kk = l.length + (!bad).toNat ∧ BX3 pb w wr b4 S ∧ RS pb s wr l bad ∧ At3 M first bad S l)
    case atStart => exact ⟨true, false, none8, l1, rfl, rfl, H4.out.1, H4.out.2.1, by unfold At3; rw [if_neg (by simp), if_pos rfl]; exact ⟨rfl, HM.out⟩⟩
    case round =>
      obtain ⟨first, bad, S, l, rfl, hk, hbx, hrs, hat⟩ := hrel
      have HC := hid (And.intro hpb H4.out.2.2)
      obtain ⟨z0, z1, z2⟩ := hrs.cells
      have HK := hid hk
      have HB := hid (And.intro hbx hrs)
      cases bad
      · cases first
        · by_cases h93 : ∃ t, l = 93 :: t
          · obtain ⟨t, rfl⟩ := h93
            have CX := hid (next_b pb s wr 93 t false HB.out.2)
            have HE := hid (at3_end hat)
            clear hk hbx hrs hat
            go_wp2_with fail
            refine CX.out.mono ?_
            rintro e EW ⟨rfl, hr, bx⟩
            have E := hid (And.intro (HB.out.1.step HC.out.1 HC.out.2 (Pk.of bx)) hr)
            clear hr bx z0 z1 z2
            obtain ⟨z0, z1, z2⟩ := E.out.2.cells
            have f1 := Go.Frame.free E.out.2.box 1
            have hnx := E.out.2.next
            obtain ⟨p, hp⟩ : ∃ p, p = s.size - ((93 : UInt8) :: t).length := ⟨_, rfl⟩
            obtain ⟨p', hp'⟩ : ∃ p', p' = s.size - t.length := ⟨_, rfl⟩
            rw [← hp] at z1 hnx
            rw [← hp'] at hnx
            have HP := hid hp'
            have hpb' : (p : Int) ≤ 1000000 := by have := E.out.2.sz; omega
            clear hp hp'
            go_upto_region 25 with fail
            obtain ⟨FW, hF⟩ : ∃ FW, FW = EW.setCell ⟨pb, 1, none⟩ (.int .i64 (p' : Int)) := ⟨_, rfl⟩
            have F := hid (show BX3 pb w FW b4 S ∧ RS pb s FW t false from by rw [hF, HP.out]; exact ⟨E.out.1.put HC.out.1 HC.out.2, E.out.2.step⟩)
            rw [← hF]
            clear hF z0 z1 z2 f1
            have CX2 := hid (fun V => rNotB_any S V)
            obtain ⟨p0, p1, p2, p3⟩ := cells4 F.out.1.set
            go_wp2_with fail
            refine (CX2.out _).mono ?_
            rintro e GW ⟨rfl, bx⟩
            have G := hid (And.intro (F.out.1.step HC.out.1 HC.out.2 (Pk.of bx)) (F.out.2.below bx))
            clear bx p0 p1 p2 p3
            obtain ⟨p0, p1, p2, p3⟩ := cells4 G.out.1.set
            obtain ⟨f0, f1, f2, f3⟩ := frozen4 G.out.1.set
            go_upto_region 26 with fail
            obtain ⟨LW, hLW⟩ : ∃ LW, LW = ((((GW.setCell ⟨b4, 0, none⟩ (.int .u64 (ws (cpl S) 0 : Int))).setCell ⟨b4, 1, none⟩ (.int .u64 (ws (cpl S) 1 : Int))).setCell ⟨b4, 2, none⟩ (.int .u64 (ws (cpl S) 2 : Int))).setCell ⟨b4, 3, none⟩ (.int .u64 (ws (cpl S) 3 : Int))) := ⟨_, rfl⟩
            have F := hid (show BX3 pb w LW b4 (cpl S) ∧ RS pb s LW t false from by rw [hLW]; exact ⟨G.out.1.lay HC.out.2, G.out.2.far (by have := HC.out; omega)⟩)
            rw [← hLW]
            clear hLW p0 p1 p2 p3 f0 f1 f2 f3
            have hres := F.out.1.res
            have HRES := hid hres
            obtain ⟨g0, g1, g2, g3, g4, g5⟩ := cells6 hres
            obtain ⟨p0, p1, p2, p3⟩ := cells4 F.out.1.set
            have f0 := Go.Frame.free hres 0
            have f1 := Go.Frame.free hres 1
            have f2 := Go.Frame.free hres 2
            have f3 := Go.Frame.free hres 3
            have f4 := Go.Frame.free hres 4
            have f5 := Go.Frame.free hres 5
            clear hres
            go_wp2
            have zz := six_set (y0 := .int .i64 3) (y1 := .int .u64 (ws (cpl S) 0 : Int)) (y2 := .int .u64 (ws (cpl S) 1 : Int)) (y3 := .int .u64 (ws (cpl S) 2 : Int)) (y4 := .int .u64 (ws (cpl S) 3 : Int)) (y5 := .slice none 0 0) HRES.out
            obtain ⟨r0, r1, r2, r3, r4, r5⟩ := cells6 zz
            rw [HE.out]
            refine bodyPost_ret (v := .agg #[.int .i64 3, .int .u64 (ws (cpl S) 0 : Int), .int .u64 (ws (cpl S) 1 : Int), .int .u64 (ws (cpl S) 2 : Int), .int .u64 (ws (cpl S) 3 : Int), .slice none 0 0]) ?_ rfl ?_
            · simp [results, Tryd.results108, go_sem, r0, r1, r2, r3, r4, r5]
            · have k1 := pk_six (x0 := .int .i64 3) (x1 := .int .u64 (ws (cpl S) 0 : Int)) (x2 := .int .u64 (ws (cpl S) 1 : Int)) (x3 := .int .u64 (ws (cpl S) 2 : Int)) (x4 := .int .u64 (ws (cpl S) 3 : Int)) (x5 := .slice none 0 0) F.out.1.pk
              have k2 := F.out.2.six (B := w.heap.size) (x0 := .int .i64 3) (x1 := .int .u64 (ws (cpl S) 0 : Int)) (x2 := .int .u64 (ws (cpl S) 1 : Int)) (x3 := .int .u64 (ws (cpl S) 2 : Int)) (x4 := .int .u64 (ws (cpl S) 3 : Int)) (x5 := .slice none 0 0) (by have := HC.out.1; omega)
              show BO pb s (.ok (cpl S) t) w _ _
              exact ⟨k1, rfl, k2⟩
          · have hq93 : (nx l == 93) = false := by
              rw [← Bool.not_eq_true]; intro h
              cases l with
              | nil => simp [nx] at h
              | cons b t =>
                have : b.toNat = 93 := by simp [nx] at h; omega
                exact h93 ⟨t, by rw [show b = 93 from UInt8.toNat_inj.1 (by rw [this]; rfl)]⟩
            have hq93' : (nx l != 93) = true := by simp [bne, hq93]
            have HG := hid (at3_go hat (fun _ t ht => h93 ⟨t, ht⟩))
            have CX := hid (next_any pb s wr l false HB.out.2)
            clear hk hbx hrs hat h93
            go_wp2_with fail
            refine CX.out.mono ?_
            rintro e wr ⟨rfl, bx⟩
            have HB := hid (And.intro (HB.out.1.step HC.out.1 HC.out.2 (Pk.of bx)) (HB.out.2.below bx))
            clear bx z0 z1 z2
            obtain ⟨z0, z1, z2⟩ := HB.out.2.cells
            have CC := hid (char_any pb s wr true l HB.out.2)
            rw [show spc true = spI from rfl] at CC
            cases hc : chr spI l with
            | bad t =>
              rw [hc] at CC
              have HE := hid (show M = .bad t from HG.out.1 _ (elt_bad1 hc))
              have HT := hid (chr_bad_len hc)
              clear hc
              go_wp2_with fail
              refine CC.out.mono ?_
              rintro e QW ⟨hpk, rfl, hr⟩
              have Q := hid (And.intro (HB.out.1.step HC.out.1 HC.out.2 hpk) (And.intro hr True.intro))
              clear hpk hr
              obtain ⟨z0, z1, z2⟩ := Q.out.2.1.cells
              go_wp2_with fail
              obtain ⟨go, rfl⟩ : ∃ go, go = gk := ⟨_, rfl⟩
              go_loopg [9] 0 (fun kk s9 Vr => Vr = QW)
              case atStart => rfl
              case round =>
                obtain rfl := hrel
                go_wp2
                go_roundg (t.length)
                case measure => have := HK.out; have := HT.out; simp only [Bool.not_false, Bool.toNat_true] at *; omega
                case rel => exact ⟨false, true, S, t, rfl, by simp, Q.out.1, Q.out.2.1, at3_bad (HE.out)⟩
            | ok lo t =>
              rw [hc] at CC
              have HT := hid (chr_len hc)
              have HCC := hid hc
              clear hc
              have hlo8 := lo.toNat_lt
              go_wp2_with fail
              refine CC.out.mono ?_
              rintro e QW ⟨hpk, rfl, hr⟩
              have Q := hid (And.intro (HB.out.1.step HC.out.1 HC.out.2 hpk) hr)
              clear hpk hr
              obtain ⟨z0, z1, z2⟩ := Q.out.2.cells
              by_cases h45 : ∃ u, t = 45 :: u
              · obtain ⟨u, rfl⟩ := h45
                have CX := hid (next_b pb s QW 45 u false Q.out.2)
                go_wp2_with fail
                refine CX.out.mono ?_
                rintro e XW ⟨rfl, hr, bx⟩
                have X := hid (And.intro (Q.out.1.step HC.out.1 HC.out.2 (Pk.of bx)) hr)
                clear hr bx z0 z1 z2
                obtain ⟨z0, z1, z2⟩ := X.out.2.cells
                have f1 := Go.Frame.free X.out.2.box 1
                have hnx := X.out.2.next
                obtain ⟨p, hp⟩ : ∃ p, p = s.size - (45 :: u).length := ⟨_, rfl⟩
                obtain ⟨p', hp'⟩ : ∃ p', p' = s.size - u.length := ⟨_, rfl⟩
                rw [← hp] at z1 hnx
                rw [← hp'] at hnx
                have HP := hid hp'
                have hpb' : (p : Int) ≤ 1000000 := by have := X.out.2.sz; omega
                clear hp hp'
                go_upto_region 12 with fail
                obtain ⟨YW, hY⟩ : ∃ YW, YW = XW.setCell ⟨pb, 1, none⟩ (.int .i64 (p' : Int)) := ⟨_, rfl⟩
                have Y := hid (show BX3 pb w YW b4 S ∧ RS pb s YW u false from by rw [hY, HP.out]; exact ⟨X.out.1.put HC.out.1 HC.out.2, X.out.2.step⟩)
                rw [← hY]
                clear hY z0 z1 z2 f1
                obtain ⟨z0, z1, z2⟩ := Y.out.2.cells
                have C2 := hid (char_any pb s YW true u Y.out.2)
                rw [show spc true = spI from rfl] at C2
                cases hc2 : chr spI u with
                | bad v =>
                  rw [hc2] at C2
                  have HE := hid (show M = .bad v from HG.out.1 _ (elt_run1 HCC.out hc2))
                  have HT2 := hid (chr_bad_len hc2)
                  clear hc2
                  go_wp2_with fail
                  refine C2.out.mono ?_
                  rintro e RW ⟨hpk, rfl, hr⟩
                  have R := hid (And.intro (Y.out.1.step HC.out.1 HC.out.2 hpk) (And.intro hr True.intro))
                  clear hpk hr z0 z1 z2
                  obtain ⟨z0, z1, z2⟩ := R.out.2.1.cells
                  go_wp2_with fail
                  obtain ⟨go, rfl⟩ : ∃ go, go = gk := ⟨_, rfl⟩
                  go_loopg [9] 0 (fun kk s9 Vr => Vr = RW)
                  case atStart => rfl
                  case round =>
                    obtain rfl := hrel
                    go_wp2
                    go_roundg (v.length)
                    case measure => have := HK.out; have := HT.out; have := HT2.out; simp only [List.length_cons] at *; simp only [Bool.not_false, Bool.toNat_true] at *; omega
                    case rel => exact ⟨false, true, S, v, rfl, by simp, R.out.1, R.out.2.1, at3_bad (HE.out)⟩
                | ok hi v =>
                  rw [hc2] at C2
                  have HT2 := hid (chr_len hc2)
                  have HE0 := hid (elt_run2 HCC.out hc2)
                  have hhi8 := hi.toNat_lt
                  clear hc2
                  go_wp2_with fail
                  refine C2.out.mono ?_
                  rintro e RW ⟨hpk, rfl, hr⟩
                  have R := hid (And.intro (Y.out.1.step HC.out.1 HC.out.2 hpk) hr)
                  clear hpk hr z0 z1 z2
                  by_cases hl : hi < lo
                  · have hl' : (hi.toNat : Int) < (lo.toNat : Int) := by have := UInt8.lt_iff_toNat_lt.1 hl; omega
                    have HE := hid (show M = .bad u from HG.out.1 _ (by rw [HE0.out, if_pos hl]))
                    clear hl
                    obtain ⟨z0, z1, z2⟩ := R.out.2.cells
                    have f1 := Go.Frame.free R.out.2.box 1
                    have f2 := Go.Frame.free R.out.2.box 2
                    go_upto_region 17 with fail
                    obtain ⟨BW, hB⟩ : ∃ BW, BW = (RW.setCell ⟨pb, 2, none⟩ (.bool true)).setCell ⟨pb, 1, none⟩ (.int .i64 ((s.size - u.length : Nat) : Int)) := ⟨_, rfl⟩
                    have B := hid (show BX3 pb w BW b4 S ∧ RS pb s BW u true ∧ True from by rw [hB]; exact ⟨(R.out.1.put HC.out.1 HC.out.2).put HC.out.1 HC.out.2, RS.back R.out.2 Y.out.2, trivial⟩)
                    rw [← hB]
                    clear hB z0 z1 z2 f1 f2
                    obtain ⟨z0, z1, z2⟩ := B.out.2.1.cells
                    go_wp2_with fail
                    obtain ⟨go, rfl⟩ : ∃ go, go = gk := ⟨_, rfl⟩
                    go_loopg [9] 0 (fun kk s9 Vr => Vr = BW)
                    case atStart => rfl
                    case round =>
                      obtain rfl := hrel
                      go_wp2
                      go_roundg (u.length)
                      case measure => have := HK.out; have := HT.out; simp only [List.length_cons] at *; simp only [Bool.not_false, Bool.toNat_true] at *; omega
                      case rel => exact ⟨false, true, S, u, rfl, by simp, B.out.1, B.out.2.1, at3_bad (HE.out)⟩
                  · have hl0 : ¬ (hi.toNat : Int) < (lo.toNat : Int) := by intro h; exact hl (UInt8.lt_iff_toNat_lt.2 (by omega))
                    have hlq : decide (hi.toNat < lo.toNat) = false := by rw [decide_eq_false_iff_not]; omega
                    have hl' : decide ((hi.toNat : Int) < (lo.toNat : Int)) = false := by rw [decide_eq_false_iff_not]; omega
                    have HE := hid (show elt l = .ok (rng lo hi) v by rw [HE0.out, if_neg hl])
                    have HQ := hid (show BX3 pb w RW b4 S ∧ RS pb s RW v false ∧ lo.toNat ≤ hi.toNat from ⟨R.out.1, R.out.2, by omega⟩)
                    clear hl hl0
                    obtain ⟨z0, z1, z2⟩ := HQ.out.2.1.cells
                    go_wp2_with fail
                    obtain ⟨go, rfl⟩ : ∃ go, go = gk := ⟨_, rfl⟩
                    go_loopg [9] (hi.toNat + 1 - lo.toNat) (fun kk s9 Vr => ∃ b : Nat, s9 = .int .i64 (b : Int) ∧ b + kk = hi.toNat + 1 ∧ lo.toNat ≤ b ∧ BX3 pb w Vr b4 (upb S lo.toNat b) ∧ RS pb s Vr v false)
                    case atStart => exact ⟨lo.toNat, rfl, by have := HQ.out.2.2; omega, Nat.le_refl _, by rw [upb_start]; exact HQ.out.1, HQ.out.2.1⟩
                    case round =>
                      obtain ⟨b, rfl, hbk, hlo, hb1, hb2⟩ := hrel
                      obtain ⟨z0, z1, z2⟩ := hb2.cells
                      by_cases hbh : b ≤ hi.toNat
                      · have hbh' : (b : Int) ≤ (hi.toNat : Int) := by omega
                        have hb256 : b < 256 := by have := hi.toNat_lt; omega
                        have CX := hid (fun V => rWithB_any S lo.toNat b V hlo hb256)
                        obtain ⟨p0, p1, p2, p3⟩ := cells4 hb1.set
                        have HR := hid (And.intro hb1 (And.intro hb2 (And.intro hlo (And.intro hbk hb256))))
                        clear hb1 hb2 hlo hbk hbh
                        go_wp2_with fail
                        refine (CX.out _).mono ?_
                        rintro e X1 ⟨rfl, bx⟩
                        have HX1 := hid (And.intro (HR.out.1.step HC.out.1 HC.out.2 (Pk.of bx)) (HR.out.2.1.below bx))
                        obtain ⟨f0, f1, f2, f3⟩ := frozen4 HX1.out.1.set
                        obtain ⟨p0, p1, p2, p3⟩ := cells4 HX1.out.1.set
                        clear bx
                        go_wp2
                        go_roundg (gk - 1)
                        case measure => have := HR.out.2.2.2.1; omega
                        case rel => exact ⟨b + 1, by go_num, by have := HR.out.2.2.2.1; omega, by have := HR.out.2.2.1; omega, HX1.out.1.lay HC.out.2, HX1.out.2.far (by have := HC.out; omega)⟩
                      · have hbh' : ¬ (b : Int) ≤ (hi.toNat : Int) := by omega
                        obtain rfl : b = hi.toNat + 1 := by omega
                        have HR := hid (And.intro hb1 hb2)
                        clear hb1 hb2 hlo hbk hbh
                        go_wp2
                        go_roundg (v.length + 1)
                        case measure => have := HK.out; have := HT.out; have := HT2.out; simp only [List.length_cons] at *; simp only [Bool.not_false, Bool.toNat_true] at *; omega
                        case rel =>
                          have hE := HE.out
                          exact ⟨false, false, upb S lo.toNat (hi.toNat + 1), v, rfl, by simp, HR.out.1, HR.out.2, at3_ok (by rw [upb_end]; exact HG.out.2 _ _ hE)⟩
              · have hq45 : (nx t == 45) = false := by
                  rw [← Bool.not_eq_true]; intro h
                  cases t with
                  | nil => simp [nx] at h
                  | cons b t =>
                    have : b.toNat = 45 := by simp [nx] at h; omega
                    exact h45 ⟨t, by rw [show b = 45 from UInt8.toNat_inj.1 (by rw [this]; rfl)]⟩
                have HE := hid (elt_lone HCC.out (fun u hu => h45 ⟨u, hu⟩))
                have CX := hid (next_any pb s QW t false Q.out.2)
                clear h45
                go_wp2_with fail
                refine CX.out.mono ?_
                rintro e XW ⟨rfl, bx⟩
                have HQ := hid (show BX3 pb w XW b4 S ∧ RS pb s XW t false ∧ lo.toNat ≤ lo.toNat from ⟨Q.out.1.step HC.out.1 HC.out.2 (Pk.of bx), Q.out.2.below bx, Nat.le_refl _⟩)
                clear bx z0 z1 z2
                obtain ⟨z0, z1, z2⟩ := HQ.out.2.1.cells
                go_wp2_with fail
                obtain ⟨go, rfl⟩ : ∃ go, go = gk := ⟨_, rfl⟩
                go_loopg [9] (lo.toNat + 1 - lo.toNat) (fun kk s9 Vr => ∃ b : Nat, s9 = .int .i64 (b : Int) ∧ b + kk = lo.toNat + 1 ∧ lo.toNat ≤ b ∧ BX3 pb w Vr b4 (upb S lo.toNat b) ∧ RS pb s Vr t false)
                case atStart => exact ⟨lo.toNat, rfl, by have := HQ.out.2.2; omega, Nat.le_refl _, by rw [upb_start]; exact HQ.out.1, HQ.out.2.1⟩
                case round =>
                  obtain ⟨b, rfl, hbk, hlo, hb1, hb2⟩ := hrel
                  obtain ⟨z0, z1, z2⟩ := hb2.cells
                  by_cases hbh : b ≤ lo.toNat
                  · have hbh' : (b : Int) ≤ (lo.toNat : Int) := by omega
                    have hb256 : b < 256 := by have := lo.toNat_lt; omega
                    have CX := hid (fun V => rWithB_any S lo.toNat b V hlo hb256)
                    obtain ⟨p0, p1, p2, p3⟩ := cells4 hb1.set
                    have HR := hid (And.intro hb1 (And.intro hb2 (And.intro hlo (And.intro hbk hb256))))
                    clear hb1 hb2 hlo hbk hbh
                    go_wp2_with fail
                    refine (CX.out _).mono ?_
                    rintro e X1 ⟨rfl, bx⟩
                    have HX1 := hid (And.intro (HR.out.1.step HC.out.1 HC.out.2 (Pk.of bx)) (HR.out.2.1.below bx))
                    obtain ⟨f0, f1, f2, f3⟩ := frozen4 HX1.out.1.set
                    obtain ⟨p0, p1, p2, p3⟩ := cells4 HX1.out.1.set
                    clear bx
                    go_wp2
                    go_roundg (gk - 1)
                    case measure => have := HR.out.2.2.2.1; omega
                    case rel => exact ⟨b + 1, by go_num, by have := HR.out.2.2.2.1; omega, by have := HR.out.2.2.1; omega, HX1.out.1.lay HC.out.2, HX1.out.2.far (by have := HC.out; omega)⟩
                  · have hbh' : ¬ (b : Int) ≤ (lo.toNat : Int) := by omega
                    obtain rfl : b = lo.toNat + 1 := by omega
                    have HR := hid (And.intro hb1 hb2)
                    clear hb1 hb2 hlo hbk hbh
                    go_wp2
                    go_roundg (t.length + 1)
                    case measure => have := HK.out; have := HT.out; simp only [Bool.not_false, Bool.toNat_true] at *; omega
                    case rel =>
                      have hE := HE.out
                      exact ⟨false, false, upb S lo.toNat (lo.toNat + 1), t, rfl, by simp, HR.out.1, HR.out.2, at3_ok (by rw [upb_end]; exact HG.out.2 _ _ hE)⟩
        · have HG := hid (at3_go hat (fun h => by cases h))
          clear hk hbx hrs hat
          have CC := hid (char_any pb s wr true l HB.out.2)
          rw [show spc true = spI from rfl] at CC
          cases hc : chr spI l with
          | bad t =>
            rw [hc] at CC
            have HE := hid (show M = .bad t from HG.out.1 _ (elt_bad1 hc))
            have HT := hid (chr_bad_len hc)
            clear hc
            go_wp2_with fail
            refine CC.out.mono ?_
            rintro e QW ⟨hpk, rfl, hr⟩
            have Q := hid (And.intro (HB.out.1.step HC.out.1 HC.out.2 hpk) (And.intro hr True.intro))
            clear hpk hr
            obtain ⟨z0, z1, z2⟩ := Q.out.2.1.cells
            go_wp2_with fail
            obtain ⟨go, rfl⟩ : ∃ go, go = gk := ⟨_, rfl⟩
            go_loopg [9] 0 (fun kk s9 Vr => Vr = QW)
            case atStart => rfl
            case round =>
              obtain rfl := hrel
              go_wp2
              go_roundg (t.length)
              case measure => have := HK.out; have := HT.out; simp only [Bool.not_false, Bool.toNat_true] at *; omega
              case rel => exact ⟨false, true, S, t, rfl, by simp, Q.out.1, Q.out.2.1, at3_bad (HE.out)⟩
          | ok lo t =>
            rw [hc] at CC
            have HT := hid (chr_len hc)
            have HCC := hid hc
            clear hc
            have hlo8 := lo.toNat_lt
            go_wp2_with fail
            refine CC.out.mono ?_
            rintro e QW ⟨hpk, rfl, hr⟩
            have Q := hid (And.intro (HB.out.1.step HC.out.1 HC.out.2 hpk) hr)
            clear hpk hr
            obtain ⟨z0, z1, z2⟩ := Q.out.2.cells
            by_cases h45 : ∃ u, t = 45 :: u
            · obtain ⟨u, rfl⟩ := h45
              have CX := hid (next_b pb s QW 45 u false Q.out.2)
              go_wp2_with fail
              refine CX.out.mono ?_
              rintro e XW ⟨rfl, hr, bx⟩
              have X := hid (And.intro (Q.out.1.step HC.out.1 HC.out.2 (Pk.of bx)) hr)
              clear hr bx z0 z1 z2
              obtain ⟨z0, z1, z2⟩ := X.out.2.cells
              have f1 := Go.Frame.free X.out.2.box 1
              have hnx := X.out.2.next
              obtain ⟨p, hp⟩ : ∃ p, p = s.size - (45 :: u).length := ⟨_, rfl⟩
              obtain ⟨p', hp'⟩ : ∃ p', p' = s.size - u.length := ⟨_, rfl⟩
              rw [← hp] at z1 hnx
              rw [← hp'] at hnx
              have HP := hid hp'
              have hpb' : (p : Int) ≤ 1000000 := by have := X.out.2.sz; omega
              clear hp hp'
              go_upto_region 12 with fail
              obtain ⟨YW, hY⟩ : ∃ YW, YW = XW.setCell ⟨pb, 1, none⟩ (.int .i64 (p' : Int)) := ⟨_, rfl⟩
              have Y := hid (show BX3 pb w YW b4 S ∧ RS pb s YW u false from by rw [hY, HP.out]; exact ⟨X.out.1.put HC.out.1 HC.out.2, X.out.2.step⟩)
              rw [← hY]
              clear hY z0 z1 z2 f1
              obtain ⟨z0, z1, z2⟩ := Y.out.2.cells
              have C2 := hid (char_any pb s YW true u Y.out.2)
              rw [show spc true = spI from rfl] at C2
              cases hc2 : chr spI u with
              | bad v =>
                rw [hc2] at C2
                have HE := hid (show M = .bad v from HG.out.1 _ (elt_run1 HCC.out hc2))
                have HT2 := hid (chr_bad_len hc2)
                clear hc2
                go_wp2_with fail
                refine C2.out.mono ?_
                rintro e RW ⟨hpk, rfl, hr⟩
                have R := hid (And.intro (Y.out.1.step HC.out.1 HC.out.2 hpk) (And.intro hr True.intro))
                clear hpk hr z0 z1 z2
                obtain ⟨z0, z1, z2⟩ := R.out.2.1.cells
                go_wp2_with fail
                obtain ⟨go, rfl⟩ : ∃ go, go = gk := ⟨_, rfl⟩
                go_loopg [9] 0 (fun kk s9 Vr => Vr = RW)
                case atStart => rfl
                case round =>
                  obtain rfl := hrel
                  go_wp2
                  go_roundg (v.length)
                  case measure => have := HK.out; have := HT.out; have := HT2.out; simp only [List.length_cons] at *; simp only [Bool.not_false, Bool.toNat_true] at *; omega
                  case rel => exact ⟨false, true, S, v, rfl, by simp, R.out.1, R.out.2.1, at3_bad (HE.out)⟩
              | ok hi v =>
                rw [hc2] at C2
                have HT2 := hid (chr_len hc2)
                have HE0 := hid (elt_run2 HCC.out hc2)
                have hhi8 := hi.toNat_lt
                clear hc2
                go_wp2_with fail
                refine C2.out.mono ?_
                rintro e RW ⟨hpk, rfl, hr⟩
                have R := hid (And.intro (Y.out.1.step HC.out.1 HC.out.2 hpk) hr)
                clear hpk hr z0 z1 z2
                by_cases hl : hi < lo
                · have hl' : (hi.toNat : Int) < (lo.toNat : Int) := by have := UInt8.lt_iff_toNat_lt.1 hl; omega
                  have HE := hid (show M = .bad u from HG.out.1 _ (by rw [HE0.out, if_pos hl]))
                  clear hl
                  obtain ⟨z0, z1, z2⟩ := R.out.2.cells
                  have f1 := Go.Frame.free R.out.2.box 1
                  have f2 := Go.Frame.free R.out.2.box 2
                  go_upto_region 17 with fail
                  obtain ⟨BW, hB⟩ : ∃ BW, BW = (RW.setCell ⟨pb, 2, none⟩ (.bool true)).setCell ⟨pb, 1, none⟩ (.int .i64 ((s.size - u.length : Nat) : Int)) := ⟨_, rfl⟩
                  have B := hid (show BX3 pb w BW b4 S ∧ RS pb s BW u true ∧ True from by rw [hB]; exact ⟨(R.out.1.put HC.out.1 HC.out.2).put HC.out.1 HC.out.2, RS.back R.out.2 Y.out.2, trivial⟩)
                  rw [← hB]
                  clear hB z0 z1 z2 f1 f2
                  obtain ⟨z0, z1, z2⟩ := B.out.2.1.cells
                  go_wp2_with fail
                  obtain ⟨go, rfl⟩ : ∃ go, go = gk := ⟨_, rfl⟩
                  go_loopg [9] 0 (fun kk s9 Vr => Vr = BW)
                  case atStart => rfl
                  case round =>
                    obtain rfl := hrel
                    go_wp2
                    go_roundg (u.length)
                    case measure => have := HK.out; have := HT.out; simp only [List.length_cons] at *; simp only [Bool.not_false, Bool.toNat_true] at *; omega
                    case rel => exact ⟨false, true, S, u, rfl, by simp, B.out.1, B.out.2.1, at3_bad (HE.out)⟩
                · have hl0 : ¬ (hi.toNat : Int) < (lo.toNat : Int) := by intro h; exact hl (UInt8.lt_iff_toNat_lt.2 (by omega))
                  have hlq : decide (hi.toNat < lo.toNat) = false := by rw [decide_eq_false_iff_not]; omega
                  have hl' : decide ((hi.toNat : Int) < (lo.toNat : Int)) = false := by rw [decide_eq_false_iff_not]; omega
                  have HE := hid (show elt l = .ok (rng lo hi) v by rw [HE0.out, if_neg hl])
                  have HQ := hid (show BX3 pb w RW b4 S ∧ RS pb s RW v false ∧ lo.toNat ≤ hi.toNat from ⟨R.out.1, R.out.2, by omega⟩)
                  clear hl hl0
                  obtain ⟨z0, z1, z2⟩ := HQ.out.2.1.cells
                  go_wp2_with fail
                  obtain ⟨go, rfl⟩ : ∃ go, go = gk := ⟨_, rfl⟩
                  go_loopg [9] (hi.toNat + 1 - lo.toNat) (fun kk s9 Vr => ∃ b : Nat, s9 = .int .i64 (b : Int) ∧ b + kk = hi.toNat + 1 ∧ lo.toNat ≤ b ∧ BX3 pb w Vr b4 (upb S lo.toNat b) ∧ RS pb s Vr v false)
                  case atStart => exact ⟨lo.toNat, rfl, by have := HQ.out.2.2; omega, Nat.le_refl _, by rw [upb_start]; exact HQ.out.1, HQ.out.2.1⟩
                  case round =>
                    obtain ⟨b, rfl, hbk, hlo, hb1, hb2⟩ := hrel
                    obtain ⟨z0, z1, z2⟩ := hb2.cells
                    by_cases hbh : b ≤ hi.toNat
                    · have hbh' : (b : Int) ≤ (hi.toNat : Int) := by omega
                      have hb256 : b < 256 := by have := hi.toNat_lt; omega
                      have CX := hid (fun V => rWithB_any S lo.toNat b V hlo hb256)
                      obtain ⟨p0, p1, p2, p3⟩ := cells4 hb1.set
                      have HR := hid (And.intro hb1 (And.intro hb2 (And.intro hlo (And.intro hbk hb256))))
                      clear hb1 hb2 hlo hbk hbh
                      go_wp2_with fail
                      refine (CX.out _).mono ?_
                      rintro e X1 ⟨rfl, bx⟩
                      have HX1 := hid (And.intro (HR.out.1.step HC.out.1 HC.out.2 (Pk.of bx)) (HR.out.2.1.below bx))
                      obtain ⟨f0, f1, f2, f3⟩ := frozen4 HX1.out.1.set
                      obtain ⟨p0, p1, p2, p3⟩ := cells4 HX1.out.1.set
                      clear bx
                      go_wp2
                      go_roundg (gk - 1)
                      case measure => have := HR.out.2.2.2.1; omega
                      case rel => exact ⟨b + 1, by go_num, by have := HR.out.2.2.2.1; omega, by have := HR.out.2.2.1; omega, HX1.out.1.lay HC.out.2, HX1.out.2.far (by have := HC.out; omega)⟩
                    · have hbh' : ¬ (b : Int) ≤ (hi.toNat : Int) := by omega
                      obtain rfl : b = hi.toNat + 1 := by omega
                      have HR := hid (And.intro hb1 hb2)
                      clear hb1 hb2 hlo hbk hbh
                      go_wp2
                      go_roundg (v.length + 1)
                      case measure => have := HK.out; have := HT.out; have := HT2.out; simp only [List.length_cons] at *; simp only [Bool.not_false, Bool.toNat_true] at *; omega
                      case rel =>
                        have hE := HE.out
                        exact ⟨false, false, upb S lo.toNat (hi.toNat + 1), v, rfl, by simp, HR.out.1, HR.out.2, at3_ok (by rw [upb_end]; exact HG.out.2 _ _ hE)⟩
            · have hq45 : (nx t == 45) = false := by
                rw [← Bool.not_eq_true]; intro h
                cases t with
                | nil => simp [nx] at h
                | cons b t =>
                  have : b.toNat = 45 := by simp [nx] at h; omega
                  exact h45 ⟨t, by rw [show b = 45 from UInt8.toNat_inj.1 (by rw [this]; rfl)]⟩
              have HE := hid (elt_lone HCC.out (fun u hu => h45 ⟨u, hu⟩))
              have CX := hid (next_any pb s QW t false Q.out.2)
              clear h45
              go_wp2_with fail
              refine CX.out.mono ?_
              rintro e XW ⟨rfl, bx⟩
              have HQ := hid (show BX3 pb w XW b4 S ∧ RS pb s XW t false ∧ lo.toNat ≤ lo.toNat from ⟨Q.out.1.step HC.out.1 HC.out.2 (Pk.of bx), Q.out.2.below bx, Nat.le_refl _⟩)
              clear bx z0 z1 z2
              obtain ⟨z0, z1, z2⟩ := HQ.out.2.1.cells
              go_wp2_with fail
              obtain ⟨go, rfl⟩ : ∃ go, go = gk := ⟨_, rfl⟩
              go_loopg [9] (lo.toNat + 1 - lo.toNat) (fun kk s9 Vr => ∃ b : Nat, s9 = .int .i64 (b : Int) ∧ b + kk = lo.toNat + 1 ∧ lo.toNat ≤ b ∧ BX3 pb w Vr b4 (upb S lo.toNat b) ∧ RS pb s Vr t false)
              case atStart => exact ⟨lo.toNat, rfl, by have := HQ.out.2.2; omega, Nat.le_refl _, by rw [upb_start]; exact HQ.out.1, HQ.out.2.1⟩
              case round =>
                obtain ⟨b, rfl, hbk, hlo, hb1, hb2⟩ := hrel
                obtain ⟨z0, z1, z2⟩ := hb2.cells
                by_cases hbh : b ≤ lo.toNat
                · have hbh' : (b : Int) ≤ (lo.toNat : Int) := by omega
                  have hb256 : b < 256 := by have := lo.toNat_lt; omega
                  have CX := hid (fun V => rWithB_any S lo.toNat b V hlo hb256)
                  obtain ⟨p0, p1, p2, p3⟩ := cells4 hb1.set
                  have HR := hid (And.intro hb1 (And.intro hb2 (And.intro hlo (And.intro hbk hb256))))
                  clear hb1 hb2 hlo hbk hbh
                  go_wp2_with fail
                  refine (CX.out _).mono ?_
                  rintro e X1 ⟨rfl, bx⟩
                  have HX1 := hid (And.intro (HR.out.1.step HC.out.1 HC.out.2 (Pk.of bx)) (HR.out.2.1.below bx))
                  obtain ⟨f0, f1, f2, f3⟩ := frozen4 HX1.out.1.set
                  obtain ⟨p0, p1, p2, p3⟩ := cells4 HX1.out.1.set
                  clear bx
                  go_wp2
                  go_roundg (gk - 1)
                  case measure => have := HR.out.2.2.2.1; omega
                  case rel => exact ⟨b + 1, by go_num, by have := HR.out.2.2.2.1; omega, by have := HR.out.2.2.1; omega, HX1.out.1.lay HC.out.2, HX1.out.2.far (by have := HC.out; omega)⟩
                · have hbh' : ¬ (b : Int) ≤ (lo.toNat : Int) := by omega
                  obtain rfl : b = lo.toNat + 1 := by omega
                  have HR := hid (And.intro hb1 hb2)
                  clear hb1 hb2 hlo hbk hbh
                  go_wp2
                  go_roundg (t.length + 1)
                  case measure => have := HK.out; have := HT.out; simp only [Bool.not_false, Bool.toNat_true] at *; omega
                  case rel =>
                    have hE := HE.out
                    exact ⟨false, false, upb S lo.toNat (lo.toNat + 1), t, rfl, by simp, HR.out.1, HR.out.2, at3_ok (by rw [upb_end]; exact HG.out.2 _ _ hE)⟩
      · have HE := hid (show M = .bad l by unfold At3 at hat; rw [if_pos rfl] at hat; exact hat)
        obtain ⟨r0, r1, r2, r3, r4, r5⟩ := cells6 hbx.res
        have f0 := Go.Frame.free hbx.res 0
        have f1 := Go.Frame.free hbx.res 1
        have f2 := Go.Frame.free hbx.res 2
        have f3 := Go.Frame.free hbx.res 3
        have f4 := Go.Frame.free hbx.res 4
        have f5 := Go.Frame.free hbx.res 5
        have HRES := hid hbx.res
        clear hk hbx hrs hat
        go_wp2
        have zz := six_set (y0 := .int .i64 0) (y1 := .int .u64 0) (y2 := .int .u64 0) (y3 := .int .u64 0) (y4 := .int .u64 0) (y5 := .slice none 0 0) HRES.out
        obtain ⟨q0, q1, q2, q3, q4, q5⟩ := cells6 zz
        rw [HE.out]
        refine bodyPost_ret (v := .agg #[.int .i64 0, .int .u64 0, .int .u64 0, .int .u64 0, .int .u64 0, .slice none 0 0]) ?_ rfl ?_
        · simp [results, Tryd.results108, go_sem, q0, q1, q2, q3, q4, q5]
        · have k1 := pk_six (x0 := .int .i64 0) (x1 := .int .u64 0) (x2 := .int .u64 0) (x3 := .int .u64 0) (x4 := .int .u64 0) (x5 := .slice none 0 0) HB.out.1.pk
          have k2 := HB.out.2.six (B := w.heap.size) (x0 := .int .i64 0) (x1 := .int .u64 0) (x2 := .int .u64 0) (x3 := .int .u64 0) (x4 := .int .u64 0) (x5 := .slice none 0 0) (by have := HC.out.1; omega)
          show BO pb s (.bad l) w _ _
          exact ⟨k1, rfl, k2⟩
theorem rbrackets_any (pb : Nat) (s : ByteArray) (w : World) (l : List UInt8) (h : RS pb s w l false) : Calls Tryd.prog 108 #[.pointer (some ⟨pb, 0, none⟩)] w (BO pb s (brackets l) w) := by
  cases hk : skip 94 l with
  | none =>
    have := brackets_from pb s w l l false rfl (fun _ => skip_none hk) h
    unfold brackets
    rw [hk]
    simp only at this ⊢
    cases he : elts l with
    | bad u => rw [he] at this; exact this
    | ok S u => rw [he] at this; exact this
  | some t =>
    have := brackets_from pb s w l t true (by rw [skip_some hk]; rfl) (fun h => by cases h) h
    unfold brackets
    rw [hk]
    simp only at this ⊢
    cases he : elts t with
    | bad u => rw [he] at this; exact this
    | ok S u => rw [he] at this; exact this
end Go.Proofs.YtednoideboeehaaDoor
end
