/-
  Contracts: two trees joined (link), the last block replaced (withLastBlock), the first one removed (withoutFirstBlock), join.
-/
import Derived.Test.YtaafnodabjbakaaC
namespace Go.Proofs.Ytaafnodabjbakaa
open Go.RowKit Rp

theorem lv_size_pos {T : BT} (h : Tight T.lv) : 1 ≤ T.size := by
  have := tight_sz _ T.lv rfl h
  have h2 := List.length_pos_iff.2 T.lv_ne
  rw [← T.size_lv] at this; omega

set_option maxRecDepth 100000 in
set_option maxHeartbeats 4000000 in
theorem link_any (k : Nat) : ∀ (a b : BT) (pa pb : Option Addr) (w : World), a.size + b.size ≤ k → Rep w pa a → Rep w pb b → a.hok → b.hok → Tight (a.lv ++ b.lv) → a.size + b.size ≤ 1000000000 →
    Calls Try.prog 44 #[.pointer pa, .pointer pb] w fun e w' => ∃ (p : Option Addr) (T : BT), e = .returned (.pointer p) ∧ Rep w' p T ∧ T.hok ∧ T.lv = a.lv ++ b.lv ∧ Below w.heap.size w w' := by
  induction k with
  | zero =>
    intro a b pa pb w hk _ _ _ _ ht
    have := lv_size_pos ht.left
    omega
  | succ k ih =>
    intro a b pa pb w hk ha hb' ka kb ht hs
    have HI := hid ih
    clear ih
    rcases Nat.lt_trichotomy b.ht a.ht with hlt | heq | hgt
    · cases a with
      | leaf s => simp [BT.ht] at hlt
      | node x y =>
        have hrep := ha
        obtain ⟨c, px, py, rfl, hc, hx, hy⟩ := hrep
        obtain ⟨d, _, _, _, rfl, hd, cb⟩ := Rep.some hb'
        have c0 := (cells_of hc).c0; have c1 := (cells_of hc).c1; have c4 := (cells_of hc).c4
        have d4 := cb.c4
        obtain ⟨H, hH⟩ : ∃ H, H = 1 + max x.ht y.ht := ⟨_, rfl⟩
        have hlt' : b.ht < H := by rw [hH]; exact hlt
        rw [← hH] at c4
        have HX := hid (And.intro hx (And.intro hy hb'))
        have hxs := lv_size_pos (T := x) (Tight.left (ys := y.lv ++ b.lv) (by rw [← List.append_assoc]; exact ht))
        have ht2 : Tight (x.lv ++ (y.lv ++ b.lv)) := by rw [← List.append_assoc]; exact ht
        have HT := hid ht2
        have hsz : x.size + y.size + b.size ≤ 1000000000 := hs
        have hk2 : x.size + y.size + b.size ≤ k + 1 := hk
        have HK := hid ka
        have HC := hid (heap_lt hc)
        clear hH hlt hx hy hb' ht ht2 ka hc cb ha hk hs
        go_enter Try.func44, Try.ntmps44
        go_wp2
        go_region_held3 (fun w' => w'.cell? ⟨c, 4, none⟩ = some (.int .i64 H) ∧ w'.cell? ⟨d, 4, none⟩ = some (.int .i64 b.ht)) (first | exact ⟨c4, d4⟩) (fail)
        go_wp2
        go_region_held3 (fun w' => w'.cell? ⟨c, 0, none⟩ = some (.pointer px) ∧ w'.cell? ⟨c, 1, none⟩ = some (.pointer py)) (first | exact ⟨c0, c1⟩ | exact ⟨(hb1.cell (p := ⟨c, 0, none⟩) HC.out).trans c0, (hb1.cell (p := ⟨c, 1, none⟩) HC.out).trans c1⟩ | exact ⟨(hb2.cell (p := ⟨c, 0, none⟩) HC.out).trans c0, (hb2.cell (p := ⟨c, 1, none⟩) HC.out).trans c1⟩)
          (first
            | (go_at_call 44
               refine (HI.out y b py _ w.drew.drew (by omega) (HX.out.2.1.below (Below.refl _ _).drew.drew) (HX.out.2.2.below (Below.refl _ _).drew.drew) HK.out.2.1 kb HT.out.right (by omega)).mono ?_
               rintro e w1 ⟨p1, T1, rfl, hr1, hk1, hl1, hb10⟩
               have hb1 := undrew (undrew hb10))
            | (go_at_call 51
               refine (balanced_any px p1 x T1 w1 (HX.out.1.below hb1) hr1 HK.out.1 hk1 (by rw [hl1]; exact HT.out) (by have h1 := BT.size_of_lv hl1; rw [sz_append, ← y.size_lv, ← b.size_lv] at h1; omega)).mono ?_
               rintro e w2 ⟨p2, T2, rfl, hr2, hk2, hl2, hb20⟩
               have hb2 := hb1.trans (hb20.mono hb1.size)))
        go_wp2
        go_ret
        exact ⟨p2, T2, rfl, hr2, by assumption, by rw [hl2, hl1]; simp [BT.lv], hb2⟩
    · obtain ⟨c, _, _, _, rfl, hc, ca⟩ := Rep.some ha
      obtain ⟨d, _, _, _, rfl, hd, cb⟩ := Rep.some hb'
      have c4 := ca.c4; have d4 := cb.c4
      have hle1 : ¬ b.ht < a.ht := by omega
      have hle2 : ¬ a.ht < b.ht := by omega
      have HX := hid (And.intro ha hb')
      have HT := hid ht
      clear heq ha hb' ht hk ca cb
      go_enter Try.func44, Try.ntmps44
      go_wp2
      go_region_held3 (fun w' => w'.cell? ⟨c, 4, none⟩ = some (.int .i64 a.ht) ∧ w'.cell? ⟨d, 4, none⟩ = some (.int .i64 b.ht)) (first | exact ⟨c4, d4⟩) (fail)
      go_wp2
      go_region_held3 (fun w' => w'.cell? ⟨c, 4, none⟩ = some (.int .i64 a.ht) ∧ w'.cell? ⟨d, 4, none⟩ = some (.int .i64 b.ht)) (first | exact ⟨c4, d4⟩) (fail)
      go_wp2_with (go_at_call 51; refine (balanced_any _ _ a b w.drew.drew (HX.out.1.below (Below.refl _ _).drew.drew) (HX.out.2.below (Below.refl _ _).drew.drew) ka kb HT.out hs).mono ?_; rintro e w2 ⟨p2, T2, rfl, hr2, hk2, hl2, hb2⟩)
      go_ret
      exact ⟨p2, T2, rfl, hr2, by assumption, hl2, undrew (undrew hb2)⟩
    · cases b with
      | leaf s => simp [BT.ht] at hgt
      | node x y =>
        have hrep := hb'
        obtain ⟨c, px, py, rfl, hc, hx, hy⟩ := hrep
        obtain ⟨d, _, _, _, rfl, hd, ca⟩ := Rep.some ha
        have c0 := (cells_of hc).c0; have c1 := (cells_of hc).c1; have c4 := (cells_of hc).c4
        have d4 := ca.c4
        obtain ⟨H, hH⟩ : ∃ H, H = 1 + max x.ht y.ht := ⟨_, rfl⟩
        have hlt' : a.ht < H := by rw [hH]; exact hgt
        have hlt2 : ¬ H < a.ht := by omega
        rw [← hH] at c4
        have HX := hid (And.intro hx (And.intro hy ha))
        have ht2 : Tight ((a.lv ++ x.lv) ++ y.lv) := by rw [List.append_assoc]; exact ht
        have hys := lv_size_pos (T := y) ht2.right
        have HT := hid ht2
        have hsz : a.size + (x.size + y.size) ≤ 1000000000 := hs
        have hk2 : a.size + (x.size + y.size) ≤ k + 1 := hk
        have HK := hid kb
        have HC := hid (heap_lt hc)
        clear hH hgt hx hy hb' ht ht2 kb hc ca ha hk hs
        go_enter Try.func44, Try.ntmps44
        go_wp2
        go_region_held3 (fun w' => w'.cell? ⟨d, 4, none⟩ = some (.int .i64 a.ht) ∧ w'.cell? ⟨c, 4, none⟩ = some (.int .i64 H)) (first | exact ⟨d4, c4⟩) (fail)
        go_wp2
        go_region_held3 (fun w' => w'.cell? ⟨d, 4, none⟩ = some (.int .i64 a.ht) ∧ w'.cell? ⟨c, 4, none⟩ = some (.int .i64 H)) (first | exact ⟨d4, c4⟩) (fail)
        go_wp2
        go_region_held3 (fun w' => w'.cell? ⟨c, 0, none⟩ = some (.pointer px) ∧ w'.cell? ⟨c, 1, none⟩ = some (.pointer py)) (first | exact ⟨c0, c1⟩ | exact ⟨(hb1.cell (p := ⟨c, 0, none⟩) HC.out).trans c0, (hb1.cell (p := ⟨c, 1, none⟩) HC.out).trans c1⟩ | exact ⟨(hb2.cell (p := ⟨c, 0, none⟩) HC.out).trans c0, (hb2.cell (p := ⟨c, 1, none⟩) HC.out).trans c1⟩)
          (first
            | (go_at_call 44
               refine (HI.out a x _ px w.drew.drew.drew (by omega) (HX.out.2.2.below (Below.refl _ _).drew.drew.drew) (HX.out.1.below (Below.refl _ _).drew.drew.drew) ka HK.out.1 HT.out.left (by omega)).mono ?_
               rintro e w1 ⟨p1, T1, rfl, hr1, hk1, hl1, hb10⟩
               have hb1 := undrew (undrew (undrew hb10)))
            | (go_at_call 51
               refine (balanced_any p1 py T1 y w1 hr1 (HX.out.2.1.below hb1) hk1 HK.out.2.1 (by rw [hl1]; exact HT.out) (by have h1 := BT.size_of_lv hl1; rw [sz_append, ← a.size_lv, ← x.size_lv] at h1; omega)).mono ?_
               rintro e w2 ⟨p2, T2, rfl, hr2, hk2, hl2, hb20⟩
               have hb2 := hb1.trans (hb20.mono hb1.size)))
        go_wp2
        go_ret
        exact ⟨p2, T2, rfl, hr2, by assumption, by rw [hl2, hl1]; simp [BT.lv], hb2⟩

theorem dropLast_node (l r : BT) : (BT.node l r).lv.dropLast = l.lv ++ r.lv.dropLast := by
  show (l.lv ++ r.lv).dropLast = _
  rw [List.dropLast_append_of_ne_nil r.lv_ne]

set_option maxRecDepth 100000 in
set_option maxHeartbeats 2000000 in
theorem withLast_any (T : BT) : ∀ (p : Option Addr) (s : ByteArray) (w : World), Rep w p T → Rp.Good T → T.last.size ≤ s.size → s.size ≤ 64 → T.size ≤ 900000000 →
    Calls Try.prog 45 #[.pointer p, .string s] w fun e w' => ∃ (p' : Option Addr) (T' : BT), e = .returned (.pointer p') ∧ Rep w' p' T' ∧ T'.hok ∧ T'.lv = T.lv.dropLast ++ [s] ∧ Below w.heap.size w w' := by
  induction T with
  | leaf t =>
    intro p s w hR hg h1 h2 h3
    have h4 : 1 ≤ t.size := hg.of_leaf.1
    have h5 : t.size ≤ s.size := h1
    go_enter Try.func45, Try.ntmps45
    go_wp2_with (first
      | (go_at_call 47; refine (isLeaf_leaf _ t _ hR).mono ?_; rintro e w' ⟨rfl, rfl⟩)
      | (go_at_call 40; refine (leaf_some s (by omega) _).mono ?_; rintro e w' ⟨rfl, rfl⟩))
    go_ret
    exact ⟨_, .leaf s, rfl, ⟨_, rfl, alloc_new _ _⟩, trivial, rfl, (Below.refl _ _).alloc (Nat.le_refl _) _⟩
  | node l r _ ihr =>
    intro p s w hR hg h1 h2 h3
    have hR2 := hR
    obtain ⟨c, pl, pr, rfl, hc, hl, hr⟩ := hR
    have c0 := (cells_of hc).c0; have c1 := (cells_of hc).c1
    have HC := hid (heap_lt hc)
    have HX := hid (And.intro hl hr)
    have hsz : l.size + r.size ≤ 900000000 := h3
    have ht1 : Tight ((l.lv ++ r.lv.dropLast) ++ [r.last]) := by rw [List.append_assoc, ← r.lv_last]; exact hg.t
    have ht2 := tight_withLast ht1 h1 h2
    have HT := hid ht2
    have HG := hid hg
    have HI := hid (ihr pr s)
    have HS := hid h1
    have hrl : r.last.size ≤ r.size := by
      have := r.lv_last; have h := r.size_lv; rw [this, sz_append] at h; simp only [sz] at h; omega
    clear ihr hc hl hr ht1 ht2 hg h1 h3
    go_enter Try.func45, Try.ntmps45
    go_wp2_with (go_at_call 47; refine (isLeaf_node _ _ _ _ hR2).mono ?_; rintro e w' ⟨rfl, rfl⟩)
    go_region_held3 (fun w' => w'.cell? ⟨c, 0, none⟩ = some (.pointer pl) ∧ w'.cell? ⟨c, 1, none⟩ = some (.pointer pr)) (first | exact ⟨c0, c1⟩ | exact ⟨(hb1.cell (p := ⟨c, 0, none⟩) HC.out).trans c0, (hb1.cell (p := ⟨c, 1, none⟩) HC.out).trans c1⟩ | exact ⟨(hb2.cell (p := ⟨c, 0, none⟩) HC.out).trans c0, (hb2.cell (p := ⟨c, 1, none⟩) HC.out).trans c1⟩)
      (first
        | (go_at_call 45
           refine (HI.out w.drew (HX.out.2.below (Below.refl _ _).drew) HG.out.right HS.out h2 (by omega)).mono ?_
           rintro e w1 ⟨p1, T1, rfl, hr1, hk1, hl1, hb10⟩
           have hb1 := undrew hb10)
        | (go_at_call 51
           refine (balanced_any pl p1 l T1 w1 (HX.out.1.below hb1) hr1 HG.out.left.h hk1 (by rw [hl1, ← List.append_assoc]; exact HT.out) (by have h1 := BT.size_of_lv hl1; have h6 := r.size_lv; rw [r.lv_last, sz_append] at h6; rw [sz_append] at h1; simp only [sz] at h1 h6; omega)).mono ?_
           rintro e w2 ⟨p2, T2, rfl, hr2, hk2, hl2, hb20⟩
           have hb2 := hb1.trans (hb20.mono hb1.size)))
    go_wp2
    go_ret
    exact ⟨p2, T2, rfl, hr2, by assumption, by rw [hl2, hl1, dropLast_node, List.append_assoc], hb2⟩

theorem tail_node (l r : BT) : (BT.node l r).lv.tail = l.lv.tail ++ r.lv := by
  show (l.lv ++ r.lv).tail = _
  rw [List.tail_append_of_ne_nil l.lv_ne]
def OHok : Option BT → Prop
  | none => True
  | some T => T.hok

set_option maxRecDepth 100000 in
set_option maxHeartbeats 2000000 in
theorem withoutFirst_any (T : BT) : ∀ (p : Option Addr) (w : World), Rep w p T → Rp.Good T → T.size ≤ 1000000000 →
    Calls Try.prog 46 #[.pointer p] w fun e w' => ∃ (p' : Option Addr) (O : Option BT), e = .returned (.pointer p') ∧ ORep w' p' O ∧ OHok O ∧ olv O = T.lv.tail ∧ Below w.heap.size w w' := by
  induction T with
  | leaf t =>
    intro p w hR hg h3
    go_enter Try.func46, Try.ntmps46
    go_wp2_with (go_at_call 47; refine (isLeaf_leaf _ t _ hR).mono ?_; rintro e w' ⟨rfl, rfl⟩)
    go_ret
    exact ⟨none, none, rfl, rfl, trivial, rfl, Below.refl _ _⟩
  | node l r ihl _ =>
    intro p w hR hg h3
    have hR2 := hR
    obtain ⟨c, pl, pr, rfl, hc, hl, hr⟩ := hR
    have c0 := (cells_of hc).c0; have c1 := (cells_of hc).c1
    have HC := hid (heap_lt hc)
    have HX := hid hr
    have hsz : l.size + r.size ≤ 1000000000 := h3
    have HG := hid hg
    have HI := hid (ihl pl w hl hg.left (by omega))
    clear ihl hc hl hr hg h3
    go_enter Try.func46, Try.ntmps46
    go_wp2_with (go_at_call 47; refine (isLeaf_node _ _ _ _ hR2).mono ?_; rintro e w' ⟨rfl, rfl⟩)
    refine HI.out.mono ?_
    rintro e w1 ⟨p1, O1, rfl, hr1, hk1, hl1, hb1⟩
    have d1 := (hb1.cell (p := ⟨c, 1, none⟩) HC.out).trans c1
    cases O1 with
    | none =>
      obtain rfl : p1 = none := hr1
      go_wp2
      go_ret
      exact ⟨pr, some r, rfl, HX.out.below hb1, HG.out.h.2.1, by rw [tail_node, ← hl1]; rfl, hb1⟩
    | some T1 =>
      have hr1' : Rep w1 p1 T1 := hr1
      have hk1' : T1.hok := hk1
      have hl1' : T1.lv = l.lv.tail := hl1
      have HL := hid hl1'
      obtain ⟨d, _, _, _, rfl, _, _⟩ := Rep.some hr1'
      have hts : T1.size ≤ l.size := by
        have h1 := BT.size_of_lv hl1'; have h2 := l.size_lv; rw [l.lv_first] at h2; simp only [sz] at h2; omega
      have htt : Tight (T1.lv ++ r.lv) := by
        rw [hl1', ← tail_node]
        have := HG.out.t
        rw [BT.lv_first] at this
        exact this.2.2.2
      have HT := hid htt
      clear hl1 hl1' htt hr1 hk1
      go_wp2_with (go_at_call 51; refine (balanced_any _ pr T1 r w1 hr1' (HX.out.below hb1) hk1' HG.out.right.h HT.out (by omega)).mono ?_; rintro e w2 ⟨p2, T2, rfl, hr2, hk2, hl2, hb2⟩)
      go_ret
      exact ⟨p2, some T2, rfl, hr2, by assumption, by show T2.lv = _; rw [hl2, HL.out, tail_node], hb1.trans (hb2.mono hb1.size)⟩

end Go.Proofs.Ytaafnodabjbakaa
