/-
  Contracts: join, split, fromText, byteAt.
-/
import Derived.Test.YtaafnodabjbakaaD
namespace Go.Proofs.Ytaafnodabjbakaa
open Go.RowKit Rp

/-- The tree O (or none) lies in W at p; its nodes respect the bound, its blocks are tight. -/
structure OG (W : World) (p : Option Addr) (O : Option BT) : Prop where
  rep : ORep W p O
  hok : OHok O
  tight : Tight (olv O)
theorem OG.below {A B : World} (h : Below A.heap.size A B) {p : Option Addr} {O : Option BT} (g : OG A p O) : OG B p O := ⟨g.rep.below h, g.hok, g.tight⟩
theorem OG.mk' {W : World} {p : Option Addr} {T : BT} (h : Rep W p T) (k : T.hok) (t : Tight T.lv) : OG W p (some T) := ⟨h, k, t⟩
theorem OG.nil (W : World) : OG W none none := ⟨rfl, trivial, trivial⟩

theorem tight_merge {xs ys : List ByteArray} {a b c : ByteArray} (hx : Tight (xs ++ [a])) (hy : Tight (b :: ys)) (h1 : a.size ≤ c.size) (h2 : b.size ≤ c.size) (h3 : c.size ≤ 64) : Tight ((xs ++ [c]) ++ ys) := by
  refine (tight_append _ _).2 ⟨tight_withLast hx h1 h3, hy.2.2.2, fun d e hd he => ?_⟩
  simp at hd; subst hd
  have := hy.2.2.1 e he
  omega
theorem tx_concat (a b : ByteArray) : tx [a ++ b] = tx [a] ++ tx [b] := by simp [tx]

set_option maxRecDepth 100000 in
set_option maxHeartbeats 2000000 in
theorem join_any (pa pb : Option Addr) (A B : Option BT) (w : World) (ha : OG w pa A) (hb' : OG w pb B) (hs : osz A + osz B ≤ 900000000) :
    Calls Try.prog 29 #[.pointer pa, .pointer pb] w fun e w' => ∃ (p : Option Addr) (O : Option BT), e = .returned (.pointer p) ∧ OG w' p O ∧ tx (olv O) = tx (olv A) ++ tx (olv B) ∧ Below w.heap.size w w' := by
  cases A with
  | none =>
    obtain rfl : pa = none := ha.rep
    have HB := hid hb'
    clear hb' ha
    go_enter Try.func29, Try.ntmps29
    go_wp2
    go_ret
    exact ⟨pb, B, rfl, HB.out, rfl, Below.refl _ _⟩
  | some a =>
    have hra : Rep w pa a := ha.rep
    have hra' := hra
    have hka : a.hok := ha.hok
    have hta : Tight a.lv := ha.tight
    obtain ⟨ba, _, _, _, rfl, _, _⟩ := Rep.some hra'
    cases B with
    | none =>
      obtain rfl : pb = none := hb'.rep
      have HA := hid ha
      clear hb' ha
      go_enter Try.func29, Try.ntmps29
      go_wp2
      go_ret
      exact ⟨_, some a, rfl, HA.out, by simp [olv, tx], Below.refl _ _⟩
    | some b =>
      have hrb : Rep w pb b := hb'.rep
      have hrb' := hrb
      have hkb : b.hok := hb'.hok
      have htb : Tight b.lv := hb'.tight
      obtain ⟨bb, _, _, _, rfl, _, _⟩ := Rep.some hrb'
      have ga : Rp.Good a := ⟨hka, hta⟩
      have gb : Rp.Good b := ⟨hkb, htb⟩
      have hsz : a.size + b.size ≤ 900000000 := hs
      obtain ⟨la, hla⟩ : ∃ s, s = a.last := ⟨_, rfl⟩
      obtain ⟨fb, hfb⟩ : ∃ s, s = b.first := ⟨_, rfl⟩
      have h1 := ga.last_pos
      have h2 := gb.first_pos
      rw [← hla] at h1
      rw [← hfb] at h2
      have HL := lastBlock_any a _ w hra
      have HF := firstBlock_any b _ w hrb
      rw [← hla] at HL
      rw [← hfb] at HF
      have HA := hid (And.intro ga (And.intro gb (And.intro hla hfb)))
      have HLL := hid HL
      have HFF := hid HF
      clear ha hb' hs hka hkb hta htb ga gb hla hfb HL HF hra' hrb'
      by_cases hx : 64 < la.size + fb.size
      · have HM := hid (show Tight (a.lv ++ b.lv) by
          refine (tight_append _ _).2 ⟨HA.out.1.t, HA.out.2.1.t, fun x y hx1 hy1 => ?_⟩
          rw [a.getLast_lv] at hx1; rw [b.head_lv] at hy1
          cases hx1; cases hy1
          rw [← HA.out.2.2.1, ← HA.out.2.2.2]; exact hx)
        have hx' : (64 : Int) < (la.size : Int) + (fb.size : Int) := by omega
        go_enter Try.func29, Try.ntmps29
        go_wp2_with (first
          | (go_at_call 42; refine HLL.out.mono ?_; rintro e w' ⟨rfl, rfl⟩)
          | (go_at_call 43; refine HFF.out.mono ?_; rintro e w' ⟨rfl, rfl⟩)
          | (go_at_call 44; refine (link_any (a.size + b.size) a b _ _ w (Nat.le_refl _) hra hrb HA.out.1.h HA.out.2.1.h HM.out (by omega)).mono ?_; rintro e w1 ⟨p1, T1, rfl, hr1, hk1, hl1, hb1⟩))
        go_ret
        exact ⟨p1, some T1, rfl, OG.mk' hr1 (by assumption) (by rw [hl1]; exact HM.out), by show tx T1.lv = _; rw [hl1, tx_append]; rfl, hb1⟩
      · have hx' : (la.size : Int) + (fb.size : Int) ≤ 64 := by omega
        go_enter Try.func29, Try.ntmps29
        go_wp2_with (first
          | (go_at_call 42; refine HLL.out.mono ?_; rintro e w' ⟨rfl, rfl⟩)
          | (go_at_call 43; refine HFF.out.mono ?_; rintro e w' ⟨rfl, rfl⟩))
        have hcat : (la ++ fb).size = la.size + fb.size := ByteArray.size_append
        refine (withLast_any a _ (la ++ fb) w hra HA.out.1 (by rw [← HA.out.2.2.1, hcat]; omega) (by rw [hcat]; omega) (by omega)).mono ?_
        rintro e w1 ⟨p1, T1, rfl, hr1, hk1, hl1, hb1⟩
        have HL1 := hid hl1
        have HK1 := hid hk1
        have HC := hid hcat
        obtain ⟨d1, _, _, _, rfl, _, _⟩ := Rep.some hr1
        have hrb1 := hrb.below hb1
        have hT1 : T1.size ≤ a.size + fb.size := by
          have h3 := BT.size_of_lv hl1
          have h4 := a.size_lv
          rw [a.lv_last] at h4
          rw [sz_append] at h3 h4
          simp only [sz] at h3 h4
          rw [← HA.out.2.2.1] at h4
          omega
        clear hl1 hk1 hcat
        have HW := hid (withoutFirst_any b _ w1 hrb1 HA.out.2.1 (by omega))
        go_wp2_with fail
        refine HW.out.mono ?_
        rintro e w2 ⟨p2, O2, rfl, hr2, hk2, hl2, hb2⟩
        have HL2 := hid hl2
        have hr12 := hr1.below hb2
        have HT : Hid (Tight (T1.lv ++ olv O2)) := by
          have ha1 := HA.out.1.t
          have hb1' := HA.out.2.1.t
          rw [a.lv_last] at ha1
          rw [b.lv_first] at hb1'
          show Tight _
          rw [HL1.out, hl2]
          exact tight_merge ha1 hb1' (by rw [HC.out, HA.out.2.2.1]; omega) (by rw [HC.out, HA.out.2.2.2]; omega) (by rw [HC.out]; omega)
        have HX : Hid (tx (T1.lv ++ olv O2) = a.text ++ b.text) := by
          show tx _ = _
          rw [HL1.out, hl2, tx_append, tx_append, tx_concat, HA.out.2.2.1, HA.out.2.2.2, a.text_lv, b.text_lv]
          have e1 : tx a.lv = tx a.lv.dropLast ++ tx [a.last] := by rw [← tx_append, ← a.lv_last]
          have e2 : tx b.lv = tx [b.first] ++ tx b.lv.tail := by
            have := congrArg tx b.lv_first
            rw [this]; simp [tx]
          rw [e1, e2]; simp
        clear hl2
        cases O2 with
        | none =>
          obtain rfl : p2 = none := hr2
          go_wp2
          go_ret
          have ht := HT.out; have hx2 := HX.out
          simp only [olv, List.append_nil] at ht hx2
          exact ⟨_, some T1, rfl, OG.mk' hr12 HK1.out ht, by show tx T1.lv = _; rw [hx2, a.text_lv, b.text_lv]; rfl, hb1.trans (hb2.mono hb1.size)⟩
        | some T2 =>
          have hr2' : Rep w2 p2 T2 := hr2
          have hk2' : T2.hok := hk2
          obtain ⟨d2, _, _, _, rfl, _, _⟩ := Rep.some hr2'
          have hT2 : T2.size ≤ b.size := by
            have h3 : T2.lv = b.lv.tail := HL2.out
            have h3 := BT.size_of_lv h3
            have h4 := b.size_lv
            rw [b.lv_first] at h4
            simp only [sz] at h4
            omega
          have hfb1 : fb.size ≤ 64 := h2.2
          clear hr2 hk2
          go_wp2_with (go_at_call 44; refine (link_any (T1.size + T2.size) T1 T2 _ _ w2 (Nat.le_refl _) hr12 hr2' HK1.out hk2' HT.out (by omega)).mono ?_; rintro e w3 ⟨p3, T3, rfl, hr3, hk3, hl3, hb3⟩)
          go_ret
          exact ⟨p3, some T3, rfl, OG.mk' hr3 (by assumption) (by rw [hl3]; exact HT.out), by show tx T3.lv = _; rw [hl3, show T1.lv ++ T2.lv = T1.lv ++ olv (some T2) from rfl, HX.out, a.text_lv, b.text_lv]; rfl, hb1.trans ((hb2.trans (hb3.mono hb2.size)).mono hb1.size)⟩

theorem extract_toList (s : ByteArray) (a b : Nat) : (s.extract a b).data.toList = (s.data.toList.drop a).take (b - a) := by
  rw [ByteArray.data_extract, Array.toList_extract]

theorem OG.otree {W : World} {p : Option Addr} {s : ByteArray} (h : ORep W p (otree s)) (hs : s.size ≤ 64) : OG W p (Ytaafnodabjbakaa.otree s) := by
  refine ⟨h, ?_, ?_⟩
  · unfold Ytaafnodabjbakaa.otree; split <;> trivial
  · unfold Ytaafnodabjbakaa.otree; split
    · trivial
    · exact ⟨by omega, hs, fun b hb => (by cases hb), trivial⟩
theorem tx_otree (s : ByteArray) : tx (olv (otree s)) = s.data.toList := by
  unfold otree
  split
  · rename_i h
    have : s.data.toList = [] := by
      have h1 : s.data.size = 0 := h
      rw [← Array.length_toList] at h1
      exact List.length_eq_zero_iff.1 h1
    rw [this]; rfl
  · simp [olv, BT.lv, tx]

theorem osz_tx (O : Option BT) : osz O = (tx (olv O)).length := by rw [osz_olv, tx_length]

set_option maxRecDepth 100000 in
set_option maxHeartbeats 4000000 in
theorem split_any (T : BT) : ∀ (p : Option Addr) (k : Nat) (w : World), OG w p (some T) → k ≤ T.size → T.size ≤ 400000000 →
    Calls Try.prog 30 #[.pointer p, .int .i64 k] w fun e w' => ∃ (p1 p2 : Option Addr) (O1 O2 : Option BT), e = .returned (.tuple #[.pointer p1, .pointer p2]) ∧ OG w' p1 O1 ∧ OG w' p2 O2 ∧
      tx (olv O1) = T.text.take k ∧ tx (olv O2) = T.text.drop k ∧ Below w.heap.size w w' := by
  induction T with
  | leaf t =>
    intro p k w hO hk hs
    have hR : Rep w p (.leaf t) := hO.rep
    have hR2 := hR
    obtain ⟨c, rfl, hc⟩ := hR
    have c2 := (cells_of (h := 0) hc).c2; have c3 := (cells_of (h := 0) hc).c3
    have hk' : k ≤ t.size := hk
    have hts : t.size ≤ 64 := (hO.tight.mem t (by simp [olv, BT.lv])).2
    have HO := hid hO
    clear hO hk hs
    by_cases h0 : k = 0
    · subst h0
      go_enter Try.func30, Try.ntmps30
      go_wp2
      go_ret2
      exact ⟨none, _, none, some (.leaf t), rfl, OG.nil _, HO.out, rfl, by simp [olv, BT.lv, tx, BT.text], Below.refl _ _⟩
    · by_cases h1 : k = t.size
      · have hb0 : ((k : Int) == 0) = false := beq_eq_false_iff_ne.2 (by omega)
        have hb1 : ((k : Int) == (t.size : Int)) = true := beq_iff_eq.2 (by omega)
        have H1 := hid h1
        clear h1
        go_enter Try.func30, Try.ntmps30
        go_wp2
        go_ret2
        refine ⟨_, none, some (.leaf t), none, rfl, HO.out, OG.nil _, ?_, ?_, Below.refl _ _⟩
        · simp only [olv, BT.lv, tx, BT.text, List.append_nil]
          rw [List.take_of_length_le]
          rw [H1.out]; exact Nat.le_refl _
        · simp only [olv, tx, BT.text]
          rw [List.drop_eq_nil_of_le]
          rw [H1.out]; exact Nat.le_refl _
      · have hb0 : ((k : Int) == 0) = false := beq_eq_false_iff_ne.2 (by omega)
        have hb1 : ((k : Int) == (t.size : Int)) = false := beq_eq_false_iff_ne.2 (by omega)
        have hk0 : (0 : Int) ≤ (k : Int) := by omega
        have hkt : (k : Int) ≤ (t.size : Int) := by omega
        have hlt := hid (heap_lt (by assumption : w.heap[c]? = _))
        go_enter Try.func30, Try.ntmps30
        go_wp2_with (go_at_call 47; refine (isLeaf_leaf _ t _ hR2).mono ?_; rintro e w' ⟨rfl, rfl⟩)
        go_region_held3 (fun w' => w'.cell? ⟨c, 2, none⟩ = some (.string t)) (first | exact c2 | exact d2 | exact e2)
          (first
            | (go_at_call_of 40 (Value.string (t.extract 0 k))
               refine (leaf_any (t.extract 0 k) w.drew).mono ?_
               rintro e w1 ⟨p1, rfl, hr1, hb10⟩
               have hb1 := undrew hb10
               have d2 := (hb1.cell (p := ⟨c, 2, none⟩) hlt.out).trans c2)
            | (go_at_call 40
               refine (leaf_any (t.extract k t.size) w1).mono ?_
               rintro e w2 ⟨p2, rfl, hr2, hb20⟩
               have hb2 := hb1.trans (hb20.mono hb1.size)
               have e2 := (hb2.cell (p := ⟨c, 2, none⟩) hlt.out).trans c2))
        go_wp2
        go_ret2
        exact ⟨p1, p2, _, _, rfl, (OG.otree hr1 (by rw [ByteArray.size_extract]; omega)).below hb20, OG.otree hr2 (by rw [ByteArray.size_extract]; omega),
          by rw [tx_otree, extract_toList]; simp [BT.text], by rw [tx_otree, extract_toList]; exact List.take_of_length_le (by simp), hb2⟩
  | node l r ihl ihr =>
    intro p k w hO hk hs
    have hR : Rep w p (.node l r) := hO.rep
    have hR2 := hR
    obtain ⟨c, pl, pr, rfl, hc, hl, hr⟩ := hR
    obtain ⟨d, _, _, _, rfl, hd, cl⟩ := Rep.some hl
    have c0 := (cells_of hc).c0; have c1 := (cells_of hc).c1; have c3 := (cells_of hc).c3
    have d3 := cl.c3
    obtain ⟨S, hS⟩ : ∃ S, S = l.size + r.size := ⟨_, rfl⟩
    rw [← hS] at c3
    have hk' : k ≤ S := by rw [hS]; exact hk
    have hs' : S ≤ 400000000 := by rw [hS]; exact hs
    have hle : l.size ≤ S := by omega
    have HS := hid hS
    have HG := hid (show OG w (some ⟨d, 0, none⟩) (some l) ∧ OG w pr (some r) from ⟨⟨hl, hO.hok.1, Tight.left (ys := r.lv) hO.tight⟩, ⟨hr, hO.hok.2.1, Tight.right (xs := l.lv) hO.tight⟩⟩)
    have HC := hid (And.intro (heap_lt hc) hd)
    have HO := hid hO
    have HL := hid ihl
    have HR := hid ihr
    have htl := hid l.text_length
    clear ihl ihr hO hk hs hc cl hl hr hS
    by_cases h0 : k = 0
    · subst h0
      go_enter Try.func30, Try.ntmps30
      go_wp2
      go_ret2
      exact ⟨none, _, none, some (.node l r), rfl, OG.nil _, HO.out, rfl, by show tx (BT.node l r).lv = _; rw [← BT.text_lv]; rfl, Below.refl _ _⟩
    · by_cases h1 : k = S
      · have hb0 : ((k : Int) == 0) = false := beq_eq_false_iff_ne.2 (by omega)
        have hb1 : ((k : Int) == (S : Int)) = true := beq_iff_eq.2 (by omega)
        have H1 := hid h1
        clear h1
        have hlen : (BT.node l r).text.length = k := by rw [BT.text_length]; show l.size + r.size = k; rw [H1.out, HS.out]
        have HN := hid hlen
        clear hlen
        go_enter Try.func30, Try.ntmps30
        go_wp2
        go_ret2
        refine ⟨_, none, some (.node l r), none, rfl, HO.out, OG.nil _, ?_, ?_, Below.refl _ _⟩
        · show tx (BT.node l r).lv = _
          rw [← BT.text_lv, List.take_of_length_le (by rw [HN.out]; exact Nat.le_refl _)]
        · rw [List.drop_eq_nil_of_le (by rw [HN.out]; exact Nat.le_refl _)]; rfl
      · have hb0 : ((k : Int) == 0) = false := beq_eq_false_iff_ne.2 (by omega)
        have hb1 : ((k : Int) == (S : Int)) = false := beq_eq_false_iff_ne.2 (by omega)
        by_cases hx : k ≤ l.size
        · have hx' : (k : Int) ≤ (l.size : Int) := by omega
          go_enter Try.func30, Try.ntmps30
          go_wp2_with (first
            | (go_at_call 47; refine (isLeaf_node _ _ _ _ hR2).mono ?_; rintro e w' ⟨rfl, rfl⟩)
            | fail)
          refine (HL.out _ k w HG.out.1 hx (by omega)).mono ?_
          rintro e w1 ⟨p1, p2, O1, O2, rfl, g1, g2, t1, t2, hb1'⟩
          have T1 := hid t1
          have T2 := hid t2
          have e1 := (hb1'.cell (p := ⟨c, 1, none⟩) HC.out.1).trans c1
          have hsz : osz O2 ≤ l.size := by rw [osz_tx, t2, List.length_drop, htl.out]; omega
          clear t1 t2
          go_wp2_with (go_at_call 29; refine (join_any _ _ O2 (some r) w1 g2 (HG.out.2.below hb1') (by have := HS.out; show osz O2 + r.size ≤ 900000000; omega)).mono ?_; rintro e w2 ⟨p3, O3, rfl, g3, t3, hb2⟩)
          go_ret2
          refine ⟨p1, p3, O1, O3, rfl, g1.below hb2, g3, ?_, ?_, hb1'.trans (hb2.mono hb1'.size)⟩
          · rw [T1.out]; show _ = (l.text ++ r.text).take k
            rw [List.take_append_of_le_length (by rw [htl.out]; exact hx)]
          · rw [t3, T2.out]; show _ ++ tx r.lv = (l.text ++ r.text).drop k
            rw [List.drop_append_of_le_length (by rw [htl.out]; exact hx), r.text_lv]
        · have hx' : (l.size : Int) < (k : Int) := by omega
          obtain ⟨m, hm⟩ : ∃ m, m = k - l.size := ⟨_, rfl⟩
          have hdm : IntKind.i64.wrap (↑k - ↑l.size) = (m : Int) := by rw [wrapIn (by omega) (by omega)]; omega
          have hmr : m ≤ r.size := by have := HS.out; omega
          have hrS : r.size ≤ S := by have := HS.out; omega
          have HM := hid (show k = l.size + m by omega)
          clear hm
          go_enter Try.func30, Try.ntmps30
          go_wp2_with (go_at_call 47; refine (isLeaf_node _ _ _ _ hR2).mono ?_; rintro e w' ⟨rfl, rfl⟩)
          go_region_held3 (fun w' => w'.cell? ⟨c, 0, none⟩ = some (.pointer (some ⟨d, 0, none⟩)) ∧ w'.cell? ⟨c, 1, none⟩ = some (.pointer pr) ∧ w'.cell? ⟨d, 3, none⟩ = some (.int .i64 l.size)) (first | exact ⟨c0, c1, d3⟩ | exact ⟨e0, e1, e3⟩)
            (first
              | (go_at_call 30
                 refine (HR.out _ m w.drew (HG.out.2.below (Below.refl _ _).drew) hmr (by omega)).mono ?_
                 rintro e w1 ⟨p1, p2, O1, O2, rfl, g1, g2, t1, t2, hb10⟩
                 have hb1' := undrew hb10
                 have T1 := hid t1
                 have T2 := hid t2
                 have e0 := (hb1'.cell (p := ⟨c, 0, none⟩) HC.out.1).trans c0
                 have e1 := (hb1'.cell (p := ⟨c, 1, none⟩) HC.out.1).trans c1
                 have e3 := (hb1'.cell (p := ⟨d, 3, none⟩) HC.out.2).trans d3
                 have hsz : osz O1 ≤ r.size := by rw [osz_tx, t1, List.length_take, r.text_length]; omega
                 clear t1 t2))
          go_wp2_with (go_at_call 29; refine (join_any _ _ (some l) O1 w1 (HG.out.1.below hb1') g1 (by show l.size + osz O1 ≤ 900000000; omega)).mono ?_; rintro e w2 ⟨p3, O3, rfl, g3, t3, hb2⟩)
          go_ret2
          refine ⟨p3, p2, O3, O2, rfl, g3, g2.below hb2, ?_, ?_, hb1'.trans (hb2.mono hb1'.size)⟩
          · rw [t3, T1.out, HM.out]; show tx l.lv ++ _ = (l.text ++ r.text).take _
            rw [← l.text_lv, ← htl.out, List.take_length_add_append]
          · rw [T2.out, HM.out]; show _ = (l.text ++ r.text).drop _
            rw [← htl.out, List.drop_length_add_append]

end Go.Proofs.Ytaafnodabjbakaa
