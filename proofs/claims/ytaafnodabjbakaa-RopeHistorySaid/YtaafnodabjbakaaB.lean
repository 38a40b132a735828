/-
  Contracts: the blocks of a tree as a slice (leaves), the tree of least height over a slice (build).
-/
import Derived.Test.YtaafnodabjbakaaA
import Derived.Test.YtaafnodabjbakaaShelf
import Derived.BigQuiet
import Derived.Deep.QuietTactic
namespace Go.Proofs.Ytaafnodabjbakaa
open Go.RowKit Rp

theorem Try.info24 : (Try.prog.info? 24).map (fun i => (i.zero, i.size, i.bytes)) = some (some (.pointer none), 1, 8) := by kernel_rfl

/-- The pointers ps lead to the blocks ss. -/
def Reps (W : World) : List (Option Addr) → List ByteArray → Prop
  | [], [] => True
  | p :: ps, s :: ss => Rep W p (.leaf s) ∧ Reps W ps ss
  | _, _ => False
theorem Reps.append {W : World} : ∀ {ps qs : List (Option Addr)} {ss ts : List ByteArray}, Reps W ps ss → Reps W qs ts → Reps W (ps ++ qs) (ss ++ ts)
  | [], _, [], _, _, h => h
  | _ :: _, _, _ :: _, _, ⟨h1, h2⟩, h => ⟨h1, Reps.append h2 h⟩
  | [], _, _ :: _, _, h, _ => h.elim
  | _ :: _, _, [], _, h, _ => h.elim
theorem Reps.length {W : World} : ∀ {ps : List (Option Addr)} {ss : List ByteArray}, Reps W ps ss → ps.length = ss.length
  | [], [], _ => rfl
  | _ :: _, _ :: _, ⟨_, h⟩ => by simp [Reps.length h]
  | [], _ :: _, h => h.elim
  | _ :: _, [], h => h.elim
theorem Reps.below {A B : World} (h : Below A.heap.size A B) : ∀ {ps : List (Option Addr)} {ss : List ByteArray}, Reps A ps ss → Reps B ps ss
  | [], [], _ => trivial
  | _ :: _, _ :: _, ⟨h1, h2⟩ => ⟨h1.below h, Reps.below h h2⟩
  | [], _ :: _, h => h.elim
  | _ :: _, [], h => h.elim
theorem Reps.take {W : World} : ∀ (k : Nat) {ps : List (Option Addr)} {ss : List ByteArray}, Reps W ps ss → Reps W (ps.take k) (ss.take k)
  | 0, _, _, _ => trivial
  | _ + 1, [], [], _ => trivial
  | k + 1, _ :: _, _ :: _, ⟨h1, h2⟩ => ⟨h1, Reps.take k h2⟩
  | _ + 1, [], _ :: _, h => h.elim
  | _ + 1, _ :: _, [], h => h.elim
theorem Reps.drop {W : World} : ∀ (k : Nat) {ps : List (Option Addr)} {ss : List ByteArray}, Reps W ps ss → Reps W (ps.drop k) (ss.drop k)
  | 0, _, _, h => h
  | _ + 1, [], [], _ => trivial
  | k + 1, _ :: _, _ :: _, ⟨_, h2⟩ => Reps.drop k h2
  | _ + 1, [], _ :: _, h => h.elim
  | _ + 1, _ :: _, [], h => h.elim

theorem one_cell (w : World) (t : TypeId) (v u : Value) (j : Nat) (hj : ([v] : List Value)[j]? = some u) : (w.alloc (.cells #[v] t)).cell? ((⟨w.heap.size, 0, none⟩ : Addr).add j) = some u := by
  match j, hj with
  | 0, hj =>
    simp only [List.getElem?_cons_zero, Option.some.injEq] at hj
    subst hj
    show World.cell? _ ⟨w.heap.size, 0 + 0, none⟩ = _
    unfold World.cell?
    rw [alloc_new]
    rfl
  | j + 1, hj => simp at hj

set_option maxRecDepth 100000 in
set_option maxHeartbeats 2000000 in
theorem leaves_any (T : BT) : ∀ (W0 w : World) (p : Option Addr) (v : Value) (xs : List (Option Addr)), Rep W0 p T → Below W0.heap.size W0 w →
    w.ownsRow W0.heap.size 24 1 v xs.length (xs.map Value.pointer) → xs.length + T.lv.length ≤ 1000000000 →
    Calls Try.prog 55 #[.pointer p, v] w fun e w' => ∃ (v' : Value) (ys : List (Option Addr)), e = .returned v' ∧ Reps W0 ys T.lv ∧ Below W0.heap.size W0 w' ∧
      w'.ownsRow W0.heap.size 24 1 v' (xs ++ ys).length ((xs ++ ys).map Value.pointer) := by
  obtain ⟨i0, hi, hz0, hz1, hz2⟩ := info_parts Try.info24
  induction T with
  | leaf s =>
    intro W0 w p v xs hR hb hown hlen
    have hR2 : Rep w p (.leaf s) := Rep.later (Nat.le_refl _) hb hR
    simp only [BT.lv, List.length_singleton] at hlen
    have HR := hid hR
    have hsz := hb.size
    clear hR
    go_enter Try.func55, Try.ntmps55
    go_wp2_with (first
      | (go_at_call 47; refine (isLeaf_leaf _ s _ hR2).mono ?_; rintro e w' ⟨rfl, rfl⟩)
      | (at_builtin; refine wpList_append_own _ rfl (.tmp 7) (.tmp 9) 75 rfl W0.heap.size 24 i0 (.pointer none) 1 8 Try.underlying75 hi hz0 hz1 hz2 rfl (by decide) _ _ _ rfl (hown.alloc _) ⟨w.heap.size, 0, none⟩ 1 1 [.pointer p] rfl rfl ?c1 ?c2 ?c3 ?c4 ?c5 ?_))
    case c1 => exact fun j u hj => one_cell _ _ _ _ _ hj
    case c2 => intro u hu; simp at hu; subst hu; rfl
    case c3 => unfold maxLen; omega
    case c4 => omega
    case c5 => simp; omega
    intro v' w1 hown' hgrow _
    go_wp2
    go_ret
    refine ⟨v', [p], rfl, ⟨HR.out, trivial⟩, (hb.alloc hsz _).grown hgrow (by simp; omega) (fun k hk => (hown.lt k hk).1), ?_⟩
    simpa using hown'
  | node l r ihl ihr =>
    intro W0 w p v xs hR hb hown hlen
    have hR2 : Rep w p (.node l r) := Rep.later (Nat.le_refl _) hb hR
    obtain ⟨b, pl, pr, rfl, hb0, hl, hr⟩ := hR
    have Keep := hid (show ∀ w', Below W0.heap.size W0 w' → w'.cell? ⟨b, 0, none⟩ = some (.pointer pl) ∧ w'.cell? ⟨b, 1, none⟩ = some (.pointer pr) from fun w' h =>
      ⟨(h.cell (p := ⟨b, 0, none⟩) (heap_lt hb0)).trans (cells_of hb0).c0, (h.cell (p := ⟨b, 1, none⟩) (heap_lt hb0)).trans (cells_of hb0).c1⟩)
    simp only [BT.lv, List.length_append] at hlen
    have Hl := hid (ihl W0)
    have Hr := hid (ihr W0)
    have HR := hid (And.intro hl hr)
    clear ihl ihr hb0 hl hr
    go_enter Try.func55, Try.ntmps55
    go_wp2_with (go_at_call 47; refine (isLeaf_node _ _ _ _ hR2).mono ?_; rintro e w' ⟨rfl, rfl⟩)
    go_region_held3 (fun w' => w'.cell? ⟨b, 0, none⟩ = some (.pointer pl) ∧ w'.cell? ⟨b, 1, none⟩ = some (.pointer pr)) (first | exact Keep.out _ hb.drew | exact Keep.out _ hb1 | exact Keep.out _ hb2)
      (first
        | (go_at_call_of 55 (Value.pointer pl); refine (Hl.out _ pl v xs HR.out.1 hb.drew hown.drew (by omega)).mono ?_; rintro e w1 ⟨v1, ys1, rfl, hr1, hb1, hown1⟩)
        | (go_at_call_of 55 (Value.pointer pr); refine (Hr.out _ pr v1 (xs ++ ys1) HR.out.2 hb1 hown1 (by have := hr1.length; simp; omega)).mono ?_; rintro e w2 ⟨v2, ys2, rfl, hr2, hb2, hown2⟩))
    go_wp2
    go_ret
    exact ⟨v2, ys1 ++ ys2, rfl, hr1.append hr2, hb2, by simpa [List.append_assoc] using hown2⟩

theorem tight_split {ss : List ByteArray} (h : Tight ss) (k : Nat) : Tight (ss.take k) ∧ Tight (ss.drop k) := by
  rw [← List.take_append_drop k ss] at h
  exact ⟨h.left, h.right⟩
theorem sz_split (ss : List ByteArray) (k : Nat) : sz (ss.take k) + sz (ss.drop k) = sz ss := by rw [← sz_append, List.take_append_drop]

theorem undrew {w w' : World} (h : Below w.drew.heap.size w.drew w') : Below w.heap.size w w' := ((Below.refl w.heap.size w).drew).trans h

/-- The pointers ps lie at place off of block g. -/
def At (w : World) (g off : Nat) (ps : List (Option Addr)) : Prop := ∀ j q, ps[j]? = some q → w.cell? ⟨g, off + j, none⟩ = some (.pointer q)
theorem At.take {w : World} {g off : Nat} {ps : List (Option Addr)} (h : At w g off ps) (m : Nat) : At w g off (ps.take m) := fun j q hj => by
  rw [List.getElem?_take] at hj
  split at hj
  · exact h j q hj
  · cases hj
theorem At.drop {w : World} {g off : Nat} {ps : List (Option Addr)} (h : At w g off ps) (m : Nat) : At w g (off + m) (ps.drop m) := fun j q hj => by
  rw [List.getElem?_drop] at hj
  rw [Nat.add_assoc]
  exact h _ q hj
theorem At.below {A B : World} {g off : Nat} {ps : List (Option Addr)} (h : At A g off ps) (hg : g < A.heap.size) (hb : Below A.heap.size A B) : At B g off ps := fun j q hj =>
  (hb.cell (p := ⟨g, off + j, none⟩) hg).trans (h j q hj)

set_option maxRecDepth 100000 in
set_option maxHeartbeats 2000000 in
theorem build_any (n : Nat) : ∀ (ps : List (Option Addr)) (ss : List ByteArray) (w : World) (g off cap : Nat), ps.length = n → 1 ≤ n → n ≤ cap → cap ≤ 9223372036854775807 →
    At w g off ps → g < w.heap.size → Reps w ps ss → Tight ss → sz ss ≤ 1000000000 → n ≤ 1000000000 →
    Calls Try.prog 41 #[.slice (some ⟨g, off, none⟩) n cap] w fun e w' => ∃ (p : Option Addr) (T : BT), e = .returned (.pointer p) ∧ Rep w' p T ∧ T.lv = ss ∧ T.hok ∧ (∀ k, n ≤ 2 ^ k → T.ht ≤ k) ∧ Below w.heap.size w w' := by
  induction n using Nat.strongRecOn with
  | ind n ih =>
    intro ps ss w g off cap hn h1 hcap hmax hc hg hR ht hs hbig
    by_cases hn1 : n = 1
    · subst hn1
      match ps, ss, hn, hR with
      | [q], [s], _, hR =>
        have c0 : w.cell? ⟨g, off, none⟩ = some (.pointer q) := hc 0 q rfl
        have HR := hid hR
        clear hR hc ih
        go_enter Try.func41, Try.ntmps41
        go_wp2
        go_ret
        exact ⟨q, .leaf s, rfl, HR.out.1, rfl, trivial, fun k _ => Nat.zero_le _, Below.refl _ _⟩
    · have hb0 : ((n : Int) == 0) = false := beq_eq_false_iff_ne.2 (by omega)
      have hb1 : ((n : Int) == 1) = false := beq_eq_false_iff_ne.2 (by omega)
      obtain ⟨m, hm⟩ : ∃ m, m = (n + 1) / 2 := ⟨_, rfl⟩
      have hm1 : m < n := by omega
      have hm2 : 1 ≤ m := by omega
      have HI := hid (ih m hm1)
      have HJ := hid (ih (n - m) (by omega))
      have HC := hid hc
      have HR := hid hR
      have HN := hid hn
      have HM := hid hm
      have hdm : ((n : Int) + 1) / 2 = (m : Int) := by omega
      have hm0 : (0 : Int) ≤ (m : Int) := by omega
      have hmn : (m : Int) ≤ (n : Int) := by omega
      have hmc : (m : Int) ≤ (cap : Int) := by omega
      have hnc : (n : Int) ≤ (cap : Int) := by omega
      have hcm : ¬ cap = m := by omega
      clear ih hc hR hn hm
      go_enter Try.func41, Try.ntmps41
      go_wp2
      go_region_held3 (fun _ => True) (trivial)
        (first
          | (go_at_call_of 41 (Value.slice (some ⟨g, off, none⟩) m cap)
             refine (HI.out (ps.take m) (ss.take m) w.drew g off cap (by have := HN.out; simp; omega) hm2 (by omega) hmax (HC.out.take m) hg ((HR.out.take m).below (Below.refl _ _).drew) (tight_split ht m).1 (by have := sz_split ss m; omega) (by omega)).mono ?_
             rintro e w1 ⟨p1, T1, rfl, hr1, hl1, hk1, hh1, hbl0⟩
             have hbl1 := undrew hbl0)
          | (go_at_call 41
             refine (HJ.out (ps.drop m) (ss.drop m) w1 g (off + m) (cap - m) (by have := HN.out; simp; omega) (by omega) (by omega) (by omega) ((HC.out.below hg hbl1).drop m) (Nat.lt_of_lt_of_le hg hbl1.size) ((HR.out.drop m).below hbl1) (tight_split ht m).2 (by have := sz_split ss m; omega) (by omega)).mono ?_
             rintro e w2 ⟨p2, T2, rfl, hr2, hl2, hk2, hh2, hbl2⟩)
          | (go_at_call 50
             refine (inner_any p1 p2 T1 T2 w2 (hr1.below hbl2) hr2 (by rw [BT.size_of_lv hl1, BT.size_of_lv hl2]; have := sz_split ss m; omega) (Nat.le_trans (hh1 30 (by omega)) (by omega)) (Nat.le_trans (hh2 30 (by omega)) (by omega))).mono ?_
             rintro e w3 ⟨p3, rfl, hr3, hbl3⟩))
      go_wp2
      go_ret
      have hM := HM.out
      have hN := HN.out
      have hL := HR.out.length
      have hlv : (BT.node T1 T2).lv = ss := by show T1.lv ++ T2.lv = ss; rw [hl1, hl2, List.take_append_drop]
      have hht : ∀ k, n ≤ 2 ^ k → (BT.node T1 T2).ht ≤ k := by
        intro k hk
        cases k with
        | zero => omega
        | succ k =>
          rw [Nat.pow_succ] at hk
          have a := hh1 k (by omega)
          have b := hh2 k (by omega)
          simp only [BT.ht]; omega
      refine ⟨p3, .node T1 T2, rfl, hr3, hlv, ⟨hk1, hk2, ?_⟩, hht, (hbl1.trans (hbl2.mono hbl1.size)).trans (hbl3.mono (Nat.le_trans hbl1.size hbl2.size))⟩
      have h3 : T1.size + T2.size = sz ss := by rw [BT.size_of_lv hl1, BT.size_of_lv hl2]; exact sz_split ss m
      rw [h3]
      exact built_height ht (by omega) (fun k hk => hht k (by omega))

end Go.Proofs.Ytaafnodabjbakaa
