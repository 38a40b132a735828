/-
  Contracts: Clone, MoveAll.
-/
import Derived.Test.YtcfcbemfnibaeaaA
import Derived.WalkSpells
import Derived.Laws.AppendOwn
import Derived.OwnWalk

namespace Go.Proofs.Ytcfcbemfnibaeaa
open Go.RowKit

theorem alloc_new (w : World) (o : Obj) : (w.alloc o).heap[w.heap.size]? = some o := by
  show (w.heap.push o)[w.heap.size]? = some o
  exact Array.getElem?_push_size

theorem cells2 {W : World} {b : Nat} {x y : Value} {t : TypeId} (h : W.heap[b]? = some (.cells #[x, y] t (0, 0))) : W.cell? ⟨b, 0, none⟩ = some x ∧ W.cell? ⟨b, 1, none⟩ = some y := by
  refine ⟨?_, ?_⟩ <;> simp [World.cell?, h]
theorem heap_lt {W : World} {b : Nat} {o : Obj} (h : W.heap[b]? = some o) : b < W.heap.size := (Array.getElem?_eq_some_iff.1 h).1
theorem cells3 {W : World} {b : Nat} {x y z : Value} {t : TypeId} (h : W.heap[b]? = some (.cells #[x, y, z] t (0, 0))) : W.cell? ⟨b, 0, none⟩ = some x ∧ W.cell? ⟨b, 1, none⟩ = some y ∧ W.cell? ⟨b, 2, none⟩ = some z := by
  refine ⟨?_, ?_, ?_⟩ <;> simp [World.cell?, h]

theorem info23 : (Try.prog.info? 23).map (fun i => (i.zero, i.size, i.bytes)) = some (some (.agg #[.int .i64 0, .bool false]), 2, 16) := by kernel_rfl

set_option maxHeartbeats 1000000 in
theorem clone_any (b o n c : Nat) (w : World) (hn : 0 < n) (hn' : n ≤ 1000) (xs : List Value) (hl : xs.length = n * 2) (hx : ∀ j u, xs[j]? = some u → w.cell? ((⟨b, o, none⟩ : Addr).add j) = some u) (h1 : ∀ u ∈ xs, u.oneCell' = true) (hbl : b < w.heap.size) :
    Calls Try.prog 16 #[.slice (some ⟨b, o, none⟩) n c] w fun e w' => ∃ v : Value, e = .returned v ∧ w'.ownsRow w.heap.size 23 2 v n xs ∧ v ≠ .slice none 0 0 ∧ Below w.heap.size w w' := by
  obtain ⟨i0, hi, hz0, hz1, hz2⟩ := info_parts info23
  have he := fun (w : World) => Lib.run_eql_slice_nil (P := Try.prog) w 33 23 (some ⟨b, o, none⟩) n c 0 0 Try.underlying33
  have HX := hid (show ∀ W', Below w.heap.size w W' → ∀ j u, xs[j]? = some u → W'.cell? ((⟨b, o, none⟩ : Addr).add j) = some u from fun W' hb j u hu => (hb.cell (p := (⟨b, o, none⟩ : Addr).add j) (by unfold Addr.add; split <;> exact hbl)).trans (hx j u hu))
  have HH := hid h1
  have HL := hid hl
  clear hx h1 hl
  go_enter Try.func16, Try.ntmps16
  go_wp2_with (at_builtin; refine wpList_append_own _ rfl (.tmp 5) (.tmp 6) 33 rfl w.heap.size 23 i0 (.agg #[.int .i64 0, .bool false]) 2 16 Try.underlying33 hi hz0 hz1 hz2 rfl (by decide) _ 0 [] rfl ?c0 ⟨b, o, none⟩ n c xs rfl HL.out ?c1 HH.out ?c2 ?c3 ?c4 ?_)
  case c0 => exact ⟨rfl, .inr ⟨w.heap.size, 0, #[], rfl, Nat.le_refl _, alloc_new _ _, by omega, by unfold maxLen; omega, rfl, rfl⟩⟩
  case c1 => exact HX.out _ ((Below.refl _ _).alloc (Nat.le_refl _) _)
  case c2 => unfold maxLen; omega
  case c3 => omega
  case c4 => simp
  intro v' w1 hown hgrow hnil
  have hb : Below w.heap.size w w1 := ((Below.refl _ _).alloc (Nat.le_refl _) _).grown hgrow (by simp) (fun k hk => by simp [Value.ownBlock] at hk; omega)
  go_wp2
  go_ret
  exact ⟨_, rfl, hown, hnil, hb⟩

/-- A row of anchors from the head of block g. -/
def Anc (W : World) (g : Nat) (l : List (Int × Bool)) : Prop :=
  ∀ i (x : Int × Bool), l[i]? = some x → W.cell? ⟨g, i * 2, none⟩ = some (.int .i64 x.1) ∧ W.cell? ⟨g, i * 2 + 1, none⟩ = some (.bool x.2) ∧ W.frozen? ⟨g, i * 2, none⟩ = false ∧ W.frozen? ⟨g, i * 2 + 1, none⟩ = false
/-- A row of edits. -/
def Eds (W : World) (b : Nat) (E : List (Int × Int × ByteArray)) : Prop :=
  ∀ i (x : Int × Int × ByteArray), E[i]? = some x → W.cell? ⟨b, i * 3, none⟩ = some (.int .i64 x.1) ∧ W.cell? ⟨b, i * 3 + 1, none⟩ = some (.int .i64 x.2.1) ∧ W.cell? ⟨b, i * 3 + 2, none⟩ = some (.string x.2.2)
theorem Eds.below {W W' : World} {b : Nat} {E : List (Int × Int × ByteArray)} (h : Eds W b E) (hb : b < W.heap.size) (hbe : Below W.heap.size W W') : Eds W' b E := fun i x hx =>
  let ⟨h1, h2, h3⟩ := h i x hx
  ⟨(hbe.cell (p := ⟨b, _, none⟩) hb).trans h1, (hbe.cell (p := ⟨b, _, none⟩) hb).trans h2, (hbe.cell (p := ⟨b, _, none⟩) hb).trans h3⟩
theorem Anc.below {W W' : World} {g : Nat} {l : List (Int × Bool)} (h : Anc W g l) (hb : g < W.heap.size) (hbe : Below W.heap.size W W') : Anc W' g l := fun i x hx =>
  let ⟨h1, h2, h3, h4⟩ := h i x hx
  ⟨(hbe.cell (p := ⟨g, _, none⟩) hb).trans h1, (hbe.cell (p := ⟨g, _, none⟩) hb).trans h2, (hbe.frozen (p := ⟨g, _, none⟩) hb).trans h3, (hbe.frozen (p := ⟨g, _, none⟩) hb).trans h4⟩
def mvl (l : List (Int × Bool)) (e : Int × Int × ByteArray) : List (Int × Bool) := l.map fun x => (mv x.1 x.2 e.1 e.2.1 e.2.2.size, x.2)
theorem mvl_length (l : List (Int × Bool)) (e : Int × Int × ByteArray) : (mvl l e).length = l.length := by simp [mvl]
theorem mid_at (L : List (Int × Bool)) (e : Int × Int × ByteArray) (j : Nat) (x : Int × Bool) (h : L[j]? = some x) : ((mvl L e).take j ++ L.drop j)[j]? = some x := by
  have := (List.getElem?_eq_some_iff.1 h).1
  have e1 : ((mvl L e).take j).length = j := by rw [List.length_take, mvl_length]; omega
  rw [List.getElem?_append_right (by omega), e1, Nat.sub_self, List.getElem?_drop]
  exact h
theorem mid_length (L : List (Int × Bool)) (e : Int × Int × ByteArray) (j : Nat) : ((mvl L e).take j ++ L.drop j).length = L.length := by
  rw [List.length_append, List.length_take, mvl_length, List.length_drop]; omega
theorem fold_length (E : List (Int × Int × ByteArray)) : ∀ l : List (Int × Bool), (E.foldl mvl l).length = l.length := by
  induction E with
  | nil => intro l; rfl
  | cons e E ih => intro l; rw [List.foldl_cons, ih, mvl_length]
theorem fold_take (E : List (Int × Int × ByteArray)) (i : Nat) (e : Int × Int × ByteArray) (h : E[i]? = some e) (l : List (Int × Bool)) : (E.take (i + 1)).foldl mvl l = mvl ((E.take i).foldl mvl l) e := by
  rw [List.take_add_one, h]
  simp
theorem mid_set (L : List (Int × Bool)) (e : Int × Int × ByteArray) (j : Nat) (x : Int × Bool) (h : L[j]? = some x) : (mvl L e).take (j + 1) ++ L.drop (j + 1) = ((mvl L e).take j ++ L.drop j).set j (mv x.1 x.2 e.1 e.2.1 e.2.2.size, x.2) := by
  have hl := (List.getElem?_eq_some_iff.1 h).1
  have e1 : ((mvl L e).take j).length = j := by rw [List.length_take, mvl_length]; omega
  have e2 : (mvl L e)[j]? = some (mv x.1 x.2 e.1 e.2.1 e.2.2.size, x.2) := by unfold mvl; rw [List.getElem?_map, h]; rfl
  rw [List.set_append, if_neg (by omega), e1, Nat.sub_self, List.take_add_one, e2, List.drop_eq_getElem_cons hl, List.set_cons_zero]
  simp
theorem Anc.set {W : World} {g j : Nat} {l : List (Int × Bool)} (h : Anc W g l) (hj : j < l.length) (x : Int × Bool) :
    Anc ((W.setCell ⟨g, j * 2, none⟩ (.int .i64 x.1)).setCell ⟨g, j * 2 + 1, none⟩ (.bool x.2)) g (l.set j x) := by
  obtain ⟨y, hy⟩ : ∃ y, l[j]? = some y := ⟨_, List.getElem?_eq_getElem hj⟩
  obtain ⟨a0, a1, a2, a3⟩ := h j y hy
  intro i z hz
  by_cases e : i = j
  · subst e
    rw [List.getElem?_set_self hj] at hz
    cases hz
    refine ⟨?_, ?_, by simpa using a2, by simpa using a3⟩
    · rw [World.cell?_setCell_other _ _ _ _ (by simp)]
      exact World.cell?_setCell_same _ _ _ a0
    · exact World.cell?_setCell_same _ _ _ ((World.cell?_setCell_other _ _ _ _ (by simp)).trans a1)
  · rw [List.getElem?_set_ne (fun h => e h.symm)] at hz
    obtain ⟨b0, b1, b2, b3⟩ := h i z hz
    refine ⟨?_, ?_, by simpa using b2, by simpa using b3⟩
    · rw [World.cell?_setCell_other _ _ _ _ (fun h => by injection h; omega), World.cell?_setCell_other _ _ _ _ (fun h => by injection h; omega)]
      exact b0
    · rw [World.cell?_setCell_other _ _ _ _ (fun h => by injection h; omega), World.cell?_setCell_other _ _ _ _ (fun h => by injection h; omega)]
      exact b1
def MidL (l : List (Int × Bool)) (e : Int × Int × ByteArray) : Prop := ∀ x ∈ l, Mid x.1 e.1 e.2.1 e.2.2.size
def acells (l : List (Int × Bool)) : List Value := l.flatMap fun x => [.int .i64 x.1, .bool x.2]

theorem acells_length (l : List (Int × Bool)) : (acells l).length = l.length * 2 := by
  induction l with
  | nil => rfl
  | cons x l ih => simp only [acells, List.flatMap_cons, List.length_append] at *; simp [ih]; omega
theorem acells_at : ∀ (l : List (Int × Bool)) (i : Nat) (x : Int × Bool), l[i]? = some x → (acells l)[i * 2]? = some (.int .i64 x.1) ∧ (acells l)[i * 2 + 1]? = some (.bool x.2)
  | y :: l, 0, x, h => by
    simp at h; subst h
    exact ⟨rfl, rfl⟩
  | y :: l, i + 1, x, h => by
    obtain ⟨h1, h2⟩ := acells_at l i x (by simpa using h)
    rw [show (i + 1) * 2 = i * 2 + 1 + 1 by omega, show i * 2 + 1 + 1 + 1 = (i * 2 + 1) + 1 + 1 by omega]
    exact ⟨h1, h2⟩
theorem acells_one (l : List (Int × Bool)) : ∀ u ∈ acells l, u.oneCell' = true := by
  intro u hu
  simp only [acells, List.mem_flatMap] at hu
  obtain ⟨x, _, h⟩ := hu
  simp at h
  rcases h with rfl | rfl <;> rfl
theorem acells_cells {W : World} {b : Nat} {l : List (Int × Bool)} (h : Anc W b l) : ∀ j u, (acells l)[j]? = some u → W.cell? ((⟨b, 0, none⟩ : Addr).add j) = some u := by
  intro j u hu
  have hj : j < l.length * 2 := by rw [← acells_length]; exact (List.getElem?_eq_some_iff.1 hu).1
  have e : (⟨b, 0, none⟩ : Addr).add j = ⟨b, j, none⟩ := by unfold Addr.add; split <;> simp_all
  rw [e]
  obtain ⟨x, hx⟩ : ∃ x, l[j / 2]? = some x := ⟨_, List.getElem?_eq_getElem (by omega)⟩
  obtain ⟨c0, c1, _, _⟩ := h _ x hx
  obtain ⟨d0, d1⟩ := acells_at l _ x hx
  rcases Nat.mod_two_eq_zero_or_one j with e | e
  · rw [show j / 2 * 2 = j by omega] at c0 d0
    rw [c0, ← hu, d0]
  · rw [show j / 2 * 2 + 1 = j by omega] at c1 d1
    rw [c1, ← hu, d1]
theorem anc_of_row {W : World} {g : Nat} {cur : Array Value} {l : List (Int × Bool)} (h : W.heap[g]? = some (.cells cur 23 (0, 0))) (ht : cur.toList.take (l.length * 2) = acells l) : Anc W g l := by
  intro i x hx
  have hi := (List.getElem?_eq_some_iff.1 hx).1
  obtain ⟨d0, d1⟩ := acells_at l i x hx
  rw [← ht, List.getElem?_take] at d0 d1
  rw [if_pos (by omega)] at d0 d1
  simp only [Array.getElem?_toList] at d0 d1
  refine ⟨?_, ?_, ?_, ?_⟩
  · simp [World.cell?, h, d0]
  · simp [World.cell?, h, d1]
  · simp [World.frozen?, h]
  · simp [World.frozen?, h]

theorem blk_alloc {W : World} {b : Nat} {o o' : Obj} (h : W.heap[b]? = some o) : (W.alloc o').heap[b]? = some o := by
  have hb := heap_lt h
  show (W.heap.push o')[b]? = some o
  rw [Array.getElem?_push_lt hb]
  rw [Array.getElem?_eq_getElem hb] at h
  exact h
theorem anc_blk {W : World} {g : Nat} {l : List (Int × Bool)} (h : W.heap[g]? = some (.cells (acells l).toArray 23 (0, 0))) : Anc W g l :=
  anc_of_row h (by rw [← acells_length]; simp)
def ecells (l : List (Int × Int × ByteArray)) : List Value := l.flatMap fun x => [.int .i64 x.1, .int .i64 x.2.1, .string x.2.2]
theorem ecells_at : ∀ (l : List (Int × Int × ByteArray)) (i : Nat) (x : Int × Int × ByteArray), l[i]? = some x → (ecells l)[i * 3]? = some (.int .i64 x.1) ∧ (ecells l)[i * 3 + 1]? = some (.int .i64 x.2.1) ∧ (ecells l)[i * 3 + 2]? = some (.string x.2.2)
  | y :: l, 0, x, h => by
    simp at h; subst h
    exact ⟨rfl, rfl, rfl⟩
  | y :: l, i + 1, x, h => by
    obtain ⟨h1, h2, h3⟩ := ecells_at l i x (by simpa using h)
    rw [show (i + 1) * 3 = i * 3 + 1 + 1 + 1 by omega, show i * 3 + 1 + 1 + 1 + 1 = (i * 3 + 1) + 1 + 1 + 1 by omega, show i * 3 + 1 + 1 + 1 + 2 = (i * 3 + 2) + 1 + 1 + 1 by omega]
    exact ⟨h1, h2, h3⟩
theorem eds_blk {W : World} {g : Nat} {l : List (Int × Int × ByteArray)} (h : W.heap[g]? = some (.cells (ecells l).toArray 25 (0, 0))) : Eds W g l := by
  intro i x hx
  obtain ⟨d0, d1, d2⟩ := ecells_at l i x hx
  refine ⟨?_, ?_, ?_⟩
  · simp [World.cell?, h, d0]
  · simp [World.cell?, h, d1]
  · simp [World.cell?, h, d2]

set_option maxRecDepth 100000 in
set_option maxHeartbeats 2000000 in
theorem moveAll_any (b n c be m cm : Nat) (l : List (Int × Bool)) (E : List (Int × Int × ByteArray)) (w : World) (hn : 0 < n) (hn' : n ≤ 1000) (hm' : m ≤ 1000) (hm0 : 0 < m)
    (hl : l.length = n) (hE : E.length = m) (ha : Anc w b l) (he : Eds w be E) (hb : b < w.heap.size) (hbe : be < w.heap.size)
    (hmid : ∀ k e, E[k]? = some e → MidL ((E.take k).foldl mvl l) e) :
    Calls Try.prog 13 #[.slice (some ⟨b, 0, none⟩) n c, .slice (some ⟨be, 0, none⟩) m cm] w fun e w' => ∃ g cap, e = .returned (.slice (some ⟨g, 0, none⟩) n cap) ∧ Anc w' g (E.foldl mvl l) ∧ w.heap.size ≤ g ∧ g < w'.heap.size ∧ n ≤ cap ∧ Below w.heap.size w w' := by
  have hmn : ¬ m = 0 := by omega
  have HE := hid (show ∀ W', Below w.heap.size w W' → Eds W' be E from fun W' h => he.below hbe h)
  have HM := hid hmid
  have HL := hid (And.intro hl hE)
  have HC := hid (show (acells l).length = n * 2 ∧ (∀ j u, (acells l)[j]? = some u → w.cell? ((⟨b, 0, none⟩ : Addr).add j) = some u) ∧ ∀ u ∈ acells l, u.oneCell' = true from ⟨by rw [acells_length, hl], acells_cells ha, acells_one l⟩)
  clear hmid hl hE he ha
  go_enter Try.func13, Try.ntmps13
  go_wp2_with fail
  refine (clone_any b 0 n c w hn hn' (acells l) HC.out.1 HC.out.2.1 HC.out.2.2 hb).mono ?_
  rintro e w1 ⟨v, rfl, hown, hv, hb1⟩
  obtain ⟨g, cap, cur, rfl, hg, hblk, hnc, hcm, hcur, htake⟩ : ∃ g cap cur, v = .slice (some ⟨g, 0, none⟩) n cap ∧ w.heap.size ≤ g ∧ w1.heap[g]? = some (.cells cur 23 (0, 0)) ∧ n ≤ cap ∧ cap ≤ maxLen ∧ cur.size = cap * 2 ∧ cur.toList.take (n * 2) = acells l := hown.2.resolve_left (fun h => hv h.1)
  have hA : Anc w1 g l := anc_of_row hblk (by rw [← HL.out.1] at htake; exact htake)
  have hglt : g < w1.heap.size := (Array.getElem?_eq_some_iff.1 hblk).1
  clear hown hv hblk hcur htake
  go_wp2_with fail
  go_loopg [14] m (fun k s wr => ∃ i : Nat, s = .int .i64 i ∧ i + k = m ∧ Anc wr g ((E.take i).foldl mvl l) ∧ Below w.heap.size w wr ∧ g < wr.heap.size)
  case atStart => exact ⟨0, rfl, by omega, hA, hb1, hglt⟩
  case round =>
    obtain ⟨i, rfl, hk, hAi, hbi, hgi⟩ := hrel
    by_cases hlt : i < m
    · have hlt' : (i : Int) < (m : Int) := by omega
      have hi0 : (0 : Int) ≤ (i : Int) := by omega
      obtain ⟨⟨a, d, s⟩, hx⟩ : ∃ x, E[i]? = some x := ⟨_, List.getElem?_eq_getElem (by rw [HL.out.2]; exact hlt)⟩
      obtain ⟨c0, c1, c2⟩ := (HE.out _ hbi) i _ hx
      have HX := hid hx
      clear hx
      go_wp2_with fail
      obtain ⟨B, hB⟩ : ∃ B, B = wr.heap.size := ⟨_, rfl⟩
      rw [← hB]
      obtain ⟨W1, hW1⟩ : ∃ W1, W1 = wr.alloc (.cells #[.int .i64 a, .int .i64 d, .string s] 25) := ⟨_, rfl⟩
      rw [← hW1]
      have hbx : W1.heap[B]? = some (.cells #[.int .i64 a, .int .i64 d, .string s] 25 (0, 0)) := by rw [hW1, hB]; exact alloc_new _ _
      have b1 : Below wr.heap.size wr W1 := by rw [hW1]; exact (Below.refl _ _).alloc (Nat.le_refl _) _
      have hA1 : Anc W1 g ((E.take i).foldl mvl l) := hAi.below hgi b1
      have hbw1 : Below w.heap.size w W1 := hbi.trans (b1.mono hbi.size)
      have hBg : g < B := by rw [hB]; exact hgi
      have hwB : w.heap.size ≤ B := by rw [hB]; exact hbi.size
      obtain ⟨L, hL⟩ : ∃ L, L = (E.take i).foldl mvl l := ⟨_, rfl⟩
      rw [← hL] at hA1
      have HLL := hid hL
      have hLn : Hid (L.length = n) := by
        rw [hL]
        rw [fold_length, HL.out.1]
        exact hid rfl
      have hmd : Hid (MidL L (a, d, s)) := by rw [hL]; exact HM.out i _ HX.out
      clear hB hW1 hL hAi b1 c0 c1 c2
      obtain ⟨go, rfl⟩ : ∃ go, go = gk := ⟨_, rfl⟩
      go_loopg [20] n (fun q t wy => ∃ j : Nat, t = .int .i64 j ∧ j + q = n ∧ Anc wy g ((mvl L (a, d, s)).take j ++ L.drop j) ∧ Below w.heap.size w wy ∧ wy.heap[B]? = some (.cells #[.int .i64 a, .int .i64 d, .string s] 25 (0, 0)))
      case atStart => exact ⟨0, rfl, by omega, by simpa using hA1, hbw1, hbx⟩
      case round =>
        obtain ⟨j, rfl, hq, hAj, hbj, hbj2⟩ := hrel
        by_cases hjlt : j < n
        · have hjlt' : (j : Int) < (n : Int) := by omega
          have hj0 : (0 : Int) ≤ (j : Int) := by omega
          obtain ⟨⟨x, r⟩, hxj⟩ : ∃ x, L[j]? = some x := ⟨_, List.getElem?_eq_getElem (by rw [hLn.out]; exact hjlt)⟩
          have hM : Mid x a d s.size := hmd.out _ (List.mem_of_getElem? hxj)
          have hxm := mid_at L (a, d, s) j _ hxj
          obtain ⟨k0, k1, k2, k3⟩ := hAj j _ hxm
          have KA := hid (show ∀ W', Below wr.heap.size wr W' → Anc W' g ((mvl L (a, d, s)).take j ++ L.drop j) from fun W' h => hAj.below (by have := heap_lt hbj2; omega) h)
          have KB := hid (show ∀ W', Below wr.heap.size wr W' → W'.heap[B]? = some (.cells #[.int .i64 a, .int .i64 d, .string s] 25 (0, 0)) from fun W' h => (h.block _ (heap_lt hbj2)).trans hbj2)
          have HXJ := hid hxj
          have HXM := hid hxm
          obtain ⟨e0, e1, e2⟩ := cells3 hbj2
          have hgr : g < wr.heap.size := by have := heap_lt hbj2; omega
          have hBr : B < wr.heap.size := heap_lt hbj2
          clear hxj hxm hAj hbj2
          go_wp2_with fail
          refine (move_any _ _ _ _ _ _ hM).mono ?_
          rintro e w2 ⟨rfl, hb2⟩
          have hb3 : Below wr.heap.size wr w2 := ((Below.refl _ _).alloc (Nat.le_refl _) _).trans (hb2.mono (by simp))
          obtain ⟨k0, k1, k2, k3⟩ := KA.out _ hb3 j _ HXM.out
          go_wp2_with fail
          go_roundg (gk - 1)
          case measure => omega
          case rel =>
            refine ⟨j + 1, by go_num, by omega, ?_, ?_, ?_⟩
            · rw [mid_set L (a, d, s) j _ HXJ.out]
              exact (KA.out _ hb3).set (j := j) (by rw [mid_length, hLn.out]; exact hjlt) _
            · exact ((hbj.trans (hb3.mono hbj.size)).setCell hg _).setCell hg _
            · rw [Below.heap_setCell _ _ _ _ (by simp; omega), Below.heap_setCell _ _ _ _ (by simp; omega)]
              exact KB.out _ hb3
        · have hjn : ¬ (j : Int) < (n : Int) := by omega
          have ej : j = n := by omega
          have hfin : Anc wr g (mvl L (a, d, s)) := by
            have e1 : (mvl L (a, d, s)).take j ++ L.drop j = mvl L (a, d, s) := by
              rw [List.drop_eq_nil_of_le (by rw [hLn.out]; omega), List.append_nil, List.take_of_length_le (by rw [mvl_length, hLn.out]; omega)]
            rw [e1] at hAj
            exact hAj
          have hgr : g < wr.heap.size := by have := heap_lt hbj2; omega
          clear ej hAj hbj2
          go_wp2_with fail
          go_roundg (go - 1)
          case measure => omega
          case rel =>
            refine ⟨i + 1, by go_num, by omega, ?_, hbj, hgr⟩
            rw [fold_take E i _ HX.out l, ← HLL.out]
            exact hfin
    · have hin : ¬ (i : Int) < (m : Int) := by omega
      have ei : i = m := by omega
      have hfin : Anc wr g (E.foldl mvl l) := by
        rw [List.take_of_length_le (by rw [HL.out.2]; omega)] at hAi
        exact hAi
      clear ei hAi
      go_wp2_with fail
      go_ret
      exact ⟨g, cap, rfl, hfin, hg, hgi, hnc, hbi⟩
end Go.Proofs.Ytcfcbemfnibaeaa
