/-
  Slices of sets in memory; deferred lists of several ranges over functions; the contract of Classes.
-/
import Derived.Test.YtnjlnldbfejjpaaDoorJ
import Derived.Test.YtnjlnldbfejjpaaDoorOp
import Derived.RangeFuncWrites
import Derived.Shelf.Abstract
set_option linter.unusedSimpArgs false
set_option linter.unusedVariables false
namespace Go.Proofs.YtnjlnldbfejjpaaDoor
open Go.RowKit Bs Go.Frame Go.Shelf

attribute [local go_sem] Oper.semAt_some
attribute [local irreducible] nb cnt pc els cf fs

/-- The cells of a set, as a list. -/
def sl (p : Nat → Bool) : List Value := [.int .u64 (wd p 0 : Int), .int .u64 (wd p 1 : Int), .int .u64 (wd p 2 : Int), .int .u64 (wd p 3 : Int)]
/-- A slice of sets in memory. -/
def Sets (W : World) (a : Option Addr) (n : Nat) (E : List (Nat → Bool)) : Prop := CRow 4 W a n (E.map sl)
theorem Sets.below {W W' : World} {a : Option Addr} {n : Nat} {E : List (Nat → Bool)} (h : Sets W a n E) (hb : Below W.heap.size W W') : Sets W' a n E := CRow.below h hb
theorem Sets.length {W : World} {a : Option Addr} {n : Nat} {E : List (Nat → Bool)} (h : Sets W a n E) : E.length = n := by have := h.1; simpa using this
/-- The blocks of deferred calls that a function has laid. -/
def Dfs (n0 : Nat) (W : World) : List Nat → Prop
  | [] => True
  | D :: r => n0 ≤ D ∧ W.heap[D]? = some (.deferred (some [])) ∧ (∀ x ∈ r, x < D) ∧ Dfs n0 W r
def dcl (Ds : List Nat) : List Deferred := Ds.map fun D => { target := .collected D, args := #[] }
theorem info3 : (Tryd.prog.info? 3).map (fun i => (i.zero, i.size, i.bytes)) = some (some (.int .i64 0), 1, 8) := by kernel_rfl
theorem make_ints (w : World) : (Instr.makeSlice 43 (.int .i64 256) (.int .i64 256)).run Tryd.prog w = .ok (.slice (some ⟨w.heap.size, 0, none⟩) 256 256) (w.alloc (.cells (ic 256 fun _ => 0) 3)) := by
  obtain ⟨i, hi, h0, h1, h2⟩ := info_parts info3
  have := run_make (P := Tryd.prog) w 43 3 i _ Tryd.underlying43 hi h0 .i64 .i64 256 256 (by omega) (Int.le_refl _) (by rw [h2]; omega) (by omega)
  rw [h1, show (Value.int .i64 0).cells = #[.int .i64 0] by kernel_rfl] at this
  have e : madeCells #[Value.int .i64 0] 256 = ic 256 fun _ => 0 := by
    unfold madeCells ic
    congr 1
    funext t
    rw [show (#[Value.int .i64 0] : Array Value).size = 1 from rfl, Nat.mod_one]
    rfl
  simpa [e] using this
theorem Dfs.kept {n0 : Nat} {W W' : World} : ∀ {Ds : List Nat}, Dfs n0 W Ds → (∀ D ∈ Ds, W'.heap[D]? = W.heap[D]?) → Dfs n0 W' Ds
  | [], _, _ => trivial
  | D :: r, h, k => ⟨h.1, (k D (by simp)).trans h.2.1, h.2.2.1, Dfs.kept h.2.2.2 fun x hx => k x (by simp [hx])⟩
theorem Dfs.mem {n0 : Nat} {W : World} : ∀ {Ds : List Nat}, Dfs n0 W Ds → ∀ D ∈ Ds, n0 ≤ D ∧ D < W.heap.size ∧ W.heap[D]? = some (.deferred (some []))
  | [], _, D, h => by simp at h
  | D :: r, h, x, hx => by
    rcases List.mem_cons.1 hx with rfl | hx
    · exact ⟨h.1, heap_lt h.2.1, h.2.1⟩
    · exact Dfs.mem h.2.2.2 x hx
theorem Dfs.cells {n0 : Nat} {W : World} {Ds : List Nat} (h : Dfs n0 W Ds) {b : Nat} {c : Array Value} {t : TypeId} {f : Nat × Nat} (hb : W.heap[b]? = some (.cells c t f)) : ∀ D ∈ Ds, D ≠ b := by
  rintro D hD rfl
  have := (h.mem D hD).2.2
  rw [hb] at this; cases this
/-- A function's way out behind several ranges over functions. -/
theorem leaves_dcl {fn : Func} {tmps : Array Value} {R : Ending → World → Prop} {n0 : Nat} : ∀ (Ds : List Nat) (W : World), Dfs n0 W Ds →
    (∀ W', Kept (fun b => b ∈ Ds) W W' → LeavesIn Fence.wide 6 Tryd.prog fn tmps R [] .returning W') → LeavesInM Fence.wide 6 Tryd.prog fn tmps R (dcl Ds) .returning W
  | [], W, _, k => k W (Kept.refl _ _)
  | D :: r, W, h, k => by
    refine ⟨by simp, .inl ⟨_, _, rfl, run_takeDeferred h.2.1, ?_⟩⟩
    have hk : Kept (fun b => b ∈ D :: r) W (W.putObj D (.deferred none)) := ⟨rfl, rfl, rfl, by simp [World.putObj], fun b hb => World.putObj_heap_other (fun e => hb (by rw [e]; simp))⟩
    refine leaves_dcl r _ (h.2.2.2.kept fun x hx => World.putObj_heap_other (by have := h.2.2.1 x hx; omega)) fun W' hW' => k W' (hk.trans (hW'.mono fun b hb => by simp [hb]))
theorem own_block {A B : World} {row : Option Nat} {b : Nat} {c : Array Value} {t : TypeId} {f : Nat × Nat} (h : A.heap[b]? = some (.cells c t f)) (hg : A.grownBy B row) (hr : ∀ r, row = some r → ∃ o : Obj, A.heap[r]? = some o ∧ o.isCells = false) : B.heap[b]? = some (.cells c t f) := by
  refine (hg.block b (heap_lt h) ?_).trans h
  intro e
  obtain ⟨o, ho, hc⟩ := hr b e.symm
  rw [h] at ho; cases ho; cases hc
theorem keeps_below {W W' : World} (h : Below W.heap.size W W') : KeepsOthers W W' := ⟨h.size, fun k o hk _ => (h.block k (heap_lt hk)).trans hk⟩
/-- The classes when bytes have come: each has 256 more. -/
def bump (T : Nat → Int) (pre : List (Fin 256)) : Nat → Int := pre.foldl (fun T x => upd T x.1 (IntKind.i64.wrap (T x.1 + 256))) T
theorem bump_snoc (T : Nat → Int) (pre : List (Fin 256)) (x : Fin 256) : bump T (pre ++ [x]) = upd (bump T pre) x.1 (IntKind.i64.wrap (bump T pre x.1 + 256)) := by
  unfold bump; rw [List.foldl_append]; rfl
theorem bump_els (T : Nat → Int) (p : Nat → Bool) (hT : ∀ t, 0 ≤ T t ∧ T t ≤ 1000) : ∀ k, k ≤ 256 → ∀ t, bump T (els p k) t = if t < k ∧ p t = true then T t + 256 else T t
  | 0, _, t => by rw [els]; simp [bump]
  | k + 1, hk, t => by
    have ih := bump_els T p hT k (by omega)
    by_cases hp : p k = true
    · rw [els_hit hp (by omega), bump_snoc]
      unfold upd
      simp only
      by_cases e : t = k
      · subst e
        have h2 := hT t
        rw [if_pos rfl, ih, if_neg (by omega), if_pos ⟨by omega, hp⟩]
        exact wrapIn (by omega) (by omega)
      · rw [if_neg e, ih]
        by_cases h : t < k ∧ p t = true
        · rw [if_pos h, if_pos ⟨by omega, h.2⟩]
        · rw [if_neg h, if_neg (fun h' => h ⟨by omega, h'.2⟩)]
    · rw [els_skip (m := k) (m' := k + 1) (by omega) (fun j h1 h2 => by rw [show j = k by omega]; simpa using hp), ih]
      by_cases h : t < k ∧ p t = true
      · rw [if_pos h, if_pos ⟨by omega, h.2⟩]
      · rw [if_neg h, if_neg]
        rintro ⟨h1, h2⟩
        by_cases e : t = k
        · rw [e] at h2; exact hp h2
        · exact h ⟨by omega, h2⟩
theorem bump_num (l : List (Nat → Bool)) (p : Nat → Bool) : ic 256 (bump (fun t => (num (Em l) t : Int)) (els p 256)) = ic 256 fun t => ((num (Em l) t + 256 * (p t).toNat : Nat) : Int) := by
  have hb : ic 256 (fun t => (num (Em l) t : Int)) = ic 256 (fun t => if t < 256 then (num (Em l) t : Int) else 0) := ic_congr fun t ht => by rw [if_pos ht]
  have h := bump_els (fun t => if t < 256 then (num (Em l) t : Int) else 0) p (fun t => by
    have := num_le (Em l) t
    show 0 ≤ (if t < 256 then (num (Em l) t : Int) else 0) ∧ (if t < 256 then (num (Em l) t : Int) else 0) ≤ 1000
    split <;> omega) 256 (by omega)
  have key : ∀ (pre : List (Fin 256)) (T U : Nat → Int), (∀ t, t < 256 → T t = U t) → ∀ t, t < 256 → bump T pre t = bump U pre t := by
    intro pre
    induction pre with
    | nil => exact fun T U h => h
    | cons x pre ih =>
      intro T U h
      refine ih _ _ fun t ht => ?_
      show upd T _ _ t = upd U _ _ t
      unfold upd
      rw [h x.1 x.2, h t ht]
  refine ic_congr fun t ht => ?_
  rw [key _ _ (fun t => if t < 256 then (num (Em l) t : Int) else 0) (fun t ht => by rw [if_pos ht]) t ht, h]
  simp only [ht, true_and, if_true]
  cases p t <;> simp
/-- What Classes comes to. -/
def ClRes (E : List (Nat → Bool)) (w : World) (e : Ending) (w' : World) : Prop :=
  (∃ g, e = .returned (.slice (some ⟨g, 0, none⟩) 256 256) ∧ w'.heap[g]? = some (.cells (ic 256 fun t => (num (Em E) t : Int)) 3 (0, 0)) ∧ w.heap.size ≤ g) ∧ Below w.heap.size w w'

theorem num_nil (t : Nat) : num (Em []) t = 0 := by
  have h : fs (Em []) t = 0 := by
    unfold fs
    exact lst_eq (Nat.zero_le _) (fun _ => by simp [Em]) (fun b hb => by omega)
  unfold num; rw [h, cf]
set_option maxRecDepth 100000 in
set_option maxHeartbeats 4000000 in
theorem Classes_any (a : Option Addr) (n c : Nat) (E : List (Nat → Bool)) (w : World) (hn : n ≤ 1000) (hE : Sets w a n E) (hT : Tb w) : Calls Tryd.prog 27 #[.slice a n c] w fun e w' => ClRes E w e w' := by
  have hmk := make_ints
  refine (callsIn_wide (n := 6)).1 ?_
  refine callsIn_of_wp_marks Tryd.func27 rfl trivial ?_ rfl
  simp only [Tryd.ntmps27, List.size_toArray, List.length_cons, List.length_nil, Nat.reduceAdd, Nat.reduceSub, Array.replicate_succ, Array.replicate_zero, List.push_toArray, List.append_toArray, List.nil_append, List.cons_append]
  gi_wp2
  have hl0 := hE.length
  obtain ⟨W, hW⟩ : ∃ W, W = ((w.alloc (.cells (ic 256 fun _ => 0) 3)).alloc (.cells #[.slice (some ⟨w.heap.size, 0, none⟩) 256 256] 43)) := ⟨_, rfl⟩
  obtain ⟨x0, x1, bW, hsz⟩ := two w (.cells (ic 256 fun _ => 0) 3) (.cells #[.slice (some ⟨w.heap.size, 0, none⟩) 256 256] 43)
  rw [← hW] at x0 x1 bW hsz ⊢
  clear hW
  have HT := hid hT
  have HE := hid hE
  have HL := hid hl0
  clear hT hE hl0
  refine wpIn_loop (fun a' wr => ∃ (i : Nat) (Ds : List Nat) (u5 u6 u11 u12 u13 u14 u15 u16 u17 u18 u19 u20 u21 u22 u23 u24 u25 u26 : Value), a' = { tmps := #[.slice a n c, undef, .slice none 0 0, .pointer (some ⟨w.heap.size + 1, 0, none⟩), undef, u5, u6, .slice (some ⟨w.heap.size, 0, none⟩) 256 256, .slice a n c, .int .i64 (n : Int), .int .i64 (i : Int), u11, u12, u13, u14, u15, u16, u17, u18, u19, u20, u21, u22, u23, u24, u25, u26], defers := dcl Ds } ∧ i ≤ n ∧ wr.heap[w.heap.size]? = some (.cells (ic 256 fun t => (num (Em (E.take i)) t : Int)) 3 (0, 0)) ∧ wr.heap[w.heap.size + 1]? = some (.cells #[.slice (some ⟨w.heap.size, 0, none⟩) 256 256] 43 (0, 0)) ∧ Dfs w.heap.size wr Ds ∧ Below w.heap.size w wr) (fun a' _ => n - (intOf (a'.tmps.getD 10 undef)).toNat) ?_ ?_
  · refine ⟨0, [], _, _, _, _, _, _, _, _, _, _, _, _, _, _, _, _, _, _, rfl, Nat.zero_le _, ?_, x1, trivial, bW⟩
    rw [x0, ic_congr (T := fun t => (num (Em (E.take 0)) t : Int)) (U := fun _ => 0) (fun t ht => by rw [List.take_zero, num_nil]; rfl)]
  · rintro a' wr ⟨i, Ds, u5, u6, u11, u12, u13, u14, u15, u16, u17, u18, u19, u20, u21, u22, u23, u24, u25, u26, rfl, hi, hG, hC, hD, hB⟩
    by_cases hlt : i < n
    · have hlt' : (i : Int) < (n : Int) := by omega
      have hi0 : (0 : Int) ≤ (i : Int) := by omega
      rcases HE.out.2 with h0 | ⟨b, off, rfl, hbl, hrow⟩
      · omega
      · obtain ⟨p, hp⟩ : ∃ p, E[i]? = some p := ⟨E[i]'(by have := HL.out; omega), List.getElem?_eq_getElem (by have := HL.out; omega)⟩
        have hrow' : ∀ j v, (sl p)[j]? = some v → wr.cell? ⟨b, off + i * 4 + j, none⟩ = some v := fun j v hv =>
          (hB.cell (p := ⟨b, _, none⟩) hbl).trans (hrow i (sl p) (by rw [List.getElem?_map, hp]; rfl) j v hv)
        have r0 := hrow' 0 _ rfl
        have r1 := hrow' 1 _ rfl
        have r2 := hrow' 2 _ rfl
        have r3 := hrow' 3 _ rfl
        rw [Nat.add_zero] at r0
        have HH := hid (And.intro hG (And.intro hC (And.intro hD (And.intro hB (And.intro hp hlt)))))
        have CA := hid (fun V => show Calls Tryd.prog 25 #[.agg #[.int .u64 (wd (p) 0 : Int), .int .u64 (wd (p) 1 : Int), .int .u64 (wd (p) 2 : Int), .int .u64 (wd (p) 3 : Int)]] V fun e w' => e = .returned (.func (.func 33) #[] #[.pointer (some ⟨V.heap.size, 0, none⟩)]) ∧ w' = V.alloc (.cells #[.int .u64 (wd (p) 0 : Int), .int .u64 (wd (p) 1 : Int), .int .u64 (wd (p) 2 : Int), .int .u64 (wd (p) 3 : Int)] 25) from All_any p V)
        clear hG hC hD hB hrow hrow' hbl hlt hp x0 x1 bW hsz
        gi_wp2
        refine ⟨trivial, callsIn_wide.2 ((CA.out _).mono ?_)⟩
        rintro e w3 ⟨rfl, rfl⟩
        gi_wp2
        obtain ⟨Y, hY⟩ : ∃ Y, Y = (wr.alloc (.cells #[.int .u64 (wd (p) 0 : Int), .int .u64 (wd (p) 1 : Int), .int .u64 (wd (p) 2 : Int), .int .u64 (wd (p) 3 : Int)] 25)).alloc (.cells #[.int .u64 (wd (p) 0 : Int), .int .u64 (wd (p) 1 : Int), .int .u64 (wd (p) 2 : Int), .int .u64 (wd (p) 3 : Int)] 25) := ⟨_, rfl⟩
        obtain ⟨y0, y1, bY, ysz⟩ := two wr (.cells #[.int .u64 (wd (p) 0 : Int), .int .u64 (wd (p) 1 : Int), .int .u64 (wd (p) 2 : Int), .int .u64 (wd (p) 3 : Int)] 25) (.cells #[.int .u64 (wd (p) 0 : Int), .int .u64 (wd (p) 1 : Int), .int .u64 (wd (p) 2 : Int), .int .u64 (wd (p) 3 : Int)] 25)
        have hsz1 : (wr.alloc (.cells #[.int .u64 (wd (p) 0 : Int), .int .u64 (wd (p) 1 : Int), .int .u64 (wd (p) 2 : Int), .int .u64 (wd (p) 3 : Int)] 25)).heap.size = wr.heap.size + 1 := by simp
        try rw [hsz1]
        rw [← hY] at y0 y1 bY ysz ⊢
        clear hY
        obtain ⟨hG, hC, hD, hB, hp, hlt⟩ := HH.out
        have hbs := hB.size
        have lG := heap_lt hG
        have lC := heap_lt hC
        refine wpIn_rangeFunc_ownF (n := 6) rfl (by omega) (gf := 33) (lb := #[.pointer (some ⟨wr.heap.size + 1, 0, none⟩)]) rfl trivial (enters_of Tryd.func33 (by kernel_rfl) rfl)
          (all_stops 5 (wr.heap.size + 1) (by omega) Y p y1 ((HT.out.below hB).below bY)) Zero.trans
          (fun X l o o' hl h _ _ => World.putObj_heap_other (by omega)) (Below.refl _ _) (fun _ => rfl)
          (fun pre W' => (W'.heap[w.heap.size]? = some (.cells (ic 256 (bump (fun t => (num (Em (E.take i)) t : Int)) pre)) 3 (0, 0)) ∧ W'.heap[w.heap.size + 1]? = some (.cells #[.slice (some ⟨w.heap.size, 0, none⟩) 256 256] 43 (0, 0)) ∧ ((∀ D ∈ Ds, D < Y.heap.size) ∧ Dfs w.heap.size W' Ds) ∧ Y.heap.size ≤ W'.heap.size) ∧ Below w.heap.size w W')
          (fun _ _ _ => False)
          (OwnFrom.and (fun s A B row hs hg hr => ⟨own_block hs.1 hg (fun r e => (hr r e).2), own_block hs.2.1 hg (fun r e => (hr r e).2), ⟨hs.2.2.1.1, hs.2.2.1.2.kept fun D hD => hg.block D (hs.2.2.1.2.mem D hD).2.1 (fun e => by have h1 := (hr D e.symm).1; have h2 := hs.2.2.1.1 D hD; omega)⟩, Nat.le_trans hs.2.2.2 hg.size⟩) (ownFrom_below (Nat.le_refl _) (by omega)))
          (fun _ _ _ _ _ hs _ _ => hs)
          ⟨⟨(bY.block _ lG).trans hG, (bY.block _ lC).trans hC, ⟨fun D h => by have := (hD.mem D h).2.1; omega, hD.kept fun D h => bY.block D (hD.mem D h).2.1⟩, Nat.le_refl _⟩, hB.trans (bY.mono hbs)⟩
          (fun x => { tmps := #[.slice (some ⟨b, off, none⟩) n c, undef, .slice none 0 0, .pointer (some ⟨w.heap.size + 1, 0, none⟩), undef, .pointer (some ⟨wr.heap.size, 0, none⟩), .int .u8 (x.1 : Int), .slice (some ⟨w.heap.size, 0, none⟩) 256 256, .slice (some ⟨b, off, none⟩) n c, .int .i64 (n : Int), .int .i64 (i : Int), .bool true, .pointer (some ⟨b, off + i * 4, none⟩), .agg #[.int .u64 (wd (p) 0 : Int), .int .u64 (wd (p) 1 : Int), .int .u64 (wd (p) 2 : Int), .int .u64 (wd (p) 3 : Int)], .agg #[.int .u64 (wd (p) 0 : Int), .int .u64 (wd (p) 1 : Int), .int .u64 (wd (p) 2 : Int), .int .u64 (wd (p) 3 : Int)], .func (.func 33) #[] #[.pointer (some ⟨wr.heap.size + 1, 0, none⟩)], .int .u8 (x.1 : Int), u17, u18, u19, u20, u21, u22, u23, u24, u25, u26], defers := [] }) ?assign ?body ?done ?stop
        case assign =>
          intro l x W K hK
          unfold encB
          gi_wp2
          exact hK
        case body =>
          rintro l pre x W' ⟨⟨gG, gC, gD, hS⟩, hB'⟩ hpl
          have c0 := cells1 gC
          have c1 : W'.cell? ⟨w.heap.size, x.1, none⟩ = some (.int .i64 (bump (fun t => (num (Em (E.take i)) t : Int)) pre x.1)) := ic_cell gG x.2
          have f0 := free gG x.1
          have x0 : (0 : Int) ≤ (x.1 : Int) := by omega
          have x1 : (x.1 : Int) < 256 := by have := x.2; omega
          obtain ⟨z, hz⟩ : ∃ z, z = bump (fun t => (num (Em (E.take i)) t : Int)) pre x.1 := ⟨_, rfl⟩
          rw [← hz] at c1
          obtain ⟨v, hv⟩ : ∃ v, v = x.1 := ⟨_, rfl⟩
          rw [← hv] at c1 f0 x0 x1 ⊢
          obtain ⟨y, hy⟩ : ∃ y, IntKind.i64.wrap (z + 256) = y := ⟨_, rfl⟩
          have HY := hid hy
          have HQ := hid (And.intro gG (And.intro gC (And.intro gD (And.intro hS (And.intro hB' (And.intro hz hv))))))
          clear gG gC gD hS hB' hz hv hpl hG hC hD hB y0 y1 bY
          gi_wp2
          obtain ⟨gG, gC, ⟨gd, gD⟩, hS, hB', hz, hv⟩ := HQ.out
          refine ⟨KeepsOthers.setCell _ _ _, heap_setCell_other _ _ _ _ (by show 0 ≠ w.heap.size; have := HT.out.1; omega), ⟨?_, blk_set gC (by show w.heap.size + 1 ≠ w.heap.size; omega), ⟨gd, gD.kept fun D hD => heap_setCell_other _ _ _ _ (gD.cells gG D hD)⟩, by simpa using hS⟩, below_put hB' (Nat.le_refl _)⟩
          rw [bump_snoc, ← hz, HY.out, ← hv, ← ic_upd]
          exact blk_put gG
        case done =>
          rintro D ys W' hD2 rfl ⟨⟨gG, gC, ⟨gd, gD⟩, hS⟩, hB'⟩ hK
          rw [bump_num] at gG
          have hR := renumber_any w.heap.size (fun t => num (Em (E.take i)) t + 256 * (p t).toNat) W' (fun t ht => by
            have := num_le (Em (E.take i)) t
            have := Bool.toNat_le (p t)
            show num (Em (E.take i)) t + 256 * (p t).toNat < 512
            omega) gG
          have c0 := cells1 gC
          have HQ := hid (And.intro gC (And.intro gd (And.intro gD (And.intro hS (And.intro hB' (And.intro hK (And.intro hD2 gG)))))))
          have HR := hid hR
          have HP := hid (And.intro hp hlt)
          have HS := hid (And.intro ysz hbs)
          clear gG gC gd gD hS hB' hK hR hG hC hD hB y0 y1 bY hD2 hp hlt ysz hbs lG lC
          gi_wp2
          refine ⟨trivial, callsIn_wide.2 (HR.out.mono ?_)⟩
          rintro e w5 ⟨⟨v, rfl⟩, g5, k5⟩
          gi_wp2
          obtain ⟨gC, gd, gD, hS, hB', hK, hD2, gG⟩ := HQ.out
          obtain ⟨hp, hlt⟩ := HP.out
          obtain ⟨ysz, hbs⟩ := HS.out
          have k7 := hB'.size
          refine ⟨⟨i + 1, D :: Ds, _, _, _, _, _, _, _, _, _, _, _, _, _, _, _, _, _, _, by simp only [dcl, List.map_cons, Int.natCast_add, Int.natCast_one]; rfl, by omega, ?_, ?_, ⟨by omega, ?_, fun x hx => by have := gd x hx; omega, gD.kept fun x hx => k5.block x ?_⟩, ?_⟩, ?_⟩
          · rw [g5, List.take_add_one, hp]
            rw [ic_congr fun t ht => by rw [num_add _ p ht]]
            rfl
          · exact (k5.block _ (by have := heap_lt gC; omega)).trans gC
          · exact (k5.block _ (by have := heap_lt hK; omega)).trans hK
          · have h1 := (gD.mem x hx).1
            have h2 := (gD.mem x hx).2.1
            have h3 := gD.mem x hx
            rintro (e | e)
            · exact gD.cells gG x hx e
            · omega
          · exact hB'.trans ((k5.toBelow (n := w.heap.size) fun b hb => by rcases hb with rfl | hb <;> omega))
          · simp [intOf]; omega
        case stop =>
          rintro D c pre W _ _ h _
          exact h.elim
    · have hin : ¬ (i : Int) < (n : Int) := by omega
      have i4 : i = n := by omega
      have c0 := cells1 hC
      have HH := hid (And.intro hG (And.intro hC (And.intro hD (And.intro hB i4))))
      clear hG hC hD hB i4 x0 x1 bW hsz
      gi_wp2
      refine leaves_dcl Ds wr HH.out.2.2.1 fun W' hW' => ?_
      obtain ⟨hG, hC, hD, hB, i4⟩ := HH.out
      refine ⟨.slice (some ⟨w.heap.size, 0, none⟩) 256 256, by simp [results, Tryd.results27, go_sem], ⟨w.heap.size, rfl, ?_, Nat.le_refl _⟩, ?_⟩
      · refine (hW'.block _ fun hm => hD.cells hG _ hm rfl).trans (hG.trans ?_)
        rw [List.take_of_length_le (by have := HL.out; omega)]
      · exact hB.trans (hW'.toBelow fun b hb => (hD.mem b hb).1)
end Go.Proofs.YtnjlnldbfejjpaaDoor
