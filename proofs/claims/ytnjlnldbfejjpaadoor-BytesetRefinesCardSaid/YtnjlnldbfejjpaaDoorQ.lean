/-
  Contract: elements.
-/
import Derived.Test.YtnjlnldbfejjpaaDoorY
import Derived.OwnWalkIn
set_option linter.unusedSimpArgs false
set_option linter.unusedVariables false
namespace Go.Proofs.YtnjlnldbfejjpaaDoor
open Go.RowKit Bs Go.Frame Go.Shelf
attribute [local irreducible] nb cnt pc els cf fs
attribute [local go_sem] Oper.semAt_some

theorem eql_fn (a : Addr) (w : World) : Sem.run Tryd.prog (binOp BinOp.eql 38 (.func (.func 33) #[] #[.pointer (some a)]) .nilFunc) w = .ok (.bool false) w := by kernel_rfl
attribute [local go_sem] eql_fn
theorem ownsRow_own {A B : World} {row : Option Nat} {base e s : Nat} {v : Value} {n : Nat} {xs : List Value} (h : A.ownsRow base e s v n xs) (hg : A.grownBy B row) (hr : ∀ r, row = some r → ∃ o : Obj, A.heap[r]? = some o ∧ o.isCells = false) : B.ownsRow base e s v n xs := by
  refine ⟨h.1, ?_⟩
  rcases h.2 with hn | ⟨g, cap, cur, rfl, hb, hgc, rest⟩
  · exact .inl hn
  · exact .inr ⟨g, cap, cur, rfl, hb, own_block hgc hg hr, rest⟩
theorem keeps_grown {W W' : World} {base e s : Nat} {v : Value} {n : Nat} {xs : List Value} (h : W.ownsRow base e s v n xs) (hg : W.grownBy W' v.ownBlock) : KeepsOthers W W' := by
  refine ⟨hg.size, fun k o hk ho => (hg.block k (heap_lt hk) (fun e => ?_)).trans hk⟩
  rcases h.2 with ⟨hn, _⟩ | ⟨g, cap, cur, hv, hb, hgc, _⟩
  · rw [hn] at e; simp [Value.ownBlock] at e
  · rw [hv] at e
    simp only [Value.ownBlock, Option.some.injEq] at e
    rw [e, hgc] at hk; cases hk; cases ho
/-- What elements comes to. -/
def ElRes (p : Nat → Bool) (w : World) (e : Ending) (w' : World) : Prop :=
  (∃ a c, e = .returned (.tuple #[.slice a (cnt p 256) c, .bool true]) ∧ Row w' a (cnt p 256) (bys (els p 256))) ∧ Below w.heap.size w w'
set_option maxRecDepth 100000 in
set_option maxHeartbeats 4000000 in
theorem elements_any (p : Nat → Bool) (w : World) (hT : Tb w) : Calls Tryd.prog 24 #[sv p] w fun e w' => ElRes p w e w' := by
  obtain ⟨i0, hi, hz0, hz1, hz2⟩ := info_parts Tryd.info5
  have CA := hid (fun V => show Calls Tryd.prog 25 #[.agg #[.int .u64 (wd (p) 0 : Int), .int .u64 (wd (p) 1 : Int), .int .u64 (wd (p) 2 : Int), .int .u64 (wd (p) 3 : Int)]] V fun e w' => e = .returned (.func (.func 33) #[] #[.pointer (some ⟨V.heap.size, 0, none⟩)]) ∧ w' = V.alloc (.cells #[.int .u64 (wd (p) 0 : Int), .int .u64 (wd (p) 1 : Int), .int .u64 (wd (p) 2 : Int), .int .u64 (wd (p) 3 : Int)] 25) from All_any p V)
  refine (callsIn_wide (n := 6)).1 ?_
  unfold sv
  refine callsIn_of_wp_marks Tryd.func24 rfl trivial ?_ rfl
  simp only [Tryd.ntmps24, List.size_toArray, List.length_cons, List.length_nil, Nat.reduceAdd, Nat.reduceSub, Array.replicate_succ, Array.replicate_zero, List.push_toArray, List.append_toArray, List.nil_append, List.cons_append]
  gi_wp2
  refine ⟨trivial, callsIn_wide.2 ((CA.out _).mono ?_)⟩
  rintro e w3 ⟨rfl, rfl⟩
  gi_wp2
  obtain ⟨W, hW⟩ : ∃ W, W = (((((w.alloc (.cells #[.int .u64 (wd (p) 0 : Int), .int .u64 (wd (p) 1 : Int), .int .u64 (wd (p) 2 : Int), .int .u64 (wd (p) 3 : Int)] 25)).alloc (.cells #[.slice none 0 0] 34)).alloc (.cells #[.bool false] 4)).alloc (.cells #[.int .u64 (wd (p) 0 : Int), .int .u64 (wd (p) 1 : Int), .int .u64 (wd (p) 2 : Int), .int .u64 (wd (p) 3 : Int)] 25)).alloc (.cells #[.slice none 0 0] 34)) := ⟨_, rfl⟩
  have bW : Below w.heap.size w W := by rw [hW]; exact (((((Below.refl _ _).alloc (Nat.le_refl _) _).alloc (by simp) _).alloc (by simp; omega) _).alloc (by simp; omega) _).alloc (by simp; omega) _
  have hsz : W.heap.size = w.heap.size + 5 := by rw [hW]; simp
  have y1 : W.heap[w.heap.size + 1]? = some (.cells #[.slice none 0 0] 34 (0, 0)) := by rw [hW]; exact blk_alloc (blk_alloc (blk_alloc (alloc_at _ _ (by simp))))
  have y2 : W.heap[w.heap.size + 1 + 1]? = some (.cells #[.bool false] 4 (0, 0)) := by rw [hW]; exact blk_alloc (blk_alloc (alloc_at _ _ (by simp)))
  have y3 : SB W (w.heap.size + 1 + 1 + 1) p := by rw [hW]; exact blk_alloc (alloc_at _ _ (by simp))
  have y4 : W.heap[w.heap.size + 1 + 1 + 1 + 1]? = some (.cells #[.slice none 0 0] 34 (0, 0)) := by rw [hW]; exact alloc_at _ _ (by simp)
  rw [← hW]
  clear hW
  refine wpIn_rangeFunc_ownF (n := 6) rfl (by omega) (gf := 33) (lb := #[.pointer (some ⟨w.heap.size + 1 + 1 + 1, 0, none⟩)]) rfl trivial (enters_of Tryd.func33 (by kernel_rfl) rfl)
    (all_stops 5 (w.heap.size + 1 + 1 + 1) (by omega) W p y3 (hT.below bW)) Zero.trans
    (fun X l o o' hl h _ _ => World.putObj_heap_other (by omega)) (Below.refl _ _) (fun _ => rfl)
    (fun pre W' => (W'.heap[w.heap.size + 1]? = some (.cells #[.slice none 0 0] 34 (0, 0)) ∧ W'.heap[w.heap.size + 1 + 1]? = some (.cells #[.bool false] 4 (0, 0)) ∧
      (∃ v, W'.heap[w.heap.size + 1 + 1 + 1 + 1]? = some (.cells #[v] 34 (0, 0)) ∧ W'.ownsRow (w.heap.size + 5) 5 1 v pre.length (bys pre)) ∧ W.heap.size ≤ W'.heap.size) ∧ Below w.heap.size w W')
    (fun _ _ _ => False)
    (OwnFrom.and (fun s A B row hs hg hr => ⟨own_block hs.1 hg (fun r e => (hr r e).2), own_block hs.2.1 hg (fun r e => (hr r e).2), hs.2.2.1.elim fun v h => ⟨v, own_block h.1 hg (fun r e => (hr r e).2), ownsRow_own h.2 hg (fun r e => (hr r e).2)⟩, Nat.le_trans hs.2.2.2 hg.size⟩) (ownFrom_below (Nat.le_refl _) (by omega)))
    (fun _ _ _ _ _ hs _ _ => hs)
    ⟨⟨y1, y2, ⟨_, y4, World.ownsRow_nil _ _ _ _⟩, Nat.le_refl _⟩, bW⟩
    (fun x => { tmps := #[.agg #[.int .u64 (wd (p) 0 : Int), .int .u64 (wd (p) 1 : Int), .int .u64 (wd (p) 2 : Int), .int .u64 (wd (p) 3 : Int)], .pointer (some ⟨w.heap.size, 0, none⟩), .pointer (some ⟨w.heap.size + 1, 0, none⟩), .pointer (some ⟨w.heap.size + 1 + 1, 0, none⟩), .func (.func 33) #[] #[.pointer (some ⟨w.heap.size + 1 + 1 + 1, 0, none⟩)], .pointer (some ⟨w.heap.size + 1 + 1 + 1 + 1, 0, none⟩), .int .u8 (x.1 : Int), .agg #[.int .u64 (wd (p) 0 : Int), .int .u64 (wd (p) 1 : Int), .int .u64 (wd (p) 2 : Int), .int .u64 (wd (p) 3 : Int)], .func (.func 33) #[] #[.pointer (some ⟨w.heap.size + 1 + 1 + 1, 0, none⟩)], .func (.func 33) #[] #[.pointer (some ⟨w.heap.size + 1 + 1 + 1, 0, none⟩)], .bool false, .func (.func 33) #[] #[.pointer (some ⟨w.heap.size + 1 + 1 + 1, 0, none⟩)], .int .u8 (x.1 : Int), undef, undef, undef, undef, undef, undef, undef, undef], defers := [] }) ?assign ?body ?done ?stop
  case assign =>
    intro l x W K hK
    unfold encB
    gi_wp2
    exact hK
  case body =>
    rintro l pre x W' ⟨⟨g1, g2, ⟨v, g4, gR⟩, gS⟩, gB⟩ hpl
    obtain ⟨a, c, rfl⟩ := own_form gR
    have c0 := cells1 g4
    have f0 := free g4 0
    have n3 : ¬ (300 : Int) ≤ (pre.length : Int) := by omega
    obtain ⟨k, hk⟩ : ∃ k, k = pre.length := ⟨_, rfl⟩
    rw [← hk] at c0 n3 gR g4
    obtain ⟨z, hz⟩ : ∃ z : Int, z = (x.1 : Int) := ⟨_, rfl⟩
    rw [← hz]
    have HH := hid (And.intro g1 (And.intro g2 (And.intro g4 (And.intro gS (And.intro gB (And.intro hk (And.intro hpl (And.intro hz hsz))))))))
    have HR := hid gR
    clear g1 g2 g4 gS gB hk hpl hz gR y1 y2 y3 y4 bW hsz hT
    gi_wp2_with (gi_at_builtin; refine wpListIn_append_own _ rfl (.tmp 16) (.tmp 18) 34 rfl (w.heap.size + 5) 5 i0 (.int .u8 0) 1 1 Tryd.underlying34 hi hz0 hz1 hz2 rfl (by decide) _ _ _ rfl (HR.out.alloc _) ⟨W'.heap.size, 0, none⟩ 1 1 [.int .u8 z] rfl rfl ?c1 ?c2 ?c3 ?c4 ?c5 ?_)
    case c2 => first | rfl | (intro u hu; simp at hu; subst hu; rfl)
    case c3 => have := HH.out; unfold maxLen; omega
    case c4 => have := HH.out; omega
    case c5 => have := HH.out; simp; omega
    intro v' w1 hown' hgrow _
    obtain ⟨a', c', rfl⟩ := own_form hown'
    obtain ⟨g1, g2, g4, gS, gB, hk, hpl, hz, hsz⟩ := HH.out
    have hlt : ∀ r, (Value.slice a k c).ownBlock = some r → w.heap.size + 5 ≤ r := fun r hr => (HR.out.lt r hr).1
    have blk : ∀ b o, b < w.heap.size + 5 → W'.heap[b]? = some o → w1.heap[b]? = some o := fun b o hb ho => by
      refine (hgrow.block b ?_ ?_).trans (blk_alloc ho)
      · have := heap_lt ho; simp; omega
      · intro e; have := hlt b e.symm; omega
    have q4 := blk _ _ (by omega) g4
    have c1 := cells1 q4
    have f1 := free q4 0
    have HQ := hid (And.intro hown' (And.intro q4 (And.intro (blk _ _ (by omega) g1) (And.intro (blk _ _ (by omega) g2) hgrow))))
    clear hown' hgrow hlt blk q4 g1 g2 g4 gS gB hk hpl hz hsz c0 f0 n3
    gi_wp2
    obtain ⟨hown, q4, q1, q2, hgrow⟩ := HQ.out
    obtain ⟨g1, g2, g4, gS, gB, hk, hpl, hz, hsz⟩ := HH.out
    have hsz1 : W'.heap.size + 1 ≤ w1.heap.size := by have := hgrow.size; simpa using this
    have hb1 : Below w.heap.size w w1 := (gB.alloc gB.size _).grown hgrow (by have := gB.size; simp; omega) (fun r hr => by have := (HR.out.lt r hr).1; omega)
    have hzero : w1.heap[0]? = W'.heap[0]? := by
      refine (hgrow.block 0 (by simp) (fun e => ?_)).trans ?_
      · have := (HR.out.lt 0 e.symm).1; omega
      · exact ((Below.refl _ W').alloc (Nat.le_refl _) _).block 0 (by omega)
    refine ⟨?_, ?_, ⟨blk_set q1 (by show w.heap.size + 1 ≠ w.heap.size + 1 + 1 + 1 + 1; omega), blk_set q2 (by show w.heap.size + 1 + 1 ≠ w.heap.size + 1 + 1 + 1 + 1; omega), ⟨_, blk_put q4, ?_⟩, by simp; omega⟩, below_put hb1 (by omega)⟩
    · exact ((keeps_below ((Below.refl _ W').alloc (Nat.le_refl _) _)).trans (keeps_grown (HR.out.alloc _) hgrow)).trans (KeepsOthers.setCell _ _ _)
    · exact (heap_setCell_other _ _ _ _ (by show 0 ≠ w.heap.size + 1 + 1 + 1 + 1; omega)).trans hzero
    · have hlen : (pre ++ [x]).length = k + 1 := by rw [List.length_append, ← hk]; rfl
      rw [hlen, bys_snoc, ← hz]
      exact ownsRow_setCell_below hown (a := ⟨w.heap.size + 1 + 1 + 1 + 1, 0, none⟩) (by show w.heap.size + 1 + 1 + 1 + 1 < _; omega) _
  case done =>
    rintro D ys W' hD rfl ⟨⟨g1, g2, ⟨v, g4, gR⟩, gS⟩, gB⟩ hK
    rw [els_length] at gR
    obtain ⟨a, c, rfl⟩ := own_form gR
    have c0 := cells1 g4
    have c1 := cells1 g1
    have c2 := cells1 g2
    have f1 := free g1 0
    have f2 := free g2 0
    have HH := hid (And.intro g1 (And.intro g2 (And.intro gR (And.intro gB (And.intro hK (And.intro hD hsz))))))
    clear g1 g2 g4 gR gB hK y1 y2 y3 y4 bW hD hsz gS
    gi_wp2
    obtain ⟨g1, g2, gR, gB, hK, hD, hsz⟩ := HH.out
    have yB : Below w.heap.size w ((W'.setCell ⟨w.heap.size + 1, 0, none⟩ (.slice a (cnt p 256) c)).setCell ⟨w.heap.size + 1 + 1, 0, none⟩ (.bool true)) := below_put (below_put gB (by omega)) (by omega)
    have yR := ownsRow_setCell_below (ownsRow_setCell_below gR (a := ⟨w.heap.size + 1, 0, none⟩) (by show w.heap.size + 1 < _; omega) (.slice a (cnt p 256) c)) (a := ⟨w.heap.size + 1 + 1, 0, none⟩) (by show w.heap.size + 1 + 1 < _; omega) (.bool true)
    have y1 : ((W'.setCell ⟨w.heap.size + 1, 0, none⟩ (.slice a (cnt p 256) c)).setCell ⟨w.heap.size + 1 + 1, 0, none⟩ (.bool true)).heap[w.heap.size + 1]? = some (.cells #[.slice a (cnt p 256) c] 34 (0, 0)) := blk_set (blk_put g1) (by show w.heap.size + 1 ≠ w.heap.size + 1 + 1; omega)
    have y2 : ((W'.setCell ⟨w.heap.size + 1, 0, none⟩ (.slice a (cnt p 256) c)).setCell ⟨w.heap.size + 1 + 1, 0, none⟩ (.bool true)).heap[w.heap.size + 1 + 1]? = some (.cells #[.bool true] 4 (0, 0)) := blk_put (blk_set g2 (by show w.heap.size + 1 + 1 ≠ w.heap.size + 1; omega))
    have yK : ((W'.setCell ⟨w.heap.size + 1, 0, none⟩ (.slice a (cnt p 256) c)).setCell ⟨w.heap.size + 1 + 1, 0, none⟩ (.bool true)).heap[D]? = some (.deferred (some [])) := blk_set (blk_set hK (by show D ≠ w.heap.size + 1; omega)) (by show D ≠ w.heap.size + 1 + 1; omega)
    obtain ⟨Z, hZ⟩ : ∃ Z, Z = ((W'.setCell ⟨w.heap.size + 1, 0, none⟩ (.slice a (cnt p 256) c)).setCell ⟨w.heap.size + 1 + 1, 0, none⟩ (.bool true)) := ⟨_, rfl⟩
    rw [← hZ] at yB yR y1 y2 yK ⊢
    clear hZ
    refine leaves_dcl (n0 := w.heap.size) [D] Z ⟨by omega, yK, by simp, trivial⟩ fun W'' hW'' => ?_
    have z1 := cells1 ((hW''.block _ (by simp; omega)).trans y1)
    have z2 := cells1 ((hW''.block _ (by simp; omega)).trans y2)
    refine ⟨.tuple #[.slice a (cnt p 256) c, .bool true], by simp [results, Tryd.results24, go_sem, z1, z2], ⟨a, c, rfl, own_row' (ownsRow_keep yR fun k hk => hW''.block k ?_)⟩, yB.trans (hW''.toBelow fun b hb => by simp at hb; omega)⟩
    intro hm
    simp at hm
    obtain ⟨_, hk2⟩ := yR.lt k hk
    rcases yR.2 with ⟨hn, _⟩ | ⟨g, cap, cur, hv, hb, hgc, _⟩
    · rw [hn] at hk; simp [Value.ownBlock] at hk
    · rw [hv] at hk
      simp only [Value.ownBlock, Option.some.injEq] at hk
      rw [hk, hm, yK] at hgc; cases hgc
  case stop =>
    rintro D c pre W _ _ h _
    exact h.elim
end Go.Proofs.YtnjlnldbfejjpaaDoor
