/-
  Contract: deriveConcat.
  Contract: Derive.
  Contract: awake.
-/
import Derived.Test.YtednoideboeehaaDoorZ21
import Derived.Deep.CutRange
import Derived.Deep.CutBlock
import Derived.Test.YtednoideboeehaaDoorZ15
import Derived.Test.YtednoideboeehaaDoorZ03
import Derived.Test.YtednoideboeehaaDoorZ11
import Derived.Test.YtednoideboeehaaDoorZ13
import Derived.Test.YtednoideboeehaaDoorZ14
section
set_option linter.unusedSimpArgs false
set_option linter.unusedVariables false
namespace Go.Proofs.YtednoideboeehaaDoor
open Go.RowKit Bs Rg Go.Frame
attribute [local go_sem] Oper.semAt_some

theorem RC.wide6 {g : Nat → Prop} {W : World} {x : Rx} : ∀ {cs : List Value}, RC g W x cs → RC (fun b => g b ∧ ∀ C t f, W.heap[b]? = some (.cells C t f) → 6 ≤ C.size) W x cs := by
  induction x using Rx.ind with
  | h k s l ih =>
    intro cs h
    rw [RC_mk] at h ⊢
    obtain ⟨a, n, c, rfl, h1, h2, h3⟩ := h
    refine ⟨a, n, c, rfl, h1, h2, ?_⟩
    by_cases h0 : n = 0
    · exact .inl h0
    obtain ⟨b, off, rfl, hb, hlt, hK⟩ := h3.resolve_left h0
    refine .inr ⟨b, off, rfl, ⟨hb, fun C t f ho => ?_⟩, hlt, RK_of fun i x hi => ?_⟩
    · obtain ⟨x0, hx0⟩ : ∃ x0, l[0]? = some x0 := ⟨_, List.getElem?_eq_getElem (by omega)⟩
      obtain ⟨cs, h4, h5⟩ := RK_get hK hx0
      obtain ⟨k', s', l'⟩ := x0
      obtain ⟨a', n', c', rfl, _⟩ := RC_mk.1 h5
      have h6 := h4 5 _ rfl
      rw [World.cell?] at h6
      simp [ho] at h6
      have := (Array.getElem?_eq_some_iff.1 h6).1
      omega
    · obtain ⟨cs, h4, h5⟩ := RK_get hK hi
      exact ⟨cs, h4, ih x (List.mem_of_getElem? hi) h5⟩
theorem DS.put1 {W : World} {D m f base B : Nat} {bb : Int} {T : List Nd} {F : List (List Rx)} {pv u : Value} (h : DS W D m f base bb T F pv) (hB : W.heap[B]? = some (.cells #[u] 98 (0, 0))) (v : Value) : DS (W.setCell ⟨B, 0, none⟩ v) D m f base bb T F pv := by
  have oth : ∀ k, k ≠ B → (W.setCell ⟨B, 0, none⟩ v).heap[k]? = W.heap[k]? := fun k hk => heap_setCell_other _ _ _ _ hk
  obtain ⟨ns, h1, h2⟩ := h.fnd
  have hdb := h.db
  unfold DB at hdb
  have hD : D ≠ B := fun e => by subst e; rw [hB] at hdb; cases hdb
  have hm : m ≠ B := fun e => by
    subst e
    obtain ⟨es, ck, g⟩ := h.tab.isMap
    rw [hB] at g; cases g
  have hf : f ≠ B := fun e => by
    subst e
    obtain ⟨es, ck, g, _⟩ := h1
    rw [hB] at g; cases g
  refine ⟨(oth D hD).trans hdb, h.tab.keep (oth m hm), ⟨ns, h1.keep (oth f hf), h2⟩, ?_, h.nodup, h.lt.1, h.lt.2.1, h.lt.2.2.1, h.lt.2.2.2.1, by simpa using h.lt.2.2.2.2⟩
  obtain ⟨vs, ho, hall⟩ := h.row
  refine ⟨vs, ⟨ho.1, ho.2.imp id ?_⟩, fun i x hi => ?_⟩
  · rintro ⟨g, cap, cur, e1, e2, e3, e4⟩
    exact ⟨g, cap, cur, e1, e2, (oth g fun e => by subst e; rw [hB] at e3; cases e3).trans e3, e4⟩
  · obtain ⟨cs, h1, h2⟩ := hall i x hi
    exact ⟨cs, RC.keep (by simp) (fun b hb _ => oth b fun e => by subst e; have := hb.2 _ _ _ hB; simp at this) (fun _ h => h.1) x h1.wide6, h2⟩
theorem LM.put1 {N B : Nat} {T : List Nd} {W : World} {t : List Rx} {v u w : Value} (h : LM N T W t v) (hB : W.heap[B]? = some (.cells #[u] 98 (0, 0))) (hN : N ≤ B) : LM N T (W.setCell ⟨B, 0, none⟩ w) t v :=
  h.keep (by simp) (fun k c hk => (heap_setCell_other _ _ _ _ (fun e => by subst e; rw [hB] at hk; cases hk)).trans hk) fun k hk _ => heap_setCell_other _ _ _ _ (by show k ≠ B; omega)
theorem Fr.keepsFrom {D m f base B : Nat} {bb : Int} {T : List Nd} {F : List (List Rx)} {W W' : World} {pv pv' : Value} (h : Fr D m f W pv W' pv') (hd : DS W D m f base bb T F pv) (hB : D < B ∧ m < B ∧ f < B) : KeepsFrom B W W' := by
  refine ⟨h.md.size, fun k o hk hko hc => (h.md.block k (heap_lt hko) ?_).trans hko⟩
  rintro (e | e | e | e)
  · omega
  · omega
  · omega
  · obtain ⟨vs, ho⟩ := hd.row.len
    rcases ho.2 with ⟨e', _⟩ | ⟨g, cap, cur, e', _, hg, _⟩
    · rw [e'] at e; cases e
    · rw [e'] at e
      have : g = k := by simpa [Value.ownBlock] using e
      subst this
      rw [hko] at hg; cases hg; cases hc
theorem pmem {x : Rx} {l : List Rx} (h : x ∈ l) : parts x ≤ partsL l := by
  obtain ⟨i, hi, rfl⟩ := List.getElem_of_mem h
  exact parts_at hi

set_option maxRecDepth 100000 in
set_option maxHeartbeats 8000000 in
theorem conc_any {bt : UInt8} {N D m f base : Nat} (hE : Env N D m f base) {l : List Rx} (hv : ∀ x ∈ l, Vd x) (hl1 : l ≠ []) (hp : partsL l ≤ 99999) (ih : ∀ x ∈ l, DeriveSpec bt N D m f base x) : ConcSpec bt N D m f base l := by
  intro W a n c T F pv t v hK ht hd hT hF9 ht9 htp
  obtain ⟨pa, rfl⟩ := ht.ptr
  have hln := hK.len
  have hnl := hK.lt
  have hn0 : n ≠ 0 := by intro h; exact hl1 (List.eq_nil_of_length_eq_zero (by omega))
  obtain ⟨q, bk, off, rfl, hbN, hq, hkids⟩ := hK.kc hn0
  obtain ⟨V, hV⟩ : ∃ V, V = ((W.alloc (.cells #[.pointer (some ⟨D, 0, none⟩)] 97)).alloc (.cells #[.pointer pa] 98)).alloc (.cells #[.int .i64 0] 3) := ⟨_, rfl⟩
  obtain ⟨y0, y1, y2, bV, hsz⟩ := Go.Frame.three W (.cells #[.pointer (some ⟨D, 0, none⟩)] 97) (.cells #[.pointer pa] 98) (.cells #[.int .i64 0] 3)
  rw [← hV] at y0 y1 y2 bV hsz
  have HV := hid (And.intro hK (And.intro ht (And.intro hd (And.intro bV (And.intro y0 (And.intro y1 (And.intro y2 hsz)))))))
  have HQ := hid (And.intro hbN (And.intro hq hkids))
  have HP := hid (And.intro hE (And.intro hp (And.intro hT (And.intro hF9 (And.intro ht9 htp)))))
  have HS := hid (And.intro hln hv)
  have IH := hid ih
  have c0 := cells1 y0
  have c1 := cells1 y1
  have c2 := cells1 y2
  clear hE hp hT hF9 ht9 htp hln hv ih hK ht hd y0 y1 y2 bV hsz hbN hq hkids hl1
  refine (callsIn_wide (n := 4)).1 ?_
  refine callsIn_of_wp_marks Tryd.func72 rfl trivial ?_ rfl
  simp only [Tryd.ntmps72, List.size_toArray, List.length_cons, List.length_nil, Nat.reduceAdd, Nat.reduceSub, Array.replicate_succ, Array.replicate_zero, List.push_toArray, List.append_toArray, List.nil_append, List.cons_append]
  refine wpIn_wide.2 ?_
  go_upto_block 0 with fail
  rw [← hV]
  clear hV
  go_cut [6] from 9 to 22 (fun s6 wx => ∃ (i : Nat), s6 = .pointer (some ⟨W.heap.size + 1 + 1, 0, none⟩) ∧ i < n ∧ (∀ x ∈ l.take i, nul x = true) ∧ (i + 1 = n ∨ ∃ x, l[i]? = some x ∧ nul x = false) ∧ wx.heap[W.heap.size + 1 + 1]? = some (.cells #[.int .i64 (i : Int)] 3 (0, 0)) ∧ wx.heap[W.heap.size]? = some (.cells #[.pointer (some ⟨D, 0, none⟩)] 97 (0, 0)) ∧ wx.heap[W.heap.size + 1]? = some (.cells #[.pointer pa] 98 (0, 0)) ∧ Below W.heap.size W wx ∧ V.heap.size ≤ wx.heap.size)
  case first =>
    go_wp2_with fail
    go_loopg [22] n (fun k1 s22 wr => ∃ (i : Nat), i + k1 = n ∧ i < n ∧ (∀ x ∈ l.take i, nul x = true) ∧ wr.heap[W.heap.size + 1 + 1]? = some (.cells #[.int .i64 (i : Int)] 3 (0, 0)) ∧ wr.heap[W.heap.size]? = some (.cells #[.pointer (some ⟨D, 0, none⟩)] 97 (0, 0)) ∧ wr.heap[W.heap.size + 1]? = some (.cells #[.pointer pa] 98 (0, 0)) ∧ Below W.heap.size W wr ∧ V.heap.size ≤ wr.heap.size)
    case atStart => exact ⟨0, by omega, by omega, by simp, HV.out.2.2.2.2.2.2.1, HV.out.2.2.2.2.1, HV.out.2.2.2.2.2.1, HV.out.2.2.2.1, Nat.le_refl _⟩
    case round =>
      obtain ⟨i, hk1, hin, hnu, x2, x0, x1, hb, hs⟩ := hrel
      have c0 := cells1 x0
      have c1 := cells1 x1
      have c2 := cells1 x2
      have e1 : IntKind.i64.wrap ((n : Int) - 1) = (n : Int) - 1 := by rw [wrapIn] <;> omega
      by_cases hlt : i + 1 < n
      · have hlt' : (i : Int) < (n : Int) - 1 := by omega
        have hlt2 : (i : Int) < (n : Int) := by omega
        obtain ⟨l', hx, hK'⟩ := HQ.out.2.2 i hin
        obtain ⟨q0, q1, q2, q3, q4, q5⟩ := (HQ.out.2.1.keep hb.size (hb.block _ HQ.out.2.1.1)).2 i hin
        have CN := hid (nullable_any _ (.mk (q.k i) (q.s i) l') wr _ (RC_mk.2 ⟨q.a i, q.n i, q.c i, rfl, hK'.below hb⟩))
        have HR := hid (And.intro hnu (And.intro x2 (And.intro x0 (And.intro x1 (And.intro hb (And.intro hs hx))))))
        clear hnu x2 x0 x1 hb hs hx hK'
        go_wp2_with fail
        refine CN.out.mono ?_
        rintro e w9 ⟨rfl, b9⟩
        obtain ⟨hnu, x2, x0, x1, hb, hs, hx⟩ := HR.out
        have y2 := (b9.block _ (heap_lt x2)).trans x2
        have y0 := (b9.block _ (heap_lt x0)).trans x0
        have y1 := (b9.block _ (heap_lt x1)).trans x1
        have hb9 := hb.trans (b9.mono hb.size)
        have hs9 := Nat.le_trans hs b9.size
        have d2 := cells1 y2
        have g2 := free y2 0
        have HY := hid (And.intro y2 (And.intro y0 (And.intro y1 (And.intro hb9 (And.intro hs9 (And.intro hnu hx))))))
        clear hnu x2 x0 x1 hb hs hx y2 y0 y1 hb9 hs9 b9
        have e3 : IntKind.i64.wrap ((i : Int) + 1) = (i : Int) + 1 := by rw [wrapIn] <;> omega
        cases hnx : nul (Rx.mk (q.k i) (q.s i) l') with
        | true =>
          go_wp2_with fail
          obtain ⟨y2, y0, y1, hb9, hs9, hnu, hx⟩ := HY.out
          go_roundg (gk - 1)
          case measure => omega
          case rel =>
            have hs3 := HV.out.2.2.2.2.2.2.2
            refine ⟨i + 1, by omega, by omega, fun x hxm => ?_, ?_, blk_set y0 (by show W.heap.size ≠ W.heap.size + 1 + 1; omega), blk_set y1 (by show W.heap.size + 1 ≠ W.heap.size + 1 + 1; omega), below_put hb9 (by omega), by simpa using hs9⟩
            · rw [List.take_add_one, hx, List.mem_append] at hxm
              rcases hxm with h | h
              · exact hnu x h
              · simp at h; rw [h]; exact hnx
            · rw [blk_put y2]; rfl
        | false =>
          go_wp2_with fail
          go_meet
          case rel =>
            obtain ⟨y2, y0, y1, hb9, hs9, hnu, hx⟩ := HY.out
            exact ⟨i, rfl, hin, hnu, .inr ⟨_, hx, hnx⟩, y2, y0, y1, hb9, hs9⟩
      · have hlt' : ¬ (i : Int) < (n : Int) - 1 := by omega
        have HR := hid (And.intro hnu (And.intro x2 (And.intro x0 (And.intro x1 (And.intro hb hs)))))
        clear hnu x2 x0 x1 hb hs
        go_wp2_with fail
        go_meet
        case rel => exact ⟨i, rfl, hin, HR.out.1, .inl (by omega), HR.out.2.1, HR.out.2.2.1, HR.out.2.2.2.1, HR.out.2.2.2.2.1, HR.out.2.2.2.2.2⟩
  case rest =>
    obtain ⟨i, rfl, hin, hnu, hstop, x2, x0, x1, hb, hs⟩ := hcut
    obtain ⟨X0, hX0⟩ : ∃ X0, X0 = wc.alloc (.cells #[.slice (some ⟨bk, off, none⟩) n c] 25) := ⟨_, rfl⟩
    have c0 := cells1 x0
    have c1 := cells1 x1
    have c2 := cells1 x2
    go_wp2_with fail
    refine (Back_any _ _ _ _).mono ?_
    rintro e w9 ⟨rfl, rfl⟩
    go_wp2_with fail
    rw [← hX0]
    have hXs : X0.heap.size = wc.heap.size + 1 := by rw [hX0]; simp
    have hXV : V.heap.size ≤ X0.heap.size := by omega
    have hXw : wc.heap.size < X0.heap.size ∧ V.heap.size ≤ wc.heap.size := by omega
    have bX0 : Below wc.heap.size wc X0 := by rw [hX0]; exact bel1 _ _
    have y3 : X0.heap[wc.heap.size]? = some (.cells #[.slice (some ⟨bk, off, none⟩) n c] 25 (0, 0)) := by rw [hX0]; exact alloc_new _ _
    clear hX0
    have HX := hid (And.intro (hb.trans (bX0.mono hb.size)) (And.intro ((bX0.block _ (heap_lt x0)).trans x0) (And.intro ((bX0.block _ (heap_lt x1)).trans x1) (And.intro ((bX0.block _ (heap_lt x2)).trans x2) y3))))
    have HI := hid (And.intro hin (And.intro hnu hstop))
    have hlt := HV.out.2.2.1.lt
    have hNN := HP.out.1.hN
    have hs3 := HV.out.2.2.2.2.2.2.2
    have hbkN := HQ.out.1
    have hbkX : bk < X0.heap.size := by have := HQ.out.2.1.1; omega
    have hqX : q.At X0 bk off n := HQ.out.2.1.keep HX.out.1.size (HX.out.1.block _ HQ.out.2.1.1)
    have hln := HS.out.1
    obtain ⟨kid, hkid⟩ : ∃ kid : Fin n → Rx, kid = fun i : Fin n => l[i.1]'(by omega) := ⟨_, rfl⟩
    have hkm : ∀ j, kid j ∈ l := fun j => by rw [hkid]; exact List.getElem_mem _
    have hkids : ∀ j : Fin n, ∃ l', kid j = .mk (q.k j.1) (q.s j.1) l' ∧ Kd (· < N) W (q.a j.1) (q.n j.1) l' := fun j => by
      obtain ⟨l', g1, g2⟩ := HQ.out.2.2 j.1 j.2
      refine ⟨l', ?_, g2⟩
      rw [hkid]
      rw [List.getElem?_eq_getElem (by omega)] at g1
      simpa using g1
    have HK := hid (And.intro hkid (And.intro hkm hkids))
    clear hb hs x0 x1 x2 bX0 hin hnu hstop c0 c1 c2 hkid hkids hkm
    obtain ⟨I, hI⟩ : ∃ I : List (Fin n) → World → Prop, I = fun pre X => ∃ (T' : List Nd) (F' : List (List Rx)) (pv' vb : Value), DS X D m f base (bt.toNat : Int) T' F' pv' ∧ T <+: T' ∧ (∀ u, u ∈ F' ↔ u ∈ F ∨ Qp bt kid t i pre u) ∧ T'.length ≤ T.length + 2 * (partsL (lst kid pre) + sq (lst kid pre)) ∧ F'.length ≤ F.length + partsL (lst kid pre) ∧ LM N T' X (lst kid pre ++ t) vb ∧ X.heap[W.heap.size]? = some (.cells #[.pointer (some ⟨D, 0, none⟩)] 97 (0, 0)) ∧ X.heap[W.heap.size + 1]? = some (.cells #[vb] 98 (0, 0)) ∧ X.heap[W.heap.size + 1 + 1]? = some (.cells #[.int .i64 (i : Int)] 3 (0, 0)) ∧ Fr D m f W pv X pv' ∧ X0.heap.size ≤ X.heap.size ∧ X.heap[wc.heap.size]? = some (.cells #[.slice (some ⟨bk, off, none⟩) n c] 25 (0, 0)) := ⟨_, rfl⟩
    have h0I : I [] X0 := by
      rw [hI]
      exact ⟨T, F, pv, .pointer pa, HV.out.2.2.1.below HX.out.1, List.prefix_rfl, fun u => by simp [Qp_nil], by simp [lst, partsL, sq], by simp [lst, partsL], HV.out.2.1.below HX.out.1, HX.out.2.1, HX.out.2.2.1, HX.out.2.2.2.1, Fr.ofBelow HX.out.1, Nat.le_refl _, y3⟩
    have HIE := hid hI
    clear hI hXs
    refine (wpIn_wide (n := 4)).1 ?_
    refine wpIn_rangeFunc_ownH (n := 4) rfl (by omega) (gf := 105) (lb := #[.pointer (some ⟨wc.heap.size, 0, none⟩)]) rfl trivial (enters_of Tryd.func105 (by kernel_rfl) rfl)
      (back_stops 3 wc.heap.size bk off n c (by omega) X0 q hnl (some ⟨bk, off, none⟩) y3 (.inr ⟨rfl, hqX⟩)) Both.trans
      (fun X l o o' hl h _ _ => ⟨World.putObj_heap_other (by omega), World.putObj_heap_other (by omega), by simp⟩) (Below.refl _ _) (fun _ => rfl)
      I
      (fun _ _ _ => False)
      ?own (fun _ _ _ _ _ hs _ _ => hs)
      h0I
      (fun x a' X => ∃ kb, a' = { tmps := #[.pointer (some ⟨D, 0, none⟩), .slice (some ⟨bk, off, none⟩) n c, .pointer pa, .pointer (some ⟨W.heap.size, 0, none⟩), undef, .pointer (some ⟨W.heap.size + 1, 0, none⟩), .pointer (some ⟨W.heap.size + 1 + 1, 0, none⟩), .int .i64 (x.1 : Int), .pointer (some ⟨kb, 0, none⟩), u9, u10, u11, u12, u13, u14, u15, u16, u17, u18, u19, u20, u21, u22, .slice (some ⟨bk, off, none⟩) n c, .func (.func 105) #[] #[.pointer (some ⟨wc.heap.size, 0, none⟩)], .int .i64 (x.1 : Int), .agg #[.int .i64 (q.k x.1), .int .u64 (ws (q.s x.1) 0 : Int), .int .u64 (ws (q.s x.1) 1 : Int), .int .u64 (ws (q.s x.1) 2 : Int), .int .u64 (ws (q.s x.1) 3 : Int), .slice (q.a x.1) (q.n x.1) (q.c x.1)], undef, undef, undef, undef, undef, undef, undef, undef, undef, undef, undef], defers := [] } ∧ X0.heap.size ≤ kb ∧ X.heap[kb]? = some (.cells #[.int .i64 (q.k x.1), .int .u64 (ws (q.s x.1) 0 : Int), .int .u64 (ws (q.s x.1) 1 : Int), .int .u64 (ws (q.s x.1) 2 : Int), .int .u64 (ws (q.s x.1) 3 : Int), .slice (q.a x.1) (q.n x.1) (q.c x.1)] 27 (0, 0)) ∧ ∃ pv9, DB X D m f (bt.toNat : Int) pv9 ∧ pv9.ownBlock ≠ some kb)
      ?ownA ?assign ?body ?done ?stop
    case own =>
      rintro pre A C row hJ hg hr
      rw [HIE.out] at hJ ⊢
      obtain ⟨T', F', pv', vb, h1, h2, h3, h4, h5, h6, h7, h8, h9, h10, h11, h12⟩ := hJ
      have hk : ∀ k, k < A.heap.size → some k ≠ row → C.heap[k]? = A.heap[k]? := fun k hk hne => hg.block k hk hne
      have hr2 : ∀ r, row = some r → ∃ o : Obj, A.heap[r]? = some o ∧ o.isCells = false := fun r e => (hr r e).2
      exact ⟨T', F', pv', vb, DS.but hg.size hk hr2 h1 (fun r e => by have := (hr r e).1; omega), h2, h3, h4, h5, LM.but hg.size hk hr2 h6 (fun r e => by have := (hr r e).1; omega), blk_but hk hr2 h7, blk_but hk hr2 h8, blk_but hk hr2 h9, Fr.but hg.size hk h10 ⟨hg.os, hg.tape, hg.output⟩ (fun r e => by have := (hr r e).1; omega), Nat.le_trans h11 hg.size, blk_but hk hr2 h12⟩
    case ownA =>
      rintro x a' u A C row ⟨kb, h1, h2, h3, pv9, h4, h5⟩ hg hr
      exact ⟨kb, h1, h2, own_blk h3 hg (fun r e => (hr r e).2), pv9, own_blk h4 hg (fun r e => (hr r e).2), h5⟩
    case assign =>
      rintro l' pre x X K hJ hK
      rw [HIE.out] at hJ
      obtain ⟨T', F', pv', vb, h1, h2, h3, h4, h5, h6, h7, h8, h9, h10, h11, h12⟩ := hJ
      unfold encK Kc.v
      have hKK := hid hK
      have HH := hid (And.intro h1 (And.intro h2 (And.intro h3 (And.intro h4 (And.intro h5 (And.intro h6 (And.intro h7 (And.intro h8 (And.intro h9 (And.intro h10 (And.intro h11 h12)))))))))))
      clear h1 h2 h3 h4 h5 h6 h7 h8 h9 h10 h11 h12 hK
      gi_wp2
      obtain ⟨h1, h2, h3, h4, h5, h6, h7, h8, h9, h10, h11, h12⟩ := HH.out
      have bX := bel1 X (.cells #[.int .i64 (q.k x.1), .int .u64 (ws (q.s x.1) 0 : Int), .int .u64 (ws (q.s x.1) 1 : Int), .int .u64 (ws (q.s x.1) 2 : Int), .int .u64 (ws (q.s x.1) 3 : Int), .slice (q.a x.1) (q.n x.1) (q.c x.1)] 27)
      exact hKK.out _ _ ((keeps_bel bX).from _) ⟨bX.block _ (by omega), bX.block _ (by omega), bX.size⟩ (by rw [HIE.out]; exact ⟨T', F', pv', vb, h1.below bX, h2, h3, h4, h5, h6.below bX, (bX.block _ (heap_lt h7)).trans h7, (bX.block _ (heap_lt h8)).trans h8, (bX.block _ (heap_lt h9)).trans h9, h10.trans (Fr.ofBelow bX), Nat.le_trans h11 bX.size, (bX.block _ (heap_lt h12)).trans h12⟩) ⟨X.heap.size, rfl, h11, alloc_new _ _, pv', (bX.block _ h1.ltD).trans h1.db, fun e => by have := (h1.row.own _ e).2; omega⟩
    case body =>
      rintro lr pre x a' X hl9 _ hJ ⟨kb, rfl, hkb, hkbX, pv9, hdb9, hne⟩ hpl
      rw [HIE.out] at hJ
      obtain ⟨T', F', pv', vb, h1, h2, h3, h4, h5, h6, h7, h8, h9, h10, h11, h12⟩ := hJ
      obtain rfl : pv9 = pv' := by
        have := (show X.heap[D]? = _ from hdb9).symm.trans (show X.heap[D]? = _ from h1.db)
        simpa using this
      obtain ⟨pb, rfl⟩ := h6.ptr
      obtain ⟨l', hkx, hKx⟩ := HK.out.2.2 x
      have hm := HK.out.2.1 x
      have hRC : RC (· < N) X (kid x) (rcs (q.k x.1) (q.s x.1) (.slice (q.a x.1) (q.n x.1) (q.c x.1))) := by
        rw [hkx]; exact RC_mk.2 ⟨_, _, _, rfl, hKx.fr h10 HV.out.2.2.1 HP.out.1.hN⟩
      have hnS : n ≤ partsL l := by rw [← hln]; exact parts_len' l
      have hpS := HP.out.2.1
      have hpx : parts (kid x) ≤ partsL l := pmem hm
      have hpp : ∀ y ∈ lst kid pre, parts y ≤ 99999 := fun y hy => by
        unfold lst at hy
        rw [List.mem_reverse, List.mem_map] at hy
        obtain ⟨j, _, rfl⟩ := hy
        exact Nat.le_trans (pmem (HK.out.2.1 j)) hpS
      have hll : (lst kid pre).length = pre.length := by simp [lst]
      have b1 := partsL_le hpp
      have b2 := sq_len hpp
      rw [hll] at b1 b2
      have b3 : pre.length * 99999 ≤ 99999 * 99999 := Nat.mul_le_mul_right _ (by omega)
      have b4 : pre.length * (99999 * 99999) ≤ 99999 * (99999 * 99999) := Nat.mul_le_mul_right _ (by omega)
      have b5 : parts (kid x) * parts (kid x) ≤ 99999 * 99999 := Nat.mul_le_mul (by omega) (by omega)
      have hdx := depthL_le.1 (Nat.le_refl (depthL l)) _ hm
      have hdp := depth_pos (kid x)
      have t1 := HP.out.2.2.1
      have t2 := HP.out.2.2.2.1
      have t3 := HP.out.2.2.2.2.1
      have HB := hid (And.intro b1 (And.intro b2 (And.intro b3 (And.intro b4 (And.intro b5 (And.intro hdx (And.intro t1 (And.intro t2 (And.intro t3 (And.intro hpx (And.intro hpS hdp)))))))))))
      have hszW := hid (show V.heap.size = W.heap.size + 3 from hs3)
      by_cases hxi : x.1 ≤ i
      · have CD := hid (IH.out _ hm X _ T' F' pv9 (lst kid pre ++ t) (.pointer pb) hRC h6 h1 (by omega) (by omega) (by rw [List.length_append, hll]; omega) (fun y hy => by
          rcases List.mem_append.1 hy with hy | hy
          · have := hpp y hy; omega
          · exact HP.out.2.2.2.2.2 y hy))
        have hxi' : (x.1 : Int) ≤ (i : Int) := by omega
        have d0 := cells1 h7
        have d1 := cells1 h8
        have d2 := cells1 h9
        obtain ⟨g0, g1, g2, g3, g4, g5⟩ := cells6 hkbX
        have HH := hid (And.intro h1 (And.intro h2 (And.intro h3 (And.intro h4 (And.intro h5 (And.intro h6 (And.intro h7 (And.intro h8 (And.intro h9 (And.intro h10 (And.intro h11 (And.intro h12 (And.intro hkbX (And.intro hRC hne))))))))))))))
        clear h1 h2 h3 h4 h5 h6 h7 h8 h9 h10 h11 h12 hkbX hdb9 hRC hne b1 b2 b3 b4 b5 hpp hdx t1 t2 t3 hll hkx hKx hpx hdp
        gi_wp2
        refine ⟨trivial, CallsIn.inRound lr (callsIn_wide.2 (CD.out.mono ?_))⟩
        rintro e Y ⟨rfl, T2, F2, pv2, e1, e2, e3, e4, e6, e5⟩
        obtain ⟨h1, h2, h3, h4, h5, h6, h7, h8, h9, h10, h11, h12, hkbX, hRC, hne⟩ := HH.out
        have hfXY := e5
        have hds := e1
        have hpre2 := e2
        have hm2 : ∀ u, u ∈ F2 ↔ u ∈ F ∨ Qp bt kid t i (pre ++ [x]) u := fun u => by rw [e3 u, h3 u, Qp_snoc]; simp [hxi, or_assoc]
        have hl2 : T2.length ≤ T.length + 2 * (partsL (lst kid pre) + sq (lst kid pre)) + 2 * (parts (kid x) * parts (kid x)) := by omega
        have hf2 : F2.length ≤ F.length + partsL (lst kid pre) + parts (kid x) := by omega
        have hRCY : RC (· < N) Y (kid x) (rcs (q.k x.1) (q.s x.1) (.slice (q.a x.1) (q.n x.1) (q.c x.1))) := hRC.fr hfXY h1 HP.out.1.hN
        have z0 := hfXY.cells h1 h7 (by decide) (by decide)
        have z1 := hfXY.cells h1 h8 (by decide) (by decide)
        have z2 := hfXY.cells h1 h9 (by decide) (by decide)
        have z12 := hfXY.cells h1 h12 (by decide) (by decide)
        have hlm := h6.fr hfXY h1 hpre2 HP.out.1.hN
        have hkbY : Y.heap[kb]? = _ := (hfXY.md.block kb (heap_lt hkbX) (by
          rintro (e | e | e | e)
          · omega
          · omega
          · omega
          · exact hne e)).trans hkbX
        have hkeep := hfXY.keepsFrom h1 (B := X0.heap.size) (by omega)
        have hbk : Y.heap[bk]? = X.heap[bk]? := hfXY.md.block bk (by omega) (by
          rintro (e | e | e | e)
          · omega
          · omega
          · omega
          · have := (h1.row.own bk e).1; omega)
        have hsY := hfXY.md.size
        have CP := hid (put_any (N := N) HP.out.1.hN.2.1 (HS.out.2 _ (HK.out.2.1 x)) hds.db hRCY hlm hds.tab (by have := HB.out; omega) (by have := HB.out; omega))
        have d0 := cells1 z0
        have d1 := cells1 z1
        have fz := free z1 0
        obtain ⟨g0, g1, g2, g3, g4, g5⟩ := cells6 hkbY
        have HY := hid (And.intro hds (And.intro (h2.trans hpre2) (And.intro hm2 (And.intro hl2 (And.intro hf2 (And.intro z0 (And.intro z1 (And.intro z2 (And.intro (h10.trans hfXY) (And.intro (Nat.le_trans h11 hsY) (And.intro hkeep (And.intro hbk (And.intro (z12.trans h12.symm) (And.intro z12 hsY))))))))))))))
        clear hds hpre2 hm2 hl2 hf2 hlm z0 z1 z2 z12 hkbY hkeep hbk hsY h1 h2 h3 h4 h5 h6 h7 h8 h9 h10 h11 h12 hfXY hRC hRCY hkbX hne e1 e2 e3 e4 e5 e6
        gi_wp2
        refine ⟨trivial, CallsIn.inRound lr (callsIn_wide.2 (CP.out.mono ?_))⟩
        rintro e Z ⟨T3, v3, rfl, e1, e2, e3, e4, e5⟩
        obtain ⟨p3, rfl⟩ := e3.ptr
        obtain ⟨hds, hpT, hm2, hl2, hf2, z0, z1, z2, hfr, hszY, hkeep, hbk, hA, z12, hsY⟩ := HY.out
        have hs5 := e5.size
        have y0 := (e5.block _ (heap_lt z0) (by omega)).trans z0
        have y1 := (e5.block _ (heap_lt z1) (by omega)).trans z1
        have y2 := (e5.block _ (heap_lt z2) (by omega)).trans z2
        have y12 := (e5.block _ (heap_lt z12) (by omega)).trans z12
        have ybk := (e5.block bk (by omega) (by omega)).trans hbk
        have k1 := cells1 y1
        have k2 := free y1 0
        have hsW := hszW.out
        have HE := hid (show KeepsFrom X0.heap.size X (Z.setCell ⟨W.heap.size + 1, 0, none⟩ (.pointer p3)) ∧ Both wc.heap.size bk X (Z.setCell ⟨W.heap.size + 1, 0, none⟩ (.pointer p3)) ∧ I (pre ++ [x]) (Z.setCell ⟨W.heap.size + 1, 0, none⟩ (.pointer p3)) from by
          refine ⟨⟨by simp; omega, fun k o hk hko hc => ?_⟩, ⟨?_, ?_, by simp; omega⟩, ?_⟩
          · have h1 := hkeep.same k o hk hko hc
            exact (heap_setCell_other _ _ _ _ (by show k ≠ W.heap.size + 1; omega)).trans ((e5.block k (heap_lt h1) (by omega)).trans h1)
          · exact (heap_setCell_other _ _ _ _ (by show wc.heap.size ≠ W.heap.size + 1; omega)).trans (((y12.trans z12.symm)).trans hA)
          · exact (heap_setCell_other _ _ _ _ (by show bk ≠ W.heap.size + 1; omega)).trans ybk
          · rw [HIE.out]
            refine ⟨T3, F2, pv2, .pointer p3, (hds.grow e5 e1 e2).put1 y1 _, hpT.trans e2, hm2, ?_, ?_, ?_, blk_set y0 (by show W.heap.size ≠ W.heap.size + 1; omega), blk_put y1, blk_set y2 (by show W.heap.size + 1 + 1 ≠ W.heap.size + 1; omega), ?_, by simp; omega, blk_set y12 (by show wc.heap.size ≠ W.heap.size + 1; omega)⟩
            · rw [lst_snoc, partsL, sq]; omega
            · rw [lst_snoc, partsL]; omega
            · rw [lst_snoc]; exact e3.put1 y1 (by omega)
            · have h9 := hfr.trans (Fr.ofTab e5)
              exact ⟨h9.md.put (.inr (by omega)) _, h9.own⟩)
        clear hds hpT hm2 hl2 hf2 z0 z1 z2 hfr hszY hkeep hbk hA z12 hsY y0 y1 y2 y12 ybk e1 e2 e3 e4 e5 hs5 hsW
        gi_wp2
        exact HE.out
      · have hxi' : ¬ (x.1 : Int) ≤ (i : Int) := by omega
        clear b1 b2 b3 b4 b5 hpp hdx t1 t2 t3 hll hkx hKx hpx hdp hdb9
        have hfXY := Fr.refl D m f X pv9
        have hds := h1
        have hpre2 : T' <+: T' := List.prefix_rfl
        have hm2 : ∀ u, u ∈ F' ↔ u ∈ F ∨ Qp bt kid t i (pre ++ [x]) u := fun u => by rw [h3 u, Qp_snoc]; simp [hxi]
        have hl2 : T'.length ≤ T.length + 2 * (partsL (lst kid pre) + sq (lst kid pre)) + 2 * (parts (kid x) * parts (kid x)) := by omega
        have hf2 : F'.length ≤ F.length + partsL (lst kid pre) + parts (kid x) := by omega
        have d7 := cells1 h9
        have hRCY : RC (· < N) X (kid x) (rcs (q.k x.1) (q.s x.1) (.slice (q.a x.1) (q.n x.1) (q.c x.1))) := hRC.fr hfXY h1 HP.out.1.hN
        have z0 := hfXY.cells h1 h7 (by decide) (by decide)
        have z1 := hfXY.cells h1 h8 (by decide) (by decide)
        have z2 := hfXY.cells h1 h9 (by decide) (by decide)
        have z12 := hfXY.cells h1 h12 (by decide) (by decide)
        have hlm := h6.fr hfXY h1 hpre2 HP.out.1.hN
        have hkbY : X.heap[kb]? = _ := (hfXY.md.block kb (heap_lt hkbX) (by
          rintro (e | e | e | e)
          · omega
          · omega
          · omega
          · exact hne e)).trans hkbX
        have hkeep := hfXY.keepsFrom h1 (B := X0.heap.size) (by omega)
        have hbk : X.heap[bk]? = X.heap[bk]? := hfXY.md.block bk (by omega) (by
          rintro (e | e | e | e)
          · omega
          · omega
          · omega
          · have := (h1.row.own bk e).1; omega)
        have hsY := hfXY.md.size
        have CP := hid (put_any (N := N) HP.out.1.hN.2.1 (HS.out.2 _ (HK.out.2.1 x)) hds.db hRCY hlm hds.tab (by have := HB.out; omega) (by have := HB.out; omega))
        have d0 := cells1 z0
        have d1 := cells1 z1
        have fz := free z1 0
        obtain ⟨g0, g1, g2, g3, g4, g5⟩ := cells6 hkbY
        have HY := hid (And.intro hds (And.intro (h2.trans hpre2) (And.intro hm2 (And.intro hl2 (And.intro hf2 (And.intro z0 (And.intro z1 (And.intro z2 (And.intro (h10.trans hfXY) (And.intro (Nat.le_trans h11 hsY) (And.intro hkeep (And.intro hbk (And.intro (z12.trans h12.symm) (And.intro z12 hsY))))))))))))))
        clear hds hpre2 hm2 hl2 hf2 hlm z0 z1 z2 z12 hkbY hkeep hbk hsY h1 h2 h3 h4 h5 h6 h7 h8 h9 h10 h11 h12 hfXY hRC hRCY hkbX hne
        gi_wp2
        refine ⟨trivial, CallsIn.inRound lr (callsIn_wide.2 (CP.out.mono ?_))⟩
        rintro e Z ⟨T3, v3, rfl, e1, e2, e3, e4, e5⟩
        obtain ⟨p3, rfl⟩ := e3.ptr
        obtain ⟨hds, hpT, hm2, hl2, hf2, z0, z1, z2, hfr, hszY, hkeep, hbk, hA, z12, hsY⟩ := HY.out
        have hs5 := e5.size
        have y0 := (e5.block _ (heap_lt z0) (by omega)).trans z0
        have y1 := (e5.block _ (heap_lt z1) (by omega)).trans z1
        have y2 := (e5.block _ (heap_lt z2) (by omega)).trans z2
        have y12 := (e5.block _ (heap_lt z12) (by omega)).trans z12
        have ybk := e5.block bk (by omega) (by omega)
        have k1 := cells1 y1
        have k2 := free y1 0
        have hsW := hszW.out
        have HE := hid (show KeepsFrom X0.heap.size X (Z.setCell ⟨W.heap.size + 1, 0, none⟩ (.pointer p3)) ∧ Both wc.heap.size bk X (Z.setCell ⟨W.heap.size + 1, 0, none⟩ (.pointer p3)) ∧ I (pre ++ [x]) (Z.setCell ⟨W.heap.size + 1, 0, none⟩ (.pointer p3)) from by
          refine ⟨⟨by simp; omega, fun k o hk hko hc => ?_⟩, ⟨?_, ?_, by simp; omega⟩, ?_⟩
          · have h1 := hkeep.same k o hk hko hc
            exact (heap_setCell_other _ _ _ _ (by show k ≠ W.heap.size + 1; omega)).trans ((e5.block k (heap_lt h1) (by omega)).trans h1)
          · exact (heap_setCell_other _ _ _ _ (by show wc.heap.size ≠ W.heap.size + 1; omega)).trans (y12.trans z12.symm)
          · exact (heap_setCell_other _ _ _ _ (by show bk ≠ W.heap.size + 1; omega)).trans ybk
          · rw [HIE.out]
            refine ⟨T3, F', pv9, .pointer p3, (hds.grow e5 e1 e2).put1 y1 _, hpT.trans e2, hm2, ?_, ?_, ?_, blk_set y0 (by show W.heap.size ≠ W.heap.size + 1; omega), blk_put y1, blk_set y2 (by show W.heap.size + 1 + 1 ≠ W.heap.size + 1; omega), ?_, by simp; omega, blk_set y12 (by show wc.heap.size ≠ W.heap.size + 1; omega)⟩
            · rw [lst_snoc, partsL, sq]; omega
            · rw [lst_snoc, partsL]; omega
            · rw [lst_snoc]; exact e3.put1 y1 (by omega)
            · have h9 := hfr.trans (Fr.ofTab e5)
              exact ⟨h9.md.put (.inr (by omega)) _, h9.own⟩)
        clear hds hpT hm2 hl2 hf2 z0 z1 z2 hfr hszY hkeep hbk hA z12 hsY y0 y1 y2 y12 ybk e1 e2 e3 e4 e5 hs5 hsW
        gi_wp2
        exact HE.out
    case done =>
      rintro D9 ys X hD rfl hJ hK
      rw [HIE.out] at hJ
      obtain ⟨T', F', pv', vb, h1, h2, h3, h4, h5, h6, h7, h8, h9, h10, h11, h12⟩ := hJ
      have hlk : lst kid (bw n 0) = l := by rw [HK.out.1]; exact lst_full hln
      rw [hlk] at h4 h5
      have hsq := sq_le l
      have hQ := fun u => @Qp_full bt n l t i u hln HI.out.1 HI.out.2.1 HI.out.2.2
      rw [← HK.out.1] at hQ
      show LeavesInM _ _ _ _ _ _ _ _ _
      unfold LeavesInM
      refine ⟨by simp, .inl ⟨_, _, rfl, run_takeDeferred hK, ?_⟩⟩
      have hk : ∀ (o' : Obj) k, k < X.heap.size → some k ≠ some D9 → (X.putObj D9 o').heap[k]? = X.heap[k]? := fun o' k _ hne => World.putObj_heap_other (fun e => hne (by rw [e]))
      have hr2 : ∀ r, some D9 = some r → ∃ o : Obj, X.heap[r]? = some o ∧ o.isCells = false := fun r e => by simp at e; subst e; exact ⟨_, hK, rfl⟩
      refine ⟨_, results_none rfl _ _ _, rfl, T', F', pv', DS.but (row := some D9) (by simp) (hk _) hr2 h1 (fun r e => by simp at e; omega), h2, fun u => by rw [h3 u, hQ u], by omega, h5, Fr.but (row := some D9) (by simp) (hk _) h10 ⟨rfl, rfl, rfl⟩ (fun r e => by simp at e; have := HX.out.1.size; omega)⟩
    case stop =>
      rintro D c pre W _ _ h _
      exact h.elim
end Go.Proofs.YtednoideboeehaaDoor
end
section
set_option linter.unusedSimpArgs false
set_option linter.unusedVariables false
namespace Go.Proofs.YtednoideboeehaaDoor
open Go.RowKit Bs Rg Go.Frame

theorem derive_any {bt : UInt8} {N D m f base : Nat} (hE : Env N D m f base) (r : Rx) : Vd r → parts r ≤ 99999 → DeriveSpec bt N D m f base r := by
  induction r using Rx.ind with
  | h k s l ih =>
    intro hv hp
    have hpl : partsL l + 1 ≤ 99999 := by rw [parts] at hp; exact hp
    have ih' : ∀ x ∈ l, DeriveSpec bt N D m f base x := fun x hx => ih x hx (hv.kid hx) (by have := pmem hx; omega)
    refine derive_step hE hv (by omega) (fun hk => conc_any hE (fun x hx => hv.kid hx) ?_ (by omega) ih') ih'
    subst hk
    intro hl
    subst hl
    have := hv.shaped
    simp [shaped] at this

theorem map75 (W : World) : (Instr.makeMap 75 none).run Tryd.prog W = .ok (.map (some W.heap.size)) (W.alloc (.map #[] 0)) := by kernel_rfl
theorem map76 (W : World) : (Instr.makeMap 76 none).run Tryd.prog W = .ok (.map (some W.heap.size)) (W.alloc (.map #[] 0)) := by kernel_rfl
attribute [local go_sem] map75 map76
set_option maxRecDepth 100000 in
set_option maxHeartbeats 8000000 in
theorem Derive_any (g : Nat → Prop) (r : Rx) (bt : UInt8) (w : World) (cs : List Value) (hf : fits r 32 = true) (hp : parts r ≤ 99999) (h : RC g w r cs) :
    Calls Tryd.prog 26 #[.agg cs.toArray, .int .u8 (bt.toNat : Int)] w fun e w' => (∃ (d : Rx) (ds : List Value), e = .returned (.agg ds.toArray) ∧ Der bt r d ∧ RC (ge w.heap.size) w' d ds) ∧ Below w.heap.size w w' := by
  have hv : Vd r := ⟨32, hf⟩
  have hd90 : depth r ≤ 32 := fits_depth hv |>.1 hf
  have hN : RC (· < w.heap.size) w r cs := h.lt.more fun b hb => hb.2
  obtain ⟨k, s, l⟩ := r
  obtain ⟨a, n, c, rfl, hK⟩ := RC_mk.1 hN
  obtain ⟨V, hV⟩ : ∃ V, V = (w.alloc (.cells #[.int .i64 k, .int .u64 (ws s 0 : Int), .int .u64 (ws s 1 : Int), .int .u64 (ws s 2 : Int), .int .u64 (ws s 3 : Int), .slice a n c] 27)).alloc (.cells #[.int .i64 0, .int .u64 0, .int .u64 0, .int .u64 0, .int .u64 0, .slice none 0 0] 27) := ⟨_, rfl⟩
  obtain ⟨x0, x1, bV, hsz⟩ := Go.Frame.two w (.cells #[.int .i64 k, .int .u64 (ws s 0 : Int), .int .u64 (ws s 1 : Int), .int .u64 (ws s 2 : Int), .int .u64 (ws s 3 : Int), .slice a n c] 27) (.cells #[.int .i64 0, .int .u64 0, .int .u64 0, .int .u64 0, .int .u64 0, .slice none 0 0] 27)
  rw [← hV] at x0 x1 bV hsz
  have CM := hid (matchable_any _ (.mk k s l) V _ (RC_mk.2 ⟨a, n, c, rfl, hK.below bV⟩))
  have HV := hid (And.intro hK (And.intro x0 (And.intro x1 (And.intro bV hsz))))
  have HP := hid (And.intro hv (And.intro hp (And.intro hd90 hf)))
  obtain ⟨c0, c1, c2, c3, c4, c5⟩ := cells6 x0
  clear hK x0 x1 bV hsz hv hp hd90 hf h hN
  show Calls Tryd.prog 26 #[.agg #[.int .i64 k, .int .u64 (ws s 0 : Int), .int .u64 (ws s 1 : Int), .int .u64 (ws s 2 : Int), .int .u64 (ws s 3 : Int), .slice a n c], .int .u8 (bt.toNat : Int)] w _
  go_enter Tryd.func26, Tryd.ntmps26
  go_wp2_with fail
  rw [← hV]
  clear hV
  go_wp2_with fail
  refine CM.out.mono ?_
  rintro e w1 ⟨rfl, b1⟩
  rw [HP.out.2.2.2]
  have y0 := (b1.block _ (heap_lt HV.out.2.1)).trans HV.out.2.1
  have y1 := (b1.block _ (heap_lt HV.out.2.2.1)).trans HV.out.2.2.1
  obtain ⟨c0, c1, c2, c3, c4, c5⟩ := cells6 y0
  have H1 := hid (And.intro y0 (And.intro y1 b1))
  clear y0 y1 b1
  obtain ⟨Y, hY⟩ : ∃ Y, Y = ((w1.alloc (.map #[] 0)).alloc (.map #[] 0)).alloc (.cells #[.int .u8 (bt.toNat : Int), .map (some w1.heap.size), .map (some (w1.heap.size + 1)), .slice none 0 0] 78) := ⟨_, rfl⟩
  obtain ⟨m0, m1, m2, bY, hYs⟩ := Go.Frame.three w1 (.map #[] 0) (.map #[] 0) (.cells #[.int .u8 (bt.toNat : Int), .map (some w1.heap.size), .map (some (w1.heap.size + 1)), .slice none 0 0] 78)
  rw [← hY] at m0 m1 m2 bY hYs
  have hs1 := H1.out.2.2.size
  have hVs := HV.out.2.2.2.2
  have bwY : Below w.heap.size w Y := HV.out.2.2.2.1.trans ((H1.out.2.2.trans (bY.mono hs1)).mono HV.out.2.2.2.1.size)
  have hds : DS Y (w1.heap.size + 1 + 1) w1.heap.size (w1.heap.size + 1) (w1.heap.size + 3) (bt.toNat : Int) [] [] (.slice none 0 0) :=
    ⟨m2, ⟨⟨[], ⟨#[], 0, m0, rfl, fun i e h => by simp at h⟩, rfl, fun i v h => by simp at h⟩, fun i j v h => by simp at h, fun x h => by simp at h⟩, ⟨[], ⟨#[], 0, m1, rfl, fun e h => by simp at h⟩, rfl⟩, OX.nil _ _, List.nodup_nil, by omega, by omega, by omega, by omega, by omega⟩
  have CD := hid (derive_any (bt := bt) (N := w.heap.size) (D := w1.heap.size + 1 + 1) (m := w1.heap.size) (f := w1.heap.size + 1) (base := w1.heap.size + 3) ⟨by omega, by omega, by omega, by omega⟩ (.mk k s l) HP.out.1 HP.out.2.1 Y (rcs k s (.slice a n c)) [] [] (.slice none 0 0) [] (.pointer none) (RC_mk.2 ⟨a, n, c, rfl, HV.out.1.below bwY⟩) rfl hds (by have := HP.out.2.2.1; simp; omega) (by have := HP.out.2.2.1; simp; omega) (by have := HP.out.2.2.1; simp; omega) (by simp))
  have y0 := (bY.block _ (heap_lt H1.out.1)).trans H1.out.1
  have y1 := (bY.block _ (heap_lt H1.out.2.1)).trans H1.out.2.1
  obtain ⟨d0, d1, d2, d3, d4, d5⟩ := cells6 y0
  have HY := hid (And.intro y1 (And.intro bwY (And.intro hds (And.intro hs1 (And.intro hVs hYs)))))
  clear m0 m1 m2 bY hYs hs1 hVs bwY hds y0 y1
  go_upto_region 4 with fail
  rw [← hY]
  clear hY c0 c1 c2 c3 c4 c5
  go_wp2_with fail
  refine CD.out.mono ?_
  rintro e w2 ⟨rfl, T', F', pv', e1, e2, e3, e4, e6, e5⟩
  have hF : (F'.map ex).length < 140737488355328 := by have := HP.out.2.1; simp at e6 ⊢; omega
  obtain ⟨pa, pc, rfl, hKd⟩ := e1.row.kd hF
  obtain ⟨g0, g1, g2, g3⟩ := cells4 e1.db
  have CJ := hid (show Calls Tryd.prog 50 #[.int .i64 5, .int .i64 1, .slice pa F'.length pc] w2 fun e w' => (∃ cs : List Value, e = .returned (.agg cs.toArray) ∧ RC (ge (w1.heap.size + 3)) w' (jw 5 1 (F'.map ex)) cs) ∧ Below w2.heap.size w2 w' from by
    have h9 := join_any _ 5 1 (F'.map ex) pa (F'.map ex).length pc w2 hKd
    rw [List.length_map] at h9
    exact h9)
  have hsz := HY.out.2.2.2.1
  have hV2 := HY.out.2.2.2.2.1
  have z1 := (e5.md.block (w.heap.size + 1) (heap_lt HY.out.1) (by
    rintro (e | e | e | e)
    · omega
    · omega
    · omega
    · simp [Value.ownBlock] at e)).trans HY.out.1
  have hbz : Below w.heap.size w w2 := ⟨e5.md.os.trans HY.out.2.1.os, e5.md.tape.trans HY.out.2.1.tape, e5.md.output.trans HY.out.2.1.output, Nat.le_trans HY.out.2.1.size e5.md.size, fun k hk => (e5.md.block k (Nat.lt_of_lt_of_le hk HY.out.2.1.size) (by
    rintro (e | e | e | e)
    · omega
    · omega
    · omega
    · simp [Value.ownBlock] at e)).trans (HY.out.2.1.block k hk)⟩
  have hzl := heap_lt z1
  have HZ := hid (And.intro e1.nodup (And.intro e3 (And.intro hbz (And.intro z1 (And.intro hsz hV2)))))
  clear e1 e2 e3 e4 e5 e6 hKd hF z1 hbz hsz hV2
  go_wp2_with fail
  refine CJ.out.mono ?_
  rintro e w3 ⟨⟨cs, rfl, hcs⟩, b3⟩
  rw [jw_jn] at hcs
  obtain ⟨k', s', l', hxe⟩ : ∃ k' s' l', jn (F'.map ex) = .mk k' s' l' := by
    cases jn (F'.map ex) with
    | mk a b c => exact ⟨a, b, c, rfl⟩
  rw [hxe] at hcs
  obtain ⟨a', n', c', rfl, _⟩ := RC_mk.1 hcs
  obtain ⟨hnd, hmem, hbz, z1, hsz, hV2⟩ := HZ.out
  have hz1 := (b3.block _ hzl).trans z1
  have hb1 := hbz.trans (b3.mono hbz.size)
  have f0 := free hz1 0
  have f1 := free hz1 1
  have f2 := free hz1 2
  have f3 := free hz1 3
  have f4 := free hz1 4
  have f5 := free hz1 5
  obtain ⟨i0, i1, i2, i3, i4, i5⟩ := cells6 hz1
  have HW := hid (And.intro hz1 (And.intro hb1 (And.intro hcs (And.intro hxe (And.intro hnd (And.intro hmem (And.intro hsz hV2)))))))
  clear hz1 hb1 hcs hxe b3 hnd hmem hbz z1 hsz hV2
  rw [rcs_arr]
  go_wp2_with fail
  obtain ⟨w6, hw6⟩ : ∃ w6, w6 = ((((((w3.setCell ⟨w.heap.size + 1, 0, none⟩ (.int .i64 k')).setCell ⟨w.heap.size + 1, 1, none⟩ (.int .u64 (ws s' 0 : Int))).setCell ⟨w.heap.size + 1, 2, none⟩ (.int .u64 (ws s' 1 : Int))).setCell ⟨w.heap.size + 1, 3, none⟩ (.int .u64 (ws s' 2 : Int))).setCell ⟨w.heap.size + 1, 4, none⟩ (.int .u64 (ws s' 3 : Int))).setCell ⟨w.heap.size + 1, 5, none⟩ (.slice a' n' c')) := ⟨_, rfl⟩
  rw [← hw6]
  obtain ⟨hz1, hb1, hcs, hxe, hnd, hmem, hsz, hV2⟩ := HW.out
  obtain ⟨p1, _, p4, _, p6, p7⟩ := put6 hz1 (o := 0) (by simp) _ _ _ _ _ _ w6 hw6
  have j0 := p6 0 _ rfl
  have j1 := p6 1 _ rfl
  have j2 := p6 2 _ rfl
  have j3 := p6 3 _ rfl
  have j4 := p6 4 _ rfl
  have j5 := p6 5 _ rfl
  simp only [Nat.zero_add] at j0 j1 j2 j3 j4 j5
  refine bodyPost_ret (v := .agg #[.int .i64 k', .int .u64 (ws s' 0 : Int), .int .u64 (ws s' 1 : Int), .int .u64 (ws s' 2 : Int), .int .u64 (ws s' 3 : Int), .slice a' n' c']) ?_ rfl ⟨⟨jn (F'.map ex), rcs k' s' (.slice a' n' c'), rfl, ⟨F', hnd, fun c => by rw [hmem c]; simp, rfl⟩, ?_⟩, p7 _ _ hb1 (by omega)⟩
  · simp [results, Tryd.results26, go_sem, j0, j1, j2, j3, j4, j5]
  · rw [hxe]
    exact RC.keep (g := ge (w1.heap.size + 3)) (by rw [p1]; exact Nat.le_refl _) (fun b hb _ => p4 b (by have : w1.heap.size + 3 ≤ b := hb; omega)) (fun b hb => by have : w1.heap.size + 3 ≤ b := hb; show w.heap.size ≤ b; omega) _ hcs
end Go.Proofs.YtednoideboeehaaDoor
end
section
set_option linter.unusedSimpArgs false
set_option linter.unusedVariables false
namespace Go.Proofs.YtednoideboeehaaDoor
open Go.RowKit Bs Rg Go.Frame

/-- What Parse answers, its value spelt out. -/
def PrR (k : Int) (s : BS) (l : List Rx) (at' er : Int) (w : World) (e : Ending) (w' : World) : Prop := ∃ a n c, e = .returned (.tuple #[.agg #[.int .i64 k, .int .u64 (ws s 0 : Int), .int .u64 (ws s 1 : Int), .int .u64 (ws s 2 : Int), .int .u64 (ws s 3 : Int), .slice a n c], .int .i64 at', .int .i64 er]) ∧ n = l.length ∧ Kd (ge w.heap.size) w' a n l
theorem Parse_at (s : ByteArray) (w : World) (hs : s.size ≤ 1000000) (k : Int) (S : BS) (l : List Rx) (at' er : Nat) (h : parseR s.data.toList = (.mk k S l, at', er)) :
    Calls Tryd.prog 16 #[.string s] w fun e w' => PrR k S l at' er w e w' ∧ Below w.heap.size w w' := by
  refine (Parse_any s w hs).mono ?_
  rintro e w' ⟨⟨cs, rfl, hR⟩, hb⟩
  rw [h] at hR ⊢
  obtain ⟨a, n, c, rfl, hK⟩ := RC_mk.1 hR
  exact ⟨⟨a, n, c, rfl, hK.1.symm, hK⟩, hb⟩
/-- An expression in a box. -/
structure BX (W : World) (b : Nat) (k : Int) (s : BS) (a : Option Addr) (n c : Nat) (l : List Rx) : Prop where
  box : W.heap[b]? = some (.cells #[.int .i64 k, .int .u64 (ws s 0 : Int), .int .u64 (ws s 1 : Int), .int .u64 (ws s 2 : Int), .int .u64 (ws s 3 : Int), .slice a n c] 27 (0, 0))
  kd : Kd (fun _ => True) W a n l
theorem BX.below {W W' : World} {b : Nat} {k : Int} {s : BS} {a : Option Addr} {n c : Nat} {l : List Rx} (h : BX W b k s a n c l) (hb : Below W.heap.size W W') : BX W' b k s a n c l :=
  ⟨(hb.block _ (heap_lt h.box)).trans h.box, h.kd.below hb⟩
theorem BX.rc {W : World} {b : Nat} {k : Int} {s : BS} {a : Option Addr} {n c : Nat} {l : List Rx} (h : BX W b k s a n c l) : RC (fun _ => True) W (.mk k s l) (rcs k s (.slice a n c)) := RC_mk.2 ⟨a, n, c, rfl, h.kd⟩
theorem BX.new {w W : World} {k : Int} {s : BS} {a : Option Addr} {n c : Nat} {l : List Rx} (h : Kd (ge w.heap.size) W a n l) : BX (W.alloc (.cells #[.int .i64 k, .int .u64 (ws s 0 : Int), .int .u64 (ws s 1 : Int), .int .u64 (ws s 2 : Int), .int .u64 (ws s 3 : Int), .slice a n c] 27)) W.heap.size k s a n c l :=
  ⟨alloc_new _ _, (h.below (bel1 _ _)).keep (Nat.le_refl _) (fun _ _ _ => rfl) (fun _ _ => trivial)⟩

/-- What Derive answers, its value spelt out. -/
def DR (b : UInt8) (r : Rx) (w : World) (e : Ending) (w' : World) : Prop := ∃ k s a n c l, e = .returned (.agg #[.int .i64 k, .int .u64 (ws s 0 : Int), .int .u64 (ws s 1 : Int), .int .u64 (ws s 2 : Int), .int .u64 (ws s 3 : Int), .slice a n c]) ∧ Der b r (.mk k s l) ∧ RC (ge w.heap.size) w' (.mk k s l) (rcs k s (.slice a n c))
theorem DR.of {b : UInt8} {r : Rx} {w : World} {e : Ending} {w' : World} (h : ∃ (d : Rx) (ds : List Value), e = .returned (.agg ds.toArray) ∧ Der b r d ∧ RC (ge w.heap.size) w' d ds) : DR b r w e w' := by
  obtain ⟨⟨k, s, l⟩, ds, rfl, h1, h2⟩ := h
  obtain ⟨a, n, c, rfl, hK⟩ := RC_mk.1 h2
  exact ⟨k, s, a, n, c, l, rfl, h1, h2⟩
set_option maxRecDepth 100000 in
set_option maxHeartbeats 8000000 in
theorem awake_any (w : World) (hT : Tb w) : Calls Tryd.prog 13 #[] w fun e w' => e = .returned (.bool true) ∧ Below w.heap.size w w' := by
  have CA := hid (fun V => show Calls Tryd.prog 16 #[.string { data := #[97, 40, 98, 124, 99, 41, 42] }] V fun e w' => PrR 4 none8 exA.l 0 0 V e w' ∧ Below V.heap.size V w' from Parse_at ⟨#[97, 40, 98, 124, 99, 41, 42]⟩ V (by decide) 4 none8 exA.l 0 0 qA)
  have CB := hid (fun V => show Calls Tryd.prog 16 #[.string { data := #[97, 43] }] V fun e w' => PrR 4 none8 exB.l 0 0 V e w' ∧ Below V.heap.size V w' from Parse_at ⟨#[97, 43]⟩ V (by decide) 4 none8 exB.l 0 0 qB)
  have CC := hid (fun V => show Calls Tryd.prog 16 #[.string { data := #[91, 97, 45, 99, 120, 93, 63] }] V fun e w' => PrR 5 none8 exC.l 0 0 V e w' ∧ Below V.heap.size V w' from Parse_at ⟨#[91, 97, 45, 99, 120, 93, 63]⟩ V (by decide) 5 none8 exC.l 0 0 qC)
  have CD := hid (fun V => show Calls Tryd.prog 16 #[.string { data := #[97, 41] }] V fun e w' => PrR 0 none8 zr.l 1 3 V e w' ∧ Below V.heap.size V w' from Parse_at ⟨#[97, 41]⟩ V (by decide) 0 none8 zr.l 1 3 qD)
  have CE := hid (fun V => show Calls Tryd.prog 16 #[.string { data := #[91, 97] }] V fun e w' => PrR 0 none8 zr.l 2 3 V e w' ∧ Below V.heap.size V w' from Parse_at ⟨#[91, 97]⟩ V (by decide) 0 none8 zr.l 2 3 qE)
  have HT := hid hT
  clear hT
  go_enter Tryd.func13, Tryd.ntmps13
  go_wp2_with fail
  refine (CA.out _).mono ?_
  rintro e VA ⟨⟨aA, nA, cA, rfl, hA, kA⟩, bA⟩
  obtain rfl : nA = 2 := hA
  have BA' := hid bA
  have KA := hid kA
  clear bA kA
  go_wp2_with fail
  obtain ⟨WA, hW⟩ : ∃ WA, WA = VA.alloc (.cells #[.int .i64 4, .int .u64 (ws none8 0 : Int), .int .u64 (ws none8 1 : Int), .int .u64 (ws none8 2 : Int), .int .u64 (ws none8 3 : Int), .slice aA 2 cA] 27) := ⟨_, rfl⟩
  have XA := hid (show BX WA VA.heap.size 4 none8 aA 2 cA exA.l ∧ Below w.heap.size w WA from by rw [hW]; exact ⟨BX.new KA.out, below_made BA'.out BA'.out.size⟩)
  rw [← hW]
  clear hW
  refine (CB.out _).mono ?_
  rintro e VB ⟨⟨aB, nB, cB, rfl, hB, kB⟩, bB⟩
  obtain rfl : nB = 2 := hB
  have BB' := hid bB
  have KB := hid kB
  clear bB kB
  go_wp2_with fail
  obtain ⟨WB, hW⟩ : ∃ WB, WB = VB.alloc (.cells #[.int .i64 4, .int .u64 (ws none8 0 : Int), .int .u64 (ws none8 1 : Int), .int .u64 (ws none8 2 : Int), .int .u64 (ws none8 3 : Int), .slice aB 2 cB] 27) := ⟨_, rfl⟩
  have XB := hid (show BX WB VB.heap.size 4 none8 aB 2 cB exB.l ∧ Below WA.heap.size WA WB from by rw [hW]; exact ⟨BX.new KB.out, below_made BB'.out BB'.out.size⟩)
  rw [← hW]
  clear hW
  refine (CC.out _).mono ?_
  rintro e VC ⟨⟨aC, nC, cC, rfl, hC, kC⟩, bC⟩
  obtain rfl : nC = 2 := hC
  have BC' := hid bC
  have KC := hid kC
  clear bC kC
  go_wp2_with fail
  obtain ⟨WC, hW⟩ : ∃ WC, WC = VC.alloc (.cells #[.int .i64 5, .int .u64 (ws none8 0 : Int), .int .u64 (ws none8 1 : Int), .int .u64 (ws none8 2 : Int), .int .u64 (ws none8 3 : Int), .slice aC 2 cC] 27) := ⟨_, rfl⟩
  have XC := hid (show BX WC VC.heap.size 5 none8 aC 2 cC exC.l ∧ Below WB.heap.size WB WC from by rw [hW]; exact ⟨BX.new KC.out, below_made BC'.out BC'.out.size⟩)
  rw [← hW]
  clear hW
  refine (CD.out _).mono ?_
  rintro e VD ⟨⟨aD, nD, cD, rfl, hD, kD⟩, bD⟩
  obtain rfl : nD = 0 := hD
  have BD' := hid bD
  have KD := hid kD
  clear bD kD
  go_wp2_with fail
  obtain ⟨WD, hW⟩ : ∃ WD, WD = VD.alloc (.cells #[.int .i64 0, .int .u64 (ws none8 0 : Int), .int .u64 (ws none8 1 : Int), .int .u64 (ws none8 2 : Int), .int .u64 (ws none8 3 : Int), .slice aD 0 cD] 27) := ⟨_, rfl⟩
  have XD := hid (show BX WD VD.heap.size 0 none8 aD 0 cD zr.l ∧ Below WC.heap.size WC WD from by rw [hW]; exact ⟨BX.new KD.out, below_made BD'.out BD'.out.size⟩)
  rw [← hW]
  clear hW
  refine (CE.out _).mono ?_
  rintro e VE ⟨⟨aE, nE, cE, rfl, hE, kE⟩, bE⟩
  obtain rfl : nE = 0 := hE
  have BE' := hid bE
  have KE := hid kE
  clear bE kE
  go_upto_region 6 with fail
  obtain ⟨WE, hW⟩ : ∃ WE, WE = VE.alloc (.cells #[.int .i64 0, .int .u64 (ws none8 0 : Int), .int .u64 (ws none8 1 : Int), .int .u64 (ws none8 2 : Int), .int .u64 (ws none8 3 : Int), .slice aE 0 cE] 27) := ⟨_, rfl⟩
  have XE := hid (show BX WE VE.heap.size 0 none8 aE 0 cE zr.l ∧ Below WD.heap.size WD WE from by rw [hW]; exact ⟨BX.new KE.out, below_made BE'.out BE'.out.size⟩)
  rw [← hW]
  clear hW
  have P := hid (fun V (hV : Below WE.heap.size WE V) => show BX V VA.heap.size 4 none8 aA 2 cA exA.l ∧ BX V VB.heap.size 4 none8 aB 2 cB exB.l ∧ BX V VC.heap.size 5 none8 aC 2 cC exC.l ∧ Below w.heap.size w V from by
    have e4 := hV
    have e3 := XE.out.2.trans (e4.mono XE.out.2.size)
    have e2 := XD.out.2.trans (e3.mono XD.out.2.size)
    have e1 := XC.out.2.trans (e2.mono XC.out.2.size)
    have e0 := XB.out.2.trans (e1.mono XB.out.2.size)
    exact ⟨XA.out.1.below e0, XB.out.1.below e1, XC.out.1.below e2, XA.out.2.trans (e0.mono XA.out.2.size)⟩)
  have D0 := hid (fun V (hV : Below WE.heap.size WE V) => show Calls Tryd.prog 23 #[.agg #[.int .i64 4, .int .u64 (ws none8 0 : Int), .int .u64 (ws none8 1 : Int), .int .u64 (ws none8 2 : Int), .int .u64 (ws none8 3 : Int), .slice aA 2 cA], .string { data := #[97, 98, 99, 98] }] V fun e w' => e = .returned (.bool true) ∧ Below V.heap.size V w' from (by have := Match_any _ exA ⟨#[97, 98, 99, 98]⟩ V _ (fits_mono (by decide) vA) (Nat.le_trans pcA (by decide)) (by decide) (P.out V hV).1.rc; rw [mA1] at this; exact this))
  have D1 := hid (fun V (hV : Below WE.heap.size WE V) => show Calls Tryd.prog 23 #[.agg #[.int .i64 4, .int .u64 (ws none8 0 : Int), .int .u64 (ws none8 1 : Int), .int .u64 (ws none8 2 : Int), .int .u64 (ws none8 3 : Int), .slice aA 2 cA], .string { data := #[98, 97] }] V fun e w' => e = .returned (.bool false) ∧ Below V.heap.size V w' from (by have := Match_any _ exA ⟨#[98, 97]⟩ V _ (fits_mono (by decide) vA) (Nat.le_trans pcA (by decide)) (by decide) (P.out V hV).1.rc; rw [mA2] at this; exact this))
  have D2 := hid (fun V (hV : Below WE.heap.size WE V) => show Calls Tryd.prog 21 #[.agg #[.int .i64 4, .int .u64 (ws none8 0 : Int), .int .u64 (ws none8 1 : Int), .int .u64 (ws none8 2 : Int), .int .u64 (ws none8 3 : Int), .slice aB 2 cB]] V fun e w' => e = .returned (.string { data := #[97, 97, 42] }) ∧ Below V.heap.size V w' from (by have := Format_any _ exB V _ vB prB (Nat.le_trans pcB (by decide)) (HT.out.below (P.out V hV).2.2.2) (P.out V hV).2.1.rc; rw [fB] at this; exact this))
  have D3 := hid (fun V (hV : Below WE.heap.size WE V) => show Calls Tryd.prog 21 #[.agg #[.int .i64 5, .int .u64 (ws none8 0 : Int), .int .u64 (ws none8 1 : Int), .int .u64 (ws none8 2 : Int), .int .u64 (ws none8 3 : Int), .slice aC 2 cC]] V fun e w' => e = .returned (.string { data := #[91, 97, 45, 99, 120, 93, 124, 40, 41] }) ∧ Below V.heap.size V w' from (by have := Format_any _ exC V _ vC prC (Nat.le_trans pcC (by decide)) (HT.out.below (P.out V hV).2.2.2) (P.out V hV).2.2.1.rc; rw [fC] at this; exact this))
  have D4 := hid (fun V (hV : Below WE.heap.size WE V) => show Calls Tryd.prog 14 #[.agg #[.int .i64 4, .int .u64 (ws none8 0 : Int), .int .u64 (ws none8 1 : Int), .int .u64 (ws none8 2 : Int), .int .u64 (ws none8 3 : Int), .slice aA 2 cA]] V fun e w' => e = .returned (.bool true) ∧ Below V.heap.size V w' from (by have := Valid_any _ exA V _ (P.out V hV).1.rc; rw [vA] at this; exact this))
  have D5 := hid (fun V (hV : Below WE.heap.size WE V) => show Calls Tryd.prog 25 #[.agg #[.int .i64 4, .int .u64 (ws none8 0 : Int), .int .u64 (ws none8 1 : Int), .int .u64 (ws none8 2 : Int), .int .u64 (ws none8 3 : Int), .slice aA 2 cA]] V fun e w' => e = .returned (.bool false) ∧ Below V.heap.size V w' from (by have := Nullable_any _ exA V _ (P.out V hV).1.rc (fits_mono (by decide) vA); rw [nA] at this; exact this))
  have D6 := hid (fun V (hV : Below WE.heap.size WE V) => show Calls Tryd.prog 26 #[.agg #[.int .i64 4, .int .u64 (ws none8 0 : Int), .int .u64 (ws none8 1 : Int), .int .u64 (ws none8 2 : Int), .int .u64 (ws none8 3 : Int), .slice aA 2 cA], .int .u8 97] V fun e w' => DR 97 exA V e w' ∧ Below V.heap.size V w' from (Derive_any _ exA 97 V _ (fits_mono (by decide) vA) (Nat.le_trans pcA (by decide)) (P.out V hV).1.rc).mono (fun e w' h => ⟨DR.of h.1, h.2⟩))
  have D7 := hid (fun V (hV : Below WE.heap.size WE V) => show Calls Tryd.prog 26 #[.agg #[.int .i64 4, .int .u64 (ws none8 0 : Int), .int .u64 (ws none8 1 : Int), .int .u64 (ws none8 2 : Int), .int .u64 (ws none8 3 : Int), .slice aA 2 cA], .int .u8 98] V fun e w' => DR 98 exA V e w' ∧ Below V.heap.size V w' from (Derive_any _ exA 98 V _ (fits_mono (by decide) vA) (Nat.le_trans pcA (by decide)) (P.out V hV).1.rc).mono (fun e w' h => ⟨DR.of h.1, h.2⟩))
  have Z0 := hid (Below.refl WE.heap.size WE)
  clear HT
  obtain ⟨p0, p1, p2, p3, p4, p5⟩ := cells6 (P.out _ Z0.out).1.box
  go_wp2_with fail
  refine (D0.out _ Z0.out).mono ?_
  rintro e U0 ⟨rfl, b0⟩
  clear p0 p1 p2 p3 p4 p5
  have Z1 := hid (Z0.out.trans (b0.mono Z0.out.size))
  clear b0
  obtain ⟨p0, p1, p2, p3, p4, p5⟩ := cells6 (P.out _ Z1.out).1.box
  go_wp2_with fail
  refine (D1.out _ Z1.out).mono ?_
  rintro e U1 ⟨rfl, b1⟩
  clear p0 p1 p2 p3 p4 p5
  have Z2 := hid (Z1.out.trans (b1.mono Z1.out.size))
  clear b1
  obtain ⟨p0, p1, p2, p3, p4, p5⟩ := cells6 (P.out _ Z2.out).2.1.box
  go_wp2_with fail
  refine (D2.out _ Z2.out).mono ?_
  rintro e U2 ⟨rfl, b2⟩
  clear p0 p1 p2 p3 p4 p5
  have Z3 := hid (Z2.out.trans (b2.mono Z2.out.size))
  clear b2
  obtain ⟨p0, p1, p2, p3, p4, p5⟩ := cells6 (P.out _ Z3.out).2.2.1.box
  go_wp2_with fail
  refine (D3.out _ Z3.out).mono ?_
  rintro e U3 ⟨rfl, b3⟩
  clear p0 p1 p2 p3 p4 p5
  have Z4 := hid (Z3.out.trans (b3.mono Z3.out.size))
  clear b3
  obtain ⟨p0, p1, p2, p3, p4, p5⟩ := cells6 (P.out _ Z4.out).1.box
  go_wp2_with fail
  refine (D4.out _ Z4.out).mono ?_
  rintro e U4 ⟨rfl, b4⟩
  clear p0 p1 p2 p3 p4 p5
  have Z5 := hid (Z4.out.trans (b4.mono Z4.out.size))
  clear b4
  obtain ⟨p0, p1, p2, p3, p4, p5⟩ := cells6 (P.out _ Z5.out).1.box
  go_wp2_with fail
  refine (D5.out _ Z5.out).mono ?_
  rintro e U5 ⟨rfl, b5⟩
  clear p0 p1 p2 p3 p4 p5
  have Z6 := hid (Z5.out.trans (b5.mono Z5.out.size))
  clear b5
  obtain ⟨p0, p1, p2, p3, p4, p5⟩ := cells6 (P.out _ Z6.out).1.box
  go_wp2_with fail
  refine (D6.out _ Z6.out).mono ?_
  rintro e U6 ⟨⟨k6, s6, a6, n6, c6, l6, rfl, hd6, hk6⟩, b6⟩
  clear p0 p1 p2 p3 p4 p5
  have Y6 := hid (Z6.out.trans (b6.mono Z6.out.size))
  have E6 := hid (And.intro hd6 hk6)
  clear b6 hd6 hk6
  have F6 := hid (show Calls Tryd.prog 23 #[.agg #[.int .i64 k6, .int .u64 (ws s6 0 : Int), .int .u64 (ws s6 1 : Int), .int .u64 (ws s6 2 : Int), .int .u64 (ws s6 3 : Int), .slice a6 n6 c6], .string { data := #[99, 98] }] U6 fun e w' => e = .returned (.bool true) ∧ Below U6.heap.size U6 w' from by
    have hv : Vd exA := ⟨_, vA⟩
    have h1 := E6.out.1
    have := Match_any _ (.mk k6 s6 l6) ⟨#[99, 98]⟩ U6 _ (der_fits h1 vA) (der_parts h1 hv (by decide +kernel)) (by decide) E6.out.2
    rw [der_mtc h1 hv, show (97 :: ((⟨#[99, 98]⟩ : ByteArray).data.toList)) = ([97, 99, 98] : List UInt8) from rfl, mA3] at this
    exact this)
  go_wp2_with fail
  refine F6.out.mono ?_
  rintro e T6 ⟨rfl, d6⟩
  have Z7 := hid (Y6.out.trans (d6.mono Y6.out.size))
  clear d6
  obtain ⟨p0, p1, p2, p3, p4, p5⟩ := cells6 (P.out _ Z7.out).1.box
  go_wp2_with fail
  refine (D7.out _ Z7.out).mono ?_
  rintro e U7 ⟨⟨k7, s7, a7, n7, c7, l7, rfl, hd7, hk7⟩, b7⟩
  clear p0 p1 p2 p3 p4 p5
  have Y7 := hid (Z7.out.trans (b7.mono Z7.out.size))
  have E7 := hid (And.intro hd7 hk7)
  clear b7 hd7 hk7
  have F7 := hid (show Calls Tryd.prog 23 #[.agg #[.int .i64 k7, .int .u64 (ws s7 0 : Int), .int .u64 (ws s7 1 : Int), .int .u64 (ws s7 2 : Int), .int .u64 (ws s7 3 : Int), .slice a7 n7 c7], .string { data := #[] }] U7 fun e w' => e = .returned (.bool false) ∧ Below U7.heap.size U7 w' from by
    have hv : Vd exA := ⟨_, vA⟩
    have h1 := E7.out.1
    have := Match_any _ (.mk k7 s7 l7) ⟨#[]⟩ U7 _ (der_fits h1 vA) (der_parts h1 hv (by decide +kernel)) (by decide) E7.out.2
    rw [der_mtc h1 hv, show (98 :: ((⟨#[]⟩ : ByteArray).data.toList)) = ([98] : List UInt8) from rfl, mA4] at this
    exact this)
  go_wp2_with fail
  refine F7.out.mono ?_
  rintro e T7 ⟨rfl, d7⟩
  have Z8 := hid (Y7.out.trans (d7.mono Y7.out.size))
  clear d7
  go_wp2
  go_ret
  exact ⟨rfl, (P.out _ Z8.out).2.2.2⟩
end Go.Proofs.YtednoideboeehaaDoor
end
