/-
  Contract: arcsByFrom.
-/
import Derived.Test.YtogpnlkjcdedlaaDoorMs
import Derived.BigRegion
set_option linter.unusedSimpArgs false
set_option linter.unusedVariables false
namespace Go.Proofs.YtogpnlkjcdedlaaDoor
open Go.RowKit Bs Rg Nf Go.Frame
attribute [local go_sem] eq_zero eq_set

theorem info22 : (Tryd.prog.info? 22).map (fun i => (i.zero, i.size, i.bytes)) = some (some (.slice none 0 0), 1, 24) := by kernel_rfl
theorem made_one (z : Value) (n : Nat) : madeCells #[z] n = (List.replicate n z).toArray := by
  apply Array.ext'; rw [toList_madeCells_one]
set_option maxRecDepth 100000 in
theorem make_arcs (n : Nat) (hn : n ≤ 1000000) (w : World) :
    (Instr.makeSlice 93 (.int .i64 (n : Int)) (.int .i64 (n : Int))).run Tryd.prog w = .ok (.slice (some ⟨w.heap.size, 0, none⟩) n n) (w.alloc (.cells (List.replicate n (.slice none 0 0)).toArray 22)) := by
  obtain ⟨i, hi, h0, h1, h2⟩ := info_parts info22
  have := run_make (P := Tryd.prog) w 93 22 i _ Tryd.underlying93 hi h0 .i64 .i64 n n (by omega) (Int.le_refl _) (by rw [h2]; omega) (by omega)
  rw [h1, show (Value.slice none 0 0).cells = #[.slice none 0 0] by kernel_rfl] at this
  rw [← made_one]
  simpa using this
theorem srt_le {l : List Arc} (h : Srt l) : ∀ (d i : Nat) (x y : Arc), l[i]? = some x → l[i + d]? = some y → x.f ≤ y.f
  | 0, i, x, y, hx, hy => by rw [Nat.add_zero, hx] at hy; simp at hy; rw [hy]; exact Int.le_refl _
  | d + 1, i, x, y, hx, hy => by
    have hlt := (List.getElem?_eq_some_iff.1 hy).1
    obtain ⟨z, hz⟩ : ∃ z, l[i + d]? = some z := ⟨l[i + d]'(by omega), List.getElem?_eq_getElem _⟩
    exact Int.le_trans (srt_le h d i x z hx hz) (h (i + d) z y hz hy)
/-- The arcs ahead of place q leave states below x, the others do not. -/
def Sp (l : List Arc) (q : Nat) (x : Int) : Prop := q ≤ l.length ∧ (∀ z ∈ l.take q, z.f < x) ∧ ∀ z ∈ l.drop q, x ≤ z.f
theorem Sp.next {l : List Arc} {q e : Nat} {x : Int} (hs : Srt l) (h : Sp l q x) (he : q + e ≤ l.length) (h1 : ∀ z ∈ (l.drop q).take e, z.f = x) (h2 : ∀ z, l[q + e]? = some z → z.f ≠ x) : Sp l (q + e) (x + 1) := by
  refine ⟨he, fun z hz => ?_, fun z hz => ?_⟩
  · rw [List.take_add, List.mem_append] at hz
    rcases hz with hz | hz
    · have := h.2.1 z hz; omega
    · have := h1 z hz; omega
  · obtain ⟨i, hi⟩ := List.mem_iff_getElem?.1 hz
    rw [List.getElem?_drop] at hi
    have hlt := (List.getElem?_eq_some_iff.1 hi).1
    obtain ⟨y, hy⟩ : ∃ y, l[q + e]? = some y := ⟨l[q + e]'(by omega), List.getElem?_eq_getElem _⟩
    have g1 := srt_le hs i (q + e) y z hy hi
    have g2 := h2 y hy
    have g3 := h.2.2 y (List.mem_of_getElem? (i := e) (by rw [List.getElem?_drop]; exact hy))
    omega
theorem Sp.cast {l : List Arc} {q x : Nat} (h : Sp l q ((x : Int) + 1)) : Sp l q ((x + 1 : Nat) : Int) := by
  have e9 : ((x + 1 : Nat) : Int) = (x : Int) + 1 := by omega
  rw [e9]; exact h
theorem Sp.row {l : List Arc} {q e : Nat} {x : Int} (h : Sp l q x) (h1 : ∀ z ∈ (l.drop q).take e, z.f = x) (h2 : Sp l (q + e) (x + 1)) (z : Arc) : z ∈ (l.drop q).take e ↔ z ∈ l ∧ z.f = x := by
  constructor
  · intro hz
    exact ⟨List.mem_of_mem_drop (List.mem_of_mem_take hz), h1 z hz⟩
  · rintro ⟨hz, hf⟩
    rw [← List.take_append_drop q l, List.mem_append] at hz
    rcases hz with hz | hz
    · have := h.2.1 z hz; omega
    · rw [← List.take_append_drop e (l.drop q), List.mem_append, List.drop_drop] at hz
      rcases hz with hz | hz
      · exact hz
      · have := h2.2.2 z hz; omega
/-- What is left of a row behind its first elements. -/
theorem CRow_drop {W : World} {b off n e : Nat} {C : List (List Value)} (h : CRow 7 W (some ⟨b, off, none⟩) n C) (he : e ≤ n) : CRow 7 W (some ⟨b, off + e * 7, none⟩) (n - e) (C.drop e) := by
  refine ⟨by rw [List.length_drop, h.1], ?_⟩
  rcases h.2 with h0 | ⟨b', off', e', hb, hx⟩
  · exact .inl (by omega)
  · simp at e'
    obtain ⟨rfl, rfl⟩ := e'
    exact .inr ⟨b, off + e * 7, rfl, hb, fun i cs hi j v hj => by rw [show off + e * 7 + i * 7 + j = off + (e + i) * 7 + j by omega]; exact hx (e + i) cs (by rw [List.getElem?_drop] at hi; exact hi) j v hj⟩
theorem CRow_take {W : World} {a : Option Addr} {n e : Nat} {C : List (List Value)} (h : CRow 7 W a n C) (he : e ≤ n) : CRow 7 W a e (C.take e) := by
  refine ⟨by rw [List.length_take, h.1]; omega, ?_⟩
  rcases h.2 with h0 | ⟨b', off', e', hb, hx⟩
  · exact .inl (by omega)
  · exact .inr ⟨b', off', e', hb, fun i cs hi j v hj => hx i cs (by rw [List.getElem?_take] at hi; split at hi; exact hi; cases hi) j v hj⟩
theorem set_rows {wr : World} {AB x : Nat} {vs : List Value} {v : Value} {t : TypeId} (h : wr.heap[AB]? = some (.cells vs.toArray t (0, 0))) : (wr.setCell ⟨AB, x, none⟩ v).heap[AB]? = some (.cells (vs.set x v).toArray t (0, 0)) := by
  rw [blk_put h]
  congr 2
  apply Array.ext'
  simp
/-- One state's row. -/
def RW (W : World) (v : Value) (l : List Arc) (x : Nat) (ok : Nat → Prop) : Prop := ∃ (a : Option Addr) (k c : Nat) (r : List Arc), v = .slice a k c ∧ CRow 7 W a k (r.map acs) ∧ k ≤ 140737488355328 ∧ (∀ z, z ∈ r ↔ z ∈ l ∧ z.f = (x : Int)) ∧ (k ≠ 0 → ∀ b off, a = some ⟨b, off, none⟩ → ok b)
theorem RW.more {W : World} {v : Value} {l : List Arc} {x : Nat} {ok ok' : Nat → Prop} (h : RW W v l x ok) (ho : ∀ b, ok b → ok' b) : RW W v l x ok' := by
  obtain ⟨a, k, c, r, h1, h2, h3, h4, h5⟩ := h
  exact ⟨a, k, c, r, h1, h2, h3, h4, fun h0 b off e => ho b (h5 h0 b off e)⟩
theorem RW.below {W W' : World} {v : Value} {l : List Arc} {x : Nat} {ok : Nat → Prop} (h : RW W v l x ok) (hb : Below W.heap.size W W') : RW W' v l x ok := by
  obtain ⟨a, k, c, r, h1, h2, h3, h4, h5⟩ := h
  exact ⟨a, k, c, r, h1, h2.below hb, h3, h4, h5⟩
theorem rows_next {W : World} {vs : List Value} {v : Value} {l : List Arc} {x : Nat} {ok : Nat → Prop} (hx : x < vs.length) (h : ∀ x', x' < x → ∃ v, vs[x']? = some v ∧ RW W v l x' ok) (hv : RW W v l x ok) : ∀ x', x' < x + 1 → ∃ u, (vs.set x v)[x']? = some u ∧ RW W u l x' ok := by
  intro x' hx'
  by_cases e : x' = x
  · subst e; exact ⟨v, by simp [hx], hv⟩
  · obtain ⟨u, h1, h2⟩ := h x' (by omega)
    exact ⟨u, by rw [List.getElem?_set_ne (fun h => e h.symm)]; exact h1, h2⟩
theorem row_lt {W : World} {a : Option Addr} {k : Nat} {C : List (List Value)} (h : CRow 7 W a k C) (h0 : k ≠ 0) (b off : Nat) (e : a = some ⟨b, off, none⟩) : b < W.heap.size := by
  rcases h.2 with h' | ⟨b', off', e', hb, _⟩
  · exact absurd h' h0
  · rw [e] at e'; simp at e'; omega
set_option maxRecDepth 100000 in
set_option maxHeartbeats 4000000 in
theorem byFrom_sorted (w : World) (N : Nfa) (n : Nat) (hv : Vn N n) (a1 a2 : Option Addr) (m c1 k c2 : Nat) (hmc : m ≤ c1) (hcc : c1 ≤ 9223372036854775807) (hnil : a1 = none → c1 = 0) (h : NA w N a1 m a2 k) (hs : Srt N.arcs) :
    Calls Tryd.prog 55 #[.agg #[.int .i64 N.n, .int .i64 N.st, .slice a1 m c1, .slice a2 k c2]] w fun e w' => (∃ AB, e = .returned (.slice (some ⟨AB, 0, none⟩) n n) ∧ w.heap.size ≤ AB ∧ AB < w'.heap.size ∧ (∃ vs : List Value, w'.heap[AB]? = some (.cells vs.toArray 22 (0, 0))) ∧ ∀ x, x < n → ∃ v, w'.cell? ⟨AB, x, none⟩ = some v ∧ RW w' v N.arcs x fun b => b < w'.heap.size) ∧ Below w.heap.size w w' := by
  obtain ⟨nn, st, arcs, acc⟩ := N
  obtain rfl : nn = (n : Int) := hv.hn
  obtain ⟨W, hW⟩ : ∃ W, W = w.alloc (.cells #[.int .i64 (n : Int), .int .i64 st, .slice a1 m c1, .slice a2 k c2] 25) := ⟨_, rfl⟩
  have HB := hid (show Below w.heap.size w W from by rw [hW]; exact bel1 _ _)
  have HW := hid (show W.heap[w.heap.size]? = some (.cells #[.int .i64 (n : Int), .int .i64 st, .slice a1 m c1, .slice a2 k c2] 25 (0, 0)) from by rw [hW]; exact alloc_new _ _)
  have CS := hid (sorted_any W a1 m c1 arcs (h.arcs.below HB.out) h.hm)
  have HA := hid (And.intro h.arcs (And.intro h.hm (And.intro hv hs)))
  have hm := h.hm
  have hn := hv.le
  clear h hv hs
  obtain ⟨d0, d1, d2, d3⟩ := cells4 HW.out
  have mk := fun w => make_arcs n (by omega) w
  go_enter Tryd.func55, Tryd.ntmps55
  go_upto_region 1 with fail
  rw [← hW]
  clear hW
  go_wp2_with fail
  refine CS.out.mono ?_
  rintro e W1 ⟨⟨y, rfl, hy⟩, b1⟩
  obtain rfl : y = true := hy.2 HA.out.2.2.2
  have H1 := hid (HB.out.trans (b1.mono HB.out.size))
  have HW1 := hid ((b1.block _ (heap_lt HW.out)).trans HW.out)
  clear b1 d0 d1 d2 d3 hy
  obtain ⟨d0, d1, d2, d3⟩ := cells4 HW1.out
  have HR := hid (HA.out.1.below H1.out)
  have HV := hid HA.out.2.2.1
  have HS := hid HA.out.2.2.2
  go_wp2_with fail
  have hAB : (W1.alloc (.cells (List.replicate n (.slice none 0 0)).toArray 22)).heap[W1.heap.size]? = some (.cells (List.replicate n (.slice none 0 0)).toArray 22 (0, 0)) := alloc_new _ _
  have hbl := bel1 W1 (.cells (List.replicate n (.slice none 0 0)).toArray 22)
  have HAB := hid (And.intro hAB hbl)
  clear hAB hbl
  have hlm : arcs.length = m := by have := HR.out.1; simpa using this
  have HLM := hid hlm
  clear hlm
  go_loopg [4, 24] n (fun kk s4 s24 wr => ∃ (x q : Nat) (a : Option Addr) (k c : Nat) (vs : List Value), s24 = .int .i64 (x : Int) ∧ x + kk = n ∧ s4 = .slice a k c ∧ k ≤ c ∧ c ≤ 9223372036854775807 ∧ (a = none → c = 0) ∧ k + q = m ∧ Sp arcs q (x : Int) ∧ CRow 7 W1 a k ((arcs.drop q).map acs) ∧ wr.heap[W1.heap.size]? = some (.cells vs.toArray 22 (0, 0)) ∧ vs.length = n ∧ (∀ x', x' < x → ∃ v, vs[x']? = some v ∧ RW W1 v arcs x' (fun b => b < W1.heap.size)) ∧ Below W1.heap.size W1 wr)
  case atStart =>
    refine ⟨0, 0, a1, m, c1, _, rfl, by omega, rfl, hmc, hcc, hnil, by omega, ⟨Nat.zero_le _, fun z hz => by simp at hz, fun z hz => ?_⟩, by simpa using HR.out, HAB.out.1, by simp, fun x' hx => by omega, HAB.out.2⟩
    obtain ⟨x, y, _, _, h1, _⟩ := HV.out.arcs z (by simpa using hz)
    omega
  case round =>
    obtain ⟨x, q, a, kq, c, vs, rfl, hxk, rfl, hkc, hc9, hnl, hkq, hsp, hrow, hab, hvl, hrws, hbw⟩ := hrel
    by_cases hlt : x < n
    · have hlt' : (x : Int) < (n : Int) := by omega
      have hx0 : (0 : Int) ≤ (x : Int) := by omega
      have HX := hid (And.intro hsp (And.intro hrow (And.intro hab (And.intro hvl (And.intro hrws hbw)))))
      have hrow' : CRow 7 wr a kq ((arcs.drop q).map acs) := hrow.below hbw
      have HRW := hid hrow'
      have HQ := hid (And.intro hkq (And.intro hxk hnl))
      clear hsp hrow hab hvl hrws hbw hrow' hkq hlt hnl
      obtain ⟨go, rfl⟩ : ∃ go, go = gk := ⟨_, rfl⟩
      go_wp2_with fail
      go_loopg [7] kq (fun k3 s7 wr2 => ∃ e : Nat, s7 = .int .i64 (e : Int) ∧ e + k3 = kq ∧ (∀ z ∈ (arcs.drop q).take e, z.f = (x : Int)) ∧ wr2 = wr)
      case atStart => exact ⟨0, rfl, by omega, fun z hz => by simp at hz, rfl⟩
      case round =>
        obtain ⟨e, rfl, hek, htk, rfl⟩ := hrel
        have HE := hid htk
        clear htk
        by_cases hlt : e < kq
        · have hlt' : (e : Int) < (kq : Int) := by omega
          have he0 : (0 : Int) ≤ (e : Int) := by omega
          obtain ⟨b0, off, f, t, ee, s, rfl, hbl, ha, q0, -⟩ := arc_at HRW.out hlt
          have HE2 := hid (And.intro ha hbl)
          clear ha hbl
          by_cases hf : f = (x : Int)
          · have hf2 : (f == (x : Int)) = true := by simp [hf]
            go_wp2
            go_roundg (gk - 1)
            case measure => omega
            case rel =>
              refine ⟨e + 1, by go_num, by omega, fun z hz => ?_, rfl⟩
              rw [List.take_add_one, HE2.out.1, List.mem_append] at hz
              rcases hz with hz | hz
              · exact HE.out z hz
              · simp at hz; subst hz; exact hf
          · have hf2 : (f == (x : Int)) = false := by simp [hf]
            have hnext : Sp arcs (q + e) ((x : Int) + 1) := HX.out.1.next HS.out (by have := HLM.out; have := HQ.out.1; omega) HE.out fun z hz => by
              have h1 := HE2.out.1
              rw [List.getElem?_drop, hz] at h1
              simp at h1
              rw [h1]; exact hf
            have HN := hid hnext
            clear hnext
            obtain ⟨v0, hv0⟩ : ∃ v, vs[x]? = some v := ⟨vs[x]'(by have := HX.out.2.2.2.1; omega), List.getElem?_eq_getElem _⟩
            have cab : wr.cell? ⟨W1.heap.size, x, none⟩ = some v0 := by
              have h1 := HX.out.2.2.1
              simp only [World.cell?, h1]
              simpa using hv0
            have fab : wr.frozen? ⟨W1.heap.size, x, none⟩ = false := Go.Frame.free HX.out.2.2.1 x
            clear hv0
            go_wp2_with fail
            go_region
            go_wp2
            go_roundg (go - 1)
            case measure => have := HQ.out.2.1; omega
            case rel =>
              obtain ⟨hsp, hrow, hab, hvl, hrws, hbw⟩ := HX.out
              have hxl : x < vs.length := by rw [hvl]; omega
              refine ⟨x + 1, q + e, some ⟨b0, off + e * 7, none⟩, kq - e, c - e, vs.set x (.slice (some ⟨b0, off, none⟩) e c), by go_num, by have := HQ.out.2.1; omega, rfl, by omega, by omega, (fun h => by cases h), by have := HQ.out.1; omega, HN.out.cast, ?_, set_rows hab, by simp [hvl], ?_, (below_put hbw (Nat.le_refl _)).drew⟩
              · rw [← List.drop_drop, List.map_drop]
                exact CRow_drop hrow (by omega)
              · exact rows_next hxl hrws ⟨_, e, c, (arcs.drop q).take e, rfl, by rw [List.map_take]; exact CRow_take hrow (by omega), by have := HQ.out.1; omega, fun z => hsp.row HE.out HN.out z, fun h0 b off' eq => row_lt hrow (by omega) b off' eq⟩
        · have hlt' : ¬ (e : Int) < (kq : Int) := by omega
          obtain rfl : e = kq := by omega
          have hnext : Sp arcs (q + e) ((x : Int) + 1) := HX.out.1.next HS.out (by have := HLM.out; have := HQ.out.1; omega) HE.out fun z hz => by
            have := (List.getElem?_eq_some_iff.1 hz).1; have := HLM.out; have := HQ.out.1; omega
          have HN := hid hnext
          clear hnext
          cases a with
          | none =>
            obtain rfl : c = 0 := HQ.out.2.2 rfl
            obtain rfl : e = 0 := by omega
            obtain ⟨v0, hv0⟩ : ∃ v, vs[x]? = some v := ⟨vs[x]'(by have := HX.out.2.2.2.1; omega), List.getElem?_eq_getElem _⟩
            have cab : wr.cell? ⟨W1.heap.size, x, none⟩ = some v0 := by
              have h1 := HX.out.2.2.1
              simp only [World.cell?, h1]
              simpa using hv0
            have fab : wr.frozen? ⟨W1.heap.size, x, none⟩ = false := Go.Frame.free HX.out.2.2.1 x
            clear hv0
            go_wp2_with fail
            go_region
            go_wp2
            go_roundg (go - 1)
            case measure => have := HQ.out.2.1; omega
            case rel =>
              obtain ⟨hsp, hrow, hab, hvl, hrws, hbw⟩ := HX.out
              have hxl : x < vs.length := by rw [hvl]; omega
              refine ⟨x + 1, q, _, _, _, vs.set x (.slice none 0 0), by go_num, by have := HQ.out.2.1; omega, rfl, by omega, by omega, (fun _ => rfl), by have := HQ.out.1; omega, HN.out.cast, ?_, set_rows hab, by simp [hvl], ?_, (below_put hbw (Nat.le_refl _)).drew⟩
              · exact hrow
              · exact rows_next hxl hrws ⟨_, 0, 0, (arcs.drop q).take 0, rfl, by rw [List.map_take]; exact CRow_take hrow (by omega), by have := HQ.out.1; omega, fun z => hsp.row HE.out HN.out z, fun h0 b off' eq => row_lt hrow (by omega) b off' eq⟩
          | some ad =>
            obtain ⟨b0, off, sp⟩ := ad
            by_cases h0 : e = 0
            · subst h0
              obtain ⟨v0, hv0⟩ : ∃ v, vs[x]? = some v := ⟨vs[x]'(by have := HX.out.2.2.2.1; omega), List.getElem?_eq_getElem _⟩
              have cab : wr.cell? ⟨W1.heap.size, x, none⟩ = some v0 := by
                have h1 := HX.out.2.2.1
                simp only [World.cell?, h1]
                simpa using hv0
              have fab : wr.frozen? ⟨W1.heap.size, x, none⟩ = false := Go.Frame.free HX.out.2.2.1 x
              clear hv0
              go_wp2_with fail
              go_region
              go_wp2
              go_roundg (go - 1)
              case measure => have := HQ.out.2.1; omega
              case rel =>
                obtain ⟨hsp, hrow, hab, hvl, hrws, hbw⟩ := HX.out
                have hxl : x < vs.length := by rw [hvl]; omega
                refine ⟨x + 1, q, _, _, _, vs.set x (.slice (some ⟨b0, off, sp⟩) 0 c), by go_num, by have := HQ.out.2.1; omega, rfl, by omega, by omega, (fun h => by cases h), by have := HQ.out.1; omega, HN.out.cast, ?_, set_rows hab, by simp [hvl], ?_, (below_put hbw (Nat.le_refl _)).drew⟩
                · exact hrow
                · exact rows_next hxl hrws ⟨_, 0, c, (arcs.drop q).take 0, rfl, by rw [List.map_take]; exact CRow_take hrow (by omega), by have := HQ.out.1; omega, fun z => hsp.row HE.out HN.out z, fun h0 b off' eq => row_lt hrow (by omega) b off' eq⟩
            · obtain rfl : sp = none := by
                rcases HRW.out.2 with h | ⟨b', off', e', _⟩
                · exact absurd h h0
                · simp at e'; exact e'.2.2
              by_cases hce : c = e
              · subst hce
                obtain ⟨v0, hv0⟩ : ∃ v, vs[x]? = some v := ⟨vs[x]'(by have := HX.out.2.2.2.1; omega), List.getElem?_eq_getElem _⟩
                have cab : wr.cell? ⟨W1.heap.size, x, none⟩ = some v0 := by
                  have h1 := HX.out.2.2.1
                  simp only [World.cell?, h1]
                  simpa using hv0
                have fab : wr.frozen? ⟨W1.heap.size, x, none⟩ = false := Go.Frame.free HX.out.2.2.1 x
                clear hv0
                go_wp2_with fail
                go_region
                go_wp2
                go_roundg (go - 1)
                case measure => have := HQ.out.2.1; omega
                case rel =>
                  obtain ⟨hsp, hrow, hab, hvl, hrws, hbw⟩ := HX.out
                  have hxl : x < vs.length := by rw [hvl]; omega
                  refine ⟨x + 1, q + c, _, _, _, vs.set x (.slice (some ⟨b0, off, none⟩) c c), by go_num, by have := HQ.out.2.1; omega, rfl, by omega, by omega, (fun h => by cases h), by have := HQ.out.1; omega, HN.out.cast, ?_, set_rows hab, by simp [hvl], ?_, (below_put hbw (Nat.le_refl _)).drew⟩
                  · exact ⟨by rw [List.drop_of_length_le (by have := HLM.out; have := HQ.out.1; omega)]; rfl, .inl rfl⟩
                  · exact rows_next hxl hrws ⟨_, c, c, (arcs.drop q).take c, rfl, by rw [List.map_take]; exact CRow_take hrow (by omega), by have := HQ.out.1; omega, fun z => hsp.row HE.out HN.out z, fun h0 b off' eq => row_lt hrow (by omega) b off' eq⟩
              · skip
                obtain ⟨v0, hv0⟩ : ∃ v, vs[x]? = some v := ⟨vs[x]'(by have := HX.out.2.2.2.1; omega), List.getElem?_eq_getElem _⟩
                have cab : wr.cell? ⟨W1.heap.size, x, none⟩ = some v0 := by
                  have h1 := HX.out.2.2.1
                  simp only [World.cell?, h1]
                  simpa using hv0
                have fab : wr.frozen? ⟨W1.heap.size, x, none⟩ = false := Go.Frame.free HX.out.2.2.1 x
                clear hv0
                go_wp2_with fail
                go_region
                go_wp2
                go_roundg (go - 1)
                case measure => have := HQ.out.2.1; omega
                case rel =>
                  obtain ⟨hsp, hrow, hab, hvl, hrws, hbw⟩ := HX.out
                  have hxl : x < vs.length := by rw [hvl]; omega
                  refine ⟨x + 1, q + e, _, _, _, vs.set x (.slice (some ⟨b0, off, none⟩) e c), by go_num, by have := HQ.out.2.1; omega, rfl, by omega, by omega, (fun h => by cases h), by have := HQ.out.1; omega, HN.out.cast, ?_, set_rows hab, by simp [hvl], ?_, (below_put hbw (Nat.le_refl _)).drew⟩
                  · exact ⟨by rw [List.drop_of_length_le (by have := HLM.out; have := HQ.out.1; omega)]; rfl, .inl rfl⟩
                  · exact rows_next hxl hrws ⟨_, e, c, (arcs.drop q).take e, rfl, by rw [List.map_take]; exact CRow_take hrow (by omega), by have := HQ.out.1; omega, fun z => hsp.row HE.out HN.out z, fun h0 b off' eq => row_lt hrow (by omega) b off' eq⟩
    · have hlt' : ¬ (x : Int) < (n : Int) := by omega
      have HX := hid (And.intro hab (And.intro hvl (And.intro hrws hbw)))
      clear hsp hrow hab hvl hrws hbw
      go_wp2
      go_ret
      obtain ⟨hab, hvl, hrws, hbw⟩ := HX.out
      refine ⟨⟨W1.heap.size, rfl, H1.out.size, heap_lt hab, ⟨vs, hab⟩, fun x' hx' => ?_⟩, H1.out.trans (hbw.mono H1.out.size)⟩
      obtain ⟨v, h1, h2⟩ := hrws x' (by omega)
      exact ⟨v, by simp only [World.cell?, hab]; simpa using h1, (h2.below hbw).more fun b hb => Nat.lt_of_lt_of_le hb hbw.size⟩
end Go.Proofs.YtogpnlkjcdedlaaDoor
