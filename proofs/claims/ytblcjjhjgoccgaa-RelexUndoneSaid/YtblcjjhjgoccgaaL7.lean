/-
  Contracts: the reference's equivalent, Classes, Ints.
-/
import Derived.Test.YtblcjjhjgoccgaaK7
set_option linter.unusedSimpArgs false
set_option linter.unusedVariables false
namespace Go.Proofs.Ytblcjjhjgoccgaa
open Go.RowKit Bs Go.Frame
attribute [local irreducible] nb cnt pc els cf fs

theorem Sets.at {W : World} {a : Option Addr} {n : Nat} {E : List (Nat → Bool)} (h : Sets W a n E) {i : Nat} (hi : i < n) : ∃ b off p, a = some ⟨b, off, none⟩ ∧ b < W.heap.size ∧ E[i]? = some p ∧
    W.cell? ⟨b, off + i * 4, none⟩ = some (.int .u64 (wd p 0 : Int)) ∧ W.cell? ⟨b, off + i * 4 + 1, none⟩ = some (.int .u64 (wd p 1 : Int)) ∧ W.cell? ⟨b, off + i * 4 + 2, none⟩ = some (.int .u64 (wd p 2 : Int)) ∧ W.cell? ⟨b, off + i * 4 + 3, none⟩ = some (.int .u64 (wd p 3 : Int)) := by
  have hl := h.length
  rcases h.2 with h0 | ⟨b, off, rfl, hbl, hrow⟩
  · omega
  · obtain ⟨p, hp⟩ : ∃ p, E[i]? = some p := ⟨E[i]'(by omega), List.getElem?_eq_getElem (by omega)⟩
    have hrow' : ∀ j v, (sl p)[j]? = some v → W.cell? ⟨b, off + i * 4 + j, none⟩ = some v := fun j v hv => hrow i (sl p) (by rw [List.getElem?_map, hp]; rfl) j v hv
    exact ⟨b, off, p, rfl, hbl, hp, hrow' 0 _ rfl, hrow' 1 _ rfl, hrow' 2 _ rfl, hrow' 3 _ rfl⟩
theorem Em_take_succ {E : List (Nat → Bool)} {i : Nat} {p : Nat → Bool} (h : E[i]? = some p) (x y : Nat) : Em (E.take (i + 1)) x y = (Em (E.take i) x y && (p x == p y)) := by
  rw [List.take_add_one, h]; simp [Em, List.all_append]
theorem Em_false {E : List (Nat → Bool)} {i : Nat} {p : Nat → Bool} (h : E[i]? = some p) {x y : Nat} (hp : p x ≠ p y) : Em E x y = false := by
  unfold Em
  rw [List.all_eq_false]
  exact ⟨p, List.mem_of_getElem? h, by simpa using hp⟩
set_option maxRecDepth 100000 in
set_option maxHeartbeats 4000000 in
theorem equivalent_any (a : Option Addr) (n c x y : Nat) (E : List (Nat → Bool)) (w : World) (hn : n ≤ 1000) (hx : x < 256) (hy : y < 256) (hE : Sets w a n E) :
    Calls Try.prog 45 #[.slice a n c, .int .u8 (x : Int), .int .u8 (y : Int)] w fun e w' => e = .returned (.bool (Em E x y)) ∧ Below w.heap.size w w' := by
  have HE := hid hE
  have HL := hid hE.length
  clear hE
  go_enter Try.func45, Try.ntmps45
  go_wp2_with fail
  go_loopg [7] n (fun k s7 wr => ∃ i : Nat, s7 = .int .i64 i ∧ i + k = n ∧ Em (E.take i) x y = true ∧ Below w.heap.size w wr)
  case atStart => exact ⟨0, rfl, by omega, by simp [Em], Below.refl _ _⟩
  case round =>
    obtain ⟨i, rfl, hk, hem, hbw⟩ := hrel
    by_cases hlt : i < n
    · have hlt' : (i : Int) < (n : Int) := by omega
      have hi0 : (0 : Int) ≤ (i : Int) := by omega
      obtain ⟨b, off, p, rfl, hbl, hp, r0, r1, r2, r3⟩ := HE.out.at hlt
      obtain ⟨u, hu⟩ : ∃ u, p x = u := ⟨_, rfl⟩
      obtain ⟨v, hv⟩ : ∃ v, p y = v := ⟨_, rfl⟩
      have C1 := hid (fun V => show Calls Try.prog 56 #[.agg #[.int .u64 (wd (p) 0 : Int), .int .u64 (wd (p) 1 : Int), .int .u64 (wd (p) 2 : Int), .int .u64 (wd (p) 3 : Int)], .int .u8 (x : Int)] V fun e w'' => e = .returned (.bool u) ∧ Below V.heap.size V w'' from hu ▸ rHas_any p x V hx)
      have C2 := hid (fun V => show Calls Try.prog 56 #[.agg #[.int .u64 (wd (p) 0 : Int), .int .u64 (wd (p) 1 : Int), .int .u64 (wd (p) 2 : Int), .int .u64 (wd (p) 3 : Int)], .int .u8 (y : Int)] V fun e w'' => e = .returned (.bool v) ∧ Below V.heap.size V w'' from hv ▸ rHas_any p y V hy)
      have HH := hid (And.intro hem (And.intro hbw (And.intro hp (And.intro hlt (And.intro hu hv)))))
      have R0 := hid (fun V (hV : Below wr.heap.size wr V) => (hV.cell (p := ⟨b, _, none⟩) (Nat.lt_of_lt_of_le hbl hbw.size)).trans ((hbw.cell (p := ⟨b, _, none⟩) hbl).trans r0))
      have R1 := hid (fun V (hV : Below wr.heap.size wr V) => (hV.cell (p := ⟨b, _, none⟩) (Nat.lt_of_lt_of_le hbl hbw.size)).trans ((hbw.cell (p := ⟨b, _, none⟩) hbl).trans r1))
      have R2 := hid (fun V (hV : Below wr.heap.size wr V) => (hV.cell (p := ⟨b, _, none⟩) (Nat.lt_of_lt_of_le hbl hbw.size)).trans ((hbw.cell (p := ⟨b, _, none⟩) hbl).trans r2))
      have R3 := hid (fun V (hV : Below wr.heap.size wr V) => (hV.cell (p := ⟨b, _, none⟩) (Nat.lt_of_lt_of_le hbl hbw.size)).trans ((hbw.cell (p := ⟨b, _, none⟩) hbl).trans r3))
      clear hem hbw hp hbl r0 r1 r2 r3 hlt hu hv
      go_wp2_with fail
      refine wp_region_below (by kernel_rfl) (by kernel_rfl) ?_
      intro X f _ hf hs
      have k0 := fun x => R0.out _ (hf.out x)
      have k1 := fun x => R1.out _ (hf.out x)
      have k2 := fun x => R2.out _ (hf.out x)
      have k3 := fun x => R3.out _ (hf.out x)
      repeat (go_big_quiet_step (first | (go_at_call 56; with_reducible exact calls_below hf hs (C1.out _)) | (go_at_call 56; with_reducible exact calls_below hf hs (C2.out _))))
      refine wpQuiet_nil ?_
      intro w' hw'
      cases u <;> cases v
      · clear k0 k1 k2 k3 hf hs
        go_wp2
        go_roundg (gk - 1)
        case measure => have := HH.out.2.2.2.1; omega
        case rel =>
          obtain ⟨h1, h2, h3, h4, h5, h6⟩ := HH.out
          exact ⟨i + 1, by go_num, by omega, by rw [Em_take_succ h3, h1, h5, h6]; rfl, h2.trans (hw'.mono h2.size)⟩
      · clear k0 k1 k2 k3 hf hs
        go_wp2
        go_ret
        obtain ⟨h1, h2, h3, h4, h5, h6⟩ := HH.out
        exact ⟨by rw [Em_false h3 (by rw [h5, h6]; decide)]; rfl, h2.trans (hw'.mono h2.size)⟩
      · clear k0 k1 k2 k3 hf hs
        go_wp2
        go_ret
        obtain ⟨h1, h2, h3, h4, h5, h6⟩ := HH.out
        exact ⟨by rw [Em_false h3 (by rw [h5, h6]; decide)]; rfl, h2.trans (hw'.mono h2.size)⟩
      · clear k0 k1 k2 k3 hf hs
        go_wp2
        go_roundg (gk - 1)
        case measure => have := HH.out.2.2.2.1; omega
        case rel =>
          obtain ⟨h1, h2, h3, h4, h5, h6⟩ := HH.out
          exact ⟨i + 1, by go_num, by omega, by rw [Em_take_succ h3, h1, h5, h6]; rfl, h2.trans (hw'.mono h2.size)⟩
    · have hin : ¬ (i : Int) < (n : Int) := by omega
      have i4 : i = n := by omega
      have HH := hid (And.intro hem (And.intro hbw i4))
      clear hem hbw i4
      go_wp2
      go_ret
      refine ⟨?_, HH.out.2.1⟩
      have := HH.out.1
      rw [List.take_of_length_le (by have := HL.out; have := HH.out.2.2; omega)] at this
      rw [this]; rfl

/-- The class numbers below b. -/
def fill (E : List (Nat → Bool)) (b t : Nat) : Int := if t < b then (num (Em E) t : Int) else 0
theorem fill_next (E : List (Nat → Bool)) (b : Nat) : upd (fill E b) b (num (Em E) b : Int) = fill E (b + 1) := by
  funext t
  unfold upd fill
  by_cases e : t = b
  · subst e; simp
  · rw [if_neg e]
    by_cases h : t < b
    · rw [if_pos h, if_pos (by omega)]
    · rw [if_neg h, if_neg (by omega)]
theorem upd_upd (T : Nat → Int) (k : Nat) (x y : Int) : upd (upd T k x) k y = upd T k y := by
  funext t; unfold upd; split <;> rfl
theorem fs_hit {E : List (Nat → Bool)} {a b : Nat} (hab : a < b) (h : Em E a b = true) (hl : ∀ x, x < a → Em E x b = false) : num (Em E) a = num (Em E) b ∧ num (Em E) b < cf (Em E) b := by
  refine ⟨num_of (Em_eqv E) h, num_lt (fun e => ?_) (Em_eqv E)⟩
  have := fs_least (E := Em E) (a := a) (b := b) (by omega)
  rw [h] at this; cases this
theorem fs_none {E : List (Nat → Bool)} {b : Nat} (hl : ∀ x, x < b → Em E x b = false) : fs (Em E) b = b ∧ num (Em E) b = cf (Em E) b := by
  have : fs (Em E) b = b := by
    unfold fs
    exact lst_eq (Nat.le_refl _) (fun h => by omega) hl
  exact ⟨this, num_new this⟩
theorem cf_step_new {E : Nat → Nat → Bool} {b : Nat} (h : fs E b = b) : cf E (b + 1) = cf E b + 1 := by rw [cf, if_pos h]
theorem cf_step_old {E : Nat → Nat → Bool} {b : Nat} (h : fs E b ≠ b) : cf E (b + 1) = cf E b := by rw [cf, if_neg h]; rfl
set_option maxRecDepth 100000 in
set_option maxHeartbeats 4000000 in
theorem rClasses_any (a : Option Addr) (n c : Nat) (E : List (Nat → Bool)) (w : World) (hn : n ≤ 1000) (hE : Sets w a n E) : Calls Try.prog 32 #[.slice a n c] w fun e w' => ClRes E w e w' := by
  have hmk := make_ints
  have HE := hid hE
  clear hE
  obtain ⟨W, hW⟩ : ∃ W, W = w.alloc (.cells (ic 256 fun _ => 0) 3) := ⟨_, rfl⟩
  have HX := hid (show W.heap[w.heap.size]? = some (.cells (ic 256 (fill E 0)) 3 (0, 0)) ∧ Below w.heap.size w W from by
    rw [hW]
    refine ⟨?_, (Below.refl _ _).alloc (Nat.le_refl _) _⟩
    rw [ic_congr (T := fill E 0) (U := fun _ => 0) (fun t _ => by unfold fill; rw [if_neg (by omega)])]
    exact alloc_new _ _)
  go_enter Try.func32, Try.ntmps32
  go_wp2_with fail
  rw [← hW]
  clear hW
  go_loopg [4, 5] 256 (fun k s4 s5 wr => ∃ b : Nat, s4 = .int .i64 (cf (Em E) b : Int) ∧ s5 = .int .i64 b ∧ b + k = 256 ∧ wr.heap[w.heap.size]? = some (.cells (ic 256 (fill E b)) 3 (0, 0)) ∧ Below w.heap.size w wr)
  case atStart => exact ⟨0, by rw [cf]; rfl, rfl, rfl, HX.out.1, HX.out.2⟩
  case round =>
    obtain ⟨b, rfl, rfl, hk, hG, hB⟩ := hrel
    obtain ⟨go, rfl⟩ : ∃ go, go = gk := ⟨_, rfl⟩
    by_cases hlt : b < 256
    · have hlt' : (b : Int) < 256 := by omega
      have hb0 : (0 : Int) ≤ (b : Int) := by omega
      have e4 : IntKind.u8.wrap (b : Int) = (b : Int) := by rw [IntKind.wrap_u8]; omega
      have hcf := cf_le (Em E) b
      have f0 := free hG b
      have c0 := ic_cell hG hlt
      obtain ⟨q, hq⟩ : ∃ q, cf (Em E) b = q := ⟨_, rfl⟩
      rw [hq] at hcf ⊢
      obtain ⟨V, hV⟩ : ∃ V, V = wr.setCell ⟨w.heap.size, b, none⟩ (.int .i64 (q : Int)) := ⟨_, rfl⟩
      have HV := hid (show V.heap[w.heap.size]? = some (.cells (ic 256 (upd (fill E b) b (q : Int))) 3 (0, 0)) ∧ Below w.heap.size w V from by
        rw [hV, ← ic_upd]
        exact ⟨blk_put hG, below_put hB (Nat.le_refl _)⟩)
      have L := hid (And.intro hlt hq)
      clear hG hB hlt hq
      go_wp2_with fail
      rw [← hV]
      clear hV f0 c0
      go_loopg [6] b (fun k s6 wq => ∃ x : Nat, s6 = .int .i64 x ∧ x + k = b ∧ (∀ z, z < x → Em E z b = false) ∧ wq.heap[w.heap.size]? = some (.cells (ic 256 (upd (fill E b) b (q : Int))) 3 (0, 0)) ∧ Below w.heap.size w wq)
      case atStart => exact ⟨0, rfl, by omega, fun z hz => by omega, HV.out.1, HV.out.2⟩
      case round =>
        obtain ⟨x, rfl, hx, hl, hG, hB⟩ := hrel
        by_cases hxb : x < b
        · have hxb' : (x : Int) < (b : Int) := by omega
          have hx0 : (0 : Int) ≤ (x : Int) := by omega
          have hx256 : (x : Int) < 256 := by omega
          have e5 : IntKind.u8.wrap (x : Int) = (x : Int) := by rw [IntKind.wrap_u8]; omega
          have hEq := equivalent_any a n c x b E wr hn (by omega) L.out.1 (HE.out.below hB)
          obtain ⟨u, hu⟩ : ∃ u, Em E x b = u := ⟨_, rfl⟩
          rw [hu] at hEq
          have HQ := hid hEq
          have HH := hid (And.intro hl (And.intro hG (And.intro hB (And.intro hxb hu))))
          clear hEq hl hG hB hxb hu
          go_wp2_with fail
          refine HQ.out.mono ?_
          rintro e w5 ⟨rfl, b5⟩
          have hG5 := (b5.block _ (heap_lt HH.out.2.1)).trans HH.out.2.1
          have hB5 := HH.out.2.2.1.trans (b5.mono HH.out.2.2.1.size)
          cases u
          · have HS := hid (And.intro hG5 hB5)
            clear hG5 hB5 b5
            go_wp2
            go_roundg (gk - 1)
            case measure => have := HH.out.2.2.2.1; omega
            case rel =>
              obtain ⟨h1, h2, h3, h4, h5⟩ := HH.out
              exact ⟨x + 1, by go_num, by omega, fun z hz => by by_cases ez : z = x; rw [ez]; exact h5; exact h1 z (by omega), HS.out.1, HS.out.2⟩
          · have hh := fs_hit HH.out.2.2.2.1 HH.out.2.2.2.2 HH.out.1
            rw [L.out.2] at hh
            obtain ⟨y, hy⟩ : ∃ y, num (Em E) x = y := ⟨_, rfl⟩
            have c0 : w5.cell? ⟨w.heap.size, x, none⟩ = some (.int .i64 (y : Int)) := by
              rw [ic_cell hG5 (by omega), ← hy]
              unfold upd fill
              rw [if_neg (by omega), if_pos (by omega)]
            have f0 := free hG5 b
            have c1 := ic_cell hG5 L.out.1
            have ny : ¬ (y : Int) = (q : Int) := by omega
            have hyb : num (Em E) b = y := by rw [← hh.1]; exact hy
            have HS := hid (And.intro hG5 (And.intro hB5 (And.intro hyb hh)))
            have nq : ¬ x = b := by omega
            clear hG5 hB5 b5 hh hyb hy
            go_wp2
            go_roundg (go - 1)
            case measure => have := L.out.1; omega
            case rel =>
              obtain ⟨hG5, hB5, hyb, hh⟩ := HS.out
              have h2 := L.out.2
              refine ⟨b + 1, by rw [cf_step_old (fun e => by have := num_new e; omega), h2], by go_num, by have := L.out.1; omega, ?_, below_put hB5 (Nat.le_refl _)⟩
              rw [← fill_next, hyb, ← upd_upd (fill E b) b (q : Int) (y : Int), ← ic_upd]
              exact blk_put hG5
        · have hin : ¬ (x : Int) < (b : Int) := by omega
          have exb : x = b := by omega
          rw [exb] at hl
          obtain ⟨h1, h2⟩ := fs_none hl
          have hq := L.out.2
          have c1 : wr.cell? ⟨w.heap.size, b, none⟩ = some (.int .i64 (q : Int)) := by
            rw [ic_cell hG L.out.1]
            unfold upd
            rw [if_pos rfl]
          have e1 : IntKind.i64.wrap ((q : Int) + 1) = (q : Int) + 1 := wrapIn (by omega) (by omega)
          have HS := hid (And.intro hG (And.intro hB (And.intro h1 (And.intro h2 hq))))
          clear hG hB h1 h2 hq hl exb
          go_wp2
          go_roundg (go - 1)
          case measure => have := L.out.1; omega
          case rel =>
            obtain ⟨hG, hB, h1, h2, hq⟩ := HS.out
            refine ⟨b + 1, by rw [cf_step_new h1, hq]; simp, by go_num, by have := L.out.1; omega, ?_, hB⟩
            rw [← fill_next, h2, hq]
            exact hG
    · have hin : ¬ (b : Int) < 256 := by omega
      have i4 : b = 256 := by omega
      subst i4
      have HS := hid (And.intro hG hB)
      clear hG hB
      go_wp2
      go_ret
      refine ⟨⟨w.heap.size, rfl, ?_, Nat.le_refl _⟩, HS.out.2⟩
      rw [HS.out.1, ic_congr (T := fill E 256) (U := fun t => (num (Em E) t : Int)) (fun t ht => by unfold fill; rw [if_pos ht])]

end Go.Proofs.Ytblcjjhjgoccgaa
