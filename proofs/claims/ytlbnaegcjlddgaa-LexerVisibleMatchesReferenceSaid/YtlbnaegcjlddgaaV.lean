/-
  Definitions of tokens in memory; contracts: skips, Visible, the reference's Visible.
-/
import Derived.Test.YtlbnaegcjlddgaaO
import Derived.Test.YtlbnaegcjlddgaaJ
set_option linter.unusedSimpArgs false
set_option linter.unusedVariables false
namespace Go.Proofs.Ytlbnaegcjlddgaa
open Go.ChangeShapes Go.WideShapes Go.ChangeAt Go.RowKit Lx Go.Frame

/-- A definition: name, kind, pattern, sample, close. -/
abbrev DQ := ByteArray × Int × ByteArray × ByteArray × ByteArray
def dfv (e : DQ) : List Value := [.string e.1, .int .i64 e.2.1, .string e.2.2.1, .string e.2.2.2.1, .string e.2.2.2.2]
/-- A slice of definitions in memory. -/
structure SRow (W : World) (a : Option Addr) (n : Nat) (E : List DQ) : Prop where
  row : CRow 5 W a n (E.map dfv)
  le : n ≤ 140737488355328
theorem SRow.below {W W' : World} {a : Option Addr} {n : Nat} {E : List DQ} (h : SRow W a n E) (hb : Below W.heap.size W W') : SRow W' a n E := ⟨h.row.below hb, h.le⟩
theorem SRow.len {W : World} {a : Option Addr} {n : Nat} {E : List DQ} (h : SRow W a n E) : E.length = n := by have := h.row.1; simpa using this
theorem drow_at {W : World} {a : Option Addr} {n i : Nat} {E : List DQ} (h : SRow W a n E) (hi : i < n) : ∃ b off t, a = some ⟨b, off, none⟩ ∧ E[i]? = some t ∧ W.cell? ⟨b, off + i * 5 + 1, none⟩ = some (.int .i64 t.2.1) := by
  have hl := h.len
  rcases h.row.2 with h0 | ⟨b, off, rfl, hb, hx⟩
  · omega
  · have hil : i < E.length := by omega
    have hc : (E.map dfv)[i]? = some (dfv E[i]) := by rw [List.getElem?_map, List.getElem?_eq_getElem hil]; rfl
    exact ⟨b, off, E[i], rfl, List.getElem?_eq_getElem hil, hx i _ hc 1 _ rfl⟩
/-- A kind is left out. -/
def sk (E : List DQ) (x : Int) : Bool := decide (0 ≤ x) && (decide (x < (E.length : Int)) && ((E[x.toNat]?.map fun d => d.2.1) == some 2))
theorem sk_lo {E : List DQ} {x : Int} (h : ¬ 0 ≤ x) : sk E x = false := by unfold sk; rw [decide_eq_false h]; rfl
theorem sk_hi {E : List DQ} {x : Int} (h : ¬ x < (E.length : Int)) : sk E x = false := by unfold sk; rw [decide_eq_false h]; simp
theorem sk_in {E : List DQ} {x : Nat} {d : DQ} (h : E[x]? = some d) : sk E (x : Int) = decide (d.2.1 = 2) := by
  have hl := (List.getElem?_eq_some_iff.1 h).1
  unfold sk
  rw [decide_eq_true (by omega), decide_eq_true (by omega), Int.toNat_natCast, h]
  by_cases e : d.2.1 = 2 <;> simp [e]
section
variable {H : Type} {enc : TypeId × Value → H} {w : World} {base : Nat} {sp : Nat → Bool} {held : Bool}
theorem open_spec {r : Reach} {b0 : Nat} {v : Value} {d : DataW H} {p : List MemPlace} (hv : Value.okWide Try.prog w r b0 39 v) (h : DataW.Trod enc Try.prog w base sp held 39 v d p) (hz : ∀ n ∈ d.weights Try.prog 39, n ≤ reachBytes) :
    ∃ (E : List DQ) (ad : Option Addr) (nd cd : Nat) (lo : Bool) (m1 m2 : Int), v = .agg #[.slice ad nd cd, .bool lo, .int .i64 m1, .int .i64 m2] ∧ SRow w ad nd E := by
  obtain ⟨v0, v1, v2, v3, y0, y1, y2, y3, n, rfl, hD, _, e0, e1, e2, e3⟩ := Go.Joins.open_agg4 Try.underlying39 (by kernel_rfl) (by kernel_rfl) hv h
  obtain ⟨a, len, cap, f0⟩ := Go.Joins.slice_form Try.underlying37 e0
  obtain rfl : v0 = .slice a len cap := by simpa using f0
  obtain ⟨q1, hq1, _⟩ := DataW.trod_bool Try.underlying4 e1
  obtain rfl : v1 = .bool q1 := by simpa using hq1
  obtain ⟨q2, hq2, _⟩ := DataW.trod_int Try.underlying3 e2
  obtain rfl : v2 = .int .i64 q2 := by simpa using hq2
  obtain ⟨q3, hq3, _⟩ := DataW.trod_int Try.underlying3 e3
  obtain rfl : v3 = .int .i64 q3 := by simpa using hq3
  have hz' : ∀ n ∈ y0.1.weights Try.prog 37, n ≤ reachBytes := fun n hn => hz n (by rw [hD]; simp [DataW.weights, Try.underlying39, DataW.weightsEach]; exact .inl hn)
  obtain ⟨C, hC, ⟨k, hk, hkl⟩, hd⟩ := open_rows Try.underlying37 (by rw [cT58]; decide) e0
  rw [cT58] at hC hd
  have hlen : len ≤ 140737488355328 := by
    rw [bT58] at hkl
    rcases hk with rfl | hk
    · omega
    · have := hz' k hk
      unfold reachBytes at this
      omega
  have hdata := hC.data dfv (fun _ => True) fun cs hcs => ?_
  · obtain ⟨E, h1, _⟩ := hdata
    exact ⟨E, a, len, cap, q1, q2, q3, rfl, h1, hlen⟩
  obtain ⟨hl, n, y, hy, hw⟩ := hd cs hcs
  match cs, hl with
  | [u0, u1, u2, u3, u4], _ =>
    obtain ⟨xs, k5, _, _, _, hxl, hf⟩ := DataW.trod_struct Try.underlying58 hy
    match xs, hxl, hf with
    | [z0, z1, z2, z3, z4], _, hf =>
      have g0 := hf 0 _ rfl
      have g1 := hf 1 _ rfl
      have g2 := hf 2 _ rfl
      have g3 := hf 3 _ rfl
      have g4 := hf 4 _ rfl
      simp [cT3, cT9] at g0 g1 g2 g3 g4
      obtain ⟨s0, hs0, _⟩ := DataW.trod_string Try.underlying9 g0
      obtain ⟨s1, hs1, _⟩ := DataW.trod_int Try.underlying3 g1
      obtain ⟨s2, hs2, _⟩ := DataW.trod_string Try.underlying9 g2
      obtain ⟨s3, hs3, _⟩ := DataW.trod_string Try.underlying9 g3
      obtain ⟨s4, hs4, _⟩ := DataW.trod_string Try.underlying9 g4
      obtain rfl : u0 = .string s0 := by simpa using hs0
      obtain rfl : u1 = .int .i64 s1 := by simpa using hs1
      obtain rfl : u2 = .string s2 := by simpa using hs2
      obtain rfl : u3 = .string s3 := by simpa using hs3
      obtain rfl : u4 = .string s4 := by simpa using hs4
      exact ⟨(s0, s1, s2, s3, s4), rfl, trivial⟩
end
set_option maxRecDepth 100000 in
set_option maxHeartbeats 4000000 in
theorem skips_any (w : World) (E : List DQ) (ad : Option Addr) (nd cd : Nat) (lo : Bool) (m1 m2 : Int) (h : SRow w ad nd E) (x : Int) :
    Calls Try.prog 29 #[.agg #[.slice ad nd cd, .bool lo, .int .i64 m1, .int .i64 m2], .int .i64 x] w fun e w' => e = .returned (.bool (sk E x)) ∧ Below w.heap.size w w' := by
  have hl := h.len
  have hle := h.le
  obtain ⟨W, hW⟩ : ∃ W, W = w.alloc (.cells #[.slice ad nd cd, .bool lo, .int .i64 m1, .int .i64 m2] 39) := ⟨_, rfl⟩
  have x1 := alloc_new w (.cells #[.slice ad nd cd, .bool lo, .int .i64 m1, .int .i64 m2] 39)
  have bW := bel1 w (.cells #[.slice ad nd cd, .bool lo, .int .i64 m1, .int .i64 m2] 39)
  rw [← hW] at x1 bW
  have HW := hid bW
  have hS := h.below bW
  obtain ⟨d0, d1, d2, d3⟩ := cells4 x1
  obtain ⟨z, hz⟩ : ∃ z, z = sk E x := ⟨_, rfl⟩
  rw [← hz]
  by_cases g0 : 0 ≤ x
  · by_cases g1 : x < (nd : Int)
    · obtain ⟨m, rfl⟩ : ∃ m : Nat, x = (m : Int) := ⟨x.toNat, by omega⟩
      obtain ⟨b, o, d, rfl, hd, q⟩ := drow_at hS (i := m) (by omega)
      rw [sk_in hd] at hz
      obtain ⟨dk, hdk⟩ : ∃ dk, dk = d.2.1 := ⟨_, rfl⟩
      rw [← hdk] at q hz
      have HZ := hid hz
      clear hz hd hdk hS h x1 bW hl
      by_cases g2 : dk = 2
      · subst g2
        go_enter Try.func29, Try.ntmps29
        go_upto_region 1 with fail
        rw [← hW]
        clear hW
        go_wp2
        go_ret
        exact ⟨by rw [HZ.out]; rfl, HW.out⟩
      · have g3 : (dk == 2) = false := by simpa using g2
        go_enter Try.func29, Try.ntmps29
        go_upto_region 1 with fail
        rw [← hW]
        clear hW
        go_wp2
        go_ret
        exact ⟨by rw [HZ.out, decide_eq_false g2]; rfl, HW.out⟩
    · have HZ := hid (show z = false from by rw [hz]; exact sk_hi (by omega))
      clear hz hS h x1 bW hl
      go_enter Try.func29, Try.ntmps29
      go_upto_region 1 with fail
      rw [← hW]
      clear hW
      go_wp2
      go_ret
      exact ⟨by rw [HZ.out]; rfl, HW.out⟩
  · have HZ := hid (show z = false from by rw [hz]; exact sk_lo g0)
    clear hz hS h x1 bW hl
    go_enter Try.func29, Try.ntmps29
    go_upto_region 1 with fail
    rw [← hW]
    clear hW
    go_wp2
    go_ret
    exact ⟨by rw [HZ.out]; rfl, HW.out⟩
/-- What is left. -/
def vis (E : List DQ) (l : List TQ) : List TQ := l.filter fun t => !sk E t.1
theorem vis_snoc {E : List DQ} {l : List TQ} {i : Nat} {t : TQ} (h : l[i]? = some t) : vis E (l.take (i + 1)) = vis E (l.take i) ++ (if sk E t.1 = true then [] else [t]) := by
  unfold vis
  rw [List.take_add_one, h, List.filter_append]
  congr 1
  cases hs : sk E t.1 <;> simp [hs]
theorem vis_len (E : List DQ) (l : List TQ) (i : Nat) : (vis E (l.take i)).length ≤ l.length := Nat.le_trans (List.length_filter_le _ _) (by simp; omega)
theorem vis_vis (E : List DQ) (l : List TQ) : vis E (vis E l) = vis E l := by unfold vis; rw [List.filter_filter]; simp
set_option maxRecDepth 100000 in
set_option maxHeartbeats 4000000 in
theorem Visible_any (w : World) (E : List DQ) (ad : Option Addr) (nd cd : Nat) (lo : Bool) (m1 m2 : Int) (h : SRow w ad nd E) (a : Option Addr) (n c : Nat) (l : List TQ) (hT : TRow w a n l) (hn : n ≤ 1000000) :
    Calls Try.prog 17 #[.agg #[.slice ad nd cd, .bool lo, .int .i64 m1, .int .i64 m2], .slice a n c] w (TRes w (vis E l)) := by
  have CS := hid (fun W (hb : Below w.heap.size w W) x => skips_any W E ad nd cd lo m1 m2 (h.below hb) x)
  have HT := hid hT
  have HL := hid hT.len
  obtain ⟨W, hW⟩ : ∃ W, W = w.alloc (.cells #[.slice ad nd cd, .bool lo, .int .i64 m1, .int .i64 m2] 39) := ⟨_, rfl⟩
  have x1 := alloc_new w (.cells #[.slice ad nd cd, .bool lo, .int .i64 m1, .int .i64 m2] 39)
  have bW := bel1 w (.cells #[.slice ad nd cd, .bool lo, .int .i64 m1, .int .i64 m2] 39)
  rw [← hW] at x1 bW
  have HW := hid (And.intro x1 bW)
  clear h hT x1 bW
  obtain ⟨i0, hi, hz0, hz1, hz2⟩ := info_parts info32
  go_enter Try.func17, Try.ntmps17
  go_upto_region 1 with fail
  rw [← hW]
  clear hW
  go_wp2_with fail
  go_loopg [5, 10] n (fun kk s5 s10 wr => ∃ (i : Nat) (out : List TQ), s10 = .int .i64 (i : Int) ∧ i + kk = n ∧ Hid (out = vis E (l.take i)) ∧
    wr.ownsRow W.heap.size 32 4 s5 out.length (tl out) ∧ wr.heap[w.heap.size]? = some (.cells #[.slice ad nd cd, .bool lo, .int .i64 m1, .int .i64 m2] 39 (0, 0)) ∧ Below W.heap.size W wr)
  case atStart => exact ⟨0, [], rfl, by omega, hid rfl, World.ownsRow_nil _ _ _ _, HW.out.1, Below.refl _ _⟩
  case round =>
    obtain ⟨i, out, rfl, hk, HR, hown, hx, hb⟩ := hrel
    by_cases hlt : i < n
    · have hlt' : (i : Int) < (n : Int) := by omega
      have hi0 : (0 : Int) ≤ (i : Int) := by omega
      have hii : IntKind.i64.wrap ((i : Int) + 1) = (i : Int) + 1 := wrapIn (by omega) (by omega)
      have hbw := HW.out.2.trans (hb.mono HW.out.2.size)
      obtain ⟨b, o, ⟨xk, xa, xs, xl⟩, rfl, _, hx', x0, x1, x2, x3⟩ := trow_at (HT.out.below hbw) hlt
      simp only at x0 x1 x2 x3
      have HV := hid (vis_snoc (E := E) hx')
      simp only at HV
      have hol := hid (show out.length < 1000001 from by rw [HR.out]; have := vis_len E l i; have := HL.out; omega)
      obtain ⟨X, hX⟩ : ∃ X, X = wr.alloc (.cells #[.int .i64 xk, .int .i64 xa, .string xs, .int .i64 xl] 32) := ⟨_, rfl⟩
      have y1 := alloc_new wr (.cells #[.int .i64 xk, .int .i64 xa, .string xs, .int .i64 xl] 32)
      have bX := bel1 wr (.cells #[.int .i64 xk, .int .i64 xa, .string xs, .int .i64 xl] 32)
      rw [← hX] at y1 bX
      have HO := hid (show X.ownsRow W.heap.size 32 4 u5 out.length (tl out) from hX ▸ own_alloc hown _)
      have HXX := hid ((bX.block _ (heap_lt hx)).trans hx)
      have HBX := hid (hb.trans (bX.mono hb.size))
      have HBW := hid (hbw.trans (bX.mono hbw.size))
      have Y1 := hid y1
      have hwX := hid (show wr.heap.size < X.heap.size from heap_lt y1)
      have hwl := hid (fun k hk => (hown.lt k hk).2)
      obtain ⟨e0, e1, e2, e3⟩ := cells4 y1
      obtain ⟨d0, d1, d2, d3⟩ := cells4 HXX.out
      have C1 := hid (CS.out X HBW.out xk)
      obtain ⟨z, hz⟩ : ∃ z, z = sk E xk := ⟨_, rfl⟩
      rw [← hz] at C1 HV
      clear hx' hown hx hb hbw y1 bX hz
      go_upto_region 5 with fail
      rw [← hX]
      clear hX x0 x1 x2 x3
      go_wp2_with fail
      refine C1.out.mono ?_
      rintro e U ⟨rfl, kU⟩
      have HOU := hid (ownsRow_keep HO.out fun k hk => kU.block k (HO.out.lt k hk).2)
      have HXU := hid ((kU.block _ (heap_lt HXX.out)).trans HXX.out)
      have HYU := hid ((kU.block _ (heap_lt Y1.out)).trans Y1.out)
      have HBU := hid (HBX.out.trans (kU.mono HBX.out.size))
      have hwU := hid (Nat.lt_of_lt_of_le hwX.out kU.size)
      clear kU C1 d0 d1 d2 d3 e0 e1 e2 e3
      cases z
      · have HVF := hid (show out ++ [(xk, xa, xs, xl)] = vis E (l.take (i + 1)) from by rw [HV.out, HR.out]; rfl)
        obtain ⟨e0, e1, e2, e3⟩ := cells4 HYU.out
        have hown := HOU.out
        go_wp2_with (at_builtin; refine wpList_append_own _ rfl (.tmp 19) (.tmp 21) 29 rfl W.heap.size 32 i0 _ 4 40 Try.underlying29 hi hz0 hz1 hz2 rfl (by decide) _ _ _ rfl (own_alloc hown _) ⟨U.heap.size, 0, none⟩ 1 1 (tqv (xk, xa, xs, xl)) rfl rfl ?c1 ?c2 ?c3 ?c4 ?c5 ?_)
        case c1 => exact World.news_of_block (alloc_new _ _)
        case c2 => exact tqv_one
        case c3 => have := hol.out; unfold maxLen; omega
        case c4 => have := hol.out; omega
        case c5 => have := HBU.out.size; simp; omega
        intro v' Y hown' hgrow _
        have bY : Below W.heap.size W Y := (HBU.out.alloc HBU.out.size _).grown hgrow (by have := HBU.out.size; simp; omega) (fun k hk => (hown.lt k hk).1)
        have hown2 : Y.ownsRow W.heap.size 32 4 v' (out ++ [(xk, xa, xs, xl)]).length (tl (out ++ [(xk, xa, xs, xl)])) := by
          rw [tl_app, tl_one, List.length_append]
          exact hown'
        have HOY := hid hown2
        have HXY := hid ((bY.block _ (heap_lt HW.out.1)).trans HW.out.1)
        have HBY := hid bY
        clear hown hown2 hgrow hown' bY
        go_wp2
        go_roundg (gk - 1)
        case measure => omega
        case rel => exact ⟨i + 1, _, by go_num, by omega, HVF, HOY.out, HXY.out, HBY.out⟩
      · have HVF := hid (show out = vis E (l.take (i + 1)) from by rw [HV.out, HR.out]; simp)
        go_wp2
        go_roundg (gk - 1)
        case measure => omega
        case rel => exact ⟨i + 1, out, by go_num, by omega, HVF, HOU.out, HXU.out, HBU.out⟩
    · have hlt' : ¬ (i : Int) < (n : Int) := by omega
      have hall : out = vis E l := by rw [HR.out, List.take_of_length_le (by have := HL.out; omega)]
      rw [hall] at hown
      obtain ⟨p, c, rfl, hrow⟩ := own_trow hown
      have HF := hid (And.intro hrow (HW.out.2.trans (hb.mono HW.out.2.size)))
      clear hrow hown hb
      go_wp2
      go_ret
      exact ⟨⟨p, c, rfl, HF.out.1⟩, HF.out.2⟩
end Go.Proofs.Ytlbnaegcjlddgaa
