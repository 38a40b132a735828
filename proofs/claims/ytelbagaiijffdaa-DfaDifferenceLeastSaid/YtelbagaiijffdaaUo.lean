/-
  Contract: the search's run.
-/
import Derived.Test.YtelbagaiijffdaaUn
import Derived.StillTailTactics
set_option linter.unusedSimpArgs false
set_option linter.unusedVariables false
namespace Go.Proofs.Ytelbagaiijffdaa
open Go.RowKit Lx Go.Frame
attribute [-instance] instBEqProd

theorem own4_at {W : World} {base n : Nat} {a : Option Addr} {c : Nat} {V : List Vis} (h : W.ownsRow base 85 4 (.slice a n c) V.length (V.flatMap vcs)) {i : Nat} {v : Vis} (hv : V[i]? = some v) :
    ∃ g, a = some ⟨g, 0, none⟩ ∧ W.cell? ⟨g, i * 4, none⟩ = some (.int .i64 (v.1 : Int)) ∧ W.cell? ⟨g, i * 4 + 1, none⟩ = some (.int .i64 (v.2.1 : Int)) ∧ W.cell? ⟨g, i * 4 + 2, none⟩ = some (.int .i64 (v.2.2.1 : Int)) ∧ W.cell? ⟨g, i * 4 + 3, none⟩ = some (.int .i64 (v.2.2.2 : Int)) := by
  have hil := (List.getElem?_eq_some_iff.1 hv).1
  rcases h.2 with ⟨_, h0⟩ | ⟨g, cap, cur, e, _, hg, h1, _, h3, h4⟩
  · omega
  · simp only [Value.slice.injEq] at e
    refine ⟨g, e.1, ?_⟩
    have hcell : ∀ (k : Nat) (x : Value), k < 4 → (vcs v)[k]? = some x → W.cell? ⟨g, i * 4 + k, none⟩ = some x := fun k x hk hx => by
      have h5 : (V.flatMap vcs)[i * 4 + k]? = some x := by
        have aux : ∀ (V : List Vis) (i : Nat), V[i]? = some v → (V.flatMap vcs)[i * 4 + k]? = some x := by
          intro V
          induction V with
          | nil => intro i hi; simp at hi
          | cons u V ih =>
            intro i hi
            cases i with
            | zero =>
              simp only [List.getElem?_cons_zero, Option.some.injEq] at hi
              subst hi
              rw [List.flatMap_cons, List.getElem?_append_left (by show 0 * 4 + k < 4; omega)]
              simpa using hx
            | succ i =>
              rw [List.flatMap_cons, List.getElem?_append_right (by show 4 ≤ (i + 1) * 4 + k; omega)]
              have := ih i (by simpa using hi)
              rw [← this]
              congr 1
              show (i + 1) * 4 + k - 4 = i * 4 + k
              omega
        exact aux V i hv
      rw [← h4, List.getElem?_take, if_pos (by omega)] at h5
      simp only [World.cell?, hg]
      rw [← Array.getElem?_toList]
      exact h5
    exact ⟨by have := hcell 0 _ (by omega) rfl; simpa using this, hcell 1 _ (by omega) rfl, hcell 2 _ (by omega) rfl, hcell 3 _ (by omega) rfl⟩
def RunRes (w0 : World) (sb se N P : Nat) (t : TbS) (TA TB : Mo.Tb) (m : Nat) (e : Ending) (w' : World) : Prop := ∃ V vis i, SS w0.heap.size w' sb se N P t V vis ∧ Below w0.heap.size w0 w' ∧ Okv N P V ∧ Bf.Inv (stpP TA TB) (fun _ => false) (0, 0) m (vb V) i 0 ∧
  (∀ (j : Nat) (u : Vis), j < i → V[j]? = some u → Mo.acc TA u.1 = Mo.acc TB u.2.1) ∧ ((e = .returned (.tuple #[.int .i64 (i : Int), .bool true]) ∧ ∃ u, V[i]? = some u ∧ Mo.acc TA u.1 ≠ Mo.acc TB u.2.1) ∨ (e = .returned (.tuple #[.int .i64 0, .bool false]) ∧ i = V.length))
theorem ss_below {base : Nat} {w0 W W' : World} {sb se N P : Nat} {t : TbS} {V : List Vis} {vis : Value} (h : SS base W sb se N P t V vis) (hb : Below base w0 W) (hw : base ≤ W.heap.size) (hk : Kept (fun k => k = sb ∨ k = se ∨ vis.ownBlock = some k ∨ W.heap.size ≤ k) W W') : Below base w0 W' :=
  hb.trans (Kept.toBelow hk fun k hk9 => by
    rcases hk9 with rfl | rfl | h9 | h9
    · exact h.osb
    · exact h.ose
    · exact (h.own.lt k h9).1
    · omega)
set_option maxRecDepth 100000 in
set_option maxHeartbeats 8000000 in
theorem run_any (w0 W : World) (sb se N P : Nat) (t : TbS) (TA TB : Mo.Tb) (m : Nat) (hA : Mo.Vt TA N m) (hB : Mo.Vt TB P m) (h1 : Rows2 w0 t.x1 N (TA.nx.map zs)) (h2 : Row w0 t.x2 N (TA.ac.map iv)) (h3 : Rows2 w0 t.u1 P (TB.nx.map zs)) (h4 : Row w0 t.u2 P (TB.ac.map iv))
    (hN : 1 ≤ N) (hN2 : N ≤ 501) (hP : 1 ≤ P) (hP2 : P ≤ 501) (hm : m ≤ 256) (h : SS w0.heap.size W sb se N P t [] (.slice none 0 0)) (hb : Below w0.heap.size w0 W) :
    Calls Try.prog 36 #[.pointer (some ⟨sb, 0, none⟩)] W (RunRes w0 sb se N P t TA TB m) := by
  have hNP : N * P ≤ 501 * 501 := Nat.mul_le_mul hN2 hP2
  have HT := hid (And.intro hA (And.intro hB (And.intro h1 (And.intro h2 (And.intro h3 h4)))))
  have C0 : Calls Try.prog 44 #[.pointer (some ⟨sb, 0, none⟩), .agg #[.int .i64 0, .int .i64 0, .int .i64 0, .int .i64 0]] W fun e w' => e = .returned (.tuple #[]) ∧ ∃ vis', SS w0.heap.size w' sb se N P t (addV P [] (0, 0, 0, 0)) vis' ∧ Kept (fun k => k = sb ∨ k = se ∨ (Value.slice none 0 0).ownBlock = some k ∨ W.heap.size ≤ k) W w' ∧ ∀ k, vis'.ownBlock = some k → (Value.slice none 0 0).ownBlock = some k ∨ W.heap.size ≤ k :=
    find_any w0.heap.size W sb se N P t [] (.slice none 0 0) h (0, 0, 0, 0) hN2 hP2 hN hP (by simp)
  have HC := hid C0
  have HS := hid (And.intro h hb)
  clear h hb C0 h1 h2 h3 h4 hA hB
  go_enter Try.func36, Try.ntmps36
  go_wp2_with fail
  refine HC.out.mono ?_
  rintro e W1 ⟨rfl, vis1, hS1, hK1, _⟩
  have hb1 := ss_below HS.out.1 HS.out.2 (HS.out.2.size) hK1
  have HS1 := hid (show SS w0.heap.size W1 sb se N P t [(0, 0, 0, 0)] vis1 ∧ Below w0.heap.size w0 W1 from ⟨hS1, hb1⟩)
  clear hS1 hK1 hb1 HC HS
  go_wp2_with fail
  go_loopg [4] (N * P + 1) (fun kk s4 wr => ∃ (i : Nat) (V : List Vis) (vis : Value), s4 = .int .i64 (i : Int) ∧ i + kk = N * P + 1 ∧ SS w0.heap.size wr sb se N P t V vis ∧ Below w0.heap.size w0 wr ∧ Okv N P V ∧ Bf.Inv (stpP TA TB) (fun _ => false) (0, 0) m (vb V) i 0 ∧ (∀ (j : Nat) (u : Vis), j < i → V[j]? = some u → Mo.acc TA u.1 = Mo.acc TB u.2.1) ∧ i ≤ V.length)
  case atStart => exact ⟨0, [(0, 0, 0, 0)], vis1, rfl, by omega, HS1.out.1, HS1.out.2, ⟨fun v hv => by simp at hv; subst hv; exact ⟨hN, hP⟩, by simp, fun j v hj => by
    left
    have := (List.getElem?_eq_some_iff.1 hj).1
    simp at this; omega⟩, Bf.Inv.start, fun j u hj => by omega, by simp⟩
  case round =>
    obtain ⟨i, V, vis, rfl, hk, hS, hb, hO, hI, hac, hiV⟩ := hrel
    have HQ := hid (And.intro hS (And.intro hb (And.intro hO (And.intro hI hac))))
    have hVl := hO.len
    obtain ⟨va, vc, hve⟩ := own_form hS.own
    subst hve
    obtain ⟨s0, s1, s2, s3, s4, s5⟩ := cells_of6 hS.sbx
    by_cases hlt : i < V.length
    · have hlt' : (i : Int) < (V.length : Int) := by omega
      have hi0 : (0 : Int) ≤ (i : Int) := by omega
      have hi1 : IntKind.i64.wrap ((i : Int) + 1) = (i : Int) + 1 := wrapIn (by omega) (by omega)
      obtain ⟨⟨qa, qb, qf, qc⟩, hv⟩ : ∃ v, V[i]? = some v := ⟨_, List.getElem?_eq_getElem hlt⟩
      obtain ⟨g, rfl, p0, p1, p2, p3⟩ := own4_at hS.own hv
      dsimp only at p0 p1 p2 p3
      obtain ⟨hqa, hqb⟩ := hO.rg _ (List.mem_of_getElem? hv)
      dsimp only at hqa hqb
      obtain ⟨b2, o2, xa, he2, hb2, hxa, pa2⟩ := int_at HT.out.2.2.2.1 hqa
      obtain ⟨b4, o4, xb, he4, hb4, hxb, pa4⟩ := int_at HT.out.2.2.2.2.2 hqb
      obtain ⟨b1, o1, ra, ra1, ra2, he1, hb1, hra, pa1, hrwa, _⟩ := row_at HT.out.2.2.1 hqa
      rw [List.getElem?_map] at hra
      obtain ⟨ta, hta, hrae⟩ := Option.map_eq_some_iff.1 hra
      subst hrae
      obtain ⟨hla, hxta⟩ := HT.out.1.row qa ta hta
      rw [zs_len, hla] at pa1 hrwa
      obtain ⟨b3, o3, rb, rb1, rb2, he3, hb3, hrb, pa3, hrwb, _⟩ := row_at HT.out.2.2.2.2.1 hqb
      rw [List.getElem?_map] at hrb
      obtain ⟨tb9, htb, hrbe⟩ := Option.map_eq_some_iff.1 hrb
      subst hrbe
      obtain ⟨hlb, hxtb⟩ := HT.out.2.1.row qb tb9 htb
      rw [zs_len, hlb] at pa3 hrwb
      rw [he1] at s0
      rw [he2] at s1
      rw [he3] at s2
      rw [he4] at s3
      have hqa0 : (0 : Int) ≤ (qa : Int) := by omega
      have hqa1 : (qa : Int) < (N : Int) := by omega
      have hqb0 : (0 : Int) ≤ (qb : Int) := by omega
      have hqb1 : (qb : Int) < (P : Int) := by omega
      obtain ⟨X, hX⟩ : ∃ X, X = wr.alloc (.cells #[.int .i64 (qa : Int), .int .i64 (qb : Int), .int .i64 (qf : Int), .int .i64 (qc : Int)] 85) := ⟨_, rfl⟩
      have xb5 := alloc_new wr (.cells #[.int .i64 (qa : Int), .int .i64 (qb : Int), .int .i64 (qf : Int), .int .i64 (qc : Int)] 85)
      have bX := bel1 wr (.cells #[.int .i64 (qa : Int), .int .i64 (qb : Int), .int .i64 (qf : Int), .int .i64 (qc : Int)] 85)
      rw [← hX] at xb5 bX
      have hbX := hb.trans (bX.mono hb.size)
      have hSX := hS.keep bX
      have HXX := hid (And.intro hSX (And.intro hbX (And.intro xb5 (show ∀ k, (Value.slice (some ⟨g, 0, none⟩) V.length vc).ownBlock = some k → k ≠ wr.heap.size from fun k hk9 => by have := (hS.own.lt k hk9).2; omega))))
      have HRW := hid (And.intro hrwa (And.intro hrwb (And.intro hxta (And.intro hxtb (And.intro hta (And.intro htb (And.intro hla hlb)))))))
      have HAC := hid (show Mo.acc TA qa = some xa ∧ Mo.acc TB qb = some xb from ⟨hxa, hxb⟩)
      have HVI := hid hv
      have HE3 := hid (And.intro he3 (And.intro hb3 pa3))
      obtain ⟨S0, S1, S2, S3, S4, S5⟩ := cells_of6 hSX.sbx
      rw [he1] at S0
      rw [he2] at S1
      rw [he3] at S2
      rw [he4] at S3
      obtain ⟨B0, B1, B2, B3⟩ := cells4 xb5
      have P1 := (hbX.cell (p := ⟨b1, o1 + qa, none⟩) hb1).trans pa1
      have P2 := (hbX.cell (p := ⟨b2, o2 + qa, none⟩) hb2).trans pa2
      have P4 := (hbX.cell (p := ⟨b4, o4 + qb, none⟩) hb4).trans pa4
      clear hS hb hO hI hac hv hxa hxb hra hrwa hta hxta hrb hrwb htb hxtb xb5 bX hbX hSX hla hlb he1 he2 he3 he4 pa1 pa2 pa3 pa4
      go_wp2_with fail
      rw [← hX]
      clear hX p0 p1 p2 p3 s0 s1 s2 s3 s4 s5
      by_cases hab : xa = xb
      · have hab' : (xa == xb) = true := by rw [beq_iff_eq]; exact hab
        have hab2 : (xa != xb) = false := by rw [bne, hab']; rfl
        go_quiet (fail)
        obtain ⟨Y, hY⟩ : ∃ Y, Y = X.drewN nq := ⟨_, rfl⟩
        have hXn : Below X.heap.size X Y := by rw [hY]; exact below_drewN (Below.refl _ _) nq
        have HY := hid (show SS w0.heap.size Y sb se N P t V (.slice (some ⟨g, 0, none⟩) V.length vc) ∧ Below w0.heap.size w0 Y ∧ Y.heap[wr.heap.size]? = some (.cells #[.int .i64 (qa : Int), .int .i64 (qb : Int), .int .i64 (qf : Int), .int .i64 (qc : Int)] 85 (0, 0)) from ⟨HXX.out.1.keep hXn, HXX.out.2.1.trans (hXn.mono HXX.out.2.1.size), (hXn.block _ (heap_lt HXX.out.2.2.1)).trans HXX.out.2.2.1⟩)
        have T0 := (hXn.cell (p := ⟨sb, 0, none⟩) (heap_lt HXX.out.1.sbx)).trans S0
        have T1 := (hXn.cell (p := ⟨wr.heap.size, 0, none⟩) (heap_lt HXX.out.2.2.1)).trans B0
        have T2 := (hXn.cell (p := ⟨b1, o1 + qa, none⟩) (by show b1 < X.heap.size; have := HXX.out.2.1.size; omega)).trans P1
        rw [← hY]
        clear hY hXn S0 S1 S2 S3 S4 S5 B0 B1 B2 B3 P1 P2 P4 hab'
        go_wp2_with fail
        go_quiet (fail)
        obtain ⟨B, hB⟩ : ∃ B, B = wr.heap.size := ⟨_, rfl⟩
        rw [← hB] at HY ⊢
        have HBN := hid (hB ▸ HXX.out.2.2.2 : ∀ k, (Value.slice (some ⟨g, 0, none⟩) V.length vc).ownBlock = some k → k ≠ B)
        have HBw := hid (show w0.heap.size ≤ B from by rw [hB]; exact HQ.out.2.1.size)
        clear hB T0 T1 T2
        go_wp2_with fail
        obtain ⟨g1, rfl⟩ : ∃ g1, g1 = gk := ⟨_, rfl⟩
        obtain ⟨wo, rfl⟩ : ∃ wo, wo = wr := ⟨_, rfl⟩
        go_loopg [57] m (fun kk s57 wi => ∃ (c : Nat) (U : List Vis) (vis : Value), s57 = .int .i64 (c : Int) ∧ c + kk = m ∧ SS w0.heap.size wi sb se N P t U vis ∧ Below w0.heap.size w0 wi ∧ Okv N P U ∧ Bf.Inv (stpP TA TB) (fun _ => false) (0, 0) m (vb U) i c ∧ (∀ (j : Nat) (u : Vis), j ≤ i → U[j]? = some u → Mo.acc TA u.1 = Mo.acc TB u.2.1) ∧ U[i]? = some (qa, qb, qf, qc) ∧ wi.heap[B]? = some (.cells #[.int .i64 (qa : Int), .int .i64 (qb : Int), .int .i64 (qf : Int), .int .i64 (qc : Int)] 85 (0, 0)) ∧ ∀ k, vis.ownBlock = some k → k ≠ B)
        case atStart =>
          have hYn : Below Y.heap.size Y (Y.drewN nq) := below_drewN (Below.refl _ _) nq
          exact ⟨0, V, _, rfl, by omega, HY.out.1.keep hYn, HY.out.2.1.trans (hYn.mono HY.out.2.1.size), HQ.out.2.2.1, HQ.out.2.2.2.1, fun j u hj hu => by
            by_cases e : j < i
            · exact HQ.out.2.2.2.2 j u e hu
            · obtain rfl : j = i := by omega
              rw [HVI.out] at hu
              obtain rfl := Option.some.inj hu
              show Mo.acc TA qa = Mo.acc TB qb
              rw [HAC.out.1, HAC.out.2, hab], HVI.out, (hYn.block _ (heap_lt HY.out.2.2)).trans HY.out.2.2, HBN.out⟩
        case round =>
          obtain ⟨c, U, vis, rfl, hck, hSi, hbi, hOi, hIi, haci, hUi, hBi, hnei⟩ := hrel
          have hUl := hOi.len
          have HI := hid (And.intro hSi (And.intro hbi (And.intro hOi (And.intro hIi (And.intro haci (And.intro hUi (And.intro hBi hnei)))))))
          by_cases hlc : c < m
          · have hlc' : (c : Int) < (m : Int) := by omega
            have hc0 : (0 : Int) ≤ (c : Int) := by omega
            have hc1 : IntKind.i64.wrap ((c : Int) + 1) = (c : Int) + 1 := wrapIn (by omega) (by omega)
            obtain ⟨b5, o5, x5, rfl, _, hx5, pc5⟩ := int_at (HRW.out.1.below hbi) hlc
            obtain ⟨z5, hz5⟩ : ∃ z, ta[c]? = some z := ⟨_, List.getElem?_eq_getElem (by have := HRW.out.2.2.2.2.2.2.1; omega)⟩
            rw [zs_at hz5] at hx5
            obtain rfl := Option.some.inj hx5
            obtain ⟨b6, o6, x6, rfl, _, hx6, pc6⟩ := int_at (HRW.out.2.1.below hbi) hlc
            obtain ⟨z6, hz6⟩ : ∃ z, tb9[c]? = some z := ⟨_, List.getElem?_eq_getElem (by have := HRW.out.2.2.2.2.2.2.2; omega)⟩
            rw [zs_at hz6] at hx6
            obtain rfl := Option.some.inj hx6
            have hz5N := HRW.out.2.2.1 c z5 hz5
            have hz6P := HRW.out.2.2.2.1 c z6 hz6
            have HZ := hid (And.intro hz5 hz6)
            obtain ⟨S0, S1, S2, S3, S4, S5⟩ := cells_of6 hSi.sbx
            rw [HE3.out.1] at S2
            have P3 := (hbi.cell (p := ⟨b3, o3 + qb, none⟩) hb3).trans HE3.out.2.2
            obtain ⟨B0, B1, B2, B3⟩ := cells4 hBi
            have CF := fun (Z : World) (hZ : Below wr.heap.size wr Z) => find_any w0.heap.size Z sb se N P t U vis (hSi.keep hZ) (z5, z6, i, c) hN2 hP2 hz5N hz6P (by omega)
            dsimp only at CF
            have CF := hid CF
            clear hSi hbi hOi hIi haci hUi hBi hnei hx5 hx6 hz5 hz6
            go_wp2_with fail
            refine wp_region_still_tail 17 (by kernel_rfl) (by kernel_rfl) ?_
            obtain ⟨Z, hZ⟩ : ∃ Z, Z = ({ wr with drawn := wr.drawn + 1 } : World) := ⟨_, rfl⟩
            have bZ : Below wr.heap.size wr Z := by rw [hZ]; exact (Below.refl _ _).drew
            rw [← hZ]
            clear hZ
            have hSZ := HI.out.1.keep bZ
            have hBZ := (bZ.block _ (heap_lt HI.out.2.2.2.2.2.2.1)).trans HI.out.2.2.2.2.2.2.1
            have Q3 := (bZ.cell (p := ⟨b3, o3 + qb, none⟩) (by show b3 < wr.heap.size; have := HI.out.2.1.size; omega)).trans P3
            have Q6 := (bZ.cell (p := ⟨b6, o6 + c, none⟩) (by assumption)).trans pc6
            clear S0 S1 S2 S3 S4 S5 P3 B0 B1 B2 B3 pc6
            obtain ⟨S0, S1, S2, S3, S4, S5⟩ := cells_of6 hSZ.sbx
            rw [HE3.out.1] at S2
            obtain ⟨B0, B1, B2, B3⟩ := cells4 hBZ
            have HZ2 := hid (And.intro hSZ (And.intro hBZ bZ))
            clear hSZ hBZ bZ
            simp only [List.take_succ_cons, List.take_zero, List.drop_succ_cons, List.drop_zero]
            repeat still_step
            refine wpStill_nil ?_
            clear S0 S1 S2 S3 S4 S5 B0 B1 B2 B3 Q3 Q6
            have CF2 := hid (CF.out Z HZ2.out.2.2)
            clear CF
            go_wp2_with fail
            refine CF2.out.mono ?_
            rintro e Z2 ⟨rfl, vis2, hS2, hK2, hat2⟩
            have hb2' := ss_below HZ2.out.1 (HI.out.2.1.trans (HZ2.out.2.2.mono HI.out.2.1.size)) (Nat.le_trans HI.out.2.1.size HZ2.out.2.2.size) hK2
            have hbl := heap_lt HZ2.out.2.1
            have hBox : Z2.heap[B]? = some (.cells #[.int .i64 (qa : Int), .int .i64 (qb : Int), .int .i64 (qf : Int), .int .i64 (qc : Int)] 85 (0, 0)) := (hK2.block _ (by
              rintro (e | e | e | e)
              · have h9 := HZ2.out.2.1
                rw [e, HZ2.out.1.sbx] at h9
                simp at h9
              · have h9 := HZ2.out.1.seen
                unfold LB at h9
                rw [← e, HZ2.out.2.1] at h9
                simp at h9
              · exact HI.out.2.2.2.2.2.2.2 B e rfl
              · omega)).trans HZ2.out.2.1
            obtain ⟨s, hs, hvs⟩ := vb_at HI.out.2.2.2.2.2.1
            have hvadd := vb_addV HI.out.2.2.1 (i := i) (a := z5) (c := c) hz6P hs
            have hInv := HI.out.2.2.2.1.letter hvs hlc hm
            have hstep : stpP TA TB (qa, qb) c = (z5, z6) := by
              unfold stpP Mo.to
              rw [List.getD_eq_getElem?_getD, List.getD_eq_getElem?_getD, List.getD_eq_getElem?_getD, List.getD_eq_getElem?_getD, HRW.out.2.2.2.2.1, HRW.out.2.2.2.2.2.1]
              simp only [Option.getD_some]
              rw [HZ.out.1, HZ.out.2]; rfl
            dsimp only at hInv
            rw [hstep, ← hvadd] at hInv
            have HF := hid (And.intro hS2 (And.intro hb2' (And.intro hBox (And.intro hInv (show ∀ k, vis2.ownBlock = some k → k ≠ B from fun k hk9 => by
              rcases hat2 k hk9 with h | h
              · exact HI.out.2.2.2.2.2.2.2 k h
              · omega)))))
            clear hS2 hK2 hat2 hb2' hBox hInv hvadd hs hvs hstep CF2
            go_wp2_with fail
            go_roundg (gk - 1)
            case measure => omega
            case rel =>
              have hil := (List.getElem?_eq_some_iff.1 HI.out.2.2.2.2.2.1).1
              exact ⟨c + 1, _, vis2, by go_num, by omega, HF.out.1, HF.out.2.1, HI.out.2.2.1.add hz5N hz6P (.inr hil), HF.out.2.2.2.1, fun j u hj hu => by
                obtain ⟨E, eE⟩ := addV_pre P U (z5, z6, i, c)
                rw [eE, List.getElem?_append_left (by omega)] at hu
                exact HI.out.2.2.2.2.1 j u hj hu, addV_at HI.out.2.2.2.2.2.1, HF.out.2.2.1, HF.out.2.2.2.2⟩
          · have hlc' : ¬ (c : Int) < (m : Int) := by omega
            obtain rfl : c = m := by omega
            have HN := hid (hIi.node hm)
            clear hSi hbi hOi hIi haci hUi hBi hnei
            go_wp2_with fail
            go_roundg (g1 - 1)
            case measure => omega
            case rel => exact ⟨i + 1, U, vis, by go_num, by omega, HI.out.1, HI.out.2.1, HI.out.2.2.1, HN.out, fun j u hj => HI.out.2.2.2.2.1 j u (by omega), by have := (List.getElem?_eq_some_iff.1 HI.out.2.2.2.2.2.1).1; omega⟩
      · have hab' : (xa == xb) = false := by rw [beq_eq_false_iff_ne]; exact hab
        have hab2 : (xa != xb) = true := by rw [bne, hab']; rfl
        have HNE := hid hab
        go_quiet (fail)
        have hXn : Below X.heap.size X (X.drewN nq) := below_drewN (Below.refl _ _) nq
        have HY := hid (show SS w0.heap.size (X.drewN nq) sb se N P t V (.slice (some ⟨g, 0, none⟩) V.length vc) ∧ Below w0.heap.size w0 (X.drewN nq) from ⟨HXX.out.1.keep hXn, HXX.out.2.1.trans (hXn.mono HXX.out.2.1.size)⟩)
        clear hXn S0 S1 S2 S3 S4 S5 B0 B1 B2 B3 P1 P2 P4 hab'
        go_wp2
        go_ret2
        exact ⟨V, _, i, HY.out.1, HY.out.2, HQ.out.2.2.1, HQ.out.2.2.2.1, HQ.out.2.2.2.2, .inl ⟨rfl, _, HVI.out, by rw [HAC.out.1, HAC.out.2]; exact fun e => HNE.out (Option.some.inj e)⟩⟩
    · have hlt' : ¬ (i : Int) < (V.length : Int) := by omega
      have HIV := hid (show i = V.length by omega)
      clear hS hb hO hI hac
      go_wp2
      go_ret2
      exact ⟨V, _, i, HQ.out.1, HQ.out.2.1, HQ.out.2.2.1, HQ.out.2.2.2.1, HQ.out.2.2.2.2, .inr ⟨rfl, HIV.out⟩⟩
end Go.Proofs.Ytelbagaiijffdaa
