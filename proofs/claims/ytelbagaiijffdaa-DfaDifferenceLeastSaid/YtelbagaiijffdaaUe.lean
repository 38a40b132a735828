/-
  Contract: newTable.
-/
import Derived.Test.YtelbagaiijffdaaUd
set_option linter.unusedSimpArgs false
set_option linter.unusedVariables false
namespace Go.Proofs.Ytelbagaiijffdaa
open Go.RowKit Lx Go.Frame

/-- A successor, the sink where there is none. -/
def sk (n : Nat) (x : Int) : Nat := if x = -1 then n else x.toNat
def cl (D : Df) (b : Nat) : Nat := (D.cls.getD b 0).toNat
/-- A state's successors by the given bytes. -/
def tbr (D : Df) (by_ : List Nat) (r : List Int) : List Nat := by_.map fun b => sk D.nxt.length (r.getD (cl D b) 0)
/-- The table of an automaton with a column for each of the given bytes. -/
def tb (D : Df) (by_ : List Nat) : Mo.Tb := ⟨D.nxt.map (tbr D by_) ++ [List.replicate by_.length D.nxt.length], D.acc ++ [-1]⟩
theorem addr_add (b o j : Nat) : (⟨b, o, none⟩ : Addr).add j = ⟨b, o + j, none⟩ := by unfold Addr.add; split <;> simp_all
theorem row_put {W : World} {p : Option Addr} {n B j : Nat} {l : List Value} {u : Value} (h : Row W p n l) (hn : ∀ b off, p = some ⟨b, off, none⟩ → b ≠ B) : Row (W.setCell ⟨B, j, none⟩ u) p n l := by
  obtain ⟨h5, h6⟩ := h
  refine ⟨h5, h6.imp id ?_⟩
  rintro ⟨b9, o9, rfl, hl9, h7⟩
  refine ⟨b9, o9, rfl, by simpa using hl9, fun j x hj => ?_⟩
  rw [World.cell?_of_block (heap_setCell_other _ _ _ _ (hn b9 o9 rfl))]
  exact h7 j x hj
theorem zs_rep (m n : Nat) : zs (List.replicate m n) = List.replicate m (n : Int) := by simp [zs]
/-- What newTable returns. -/
def NtRes (w : World) (T : Mo.Tb) (n : Nat) (e : Ending) (w' : World) : Prop := (∃ x1 y1 x2 y2, e = .returned (.agg #[.slice x1 (n + 1) y1, .slice x2 (n + 1) y2]) ∧ Rows2 w' x1 (n + 1) (T.nx.map zs) ∧ Row w' x2 (n + 1) (T.ac.map iv)) ∧ Below w.heap.size w w'
set_option maxRecDepth 100000 in
set_option maxHeartbeats 8000000 in
theorem newTable_any (w : World) (D : Df) (n k : Nat) (hv : Vd D n k) (a1 : Option Addr) (n1 c1 : Nat) (a2 : Option Addr) (n2 c2 : Nat) (a3 : Option Addr) (n3 c3 : Nat) (h : DA w D a1 n1 a2 n2 a3 n3) (ab : Option Addr) (m cb : Nat) (by_ : List Nat) (hB : Row w ab m ((zs by_).map iv)) (hm : 1 ≤ m) (hm2 : m ≤ 256) (hby : ∀ b ∈ by_, b < 256) :
    Calls Try.prog 27 #[.agg #[.slice a1 n1 c1, .slice a2 n2 c2, .slice a3 n3 c3], .slice ab m cb] w (NtRes w (tb D by_) n) := by
  have hn2 : n = n2 := by have h1 := h.l2; have h2 := hv.hn; omega
  have hn1 : n1 = 256 := by have h1 := h.l1; have h2 := hv.cl; omega
  have hn3 : n = n3 := by have h1 := h.l3; have h2 := hv.al; omega
  subst hn2 hn1 hn3
  have hml : by_.length = m := by have := hB.1; simpa [zs_len] using this
  have hpos := hv.pos
  have hle := hv.le
  have HV := hid (And.intro hv (And.intro h (And.intro hB (And.intro hby hml))))
  obtain ⟨i0, hi, hz0, hz1, hz2⟩ := info_parts info3
  obtain ⟨j0, hj, hy0, hy1, hy2⟩ := info_parts info22
  have hmk := fun V => make_n V m (by omega)
  obtain ⟨W, hW⟩ : ∃ W, W = ((w.alloc (.cells #[.slice a1 256 c1, .slice a2 n c2, .slice a3 n c3] 25)).alloc (.cells #[.slice none 0 0, .slice none 0 0] 50)).alloc (.cells #[.slice none 0 0, .slice none 0 0] 50) := ⟨_, rfl⟩
  have x1 := alloc_new w (.cells #[.slice a1 256 c1, .slice a2 n c2, .slice a3 n c3] 25)
  have hWx : W.heap[w.heap.size]? = some (.cells #[.slice a1 256 c1, .slice a2 n c2, .slice a3 n c3] 25 (0, 0)) ∧ W.heap[w.heap.size + 1]? = some (.cells #[.slice none 0 0, .slice none 0 0] 50 (0, 0)) ∧ W.heap[w.heap.size + 1 + 1]? = some (.cells #[.slice none 0 0, .slice none 0 0] 50 (0, 0)) ∧ Below w.heap.size w W ∧ W.heap.size = w.heap.size + 3 := by
    rw [hW]
    refine ⟨blk_alloc (blk_alloc x1), ?_, ?_, ?_, by simp⟩
    · have := alloc_new (w.alloc (.cells #[.slice a1 256 c1, .slice a2 n c2, .slice a3 n c3] 25)) (.cells #[.slice none 0 0, .slice none 0 0] 50)
      rw [World.size_alloc] at this
      exact blk_alloc this
    · have := alloc_new ((w.alloc (.cells #[.slice a1 256 c1, .slice a2 n c2, .slice a3 n c3] 25)).alloc (.cells #[.slice none 0 0, .slice none 0 0] 50)) (.cells #[.slice none 0 0, .slice none 0 0] 50)
      rw [World.size_alloc, World.size_alloc] at this
      exact this
    · exact ((bel1 _ _).alloc (by simp) _).alloc (by simp only [World.size_alloc]; omega) _
  clear x1
  have HW := hid hWx
  obtain ⟨d0, d1, d2⟩ := cells3 hWx.1
  clear hWx h hv hB hby
  unfold NtRes
  go_enter Try.func27, Try.ntmps27
  go_wp2_with fail
  rw [← hW]
  clear hW
  go_loopg [18] n (fun kk s18 wr => ∃ (i : Nat) (s : Value) (rv : List (Nat × List Int)), s18 = .int .i64 (i : Int) ∧ i + kk = n ∧ OR wr w.heap.size s rv ∧ rv.map (·.2) = ((D.nxt.take i).map (tbr D by_)).map zs ∧ wr.heap[w.heap.size]? = some (.cells #[.slice a1 256 c1, .slice a2 n c2, .slice a3 n c3] 25 (0, 0)) ∧ wr.heap[w.heap.size + 1]? = some (.cells #[.slice none 0 0, .slice none 0 0] 50 (0, 0)) ∧ wr.heap[w.heap.size + 1 + 1]? = some (.cells #[s, .slice none 0 0] 50 (0, 0)) ∧ Below w.heap.size w wr)
  case atStart => exact ⟨0, .slice none 0 0, [], rfl, by omega, OR.nil _ _, rfl, HW.out.1, HW.out.2.1, HW.out.2.2.1, HW.out.2.2.2.1⟩
  case round =>
    obtain ⟨i, s, rv, rfl, hk, hO, hrv, hx0, hx1, hx2, hb⟩ := hrel
    have HB := hid (And.intro hb (And.intro hx0 (And.intro hx1 hx2)))
    have HO := hid (And.intro hO hrv)
    have HORV := hid hrv
    by_cases hlt : i < n
    · have hlt' : (i : Int) < (n : Int) := by omega
      have hi0 : (0 : Int) ≤ (i : Int) := by omega
      have hi1 : IntKind.i64.wrap ((i : Int) + 1) = (i : Int) + 1 := wrapIn (by omega) (by omega)
      obtain ⟨b2, o2, r, ra, rc, rfl, _, hr, p1, hrw, _⟩ := row_at (HV.out.2.1.nxt.below hb) hlt
      obtain ⟨hrl, hrx⟩ := HV.out.1.row r (List.mem_of_getElem? hr)
      rw [hrl] at p1 hrw
      have hrvl : rv.length = i := by
        have := congrArg List.length hrv
        have h9 := HV.out.1.hn
        simp at this; omega
      have HR := hid (And.intro hr (And.intro hrw (And.intro hrl (And.intro hrx hrvl))))
      obtain ⟨V, hV⟩ : ∃ V, V = wr.alloc (.cells (zr m) 3) := ⟨_, rfl⟩
      have bV : Below wr.heap.size wr V := by rw [hV]; exact bel1 _ _
      obtain ⟨out, hout⟩ : ∃ out, out = zs (tbr D by_ r) := ⟨_, rfl⟩
      have hol : out.length = m := by rw [hout, zs_len]; simp [tbr, hml]
      have HVV := hid (show IB V wr.heap.size (fil out 0) ∧ Below wr.heap.size wr V from by rw [fil_zero, hol]; exact ⟨by rw [hV]; exact alloc_new _ _, bV⟩)
      have HOUT := hid (And.intro hout hol)
      clear hb hx0 hx1 hO hrv hr hrw hrl hrx hrvl hout hol bV
      obtain ⟨e0, e1⟩ := cells2 hx2
      clear hx2
      go_wp2_with fail
      rw [← hV]
      clear hV
      obtain ⟨wo, rfl⟩ : ∃ wo, wo = wr := ⟨_, rfl⟩
      obtain ⟨g1, rfl⟩ : ∃ g1, g1 = gk := ⟨_, rfl⟩
      go_loopg [27] m (fun kk s27 wi => ∃ j : Nat, s27 = .int .i64 (j : Int) ∧ j + kk = m ∧ IB wi wo.heap.size (fil out j) ∧ Below wo.heap.size wo wi)
      case atStart => exact ⟨0, rfl, by omega, HVV.out.1, HVV.out.2⟩
      case round =>
        obtain ⟨j, rfl, hjk, hI, hbi⟩ := hrel
        have HI := hid (And.intro hI hbi)
        have hbw : Below w.heap.size w wr := HB.out.1.trans (hbi.mono HB.out.1.size)
        have y0 := (hbi.block _ (heap_lt HB.out.2.1)).trans HB.out.2.1
        have y2 := (hbi.block _ (heap_lt HB.out.2.2.2)).trans HB.out.2.2.2
        obtain ⟨d0, d1, d2⟩ := cells3 y0
        obtain ⟨e0, e1⟩ := cells2 y2
        by_cases hjm : j < m
        · have hjm' : (j : Int) < (m : Int) := by omega
          have hj0 : (0 : Int) ≤ (j : Int) := by omega
          have hj1 : IntKind.i64.wrap ((j : Int) + 1) = (j : Int) + 1 := wrapIn (by omega) (by omega)
          obtain ⟨bb, ob, xb, rfl, _, hxb, pb⟩ := int_at (HV.out.2.2.1.below hbw) hjm
          unfold zs at hxb
          rw [List.getElem?_map] at hxb
          obtain ⟨q, hq, rfl⟩ := Option.map_eq_some_iff.1 hxb
          have hq256 := HV.out.2.2.2.1 q (List.mem_of_getElem? hq)
          obtain ⟨bc, oc, xc, rfl, _, hxc, pc⟩ := int_at (HV.out.2.1.cls.below hbw) hq256
          obtain ⟨c, hck, rfl⟩ := HV.out.1.cls xc (List.mem_of_getElem? hxc)
          obtain ⟨br, or_, y, rfl, _, hy, pr⟩ := int_at (HR.out.2.1.below hbi) hck
          have hcl : cl D q = c := by unfold cl; rw [List.getD_eq_getElem?_getD, hxc]; rfl
          have hoj : out[j]? = some ((sk n y : Nat) : Int) := by
            rw [HOUT.out.1]
            unfold tbr
            refine zs_at ?_
            rw [List.getElem?_map, hq, Option.map_some, HV.out.1.hn, hcl, List.getD_eq_getElem?_getD, hy]; rfl
          have hyr := HR.out.2.2.2.1 y (List.mem_of_getElem? hy)
          have hq0 : (0 : Int) ≤ (q : Int) := by omega
          have hq1 : (q : Int) < 256 := by omega
          have hc0 : (0 : Int) ≤ (c : Int) := by omega
          have hc1 : (c : Int) < (k : Int) := by omega
          have hfr : wr.frozen? ⟨wo.heap.size, j, none⟩ = false := Go.Frame.free hI j
          obtain ⟨z, q0⟩ := hI.cell (i := j) (by rw [fil_len out (by have := HOUT.out.2; omega), HOUT.out.2]; exact hjm)
          have HN := hid (show IB (wr.setCell ⟨wo.heap.size, j, none⟩ (.int .i64 ((sk n y : Nat) : Int))) wo.heap.size (fil out (j + 1)) ∧ Below wo.heap.size wo (wr.setCell ⟨wo.heap.size, j, none⟩ (.int .i64 ((sk n y : Nat) : Int))) from by rw [← fil_set hoj]; exact ⟨hI.set _, below_put hbi (Nat.le_refl _)⟩)
          have HOJ := hid hoj
          clear hI hbi hbw y0 y2 hxb hq hxc hy hoj
          by_cases hy1 : y = -1
          · subst hy1
            have hsk : ((sk n (-1) : Nat) : Int) = (n : Int) := by simp [sk]
            have hoj2 : out[j]? = some (n : Int) := by rw [← hsk]; exact HOJ.out
            have HN2 := hid (show IB ((wr.setCell ⟨wo.heap.size, j, none⟩ (.int .i64 (-1))).setCell ⟨wo.heap.size, j, none⟩ (.int .i64 (n : Int))) wo.heap.size (fil out (j + 1)) ∧ Below wo.heap.size wo ((wr.setCell ⟨wo.heap.size, j, none⟩ (.int .i64 (-1))).setCell ⟨wo.heap.size, j, none⟩ (.int .i64 (n : Int))) from by
              rw [← fil_set hoj2]
              have h9 := (HI.out.1.set (i := j) (-1)).set (i := j) (n : Int)
              rw [List.set_set] at h9
              exact ⟨h9, below_put (below_put HI.out.2 (Nat.le_refl _)) (Nat.le_refl _)⟩)
            clear hoj2 hsk
            go_wp2_with fail
            go_roundg (gk - 1)
            case measure => omega
            case rel => exact ⟨j + 1, by go_num, by omega, HN2.out.1, HN2.out.2⟩
          · have hsk : ((sk n y : Nat) : Int) = y := by rw [sk, if_neg hy1]; omega
            have hy1' : (y == -1) = false := by rw [beq_eq_false_iff_ne]; exact hy1
            rw [hsk] at HN
            go_wp2_with fail
            go_roundg (gk - 1)
            case measure => omega
            case rel => exact ⟨j + 1, by go_num, by omega, HN.out.1, HN.out.2⟩
        · have hjm' : ¬ (j : Int) < (m : Int) := by omega
          have hjo : j = out.length := by have := HOUT.out.2; omega
          rw [hjo, fil_all] at hI
          have hO := HO.out.1.keep hbi
          obtain ⟨sa, sc, hse⟩ := hO.form
          subst hse
          have hrvl := HR.out.2.2.2.2
          have HXX := hid (And.intro hI (And.intro hbi (And.intro hbw (And.intro y2 hO))))
          have hol := HOUT.out.2
          rw [hrvl] at e0
          clear hI hbi hbw y0 y2 hO d0 d1 d2 HO
          go_wp2_with (at_builtin; refine wpList_append_own _ rfl (.tmp 54) (.tmp 56) 23 rfl w.heap.size 22 j0 (.slice none 0 0) 1 24 Try.underlying23 hj hy0 hy1 hy2 rfl (by decide) (.slice sa i sc) i (rv.map rvv) (by rfl) (by have h9 := own_alloc HXX.out.2.2.2.2.1; rw [hrvl] at h9; exact h9 _) ⟨wr.heap.size, 0, none⟩ 1 1 [.slice (some ⟨wo.heap.size, 0, none⟩) m m] rfl rfl ?c1 ?c2 ?c3 ?c4 ?c5 ?_)
          first | (case c1 => exact fun j u hj => one_cell _ _ _ _ _ hj) | skip
          first | (case c2 => first | rfl | (intro u hu; simp at hu; subst hu; rfl)) | skip
          first | (case c3 => unfold maxLen; omega) | skip
          first | (case c4 => omega) | skip
          first | (case c5 => (have := HXX.out.2.2.1.size; simp; omega)) | skip
          intro v' w1 hown' hgrow _
          obtain ⟨pa, pc, rfl⟩ := own_form hown'
          have hgrow' : (wr.alloc (.cells #[.slice (some ⟨wo.heap.size, 0, none⟩) m m] 22)).grownBy w1 (Value.slice sa rv.length sc).ownBlock := by rw [hrvl]; exact hgrow
          have hO1 := HXX.out.2.2.2.2.snoc HXX.out.1 HB.out.1.size hgrow' (by rw [hrvl]; unfold rvv; rw [show (wo.heap.size, out).2.length = m from hol]; exact hown')
          have hx1 : ∀ (k : Nat) (c : Array Value) (t : Nat), t ≠ 22 → wr.heap[k]? = some (Obj.cells c t (0, 0)) → w1.heap[k]? = some (Obj.cells c t (0, 0)) := fun k c t ht hk => by
            have hlt := heap_lt hk
            rw [hgrow'.block k (by simp; omega) (fun e => own_ne_block HXX.out.2.2.2.2.1 hk (fun e => ht e.symm) e.symm)]
            exact blk_alloc hk
          have z2 := hx1 _ _ 50 (by decide) HXX.out.2.2.2.1
          have hb1 := below_grown2 HXX.out.2.2.1 HXX.out.2.2.2.2.1 (Nat.le_refl _) hgrow' HXX.out.2.2.1.size
          have z0 := hx1 _ _ 25 (by decide) ((HXX.out.2.1.block _ (heap_lt HB.out.2.1)).trans HB.out.2.1)
          have z1 := hx1 _ _ 50 (by decide) ((HXX.out.2.1.block _ (heap_lt HB.out.2.2.1)).trans HB.out.2.2.1)
          have hf0 := Go.Frame.free z2 0
          obtain ⟨k0, k1⟩ := cells2 z2
          have HN := hid (And.intro (hO1.put (j := 0) (u := .slice pa (i + 1) pc) z2 (by decide) (.inl (by decide))) (And.intro (blk_set (a := ⟨w.heap.size + 1 + 1, 0, none⟩) (v := .slice pa (i + 1) pc) z0 (by show w.heap.size ≠ w.heap.size + 1 + 1; omega)) (And.intro (blk_set (a := ⟨w.heap.size + 1 + 1, 0, none⟩) (v := .slice pa (i + 1) pc) z1 (by show w.heap.size + 1 ≠ w.heap.size + 1 + 1; omega)) (And.intro ((blk_put (k := 0) (v := .slice pa (i + 1) pc) z2).trans rfl) (below_put (j := 0) (u := .slice pa (i + 1) pc) hb1 (show w.heap.size ≤ w.heap.size + 1 + 1 by omega))))))
          have HRV := hid (show (rv ++ [(wo.heap.size, out)]).map (·.2) = ((D.nxt.take (i + 1)).map (tbr D by_)).map zs from by
            rw [List.map_append, HORV.out, List.take_add_one, HR.out.1]
            simp [HOUT.out.1])
          clear hown' hgrow hgrow' hO1 hx1 z2 z0 z1 hb1
          go_wp2_with fail
          go_roundg (g1 - 1)
          case measure => omega
          case rel => exact ⟨i + 1, _, _, by go_num, by omega, HN.out.1, HRV.out, HN.out.2.1, HN.out.2.2.1, HN.out.2.2.2.1, HN.out.2.2.2.2⟩
    · have hlt' : ¬ (i : Int) < (n : Int) := by omega
      obtain rfl : i = n := by omega
      obtain ⟨sa, sc, hse⟩ := hO.form
      subst hse
      have hrvl : rv.length = i := by
        have := congrArg List.length hrv
        have h9 := HV.out.1.hn
        simp at this; omega
      rw [hrvl] at hx2 HB
      have HRL := hid hrvl
      have HX2 := hid hx2
      have CR := hid (fun (X : World) (g : Nat) (hg : X.heap[g]? = some (.cells #[.int .i64 (i : Int)] 3 (0, 0))) => repeat_any X (some ⟨g, 0, none⟩) 1 m (i : Int) ⟨rfl, .inr ⟨g, 0, rfl, heap_lt hg, fun j x hx => by
        have hj0 : j = 0 := by have := (List.getElem?_eq_some_iff.1 hx).1; simp at this; omega
        subst hj0
        simp at hx; subst hx
        simp [World.cell?, hg, iv]⟩⟩ hm (by omega))
      rw [hrvl] at hO
      have HO2 := hid hO
      clear hb hx0 hx1 hO hrv hx2 HO hrvl d0 d1 d2
      go_wp2_with fail
      refine region_inv (fun b a' w' => ∃ (v60 v61 v62 v63 v64 v65 v66 v67 v68 v69 : Value) (g6 : Nat), a' = { tmps := #[.agg #[.slice a1 256 c1, .slice a2 i c2, .slice a3 i c3], .slice ab m cb, .pointer (some ⟨w.heap.size, 0, none⟩), undef, .pointer (some ⟨w.heap.size + 1, 0, none⟩), .int .i64 (i : Int), .pointer (some ⟨w.heap.size + 1 + 1, 0, none⟩), undef, u8, u9, u10, u11, .pointer (some ⟨w.heap.size, 1, none⟩), .slice a2 i c2, .int .i64 (i : Int), .pointer (some ⟨w.heap.size, 1, none⟩), .slice a2 i c2, .int .i64 (i : Int), .int .i64 (i : Int), .bool false, u20, u21, u22, u23, u24, u25, u26, u27, u28, u29, u30, u31, u32, u33, u34, u35, u36, u37, u38, u39, u40, u41, u42, u43, u44, u45, u46, u47, u48, u49, u50, u51, u52, u53, u54, u55, u56, u57, u58, u59, v60, v61, v62, v63, v64, v65, v66, v67, v68, v69, undef, undef, undef, undef, undef, undef, undef, undef, undef], defers := [] } ∧ Below w.heap.size w w' ∧ w'.heap[w.heap.size]? = some (Obj.cells #[.slice a1 256 c1, .slice a2 i c2, .slice a3 i c3] 25 (0, 0)) ∧ w'.heap[w.heap.size + 1]? = some (Obj.cells #[.slice none 0 0, .slice none 0 0] 50 (0, 0)) ∧ (b 0 = true → v60 = .pointer (some ⟨w.heap.size + 1 + 1, 0, none⟩)) ∧ (b 1 = true → v61 = .slice sa i sc) ∧ (b 2 = true → v62 = .int .i64 (i : Int)) ∧ (b 3 = true → b 8 = false → ∃ g : Nat, v63 = .slice (some ⟨g, 0, none⟩) 1 1 ∧ w'.heap[g]? = some (Obj.cells #[.int .i64 (i : Int)] 3 (0, 0))) ∧ (b 4 = true → v64 = .slice ab m cb) ∧ (b 5 = true → v65 = .int .i64 (m : Int)) ∧ (b 6 = true → v66 = .slice (some ⟨g6, 0, none⟩) m m ∧ (b 8 = false → IB w' g6 (List.replicate m (i : Int)) ∧ w.heap.size ≤ g6)) ∧ (b 7 = true → b 8 = false → ∃ g : Nat, v67 = .slice (some ⟨g, 0, none⟩) 1 1 ∧ w'.heap[g]? = some (Obj.cells #[.slice (some ⟨g6, 0, none⟩) m m] 22 (0, 0))) ∧ (b 8 = true → ∃ (a : Option Addr) (c : Nat), v68 = .slice a (i + 1) c) ∧ (b 9 = true → v69 = .pointer (some ⟨w.heap.size + 1 + 1, 0, none⟩)) ∧ (b 8 = false → OR w' w.heap.size (.slice sa i sc) rv) ∧ (b 8 = true → OR w' w.heap.size v68 (rv ++ [(g6, List.replicate m (i : Int))])) ∧ (b 10 = false → w'.heap[w.heap.size + 1 + 1]? = some (Obj.cells #[.slice sa i sc, .slice none 0 0] 50 (0, 0))) ∧ (b 10 = true → w'.heap[w.heap.size + 1 + 1]? = some (Obj.cells #[v68, .slice none 0 0] 50 (0, 0))) ∧ (b 1 = true → b 0 = true) ∧ (b 3 = true → b 2 = true) ∧ (b 5 = true → b 4 = true) ∧ (b 6 = true → b 3 = true) ∧ (b 6 = true → b 5 = true) ∧ (b 7 = true → b 6 = true) ∧ (b 8 = true → b 1 = true) ∧ (b 8 = true → b 7 = true) ∧ (b 10 = true → b 9 = true) ∧ (b 10 = true → b 8 = true)) (by kernel_rfl) (back_of (by kernel_rfl)) ?step ?done ?init
      case step =>
        rintro b a' w' i o ho ⟨v60, v61, v62, v63, v64, v65, v66, v67, v68, v69, g6, rfl, hk, hx0, hx1, h0, h1, h2, h3, h4, h5, h6, h7, h8, h9, so, sn, to, tn, q1_0, q3_2, q5_4, q6_3, q6_5, q7_6, q8_1, q8_7, q10_9, q10_8⟩ hbi hd K hK
        have hlt : i < 11 := by have := (Array.getElem?_eq_some_iff.1 ho).1; simpa using this
        have dep : ∀ k, (o.after.any fun e => Region.binds .any e && e.on == k) = true → b k = true := fun k hk => by
          obtain ⟨e, he, h⟩ := Array.any_eq_true'.1 hk
          simp only [Bool.and_eq_true, beq_iff_eq] at h
          rw [← h.2]; exact hd e he h.1
        clear hd
        have hi : i = 0 ∨ i = 1 ∨ i = 2 ∨ i = 3 ∨ i = 4 ∨ i = 5 ∨ i = 6 ∨ i = 7 ∨ i = 8 ∨ i = 9 ∨ i = 10 := by omega
        clear hlt
        rcases hi with rfl | rfl | rfl | rfl | rfl | rfl | rfl | rfl | rfl | rfl | rfl
        · simp only [List.getElem?_toArray, List.getElem?_cons_zero, List.getElem?_cons_succ, Option.some.injEq] at ho
          subst ho
          go_simp
          refine hK.out _ _ ⟨_, _, _, _, _, _, _, _, _, _, g6, rfl, hk, hx0, hx1, fun _ => rfl, fun h => h1 (by simpa using h), fun h => h2 (by simpa using h), fun h k9 => h3 (by simpa using h) (by simpa using k9), fun h => h4 (by simpa using h), fun h => h5 (by simpa using h), fun h => ⟨(h6 (by simpa using h)).1, fun k9 => (h6 (by simpa using h)).2 (by simpa using k9)⟩, fun h k9 => h7 (by simpa using h) (by simpa using k9), fun h => h8 (by simpa using h), fun h => h9 (by simpa using h), fun h => so (by simpa using h), fun h => sn (by simpa using h), fun h => to (by simpa using h), fun h => tn (by simpa using h), fun h => by simp [q1_0 (by simpa using h)], fun h => by simp [q3_2 (by simpa using h)], fun h => by simp [q5_4 (by simpa using h)], fun h => by simp [q6_3 (by simpa using h)], fun h => by simp [q6_5 (by simpa using h)], fun h => by simp [q7_6 (by simpa using h)], fun h => by simp [q8_1 (by simpa using h)], fun h => by simp [q8_7 (by simpa using h)], fun h => by simp [q10_9 (by simpa using h)], fun h => by simp [q10_8 (by simpa using h)]⟩
        · simp only [List.getElem?_toArray, List.getElem?_cons_zero, List.getElem?_cons_succ, Option.some.injEq] at ho
          subst ho
          have e_0 := dep 0 (by kernel_rfl)
          obtain rfl := h0 e_0
          have n10 : b 10 = false := by
            cases hb : b 10
            · rfl
            · have := q8_1 (q10_8 hb); rw [hbi] at this; cases this
          obtain ⟨e0, e1⟩ := cells2 (to n10)
          go_simp
          refine hK.out _ _ ⟨_, _, _, _, _, _, _, _, _, _, g6, rfl, hk, hx0, hx1, fun _ => rfl, fun _ => rfl, fun h => h2 (by simpa using h), fun h k9 => h3 (by simpa using h) (by simpa using k9), fun h => h4 (by simpa using h), fun h => h5 (by simpa using h), fun h => ⟨(h6 (by simpa using h)).1, fun k9 => (h6 (by simpa using h)).2 (by simpa using k9)⟩, fun h k9 => h7 (by simpa using h) (by simpa using k9), fun h => h8 (by simpa using h), fun h => h9 (by simpa using h), fun h => so (by simpa using h), fun h => sn (by simpa using h), fun h => to (by simpa using h), fun h => tn (by simpa using h), fun _ => by simp [e_0], fun h => by simp [q3_2 (by simpa using h)], fun h => by simp [q5_4 (by simpa using h)], fun h => by simp [q6_3 (by simpa using h)], fun h => by simp [q6_5 (by simpa using h)], fun h => by simp [q7_6 (by simpa using h)], fun h => by simp [q8_1 (by simpa using h)], fun h => by simp [q8_7 (by simpa using h)], fun h => by simp [q10_9 (by simpa using h)], fun h => by simp [q10_8 (by simpa using h)]⟩
        · simp only [List.getElem?_toArray, List.getElem?_cons_zero, List.getElem?_cons_succ, Option.some.injEq] at ho
          subst ho
          go_simp
          refine hK.out _ _ ⟨_, _, _, _, _, _, _, _, _, _, g6, rfl, hk, hx0, hx1, fun h => h0 (by simpa using h), fun h => h1 (by simpa using h), fun _ => rfl, fun h k9 => h3 (by simpa using h) (by simpa using k9), fun h => h4 (by simpa using h), fun h => h5 (by simpa using h), fun h => ⟨(h6 (by simpa using h)).1, fun k9 => (h6 (by simpa using h)).2 (by simpa using k9)⟩, fun h k9 => h7 (by simpa using h) (by simpa using k9), fun h => h8 (by simpa using h), fun h => h9 (by simpa using h), fun h => so (by simpa using h), fun h => sn (by simpa using h), fun h => to (by simpa using h), fun h => tn (by simpa using h), fun h => by simp [q1_0 (by simpa using h)], fun h => by simp [q3_2 (by simpa using h)], fun h => by simp [q5_4 (by simpa using h)], fun h => by simp [q6_3 (by simpa using h)], fun h => by simp [q6_5 (by simpa using h)], fun h => by simp [q7_6 (by simpa using h)], fun h => by simp [q8_1 (by simpa using h)], fun h => by simp [q8_7 (by simpa using h)], fun h => by simp [q10_9 (by simpa using h)], fun h => by simp [q10_8 (by simpa using h)]⟩
        · simp only [List.getElem?_toArray, List.getElem?_cons_zero, List.getElem?_cons_succ, Option.some.injEq] at ho
          subst ho
          have e_2 := dep 2 (by kernel_rfl)
          obtain rfl := h2 e_2
          have n8 : b 8 = false := by
            cases hb : b 8
            · rfl
            · have := q6_3 (q7_6 (q8_7 hb)); rw [hbi] at this; cases this
          have b5 := bel1 w' (Obj.cells #[.int .i64 (i : Int)] 3)
          go_simp
          refine hK.out _ _ ⟨_, _, _, _, _, _, _, _, _, _, g6, rfl, hk.trans (b5.mono hk.size), (b5.block _ (heap_lt hx0)).trans hx0, (b5.block _ (heap_lt hx1)).trans hx1, fun h => h0 (by simpa using h), fun h => h1 (by simpa using h), fun _ => rfl, fun _ _ => ⟨w'.heap.size, rfl, alloc_new _ _⟩, fun h => h4 (by simpa using h), fun h => h5 (by simpa using h), fun h => absurd (q6_3 (by simpa using h)) (by simp [hbi]), fun h => absurd (q6_3 (q7_6 (by simpa using h))) (by simp [hbi]), fun h => h8 (by simpa using h), fun h => h9 (by simpa using h), fun h => ((so (by simpa using h))).keep b5, fun h => absurd h (by simp [n8]), fun h => (b5.block _ (heap_lt ((to (by simpa using h))))).trans ((to (by simpa using h))), fun h => (b5.block _ (heap_lt ((tn (by simpa using h))))).trans ((tn (by simpa using h))), fun h => by simp [q1_0 (by simpa using h)], fun _ => by simp [e_2], fun h => by simp [q5_4 (by simpa using h)], fun h => by simp [q6_3 (by simpa using h)], fun h => by simp [q6_5 (by simpa using h)], fun h => by simp [q7_6 (by simpa using h)], fun h => by simp [q8_1 (by simpa using h)], fun h => by simp [q8_7 (by simpa using h)], fun h => by simp [q10_9 (by simpa using h)], fun h => by simp [q10_8 (by simpa using h)]⟩
        · simp only [List.getElem?_toArray, List.getElem?_cons_zero, List.getElem?_cons_succ, Option.some.injEq] at ho
          subst ho
          go_simp
          refine hK.out _ _ ⟨_, _, _, _, _, _, _, _, _, _, g6, rfl, hk, hx0, hx1, fun h => h0 (by simpa using h), fun h => h1 (by simpa using h), fun h => h2 (by simpa using h), fun h k9 => h3 (by simpa using h) (by simpa using k9), fun _ => rfl, fun h => h5 (by simpa using h), fun h => ⟨(h6 (by simpa using h)).1, fun k9 => (h6 (by simpa using h)).2 (by simpa using k9)⟩, fun h k9 => h7 (by simpa using h) (by simpa using k9), fun h => h8 (by simpa using h), fun h => h9 (by simpa using h), fun h => so (by simpa using h), fun h => sn (by simpa using h), fun h => to (by simpa using h), fun h => tn (by simpa using h), fun h => by simp [q1_0 (by simpa using h)], fun h => by simp [q3_2 (by simpa using h)], fun h => by simp [q5_4 (by simpa using h)], fun h => by simp [q6_3 (by simpa using h)], fun h => by simp [q6_5 (by simpa using h)], fun h => by simp [q7_6 (by simpa using h)], fun h => by simp [q8_1 (by simpa using h)], fun h => by simp [q8_7 (by simpa using h)], fun h => by simp [q10_9 (by simpa using h)], fun h => by simp [q10_8 (by simpa using h)]⟩
        · simp only [List.getElem?_toArray, List.getElem?_cons_zero, List.getElem?_cons_succ, Option.some.injEq] at ho
          subst ho
          have e_4 := dep 4 (by kernel_rfl)
          obtain rfl := h4 e_4
          go_simp
          refine hK.out _ _ ⟨_, _, _, _, _, _, _, _, _, _, g6, rfl, hk, hx0, hx1, fun h => h0 (by simpa using h), fun h => h1 (by simpa using h), fun h => h2 (by simpa using h), fun h k9 => h3 (by simpa using h) (by simpa using k9), fun _ => rfl, fun _ => rfl, fun h => ⟨(h6 (by simpa using h)).1, fun k9 => (h6 (by simpa using h)).2 (by simpa using k9)⟩, fun h k9 => h7 (by simpa using h) (by simpa using k9), fun h => h8 (by simpa using h), fun h => h9 (by simpa using h), fun h => so (by simpa using h), fun h => sn (by simpa using h), fun h => to (by simpa using h), fun h => tn (by simpa using h), fun h => by simp [q1_0 (by simpa using h)], fun h => by simp [q3_2 (by simpa using h)], fun _ => by simp [e_4], fun h => by simp [q6_3 (by simpa using h)], fun h => by simp [q6_5 (by simpa using h)], fun h => by simp [q7_6 (by simpa using h)], fun h => by simp [q8_1 (by simpa using h)], fun h => by simp [q8_7 (by simpa using h)], fun h => by simp [q10_9 (by simpa using h)], fun h => by simp [q10_8 (by simpa using h)]⟩
        · simp only [List.getElem?_toArray, List.getElem?_cons_zero, List.getElem?_cons_succ, Option.some.injEq] at ho
          subst ho
          have e_3 := dep 3 (by kernel_rfl)
          have e_5 := dep 5 (by kernel_rfl)
          have e_2 := q3_2 e_3
          have e_4 := q5_4 e_5
          obtain rfl := h2 e_2
          obtain rfl := h4 e_4
          obtain rfl := h5 e_5
          have n8 : b 8 = false := by
            cases hb : b 8
            · rfl
            · have := q7_6 (q8_7 hb); rw [hbi] at this; cases this
          obtain ⟨g3, rfl, hg3⟩ := h3 e_3 n8
          have CC := hid (CR.out _ g3 hg3)
          go_simp
          refine CC.out.mono ?_
          rintro e W5 ⟨⟨g5, rfl, g7, g8⟩, b5⟩
          rw [List.length_replicate]
          refine hK.out _ _ ⟨_, _, _, _, _, _, _, _, _, _, g5, rfl, hk.trans (b5.mono hk.size), (b5.block _ (heap_lt hx0)).trans hx0, (b5.block _ (heap_lt hx1)).trans hx1, fun h => h0 (by simpa using h), fun h => h1 (by simpa using h), fun _ => rfl, fun _ _ => ⟨g3, rfl, (b5.block _ (heap_lt hg3)).trans hg3⟩, fun _ => rfl, fun _ => rfl, fun _ => ⟨rfl, fun _ => ⟨g7, Nat.le_trans hk.size g8⟩⟩, fun h => absurd (q7_6 (by simpa using h)) (by simp [hbi]), fun h => h8 (by simpa using h), fun h => h9 (by simpa using h), fun h => ((so (by simpa using h))).keep b5, fun h => absurd h (by simp [n8]), fun h => (b5.block _ (heap_lt ((to (by simpa using h))))).trans ((to (by simpa using h))), fun h => (b5.block _ (heap_lt ((tn (by simpa using h))))).trans ((tn (by simpa using h))), fun h => by simp [q1_0 (by simpa using h)], fun h => by simp [q3_2 (by simpa using h)], fun h => by simp [q5_4 (by simpa using h)], fun _ => by simp [e_3], fun _ => by simp [e_5], fun h => by simp [q7_6 (by simpa using h)], fun h => by simp [q8_1 (by simpa using h)], fun h => by simp [q8_7 (by simpa using h)], fun h => by simp [q10_9 (by simpa using h)], fun h => by simp [q10_8 (by simpa using h)]⟩
        · simp only [List.getElem?_toArray, List.getElem?_cons_zero, List.getElem?_cons_succ, Option.some.injEq] at ho
          subst ho
          have e_6 := dep 6 (by kernel_rfl)
          have e_3 := q6_3 e_6
          have e_5 := q6_5 e_6
          have e_2 := q3_2 e_3
          have e_4 := q5_4 e_5
          obtain rfl := h2 e_2
          obtain rfl := h4 e_4
          obtain rfl := h5 e_5
          obtain ⟨rfl, g66⟩ := (h6 e_6)
          have n8 : b 8 = false := by
            cases hb : b 8
            · rfl
            · have := q8_7 hb; rw [hbi] at this; cases this
          have b5 := bel1 w' (Obj.cells #[.slice (some ⟨g6, 0, none⟩) m m] 22)
          go_simp
          refine hK.out _ _ ⟨_, _, _, _, _, _, _, _, _, _, g6, rfl, hk.trans (b5.mono hk.size), (b5.block _ (heap_lt hx0)).trans hx0, (b5.block _ (heap_lt hx1)).trans hx1, fun h => h0 (by simpa using h), fun h => h1 (by simpa using h), fun _ => rfl, fun h => fun k9 => (by obtain ⟨g, g1, g2⟩ := (h3 (by simpa using h)) (by simpa using k9); exact ⟨g, g1, (b5.block _ (heap_lt g2)).trans g2⟩), fun _ => rfl, fun _ => rfl, fun _ => ⟨rfl, fun _ => ⟨(g66 n8).1.keep b5, (g66 n8).2⟩⟩, fun _ _ => ⟨w'.heap.size, rfl, alloc_new _ _⟩, fun h => h8 (by simpa using h), fun h => h9 (by simpa using h), fun h => ((so (by simpa using h))).keep b5, fun h => absurd h (by simp [n8]), fun h => (b5.block _ (heap_lt ((to (by simpa using h))))).trans ((to (by simpa using h))), fun h => (b5.block _ (heap_lt ((tn (by simpa using h))))).trans ((tn (by simpa using h))), fun h => by simp [q1_0 (by simpa using h)], fun h => by simp [q3_2 (by simpa using h)], fun h => by simp [q5_4 (by simpa using h)], fun h => by simp [q6_3 (by simpa using h)], fun h => by simp [q6_5 (by simpa using h)], fun _ => by simp [e_6], fun h => by simp [q8_1 (by simpa using h)], fun h => by simp [q8_7 (by simpa using h)], fun h => by simp [q10_9 (by simpa using h)], fun h => by simp [q10_8 (by simpa using h)]⟩
        · simp only [List.getElem?_toArray, List.getElem?_cons_zero, List.getElem?_cons_succ, Option.some.injEq] at ho
          subst ho
          have e_1 := dep 1 (by kernel_rfl)
          have e_7 := dep 7 (by kernel_rfl)
          have e_0 := q1_0 e_1
          have e_6 := q7_6 e_7
          have e_3 := q6_3 e_6
          have e_5 := q6_5 e_6
          have e_2 := q3_2 e_3
          have e_4 := q5_4 e_5
          obtain rfl := h0 e_0
          obtain rfl := h1 e_1
          obtain rfl := h2 e_2
          obtain rfl := h4 e_4
          obtain rfl := h5 e_5
          obtain ⟨rfl, g66⟩ := (h6 e_6)
          have n10 : b 10 = false := by
            cases hb : b 10
            · rfl
            · have := q10_8 hb; rw [hbi] at this; cases this
          obtain ⟨g9, rfl, hg9⟩ := h7 e_7 hbi
          obtain ⟨g6a, g6b⟩ := g66 hbi
          have hO := so hbi
          refine step_append_lies _ (by rfl) (.tmp 61) (.tmp 67) 23 (by rfl) w.heap.size 22 j0 _ 1 24 Try.underlying23 hj hy0 hy1 hy2 (by rfl) (by decide) (.slice sa i sc) i _ (by rfl) (by have h9 := hO.1; rw [HRL.out] at h9; exact h9) ⟨g9, 0, none⟩ 1 1 [.slice (some ⟨g6, 0, none⟩) m m] (by rfl) (by rfl) (World.news_of_block hg9) (by intro u hu; simp at hu; subst hu; rfl) (by decide) (by unfold maxLen; omega) (by omega) (by exact hk.size) _ rfl ?_
          intro g5 cap5 w5 hown' hgrow hat _
          have hkp : ∀ (k : Nat) (c : Array Value) (t : Nat), t ≠ 22 → w'.heap[k]? = some (Obj.cells c t (0, 0)) → w5.heap[k]? = some (Obj.cells c t (0, 0)) := fun k c t ht hk9 => (hgrow.block k (heap_lt hk9) (fun e => own_ne_block hO.1 hk9 (fun e => ht e.symm) e.symm)).trans hk9
          have hb5 : Below w.heap.size w w5 := ⟨hgrow.os.trans hk.os, hgrow.tape.trans hk.tape, hgrow.output.trans hk.output, Nat.le_trans hk.size hgrow.size, fun k hk9 => (hgrow.block k (by have := hk.size; omega) (fun e => by have := (hO.1.lt k e.symm).1; omega)).trans (hk.block k hk9)⟩
          have hO5 : OR w5 w.heap.size (.slice (some ⟨g5, 0, none⟩) (i + 1) cap5) (rv ++ [(g6, List.replicate m (i : Int))]) := by
            refine ⟨by rw [List.length_append, List.map_append, HRL.out]; simpa [rvv] using hown', fun p hp => ?_⟩
            rcases List.mem_append.1 hp with hp | hp
            · exact ⟨hkp _ _ 3 (by decide) (hO.2 p hp).1, (hO.2 p hp).2⟩
            · simp only [List.mem_singleton] at hp
              subst hp
              exact ⟨hkp _ _ 3 (by decide) g6a, g6b⟩
          refine hK.out _ _ ⟨_, _, _, _, _, _, _, _, _, _, g6, rfl, hb5, hkp _ _ 25 (by decide) hx0, hkp _ _ 50 (by decide) hx1, fun _ => rfl, fun _ => rfl, fun _ => rfl, fun _ h => absurd h (by simp), fun _ => rfl, fun _ => rfl, fun _ => ⟨rfl, fun h => absurd h (by simp)⟩, fun _ h => absurd h (by simp), fun _ => ⟨_, _, rfl⟩, fun h => h9 (by simpa using h), fun h => absurd h (by simp), fun _ => hO5, fun _ => hkp _ _ 50 (by decide) (to n10), fun h => absurd h (by simp [n10]), fun h => by simp [q1_0 (by simpa using h)], fun h => by simp [q3_2 (by simpa using h)], fun h => by simp [q5_4 (by simpa using h)], fun h => by simp [q6_3 (by simpa using h)], fun h => by simp [q6_5 (by simpa using h)], fun h => by simp [q7_6 (by simpa using h)], fun _ => by simp [e_1], fun _ => by simp [e_7], fun h => by simp [q10_9 (by simpa using h)], fun h => by simp [q10_8 (by simpa using h)]⟩
        · simp only [List.getElem?_toArray, List.getElem?_cons_zero, List.getElem?_cons_succ, Option.some.injEq] at ho
          subst ho
          go_simp
          refine hK.out _ _ ⟨_, _, _, _, _, _, _, _, _, _, g6, rfl, hk, hx0, hx1, fun h => h0 (by simpa using h), fun h => h1 (by simpa using h), fun h => h2 (by simpa using h), fun h k9 => h3 (by simpa using h) (by simpa using k9), fun h => h4 (by simpa using h), fun h => h5 (by simpa using h), fun h => ⟨(h6 (by simpa using h)).1, fun k9 => (h6 (by simpa using h)).2 (by simpa using k9)⟩, fun h k9 => h7 (by simpa using h) (by simpa using k9), fun h => h8 (by simpa using h), fun _ => rfl, fun h => so (by simpa using h), fun h => sn (by simpa using h), fun h => to (by simpa using h), fun h => tn (by simpa using h), fun h => by simp [q1_0 (by simpa using h)], fun h => by simp [q3_2 (by simpa using h)], fun h => by simp [q5_4 (by simpa using h)], fun h => by simp [q6_3 (by simpa using h)], fun h => by simp [q6_5 (by simpa using h)], fun h => by simp [q7_6 (by simpa using h)], fun h => by simp [q8_1 (by simpa using h)], fun h => by simp [q8_7 (by simpa using h)], fun h => by simp [q10_9 (by simpa using h)], fun h => by simp [q10_8 (by simpa using h)]⟩
        · simp only [List.getElem?_toArray, List.getElem?_cons_zero, List.getElem?_cons_succ, Option.some.injEq] at ho
          subst ho
          have e_9 := dep 9 (by kernel_rfl)
          have e_8 := dep 8 (by kernel_rfl)
          have e_1 := q8_1 e_8
          have e_7 := q8_7 e_8
          have e_0 := q1_0 e_1
          have e_6 := q7_6 e_7
          have e_3 := q6_3 e_6
          have e_5 := q6_5 e_6
          have e_2 := q3_2 e_3
          have e_4 := q5_4 e_5
          obtain rfl := h0 e_0
          obtain rfl := h1 e_1
          obtain rfl := h2 e_2
          obtain rfl := h4 e_4
          obtain rfl := h5 e_5
          obtain ⟨rfl, g66⟩ := (h6 e_6)
          obtain rfl := h9 e_9
          have hto := to hbi
          have hsn := sn e_8
          obtain ⟨a7, c7, rfl⟩ := h8 e_8
          have hf0 := Go.Frame.free hto 0
          obtain ⟨e0, e1⟩ := cells2 hto
          go_simp
          refine hK.out _ _ ⟨_, _, _, _, _, _, _, _, _, _, g6, rfl, below_put hk (by omega), blk_set hx0 (by show w.heap.size ≠ w.heap.size + 1 + 1; omega), blk_set hx1 (by show w.heap.size + 1 ≠ w.heap.size + 1 + 1; omega), fun _ => rfl, fun _ => rfl, fun _ => rfl, fun _ h => absurd h (by simp [e_8]), fun _ => rfl, fun _ => rfl, fun h9 => ⟨(h6 (q7_6 (q8_7 e_8))).1, fun h => absurd h (by simp [e_8])⟩, fun _ h => absurd h (by simp [e_8]), fun _ => ⟨_, _, rfl⟩, fun _ => rfl, fun h => absurd h (by simp [e_8]), fun _ => hsn.put hto (by decide) (.inl (by decide)), fun h => absurd h (by simp), fun _ => (blk_put hto).trans rfl, fun h => by simp [q1_0 (by simpa using h)], fun h => by simp [q3_2 (by simpa using h)], fun h => by simp [q5_4 (by simpa using h)], fun h => by simp [q6_3 (by simpa using h)], fun h => by simp [q6_5 (by simpa using h)], fun h => by simp [q7_6 (by simpa using h)], fun h => by simp [q8_1 (by simpa using h)], fun h => by simp [q8_7 (by simpa using h)], fun _ => by simp [e_9], fun _ => by simp [e_8]⟩
      case done =>
        rintro b a' w' ⟨v60, v61, v62, v63, v64, v65, v66, v67, v68, v69, g6, rfl, hk, hx0, hx1, h0, h1, h2, h3, h4, h5, h6, h7, h8, h9, so, sn, to, tn, q1_0, q3_2, q5_4, q6_3, q6_5, q7_6, q8_1, q8_7, q10_9, q10_8⟩ hall
        obtain rfl := h0 (hall 0)
        obtain rfl := h1 (hall 1)
        obtain rfl := h2 (hall 2)
        obtain rfl := h4 (hall 4)
        obtain rfl := h5 (hall 5)
        obtain rfl := h9 (hall 9)
        obtain ⟨rfl, _⟩ := h6 (hall 6)
        obtain ⟨a7, c7, rfl⟩ := h8 (hall 8)
        have HD := hid (And.intro hk (And.intro hx0 (And.intro hx1 (And.intro (sn (hall 8)) (tn (hall 10))))))
        have hf2 := cells3 hx0
        obtain ⟨d0, d1, d2⟩ := hf2
        obtain ⟨e0, e1⟩ := cells2 (tn (hall 10))
        clear h0 h1 h2 h3 h4 h5 h6 h7 h8 h9 so sn to tn hk hx0 hx1 hall q1_0 q3_2 q5_4 q6_3 q6_5 q7_6 q8_1 q8_7 q10_9 q10_8
        obtain ⟨w1, hw1⟩ : ∃ w1, w1 = w' := ⟨_, rfl⟩
        rw [← hw1] at HD d0 d1 d2 e0 e1 ⊢
        clear hw1
        have hacc := HV.out.2.1.acc.below HD.out.1
        obtain ⟨b3, o3, x3, rfl, hb3, _, _⟩ := int_at hacc (show 0 < i by omega)
        have hacc3 := fun j x => (hacc.2.resolve_left (by omega)).elim fun b9 h9 => h9.elim fun o9 h8 => (by
          obtain ⟨e9, _, h7⟩ := h8
          simp only [Option.some.injEq, Addr.mk.injEq, and_true] at e9
          obtain ⟨rfl, rfl⟩ := e9
          exact h7 j x : (D.acc.map iv)[j]? = some x → w1.cell? ⟨b3, o3 + j, none⟩ = some x)
        have hal := HV.out.1.al
        clear hacc
        go_upto_region 17 with fail
        go_wp2_with (at_builtin; refine wpList_append_own _ rfl (.tmp 71) (.tmp 73) 22 rfl w1.heap.size 3 i0 (.int .i64 0) 1 8 Try.underlying22 hi hz0 hz1 hz2 rfl (by decide) (.slice none 0 0) 0 [] (by rfl) (World.ownsRow_nil _ _ _ _) ⟨b3, o3, none⟩ i c3 (D.acc.map iv) rfl ?d0 ?d1 ?d2 ?d3 ?d4 ?d5 ?_)
        case d0 => simp [hal]
        case d1 => exact fun j u hj => by rw [addr_add]; exact hacc3 j u hj
        case d2 => intro u hu; obtain ⟨y, _, rfl⟩ := List.mem_map.1 hu; rfl
        case d3 => unfold maxLen; omega
        case d4 => omega
        case d5 => exact Nat.le_refl _
        intro v' w2 hown2 hgrow2 _
        have hb2 : Below w1.heap.size w1 w2 := (Below.refl _ w1).grown hgrow2 (Nat.le_refl _) (fun k hk => by cases hk)
        obtain ⟨pa, pc, rfl⟩ := own_form hown2
        have HO2b := hid (And.intro hown2 hb2)
        clear hown2 hgrow2 hb2 hacc3
        go_wp2_with (at_builtin; refine wpList_append_own _ rfl (.tmp 74) (.tmp 75) 22 rfl w1.heap.size 3 i0 (.int .i64 0) 1 8 Try.underlying22 hi hz0 hz1 hz2 rfl (by decide) (.slice pa i pc) i _ (by rfl) (own_alloc HO2b.out.1 _) ⟨w2.heap.size, 0, none⟩ 1 1 [.int .i64 (-1)] rfl rfl ?f1 ?f2 ?f3 ?f4 ?f5 ?_)
        first | (case f1 => exact fun j u hj => one_cell _ _ _ _ _ hj) | skip
        first | (case f2 => first | rfl | (intro u hu; simp at hu; subst hu; rfl)) | skip
        first | (case f3 => unfold maxLen; omega) | skip
        first | (case f4 => omega) | skip
        first | (case f5 => (have := HO2b.out.2.size; simp; omega)) | skip
        intro v' w3 hown3 hgrow3 _
        have hb3 : Below w1.heap.size w1 w3 := (HO2b.out.2.alloc HO2b.out.2.size _).grown hgrow3 (by have := HO2b.out.2.size; simp; omega) (fun k hk => (HO2b.out.1.lt k hk).1)
        obtain ⟨qa, qc, rfl⟩ := own_form hown3
        have hac3 : Row w3 qa (i + 1) (((tb D by_).ac).map iv) := by
          have := own_row' hown3
          unfold tb
          rw [List.map_append]
          exact this
        have hO3 := HD.out.2.2.2.1.keep hb3
        have ht3 := (hb3.block _ (heap_lt HD.out.2.2.2.2)).trans HD.out.2.2.2.2
        have hr3 := (hb3.block _ (heap_lt HD.out.2.2.1)).trans HD.out.2.2.1
        have hf1 := Go.Frame.free ht3 1
        have ht4 := (blk_put (k := 1) (v := .slice qa (i + 1) qc) ht3)
        have hr4 := blk_set (a := ⟨w.heap.size + 1 + 1, 1, none⟩) (v := .slice qa (i + 1) qc) hr3 (by show w.heap.size + 1 ≠ w.heap.size + 1 + 1; omega)
        have hO4 := hO3.put (j := 1) (u := .slice qa (i + 1) qc) ht3 (by decide) (.inl (by decide))
        obtain ⟨k0, k1⟩ := cells2 ht3
        obtain ⟨m0, m1⟩ := cells2 (ht4.trans rfl)
        obtain ⟨n0, n1⟩ := cells2 hr4
        have hqa : ∀ b9 o9, qa = some ⟨b9, o9, none⟩ → b9 ≠ w.heap.size + 1 := fun b9 o9 e9 => by subst e9; have h5 := (hown3.lt b9 rfl).1; have h6 := heap_lt HD.out.2.2.1; omega
        obtain ⟨X, hX⟩ : ∃ X, X = w3.setCell ⟨w.heap.size + 1 + 1, 1, none⟩ (.slice qa (i + 1) qc) := ⟨_, rfl⟩
        have hac4 : Row X qa (i + 1) (((tb D by_).ac).map iv) := by
          obtain ⟨h5, h6⟩ := hac3
          refine ⟨h5, h6.imp id ?_⟩
          rintro ⟨b9, o9, rfl, hl9, h7⟩
          have hbl := hown3.lt b9 rfl
          refine ⟨b9, o9, rfl, by rw [hX]; simpa using hl9, fun j x hj => ?_⟩
          rw [hX, World.cell?_of_block (heap_setCell_other _ _ _ _ (by show b9 ≠ w.heap.size + 1 + 1; have := heap_lt HD.out.2.2.2.2; omega))]
          exact h7 j x hj
        have hbX : Below w.heap.size w X := by rw [hX]; exact below_put (HD.out.1.trans (hb3.mono HD.out.1.size)) (by omega)
        rw [← hX] at ht4 hr4 hO4 m0 m1 n0 n1
        have g0 := Go.Frame.free hr4 0
        have g1' := Go.Frame.free hr4 1
        have hr5 := (blk_put (k := 0) (v := .slice a7 (i + 1) c7) hr4)
        have hO6 := (hO4.put (j := 0) (u := .slice a7 (i + 1) c7) hr4 (by decide) (.inl (by decide))).put (j := 1) (u := .slice qa (i + 1) qc) hr5 (by decide) (.inl (by decide))
        have hac6 := row_put (j := 1) (u := .slice qa (i + 1) qc) (row_put (j := 0) (u := .slice a7 (i + 1) c7) hac4 hqa) hqa
        have hbX6 := below_put (j := 1) (u := .slice qa (i + 1) qc) (below_put (j := 0) (u := .slice a7 (i + 1) c7) hbX (show w.heap.size ≤ w.heap.size + 1 by omega)) (show w.heap.size ≤ w.heap.size + 1 by omega)
        have hr7 := blk_put (k := 1) (v := .slice qa (i + 1) qc) hr5
        obtain ⟨s0, s1⟩ := cells2 (hr7.trans rfl)
        have HZ := hid (And.intro hO6 (And.intro hac6 (And.intro hbX6 hr4)))
        have HY := hid HORV.out
        clear hr5 hO6 hac6 hbX6 hqa hr7
        clear hown3 hgrow3 hac3 hO3 hr3 ht4 hr4 hO4 hac4 hbX HO2 HX2
        go_upto_region 18 with fail
        rw [← hX]
        clear hX
        obtain ⟨p9, q9, hse, hR2⟩ := HZ.out.1.rows2 (fun p hp => by
          rcases List.mem_append.1 hp with hp | hp
          · have h9 : p.2 ∈ rv.map (·.2) := List.mem_map.2 ⟨p, hp, rfl⟩
            rw [HY.out] at h9
            obtain ⟨l9, hl9, e9⟩ := List.mem_map.1 h9
            obtain ⟨r9, _, rfl⟩ := List.mem_map.1 hl9
            rw [← e9, zs_len]
            simp [tbr, hml]; omega
          · simp only [List.mem_singleton] at hp
            subst hp
            simp; omega)
        have hnx : (rv ++ [(g6, List.replicate m (i : Int))]).map (·.2) = (tb D by_).nx.map zs := by
          rw [List.map_append, HY.out]
          unfold tb
          rw [List.map_append, List.take_of_length_le (by have := HV.out.1.hn; omega)]
          simp [zs_rep, hml, HV.out.1.hn]
        rw [hnx, List.length_append, HRL.out] at hR2
        rw [List.length_append, HRL.out] at hse
        simp only [Value.slice.injEq] at hse
        obtain ⟨rfl, -, rfl⟩ := hse
        have HR2 := hid hR2
        have HB2 := hid HZ.out.2.2.1
        have hn9 : ¬ w.heap.size + 1 = w.heap.size + 1 + 1 := by omega
        clear hR2 hnx HY HD HB HRL HORV
        go_wp2_with fail
        refine bodyPost_ret (v := .agg #[.slice a7 (i + 1) c7, .slice qa (i + 1) qc]) ?_ rfl ⟨⟨a7, c7, qa, qc, rfl, HR2.out, HZ.out.2.1⟩, HB2.out⟩
        simp [results, Try.results27, go_sem, s0, s1]
      case init =>
        exact ⟨_, _, _, _, _, _, _, _, _, _, 0, rfl, HB.out.1.drew, HB.out.2.1, HB.out.2.2.1, fun h => absurd h (by simp), fun h => absurd h (by simp), fun h => absurd h (by simp), fun h => absurd h (by simp), fun h => absurd h (by simp), fun h => absurd h (by simp), fun h => absurd h (by simp), fun h => absurd h (by simp), fun h => absurd h (by simp), fun h => absurd h (by simp), fun _ => HO2.out, fun h => absurd h (by simp), fun _ => HX2.out, fun h => absurd h (by simp), fun h => absurd h (by simp), fun h => absurd h (by simp), fun h => absurd h (by simp), fun h => absurd h (by simp), fun h => absurd h (by simp), fun h => absurd h (by simp), fun h => absurd h (by simp), fun h => absurd h (by simp), fun h => absurd h (by simp), fun h => absurd h (by simp)⟩
end Go.Proofs.Ytelbagaiijffdaa
