/-
  Contract: derive, but for deriveConcat.
  A round of a range leaves the deriver alone; PDC by places; what the kids that have come give.
-/
import Derived.Test.YtednoideboeehaaDoorZ20
import Derived.Test.YtednoideboeehaaDoorZ17
section
set_option linter.unusedSimpArgs false
set_option linter.unusedVariables false
namespace Go.Proofs.YtednoideboeehaaDoor
open Go.RowKit Bs Rg Go.Frame

/-- What stays through a derivation. -/
structure Env (N D m f base : Nat) : Prop where
  hN : N ≤ D ∧ N ≤ m ∧ N ≤ f ∧ N ≤ base
def DerRes (bt : UInt8) (D m f base : Nat) (T : List Nd) (F : List (List Rx)) (W : World) (pv : Value) (P : List Rx → Prop) (cost fc : Nat) (e : Ending) (w' : World) : Prop :=
  e = .returned (.tuple #[]) ∧ ∃ T' F' pv', DS w' D m f base (bt.toNat : Int) T' F' pv' ∧ T <+: T' ∧ (∀ u, u ∈ F' ↔ u ∈ F ∨ P u) ∧ T'.length ≤ T.length + cost ∧ F'.length ≤ F.length + fc ∧ Fr D m f W pv w' pv'
def DeriveSpec (bt : UInt8) (N D m f base : Nat) (x : Rx) : Prop := ∀ (W : World) (cs : List Value) (T : List Nd) (F : List (List Rx)) (pv : Value) (t : List Rx) (v : Value), RC (· < N) W x cs → LM N T W t v → DS W D m f base (bt.toNat : Int) T F pv → T.length + 10000000000000000 * depth x ≤ 1000000000000000000 → F.length + 10000000000 * depth x ≤ 1000000000000 → t.length + 10000000000 * depth x ≤ 1000000000000 → (∀ y ∈ t, parts y ≤ 1000000) →
  Calls Tryd.prog 49 #[.pointer (some ⟨D, 0, none⟩), .agg cs.toArray, v] W (DerRes bt D m f base T F W pv (PD bt x t) (2 * (parts x * parts x)) (parts x))
def ConcSpec (bt : UInt8) (N D m f base : Nat) (l : List Rx) : Prop := ∀ (W : World) (a : Option Addr) (n c : Nat) (T : List Nd) (F : List (List Rx)) (pv : Value) (t : List Rx) (v : Value), Kd (· < N) W a n l → LM N T W t v → DS W D m f base (bt.toNat : Int) T F pv → T.length + 10000000000000000 * (depthL l + 1) ≤ 1000000000000000000 → F.length + 10000000000 * (depthL l + 1) ≤ 1000000000000 → t.length + 10000000000 * (depthL l + 1) ≤ 1000000000000 → (∀ y ∈ t, parts y ≤ 1000000) →
  Calls Tryd.prog 72 #[.pointer (some ⟨D, 0, none⟩), .slice a n c, v] W (DerRes bt D m f base T F W pv (PDC bt l t) (2 * (partsL l + partsL l * partsL l)) (partsL l))

theorem DerRes.from {bt : UInt8} {D m f base : Nat} {T : List Nd} {F : List (List Rx)} {W V : World} {pv : Value} {P P' : List Rx → Prop} {cost cost' fc fc' : Nat} {e : Ending} {w' : World} (hb : Below W.heap.size W V) (hP : ∀ u, P u ↔ P' u) (hc : cost ≤ cost') (hfc : fc ≤ fc') (h : DerRes bt D m f base T F V pv P cost fc e w') : DerRes bt D m f base T F W pv P' cost' fc' e w' := by
  obtain ⟨h0, T', F', pv', h1, h2, h3, h4, h6, h5⟩ := h
  exact ⟨h0, T', F', pv', h1, h2, fun u => by rw [h3 u, hP u], by omega, by omega, (Fr.ofBelow hb).trans h5⟩
theorem sq_one (p : Nat) : (p + 1) * (p + 1) = p * p + p + (p + 1) := by rw [Nat.add_mul, Nat.mul_add]; omega
theorem sq_add (a b : Nat) : a * a + b * b ≤ (a + b) * (a + b) := by
  have : (a + b) * (a + b) = a * a + a * b + (b * a + b * b) := by rw [Nat.add_mul, Nat.mul_add, Nat.mul_add]
  omega
theorem Kd.fr {N : Nat} {D m f base : Nat} {bb : Int} {T : List Nd} {F : List (List Rx)} {W W' : World} {pv pv' : Value} {a : Option Addr} {n : Nat} {l : List Rx} (h : Kd (· < N) W a n l) (hf : Fr D m f W pv W' pv') (hd : DS W D m f base bb T F pv) (hN : N ≤ D ∧ N ≤ m ∧ N ≤ f ∧ N ≤ base) : Kd (· < N) W' a n l := by
  refine h.keep hf.md.size (fun k hk hl => hf.md.block k hl ?_) (fun _ h => h)
  have hk : k < N := hk
  rintro (e | e | e | e)
  · omega
  · omega
  · omega
  · have := (hd.row.own k e).1; omega

set_option maxRecDepth 100000 in
set_option maxHeartbeats 8000000 in
theorem derive_a {bt : UInt8} {N D m f base : Nat} (hE : Env N D m f base) {k : Int} {s : BS} {l : List Rx} (hkk : k = 1 ∨ k = 2 ∨ k = 3) (hv : Vd (.mk k s l)) (hp : parts (.mk k s l) ≤ 100000) (hC : k = 4 → ConcSpec bt N D m f base l) (ih : ∀ x ∈ l, DeriveSpec bt N D m f base x) : DeriveSpec bt N D m f base (.mk k s l) := by
  intro W cs T F pv t v h ht hd hT hF9 ht9 htp
  obtain ⟨pa, rfl⟩ := ht.ptr
  obtain ⟨a, n, c, rfl, hK⟩ := RC_mk.1 h
  have hdp := depth_pos (.mk k s l)
  have hdd : depth (.mk k s l) = depthL l + 1 := by rw [depth]
  have hsh := hv.shaped
  have hln := hK.len
  have hnl := hK.lt
  obtain ⟨V, hV⟩ : ∃ V, V = W.alloc (.cells #[.int .i64 k, .int .u64 (ws s 0 : Int), .int .u64 (ws s 1 : Int), .int .u64 (ws s 2 : Int), .int .u64 (ws s 3 : Int), .slice a n c] 27) := ⟨_, rfl⟩
  have bV : Below W.heap.size W V := by rw [hV]; exact bel1 _ _
  have x0 : V.heap[W.heap.size]? = some (.cells #[.int .i64 k, .int .u64 (ws s 0 : Int), .int .u64 (ws s 1 : Int), .int .u64 (ws s 2 : Int), .int .u64 (ws s 3 : Int), .slice a n c] 27 (0, 0)) := by rw [hV]; exact alloc_new _ _
  have HV := hid (And.intro (hK.below bV) (And.intro (ht.below bV) (And.intro (hd.below bV) (And.intro bV x0))))
  have HDW := hid hd
  have HP := hid (And.intro hE (And.intro hp (And.intro hdp (And.intro hT (And.intro hF9 (And.intro ht9 (And.intro htp hdd)))))))
  have HS := hid (And.intro hsh (And.intro hln hv))
  have CC := hid hC
  have IH := hid ih
  obtain ⟨c0, c1, c2, c3, c4, c5⟩ := cells6 x0
  clear hE hp hdp hT hF9 ht9 htp hdd hsh hln h ht hd hK hC ih bV x0 hv
  show Calls Tryd.prog 49 #[.pointer (some ⟨D, 0, none⟩), .agg #[.int .i64 k, .int .u64 (ws s 0 : Int), .int .u64 (ws s 1 : Int), .int .u64 (ws s 2 : Int), .int .u64 (ws s 3 : Int), .slice a n c], .pointer pa] W _
  rcases hkk with rfl | rfl | rfl
  · go_enter Tryd.func49, Tryd.ntmps49
    go_wp2_with fail
    rw [← hV]
    clear hV
    go_wp2_with fail
    go_end0
    exact ⟨rfl, T, F, pv, HV.out.2.2.1, List.prefix_rfl, fun u => by rw [PD_mk]; simp, by omega, by omega, Fr.ofBelow HV.out.2.2.2.1⟩
  · go_enter Tryd.func49, Tryd.ntmps49
    go_wp2_with fail
    rw [← hV]
    clear hV
    go_wp2_with fail
    go_end0
    exact ⟨rfl, T, F, pv, HV.out.2.2.1, List.prefix_rfl, fun u => by rw [PD_mk]; simp, by omega, by omega, Fr.ofBelow HV.out.2.2.2.1⟩
  · go_enter Tryd.func49, Tryd.ntmps49
    go_wp2_with fail
    rw [← hV]
    clear hV
    go_wp2_with fail
    refine region_inv (fun b a' w' => ∃ (v12 v13 v14 v15 v16 v17 v18 : Value), a' = { tmps := #[.pointer (some ⟨D, 0, none⟩), .agg #[.int .i64 3, .int .u64 (ws s 0 : Int), .int .u64 (ws s 1 : Int), .int .u64 (ws s 2 : Int), .int .u64 (ws s 3 : Int), .slice a n c], .pointer pa, undef, .pointer (some ⟨W.heap.size, 0, none⟩), undef, undef, undef, .pointer (some ⟨W.heap.size, 0, none⟩), .int .i64 3, .bool true, .bool true, v12, v13, v14, v15, v16, v17, v18, undef, undef, undef, undef, undef, undef, undef, undef, undef, undef, undef, undef, undef, undef, undef, undef, undef, undef, undef, undef, undef, undef, undef, undef, undef, undef, undef, undef, undef, undef, undef, undef, undef, undef, undef, undef], defers := [] } ∧ (b 0 = true → v12 = .pointer (some ⟨W.heap.size, 1, none⟩)) ∧ (b 1 = true → v13 = .agg #[.int .u64 (ws s 0 : Int), .int .u64 (ws s 1 : Int), .int .u64 (ws s 2 : Int), .int .u64 (ws s 3 : Int)]) ∧ (b 2 = true → v14 = .pointer (some ⟨D, 0, none⟩)) ∧ (b 3 = true → v15 = .pointer (some ⟨D, 0, none⟩)) ∧ (b 4 = true → v16 = .pointer (some ⟨D, 0, none⟩)) ∧ (b 5 = true → v17 = .int .u8 (bt.toNat : Int)) ∧ (b 6 = true → v18 = .bool (s bt)) ∧ Below V.heap.size V w') (by kernel_rfl) (back_of (by kernel_rfl)) ?step3 ?done3 ?init3
    case step3 =>
      rintro b a' w' i o ho ⟨v12, v13, v14, v15, v16, v17, v18, rfl, h0, h1, h2, h3, h4, h5, h6, hb⟩ hbi hd K hK
      have hlt : i < 7 := by have := (Array.getElem?_eq_some_iff.1 ho).1; simpa using this
      have dep : ∀ k, (o.after.any fun e => Region.binds .any e && e.on == k) = true → b k = true := fun k hk => by
        obtain ⟨e, he, h⟩ := Array.any_eq_true'.1 hk
        simp only [Bool.and_eq_true, beq_iff_eq] at h
        rw [← h.2]; exact hd e he h.1
      clear hd
      have hi : i = 0 ∨ i = 1 ∨ i = 2 ∨ i = 3 ∨ i = 4 ∨ i = 5 ∨ i = 6 := by omega
      clear hlt
      rcases hi with rfl | rfl | rfl | rfl | rfl | rfl | rfl
      · simp only [List.getElem?_toArray, List.getElem?_cons_zero, List.getElem?_cons_succ, Option.some.injEq] at ho
        subst ho
        go_simp
        refine hK.out _ _ ⟨_, _, _, _, _, _, _, rfl, fun _ => rfl, fun h => h1 (by simpa using h), fun h => h2 (by simpa using h), fun h => h3 (by simpa using h), fun h => h4 (by simpa using h), fun h => h5 (by simpa using h), fun h => h6 (by simpa using h), hb⟩
      · simp only [List.getElem?_toArray, List.getElem?_cons_zero, List.getElem?_cons_succ, Option.some.injEq] at ho
        subst ho
        obtain rfl := h0 (dep 0 (by kernel_rfl))
        obtain ⟨c0, c1, c2, c3, c4, c5⟩ := cells6 ((hb.block _ (heap_lt HV.out.2.2.2.2)).trans HV.out.2.2.2.2)
        go_simp
        refine hK.out _ _ ⟨_, _, _, _, _, _, _, rfl, fun h => h0 (by simpa using h), fun _ => rfl, fun h => h2 (by simpa using h), fun h => h3 (by simpa using h), fun h => h4 (by simpa using h), fun h => h5 (by simpa using h), fun h => h6 (by simpa using h), hb⟩
      · simp only [List.getElem?_toArray, List.getElem?_cons_zero, List.getElem?_cons_succ, Option.some.injEq] at ho
        subst ho
        go_simp
        refine hK.out _ _ ⟨_, _, _, _, _, _, _, rfl, fun h => h0 (by simpa using h), fun h => h1 (by simpa using h), fun _ => rfl, fun h => h3 (by simpa using h), fun h => h4 (by simpa using h), fun h => h5 (by simpa using h), fun h => h6 (by simpa using h), hb⟩
      · simp only [List.getElem?_toArray, List.getElem?_cons_zero, List.getElem?_cons_succ, Option.some.injEq] at ho
        subst ho
        obtain rfl := h2 (dep 2 (by kernel_rfl))
        go_simp
        refine hK.out _ _ ⟨_, _, _, _, _, _, _, rfl, fun h => h0 (by simpa using h), fun h => h1 (by simpa using h), fun h => h2 (by simpa using h), fun _ => rfl, fun h => h4 (by simpa using h), fun h => h5 (by simpa using h), fun h => h6 (by simpa using h), hb⟩
      · simp only [List.getElem?_toArray, List.getElem?_cons_zero, List.getElem?_cons_succ, Option.some.injEq] at ho
        subst ho
        obtain rfl := h3 (dep 3 (by kernel_rfl))
        go_simp
        refine hK.out _ _ ⟨_, _, _, _, _, _, _, rfl, fun h => h0 (by simpa using h), fun h => h1 (by simpa using h), fun h => h2 (by simpa using h), fun h => h3 (by simpa using h), fun _ => rfl, fun h => h5 (by simpa using h), fun h => h6 (by simpa using h), hb⟩
      · simp only [List.getElem?_toArray, List.getElem?_cons_zero, List.getElem?_cons_succ, Option.some.injEq] at ho
        subst ho
        obtain rfl := h4 (dep 4 (by kernel_rfl))
        obtain ⟨c0, c1, c2, c3⟩ := cells4 ((hb.block _ (heap_lt HV.out.2.2.1.db)).trans HV.out.2.2.1.db)
        go_simp
        refine hK.out _ _ ⟨_, _, _, _, _, _, _, rfl, fun h => h0 (by simpa using h), fun h => h1 (by simpa using h), fun h => h2 (by simpa using h), fun h => h3 (by simpa using h), fun h => h4 (by simpa using h), fun _ => rfl, fun h => h6 (by simpa using h), hb⟩
      · simp only [List.getElem?_toArray, List.getElem?_cons_zero, List.getElem?_cons_succ, Option.some.injEq] at ho
        subst ho
        obtain rfl := h1 (dep 1 (by kernel_rfl))
        obtain rfl := h5 (dep 5 (by kernel_rfl))
        have CH := hid (show Calls Tryd.prog 67 #[.agg #[.int .u64 (ws s 0 : Int), .int .u64 (ws s 1 : Int), .int .u64 (ws s 2 : Int), .int .u64 (ws s 3 : Int)], .int .u8 (bt.toNat : Int)] w' (fun e w2 => e = .returned (.bool (s bt)) ∧ Below w'.heap.size w' w2) from by rw [← lf_nat s bt]; exact Has_any (lf s) bt.toNat w' (by have := bt.toNat_lt; omega))
        go_simp
        refine CH.out.mono ?_
        rintro e w5 ⟨rfl, b5⟩
        refine hK.out _ _ ⟨_, _, _, _, _, _, _, rfl, fun h => h0 (by simpa using h), fun h => h1 (by simpa using h), fun h => h2 (by simpa using h), fun h => h3 (by simpa using h), fun h => h4 (by simpa using h), fun h => h5 (by simpa using h), fun _ => rfl, hb.trans (b5.mono hb.size)⟩
    case done3 =>
      rintro b a' w' ⟨v12, v13, v14, v15, v16, v17, v18, rfl, h0, h1, h2, h3, h4, h5, h6, hb⟩ hall
      obtain rfl := h6 (hall 6)
      clear h0 h1 h2 h3 h4 h5 h6 hall
      have hb3 := HV.out.2.2.2.1.trans (hb.mono HV.out.2.2.2.1.size)
      have hd3 := HV.out.2.2.1.below hb
      cases hsb : s bt with
      | false =>
        clear hb
        go_wp2_with fail
        go_end0
        exact ⟨rfl, T, F, pv, hd3, List.prefix_rfl, fun u => by rw [PD_mk]; simp [hsb], by omega, by omega, Fr.ofBelow hb3⟩
      | true =>
        have hPD : ∀ u, PD bt (.mk 3 s l) t u ↔ u = t := fun u => by rw [PD_mk]; simp [hsb]
        have CA := hid (add_any HP.out.1.hN hd3 (HV.out.2.1.below hb) HP.out.2.2.2.2.2.2.1 (by have := HP.out.2.2.2.2.2.1; omega) (by have := HP.out.2.2.2.2.1; omega))
        have HB := hid hb3
        clear hb hb3 hd3
        go_wp2_with fail
        refine CA.out.mono ?_
        rintro e w9 ⟨pv', F', rfl, hF', hds, hfr⟩
        have HE := hid (And.intro hF' (And.intro hds hfr))
        clear hF' hds hfr
        go_wp2_with fail
        go_end0
        refine ⟨rfl, T, F', pv', HE.out.2.1, List.prefix_rfl, fun u => ?_, by omega, ?_, (Fr.ofBelow HB.out).trans HE.out.2.2⟩
        rotate_left
        · have := parts_pos (.mk 3 s l)
          rcases HE.out.1 with ⟨_, h⟩ | ⟨_, h⟩ <;> rw [h] <;> simp <;> omega
        rw [hPD u]
        rcases HE.out.1 with ⟨h1, rfl⟩ | ⟨h1, rfl⟩
        · constructor
          · exact .inl
          · rintro (h | rfl)
            · exact h
            · exact h1
        · simp
    case init3 =>
      exact ⟨_, _, _, _, _, _, _, rfl, fun h => absurd h (by simp), fun h => absurd h (by simp), fun h => absurd h (by simp), fun h => absurd h (by simp), fun h => absurd h (by simp), fun h => absurd h (by simp), fun h => absurd h (by simp), (Below.refl _ _).drew⟩
set_option maxRecDepth 100000 in
set_option maxHeartbeats 8000000 in
theorem derive_b {bt : UInt8} {N D m f base : Nat} (hE : Env N D m f base) {k : Int} {s : BS} {l : List Rx} (hkk : k = 4 ∨ k = 5) (hv : Vd (.mk k s l)) (hp : parts (.mk k s l) ≤ 100000) (hC : k = 4 → ConcSpec bt N D m f base l) (ih : ∀ x ∈ l, DeriveSpec bt N D m f base x) : DeriveSpec bt N D m f base (.mk k s l) := by
  intro W cs T F pv t v h ht hd hT hF9 ht9 htp
  obtain ⟨pa, rfl⟩ := ht.ptr
  obtain ⟨a, n, c, rfl, hK⟩ := RC_mk.1 h
  have hdp := depth_pos (.mk k s l)
  have hdd : depth (.mk k s l) = depthL l + 1 := by rw [depth]
  have hsh := hv.shaped
  have hln := hK.len
  have hnl := hK.lt
  obtain ⟨V, hV⟩ : ∃ V, V = W.alloc (.cells #[.int .i64 k, .int .u64 (ws s 0 : Int), .int .u64 (ws s 1 : Int), .int .u64 (ws s 2 : Int), .int .u64 (ws s 3 : Int), .slice a n c] 27) := ⟨_, rfl⟩
  have bV : Below W.heap.size W V := by rw [hV]; exact bel1 _ _
  have x0 : V.heap[W.heap.size]? = some (.cells #[.int .i64 k, .int .u64 (ws s 0 : Int), .int .u64 (ws s 1 : Int), .int .u64 (ws s 2 : Int), .int .u64 (ws s 3 : Int), .slice a n c] 27 (0, 0)) := by rw [hV]; exact alloc_new _ _
  have HV := hid (And.intro (hK.below bV) (And.intro (ht.below bV) (And.intro (hd.below bV) (And.intro bV x0))))
  have HDW := hid hd
  have HP := hid (And.intro hE (And.intro hp (And.intro hdp (And.intro hT (And.intro hF9 (And.intro ht9 (And.intro htp hdd)))))))
  have HS := hid (And.intro hsh (And.intro hln hv))
  have CC := hid hC
  have IH := hid ih
  obtain ⟨c0, c1, c2, c3, c4, c5⟩ := cells6 x0
  clear hE hp hdp hT hF9 ht9 htp hdd hsh hln h ht hd hK hC ih bV x0 hv
  show Calls Tryd.prog 49 #[.pointer (some ⟨D, 0, none⟩), .agg #[.int .i64 k, .int .u64 (ws s 0 : Int), .int .u64 (ws s 1 : Int), .int .u64 (ws s 2 : Int), .int .u64 (ws s 3 : Int), .slice a n c], .pointer pa] W _
  rcases hkk with rfl | rfl
  · go_enter Tryd.func49, Tryd.ntmps49
    go_wp2_with fail
    rw [← hV]
    clear hV
    go_wp2_with fail
    refine (CC.out (by first | trivial | rfl) V a n c T F pv t (.pointer pa) HV.out.1 HV.out.2.1 HV.out.2.2.1 (by rw [← HP.out.2.2.2.2.2.2.2]; exact HP.out.2.2.2.1) (by rw [← HP.out.2.2.2.2.2.2.2]; exact HP.out.2.2.2.2.1) (by rw [← HP.out.2.2.2.2.2.2.2]; exact HP.out.2.2.2.2.2.1) HP.out.2.2.2.2.2.2.1).mono ?_
    rintro e w9 hres
    obtain ⟨rfl, _⟩ := id hres
    have HE := hid hres
    clear hres
    go_wp2_with fail
    go_end0
    refine HE.out.from HV.out.2.2.2.1 (fun u => ?_) ?_ (by rw [parts]; omega)
    · rw [PD_mk]; simp
    · rw [parts]
      have h1 : (partsL l + 1) * (partsL l + 1) = partsL l * partsL l + partsL l + (partsL l + 1) := by rw [Nat.add_mul, Nat.mul_add]; omega
      omega
  · go_enter Tryd.func49, Tryd.ntmps49
    go_wp2_with fail
    rw [← hV]
    clear hV
    go_wp2_with fail
    go_loopg [34] n (fun k1 s34 wr => ∃ (i : Nat) (T' : List Nd) (F' : List (List Rx)) (pv' : Value), s34 = .int .i64 (i : Int) ∧ i + k1 = n ∧ DS wr D m f base (bt.toNat : Int) T' F' pv' ∧ T <+: T' ∧ (∀ u, u ∈ F' ↔ u ∈ F ∨ PDU bt (l.take i) t u) ∧ T'.length ≤ T.length + 2 * (partsL (l.take i) * partsL (l.take i)) ∧ F'.length ≤ F.length + partsL (l.take i) ∧ Fr D m f V pv wr pv')
    case atStart => exact ⟨0, T, F, pv, rfl, by omega, HV.out.2.2.1, List.prefix_rfl, fun u => by rw [List.take_zero, PDU_nil]; simp, by omega, by omega, Fr.refl _ _ _ _ _⟩
    case round =>
      obtain ⟨i, T', F', pv', rfl, hk1, hds, hpre, hmem, hlen, hflen, hfr⟩ := hrel
      by_cases hlt : i < n
      · have hlt' : (i : Int) < (n : Int) := by omega
        obtain ⟨b0, off, k', s', l', a', n', c', rfl, hb0, hbl, hx, hK', q0, q1, q2, q3, q4, q5⟩ := (HV.out.1.fr hfr HV.out.2.2.1 HP.out.1.hN).get hlt
        have hxm := List.mem_of_getElem? hx
        have htk : l.take (i + 1) = l.take i ++ [.mk k' s' l'] := by rw [List.take_add_one, hx]; rfl
        have hpl : partsL (l.take (i + 1)) = partsL (l.take i) + parts (.mk k' s' l') := by rw [htk, partsL_append, partsL, partsL]; omega
        have hple : partsL (l.take (i + 1)) ≤ partsL l := by have h1 := @partsL_append (l.take (i + 1)) (l.drop (i + 1)); rw [List.take_append_drop] at h1; omega
        have hsq := sq_add (partsL (l.take i)) (parts (.mk k' s' l'))
        rw [← hpl] at hsq
        have hsq2 : partsL (l.take (i + 1)) * partsL (l.take (i + 1)) ≤ parts (.mk 5 s l) * parts (.mk 5 s l) := Nat.mul_le_mul (by rw [parts]; omega) (by rw [parts]; omega)
        have hdk : depth (.mk k' s' l') + 1 ≤ depth (.mk 5 s l) := by
          rw [HP.out.2.2.2.2.2.2.2]
          have := depthL_le.1 (Nat.le_refl (depthL l)) _ hxm; omega
        have hP5 : parts (.mk 5 s l) * parts (.mk 5 s l) ≤ 100000 * 100000 := Nat.mul_le_mul HP.out.2.1 HP.out.2.1
        have hpr5 : partsL l + 1 ≤ 100000 := by have := HP.out.2.1; rw [parts] at this; omega
        have hpre5 : partsL (l.take i) * partsL (l.take i) ≤ parts (.mk 5 s l) * parts (.mk 5 s l) := by have := parts_pos (.mk k' s' l'); exact Nat.le_trans (Nat.le_trans (Nat.le_add_right _ _) hsq) hsq2
        have CK := hid (fun (V' : World) (hV' : Below wr.heap.size wr V') => IH.out _ hxm V' (rcs k' s' (.slice a' n' c')) T' F' pv' t (.pointer pa) (RC_mk.2 ⟨_, _, _, rfl, hK'.below hV'⟩) ((HV.out.2.1.fr hfr HV.out.2.2.1 hpre HP.out.1.hN).below hV') (hds.below hV') (by have := HP.out.2.2.2.1; omega) (by have := HP.out.2.2.2.2.1; omega) (by have := HP.out.2.2.2.2.2.1; omega) HP.out.2.2.2.2.2.2.1)
        have HR := hid (And.intro hpre (And.intro hmem (And.intro hlen (And.intro hflen (And.intro hfr (And.intro htk (And.intro hpl hsq)))))))
        have hbW := bel1 wr (.cells #[.int .i64 k', .int .u64 (ws s' 0 : Int), .int .u64 (ws s' 1 : Int), .int .u64 (ws s' 2 : Int), .int .u64 (ws s' 3 : Int), .slice a' n' c'] 27)
        have CKV := hid (CK.out _ hbW)
        have HW := hid hbW
        clear hpre hmem hlen hflen hfr htk hpl hsq hsq2 hds hx hK' hple hbW CK hdk hP5 hpr5 hpre5
        go_wp2_with fail
        refine CKV.out.mono ?_
        rintro e w9 ⟨rfl, T2, F2, pv2, e1, e2, e3, e4, e6, e5⟩
        have HE := hid (And.intro e1 (And.intro e2 (And.intro e3 (And.intro e4 (And.intro e6 e5)))))
        clear e1 e2 e3 e4 e6 e5
        go_wp2_with fail
        go_roundg (gk - 1)
        case measure => omega
        case rel =>
          obtain ⟨hpre, hmem, hlen, hflen, hfr, htk, hpl, hsq⟩ := HR.out
          obtain ⟨e1, e2, e3, e4, e6, e5⟩ := HE.out
          refine ⟨i + 1, T2, F2, pv2, by go_num, by omega, e1, hpre.trans e2, fun u => ?_, by omega, by omega, hfr.trans ((Fr.ofBelow HW.out).trans e5)⟩
          rw [e3 u, hmem u, htk, PDU_iff, PDU_iff]
          constructor
          · rintro ((h | ⟨x, h1, h2⟩) | h)
            · exact .inl h
            · exact .inr ⟨x, by simp [h1], h2⟩
            · exact .inr ⟨_, by simp, h⟩
          · rintro (h | ⟨x, h1, h2⟩)
            · exact .inl (.inl h)
            · rw [List.mem_append, List.mem_singleton] at h1
              rcases h1 with h1 | rfl
              · exact .inl (.inr ⟨x, h1, h2⟩)
              · exact .inr h2
      · have hlt' : ¬ (i : Int) < (n : Int) := by omega
        have htk : l.take i = l := List.take_of_length_le (by have := HS.out.2.1; omega)
        rw [htk] at hmem hlen hflen
        have HE := hid (And.intro hds (And.intro hpre (And.intro hmem (And.intro hlen (And.intro hflen hfr)))))
        clear hds hpre hmem hlen hflen hfr
        go_wp2_with fail
        go_end0
        obtain ⟨e1, e2, e3, e4, e6, e5⟩ := HE.out
        refine ⟨rfl, T', F', pv', e1, e2, fun u => ?_, ?_, by rw [parts]; omega, (Fr.ofBelow HV.out.2.2.2.1).trans e5⟩
        · rw [e3 u, PD_mk]; simp
        · rw [parts]
          have h1 := sq_add (partsL l) 1
          omega
set_option maxRecDepth 100000 in
set_option maxHeartbeats 8000000 in
theorem derive_c {bt : UInt8} {N D m f base : Nat} (hE : Env N D m f base) {k : Int} {s : BS} {l : List Rx} (hkk : k = 6) (hv : Vd (.mk k s l)) (hp : parts (.mk k s l) ≤ 100000) (hC : k = 4 → ConcSpec bt N D m f base l) (ih : ∀ x ∈ l, DeriveSpec bt N D m f base x) : DeriveSpec bt N D m f base (.mk k s l) := by
  intro W cs T F pv t v h ht hd hT hF9 ht9 htp
  obtain ⟨pa, rfl⟩ := ht.ptr
  obtain ⟨a, n, c, rfl, hK⟩ := RC_mk.1 h
  have hdp := depth_pos (.mk k s l)
  have hdd : depth (.mk k s l) = depthL l + 1 := by rw [depth]
  have hsh := hv.shaped
  have hln := hK.len
  have hnl := hK.lt
  obtain ⟨V, hV⟩ : ∃ V, V = W.alloc (.cells #[.int .i64 k, .int .u64 (ws s 0 : Int), .int .u64 (ws s 1 : Int), .int .u64 (ws s 2 : Int), .int .u64 (ws s 3 : Int), .slice a n c] 27) := ⟨_, rfl⟩
  have bV : Below W.heap.size W V := by rw [hV]; exact bel1 _ _
  have x0 : V.heap[W.heap.size]? = some (.cells #[.int .i64 k, .int .u64 (ws s 0 : Int), .int .u64 (ws s 1 : Int), .int .u64 (ws s 2 : Int), .int .u64 (ws s 3 : Int), .slice a n c] 27 (0, 0)) := by rw [hV]; exact alloc_new _ _
  have HV := hid (And.intro (hK.below bV) (And.intro (ht.below bV) (And.intro (hd.below bV) (And.intro bV x0))))
  have HDW := hid hd
  have HP := hid (And.intro hE (And.intro hp (And.intro hdp (And.intro hT (And.intro hF9 (And.intro ht9 (And.intro htp hdd)))))))
  have HS := hid (And.intro hsh (And.intro hln hv))
  have CC := hid hC
  have IH := hid ih
  obtain ⟨c0, c1, c2, c3, c4, c5⟩ := cells6 x0
  clear hE hp hdp hT hF9 ht9 htp hdd hsh hln h ht hd hK hC ih bV x0 hv
  show Calls Tryd.prog 49 #[.pointer (some ⟨D, 0, none⟩), .agg #[.int .i64 k, .int .u64 (ws s 0 : Int), .int .u64 (ws s 1 : Int), .int .u64 (ws s 2 : Int), .int .u64 (ws s 3 : Int), .slice a n c], .pointer pa] W _
  obtain rfl := hkk
  have hn1 := hid (show n = 1 from by have := HS.out.1; have := HS.out.2.1; simp [shaped] at *; omega)
  obtain rfl := hn1.out
  obtain ⟨b0, off, k', s', l', ak, nk, ck, rfl, hb0, hbl, hx, hK', q0, q1, q2, q3, q4, q5⟩ := HV.out.1.get (i := 0) (by have := hn1.out; omega)
  have hl1 : l = [.mk k' s' l'] := by
    have h1 := HS.out.2.1
    have h2 := hn1.out
    match l, hx with
    | [x], hx => simpa using hx
    | x :: y :: l, hx => simp at h1
  simp only [Nat.zero_mul, Nat.add_zero] at q0 q1 q2 q3 q4 q5
  have HQ := hid (And.intro (show V.cell? ⟨b0, off + 0, none⟩ = _ from q0) (And.intro q1 (And.intro q2 (And.intro q3 (And.intro q4 q5)))))
  have hb0N := hid (show b0 < N from hb0)
  have hb0l := hid hbl
  have hx0 := hid (And.intro hx hK')
  have hPDe := hid (show ∀ u, PD bt (.mk k' s' l') (.mk 6 s l :: t) u ↔ PD bt (.mk 6 s l) t u from fun u => by rw [@PD_mk bt 6]; simp [hl1, PDU_cons, PDU_nil])
  have hdk := hid (show depth (.mk k' s' l') + 1 ≤ depth (.mk 6 s l) from by
    rw [HP.out.2.2.2.2.2.2.2]
    have := depthL_le.1 (Nat.le_refl (depthL l)) _ (List.mem_of_getElem? hx); omega)
  have hpk := hid (show parts (.mk k' s' l') ≤ parts (.mk 6 s l) from by
    have h1 : parts (.mk 6 s l) = parts (.mk k' s' l') + 1 := by rw [hl1, parts, partsL, partsL]
    omega)
  have hcost := hid (show 2 * parts (.mk 6 s l) + 2 * (parts (.mk k' s' l') * parts (.mk k' s' l')) ≤ 2 * (parts (.mk 6 s l) * parts (.mk 6 s l)) from by
    have h1 : parts (.mk 6 s l) = parts (.mk k' s' l') + 1 := by rw [hl1, parts, partsL, partsL]
    have h2 := sq_one (parts (.mk k' s' l'))
    rw [h1, h2]; have := parts_pos (.mk k' s' l'); omega)
  have HM := hid (show D < W.heap.size ∧ m < W.heap.size ∧ f < W.heap.size from by have h1 := HDW.out.lt; omega)
  have HO := hid (show ∀ b, pv.ownBlock = some b → base ≤ b ∧ b < W.heap.size from HDW.out.row.own)
  clear hb0 hbl hx hK' q0 q1 q2 q3 q4 q5 hl1
  go_enter Tryd.func49, Tryd.ntmps49
  go_wp2_with fail
  rw [← hV]
  clear hV
  go_wp2_with fail
  refine region_inv (fun b a' w' => ∃ (v45 v46 v47 v48 v49 v50 v51 v52 v53 v54 : Value) (T1 : List Nd), a' = { tmps := #[.pointer (some ⟨D, 0, none⟩), .agg #[.int .i64 6, .int .u64 (ws s 0 : Int), .int .u64 (ws s 1 : Int), .int .u64 (ws s 2 : Int), .int .u64 (ws s 3 : Int), .slice (some ⟨b0, off, none⟩) 1 c], .pointer pa, undef, .pointer (some ⟨W.heap.size, 0, none⟩), undef, undef, undef, .pointer (some ⟨W.heap.size, 0, none⟩), .int .i64 6, .bool false, .bool false, undef, undef, undef, undef, undef, undef, undef, undef, undef, undef, .bool false, .bool false, undef, undef, undef, undef, undef, .bool false, .bool false, undef, undef, undef, undef, undef, undef, undef, undef, undef, undef, undef, undef, .bool true, .bool true, v45, v46, v47, v48, v49, v50, v51, v52, v53, v54], defers := [] } ∧ (b 0 = true → v45 = .pointer (some ⟨D, 0, none⟩)) ∧ (b 1 = true → v46 = .pointer (some ⟨W.heap.size, 5, none⟩)) ∧ (b 2 = true → v47 = .slice (some ⟨b0, off, none⟩) 1 c) ∧ (b 3 = true → v48 = .pointer (some ⟨b0, off, none⟩)) ∧ (b 4 = true → v49 = .agg #[.int .i64 k', .int .u64 (ws s' 0 : Int), .int .u64 (ws s' 1 : Int), .int .u64 (ws s' 2 : Int), .int .u64 (ws s' 3 : Int), .slice ak nk ck]) ∧ (b 5 = true → v50 = .pointer (some ⟨D, 0, none⟩)) ∧ (b 6 = true → v51 = .agg #[.int .i64 6, .int .u64 (ws s 0 : Int), .int .u64 (ws s 1 : Int), .int .u64 (ws s 2 : Int), .int .u64 (ws s 3 : Int), .slice (some ⟨b0, off, none⟩) 1 c]) ∧ (b 7 = true → v52 = .pointer pa) ∧ (b 8 = false → Below V.heap.size V w') ∧ (b 8 = true → b 9 = false → LM N T1 w' (.mk 6 s l :: t) v53 ∧ Tab w' m T1 ∧ T <+: T1 ∧ T1.length ≤ T.length + 2 * parts (.mk 6 s l) ∧ Md (· = m) V w') ∧ (b 9 = true → b 8 = true ∧ DerRes bt D m f base T F V pv (PD bt (.mk k' s' l') (.mk 6 s l :: t)) (2 * parts (.mk 6 s l) + 2 * (parts (.mk k' s' l') * parts (.mk k' s' l'))) (parts (.mk k' s' l')) (.returned (.tuple #[])) w') ∧ w'.heap[W.heap.size]? = V.heap[W.heap.size]? ∧ w'.heap[b0]? = V.heap[b0]?) (by kernel_rfl) (back_of (by kernel_rfl)) ?step6 ?done6 ?init6
  case step6 =>
    rintro b a' w' i o ho ⟨v45, v46, v47, v48, v49, v50, v51, v52, v53, v54, T1, rfl, h0, h1, h2, h3, h4, h5, h6, h7, g0, g1, g2, z1, z2⟩ hbi hd K hK
    have hlt : i < 10 := by have := (Array.getElem?_eq_some_iff.1 ho).1; simpa using this
    have dep : ∀ k, (o.after.any fun e => Region.binds .any e && e.on == k) = true → b k = true := fun k hk => by
      obtain ⟨e, he, h⟩ := Array.any_eq_true'.1 hk
      simp only [Bool.and_eq_true, beq_iff_eq] at h
      rw [← h.2]; exact hd e he h.1
    clear hd
    have hi : i = 0 ∨ i = 1 ∨ i = 2 ∨ i = 3 ∨ i = 4 ∨ i = 5 ∨ i = 6 ∨ i = 7 ∨ i = 8 ∨ i = 9 := by omega
    clear hlt
    rcases hi with rfl | rfl | rfl | rfl | rfl | rfl | rfl | rfl | rfl | rfl
    · simp only [List.getElem?_toArray, List.getElem?_cons_zero, List.getElem?_cons_succ, Option.some.injEq] at ho
      subst ho
      go_simp
      refine hK.out _ _ ⟨_, _, _, _, _, _, _, _, _, _, T1, rfl, fun _ => rfl, fun h => h1 (by simpa using h), fun h => h2 (by simpa using h), fun h => h3 (by simpa using h), fun h => h4 (by simpa using h), fun h => h5 (by simpa using h), fun h => h6 (by simpa using h), fun h => h7 (by simpa using h), fun h => g0 (by simpa using h), fun h h' => g1 (by simpa using h) (by simpa using h'), fun h => ⟨by simp [(g2 (by simpa using h)).1], (g2 (by simpa using h)).2⟩, z1, z2⟩
    · simp only [List.getElem?_toArray, List.getElem?_cons_zero, List.getElem?_cons_succ, Option.some.injEq] at ho
      subst ho
      go_simp
      refine hK.out _ _ ⟨_, _, _, _, _, _, _, _, _, _, T1, rfl, fun h => h0 (by simpa using h), fun _ => rfl, fun h => h2 (by simpa using h), fun h => h3 (by simpa using h), fun h => h4 (by simpa using h), fun h => h5 (by simpa using h), fun h => h6 (by simpa using h), fun h => h7 (by simpa using h), fun h => g0 (by simpa using h), fun h h' => g1 (by simpa using h) (by simpa using h'), fun h => ⟨by simp [(g2 (by simpa using h)).1], (g2 (by simpa using h)).2⟩, z1, z2⟩
    · simp only [List.getElem?_toArray, List.getElem?_cons_zero, List.getElem?_cons_succ, Option.some.injEq] at ho
      subst ho
      obtain rfl := h1 (dep 1 (by kernel_rfl))
      obtain ⟨c0, c1, c2, c3, c4, c5⟩ := cells6 (z1.trans HV.out.2.2.2.2)
      go_simp
      refine hK.out _ _ ⟨_, _, _, _, _, _, _, _, _, _, T1, rfl, fun h => h0 (by simpa using h), fun h => h1 (by simpa using h), fun _ => rfl, fun h => h3 (by simpa using h), fun h => h4 (by simpa using h), fun h => h5 (by simpa using h), fun h => h6 (by simpa using h), fun h => h7 (by simpa using h), fun h => g0 (by simpa using h), fun h h' => g1 (by simpa using h) (by simpa using h'), fun h => ⟨by simp [(g2 (by simpa using h)).1], (g2 (by simpa using h)).2⟩, z1, z2⟩
    · simp only [List.getElem?_toArray, List.getElem?_cons_zero, List.getElem?_cons_succ, Option.some.injEq] at ho
      subst ho
      obtain rfl := h2 (dep 2 (by kernel_rfl))
      go_simp
      refine hK.out _ _ ⟨_, _, _, _, _, _, _, _, _, _, T1, rfl, fun h => h0 (by simpa using h), fun h => h1 (by simpa using h), fun h => h2 (by simpa using h), fun _ => rfl, fun h => h4 (by simpa using h), fun h => h5 (by simpa using h), fun h => h6 (by simpa using h), fun h => h7 (by simpa using h), fun h => g0 (by simpa using h), fun h h' => g1 (by simpa using h) (by simpa using h'), fun h => ⟨by simp [(g2 (by simpa using h)).1], (g2 (by simpa using h)).2⟩, z1, z2⟩
    · simp only [List.getElem?_toArray, List.getElem?_cons_zero, List.getElem?_cons_succ, Option.some.injEq] at ho
      subst ho
      obtain rfl := h3 (dep 3 (by kernel_rfl))
      have q0 := (World.cell?_of_block (a := ⟨b0, off + 0, none⟩) z2).trans HQ.out.1
      have q1 := (World.cell?_of_block (a := ⟨b0, off + 1, none⟩) z2).trans HQ.out.2.1
      have q2 := (World.cell?_of_block (a := ⟨b0, off + 2, none⟩) z2).trans HQ.out.2.2.1
      have q3 := (World.cell?_of_block (a := ⟨b0, off + 3, none⟩) z2).trans HQ.out.2.2.2.1
      have q4 := (World.cell?_of_block (a := ⟨b0, off + 4, none⟩) z2).trans HQ.out.2.2.2.2.1
      have q5 := (World.cell?_of_block (a := ⟨b0, off + 5, none⟩) z2).trans HQ.out.2.2.2.2.2
      simp only [Nat.add_zero] at q0
      go_simp
      refine hK.out _ _ ⟨_, _, _, _, _, _, _, _, _, _, T1, rfl, fun h => h0 (by simpa using h), fun h => h1 (by simpa using h), fun h => h2 (by simpa using h), fun h => h3 (by simpa using h), fun _ => rfl, fun h => h5 (by simpa using h), fun h => h6 (by simpa using h), fun h => h7 (by simpa using h), fun h => g0 (by simpa using h), fun h h' => g1 (by simpa using h) (by simpa using h'), fun h => ⟨by simp [(g2 (by simpa using h)).1], (g2 (by simpa using h)).2⟩, z1, z2⟩
    · simp only [List.getElem?_toArray, List.getElem?_cons_zero, List.getElem?_cons_succ, Option.some.injEq] at ho
      subst ho
      go_simp
      refine hK.out _ _ ⟨_, _, _, _, _, _, _, _, _, _, T1, rfl, fun h => h0 (by simpa using h), fun h => h1 (by simpa using h), fun h => h2 (by simpa using h), fun h => h3 (by simpa using h), fun h => h4 (by simpa using h), fun _ => rfl, fun h => h6 (by simpa using h), fun h => h7 (by simpa using h), fun h => g0 (by simpa using h), fun h h' => g1 (by simpa using h) (by simpa using h'), fun h => ⟨by simp [(g2 (by simpa using h)).1], (g2 (by simpa using h)).2⟩, z1, z2⟩
    · simp only [List.getElem?_toArray, List.getElem?_cons_zero, List.getElem?_cons_succ, Option.some.injEq] at ho
      subst ho
      obtain ⟨c0, c1, c2, c3, c4, c5⟩ := cells6 (z1.trans HV.out.2.2.2.2)
      go_simp
      refine hK.out _ _ ⟨_, _, _, _, _, _, _, _, _, _, T1, rfl, fun h => h0 (by simpa using h), fun h => h1 (by simpa using h), fun h => h2 (by simpa using h), fun h => h3 (by simpa using h), fun h => h4 (by simpa using h), fun h => h5 (by simpa using h), fun _ => rfl, fun h => h7 (by simpa using h), fun h => g0 (by simpa using h), fun h h' => g1 (by simpa using h) (by simpa using h'), fun h => ⟨by simp [(g2 (by simpa using h)).1], (g2 (by simpa using h)).2⟩, z1, z2⟩
    · simp only [List.getElem?_toArray, List.getElem?_cons_zero, List.getElem?_cons_succ, Option.some.injEq] at ho
      subst ho
      go_simp
      refine hK.out _ _ ⟨_, _, _, _, _, _, _, _, _, _, T1, rfl, fun h => h0 (by simpa using h), fun h => h1 (by simpa using h), fun h => h2 (by simpa using h), fun h => h3 (by simpa using h), fun h => h4 (by simpa using h), fun h => h5 (by simpa using h), fun h => h6 (by simpa using h), fun _ => rfl, fun h => g0 (by simpa using h), fun h h' => g1 (by simpa using h) (by simpa using h'), fun h => ⟨by simp [(g2 (by simpa using h)).1], (g2 (by simpa using h)).2⟩, z1, z2⟩
    · simp only [List.getElem?_toArray, List.getElem?_cons_zero, List.getElem?_cons_succ, Option.some.injEq] at ho
      subst ho
      obtain rfl := h5 (dep 5 (by kernel_rfl))
      obtain rfl := h6 (dep 6 (by kernel_rfl))
      obtain rfl := h7 (dep 7 (by kernel_rfl))
      have hb9 : b 9 = false := by
        cases hb' : b 9
        · rfl
        · have := (g2 hb').1; rw [hbi] at this; cases this
      have hbel := g0 hbi
      have CP := hid (put_any (N := N) (by exact HP.out.1.hN.2.1) HS.out.2.2 (HV.out.2.2.1.below hbel).db (show RC (· < N) w' (.mk 6 s l) (rcs 6 s (.slice (some ⟨b0, off, none⟩) 1 c)) from RC_mk.2 ⟨_, _, _, rfl, HV.out.1.below hbel⟩) (HV.out.2.1.below hbel) (HV.out.2.2.1.below hbel).tab HP.out.2.1 (by have := HP.out.2.2.2.1; have := HP.out.2.2.1; omega))
      have hmW := HV.out.2.2.1.lt
      go_simp
      refine CP.out.mono ?_
      rintro e w5 ⟨T2, v2, rfl, e1, e2, e3, e4, e5⟩
      have hWV := heap_lt HV.out.2.2.2.2
      have hs1 := hbel.size
      refine hK.out _ _ ⟨_, _, _, _, _, _, _, _, _, _, T2, rfl, fun h => h0 (by simpa using h), fun h => h1 (by simpa using h), fun h => h2 (by simpa using h), fun h => h3 (by simpa using h), fun h => h4 (by simpa using h), fun h => h5 (by simpa using h), fun h => h6 (by simpa using h), fun h => h7 (by simpa using h), fun h => absurd h (by simp), fun _ _ => ⟨e3, e1, e2, e4, (Md.below hbel).trans e5⟩, fun h => absurd h (by simp [hb9]), (e5.block _ (by omega) (by have := HM.out; omega)).trans z1, (e5.block _ (by have := hb0l.out; omega) (by have := HP.out.1.hN; have := hb0N.out; omega)).trans z2⟩
    · simp only [List.getElem?_toArray, List.getElem?_cons_zero, List.getElem?_cons_succ, Option.some.injEq] at ho
      subst ho
      obtain rfl := h0 (dep 0 (by kernel_rfl))
      obtain rfl := h4 (dep 4 (by kernel_rfl))
      have hb8 := dep 8 (by kernel_rfl)
      obtain ⟨e1, e2, e3, e4, e5⟩ := g1 hb8 hbi
      have hds := HV.out.2.2.1.grow e5 e2 e3
      have CD := hid (IH.out _ (List.mem_of_getElem? hx0.out.1) w' (rcs k' s' (.slice ak nk ck)) T1 F pv (.mk 6 s l :: t) v53 (RC_mk.2 ⟨_, _, _, rfl, hx0.out.2.keep e5.size (fun k hk hl => e5.block k hl (by have := HP.out.1.hN; have hk : k < N := hk; omega)) (fun _ h => h)⟩) e1 hds (by have := HP.out.2.2.2.1; have := hdk.out; have := HP.out.2.1; omega) (by have := HP.out.2.2.2.2.1; have := hdk.out; omega) (by have := HP.out.2.2.2.2.2.1; have := hdk.out; simp; omega) (fun y hy => by
        rcases List.mem_cons.1 hy with rfl | hy
        · have := HP.out.2.1; omega
        · exact HP.out.2.2.2.2.2.2.1 y hy))
      have hWV := heap_lt HV.out.2.2.2.2
      have hw5 := e5.size
      go_simp
      refine CD.out.mono ?_
      rintro e w5 ⟨rfl, T2, F2, pv2, i1, i2, i3, i4, i6, i5⟩
      have hkeep : ∀ k, k < V.heap.size → k < base ∨ V.heap.size ≤ base ∨ k = W.heap.size → k ≠ D → k ≠ m → k ≠ f → (∀ b, pv.ownBlock = some b → k ≠ b) → w5.heap[k]? = w'.heap[k]? := fun k h1 _ h2 h3 h4 h5 => i5.md.block k (by omega) (by
        rintro (e | e | e | e)
        · exact h2 e
        · exact h3 e
        · exact h4 e
        · exact h5 k e rfl)
      refine hK.out _ _ ⟨_, _, _, _, _, _, _, _, _, _, T1, rfl, fun h => h0 (by simpa using h), fun h => h1 (by simpa using h), fun h => h2 (by simpa using h), fun h => h3 (by simpa using h), fun h => h4 (by simpa using h), fun h => h5 (by simpa using h), fun h => h6 (by simpa using h), fun h => h7 (by simpa using h), fun h => absurd h (by simp [hb8]), fun _ h => absurd h (by simp), fun _ => ⟨by simp [hb8], rfl, T2, F2, pv2, i1, e3.trans i2, i3, by omega, i6, (Fr.ofTab e5).trans i5⟩, (hkeep _ (by omega) (.inr (.inr rfl)) (by have := HM.out; omega) (by have := HM.out; omega) (by have := HM.out; omega) (fun b hb e => by have := HO.out b hb; omega)).trans z1, (hkeep _ (by have := hb0l.out; omega) (.inl (by have := HP.out.1.hN; have := hb0N.out; omega)) (by have := HP.out.1.hN; have := hb0N.out; omega) (by have := HP.out.1.hN; have := hb0N.out; omega) (by have := HP.out.1.hN; have := hb0N.out; omega) (fun b hb e => by have := HO.out b hb; have := HP.out.1.hN; have := hb0N.out; omega)).trans z2⟩
  case done6 =>
    rintro b a' w' ⟨v45, v46, v47, v48, v49, v50, v51, v52, v53, v54, T1, rfl, h0, h1, h2, h3, h4, h5, h6, h7, g0, g1, g2, z1, z2⟩ hall
    have HE := hid (g2 (hall 9)).2
    clear g0 g1 g2 z1 z2 h0 h1 h2 h3 h4 h5 h6 h7 hall
    go_wp2_with fail
    go_end0
    refine HE.out.from HV.out.2.2.2.1 (fun u => ?_) ?_ (by have := hpk.out; omega)
    · exact hPDe.out u
    · have := hcost.out; omega
  case init6 =>
    exact ⟨_, _, _, _, _, _, _, _, _, _, T, rfl, fun h => absurd h (by simp), fun h => absurd h (by simp), fun h => absurd h (by simp), fun h => absurd h (by simp), fun h => absurd h (by simp), fun h => absurd h (by simp), fun h => absurd h (by simp), fun h => absurd h (by simp), fun _ => (Below.refl _ _).drew, fun h => absurd h (by simp), fun h => absurd h (by simp), rfl, rfl⟩
theorem derive_step {bt : UInt8} {N D m f base : Nat} (hE : Env N D m f base) {k : Int} {s : BS} {l : List Rx} (hv : Vd (.mk k s l)) (hp : parts (.mk k s l) ≤ 100000) (hC : k = 4 → ConcSpec bt N D m f base l) (ih : ∀ x ∈ l, DeriveSpec bt N D m f base x) : DeriveSpec bt N D m f base (.mk k s l) := by
  rcases shaped_kind hv.shaped with h | h | h | h | h | h
  · exact derive_a hE (.inl h) hv hp hC ih
  · exact derive_a hE (.inr (.inl h)) hv hp hC ih
  · exact derive_a hE (.inr (.inr h)) hv hp hC ih
  · exact derive_b hE (.inl h) hv hp hC ih
  · exact derive_b hE (.inr h) hv hp hC ih
  · exact derive_c hE h hv hp hC ih
end Go.Proofs.YtednoideboeehaaDoor
end
section
set_option linter.unusedSimpArgs false
set_option linter.unusedVariables false
namespace Go.Proofs.YtednoideboeehaaDoor
open Go.RowKit Bs Rg Go.Frame

/-- The blocks of an expression are blocks of cells. -/
theorem RC.isCells {g : Nat → Prop} {W : World} {x : Rx} : ∀ {cs : List Value}, RC g W x cs → RC (fun b => g b ∧ ∀ o : Obj, W.heap[b]? = some o → o.isCells = true) W x cs := by
  induction x using Rx.ind with
  | h k s l ih =>
    intro cs h
    rw [RC_mk] at h ⊢
    obtain ⟨a, n, c, rfl, h1, h2, h3⟩ := h
    refine ⟨a, n, c, rfl, h1, h2, ?_⟩
    by_cases h0 : n = 0
    · exact .inl h0
    obtain ⟨b, off, rfl, hb, hlt, hK⟩ := h3.resolve_left h0
    refine .inr ⟨b, off, rfl, ⟨hb, fun o ho => ?_⟩, hlt, RK_of fun i x hi => ?_⟩
    · obtain ⟨x0, hx0⟩ : ∃ x0, l[0]? = some x0 := ⟨_, List.getElem?_eq_getElem (by omega)⟩
      obtain ⟨cs, h4, h5⟩ := RK_get hK hx0
      obtain ⟨k', s', l'⟩ := x0
      obtain ⟨a', n', c', rfl, _⟩ := RC_mk.1 h5
      have h6 := h4 0 _ rfl
      rw [World.cell?] at h6
      cases o <;> simp [ho] at h6 ⊢ <;> rfl
    · obtain ⟨cs, h4, h5⟩ := RK_get hK hi
      exact ⟨cs, h4, ih x (List.mem_of_getElem? hi) h5⟩
section
variable {A C : World} {row : Option Nat} (hs : A.heap.size ≤ C.heap.size) (hk : ∀ k, k < A.heap.size → some k ≠ row → C.heap[k]? = A.heap[k]?) (hr : ∀ r, row = some r → ∃ o : Obj, A.heap[r]? = some o ∧ o.isCells = false)
include hs hk hr
omit hs in
theorem blk_but {b : Nat} {c : Array Value} {t : TypeId} {f : Nat × Nat} (h : A.heap[b]? = some (.cells c t f)) : C.heap[b]? = some (.cells c t f) := by
  refine (hk b (heap_lt h) ?_).trans h
  intro e
  obtain ⟨o, ho, hc⟩ := hr b e.symm
  rw [h] at ho; cases ho; cases hc
theorem RC.but {g : Nat → Prop} {x : Rx} {cs : List Value} (h : RC g A x cs) : RC g C x cs := by
  refine RC.keep hs (fun b hb hl => hk b hl ?_) (fun _ h => h.1) x h.isCells
  intro e
  obtain ⟨o, ho, hc⟩ := hr b e.symm
  rw [hb.2 o ho] at hc; cases hc
theorem OX.but {base : Nat} {v : Value} {l : List Rx} (h : OX base A v l) : OX base C v l := by
  obtain ⟨vs, ho, hall⟩ := h
  refine ⟨vs, ⟨ho.1, ho.2.imp id ?_⟩, fun i x hi => ?_⟩
  · rintro ⟨g, cap, cur, e1, e2, e3, e4⟩
    exact ⟨g, cap, cur, e1, e2, blk_but hk hr e3, e4⟩
  · obtain ⟨cs, h1, h2⟩ := hall i x hi
    exact ⟨cs, RC.but hs hk hr h1, h2⟩
theorem DS.but {D m f base : Nat} {bb : Int} {T : List Nd} {F : List (List Rx)} {pv : Value} (h : DS A D m f base bb T F pv) (hm : ∀ r, row = some r → base ≤ r) : DS C D m f base bb T F pv := by
  obtain ⟨ns, h1, h2⟩ := h.fnd
  have hlt := h.lt
  exact ⟨blk_but hk hr h.db, h.tab.keep (hk _ (by omega) fun e => by have := hm _ e.symm; omega), ⟨ns, h1.keep (hk _ (by omega) fun e => by have := hm _ e.symm; omega), h2⟩, OX.but hs hk hr h.row, h.nodup, hlt.1, hlt.2.1, hlt.2.2.1, hlt.2.2.2.1, Nat.le_trans hlt.2.2.2.2 hs⟩
theorem LM.but {N : Nat} {T : List Nd} {t : List Rx} {v : Value} (h : LM N T A t v) (hm : ∀ r, row = some r → N ≤ r) : LM N T C t v :=
  h.keep hs (fun k c hc => blk_but hk hr hc) fun k hkN hl => hk k hl fun e => by have := hm _ e.symm; omega
omit hr in
theorem Fr.but {D m f : Nat} {W : World} {pv pv' : Value} (h : Fr D m f W pv A pv') (ho : C.os = A.os ∧ C.tape = A.tape ∧ C.output = A.output) (hm : ∀ r, row = some r → W.heap.size ≤ r) : Fr D m f W pv C pv' :=
  ⟨⟨ho.1.trans h.md.os, ho.2.1.trans h.md.tape, ho.2.2.trans h.md.output, Nat.le_trans h.md.size hs, fun k hkW hn => (hk k (Nat.lt_of_lt_of_le hkW h.md.size) fun e => by have := hm _ e.symm; omega).trans (h.md.block k hkW hn)⟩, h.own⟩
end
/-- PDC by places. -/
theorem PDC_at {b : UInt8} {z u : List Rx} : ∀ {l : List Rx}, PDC b l z u ↔ ∃ j x, l[j]? = some x ∧ (∀ y ∈ l.take j, nul y = true) ∧ PD b x (l.drop (j + 1) ++ z) u
  | [] => by rw [PDC_nil]; simp
  | y :: l => by
    rw [PDC_cons, @PDC_at b z u l]
    constructor
    · rintro (h | ⟨h0, j, x, h1, h2, h3⟩)
      · exact ⟨0, y, rfl, by simp, by simpa using h⟩
      · refine ⟨j + 1, x, by simpa using h1, fun w hw => ?_, by simpa using h3⟩
        rw [List.take_succ_cons, List.mem_cons] at hw
        rcases hw with rfl | hw
        · exact h0
        · exact h2 w hw
    · rintro ⟨j, x, h1, h2, h3⟩
      cases j with
      | zero => simp at h1; subst h1; exact .inl (by simpa using h3)
      | succ j =>
        refine .inr ⟨h2 y (by simp), j, x, by simpa using h1, fun w hw => h2 w (by simp [hw]), by simpa using h3⟩
def sq : List Rx → Nat
  | [] => 0
  | x :: l => parts x * parts x + sq l
theorem sq_le : ∀ l : List Rx, sq l ≤ partsL l * partsL l
  | [] => Nat.zero_le _
  | x :: l => by
    have h1 := sq_le l
    have h2 := sq_add (parts x) (partsL l)
    rw [sq, partsL]; omega
theorem sq_len {M : Nat} : ∀ {l : List Rx}, (∀ x ∈ l, parts x ≤ M) → sq l ≤ l.length * (M * M)
  | [], _ => Nat.zero_le _
  | x :: l, h => by
    have h1 := h x (by simp)
    have h2 := sq_len (l := l) fun y hy => h y (by simp [hy])
    have h3 := Nat.mul_le_mul h1 h1
    rw [sq, List.length_cons, Nat.add_mul]; omega
/-- What the kids that have come have given. -/
def Qp (bt : UInt8) {n : Nat} (kid : Fin n → Rx) (t : List Rx) (i0 : Nat) (pre : List (Fin n)) (u : List Rx) : Prop := ∃ (p1 : List (Fin n)) (x : Fin n), (p1 ++ [x]) <+: pre ∧ x.1 ≤ i0 ∧ PD bt (kid x) (lst kid p1 ++ t) u
theorem Qp_nil {bt : UInt8} {n : Nat} {kid : Fin n → Rx} {t : List Rx} {i0 : Nat} {u : List Rx} : ¬ Qp bt kid t i0 [] u := by
  rintro ⟨p1, x, h, _⟩
  simp at h
theorem Qp_snoc {bt : UInt8} {n : Nat} {kid : Fin n → Rx} {t : List Rx} {i0 : Nat} {pre : List (Fin n)} {x : Fin n} {u : List Rx} : Qp bt kid t i0 (pre ++ [x]) u ↔ Qp bt kid t i0 pre u ∨ (x.1 ≤ i0 ∧ PD bt (kid x) (lst kid pre ++ t) u) := by
  constructor
  · rintro ⟨p1, y, h, h1, h2⟩
    rw [List.prefix_concat_iff] at h
    rcases h with h | h
    · obtain ⟨rfl, h⟩ := List.append_inj' h rfl
      simp at h
      subst h
      exact .inr ⟨h1, h2⟩
    · exact .inl ⟨p1, y, h, h1, h2⟩
  · rintro (⟨p1, y, h, h1, h2⟩ | ⟨h1, h2⟩)
    · exact ⟨p1, y, h.trans (List.prefix_append _ _), h1, h2⟩
    · exact ⟨pre, x, List.prefix_rfl, h1, h2⟩
theorem lst_drop {l : List Rx} {n : Nat} (h : l.length = n) (j : Nat) : lst (fun i : Fin n => l[i.1]'(by omega)) (bw n j) = l.drop j := by
  subst h
  unfold lst bw
  rw [List.map_reverse, List.reverse_reverse]
  apply List.ext_getElem
  · simp
  · intro i h1 h2; simp
theorem Qp_full {bt : UInt8} {n : Nat} {l t : List Rx} {i0 : Nat} {u : List Rx} (h : l.length = n) (hi : i0 < n) (hn : ∀ x ∈ l.take i0, nul x = true) (hstop : i0 + 1 = n ∨ ∃ x, l[i0]? = some x ∧ nul x = false) : Qp bt (fun i : Fin n => l[i.1]'(by omega)) t i0 (bw n 0) u ↔ PDC bt l t u := by
  rw [PDC_at]
  constructor
  · rintro ⟨p1, x, h1, h2, h3⟩
    have hlen := h1.length_le
    rw [bw_len, List.length_append] at hlen
    simp at hlen
    have hk : n - (p1.length + 1) < n := by omega
    have e1 : p1 ++ [x] = bw n (n - (p1.length + 1)) := by
      have h4 := List.prefix_of_prefix_length_le h1 (bw_prefix (j := n - (p1.length + 1)) (by omega)) (by rw [bw_len]; simp; omega)
      exact h4.eq_of_length (by rw [bw_len]; simp; omega)
    rw [bw_next hk] at e1
    obtain ⟨e2, e3⟩ := List.append_inj' e1 rfl
    simp at e3
    have e4 : x.1 = n - (p1.length + 1) := by rw [e3]
    rw [e2, lst_drop h] at h3
    refine ⟨x.1, l[x.1]'(by omega), List.getElem?_eq_getElem _, fun y hy => hn y ?_, by rw [← e4] at h3; exact h3⟩
    have h5 : l.take x.1 <+: l.take i0 := List.take_prefix_take_left h2
    exact h5.subset hy
  · rintro ⟨j, x, h1, h2, h3⟩
    have hj : j < n := by have := (List.getElem?_eq_some_iff.1 h1).1; omega
    refine ⟨bw n (j + 1), ⟨j, hj⟩, ?_, ?_, ?_⟩
    · rw [← bw_next hj]; exact bw_prefix (by omega)
    · show j ≤ i0
      apply Nat.le_of_not_lt
      intro hlt
      rcases hstop with h4 | ⟨y, h4, h5⟩
      · omega
      · have h6 := h2 y (List.mem_of_getElem? (i := i0) (by rw [List.getElem?_take]; simp [hlt, h4]))
        rw [h5] at h6; cases h6
    · rw [lst_drop h]
      obtain ⟨h7, h8⟩ := List.getElem?_eq_some_iff.1 h1
      simpa [h8] using h3
end Go.Proofs.YtednoideboeehaaDoor
end
