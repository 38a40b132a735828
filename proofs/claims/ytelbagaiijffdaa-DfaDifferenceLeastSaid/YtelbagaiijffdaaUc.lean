/-
  Contract: partition.
-/
import Derived.Test.YtelbagaiijffdaaUb
import Derived.Test.YtelbagaiijffdaaMj
set_option linter.unusedSimpArgs false
set_option linter.unusedVariables false
namespace Go.Proofs.Ytelbagaiijffdaa
open Go.RowKit Lx Go.Frame

theorem zs_getD (B : List Nat) (q : Nat) : (zs B).getD q 0 = ((B.getD q 0 : Nat) : Int) := by
  unfold zs
  rw [List.getD_eq_getElem?_getD, List.getD_eq_getElem?_getD, List.getElem?_map]
  cases B[q]? <;> rfl
theorem sgL_sgN (T : Mo.Tb) (B : List Nat) (q : Nat) : sgL T.nx (zs B) q = zs (Mi.sgN T B q) := by
  unfold sgL Mi.sgN
  rw [zs_getD]
  unfold zs
  rw [List.map_append, List.map_map]
  congr 1
  apply List.map_congr_left
  intro x _
  exact zs_getD B x
theorem zs_inj {l m : List Nat} (h : zs l = zs m) : l = m := by
  have := congrArg (List.map Int.toNat) h
  simpa [zs, List.map_map, Function.comp_def] using this
theorem rank_lt {B : List Nat} (hc : Rk.ranks B = B) {q : Nat} : B.getD q 0 ≤ B.length := by
  rw [List.getD_eq_getElem?_getD]
  cases h : B[q]? with
  | none => exact Nat.zero_le _
  | some x =>
    rw [← hc] at h
    have h1 := Rk.ranks_lt h
    have h2 := Rk.known_le B
    show x ≤ _
    omega
theorem strs_ref {T : Mo.Tb} {n k : Nat} (hv : Mo.Vt T n k) {B : List Nat} (hBl : B.length = n) (hBc : Rk.ranks B = B) (hn : n ≤ 501) : Rk.ranks ((List.range n).map fun q => strOfNums (kbs (sgL T.nx (zs B) q))) = Mi.ref T n B := by
  unfold Mi.ref
  rw [show ((List.range n).map fun q => strOfNums (kbs (sgL T.nx (zs B) q))) = (Mi.sgs T n B).map (fun l => strOfNums (kbs (zs l))) from by
    unfold Mi.sgs
    rw [List.map_map]
    apply List.map_congr_left
    intro q _
    rw [sgL_sgN]; rfl]
  refine (Rk.ranks_map _ _ fun x hx y hy e => ?_).1
  have hb : ∀ l ∈ Mi.sgs T n B, ∀ x ∈ zs l, -1 ≤ x ∧ x ≤ 65534 := fun l hl x hx => by
    unfold Mi.sgs at hl
    obtain ⟨q, _, rfl⟩ := List.mem_map.1 hl
    unfold zs at hx
    obtain ⟨y, hy, rfl⟩ := List.mem_map.1 hx
    have : y ≤ n := by
      unfold Mi.sgN at hy
      rcases List.mem_append.1 hy with hy | hy
      · obtain ⟨z, _, rfl⟩ := List.mem_map.1 hy
        rw [← hBl]; exact rank_lt hBc
      · simp only [List.mem_singleton] at hy; subst hy; rw [← hBl]; exact rank_lt hBc
    omega
  exact zs_inj (key_inj (hb x hx) (hb y hy) e)
set_option maxRecDepth 100000 in
set_option maxHeartbeats 8000000 in
theorem part_any (w : World) (a1 : Option Addr) (n c1 : Nat) (a2 : Option Addr) (c2 : Nat) (T : Mo.Tb) (k : Nat) (hv : Mo.Vt T n k) (h1 : Rows2 w a1 n (T.nx.map zs)) (h2 : Row w a2 n (T.ac.map iv)) (h0 : 1 ≤ n) (hn : n ≤ 501) (hk : k ≤ 900000) :
    Calls Try.prog 42 #[.agg #[.slice a1 n c1, .slice a2 n c2]] w (NRes w (zs (Mi.part T n))) := by
  obtain ⟨W, hW⟩ : ∃ W, W = w.alloc (.cells #[.slice a1 n c1, .slice a2 n c2] 50) := ⟨_, rfl⟩
  have x0 := alloc_new w (.cells #[.slice a1 n c1, .slice a2 n c2] 50)
  have b0 := bel1 w (.cells #[.slice a1 n c1, .slice a2 n c2] 50)
  rw [← hW] at x0 b0
  have HX := hid (And.intro x0 b0)
  have HA := hid (And.intro h1 (And.intro h2 hv))
  have hrow : ∀ r ∈ T.nx, r.length ≤ 900000 ∧ ∀ x ∈ r, x < n := fun r hr => by
    obtain ⟨q, hq⟩ := List.getElem?_of_mem hr
    obtain ⟨e1, e2⟩ := hv.row q r hq
    exact ⟨by omega, fun x hx => by obtain ⟨c, hc⟩ := List.getElem?_of_mem hx; exact e2 c x hc⟩
  have hpl := (Mi.part_ok hv hn).1
  have C0 := hid (ranks_any W a2 n c2 T.ac (h2.below b0) (by omega) _ rfl)
  have hac : (zs (Rk.ranks T.ac)).length = n := by rw [zs_len, Rk.ranks_length, hv.ha]
  have CS := hid (fun (V : World) (hV : Below w.heap.size w V) (ab : Option Addr) (B : List Nat) (hB : Row V ab n ((zs B).map iv)) => sigs_any V a1 n c1 a2 n c2 ab n T.nx (zs B) (h1.below hV) hB (by omega) hrow _ rfl)
  unfold NRes
  rw [zs_len, hpl]
  obtain ⟨d0, d1⟩ := cells2 x0
  clear x0 b0 h1 h2 hrow hpl
  go_enter Try.func42, Try.ntmps42
  go_wp2_with fail
  rw [← hW]
  refine C0.out.mono ?_
  rintro e V ⟨⟨b, rfl, hI, hbb⟩, hb⟩
  rw [hac]
  have HV := hid (And.intro (HX.out.2.trans (hb.mono HX.out.2.size)) (And.intro hI (Nat.le_trans HX.out.2.size hbb)))
  have HXV := hid ((hb.block _ (heap_lt HX.out.1)).trans HX.out.1)
  clear hW d0 d1 hI hb hbb C0 hac
  go_wp2_with fail
  go_loopg [3] (n + 1) (fun kk s3 wr => ∃ (b f : Nat) (B : List Nat), s3 = .slice (some ⟨b, 0, none⟩) n n ∧ IB wr b (zs B) ∧ w.heap.size ≤ b ∧ B.length = n ∧ Rk.ranks B = B ∧ Mi.partF T n f B = Mi.part T n ∧ n - Mi.nb B < f ∧ n < Mi.nb B + kk ∧ wr.heap[w.heap.size]? = some (.cells #[.slice a1 n c1, .slice a2 n c2] 50 (0, 0)) ∧ Below w.heap.size w wr)
  case atStart => exact ⟨b, 600, Rk.ranks T.ac, rfl, HV.out.2.1, HV.out.2.2, by rw [Rk.ranks_length, HA.out.2.2.ha], (Rk.ranks_idem _).1, rfl, by omega, by omega, HXV.out, HV.out.1⟩
  case round =>
    obtain ⟨b, f, B, rfl, hI, hbb, hBl, hBc, hpF, hf, hkk, hx, hb⟩ := hrel
    have HB := hid (And.intro hb (And.intro hx (And.intro hI hbb)))
    have HQ := hid (And.intro hBl (And.intro hBc (And.intro hpF (And.intro hf hkk))))
    obtain ⟨d0, d1⟩ := cells2 hx
    have hzl : (zs B).length = n := by rw [zs_len, hBl]
    have hIr := hI.row
    rw [hzl] at hIr
    have C1 := hid (CS.out wr hb (some ⟨b, 0, none⟩) B hIr)
    have hmB := mx_ranks B (by omega)
    rw [hBc, hBl] at hmB
    have HM := hid hmB
    clear hb hx hI hbb hBl hpF hf hkk hzl hIr hmB
    go_wp2_with fail
    refine C1.out.mono ?_
    rintro e V1 ⟨⟨g1, rfl, hS1, _⟩, hb1⟩
    rw [show ((List.range n).map fun q => strOfNums (kbs (sgL T.nx (zs B) q))).length = n by simp]
    have hS1r := hS1.row
    rw [show ((List.range n).map fun q => strOfNums (kbs (sgL T.nx (zs B) q))).length = n by simp] at hS1r
    have C2 := hid (ranksS_any V1 (some ⟨g1, 0, none⟩) n n _ hS1r (by omega) _ rfl)
    rw [strs_ref HA.out.2.2 HQ.out.1 HQ.out.2.1 hn] at C2
    have HV1 := hid (And.intro (HB.out.1.trans (hb1.mono HB.out.1.size)) hb1)
    clear hS1 hb1 d0 d1 C1 hS1r
    go_wp2_with fail
    refine C2.out.mono ?_
    rintro e V2 ⟨⟨g2, rfl, hI2, hg2⟩, hb2⟩
    rw [zs_len, Mi.ref_len]
    have hb2w : Below w.heap.size w V2 := HV1.out.1.trans (hb2.mono HV1.out.1.size)
    have hbr : Below wr.heap.size wr V2 := HV1.out.2.trans (hb2.mono HV1.out.2.size)
    have hI2r := hI2.row
    rw [zs_len, Mi.ref_len] at hI2r
    have hIb := HB.out.2.2.1.keep hbr
    have hIbr := hIb.row
    rw [zs_len, HQ.out.1] at hIbr
    obtain ⟨m1, hm1⟩ : ∃ m, m = mxi (zs (Mi.ref T n B)) (n - 1) := ⟨_, rfl⟩
    obtain ⟨m2, hm2⟩ : ∃ m, m = mxi (zs B) (n - 1) := ⟨_, rfl⟩
    have C3 := hid (max_any V2 (some ⟨g2, 0, none⟩) n n _ hI2r h0 (by omega) m1 hm1)
    have C4 := hid (max_any V2 (some ⟨b, 0, none⟩) n n _ hIbr h0 (by omega) m2 hm2)
    have hmR := mx_ranks (Mi.ref T n B) (by rw [Mi.ref_len]; omega)
    rw [Mi.ref_canon, Mi.ref_len] at hmR
    have e1 : m1 + 1 = (Mi.nb (Mi.ref T n B) : Int) := by rw [hm1]; exact hmR
    have e2 : m2 + 1 = (Mi.nb B : Int) := by rw [hm2]; exact HM.out
    have HE := hid (And.intro e1 e2)
    have hx2 := (hbr.block _ (heap_lt HB.out.2.1)).trans HB.out.2.1
    have HV2 := hid (And.intro hb2w (And.intro hI2 (And.intro hIb (And.intro hx2 hg2))))
    have hgw : w.heap.size ≤ g2 := Nat.le_trans HV1.out.1.size hg2
    clear hb2w hbr hI2r hIb hIbr hI2 hm1 hm2 hmR e1 e2 hx2 hb2 C2
    go_wp2_with fail
    refine C3.out.mono ?_
    rintro e V3 ⟨rfl, rfl⟩
    go_wp2_with fail
    refine C4.out.mono ?_
    rintro e V4 ⟨rfl, rfl⟩
    clear C3 C4
    by_cases hq : m1 = m2
    · have hq' : (m1 == m2) = true := by rw [beq_iff_eq]; exact hq
      have HF := hid (show Mi.partF T n f B = B from by
        have hf0 := HQ.out.2.2.2.1
        obtain ⟨f', rfl⟩ : ∃ f', f = f' + 1 := ⟨f - 1, by omega⟩
        unfold Mi.partF
        rw [if_pos (by have := HE.out; omega)])
      go_wp2
      go_ret
      refine ⟨⟨b, rfl, ?_, HB.out.2.2.2⟩, HV2.out.1⟩
      rw [← HQ.out.2.2.1, HF.out]
      exact HV2.out.2.2.1
    · have hq' : (m1 == m2) = false := by rw [beq_eq_false_iff_ne]; exact hq
      have hne : ¬ Mi.nb (Mi.ref T n B) = Mi.nb B := by have := HE.out; omega
      have hle := Mi.nb_ref HA.out.2.2 HQ.out.1
      have hle2 : Mi.nb (Mi.ref T n B) ≤ (Mi.ref T n B).length := Mi.nb_le
      rw [Mi.ref_len] at hle2
      have HF := hid (show ∃ f', f = f' + 1 ∧ Mi.partF T n f' (Mi.ref T n B) = Mi.part T n from by
        have hf0 := HQ.out.2.2.2.1
        obtain ⟨f', rfl⟩ : ∃ f', f = f' + 1 := ⟨f - 1, by omega⟩
        refine ⟨f', rfl, ?_⟩
        have h9 := HQ.out.2.2.1
        unfold Mi.partF at h9
        rwa [if_neg hne] at h9)
      go_wp2
      obtain ⟨f', e9, h9⟩ := HF.out
      have h8 := HQ.out.2.2.2
      go_roundg (gk - 1)
      case measure => omega
      case rel => exact ⟨g2, f', Mi.ref T n B, rfl, HV2.out.2.1, hgw, Mi.ref_len _ _ _, Mi.ref_canon _ _ _, h9, by omega, by omega, HV2.out.2.2.2.1, HV2.out.1⟩
end Go.Proofs.Ytelbagaiijffdaa
