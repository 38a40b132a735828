/-
  The pieces that visit yields: plain mathematics.
-/
import Derived.Test.YtaafnodabjbakaaG
namespace Go.Proofs.Ytaafnodabjbakaa
open Go.RowKit Rp

/-- A piece that Chunks yields. -/
abbrev Pc := { s : ByteArray // 1 ≤ s.size ∧ s.size ≤ 64 }

/-- The pieces of the blocks of T between two offsets. -/
def vis : BT → Int → Int → List ByteArray
  | .leaf s, f, t => if min t s.size ≤ max f 0 then [] else [s.extract (max f 0).toNat (min t s.size).toNat]
  | .node l r, f, t => if min t (l.size + r.size : Nat) ≤ max f 0 then [] else vis l (max f 0) (min t (l.size + r.size : Nat)) ++ vis r (max f 0 - l.size) (min t (l.size + r.size : Nat) - l.size)

theorem vis_tx : ∀ (T : BT) (f t : Int), tx (vis T f t) = (T.text.drop (max f 0).toNat).take (min t T.size - max f 0).toNat
  | .leaf s, f, t => by
    unfold vis
    show _ = (s.data.toList.drop _).take (min t (s.size : Int) - max f 0).toNat
    split
    · rename_i h
      have : (min t (s.size : Int) - max f 0).toNat = 0 := by omega
      rw [this]; rfl
    · rename_i h
      simp only [tx, List.append_nil]
      rw [extract_toList]
      congr 1; omega
  | .node l r, f, t => by
    unfold vis
    show _ = ((l.text ++ r.text).drop _).take (min t ((l.size + r.size : Nat) : Int) - max f 0).toNat
    split
    · rename_i h
      have : (min t ((l.size + r.size : Nat) : Int) - max f 0).toNat = 0 := by omega
      rw [this]; rfl
    · rename_i h
      rw [tx_append, vis_tx l, vis_tx r, List.drop_append, List.take_append, l.text_length]
      have hl := l.text_length
      have hr := r.text_length
      generalize hm : min t ((l.size + r.size : Nat) : Int) = c at *
      obtain ⟨a, ha⟩ : ∃ a : Nat, max f 0 = (a : Int) := ⟨(max f 0).toNat, by omega⟩
      rw [ha] at h ⊢
      have e1 : (max (a : Int) 0).toNat = a := by omega
      have e2 : ((a : Int)).toNat = a := by omega
      rw [e1, e2]
      congr 1
      · by_cases hc : c ≤ l.size
        · have : min c (l.size : Int) = c := by omega
          rw [this]
          have : max (a : Int) 0 = (a : Int) := by omega
          rw [this]
        · rw [List.take_of_length_le (by rw [List.length_drop, hl]; omega), List.take_of_length_le (by rw [List.length_drop, hl]; omega)]
      · have e3 : (max ((a : Int) - (l.size : Int)) 0).toNat = a - l.size := by omega
        rw [e3]
        congr 1
        rw [List.length_drop, hl]
        omega

theorem vis_size : ∀ (T : BT) (f t : Int), Tight T.lv → ∀ s ∈ vis T f t, 1 ≤ s.size ∧ s.size ≤ 64
  | .leaf b, f, t, ht, s, hs => by
    unfold vis at hs
    split at hs
    · cases hs
    · rename_i h
      simp only [List.mem_singleton] at hs
      subst hs
      have h1 : b.size ≤ 64 := ht.2.1
      rw [ByteArray.size_extract]
      omega
  | .node l r, f, t, ht, s, hs => by
    unfold vis at hs
    split at hs
    · cases hs
    · rcases List.mem_append.1 hs with h | h
      · exact vis_size l _ _ (Tight.left (ys := r.lv) ht) s h
      · exact vis_size r _ _ (Tight.right (xs := l.lv) ht) s h

theorem lift_pc : ∀ (l : List ByteArray), (∀ s ∈ l, 1 ≤ s.size ∧ s.size ≤ 64) → ∃ vs : List Pc, vs.map (·.1) = l
  | [], _ => ⟨[], rfl⟩
  | a :: r, h => by
    obtain ⟨vs, hv⟩ := lift_pc r (fun s hs => h s (by simp [hs]))
    exact ⟨⟨a, h a (by simp)⟩ :: vs, by simp [hv]⟩

/-- The text of a list of pieces. -/
def px (vs : List Pc) : List UInt8 := tx (vs.map (·.1))
theorem px_snoc (vs : List Pc) (x : Pc) : px (vs ++ [x]) = px vs ++ x.1.data.toList := by simp [px, tx_append, tx]
theorem px_append (a b : List Pc) : px (a ++ b) = px a ++ px b := by simp [px, tx_append]
theorem px_len (vs : List Pc) : vs.length ≤ (px vs).length ∧ (px vs).length ≤ 64 * vs.length := by
  induction vs with
  | nil => exact ⟨Nat.le_refl _, Nat.le_refl _⟩
  | cons a r ih =>
    have h := a.2
    have e : (px (a :: r)).length = a.1.size + (px r).length := by simp [px, tx]
    rw [e]; simp only [List.length_cons]; omega

end Go.Proofs.Ytaafnodabjbakaa
