/-
  Contracts: Text, the reference's Text.
-/
import Derived.Test.YtblcjjhjgoccgaaG
import Derived.Test.YtblcjjhjgoccgaaShelf
set_option linter.unusedSimpArgs false
set_option linter.unusedVariables false
namespace Go.Proofs.Ytblcjjhjgoccgaa
open Go.RowKit Lx Go.Frame

theorem builder_grow0 {B b : Nat} {bs : List Value} {w w' : World} (h : Lib.IsBuilderF 72 5 B b bs w) (hg : w.grownBy w' none) : Lib.IsBuilderF 72 5 B b bs w' := by
  have key : ∀ p, Lib.BuilderAtF 72 5 B b p bs w → Lib.BuilderAtF 72 5 B b p bs w' := by
    rintro p ⟨hB, v, hb, hown, hne⟩
    exact ⟨hB, v, (hg.block b (heap_lt hb) (by simp)).trans hb, hown.kept hg (Decidable.em _), hne⟩
  exact h.imp (key _) (key _)
/-- The bytes of the texts. -/
def txb (l : List TQ) : List UInt8 := l.flatMap fun t => t.2.2.1.data.toList
theorem txb_app (a b : List TQ) : txb (a ++ b) = txb a ++ txb b := by simp [txb]
theorem txb_one (t : TQ) : txb [t] = t.2.2.1.data.toList := by simp [txb]
theorem txb_snoc {l : List TQ} {i : Nat} {t : TQ} (h : l[i]? = some t) : txb (l.take (i + 1)) = txb (l.take i) ++ t.2.2.1.data.toList := by
  rw [List.take_add_one, h, txb_app]; simp [txb]
theorem txb_le {l : List TQ} {i : Nat} {t : TQ} (h : l[i]? = some t) : (txb (l.take i)).length + t.2.2.1.size ≤ (txb l).length := by
  have e : txb l = txb (l.take (i + 1)) ++ txb (l.drop (i + 1)) := by rw [← txb_app, List.take_append_drop]
  rw [e, txb_snoc h, List.length_append, List.length_append]
  have : t.2.2.1.data.toList.length = t.2.2.1.size := rfl
  omega
set_option maxRecDepth 100000 in
set_option maxHeartbeats 4000000 in
theorem Text_any (w : World) (a : Option Addr) (n c : Nat) (l : List TQ) (h : TRow w a n l) (hn : n ≤ 140737488355328) (ht : (txb l).length ≤ 1000000) :
    Calls Try.prog 22 #[.slice a n c] w fun e w' => e = .returned (.string ⟨(txb l).toArray⟩) ∧ Below w.heap.size w w' := by
  have H := hid h
  have HL := hid h.len
  have HT := hid ht
  obtain ⟨W, hW⟩ : ∃ W, W = w.alloc (.cells #[.pointer none, .slice none 0 0] 72) := ⟨_, rfl⟩
  have x1 := alloc_new w (.cells #[.pointer none, .slice none 0 0] 72)
  have bW := bel1 w (.cells #[.pointer none, .slice none 0 0] 72)
  rw [← hW] at x1 bW
  have hI : Lib.IsBuilderF 72 5 w.heap.size w.heap.size (Lib.byteCells (txb [])) W := .inl ⟨Nat.le_refl _, _, x1, World.ownsRowF_of (World.ownsRow_nil _ _ _ _), by simp [Value.ownBlock]⟩
  have HW := hid (And.intro hI bW)
  clear h ht x1 hI bW
  go_enter Try.func22, Try.ntmps22
  go_upto_region 2 with fail
  rw [← hW]
  clear hW
  go_wp2_with fail
  go_loopg [8] n (fun kk s8 wr => ∃ i : Nat, s8 = .int .i64 (i : Int) ∧ i + kk = n ∧ Lib.IsBuilderF 72 5 w.heap.size w.heap.size (Lib.byteCells (txb (l.take i))) wr ∧ Below w.heap.size w wr)
  case atStart => exact ⟨0, rfl, by omega, by rw [List.take_zero]; exact HW.out.1, HW.out.2⟩
  case round =>
    obtain ⟨i, rfl, hk, hI, hb⟩ := hrel
    by_cases hlt : i < n
    · have hlt' : (i : Int) < (n : Int) := by omega
      have hi0 : (0 : Int) ≤ (i : Int) := by omega
      have hi1 : IntKind.i64.wrap ((i : Int) + 1) = (i : Int) + 1 := wrapIn (by omega) (by omega)
      obtain ⟨b, o, ⟨xk, xa, xs, xl⟩, rfl, _, hx, x0, x1, x2, x3⟩ := trow_at (H.out.below hb) hlt
      simp only at x0 x1 x2 x3
      have HX := hid (show txb (l.take (i + 1)) = txb (l.take i) ++ xs.data.toList from txb_snoc hx)
      have HLe := hid (show (txb (l.take i)).length + xs.size ≤ 1000000 from by have := txb_le hx; have := HT.out; simp only at *; omega)
      obtain ⟨X, hX⟩ : ∃ X, X = wr.alloc (.cells #[.int .i64 xk, .int .i64 xa, .string xs, .int .i64 xl] 47) := ⟨_, rfl⟩
      have y1 := alloc_new wr (.cells #[.int .i64 xk, .int .i64 xa, .string xs, .int .i64 xl] 47)
      have hI2 := builder_grow0 hI (World.grownBy_alloc wr (.cells #[.int .i64 xk, .int .i64 xa, .string xs, .int .i64 xl] 47) none)
      have hb2 := hb.alloc hb.size (.cells #[.int .i64 xk, .int .i64 xa, .string xs, .int .i64 xl] 47)
      rw [← hX] at y1 hI2 hb2
      obtain ⟨_, _, e2, _⟩ := cells4 y1
      have CW := hid (Try.Builder_WriteString_k w.heap.size w.heap.size _ xs X hI2 (by rw [Lib.byteCells_length]; have := HLe.out; omega) hb2.size)
      have HB := hid hb2
      clear hI hb hx hI2 hb2 y1
      go_upto_region 5 with fail
      rw [← hX]
      clear hX x0 x1 x2 x3
      go_wp2_with fail
      refine CW.out.mono ?_
      rintro e V ⟨rfl, hbt, kV, _⟩
      have HV := hid (show Lib.IsBuilderF 72 5 w.heap.size w.heap.size (Lib.byteCells (txb (l.take (i + 1)))) V from by rw [HX.out, Lib.byteCells_append]; exact Or.inr hbt)
      have HBV := hid (HB.out.trans kV)
      clear hbt kV e2 CW
      go_wp2
      go_roundg (gk - 1)
      case measure => omega
      case rel => exact ⟨i + 1, by go_num, by omega, HV.out, HBV.out⟩
    · have hlt' : ¬ (i : Int) < (n : Int) := by omega
      have hall : l.take i = l := List.take_of_length_le (by have := HL.out; omega)
      rw [hall] at hI
      have CS := hid (Try.Builder_String_any_k w.heap.size w.heap.size (txb l) wr hI hb.size)
      have HB := hid hb
      clear hI hb hall
      go_wp2_with fail
      refine CS.out.mono ?_
      rintro e V ⟨rfl, _, kV, _⟩
      have HBV := hid (HB.out.trans kV)
      clear kV CS
      go_wp2
      go_ret
      exact ⟨rfl, HBV.out⟩
set_option maxRecDepth 100000 in
set_option maxHeartbeats 4000000 in
theorem RText_any (w : World) (a : Option Addr) (n c : Nat) (l : List TQ) (h : TRow w a n l) (hn : n ≤ 140737488355328) (ht : (txb l).length ≤ 1000000) :
    Calls Try.prog 18 #[.slice a n c] w fun e w' => e = .returned (.string ⟨(txb l).toArray⟩) ∧ Below w.heap.size w w' := by
  have H := hid h
  have HL := hid h.len
  have HT := hid ht
  clear h ht
  go_enter Try.func18, Try.ntmps18
  go_wp2_with fail
  go_loopg [3, 4] n (fun kk s3 s4 wr => ∃ (i : Nat) (s : ByteArray), s3 = .string s ∧ s4 = .int .i64 (i : Int) ∧ i + kk = n ∧ s = ⟨(txb (l.take i)).toArray⟩ ∧ Below w.heap.size w wr)
  case atStart => exact ⟨0, ⟨#[]⟩, rfl, rfl, by omega, rfl, Below.refl _ _⟩
  case round =>
    obtain ⟨i, s, rfl, rfl, hk, hs, hb⟩ := hrel
    by_cases hlt : i < n
    · have hlt' : (i : Int) < (n : Int) := by omega
      have hi0 : (0 : Int) ≤ (i : Int) := by omega
      have hi1 : IntKind.i64.wrap ((i : Int) + 1) = (i : Int) + 1 := wrapIn (by omega) (by omega)
      obtain ⟨b, o, ⟨xk, xa, xs, xl⟩, rfl, _, hx, x0, x1, x2, x3⟩ := trow_at (H.out.below hb) hlt
      simp only at x0 x1 x2 x3
      have hlen : s.size + xs.size ≤ 1000000 := by
        have h1 := txb_le hx
        have h2 := HT.out
        have h3 : s.size = (txb (l.take i)).length := by rw [hs]; simp [ByteArray.size]
        simp only at h1; omega
      have hns : ¬ 9223372036854775807 < s.size + xs.size := by omega
      have HX := hid (show s ++ xs = ⟨(txb (l.take (i + 1))).toArray⟩ from by
        rw [txb_snoc hx, hs]
        apply ByteArray.ext
        simp [ByteArray.data_append])
      have HB := hid hb
      clear hs hx hb
      go_wp2
      go_roundg (gk - 1)
      case measure => omega
      case rel => exact ⟨i + 1, s ++ xs, by first | rfl | go_num, by go_num, by omega, HX.out, HB.out⟩
    · have hlt' : ¬ (i : Int) < (n : Int) := by omega
      have hall : l.take i = l := List.take_of_length_le (by have := HL.out; omega)
      rw [hall] at hs
      have HS := hid hs
      clear hs hall
      go_wp2
      go_ret
      exact ⟨by rw [← HS.out]; rfl, hb⟩

end Go.Proofs.Ytblcjjhjgoccgaa
