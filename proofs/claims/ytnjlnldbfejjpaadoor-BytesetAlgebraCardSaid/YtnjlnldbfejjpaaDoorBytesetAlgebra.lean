/-
  BytesetAlgebra, for every input: the law returns true and leaves its arguments as they read. No condition beside the listed variable's own text (the card ties it).
-/
import Derived.Test.YtnjlnldbfejjpaaDoorY
namespace Go.Proofs.YtnjlnldbfejjpaaDoor.bytesetAlgebra
open Go.ChangeShapes Go.WideShapes Go.ChangeAt Go.RowKit Go.Frame
open Go.ChangeMaps (open_string shut_string)
open Bs
attribute [local irreducible] nb cnt pc els cf fs
attribute [local go_sem] eqIn eql_set neq_set
set_option maxRecDepth 100000 in
set_option maxHeartbeats 4000000 in
theorem walk (a b c : Nat → Bool) (w : World) (hT : Tb w) :
    Calls Tryd.prog 6 #[sv a, sv b, sv c] w fun e w' => e = .returned (.bool true) ∧ Below w.heap.size w w' := by
  obtain ⟨n, hn⟩ : ∃ n : Nat → Bool, n = fun x => !a x := ⟨_, rfl⟩
  obtain ⟨full, hfull⟩ : ∃ full : Nat → Bool, full = rgp 0 256 := ⟨_, rfl⟩
  obtain ⟨z, hz⟩ : ∃ z : Nat → Bool, z = fun _ => false := ⟨_, rfl⟩
  obtain ⟨u, hu⟩ : ∃ u : Nat → Bool, u = fun x => a x || b x := ⟨_, rfl⟩
  obtain ⟨v, hv⟩ : ∃ v : Nat → Bool, v = fun x => !(a x || b x) := ⟨_, rfl⟩
  obtain ⟨m, hm⟩ : ∃ m : Nat → Bool, m = fun x => !b x := ⟨_, rfl⟩
  obtain ⟨d, hd⟩ : ∃ d : Nat → Bool, d = fun x => b x || c x := ⟨_, rfl⟩
  obtain ⟨r, hr⟩ : ∃ r : Nat → Bool, r = fun x => a x && (b x || c x) := ⟨_, rfl⟩
  obtain ⟨s, hs⟩ : ∃ s : Nat → Bool, s = fun x => a x && b x := ⟨_, rfl⟩
  obtain ⟨t, ht⟩ : ∃ t : Nat → Bool, t = fun x => a x && c x := ⟨_, rfl⟩
  have hla := cnt_le a 256
  have hlb := cnt_le b 256
  have hln : cnt n 256 = 256 - cnt a 256 := by have := cnt_not a 256; rw [hn]; omega
  have hlz : cnt z 256 = 0 := by rw [hz]; exact cnt_false 256
  have hlu : cnt u 256 + cnt s 256 = cnt a 256 + cnt b 256 := by rw [hu, hs]; exact cnt_or_and a b 256
  have hlub := cnt_le u 256
  have hlsb := cnt_le s 256
  obtain ⟨La, hLa⟩ : ∃ y, cnt a 256 = y := ⟨_, rfl⟩
  obtain ⟨Lb, hLb⟩ : ∃ y, cnt b 256 = y := ⟨_, rfl⟩
  obtain ⟨Lu, hLu⟩ : ∃ y, cnt u 256 = y := ⟨_, rfl⟩
  obtain ⟨Ls, hLs⟩ : ∃ y, cnt s 256 = y := ⟨_, rfl⟩
  rw [hLa, hLb, hLu, hLs] at hlu
  rw [hLa] at hla hln
  rw [hLb] at hlb
  rw [hLu] at hlub
  rw [hLs] at hlsb
  have K20a := hid (fun V => show Calls Tryd.prog 20 #[.agg #[.int .u64 (wd (a) 0 : Int), .int .u64 (wd (a) 1 : Int), .int .u64 (wd (a) 2 : Int), .int .u64 (wd (a) 3 : Int)]] V fun e w'' => e = .returned (.agg #[.int .u64 (wd (n) 0 : Int), .int .u64 (wd (n) 1 : Int), .int .u64 (wd (n) 2 : Int), .int .u64 (wd (n) 3 : Int)]) ∧ Below V.heap.size V w'' from by have h := Complement_any a V; rw [sv_congr (p := fun x => !a x) (q := n) (fun x hx => by show (fun x => !a x) x = n x; rw [hn])] at h; exact h)
  have K20n := hid (fun V => show Calls Tryd.prog 20 #[.agg #[.int .u64 (wd (n) 0 : Int), .int .u64 (wd (n) 1 : Int), .int .u64 (wd (n) 2 : Int), .int .u64 (wd (n) 3 : Int)]] V fun e w'' => e = .returned (.agg #[.int .u64 (wd (a) 0 : Int), .int .u64 (wd (a) 1 : Int), .int .u64 (wd (a) 2 : Int), .int .u64 (wd (a) 3 : Int)]) ∧ Below V.heap.size V w'' from by have h := Complement_any n V; rw [sv_congr (p := fun x => !n x) (q := a) (fun x hx => by show (fun x => !n x) x = a x; rw [hn]; simp)] at h; exact h)
  have K22n := hid (fun V => show Calls Tryd.prog 22 #[.agg #[.int .u64 (wd (n) 0 : Int), .int .u64 (wd (n) 1 : Int), .int .u64 (wd (n) 2 : Int), .int .u64 (wd (n) 3 : Int)]] V fun e w'' => e = .returned (.int .i64 ((256 - La : Nat) : Int)) ∧ Below V.heap.size V w'' from by have h := Len_any n V; rw [hln] at h; exact h)
  have K22a := hid (fun V => show Calls Tryd.prog 22 #[.agg #[.int .u64 (wd (a) 0 : Int), .int .u64 (wd (a) 1 : Int), .int .u64 (wd (a) 2 : Int), .int .u64 (wd (a) 3 : Int)]] V fun e w'' => e = .returned (.int .i64 (La : Int)) ∧ Below V.heap.size V w'' from by have h := Len_any a V; rw [hLa] at h; exact h)
  have K16an := hid (fun V => show Calls Tryd.prog 16 #[.agg #[.int .u64 (wd (a) 0 : Int), .int .u64 (wd (a) 1 : Int), .int .u64 (wd (a) 2 : Int), .int .u64 (wd (a) 3 : Int)], .agg #[.int .u64 (wd (n) 0 : Int), .int .u64 (wd (n) 1 : Int), .int .u64 (wd (n) 2 : Int), .int .u64 (wd (n) 3 : Int)]] V fun e w'' => e = .returned (.agg #[.int .u64 (wd (full) 0 : Int), .int .u64 (wd (full) 1 : Int), .int .u64 (wd (full) 2 : Int), .int .u64 (wd (full) 3 : Int)]) ∧ Below V.heap.size V w'' from by have h := Union_any a n V; rw [sv_congr (p := fun x => a x || n x) (q := full) (fun x hx => by show (fun x => a x || n x) x = full x; rw [hn, hfull, rgp]; simp [hx])] at h; exact h)
  have K11 := hid (fun V => show Calls Tryd.prog 11 #[.int .u8 0, .int .u8 255] V fun e w'' => e = .returned (.agg #[.int .u64 (wd (full) 0 : Int), .int .u64 (wd (full) 1 : Int), .int .u64 (wd (full) 2 : Int), .int .u64 (wd (full) 3 : Int)]) ∧ Below V.heap.size V w'' from by rw [hfull]; exact Range_any 0 255 V (by decide) (by decide))
  have K18an := hid (fun V => show Calls Tryd.prog 18 #[.agg #[.int .u64 (wd (a) 0 : Int), .int .u64 (wd (a) 1 : Int), .int .u64 (wd (a) 2 : Int), .int .u64 (wd (a) 3 : Int)], .agg #[.int .u64 (wd (n) 0 : Int), .int .u64 (wd (n) 1 : Int), .int .u64 (wd (n) 2 : Int), .int .u64 (wd (n) 3 : Int)]] V fun e w'' => e = .returned (.agg #[.int .u64 (wd (z) 0 : Int), .int .u64 (wd (z) 1 : Int), .int .u64 (wd (z) 2 : Int), .int .u64 (wd (z) 3 : Int)]) ∧ Below V.heap.size V w'' from by have h := Intersect_any a n V; rw [sv_congr (p := fun x => a x && n x) (q := z) (fun x hx => by show (fun x => a x && n x) x = z x; rw [hn, hz]; simp)] at h; exact h)
  have K22z := hid (fun V => show Calls Tryd.prog 22 #[.agg #[.int .u64 (wd (z) 0 : Int), .int .u64 (wd (z) 1 : Int), .int .u64 (wd (z) 2 : Int), .int .u64 (wd (z) 3 : Int)]] V fun e w'' => e = .returned (.int .i64 0) ∧ Below V.heap.size V w'' from by have h := Len_any z V; rw [hlz] at h; exact h)
  have K16ab := hid (fun V => show Calls Tryd.prog 16 #[.agg #[.int .u64 (wd (a) 0 : Int), .int .u64 (wd (a) 1 : Int), .int .u64 (wd (a) 2 : Int), .int .u64 (wd (a) 3 : Int)], .agg #[.int .u64 (wd (b) 0 : Int), .int .u64 (wd (b) 1 : Int), .int .u64 (wd (b) 2 : Int), .int .u64 (wd (b) 3 : Int)]] V fun e w'' => e = .returned (.agg #[.int .u64 (wd (u) 0 : Int), .int .u64 (wd (u) 1 : Int), .int .u64 (wd (u) 2 : Int), .int .u64 (wd (u) 3 : Int)]) ∧ Below V.heap.size V w'' from by have h := Union_any a b V; rw [sv_congr (p := fun x => a x || b x) (q := u) (fun x hx => by show (fun x => a x || b x) x = u x; rw [hu])] at h; exact h)
  have K20u := hid (fun V => show Calls Tryd.prog 20 #[.agg #[.int .u64 (wd (u) 0 : Int), .int .u64 (wd (u) 1 : Int), .int .u64 (wd (u) 2 : Int), .int .u64 (wd (u) 3 : Int)]] V fun e w'' => e = .returned (.agg #[.int .u64 (wd (v) 0 : Int), .int .u64 (wd (v) 1 : Int), .int .u64 (wd (v) 2 : Int), .int .u64 (wd (v) 3 : Int)]) ∧ Below V.heap.size V w'' from by have h := Complement_any u V; rw [sv_congr (p := fun x => !u x) (q := v) (fun x hx => by show (fun x => !u x) x = v x; rw [hu, hv])] at h; exact h)
  have K20b := hid (fun V => show Calls Tryd.prog 20 #[.agg #[.int .u64 (wd (b) 0 : Int), .int .u64 (wd (b) 1 : Int), .int .u64 (wd (b) 2 : Int), .int .u64 (wd (b) 3 : Int)]] V fun e w'' => e = .returned (.agg #[.int .u64 (wd (m) 0 : Int), .int .u64 (wd (m) 1 : Int), .int .u64 (wd (m) 2 : Int), .int .u64 (wd (m) 3 : Int)]) ∧ Below V.heap.size V w'' from by have h := Complement_any b V; rw [sv_congr (p := fun x => !b x) (q := m) (fun x hx => by show (fun x => !b x) x = m x; rw [hm])] at h; exact h)
  have K18nm := hid (fun V => show Calls Tryd.prog 18 #[.agg #[.int .u64 (wd (n) 0 : Int), .int .u64 (wd (n) 1 : Int), .int .u64 (wd (n) 2 : Int), .int .u64 (wd (n) 3 : Int)], .agg #[.int .u64 (wd (m) 0 : Int), .int .u64 (wd (m) 1 : Int), .int .u64 (wd (m) 2 : Int), .int .u64 (wd (m) 3 : Int)]] V fun e w'' => e = .returned (.agg #[.int .u64 (wd (v) 0 : Int), .int .u64 (wd (v) 1 : Int), .int .u64 (wd (v) 2 : Int), .int .u64 (wd (v) 3 : Int)]) ∧ Below V.heap.size V w'' from by have h := Intersect_any n m V; rw [sv_congr (p := fun x => n x && m x) (q := v) (fun x hx => by show (fun x => n x && m x) x = v x; rw [hn, hm, hv]; simp)] at h; exact h)
  have K16bc := hid (fun V => show Calls Tryd.prog 16 #[.agg #[.int .u64 (wd (b) 0 : Int), .int .u64 (wd (b) 1 : Int), .int .u64 (wd (b) 2 : Int), .int .u64 (wd (b) 3 : Int)], .agg #[.int .u64 (wd (c) 0 : Int), .int .u64 (wd (c) 1 : Int), .int .u64 (wd (c) 2 : Int), .int .u64 (wd (c) 3 : Int)]] V fun e w'' => e = .returned (.agg #[.int .u64 (wd (d) 0 : Int), .int .u64 (wd (d) 1 : Int), .int .u64 (wd (d) 2 : Int), .int .u64 (wd (d) 3 : Int)]) ∧ Below V.heap.size V w'' from by have h := Union_any b c V; rw [sv_congr (p := fun x => b x || c x) (q := d) (fun x hx => by show (fun x => b x || c x) x = d x; rw [hd])] at h; exact h)
  have K18ad := hid (fun V => show Calls Tryd.prog 18 #[.agg #[.int .u64 (wd (a) 0 : Int), .int .u64 (wd (a) 1 : Int), .int .u64 (wd (a) 2 : Int), .int .u64 (wd (a) 3 : Int)], .agg #[.int .u64 (wd (d) 0 : Int), .int .u64 (wd (d) 1 : Int), .int .u64 (wd (d) 2 : Int), .int .u64 (wd (d) 3 : Int)]] V fun e w'' => e = .returned (.agg #[.int .u64 (wd (r) 0 : Int), .int .u64 (wd (r) 1 : Int), .int .u64 (wd (r) 2 : Int), .int .u64 (wd (r) 3 : Int)]) ∧ Below V.heap.size V w'' from by have h := Intersect_any a d V; rw [sv_congr (p := fun x => a x && d x) (q := r) (fun x hx => by show (fun x => a x && d x) x = r x; rw [hd, hr])] at h; exact h)
  have K18ab := hid (fun V => show Calls Tryd.prog 18 #[.agg #[.int .u64 (wd (a) 0 : Int), .int .u64 (wd (a) 1 : Int), .int .u64 (wd (a) 2 : Int), .int .u64 (wd (a) 3 : Int)], .agg #[.int .u64 (wd (b) 0 : Int), .int .u64 (wd (b) 1 : Int), .int .u64 (wd (b) 2 : Int), .int .u64 (wd (b) 3 : Int)]] V fun e w'' => e = .returned (.agg #[.int .u64 (wd (s) 0 : Int), .int .u64 (wd (s) 1 : Int), .int .u64 (wd (s) 2 : Int), .int .u64 (wd (s) 3 : Int)]) ∧ Below V.heap.size V w'' from by have h := Intersect_any a b V; rw [sv_congr (p := fun x => a x && b x) (q := s) (fun x hx => by show (fun x => a x && b x) x = s x; rw [hs])] at h; exact h)
  have K18ac := hid (fun V => show Calls Tryd.prog 18 #[.agg #[.int .u64 (wd (a) 0 : Int), .int .u64 (wd (a) 1 : Int), .int .u64 (wd (a) 2 : Int), .int .u64 (wd (a) 3 : Int)], .agg #[.int .u64 (wd (c) 0 : Int), .int .u64 (wd (c) 1 : Int), .int .u64 (wd (c) 2 : Int), .int .u64 (wd (c) 3 : Int)]] V fun e w'' => e = .returned (.agg #[.int .u64 (wd (t) 0 : Int), .int .u64 (wd (t) 1 : Int), .int .u64 (wd (t) 2 : Int), .int .u64 (wd (t) 3 : Int)]) ∧ Below V.heap.size V w'' from by have h := Intersect_any a c V; rw [sv_congr (p := fun x => a x && c x) (q := t) (fun x hx => by show (fun x => a x && c x) x = t x; rw [ht])] at h; exact h)
  have K16st := hid (fun V => show Calls Tryd.prog 16 #[.agg #[.int .u64 (wd (s) 0 : Int), .int .u64 (wd (s) 1 : Int), .int .u64 (wd (s) 2 : Int), .int .u64 (wd (s) 3 : Int)], .agg #[.int .u64 (wd (t) 0 : Int), .int .u64 (wd (t) 1 : Int), .int .u64 (wd (t) 2 : Int), .int .u64 (wd (t) 3 : Int)]] V fun e w'' => e = .returned (.agg #[.int .u64 (wd (r) 0 : Int), .int .u64 (wd (r) 1 : Int), .int .u64 (wd (r) 2 : Int), .int .u64 (wd (r) 3 : Int)]) ∧ Below V.heap.size V w'' from by have h := Union_any s t V; rw [sv_congr (p := fun x => s x || t x) (q := r) (fun x hx => by show (fun x => s x || t x) x = r x; rw [hs, ht, hr]; exact (Bool.and_or_distrib_left _ _ _).symm)] at h; exact h)
  have K22b := hid (fun V => show Calls Tryd.prog 22 #[.agg #[.int .u64 (wd (b) 0 : Int), .int .u64 (wd (b) 1 : Int), .int .u64 (wd (b) 2 : Int), .int .u64 (wd (b) 3 : Int)]] V fun e w'' => e = .returned (.int .i64 (Lb : Int)) ∧ Below V.heap.size V w'' from by have h := Len_any b V; rw [hLb] at h; exact h)
  have K22u := hid (fun V => show Calls Tryd.prog 22 #[.agg #[.int .u64 (wd (u) 0 : Int), .int .u64 (wd (u) 1 : Int), .int .u64 (wd (u) 2 : Int), .int .u64 (wd (u) 3 : Int)]] V fun e w'' => e = .returned (.int .i64 (Lu : Int)) ∧ Below V.heap.size V w'' from by have h := Len_any u V; rw [hLu] at h; exact h)
  have K22s := hid (fun V => show Calls Tryd.prog 22 #[.agg #[.int .u64 (wd (s) 0 : Int), .int .u64 (wd (s) 1 : Int), .int .u64 (wd (s) 2 : Int), .int .u64 (wd (s) 3 : Int)]] V fun e w'' => e = .returned (.int .i64 (Ls : Int)) ∧ Below V.heap.size V w'' from by have h := Len_any s V; rw [hLs] at h; exact h)
  have e1 : IntKind.i64.wrap (256 - (La : Int)) = ((256 - La : Nat) : Int) := by rw [show (256 : Int) - (La : Int) = ((256 - La : Nat) : Int) by omega]; exact wrapIn (by omega) (by omega)
  obtain ⟨y, hy⟩ : ∃ y, y = La + Lb := ⟨_, rfl⟩
  have e2 : IntKind.i64.wrap ((La : Int) + (Lb : Int)) = (y : Int) := by rw [show (La : Int) + (Lb : Int) = (y : Int) by omega]; exact wrapIn (by omega) (by omega)
  have e3 : IntKind.i64.wrap ((Lu : Int) + (Ls : Int)) = (y : Int) := by rw [show (Lu : Int) + (Ls : Int) = (y : Int) by omega]; exact wrapIn (by omega) (by omega)
  obtain ⟨q, hq⟩ : ∃ q, q = 256 - La := ⟨_, rfl⟩
  rw [← hq] at e1 K22n
  clear hn hfull hz hu hv hm hd hr hs ht hla hlb hln hlz hlu hlub hlsb hLa hLb hLu hLs hy hq
  obtain ⟨W, hW⟩ : ∃ W, W = ((w.alloc (.cells #[.int .u64 (wd (a) 0 : Int), .int .u64 (wd (a) 1 : Int), .int .u64 (wd (a) 2 : Int), .int .u64 (wd (a) 3 : Int)] 25)).alloc (.cells #[.int .u64 (wd (b) 0 : Int), .int .u64 (wd (b) 1 : Int), .int .u64 (wd (b) 2 : Int), .int .u64 (wd (b) 3 : Int)] 25)).alloc (.cells #[.int .u64 (wd (c) 0 : Int), .int .u64 (wd (c) 1 : Int), .int .u64 (wd (c) 2 : Int), .int .u64 (wd (c) 3 : Int)] 25) := ⟨_, rfl⟩
  have X := hid (by have := Go.Frame.three w (.cells #[.int .u64 (wd (a) 0 : Int), .int .u64 (wd (a) 1 : Int), .int .u64 (wd (a) 2 : Int), .int .u64 (wd (a) 3 : Int)] 25) (.cells #[.int .u64 (wd (b) 0 : Int), .int .u64 (wd (b) 1 : Int), .int .u64 (wd (b) 2 : Int), .int .u64 (wd (b) 3 : Int)] 25) (.cells #[.int .u64 (wd (c) 0 : Int), .int .u64 (wd (c) 1 : Int), .int .u64 (wd (c) 2 : Int), .int .u64 (wd (c) 3 : Int)] 25); rw [← hW] at this; exact this)
  have HT := hid hT
  obtain ⟨i0, i1, i2, i3⟩ := cells4 X.out.1
  clear hT
  unfold sv
  go_enter Tryd.func6, Tryd.ntmps6
  go_wp2_with fail
  rw [← hW]
  clear hW
  refine (K20a.out _).mono ?_
  rintro e w1 ⟨rfl, x1⟩
  clear i0 i1 i2 i3
  have B1 := hid (X.out.2.2.2.1.trans (x1.mono X.out.2.2.2.1.size))
  have E1 := hid x1
  clear x1
  go_wp2_with fail
  obtain ⟨V, hV⟩ : ∃ V, V = w1.alloc (.cells #[.int .u64 (wd (n) 0 : Int), .int .u64 (wd (n) 1 : Int), .int .u64 (wd (n) 2 : Int), .int .u64 (wd (n) 3 : Int)] 25) := ⟨_, rfl⟩
  have Y := hid (show SB V w.heap.size a ∧ SB V (w.heap.size + 1) b ∧ SB V (w.heap.size + 1 + 1) c ∧ SB V w1.heap.size n ∧ Below w.heap.size w V from by
    have hx := X.out
    have he := E1.out
    rw [hV]
    exact ⟨blk_alloc ((he.block _ (heap_lt hx.1)).trans hx.1), blk_alloc ((he.block _ (heap_lt hx.2.1)).trans hx.2.1), blk_alloc ((he.block _ (heap_lt hx.2.2.1)).trans hx.2.2.1), alloc_new _ _, below_made B1.out B1.out.size⟩)
  rw [← hV]
  clear hV
  refine wp_region_below (by kernel_rfl) (by kernel_rfl) ?_
  intro X' f _ hf hs
  have lk := heap_lt Y.out.1
  have k0 := fun x => (cells4 (((hf.out x).block _ lk).trans Y.out.1)).1
  have k1 := fun x => (cells4 (((hf.out x).block _ lk).trans Y.out.1)).2.1
  have k2 := fun x => (cells4 (((hf.out x).block _ lk).trans Y.out.1)).2.2.1
  have k3 := fun x => (cells4 (((hf.out x).block _ lk).trans Y.out.1)).2.2.2
  have ll := heap_lt Y.out.2.1
  have l0 := fun x => (cells4 (((hf.out x).block _ ll).trans Y.out.2.1)).1
  have l1 := fun x => (cells4 (((hf.out x).block _ ll).trans Y.out.2.1)).2.1
  have l2 := fun x => (cells4 (((hf.out x).block _ ll).trans Y.out.2.1)).2.2.1
  have l3 := fun x => (cells4 (((hf.out x).block _ ll).trans Y.out.2.1)).2.2.2
  have lm := heap_lt Y.out.2.2.1
  have m0 := fun x => (cells4 (((hf.out x).block _ lm).trans Y.out.2.2.1)).1
  have m1 := fun x => (cells4 (((hf.out x).block _ lm).trans Y.out.2.2.1)).2.1
  have m2 := fun x => (cells4 (((hf.out x).block _ lm).trans Y.out.2.2.1)).2.2.1
  have m3 := fun x => (cells4 (((hf.out x).block _ lm).trans Y.out.2.2.1)).2.2.2
  have lp := heap_lt Y.out.2.2.2.1
  have p0 := fun x => (cells4 (((hf.out x).block _ lp).trans Y.out.2.2.2.1)).1
  have p1 := fun x => (cells4 (((hf.out x).block _ lp).trans Y.out.2.2.2.1)).2.1
  have p2 := fun x => (cells4 (((hf.out x).block _ lp).trans Y.out.2.2.2.1)).2.2.1
  have p3 := fun x => (cells4 (((hf.out x).block _ lp).trans Y.out.2.2.2.1)).2.2.2
  repeat (go_big_quiet_step (first
    | (go_at_call 20; with_reducible exact calls_below hf hs (K20n.out _))
    | (go_at_call 22; with_reducible exact calls_below hf hs (K22n.out _))
    | (go_at_call 22; with_reducible exact calls_below hf hs (K22a.out _))
    | (go_at_call 16; with_reducible exact calls_below hf hs (K16an.out _))
    | (go_at_call 11; with_reducible exact calls_below hf hs (K11.out _))
    | (go_at_call 18; with_reducible exact calls_below hf hs (K18an.out _))
    | (go_at_call 22; with_reducible exact calls_below hf hs (K22z.out _))))
  refine wpQuiet_nil ?_
  intro w2 hw2
  have Y2 := hid (show SB w2 w.heap.size a ∧ SB w2 (w.heap.size + 1) b ∧ SB w2 (w.heap.size + 1 + 1) c ∧ SB w2 w1.heap.size n ∧ Below w.heap.size w w2 from by
    obtain ⟨y1, y2, y3, y4, y5⟩ := Y.out
    exact ⟨(hw2.block _ (heap_lt y1)).trans y1, (hw2.block _ (heap_lt y2)).trans y2, (hw2.block _ (heap_lt y3)).trans y3, (hw2.block _ (heap_lt y4)).trans y4, y5.trans (hw2.mono y5.size)⟩)
  clear k0 k1 k2 k3 l0 l1 l2 l3 m0 m1 m2 m3 p0 p1 p2 p3 lk ll lm lp hf hs hw2
  go_wp2_with fail
  refine wp_region_below (by kernel_rfl) (by kernel_rfl) ?_
  intro X' f _ hf hs
  have lk := heap_lt Y2.out.1
  have k0 := fun x => (cells4 (((hf.out x).block _ lk).trans Y2.out.1)).1
  have k1 := fun x => (cells4 (((hf.out x).block _ lk).trans Y2.out.1)).2.1
  have k2 := fun x => (cells4 (((hf.out x).block _ lk).trans Y2.out.1)).2.2.1
  have k3 := fun x => (cells4 (((hf.out x).block _ lk).trans Y2.out.1)).2.2.2
  have ll := heap_lt Y2.out.2.1
  have l0 := fun x => (cells4 (((hf.out x).block _ ll).trans Y2.out.2.1)).1
  have l1 := fun x => (cells4 (((hf.out x).block _ ll).trans Y2.out.2.1)).2.1
  have l2 := fun x => (cells4 (((hf.out x).block _ ll).trans Y2.out.2.1)).2.2.1
  have l3 := fun x => (cells4 (((hf.out x).block _ ll).trans Y2.out.2.1)).2.2.2
  have lm := heap_lt Y2.out.2.2.1
  have m0 := fun x => (cells4 (((hf.out x).block _ lm).trans Y2.out.2.2.1)).1
  have m1 := fun x => (cells4 (((hf.out x).block _ lm).trans Y2.out.2.2.1)).2.1
  have m2 := fun x => (cells4 (((hf.out x).block _ lm).trans Y2.out.2.2.1)).2.2.1
  have m3 := fun x => (cells4 (((hf.out x).block _ lm).trans Y2.out.2.2.1)).2.2.2
  have lp := heap_lt Y2.out.2.2.2.1
  have p0 := fun x => (cells4 (((hf.out x).block _ lp).trans Y2.out.2.2.2.1)).1
  have p1 := fun x => (cells4 (((hf.out x).block _ lp).trans Y2.out.2.2.2.1)).2.1
  have p2 := fun x => (cells4 (((hf.out x).block _ lp).trans Y2.out.2.2.2.1)).2.2.1
  have p3 := fun x => (cells4 (((hf.out x).block _ lp).trans Y2.out.2.2.2.1)).2.2.2
  repeat (go_big_quiet_step (first
    | (go_at_call 16; with_reducible exact calls_below hf hs (K16ab.out _))
    | (go_at_call 20; with_reducible exact calls_below hf hs (K20u.out _))
    | (go_at_call 20; with_reducible exact calls_below hf hs (K20b.out _))
    | (go_at_call 18; with_reducible exact calls_below hf hs (K18nm.out _))))
  refine wpQuiet_nil ?_
  intro w3 hw3
  have Y3 := hid (show SB w3 w.heap.size a ∧ SB w3 (w.heap.size + 1) b ∧ SB w3 (w.heap.size + 1 + 1) c ∧ SB w3 w1.heap.size n ∧ Below w.heap.size w w3 from by
    obtain ⟨y1, y2, y3, y4, y5⟩ := Y2.out
    exact ⟨(hw3.block _ (heap_lt y1)).trans y1, (hw3.block _ (heap_lt y2)).trans y2, (hw3.block _ (heap_lt y3)).trans y3, (hw3.block _ (heap_lt y4)).trans y4, y5.trans (hw3.mono y5.size)⟩)
  clear k0 k1 k2 k3 l0 l1 l2 l3 m0 m1 m2 m3 p0 p1 p2 p3 lk ll lm lp hf hs hw3
  go_wp2_with fail
  refine wp_region_below (by kernel_rfl) (by kernel_rfl) ?_
  intro X' f _ hf hs
  have lk := heap_lt Y3.out.1
  have k0 := fun x => (cells4 (((hf.out x).block _ lk).trans Y3.out.1)).1
  have k1 := fun x => (cells4 (((hf.out x).block _ lk).trans Y3.out.1)).2.1
  have k2 := fun x => (cells4 (((hf.out x).block _ lk).trans Y3.out.1)).2.2.1
  have k3 := fun x => (cells4 (((hf.out x).block _ lk).trans Y3.out.1)).2.2.2
  have ll := heap_lt Y3.out.2.1
  have l0 := fun x => (cells4 (((hf.out x).block _ ll).trans Y3.out.2.1)).1
  have l1 := fun x => (cells4 (((hf.out x).block _ ll).trans Y3.out.2.1)).2.1
  have l2 := fun x => (cells4 (((hf.out x).block _ ll).trans Y3.out.2.1)).2.2.1
  have l3 := fun x => (cells4 (((hf.out x).block _ ll).trans Y3.out.2.1)).2.2.2
  have lm := heap_lt Y3.out.2.2.1
  have m0 := fun x => (cells4 (((hf.out x).block _ lm).trans Y3.out.2.2.1)).1
  have m1 := fun x => (cells4 (((hf.out x).block _ lm).trans Y3.out.2.2.1)).2.1
  have m2 := fun x => (cells4 (((hf.out x).block _ lm).trans Y3.out.2.2.1)).2.2.1
  have m3 := fun x => (cells4 (((hf.out x).block _ lm).trans Y3.out.2.2.1)).2.2.2
  have lp := heap_lt Y3.out.2.2.2.1
  have p0 := fun x => (cells4 (((hf.out x).block _ lp).trans Y3.out.2.2.2.1)).1
  have p1 := fun x => (cells4 (((hf.out x).block _ lp).trans Y3.out.2.2.2.1)).2.1
  have p2 := fun x => (cells4 (((hf.out x).block _ lp).trans Y3.out.2.2.2.1)).2.2.1
  have p3 := fun x => (cells4 (((hf.out x).block _ lp).trans Y3.out.2.2.2.1)).2.2.2
  repeat (go_big_quiet_step (first
    | (go_at_call 16; with_reducible exact calls_below hf hs (K16bc.out _))
    | (go_at_call 18; with_reducible exact calls_below hf hs (K18ad.out _))
    | (go_at_call 18; with_reducible exact calls_below hf hs (K18ab.out _))
    | (go_at_call 18; with_reducible exact calls_below hf hs (K18ac.out _))
    | (go_at_call 16; with_reducible exact calls_below hf hs (K16st.out _))))
  refine wpQuiet_nil ?_
  intro w4 hw4
  have Y4 := hid (show SB w4 w.heap.size a ∧ SB w4 (w.heap.size + 1) b ∧ SB w4 (w.heap.size + 1 + 1) c ∧ SB w4 w1.heap.size n ∧ Below w.heap.size w w4 from by
    obtain ⟨y1, y2, y3, y4, y5⟩ := Y3.out
    exact ⟨(hw4.block _ (heap_lt y1)).trans y1, (hw4.block _ (heap_lt y2)).trans y2, (hw4.block _ (heap_lt y3)).trans y3, (hw4.block _ (heap_lt y4)).trans y4, y5.trans (hw4.mono y5.size)⟩)
  clear k0 k1 k2 k3 l0 l1 l2 l3 m0 m1 m2 m3 p0 p1 p2 p3 lk ll lm lp hf hs hw4
  go_wp2_with fail
  have CA := hid (fun V (hV : Below w4.heap.size w4 V) => awake_any V ((HT.out.below Y4.out.2.2.2.2).below hV))
  refine wp_region_below (by kernel_rfl) (by kernel_rfl) ?_
  intro X' f _ hf hs
  have lk := heap_lt Y4.out.1
  have k0 := fun x => (cells4 (((hf.out x).block _ lk).trans Y4.out.1)).1
  have k1 := fun x => (cells4 (((hf.out x).block _ lk).trans Y4.out.1)).2.1
  have k2 := fun x => (cells4 (((hf.out x).block _ lk).trans Y4.out.1)).2.2.1
  have k3 := fun x => (cells4 (((hf.out x).block _ lk).trans Y4.out.1)).2.2.2
  have ll := heap_lt Y4.out.2.1
  have l0 := fun x => (cells4 (((hf.out x).block _ ll).trans Y4.out.2.1)).1
  have l1 := fun x => (cells4 (((hf.out x).block _ ll).trans Y4.out.2.1)).2.1
  have l2 := fun x => (cells4 (((hf.out x).block _ ll).trans Y4.out.2.1)).2.2.1
  have l3 := fun x => (cells4 (((hf.out x).block _ ll).trans Y4.out.2.1)).2.2.2
  have lm := heap_lt Y4.out.2.2.1
  have m0 := fun x => (cells4 (((hf.out x).block _ lm).trans Y4.out.2.2.1)).1
  have m1 := fun x => (cells4 (((hf.out x).block _ lm).trans Y4.out.2.2.1)).2.1
  have m2 := fun x => (cells4 (((hf.out x).block _ lm).trans Y4.out.2.2.1)).2.2.1
  have m3 := fun x => (cells4 (((hf.out x).block _ lm).trans Y4.out.2.2.1)).2.2.2
  have lp := heap_lt Y4.out.2.2.2.1
  have p0 := fun x => (cells4 (((hf.out x).block _ lp).trans Y4.out.2.2.2.1)).1
  have p1 := fun x => (cells4 (((hf.out x).block _ lp).trans Y4.out.2.2.2.1)).2.1
  have p2 := fun x => (cells4 (((hf.out x).block _ lp).trans Y4.out.2.2.2.1)).2.2.1
  have p3 := fun x => (cells4 (((hf.out x).block _ lp).trans Y4.out.2.2.2.1)).2.2.2
  repeat (go_big_quiet_step (first
    | (go_at_call 9; with_reducible exact calls_below hf hs (CA.out _ (hf.out _)))
    | (go_at_call 22; with_reducible exact calls_below hf hs (K22a.out _))
    | (go_at_call 22; with_reducible exact calls_below hf hs (K22b.out _))
    | (go_at_call 16; with_reducible exact calls_below hf hs (K16ab.out _))
    | (go_at_call 22; with_reducible exact calls_below hf hs (K22u.out _))
    | (go_at_call 18; with_reducible exact calls_below hf hs (K18ab.out _))
    | (go_at_call 22; with_reducible exact calls_below hf hs (K22s.out _))))
  refine wpQuiet_nil ?_
  intro w5 h5
  clear k0 k1 k2 k3 l0 l1 l2 l3 m0 m1 m2 m3 p0 p1 p2 p3 lk ll lm lp hf hs
  go_wp2
  go_ret
  exact ⟨by simp, Y4.out.2.2.2.2.trans (h5.mono Y4.out.2.2.2.2.size)⟩

set_option maxRecDepth 100000 in
theorem lifted (os : Os) (started : os.Started) (H : Type) (enc : TypeId × Value → H) :
    ReturnsInHanded {} Tryd.checked os 6 .any (fun w args => (Rows.bytesetAlgebraSpec.pre enc Tryd.prog Tryd.f6 [] false w args ∧ laidMetH Tryd.prog laidT w) ∧ sizedMet enc Tryd.prog Tryd.f6 (OpenSpec.ofChange Rows.bytesetAlgebraSpec) false w args) (Rows.bytesetAlgebraSpec.post enc Tryd.prog Tryd.f6 false true false false) := by
  refine Go.Frame.lifted_laid (C := Tryd.checked) (tb := 4) laidT own started (by kernel_rfl) Tryd.func6
    (ChangeSpec.witness_shaped (enc := enc) (C := Tryd.checked) (os := os) (X := fun w _ => laidMetH Tryd.prog laidT w) false (World.doorLaid Tryd.prog 400 os) #[.agg #[.int .u64 0, .int .u64 0, .int .u64 0, .int .u64 0], .agg #[.int .u64 0, .int .u64 0, .int .u64 0, .int .u64 0], .agg #[.int .u64 0, .int .u64 0, .int .u64 0, .int .u64 0]] 8 rfl (World.shaped_of_RefB (by kernel_rfl) (by kernel_rfl)) (by kernel_rfl) (by kernel_rfl) (by kernel_rfl) (door_met os _))
    laidOut (by kernel_rfl) (by kernel_rfl) Tryd.underlying4 rfl ?_ ?_
  · intro ds h
    have h : ds.length = 3 := h
    match ds, h with
    | [_, _, _], _ => rfl
  · intro W base args ds p hlen hval0 hA hsz0 hlaid
    have hval : ∀ (j : Nat) t v, Tryd.f6.params[j]? = some t → args[j]? = some v → Value.okWide Tryd.prog W .any base t v := hval0
    have hA : DataW.TrodAll enc Tryd.prog W 0 (fun _ => true) true Tryd.f6.params.toList args.toList ds p := hA
    have hsz : (DataW.weightsEach Tryd.prog Tryd.f6.params.toList ds).all (· ≤ reachBytes) = true := hsz0
    have hT := tb_of_laid hlaid
    rw [Tryd.params6] at hA hval hsz
    obtain ⟨v0, vs0, d0, ds0, p0, q0, hargs, hds, _, th0, tr0⟩ := trodAll_cons hA
    obtain ⟨v1, vs1, d1, ds1, p1, q1, rfl, rfl, _, th1, tr1⟩ := trodAll_cons tr0
    obtain ⟨v2, vs2, d2, ds2, p2, q2, rfl, rfl, _, th2, tr2⟩ := trodAll_cons tr1
    obtain ⟨rfl, rfl, _⟩ := trodAll_nil tr2
    obtain rfl : args = #[v0, v1, v2] := by cases args; simp_all
    subst hds
    obtain ⟨q0, rfl⟩ := open_set (hval 0 25 v0 rfl rfl) th0
    obtain ⟨q1, rfl⟩ := open_set (hval 1 25 v1 rfl rfl) th1
    obtain ⟨q2, rfl⟩ := open_set (hval 2 25 v2 rfl rfl) th2
    exact walk q0 q1 q2 W  hT

theorem over : Rows.BytesetAlgebraSaid :=
  OpenClaim.holds_of_wide 6 Tryd.f6 rfl rfl rfl rfl rfl rfl rfl ⟨rfl, rfl, rfl, rfl, rfl⟩ rfl rfl rfl rfl rfl (by kernel_rfl) Tryd.func6 (by kernel_rfl)
    (of_decide_eq_true (by kernel_rfl)) (by unfold Func.isWrapper; first | (rw [if_pos (by decide +kernel)]; kernel_rfl) | (rw [if_neg (by decide +kernel)]; exact ⟨rfl, rfl⟩))
    (fun os started H enc _ => lifted os started H enc)

/-- THE STATEMENT: the tied card. -/
theorem proved : Rows.BytesetAlgebraCardSaid :=
  Claim7.holds_tied_plain_at .later [] [.data] true (true, "f672231fa7014273d113998005b6c842c6084454db453b3aa5ceee129e95c009") false
    over (fun _ h => by cases h) (by kernel_rfl) (fun _ h => by cases h) bytesetAlgebra_row_tie rfl ⟨rfl, rfl⟩ (by kernel_rfl) rfl
    (fun f fn hf hfn => by
      obtain rfl : f = 6 := Option.some.inj ((show Tryd.prog.funcNamed "emendate/emendatelaw07.BytesetAlgebra" = some 6 by kernel_rfl).symm.trans hf) |>.symm
      obtain rfl : fn = Tryd.f6 := (Option.some.inj (Tryd.func6.symm.trans hfn)).symm
      exact ⟨by kernel_rfl, fun j t ht => by
        rw [Tryd.params6] at ht
        have hm : t ∈ [25, 25, 25] := by simpa using Array.mem_of_getElem? ht
        have hall : ([25, 25, 25].all fun u => !Tryd.prog.wantsStandIn u) = true := by kernel_rfl
        exact (show Tryd.prog.wantsStandIn t = false by simpa using List.all_eq_true.1 hall t hm)⟩)
    (by kernel_rfl)
#print axioms proved
end Go.Proofs.YtnjlnldbfejjpaaDoor.bytesetAlgebra
