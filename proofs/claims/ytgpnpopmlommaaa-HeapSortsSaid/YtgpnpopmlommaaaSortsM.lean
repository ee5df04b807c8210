/- HeapSorts' walk. -/
import Derived.Test.YtgpnpopmlommaaaSortsL
namespace Go.Proofs.Ytgpnpopmlommaaa
open Go.RowKit Go.Maps
set_option linter.unusedVariables false
theorem sorts_short (A : Option Addr) (n c : Nat) (xs : List Int) (w : World) (h : Ints w A n xs) (hb : ∀ k, -9223372036854775808 ≤ xs.getD k 0 ∧ xs.getD k 0 ≤ 9223372036854775807) (hc : n ≤ c) (hn : n ≤ 60) :
    Calls Try.prog 4 #[.slice A n c] w fun e w' => e = .returned (.bool true) ∧ Below w.heap.size w w' := by
  have HX := Lib.hid h
  have HB := Lib.hid hb
  have HS : Hid (Calls Try.prog 14 #[.slice A n c] w (SortedPost w n xs)) := Lib.hid (sorted_any A n c xs w h (by omega))
  have HR : Hid (∀ w1, Below w.heap.size w w1 → Calls Try.prog 15 #[.slice A n c] w1 (RefSorted w1 xs n)) := Lib.hid fun w1 h1 => ref_sorted A n c xs w1 (HX.out.keep h1) HB.out (by omega)
  have HE : Hid (∀ w1 w2 D f A2 c2 r, DataIs w1 D n n f → SortedOn (keyOfI xs) f 0 n → Moved 0 n (filled n) f → Ints w2 A2 n (r.map (·.1)) → Has LtI r → r.Perm (row (upQ xs) n) → Below w1.heap.size w1 w2 →
      Calls Try.prog 13 #[.slice (some ⟨D, 0, none⟩) n n, .slice A2 n c2] w2 fun e w' => e = .returned (.bool true) ∧ Below w2.heap.size w2 w') := by
    refine Lib.hid fun w1 w2 D f A2 c2 r h1 h2 h3 h4 h5 h6 h7 => ?_
    have h8 := SameI.same_ref (some ⟨D, 0, none⟩) A2 n n n c2 _ _ w2 (h1.ints.keep h7) h4 (by unfold maxLen; omega) (by unfold maxLen; omega)
    rw [sorted_is h2 h3 h5 h6] at h8
    simpa using h8
  have hd : decide ((60 : Int) < (n : Int)) = false := decide_eq_false (by omega)
  clear h hb
  go_enter Try.func4, Try.ntmps4
  go_wp2_with (first
    | (go_at_call 14; refine HS.out.mono ?_; rintro e w1 ⟨D, f, rfl, h1, hb1, _, h2, h3⟩)
    | (go_at_call 15; refine (HR.out _ hb1).mono ?_; rintro e w2 ⟨A2, c2, r, rfl, h4, h5, h6, h7⟩)
    | (go_at_call 13; refine (HE.out _ _ _ _ _ _ _ h1 h2 h3 h4 h5 h6 h7).mono ?_; rintro e w3 ⟨rfl, h8⟩; have b3 := (hb1.trans (h7.mono hb1.size)); have b4 := b3.trans (h8.mono b3.size); clear h1 h2 h3 h4 h5 h6 h7 h8)
    | (go_at_call 12; refine (lives_any _).mono ?_; rintro e w5 ⟨rfl, bl⟩))
  go_ret
  exact ⟨rfl, b4.trans (bl.mono b4.size)⟩
theorem sorts_long (A : Option Addr) (m c : Nat) (xs : List Int) (w : World) (h : Ints w A 60 xs) (hb : ∀ k, -9223372036854775808 ≤ xs.getD k 0 ∧ xs.getD k 0 ≤ 9223372036854775807) (hc : m ≤ c) (hm : 60 < m) :
    Calls Try.prog 4 #[.slice A m c] w fun e w' => e = .returned (.bool true) ∧ Below w.heap.size w w' := by
  have HX := Lib.hid h
  have HB := Lib.hid hb
  have HS : Hid (Calls Try.prog 14 #[.slice A 60 c] w (SortedPost w 60 xs)) := Lib.hid (sorted_any A 60 c xs w h (by omega))
  have HR : Hid (∀ w1, Below w.heap.size w w1 → Calls Try.prog 15 #[.slice A 60 c] w1 (RefSorted w1 xs 60)) := Lib.hid fun w1 h1 => ref_sorted A 60 c xs w1 (HX.out.keep h1) HB.out (by omega)
  have HE : Hid (∀ w1 w2 D f A2 c2 r, DataIs w1 D 60 60 f → SortedOn (keyOfI xs) f 0 60 → Moved 0 60 (filled 60) f → Ints w2 A2 60 (r.map (·.1)) → Has LtI r → r.Perm (row (upQ xs) 60) → Below w1.heap.size w1 w2 →
      Calls Try.prog 13 #[.slice (some ⟨D, 0, none⟩) 60 60, .slice A2 60 c2] w2 fun e w' => e = .returned (.bool true) ∧ Below w2.heap.size w2 w') := by
    refine Lib.hid fun w1 w2 D f A2 c2 r h1 h2 h3 h4 h5 h6 h7 => ?_
    have h8 := SameI.same_ref (some ⟨D, 0, none⟩) A2 60 60 60 c2 _ _ w2 (h1.ints.keep h7) h4 (by unfold maxLen; omega) (by unfold maxLen; omega)
    rw [sorted_is h2 h3 h5 h6] at h8
    simpa using h8
  have hd : decide ((60 : Int) < (m : Int)) = true := decide_eq_true (by omega)
  have hmc : (60 : Int) ≤ (c : Int) := by omega
  have hn : 60 ≤ 60 := by omega
  clear h hb
  go_enter Try.func4, Try.ntmps4
  go_wp2_with (first
    | (go_at_call 14; refine HS.out.mono ?_; rintro e w1 ⟨D, f, rfl, h1, hb1, _, h2, h3⟩)
    | (go_at_call 15; refine (HR.out _ hb1).mono ?_; rintro e w2 ⟨A2, c2, r, rfl, h4, h5, h6, h7⟩)
    | (go_at_call 13; refine (HE.out _ _ _ _ _ _ _ h1 h2 h3 h4 h5 h6 h7).mono ?_; rintro e w3 ⟨rfl, h8⟩; have b3 := (hb1.trans (h7.mono hb1.size)); have b4 := b3.trans (h8.mono b3.size); clear h1 h2 h3 h4 h5 h6 h7 h8)
    | (go_at_call 12; refine (lives_any _).mono ?_; rintro e w5 ⟨rfl, bl⟩))
  go_ret
  exact ⟨rfl, b4.trans (bl.mono b4.size)⟩
theorem sorts_any (A : Option Addr) (n c : Nat) (zs : List Int) (w : World) (h : Ints w A n (zs.take n) ∧ n ≤ c ∧ (∀ k, -9223372036854775808 ≤ zs.getD k 0 ∧ zs.getD k 0 ≤ 9223372036854775807) ∧ n ≤ zs.length) :
    Calls Try.prog 4 #[.slice A n c] w fun e w' => e = .returned (.bool true) ∧ Below w.heap.size w w' := by
  obtain ⟨h1, h2, h3, h4⟩ := h
  by_cases hn : 60 < n
  · have := h1.cut (k := 60) (by omega)
    rw [List.take_take, Nat.min_eq_left (by omega)] at this
    exact sorts_long A n c _ w this (take_bd h3 60) h2 hn
  · exact sorts_short A n c _ w h1 (take_bd h3 n) h2 (by omega)
end Go.Proofs.Ytgpnpopmlommaaa
