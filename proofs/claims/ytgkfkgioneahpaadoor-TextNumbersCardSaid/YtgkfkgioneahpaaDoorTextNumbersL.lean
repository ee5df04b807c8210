/- TextNumbers, off its code. -/
import Derived.Test.YtgkfkgioneahpaaDoorTextLives
import Derived.Test.YtgkfkgioneahpaaDoorTextNumRef
import Derived.Test.YtgkfkgioneahpaaDoorTextDecRef
import Derived.Test.YtgkfkgioneahpaaDoorTextApartL
import Derived.ChangeMaps5
namespace Go.Proofs.YtgkfkgioneahpaaDoor
open Go.RowKit Go.ChangeShapes Go.WideShapes
open Go.ChangeMaps (open_string shut_string)
set_option linter.unusedVariables false
theorem ext_size (s : ByteArray) (k : Nat) : (s.extract 0 k).size ≤ s.size := by simp; omega
set_option maxRecDepth 100000 in
set_option maxHeartbeats 8000000 in
theorem numbers_any (s : ByteArray) (hs : s.size ≤ maxLen) (n : Int) (wn : -9223372036854775808 ≤ n ∧ n ≤ 9223372036854775807) (w : World) :
    Calls Tryd.prog 5 #[.string s, .int .i64 n] w fun e W' => e = .returned (.bool true) ∧ Below w.heap.size w W' := by
  have CD := fun W => decimal_any n wn W
  have CE := fun W => dec_ref n wn W
  have CL := fun W => lives5_any W
  have ld := decI_len wn
  rw [← strL_size] at ld
  have CM := fun W => number_any (strL (decI n)) W (by unfold maxLen; omega)
  rw [strL_list] at CM
  have hfit : (n < 0 ∧ decB (decI n) = false) ∨ (¬ n < 0 ∧ decB (decI n) = true ∧ (1000000000000000000 < n ∨ (¬ 1000000000000000000 < n ∧ numV (decI n) = n))) := by
    by_cases h : n < 0
    · exact .inl ⟨h, decI_no h⟩
    · refine .inr ⟨h, ?_⟩
      obtain ⟨m, rfl⟩ : ∃ m : Nat, n = (m : Int) := ⟨n.toNat, by omega⟩
      rw [decI_nat]
      refine ⟨decN_ok m, ?_⟩
      by_cases hb : (1000000000000000000 : Int) < (m : Int)
      · exact .inl hb
      · refine .inr ⟨hb, ?_⟩
        rw [numV_yes (decN_ok m), decN_val, Nat.min_eq_left (by omega)]
  have hX : ∃ X : ByteArray, (if 40 < s.size then s.extract 0 40 else s) = X ∧ X.size ≤ maxLen := by
    refine ⟨_, rfl, ?_⟩
    split
    · have := ext_size s 40; omega
    · exact hs
  obtain ⟨X, hX, hXs⟩ := hX
  have CN := fun W => number_any X W hXs
  have CR := fun W => number_ref X W hXs
  have hse : (strL (decI n)).toList == (strL (decI n)).toList := by simp
  generalize strL (decI n) = D at *
  generalize decB (decI n) = is at *
  generalize numV (decI n) = c at *
  generalize numV X.data.toList = a at *
  generalize decB X.data.toList = one at *
  clear ld hXs
  unfold maxLen at hs
  have hcut : (40 < s.size ∧ s.extract 0 40 = X) ∨ (¬ 40 < s.size ∧ s = X) := by
    by_cases h : 40 < s.size
    · rw [if_pos h] at hX; exact .inl ⟨h, hX⟩
    · rw [if_neg h] at hX; exact .inr ⟨h, hX⟩
  have hfit2 : (n < 0 ∧ is = false) ∨ (¬ n < 0 ∧ is = true ∧ 1000000000000000000 < n) ∨ (¬ n < 0 ∧ is = true ∧ ¬ 1000000000000000000 < n ∧ c = n) := by
    rcases hfit with h | ⟨h0, h1, h2 | h2⟩
    · exact .inl h
    · exact .inr (.inl ⟨h0, h1, h2⟩)
    · exact .inr (.inr ⟨h0, h1, h2⟩)
  clear hX hfit
  rcases hfit2 with ⟨h0, rfl⟩ | ⟨h0, rfl, h1⟩ | ⟨h0, rfl, h1, rfl⟩
  all_goals
    rcases hcut with ⟨hlong, hX⟩ | ⟨hlong, rfl⟩
    all_goals
      go_enter Tryd.func5, Tryd.ntmps5
      go_wp2_with (first
        | (go_at_call 16; refine (CN _).mono ?_; clear CN; rintro e w1 ⟨rfl, rfl⟩)
        | (go_at_call 16; refine (CM _).mono ?_; clear CM; rintro e w2 ⟨rfl, rfl⟩)
        | (go_at_call 17; refine (CR _).mono ?_; clear CR; rintro e w3 ⟨rfl, rfl⟩)
        | (go_at_call 18; refine (CD _).mono ?_; clear CD; rintro e w4 ⟨rfl, hb4⟩)
        | (go_at_call 19; refine (CE _).mono ?_; clear CE; rintro e w5 ⟨rfl, hb5⟩)
        | (go_at_call 12; refine (CL _).mono ?_; clear CL; rintro e w6 ⟨rfl, hb6⟩))
      go_ret
      exact ⟨rfl, (hb4.trans (hb5.mono hb4.size)).trans (hb6.mono (by have := hb4.size; have := hb5.size; omega))⟩
section
variable {H : Type} {enc : TypeId × Value → H} {base : Nat}
theorem numbers_frame (W : World) {v0 v1 : Value} {d0 d1 : DataW H} {p0 p1 : List MemPlace} (k0 : DataW.Trod enc Tryd.prog W 0 (fun _ => true) true 9 v0 d0 p0) (o0 : Value.okWide Tryd.prog W .any base 9 v0)
    (k1 : DataW.Trod enc Tryd.prog W 0 (fun _ => true) true 3 v1 d1 p1) (o1 : Value.okWide Tryd.prog W .any base 3 v1) :
    Calls Tryd.prog 5 #[v0, v1] W fun e w' => e = .returned (.bool true) ∧ Below W.heap.size W w' := by
  obtain ⟨s, rfl, _, _, hs⟩ := open_string Tryd.underlying9 o0 k0
  obtain ⟨b, rfl, _, _, wb⟩ := open_int Tryd.underlying3 o1 k1
  exact numbers_any s hs b (wf_iff.1 wb) W
end
end Go.Proofs.YtgkfkgioneahpaaDoor
