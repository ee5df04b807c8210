/- TextApart, off its code. -/
import Derived.Test.YtgkfkgioneahpaaDoorTextLives
import Derived.Test.YtgkfkgioneahpaaDoorTextDec
import Derived.ChangeShapes
namespace Go.Proofs.YtgkfkgioneahpaaDoor
open Go.RowKit Go.ChangeShapes Go.WideShapes
set_option linter.unusedVariables false
theorem decI_len {n : Int} (wn : -9223372036854775808 ≤ n ∧ n ≤ 9223372036854775807) : (decI n).length ≤ 20 := by
  unfold decI
  have := decN_len_lt (n := n.natAbs) (k := 18) (by omega)
  split
  · simp; omega
  · omega
theorem list_of (X : ByteArray) (l : List UInt8) (h : X = strL l) : X.toList = l := by rw [ByteArray.toList_eq, h, strL_list]
set_option maxRecDepth 100000 in
set_option maxHeartbeats 4000000 in
theorem apart_any (a b : Int) (wa : -9223372036854775808 ≤ a ∧ a ≤ 9223372036854775807) (wb : -9223372036854775808 ≤ b ∧ b ≤ 9223372036854775807) (w : World) :
    Calls Tryd.prog 8 #[.int .i64 a, .int .i64 b] w fun e W' => e = .returned (.bool true) ∧ Below w.heap.size w W' := by
  have CA := fun W => decimal_any a wa W
  have CB := fun W => decimal_any b wb W
  have CL := fun W => lives5_any W
  have la := decI_len wa
  have lb := decI_len wb
  rw [← strL_size] at la lb
  have hmono : 0 ≤ a → a ≤ b → (strL (decI a)).size ≤ (strL (decI b)).size := fun h1 h2 => by
    rw [strL_size, strL_size]
    obtain ⟨m, rfl⟩ : ∃ m : Nat, a = (m : Int) := ⟨a.toNat, by omega⟩
    obtain ⟨k, rfl⟩ : ∃ k : Nat, b = (k : Int) := ⟨b.toNat, by omega⟩
    rw [decI_nat, decI_nat]
    exact decN_mono (by omega)
  have hq : ∃ c, ((strL (decI a)).toList == (strL (decI b)).toList) = c ∧ (a == b) = c := by
    rw [list_of _ _ rfl, list_of _ _ rfl]
    by_cases h : a = b
    · exact ⟨true, by rw [h]; simp, by rw [h]; simp⟩
    · exact ⟨false, beq_eq_false_iff_ne.2 fun e => h (decI_inj e), beq_eq_false_iff_ne.2 h⟩
  generalize strL (decI a) = X at *
  generalize strL (decI b) = Y at *
  obtain ⟨c, q1, q2⟩ := hq
  have HM := Go.Lib.hid hmono
  clear hmono
  cases c
  all_goals
    by_cases h0 : a < 0
    · go_enter Tryd.func8, Tryd.ntmps8
      go_wp2_with (first
        | (go_at_call 18; refine (CA _).mono ?_; clear CA; rintro e w1 ⟨rfl, hb1⟩)
        | (go_at_call 18; refine (CB _).mono ?_; clear CB; rintro e w2 ⟨rfl, hb2⟩)
        | (go_at_call 12; refine (CL _).mono ?_; rintro e w3 ⟨rfl, hb3⟩))
      go_ret
      exact ⟨rfl, (hb1.trans (hb2.mono hb1.size)).trans (hb3.mono (by have := hb1.size; have := hb2.size; omega))⟩
    · by_cases h1 : b < a
      · go_enter Tryd.func8, Tryd.ntmps8
        go_wp2_with (first
          | (go_at_call 18; refine (CA _).mono ?_; clear CA; rintro e w1 ⟨rfl, hb1⟩)
          | (go_at_call 18; refine (CB _).mono ?_; clear CB; rintro e w2 ⟨rfl, hb2⟩)
          | (go_at_call 12; refine (CL _).mono ?_; rintro e w3 ⟨rfl, hb3⟩))
        go_ret
        exact ⟨rfl, (hb1.trans (hb2.mono hb1.size)).trans (hb3.mono (by have := hb1.size; have := hb2.size; omega))⟩
      · have hle := HM.out (by omega) (by omega)
        go_enter Tryd.func8, Tryd.ntmps8
        go_wp2_with (first
          | (go_at_call 18; refine (CA _).mono ?_; clear CA; rintro e w1 ⟨rfl, hb1⟩)
          | (go_at_call 18; refine (CB _).mono ?_; clear CB; rintro e w2 ⟨rfl, hb2⟩)
          | (go_at_call 12; refine (CL _).mono ?_; rintro e w3 ⟨rfl, hb3⟩))
        go_ret
        exact ⟨rfl, (hb1.trans (hb2.mono hb1.size)).trans (hb3.mono (by have := hb1.size; have := hb2.size; omega))⟩
section
variable {H : Type} {enc : TypeId × Value → H} {base : Nat}
theorem apart_frame (W : World) {v0 v1 : Value} {d0 d1 : DataW H} {p0 p1 : List MemPlace} (k0 : DataW.Trod enc Tryd.prog W 0 (fun _ => true) true 3 v0 d0 p0) (o0 : Value.okWide Tryd.prog W .any base 3 v0)
    (k1 : DataW.Trod enc Tryd.prog W 0 (fun _ => true) true 3 v1 d1 p1) (o1 : Value.okWide Tryd.prog W .any base 3 v1) :
    Calls Tryd.prog 8 #[v0, v1] W fun e w' => e = .returned (.bool true) ∧ Below W.heap.size W w' := by
  obtain ⟨a, rfl, _, _, wa⟩ := open_int Tryd.underlying3 o0 k0
  obtain ⟨b, rfl, _, _, wb⟩ := open_int Tryd.underlying3 o1 k1
  exact apart_any a b (wf_iff.1 wa) (wf_iff.1 wb) W
end
end Go.Proofs.YtgkfkgioneahpaaDoor
