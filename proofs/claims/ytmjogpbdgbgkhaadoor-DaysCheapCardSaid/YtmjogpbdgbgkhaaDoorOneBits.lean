/- Plain facts on a set's bits by the set of one day: and, or, and-not; nothing of the program. -/
import Derived.Test.YtmjogpbdgbgkhaaDoorSetBits
import Derived.Test.YtmjogpbdgbgkhaaDoorDaysPlain
namespace Go.Proofs.YtmjogpbdgbgkhaaDoor
open Go.RowKit
set_option linter.unusedVariables false

/-- The set of one day; none beyond. -/
def oneN (d : Int) : Nat := if 0 ≤ d ∧ d ≤ 63 then 2 ^ d.toNat else 0
theorem oneN_in {k : Nat} (hk : k < 64) : oneN (k : Int) = 2 ^ k := by unfold oneN; rw [if_pos (by omega), Int.toNat_natCast]
theorem oneN_out {d : Int} (h : ¬ (0 ≤ d ∧ d ≤ 63)) : oneN d = 0 := by unfold oneN; rw [if_neg h]
theorem oneN_lt (d : Int) : oneN d < 2 ^ 64 := by
  unfold oneN
  split
  · exact Nat.pow_lt_pow_right (by decide) (by omega)
  · decide
theorem one_has {s : Nat} (hs : s < 2 ^ 64) (d : Int) : bits .and .u64 (s : Int) (oneN d : Int) = if hasB s d then (oneN d : Int) else 0 := by
  rw [bits_and_u64_nat _ _ (by omega) (by have := oneN_lt d; omega)]
  by_cases h : 0 ≤ d ∧ d ≤ 63
  · obtain ⟨k, rfl⟩ : ∃ k : Nat, d = (k : Int) := ⟨d.toNat, by omega⟩
    rw [oneN_in (by omega)]
    have e : hasB s (k : Int) = s.testBit k := by unfold hasB; rw [decide_eq_true (by omega), Int.toNat_natCast]; rfl
    rw [e]
    have e2 : s &&& 2 ^ k = if s.testBit k then 2 ^ k else 0 := by
      refine Nat.eq_of_testBit_eq fun j => ?_
      rw [Nat.testBit_and, Nat.testBit_two_pow]
      by_cases h : k = j
      · subst h; cases hb : s.testBit k <;> simp
      · cases hb : s.testBit k <;> simp [h]
    rw [e2]
    cases s.testBit k <;> simp
  · rw [oneN_out h]
    have e : hasB s d = false := by unfold hasB; rw [decide_eq_false h]; rfl
    rw [e]; simp
theorem oneN_pos {s : Nat} {d : Int} (h : hasB s d = true) : 0 < oneN d := by
  unfold hasB at h
  have : 0 ≤ d ∧ d ≤ 63 := by
    have := (Bool.and_eq_true_iff.1 h).1
    exact of_decide_eq_true this
  unfold oneN
  rw [if_pos this]
  exact Nat.two_pow_pos _
theorem one_with {s : Nat} (hs : s < 2 ^ 64) (d : Int) : bits .or .u64 (s : Int) (oneN d : Int) = (putN s d 1 : Int) := by
  by_cases h : 0 ≤ d ∧ d ≤ 63
  · obtain ⟨k, rfl⟩ : ∃ k : Nat, d = (k : Int) := ⟨d.toNat, by omega⟩
    rw [← set_with hs (by omega), pow_wrap (by omega), oneN_in (by omega)]
  · rw [oneN_out h, putN_out h, bits_or_u64_nat _ _ (by omega) (by omega)]; simp
theorem one_without {s : Nat} (hs : s < 2 ^ 64) (d : Int) : bits .andNot .u64 (s : Int) (oneN d : Int) = (putN s d 0 : Int) := by
  by_cases h : 0 ≤ d ∧ d ≤ 63
  · obtain ⟨k, rfl⟩ : ∃ k : Nat, d = (k : Int) := ⟨d.toNat, by omega⟩
    rw [← set_without hs (by omega), pow_wrap (by omega), oneN_in (by omega)]
  · rw [oneN_out h, putN_out h, u64_andNot_nat _ _ (by omega) (by omega)]
    congr 1
    refine eq_bits (Nat.lt_of_le_of_lt Nat.and_le_left hs) hs fun j hj => ?_
    rw [Nat.testBit_and]
    have e : (18446744073709551615 - 0 : Nat) = 2 ^ 64 - 1 := rfl
    rw [e, Nat.testBit_two_pow_sub_one]
    simp [hj]
end Go.Proofs.YtmjogpbdgbgkhaaDoor
