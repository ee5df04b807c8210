import Derived.Test.YtliomhkgkabbbaaGreatDoorK02
import Derived.WalkSmall
import Derived.Laws.BitsAllLaws
import Derived.Laws.Bits64b
section
/- Plain facts on shifts, and, or, and-not of 64 bits without sign, as sets of days; nothing of the program. -/
namespace Go.Proofs.YtliomhkgkabbbaaGreatDoor
open Go.RowKit
set_option linter.unusedVariables false

theorem pow_wrap {k : Nat} (hk : k < 64) : IntKind.u64.wrap (2 ^ k) = ((2 ^ k : Nat) : Int) := by
  have h : (2 ^ k : Nat) < 2 ^ 64 := Nat.pow_lt_pow_right (by decide) hk
  have e : (2 : Int) ^ k = ((2 ^ k : Nat) : Int) := by rw [Int.natCast_pow]; rfl
  rw [e, IntKind.wrap_u64]
  generalize (2 ^ k : Nat) = q at *
  omega
theorem shr_cast (s k : Nat) : (s : Int) / 2 ^ k = ((s / 2 ^ k : Nat) : Int) := by
  rw [Int.natCast_ediv, Int.natCast_pow]; rfl
/-- A bit, shifted down. -/
theorem set_has {s : Nat} (hs : s < 2 ^ 64) (k : Nat) : bits .and .u64 ((s : Int) / 2 ^ k) 1 = if s.testBit k then 1 else 0 := by
  have hle := Nat.div_le_self s (2 ^ k)
  rw [shr_cast, ← bit_mod]
  generalize s / 2 ^ k = q at *
  exact and_one_u64 _ (by omega) (by omega)
/-- A bit put in. -/
theorem set_with {s : Nat} (hs : s < 2 ^ 64) {k : Nat} (hk : k < 64) : bits .or .u64 (s : Int) (IntKind.u64.wrap (2 ^ k)) = (putN s (k : Int) 1 : Int) := by
  have hp : (2 ^ k : Nat) < 2 ^ 64 := Nat.pow_lt_pow_right (by decide) hk
  rw [pow_wrap hk, bits_or_u64_nat _ _ (by omega) (by omega)]
  congr 1
  refine eq_bits (Nat.or_lt_two_pow hs hp) (putN_lt hs _ _) fun j hj => ?_
  rw [Nat.testBit_or, Nat.testBit_two_pow, putN_bit hj (by omega)]
  by_cases e : j = k
  · subst e; simp
  · rw [if_neg (by omega)]
    have : ¬ k = j := fun h => e h.symm
    simp [this]
/-- A bit taken out. -/
theorem set_without {s : Nat} (hs : s < 2 ^ 64) {k : Nat} (hk : k < 64) : bits .andNot .u64 (s : Int) (IntKind.u64.wrap (2 ^ k)) = (putN s (k : Int) 0 : Int) := by
  have hp : (2 ^ k : Nat) < 2 ^ 64 := Nat.pow_lt_pow_right (by decide) hk
  rw [pow_wrap hk, u64_andNot_nat _ _ (by omega) (by omega)]
  congr 1
  refine eq_bits (Nat.lt_of_le_of_lt Nat.and_le_left hs) (putN_lt hs _ _) fun j hj => ?_
  have e1 : 18446744073709551615 - 2 ^ k = 2 ^ 64 - (2 ^ k + 1) := by omega
  rw [Nat.testBit_and, e1, Nat.testBit_two_pow_sub_succ hp, Nat.testBit_two_pow, putN_bit hj (by omega)]
  by_cases e : j = k
  · subst e; simp
  · rw [if_neg (by omega)]
    have : ¬ k = j := fun h => e h.symm
    simp [this, hj]
theorem has_bit {s k : Nat} (hk : k < 64) : ((if s.testBit k then (1 : Int) else 0) == 1) = hasB s (k : Int) := by
  unfold hasB
  rw [decide_eq_true (by omega), Int.toNat_natCast]
  cases s.testBit k <;> rfl
end Go.Proofs.YtliomhkgkabbbaaGreatDoor
end
