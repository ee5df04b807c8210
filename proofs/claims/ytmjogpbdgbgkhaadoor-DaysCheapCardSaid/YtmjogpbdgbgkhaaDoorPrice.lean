/- Plain facts on the prices of sets; nothing of the program. -/
import Derived.Test.YtmjogpbdgbgkhaaDoorBits
namespace Go.Proofs.YtmjogpbdgbgkhaaDoor
open Go.RowKit
set_option linter.unusedVariables false

theorem satV_rng (a b : Int) : -9223372036854775808 ≤ satV a b ∧ satV a b ≤ 9223372036854775807 := by
  unfold satV
  cases h : fitB (a + b)
  · simp only [Bool.false_eq_true, if_false]
    split <;> decide
  · rw [if_pos rfl]; exact fitB_iff.1 h
/-- One day's price more. -/
def addPrice (ps : List Int) (acc x : Int) : Int := if x < ps.length then satV acc (ps.getD x.toNat 0) else acc
/-- The prices of these days together. -/
def sumPrice (ps xs : List Int) : Int := xs.foldl (addPrice ps) 0
theorem sumPrice_rng (ps xs : List Int) : -9223372036854775808 ≤ sumPrice ps xs ∧ sumPrice ps xs ≤ 9223372036854775807 := by
  unfold sumPrice
  suffices h : ∀ (xs : List Int) (a : Int), (-9223372036854775808 ≤ a ∧ a ≤ 9223372036854775807) → -9223372036854775808 ≤ xs.foldl (addPrice ps) a ∧ xs.foldl (addPrice ps) a ≤ 9223372036854775807 from h xs 0 (by decide)
  intro xs
  induction xs with
  | nil => intro a h; exact h
  | cons x r ih =>
    intro a h
    refine ih _ ?_
    unfold addPrice
    split
    · exact satV_rng _ _
    · exact h
theorem sumPrice_succ (ps xs : List Int) {k : Nat} (hk : k < xs.length) : sumPrice ps (xs.take (k + 1)) = addPrice ps (sumPrice ps (xs.take k)) (xs.getD k 0) := by
  unfold sumPrice
  rw [List.take_succ_eq_append_getElem hk, List.foldl_append, List.getD_eq_getElem?_getD, List.getElem?_eq_getElem hk]; rfl
/-- A set's price. -/
def priceI (s : Nat) (ps : List Int) : Int := sumPrice ps (allI s)
/-- The best of the first k sets: its place and its price. -/
def bestI (ls ps : List Int) : Nat → Int × Int
  | 0 => (-1, 0)
  | k + 1 => if (bestI ls ps k).1 < 0 ∨ priceI (ls.getD k 0).toNat ps < (bestI ls ps k).2 then ((k : Int), priceI (ls.getD k 0).toNat ps) else bestI ls ps k
theorem bestI_at (ls ps : List Int) (k : Nat) : -1 ≤ (bestI ls ps k).1 ∧ (bestI ls ps k).1 < k ∧ ((bestI ls ps k).1 < 0 → k = 0 ∧ bestI ls ps k = (-1, 0)) := by
  induction k with
  | zero => simp [bestI]
  | succ k ih =>
    unfold bestI
    split
    · simp; omega
    · next h => exact ⟨ih.1, by omega, fun h0 => absurd (.inl h0) h⟩
end Go.Proofs.YtmjogpbdgbgkhaaDoor
