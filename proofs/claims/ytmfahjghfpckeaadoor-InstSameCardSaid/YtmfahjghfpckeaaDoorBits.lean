/- Plain facts on sets of days as numbers and as lists of noughts and ones; nothing of the program. -/
import Derived.Test.YtmfahjghfpckeaaDoorPlain
namespace Go.Proofs.YtmfahjghfpckeaaDoor
open Go.RowKit
set_option linter.unusedVariables false

/-- The bits of a set, 64 of them. -/
def bitsL (s : Nat) : List Int := (List.range 64).map fun d => if s.testBit d then 1 else 0
/-- The number of a list of bits. -/
def num2 : List Int → Nat
  | [] => 0
  | b :: r => (if b = 1 then 1 else 0) + 2 * num2 r
/-- All are 0 or 1. -/
def Bin (xs : List Int) : Prop := ∀ b ∈ xs, b = 0 ∨ b = 1

theorem bitsL_len (s : Nat) : (bitsL s).length = 64 := by simp [bitsL]
theorem bitsL_getD {s d : Nat} (hd : d < 64) : (bitsL s).getD d 0 = if s.testBit d then 1 else 0 := by
  unfold bitsL
  rw [List.getD_eq_getElem?_getD, List.getElem?_map, List.getElem?_range hd]
  rfl
theorem bitsL_bin (s : Nat) : Bin (bitsL s) := by
  intro b hb
  obtain ⟨d, _, rfl⟩ := List.mem_map.1 hb
  split <;> simp
theorem Bin.put {xs : List Int} (h : Bin xs) (j : Nat) {b : Int} (hb : b = 0 ∨ b = 1) : Bin (xs.set j b) := by
  intro e he
  rcases List.mem_or_eq_of_mem_set he with g | g
  · exact h e g
  · subst g; exact hb
theorem Bin.getD {xs : List Int} (h : Bin xs) (k : Nat) : xs.getD k 0 = 0 ∨ xs.getD k 0 = 1 := by
  rw [List.getD_eq_getElem?_getD]
  rcases Nat.lt_or_ge k xs.length with hk | hk
  · rw [List.getElem?_eq_getElem hk]; exact h _ (List.getElem_mem hk)
  · rw [List.getElem?_eq_none hk]; exact .inl rfl
theorem num2_lt (xs : List Int) : num2 xs < 2 ^ xs.length := by
  induction xs with
  | nil => simp [num2]
  | cons b r ih =>
    simp only [num2, List.length_cons, Nat.pow_succ]
    split <;> omega
theorem num2_bit (xs : List Int) (j : Nat) : (num2 xs).testBit j = decide (xs.getD j 0 = 1) := by
  induction xs generalizing j with
  | nil => simp [num2]
  | cons b r ih =>
    rcases j with _ | j
    · simp only [num2, Nat.testBit_zero, List.getD_cons_zero]
      by_cases h : b = 1
      · rw [if_pos h]; simp [h]
      · rw [if_neg h]; simp [h]
    · rw [List.getD_cons_succ, ← ih, Nat.testBit_succ]
      congr 1
      simp only [num2]
      split <;> omega
/-- Two sets are the same if their 64 days are. -/
theorem eq_bits {a b : Nat} (ha : a < 2 ^ 64) (hb : b < 2 ^ 64) (h : ∀ j, j < 64 → a.testBit j = b.testBit j) : a = b := by
  refine Nat.eq_of_testBit_eq fun j => ?_
  by_cases hj : j < 64
  · exact h j hj
  · rw [Nat.testBit_lt_two_pow (Nat.lt_of_lt_of_le ha (Nat.pow_le_pow_right (by decide) (by omega))), Nat.testBit_lt_two_pow (Nat.lt_of_lt_of_le hb (Nat.pow_le_pow_right (by decide) (by omega)))]
theorem num2_bitsL {s : Nat} (hs : s < 2 ^ 64) : num2 (bitsL s) = s := by
  have hl := num2_lt (bitsL s)
  rw [bitsL_len] at hl
  refine eq_bits hl hs fun j hj => ?_
  rw [num2_bit, bitsL_getD hj]
  cases s.testBit j <;> simp
/-- The set with bit d so. -/
def putN (s : Nat) (d : Int) (b : Int) : Nat := if 0 ≤ d ∧ d ≤ 63 then num2 ((bitsL s).set d.toNat b) else s
theorem putN_lt {s : Nat} (hs : s < 2 ^ 64) (d b : Int) : putN s d b < 2 ^ 64 := by
  unfold putN
  split
  · have := num2_lt ((bitsL s).set d.toNat b)
    rwa [List.length_set, bitsL_len] at this
  · exact hs
theorem putN_bit {s : Nat} {d b : Int} {j : Nat} (hj : j < 64) (hd : 0 ≤ d ∧ d ≤ 63) : (putN s d b).testBit j = if (j : Int) = d then decide (b = 1) else s.testBit j := by
  unfold putN
  rw [if_pos hd, num2_bit, List.getD_eq_getElem?_getD, List.getElem?_set]
  by_cases h : (j : Int) = d
  · have : d.toNat = j := by omega
    rw [if_pos this, if_pos h, bitsL_len, this, if_pos hj]
    rfl
  · have : d.toNat ≠ j := by omega
    rw [if_neg this, if_neg h, ← List.getD_eq_getElem?_getD, bitsL_getD hj]
    cases s.testBit j <;> simp
/-- Is the day in the set? -/
def hasB (s : Nat) (d : Int) : Bool := decide (0 ≤ d ∧ d ≤ 63) && s.testBit d.toNat
/-- The days of a set up to day n, rising. -/
def upTo (s : Nat) (n : Nat) : List Int := ((List.range n).filter fun d => s.testBit d).map fun d : Nat => (d : Int)
/-- The days of a set, rising. -/
def allI (s : Nat) : List Int := upTo s 64
theorem upTo_succ (s n : Nat) : upTo s (n + 1) = upTo s n ++ (if s.testBit n then [(n : Int)] else []) := by
  unfold upTo
  rw [List.range_succ, List.filter_append, List.map_append]
  congr 1
  cases h : s.testBit n <;> simp [h]
theorem upTo_len (s n : Nat) : (upTo s n).length ≤ n := by
  unfold upTo
  rw [List.length_map]
  have := List.length_filter_le (fun d => s.testBit d) (List.range n)
  simpa using this
theorem mem_upTo {s n : Nat} {x : Int} : x ∈ upTo s n ↔ 0 ≤ x ∧ x < n ∧ s.testBit x.toNat = true := by
  unfold upTo
  rw [List.mem_map]
  constructor
  · rintro ⟨d, hd, rfl⟩
    obtain ⟨h1, h2⟩ := List.mem_filter.1 hd
    exact ⟨by omega, by have := List.mem_range.1 h1; omega, by simpa using h2⟩
  · rintro ⟨h0, h1, h2⟩
    exact ⟨x.toNat, List.mem_filter.2 ⟨List.mem_range.2 (by omega), h2⟩, by omega⟩
theorem upTo_sorted (s n : Nat) : (upTo s n).Pairwise (· < ·) := by
  unfold upTo
  rw [List.pairwise_map]
  refine List.Pairwise.imp ?_ ((List.pairwise_lt_range (n := n)).filter _)
  intro a b h
  omega
/-- The first day that is d or later; -1, if there is none. -/
def nextI (s : Nat) (d : Int) : Int := ((allI s).find? fun x => decide (d ≤ x)).getD (-1)
theorem bits_step (s d : Nat) : (List.range 64).map (fun j => if j < d + 1 then (if s.testBit j then (1 : Int) else 0) else 0) =
    ((List.range 64).map (fun j => if j < d then (if s.testBit j then (1 : Int) else 0) else 0)).set d (if s.testBit d then 1 else 0) := by
  apply List.ext_getElem?
  intro j
  rw [List.getElem?_set]
  by_cases hj : j < 64
  · by_cases e : d = j
    · subst e
      simp [hj]
    · rw [if_neg e]
      simp only [List.getElem?_map, List.getElem?_range hj, Option.map_some]
      congr 1
      by_cases h : j < d
      · rw [if_pos h, if_pos (by omega)]
      · rw [if_neg h, if_neg (by omega)]
  · by_cases e : d = j
    · subst e; simp [hj]
    · rw [if_neg e]; simp [hj]
theorem bit_mod (s d : Nat) : (((s / 2 ^ d : Nat) : Int) % 2) = if s.testBit d then 1 else 0 := by
  rw [Nat.testBit_eq_decide_div_mod_eq]
  generalize s / 2 ^ d = q
  by_cases h : q % 2 = 1
  · simp [h]; omega
  · simp [h]; omega
theorem half_step (s d : Nat) : (((s / 2 ^ d : Nat) : Int) / 2) = ((s / 2 ^ (d + 1) : Nat) : Int) := by
  rw [Nat.pow_succ, ← Nat.div_div_eq_div_mul]
  omega
end Go.Proofs.YtmfahjghfpckeaaDoor
