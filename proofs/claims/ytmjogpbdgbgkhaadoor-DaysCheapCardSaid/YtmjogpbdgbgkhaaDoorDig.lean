/- Plain facts on numbers as digits of 2^16, the lowest first; nothing of the program. -/
import Derived.Test.YtmjogpbdgbgkhaaDoorPlain
namespace Go.Proofs.YtmjogpbdgbgkhaaDoor
open Go.RowKit
set_option linter.unusedVariables false

/-- The number of the digits. -/
def val : List Int → Int
  | [] => 0
  | d :: r => d + 65536 * val r
/-- All are digits. -/
def Dig (xs : List Int) : Prop := ∀ d ∈ xs, 0 ≤ d ∧ d ≤ 65535
/-- The last digit is not 0. -/
def Norm (xs : List Int) : Prop := xs = [] ∨ 1 ≤ xs.getD (xs.length - 1) 0

theorem Dig.nil : Dig [] := fun d h => by cases h
theorem Dig.snoc {xs : List Int} {d : Int} (h : Dig xs) (h0 : 0 ≤ d) (h1 : d ≤ 65535) : Dig (xs ++ [d]) := by
  intro e he
  rcases List.mem_append.1 he with g | g
  · exact h e g
  · rw [List.mem_singleton] at g; subst g; exact ⟨h0, h1⟩
theorem Dig.take {xs : List Int} (h : Dig xs) (k : Nat) : Dig (xs.take k) := fun d hd => h d (List.mem_of_mem_take hd)
theorem Dig.drop {xs : List Int} (h : Dig xs) (k : Nat) : Dig (xs.drop k) := fun d hd => h d (List.mem_of_mem_drop hd)
theorem Dig.getD {xs : List Int} (h : Dig xs) (k : Nat) : 0 ≤ xs.getD k 0 ∧ xs.getD k 0 ≤ 65535 := by
  rw [List.getD_eq_getElem?_getD]
  rcases Nat.lt_or_ge k xs.length with hk | hk
  · rw [List.getElem?_eq_getElem hk]; exact h _ (List.getElem_mem hk)
  · rw [List.getElem?_eq_none hk]; exact ⟨Int.le_refl _, by decide⟩
theorem pow_pos16 (k : Nat) : (0 : Int) < 65536 ^ k := Int.pow_pos (by decide)
theorem pow_le16 {a b : Nat} (h : a ≤ b) : (65536 : Int) ^ a ≤ 65536 ^ b := by
  obtain ⟨c, rfl⟩ := Nat.exists_eq_add_of_le h
  rw [Int.pow_add]
  have h1 := pow_pos16 a
  have h2 := pow_pos16 c
  have := Int.mul_le_mul_of_nonneg_left (c := 65536 ^ a) (a := 1) (b := 65536 ^ c) (by omega) (by omega)
  omega
theorem val_append (xs ys : List Int) : val (xs ++ ys) = val xs + 65536 ^ xs.length * val ys := by
  induction xs with
  | nil => simp [val]
  | cons d r ih =>
    simp only [List.cons_append, val, ih, List.length_cons, Int.pow_succ, Int.mul_add]
    rw [show (65536 : Int) ^ r.length * 65536 * val ys = 65536 * (65536 ^ r.length * val ys) by rw [Int.mul_comm (65536 ^ r.length) 65536, Int.mul_assoc]]
    omega
theorem val_snoc (xs : List Int) (d : Int) : val (xs ++ [d]) = val xs + 65536 ^ xs.length * d := by
  rw [val_append]; simp [val]
theorem val_bd {xs : List Int} (h : Dig xs) : 0 ≤ val xs ∧ val xs < 65536 ^ xs.length := by
  induction xs with
  | nil => simp [val]
  | cons d r ih =>
    obtain ⟨i1, i2⟩ := ih fun e he => h e (List.mem_cons_of_mem _ he)
    obtain ⟨h0, h1⟩ := h d List.mem_cons_self
    simp only [val, List.length_cons, Int.pow_succ]
    omega
theorem take_succ' (xs : List Int) (k : Nat) : val (xs.take (k + 1)) = val (xs.take k) + 65536 ^ k * xs.getD k 0 := by
  rw [List.getD_eq_getElem?_getD]
  rcases Nat.lt_or_ge k xs.length with hk | hk
  · rw [List.take_succ_eq_append_getElem hk, val_snoc, List.length_take_of_le (by omega), List.getElem?_eq_getElem hk]; rfl
  · rw [List.take_of_length_le (by omega), List.take_of_length_le hk, List.getElem?_eq_none hk]; simp
theorem val_split (xs : List Int) (k : Nat) : val xs = val (xs.take k) + 65536 ^ k * val (xs.drop k) := by
  rcases Nat.lt_or_ge k xs.length with hk | hk
  · conv => lhs; rw [← List.take_append_drop k xs, val_append, List.length_take_of_le (by omega)]
  · rw [List.take_of_length_le hk, List.drop_eq_nil_of_le hk]; simp [val]
theorem drop_succ' (xs : List Int) (k : Nat) : val (xs.drop k) = xs.getD k 0 + 65536 * val (xs.drop (k + 1)) := by
  rw [List.getD_eq_getElem?_getD]
  rcases Nat.lt_or_ge k xs.length with hk | hk
  · rw [List.drop_eq_getElem_cons hk, List.getElem?_eq_getElem hk]; rfl
  · rw [List.drop_eq_nil_of_le hk, List.drop_eq_nil_of_le (by omega), List.getElem?_eq_none hk]; simp [val]
theorem norm_low {xs : List Int} (h : Dig xs) (hn : Norm xs) (hk : 1 ≤ xs.length) : 65536 ^ (xs.length - 1) ≤ val xs := by
  rcases hn with rfl | hn
  · simp at hk
  · have hs := val_split xs (xs.length - 1)
    have hd := drop_succ' xs (xs.length - 1)
    rw [show xs.length - 1 + 1 = xs.length by omega, List.drop_eq_nil_of_le (Nat.le_refl _)] at hd
    have hb := val_bd (h.take (xs.length - 1))
    have hp := pow_pos16 (xs.length - 1)
    have := Int.mul_le_mul_of_nonneg_left (c := 65536 ^ (xs.length - 1)) (a := 1) (b := val (xs.drop (xs.length - 1))) (by rw [hd]; simp only [val]; omega) (by omega)
    omega
/-- The digits are no more than the number wants. -/
theorem norm_len {xs : List Int} (h : Dig xs) (hn : Norm xs) {k : Nat} (hv : val xs < 65536 ^ k) : xs.length ≤ k := by
  by_cases hl : xs.length ≤ k
  · exact hl
  · have h1 := norm_low h hn (by omega)
    have h2 := pow_le16 (a := k) (b := xs.length - 1) (by omega)
    omega
theorem norm_zero {xs : List Int} (h : Dig xs) (hn : Norm xs) (hv : val xs = 0) : xs = [] := by
  have := norm_len h hn (k := 0) (by rw [hv]; decide)
  exact List.eq_nil_of_length_eq_zero (by omega)

/-- One more digit of a sum. -/
theorem carry_step {P s : Int} {Z c X Y x y : Int} (h : Z + P * c = X + Y) (hs : s = c + x + y) : Z + P * (s % 65536) + P * 65536 * (s / 65536) = X + P * x + (Y + P * y) := by
  have e1 : P * s = P * (s % 65536) + P * 65536 * (s / 65536) := by
    rw [Int.mul_assoc, ← Int.mul_add, Int.emod_add_mul_ediv]
  have e2 : P * s = P * c + P * x + P * y := by rw [hs, Int.mul_add, Int.mul_add]
  omega
/-- One more digit of a difference. -/
theorem borrow_step {P v q : Int} {Z c X Y x y : Int} (h : Z - P * c = X - Y) (hs : v - 65536 * q = x - c - y) : Z + P * v - P * 65536 * q = X + P * x - (Y + P * y) := by
  have e1 : P * (v - 65536 * q) = P * v - P * 65536 * q := by rw [Int.mul_sub, Int.mul_assoc]
  have e2 : P * (x - c - y) = P * x - P * c - P * y := by rw [Int.mul_sub, Int.mul_sub]
  rw [hs] at e1
  omega
/-- What comes of two, by their digits. -/
def cmpV (x y : Int) : Int := if x < y then -1 else if y < x then 1 else 0
theorem cmp_short {xs ys : List Int} (hx : Dig xs) (hy : Dig ys) (ny : Norm ys) (h : xs.length < ys.length) : val xs < val ys := by
  have h1 := (val_bd hx).2
  have h2 := norm_low hy ny (by omega)
  have h3 := pow_le16 (a := xs.length) (b := ys.length - 1) (by omega)
  omega
theorem cmp_at {xs ys : List Int} (hx : Dig xs) (hy : Dig ys) {k : Nat} (he : val (xs.drop (k + 1)) = val (ys.drop (k + 1))) (hl : xs.length = ys.length) (hk : k < xs.length) (h : xs.getD k 0 < ys.getD k 0) : val xs < val ys := by
  have s1 := val_split xs k
  have s2 := val_split ys k
  rw [drop_succ' xs k] at s1
  rw [drop_succ' ys k] at s2
  rw [← he] at s2
  have b1 := val_bd (hx.take k)
  have b2 := val_bd (hy.take k)
  rw [List.length_take_of_le (by omega)] at b1 b2
  have hp := pow_pos16 k
  have h3 := Int.mul_le_mul_of_nonneg_left (c := 65536 ^ k) (a := xs.getD k 0 + 65536 * val (xs.drop (k + 1)) + 1) (b := ys.getD k 0 + 65536 * val (xs.drop (k + 1))) (by omega) (by omega)
  rw [Int.mul_add _ (xs.getD k 0 + 65536 * val (xs.drop (k + 1))) 1, Int.mul_one] at h3
  omega
end Go.Proofs.YtmjogpbdgbgkhaaDoor
