/- The document's product of numbers. -/
import Derived.Test.YtnfjfejjbphgbaaAdd
import Derived.Deep.QuietTactic
import Derived.BigQuiet
import Derived.WalkSmall
namespace Go.Proofs.Ytnfjfejjbphgbaa
open Go.RowKit
set_option linter.unusedVariables false

theorem val_set {zs : List Int} {j : Nat} {d : Int} (hj : j < zs.length) : val (zs.set j d) = val zs + 65536 ^ j * (d - zs.getD j 0) := by
  induction zs generalizing j with
  | nil => simp at hj
  | cons a r ih =>
    rcases j with _ | j
    · simp [val]; omega
    · have := ih (j := j) (by simpa using hj)
      simp only [List.set_cons_succ, val, this, List.getD_cons_succ, Int.pow_succ]
      rw [Int.mul_add, Int.mul_comm (65536 ^ j) 65536, Int.mul_assoc]
      omega
theorem Dig.put {zs : List Int} (h : Dig zs) (j : Nat) {d : Int} (h0 : 0 ≤ d) (h1 : d ≤ 65535) : Dig (zs.set j d) := by
  intro e he
  rcases List.mem_or_eq_of_mem_set he with g | g
  · exact h e g
  · subst g; exact ⟨h0, h1⟩
theorem val_zeros (n : Nat) : val (List.replicate n 0) = 0 := by
  induction n with
  | zero => rfl
  | succ n ih => simp [List.replicate_succ, val, ih]
theorem dig_zeros (n : Nat) : Dig (List.replicate n 0) := fun d hd => by
  rw [(List.mem_replicate.1 hd).2]; decide
theorem take_le {ys : List Int} (dy : Dig ys) (k : Nat) : 0 ≤ val (ys.take k) ∧ val (ys.take k) ≤ val ys := by
  have h1 := val_bd (dy.drop k)
  have h2 := val_bd (dy.take k)
  have h3 := val_split ys k
  have h4 := Int.mul_nonneg (Int.le_of_lt (pow_pos16 k)) h1.1
  omega

/-- What the rows of a product have come to: i whole ones, and k digits of the next. -/
def MulAt (xs ys zs : List Int) (i k : Nat) (c : Int) : Prop :=
  val zs + 65536 ^ (i + k) * c = val (xs.take i) * val ys + 65536 ^ i * (xs.getD i 0 * val (ys.take k)) ∧ Dig zs ∧ 0 ≤ c ∧ c ≤ 65535
theorem MulAt.short {xs ys zs : List Int} {i k : Nat} {c : Int} (h : MulAt xs ys zs i k c) (dx : Dig xs) (dy : Dig ys) (hc : 1 ≤ c) : k ≤ ys.length := by
  obtain ⟨h1, h2, h3, h4⟩ := h
  have b1 := val_bd (dx.take (i + 1))
  have b2 := val_bd dy
  have b3 := val_bd h2
  have t1 := take_succ' xs i
  have t2 := take_le dy k
  have dxi := dx.getD i
  have e1 : val (xs.take (i + 1)) * val ys = val (xs.take i) * val ys + 65536 ^ i * (xs.getD i 0 * val ys) := by rw [t1, Int.add_mul, Int.mul_assoc]
  have m1 := Int.mul_le_mul_of_nonneg_left (c := 65536 ^ i) (Int.mul_le_mul_of_nonneg_left (c := xs.getD i 0) t2.2 dxi.1) (Int.le_of_lt (pow_pos16 i))
  have m2 : val (xs.take (i + 1)) * val ys < 65536 ^ (i + 1) * 65536 ^ ys.length := by
    have hl : val (xs.take (i + 1)) < 65536 ^ (i + 1) := Int.lt_of_lt_of_le b1.2 (pow_le16 (by rw [List.length_take]; omega))
    have a1 := Int.mul_le_mul_of_nonneg_right (c := val ys) (Int.le_of_lt hl) b2.1
    have a2 := Int.mul_lt_mul_of_pos_left b2.2 (pow_pos16 (i + 1))
    omega
  rw [← Int.pow_add] at m2
  have m3 := Int.mul_le_mul_of_nonneg_left (c := 65536 ^ (i + k)) hc (Int.le_of_lt (pow_pos16 (i + k)))
  by_cases hk : k ≤ ys.length
  · exact hk
  · have m4 := pow_le16 (a := i + 1 + ys.length) (b := i + k) (by omega)
    omega
theorem MulAt.step {xs ys zs : List Int} {i k : Nat} {c : Int} (h : MulAt xs ys zs i k c) (hz : i + k < zs.length) (v : Int) (hv : v = zs.getD (i + k) 0 + c + xs.getD i 0 * ys.getD k 0) (h0 : 0 ≤ v) (h1 : v ≤ 4294967295) :
    MulAt xs ys (zs.set (i + k) (v % 65536)) i (k + 1) (v / 65536) := by
  obtain ⟨h2, h3, h4, h5⟩ := h
  refine ⟨?_, h3.put _ (by omega) (by omega), by omega, by omega⟩
  rw [val_set hz, take_succ', ← Nat.add_assoc, Int.pow_succ]
  have e1 : 65536 ^ (i + k) * v = 65536 ^ (i + k) * (v % 65536) + 65536 ^ (i + k) * 65536 * (v / 65536) := by rw [Int.mul_assoc, ← Int.mul_add, Int.emod_add_mul_ediv]
  have e2 : 65536 ^ (i + k) * v = 65536 ^ (i + k) * zs.getD (i + k) 0 + 65536 ^ (i + k) * c + 65536 ^ (i + k) * (xs.getD i 0 * ys.getD k 0) := by rw [hv, Int.mul_add, Int.mul_add]
  have e3 : 65536 ^ i * (xs.getD i 0 * (val (ys.take k) + 65536 ^ k * ys.getD k 0)) = 65536 ^ i * (xs.getD i 0 * val (ys.take k)) + 65536 ^ (i + k) * (xs.getD i 0 * ys.getD k 0) := by
    rw [Int.mul_add, Int.mul_add, Int.pow_add, Int.mul_left_comm (xs.getD i 0) (65536 ^ k), Int.mul_assoc]
  rw [e3, Int.mul_sub]
  omega
theorem MulAt.next {xs ys zs : List Int} {i k : Nat} {c : Int} (h : MulAt xs ys zs i k c) (hk : ys.length ≤ k) (hc : c ≤ 0) : MulAt xs ys zs (i + 1) 0 0 := by
  obtain ⟨h2, h3, h4, h5⟩ := h
  obtain rfl : c = 0 := by omega
  refine ⟨?_, h3, by omega, by omega⟩
  rw [List.take_of_length_le hk, Int.mul_zero, Int.add_zero] at h2
  rw [take_succ', h2, Int.add_mul, Int.mul_assoc]
  simp [val]
theorem MulAt.start (xs ys : List Int) (n : Nat) : MulAt xs ys (List.replicate n 0) 0 0 0 := ⟨by rw [val_zeros]; simp [val], dig_zeros n, by omega, by omega⟩
theorem MulAt.fin {xs ys zs : List Int} {i : Nat} {c : Int} (h : MulAt xs ys zs i 0 c) (hc : c = 0) (hi : xs.length ≤ i) : val zs = val xs * val ys := by
  have h2 := h.1
  subst hc
  rw [List.take_of_length_le hi, List.take_zero, Int.mul_zero, Int.add_zero] at h2
  simpa [val] using h2
end Go.Proofs.Ytnfjfejjbphgbaa
