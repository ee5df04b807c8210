/- Plain facts: how many bits of a number of 64 are 1, byte by byte: the sums that math/bits.OnesCount64 makes; nothing of the program. -/
import Derived.Test.YtmjogpbdgbgkhaaDoorBits
import Derived.WalkSmall
import Derived.Laws.BitsAllLaws
import Derived.Laws.Bits64b
namespace Go.Proofs.YtmjogpbdgbgkhaaDoor
open Go.RowKit
set_option linter.unusedVariables false

/-- n bytes m. -/
def maskB (m : Nat) : Nat → Nat
  | 0 => 0
  | n + 1 => m + 256 * maskB m n
/-- What g makes of each of the n lowest bytes. -/
def byB (g : Nat → Nat) : Nat → Nat → Nat
  | 0, _ => 0
  | n + 1, s => g (s % 256) + 256 * byB g n (s / 256)
theorem and_byte {a m : Nat} (ha : a < 256) (hm : m < 256) (c M : Nat) : (a + 256 * c) &&& (m + 256 * M) = (a &&& m) + 256 * (c &&& M) := by
  have h1 : a &&& m < 2 ^ 8 := Nat.lt_of_le_of_lt Nat.and_le_left ha
  refine Nat.eq_of_testBit_eq fun j => ?_
  have e : ∀ x y : Nat, x < 2 ^ 8 → (x + 256 * y).testBit j = if j < 8 then x.testBit j else y.testBit (j - 8) := fun x y hx => by
    have := Nat.testBit_two_pow_mul_add y hx j
    rw [Nat.add_comm]; exact this
  rw [Nat.testBit_and, e _ _ ha, e _ _ hm, e _ _ h1, Nat.testBit_and, Nat.testBit_and]
  split <;> rfl
theorem and_mask {p q m : Nat} (hpq : p * q = 256) (hp : 0 < p) (hm : m < 256) (h : ∀ a, a < 256 → ∀ r, r < p → (a / p + q * r) &&& m = (a / p) &&& m) (n s : Nat) :
    (s / p) &&& maskB m n = byB (fun a => (a / p) &&& m) n s := by
  induction n generalizing s with
  | zero => simp [maskB, byB]
  | succ n ih =>
    have hq : 0 < q := by
      rcases Nat.eq_zero_or_pos q with h0 | h0
      · subst h0; simp at hpq
      · exact h0
    have ha : s % 256 < 256 := Nat.mod_lt _ (by decide)
    have hr : s / 256 % p < p := Nat.mod_lt _ hp
    have h1 : s % 256 / p < q := by rw [Nat.div_lt_iff_lt_mul hp, Nat.mul_comm, hpq]; exact ha
    have h2 : s % 256 / p + q * (s / 256 % p) < 256 := by
      have : q * (s / 256 % p) + q ≤ q * p := by
        have h3 : s / 256 % p + 1 ≤ p := hr
        have := Nat.mul_le_mul_left q h3
        rwa [Nat.mul_add, Nat.mul_one] at this
      have h4 : q * p = 256 := by rw [Nat.mul_comm]; exact hpq
      omega
    have e : s / p = (s % 256 / p + q * (s / 256 % p)) + 256 * (s / 256 / p) := by
      have e1 : s = p * (q * (s / 256)) + s % 256 := by rw [← Nat.mul_assoc, hpq]; omega
      have e2 : s / p = q * (s / 256) + s % 256 / p := by
        rw [Nat.div_eq_iff hp] <;> first | skip | skip
        have h5 := Nat.div_add_mod (s % 256) p
        have h6 := Nat.mod_lt (s % 256) hp
        have h7 : p * (q * (s / 256) + s % 256 / p) = p * (q * (s / 256)) + p * (s % 256 / p) := Nat.mul_add _ _ _
        have h8 : (q * (s / 256) + s % 256 / p) * p = p * (q * (s / 256) + s % 256 / p) := Nat.mul_comm _ _
        omega
      have e3 : q * (s / 256) = q * (s / 256 % p) + 256 * (s / 256 / p) := by
        have h9 := Nat.div_add_mod (s / 256) p
        calc q * (s / 256) = q * (p * (s / 256 / p) + s / 256 % p) := by rw [h9]
          _ = q * p * (s / 256 / p) + q * (s / 256 % p) := by rw [Nat.mul_add, Nat.mul_assoc]
          _ = _ := by rw [Nat.mul_comm q p, hpq]; omega
      omega
    rw [e]
    show _ &&& (m + 256 * maskB m n) = ((s % 256 / p) &&& m) + 256 * byB _ n (s / 256)
    rw [and_byte h2 hm, h _ ha _ hr, ih]
theorem byB_add (g h : Nat → Nat) (n s : Nat) : byB g n s + byB h n s = byB (fun a => g a + h a) n s := by
  induction n generalizing s with
  | zero => rfl
  | succ n ih =>
    have := ih (s / 256)
    simp only [byB]
    omega
theorem byB_byB (g h : Nat → Nat) (hh : ∀ a, a < 256 → h a < 256) (n s : Nat) : byB g n (byB h n s) = byB (fun a => g (h a)) n s := by
  induction n generalizing s with
  | zero => rfl
  | succ n ih =>
    have h1 := hh (s % 256) (Nat.mod_lt _ (by decide))
    show g ((h (s % 256) + 256 * byB h n (s / 256)) % 256) + 256 * byB g n ((h (s % 256) + 256 * byB h n (s / 256)) / 256) = _
    have e1 : (h (s % 256) + 256 * byB h n (s / 256)) % 256 = h (s % 256) := by omega
    have e2 : (h (s % 256) + 256 * byB h n (s / 256)) / 256 = byB h n (s / 256) := by omega
    rw [e1, e2, ih]; rfl
theorem byB_le {g : Nat → Nat} {B : Nat} (hg : ∀ a, a < 256 → g a ≤ B) (hB : B < 256) (n s : Nat) : byB g n s ≤ maskB B n := by
  induction n generalizing s with
  | zero => exact Nat.le_refl _
  | succ n ih =>
    have h1 := hg (s % 256) (Nat.mod_lt _ (by decide))
    have h2 := ih (s / 256)
    simp only [byB, maskB]
    omega
theorem and15 (x : Nat) : x &&& 15 = x % 16 := Nat.and_two_pow_sub_one_eq_mod x 4
/-- The two halves of each byte, together. -/
theorem fold_half {h : Nat → Nat} (hh : ∀ a, a < 256 → h a / 16 ≤ 4 ∧ h a % 16 ≤ 4) (n s : Nat) :
    (byB h n s / 16 + byB h n s) &&& maskB 15 n = byB (fun a => h a / 16 + h a % 16) n s := by
  induction n generalizing s with
  | zero => simp [maskB, byB]
  | succ n ih =>
    obtain ⟨h1, h2⟩ := hh (s % 256) (Nat.mod_lt _ (by decide))
    have hc : byB h n (s / 256) % 16 ≤ 4 := by
      rcases n with _ | n
      · exact Nat.zero_le _
      · have := (hh (s / 256 % 256) (Nat.mod_lt _ (by decide))).2
        show (h (s / 256 % 256) + 256 * byB h n (s / 256 / 256)) % 16 ≤ 4
        omega
    have := ih (s / 256)
    show ((h (s % 256) + 256 * byB h n (s / 256)) / 16 + (h (s % 256) + 256 * byB h n (s / 256))) &&& (15 + 256 * maskB 15 n) = h (s % 256) / 16 + h (s % 256) % 16 + 256 * byB _ n (s / 256)
    generalize byB h n (s / 256) = C at *
    generalize h (s % 256) = A at *
    have e : (A + 256 * C) / 16 + (A + 256 * C) = (A / 16 + A + 16 * (C % 16)) + 256 * (C / 16 + C) := by omega
    rw [e, and_byte (by omega) (by decide), this, and15]
    omega
/-- The ones of a byte, as the sums make them. -/
def oneB (a : Nat) : Nat := ((a / 2) &&& 85) + ((a / 1) &&& 85)
def twoB (a : Nat) : Nat := ((a / 4) &&& 51) + ((a / 1) &&& 51)
def pcB (a : Nat) : Nat := twoB (oneB a) / 16 + twoB (oneB a) % 16
theorem oneB_lt : ∀ a, a < 256 → oneB a < 256 := by decide +kernel
theorem twoB_half : ∀ a, a < 256 → twoB (oneB a) / 16 ≤ 4 ∧ twoB (oneB a) % 16 ≤ 4 := by decide +kernel
theorem pcB_is : ∀ a, a < 256 → pcB a = (upTo a 8).length := by decide +kernel
theorem pcB_le : ∀ a, a < 256 → pcB a ≤ 8 := fun a h => by rw [pcB_is a h]; exact upTo_len a 8
theorem mask85 : maskB 85 8 = 6148914691236517205 := rfl
theorem mask51 : maskB 51 8 = 3689348814741910323 := rfl
theorem mask15 : maskB 15 8 = 1085102592571150095 := rfl
theorem upTo_byte (s m : Nat) : (upTo s (8 + m)).length = (upTo (s % 256) 8).length + (upTo (s / 256) m).length := by
  induction m with
  | zero =>
    have e : ∀ k, k ≤ 8 → upTo s k = upTo (s % 256) k := by
      intro k
      induction k with
      | zero => intro _; rfl
      | succ k ih =>
        intro hk
        rw [upTo_succ, upTo_succ, ih (by omega)]
        have : (s % 256).testBit k = s.testBit k := by
          rw [show (256 : Nat) = 2 ^ 8 from rfl, Nat.testBit_mod_two_pow, decide_eq_true (by omega), Bool.true_and]
        rw [this]
    rw [Nat.add_zero, e 8 (Nat.le_refl _)]; rfl
  | succ m ih =>
    rw [← Nat.add_assoc, upTo_succ s (8 + m), upTo_succ (s / 256) m, List.length_append, List.length_append, ih]
    have : (s / 256).testBit m = s.testBit (8 + m) := by
      rw [show (256 : Nat) = 2 ^ 8 from rfl, Nat.testBit_div_two_pow, Nat.add_comm]
    rw [this]
    cases s.testBit (8 + m) <;> simp <;> omega
/-- All bytes' ones. -/
def sumB : Nat → Nat → Nat
  | 0, _ => 0
  | n + 1, s => pcB (s % 256) + sumB n (s / 256)
theorem sumB_is (n s : Nat) : sumB n s = (upTo s (8 * n)).length := by
  induction n generalizing s with
  | zero => rfl
  | succ n ih =>
    rw [show 8 * (n + 1) = 8 + 8 * n by omega, upTo_byte, ← ih, ← pcB_is _ (Nat.mod_lt _ (by decide))]; rfl
theorem fold_x5 {p0 p1 p2 p3 p4 p5 p6 p7 X : Nat} (h0 : p0 ≤ 8) (h1 : p1 ≤ 8) (hX : p0 + 256 * (p1 + 256 * (p2 + 256 * (p3 + 256 * (p4 + 256 * (p5 + 256 * (p6 + 256 * p7)))))) = X) :
    X + X / 256 = (p0 + p1) + 256 * ((p1 + p2) + 256 * ((p2 + p3) + 256 * ((p3 + p4) + 256 * ((p4 + p5) + 256 * ((p5 + p6) + 256 * ((p6 + p7) + 256 * p7)))))) := by
  have e4 : X / 256 = p1 + 256 * (p2 + 256 * (p3 + 256 * (p4 + 256 * (p5 + 256 * (p6 + 256 * p7))))) := by omega
  omega
theorem fold_x6 {q0 q1 q2 q3 q4 q5 q6 q7 Y : Nat} (h0 : q0 ≤ 16) (h1 : q1 ≤ 16) (hY : q0 + 256 * (q1 + 256 * (q2 + 256 * (q3 + 256 * (q4 + 256 * (q5 + 256 * (q6 + 256 * q7)))))) = Y) :
    Y + Y / 65536 = (q0 + q2) + 256 * ((q1 + q3) + 256 * ((q2 + q4) + 256 * ((q3 + q5) + 256 * ((q4 + q6) + 256 * ((q5 + q7) + 256 * (q6 + 256 * q7)))))) := by
  have e4 : Y / 65536 = q2 + 256 * (q3 + 256 * (q4 + 256 * (q5 + 256 * (q6 + 256 * q7)))) := by omega
  omega
theorem fold_x7 {q0 q1 q2 q3 q4 q5 q6 q7 Z : Nat} (h0 : q0 ≤ 32) (h1 : q1 ≤ 32) (h2 : q2 ≤ 32) (h3 : q3 ≤ 32) (hZ : q0 + 256 * (q1 + 256 * (q2 + 256 * (q3 + 256 * (q4 + 256 * (q5 + 256 * (q6 + 256 * q7)))))) = Z) :
    Z + Z / 4294967296 = (q0 + q4) + 256 * ((q1 + q5) + 256 * ((q2 + q6) + 256 * ((q3 + q7) + 256 * (q4 + 256 * (q5 + 256 * (q6 + 256 * q7)))))) := by
  have e4 : Z / 4294967296 = q4 + 256 * (q5 + 256 * (q6 + 256 * q7)) := by omega
  omega
theorem byB_eight (g : Nat → Nat) (s : Nat) : ∃ p0 p1 p2 p3 p4 p5 p6 p7 : Nat, byB g 8 s = p0 + 256 * (p1 + 256 * (p2 + 256 * (p3 + 256 * (p4 + 256 * (p5 + 256 * (p6 + 256 * p7)))))) ∧
    p0 = g (s % 256) ∧ p1 = g (s / 256 % 256) ∧ p2 = g (s / 256 / 256 % 256) ∧ p3 = g (s / 256 / 256 / 256 % 256) ∧ p4 = g (s / 256 / 256 / 256 / 256 % 256) ∧ p5 = g (s / 256 / 256 / 256 / 256 / 256 % 256) ∧
    p6 = g (s / 256 / 256 / 256 / 256 / 256 / 256 % 256) ∧ p7 = g (s / 256 / 256 / 256 / 256 / 256 / 256 / 256 % 256) :=
  ⟨_, _, _, _, _, _, _, _, by simp only [byB]; rfl, rfl, rfl, rfl, rfl, rfl, rfl, rfl, rfl⟩
theorem sumB_eight (s : Nat) : sumB 8 s = pcB (s % 256) + (pcB (s / 256 % 256) + (pcB (s / 256 / 256 % 256) + (pcB (s / 256 / 256 / 256 % 256) + (pcB (s / 256 / 256 / 256 / 256 % 256) + (pcB (s / 256 / 256 / 256 / 256 / 256 % 256) +
    (pcB (s / 256 / 256 / 256 / 256 / 256 / 256 % 256) + pcB (s / 256 / 256 / 256 / 256 / 256 / 256 / 256 % 256))))))) := by simp only [sumB]; rfl
/-- The last sums: the lowest byte is all bytes together. -/
theorem fold_bytes (s : Nat) : ∃ x4 x5 x6 x7 : Nat, x4 = byB pcB 8 s ∧ x5 = x4 + x4 / 256 ∧ x6 = x5 + x5 / 65536 ∧ x7 = x6 + x6 / 4294967296 ∧ x4 < 9223372036854775808 ∧ x5 < 9223372036854775808 ∧ x6 < 9223372036854775808 ∧ x7 < 9223372036854775808 ∧ x7 % 128 = sumB 8 s := by
  have hp : ∀ x, pcB (x % 256) ≤ 8 := fun x => pcB_le _ (Nat.mod_lt _ (by decide))
  obtain ⟨p0, p1, p2, p3, p4, p5, p6, p7, hX, e0, e1, e2, e3, e4, e5, e6, e7⟩ := byB_eight pcB s
  have hs := sumB_eight s
  rw [← e0, ← e1, ← e2, ← e3, ← e4, ← e5, ← e6, ← e7] at hs
  have h0 : p0 ≤ 8 := e0 ▸ hp _
  have h1 : p1 ≤ 8 := e1 ▸ hp _
  have h2 : p2 ≤ 8 := e2 ▸ hp _
  have h3 : p3 ≤ 8 := e3 ▸ hp _
  have h4 : p4 ≤ 8 := e4 ▸ hp _
  have h5 : p5 ≤ 8 := e5 ▸ hp _
  have h6 : p6 ≤ 8 := e6 ▸ hp _
  have h7 : p7 ≤ 8 := e7 ▸ hp _
  clear e0 e1 e2 e3 e4 e5 e6 e7 hp
  generalize sumB 8 s = S at *
  generalize byB pcB 8 s = X at *
  have a5 := fold_x5 h0 h1 hX.symm
  generalize hx5 : X + X / 256 = x5 at *
  have a6 := fold_x6 (by omega) (by omega) a5.symm
  generalize hx6 : x5 + x5 / 65536 = x6 at *
  have a7 := fold_x7 (by omega) (by omega) (by omega) (by omega) a6.symm
  generalize hx7 : x6 + x6 / 4294967296 = x7 at *
  refine ⟨X, x5, x6, x7, rfl, hx5.symm, hx6.symm, hx7.symm, ?_, ?_, ?_, ?_, ?_⟩
  · clear hx5 hx6 hx7 a5 a6 a7; omega
  · clear hx5 hx6 hx7 hX a6 a7; omega
  · clear hx5 hx6 hx7 hX a5 a7; omega
  · clear hx5 hx6 hx7 hX a5 a6; omega
  · clear hx5 hx6 hx7 hX a5 a6; omega
end Go.Proofs.YtmjogpbdgbgkhaaDoor
