/- What Times and Sum of package num, and the document's examples (lives), answer. -/
import Derived.Test.YtnfjfejjbphgbaaNum
import Derived.Handy
import Derived.Lib.Hide
namespace Go.Proofs.Ytnfjfejjbphgbaa
open Go.RowKit
set_option linter.unusedVariables false

theorem mul_abs (a b : Int) : ((a.natAbs * b.natAbs : Nat) : Int) = if decide (a < 0) == decide (b < 0) then a * b else -(a * b) := by
  rw [Int.natCast_mul]
  by_cases ha : a < 0 <;> by_cases hb : b < 0 <;> simp [ha, hb]
  · rw [show ((a.natAbs : Nat) : Int) = -a by omega, show ((b.natAbs : Nat) : Int) = -b by omega, Int.neg_mul_neg]
  · rw [show ((a.natAbs : Nat) : Int) = -a by omega, show ((b.natAbs : Nat) : Int) = b by omega, Int.neg_mul]
  · rw [show ((a.natAbs : Nat) : Int) = a by omega, show ((b.natAbs : Nat) : Int) = -b by omega, Int.mul_neg]
  · rw [show ((a.natAbs : Nat) : Int) = a by omega, show ((b.natAbs : Nat) : Int) = b by omega]

theorem mul64_hi {x y : Nat} (hx : x < 18446744073709551616) (hy : y < 18446744073709551616) {h l : Int} (hh : ((x * y / 18446744073709551616 : Nat) : Int) = h) (hl : ((x * y % 18446744073709551616 : Nat) : Int) = l) (w : World) :
    Calls Try.prog 29 #[.int .u64 x, .int .u64 y] w fun e w' => e = .returned (.tuple #[.int .u64 h, .int .u64 l]) ∧ w = w' := by
  subst hh; subst hl; exact mul64_any x y hx hy w

/-- Mul64's upper half is not 0. -/
theorem times_far (a b : Int) (wa : (Lit.int .i64 a).wf = true) (wb : (Lit.int .i64 b).wf = true) (hf : 18446744073709551616 ≤ a.natAbs * b.natAbs) (w : World) :
    Calls Try.prog 16 #[.int .i64 a, .int .i64 b] w fun e w' => e = .returned (.tuple #[.int .i64 0, .bool false]) ∧ w = w' := by
  have wa' := wf_iff.1 wa
  have wb' := wf_iff.1 wb
  obtain ⟨h, hh⟩ : ∃ h : Int, ((a.natAbs * b.natAbs / 18446744073709551616 : Nat) : Int) = h := ⟨_, rfl⟩
  obtain ⟨l, hl⟩ : ∃ l : Int, ((a.natAbs * b.natAbs % 18446744073709551616 : Nat) : Int) = l := ⟨_, rfl⟩
  have C := mul64_hi (by omega) (by omega) hh hl
  have h0 : 1 ≤ h := by omega
  clear hh hl hf wa' wb'
  go_enter Try.func16, Try.ntmps16
  go_wp2_with (first | (go_at_call 30; refine (size_any _ ‹_› _).mono ?_; rintro e w' ⟨rfl, rfl⟩) | (go_at_call 29; refine (C _).mono ?_; rintro e w' ⟨rfl, rfl⟩))
  go_ret2
  exact ⟨rfl, rfl⟩
/-- The upper half is 0; the signs differ. -/
theorem times_neg (a b : Int) (wa : (Lit.int .i64 a).wf = true) (wb : (Lit.int .i64 b).wf = true) (hf : a.natAbs * b.natAbs < 18446744073709551616) (hs : (!decide (a < 0) == decide (b < 0)) = true) (w : World) :
    Calls Try.prog 16 #[.int .i64 a, .int .i64 b] w fun e w' => e = .returned (.tuple #[.int .i64 (fitV (a * b)), .bool (fitB (a * b))]) ∧ w = w' := by
  have wa' := wf_iff.1 wa
  have wb' := wf_iff.1 wb
  obtain ⟨l, hl⟩ : ∃ l : Int, ((a.natAbs * b.natAbs : Nat) : Int) = l := ⟨_, rfl⟩
  have C := mul64_hi (x := a.natAbs) (y := b.natAbs) (h := 0) (l := l) (by omega) (by omega) (by omega) (by omega)
  have h0 : 0 ≤ l := by omega
  have h1 : l ≤ 18446744073709551615 := by omega
  have hm := mul_abs a b
  rw [if_neg (by simpa using hs), hl] at hm
  have hm' : a * b = -l := by omega
  rw [hm']
  clear hl hf wa' wb' hm hm'
  go_enter Try.func16, Try.ntmps16
  go_wp2_with (first | (go_at_call 30; refine (size_any _ ‹_› _).mono ?_; rintro e w' ⟨rfl, rfl⟩) | (go_at_call 29; refine (C _).mono ?_; rintro e w' ⟨rfl, rfl⟩) | (go_at_call 31; refine (below_any _ h0 h1 _).mono ?_; rintro e w' ⟨rfl, rfl⟩))
  go_ret2
  exact ⟨rfl, rfl⟩
/-- The upper half is 0; the signs are the same. -/
theorem times_pos (a b : Int) (wa : (Lit.int .i64 a).wf = true) (wb : (Lit.int .i64 b).wf = true) (hf : a.natAbs * b.natAbs < 18446744073709551616) (hs : (!decide (a < 0) == decide (b < 0)) = false) (w : World) :
    Calls Try.prog 16 #[.int .i64 a, .int .i64 b] w fun e w' => e = .returned (.tuple #[.int .i64 (fitV (a * b)), .bool (fitB (a * b))]) ∧ w = w' := by
  have wa' := wf_iff.1 wa
  have wb' := wf_iff.1 wb
  obtain ⟨l, hl⟩ : ∃ l : Int, ((a.natAbs * b.natAbs : Nat) : Int) = l := ⟨_, rfl⟩
  have C := mul64_hi (x := a.natAbs) (y := b.natAbs) (h := 0) (l := l) (by omega) (by omega) (by omega) (by omega)
  have h0 : 0 ≤ l := by omega
  have h1 : l ≤ 18446744073709551615 := by omega
  have hm := mul_abs a b
  rw [if_pos (by simpa using hs), hl] at hm
  rw [← hm]
  clear hl hf wa' wb' hm
  by_cases hb : l ≤ 9223372036854775807
  · go_enter Try.func16, Try.ntmps16
    go_wp2_with (first | (go_at_call 30; refine (size_any _ ‹_› _).mono ?_; rintro e w' ⟨rfl, rfl⟩) | (go_at_call 29; refine (C _).mono ?_; rintro e w' ⟨rfl, rfl⟩))
    go_ret2
    exact ⟨ret_yes (fitB_true (by omega)) rfl, rfl⟩
  · go_enter Try.func16, Try.ntmps16
    go_wp2_with (first | (go_at_call 30; refine (size_any _ ‹_› _).mono ?_; rintro e w' ⟨rfl, rfl⟩) | (go_at_call 29; refine (C _).mono ?_; rintro e w' ⟨rfl, rfl⟩))
    go_ret2
    exact ⟨ret_no (fitB_false (by omega)), rfl⟩

theorem times_any (a b : Int) (wa : (Lit.int .i64 a).wf = true) (wb : (Lit.int .i64 b).wf = true) (w : World) :
    Calls Try.prog 16 #[.int .i64 a, .int .i64 b] w fun e w' => e = .returned (.tuple #[.int .i64 (fitV (a * b)), .bool (fitB (a * b))]) ∧ w = w' := by
  by_cases hf : a.natAbs * b.natAbs < 18446744073709551616
  · cases hs : (!decide (a < 0) == decide (b < 0))
    · exact times_pos a b wa wb hf hs w
    · exact times_neg a b wa wb hf hs w
  · have hm := mul_abs a b
    have hn : fitB (a * b) = false := fitB_false (by split at hm <;> omega)
    refine (times_far a b wa wb (by omega) w).mono ?_
    rintro e w' ⟨rfl, rfl⟩
    exact ⟨ret_no hn, rfl⟩

/-! ### Sum -/
/-- A slice that reads as these numbers (nil too). -/
def Ints (w : World) (A : Option Addr) (n : Nat) (xs : List Int) : Prop :=
  xs.length = n ∧ (0 < n → ∃ b off, A = some ⟨b, off, none⟩ ∧ ∀ k, k < n → w.cell? ⟨b, off + k, none⟩ = some (.int .i64 (xs.getD k 0)))

/-- What Sum has after k rounds: H 2^64 + L is the first k together. -/
def SumAt (xs : List Int) (k : Nat) (H L : Int) : Prop := H * 18446744073709551616 + L = (xs.take k).sum ∧ 0 ≤ L ∧ L ≤ 18446744073709551615 ∧ -(k : Int) ≤ H ∧ H ≤ k

theorem sum_step {xs : List Int} {k : Nat} {H L : Int} (h : SumAt xs k H L) (hk : k < xs.length) (hx : -9223372036854775808 ≤ xs.getD k 0 ∧ xs.getD k 0 ≤ 9223372036854775807) :
    SumAt xs (k + 1) (H + (sgn (xs.getD k 0) + (L + IntKind.u64.wrap (xs.getD k 0) + 0) / 18446744073709551616)) ((L + IntKind.u64.wrap (xs.getD k 0) + 0) % 18446744073709551616) := by
  obtain ⟨h1, h2, h3, h4, h5⟩ := h
  have e : (xs.take (k + 1)).sum = (xs.take k).sum + xs.getD k 0 := by
    rw [List.take_succ_eq_append_getElem hk, List.sum_append, List.sum_singleton, List.getD_eq_getElem?_getD, List.getElem?_eq_getElem hk]; rfl
  unfold SumAt
  rw [e, ← h1, IntKind.wrap_u64]
  unfold sgn
  split <;> omega
theorem sum_end {xs : List Int} {k : Nat} {H L : Int} (h : SumAt xs k H L) (hk : xs.length ≤ k) : H * 18446744073709551616 + L = xs.sum ∧ 0 ≤ L ∧ L ≤ 18446744073709551615 := by
  obtain ⟨h1, h2, h3, h4, h5⟩ := h
  rw [List.take_of_length_le hk] at h1
  exact ⟨h1, h2, h3⟩
theorem sum_yes {S H L : Int} (h : H * 18446744073709551616 + L = S) (h2 : 0 ≤ L) (h3 : L ≤ 18446744073709551615) (he : H = sgn (wrap64 L)) : fitB S = true ∧ wrap64 L = S := by
  have hw : wrap64 L = if L < 9223372036854775808 then L else L - 18446744073709551616 := by unfold wrap64; split <;> omega
  rw [hw] at he ⊢
  unfold sgn at he
  have : -9223372036854775808 ≤ S ∧ S ≤ 9223372036854775807 := by split at he <;> split at he <;> omega
  refine ⟨fitB_true this, ?_⟩
  split at he <;> split at he <;> omega
theorem sum_no {S H L : Int} (h : H * 18446744073709551616 + L = S) (h2 : 0 ≤ L) (h3 : L ≤ 18446744073709551615) (he : ¬ H = sgn (wrap64 L)) : fitB S = false := by
  have hw : wrap64 L = if L < 9223372036854775808 then L else L - 18446744073709551616 := by unfold wrap64; split <;> omega
  rw [hw] at he
  unfold sgn at he
  refine fitB_false ?_
  split at he <;> split at he <;> omega

theorem add64_any (x y : Int) (hx : 0 ≤ x) (hy : 0 ≤ y) (w : World) :
    (callFunc 32 #[.int .u64 x, .int .u64 y, .int .u64 0]).run Try.prog w =
      .ok (.value (.tuple #[.int .u64 ((x + y + 0) % 18446744073709551616), .int .u64 ((x + y + 0) / 18446744073709551616)])) w := by
  rw [run_callFunc_extern Try.func32 (by kernel_rfl) (by kernel_rfl) (by kernel_rfl) (e := add64Entry) (by kernel_rfl), run_add64 x y 0 hx hy (by omega) (by omega)]
  rfl
end Go.Proofs.Ytnfjfejjbphgbaa
