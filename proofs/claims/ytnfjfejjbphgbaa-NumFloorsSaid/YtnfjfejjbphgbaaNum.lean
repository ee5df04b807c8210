/- What the functions of package num answer, one contract each. -/
import Derived.Test.YtnfjfejjbphgbaaRows
import Derived.Test.YtnfjfejjbphgbaaPlain
import Derived.WalkKit
import Derived.WalkSpells
import Derived.WalkLawsBesides
import Derived.Lib.Mul64
import Derived.Laws.Bits64b
import Derived.Laws.Externs
namespace Go.Proofs.Ytnfjfejjbphgbaa
open Go.RowKit
set_option linter.unusedVariables false

set_option maxHeartbeats 400000 in
theorem add_any (a b : Int) (wa : (Lit.int .i64 a).wf = true) (wb : (Lit.int .i64 b).wf = true) (w : World) :
    Calls Try.prog 11 #[.int .i64 a, .int .i64 b] w fun e w' => e = .returned (.tuple #[.int .i64 (fitV (a + b)), .bool (fitB (a + b))]) ∧ w = w' := by
  rw [wf_iff] at wa wb
  go_enter Try.func11, Try.ntmps11
  go_wp2
  · go_ret2
    exact ⟨ret_no (add_out wa wb ‹_›), rfl⟩
  · go_ret2
    exact ⟨ret_yes (add_in wa wb ‹_›).1 (add_in wa wb ‹_›).2, rfl⟩

set_option maxHeartbeats 400000 in
theorem less_any (a b : Int) (wa : (Lit.int .i64 a).wf = true) (wb : (Lit.int .i64 b).wf = true) (w : World) :
    Calls Try.prog 14 #[.int .i64 a, .int .i64 b] w fun e w' => e = .returned (.tuple #[.int .i64 (fitV (a - b)), .bool (fitB (a - b))]) ∧ w = w' := by
  rw [wf_iff] at wa wb
  go_enter Try.func14, Try.ntmps14
  go_wp2
  · go_ret2
    exact ⟨ret_no (less_out wa wb ‹_›), rfl⟩
  · go_ret2
    exact ⟨ret_yes (less_in wa wb ‹_›).1 (less_in wa wb ‹_›).2, rfl⟩

set_option maxHeartbeats 400000 in
theorem divides_any (a b : Int) (w : World) :
    Calls Try.prog 34 #[.int .i64 a, .int .i64 b] w fun e w' => e = .returned (.bool (dvB a b)) ∧ w = w' := by
  go_enter Try.func34, Try.ntmps34
  go_wp2
  · go_ret
    exact ⟨ret_bool (dv_0 (by assumption)).symm, rfl⟩
  · go_ret
    exact ⟨ret_bool (dv_1 (by assumption)), rfl⟩
  · go_ret
    exact ⟨ret_bool (dv_2 (by assumption)), rfl⟩

set_option maxHeartbeats 400000 in
theorem floor_no (a b : Int) (h : dvB a b = false) (w : World) :
    Calls Try.prog 20 #[.int .i64 a, .int .i64 b] w fun e w' => e = .returned (.tuple #[.int .i64 0, .bool false]) ∧ w = w' := by
  go_enter Try.func20, Try.ntmps20
  go_wp2_with (go_at_call 34; refine (divides_any _ _ _).mono ?_; rintro e w' ⟨rfl, rfl⟩)
  go_ret2
  exact ⟨rfl, rfl⟩

set_option maxHeartbeats 400000 in
theorem floor_yes (a b : Int) (wa : (Lit.int .i64 a).wf = true) (h : dvB a b = true) (w : World) :
    Calls Try.prog 20 #[.int .i64 a, .int .i64 b] w fun e w' => e = .returned (.tuple #[.int .i64 (flo a b), .bool true]) ∧ w = w' := by
  rw [wf_iff] at wa
  have hb : ¬ b = 0 := (dvB_true h).1
  by_cases hm : a.tmod b = 0
  · go_enter Try.func20, Try.ntmps20
    go_wp2_with (go_at_call 34; refine (divides_any _ _ _).mono ?_; rintro e w' ⟨rfl, rfl⟩)
    go_ret2
    exact ⟨ret_pair (flo_same wa h hm) rfl, rfl⟩
  · have hm' : (a.tmod b != 0) = true := by simpa using hm
    cases hs : (!decide (a < 0) == decide (b < 0))
    · go_enter Try.func20, Try.ntmps20
      go_wp2_with (go_at_call 34; refine (divides_any _ _ _).mono ?_; rintro e w' ⟨rfl, rfl⟩)
      go_ret2
      exact ⟨ret_pair (flo_up wa h hm hs) rfl, rfl⟩
    · go_enter Try.func20, Try.ntmps20
      go_wp2_with (go_at_call 34; refine (divides_any _ _ _).mono ?_; rintro e w' ⟨rfl, rfl⟩)
      go_ret2
      exact ⟨ret_pair (flo_down wa h hm hs) rfl, rfl⟩

set_option maxHeartbeats 400000 in
theorem ceil_no (a b : Int) (h : dvB a b = false) (w : World) :
    Calls Try.prog 21 #[.int .i64 a, .int .i64 b] w fun e w' => e = .returned (.tuple #[.int .i64 0, .bool false]) ∧ w = w' := by
  go_enter Try.func21, Try.ntmps21
  go_wp2_with (go_at_call 34; refine (divides_any _ _ _).mono ?_; rintro e w' ⟨rfl, rfl⟩)
  go_ret2
  exact ⟨rfl, rfl⟩

set_option maxHeartbeats 400000 in
theorem ceil_yes (a b : Int) (wa : (Lit.int .i64 a).wf = true) (h : dvB a b = true) (w : World) :
    Calls Try.prog 21 #[.int .i64 a, .int .i64 b] w fun e w' => e = .returned (.tuple #[.int .i64 (cei a b), .bool true]) ∧ w = w' := by
  rw [wf_iff] at wa
  have hb : ¬ b = 0 := (dvB_true h).1
  by_cases hm : a.tmod b = 0
  · go_enter Try.func21, Try.ntmps21
    go_wp2_with (go_at_call 34; refine (divides_any _ _ _).mono ?_; rintro e w' ⟨rfl, rfl⟩)
    go_ret2
    exact ⟨ret_pair (cei_same wa h hm) rfl, rfl⟩
  · have hm' : (a.tmod b != 0) = true := by simpa using hm
    cases hs : (decide (a < 0) == decide (b < 0))
    · go_enter Try.func21, Try.ntmps21
      go_wp2_with (go_at_call 34; refine (divides_any _ _ _).mono ?_; rintro e w' ⟨rfl, rfl⟩)
      go_ret2
      exact ⟨ret_pair (cei_down wa h hm hs) rfl, rfl⟩
    · go_enter Try.func21, Try.ntmps21
      go_wp2_with (go_at_call 34; refine (divides_any _ _ _).mono ?_; rintro e w' ⟨rfl, rfl⟩)
      go_ret2
      exact ⟨ret_pair (cei_up wa h hm hs) rfl, rfl⟩

set_option maxHeartbeats 400000 in
theorem size_any (a : Int) (wa : (Lit.int .i64 a).wf = true) (w : World) :
    Calls Try.prog 30 #[.int .i64 a] w fun e w' => e = .returned (.int .u64 (a.natAbs : Int)) ∧ w = w' := by
  rw [wf_iff] at wa
  go_enter Try.func30, Try.ntmps30
  go_wp2
  · go_ret
    exact ⟨ret_u64 (size_neg wa ‹_›), rfl⟩
  · go_ret
    exact ⟨ret_u64 (by omega), rfl⟩

set_option maxHeartbeats 400000 in
theorem below_any (n : Int) (h0 : 0 ≤ n) (h1 : n ≤ 18446744073709551615) (w : World) :
    Calls Try.prog 31 #[.int .u64 n] w fun e w' => e = .returned (.tuple #[.int .i64 (fitV (-n)), .bool (fitB (-n))]) ∧ w = w' := by
  go_enter Try.func31, Try.ntmps31
  go_wp2
  · go_ret2
    exact ⟨ret_no (fitB_false (by omega)), rfl⟩
  · go_ret2
    exact ⟨ret_yes (below_in h0 ‹_›).1 (below_in h0 ‹_›).2, rfl⟩

set_option maxHeartbeats 400000 in
theorem sign_any (a : Int) (w : World) :
    Calls Try.prog 33 #[.int .i64 a] w fun e w' => e = .returned (.int .i64 (sgn a)) ∧ w = w' := by
  go_enter Try.func33, Try.ntmps33
  go_wp2
  · go_ret
    exact ⟨ret_int (sgn_neg ‹_›), rfl⟩
  · go_ret
    exact ⟨ret_int (sgn_pos ‹_›), rfl⟩

set_option maxHeartbeats 400000 in
theorem clip_any (a least most : Int) (w : World) :
    Calls Try.prog 23 #[.int .i64 a, .int .i64 least, .int .i64 most] w fun e w' => e = .returned (.int .i64 (min (max a least) most)) ∧ w = w' := by
  go_enter Try.func23, Try.ntmps23
  go_wp2
  all_goals go_ret
  all_goals exact ⟨ret_int (by omega), rfl⟩

set_option maxHeartbeats 400000 in
theorem sat_any (a b : Int) (wa : (Lit.int .i64 a).wf = true) (wb : (Lit.int .i64 b).wf = true) (w : World) :
    Calls Try.prog 24 #[.int .i64 a, .int .i64 b] w fun e w' => e = .returned (.int .i64 (satV a b)) ∧ w = w' := by
  cases h : fitB (a + b)
  · by_cases ha : a < 0
    · have e : satV a b = -9223372036854775808 := by unfold satV; rw [h, if_neg (by decide), if_pos ha]
      rw [e]
      clear e
      go_enter Try.func24, Try.ntmps24
      go_wp2_with (go_at_call 11; refine (add_any _ _ wa wb _).mono ?_; rintro e w' ⟨rfl, rfl⟩)
      go_ret
      exact ⟨rfl, rfl⟩
    · have e : satV a b = 9223372036854775807 := by unfold satV; rw [h, if_neg (by decide), if_neg ha]
      rw [e]
      clear e
      go_enter Try.func24, Try.ntmps24
      go_wp2_with (go_at_call 11; refine (add_any _ _ wa wb _).mono ?_; rintro e w' ⟨rfl, rfl⟩)
      go_ret
      exact ⟨rfl, rfl⟩
  · have e : satV a b = fitV (a + b) := by unfold satV; rw [h, if_pos rfl, fitV_true h]
    rw [e]
    clear e
    go_enter Try.func24, Try.ntmps24
    go_wp2_with (go_at_call 11; refine (add_any _ _ wa wb _).mono ?_; rintro e w' ⟨rfl, rfl⟩)
    go_ret
    exact ⟨rfl, rfl⟩

theorem mulMask (a : Nat) (ha : a < 18446744073709551616) : bits .and .u64 (a : Int) 4294967295 = ((a % 4294967296 : Nat) : Int) := by
  have h := bits_and_u64_nat a 4294967295 ha (by omega)
  have e : a &&& 4294967295 = a % 4294967296 := Nat.and_two_pow_sub_one_eq_mod a 32
  rw [e] at h
  exact h
theorem mulDiv (a : Nat) : (a : Int) / 4294967296 = ((a / 4294967296 : Nat) : Int) := by omega
theorem mulMul (a b : Nat) : (a : Int) * (b : Int) = ((a * b : Nat) : Int) := (Int.natCast_mul a b).symm
theorem mulAdd (a b : Nat) : (a : Int) + (b : Int) = ((a + b : Nat) : Int) := (Int.natCast_add a b).symm
theorem mulWrap (a : Nat) (ha : a < 18446744073709551616) : IntKind.u64.wrap (a : Int) = (a : Int) := by rw [IntKind.wrap_u64]; omega
theorem mulMod (a : Nat) : IntKind.u64.wrap (a : Int) = ((a % 18446744073709551616 : Nat) : Int) := by rw [IntKind.wrap_u64]; omega

set_option maxHeartbeats 1000000 in
theorem mul64_any (x y : Nat) (hx : x < 18446744073709551616) (hy : y < 18446744073709551616) (w : World) :
    Calls Try.prog 29 #[.int .u64 x, .int .u64 y] w fun e w' => e = .returned (.tuple #[.int .u64 ((x * y / 18446744073709551616 : Nat) : Int), .int .u64 ((x * y % 18446744073709551616 : Nat) : Int)]) ∧ w = w' := by
  obtain ⟨bd, bt, bw, hhi⟩ := Go.Lib.mul64_hi x y hx hy
  have ba := Go.Lib.half_mul_le (a := x / 4294967296) (b := y / 4294967296) (by omega) (by omega)
  have bb := Go.Lib.half_mul_le (a := x / 4294967296) (b := y % 4294967296) (by omega) (by omega)
  have bc := Go.Lib.half_mul_le (a := x % 4294967296) (b := y / 4294967296) (by omega) (by omega)
  have ba' : x / 4294967296 * (y / 4294967296) < 18446744073709551616 := by omega
  have bb' : x / 4294967296 * (y % 4294967296) < 18446744073709551616 := by omega
  have bc' : x % 4294967296 * (y / 4294967296) < 18446744073709551616 := by omega
  have bh1 : x / 4294967296 * (y / 4294967296) + (x / 4294967296 * (y % 4294967296) + x % 4294967296 * (y % 4294967296) / 4294967296) / 4294967296 < 18446744073709551616 := by omega
  have bh : x / 4294967296 * (y / 4294967296) + (x / 4294967296 * (y % 4294967296) + x % 4294967296 * (y % 4294967296) / 4294967296) / 4294967296 + ((x / 4294967296 * (y % 4294967296) + x % 4294967296 * (y % 4294967296) / 4294967296) % 4294967296 + x % 4294967296 * (y / 4294967296)) / 4294967296 < 18446744073709551616 := by omega
  go_enter Try.func29, Try.ntmps29
  go_wp2
  simp only [mulMask x hx, mulMask y hy, mulDiv, mulMul, mulAdd, mulWrap _ bd, mulWrap _ bb', mulWrap _ bt, mulMask _ bt, mulWrap _ bc', mulWrap _ bw, mulWrap _ ba', mulWrap _ bh1, mulWrap _ bh, mulMod (x * y)]
  rw [hhi]
  go_ret2
  exact ⟨rfl, rfl⟩
end Go.Proofs.Ytnfjfejjbphgbaa
