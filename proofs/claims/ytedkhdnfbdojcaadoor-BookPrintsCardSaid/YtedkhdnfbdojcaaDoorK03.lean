import Derived.WalkKit
section
/- Plain facts on numbers, nothing of the program: when a number fits into 64 bits with sign, and what is handed back of it. -/
namespace Go.Proofs.YtedkhdnfbdojcaaDoor
open Go.RowKit
set_option linter.unusedVariables false

/-- The number fits into 64 bits with sign. -/
def fitB (n : Int) : Bool := decide (-9223372036854775808 ≤ n ∧ n ≤ 9223372036854775807)
/-- The number, or 0 where it does not fit. -/
def fitV (n : Int) : Int := if fitB n then n else 0

theorem fitB_true {n : Int} (h : -9223372036854775808 ≤ n ∧ n ≤ 9223372036854775807) : fitB n = true := decide_eq_true h
theorem fitB_false {n : Int} (h : ¬ (-9223372036854775808 ≤ n ∧ n ≤ 9223372036854775807)) : fitB n = false := decide_eq_false h
theorem fitB_iff {n : Int} : fitB n = true ↔ (-9223372036854775808 ≤ n ∧ n ≤ 9223372036854775807) := decide_eq_true_iff
theorem fitV_true {n : Int} (h : fitB n = true) : fitV n = n := by unfold fitV; rw [if_pos h]
theorem fitV_false {n : Int} (h : fitB n = false) : fitV n = 0 := by unfold fitV; rw [if_neg (by rw [h]; decide)]
theorem wf_iff {n : Int} : (Lit.int .i64 n).wf = true ↔ (-9223372036854775808 ≤ n ∧ n ≤ 9223372036854775807) := by
  simp [Lit.wf, IntKind.min, IntKind.max, IntKind.signed, IntKind.bits]

/-- A number of 64 bits with sign. -/
def W64 (n : Int) : Prop := -9223372036854775808 ≤ n ∧ n ≤ 9223372036854775807
theorem W64.lo {n : Int} (h : W64 n) : -9223372036854775808 ≤ n := h.1
theorem W64.hi {n : Int} (h : W64 n) : n ≤ 9223372036854775807 := h.2
theorem W64.wf {n : Int} (h : W64 n) : (Lit.int .i64 n).wf = true := wf_iff.2 h
theorem getD_in {α : Type} (l : List α) (d : α) {i : Nat} (hi : i < l.length) : l.getD i d = l[i] := by rw [List.getD_eq_getElem?_getD, List.getElem?_eq_getElem hi]; rfl
/-- The sum, or the nearest number that fits. -/
def satV (a b : Int) : Int := if fitB (a + b) then a + b else if a < 0 then -9223372036854775808 else 9223372036854775807
/-- a by b is a number that fits. -/
def dvB (a b : Int) : Bool := b != 0 && (a != -9223372036854775808 || b != -1)
/-- The floor of a by b. -/
def flo (a b : Int) : Int := if 0 < b then a / b else (-a) / (-b)
/-- The ceiling of a by b. -/
def cei (a b : Int) : Int := -(flo (-a) b)
/-- The upper half of a number of 128 bits. -/
def sgn (a : Int) : Int := if a < 0 then -1 else 0

theorem add_out {a b : Int} (wa : -9223372036854775808 ≤ a ∧ a ≤ 9223372036854775807) (wb : -9223372036854775808 ≤ b ∧ b ≤ 9223372036854775807)
    (h : (!decide (a < wrap64 (a + b)) == decide (0 < b)) = true) : fitB (a + b) = false := by
  refine fitB_false ?_
  unfold wrap64 at h
  by_cases h1 : 0 < b <;> simp [h1] at h <;> omega
theorem add_in {a b : Int} (wa : -9223372036854775808 ≤ a ∧ a ≤ 9223372036854775807) (wb : -9223372036854775808 ≤ b ∧ b ≤ 9223372036854775807)
    (h : (!decide (a < wrap64 (a + b)) == decide (0 < b)) = false) : fitB (a + b) = true ∧ wrap64 (a + b) = a + b := by
  suffices hs : -9223372036854775808 ≤ a + b ∧ a + b ≤ 9223372036854775807 from ⟨fitB_true hs, IntWalk.wrap64_in _ hs⟩
  unfold wrap64 at h
  by_cases h1 : 0 < b <;> simp [h1] at h <;> omega
theorem less_out {a b : Int} (wa : -9223372036854775808 ≤ a ∧ a ≤ 9223372036854775807) (wb : -9223372036854775808 ≤ b ∧ b ≤ 9223372036854775807)
    (h : (!decide (wrap64 (a - b) < a) == decide (0 < b)) = true) : fitB (a - b) = false := by
  refine fitB_false ?_
  unfold wrap64 at h
  by_cases h1 : 0 < b <;> simp [h1] at h <;> omega
theorem less_in {a b : Int} (wa : -9223372036854775808 ≤ a ∧ a ≤ 9223372036854775807) (wb : -9223372036854775808 ≤ b ∧ b ≤ 9223372036854775807)
    (h : (!decide (wrap64 (a - b) < a) == decide (0 < b)) = false) : fitB (a - b) = true ∧ wrap64 (a - b) = a - b := by
  suffices hs : -9223372036854775808 ≤ a - b ∧ a - b ≤ 9223372036854775807 from ⟨fitB_true hs, IntWalk.wrap64_in _ hs⟩
  unfold wrap64 at h
  by_cases h1 : 0 < b <;> simp [h1] at h <;> omega
theorem ret_pair {x y : Int} {c d : Bool} (h : x = y) (h' : c = d) : Ending.returned (.tuple #[.int .i64 x, .bool c]) = .returned (.tuple #[.int .i64 y, .bool d]) := by rw [h, h']
theorem ret_no {n : Int} (h : fitB n = false) : Ending.returned (.tuple #[.int .i64 0, .bool false]) = .returned (.tuple #[.int .i64 (fitV n), .bool (fitB n)]) := by rw [fitV_false h, h]
theorem ret_yes {n x : Int} (h : fitB n = true) (e : x = n) : Ending.returned (.tuple #[.int .i64 x, .bool true]) = .returned (.tuple #[.int .i64 (fitV n), .bool (fitB n)]) := by rw [fitV_true h, h, e]

theorem dvB_true {a b : Int} (h : dvB a b = true) : b ≠ 0 ∧ (a ≠ -9223372036854775808 ∨ b ≠ -1) := by
  unfold dvB at h
  simpa using h
theorem dv_0 {a b : Int} (h : b = 0) : dvB a b = false := by subst h; simp [dvB]
theorem dv_1 {a b : Int} (ha : a = -9223372036854775808) : (b != 0 && b != -1) = dvB a b := by subst ha; simp [dvB]
theorem dv_2 {a b : Int} (h : ¬ a = -9223372036854775808) : (b != 0) = dvB a b := by simp [dvB, h]

/-- The floor is what is not above, and less than one away. -/
theorem flo_of {a b q : Int} (hb : b ≠ 0) (hp : 0 < b → 0 ≤ a - b * q ∧ a - b * q < b) (hn : b < 0 → 0 ≤ b * q - a ∧ b * q - a < -b) : q = flo a b := by
  unfold flo
  by_cases h : 0 < b
  · rw [if_pos h]
    obtain ⟨h1, h2⟩ := hp h
    exact (((Int.ediv_emod_unique h (a := a) (r := a - b * q) (q := q)).2 ⟨by omega, h1, h2⟩).1).symm
  · rw [if_neg h]
    have h' : 0 < -b := by omega
    obtain ⟨h1, h2⟩ := hn (by omega)
    exact (((Int.ediv_emod_unique h' (a := -a) (r := b * q - a) (q := q)).2 ⟨by rw [Int.neg_mul]; omega, h1, h2⟩).1).symm
theorem flo_spec (a b : Int) (hb : b ≠ 0) : (0 < b → 0 ≤ a - b * flo a b ∧ a - b * flo a b < b) ∧ (b < 0 → 0 ≤ b * flo a b - a ∧ b * flo a b - a < -b) := by
  unfold flo
  refine ⟨fun h => ?_, fun h => ?_⟩
  · rw [if_pos h]
    have h1 := Int.emod_nonneg a hb
    have h2 := Int.emod_lt_of_pos a h
    have h3 := Int.emod_add_mul_ediv a b
    omega
  · rw [if_neg (by omega)]
    have h1 := Int.emod_nonneg (-a) (b := -b) (by omega)
    have h2 := Int.emod_lt_of_pos (-a) (b := -b) (by omega)
    have h3 := Int.emod_add_mul_ediv (-a) (-b)
    rw [Int.neg_mul] at h3
    omega
theorem tparts (a b : Int) (hb : b ≠ 0) : a.tmod b + b * a.tdiv b = a ∧ (0 ≤ a → 0 ≤ a.tmod b) ∧ (a ≤ 0 → a.tmod b ≤ 0) ∧ a.tmod b < b.natAbs ∧ -(b.natAbs : Int) < a.tmod b := by
  refine ⟨Int.tmod_add_mul_tdiv a b, fun h => Int.tmod_nonneg b h, fun h => ?_, ?_, ?_⟩
  · have := Int.tmod_nonneg b (a := -a) (by omega)
    rw [Int.neg_tmod] at this
    omega
  · have := Int.natAbs_tmod a b
    have h2 := Nat.mod_lt a.natAbs (y := b.natAbs) (by omega)
    omega
  · have := Int.natAbs_tmod a b
    have h2 := Nat.mod_lt a.natAbs (y := b.natAbs) (by omega)
    omega
theorem tdiv_small (a b : Int) (hb : 2 ≤ b.natAbs) : (a.tdiv b).natAbs ≤ a.natAbs / 2 := by
  rw [Int.natAbs_tdiv]
  exact Nat.div_le_div_left hb (by omega)
theorem tdiv_range {a b : Int} (wa : -9223372036854775808 ≤ a ∧ a ≤ 9223372036854775807) (h : dvB a b = true) : -9223372036854775808 ≤ a.tdiv b ∧ a.tdiv b ≤ 9223372036854775807 := by
  obtain ⟨h0, h1⟩ := dvB_true h
  by_cases e : b = 1
  · subst e; rw [Int.tdiv_one]; exact wa
  · by_cases e' : b = -1
    · subst e'
      have : a.tdiv (-1) = -a := by rw [Int.tdiv_neg, Int.tdiv_one]
      omega
    · have := tdiv_small a b (by omega)
      omega
theorem tdiv_range2 {a b : Int} (wa : -9223372036854775808 ≤ a ∧ a ≤ 9223372036854775807) (h : dvB a b = true) (hm : a.tmod b ≠ 0) : -9223372036854775807 ≤ a.tdiv b ∧ a.tdiv b ≤ 9223372036854775806 := by
  obtain ⟨h0, h1⟩ := dvB_true h
  have ht := tparts a b h0
  by_cases e : b = 1
  · subst e; omega
  · by_cases e' : b = -1
    · subst e'; omega
    · have := tdiv_small a b (by omega)
      omega
theorem flo_same {a b : Int} (wa : -9223372036854775808 ≤ a ∧ a ≤ 9223372036854775807) (h : dvB a b = true) (hm : a.tmod b = 0) : wrap64 (a.tdiv b) = flo a b := by
  rw [IntWalk.wrap64_in _ (tdiv_range wa h)]
  obtain ⟨h0, h1⟩ := dvB_true h
  have ht := tparts a b h0
  exact flo_of h0 (by omega) (by omega)
theorem flo_down {a b : Int} (wa : -9223372036854775808 ≤ a ∧ a ≤ 9223372036854775807) (h : dvB a b = true) (hm : ¬ a.tmod b = 0) (hs : (!decide (a < 0) == decide (b < 0)) = true) : wrap64 (wrap64 (a.tdiv b) - 1) = flo a b := by
  have hr := tdiv_range2 wa h hm
  rw [IntWalk.wrap64_in (a.tdiv b) (by omega), IntWalk.wrap64_in _ (by omega)]
  obtain ⟨h0, h1⟩ := dvB_true h
  have ht := tparts a b h0
  have e : b * (a.tdiv b - 1) = b * a.tdiv b - b := by rw [Int.mul_sub, Int.mul_one]
  by_cases hb : b < 0
  · simp [hb] at hs
    exact flo_of h0 (by omega) (by omega)
  · simp [hb] at hs
    exact flo_of h0 (by omega) (by omega)
theorem flo_up {a b : Int} (wa : -9223372036854775808 ≤ a ∧ a ≤ 9223372036854775807) (h : dvB a b = true) (hm : ¬ a.tmod b = 0) (hs : (!decide (a < 0) == decide (b < 0)) = false) : wrap64 (a.tdiv b) = flo a b := by
  rw [IntWalk.wrap64_in _ (tdiv_range wa h)]
  obtain ⟨h0, h1⟩ := dvB_true h
  have ht := tparts a b h0
  by_cases hb : b < 0
  · simp [hb] at hs
    exact flo_of h0 (by omega) (by omega)
  · simp [hb] at hs
    exact flo_of h0 (by omega) (by omega)
theorem cei_of {a b q : Int} (hb : b ≠ 0) (hp : 0 < b → 0 ≤ b * q - a ∧ b * q - a < b) (hn : b < 0 → 0 ≤ a - b * q ∧ a - b * q < -b) : q = cei a b := by
  unfold cei
  have := flo_of (a := -a) (b := b) (q := -q) hb (by rw [Int.mul_neg]; omega) (by rw [Int.mul_neg]; omega)
  omega
theorem cei_spec (a b : Int) (hb : b ≠ 0) : (0 < b → 0 ≤ b * cei a b - a ∧ b * cei a b - a < b) ∧ (b < 0 → 0 ≤ a - b * cei a b ∧ a - b * cei a b < -b) := by
  have := flo_spec (-a) b hb
  unfold cei
  rw [Int.mul_neg]
  omega
theorem cei_same {a b : Int} (wa : -9223372036854775808 ≤ a ∧ a ≤ 9223372036854775807) (h : dvB a b = true) (hm : a.tmod b = 0) : wrap64 (a.tdiv b) = cei a b := by
  rw [IntWalk.wrap64_in _ (tdiv_range wa h)]
  obtain ⟨h0, h1⟩ := dvB_true h
  have ht := tparts a b h0
  exact cei_of h0 (by omega) (by omega)
theorem cei_up {a b : Int} (wa : -9223372036854775808 ≤ a ∧ a ≤ 9223372036854775807) (h : dvB a b = true) (hm : ¬ a.tmod b = 0) (hs : (decide (a < 0) == decide (b < 0)) = true) : wrap64 (wrap64 (a.tdiv b) + 1) = cei a b := by
  have hr := tdiv_range2 wa h hm
  rw [IntWalk.wrap64_in (a.tdiv b) (by omega), IntWalk.wrap64_in _ (by omega)]
  obtain ⟨h0, h1⟩ := dvB_true h
  have ht := tparts a b h0
  have e : b * (a.tdiv b + 1) = b * a.tdiv b + b := by rw [Int.mul_add, Int.mul_one]
  by_cases hb : b < 0
  · simp [hb] at hs
    exact cei_of h0 (by omega) (by omega)
  · simp [hb] at hs
    exact cei_of h0 (by omega) (by omega)
theorem cei_down {a b : Int} (wa : -9223372036854775808 ≤ a ∧ a ≤ 9223372036854775807) (h : dvB a b = true) (hm : ¬ a.tmod b = 0) (hs : (decide (a < 0) == decide (b < 0)) = false) : wrap64 (a.tdiv b) = cei a b := by
  rw [IntWalk.wrap64_in _ (tdiv_range wa h)]
  obtain ⟨h0, h1⟩ := dvB_true h
  have ht := tparts a b h0
  by_cases hb : b < 0
  · simp [hb] at hs
    exact cei_of h0 (by omega) (by omega)
  · simp [hb] at hs
    exact cei_of h0 (by omega) (by omega)
theorem ret_int {x y : Int} (h : x = y) : Ending.returned (.int .i64 x) = .returned (.int .i64 y) := by rw [h]
theorem ret_u64 {x y : Int} (h : x = y) : Ending.returned (.int .u64 x) = .returned (.int .u64 y) := by rw [h]
theorem ret_bool {x y : Bool} (h : x = y) : Ending.returned (.bool x) = .returned (.bool y) := by rw [h]
theorem size_neg {a : Int} (wa : -9223372036854775808 ≤ a ∧ a ≤ 9223372036854775807) (h : a < 0) : IntKind.u64.wrap (-IntKind.u64.wrap a) = (a.natAbs : Int) := by
  simp only [IntKind.wrap_u64]; omega
theorem below_in {n : Int} (h0 : 0 ≤ n) (h1 : n ≤ 9223372036854775808) : fitB (-n) = true ∧ wrap64 (IntKind.u64.wrap (-n)) = -n := by
  refine ⟨fitB_true (by omega), ?_⟩
  simp only [IntKind.wrap_u64, wrap64]; omega
theorem sgn_neg {a : Int} (h : a < 0) : -1 = sgn a := by unfold sgn; rw [if_pos h]
theorem sgn_pos {a : Int} (h : 0 ≤ a) : 0 = sgn a := by unfold sgn; rw [if_neg (by omega)]
end Go.Proofs.YtedkhdnfbdojcaaDoor
end
