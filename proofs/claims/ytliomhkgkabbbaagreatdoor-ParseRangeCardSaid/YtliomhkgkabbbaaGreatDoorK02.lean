import Derived.WalkKit
section
/- Plain facts on numbers, nothing of the program: when a number fits into 64 bits with sign, and what is handed back of it. -/
namespace Go.Proofs.YtliomhkgkabbbaaGreatDoor
open Go.RowKit
set_option linter.unusedVariables false

/-- The number fits into 64 bits with sign. -/
def fitB (n : Int) : Bool := decide (-9223372036854775808 ≤ n ∧ n ≤ 9223372036854775807)
/-- The number, or 0 where it does not fit. -/
def fitV (n : Int) : Int := if fitB n then n else 0

theorem fitB_true {n : Int} (h : -9223372036854775808 ≤ n ∧ n ≤ 9223372036854775807) : fitB n = true := decide_eq_true h
theorem fitB_false {n : Int} (h : ¬ (-9223372036854775808 ≤ n ∧ n ≤ 9223372036854775807)) : fitB n = false := decide_eq_false h
theorem fitB_iff {n : Int} : fitB n = true ↔ (-9223372036854775808 ≤ n ∧ n ≤ 9223372036854775807) := decide_eq_true_iff
theorem fitV_true {n : Int} (h : fitB n = true) : fitV n = n := by unfold fitV; rw [if_pos h]
theorem fitV_false {n : Int} (h : fitB n = false) : fitV n = 0 := by unfold fitV; rw [if_neg (by rw [h]; decide)]
theorem wf_iff {n : Int} : (Lit.int .i64 n).wf = true ↔ (-9223372036854775808 ≤ n ∧ n ≤ 9223372036854775807) := by
  simp [Lit.wf, IntKind.min, IntKind.max, IntKind.signed, IntKind.bits]

/-- The sum, or the nearest number that fits. -/
def satV (a b : Int) : Int := if fitB (a + b) then a + b else if a < 0 then -9223372036854775808 else 9223372036854775807
/-- a by b is a number that fits. -/
def dvB (a b : Int) : Bool := b != 0 && (a != -9223372036854775808 || b != -1)
/-- The floor of a by b. -/
def flo (a b : Int) : Int := if 0 < b then a / b else (-a) / (-b)
/-- The ceiling of a by b. -/
def cei (a b : Int) : Int := -(flo (-a) b)
/-- The upper half of a number of 128 bits. -/
def sgn (a : Int) : Int := if a < 0 then -1 else 0

theorem add_out {a b : Int} (wa : -9223372036854775808 ≤ a ∧ a ≤ 9223372036854775807) (wb : -9223372036854775808 ≤ b ∧ b ≤ 9223372036854775807)
    (h : (!decide (a < wrap64 (a + b)) == decide (0 < b)) = true) : fitB (a + b) = false := by
  refine fitB_false ?_
  unfold wrap64 at h
  by_cases h1 : 0 < b <;> simp [h1] at h <;> omega
theorem add_in {a b : Int} (wa : -9223372036854775808 ≤ a ∧ a ≤ 9223372036854775807) (wb : -9223372036854775808 ≤ b ∧ b ≤ 9223372036854775807)
    (h : (!decide (a < wrap64 (a + b)) == decide (0 < b)) = false) : fitB (a + b) = true ∧ wrap64 (a + b) = a + b := by
  suffices hs : -9223372036854775808 ≤ a + b ∧ a + b ≤ 9223372036854775807 from ⟨fitB_true hs, IntWalk.wrap64_in _ hs⟩
  unfold wrap64 at h
  by_cases h1 : 0 < b <;> simp [h1] at h <;> omega
theorem less_out {a b : Int} (wa : -9223372036854775808 ≤ a ∧ a ≤ 9223372036854775807) (wb : -9223372036854775808 ≤ b ∧ b ≤ 9223372036854775807)
    (h : (!decide (wrap64 (a - b) < a) == decide (0 < b)) = true) : fitB (a - b) = false := by
  refine fitB_false ?_
  unfold wrap64 at h
  by_cases h1 : 0 < b <;> simp [h1] at h <;> omega
theorem less_in {a b : Int} (wa : -9223372036854775808 ≤ a ∧ a ≤ 9223372036854775807) (wb : -9223372036854775808 ≤ b ∧ b ≤ 9223372036854775807)
    (h : (!decide (wrap64 (a - b) < a) == decide (0 < b)) = false) : fitB (a - b) = true ∧ wrap64 (a - b) = a - b := by
  suffices hs : -9223372036854775808 ≤ a - b ∧ a - b ≤ 9223372036854775807 from ⟨fitB_true hs, IntWalk.wrap64_in _ hs⟩
  unfold wrap64 at h
  by_cases h1 : 0 < b <;> simp [h1] at h <;> omega
theorem ret_pair {x y : Int} {c d : Bool} (h : x = y) (h' : c = d) : Ending.returned (.tuple #[.int .i64 x, .bool c]) = .returned (.tuple #[.int .i64 y, .bool d]) := by rw [h, h']
theorem ret_no {n : Int} (h : fitB n = false) : Ending.returned (.tuple #[.int .i64 0, .bool false]) = .returned (.tuple #[.int .i64 (fitV n), .bool (fitB n)]) := by rw [fitV_false h, h]
theorem ret_yes {n x : Int} (h : fitB n = true) (e : x = n) : Ending.returned (.tuple #[.int .i64 x, .bool true]) = .returned (.tuple #[.int .i64 (fitV n), .bool (fitB n)]) := by rw [fitV_true h, h, e]

theorem dvB_true {a b : Int} (h : dvB a b = true) : b ≠ 0 ∧ (a ≠ -9223372036854775808 ∨ b ≠ -1) := by
  unfold dvB at h
  simpa using h
theorem dv_0 {a b : Int} (h : b = 0) : dvB a b = false := by subst h; simp [dvB]
theorem dv_1 {a b : Int} (ha : a = -9223372036854775808) : (b != 0 && b != -1) = dvB a b := by subst ha; simp [dvB]
theorem dv_2 {a b : Int} (h : ¬ a = -9223372036854775808) : (b != 0) = dvB a b := by simp [dvB, h]

/-- The floor is what is not above, and less than one away. -/
theorem flo_of {a b q : Int} (hb : b ≠ 0) (hp : 0 < b → 0 ≤ a - b * q ∧ a - b * q < b) (hn : b < 0 → 0 ≤ b * q - a ∧ b * q - a < -b) : q = flo a b := by
  unfold flo
  by_cases h : 0 < b
  · rw [if_pos h]
    obtain ⟨h1, h2⟩ := hp h
    exact (((Int.ediv_emod_unique h (a := a) (r := a - b * q) (q := q)).2 ⟨by omega, h1, h2⟩).1).symm
  · rw [if_neg h]
    have h' : 0 < -b := by omega
    obtain ⟨h1, h2⟩ := hn (by omega)
    exact (((Int.ediv_emod_unique h' (a := -a) (r := b * q - a) (q := q)).2 ⟨by rw [Int.neg_mul]; omega, h1, h2⟩).1).symm
theorem flo_spec (a b : Int) (hb : b ≠ 0) : (0 < b → 0 ≤ a - b * flo a b ∧ a - b * flo a b < b) ∧ (b < 0 → 0 ≤ b * flo a b - a ∧ b * flo a b - a < -b) := by
  unfold flo
  refine ⟨fun h => ?_, fun h => ?_⟩
  · rw [if_pos h]
    have h1 := Int.emod_nonneg a hb
    have h2 := Int.emod_lt_of_pos a h
    have h3 := Int.emod_add_mul_ediv a b
    omega
  · rw [if_neg (by omega)]
    have h1 := Int.emod_nonneg (-a) (b := -b) (by omega)
    have h2 := Int.emod_lt_of_pos (-a) (b := -b) (by omega)
    have h3 := Int.emod_add_mul_ediv (-a) (-b)
    rw [Int.neg_mul] at h3
    omega
theorem tparts (a b : Int) (hb : b ≠ 0) : a.tmod b + b * a.tdiv b = a ∧ (0 ≤ a → 0 ≤ a.tmod b) ∧ (a ≤ 0 → a.tmod b ≤ 0) ∧ a.tmod b < b.natAbs ∧ -(b.natAbs : Int) < a.tmod b := by
  refine ⟨Int.tmod_add_mul_tdiv a b, fun h => Int.tmod_nonneg b h, fun h => ?_, ?_, ?_⟩
  · have := Int.tmod_nonneg b (a := -a) (by omega)
    rw [Int.neg_tmod] at this
    omega
  · have := Int.natAbs_tmod a b
    have h2 := Nat.mod_lt a.natAbs (y := b.natAbs) (by omega)
    omega
  · have := Int.natAbs_tmod a b
    have h2 := Nat.mod_lt a.natAbs (y := b.natAbs) (by omega)
    omega
theorem tdiv_small (a b : Int) (hb : 2 ≤ b.natAbs) : (a.tdiv b).natAbs ≤ a.natAbs / 2 := by
  rw [Int.natAbs_tdiv]
  exact Nat.div_le_div_left hb (by omega)
theorem tdiv_range {a b : Int} (wa : -9223372036854775808 ≤ a ∧ a ≤ 9223372036854775807) (h : dvB a b = true) : -9223372036854775808 ≤ a.tdiv b ∧ a.tdiv b ≤ 9223372036854775807 := by
  obtain ⟨h0, h1⟩ := dvB_true h
  by_cases e : b = 1
  · subst e; rw [Int.tdiv_one]; exact wa
  · by_cases e' : b = -1
    · subst e'
      have : a.tdiv (-1) = -a := by rw [Int.tdiv_neg, Int.tdiv_one]
      omega
    · have := tdiv_small a b (by omega)
      omega
theorem tdiv_range2 {a b : Int} (wa : -9223372036854775808 ≤ a ∧ a ≤ 9223372036854775807) (h : dvB a b = true) (hm : a.tmod b ≠ 0) : -9223372036854775807 ≤ a.tdiv b ∧ a.tdiv b ≤ 9223372036854775806 := by
  obtain ⟨h0, h1⟩ := dvB_true h
  have ht := tparts a b h0
  by_cases e : b = 1
  · subst e; omega
  · by_cases e' : b = -1
    · subst e'; omega
    · have := tdiv_small a b (by omega)
      omega
theorem flo_same {a b : Int} (wa : -9223372036854775808 ≤ a ∧ a ≤ 9223372036854775807) (h : dvB a b = true) (hm : a.tmod b = 0) : wrap64 (a.tdiv b) = flo a b := by
  rw [IntWalk.wrap64_in _ (tdiv_range wa h)]
  obtain ⟨h0, h1⟩ := dvB_true h
  have ht := tparts a b h0
  exact flo_of h0 (by omega) (by omega)
theorem flo_down {a b : Int} (wa : -9223372036854775808 ≤ a ∧ a ≤ 9223372036854775807) (h : dvB a b = true) (hm : ¬ a.tmod b = 0) (hs : (!decide (a < 0) == decide (b < 0)) = true) : wrap64 (wrap64 (a.tdiv b) - 1) = flo a b := by
  have hr := tdiv_range2 wa h hm
  rw [IntWalk.wrap64_in (a.tdiv b) (by omega), IntWalk.wrap64_in _ (by omega)]
  obtain ⟨h0, h1⟩ := dvB_true h
  have ht := tparts a b h0
  have e : b * (a.tdiv b - 1) = b * a.tdiv b - b := by rw [Int.mul_sub, Int.mul_one]
  by_cases hb : b < 0
  · simp [hb] at hs
    exact flo_of h0 (by omega) (by omega)
  · simp [hb] at hs
    exact flo_of h0 (by omega) (by omega)
theorem flo_up {a b : Int} (wa : -9223372036854775808 ≤ a ∧ a ≤ 9223372036854775807) (h : dvB a b = true) (hm : ¬ a.tmod b = 0) (hs : (!decide (a < 0) == decide (b < 0)) = false) : wrap64 (a.tdiv b) = flo a b := by
  rw [IntWalk.wrap64_in _ (tdiv_range wa h)]
  obtain ⟨h0, h1⟩ := dvB_true h
  have ht := tparts a b h0
  by_cases hb : b < 0
  · simp [hb] at hs
    exact flo_of h0 (by omega) (by omega)
  · simp [hb] at hs
    exact flo_of h0 (by omega) (by omega)
theorem cei_of {a b q : Int} (hb : b ≠ 0) (hp : 0 < b → 0 ≤ b * q - a ∧ b * q - a < b) (hn : b < 0 → 0 ≤ a - b * q ∧ a - b * q < -b) : q = cei a b := by
  unfold cei
  have := flo_of (a := -a) (b := b) (q := -q) hb (by rw [Int.mul_neg]; omega) (by rw [Int.mul_neg]; omega)
  omega
theorem cei_spec (a b : Int) (hb : b ≠ 0) : (0 < b → 0 ≤ b * cei a b - a ∧ b * cei a b - a < b) ∧ (b < 0 → 0 ≤ a - b * cei a b ∧ a - b * cei a b < -b) := by
  have := flo_spec (-a) b hb
  unfold cei
  rw [Int.mul_neg]
  omega
theorem cei_same {a b : Int} (wa : -9223372036854775808 ≤ a ∧ a ≤ 9223372036854775807) (h : dvB a b = true) (hm : a.tmod b = 0) : wrap64 (a.tdiv b) = cei a b := by
  rw [IntWalk.wrap64_in _ (tdiv_range wa h)]
  obtain ⟨h0, h1⟩ := dvB_true h
  have ht := tparts a b h0
  exact cei_of h0 (by omega) (by omega)
theorem cei_up {a b : Int} (wa : -9223372036854775808 ≤ a ∧ a ≤ 9223372036854775807) (h : dvB a b = true) (hm : ¬ a.tmod b = 0) (hs : (decide (a < 0) == decide (b < 0)) = true) : wrap64 (wrap64 (a.tdiv b) + 1) = cei a b := by
  have hr := tdiv_range2 wa h hm
  rw [IntWalk.wrap64_in (a.tdiv b) (by omega), IntWalk.wrap64_in _ (by omega)]
  obtain ⟨h0, h1⟩ := dvB_true h
  have ht := tparts a b h0
  have e : b * (a.tdiv b + 1) = b * a.tdiv b + b := by rw [Int.mul_add, Int.mul_one]
  by_cases hb : b < 0
  · simp [hb] at hs
    exact cei_of h0 (by omega) (by omega)
  · simp [hb] at hs
    exact cei_of h0 (by omega) (by omega)
theorem cei_down {a b : Int} (wa : -9223372036854775808 ≤ a ∧ a ≤ 9223372036854775807) (h : dvB a b = true) (hm : ¬ a.tmod b = 0) (hs : (decide (a < 0) == decide (b < 0)) = false) : wrap64 (a.tdiv b) = cei a b := by
  rw [IntWalk.wrap64_in _ (tdiv_range wa h)]
  obtain ⟨h0, h1⟩ := dvB_true h
  have ht := tparts a b h0
  by_cases hb : b < 0
  · simp [hb] at hs
    exact cei_of h0 (by omega) (by omega)
  · simp [hb] at hs
    exact cei_of h0 (by omega) (by omega)
theorem ret_int {x y : Int} (h : x = y) : Ending.returned (.int .i64 x) = .returned (.int .i64 y) := by rw [h]
theorem ret_u64 {x y : Int} (h : x = y) : Ending.returned (.int .u64 x) = .returned (.int .u64 y) := by rw [h]
theorem ret_bool {x y : Bool} (h : x = y) : Ending.returned (.bool x) = .returned (.bool y) := by rw [h]
theorem size_neg {a : Int} (wa : -9223372036854775808 ≤ a ∧ a ≤ 9223372036854775807) (h : a < 0) : IntKind.u64.wrap (-IntKind.u64.wrap a) = (a.natAbs : Int) := by
  simp only [IntKind.wrap_u64]; omega
theorem below_in {n : Int} (h0 : 0 ≤ n) (h1 : n ≤ 9223372036854775808) : fitB (-n) = true ∧ wrap64 (IntKind.u64.wrap (-n)) = -n := by
  refine ⟨fitB_true (by omega), ?_⟩
  simp only [IntKind.wrap_u64, wrap64]; omega
theorem sgn_neg {a : Int} (h : a < 0) : -1 = sgn a := by unfold sgn; rw [if_pos h]
theorem sgn_pos {a : Int} (h : 0 ≤ a) : 0 = sgn a := by unfold sgn; rw [if_neg (by omega)]
end Go.Proofs.YtliomhkgkabbbaaGreatDoor
end
section
/- Plain facts on sets of days as numbers and as lists of noughts and ones; nothing of the program. -/
namespace Go.Proofs.YtliomhkgkabbbaaGreatDoor
open Go.RowKit
set_option linter.unusedVariables false

/-- The bits of a set, 64 of them. -/
def bitsL (s : Nat) : List Int := (List.range 64).map fun d => if s.testBit d then 1 else 0
/-- The number of a list of bits. -/
def num2 : List Int → Nat
  | [] => 0
  | b :: r => (if b = 1 then 1 else 0) + 2 * num2 r
/-- All are 0 or 1. -/
def Bin (xs : List Int) : Prop := ∀ b ∈ xs, b = 0 ∨ b = 1

theorem bitsL_len (s : Nat) : (bitsL s).length = 64 := by simp [bitsL]
theorem bitsL_getD {s d : Nat} (hd : d < 64) : (bitsL s).getD d 0 = if s.testBit d then 1 else 0 := by
  unfold bitsL
  rw [List.getD_eq_getElem?_getD, List.getElem?_map, List.getElem?_range hd]
  rfl
theorem bitsL_bin (s : Nat) : Bin (bitsL s) := by
  intro b hb
  obtain ⟨d, _, rfl⟩ := List.mem_map.1 hb
  split <;> simp
theorem Bin.put {xs : List Int} (h : Bin xs) (j : Nat) {b : Int} (hb : b = 0 ∨ b = 1) : Bin (xs.set j b) := by
  intro e he
  rcases List.mem_or_eq_of_mem_set he with g | g
  · exact h e g
  · subst g; exact hb
theorem Bin.getD {xs : List Int} (h : Bin xs) (k : Nat) : xs.getD k 0 = 0 ∨ xs.getD k 0 = 1 := by
  rw [List.getD_eq_getElem?_getD]
  rcases Nat.lt_or_ge k xs.length with hk | hk
  · rw [List.getElem?_eq_getElem hk]; exact h _ (List.getElem_mem hk)
  · rw [List.getElem?_eq_none hk]; exact .inl rfl
theorem num2_lt (xs : List Int) : num2 xs < 2 ^ xs.length := by
  induction xs with
  | nil => simp [num2]
  | cons b r ih =>
    simp only [num2, List.length_cons, Nat.pow_succ]
    split <;> omega
theorem num2_bit (xs : List Int) (j : Nat) : (num2 xs).testBit j = decide (xs.getD j 0 = 1) := by
  induction xs generalizing j with
  | nil => simp [num2]
  | cons b r ih =>
    rcases j with _ | j
    · simp only [num2, Nat.testBit_zero, List.getD_cons_zero]
      by_cases h : b = 1
      · rw [if_pos h]; simp [h]
      · rw [if_neg h]; simp [h]
    · rw [List.getD_cons_succ, ← ih, Nat.testBit_succ]
      congr 1
      simp only [num2]
      split <;> omega
/-- Two sets are the same if their 64 days are. -/
theorem eq_bits {a b : Nat} (ha : a < 2 ^ 64) (hb : b < 2 ^ 64) (h : ∀ j, j < 64 → a.testBit j = b.testBit j) : a = b := by
  refine Nat.eq_of_testBit_eq fun j => ?_
  by_cases hj : j < 64
  · exact h j hj
  · rw [Nat.testBit_lt_two_pow (Nat.lt_of_lt_of_le ha (Nat.pow_le_pow_right (by decide) (by omega))), Nat.testBit_lt_two_pow (Nat.lt_of_lt_of_le hb (Nat.pow_le_pow_right (by decide) (by omega)))]
theorem num2_bitsL {s : Nat} (hs : s < 2 ^ 64) : num2 (bitsL s) = s := by
  have hl := num2_lt (bitsL s)
  rw [bitsL_len] at hl
  refine eq_bits hl hs fun j hj => ?_
  rw [num2_bit, bitsL_getD hj]
  cases s.testBit j <;> simp
/-- The set with bit d so. -/
def putN (s : Nat) (d : Int) (b : Int) : Nat := if 0 ≤ d ∧ d ≤ 63 then num2 ((bitsL s).set d.toNat b) else s
theorem putN_lt {s : Nat} (hs : s < 2 ^ 64) (d b : Int) : putN s d b < 2 ^ 64 := by
  unfold putN
  split
  · have := num2_lt ((bitsL s).set d.toNat b)
    rwa [List.length_set, bitsL_len] at this
  · exact hs
theorem putN_bit {s : Nat} {d b : Int} {j : Nat} (hj : j < 64) (hd : 0 ≤ d ∧ d ≤ 63) : (putN s d b).testBit j = if (j : Int) = d then decide (b = 1) else s.testBit j := by
  unfold putN
  rw [if_pos hd, num2_bit, List.getD_eq_getElem?_getD, List.getElem?_set]
  by_cases h : (j : Int) = d
  · have : d.toNat = j := by omega
    rw [if_pos this, if_pos h, bitsL_len, this, if_pos hj]
    rfl
  · have : d.toNat ≠ j := by omega
    rw [if_neg this, if_neg h, ← List.getD_eq_getElem?_getD, bitsL_getD hj]
    cases s.testBit j <;> simp
/-- Is the day in the set? -/
def hasB (s : Nat) (d : Int) : Bool := decide (0 ≤ d ∧ d ≤ 63) && s.testBit d.toNat
/-- The days of a set up to day n, rising. -/
def upTo (s : Nat) (n : Nat) : List Int := ((List.range n).filter fun d => s.testBit d).map fun d : Nat => (d : Int)
/-- The days of a set, rising. -/
def allI (s : Nat) : List Int := upTo s 64
theorem upTo_succ (s n : Nat) : upTo s (n + 1) = upTo s n ++ (if s.testBit n then [(n : Int)] else []) := by
  unfold upTo
  rw [List.range_succ, List.filter_append, List.map_append]
  congr 1
  cases h : s.testBit n <;> simp [h]
theorem upTo_len (s n : Nat) : (upTo s n).length ≤ n := by
  unfold upTo
  rw [List.length_map]
  have := List.length_filter_le (fun d => s.testBit d) (List.range n)
  simpa using this
theorem mem_upTo {s n : Nat} {x : Int} : x ∈ upTo s n ↔ 0 ≤ x ∧ x < n ∧ s.testBit x.toNat = true := by
  unfold upTo
  rw [List.mem_map]
  constructor
  · rintro ⟨d, hd, rfl⟩
    obtain ⟨h1, h2⟩ := List.mem_filter.1 hd
    exact ⟨by omega, by have := List.mem_range.1 h1; omega, by simpa using h2⟩
  · rintro ⟨h0, h1, h2⟩
    exact ⟨x.toNat, List.mem_filter.2 ⟨List.mem_range.2 (by omega), h2⟩, by omega⟩
theorem upTo_sorted (s n : Nat) : (upTo s n).Pairwise (· < ·) := by
  unfold upTo
  rw [List.pairwise_map]
  refine List.Pairwise.imp ?_ ((List.pairwise_lt_range (n := n)).filter _)
  intro a b h
  omega
/-- The first day that is d or later; -1, if there is none. -/
def nextI (s : Nat) (d : Int) : Int := ((allI s).find? fun x => decide (d ≤ x)).getD (-1)
theorem bits_step (s d : Nat) : (List.range 64).map (fun j => if j < d + 1 then (if s.testBit j then (1 : Int) else 0) else 0) =
    ((List.range 64).map (fun j => if j < d then (if s.testBit j then (1 : Int) else 0) else 0)).set d (if s.testBit d then 1 else 0) := by
  apply List.ext_getElem?
  intro j
  rw [List.getElem?_set]
  by_cases hj : j < 64
  · by_cases e : d = j
    · subst e
      simp [hj]
    · rw [if_neg e]
      simp only [List.getElem?_map, List.getElem?_range hj, Option.map_some]
      congr 1
      by_cases h : j < d
      · rw [if_pos h, if_pos (by omega)]
      · rw [if_neg h, if_neg (by omega)]
  · by_cases e : d = j
    · subst e; simp [hj]
    · rw [if_neg e]; simp [hj]
theorem bit_mod (s d : Nat) : (((s / 2 ^ d : Nat) : Int) % 2) = if s.testBit d then 1 else 0 := by
  rw [Nat.testBit_eq_decide_div_mod_eq]
  generalize s / 2 ^ d = q
  by_cases h : q % 2 = 1
  · simp [h]; omega
  · simp [h]; omega
theorem half_step (s d : Nat) : (((s / 2 ^ d : Nat) : Int) / 2) = ((s / 2 ^ (d + 1) : Nat) : Int) := by
  rw [Nat.pow_succ, ← Nat.div_div_eq_div_mul]
  omega
end Go.Proofs.YtliomhkgkabbbaaGreatDoor
end
