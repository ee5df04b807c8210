/- Which customers may be, off the document's code. -/
import Derived.Test.YtmfahjghfpckeaaDoorInstMay
import Derived.Test.YtmfahjghfpckeaaDoorDaysRefC
namespace Go.Proofs.YtmfahjghfpckeaaDoor
open Go.RowKit
set_option linter.unusedVariables false
/-- What is asked of a customer's tank. -/
def TankP (c : Cust) (n : Nat) : Prop := c.kind = 2 ∧ 0 ≤ c.rate ∧ c.rate ≤ 2147483648 ∧ 1 ≤ c.size ∧ c.size ≤ 2147483648 ∧ 0 ≤ c.start ∧ c.start ≤ c.size ∧ (c.rule = 1 ∨ c.rule = 2) ∧ 0 ≤ c.hold ∧ c.hold ≤ 1024 ∧ c.demand = 0 ∧ n = 0
instance (c : Cust) (n : Nat) : Decidable (TankP c n) := by unfold TankP; infer_instance
/-- What is asked of a customer with patterns, but for their days. -/
def PatP (c : Cust) (n : Nat) : Prop := 1 ≤ c.demand ∧ c.demand ≤ 2147483648 ∧ 1 ≤ n ∧ n ≤ 64 ∧ c.rate = 0 ∧ c.size = 0 ∧ c.start = 0 ∧ c.rule = 0 ∧ c.hold = 0
theorem mayC_two {c : Cust} {d : Int} (hk : c.kind ≠ 1) : mayC c d = decide (TankP c c.pats.length) := by
  have h1 : patB c d = false := by
    unfold patB patPs
    simp [beq_eq_false_iff_ne.2 hk]
  unfold mayC
  rw [h1, Bool.false_or, Bool.eq_iff_iff, decide_eq_true_iff]
  unfold tanB tanPs sizeB withinB TankP
  generalize c.pats.length = n
  simp
  omega
theorem mayC_one {c : Cust} {d : Int} (hk : c.kind = 1) : mayC c d = true ↔ PatP c c.pats.length ∧ timelyB c.pats d = true := by
  have h2 : tanB c d = false := by
    unfold tanB tanPs
    simp [hk]
  unfold mayC
  rw [h2, Bool.or_false]
  unfold patB patPs withinB PatP
  by_cases ht : timelyB c.pats d = true
  · generalize c.pats.length = n
    simp [hk, ht]
    omega
  · simp [hk, ht]
set_option maxRecDepth 100000 in
set_option maxHeartbeats 4000000 in
theorem customer_two (c : Cust) (A : Option Addr) (k : Nat) (d : Int) (w : World) (hc : c.Wf) (hk : c.kind ≠ 1) :
    Calls Tryd.prog 26 #[custV c A k, .int .i64 d] w fun e w' => e = .returned (.bool (mayC c d)) ∧ Below w.heap.size w w' := by
  have hb := below_alloc w (.cells #[.int .i64 c.kind, .int .i64 c.demand, .slice A c.pats.length k, .int .i64 c.rate, .int .i64 c.size, .int .i64 c.start, .int .i64 c.rule, .int .i64 c.hold] 45)
  rw [mayC_two hk]
  have hk1 : (c.kind == 1) = false := beq_eq_false_iff_ne.2 hk
  have hl := hc.len
  unfold maxLen at hl
  unfold custV
  clear hc hk hb
  generalize c.pats.length = n at *
  obtain ⟨q, hq⟩ : ∃ q, q = decide (TankP c n) := ⟨_, rfl⟩
  have HQ := Go.Lib.hid hq
  rw [← hq]
  clear hq
  have hd : (c.demand = 0 ∧ (c.demand != 0) = false) ∨ (c.demand ≠ 0 ∧ (c.demand != 0) = true) := by
    by_cases h : c.demand = 0
    · exact .inl ⟨h, by rw [h]; rfl⟩
    · exact .inr ⟨h, bne_iff_ne.2 h⟩
  rcases hd with ⟨hd1, hd2⟩ | ⟨hd1, hd2⟩
  all_goals
    go_enter Tryd.func26, Tryd.ntmps26
    go_wp2
  all_goals
    go_ret
    refine ⟨ret_bool ?_, below_alloc _ _⟩
    rw [HQ.out]
    first
      | exact (decide_eq_false (by unfold TankP; omega)).symm
      | exact (decide_eq_true (by unfold TankP; omega)).symm
      | (unfold TankP; exact decide_eq_decide.2 (by omega))
      | (rw [Bool.eq_iff_iff]; unfold TankP; simp; omega)
end Go.Proofs.YtmfahjghfpckeaaDoor
