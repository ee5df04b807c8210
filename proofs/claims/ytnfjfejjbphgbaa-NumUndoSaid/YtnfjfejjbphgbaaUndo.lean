/- The walk of NumUndo: it returns true for any two numbers, and writes nothing that was there. -/
import Derived.Test.YtnfjfejjbphgbaaNumC
namespace Go.Proofs.Ytnfjfejjbphgbaa
open Go.RowKit
set_option linter.unusedVariables false

theorem less_undo (a b : Int) (wa : (Lit.int .i64 a).wf = true) (wb : (Lit.int .i64 b).wf = true) (h : fitB (a + b) = true) (w : World) :
    Calls Try.prog 14 #[.int .i64 (fitV (a + b)), .int .i64 b] w fun e w' => e = .returned (.tuple #[.int .i64 a, .bool true]) ∧ w = w' := by
  rw [fitV_true h]
  have hw := fitB_iff.1 h
  have c := less_any (a + b) b (wf_iff.2 hw) wb w
  have e1 : a + b - b = a := by omega
  rw [e1, fitV_true (fitB_true (wf_iff.1 wa)), fitB_true (wf_iff.1 wa)] at c
  exact c
theorem gap (a b : Int) (h : dvB a b = true) : cei a b = flo a b + (if a.tmod b = 0 then 0 else 1) := by
  obtain ⟨h0, _⟩ := dvB_true h
  have ht := tparts a b h0
  have e1 : b * (a.tdiv b - 1) = b * a.tdiv b - b := by rw [Int.mul_sub, Int.mul_one]
  have e2 : b * (a.tdiv b + 1) = b * a.tdiv b + b := by rw [Int.mul_add, Int.mul_one]
  by_cases hm : a.tmod b = 0
  · have f : a.tdiv b = flo a b := flo_of h0 (by omega) (by omega)
    have c : a.tdiv b = cei a b := cei_of h0 (by omega) (by omega)
    rw [if_pos hm]; omega
  · rw [if_neg hm]
    by_cases hs : 0 < a.tmod b ↔ 0 < b
    · have f : a.tdiv b = flo a b := flo_of h0 (by omega) (by omega)
      have c : a.tdiv b + 1 = cei a b := cei_of h0 (by omega) (by omega)
      omega
    · have f : a.tdiv b - 1 = flo a b := flo_of h0 (by omega) (by omega)
      have c : a.tdiv b = cei a b := cei_of h0 (by omega) (by omega)
      omega

/-- Behind Floor and Ceil where the quotient fits. -/
theorem undo_two (a b : Int) (wa : (Lit.int .i64 a).wf = true) (h : dvB a b = true) : ∃ f : Int, ∃ m : Bool, (a.tmod b == 0) = m ∧
    (∀ w, Calls Try.prog 20 #[.int .i64 a, .int .i64 b] w fun e w' => e = .returned (.tuple #[.int .i64 f, .bool true]) ∧ w = w') ∧
    (∀ w, Calls Try.prog 21 #[.int .i64 a, .int .i64 b] w fun e w' => e = .returned (.tuple #[.int .i64 (f + (if m then 0 else 1)), .bool true]) ∧ w = w') := by
  refine ⟨flo a b, a.tmod b == 0, rfl, floor_yes a b wa h, fun w => ?_⟩
  have c := ceil_yes a b wa h w
  rw [gap a b h] at c
  simpa using c

set_option maxHeartbeats 1000000 in
theorem undo_any (a b : Int) (wa : (Lit.int .i64 a).wf = true) (wb : (Lit.int .i64 b).wf = true) (w : World) :
    Calls Try.prog 7 #[.int .i64 a, .int .i64 b] w fun e w' => e = .returned (.bool true) ∧ Below w.heap.size w w' := by
  have A := add_any a b wa wb
  cases hd : dvB a b
  · have F := floor_no a b hd
    have C := ceil_no a b hd
    cases hf : fitB (a + b)
    · go_enter Try.func7, Try.ntmps7
      go_wp2_with (first | (go_at_call 11; refine (A _).mono ?_; rintro e w' ⟨rfl, rfl⟩) | (go_at_call 20; refine (F _).mono ?_; rintro e w' ⟨rfl, rfl⟩) | (go_at_call 21; refine (C _).mono ?_; rintro e w' ⟨rfl, rfl⟩) | (go_at_call 18; refine (lives_any _).mono ?_; rintro e w' ⟨rfl, hw⟩))
      go_ret
      exact ⟨rfl, hw⟩
    · have U := less_undo a b wa wb hf
      go_enter Try.func7, Try.ntmps7
      go_wp2_with (first | (go_at_call 11; refine (A _).mono ?_; rintro e w' ⟨rfl, rfl⟩) | (go_at_call 14; refine (U _).mono ?_; rintro e w' ⟨rfl, rfl⟩) | (go_at_call 20; refine (F _).mono ?_; rintro e w' ⟨rfl, rfl⟩) | (go_at_call 21; refine (C _).mono ?_; rintro e w' ⟨rfl, rfl⟩) | (go_at_call 18; refine (lives_any _).mono ?_; rintro e w' ⟨rfl, hw⟩))
      go_ret
      exact ⟨rfl, hw⟩
  · obtain ⟨f, m, hm, F, C⟩ := undo_two a b wa hd
    have h0 : ¬ b = 0 := (dvB_true hd).1
    have hq : (f + 1 == f) = false := beq_eq_false_iff_ne.2 (by omega)
    clear hd
    cases m
    all_goals
      simp only [if_true, Bool.false_eq_true, if_false, Int.add_zero] at C
      cases hf : fitB (a + b)
    all_goals
      go_enter Try.func7, Try.ntmps7
      go_wp2_with (first | (go_at_call 11; refine (A _).mono ?_; rintro e w' ⟨rfl, rfl⟩) | (go_at_call 14; refine (less_undo a b wa wb hf _).mono ?_; rintro e w' ⟨rfl, rfl⟩) | (go_at_call 20; refine (F _).mono ?_; rintro e w' ⟨rfl, rfl⟩) | (go_at_call 21; refine (C _).mono ?_; rintro e w' ⟨rfl, rfl⟩) | (go_at_call 18; refine (lives_any _).mono ?_; rintro e w' ⟨rfl, hw⟩))
      go_ret
      exact ⟨rfl, hw⟩
end Go.Proofs.Ytnfjfejjbphgbaa
