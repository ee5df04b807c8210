/- The walk of NumSigns: it returns true for any two numbers, and writes nothing that was there. -/
import Derived.Test.YtnfjfejjbphgbaaNumC
namespace Go.Proofs.Ytnfjfejjbphgbaa
open Go.RowKit
set_option linter.unusedVariables false

set_option maxHeartbeats 1000000 in
theorem signs_edge (a b : Int) (h : a = -9223372036854775808 ∨ b = -9223372036854775808) (w : World) :
    Calls Try.prog 8 #[.int .i64 a, .int .i64 b] w fun e w' => e = .returned (.bool true) ∧ Below w.heap.size w w' := by
  by_cases ha : a = -9223372036854775808
  · have ht : (a == -9223372036854775808) = true := beq_iff_eq.2 ha
    clear h ha
    go_enter Try.func8, Try.ntmps8
    go_wp2_with (go_at_call 18; refine (lives_any _).mono ?_; rintro e w' ⟨rfl, hw⟩)
    go_ret
    exact ⟨rfl, hw⟩
  · have ht : (a == -9223372036854775808) = false := beq_eq_false_iff_ne.2 ha
    have hu : (b == -9223372036854775808) = true := beq_iff_eq.2 (h.resolve_left ha)
    clear h ha
    go_enter Try.func8, Try.ntmps8
    go_wp2_with (go_at_call 18; refine (lives_any _).mono ?_; rintro e w' ⟨rfl, hw⟩)
    go_ret
    exact ⟨rfl, hw⟩

theorem signs_two (a b : Int) (wa : (Lit.int .i64 a).wf = true) (wb : (Lit.int .i64 b).wf = true) (ha : -9223372036854775807 ≤ a) :
    ∃ (p q : Int) (t u : Bool), (t = true → u = true → q = -p ∧ -9223372036854775807 ≤ p ∧ p ≤ 9223372036854775807) ∧
      (∀ w, Calls Try.prog 16 #[.int .i64 a, .int .i64 b] w fun e w' => e = .returned (.tuple #[.int .i64 p, .bool t]) ∧ w = w') ∧
      (∀ w, Calls Try.prog 16 #[.int .i64 (-a), .int .i64 b] w fun e w' => e = .returned (.tuple #[.int .i64 q, .bool u]) ∧ w = w') := by
  have wa' := wf_iff.1 wa
  refine ⟨_, _, _, _, ?_, times_any a b wa wb, times_any (-a) b (wf_iff.2 (by omega)) wb⟩
  intro h1 h2
  rw [fitV_true h1, fitV_true h2]
  rw [fitB_iff] at h1 h2
  rw [Int.neg_mul] at h2 ⊢
  omega

set_option maxHeartbeats 2000000 in
theorem signs_mid (a b : Int) (wa : (Lit.int .i64 a).wf = true) (wb : (Lit.int .i64 b).wf = true) (ha : ¬ a = -9223372036854775808) (hb : ¬ b = -9223372036854775808) (w : World) :
    Calls Try.prog 8 #[.int .i64 a, .int .i64 b] w fun e w' => e = .returned (.bool true) ∧ Below w.heap.size w w' := by
  have wa' := wf_iff.1 wa
  have wb' := wf_iff.1 wb
  have L := less_any a b wa wb
  have A := add_any a (-b) wa (wf_iff.2 (by omega))
  rw [show a + -b = a - b by omega] at A
  obtain ⟨p, q, t, u, hpq, P, Q⟩ := signs_two a b wa wb (by omega)
  generalize fitV (a - b) = d at *
  generalize fitB (a - b) = f at *
  have ha2 : -9223372036854775807 ≤ a ∧ a ≤ 9223372036854775807 := by omega
  have hb2 : -9223372036854775807 ≤ b ∧ b ≤ 9223372036854775807 := by omega
  have hx : (a == -9223372036854775808) = false := beq_eq_false_iff_ne.2 ha
  have hy : (b == -9223372036854775808) = false := beq_eq_false_iff_ne.2 hb
  obtain ⟨a1, a2⟩ := ha2
  obtain ⟨b1, b2⟩ := hb2
  clear wa' wb' ha hb wa wb
  cases t <;> cases u
  case true.true =>
    obtain ⟨rfl, p1, p2⟩ := hpq rfl rfl
    clear hpq
    go_enter Try.func8, Try.ntmps8
    go_wp2_with (first | (go_at_call 11; refine (A _).mono ?_; rintro e w' ⟨rfl, rfl⟩) | (go_at_call 14; refine (L _).mono ?_; rintro e w' ⟨rfl, rfl⟩) | (go_at_call 16; refine (P _).mono ?_; rintro e w' ⟨rfl, rfl⟩; clear P) | (go_at_call 16; refine (Q _).mono ?_; rintro e w' ⟨rfl, rfl⟩) | (go_at_call 18; refine (lives_any _).mono ?_; rintro e w' ⟨rfl, hw⟩))
    go_ret
    exact ⟨rfl, hw⟩
  all_goals
    clear hpq
    go_enter Try.func8, Try.ntmps8
    go_wp2_with (first | (go_at_call 11; refine (A _).mono ?_; rintro e w' ⟨rfl, rfl⟩) | (go_at_call 14; refine (L _).mono ?_; rintro e w' ⟨rfl, rfl⟩) | (go_at_call 16; refine (P _).mono ?_; rintro e w' ⟨rfl, rfl⟩; clear P) | (go_at_call 16; refine (Q _).mono ?_; rintro e w' ⟨rfl, rfl⟩) | (go_at_call 18; refine (lives_any _).mono ?_; rintro e w' ⟨rfl, hw⟩))
    go_ret
    exact ⟨rfl, hw⟩

theorem signs_any (a b : Int) (wa : (Lit.int .i64 a).wf = true) (wb : (Lit.int .i64 b).wf = true) (w : World) :
    Calls Try.prog 8 #[.int .i64 a, .int .i64 b] w fun e w' => e = .returned (.bool true) ∧ Below w.heap.size w w' := by
  by_cases h : a = -9223372036854775808 ∨ b = -9223372036854775808
  · exact signs_edge a b h w
  · exact signs_mid a b wa wb (fun e => h (.inl e)) (fun e => h (.inr e)) w
end Go.Proofs.Ytnfjfejjbphgbaa
