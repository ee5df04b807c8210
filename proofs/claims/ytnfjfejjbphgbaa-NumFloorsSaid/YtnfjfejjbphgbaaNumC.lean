/- What Sum of package num, and the document's examples (lives), answer. -/
import Derived.Test.YtnfjfejjbphgbaaNumB
namespace Go.Proofs.Ytnfjfejjbphgbaa
open Go.RowKit
set_option linter.unusedVariables false

theorem sum_next {xs : List Int} {k : Nat} {H L : Int} (h : SumAt xs k H L) (hk : k < xs.length) (hx : -9223372036854775808 ≤ xs.getD k 0 ∧ xs.getD k 0 ≤ 9223372036854775807) :
    ∃ s c : Int, (∀ w, (callFunc 32 #[.int .u64 L, .int .u64 (IntKind.u64.wrap (xs.getD k 0)), .int .u64 0]).run Try.prog w = .ok (.value (.tuple #[.int .u64 s, .int .u64 c])) w) ∧
      0 ≤ c ∧ c ≤ 1 ∧ SumAt xs (k + 1) (H + (sgn (xs.getD k 0) + c)) s := by
  have hs := sum_step h hk hx
  refine ⟨_, _, fun w => add64_any L _ h.2.1 (by rw [IntKind.wrap_u64]; omega) w, ?_, ?_, hs⟩
  · have := h.2.1; rw [IntKind.wrap_u64]; omega
  · have := h.2.2.1; rw [IntKind.wrap_u64]; omega

theorem sgn_bd (a : Int) : -1 ≤ sgn a ∧ sgn a ≤ 0 := by unfold sgn; split <;> omega

set_option maxHeartbeats 400000 in
theorem sum_any (A : Option Addr) (n c : Nat) (xs : List Int) (w : World) (hx : Ints w A n xs) (hwf : ∀ k, k < n → -9223372036854775808 ≤ xs.getD k 0 ∧ xs.getD k 0 ≤ 9223372036854775807) (hn : n ≤ 4611686018427387904) :
    Calls Try.prog 19 #[.slice A n c] w fun e w' => e = .returned (.tuple #[.int .i64 (fitV xs.sum), .bool (fitB xs.sum)]) ∧ w = w' := by
  obtain ⟨hlen, hcells⟩ := hx
  have HL := Go.Lib.hid hlen
  have HC := Go.Lib.hid hcells
  have HW := Go.Lib.hid hwf
  clear hlen hcells hwf
  go_enter Try.func19, Try.ntmps19
  go_wp2
  go_loop [4, 5, 12] (fun hi lo i => ∃ (k : Nat) (H L : Int), k ≤ n ∧ i = .int .i64 k ∧ hi = .int .i64 H ∧ lo = .int .u64 L ∧ SumAt xs k H L) (fun _ _ i => n - (intOf i).toNat)
  case atStart => exact ⟨0, 0, 0, Nat.zero_le _, rfl, rfl, rfl, by simp [SumAt]⟩
  case round =>
    obtain ⟨k, H, L, hk, rfl, rfl, rfl, hs⟩ := hrel
    have hb1 := hs.2.2.2.1
    have hb2 := hs.2.2.2.2
    have hL0 := hs.2.1
    by_cases hlt : k < n
    · obtain ⟨b, off, rfl, hcs⟩ := HC.out (by omega)
      have hcell := hcs k hlt; clear hcs
      obtain ⟨s, cc, hrun, hc0, hc1, hs'⟩ := sum_next hs (by rw [HL.out]; exact hlt) (HW.out k hlt)
      obtain ⟨x, hx⟩ : ∃ x, xs.getD k 0 = x := ⟨_, rfl⟩
      rw [hx] at hcell hrun hs'
      have hg := sgn_bd x
      clear hs hx HW
      go_wp2_with (go_at_call 33; refine (sign_any _ _).mono ?_; rintro e w' ⟨rfl, rfl⟩)
      go_round
      case rel => exact ⟨k + 1, _, s, by omega, by go_num, rfl, rfl, hs'⟩
      case measure => simp [intOf]; omega
    · obtain ⟨e1, e2, e3⟩ := sum_end hs (by rw [HL.out]; omega)
      clear hs
      by_cases he : H = sgn (wrap64 L)
      · obtain ⟨f1, f2⟩ := sum_yes e1 e2 e3 he
        have F := Go.Lib.hid (And.intro f1 f2)
        clear e1 e3 f1 f2
        subst he
        go_wp2_with (go_at_call 33; refine (sign_any _ _).mono ?_; rintro e w' ⟨rfl, rfl⟩)
        go_ret2
        exact ⟨ret_yes F.out.1 F.out.2, rfl⟩
      · have f1 := Go.Lib.hid (sum_no e1 e2 e3 he)
        have he' : (H == sgn (wrap64 L)) = false := by simpa using he
        clear e1 e3
        go_wp2_with (go_at_call 33; refine (sign_any _ _).mono ?_; rintro e w' ⟨rfl, rfl⟩)
        go_ret2
        exact ⟨ret_no f1.out, rfl⟩

/-! ### The document's examples -/
theorem live_add (w : World) : Calls Try.prog 11 #[.int .i64 9223372036854775807, .int .i64 1] w fun e w' => e = .returned (.tuple #[.int .i64 0, .bool false]) ∧ w = w' :=
  add_any _ _ (by decide) (by decide) w
theorem live_floor (w : World) : Calls Try.prog 20 #[.int .i64 (-7), .int .i64 2] w fun e w' => e = .returned (.tuple #[.int .i64 (-4), .bool true]) ∧ w = w' :=
  floor_yes _ _ (by decide) (by decide) w
theorem live_sum (W : World) (b c : Nat) (h : Ints W (some ⟨b, 0, none⟩) 3 [9223372036854775807, 1, -1]) :
    Calls Try.prog 19 #[.slice (some ⟨b, 0, none⟩) 3 c] W fun e w' => e = .returned (.tuple #[.int .i64 9223372036854775807, .bool true]) ∧ W = w' :=
  sum_any _ 3 c _ W h (by intro k hk; match k, hk with | 0, _ => decide | 1, _ => decide | 2, _ => decide) (by decide)

theorem below_alloc (w : World) (o : Obj) : Below w.heap.size w (w.alloc o) := (Below.refl _ _).alloc (Nat.le_refl _) o
theorem live_ints (w : World) : Ints (w.alloc (.cells #[.int .i64 9223372036854775807, .int .i64 1, .int .i64 (-1)] 3)) (some ⟨w.heap.size, 0, none⟩) 3 [9223372036854775807, 1, -1] := by
  refine ⟨rfl, fun _ => ⟨_, _, rfl, fun k hk => ?_⟩⟩
  match k, hk with
  | 0, _ => simp [go_sem]
  | 1, _ => simp [go_sem]
  | 2, _ => simp [go_sem]

set_option maxHeartbeats 400000 in
theorem lives_any (w : World) : Calls Try.prog 18 #[] w fun e w' => e = .returned (.bool true) ∧ Below w.heap.size w w' := by
  go_enter Try.func18, Try.ntmps18
  go_wp2_with (first | (go_at_call 11; refine (live_add _).mono ?_; rintro e w' ⟨rfl, rfl⟩) | (go_at_call 20; refine (live_floor _).mono ?_; rintro e w' ⟨rfl, rfl⟩) | (go_at_call 19; refine (live_sum _ _ _ (live_ints _)).mono ?_; rintro e w' ⟨rfl, rfl⟩))
  go_ret
  exact ⟨rfl, below_alloc _ _⟩
end Go.Proofs.Ytnfjfejjbphgbaa
