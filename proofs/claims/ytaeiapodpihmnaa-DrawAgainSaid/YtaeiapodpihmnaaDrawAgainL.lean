/- DrawAgain's walk. -/
import Derived.Test.YtaeiapodpihmnaaDrawTwo
namespace Go.Proofs.Ytaeiapodpihmnaa
open Go.RowKit
set_option linter.unusedVariables false
def AgainRel (w : World) (a b : Nat) (m : Nat) (i : Value) (wr : World) : Prop := ∃ (k : Nat) (s : Int), i = .int .i64 k ∧ k ≤ m ∧ Pair w a b s wr
set_option maxHeartbeats 4000000 in
theorem again_any (x n : Int) (wx : (Lit.int .i64 x).wf = true) (wn : (Lit.int .i64 n).wf = true) (w : World) :
    Calls Try.prog 5 #[.int .i64 x, .int .i64 n] w fun e w' => e = .returned (.bool true) ∧ Below w.heap.size w w' := by
  rw [wf_iff] at wn
  have HN := Lib.hid (new_any x w)
  clear wx
  by_cases hn : n < 0
  case' pos =>
    have e1 : wrap64 (n + 1) = n + 1 := IntWalk.wrap64_in _ (by omega)
    go_enter Try.func5, Try.ntmps5
    go_wp2_with (first
      | (go_at_call 8; (with_reducible refine HN.out.mono ?_); rintro e w1 ⟨a, rfl, h1, h2, h3⟩)
      | (go_at_call 8; (with_reducible refine (pair_new h1 h2 h3).mono ?_); rintro e w2 ⟨b, rfl, h4⟩; have HP := Lib.hid h4; clear h1 h2 h3 h4))
    obtain ⟨q, hq⟩ : ∃ q, q = -(n + 1) := ⟨_, rfl⟩
    rw [← hq]
    have hq0 : 0 ≤ q := by omega
    clear e1 hq
  case' neg =>
    go_enter Try.func5, Try.ntmps5
    go_wp2_with (first
      | (go_at_call 8; (with_reducible refine HN.out.mono ?_); rintro e w1 ⟨a, rfl, h1, h2, h3⟩)
      | (go_at_call 8; (with_reducible refine (pair_new h1 h2 h3).mono ?_); rintro e w2 ⟨b, rfl, h4⟩; have HP := Lib.hid h4; clear h1 h2 h3 h4))
    obtain ⟨q, hq⟩ : ∃ q, q = n := ⟨_, rfl⟩
    rw [← hq]
    have hq0 : 0 ≤ q := by omega
    clear hq
  all_goals
    obtain ⟨m, hm⟩ : ∃ m : Nat, q % 31 = (m : Int) := ⟨(q % 31).toNat, by omega⟩
    have hm31 : m < 31 := by omega
    have H0 : AgainRel w a b m (.int .i64 0) w2 := ⟨0, _, rfl, Nat.zero_le _, HP.out⟩
    clear HP
    go_loopw [7] (fun i wr => AgainRel w a b m i wr) (fun i _ => m - (intOf i).toNat)
    case atStart => exact H0
    case round =>
      clear H0
      obtain ⟨k, s, rfl, hk, hP⟩ := hrel
      by_cases hlt : k < m
      · have l1 : (k : Int) < (m : Int) := by omega
        go_wp2_with (first
          | (go_at_call 13; (with_reducible refine hP.word.mono ?_); rintro e w3 ⟨rfl, h5⟩)
          | (go_at_call 13; (with_reducible refine h5.word.mono ?_); rintro e w4 ⟨rfl, h6⟩))
        go_roundw
        case rel => exact ⟨k + 1, _, by go_num, by omega, h6⟩
        case measure => simp [intOf]; omega
      · obtain rfl : m = k := by omega
        have l1 : decide ((m : Int) < (m : Int)) = false := by simp
        go_wp2_with (first
          | (go_at_call 14; (with_reducible refine hP.fork.mono ?_); rintro e w3 ⟨f, rfl, h5⟩)
          | (go_at_call 14; (with_reducible refine h5.fork.mono ?_); rintro e w4 ⟨g, rfl, h6⟩)
          | (go_at_call 13; (with_reducible refine h6.word1.mono ?_); rintro e w5 ⟨rfl, h7⟩)
          | (go_at_call 13; (with_reducible refine h7.word2.mono ?_); rintro e w6 ⟨rfl, h8⟩; have h8p := h8.1)
          | (go_at_call 13; (with_reducible refine h8p.word.mono ?_); rintro e w7 ⟨rfl, h9⟩)
          | (go_at_call 13; (with_reducible refine h9.word.mono ?_); rintro e w8 ⟨rfl, h10⟩; have HB := Lib.hid h10.2.2.2.2.2)
          | (go_at_call 11; (with_reducible refine (lives_any _).mono ?_); rintro e w9 ⟨rfl, hl⟩))
        go_ret
        exact ⟨rfl, HB.out.trans (hl.mono HB.out.size)⟩
end Go.Proofs.Ytaeiapodpihmnaa
