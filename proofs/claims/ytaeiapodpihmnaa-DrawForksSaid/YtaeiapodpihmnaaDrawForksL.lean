/- DrawForks' walk. -/
import Derived.Test.YtaeiapodpihmnaaDrawTwo
namespace Go.Proofs.Ytaeiapodpihmnaa
open Go.RowKit
set_option linter.unusedVariables false
/-- A stream, and two of one state, apart from it. -/
def Beside (w : World) (a f g : Nat) (t : Int) (wr : World) : Prop := ∃ s, StIs wr a s ∧ Pair w f g t wr ∧ f ≠ a ∧ g ≠ a ∧ w.heap.size ≤ a
theorem Fork2.beside {w w1 : World} {a b f g : Nat} {s t : Int} (h : Fork2 w a b f g s t w1) : Beside w a f g t w1 := ⟨s, h.1.1, h.2.1, h.2.2.1, h.2.2.2.2.1, h.1.2.2.2.1⟩
theorem Beside.word {w w1 : World} {a f g : Nat} {t : Int} (h : Beside w a f g t w1) :
    Calls Try.prog 13 #[.pointer (some ⟨a, 0, none⟩)] w1 fun e w' => ∃ v, e = .returned (.int .u64 v) ∧ Beside w a f g t w' := by
  obtain ⟨s, h1, h2, h3, h4, h5⟩ := h
  refine (word_any h1).mono ?_
  rintro e w' ⟨rfl, g1, g2⟩
  exact ⟨_, rfl, _, g1, h2.only g2 (by simpa using h3) (by simpa using h4) (by simpa using h5), h3, h4, h5⟩
def ForksRel (w : World) (a f g : Nat) (t : Int) (m : Nat) (i : Value) (wr : World) : Prop := ∃ k : Nat, i = .int .i64 k ∧ k ≤ m ∧ Beside w a f g t wr
def EvenRel (w : World) (f g : Nat) (i : Value) (wr : World) : Prop := ∃ (k : Nat) (s : Int), i = .int .i64 k ∧ k ≤ 5 ∧ Pair w f g s wr
set_option maxHeartbeats 4000000 in
theorem forks_any (x n : Int) (wx : (Lit.int .i64 x).wf = true) (wn : (Lit.int .i64 n).wf = true) (w : World) :
    Calls Try.prog 6 #[.int .i64 x, .int .i64 n] w fun e w' => e = .returned (.bool true) ∧ Below w.heap.size w w' := by
  rw [wf_iff] at wn
  have HN := Lib.hid (new_any x w)
  clear wx
  by_cases hn : n < 0
  case' pos =>
    have e1 : wrap64 (n + 1) = n + 1 := IntWalk.wrap64_in _ (by omega)
    go_enter Try.func6, Try.ntmps6
    go_wp2_with (first
      | (go_at_call 8; (with_reducible refine HN.out.mono ?_); rintro e w1 ⟨a, rfl, h1, h2, h3⟩)
      | (go_at_call 8; (with_reducible refine (pair_new h1 h2 h3).mono ?_); rintro e w2 ⟨b, rfl, h4⟩; clear h1 h2 h3)
      | (go_at_call 14; (with_reducible refine h4.fork.mono ?_); rintro e w3 ⟨f, rfl, h5⟩)
      | (go_at_call 14; (with_reducible refine h5.fork.mono ?_); rintro e w4 ⟨g, rfl, h6⟩; have HP := Lib.hid h6; clear h4 h5 h6))
    obtain ⟨q, hq⟩ : ∃ q, q = -(n + 1) := ⟨_, rfl⟩
    rw [← hq]
    have hq0 : 0 ≤ q := by omega
    clear e1 hq
  case' neg =>
    go_enter Try.func6, Try.ntmps6
    go_wp2_with (first
      | (go_at_call 8; (with_reducible refine HN.out.mono ?_); rintro e w1 ⟨a, rfl, h1, h2, h3⟩)
      | (go_at_call 8; (with_reducible refine (pair_new h1 h2 h3).mono ?_); rintro e w2 ⟨b, rfl, h4⟩; clear h1 h2 h3)
      | (go_at_call 14; (with_reducible refine h4.fork.mono ?_); rintro e w3 ⟨f, rfl, h5⟩)
      | (go_at_call 14; (with_reducible refine h5.fork.mono ?_); rintro e w4 ⟨g, rfl, h6⟩; have HP := Lib.hid h6; clear h4 h5 h6))
    obtain ⟨q, hq⟩ : ∃ q, q = n := ⟨_, rfl⟩
    rw [← hq]
    have hq0 : 0 ≤ q := by omega
    clear hq
  all_goals
    obtain ⟨m, hm⟩ : ∃ m : Nat, q % 21 = (m : Int) := ⟨(q % 21).toNat, by omega⟩
    have hm31 : m < 21 := by omega
    have H0 : ForksRel w a f g (drawS (seedS x)) m (.int .i64 0) w4 := ⟨0, rfl, Nat.zero_le _, HP.out.beside⟩
    clear HP
    go_loopw [9] (fun i wr => ForksRel w a f g (drawS (seedS x)) m i wr) (fun i _ => m - (intOf i).toNat)
    case atStart => exact H0
    case round =>
      clear H0
      obtain ⟨k, rfl, hk, hP⟩ := hrel
      by_cases hlt : k < m
      · have l1 : (k : Int) < (m : Int) := by omega
        go_wp2_with (go_at_call 13; (with_reducible refine hP.word.mono ?_); rintro e w5 ⟨v, rfl, h5⟩)
        go_roundw
        case rel => exact ⟨k + 1, by go_num, by omega, h5⟩
        case measure => simp [intOf]; omega
      · obtain rfl : m = k := by omega
        have l1 : decide ((m : Int) < (m : Int)) = false := by simp
        obtain ⟨s0, _, hQ, _⟩ := hP
        have H1 : EvenRel w f g (.int .i64 0) wr := ⟨0, _, rfl, by omega, hQ⟩
        clear hQ
        go_wp2
        rw [hm]
        clear hm
        go_loopw [10] (fun i wr => EvenRel w f g i wr) (fun i _ => 5 - (intOf i).toNat)
        case atStart => exact H1
        case round =>
          clear H1
          obtain ⟨j, s, rfl, hj, hP⟩ := hrel
          by_cases hlt : j < 5
          · have l2 : (j : Int) < 5 := by omega
            go_wp2_with (first
              | (go_at_call 13; (with_reducible refine hP.word.mono ?_); rintro e w5 ⟨rfl, h5⟩)
              | (go_at_call 13; (with_reducible refine h5.word.mono ?_); rintro e w6 ⟨rfl, h6⟩))
            go_roundw
            case rel => exact ⟨j + 1, _, by go_num, by omega, h6⟩
            case measure => simp [intOf]; omega
          · have l2 : (5 : Int) ≤ (j : Int) := by omega
            have HB := Lib.hid hP.2.2.2.2.2
            go_wp2_with (go_at_call 11; (with_reducible refine (lives_any _).mono ?_); rintro e w9 ⟨rfl, hl⟩)
            go_ret
            exact ⟨rfl, HB.out.trans (hl.mono HB.out.size)⟩
end Go.Proofs.Ytaeiapodpihmnaa
