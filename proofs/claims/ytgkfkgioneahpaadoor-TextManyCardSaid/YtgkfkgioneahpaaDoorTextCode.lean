/- What the functions of package text answer, off their code: word, words, Lines. -/
import Derived.Test.YtgkfkgioneahpaaDoorTextIter
import Derived.Test.YtgkfkgioneahpaaDoorEachW
import Derived.Test.YtgkfkgioneahpaaDoorEachL
namespace Go.Proofs.YtgkfkgioneahpaaDoor
open Go.RowKit
set_option linter.unusedVariables false

theorem good_lo {c : UInt8} (h : goodC c = true) : decide ((c.toNat : Int) < 33) = false ∧ decide (126 < (c.toNat : Int)) = false := by
  unfold goodC at h
  simp only [Bool.and_eq_true, decide_eq_true_iff] at h
  exact ⟨decide_eq_false (by omega), decide_eq_false (by omega)⟩
theorem good_no {c : UInt8} (h : goodC c = false) : decide ((c.toNat : Int) < 33) = true ∨ (decide ((c.toNat : Int) < 33) = false ∧ decide (126 < (c.toNat : Int)) = true) := by
  unfold goodC at h
  by_cases h1 : (c.toNat : Int) < 33
  · exact .inl (decide_eq_true h1)
  · refine .inr ⟨decide_eq_false h1, decide_eq_true ?_⟩
    rw [decide_eq_true (by omega : 33 ≤ c.toNat), Bool.true_and, decide_eq_false_iff_not] at h
    omega

set_option maxHeartbeats 1000000 in
theorem word_yes (s : ByteArray) (w : World) (hs : s.size ≤ maxLen) (h : wordB s.data.toList = true) :
    Calls Tryd.prog 38 #[.string s] w fun e w' => e = .returned (.tuple #[.string s, .bool true]) ∧ w' = w := by
  unfold maxLen at hs
  obtain ⟨h0, hg⟩ := wordB_pos h
  have hsz : s.data.toList.length = s.size := Array.length_toList
  have hemp := empty_size s
  rw [decide_eq_false (fun e => h0 (List.length_eq_zero_iff.1 (by rw [hsz]; exact e)))] at hemp
  have HG : Hid (∀ k (hk : k < s.size), decide ((s[k].toNat : Int) < 33) = false ∧ decide (126 < (s[k].toNat : Int)) = false) := fun k hk => good_lo (hg k (by rw [hsz]; exact hk))
  clear h hg h0 hsz
  go_enter Tryd.func38, Tryd.ntmps38
  go_wp2
  go_loop [9] (fun iv => ∃ k : Nat, k ≤ s.size ∧ iv = .int .i64 k) (fun iv => s.size - (intOf iv).toNat)
  case atStart => exact ⟨0, Nat.zero_le _, rfl⟩
  case round =>
    obtain ⟨k, hk, rfl⟩ := hrel
    by_cases hlt : k < s.size
    · obtain ⟨g1, g2⟩ := HG.out k hlt
      go_wp2
      go_round
      case rel => exact ⟨k + 1, by omega, by go_num⟩
      case measure => simp [intOf]; omega
    · obtain rfl : k = s.size := by omega
      go_wp2
      go_ret2
      exact ⟨rfl, rfl⟩
set_option maxHeartbeats 2000000 in
theorem word_no (s : ByteArray) (w : World) (hs : s.size ≤ maxLen) (h : wordB s.data.toList = false) :
    Calls Tryd.prog 38 #[.string s] w fun e w' => e = .returned (.tuple #[.string ⟨#[]⟩, .bool false]) ∧ w' = w := by
  unfold maxLen at hs
  have hsz : s.data.toList.length = s.size := Array.length_toList
  have hemp := empty_size s
  by_cases h0 : s.data.toList = []
  · rw [decide_eq_true (show s.size = 0 by rw [← hsz, h0]; rfl)] at hemp
    clear h hsz h0
    go_enter Tryd.func38, Tryd.ntmps38
    go_wp2
    go_ret2
    exact ⟨rfl, rfl⟩
  · rw [decide_eq_false (fun e => h0 (List.length_eq_zero_iff.1 (by rw [hsz]; exact e)))] at hemp
    obtain ⟨j, hj, hb⟩ := wordB_neg h h0
    have HB := Go.Lib.hid (good_no hb)
    have HJ : Hid (j < s.size) := by show _ < _; rw [← hsz]; exact hj
    have HG : Hid (∀ k (hk : k < s.size), goodC s[k] = true → decide ((s[k].toNat : Int) < 33) = false ∧ decide (126 < (s[k].toNat : Int)) = false) := fun k hk hh => good_lo hh
    have HN : Hid (∀ k (hk : k < s.size), goodC s[k] = false → decide ((s[k].toNat : Int) < 33) = true ∨ (decide ((s[k].toNat : Int) < 33) = false ∧ decide (126 < (s[k].toNat : Int)) = true)) := fun k hk hh => good_no hh
    have HX : Hid (∀ k, k = j → ∀ (hk : k < s.size), goodC s[k] = false) := fun k e hk => by subst e; exact hb
    clear h h0 hsz hb HB hj
    go_enter Tryd.func38, Tryd.ntmps38
    go_wp2
    go_loop [9] (fun iv => ∃ k : Nat, k ≤ j ∧ iv = .int .i64 k) (fun iv => s.size - (intOf iv).toNat)
    case atStart => exact ⟨0, Nat.zero_le _, rfl⟩
    case round =>
      obtain ⟨k, hk, rfl⟩ := hrel
      have hlt : k < s.size := by have := HJ.out; omega
      cases hg : goodC s[k]
      · rcases HN.out k hlt hg with g1 | ⟨g1, g2⟩
        · clear hg
          go_wp2
          go_ret2
          exact ⟨rfl, rfl⟩
        · clear hg
          go_wp2
          go_ret2
          exact ⟨rfl, rfl⟩
      · have hkj : k < j := by
          rcases Nat.lt_or_ge k j with a | a
          · exact a
          · have := HX.out k (by omega) hlt
            rw [hg] at this
            cases this
        obtain ⟨g1, g2⟩ := HG.out k hlt hg
        clear hg
        go_wp2
        go_round
        case rel => exact ⟨k + 1, by omega, by go_num⟩
        case measure => simp [intOf]; omega
end Go.Proofs.YtgkfkgioneahpaaDoor
