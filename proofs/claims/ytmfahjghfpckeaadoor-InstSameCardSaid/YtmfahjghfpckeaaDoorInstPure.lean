/- Plain facts on the instances that the document makes: they may be what they must be, all arcs are there and small, none from a place to itself. -/
import Derived.Test.YtmfahjghfpckeaaDoorInstGoodC
namespace Go.Proofs.YtmfahjghfpckeaaDoor
open Go.RowKit
set_option linter.unusedVariables false
theorem z64 {n : Int} (h : 0 ≤ n) (h' : n ≤ 2) : W64 n := ⟨by omega, by omega⟩
theorem goodC_wf (c : Cust) (d : Int) : (goodC c d).Wf := by
  have w : ∀ n l m : Int, 0 ≤ l → l ≤ m → m ≤ 1000 → W64 (roundD n l m) := fun n l m h1 h2 h3 => by
    have := roundD_bd n h2
    exact ⟨by omega, by omega⟩
  unfold goodC
  split
  · have := roundD_bd c.size (l := 1) (m := 30) (by omega)
    exact ⟨z64 (n := 2) (by decide) (by decide), z64 (n := 0) (by decide) (by decide), w _ _ _ (by omega) (by omega) (by omega), w _ _ _ (by omega) (by omega) (by omega), w _ _ _ (by omega) (by omega) (by omega), w _ _ _ (by omega) (by omega) (by omega), w _ _ _ (by omega) (by omega) (by omega), (fun p hp => by simp at hp), Nat.zero_le _⟩
  · refine ⟨z64 (n := 1) (by decide) (by decide), w _ _ _ (by omega) (by omega) (by omega), z64 (n := 0) (by decide) (by decide), z64 (n := 0) (by decide) (by decide), z64 (n := 0) (by decide) (by decide), z64 (n := 0) (by decide) (by decide), z64 (n := 0) (by decide) (by decide), fun p hp => ?_, ?_⟩
    · show 0 ≤ p ∧ p ≤ _
      dsimp only at hp
      split at hp
      · simp at hp; subst hp; exact ⟨by decide, by decide⟩
      · obtain ⟨q, _, rfl⟩ := List.mem_map.1 hp
        have := cutN_lt q.toNat d.toNat
        unfold cutP
        omega
    · dsimp only
      split
      · decide
      · rw [List.length_map, List.length_take]; unfold maxLen; omega
theorem goodI_dist_len (x : Inst) : (goodI x).dist.length = (goodI x).custs.length + 1 := by simp [goodI]
theorem goodI_n (x : Inst) : (goodI x).custs.length ≤ 6 := by
  show (goodCs x).length ≤ 6
  rw [goodCs_len]; omega
theorem goodI_square (x : Inst) : Square (goodI x) := by
  refine ⟨goodI_dist_len x, fun r hr => ?_⟩
  obtain ⟨i, _, rfl⟩ := List.mem_map.1 hr
  exact goodRow_len _ _ _
theorem goodI_arc (x : Inst) (a b : Nat) : arcD (goodI x) a b = if a ≤ (goodCs x).length ∧ b ≤ (goodCs x).length then gd x a b else 0 := by
  by_cases ha : a ≤ (goodCs x).length
  · have hl : a < (goodI x).dist.length := by rw [goodI_dist_len]; show a < (goodCs x).length + 1; omega
    rw [arcD_at hl]
    have e : (goodI x).dist[a] = goodRow x (goodCs x).length a := by simp [goodI]
    rw [e]
    unfold goodRow
    by_cases hb : b ≤ (goodCs x).length
    · rw [if_pos ⟨ha, hb⟩, getD_in _ _ (by simp; omega)]
      simp
    · rw [if_neg (fun h => hb h.2), getD_out _ _ (by simp; omega)]
  · rw [if_neg (fun h => ha h.1), arcD_row (by rw [goodI_dist_len]; show (goodCs x).length + 1 ≤ a; omega)]
theorem goodI_small (x : Inst) : SmallD (goodI x) := by
  intro a b
  by_cases ha : a < 0
  · rw [arcD_neg (.inl ha)]; omega
  by_cases hb : b < 0
  · rw [arcD_neg (.inr hb)]; omega
  obtain ⟨i, rfl⟩ : ∃ i : Nat, a = (i : Int) := ⟨a.toNat, by omega⟩
  obtain ⟨k, rfl⟩ : ∃ k : Nat, b = (k : Int) := ⟨b.toNat, by omega⟩
  rw [goodI_arc]
  split
  · exact gd_bd x i k
  · omega
theorem goodI_diag (x : Inst) (a : Int) : arcD (goodI x) a a = 0 := by
  by_cases ha : a < 0
  · exact arcD_neg (.inl ha)
  obtain ⟨i, rfl⟩ : ∃ i : Nat, a = (i : Int) := ⟨a.toNat, by omega⟩
  rw [goodI_arc]
  split
  · exact if_pos rfl
  · rfl
theorem goodI_wf (x : Inst) : (goodI x).Wf := by
  have w : ∀ n l m : Int, 0 ≤ l → l ≤ m → m ≤ 1000 → W64 (roundD n l m) := fun n l m h1 h2 h3 => by
    have := roundD_bd n h2
    exact ⟨by omega, by omega⟩
  refine ⟨w _ _ _ (by omega) (by omega) (by omega), w _ _ _ (by omega) (by omega) (by omega), w _ _ _ (by omega) (by omega) (by omega), w _ _ _ (by omega) (by omega) (by omega), fun c hc => ?_, fun r hr => ?_, ?_, ?_⟩
  · obtain ⟨c', _, rfl⟩ := List.mem_map.1 hc
    exact goodC_wf _ _
  · obtain ⟨i, _, rfl⟩ := List.mem_map.1 hr
    refine ⟨by rw [goodRow_len, goodCs_len]; unfold maxLen; omega, fun n hn => ?_⟩
    obtain ⟨k, _, rfl⟩ := List.mem_map.1 hn
    have := gd_bd x i k
    exact ⟨by omega, by omega⟩
  · have := goodI_n x; unfold maxLen; omega
  · rw [goodI_dist_len]; have := goodI_n x; unfold maxLen; omega
end Go.Proofs.YtmfahjghfpckeaaDoor
