/- What each law asks at its end: an instance of one customer may be, and two of its ways. -/
import Derived.Test.YtmfahjghfpckeaaDoorInstMayC
import Derived.Test.YtmfahjghfpckeaaDoorInstWay
namespace Go.Proofs.YtmfahjghfpckeaaDoor
open Go.RowKit
set_option linter.unusedVariables false
/-- The instance of the document's example. -/
def exI : Inst := { days := 1, veh := 1, cap := 9, len := 9, custs := [{ kind := 1, demand := 1, pats := [1], rate := 0, size := 0, start := 0, rule := 0, hold := 0 }], dist := [[0, 3], [4, 0]] }
theorem smallD_of {x : Inst} (h : ∀ r ∈ x.dist, ∀ v ∈ r, 0 ≤ v ∧ v ≤ 60) : SmallD x := by
  intro a b
  unfold arcD
  split
  · omega
  · rcases Nat.lt_or_ge a.toNat x.dist.length with ha | ha
    · rw [getD_in _ _ ha]
      rcases Nat.lt_or_ge b.toNat x.dist[a.toNat].length with hb | hb
      · rw [getD_in _ _ hb]
        exact h _ (List.getElem_mem ha) _ (List.getElem_mem hb)
      · rw [getD_out _ _ hb]; omega
    · rw [getD_out _ _ ha]
      simp
theorem exI_small : SmallD exI := smallD_of (by intro r hr v hv; simp [exI] at hr; rcases hr with rfl | rfl <;> simp at hv <;> rcases hv with rfl | rfl <;> omega)
theorem exI_square : Square exI := ⟨rfl, by intro r hr; simp [exI] at hr; rcases hr with rfl | rfl <;> rfl⟩
theorem exI_may : mayI exI = true := by kernel_rfl
theorem exI_wf : exI.Wf := by
  have z : ∀ n : Int, 0 ≤ n → n ≤ 9 → W64 n := fun n h1 h2 => ⟨by omega, by omega⟩
  refine ⟨z 1 (by decide) (by decide), z 1 (by decide) (by decide), z 9 (by decide) (by decide), z 9 (by decide) (by decide), fun c hc => ?_, fun r hr => ?_, by unfold maxLen; decide, by unfold maxLen; decide⟩
  · simp [exI] at hc
    subst hc
    exact ⟨z 1 (by decide) (by decide), z 1 (by decide) (by decide), z 0 (by decide) (by decide), z 0 (by decide) (by decide), z 0 (by decide) (by decide), z 0 (by decide) (by decide), z 0 (by decide) (by decide), (fun p hp => by simp at hp; subst hp; omega), by unfold maxLen; decide⟩
  · simp [exI] at hr
    rcases hr with rfl | rfl
    · exact ⟨by unfold maxLen; decide, fun n hn => by simp at hn; rcases hn with rfl | rfl <;> exact z _ (by decide) (by decide)⟩
    · exact ⟨by unfold maxLen; decide, fun n hn => by simp at hn; rcases hn with rfl | rfl <;> exact z _ (by decide) (by decide)⟩
theorem exI_in (w : World) : InstIs ((((((w.alloc (.cells #[.int .u64 1] 46)).alloc (.cells #[.int .i64 1, .int .i64 1, .slice (some ⟨w.heap.size, 0, none⟩) 1 1, .int .i64 0, .int .i64 0, .int .i64 0, .int .i64 0, .int .i64 0] 45)).alloc (.cells #[.int .i64 0, .int .i64 3] 3)).alloc (.cells #[.int .i64 4, .int .i64 0] 3)).alloc (.cells #[.slice (some ⟨w.heap.size + 1 + 1, 0, none⟩) 2 2, .slice (some ⟨w.heap.size + 1 + 1 + 1, 0, none⟩) 2 2] 33)).alloc (.cells #[.int .i64 1, .int .i64 1, .int .i64 9, .int .i64 9, .slice (some ⟨w.heap.size + 1, 0, none⟩) 1 1, .slice (some ⟨w.heap.size + 1 + 1 + 1 + 1, 0, none⟩) 2 2] 25)) exI (some ⟨w.heap.size + 1, 0, none⟩) (some ⟨w.heap.size + 1 + 1 + 1 + 1, 0, none⟩) := by
  have K0 : BlkIs ((((((w.alloc (.cells #[.int .u64 1] 46)).alloc (.cells #[.int .i64 1, .int .i64 1, .slice (some ⟨w.heap.size, 0, none⟩) 1 1, .int .i64 0, .int .i64 0, .int .i64 0, .int .i64 0, .int .i64 0] 45)).alloc (.cells #[.int .i64 0, .int .i64 3] 3)).alloc (.cells #[.int .i64 4, .int .i64 0] 3)).alloc (.cells #[.slice (some ⟨w.heap.size + 1 + 1, 0, none⟩) 2 2, .slice (some ⟨w.heap.size + 1 + 1 + 1, 0, none⟩) 2 2] 33)).alloc (.cells #[.int .i64 1, .int .i64 1, .int .i64 9, .int .i64 9, .slice (some ⟨w.heap.size + 1, 0, none⟩) 1 1, .slice (some ⟨w.heap.size + 1 + 1 + 1 + 1, 0, none⟩) 2 2] 25)) (w.heap.size) 46 #[.int .u64 1] := by
    have := ((((((BlkIs.fresh w 46 #[.int .u64 1]).alloc (.cells #[.int .i64 1, .int .i64 1, .slice (some ⟨w.heap.size, 0, none⟩) 1 1, .int .i64 0, .int .i64 0, .int .i64 0, .int .i64 0, .int .i64 0] 45)).alloc (.cells #[.int .i64 0, .int .i64 3] 3)).alloc (.cells #[.int .i64 4, .int .i64 0] 3)).alloc (.cells #[.slice (some ⟨w.heap.size + 1 + 1, 0, none⟩) 2 2, .slice (some ⟨w.heap.size + 1 + 1 + 1, 0, none⟩) 2 2] 33)).alloc (.cells #[.int .i64 1, .int .i64 1, .int .i64 9, .int .i64 9, .slice (some ⟨w.heap.size + 1, 0, none⟩) 1 1, .slice (some ⟨w.heap.size + 1 + 1 + 1 + 1, 0, none⟩) 2 2] 25))
    try simp only [World.size_alloc] at this
    exact this
  have K1 : BlkIs ((((((w.alloc (.cells #[.int .u64 1] 46)).alloc (.cells #[.int .i64 1, .int .i64 1, .slice (some ⟨w.heap.size, 0, none⟩) 1 1, .int .i64 0, .int .i64 0, .int .i64 0, .int .i64 0, .int .i64 0] 45)).alloc (.cells #[.int .i64 0, .int .i64 3] 3)).alloc (.cells #[.int .i64 4, .int .i64 0] 3)).alloc (.cells #[.slice (some ⟨w.heap.size + 1 + 1, 0, none⟩) 2 2, .slice (some ⟨w.heap.size + 1 + 1 + 1, 0, none⟩) 2 2] 33)).alloc (.cells #[.int .i64 1, .int .i64 1, .int .i64 9, .int .i64 9, .slice (some ⟨w.heap.size + 1, 0, none⟩) 1 1, .slice (some ⟨w.heap.size + 1 + 1 + 1 + 1, 0, none⟩) 2 2] 25)) (w.heap.size + 1) 45 #[.int .i64 1, .int .i64 1, .slice (some ⟨w.heap.size, 0, none⟩) 1 1, .int .i64 0, .int .i64 0, .int .i64 0, .int .i64 0, .int .i64 0] := by
    have := (((((BlkIs.fresh (w.alloc (.cells #[.int .u64 1] 46)) 45 #[.int .i64 1, .int .i64 1, .slice (some ⟨w.heap.size, 0, none⟩) 1 1, .int .i64 0, .int .i64 0, .int .i64 0, .int .i64 0, .int .i64 0]).alloc (.cells #[.int .i64 0, .int .i64 3] 3)).alloc (.cells #[.int .i64 4, .int .i64 0] 3)).alloc (.cells #[.slice (some ⟨w.heap.size + 1 + 1, 0, none⟩) 2 2, .slice (some ⟨w.heap.size + 1 + 1 + 1, 0, none⟩) 2 2] 33)).alloc (.cells #[.int .i64 1, .int .i64 1, .int .i64 9, .int .i64 9, .slice (some ⟨w.heap.size + 1, 0, none⟩) 1 1, .slice (some ⟨w.heap.size + 1 + 1 + 1 + 1, 0, none⟩) 2 2] 25))
    try simp only [World.size_alloc] at this
    exact this
  have K2 : BlkIs ((((((w.alloc (.cells #[.int .u64 1] 46)).alloc (.cells #[.int .i64 1, .int .i64 1, .slice (some ⟨w.heap.size, 0, none⟩) 1 1, .int .i64 0, .int .i64 0, .int .i64 0, .int .i64 0, .int .i64 0] 45)).alloc (.cells #[.int .i64 0, .int .i64 3] 3)).alloc (.cells #[.int .i64 4, .int .i64 0] 3)).alloc (.cells #[.slice (some ⟨w.heap.size + 1 + 1, 0, none⟩) 2 2, .slice (some ⟨w.heap.size + 1 + 1 + 1, 0, none⟩) 2 2] 33)).alloc (.cells #[.int .i64 1, .int .i64 1, .int .i64 9, .int .i64 9, .slice (some ⟨w.heap.size + 1, 0, none⟩) 1 1, .slice (some ⟨w.heap.size + 1 + 1 + 1 + 1, 0, none⟩) 2 2] 25)) (w.heap.size + 1 + 1) 3 #[.int .i64 0, .int .i64 3] := by
    have := ((((BlkIs.fresh ((w.alloc (.cells #[.int .u64 1] 46)).alloc (.cells #[.int .i64 1, .int .i64 1, .slice (some ⟨w.heap.size, 0, none⟩) 1 1, .int .i64 0, .int .i64 0, .int .i64 0, .int .i64 0, .int .i64 0] 45)) 3 #[.int .i64 0, .int .i64 3]).alloc (.cells #[.int .i64 4, .int .i64 0] 3)).alloc (.cells #[.slice (some ⟨w.heap.size + 1 + 1, 0, none⟩) 2 2, .slice (some ⟨w.heap.size + 1 + 1 + 1, 0, none⟩) 2 2] 33)).alloc (.cells #[.int .i64 1, .int .i64 1, .int .i64 9, .int .i64 9, .slice (some ⟨w.heap.size + 1, 0, none⟩) 1 1, .slice (some ⟨w.heap.size + 1 + 1 + 1 + 1, 0, none⟩) 2 2] 25))
    try simp only [World.size_alloc] at this
    exact this
  have K3 : BlkIs ((((((w.alloc (.cells #[.int .u64 1] 46)).alloc (.cells #[.int .i64 1, .int .i64 1, .slice (some ⟨w.heap.size, 0, none⟩) 1 1, .int .i64 0, .int .i64 0, .int .i64 0, .int .i64 0, .int .i64 0] 45)).alloc (.cells #[.int .i64 0, .int .i64 3] 3)).alloc (.cells #[.int .i64 4, .int .i64 0] 3)).alloc (.cells #[.slice (some ⟨w.heap.size + 1 + 1, 0, none⟩) 2 2, .slice (some ⟨w.heap.size + 1 + 1 + 1, 0, none⟩) 2 2] 33)).alloc (.cells #[.int .i64 1, .int .i64 1, .int .i64 9, .int .i64 9, .slice (some ⟨w.heap.size + 1, 0, none⟩) 1 1, .slice (some ⟨w.heap.size + 1 + 1 + 1 + 1, 0, none⟩) 2 2] 25)) (w.heap.size + 1 + 1 + 1) 3 #[.int .i64 4, .int .i64 0] := by
    have := (((BlkIs.fresh (((w.alloc (.cells #[.int .u64 1] 46)).alloc (.cells #[.int .i64 1, .int .i64 1, .slice (some ⟨w.heap.size, 0, none⟩) 1 1, .int .i64 0, .int .i64 0, .int .i64 0, .int .i64 0, .int .i64 0] 45)).alloc (.cells #[.int .i64 0, .int .i64 3] 3)) 3 #[.int .i64 4, .int .i64 0]).alloc (.cells #[.slice (some ⟨w.heap.size + 1 + 1, 0, none⟩) 2 2, .slice (some ⟨w.heap.size + 1 + 1 + 1, 0, none⟩) 2 2] 33)).alloc (.cells #[.int .i64 1, .int .i64 1, .int .i64 9, .int .i64 9, .slice (some ⟨w.heap.size + 1, 0, none⟩) 1 1, .slice (some ⟨w.heap.size + 1 + 1 + 1 + 1, 0, none⟩) 2 2] 25))
    try simp only [World.size_alloc] at this
    exact this
  have K4 : BlkIs ((((((w.alloc (.cells #[.int .u64 1] 46)).alloc (.cells #[.int .i64 1, .int .i64 1, .slice (some ⟨w.heap.size, 0, none⟩) 1 1, .int .i64 0, .int .i64 0, .int .i64 0, .int .i64 0, .int .i64 0] 45)).alloc (.cells #[.int .i64 0, .int .i64 3] 3)).alloc (.cells #[.int .i64 4, .int .i64 0] 3)).alloc (.cells #[.slice (some ⟨w.heap.size + 1 + 1, 0, none⟩) 2 2, .slice (some ⟨w.heap.size + 1 + 1 + 1, 0, none⟩) 2 2] 33)).alloc (.cells #[.int .i64 1, .int .i64 1, .int .i64 9, .int .i64 9, .slice (some ⟨w.heap.size + 1, 0, none⟩) 1 1, .slice (some ⟨w.heap.size + 1 + 1 + 1 + 1, 0, none⟩) 2 2] 25)) (w.heap.size + 1 + 1 + 1 + 1) 33 #[.slice (some ⟨w.heap.size + 1 + 1, 0, none⟩) 2 2, .slice (some ⟨w.heap.size + 1 + 1 + 1, 0, none⟩) 2 2] := by
    have := ((BlkIs.fresh ((((w.alloc (.cells #[.int .u64 1] 46)).alloc (.cells #[.int .i64 1, .int .i64 1, .slice (some ⟨w.heap.size, 0, none⟩) 1 1, .int .i64 0, .int .i64 0, .int .i64 0, .int .i64 0, .int .i64 0] 45)).alloc (.cells #[.int .i64 0, .int .i64 3] 3)).alloc (.cells #[.int .i64 4, .int .i64 0] 3)) 33 #[.slice (some ⟨w.heap.size + 1 + 1, 0, none⟩) 2 2, .slice (some ⟨w.heap.size + 1 + 1 + 1, 0, none⟩) 2 2]).alloc (.cells #[.int .i64 1, .int .i64 1, .int .i64 9, .int .i64 9, .slice (some ⟨w.heap.size + 1, 0, none⟩) 1 1, .slice (some ⟨w.heap.size + 1 + 1 + 1 + 1, 0, none⟩) 2 2] 25))
    try simp only [World.size_alloc] at this
    exact this
  generalize ((((((w.alloc (.cells #[.int .u64 1] 46)).alloc (.cells #[.int .i64 1, .int .i64 1, .slice (some ⟨w.heap.size, 0, none⟩) 1 1, .int .i64 0, .int .i64 0, .int .i64 0, .int .i64 0, .int .i64 0] 45)).alloc (.cells #[.int .i64 0, .int .i64 3] 3)).alloc (.cells #[.int .i64 4, .int .i64 0] 3)).alloc (.cells #[.slice (some ⟨w.heap.size + 1 + 1, 0, none⟩) 2 2, .slice (some ⟨w.heap.size + 1 + 1 + 1, 0, none⟩) 2 2] 33)).alloc (.cells #[.int .i64 1, .int .i64 1, .int .i64 9, .int .i64 9, .slice (some ⟨w.heap.size + 1, 0, none⟩) 1 1, .slice (some ⟨w.heap.size + 1 + 1 + 1 + 1, 0, none⟩) 2 2] 25)) = W at *
  refine ⟨fun i hi => ?_, fun i hi => ?_, exI_wf⟩
  · have : i < 1 := hi
    obtain rfl : i = 0 := by omega
    refine ⟨_, 0, some ⟨w.heap.size, 0, none⟩, 1, rfl, ⟨K1.cellAt 0, K1.cellAt 1, K1.cellAt 2, K1.cellAt 3, K1.cellAt 4, K1.cellAt 5, K1.cellAt 6, K1.cellAt 7⟩, ⟨rfl, fun _ => ⟨_, 0, rfl, fun k hk => ?_⟩⟩, Nat.le_refl _⟩
    have : k < 1 := hk
    obtain rfl : k = 0 := by omega
    exact K0.cellAt 0
  · have : i < 2 := hi
    rcases (by omega : i = 0 ∨ i = 1) with rfl | rfl
    · refine ⟨_, 0, some ⟨w.heap.size + 1 + 1, 0, none⟩, 2, rfl, K4.cellAt 0, ⟨rfl, fun _ => ⟨_, 0, rfl, fun k hk => ?_⟩⟩, Nat.le_refl _⟩
      have : k < 2 := hk
      rcases (by omega : k = 0 ∨ k = 1) with rfl | rfl
      · exact K2.cellAt 0
      · exact K2.cellAt 1
    · refine ⟨_, 0, some ⟨w.heap.size + 1 + 1 + 1, 0, none⟩, 2, rfl, K4.cellAt 1, ⟨rfl, fun _ => ⟨_, 0, rfl, fun k hk => ?_⟩⟩, Nat.le_refl _⟩
      have : k < 2 := hk
      rcases (by omega : k = 0 ∨ k = 1) with rfl | rfl
      · exact K3.cellAt 0
      · exact K3.cellAt 1
set_option maxHeartbeats 2000000 in
theorem lives6_any (w : World) (hT : Tab w) : Calls Tryd.prog 13 #[] w fun e w' => e = .returned (.bool true) ∧ Below w.heap.size w w' := by
  have hI := exI_in w
  have HB0 : Below w.heap.size w ((((((w.alloc (.cells #[.int .u64 1] 46)).alloc (.cells #[.int .i64 1, .int .i64 1, .slice (some ⟨w.heap.size, 0, none⟩) 1 1, .int .i64 0, .int .i64 0, .int .i64 0, .int .i64 0, .int .i64 0] 45)).alloc (.cells #[.int .i64 0, .int .i64 3] 3)).alloc (.cells #[.int .i64 4, .int .i64 0] 3)).alloc (.cells #[.slice (some ⟨w.heap.size + 1 + 1, 0, none⟩) 2 2, .slice (some ⟨w.heap.size + 1 + 1 + 1, 0, none⟩) 2 2] 33)).alloc (.cells #[.int .i64 1, .int .i64 1, .int .i64 9, .int .i64 9, .slice (some ⟨w.heap.size + 1, 0, none⟩) 1 1, .slice (some ⟨w.heap.size + 1 + 1 + 1 + 1, 0, none⟩) 2 2] 25)) := ((((((Below.refl _ _).alloc (by (try simp only [World.size_alloc]); omega) (.cells #[.int .u64 1] 46)).alloc (by (try simp only [World.size_alloc]); omega) (.cells #[.int .i64 1, .int .i64 1, .slice (some ⟨w.heap.size, 0, none⟩) 1 1, .int .i64 0, .int .i64 0, .int .i64 0, .int .i64 0, .int .i64 0] 45)).alloc (by (try simp only [World.size_alloc]); omega) (.cells #[.int .i64 0, .int .i64 3] 3)).alloc (by (try simp only [World.size_alloc]); omega) (.cells #[.int .i64 4, .int .i64 0] 3)).alloc (by (try simp only [World.size_alloc]); omega) (.cells #[.slice (some ⟨w.heap.size + 1 + 1, 0, none⟩) 2 2, .slice (some ⟨w.heap.size + 1 + 1 + 1, 0, none⟩) 2 2] 33)).alloc (by (try simp only [World.size_alloc]); omega) (.cells #[.int .i64 1, .int .i64 1, .int .i64 9, .int .i64 9, .slice (some ⟨w.heap.size + 1, 0, none⟩) 1 1, .slice (some ⟨w.heap.size + 1 + 1 + 1 + 1, 0, none⟩) 2 2] 25)
  have KX : BlkIs ((((((w.alloc (.cells #[.int .u64 1] 46)).alloc (.cells #[.int .i64 1, .int .i64 1, .slice (some ⟨w.heap.size, 0, none⟩) 1 1, .int .i64 0, .int .i64 0, .int .i64 0, .int .i64 0, .int .i64 0] 45)).alloc (.cells #[.int .i64 0, .int .i64 3] 3)).alloc (.cells #[.int .i64 4, .int .i64 0] 3)).alloc (.cells #[.slice (some ⟨w.heap.size + 1 + 1, 0, none⟩) 2 2, .slice (some ⟨w.heap.size + 1 + 1 + 1, 0, none⟩) 2 2] 33)).alloc (.cells #[.int .i64 1, .int .i64 1, .int .i64 9, .int .i64 9, .slice (some ⟨w.heap.size + 1, 0, none⟩) 1 1, .slice (some ⟨w.heap.size + 1 + 1 + 1 + 1, 0, none⟩) 2 2] 25)) (w.heap.size + 1 + 1 + 1 + 1 + 1) 25 #[.int .i64 1, .int .i64 1, .int .i64 9, .int .i64 9, .slice (some ⟨w.heap.size + 1, 0, none⟩) 1 1, .slice (some ⟨w.heap.size + 1 + 1 + 1 + 1, 0, none⟩) 2 2] := by
    have := BlkIs.fresh (((((w.alloc (.cells #[.int .u64 1] 46)).alloc (.cells #[.int .i64 1, .int .i64 1, .slice (some ⟨w.heap.size, 0, none⟩) 1 1, .int .i64 0, .int .i64 0, .int .i64 0, .int .i64 0, .int .i64 0] 45)).alloc (.cells #[.int .i64 0, .int .i64 3] 3)).alloc (.cells #[.int .i64 4, .int .i64 0] 3)).alloc (.cells #[.slice (some ⟨w.heap.size + 1 + 1, 0, none⟩) 2 2, .slice (some ⟨w.heap.size + 1 + 1 + 1, 0, none⟩) 2 2] 33)) 25 #[.int .i64 1, .int .i64 1, .int .i64 9, .int .i64 9, .slice (some ⟨w.heap.size + 1, 0, none⟩) 1 1, .slice (some ⟨w.heap.size + 1 + 1 + 1 + 1, 0, none⟩) 2 2]
    try simp only [World.size_alloc] at this
    exact this
  have HT := Go.Lib.hid hT
  clear hT
  go_enter Tryd.func13, Tryd.ntmps13
  go_wp2_with fail
  generalize ((((((w.alloc (.cells #[.int .u64 1] 46)).alloc (.cells #[.int .i64 1, .int .i64 1, .slice (some ⟨w.heap.size, 0, none⟩) 1 1, .int .i64 0, .int .i64 0, .int .i64 0, .int .i64 0, .int .i64 0] 45)).alloc (.cells #[.int .i64 0, .int .i64 3] 3)).alloc (.cells #[.int .i64 4, .int .i64 0] 3)).alloc (.cells #[.slice (some ⟨w.heap.size + 1 + 1, 0, none⟩) 2 2, .slice (some ⟨w.heap.size + 1 + 1 + 1, 0, none⟩) 2 2] 33)).alloc (.cells #[.int .i64 1, .int .i64 1, .int .i64 9, .int .i64 9, .slice (some ⟨w.heap.size + 1, 0, none⟩) 1 1, .slice (some ⟨w.heap.size + 1 + 1 + 1 + 1, 0, none⟩) 2 2] 25)) = W at *
  obtain ⟨j0, j1, j2, j3, j4, j5⟩ := KX.cells6
  have HKX := Go.Lib.hid KX
  have HI := Go.Lib.hid hI
  have HB := Go.Lib.hid HB0
  have CM : ∀ W', Below w.heap.size w W' → InstIs W' exI (some ⟨w.heap.size + 1, 0, none⟩) (some ⟨w.heap.size + 1 + 1 + 1 + 1, 0, none⟩) → Calls Tryd.prog 9 #[.agg #[.int .i64 1, .int .i64 1, .int .i64 9, .int .i64 9, .slice (some ⟨w.heap.size + 1, 0, none⟩) 1 1, .slice (some ⟨w.heap.size + 1 + 1 + 1 + 1, 0, none⟩) 2 2]] W' fun e w' => e = .returned (.int .i64 0) ∧ Below W'.heap.size W' w' := fun W' hb hi => by
    have := May_code exI (some ⟨w.heap.size + 1, 0, none⟩) 1 (some ⟨w.heap.size + 1 + 1 + 1 + 1, 0, none⟩) 2 W' (HT.out.keep hb) hi
    rw [exI_may] at this
    exact this
  have CW : ∀ W' L n r l, InstIs W' exI (some ⟨w.heap.size + 1, 0, none⟩) (some ⟨w.heap.size + 1 + 1 + 1 + 1, 0, none⟩) → Ints W' L n l → TourL l → Calls Tryd.prog 16 #[.agg #[.int .i64 1, .int .i64 1, .int .i64 9, .int .i64 9, .slice (some ⟨w.heap.size + 1, 0, none⟩) 1 1, .slice (some ⟨w.heap.size + 1 + 1 + 1 + 1, 0, none⟩) 2 2], .slice L n r] W' fun e w' => e = .returned (.int .i64 (wayD exI l)) ∧ Below W'.heap.size W' w' := fun W' L n r l hi hl ht =>
    way_code exI (some ⟨w.heap.size + 1, 0, none⟩) 1 (some ⟨w.heap.size + 1 + 1 + 1 + 1, 0, none⟩) 2 L n r l W' hi exI_square exI_small hl ht
  have T0 : TourL [] := ⟨by simp, by simp⟩
  have T1 : TourL [0] := ⟨by simp, by simp⟩
  have E0 : wayD exI [] = 0 := rfl
  have E1 : wayD exI [0] = 7 := by kernel_rfl
  have C0 := fun W' hi => CW W' none 0 0 [] hi (Ints.nil _ _) T0
  have C1 := fun W' A hi hl => CW W' A 1 1 [0] hi hl T1
  rw [E0] at C0
  rw [E1] at C1
  clear CW KX hI HB0 E0 E1
  go_wp2_with (first
    | (go_at_call 9; (with_reducible refine (CM _ HB.out HI.out).mono ?_); rintro e w1 ⟨rfl, hb1⟩; have HK1 := Go.Lib.hid (HKX.out.below hb1 HKX.out.lt); have HI1 := Go.Lib.hid (HI.out.keep hb1); have HB1 := Go.Lib.hid (HB.out.trans (hb1.mono HB.out.size)); obtain ⟨j0, j1, j2, j3, j4, j5⟩ := HK1.out.cells6; clear hb1)
    | (go_at_call 16; (with_reducible refine (C0 _ HI1.out).mono ?_); rintro e w2 ⟨rfl, hb1⟩; have HK2 := Go.Lib.hid (HK1.out.below hb1 HK1.out.lt); have HB2 := Go.Lib.hid (HB1.out.trans (hb1.mono HB1.out.size)); have HI2 := Go.Lib.hid (HI1.out.keep hb1); obtain ⟨j0, j1, j2, j3, j4, j5⟩ := HK2.out.cells6; have hl : Ints (w2.alloc (.cells #[.int .i64 0] 3)) (some ⟨w2.heap.size, 0, none⟩) 1 [0] := ⟨rfl, fun _ => ⟨_, 0, rfl, fun k hk => by obtain rfl : k = 0 := (by omega); exact (BlkIs.fresh w2 3 #[.int .i64 0]).cellAt 0⟩⟩; have HL := Go.Lib.hid hl; clear hb1 hl)
    | (go_at_call 16; (with_reducible refine (C1 _ _ (HI2.out.keep (below_alloc _ _)) HL.out).mono ?_); rintro e w3 ⟨rfl, hb1⟩; have HB3 := Go.Lib.hid ((HB2.out.trans ((below_alloc w2 (.cells #[.int .i64 0] 3)).mono HB2.out.size)).trans (hb1.mono (by have := HB2.out.size; simp; omega))); clear hb1))
  go_ret
  exact ⟨rfl, HB3.out⟩
end Go.Proofs.YtmfahjghfpckeaaDoor
