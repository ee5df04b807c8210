/- What the small functions of package inst answer, off their code: within, size, place, there, Arc. -/
import Derived.Test.YtmfahjghfpckeaaDoorInst
namespace Go.Proofs.YtmfahjghfpckeaaDoor
open Go.RowKit
set_option linter.unusedVariables false
theorem bcell {W w1 : World} (hb : Below W.heap.size W w1) : (∀ b o, b < W.heap.size → w1.cell? ⟨b, o, none⟩ = W.cell? ⟨b, o, none⟩) ∧ (∀ b o, b < W.heap.size → w1.frozen? ⟨b, o, none⟩ = W.frozen? ⟨b, o, none⟩) :=
  ⟨fun b o h => hb.cell (p := ⟨b, o, none⟩) h, fun b o h => hb.frozen (p := ⟨b, o, none⟩) h⟩
def withinB (n l m : Int) : Bool := decide (l ≤ n) && decide (n ≤ m)
theorem withinB_true {n l m : Int} (h : l ≤ n ∧ n ≤ m) : withinB n l m = true := by unfold withinB; simp [h]
theorem withinB_false {n l m : Int} (h : ¬ (l ≤ n ∧ n ≤ m)) : withinB n l m = false := by unfold withinB; simp; omega
theorem withinB_iff {n l m : Int} : withinB n l m = true ↔ l ≤ n ∧ n ≤ m := by unfold withinB; simp
theorem within_any (n l m : Int) (w : World) : Calls Tryd.prog 44 #[.int .i64 n, .int .i64 l, .int .i64 m] w fun e w' => e = .returned (.bool (withinB n l m)) ∧ w = w' := by
  go_enter Tryd.func44, Tryd.ntmps44
  go_wp2
  all_goals
    go_ret
    exact ⟨ret_bool (by unfold withinB; simp; omega), rfl⟩
theorem place_any (n : Int) (h0 : 0 ≤ n) (h1 : n ≤ 1000000) (w : World) : Calls Tryd.prog 30 #[.int .i64 n] w fun e w' => e = .returned (.int .i64 (n + 1)) ∧ w = w' := by
  go_enter Tryd.func30, Tryd.ntmps30
  go_wp2
  go_ret
  exact ⟨rfl, rfl⟩
theorem there_any (x : Inst) (A : Option Addr) (c : Nat) (B : Option Addr) (d : Nat) (a : Int) (w : World) (hn : x.custs.length ≤ maxLen) :
    Calls Tryd.prog 29 #[instV x A c B d, .int .i64 a] w fun e w' => e = .returned (.bool (withinB a 0 x.custs.length)) ∧ Below w.heap.size w w' := by
  unfold instV maxLen at *
  have C := fun W => within_any a 0 x.custs.length W
  go_enter Tryd.func29, Tryd.ntmps29
  go_wp2_with (go_at_call 44; refine (C _).mono ?_; rintro e w1 ⟨rfl, rfl⟩)
  go_ret
  exact ⟨rfl, below_alloc _ _⟩
set_option maxHeartbeats 1000000 in
theorem arc_code (x : Inst) (A : Option Addr) (c : Nat) (B : Option Addr) (d : Nat) (a b : Int) (w : World) (h : InstIs w x A B) (hs : Square x) :
    Calls Tryd.prog 14 #[instV x A c B d, .int .i64 a, .int .i64 b] w fun e w' => e = .returned (.int .i64 (arcD x a b)) ∧ Below w.heap.size w w' := by
  have CT := fun a W => there_any x A c B d a W h.wf.n
  have hn := h.wf.n
  have hm := h.wf.m
  have HJ := Go.Lib.hid (InstBox.fresh w x A c B d)
  have HB := below_alloc w (.cells #[.int .i64 x.days, .int .i64 x.veh, .int .i64 x.cap, .int .i64 x.len, .slice A x.custs.length c, .slice B x.dist.length d] 25)
  unfold instV at *
  unfold maxLen at hn hm
  obtain ⟨hs1, hs2⟩ := hs
  by_cases ha : 0 ≤ a ∧ a ≤ x.custs.length
  · have ea := withinB_true ha
    obtain ⟨i, rfl⟩ : ∃ i : Nat, a = (i : Int) := ⟨a.toNat, by omega⟩
    have hi : i < x.dist.length := by omega
    obtain ⟨g, off, P, rl, r, rfl, h1, h2, h3, h4, h5, h6, h7⟩ := h.arc hi
    rw [getD_in _ _ hi, hs2 _ (List.getElem_mem hi)] at h3
    by_cases hb : 0 ≤ b ∧ b ≤ x.custs.length
    · have eb := withinB_true hb
      obtain ⟨k, rfl⟩ : ∃ k : Nat, b = (k : Int) := ⟨b.toNat, by omega⟩
      obtain ⟨g2, off2, rfl, g3, g4, g5⟩ := h7 k (by omega)
      have hkl : k < rl := by omega
      unfold maxLen at h4
      generalize arcD x i k = v at *
      clear h6 h7 h hs1 hs2 ha hb h3
      go_enter Tryd.func14, Tryd.ntmps14
      go_wp2_with (first
        | (go_at_call 29; refine (CT _ _).mono ?_; rintro e w1 ⟨rfl, hb1⟩; have HJ1 := Go.Lib.hid (HJ.out.keep hb1); obtain ⟨j0, j1, j2, j3, j4, j5⟩ := HJ1.out.cells; clear HJ; have HJ := HJ1; clear HJ1; replace HB := HB.trans (hb1.mono HB.size); have k1 := keep_cell HB h1; have k2 := keep_cell HB g3; clear hb1))
      go_ret
      exact ⟨rfl, HB⟩
    · have eb := withinB_false hb
      have e0 : arcD x i b = 0 := by
        by_cases hb0 : b < 0
        · exact arcD_neg (.inr hb0)
        · obtain ⟨k, rfl⟩ : ∃ k : Nat, b = (k : Int) := ⟨b.toNat, by omega⟩
          exact h6 k (by omega)
      rw [e0]
      clear h6 h7 h hs1 hs2 ha hb h3 e0
      go_enter Tryd.func14, Tryd.ntmps14
      go_wp2_with (first
        | (go_at_call 29; refine (CT _ _).mono ?_; rintro e w1 ⟨rfl, hb1⟩; have HJ1 := Go.Lib.hid (HJ.out.keep hb1); obtain ⟨j0, j1, j2, j3, j4, j5⟩ := HJ1.out.cells; clear HJ; have HJ := HJ1; clear HJ1; replace HB := HB.trans (hb1.mono HB.size); clear hb1))
      go_ret
      exact ⟨rfl, HB⟩
  · have ea := withinB_false ha
    have e0 : arcD x a b = 0 := by
      by_cases ha0 : a < 0
      · exact arcD_neg (.inl ha0)
      · obtain ⟨i, rfl⟩ : ∃ i : Nat, a = (i : Int) := ⟨a.toNat, by omega⟩
        by_cases hb0 : b < 0
        · exact arcD_neg (.inr hb0)
        · obtain ⟨k, rfl⟩ : ∃ k : Nat, b = (k : Int) := ⟨b.toNat, by omega⟩
          exact arcD_row (by omega)
    rw [e0]
    clear h hs1 hs2 ha e0
    go_enter Tryd.func14, Tryd.ntmps14
    go_wp2_with (first
      | (go_at_call 29; refine (CT _ _).mono ?_; rintro e w1 ⟨rfl, hb1⟩; replace HB := HB.trans (hb1.mono HB.size); clear hb1))
    go_ret
    exact ⟨rfl, HB⟩
end Go.Proofs.YtmfahjghfpckeaaDoor
