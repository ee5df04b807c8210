import Derived.Test.YtliomhkgkabbbaaGreatDoorK03
import Derived.Lib.TrailingZeros
import Derived.Lib.LaidTab
import Derived.LaidMore
import Derived.Stop.Joined
import Derived.Laws.Bits128
section
/- The library's table of trailing zeros, where the program bears it: what its variable holds when the call begins, and that it goes on holding that; nothing is said where the program bears none. -/
namespace Go.Proofs.YtliomhkgkabbbaaGreatDoor
open Go.RowKit
set_option linter.unusedVariables false

def Tab (w : World) : Prop := ∀ j, j < 64 → w.cell? ⟨3, j, none⟩ = some (.int .u8 (Go.Lib.deBruijn64tab.getD j 0 : Nat))
theorem Tab.keep {w w' : World} (h : Tab w) (hb : Below w.heap.size w w') : Tab w' := by
  intro j hj
  exact (hb.cell (World.block_lt_of_cell? w _ (h j hj))).trans (h j hj)
theorem tab_global : Tryz.prog.globalNamed "math/bits.deBruijn64tab" = some 3 := by kernel_rfl
theorem tab_type : (Tryz.prog.globals[3]?).map (·.type) = some 152 := by kernel_rfl
theorem tab_cells : Tryz.prog.cellsOf 152 = 64 := by kernel_rfl
theorem tab_cell : Tryz.prog.cellsOf 5 = 1 := by kernel_rfl
def tabList : List Int := Go.Lib.deBruijn64tab.map Int.ofNat
theorem tabList_len : tabList.length = 64 := rfl
/-- What the row's condition says of the variable. -/
theorem tab_of_laid {W : World} (h : laidMetH Tryz.prog [("math/bits.deBruijn64tab", Rows.laid_math_bits_deBruijn64tab)] W) : Tab W := by
  rw [MakeChecks.laidMetH_plain _ _ _ (by kernel_rfl)] at h
  have h2 : laidMet Tryz.prog [("math/bits.deBruijn64tab", Go.Lib.tabData .u8 tabList)] W := h
  have h3 := Go.Lib.tabIs_of_head tab_global tab_type Tryz.underlying152 Tryz.underlying5 tab_cell tab_cells h2
  intro j hj
  have h4 := h3.cell tab_global j (by rw [tabList_len]; exact hj)
  rw [h4]
  congr 2
  unfold tabList
  rw [List.getD_eq_getElem?_getD, List.getElem?_map, List.getD_eq_getElem?_getD]
  cases Go.Lib.deBruijn64tab[j]? <;> rfl
/-- The door's own heap meets the condition. -/
theorem door_met (os : Os) (args : Array Value) : laidMetH Tryz.prog [("math/bits.deBruijn64tab", Rows.laid_math_bits_deBruijn64tab)] ((World.doorLaid Tryz.prog 14 os).forCall (fun _ _ => 0) ⟨#[], args, []⟩).memory :=
  laidMetH_of_parts3 (fuel := 8) (laidMet_of_run' 8 (by kernel_rfl) (by kernel_rfl)) (by kernel_rfl) (by kernel_rfl)
end Go.Proofs.YtliomhkgkabbbaaGreatDoor
end
section
/- What days.Set's Next answers, off its code, by the library's count of trailing zeros (as DaysCodeB, without the set's length). -/
namespace Go.Proofs.YtliomhkgkabbbaaGreatDoor
open Go.RowKit
set_option linter.unusedVariables false

theorem shr_castN (s k : Nat) : (s : Int) / 2 ^ k = ((s / 2 ^ k : Nat) : Int) := by
  rw [Int.natCast_ediv, Int.natCast_pow]; rfl
theorem tz_core (x k idx : Nat) (w : World) (hz : ((x : Int) == 0) = false)
    (key : IntKind.u64.wrap (bits .and .u64 (x : Int) (IntKind.u64.wrap (-(x : Int))) * 285870213051353865) / 288230376151711744 = (idx : Int)) (hi : idx < 64) (hk : k < 64)
    (hcell : w.cell? ⟨3, idx, none⟩ = some (.int .u8 k)) :
    Calls Tryz.prog 126 #[.int .u64 x] w fun e w' => e = .returned (.int .i64 (k : Int)) ∧ w' = w := by
  go_enter Tryz.func126, Tryz.ntmps126
  go_wp2_with (simp only [key])
  go_ret
  exact ⟨rfl, rfl⟩
theorem tz_code (x : Nat) (hx : x < 2 ^ 64) (h0 : x ≠ 0) (w : World) (hT : Tab w) :
    Calls Tryz.prog 126 #[.int .u64 x] w fun e w' => e = .returned (.int .i64 (Go.Lib.ctz 64 x : Int)) ∧ w' = w := by
  obtain ⟨hlow, hk⟩ := Go.Lib.lowest_bit 64 x h0 hx
  obtain ⟨hi, htab⟩ := Go.Lib.deBruijn64_at _ hk
  have hcell := hT _ hi
  rw [htab] at hcell
  refine tz_core x _ _ w (by simp; omega) ?_ hi hk hcell
  have n1 : IntKind.u64.wrap (-(x : Int)) = ((2 ^ 64 - x : Nat) : Int) := by rw [IntKind.wrap_u64]; omega
  have n2 : bits .and .u64 (x : Int) ((2 ^ 64 - x : Nat) : Int) = ((2 ^ Go.Lib.ctz 64 x : Nat) : Int) := by
    rw [bits_and_u64_nat _ _ hx (by omega), hlow]
  rw [n1, n2, IntKind.wrap_u64]
  generalize (2 ^ Go.Lib.ctz 64 x : Nat) = p
  omega

/-! ### Next, by the bits -/
theorem nextI_is {s : Nat} {d x : Int} (hx : x ∈ allI s) (hd : d ≤ x) (hm : ∀ y ∈ allI s, d ≤ y → x ≤ y) : nextI s d = x := by
  unfold nextI
  cases h : (allI s).find? (fun y => decide (d ≤ y)) with
  | none => exact absurd hd (by simpa using List.find?_eq_none.1 h x hx)
  | some z =>
    show z = x
    obtain ⟨hz, us, vs, hl, has⟩ := List.find?_eq_some_iff_append.1 h
    have hzm : z ∈ allI s := by rw [hl]; simp
    have h1 := hm z hzm (by simpa using hz)
    have hs : (allI s).Pairwise (· < ·) := upTo_sorted s 64
    rw [hl] at hx hs
    rcases List.mem_append.1 hx with h2 | h2
    · have := has x h2
      simp at this
      omega
    · rcases List.mem_cons.1 h2 with h3 | h3
      · exact h3.symm
      · have := (List.pairwise_cons.1 (List.pairwise_append.1 hs).2.1).1 x h3
        omega
theorem nextI_no {s : Nat} {d : Int} (h : ∀ y ∈ allI s, y < d) : nextI s d = -1 := by
  unfold nextI
  rw [List.find?_eq_none.2]
  · rfl
  · intro y hy
    have := h y hy
    simp; omega
theorem mem_allI {s : Nat} {y : Int} : y ∈ allI s ↔ 0 ≤ y ∧ y < 64 ∧ s.testBit y.toNat = true := mem_upTo
theorem next_shift {s : Nat} (hs : s < 2 ^ 64) {d : Int} {k : Nat} (hk : (k : Int) = max d 0) :
    (s / 2 ^ min k 64 = 0 → nextI s d = -1) ∧ (s / 2 ^ min k 64 ≠ 0 → nextI s d = (k : Int) + (Go.Lib.ctz 64 (s / 2 ^ min k 64) : Int) ∧ k + Go.Lib.ctz 64 (s / 2 ^ min k 64) < 64) := by
  have hb : ∀ j, (s / 2 ^ min k 64).testBit j = s.testBit (j + min k 64) := fun j => by rw [Nat.testBit_div_two_pow]
  constructor
  · intro hq
    refine nextI_no fun y hy => ?_
    obtain ⟨y0, y1, y2⟩ := mem_allI.1 hy
    rcases Int.lt_or_le y d with h | h
    · exact h
    · exfalso
      have hky : k ≤ y.toNat := by omega
      have h1 := hb (y.toNat - k)
      rw [hq, Nat.zero_testBit, show y.toNat - k + min k 64 = y.toNat by omega, y2] at h1
      cases h1
  · intro hq
    have hk64 : k < 64 := by
      rcases Nat.lt_or_ge k 64 with h | h
      · exact h
      · exfalso
        apply hq
        rw [Nat.min_eq_right h]
        exact Nat.div_eq_of_lt hs
    have hmin : min k 64 = k := Nat.min_eq_left (by omega)
    have hql : s / 2 ^ min k 64 < 2 ^ 64 := Nat.lt_of_le_of_lt (Nat.div_le_self _ _) hs
    rw [hmin] at hb hq hql ⊢
    generalize s / 2 ^ k = q at *
    have hcz : Go.Lib.ctz 64 q = Go.Lib.ctzFrom 64 q := by unfold Go.Lib.ctz; rw [if_neg hq]
    obtain ⟨m, hm, hc⟩ := Go.Lib.ctzFrom_spec 64 q (by omega) hql
    rw [hcz]
    generalize Go.Lib.ctzFrom 64 q = c at *
    have hbit : ∀ j, q.testBit j = (decide (c ≤ j) && (2 * m + 1).testBit (j - c)) := fun j => by
      rw [hm, Nat.mul_comm, Nat.testBit_mul_two_pow]
    have hbc : s.testBit (k + c) = true := by
      rw [Nat.add_comm k c, ← hb, hbit, Nat.sub_self, Nat.testBit_zero]; simp
    have hkc : k + c < 64 := by
      rcases Nat.lt_or_ge (k + c) 64 with h | h
      · exact h
      · rw [Nat.testBit_lt_two_pow (Nat.lt_of_lt_of_le hs (Nat.pow_le_pow_right (by decide) h))] at hbc; cases hbc
    refine ⟨?_, hkc⟩
    have e : (k : Int) + (c : Int) = ((k + c : Nat) : Int) := by omega
    rw [e]
    refine nextI_is (mem_allI.2 ⟨by omega, by omega, by rw [Int.toNat_natCast]; exact hbc⟩) (by omega) fun y hy hd => ?_
    obtain ⟨y0, y1, y2⟩ := mem_allI.1 hy
    have h1 := hb (y.toNat - k)
    rw [show y.toNat - k + k = y.toNat by omega, y2, hbit] at h1
    have := of_decide_eq_true (Bool.and_eq_true_iff.1 h1).1
    omega
theorem next_days (s : Nat) (d : Int) (w : World) (hT : Tab w) (hs : s < 2 ^ 64) (wd : (Lit.int .i64 d).wf = true) :
    Calls Tryz.prog 123 #[.int .u64 s, .int .i64 d] w fun e w' => e = .returned (.int .i64 (nextI s d)) ∧ Below w.heap.size w w' := by
  obtain ⟨k, hk⟩ : ∃ k : Nat, (k : Int) = max d 0 := ⟨(max d 0).toNat, by omega⟩
  obtain ⟨n0, n1⟩ := next_shift hs hk
  have hq : (s : Int) / 2 ^ min k 64 = ((s / 2 ^ min k 64 : Nat) : Int) := shr_castN s (min k 64)
  have hql : s / 2 ^ min k 64 < 2 ^ 64 := Nat.lt_of_le_of_lt (Nat.div_le_self _ _) hs
  have c1 := fun h W (hw : Tab W) => tz_code (s / 2 ^ min k 64) hql h W hw
  obtain ⟨b0, b1⟩ := wf_iff.1 wd
  generalize s / 2 ^ min k 64 = q at *
  have hqb : (q : Int) ≤ 18446744073709551615 := by omega
  have TT := Go.Lib.hid hT
  by_cases h0 : q = 0
  · have hz : ((q : Int) == 0) = true := by subst h0; rfl
    rw [n0 h0]
    clear n0 n1 hs hql c1 wd hT h0
    by_cases hd : d < 0
    · obtain rfl : k = 0 := by omega
      obtain rfl : q = s := by
        have : (s : Int) = (q : Int) := by simpa using hq
        omega
      clear hq
      go_enter Tryz.func123, Tryz.ntmps123
      go_wp2
      go_ret
      exact ⟨rfl, Below.refl _ _⟩
    · obtain rfl : d = (k : Int) := by omega
      clear hk
      go_enter Tryz.func123, Tryz.ntmps123
      go_wp2
      go_ret
      exact ⟨rfl, Below.refl _ _⟩
  · have hz : ((q : Int) == 0) = false := by simp; omega
    obtain ⟨e, hl⟩ := n1 h0
    rw [e]
    have c2 := fun W hw => c1 h0 W hw
    clear n0 n1 hs hql c1 wd hT h0 e
    generalize Go.Lib.ctz 64 q = c at *
    by_cases hd : d < 0
    · obtain rfl : k = 0 := by omega
      obtain rfl : q = s := by
        have : (s : Int) = (q : Int) := by simpa using hq
        omega
      clear hq
      go_enter Tryz.func123, Tryz.ntmps123
      go_wp2_with (go_at_call 126; refine (c2 _ TT.out).mono ?_; rintro e x1 ⟨rfl, rfl⟩)
      go_ret
      exact ⟨by show Ending.returned (Value.int .i64 (c : Int)) = _; congr 2; omega, Below.refl _ _⟩
    · obtain rfl : d = (k : Int) := by omega
      clear hk
      have hq2 := hq
      rw [show min k 64 = k by omega] at hq2
      go_enter Tryz.func123, Tryz.ntmps123
      go_wp2_with (go_at_call 126; refine (c2 _ TT.out).mono ?_; rintro e x1 ⟨rfl, rfl⟩)
      go_ret
      exact ⟨rfl, Below.refl _ _⟩
end Go.Proofs.YtliomhkgkabbbaaGreatDoor
end
