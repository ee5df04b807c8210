/- The document's Same, for two slices of numbers. -/
import Derived.Test.YtmfahjghfpckeaaDoorCore
import Derived.Deep.QuietTactic
namespace Go.Proofs.YtmfahjghfpckeaaDoor.SameI
open Go.RowKit
set_option linter.unusedVariables false
theorem below_drewN {B : Nat} {a w : World} (h : Below B a w) (n : Nat) : Below B a (w.drewN n) := ⟨h.os, h.tape, h.output, h.size, h.block⟩
theorem eq_take_succ {xs ys : List Int} {k : Nat} (h : xs.take k = ys.take k) (hk : k < xs.length) (hk' : k < ys.length) (he : xs.getD k 0 = ys.getD k 0) : xs.take (k + 1) = ys.take (k + 1) := by
  rw [List.getD_eq_getElem?_getD, List.getD_eq_getElem?_getD, List.getElem?_eq_getElem hk, List.getElem?_eq_getElem hk'] at he
  have he' : xs[k] = ys[k] := by simpa using he
  rw [List.take_succ_eq_append_getElem hk, List.take_succ_eq_append_getElem hk', h, he']

set_option maxHeartbeats 1000000 in
theorem same_ref (A C : Option Addr) (n m c d : Nat) (xs ys : List Int) (w : World) (ha : Ints w A n xs) (hb : Ints w C m ys) (hn : n ≤ maxLen) (hm : m ≤ maxLen) :
    Calls Tryd.prog 43 #[.slice A n c, .slice C m d] w fun e w' => e = .returned (.bool (decide (xs = ys))) ∧ Below w.heap.size w w' := by
  unfold maxLen at hn hm
  by_cases hnm : n = m
  · subst hnm
    have HA := Go.Lib.hid ha
    have HC := Go.Lib.hid hb
    clear ha hb
    go_enter Tryd.func43, Tryd.ntmps43
    go_wp2
    go_loopw [5] (fun iv wr => ∃ k : Nat, k ≤ n ∧ iv = .int .i64 k ∧ xs.take k = ys.take k ∧ Below w.heap.size w wr) (fun iv _ => n - (intOf iv).toNat)
    case atStart => exact ⟨0, Nat.zero_le _, rfl, by simp, Below.refl _ _⟩
    case round =>
      obtain ⟨k, hk, rfl, he, B⟩ := hrel
      have HE := Go.Lib.hid he
      clear he
      by_cases hlt : k < n
      · obtain ⟨x, hx⟩ : ∃ x, xs.getD k 0 = x := ⟨_, rfl⟩
        obtain ⟨y, hy⟩ : ∃ y, ys.getD k 0 = y := ⟨_, rfl⟩
        obtain ⟨b1, o1, rfl, h1⟩ := (HA.out.keep B).2 (by omega)
        obtain ⟨b2, o2, rfl, h2⟩ := (HC.out.keep B).2 (by omega)
        have e1 := h1 k hlt
        have e2 := h2 k hlt
        rw [hx] at e1
        rw [hy] at e2
        have HX := Go.Lib.hid hx
        have HY := Go.Lib.hid hy
        have k0 : (0 : Int) ≤ (k : Int) := Int.natCast_nonneg _
        have k1 : (k : Int) < (n : Int) := by omega
        clear h1 h2 hx hy
        by_cases hxy : x = y
        · subst hxy
          go_wp2
          go_quiet (fail)
          go_wp2
          go_roundw
          case rel => exact ⟨k + 1, by omega, by go_num, eq_take_succ HE.out (by rw [HA.out.1]; exact hlt) (by rw [HC.out.1]; exact hlt) (by rw [HX.out, HY.out]), below_drewN B _⟩
          case measure => simp [intOf]; omega
        · have hb2 : (x == y) = false := beq_eq_false_iff_ne.2 hxy
          have HN := Go.Lib.hid hxy
          clear hxy
          go_wp2
          go_quiet (fail)
          go_wp2
          go_ret
          refine ⟨ret_bool (decide_eq_false ?_).symm, below_drewN B _⟩
          rintro rfl
          exact HN.out (HX.out.symm.trans HY.out)
      · go_wp2
        go_ret
        refine ⟨ret_bool (decide_eq_true ?_).symm, B⟩
        have := HE.out
        rwa [List.take_of_length_le (by rw [HA.out.1]; omega), List.take_of_length_le (by rw [HC.out.1]; omega)] at this
  · have e : decide (xs = ys) = false := decide_eq_false (by rintro rfl; exact hnm (ha.1.symm.trans hb.1))
    have hne : ((n : Int) == (m : Int)) = false := beq_eq_false_iff_ne.2 (by omega)
    rw [e]
    clear ha hb e
    go_enter Tryd.func43, Tryd.ntmps43
    go_wp2
    go_ret
    exact ⟨rfl, Below.refl _ _⟩

end Go.Proofs.YtmfahjghfpckeaaDoor.SameI
