/- A row of digits without noughts at its end. -/
import Derived.Test.YtmjogpbdgbgkhaaDoorCore
import Derived.Test.YtmjogpbdgbgkhaaDoorDig
namespace Go.Proofs.YtmjogpbdgbgkhaaDoor
open Go.RowKit
set_option linter.unusedVariables false

/-- The number of its digits, with its sign. -/
def sg (b : Bool) (n : Int) : Int := if b then -n else n
/-- A number of the document's kind: its digits, normed, and its sign. -/
def Bg (w : World) (L : Nat) (v : Value) (z : Int) : Prop :=
  ∃ A n c xs neg, v = .agg #[.slice A n c, .bool neg] ∧ Ints w A n xs ∧ Dig xs ∧ Norm xs ∧ (xs = [] → neg = false) ∧ z = sg neg (val xs) ∧ n ≤ L ∧ n ≤ c

theorem Bg.keep {w w' : World} {L : Nat} {v : Value} {z : Int} (h : Bg w L v z) (hb : Below w.heap.size w w') : Bg w' L v z := by
  obtain ⟨A, n, c, xs, neg, h1, h2, h3⟩ := h
  exact ⟨A, n, c, xs, neg, h1, h2.keep hb, h3⟩
theorem Bg.more {w : World} {L L' : Nat} {v : Value} {z : Int} (h : Bg w L v z) (hl : L ≤ L') : Bg w L' v z := by
  obtain ⟨A, n, c, xs, neg, h1, h2, h3, h4, h5, h6, h7, h8⟩ := h
  exact ⟨A, n, c, xs, neg, h1, h2, h3, h4, h5, h6, by omega, h8⟩
/-- Its digits are no more than it wants. -/
theorem Bg.tight {w : World} {L k : Nat} {v : Value} {z : Int} (h : Bg w L v z) (h0 : -(65536 ^ k) < z) (h1 : z < 65536 ^ k) : Bg w k v z := by
  obtain ⟨A, n, c, xs, neg, e, hi, hd, hn, hz, hv, hl, hc⟩ := h
  refine ⟨A, n, c, xs, neg, e, hi, hd, hn, hz, hv, ?_, hc⟩
  rw [← hi.1]
  refine norm_len hd hn ?_
  unfold sg at hv
  split at hv <;> omega
theorem trim_end {w' : World} {A : Option Addr} {n k c : Nat} {xs : List Int} {neg : Bool} (ha : Ints w' A n xs) (dx : Dig xs) (hk : k ≤ n) (hv : val (xs.take k) = val xs) (hx : 1 ≤ xs.getD (k - 1) 0) (h0 : 0 < k) (hc : k ≤ c) :
    Bg w' n (.agg #[.slice A k c, .bool neg]) (sg neg (val xs)) := by
  refine ⟨A, k, c, xs.take k, neg, rfl, ha.cut hk, dx.take k, .inr ?_, ?_, by rw [hv], hk, hc⟩
  · rw [List.length_take_of_le (by rw [ha.1]; exact hk), List.getD_eq_getElem?_getD, List.getElem?_take_of_lt (by omega), ← List.getD_eq_getElem?_getD]
    exact hx
  · intro e
    have := congrArg List.length e
    rw [List.length_take_of_le (by rw [ha.1]; exact hk)] at this
    simp at this
    omega
theorem trim_none {w' : World} {A : Option Addr} {n c : Nat} {xs : List Int} {neg : Bool} (hv : val (xs.take 0) = val xs) :
    Bg w' n (.agg #[.slice A 0 c, .bool false]) (sg neg (val xs)) := by
  refine ⟨A, 0, c, [], false, rfl, Ints.nil _ _, Dig.nil, .inl rfl, fun _ => rfl, ?_, Nat.zero_le _, Nat.zero_le _⟩
  rw [← hv]
  simp only [List.take_zero, val, sg]
  cases neg <;> rfl

set_option maxHeartbeats 1000000 in
theorem trim_any (A : Option Addr) (n c : Nat) (xs : List Int) (neg : Bool) (w : World) (ha : Ints w A n xs) (dx : Dig xs) (hn : n ≤ 2100) (hc : n ≤ c) :
    Calls Tryd.prog 47 #[.agg #[.slice A n c, .bool neg]] w fun e w' => ∃ v, e = .returned v ∧ Bg w' n v (sg neg (val xs)) ∧ Below w.heap.size w w' := by
  have HA := Go.Lib.hid ha
  have DX := Go.Lib.hid dx
  clear ha dx
  go_enter Tryd.func47, Tryd.ntmps47
  go_wp2
  go_loopw [3] (fun _ wr => ∃ k : Nat, k ≤ n ∧ val (xs.take k) = val xs ∧
      wr = (w.alloc (.cells #[.slice A k c, .bool neg] 66)).alloc (.cells #[.slice none 0 0, .bool false] 66)) (fun _ wr => lenAt (wr.cell? ⟨w.heap.size, 0, none⟩))
  case atStart => exact ⟨n, Nat.le_refl _, by rw [List.take_of_length_le (by rw [HA.out.1]; exact Nat.le_refl _)], rfl⟩
  case round =>
    obtain ⟨k, hk, hv, rfl⟩ := hrel
    have HV := Go.Lib.hid hv
    clear hv
    have hb2 : ∀ o o', Below w.heap.size w ((w.alloc o).alloc o') := fun o o' => ((Below.refl _ _).alloc (Nat.le_refl _) o).alloc (by simp) o'
    rcases k with _ | j
    · have HB := Go.Lib.hid hb2
      clear hb2
      go_wp2
      go_returns
      exact ⟨_, rfl, trim_none HV.out, HB.out _ _⟩
    · obtain ⟨x, hx⟩ : ∃ x, xs.getD j 0 = x := ⟨_, rfl⟩
      have hxb := DX.out.getD j
      rw [hx] at hxb
      obtain ⟨x0, x1⟩ := hxb
      obtain ⟨b, off, rfl, hcs⟩ := (HA.out.keep (hb2 (.cells #[.slice A (j + 1) c, .bool neg] 66) (.cells #[.slice none 0 0, .bool false] 66))).2 (by omega)
      have hcj := hcs j (by omega)
      rw [hx] at hcj
      have HX := Go.Lib.hid hx
      have HB := Go.Lib.hid hb2
      clear hb2 hcs hx
      by_cases hz : x = 0
      · subst hz
        go_wp2
        go_roundw
        case rel => exact ⟨j, by omega, by rw [← HV.out, take_succ', HX.out]; omega, rfl⟩
        case measure => simp [lenAt, go_sem]
      · have hz' : (x == 0) = false := beq_eq_false_iff_ne.2 hz
        have h1 : 1 ≤ x := by omega
        clear hz
        go_wp2
        go_returns
        exact ⟨_, rfl, trim_end (HA.out.keep (HB.out _ _)) DX.out hk HV.out (by rw [Nat.add_sub_cancel, HX.out]; exact h1) (by omega) (by omega), HB.out _ _⟩
end Go.Proofs.YtmjogpbdgbgkhaaDoor
