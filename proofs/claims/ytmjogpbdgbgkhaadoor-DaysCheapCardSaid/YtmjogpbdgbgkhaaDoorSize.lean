/- Which of two rows of digits is greater. -/
import Derived.Test.YtmjogpbdgbgkhaaDoorMem
import Derived.Deep.QuietTactic
import Derived.BigQuiet
import Derived.WalkSmall
namespace Go.Proofs.YtmjogpbdgbgkhaaDoor
open Go.RowKit
set_option linter.unusedVariables false

theorem cmp_lt {x y : Int} (h : x < y) : -1 = cmpV x y := by unfold cmpV; rw [if_pos h]
theorem cmp_gt {x y : Int} (h : y < x) : 1 = cmpV x y := by unfold cmpV; rw [if_neg (by omega), if_pos h]
theorem cmp_eq {x y : Int} (h : x = y) : 0 = cmpV x y := by unfold cmpV; rw [if_neg (by omega), if_neg (by omega)]

/-- How far the loop of size has come: k are left. -/
def SizeAt (xs ys : List Int) (k : Nat) (i : Value) : Prop := val (xs.drop k) = val (ys.drop k) ∧ ((k = 0 ∧ i = .int .i64 (-1)) ∨ ∃ j : Nat, k = j + 1 ∧ i = .int .i64 j)
theorem SizeAt.next {xs ys : List Int} {j : Nat} (h : val (xs.drop (j + 1)) = val (ys.drop (j + 1))) (he : xs.getD j 0 = ys.getD j 0) : SizeAt xs ys j (.int .i64 ((j : Int) - 1)) := by
  refine ⟨by rw [drop_succ', drop_succ' ys, h, he], ?_⟩
  rcases j with _ | j
  · exact .inl ⟨rfl, rfl⟩
  · exact .inr ⟨j, rfl, by congr 1; omega⟩
theorem SizeAt.start {xs ys : List Int} {n : Nat} (h : xs.length = n) (h' : ys.length = n) : SizeAt xs ys n (.int .i64 ((n : Int) - 1)) := by
  refine ⟨by rw [List.drop_of_length_le (by omega), List.drop_of_length_le (by omega)], ?_⟩
  rcases n with _ | j
  · exact .inl ⟨rfl, rfl⟩
  · exact .inr ⟨j, rfl, by congr 1; omega⟩

set_option maxHeartbeats 1000000 in
theorem dsize_apart (A B : Option Addr) (n m c d : Nat) (xs ys : List Int) (w : World) (lx : xs.length = n) (ly : ys.length = m) (dx : Dig xs) (dy : Dig ys) (nx : Norm xs) (ny : Norm ys) (hn : n ≤ 1000) (hm : m ≤ 1000) (hne : n ≠ m) :
    Calls Tryd.prog 46 #[.slice A n c, .slice B m d] w fun e w' => e = .returned (.int .i64 (cmpV (val xs) (val ys))) ∧ Below w.heap.size w w' := by
  by_cases h : n < m
  · have C := cmp_lt (cmp_short dx dy ny (by omega))
    rw [← C]
    clear C dx dy nx ny lx ly
    go_enter Tryd.func46, Tryd.ntmps46
    go_wp2
    go_ret
    exact ⟨rfl, Below.refl _ _⟩
  · have C := cmp_gt (cmp_short dy dx nx (by omega))
    rw [← C]
    clear C dx dy nx ny lx ly
    go_enter Tryd.func46, Tryd.ntmps46
    go_wp2
    go_ret
    exact ⟨rfl, Below.refl _ _⟩

set_option maxHeartbeats 1000000 in
theorem dsize_even (A B : Option Addr) (n c d : Nat) (xs ys : List Int) (w : World) (ha : Ints w A n xs) (hb : Ints w B n ys) (dx : Dig xs) (dy : Dig ys) (hn : n ≤ 1000) :
    Calls Tryd.prog 46 #[.slice A n c, .slice B n d] w fun e w' => e = .returned (.int .i64 (cmpV (val xs) (val ys))) ∧ Below w.heap.size w w' := by
  have HA := Go.Lib.hid ha
  have HB := Go.Lib.hid hb
  have DX := Go.Lib.hid dx
  have DY := Go.Lib.hid dy
  clear ha hb dx dy
  go_enter Tryd.func46, Tryd.ntmps46
  go_wp2
  go_loopw [5] (fun i wr => ∃ k : Nat, k ≤ n ∧ SizeAt xs ys k i ∧ Below w.heap.size w wr) (fun i _ => (intOf i + 1).toNat)
  case atStart => exact ⟨n, Nat.le_refl _, SizeAt.start HA.out.1 HB.out.1, Below.refl _ _⟩
  case round =>
    obtain ⟨k, hk, ⟨he, hi⟩, hbl⟩ := hrel
    rcases hi with ⟨rfl, rfl⟩ | ⟨j, rfl, rfl⟩
    · have E := Go.Lib.hid he
      clear he
      go_wp2
      go_ret
      exact ⟨ret_int (cmp_eq (by simpa using E.out)), hbl⟩
    · obtain ⟨x, hx⟩ : ∃ x, xs.getD j 0 = x := ⟨_, rfl⟩
      obtain ⟨y, hy⟩ : ∃ y, ys.getD j 0 = y := ⟨_, rfl⟩
      obtain ⟨b1, o1, rfl, hcx⟩ := (HA.out.keep hbl).2 (by omega)
      obtain ⟨b2, o2, rfl, hcy⟩ := (HB.out.keep hbl).2 (by omega)
      have hcx1 := hcx j (by omega)
      have hcy1 := hcy j (by omega)
      rw [hx] at hcx1
      rw [hy] at hcy1
      have E := Go.Lib.hid he
      have HX := Go.Lib.hid hx
      have HY := Go.Lib.hid hy
      clear hcx hcy he hx hy
      have j0 : (0 : Int) ≤ (j : Int) := Int.natCast_nonneg _
      have j1 : (j : Int) < (n : Int) := by omega
      by_cases hlt : x < y
      · go_wp2
        go_quiet (fail)
        go_wp2
        go_ret
        exact ⟨ret_int (cmp_lt (cmp_at DX.out DY.out E.out (by rw [HA.out.1, HB.out.1]) (by rw [HA.out.1]; omega) (by rw [HX.out, HY.out]; exact hlt))), below_drewN hbl _⟩
      · by_cases hgt : y < x
        · go_wp2
          go_quiet (fail)
          go_wp2
          go_quiet (fail)
          go_wp2
          go_ret
          exact ⟨ret_int (cmp_gt (cmp_at DY.out DX.out E.out.symm (by rw [HA.out.1, HB.out.1]) (by rw [HB.out.1]; omega) (by rw [HX.out, HY.out]; exact hgt))), below_drewN (below_drewN hbl _) _⟩
        · go_wp2
          go_quiet (fail)
          go_wp2
          go_quiet (fail)
          go_wp2
          go_roundw
          case rel => exact ⟨j, by omega, SizeAt.next E.out (by rw [HX.out, HY.out]; omega), below_drewN hbl _⟩
          case measure => simp [intOf]

theorem dsize_any (A B : Option Addr) (n m c d : Nat) (xs ys : List Int) (w : World) (ha : Ints w A n xs) (hb : Ints w B m ys) (dx : Dig xs) (dy : Dig ys) (nx : Norm xs) (ny : Norm ys) (hn : n ≤ 1000) (hm : m ≤ 1000) :
    Calls Tryd.prog 46 #[.slice A n c, .slice B m d] w fun e w' => e = .returned (.int .i64 (cmpV (val xs) (val ys))) ∧ Below w.heap.size w w' := by
  by_cases h : n = m
  · subst h; exact dsize_even A B n c d xs ys w ha hb dx dy hn
  · exact dsize_apart A B n m c d xs ys w ha.1 hb.1 dx dy nx ny hn hm h
end Go.Proofs.YtmjogpbdgbgkhaaDoor
