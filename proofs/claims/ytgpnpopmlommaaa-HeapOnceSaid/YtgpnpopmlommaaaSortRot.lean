/- Go's swapRange and rotate, walked. -/
import Derived.Test.YtgpnpopmlommaaaSortIns
namespace Go.Proofs.Ytgpnpopmlommaaa
open Go.RowKit
set_option linter.unusedVariables false
section
variable {w : World} {D C bx : Nat} {A : Option Addr} {n c : Nat} {xs : List Int} {d : Nat → Int} {a b m : Nat}
def RangeRel (w : World) (D C bx : Nat) (A : Option Addr) (n c : Nat) (xs : List Int) (d : Nat → Int) (a b m : Nat) (i : Value) (wr : World) : Prop :=
  ∃ k : Nat, i = .int .i64 k ∧ k ≤ m ∧ SortIs wr D C bx A n c xs (swR d a b k) ∧ Only [D] w wr
def SetTo (w : World) (D C bx : Nat) (A : Option Addr) (n c : Nat) (xs : List Int) (e : Nat → Int) (w' : World) : Prop := SortIs w' D C bx A n c xs e ∧ Only [D] w w'
set_option maxHeartbeats 4000000 in
theorem range_any (h : SortIs w D C bx A n c xs d) (hab : a + m ≤ b) (hb : b + m ≤ n) :
    Calls Try.prog 48 #[.slice (some ⟨D, 0, none⟩) n C, .int .i64 a, .int .i64 b, .int .i64 m, cmpV bx] w fun e w' => e = .returned (.tuple #[]) ∧ SetTo w D C bx A n c xs (swR d a b m) w' := by
  have hn := h.small
  have H0 : RangeRel w D C bx A n c xs d a b m (.int .i64 0) w := ⟨0, rfl, Nat.zero_le _, by rw [swR_zero]; exact h, Only.refl _ _⟩
  clear h
  unfold cmpV
  go_enter Try.func48, Try.ntmps48
  go_wp2
  go_loopw [10] (fun i wr => RangeRel w D C bx A n c xs d a b m i wr) (fun i _ => m - (intOf i).toNat)
  case atStart => exact H0
  case round =>
    clear H0
    obtain ⟨k, rfl, hk, hS, hO⟩ := hrel
    by_cases hlt : k < m
    · obtain ⟨p, hp⟩ : ∃ p, p = a + k := ⟨_, rfl⟩
      obtain ⟨q, hq⟩ : ∃ q, q = b + k := ⟨_, rfl⟩
      have e1 : (a : Int) + (k : Int) = (p : Int) := by omega
      have e2 : (b : Int) + (k : Int) = (q : Int) := by omega
      have l0 : (k : Int) < (m : Int) := by omega
      have l1 : (p : Int) < (n : Int) := by omega
      have l2 : (q : Int) < (n : Int) := by omega
      have c1 := hS.data.cell (k := p) (by omega)
      have c2 := hS.data.cell (k := q) (by omega)
      have f1 := hS.data.free p
      have f2 := hS.data.free q
      obtain ⟨x, hx⟩ : ∃ x, x = swR d a b k p := ⟨_, rfl⟩
      obtain ⟨y, hy⟩ : ∃ y, y = swR d a b k q := ⟨_, rfl⟩
      rw [← hx] at c1
      rw [← hy] at c2
      have HR : Hid (RangeRel w D C bx A n c xs d a b m (.int .i64 ((k : Int) + 1)) (((wr.setCell ⟨D, p, none⟩ (.int .i64 y)).setCell ⟨D, q, none⟩ (.int .i64 x)).drew)) := by
        have h1 := hS.swap (i := p) (j := q) (by omega) (by omega) hx hy
        rw [hp, hq, swR_succ d (by omega)] at h1
        refine Lib.hid ⟨k + 1, by go_num, by omega, ?_, hO.trans' (two_only _ _ _ _ _ _)⟩
        rw [hp, hq]; exact h1
      have hpq : ¬ p = q := by omega
      have hqp : ¬ q = p := by omega
      clear hp hq hx hy hS hO
      go_wp2
      go_region
      go_wp2
      go_roundw
      case rel => exact HR.out
      case measure => simp [intOf]; omega
    · have hkm : k = m := by omega
      have l0 : (m : Int) ≤ (k : Int) := by omega
      have HE : SetTo w D C bx A n c xs (swR d a b m) wr := by rw [← hkm]; exact ⟨hS, hO⟩
      clear hS hO hkm
      go_wp2
      go_end0
      exact ⟨rfl, HE⟩
def RotRel (w : World) (D C bx : Nat) (A : Option Addr) (n c : Nat) (xs : List Int) (t : Nat → Int) (a m b : Nat) (i j : Value) (wr : World) : Prop :=
  ∃ (p q : Nat) (e : Nat → Int), i = .int .i64 p ∧ j = .int .i64 q ∧ 0 < p ∧ 0 < q ∧ a + p ≤ m ∧ m + q ≤ b ∧ rot e (m - p) m (m + q) = t ∧ SortIs wr D C bx A n c xs e ∧ Only [D] w wr
set_option maxHeartbeats 4000000 in
theorem rotate_any (h : SortIs w D C bx A n c xs d) (ham : a < m) (hmb : m < b) (hb : b ≤ n) :
    Calls Try.prog 47 #[.slice (some ⟨D, 0, none⟩) n C, .int .i64 a, .int .i64 m, .int .i64 b, cmpV bx] w fun e w' => e = .returned (.tuple #[]) ∧ SetTo w D C bx A n c xs (rot d a m b) w' := by
  have hn := h.small
  obtain ⟨i0, hi0⟩ : ∃ i0, i0 = m - a := ⟨_, rfl⟩
  obtain ⟨j0, hj0⟩ : ∃ j0, j0 = b - m := ⟨_, rfl⟩
  have e1 : (m : Int) - (a : Int) = (i0 : Int) := by omega
  have e2 : (b : Int) - (m : Int) = (j0 : Int) := by omega
  have H0 : RotRel w D C bx A n c xs (rot d a m b) a m b (.int .i64 i0) (.int .i64 j0) w := by
    refine ⟨i0, j0, d, rfl, rfl, by omega, by omega, by omega, by omega, ?_, h, Only.refl _ _⟩
    have g1 : m - i0 = a := by omega
    have g2 : m + j0 = b := by omega
    rw [g1, g2]
  obtain ⟨t, ht⟩ : ∃ t, t = rot d a m b := ⟨_, rfl⟩
  rw [← ht] at H0 ⊢
  clear h hi0 hj0 ht
  unfold cmpV
  go_enter Try.func47, Try.ntmps47
  go_wp2
  clear e1 e2
  go_loopw [10, 11] (fun i j wr => RotRel w D C bx A n c xs t a m b i j wr) (fun i j _ => (intOf i).toNat + (intOf j).toNat)
  case atStart => exact H0
  case round =>
    clear H0
    obtain ⟨p, q, e, rfl, rfl, hp, hq, hpm, hqb, he, hS, hO⟩ := hrel
    obtain ⟨s, hs⟩ : ∃ s, s = m - p := ⟨_, rfl⟩
    have e1 : (m : Int) - (p : Int) = (s : Int) := by omega
    rcases Nat.lt_trichotomy p q with hlt | heq | hgt
    · obtain ⟨u, hu⟩ : ∃ u, u = m + q - p := ⟨_, rfl⟩
      have e2 : (m : Int) + (q : Int) - (p : Int) = (u : Int) := by omega
      obtain ⟨v, hv⟩ : ∃ v, v = q - p := ⟨_, rfl⟩
      have e3 : (q : Int) - (p : Int) = (v : Int) := by omega
      have t1 : ((p : Int) != (q : Int)) = true := by simp; omega
      have t2 : decide ((q : Int) < (p : Int)) = false := by simp; omega
      have HS : Hid (Calls Try.prog 48 #[.slice (some ⟨D, 0, none⟩) n C, .int .i64 s, .int .i64 u, .int .i64 p, cmpV bx] wr fun e w' => e = .returned (.tuple #[]) ∧ RotRel w D C bx A n c xs t a m b (.int .i64 p) (.int .i64 v) w') := by
        refine Lib.hid ((range_any hS (a := s) (b := u) (m := p) (by omega) (by omega)).mono ?_)
        rintro e' w' ⟨rfl, g1, g2⟩
        refine ⟨rfl, p, v, _, rfl, rfl, hp, by omega, hpm, by omega, ?_, g1, hO.trans' g2⟩
        rw [hs, hu, hv, rot_right (by omega) hlt hp]; exact he
      unfold cmpV at HS
      clear hs hu hv hS hO he
      go_wp2_with (go_at_call 48; refine HS.out.mono ?_; rintro e' w2 ⟨rfl, hR⟩)
      go_roundw
      case rel => exact hR
      case measure => simp [intOf]; omega
    · subst heq
      have HS : Hid (Calls Try.prog 48 #[.slice (some ⟨D, 0, none⟩) n C, .int .i64 s, .int .i64 m, .int .i64 p, cmpV bx] wr fun e w' => e = .returned (.tuple #[]) ∧ SetTo w D C bx A n c xs t w') := by
        refine Lib.hid ((range_any hS (a := s) (b := m) (m := p) (by omega) (by omega)).mono ?_)
        rintro e' w' ⟨rfl, g1, g2⟩
        rw [hs, rot_same (by omega), he] at g1
        exact ⟨rfl, g1, hO.trans' g2⟩
      unfold cmpV at HS
      clear hs hS hO he
      go_wp2_with (go_at_call 48; refine HS.out.mono ?_; rintro e' w2 ⟨rfl, hR⟩)
      go_end0
      exact ⟨rfl, hR⟩
    · obtain ⟨v, hv⟩ : ∃ v, v = p - q := ⟨_, rfl⟩
      have e3 : (p : Int) - (q : Int) = (v : Int) := by omega
      have t1 : ((p : Int) != (q : Int)) = true := by simp; omega
      have t2 : (q : Int) < (p : Int) := by omega
      have HS : Hid (Calls Try.prog 48 #[.slice (some ⟨D, 0, none⟩) n C, .int .i64 s, .int .i64 m, .int .i64 q, cmpV bx] wr fun e w' => e = .returned (.tuple #[]) ∧ RotRel w D C bx A n c xs t a m b (.int .i64 v) (.int .i64 q) w') := by
        refine Lib.hid ((range_any hS (a := s) (b := m) (m := q) (by omega) (by omega)).mono ?_)
        rintro e' w' ⟨rfl, g1, g2⟩
        refine ⟨rfl, v, q, _, rfl, rfl, by omega, hq, by omega, hqb, ?_, g1, hO.trans' g2⟩
        rw [hs, hv, rot_left (by omega) hgt hq]; exact he
      unfold cmpV at HS
      clear hs hv hS hO he
      go_wp2_with (go_at_call 48; refine HS.out.mono ?_; rintro e' w2 ⟨rfl, hR⟩)
      go_roundw
      case rel => exact hR
      case measure => simp [intOf]; omega
end
end Go.Proofs.Ytgpnpopmlommaaa
