/- Slices of numbers in memory: what they read as, how that is kept, and what append leaves; and the sum and difference of two rows of digits. -/
import Derived.Test.YtmjogpbdgbgkhaaDoorCore
import Derived.Test.YtmjogpbdgbgkhaaDoorDig
import Derived.Deep.AppendLies
namespace Go.Proofs.YtmjogpbdgbgkhaaDoor
open Go.RowKit
set_option linter.unusedVariables false

/-- The loop's relation in plus. -/
def PlusRel (w wr : World) (n m : Nat) (xs ys : List Int) (v : Value) (c : Int) (k : Nat) (zs : List Int) : Prop :=
  wr.ownsRow w.heap.size 3 1 v k (zs.map (Value.int .i64)) ∧ Below w.heap.size w wr ∧ Dig zs ∧ val zs + 65536 ^ k * c = val (xs.take k) + val (ys.take k) ∧
    0 ≤ c ∧ c ≤ 1 ∧ k ≤ max n m + 1 ∧ (k = max n m + 1 → c = 0)

theorem PlusRel.step {w wr w1 : World} {n m : Nat} {xs ys : List Int} {v v' : Value} {c : Int} {k : Nat} {zs : List Int} (h : PlusRel w wr n m xs ys v c k zs) (hx : Dig xs) (hy : Dig ys)
    (lx : xs.length = n) (ly : ys.length = m) (s : Int) (hs : s = c + xs.getD k 0 + ys.getD k 0) (hk : k < max n m + 1)
    (hown : w1.ownsRow w.heap.size 3 1 v' (k + 1) (zs.map (Value.int .i64) ++ [.int .i64 (s % 65536)])) (hg : (wr.alloc (.cells #[.int .i64 (s % 65536)] 3)).grownBy w1 v.ownBlock) :
    PlusRel w w1 n m xs ys v' (s / 65536) (k + 1) (zs ++ [s % 65536]) := by
  obtain ⟨h1, h2, h3, h4, h5, h6, h7, h8⟩ := h
  have dx := hx.getD k
  have dy := hy.getD k
  have hl : zs.length = k := by simpa using h1.1
  refine ⟨by simpa using hown, (h2.alloc h2.size _).grown hg (by have := h2.size; simp; omega) (own_ge h1), h3.snoc (by omega) (by omega), ?_, by omega, by omega, by omega, ?_⟩
  · rw [val_snoc, hl, take_succ', take_succ', Int.pow_succ]
    exact carry_step h4 hs
  · intro e
    rw [List.getD_eq_getElem?_getD, List.getElem?_eq_none (by omega)] at hs
    rw [List.getD_eq_getElem?_getD, List.getElem?_eq_none (by omega)] at hs
    simp at hs
    omega
theorem PlusRel.fin {w wr : World} {n m : Nat} {xs ys : List Int} {v : Value} {c : Int} {k : Nat} {zs : List Int} (h : PlusRel w wr n m xs ys v c k zs)
    (lx : xs.length = n) (ly : ys.length = m) (hn : n ≤ k) (hm : m ≤ k) (hc : c ≤ 0) :
    ∃ A cp, v = .slice A k cp ∧ Ints wr A k zs ∧ Dig zs ∧ val zs = val xs + val ys ∧ k ≤ max n m + 1 ∧ Below w.heap.size w wr ∧ k ≤ cp := by
  obtain ⟨h1, h2, h3, h4, h5, h6, h7, h8⟩ := h
  obtain ⟨A, cp, rfl, hcp⟩ := own_form h1
  obtain rfl : c = 0 := by omega
  rw [List.take_of_length_le (by omega), List.take_of_length_le (by omega), Int.mul_zero, Int.add_zero] at h4
  exact ⟨A, cp, rfl, Ints.of_own h1, h3, h4, h7, h2, hcp⟩

/-- A row of digits comes back. -/
def RowEnd (w : World) (V : Int) (L : Nat) (e : Ending) (w' : World) : Prop :=
  ∃ A n c zs, e = .returned (.slice A n c) ∧ Ints w' A n zs ∧ Dig zs ∧ val zs = V ∧ n ≤ L ∧ Below w.heap.size w w' ∧ n ≤ c

set_option maxHeartbeats 2000000 in
theorem plus_any (A B : Option Addr) (n m c d : Nat) (xs ys : List Int) (w : World) (ha : Ints w A n xs) (hb : Ints w B m ys) (dx : Dig xs) (dy : Dig ys) (hn : n ≤ 1000) (hm : m ≤ 1000) :
    Calls Tryd.prog 48 #[.slice A n c, .slice B m d] w (RowEnd w (val xs + val ys) (max n m + 1)) := by
  obtain ⟨i0, hi, hz0, hz1, hz2⟩ := info_parts info_int
  have HA := Go.Lib.hid ha
  have HB := Go.Lib.hid hb
  have DX := Go.Lib.hid dx
  have DY := Go.Lib.hid dy
  clear ha hb dx dy
  go_enter Tryd.func48, Tryd.ntmps48
  go_wp2
  go_loopw [5, 6, 7] (fun v cv i wr => ∃ (k : Nat) (c : Int) (zs : List Int), i = .int .i64 k ∧ cv = .int .i64 c ∧ PlusRel w wr n m xs ys v c k zs) (fun _ _ i _ => max n m + 1 - (intOf i).toNat)
  case atStart => exact ⟨0, 0, [], rfl, rfl, World.ownsRow_nil _ _ _ _, Below.refl _ _, Dig.nil, by simp [val], by omega, by omega, by omega, by omega⟩
  case round =>
    obtain ⟨k, cc, zs, rfl, rfl, hrel⟩ := hrel
    have c0 := hrel.2.2.2.2.1
    have c1 := hrel.2.2.2.2.2.1
    have k1 := hrel.2.2.2.2.2.2.1
    have hbl := hrel.2.1
    have hbz := hbl.size
    have hown := hrel.1
    have RR := Go.Lib.hid hrel
    obtain ⟨x, hx⟩ : ∃ x, xs.getD k 0 = x := ⟨_, rfl⟩
    obtain ⟨y, hy⟩ : ∃ y, ys.getD k 0 = y := ⟨_, rfl⟩
    have dx := DX.out.getD k
    have dy := DY.out.getD k
    rw [hx] at dx
    rw [hy] at dy
    obtain ⟨x0, x1⟩ := dx
    obtain ⟨y0, y1⟩ := dy
    have hxa : k < n → ∃ b off, A = some ⟨b, off, none⟩ ∧ wr.cell? ⟨b, off + k, none⟩ = some (.int .i64 x) := by
      intro hk
      obtain ⟨b, off, e, hc⟩ := (HA.out.keep hbl).2 (by omega)
      exact ⟨b, off, e, hx ▸ hc k hk⟩
    have hya : k < m → ∃ b off, B = some ⟨b, off, none⟩ ∧ wr.cell? ⟨b, off + k, none⟩ = some (.int .i64 y) := by
      intro hk
      obtain ⟨b, off, e, hc⟩ := (HB.out.keep hbl).2 (by omega)
      exact ⟨b, off, e, hy ▸ hc k hk⟩
    have HX := Go.Lib.hid hx
    have HY := Go.Lib.hid hy
    have HX0 : n ≤ k → x = 0 := by
      intro h; rw [← hx, List.getD_eq_getElem?_getD, List.getElem?_eq_none (by have := HA.out.1; omega)]; rfl
    have HY0 : m ≤ k → y = 0 := by
      intro h; rw [← hy, List.getD_eq_getElem?_getD, List.getElem?_eq_none (by have := HB.out.1; omega)]; rfl
    clear hx hy hrel
    by_cases hkn : k < n <;> by_cases hkm : k < m
    · obtain ⟨b1, o1, rfl, hcx⟩ := hxa hkn
      obtain ⟨b2, o2, rfl, hcy⟩ := hya hkm
      clear hxa hya HX0 HY0
      go_wp2_with (at_builtin; refine wpList_append_own _ rfl _ _ 25 rfl w.heap.size 3 i0 (.int .i64 0) 1 8 Tryd.underlying25 hi hz0 hz1 hz2 rfl (by decide) _ _ _ rfl (hown.alloc _) ⟨wr.heap.size, 0, none⟩ 1 1 [.int .i64 ((cc + x + y) % 65536)] rfl rfl (one_cell _ _ _) (one_ok _) (by unfold maxLen; omega) (by omega) (by simp; omega) ?_)
      intro v' w1 hown' hgrow _
      have R := RR.out.step DX.out DY.out HA.out.1 HB.out.1 (cc + x + y) (by rw [HX.out, HY.out]) (by omega) hown' hgrow
      clear hown' hgrow hown hcx hcy hbl
      go_wp2
      go_roundw
      case rel => exact ⟨k + 1, _, _, by go_num, rfl, R⟩
      case measure => simp [intOf]; omega
    · obtain ⟨b1, o1, rfl, hcx⟩ := hxa hkn
      have HY1 := Go.Lib.hid (HY0 (by omega))
      clear HX0 HY0
      clear hxa hya
      go_wp2_with (at_builtin; refine wpList_append_own _ rfl _ _ 25 rfl w.heap.size 3 i0 (.int .i64 0) 1 8 Tryd.underlying25 hi hz0 hz1 hz2 rfl (by decide) _ _ _ rfl (hown.alloc _) ⟨wr.heap.size, 0, none⟩ 1 1 [.int .i64 ((cc + x) % 65536)] rfl rfl (one_cell _ _ _) (one_ok _) (by unfold maxLen; omega) (by omega) (by simp; omega) ?_)
      intro v' w1 hown' hgrow _
      have R := RR.out.step DX.out DY.out HA.out.1 HB.out.1 (cc + x) (by rw [HX.out, HY.out]; have := HY1.out; omega) (by omega) hown' hgrow
      clear hown' hgrow hown hcx hbl
      go_wp2
      go_roundw
      case rel => exact ⟨k + 1, _, _, by go_num, rfl, R⟩
      case measure => simp [intOf]; omega
    · obtain ⟨b2, o2, rfl, hcy⟩ := hya hkm
      have HX1 := Go.Lib.hid (HX0 (by omega))
      clear HX0 HY0
      clear hxa hya
      go_wp2_with (at_builtin; refine wpList_append_own _ rfl _ _ 25 rfl w.heap.size 3 i0 (.int .i64 0) 1 8 Tryd.underlying25 hi hz0 hz1 hz2 rfl (by decide) _ _ _ rfl (hown.alloc _) ⟨wr.heap.size, 0, none⟩ 1 1 [.int .i64 ((cc + y) % 65536)] rfl rfl (one_cell _ _ _) (one_ok _) (by unfold maxLen; omega) (by omega) (by simp; omega) ?_)
      intro v' w1 hown' hgrow _
      have R := RR.out.step DX.out DY.out HA.out.1 HB.out.1 (cc + y) (by rw [HX.out, HY.out]; have := HX1.out; omega) (by omega) hown' hgrow
      clear hown' hgrow hown hcy hbl
      go_wp2
      go_roundw
      case rel => exact ⟨k + 1, _, _, by go_num, rfl, R⟩
      case measure => simp [intOf]; omega
    · have HX1 := Go.Lib.hid (HX0 (by omega))
      have HY1 := Go.Lib.hid (HY0 (by omega))
      clear HX0 HY0
      by_cases hcc : 0 < cc
      · have hk9 : k < max n m + 1 := by have := RR.out.2.2.2.2.2.2.2; omega
        clear hxa hya
        go_wp2_with (at_builtin; refine wpList_append_own _ rfl _ _ 25 rfl w.heap.size 3 i0 (.int .i64 0) 1 8 Tryd.underlying25 hi hz0 hz1 hz2 rfl (by decide) _ _ _ rfl (hown.alloc _) ⟨wr.heap.size, 0, none⟩ 1 1 [.int .i64 ((cc) % 65536)] rfl rfl (one_cell _ _ _) (one_ok _) (by unfold maxLen; omega) (by omega) (by simp; omega) ?_)
        intro v' w1 hown' hgrow _
        have R := RR.out.step DX.out DY.out HA.out.1 HB.out.1 (cc) (by rw [HX.out, HY.out]; have := HX1.out; have := HY1.out; omega) (by omega) hown' hgrow
        clear hown' hgrow hown  hbl
        go_wp2
        go_roundw
        case rel => exact ⟨k + 1, _, _, by go_num, rfl, R⟩
        case measure => simp [intOf]; omega
      · clear hxa hya hown hbl
        go_wp2
        go_ret
        obtain ⟨C, cp, rfl, f1, f2, f3, f4, f5, f6⟩ := RR.out.fin HA.out.1 HB.out.1 (by omega) (by omega) (by omega)
        exact ⟨C, k, cp, zs, rfl, f1, f2, f3, f4, f5, f6⟩
end Go.Proofs.YtmjogpbdgbgkhaaDoor
