/- The difference of two rows of digits. -/
import Derived.Test.YtmjogpbdgbgkhaaDoorMem
namespace Go.Proofs.YtmjogpbdgbgkhaaDoor
open Go.RowKit
set_option linter.unusedVariables false

/-- The loop's relation in minus. -/
def MinusRel (w wr : World) (n : Nat) (xs ys : List Int) (v : Value) (c : Int) (k : Nat) (zs : List Int) : Prop :=
  wr.ownsRow w.heap.size 3 1 v k (zs.map (Value.int .i64)) ∧ Below w.heap.size w wr ∧ Dig zs ∧ val zs - 65536 ^ k * c = val (xs.take k) - val (ys.take k) ∧
    0 ≤ c ∧ c ≤ 1 ∧ k ≤ n

theorem MinusRel.step {w wr w1 : World} {n : Nat} {xs ys : List Int} {v v' : Value} {c : Int} {k : Nat} {zs : List Int} (h : MinusRel w wr n xs ys v c k zs)
    (d q : Int) (hs : d - 65536 * q = xs.getD k 0 - c - ys.getD k 0) (hd : 0 ≤ d ∧ d ≤ 65535) (hq : 0 ≤ q ∧ q ≤ 1) (hk : k < n)
    (hown : w1.ownsRow w.heap.size 3 1 v' (k + 1) (zs.map (Value.int .i64) ++ [.int .i64 d])) (hg : (wr.alloc (.cells #[.int .i64 d] 3)).grownBy w1 v.ownBlock) :
    MinusRel w w1 n xs ys v' q (k + 1) (zs ++ [d]) := by
  obtain ⟨h1, h2, h3, h4, h5, h6, h7⟩ := h
  have hl : zs.length = k := by simpa using h1.1
  refine ⟨by simpa using hown, (h2.alloc h2.size _).grown hg (by have := h2.size; simp; omega) (own_ge h1), h3.snoc (by omega) (by omega), ?_, by omega, by omega, by omega⟩
  rw [val_snoc, hl, take_succ', take_succ', Int.pow_succ]
  exact borrow_step h4 hs
theorem MinusRel.fin {w wr : World} {n m : Nat} {xs ys : List Int} {v : Value} {c : Int} {k : Nat} {zs : List Int} (h : MinusRel w wr n xs ys v c k zs)
    (lx : xs.length = n) (ly : ys.length = m) (hmn : m ≤ n) (hle : val ys ≤ val xs) (hn : n ≤ k) :
    ∃ A cp, v = .slice A k cp ∧ Ints wr A k zs ∧ Dig zs ∧ val zs = val xs - val ys ∧ k ≤ n ∧ Below w.heap.size w wr ∧ k ≤ cp := by
  obtain ⟨h1, h2, h3, h4, h5, h6, h7⟩ := h
  obtain ⟨A, cp, rfl, hcp⟩ := own_form h1
  have hl : zs.length = k := by simpa using h1.1
  have hb := val_bd h3
  rw [List.take_of_length_le (by omega), List.take_of_length_le (by omega)] at h4
  rw [hl] at hb
  have hc : c = 0 := by
    by_cases e : c = 1
    · subst e; rw [Int.mul_one] at h4; omega
    · omega
  subst hc
  rw [Int.mul_zero, Int.sub_zero] at h4
  exact ⟨A, cp, rfl, Ints.of_own h1, h3, h4, h7, h2, hcp⟩

set_option maxHeartbeats 2000000 in
theorem minus_any (A B : Option Addr) (n m c d : Nat) (xs ys : List Int) (w : World) (ha : Ints w A n xs) (hb : Ints w B m ys) (dx : Dig xs) (dy : Dig ys) (hn : n ≤ 1000) (hmn : m ≤ n) (hle : val ys ≤ val xs) :
    Calls Tryd.prog 49 #[.slice A n c, .slice B m d] w (RowEnd w (val xs - val ys) n) := by
  obtain ⟨i0, hi, hz0, hz1, hz2⟩ := info_parts info_int
  have HA := Go.Lib.hid ha
  have HB := Go.Lib.hid hb
  have DX := Go.Lib.hid dx
  have DY := Go.Lib.hid dy
  have HLE := Go.Lib.hid hle
  clear ha hb dx dy hle
  go_enter Tryd.func49, Tryd.ntmps49
  go_wp2
  go_loopw [5, 6, 7] (fun v cv i wr => ∃ (k : Nat) (c : Int) (zs : List Int), i = .int .i64 k ∧ cv = .int .i64 c ∧ MinusRel w wr n xs ys v c k zs) (fun _ _ i _ => n - (intOf i).toNat)
  case atStart => exact ⟨0, 0, [], rfl, rfl, World.ownsRow_nil _ _ _ _, Below.refl _ _, Dig.nil, by simp [val], by omega, by omega, by omega⟩
  case round =>
    obtain ⟨k, cc, zs, rfl, rfl, hrel⟩ := hrel
    have c0 := hrel.2.2.2.2.1
    have c1 := hrel.2.2.2.2.2.1
    have k1 := hrel.2.2.2.2.2.2
    have hbl := hrel.2.1
    have hbz := hbl.size
    have hown := hrel.1
    have RR := Go.Lib.hid hrel
    obtain ⟨x, hx⟩ : ∃ x, xs.getD k 0 = x := ⟨_, rfl⟩
    obtain ⟨y, hy⟩ : ∃ y, ys.getD k 0 = y := ⟨_, rfl⟩
    have dx := DX.out.getD k
    have dy := DY.out.getD k
    rw [hx] at dx
    rw [hy] at dy
    obtain ⟨x0, x1⟩ := dx
    obtain ⟨y0, y1⟩ := dy
    have hxa : k < n → ∃ b off, A = some ⟨b, off, none⟩ ∧ wr.cell? ⟨b, off + k, none⟩ = some (.int .i64 x) := by
      intro hk
      obtain ⟨b, off, e, hc⟩ := (HA.out.keep hbl).2 (by omega)
      exact ⟨b, off, e, hx ▸ hc k hk⟩
    have hya : k < m → ∃ b off, B = some ⟨b, off, none⟩ ∧ wr.cell? ⟨b, off + k, none⟩ = some (.int .i64 y) := by
      intro hk
      obtain ⟨b, off, e, hc⟩ := (HB.out.keep hbl).2 (by omega)
      exact ⟨b, off, e, hy ▸ hc k hk⟩
    have HX := Go.Lib.hid hx
    have HY := Go.Lib.hid hy
    have HY0 : m ≤ k → y = 0 := by
      intro h; rw [← hy, List.getD_eq_getElem?_getD, List.getElem?_eq_none (by have := HB.out.1; omega)]; rfl
    clear hx hy hrel
    by_cases hkn : k < n
    · obtain ⟨b1, o1, rfl, hcx⟩ := hxa hkn
      clear hxa
      by_cases hkm : k < m
      · obtain ⟨b2, o2, rfl, hcy⟩ := hya hkm
        by_cases hv : x - cc - y < 0
        · skip
          clear hya HY0
          go_wp2_with (at_builtin; refine wpList_append_own _ rfl _ _ 25 rfl w.heap.size 3 i0 (.int .i64 0) 1 8 Tryd.underlying25 hi hz0 hz1 hz2 rfl (by decide) _ _ _ rfl (hown.alloc _) ⟨wr.heap.size, 0, none⟩ 1 1 [.int .i64 (x - cc - y + 65536)] rfl rfl (one_cell _ _ _) (one_ok _) (by unfold maxLen; omega) (by omega) (by simp; omega) ?_)
          intro v' w1 hown' hgrow _
          have R := RR.out.step (x - cc - y + 65536) 1 (by rw [HX.out, HY.out]; omega) (by omega) (by omega) (by omega) hown' hgrow
          clear hown' hgrow hown hcx hcy hbl
          go_wp2
          go_roundw
          case rel => exact ⟨k + 1, _, _, by go_num, rfl, R⟩
          case measure => simp [intOf]; omega
        · skip
          clear hya HY0
          go_wp2_with (at_builtin; refine wpList_append_own _ rfl _ _ 25 rfl w.heap.size 3 i0 (.int .i64 0) 1 8 Tryd.underlying25 hi hz0 hz1 hz2 rfl (by decide) _ _ _ rfl (hown.alloc _) ⟨wr.heap.size, 0, none⟩ 1 1 [.int .i64 (x - cc - y)] rfl rfl (one_cell _ _ _) (one_ok _) (by unfold maxLen; omega) (by omega) (by simp; omega) ?_)
          intro v' w1 hown' hgrow _
          have R := RR.out.step (x - cc - y) 0 (by rw [HX.out, HY.out]; omega) (by omega) (by omega) (by omega) hown' hgrow
          clear hown' hgrow hown hcx hcy hbl
          go_wp2
          go_roundw
          case rel => exact ⟨k + 1, _, _, by go_num, rfl, R⟩
          case measure => simp [intOf]; omega
      · have HY1 := Go.Lib.hid (HY0 (by omega))
        by_cases hv : x - cc < 0
        · skip
          clear hya HY0
          go_wp2_with (at_builtin; refine wpList_append_own _ rfl _ _ 25 rfl w.heap.size 3 i0 (.int .i64 0) 1 8 Tryd.underlying25 hi hz0 hz1 hz2 rfl (by decide) _ _ _ rfl (hown.alloc _) ⟨wr.heap.size, 0, none⟩ 1 1 [.int .i64 (x - cc + 65536)] rfl rfl (one_cell _ _ _) (one_ok _) (by unfold maxLen; omega) (by omega) (by simp; omega) ?_)
          intro v' w1 hown' hgrow _
          have R := RR.out.step (x - cc + 65536) 1 (by rw [HX.out, HY.out]; have := HY1.out; omega) (by omega) (by omega) (by omega) hown' hgrow
          clear hown' hgrow hown hcx  hbl
          go_wp2
          go_roundw
          case rel => exact ⟨k + 1, _, _, by go_num, rfl, R⟩
          case measure => simp [intOf]; omega
        · skip
          clear hya HY0
          go_wp2_with (at_builtin; refine wpList_append_own _ rfl _ _ 25 rfl w.heap.size 3 i0 (.int .i64 0) 1 8 Tryd.underlying25 hi hz0 hz1 hz2 rfl (by decide) _ _ _ rfl (hown.alloc _) ⟨wr.heap.size, 0, none⟩ 1 1 [.int .i64 (x - cc)] rfl rfl (one_cell _ _ _) (one_ok _) (by unfold maxLen; omega) (by omega) (by simp; omega) ?_)
          intro v' w1 hown' hgrow _
          have R := RR.out.step (x - cc) 0 (by rw [HX.out, HY.out]; have := HY1.out; omega) (by omega) (by omega) (by omega) hown' hgrow
          clear hown' hgrow hown hcx  hbl
          go_wp2
          go_roundw
          case rel => exact ⟨k + 1, _, _, by go_num, rfl, R⟩
          case measure => simp [intOf]; omega
    · clear hxa hya HY0 hown hbl
      go_wp2
      go_ret
      obtain ⟨C, cp, rfl, f1, f2, f3, f4, f5, f6⟩ := RR.out.fin HA.out.1 HB.out.1 hmn HLE.out (by omega)
      exact ⟨C, k, cp, zs, rfl, f1, f2, f3, f4, f5, f6⟩
end Go.Proofs.YtmjogpbdgbgkhaaDoor
