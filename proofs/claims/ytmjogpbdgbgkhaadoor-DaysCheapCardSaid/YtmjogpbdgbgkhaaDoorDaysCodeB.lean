/- What the functions of package days answer, off their code: Len and Next, with the library's counts of bits. -/
import Derived.Test.YtmjogpbdgbgkhaaDoorDaysCode
import Derived.Test.YtmjogpbdgbgkhaaDoorCount
import Derived.Laws.Bits128
import Derived.Lib.TrailingZeros
namespace Go.Proofs.YtmjogpbdgbgkhaaDoor
open Go.RowKit
set_option linter.unusedVariables false

theorem ones_steps (s : Nat) : ∃ x1 x2 x3 x4 : Nat, x1 = ((s / 2) &&& 6148914691236517205) + (s &&& 6148914691236517205) ∧ x2 = ((x1 / 4) &&& 3689348814741910323) + (x1 &&& 3689348814741910323) ∧ x3 = x2 / 16 + x2 ∧ x4 = x3 &&& 1085102592571150095 ∧
    x4 = byB pcB 8 s ∧ x1 < 18446744073709551616 ∧ x2 < 9223372036854775808 := by
  have e1 : ((s / 2) &&& 6148914691236517205) + (s &&& 6148914691236517205) = byB oneB 8 s := by
    have h1 := and_mask (p := 2) (q := 128) (m := 85) rfl (by decide) (by decide) (by decide +kernel) 8 s
    have h2 := and_mask (p := 1) (q := 256) (m := 85) rfl (by decide) (by decide) (fun a ha r hr => by obtain rfl : r = 0 := (by omega); rw [Nat.mul_zero, Nat.add_zero]) 8 s
    rw [Nat.div_one] at h2
    rw [mask85] at h1 h2
    rw [h1, h2, byB_add]; rfl
  have e2 : ∀ x, ((x / 4) &&& 3689348814741910323) + (x &&& 3689348814741910323) = byB twoB 8 x := by
    intro x
    have h1 := and_mask (p := 4) (q := 64) (m := 51) rfl (by decide) (by decide) (by decide +kernel) 8 x
    have h2 := and_mask (p := 1) (q := 256) (m := 51) rfl (by decide) (by decide) (fun a ha r hr => by obtain rfl : r = 0 := (by omega); rw [Nat.mul_zero, Nat.add_zero]) 8 x
    rw [Nat.div_one] at h2
    rw [mask51] at h1 h2
    rw [h1, h2, byB_add]; rfl
  have e3 := fold_half (h := fun a => twoB (oneB a)) twoB_half 8 s
  have l1 := byB_le (g := oneB) (B := 255) (fun a ha => by have := oneB_lt a ha; omega) (by decide) 8 s
  have l2 := byB_le (g := fun a => twoB (oneB a)) (B := 68) (fun a ha => by have := twoB_half a ha; show twoB (oneB a) ≤ 68; omega) (by decide) 8 s
  have m1 : maskB 255 8 = 18446744073709551615 := rfl
  have m2 : maskB 68 8 = 4919131752989213764 := rfl
  rw [m1] at l1
  rw [m2] at l2
  rw [mask15] at e3
  refine ⟨_, _, _, _, rfl, rfl, rfl, rfl, ?_, ?_, ?_⟩
  · rw [e1, e2, byB_byB twoB oneB oneB_lt]; exact e3
  · rw [e1]; omega
  · rw [e1, e2, byB_byB twoB oneB oneB_lt]; omega
theorem ones_code (s : Nat) (hs : s < 2 ^ 64) (w : World) : Calls Tryd.prog 35 #[.int .u64 s] w fun e w' => e = .returned (.int .i64 ((allI s).length : Int)) ∧ w' = w := by
  obtain ⟨x1, x2, x3, x4, e1, e2, e3, e4, e5, l1, l2⟩ := ones_steps s
  obtain ⟨y4, x5, x6, x7, f4, f5, f6, f7, b4, b5, b6, b7, hc⟩ := fold_bytes s
  rw [← f4] at e5
  subst e5
  rw [sumB_is] at hc
  have hn : (x7 : Int) % 128 = ((allI s).length : Int) := by
    show _ = (((upTo s (8 * 8)).length : Nat) : Int)
    omega
  generalize (allI s).length = n at *
  have hs2 : s / 2 < 18446744073709551616 := by omega
  have k1 : bits .and .u64 ((s : Int) / 2) 6148914691236517205 = (((s / 2) &&& 6148914691236517205 : Nat) : Int) := bits_and_u64_nat (s / 2) 6148914691236517205 hs2 (by decide)
  have k0 : bits .and .u64 (s : Int) 6148914691236517205 = ((s &&& 6148914691236517205 : Nat) : Int) := bits_and_u64_nat s 6148914691236517205 (by omega) (by decide)
  have k3 : bits .and .u64 ((x1 : Int) / 4) 3689348814741910323 = (((x1 / 4) &&& 3689348814741910323 : Nat) : Int) := bits_and_u64_nat (x1 / 4) 3689348814741910323 (by omega) (by decide)
  have k4 : bits .and .u64 (x1 : Int) 3689348814741910323 = ((x1 &&& 3689348814741910323 : Nat) : Int) := bits_and_u64_nat x1 3689348814741910323 (by omega) (by decide)
  have k7 : bits .and .u64 (x3 : Int) 1085102592571150095 = (x4 : Int) := by rw [e4]; exact bits_and_u64_nat x3 1085102592571150095 (by omega) (by decide)
  generalize ((s / 2) &&& 6148914691236517205) = a1 at *
  generalize (s &&& 6148914691236517205) = a0 at *
  generalize ((x1 / 4) &&& 3689348814741910323) = b1 at *
  generalize (x1 &&& 3689348814741910323) = b0 at *
  have k2 : IntKind.u64.wrap ((a1 : Int) + a0) = (x1 : Int) := by rw [IntKind.wrap_u64]; omega
  have k5 : IntKind.u64.wrap ((b1 : Int) + b0) = (x2 : Int) := by rw [IntKind.wrap_u64]; omega
  have k6 : IntKind.u64.wrap ((x2 : Int) / 16 + x2) = (x3 : Int) := by rw [IntKind.wrap_u64]; omega
  have k8 : IntKind.u64.wrap ((x4 : Int) + x4 / 256) = (x5 : Int) := by rw [IntKind.wrap_u64]; omega
  have k9 : IntKind.u64.wrap ((x5 : Int) + x5 / 65536) = (x6 : Int) := by rw [IntKind.wrap_u64]; omega
  have k10 : IntKind.u64.wrap ((x6 : Int) + x6 / 4294967296) = (x7 : Int) := by rw [IntKind.wrap_u64]; omega
  have k11 : IntKind.i64.wrap (x7 : Int) = (x7 : Int) := by rw [IntKind.wrap_i64]; omega
  have k12 : bits .and .i64 (x7 : Int) 127 = (n : Int) := by rw [i64_and127]; exact hn
  clear hn hc e1 e2 e3 e4 f4 f5 f6 f7 b4 b5 b6 b7 l1 l2 hs2 hs
  go_enter Tryd.func35, Tryd.ntmps35
  go_wp2
  go_ret
  exact ⟨rfl, rfl⟩
theorem len_code : LenOk := by
  intro s w hs
  have c1 := fun W => ones_code s hs W
  have hl : (allI s).length ≤ 64 := upTo_len s 64
  generalize (allI s).length = n at *
  have hs2 : (s : Int) ≤ 18446744073709551615 := by omega
  clear hs
  go_enter Tryd.func19, Tryd.ntmps19
  go_wp2_with (go_at_call 35; refine (c1 _).mono ?_; rintro e x1 ⟨rfl, rfl⟩)
  go_ret
  exact ⟨rfl, Below.refl _ _⟩
theorem tz_core (x k idx : Nat) (w : World) (hz : ((x : Int) == 0) = false)
    (key : IntKind.u64.wrap (bits .and .u64 (x : Int) (IntKind.u64.wrap (-(x : Int))) * 285870213051353865) / 288230376151711744 = (idx : Int)) (hi : idx < 64) (hk : k < 64)
    (hcell : w.cell? ⟨0, idx, none⟩ = some (.int .u8 k)) :
    Calls Tryd.prog 36 #[.int .u64 x] w fun e w' => e = .returned (.int .i64 (k : Int)) ∧ w' = w := by
  go_enter Tryd.func36, Tryd.ntmps36
  go_wp2_with (simp only [key])
  go_ret
  exact ⟨rfl, rfl⟩
theorem tz_code (x : Nat) (hx : x < 2 ^ 64) (h0 : x ≠ 0) (w : World) (hT : Tab w) :
    Calls Tryd.prog 36 #[.int .u64 x] w fun e w' => e = .returned (.int .i64 (Go.Lib.ctz 64 x : Int)) ∧ w' = w := by
  obtain ⟨hlow, hk⟩ := Go.Lib.lowest_bit 64 x h0 hx
  obtain ⟨hi, htab⟩ := Go.Lib.deBruijn64_at _ hk
  have hcell := hT _ hi
  rw [htab] at hcell
  refine tz_core x _ _ w (by simp; omega) ?_ hi hk hcell
  have n1 : IntKind.u64.wrap (-(x : Int)) = ((2 ^ 64 - x : Nat) : Int) := by rw [IntKind.wrap_u64]; omega
  have n2 : bits .and .u64 (x : Int) ((2 ^ 64 - x : Nat) : Int) = ((2 ^ Go.Lib.ctz 64 x : Nat) : Int) := by
    rw [bits_and_u64_nat _ _ hx (by omega), hlow]
  rw [n1, n2, IntKind.wrap_u64]
  generalize (2 ^ Go.Lib.ctz 64 x : Nat) = p
  omega

/-! ### Next, by the bits -/
theorem nextI_is {s : Nat} {d x : Int} (hx : x ∈ allI s) (hd : d ≤ x) (hm : ∀ y ∈ allI s, d ≤ y → x ≤ y) : nextI s d = x := by
  unfold nextI
  cases h : (allI s).find? (fun y => decide (d ≤ y)) with
  | none => exact absurd hd (by simpa using List.find?_eq_none.1 h x hx)
  | some z =>
    show z = x
    obtain ⟨hz, us, vs, hl, has⟩ := List.find?_eq_some_iff_append.1 h
    have hzm : z ∈ allI s := by rw [hl]; simp
    have h1 := hm z hzm (by simpa using hz)
    have hs : (allI s).Pairwise (· < ·) := upTo_sorted s 64
    rw [hl] at hx hs
    rcases List.mem_append.1 hx with h2 | h2
    · have := has x h2
      simp at this
      omega
    · rcases List.mem_cons.1 h2 with h3 | h3
      · exact h3.symm
      · have := (List.pairwise_cons.1 (List.pairwise_append.1 hs).2.1).1 x h3
        omega
theorem nextI_no {s : Nat} {d : Int} (h : ∀ y ∈ allI s, y < d) : nextI s d = -1 := by
  unfold nextI
  rw [List.find?_eq_none.2]
  · rfl
  · intro y hy
    have := h y hy
    simp; omega
theorem mem_allI {s : Nat} {y : Int} : y ∈ allI s ↔ 0 ≤ y ∧ y < 64 ∧ s.testBit y.toNat = true := mem_upTo
theorem next_shift {s : Nat} (hs : s < 2 ^ 64) {d : Int} {k : Nat} (hk : (k : Int) = max d 0) :
    (s / 2 ^ min k 64 = 0 → nextI s d = -1) ∧ (s / 2 ^ min k 64 ≠ 0 → nextI s d = (k : Int) + (Go.Lib.ctz 64 (s / 2 ^ min k 64) : Int) ∧ k + Go.Lib.ctz 64 (s / 2 ^ min k 64) < 64) := by
  have hb : ∀ j, (s / 2 ^ min k 64).testBit j = s.testBit (j + min k 64) := fun j => by rw [Nat.testBit_div_two_pow]
  constructor
  · intro hq
    refine nextI_no fun y hy => ?_
    obtain ⟨y0, y1, y2⟩ := mem_allI.1 hy
    rcases Int.lt_or_le y d with h | h
    · exact h
    · exfalso
      have hky : k ≤ y.toNat := by omega
      have h1 := hb (y.toNat - k)
      rw [hq, Nat.zero_testBit, show y.toNat - k + min k 64 = y.toNat by omega, y2] at h1
      cases h1
  · intro hq
    have hk64 : k < 64 := by
      rcases Nat.lt_or_ge k 64 with h | h
      · exact h
      · exfalso
        apply hq
        rw [Nat.min_eq_right h]
        exact Nat.div_eq_of_lt hs
    have hmin : min k 64 = k := Nat.min_eq_left (by omega)
    have hql : s / 2 ^ min k 64 < 2 ^ 64 := Nat.lt_of_le_of_lt (Nat.div_le_self _ _) hs
    rw [hmin] at hb hq hql ⊢
    generalize s / 2 ^ k = q at *
    have hcz : Go.Lib.ctz 64 q = Go.Lib.ctzFrom 64 q := by unfold Go.Lib.ctz; rw [if_neg hq]
    obtain ⟨m, hm, hc⟩ := Go.Lib.ctzFrom_spec 64 q (by omega) hql
    rw [hcz]
    generalize Go.Lib.ctzFrom 64 q = c at *
    have hbit : ∀ j, q.testBit j = (decide (c ≤ j) && (2 * m + 1).testBit (j - c)) := fun j => by
      rw [hm, Nat.mul_comm, Nat.testBit_mul_two_pow]
    have hbc : s.testBit (k + c) = true := by
      rw [Nat.add_comm k c, ← hb, hbit, Nat.sub_self, Nat.testBit_zero]; simp
    have hkc : k + c < 64 := by
      rcases Nat.lt_or_ge (k + c) 64 with h | h
      · exact h
      · rw [Nat.testBit_lt_two_pow (Nat.lt_of_lt_of_le hs (Nat.pow_le_pow_right (by decide) h))] at hbc; cases hbc
    refine ⟨?_, hkc⟩
    have e : (k : Int) + (c : Int) = ((k + c : Nat) : Int) := by omega
    rw [e]
    refine nextI_is (mem_allI.2 ⟨by omega, by omega, by rw [Int.toNat_natCast]; exact hbc⟩) (by omega) fun y hy hd => ?_
    obtain ⟨y0, y1, y2⟩ := mem_allI.1 hy
    have h1 := hb (y.toNat - k)
    rw [show y.toNat - k + k = y.toNat by omega, y2, hbit] at h1
    have := of_decide_eq_true (Bool.and_eq_true_iff.1 h1).1
    omega
theorem next_code : NextOk := by
  intro s d w hT hs wd
  obtain ⟨k, hk⟩ : ∃ k : Nat, (k : Int) = max d 0 := ⟨(max d 0).toNat, by omega⟩
  obtain ⟨n0, n1⟩ := next_shift hs hk
  have hq : (s : Int) / 2 ^ min k 64 = ((s / 2 ^ min k 64 : Nat) : Int) := shr_cast s (min k 64)
  have hql : s / 2 ^ min k 64 < 2 ^ 64 := Nat.lt_of_le_of_lt (Nat.div_le_self _ _) hs
  have c1 := fun h W (hw : Tab W) => tz_code (s / 2 ^ min k 64) hql h W hw
  obtain ⟨b0, b1⟩ := wf_iff.1 wd
  generalize s / 2 ^ min k 64 = q at *
  have hqb : (q : Int) ≤ 18446744073709551615 := by omega
  have TT := Go.Lib.hid hT
  by_cases h0 : q = 0
  · have hz : ((q : Int) == 0) = true := by subst h0; rfl
    rw [n0 h0]
    clear n0 n1 hs hql c1 wd hT h0
    by_cases hd : d < 0
    · obtain rfl : k = 0 := by omega
      obtain rfl : q = s := by
        have : (s : Int) = (q : Int) := by simpa using hq
        omega
      clear hq
      go_enter Tryd.func20, Tryd.ntmps20
      go_wp2
      go_ret
      exact ⟨rfl, Below.refl _ _⟩
    · obtain rfl : d = (k : Int) := by omega
      clear hk
      go_enter Tryd.func20, Tryd.ntmps20
      go_wp2
      go_ret
      exact ⟨rfl, Below.refl _ _⟩
  · have hz : ((q : Int) == 0) = false := by simp; omega
    obtain ⟨e, hl⟩ := n1 h0
    rw [e]
    have c2 := fun W hw => c1 h0 W hw
    clear n0 n1 hs hql c1 wd hT h0 e
    generalize Go.Lib.ctz 64 q = c at *
    by_cases hd : d < 0
    · obtain rfl : k = 0 := by omega
      obtain rfl : q = s := by
        have : (s : Int) = (q : Int) := by simpa using hq
        omega
      clear hq
      go_enter Tryd.func20, Tryd.ntmps20
      go_wp2_with (go_at_call 36; refine (c2 _ TT.out).mono ?_; rintro e x1 ⟨rfl, rfl⟩)
      go_ret
      exact ⟨by show Ending.returned (Value.int .i64 (c : Int)) = _; congr 2; omega, Below.refl _ _⟩
    · obtain rfl : d = (k : Int) := by omega
      clear hk
      have hq2 := hq
      rw [show min k 64 = k by omega] at hq2
      go_enter Tryd.func20, Tryd.ntmps20
      go_wp2_with (go_at_call 36; refine (c2 _ TT.out).mono ?_; rintro e x1 ⟨rfl, rfl⟩)
      go_ret
      exact ⟨rfl, Below.refl _ _⟩
end Go.Proofs.YtmjogpbdgbgkhaaDoor
