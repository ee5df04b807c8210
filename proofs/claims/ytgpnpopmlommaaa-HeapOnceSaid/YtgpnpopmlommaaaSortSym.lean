/- Go's symMerge, walked where one part is a single place. -/
import Derived.Test.YtgpnpopmlommaaaSortRot
namespace Go.Proofs.Ytgpnpopmlommaaa
open Go.RowKit
set_option linter.unusedVariables false
section
variable {w : World} {D C bx : Nat} {A : Option Addr} {n c : Nat} {xs : List Int} {d : Nat → Int} {a b m : Nat}
def Find1 (w : World) (D C bx : Nat) (A : Option Addr) (n c : Nat) (xs : List Int) (d : Nat → Int) (a m b : Nat) (i j : Value) (wr : World) : Prop :=
  ∃ p q : Nat, i = .int .i64 p ∧ j = .int .i64 q ∧ m ≤ p ∧ p ≤ q ∧ q ≤ b ∧ (p = m ∨ keyOfI xs (d (p - 1)) < keyOfI xs (d a)) ∧ (q = b ∨ ¬ keyOfI xs (d q) < keyOfI xs (d a)) ∧ SortIs wr D C bx A n c xs d ∧ Only [D] w wr
def Push1 (w : World) (D C bx : Nat) (A : Option Addr) (n c : Nat) (xs : List Int) (d : Nat → Int) (a i : Nat) (k : Value) (wr : World) : Prop :=
  ∃ p : Nat, k = .int .i64 p ∧ a ≤ p ∧ p + 1 ≤ i ∧ SortIs wr D C bx A n c xs (rot d a (a + 1) (p + 1)) ∧ Only [D] w wr
set_option maxHeartbeats 4000000 in
set_option maxRecDepth 100000 in
theorem sym_one (h : SortIs w D C bx A n c xs d) (hM : MergeIn (keyOfI xs) d a m b) (hm : m = a + 1) (hab : m < b) (hb : b ≤ n) :
    Calls Try.prog 46 #[.slice (some ⟨D, 0, none⟩) n C, .int .i64 a, .int .i64 m, .int .i64 b, cmpV bx] w fun e w' => e = .returned (.tuple #[]) ∧ Sorted1 w D C bx A n c xs d a b w' := by
  have hn := h.small
  have HM := Lib.hid hM
  have t2 : (m : Int) - (a : Int) = 1 := by omega
  have H0 : Find1 w D C bx A n c xs d a m b (.int .i64 m) (.int .i64 b) w := ⟨m, b, rfl, rfl, Nat.le_refl _, by omega, Nat.le_refl _, .inl rfl, .inl rfl, h, Only.refl _ _⟩
  have HMM := Lib.hid hm
  have ham : a < m := by omega
  clear h hM hm
  unfold cmpV
  go_enter Try.func46, Try.ntmps46
  go_wp2
  clear t2
  go_loopw [10, 11] (fun i j wr => Find1 w D C bx A n c xs d a m b i j wr) (fun i j _ => (intOf j).toNat - (intOf i).toNat)
  case atStart => exact H0
  case round =>
    clear H0
    obtain ⟨p, q, rfl, rfl, hp, hpq, hq, hlo, hhi, hS, hO⟩ := hrel
    have b1 : (p : Int) ≤ 1152921504606846976 := by omega
    have b2 : (q : Int) ≤ 1152921504606846976 := by omega
    by_cases hlt : p < q
    · have l0 : (p : Int) < (q : Int) := by omega
      obtain ⟨g, hg⟩ : ∃ g, g = (p + q) / 2 := ⟨_, rfl⟩
      have hg' : ((p : Int) + (q : Int)) / 2 = (g : Int) := by omega
      have g1 : p ≤ g := by omega
      have g2 : g < q := by omega
      have hg2 := Lib.hid hg
      clear hg
      have c1 := hS.data.cell (k := g) (by omega)
      have c2 := hS.data.cell (k := a) (by omega)
      obtain ⟨x, hx⟩ : ∃ x, x = d g := ⟨_, rfl⟩
      obtain ⟨y, hy⟩ : ∃ y, y = d a := ⟨_, rfl⟩
      have rx := hS.inn g (by omega)
      have ry := hS.inn a (by omega)
      rw [← hx] at c1 rx
      rw [← hy] at c2 ry
      have l1 : (g : Int) < (n : Int) := by omega
      have l2 : (a : Int) < (n : Int) := by omega
      obtain ⟨r, hr⟩ : ∃ r, r = cmpI (keyOfI xs x) (keyOfI xs y) := ⟨_, rfl⟩
      have HC : Hid (∀ m, Calls Try.prog 32 #[.int .i64 x, .int .i64 y, .pointer (some ⟨bx, 0, none⟩)] (wr.drewN m) fun e w' => e = .returned (.int .i64 r) ∧ ∃ m', w' = (wr.drewN m).drewN m') :=
        Lib.hid fun m => by rw [hr]; exact cmp_any (hS.drewN m) rx ry
      by_cases hlt2 : keyOfI xs x < keyOfI xs y
      · have hr2 : r < 0 := by rw [hr]; exact cmpI_lt hlt2
        have HR : Hid (∀ t, Find1 w D C bx A n c xs d a m b (.int .i64 ((g : Int) + 1)) (.int .i64 q) (wr.drewN t)) :=
          Lib.hid fun t => ⟨g + 1, q, by go_num, rfl, by omega, by omega, hq, .inr (by rw [Nat.add_sub_cancel, ← hx, ← hy]; exact hlt2), hhi, hS.drewN t, hO.trans' (only_drewN _ _ t)⟩
        clear hx hy hr hlt2 hS hO hlo hhi
        go_wp2_with fail
        go_quiet ((go_at_call 32; exact Calls.quiet_of (HC.out _)))
        go_wp2
        go_roundw
        case rel => exact HR.out _
        case measure => simp [intOf]; omega
      · have hr2 : 0 ≤ r := by rw [hr]; exact cmpI_ge hlt2
        have HR : Hid (∀ t, Find1 w D C bx A n c xs d a m b (.int .i64 p) (.int .i64 g) (wr.drewN t)) :=
          Lib.hid fun t => ⟨p, g, rfl, rfl, hp, g1, by omega, hlo, .inr (by rw [← hx, ← hy]; exact hlt2), hS.drewN t, hO.trans' (only_drewN _ _ t)⟩
        clear hx hy hr hlt2 hS hO hlo hhi
        go_wp2_with fail
        go_quiet ((go_at_call 32; exact Calls.quiet_of (HC.out _)))
        go_wp2
        go_roundw
        case rel => exact HR.out _
        case measure => simp [intOf]; omega
    · obtain rfl : p = q := by omega
      have H1 : Push1 w D C bx A n c xs d a p (.int .i64 a) wr := ⟨a, rfl, Nat.le_refl _, by omega, by rw [rot1_start]; exact hS, hO⟩
      have HE := Lib.hid (one_left (i := p) (by have := HM.out; rw [HMM.out] at this; exact this) (by have := HMM.out; omega) hq (by rw [← HMM.out]; exact hlo) hhi)
      have HV : Hid (Moved a b d (rot d a (a + 1) p)) := Lib.hid ((rot_moved (by omega) (by have := HMM.out; omega)).wide (Nat.le_refl _) hq)
      have hpm : a + 1 ≤ p := by have := HMM.out; omega
      clear hS hO hlo hhi
      go_wp2
      obtain ⟨wo, hwo⟩ : ∃ wo : World, wo = wr := ⟨_, rfl⟩
      go_loopw [13] (fun k wr => Push1 w D C bx A n c xs d a p k wr) (fun k _ => p - (intOf k).toNat)
      case atStart => exact H1
      case round =>
        clear H1 hwo
        obtain ⟨k, rfl, hk, hkp, hS, hO⟩ := hrel
        by_cases hlt2 : k + 1 < p
        · have c1 := hS.data.cell (k := k) (by omega)
          have c2 := hS.data.cell (k := k + 1) (by omega)
          have f1 := hS.data.free k
          have f2 := hS.data.free (k + 1)
          obtain ⟨x, hx⟩ : ∃ x, x = rot d a (a + 1) (k + 1) k := ⟨_, rfl⟩
          obtain ⟨y, hy⟩ : ∃ y, y = rot d a (a + 1) (k + 1) (k + 1) := ⟨_, rfl⟩
          rw [← hx] at c1
          rw [← hy] at c2
          have l1 : (k : Int) < (n : Int) := by omega
          have l2 : (k : Int) + 1 < (n : Int) := by omega
          have l3 : (k : Int) < (p : Int) - 1 := by omega
          have HR : Hid (Push1 w D C bx A n c xs d a p (.int .i64 ((k : Int) + 1)) (((wr.setCell ⟨D, k, none⟩ (.int .i64 y)).setCell ⟨D, k + 1, none⟩ (.int .i64 x)).drew)) := by
            have h1 := hS.swap (i := k) (j := k + 1) (by omega) (by omega) hx hy
            rw [rot1_step d hk] at h1
            exact Lib.hid ⟨k + 1, by go_num, by omega, by omega, h1, hO.trans' (two_only _ _ _ _ _ _)⟩
          clear hx hy hS hO
          go_wp2
          go_region
          go_wp2
          go_roundw
          case rel => exact HR.out
          case measure => first | (simp [intOf]; done) | (simp [intOf]; omega)
        · have l3 : decide ((k : Int) < (p : Int) - 1) = false := by simp; omega
          have l4 : (p : Int) ≤ (k : Int) + 1 := by omega
          have hkp2 : k + 1 = p := by omega
          rw [hkp2] at hS
          have HF : Sorted1 w D C bx A n c xs d a b wr := ⟨_, hS, HV.out, HE.out, hO⟩
          clear hS hO hkp2
          go_wp2
          refine bodyPost_ret (results_none rfl _ _ _) rfl ?_
          exact ⟨rfl, HF⟩
end
end Go.Proofs.Ytgpnpopmlommaaa
