/- Go's symMerge, walked where the other part is a single place. -/
import Derived.Test.YtgpnpopmlommaaaSortSym
namespace Go.Proofs.Ytgpnpopmlommaaa
open Go.RowKit
set_option linter.unusedVariables false
section
variable {w : World} {D C bx : Nat} {A : Option Addr} {n c : Nat} {xs : List Int} {d : Nat → Int} {a b m : Nat}
def Find2 (w : World) (D C bx : Nat) (A : Option Addr) (n c : Nat) (xs : List Int) (d : Nat → Int) (a m : Nat) (i j : Value) (wr : World) : Prop :=
  ∃ p q : Nat, i = .int .i64 p ∧ j = .int .i64 q ∧ a ≤ p ∧ p ≤ q ∧ q ≤ m ∧ (p = a ∨ ¬ keyOfI xs (d m) < keyOfI xs (d (p - 1))) ∧ (q = m ∨ keyOfI xs (d m) < keyOfI xs (d q)) ∧ SortIs wr D C bx A n c xs d ∧ Only [D] w wr
def Push2 (w : World) (D C bx : Nat) (A : Option Addr) (n c : Nat) (xs : List Int) (d : Nat → Int) (i m : Nat) (k : Value) (wr : World) : Prop :=
  ∃ p : Nat, k = .int .i64 p ∧ i ≤ p ∧ p ≤ m ∧ SortIs wr D C bx A n c xs (rot d p m (m + 1)) ∧ Only [D] w wr
set_option maxHeartbeats 4000000 in
set_option maxRecDepth 100000 in
theorem sym_last (h : SortIs w D C bx A n c xs d) (hM : MergeIn (keyOfI xs) d a m b) (ham : a + 1 < m) (hbm : b = m + 1) (hb : b ≤ n) :
    Calls Try.prog 46 #[.slice (some ⟨D, 0, none⟩) n C, .int .i64 a, .int .i64 m, .int .i64 b, cmpV bx] w fun e w' => e = .returned (.tuple #[]) ∧ Sorted1 w D C bx A n c xs d a b w' := by
  have hn := h.small
  have HM := Lib.hid hM
  obtain ⟨z, hz⟩ : ∃ z, z = (m : Int) - (a : Int) := ⟨_, rfl⟩
  have t1 : (m : Int) - (a : Int) = z := hz.symm
  have t2 : (z == 1) = false := by simp; omega
  have t3 : (b : Int) - (m : Int) = 1 := by omega
  have H0 : Find2 w D C bx A n c xs d a m (.int .i64 a) (.int .i64 m) w := ⟨a, m, rfl, rfl, Nat.le_refl _, by omega, Nat.le_refl _, .inl rfl, .inl rfl, h, Only.refl _ _⟩
  have HMM := Lib.hid hbm
  have hmb : m < b := by omega
  clear h hM hbm hz
  unfold cmpV
  go_enter Try.func46, Try.ntmps46
  go_wp2
  clear t1 t2 t3
  go_loopw [14, 15] (fun i j wr => Find2 w D C bx A n c xs d a m i j wr) (fun i j _ => (intOf j).toNat - (intOf i).toNat)
  case atStart => exact H0
  case round =>
    clear H0
    obtain ⟨p, q, rfl, rfl, hp, hpq, hq, hlo, hhi, hS, hO⟩ := hrel
    have b1 : (p : Int) ≤ 1152921504606846976 := by omega
    have b2 : (q : Int) ≤ 1152921504606846976 := by omega
    by_cases hlt : p < q
    · have l0 : (p : Int) < (q : Int) := by omega
      obtain ⟨g, hg⟩ : ∃ g, g = (p + q) / 2 := ⟨_, rfl⟩
      have hg' : ((p : Int) + (q : Int)) / 2 = (g : Int) := by omega
      have g1 : p ≤ g := by omega
      have g2 : g < q := by omega
      have hg2 := Lib.hid hg
      clear hg
      have c1 := hS.data.cell (k := m) (by omega)
      have c2 := hS.data.cell (k := g) (by omega)
      obtain ⟨x, hx⟩ : ∃ x, x = d m := ⟨_, rfl⟩
      obtain ⟨y, hy⟩ : ∃ y, y = d g := ⟨_, rfl⟩
      have rx := hS.inn m (by omega)
      have ry := hS.inn g (by omega)
      rw [← hx] at c1 rx
      rw [← hy] at c2 ry
      have l1 : (m : Int) < (n : Int) := by omega
      have l2 : (g : Int) < (n : Int) := by omega
      obtain ⟨r, hr⟩ : ∃ r, r = cmpI (keyOfI xs x) (keyOfI xs y) := ⟨_, rfl⟩
      have HC : Hid (∀ m, Calls Try.prog 32 #[.int .i64 x, .int .i64 y, .pointer (some ⟨bx, 0, none⟩)] (wr.drewN m) fun e w' => e = .returned (.int .i64 r) ∧ ∃ m', w' = (wr.drewN m).drewN m') :=
        Lib.hid fun m => by rw [hr]; exact cmp_any (hS.drewN m) rx ry
      by_cases hlt2 : keyOfI xs x < keyOfI xs y
      · have hr2 : r < 0 := by rw [hr]; exact cmpI_lt hlt2
        have HR : Hid (∀ t, Find2 w D C bx A n c xs d a m (.int .i64 p) (.int .i64 g) (wr.drewN t)) :=
          Lib.hid fun t => ⟨p, g, rfl, rfl, hp, g1, by omega, hlo, .inr (by rw [← hx, ← hy]; exact hlt2), hS.drewN t, hO.trans' (only_drewN _ _ t)⟩
        clear hx hy hr hlt2 hS hO hlo hhi
        go_wp2_with fail
        go_quiet ((go_at_call 32; exact Calls.quiet_of (HC.out _)))
        go_wp2
        go_roundw
        case rel => exact HR.out _
        case measure => simp [intOf]; omega
      · have hr2 : 0 ≤ r := by rw [hr]; exact cmpI_ge hlt2
        have hr3 : decide (r < 0) = false := by simp; omega
        have hr4 : ¬ r < 0 := by omega
        have HR : Hid (∀ t, Find2 w D C bx A n c xs d a m (.int .i64 ((g : Int) + 1)) (.int .i64 q) (wr.drewN t)) :=
          Lib.hid fun t => ⟨g + 1, q, by go_num, rfl, by omega, by omega, hq, .inr (by rw [Nat.add_sub_cancel, ← hx, ← hy]; exact hlt2), hhi, hS.drewN t, hO.trans' (only_drewN _ _ t)⟩
        clear hx hy hr hlt2 hS hO hlo hhi
        go_wp2_with fail
        go_quiet ((go_at_call 32; exact Calls.quiet_of (HC.out _)))
        go_wp2
        go_roundw
        case rel => exact HR.out _
        case measure => simp [intOf]; omega
    · obtain rfl : p = q := by omega
      have H1 : Push2 w D C bx A n c xs d p m (.int .i64 m) wr := ⟨m, rfl, hq, Nat.le_refl _, by rw [rotm_start]; exact hS, hO⟩
      have HE : Hid (SortedOn (keyOfI xs) (rot d p m (m + 1)) a b) := Lib.hid (by
        have h1 := HM.out
        rw [HMM.out] at h1 ⊢
        exact one_right h1 hp hq hlo hhi)
      have HV : Hid (Moved a b d (rot d p m (m + 1))) := Lib.hid ((rot_moved hq (by omega)).wide hp (by have := HMM.out; omega))
      clear hS hO hlo hhi
      go_wp2
      obtain ⟨wo, hwo⟩ : ∃ wo : World, wo = wr := ⟨_, rfl⟩
      go_loopw [17] (fun k wr => Push2 w D C bx A n c xs d p m k wr) (fun k _ => (intOf k).toNat)
      case atStart => exact H1
      case round =>
        clear H1 hwo
        obtain ⟨k, rfl, hk, hkp, hS, hO⟩ := hrel
        by_cases hlt2 : p < k
        · obtain ⟨k, rfl⟩ : ∃ k', k = k' + 1 := ⟨k - 1, by omega⟩
          have c1 := hS.data.cell (k := k + 1) (by omega)
          have c2 := hS.data.cell (k := k) (by omega)
          have f1 := hS.data.free (k + 1)
          have f2 := hS.data.free k
          obtain ⟨x, hx⟩ : ∃ x, x = rot d (k + 1) m (m + 1) (k + 1) := ⟨_, rfl⟩
          obtain ⟨y, hy⟩ : ∃ y, y = rot d (k + 1) m (m + 1) k := ⟨_, rfl⟩
          rw [← hx] at c1
          rw [← hy] at c2
          have l1 : (k : Int) + 1 < (n : Int) := by omega
          have l2 : (k : Int) < (n : Int) := by omega
          have l3 : (p : Int) < (k : Int) + 1 := by omega
          have HR : Hid (Push2 w D C bx A n c xs d p m (.int .i64 k) (((wr.setCell ⟨D, k + 1, none⟩ (.int .i64 y)).setCell ⟨D, k, none⟩ (.int .i64 x)).drew)) := by
            have h1 := hS.swap (i := k + 1) (j := k) (by omega) (by omega) hx hy
            rw [rotm_step d hkp] at h1
            exact Lib.hid ⟨k, rfl, by omega, by omega, h1, hO.trans' (two_only _ _ _ _ _ _)⟩
          clear hx hy hS hO
          go_wp2
          go_region
          go_wp2
          go_roundw
          case rel => exact HR.out
          case measure => first | (simp [intOf]; done) | (simp [intOf]; omega)
        · have l3 : (k : Int) ≤ (p : Int) := by omega
          have hkp2 : k = p := by omega
          rw [hkp2] at hS
          have HF : Sorted1 w D C bx A n c xs d a b wr := ⟨_, hS, HV.out, HE.out, hO⟩
          clear hS hO hkp2
          go_wp2
          refine bodyPost_ret (results_none rfl _ _ _) rfl ?_
          exact ⟨rfl, HF⟩
end
end Go.Proofs.Ytgpnpopmlommaaa
