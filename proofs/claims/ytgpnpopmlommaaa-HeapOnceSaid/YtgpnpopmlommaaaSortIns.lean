/- Go's insertion sort by a comparison, walked. -/
import Derived.Test.YtgpnpopmlommaaaSortMem
namespace Go.Proofs.Ytgpnpopmlommaaa
open Go.RowKit
set_option linter.unusedVariables false
def cmpV (bx : Nat) : Value := .func (.func 32) #[] #[.pointer (some ⟨bx, 0, none⟩)]
section
variable {w : World} {D C bx : Nat} {A : Option Addr} {n c : Nat} {xs : List Int} {d : Nat → Int} {a b : Nat}
/-- What a sort of the places from a to b leaves. -/
def Sorted1 (w : World) (D C bx : Nat) (A : Option Addr) (n c : Nat) (xs : List Int) (d : Nat → Int) (a b : Nat) (w' : World) : Prop :=
  ∃ e, SortIs w' D C bx A n c xs e ∧ Moved a b d e ∧ SortedOn (keyOfI xs) e a b ∧ Only [D] w w'
def InsOuter (w : World) (D C bx : Nat) (A : Option Addr) (n c : Nat) (xs : List Int) (d : Nat → Int) (a b : Nat) (i : Value) (wr : World) : Prop :=
  ∃ (k : Nat) (e : Nat → Int), i = .int .i64 k ∧ a < k ∧ k ≤ b ∧ SortIs wr D C bx A n c xs e ∧ Moved a k d e ∧ SortedOn (keyOfI xs) e a k ∧ Only [D] w wr
def InsInner (w : World) (D C bx : Nat) (A : Option Addr) (n c : Nat) (xs : List Int) (d : Nat → Int) (a i : Nat) (j : Value) (wr : World) : Prop :=
  ∃ (k : Nat) (e : Nat → Int), j = .int .i64 k ∧ a ≤ k ∧ k ≤ i ∧ SortIs wr D C bx A n c xs e ∧ Moved a (i + 1) d e ∧ InsAt (keyOfI xs) e a i k ∧ Only [D] w wr
theorem less_of_moved {d e : Nat → Int} {a i b : Nat} (h : Moved a i d e) (hi : i ≤ b) (hinc : ∀ p q, a ≤ p → p < q → q < b → d p < d q) : LessOn e a i b := by
  intro p q p1 p2 q1 q2
  rw [h.out q (.inr q1)]
  obtain ⟨j, j1, j2, e1⟩ := h.back p p1 p2
  rw [← e1]
  exact hinc j q j1 (by omega) q2
set_option maxHeartbeats 4000000 in
theorem ins_none_any (h : SortIs w D C bx A n c xs d) (hb : a ≤ n) :
    Calls Try.prog 45 #[.slice (some ⟨D, 0, none⟩) n C, .int .i64 a, .int .i64 a, cmpV bx] w fun e w' => e = .returned (.tuple #[]) ∧ w = w' := by
  have hn := h.small
  unfold cmpV
  go_enter Try.func45, Try.ntmps45
  go_wp2
  refine wp_loop_rounds 1 ?_
  rw [rounds_succ]
  go_wp2
  go_end0
  exact ⟨rfl, rfl⟩
set_option maxHeartbeats 4000000 in
theorem ins_any (h : SortIs w D C bx A n c xs d) (hab : a < b) (hb : b ≤ n) (hinc : ∀ p q, a ≤ p → p < q → q < b → d p < d q) :
    Calls Try.prog 45 #[.slice (some ⟨D, 0, none⟩) n C, .int .i64 a, .int .i64 b, cmpV bx] w fun e w' => e = .returned (.tuple #[]) ∧ Sorted1 w D C bx A n c xs d a b w' := by
  have hn := h.small
  have H0 : InsOuter w D C bx A n c xs d a b (.int .i64 ((a : Int) + 1)) w := ⟨a + 1, d, by go_num, by omega, by omega, h, Moved.refl _ _ _, (fun i j h1 h2 h3 => by omega), Only.refl _ _⟩
  have HINC := Lib.hid hinc
  clear h hinc
  unfold cmpV
  go_enter Try.func45, Try.ntmps45
  go_wp2
  go_loopw [8, 9] (fun i _ wr => InsOuter w D C bx A n c xs d a b i wr) (fun i _ _ => n - (intOf i).toNat)
  case atStart => exact H0
  case round =>
    clear H0
    obtain ⟨i, e, rfl, hai, hib, hS, hM, hSo, hO⟩ := hrel
    by_cases hlt : i < b
    · have hlt' : (i : Int) < (b : Int) := by omega
      have H1 : InsInner w D C bx A n c xs d a i (.int .i64 i) wr := ⟨i, e, rfl, by omega, Nat.le_refl _, hS, hM.wide (Nat.le_refl _) (by omega), .start hlt hSo (less_of_moved hM hib HINC.out), hO⟩
      clear hS hM hSo hO
      go_wp2
      obtain ⟨wo, hwo⟩ : ∃ wo : World, wo = wr := ⟨_, rfl⟩
      go_loopw [9] (fun j wr => InsInner w D C bx A n c xs d a i j wr) (fun j _ => (intOf j).toNat)
      case atStart => exact H1
      case round =>
        clear H1 hwo
        obtain ⟨j, e, rfl, haj, hji, hS, hM, hI, hO⟩ := hrel
        by_cases hja : a < j
        · obtain ⟨k, rfl⟩ : ∃ k, j = k + 1 := ⟨j - 1, by omega⟩
          have c1 := hS.data.cell (k := k + 1) (by omega)
          have c2 := hS.data.cell (k := k) (by omega)
          have f1 := hS.data.free (k + 1)
          have f2 := hS.data.free k
          obtain ⟨x, hx⟩ : ∃ x, x = e (k + 1) := ⟨_, rfl⟩
          obtain ⟨y, hy⟩ : ∃ y, y = e k := ⟨_, rfl⟩
          have rx := hS.inn (k + 1) (by omega)
          have ry := hS.inn k (by omega)
          rw [← hx] at c1 rx
          rw [← hy] at c2 ry
          have l1 : (k : Int) + 1 < (n : Int) := by omega
          have l2 : (k : Int) < (n : Int) := by omega
          have l3 : (a : Int) < (k : Int) + 1 := by omega
          obtain ⟨r, hr⟩ : ∃ r, r = cmpI (keyOfI xs x) (keyOfI xs y) := ⟨_, rfl⟩
          have HC : Hid (∀ m, Calls Try.prog 32 #[.int .i64 x, .int .i64 y, .pointer (some ⟨bx, 0, none⟩)] (wr.drewN m) fun e w' => e = .returned (.int .i64 r) ∧ ∃ m', w' = (wr.drewN m).drewN m') :=
            Lib.hid fun m => by rw [hr]; exact cmp_any (hS.drewN m) rx ry
          by_cases hlt2 : keyOfI xs x < keyOfI xs y
          · have hr2 : r < 0 := by rw [hr]; exact cmpI_lt hlt2
            have HR : Hid (∀ m, InsInner w D C bx A n c xs d a i (.int .i64 k) ((((wr.drewN m).setCell ⟨D, k + 1, none⟩ (.int .i64 y)).setCell ⟨D, k, none⟩ (.int .i64 x)).drew)) := by
              refine Lib.hid fun m => ⟨k, _, rfl, by omega, by omega, (hS.drewN m).swap (i := k + 1) (j := k) (by omega) (by omega) hx hy, hM.trans (.swp _ (by omega) (by omega) (by omega) (by omega)), ?_, (hO.trans' (only_drewN _ _ m)).trans' (two_only _ _ _ _ _ _)⟩
              exact hI.step hja hji (by rw [← hx, Nat.add_sub_cancel, ← hy]; exact hlt2)
            clear hx hy hr hlt2 hS hM hI hO
            go_wp2_with fail
            go_quiet ((go_at_call 32; exact Calls.quiet_of (HC.out _)))
            go_wp2
            have HR1 := HR.out nq
            generalize hw1 : wr.drewN nq = w1
            rw [hw1] at HR1
            have c3 : w1.cell? ⟨D, k + 1, none⟩ = some (.int .i64 x) := by rw [← hw1]; exact c1
            have c4 : w1.cell? ⟨D, k, none⟩ = some (.int .i64 y) := by rw [← hw1]; exact c2
            have f3 : w1.frozen? ⟨D, k + 1, none⟩ = false := by rw [← hw1]; exact f1
            have f4 : w1.frozen? ⟨D, k, none⟩ = false := by rw [← hw1]; exact f2
            have HR2 := Lib.hid HR1
            clear hw1 c1 c2 f1 f2 HR HC HR1
            go_region
            go_wp2
            go_roundw
            case rel => exact HR2.out
            case measure => first | (simp [intOf]; done) | (simp [intOf]; omega)
          · have hr2 : 0 ≤ r := by rw [hr]; exact cmpI_ge hlt2
            have HR : Hid (∀ m, InsOuter w D C bx A n c xs d a b (.int .i64 ((i : Int) + 1)) (wr.drewN m)) := by
              refine Lib.hid fun m => ⟨i + 1, e, by go_num, by omega, by omega, hS.drewN m, hM, ?_, hO.trans' (only_drewN _ _ m)⟩
              exact hI.done haj hji (.inr (by rw [← hx, Nat.add_sub_cancel, ← hy]; exact hlt2))
            clear hx hy hr hlt2 hS hM hI hO
            go_wp2_with fail
            go_quiet ((go_at_call 32; exact Calls.quiet_of (HC.out _)))
            go_wp2
            go_roundw
            case rel => exact HR.out _
            case measure => first | (simp [intOf]; done) | (simp [intOf]; omega)
        · have hd : decide ((a : Int) < (j : Int)) = false := by simp; omega
          have HR : Hid (∀ m, InsOuter w D C bx A n c xs d a b (.int .i64 ((i : Int) + 1)) (wr.drewN m)) := by
            refine Lib.hid fun m => ⟨i + 1, e, by go_num, by omega, by omega, hS.drewN m, hM, ?_, hO.trans' (only_drewN _ _ m)⟩
            exact hI.done haj hji (.inl (by omega))
          clear hS hM hI hO
          go_wp2_with fail
          go_quiet (fail)
          go_wp2
          go_roundw
          case rel => exact HR.out _
          case measure => first | (simp [intOf]; done) | (simp [intOf]; omega)
    · have hge : (b : Int) ≤ (i : Int) := by omega
      obtain rfl : b = i := by omega
      have HE : Sorted1 w D C bx A n c xs d a b wr := ⟨e, hS, hM, hSo, hO⟩
      clear hS hM hSo hO
      go_wp2
      go_end0
      exact ⟨rfl, HE⟩
end
end Go.Proofs.Ytgpnpopmlommaaa
