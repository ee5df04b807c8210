/- container/heap's up, over the row. -/
import Derived.Test.YtgpnpopmlommaaaHeapSwapI
namespace Go.Proofs.Ytgpnpopmlommaaa
open Go.RowKit Go.Maps
set_option linter.unusedVariables false
def UpRel (w : World) (g : Nat) (F : List Nat) (q : Nat → Thing Int) (N n : Nat) (j : Value) (wr : World) : Prop :=
  ∃ (k : Nat) (r : Nat → Thing Int), j = .int .i64 k ∧ k < n ∧ HI wr g F r N ∧ UpAt LtI r n k ∧ (row r n).Perm (row q n) ∧ (∀ m, n ≤ m → r m = q m) ∧ Only F w wr
def UpEnd (w : World) (g : Nat) (F : List Nat) (q : Nat → Thing Int) (N n : Nat) (w' : World) : Prop :=
  ∃ r, HI w' g F r N ∧ Heaped LtI r n ∧ (row r n).Perm (row q n) ∧ (∀ m, n ≤ m → r m = q m) ∧ Only F w w'
theorem up_I {w : World} {g : Nat} {F : List Nat} {q : Nat → Thing Int} {N n : Nat} (h : HI w g F q N) (hnN : n ≤ N) {j : Nat} (hj : j < n) (hu : UpAt LtI q n j) :
    Calls Try.prog 44 #[.iface 66 (.pointer (some ⟨g, 0, none⟩)), .int .i64 j] w fun e w' => e = .returned (.tuple #[]) ∧ UpEnd w g F q N n w' := by
  have hn := h.size
  have H0 : UpRel w g F q N n (.int .i64 j) w := ⟨j, q, rfl, hj, h, hu, List.Perm.refl _, fun _ _ => rfl, Only.refl _ _⟩
  clear h hu
  go_enter Try.func44, Try.ntmps44
  go_wp2
  go_loopw [1] (fun v wr => UpRel w g F q N n v wr) (fun v _ => (intOf v).toNat)
  case atStart => exact H0
  case round =>
    obtain ⟨k, r, rfl, hk, hI, hU, hP, hS, hO⟩ := hrel
    have hk' : (k : Int) ≤ 1048576 := by omega
    rcases Nat.eq_zero_or_pos k with rfl | h0
    · have HE : UpEnd w g F q N n wr := ⟨r, hI, hU.done (.inl rfl), hP, hS, hO⟩
      go_wp2
      go_end0
      exact ⟨rfl, HE⟩
    · have hpk : par k < k := by unfold par; omega
      obtain ⟨p, hp⟩ : ∃ p, p = par k := ⟨_, rfl⟩
      rw [← hp] at hpk
      have hdiv : ((k : Int) - 1) / 2 = (p : Int) := by rw [hp]; unfold par; omega
      have hne : ((p : Int) == (k : Int)) = false := by simpa using (by omega : ¬ ((p : Int) = (k : Int)))
      have hless := less_I hI (i := k) (j := p) (by omega) (by omega)
      by_cases hb : Bef LtI (r k) (r p)
      · rw [decide_eq_true hb] at hless
        have HN : ∀ w1, Below wr.heap.size wr w1 → Calls Try.prog 71 #[.pointer (some ⟨g, 0, none⟩), .int .i64 p, .int .i64 k] w1 fun e w' => e = .returned (.tuple #[]) ∧ UpRel w g F q N n (.int .i64 p) w' := by
          intro w1 hb1
          refine (swap_I (hI.below hb1) (i := p) (j := k) (by omega) (by omega)).mono ?_
          rintro e w' ⟨rfl, h1, h2⟩
          refine ⟨rfl, p, _, rfl, by omega, h1, ?_, (row_sw _ (by omega) hk).trans hP, fun m hm => by rw [sw_other _ (by omega) (by omega)]; exact hS m hm, (hO.below hb1).trans' h2⟩
          rw [hp] at hb ⊢
          exact hU.step order_I h0 hk hb
        have HN := Lib.hid HN
        have HLess := Lib.hid hless
        clear hless hp hI hU hP hS hO hb
        go_wp2_with (first
          | (go_at_call 68; refine HLess.out.mono ?_; rintro e w1 ⟨rfl, hb1⟩)
          | (go_at_call 71; refine (HN.out _ hb1).mono ?_; rintro e w2 ⟨rfl, hR⟩))
        go_roundw
        case rel => exact hR
        case measure => simp [intOf]; omega
      · rw [decide_eq_false hb] at hless
        have HN : ∀ w1, Below wr.heap.size wr w1 → UpEnd w g F q N n w1 := fun w1 hb1 => ⟨r, hI.below hb1, hU.done (.inr (by rw [← hp]; exact hb)), hP, hS, hO.below hb1⟩
        have HN := Lib.hid HN
        have HLess := Lib.hid hless
        clear hless hp hI hU hP hS hO hb
        go_wp2_with (go_at_call 68; refine HLess.out.mono ?_; rintro e w1 ⟨rfl, hb1⟩)
        go_end0
        exact ⟨rfl, HN.out _ hb1⟩
end Go.Proofs.Ytgpnpopmlommaaa
