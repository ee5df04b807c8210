/- container/heap's down, over the row. -/
import Derived.Test.YtgpnpopmlommaaaHeapUpI
namespace Go.Proofs.Ytgpnpopmlommaaa
open Go.RowKit Go.Maps
set_option linter.unusedVariables false
def DownRel (w : World) (g : Nat) (F : List Nat) (q : Nat → Thing Int) (N n i0 : Nat) (i : Value) (wr : World) : Prop :=
  ∃ (k : Nat) (r : Nat → Thing Int), i = .int .i64 k ∧ k ≤ N ∧ HI wr g F r N ∧ DownAt2 LtI r n i0 k ∧ (row r n).Perm (row q n) ∧ (∀ m, n ≤ m → r m = q m) ∧ Only F w wr
def DownEnd (w : World) (g : Nat) (F : List Nat) (q : Nat → Thing Int) (N n i0 : Nat) (b : Bool) (w' : World) : Prop :=
  ∃ r, HI w' g F r N ∧ (row r n).Perm (row q n) ∧ (∀ m, n ≤ m → r m = q m) ∧ Only F w w' ∧ (b = true → Heaped LtI r n) ∧ (b = false → UpAt LtI r n i0) ∧ (i0 = 0 → Heaped LtI r n)
def DownPost (w : World) (g : Nat) (F : List Nat) (q : Nat → Thing Int) (N n i0 : Nat) (e : Ending) (w' : World) : Prop := ∃ b, e = .returned (.bool b) ∧ DownEnd w g F q N n i0 b w'
section
variable {w wr : World} {g : Nat} {F : List Nat} {q r : Nat → Thing Int} {N n i0 k : Nat}
theorem down_stop_I (hI : HI wr g F r N) (hD : DownAt2 LtI r n i0 k) (hP : (row r n).Perm (row q n)) (hS : ∀ m, n ≤ m → r m = q m) (hO : Only F w wr) (hk : ∀ j, 0 < j → j < n → par j = k → ¬ Bef LtI (r j) (r k)) :
    ∀ w1, Below wr.heap.size wr w1 → DownEnd w g F q N n i0 (decide (i0 < k)) w1 := by
  intro w1 hb
  obtain ⟨h1, h2⟩ := hD.done hk
  refine ⟨r, hI.below hb, hP, hS, hO.below hb, fun e => h2 (.inl (by simpa using e)), fun e => ?_, fun e => ?_⟩
  · have h3 := hD.2.1
    have : ¬ i0 < k := by simpa using e
    have : i0 = k := by omega
    rw [this]; exact h1
  · have h3 := hD.2.1
    rcases Nat.eq_zero_or_pos k with e2 | e2
    · exact h2 (.inr e2)
    · exact h2 (.inl (by omega))
theorem down_step_I {j : Nat} (hnN : n ≤ N) (hkN : k ≤ N) (hI : HI wr g F r N) (hD : DownAt2 LtI r n i0 k) (hP : (row r n).Perm (row q n)) (hS : ∀ m, n ≤ m → r m = q m) (hO : Only F w wr) (hj : Kid LtI r n k j) (hb : Bef LtI (r j) (r k)) :
    ∀ w1, Below wr.heap.size wr w1 → Calls Try.prog 71 #[.pointer (some ⟨g, 0, none⟩), .int .i64 k, .int .i64 j] w1 fun e w' => e = .returned (.tuple #[]) ∧ DownRel w g F q N n i0 (.int .i64 j) w' := by
  intro w1 hb1
  have hjn := hj.2.1
  have hkj : k < j := by rcases hj.1 with e | e <;> omega
  refine (swap_I (hI.below hb1) (i := k) (j := j) (by omega) (by omega)).mono ?_
  rintro e w' ⟨rfl, h1, h2⟩
  refine ⟨rfl, j, _, rfl, by omega, h1, hD.step order_I hj hb, (row_sw _ (by omega) hjn).trans hP, fun m hm => ?_, (hO.below hb1).trans' h2⟩
  rw [sw_other _ (by omega) (by omega)]
  exact hS m hm
theorem kid_right (hj : 2 * k + 2 < n) (hb : Bef LtI (r (2 * k + 2)) (r (2 * k + 1))) : Kid LtI r n k (2 * k + 2) := by
  refine ⟨.inr rfl, hj, fun j h0 hn he => ?_⟩
  rcases (par_kids h0).1 he with e | e
  · rw [e]; exact Bef.asymm order_I hb
  · rw [e]; exact Bef.irrefl order_I _
theorem kid_left (hj : 2 * k + 1 < n) (hb : 2 * k + 2 < n → ¬ Bef LtI (r (2 * k + 2)) (r (2 * k + 1))) : Kid LtI r n k (2 * k + 1) := by
  refine ⟨.inl rfl, hj, fun j h0 hn he => ?_⟩
  rcases (par_kids h0).1 he with e | e
  · rw [e]; exact Bef.irrefl order_I _
  · rw [e]; exact hb (by omega)
end
set_option maxHeartbeats 4000000 in
theorem down_I {w : World} {g : Nat} {F : List Nat} {q : Nat → Thing Int} {N n i0 : Nat} (h : HI w g F q N) (hnN : n ≤ N) (hi : i0 ≤ N) (hu : OffAt LtI q n i0) :
    Calls Try.prog 43 #[.iface 66 (.pointer (some ⟨g, 0, none⟩)), .int .i64 i0, .int .i64 n] w (DownPost w g F q N n i0) := by
  have hN := h.size
  have H0 : DownRel w g F q N n i0 (.int .i64 i0) w := ⟨i0, q, rfl, hi, h, hu.down, List.Perm.refl _, fun _ _ => rfl, Only.refl _ _⟩
  clear h hu
  go_enter Try.func43, Try.ntmps43
  go_wp2
  go_loopw [7] (fun v wr => DownRel w g F q N n i0 v wr) (fun v _ => N - (intOf v).toNat)
  case atStart => exact H0
  case round =>
    obtain ⟨k, r, rfl, hk, hI, hD, hP, hS, hO⟩ := hrel
    have hk' : (k : Int) ≤ 1048576 := by omega
    by_cases hA : 2 * k + 1 < n
    · obtain ⟨j1, hj1⟩ : ∃ j1, j1 = 2 * k + 1 := ⟨_, rfl⟩
      have e1 : 2 * (k : Int) + 1 = (j1 : Int) := by omega
      have l1 : (j1 : Int) < (n : Int) := by omega
      have l0 : (0 : Int) ≤ (j1 : Int) := by omega
      have hj1k : k < j1 := by omega
      by_cases hB : 2 * k + 2 < n
      · obtain ⟨j2, hj2⟩ : ∃ j2, j2 = 2 * k + 2 := ⟨_, rfl⟩
        have e2 : (j1 : Int) + 1 = (j2 : Int) := by omega
        have l2 : (j2 : Int) < (n : Int) := by omega
        have hj2k : k < j2 := by omega
        have hless := less_I hI (i := j2) (j := j1) (by omega) (by omega)
        by_cases hb : Bef LtI (r j2) (r j1)
        · rw [decide_eq_true hb] at hless
          have hK : Kid LtI r n k j2 := by rw [hj2]; exact kid_right hB (by rw [← hj2, ← hj1]; exact hb)
          have hless2 : ∀ w1, Below wr.heap.size wr w1 → _ := fun w1 hb1 => less_I (hI.below hb1) (i := j2) (j := k) (by omega) (by omega)
          by_cases hc : Bef LtI (r j2) (r k)
          · rw [decide_eq_true hc] at hless2
            have HN := Lib.hid (down_step_I hnN hk hI hD hP hS hO hK hc)
            have HL := Lib.hid hless
            have HL2 := Lib.hid hless2
            clear hless hless2 hI hD hP hS hO hK hc hb hj1 hj2
            go_wp2_with (first
              | (go_at_call 68; with_reducible refine HL.out.mono ?_; rintro e w1 ⟨rfl, hb1⟩)
              | (go_at_call 68; refine (HL2.out _ hb1).mono ?_; rintro e w2 ⟨rfl, hb2⟩)
              | (go_at_call 71; refine (HN.out _ (hb1.trans (hb2.mono hb1.size))).mono ?_; rintro e w3 ⟨rfl, hR⟩))
            go_roundw
            case rel => exact hR
            case measure => simp [intOf]; omega
          · rw [decide_eq_false hc] at hless2
            have HN := Lib.hid (down_stop_I hI hD hP hS hO (hK.of_done order_I hc))
            have HL := Lib.hid hless
            have HL2 := Lib.hid hless2
            clear hless hless2 hI hD hP hS hO hK hc hb hj1 hj2
            go_wp2_with (first
              | (go_at_call 68; with_reducible refine HL.out.mono ?_; rintro e w1 ⟨rfl, hb1⟩)
              | (go_at_call 68; refine (HL2.out _ hb1).mono ?_; rintro e w2 ⟨rfl, hb2⟩))
            go_ret
            exact ⟨_, rfl, HN.out _ (hb1.trans (hb2.mono hb1.size))⟩
        · rw [decide_eq_false hb] at hless
          have hK : Kid LtI r n k j1 := by rw [hj1]; exact kid_left hA (fun _ => by rw [← hj2, ← hj1]; exact hb)
          have hless2 : ∀ w1, Below wr.heap.size wr w1 → _ := fun w1 hb1 => less_I (hI.below hb1) (i := j1) (j := k) (by omega) (by omega)
          by_cases hc : Bef LtI (r j1) (r k)
          · rw [decide_eq_true hc] at hless2
            have HN := Lib.hid (down_step_I hnN hk hI hD hP hS hO hK hc)
            have HL := Lib.hid hless
            have HL2 := Lib.hid hless2
            clear hless hless2 hI hD hP hS hO hK hc hb hj1 hj2
            go_wp2_with (first
              | (go_at_call 68; with_reducible refine HL.out.mono ?_; rintro e w1 ⟨rfl, hb1⟩)
              | (go_at_call 68; refine (HL2.out _ hb1).mono ?_; rintro e w2 ⟨rfl, hb2⟩)
              | (go_at_call 71; refine (HN.out _ (hb1.trans (hb2.mono hb1.size))).mono ?_; rintro e w3 ⟨rfl, hR⟩))
            go_roundw
            case rel => exact hR
            case measure => simp [intOf]; omega
          · rw [decide_eq_false hc] at hless2
            have HN := Lib.hid (down_stop_I hI hD hP hS hO (hK.of_done order_I hc))
            have HL := Lib.hid hless
            have HL2 := Lib.hid hless2
            clear hless hless2 hI hD hP hS hO hK hc hb hj1 hj2
            go_wp2_with (first
              | (go_at_call 68; with_reducible refine HL.out.mono ?_; rintro e w1 ⟨rfl, hb1⟩)
              | (go_at_call 68; refine (HL2.out _ hb1).mono ?_; rintro e w2 ⟨rfl, hb2⟩))
            go_ret
            exact ⟨_, rfl, HN.out _ (hb1.trans (hb2.mono hb1.size))⟩
      · have e2 : decide ((j1 : Int) + 1 < (n : Int)) = false := by simp; omega
        have hK : Kid LtI r n k j1 := by rw [hj1]; exact kid_left hA (fun h => absurd h hB)
        have hless2 := less_I hI (i := j1) (j := k) (by omega) (by omega)
        by_cases hc : Bef LtI (r j1) (r k)
        · rw [decide_eq_true hc] at hless2
          have HN := Lib.hid (down_step_I hnN hk hI hD hP hS hO hK hc)
          have HL2 := Lib.hid hless2
          clear hless2 hI hD hP hS hO hK hc hj1
          go_wp2_with (first
            | (go_at_call 68; refine HL2.out.mono ?_; rintro e w2 ⟨rfl, hb2⟩)
            | (go_at_call 71; refine (HN.out _ hb2).mono ?_; rintro e w3 ⟨rfl, hR⟩))
          go_roundw
          case rel => exact hR
          case measure => simp [intOf]; omega
        · rw [decide_eq_false hc] at hless2
          have HN := Lib.hid (down_stop_I hI hD hP hS hO (hK.of_done order_I hc))
          have HL2 := Lib.hid hless2
          clear hless2 hI hD hP hS hO hK hc hj1
          go_wp2_with (go_at_call 68; refine HL2.out.mono ?_; rintro e w2 ⟨rfl, hb2⟩)
          go_ret
          exact ⟨_, rfl, HN.out _ hb2⟩
    · have hA' : decide ((n : Int) ≤ 2 * (k : Int) + 1) = true := by simp; omega
      have hA2 : (n : Int) ≤ 2 * (k : Int) + 1 := by omega
      have HN := Lib.hid (down_stop_I hI hD hP hS hO (fun j h0 hn he => by rcases (par_kids h0).1 he with e | e <;> omega))
      clear hI hD hP hS hO
      go_wp2
      go_ret
      exact ⟨_, rfl, HN.out _ (Below.refl _ _)⟩
end Go.Proofs.Ytgpnpopmlommaaa
