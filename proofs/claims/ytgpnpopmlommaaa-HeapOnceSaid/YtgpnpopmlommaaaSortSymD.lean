/- Go's symMerge, walked, by induction on its places. -/
import Derived.Test.YtgpnpopmlommaaaSortSymC
namespace Go.Proofs.Ytgpnpopmlommaaa
open Go.RowKit
set_option linter.unusedVariables false
section
variable {w : World} {D C bx : Nat} {A : Option Addr} {n c : Nat} {xs : List Int} {d : Nat → Int} {a b m : Nat}
set_option maxHeartbeats 16000000 in
set_option maxRecDepth 100000 in
theorem sym_more {t : Nat} (hR : SymOk D C bx A n c xs t) (h : SortIs w D C bx A n c xs d) (hM : MergeIn (keyOfI xs) d a m b) (ham : a + 1 < m) (hmb : m + 1 < b) (hb : b ≤ n) (ht : b - a ≤ t + 1) :
    Calls Try.prog 46 #[.slice (some ⟨D, 0, none⟩) n C, .int .i64 a, .int .i64 m, .int .i64 b, cmpV bx] w fun e w' => e = .returned (.tuple #[]) ∧ Sorted1 w D C bx A n c xs d a b w' := by
  have hn := h.small
  have HM := Lib.hid hM
  have HREC := Lib.hid hR
  obtain ⟨z1, hz1⟩ : ∃ z, z = (m : Int) - (a : Int) := ⟨_, rfl⟩
  have t1 : (m : Int) - (a : Int) = z1 := hz1.symm
  have t2 : (z1 == 1) = false := by simp; omega
  obtain ⟨z2, hz2⟩ : ∃ z, z = (b : Int) - (m : Int) := ⟨_, rfl⟩
  have t3 : (b : Int) - (m : Int) = z2 := hz2.symm
  have t4 : (z2 == 1) = false := by simp; omega
  obtain ⟨mid, hmid⟩ : ∃ mid, mid = (a + b) / 2 := ⟨_, rfl⟩
  have t5 : ((a : Int) + (b : Int)) / 2 = (mid : Int) := by omega
  obtain ⟨nn, hnn⟩ : ∃ nn, nn = mid + m := ⟨_, rfl⟩
  have t6 : (mid : Int) + (m : Int) = (nn : Int) := by omega
  obtain ⟨pp, hpp⟩ : ∃ pp, pp = nn - 1 := ⟨_, rfl⟩
  have t7 : (nn : Int) - 1 = (pp : Int) := by omega
  have m1 : 2 * mid ≤ a + b := by omega
  have m2 : a + b < 2 * mid + 2 := by omega
  have b1 : (a : Int) ≤ 1152921504606846976 := by omega
  have b2 : (b : Int) ≤ 1152921504606846976 := by omega
  have b3 : (m : Int) ≤ 1152921504606846976 := by omega
  have b4 : (mid : Int) ≤ 1152921504606846976 := by omega
  have HMID := Lib.hid hmid
  have HNN := Lib.hid hnn
  have HPP := Lib.hid hpp
  -- the search's bounds: (lo, r0)
  obtain ⟨lo, r0, hcase⟩ : ∃ lo r0, (mid < m ∧ lo + b = nn ∧ r0 = mid) ∨ (m ≤ mid ∧ lo = a ∧ r0 = m) := by
    rcases Nat.lt_or_ge mid m with hc | hc
    · exact ⟨nn - b, mid, .inl ⟨hc, by omega, rfl⟩⟩
    · exact ⟨a, m, .inr ⟨hc, rfl, rfl⟩⟩
  have HCASE := Lib.hid hcase
  have H0 : FindS w D C bx A n c xs d lo r0 pp (.int .i64 lo) (.int .i64 r0) w := ⟨lo, r0, rfl, rfl, Nat.le_refl _, by omega, Nat.le_refl _, .inl rfl, .inl rfl, h, Only.refl _ _⟩
  have hcase2 : ((mid : Int) < (m : Int) ∧ (nn : Int) - (b : Int) = (lo : Int) ∧ r0 = mid) ∨ ((m : Int) ≤ (mid : Int) ∧ lo = a ∧ r0 = m) := by omega
  clear hR h hM hz1 hz2 hmid hnn hpp hcase
  unfold cmpV at *
  rcases hcase2 with ⟨q1, q2, q3⟩ | ⟨q1, q2, q3⟩
  · have H0' : FindS w D C bx A n c xs d lo r0 pp (.int .i64 lo) (.int .i64 mid) w := by rw [q3] at H0 ⊢; exact H0
    clear H0 q3
    go_enter Try.func46, Try.ntmps46
    go_wp2_with fail
    clear t1 t2 t3 t4 t5 t6 t7
    go_loopw [20, 21] (fun i j wr => FindS w D C bx A n c xs d lo r0 pp i j wr) (fun i j _ => (intOf j).toNat - (intOf i).toNat)
    case atStart => exact H0'
    case round =>
      clear H0'
      obtain ⟨p, q, rfl, rfl, hp, hpq, hq, hlo, hhi, hS, hO⟩ := hrel
      have x0 := HCASE.out
      have x1 := HNN.out
      have x2 := HPP.out
      have b5 : (p : Int) ≤ 1152921504606846976 := by omega
      have b6 : (q : Int) ≤ 1152921504606846976 := by omega
      by_cases hlt : p < q
      · have l0 : (p : Int) < (q : Int) := by omega
        obtain ⟨g, hg⟩ : ∃ g, g = (p + q) / 2 := ⟨_, rfl⟩
        have hg' : ((p : Int) + (q : Int)) / 2 = (g : Int) := by omega
        have g1 : p ≤ g := by omega
        have g2 : g < q := by omega
        clear hg
        obtain ⟨u, hu⟩ : ∃ u, u = pp - g := ⟨_, rfl⟩
        have hu' : (pp : Int) - (g : Int) = (u : Int) := by omega
        have hu3 : pp + 1 - (g + 1) = u := by omega
        have l1 : (u : Int) < (n : Int) := by omega
        have l2 : (g : Int) < (n : Int) := by omega
        have c1 := hS.data.cell (k := u) (by omega)
        have c2 := hS.data.cell (k := g) (by omega)
        obtain ⟨x, hx⟩ : ∃ x, x = d u := ⟨_, rfl⟩
        obtain ⟨y, hy⟩ : ∃ y, y = d g := ⟨_, rfl⟩
        have rx := hS.inn u (by omega)
        have ry := hS.inn g (by omega)
        rw [← hx] at c1 rx
        rw [← hy] at c2 ry
        obtain ⟨r, hr⟩ : ∃ r, r = cmpI (keyOfI xs x) (keyOfI xs y) := ⟨_, rfl⟩
        have HC : Hid (∀ m, Calls Try.prog 32 #[.int .i64 x, .int .i64 y, .pointer (some ⟨bx, 0, none⟩)] (wr.drewN m) fun e w' => e = .returned (.int .i64 r) ∧ ∃ m', w' = (wr.drewN m).drewN m') :=
          Lib.hid fun m => by rw [hr]; exact cmp_any (hS.drewN m) rx ry
        by_cases hlt2 : keyOfI xs x < keyOfI xs y
        · have hr2 : r < 0 := by rw [hr]; exact cmpI_lt hlt2
          have HR : Hid (∀ t, FindS w D C bx A n c xs d lo r0 pp (.int .i64 p) (.int .i64 g) (wr.drewN t)) :=
            Lib.hid fun t => ⟨p, g, rfl, rfl, hp, g1, by omega, hlo, .inr (by rw [← hu, ← hx, ← hy]; exact hlt2), hS.drewN t, hO.trans' (only_drewN _ _ t)⟩
          clear hx hy hr hlt2 hS hO hlo hhi x0 x1 x2 hu hu3
          go_wp2_with fail
          go_quiet ((go_at_call 32; exact Calls.quiet_of (HC.out _)))
          go_wp2
          go_roundw
          case rel => exact HR.out _
          case measure => simp [intOf]; omega
        · have hr2 : 0 ≤ r := by rw [hr]; exact cmpI_ge hlt2
          have hr3 : decide (r < 0) = false := by simp; omega
          have hr4 : ¬ r < 0 := by omega
          have HR : Hid (∀ t, FindS w D C bx A n c xs d lo r0 pp (.int .i64 ((g : Int) + 1)) (.int .i64 q) (wr.drewN t)) :=
            Lib.hid fun t => ⟨g + 1, q, by go_num, rfl, by omega, by omega, hq, .inr (by rw [hu3, Nat.add_sub_cancel, ← hx, ← hy]; exact hlt2), hhi, hS.drewN t, hO.trans' (only_drewN _ _ t)⟩
          clear hx hy hr hlt2 hS hO hlo hhi x0 x1 x2 hu hu3
          go_wp2_with fail
          go_quiet ((go_at_call 32; exact Calls.quiet_of (HC.out _)))
          go_wp2
          go_roundw
          case rel => exact HR.out _
          case measure => simp [intOf]; omega
      · obtain rfl : p = q := by omega
        obtain ⟨en, hen⟩ : ∃ en, en = nn - p := ⟨_, rfl⟩
        have t8 : (nn : Int) - (p : Int) = (en : Int) := by omega
        have e1 : pp + 1 - p = en := by omega
        have e2 : pp - p = en - 1 := by omega
        rw [e1] at hlo
        rw [e2] at hhi
        have hc : CutAt (keyOfI xs) d a m b mid p en := ⟨by omega, by omega, by omega, by omega, by omega, by omega, by omega, fun k1 k2 => hlo.resolve_left (by omega), fun k1 k2 => hhi.resolve_left (by omega)⟩
        have y1 : en + p = mid + m := hc.sum
        have y2 := hc.sm
        have y3 := hc.smid
        have y4 := hc.ale
        have y5 := hc.enb
        have s6 : mid - a ≤ t := by omega
        have s7 : b - mid ≤ t := by omega
        clear hlo hhi x0 x1 x2 e1 e2 hen
        rcases Nat.lt_or_ge p mid with v1 | v1
        · rcases Nat.lt_or_ge p m with v2 | v2
          · have s1 := v2
            have s2 : m < en := by omega
            have u1 : (p : Int) < (m : Int) := by omega
            have u2 : (m : Int) < (en : Int) := by omega
            have u3 : (p : Int) < (mid : Int) := by omega
            have s4 := v1
            have s5' : mid < en := by omega
            have u4 : (mid : Int) < (en : Int) := by omega
            rcases Nat.lt_or_ge a p with v3 | v3
            · have s3 := v3
              have u5 : (a : Int) < (p : Int) := by omega
              rcases Nat.lt_or_ge en b with v4 | v4
              · have s5 := s5'
                have s8 := v4
                have u6 : (en : Int) < (b : Int) := by omega
                have HRot : Hid _ := Lib.hid (mid1_yes (w := w) hc hS hO hb s1 s2)
                unfold cmpV at HRot
                have HS2 : Hid _ := Lib.hid (mid2_yes (w := w) HREC.out HM.out hc hb s6 s3 s4)
                unfold cmpV at HS2
                have HS3 : Hid _ := Lib.hid (mid3_yes (w := w) HREC.out HM.out hc hb s7 s5 s8)
                unfold cmpV at HS3
                clear hS hO hc
                go_wp2_with (first
                  | (go_at_call 47; refine HRot.out.mono ?_; rintro e' w1 ⟨rfl, k1⟩)
                  | (go_at_call 46; (with_reducible refine (HS2.out _ k1).mono ?_); rintro e' w2 ⟨rfl, k2⟩)
                  | (go_at_call 46; (with_reducible refine (HS3.out _ k2).mono ?_); rintro e' w3 ⟨rfl, k3⟩))
                all_goals (go_end0; exact ⟨rfl, k3⟩)
              · have s5 : en = mid ∨ en = b := .inr (by omega)
                have u6 : (b : Int) ≤ (en : Int) := by omega
                have HRot : Hid _ := Lib.hid (mid1_yes (w := w) hc hS hO hb s1 s2)
                unfold cmpV at HRot
                have HS2 : Hid _ := Lib.hid (mid2_yes (w := w) HREC.out HM.out hc hb s6 s3 s4)
                unfold cmpV at HS2
                have HS3 : Hid _ := Lib.hid (mid3_no (w := w) (D := D) (C := C) (bx := bx) (A := A) (n := n) (c := c) HM.out hc s5)
                clear hS hO hc
                go_wp2_with (first
                  | (go_at_call 47; refine HRot.out.mono ?_; rintro e' w1 ⟨rfl, k1⟩)
                  | (go_at_call 46; (with_reducible refine (HS2.out _ k1).mono ?_); rintro e' w2 ⟨rfl, k2⟩))
                all_goals (go_end0; exact ⟨rfl, (HS3.out _ k2)⟩)
            · have s3 : p = a ∨ p = mid := .inl (by omega)
              have u5 : (p : Int) ≤ (a : Int) := by omega
              rcases Nat.lt_or_ge en b with v4 | v4
              · have s5 := s5'
                have s8 := v4
                have u6 : (en : Int) < (b : Int) := by omega
                have HRot : Hid _ := Lib.hid (mid1_yes (w := w) hc hS hO hb s1 s2)
                unfold cmpV at HRot
                have HS2 : Hid _ := Lib.hid (mid2_no (w := w) (D := D) (C := C) (bx := bx) (A := A) (n := n) (c := c) HM.out hc s3)
                have HS3 : Hid _ := Lib.hid (mid3_yes (w := w) HREC.out HM.out hc hb s7 s5 s8)
                unfold cmpV at HS3
                clear hS hO hc
                go_wp2_with (first
                  | (go_at_call 47; refine HRot.out.mono ?_; rintro e' w1 ⟨rfl, k1⟩)
                  | (go_at_call 46; (with_reducible refine (HS3.out _ (HS2.out _ k1)).mono ?_); rintro e' w3 ⟨rfl, k3⟩))
                all_goals (go_end0; exact ⟨rfl, k3⟩)
              · have s5 : en = mid ∨ en = b := .inr (by omega)
                have u6 : (b : Int) ≤ (en : Int) := by omega
                have HRot : Hid _ := Lib.hid (mid1_yes (w := w) hc hS hO hb s1 s2)
                unfold cmpV at HRot
                have HS2 : Hid _ := Lib.hid (mid2_no (w := w) (D := D) (C := C) (bx := bx) (A := A) (n := n) (c := c) HM.out hc s3)
                have HS3 : Hid _ := Lib.hid (mid3_no (w := w) (D := D) (C := C) (bx := bx) (A := A) (n := n) (c := c) HM.out hc s5)
                clear hS hO hc
                go_wp2_with (first
                  | (go_at_call 47; refine HRot.out.mono ?_; rintro e' w1 ⟨rfl, k1⟩))
                all_goals (go_end0; exact ⟨rfl, (HS3.out _ (HS2.out _ k1))⟩)
          · have s1 : p = m ∨ m = en := .inl (by omega)
            have u1 : (m : Int) ≤ (p : Int) := by omega
            have s3 : a < p := by omega
            have s4 := v1
            have u2 : (a : Int) < (p : Int) := by omega
            have u3 : (p : Int) < (mid : Int) := by omega
            have s5 : en = mid ∨ en = b := .inl (by omega)
            have u4 : (en : Int) ≤ (mid : Int) := by omega
            have k1 := mid1_no (w := w) hc hS hO s1
            have HS2 : Hid _ := Lib.hid (mid2_yes (w := w) HREC.out HM.out hc hb s6 s3 s4)
            unfold cmpV at HS2
            have HS3 : Hid _ := Lib.hid (mid3_no (w := w) (D := D) (C := C) (bx := bx) (A := A) (n := n) (c := c) HM.out hc s5)
            clear hS hO hc
            go_wp2_with (first
              | (go_at_call 46; (with_reducible refine (HS2.out _ k1).mono ?_); rintro e' w2 ⟨rfl, k2⟩))
            all_goals (go_end0; exact ⟨rfl, (HS3.out _ k2)⟩)
        · have s1 : p = m ∨ m = en := .inr (by omega)
          have u2 : (en : Int) ≤ (m : Int) := by omega
          have s3 : p = a ∨ p = mid := .inr (by omega)
          have u3 : (mid : Int) ≤ (p : Int) := by omega
          rcases Nat.lt_or_ge mid en with v2 | v2
          · have s5 := v2
            have s8 : en < b := by omega
            have u4 : (mid : Int) < (en : Int) := by omega
            have u5 : (en : Int) < (b : Int) := by omega
            have u1 : (p : Int) < (m : Int) := by omega
            rcases Nat.lt_or_ge a p with v3 | v3
            · have u6 : (a : Int) < (p : Int) := by omega
              have k1 := mid1_no (w := w) hc hS hO s1
              have HS2 : Hid _ := Lib.hid (mid2_no (w := w) (D := D) (C := C) (bx := bx) (A := A) (n := n) (c := c) HM.out hc s3)
              have HS3 : Hid _ := Lib.hid (mid3_yes (w := w) HREC.out HM.out hc hb s7 s5 s8)
              unfold cmpV at HS3
              clear hS hO hc
              go_wp2_with (first
                | (go_at_call 46; (with_reducible refine (HS3.out _ (HS2.out _ k1)).mono ?_); rintro e' w3 ⟨rfl, k3⟩))
              all_goals (go_end0; exact ⟨rfl, k3⟩)
            · have u6 : (p : Int) ≤ (a : Int) := by omega
              have k1 := mid1_no (w := w) hc hS hO s1
              have HS2 : Hid _ := Lib.hid (mid2_no (w := w) (D := D) (C := C) (bx := bx) (A := A) (n := n) (c := c) HM.out hc s3)
              have HS3 : Hid _ := Lib.hid (mid3_yes (w := w) HREC.out HM.out hc hb s7 s5 s8)
              unfold cmpV at HS3
              clear hS hO hc
              go_wp2_with (first
                | (go_at_call 46; (with_reducible refine (HS3.out _ (HS2.out _ k1)).mono ?_); rintro e' w3 ⟨rfl, k3⟩))
              all_goals (go_end0; exact ⟨rfl, k3⟩)
          · have s5 : en = mid ∨ en = b := .inl (by omega)
            have u4 : (en : Int) ≤ (mid : Int) := by omega
            have u1 : (m : Int) ≤ (p : Int) := by omega
            have u6 : (a : Int) < (p : Int) := by omega
            have k1 := mid1_no (w := w) hc hS hO s1
            have HS2 : Hid _ := Lib.hid (mid2_no (w := w) (D := D) (C := C) (bx := bx) (A := A) (n := n) (c := c) HM.out hc s3)
            have HS3 : Hid _ := Lib.hid (mid3_no (w := w) (D := D) (C := C) (bx := bx) (A := A) (n := n) (c := c) HM.out hc s5)
            clear hS hO hc
            go_wp2
            all_goals (go_end0; exact ⟨rfl, (HS3.out _ (HS2.out _ k1))⟩)
  · have H0' : FindS w D C bx A n c xs d lo r0 pp (.int .i64 a) (.int .i64 m) w := by rw [q3, q2] at H0 ⊢; exact H0
    clear H0 q2 q3
    have q4 : decide (mid < m) = false := by simp; omega
    have q5 : decide ((mid : Int) < (m : Int)) = false := by simp; omega
    go_enter Try.func46, Try.ntmps46
    go_wp2_with fail
    clear t1 t2 t3 t4 t5 t6 t7
    go_loopw [20, 21] (fun i j wr => FindS w D C bx A n c xs d lo r0 pp i j wr) (fun i j _ => (intOf j).toNat - (intOf i).toNat)
    case atStart => exact H0'
    case round =>
      clear H0'
      obtain ⟨p, q, rfl, rfl, hp, hpq, hq, hlo, hhi, hS, hO⟩ := hrel
      have x0 := HCASE.out
      have x1 := HNN.out
      have x2 := HPP.out
      have b5 : (p : Int) ≤ 1152921504606846976 := by omega
      have b6 : (q : Int) ≤ 1152921504606846976 := by omega
      by_cases hlt : p < q
      · have l0 : (p : Int) < (q : Int) := by omega
        obtain ⟨g, hg⟩ : ∃ g, g = (p + q) / 2 := ⟨_, rfl⟩
        have hg' : ((p : Int) + (q : Int)) / 2 = (g : Int) := by omega
        have g1 : p ≤ g := by omega
        have g2 : g < q := by omega
        clear hg
        obtain ⟨u, hu⟩ : ∃ u, u = pp - g := ⟨_, rfl⟩
        have hu' : (pp : Int) - (g : Int) = (u : Int) := by omega
        have hu3 : pp + 1 - (g + 1) = u := by omega
        have l1 : (u : Int) < (n : Int) := by omega
        have l2 : (g : Int) < (n : Int) := by omega
        have c1 := hS.data.cell (k := u) (by omega)
        have c2 := hS.data.cell (k := g) (by omega)
        obtain ⟨x, hx⟩ : ∃ x, x = d u := ⟨_, rfl⟩
        obtain ⟨y, hy⟩ : ∃ y, y = d g := ⟨_, rfl⟩
        have rx := hS.inn u (by omega)
        have ry := hS.inn g (by omega)
        rw [← hx] at c1 rx
        rw [← hy] at c2 ry
        obtain ⟨r, hr⟩ : ∃ r, r = cmpI (keyOfI xs x) (keyOfI xs y) := ⟨_, rfl⟩
        have HC : Hid (∀ m, Calls Try.prog 32 #[.int .i64 x, .int .i64 y, .pointer (some ⟨bx, 0, none⟩)] (wr.drewN m) fun e w' => e = .returned (.int .i64 r) ∧ ∃ m', w' = (wr.drewN m).drewN m') :=
          Lib.hid fun m => by rw [hr]; exact cmp_any (hS.drewN m) rx ry
        by_cases hlt2 : keyOfI xs x < keyOfI xs y
        · have hr2 : r < 0 := by rw [hr]; exact cmpI_lt hlt2
          have HR : Hid (∀ t, FindS w D C bx A n c xs d lo r0 pp (.int .i64 p) (.int .i64 g) (wr.drewN t)) :=
            Lib.hid fun t => ⟨p, g, rfl, rfl, hp, g1, by omega, hlo, .inr (by rw [← hu, ← hx, ← hy]; exact hlt2), hS.drewN t, hO.trans' (only_drewN _ _ t)⟩
          clear hx hy hr hlt2 hS hO hlo hhi x0 x1 x2 hu hu3
          go_wp2_with fail
          go_quiet ((go_at_call 32; exact Calls.quiet_of (HC.out _)))
          go_wp2
          go_roundw
          case rel => exact HR.out _
          case measure => simp [intOf]; omega
        · have hr2 : 0 ≤ r := by rw [hr]; exact cmpI_ge hlt2
          have hr3 : decide (r < 0) = false := by simp; omega
          have hr4 : ¬ r < 0 := by omega
          have HR : Hid (∀ t, FindS w D C bx A n c xs d lo r0 pp (.int .i64 ((g : Int) + 1)) (.int .i64 q) (wr.drewN t)) :=
            Lib.hid fun t => ⟨g + 1, q, by go_num, rfl, by omega, by omega, hq, .inr (by rw [hu3, Nat.add_sub_cancel, ← hx, ← hy]; exact hlt2), hhi, hS.drewN t, hO.trans' (only_drewN _ _ t)⟩
          clear hx hy hr hlt2 hS hO hlo hhi x0 x1 x2 hu hu3
          go_wp2_with fail
          go_quiet ((go_at_call 32; exact Calls.quiet_of (HC.out _)))
          go_wp2
          go_roundw
          case rel => exact HR.out _
          case measure => simp [intOf]; omega
      · obtain rfl : p = q := by omega
        obtain ⟨en, hen⟩ : ∃ en, en = nn - p := ⟨_, rfl⟩
        have t8 : (nn : Int) - (p : Int) = (en : Int) := by omega
        have e1 : pp + 1 - p = en := by omega
        have e2 : pp - p = en - 1 := by omega
        rw [e1] at hlo
        rw [e2] at hhi
        have hc : CutAt (keyOfI xs) d a m b mid p en := ⟨by omega, by omega, by omega, by omega, by omega, by omega, by omega, fun k1 k2 => hlo.resolve_left (by omega), fun k1 k2 => hhi.resolve_left (by omega)⟩
        have y1 : en + p = mid + m := hc.sum
        have y2 := hc.sm
        have y3 := hc.smid
        have y4 := hc.ale
        have y5 := hc.enb
        have s6 : mid - a ≤ t := by omega
        have s7 : b - mid ≤ t := by omega
        clear hlo hhi x0 x1 x2 e1 e2 hen
        rcases Nat.lt_or_ge p mid with v1 | v1
        · rcases Nat.lt_or_ge p m with v2 | v2
          · have s1 := v2
            have s2 : m < en := by omega
            have u1 : (p : Int) < (m : Int) := by omega
            have u2 : (m : Int) < (en : Int) := by omega
            have u3 : (p : Int) < (mid : Int) := by omega
            have s4 := v1
            have s5' : mid < en := by omega
            have u4 : (mid : Int) < (en : Int) := by omega
            rcases Nat.lt_or_ge a p with v3 | v3
            · have s3 := v3
              have u5 : (a : Int) < (p : Int) := by omega
              rcases Nat.lt_or_ge en b with v4 | v4
              · have s5 := s5'
                have s8 := v4
                have u6 : (en : Int) < (b : Int) := by omega
                have HRot : Hid _ := Lib.hid (mid1_yes (w := w) hc hS hO hb s1 s2)
                unfold cmpV at HRot
                have HS2 : Hid _ := Lib.hid (mid2_yes (w := w) HREC.out HM.out hc hb s6 s3 s4)
                unfold cmpV at HS2
                have HS3 : Hid _ := Lib.hid (mid3_yes (w := w) HREC.out HM.out hc hb s7 s5 s8)
                unfold cmpV at HS3
                clear hS hO hc
                go_wp2_with (first
                  | (go_at_call 47; refine HRot.out.mono ?_; rintro e' w1 ⟨rfl, k1⟩)
                  | (go_at_call 46; (with_reducible refine (HS2.out _ k1).mono ?_); rintro e' w2 ⟨rfl, k2⟩)
                  | (go_at_call 46; (with_reducible refine (HS3.out _ k2).mono ?_); rintro e' w3 ⟨rfl, k3⟩))
                all_goals (go_end0; exact ⟨rfl, k3⟩)
              · have s5 : en = mid ∨ en = b := .inr (by omega)
                have u6 : (b : Int) ≤ (en : Int) := by omega
                have HRot : Hid _ := Lib.hid (mid1_yes (w := w) hc hS hO hb s1 s2)
                unfold cmpV at HRot
                have HS2 : Hid _ := Lib.hid (mid2_yes (w := w) HREC.out HM.out hc hb s6 s3 s4)
                unfold cmpV at HS2
                have HS3 : Hid _ := Lib.hid (mid3_no (w := w) (D := D) (C := C) (bx := bx) (A := A) (n := n) (c := c) HM.out hc s5)
                clear hS hO hc
                go_wp2_with (first
                  | (go_at_call 47; refine HRot.out.mono ?_; rintro e' w1 ⟨rfl, k1⟩)
                  | (go_at_call 46; (with_reducible refine (HS2.out _ k1).mono ?_); rintro e' w2 ⟨rfl, k2⟩))
                all_goals (go_end0; exact ⟨rfl, (HS3.out _ k2)⟩)
            · have s3 : p = a ∨ p = mid := .inl (by omega)
              have u5 : (p : Int) ≤ (a : Int) := by omega
              rcases Nat.lt_or_ge en b with v4 | v4
              · have s5 := s5'
                have s8 := v4
                have u6 : (en : Int) < (b : Int) := by omega
                have HRot : Hid _ := Lib.hid (mid1_yes (w := w) hc hS hO hb s1 s2)
                unfold cmpV at HRot
                have HS2 : Hid _ := Lib.hid (mid2_no (w := w) (D := D) (C := C) (bx := bx) (A := A) (n := n) (c := c) HM.out hc s3)
                have HS3 : Hid _ := Lib.hid (mid3_yes (w := w) HREC.out HM.out hc hb s7 s5 s8)
                unfold cmpV at HS3
                clear hS hO hc
                go_wp2_with (first
                  | (go_at_call 47; refine HRot.out.mono ?_; rintro e' w1 ⟨rfl, k1⟩)
                  | (go_at_call 46; (with_reducible refine (HS3.out _ (HS2.out _ k1)).mono ?_); rintro e' w3 ⟨rfl, k3⟩))
                all_goals (go_end0; exact ⟨rfl, k3⟩)
              · have s5 : en = mid ∨ en = b := .inr (by omega)
                have u6 : (b : Int) ≤ (en : Int) := by omega
                have HRot : Hid _ := Lib.hid (mid1_yes (w := w) hc hS hO hb s1 s2)
                unfold cmpV at HRot
                have HS2 : Hid _ := Lib.hid (mid2_no (w := w) (D := D) (C := C) (bx := bx) (A := A) (n := n) (c := c) HM.out hc s3)
                have HS3 : Hid _ := Lib.hid (mid3_no (w := w) (D := D) (C := C) (bx := bx) (A := A) (n := n) (c := c) HM.out hc s5)
                clear hS hO hc
                go_wp2_with (first
                  | (go_at_call 47; refine HRot.out.mono ?_; rintro e' w1 ⟨rfl, k1⟩))
                all_goals (go_end0; exact ⟨rfl, (HS3.out _ (HS2.out _ k1))⟩)
          · have s1 : p = m ∨ m = en := .inl (by omega)
            have u1 : (m : Int) ≤ (p : Int) := by omega
            have s3 : a < p := by omega
            have s4 := v1
            have u2 : (a : Int) < (p : Int) := by omega
            have u3 : (p : Int) < (mid : Int) := by omega
            have s5 : en = mid ∨ en = b := .inl (by omega)
            have u4 : (en : Int) ≤ (mid : Int) := by omega
            have k1 := mid1_no (w := w) hc hS hO s1
            have HS2 : Hid _ := Lib.hid (mid2_yes (w := w) HREC.out HM.out hc hb s6 s3 s4)
            unfold cmpV at HS2
            have HS3 : Hid _ := Lib.hid (mid3_no (w := w) (D := D) (C := C) (bx := bx) (A := A) (n := n) (c := c) HM.out hc s5)
            clear hS hO hc
            go_wp2_with (first
              | (go_at_call 46; (with_reducible refine (HS2.out _ k1).mono ?_); rintro e' w2 ⟨rfl, k2⟩))
            all_goals (go_end0; exact ⟨rfl, (HS3.out _ k2)⟩)
        · have s1 : p = m ∨ m = en := .inr (by omega)
          have u2 : (en : Int) ≤ (m : Int) := by omega
          have s3 : p = a ∨ p = mid := .inr (by omega)
          have u3 : (mid : Int) ≤ (p : Int) := by omega
          rcases Nat.lt_or_ge mid en with v2 | v2
          · have s5 := v2
            have s8 : en < b := by omega
            have u4 : (mid : Int) < (en : Int) := by omega
            have u5 : (en : Int) < (b : Int) := by omega
            have u1 : (p : Int) < (m : Int) := by omega
            rcases Nat.lt_or_ge a p with v3 | v3
            · have u6 : (a : Int) < (p : Int) := by omega
              have k1 := mid1_no (w := w) hc hS hO s1
              have HS2 : Hid _ := Lib.hid (mid2_no (w := w) (D := D) (C := C) (bx := bx) (A := A) (n := n) (c := c) HM.out hc s3)
              have HS3 : Hid _ := Lib.hid (mid3_yes (w := w) HREC.out HM.out hc hb s7 s5 s8)
              unfold cmpV at HS3
              clear hS hO hc
              go_wp2_with (first
                | (go_at_call 46; (with_reducible refine (HS3.out _ (HS2.out _ k1)).mono ?_); rintro e' w3 ⟨rfl, k3⟩))
              all_goals (go_end0; exact ⟨rfl, k3⟩)
            · have u6 : (p : Int) ≤ (a : Int) := by omega
              have k1 := mid1_no (w := w) hc hS hO s1
              have HS2 : Hid _ := Lib.hid (mid2_no (w := w) (D := D) (C := C) (bx := bx) (A := A) (n := n) (c := c) HM.out hc s3)
              have HS3 : Hid _ := Lib.hid (mid3_yes (w := w) HREC.out HM.out hc hb s7 s5 s8)
              unfold cmpV at HS3
              clear hS hO hc
              go_wp2_with (first
                | (go_at_call 46; (with_reducible refine (HS3.out _ (HS2.out _ k1)).mono ?_); rintro e' w3 ⟨rfl, k3⟩))
              all_goals (go_end0; exact ⟨rfl, k3⟩)
          · have s5 : en = mid ∨ en = b := .inl (by omega)
            have u4 : (en : Int) ≤ (mid : Int) := by omega
            have u1 : (m : Int) ≤ (p : Int) := by omega
            have u6 : (a : Int) < (p : Int) := by omega
            have k1 := mid1_no (w := w) hc hS hO s1
            have HS2 : Hid _ := Lib.hid (mid2_no (w := w) (D := D) (C := C) (bx := bx) (A := A) (n := n) (c := c) HM.out hc s3)
            have HS3 : Hid _ := Lib.hid (mid3_no (w := w) (D := D) (C := C) (bx := bx) (A := A) (n := n) (c := c) HM.out hc s5)
            clear hS hO hc
            go_wp2
            all_goals (go_end0; exact ⟨rfl, (HS3.out _ (HS2.out _ k1))⟩)
end
end Go.Proofs.Ytgpnpopmlommaaa
