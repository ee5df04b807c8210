/- Two instances are the same: the code's Same. -/
import Derived.Test.YtmfahjghfpckeaaDoorInstEqB
namespace Go.Proofs.YtmfahjghfpckeaaDoor
open Go.RowKit
set_option linter.unusedVariables false
theorem take_eq_succ {α : Type} {xs ys : List α} {k : Nat} (h : xs.take k = ys.take k) (hk : k < xs.length) (hk' : k < ys.length) (he : xs[k] = ys[k]) : xs.take (k + 1) = ys.take (k + 1) := by
  rw [List.take_succ_eq_append_getElem hk, List.take_succ_eq_append_getElem hk', h, he]
theorem ne_of_at {α : Type} {xs ys : List α} {k : Nat} (hk : k < xs.length) (hk' : k < ys.length) (he : xs[k] ≠ ys[k]) : xs ≠ ys := by
  rintro rfl
  exact he rfl
theorem alike_from {w : World} {p q : Cust} {A B : Option Addr} {r : Bool} (hr : decide (p = q) = r) (h1 : Nums .u64 w A p.pats.length p.pats) (h2 : Nums .u64 w B q.pats.length q.pats) (l1 : p.pats.length ≤ maxLen) (l2 : q.pats.length ≤ maxLen) (k m : Nat) (W : World) (h : Below w.heap.size w W) :
    Calls Tryd.prog 39 #[custV p A k, custV q B m] W fun e w' => e = .returned (.bool r) ∧ Below W.heap.size W w' := by
  subst hr
  exact alike_any p q A k B m W (h1.keep h) (h2.keep h) l1 l2
theorem equali_from {w : World} {A C : Option Addr} {n m : Nat} {xs ys : List Int} {q : Bool} (hq : decide (xs = ys) = q) (ha : Ints w A n xs) (hb : Ints w C m ys) (hn : n ≤ maxLen) (hm : m ≤ maxLen) (c d : Nat) (W : World) (h : Below w.heap.size w W) :
    Calls Tryd.prog 41 #[.slice A n c, .slice C m d] W fun e w' => e = .returned (.bool q) ∧ Below W.heap.size W w' := by
  subst hq
  exact equal_i A C n m c d xs ys W (ha.keep h) (hb.keep h) hn hm
set_option maxHeartbeats 4000000 in
theorem equalf_c (A C : Option Addr) (n m c d : Nat) (xs ys : List Cust) (w : World) (hx : CustsIs w A xs) (hy : CustsIs w C ys) (fx : ∀ t ∈ xs, t.Wf) (fy : ∀ t ∈ ys, t.Wf) (hnx : xs.length = n) (hny : ys.length = m) (hn : n ≤ maxLen) (hm : m ≤ maxLen) :
    Calls Tryd.prog 38 #[.slice A n c, .slice C m d, .func (.func 39) #[] #[]] w fun e w' => e = .returned (.bool (decide (xs = ys))) ∧ Below w.heap.size w w' := by
  unfold maxLen at hn hm
  by_cases hnm : n = m
  · subst hnm
    have HX := Go.Lib.hid hx
    have HY := Go.Lib.hid hy
    have FX := Go.Lib.hid fx
    have FY := Go.Lib.hid fy
    have LX := Go.Lib.hid hnx
    have LY := Go.Lib.hid hny
    clear hx hy fx fy hnx hny
    go_enter Tryd.func38, Tryd.ntmps38
    go_wp2
    go_loopw [17] (fun iv wr => ∃ k : Nat, k ≤ n ∧ iv = .int .i64 k ∧ xs.take k = ys.take k ∧ Below w.heap.size w wr) (fun iv _ => n - (intOf iv).toNat)
    case atStart => exact ⟨0, Nat.zero_le _, rfl, by simp, Below.refl _ _⟩
    case round =>
      obtain ⟨k, hk, rfl, he, B⟩ := hrel
      have HE := Go.Lib.hid he
      have HB := Go.Lib.hid B
      clear he B
      by_cases hlt : k < n
      · have hkx : k < xs.length := by rw [LX.out]; exact hlt
        have hky : k < ys.length := by rw [LY.out]; exact hlt
        have k1 : (k : Int) < (n : Int) := by omega
        obtain ⟨b1, o1, P, kp, rfl, hca, hna, hka⟩ := HX.out k hkx
        obtain ⟨b2, o2, Q, kq, rfl, hcb, hnb, hkb⟩ := HY.out k hky
        have hwa := FX.out _ (List.getElem_mem hkx)
        have hwb := FY.out _ (List.getElem_mem hky)
        obtain ⟨p, hp⟩ : ∃ p, p = xs[k] := ⟨_, rfl⟩
        obtain ⟨q, hq⟩ : ∃ q, q = ys[k] := ⟨_, rfl⟩
        rw [← hp] at hca hna hka hwa
        rw [← hq] at hcb hnb hkb hwb
        obtain ⟨d0, d1, d2, d3, d4, d5, d6, d7⟩ := hca.keep HB.out
        obtain ⟨e0, e1, e2, e3, e4, e5, e6, e7⟩ := hcb.keep (HB.out.trans ((below_alloc wr (.cells #[.int .i64 p.kind, .int .i64 p.demand, .slice P p.pats.length kp, .int .i64 p.rate, .int .i64 p.size, .int .i64 p.start, .int .i64 p.rule, .int .i64 p.hold] 45)).mono HB.out.size))
        have HB2 := Go.Lib.hid (HB.out.trans (((below_alloc wr (.cells #[.int .i64 p.kind, .int .i64 p.demand, .slice P p.pats.length kp, .int .i64 p.rate, .int .i64 p.size, .int .i64 p.start, .int .i64 p.rule, .int .i64 p.hold] 45)).trans ((below_alloc _ (.cells #[.int .i64 q.kind, .int .i64 q.demand, .slice Q q.pats.length kq, .int .i64 q.rate, .int .i64 q.size, .int .i64 q.start, .int .i64 q.rule, .int .i64 q.hold] 45)).mono (by simp))).mono HB.out.size))
        have CAL := fun r hr => alike_from (r := r) hr hna hnb hwa.len hwb.len kp kq _ HB2.out
        unfold custV at CAL
        clear hca hna hka hwa hcb hnb hkb hwb
        cases hr : decide (p = q)
        · have hne : xs ≠ ys := ne_of_at hkx hky (by rw [← hp, ← hq]; exact of_decide_eq_false hr)
          have hd : decide (xs = ys) = false := decide_eq_false hne
          have HEnd := Go.Lib.hid hd
          have CA := CAL _ hr
          clear hne hd hr CAL hp hq hkx hky
          go_wp2_with (go_at_call 39; refine CA.mono ?_; rintro e w3 ⟨rfl, hb3⟩; have HB3 := Go.Lib.hid (HB2.out.trans (hb3.mono HB2.out.size)); clear hb3)
          go_ret
          exact ⟨ret_bool HEnd.out.symm, HB3.out⟩
        · have hpq : xs[k] = ys[k] := by rw [← hp, ← hq]; exact of_decide_eq_true hr
          have HT : Hid (xs.take (k + 1) = ys.take (k + 1)) := take_eq_succ HE.out hkx hky hpq
          have CA := CAL _ hr
          clear hpq hr CAL hp hq hkx hky
          go_wp2_with (go_at_call 39; refine CA.mono ?_; rintro e w3 ⟨rfl, hb3⟩; have HB3 := Go.Lib.hid (HB2.out.trans (hb3.mono HB2.out.size)); clear hb3)
          exact ⟨⟨k + 1, by omega, by go_num, HT.out, HB3.out⟩, by simp [intOf]; omega⟩
      · have hd : decide (xs = ys) = true := decide_eq_true (by have := HE.out; rwa [List.take_of_length_le (by rw [LX.out]; omega), List.take_of_length_le (by rw [LY.out]; omega)] at this)
        have HEnd := Go.Lib.hid hd
        clear hd
        go_wp2
        go_ret
        exact ⟨ret_bool HEnd.out.symm, HB.out⟩
  · have e : decide (xs = ys) = false := decide_eq_false (by rintro rfl; exact hnm (hnx.symm.trans hny))
    have hne : ((n : Int) == (m : Int)) = false := beq_eq_false_iff_ne.2 (by omega)
    rw [e]
    clear hx hy fx fy e
    go_enter Tryd.func38, Tryd.ntmps38
    go_wp2
    go_ret
    exact ⟨rfl, Below.refl _ _⟩
set_option maxHeartbeats 4000000 in
theorem equalf_d (A C : Option Addr) (n m c d : Nat) (xs ys : List (List Int)) (w : World) (hx : DistIs w A xs) (hy : DistIs w C ys) (fx : ∀ t ∈ xs, t.length ≤ maxLen ∧ ∀ z ∈ t, W64 z) (fy : ∀ t ∈ ys, t.length ≤ maxLen ∧ ∀ z ∈ t, W64 z) (hnx : xs.length = n) (hny : ys.length = m) (hn : n ≤ maxLen) (hm : m ≤ maxLen) :
    Calls Tryd.prog 40 #[.slice A n c, .slice C m d, .func (.func 41) #[] #[]] w fun e w' => e = .returned (.bool (decide (xs = ys))) ∧ Below w.heap.size w w' := by
  unfold maxLen at hn hm
  by_cases hnm : n = m
  · subst hnm
    have HX := Go.Lib.hid hx
    have HY := Go.Lib.hid hy
    have FX := Go.Lib.hid fx
    have FY := Go.Lib.hid fy
    have LX := Go.Lib.hid hnx
    have LY := Go.Lib.hid hny
    clear hx hy fx fy hnx hny
    go_enter Tryd.func40, Tryd.ntmps40
    go_wp2
    go_loopw [17] (fun iv wr => ∃ k : Nat, k ≤ n ∧ iv = .int .i64 k ∧ xs.take k = ys.take k ∧ Below w.heap.size w wr) (fun iv _ => n - (intOf iv).toNat)
    case atStart => exact ⟨0, Nat.zero_le _, rfl, by simp, Below.refl _ _⟩
    case round =>
      obtain ⟨k, hk, rfl, he, B⟩ := hrel
      have HE := Go.Lib.hid he
      have HB := Go.Lib.hid B
      clear he B
      by_cases hlt : k < n
      · have hkx : k < xs.length := by rw [LX.out]; exact hlt
        have hky : k < ys.length := by rw [LY.out]; exact hlt
        have k1 : (k : Int) < (n : Int) := by omega
        obtain ⟨b1, o1, P, kp, rfl, hca, hna, hka⟩ := HX.out k hkx
        obtain ⟨b2, o2, Q, kq, rfl, hcb, hnb, hkb⟩ := HY.out k hky
        have hwa := (FX.out _ (List.getElem_mem hkx)).1
        have hwb := (FY.out _ (List.getElem_mem hky)).1
        obtain ⟨p, hp⟩ : ∃ p, p = xs[k] := ⟨_, rfl⟩
        obtain ⟨q, hq⟩ : ∃ q, q = ys[k] := ⟨_, rfl⟩
        rw [← hp] at hca hna hka hwa
        rw [← hq] at hcb hnb hkb hwb
        have d0 := keep_cell HB.out hca
        have e0 := keep_cell HB.out hcb
        have CAL := fun r hr => equali_from (q := r) hr hna hnb hwa hwb kp kq _ HB.out
        clear hca hna hka hwa hcb hnb hkb hwb
        cases hr : decide (p = q)
        · have hne : xs ≠ ys := ne_of_at hkx hky (by rw [← hp, ← hq]; exact of_decide_eq_false hr)
          have hd : decide (xs = ys) = false := decide_eq_false hne
          have HEnd := Go.Lib.hid hd
          have CA := CAL _ hr
          clear hne hd hr CAL hp hq hkx hky
          go_wp2_with (go_at_call 41; refine CA.mono ?_; rintro e w3 ⟨rfl, hb3⟩; have HB3 := Go.Lib.hid (HB.out.trans (hb3.mono HB.out.size)); clear hb3)
          go_ret
          exact ⟨ret_bool HEnd.out.symm, HB3.out⟩
        · have hpq : xs[k] = ys[k] := by rw [← hp, ← hq]; exact of_decide_eq_true hr
          have HT : Hid (xs.take (k + 1) = ys.take (k + 1)) := take_eq_succ HE.out hkx hky hpq
          have CA := CAL _ hr
          clear hpq hr CAL hp hq hkx hky
          go_wp2_with (go_at_call 41; refine CA.mono ?_; rintro e w3 ⟨rfl, hb3⟩; have HB3 := Go.Lib.hid (HB.out.trans (hb3.mono HB.out.size)); clear hb3)
          exact ⟨⟨k + 1, by omega, by go_num, HT.out, HB3.out⟩, by simp [intOf]; omega⟩
      · have hd : decide (xs = ys) = true := decide_eq_true (by have := HE.out; rwa [List.take_of_length_le (by rw [LX.out]; omega), List.take_of_length_le (by rw [LY.out]; omega)] at this)
        have HEnd := Go.Lib.hid hd
        clear hd
        go_wp2
        go_ret
        exact ⟨ret_bool HEnd.out.symm, HB.out⟩
  · have e : decide (xs = ys) = false := decide_eq_false (by rintro rfl; exact hnm (hnx.symm.trans hny))
    have hne : ((n : Int) == (m : Int)) = false := beq_eq_false_iff_ne.2 (by omega)
    rw [e]
    clear hx hy fx fy e
    go_enter Tryd.func40, Tryd.ntmps40
    go_wp2
    go_ret
    exact ⟨rfl, Below.refl _ _⟩
end Go.Proofs.YtmfahjghfpckeaaDoor
