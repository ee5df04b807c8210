/- The walk of NumOrder: it returns true for any numbers, and writes nothing that was there. -/
import Derived.Test.YtnfjfejjbphgbaaMany
import Derived.Deep.QuietTactic
import Derived.BigQuiet
import Derived.WalkSmall
namespace Go.Proofs.Ytnfjfejjbphgbaa
open Go.RowKit
set_option linter.unusedVariables false

/-- How far a loop that counts down has come: k are left. -/
def DownAt (k : Nat) (i : Value) : Prop := (k = 0 ∧ i = .int .i64 (-1)) ∨ ∃ j : Nat, k = j + 1 ∧ i = .int .i64 j
theorem DownAt.next (j : Nat) : DownAt j (.int .i64 ((j : Int) - 1)) := by
  rcases j with _ | j
  · exact .inl ⟨rfl, rfl⟩
  · exact .inr ⟨j, rfl, by congr 1; omega⟩

theorem satV_comm (a b : Int) (wa : -9223372036854775808 ≤ a ∧ a ≤ 9223372036854775807) (wb : -9223372036854775808 ≤ b ∧ b ≤ 9223372036854775807) : satV a b = satV b a := by
  unfold satV
  rw [Int.add_comm b a]
  cases h : fitB (a + b)
  · simp only [Bool.false_eq_true, if_false]
    have : ¬ (-9223372036854775808 ≤ a + b ∧ a + b ≤ 9223372036854775807) := fun e => by rw [fitB_true e] at h; cases h
    by_cases ha : a < 0 <;> by_cases hb : b < 0 <;> simp [ha, hb] <;> omega
  · rfl
theorem sat_fit {a b : Int} (h : fitB (a + b) = true) : satV a b = fitV (a + b) := by unfold satV; rw [if_pos h, fitV_true h]

theorem back_step {w wr w1 : World} {N j : Nat} {xs : List Int} {v v' : Value} {y : Int} (hl : xs.length = N) (hj : j < N) (hy : xs.getD j 0 = y) (hb : Below w.heap.size w wr)
    {m : Nat} {L : List Value} (hm : N - (j + 1) = m) (hL : (xs.drop (j + 1)).reverse.map (Value.int .i64) = L) (h : wr.ownsRow w.heap.size 3 1 v m L)
    (hown : w1.ownsRow w.heap.size 3 1 v' (m + 1) (L ++ [.int .i64 y])) (hg : (wr.alloc (.cells #[.int .i64 y] 3)).grownBy w1 v.ownBlock) :
    w1.ownsRow w.heap.size 3 1 v' (N - j) ((xs.drop j).reverse.map (Value.int .i64)) ∧ Below w.heap.size w w1 := by
  subst hm; subst hL
  constructor
  · have e1 : N - (j + 1) + 1 = N - j := by omega
    have e2 : xs.drop j = y :: xs.drop (j + 1) := by
      rw [List.drop_eq_getElem_cons (by omega), ← hy, List.getD_eq_getElem?_getD, List.getElem?_eq_getElem (by omega)]; rfl
    rw [e1] at hown
    rw [e2, List.reverse_cons, List.map_append]
    exact hown
  · exact (hb.alloc hb.size _).grown hg (by have := hb.size; simp; omega) (own_ge h)

/-- A call that leaves the world alone, behind draws. -/
theorem quiet_more {P : Program} {f : FuncId} {args : Array Value} {w : World} {a n : Nat} {v : Value} (h : ∀ W, Calls P f args W fun e w' => e = .returned v ∧ w' = W) :
    Calls P f args (w.drewN (a + n)) fun e w'' => e = .returned v ∧ ∃ m, w'' = w.drewN (a + m) :=
  (h _).mono fun _ _ ⟨he, hm⟩ => ⟨he, n, hm⟩
theorem quiet_sat {a b v : Int} (wa : (Lit.int .i64 a).wf = true) (wb : (Lit.int .i64 b).wf = true) (h : satV a b = v) (w : World) :
    Calls Try.prog 24 #[.int .i64 a, .int .i64 b] w fun e w' => e = .returned (.int .i64 v) ∧ w' = w := (sat_any a b wa wb w).mono (by rintro e w' ⟨rfl, rfl⟩; exact ⟨by rw [h], rfl⟩)
theorem quiet_add {a b v : Int} {f : Bool} (wa : (Lit.int .i64 a).wf = true) (wb : (Lit.int .i64 b).wf = true) (h : fitV (a + b) = v) (hf : fitB (a + b) = f) (w : World) :
    Calls Try.prog 11 #[.int .i64 a, .int .i64 b] w fun e w' => e = .returned (.tuple #[.int .i64 v, .bool f]) ∧ w' = w := (add_any a b wa wb w).mono (by rintro e w' ⟨rfl, rfl⟩; exact ⟨by rw [h, hf], rfl⟩)


set_option maxHeartbeats 4000000 in
theorem order_long (A : Option Addr) (n c : Nat) (xs : List Int) (w : World) (hx : Ints w A 10 xs) (hb : ∀ k, -9223372036854775808 ≤ xs.getD k 0 ∧ xs.getD k 0 ≤ 9223372036854775807) (hc : n ≤ c) (hn : 10 < n) :
    Calls Try.prog 9 #[.slice A n c] w fun e w' => e = .returned (.bool true) ∧ Below w.heap.size w w' := by
  obtain ⟨i0, hi, hz0, hz1, hz2⟩ := info_parts info_int
  have HX := Go.Lib.hid hx
  have HB := Go.Lib.hid hb
  clear hx hb
  have hd : decide ((10 : Int) < (n : Int)) = true := decide_eq_true (by omega)
  go_enter Try.func9, Try.ntmps9
  go_wp2
  go_loopw [3, 4] (fun v i wr => ∃ k : Nat, k ≤ 10 ∧ DownAt k i ∧ wr.ownsRow w.heap.size 3 1 v (10 - k) ((xs.drop k).reverse.map (Value.int .i64)) ∧ Below w.heap.size w wr) (fun _ i _ => (intOf i + 1).toNat)
  case atStart => exact ⟨10, Nat.le_refl _, .inr ⟨9, rfl, rfl⟩, by rw [List.drop_of_length_le (by rw [HX.out.1]; exact Nat.le_refl _), Nat.sub_self]; exact World.ownsRow_nil _ _ _ _, Below.refl _ _⟩
  case round =>
    obtain ⟨k, hk, hik, hown, hbl⟩ := hrel
    have hbz := hbl.size
    rcases hik with ⟨rfl, rfl⟩ | ⟨j, rfl, rfl⟩
    · obtain ⟨A2, c2, rfl, hc2⟩ := own_form hown
      have hi2 := Ints.of_own hown
      rw [List.drop_zero] at hi2
      rw [Nat.sub_zero] at hi2 hc2
      have S1 := sum_any A 10 c xs wr (HX.out.keep hbl) (fun j _ => HB.out j) (by omega)
      have S2 := sum_any A2 10 c2 xs.reverse wr hi2 (fun j hj => by
        rw [List.getD_eq_getElem?_getD, List.getElem?_reverse (by rw [HX.out.1]; exact hj), ← List.getD_eq_getElem?_getD]; exact HB.out _) (by omega)
      rw [List.sum_reverse] at S2
      obtain ⟨t, ht⟩ : ∃ t, fitV xs.sum = t := ⟨_, rfl⟩
      obtain ⟨f, hf⟩ : ∃ f, fitB xs.sum = f := ⟨_, rfl⟩
      rw [ht, hf] at S1 S2
      have HBL := Go.Lib.hid hbl
      clear ht hf hi2 hown hbl
      by_cases h2 : 10 < 2
      · omega
      · obtain ⟨b, off, rfl, hcs⟩ := (HX.out.keep HBL.out).2 (by omega)
        have hc0 := hcs 0 (by omega)
        have hc1 := hcs 1 (by omega)
        have w0 := wf_iff.2 (HB.out 0)
        have w1 := wf_iff.2 (HB.out 1)
        have hcomm := satV_comm _ _ (HB.out 0) (HB.out 1)
        generalize xs.getD 0 0 = y0 at *
        generalize xs.getD 1 0 = y1 at *
        rw [Nat.add_zero] at hc0
        obtain ⟨u, hu⟩ : ∃ u, satV y0 y1 = u := ⟨_, rfl⟩
        obtain ⟨q, hq⟩ : ∃ q, fitV (y0 + y1) = q := ⟨_, rfl⟩
        have Q1 := quiet_sat w0 w1 hu
        have Q2 := quiet_sat w1 w0 (hcomm ▸ hu)
        have hfit := @sat_fit y0 y1
        clear hcs hcomm
        cases hg : fitB (y0 + y1)
        case' true =>
          obtain rfl : u = q := by rw [← hu, ← hq]; exact hfit hg
        all_goals
          have Q3 := quiet_add w0 w1 hq hg
          clear hu hq hfit hg w0 w1
          have i0' : (0 : Int) < ((10 : Nat) : Int) := by omega
          have i1' : (1 : Int) < ((10 : Nat) : Int) := by omega
          go_wp2_with (first | (go_at_call 19; refine S1.mono ?_; rintro e w' ⟨rfl, rfl⟩; clear S1) | (go_at_call 19; refine S2.mono ?_; rintro e w' ⟨rfl, rfl⟩))
          go_quiet ((go_at_call 24; exact Calls.quiet_of_same (Q1 _)))
          go_wp2_with fail
          go_quiet ((go_at_call 24; exact quiet_more Q2))
          go_wp2_with fail
          go_quiet ((go_at_call 11; exact quiet_more Q3))
          go_wp2_with (go_at_call 18; refine (lives_any _).mono ?_; rintro e w5 ⟨rfl, bl⟩)
          go_ret
          exact ⟨rfl, (below_drewN HBL.out _).trans (bl.mono (below_drewN HBL.out _).size)⟩
    · obtain ⟨y, hy⟩ : ∃ y, xs.getD j 0 = y := ⟨_, rfl⟩
      obtain ⟨b, off, rfl, hcs⟩ := (HX.out.keep hbl).2 (by omega)
      have hcj := hcs j (by omega)
      rw [hy] at hcj
      have HY := Go.Lib.hid hy
      obtain ⟨m, hm⟩ : ∃ m, 10 - (j + 1) = m := ⟨_, rfl⟩
      obtain ⟨L, hL⟩ : ∃ L, (xs.drop (j + 1)).reverse.map (Value.int .i64) = L := ⟨_, rfl⟩
      rw [hm, hL] at hown
      have hmb : m ≤ 10 := by omega
      have HM := Go.Lib.hid hm
      have HL := Go.Lib.hid hL
      clear hcs hy hm hL
      go_wp2_with (at_builtin; refine wpList_append_own _ rfl _ _ 22 rfl w.heap.size 3 i0 (.int .i64 0) 1 8 Try.underlying22 hi hz0 hz1 hz2 rfl (by decide) _ _ _ rfl (hown.alloc _) ⟨wr.heap.size, 0, none⟩ 1 1 [.int .i64 y] rfl rfl (one_cell _ _ _) (one_ok _) (by unfold maxLen; omega) (by omega) (by simp; omega) ?_)
      intro v' w1 hown' hgrow _
      have R := back_step HX.out.1 (by omega) HY.out hbl HM.out HL.out hown hown' hgrow
      clear hown' hgrow hown hcj hbl
      go_wp2
      go_roundw
      case rel => exact ⟨j, by omega, DownAt.next j, R.1, R.2⟩
      case measure => simp [intOf]

set_option maxHeartbeats 4000000 in
theorem order_short (A : Option Addr) (n c : Nat) (xs : List Int) (w : World) (hx : Ints w A n xs) (hb : ∀ k, -9223372036854775808 ≤ xs.getD k 0 ∧ xs.getD k 0 ≤ 9223372036854775807) (hc : n ≤ c) (hn : n ≤ 10) :
    Calls Try.prog 9 #[.slice A n c] w fun e w' => e = .returned (.bool true) ∧ Below w.heap.size w w' := by
  obtain ⟨i0, hi, hz0, hz1, hz2⟩ := info_parts info_int
  have HX := Go.Lib.hid hx
  have HB := Go.Lib.hid hb
  clear hx hb
  have hd : decide ((10 : Int) < (n : Int)) = false := decide_eq_false (by omega)
  go_enter Try.func9, Try.ntmps9
  go_wp2
  go_loopw [3, 4] (fun v i wr => ∃ k : Nat, k ≤ n ∧ DownAt k i ∧ wr.ownsRow w.heap.size 3 1 v (n - k) ((xs.drop k).reverse.map (Value.int .i64)) ∧ Below w.heap.size w wr) (fun _ i _ => (intOf i + 1).toNat)
  case atStart => exact ⟨n, Nat.le_refl _, DownAt.next _, by rw [List.drop_of_length_le (by rw [HX.out.1]; exact Nat.le_refl _), Nat.sub_self]; exact World.ownsRow_nil _ _ _ _, Below.refl _ _⟩
  case round =>
    obtain ⟨k, hk, hik, hown, hbl⟩ := hrel
    have hbz := hbl.size
    rcases hik with ⟨rfl, rfl⟩ | ⟨j, rfl, rfl⟩
    · obtain ⟨A2, c2, rfl, hc2⟩ := own_form hown
      have hi2 := Ints.of_own hown
      rw [List.drop_zero] at hi2
      rw [Nat.sub_zero] at hi2 hc2
      have S1 := sum_any A n c xs wr (HX.out.keep hbl) (fun j _ => HB.out j) (by omega)
      have S2 := sum_any A2 n c2 xs.reverse wr hi2 (fun j hj => by
        rw [List.getD_eq_getElem?_getD, List.getElem?_reverse (by rw [HX.out.1]; exact hj), ← List.getD_eq_getElem?_getD]; exact HB.out _) (by omega)
      rw [List.sum_reverse] at S2
      obtain ⟨t, ht⟩ : ∃ t, fitV xs.sum = t := ⟨_, rfl⟩
      obtain ⟨f, hf⟩ : ∃ f, fitB xs.sum = f := ⟨_, rfl⟩
      rw [ht, hf] at S1 S2
      have HBL := Go.Lib.hid hbl
      clear ht hf hi2 hown hbl
      by_cases h2 : n < 2
      · go_wp2_with (first | (go_at_call 19; refine S1.mono ?_; rintro e w' ⟨rfl, rfl⟩; clear S1) | (go_at_call 19; refine S2.mono ?_; rintro e w' ⟨rfl, rfl⟩) | (go_at_call 18; refine (lives_any _).mono ?_; rintro e w5 ⟨rfl, bl⟩))
        go_ret
        exact ⟨rfl, HBL.out.trans (bl.mono HBL.out.size)⟩
      · obtain ⟨b, off, rfl, hcs⟩ := (HX.out.keep HBL.out).2 (by omega)
        have hc0 := hcs 0 (by omega)
        have hc1 := hcs 1 (by omega)
        have w0 := wf_iff.2 (HB.out 0)
        have w1 := wf_iff.2 (HB.out 1)
        have hcomm := satV_comm _ _ (HB.out 0) (HB.out 1)
        generalize xs.getD 0 0 = y0 at *
        generalize xs.getD 1 0 = y1 at *
        rw [Nat.add_zero] at hc0
        obtain ⟨u, hu⟩ : ∃ u, satV y0 y1 = u := ⟨_, rfl⟩
        obtain ⟨q, hq⟩ : ∃ q, fitV (y0 + y1) = q := ⟨_, rfl⟩
        have Q1 := quiet_sat w0 w1 hu
        have Q2 := quiet_sat w1 w0 (hcomm ▸ hu)
        have hfit := @sat_fit y0 y1
        clear hcs hcomm
        cases hg : fitB (y0 + y1)
        case' true =>
          obtain rfl : u = q := by rw [← hu, ← hq]; exact hfit hg
        all_goals
          have Q3 := quiet_add w0 w1 hq hg
          clear hu hq hfit hg w0 w1
          have i0' : (0 : Int) < ((n : Nat) : Int) := by omega
          have i1' : (1 : Int) < ((n : Nat) : Int) := by omega
          go_wp2_with (first | (go_at_call 19; refine S1.mono ?_; rintro e w' ⟨rfl, rfl⟩; clear S1) | (go_at_call 19; refine S2.mono ?_; rintro e w' ⟨rfl, rfl⟩))
          go_quiet ((go_at_call 24; exact Calls.quiet_of_same (Q1 _)))
          go_wp2_with fail
          go_quiet ((go_at_call 24; exact quiet_more Q2))
          go_wp2_with fail
          go_quiet ((go_at_call 11; exact quiet_more Q3))
          go_wp2_with (go_at_call 18; refine (lives_any _).mono ?_; rintro e w5 ⟨rfl, bl⟩)
          go_ret
          exact ⟨rfl, (below_drewN HBL.out _).trans (bl.mono (below_drewN HBL.out _).size)⟩
    · obtain ⟨y, hy⟩ : ∃ y, xs.getD j 0 = y := ⟨_, rfl⟩
      obtain ⟨b, off, rfl, hcs⟩ := (HX.out.keep hbl).2 (by omega)
      have hcj := hcs j (by omega)
      rw [hy] at hcj
      have HY := Go.Lib.hid hy
      obtain ⟨m, hm⟩ : ∃ m, n - (j + 1) = m := ⟨_, rfl⟩
      obtain ⟨L, hL⟩ : ∃ L, (xs.drop (j + 1)).reverse.map (Value.int .i64) = L := ⟨_, rfl⟩
      rw [hm, hL] at hown
      have hmb : m ≤ 10 := by omega
      have HM := Go.Lib.hid hm
      have HL := Go.Lib.hid hL
      clear hcs hy hm hL
      go_wp2_with (at_builtin; refine wpList_append_own _ rfl _ _ 22 rfl w.heap.size 3 i0 (.int .i64 0) 1 8 Try.underlying22 hi hz0 hz1 hz2 rfl (by decide) _ _ _ rfl (hown.alloc _) ⟨wr.heap.size, 0, none⟩ 1 1 [.int .i64 y] rfl rfl (one_cell _ _ _) (one_ok _) (by unfold maxLen; omega) (by omega) (by simp; omega) ?_)
      intro v' w1 hown' hgrow _
      have R := back_step HX.out.1 (by omega) HY.out hbl HM.out HL.out hown hown' hgrow
      clear hown' hgrow hown hcj hbl
      go_wp2
      go_roundw
      case rel => exact ⟨j, by omega, DownAt.next j, R.1, R.2⟩
      case measure => simp [intOf]

theorem order_any (A : Option Addr) (n c : Nat) (zs : List Int) (w : World) (h : Ints w A n (zs.take n) ∧ n ≤ c ∧ (∀ k, -9223372036854775808 ≤ zs.getD k 0 ∧ zs.getD k 0 ≤ 9223372036854775807) ∧ n ≤ zs.length) :
    Calls Try.prog 9 #[.slice A n c] w fun e w' => e = .returned (.bool true) ∧ Below w.heap.size w w' := by
  obtain ⟨h1, h2, h3, h4⟩ := h
  by_cases hn : 10 < n
  · have := h1.cut (k := 10) (by omega)
    rw [List.take_take, Nat.min_eq_left (by omega)] at this
    exact order_long A n c _ w this (take_bd h3 10) h2 hn
  · exact order_short A n c _ w h1 (take_bd h3 n) h2 (by omega)
end Go.Proofs.Ytnfjfejjbphgbaa
