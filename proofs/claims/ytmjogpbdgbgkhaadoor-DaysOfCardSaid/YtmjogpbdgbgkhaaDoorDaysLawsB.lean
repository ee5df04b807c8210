/- The walks of layer 2's laws DaysOf, DaysTwice, DaysNexts and DaysParses, off what the functions of package days answer. -/
import Derived.Test.YtmjogpbdgbgkhaaDoorDaysApi
namespace Go.Proofs.YtmjogpbdgbgkhaaDoor
open Go.RowKit
set_option linter.unusedVariables false

theorem u64_wf {s : Nat} (hs : s < 2 ^ 64) : (Lit.int .u64 (s : Int)).wf = true := wfu_iff.2 (by omega)

set_option maxHeartbeats 2000000 in
theorem of_long (HA : AllOk) (HO : OfOk) (L : ∀ w, Tab w → Calls Tryd.prog 22 #[] w fun e w' => e = .returned (.bool true) ∧ Below w.heap.size w w')
    (A : Option Addr) (n c : Nat) (xs : List Int) (w : World) (ht : Tab w) (hx : Ints w A 20 xs) (hb : ∀ k, -9223372036854775808 ≤ xs.getD k 0 ∧ xs.getD k 0 ≤ 9223372036854775807) (hc : n ≤ c) (hn : 20 < n) :
    Calls Tryd.prog 4 #[.slice A n c] w fun e w' => e = .returned (.bool true) ∧ Below w.heap.size w w' := by
  have TT := Go.Lib.hid ht
  clear ht
  have HX := Go.Lib.hid hx
  have HB := Go.Lib.hid hb
  have HOF := Go.Lib.hid HO
  have HAL := Go.Lib.hid HA
  clear hx hb HO HA
  have hd : decide ((20 : Int) < (n : Int)) = true := decide_eq_true (by omega)
  go_enter Tryd.func4, Tryd.ntmps4
  go_wp2
  go_loopw [3, 4] (fun sv iv wr => ∃ k : Nat, k ≤ 20 ∧ iv = .int .i64 k ∧ sv = .int .u64 ((ofN (xs.take k) : Nat) : Int) ∧ Below w.heap.size w wr) (fun _ iv _ => 20 - (intOf iv).toNat)
  case atStart => exact ⟨0, Nat.zero_le _, rfl, rfl, Below.refl _ _⟩
  case round =>
    obtain ⟨k, hk, rfl, rfl, CW⟩ := hrel
    by_cases hlt : k < 20
    · obtain ⟨b, off, rfl, hcs⟩ := (HX.out.keep CW).2 (by omega)
      have hck := hcs k hlt
      have HS := Go.Lib.hid (ofN_succ (xs := xs) (k := k) (by rw [HX.out.1]; exact hlt))
      obtain ⟨x, hx⟩ : ∃ x, xs.getD k 0 = x := ⟨_, rfl⟩
      rw [hx] at hck HS
      obtain ⟨s, hs⟩ : ∃ s, ofN (xs.take k) = s := ⟨_, rfl⟩
      have PR := put_ref s (hs ▸ ofN_lt _) x 1 (.inr rfl)
      rw [hs] at HS ⊢
      clear hcs hx hs
      go_wp2_with (go_at_call 17; refine (PR _).mono ?_; rintro e w2 ⟨rfl, hb2⟩; replace CW := CW.trans (hb2.mono CW.size); clear hb2)
      go_roundw
      case rel => exact ⟨k + 1, by omega, by go_num, by rw [HS.out], CW⟩
      case measure => simp [intOf]; omega
    · have e : xs.take k = xs := List.take_of_length_le (by rw [HX.out.1]; omega)
      rw [e]
      have hs := ofN_lt xs
      have c1 := fun W h => HOF.out A 20 c xs W h (by omega) HB.out
      have c2 := fun W => HAL.out (ofN xs) W hs
      have c3 := fun (W : World) (A : Option Addr) (n c : Nat) (hn : (allI (ofN xs)).length = n) (h : Ints W A n (allI (ofN xs))) => HOF.out A n c (allI (ofN xs)) W h (by have := upTo_len (ofN xs) 64; have hh : (allI (ofN xs)).length = (upTo (ofN xs) 64).length := rfl; omega) (by
        intro j
        rcases Nat.lt_or_ge j (allI (ofN xs)).length with hj | hj
        · have := allI_mem hj; omega
        · rw [List.getD_eq_getElem?_getD, List.getElem?_eq_none hj]; decide)
      rw [ofN_all hs] at c3
      generalize ofN xs = s at *
      clear e hs
      go_wp2_with (first
        | (go_at_call 23; refine (c1 _ (HX.out.keep CW)).mono ?_; rintro e x1 ⟨rfl, hb⟩; replace CW := CW.trans (hb.mono CW.size); clear hb c1)
        | (go_at_call 12; refine (c2 _).mono ?_; rintro e x2 ⟨A1, k1, rfl, M1, _, hb⟩; replace CW := CW.trans (hb.mono CW.size); clear hb)
        | (go_at_call 23; refine (c3 _ _ _ _ rfl M1).mono ?_; rintro e x3 ⟨rfl, hb⟩; replace CW := CW.trans (hb.mono CW.size); clear hb)
        | (go_at_call 22; refine (L _ (TT.out.keep CW)).mono ?_; rintro e x13 ⟨rfl, hb⟩; replace CW := CW.trans (hb.mono CW.size); clear hb))
      go_ret
      exact ⟨rfl, CW⟩

set_option maxHeartbeats 2000000 in
theorem of_short (HA : AllOk) (HO : OfOk) (L : ∀ w, Tab w → Calls Tryd.prog 22 #[] w fun e w' => e = .returned (.bool true) ∧ Below w.heap.size w w')
    (A : Option Addr) (n c : Nat) (xs : List Int) (w : World) (ht : Tab w) (hx : Ints w A n xs) (hb : ∀ k, -9223372036854775808 ≤ xs.getD k 0 ∧ xs.getD k 0 ≤ 9223372036854775807) (hc : n ≤ c) (hn : n ≤ 20) :
    Calls Tryd.prog 4 #[.slice A n c] w fun e w' => e = .returned (.bool true) ∧ Below w.heap.size w w' := by
  have TT := Go.Lib.hid ht
  clear ht
  have HX := Go.Lib.hid hx
  have HB := Go.Lib.hid hb
  have HOF := Go.Lib.hid HO
  have HAL := Go.Lib.hid HA
  clear hx hb HO HA
  have hd : decide ((20 : Int) < (n : Int)) = false := decide_eq_false (by omega)
  go_enter Tryd.func4, Tryd.ntmps4
  go_wp2
  go_loopw [3, 4] (fun sv iv wr => ∃ k : Nat, k ≤ n ∧ iv = .int .i64 k ∧ sv = .int .u64 ((ofN (xs.take k) : Nat) : Int) ∧ Below w.heap.size w wr) (fun _ iv _ => n - (intOf iv).toNat)
  case atStart => exact ⟨0, Nat.zero_le _, rfl, rfl, Below.refl _ _⟩
  case round =>
    obtain ⟨k, hk, rfl, rfl, CW⟩ := hrel
    by_cases hlt : k < n
    · obtain ⟨b, off, rfl, hcs⟩ := (HX.out.keep CW).2 (by omega)
      have hck := hcs k hlt
      have HS := Go.Lib.hid (ofN_succ (xs := xs) (k := k) (by rw [HX.out.1]; exact hlt))
      obtain ⟨x, hx⟩ : ∃ x, xs.getD k 0 = x := ⟨_, rfl⟩
      rw [hx] at hck HS
      obtain ⟨s, hs⟩ : ∃ s, ofN (xs.take k) = s := ⟨_, rfl⟩
      have PR := put_ref s (hs ▸ ofN_lt _) x 1 (.inr rfl)
      rw [hs] at HS ⊢
      clear hcs hx hs
      go_wp2_with (go_at_call 17; refine (PR _).mono ?_; rintro e w2 ⟨rfl, hb2⟩; replace CW := CW.trans (hb2.mono CW.size); clear hb2)
      go_roundw
      case rel => exact ⟨k + 1, by omega, by go_num, by rw [HS.out], CW⟩
      case measure => simp [intOf]; omega
    · have e : xs.take k = xs := List.take_of_length_le (by rw [HX.out.1]; omega)
      rw [e]
      have hs := ofN_lt xs
      have c1 := fun W h => HOF.out A n c xs W h (by omega) HB.out
      have c2 := fun W => HAL.out (ofN xs) W hs
      have c3 := fun (W : World) (A : Option Addr) (n c : Nat) (hn : (allI (ofN xs)).length = n) (h : Ints W A n (allI (ofN xs))) => HOF.out A n c (allI (ofN xs)) W h (by have := upTo_len (ofN xs) 64; have hh : (allI (ofN xs)).length = (upTo (ofN xs) 64).length := rfl; omega) (by
        intro j
        rcases Nat.lt_or_ge j (allI (ofN xs)).length with hj | hj
        · have := allI_mem hj; omega
        · rw [List.getD_eq_getElem?_getD, List.getElem?_eq_none hj]; decide)
      rw [ofN_all hs] at c3
      generalize ofN xs = s at *
      clear e hs
      go_wp2_with (first
        | (go_at_call 23; refine (c1 _ (HX.out.keep CW)).mono ?_; rintro e x1 ⟨rfl, hb⟩; replace CW := CW.trans (hb.mono CW.size); clear hb c1)
        | (go_at_call 12; refine (c2 _).mono ?_; rintro e x2 ⟨A1, k1, rfl, M1, _, hb⟩; replace CW := CW.trans (hb.mono CW.size); clear hb)
        | (go_at_call 23; refine (c3 _ _ _ _ rfl M1).mono ?_; rintro e x3 ⟨rfl, hb⟩; replace CW := CW.trans (hb.mono CW.size); clear hb)
        | (go_at_call 22; refine (L _ (TT.out.keep CW)).mono ?_; rintro e x13 ⟨rfl, hb⟩; replace CW := CW.trans (hb.mono CW.size); clear hb))
      go_ret
      exact ⟨rfl, CW⟩

theorem ofs_any (HA : AllOk) (HO : OfOk) (HT : TextOk) (HN : NextOk) (A : Option Addr) (n c : Nat) (zs : List Int) (w : World) (ht : Tab w) (h : Ints w A n (zs.take n) ∧ n ≤ c ∧ (∀ k, -9223372036854775808 ≤ zs.getD k 0 ∧ zs.getD k 0 ≤ 9223372036854775807) ∧ n ≤ zs.length) :
    Calls Tryd.prog 4 #[.slice A n c] w fun e w' => e = .returned (.bool true) ∧ Below w.heap.size w w' := by
  have TT := Go.Lib.hid ht
  obtain ⟨h1, h2, h3, h4⟩ := h
  by_cases hn : 20 < n
  · have := h1.cut (k := 20) (by omega)
    rw [List.take_take, Nat.min_eq_left (by omega)] at this
    exact of_long HA HO (lives2_any HO HT HN) A n c _ w ht this (take_bd h3 20) h2 hn
  · exact of_short HA HO (lives2_any HO HT HN) A n c _ w ht h1 (take_bd h3 n) h2 (by omega)
end Go.Proofs.YtmjogpbdgbgkhaaDoor
