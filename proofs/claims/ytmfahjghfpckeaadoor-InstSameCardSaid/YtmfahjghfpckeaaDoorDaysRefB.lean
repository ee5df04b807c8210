/- What the document's functions on sets of days answer: numbers, days put in and out, all days, the next one, and whether two lists are the same. -/
import Derived.Test.YtmfahjghfpckeaaDoorDaysRef
namespace Go.Proofs.YtmfahjghfpckeaaDoor
open Go.RowKit
set_option linter.unusedVariables false

theorem num2_drop {xs : List Int} {k : Nat} (hk : k < xs.length) : num2 (xs.drop k) = (if xs.getD k 0 = 1 then 1 else 0) + 2 * num2 (xs.drop (k + 1)) := by
  rw [List.drop_eq_getElem_cons hk, List.getD_eq_getElem?_getD, List.getElem?_eq_getElem hk]; rfl

set_option maxHeartbeats 1000000 in
theorem number_any (A : Option Addr) (c : Nat) (xs : List Int) (w : World) (hx : Ints w A 64 xs) (hb : Bin xs) :
    Calls Tryd.prog 59 #[.slice A 64 c] w fun e w' => e = .returned (.int .u64 (num2 xs : Int)) ∧ w = w' := by
  obtain ⟨b, off, rfl, hcs⟩ := hx.2 (by decide)
  have HL := Go.Lib.hid hx.1
  have HB := Go.Lib.hid hb
  have HC := Go.Lib.hid hcs
  clear hx hb hcs
  go_enter Tryd.func59, Tryd.ntmps59
  go_wp2
  go_loop [3, 4] (fun nv iv => ∃ k : Nat, k ≤ 64 ∧ DownAt k iv ∧ nv = .int .u64 ((num2 (xs.drop k) : Nat) : Int)) (fun _ iv => (intOf iv + 1).toNat)
  case atStart => exact ⟨64, Nat.le_refl _, .inr ⟨63, rfl, rfl⟩, by rw [List.drop_of_length_le (by rw [HL.out]; exact Nat.le_refl _)]; rfl⟩
  case round =>
    obtain ⟨k, hk, hi, rfl⟩ := hrel
    rcases hi with ⟨rfl, rfl⟩ | ⟨j, rfl, rfl⟩
    · go_wp2
      go_ret
      exact ⟨by simp, rfl⟩
    · have hcj := HC.out j (by omega)
      have hbj := HB.out.getD j
      obtain ⟨x, hx⟩ : ∃ x, xs.getD j 0 = x := ⟨_, rfl⟩
      obtain ⟨q, hq⟩ : ∃ q, num2 (xs.drop (j + 1)) = q := ⟨_, rfl⟩
      have hqb : (q : Int) ≤ 9223372036854775807 := by
        have := num2_lt (xs.drop (j + 1))
        rw [List.length_drop, HL.out, hq] at this
        have h2 : 2 ^ (64 - (j + 1)) ≤ 2 ^ 63 := Nat.pow_le_pow_right (by decide) (by omega)
        omega
      have HN := Go.Lib.hid (num2_drop (xs := xs) (k := j) (by rw [HL.out]; omega))
      rw [hx] at hcj hbj HN
      rw [hq] at HN ⊢
      have x0 : 0 ≤ x := by omega
      have x1 : x ≤ 1 := by omega
      have HX := Go.Lib.hid hbj
      clear hbj hx hq
      go_wp2
      go_round
      case rel => exact ⟨j, by omega, DownAt.next j, by
        rw [HN.out]
        rcases HX.out with rfl | rfl
        · simp
        · simp; omega⟩
      case measure => simp [intOf]

theorem has_ref (s : Nat) (hs : s < 2 ^ 64) (d : Int) (w : World) :
    Calls Tryd.prog 51 #[.int .u64 s, .int .i64 d] w fun e w' => e = .returned (.bool (hasB s d)) ∧ Below w.heap.size w w' := by
  by_cases hd : 0 ≤ d ∧ d ≤ 63
  · obtain ⟨d0, d1⟩ := hd
    obtain ⟨k, rfl⟩ : ∃ k : Nat, d = (k : Int) := ⟨d.toNat, by omega⟩
    have hk : k < 64 := by omega
    have HB := Go.Lib.hid (bits_any s hs)
    have HV := Go.Lib.hid (bitsL_getD (s := s) hk)
    go_enter Tryd.func51, Tryd.ntmps51
    go_wp2_with (go_at_call 58; refine (HB.out _).mono ?_; rintro e w1 ⟨g, rfl, M, B⟩; have c0 := (M.cellIn hk).1; obtain ⟨x, hx⟩ : ∃ x, (bitsL s).getD k 0 = x := ⟨_, rfl⟩; rw [hx] at c0; have HX := Go.Lib.hid hx; clear hx)
    go_ret
    refine ⟨ret_bool ?_, B⟩
    have := HX.out
    rw [HV.out] at this
    rw [← this]
    unfold hasB
    rw [decide_eq_true (by omega), Int.toNat_natCast]
    cases s.testBit k <;> rfl
  · have e : hasB s d = false := by unfold hasB; rw [decide_eq_false hd]; rfl
    rw [e]
    clear e
    by_cases h0 : d < 0
    · go_enter Tryd.func51, Tryd.ntmps51
      go_wp2_with fail
      go_ret
      exact ⟨rfl, Below.refl _ _⟩
    · have h1 : 63 < d := by omega
      go_enter Tryd.func51, Tryd.ntmps51
      go_wp2_with fail
      go_ret
      exact ⟨rfl, Below.refl _ _⟩

theorem put_ref (s : Nat) (hs : s < 2 ^ 64) (d b : Int) (hb : b = 0 ∨ b = 1) (w : World) :
    Calls Tryd.prog 52 #[.int .u64 s, .int .i64 d, .int .i64 b] w fun e w' => e = .returned (.int .u64 (putN s d b : Int)) ∧ Below w.heap.size w w' := by
  by_cases hd : 0 ≤ d ∧ d ≤ 63
  · have e : putN s d b = num2 ((bitsL s).set d.toNat b) := by unfold putN; rw [if_pos hd]
    rw [e]
    clear e
    obtain ⟨d0, d1⟩ := hd
    obtain ⟨k, rfl⟩ : ∃ k : Nat, d = (k : Int) := ⟨d.toNat, by omega⟩
    have hk : k < 64 := by omega
    have HB := Go.Lib.hid (bits_any s hs)
    have HBB := Go.Lib.hid hb
    clear hb
    rw [Int.toNat_natCast]
    go_enter Tryd.func52, Tryd.ntmps52
    go_wp2_with (first
      | (go_at_call 58; refine (HB.out _).mono ?_; rintro e w1 ⟨g, rfl, M, B⟩; obtain ⟨c0, c1⟩ := M.cellIn hk; have hg := M.ge; have MM := Go.Lib.hid (M.put k b); clear M)
      | (go_at_call 59; refine (number_any _ _ _ _ MM.out.ints ((bitsL_bin s).put k HBB.out)).mono ?_; rintro e w' ⟨rfl, rfl⟩))
    go_ret
    exact ⟨rfl, B.setCell hg _⟩
  · have e : putN s d b = s := by unfold putN; rw [if_neg hd]
    rw [e]
    clear e
    by_cases h0 : d < 0
    · go_enter Tryd.func52, Tryd.ntmps52
      go_wp2_with fail
      go_ret
      exact ⟨rfl, Below.refl _ _⟩
    · have h1 : 63 < d := by omega
      go_enter Tryd.func52, Tryd.ntmps52
      go_wp2_with fail
      go_ret
      exact ⟨rfl, Below.refl _ _⟩

/-- A slice of these numbers comes back, new memory. -/
def IntsEnd (w : World) (xs : List Int) (e : Ending) (w' : World) : Prop := ∃ A c, e = .returned (.slice A xs.length c) ∧ Ints w' A xs.length xs ∧ xs.length ≤ c ∧ Below w.heap.size w w'

set_option maxHeartbeats 1000000 in
theorem all_ref (s : Nat) (hs : s < 2 ^ 64) (w : World) :
    Calls Tryd.prog 57 #[.int .u64 s] w (IntsEnd w (allI s)) := by
  obtain ⟨i0, hi, hz0, hz1, hz2⟩ := info_parts info_int
  have HB := Go.Lib.hid (bits_any s hs)
  clear hs
  go_enter Tryd.func57, Tryd.ntmps57
  go_wp2_with (go_at_call 58; refine (HB.out _).mono ?_; rintro e w1 ⟨g, rfl, M, B⟩)
  go_loopw [3, 5] (fun v iv wr => ∃ d : Nat, d ≤ 64 ∧ iv = .int .i64 d ∧ wr.ownsRow w1.heap.size 3 1 v (upTo s d).length ((upTo s d).map (Value.int .i64)) ∧ Below w1.heap.size w1 wr) (fun _ iv _ => 64 - (intOf iv).toNat)
  case atStart => exact ⟨0, Nat.zero_le _, rfl, World.ownsRow_nil _ _ _ _, Below.refl _ _⟩
  case round =>
    obtain ⟨d, hd, rfl, hown, hbl⟩ := hrel
    have hbz := hbl.size
    have hlen := upTo_len s d
    by_cases hlt : d < 64
    · have c0 := (hbl.cell (p := ⟨g, d, none⟩) (World.block_lt_of_cell? w1 _ (M.cellIn hlt).1)).trans (M.cellIn hlt).1
      rw [bitsL_getD hlt] at c0
      have HU := Go.Lib.hid (upTo_succ s d)
      obtain ⟨L, hL⟩ : ∃ L, (upTo s d).map (Value.int .i64) = L := ⟨_, rfl⟩
      obtain ⟨m, hm⟩ : ∃ m, (upTo s d).length = m := ⟨_, rfl⟩
      rw [hL, hm] at hown
      rw [hm] at hlen
      have HL := Go.Lib.hid hL
      have HM := Go.Lib.hid hm
      have MH := Go.Lib.hid M
      clear hL hm M
      cases hbit : s.testBit d
      · have HT := Go.Lib.hid hbit
        rw [hbit] at c0
        simp only [Bool.false_eq_true, if_false] at c0
        clear hbit
        go_wp2
        go_roundw
        case rel => exact ⟨d + 1, by omega, by go_num, by rw [HU.out, HT.out, if_neg (by decide), List.append_nil, HL.out, HM.out]; exact hown, hbl⟩
        case measure => simp [intOf]; omega
      · have HT := Go.Lib.hid hbit
        rw [hbit] at c0
        simp only [if_true] at c0
        clear hbit
        go_wp2_with (at_builtin; refine wpList_append_own _ rfl _ _ 33 rfl w1.heap.size 3 i0 (.int .i64 0) 1 8 Tryd.underlying33 hi hz0 hz1 hz2 rfl (by decide) _ _ _ rfl (hown.alloc _) ⟨wr.heap.size, 0, none⟩ 1 1 [.int .i64 d] rfl rfl (one_cell _ _ _) (one_ok _) (by unfold maxLen; omega) (by omega) (by simp; omega) ?_)
        intro v' w2 hown' hgrow _
        have R := (hbl.alloc hbz _).grown hgrow (by simp; omega) (own_ge hown)
        clear hgrow hown c0 hbl
        go_wp2
        go_roundw
        case rel => exact ⟨d + 1, by omega, by go_num, by rw [HU.out, HT.out, if_pos rfl, List.length_append, List.map_append, HL.out, HM.out]; exact hown', R⟩
        case measure => simp [intOf]; omega
    · obtain rfl : d = 64 := by omega
      obtain ⟨A, cp, rfl, hcp⟩ := own_form hown
      have hi2 := Ints.of_own hown
      go_wp2
      go_ret
      exact ⟨A, cp, rfl, hi2, hcp, B.trans (hbl.mono B.size)⟩
end Go.Proofs.YtmfahjghfpckeaaDoor
