/- What the document's functions on sets of days answer: the next day, a set's text, and whether two lists are the same. -/
import Derived.Test.YtmfahjghfpckeaaDoorDaysRefB
import Derived.Laws.BytesArg
namespace Go.Proofs.YtmfahjghfpckeaaDoor
open Go.RowKit
set_option linter.unusedVariables false

theorem find_none_succ {xs : List Int} {k : Nat} {p : Int → Bool} (hk : k < xs.length) (h : (xs.take k).find? p = none) (hx : p (xs.getD k 0) = false) : (xs.take (k + 1)).find? p = none := by
  rw [List.getD_eq_getElem?_getD, List.getElem?_eq_getElem hk] at hx
  rw [List.take_succ_eq_append_getElem hk, List.find?_append, h]
  simpa using hx
theorem find_some_at {xs : List Int} {k : Nat} {p : Int → Bool} (hk : k < xs.length) (h : (xs.take k).find? p = none) (hx : p (xs.getD k 0) = true) : xs.find? p = some (xs.getD k 0) := by
  rw [List.getD_eq_getElem?_getD, List.getElem?_eq_getElem hk] at hx ⊢
  conv => lhs; rw [← List.take_append_drop k xs, List.drop_eq_getElem_cons hk]
  rw [List.find?_append, h, List.find?_cons]
  simp only [Option.getD_some] at hx
  rw [hx]
  rfl

set_option maxHeartbeats 1000000 in
theorem next_ref (s : Nat) (hs : s < 2 ^ 64) (d : Int) (w : World) :
    Calls Tryd.prog 50 #[.int .u64 s, .int .i64 d] w fun e w' => e = .returned (.int .i64 (nextI s d)) ∧ Below w.heap.size w w' := by
  have HA := Go.Lib.hid (all_ref s hs)
  have hlen := upTo_len s 64
  obtain ⟨xs, hxs⟩ : ∃ xs, allI s = xs := ⟨_, rfl⟩
  have hl : xs.length ≤ 64 := by rw [← hxs]; exact hlen
  have HX := Go.Lib.hid hxs
  rw [hxs] at HA
  clear hs hlen hxs
  go_enter Tryd.func50, Tryd.ntmps50
  go_wp2_with (go_at_call 57; refine (HA.out _).mono ?_; rintro e w1 ⟨A, c, rfl, M, hc, B⟩; obtain ⟨n, hn⟩ : ∃ n, xs.length = n := ⟨_, rfl⟩; rw [hn] at M hc hl ⊢; have HN := Go.Lib.hid hn; clear hn)
  go_loop [6] (fun iv => ∃ k : Nat, k ≤ n ∧ iv = .int .i64 k ∧ (xs.take k).find? (fun x => decide (d ≤ x)) = none) (fun iv => n - (intOf iv).toNat)
  case atStart => exact ⟨0, Nat.zero_le _, rfl, by simp⟩
  case round =>
    obtain ⟨k, hk, rfl, hf⟩ := hrel
    have HF := Go.Lib.hid hf
    clear hf
    by_cases hlt : k < n
    · obtain ⟨b, off, rfl, hcs⟩ := M.2 (by omega)
      have hck := hcs k hlt
      obtain ⟨x, hx⟩ : ∃ x, xs.getD k 0 = x := ⟨_, rfl⟩
      rw [hx] at hck
      have HXX := Go.Lib.hid hx
      have MM := Go.Lib.hid M
      clear hcs hx M
      by_cases hd : d ≤ x
      · go_wp2
        go_ret
        refine ⟨ret_int ?_, B⟩
        have := find_some_at (p := fun x => decide (d ≤ x)) (by rw [HN.out]; exact hlt) HF.out (by rw [HXX.out]; exact decide_eq_true hd)
        unfold nextI
        rw [HX.out, this, HXX.out]; rfl
      · go_wp2
        go_round
        case rel => exact ⟨k + 1, by omega, by go_num, find_none_succ (by rw [HN.out]; exact hlt) HF.out (by rw [HXX.out]; exact decide_eq_false hd)⟩
        case measure => simp [intOf]; omega
    · have MM := Go.Lib.hid M
      clear M
      go_wp2
      go_ret
      refine ⟨ret_int ?_, B⟩
      have := HF.out
      rw [List.take_of_length_le (by rw [HN.out]; omega)] at this
      unfold nextI
      rw [HX.out, this]; rfl

theorem eq_take_succ {xs ys : List Int} {k : Nat} (h : xs.take k = ys.take k) (hk : k < xs.length) (hk' : k < ys.length) (he : xs.getD k 0 = ys.getD k 0) : xs.take (k + 1) = ys.take (k + 1) := by
  rw [List.getD_eq_getElem?_getD, List.getD_eq_getElem?_getD, List.getElem?_eq_getElem hk, List.getElem?_eq_getElem hk'] at he
  have he' : xs[k] = ys[k] := by simpa using he
  rw [List.take_succ_eq_append_getElem hk, List.take_succ_eq_append_getElem hk', h, he']

set_option maxHeartbeats 1000000 in
theorem same_ref (A C : Option Addr) (n m c d : Nat) (xs ys : List Int) (w : World) (ha : Ints w A n xs) (hb : Ints w C m ys) (hn : n ≤ maxLen) (hm : m ≤ maxLen) :
    Calls Tryd.prog 43 #[.slice A n c, .slice C m d] w fun e w' => e = .returned (.bool (decide (xs = ys))) ∧ Below w.heap.size w w' := by
  unfold maxLen at hn hm
  by_cases hnm : n = m
  · subst hnm
    have HA := Go.Lib.hid ha
    have HC := Go.Lib.hid hb
    clear ha hb
    go_enter Tryd.func43, Tryd.ntmps43
    go_wp2
    go_loopw [5] (fun iv wr => ∃ k : Nat, k ≤ n ∧ iv = .int .i64 k ∧ xs.take k = ys.take k ∧ Below w.heap.size w wr) (fun iv _ => n - (intOf iv).toNat)
    case atStart => exact ⟨0, Nat.zero_le _, rfl, by simp, Below.refl _ _⟩
    case round =>
      obtain ⟨k, hk, rfl, he, B⟩ := hrel
      have HE := Go.Lib.hid he
      clear he
      by_cases hlt : k < n
      · obtain ⟨x, hx⟩ : ∃ x, xs.getD k 0 = x := ⟨_, rfl⟩
        obtain ⟨y, hy⟩ : ∃ y, ys.getD k 0 = y := ⟨_, rfl⟩
        obtain ⟨b1, o1, rfl, h1⟩ := (HA.out.keep B).2 (by omega)
        obtain ⟨b2, o2, rfl, h2⟩ := (HC.out.keep B).2 (by omega)
        have e1 := h1 k hlt
        have e2 := h2 k hlt
        rw [hx] at e1
        rw [hy] at e2
        have HX := Go.Lib.hid hx
        have HY := Go.Lib.hid hy
        have k0 : (0 : Int) ≤ (k : Int) := Int.natCast_nonneg _
        have k1 : (k : Int) < (n : Int) := by omega
        clear h1 h2 hx hy
        by_cases hxy : x = y
        · subst hxy
          go_wp2
          go_quiet (fail)
          go_wp2
          go_roundw
          case rel => exact ⟨k + 1, by omega, by go_num, eq_take_succ HE.out (by rw [HA.out.1]; exact hlt) (by rw [HC.out.1]; exact hlt) (by rw [HX.out, HY.out]), below_drewN B _⟩
          case measure => simp [intOf]; omega
        · have hb2 : (x == y) = false := beq_eq_false_iff_ne.2 hxy
          have HN := Go.Lib.hid hxy
          clear hxy
          go_wp2
          go_quiet (fail)
          go_wp2
          go_ret
          refine ⟨ret_bool (decide_eq_false ?_).symm, below_drewN B _⟩
          rintro rfl
          exact HN.out (HX.out.symm.trans HY.out)
      · go_wp2
        go_ret
        refine ⟨ret_bool (decide_eq_true ?_).symm, B⟩
        have := HE.out
        rwa [List.take_of_length_le (by rw [HA.out.1]; omega), List.take_of_length_le (by rw [HC.out.1]; omega)] at this
  · have e : decide (xs = ys) = false := decide_eq_false (by rintro rfl; exact hnm (ha.1.symm.trans hb.1))
    have hne : ((n : Int) == (m : Int)) = false := beq_eq_false_iff_ne.2 (by omega)
    rw [e]
    clear ha hb e
    go_enter Tryd.func43, Tryd.ntmps43
    go_wp2
    go_ret
    exact ⟨rfl, Below.refl _ _⟩

/-- A set's text for n days, as numbers. -/
def textI (s : Nat) (n : Nat) : List Int := (List.range n).map fun d => if s.testBit d then 49 else 48
theorem textI_succ (s n : Nat) : textI s (n + 1) = textI s n ++ [if s.testBit n then 49 else 48] := by
  unfold textI
  rw [List.range_succ, List.map_append]; rfl
theorem textI_len (s n : Nat) : (textI s n).length = n := by simp [textI]
/-- A set's text for n days. -/
def textB (s : Nat) (n : Int) : ByteArray := if 1 ≤ n ∧ n ≤ 64 then strOfNums (textI s n.toNat) else ByteArray.empty
end Go.Proofs.YtmfahjghfpckeaaDoor
