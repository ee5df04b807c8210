/- What the document's functions on sets of days answer: bits, numbers, all days, the next one, and whether two lists are the same. -/
import Derived.Test.YtmfahjghfpckeaaDoorCore
import Derived.Test.YtmfahjghfpckeaaDoorBits
namespace Go.Proofs.YtmfahjghfpckeaaDoor
open Go.RowKit
set_option linter.unusedVariables false

theorem wfu_iff {n : Int} : (Lit.int .u64 n).wf = true ↔ (0 ≤ n ∧ n ≤ 18446744073709551615) := by
  simp [Lit.wf, IntKind.min, IntKind.max, IntKind.signed, IntKind.bits]
/-- Of a set that came in: its number. -/
theorem nat_of_u64 {n : Int} (h : (Lit.int .u64 n).wf = true) : ∃ s : Nat, n = (s : Int) ∧ s < 2 ^ 64 := by
  have := wfu_iff.1 h
  exact ⟨n.toNat, by omega, by omega⟩

/-- A row of the call's own, of n numbers, from its block's head on. -/
def OwnAt (w : World) (base g n : Nat) (xs : List Int) : Prop := w.ownsRow base 3 1 (.slice (some ⟨g, 0, none⟩) n n) n (xs.map (Value.int .i64))
theorem OwnAt.len {w : World} {base g n : Nat} {xs : List Int} (h : OwnAt w base g n xs) : xs.length = n := by simpa using h.1
theorem OwnAt.ints {w : World} {base g n : Nat} {xs : List Int} (h : OwnAt w base g n xs) : Ints w (some ⟨g, 0, none⟩) n xs := Ints.of_own h
theorem OwnAt.cellIn {w : World} {base g n : Nat} {xs : List Int} (h : OwnAt w base g n xs) {j : Nat} (hj : j < n) : w.cell? ⟨g, j, none⟩ = some (.int .i64 (xs.getD j 0)) ∧ w.frozen? ⟨g, j, none⟩ = false := by
  refine ⟨?_, h.frozenAt j⟩
  rw [h.cellAt j (by omega), List.getElem?_map, List.getD_eq_getElem?_getD, List.getElem?_eq_getElem (by rw [h.len]; exact hj)]
  rfl
theorem OwnAt.ge {w : World} {base g n : Nat} {xs : List Int} (h : OwnAt w base g n xs) : base ≤ g := own_ge h g rfl
theorem OwnAt.put {w : World} {base g n : Nat} {xs : List Int} (h : OwnAt w base g n xs) (j : Nat) (u : Int) : OwnAt (w.setCell ⟨g, j, none⟩ (.int .i64 u)) base g n (xs.set j u) := by
  unfold OwnAt
  rw [List.map_set]
  exact (h.stored j (.int .i64 u)).1
theorem OwnAt.made {w : World} {base g n : Nat} (h : w.ownsRow base 3 1 (.slice (some ⟨g, 0, none⟩) n n) n (madeCells (Value.int .i64 0).cells (n * 1)).toList) : OwnAt w base g n (List.replicate n 0) := by
  unfold OwnAt
  rw [List.map_replicate, ← toList_madeCells_one]
  simpa [Value.cells] using h

/-- The bits that the loop of Bits has laid. -/
def BitsAt (s d : Nat) : List Int := (List.range 64).map fun j => if j < d then (if s.testBit j then 1 else 0) else 0
theorem bitsAt_zero (s : Nat) : BitsAt s 0 = List.replicate 64 0 := by
  refine List.eq_replicate_iff.2 ⟨by simp [BitsAt], fun b hb => ?_⟩
  obtain ⟨j, _, rfl⟩ := List.mem_map.1 hb
  rw [if_neg (by omega)]

set_option maxHeartbeats 1000000 in
theorem bits_any (s : Nat) (hs : s < 2 ^ 64) (w : World) :
    Calls Tryd.prog 58 #[.int .u64 s] w fun e w' => ∃ g, e = .returned (.slice (some ⟨g, 0, none⟩) 64 64) ∧ OwnAt w' w.heap.size g 64 (bitsL s) ∧ Below w.heap.size w w' := by
  obtain ⟨i0, hi0, hz0, hz1, hz2⟩ := info_parts info_int
  have HSS := Go.Lib.hid hs
  clear hs
  go_enter Tryd.func58, Tryd.ntmps58
  go_wp2_with (at_make; refine wpList_make_full _ rfl _ _ 33 rfl w.heap.size 3 i0 (.int .i64 0) 1 Tryd.underlying33 hi0 hz0 hz1 _ _ _ _ 64 rfl rfl (by omega) (by omega) (by rw [hz2]; omega) (by unfold maxLen; omega) (Nat.le_refl _) ?_; intro wm hown hgm)
  have M := OwnAt.made hown
  have B : Below w.heap.size w wm := (Below.refl _ _).grown hgm (Nat.le_refl _) (by simp)
  clear hown hgm
  go_loopw [0, 4] (fun sv iv wr => ∃ d : Nat, d ≤ 64 ∧ iv = .int .i64 d ∧ sv = .int .u64 ((s / 2 ^ d : Nat) : Int) ∧ OwnAt wr w.heap.size w.heap.size 64 (BitsAt s d) ∧ Below w.heap.size w wr) (fun _ iv _ => 64 - (intOf iv).toNat)
  case atStart => exact ⟨0, Nat.zero_le _, rfl, by simp, by rw [bitsAt_zero]; exact M, B⟩
  case round =>
    clear M B
    obtain ⟨d, hd, rfl, rfl, M, B⟩ := hrel
    by_cases hlt : d < 64
    · obtain ⟨c0, c1⟩ := M.cellIn hlt
      have MM := Go.Lib.hid M
      have HS := Go.Lib.hid (bit_mod s d)
      have HH := Go.Lib.hid (half_step s d)
      obtain ⟨q, hq⟩ : ∃ q : Nat, s / 2 ^ d = q := ⟨_, rfl⟩
      have hqb : (q : Int) ≤ 18446744073709551615 := by have := Nat.div_le_self s (2 ^ d); have := HSS.out; omega
      rw [hq] at HS HH ⊢
      clear M hq
      go_wp2
      go_roundw
      case rel => exact ⟨d + 1, by omega, by go_num, by rw [← HH.out], by
        show OwnAt _ _ _ _ _
        unfold BitsAt
        rw [bits_step, ← HS.out]
        exact MM.out.put d _, B.setCell (by simp) _⟩
      case measure => simp [intOf]; omega
    · obtain rfl : d = 64 := by omega
      go_wp2
      go_ret
      refine ⟨_, rfl, ?_, B⟩
      have e : BitsAt s 64 = bitsL s := by
        unfold BitsAt bitsL
        apply List.map_congr_left
        intro j hj
        rw [if_pos (List.mem_range.1 hj)]
      rw [← e]
      exact M
end Go.Proofs.YtmfahjghfpckeaaDoor
