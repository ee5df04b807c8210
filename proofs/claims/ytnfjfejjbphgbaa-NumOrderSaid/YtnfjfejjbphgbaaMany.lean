/- The walk of NumMany: it returns true for any numbers, and writes nothing that was there. -/
import Derived.Test.YtnfjfejjbphgbaaInt
import Derived.Deep.RegionWith
import Derived.OpenShut
namespace Go.Proofs.Ytnfjfejjbphgbaa
open Go.RowKit
set_option linter.unusedVariables false

/-- What a slice of numbers that came in reads as. -/
theorem ints_of_row {w : World} {a : Option Addr} {len cap : Nat} {zs : List Int}
    (h : (a = none ∧ len = 0 ∧ cap = 0 ∧ zs = []) ∨ ∃ x, a = some x ∧ len ≤ cap ∧ cap ≤ maxLen ∧ zs.length = cap ∧ (∀ i, i < zs.length → w.cell? (x.add i) = some (.int .i64 (zs.getD i 0))) ∧ ∀ n ∈ zs, (Lit.int .i64 n).wf = true) :
    Ints w a len (zs.take len) ∧ len ≤ cap ∧ (∀ k, -9223372036854775808 ≤ zs.getD k 0 ∧ zs.getD k 0 ≤ 9223372036854775807) ∧ len ≤ zs.length := by
  rcases h with ⟨rfl, rfl, rfl, rfl⟩ | ⟨x, rfl, h1, h2, h3, h4, h5⟩
  · exact ⟨Ints.nil _ _, Nat.le_refl _, fun k => by simp, Nat.le_refl _⟩
  · refine ⟨⟨by rw [List.length_take_of_le (by omega)], fun h0 => ?_⟩, h1, fun k => ?_, by omega⟩
    · obtain ⟨b, off, rfl, hc⟩ := Go.ints_at h4 (by omega)
      refine ⟨b, off, rfl, fun j hj => ?_⟩
      rw [hc j (by omega), List.getD_eq_getElem?_getD, List.getD_eq_getElem?_getD, List.getElem?_take_of_lt hj]
    · rw [List.getD_eq_getElem?_getD]
      rcases Nat.lt_or_ge k zs.length with hk | hk
      · rw [List.getElem?_eq_getElem hk]; exact wf_iff.1 (h5 _ (List.getElem_mem hk))
      · rw [List.getElem?_eq_none hk]; decide
theorem take_bd {zs : List Int} (h : ∀ k, -9223372036854775808 ≤ zs.getD k 0 ∧ zs.getD k 0 ≤ 9223372036854775807) (n k : Nat) : -9223372036854775808 ≤ (zs.take n).getD k 0 ∧ (zs.take n).getD k 0 ≤ 9223372036854775807 := by
  rw [List.getD_eq_getElem?_getD]
  rcases Nat.lt_or_ge k n with hk | hk
  · rw [List.getElem?_take_of_lt hk, ← List.getD_eq_getElem?_getD]; exact h k
  · rw [List.getElem?_take_eq_none hk]; decide
theorem sum_take (xs : List Int) (k : Nat) : (xs.take (k + 1)).sum = (xs.take k).sum + xs.getD k 0 := by
  rw [List.getD_eq_getElem?_getD]
  rcases Nat.lt_or_ge k xs.length with hk | hk
  · rw [List.take_succ_eq_append_getElem hk, List.sum_append, List.sum_singleton, List.getElem?_eq_getElem hk]; rfl
  · rw [List.take_of_length_le (by omega), List.take_of_length_le hk, List.getElem?_eq_none hk]; simp
theorem Bg.zero (w : World) : Bg w 0 (.agg #[.slice none 0 0, .bool false]) 0 := ⟨none, 0, 0, [], false, rfl, Ints.nil _ _, Dig.nil, .inl rfl, fun _ => rfl, rfl, Nat.le_refl _, Nat.le_refl _⟩


set_option maxHeartbeats 4000000 in
theorem many_long (A : Option Addr) (n c : Nat) (xs : List Int) (w : World) (hx : Ints w A 12 xs) (hb : ∀ k, -9223372036854775808 ≤ xs.getD k 0 ∧ xs.getD k 0 ≤ 9223372036854775807) (hc : n ≤ c) (hn : 12 < n) :
    Calls Try.prog 4 #[.slice A n c] w fun e w' => e = .returned (.bool true) ∧ Below w.heap.size w w' := by
  have HX := Go.Lib.hid hx
  have HB := Go.Lib.hid hb
  clear hx hb
  have hd : decide ((12 : Int) < (n : Int)) = true := decide_eq_true (by omega)
  go_enter Try.func4, Try.ntmps4
  go_wp2
  go_loopw [4] (fun i wr => ∃ (k : Nat) (D : Option Addr) (n1 c1 : Nat) (ng : Bool), i = .int .i64 k ∧ k ≤ 12 ∧ BlkIs wr w.heap.size 24 #[.slice D n1 c1, .bool ng] ∧ Bg wr (4 + k) (.agg #[.slice D n1 c1, .bool ng]) ((xs.take k).sum) ∧ Below w.heap.size w wr)
    (fun i _ => 12 - (intOf i).toNat)
  case atStart => exact ⟨0, none, 0, 0, false, rfl, Nat.zero_le _, BlkIs.fresh _ _ _, ((Bg.zero _).more (by omega)).cast (by simp), below_alloc _ _⟩
  case round =>
    obtain ⟨k, D, n1, c1, ng, rfl, hk, K, G, BW⟩ := hrel
    obtain ⟨x0, x1, x2, x3⟩ := K.cells2
    have kl := K.lt
    by_cases hlt : k < 12
    · obtain ⟨y, hy⟩ : ∃ y, xs.getD k 0 = y := ⟨_, rfl⟩
      obtain ⟨b, off, rfl, hcs⟩ := (HX.out.keep BW).2 (by omega)
      have hcy := hcs k hlt
      rw [hy] at hcy
      have wy : (Lit.int .i64 y).wf = true := wf_iff.2 (hy ▸ HB.out k)
      have HY := Go.Lib.hid hy
      clear hcs hy
      have j0 : (0 : Int) ≤ (k : Int) := Int.natCast_nonneg _
      have j1 : (k : Int) < ((12 : Nat) : Int) := by omega
      go_wp2
      go_region_with (first
        | (go_at_call 10; refine (of_any y wy _).mono ?_; rintro e w1 ⟨vo, rfl, gof, bo⟩; have BO := (Below.refl _ wr).drew.trans bo; have K1 := K.below BO K.lt; obtain ⟨p0, p1, p2, p3⟩ := K1.cells2; have G1 := G.keep BO; have B1 := BW.trans (BO.mono BW.size); clear bo)
        | (go_at_call 13; refine (bigadd_any (4 + k) _ _ _ _ _ G1 (gof.more (by omega)) (by omega)).mono ?_; rintro e w2 ⟨vr, rfl, gr, br⟩; obtain ⟨A2, n2, c2, xs2, neg2, rfl, hrest⟩ := gr; have K2 := K1.below br K1.lt; obtain ⟨q0, q1, q2, q3⟩ := K2.cells2; have B2 := B1.trans (br.mono B1.size); have G2 := Go.Lib.hid (Bg.store2 (A1 := A2) (n1 := n2) (c1 := c2) (b1 := neg2) (⟨A2, n2, c2, xs2, neg2, rfl, hrest⟩ : Bg w2 (4 + k + 1) (.agg #[.slice A2 n2 c2, .bool neg2]) _) K2); clear hrest br))
      all_goals
        go_wp2
        go_roundw
        case rel => exact ⟨k + 1, A2, n2, c2, neg2, by go_num, by omega, by simpa using (K2.put 0 (.slice A2 n2 c2)).put 1 (.bool neg2), G2.out.cast (by rw [sum_take, HY.out]), (B2.setCell (by simp) _).setCell (by simp) _⟩
        case measure => simp [intOf]; omega
    · have GE := Go.Lib.hid (G.cast (show (xs.take k).sum = xs.sum by rw [List.take_of_length_le (by rw [HX.out.1]; omega)]))
      have hwf : ∀ j, j < 12 → -9223372036854775808 ≤ xs.getD j 0 ∧ xs.getD j 0 ≤ 9223372036854775807 := fun j _ => HB.out j
      have SU := sum_any A 12 c xs wr (HX.out.keep BW) hwf (by omega)
      obtain ⟨t, ht⟩ : ∃ t, fitV xs.sum = t := ⟨_, rfl⟩
      obtain ⟨f, hf⟩ : ∃ f, fitB xs.sum = f := ⟨_, rfl⟩
      rw [ht, hf] at SU
      have HT := Go.Lib.hid ht
      have HF := Go.Lib.hid hf
      have HBW := Go.Lib.hid BW
      clear hwf G BW ht hf K
      go_wp2_with (first
        | (go_at_call 19; refine SU.mono ?_; rintro e w' ⟨rfl, rfl⟩)
        | (go_at_call 12; refine (int_is GE.out (by omega) HT.out HF.out).mono ?_; rintro e w4 ⟨rfl, bi⟩; have b4 := HBW.out.trans (bi.mono HBW.out.size))
        | (go_at_call 18; refine (lives_any _).mono ?_; rintro e w5 ⟨rfl, bl⟩))
      go_ret
      exact ⟨rfl, b4.trans (bl.mono b4.size)⟩

set_option maxHeartbeats 4000000 in
theorem many_short (A : Option Addr) (n c : Nat) (xs : List Int) (w : World) (hx : Ints w A n xs) (hb : ∀ k, -9223372036854775808 ≤ xs.getD k 0 ∧ xs.getD k 0 ≤ 9223372036854775807) (hc : n ≤ c) (hn : n ≤ 12) :
    Calls Try.prog 4 #[.slice A n c] w fun e w' => e = .returned (.bool true) ∧ Below w.heap.size w w' := by
  have HX := Go.Lib.hid hx
  have HB := Go.Lib.hid hb
  clear hx hb
  have hd : decide ((12 : Int) < (n : Int)) = false := decide_eq_false (by omega)
  go_enter Try.func4, Try.ntmps4
  go_wp2
  go_loopw [4] (fun i wr => ∃ (k : Nat) (D : Option Addr) (n1 c1 : Nat) (ng : Bool), i = .int .i64 k ∧ k ≤ n ∧ BlkIs wr w.heap.size 24 #[.slice D n1 c1, .bool ng] ∧ Bg wr (4 + k) (.agg #[.slice D n1 c1, .bool ng]) ((xs.take k).sum) ∧ Below w.heap.size w wr)
    (fun i _ => n - (intOf i).toNat)
  case atStart => exact ⟨0, none, 0, 0, false, rfl, Nat.zero_le _, BlkIs.fresh _ _ _, ((Bg.zero _).more (by omega)).cast (by simp), below_alloc _ _⟩
  case round =>
    obtain ⟨k, D, n1, c1, ng, rfl, hk, K, G, BW⟩ := hrel
    obtain ⟨x0, x1, x2, x3⟩ := K.cells2
    have kl := K.lt
    by_cases hlt : k < n
    · obtain ⟨y, hy⟩ : ∃ y, xs.getD k 0 = y := ⟨_, rfl⟩
      obtain ⟨b, off, rfl, hcs⟩ := (HX.out.keep BW).2 (by omega)
      have hcy := hcs k hlt
      rw [hy] at hcy
      have wy : (Lit.int .i64 y).wf = true := wf_iff.2 (hy ▸ HB.out k)
      have HY := Go.Lib.hid hy
      clear hcs hy
      have j0 : (0 : Int) ≤ (k : Int) := Int.natCast_nonneg _
      have j1 : (k : Int) < ((n : Nat) : Int) := by omega
      go_wp2
      go_region_with (first
        | (go_at_call 10; refine (of_any y wy _).mono ?_; rintro e w1 ⟨vo, rfl, gof, bo⟩; have BO := (Below.refl _ wr).drew.trans bo; have K1 := K.below BO K.lt; obtain ⟨p0, p1, p2, p3⟩ := K1.cells2; have G1 := G.keep BO; have B1 := BW.trans (BO.mono BW.size); clear bo)
        | (go_at_call 13; refine (bigadd_any (4 + k) _ _ _ _ _ G1 (gof.more (by omega)) (by omega)).mono ?_; rintro e w2 ⟨vr, rfl, gr, br⟩; obtain ⟨A2, n2, c2, xs2, neg2, rfl, hrest⟩ := gr; have K2 := K1.below br K1.lt; obtain ⟨q0, q1, q2, q3⟩ := K2.cells2; have B2 := B1.trans (br.mono B1.size); have G2 := Go.Lib.hid (Bg.store2 (A1 := A2) (n1 := n2) (c1 := c2) (b1 := neg2) (⟨A2, n2, c2, xs2, neg2, rfl, hrest⟩ : Bg w2 (4 + k + 1) (.agg #[.slice A2 n2 c2, .bool neg2]) _) K2); clear hrest br))
      all_goals
        go_wp2
        go_roundw
        case rel => exact ⟨k + 1, A2, n2, c2, neg2, by go_num, by omega, by simpa using (K2.put 0 (.slice A2 n2 c2)).put 1 (.bool neg2), G2.out.cast (by rw [sum_take, HY.out]), (B2.setCell (by simp) _).setCell (by simp) _⟩
        case measure => simp [intOf]; omega
    · have GE := Go.Lib.hid (G.cast (show (xs.take k).sum = xs.sum by rw [List.take_of_length_le (by rw [HX.out.1]; omega)]))
      have hwf : ∀ j, j < n → -9223372036854775808 ≤ xs.getD j 0 ∧ xs.getD j 0 ≤ 9223372036854775807 := fun j _ => HB.out j
      have SU := sum_any A n c xs wr (HX.out.keep BW) hwf (by omega)
      obtain ⟨t, ht⟩ : ∃ t, fitV xs.sum = t := ⟨_, rfl⟩
      obtain ⟨f, hf⟩ : ∃ f, fitB xs.sum = f := ⟨_, rfl⟩
      rw [ht, hf] at SU
      have HT := Go.Lib.hid ht
      have HF := Go.Lib.hid hf
      have HBW := Go.Lib.hid BW
      clear hwf G BW ht hf K
      go_wp2_with (first
        | (go_at_call 19; refine SU.mono ?_; rintro e w' ⟨rfl, rfl⟩)
        | (go_at_call 12; refine (int_is GE.out (by omega) HT.out HF.out).mono ?_; rintro e w4 ⟨rfl, bi⟩; have b4 := HBW.out.trans (bi.mono HBW.out.size))
        | (go_at_call 18; refine (lives_any _).mono ?_; rintro e w5 ⟨rfl, bl⟩))
      go_ret
      exact ⟨rfl, b4.trans (bl.mono b4.size)⟩

theorem many_any (A : Option Addr) (n c : Nat) (zs : List Int) (w : World) (h : Ints w A n (zs.take n) ∧ n ≤ c ∧ (∀ k, -9223372036854775808 ≤ zs.getD k 0 ∧ zs.getD k 0 ≤ 9223372036854775807) ∧ n ≤ zs.length) :
    Calls Try.prog 4 #[.slice A n c] w fun e w' => e = .returned (.bool true) ∧ Below w.heap.size w w' := by
  obtain ⟨h1, h2, h3, h4⟩ := h
  by_cases hn : 12 < n
  · have := h1.cut (k := 12) (by omega)
    rw [List.take_take, Nat.min_eq_left (by omega)] at this
    exact many_long A n c _ w this (take_bd h3 12) h2 hn
  · exact many_short A n c _ w h1 (take_bd h3 n) h2 (by omega)
end Go.Proofs.Ytnfjfejjbphgbaa
