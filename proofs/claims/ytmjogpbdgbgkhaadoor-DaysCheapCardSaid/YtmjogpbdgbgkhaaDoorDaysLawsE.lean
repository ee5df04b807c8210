/- The walk of layer 2's law DaysCheap, off what the functions of package days answer. -/
import Derived.Test.YtmjogpbdgbgkhaaDoorDaysLawsC
import Derived.Deep.DeepCutAuto
namespace Go.Proofs.YtmjogpbdgbgkhaaDoor
open Go.RowKit
set_option linter.unusedVariables false

/-- The best one of the first k is there, and no other one of them is cheaper. -/
theorem bestI_least (ls ps : List Int) (k : Nat) (hk : 0 < k) : ∃ a : Nat, (bestI ls ps k).1 = (a : Int) ∧ a < k ∧ (bestI ls ps k).2 = priceI (ls.getD a 0).toNat ps ∧ ∀ j, j < k → (bestI ls ps k).2 ≤ priceI (ls.getD j 0).toNat ps := by
  induction k with
  | zero => omega
  | succ k ih =>
    rcases Nat.eq_zero_or_pos k with h0 | h0
    · subst h0
      have : bestI ls ps 1 = (((0 : Nat) : Int), priceI (ls.getD 0 0).toNat ps) := best_upd (.inl (show (-1 : Int) < 0 by decide))
      rw [this]
      exact ⟨0, rfl, by omega, rfl, fun j hj => by obtain rfl : j = 0 := (by omega); exact Int.le_refl _⟩
    · obtain ⟨a, h1, h2, h3, h4⟩ := ih h0
      by_cases h : (bestI ls ps k).1 < 0 ∨ priceI (ls.getD k 0).toNat ps < (bestI ls ps k).2
      · rw [best_upd h]
        have h5 : priceI (ls.getD k 0).toNat ps < (bestI ls ps k).2 := h.resolve_left (by omega)
        refine ⟨k, rfl, by omega, rfl, fun j hj => ?_⟩
        by_cases e : j = k
        · subst e; exact Int.le_refl _
        · have := h4 j (by omega); show priceI (ls.getD k 0).toNat ps ≤ _; omega
      · rw [best_stay h]
        refine ⟨a, h1, by omega, h3, fun j hj => ?_⟩
        by_cases e : j = k
        · subst e; have := (not_or.1 h).2; omega
        · exact h4 j (by omega)
/-- The prices that the law takes. -/
def cutP (ps : List Int) : List Int := ps.map fun x => x.tmod 1099511627776
theorem tmod_bd (x : Int) : -1099511627776 ≤ x.tmod 1099511627776 ∧ x.tmod 1099511627776 ≤ 1099511627776 := by
  have := tparts x 1099511627776 (by decide)
  omega
theorem cutP_bd (ps : List Int) (k : Nat) : -9223372036854775808 ≤ (cutP ps).getD k 0 ∧ (cutP ps).getD k 0 ≤ 9223372036854775807 := by
  rw [List.getD_eq_getElem?_getD]
  rcases Nat.lt_or_ge k (cutP ps).length with h | h
  · rw [List.getElem?_eq_getElem h]
    simp only [cutP, List.getElem_map, Option.getD_some]
    have := tmod_bd (ps[k]'(by simpa [cutP] using h)); omega
  · rw [List.getElem?_eq_none h]; decide
theorem cutP_succ {ps : List Int} {k : Nat} (hk : k < ps.length) : cutP (ps.take (k + 1)) = cutP (ps.take k) ++ [(ps.getD k 0).tmod 1099511627776] := by
  unfold cutP
  rw [List.take_succ_eq_append_getElem hk, List.map_append, List.getD_eq_getElem?_getD, List.getElem?_eq_getElem hk]; rfl
theorem cutP_len (ps : List Int) (k : Nat) (h : k ≤ ps.length) : (cutP (ps.take k)).length = k := by simp [cutP]; omega


set_option maxRecDepth 100000 in
set_option maxHeartbeats 4000000 in
theorem cheap_short (HB : BestOk) (L : ∀ w, Tab w → Calls Tryd.prog 22 #[] w fun e w' => e = .returned (.bool true) ∧ Below w.heap.size w w') (A C : Option Addr) (n c m d : Nat) (ls ps : List Int) (k : Int) (w : World) (ht : Tab w) (wk : (Lit.int .i64 k).wf = true) (ha : Nums .u64 w A n ls) (hp : Ints w C m ps) (hn : n ≤ 10) (hc : n ≤ c) (hm : m ≤ maxLen)
    (hl : ∀ k, 0 ≤ ls.getD k 0 ∧ ls.getD k 0 ≤ 18446744073709551615) :
    Calls Tryd.prog 10 #[.slice A n c, .slice C m d, .int .i64 k] w fun e w' => e = .returned (.bool true) ∧ Below w.heap.size w w' := by
  have TT := Go.Lib.hid ht
  clear ht
  have hd1 : decide ((10 : Int) < (n : Int)) = false := decide_eq_false (by omega)
  obtain ⟨i0, hi, hz0, hz1, hz2⟩ := info_parts info_int
  obtain ⟨k0, k1⟩ := wf_iff.1 wk
  unfold maxLen at hm
  have HA := Go.Lib.hid ha
  have HP := Go.Lib.hid hp
  have HL := Go.Lib.hid hl
  have HBB := Go.Lib.hid HB
  clear ha hp hl HB wk
  go_enter Tryd.func10, Tryd.ntmps10
  go_wp2
  go_loopw [7, 8] (fun v iv wr => ∃ i : Nat, i ≤ m ∧ i ≤ 64 ∧ iv = .int .i64 i ∧ wr.ownsRow w.heap.size 3 1 v i ((cutP (ps.take i)).map (Value.int .i64)) ∧ Below w.heap.size w wr) (fun _ iv _ => 64 - (intOf iv).toNat)
  case atStart => exact ⟨0, Nat.zero_le _, Nat.zero_le _, rfl, World.ownsRow_nil _ _ _ _, Below.refl _ _⟩
  case round =>
    obtain ⟨i, him, hi64, rfl, hown, CW⟩ := hrel
    have hbz := CW.size
    by_cases hlt : i < m ∧ i < 64
    · obtain ⟨hlt1, hlt2⟩ := hlt
      obtain ⟨b, off, rfl, hcs⟩ := (HP.out.keep CW).2 (by omega)
      have hck := hcs i hlt1
      have HU := Go.Lib.hid (cutP_succ (ps := ps) (k := i) (by rw [HP.out.1]; exact hlt1))
      obtain ⟨x, hx⟩ : ∃ x, ps.getD i 0 = x := ⟨_, rfl⟩
      rw [hx] at hck HU
      obtain ⟨LL, hL⟩ : ∃ LL, (cutP (ps.take i)).map (Value.int .i64) = LL := ⟨_, rfl⟩
      rw [hL] at hown
      have HLL := Go.Lib.hid hL
      clear hcs hx hL
      go_wp2_with (at_builtin; refine wpList_append_own _ rfl _ _ 25 rfl w.heap.size 3 i0 (.int .i64 0) 1 8 Tryd.underlying25 hi hz0 hz1 hz2 rfl (by decide) _ _ _ rfl (hown.alloc _) ⟨wr.heap.size, 0, none⟩ 1 1 [.int .i64 (x.tmod 1099511627776)] rfl rfl (one_cell _ _ _) (one_ok _) (by unfold maxLen; omega) (by omega) (by simp; omega) ?_)
      intro v' w2 hown' hgrow _
      have R := (CW.alloc hbz _).grown hgrow (by simp; omega) (own_ge hown)
      clear hgrow hown hck CW
      go_wp2
      go_roundw
      case rel => exact ⟨i + 1, by omega, by omega, by go_num, by rw [HU.out, List.map_append, HLL.out]; exact hown', R⟩
      case measure => simp [intOf]; omega
    · have hge : m ≤ i ∨ 64 ≤ i := by omega
      clear hlt
      obtain ⟨A2, c2, rfl, hc2⟩ := own_form hown
      have ho := Ints.of_own hown
      obtain ⟨own, hown2⟩ : ∃ own, cutP (ps.take i) = own := ⟨_, rfl⟩
      have hbd := fun j => cutP_bd (ps.take i) j
      rw [hown2] at ho hbd
      have c1 := fun W h0 h1 h2 => HBB.out A A2 n c i c2 ls own W h0 h1 h2 (by omega) (by omega) HL.out hbd
      have HO := Go.Lib.hid ho
      have HBD := Go.Lib.hid hbd
      clear hown ho hown2 hbd hbz
      by_cases hn0 : n = 0
      · subst hn0
        have e : bestI ls own 0 = (-1, 0) := rfl
        rw [e] at c1
        clear e
        go_wp2_with (first
          | (go_at_call 28; (with_reducible refine (c1 _ (TT.out.keep CW) (HA.out.keep CW) HO.out).mono ?_); rintro e x1 ⟨rfl, hb⟩; have BW := hb; replace CW := CW.trans (hb.mono CW.size); clear hb)
          | (go_at_call 22; refine (L _ (TT.out.keep CW)).mono ?_; rintro e x13 ⟨rfl, hb⟩; replace CW := CW.trans (hb.mono CW.size); clear hb))
        all_goals
          go_ret
          exact ⟨rfl, CW⟩
      · obtain ⟨kk, hkk⟩ : ∃ kk : Nat, (kk : Int) = if k < 0 then -(k + 1) else k := ⟨(if k < 0 then -(k + 1) else k).toNat, by split <;> omega⟩
        have hkb : (kk : Int) ≤ 9223372036854775807 := by rw [hkk]; split <;> omega
        have HKK := Go.Lib.hid hkk
        clear hkk
        obtain ⟨a, b1, b2, b3, b4⟩ := bestI_least ls own n (by omega)
        obtain ⟨j, hj⟩ : ∃ j : Nat, (kk : Int) % ((n : Nat) : Int) = (j : Int) := ⟨((kk : Int) % ((n : Nat) : Int)).toNat, by have := Int.emod_nonneg ((kk : Int)) (b := ((n : Nat) : Int)) (by omega); omega⟩
        have hjn : j < n := by have := Int.emod_lt_of_pos ((kk : Int)) (b := ((n : Nat) : Int)) (by omega); omega
        have b5 := b4 j hjn
        rw [b1] at c1
        have ra := fun W h => price_ref (ls.getD a 0).toNat (by have := HL.out a; omega) A2 i c2 own W h (by unfold maxLen; omega) HBD.out
        have rj := fun W h => price_ref (ls.getD j 0).toNat (by have := HL.out j; omega) A2 i c2 own W h (by unfold maxLen; omega) HBD.out
        rw [← b3] at ra
        generalize (bestI ls own n).2 = p at *
        obtain ⟨b, off, rfl, hcs⟩ := HA.out.2 (by omega)
        have ca := hcs a b2
        have cj := hcs j hjn
        have ea : ls.getD a 0 = (((ls.getD a 0).toNat : Nat) : Int) := by have := HL.out a; omega
        have ej : ls.getD j 0 = (((ls.getD j 0).toNat : Nat) : Int) := by have := HL.out j; omega
        rw [ea] at ca
        rw [ej] at cj
        generalize priceI (ls.getD j 0).toNat own = q at *
        generalize (ls.getD a 0).toNat = sa at *
        generalize (ls.getD j 0).toNat = sj at *
        have la := World.block_lt_of_cell? w _ ca
        have lj := World.block_lt_of_cell? w _ cj
        have CA := Go.Lib.hid ca
        have CJ := Go.Lib.hid cj
        clear b1 b3 b4 hcs ea ej ca cj
        have a0 : (0 : Int) ≤ (a : Int) := Int.natCast_nonneg _
        have a1 : (a : Int) < ((n : Nat) : Int) := by omega
        have j0 : (0 : Int) ≤ (j : Int) := Int.natCast_nonneg _
        have j1 : (j : Int) < ((n : Nat) : Int) := by omega
        by_cases hmi : m ≤ i
        all_goals
          go_upto_if 54 with ((go_at_call 28; (with_reducible refine (c1 _ (TT.out.keep CW) (HA.out.keep CW) HO.out).mono ?_); rintro e x1 ⟨rfl, hb⟩; have ca := (hb.cell (p := ⟨b, off + a, none⟩) (World.block_lt_of_cell? wr _ ((CW.cell (p := ⟨b, off + a, none⟩) la).trans CA.out))).trans ((CW.cell (p := ⟨b, off + a, none⟩) la).trans CA.out); have cj := (hb.cell (p := ⟨b, off + j, none⟩) (World.block_lt_of_cell? wr _ ((CW.cell (p := ⟨b, off + j, none⟩) lj).trans CJ.out))).trans ((CW.cell (p := ⟨b, off + j, none⟩) lj).trans CJ.out); have BW := hb; replace CW := CW.trans (hb.mono CW.size); clear hb))
          go_cut [2] (fun s2 wx => s2 = .int .i64 (kk : Int) ∧ x1 = wx)
          case first =>
            by_cases hk : k < 0
            · go_wp2_with fail
              go_meet
              exact ⟨by have := HKK.out; rw [if_pos (by omega)] at this; go_num, rfl⟩
            · go_wp2_with fail
              go_meet
              exact ⟨by have := HKK.out; rw [if_neg (by omega)] at this; go_num, rfl⟩
          case rest =>
            obtain ⟨rfl, rfl⟩ := hcut
            go_wp2_with (first
              | (go_at_call 30; (with_reducible refine (rj _ (HO.out.keep BW)).mono ?_); rintro e x2 ⟨rfl, hb⟩; replace ca := (hb.cell (p := ⟨b, off + a, none⟩) (World.block_lt_of_cell? _ _ ca)).trans ca; replace BW := BW.trans (hb.mono BW.size); replace CW := CW.trans (hb.mono CW.size); clear hb rj)
              | (go_at_call 30; (with_reducible refine (ra _ (HO.out.keep BW)).mono ?_); rintro e x3 ⟨rfl, hb⟩; replace BW := BW.trans (hb.mono BW.size); replace CW := CW.trans (hb.mono CW.size); clear hb)
              | (go_at_call 22; refine (L _ (TT.out.keep CW)).mono ?_; rintro e x13 ⟨rfl, hb⟩; replace CW := CW.trans (hb.mono CW.size); clear hb))
            all_goals
              go_ret
              exact ⟨rfl, CW⟩

set_option maxRecDepth 100000 in
set_option maxHeartbeats 4000000 in
theorem cheap_long (HB : BestOk) (L : ∀ w, Tab w → Calls Tryd.prog 22 #[] w fun e w' => e = .returned (.bool true) ∧ Below w.heap.size w w') (A C : Option Addr) (n c m d : Nat) (ls ps : List Int) (k : Int) (w : World) (ht : Tab w) (wk : (Lit.int .i64 k).wf = true) (ha : Nums .u64 w A 10 ls) (hp : Ints w C m ps) (hn : 10 < n) (hc : n ≤ c) (hm : m ≤ maxLen)
    (hl : ∀ k, 0 ≤ ls.getD k 0 ∧ ls.getD k 0 ≤ 18446744073709551615) :
    Calls Tryd.prog 10 #[.slice A n c, .slice C m d, .int .i64 k] w fun e w' => e = .returned (.bool true) ∧ Below w.heap.size w w' := by
  have TT := Go.Lib.hid ht
  clear ht
  have hd1 : decide ((10 : Int) < (n : Int)) = true := decide_eq_true (by omega)
  obtain ⟨i0, hi, hz0, hz1, hz2⟩ := info_parts info_int
  obtain ⟨k0, k1⟩ := wf_iff.1 wk
  unfold maxLen at hm
  have HA := Go.Lib.hid ha
  have HP := Go.Lib.hid hp
  have HL := Go.Lib.hid hl
  have HBB := Go.Lib.hid HB
  clear ha hp hl HB wk
  go_enter Tryd.func10, Tryd.ntmps10
  go_wp2
  go_loopw [7, 8] (fun v iv wr => ∃ i : Nat, i ≤ m ∧ i ≤ 64 ∧ iv = .int .i64 i ∧ wr.ownsRow w.heap.size 3 1 v i ((cutP (ps.take i)).map (Value.int .i64)) ∧ Below w.heap.size w wr) (fun _ iv _ => 64 - (intOf iv).toNat)
  case atStart => exact ⟨0, Nat.zero_le _, Nat.zero_le _, rfl, World.ownsRow_nil _ _ _ _, Below.refl _ _⟩
  case round =>
    obtain ⟨i, him, hi64, rfl, hown, CW⟩ := hrel
    have hbz := CW.size
    by_cases hlt : i < m ∧ i < 64
    · obtain ⟨hlt1, hlt2⟩ := hlt
      obtain ⟨b, off, rfl, hcs⟩ := (HP.out.keep CW).2 (by omega)
      have hck := hcs i hlt1
      have HU := Go.Lib.hid (cutP_succ (ps := ps) (k := i) (by rw [HP.out.1]; exact hlt1))
      obtain ⟨x, hx⟩ : ∃ x, ps.getD i 0 = x := ⟨_, rfl⟩
      rw [hx] at hck HU
      obtain ⟨LL, hL⟩ : ∃ LL, (cutP (ps.take i)).map (Value.int .i64) = LL := ⟨_, rfl⟩
      rw [hL] at hown
      have HLL := Go.Lib.hid hL
      clear hcs hx hL
      go_wp2_with (at_builtin; refine wpList_append_own _ rfl _ _ 25 rfl w.heap.size 3 i0 (.int .i64 0) 1 8 Tryd.underlying25 hi hz0 hz1 hz2 rfl (by decide) _ _ _ rfl (hown.alloc _) ⟨wr.heap.size, 0, none⟩ 1 1 [.int .i64 (x.tmod 1099511627776)] rfl rfl (one_cell _ _ _) (one_ok _) (by unfold maxLen; omega) (by omega) (by simp; omega) ?_)
      intro v' w2 hown' hgrow _
      have R := (CW.alloc hbz _).grown hgrow (by simp; omega) (own_ge hown)
      clear hgrow hown hck CW
      go_wp2
      go_roundw
      case rel => exact ⟨i + 1, by omega, by omega, by go_num, by rw [HU.out, List.map_append, HLL.out]; exact hown', R⟩
      case measure => simp [intOf]; omega
    · have hge : m ≤ i ∨ 64 ≤ i := by omega
      clear hlt
      obtain ⟨A2, c2, rfl, hc2⟩ := own_form hown
      have ho := Ints.of_own hown
      obtain ⟨own, hown2⟩ : ∃ own, cutP (ps.take i) = own := ⟨_, rfl⟩
      have hbd := fun j => cutP_bd (ps.take i) j
      rw [hown2] at ho hbd
      have c1 := fun W h0 h1 h2 => HBB.out A A2 10 c i c2 ls own W h0 h1 h2 (by omega) (by omega) HL.out hbd
      have HO := Go.Lib.hid ho
      have HBD := Go.Lib.hid hbd
      clear hown ho hown2 hbd hbz
      · obtain ⟨kk, hkk⟩ : ∃ kk : Nat, (kk : Int) = if k < 0 then -(k + 1) else k := ⟨(if k < 0 then -(k + 1) else k).toNat, by split <;> omega⟩
        have hkb : (kk : Int) ≤ 9223372036854775807 := by rw [hkk]; split <;> omega
        have HKK := Go.Lib.hid hkk
        clear hkk
        obtain ⟨a, b1, b2, b3, b4⟩ := bestI_least ls own 10 (by omega)
        obtain ⟨j, hj⟩ : ∃ j : Nat, (kk : Int) % (10 : Int) = (j : Int) := ⟨((kk : Int) % (10 : Int)).toNat, by have := Int.emod_nonneg ((kk : Int)) (b := (10 : Int)) (by omega); omega⟩
        have hjn : j < 10 := by have := Int.emod_lt_of_pos ((kk : Int)) (b := (10 : Int)) (by omega); omega
        have b5 := b4 j hjn
        rw [b1] at c1
        have ra := fun W h => price_ref (ls.getD a 0).toNat (by have := HL.out a; omega) A2 i c2 own W h (by unfold maxLen; omega) HBD.out
        have rj := fun W h => price_ref (ls.getD j 0).toNat (by have := HL.out j; omega) A2 i c2 own W h (by unfold maxLen; omega) HBD.out
        rw [← b3] at ra
        generalize (bestI ls own 10).2 = p at *
        obtain ⟨b, off, rfl, hcs⟩ := HA.out.2 (by omega)
        have ca := hcs a b2
        have cj := hcs j hjn
        have ea : ls.getD a 0 = (((ls.getD a 0).toNat : Nat) : Int) := by have := HL.out a; omega
        have ej : ls.getD j 0 = (((ls.getD j 0).toNat : Nat) : Int) := by have := HL.out j; omega
        rw [ea] at ca
        rw [ej] at cj
        generalize priceI (ls.getD j 0).toNat own = q at *
        generalize (ls.getD a 0).toNat = sa at *
        generalize (ls.getD j 0).toNat = sj at *
        have la := World.block_lt_of_cell? w _ ca
        have lj := World.block_lt_of_cell? w _ cj
        have CA := Go.Lib.hid ca
        have CJ := Go.Lib.hid cj
        clear b1 b3 b4 hcs ea ej ca cj
        have a0 : (0 : Int) ≤ (a : Int) := Int.natCast_nonneg _
        have a1 : (a : Int) < (10 : Int) := by omega
        have j0 : (0 : Int) ≤ (j : Int) := Int.natCast_nonneg _
        have j1 : (j : Int) < (10 : Int) := by omega
        by_cases hmi : m ≤ i
        all_goals
          go_upto_if 54 with ((go_at_call 28; (with_reducible refine (c1 _ (TT.out.keep CW) (HA.out.keep CW) HO.out).mono ?_); rintro e x1 ⟨rfl, hb⟩; have ca := (hb.cell (p := ⟨b, off + a, none⟩) (World.block_lt_of_cell? wr _ ((CW.cell (p := ⟨b, off + a, none⟩) la).trans CA.out))).trans ((CW.cell (p := ⟨b, off + a, none⟩) la).trans CA.out); have cj := (hb.cell (p := ⟨b, off + j, none⟩) (World.block_lt_of_cell? wr _ ((CW.cell (p := ⟨b, off + j, none⟩) lj).trans CJ.out))).trans ((CW.cell (p := ⟨b, off + j, none⟩) lj).trans CJ.out); have BW := hb; replace CW := CW.trans (hb.mono CW.size); clear hb))
          go_cut [2] (fun s2 wx => s2 = .int .i64 (kk : Int) ∧ x1 = wx)
          case first =>
            by_cases hk : k < 0
            · go_wp2_with fail
              go_meet
              exact ⟨by have := HKK.out; rw [if_pos (by omega)] at this; go_num, rfl⟩
            · go_wp2_with fail
              go_meet
              exact ⟨by have := HKK.out; rw [if_neg (by omega)] at this; go_num, rfl⟩
          case rest =>
            obtain ⟨rfl, rfl⟩ := hcut
            go_wp2_with (first
              | (go_at_call 30; (with_reducible refine (rj _ (HO.out.keep BW)).mono ?_); rintro e x2 ⟨rfl, hb⟩; replace ca := (hb.cell (p := ⟨b, off + a, none⟩) (World.block_lt_of_cell? _ _ ca)).trans ca; replace BW := BW.trans (hb.mono BW.size); replace CW := CW.trans (hb.mono CW.size); clear hb rj)
              | (go_at_call 30; (with_reducible refine (ra _ (HO.out.keep BW)).mono ?_); rintro e x3 ⟨rfl, hb⟩; replace BW := BW.trans (hb.mono BW.size); replace CW := CW.trans (hb.mono CW.size); clear hb)
              | (go_at_call 22; refine (L _ (TT.out.keep CW)).mono ?_; rintro e x13 ⟨rfl, hb⟩; replace CW := CW.trans (hb.mono CW.size); clear hb))
            all_goals
              go_ret
              exact ⟨rfl, CW⟩

theorem cheap_any (HB : BestOk) (HO : OfOk) (HT : TextOk) (HN : NextOk) (A C : Option Addr) (n c m d : Nat) (zs ys : List Int) (k : Int) (w : World) (ht : Tab w) (wk : (Lit.int .i64 k).wf = true)
    (ha : Nums .u64 w A n (zs.take n) ∧ n ≤ c ∧ (∀ x ∈ zs, (Lit.int .u64 x).wf = true) ∧ n ≤ zs.length) (hp : Nums .i64 w C m (ys.take m) ∧ m ≤ d ∧ (∀ x ∈ ys, (Lit.int .i64 x).wf = true) ∧ m ≤ ys.length) (hm : m ≤ maxLen) :
    Calls Tryd.prog 10 #[.slice A n c, .slice C m d, .int .i64 k] w fun e w' => e = .returned (.bool true) ∧ Below w.heap.size w w' := by
  have TT := Go.Lib.hid ht
  have L := lives2_any HO HT HN
  obtain ⟨a1, a2, a3, a4⟩ := ha
  by_cases hn : 10 < n
  · have a5 := a1.cut (m := 10) (by omega)
    rw [List.take_take, Nat.min_eq_left (by omega)] at a5
    exact cheap_long HB L A C n c m d _ _ k w ht wk a5 hp.1 hn a2 hm (u64_bd a3 10)
  · exact cheap_short HB L A C n c m d _ _ k w ht wk a1 hp.1 (by omega) a2 hm (u64_bd a3 n)
end Go.Proofs.YtmjogpbdgbgkhaaDoor
