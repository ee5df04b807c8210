/- What the document's Number answers, off its code. -/
import Derived.Test.YtgkfkgioneahpaaDoorTextNum
namespace Go.Proofs.YtgkfkgioneahpaaDoor
open Go.RowKit
set_option linter.unusedVariables false

set_option maxHeartbeats 2000000 in
theorem number_ref_yes (s : ByteArray) (w : World) (hs : s.size ≤ maxLen) (h : decB s.data.toList = true) :
    Calls Tryd.prog 17 #[.string s] w fun e w' => e = .returned (.tuple #[.int .i64 (numV s.data.toList), .bool true]) ∧ w' = w := by
  unfold maxLen at hs
  obtain ⟨l, hl⟩ : ∃ l, l = s.data.toList := ⟨_, rfl⟩
  have hsz : l.length = s.size := by rw [hl]; exact Array.length_toList
  have HS := Go.Lib.hid hsz
  rw [← hl] at h
  rw [← hl]
  obtain ⟨h0, h1, h2⟩ := decB_parts h
  have hpos : 0 < s.size := by
    rcases Nat.eq_zero_or_pos s.size with e | e
    · exact absurd (List.length_eq_zero_iff.1 (hsz.trans e)) h0
    · exact e
  have HV := Go.Lib.hid h
  have HB : Hid (∀ k (hk : k < s.size), l[k]'(by rw [HS.out]; exact hk) = s[k]) := fun k hk => by subst hl; rfl
  have HG : Hid (∀ k (hk : k < s.size), digC s[k] = true) := fun k hk => by rw [← HB.out k hk]; exact List.all_eq_true.1 h2 _ (List.getElem_mem _)
  have hq2 : (((s[0]'hpos).toNat : Int) == 48) = false ∨ ((((s[0]'hpos).toNat : Int) == 48) = true ∧ s.size = 1) := by
    cases hq : (((s[0]'hpos).toNat : Int) == 48)
    · exact .inl rfl
    · refine .inr ⟨rfl, ?_⟩
      have e0 : s[0]'hpos = 48 := UInt8.toNat_inj.1 (by have := beq_iff_eq.1 hq; show (s[0]'hpos).toNat = 48; omega)
      rw [← hsz]
      exact h1.resolve_left (fun hh => hh (by rw [List.head?_eq_getElem?, List.getElem?_eq_getElem (by rw [HS.out]; exact hpos), HB.out 0 hpos, e0]))
  have HE : Hid (valD (l.take s.size) = valD l) := by show _ = _; rw [List.take_of_length_le (by rw [hsz]; exact Nat.le_refl _)]
  have HD : Hid (∀ k, k ≤ s.size → valD (l.take k) < 10 ^ k) := fun k hk => by
    have := valD_lt (l := l.take k) (List.all_eq_true.2 fun c hc => List.all_eq_true.1 h2 c (List.mem_of_mem_take hc))
    rwa [List.length_take_of_le (by rw [HS.out]; exact hk)] at this
  clear h h0 h1 h2 hsz hl
  by_cases hlong : 18 < s.size
  · have hz1 : ((s.size : Int) == 0) = false := beq_eq_false_iff_ne.2 (by omega)
    have hV : numV l = 1000000000000000000 := numV_long HV.out (by rw [HS.out]; exact hlong)
    rw [hV]
    clear hV
    rcases hq2 with hq | ⟨hq, hq3⟩
    · go_enter Tryd.func17, Tryd.ntmps17
      go_wp2
      go_loop [4] (fun iv => ∃ k : Nat, k ≤ s.size ∧ iv = .int .i64 k) (fun iv => s.size - (intOf iv).toNat)
      case atStart => exact ⟨0, Nat.zero_le _, rfl⟩
      case round =>
        obtain ⟨k, hk, rfl⟩ := hrel
        by_cases hlt : k < s.size
        · obtain ⟨g1, g2⟩ := dig_lo (HG.out k hlt)
          go_wp2
          go_round
          case rel => exact ⟨k + 1, by omega, by go_num⟩
          case measure => simp [intOf]; omega
        · obtain rfl : k = s.size := by omega
          go_wp2
          go_ret2
          exact ⟨rfl, rfl⟩
    · omega
  · have hz1 : ((s.size : Int) == 0) = false := beq_eq_false_iff_ne.2 (by omega)
    have hV : numV l = (valD l : Int) := numV_short HV.out (by rw [HS.out]; omega)
    rw [hV]
    clear hV
    obtain ⟨M, hM⟩ : ∃ M, valD l = M := ⟨_, rfl⟩
    rw [hM]
    have HE2 : Hid (valD (l.take s.size) = M) := HE.out.trans hM
    clear hM HE
    rcases hq2 with hq | ⟨hq, hq3⟩
    all_goals
      go_enter Tryd.func17, Tryd.ntmps17
      go_wp2
      go_loop [4] (fun iv => ∃ k : Nat, k ≤ s.size ∧ iv = .int .i64 k) (fun iv => s.size - (intOf iv).toNat)
      case atStart => exact ⟨0, Nat.zero_le _, rfl⟩
      case round =>
        obtain ⟨k, hk, rfl⟩ := hrel
        by_cases hlt : k < s.size
        · obtain ⟨g1, g2⟩ := dig_lo (HG.out k hlt)
          go_wp2
          go_round
          case rel => exact ⟨k + 1, by omega, by go_num⟩
          case measure => simp [intOf]; omega
        · obtain ⟨N, hN⟩ : ∃ N, s.size = N := ⟨_, rfl⟩
          obtain rfl : k = s.size := by omega
          clear hN
          go_wp2
          go_loop [5, 6] (fun nv iv => ∃ k : Nat, k ≤ s.size ∧ iv = .int .i64 k ∧ nv = .int .i64 (valD (l.take k))) (fun _ iv => s.size - (intOf iv).toNat)
          case atStart => exact ⟨0, Nat.zero_le _, rfl, rfl⟩
          case round =>
            obtain ⟨k, hk, rfl, rfl⟩ := hrel
            by_cases hlt : k < s.size
            · have HC : Hid (valD (l.take (k + 1)) = 10 * valD (l.take k) + ((s[k]).toNat - 48)) := by
                show _ = _
                rw [valD_take (by rw [HS.out]; exact hlt), HB.out k hlt]
              have hb := digC_iff.1 (HG.out k hlt)
              have hm : valD (l.take k) < 1000000000000000000 := Nat.lt_of_lt_of_le (HD.out k (by omega)) (Nat.pow_le_pow_right (n := 10) (by decide) (show k ≤ 18 by omega))
              have hm2 : valD (l.take (k + 1)) < 1000000000000000000 := Nat.lt_of_lt_of_le (HD.out (k + 1) (by omega)) (Nat.pow_le_pow_right (n := 10) (by decide) (show k + 1 ≤ 18 by omega))
              rw [HC.out] at hm2
              generalize valD (l.take k) = m at *
              go_wp2
              exact ⟨⟨k + 1, by omega, by go_num, by rw [HC.out]; congr 1; omega⟩, by simp [intOf]; omega⟩
            · obtain rfl : k = s.size := by omega
              rw [HE2.out]
              go_wp2
              go_ret2
              exact ⟨rfl, rfl⟩
set_option maxHeartbeats 2000000 in
theorem number_ref_no (s : ByteArray) (w : World) (hs : s.size ≤ maxLen) (h : decB s.data.toList = false) :
    Calls Tryd.prog 17 #[.string s] w fun e w' => e = .returned (.tuple #[.int .i64 0, .bool false]) ∧ w' = w := by
  unfold maxLen at hs
  obtain ⟨l, hl⟩ : ∃ l, l = s.data.toList := ⟨_, rfl⟩
  have hsz : l.length = s.size := by rw [hl]; exact Array.length_toList
  have HS := Go.Lib.hid hsz
  rw [← hl] at h
  by_cases h0 : s.size = 0
  · have hz1 : ((s.size : Int) == 0) = true := beq_iff_eq.2 (by omega)
    clear h hsz h0 hl
    go_enter Tryd.func17, Tryd.ntmps17
    go_wp2
    go_ret2
    exact ⟨rfl, rfl⟩
  have hz1 : ((s.size : Int) == 0) = false := beq_eq_false_iff_ne.2 (by omega)
  have hpos : 0 < s.size := by omega
  have HB : Hid (∀ k (hk : k < s.size), l[k]'(by rw [HS.out]; exact hk) = s[k]) := fun k hk => by subst hl; rfl
  by_cases hq : s[0]'hpos = 48 ∧ 1 < s.size
  · have q1 : (((s[0]'hpos).toNat : Int) == 48) = true := by rw [hq.1]; rfl
    have q2 := hq.2
    clear h h0 hl hsz hq
    go_enter Tryd.func17, Tryd.ntmps17
    go_wp2
    go_ret2
    exact ⟨rfl, rfl⟩
  · have hbad : l.all digC = false := by
      cases hd : l.all digC
      · rfl
      · unfold decB at h
        have e1 : l.isEmpty = false := by cases l with | nil => simp at hsz; omega | cons _ _ => rfl
        have e2 : l.head? ≠ some 48 ∨ l.length = 1 := by
          by_cases e : l.length = 1
          · exact .inr e
          · left
            rw [List.head?_eq_getElem?, List.getElem?_eq_getElem (by rw [HS.out]; exact hpos), HB.out 0 hpos]
            exact fun e' => hq ⟨Option.some.inj e', by omega⟩
        rw [hd, e1] at h
        simp only [Bool.not_false, Bool.true_and, Bool.and_true, Bool.or_eq_false_iff, decide_eq_false_iff_not] at h
        rcases e2 with e2 | e2
        · exact absurd e2 h.1
        · exact absurd e2 h.2
    obtain ⟨c, hc, hcd⟩ := List.all_eq_false.1 hbad
    obtain ⟨j, hj, hjc⟩ := List.getElem_of_mem hc
    have HX : Hid (∀ k, k = j → ∀ (hk : k < s.size), digC s[k] = false) := fun k e hk => by
      subst e
      rw [← HB.out k hk, hjc]
      simpa using hcd
    have HJ : Hid (j < s.size) := by show _ < _; rw [← hsz]; exact hj
    have hq2 : (((s[0]'hpos).toNat : Int) == 48) = false ∨ ((((s[0]'hpos).toNat : Int) == 48) = true ∧ s.size = 1) := by
      cases hq3 : (((s[0]'hpos).toNat : Int) == 48)
      · exact .inl rfl
      · refine .inr ⟨rfl, ?_⟩
        have e0 : s[0]'hpos = 48 := UInt8.toNat_inj.1 (by have := beq_iff_eq.1 hq3; show (s[0]'hpos).toNat = 48; omega)
        rcases Nat.lt_or_ge 1 s.size with e | e
        · exact absurd ⟨e0, e⟩ hq
        · omega
    clear h h0 hl hsz hq hbad hc hcd hjc hj
    rcases hq2 with q1 | ⟨q1, q2⟩
    all_goals
      go_enter Tryd.func17, Tryd.ntmps17
      go_wp2
      go_loop [4] (fun iv => ∃ k : Nat, k ≤ j ∧ iv = .int .i64 k) (fun iv => s.size - (intOf iv).toNat)
      case atStart => exact ⟨0, Nat.zero_le _, rfl⟩
      case round =>
        obtain ⟨k, hk, rfl⟩ := hrel
        have hlt : k < s.size := by have := HJ.out; omega
        cases hg : digC s[k]
        · have hgn := dig_no hg
          clear hg
          rcases hgn with g1 | ⟨g1, g2⟩
          · go_wp2
            go_ret2
            exact ⟨rfl, rfl⟩
          · go_wp2
            go_ret2
            exact ⟨rfl, rfl⟩
        · have hkj : k < j := by
            rcases Nat.lt_or_ge k j with a | a
            · exact a
            · have := HX.out k (by omega) hlt
              rw [hg] at this
              cases this
          obtain ⟨g1, g2⟩ := dig_lo hg
          clear hg
          go_wp2
          go_round
          case rel => exact ⟨k + 1, by omega, by go_num⟩
          case measure => simp [intOf]; omega
theorem number_ref (s : ByteArray) (w : World) (hs : s.size ≤ maxLen) :
    Calls Tryd.prog 17 #[.string s] w fun e w' => e = .returned (.tuple #[.int .i64 (numV s.data.toList), .bool (decB s.data.toList)]) ∧ w' = w := by
  cases h : decB s.data.toList
  · rw [numV_no h]; exact number_ref_no s w hs h
  · exact number_ref_yes s w hs h
end Go.Proofs.YtgkfkgioneahpaaDoor
