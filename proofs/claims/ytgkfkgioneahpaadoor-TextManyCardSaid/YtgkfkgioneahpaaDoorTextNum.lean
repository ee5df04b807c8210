/- What text.Number and the document's Number answer, off their code. -/
import Derived.Test.YtgkfkgioneahpaaDoorCore
import Derived.Test.YtgkfkgioneahpaaDoorTextNumPure
namespace Go.Proofs.YtgkfkgioneahpaaDoor
open Go.RowKit
set_option linter.unusedVariables false

theorem dig_lo {c : UInt8} (h : digC c = true) : decide ((c.toNat : Int) < 48) = false ∧ decide (57 < (c.toNat : Int)) = false := by
  rw [digC_iff] at h
  exact ⟨decide_eq_false (by omega), decide_eq_false (by omega)⟩
theorem dig_no {c : UInt8} (h : digC c = false) : decide ((c.toNat : Int) < 48) = true ∨ (decide ((c.toNat : Int) < 48) = false ∧ decide (57 < (c.toNat : Int)) = true) := by
  by_cases h1 : (c.toNat : Int) < 48
  · exact .inl (decide_eq_true h1)
  · refine .inr ⟨decide_eq_false h1, decide_eq_true ?_⟩
    by_cases h2 : (57 : Int) < c.toNat
    · exact h2
    · have := (digC_iff (c := c)).2 ⟨by omega, by omega⟩
      rw [h] at this
      cases this
/-- The first min of them. -/
def clipD (l : List UInt8) : Nat := min (valD l) 1000000000000000000
theorem clipD_le (l : List UInt8) : clipD l ≤ 1000000000000000000 := Nat.min_le_right _ _
theorem clipD_take {l : List UInt8} {k : Nat} (hk : k < l.length) (h : digC l[k] = true) : clipD (l.take (k + 1)) = min (10 * clipD (l.take k) + (l[k].toNat - 48)) 1000000000000000000 := by
  unfold clipD
  rw [valD_take hk]
  rw [digC_iff] at h
  rcases Nat.le_total (valD (l.take k)) 1000000000000000000 with h1 | h1
  · rw [Nat.min_eq_left h1]
  · rw [Nat.min_eq_right h1, Nat.min_eq_right (by omega), Nat.min_eq_right (by omega)]
set_option maxHeartbeats 2000000 in
theorem number_yes (s : ByteArray) (w : World) (hs : s.size ≤ maxLen) (h : decB s.data.toList = true) :
    Calls Tryd.prog 16 #[.string s] w fun e w' => e = .returned (.tuple #[.int .i64 (numV s.data.toList), .bool true]) ∧ w' = w := by
  unfold maxLen at hs
  obtain ⟨l, hl⟩ : ∃ l, l = s.data.toList := ⟨_, rfl⟩
  have hsz : l.length = s.size := by rw [hl]; exact Array.length_toList
  have HS := Go.Lib.hid hsz
  rw [← hl] at h
  rw [← hl]
  obtain ⟨h0, h1, h2⟩ := decB_parts h
  have hpos : 0 < s.size := by
    rcases Nat.eq_zero_or_pos s.size with e | e
    · exact absurd (List.length_eq_zero_iff.1 (hsz.trans e)) h0
    · exact e
  have hemp := empty_size s
  rw [decide_eq_false (by omega)] at hemp
  obtain ⟨M, hM⟩ : ∃ M, clipD l = M := ⟨_, rfl⟩
  have hML := clipD_le l
  rw [hM] at hML
  have hV : numV l = (M : Int) := (numV_yes h).trans (by rw [← hM]; rfl)
  rw [hV]
  have HB : Hid (∀ k (hk : k < s.size), l[k]'(by rw [HS.out]; exact hk) = s[k]) := fun k hk => by subst hl; rfl
  have HG : Hid (∀ k (hk : k < s.size), digC s[k] = true) := fun k hk => by rw [← HB.out k hk]; exact List.all_eq_true.1 h2 _ (List.getElem_mem _)
  have HQ : Hid ((((s[0]'hpos).toNat : Int) == 48) = true → (s.toList == [48]) = true) := fun hq => by
    have e0 : s[0]'hpos = 48 := UInt8.toNat_inj.1 (by have := beq_iff_eq.1 hq; show (s[0]'hpos).toNat = 48; omega)
    rw [beq_iff_eq, ByteArray.toList_eq, ← hl]
    have hlen : l.length = 1 := h1.resolve_left (fun hh => hh (by
      rw [List.head?_eq_getElem?, List.getElem?_eq_getElem (by rw [HS.out]; exact hpos), HB.out 0 hpos, e0]))
    obtain ⟨x, hx⟩ := List.length_eq_one_iff.1 hlen
    have := HB.out 0 hpos
    simp only [hx, List.getElem_cons_zero] at this
    rw [hx, this, e0]
  have HE : Hid (clipD (l.take s.size) = M) := by show _ = _; rw [List.take_of_length_le (by rw [hsz]; exact Nat.le_refl _), hM]
  clear h h0 h1 h2 hsz hl hM hV
  have hq2 : (((s[0]'hpos).toNat : Int) == 48) = false ∨ ((((s[0]'hpos).toNat : Int) == 48) = true ∧ (s.toList == [48]) = true) := by
    cases hq : (((s[0]'hpos).toNat : Int) == 48)
    · exact .inl rfl
    · exact .inr ⟨rfl, HQ.out hq⟩
  rcases hq2 with hq | ⟨hq, hq3⟩
  all_goals
    go_enter Tryd.func16, Tryd.ntmps16
    go_wp2
    go_loop [4, 19] (fun nv iv => ∃ k : Nat, k ≤ s.size ∧ iv = .int .i64 k ∧ nv = .int .u64 (clipD (l.take k))) (fun _ iv => s.size - (intOf iv).toNat)
    case atStart => exact ⟨0, Nat.zero_le _, rfl, rfl⟩
    case round =>
      obtain ⟨k, hk, rfl, rfl⟩ := hrel
      by_cases hlt : k < s.size
      · have hg := HG.out k hlt
        have HC : Hid (clipD (l.take (k + 1)) = min (10 * clipD (l.take k) + ((s[k]).toNat - 48)) 1000000000000000000) := by
          show _ = _
          have := clipD_take (l := l) (k := k) (by rw [HS.out]; exact hlt) (by rw [HB.out k hlt]; exact hg)
          rw [HB.out k hlt] at this
          exact this
        obtain ⟨g1, g2⟩ := dig_lo hg
        have hb := digC_iff.1 hg
        have hm := clipD_le (l.take k)
        clear hg
        generalize clipD (l.take k) = m at *
        go_wp2
        refine ⟨⟨k + 1, by omega, by go_num, ?_⟩, by simp [intOf]; omega⟩
        rw [HC.out]
        congr 1
        split <;> omega
      · obtain rfl : k = s.size := by omega
        rw [HE.out]
        go_wp2
        go_ret2
        exact ⟨rfl, rfl⟩
set_option maxHeartbeats 2000000 in
theorem number_no (s : ByteArray) (w : World) (hs : s.size ≤ maxLen) (h : decB s.data.toList = false) :
    Calls Tryd.prog 16 #[.string s] w fun e w' => e = .returned (.tuple #[.int .i64 0, .bool false]) ∧ w' = w := by
  unfold maxLen at hs
  obtain ⟨l, hl⟩ : ∃ l, l = s.data.toList := ⟨_, rfl⟩
  have hsz : l.length = s.size := by rw [hl]; exact Array.length_toList
  have HS := Go.Lib.hid hsz
  rw [← hl] at h
  have hemp := empty_size s
  by_cases h0 : s.size = 0
  · rw [decide_eq_true h0] at hemp
    clear h hsz h0 hl
    go_enter Tryd.func16, Tryd.ntmps16
    go_wp2
    go_ret2
    exact ⟨rfl, rfl⟩
  have hpos : 0 < s.size := by omega
  rw [decide_eq_false h0] at hemp
  have HB : Hid (∀ k (hk : k < s.size), l[k]'(by rw [HS.out]; exact hk) = s[k]) := fun k hk => by subst hl; rfl
  have hlb : s.toList = l := by rw [ByteArray.toList_eq, hl]
  by_cases hq : s[0]'hpos = 48
  · by_cases h1 : s.size = 1
    · -- 0 alone is a decimal
      exfalso
      obtain ⟨x, hx⟩ := List.length_eq_one_iff.1 (hsz.trans h1)
      have := HB.out 0 hpos
      simp only [hx, List.getElem_cons_zero, hq] at this
      rw [hx, this] at h
      revert h
      decide
    · have q1 : (((s[0]'hpos).toNat : Int) == 48) = true := by rw [hq]; rfl
      have q2 : (s.toList == [48]) = false := beq_eq_false_iff_ne.2 fun e => h1 (by rw [hlb] at e; rw [← hsz, e]; rfl)
      clear h h0 hl hsz hq h1 hlb
      go_enter Tryd.func16, Tryd.ntmps16
      go_wp2
      go_ret2
      exact ⟨rfl, rfl⟩
  · have q1 : (((s[0]'hpos).toNat : Int) == 48) = false := beq_eq_false_iff_ne.2 fun e => hq (UInt8.toNat_inj.1 (by show (s[0]'hpos).toNat = 48; omega))
    have hbad : l.all digC = false := by
      cases hd : l.all digC
      · rfl
      · unfold decB at h
        have e1 : l.isEmpty = false := by cases l with | nil => simp at hsz; omega | cons _ _ => rfl
        have e2 : l.head? ≠ some 48 := by
          rw [List.head?_eq_getElem?, List.getElem?_eq_getElem (by rw [HS.out]; exact hpos), HB.out 0 hpos]
          exact fun e => hq (Option.some.inj e)
        rw [hd, e1, decide_eq_true e2] at h
        cases h
    obtain ⟨c, hc, hcd⟩ := List.all_eq_false.1 hbad
    obtain ⟨j, hj, hjc⟩ := List.getElem_of_mem hc
    have HX : Hid (∀ k, k = j → ∀ (hk : k < s.size), digC s[k] = false) := fun k e hk => by
      subst e
      rw [← HB.out k hk, hjc]
      simpa using hcd
    have HJ : Hid (j < s.size) := by show _ < _; rw [← hsz]; exact hj
    clear h h0 hl hsz hq hlb hbad hc hcd hjc hj
    go_enter Tryd.func16, Tryd.ntmps16
    go_wp2
    go_loop [4, 19] (fun nv iv => ∃ k m : Nat, k ≤ j ∧ iv = .int .i64 k ∧ nv = .int .u64 m ∧ m ≤ 1000000000000000000) (fun _ iv => s.size - (intOf iv).toNat)
    case atStart => exact ⟨0, 0, Nat.zero_le _, rfl, rfl, by omega⟩
    case round =>
      obtain ⟨k, m, hk, rfl, rfl, hm⟩ := hrel
      have hlt : k < s.size := by have := HJ.out; omega
      cases hg : digC s[k]
      · have hgn := dig_no hg
        clear hg
        rcases hgn with g1 | ⟨g1, g2⟩
        · go_wp2
          go_ret2
          exact ⟨rfl, rfl⟩
        · go_wp2
          go_ret2
          exact ⟨rfl, rfl⟩
      · have hkj : k < j := by
          rcases Nat.lt_or_ge k j with a | a
          · exact a
          · have := HX.out k (by omega) hlt
            rw [hg] at this
            cases this
        obtain ⟨g1, g2⟩ := dig_lo hg
        have hb := digC_iff.1 hg
        clear hg
        go_wp2
        by_cases hx : (1000000000000000000 : Int) < 10 * (m : Int) + (((s[k]).toNat : Int) - 48)
        · exact ⟨⟨k + 1, 1000000000000000000, by omega, by go_num, by rw [if_pos hx]; rfl, by omega⟩, by simp [intOf]; omega⟩
        · exact ⟨⟨k + 1, 10 * m + ((s[k]).toNat - 48), by omega, by go_num, by rw [if_neg hx]; congr 1; omega, by omega⟩, by simp [intOf]; omega⟩
/-- A decimal's number, whatever the text. -/
theorem number_any (s : ByteArray) (w : World) (hs : s.size ≤ maxLen) :
    Calls Tryd.prog 16 #[.string s] w fun e w' => e = .returned (.tuple #[.int .i64 (numV s.data.toList), .bool (decB s.data.toList)]) ∧ w' = w := by
  cases h : decB s.data.toList
  · rw [numV_no h]; exact number_no s w hs h
  · exact number_yes s w hs h
end Go.Proofs.YtgkfkgioneahpaaDoor
