/- What the functions of package days answer, off their code: Parse. -/
import Derived.Test.YtmjogpbdgbgkhaaDoorDaysCode
import Derived.Laws.RangeAny
namespace Go.Proofs.YtmjogpbdgbgkhaaDoor
open Go.RowKit
set_option linter.unusedVariables false

theorem with_quiet (s : Nat) (d : Int) (hs : s < 2 ^ 64) (wd : (Lit.int .i64 d).wf = true) (w : World) :
    Calls Tryd.prog 16 #[.int .u64 s, .int .i64 d] w fun e w' => e = .returned (.int .u64 (putN s d 1 : Int)) ∧ w' = w := by
  have c1 := fun W => one_code d wd W
  have h1 := one_with hs d
  generalize oneN d = o at *
  generalize putN s d 1 = p at *
  clear hs wd
  go_enter Tryd.func16, Tryd.ntmps16
  go_wp2_with (go_at_call 33; refine (c1 _).mono ?_; rintro e x1 ⟨rfl, rfl⟩)
  go_ret
  exact ⟨rfl, rfl⟩
/-- The set of a text's first k signs, as far as there are days. -/
def setT (l : List UInt8) (k : Nat) : Nat := num2 (bitsT (l.take (min k 64)))
theorem setT_lt (l : List UInt8) (k : Nat) : setT l k < 2 ^ 64 := by
  have h := num2_lt (bitsT (l.take (min k 64)))
  rw [bitsT_len] at h
  exact Nat.lt_of_lt_of_le h (Nat.pow_le_pow_right (by decide) (by rw [List.length_take]; omega))
theorem setT_bit (l : List UInt8) (k : Nat) {j : Nat} (hj : j < 64) : (setT l k).testBit j = (decide (j < k) && decide ((bitsT l).getD j 0 = 1)) := by
  unfold setT
  rw [num2_bit]
  have e : bitsT (l.take (min k 64)) = (bitsT l).take (min k 64) := by unfold bitsT; rw [List.map_take]
  rw [e, List.getD_eq_getElem?_getD]
  by_cases h : j < k
  · rw [List.getElem?_take_of_lt (by omega), ← List.getD_eq_getElem?_getD, decide_eq_true h, Bool.true_and]
  · rw [List.getElem?_take_eq_none (by omega), decide_eq_false h]; rfl
theorem bitsT_at {l : List UInt8} {k : Nat} (hk : k < l.length) : (bitsT l).getD k 0 = (l[k].toNat : Int) - 48 := by
  rw [List.getD_eq_getElem?_getD, List.getElem?_eq_getElem (by rw [bitsT_len]; exact hk)]
  simp [bitsT]
theorem setT_none {l : List UInt8} {k : Nat} (hk : k < l.length) (h : l[k] = 48) : setT l (k + 1) = setT l k := by
  refine eq_bits (setT_lt _ _) (setT_lt _ _) fun j hj => ?_
  rw [setT_bit _ _ hj, setT_bit _ _ hj]
  by_cases e : j = k
  · subst e
    rw [bitsT_at hk, h]; simp
  · congr 1
    by_cases h2 : j < k
    · rw [decide_eq_true h2, decide_eq_true (by omega)]
    · rw [decide_eq_false h2, decide_eq_false (by omega)]
theorem setT_day {l : List UInt8} {k : Nat} (hk : k < l.length) (h : l[k] = 49) : setT l (k + 1) = putN (setT l k) (k : Int) 1 := by
  refine eq_bits (setT_lt _ _) (putN_lt (setT_lt _ _) _ _) fun j hj => ?_
  by_cases hd : 0 ≤ (k : Int) ∧ (k : Int) ≤ 63
  · rw [putN_bit hj hd, setT_bit _ _ hj, setT_bit _ _ hj]
    by_cases e : j = k
    · subst e
      rw [if_pos rfl, bitsT_at hk, h]; simp
    · rw [if_neg (by omega)]
      congr 1
      by_cases h2 : j < k
      · rw [decide_eq_true h2, decide_eq_true (by omega)]
      · rw [decide_eq_false h2, decide_eq_false (by omega)]
  · rw [putN_out hd, setT_bit _ _ hj, setT_bit _ _ hj, decide_eq_true (show j < k + 1 by omega), decide_eq_true (show j < k by omega)]
theorem empty_size (t : ByteArray) : t.toList.isEmpty = decide (t.size = 0) := by
  rw [ByteArray.toList_eq]
  have e : t.data.toList.length = t.size := Array.length_toList
  cases h : t.data.toList with
  | nil => rw [h] at e; rw [decide_eq_true (show t.size = 0 from e.symm)]; rfl
  | cons a r =>
    rw [h] at e
    rw [decide_eq_false (show ¬ t.size = 0 by rw [← e]; simp)]; rfl

set_option maxHeartbeats 2000000 in
theorem parse_code : ParseOk := by
  intro t w hs
  unfold maxLen at hs
  have hsz : t.data.toList.length = t.size := Array.length_toList
  have hemp := empty_size t
  by_cases h0 : t.size = 0
  · rw [decide_eq_true h0] at hemp
    have e : parseV t.data.toList = (0, 2) := by
      unfold parseV
      rw [if_pos (.inl (List.length_eq_zero_iff.1 (by rw [hsz]; exact h0)))]
    rw [e]
    clear e hsz h0
    go_enter Tryd.func26, Tryd.ntmps26
    go_wp2
    go_ret2
    exact ⟨rfl, Below.refl _ _⟩
  · rw [decide_eq_false h0] at hemp
    obtain ⟨rs, re, hr⟩ : ∃ rs re, parseV t.data.toList = (rs, re) := ⟨_, _, rfl⟩
    have hbad : ∀ (k : Nat) (hk : k < t.data.toList.length), ¬ (t.data.toList[k] = 48 ∨ t.data.toList[k] = 49) → rs = 0 ∧ re = 2 := by
      intro k hk hc
      have := okB_bad (l := t.data.toList) (k := k) hk hc
      unfold parseV at hr
      rw [if_pos (.inr this)] at hr
      injection hr with a b
      exact ⟨a.symm, b.symm⟩
    have hgood : okB (t.data.toList.take t.size) = true → if 64 < t.size then rs = 0 ∧ re = 3 else rs = setT t.data.toList t.size ∧ re = 0 := by
      intro hok
      rw [List.take_of_length_le (by rw [hsz]; exact Nat.le_refl _)] at hok
      unfold parseV at hr
      rw [if_neg (not_or.2 ⟨fun e => h0 (by have := congrArg List.length e; rw [hsz] at this; exact this), by rw [hok]; decide⟩), hsz] at hr
      split at hr
      · rename_i h
        rw [if_pos h]
        injection hr with a b
        exact ⟨a.symm, b.symm⟩
      · rename_i h
        rw [if_neg h]
        injection hr with a b
        refine ⟨?_, b.symm⟩
        unfold setT
        rw [List.take_of_length_le (by rw [hsz]; omega)]
        exact a.symm
    rw [hr]
    have HS := Go.Lib.hid hsz
    have HBAD := Go.Lib.hid hbad
    have HGOOD := Go.Lib.hid hgood
    clear hr hbad hgood hsz h0
    go_enter Tryd.func26, Tryd.ntmps26
    go_wp2
    go_loopw [4] (fun sv wr => ∃ pos : Nat, wr = w.iter t pos ∧ sv = .int .u64 ((setT t.data.toList pos : Nat) : Int) ∧ pos ≤ t.size ∧ okB (t.data.toList.take pos) = true) (fun _ wr => t.size - wr.iterPos w.heap.size)
    case atStart => exact ⟨0, rfl, rfl, Nat.zero_le _, by simp [okB]⟩
    case round =>
      obtain ⟨pos, rfl, rfl, hp, hok⟩ := hrel
      by_cases hlt : pos < t.size
      · have HO := Go.Lib.hid hok
        clear hok
        by_cases ha : (t[pos]'hlt).toNat < 128
        · have hnx : ∀ ty, (Instr.next (.pointer (some ⟨w.heap.size, 0, none⟩)) true ty).run Tryd.prog (w.iter t pos) = _ := fun ty => run_next_ascii w t pos ty hlt ha
          by_cases hc : ((t[pos]'hlt).toNat : Int) = 48 ∨ ((t[pos]'hlt).toNat : Int) = 49
          · have HC : Hid (t.data.toList[pos]'(by rw [HS.out]; exact hlt) = 48 ∨ t.data.toList[pos]'(by rw [HS.out]; exact hlt) = 49) := hc.imp byte_48.1 byte_49.1
            have HTT := Go.Lib.hid (okB_take (by rw [HS.out]; exact hlt) HO.out HC.out)
            rcases hc with hc | hc
            · have HN := Go.Lib.hid (setT_none (l := t.data.toList) (k := pos) (by rw [HS.out]; exact hlt) (byte_48.1 hc))
              rw [hc] at hnx
              clear hc ha
              go_wp2
              go_roundw
              case rel => exact ⟨pos + 1, rfl, by rw [HN.out], by omega, HTT.out⟩
              case measure => simp; omega
            · have HN := Go.Lib.hid (setT_day (l := t.data.toList) (k := pos) (by rw [HS.out]; exact hlt) (byte_49.1 hc))
              have c1 := fun W => with_quiet (setT t.data.toList pos) (pos : Int) (setT_lt _ _) (wf_iff.2 (by omega)) W
              rw [hc] at hnx
              rw [← HN.out] at c1
              clear hc ha
              go_wp2_with (go_at_call 16; (with_reducible refine (c1 _).mono ?_); rintro e w2 ⟨rfl, rfl⟩)
              go_roundw
              case rel => exact ⟨pos + 1, rfl, rfl, by omega, HTT.out⟩
              case measure => simp; omega
          · obtain ⟨rfl, rfl⟩ := HBAD.out pos (by rw [HS.out]; exact hlt) (fun h => hc (h.imp byte_48.2 byte_49.2))
            have b0 : (((t[pos]'hlt).toNat : Int) == 48) = false := by simpa using (not_or.1 hc).1
            have b1 : (((t[pos]'hlt).toNat : Int) == 49) = false := by simpa using (not_or.1 hc).2
            clear hc ha
            go_wp2
            go_ret2
            exact ⟨rfl, below_alloc _ _⟩
        · have hh := decode_high t pos hlt (by omega)
          have hnx : ∀ ty, (Instr.next (.pointer (some ⟨w.heap.size, 0, none⟩)) true ty).run Tryd.prog (w.iter t pos) = _ := fun ty => run_next_any w t pos ty hlt
          have hne : ∀ c : UInt8, c.toNat < 128 → t.data.toList[pos]'(by rw [HS.out]; exact hlt) ≠ c := by
            intro c hc e
            apply ha
            have : (t[pos]'hlt) = c := e
            rw [this]; exact hc
          obtain ⟨rfl, rfl⟩ := HBAD.out pos (by rw [HS.out]; exact hlt) (fun h => h.elim (hne 48 (by decide)) (hne 49 (by decide)))
          have b0 : (((Utf8.decode t pos).1 : Int) == 48) = false := by simp; omega
          have b1 : (((Utf8.decode t pos).1 : Int) == 49) = false := by simp; omega
          clear ha hh hne
          generalize (Utf8.decode t pos).1 = r at *
          go_wp2
          go_ret2
          exact ⟨rfl, below_alloc _ _⟩
      · obtain rfl : pos = t.size := by omega
        have hnx : ∀ ty, (Instr.next (.pointer (some ⟨w.heap.size, 0, none⟩)) true ty).run Tryd.prog (w.iter t t.size) = _ := fun ty => run_next_end w t t.size ty hlt
        have hg := HGOOD.out hok
        clear hok
        by_cases h64 : 64 < t.size
        · rw [if_pos h64] at hg
          obtain ⟨rfl, rfl⟩ := hg
          go_wp2
          go_ret2
          exact ⟨rfl, below_alloc _ _⟩
        · rw [if_neg h64] at hg
          obtain ⟨rfl, rfl⟩ := hg
          go_wp2
          go_ret2
          exact ⟨rfl, below_alloc _ _⟩
end Go.Proofs.YtmjogpbdgbgkhaaDoor
