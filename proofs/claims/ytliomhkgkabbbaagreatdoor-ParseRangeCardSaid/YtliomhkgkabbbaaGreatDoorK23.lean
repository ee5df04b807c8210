import Derived.Test.YtliomhkgkabbbaaGreatDoorK22
import Derived.Test.YtliomhkgkabbbaaGreatDoorK03
import Derived.Laws.RangeAny
section
/- Plain facts on a set's bits by the set of one day: and, or, and-not; nothing of the program. -/
namespace Go.Proofs.YtliomhkgkabbbaaGreatDoor
open Go.RowKit
set_option linter.unusedVariables false

/-- The set of one day; none beyond. -/
def oneN (d : Int) : Nat := if 0 ≤ d ∧ d ≤ 63 then 2 ^ d.toNat else 0
theorem oneN_in {k : Nat} (hk : k < 64) : oneN (k : Int) = 2 ^ k := by unfold oneN; rw [if_pos (by omega), Int.toNat_natCast]
theorem oneN_out {d : Int} (h : ¬ (0 ≤ d ∧ d ≤ 63)) : oneN d = 0 := by unfold oneN; rw [if_neg h]
theorem oneN_lt (d : Int) : oneN d < 2 ^ 64 := by
  unfold oneN
  split
  · exact Nat.pow_lt_pow_right (by decide) (by omega)
  · decide
theorem one_has {s : Nat} (hs : s < 2 ^ 64) (d : Int) : bits .and .u64 (s : Int) (oneN d : Int) = if hasB s d then (oneN d : Int) else 0 := by
  rw [bits_and_u64_nat _ _ (by omega) (by have := oneN_lt d; omega)]
  by_cases h : 0 ≤ d ∧ d ≤ 63
  · obtain ⟨k, rfl⟩ : ∃ k : Nat, d = (k : Int) := ⟨d.toNat, by omega⟩
    rw [oneN_in (by omega)]
    have e : hasB s (k : Int) = s.testBit k := by unfold hasB; rw [decide_eq_true (by omega), Int.toNat_natCast]; rfl
    rw [e]
    have e2 : s &&& 2 ^ k = if s.testBit k then 2 ^ k else 0 := by
      refine Nat.eq_of_testBit_eq fun j => ?_
      rw [Nat.testBit_and, Nat.testBit_two_pow]
      by_cases h : k = j
      · subst h; cases hb : s.testBit k <;> simp
      · cases hb : s.testBit k <;> simp [h]
    rw [e2]
    cases s.testBit k <;> simp
  · rw [oneN_out h]
    have e : hasB s d = false := by unfold hasB; rw [decide_eq_false h]; rfl
    rw [e]; simp
theorem oneN_pos {s : Nat} {d : Int} (h : hasB s d = true) : 0 < oneN d := by
  unfold hasB at h
  have : 0 ≤ d ∧ d ≤ 63 := by
    have := (Bool.and_eq_true_iff.1 h).1
    exact of_decide_eq_true this
  unfold oneN
  rw [if_pos this]
  exact Nat.two_pow_pos _
theorem one_with {s : Nat} (hs : s < 2 ^ 64) (d : Int) : bits .or .u64 (s : Int) (oneN d : Int) = (putN s d 1 : Int) := by
  by_cases h : 0 ≤ d ∧ d ≤ 63
  · obtain ⟨k, rfl⟩ : ∃ k : Nat, d = (k : Int) := ⟨d.toNat, by omega⟩
    rw [← set_with hs (by omega), pow_wrap (by omega), oneN_in (by omega)]
  · rw [oneN_out h, putN_out h, bits_or_u64_nat _ _ (by omega) (by omega)]; simp
theorem one_without {s : Nat} (hs : s < 2 ^ 64) (d : Int) : bits .andNot .u64 (s : Int) (oneN d : Int) = (putN s d 0 : Int) := by
  by_cases h : 0 ≤ d ∧ d ≤ 63
  · obtain ⟨k, rfl⟩ : ∃ k : Nat, d = (k : Int) := ⟨d.toNat, by omega⟩
    rw [← set_without hs (by omega), pow_wrap (by omega), oneN_in (by omega)]
  · rw [oneN_out h, putN_out h, u64_andNot_nat _ _ (by omega) (by omega)]
    congr 1
    refine eq_bits (Nat.lt_of_le_of_lt Nat.and_le_left hs) hs fun j hj => ?_
    rw [Nat.testBit_and]
    have e : (18446744073709551615 - 0 : Nat) = 2 ^ 64 - 1 := rfl
    rw [e, Nat.testBit_two_pow_sub_one]
    simp [hj]
end Go.Proofs.YtliomhkgkabbbaaGreatDoor
end
section
/- What the functions of package days answer, off their code: one, Has, With, Without. -/
namespace Go.Proofs.YtliomhkgkabbbaaGreatDoor
open Go.RowKit
set_option linter.unusedVariables false

theorem one_code (d : Int) (wd : (Lit.int .i64 d).wf = true) (w : World) :
    Calls Tryz.prog 93 #[.int .i64 d] w fun e w' => e = .returned (.int .u64 (oneN d : Int)) ∧ w' = w := by
  by_cases hd : 0 ≤ d ∧ d ≤ 63
  · obtain ⟨d0, d1⟩ := hd
    obtain ⟨k, rfl⟩ : ∃ k : Nat, d = (k : Int) := ⟨d.toNat, by omega⟩
    go_enter Tryz.func93, Tryz.ntmps93
    go_wp2
    go_ret
    exact ⟨ret_u64 (by rw [pow_wrap (by omega), oneN_in (by omega)]), rfl⟩
  · rw [oneN_out hd]
    by_cases h0 : d < 0
    · go_enter Tryz.func93, Tryz.ntmps93
      go_wp2
      go_ret
      exact ⟨rfl, rfl⟩
    · have h1 : 64 ≤ d := by omega
      go_enter Tryz.func93, Tryz.ntmps93
      go_wp2
      go_ret
      exact ⟨rfl, rfl⟩
theorem has_quiet (s : Nat) (d : Int) (hs : s < 2 ^ 64) (wd : (Lit.int .i64 d).wf = true) (w : World) :
    Calls Tryz.prog 74 #[.int .u64 s, .int .i64 d] w fun e w' => e = .returned (.bool (hasB s d)) ∧ w' = w := by
  have c1 := fun W => one_code d wd W
  have h1 := one_has hs d
  have h2 := oneN_pos (s := s) (d := d)
  generalize oneN d = o at *
  cases hb : hasB s d
  · rw [hb] at h1
    rw [if_neg (by decide)] at h1
    clear h2 hb hs wd
    go_enter Tryz.func74, Tryz.ntmps74
    go_wp2_with (go_at_call 93; refine (c1 _).mono ?_; rintro e x1 ⟨rfl, rfl⟩)
    go_ret
    exact ⟨rfl, rfl⟩
  · rw [hb] at h1
    rw [if_pos rfl] at h1
    have h3 := h2 hb
    clear h2 hb hs wd
    have h4 : ((o : Int) != 0) = true := by simp; omega
    go_enter Tryz.func74, Tryz.ntmps74
    go_wp2_with (go_at_call 93; refine (c1 _).mono ?_; rintro e x1 ⟨rfl, rfl⟩)
    go_ret
    exact ⟨rfl, rfl⟩
theorem has_code : HasOk := fun s d w hs wd => (has_quiet s d hs wd w).mono fun e w' ⟨he, hw⟩ => ⟨he, hw ▸ Below.refl _ _⟩
theorem with_code : WithOk := by
  intro s d w hs wd
  have c1 := fun W => one_code d wd W
  have h1 := one_with hs d
  generalize oneN d = o at *
  generalize putN s d 1 = p at *
  clear hs wd
  go_enter Tryz.func97, Tryz.ntmps97
  go_wp2_with (go_at_call 93; refine (c1 _).mono ?_; rintro e x1 ⟨rfl, rfl⟩)
  go_ret
  exact ⟨rfl, Below.refl _ _⟩
/-- Has, as a value: the method of one set. -/
def hasV (s : Nat) : Value := .func (.func 74) #[.int .u64 s] #[]
end Go.Proofs.YtliomhkgkabbbaaGreatDoor
end
section
/- What the functions of package days answer, off their code: Parse. -/
namespace Go.Proofs.YtliomhkgkabbbaaGreatDoor
open Go.RowKit
set_option linter.unusedVariables false

theorem with_quiet (s : Nat) (d : Int) (hs : s < 2 ^ 64) (wd : (Lit.int .i64 d).wf = true) (w : World) :
    Calls Tryz.prog 97 #[.int .u64 s, .int .i64 d] w fun e w' => e = .returned (.int .u64 (putN s d 1 : Int)) ∧ w' = w := by
  have c1 := fun W => one_code d wd W
  have h1 := one_with hs d
  generalize oneN d = o at *
  generalize putN s d 1 = p at *
  clear hs wd
  go_enter Tryz.func97, Tryz.ntmps97
  go_wp2_with (go_at_call 93; refine (c1 _).mono ?_; rintro e x1 ⟨rfl, rfl⟩)
  go_ret
  exact ⟨rfl, rfl⟩
/-- The set of a text's first k signs, as far as there are days. -/
def setT (l : List UInt8) (k : Nat) : Nat := num2 (bitsT (l.take (min k 64)))
theorem setT_lt (l : List UInt8) (k : Nat) : setT l k < 2 ^ 64 := by
  have h := num2_lt (bitsT (l.take (min k 64)))
  rw [bitsT_len] at h
  exact Nat.lt_of_lt_of_le h (Nat.pow_le_pow_right (by decide) (by rw [List.length_take]; omega))
theorem setT_bit (l : List UInt8) (k : Nat) {j : Nat} (hj : j < 64) : (setT l k).testBit j = (decide (j < k) && decide ((bitsT l).getD j 0 = 1)) := by
  unfold setT
  rw [num2_bit]
  have e : bitsT (l.take (min k 64)) = (bitsT l).take (min k 64) := by unfold bitsT; rw [List.map_take]
  rw [e, List.getD_eq_getElem?_getD]
  by_cases h : j < k
  · rw [List.getElem?_take_of_lt (by omega), ← List.getD_eq_getElem?_getD, decide_eq_true h, Bool.true_and]
  · rw [List.getElem?_take_eq_none (by omega), decide_eq_false h]; rfl
theorem bitsT_at {l : List UInt8} {k : Nat} (hk : k < l.length) : (bitsT l).getD k 0 = (l[k].toNat : Int) - 48 := by
  rw [List.getD_eq_getElem?_getD, List.getElem?_eq_getElem (by rw [bitsT_len]; exact hk)]
  simp [bitsT]
theorem setT_none {l : List UInt8} {k : Nat} (hk : k < l.length) (h : l[k] = 48) : setT l (k + 1) = setT l k := by
  refine eq_bits (setT_lt _ _) (setT_lt _ _) fun j hj => ?_
  rw [setT_bit _ _ hj, setT_bit _ _ hj]
  by_cases e : j = k
  · subst e
    rw [bitsT_at hk, h]; simp
  · congr 1
    by_cases h2 : j < k
    · rw [decide_eq_true h2, decide_eq_true (by omega)]
    · rw [decide_eq_false h2, decide_eq_false (by omega)]
theorem setT_day {l : List UInt8} {k : Nat} (hk : k < l.length) (h : l[k] = 49) : setT l (k + 1) = putN (setT l k) (k : Int) 1 := by
  refine eq_bits (setT_lt _ _) (putN_lt (setT_lt _ _) _ _) fun j hj => ?_
  by_cases hd : 0 ≤ (k : Int) ∧ (k : Int) ≤ 63
  · rw [putN_bit hj hd, setT_bit _ _ hj, setT_bit _ _ hj]
    by_cases e : j = k
    · subst e
      rw [if_pos rfl, bitsT_at hk, h]; simp
    · rw [if_neg (by omega)]
      congr 1
      by_cases h2 : j < k
      · rw [decide_eq_true h2, decide_eq_true (by omega)]
      · rw [decide_eq_false h2, decide_eq_false (by omega)]
  · rw [putN_out hd, setT_bit _ _ hj, setT_bit _ _ hj, decide_eq_true (show j < k + 1 by omega), decide_eq_true (show j < k by omega)]
theorem empty_bytes (t : ByteArray) : t.toList.isEmpty = decide (t.size = 0) := by
  rw [ByteArray.toList_eq]
  have e : t.data.toList.length = t.size := Array.length_toList
  cases h : t.data.toList with
  | nil => rw [h] at e; rw [decide_eq_true (show t.size = 0 from e.symm)]; rfl
  | cons a r =>
    rw [h] at e
    rw [decide_eq_false (show ¬ t.size = 0 by rw [← e]; simp)]; rfl

set_option maxHeartbeats 2000000 in
theorem parse_code : ParseOk := by
  intro t w hs
  unfold maxLen at hs
  have hsz : t.data.toList.length = t.size := Array.length_toList
  have hemp := empty_bytes t
  by_cases h0 : t.size = 0
  · rw [decide_eq_true h0] at hemp
    have e : parseV t.data.toList = (0, 2) := by
      unfold parseV
      rw [if_pos (.inl (List.length_eq_zero_iff.1 (by rw [hsz]; exact h0)))]
    rw [e]
    clear e hsz h0
    go_enter Tryz.func83, Tryz.ntmps83
    go_wp2
    go_ret2
    exact ⟨rfl, Below.refl _ _⟩
  · rw [decide_eq_false h0] at hemp
    obtain ⟨rs, re, hr⟩ : ∃ rs re, parseV t.data.toList = (rs, re) := ⟨_, _, rfl⟩
    have hbad : ∀ (k : Nat) (hk : k < t.data.toList.length), ¬ (t.data.toList[k] = 48 ∨ t.data.toList[k] = 49) → rs = 0 ∧ re = 2 := by
      intro k hk hc
      have := okB_bad (l := t.data.toList) (k := k) hk hc
      unfold parseV at hr
      rw [if_pos (.inr this)] at hr
      injection hr with a b
      exact ⟨a.symm, b.symm⟩
    have hgood : okB (t.data.toList.take t.size) = true → if 64 < t.size then rs = 0 ∧ re = 3 else rs = setT t.data.toList t.size ∧ re = 0 := by
      intro hok
      rw [List.take_of_length_le (by rw [hsz]; exact Nat.le_refl _)] at hok
      unfold parseV at hr
      rw [if_neg (not_or.2 ⟨fun e => h0 (by have := congrArg List.length e; rw [hsz] at this; exact this), by rw [hok]; decide⟩), hsz] at hr
      split at hr
      · rename_i h
        rw [if_pos h]
        injection hr with a b
        exact ⟨a.symm, b.symm⟩
      · rename_i h
        rw [if_neg h]
        injection hr with a b
        refine ⟨?_, b.symm⟩
        unfold setT
        rw [List.take_of_length_le (by rw [hsz]; omega)]
        exact a.symm
    rw [hr]
    have HS := Go.Lib.hid hsz
    have HBAD := Go.Lib.hid hbad
    have HGOOD := Go.Lib.hid hgood
    clear hr hbad hgood hsz h0
    go_enter Tryz.func83, Tryz.ntmps83
    go_wp2
    go_loopw [4] (fun sv wr => ∃ pos : Nat, wr = w.iter t pos ∧ sv = .int .u64 ((setT t.data.toList pos : Nat) : Int) ∧ pos ≤ t.size ∧ okB (t.data.toList.take pos) = true) (fun _ wr => t.size - wr.iterPos w.heap.size)
    case atStart => exact ⟨0, rfl, rfl, Nat.zero_le _, by simp [okB]⟩
    case round =>
      obtain ⟨pos, rfl, rfl, hp, hok⟩ := hrel
      by_cases hlt : pos < t.size
      · have HO := Go.Lib.hid hok
        clear hok
        by_cases ha : (t[pos]'hlt).toNat < 128
        · have hnx : ∀ ty, (Instr.next (.pointer (some ⟨w.heap.size, 0, none⟩)) true ty).run Tryz.prog (w.iter t pos) = _ := fun ty => run_next_ascii w t pos ty hlt ha
          by_cases hc : ((t[pos]'hlt).toNat : Int) = 48 ∨ ((t[pos]'hlt).toNat : Int) = 49
          · have HC : Hid (t.data.toList[pos]'(by rw [HS.out]; exact hlt) = 48 ∨ t.data.toList[pos]'(by rw [HS.out]; exact hlt) = 49) := hc.imp byte_48.1 byte_49.1
            have HTT := Go.Lib.hid (okB_take (by rw [HS.out]; exact hlt) HO.out HC.out)
            rcases hc with hc | hc
            · have HN := Go.Lib.hid (setT_none (l := t.data.toList) (k := pos) (by rw [HS.out]; exact hlt) (byte_48.1 hc))
              rw [hc] at hnx
              clear hc ha
              go_wp2
              go_roundw
              case rel => exact ⟨pos + 1, rfl, by rw [HN.out], by omega, HTT.out⟩
              case measure => simp; omega
            · have HN := Go.Lib.hid (setT_day (l := t.data.toList) (k := pos) (by rw [HS.out]; exact hlt) (byte_49.1 hc))
              have c1 := fun W => with_quiet (setT t.data.toList pos) (pos : Int) (setT_lt _ _) (wf_iff.2 (by omega)) W
              rw [hc] at hnx
              rw [← HN.out] at c1
              clear hc ha
              go_wp2_with (go_at_call 97; (with_reducible refine (c1 _).mono ?_); rintro e w2 ⟨rfl, rfl⟩)
              go_roundw
              case rel => exact ⟨pos + 1, rfl, rfl, by omega, HTT.out⟩
              case measure => simp; omega
          · obtain ⟨rfl, rfl⟩ := HBAD.out pos (by rw [HS.out]; exact hlt) (fun h => hc (h.imp byte_48.2 byte_49.2))
            have b0 : (((t[pos]'hlt).toNat : Int) == 48) = false := by simpa using (not_or.1 hc).1
            have b1 : (((t[pos]'hlt).toNat : Int) == 49) = false := by simpa using (not_or.1 hc).2
            clear hc ha
            go_wp2
            go_ret2
            exact ⟨rfl, below_alloc _ _⟩
        · have hh := decode_high t pos hlt (by omega)
          have hnx : ∀ ty, (Instr.next (.pointer (some ⟨w.heap.size, 0, none⟩)) true ty).run Tryz.prog (w.iter t pos) = _ := fun ty => run_next_any w t pos ty hlt
          have hne : ∀ c : UInt8, c.toNat < 128 → t.data.toList[pos]'(by rw [HS.out]; exact hlt) ≠ c := by
            intro c hc e
            apply ha
            have : (t[pos]'hlt) = c := e
            rw [this]; exact hc
          obtain ⟨rfl, rfl⟩ := HBAD.out pos (by rw [HS.out]; exact hlt) (fun h => h.elim (hne 48 (by decide)) (hne 49 (by decide)))
          have b0 : (((Utf8.decode t pos).1 : Int) == 48) = false := by simp; omega
          have b1 : (((Utf8.decode t pos).1 : Int) == 49) = false := by simp; omega
          clear ha hh hne
          generalize (Utf8.decode t pos).1 = r at *
          go_wp2
          go_ret2
          exact ⟨rfl, below_alloc _ _⟩
      · obtain rfl : pos = t.size := by omega
        have hnx : ∀ ty, (Instr.next (.pointer (some ⟨w.heap.size, 0, none⟩)) true ty).run Tryz.prog (w.iter t t.size) = _ := fun ty => run_next_end w t t.size ty hlt
        have hg := HGOOD.out hok
        clear hok
        by_cases h64 : 64 < t.size
        · rw [if_pos h64] at hg
          obtain ⟨rfl, rfl⟩ := hg
          go_wp2
          go_ret2
          exact ⟨rfl, below_alloc _ _⟩
        · rw [if_neg h64] at hg
          obtain ⟨rfl, rfl⟩ := hg
          go_wp2
          go_ret2
          exact ⟨rfl, below_alloc _ _⟩
end Go.Proofs.YtliomhkgkabbbaaGreatDoor
end
section
/- What the functions of package days answer, off their code: Text. -/
namespace Go.Proofs.YtliomhkgkabbbaaGreatDoor
open Go.RowKit
set_option linter.unusedVariables false

def ByteAt (w : World) (base g n : Nat) (xs : List Int) : Prop := w.ownsRow base 5 1 (.slice (some ⟨g, 0, none⟩) n n) n (xs.map (Value.int .u8))
theorem ByteAt.len {w : World} {base g n : Nat} {xs : List Int} (h : ByteAt w base g n xs) : xs.length = n := by simpa using h.1
theorem ByteAt.cellIn {w : World} {base g n : Nat} {xs : List Int} (h : ByteAt w base g n xs) {j : Nat} (hj : j < n) : w.cell? ⟨g, j, none⟩ = some (.int .u8 (xs.getD j 0)) ∧ w.frozen? ⟨g, j, none⟩ = false := by
  refine ⟨?_, h.frozenAt j⟩
  rw [h.cellAt j (by omega), List.getElem?_map, List.getD_eq_getElem?_getD, List.getElem?_eq_getElem (by rw [h.len]; exact hj)]
  rfl
theorem ByteAt.put {w : World} {base g n : Nat} {xs : List Int} (h : ByteAt w base g n xs) (j : Nat) (u : Int) : ByteAt (w.setCell ⟨g, j, none⟩ (.int .u8 u)) base g n (xs.set j u) := by
  unfold ByteAt
  rw [List.map_set]
  exact (h.stored j (.int .u8 u)).1
theorem ByteAt.made {w : World} {base g n : Nat} (h : w.ownsRow base 5 1 (.slice (some ⟨g, 0, none⟩) n n) n (madeCells (Value.int .u8 0).cells (n * 1)).toList) : ByteAt w base g n (List.replicate n 0) := by
  unfold ByteAt
  rw [List.map_replicate, ← toList_madeCells_one]
  simpa [Value.cells] using h
/-- The text so far, the rest still empty. -/
def signsAt (s m d : Nat) : List Int := textI s d ++ List.replicate (m - d) 0
theorem signsAt_succ {s m d : Nat} (hd : d < m) : signsAt s m (d + 1) = (signsAt s m d).set d (if s.testBit d then 49 else 48) := by
  unfold signsAt
  rw [List.set_append, if_neg (by rw [textI_len]; omega), textI_len, Nat.sub_self, textI_succ, List.append_assoc]
  obtain ⟨k, hk⟩ : ∃ k, m - d = k + 1 := ⟨m - d - 1, by omega⟩
  rw [hk, show m - (d + 1) = k by omega, List.replicate_succ]
  rfl
theorem set_set_same (xs : List Int) (d : Nat) (a b : Int) : (xs.set d a).set d b = xs.set d b := List.set_set ..

set_option maxHeartbeats 1000000 in
theorem signs_code (s : Nat) (hs : s < 2 ^ 64) (m : Nat) (n0 : 1 ≤ m) (n1 : m ≤ 64) (w : World) :
    Calls Tryz.prog 73 #[.int .i64 m, hasV s] w fun e w' => e = .returned (.string (strOfNums (textI s m))) ∧ Below w.heap.size w w' := by
  obtain ⟨i0, hi, hz0, hz1, hz2⟩ := info_parts info_byte
  have HH := Go.Lib.hid (fun (d : Nat) (hd : d < 64) W => has_quiet s (d : Int) hs (wf_iff.2 (by omega)) W)
  clear hs
  unfold hasV
  go_enter Tryz.func73, Tryz.ntmps73
  go_wp2_with (at_make; refine wpList_make_full _ rfl _ _ 47 rfl w.heap.size 5 i0 (.int .u8 0) 1 Tryz.underlying47 hi hz0 hz1 _ _ _ _ m rfl rfl (by omega) (by omega) (by rw [hz2]; omega) (by unfold maxLen; omega) (Nat.le_refl _) ?_; intro wm hown hgm)
  have M := ByteAt.made hown
  have B : Below w.heap.size w wm := (Below.refl _ _).grown hgm (Nat.le_refl _) (by simp)
  clear hown hgm
  go_loopw [11] (fun iv wr => ∃ d : Nat, d ≤ m ∧ iv = .int .i64 d ∧ ByteAt wr w.heap.size w.heap.size m (signsAt s m d) ∧ Below w.heap.size w wr) (fun iv _ => m - (intOf iv).toNat)
  case atStart => exact ⟨0, Nat.zero_le _, rfl, by simpa [signsAt, textI] using M, B⟩
  case round =>
    clear M B
    obtain ⟨d, hd, rfl, M, B⟩ := hrel
    by_cases hlt : d < m
    · have hc := HH.out d (by omega)
      have eh : hasB s (d : Int) = s.testBit d := by unfold hasB; rw [decide_eq_true (by omega), Int.toNat_natCast]; rfl
      rw [eh] at hc
      obtain ⟨c0, c1⟩ := M.cellIn hlt
      have HU := Go.Lib.hid (signsAt_succ (s := s) hlt)
      have M1 := M.put d 48
      have B1 : Below w.heap.size w (wr.setCell ⟨w.heap.size, d, none⟩ (.int .u8 48)) := B.setCell (by simp) _
      obtain ⟨c2, c3⟩ := M1.cellIn hlt
      have MM := Go.Lib.hid M1
      have M2 := Go.Lib.hid (M1.put d 49)
      have BB := Go.Lib.hid B1
      have B2 : Hid (Below w.heap.size w ((wr.setCell ⟨w.heap.size, d, none⟩ (.int .u8 48)).setCell ⟨w.heap.size, d, none⟩ (.int .u8 49))) := B1.setCell (by simp) _
      clear M M1 B B1 eh
      cases hbit : s.testBit d
      · have HT := Go.Lib.hid hbit
        rw [hbit] at hc
        clear hbit
        go_wp2_with (go_at_call 74; (with_reducible refine (hc _).mono ?_); rintro e w2 ⟨rfl, rfl⟩)
        go_roundw
        case rel => exact ⟨d + 1, by omega, by go_num, by rw [HU.out, HT.out, if_neg (by decide)]; exact MM.out, BB.out⟩
        case measure => simp [intOf]; omega
      · have HT := Go.Lib.hid hbit
        rw [hbit] at hc
        clear hbit
        go_wp2_with (go_at_call 74; (with_reducible refine (hc _).mono ?_); rintro e w2 ⟨rfl, rfl⟩)
        go_roundw
        case rel => exact ⟨d + 1, by omega, by go_num, by rw [HU.out, HT.out, if_pos rfl, ← set_set_same _ _ 48]; exact M2.out, B2.out⟩
        case measure => simp [intOf]; omega
    · obtain rfl : d = m := by omega
      have e : signsAt s d d = textI s d := by simp [signsAt]
      rw [e] at M
      have hcs := (Nums.of_own M).2 (by omega)
      obtain ⟨b, off, hb, hcs⟩ := hcs
      injection hb with hb
      injection hb with hb1 hb2 hb3
      subst hb1; subst hb2
      have hcv := run_convert_bytes_arg (P := Tryz.prog) wr 47 5 Tryz.underlying47 Tryz.underlying5 w.heap.size 0 d d (textI s d) (textI_len s d) hcs 9 Tryz.underlying9
      clear hcs M e
      go_wp2
      go_ret
      exact ⟨rfl, B⟩
theorem text_code : TextOk := by
  intro s n w hs wn
  have hmf : ∀ (fn : Fn) (first cap : Array Value) (w : World), (Instr.makeFunc fn first cap).run Tryz.prog w = .ok (.func fn first cap) w := fun _ _ _ _ => rfl
  by_cases hn : 1 ≤ n ∧ n ≤ 64
  · have e : textB s n = strOfNums (textI s n.toNat) := by unfold textB; rw [if_pos hn]
    rw [e]
    obtain ⟨n0, n1⟩ := hn
    obtain ⟨m, rfl⟩ : ∃ m : Nat, n = (m : Int) := ⟨n.toNat, by omega⟩
    rw [Int.toNat_natCast]
    have c1 := fun W => signs_code s hs m (by omega) (by omega) W
    unfold hasV at c1
    clear hs e wn
    generalize strOfNums (textI s m) = T at *
    go_enter Tryz.func46, Tryz.ntmps46
    go_wp2_with (go_at_call 73; refine (c1 _).mono ?_; rintro e x1 ⟨rfl, hb⟩)
    go_ret
    exact ⟨rfl, hb⟩
  · rw [textB_none hn]
    by_cases h0 : n < 1
    · go_enter Tryz.func46, Tryz.ntmps46
      go_wp2_with fail
      go_ret
      exact ⟨rfl, Below.refl _ _⟩
    · have h1 : 64 < n := by omega
      go_enter Tryz.func46, Tryz.ntmps46
      go_wp2_with fail
      go_ret
      exact ⟨rfl, Below.refl _ _⟩
end Go.Proofs.YtliomhkgkabbbaaGreatDoor
end
