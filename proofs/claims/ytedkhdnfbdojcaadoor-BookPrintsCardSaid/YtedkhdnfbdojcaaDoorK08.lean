import Derived.Test.YtedkhdnfbdojcaaDoorK04
import Derived.Test.YtedkhdnfbdojcaaDoorK01
section
/- What text.Number and the document's Number answer, off their code. -/
namespace Go.Proofs.YtedkhdnfbdojcaaDoor
open Go.RowKit
set_option linter.unusedVariables false

theorem dig_lo {c : UInt8} (h : digC c = true) : decide ((c.toNat : Int) < 48) = false ∧ decide (57 < (c.toNat : Int)) = false := by
  rw [digC_iff] at h
  exact ⟨decide_eq_false (by omega), decide_eq_false (by omega)⟩
theorem dig_no {c : UInt8} (h : digC c = false) : decide ((c.toNat : Int) < 48) = true ∨ (decide ((c.toNat : Int) < 48) = false ∧ decide (57 < (c.toNat : Int)) = true) := by
  by_cases h1 : (c.toNat : Int) < 48
  · exact .inl (decide_eq_true h1)
  · refine .inr ⟨decide_eq_false h1, decide_eq_true ?_⟩
    by_cases h2 : (57 : Int) < c.toNat
    · exact h2
    · have := (digC_iff (c := c)).2 ⟨by omega, by omega⟩
      rw [h] at this
      cases this
/-- The first min of them. -/
def clipD (l : List UInt8) : Nat := min (valD l) 1000000000000000000
theorem clipD_le (l : List UInt8) : clipD l ≤ 1000000000000000000 := Nat.min_le_right _ _
theorem clipD_take {l : List UInt8} {k : Nat} (hk : k < l.length) (h : digC l[k] = true) : clipD (l.take (k + 1)) = min (10 * clipD (l.take k) + (l[k].toNat - 48)) 1000000000000000000 := by
  unfold clipD
  rw [valD_take hk]
  rw [digC_iff] at h
  rcases Nat.le_total (valD (l.take k)) 1000000000000000000 with h1 | h1
  · rw [Nat.min_eq_left h1]
  · rw [Nat.min_eq_right h1, Nat.min_eq_right (by omega), Nat.min_eq_right (by omega)]
set_option maxHeartbeats 2000000 in
theorem number_yes (s : ByteArray) (w : World) (hs : s.size ≤ maxLen) (h : decB s.data.toList = true) :
    Calls Tryd.prog 50 #[.string s] w fun e w' => e = .returned (.tuple #[.int .i64 (numV s.data.toList), .bool true]) ∧ w' = w := by
  unfold maxLen at hs
  obtain ⟨l, hl⟩ : ∃ l, l = s.data.toList := ⟨_, rfl⟩
  have hsz : l.length = s.size := by rw [hl]; exact Array.length_toList
  have HS := Go.Lib.hid hsz
  rw [← hl] at h
  rw [← hl]
  obtain ⟨h0, h1, h2⟩ := decB_parts h
  have hpos : 0 < s.size := by
    rcases Nat.eq_zero_or_pos s.size with e | e
    · exact absurd (List.length_eq_zero_iff.1 (hsz.trans e)) h0
    · exact e
  have hemp := empty_size s
  rw [decide_eq_false (by omega)] at hemp
  obtain ⟨M, hM⟩ : ∃ M, clipD l = M := ⟨_, rfl⟩
  have hML := clipD_le l
  rw [hM] at hML
  have hV : numV l = (M : Int) := (numV_yes h).trans (by rw [← hM]; rfl)
  rw [hV]
  have HB : Hid (∀ k (hk : k < s.size), l[k]'(by rw [HS.out]; exact hk) = s[k]) := fun k hk => by subst hl; rfl
  have HG : Hid (∀ k (hk : k < s.size), digC s[k] = true) := fun k hk => by rw [← HB.out k hk]; exact List.all_eq_true.1 h2 _ (List.getElem_mem _)
  have HQ : Hid ((((s[0]'hpos).toNat : Int) == 48) = true → (s.toList == [48]) = true) := fun hq => by
    have e0 : s[0]'hpos = 48 := UInt8.toNat_inj.1 (by have := beq_iff_eq.1 hq; show (s[0]'hpos).toNat = 48; omega)
    rw [beq_iff_eq, ByteArray.toList_eq, ← hl]
    have hlen : l.length = 1 := h1.resolve_left (fun hh => hh (by
      rw [List.head?_eq_getElem?, List.getElem?_eq_getElem (by rw [HS.out]; exact hpos), HB.out 0 hpos, e0]))
    obtain ⟨x, hx⟩ := List.length_eq_one_iff.1 hlen
    have := HB.out 0 hpos
    simp only [hx, List.getElem_cons_zero] at this
    rw [hx, this, e0]
  have HE : Hid (clipD (l.take s.size) = M) := by show _ = _; rw [List.take_of_length_le (by rw [hsz]; exact Nat.le_refl _), hM]
  clear h h0 h1 h2 hsz hl hM hV
  have hq2 : (((s[0]'hpos).toNat : Int) == 48) = false ∨ ((((s[0]'hpos).toNat : Int) == 48) = true ∧ (s.toList == [48]) = true) := by
    cases hq : (((s[0]'hpos).toNat : Int) == 48)
    · exact .inl rfl
    · exact .inr ⟨rfl, HQ.out hq⟩
  rcases hq2 with hq | ⟨hq, hq3⟩
  all_goals
    go_enter Tryd.func50, Tryd.ntmps50
    go_wp2
    go_loop [4, 19] (fun nv iv => ∃ k : Nat, k ≤ s.size ∧ iv = .int .i64 k ∧ nv = .int .u64 (clipD (l.take k))) (fun _ iv => s.size - (intOf iv).toNat)
    case atStart => exact ⟨0, Nat.zero_le _, rfl, rfl⟩
    case round =>
      obtain ⟨k, hk, rfl, rfl⟩ := hrel
      by_cases hlt : k < s.size
      · have hg := HG.out k hlt
        have HC : Hid (clipD (l.take (k + 1)) = min (10 * clipD (l.take k) + ((s[k]).toNat - 48)) 1000000000000000000) := by
          show _ = _
          have := clipD_take (l := l) (k := k) (by rw [HS.out]; exact hlt) (by rw [HB.out k hlt]; exact hg)
          rw [HB.out k hlt] at this
          exact this
        obtain ⟨g1, g2⟩ := dig_lo hg
        have hb := digC_iff.1 hg
        have hm := clipD_le (l.take k)
        clear hg
        generalize clipD (l.take k) = m at *
        go_wp2
        refine ⟨⟨k + 1, by omega, by go_num, ?_⟩, by simp [intOf]; omega⟩
        rw [HC.out]
        congr 1
        split <;> omega
      · obtain rfl : k = s.size := by omega
        rw [HE.out]
        go_wp2
        go_ret2
        exact ⟨rfl, rfl⟩
set_option maxHeartbeats 2000000 in
theorem number_no (s : ByteArray) (w : World) (hs : s.size ≤ maxLen) (h : decB s.data.toList = false) :
    Calls Tryd.prog 50 #[.string s] w fun e w' => e = .returned (.tuple #[.int .i64 0, .bool false]) ∧ w' = w := by
  unfold maxLen at hs
  obtain ⟨l, hl⟩ : ∃ l, l = s.data.toList := ⟨_, rfl⟩
  have hsz : l.length = s.size := by rw [hl]; exact Array.length_toList
  have HS := Go.Lib.hid hsz
  rw [← hl] at h
  have hemp := empty_size s
  by_cases h0 : s.size = 0
  · rw [decide_eq_true h0] at hemp
    clear h hsz h0 hl
    go_enter Tryd.func50, Tryd.ntmps50
    go_wp2
    go_ret2
    exact ⟨rfl, rfl⟩
  have hpos : 0 < s.size := by omega
  rw [decide_eq_false h0] at hemp
  have HB : Hid (∀ k (hk : k < s.size), l[k]'(by rw [HS.out]; exact hk) = s[k]) := fun k hk => by subst hl; rfl
  have hlb : s.toList = l := by rw [ByteArray.toList_eq, hl]
  by_cases hq : s[0]'hpos = 48
  · by_cases h1 : s.size = 1
    · -- 0 alone is a decimal
      exfalso
      obtain ⟨x, hx⟩ := List.length_eq_one_iff.1 (hsz.trans h1)
      have := HB.out 0 hpos
      simp only [hx, List.getElem_cons_zero, hq] at this
      rw [hx, this] at h
      revert h
      decide
    · have q1 : (((s[0]'hpos).toNat : Int) == 48) = true := by rw [hq]; rfl
      have q2 : (s.toList == [48]) = false := beq_eq_false_iff_ne.2 fun e => h1 (by rw [hlb] at e; rw [← hsz, e]; rfl)
      clear h h0 hl hsz hq h1 hlb
      go_enter Tryd.func50, Tryd.ntmps50
      go_wp2
      go_ret2
      exact ⟨rfl, rfl⟩
  · have q1 : (((s[0]'hpos).toNat : Int) == 48) = false := beq_eq_false_iff_ne.2 fun e => hq (UInt8.toNat_inj.1 (by show (s[0]'hpos).toNat = 48; omega))
    have hbad : l.all digC = false := by
      cases hd : l.all digC
      · rfl
      · unfold decB at h
        have e1 : l.isEmpty = false := by cases l with | nil => simp at hsz; omega | cons _ _ => rfl
        have e2 : l.head? ≠ some 48 := by
          rw [List.head?_eq_getElem?, List.getElem?_eq_getElem (by rw [HS.out]; exact hpos), HB.out 0 hpos]
          exact fun e => hq (Option.some.inj e)
        rw [hd, e1, decide_eq_true e2] at h
        cases h
    obtain ⟨c, hc, hcd⟩ := List.all_eq_false.1 hbad
    obtain ⟨j, hj, hjc⟩ := List.getElem_of_mem hc
    have HX : Hid (∀ k, k = j → ∀ (hk : k < s.size), digC s[k] = false) := fun k e hk => by
      subst e
      rw [← HB.out k hk, hjc]
      simpa using hcd
    have HJ : Hid (j < s.size) := by show _ < _; rw [← hsz]; exact hj
    clear h h0 hl hsz hq hlb hbad hc hcd hjc hj
    go_enter Tryd.func50, Tryd.ntmps50
    go_wp2
    go_loop [4, 19] (fun nv iv => ∃ k m : Nat, k ≤ j ∧ iv = .int .i64 k ∧ nv = .int .u64 m ∧ m ≤ 1000000000000000000) (fun _ iv => s.size - (intOf iv).toNat)
    case atStart => exact ⟨0, 0, Nat.zero_le _, rfl, rfl, by omega⟩
    case round =>
      obtain ⟨k, m, hk, rfl, rfl, hm⟩ := hrel
      have hlt : k < s.size := by have := HJ.out; omega
      cases hg : digC s[k]
      · have hgn := dig_no hg
        clear hg
        rcases hgn with g1 | ⟨g1, g2⟩
        · go_wp2
          go_ret2
          exact ⟨rfl, rfl⟩
        · go_wp2
          go_ret2
          exact ⟨rfl, rfl⟩
      · have hkj : k < j := by
          rcases Nat.lt_or_ge k j with a | a
          · exact a
          · have := HX.out k (by omega) hlt
            rw [hg] at this
            cases this
        obtain ⟨g1, g2⟩ := dig_lo hg
        have hb := digC_iff.1 hg
        clear hg
        go_wp2
        by_cases hx : (1000000000000000000 : Int) < 10 * (m : Int) + (((s[k]).toNat : Int) - 48)
        · exact ⟨⟨k + 1, 1000000000000000000, by omega, by go_num, by rw [if_pos hx]; rfl, by omega⟩, by simp [intOf]; omega⟩
        · exact ⟨⟨k + 1, 10 * m + ((s[k]).toNat - 48), by omega, by go_num, by rw [if_neg hx]; congr 1; omega, by omega⟩, by simp [intOf]; omega⟩
/-- A decimal's number, whatever the text. -/
theorem number_any (s : ByteArray) (w : World) (hs : s.size ≤ maxLen) :
    Calls Tryd.prog 50 #[.string s] w fun e w' => e = .returned (.tuple #[.int .i64 (numV s.data.toList), .bool (decB s.data.toList)]) ∧ w' = w := by
  cases h : decB s.data.toList
  · rw [numV_no h]; exact number_no s w hs h
  · exact number_yes s w hs h
end Go.Proofs.YtedkhdnfbdojcaaDoor
end
section
/- What text.Decimal answers, off its code. -/
namespace Go.Proofs.YtedkhdnfbdojcaaDoor
open Go.RowKit
set_option linter.unusedVariables false

theorem dsz_any (n : Int) (wn : -9223372036854775808 ≤ n ∧ n ≤ 9223372036854775807) (w : World) :
    Calls Tryd.prog 25 #[.int .i64 n] w fun e w' => e = .returned (.int .u64 (n.natAbs : Int)) ∧ w' = w := by
  obtain ⟨w0, w1⟩ := wn
  by_cases h : n < 0
  · go_enter Tryd.func25, Tryd.ntmps25
    go_wp2
    go_ret
    refine ⟨?_, rfl⟩
    congr 2
    unfold IntKind.wrap
    simp [IntKind.bits, IntKind.signed]
    omega
  · go_enter Tryd.func25, Tryd.ntmps25
    go_wp2
    go_ret
    refine ⟨?_, rfl⟩
    have e : (n.natAbs : Int) = n := by omega
    rw [e]
    rfl
theorem digit_any (d : Nat) (hd : d < 10) (w : World) :
    Calls Tryd.prog 26 #[.int .u64 d] w fun e w' => e = .returned (.int .u8 (48 + d : Int)) ∧ w' = w := by
  go_enter Tryd.func26, Tryd.ntmps26
  go_wp2
  go_ret
  exact ⟨rfl, rfl⟩
/-- The array of the digits. -/
def DigA (w : World) (g : Nat) (cs : List Int) : Prop := cs.length = 20 ∧ BlkIs w g 73 (cs.map (Value.int .u8)).toArray
theorem DigA.start (w : World) : DigA (w.alloc (.cells #[.int .u8 0, .int .u8 0, .int .u8 0, .int .u8 0, .int .u8 0, .int .u8 0, .int .u8 0, .int .u8 0, .int .u8 0, .int .u8 0, .int .u8 0, .int .u8 0, .int .u8 0, .int .u8 0, .int .u8 0, .int .u8 0, .int .u8 0, .int .u8 0, .int .u8 0, .int .u8 0] 73)) w.heap.size (List.replicate 20 0) :=
  ⟨rfl, BlkIs.fresh w _ _⟩
theorem DigA.put {w : World} {g : Nat} {cs : List Int} (h : DigA w g cs) (a : Nat) (d : Int) : DigA (w.setCell ⟨g, a, none⟩ (.int .u8 d)) g (cs.set a d) := by
  refine ⟨by simp [h.1], ?_⟩
  have := h.2.put a (.int .u8 d)
  rw [List.map_set]
  simpa using this
theorem DigA.cellIn {w : World} {g : Nat} {cs : List Int} (h : DigA w g cs) {a : Nat} (ha : a < 20) : w.cell? ⟨g, a, none⟩ = some (.int .u8 (cs.getD a 0)) ∧ w.frozen? ⟨g, a, none⟩ = false := by
  refine ⟨?_, h.2.free a⟩
  rw [h.2.cellAt, List.getElem?_toArray, List.getElem?_map, List.getD_eq_getElem?_getD, List.getElem?_eq_getElem (by rw [h.1]; exact ha)]
  rfl
def bytesI (l : List UInt8) : List Int := l.map fun c => (c.toNat : Int)
theorem bytesI_big {m : Nat} (h : ¬ m < 10) : bytesI (decN m) = bytesI (decN (m / 10)) ++ [48 + (m : Int) % 10] := by
  unfold bytesI
  rw [decN_big h, List.map_append, List.map_singleton, dig_toNat (Nat.mod_lt _ (by decide))]
  rfl
theorem bytesI_small {m : Nat} (h : m < 10) : bytesI (decN m) = [48 + (m : Int)] := by
  unfold bytesI
  rw [decN_small h, List.map_singleton, dig_toNat h]
  rfl
theorem drop_set {cs : List Int} {a : Nat} (h : a < cs.length) (d : Int) : (cs.set a d).drop a = d :: cs.drop (a + 1) := by
  rw [List.drop_eq_getElem_cons (by rw [List.length_set]; exact h), List.getElem_set_self, List.drop_set_of_lt (by omega)]
theorem str_bytes (l : List UInt8) : strOfNums (bytesI l) = strL l := by
  unfold strOfNums bytesI strL
  rw [List.map_map]
  congr 2
  refine (List.map_congr_left fun c _ => ?_).trans (List.map_id _)
  simp
theorem slice_tail (w : World) (g b L : Nat) (z : Int) (hz : z = b) (hb : b + L = 20) (hL : 0 < L) :
    (Instr.sliceAt 73 (.pointer (some ⟨g, 0, none⟩)) (some (.int .i64 z)) none none).run Tryd.prog w = .ok (.slice (some ⟨g, b, none⟩) L L) w := by
  subst hz
  have e : Tryd.prog.arrayLen 73 = 20 := by kernel_rfl
  have hs : ((sizeOf (Tryd.prog.elem 73)).run Tryd.prog w) = .ok 1 w := by
    rw [show Tryd.prog.elem 73 = 5 by kernel_rfl]
    exact Tryd.sizeOf5 w
  rw [run_sliceAt_array_l w 73 ⟨g, 0, none⟩ (by kernel_rfl) .i64 (b : Int) (by omega) (by rw [e]; omega), hs, e]
  simp only [Result.andThen, slicedAt, Int.toNat_natCast]
  rw [if_neg (by omega), show 20 - b = L by omega]
  simp [Addr.add]
  exact fun h => h.symm
theorem tail_cells {w : World} {g b L : Nat} {cs : List Int} (h : DigA w g cs) (hb : b + L = 20) : ∀ i, i < L → w.cell? ⟨g, b + i, none⟩ = some (.int .u8 ((cs.drop b).getD i 0)) := fun i hi => by
  rw [(h.cellIn (a := b + i) (by omega)).1, List.getD_eq_getElem?_getD, List.getD_eq_getElem?_getD, List.getElem?_drop]
set_option maxRecDepth 100000 in
set_option maxHeartbeats 2000000 in
theorem decimal_any (n : Int) (wn : -9223372036854775808 ≤ n ∧ n ≤ 9223372036854775807) (w : World) :
    Calls Tryd.prog 14 #[.int .i64 n] w fun e w' => e = .returned (.string (strL (decI n))) ∧ Below w.heap.size w w' := by
  have CS := fun W => dsz_any n wn W
  obtain ⟨w0, w1⟩ := wn
  obtain ⟨M, hM⟩ : ∃ M, n.natAbs = M := ⟨_, rfl⟩
  rw [hM] at CS
  have hML : M ≤ 9223372036854775808 := by omega
  have CD := fun d (hd : d < 10) W => digit_any d hd W
  go_enter Tryd.func14, Tryd.ntmps14
  go_wp2_with (go_at_call 25; refine (CS _).mono ?_; rintro e x1 ⟨rfl, rfl⟩)
  have hD0 := DigA.start w
  have hB0 := below_alloc w (.cells #[.int .u8 0, .int .u8 0, .int .u8 0, .int .u8 0, .int .u8 0, .int .u8 0, .int .u8 0, .int .u8 0, .int .u8 0, .int .u8 0, .int .u8 0, .int .u8 0, .int .u8 0, .int .u8 0, .int .u8 0, .int .u8 0, .int .u8 0, .int .u8 0, .int .u8 0, .int .u8 0] 73)
  have HLEN : Hid ((bytesI (decN M)).length ≤ 19) := by
    show _ ≤ _
    unfold bytesI
    rw [List.length_map]
    exact decN_len_lt (k := 18) (by omega)
  go_loopw [4, 5] (fun av lv wr => ∃ (a m : Nat) (cs : List Int), a ≤ 19 ∧ av = .int .i64 a ∧ lv = .int .u64 m ∧ m ≤ M ∧ DigA wr w.heap.size cs ∧ bytesI (decN M) = bytesI (decN m) ++ cs.drop (a + 1) ∧ Below w.heap.size w wr) (fun _ lv _ => (intOf lv).toNat)
  case atStart => exact ⟨19, M, _, Nat.le_refl _, rfl, rfl, Nat.le_refl _, hD0, by simp, hB0⟩
  case round =>
    clear hD0 hB0
    obtain ⟨a, m, cs, ha, rfl, rfl, hmM, hD, he, hB⟩ := hrel
    have hal : 20 - (a + 1) + (bytesI (decN m)).length ≤ 19 := by
      have h1 := HLEN.out
      rw [he, List.length_append, List.length_drop, hD.1] at h1
      omega
    obtain ⟨c0, c1⟩ := hD.cellIn (a := a) (by omega)
    have HE := Go.Lib.hid he
    clear he
    by_cases hm : 9 < m
    · have CM := fun W => CD (m % 10) (Nat.mod_lt _ (by decide)) W
      have hb2 : 2 ≤ (bytesI (decN m)).length := by
        rw [bytesI_big (by omega), List.length_append, List.length_singleton]
        have : (bytesI (decN (m / 10))).length ≠ 0 := fun e => decN_ne (m / 10) (by have := List.length_eq_zero_iff.1 e; simpa [bytesI] using this)
        omega
      have HP := Go.Lib.hid (hD.put a (48 + (m : Int) % 10))
      have HB := Go.Lib.hid (hB.setCell (p := ⟨w.heap.size, a, none⟩) (Nat.le_refl _) (.int .u8 (48 + (m : Int) % 10)))
      have HE2 : Hid (bytesI (decN M) = bytesI (decN (m / 10)) ++ (cs.set a (48 + (m : Int) % 10)).drop (a - 1 + 1)) := by
        show _ = _
        rw [HE.out, bytesI_big (by omega), List.append_assoc, show a - 1 + 1 = a by omega, drop_set (by rw [hD.1]; omega)]
        rfl
      have ha1 : 1 ≤ a := by omega
      clear hb2 hal
      rw [show ((m % 10 : Nat) : Int) = (m : Int) % 10 by omega] at CM
      go_wp2_with (go_at_call 26; refine (CM _).mono ?_; rintro e x1 ⟨rfl, rfl⟩)
      exact ⟨⟨a - 1, m / 10, _, by omega, by congr 1; omega, by congr 1, by omega, HP.out, HE2.out, HB.out⟩, by simp [intOf]; omega⟩
    · have CM := fun W => CD m (by omega) W
      have hb1 : (bytesI (decN m)).length = 1 := by rw [bytesI_small (by omega)]; rfl
      have ha1 : 1 ≤ a := by omega
      obtain ⟨b, rfl⟩ : ∃ b, a = b + 1 := ⟨a - 1, by omega⟩
      have hP := hD.put (b + 1) (48 + (m : Int))
      have HB := Go.Lib.hid (hB.setCell (p := ⟨w.heap.size, b + 1, none⟩) (Nat.le_refl _) (.int .u8 (48 + (m : Int))))
      clear hb1 hal ha1 hmM
      by_cases hneg : n < 0
      · obtain ⟨d0, d1⟩ := hP.cellIn (a := b) (by omega)
        have hP2 := hP.put b 45
        have HB2 := Go.Lib.hid (HB.out.setCell (p := ⟨w.heap.size, b, none⟩) (Nat.le_refl _) (.int .u8 45))
        obtain ⟨L, hL⟩ : ∃ L, b + L = 20 := ⟨20 - b, by omega⟩
        have hsl := fun W => slice_tail W w.heap.size b L (b : Int) rfl hL (by omega)
        have hdr : ((cs.set (b + 1) (48 + (m : Int))).set b 45).drop b = bytesI (decI n) := by
          rw [drop_set (by rw [List.length_set, hD.1]; omega), drop_set (by rw [hD.1]; omega), decI_neg hneg, hM]
          show _ = ((45 : UInt8).toNat : Int) :: bytesI (decN M)
          rw [HE.out, bytesI_small (by omega)]
          rfl
        have hcv := run_convert_bytes_arg (P := Tryd.prog) _ 45 5 Tryd.underlying45 Tryd.underlying5 w.heap.size b L L _ (by rw [List.length_drop, hP2.1]; omega) (tail_cells hP2 hL) 9 Tryd.underlying9
        rw [hdr, str_bytes] at hcv
        clear hP hP2 hD hdr
        go_wp2_with (go_at_call 26; refine (CM _).mono ?_; rintro e x1 ⟨rfl, rfl⟩)
        go_ret
        exact ⟨rfl, HB2.out⟩
      · obtain ⟨L, hL⟩ : ∃ L, b + 1 + L = 20 := ⟨19 - b, by omega⟩
        have hsl := fun W => slice_tail W w.heap.size (b + 1) L ((b : Int) + 1) (by omega) hL (by omega)
        have hdr : (cs.set (b + 1) (48 + (m : Int))).drop (b + 1) = bytesI (decI n) := by
          rw [drop_set (by rw [hD.1]; omega)]
          have e : decI n = decN M := by unfold decI; rw [if_neg hneg, hM]
          rw [e, HE.out, bytesI_small (by omega)]
          rfl
        have hcv := run_convert_bytes_arg (P := Tryd.prog) _ 45 5 Tryd.underlying45 Tryd.underlying5 w.heap.size (b + 1) L L _ (by rw [List.length_drop, hP.1]; omega) (tail_cells hP hL) 9 Tryd.underlying9
        rw [hdr, str_bytes] at hcv
        clear hP hD hdr
        go_wp2_with (go_at_call 26; refine (CM _).mono ?_; rintro e x1 ⟨rfl, rfl⟩)
        go_ret
        exact ⟨rfl, HB.out⟩
theorem dec_from {w W : World} (n : Int) (hn : W64 n) (hb : Below w.heap.size w W) : Calls Tryd.prog 14 #[.int .i64 n] W fun e w' => e = .returned (.string (strL (decI n))) ∧ Below w.heap.size w w' :=
  (decimal_any n hn W).mono fun e w' ⟨h1, h2⟩ => ⟨h1, hb.trans (h2.mono hb.size)⟩
/-- What text.decimal answers: each number has a decimal. -/
theorem decimal_made (n : Int) (wn : -9223372036854775808 ≤ n ∧ n ≤ 9223372036854775807) (w : World) :
    Calls Tryd.prog 40 #[.int .i64 n] w fun e w' => e = .returned (.tuple #[.string (strL (decI n)), .bool true]) ∧ Below w.heap.size w w' := by
  have CS := fun W => decimal_any n wn W
  generalize strL (decI n) = s at *
  go_enter Tryd.func40, Tryd.ntmps40
  go_wp2_with (go_at_call 14; refine (CS _).mono ?_; rintro e x1 ⟨rfl, hb⟩)
  go_ret2
  exact ⟨rfl, hb⟩
end Go.Proofs.YtedkhdnfbdojcaaDoor
end
