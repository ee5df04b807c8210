/- The walks of layer 2's laws DaysTwice, DaysParses and DaysBest, off what the functions of package days answer. -/
import Derived.Test.YtmjogpbdgbgkhaaDoorDaysApi
namespace Go.Proofs.YtmjogpbdgbgkhaaDoor
open Go.RowKit
set_option linter.unusedVariables false

set_option maxHeartbeats 2000000 in
theorem twice_in (HH : HasOk) (HWI : WithOk) (HWO : WithoutOk) (HL : LenOk) (L : ∀ w, Tab w → Calls Tryd.prog 22 #[] w fun e w' => e = .returned (.bool true) ∧ Below w.heap.size w w') (s : Nat) (hs : s < 2 ^ 64) (d : Int) (wd : (Lit.int .i64 d).wf = true) (hd : 0 ≤ d ∧ d ≤ 63) (w : World) (ht : Tab w) :
    Calls Tryd.prog 9 #[.int .u64 s, .int .i64 d] w fun e w' => e = .returned (.bool true) ∧ Below w.heap.size w w' := by
  have TT := Go.Lib.hid ht
  clear ht
  have hp := putN_lt hs d 1
  have ho := putN_lt hp d 0
  have c1 := fun W => HWI s d W hs wd
  have c2 := fun W => HWO (putN s d 1) d W hp wd
  have c3 := fun W => HWI (putN s d 1) d W hp wd
  have c4 := fun W => HWO (putN (putN s d 1) d 0) d W ho wd
  have c5 := fun W => HH (putN (putN s d 1) d 0) d W ho wd
  have c6 := fun W => HWO s d W hs wd
  have c7 := fun W => HH (putN s d 1) d W hp wd
  have c8 := fun W => HL (putN s d 1) W hp
  have c9 := fun W => HL (putN (putN s d 1) d 0) W ho
  rw [putN_putN hs] at c3
  rw [putN_putN hp] at c4
  rw [hasB_put0] at c5
  rw [hasB_put1 s hd] at c7
  rw [len_put s hd, ← putN_putN hs d 1 0] at c8
  rw [← putN_putN hs d 1 0] at c6
  have hm := upTo_len (putN (putN s d 1) d 0) 64
  obtain ⟨m, hmm⟩ : ∃ m, (allI (putN (putN s d 1) d 0)).length = m := ⟨_, rfl⟩
  have hm2 : m ≤ 64 := by rw [← hmm]; exact hm
  rw [hmm] at c8 c9
  clear hm hmm
  generalize putN (putN s d 1) d 0 = o at *
  generalize putN s d 1 = p at *
  clear hs hp ho wd HH HWI HWO HL
  obtain ⟨d0, d1⟩ := hd
  have CW := Below.refl w.heap.size w
  go_enter Tryd.func9, Tryd.ntmps9
  go_wp2_with (first
    | (go_at_call 16; (with_reducible refine (c1 _).mono ?_); rintro e x1 ⟨rfl, hb⟩; replace CW := CW.trans (hb.mono CW.size); clear hb)
    | (go_at_call 16; (with_reducible refine (c3 _).mono ?_); rintro e x3 ⟨rfl, hb⟩; replace CW := CW.trans (hb.mono CW.size); clear hb)
    | (go_at_call 18; (with_reducible refine (c2 _).mono ?_); rintro e x2 ⟨rfl, hb⟩; replace CW := CW.trans (hb.mono CW.size); clear hb)
    | (go_at_call 18; (with_reducible refine (c4 _).mono ?_); rintro e x4 ⟨rfl, hb⟩; replace CW := CW.trans (hb.mono CW.size); clear hb)
    | (go_at_call 18; (with_reducible refine (c6 _).mono ?_); rintro e x6 ⟨rfl, hb⟩; replace CW := CW.trans (hb.mono CW.size); clear hb)
    | (go_at_call 14; (with_reducible refine (c5 _).mono ?_); rintro e x5 ⟨rfl, hb⟩; replace CW := CW.trans (hb.mono CW.size); clear hb)
    | (go_at_call 14; (with_reducible refine (c7 _).mono ?_); rintro e x7 ⟨rfl, hb⟩; replace CW := CW.trans (hb.mono CW.size); clear hb)
    | (go_at_call 19; (with_reducible refine (c8 _).mono ?_); rintro e x8 ⟨rfl, hb⟩; replace CW := CW.trans (hb.mono CW.size); clear hb)
    | (go_at_call 19; (with_reducible refine (c9 _).mono ?_); rintro e x9 ⟨rfl, hb⟩; replace CW := CW.trans (hb.mono CW.size); clear hb)
    | (go_at_call 22; refine (L _ (TT.out.keep CW)).mono ?_; rintro e x13 ⟨rfl, hb⟩; replace CW := CW.trans (hb.mono CW.size); clear hb))
  go_ret
  exact ⟨rfl, CW⟩

set_option maxHeartbeats 2000000 in
theorem twice_out (HH : HasOk) (HWI : WithOk) (HWO : WithoutOk) (L : ∀ w, Tab w → Calls Tryd.prog 22 #[] w fun e w' => e = .returned (.bool true) ∧ Below w.heap.size w w') (s : Nat) (hs : s < 2 ^ 64) (d : Int) (wd : (Lit.int .i64 d).wf = true) (hd : d < 0 ∨ 63 < d) (w : World) (ht : Tab w) :
    Calls Tryd.prog 9 #[.int .u64 s, .int .i64 d] w fun e w' => e = .returned (.bool true) ∧ Below w.heap.size w w' := by
  have TT := Go.Lib.hid ht
  clear ht
  have c1 := fun W => HWI s d W hs wd
  have c2 := fun W => HWO s d W hs wd
  have c3 := fun W => HH s d W hs wd
  rw [putN_out (by omega)] at c1 c2
  have e : hasB s d = false := by unfold hasB; rw [decide_eq_false (by omega)]; rfl
  rw [e] at c3
  clear hs wd HH HWI HWO e
  have CW := Below.refl w.heap.size w
  rcases hd with hd | hd
  all_goals
    go_enter Tryd.func9, Tryd.ntmps9
    go_wp2_with (first
      | (go_at_call 16; refine (c1 _).mono ?_; rintro e x1 ⟨rfl, hb⟩; replace CW := CW.trans (hb.mono CW.size); clear hb)
      | (go_at_call 18; refine (c2 _).mono ?_; rintro e x2 ⟨rfl, hb⟩; replace CW := CW.trans (hb.mono CW.size); clear hb)
      | (go_at_call 14; refine (c3 _).mono ?_; rintro e x3 ⟨rfl, hb⟩; replace CW := CW.trans (hb.mono CW.size); clear hb)
      | (go_at_call 22; refine (L _ (TT.out.keep CW)).mono ?_; rintro e x13 ⟨rfl, hb⟩; replace CW := CW.trans (hb.mono CW.size); clear hb))
    go_ret
    exact ⟨rfl, CW⟩

theorem twice_any (HH : HasOk) (HWI : WithOk) (HWO : WithoutOk) (HL : LenOk) (HO : OfOk) (HT : TextOk) (HN : NextOk) (s : Nat) (hs : s < 2 ^ 64) (d : Int) (wd : (Lit.int .i64 d).wf = true) (w : World) (ht : Tab w) :
    Calls Tryd.prog 9 #[.int .u64 s, .int .i64 d] w fun e w' => e = .returned (.bool true) ∧ Below w.heap.size w w' := by
  have TT := Go.Lib.hid ht
  by_cases hd : 0 ≤ d ∧ d ≤ 63
  · exact twice_in HH HWI HWO HL (lives2_any HO HT HN) s hs d wd hd w ht
  · exact twice_out HH HWI HWO (lives2_any HO HT HN) s hs d wd (by omega) w ht

set_option maxHeartbeats 1000000 in
theorem parses_any (HP : ParseOk) (HO : OfOk) (HT : TextOk) (HN : NextOk) (t : ByteArray) (ht : t.size ≤ maxLen) (w : World) (ht : Tab w) :
    Calls Tryd.prog 6 #[.string t] w fun e w' => e = .returned (.bool true) ∧ Below w.heap.size w w' := by
  have TT := Go.Lib.hid ht
  clear ht
  have L := lives2_any HO HT HN
  clear HO HT HN
  have CW := Below.refl w.heap.size w
  have ht2 := ht
  unfold maxLen at ht2
  by_cases hn : 80 < t.size
  · have hd : decide ((80 : Int) < (t.size : Int)) = true := decide_eq_true (by omega)
    have hsz : (t.extract 0 80).size ≤ maxLen := by unfold maxLen; simp; omega
    have c1 := fun W => HP (t.extract 0 80) W hsz
    have c2 := fun W => parse_ref (t.extract 0 80) W hsz
    obtain ⟨xs, xe⟩ := parseV (t.extract 0 80).data.toList
    clear hsz ht HP
    go_enter Tryd.func6, Tryd.ntmps6
    go_wp2_with (first
      | (go_at_call 26; refine (c1 _).mono ?_; rintro e x1 ⟨rfl, hb⟩; replace CW := CW.trans (hb.mono CW.size); clear hb)
      | (go_at_call 27; refine (c2 _).mono ?_; rintro e x2 ⟨rfl, hb⟩; replace CW := CW.trans (hb.mono CW.size); clear hb)
      | (go_at_call 22; refine (L _ (TT.out.keep CW)).mono ?_; rintro e x13 ⟨rfl, hb⟩; replace CW := CW.trans (hb.mono CW.size); clear hb))
    go_ret
    exact ⟨rfl, CW⟩
  · have hd : decide ((80 : Int) < (t.size : Int)) = false := decide_eq_false (by omega)
    have c1 := fun W => HP t W ht
    have c2 := fun W => parse_ref t W ht
    obtain ⟨xs, xe⟩ := parseV t.data.toList
    clear ht HP
    go_enter Tryd.func6, Tryd.ntmps6
    go_wp2_with (first
      | (go_at_call 26; refine (c1 _).mono ?_; rintro e x1 ⟨rfl, hb⟩; replace CW := CW.trans (hb.mono CW.size); clear hb)
      | (go_at_call 27; refine (c2 _).mono ?_; rintro e x2 ⟨rfl, hb⟩; replace CW := CW.trans (hb.mono CW.size); clear hb)
      | (go_at_call 22; refine (L _ (TT.out.keep CW)).mono ?_; rintro e x13 ⟨rfl, hb⟩; replace CW := CW.trans (hb.mono CW.size); clear hb))
    go_ret
    exact ⟨rfl, CW⟩

set_option maxHeartbeats 1000000 in
theorem best_ll (HB : BestOk) (L : ∀ w, Tab w → Calls Tryd.prog 22 #[] w fun e w' => e = .returned (.bool true) ∧ Below w.heap.size w w') (A C : Option Addr) (n c m d : Nat) (ls ps : List Int) (w : World) (ht : Tab w) (ha : Nums .u64 w A 10 ls) (hp : Ints w C 70 ps) (hn : 10 < n) (hm : 70 < m) (hc : n ≤ c) (hd : m ≤ d)
    (hl : ∀ k, 0 ≤ ls.getD k 0 ∧ ls.getD k 0 ≤ 18446744073709551615) (hw : ∀ k, -9223372036854775808 ≤ ps.getD k 0 ∧ ps.getD k 0 ≤ 9223372036854775807) :
    Calls Tryd.prog 7 #[.slice A n c, .slice C m d] w fun e w' => e = .returned (.bool true) ∧ Below w.heap.size w w' := by
  have TT := Go.Lib.hid ht
  clear ht
  have hd1 : decide ((10 : Int) < (n : Int)) = true := decide_eq_true (by omega)
  have hd2 : decide ((70 : Int) < (m : Int)) = true := decide_eq_true (by omega)
  have c1 := fun W h0 h1 h2 => HB A C 10 c 70 d ls ps W h0 h1 h2 (by omega) (by omega) hl hw
  have c2 := fun W h1 h2 => best_ref A C 10 c 70 d ls ps W h1 h2 (by unfold maxLen; omega) (by unfold maxLen; omega) hl hw
  generalize bestI ls ps 10 = r at *
  obtain ⟨r1, r2⟩ := r
  have HA := Go.Lib.hid ha
  have HP := Go.Lib.hid hp
  clear ha hp hl hw HB
  have CW := Below.refl w.heap.size w
  go_enter Tryd.func7, Tryd.ntmps7
  go_wp2_with (first
    | (go_at_call 28; refine (c1 _ (TT.out.keep CW) (HA.out.keep CW) (HP.out.keep CW)).mono ?_; rintro e x1 ⟨rfl, hb⟩; replace CW := CW.trans (hb.mono CW.size); clear hb)
    | (go_at_call 29; refine (c2 _ (HA.out.keep CW) (HP.out.keep CW)).mono ?_; rintro e x2 ⟨rfl, hb⟩; replace CW := CW.trans (hb.mono CW.size); clear hb)
    | (go_at_call 22; refine (L _ (TT.out.keep CW)).mono ?_; rintro e x13 ⟨rfl, hb⟩; replace CW := CW.trans (hb.mono CW.size); clear hb))
  go_ret
  exact ⟨rfl, CW⟩

set_option maxHeartbeats 1000000 in
theorem best_ls (HB : BestOk) (L : ∀ w, Tab w → Calls Tryd.prog 22 #[] w fun e w' => e = .returned (.bool true) ∧ Below w.heap.size w w') (A C : Option Addr) (n c m d : Nat) (ls ps : List Int) (w : World) (ht : Tab w) (ha : Nums .u64 w A 10 ls) (hp : Ints w C m ps) (hn : 10 < n) (hm : m ≤ 70) (hc : n ≤ c) (hd : m ≤ d)
    (hl : ∀ k, 0 ≤ ls.getD k 0 ∧ ls.getD k 0 ≤ 18446744073709551615) (hw : ∀ k, -9223372036854775808 ≤ ps.getD k 0 ∧ ps.getD k 0 ≤ 9223372036854775807) :
    Calls Tryd.prog 7 #[.slice A n c, .slice C m d] w fun e w' => e = .returned (.bool true) ∧ Below w.heap.size w w' := by
  have TT := Go.Lib.hid ht
  clear ht
  have hd1 : decide ((10 : Int) < (n : Int)) = true := decide_eq_true (by omega)
  have hd2 : decide ((70 : Int) < (m : Int)) = false := decide_eq_false (by omega)
  have c1 := fun W h0 h1 h2 => HB A C 10 c m d ls ps W h0 h1 h2 (by omega) (by omega) hl hw
  have c2 := fun W h1 h2 => best_ref A C 10 c m d ls ps W h1 h2 (by unfold maxLen; omega) (by unfold maxLen; omega) hl hw
  generalize bestI ls ps 10 = r at *
  obtain ⟨r1, r2⟩ := r
  have HA := Go.Lib.hid ha
  have HP := Go.Lib.hid hp
  clear ha hp hl hw HB
  have CW := Below.refl w.heap.size w
  go_enter Tryd.func7, Tryd.ntmps7
  go_wp2_with (first
    | (go_at_call 28; refine (c1 _ (TT.out.keep CW) (HA.out.keep CW) (HP.out.keep CW)).mono ?_; rintro e x1 ⟨rfl, hb⟩; replace CW := CW.trans (hb.mono CW.size); clear hb)
    | (go_at_call 29; refine (c2 _ (HA.out.keep CW) (HP.out.keep CW)).mono ?_; rintro e x2 ⟨rfl, hb⟩; replace CW := CW.trans (hb.mono CW.size); clear hb)
    | (go_at_call 22; refine (L _ (TT.out.keep CW)).mono ?_; rintro e x13 ⟨rfl, hb⟩; replace CW := CW.trans (hb.mono CW.size); clear hb))
  go_ret
  exact ⟨rfl, CW⟩

set_option maxHeartbeats 1000000 in
theorem best_sl (HB : BestOk) (L : ∀ w, Tab w → Calls Tryd.prog 22 #[] w fun e w' => e = .returned (.bool true) ∧ Below w.heap.size w w') (A C : Option Addr) (n c m d : Nat) (ls ps : List Int) (w : World) (ht : Tab w) (ha : Nums .u64 w A n ls) (hp : Ints w C 70 ps) (hn : n ≤ 10) (hm : 70 < m) (hc : n ≤ c) (hd : m ≤ d)
    (hl : ∀ k, 0 ≤ ls.getD k 0 ∧ ls.getD k 0 ≤ 18446744073709551615) (hw : ∀ k, -9223372036854775808 ≤ ps.getD k 0 ∧ ps.getD k 0 ≤ 9223372036854775807) :
    Calls Tryd.prog 7 #[.slice A n c, .slice C m d] w fun e w' => e = .returned (.bool true) ∧ Below w.heap.size w w' := by
  have TT := Go.Lib.hid ht
  clear ht
  have hd1 : decide ((10 : Int) < (n : Int)) = false := decide_eq_false (by omega)
  have hd2 : decide ((70 : Int) < (m : Int)) = true := decide_eq_true (by omega)
  have c1 := fun W h0 h1 h2 => HB A C n c 70 d ls ps W h0 h1 h2 (by omega) (by omega) hl hw
  have c2 := fun W h1 h2 => best_ref A C n c 70 d ls ps W h1 h2 (by unfold maxLen; omega) (by unfold maxLen; omega) hl hw
  generalize bestI ls ps n = r at *
  obtain ⟨r1, r2⟩ := r
  have HA := Go.Lib.hid ha
  have HP := Go.Lib.hid hp
  clear ha hp hl hw HB
  have CW := Below.refl w.heap.size w
  go_enter Tryd.func7, Tryd.ntmps7
  go_wp2_with (first
    | (go_at_call 28; refine (c1 _ (TT.out.keep CW) (HA.out.keep CW) (HP.out.keep CW)).mono ?_; rintro e x1 ⟨rfl, hb⟩; replace CW := CW.trans (hb.mono CW.size); clear hb)
    | (go_at_call 29; refine (c2 _ (HA.out.keep CW) (HP.out.keep CW)).mono ?_; rintro e x2 ⟨rfl, hb⟩; replace CW := CW.trans (hb.mono CW.size); clear hb)
    | (go_at_call 22; refine (L _ (TT.out.keep CW)).mono ?_; rintro e x13 ⟨rfl, hb⟩; replace CW := CW.trans (hb.mono CW.size); clear hb))
  go_ret
  exact ⟨rfl, CW⟩

set_option maxHeartbeats 1000000 in
theorem best_ss (HB : BestOk) (L : ∀ w, Tab w → Calls Tryd.prog 22 #[] w fun e w' => e = .returned (.bool true) ∧ Below w.heap.size w w') (A C : Option Addr) (n c m d : Nat) (ls ps : List Int) (w : World) (ht : Tab w) (ha : Nums .u64 w A n ls) (hp : Ints w C m ps) (hn : n ≤ 10) (hm : m ≤ 70) (hc : n ≤ c) (hd : m ≤ d)
    (hl : ∀ k, 0 ≤ ls.getD k 0 ∧ ls.getD k 0 ≤ 18446744073709551615) (hw : ∀ k, -9223372036854775808 ≤ ps.getD k 0 ∧ ps.getD k 0 ≤ 9223372036854775807) :
    Calls Tryd.prog 7 #[.slice A n c, .slice C m d] w fun e w' => e = .returned (.bool true) ∧ Below w.heap.size w w' := by
  have TT := Go.Lib.hid ht
  clear ht
  have hd1 : decide ((10 : Int) < (n : Int)) = false := decide_eq_false (by omega)
  have hd2 : decide ((70 : Int) < (m : Int)) = false := decide_eq_false (by omega)
  have c1 := fun W h0 h1 h2 => HB A C n c m d ls ps W h0 h1 h2 (by omega) (by omega) hl hw
  have c2 := fun W h1 h2 => best_ref A C n c m d ls ps W h1 h2 (by unfold maxLen; omega) (by unfold maxLen; omega) hl hw
  generalize bestI ls ps n = r at *
  obtain ⟨r1, r2⟩ := r
  have HA := Go.Lib.hid ha
  have HP := Go.Lib.hid hp
  clear ha hp hl hw HB
  have CW := Below.refl w.heap.size w
  go_enter Tryd.func7, Tryd.ntmps7
  go_wp2_with (first
    | (go_at_call 28; refine (c1 _ (TT.out.keep CW) (HA.out.keep CW) (HP.out.keep CW)).mono ?_; rintro e x1 ⟨rfl, hb⟩; replace CW := CW.trans (hb.mono CW.size); clear hb)
    | (go_at_call 29; refine (c2 _ (HA.out.keep CW) (HP.out.keep CW)).mono ?_; rintro e x2 ⟨rfl, hb⟩; replace CW := CW.trans (hb.mono CW.size); clear hb)
    | (go_at_call 22; refine (L _ (TT.out.keep CW)).mono ?_; rintro e x13 ⟨rfl, hb⟩; replace CW := CW.trans (hb.mono CW.size); clear hb))
  go_ret
  exact ⟨rfl, CW⟩

theorem u64_bd {zs : List Int} (h : ∀ n ∈ zs, (Lit.int .u64 n).wf = true) (n k : Nat) : 0 ≤ (zs.take n).getD k 0 ∧ (zs.take n).getD k 0 ≤ 18446744073709551615 := by
  rw [List.getD_eq_getElem?_getD]
  rcases Nat.lt_or_ge k (zs.take n).length with hk | hk
  · rw [List.getElem?_eq_getElem hk]
    exact wfu_iff.1 (h _ (List.mem_of_mem_take (List.getElem_mem hk)))
  · rw [List.getElem?_eq_none hk]; decide
theorem i64_bd {zs : List Int} (h : ∀ n ∈ zs, (Lit.int .i64 n).wf = true) (n k : Nat) : -9223372036854775808 ≤ (zs.take n).getD k 0 ∧ (zs.take n).getD k 0 ≤ 9223372036854775807 := by
  rw [List.getD_eq_getElem?_getD]
  rcases Nat.lt_or_ge k (zs.take n).length with hk | hk
  · rw [List.getElem?_eq_getElem hk]
    exact wf_iff.1 (h _ (List.mem_of_mem_take (List.getElem_mem hk)))
  · rw [List.getElem?_eq_none hk]; decide

theorem bests_any (HB : BestOk) (HO : OfOk) (HT : TextOk) (HN : NextOk) (A C : Option Addr) (n c m d : Nat) (zs ys : List Int) (w : World) (ht : Tab w)
    (ha : Nums .u64 w A n (zs.take n) ∧ n ≤ c ∧ (∀ x ∈ zs, (Lit.int .u64 x).wf = true) ∧ n ≤ zs.length) (hp : Nums .i64 w C m (ys.take m) ∧ m ≤ d ∧ (∀ x ∈ ys, (Lit.int .i64 x).wf = true) ∧ m ≤ ys.length) :
    Calls Tryd.prog 7 #[.slice A n c, .slice C m d] w fun e w' => e = .returned (.bool true) ∧ Below w.heap.size w w' := by
  have TT := Go.Lib.hid ht
  have L := lives2_any HO HT HN
  obtain ⟨a1, a2, a3, a4⟩ := ha
  obtain ⟨p1, p2, p3, p4⟩ := hp
  by_cases hn : 10 < n
  · have a5 := a1.cut (m := 10) (by omega)
    rw [List.take_take, Nat.min_eq_left (by omega)] at a5
    by_cases hm : 70 < m
    · have p5 := p1.cut (m := 70) (by omega)
      rw [List.take_take, Nat.min_eq_left (by omega)] at p5
      exact best_ll HB L A C n c m d _ _ w ht a5 p5 hn hm a2 p2 (u64_bd a3 10) (i64_bd p3 70)
    · exact best_ls HB L A C n c m d _ _ w ht a5 p1 hn (by omega) a2 p2 (u64_bd a3 10) (i64_bd p3 m)
  · by_cases hm : 70 < m
    · have p5 := p1.cut (m := 70) (by omega)
      rw [List.take_take, Nat.min_eq_left (by omega)] at p5
      exact best_sl HB L A C n c m d _ _ w ht a1 p5 (by omega) hm a2 p2 (u64_bd a3 n) (i64_bd p3 70)
    · exact best_ss HB L A C n c m d _ _ w ht a1 p1 (by omega) (by omega) a2 p2 (u64_bd a3 n) (i64_bd p3 m)
end Go.Proofs.YtmjogpbdgbgkhaaDoor
