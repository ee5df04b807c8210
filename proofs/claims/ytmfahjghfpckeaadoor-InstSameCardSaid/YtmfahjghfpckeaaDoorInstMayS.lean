/- Which customers with patterns may be, off the document's code. -/
import Derived.Test.YtmfahjghfpckeaaDoorInstMayR
namespace Go.Proofs.YtmfahjghfpckeaaDoor
open Go.RowKit
set_option linter.unusedVariables false
set_option maxRecDepth 100000 in
set_option maxHeartbeats 4000000 in
theorem customer_one (c : Cust) (A : Option Addr) (k : Nat) (d : Int) (w : World) (hc : c.Wf) (hn : Nums .u64 w A c.pats.length c.pats) (hk : c.kind = 1) :
    Calls Tryd.prog 26 #[custV c A k, .int .i64 d] w fun e w' => e = .returned (.bool (mayC c d)) ∧ Below w.heap.size w w' := by
  have hb := below_alloc w (.cells #[.int .i64 c.kind, .int .i64 c.demand, .slice A c.pats.length k, .int .i64 c.rate, .int .i64 c.size, .int .i64 c.start, .int .i64 c.rule, .int .i64 c.hold] 45)
  have hk1 : (c.kind == 1) = true := beq_iff_eq.2 hk
  have hl := hc.len
  unfold maxLen at hl
  have no : ¬ PatP c c.pats.length → mayC c d = false := fun h => by
    cases hm : mayC c d
    · rfl
    · exact absurd ((mayC_one hk).1 hm).1 h
  unfold custV
  by_cases h0 : 1 ≤ c.demand
  case neg =>
    rw [no (fun h => h0 h.1)]
    clear hc hn hk no hb
    go_enter Tryd.func26, Tryd.ntmps26
    go_wp2
    go_ret
    exact ⟨rfl, below_alloc _ _⟩
  by_cases h1 : c.demand ≤ 2147483648
  case neg =>
    rw [no (fun h => h1 h.2.1)]
    clear hc hn hk no hb
    go_enter Tryd.func26, Tryd.ntmps26
    go_wp2
    go_ret
    exact ⟨rfl, below_alloc _ _⟩
  by_cases h2 : 1 ≤ c.pats.length
  case neg =>
    rw [no (fun h => h2 h.2.2.1)]
    clear hc hn hk no hb
    have z : (c.pats.length : Int) < 1 := by omega
    go_enter Tryd.func26, Tryd.ntmps26
    go_wp2
    go_ret
    exact ⟨rfl, below_alloc _ _⟩
  have z1 : (1 : Int) ≤ (c.pats.length : Int) := by omega
  by_cases h3 : c.pats.length ≤ 64
  case neg =>
    rw [no (fun h => h3 h.2.2.2.1)]
    clear hc hn hk no hb
    have z : (64 : Int) < (c.pats.length : Int) := by omega
    go_enter Tryd.func26, Tryd.ntmps26
    go_wp2
    go_ret
    exact ⟨rfl, below_alloc _ _⟩
  have z2 : (c.pats.length : Int) ≤ 64 := by omega
  by_cases h4 : c.rate = 0
  case neg =>
    rw [no (fun h => h4 h.2.2.2.2.1)]
    have n4 : (c.rate != 0) = true := bne_iff_ne.2 h4
    clear hc hn hk no hb
    go_enter Tryd.func26, Tryd.ntmps26
    go_wp2
    go_ret
    exact ⟨rfl, below_alloc _ _⟩
  have n4 : (c.rate != 0) = false := by rw [h4]; rfl
  by_cases h5 : c.size = 0
  case neg =>
    rw [no (fun h => h5 h.2.2.2.2.2.1)]
    have n5 : (c.size != 0) = true := bne_iff_ne.2 h5
    clear hc hn hk no hb
    go_enter Tryd.func26, Tryd.ntmps26
    go_wp2
    go_ret
    exact ⟨rfl, below_alloc _ _⟩
  have n5 : (c.size != 0) = false := by rw [h5]; rfl
  by_cases h6 : c.start = 0
  case neg =>
    rw [no (fun h => h6 h.2.2.2.2.2.2.1)]
    have n6 : (c.start != 0) = true := bne_iff_ne.2 h6
    clear hc hn hk no hb
    go_enter Tryd.func26, Tryd.ntmps26
    go_wp2
    go_ret
    exact ⟨rfl, below_alloc _ _⟩
  have n6 : (c.start != 0) = false := by rw [h6]; rfl
  by_cases h7 : c.rule = 0
  case neg =>
    rw [no (fun h => h7 h.2.2.2.2.2.2.2.1)]
    have n7 : (c.rule != 0) = true := bne_iff_ne.2 h7
    clear hc hn hk no hb
    go_enter Tryd.func26, Tryd.ntmps26
    go_wp2
    go_ret
    exact ⟨rfl, below_alloc _ _⟩
  have n7 : (c.rule != 0) = false := by rw [h7]; rfl
  by_cases h8 : c.hold = 0
  case neg =>
    rw [no (fun h => h8 h.2.2.2.2.2.2.2.2)]
    have n8 : (c.hold != 0) = true := bne_iff_ne.2 h8
    clear hc hn hk no hb
    go_enter Tryd.func26, Tryd.ntmps26
    go_wp2
    go_ret
    exact ⟨rfl, below_alloc _ _⟩
  have n8 : (c.hold != 0) = false := by rw [h8]; rfl
  have em : mayC c d = timelyB c.pats d := by
    rw [Bool.eq_iff_iff, mayC_one hk]
    exact ⟨fun h => h.2, fun h => ⟨⟨h0, h1, h2, h3, h4, h5, h6, h7, h8⟩, h⟩⟩
  rw [em]
  have HN := Go.Lib.hid hn
  have HP := Go.Lib.hid hc.pats
  have J := BlkIs.fresh w 45 #[.int .i64 c.kind, .int .i64 c.demand, .slice A c.pats.length k, .int .i64 c.rate, .int .i64 c.size, .int .i64 c.start, .int .i64 c.rule, .int .i64 c.hold]
  have HJ := Go.Lib.hid J
  clear hc hn hk no em h4 h5 h6 h7 h8 J
  go_enter Tryd.func26, Tryd.ntmps26
  go_wp2
  clear n4 n5 n6 n7 n8 hk1
  go_loopw [5] (fun iv wr => ∃ i : Nat, i ≤ c.pats.length ∧ iv = .int .i64 i ∧ timelyB (c.pats.take i) d = true ∧ BlkIs wr w.heap.size 45 #[.int .i64 c.kind, .int .i64 c.demand, .slice A c.pats.length k, .int .i64 c.rate, .int .i64 c.size, .int .i64 c.start, .int .i64 c.rule, .int .i64 c.hold] ∧ Below w.heap.size w wr) (fun iv _ => c.pats.length - (intOf iv).toNat)
  case atStart => exact ⟨0, Nat.zero_le _, rfl, rfl, HJ.out, hb⟩
  case round =>
    clear hb HJ
    obtain ⟨i, hi, rfl, ht, hJ, hB⟩ := hrel
    have HTK := Go.Lib.hid ht
    have HB := Go.Lib.hid hB
    have HJ := Go.Lib.hid hJ
    obtain ⟨j0, j1, j2, j3, j4, j5, j6, j7⟩ := hJ.cells8
    clear ht hB hJ
    by_cases hlt : i < c.pats.length
    · obtain ⟨b, off, rfl, hce⟩ := HN.out.2 (by omega)
      have c0 := keep_cell HB.out (hce i hlt)
      have hpp := HP.out _ (List.getElem_mem hlt)
      have hs : ∃ s : Nat, c.pats.getD i 0 = (s : Int) ∧ s < 2 ^ 64 := ⟨(c.pats.getD i 0).toNat, by rw [getD_in _ _ hlt]; omega, by rw [getD_in _ _ hlt]; omega⟩
      obtain ⟨s, hs1, hs2⟩ := hs
      have C := fun W => next_ref s hs2 d W
      have H1 : Hid (timelyB (c.pats.take (i + 1)) d = (timelyB (c.pats.take i) d && decide (nextI s d < 0))) := by show _ = _; rw [timelyB_take hlt, hs1, Int.toNat_natCast]
      have H2 : Hid (decide (nextI s d < 0) = false → timelyB c.pats d = false) := fun h => timelyB_no hlt (by rw [hs1, Int.toNat_natCast]; exact h)
      rw [hs1] at c0
      clear hce hpp hs1 hs2
      generalize nextI s d = q at *
      by_cases hq : q < 0
      · have hq2 : ¬ 0 ≤ q := by omega
        go_wp2_with (go_at_call 50; refine (C _).mono ?_; rintro e w1 ⟨rfl, hb1⟩)
        exact ⟨⟨i + 1, by omega, by go_num, by rw [H1.out, HTK.out, decide_eq_true hq]; rfl, HJ.out.below hb1 HJ.out.lt, HB.out.trans (hb1.mono HB.out.size)⟩, by simp [intOf]; omega⟩
      · have hq2 : 0 ≤ q := by omega
        go_wp2_with (go_at_call 50; refine (C _).mono ?_; rintro e w1 ⟨rfl, hb1⟩)
        go_ret
        exact ⟨ret_bool (H2.out (decide_eq_false (by omega))).symm, HB.out.trans (hb1.mono HB.out.size)⟩
    · obtain rfl : i = c.pats.length := by omega
      have HE : Hid (timelyB c.pats d = true) := by have := HTK.out; rw [List.take_length] at this; exact this
      go_wp2
      go_ret
      exact ⟨ret_bool HE.out.symm, HB.out⟩
theorem customer_any (c : Cust) (A : Option Addr) (k : Nat) (d : Int) (w : World) (hc : c.Wf) (hn : Nums .u64 w A c.pats.length c.pats) :
    Calls Tryd.prog 26 #[custV c A k, .int .i64 d] w fun e w' => e = .returned (.bool (mayC c d)) ∧ Below w.heap.size w w' := by
  by_cases hk : c.kind = 1
  · exact customer_one c A k d w hc hn hk
  · exact customer_two c A k d w hc hk
end Go.Proofs.YtmfahjghfpckeaaDoor
