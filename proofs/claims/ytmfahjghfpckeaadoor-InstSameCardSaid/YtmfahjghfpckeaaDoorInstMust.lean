/- What a customer must be, method by method, off the code. -/
import Derived.Test.YtmfahjghfpckeaaDoorInstCode
import Derived.Test.YtmfahjghfpckeaaDoorDaysNext
namespace Go.Proofs.YtmfahjghfpckeaaDoor
open Go.RowKit
set_option linter.unusedVariables false
/-- A customer with the days there are, as it is handed over. -/
def clientV (c : Cust) (A : Option Addr) (k : Nat) (d : Int) : Value :=
  .agg #[.int .i64 c.kind, .int .i64 c.demand, .slice A c.pats.length k, .int .i64 c.rate, .int .i64 c.size, .int .i64 c.start, .int .i64 c.rule, .int .i64 c.hold, .int .i64 d]
def sizeB (n : Int) : Bool := withinB n 0 2147483648
theorem size_any (n : Int) (w : World) : Calls Tryd.prog 45 #[.int .i64 n] w fun e w' => e = .returned (.bool (sizeB n)) ∧ w = w' := by
  have C := fun W => within_any n 0 2147483648 W
  go_enter Tryd.func45, Tryd.ntmps45
  go_wp2_with (go_at_call 44; refine (C _).mono ?_; rintro e w1 ⟨rfl, rfl⟩)
  go_ret
  exact ⟨rfl, rfl⟩
theorem periodic_any (c : Cust) (A : Option Addr) (k : Nat) (d : Int) (w : World) :
    Calls Tryd.prog 62 #[clientV c A k d] w fun e w' => e = .returned (.bool (c.kind == 1)) ∧ Below w.heap.size w w' := by
  unfold clientV
  go_enter Tryd.func62, Tryd.ntmps62
  go_wp2
  go_ret
  exact ⟨rfl, below_alloc _ _⟩
theorem tank_any (c : Cust) (A : Option Addr) (k : Nat) (d : Int) (w : World) :
    Calls Tryd.prog 67 #[clientV c A k d] w fun e w' => e = .returned (.bool (c.kind == 2)) ∧ Below w.heap.size w w' := by
  unfold clientV
  go_enter Tryd.func67, Tryd.ntmps67
  go_wp2
  go_ret
  exact ⟨rfl, below_alloc _ _⟩
theorem demands_any (c : Cust) (A : Option Addr) (k : Nat) (d : Int) (w : World) :
    Calls Tryd.prog 63 #[clientV c A k d] w fun e w' => e = .returned (.bool (withinB c.demand 1 2147483648)) ∧ Below w.heap.size w w' := by
  unfold clientV
  have C := fun W => within_any c.demand 1 2147483648 W
  go_enter Tryd.func63, Tryd.ntmps63
  go_wp2_with (go_at_call 44; refine (C _).mono ?_; rintro e w1 ⟨rfl, rfl⟩)
  go_ret
  exact ⟨rfl, below_alloc _ _⟩
theorem chooses_any (c : Cust) (A : Option Addr) (k : Nat) (d : Int) (w : World) (hl : c.pats.length ≤ maxLen) :
    Calls Tryd.prog 64 #[clientV c A k d] w fun e w' => e = .returned (.bool (withinB c.pats.length 1 64)) ∧ Below w.heap.size w w' := by
  unfold clientV
  have C := fun W => within_any (c.pats.length : Int) 1 64 W
  unfold maxLen at hl
  go_enter Tryd.func64, Tryd.ntmps64
  go_wp2_with (go_at_call 44; refine (C _).mono ?_; rintro e w1 ⟨rfl, rfl⟩)
  go_ret
  exact ⟨rfl, below_alloc _ _⟩
theorem takes_any (c : Cust) (A : Option Addr) (k : Nat) (d : Int) (w : World) :
    Calls Tryd.prog 68 #[clientV c A k d] w fun e w' => e = .returned (.bool (sizeB c.rate)) ∧ Below w.heap.size w w' := by
  unfold clientV
  have C := fun W => size_any c.rate W
  go_enter Tryd.func68, Tryd.ntmps68
  go_wp2_with (go_at_call 45; refine (C _).mono ?_; rintro e w1 ⟨rfl, rfl⟩)
  go_ret
  exact ⟨rfl, below_alloc _ _⟩
theorem stores_any (c : Cust) (A : Option Addr) (k : Nat) (d : Int) (w : World) :
    Calls Tryd.prog 69 #[clientV c A k d] w fun e w' => e = .returned (.bool (withinB c.size 1 2147483648)) ∧ Below w.heap.size w w' := by
  unfold clientV
  have C := fun W => within_any c.size 1 2147483648 W
  go_enter Tryd.func69, Tryd.ntmps69
  go_wp2_with (go_at_call 44; refine (C _).mono ?_; rintro e w1 ⟨rfl, rfl⟩)
  go_ret
  exact ⟨rfl, below_alloc _ _⟩
theorem begins_any (c : Cust) (A : Option Addr) (k : Nat) (d : Int) (w : World) :
    Calls Tryd.prog 70 #[clientV c A k d] w fun e w' => e = .returned (.bool (withinB c.start 0 c.size)) ∧ Below w.heap.size w w' := by
  unfold clientV
  have C := fun W => within_any c.start 0 c.size W
  go_enter Tryd.func70, Tryd.ntmps70
  go_wp2_with (go_at_call 44; refine (C _).mono ?_; rintro e w1 ⟨rfl, rfl⟩)
  go_ret
  exact ⟨rfl, below_alloc _ _⟩
theorem holds_any (c : Cust) (A : Option Addr) (k : Nat) (d : Int) (w : World) :
    Calls Tryd.prog 72 #[clientV c A k d] w fun e w' => e = .returned (.bool (withinB c.hold 0 1024)) ∧ Below w.heap.size w w' := by
  unfold clientV
  have C := fun W => within_any c.hold 0 1024 W
  go_enter Tryd.func72, Tryd.ntmps72
  go_wp2_with (go_at_call 44; refine (C _).mono ?_; rintro e w1 ⟨rfl, rfl⟩)
  go_ret
  exact ⟨rfl, below_alloc _ _⟩
theorem ruled_any (c : Cust) (A : Option Addr) (k : Nat) (d : Int) (w : World) (hl : c.pats.length ≤ maxLen) :
    Calls Tryd.prog 71 #[clientV c A k d] w fun e w' => e = .returned (.bool (c.rule == 1 || c.rule == 2)) ∧ Below w.heap.size w w' := by
  unfold clientV
  unfold maxLen at hl
  go_enter Tryd.func71, Tryd.ntmps71
  go_wp2
  all_goals
    go_ret
    refine ⟨ret_bool ?_, below_alloc _ _⟩
    simp_all
theorem tankless_any (c : Cust) (A : Option Addr) (k : Nat) (d : Int) (w : World) (hl : c.pats.length ≤ maxLen) :
    Calls Tryd.prog 66 #[clientV c A k d] w fun e w' => e = .returned (.bool (c.rate == 0 && c.size == 0 && c.start == 0 && c.rule == 0 && c.hold == 0)) ∧ Below w.heap.size w w' := by
  unfold clientV
  unfold maxLen at hl
  go_enter Tryd.func66, Tryd.ntmps66
  go_wp2
  all_goals
    go_ret
    refine ⟨ret_bool ?_, below_alloc _ _⟩
    simp_all
theorem patternless_any (c : Cust) (A : Option Addr) (k : Nat) (d : Int) (w : World) (hl : c.pats.length ≤ maxLen) :
    Calls Tryd.prog 73 #[clientV c A k d] w fun e w' => e = .returned (.bool (c.demand == 0 && (c.pats.length : Int) == 0)) ∧ Below w.heap.size w w' := by
  unfold clientV
  unfold maxLen at hl
  go_enter Tryd.func73, Tryd.ntmps73
  go_wp2
  all_goals
    go_ret
    refine ⟨ret_bool ?_, below_alloc _ _⟩
    simp_all
/-- No pattern has a day from d on. -/
def timelyB (ps : List Int) (d : Int) : Bool := ps.all fun p => decide (nextI p.toNat d < 0)
theorem timelyB_take {ps : List Int} {d : Int} {k : Nat} (hk : k < ps.length) : timelyB (ps.take (k + 1)) d = (timelyB (ps.take k) d && decide (nextI (ps.getD k 0).toNat d < 0)) := by
  unfold timelyB
  rw [List.take_succ_eq_append_getElem hk, getD_in _ _ hk, List.all_append]
  simp only [List.all_cons, List.all_nil, Bool.and_true]
theorem timelyB_no {ps : List Int} {d : Int} {k : Nat} (hk : k < ps.length) (h : decide (nextI (ps.getD k 0).toNat d < 0) = false) : timelyB ps d = false := by
  unfold timelyB
  rw [List.all_eq_false]
  exact ⟨_, List.getElem_mem hk, by rw [getD_in _ _ hk] at h; simpa using h⟩
theorem timely1_any (s : Nat) (d : Int) (g : Nat) (w : World) (hT : Tab w) (hs : s < 2 ^ 64) (wd : W64 d) (hg : w.cell? ⟨g, 8, none⟩ = some (.int .i64 d)) :
    Calls Tryd.prog 75 #[.int .u64 s, .pointer (some ⟨g, 0, none⟩)] w fun e w' => e = .returned (.bool (decide (nextI s d < 0))) ∧ Below w.heap.size w w' := by
  have C := next_days s d w hT hs wd.wf
  obtain ⟨q, hq⟩ : ∃ q, q = nextI s d := ⟨_, rfl⟩
  rw [← hq] at C ⊢
  clear hT hs wd hq
  go_enter Tryd.func75, Tryd.ntmps75
  go_wp2_with (go_at_call 76; refine C.mono ?_; rintro e w1 ⟨rfl, hb⟩)
  go_ret
  exact ⟨rfl, hb⟩
set_option maxHeartbeats 1000000 in
theorem all_u64 (A : Option Addr) (n c : Nat) (ps : List Int) (g : Nat) (d : Int) (w : World) (hT : Tab w) (hn : Nums .u64 w A n ps) (hp : ∀ p ∈ ps, 0 ≤ p ∧ p ≤ 18446744073709551615) (wd : W64 d) (hg : w.cell? ⟨g, 8, none⟩ = some (.int .i64 d)) (hm : n ≤ maxLen) :
    Calls Tryd.prog 74 #[.slice A n c, .func (.func 75) #[] #[.pointer (some ⟨g, 0, none⟩)]] w fun e w' => e = .returned (.bool (timelyB ps d)) ∧ Below w.heap.size w w' := by
  have HT := Go.Lib.hid hT
  have HN := Go.Lib.hid hn
  have HP := Go.Lib.hid hp
  have HG := Go.Lib.hid hg
  have HW := Go.Lib.hid wd
  have HL := Go.Lib.hid hn.1
  unfold maxLen at hm
  clear hT hn hp hg wd
  go_enter Tryd.func74, Tryd.ntmps74
  go_wp2
  go_loopw [9] (fun iv wr => ∃ k : Nat, k ≤ n ∧ iv = .int .i64 k ∧ timelyB (ps.take k) d = true ∧ Below w.heap.size w wr) (fun iv _ => n - (intOf iv).toNat)
  case atStart => exact ⟨0, Nat.zero_le _, rfl, rfl, Below.refl _ _⟩
  case round =>
    obtain ⟨k, hk, rfl, ht, hb⟩ := hrel
    have HTK := Go.Lib.hid ht
    have HB := Go.Lib.hid hb
    clear ht hb
    by_cases hlt : k < n
    · have hkl : k < ps.length := by rw [HL.out]; exact hlt
      obtain ⟨b, off, rfl, hc⟩ := HN.out.2 (by omega)
      have c0 := keep_cell HB.out (hc k hlt)
      have hpp := HP.out _ (List.getElem_mem hkl)
      have hs : ∃ s : Nat, ps.getD k 0 = (s : Int) ∧ s < 2 ^ 64 := ⟨(ps.getD k 0).toNat, by rw [getD_in _ _ hkl]; omega, by rw [getD_in _ _ hkl]; omega⟩
      obtain ⟨s, hs1, hs2⟩ := hs
      have C := timely1_any s d g wr (HT.out.keep HB.out) hs2 HW.out (keep_cell HB.out HG.out)
      have H1 : Hid (timelyB (ps.take (k + 1)) d = (timelyB (ps.take k) d && decide (nextI s d < 0))) := by show _ = _; rw [timelyB_take hkl, hs1, Int.toNat_natCast]
      have H2 : Hid (decide (nextI s d < 0) = false → timelyB ps d = false) := fun h => timelyB_no hkl (by rw [hs1, Int.toNat_natCast]; exact h)
      rw [hs1] at c0
      clear hc hpp hs1 hs2 hkl
      generalize decide (nextI s d < 0) = q at *
      cases q
      · go_wp2_with (go_at_call 75; refine C.mono ?_; rintro e w1 ⟨rfl, hb1⟩)
        go_ret
        exact ⟨ret_bool (H2.out (by first | rfl | trivial)).symm, HB.out.trans (hb1.mono HB.out.size)⟩
      · go_wp2_with (go_at_call 75; refine C.mono ?_; rintro e w1 ⟨rfl, hb1⟩)
        exact ⟨⟨k + 1, by omega, by go_num, by rw [H1.out, HTK.out]; rfl, HB.out.trans (hb1.mono HB.out.size)⟩, by simp [intOf]; omega⟩
    · obtain rfl : n = k := by omega
      have HE : Hid (timelyB ps d = true) := by have := HTK.out; rw [List.take_of_length_le (by rw [HL.out]; exact Nat.le_refl _)] at this; exact this
      go_wp2
      go_ret
      exact ⟨ret_bool HE.out.symm, HB.out⟩
theorem timely_any (c : Cust) (A : Option Addr) (k : Nat) (d : Int) (w : World) (hT : Tab w) (hc : c.Wf) (hn : Nums .u64 w A c.pats.length c.pats) (wd : W64 d) :
    Calls Tryd.prog 65 #[clientV c A k d] w fun e w' => e = .returned (.bool (timelyB c.pats d)) ∧ Below w.heap.size w w' := by
  unfold clientV
  have hmf : ∀ (fn : Fn) (first cap : Array Value) (w : World), (Instr.makeFunc fn first cap).run Tryd.prog w = .ok (.func fn first cap) w := fun _ _ _ _ => rfl
  have J := BlkIs.fresh w 66 #[.int .i64 c.kind, .int .i64 c.demand, .slice A c.pats.length k, .int .i64 c.rate, .int .i64 c.size, .int .i64 c.start, .int .i64 c.rule, .int .i64 c.hold, .int .i64 d]
  have hb := below_alloc w (.cells #[.int .i64 c.kind, .int .i64 c.demand, .slice A c.pats.length k, .int .i64 c.rate, .int .i64 c.size, .int .i64 c.start, .int .i64 c.rule, .int .i64 c.hold, .int .i64 d] 66)
  have C := all_u64 A c.pats.length k c.pats w.heap.size d _ (hT.keep hb) (hn.keep hb) hc.pats wd (J.cellAt 8) hc.len
  have hl := hc.len
  unfold maxLen at hl
  clear J hT hc hn wd
  go_enter Tryd.func65, Tryd.ntmps65
  go_wp2_with (go_at_call 74; refine C.mono ?_; rintro e w1 ⟨rfl, hb1⟩)
  go_ret
  exact ⟨rfl, hb.trans (hb1.mono hb.size)⟩
end Go.Proofs.YtmfahjghfpckeaaDoor
