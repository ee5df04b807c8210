import Derived.Test.YtliomhkgkabbbaaGreatDoorK04
import Derived.Test.YtliomhkgkabbbaaGreatDoorK11
import Derived.Deep.RegionWith
import Derived.Test.YtliomhkgkabbbaaGreatDoorK03
section
/- What a customer must be, method by method, off the code. -/
namespace Go.Proofs.YtliomhkgkabbbaaGreatDoor
open Go.RowKit
set_option linter.unusedVariables false
/-- A customer with the days there are, as it is handed over. -/
def clientV (c : Cust) (A : Option Addr) (k : Nat) (d : Int) : Value :=
  .agg #[.int .i64 c.kind, .int .i64 c.demand, .slice A c.pats.length k, .int .i64 c.rate, .int .i64 c.size, .int .i64 c.start, .int .i64 c.rule, .int .i64 c.hold, .int .i64 d]
def sizeB (n : Int) : Bool := withinB n 0 2147483648
theorem size_any (n : Int) (w : World) : Calls Tryz.prog 66 #[.int .i64 n] w fun e w' => e = .returned (.bool (sizeB n)) ∧ w = w' := by
  have C := fun W => within_any n 0 2147483648 W
  go_enter Tryz.func66, Tryz.ntmps66
  go_wp2_with (go_at_call 65; refine (C _).mono ?_; rintro e w1 ⟨rfl, rfl⟩)
  go_ret
  exact ⟨rfl, rfl⟩
theorem periodic_any (c : Cust) (A : Option Addr) (k : Nat) (d : Int) (w : World) :
    Calls Tryz.prog 102 #[clientV c A k d] w fun e w' => e = .returned (.bool (c.kind == 1)) ∧ Below w.heap.size w w' := by
  unfold clientV
  go_enter Tryz.func102, Tryz.ntmps102
  go_wp2
  go_ret
  exact ⟨rfl, below_alloc _ _⟩
theorem tank_any (c : Cust) (A : Option Addr) (k : Nat) (d : Int) (w : World) :
    Calls Tryz.prog 107 #[clientV c A k d] w fun e w' => e = .returned (.bool (c.kind == 2)) ∧ Below w.heap.size w w' := by
  unfold clientV
  go_enter Tryz.func107, Tryz.ntmps107
  go_wp2
  go_ret
  exact ⟨rfl, below_alloc _ _⟩
theorem demands_any (c : Cust) (A : Option Addr) (k : Nat) (d : Int) (w : World) :
    Calls Tryz.prog 103 #[clientV c A k d] w fun e w' => e = .returned (.bool (withinB c.demand 1 2147483648)) ∧ Below w.heap.size w w' := by
  unfold clientV
  have C := fun W => within_any c.demand 1 2147483648 W
  go_enter Tryz.func103, Tryz.ntmps103
  go_wp2_with (go_at_call 65; refine (C _).mono ?_; rintro e w1 ⟨rfl, rfl⟩)
  go_ret
  exact ⟨rfl, below_alloc _ _⟩
theorem chooses_any (c : Cust) (A : Option Addr) (k : Nat) (d : Int) (w : World) (hl : c.pats.length ≤ maxLen) :
    Calls Tryz.prog 104 #[clientV c A k d] w fun e w' => e = .returned (.bool (withinB c.pats.length 1 64)) ∧ Below w.heap.size w w' := by
  unfold clientV
  have C := fun W => within_any (c.pats.length : Int) 1 64 W
  unfold maxLen at hl
  go_enter Tryz.func104, Tryz.ntmps104
  go_wp2_with (go_at_call 65; refine (C _).mono ?_; rintro e w1 ⟨rfl, rfl⟩)
  go_ret
  exact ⟨rfl, below_alloc _ _⟩
theorem takes_any (c : Cust) (A : Option Addr) (k : Nat) (d : Int) (w : World) :
    Calls Tryz.prog 108 #[clientV c A k d] w fun e w' => e = .returned (.bool (sizeB c.rate)) ∧ Below w.heap.size w w' := by
  unfold clientV
  have C := fun W => size_any c.rate W
  go_enter Tryz.func108, Tryz.ntmps108
  go_wp2_with (go_at_call 66; refine (C _).mono ?_; rintro e w1 ⟨rfl, rfl⟩)
  go_ret
  exact ⟨rfl, below_alloc _ _⟩
theorem stores_any (c : Cust) (A : Option Addr) (k : Nat) (d : Int) (w : World) :
    Calls Tryz.prog 109 #[clientV c A k d] w fun e w' => e = .returned (.bool (withinB c.size 1 2147483648)) ∧ Below w.heap.size w w' := by
  unfold clientV
  have C := fun W => within_any c.size 1 2147483648 W
  go_enter Tryz.func109, Tryz.ntmps109
  go_wp2_with (go_at_call 65; refine (C _).mono ?_; rintro e w1 ⟨rfl, rfl⟩)
  go_ret
  exact ⟨rfl, below_alloc _ _⟩
theorem begins_any (c : Cust) (A : Option Addr) (k : Nat) (d : Int) (w : World) :
    Calls Tryz.prog 110 #[clientV c A k d] w fun e w' => e = .returned (.bool (withinB c.start 0 c.size)) ∧ Below w.heap.size w w' := by
  unfold clientV
  have C := fun W => within_any c.start 0 c.size W
  go_enter Tryz.func110, Tryz.ntmps110
  go_wp2_with (go_at_call 65; refine (C _).mono ?_; rintro e w1 ⟨rfl, rfl⟩)
  go_ret
  exact ⟨rfl, below_alloc _ _⟩
theorem holds_any (c : Cust) (A : Option Addr) (k : Nat) (d : Int) (w : World) :
    Calls Tryz.prog 112 #[clientV c A k d] w fun e w' => e = .returned (.bool (withinB c.hold 0 1024)) ∧ Below w.heap.size w w' := by
  unfold clientV
  have C := fun W => within_any c.hold 0 1024 W
  go_enter Tryz.func112, Tryz.ntmps112
  go_wp2_with (go_at_call 65; refine (C _).mono ?_; rintro e w1 ⟨rfl, rfl⟩)
  go_ret
  exact ⟨rfl, below_alloc _ _⟩
theorem ruled_any (c : Cust) (A : Option Addr) (k : Nat) (d : Int) (w : World) (hl : c.pats.length ≤ maxLen) :
    Calls Tryz.prog 111 #[clientV c A k d] w fun e w' => e = .returned (.bool (c.rule == 1 || c.rule == 2)) ∧ Below w.heap.size w w' := by
  unfold clientV
  unfold maxLen at hl
  go_enter Tryz.func111, Tryz.ntmps111
  go_wp2
  all_goals
    go_ret
    refine ⟨ret_bool ?_, below_alloc _ _⟩
    simp_all
theorem tankless_any (c : Cust) (A : Option Addr) (k : Nat) (d : Int) (w : World) (hl : c.pats.length ≤ maxLen) :
    Calls Tryz.prog 106 #[clientV c A k d] w fun e w' => e = .returned (.bool (c.rate == 0 && c.size == 0 && c.start == 0 && c.rule == 0 && c.hold == 0)) ∧ Below w.heap.size w w' := by
  unfold clientV
  unfold maxLen at hl
  go_enter Tryz.func106, Tryz.ntmps106
  go_wp2
  all_goals
    go_ret
    refine ⟨ret_bool ?_, below_alloc _ _⟩
    simp_all
theorem patternless_any (c : Cust) (A : Option Addr) (k : Nat) (d : Int) (w : World) (hl : c.pats.length ≤ maxLen) :
    Calls Tryz.prog 113 #[clientV c A k d] w fun e w' => e = .returned (.bool (c.demand == 0 && (c.pats.length : Int) == 0)) ∧ Below w.heap.size w w' := by
  unfold clientV
  unfold maxLen at hl
  go_enter Tryz.func113, Tryz.ntmps113
  go_wp2
  all_goals
    go_ret
    refine ⟨ret_bool ?_, below_alloc _ _⟩
    simp_all
/-- No pattern has a day from d on. -/
def timelyB (ps : List Int) (d : Int) : Bool := ps.all fun p => decide (nextI p.toNat d < 0)
theorem timelyB_take {ps : List Int} {d : Int} {k : Nat} (hk : k < ps.length) : timelyB (ps.take (k + 1)) d = (timelyB (ps.take k) d && decide (nextI (ps.getD k 0).toNat d < 0)) := by
  unfold timelyB
  rw [List.take_succ_eq_append_getElem hk, getD_in _ _ hk, List.all_append]
  simp only [List.all_cons, List.all_nil, Bool.and_true]
theorem timelyB_no {ps : List Int} {d : Int} {k : Nat} (hk : k < ps.length) (h : decide (nextI (ps.getD k 0).toNat d < 0) = false) : timelyB ps d = false := by
  unfold timelyB
  rw [List.all_eq_false]
  exact ⟨_, List.getElem_mem hk, by rw [getD_in _ _ hk] at h; simpa using h⟩
theorem timely1_any (s : Nat) (d : Int) (g : Nat) (w : World) (hT : Tab w) (hs : s < 2 ^ 64) (wd : W64 d) (hg : w.cell? ⟨g, 8, none⟩ = some (.int .i64 d)) :
    Calls Tryz.prog 122 #[.int .u64 s, .pointer (some ⟨g, 0, none⟩)] w fun e w' => e = .returned (.bool (decide (nextI s d < 0))) ∧ Below w.heap.size w w' := by
  have C := next_days s d w hT hs wd.wf
  obtain ⟨q, hq⟩ : ∃ q, q = nextI s d := ⟨_, rfl⟩
  rw [← hq] at C ⊢
  clear hT hs wd hq
  go_enter Tryz.func122, Tryz.ntmps122
  go_wp2_with (go_at_call 123; refine C.mono ?_; rintro e w1 ⟨rfl, hb⟩)
  go_ret
  exact ⟨rfl, hb⟩
set_option maxHeartbeats 1000000 in
theorem all_u64 (A : Option Addr) (n c : Nat) (ps : List Int) (g : Nat) (d : Int) (w : World) (hT : Tab w) (hn : Nums .u64 w A n ps) (hp : ∀ p ∈ ps, 0 ≤ p ∧ p ≤ 18446744073709551615) (wd : W64 d) (hg : w.cell? ⟨g, 8, none⟩ = some (.int .i64 d)) (hm : n ≤ maxLen) :
    Calls Tryz.prog 121 #[.slice A n c, .func (.func 122) #[] #[.pointer (some ⟨g, 0, none⟩)]] w fun e w' => e = .returned (.bool (timelyB ps d)) ∧ Below w.heap.size w w' := by
  have HT := Go.Lib.hid hT
  have HN := Go.Lib.hid hn
  have HP := Go.Lib.hid hp
  have HG := Go.Lib.hid hg
  have HW := Go.Lib.hid wd
  have HL := Go.Lib.hid hn.1
  unfold maxLen at hm
  clear hT hn hp hg wd
  go_enter Tryz.func121, Tryz.ntmps121
  go_wp2
  go_loopw [9] (fun iv wr => ∃ k : Nat, k ≤ n ∧ iv = .int .i64 k ∧ timelyB (ps.take k) d = true ∧ Below w.heap.size w wr) (fun iv _ => n - (intOf iv).toNat)
  case atStart => exact ⟨0, Nat.zero_le _, rfl, rfl, Below.refl _ _⟩
  case round =>
    obtain ⟨k, hk, rfl, ht, hb⟩ := hrel
    have HTK := Go.Lib.hid ht
    have HB := Go.Lib.hid hb
    clear ht hb
    by_cases hlt : k < n
    · have hkl : k < ps.length := by rw [HL.out]; exact hlt
      obtain ⟨b, off, rfl, hc⟩ := HN.out.2 (by omega)
      have c0 := keep_cell HB.out (hc k hlt)
      have hpp := HP.out _ (List.getElem_mem hkl)
      have hs : ∃ s : Nat, ps.getD k 0 = (s : Int) ∧ s < 2 ^ 64 := ⟨(ps.getD k 0).toNat, by rw [getD_in _ _ hkl]; omega, by rw [getD_in _ _ hkl]; omega⟩
      obtain ⟨s, hs1, hs2⟩ := hs
      have C := timely1_any s d g wr (HT.out.keep HB.out) hs2 HW.out (keep_cell HB.out HG.out)
      have H1 : Hid (timelyB (ps.take (k + 1)) d = (timelyB (ps.take k) d && decide (nextI s d < 0))) := by show _ = _; rw [timelyB_take hkl, hs1, Int.toNat_natCast]
      have H2 : Hid (decide (nextI s d < 0) = false → timelyB ps d = false) := fun h => timelyB_no hkl (by rw [hs1, Int.toNat_natCast]; exact h)
      rw [hs1] at c0
      clear hc hpp hs1 hs2 hkl
      generalize decide (nextI s d < 0) = q at *
      cases q
      · go_wp2_with (go_at_call 122; refine C.mono ?_; rintro e w1 ⟨rfl, hb1⟩)
        go_ret
        exact ⟨ret_bool (H2.out (by first | rfl | trivial)).symm, HB.out.trans (hb1.mono HB.out.size)⟩
      · go_wp2_with (go_at_call 122; refine C.mono ?_; rintro e w1 ⟨rfl, hb1⟩)
        exact ⟨⟨k + 1, by omega, by go_num, by rw [H1.out, HTK.out]; rfl, HB.out.trans (hb1.mono HB.out.size)⟩, by simp [intOf]; omega⟩
    · obtain rfl : n = k := by omega
      have HE : Hid (timelyB ps d = true) := by have := HTK.out; rw [List.take_of_length_le (by rw [HL.out]; exact Nat.le_refl _)] at this; exact this
      go_wp2
      go_ret
      exact ⟨ret_bool HE.out.symm, HB.out⟩
theorem timely_any (c : Cust) (A : Option Addr) (k : Nat) (d : Int) (w : World) (hT : Tab w) (hc : c.Wf) (hn : Nums .u64 w A c.pats.length c.pats) (wd : W64 d) :
    Calls Tryz.prog 105 #[clientV c A k d] w fun e w' => e = .returned (.bool (timelyB c.pats d)) ∧ Below w.heap.size w w' := by
  unfold clientV
  have hmf : ∀ (fn : Fn) (first cap : Array Value) (w : World), (Instr.makeFunc fn first cap).run Tryz.prog w = .ok (.func fn first cap) w := fun _ _ _ _ => rfl
  have J := BlkIs.fresh w 105 #[.int .i64 c.kind, .int .i64 c.demand, .slice A c.pats.length k, .int .i64 c.rate, .int .i64 c.size, .int .i64 c.start, .int .i64 c.rule, .int .i64 c.hold, .int .i64 d]
  have hb := below_alloc w (.cells #[.int .i64 c.kind, .int .i64 c.demand, .slice A c.pats.length k, .int .i64 c.rate, .int .i64 c.size, .int .i64 c.start, .int .i64 c.rule, .int .i64 c.hold, .int .i64 d] 105)
  have C := all_u64 A c.pats.length k c.pats w.heap.size d _ (hT.keep hb) (hn.keep hb) hc.pats wd (J.cellAt 8) hc.len
  have hl := hc.len
  unfold maxLen at hl
  clear J hT hc hn wd
  go_enter Tryz.func105, Tryz.ntmps105
  go_wp2_with (go_at_call 121; refine C.mono ?_; rintro e w1 ⟨rfl, hb1⟩)
  go_ret
  exact ⟨rfl, hb.trans (hb1.mono hb.size)⟩
end Go.Proofs.YtliomhkgkabbbaaGreatDoor
end
section
/- What a customer must be, all of it, off the code: the two lists of methods, and the loops over them. -/
namespace Go.Proofs.YtliomhkgkabbbaaGreatDoor
open Go.RowKit
set_option linter.unusedVariables false
/-- The block of a customer with the days there are. -/
def ClientBox (W : World) (g : Nat) (c : Cust) (A : Option Addr) (k : Nat) (d : Int) : Prop := BlkIs W g 105 #[.int .i64 c.kind, .int .i64 c.demand, .slice A c.pats.length k, .int .i64 c.rate, .int .i64 c.size, .int .i64 c.start, .int .i64 c.rule, .int .i64 c.hold, .int .i64 d]
/-- What the methods ask of the world: the library's table, the customer's block, and its patterns. -/
structure CustIn (W : World) (g : Nat) (c : Cust) (A : Option Addr) (k : Nat) (d : Int) : Prop where
  tab : Tab W
  box : ClientBox W g c A k d
  wf : c.Wf
  pats : Nums .u64 W A c.pats.length c.pats
  days : W64 d
theorem CustIn.keep {W W' : World} {g : Nat} {c : Cust} {A : Option Addr} {k : Nat} {d : Int} (h : CustIn W g c A k d) (hb : Below W.heap.size W W') : CustIn W' g c A k d :=
  ⟨h.tab.keep hb, BlkIs.below h.box hb h.box.lt, h.wf, h.pats.keep hb, h.days⟩
theorem is1_periodic {W : World} {g : Nat} {c : Cust} {A : Option Addr} {k : Nat} {d : Int} (h : CustIn W g c A k d) :
    Calls Tryz.prog 101 #[.func (.func 102) #[] #[], .pointer (some ⟨g, 0, none⟩)] W fun e w' => e = .returned (.bool (c.kind == 1)) ∧ Below W.heap.size W w' := by
  obtain ⟨hT, hB, hc, hn, wd⟩ := h
  have C := periodic_any c A k d W
  obtain ⟨q, hq⟩ : ∃ q, q = (c.kind == 1) := ⟨_, rfl⟩
  rw [← hq] at C ⊢
  obtain ⟨j0, j1, j2, j3, j4, j5, j6, j7, j8⟩ := BlkIs.cells9 hB
  unfold clientV at C
  clear hT hc hn wd hq hB
  go_enter Tryz.func101, Tryz.ntmps101
  go_wp2_with (go_at_call 102; refine C.mono ?_; rintro e w1 ⟨rfl, hb⟩)
  go_ret
  exact ⟨rfl, hb⟩
theorem is1_demands {W : World} {g : Nat} {c : Cust} {A : Option Addr} {k : Nat} {d : Int} (h : CustIn W g c A k d) :
    Calls Tryz.prog 101 #[.func (.func 103) #[] #[], .pointer (some ⟨g, 0, none⟩)] W fun e w' => e = .returned (.bool (withinB c.demand 1 2147483648)) ∧ Below W.heap.size W w' := by
  obtain ⟨hT, hB, hc, hn, wd⟩ := h
  have C := demands_any c A k d W
  obtain ⟨q, hq⟩ : ∃ q, q = (withinB c.demand 1 2147483648) := ⟨_, rfl⟩
  rw [← hq] at C ⊢
  obtain ⟨j0, j1, j2, j3, j4, j5, j6, j7, j8⟩ := BlkIs.cells9 hB
  unfold clientV at C
  clear hT hc hn wd hq hB
  go_enter Tryz.func101, Tryz.ntmps101
  go_wp2_with (go_at_call 103; refine C.mono ?_; rintro e w1 ⟨rfl, hb⟩)
  go_ret
  exact ⟨rfl, hb⟩
theorem is1_chooses {W : World} {g : Nat} {c : Cust} {A : Option Addr} {k : Nat} {d : Int} (h : CustIn W g c A k d) :
    Calls Tryz.prog 101 #[.func (.func 104) #[] #[], .pointer (some ⟨g, 0, none⟩)] W fun e w' => e = .returned (.bool (withinB c.pats.length 1 64)) ∧ Below W.heap.size W w' := by
  obtain ⟨hT, hB, hc, hn, wd⟩ := h
  have C := chooses_any c A k d W hc.len
  obtain ⟨q, hq⟩ : ∃ q, q = (withinB c.pats.length 1 64) := ⟨_, rfl⟩
  rw [← hq] at C ⊢
  obtain ⟨j0, j1, j2, j3, j4, j5, j6, j7, j8⟩ := BlkIs.cells9 hB
  unfold clientV at C
  clear hT hc hn wd hq hB
  go_enter Tryz.func101, Tryz.ntmps101
  go_wp2_with (go_at_call 104; refine C.mono ?_; rintro e w1 ⟨rfl, hb⟩)
  go_ret
  exact ⟨rfl, hb⟩
theorem is1_timely {W : World} {g : Nat} {c : Cust} {A : Option Addr} {k : Nat} {d : Int} (h : CustIn W g c A k d) :
    Calls Tryz.prog 101 #[.func (.func 105) #[] #[], .pointer (some ⟨g, 0, none⟩)] W fun e w' => e = .returned (.bool (timelyB c.pats d)) ∧ Below W.heap.size W w' := by
  obtain ⟨hT, hB, hc, hn, wd⟩ := h
  have C := timely_any c A k d W hT hc hn wd
  obtain ⟨q, hq⟩ : ∃ q, q = (timelyB c.pats d) := ⟨_, rfl⟩
  rw [← hq] at C ⊢
  obtain ⟨j0, j1, j2, j3, j4, j5, j6, j7, j8⟩ := BlkIs.cells9 hB
  unfold clientV at C
  clear hT hc hn wd hq hB
  go_enter Tryz.func101, Tryz.ntmps101
  go_wp2_with (go_at_call 105; refine C.mono ?_; rintro e w1 ⟨rfl, hb⟩)
  go_ret
  exact ⟨rfl, hb⟩
theorem is1_tankless {W : World} {g : Nat} {c : Cust} {A : Option Addr} {k : Nat} {d : Int} (h : CustIn W g c A k d) :
    Calls Tryz.prog 101 #[.func (.func 106) #[] #[], .pointer (some ⟨g, 0, none⟩)] W fun e w' => e = .returned (.bool (c.rate == 0 && c.size == 0 && c.start == 0 && c.rule == 0 && c.hold == 0)) ∧ Below W.heap.size W w' := by
  obtain ⟨hT, hB, hc, hn, wd⟩ := h
  have C := tankless_any c A k d W hc.len
  obtain ⟨q, hq⟩ : ∃ q, q = (c.rate == 0 && c.size == 0 && c.start == 0 && c.rule == 0 && c.hold == 0) := ⟨_, rfl⟩
  rw [← hq] at C ⊢
  obtain ⟨j0, j1, j2, j3, j4, j5, j6, j7, j8⟩ := BlkIs.cells9 hB
  unfold clientV at C
  clear hT hc hn wd hq hB
  go_enter Tryz.func101, Tryz.ntmps101
  go_wp2_with (go_at_call 106; refine C.mono ?_; rintro e w1 ⟨rfl, hb⟩)
  go_ret
  exact ⟨rfl, hb⟩
theorem is1_tank {W : World} {g : Nat} {c : Cust} {A : Option Addr} {k : Nat} {d : Int} (h : CustIn W g c A k d) :
    Calls Tryz.prog 101 #[.func (.func 107) #[] #[], .pointer (some ⟨g, 0, none⟩)] W fun e w' => e = .returned (.bool (c.kind == 2)) ∧ Below W.heap.size W w' := by
  obtain ⟨hT, hB, hc, hn, wd⟩ := h
  have C := tank_any c A k d W
  obtain ⟨q, hq⟩ : ∃ q, q = (c.kind == 2) := ⟨_, rfl⟩
  rw [← hq] at C ⊢
  obtain ⟨j0, j1, j2, j3, j4, j5, j6, j7, j8⟩ := BlkIs.cells9 hB
  unfold clientV at C
  clear hT hc hn wd hq hB
  go_enter Tryz.func101, Tryz.ntmps101
  go_wp2_with (go_at_call 107; refine C.mono ?_; rintro e w1 ⟨rfl, hb⟩)
  go_ret
  exact ⟨rfl, hb⟩
theorem is1_takes {W : World} {g : Nat} {c : Cust} {A : Option Addr} {k : Nat} {d : Int} (h : CustIn W g c A k d) :
    Calls Tryz.prog 101 #[.func (.func 108) #[] #[], .pointer (some ⟨g, 0, none⟩)] W fun e w' => e = .returned (.bool (sizeB c.rate)) ∧ Below W.heap.size W w' := by
  obtain ⟨hT, hB, hc, hn, wd⟩ := h
  have C := takes_any c A k d W
  obtain ⟨q, hq⟩ : ∃ q, q = (sizeB c.rate) := ⟨_, rfl⟩
  rw [← hq] at C ⊢
  obtain ⟨j0, j1, j2, j3, j4, j5, j6, j7, j8⟩ := BlkIs.cells9 hB
  unfold clientV at C
  clear hT hc hn wd hq hB
  go_enter Tryz.func101, Tryz.ntmps101
  go_wp2_with (go_at_call 108; refine C.mono ?_; rintro e w1 ⟨rfl, hb⟩)
  go_ret
  exact ⟨rfl, hb⟩
theorem is1_stores {W : World} {g : Nat} {c : Cust} {A : Option Addr} {k : Nat} {d : Int} (h : CustIn W g c A k d) :
    Calls Tryz.prog 101 #[.func (.func 109) #[] #[], .pointer (some ⟨g, 0, none⟩)] W fun e w' => e = .returned (.bool (withinB c.size 1 2147483648)) ∧ Below W.heap.size W w' := by
  obtain ⟨hT, hB, hc, hn, wd⟩ := h
  have C := stores_any c A k d W
  obtain ⟨q, hq⟩ : ∃ q, q = (withinB c.size 1 2147483648) := ⟨_, rfl⟩
  rw [← hq] at C ⊢
  obtain ⟨j0, j1, j2, j3, j4, j5, j6, j7, j8⟩ := BlkIs.cells9 hB
  unfold clientV at C
  clear hT hc hn wd hq hB
  go_enter Tryz.func101, Tryz.ntmps101
  go_wp2_with (go_at_call 109; refine C.mono ?_; rintro e w1 ⟨rfl, hb⟩)
  go_ret
  exact ⟨rfl, hb⟩
theorem is1_begins {W : World} {g : Nat} {c : Cust} {A : Option Addr} {k : Nat} {d : Int} (h : CustIn W g c A k d) :
    Calls Tryz.prog 101 #[.func (.func 110) #[] #[], .pointer (some ⟨g, 0, none⟩)] W fun e w' => e = .returned (.bool (withinB c.start 0 c.size)) ∧ Below W.heap.size W w' := by
  obtain ⟨hT, hB, hc, hn, wd⟩ := h
  have C := begins_any c A k d W
  obtain ⟨q, hq⟩ : ∃ q, q = (withinB c.start 0 c.size) := ⟨_, rfl⟩
  rw [← hq] at C ⊢
  obtain ⟨j0, j1, j2, j3, j4, j5, j6, j7, j8⟩ := BlkIs.cells9 hB
  unfold clientV at C
  clear hT hc hn wd hq hB
  go_enter Tryz.func101, Tryz.ntmps101
  go_wp2_with (go_at_call 110; refine C.mono ?_; rintro e w1 ⟨rfl, hb⟩)
  go_ret
  exact ⟨rfl, hb⟩
theorem is1_ruled {W : World} {g : Nat} {c : Cust} {A : Option Addr} {k : Nat} {d : Int} (h : CustIn W g c A k d) :
    Calls Tryz.prog 101 #[.func (.func 111) #[] #[], .pointer (some ⟨g, 0, none⟩)] W fun e w' => e = .returned (.bool (c.rule == 1 || c.rule == 2)) ∧ Below W.heap.size W w' := by
  obtain ⟨hT, hB, hc, hn, wd⟩ := h
  have C := ruled_any c A k d W hc.len
  obtain ⟨q, hq⟩ : ∃ q, q = (c.rule == 1 || c.rule == 2) := ⟨_, rfl⟩
  rw [← hq] at C ⊢
  obtain ⟨j0, j1, j2, j3, j4, j5, j6, j7, j8⟩ := BlkIs.cells9 hB
  unfold clientV at C
  clear hT hc hn wd hq hB
  go_enter Tryz.func101, Tryz.ntmps101
  go_wp2_with (go_at_call 111; refine C.mono ?_; rintro e w1 ⟨rfl, hb⟩)
  go_ret
  exact ⟨rfl, hb⟩
theorem is1_holds {W : World} {g : Nat} {c : Cust} {A : Option Addr} {k : Nat} {d : Int} (h : CustIn W g c A k d) :
    Calls Tryz.prog 101 #[.func (.func 112) #[] #[], .pointer (some ⟨g, 0, none⟩)] W fun e w' => e = .returned (.bool (withinB c.hold 0 1024)) ∧ Below W.heap.size W w' := by
  obtain ⟨hT, hB, hc, hn, wd⟩ := h
  have C := holds_any c A k d W
  obtain ⟨q, hq⟩ : ∃ q, q = (withinB c.hold 0 1024) := ⟨_, rfl⟩
  rw [← hq] at C ⊢
  obtain ⟨j0, j1, j2, j3, j4, j5, j6, j7, j8⟩ := BlkIs.cells9 hB
  unfold clientV at C
  clear hT hc hn wd hq hB
  go_enter Tryz.func101, Tryz.ntmps101
  go_wp2_with (go_at_call 112; refine C.mono ?_; rintro e w1 ⟨rfl, hb⟩)
  go_ret
  exact ⟨rfl, hb⟩
theorem is1_patternless {W : World} {g : Nat} {c : Cust} {A : Option Addr} {k : Nat} {d : Int} (h : CustIn W g c A k d) :
    Calls Tryz.prog 101 #[.func (.func 113) #[] #[], .pointer (some ⟨g, 0, none⟩)] W fun e w' => e = .returned (.bool (c.demand == 0 && (c.pats.length : Int) == 0)) ∧ Below W.heap.size W w' := by
  obtain ⟨hT, hB, hc, hn, wd⟩ := h
  have C := patternless_any c A k d W hc.len
  obtain ⟨q, hq⟩ : ∃ q, q = (c.demand == 0 && (c.pats.length : Int) == 0) := ⟨_, rfl⟩
  rw [← hq] at C ⊢
  obtain ⟨j0, j1, j2, j3, j4, j5, j6, j7, j8⟩ := BlkIs.cells9 hB
  unfold clientV at C
  clear hT hc hn wd hq hB
  go_enter Tryz.func101, Tryz.ntmps101
  go_wp2_with (go_at_call 113; refine C.mono ?_; rintro e w1 ⟨rfl, hb⟩)
  go_ret
  exact ⟨rfl, hb⟩
set_option maxHeartbeats 1000000 in
theorem all_fn (b n cap : Nat) (ms : List Value) (ps : List Bool) (g : Nat) (w : World) (hn : n ≤ 100) (hps : ps.length = n) (hc : ∀ k, k < n → w.cell? ⟨b, k, none⟩ = some (ms.getD k undef))
    (hf : ∀ k, k < n → ∀ W, Below w.heap.size w W → Calls Tryz.prog 101 #[ms.getD k undef, .pointer (some ⟨g, 0, none⟩)] W fun e w' => e = .returned (.bool (ps.getD k true)) ∧ Below W.heap.size W w') :
    Calls Tryz.prog 100 #[.slice (some ⟨b, 0, none⟩) n cap, .func (.func 101) #[] #[.pointer (some ⟨g, 0, none⟩)]] w fun e w' => e = .returned (.bool (ps.all id)) ∧ Below w.heap.size w w' := by
  have HC := Go.Lib.hid hc
  have HF := Go.Lib.hid hf
  have HL := Go.Lib.hid hps
  clear hc hf hps
  go_enter Tryz.func100, Tryz.ntmps100
  go_wp2
  go_loopw [9] (fun iv wr => ∃ k : Nat, k ≤ n ∧ iv = .int .i64 k ∧ (ps.take k).all id = true ∧ Below w.heap.size w wr) (fun iv _ => n - (intOf iv).toNat)
  case atStart => exact ⟨0, Nat.zero_le _, rfl, rfl, Below.refl _ _⟩
  case round =>
    obtain ⟨k, hk, rfl, ht, hb⟩ := hrel
    have HTK := Go.Lib.hid ht
    have HB := Go.Lib.hid hb
    clear ht hb
    by_cases hlt : k < n
    · have hkl : k < ps.length := by rw [HL.out]; exact hlt
      have c0 := keep_cell HB.out (HC.out k hlt)
      have C := HF.out k hlt wr HB.out
      have H1 : Hid ((ps.take (k + 1)).all id = ((ps.take k).all id && ps.getD k true)) := by
        show _ = _
        rw [List.take_succ_eq_append_getElem hkl, getD_in _ _ hkl, List.all_append]
        simp only [List.all_cons, List.all_nil, Bool.and_true, id]
      have H2 : Hid (ps.getD k true = false → ps.all id = false) := fun h => by
        rw [List.all_eq_false]
        exact ⟨_, List.getElem_mem hkl, by rw [getD_in _ _ hkl] at h; simpa using h⟩
      clear hkl
      generalize ps.getD k true = q at *
      generalize ms.getD k undef = mv at *
      cases q
      · go_wp2_with (go_at_call 101; refine C.mono ?_; rintro e w1 ⟨rfl, hb1⟩)
        go_ret
        exact ⟨ret_bool (H2.out (by first | rfl | trivial)).symm, HB.out.trans (hb1.mono HB.out.size)⟩
      · go_wp2_with (go_at_call 101; refine C.mono ?_; rintro e w1 ⟨rfl, hb1⟩)
        exact ⟨⟨k + 1, by omega, by go_num, by rw [H1.out, HTK.out]; rfl, HB.out.trans (hb1.mono HB.out.size)⟩, by simp [intOf]; omega⟩
    · obtain rfl : n = k := by omega
      have HE : Hid (ps.all id = true) := by have := HTK.out; rw [List.take_of_length_le (by rw [HL.out]; exact Nat.le_refl _)] at this; exact this
      go_wp2
      go_ret
      exact ⟨ret_bool HE.out.symm, HB.out⟩
def patM : List Value := [.func (.func 102) #[] #[], .func (.func 103) #[] #[], .func (.func 104) #[] #[], .func (.func 105) #[] #[], .func (.func 106) #[] #[]]
def patPs (c : Cust) (d : Int) : List Bool := [(c.kind == 1), (withinB c.demand 1 2147483648), (withinB c.pats.length 1 64), (timelyB c.pats d), (c.rate == 0 && c.size == 0 && c.start == 0 && c.rule == 0 && c.hold == 0)]
def patB (c : Cust) (d : Int) : Bool := (patPs c d).all id
theorem pat_is1 {w : World} {g : Nat} {c : Cust} {A : Option Addr} {k : Nat} {d : Int} (h : CustIn w g c A k d) (j : Nat) (hj : j < 5) (W : World) (hb : Below w.heap.size w W) :
    Calls Tryz.prog 101 #[patM.getD j undef, .pointer (some ⟨g, 0, none⟩)] W fun e w' => e = .returned (.bool ((patPs c d).getD j true)) ∧ Below W.heap.size W w' := by
  match j, hj with
  | 0, _ => exact is1_periodic (h.keep hb)
  | 1, _ => exact is1_demands (h.keep hb)
  | 2, _ => exact is1_chooses (h.keep hb)
  | 3, _ => exact is1_timely (h.keep hb)
  | 4, _ => exact is1_tankless (h.keep hb)
theorem pat_is (c : Cust) (A : Option Addr) (k : Nat) (d : Int) (b cap : Nat) (w : World) (hT : Tab w) (hc : c.Wf) (hn : Nums .u64 w A c.pats.length c.pats) (wd : W64 d) (hm : ∀ j, j < 5 → w.cell? ⟨b, j, none⟩ = some (patM.getD j undef)) :
    Calls Tryz.prog 89 #[clientV c A k d, .slice (some ⟨b, 0, none⟩) 5 cap] w fun e w' => e = .returned (.bool (patB c d)) ∧ Below w.heap.size w w' := by
  have hmf : ∀ (fn : Fn) (first cap : Array Value) (w : World), (Instr.makeFunc fn first cap).run Tryz.prog w = .ok (.func fn first cap) w := fun _ _ _ _ => rfl
  have hb := below_alloc w (.cells #[.int .i64 c.kind, .int .i64 c.demand, .slice A c.pats.length k, .int .i64 c.rate, .int .i64 c.size, .int .i64 c.start, .int .i64 c.rule, .int .i64 c.hold, .int .i64 d] 105)
  have K : CustIn (w.alloc (.cells #[.int .i64 c.kind, .int .i64 c.demand, .slice A c.pats.length k, .int .i64 c.rate, .int .i64 c.size, .int .i64 c.start, .int .i64 c.rule, .int .i64 c.hold, .int .i64 d] 105)) w.heap.size c A k d := ⟨hT.keep hb, BlkIs.fresh _ _ _, hc, hn.keep hb, wd⟩
  have C := all_fn b 5 cap patM (patPs c d) w.heap.size _ (by omega) rfl (fun j hj => keep_cell hb (hm j hj)) (fun j hj W hW => pat_is1 K j hj W hW)
  unfold clientV patB
  obtain ⟨q, hq⟩ : ∃ q, q = (patPs c d).all id := ⟨_, rfl⟩
  rw [← hq] at C ⊢
  clear hT hc hn wd hm K hq
  go_enter Tryz.func89, Tryz.ntmps89
  go_wp2_with (go_at_call 100; refine C.mono ?_; rintro e w1 ⟨rfl, hb1⟩)
  go_ret
  exact ⟨rfl, hb.trans (hb1.mono hb.size)⟩
theorem patterned_any (w : World) : Calls Tryz.prog 90 #[] w fun e w' => ∃ b, e = .returned (.slice (some ⟨b, 0, none⟩) 5 5) ∧ (∀ j, j < 5 → w'.cell? ⟨b, j, none⟩ = some (patM.getD j undef)) ∧ Below w.heap.size w w' := by
  have J := BlkIs.fresh w 136 #[.func (.func 102) #[] #[], .func (.func 103) #[] #[], .func (.func 104) #[] #[], .func (.func 105) #[] #[], .func (.func 106) #[] #[]]
  have HJ : Hid (∀ j, j < 5 → (w.alloc (.cells #[.func (.func 102) #[] #[], .func (.func 103) #[] #[], .func (.func 104) #[] #[], .func (.func 105) #[] #[], .func (.func 106) #[] #[]] 136)).cell? ⟨w.heap.size, j, none⟩ = some (patM.getD j undef)) := fun j hj => by
    rw [J.cellAt]
    match j, hj with
    | 0, _ => rfl
    | 1, _ => rfl
    | 2, _ => rfl
    | 3, _ => rfl
    | 4, _ => rfl
  clear J
  go_enter Tryz.func90, Tryz.ntmps90
  go_wp2
  go_ret
  exact ⟨_, rfl, HJ.out, below_alloc _ _⟩
def tanM : List Value := [.func (.func 107) #[] #[], .func (.func 108) #[] #[], .func (.func 109) #[] #[], .func (.func 110) #[] #[], .func (.func 111) #[] #[], .func (.func 112) #[] #[], .func (.func 113) #[] #[]]
def tanPs (c : Cust) (d : Int) : List Bool := [(c.kind == 2), (sizeB c.rate), (withinB c.size 1 2147483648), (withinB c.start 0 c.size), (c.rule == 1 || c.rule == 2), (withinB c.hold 0 1024), (c.demand == 0 && (c.pats.length : Int) == 0)]
def tanB (c : Cust) (d : Int) : Bool := (tanPs c d).all id
theorem tan_is1 {w : World} {g : Nat} {c : Cust} {A : Option Addr} {k : Nat} {d : Int} (h : CustIn w g c A k d) (j : Nat) (hj : j < 7) (W : World) (hb : Below w.heap.size w W) :
    Calls Tryz.prog 101 #[tanM.getD j undef, .pointer (some ⟨g, 0, none⟩)] W fun e w' => e = .returned (.bool ((tanPs c d).getD j true)) ∧ Below W.heap.size W w' := by
  match j, hj with
  | 0, _ => exact is1_tank (h.keep hb)
  | 1, _ => exact is1_takes (h.keep hb)
  | 2, _ => exact is1_stores (h.keep hb)
  | 3, _ => exact is1_begins (h.keep hb)
  | 4, _ => exact is1_ruled (h.keep hb)
  | 5, _ => exact is1_holds (h.keep hb)
  | 6, _ => exact is1_patternless (h.keep hb)
theorem tan_is (c : Cust) (A : Option Addr) (k : Nat) (d : Int) (b cap : Nat) (w : World) (hT : Tab w) (hc : c.Wf) (hn : Nums .u64 w A c.pats.length c.pats) (wd : W64 d) (hm : ∀ j, j < 7 → w.cell? ⟨b, j, none⟩ = some (tanM.getD j undef)) :
    Calls Tryz.prog 89 #[clientV c A k d, .slice (some ⟨b, 0, none⟩) 7 cap] w fun e w' => e = .returned (.bool (tanB c d)) ∧ Below w.heap.size w w' := by
  have hmf : ∀ (fn : Fn) (first cap : Array Value) (w : World), (Instr.makeFunc fn first cap).run Tryz.prog w = .ok (.func fn first cap) w := fun _ _ _ _ => rfl
  have hb := below_alloc w (.cells #[.int .i64 c.kind, .int .i64 c.demand, .slice A c.pats.length k, .int .i64 c.rate, .int .i64 c.size, .int .i64 c.start, .int .i64 c.rule, .int .i64 c.hold, .int .i64 d] 105)
  have K : CustIn (w.alloc (.cells #[.int .i64 c.kind, .int .i64 c.demand, .slice A c.pats.length k, .int .i64 c.rate, .int .i64 c.size, .int .i64 c.start, .int .i64 c.rule, .int .i64 c.hold, .int .i64 d] 105)) w.heap.size c A k d := ⟨hT.keep hb, BlkIs.fresh _ _ _, hc, hn.keep hb, wd⟩
  have C := all_fn b 7 cap tanM (tanPs c d) w.heap.size _ (by omega) rfl (fun j hj => keep_cell hb (hm j hj)) (fun j hj W hW => tan_is1 K j hj W hW)
  unfold clientV tanB
  obtain ⟨q, hq⟩ : ∃ q, q = (tanPs c d).all id := ⟨_, rfl⟩
  rw [← hq] at C ⊢
  clear hT hc hn wd hm K hq
  go_enter Tryz.func89, Tryz.ntmps89
  go_wp2_with (go_at_call 100; refine C.mono ?_; rintro e w1 ⟨rfl, hb1⟩)
  go_ret
  exact ⟨rfl, hb.trans (hb1.mono hb.size)⟩
theorem tanked_any (w : World) : Calls Tryz.prog 91 #[] w fun e w' => ∃ b, e = .returned (.slice (some ⟨b, 0, none⟩) 7 7) ∧ (∀ j, j < 7 → w'.cell? ⟨b, j, none⟩ = some (tanM.getD j undef)) ∧ Below w.heap.size w w' := by
  have J := BlkIs.fresh w 136 #[.func (.func 107) #[] #[], .func (.func 108) #[] #[], .func (.func 109) #[] #[], .func (.func 110) #[] #[], .func (.func 111) #[] #[], .func (.func 112) #[] #[], .func (.func 113) #[] #[]]
  have HJ : Hid (∀ j, j < 7 → (w.alloc (.cells #[.func (.func 107) #[] #[], .func (.func 108) #[] #[], .func (.func 109) #[] #[], .func (.func 110) #[] #[], .func (.func 111) #[] #[], .func (.func 112) #[] #[], .func (.func 113) #[] #[]] 136)).cell? ⟨w.heap.size, j, none⟩ = some (tanM.getD j undef)) := fun j hj => by
    rw [J.cellAt]
    match j, hj with
    | 0, _ => rfl
    | 1, _ => rfl
    | 2, _ => rfl
    | 3, _ => rfl
    | 4, _ => rfl
    | 5, _ => rfl
    | 6, _ => rfl
  clear J
  go_enter Tryz.func91, Tryz.ntmps91
  go_wp2
  go_ret
  exact ⟨_, rfl, HJ.out, below_alloc _ _⟩
end Go.Proofs.YtliomhkgkabbbaaGreatDoor
end
section
/- Which customers may be, off the code. -/
namespace Go.Proofs.YtliomhkgkabbbaaGreatDoor
open Go.RowKit
set_option linter.unusedVariables false
/-- A customer may be, of one kind or of the other. -/
def mayC (c : Cust) (d : Int) : Bool := patB c d || tanB c d
theorem box_arm {W W' : World} {g : Nat} {c : Cust} {A : Option Addr} {k : Nat} {d : Int} (h : ClientBox W g c A k d) (hb : Below W.heap.size W W') : ClientBox W' g c A k d := BlkIs.below h hb h.lt
set_option maxHeartbeats 2000000 in
theorem may_any (c : Cust) (A : Option Addr) (k : Nat) (d : Int) (w : World) (hT : Tab w) (hc : c.Wf) (hn : Nums .u64 w A c.pats.length c.pats) (wd : W64 d) :
    Calls Tryz.prog 69 #[clientV c A k d] w fun e w' => e = .returned (.bool (mayC c d)) ∧ Below w.heap.size w w' := by
  have HT := Go.Lib.hid hT
  have HC := Go.Lib.hid hc
  have HN := Go.Lib.hid hn
  have HW := Go.Lib.hid wd
  have hb0 := below_alloc w (.cells #[.int .i64 c.kind, .int .i64 c.demand, .slice A c.pats.length k, .int .i64 c.rate, .int .i64 c.size, .int .i64 c.start, .int .i64 c.rule, .int .i64 c.hold, .int .i64 d] 105)
  have J0 : ClientBox (w.alloc (.cells #[.int .i64 c.kind, .int .i64 c.demand, .slice A c.pats.length k, .int .i64 c.rate, .int .i64 c.size, .int .i64 c.start, .int .i64 c.rule, .int .i64 c.hold, .int .i64 d] 105)) w.heap.size c A k d := BlkIs.fresh _ _ _
  have CP := fun b W (hb : Below w.heap.size w W) hm => pat_is c A k d b 5 W (HT.out.keep hb) HC.out (HN.out.keep hb) HW.out hm
  have CT := fun b W (hb : Below w.heap.size w W) hm => tan_is c A k d b 7 W (HT.out.keep hb) HC.out (HN.out.keep hb) HW.out hm
  unfold clientV at *
  unfold mayC
  clear hT hc hn wd
  generalize patB c d = p at *
  generalize tanB c d = t at *
  obtain ⟨j0, j1, j2, j3, j4, j5, j6, j7, j8⟩ := BlkIs.cells9 J0
  have HJ := Go.Lib.hid (box_arm J0 (below_drew _))
  have HB := Go.Lib.hid hb0.drew
  clear J0 hb0
  cases p
  · go_enter Tryz.func69, Tryz.ntmps69
    go_wp2_with fail
    go_region_held3 (fun w' => w'.cell? ⟨w.heap.size, 0, none⟩ = some (.int .i64 c.kind) ∧ w'.cell? ⟨w.heap.size, 1, none⟩ = some (.int .i64 c.demand) ∧ w'.cell? ⟨w.heap.size, 2, none⟩ = some (.slice A c.pats.length k) ∧ w'.cell? ⟨w.heap.size, 3, none⟩ = some (.int .i64 c.rate) ∧ w'.cell? ⟨w.heap.size, 4, none⟩ = some (.int .i64 c.size) ∧ w'.cell? ⟨w.heap.size, 5, none⟩ = some (.int .i64 c.start) ∧ w'.cell? ⟨w.heap.size, 6, none⟩ = some (.int .i64 c.rule) ∧ w'.cell? ⟨w.heap.size, 7, none⟩ = some (.int .i64 c.hold) ∧ w'.cell? ⟨w.heap.size, 8, none⟩ = some (.int .i64 d))
      (first | exact ⟨j0, j1, j2, j3, j4, j5, j6, j7, j8⟩ | exact BlkIs.cells9 HJ.out | go_keep)
      (first
        | (go_at_call 90; refine (patterned_any _).mono ?_; rintro e w1 ⟨b1, rfl, hm1, hb1⟩; have HJ1 := Go.Lib.hid (box_arm HJ.out hb1); have HB1 := Go.Lib.hid (HB.out.trans (hb1.mono HB.out.size)); have HM1 := Go.Lib.hid hm1; clear HJ HB; have HJ := HJ1; have HB := HB1; clear HJ1 HB1 hb1 hm1)
        | (go_at_call 91; refine (tanked_any _).mono ?_; rintro e w1 ⟨b2, rfl, hm1, hb1⟩; have HJ1 := Go.Lib.hid (box_arm HJ.out hb1); have HB1 := Go.Lib.hid (HB.out.trans (hb1.mono HB.out.size)); have HM2 := Go.Lib.hid hm1; clear HJ HB; have HJ := HJ1; have HB := HB1; clear HJ1 HB1 hb1 hm1)
        | (go_at_call 89; (first | (with_reducible refine (CP _ _ HB.out HM1.out).mono ?_) | (with_reducible refine (CT _ _ HB.out HM2.out).mono ?_)); rintro e w1 ⟨rfl, hb1⟩; have HJ1 := Go.Lib.hid (box_arm HJ.out hb1); have HB1 := Go.Lib.hid (HB.out.trans (hb1.mono HB.out.size)); clear HJ HB; have HJ := HJ1; have HB := HB1; clear HJ1 HB1 hb1))
    all_goals
      go_wp2
      go_ret
      exact ⟨ret_bool (by simp), HB.out⟩
  · go_enter Tryz.func69, Tryz.ntmps69
    go_wp2_with fail
    go_region_with
      (first
        | (go_at_call 90; refine (patterned_any _).mono ?_; rintro e w1 ⟨b1, rfl, hm1, hb1⟩; have HJ1 := Go.Lib.hid (box_arm HJ.out hb1); have HB1 := Go.Lib.hid (HB.out.trans (hb1.mono HB.out.size)); have HM1 := Go.Lib.hid hm1; clear HJ HB; have HJ := HJ1; have HB := HB1; clear HJ1 HB1 hb1 hm1; obtain ⟨k0, k1, k2, k3, k4, k5, k6, k7, k8⟩ := BlkIs.cells9 HJ.out)
        | (go_at_call 91; refine (tanked_any _).mono ?_; rintro e w1 ⟨b2, rfl, hm1, hb1⟩; have HJ1 := Go.Lib.hid (box_arm HJ.out hb1); have HB1 := Go.Lib.hid (HB.out.trans (hb1.mono HB.out.size)); have HM2 := Go.Lib.hid hm1; clear HJ HB; have HJ := HJ1; have HB := HB1; clear HJ1 HB1 hb1 hm1; obtain ⟨k0, k1, k2, k3, k4, k5, k6, k7, k8⟩ := BlkIs.cells9 HJ.out)
        | (go_at_call 89; (first | (with_reducible refine (CP _ _ HB.out HM1.out).mono ?_) | (with_reducible refine (CT _ _ HB.out HM2.out).mono ?_)); rintro e w1 ⟨rfl, hb1⟩; have HJ1 := Go.Lib.hid (box_arm HJ.out hb1); have HB1 := Go.Lib.hid (HB.out.trans (hb1.mono HB.out.size)); clear HJ HB; have HJ := HJ1; have HB := HB1; clear HJ1 HB1 hb1; obtain ⟨k0, k1, k2, k3, k4, k5, k6, k7, k8⟩ := BlkIs.cells9 HJ.out))
    all_goals
      go_wp2
      go_ret
      exact ⟨ret_bool (by simp), HB.out⟩
end Go.Proofs.YtliomhkgkabbbaaGreatDoor
end
section
/- Which customers may be, off the document's code. -/
namespace Go.Proofs.YtliomhkgkabbbaaGreatDoor
open Go.RowKit
set_option linter.unusedVariables false
/-- What is asked of a customer's tank. -/
def TankP (c : Cust) (n : Nat) : Prop := c.kind = 2 ∧ 0 ≤ c.rate ∧ c.rate ≤ 2147483648 ∧ 1 ≤ c.size ∧ c.size ≤ 2147483648 ∧ 0 ≤ c.start ∧ c.start ≤ c.size ∧ (c.rule = 1 ∨ c.rule = 2) ∧ 0 ≤ c.hold ∧ c.hold ≤ 1024 ∧ c.demand = 0 ∧ n = 0
instance (c : Cust) (n : Nat) : Decidable (TankP c n) := by unfold TankP; infer_instance
/-- What is asked of a customer with patterns, but for their days. -/
def PatP (c : Cust) (n : Nat) : Prop := 1 ≤ c.demand ∧ c.demand ≤ 2147483648 ∧ 1 ≤ n ∧ n ≤ 64 ∧ c.rate = 0 ∧ c.size = 0 ∧ c.start = 0 ∧ c.rule = 0 ∧ c.hold = 0
theorem mayC_two {c : Cust} {d : Int} (hk : c.kind ≠ 1) : mayC c d = decide (TankP c c.pats.length) := by
  have h1 : patB c d = false := by
    unfold patB patPs
    simp [beq_eq_false_iff_ne.2 hk]
  unfold mayC
  rw [h1, Bool.false_or, Bool.eq_iff_iff, decide_eq_true_iff]
  unfold tanB tanPs sizeB withinB TankP
  generalize c.pats.length = n
  simp
  omega
theorem mayC_one {c : Cust} {d : Int} (hk : c.kind = 1) : mayC c d = true ↔ PatP c c.pats.length ∧ timelyB c.pats d = true := by
  have h2 : tanB c d = false := by
    unfold tanB tanPs
    simp [hk]
  unfold mayC
  rw [h2, Bool.or_false]
  unfold patB patPs withinB PatP
  by_cases ht : timelyB c.pats d = true
  · generalize c.pats.length = n
    simp [hk, ht]
    omega
  · simp [hk, ht]
set_option maxRecDepth 100000 in
set_option maxHeartbeats 4000000 in
theorem customer_two (c : Cust) (A : Option Addr) (k : Nat) (d : Int) (w : World) (hc : c.Wf) (hk : c.kind ≠ 1) :
    Calls Tryz.prog 35 #[custV c A k, .int .i64 d] w fun e w' => e = .returned (.bool (mayC c d)) ∧ Below w.heap.size w w' := by
  have hb := below_alloc w (.cells #[.int .i64 c.kind, .int .i64 c.demand, .slice A c.pats.length k, .int .i64 c.rate, .int .i64 c.size, .int .i64 c.start, .int .i64 c.rule, .int .i64 c.hold] 41)
  rw [mayC_two hk]
  have hk1 : (c.kind == 1) = false := beq_eq_false_iff_ne.2 hk
  have hl := hc.len
  unfold maxLen at hl
  unfold custV
  clear hc hk hb
  generalize c.pats.length = n at *
  obtain ⟨q, hq⟩ : ∃ q, q = decide (TankP c n) := ⟨_, rfl⟩
  have HQ := Go.Lib.hid hq
  rw [← hq]
  clear hq
  have hd : (c.demand = 0 ∧ (c.demand != 0) = false) ∨ (c.demand ≠ 0 ∧ (c.demand != 0) = true) := by
    by_cases h : c.demand = 0
    · exact .inl ⟨h, by rw [h]; rfl⟩
    · exact .inr ⟨h, bne_iff_ne.2 h⟩
  rcases hd with ⟨hd1, hd2⟩ | ⟨hd1, hd2⟩
  all_goals
    go_enter Tryz.func35, Tryz.ntmps35
    go_wp2
  all_goals
    go_ret
    refine ⟨ret_bool ?_, below_alloc _ _⟩
    rw [HQ.out]
    first
      | exact (decide_eq_false (by unfold TankP; omega)).symm
      | exact (decide_eq_true (by unfold TankP; omega)).symm
      | (unfold TankP; exact decide_eq_decide.2 (by omega))
      | (rw [Bool.eq_iff_iff]; unfold TankP; simp; omega)
end Go.Proofs.YtliomhkgkabbbaaGreatDoor
end
section
/- Which customers with patterns may be, off the document's code. -/
namespace Go.Proofs.YtliomhkgkabbbaaGreatDoor
open Go.RowKit
set_option linter.unusedVariables false
set_option maxRecDepth 100000 in
set_option maxHeartbeats 4000000 in
theorem customer_one (c : Cust) (A : Option Addr) (k : Nat) (d : Int) (w : World) (hc : c.Wf) (hn : Nums .u64 w A c.pats.length c.pats) (hk : c.kind = 1) :
    Calls Tryz.prog 35 #[custV c A k, .int .i64 d] w fun e w' => e = .returned (.bool (mayC c d)) ∧ Below w.heap.size w w' := by
  have hb := below_alloc w (.cells #[.int .i64 c.kind, .int .i64 c.demand, .slice A c.pats.length k, .int .i64 c.rate, .int .i64 c.size, .int .i64 c.start, .int .i64 c.rule, .int .i64 c.hold] 41)
  have hk1 : (c.kind == 1) = true := beq_iff_eq.2 hk
  have hl := hc.len
  unfold maxLen at hl
  have no : ¬ PatP c c.pats.length → mayC c d = false := fun h => by
    cases hm : mayC c d
    · rfl
    · exact absurd ((mayC_one hk).1 hm).1 h
  unfold custV
  by_cases h0 : 1 ≤ c.demand
  case neg =>
    rw [no (fun h => h0 h.1)]
    clear hc hn hk no hb
    go_enter Tryz.func35, Tryz.ntmps35
    go_wp2
    go_ret
    exact ⟨rfl, below_alloc _ _⟩
  by_cases h1 : c.demand ≤ 2147483648
  case neg =>
    rw [no (fun h => h1 h.2.1)]
    clear hc hn hk no hb
    go_enter Tryz.func35, Tryz.ntmps35
    go_wp2
    go_ret
    exact ⟨rfl, below_alloc _ _⟩
  by_cases h2 : 1 ≤ c.pats.length
  case neg =>
    rw [no (fun h => h2 h.2.2.1)]
    clear hc hn hk no hb
    have z : (c.pats.length : Int) < 1 := by omega
    go_enter Tryz.func35, Tryz.ntmps35
    go_wp2
    go_ret
    exact ⟨rfl, below_alloc _ _⟩
  have z1 : (1 : Int) ≤ (c.pats.length : Int) := by omega
  by_cases h3 : c.pats.length ≤ 64
  case neg =>
    rw [no (fun h => h3 h.2.2.2.1)]
    clear hc hn hk no hb
    have z : (64 : Int) < (c.pats.length : Int) := by omega
    go_enter Tryz.func35, Tryz.ntmps35
    go_wp2
    go_ret
    exact ⟨rfl, below_alloc _ _⟩
  have z2 : (c.pats.length : Int) ≤ 64 := by omega
  by_cases h4 : c.rate = 0
  case neg =>
    rw [no (fun h => h4 h.2.2.2.2.1)]
    have n4 : (c.rate != 0) = true := bne_iff_ne.2 h4
    clear hc hn hk no hb
    go_enter Tryz.func35, Tryz.ntmps35
    go_wp2
    go_ret
    exact ⟨rfl, below_alloc _ _⟩
  have n4 : (c.rate != 0) = false := by rw [h4]; rfl
  by_cases h5 : c.size = 0
  case neg =>
    rw [no (fun h => h5 h.2.2.2.2.2.1)]
    have n5 : (c.size != 0) = true := bne_iff_ne.2 h5
    clear hc hn hk no hb
    go_enter Tryz.func35, Tryz.ntmps35
    go_wp2
    go_ret
    exact ⟨rfl, below_alloc _ _⟩
  have n5 : (c.size != 0) = false := by rw [h5]; rfl
  by_cases h6 : c.start = 0
  case neg =>
    rw [no (fun h => h6 h.2.2.2.2.2.2.1)]
    have n6 : (c.start != 0) = true := bne_iff_ne.2 h6
    clear hc hn hk no hb
    go_enter Tryz.func35, Tryz.ntmps35
    go_wp2
    go_ret
    exact ⟨rfl, below_alloc _ _⟩
  have n6 : (c.start != 0) = false := by rw [h6]; rfl
  by_cases h7 : c.rule = 0
  case neg =>
    rw [no (fun h => h7 h.2.2.2.2.2.2.2.1)]
    have n7 : (c.rule != 0) = true := bne_iff_ne.2 h7
    clear hc hn hk no hb
    go_enter Tryz.func35, Tryz.ntmps35
    go_wp2
    go_ret
    exact ⟨rfl, below_alloc _ _⟩
  have n7 : (c.rule != 0) = false := by rw [h7]; rfl
  by_cases h8 : c.hold = 0
  case neg =>
    rw [no (fun h => h8 h.2.2.2.2.2.2.2.2)]
    have n8 : (c.hold != 0) = true := bne_iff_ne.2 h8
    clear hc hn hk no hb
    go_enter Tryz.func35, Tryz.ntmps35
    go_wp2
    go_ret
    exact ⟨rfl, below_alloc _ _⟩
  have n8 : (c.hold != 0) = false := by rw [h8]; rfl
  have em : mayC c d = timelyB c.pats d := by
    rw [Bool.eq_iff_iff, mayC_one hk]
    exact ⟨fun h => h.2, fun h => ⟨⟨h0, h1, h2, h3, h4, h5, h6, h7, h8⟩, h⟩⟩
  rw [em]
  have HN := Go.Lib.hid hn
  have HP := Go.Lib.hid hc.pats
  have J := BlkIs.fresh w 41 #[.int .i64 c.kind, .int .i64 c.demand, .slice A c.pats.length k, .int .i64 c.rate, .int .i64 c.size, .int .i64 c.start, .int .i64 c.rule, .int .i64 c.hold]
  have HJ := Go.Lib.hid J
  clear hc hn hk no em h4 h5 h6 h7 h8 J
  go_enter Tryz.func35, Tryz.ntmps35
  go_wp2
  clear n4 n5 n6 n7 n8 hk1
  go_loopw [5] (fun iv wr => ∃ i : Nat, i ≤ c.pats.length ∧ iv = .int .i64 i ∧ timelyB (c.pats.take i) d = true ∧ BlkIs wr w.heap.size 41 #[.int .i64 c.kind, .int .i64 c.demand, .slice A c.pats.length k, .int .i64 c.rate, .int .i64 c.size, .int .i64 c.start, .int .i64 c.rule, .int .i64 c.hold] ∧ Below w.heap.size w wr) (fun iv _ => c.pats.length - (intOf iv).toNat)
  case atStart => exact ⟨0, Nat.zero_le _, rfl, rfl, HJ.out, hb⟩
  case round =>
    clear hb HJ
    obtain ⟨i, hi, rfl, ht, hJ, hB⟩ := hrel
    have HTK := Go.Lib.hid ht
    have HB := Go.Lib.hid hB
    have HJ := Go.Lib.hid hJ
    obtain ⟨j0, j1, j2, j3, j4, j5, j6, j7⟩ := hJ.cells8
    clear ht hB hJ
    by_cases hlt : i < c.pats.length
    · obtain ⟨b, off, rfl, hce⟩ := HN.out.2 (by omega)
      have c0 := keep_cell HB.out (hce i hlt)
      have hpp := HP.out _ (List.getElem_mem hlt)
      have hs : ∃ s : Nat, c.pats.getD i 0 = (s : Int) ∧ s < 2 ^ 64 := ⟨(c.pats.getD i 0).toNat, by rw [getD_in _ _ hlt]; omega, by rw [getD_in _ _ hlt]; omega⟩
      obtain ⟨s, hs1, hs2⟩ := hs
      have C := fun W => next_ref s hs2 d W
      have H1 : Hid (timelyB (c.pats.take (i + 1)) d = (timelyB (c.pats.take i) d && decide (nextI s d < 0))) := by show _ = _; rw [timelyB_take hlt, hs1, Int.toNat_natCast]
      have H2 : Hid (decide (nextI s d < 0) = false → timelyB c.pats d = false) := fun h => timelyB_no hlt (by rw [hs1, Int.toNat_natCast]; exact h)
      rw [hs1] at c0
      clear hce hpp hs1 hs2
      generalize nextI s d = q at *
      by_cases hq : q < 0
      · have hq2 : ¬ 0 ≤ q := by omega
        go_wp2_with (go_at_call 63; refine (C _).mono ?_; rintro e w1 ⟨rfl, hb1⟩)
        exact ⟨⟨i + 1, by omega, by go_num, by rw [H1.out, HTK.out, decide_eq_true hq]; rfl, HJ.out.below hb1 HJ.out.lt, HB.out.trans (hb1.mono HB.out.size)⟩, by simp [intOf]; omega⟩
      · have hq2 : 0 ≤ q := by omega
        go_wp2_with (go_at_call 63; refine (C _).mono ?_; rintro e w1 ⟨rfl, hb1⟩)
        go_ret
        exact ⟨ret_bool (H2.out (decide_eq_false (by omega))).symm, HB.out.trans (hb1.mono HB.out.size)⟩
    · obtain rfl : i = c.pats.length := by omega
      have HE : Hid (timelyB c.pats d = true) := by have := HTK.out; rw [List.take_length] at this; exact this
      go_wp2
      go_ret
      exact ⟨ret_bool HE.out.symm, HB.out⟩
theorem customer_any (c : Cust) (A : Option Addr) (k : Nat) (d : Int) (w : World) (hc : c.Wf) (hn : Nums .u64 w A c.pats.length c.pats) :
    Calls Tryz.prog 35 #[custV c A k, .int .i64 d] w fun e w' => e = .returned (.bool (mayC c d)) ∧ Below w.heap.size w w' := by
  by_cases hk : c.kind = 1
  · exact customer_one c A k d w hc hn hk
  · exact customer_two c A k d w hc hk
end Go.Proofs.YtliomhkgkabbbaaGreatDoor
end
section
/- Which instances may be, off the code: the customers, and the numbers. -/
namespace Go.Proofs.YtliomhkgkabbbaaGreatDoor
open Go.RowKit
set_option linter.unusedVariables false
set_option maxHeartbeats 1000000 in
theorem peopled1_any (c : Cust) (A : Option Addr) (k : Nat) (d : Int) (g : Nat) (w : World) (hT : Tab w) (hc : c.Wf) (hn : Nums .u64 w A c.pats.length c.pats) (wd : W64 d) (hg : w.cell? ⟨g, 0, none⟩ = some (.int .i64 d)) :
    Calls Tryz.prog 68 #[custV c A k, .pointer (some ⟨g, 0, none⟩)] w fun e w' => e = .returned (.bool (mayC c d)) ∧ Below w.heap.size w w' := by
  have hb := below_alloc w (.cells #[.int .i64 c.kind, .int .i64 c.demand, .slice A c.pats.length k, .int .i64 c.rate, .int .i64 c.size, .int .i64 c.start, .int .i64 c.rule, .int .i64 c.hold] 41)
  have C := may_any c A k d _ (hT.keep hb) hc (hn.keep hb) wd
  have hg2 := keep_cell hb hg
  obtain ⟨q, hq⟩ : ∃ q, q = mayC c d := ⟨_, rfl⟩
  rw [← hq] at C ⊢
  unfold clientV at C
  unfold custV
  clear hT hc hn wd hq
  go_enter Tryz.func68, Tryz.ntmps68
  go_wp2_with (go_at_call 69; refine C.mono ?_; rintro e w1 ⟨rfl, hb1⟩)
  go_ret
  exact ⟨rfl, hb.trans (hb1.mono hb.size)⟩
theorem all_take {α : Type} (l : List α) (p : α → Bool) {k : Nat} (hk : k < l.length) : (l.take (k + 1)).all p = ((l.take k).all p && p l[k]) := by
  rw [List.take_succ_eq_append_getElem hk, List.all_append]
  simp only [List.all_cons, List.all_nil, Bool.and_true]
theorem all_no {α : Type} (l : List α) (p : α → Bool) {k : Nat} (hk : k < l.length) (h : p l[k] = false) : l.all p = false := by
  rw [List.all_eq_false]
  exact ⟨_, List.getElem_mem hk, by simpa using h⟩
set_option maxHeartbeats 2000000 in
theorem all_cust (A : Option Addr) (n r : Nat) (l : List Cust) (g : Nat) (d : Int) (w : World) (hT : Tab w) (hl : CustsIs w A l) (hw : ∀ c ∈ l, c.Wf) (hn : l.length = n) (hm : n ≤ maxLen) (wd : W64 d) (hg : w.cell? ⟨g, 0, none⟩ = some (.int .i64 d)) :
    Calls Tryz.prog 67 #[.slice A n r, .func (.func 68) #[] #[.pointer (some ⟨g, 0, none⟩)]] w fun e w' => e = .returned (.bool (l.all fun c => mayC c d)) ∧ Below w.heap.size w w' := by
  have HT := Go.Lib.hid hT
  have HC := Go.Lib.hid hl
  have HWF := Go.Lib.hid hw
  have HG := Go.Lib.hid hg
  have HW := Go.Lib.hid wd
  have HL := Go.Lib.hid hn
  unfold maxLen at hm
  clear hT hl hw hg wd hn
  go_enter Tryz.func67, Tryz.ntmps67
  go_wp2
  go_loopw [9] (fun iv wr => ∃ k : Nat, k ≤ n ∧ iv = .int .i64 k ∧ (l.take k).all (fun c => mayC c d) = true ∧ Below w.heap.size w wr) (fun iv _ => n - (intOf iv).toNat)
  case atStart => exact ⟨0, Nat.zero_le _, rfl, rfl, Below.refl _ _⟩
  case round =>
    obtain ⟨k, hk, rfl, ht, hb⟩ := hrel
    have HTK := Go.Lib.hid ht
    have HB := Go.Lib.hid hb
    clear ht hb
    by_cases hlt : k < n
    · have hkl : k < l.length := by rw [HL.out]; exact hlt
      obtain ⟨b, off, P, kp, rfl, hca, hnp, hkp⟩ := HC.out k hkl
      have hcw := HWF.out _ (List.getElem_mem hkl)
      have H1 : Hid ((l.take (k + 1)).all (fun c => mayC c d) = ((l.take k).all (fun c => mayC c d) && mayC (l[k]) d)) := all_take l _ hkl
      have H2 : Hid (mayC (l[k]) d = false → l.all (fun c => mayC c d) = false) := fun h => all_no l _ hkl h
      obtain ⟨ci, hci⟩ : ∃ ci, ci = l[k] := ⟨_, rfl⟩
      rw [← hci] at hca hnp hcw H1 H2 hkp
      clear hci
      obtain ⟨e0, e1, e2, e3, e4, e5, e6, e7⟩ := hca.keep HB.out
      have hba := below_alloc wr (.cells #[.int .i64 ci.kind, .int .i64 ci.demand, .slice P ci.pats.length kp, .int .i64 ci.rate, .int .i64 ci.size, .int .i64 ci.start, .int .i64 ci.rule, .int .i64 ci.hold] 41)
      have HB2 := Go.Lib.hid (HB.out.trans (hba.mono HB.out.size))
      have C := peopled1_any ci P kp d g _ (HT.out.keep HB2.out) hcw (hnp.keep HB2.out) HW.out (keep_cell HB2.out HG.out)
      unfold custV at C
      clear hkl hca hnp hcw hkp hba
      generalize mayC ci d = q at *
      cases q
      · go_wp2_with (go_at_call 68; refine C.mono ?_; rintro e w1 ⟨rfl, hb1⟩)
        go_ret
        exact ⟨ret_bool (H2.out (by first | rfl | trivial)).symm, HB2.out.trans (hb1.mono HB2.out.size)⟩
      · go_wp2_with (go_at_call 68; refine C.mono ?_; rintro e w1 ⟨rfl, hb1⟩)
        exact ⟨⟨k + 1, by omega, by go_num, by rw [H1.out, HTK.out]; rfl, HB2.out.trans (hb1.mono HB2.out.size)⟩, by simp [intOf]; omega⟩
    · obtain rfl : n = k := by omega
      have HE : Hid (l.all (fun c => mayC c d) = true) := by have := HTK.out; rw [List.take_of_length_le (by rw [HL.out]; exact Nat.le_refl _)] at this; exact this
      go_wp2
      go_ret
      exact ⟨ret_bool HE.out.symm, HB.out⟩
/-- An instance's customers may be. -/
def peopledB (x : Inst) : Bool := decide (x.custs.length ≤ 2000) && x.custs.all fun c => mayC c x.days
set_option maxHeartbeats 1000000 in
theorem peopled_any (x : Inst) (A : Option Addr) (c : Nat) (B : Option Addr) (d : Nat) (w : World) (hT : Tab w) (h : InstIs w x A B) :
    Calls Tryz.prog 39 #[instV x A c B d] w fun e w' => e = .returned (.bool (peopledB x)) ∧ Below w.heap.size w w' := by
  have hmf : ∀ (fn : Fn) (first cap : Array Value) (w : World), (Instr.makeFunc fn first cap).run Tryz.prog w = .ok (.func fn first cap) w := fun _ _ _ _ => rfl
  have hb := below_alloc w (.cells #[.int .i64 x.days, .int .i64 x.veh, .int .i64 x.cap, .int .i64 x.len, .slice A x.custs.length c, .slice B x.dist.length d] 25)
  have C := all_cust A x.custs.length c x.custs w.heap.size x.days _ (hT.keep hb) (h.custs.keep hb) h.wf.custs rfl h.wf.n h.wf.days (InstBox.fresh w x A c B d).cells.1
  have hn := h.wf.n
  unfold maxLen at hn
  unfold instV
  unfold peopledB
  generalize (x.custs.all fun c => mayC c x.days) = q at *
  clear h hT
  by_cases hl : x.custs.length ≤ 2000
  · have hl2 : ¬ (2000 : Int) < (x.custs.length : Int) := by omega
    rw [decide_eq_true hl, Bool.true_and]
    go_enter Tryz.func39, Tryz.ntmps39
    go_wp2_with (go_at_call 67; refine C.mono ?_; rintro e w1 ⟨rfl, hb1⟩)
    go_ret
    exact ⟨rfl, hb.trans (hb1.mono hb.size)⟩
  · have hl2 : (2000 : Int) < (x.custs.length : Int) := by omega
    rw [decide_eq_false hl, Bool.false_and]
    clear C
    go_enter Tryz.func39, Tryz.ntmps39
    go_wp2
    go_ret
    exact ⟨rfl, hb⟩
/-- An instance's own numbers may be. -/
def sizedB (x : Inst) : Bool := withinB x.days 1 64 && sizeB x.veh && sizeB x.cap && sizeB x.len
theorem sized_any (x : Inst) (A : Option Addr) (c : Nat) (B : Option Addr) (d : Nat) (w : World) :
    Calls Tryz.prog 38 #[instV x A c B d] w fun e w' => e = .returned (.bool (sizedB x)) ∧ Below w.heap.size w w' := by
  have hb := below_alloc w (.cells #[.int .i64 x.days, .int .i64 x.veh, .int .i64 x.cap, .int .i64 x.len, .slice A x.custs.length c, .slice B x.dist.length d] 25)
  have C1 := fun W => within_any x.days 1 64 W
  have C2 := fun W => size_any x.veh W
  have C3 := fun W => size_any x.cap W
  have C4 := fun W => size_any x.len W
  unfold instV sizedB
  generalize withinB x.days 1 64 = b1 at *
  generalize sizeB x.veh = b2 at *
  generalize sizeB x.cap = b3 at *
  generalize sizeB x.len = b4 at *
  cases b1 <;> cases b2 <;> cases b3
  all_goals
    go_enter Tryz.func38, Tryz.ntmps38
    go_wp2_with (first
      | (go_at_call 65; refine (C1 _).mono ?_; rintro e w1 ⟨rfl, rfl⟩)
      | (go_at_call 66; (first | (with_reducible refine (C2 _).mono ?_) | (with_reducible refine (C3 _).mono ?_) | (with_reducible refine (C4 _).mono ?_)); rintro e w1 ⟨rfl, rfl⟩))
    go_ret
    exact ⟨rfl, hb⟩
end Go.Proofs.YtliomhkgkabbbaaGreatDoor
end
section
/- Which instances may be, off the code: the arcs, and all of it. -/
namespace Go.Proofs.YtliomhkgkabbbaaGreatDoor
open Go.RowKit
set_option linter.unusedVariables false
set_option maxHeartbeats 1000000 in
theorem all_int (A : Option Addr) (n r : Nat) (l : List Int) (w : World) (hl : Ints w A n l) (hm : n ≤ maxLen) :
    Calls Tryz.prog 70 #[.slice A n r, .func (.func 66) #[] #[]] w fun e w' => e = .returned (.bool (l.all sizeB)) ∧ w = w' := by
  have HN := Go.Lib.hid hl
  have HL := Go.Lib.hid hl.1
  unfold maxLen at hm
  clear hl
  go_enter Tryz.func70, Tryz.ntmps70
  go_wp2
  go_loop [9] (fun iv => ∃ k : Nat, k ≤ n ∧ iv = .int .i64 k ∧ (l.take k).all sizeB = true) (fun iv => n - (intOf iv).toNat)
  case atStart => exact ⟨0, Nat.zero_le _, rfl, rfl⟩
  case round =>
    obtain ⟨k, hk, rfl, ht⟩ := hrel
    have HTK := Go.Lib.hid ht
    clear ht
    by_cases hlt : k < n
    · have hkl : k < l.length := by rw [HL.out]; exact hlt
      obtain ⟨b, off, rfl, hc⟩ := HN.out.2 (by omega)
      have c0 := hc k hlt
      have H1 : Hid ((l.take (k + 1)).all sizeB = ((l.take k).all sizeB && sizeB (l.getD k 0))) := by show _ = _; rw [getD_in _ _ hkl]; exact all_take l _ hkl
      have H2 : Hid (sizeB (l.getD k 0) = false → l.all sizeB = false) := fun h => all_no l _ hkl (by rw [getD_in _ _ hkl] at h; exact h)
      have C := fun W => size_any (l.getD k 0) W
      clear hkl hc
      generalize l.getD k 0 = v at *
      generalize sizeB v = q at *
      cases q
      · go_wp2_with (go_at_call 66; refine (C _).mono ?_; rintro e w1 ⟨rfl, rfl⟩)
        go_ret
        exact ⟨ret_bool (H2.out (by first | rfl | trivial)).symm, rfl⟩
      · go_wp2_with (go_at_call 66; refine (C _).mono ?_; rintro e w1 ⟨rfl, rfl⟩)
        go_round
        case rel => exact ⟨k + 1, by omega, by go_num, by rw [H1.out, HTK.out]; rfl⟩
        case measure => simp [intOf]; omega
    · obtain rfl : n = k := by omega
      have HE : Hid (l.all sizeB = true) := by have := HTK.out; rw [List.take_of_length_le (by rw [HL.out]; exact Nat.le_refl _)] at this; exact this
      go_wp2
      go_ret
      exact ⟨ret_bool HE.out.symm, rfl⟩
/-- A row of arcs may be. -/
def rowB (n a : Nat) (r : List Int) : Bool := r.length == n + 1 && r.getD a 0 == 0 && r.all sizeB
/-- All rows before row k may be. -/
def rowsB (n : Nat) (l : List (List Int)) (k : Nat) : Bool := (List.range k).all fun a => rowB n a (l.getD a [])
theorem rowsB_succ (n : Nat) (l : List (List Int)) (k : Nat) : rowsB n l (k + 1) = (rowsB n l k && rowB n k (l.getD k [])) := by
  unfold rowsB
  rw [List.range_succ, List.all_append]
  simp only [List.all_cons, List.all_nil, Bool.and_true]
theorem rowsB_no {n : Nat} {l : List (List Int)} {k m : Nat} (hk : k < m) (h : rowB n k (l.getD k []) = false) : rowsB n l m = false := by
  unfold rowsB
  rw [List.all_eq_false]
  exact ⟨k, List.mem_range.2 hk, by simpa using h⟩
/-- The arcs may be. -/
def measB (x : Inst) : Bool := x.dist.length == x.custs.length + 1 && rowsB x.custs.length x.dist x.dist.length
set_option maxHeartbeats 4000000 in
theorem measured_any (x : Inst) (A : Option Addr) (c : Nat) (B : Option Addr) (d : Nat) (w : World) (h : InstIs w x A B) (hn : x.custs.length ≤ 2000) :
    Calls Tryz.prog 40 #[instV x A c B d] w fun e w' => e = .returned (.bool (measB x)) ∧ Below w.heap.size w w' := by
  have hb := below_alloc w (.cells #[.int .i64 x.days, .int .i64 x.veh, .int .i64 x.cap, .int .i64 x.len, .slice A x.custs.length c, .slice B x.dist.length d] 25)
  have HI := Go.Lib.hid (h.keep hb)
  have hm := h.wf.m
  unfold maxLen at hm
  unfold instV
  by_cases hmn : x.dist.length = x.custs.length + 1
  · have em : measB x = rowsB x.custs.length x.dist x.dist.length := by unfold measB; rw [beq_iff_eq.2 hmn, Bool.true_and]
    rw [em]
    have t1 : ((x.dist.length : Int) != (x.custs.length : Int) + 1) = false := by simp; omega
    have HMN := Go.Lib.hid hmn
    have hmi : x.dist.length ≤ 2001 := by omega
    clear h em hmn
    go_enter Tryz.func40, Tryz.ntmps40
    go_wp2
    obtain ⟨W0, hW0⟩ : ∃ W, W = w.alloc (.cells #[.int .i64 x.days, .int .i64 x.veh, .int .i64 x.cap, .int .i64 x.len, .slice A x.custs.length c, .slice B x.dist.length d] 25) := ⟨_, rfl⟩
    rw [← hW0] at hb HI ⊢
    clear hW0
    go_loop [18] (fun iv => ∃ k : Nat, k ≤ x.dist.length ∧ iv = .int .i64 k ∧ rowsB x.custs.length x.dist k = true) (fun iv => x.dist.length - (intOf iv).toNat)
    case atStart => exact ⟨0, Nat.zero_le _, rfl, rfl⟩
    case round =>
      obtain ⟨k, hk, rfl, ht⟩ := hrel
      have HTK := Go.Lib.hid ht
      clear ht
      by_cases hlt : k < x.dist.length
      · obtain ⟨b, off, P, r, rfl, h1, h2, h3⟩ := HI.out.dist k hlt
        have hrl := (HI.out.wf.dist _ (List.getElem_mem hlt)).1
        have H1 : Hid (rowsB x.custs.length x.dist (k + 1) = (rowsB x.custs.length x.dist k && rowB x.custs.length k (x.dist[k]))) := by show _ = _; rw [rowsB_succ, getD_in _ _ hlt]
        have H2 : Hid (rowB x.custs.length k (x.dist[k]) = false → rowsB x.custs.length x.dist x.dist.length = false) := fun h => rowsB_no hlt (by rw [getD_in _ _ hlt]; exact h)
        obtain ⟨ro, hro⟩ : ∃ ro, ro = x.dist[k] := ⟨_, rfl⟩
        rw [← hro] at h1 h2 h3 hrl H1 H2
        clear hro
        unfold maxLen at hrl
        by_cases hrn : ro.length = x.custs.length + 1
        · have t2 : ((ro.length : Int) != (x.custs.length : Int) + 1) = false := by simp; omega
          have hkr : k < ro.length := by have := HMN.out; omega
          obtain ⟨b2, off2, rfl, hc⟩ := h2.2 (by omega)
          have c0 := hc k hkr
          have C := all_int (some ⟨b2, off2, none⟩) ro.length r ro W0 h2 (by unfold maxLen; omega)
          have H3 : Hid (rowB x.custs.length k ro = (ro.getD k 0 == 0 && ro.all sizeB)) := by show _ = _; unfold rowB; rw [beq_iff_eq.2 hrn, Bool.true_and]
          clear h2 hc hrn
          generalize ro.all sizeB = q at *
          by_cases hv : ro.getD k 0 = 0
          · have H4 : Hid (rowB x.custs.length k ro = q) := by show _ = _; rw [H3.out, beq_iff_eq.2 hv, Bool.true_and]
            have t3 : (ro.getD k 0 != 0) = false := by rw [hv]; rfl
            clear hv H3
            generalize ro.getD k 0 = v at *
            generalize rowB x.custs.length k ro = rb at *
            cases q
            · go_wp2_with (go_at_call 70; refine C.mono ?_; rintro e w1 ⟨rfl, rfl⟩)
              go_ret
              exact ⟨ret_bool (H2.out H4.out).symm, hb⟩
            · go_wp2_with (go_at_call 70; refine C.mono ?_; rintro e w1 ⟨rfl, rfl⟩)
              go_round
              case rel => exact ⟨k + 1, by omega, by go_num, by rw [H1.out, HTK.out, H4.out]; rfl⟩
              case measure => simp [intOf]; omega
          · have H4 : Hid (rowB x.custs.length k ro = false) := by show _ = _; rw [H3.out, beq_eq_false_iff_ne.2 hv, Bool.false_and]
            have t3 : (ro.getD k 0 != 0) = true := bne_iff_ne.2 hv
            clear hv H3 C
            generalize ro.getD k 0 = v at *
            generalize rowB x.custs.length k ro = rb at *
            go_wp2
            go_ret
            exact ⟨ret_bool (H2.out H4.out).symm, hb⟩
        · have t2 : ((ro.length : Int) != (x.custs.length : Int) + 1) = true := by simp; omega
          have H4 : Hid (rowB x.custs.length k ro = false) := by show _ = _; unfold rowB; rw [beq_eq_false_iff_ne.2 hrn, Bool.false_and, Bool.false_and]
          clear h2 hrn
          generalize rowB x.custs.length k ro = rb at *
          go_wp2
          go_ret
          exact ⟨ret_bool (H2.out H4.out).symm, hb⟩
      · obtain rfl : k = x.dist.length := by omega
        go_wp2
        go_ret
        exact ⟨ret_bool HTK.out.symm, hb⟩
  · have em : measB x = false := by unfold measB; rw [beq_eq_false_iff_ne.2 hmn, Bool.false_and]
    rw [em]
    have t1 : ((x.dist.length : Int) != (x.custs.length : Int) + 1) = true := by simp; omega
    clear h em hmn
    go_enter Tryz.func40, Tryz.ntmps40
    go_wp2
    go_ret
    exact ⟨rfl, hb⟩
/-- An instance may be. -/
def mayI (x : Inst) : Bool := sizedB x && peopledB x && measB x
set_option maxHeartbeats 1000000 in
theorem May_code (x : Inst) (A : Option Addr) (c : Nat) (B : Option Addr) (d : Nat) (w : World) (hT : Tab w) (h : InstIs w x A B) :
    Calls Tryz.prog 18 #[instV x A c B d] w fun e w' => e = .returned (.int .i64 (if mayI x = true then 0 else 3)) ∧ Below w.heap.size w w' := by
  have hb := below_alloc w (.cells #[.int .i64 x.days, .int .i64 x.veh, .int .i64 x.cap, .int .i64 x.len, .slice A x.custs.length c, .slice B x.dist.length d] 25)
  have J := InstBox.fresh w x A c B d
  have C1 := fun W => sized_any x A c B d W
  have C2 := fun W (hB : Below w.heap.size w W) => peopled_any x A c B d W (hT.keep hB) (h.keep hB)
  have C3 := fun W (hB : Below w.heap.size w W) hn => measured_any x A c B d W (h.keep hB) hn
  have HP : Hid (peopledB x = true → x.custs.length ≤ 2000) := fun hp => by
    unfold peopledB at hp
    exact of_decide_eq_true (Bool.and_eq_true_iff.1 hp).1
  obtain ⟨e, he⟩ : ∃ e : Int, e = if mayI x = true then 0 else 3 := ⟨_, rfl⟩
  rw [← he]
  unfold mayI at he
  have HE := Go.Lib.hid he
  unfold instV at *
  clear he h hT
  generalize sizedB x = b1 at *
  generalize peopledB x = b2 at *
  generalize measB x = b3 at *
  obtain ⟨j0, j1, j2, j3, j4, j5⟩ := J.cells
  have HJ := Go.Lib.hid J
  have HB := Go.Lib.hid hb
  clear J hb
  cases b1 <;> cases b2 <;> cases b3
  all_goals
    go_enter Tryz.func18, Tryz.ntmps18
    go_wp2_with (first
      | (go_at_call 38; refine (C1 _).mono ?_; rintro e w1 ⟨rfl, hb1⟩; have HJ1 := Go.Lib.hid (HJ.out.keep hb1); have HB1 := Go.Lib.hid (HB.out.trans (hb1.mono HB.out.size)); clear HJ HB; have HJ := HJ1; have HB := HB1; clear HJ1 HB1 hb1; obtain ⟨k0, k1, k2, k3, k4, k5⟩ := HJ.out.cells)
      | (go_at_call 39; refine (C2 _ HB.out).mono ?_; rintro e w1 ⟨rfl, hb1⟩; have HJ1 := Go.Lib.hid (HJ.out.keep hb1); have HB1 := Go.Lib.hid (HB.out.trans (hb1.mono HB.out.size)); clear HJ HB; have HJ := HJ1; have HB := HB1; clear HJ1 HB1 hb1; obtain ⟨k0, k1, k2, k3, k4, k5⟩ := HJ.out.cells)
      | (go_at_call 40; refine (C3 _ HB.out (HP.out (by first | rfl | trivial))).mono ?_; rintro e w1 ⟨rfl, hb1⟩; have HB1 := Go.Lib.hid (HB.out.trans (hb1.mono HB.out.size)); clear HB; have HB := HB1; clear HB1 hb1))
    go_ret
    exact ⟨by rw [HE.out]; rfl, HB.out⟩
end Go.Proofs.YtliomhkgkabbbaaGreatDoor
end
section
/- Which instances may be, off the document's code. -/
namespace Go.Proofs.YtliomhkgkabbbaaGreatDoor
open Go.RowKit
set_option linter.unusedVariables false
/-- What is asked of an instance's own numbers. -/
def SizedP (x : Inst) : Prop := 1 ≤ x.days ∧ x.days ≤ 64 ∧ 0 ≤ x.veh ∧ x.veh ≤ 2147483648 ∧ 0 ≤ x.cap ∧ x.cap ≤ 2147483648 ∧ 0 ≤ x.len ∧ x.len ≤ 2147483648 ∧ x.custs.length ≤ 2000 ∧ x.dist.length = x.custs.length + 1
theorem mayI_iff {x : Inst} : mayI x = true ↔ SizedP x ∧ x.custs.all (fun c => mayC c x.days) = true ∧ rowsB x.custs.length x.dist x.dist.length = true := by
  unfold mayI sizedB peopledB measB sizeB SizedP
  simp only [Bool.and_eq_true, withinB_iff, decide_eq_true_iff, beq_iff_eq]
  constructor
  · rintro ⟨⟨⟨⟨⟨a1, a2⟩, a3, a4⟩, a5, a6⟩, a7⟩, a9, a10⟩
    exact ⟨⟨a1.1, a1.2, a2.1, a2.2, a3, a4, a5, a6, a7.1, a9⟩, a7.2, a10⟩
  · rintro ⟨⟨a1, a2, a3, a4, a5, a6, a7, a8, a9, a10⟩, a11, a12⟩
    exact ⟨⟨⟨⟨⟨⟨a1, a2⟩, a3, a4⟩, a5, a6⟩, a7, a8⟩, a9, a11⟩, a10, a12⟩
/-- The first k arcs of row a may be. -/
def okK (a : Nat) (r : List Int) (k : Nat) : Bool := (List.range k).all fun j => sizeB (r.getD j 0) && (a != j || r.getD j 0 == 0)
theorem okK_succ (a : Nat) (r : List Int) (k : Nat) : okK a r (k + 1) = (okK a r k && (sizeB (r.getD k 0) && (a != k || r.getD k 0 == 0))) := by
  unfold okK
  rw [List.range_succ, List.all_append]
  simp only [List.all_cons, List.all_nil, Bool.and_true]
theorem okK_no {a : Nat} {r : List Int} {k m : Nat} (hk : k < m) (h : (sizeB (r.getD k 0) && (a != k || r.getD k 0 == 0)) = false) : okK a r m = false := by
  unfold okK
  rw [List.all_eq_false]
  exact ⟨k, List.mem_range.2 hk, by simpa using h⟩
theorem rowB_okK {n a : Nat} {r : List Int} (hr : r.length = n + 1) (ha : a ≤ n) : rowB n a r = okK a r (n + 1) := by
  rw [Bool.eq_iff_iff]
  unfold rowB okK
  rw [beq_iff_eq.2 hr, Bool.true_and, Bool.and_eq_true, beq_iff_eq, List.all_eq_true, List.all_eq_true]
  constructor
  · rintro ⟨h1, h2⟩ j hj
    have hj' : j < r.length := by have := List.mem_range.1 hj; omega
    rw [getD_in _ _ hj', h2 _ (List.getElem_mem hj'), Bool.true_and]
    by_cases e : a = j
    · subst e
      rw [getD_in _ _ hj'] at h1
      simp [h1]
    · simp [e]
  · intro h
    refine ⟨?_, fun v hv => ?_⟩
    · have := h a (List.mem_range.2 (by omega))
      simp only [Bool.and_eq_true] at this
      simpa using this.2
    · obtain ⟨j, hj, rfl⟩ := List.getElem_of_mem hv
      have := h j (List.mem_range.2 (by omega))
      rw [getD_in _ _ hj, Bool.and_eq_true] at this
      exact this.1
theorem customer_from {w : World} {c : Cust} {A : Option Addr} {k : Nat} (hc : c.Wf) (hn : Nums .u64 w A c.pats.length c.pats) (d : Int) (W : World) (hb : Below w.heap.size w W) :
    Calls Tryz.prog 35 #[custV c A k, .int .i64 d] W fun e w' => e = .returned (.bool (mayC c d)) ∧ Below W.heap.size W w' := customer_any c A k d W hc (hn.keep hb)
set_option maxRecDepth 100000 in
set_option maxHeartbeats 8000000 in
theorem May_ref (x : Inst) (A : Option Addr) (c : Nat) (B : Option Addr) (d : Nat) (w : World) (h : InstIs w x A B) :
    Calls Tryz.prog 14 #[instV x A c B d] w fun e w' => e = .returned (.bool (mayI x)) ∧ Below w.heap.size w w' := by
  have hb := below_alloc w (.cells #[.int .i64 x.days, .int .i64 x.veh, .int .i64 x.cap, .int .i64 x.len, .slice A x.custs.length c, .slice B x.dist.length d] 25)
  have hl := h.wf.n
  have hm := h.wf.m
  unfold maxLen at hl hm
  have no : ¬ SizedP x → mayI x = false := fun h => by
    cases hm : mayI x
    · rfl
    · exact absurd (mayI_iff.1 hm).1 h
  unfold instV
  by_cases h0 : 1 ≤ x.days
  case neg =>
    rw [no (fun h => h0 h.1)]
    clear h no hb
    go_enter Tryz.func14, Tryz.ntmps14
    go_wp2
    go_ret
    exact ⟨rfl, below_alloc _ _⟩
  by_cases h1 : x.days ≤ 64
  case neg =>
    rw [no (fun h => h1 h.2.1)]
    clear h no hb
    go_enter Tryz.func14, Tryz.ntmps14
    go_wp2
    go_ret
    exact ⟨rfl, below_alloc _ _⟩
  by_cases h2 : 0 ≤ x.veh
  case neg =>
    rw [no (fun h => h2 h.2.2.1)]
    clear h no hb
    go_enter Tryz.func14, Tryz.ntmps14
    go_wp2
    go_ret
    exact ⟨rfl, below_alloc _ _⟩
  by_cases h3 : x.veh ≤ 2147483648
  case neg =>
    rw [no (fun h => h3 h.2.2.2.1)]
    clear h no hb
    go_enter Tryz.func14, Tryz.ntmps14
    go_wp2
    go_ret
    exact ⟨rfl, below_alloc _ _⟩
  by_cases h4 : 0 ≤ x.cap
  case neg =>
    rw [no (fun h => h4 h.2.2.2.2.1)]
    clear h no hb
    go_enter Tryz.func14, Tryz.ntmps14
    go_wp2
    go_ret
    exact ⟨rfl, below_alloc _ _⟩
  by_cases h5 : x.cap ≤ 2147483648
  case neg =>
    rw [no (fun h => h5 h.2.2.2.2.2.1)]
    clear h no hb
    go_enter Tryz.func14, Tryz.ntmps14
    go_wp2
    go_ret
    exact ⟨rfl, below_alloc _ _⟩
  by_cases h6 : 0 ≤ x.len
  case neg =>
    rw [no (fun h => h6 h.2.2.2.2.2.2.1)]
    clear h no hb
    go_enter Tryz.func14, Tryz.ntmps14
    go_wp2
    go_ret
    exact ⟨rfl, below_alloc _ _⟩
  by_cases h7 : x.len ≤ 2147483648
  case neg =>
    rw [no (fun h => h7 h.2.2.2.2.2.2.2.1)]
    clear h no hb
    go_enter Tryz.func14, Tryz.ntmps14
    go_wp2
    go_ret
    exact ⟨rfl, below_alloc _ _⟩
  by_cases h8 : x.custs.length ≤ 2000
  case neg =>
    rw [no (fun h => h8 h.2.2.2.2.2.2.2.2.1)]
    clear h no hb
    have z : (2000 : Int) < (x.custs.length : Int) := by omega
    go_enter Tryz.func14, Tryz.ntmps14
    go_wp2
    go_ret
    exact ⟨rfl, below_alloc _ _⟩
  have z1 : (x.custs.length : Int) ≤ 2000 := by omega
  by_cases h9 : x.dist.length = x.custs.length + 1
  case neg =>
    rw [no (fun h => h9 h.2.2.2.2.2.2.2.2.2)]
    clear h no hb
    have z : ((x.dist.length : Int) != (x.custs.length : Int) + 1) = true := by simp; omega
    go_enter Tryz.func14, Tryz.ntmps14
    go_wp2
    go_ret
    exact ⟨rfl, below_alloc _ _⟩
  have z2 : ((x.dist.length : Int) != (x.custs.length : Int) + 1) = false := by simp; omega
  have em : mayI x = (x.custs.all (fun c => mayC c x.days) && rowsB x.custs.length x.dist x.dist.length) := by
    rw [Bool.eq_iff_iff, mayI_iff, Bool.and_eq_true]
    exact ⟨fun h => h.2, fun h => ⟨⟨h0, h1, h2, h3, h4, h5, h6, h7, h8, h9⟩, h⟩⟩
  rw [em]
  have HI := Go.Lib.hid h
  have HJ := Go.Lib.hid (InstBox.fresh w x A c B d)
  have HMN := Go.Lib.hid h9
  clear h no em h9
  go_enter Tryz.func14, Tryz.ntmps14
  go_wp2
  go_loopw [4] (fun iv wr => ∃ i : Nat, i ≤ x.custs.length ∧ iv = .int .i64 i ∧ (x.custs.take i).all (fun c => mayC c x.days) = true ∧ InstBox wr w.heap.size x A c B d ∧ Below w.heap.size w wr) (fun iv _ => x.custs.length - (intOf iv).toNat)
  case atStart => exact ⟨0, Nat.zero_le _, rfl, rfl, HJ.out, hb⟩
  case round =>
    clear hb HJ z2 h0 h1 h2 h3 h4 h5 h6 h7
    obtain ⟨i, hi, rfl, ht, hJ, hB⟩ := hrel
    have HTK := Go.Lib.hid ht
    have HB := Go.Lib.hid hB
    have HJ := Go.Lib.hid hJ
    obtain ⟨j0, j1, j2, j3, j4, j5⟩ := hJ.cells
    clear ht hB hJ
    by_cases hlt : i < x.custs.length
    · obtain ⟨b, off, P, kp, rfl, hca, hnp, hkp⟩ := HI.out.custs i hlt
      have hcw := HI.out.wf.custs _ (List.getElem_mem hlt)
      have H1 : Hid ((x.custs.take (i + 1)).all (fun c => mayC c x.days) = ((x.custs.take i).all (fun c => mayC c x.days) && mayC (x.custs[i]) x.days)) := all_take x.custs _ hlt
      have H2 : Hid (mayC (x.custs[i]) x.days = false → x.custs.all (fun c => mayC c x.days) = false) := fun h => all_no x.custs _ hlt h
      obtain ⟨ci, hci⟩ : ∃ ci, ci = x.custs[i] := ⟨_, rfl⟩
      rw [← hci] at hca hnp hcw H1 H2 hkp
      clear hci
      have CG := fun W hb => customer_from hcw hnp x.days W hb (k := kp)
      unfold custV at CG
      have k8 := hca.keep HB.out
      obtain ⟨e0, e1, e2, e3, e4, e5, e6, e7⟩ := k8
      have HCA := Go.Lib.hid hca
      have HBd := Go.Lib.hid HB.out.drew
      have HJd := Go.Lib.hid (HJ.out.keep (below_drew _))
      clear hca hnp hcw hkp
      generalize mayC ci x.days = q at *
      cases q
      all_goals
        go_wp2_with fail
        go_region_held3 (fun w' => w'.cell? ⟨w.heap.size, 4, none⟩ = some (.slice (some ⟨b, off, none⟩) x.custs.length c) ∧ w'.cell? ⟨b, off + i * 8, none⟩ = some (.int .i64 ci.kind) ∧ w'.cell? ⟨b, off + i * 8 + 1, none⟩ = some (.int .i64 ci.demand) ∧ w'.cell? ⟨b, off + i * 8 + 2, none⟩ = some (.slice P ci.pats.length kp) ∧ w'.cell? ⟨b, off + i * 8 + 3, none⟩ = some (.int .i64 ci.rate) ∧ w'.cell? ⟨b, off + i * 8 + 4, none⟩ = some (.int .i64 ci.size) ∧ w'.cell? ⟨b, off + i * 8 + 5, none⟩ = some (.int .i64 ci.start) ∧ w'.cell? ⟨b, off + i * 8 + 6, none⟩ = some (.int .i64 ci.rule) ∧ w'.cell? ⟨b, off + i * 8 + 7, none⟩ = some (.int .i64 ci.hold) ∧ w'.cell? ⟨w.heap.size, 0, none⟩ = some (.int .i64 x.days))
          (first | exact ⟨j4, e0, e1, e2, e3, e4, e5, e6, e7, j0⟩ | exact ⟨HJ5.out.cells.2.2.2.2.1, K5.out.c0, K5.out.c1, K5.out.c2, K5.out.c3, K5.out.c4, K5.out.c5, K5.out.c6, K5.out.c7, HJ5.out.cells.1⟩ | go_keep)
          (first
            | (go_at_call 35; refine (CG _ HBd.out).mono ?_; rintro e w5 ⟨rfl, hb5⟩; have HJ5 := Go.Lib.hid (HJd.out.keep hb5); have HB5 := Go.Lib.hid (HBd.out.trans (hb5.mono HBd.out.size)); have K5 := Go.Lib.hid (HCA.out.keep HB5.out); clear hb5))
      · go_wp2
        go_ret
        exact ⟨ret_bool (by rw [H2.out (by first | rfl | trivial)]; rfl), HB5.out⟩
      · go_wp2
        exact ⟨⟨i + 1, by omega, by go_num, by rw [H1.out, HTK.out]; rfl, HJ5.out, HB5.out⟩, by simp [intOf]; omega⟩
    · obtain rfl : i = x.custs.length := by omega
      have HE : Hid (x.custs.all (fun c => mayC c x.days) = true) := by have := HTK.out; rw [List.take_length] at this; exact this
      have HK := Go.Lib.hid (HI.out.keep HB.out)
      go_wp2
      go_loop [6] (fun iv => ∃ p : Nat, p ≤ x.dist.length ∧ iv = .int .i64 p ∧ rowsB x.custs.length x.dist p = true) (fun iv => x.dist.length - (intOf iv).toNat)
      case atStart => exact ⟨0, Nat.zero_le _, rfl, rfl⟩
      case round =>
        obtain ⟨p, hp, rfl, ht⟩ := hrel
        have HRK := Go.Lib.hid ht
        clear ht
        by_cases hlp : p < x.dist.length
        · obtain ⟨b, off, P, r, rfl, e1, e2, e3⟩ := HK.out.dist p hlp
          have hrl := (HK.out.wf.dist _ (List.getElem_mem hlp)).1
          have H1 : Hid (rowsB x.custs.length x.dist (p + 1) = (rowsB x.custs.length x.dist p && rowB x.custs.length p (x.dist[p]))) := by show _ = _; rw [rowsB_succ, getD_in _ _ hlp]
          have H2 : Hid (rowB x.custs.length p (x.dist[p]) = false → rowsB x.custs.length x.dist x.dist.length = false) := fun h => rowsB_no hlp (by rw [getD_in _ _ hlp]; exact h)
          obtain ⟨ro, hro⟩ : ∃ ro, ro = x.dist[p] := ⟨_, rfl⟩
          rw [← hro] at e1 e2 e3 hrl H1 H2
          clear hro
          unfold maxLen at hrl
          have hpn : p ≤ x.custs.length := by have := HMN.out; omega
          by_cases hrn : ro.length = x.custs.length + 1
          · have t2 : ((ro.length : Int) != (x.custs.length : Int) + 1) = false := by simp; omega
            have HRO : Hid (rowB x.custs.length p ro = okK p ro (x.custs.length + 1)) := rowB_okK hrn hpn
            have HRN := Go.Lib.hid hrn
            have HNU := Go.Lib.hid e2
            clear e2 hrn
            go_wp2
            go_loop [7] (fun kv => ∃ k : Nat, k ≤ x.custs.length + 1 ∧ kv = .int .i64 k ∧ okK p ro k = true) (fun kv => x.custs.length + 1 - (intOf kv).toNat)
            case atStart => exact ⟨0, Nat.zero_le _, rfl, rfl⟩
            case round =>
              obtain ⟨k, hk, rfl, ht⟩ := hrel
              have HKK := Go.Lib.hid ht
              clear ht t2
              by_cases hlk : k ≤ x.custs.length
              · have hkr : k < ro.length := by rw [HRN.out]; omega
                obtain ⟨b2, off2, rfl, hce⟩ := HNU.out.2 (by omega)
                have c0 := hce k hkr
                have H5 : Hid (okK p ro (k + 1) = (okK p ro k && (sizeB (ro.getD k 0) && (p != k || ro.getD k 0 == 0)))) := okK_succ p ro k
                have H6 : Hid ((sizeB (ro.getD k 0) && (p != k || ro.getD k 0 == 0)) = false → okK p ro (x.custs.length + 1) = false) := fun h => okK_no (by omega) h
                clear hce
                generalize ro.getD k 0 = v at *
                by_cases hv0 : v < 0
                · have HF : Hid ((sizeB v && (p != k || v == 0)) = false) := by show _ = _; unfold sizeB; rw [withinB_false (by omega), Bool.false_and]
                  go_wp2
                  go_ret
                  exact ⟨ret_bool (by rw [H2.out (by rw [HRO.out]; exact H6.out HF.out), Bool.and_false]), HB.out⟩
                · have hv1 : 0 ≤ v := by omega
                  by_cases hv2 : v ≤ 2147483648
                  · by_cases hpk : p = k
                    · have t3 : ((p : Int) == (k : Int)) = true := by subst hpk; simp
                      have t4 : (p == k) = true := by subst hpk; simp
                      by_cases hvz : v = 0
                      · have t5 : (v != 0) = false := by rw [hvz]; rfl
                        have HF : Hid ((sizeB v && (p != k || v == 0)) = true) := by show _ = _; unfold sizeB; rw [withinB_true (by omega), Bool.true_and, beq_iff_eq.2 hvz, Bool.or_true]
                        clear hvz hpk
                        go_wp2
                        go_round
                        case rel => exact ⟨k + 1, by omega, by go_num, by rw [H5.out, HKK.out, HF.out]; rfl⟩
                        case measure => simp [intOf]; omega
                      · have t5 : (v != 0) = true := bne_iff_ne.2 hvz
                        have HF : Hid ((sizeB v && (p != k || v == 0)) = false) := by show _ = _; rw [beq_eq_false_iff_ne.2 hvz, Bool.or_false]; subst hpk; simp
                        clear hvz hpk
                        go_wp2
                        go_ret
                        exact ⟨ret_bool (by rw [H2.out (by rw [HRO.out]; exact H6.out HF.out), Bool.and_false]), HB.out⟩
                    · have t3 : ((p : Int) == (k : Int)) = false := by simp; omega
                      have t4 : (p == k) = false := by simpa using hpk
                      have HF : Hid ((sizeB v && (p != k || v == 0)) = true) := by show _ = _; unfold sizeB; rw [withinB_true (by omega), Bool.true_and, bne_iff_ne.2 hpk, Bool.true_or]
                      clear hpk
                      go_wp2
                      go_round
                      case rel => exact ⟨k + 1, by omega, by go_num, by rw [H5.out, HKK.out, HF.out]; rfl⟩
                      case measure => simp [intOf]; omega
                  · have hv3 : 2147483648 < v := by omega
                    have HF : Hid ((sizeB v && (p != k || v == 0)) = false) := by show _ = _; unfold sizeB; rw [withinB_false (by omega), Bool.false_and]
                    go_wp2
                    go_ret
                    exact ⟨ret_bool (by rw [H2.out (by rw [HRO.out]; exact H6.out HF.out), Bool.and_false]), HB.out⟩
              · obtain rfl : k = x.custs.length + 1 := by omega
                have hkg : ¬ (((x.custs.length + 1 : Nat) : Int) ≤ (x.custs.length : Int)) := by omega
                go_wp2
                exact ⟨⟨p + 1, by omega, by go_num, by rw [H1.out, HRK.out, HRO.out, HKK.out]; rfl⟩, by simp [intOf]; omega⟩
          · have t2 : ((ro.length : Int) != (x.custs.length : Int) + 1) = true := by simp; omega
            have H4 : Hid (rowB x.custs.length p ro = false) := by show _ = _; unfold rowB; rw [beq_eq_false_iff_ne.2 hrn, Bool.false_and, Bool.false_and]
            clear e2 hrn
            go_wp2
            go_ret
            exact ⟨ret_bool (by rw [H2.out H4.out, Bool.and_false]), HB.out⟩
        · obtain rfl : p = x.dist.length := by omega
          have hgt : ¬ ((x.dist.length : Int) ≤ (x.custs.length : Int)) := by have := HMN.out; omega
          have hgt2 : ¬ (x.dist.length ≤ x.custs.length) := by have := HMN.out; omega
          go_wp2
          go_ret
          exact ⟨ret_bool (by rw [HE.out, HRK.out]; rfl), HB.out⟩
end Go.Proofs.YtliomhkgkabbbaaGreatDoor
end
