/- What a customer must be, all of it, off the code: the two lists of methods, and the loops over them. -/
import Derived.Test.YtmfahjghfpckeaaDoorInstMust
namespace Go.Proofs.YtmfahjghfpckeaaDoor
open Go.RowKit
set_option linter.unusedVariables false
/-- The block of a customer with the days there are. -/
def ClientBox (W : World) (g : Nat) (c : Cust) (A : Option Addr) (k : Nat) (d : Int) : Prop := BlkIs W g 66 #[.int .i64 c.kind, .int .i64 c.demand, .slice A c.pats.length k, .int .i64 c.rate, .int .i64 c.size, .int .i64 c.start, .int .i64 c.rule, .int .i64 c.hold, .int .i64 d]
/-- What the methods ask of the world: the library's table, the customer's block, and its patterns. -/
structure CustIn (W : World) (g : Nat) (c : Cust) (A : Option Addr) (k : Nat) (d : Int) : Prop where
  tab : Tab W
  box : ClientBox W g c A k d
  wf : c.Wf
  pats : Nums .u64 W A c.pats.length c.pats
  days : W64 d
theorem CustIn.keep {W W' : World} {g : Nat} {c : Cust} {A : Option Addr} {k : Nat} {d : Int} (h : CustIn W g c A k d) (hb : Below W.heap.size W W') : CustIn W' g c A k d :=
  ⟨h.tab.keep hb, BlkIs.below h.box hb h.box.lt, h.wf, h.pats.keep hb, h.days⟩
theorem is1_periodic {W : World} {g : Nat} {c : Cust} {A : Option Addr} {k : Nat} {d : Int} (h : CustIn W g c A k d) :
    Calls Tryd.prog 61 #[.func (.func 62) #[] #[], .pointer (some ⟨g, 0, none⟩)] W fun e w' => e = .returned (.bool (c.kind == 1)) ∧ Below W.heap.size W w' := by
  obtain ⟨hT, hB, hc, hn, wd⟩ := h
  have C := periodic_any c A k d W
  obtain ⟨q, hq⟩ : ∃ q, q = (c.kind == 1) := ⟨_, rfl⟩
  rw [← hq] at C ⊢
  obtain ⟨j0, j1, j2, j3, j4, j5, j6, j7, j8⟩ := BlkIs.cells9 hB
  unfold clientV at C
  clear hT hc hn wd hq hB
  go_enter Tryd.func61, Tryd.ntmps61
  go_wp2_with (go_at_call 62; refine C.mono ?_; rintro e w1 ⟨rfl, hb⟩)
  go_ret
  exact ⟨rfl, hb⟩
theorem is1_demands {W : World} {g : Nat} {c : Cust} {A : Option Addr} {k : Nat} {d : Int} (h : CustIn W g c A k d) :
    Calls Tryd.prog 61 #[.func (.func 63) #[] #[], .pointer (some ⟨g, 0, none⟩)] W fun e w' => e = .returned (.bool (withinB c.demand 1 2147483648)) ∧ Below W.heap.size W w' := by
  obtain ⟨hT, hB, hc, hn, wd⟩ := h
  have C := demands_any c A k d W
  obtain ⟨q, hq⟩ : ∃ q, q = (withinB c.demand 1 2147483648) := ⟨_, rfl⟩
  rw [← hq] at C ⊢
  obtain ⟨j0, j1, j2, j3, j4, j5, j6, j7, j8⟩ := BlkIs.cells9 hB
  unfold clientV at C
  clear hT hc hn wd hq hB
  go_enter Tryd.func61, Tryd.ntmps61
  go_wp2_with (go_at_call 63; refine C.mono ?_; rintro e w1 ⟨rfl, hb⟩)
  go_ret
  exact ⟨rfl, hb⟩
theorem is1_chooses {W : World} {g : Nat} {c : Cust} {A : Option Addr} {k : Nat} {d : Int} (h : CustIn W g c A k d) :
    Calls Tryd.prog 61 #[.func (.func 64) #[] #[], .pointer (some ⟨g, 0, none⟩)] W fun e w' => e = .returned (.bool (withinB c.pats.length 1 64)) ∧ Below W.heap.size W w' := by
  obtain ⟨hT, hB, hc, hn, wd⟩ := h
  have C := chooses_any c A k d W hc.len
  obtain ⟨q, hq⟩ : ∃ q, q = (withinB c.pats.length 1 64) := ⟨_, rfl⟩
  rw [← hq] at C ⊢
  obtain ⟨j0, j1, j2, j3, j4, j5, j6, j7, j8⟩ := BlkIs.cells9 hB
  unfold clientV at C
  clear hT hc hn wd hq hB
  go_enter Tryd.func61, Tryd.ntmps61
  go_wp2_with (go_at_call 64; refine C.mono ?_; rintro e w1 ⟨rfl, hb⟩)
  go_ret
  exact ⟨rfl, hb⟩
theorem is1_timely {W : World} {g : Nat} {c : Cust} {A : Option Addr} {k : Nat} {d : Int} (h : CustIn W g c A k d) :
    Calls Tryd.prog 61 #[.func (.func 65) #[] #[], .pointer (some ⟨g, 0, none⟩)] W fun e w' => e = .returned (.bool (timelyB c.pats d)) ∧ Below W.heap.size W w' := by
  obtain ⟨hT, hB, hc, hn, wd⟩ := h
  have C := timely_any c A k d W hT hc hn wd
  obtain ⟨q, hq⟩ : ∃ q, q = (timelyB c.pats d) := ⟨_, rfl⟩
  rw [← hq] at C ⊢
  obtain ⟨j0, j1, j2, j3, j4, j5, j6, j7, j8⟩ := BlkIs.cells9 hB
  unfold clientV at C
  clear hT hc hn wd hq hB
  go_enter Tryd.func61, Tryd.ntmps61
  go_wp2_with (go_at_call 65; refine C.mono ?_; rintro e w1 ⟨rfl, hb⟩)
  go_ret
  exact ⟨rfl, hb⟩
theorem is1_tankless {W : World} {g : Nat} {c : Cust} {A : Option Addr} {k : Nat} {d : Int} (h : CustIn W g c A k d) :
    Calls Tryd.prog 61 #[.func (.func 66) #[] #[], .pointer (some ⟨g, 0, none⟩)] W fun e w' => e = .returned (.bool (c.rate == 0 && c.size == 0 && c.start == 0 && c.rule == 0 && c.hold == 0)) ∧ Below W.heap.size W w' := by
  obtain ⟨hT, hB, hc, hn, wd⟩ := h
  have C := tankless_any c A k d W hc.len
  obtain ⟨q, hq⟩ : ∃ q, q = (c.rate == 0 && c.size == 0 && c.start == 0 && c.rule == 0 && c.hold == 0) := ⟨_, rfl⟩
  rw [← hq] at C ⊢
  obtain ⟨j0, j1, j2, j3, j4, j5, j6, j7, j8⟩ := BlkIs.cells9 hB
  unfold clientV at C
  clear hT hc hn wd hq hB
  go_enter Tryd.func61, Tryd.ntmps61
  go_wp2_with (go_at_call 66; refine C.mono ?_; rintro e w1 ⟨rfl, hb⟩)
  go_ret
  exact ⟨rfl, hb⟩
theorem is1_tank {W : World} {g : Nat} {c : Cust} {A : Option Addr} {k : Nat} {d : Int} (h : CustIn W g c A k d) :
    Calls Tryd.prog 61 #[.func (.func 67) #[] #[], .pointer (some ⟨g, 0, none⟩)] W fun e w' => e = .returned (.bool (c.kind == 2)) ∧ Below W.heap.size W w' := by
  obtain ⟨hT, hB, hc, hn, wd⟩ := h
  have C := tank_any c A k d W
  obtain ⟨q, hq⟩ : ∃ q, q = (c.kind == 2) := ⟨_, rfl⟩
  rw [← hq] at C ⊢
  obtain ⟨j0, j1, j2, j3, j4, j5, j6, j7, j8⟩ := BlkIs.cells9 hB
  unfold clientV at C
  clear hT hc hn wd hq hB
  go_enter Tryd.func61, Tryd.ntmps61
  go_wp2_with (go_at_call 67; refine C.mono ?_; rintro e w1 ⟨rfl, hb⟩)
  go_ret
  exact ⟨rfl, hb⟩
theorem is1_takes {W : World} {g : Nat} {c : Cust} {A : Option Addr} {k : Nat} {d : Int} (h : CustIn W g c A k d) :
    Calls Tryd.prog 61 #[.func (.func 68) #[] #[], .pointer (some ⟨g, 0, none⟩)] W fun e w' => e = .returned (.bool (sizeB c.rate)) ∧ Below W.heap.size W w' := by
  obtain ⟨hT, hB, hc, hn, wd⟩ := h
  have C := takes_any c A k d W
  obtain ⟨q, hq⟩ : ∃ q, q = (sizeB c.rate) := ⟨_, rfl⟩
  rw [← hq] at C ⊢
  obtain ⟨j0, j1, j2, j3, j4, j5, j6, j7, j8⟩ := BlkIs.cells9 hB
  unfold clientV at C
  clear hT hc hn wd hq hB
  go_enter Tryd.func61, Tryd.ntmps61
  go_wp2_with (go_at_call 68; refine C.mono ?_; rintro e w1 ⟨rfl, hb⟩)
  go_ret
  exact ⟨rfl, hb⟩
theorem is1_stores {W : World} {g : Nat} {c : Cust} {A : Option Addr} {k : Nat} {d : Int} (h : CustIn W g c A k d) :
    Calls Tryd.prog 61 #[.func (.func 69) #[] #[], .pointer (some ⟨g, 0, none⟩)] W fun e w' => e = .returned (.bool (withinB c.size 1 2147483648)) ∧ Below W.heap.size W w' := by
  obtain ⟨hT, hB, hc, hn, wd⟩ := h
  have C := stores_any c A k d W
  obtain ⟨q, hq⟩ : ∃ q, q = (withinB c.size 1 2147483648) := ⟨_, rfl⟩
  rw [← hq] at C ⊢
  obtain ⟨j0, j1, j2, j3, j4, j5, j6, j7, j8⟩ := BlkIs.cells9 hB
  unfold clientV at C
  clear hT hc hn wd hq hB
  go_enter Tryd.func61, Tryd.ntmps61
  go_wp2_with (go_at_call 69; refine C.mono ?_; rintro e w1 ⟨rfl, hb⟩)
  go_ret
  exact ⟨rfl, hb⟩
theorem is1_begins {W : World} {g : Nat} {c : Cust} {A : Option Addr} {k : Nat} {d : Int} (h : CustIn W g c A k d) :
    Calls Tryd.prog 61 #[.func (.func 70) #[] #[], .pointer (some ⟨g, 0, none⟩)] W fun e w' => e = .returned (.bool (withinB c.start 0 c.size)) ∧ Below W.heap.size W w' := by
  obtain ⟨hT, hB, hc, hn, wd⟩ := h
  have C := begins_any c A k d W
  obtain ⟨q, hq⟩ : ∃ q, q = (withinB c.start 0 c.size) := ⟨_, rfl⟩
  rw [← hq] at C ⊢
  obtain ⟨j0, j1, j2, j3, j4, j5, j6, j7, j8⟩ := BlkIs.cells9 hB
  unfold clientV at C
  clear hT hc hn wd hq hB
  go_enter Tryd.func61, Tryd.ntmps61
  go_wp2_with (go_at_call 70; refine C.mono ?_; rintro e w1 ⟨rfl, hb⟩)
  go_ret
  exact ⟨rfl, hb⟩
theorem is1_ruled {W : World} {g : Nat} {c : Cust} {A : Option Addr} {k : Nat} {d : Int} (h : CustIn W g c A k d) :
    Calls Tryd.prog 61 #[.func (.func 71) #[] #[], .pointer (some ⟨g, 0, none⟩)] W fun e w' => e = .returned (.bool (c.rule == 1 || c.rule == 2)) ∧ Below W.heap.size W w' := by
  obtain ⟨hT, hB, hc, hn, wd⟩ := h
  have C := ruled_any c A k d W hc.len
  obtain ⟨q, hq⟩ : ∃ q, q = (c.rule == 1 || c.rule == 2) := ⟨_, rfl⟩
  rw [← hq] at C ⊢
  obtain ⟨j0, j1, j2, j3, j4, j5, j6, j7, j8⟩ := BlkIs.cells9 hB
  unfold clientV at C
  clear hT hc hn wd hq hB
  go_enter Tryd.func61, Tryd.ntmps61
  go_wp2_with (go_at_call 71; refine C.mono ?_; rintro e w1 ⟨rfl, hb⟩)
  go_ret
  exact ⟨rfl, hb⟩
theorem is1_holds {W : World} {g : Nat} {c : Cust} {A : Option Addr} {k : Nat} {d : Int} (h : CustIn W g c A k d) :
    Calls Tryd.prog 61 #[.func (.func 72) #[] #[], .pointer (some ⟨g, 0, none⟩)] W fun e w' => e = .returned (.bool (withinB c.hold 0 1024)) ∧ Below W.heap.size W w' := by
  obtain ⟨hT, hB, hc, hn, wd⟩ := h
  have C := holds_any c A k d W
  obtain ⟨q, hq⟩ : ∃ q, q = (withinB c.hold 0 1024) := ⟨_, rfl⟩
  rw [← hq] at C ⊢
  obtain ⟨j0, j1, j2, j3, j4, j5, j6, j7, j8⟩ := BlkIs.cells9 hB
  unfold clientV at C
  clear hT hc hn wd hq hB
  go_enter Tryd.func61, Tryd.ntmps61
  go_wp2_with (go_at_call 72; refine C.mono ?_; rintro e w1 ⟨rfl, hb⟩)
  go_ret
  exact ⟨rfl, hb⟩
theorem is1_patternless {W : World} {g : Nat} {c : Cust} {A : Option Addr} {k : Nat} {d : Int} (h : CustIn W g c A k d) :
    Calls Tryd.prog 61 #[.func (.func 73) #[] #[], .pointer (some ⟨g, 0, none⟩)] W fun e w' => e = .returned (.bool (c.demand == 0 && (c.pats.length : Int) == 0)) ∧ Below W.heap.size W w' := by
  obtain ⟨hT, hB, hc, hn, wd⟩ := h
  have C := patternless_any c A k d W hc.len
  obtain ⟨q, hq⟩ : ∃ q, q = (c.demand == 0 && (c.pats.length : Int) == 0) := ⟨_, rfl⟩
  rw [← hq] at C ⊢
  obtain ⟨j0, j1, j2, j3, j4, j5, j6, j7, j8⟩ := BlkIs.cells9 hB
  unfold clientV at C
  clear hT hc hn wd hq hB
  go_enter Tryd.func61, Tryd.ntmps61
  go_wp2_with (go_at_call 73; refine C.mono ?_; rintro e w1 ⟨rfl, hb⟩)
  go_ret
  exact ⟨rfl, hb⟩
set_option maxHeartbeats 1000000 in
theorem all_fn (b n cap : Nat) (ms : List Value) (ps : List Bool) (g : Nat) (w : World) (hn : n ≤ 100) (hps : ps.length = n) (hc : ∀ k, k < n → w.cell? ⟨b, k, none⟩ = some (ms.getD k undef))
    (hf : ∀ k, k < n → ∀ W, Below w.heap.size w W → Calls Tryd.prog 61 #[ms.getD k undef, .pointer (some ⟨g, 0, none⟩)] W fun e w' => e = .returned (.bool (ps.getD k true)) ∧ Below W.heap.size W w') :
    Calls Tryd.prog 60 #[.slice (some ⟨b, 0, none⟩) n cap, .func (.func 61) #[] #[.pointer (some ⟨g, 0, none⟩)]] w fun e w' => e = .returned (.bool (ps.all id)) ∧ Below w.heap.size w w' := by
  have HC := Go.Lib.hid hc
  have HF := Go.Lib.hid hf
  have HL := Go.Lib.hid hps
  clear hc hf hps
  go_enter Tryd.func60, Tryd.ntmps60
  go_wp2
  go_loopw [9] (fun iv wr => ∃ k : Nat, k ≤ n ∧ iv = .int .i64 k ∧ (ps.take k).all id = true ∧ Below w.heap.size w wr) (fun iv _ => n - (intOf iv).toNat)
  case atStart => exact ⟨0, Nat.zero_le _, rfl, rfl, Below.refl _ _⟩
  case round =>
    obtain ⟨k, hk, rfl, ht, hb⟩ := hrel
    have HTK := Go.Lib.hid ht
    have HB := Go.Lib.hid hb
    clear ht hb
    by_cases hlt : k < n
    · have hkl : k < ps.length := by rw [HL.out]; exact hlt
      have c0 := keep_cell HB.out (HC.out k hlt)
      have C := HF.out k hlt wr HB.out
      have H1 : Hid ((ps.take (k + 1)).all id = ((ps.take k).all id && ps.getD k true)) := by
        show _ = _
        rw [List.take_succ_eq_append_getElem hkl, getD_in _ _ hkl, List.all_append]
        simp only [List.all_cons, List.all_nil, Bool.and_true, id]
      have H2 : Hid (ps.getD k true = false → ps.all id = false) := fun h => by
        rw [List.all_eq_false]
        exact ⟨_, List.getElem_mem hkl, by rw [getD_in _ _ hkl] at h; simpa using h⟩
      clear hkl
      generalize ps.getD k true = q at *
      generalize ms.getD k undef = mv at *
      cases q
      · go_wp2_with (go_at_call 61; refine C.mono ?_; rintro e w1 ⟨rfl, hb1⟩)
        go_ret
        exact ⟨ret_bool (H2.out (by first | rfl | trivial)).symm, HB.out.trans (hb1.mono HB.out.size)⟩
      · go_wp2_with (go_at_call 61; refine C.mono ?_; rintro e w1 ⟨rfl, hb1⟩)
        exact ⟨⟨k + 1, by omega, by go_num, by rw [H1.out, HTK.out]; rfl, HB.out.trans (hb1.mono HB.out.size)⟩, by simp [intOf]; omega⟩
    · obtain rfl : n = k := by omega
      have HE : Hid (ps.all id = true) := by have := HTK.out; rw [List.take_of_length_le (by rw [HL.out]; exact Nat.le_refl _)] at this; exact this
      go_wp2
      go_ret
      exact ⟨ret_bool HE.out.symm, HB.out⟩
def patM : List Value := [.func (.func 62) #[] #[], .func (.func 63) #[] #[], .func (.func 64) #[] #[], .func (.func 65) #[] #[], .func (.func 66) #[] #[]]
def patPs (c : Cust) (d : Int) : List Bool := [(c.kind == 1), (withinB c.demand 1 2147483648), (withinB c.pats.length 1 64), (timelyB c.pats d), (c.rate == 0 && c.size == 0 && c.start == 0 && c.rule == 0 && c.hold == 0)]
def patB (c : Cust) (d : Int) : Bool := (patPs c d).all id
theorem pat_is1 {w : World} {g : Nat} {c : Cust} {A : Option Addr} {k : Nat} {d : Int} (h : CustIn w g c A k d) (j : Nat) (hj : j < 5) (W : World) (hb : Below w.heap.size w W) :
    Calls Tryd.prog 61 #[patM.getD j undef, .pointer (some ⟨g, 0, none⟩)] W fun e w' => e = .returned (.bool ((patPs c d).getD j true)) ∧ Below W.heap.size W w' := by
  match j, hj with
  | 0, _ => exact is1_periodic (h.keep hb)
  | 1, _ => exact is1_demands (h.keep hb)
  | 2, _ => exact is1_chooses (h.keep hb)
  | 3, _ => exact is1_timely (h.keep hb)
  | 4, _ => exact is1_tankless (h.keep hb)
theorem pat_is (c : Cust) (A : Option Addr) (k : Nat) (d : Int) (b cap : Nat) (w : World) (hT : Tab w) (hc : c.Wf) (hn : Nums .u64 w A c.pats.length c.pats) (wd : W64 d) (hm : ∀ j, j < 5 → w.cell? ⟨b, j, none⟩ = some (patM.getD j undef)) :
    Calls Tryd.prog 54 #[clientV c A k d, .slice (some ⟨b, 0, none⟩) 5 cap] w fun e w' => e = .returned (.bool (patB c d)) ∧ Below w.heap.size w w' := by
  have hmf : ∀ (fn : Fn) (first cap : Array Value) (w : World), (Instr.makeFunc fn first cap).run Tryd.prog w = .ok (.func fn first cap) w := fun _ _ _ _ => rfl
  have hb := below_alloc w (.cells #[.int .i64 c.kind, .int .i64 c.demand, .slice A c.pats.length k, .int .i64 c.rate, .int .i64 c.size, .int .i64 c.start, .int .i64 c.rule, .int .i64 c.hold, .int .i64 d] 66)
  have K : CustIn (w.alloc (.cells #[.int .i64 c.kind, .int .i64 c.demand, .slice A c.pats.length k, .int .i64 c.rate, .int .i64 c.size, .int .i64 c.start, .int .i64 c.rule, .int .i64 c.hold, .int .i64 d] 66)) w.heap.size c A k d := ⟨hT.keep hb, BlkIs.fresh _ _ _, hc, hn.keep hb, wd⟩
  have C := all_fn b 5 cap patM (patPs c d) w.heap.size _ (by omega) rfl (fun j hj => keep_cell hb (hm j hj)) (fun j hj W hW => pat_is1 K j hj W hW)
  unfold clientV patB
  obtain ⟨q, hq⟩ : ∃ q, q = (patPs c d).all id := ⟨_, rfl⟩
  rw [← hq] at C ⊢
  clear hT hc hn wd hm K hq
  go_enter Tryd.func54, Tryd.ntmps54
  go_wp2_with (go_at_call 60; refine C.mono ?_; rintro e w1 ⟨rfl, hb1⟩)
  go_ret
  exact ⟨rfl, hb.trans (hb1.mono hb.size)⟩
theorem patterned_any (w : World) : Calls Tryd.prog 55 #[] w fun e w' => ∃ b, e = .returned (.slice (some ⟨b, 0, none⟩) 5 5) ∧ (∀ j, j < 5 → w'.cell? ⟨b, j, none⟩ = some (patM.getD j undef)) ∧ Below w.heap.size w w' := by
  have J := BlkIs.fresh w 79 #[.func (.func 62) #[] #[], .func (.func 63) #[] #[], .func (.func 64) #[] #[], .func (.func 65) #[] #[], .func (.func 66) #[] #[]]
  have HJ : Hid (∀ j, j < 5 → (w.alloc (.cells #[.func (.func 62) #[] #[], .func (.func 63) #[] #[], .func (.func 64) #[] #[], .func (.func 65) #[] #[], .func (.func 66) #[] #[]] 79)).cell? ⟨w.heap.size, j, none⟩ = some (patM.getD j undef)) := fun j hj => by
    rw [J.cellAt]
    match j, hj with
    | 0, _ => rfl
    | 1, _ => rfl
    | 2, _ => rfl
    | 3, _ => rfl
    | 4, _ => rfl
  clear J
  go_enter Tryd.func55, Tryd.ntmps55
  go_wp2
  go_ret
  exact ⟨_, rfl, HJ.out, below_alloc _ _⟩
def tanM : List Value := [.func (.func 67) #[] #[], .func (.func 68) #[] #[], .func (.func 69) #[] #[], .func (.func 70) #[] #[], .func (.func 71) #[] #[], .func (.func 72) #[] #[], .func (.func 73) #[] #[]]
def tanPs (c : Cust) (d : Int) : List Bool := [(c.kind == 2), (sizeB c.rate), (withinB c.size 1 2147483648), (withinB c.start 0 c.size), (c.rule == 1 || c.rule == 2), (withinB c.hold 0 1024), (c.demand == 0 && (c.pats.length : Int) == 0)]
def tanB (c : Cust) (d : Int) : Bool := (tanPs c d).all id
theorem tan_is1 {w : World} {g : Nat} {c : Cust} {A : Option Addr} {k : Nat} {d : Int} (h : CustIn w g c A k d) (j : Nat) (hj : j < 7) (W : World) (hb : Below w.heap.size w W) :
    Calls Tryd.prog 61 #[tanM.getD j undef, .pointer (some ⟨g, 0, none⟩)] W fun e w' => e = .returned (.bool ((tanPs c d).getD j true)) ∧ Below W.heap.size W w' := by
  match j, hj with
  | 0, _ => exact is1_tank (h.keep hb)
  | 1, _ => exact is1_takes (h.keep hb)
  | 2, _ => exact is1_stores (h.keep hb)
  | 3, _ => exact is1_begins (h.keep hb)
  | 4, _ => exact is1_ruled (h.keep hb)
  | 5, _ => exact is1_holds (h.keep hb)
  | 6, _ => exact is1_patternless (h.keep hb)
theorem tan_is (c : Cust) (A : Option Addr) (k : Nat) (d : Int) (b cap : Nat) (w : World) (hT : Tab w) (hc : c.Wf) (hn : Nums .u64 w A c.pats.length c.pats) (wd : W64 d) (hm : ∀ j, j < 7 → w.cell? ⟨b, j, none⟩ = some (tanM.getD j undef)) :
    Calls Tryd.prog 54 #[clientV c A k d, .slice (some ⟨b, 0, none⟩) 7 cap] w fun e w' => e = .returned (.bool (tanB c d)) ∧ Below w.heap.size w w' := by
  have hmf : ∀ (fn : Fn) (first cap : Array Value) (w : World), (Instr.makeFunc fn first cap).run Tryd.prog w = .ok (.func fn first cap) w := fun _ _ _ _ => rfl
  have hb := below_alloc w (.cells #[.int .i64 c.kind, .int .i64 c.demand, .slice A c.pats.length k, .int .i64 c.rate, .int .i64 c.size, .int .i64 c.start, .int .i64 c.rule, .int .i64 c.hold, .int .i64 d] 66)
  have K : CustIn (w.alloc (.cells #[.int .i64 c.kind, .int .i64 c.demand, .slice A c.pats.length k, .int .i64 c.rate, .int .i64 c.size, .int .i64 c.start, .int .i64 c.rule, .int .i64 c.hold, .int .i64 d] 66)) w.heap.size c A k d := ⟨hT.keep hb, BlkIs.fresh _ _ _, hc, hn.keep hb, wd⟩
  have C := all_fn b 7 cap tanM (tanPs c d) w.heap.size _ (by omega) rfl (fun j hj => keep_cell hb (hm j hj)) (fun j hj W hW => tan_is1 K j hj W hW)
  unfold clientV tanB
  obtain ⟨q, hq⟩ : ∃ q, q = (tanPs c d).all id := ⟨_, rfl⟩
  rw [← hq] at C ⊢
  clear hT hc hn wd hm K hq
  go_enter Tryd.func54, Tryd.ntmps54
  go_wp2_with (go_at_call 60; refine C.mono ?_; rintro e w1 ⟨rfl, hb1⟩)
  go_ret
  exact ⟨rfl, hb.trans (hb1.mono hb.size)⟩
theorem tanked_any (w : World) : Calls Tryd.prog 56 #[] w fun e w' => ∃ b, e = .returned (.slice (some ⟨b, 0, none⟩) 7 7) ∧ (∀ j, j < 7 → w'.cell? ⟨b, j, none⟩ = some (tanM.getD j undef)) ∧ Below w.heap.size w w' := by
  have J := BlkIs.fresh w 79 #[.func (.func 67) #[] #[], .func (.func 68) #[] #[], .func (.func 69) #[] #[], .func (.func 70) #[] #[], .func (.func 71) #[] #[], .func (.func 72) #[] #[], .func (.func 73) #[] #[]]
  have HJ : Hid (∀ j, j < 7 → (w.alloc (.cells #[.func (.func 67) #[] #[], .func (.func 68) #[] #[], .func (.func 69) #[] #[], .func (.func 70) #[] #[], .func (.func 71) #[] #[], .func (.func 72) #[] #[], .func (.func 73) #[] #[]] 79)).cell? ⟨w.heap.size, j, none⟩ = some (tanM.getD j undef)) := fun j hj => by
    rw [J.cellAt]
    match j, hj with
    | 0, _ => rfl
    | 1, _ => rfl
    | 2, _ => rfl
    | 3, _ => rfl
    | 4, _ => rfl
    | 5, _ => rfl
    | 6, _ => rfl
  clear J
  go_enter Tryd.func56, Tryd.ntmps56
  go_wp2
  go_ret
  exact ⟨_, rfl, HJ.out, below_alloc _ _⟩
end Go.Proofs.YtmfahjghfpckeaaDoor
