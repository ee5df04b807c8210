/- Which instances may be, off the code: the arcs, and all of it. -/
import Derived.Test.YtmfahjghfpckeaaDoorInstMayB
namespace Go.Proofs.YtmfahjghfpckeaaDoor
open Go.RowKit
set_option linter.unusedVariables false
set_option maxHeartbeats 1000000 in
theorem all_int (A : Option Addr) (n r : Nat) (l : List Int) (w : World) (hl : Ints w A n l) (hm : n ≤ maxLen) :
    Calls Tryd.prog 49 #[.slice A n r, .func (.func 45) #[] #[]] w fun e w' => e = .returned (.bool (l.all sizeB)) ∧ w = w' := by
  have HN := Go.Lib.hid hl
  have HL := Go.Lib.hid hl.1
  unfold maxLen at hm
  clear hl
  go_enter Tryd.func49, Tryd.ntmps49
  go_wp2
  go_loop [9] (fun iv => ∃ k : Nat, k ≤ n ∧ iv = .int .i64 k ∧ (l.take k).all sizeB = true) (fun iv => n - (intOf iv).toNat)
  case atStart => exact ⟨0, Nat.zero_le _, rfl, rfl⟩
  case round =>
    obtain ⟨k, hk, rfl, ht⟩ := hrel
    have HTK := Go.Lib.hid ht
    clear ht
    by_cases hlt : k < n
    · have hkl : k < l.length := by rw [HL.out]; exact hlt
      obtain ⟨b, off, rfl, hc⟩ := HN.out.2 (by omega)
      have c0 := hc k hlt
      have H1 : Hid ((l.take (k + 1)).all sizeB = ((l.take k).all sizeB && sizeB (l.getD k 0))) := by show _ = _; rw [getD_in _ _ hkl]; exact all_take l _ hkl
      have H2 : Hid (sizeB (l.getD k 0) = false → l.all sizeB = false) := fun h => all_no l _ hkl (by rw [getD_in _ _ hkl] at h; exact h)
      have C := fun W => size_any (l.getD k 0) W
      clear hkl hc
      generalize l.getD k 0 = v at *
      generalize sizeB v = q at *
      cases q
      · go_wp2_with (go_at_call 45; refine (C _).mono ?_; rintro e w1 ⟨rfl, rfl⟩)
        go_ret
        exact ⟨ret_bool (H2.out (by first | rfl | trivial)).symm, rfl⟩
      · go_wp2_with (go_at_call 45; refine (C _).mono ?_; rintro e w1 ⟨rfl, rfl⟩)
        go_round
        case rel => exact ⟨k + 1, by omega, by go_num, by rw [H1.out, HTK.out]; rfl⟩
        case measure => simp [intOf]; omega
    · obtain rfl : n = k := by omega
      have HE : Hid (l.all sizeB = true) := by have := HTK.out; rw [List.take_of_length_le (by rw [HL.out]; exact Nat.le_refl _)] at this; exact this
      go_wp2
      go_ret
      exact ⟨ret_bool HE.out.symm, rfl⟩
/-- A row of arcs may be. -/
def rowB (n a : Nat) (r : List Int) : Bool := r.length == n + 1 && r.getD a 0 == 0 && r.all sizeB
/-- All rows before row k may be. -/
def rowsB (n : Nat) (l : List (List Int)) (k : Nat) : Bool := (List.range k).all fun a => rowB n a (l.getD a [])
theorem rowsB_succ (n : Nat) (l : List (List Int)) (k : Nat) : rowsB n l (k + 1) = (rowsB n l k && rowB n k (l.getD k [])) := by
  unfold rowsB
  rw [List.range_succ, List.all_append]
  simp only [List.all_cons, List.all_nil, Bool.and_true]
theorem rowsB_no {n : Nat} {l : List (List Int)} {k m : Nat} (hk : k < m) (h : rowB n k (l.getD k []) = false) : rowsB n l m = false := by
  unfold rowsB
  rw [List.all_eq_false]
  exact ⟨k, List.mem_range.2 hk, by simpa using h⟩
/-- The arcs may be. -/
def measB (x : Inst) : Bool := x.dist.length == x.custs.length + 1 && rowsB x.custs.length x.dist x.dist.length
set_option maxHeartbeats 4000000 in
theorem measured_any (x : Inst) (A : Option Addr) (c : Nat) (B : Option Addr) (d : Nat) (w : World) (h : InstIs w x A B) (hn : x.custs.length ≤ 2000) :
    Calls Tryd.prog 25 #[instV x A c B d] w fun e w' => e = .returned (.bool (measB x)) ∧ Below w.heap.size w w' := by
  have hb := below_alloc w (.cells #[.int .i64 x.days, .int .i64 x.veh, .int .i64 x.cap, .int .i64 x.len, .slice A x.custs.length c, .slice B x.dist.length d] 25)
  have HI := Go.Lib.hid (h.keep hb)
  have hm := h.wf.m
  unfold maxLen at hm
  unfold instV
  by_cases hmn : x.dist.length = x.custs.length + 1
  · have em : measB x = rowsB x.custs.length x.dist x.dist.length := by unfold measB; rw [beq_iff_eq.2 hmn, Bool.true_and]
    rw [em]
    have t1 : ((x.dist.length : Int) != (x.custs.length : Int) + 1) = false := by simp; omega
    have HMN := Go.Lib.hid hmn
    have hmi : x.dist.length ≤ 2001 := by omega
    clear h em hmn
    go_enter Tryd.func25, Tryd.ntmps25
    go_wp2
    obtain ⟨W0, hW0⟩ : ∃ W, W = w.alloc (.cells #[.int .i64 x.days, .int .i64 x.veh, .int .i64 x.cap, .int .i64 x.len, .slice A x.custs.length c, .slice B x.dist.length d] 25) := ⟨_, rfl⟩
    rw [← hW0] at hb HI ⊢
    clear hW0
    go_loop [18] (fun iv => ∃ k : Nat, k ≤ x.dist.length ∧ iv = .int .i64 k ∧ rowsB x.custs.length x.dist k = true) (fun iv => x.dist.length - (intOf iv).toNat)
    case atStart => exact ⟨0, Nat.zero_le _, rfl, rfl⟩
    case round =>
      obtain ⟨k, hk, rfl, ht⟩ := hrel
      have HTK := Go.Lib.hid ht
      clear ht
      by_cases hlt : k < x.dist.length
      · obtain ⟨b, off, P, r, rfl, h1, h2, h3⟩ := HI.out.dist k hlt
        have hrl := (HI.out.wf.dist _ (List.getElem_mem hlt)).1
        have H1 : Hid (rowsB x.custs.length x.dist (k + 1) = (rowsB x.custs.length x.dist k && rowB x.custs.length k (x.dist[k]))) := by show _ = _; rw [rowsB_succ, getD_in _ _ hlt]
        have H2 : Hid (rowB x.custs.length k (x.dist[k]) = false → rowsB x.custs.length x.dist x.dist.length = false) := fun h => rowsB_no hlt (by rw [getD_in _ _ hlt]; exact h)
        obtain ⟨ro, hro⟩ : ∃ ro, ro = x.dist[k] := ⟨_, rfl⟩
        rw [← hro] at h1 h2 h3 hrl H1 H2
        clear hro
        unfold maxLen at hrl
        by_cases hrn : ro.length = x.custs.length + 1
        · have t2 : ((ro.length : Int) != (x.custs.length : Int) + 1) = false := by simp; omega
          have hkr : k < ro.length := by have := HMN.out; omega
          obtain ⟨b2, off2, rfl, hc⟩ := h2.2 (by omega)
          have c0 := hc k hkr
          have C := all_int (some ⟨b2, off2, none⟩) ro.length r ro W0 h2 (by unfold maxLen; omega)
          have H3 : Hid (rowB x.custs.length k ro = (ro.getD k 0 == 0 && ro.all sizeB)) := by show _ = _; unfold rowB; rw [beq_iff_eq.2 hrn, Bool.true_and]
          clear h2 hc hrn
          generalize ro.all sizeB = q at *
          by_cases hv : ro.getD k 0 = 0
          · have H4 : Hid (rowB x.custs.length k ro = q) := by show _ = _; rw [H3.out, beq_iff_eq.2 hv, Bool.true_and]
            have t3 : (ro.getD k 0 != 0) = false := by rw [hv]; rfl
            clear hv H3
            generalize ro.getD k 0 = v at *
            generalize rowB x.custs.length k ro = rb at *
            cases q
            · go_wp2_with (go_at_call 49; refine C.mono ?_; rintro e w1 ⟨rfl, rfl⟩)
              go_ret
              exact ⟨ret_bool (H2.out H4.out).symm, hb⟩
            · go_wp2_with (go_at_call 49; refine C.mono ?_; rintro e w1 ⟨rfl, rfl⟩)
              go_round
              case rel => exact ⟨k + 1, by omega, by go_num, by rw [H1.out, HTK.out, H4.out]; rfl⟩
              case measure => simp [intOf]; omega
          · have H4 : Hid (rowB x.custs.length k ro = false) := by show _ = _; rw [H3.out, beq_eq_false_iff_ne.2 hv, Bool.false_and]
            have t3 : (ro.getD k 0 != 0) = true := bne_iff_ne.2 hv
            clear hv H3 C
            generalize ro.getD k 0 = v at *
            generalize rowB x.custs.length k ro = rb at *
            go_wp2
            go_ret
            exact ⟨ret_bool (H2.out H4.out).symm, hb⟩
        · have t2 : ((ro.length : Int) != (x.custs.length : Int) + 1) = true := by simp; omega
          have H4 : Hid (rowB x.custs.length k ro = false) := by show _ = _; unfold rowB; rw [beq_eq_false_iff_ne.2 hrn, Bool.false_and, Bool.false_and]
          clear h2 hrn
          generalize rowB x.custs.length k ro = rb at *
          go_wp2
          go_ret
          exact ⟨ret_bool (H2.out H4.out).symm, hb⟩
      · obtain rfl : k = x.dist.length := by omega
        go_wp2
        go_ret
        exact ⟨ret_bool HTK.out.symm, hb⟩
  · have em : measB x = false := by unfold measB; rw [beq_eq_false_iff_ne.2 hmn, Bool.false_and]
    rw [em]
    have t1 : ((x.dist.length : Int) != (x.custs.length : Int) + 1) = true := by simp; omega
    clear h em hmn
    go_enter Tryd.func25, Tryd.ntmps25
    go_wp2
    go_ret
    exact ⟨rfl, hb⟩
/-- An instance may be. -/
def mayI (x : Inst) : Bool := sizedB x && peopledB x && measB x
set_option maxHeartbeats 1000000 in
theorem May_code (x : Inst) (A : Option Addr) (c : Nat) (B : Option Addr) (d : Nat) (w : World) (hT : Tab w) (h : InstIs w x A B) :
    Calls Tryd.prog 9 #[instV x A c B d] w fun e w' => e = .returned (.int .i64 (if mayI x = true then 0 else 3)) ∧ Below w.heap.size w w' := by
  have hb := below_alloc w (.cells #[.int .i64 x.days, .int .i64 x.veh, .int .i64 x.cap, .int .i64 x.len, .slice A x.custs.length c, .slice B x.dist.length d] 25)
  have J := InstBox.fresh w x A c B d
  have C1 := fun W => sized_any x A c B d W
  have C2 := fun W (hB : Below w.heap.size w W) => peopled_any x A c B d W (hT.keep hB) (h.keep hB)
  have C3 := fun W (hB : Below w.heap.size w W) hn => measured_any x A c B d W (h.keep hB) hn
  have HP : Hid (peopledB x = true → x.custs.length ≤ 2000) := fun hp => by
    unfold peopledB at hp
    exact of_decide_eq_true (Bool.and_eq_true_iff.1 hp).1
  obtain ⟨e, he⟩ : ∃ e : Int, e = if mayI x = true then 0 else 3 := ⟨_, rfl⟩
  rw [← he]
  unfold mayI at he
  have HE := Go.Lib.hid he
  unfold instV at *
  clear he h hT
  generalize sizedB x = b1 at *
  generalize peopledB x = b2 at *
  generalize measB x = b3 at *
  obtain ⟨j0, j1, j2, j3, j4, j5⟩ := J.cells
  have HJ := Go.Lib.hid J
  have HB := Go.Lib.hid hb
  clear J hb
  cases b1 <;> cases b2 <;> cases b3
  all_goals
    go_enter Tryd.func9, Tryd.ntmps9
    go_wp2_with (first
      | (go_at_call 23; refine (C1 _).mono ?_; rintro e w1 ⟨rfl, hb1⟩; have HJ1 := Go.Lib.hid (HJ.out.keep hb1); have HB1 := Go.Lib.hid (HB.out.trans (hb1.mono HB.out.size)); clear HJ HB; have HJ := HJ1; have HB := HB1; clear HJ1 HB1 hb1; obtain ⟨k0, k1, k2, k3, k4, k5⟩ := HJ.out.cells)
      | (go_at_call 24; refine (C2 _ HB.out).mono ?_; rintro e w1 ⟨rfl, hb1⟩; have HJ1 := Go.Lib.hid (HJ.out.keep hb1); have HB1 := Go.Lib.hid (HB.out.trans (hb1.mono HB.out.size)); clear HJ HB; have HJ := HJ1; have HB := HB1; clear HJ1 HB1 hb1; obtain ⟨k0, k1, k2, k3, k4, k5⟩ := HJ.out.cells)
      | (go_at_call 25; refine (C3 _ HB.out (HP.out (by first | rfl | trivial))).mono ?_; rintro e w1 ⟨rfl, hb1⟩; have HB1 := Go.Lib.hid (HB.out.trans (hb1.mono HB.out.size)); clear HB; have HB := HB1; clear HB1 hb1))
    go_ret
    exact ⟨by rw [HE.out]; rfl, HB.out⟩
end Go.Proofs.YtmfahjghfpckeaaDoor
