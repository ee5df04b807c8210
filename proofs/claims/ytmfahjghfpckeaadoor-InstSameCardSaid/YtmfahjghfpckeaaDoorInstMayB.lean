/- Which instances may be, off the code: the customers, and the numbers. -/
import Derived.Test.YtmfahjghfpckeaaDoorInstMay
namespace Go.Proofs.YtmfahjghfpckeaaDoor
open Go.RowKit
set_option linter.unusedVariables false
set_option maxHeartbeats 1000000 in
theorem peopled1_any (c : Cust) (A : Option Addr) (k : Nat) (d : Int) (g : Nat) (w : World) (hT : Tab w) (hc : c.Wf) (hn : Nums .u64 w A c.pats.length c.pats) (wd : W64 d) (hg : w.cell? ⟨g, 0, none⟩ = some (.int .i64 d)) :
    Calls Tryd.prog 47 #[custV c A k, .pointer (some ⟨g, 0, none⟩)] w fun e w' => e = .returned (.bool (mayC c d)) ∧ Below w.heap.size w w' := by
  have hb := below_alloc w (.cells #[.int .i64 c.kind, .int .i64 c.demand, .slice A c.pats.length k, .int .i64 c.rate, .int .i64 c.size, .int .i64 c.start, .int .i64 c.rule, .int .i64 c.hold] 45)
  have C := may_any c A k d _ (hT.keep hb) hc (hn.keep hb) wd
  have hg2 := keep_cell hb hg
  obtain ⟨q, hq⟩ : ∃ q, q = mayC c d := ⟨_, rfl⟩
  rw [← hq] at C ⊢
  unfold clientV at C
  unfold custV
  clear hT hc hn wd hq
  go_enter Tryd.func47, Tryd.ntmps47
  go_wp2_with (go_at_call 48; refine C.mono ?_; rintro e w1 ⟨rfl, hb1⟩)
  go_ret
  exact ⟨rfl, hb.trans (hb1.mono hb.size)⟩
theorem all_take {α : Type} (l : List α) (p : α → Bool) {k : Nat} (hk : k < l.length) : (l.take (k + 1)).all p = ((l.take k).all p && p l[k]) := by
  rw [List.take_succ_eq_append_getElem hk, List.all_append]
  simp only [List.all_cons, List.all_nil, Bool.and_true]
theorem all_no {α : Type} (l : List α) (p : α → Bool) {k : Nat} (hk : k < l.length) (h : p l[k] = false) : l.all p = false := by
  rw [List.all_eq_false]
  exact ⟨_, List.getElem_mem hk, by simpa using h⟩
set_option maxHeartbeats 2000000 in
theorem all_cust (A : Option Addr) (n r : Nat) (l : List Cust) (g : Nat) (d : Int) (w : World) (hT : Tab w) (hl : CustsIs w A l) (hw : ∀ c ∈ l, c.Wf) (hn : l.length = n) (hm : n ≤ maxLen) (wd : W64 d) (hg : w.cell? ⟨g, 0, none⟩ = some (.int .i64 d)) :
    Calls Tryd.prog 46 #[.slice A n r, .func (.func 47) #[] #[.pointer (some ⟨g, 0, none⟩)]] w fun e w' => e = .returned (.bool (l.all fun c => mayC c d)) ∧ Below w.heap.size w w' := by
  have HT := Go.Lib.hid hT
  have HC := Go.Lib.hid hl
  have HWF := Go.Lib.hid hw
  have HG := Go.Lib.hid hg
  have HW := Go.Lib.hid wd
  have HL := Go.Lib.hid hn
  unfold maxLen at hm
  clear hT hl hw hg wd hn
  go_enter Tryd.func46, Tryd.ntmps46
  go_wp2
  go_loopw [9] (fun iv wr => ∃ k : Nat, k ≤ n ∧ iv = .int .i64 k ∧ (l.take k).all (fun c => mayC c d) = true ∧ Below w.heap.size w wr) (fun iv _ => n - (intOf iv).toNat)
  case atStart => exact ⟨0, Nat.zero_le _, rfl, rfl, Below.refl _ _⟩
  case round =>
    obtain ⟨k, hk, rfl, ht, hb⟩ := hrel
    have HTK := Go.Lib.hid ht
    have HB := Go.Lib.hid hb
    clear ht hb
    by_cases hlt : k < n
    · have hkl : k < l.length := by rw [HL.out]; exact hlt
      obtain ⟨b, off, P, kp, rfl, hca, hnp, hkp⟩ := HC.out k hkl
      have hcw := HWF.out _ (List.getElem_mem hkl)
      have H1 : Hid ((l.take (k + 1)).all (fun c => mayC c d) = ((l.take k).all (fun c => mayC c d) && mayC (l[k]) d)) := all_take l _ hkl
      have H2 : Hid (mayC (l[k]) d = false → l.all (fun c => mayC c d) = false) := fun h => all_no l _ hkl h
      obtain ⟨ci, hci⟩ : ∃ ci, ci = l[k] := ⟨_, rfl⟩
      rw [← hci] at hca hnp hcw H1 H2 hkp
      clear hci
      obtain ⟨e0, e1, e2, e3, e4, e5, e6, e7⟩ := hca.keep HB.out
      have hba := below_alloc wr (.cells #[.int .i64 ci.kind, .int .i64 ci.demand, .slice P ci.pats.length kp, .int .i64 ci.rate, .int .i64 ci.size, .int .i64 ci.start, .int .i64 ci.rule, .int .i64 ci.hold] 45)
      have HB2 := Go.Lib.hid (HB.out.trans (hba.mono HB.out.size))
      have C := peopled1_any ci P kp d g _ (HT.out.keep HB2.out) hcw (hnp.keep HB2.out) HW.out (keep_cell HB2.out HG.out)
      unfold custV at C
      clear hkl hca hnp hcw hkp hba
      generalize mayC ci d = q at *
      cases q
      · go_wp2_with (go_at_call 47; refine C.mono ?_; rintro e w1 ⟨rfl, hb1⟩)
        go_ret
        exact ⟨ret_bool (H2.out (by first | rfl | trivial)).symm, HB2.out.trans (hb1.mono HB2.out.size)⟩
      · go_wp2_with (go_at_call 47; refine C.mono ?_; rintro e w1 ⟨rfl, hb1⟩)
        exact ⟨⟨k + 1, by omega, by go_num, by rw [H1.out, HTK.out]; rfl, HB2.out.trans (hb1.mono HB2.out.size)⟩, by simp [intOf]; omega⟩
    · obtain rfl : n = k := by omega
      have HE : Hid (l.all (fun c => mayC c d) = true) := by have := HTK.out; rw [List.take_of_length_le (by rw [HL.out]; exact Nat.le_refl _)] at this; exact this
      go_wp2
      go_ret
      exact ⟨ret_bool HE.out.symm, HB.out⟩
/-- An instance's customers may be. -/
def peopledB (x : Inst) : Bool := decide (x.custs.length ≤ 2000) && x.custs.all fun c => mayC c x.days
set_option maxHeartbeats 1000000 in
theorem peopled_any (x : Inst) (A : Option Addr) (c : Nat) (B : Option Addr) (d : Nat) (w : World) (hT : Tab w) (h : InstIs w x A B) :
    Calls Tryd.prog 24 #[instV x A c B d] w fun e w' => e = .returned (.bool (peopledB x)) ∧ Below w.heap.size w w' := by
  have hmf : ∀ (fn : Fn) (first cap : Array Value) (w : World), (Instr.makeFunc fn first cap).run Tryd.prog w = .ok (.func fn first cap) w := fun _ _ _ _ => rfl
  have hb := below_alloc w (.cells #[.int .i64 x.days, .int .i64 x.veh, .int .i64 x.cap, .int .i64 x.len, .slice A x.custs.length c, .slice B x.dist.length d] 25)
  have C := all_cust A x.custs.length c x.custs w.heap.size x.days _ (hT.keep hb) (h.custs.keep hb) h.wf.custs rfl h.wf.n h.wf.days (InstBox.fresh w x A c B d).cells.1
  have hn := h.wf.n
  unfold maxLen at hn
  unfold instV
  unfold peopledB
  generalize (x.custs.all fun c => mayC c x.days) = q at *
  clear h hT
  by_cases hl : x.custs.length ≤ 2000
  · have hl2 : ¬ (2000 : Int) < (x.custs.length : Int) := by omega
    rw [decide_eq_true hl, Bool.true_and]
    go_enter Tryd.func24, Tryd.ntmps24
    go_wp2_with (go_at_call 46; refine C.mono ?_; rintro e w1 ⟨rfl, hb1⟩)
    go_ret
    exact ⟨rfl, hb.trans (hb1.mono hb.size)⟩
  · have hl2 : (2000 : Int) < (x.custs.length : Int) := by omega
    rw [decide_eq_false hl, Bool.false_and]
    clear C
    go_enter Tryd.func24, Tryd.ntmps24
    go_wp2
    go_ret
    exact ⟨rfl, hb⟩
/-- An instance's own numbers may be. -/
def sizedB (x : Inst) : Bool := withinB x.days 1 64 && sizeB x.veh && sizeB x.cap && sizeB x.len
theorem sized_any (x : Inst) (A : Option Addr) (c : Nat) (B : Option Addr) (d : Nat) (w : World) :
    Calls Tryd.prog 23 #[instV x A c B d] w fun e w' => e = .returned (.bool (sizedB x)) ∧ Below w.heap.size w w' := by
  have hb := below_alloc w (.cells #[.int .i64 x.days, .int .i64 x.veh, .int .i64 x.cap, .int .i64 x.len, .slice A x.custs.length c, .slice B x.dist.length d] 25)
  have C1 := fun W => within_any x.days 1 64 W
  have C2 := fun W => size_any x.veh W
  have C3 := fun W => size_any x.cap W
  have C4 := fun W => size_any x.len W
  unfold instV sizedB
  generalize withinB x.days 1 64 = b1 at *
  generalize sizeB x.veh = b2 at *
  generalize sizeB x.cap = b3 at *
  generalize sizeB x.len = b4 at *
  cases b1 <;> cases b2 <;> cases b3
  all_goals
    go_enter Tryd.func23, Tryd.ntmps23
    go_wp2_with (first
      | (go_at_call 44; refine (C1 _).mono ?_; rintro e w1 ⟨rfl, rfl⟩)
      | (go_at_call 45; (first | (with_reducible refine (C2 _).mono ?_) | (with_reducible refine (C3 _).mono ?_) | (with_reducible refine (C4 _).mono ?_)); rintro e w1 ⟨rfl, rfl⟩))
    go_ret
    exact ⟨rfl, hb⟩
end Go.Proofs.YtmfahjghfpckeaaDoor
