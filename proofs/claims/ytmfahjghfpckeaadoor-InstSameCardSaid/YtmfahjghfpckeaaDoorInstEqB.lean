/- Two customers, and two instances, are the same: off the code. -/
import Derived.Test.YtmfahjghfpckeaaDoorInstEq
namespace Go.Proofs.YtmfahjghfpckeaaDoor
open Go.RowKit
set_option linter.unusedVariables false
theorem cust_dec (a b : Cust) : decide (a = b) = ((a.kind == b.kind) && ((a.demand == b.demand) && (decide (a.pats = b.pats) && ((a.rate == b.rate) && ((a.size == b.size) && ((a.start == b.start) && ((a.rule == b.rule) && (a.hold == b.hold)))))))) := by
  cases a
  cases b
  refine Bool.eq_iff_iff.2 ?_
  simp only [Cust.mk.injEq, decide_eq_true_iff, Bool.and_eq_true, beq_iff_eq]
theorem inst_dec (a b : Inst) : decide (a = b) = ((a.days == b.days) && ((a.veh == b.veh) && ((a.cap == b.cap) && ((a.len == b.len) && (decide (a.custs = b.custs) && decide (a.dist = b.dist)))))) := by
  cases a
  cases b
  refine Bool.eq_iff_iff.2 ?_
  simp only [Inst.mk.injEq, decide_eq_true_iff, Bool.and_eq_true, beq_iff_eq]
theorem equal_from {w : World} {A C : Option Addr} {n m : Nat} {xs ys : List Int} {q : Bool} (hq : decide (xs = ys) = q) (ha : Nums .u64 w A n xs) (hb : Nums .u64 w C m ys) (hn : n ≤ maxLen) (hm : m ≤ maxLen) (c d : Nat) (W : World) (h : Below w.heap.size w W) :
    Calls Tryd.prog 53 #[.slice A n c, .slice C m d] W fun e w' => e = .returned (.bool q) ∧ Below W.heap.size W w' := by
  subst hq
  exact equal_u A C n m c d xs ys W (ha.keep h) (hb.keep h) hn hm
set_option maxHeartbeats 4000000 in
theorem alike_any (p q : Cust) (A : Option Addr) (k : Nat) (B : Option Addr) (m : Nat) (w : World) (h1 : Nums .u64 w A p.pats.length p.pats) (h2 : Nums .u64 w B q.pats.length q.pats) (l1 : p.pats.length ≤ maxLen) (l2 : q.pats.length ≤ maxLen) :
    Calls Tryd.prog 39 #[custV p A k, custV q B m] w fun e w' => e = .returned (.bool (decide (p = q))) ∧ Below w.heap.size w w' := by
  have hb := (below_alloc w (.cells #[.int .i64 p.kind, .int .i64 p.demand, .slice A p.pats.length k, .int .i64 p.rate, .int .i64 p.size, .int .i64 p.start, .int .i64 p.rule, .int .i64 p.hold] 45)).trans ((below_alloc _ (.cells #[.int .i64 q.kind, .int .i64 q.demand, .slice B q.pats.length m, .int .i64 q.rate, .int .i64 q.size, .int .i64 q.start, .int .i64 q.rule, .int .i64 q.hold] 45)).mono (by simp))
  have CE := fun q' hq => equal_from (q := q') hq h1 h2 l1 l2
  have HB := Go.Lib.hid hb
  unfold custV
  clear hb h1 h2 l1 l2
  have KP := Go.Lib.hid ((BlkIs.fresh w 45 #[.int .i64 p.kind, .int .i64 p.demand, .slice A p.pats.length k, .int .i64 p.rate, .int .i64 p.size, .int .i64 p.start, .int .i64 p.rule, .int .i64 p.hold]).alloc (.cells #[.int .i64 q.kind, .int .i64 q.demand, .slice B q.pats.length m, .int .i64 q.rate, .int .i64 q.size, .int .i64 q.start, .int .i64 q.rule, .int .i64 q.hold] 45))
  have KQ := Go.Lib.hid (BlkIs.fresh (w.alloc (.cells #[.int .i64 p.kind, .int .i64 p.demand, .slice A p.pats.length k, .int .i64 p.rate, .int .i64 p.size, .int .i64 p.start, .int .i64 p.rule, .int .i64 p.hold] 45)) 45 #[.int .i64 q.kind, .int .i64 q.demand, .slice B q.pats.length m, .int .i64 q.rate, .int .i64 q.size, .int .i64 q.start, .int .i64 q.rule, .int .i64 q.hold])
  rcases Bool.eq_false_or_eq_true ((p.kind == q.kind)) with t0 | t0
  rotate_left
  · skip
    have hd : decide (p = q) = false := by rw [cust_dec, t0]; rfl
    rw [hd]
    go_enter Tryd.func39, Tryd.ntmps39
    go_wp2
    go_ret
    exact ⟨rfl, HB.out⟩
  rcases Bool.eq_false_or_eq_true ((p.demand == q.demand)) with t1 | t1
  rotate_left
  · skip
    have hd : decide (p = q) = false := by rw [cust_dec, t0, t1]; rfl
    rw [hd]
    go_enter Tryd.func39, Tryd.ntmps39
    go_wp2
    go_ret
    exact ⟨rfl, HB.out⟩
  rcases Bool.eq_false_or_eq_true (decide (p.pats = q.pats)) with t2 | t2
  rotate_left
  · skip
    have hd : decide (p = q) = false := by rw [cust_dec, t0, t1, t2]; rfl
    rw [hd]
    go_enter Tryd.func39, Tryd.ntmps39
    have CF := CE _ t2
    clear CE
    go_wp2_with (go_at_call 53; refine (CF _ _ _ HB.out).mono ?_; rintro e w1 ⟨rfl, hb1⟩; have HB1 := Go.Lib.hid (HB.out.trans (hb1.mono HB.out.size)); obtain ⟨k0, k1, k2, k3, k4, k5, k6, k7⟩ := (KP.out.below hb1 KP.out.lt).cells8; obtain ⟨m0, m1, m2, m3, m4, m5, m6, m7⟩ := (KQ.out.below hb1 KQ.out.lt).cells8; rw [World.size_alloc] at m0 m1 m2 m3 m4 m5 m6 m7; clear hb1)
    go_ret
    exact ⟨rfl, HB1.out⟩
  rcases Bool.eq_false_or_eq_true ((p.rate == q.rate)) with t3 | t3
  rotate_left
  · skip
    have hd : decide (p = q) = false := by rw [cust_dec, t0, t1, t2, t3]; rfl
    rw [hd]
    go_enter Tryd.func39, Tryd.ntmps39
    have CF := CE _ t2
    clear CE
    go_wp2_with (go_at_call 53; refine (CF _ _ _ HB.out).mono ?_; rintro e w1 ⟨rfl, hb1⟩; have HB1 := Go.Lib.hid (HB.out.trans (hb1.mono HB.out.size)); obtain ⟨k0, k1, k2, k3, k4, k5, k6, k7⟩ := (KP.out.below hb1 KP.out.lt).cells8; obtain ⟨m0, m1, m2, m3, m4, m5, m6, m7⟩ := (KQ.out.below hb1 KQ.out.lt).cells8; rw [World.size_alloc] at m0 m1 m2 m3 m4 m5 m6 m7; clear hb1)
    go_ret
    exact ⟨rfl, HB1.out⟩
  rcases Bool.eq_false_or_eq_true ((p.size == q.size)) with t4 | t4
  rotate_left
  · skip
    have hd : decide (p = q) = false := by rw [cust_dec, t0, t1, t2, t3, t4]; rfl
    rw [hd]
    go_enter Tryd.func39, Tryd.ntmps39
    have CF := CE _ t2
    clear CE
    go_wp2_with (go_at_call 53; refine (CF _ _ _ HB.out).mono ?_; rintro e w1 ⟨rfl, hb1⟩; have HB1 := Go.Lib.hid (HB.out.trans (hb1.mono HB.out.size)); obtain ⟨k0, k1, k2, k3, k4, k5, k6, k7⟩ := (KP.out.below hb1 KP.out.lt).cells8; obtain ⟨m0, m1, m2, m3, m4, m5, m6, m7⟩ := (KQ.out.below hb1 KQ.out.lt).cells8; rw [World.size_alloc] at m0 m1 m2 m3 m4 m5 m6 m7; clear hb1)
    go_ret
    exact ⟨rfl, HB1.out⟩
  rcases Bool.eq_false_or_eq_true ((p.start == q.start)) with t5 | t5
  rotate_left
  · skip
    have hd : decide (p = q) = false := by rw [cust_dec, t0, t1, t2, t3, t4, t5]; rfl
    rw [hd]
    go_enter Tryd.func39, Tryd.ntmps39
    have CF := CE _ t2
    clear CE
    go_wp2_with (go_at_call 53; refine (CF _ _ _ HB.out).mono ?_; rintro e w1 ⟨rfl, hb1⟩; have HB1 := Go.Lib.hid (HB.out.trans (hb1.mono HB.out.size)); obtain ⟨k0, k1, k2, k3, k4, k5, k6, k7⟩ := (KP.out.below hb1 KP.out.lt).cells8; obtain ⟨m0, m1, m2, m3, m4, m5, m6, m7⟩ := (KQ.out.below hb1 KQ.out.lt).cells8; rw [World.size_alloc] at m0 m1 m2 m3 m4 m5 m6 m7; clear hb1)
    go_ret
    exact ⟨rfl, HB1.out⟩
  rcases Bool.eq_false_or_eq_true ((p.rule == q.rule)) with t6 | t6
  rotate_left
  · skip
    have hd : decide (p = q) = false := by rw [cust_dec, t0, t1, t2, t3, t4, t5, t6]; rfl
    rw [hd]
    go_enter Tryd.func39, Tryd.ntmps39
    have CF := CE _ t2
    clear CE
    go_wp2_with (go_at_call 53; refine (CF _ _ _ HB.out).mono ?_; rintro e w1 ⟨rfl, hb1⟩; have HB1 := Go.Lib.hid (HB.out.trans (hb1.mono HB.out.size)); obtain ⟨k0, k1, k2, k3, k4, k5, k6, k7⟩ := (KP.out.below hb1 KP.out.lt).cells8; obtain ⟨m0, m1, m2, m3, m4, m5, m6, m7⟩ := (KQ.out.below hb1 KQ.out.lt).cells8; rw [World.size_alloc] at m0 m1 m2 m3 m4 m5 m6 m7; clear hb1)
    go_ret
    exact ⟨rfl, HB1.out⟩
  rcases Bool.eq_false_or_eq_true ((p.hold == q.hold)) with t7 | t7
  rotate_left
  · skip
    have hd : decide (p = q) = false := by rw [cust_dec, t0, t1, t2, t3, t4, t5, t6, t7]; rfl
    rw [hd]
    go_enter Tryd.func39, Tryd.ntmps39
    have CF := CE _ t2
    clear CE
    go_wp2_with (go_at_call 53; refine (CF _ _ _ HB.out).mono ?_; rintro e w1 ⟨rfl, hb1⟩; have HB1 := Go.Lib.hid (HB.out.trans (hb1.mono HB.out.size)); obtain ⟨k0, k1, k2, k3, k4, k5, k6, k7⟩ := (KP.out.below hb1 KP.out.lt).cells8; obtain ⟨m0, m1, m2, m3, m4, m5, m6, m7⟩ := (KQ.out.below hb1 KQ.out.lt).cells8; rw [World.size_alloc] at m0 m1 m2 m3 m4 m5 m6 m7; clear hb1)
    go_ret
    exact ⟨rfl, HB1.out⟩
  have hd : decide (p = q) = true := by rw [cust_dec, t0, t1, t2, t3, t4, t5, t6, t7]; rfl
  rw [hd]
  go_enter Tryd.func39, Tryd.ntmps39
  have CF := CE _ t2
  clear CE
  go_wp2_with (go_at_call 53; refine (CF _ _ _ HB.out).mono ?_; rintro e w1 ⟨rfl, hb1⟩; have HB1 := Go.Lib.hid (HB.out.trans (hb1.mono HB.out.size)); obtain ⟨k0, k1, k2, k3, k4, k5, k6, k7⟩ := (KP.out.below hb1 KP.out.lt).cells8; obtain ⟨m0, m1, m2, m3, m4, m5, m6, m7⟩ := (KQ.out.below hb1 KQ.out.lt).cells8; rw [World.size_alloc] at m0 m1 m2 m3 m4 m5 m6 m7; clear hb1)
  go_ret
  exact ⟨rfl, HB1.out⟩
end Go.Proofs.YtmfahjghfpckeaaDoor
