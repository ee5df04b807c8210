/- Two instances are the same: the code's Same, and the document's same. -/
import Derived.Test.YtmfahjghfpckeaaDoorInstEqC
namespace Go.Proofs.YtmfahjghfpckeaaDoor
open Go.RowKit
set_option linter.unusedVariables false
theorem cust_dec2 (a b : Cust) : decide (a = b) = ((a.kind == b.kind) && ((a.demand == b.demand) && ((a.rate == b.rate) && ((a.size == b.size) && ((a.start == b.start) && ((a.rule == b.rule) && ((a.hold == b.hold) && decide (a.pats = b.pats)))))))) := by
  cases a
  cases b
  refine Bool.eq_iff_iff.2 ?_
  simp only [Cust.mk.injEq, decide_eq_true_iff, Bool.and_eq_true, beq_iff_eq]
  constructor
  · rintro ⟨a1, a2, a3, a4, a5, a6, a7, a8⟩
    exact ⟨a1, a2, a4, a5, a6, a7, a8, a3⟩
  · rintro ⟨a1, a2, a4, a5, a6, a7, a8, a3⟩
    exact ⟨a1, a2, a3, a4, a5, a6, a7, a8⟩
theorem equalfc_from {w : World} {A C : Option Addr} {xs ys : List Cust} {r : Bool} (hr : decide (xs = ys) = r) (hx : CustsIs w A xs) (hy : CustsIs w C ys) (fx : ∀ t ∈ xs, t.Wf) (fy : ∀ t ∈ ys, t.Wf) (hn : xs.length ≤ maxLen) (hm : ys.length ≤ maxLen) (c d : Nat) (W : World) (h : Below w.heap.size w W) :
    Calls Tryd.prog 38 #[.slice A xs.length c, .slice C ys.length d, .func (.func 39) #[] #[]] W fun e w' => e = .returned (.bool r) ∧ Below W.heap.size W w' := by
  subst hr
  exact equalf_c A C _ _ c d xs ys W (hx.keep h) (hy.keep h) fx fy rfl rfl hn hm
theorem equalfd_from {w : World} {A C : Option Addr} {xs ys : List (List Int)} {r : Bool} (hr : decide (xs = ys) = r) (hx : DistIs w A xs) (hy : DistIs w C ys) (fx : ∀ t ∈ xs, t.length ≤ maxLen ∧ ∀ z ∈ t, W64 z) (fy : ∀ t ∈ ys, t.length ≤ maxLen ∧ ∀ z ∈ t, W64 z) (hn : xs.length ≤ maxLen) (hm : ys.length ≤ maxLen) (c d : Nat) (W : World) (h : Below w.heap.size w W) :
    Calls Tryd.prog 40 #[.slice A xs.length c, .slice C ys.length d, .func (.func 41) #[] #[]] W fun e w' => e = .returned (.bool r) ∧ Below W.heap.size W w' := by
  subst hr
  exact equalf_d A C _ _ c d xs ys W (hx.keep h) (hy.keep h) fx fy rfl rfl hn hm
set_option maxHeartbeats 4000000 in
theorem Same_code (x y : Inst) (A : Option Addr) (c : Nat) (B : Option Addr) (d : Nat) (C : Option Addr) (e : Nat) (D : Option Addr) (f : Nat) (w : World) (hx : InstIs w x A B) (hy : InstIs w y C D) :
    Calls Tryd.prog 21 #[instV x A c B d, instV y C e D f] w fun e w' => e = .returned (.bool (decide (x = y))) ∧ Below w.heap.size w w' := by
  have hb := (below_alloc w (.cells #[.int .i64 x.days, .int .i64 x.veh, .int .i64 x.cap, .int .i64 x.len, .slice A x.custs.length c, .slice B x.dist.length d] 25)).trans ((below_alloc _ (.cells #[.int .i64 y.days, .int .i64 y.veh, .int .i64 y.cap, .int .i64 y.len, .slice C y.custs.length e, .slice D y.dist.length f] 25)).mono (by simp))
  have HB := Go.Lib.hid hb
  have KP := Go.Lib.hid ((InstBox.fresh w x A c B d).keep (below_alloc _ (.cells #[.int .i64 y.days, .int .i64 y.veh, .int .i64 y.cap, .int .i64 y.len, .slice C y.custs.length e, .slice D y.dist.length f] 25)))
  have KQ := Go.Lib.hid (InstBox.fresh (w.alloc (.cells #[.int .i64 x.days, .int .i64 x.veh, .int .i64 x.cap, .int .i64 x.len, .slice A x.custs.length c, .slice B x.dist.length d] 25)) y C e D f)
  have CC := fun r hr => equalfc_from (r := r) hr hx.custs hy.custs hx.wf.custs hy.wf.custs hx.wf.n hy.wf.n c e
  have CD := fun r hr => equalfd_from (r := r) hr hx.dist hy.dist hx.wf.dist hy.wf.dist hx.wf.m hy.wf.m d f
  unfold instV
  clear hb hx hy
  rcases Bool.eq_false_or_eq_true (x.days == y.days) with t0 | t0
  rotate_left
  · skip
    have hd : decide (x = y) = false := by rw [inst_dec, t0]; rfl
    rw [hd]
    go_enter Tryd.func21, Tryd.ntmps21
    go_wp2
    go_ret
    exact ⟨rfl, HB.out⟩
  rcases Bool.eq_false_or_eq_true (x.veh == y.veh) with t1 | t1
  rotate_left
  · skip
    have hd : decide (x = y) = false := by rw [inst_dec, t0, t1]; rfl
    rw [hd]
    go_enter Tryd.func21, Tryd.ntmps21
    go_wp2
    go_ret
    exact ⟨rfl, HB.out⟩
  rcases Bool.eq_false_or_eq_true (x.cap == y.cap) with t2 | t2
  rotate_left
  · skip
    have hd : decide (x = y) = false := by rw [inst_dec, t0, t1, t2]; rfl
    rw [hd]
    go_enter Tryd.func21, Tryd.ntmps21
    go_wp2
    go_ret
    exact ⟨rfl, HB.out⟩
  rcases Bool.eq_false_or_eq_true (x.len == y.len) with t3 | t3
  rotate_left
  · skip
    have hd : decide (x = y) = false := by rw [inst_dec, t0, t1, t2, t3]; rfl
    rw [hd]
    go_enter Tryd.func21, Tryd.ntmps21
    go_wp2
    go_ret
    exact ⟨rfl, HB.out⟩
  rcases Bool.eq_false_or_eq_true (decide (x.custs = y.custs)) with t4 | t4
  rotate_left
  · skip
    have hd : decide (x = y) = false := by rw [inst_dec, t0, t1, t2, t3, t4]; rfl
    rw [hd]
    go_enter Tryd.func21, Tryd.ntmps21
    have CF := CC _ t4
    clear CC CD
    go_wp2_with (go_at_call 38; refine (CF _ HB.out).mono ?_; rintro e w1 ⟨rfl, hb1⟩; have HB1 := Go.Lib.hid (HB.out.trans (hb1.mono HB.out.size)); obtain ⟨k0, k1, k2, k3, k4, k5⟩ := (KP.out.keep hb1).cells; obtain ⟨m0, m1, m2, m3, m4, m5⟩ := (KQ.out.keep hb1).cells; rw [World.size_alloc] at m0 m1 m2 m3 m4 m5; clear hb1)
    go_ret
    exact ⟨rfl, HB1.out⟩
  rcases Bool.eq_false_or_eq_true (decide (x.dist = y.dist)) with t5 | t5
  rotate_left
  · skip
    have hd : decide (x = y) = false := by rw [inst_dec, t0, t1, t2, t3, t4, t5]; rfl
    rw [hd]
    go_enter Tryd.func21, Tryd.ntmps21
    have CF := CC _ t4
    have CG := CD _ t5
    clear CC CD
    go_wp2_with (first | (go_at_call 38; refine (CF _ HB.out).mono ?_; rintro e w1 ⟨rfl, hb1⟩; have HB1 := Go.Lib.hid (HB.out.trans (hb1.mono HB.out.size)); obtain ⟨k0, k1, k2, k3, k4, k5⟩ := (KP.out.keep hb1).cells; obtain ⟨m0, m1, m2, m3, m4, m5⟩ := (KQ.out.keep hb1).cells; rw [World.size_alloc] at m0 m1 m2 m3 m4 m5; clear hb1) | (go_at_call 40; refine (CG _ HB1.out).mono ?_; rintro e w2 ⟨rfl, hb2⟩; have HB2 := Go.Lib.hid (HB1.out.trans (hb2.mono HB1.out.size)); clear hb2))
    go_ret
    exact ⟨rfl, HB2.out⟩
  have hd : decide (x = y) = true := by rw [inst_dec, t0, t1, t2, t3, t4, t5]; rfl
  rw [hd]
  go_enter Tryd.func21, Tryd.ntmps21
  have CF := CC _ t4
  have CG := CD _ t5
  clear CC CD
  go_wp2_with (first | (go_at_call 38; refine (CF _ HB.out).mono ?_; rintro e w1 ⟨rfl, hb1⟩; have HB1 := Go.Lib.hid (HB.out.trans (hb1.mono HB.out.size)); obtain ⟨k0, k1, k2, k3, k4, k5⟩ := (KP.out.keep hb1).cells; obtain ⟨m0, m1, m2, m3, m4, m5⟩ := (KQ.out.keep hb1).cells; rw [World.size_alloc] at m0 m1 m2 m3 m4 m5; clear hb1) | (go_at_call 40; refine (CG _ HB1.out).mono ?_; rintro e w2 ⟨rfl, hb2⟩; have HB2 := Go.Lib.hid (HB1.out.trans (hb2.mono HB1.out.size)); clear hb2))
  go_ret
  exact ⟨rfl, HB2.out⟩
set_option maxHeartbeats 4000000 in
theorem same_any (p q : Cust) (A : Option Addr) (k : Nat) (B : Option Addr) (m : Nat) (w : World) (h1 : Nums .u64 w A p.pats.length p.pats) (h2 : Nums .u64 w B q.pats.length q.pats) (l1 : p.pats.length ≤ maxLen) (l2 : q.pats.length ≤ maxLen) :
    Calls Tryd.prog 42 #[custV p A k, custV q B m] w fun e w' => e = .returned (.bool (decide (p = q))) ∧ Below w.heap.size w w' := by
  have hb := (below_alloc w (.cells #[.int .i64 p.kind, .int .i64 p.demand, .slice A p.pats.length k, .int .i64 p.rate, .int .i64 p.size, .int .i64 p.start, .int .i64 p.rule, .int .i64 p.hold] 45)).trans ((below_alloc _ (.cells #[.int .i64 q.kind, .int .i64 q.demand, .slice B q.pats.length m, .int .i64 q.rate, .int .i64 q.size, .int .i64 q.start, .int .i64 q.rule, .int .i64 q.hold] 45)).mono (by simp))
  have HB := Go.Lib.hid hb
  have HA := Go.Lib.hid (h1.keep hb)
  have HC := Go.Lib.hid (h2.keep hb)
  have KP := Go.Lib.hid ((BlkIs.fresh w 45 #[.int .i64 p.kind, .int .i64 p.demand, .slice A p.pats.length k, .int .i64 p.rate, .int .i64 p.size, .int .i64 p.start, .int .i64 p.rule, .int .i64 p.hold]).alloc (.cells #[.int .i64 q.kind, .int .i64 q.demand, .slice B q.pats.length m, .int .i64 q.rate, .int .i64 q.size, .int .i64 q.start, .int .i64 q.rule, .int .i64 q.hold] 45))
  have KQ := Go.Lib.hid (BlkIs.fresh (w.alloc (.cells #[.int .i64 p.kind, .int .i64 p.demand, .slice A p.pats.length k, .int .i64 p.rate, .int .i64 p.size, .int .i64 p.start, .int .i64 p.rule, .int .i64 p.hold] 45)) 45 #[.int .i64 q.kind, .int .i64 q.demand, .slice B q.pats.length m, .int .i64 q.rate, .int .i64 q.size, .int .i64 q.start, .int .i64 q.rule, .int .i64 q.hold])
  unfold custV
  unfold maxLen at l1 l2
  clear hb h1 h2
  rcases Bool.eq_false_or_eq_true (p.kind == q.kind) with t0 | t0
  rotate_left
  · skip
    have hd : decide (p = q) = false := by rw [cust_dec2, t0]; rfl
    rw [hd]
    have b0 : (p.kind != q.kind) = true := by rw [bne, t0]; rfl
    clear hd t0
    go_enter Tryd.func42, Tryd.ntmps42
    go_wp2
    go_ret
    exact ⟨rfl, HB.out⟩
  rcases Bool.eq_false_or_eq_true (p.demand == q.demand) with t1 | t1
  rotate_left
  · skip
    have hd : decide (p = q) = false := by rw [cust_dec2, t0, t1]; rfl
    rw [hd]
    have b0 : (p.kind != q.kind) = false := by rw [bne, t0]; rfl
    have b1 : (p.demand != q.demand) = true := by rw [bne, t1]; rfl
    clear hd t0 t1
    go_enter Tryd.func42, Tryd.ntmps42
    go_wp2
    go_ret
    exact ⟨rfl, HB.out⟩
  rcases Bool.eq_false_or_eq_true (p.rate == q.rate) with t2 | t2
  rotate_left
  · skip
    have hd : decide (p = q) = false := by rw [cust_dec2, t0, t1, t2]; rfl
    rw [hd]
    have b0 : (p.kind != q.kind) = false := by rw [bne, t0]; rfl
    have b1 : (p.demand != q.demand) = false := by rw [bne, t1]; rfl
    have b2 : (p.rate != q.rate) = true := by rw [bne, t2]; rfl
    clear hd t0 t1 t2
    go_enter Tryd.func42, Tryd.ntmps42
    go_wp2
    go_ret
    exact ⟨rfl, HB.out⟩
  rcases Bool.eq_false_or_eq_true (p.size == q.size) with t3 | t3
  rotate_left
  · skip
    have hd : decide (p = q) = false := by rw [cust_dec2, t0, t1, t2, t3]; rfl
    rw [hd]
    have b0 : (p.kind != q.kind) = false := by rw [bne, t0]; rfl
    have b1 : (p.demand != q.demand) = false := by rw [bne, t1]; rfl
    have b2 : (p.rate != q.rate) = false := by rw [bne, t2]; rfl
    have b3 : (p.size != q.size) = true := by rw [bne, t3]; rfl
    clear hd t0 t1 t2 t3
    go_enter Tryd.func42, Tryd.ntmps42
    go_wp2
    go_ret
    exact ⟨rfl, HB.out⟩
  rcases Bool.eq_false_or_eq_true (p.start == q.start) with t4 | t4
  rotate_left
  · skip
    have hd : decide (p = q) = false := by rw [cust_dec2, t0, t1, t2, t3, t4]; rfl
    rw [hd]
    have b0 : (p.kind != q.kind) = false := by rw [bne, t0]; rfl
    have b1 : (p.demand != q.demand) = false := by rw [bne, t1]; rfl
    have b2 : (p.rate != q.rate) = false := by rw [bne, t2]; rfl
    have b3 : (p.size != q.size) = false := by rw [bne, t3]; rfl
    have b4 : (p.start != q.start) = true := by rw [bne, t4]; rfl
    clear hd t0 t1 t2 t3 t4
    go_enter Tryd.func42, Tryd.ntmps42
    go_wp2
    go_ret
    exact ⟨rfl, HB.out⟩
  rcases Bool.eq_false_or_eq_true (p.rule == q.rule) with t5 | t5
  rotate_left
  · skip
    have hd : decide (p = q) = false := by rw [cust_dec2, t0, t1, t2, t3, t4, t5]; rfl
    rw [hd]
    have b0 : (p.kind != q.kind) = false := by rw [bne, t0]; rfl
    have b1 : (p.demand != q.demand) = false := by rw [bne, t1]; rfl
    have b2 : (p.rate != q.rate) = false := by rw [bne, t2]; rfl
    have b3 : (p.size != q.size) = false := by rw [bne, t3]; rfl
    have b4 : (p.start != q.start) = false := by rw [bne, t4]; rfl
    have b5 : (p.rule != q.rule) = true := by rw [bne, t5]; rfl
    clear hd t0 t1 t2 t3 t4 t5
    go_enter Tryd.func42, Tryd.ntmps42
    go_wp2
    go_ret
    exact ⟨rfl, HB.out⟩
  rcases Bool.eq_false_or_eq_true (p.hold == q.hold) with t6 | t6
  rotate_left
  · skip
    have hd : decide (p = q) = false := by rw [cust_dec2, t0, t1, t2, t3, t4, t5, t6]; rfl
    rw [hd]
    have b0 : (p.kind != q.kind) = false := by rw [bne, t0]; rfl
    have b1 : (p.demand != q.demand) = false := by rw [bne, t1]; rfl
    have b2 : (p.rate != q.rate) = false := by rw [bne, t2]; rfl
    have b3 : (p.size != q.size) = false := by rw [bne, t3]; rfl
    have b4 : (p.start != q.start) = false := by rw [bne, t4]; rfl
    have b5 : (p.rule != q.rule) = false := by rw [bne, t5]; rfl
    have b6 : (p.hold != q.hold) = true := by rw [bne, t6]; rfl
    clear hd t0 t1 t2 t3 t4 t5 t6
    go_enter Tryd.func42, Tryd.ntmps42
    go_wp2
    go_ret
    exact ⟨rfl, HB.out⟩
  have hdq : decide (p = q) = decide (p.pats = q.pats) := by rw [cust_dec2, t0, t1, t2, t3, t4, t5, t6]; rfl
  rw [hdq]
  clear hdq
  have b0 : (p.kind != q.kind) = false := by rw [bne, t0]; rfl
  have b1 : (p.demand != q.demand) = false := by rw [bne, t1]; rfl
  have b2 : (p.rate != q.rate) = false := by rw [bne, t2]; rfl
  have b3 : (p.size != q.size) = false := by rw [bne, t3]; rfl
  have b4 : (p.start != q.start) = false := by rw [bne, t4]; rfl
  have b5 : (p.rule != q.rule) = false := by rw [bne, t5]; rfl
  have b6 : (p.hold != q.hold) = false := by rw [bne, t6]; rfl
  clear t0 t1 t2 t3 t4 t5 t6
  by_cases hlen : p.pats.length = q.pats.length
  rotate_left
  · have hli : ((p.pats.length : Int) != (q.pats.length : Int)) = true := by rw [bne, beq_eq_false_iff_ne.2 (by omega)]; rfl
    have hd : decide (p.pats = q.pats) = false := decide_eq_false (by intro e; exact hlen (by rw [e]))
    rw [hd]
    clear hd hlen
    go_enter Tryd.func42, Tryd.ntmps42
    go_wp2
    go_ret
    exact ⟨rfl, HB.out⟩
  have hli : ((p.pats.length : Int) != (q.pats.length : Int)) = false := by rw [bne, beq_iff_eq.2 (by omega)]; rfl
  have HLN := Go.Lib.hid hlen
  clear hlen
  obtain ⟨W0, hW0⟩ : ∃ W, W = (w.alloc (.cells #[.int .i64 p.kind, .int .i64 p.demand, .slice A p.pats.length k, .int .i64 p.rate, .int .i64 p.size, .int .i64 p.start, .int .i64 p.rule, .int .i64 p.hold] 45)).alloc (.cells #[.int .i64 q.kind, .int .i64 q.demand, .slice B q.pats.length m, .int .i64 q.rate, .int .i64 q.size, .int .i64 q.start, .int .i64 q.rule, .int .i64 q.hold] 45) := ⟨_, rfl⟩
  go_enter Tryd.func42, Tryd.ntmps42
  go_wp2
  rw [← hW0] at HB HA HC KP KQ
  rw [← hW0]
  obtain ⟨xs, hxs⟩ : ∃ xs, xs = p.pats := ⟨_, rfl⟩
  obtain ⟨ys, hys⟩ : ∃ ys, ys = q.pats := ⟨_, rfl⟩
  have HXL : Hid (xs.length = p.pats.length) := by show _ = _; rw [hxs]
  have HYL : Hid (ys.length = p.pats.length) := by show _ = _; rw [hys, HLN.out]
  have HA2 : Hid (Nums .u64 W0 A p.pats.length xs) := by show Nums .u64 W0 A p.pats.length xs; rw [hxs]; exact HA.out
  have HC2 : Hid (Nums .u64 W0 B q.pats.length ys) := by show Nums .u64 W0 B q.pats.length ys; rw [hys]; exact HC.out
  have HXS : Hid (decide (xs = ys) = decide (p.pats = q.pats)) := by show _ = _; rw [hxs, hys]
  clear hxs hys HA HC
  go_loopw [5] (fun iv wr => ∃ j : Nat, j ≤ p.pats.length ∧ iv = .int .i64 j ∧ xs.take j = ys.take j ∧ Below W0.heap.size W0 wr) (fun iv _ => p.pats.length - (intOf iv).toNat)
  case atStart => exact ⟨0, Nat.zero_le _, rfl, by simp, Below.refl _ _⟩
  case round =>
    obtain ⟨j, hj, rfl, he, hB⟩ := hrel
    have HE := Go.Lib.hid he
    have HBr := Go.Lib.hid hB
    clear he hB
    obtain ⟨d0, d1, d2, d3, d4, d5, d6, d7⟩ := (KP.out.below HBr.out KP.out.lt).cells8
    obtain ⟨e0, e1, e2, e3, e4, e5, e6, e7⟩ := (KQ.out.below HBr.out KQ.out.lt).cells8
    rw [World.size_alloc] at e0 e1 e2 e3 e4 e5 e6 e7
    have HEx := Go.Lib.hid (HB.out.trans (HBr.out.mono HB.out.size))
    by_cases hlt : j < p.pats.length
    · obtain ⟨x, hx⟩ : ∃ x, xs.getD j 0 = x := ⟨_, rfl⟩
      obtain ⟨y, hy⟩ : ∃ y, ys.getD j 0 = y := ⟨_, rfl⟩
      have hjq : j < q.pats.length := by rw [← HLN.out]; exact hlt
      obtain ⟨b1, o1, rfl, h1⟩ := (HA2.out.keep HBr.out).2 (by omega)
      obtain ⟨b2, o2, rfl, h2⟩ := (HC2.out.keep HBr.out).2 (by omega)
      have f1 := h1 j hlt
      have f2 := h2 j hjq
      rw [hx] at f1
      rw [hy] at f2
      have HX := Go.Lib.hid hx
      have HY := Go.Lib.hid hy
      have k0 : (0 : Int) ≤ (j : Int) := Int.natCast_nonneg _
      have k1 : (j : Int) < (p.pats.length : Int) := by omega
      have k2 : (j : Int) < (q.pats.length : Int) := by omega
      clear h1 h2 hx hy
      by_cases hxy : x = y
      · subst hxy
        go_wp2
        go_quiet (fail)
        go_wp2
        go_roundw
        case rel => exact ⟨j + 1, by omega, by go_num, SameI.eq_take_succ HE.out (by rw [HXL.out]; exact hlt) (by rw [HYL.out]; exact hlt) (by rw [HX.out, HY.out]), below_drewN HBr.out _⟩
        case measure => simp [intOf]; omega
      · have hb2 : (x == y) = false := beq_eq_false_iff_ne.2 hxy
        have HN := Go.Lib.hid hxy
        clear hxy
        go_wp2
        go_quiet (fail)
        go_wp2
        go_ret
        refine ⟨ret_bool (((HXS.out.symm).trans (decide_eq_false ?_)).symm), below_drewN HEx.out _⟩
        rintro rfl
        exact HN.out (HX.out.symm.trans HY.out)
    · go_wp2
      go_ret
      refine ⟨ret_bool (((HXS.out.symm).trans (decide_eq_true ?_)).symm), HEx.out⟩
      have := HE.out
      rwa [List.take_of_length_le (by rw [HXL.out]; omega), List.take_of_length_le (by rw [HYL.out]; omega)] at this
end Go.Proofs.YtmfahjghfpckeaaDoor
