/- Two instances are the same: the document's Same. -/
import Derived.Test.YtmfahjghfpckeaaDoorInstEqD
namespace Go.Proofs.YtmfahjghfpckeaaDoor
open Go.RowKit
set_option linter.unusedVariables false
theorem same_from {w : World} {p q : Cust} {A B : Option Addr} {r : Bool} (hr : decide (p = q) = r) (h1 : Nums .u64 w A p.pats.length p.pats) (h2 : Nums .u64 w B q.pats.length q.pats) (l1 : p.pats.length ≤ maxLen) (l2 : q.pats.length ≤ maxLen) (k m : Nat) (W : World) (h : Below w.heap.size w W) :
    Calls Tryd.prog 42 #[custV p A k, custV q B m] W fun e w' => e = .returned (.bool r) ∧ Below W.heap.size W w' := by
  subst hr
  exact same_any p q A k B m W (h1.keep h) (h2.keep h) l1 l2
theorem same2_from {w : World} {A C : Option Addr} {n m : Nat} {xs ys : List Int} {q : Bool} (hq : decide (xs = ys) = q) (ha : Ints w A n xs) (hb : Ints w C m ys) (hn : n ≤ maxLen) (hm : m ≤ maxLen) (c d : Nat) (W : World) (h : Below w.heap.size w W) :
    Calls Tryd.prog 43 #[.slice A n c, .slice C m d] W fun e w' => e = .returned (.bool q) ∧ Below W.heap.size W w' := by
  subst hq
  exact SameI.same_ref A C n m c d xs ys W (ha.keep h) (hb.keep h) hn hm
set_option maxHeartbeats 8000000 in
theorem Same_ref (x y : Inst) (A : Option Addr) (c : Nat) (B : Option Addr) (d : Nat) (C : Option Addr) (e : Nat) (D : Option Addr) (f : Nat) (w : World) (hx : InstIs w x A B) (hy : InstIs w y C D) :
    Calls Tryd.prog 22 #[instV x A c B d, instV y C e D f] w fun e w' => e = .returned (.bool (decide (x = y))) ∧ Below w.heap.size w w' := by
  have hb := (below_alloc w (.cells #[.int .i64 x.days, .int .i64 x.veh, .int .i64 x.cap, .int .i64 x.len, .slice A x.custs.length c, .slice B x.dist.length d] 25)).trans ((below_alloc _ (.cells #[.int .i64 y.days, .int .i64 y.veh, .int .i64 y.cap, .int .i64 y.len, .slice C y.custs.length e, .slice D y.dist.length f] 25)).mono (by simp))
  have HB := Go.Lib.hid hb
  have HX := Go.Lib.hid (hx.keep hb)
  have HY := Go.Lib.hid (hy.keep hb)
  have KP := Go.Lib.hid ((InstBox.fresh w x A c B d).keep (below_alloc _ (.cells #[.int .i64 y.days, .int .i64 y.veh, .int .i64 y.cap, .int .i64 y.len, .slice C y.custs.length e, .slice D y.dist.length f] 25)))
  have KQ := Go.Lib.hid (InstBox.fresh (w.alloc (.cells #[.int .i64 x.days, .int .i64 x.veh, .int .i64 x.cap, .int .i64 x.len, .slice A x.custs.length c, .slice B x.dist.length d] 25)) y C e D f)
  have l1 := hx.wf.n
  have l2 := hy.wf.n
  have l3 := hx.wf.m
  have l4 := hy.wf.m
  unfold maxLen at l1 l2 l3 l4
  unfold instV
  clear hb hx hy
  rcases Bool.eq_false_or_eq_true (x.days == y.days) with t0 | t0
  rotate_left
  · skip
    have hd : decide (x = y) = false := by rw [inst_dec, t0]; rfl
    rw [hd]
    have b0 : (x.days != y.days) = true := by rw [bne, t0]; rfl
    clear hd t0
    go_enter Tryd.func22, Tryd.ntmps22
    go_wp2
    go_ret
    exact ⟨rfl, HB.out⟩
  rcases Bool.eq_false_or_eq_true (x.veh == y.veh) with t1 | t1
  rotate_left
  · skip
    have hd : decide (x = y) = false := by rw [inst_dec, t0, t1]; rfl
    rw [hd]
    have b0 : (x.days != y.days) = false := by rw [bne, t0]; rfl
    have b1 : (x.veh != y.veh) = true := by rw [bne, t1]; rfl
    clear hd t0 t1
    go_enter Tryd.func22, Tryd.ntmps22
    go_wp2
    go_ret
    exact ⟨rfl, HB.out⟩
  rcases Bool.eq_false_or_eq_true (x.cap == y.cap) with t2 | t2
  rotate_left
  · skip
    have hd : decide (x = y) = false := by rw [inst_dec, t0, t1, t2]; rfl
    rw [hd]
    have b0 : (x.days != y.days) = false := by rw [bne, t0]; rfl
    have b1 : (x.veh != y.veh) = false := by rw [bne, t1]; rfl
    have b2 : (x.cap != y.cap) = true := by rw [bne, t2]; rfl
    clear hd t0 t1 t2
    go_enter Tryd.func22, Tryd.ntmps22
    go_wp2
    go_ret
    exact ⟨rfl, HB.out⟩
  rcases Bool.eq_false_or_eq_true (x.len == y.len) with t3 | t3
  rotate_left
  · skip
    have hd : decide (x = y) = false := by rw [inst_dec, t0, t1, t2, t3]; rfl
    rw [hd]
    have b0 : (x.days != y.days) = false := by rw [bne, t0]; rfl
    have b1 : (x.veh != y.veh) = false := by rw [bne, t1]; rfl
    have b2 : (x.cap != y.cap) = false := by rw [bne, t2]; rfl
    have b3 : (x.len != y.len) = true := by rw [bne, t3]; rfl
    clear hd t0 t1 t2 t3
    go_enter Tryd.func22, Tryd.ntmps22
    go_wp2
    go_ret
    exact ⟨rfl, HB.out⟩
  have hdq : decide (x = y) = (decide (x.custs = y.custs) && decide (x.dist = y.dist)) := by rw [inst_dec, t0, t1, t2, t3]; rfl
  have b0 : (x.days != y.days) = false := by rw [bne, t0]; rfl
  have b1 : (x.veh != y.veh) = false := by rw [bne, t1]; rfl
  have b2 : (x.cap != y.cap) = false := by rw [bne, t2]; rfl
  have b3 : (x.len != y.len) = false := by rw [bne, t3]; rfl
  clear t0 t1 t2 t3
  have HDQ := Go.Lib.hid hdq
  clear hdq
  by_cases hlcusts : x.custs.length = y.custs.length
  rotate_left
  · have hde : decide (x.custs = y.custs) = false := decide_eq_false (by intro h; exact hlcusts (by rw [h]))
    have hd : decide (x = y) = false := by rw [HDQ.out, hde]; rfl
    have hli : ((x.custs.length : Int) != (y.custs.length : Int)) = true := by rw [bne, beq_eq_false_iff_ne.2 (by omega)]; rfl
    have HD := Go.Lib.hid hd
    clear hd hlcusts hde
    go_enter Tryd.func22, Tryd.ntmps22
    go_wp2
    go_ret
    exact ⟨ret_bool HD.out.symm, HB.out⟩
  have n1 : ((x.custs.length : Int) != (y.custs.length : Int)) = false := by rw [bne, beq_iff_eq.2 (by omega)]; rfl
  have HLcusts := Go.Lib.hid hlcusts
  clear hlcusts
  by_cases hldist : x.dist.length = y.dist.length
  rotate_left
  · have hde : decide (x.dist = y.dist) = false := decide_eq_false (by intro h; exact hldist (by rw [h]))
    have hd : decide (x = y) = false := by rw [HDQ.out, hde, Bool.and_false]
    have hli : ((x.dist.length : Int) != (y.dist.length : Int)) = true := by rw [bne, beq_eq_false_iff_ne.2 (by omega)]; rfl
    have HD := Go.Lib.hid hd
    clear hd hldist hde
    go_enter Tryd.func22, Tryd.ntmps22
    go_wp2
    go_ret
    exact ⟨ret_bool HD.out.symm, HB.out⟩
  have n2 : ((x.dist.length : Int) != (y.dist.length : Int)) = false := by rw [bne, beq_iff_eq.2 (by omega)]; rfl
  have HLdist := Go.Lib.hid hldist
  clear hldist
  obtain ⟨W0, hW0⟩ : ∃ W, W = (w.alloc (.cells #[.int .i64 x.days, .int .i64 x.veh, .int .i64 x.cap, .int .i64 x.len, .slice A x.custs.length c, .slice B x.dist.length d] 25)).alloc (.cells #[.int .i64 y.days, .int .i64 y.veh, .int .i64 y.cap, .int .i64 y.len, .slice C y.custs.length e, .slice D y.dist.length f] 25) := ⟨_, rfl⟩
  go_enter Tryd.func22, Tryd.ntmps22
  go_wp2
  rw [← hW0] at HB HX HY KP KQ
  rw [← hW0]
  clear hW0
  go_loopw [5] (fun iv wr => ∃ k : Nat, k ≤ x.custs.length ∧ iv = .int .i64 k ∧ x.custs.take k = y.custs.take k ∧ Below W0.heap.size W0 wr) (fun iv _ => x.custs.length - (intOf iv).toNat)
  case atStart => exact ⟨0, Nat.zero_le _, rfl, by simp, Below.refl _ _⟩
  case round =>
    obtain ⟨k, hk, rfl, he, hB⟩ := hrel
    have HE := Go.Lib.hid he
    have HBr := Go.Lib.hid hB
    clear he hB
    obtain ⟨d0, d1, d2, d3, d4, d5⟩ := (KP.out.keep HBr.out).cells
    obtain ⟨e0, e1, e2, e3, e4, e5⟩ := (KQ.out.keep HBr.out).cells
    rw [World.size_alloc] at e0 e1 e2 e3 e4 e5
    have HEx := Go.Lib.hid (HB.out.trans (HBr.out.mono HB.out.size))
    by_cases hlt : k < x.custs.length
    · have hkx : k < x.custs.length := hlt
      have hky : k < y.custs.length := by rw [← HLcusts.out]; exact hlt
      have k1 : (k : Int) < (x.custs.length : Int) := by omega
      have k2 : (k : Int) < (y.custs.length : Int) := by omega
      obtain ⟨b1, o1, P, kp, hA, hca, hna, hka⟩ := HX.out.custs k hkx
      obtain ⟨b2, o2, Q, kq, hC, hcb, hnb, hkb⟩ := HY.out.custs k hky
      subst hA
      subst hC
      have hwa := HX.out.wf.custs _ (List.getElem_mem hkx)
      have hwb := HY.out.wf.custs _ (List.getElem_mem hky)
      obtain ⟨p, hp⟩ : ∃ p, p = x.custs[k] := ⟨_, rfl⟩
      obtain ⟨q, hq⟩ : ∃ q, q = y.custs[k] := ⟨_, rfl⟩
      rw [← hp] at hca hna hka hwa
      rw [← hq] at hcb hnb hkb hwb
      obtain ⟨f0, f1, f2, f3, f4, f5, f6, f7⟩ := hca.keep HBr.out
      obtain ⟨g0, g1, g2, g3, g4, g5, g6, g7⟩ := hcb.keep HBr.out
      have CAL := fun r hr W h => same_from (r := r) hr hna hnb hwa.len hwb.len kp kq W h
      unfold custV at CAL
      have HBd := Go.Lib.hid (HBr.out.drew)
      have HSd : Hid ((fun w' => w'.cell? ⟨w.heap.size, 4, none⟩ = some (.slice (some ⟨b1, o1, none⟩) x.custs.length c) ∧ w'.cell? ⟨w.heap.size + 1, 4, none⟩ = some (.slice (some ⟨b2, o2, none⟩) y.custs.length e) ∧ w'.cell? ⟨b1, o1 + k * 8, none⟩ = some (.int .i64 p.kind) ∧ w'.cell? ⟨b1, o1 + k * 8 + 1, none⟩ = some (.int .i64 p.demand) ∧ w'.cell? ⟨b1, o1 + k * 8 + 2, none⟩ = some (.slice P p.pats.length kp) ∧ w'.cell? ⟨b1, o1 + k * 8 + 3, none⟩ = some (.int .i64 p.rate) ∧ w'.cell? ⟨b1, o1 + k * 8 + 4, none⟩ = some (.int .i64 p.size) ∧ w'.cell? ⟨b1, o1 + k * 8 + 5, none⟩ = some (.int .i64 p.start) ∧ w'.cell? ⟨b1, o1 + k * 8 + 6, none⟩ = some (.int .i64 p.rule) ∧ w'.cell? ⟨b1, o1 + k * 8 + 7, none⟩ = some (.int .i64 p.hold) ∧ w'.cell? ⟨b2, o2 + k * 8, none⟩ = some (.int .i64 q.kind) ∧ w'.cell? ⟨b2, o2 + k * 8 + 1, none⟩ = some (.int .i64 q.demand) ∧ w'.cell? ⟨b2, o2 + k * 8 + 2, none⟩ = some (.slice Q q.pats.length kq) ∧ w'.cell? ⟨b2, o2 + k * 8 + 3, none⟩ = some (.int .i64 q.rate) ∧ w'.cell? ⟨b2, o2 + k * 8 + 4, none⟩ = some (.int .i64 q.size) ∧ w'.cell? ⟨b2, o2 + k * 8 + 5, none⟩ = some (.int .i64 q.start) ∧ w'.cell? ⟨b2, o2 + k * 8 + 6, none⟩ = some (.int .i64 q.rule) ∧ w'.cell? ⟨b2, o2 + k * 8 + 7, none⟩ = some (.int .i64 q.hold)) wr.drew) := Go.Lib.hid ⟨d4, e4, f0, f1, f2, f3, f4, f5, f6, f7, g0, g1, g2, g3, g4, g5, g6, g7⟩
      clear d4 e4 f0 f1 f2 f3 f4 f5 f6 f7 g0 g1 g2 g3 g4 g5 g6 g7
      obtain ⟨d4, e4, f0, f1, f2, f3, f4, f5, f6, f7, g0, g1, g2, g3, g4, g5, g6, g7⟩ : (fun w' => w'.cell? ⟨w.heap.size, 4, none⟩ = some (.slice (some ⟨b1, o1, none⟩) x.custs.length c) ∧ w'.cell? ⟨w.heap.size + 1, 4, none⟩ = some (.slice (some ⟨b2, o2, none⟩) y.custs.length e) ∧ w'.cell? ⟨b1, o1 + k * 8, none⟩ = some (.int .i64 p.kind) ∧ w'.cell? ⟨b1, o1 + k * 8 + 1, none⟩ = some (.int .i64 p.demand) ∧ w'.cell? ⟨b1, o1 + k * 8 + 2, none⟩ = some (.slice P p.pats.length kp) ∧ w'.cell? ⟨b1, o1 + k * 8 + 3, none⟩ = some (.int .i64 p.rate) ∧ w'.cell? ⟨b1, o1 + k * 8 + 4, none⟩ = some (.int .i64 p.size) ∧ w'.cell? ⟨b1, o1 + k * 8 + 5, none⟩ = some (.int .i64 p.start) ∧ w'.cell? ⟨b1, o1 + k * 8 + 6, none⟩ = some (.int .i64 p.rule) ∧ w'.cell? ⟨b1, o1 + k * 8 + 7, none⟩ = some (.int .i64 p.hold) ∧ w'.cell? ⟨b2, o2 + k * 8, none⟩ = some (.int .i64 q.kind) ∧ w'.cell? ⟨b2, o2 + k * 8 + 1, none⟩ = some (.int .i64 q.demand) ∧ w'.cell? ⟨b2, o2 + k * 8 + 2, none⟩ = some (.slice Q q.pats.length kq) ∧ w'.cell? ⟨b2, o2 + k * 8 + 3, none⟩ = some (.int .i64 q.rate) ∧ w'.cell? ⟨b2, o2 + k * 8 + 4, none⟩ = some (.int .i64 q.size) ∧ w'.cell? ⟨b2, o2 + k * 8 + 5, none⟩ = some (.int .i64 q.start) ∧ w'.cell? ⟨b2, o2 + k * 8 + 6, none⟩ = some (.int .i64 q.rule) ∧ w'.cell? ⟨b2, o2 + k * 8 + 7, none⟩ = some (.int .i64 q.hold)) wr := HSd.out
      clear hca hna hka hwa hcb hnb hkb hwb
      cases hr : decide (p = q)
      · have hne : x.custs ≠ y.custs := ne_of_at hkx hky (by rw [← hp, ← hq]; exact of_decide_eq_false hr)
        have HD : Hid (decide (x = y) = false) := by show _ = _; rw [HDQ.out, decide_eq_false hne]; rfl
        have CA := CAL _ hr
        clear hne hr CAL hp hq hkx hky
        go_wp2
        go_region_held3 (fun w' => w'.cell? ⟨w.heap.size, 4, none⟩ = some (.slice (some ⟨b1, o1, none⟩) x.custs.length c) ∧ w'.cell? ⟨w.heap.size + 1, 4, none⟩ = some (.slice (some ⟨b2, o2, none⟩) y.custs.length e) ∧ w'.cell? ⟨b1, o1 + k * 8, none⟩ = some (.int .i64 p.kind) ∧ w'.cell? ⟨b1, o1 + k * 8 + 1, none⟩ = some (.int .i64 p.demand) ∧ w'.cell? ⟨b1, o1 + k * 8 + 2, none⟩ = some (.slice P p.pats.length kp) ∧ w'.cell? ⟨b1, o1 + k * 8 + 3, none⟩ = some (.int .i64 p.rate) ∧ w'.cell? ⟨b1, o1 + k * 8 + 4, none⟩ = some (.int .i64 p.size) ∧ w'.cell? ⟨b1, o1 + k * 8 + 5, none⟩ = some (.int .i64 p.start) ∧ w'.cell? ⟨b1, o1 + k * 8 + 6, none⟩ = some (.int .i64 p.rule) ∧ w'.cell? ⟨b1, o1 + k * 8 + 7, none⟩ = some (.int .i64 p.hold) ∧ w'.cell? ⟨b2, o2 + k * 8, none⟩ = some (.int .i64 q.kind) ∧ w'.cell? ⟨b2, o2 + k * 8 + 1, none⟩ = some (.int .i64 q.demand) ∧ w'.cell? ⟨b2, o2 + k * 8 + 2, none⟩ = some (.slice Q q.pats.length kq) ∧ w'.cell? ⟨b2, o2 + k * 8 + 3, none⟩ = some (.int .i64 q.rate) ∧ w'.cell? ⟨b2, o2 + k * 8 + 4, none⟩ = some (.int .i64 q.size) ∧ w'.cell? ⟨b2, o2 + k * 8 + 5, none⟩ = some (.int .i64 q.start) ∧ w'.cell? ⟨b2, o2 + k * 8 + 6, none⟩ = some (.int .i64 q.rule) ∧ w'.cell? ⟨b2, o2 + k * 8 + 7, none⟩ = some (.int .i64 q.hold)) (first | exact HSd.out | go_keep)
          ((go_at_call 42; (with_reducible refine (CA _ HBd.out).mono ?_); rintro e w3 ⟨rfl, hb3⟩; have HB3 := Go.Lib.hid (HBd.out.trans (hb3.mono HBd.out.size)); obtain ⟨s0, s1, s2, s3, s4, s5, s6, s7, s8, s9, s10, s11, s12, s13, s14, s15, s16, s17⟩ := HSd.out; clear HSd; have HSd : Hid ((fun w' => w'.cell? ⟨w.heap.size, 4, none⟩ = some (.slice (some ⟨b1, o1, none⟩) x.custs.length c) ∧ w'.cell? ⟨w.heap.size + 1, 4, none⟩ = some (.slice (some ⟨b2, o2, none⟩) y.custs.length e) ∧ w'.cell? ⟨b1, o1 + k * 8, none⟩ = some (.int .i64 p.kind) ∧ w'.cell? ⟨b1, o1 + k * 8 + 1, none⟩ = some (.int .i64 p.demand) ∧ w'.cell? ⟨b1, o1 + k * 8 + 2, none⟩ = some (.slice P p.pats.length kp) ∧ w'.cell? ⟨b1, o1 + k * 8 + 3, none⟩ = some (.int .i64 p.rate) ∧ w'.cell? ⟨b1, o1 + k * 8 + 4, none⟩ = some (.int .i64 p.size) ∧ w'.cell? ⟨b1, o1 + k * 8 + 5, none⟩ = some (.int .i64 p.start) ∧ w'.cell? ⟨b1, o1 + k * 8 + 6, none⟩ = some (.int .i64 p.rule) ∧ w'.cell? ⟨b1, o1 + k * 8 + 7, none⟩ = some (.int .i64 p.hold) ∧ w'.cell? ⟨b2, o2 + k * 8, none⟩ = some (.int .i64 q.kind) ∧ w'.cell? ⟨b2, o2 + k * 8 + 1, none⟩ = some (.int .i64 q.demand) ∧ w'.cell? ⟨b2, o2 + k * 8 + 2, none⟩ = some (.slice Q q.pats.length kq) ∧ w'.cell? ⟨b2, o2 + k * 8 + 3, none⟩ = some (.int .i64 q.rate) ∧ w'.cell? ⟨b2, o2 + k * 8 + 4, none⟩ = some (.int .i64 q.size) ∧ w'.cell? ⟨b2, o2 + k * 8 + 5, none⟩ = some (.int .i64 q.start) ∧ w'.cell? ⟨b2, o2 + k * 8 + 6, none⟩ = some (.int .i64 q.rule) ∧ w'.cell? ⟨b2, o2 + k * 8 + 7, none⟩ = some (.int .i64 q.hold)) w3) := Go.Lib.hid ⟨keep_cell hb3 s0, keep_cell hb3 s1, keep_cell hb3 s2, keep_cell hb3 s3, keep_cell hb3 s4, keep_cell hb3 s5, keep_cell hb3 s6, keep_cell hb3 s7, keep_cell hb3 s8, keep_cell hb3 s9, keep_cell hb3 s10, keep_cell hb3 s11, keep_cell hb3 s12, keep_cell hb3 s13, keep_cell hb3 s14, keep_cell hb3 s15, keep_cell hb3 s16, keep_cell hb3 s17⟩; clear hb3))
        all_goals
          go_wp2
          go_ret
          exact ⟨ret_bool HD.out.symm, HB.out.trans (HB3.out.mono HB.out.size)⟩
      · have hpq : x.custs[k] = y.custs[k] := by rw [← hp, ← hq]; exact of_decide_eq_true hr
        have HT : Hid (x.custs.take (k + 1) = y.custs.take (k + 1)) := take_eq_succ HE.out hkx hky hpq
        have CA := CAL _ hr
        clear hpq hr CAL hp hq hkx hky
        go_wp2
        go_region_held3 (fun w' => w'.cell? ⟨w.heap.size, 4, none⟩ = some (.slice (some ⟨b1, o1, none⟩) x.custs.length c) ∧ w'.cell? ⟨w.heap.size + 1, 4, none⟩ = some (.slice (some ⟨b2, o2, none⟩) y.custs.length e) ∧ w'.cell? ⟨b1, o1 + k * 8, none⟩ = some (.int .i64 p.kind) ∧ w'.cell? ⟨b1, o1 + k * 8 + 1, none⟩ = some (.int .i64 p.demand) ∧ w'.cell? ⟨b1, o1 + k * 8 + 2, none⟩ = some (.slice P p.pats.length kp) ∧ w'.cell? ⟨b1, o1 + k * 8 + 3, none⟩ = some (.int .i64 p.rate) ∧ w'.cell? ⟨b1, o1 + k * 8 + 4, none⟩ = some (.int .i64 p.size) ∧ w'.cell? ⟨b1, o1 + k * 8 + 5, none⟩ = some (.int .i64 p.start) ∧ w'.cell? ⟨b1, o1 + k * 8 + 6, none⟩ = some (.int .i64 p.rule) ∧ w'.cell? ⟨b1, o1 + k * 8 + 7, none⟩ = some (.int .i64 p.hold) ∧ w'.cell? ⟨b2, o2 + k * 8, none⟩ = some (.int .i64 q.kind) ∧ w'.cell? ⟨b2, o2 + k * 8 + 1, none⟩ = some (.int .i64 q.demand) ∧ w'.cell? ⟨b2, o2 + k * 8 + 2, none⟩ = some (.slice Q q.pats.length kq) ∧ w'.cell? ⟨b2, o2 + k * 8 + 3, none⟩ = some (.int .i64 q.rate) ∧ w'.cell? ⟨b2, o2 + k * 8 + 4, none⟩ = some (.int .i64 q.size) ∧ w'.cell? ⟨b2, o2 + k * 8 + 5, none⟩ = some (.int .i64 q.start) ∧ w'.cell? ⟨b2, o2 + k * 8 + 6, none⟩ = some (.int .i64 q.rule) ∧ w'.cell? ⟨b2, o2 + k * 8 + 7, none⟩ = some (.int .i64 q.hold)) (first | exact HSd.out | go_keep)
          ((go_at_call 42; (with_reducible refine (CA _ HBd.out).mono ?_); rintro e w3 ⟨rfl, hb3⟩; have HB3 := Go.Lib.hid (HBd.out.trans (hb3.mono HBd.out.size)); obtain ⟨s0, s1, s2, s3, s4, s5, s6, s7, s8, s9, s10, s11, s12, s13, s14, s15, s16, s17⟩ := HSd.out; clear HSd; have HSd : Hid ((fun w' => w'.cell? ⟨w.heap.size, 4, none⟩ = some (.slice (some ⟨b1, o1, none⟩) x.custs.length c) ∧ w'.cell? ⟨w.heap.size + 1, 4, none⟩ = some (.slice (some ⟨b2, o2, none⟩) y.custs.length e) ∧ w'.cell? ⟨b1, o1 + k * 8, none⟩ = some (.int .i64 p.kind) ∧ w'.cell? ⟨b1, o1 + k * 8 + 1, none⟩ = some (.int .i64 p.demand) ∧ w'.cell? ⟨b1, o1 + k * 8 + 2, none⟩ = some (.slice P p.pats.length kp) ∧ w'.cell? ⟨b1, o1 + k * 8 + 3, none⟩ = some (.int .i64 p.rate) ∧ w'.cell? ⟨b1, o1 + k * 8 + 4, none⟩ = some (.int .i64 p.size) ∧ w'.cell? ⟨b1, o1 + k * 8 + 5, none⟩ = some (.int .i64 p.start) ∧ w'.cell? ⟨b1, o1 + k * 8 + 6, none⟩ = some (.int .i64 p.rule) ∧ w'.cell? ⟨b1, o1 + k * 8 + 7, none⟩ = some (.int .i64 p.hold) ∧ w'.cell? ⟨b2, o2 + k * 8, none⟩ = some (.int .i64 q.kind) ∧ w'.cell? ⟨b2, o2 + k * 8 + 1, none⟩ = some (.int .i64 q.demand) ∧ w'.cell? ⟨b2, o2 + k * 8 + 2, none⟩ = some (.slice Q q.pats.length kq) ∧ w'.cell? ⟨b2, o2 + k * 8 + 3, none⟩ = some (.int .i64 q.rate) ∧ w'.cell? ⟨b2, o2 + k * 8 + 4, none⟩ = some (.int .i64 q.size) ∧ w'.cell? ⟨b2, o2 + k * 8 + 5, none⟩ = some (.int .i64 q.start) ∧ w'.cell? ⟨b2, o2 + k * 8 + 6, none⟩ = some (.int .i64 q.rule) ∧ w'.cell? ⟨b2, o2 + k * 8 + 7, none⟩ = some (.int .i64 q.hold)) w3) := Go.Lib.hid ⟨keep_cell hb3 s0, keep_cell hb3 s1, keep_cell hb3 s2, keep_cell hb3 s3, keep_cell hb3 s4, keep_cell hb3 s5, keep_cell hb3 s6, keep_cell hb3 s7, keep_cell hb3 s8, keep_cell hb3 s9, keep_cell hb3 s10, keep_cell hb3 s11, keep_cell hb3 s12, keep_cell hb3 s13, keep_cell hb3 s14, keep_cell hb3 s15, keep_cell hb3 s16, keep_cell hb3 s17⟩; clear hb3))
        all_goals
          go_wp2
          go_roundw
          case rel => exact ⟨k + 1, by omega, by go_num, HT.out, HB3.out⟩
          case measure => simp [intOf]; omega
    · have hce : x.custs = y.custs := by have := HE.out; rwa [List.take_of_length_le (by omega), List.take_of_length_le (by rw [← HLcusts.out]; omega)] at this
      have HD2 : Hid (decide (x = y) = decide (x.dist = y.dist)) := by show _ = _; rw [HDQ.out, decide_eq_true hce, Bool.true_and]
      clear hce HDQ HE
      clear n1 b0 b1 b2 b3
      go_wp2
      clear d0 d1 d2 d3 d4 d5 e0 e1 e2 e3 e4 e5
      go_loopw [7] (fun iv wr => ∃ k : Nat, k ≤ x.dist.length ∧ iv = .int .i64 k ∧ x.dist.take k = y.dist.take k ∧ Below W0.heap.size W0 wr) (fun iv _ => x.dist.length - (intOf iv).toNat)
      case atStart => exact ⟨0, Nat.zero_le _, rfl, by simp, HBr.out⟩
      case round =>
        clear HBr HEx
        obtain ⟨k, hk, rfl, he, hB⟩ := hrel
        have HE := Go.Lib.hid he
        have HBr := Go.Lib.hid hB
        clear he hB
        obtain ⟨d0, d1, d2, d3, d4, d5⟩ := (KP.out.keep HBr.out).cells
        obtain ⟨e0, e1, e2, e3, e4, e5⟩ := (KQ.out.keep HBr.out).cells
        rw [World.size_alloc] at e0 e1 e2 e3 e4 e5
        have HEx := Go.Lib.hid (HB.out.trans (HBr.out.mono HB.out.size))
        by_cases hlt : k < x.dist.length
        · have hkx : k < x.dist.length := hlt
          have hky : k < y.dist.length := by rw [← HLdist.out]; exact hlt
          have k1 : (k : Int) < (x.dist.length : Int) := by omega
          have k2 : (k : Int) < (y.dist.length : Int) := by omega
          obtain ⟨b1, o1, P, kp, hA, hca, hna, hka⟩ := HX.out.dist k hkx
          obtain ⟨b2, o2, Q, kq, hC, hcb, hnb, hkb⟩ := HY.out.dist k hky
          subst hA
          subst hC
          have hwa := (HX.out.wf.dist _ (List.getElem_mem hkx)).1
          have hwb := (HY.out.wf.dist _ (List.getElem_mem hky)).1
          obtain ⟨p, hp⟩ : ∃ p, p = x.dist[k] := ⟨_, rfl⟩
          obtain ⟨q, hq⟩ : ∃ q, q = y.dist[k] := ⟨_, rfl⟩
          rw [← hp] at hca hna hka hwa
          rw [← hq] at hcb hnb hkb hwb
          have f0 := keep_cell HBr.out hca
          have g0 := keep_cell HBr.out hcb
          have CAL := fun r hr W h => same2_from (q := r) hr hna hnb hwa hwb kp kq W h
          have HBd := Go.Lib.hid (HBr.out.drew)
          have HSd : Hid ((fun w' => w'.cell? ⟨w.heap.size, 5, none⟩ = some (.slice (some ⟨b1, o1, none⟩) x.dist.length d) ∧ w'.cell? ⟨w.heap.size + 1, 5, none⟩ = some (.slice (some ⟨b2, o2, none⟩) y.dist.length f) ∧ w'.cell? ⟨b1, o1 + k, none⟩ = some (.slice P p.length kp) ∧ w'.cell? ⟨b2, o2 + k, none⟩ = some (.slice Q q.length kq)) wr.drew) := Go.Lib.hid ⟨d5, e5, f0, g0⟩
          clear d5 e5 f0 g0
          obtain ⟨d5, e5, f0, g0⟩ : (fun w' => w'.cell? ⟨w.heap.size, 5, none⟩ = some (.slice (some ⟨b1, o1, none⟩) x.dist.length d) ∧ w'.cell? ⟨w.heap.size + 1, 5, none⟩ = some (.slice (some ⟨b2, o2, none⟩) y.dist.length f) ∧ w'.cell? ⟨b1, o1 + k, none⟩ = some (.slice P p.length kp) ∧ w'.cell? ⟨b2, o2 + k, none⟩ = some (.slice Q q.length kq)) wr := HSd.out
          clear hca hna hka hwa hcb hnb hkb hwb
          cases hr : decide (p = q)
          · have hne : x.dist ≠ y.dist := ne_of_at hkx hky (by rw [← hp, ← hq]; exact of_decide_eq_false hr)
            have HD : Hid (decide (x = y) = false) := by show _ = _; rw [HD2.out, decide_eq_false hne]
            have CA := CAL _ hr
            clear hne hr CAL hp hq hkx hky
            go_wp2
            go_region_held3 (fun w' => w'.cell? ⟨w.heap.size, 5, none⟩ = some (.slice (some ⟨b1, o1, none⟩) x.dist.length d) ∧ w'.cell? ⟨w.heap.size + 1, 5, none⟩ = some (.slice (some ⟨b2, o2, none⟩) y.dist.length f) ∧ w'.cell? ⟨b1, o1 + k, none⟩ = some (.slice P p.length kp) ∧ w'.cell? ⟨b2, o2 + k, none⟩ = some (.slice Q q.length kq)) (first | exact HSd.out | go_keep)
              ((go_at_call 43; (with_reducible refine (CA _ HBd.out).mono ?_); rintro e w3 ⟨rfl, hb3⟩; have HB3 := Go.Lib.hid (HBd.out.trans (hb3.mono HBd.out.size)); obtain ⟨s0, s1, s2, s3⟩ := HSd.out; clear HSd; have HSd : Hid ((fun w' => w'.cell? ⟨w.heap.size, 5, none⟩ = some (.slice (some ⟨b1, o1, none⟩) x.dist.length d) ∧ w'.cell? ⟨w.heap.size + 1, 5, none⟩ = some (.slice (some ⟨b2, o2, none⟩) y.dist.length f) ∧ w'.cell? ⟨b1, o1 + k, none⟩ = some (.slice P p.length kp) ∧ w'.cell? ⟨b2, o2 + k, none⟩ = some (.slice Q q.length kq)) w3) := Go.Lib.hid ⟨keep_cell hb3 s0, keep_cell hb3 s1, keep_cell hb3 s2, keep_cell hb3 s3⟩; clear hb3))
            all_goals
              go_wp2
              go_ret
              exact ⟨ret_bool HD.out.symm, HB.out.trans (HB3.out.mono HB.out.size)⟩
          · have hpq : x.dist[k] = y.dist[k] := by rw [← hp, ← hq]; exact of_decide_eq_true hr
            have HT : Hid (x.dist.take (k + 1) = y.dist.take (k + 1)) := take_eq_succ HE.out hkx hky hpq
            have CA := CAL _ hr
            clear hpq hr CAL hp hq hkx hky
            go_wp2
            go_region_held3 (fun w' => w'.cell? ⟨w.heap.size, 5, none⟩ = some (.slice (some ⟨b1, o1, none⟩) x.dist.length d) ∧ w'.cell? ⟨w.heap.size + 1, 5, none⟩ = some (.slice (some ⟨b2, o2, none⟩) y.dist.length f) ∧ w'.cell? ⟨b1, o1 + k, none⟩ = some (.slice P p.length kp) ∧ w'.cell? ⟨b2, o2 + k, none⟩ = some (.slice Q q.length kq)) (first | exact HSd.out | go_keep)
              ((go_at_call 43; (with_reducible refine (CA _ HBd.out).mono ?_); rintro e w3 ⟨rfl, hb3⟩; have HB3 := Go.Lib.hid (HBd.out.trans (hb3.mono HBd.out.size)); obtain ⟨s0, s1, s2, s3⟩ := HSd.out; clear HSd; have HSd : Hid ((fun w' => w'.cell? ⟨w.heap.size, 5, none⟩ = some (.slice (some ⟨b1, o1, none⟩) x.dist.length d) ∧ w'.cell? ⟨w.heap.size + 1, 5, none⟩ = some (.slice (some ⟨b2, o2, none⟩) y.dist.length f) ∧ w'.cell? ⟨b1, o1 + k, none⟩ = some (.slice P p.length kp) ∧ w'.cell? ⟨b2, o2 + k, none⟩ = some (.slice Q q.length kq)) w3) := Go.Lib.hid ⟨keep_cell hb3 s0, keep_cell hb3 s1, keep_cell hb3 s2, keep_cell hb3 s3⟩; clear hb3))
            all_goals
              go_wp2
              go_roundw
              case rel => exact ⟨k + 1, by omega, by go_num, HT.out, HB3.out⟩
              case measure => simp [intOf]; omega
        · have hce : x.dist = y.dist := by have := HE.out; rwa [List.take_of_length_le (by omega), List.take_of_length_le (by rw [← HLdist.out]; omega)] at this
          have HD : Hid (decide (x = y) = true) := by show _ = _; rw [HD2.out]; exact decide_eq_true hce
          clear hce HE
          go_wp2
          go_ret
          exact ⟨ret_bool HD.out.symm, HEx.out⟩
end Go.Proofs.YtmfahjghfpckeaaDoor
