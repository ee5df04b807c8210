/- Which customers may be, off the code. -/
import Derived.Test.YtmfahjghfpckeaaDoorInstMusts
import Derived.Deep.RegionWith
namespace Go.Proofs.YtmfahjghfpckeaaDoor
open Go.RowKit
set_option linter.unusedVariables false
/-- A customer may be, of one kind or of the other. -/
def mayC (c : Cust) (d : Int) : Bool := patB c d || tanB c d
theorem box_arm {W W' : World} {g : Nat} {c : Cust} {A : Option Addr} {k : Nat} {d : Int} (h : ClientBox W g c A k d) (hb : Below W.heap.size W W') : ClientBox W' g c A k d := BlkIs.below h hb h.lt
set_option maxHeartbeats 2000000 in
theorem may_any (c : Cust) (A : Option Addr) (k : Nat) (d : Int) (w : World) (hT : Tab w) (hc : c.Wf) (hn : Nums .u64 w A c.pats.length c.pats) (wd : W64 d) :
    Calls Tryd.prog 48 #[clientV c A k d] w fun e w' => e = .returned (.bool (mayC c d)) ∧ Below w.heap.size w w' := by
  have HT := Go.Lib.hid hT
  have HC := Go.Lib.hid hc
  have HN := Go.Lib.hid hn
  have HW := Go.Lib.hid wd
  have hb0 := below_alloc w (.cells #[.int .i64 c.kind, .int .i64 c.demand, .slice A c.pats.length k, .int .i64 c.rate, .int .i64 c.size, .int .i64 c.start, .int .i64 c.rule, .int .i64 c.hold, .int .i64 d] 66)
  have J0 : ClientBox (w.alloc (.cells #[.int .i64 c.kind, .int .i64 c.demand, .slice A c.pats.length k, .int .i64 c.rate, .int .i64 c.size, .int .i64 c.start, .int .i64 c.rule, .int .i64 c.hold, .int .i64 d] 66)) w.heap.size c A k d := BlkIs.fresh _ _ _
  have CP := fun b W (hb : Below w.heap.size w W) hm => pat_is c A k d b 5 W (HT.out.keep hb) HC.out (HN.out.keep hb) HW.out hm
  have CT := fun b W (hb : Below w.heap.size w W) hm => tan_is c A k d b 7 W (HT.out.keep hb) HC.out (HN.out.keep hb) HW.out hm
  unfold clientV at *
  unfold mayC
  clear hT hc hn wd
  generalize patB c d = p at *
  generalize tanB c d = t at *
  obtain ⟨j0, j1, j2, j3, j4, j5, j6, j7, j8⟩ := BlkIs.cells9 J0
  have HJ := Go.Lib.hid (box_arm J0 (below_drew _))
  have HB := Go.Lib.hid hb0.drew
  clear J0 hb0
  cases p
  · go_enter Tryd.func48, Tryd.ntmps48
    go_wp2_with fail
    go_region_held3 (fun w' => w'.cell? ⟨w.heap.size, 0, none⟩ = some (.int .i64 c.kind) ∧ w'.cell? ⟨w.heap.size, 1, none⟩ = some (.int .i64 c.demand) ∧ w'.cell? ⟨w.heap.size, 2, none⟩ = some (.slice A c.pats.length k) ∧ w'.cell? ⟨w.heap.size, 3, none⟩ = some (.int .i64 c.rate) ∧ w'.cell? ⟨w.heap.size, 4, none⟩ = some (.int .i64 c.size) ∧ w'.cell? ⟨w.heap.size, 5, none⟩ = some (.int .i64 c.start) ∧ w'.cell? ⟨w.heap.size, 6, none⟩ = some (.int .i64 c.rule) ∧ w'.cell? ⟨w.heap.size, 7, none⟩ = some (.int .i64 c.hold) ∧ w'.cell? ⟨w.heap.size, 8, none⟩ = some (.int .i64 d))
      (first | exact ⟨j0, j1, j2, j3, j4, j5, j6, j7, j8⟩ | exact BlkIs.cells9 HJ.out | go_keep)
      (first
        | (go_at_call 55; refine (patterned_any _).mono ?_; rintro e w1 ⟨b1, rfl, hm1, hb1⟩; have HJ1 := Go.Lib.hid (box_arm HJ.out hb1); have HB1 := Go.Lib.hid (HB.out.trans (hb1.mono HB.out.size)); have HM1 := Go.Lib.hid hm1; clear HJ HB; have HJ := HJ1; have HB := HB1; clear HJ1 HB1 hb1 hm1)
        | (go_at_call 56; refine (tanked_any _).mono ?_; rintro e w1 ⟨b2, rfl, hm1, hb1⟩; have HJ1 := Go.Lib.hid (box_arm HJ.out hb1); have HB1 := Go.Lib.hid (HB.out.trans (hb1.mono HB.out.size)); have HM2 := Go.Lib.hid hm1; clear HJ HB; have HJ := HJ1; have HB := HB1; clear HJ1 HB1 hb1 hm1)
        | (go_at_call 54; (first | (with_reducible refine (CP _ _ HB.out HM1.out).mono ?_) | (with_reducible refine (CT _ _ HB.out HM2.out).mono ?_)); rintro e w1 ⟨rfl, hb1⟩; have HJ1 := Go.Lib.hid (box_arm HJ.out hb1); have HB1 := Go.Lib.hid (HB.out.trans (hb1.mono HB.out.size)); clear HJ HB; have HJ := HJ1; have HB := HB1; clear HJ1 HB1 hb1))
    all_goals
      go_wp2
      go_ret
      exact ⟨ret_bool (by simp), HB.out⟩
  · go_enter Tryd.func48, Tryd.ntmps48
    go_wp2_with fail
    go_region_with
      (first
        | (go_at_call 55; refine (patterned_any _).mono ?_; rintro e w1 ⟨b1, rfl, hm1, hb1⟩; have HJ1 := Go.Lib.hid (box_arm HJ.out hb1); have HB1 := Go.Lib.hid (HB.out.trans (hb1.mono HB.out.size)); have HM1 := Go.Lib.hid hm1; clear HJ HB; have HJ := HJ1; have HB := HB1; clear HJ1 HB1 hb1 hm1; obtain ⟨k0, k1, k2, k3, k4, k5, k6, k7, k8⟩ := BlkIs.cells9 HJ.out)
        | (go_at_call 56; refine (tanked_any _).mono ?_; rintro e w1 ⟨b2, rfl, hm1, hb1⟩; have HJ1 := Go.Lib.hid (box_arm HJ.out hb1); have HB1 := Go.Lib.hid (HB.out.trans (hb1.mono HB.out.size)); have HM2 := Go.Lib.hid hm1; clear HJ HB; have HJ := HJ1; have HB := HB1; clear HJ1 HB1 hb1 hm1; obtain ⟨k0, k1, k2, k3, k4, k5, k6, k7, k8⟩ := BlkIs.cells9 HJ.out)
        | (go_at_call 54; (first | (with_reducible refine (CP _ _ HB.out HM1.out).mono ?_) | (with_reducible refine (CT _ _ HB.out HM2.out).mono ?_)); rintro e w1 ⟨rfl, hb1⟩; have HJ1 := Go.Lib.hid (box_arm HJ.out hb1); have HB1 := Go.Lib.hid (HB.out.trans (hb1.mono HB.out.size)); clear HJ HB; have HJ := HJ1; have HB := HB1; clear HJ1 HB1 hb1; obtain ⟨k0, k1, k2, k3, k4, k5, k6, k7, k8⟩ := BlkIs.cells9 HJ.out))
    all_goals
      go_wp2
      go_ret
      exact ⟨ret_bool (by simp), HB.out⟩
end Go.Proofs.YtmfahjghfpckeaaDoor
