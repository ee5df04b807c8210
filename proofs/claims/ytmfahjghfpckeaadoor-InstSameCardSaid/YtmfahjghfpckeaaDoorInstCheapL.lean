/- Good, as the laws call it; InstCheap, off its code. -/
import Derived.Test.YtmfahjghfpckeaaDoorInstGoodD
import Derived.Test.YtmfahjghfpckeaaDoorInstPure
import Derived.Test.YtmfahjghfpckeaaDoorInstLives
import Derived.Test.YtmfahjghfpckeaaDoorInstCheapC
import Derived.Test.YtmfahjghfpckeaaDoorInstOpen
namespace Go.Proofs.YtmfahjghfpckeaaDoor
open Go.RowKit
set_option linter.unusedVariables false
/-- What is known of an instance that Good has made. -/
structure Made (x y : Inst) : Prop where
  is : y = goodI x
  sq : Square y
  small : SmallD y
  diag : ∀ a, arcD y a a = 0
  n : y.custs.length ≤ 6
  m : y.dist.length = y.custs.length + 1
  wf : y.Wf
theorem made_of (x : Inst) : Made x (goodI x) := ⟨rfl, goodI_square x, goodI_small x, goodI_diag x, goodI_n x, goodI_dist_len x, goodI_wf x⟩
/-- The block of an instance that was made, and what it reads as. -/
structure YAt (W : World) (g : Nat) (y : Inst) (A : Option Addr) (c : Nat) (B : Option Addr) (d : Nat) : Prop where
  box : InstBox W g y A c B d
  inst : InstIs W y A B
theorem YAt.keep {W W' : World} {g : Nat} {y : Inst} {A : Option Addr} {c : Nat} {B : Option Addr} {d : Nat} (h : YAt W g y A c B d) (hb : Below W.heap.size W W') : YAt W' g y A c B d := ⟨h.box.keep hb, h.inst.keep hb⟩
/-- Good's contract, from a world on that has grown since. -/
theorem Good_from {w : World} {x y : Inst} {A B : Option Addr} (h : InstIs w x A B) (hy : Made x y) (c d : Nat) (W : World) (hb : Below w.heap.size w W) :
    Calls Tryd.prog 12 #[.agg #[.int .i64 x.days, .int .i64 x.veh, .int .i64 x.cap, .int .i64 x.len, .slice A x.custs.length c, .slice B x.dist.length d]] W fun e w' => ∃ A2 c2 B2 d2, e = .returned (.agg #[.int .i64 y.days, .int .i64 y.veh, .int .i64 y.cap, .int .i64 y.len, .slice A2 y.custs.length c2, .slice B2 y.dist.length d2]) ∧ OwnInst W.heap.size w' y A2 c2 B2 d2 ∧ YAt (w'.alloc (.cells #[.int .i64 y.days, .int .i64 y.veh, .int .i64 y.cap, .int .i64 y.len, .slice A2 y.custs.length c2, .slice B2 y.dist.length d2] 25)) w'.heap.size y A2 c2 B2 d2 ∧ Below W.heap.size W (w'.alloc (.cells #[.int .i64 y.days, .int .i64 y.veh, .int .i64 y.cap, .int .i64 y.len, .slice A2 y.custs.length c2, .slice B2 y.dist.length d2] 25)) ∧ Below W.heap.size W w' := by
  have hC := Good_any x A c B d W (h.keep hb)
  rw [← hy.is] at hC
  refine hC.mono fun e w' ⟨A2, c2, B2, d2, he, hO, hB⟩ => ⟨A2, c2, B2, d2, he, hO, ⟨InstBox.fresh _ _ _ _ _ _, (hO.inst hy.wf).keep (below_alloc _ _)⟩, hB.trans ((below_alloc w' _).mono hB.size), hB⟩
set_option maxHeartbeats 4000000 in
theorem instCheap_any (x : Inst) (A : Option Addr) (c : Nat) (B : Option Addr) (d : Nat) (w : World) (hT : Tab w) (h : InstIs w x A B) :
    Calls Tryd.prog 5 #[instV x A c B d] w fun e w' => e = .returned (.bool true) ∧ Below w.heap.size w w' := by
  obtain ⟨y, hy⟩ : ∃ y, Made x y := ⟨_, made_of x⟩
  have hb0 := below_alloc w (.cells #[.int .i64 x.days, .int .i64 x.veh, .int .i64 x.cap, .int .i64 x.len, .slice A x.custs.length c, .slice B x.dist.length d] 25)
  have HB0 := Go.Lib.hid hb0
  have CG := fun W hb => Good_from h hy c d W hb
  have HY := Go.Lib.hid hy
  have HT := Go.Lib.hid hT
  have hn := hy.n
  unfold instV
  clear h hT hy hb0
  go_enter Tryd.func5, Tryd.ntmps5
  go_wp2_with (first
    | (go_at_call 12; refine (CG _ HB0.out).mono ?_; rintro e w1 ⟨A2, c2, B2, d2, rfl, hO, hY, hb1, hb1'⟩; have HYA := Go.Lib.hid hY; have HB1 := Go.Lib.hid (HB0.out.trans (hb1.mono HB0.out.size)); obtain ⟨j0, j1, j2, j3, j4, j5⟩ := hY.box.cells; have CC := cheap_code y A2 c2 B2 d2 _ hY.inst HY.out.sq HY.out.small (by omega); unfold CheapEnd instV at CC; clear hO hY hb1 hb1')
    | (go_at_call 18; refine CC.mono ?_; rintro e w2 ⟨gc, gl, rfl, hc2, hl2, hb2⟩; have HYB := Go.Lib.hid (HYA.out.keep hb2); have HB2 := Go.Lib.hid (HB1.out.trans (hb2.mono HB1.out.size)); obtain ⟨k0, k1, k2, k3, k4, k5⟩ := HYB.out.box.cells; have HCO := Go.Lib.hid hc2; have HLE := Go.Lib.hid hl2; clear hc2 hl2 hb2))
  clear CC CG
  go_loopw [6] (fun kv wr => ∃ k : Nat, k ≤ y.custs.length ∧ kv = .int .i64 k ∧ Below w2.heap.size w2 wr) (fun kv _ => y.custs.length - (intOf kv).toNat)
  case atStart => exact ⟨0, Nat.zero_le _, rfl, Below.refl _ _⟩
  case round =>
    clear j0 j1 j2 j3 j4 j5 k0 k1 k2 k3 k4 k5
    obtain ⟨k, hk, rfl, hB⟩ := hrel
    have HB := Go.Lib.hid hB
    have HYC := Go.Lib.hid (HYB.out.keep hB)
    obtain ⟨j0, j1, j2, j3, j4, j5⟩ := HYC.out.box.cells
    clear hB
    by_cases hlt : k < y.custs.length
    · have hcc := HCO.out.2 (by omega)
      obtain ⟨b, off, e, hcell⟩ := hcc
      injection e with e
      injection e with e1 e2
      subst e1
      subst e2
      have c1 := keep_cell HB.out (hcell k hlt)
      rw [Nat.zero_add, getD_in _ _ (by simpa using hlt), List.getElem_map, List.getElem_range] at c1
      have hll := HLE.out.2 (by omega)
      obtain ⟨b, off, e, hcell2⟩ := hll
      injection e with e
      injection e with e1 e2
      subst e1
      subst e2
      have c2' := keep_cell HB.out (hcell2 k hlt)
      rw [Nat.zero_add, getD_in _ _ (by simpa using hlt), List.getElem_map, List.getElem_range] at c2'
      have CR := cheap_ref y A2 c2 B2 d2 k wr HYC.out.inst HY.out.small hlt (by omega)
      unfold instV at CR
      have HC1 : Hid (∀ W, Below wr.heap.size wr W → W.cell? ⟨gc, k, none⟩ = some (.int .i64 (comeD y k)) ∧ W.cell? ⟨gl, k, none⟩ = some (.int .i64 (leaveD y k))) := fun W hW => ⟨keep_cell hW c1, keep_cell hW c2'⟩
      clear hcell hcell2 c1 c2'
      generalize comeD y k = vc at *
      generalize leaveD y k = vl at *
      go_wp2_with (first
        | (go_at_call 19; refine CR.mono ?_; rintro e w3 ⟨rfl, hb3⟩; obtain ⟨m1, m2⟩ := HC1.out w3 hb3; have HB3 := Go.Lib.hid (HB.out.trans (hb3.mono HB.out.size)); clear hb3))
      exact ⟨⟨k + 1, by omega, by go_num, HB3.out⟩, by simp [intOf]; omega⟩
    · obtain rfl : k = y.custs.length := by omega
      have HBW := Go.Lib.hid (HB2.out.trans (HB.out.mono HB2.out.size))
      have CL := lives6_any wr (HT.out.keep HBW.out)
      go_wp2_with (first
        | (go_at_call 13; refine CL.mono ?_; rintro e w4 ⟨rfl, hb4⟩))
      go_ret
      exact ⟨rfl, HBW.out.trans (hb4.mono HBW.out.size)⟩
section
variable {H : Type} {enc : TypeId × Value → H} {base : Nat}
theorem instCheap_frame (W : World) {v0 : Value} {d0 : DataW H} {p0 : List MemPlace} (k0 : DataW.Trod enc Tryd.prog W 0 (fun _ => true) true 25 v0 d0 p0) (o0 : Value.okWide Tryd.prog W .any base 25 v0) (hT : Tab W) :
    Calls Tryd.prog 5 #[v0] W fun e w' => e = .returned (.bool true) ∧ Below W.heap.size W w' := by
  obtain ⟨x, A, c, B, e, rfl, hI⟩ := inst_open k0 o0
  exact instCheap_any x A c B e W hT hI
end
end Go.Proofs.YtmfahjghfpckeaaDoor
