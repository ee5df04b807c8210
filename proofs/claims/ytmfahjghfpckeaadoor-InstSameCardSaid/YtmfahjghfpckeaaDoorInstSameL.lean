/- InstSame, off its code. -/
import Derived.Test.YtmfahjghfpckeaaDoorInstSameM
namespace Go.Proofs.YtmfahjghfpckeaaDoor
open Go.RowKit Go.WideShapes
set_option linter.unusedVariables false
set_option maxRecDepth 100000 in
set_option maxHeartbeats 16000000 in
theorem instSame_any (x y : Inst) (A : Option Addr) (c : Nat) (B : Option Addr) (d : Nat) (C : Option Addr) (e : Nat) (D : Option Addr) (f : Nat) (w : World) (hT : Tab w) (hx : InstIs w x A B) (hy : InstIs w y C D) :
    Calls Tryd.prog 7 #[instV x A c B d, instV y C e D f] w fun e w' => e = .returned (.bool true) ∧ Below w.heap.size w w' := by
  obtain ⟨a, ha⟩ : ∃ a, Made x a := ⟨_, made_of x⟩
  obtain ⟨b, hb⟩ : ∃ b, Made y b := ⟨_, made_of y⟩
  have hb0 := (below_alloc w (.cells #[.int .i64 x.days, .int .i64 x.veh, .int .i64 x.cap, .int .i64 x.len, .slice A x.custs.length c, .slice B x.dist.length d] 25)).trans ((below_alloc _ (.cells #[.int .i64 y.days, .int .i64 y.veh, .int .i64 y.cap, .int .i64 y.len, .slice C y.custs.length e, .slice D y.dist.length f] 25)).mono (by simp))
  have HB0 := Go.Lib.hid hb0
  have HBX := Go.Lib.hid ((InstBox.fresh w x A c B d).keep (below_alloc _ (.cells #[.int .i64 y.days, .int .i64 y.veh, .int .i64 y.cap, .int .i64 y.len, .slice C y.custs.length e, .slice D y.dist.length f] 25)))
  have hby := InstBox.fresh (w.alloc (.cells #[.int .i64 x.days, .int .i64 x.veh, .int .i64 x.cap, .int .i64 x.len, .slice A x.custs.length c, .slice B x.dist.length d] 25)) y C e D f
  rw [World.size_alloc] at hby
  have HBY := Go.Lib.hid hby
  have CGX := fun W hb => Good_from hx ha c d W hb
  have CGY := fun W hbw => Good_from hy hb e f W hbw
  have CCL := fun A1 c1 B1 d1 base W ho => Clone_code a A1 c1 B1 d1 base W ho ha.few
  unfold instV at CCL
  have HMA := Go.Lib.hid ha
  have HMB := Go.Lib.hid hb
  have HT := Go.Lib.hid hT
  have CL := fun W hb => lives6_any W (HT.out.keep hb)
  unfold instV
  clear hb0 hby hx hy ha hb hT
  go_enter Tryd.func7, Tryd.ntmps7
  go_wp2_with (first
    | (go_at_call 12; (with_reducible refine (CGX _ HB0.out).mono ?_); rintro e w1 ⟨A1, c1, B1, d1, rfl, hO, hY, hb1, hb1'⟩; have HYA := Go.Lib.hid hY; have HOA := Go.Lib.hid (hO.keep (below_alloc _ (.cells #[.int .i64 a.days, .int .i64 a.veh, .int .i64 a.cap, .int .i64 a.len, .slice A1 a.custs.length c1, .slice B1 a.dist.length d1] 25))); have HBa := Go.Lib.hid (HB0.out.trans (hb1.mono HB0.out.size)); have HBX1 := Go.Lib.hid (HBX.out.keep hb1); obtain ⟨y0, y1, y2, y3, y4, y5⟩ := (HBY.out.keep hb1).cells; clear hO hY hb1 hb1')
    | (go_at_call 12; (with_reducible refine (CGY _ HBa.out).mono ?_); rintro e w2 ⟨A2, c2, B2, d2, rfl, hO, hY, hb2, hb2'⟩; have HYB := Go.Lib.hid hY; have HYA2 := Go.Lib.hid (HYA.out.keep hb2); have HOA2 := Go.Lib.hid (HOA.out.keep hb2); have HBb := Go.Lib.hid (HBa.out.trans (hb2.mono HBa.out.size)); have HBX2 := Go.Lib.hid (HBX1.out.keep hb2); obtain ⟨a0, a1, a2, a3, a4, a5⟩ := HYA2.out.box.cells; clear hO hY hb2 hb2')
    | (go_at_call 20; (with_reducible refine (CCL _ _ _ _ _ _ HOA2.out).mono ?_); rintro e w3 ⟨A3, c3, B3, d3, rfl, hO, hb3⟩; have HOC := Go.Lib.hid (hO.keep (below_alloc _ (.cells #[.int .i64 a.days, .int .i64 a.veh, .int .i64 a.cap, .int .i64 a.len, .slice A3 a.custs.length c3, .slice B3 a.dist.length d3] 25))); have HYC := Go.Lib.hid (YAt.mk (InstBox.fresh w3 a A3 c3 B3 d3) ((hO.inst HMA.out.wf).keep (below_alloc _ (.cells #[.int .i64 a.days, .int .i64 a.veh, .int .i64 a.cap, .int .i64 a.len, .slice A3 a.custs.length c3, .slice B3 a.dist.length d3] 25)))); have HZ := Go.Lib.hid (hb3.trans ((below_alloc w3 (.cells #[.int .i64 a.days, .int .i64 a.veh, .int .i64 a.cap, .int .i64 a.len, .slice A3 a.custs.length c3, .slice B3 a.dist.length d3] 25)).mono hb3.size)); clear hO hb3))
  clear y0 y1 y2 y3 y4 y5 a0 a1 a2 a3 a4 a5 CGY CCL HYA HOA HBX HBY HBX1 HBa
  obtain ⟨W3, hW3⟩ : ∃ W, W = w3.alloc (.cells #[.int .i64 a.days, .int .i64 a.veh, .int .i64 a.cap, .int .i64 a.len, .slice A3 a.custs.length c3, .slice B3 a.dist.length d3] 25) := ⟨_, rfl⟩
  obtain ⟨W2, hW2⟩ : ∃ W, W = w2.alloc (.cells #[.int .i64 b.days, .int .i64 b.veh, .int .i64 b.cap, .int .i64 b.len, .slice A2 b.custs.length c2, .slice B2 b.dist.length d2] 25) := ⟨_, rfl⟩
  rw [← hW3, ← hW2] at HOC HZ
  rw [← hW3] at HYC
  rw [← hW2] at HYB HYA2 HOA2 HBb HBX2
  rw [← hW3]
  clear hW3
  have hs23 : W3.heap.size ≥ W2.heap.size := HZ.out.size
  have HA3 := Go.Lib.hid (HYA2.out.keep HZ.out)
  have HB3 := Go.Lib.hid (HYB.out.keep HZ.out)
  obtain ⟨a0, a1, a2, a3, a4, a5⟩ := HA3.out.box.cells
  obtain ⟨b0, b1, b2, b3, b4, b5⟩ := HB3.out.box.cells
  obtain ⟨k0, k1, k2, k3, k4, k5⟩ := HYC.out.box.cells
  have HAd := Go.Lib.hid (HA3.out.keep (below_drew _))
  have HBBd := Go.Lib.hid (HB3.out.keep (below_drew _))
  have HCd := Go.Lib.hid (And.intro (HYC.out.keep (below_drew _)) (HOC.out.keep (below_drew _)))
  have HZd := Go.Lib.hid HZ.out.drew
  have HSd : Hid ((fun w' => w'.cell? ⟨w1.heap.size, 0, none⟩ = some (.int .i64 a.days) ∧ w'.cell? ⟨w1.heap.size, 1, none⟩ = some (.int .i64 a.veh) ∧ w'.cell? ⟨w1.heap.size, 2, none⟩ = some (.int .i64 a.cap) ∧ w'.cell? ⟨w1.heap.size, 3, none⟩ = some (.int .i64 a.len) ∧ w'.cell? ⟨w1.heap.size, 4, none⟩ = some (.slice A1 a.custs.length c1) ∧ w'.cell? ⟨w1.heap.size, 5, none⟩ = some (.slice B1 a.dist.length d1) ∧ w'.cell? ⟨w2.heap.size, 0, none⟩ = some (.int .i64 b.days) ∧ w'.cell? ⟨w2.heap.size, 1, none⟩ = some (.int .i64 b.veh) ∧ w'.cell? ⟨w2.heap.size, 2, none⟩ = some (.int .i64 b.cap) ∧ w'.cell? ⟨w2.heap.size, 3, none⟩ = some (.int .i64 b.len) ∧ w'.cell? ⟨w2.heap.size, 4, none⟩ = some (.slice A2 b.custs.length c2) ∧ w'.cell? ⟨w2.heap.size, 5, none⟩ = some (.slice B2 b.dist.length d2) ∧ w'.cell? ⟨w3.heap.size, 0, none⟩ = some (.int .i64 a.days) ∧ w'.cell? ⟨w3.heap.size, 1, none⟩ = some (.int .i64 a.veh) ∧ w'.cell? ⟨w3.heap.size, 2, none⟩ = some (.int .i64 a.cap) ∧ w'.cell? ⟨w3.heap.size, 3, none⟩ = some (.int .i64 a.len) ∧ w'.cell? ⟨w3.heap.size, 4, none⟩ = some (.slice A3 a.custs.length c3) ∧ w'.cell? ⟨w3.heap.size, 5, none⟩ = some (.slice B3 a.dist.length d3)) W3.drew) := Go.Lib.hid ⟨a0, a1, a2, a3, a4, a5, b0, b1, b2, b3, b4, b5, k0, k1, k2, k3, k4, k5⟩
  obtain ⟨q, hq⟩ : ∃ q, decide (a = b) = q := ⟨_, rfl⟩
  have hqq : (q != q) = false := by cases q <;> rfl
  have CS1 := fun W h1 h2 => SameC (A := A1) (c := c1) (B := B1) (d := d1) (C := A2) (e := c2) (D := B2) (f := d2) hq W h1 h2
  have CR1 := fun W h1 h2 => SameR (A := A1) (c := c1) (B := B1) (d := d1) (C := A2) (e := c2) (D := B2) (f := d2) hq W h1 h2
  have CS2 := fun W h1 h2 => SameC (x := a) (y := a) (A := A1) (c := c1) (B := B1) (d := d1) (C := A3) (e := c3) (D := B3) (f := d3) (decide_eq_true rfl) W h1 h2
  have CR2 := fun W h1 h2 => SameR (x := a) (y := a) (A := A1) (c := c1) (B := B1) (d := d1) (C := A3) (e := c3) (D := B3) (f := d3) (decide_eq_true rfl) W h1 h2
  clear hq HA3 HB3 HYC HOC HZ HYB
  go_region_held3 (fun w' => w'.cell? ⟨w1.heap.size, 0, none⟩ = some (.int .i64 a.days) ∧ w'.cell? ⟨w1.heap.size, 1, none⟩ = some (.int .i64 a.veh) ∧ w'.cell? ⟨w1.heap.size, 2, none⟩ = some (.int .i64 a.cap) ∧ w'.cell? ⟨w1.heap.size, 3, none⟩ = some (.int .i64 a.len) ∧ w'.cell? ⟨w1.heap.size, 4, none⟩ = some (.slice A1 a.custs.length c1) ∧ w'.cell? ⟨w1.heap.size, 5, none⟩ = some (.slice B1 a.dist.length d1) ∧ w'.cell? ⟨w2.heap.size, 0, none⟩ = some (.int .i64 b.days) ∧ w'.cell? ⟨w2.heap.size, 1, none⟩ = some (.int .i64 b.veh) ∧ w'.cell? ⟨w2.heap.size, 2, none⟩ = some (.int .i64 b.cap) ∧ w'.cell? ⟨w2.heap.size, 3, none⟩ = some (.int .i64 b.len) ∧ w'.cell? ⟨w2.heap.size, 4, none⟩ = some (.slice A2 b.custs.length c2) ∧ w'.cell? ⟨w2.heap.size, 5, none⟩ = some (.slice B2 b.dist.length d2) ∧ w'.cell? ⟨w3.heap.size, 0, none⟩ = some (.int .i64 a.days) ∧ w'.cell? ⟨w3.heap.size, 1, none⟩ = some (.int .i64 a.veh) ∧ w'.cell? ⟨w3.heap.size, 2, none⟩ = some (.int .i64 a.cap) ∧ w'.cell? ⟨w3.heap.size, 3, none⟩ = some (.int .i64 a.len) ∧ w'.cell? ⟨w3.heap.size, 4, none⟩ = some (.slice A3 a.custs.length c3) ∧ w'.cell? ⟨w3.heap.size, 5, none⟩ = some (.slice B3 a.dist.length d3)) (first | exact HSd.out | go_keep)
    (first
      | (go_at_call 21; (with_reducible refine (CS1 _ HAd.out.inst HBBd.out.inst).mono ?_); rintro e w6 ⟨rfl, hb6⟩; have HA6 := Go.Lib.hid (HAd.out.keep hb6); have HBB6 := Go.Lib.hid (HBBd.out.keep hb6); have HC6 := Go.Lib.hid ((And.intro (HCd.out.1.keep hb6) (HCd.out.2.keep hb6))); have HB6 := Go.Lib.hid (HZd.out.trans (hb6.mono HZd.out.size)); obtain ⟨s0, s1, s2, s3, s4, s5, s6, s7, s8, s9, s10, s11, s12, s13, s14, s15, s16, s17⟩ := HSd.out; have HS6 : Hid ((fun w' => w'.cell? ⟨w1.heap.size, 0, none⟩ = some (.int .i64 a.days) ∧ w'.cell? ⟨w1.heap.size, 1, none⟩ = some (.int .i64 a.veh) ∧ w'.cell? ⟨w1.heap.size, 2, none⟩ = some (.int .i64 a.cap) ∧ w'.cell? ⟨w1.heap.size, 3, none⟩ = some (.int .i64 a.len) ∧ w'.cell? ⟨w1.heap.size, 4, none⟩ = some (.slice A1 a.custs.length c1) ∧ w'.cell? ⟨w1.heap.size, 5, none⟩ = some (.slice B1 a.dist.length d1) ∧ w'.cell? ⟨w2.heap.size, 0, none⟩ = some (.int .i64 b.days) ∧ w'.cell? ⟨w2.heap.size, 1, none⟩ = some (.int .i64 b.veh) ∧ w'.cell? ⟨w2.heap.size, 2, none⟩ = some (.int .i64 b.cap) ∧ w'.cell? ⟨w2.heap.size, 3, none⟩ = some (.int .i64 b.len) ∧ w'.cell? ⟨w2.heap.size, 4, none⟩ = some (.slice A2 b.custs.length c2) ∧ w'.cell? ⟨w2.heap.size, 5, none⟩ = some (.slice B2 b.dist.length d2) ∧ w'.cell? ⟨w3.heap.size, 0, none⟩ = some (.int .i64 a.days) ∧ w'.cell? ⟨w3.heap.size, 1, none⟩ = some (.int .i64 a.veh) ∧ w'.cell? ⟨w3.heap.size, 2, none⟩ = some (.int .i64 a.cap) ∧ w'.cell? ⟨w3.heap.size, 3, none⟩ = some (.int .i64 a.len) ∧ w'.cell? ⟨w3.heap.size, 4, none⟩ = some (.slice A3 a.custs.length c3) ∧ w'.cell? ⟨w3.heap.size, 5, none⟩ = some (.slice B3 a.dist.length d3)) w6) := Go.Lib.hid ⟨keep_cell hb6 s0, keep_cell hb6 s1, keep_cell hb6 s2, keep_cell hb6 s3, keep_cell hb6 s4, keep_cell hb6 s5, keep_cell hb6 s6, keep_cell hb6 s7, keep_cell hb6 s8, keep_cell hb6 s9, keep_cell hb6 s10, keep_cell hb6 s11, keep_cell hb6 s12, keep_cell hb6 s13, keep_cell hb6 s14, keep_cell hb6 s15, keep_cell hb6 s16, keep_cell hb6 s17⟩; clear HAd HBBd HCd HZd HSd; have HAd := HA6; have HBBd := HBB6; have HCd := HC6; have HZd := HB6; have HSd := HS6; clear HA6 HBB6 HC6 HB6 HS6 hb6)
      | (go_at_call 21; (with_reducible refine (CS2 _ HAd.out.inst HCd.out.1.inst).mono ?_); rintro e w6 ⟨rfl, hb6⟩; have HA6 := Go.Lib.hid (HAd.out.keep hb6); have HBB6 := Go.Lib.hid (HBBd.out.keep hb6); have HC6 := Go.Lib.hid ((And.intro (HCd.out.1.keep hb6) (HCd.out.2.keep hb6))); have HB6 := Go.Lib.hid (HZd.out.trans (hb6.mono HZd.out.size)); obtain ⟨s0, s1, s2, s3, s4, s5, s6, s7, s8, s9, s10, s11, s12, s13, s14, s15, s16, s17⟩ := HSd.out; have HS6 : Hid ((fun w' => w'.cell? ⟨w1.heap.size, 0, none⟩ = some (.int .i64 a.days) ∧ w'.cell? ⟨w1.heap.size, 1, none⟩ = some (.int .i64 a.veh) ∧ w'.cell? ⟨w1.heap.size, 2, none⟩ = some (.int .i64 a.cap) ∧ w'.cell? ⟨w1.heap.size, 3, none⟩ = some (.int .i64 a.len) ∧ w'.cell? ⟨w1.heap.size, 4, none⟩ = some (.slice A1 a.custs.length c1) ∧ w'.cell? ⟨w1.heap.size, 5, none⟩ = some (.slice B1 a.dist.length d1) ∧ w'.cell? ⟨w2.heap.size, 0, none⟩ = some (.int .i64 b.days) ∧ w'.cell? ⟨w2.heap.size, 1, none⟩ = some (.int .i64 b.veh) ∧ w'.cell? ⟨w2.heap.size, 2, none⟩ = some (.int .i64 b.cap) ∧ w'.cell? ⟨w2.heap.size, 3, none⟩ = some (.int .i64 b.len) ∧ w'.cell? ⟨w2.heap.size, 4, none⟩ = some (.slice A2 b.custs.length c2) ∧ w'.cell? ⟨w2.heap.size, 5, none⟩ = some (.slice B2 b.dist.length d2) ∧ w'.cell? ⟨w3.heap.size, 0, none⟩ = some (.int .i64 a.days) ∧ w'.cell? ⟨w3.heap.size, 1, none⟩ = some (.int .i64 a.veh) ∧ w'.cell? ⟨w3.heap.size, 2, none⟩ = some (.int .i64 a.cap) ∧ w'.cell? ⟨w3.heap.size, 3, none⟩ = some (.int .i64 a.len) ∧ w'.cell? ⟨w3.heap.size, 4, none⟩ = some (.slice A3 a.custs.length c3) ∧ w'.cell? ⟨w3.heap.size, 5, none⟩ = some (.slice B3 a.dist.length d3)) w6) := Go.Lib.hid ⟨keep_cell hb6 s0, keep_cell hb6 s1, keep_cell hb6 s2, keep_cell hb6 s3, keep_cell hb6 s4, keep_cell hb6 s5, keep_cell hb6 s6, keep_cell hb6 s7, keep_cell hb6 s8, keep_cell hb6 s9, keep_cell hb6 s10, keep_cell hb6 s11, keep_cell hb6 s12, keep_cell hb6 s13, keep_cell hb6 s14, keep_cell hb6 s15, keep_cell hb6 s16, keep_cell hb6 s17⟩; clear HAd HBBd HCd HZd HSd; have HAd := HA6; have HBBd := HBB6; have HCd := HC6; have HZd := HB6; have HSd := HS6; clear HA6 HBB6 HC6 HB6 HS6 hb6)
      | (go_at_call 22; (with_reducible refine (CR1 _ HAd.out.inst HBBd.out.inst).mono ?_); rintro e w6 ⟨rfl, hb6⟩; have HA6 := Go.Lib.hid (HAd.out.keep hb6); have HBB6 := Go.Lib.hid (HBBd.out.keep hb6); have HC6 := Go.Lib.hid ((And.intro (HCd.out.1.keep hb6) (HCd.out.2.keep hb6))); have HB6 := Go.Lib.hid (HZd.out.trans (hb6.mono HZd.out.size)); obtain ⟨s0, s1, s2, s3, s4, s5, s6, s7, s8, s9, s10, s11, s12, s13, s14, s15, s16, s17⟩ := HSd.out; have HS6 : Hid ((fun w' => w'.cell? ⟨w1.heap.size, 0, none⟩ = some (.int .i64 a.days) ∧ w'.cell? ⟨w1.heap.size, 1, none⟩ = some (.int .i64 a.veh) ∧ w'.cell? ⟨w1.heap.size, 2, none⟩ = some (.int .i64 a.cap) ∧ w'.cell? ⟨w1.heap.size, 3, none⟩ = some (.int .i64 a.len) ∧ w'.cell? ⟨w1.heap.size, 4, none⟩ = some (.slice A1 a.custs.length c1) ∧ w'.cell? ⟨w1.heap.size, 5, none⟩ = some (.slice B1 a.dist.length d1) ∧ w'.cell? ⟨w2.heap.size, 0, none⟩ = some (.int .i64 b.days) ∧ w'.cell? ⟨w2.heap.size, 1, none⟩ = some (.int .i64 b.veh) ∧ w'.cell? ⟨w2.heap.size, 2, none⟩ = some (.int .i64 b.cap) ∧ w'.cell? ⟨w2.heap.size, 3, none⟩ = some (.int .i64 b.len) ∧ w'.cell? ⟨w2.heap.size, 4, none⟩ = some (.slice A2 b.custs.length c2) ∧ w'.cell? ⟨w2.heap.size, 5, none⟩ = some (.slice B2 b.dist.length d2) ∧ w'.cell? ⟨w3.heap.size, 0, none⟩ = some (.int .i64 a.days) ∧ w'.cell? ⟨w3.heap.size, 1, none⟩ = some (.int .i64 a.veh) ∧ w'.cell? ⟨w3.heap.size, 2, none⟩ = some (.int .i64 a.cap) ∧ w'.cell? ⟨w3.heap.size, 3, none⟩ = some (.int .i64 a.len) ∧ w'.cell? ⟨w3.heap.size, 4, none⟩ = some (.slice A3 a.custs.length c3) ∧ w'.cell? ⟨w3.heap.size, 5, none⟩ = some (.slice B3 a.dist.length d3)) w6) := Go.Lib.hid ⟨keep_cell hb6 s0, keep_cell hb6 s1, keep_cell hb6 s2, keep_cell hb6 s3, keep_cell hb6 s4, keep_cell hb6 s5, keep_cell hb6 s6, keep_cell hb6 s7, keep_cell hb6 s8, keep_cell hb6 s9, keep_cell hb6 s10, keep_cell hb6 s11, keep_cell hb6 s12, keep_cell hb6 s13, keep_cell hb6 s14, keep_cell hb6 s15, keep_cell hb6 s16, keep_cell hb6 s17⟩; clear HAd HBBd HCd HZd HSd; have HAd := HA6; have HBBd := HBB6; have HCd := HC6; have HZd := HB6; have HSd := HS6; clear HA6 HBB6 HC6 HB6 HS6 hb6)
      | (go_at_call 22; (with_reducible refine (CR2 _ HAd.out.inst HCd.out.1.inst).mono ?_); rintro e w6 ⟨rfl, hb6⟩; have HA6 := Go.Lib.hid (HAd.out.keep hb6); have HBB6 := Go.Lib.hid (HBBd.out.keep hb6); have HC6 := Go.Lib.hid ((And.intro (HCd.out.1.keep hb6) (HCd.out.2.keep hb6))); have HB6 := Go.Lib.hid (HZd.out.trans (hb6.mono HZd.out.size)); obtain ⟨s0, s1, s2, s3, s4, s5, s6, s7, s8, s9, s10, s11, s12, s13, s14, s15, s16, s17⟩ := HSd.out; have HS6 : Hid ((fun w' => w'.cell? ⟨w1.heap.size, 0, none⟩ = some (.int .i64 a.days) ∧ w'.cell? ⟨w1.heap.size, 1, none⟩ = some (.int .i64 a.veh) ∧ w'.cell? ⟨w1.heap.size, 2, none⟩ = some (.int .i64 a.cap) ∧ w'.cell? ⟨w1.heap.size, 3, none⟩ = some (.int .i64 a.len) ∧ w'.cell? ⟨w1.heap.size, 4, none⟩ = some (.slice A1 a.custs.length c1) ∧ w'.cell? ⟨w1.heap.size, 5, none⟩ = some (.slice B1 a.dist.length d1) ∧ w'.cell? ⟨w2.heap.size, 0, none⟩ = some (.int .i64 b.days) ∧ w'.cell? ⟨w2.heap.size, 1, none⟩ = some (.int .i64 b.veh) ∧ w'.cell? ⟨w2.heap.size, 2, none⟩ = some (.int .i64 b.cap) ∧ w'.cell? ⟨w2.heap.size, 3, none⟩ = some (.int .i64 b.len) ∧ w'.cell? ⟨w2.heap.size, 4, none⟩ = some (.slice A2 b.custs.length c2) ∧ w'.cell? ⟨w2.heap.size, 5, none⟩ = some (.slice B2 b.dist.length d2) ∧ w'.cell? ⟨w3.heap.size, 0, none⟩ = some (.int .i64 a.days) ∧ w'.cell? ⟨w3.heap.size, 1, none⟩ = some (.int .i64 a.veh) ∧ w'.cell? ⟨w3.heap.size, 2, none⟩ = some (.int .i64 a.cap) ∧ w'.cell? ⟨w3.heap.size, 3, none⟩ = some (.int .i64 a.len) ∧ w'.cell? ⟨w3.heap.size, 4, none⟩ = some (.slice A3 a.custs.length c3) ∧ w'.cell? ⟨w3.heap.size, 5, none⟩ = some (.slice B3 a.dist.length d3)) w6) := Go.Lib.hid ⟨keep_cell hb6 s0, keep_cell hb6 s1, keep_cell hb6 s2, keep_cell hb6 s3, keep_cell hb6 s4, keep_cell hb6 s5, keep_cell hb6 s6, keep_cell hb6 s7, keep_cell hb6 s8, keep_cell hb6 s9, keep_cell hb6 s10, keep_cell hb6 s11, keep_cell hb6 s12, keep_cell hb6 s13, keep_cell hb6 s14, keep_cell hb6 s15, keep_cell hb6 s16, keep_cell hb6 s17⟩; clear HAd HBBd HCd HZd HSd; have HAd := HA6; have HBBd := HBB6; have HCd := HC6; have HZd := HB6; have HSd := HS6; clear HA6 HBB6 HC6 HB6 HS6 hb6))
  all_goals
    obtain ⟨Wz, rfl⟩ : ∃ q, q = w6 := ⟨_, rfl⟩
    clear CS1 CR1 CS2 CR2 HSd HBBd a0 a1 a2 a3 a4 a5 b0 b1 b2 b3 b4 b5 k0 k1 k2 k3 k4 k5 hqq HAd
    have HSG : Hid (Solid Wz w3.heap.size) := Go.Lib.hid ⟨_, _, HCd.out.1.box⟩
    have HK4 := Go.Lib.hid HCd.out.1.box.cells.2.2.2.2.1
    have HK5 := Go.Lib.hid HCd.out.1.box.cells.2.2.2.2.2
    have HOC := Go.Lib.hid HCd.out.2
    obtain ⟨j0, j1, j2, j3, j4, j5⟩ := HCd.out.1.box.cells
    have hna := HMA.out.n
    have hma := HMA.out.m
    have HMM := Go.Lib.hid hma
    have hma7 : a.dist.length ≤ 7 := by omega
    clear hma HCd
    go_wp2
    go_loopw [8] (fun iv wr => ∃ i : Nat, i ≤ a.dist.length ∧ iv = .int .i64 i ∧ SAt W2.heap.size Wz wr) (fun iv _ => a.dist.length - (intOf iv).toNat)
    case atStart => exact ⟨0, Nat.zero_le _, rfl, .refl _ _⟩
    case round =>
      clear j0 j1 j2 j3 j4 j5
      obtain ⟨i, hi, rfl, hS⟩ := hrel
      have HS := Go.Lib.hid hS
      clear hS
      have k4 := HS.out.shape.kept HSG.out HK4.out
      have k5 := HS.out.shape.kept HSG.out HK5.out
      by_cases hlt : i < a.dist.length
      · have i1 : (i : Int) < (a.dist.length : Int) := by omega
        obtain ⟨g, bR, kk, hB3, sg, sb, hbR, hc, hz⟩ := rowZ HOC.out HMA.out.sq hlt
        subst hB3
        have HSg := Go.Lib.hid sg
        have HSb := Go.Lib.hid sb
        have HCc := Go.Lib.hid hc
        have HZz := Go.Lib.hid hz
        have r0 := HS.out.shape.kept HSg.out HCc.out
        clear sg sb hc hz
        go_wp2
        go_loopw [9] (fun kv wr => ∃ k : Nat, k ≤ a.custs.length + 1 ∧ kv = .int .i64 k ∧ SAt W2.heap.size Wz wr) (fun kv _ => a.custs.length + 1 - (intOf kv).toNat)
        case atStart => exact ⟨0, Nat.zero_le _, rfl, HS.out⟩
        case round =>
          clear k4 k5 r0 HS
          obtain ⟨k, hk, rfl, hS⟩ := hrel
          have HS := Go.Lib.hid hS
          clear hS
          have k4 := HS.out.shape.kept HSG.out HK4.out
          have k5 := HS.out.shape.kept HSG.out HK5.out
          have r0 := HS.out.shape.kept HSg.out HCc.out
          by_cases hkl : k < a.custs.length + 1
          · obtain ⟨z, hz⟩ := HZz.out k hkl
            obtain ⟨z', hz'⟩ := HS.out.shape.num HSb.out hz
            have fz := (HS.out.shape.like HSb.out hz).2
            have HST := Go.Lib.hid (HS.out.store (b := -1) hbR hz' (by decide))
            have k1 : (k : Int) < (a.custs.length : Int) + 1 := by omega
            have k2 : (k : Int) < ((a.custs.length + 1 : Nat) : Int) := by omega
            clear hz
            go_wp2
            exact ⟨⟨k + 1, by omega, by go_num, HST.out⟩, by simp [intOf]; omega⟩
          · obtain rfl : k = a.custs.length + 1 := by omega
            go_wp2
            exact ⟨⟨i + 1, by omega, by go_num, HS.out⟩, by simp [intOf]; omega⟩
      · obtain rfl : i = a.dist.length := by omega
        go_wp2
        clear k4 k5
        go_loopw [10] (fun iv wr => ∃ i : Nat, i ≤ a.custs.length ∧ iv = .int .i64 i ∧ SAt W2.heap.size Wz wr) (fun iv _ => a.custs.length - (intOf iv).toNat)
        case atStart => exact ⟨0, Nat.zero_le _, rfl, HS.out⟩
        case round =>
          clear HS
          obtain ⟨i, hi, rfl, hS⟩ := hrel
          have HS := Go.Lib.hid hS
          clear hS
          have k4 := HS.out.shape.kept HSG.out HK4.out
          have k5 := HS.out.shape.kept HSG.out HK5.out
          by_cases hlt : i < a.custs.length
          · have i1 : (i : Int) < (a.custs.length : Int) := by omega
            obtain ⟨G, qc, P, kp, hA3, hqm, sG, hbG, hcu, hps⟩ := custZ HOC.out hlt
            subst hA3
            have hpl : qc.pats.length ≤ 1000 := HMA.out.few.p _ hqm
            have HSg := Go.Lib.hid sG
            have HCU := Go.Lib.hid hcu
            have HPS := Go.Lib.hid hps
            obtain ⟨z', hz'⟩ := HS.out.shape.num HSg.out HCU.out.c0
            have fz := (HS.out.shape.like HSg.out HCU.out.c0).2
            have HST := Go.Lib.hid (HS.out.store (b := 9) hbG hz' (by decide))
            clear sG hcu hps hqm
            go_wp2
            go_loopw [11] (fun kv wr => ∃ k : Nat, k ≤ qc.pats.length ∧ kv = .int .i64 k ∧ SAt W2.heap.size Wz wr) (fun kv _ => qc.pats.length - (intOf kv).toNat)
            case atStart => exact ⟨0, Nat.zero_le _, rfl, HST.out⟩
            case round =>
              clear k4 k5 HS HST hz' fz
              obtain ⟨k, hk, rfl, hS⟩ := hrel
              have HS := Go.Lib.hid hS
              clear hS
              have k4 := HS.out.shape.kept HSG.out HK4.out
              have k5 := HS.out.shape.kept HSG.out HK5.out
              have p2 := HS.out.shape.kept HSg.out HCU.out.c2
              by_cases hkl : k < qc.pats.length
              · obtain ⟨bP, hP, sP, hbP, hzP⟩ := HPS.out (by omega)
                subst hP
                obtain ⟨z, hz⟩ := hzP k hkl
                obtain ⟨z2, hz2⟩ := HS.out.shape.num sP hz
                have fz2 := (HS.out.shape.like sP hz).2
                have HST := Go.Lib.hid (HS.out.store (b := 99) hbP hz2 (by decide))
                have k1 : (k : Int) < (qc.pats.length : Int) := by omega
                clear hz hzP sP
                go_wp2
                exact ⟨⟨k + 1, by omega, by go_num, HST.out⟩, by simp [intOf]; omega⟩
              · obtain rfl : k = qc.pats.length := by omega
                go_wp2
                exact ⟨⟨i + 1, by omega, by go_num, HS.out⟩, by simp [intOf]; omega⟩
          · obtain rfl : i = a.custs.length := by omega
            have HE := Go.Lib.hid (HZd.out.trans HS.out.low)
            have HEw := Go.Lib.hid (HBb.out.trans (HE.out.mono HBb.out.size))
            obtain ⟨x0, x1, x2, x3, x4, x5⟩ := (HBX2.out.keep HE.out).cells
            have HYE := Go.Lib.hid (HYA2.out.keep HE.out)
            go_wp2_with (first
              | (go_at_call 12; (with_reducible refine (CGX _ HEw.out).mono ?_); rintro e w5 ⟨A5, c5, B5, d5, rfl, hO, hY, hb5, hb5'⟩; have HYG := Go.Lib.hid hY; have HYF := Go.Lib.hid (HYE.out.keep hb5); have HB5 := Go.Lib.hid (HEw.out.trans (hb5.mono HEw.out.size)); obtain ⟨a0, a1, a2, a3, a4, a5⟩ := HYF.out.box.cells; clear hO hY hb5 hb5')
              | (go_at_call 22; (with_reducible refine (SameR (x := a) (y := a) (decide_eq_true rfl) _ HYF.out.inst HYG.out.inst).mono ?_); rintro e w6 ⟨rfl, hb6⟩; have HB6 := Go.Lib.hid (HB5.out.trans (hb6.mono HB5.out.size)); clear hb6)
              | (go_at_call 13; refine (CL _ HB6.out).mono ?_; rintro e w7 ⟨rfl, hb7⟩; have HB7 := Go.Lib.hid (HB6.out.trans (hb7.mono HB6.out.size)); clear hb7))
            go_ret
            exact ⟨rfl, HB7.out⟩
section
variable {H : Type} {enc : TypeId × Value → H} {base : Nat}
theorem instSame_frame (W : World) {v0 v1 : Value} {d0 d1 : DataW H} {p0 p1 : List MemPlace} (k0 : DataW.Trod enc Tryd.prog W 0 (fun _ => true) true 25 v0 d0 p0) (o0 : Value.okWide Tryd.prog W .any base 25 v0)
    (k1 : DataW.Trod enc Tryd.prog W 0 (fun _ => true) true 25 v1 d1 p1) (o1 : Value.okWide Tryd.prog W .any base 25 v1) (hT : Tab W) :
    Calls Tryd.prog 7 #[v0, v1] W fun e w' => e = .returned (.bool true) ∧ Below W.heap.size W w' := by
  obtain ⟨x, A, c, B, e, rfl, hI⟩ := inst_open k0 o0
  obtain ⟨y, C, f, D, g, rfl, hK⟩ := inst_open k1 o1
  exact instSame_any x y A c B e C f D g W hT hI hK
end
end Go.Proofs.YtmfahjghfpckeaaDoor
