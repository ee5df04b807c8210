/- A customer that may be, made of any, off the document's code. -/
import Derived.Test.YtmfahjghfpckeaaDoorInstRef
import Derived.Test.YtmfahjghfpckeaaDoorDaysRefC
import Derived.IntWalk
import Derived.Deep.CutRange
namespace Go.Proofs.YtmfahjghfpckeaaDoor
open Go.RowKit
set_option linter.unusedVariables false
/-- The days of a set before day d. -/
def cutN (p : Nat) : Nat → Nat
  | 0 => 0
  | d + 1 => if hasB p (d : Int) then putN (cutN p d) (d : Int) 1 else cutN p d
theorem cutN_lt (p : Nat) : ∀ d, cutN p d < 2 ^ 64
  | 0 => (by decide : (0 : Nat) < 2 ^ 64)
  | d + 1 => by
    rw [cutN]
    split
    · exact putN_lt (cutN_lt p d) _ _
    · exact cutN_lt p d
/-- A pattern's days before day d. -/
def cutP (d : Int) (p : Int) : Int := (cutN p.toNat d.toNat : Nat)
/-- A customer that may be, made of any. -/
def goodC (c : Cust) (d : Int) : Cust :=
  if c.kind.tmod 2 = 0 then { kind := 2, demand := 0, pats := [], rate := roundD c.rate 0 9, size := roundD c.size 1 30, start := roundD c.start 0 (roundD c.size 1 30), rule := roundD c.rule 1 2, hold := roundD c.hold 0 4 }
  else { kind := 1, demand := roundD c.demand 1 15, pats := if c.pats = [] then [1] else (c.pats.take 4).map (cutP d), rate := 0, size := 0, start := 0, rule := 0, hold := 0 }
/-- A row of patterns of the call's own. -/
def OwnP (W : World) (base : Nat) (v : Value) (ps : List Int) : Prop := W.ownsRow base 46 1 v ps.length (ps.map (Value.int .u64))
/-- What good hands back. -/
def GoodEnd (w : World) (g : Cust) (e : Ending) (w' : World) : Prop := ∃ P k, e = .returned (custV g P k) ∧ OwnP w' w.heap.size (.slice P g.pats.length k) g.pats ∧ Below w.heap.size w w'
set_option maxHeartbeats 4000000 in
theorem good_tank (c : Cust) (A : Option Addr) (k : Nat) (d : Int) (w : World) (hc : c.Wf) (hk : c.kind.tmod 2 = 0) :
    Calls Tryd.prog 28 #[custV c A k, .int .i64 d] w (GoodEnd w (goodC c d)) := by
  have e0 : goodC c d = _ := if_pos hk
  rw [e0]
  clear e0
  have C1 := fun W => round_any c.rate 0 9 hc.rate (by omega) (by omega) (by omega) W
  have C2 := fun W => round_any c.size 1 30 hc.size (by omega) (by omega) (by omega) W
  have C3 := fun W => round_any c.rule 1 2 hc.rule (by omega) (by omega) (by omega) W
  have C4 := fun W => round_any c.hold 0 4 hc.hold (by omega) (by omega) (by omega) W
  have hb := roundD_bd c.size (l := 1) (m := 30) (by omega)
  have C5 := fun W => round_any c.start 0 (roundD c.size 1 30) hc.start (by omega) (by omega) (by omega) W
  generalize hr5 : roundD c.start 0 (roundD c.size 1 30) = r5 at *
  generalize hr1 : roundD c.rate 0 9 = r1 at *
  generalize hr2 : roundD c.size 1 30 = r2 at *
  generalize hr3 : roundD c.rule 1 2 = r3 at *
  generalize hr4 : roundD c.hold 0 4 = r4 at *
  have hk2 : (c.kind.tmod 2 == 0) = true := by rw [hk]; rfl
  obtain ⟨b0, b1⟩ := hc.kind
  unfold custV
  clear hr1 hr2 hr3 hr4 hr5 hc hk
  have J := (BlkIs.fresh w 45 #[.int .i64 c.kind, .int .i64 c.demand, .slice A c.pats.length k, .int .i64 c.rate, .int .i64 c.size, .int .i64 c.start, .int .i64 c.rule, .int .i64 c.hold]).alloc (.cells #[.int .i64 0, .int .i64 0, .slice none 0 0, .int .i64 0, .int .i64 0, .int .i64 0, .int .i64 0, .int .i64 0] 45)
  have R := BlkIs.fresh (w.alloc (.cells #[.int .i64 c.kind, .int .i64 c.demand, .slice A c.pats.length k, .int .i64 c.rate, .int .i64 c.size, .int .i64 c.start, .int .i64 c.rule, .int .i64 c.hold] 45)) 45 #[.int .i64 0, .int .i64 0, .slice none 0 0, .int .i64 0, .int .i64 0, .int .i64 0, .int .i64 0, .int .i64 0]
  rw [World.size_alloc] at R
  have HB : Below w.heap.size w ((w.alloc (.cells #[.int .i64 c.kind, .int .i64 c.demand, .slice A c.pats.length k, .int .i64 c.rate, .int .i64 c.size, .int .i64 c.start, .int .i64 c.rule, .int .i64 c.hold] 45)).alloc (.cells #[.int .i64 0, .int .i64 0, .slice none 0 0, .int .i64 0, .int .i64 0, .int .i64 0, .int .i64 0, .int .i64 0] 45)) := (below_alloc _ _).alloc (by simp) _
  go_enter Tryd.func28, Tryd.ntmps28
  go_wp2_with fail
  obtain ⟨W0, hW0⟩ : ∃ W, W = (w.alloc (.cells #[.int .i64 c.kind, .int .i64 c.demand, .slice A c.pats.length k, .int .i64 c.rate, .int .i64 c.size, .int .i64 c.start, .int .i64 c.rule, .int .i64 c.hold] 45)).alloc (.cells #[.int .i64 0, .int .i64 0, .slice none 0 0, .int .i64 0, .int .i64 0, .int .i64 0, .int .i64 0, .int .i64 0] 45) := ⟨_, rfl⟩
  rw [← hW0] at J R HB ⊢
  clear hW0
  have l0 := J.lt
  have l1 := R.lt
  obtain ⟨j0, j1, j2, j3, j4, j5, j6, j7⟩ := J.cells8
  have HJ := Go.Lib.hid J
  have HR := Go.Lib.hid R
  clear J R
  go_cut [5] from 10 (fun p wx => ∃ g, p = .pointer (some ⟨g, 0, none⟩) ∧ w.heap.size + 1 < g ∧ BlkIs wx g 45 #[.int .i64 2, .int .i64 0, .slice none 0 0, .int .i64 r1, .int .i64 r2, .int .i64 0, .int .i64 r3, .int .i64 r4] ∧ Below W0.heap.size W0 wx)
  case first =>
    go_region_held3 (fun w' => w'.cell? ⟨w.heap.size, 3, none⟩ = some (.int .i64 c.rate) ∧ w'.cell? ⟨w.heap.size, 4, none⟩ = some (.int .i64 c.size) ∧ w'.cell? ⟨w.heap.size, 6, none⟩ = some (.int .i64 c.rule) ∧ w'.cell? ⟨w.heap.size, 7, none⟩ = some (.int .i64 c.hold))
      (first | exact ⟨j3, j4, j6, j7⟩ | go_keep)
      (first
        | (go_at_call 27; (first | (with_reducible refine (C1 _).mono ?_) | (with_reducible refine (C2 _).mono ?_) | (with_reducible refine (C3 _).mono ?_) | (with_reducible refine (C4 _).mono ?_)); rintro e w6 ⟨rfl, rfl⟩))
    all_goals
      go_wp2_with fail
      go_meet
      exact ⟨_, rfl, l1, BlkIs.fresh W0 _ _, (below_alloc W0 _).drew⟩
  case rest =>
    obtain ⟨g, rfl, hg, K, hb⟩ := hcut
    have HB2 := Go.Lib.hid (HB.trans (hb.mono HB.size))
    obtain ⟨j0, j1, j2, j3, j4, j5, j6, j7⟩ := (HJ.out.below hb l0).cells8
    obtain ⟨k0, k1, k2, k3, k4, k5, k6, k7⟩ := K.cells8
    have K2 := HR.out.below hb l1
    obtain ⟨s0, s1, s2, s3, s4, s5, s6, s7⟩ := K2.cells8
    have f5 := K.free 5
    have hgs : g ≠ w.heap.size + 1 := by omega
    have hgs' : w.heap.size + 1 ≠ g := by omega
    have fr : ∀ i, wc.frozen? ⟨w.heap.size + 1, i, none⟩ = false := fun i => K2.free i
    clear HB hb l0 l1
    go_wp2_with (go_at_call 27; refine (C5 _).mono ?_; rintro e w6 ⟨rfl, rfl⟩)
    have Q := (K2.far (p := ⟨g, 5, none⟩) hgs' (.int .i64 r5)).store8 (.int .i64 2) (.int .i64 0) (.slice none 0 0) (.int .i64 r1) (.int .i64 r2) (.int .i64 r5) (.int .i64 r3) (.int .i64 r4)
    have QB := Below.store8 (HB2.out.setCell (p := ⟨g, 5, none⟩) (by show w.heap.size ≤ g; omega) (.int .i64 r5)) (g := w.heap.size + 1) (by omega) (.int .i64 2) (.int .i64 0) (.slice none 0 0) (.int .i64 r1) (.int .i64 r2) (.int .i64 r5) (.int .i64 r3) (.int .i64 r4)
    generalize (World.setCell _ (⟨w.heap.size + 1, 7, none⟩ : Addr) (.int .i64 r4)) = W' at *
    obtain ⟨q0, q1, q2, q3, q4, q5, q6, q7⟩ := Q.cells8
    refine bodyPost_ret (v := .agg #[.int .i64 2, .int .i64 0, .slice none 0 0, .int .i64 r1, .int .i64 r2, .int .i64 r5, .int .i64 r3, .int .i64 r4]) (by simp [results, Tryd.results28, go_sem, q0, q1, q2, q3, q4, q5, q6, q7]) rfl ⟨none, 0, rfl, World.ownsRow_nil _ _ _ _, QB⟩
end Go.Proofs.YtmfahjghfpckeaaDoor
