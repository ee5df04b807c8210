import Derived.Test.YtliomhkgkabbbaaGreatDoorK04
import Derived.Test.YtliomhkgkabbbaaGreatDoorK03
import Derived.IntWalk
import Derived.Deep.CutRange
section
/- A customer that may be, made of any, off the document's code. -/
namespace Go.Proofs.YtliomhkgkabbbaaGreatDoor
open Go.RowKit
set_option linter.unusedVariables false
/-- The days of a set before day d. -/
def cutN (p : Nat) : Nat → Nat
  | 0 => 0
  | d + 1 => if hasB p (d : Int) then putN (cutN p d) (d : Int) 1 else cutN p d
theorem cutN_lt (p : Nat) : ∀ d, cutN p d < 2 ^ 64
  | 0 => (by decide : (0 : Nat) < 2 ^ 64)
  | d + 1 => by
    rw [cutN]
    split
    · exact putN_lt (cutN_lt p d) _ _
    · exact cutN_lt p d
/-- A pattern's days before day d. -/
def cutP (d : Int) (p : Int) : Int := (cutN p.toNat d.toNat : Nat)
/-- A customer that may be, made of any. -/
def goodCu (c : Cust) (d : Int) : Cust :=
  if c.kind.tmod 2 = 0 then { kind := 2, demand := 0, pats := [], rate := roundD c.rate 0 9, size := roundD c.size 1 30, start := roundD c.start 0 (roundD c.size 1 30), rule := roundD c.rule 1 2, hold := roundD c.hold 0 4 }
  else { kind := 1, demand := roundD c.demand 1 15, pats := if c.pats = [] then [1] else (c.pats.take 4).map (cutP d), rate := 0, size := 0, start := 0, rule := 0, hold := 0 }
/-- A row of patterns of the call's own. -/
def OwnP (W : World) (base : Nat) (v : Value) (ps : List Int) : Prop := W.ownsRow base 70 1 v ps.length (ps.map (Value.int .u64))
/-- What good hands back. -/
def GoodEnd (w : World) (g : Cust) (e : Ending) (w' : World) : Prop := ∃ P k, e = .returned (custV g P k) ∧ OwnP w' w.heap.size (.slice P g.pats.length k) g.pats ∧ Below w.heap.size w w'
set_option maxHeartbeats 4000000 in
theorem good_tank (c : Cust) (A : Option Addr) (k : Nat) (d : Int) (w : World) (hc : c.Wf) (hk : c.kind.tmod 2 = 0) :
    Calls Tryz.prog 16 #[custV c A k, .int .i64 d] w (GoodEnd w (goodCu c d)) := by
  have e0 : goodCu c d = _ := if_pos hk
  rw [e0]
  clear e0
  have C1 := fun W => round_any c.rate 0 9 hc.rate (by omega) (by omega) (by omega) W
  have C2 := fun W => round_any c.size 1 30 hc.size (by omega) (by omega) (by omega) W
  have C3 := fun W => round_any c.rule 1 2 hc.rule (by omega) (by omega) (by omega) W
  have C4 := fun W => round_any c.hold 0 4 hc.hold (by omega) (by omega) (by omega) W
  have hb := roundD_bd c.size (l := 1) (m := 30) (by omega)
  have C5 := fun W => round_any c.start 0 (roundD c.size 1 30) hc.start (by omega) (by omega) (by omega) W
  generalize hr5 : roundD c.start 0 (roundD c.size 1 30) = r5 at *
  generalize hr1 : roundD c.rate 0 9 = r1 at *
  generalize hr2 : roundD c.size 1 30 = r2 at *
  generalize hr3 : roundD c.rule 1 2 = r3 at *
  generalize hr4 : roundD c.hold 0 4 = r4 at *
  have hk2 : (c.kind.tmod 2 == 0) = true := by rw [hk]; rfl
  obtain ⟨b0, b1⟩ := hc.kind
  unfold custV
  clear hr1 hr2 hr3 hr4 hr5 hc hk
  have J := (BlkIs.fresh w 41 #[.int .i64 c.kind, .int .i64 c.demand, .slice A c.pats.length k, .int .i64 c.rate, .int .i64 c.size, .int .i64 c.start, .int .i64 c.rule, .int .i64 c.hold]).alloc (.cells #[.int .i64 0, .int .i64 0, .slice none 0 0, .int .i64 0, .int .i64 0, .int .i64 0, .int .i64 0, .int .i64 0] 41)
  have R := BlkIs.fresh (w.alloc (.cells #[.int .i64 c.kind, .int .i64 c.demand, .slice A c.pats.length k, .int .i64 c.rate, .int .i64 c.size, .int .i64 c.start, .int .i64 c.rule, .int .i64 c.hold] 41)) 41 #[.int .i64 0, .int .i64 0, .slice none 0 0, .int .i64 0, .int .i64 0, .int .i64 0, .int .i64 0, .int .i64 0]
  rw [World.size_alloc] at R
  have HB : Below w.heap.size w ((w.alloc (.cells #[.int .i64 c.kind, .int .i64 c.demand, .slice A c.pats.length k, .int .i64 c.rate, .int .i64 c.size, .int .i64 c.start, .int .i64 c.rule, .int .i64 c.hold] 41)).alloc (.cells #[.int .i64 0, .int .i64 0, .slice none 0 0, .int .i64 0, .int .i64 0, .int .i64 0, .int .i64 0, .int .i64 0] 41)) := (below_alloc _ _).alloc (by simp) _
  go_enter Tryz.func16, Tryz.ntmps16
  go_wp2_with fail
  obtain ⟨W0, hW0⟩ : ∃ W, W = (w.alloc (.cells #[.int .i64 c.kind, .int .i64 c.demand, .slice A c.pats.length k, .int .i64 c.rate, .int .i64 c.size, .int .i64 c.start, .int .i64 c.rule, .int .i64 c.hold] 41)).alloc (.cells #[.int .i64 0, .int .i64 0, .slice none 0 0, .int .i64 0, .int .i64 0, .int .i64 0, .int .i64 0, .int .i64 0] 41) := ⟨_, rfl⟩
  rw [← hW0] at J R HB ⊢
  clear hW0
  have l0 := J.lt
  have l1 := R.lt
  obtain ⟨j0, j1, j2, j3, j4, j5, j6, j7⟩ := J.cells8
  have HJ := Go.Lib.hid J
  have HR := Go.Lib.hid R
  clear J R
  go_cut [5] from 10 (fun p wx => ∃ g, p = .pointer (some ⟨g, 0, none⟩) ∧ w.heap.size + 1 < g ∧ BlkIs wx g 41 #[.int .i64 2, .int .i64 0, .slice none 0 0, .int .i64 r1, .int .i64 r2, .int .i64 0, .int .i64 r3, .int .i64 r4] ∧ Below W0.heap.size W0 wx)
  case first =>
    go_region_held3 (fun w' => w'.cell? ⟨w.heap.size, 3, none⟩ = some (.int .i64 c.rate) ∧ w'.cell? ⟨w.heap.size, 4, none⟩ = some (.int .i64 c.size) ∧ w'.cell? ⟨w.heap.size, 6, none⟩ = some (.int .i64 c.rule) ∧ w'.cell? ⟨w.heap.size, 7, none⟩ = some (.int .i64 c.hold))
      (first | exact ⟨j3, j4, j6, j7⟩ | go_keep)
      (first
        | (go_at_call 15; (first | (with_reducible refine (C1 _).mono ?_) | (with_reducible refine (C2 _).mono ?_) | (with_reducible refine (C3 _).mono ?_) | (with_reducible refine (C4 _).mono ?_)); rintro e w6 ⟨rfl, rfl⟩))
    all_goals
      go_wp2_with fail
      go_meet
      exact ⟨_, rfl, l1, BlkIs.fresh W0 _ _, (below_alloc W0 _).drew⟩
  case rest =>
    obtain ⟨g, rfl, hg, K, hb⟩ := hcut
    have HB2 := Go.Lib.hid (HB.trans (hb.mono HB.size))
    obtain ⟨j0, j1, j2, j3, j4, j5, j6, j7⟩ := (HJ.out.below hb l0).cells8
    obtain ⟨k0, k1, k2, k3, k4, k5, k6, k7⟩ := K.cells8
    have K2 := HR.out.below hb l1
    obtain ⟨s0, s1, s2, s3, s4, s5, s6, s7⟩ := K2.cells8
    have f5 := K.free 5
    have hgs : g ≠ w.heap.size + 1 := by omega
    have hgs' : w.heap.size + 1 ≠ g := by omega
    have fr : ∀ i, wc.frozen? ⟨w.heap.size + 1, i, none⟩ = false := fun i => K2.free i
    clear HB hb l0 l1
    go_wp2_with (go_at_call 15; refine (C5 _).mono ?_; rintro e w6 ⟨rfl, rfl⟩)
    have Q := (K2.far (p := ⟨g, 5, none⟩) hgs' (.int .i64 r5)).store8 (.int .i64 2) (.int .i64 0) (.slice none 0 0) (.int .i64 r1) (.int .i64 r2) (.int .i64 r5) (.int .i64 r3) (.int .i64 r4)
    have QB := Below.store8 (HB2.out.setCell (p := ⟨g, 5, none⟩) (by show w.heap.size ≤ g; omega) (.int .i64 r5)) (g := w.heap.size + 1) (by omega) (.int .i64 2) (.int .i64 0) (.slice none 0 0) (.int .i64 r1) (.int .i64 r2) (.int .i64 r5) (.int .i64 r3) (.int .i64 r4)
    generalize (World.setCell _ (⟨w.heap.size + 1, 7, none⟩ : Addr) (.int .i64 r4)) = W' at *
    obtain ⟨q0, q1, q2, q3, q4, q5, q6, q7⟩ := Q.cells8
    refine bodyPost_ret (v := .agg #[.int .i64 2, .int .i64 0, .slice none 0 0, .int .i64 r1, .int .i64 r2, .int .i64 r5, .int .i64 r3, .int .i64 r4]) (by simp [results, Tryz.results16, go_sem, q0, q1, q2, q3, q4, q5, q6, q7]) rfl ⟨none, 0, rfl, World.ownsRow_nil _ _ _ _, QB⟩
end Go.Proofs.YtliomhkgkabbbaaGreatDoor
end
section
/- A customer with patterns that may be, made of any, off the document's code. -/
namespace Go.Proofs.YtliomhkgkabbbaaGreatDoor
open Go.RowKit
set_option linter.unusedVariables false
set_option maxRecDepth 20000
theorem own_far {w : World} {base n size : Nat} {e : TypeId} {v : Value} {xs : List Value} (h : w.ownsRow base e size v n xs) {p : Addr} (hp : p.block < base) (u : Value) : (w.setCell p u).ownsRow base e size v n xs := by
  refine ⟨h.1, ?_⟩
  rcases h.2 with h0 | ⟨g, cap, cur, hv, hg, hh, r⟩
  · exact .inl h0
  · exact .inr ⟨g, cap, cur, hv, hg, (Below.heap_setCell w p u g (by omega)).trans hh, r⟩
theorem own_down {w : World} {base base' n size : Nat} {e : TypeId} {v : Value} {xs : List Value} (h : w.ownsRow base e size v n xs) (hb : base' ≤ base) : w.ownsRow base' e size v n xs := by
  refine ⟨h.1, ?_⟩
  rcases h.2 with h0 | ⟨g, cap, cur, hv, hg, r⟩
  · exact .inl h0
  · exact .inr ⟨g, cap, cur, hv, Nat.le_trans hb hg, r⟩
theorem info_u64 : (Tryz.prog.info? 70).map (fun i => (i.zero, i.size, i.bytes)) = some (some (.int .u64 0), 1, 8) := by kernel_rfl
/-- Between two patterns: the customer that came in, the result's block, and the customer that is made. -/
structure GoodMid (w : World) (c : Cust) (A : Option Addr) (k : Nat) (r : Int) (ps : List Int) (v : Value) (wr : World) : Prop where
  box : BlkIs wr w.heap.size 41 #[.int .i64 c.kind, .int .i64 c.demand, .slice A c.pats.length k, .int .i64 c.rate, .int .i64 c.size, .int .i64 c.start, .int .i64 c.rule, .int .i64 c.hold]
  res : BlkIs wr (w.heap.size + 1) 41 #[.int .i64 0, .int .i64 0, .slice none 0 0, .int .i64 0, .int .i64 0, .int .i64 0, .int .i64 0, .int .i64 0]
  out : BlkIs wr (w.heap.size + 1 + 1) 41 #[.int .i64 1, .int .i64 r, v, .int .i64 0, .int .i64 0, .int .i64 0, .int .i64 0, .int .i64 0]
  row : OwnP wr (w.heap.size + 3) v ps
  low : Below w.heap.size w wr
section
variable {w wr w2 : World} {c : Cust} {A : Option Addr} {k : Nat} {r : Int} {ps : List Int} {v : Value}
theorem GoodMid.keep (h : GoodMid w c A k r ps v wr) (hb : Below wr.heap.size wr w2) : GoodMid w c A k r ps v w2 :=
  ⟨h.box.below hb h.box.lt, h.res.below hb h.res.lt, h.out.below hb h.out.lt, own_keep h.row hb, h.low.trans (hb.mono h.low.size)⟩
theorem GoodMid.size (h : GoodMid w c A k r ps v wr) : w.heap.size + 3 ≤ wr.heap.size := h.out.lt
theorem GoodMid.spot (h : GoodMid w c A k r ps v wr) {tmp : Obj} {w3 : World} (hgrow : (wr.alloc tmp).grownBy w3 v.ownBlock) : w3.cell? ⟨w.heap.size + 1 + 1, 2, none⟩ = some v ∧ w3.frozen? ⟨w.heap.size + 1 + 1, 2, none⟩ = false := by
  have hge := own_ge h.row
  have o := (h.out.alloc tmp).grown hgrow (fun e => by have := hge _ e.symm; omega)
  exact ⟨o.cellAt 2, o.free 2⟩
theorem GoodMid.push (h : GoodMid w c A k r ps v wr) {tmp : Obj} {v' : Value} {p : Int} {w3 : World} (hgrow : (wr.alloc tmp).grownBy w3 v.ownBlock)
    (hown : w3.ownsRow (w.heap.size + 3) 70 1 v' (ps.length + 1) (ps.map (Value.int .u64) ++ [.int .u64 p])) : GoodMid w c A k r (ps ++ [p]) v' (w3.setCell ⟨w.heap.size + 1 + 1, 2, none⟩ v') := by
  have hge := own_ge h.row
  have ne : ∀ g, g < w.heap.size + 3 → some g ≠ v.ownBlock := fun g hg e => by have := hge g e.symm; omega
  have hz := h.size
  refine ⟨?_, ?_, ?_, ?_, ?_⟩
  · exact ((h.box.alloc tmp).grown hgrow (ne _ (by omega))).far (p := ⟨w.heap.size + 1 + 1, 2, none⟩) (by show w.heap.size ≠ w.heap.size + 1 + 1; omega) _
  · exact ((h.res.alloc tmp).grown hgrow (ne _ (by omega))).far (p := ⟨w.heap.size + 1 + 1, 2, none⟩) (by show w.heap.size + 1 ≠ w.heap.size + 1 + 1; omega) _
  · have := ((h.out.alloc tmp).grown hgrow (ne _ (by omega))).put 2 v'
    simpa using this
  · refine own_far ?_ (by show w.heap.size + 1 + 1 < w.heap.size + 3; omega) _
    unfold OwnP at *
    rw [List.length_append, List.map_append]
    exact hown
  · exact ((h.low.alloc h.low.size tmp).grown hgrow (by have := h.low.size; simp; omega) (fun g hg => by have := hge g hg; omega)).setCell (by show w.heap.size ≤ w.heap.size + 1 + 1; omega) _
end
theorem pats_nat {c : Cust} (hc : c.Wf) {i : Nat} (hi : i < c.pats.length) : ∃ s : Nat, c.pats.getD i 0 = (s : Int) ∧ s < 2 ^ 64 ∧ c.pats[i] = (s : Int) := by
  have h := hc.pats _ (List.getElem_mem hi)
  exact ⟨c.pats[i].toNat, by rw [getD_in _ _ hi]; omega, by omega, by omega⟩
/-- The result's block behind its stores, and what lies elsewhere. -/
theorem good_end {w X : World} {r : Int} {v : Value} {ps : List Int} (hR : BlkIs X (w.heap.size + 1) 41 #[.int .i64 0, .int .i64 0, .slice none 0 0, .int .i64 0, .int .i64 0, .int .i64 0, .int .i64 0, .int .i64 0])
    (hrow : OwnP X (w.heap.size + 3) v ps) (hB : Below w.heap.size w X) :
    BlkIs ((((((((X.setCell ⟨w.heap.size + 1, 0, none⟩ (.int .i64 1)).setCell ⟨w.heap.size + 1, 1, none⟩ (.int .i64 r)).setCell ⟨w.heap.size + 1, 2, none⟩ (v)).setCell ⟨w.heap.size + 1, 3, none⟩ (.int .i64 0)).setCell ⟨w.heap.size + 1, 4, none⟩ (.int .i64 0)).setCell ⟨w.heap.size + 1, 5, none⟩ (.int .i64 0)).setCell ⟨w.heap.size + 1, 6, none⟩ (.int .i64 0)).setCell ⟨w.heap.size + 1, 7, none⟩ (.int .i64 0)) (w.heap.size + 1) 41 #[.int .i64 1, .int .i64 r, v, .int .i64 0, .int .i64 0, .int .i64 0, .int .i64 0, .int .i64 0] ∧ OwnP ((((((((X.setCell ⟨w.heap.size + 1, 0, none⟩ (.int .i64 1)).setCell ⟨w.heap.size + 1, 1, none⟩ (.int .i64 r)).setCell ⟨w.heap.size + 1, 2, none⟩ (v)).setCell ⟨w.heap.size + 1, 3, none⟩ (.int .i64 0)).setCell ⟨w.heap.size + 1, 4, none⟩ (.int .i64 0)).setCell ⟨w.heap.size + 1, 5, none⟩ (.int .i64 0)).setCell ⟨w.heap.size + 1, 6, none⟩ (.int .i64 0)).setCell ⟨w.heap.size + 1, 7, none⟩ (.int .i64 0)) w.heap.size v ps ∧ Below w.heap.size w ((((((((X.setCell ⟨w.heap.size + 1, 0, none⟩ (.int .i64 1)).setCell ⟨w.heap.size + 1, 1, none⟩ (.int .i64 r)).setCell ⟨w.heap.size + 1, 2, none⟩ (v)).setCell ⟨w.heap.size + 1, 3, none⟩ (.int .i64 0)).setCell ⟨w.heap.size + 1, 4, none⟩ (.int .i64 0)).setCell ⟨w.heap.size + 1, 5, none⟩ (.int .i64 0)).setCell ⟨w.heap.size + 1, 6, none⟩ (.int .i64 0)).setCell ⟨w.heap.size + 1, 7, none⟩ (.int .i64 0)) :=
  ⟨hR.store8 (.int .i64 1) (.int .i64 r) (v) (.int .i64 0) (.int .i64 0) (.int .i64 0) (.int .i64 0) (.int .i64 0), own_down (own_far (own_far (own_far (own_far (own_far (own_far (own_far (own_far hrow (p := ⟨w.heap.size + 1, 0, none⟩) (by show w.heap.size + 1 < w.heap.size + 3; omega) (.int .i64 1)) (p := ⟨w.heap.size + 1, 1, none⟩) (by show w.heap.size + 1 < w.heap.size + 3; omega) (.int .i64 r)) (p := ⟨w.heap.size + 1, 2, none⟩) (by show w.heap.size + 1 < w.heap.size + 3; omega) (v)) (p := ⟨w.heap.size + 1, 3, none⟩) (by show w.heap.size + 1 < w.heap.size + 3; omega) (.int .i64 0)) (p := ⟨w.heap.size + 1, 4, none⟩) (by show w.heap.size + 1 < w.heap.size + 3; omega) (.int .i64 0)) (p := ⟨w.heap.size + 1, 5, none⟩) (by show w.heap.size + 1 < w.heap.size + 3; omega) (.int .i64 0)) (p := ⟨w.heap.size + 1, 6, none⟩) (by show w.heap.size + 1 < w.heap.size + 3; omega) (.int .i64 0)) (p := ⟨w.heap.size + 1, 7, none⟩) (by show w.heap.size + 1 < w.heap.size + 3; omega) (.int .i64 0)) (by omega), Below.store8 hB (g := w.heap.size + 1) (by omega) (.int .i64 1) (.int .i64 r) (v) (.int .i64 0) (.int .i64 0) (.int .i64 0) (.int .i64 0) (.int .i64 0)⟩
set_option maxHeartbeats 8000000 in
theorem good_periodic (c : Cust) (A : Option Addr) (k : Nat) (d : Nat) (w : World) (hc : c.Wf) (hp : Nums .u64 w A c.pats.length c.pats) (hd : d ≤ 7) (hk : ¬ c.kind.tmod 2 = 0) :
    Calls Tryz.prog 16 #[custV c A k, .int .i64 (d : Int)] w (GoodEnd w (goodCu c d)) := by
  obtain ⟨i0, hi, hz0, hz1, hz2⟩ := info_parts info_u64
  have e0 : goodCu c d = { kind := 1, demand := roundD c.demand 1 15, pats := if c.pats = [] then [1] else (c.pats.take 4).map (cutP d), rate := 0, size := 0, start := 0, rule := 0, hold := 0 } := if_neg hk
  obtain ⟨ps0, hps0⟩ : ∃ p, p = if c.pats = [] then [1] else (c.pats.take 4).map (cutP d) := ⟨_, rfl⟩
  rw [← hps0] at e0
  rw [e0]
  have HPS := Go.Lib.hid hps0
  clear e0 hps0
  have C1 := fun W => round_any c.demand 1 15 hc.demand (by omega) (by omega) (by omega) W
  generalize hr1 : roundD c.demand 1 15 = r at *
  have hk2 : (c.kind.tmod 2 == 0) = false := beq_eq_false_iff_ne.2 hk
  obtain ⟨b0, b1⟩ := hc.kind
  have hlen := hc.len
  unfold maxLen at hlen
  have HC := Go.Lib.hid hc
  have HP := Go.Lib.hid hp
  unfold custV
  clear hr1 hc hk hp
  have M0 : GoodMid w c A k r [] (.slice none 0 0) (((w.alloc (.cells #[.int .i64 c.kind, .int .i64 c.demand, .slice A c.pats.length k, .int .i64 c.rate, .int .i64 c.size, .int .i64 c.start, .int .i64 c.rule, .int .i64 c.hold] 41)).alloc (.cells #[.int .i64 0, .int .i64 0, .slice none 0 0, .int .i64 0, .int .i64 0, .int .i64 0, .int .i64 0, .int .i64 0] 41)).alloc (.cells #[.int .i64 1, .int .i64 r, .slice none 0 0, .int .i64 0, .int .i64 0, .int .i64 0, .int .i64 0, .int .i64 0] 41)) := by
    refine ⟨((BlkIs.fresh _ _ _).alloc _).alloc _, ?_, ?_, World.ownsRow_nil _ _ _ _, ((below_alloc _ _).alloc (by simp) _).alloc (by simp; omega) _⟩
    · have := (BlkIs.fresh (w.alloc (.cells #[.int .i64 c.kind, .int .i64 c.demand, .slice A c.pats.length k, .int .i64 c.rate, .int .i64 c.size, .int .i64 c.start, .int .i64 c.rule, .int .i64 c.hold] 41)) 41 #[.int .i64 0, .int .i64 0, .slice none 0 0, .int .i64 0, .int .i64 0, .int .i64 0, .int .i64 0, .int .i64 0])
      rw [World.size_alloc] at this
      exact this.alloc _
    · have := (BlkIs.fresh ((w.alloc (.cells #[.int .i64 c.kind, .int .i64 c.demand, .slice A c.pats.length k, .int .i64 c.rate, .int .i64 c.size, .int .i64 c.start, .int .i64 c.rule, .int .i64 c.hold] 41)).alloc (.cells #[.int .i64 0, .int .i64 0, .slice none 0 0, .int .i64 0, .int .i64 0, .int .i64 0, .int .i64 0, .int .i64 0] 41)) 41 #[.int .i64 1, .int .i64 r, .slice none 0 0, .int .i64 0, .int .i64 0, .int .i64 0, .int .i64 0, .int .i64 0])
      rw [World.size_alloc, World.size_alloc] at this
      exact this
  have HM0 := Go.Lib.hid M0
  clear M0
  go_enter Tryz.func16, Tryz.ntmps16
  go_wp2_with (go_at_call 15; refine (C1 _).mono ?_; rintro e w6 ⟨rfl, rfl⟩)
  go_loopw [7] (fun iv wr => ∃ (i : Nat) (v : Value), i ≤ c.pats.length ∧ i ≤ 4 ∧ iv = .int .i64 i ∧ GoodMid w c A k r ((c.pats.take i).map (cutP d)) v wr) (fun iv _ => c.pats.length - (intOf iv).toNat)
  case atStart => exact ⟨0, _, Nat.zero_le _, by omega, rfl, HM0.out⟩
  case round =>
    clear HM0 C1
    obtain ⟨i, v, hi1, hi4, rfl, hM⟩ := hrel
    have HM := Go.Lib.hid hM
    have hrow := hM.row
    unfold OwnP at hrow
    rw [List.length_map, List.length_take_of_le hi1] at hrow
    obtain ⟨P, kc, rfl, hkc⟩ := own_form hrow
    obtain ⟨j0, j1, j2, j3, j4, j5, j6, j7⟩ := hM.box.cells8
    by_cases hgo : i < c.pats.length ∧ i < 4
    · obtain ⟨h1, h2⟩ := hgo
      have h2' : (i : Int) < 4 := by omega
      obtain ⟨s, es, hs, es2⟩ := pats_nat HC.out h1
      obtain ⟨g, off, rfl, hcell⟩ := HP.out.2 (by omega)
      have hci := hcell i h1
      rw [es] at hci
      have HCI := Go.Lib.hid hci
      have HT : Hid ((c.pats.take (i + 1)).map (cutP d) = (c.pats.take i).map (cutP d) ++ [(cutN s d : Int)]) := by
        show _ = _
        rw [List.take_succ_eq_append_getElem h1, List.map_append, es2]
        simp [cutP]
      have CH := fun j W => has_ref s hs (j : Int) W
      have CP := fun q (hq : q < 2 ^ 64) j W => put_ref q hq j 1 (.inr rfl) W
      have HQ : Hid (∀ j, cutN s j < 2 ^ 64) := fun j => cutN_lt s j
      have HL : Hid (((c.pats.take i).map (cutP d)).length = i) := by show _ = _; rw [List.length_map, List.length_take_of_le hi1]
      have hM2 := HM.out
      generalize (c.pats.take i).map (cutP d) = ps at *
      clear hcell hci es es2 hrow hM hM2
      go_wp2
      go_loopw [8, 9] (fun pv dv wr' => ∃ j : Nat, j ≤ d ∧ dv = .int .i64 j ∧ pv = .int .u64 (cutN s j : Int) ∧ GoodMid w c (some ⟨g, off, none⟩) k r ps (.slice P i kc) wr') (fun _ dv _ => d - (intOf dv).toNat)
      case atStart => exact ⟨0, Nat.zero_le _, rfl, rfl, HM.out⟩
      case round =>
        clear HM j0 j1 j2 j3 j4 j5 j6 j7
        obtain ⟨j, hj, rfl, rfl, hM⟩ := hrel
        obtain ⟨j0, j1, j2, j3, j4, j5, j6, j7⟩ := hM.box.cells8
        have c1 := keep_cell hM.low HCI.out
        have hq := HQ.out j
        by_cases hlt : j < d
        · have HM := Go.Lib.hid hM
          have HE : Hid (cutN s (j + 1) = if hasB s (j : Int) then putN (cutN s j) (j : Int) 1 else cutN s j) := rfl
          have CHj := fun W => CH j W
          have CPj := fun W => CP _ hq (j : Int) W
          clear hM CH CP
          generalize cutN s j = q at *
          generalize hasB s (j : Int) = hb at *
          generalize putN q (j : Int) 1 = q2 at *
          cases hb
          · go_wp2_with (first
              | (go_at_call 36; refine (CHj _).mono ?_; rintro e w2 ⟨rfl, hb2⟩; have HM2 := Go.Lib.hid (HM.out.keep hb2); clear hb2))
            exact ⟨⟨j + 1, by omega, by go_num, by rw [HE.out]; rfl, HM2.out⟩, by simp [intOf]; omega⟩
          · go_wp2_with (first
              | (go_at_call 36; refine (CHj _).mono ?_; rintro e w2 ⟨rfl, hb2⟩; have HM2 := Go.Lib.hid (HM.out.keep hb2); clear hb2)
              | (go_at_call 37; refine (CPj _).mono ?_; rintro e w3 ⟨rfl, hb3⟩; have HM3 := Go.Lib.hid (HM2.out.keep hb3); clear hb3))
            exact ⟨⟨j + 1, by omega, by go_num, by rw [HE.out]; rfl, HM3.out⟩, by simp [intOf]; omega⟩
        · obtain rfl : d = j := by omega
          have hrow := hM.row
          unfold OwnP at hrow
          rw [HL.out] at hrow
          obtain ⟨k0, k1, k2', k3, k4, k5, k6, k7⟩ := hM.out.cells8
          have hsz := hM.size
          have HM := Go.Lib.hid hM
          have ff := hM.out.free 2
          clear hM CH CP
          generalize cutN s d = q at *
          go_wp2_with (at_builtin; refine wpList_append_own _ rfl _ _ 39 rfl (w.heap.size + 3) 70 i0 (.int .u64 0) 1 8 Tryz.underlying39 hi hz0 hz1 hz2 rfl (by decide) _ _ _ rfl (hrow.alloc _) ⟨wr.heap.size, 0, none⟩ 1 1 [.int .u64 q] rfl rfl (one_cell _ _ _) (one_okK _ _) (by unfold maxLen; omega) (by omega) (by simp; omega) ?_; intro v' w3 hown' hgrow _; obtain ⟨sp1, sp2⟩ := HM.out.spot hgrow; have HM3 := Go.Lib.hid (HM.out.push (p := (q : Int)) hgrow (by rw [HL.out]; exact hown')); obtain ⟨P2, k2c, rfl, _⟩ := own_form hown'; clear hown' hgrow)
          exact ⟨⟨i + 1, _, by omega, by omega, by go_num, by rw [HT.out]; exact HM3.out⟩, by simp [intOf]; omega⟩
    · have hst : (¬ i < c.pats.length ∧ i ≤ 4) ∨ (i < c.pats.length ∧ (4 : Int) ≤ (i : Int) ∧ i ≤ 4) := by
        by_cases h : i < c.pats.length
        · exact .inr ⟨h, by have : ¬ i < 4 := fun h2 => hgo ⟨h, h2⟩; omega, hi4⟩
        · exact .inl ⟨h, hi4⟩
      have hsz := hM.size
      have hlow := Go.Lib.hid hM.low
      obtain ⟨k0, k1, k2', k3, k4, k5, k6, k7⟩ := hM.out.cells8
      obtain ⟨s0, s1, s2, s3, s4, s5, s6, s7⟩ := hM.res.cells8
      have fr : ∀ i, wr.frozen? ⟨w.heap.size + 1, i, none⟩ = false := fun i => hM.res.free i
      have HR := Go.Lib.hid hM.res
      by_cases hnil : c.pats = []
      · have hps : Hid (ps0 = [1]) := by show _ = _; rw [HPS.out, if_pos hnil]
        obtain rfl : i = 0 := by rw [hnil] at hi1; simpa using hi1
        have h0 : c.pats.length = 0 := by rw [hnil]; rfl
        have HM2 : Hid (GoodMid w c A k r [] (.slice P 0 kc) wr) := by have := HM.out; rw [List.take_zero] at this; exact this
        clear hM hgo hst hnil hi1 HPS
        go_wp2_with (at_builtin; refine wpList_append_own _ rfl _ _ 39 rfl (w.heap.size + 3) 70 i0 (.int .u64 0) 1 8 Tryz.underlying39 hi hz0 hz1 hz2 rfl (by decide) _ _ _ rfl (hrow.alloc _) ⟨wr.heap.size, 0, none⟩ 1 1 [.int .u64 1] rfl rfl (one_cell _ _ _) (one_okK _ _) (by unfold maxLen; omega) (by omega) (by simp; omega) ?_; intro v' w3 hown' hgrow _; obtain ⟨sp1, sp2⟩ := HM2.out.spot hgrow; have HM3 := Go.Lib.hid (HM2.out.push (p := 1) hgrow hown'); obtain ⟨P2, k2c, rfl, _⟩ := own_form hown'; clear hown' hgrow; obtain ⟨k0, k1, k2', k3, k4, k5, k6, k7⟩ := HM3.out.out.cells8; obtain ⟨s0, s1, s2, s3, s4, s5, s6, s7⟩ := HM3.out.res.cells8; have fr : ∀ i, (w3.setCell ⟨w.heap.size + 1 + 1, 2, none⟩ (.slice P2 1 k2c)).frozen? ⟨w.heap.size + 1, i, none⟩ = false := fun i => HM3.out.res.free i)
        obtain ⟨Q, QO, QB⟩ := good_end (r := r) HM3.out.res HM3.out.row HM3.out.low
        generalize (World.setCell _ (⟨w.heap.size + 1, 7, none⟩ : Addr) (.int .i64 0)) = W' at *
        obtain ⟨q0, q1, q2, q3, q4, q5, q6, q7⟩ := Q.cells8
        refine bodyPost_ret (v := .agg #[.int .i64 1, .int .i64 r, .slice P2 1 k2c, .int .i64 0, .int .i64 0, .int .i64 0, .int .i64 0, .int .i64 0]) (by simp [results, Tryz.results16, go_sem, q0, q1, q2, q3, q4, q5, q6, q7]) rfl ⟨_, _, by rw [hps.out]; rfl, by rw [hps.out]; exact QO, QB⟩
      · have hps : Hid (ps0 = (c.pats.take i).map (cutP d)) := by
          show _ = _
          rw [HPS.out, if_neg hnil]
          rcases hst with ⟨h, h'⟩ | ⟨h, h', h''⟩
          · rw [List.take_of_length_le (by omega), List.take_of_length_le (by omega)]
          · obtain rfl : i = 4 := by omega
            rfl
        have hi0 : ((i : Int) == 0) = false := by
          have : c.pats.length ≠ 0 := fun h => hnil (List.eq_nil_of_length_eq_zero h)
          exact beq_eq_false_iff_ne.2 (by omega)
        have HL : Hid (((c.pats.take i).map (cutP d)).length = i) := by show _ = _; rw [List.length_map, List.length_take_of_le hi1]
        clear hM hgo hnil HPS
        rcases hst with ⟨a1, a2⟩ | ⟨a1, a2, a3⟩
        all_goals
          go_wp2
          obtain ⟨Q, QO, QB⟩ := good_end (r := r) HR.out HM.out.row hlow.out
          generalize (World.setCell _ (⟨w.heap.size + 1, 7, none⟩ : Addr) (.int .i64 0)) = W' at *
          obtain ⟨q0, q1, q2, q3, q4, q5, q6, q7⟩ := Q.cells8
          refine bodyPost_ret (v := .agg #[.int .i64 1, .int .i64 r, .slice P i kc, .int .i64 0, .int .i64 0, .int .i64 0, .int .i64 0, .int .i64 0]) (by simp [results, Tryz.results16, go_sem, q0, q1, q2, q3, q4, q5, q6, q7]) rfl ⟨_, _, by unfold custV; rw [hps.out, HL.out], by show OwnP W' w.heap.size (.slice P ps0.length kc) ps0; rw [hps.out, HL.out]; exact QO, QB⟩
end Go.Proofs.YtliomhkgkabbbaaGreatDoor
end
