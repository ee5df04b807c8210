/- The document's sum of numbers. -/
import Derived.Test.YtmjogpbdgbgkhaaDoorOf
import Derived.Test.YtmjogpbdgbgkhaaDoorMinus
import Derived.Test.YtmjogpbdgbgkhaaDoorSize
import Derived.Deep.RegionHeld3
namespace Go.Proofs.YtmjogpbdgbgkhaaDoor
open Go.RowKit
set_option linter.unusedVariables false

theorem Bg.store2 {w : World} {L : Nat} {A0 A1 : Option Addr} {n0 c0 n1 c1 : Nat} {b0 b1 : Bool} {v : Value} {z : Int} {g : Nat} {t : TypeId} (h : Bg w L v z) (K : BlkIs w g t #[.slice A0 n0 c0, .bool b0]) :
    Bg ((w.setCell ⟨g, 0, none⟩ (.slice A1 n1 c1)).setCell ⟨g, 1, none⟩ (.bool b1)) L v z := by
  obtain ⟨A, n, c, xs, neg, h1, h2, h3⟩ := h
  exact ⟨A, n, c, xs, neg, h1, h2.store2 K, h3⟩
theorem Bg.cast {w : World} {L : Nat} {v : Value} {z z' : Int} (h : Bg w L v z) (e : z = z') : Bg w L v z' := e ▸ h
set_option maxHeartbeats 2000000 in
theorem add_same (A C : Option Addr) (n m c d : Nat) (xs ys : List Int) (neg : Bool) (w : World) (hi : Ints w A n xs) (hj : Ints w C m ys) (dx : Dig xs) (dy : Dig ys) (hn : n ≤ 1000) (hm : m ≤ 1000) :
    Calls Tryd.prog 43 #[.agg #[.slice A n c, .bool neg], .agg #[.slice C m d, .bool neg]] w fun e w' => ∃ u, e = .returned u ∧ Bg w' (max n m + 1) u (sg neg (val xs + val ys)) ∧ Below w.heap.size w w' := by
  have HI := Go.Lib.hid hi
  have HJ := Go.Lib.hid hj
  have DX := Go.Lib.hid dx
  have DY := Go.Lib.hid dy
  have HB := Go.Lib.hid (below3 w)
  clear hi hj dx dy
  have hneg : (neg == neg) = true := by simp
  go_enter Tryd.func43, Tryd.ntmps43
  go_wp2
  go_region_held3 (fun w' => w'.cell? ⟨w.heap.size, 0, none⟩ = some (.slice A n c) ∧ w'.cell? ⟨w.heap.size, 1, none⟩ = some (.bool neg) ∧ w'.cell? ⟨w.heap.size + 1, 0, none⟩ = some (.slice C m d))
    (first | ((try dsimp only); (repeat' apply And.intro) <;> (first | assumption | (rw [far_two (by omega)]; assumption)); done) | go_keep)
    (first
      | (go_at_call 48; refine (plus_any A C n m c d xs ys _ (HI.out.keep (HB.out _ _ _).drew) (HJ.out.keep (HB.out _ _ _).drew) DX.out DY.out hn hm).mono ?_; rintro e w1 ⟨A1, n1, c1, zs, rfl, hi1, hd1, hv1, hn1, hb1, hc1⟩; obtain ⟨K0, K1, K2, KB⟩ := three_blks ((Below.refl _ _).drew.trans hb1); obtain ⟨p0, p1, p2, p3⟩ := K0.cells2; obtain ⟨p4, p5, p6, p7⟩ := K1.cells2; have HV1 := Go.Lib.hid hv1; have HI1 := Go.Lib.hid hi1; have HD1 := Go.Lib.hid hd1; clear hv1 hi1 hd1)
      | (go_at_call 47; refine (trim_any _ _ _ _ _ _ HI1.out HD1.out (by omega) hc1).mono ?_; rintro e w2 ⟨v2, rfl, hbg, hb2⟩; obtain ⟨A2, n2, c2, xs2, neg2, rfl, hrest⟩ := hbg; have M0 := K0.below hb2 K0.lt; have M1 := K1.below hb2 K1.lt; have M2 := K2.below hb2 K2.lt; obtain ⟨s0, s1, s2, s3⟩ := M0.cells2; obtain ⟨s4, s5, s6, s7⟩ := M1.cells2; obtain ⟨k0, k1, k2, k3⟩ := M2.cells2; obtain ⟨q0, q1⟩ := M2.two (A1 := A2) (n1 := n2) (c1 := c2) (b1 := neg2); have HW := Go.Lib.hid (KB.trans (hb2.mono KB.size)); have HG := Go.Lib.hid (Bg.store2 (A1 := A2) (n1 := n2) (c1 := c2) (b1 := neg2) (⟨A2, n2, c2, xs2, neg2, rfl, hrest⟩ : Bg w2 n1 (.agg #[.slice A2 n2 c2, .bool neg2]) _) M2); clear hrest))
  go_wp2
  refine bodyPost_ret (v := .agg #[.slice A2 n2 c2, .bool neg2]) (by simp [results, Tryd.results43, go_sem, q0, q1]) rfl ⟨_, rfl, ?_, ?_⟩
  · exact ((HG.out.more hn1).cast (by rw [HV1.out]))
  · exact (HW.out.setCell (by simp; omega) _).setCell (by simp; omega) _

set_option maxHeartbeats 2000000 in
theorem add_ge (A C : Option Addr) (n m c d : Nat) (xs ys : List Int) (na nb : Bool) (w : World) (hi : Ints w A n xs) (hj : Ints w C m ys) (dx : Dig xs) (dy : Dig ys) (nx : Norm xs) (ny : Norm ys) (hn : n ≤ 1000) (hm : m ≤ 1000)
    (hne : (na == nb) = false) (hcmp : val ys ≤ val xs) :
    Calls Tryd.prog 43 #[.agg #[.slice A n c, .bool na], .agg #[.slice C m d, .bool nb]] w fun e w' => ∃ u, e = .returned u ∧ Bg w' (max n m + 1) u (sg na (val xs - val ys)) ∧ Below w.heap.size w w' := by
  have hlen : m ≤ n := by
    rcases Nat.lt_or_ge n m with h | h
    · have := cmp_short dx dy ny (by rw [hi.1, hj.1]; exact h); omega
    · exact h
  have HI := Go.Lib.hid hi
  have HJ := Go.Lib.hid hj
  have DX := Go.Lib.hid dx
  have DY := Go.Lib.hid dy
  have HC := Go.Lib.hid hcmp
  have HB := Go.Lib.hid (below3 w)
  obtain ⟨r, hr, hr1⟩ : ∃ r, cmpV (val xs) (val ys) = r ∧ 0 ≤ r := ⟨_, rfl, by unfold cmpV; split <;> (try split) <;> omega⟩
  have S : ∀ W, Ints W A n xs → Ints W C m ys → Calls Tryd.prog 46 #[.slice A n c, .slice C m d] W fun e w' => e = .returned (.int .i64 r) ∧ Below W.heap.size W w' :=
    fun W ha hb => hr ▸ dsize_any A C n m c d xs ys W ha hb dx dy nx ny hn hm
  clear hi hj dx dy nx ny hcmp hr
  go_enter Tryd.func43, Tryd.ntmps43
  go_wp2_with (go_at_call 46; refine (S _ (HI.out.keep (HB.out _ _ _)) (HJ.out.keep (HB.out _ _ _))).mono ?_; rintro e w0 ⟨rfl, hb0⟩; obtain ⟨J0, J1, J2, JB⟩ := three_blks hb0; obtain ⟨j0, j1, j2, j3⟩ := J0.cells2; obtain ⟨j4, j5, j6, j7⟩ := J1.cells2; obtain ⟨j8, j9, j10, j11⟩ := J2.cells2; clear hb0)
  clear S
  go_region_held3 (fun w' => w'.cell? ⟨w.heap.size, 0, none⟩ = some (.slice A n c) ∧ w'.cell? ⟨w.heap.size, 1, none⟩ = some (.bool na) ∧ w'.cell? ⟨w.heap.size + 1, 0, none⟩ = some (.slice C m d))
    (first | ((try dsimp only); (repeat' apply And.intro) <;> (first | assumption | (rw [far_two (by omega)]; assumption)); done) | go_keep)
    (first
      | (go_at_call 49; refine (minus_any A C n m c d xs ys _ (HI.out.keep JB.drew) (HJ.out.keep JB.drew) DX.out DY.out hn hlen HC.out).mono ?_; rintro e w1 ⟨A1, n1, c1, zs, rfl, hi1, hd1, hv1, hn1, hb1, hc1⟩; have HB1 := (Below.refl _ w0).drew.trans hb1; have K0 := J0.below HB1 J0.lt; have K1 := J1.below HB1 J1.lt; have K2 := J2.below HB1 J2.lt; have KB := JB.trans (HB1.mono JB.size); obtain ⟨p0, p1, p2, p3⟩ := K0.cells2; obtain ⟨p4, p5, p6, p7⟩ := K1.cells2; have HV1 := Go.Lib.hid hv1; have HI1 := Go.Lib.hid hi1; have HD1 := Go.Lib.hid hd1; clear hv1 hi1 hd1)
      | (go_at_call 47; refine (trim_any _ _ _ _ _ _ HI1.out HD1.out (by omega) hc1).mono ?_; rintro e w2 ⟨v2, rfl, hbg, hb2⟩; obtain ⟨A2, n2, c2, xs2, neg2, rfl, hrest⟩ := hbg; have M0 := K0.below hb2 K0.lt; have M1 := K1.below hb2 K1.lt; have M2 := K2.below hb2 K2.lt; obtain ⟨s0, s1, s2, s3⟩ := M0.cells2; obtain ⟨s4, s5, s6, s7⟩ := M1.cells2; obtain ⟨k0, k1, k2, k3⟩ := M2.cells2; obtain ⟨q0, q1⟩ := M2.two (A1 := A2) (n1 := n2) (c1 := c2) (b1 := neg2); have HW := Go.Lib.hid (KB.trans (hb2.mono KB.size)); have HG := Go.Lib.hid (Bg.store2 (A1 := A2) (n1 := n2) (c1 := c2) (b1 := neg2) (⟨A2, n2, c2, xs2, neg2, rfl, hrest⟩ : Bg w2 n1 (.agg #[.slice A2 n2 c2, .bool neg2]) _) M2); clear hrest))
  go_wp2
  refine bodyPost_ret (v := .agg #[.slice A2 n2 c2, .bool neg2]) (by simp [results, Tryd.results43, go_sem, q0, q1]) rfl ⟨_, rfl, ?_, ?_⟩
  · exact ((HG.out.more (by omega)).cast (by rw [HV1.out]))
  · exact (HW.out.setCell (by simp; omega) _).setCell (by simp; omega) _

set_option maxHeartbeats 2000000 in
theorem add_lt (A C : Option Addr) (n m c d : Nat) (xs ys : List Int) (na nb : Bool) (w : World) (hi : Ints w A n xs) (hj : Ints w C m ys) (dx : Dig xs) (dy : Dig ys) (nx : Norm xs) (ny : Norm ys) (hn : n ≤ 1000) (hm : m ≤ 1000)
    (hne : (na == nb) = false) (hcmp : val xs < val ys) :
    Calls Tryd.prog 43 #[.agg #[.slice A n c, .bool na], .agg #[.slice C m d, .bool nb]] w fun e w' => ∃ u, e = .returned u ∧ Bg w' (max n m + 1) u (sg nb (val ys - val xs)) ∧ Below w.heap.size w w' := by
  have hlen : n ≤ m := by
    rcases Nat.lt_or_ge m n with h | h
    · have := cmp_short dy dx nx (by rw [hi.1, hj.1]; exact h); omega
    · exact h
  have HI := Go.Lib.hid hi
  have HJ := Go.Lib.hid hj
  have DX := Go.Lib.hid dx
  have DY := Go.Lib.hid dy
  have HC := Go.Lib.hid hcmp
  have HB := Go.Lib.hid (below3 w)
  obtain ⟨r, hr, hr1⟩ : ∃ r, cmpV (val xs) (val ys) = r ∧ r ≤ -1 := ⟨_, rfl, by unfold cmpV; split <;> (try split) <;> omega⟩
  have S : ∀ W, Ints W A n xs → Ints W C m ys → Calls Tryd.prog 46 #[.slice A n c, .slice C m d] W fun e w' => e = .returned (.int .i64 r) ∧ Below W.heap.size W w' :=
    fun W ha hb => hr ▸ dsize_any A C n m c d xs ys W ha hb dx dy nx ny hn hm
  clear hi hj dx dy nx ny hcmp hr
  go_enter Tryd.func43, Tryd.ntmps43
  go_wp2_with (go_at_call 46; refine (S _ (HI.out.keep (HB.out _ _ _)) (HJ.out.keep (HB.out _ _ _))).mono ?_; rintro e w0 ⟨rfl, hb0⟩; obtain ⟨J0, J1, J2, JB⟩ := three_blks hb0; obtain ⟨j0, j1, j2, j3⟩ := J0.cells2; obtain ⟨j4, j5, j6, j7⟩ := J1.cells2; obtain ⟨j8, j9, j10, j11⟩ := J2.cells2; clear hb0)
  clear S
  go_region_held3 (fun w' => w'.cell? ⟨w.heap.size + 1, 0, none⟩ = some (.slice C m d) ∧ w'.cell? ⟨w.heap.size + 1, 1, none⟩ = some (.bool nb) ∧ w'.cell? ⟨w.heap.size, 0, none⟩ = some (.slice A n c))
    (first | ((try dsimp only); (repeat' apply And.intro) <;> (first | assumption | (rw [far_two (by omega)]; assumption)); done) | go_keep)
    (first
      | (go_at_call 49; refine (minus_any C A m n d c ys xs _ (HJ.out.keep JB.drew) (HI.out.keep JB.drew) DY.out DX.out hm hlen (Int.le_of_lt HC.out)).mono ?_; rintro e w1 ⟨A1, n1, c1, zs, rfl, hi1, hd1, hv1, hn1, hb1, hc1⟩; have HB1 := (Below.refl _ w0).drew.trans hb1; have K0 := J0.below HB1 J0.lt; have K1 := J1.below HB1 J1.lt; have K2 := J2.below HB1 J2.lt; have KB := JB.trans (HB1.mono JB.size); obtain ⟨p0, p1, p2, p3⟩ := K0.cells2; obtain ⟨p4, p5, p6, p7⟩ := K1.cells2; have HV1 := Go.Lib.hid hv1; have HI1 := Go.Lib.hid hi1; have HD1 := Go.Lib.hid hd1; clear hv1 hi1 hd1)
      | (go_at_call 47; refine (trim_any _ _ _ _ _ _ HI1.out HD1.out (by omega) hc1).mono ?_; rintro e w2 ⟨v2, rfl, hbg, hb2⟩; obtain ⟨A2, n2, c2, xs2, neg2, rfl, hrest⟩ := hbg; have M0 := K0.below hb2 K0.lt; have M1 := K1.below hb2 K1.lt; have M2 := K2.below hb2 K2.lt; obtain ⟨s0, s1, s2, s3⟩ := M0.cells2; obtain ⟨s4, s5, s6, s7⟩ := M1.cells2; obtain ⟨k0, k1, k2, k3⟩ := M2.cells2; obtain ⟨q0, q1⟩ := M2.two (A1 := A2) (n1 := n2) (c1 := c2) (b1 := neg2); have HW := Go.Lib.hid (KB.trans (hb2.mono KB.size)); have HG := Go.Lib.hid (Bg.store2 (A1 := A2) (n1 := n2) (c1 := c2) (b1 := neg2) (⟨A2, n2, c2, xs2, neg2, rfl, hrest⟩ : Bg w2 n1 (.agg #[.slice A2 n2 c2, .bool neg2]) _) M2); clear hrest))
  go_wp2
  refine bodyPost_ret (v := .agg #[.slice A2 n2 c2, .bool neg2]) (by simp [results, Tryd.results43, go_sem, q0, q1]) rfl ⟨_, rfl, ?_, ?_⟩
  · exact ((HG.out.more (by omega)).cast (by rw [HV1.out]))
  · exact (HW.out.setCell (by simp; omega) _).setCell (by simp; omega) _

/-- The document's sum. -/
theorem bigadd_any (L : Nat) (v u : Value) (x y : Int) (w : World) (hx : Bg w L v x) (hy : Bg w L u y) (hL : L ≤ 1000) :
    Calls Tryd.prog 43 #[v, u] w fun e w' => ∃ r, e = .returned r ∧ Bg w' (L + 1) r (x + y) ∧ Below w.heap.size w w' := by
  obtain ⟨A, n, c, xs, na, rfl, hi, dx, nx, zx, rfl, hn, hc⟩ := hx
  obtain ⟨C, m, d, ys, nb, rfl, hj, dy, ny, zy, rfl, hm, hd⟩ := hy
  cases hne : (na == nb)
  · by_cases hcmp : val ys ≤ val xs
    · refine (add_ge A C n m c d xs ys na nb w hi hj dx dy nx ny (by omega) (by omega) hne hcmp).mono ?_
      rintro e w' ⟨r, h1, h2, h3⟩
      exact ⟨r, h1, (h2.more (by omega)).cast (by unfold sg; cases na <;> cases nb <;> simp at hne ⊢ <;> omega), h3⟩
    · refine (add_lt A C n m c d xs ys na nb w hi hj dx dy nx ny (by omega) (by omega) hne (by omega)).mono ?_
      rintro e w' ⟨r, h1, h2, h3⟩
      exact ⟨r, h1, (h2.more (by omega)).cast (by unfold sg; cases na <;> cases nb <;> simp at hne ⊢ <;> omega), h3⟩
  · obtain rfl : na = nb := by simpa using hne
    refine (add_same A C n m c d xs ys na w hi hj dx dy (by omega) (by omega)).mono ?_
    rintro e w' ⟨r, h1, h2, h3⟩
    exact ⟨r, h1, (h2.more (by omega)).cast (by unfold sg; cases na <;> simp; omega), h3⟩
end Go.Proofs.YtmjogpbdgbgkhaaDoor
