/- The document's product of numbers. -/
import Derived.Test.YtnfjfejjbphgbaaMulPlain
namespace Go.Proofs.Ytnfjfejjbphgbaa
open Go.RowKit
set_option linter.unusedVariables false

/-- The blocks of Times while it goes round: the boxes of its arguments, its result's, and the row that it fills. -/
def MulMem (w wr : World) (A C : Option Addr) (n m c d : Nat) (na nb : Bool) (zs : List Int) : Prop :=
  BlkIs wr w.heap.size 24 #[.slice A n c, .bool na] ∧ BlkIs wr (w.heap.size + 1) 24 #[.slice C m d, .bool nb] ∧ BlkIs wr (w.heap.size + 2) 24 #[.slice none 0 0, .bool false] ∧
    wr.ownsRow (w.heap.size + 3) 3 1 (.slice (some ⟨w.heap.size + 3, 0, none⟩) (n + m + 1) (n + m + 1)) (n + m + 1) (zs.map (Value.int .i64)) ∧ Below w.heap.size w wr
theorem MulMem.drew {w wr : World} {A C : Option Addr} {n m c d : Nat} {na nb : Bool} {zs : List Int} (h : MulMem w wr A C n m c d na nb zs) (k : Nat) : MulMem w (wr.drewN k) A C n m c d na nb zs :=
  ⟨h.1, h.2.1, h.2.2.1, h.2.2.2.1, below_drewN h.2.2.2.2 k⟩
theorem MulMem.store {w wr : World} {A C : Option Addr} {n m c d : Nat} {na nb : Bool} {zs : List Int} (h : MulMem w wr A C n m c d na nb zs) (j : Nat) (u : Int) :
    MulMem w (wr.setCell ⟨w.heap.size + 3, j, none⟩ (.int .i64 u)) A C n m c d na nb (zs.set j u) := by
  obtain ⟨h1, h2, h3, h4, h5⟩ := h
  refine ⟨h1.far (by simp) _, h2.far (by simp) _, h3.far (by simp) _, ?_, h5.setCell (by simp) _⟩
  rw [List.map_set]
  exact (h4.stored j (.int .i64 u)).1
theorem MulMem.cellIn {w wr : World} {A C : Option Addr} {n m c d : Nat} {na nb : Bool} {zs : List Int} (h : MulMem w wr A C n m c d na nb zs) {j : Nat} (hj : j < n + m + 1) :
    wr.cell? ⟨w.heap.size + 3, j, none⟩ = some (.int .i64 (zs.getD j 0)) ∧ wr.frozen? ⟨w.heap.size + 3, j, none⟩ = false := by
  have hl : zs.length = n + m + 1 := by simpa using h.2.2.2.1.1
  refine ⟨?_, h.2.2.2.1.frozenAt j⟩
  rw [h.2.2.2.1.cellAt j (by omega), List.getElem?_map, List.getD_eq_getElem?_getD, List.getElem?_eq_getElem (by omega)]
  rfl
theorem MulMem.len {w wr : World} {A C : Option Addr} {n m c d : Nat} {na nb : Bool} {zs : List Int} (h : MulMem w wr A C n m c d na nb zs) : zs.length = n + m + 1 := by simpa using h.2.2.2.1.1

theorem MulMem.start {w wm : World} {A C : Option Addr} {n m c d : Nat} {na nb : Bool}
    (hown : wm.ownsRow (w.heap.size + 3) 3 1 (.slice (some ⟨w.heap.size + 3, 0, none⟩) (n + m + 1) (n + m + 1)) (n + m + 1) (madeCells (Value.int .i64 0).cells ((n + m + 1) * 1)).toList)
    (hg : (((w.alloc (.cells #[.slice A n c, .bool na] 24)).alloc (.cells #[.slice C m d, .bool nb] 24)).alloc (.cells #[.slice none 0 0, .bool false] 24)).grownBy wm none) :
    MulMem w wm A C n m c d na nb (List.replicate (n + m + 1) 0) := by
  have hb : Below (((w.alloc (.cells #[.slice A n c, .bool na] 24)).alloc (.cells #[.slice C m d, .bool nb] 24)).alloc (.cells #[.slice none 0 0, .bool false] 24)).heap.size
      (((w.alloc (.cells #[.slice A n c, .bool na] 24)).alloc (.cells #[.slice C m d, .bool nb] 24)).alloc (.cells #[.slice none 0 0, .bool false] 24)) wm := (Below.refl _ _).grown hg (Nat.le_refl _) (by simp)
  obtain ⟨k0, k1, k2, kb⟩ := three_blks hb
  refine ⟨k0, k1, k2, ?_, kb⟩
  rw [List.map_replicate, ← toList_madeCells_one]
  simpa [Value.cells] using hown

theorem prod_bd {x y : Int} (x0 : 0 ≤ x) (x1 : x ≤ 65535) (y0 : 0 ≤ y) (y1 : y ≤ 65535) : 0 ≤ x * y ∧ x * y ≤ 4294836225 := by
  have h1 := Int.mul_nonneg x0 y0
  have h2 := Int.mul_le_mul_of_nonneg_left (c := x) y1 x0
  omega

set_option maxHeartbeats 4000000 in
theorem bigtimes_row (A C : Option Addr) (n m c d : Nat) (xs ys : List Int) (na nb : Bool) (w : World) (hi : Ints w A n xs) (hj : Ints w C m ys) (dx : Dig xs) (dy : Dig ys) (hn : n ≤ 1000) (hm : m ≤ 1000) :
    Calls Try.prog 17 #[.agg #[.slice A n c, .bool na], .agg #[.slice C m d, .bool nb]] w fun e w' => ∃ u, e = .returned u ∧ Bg w' (n + m + 1) u (sg (na != nb) (val xs * val ys)) ∧ Below w.heap.size w w' := by
  obtain ⟨i0, hi0, hz0, hz1, hz2⟩ := info_parts info_int
  have HI := Go.Lib.hid hi
  have HJ := Go.Lib.hid hj
  have DX := Go.Lib.hid dx
  have DY := Go.Lib.hid dy
  clear hi hj dx dy
  go_enter Try.func17, Try.ntmps17
  go_wp2_with (at_make; refine wpList_make_full _ rfl _ _ 22 rfl (w.heap.size + 3) 3 i0 (.int .i64 0) 1 Try.underlying22 hi0 hz0 hz1 _ _ _ _ (n + m + 1) rfl rfl (by omega) (by omega) (by rw [hz2]; omega) (by unfold maxLen; omega) (by simp) ?_; intro wm hown hgm)
  simp only [World.size_alloc] at hown
  have MM := MulMem.start (A := A) (C := C) (c := c) (d := d) (na := na) (nb := nb) hown hgm
  clear hown hgm
  go_loopw [6] (fun iv wr => ∃ (i : Nat) (zs : List Int), iv = .int .i64 i ∧ i ≤ n ∧ MulMem w wr A C n m c d na nb zs ∧ MulAt xs ys zs i 0 0) (fun iv _ => n - (intOf iv).toNat)
  case atStart => exact ⟨0, _, rfl, Nat.zero_le _, MM, MulAt.start xs ys _⟩
  case round =>
    clear MM
    obtain ⟨i, zs, rfl, hin, M, P⟩ := hrel
    obtain ⟨a0, a1, a2, a3⟩ := M.1.cells2
    obtain ⟨b0, b1, b2, b3⟩ := M.2.1.cells2
    by_cases hlt : i < n
    · obtain ⟨x, hx⟩ : ∃ x, xs.getD i 0 = x := ⟨_, rfl⟩
      have hxb := DX.out.getD i
      rw [hx] at hxb
      obtain ⟨x0, x1⟩ := hxb
      have HX := Go.Lib.hid hx
      clear hx
      obtain ⟨wo, rfl⟩ : ∃ wo : World, wo = wr := ⟨_, rfl⟩
      have PO := Go.Lib.hid P
      have MO := Go.Lib.hid M
      clear P M a0 a1 a2 a3 b0 b1 b2 b3
      have a0 := MO.out.1.cells2.1
      go_wp2
      clear a0
      go_loopw [7, 8, 9] (fun cv kv _ wr => ∃ (k : Nat) (cc : Int) (zs : List Int), kv = .int .i64 k ∧ cv = .int .i64 cc ∧ MulAt xs ys zs i k cc ∧ MulMem w wr A C n m c d na nb zs ∧ k ≤ m + 1) (fun _ kv _ _ => m + 1 - (intOf kv).toNat)
      case atStart => exact ⟨0, 0, zs, rfl, rfl, PO.out, MO.out, Nat.zero_le _⟩
      case round =>
        clear PO MO
        obtain ⟨k, cc, zt, rfl, rfl, P, M, hk⟩ := hrel
        have c0 := P.2.2.1
        have c1 := P.2.2.2
        have MM := Go.Lib.hid M
        have PP := Go.Lib.hid P
        obtain ⟨a0, a1, a2, a3⟩ := M.1.cells2
        obtain ⟨b0, b1, b2, b3⟩ := M.2.1.cells2
        have hsh := fun h => P.short DX.out DY.out h
        rw [HJ.out.1] at hsh
        have hzb := P.2.1.getD (i + k)
        obtain ⟨z, hz⟩ : ∃ z, zt.getD (i + k) 0 = z := ⟨_, rfl⟩
        rw [hz] at hzb
        obtain ⟨z0, z1⟩ := hzb
        have HZ := Go.Lib.hid hz
        have ii0 : (0 : Int) ≤ (i : Int) := Int.natCast_nonneg _
        have kk0 : (0 : Int) ≤ (k : Int) := Int.natCast_nonneg _
        by_cases hkm : k < m
        · obtain ⟨g0, g1⟩ := M.cellIn (j := i + k) (by omega)
          rw [hz] at g0
          obtain ⟨y, hy⟩ : ∃ y, ys.getD k 0 = y := ⟨_, rfl⟩
          have hyb := DY.out.getD k
          rw [hy] at hyb
          obtain ⟨y0, y1⟩ := hyb
          have HY := Go.Lib.hid hy
          obtain ⟨xy0, xy1⟩ := prod_bd x0 x1 y0 y1
          obtain ⟨bx, ox, rfl, hcx⟩ := (HI.out.keep M.2.2.2.2).2 (by omega)
          obtain ⟨by', oy, rfl, hcy⟩ := (HJ.out.keep M.2.2.2.2).2 (by omega)
          have e0 := hcx i (by omega)
          have e1 := hcy k (by omega)
          rw [HX.out] at e0
          rw [hy] at e1
          have ii1 : (i : Int) < (n : Int) := by omega
          have kk1 : (k : Int) < (m : Int) := by omega
          clear hy hz hcx hcy hsh M P
          go_wp2
          go_quiet (fail)
          go_wp2
          go_roundw
          case rel => exact ⟨k + 1, _, _, by go_num, rfl, PP.out.step (by rw [MM.out.len]; omega) (z + cc + x * y) (by rw [HZ.out, HX.out, HY.out]) (by omega) (by omega), (MM.out.drew _).store (i + k) ((z + cc + x * y) % 65536), by omega⟩
          case measure => simp [intOf]; omega
        · by_cases hcc : 0 < cc
          · have hkm' := hsh (by omega)
            obtain ⟨g0, g1⟩ := M.cellIn (j := i + k) (by omega)
            rw [hz] at g0
            have HY : Hid (ys.getD k 0 = 0) := by
              show ys.getD k 0 = 0
              rw [List.getD_eq_getElem?_getD, List.getElem?_eq_none (by rw [HJ.out.1]; omega)]; rfl
            clear hz hsh M P
            go_wp2
            go_roundw
            case rel => exact ⟨k + 1, _, _, by go_num, rfl, PP.out.step (by rw [MM.out.len]; omega) (z + cc) (by rw [HZ.out, HX.out, HY.out]; omega) (by omega) (by omega), MM.out.store (i + k) ((z + cc) % 65536), by omega⟩
            case measure => simp [intOf]; omega
          · clear hsh hz M P
            go_wp2
            go_roundw
            case rel => exact ⟨i + 1, zt, by go_num, by omega, MM.out, PP.out.next (by rw [HJ.out.1]; omega) (by omega)⟩
            case measure => simp [intOf]; omega
    · obtain ⟨r0, r1, r2, r3⟩ := M.2.2.1.cells2
      have HP := Go.Lib.hid P
      have HM := Go.Lib.hid M
      clear P M
      go_wp2_with fail
      refine (trim_any _ _ _ zs _ _ (Ints.of_own HM.out.2.2.2.1) HP.out.2.1 (by omega) (Nat.le_refl _)).mono ?_
      rintro e w2 ⟨v2, rfl, hbg, hb2⟩
      have K := HM.out.2.2.1.below hb2 HM.out.2.2.1.lt
      have hbw := HM.out.2.2.2.2.trans (hb2.mono HM.out.2.2.2.2.size)
      obtain ⟨A1, n1, c1, xs1, neg1, rfl, hrest⟩ := hbg
      have HG := Go.Lib.hid (Bg.store2 (A1 := A1) (n1 := n1) (c1 := c1) (b1 := neg1) (⟨A1, n1, c1, xs1, neg1, rfl, hrest⟩ : Bg w2 (n + m + 1) (.agg #[.slice A1 n1 c1, .bool neg1]) _) K)
      obtain ⟨k0, k1, k2, k3⟩ := K.cells2
      obtain ⟨q0, q1⟩ := K.two (A1 := A1) (n1 := n1) (c1 := c1) (b1 := neg1)
      have HW := Go.Lib.hid hbw
      clear K hbw hrest hb2
      go_wp2
      refine bodyPost_ret (v := .agg #[.slice A1 n1 c1, .bool neg1]) (by simp [results, Try.results17, go_sem, q0, q1]) rfl ⟨_, rfl, ?_, ?_⟩
      · refine HG.out.cast ?_
        rw [HP.out.fin rfl (by rw [HI.out.1]; omega)]
        cases na <;> cases nb <;> rfl
      · exact (HW.out.setCell (by simp; omega) _).setCell (by simp; omega) _

/-- The document's product. -/
theorem bigtimes_any (L : Nat) (v u : Value) (x y : Int) (w : World) (hx : Bg w L v x) (hy : Bg w L u y) (hL : L ≤ 1000) :
    Calls Try.prog 17 #[v, u] w fun e w' => ∃ r, e = .returned r ∧ Bg w' (L + L + 1) r (x * y) ∧ Below w.heap.size w w' := by
  obtain ⟨A, n, c, xs, na, rfl, hi, dx, nx, zx, rfl, hn, hc⟩ := hx
  obtain ⟨C, m, d, ys, nb, rfl, hj, dy, ny, zy, rfl, hm, hd⟩ := hy
  refine (bigtimes_row A C n m c d xs ys na nb w hi hj dx dy (by omega) (by omega)).mono ?_
  rintro e w' ⟨r, h1, h2, h3⟩
  exact ⟨r, h1, (h2.more (by omega)).cast (by unfold sg; cases na <;> cases nb <;> simp [Int.neg_mul, Int.mul_neg]), h3⟩
end Go.Proofs.Ytnfjfejjbphgbaa
