/- HeapOnce's walk. -/
import Derived.Test.YtgpnpopmlommaaaSorted
import Derived.Test.YtgpnpopmlommaaaHeapLives
namespace Go.Proofs.Ytgpnpopmlommaaa
open Go.RowKit Go.Maps
set_option linter.unusedVariables false
/-- Block H tells which places have been met. -/
def MarksAre (w : World) (H n : Nat) (g : Nat → Bool) : Prop := ∃ cur, w.heap[H]? = some (.cells cur 4 (0, 0)) ∧ cur.size = n ∧ ∀ k, k < n → cur[k]? = some (.bool (g k))
theorem MarksAre.cell {w : World} {H n k : Nat} {g : Nat → Bool} (h : MarksAre w H n g) (hk : k < n) : w.cell? ⟨H, k, none⟩ = some (.bool (g k)) := by
  obtain ⟨cur, h1, _, h2⟩ := h
  simp [World.cell?, h1, h2 k hk]
theorem MarksAre.free {w : World} {H n : Nat} {g : Nat → Bool} (h : MarksAre w H n g) (k : Nat) : w.frozen? ⟨H, k, none⟩ = false := by
  obtain ⟨cur, h1, _⟩ := h
  simp [World.frozen?, h1]
theorem MarksAre.keep {w w' : World} {H n : Nat} {g : Nat → Bool} (h : MarksAre w H n g) (hb : w'.heap[H]? = w.heap[H]?) : MarksAre w' H n g := by
  obtain ⟨cur, h1, r⟩ := h
  exact ⟨cur, hb.trans h1, r⟩
theorem MarksAre.put {w : World} {H n k : Nat} {g : Nat → Bool} (h : MarksAre w H n g) (hk : k < n) : MarksAre (w.setCell ⟨H, k, none⟩ (.bool true)) H n (fun j => if j = k then true else g j) := by
  obtain ⟨cur, h1, h2, h3⟩ := h
  refine ⟨cur.setIfInBounds k (.bool true), ?_, by simpa using h2, fun j hj => ?_⟩
  · simp [World.setCell, Array.getElem?_modify, h1]
  · by_cases e : j = k
    · subst e
      rw [Array.getElem?_setIfInBounds_self_of_lt (by omega)]
      show _ = some (Value.bool (if j = j then true else g j))
      rw [if_pos rfl]
    · rw [Array.getElem?_setIfInBounds_ne (by omega), h3 j hj]
      show _ = some (Value.bool (if j = k then true else g j))
      rw [if_neg e]
theorem info_b : (Try.prog.info? 4).map (fun i => (i.zero, i.size, i.bytes)) = some (some (.bool false), 1, 1) := by kernel_rfl
theorem madeMarks_at {n k : Nat} (hk : k < n) : (madeCells #[Value.bool false] n)[k]? = some (.bool false) := by
  unfold madeCells
  simp [hk, Nat.mod_one]
/-- Is place k among the first i? -/
def metB (f : Nat → Int) (i k : Nat) : Bool := (List.range i).any fun j => f j == (k : Int)
theorem metB_none (f : Nat → Int) (k : Nat) : metB f 0 k = false := rfl
theorem metB_next {f : Nat → Int} {i p : Nat} (hp : f i = (p : Int)) (k : Nat) : metB f (i + 1) k = if k = p then true else metB f i k := by
  unfold metB
  rw [List.range_succ, List.any_append]
  simp only [List.any_cons, List.any_nil, Bool.or_false]
  by_cases e : k = p
  · subst e; rw [hp]; simp
  · have : (f i == (k : Int)) = false := by rw [hp]; simp; omega
    rw [this, if_neg e, Bool.or_false]
theorem metB_not {K : Int → Int} {f : Nat → Int} {n i p : Nat} (hs : SortedOn K f 0 n) (hi : i < n) (hp : f i = (p : Int)) : metB f i p = false := by
  unfold metB
  rw [List.any_eq_false]
  intro j hj
  have := hs j i (Nat.zero_le _) (List.mem_range.1 hj) hi
  intro e
  have e2 : f j = (p : Int) := by simpa using e
  rw [e2, ← hp] at this
  exact this.irrefl
def OnceRel (w : World) (D H n : Nat) (f : Nat → Int) (i : Value) (wr : World) : Prop :=
  ∃ k : Nat, i = .int .i64 k ∧ k ≤ n ∧ DataIs wr D n n f ∧ MarksAre wr H n (metB f k) ∧ Below w.heap.size w wr
theorem DataIs.below {w w' : World} {D C n : Nat} {d : Nat → Int} (h : DataIs w D C n d) (hb : Below w.heap.size w w') : DataIs w' D C n d := h.keep (hb.block D h.lt)
set_option maxHeartbeats 4000000 in
set_option maxRecDepth 100000 in
theorem once_short (A : Option Addr) (n c : Nat) (xs : List Int) (w : World) (h : Ints w A n xs) (hc : n ≤ c) (hn : n ≤ 60) :
    Calls Try.prog 7 #[.slice A n c] w fun e w' => e = .returned (.bool true) ∧ Below w.heap.size w w' := by
  obtain ⟨i0, hi, hz0, hz1, hz2⟩ := info_parts info_b
  have hmk : ∀ w : World, (Instr.makeSlice 47 (.int .i64 (n : Int)) (.int .i64 (n : Int))).run Try.prog w = .ok (.slice (some ⟨w.heap.size, 0, none⟩) n n) (w.alloc (.cells (madeCells #[.bool false] n) 4)) := by
    intro w
    have := run_make (P := Try.prog) w 47 4 i0 (.bool false) Try.underlying47 hi hz0 .i64 .i64 (n : Int) (n : Int) (by omega) (Int.le_refl _) (by rw [hz2]; omega) (by omega)
    rw [hz1] at this
    simpa [Value.cells] using this
  have HX := Lib.hid h
  have HS : Hid (Calls Try.prog 14 #[.slice A n c] w (SortedPost w n xs)) := Lib.hid (sorted_any A n c xs w h (by omega))
  have HMK := Lib.hid hmk
  have hd : decide ((60 : Int) < (n : Int)) = false := decide_eq_false (by omega)
  clear h hi hz0 hz1 hz2
  go_enter Try.func7, Try.ntmps7
  go_wp2_with (go_at_call 14; refine HS.out.mono ?_; rintro e w1 ⟨D, f, rfl, h1, hb1, hDw, h2, h3⟩; have HS2 := Lib.hid h2; have HV := Lib.hid h3; have HD1 := Lib.hid h1; clear h1 h2 h3 HS)
  have HD2 : Hid (OnceRel w D w1.heap.size n f (.int .i64 0) (w1.alloc (.cells (madeCells #[.bool false] n) 4))) := by
    refine Lib.hid ⟨0, rfl, by omega, HD1.out.below (below_alloc _ _), ?_, hb1.trans ((below_alloc _ _).mono hb1.size)⟩
    refine ⟨madeCells #[.bool false] n, BlkIs.fresh _ _ _, size_madeCells _ _, fun k hk => ?_⟩
    rw [madeMarks_at hk, metB_none]
  have hDH : D ≠ w1.heap.size := by have := HD1.out.lt; omega
  have hHw : w.heap.size ≤ w1.heap.size := hb1.size
  go_loopw [5] (fun i wr => OnceRel w D w1.heap.size n f i wr) (fun i _ => n - (intOf i).toNat)
  case atStart => exact HD2.out
  case round =>
    clear HD2
    obtain ⟨k, rfl, hk, hDt, hMk, hW⟩ := hrel
    by_cases hlt : k < n
    · have hval : ∀ j, j < n → ∃ q : Nat, q < n ∧ f j = (q : Int) := by
        intro j hj
        obtain ⟨q, _, q2, e1⟩ := HV.out.back j (Nat.zero_le _) hj
        unfold filled at e1
        rw [if_pos q2] at e1
        exact ⟨q, q2, e1.symm⟩
      obtain ⟨p, hp, hfp⟩ := hval k hlt
      have hnot := metB_not HS2.out hlt hfp
      have d1 := hDt.cell hlt
      rw [hfp] at d1
      have m1 := hMk.cell hp
      rw [hnot] at m1
      have mf := hMk.free p
      have l1 : (k : Int) < (n : Int) := by omega
      have l2 : (p : Int) < (n : Int) := by omega
      have l3 : (0 : Int) ≤ (p : Int) := by omega
      have HR : Hid (∀ t, OnceRel w D w1.heap.size n f (.int .i64 ((k : Int) + 1)) ((wr.setCell ⟨w1.heap.size, p, none⟩ (.bool true)).drewN t)) := by
        refine Lib.hid fun t => ⟨k + 1, by go_num, by omega, hDt.keep (Below.heap_setCell _ _ _ _ hDH), ?_, ?_⟩
        · have := hMk.put hp
          have e : (fun j => if j = p then true else metB f k j) = metB f (k + 1) := by funext j; rw [metB_next hfp]
          rw [e] at this
          exact this
        · have := hW.setCell (p := ⟨w1.heap.size, p, none⟩) hHw (.bool true)
          exact ⟨this.os, this.tape, this.output, this.size, this.block⟩
      have hfar : ∀ b off, b ≠ w1.heap.size → (wr.setCell ⟨w1.heap.size, p, none⟩ (.bool true)).cell? ⟨b, off, none⟩ = wr.cell? ⟨b, off, none⟩ := fun b off hb => World.cell?_setCell_other _ _ _ _ (far_off (Ne.symm hb))
      have e1 := (hfar D k hDH).trans d1
      rcases Nat.eq_zero_or_pos k with rfl | hk0
      · clear hval hfp hnot hDt hMk hW hfar
        go_wp2
        go_quiet (fail)
        go_wp2
        go_roundw
        case rel => exact HR.out _
        case measure => first | (simp [intOf]; done) | (simp [intOf]; omega)
      · obtain ⟨j, rfl⟩ : ∃ j, k = j + 1 := ⟨k - 1, by omega⟩
        obtain ⟨q, hq, hfq⟩ := hval j (by omega)
        have d2 := hDt.cell (k := j) (by omega)
        rw [hfq] at d2
        obtain ⟨b, off, rfl, hcs⟩ := (HX.out.keep hW).2 (by omega)
        obtain ⟨b', off', eb, hcw⟩ := HX.out.2 (by omega)
        injection eb with eb; injection eb with eb1 eb2
        have hbw : b ≠ w1.heap.size := by
          have h1 := World.block_lt_of_cell? w _ (hcw p hp)
          have h2 : b' < w.heap.size := h1
          omega
        have x1 := hcs p hp
        have x2 := hcs q hq
        obtain ⟨u, hu⟩ : ∃ u, u = xs.getD q 0 := ⟨_, rfl⟩
        obtain ⟨v, hv⟩ : ∃ v, v = xs.getD p 0 := ⟨_, rfl⟩
        rw [← hv] at x1
        rw [← hu] at x2
        have e2 := (hfar D j hDH).trans d2
        have e3 := (hfar b (off + p) hbw).trans x1
        have e4 := (hfar b (off + q) hbw).trans x2
        have hT := HS2.out j (j + 1) (Nat.zero_le _) (Nat.lt_succ_self j) hlt
        rw [hfp, hfq] at hT
        unfold T keyOfI at hT
        rw [Int.toNat_natCast, Int.toNat_natCast, ← hu, ← hv] at hT
        have l4 : (j : Int) < (n : Int) := by omega
        have l5 : (q : Int) < (n : Int) := by omega
        have l6 : (0 : Int) ≤ (q : Int) := by omega
        have l7 : (0 : Int) < (j : Int) + 1 := by omega
        clear hval hfp hfq hnot hDt hMk hW hfar hcs hcw hu hv eb1 eb2
        rcases hT with hT | ⟨hT1, hT2⟩
        · have t1 : decide (v < u) = false := by simp; omega
          have t2 : (u == v) = false := by simp; omega
          go_wp2
          go_quiet (fail)
          go_wp2
          go_roundw
          case rel => exact HR.out _
          case measure => first | (simp [intOf]; done) | (simp [intOf]; omega)
        · subst hT1
          have t1 : decide ((p : Int) < (q : Int)) = false := by simp; omega
          have t2 : decide (p < q) = false := by simp; omega
          go_wp2
          go_quiet (fail)
          go_wp2
          go_roundw
          case rel => exact HR.out _
          case measure => first | (simp [intOf]; done) | (simp [intOf]; omega)
    · have l1 : (n : Int) ≤ (k : Int) := by omega
      have HW := Lib.hid hW
      clear hDt hMk hW
      go_wp2_with (go_at_call 12; refine (lives_any _).mono ?_; rintro e w5 ⟨rfl, bl⟩)
      go_ret
      exact ⟨rfl, HW.out.trans (bl.mono HW.out.size)⟩
set_option maxHeartbeats 4000000 in
set_option maxRecDepth 100000 in
theorem once_long (A : Option Addr) (m c : Nat) (xs : List Int) (w : World) (h : Ints w A 60 xs) (hc : m ≤ c) (hm : 60 < m) :
    Calls Try.prog 7 #[.slice A m c] w fun e w' => e = .returned (.bool true) ∧ Below w.heap.size w w' := by
  obtain ⟨i0, hi, hz0, hz1, hz2⟩ := info_parts info_b
  have hmk : ∀ w : World, (Instr.makeSlice 47 (.int .i64 (60 : Int)) (.int .i64 (60 : Int))).run Try.prog w = .ok (.slice (some ⟨w.heap.size, 0, none⟩) 60 60) (w.alloc (.cells (madeCells #[.bool false] 60) 4)) := by
    intro w
    have := run_make (P := Try.prog) w 47 4 i0 (.bool false) Try.underlying47 hi hz0 .i64 .i64 (60 : Int) (60 : Int) (by omega) (Int.le_refl _) (by rw [hz2]; omega) (by omega)
    rw [hz1] at this
    simpa [Value.cells] using this
  have HX := Lib.hid h
  have HS : Hid (Calls Try.prog 14 #[.slice A 60 c] w (SortedPost w 60 xs)) := Lib.hid (sorted_any A 60 c xs w h (by omega))
  have HMK := Lib.hid hmk
  have hd : decide ((60 : Int) < (m : Int)) = true := decide_eq_true (by omega)
  have hmc : (60 : Int) ≤ (c : Int) := by omega
  have hn : 60 ≤ 60 := by omega
  clear h hi hz0 hz1 hz2
  go_enter Try.func7, Try.ntmps7
  go_wp2_with (go_at_call 14; refine HS.out.mono ?_; rintro e w1 ⟨D, f, rfl, h1, hb1, hDw, h2, h3⟩; have HS2 := Lib.hid h2; have HV := Lib.hid h3; have HD1 := Lib.hid h1; clear h1 h2 h3 HS)
  have HD2 : Hid (OnceRel w D w1.heap.size 60 f (.int .i64 0) (w1.alloc (.cells (madeCells #[.bool false] 60) 4))) := by
    refine Lib.hid ⟨0, rfl, by omega, HD1.out.below (below_alloc _ _), ?_, hb1.trans ((below_alloc _ _).mono hb1.size)⟩
    refine ⟨madeCells #[.bool false] 60, BlkIs.fresh _ _ _, size_madeCells _ _, fun k hk => ?_⟩
    rw [madeMarks_at hk, metB_none]
  have hDH : D ≠ w1.heap.size := by have := HD1.out.lt; omega
  have hHw : w.heap.size ≤ w1.heap.size := hb1.size
  go_loopw [5] (fun i wr => OnceRel w D w1.heap.size 60 f i wr) (fun i _ => 60 - (intOf i).toNat)
  case atStart => exact HD2.out
  case round =>
    clear HD2
    obtain ⟨k, rfl, hk, hDt, hMk, hW⟩ := hrel
    by_cases hlt : k < 60
    · have hval : ∀ j, j < 60 → ∃ q : Nat, q < 60 ∧ f j = (q : Int) := by
        intro j hj
        obtain ⟨q, _, q2, e1⟩ := HV.out.back j (Nat.zero_le _) hj
        unfold filled at e1
        rw [if_pos q2] at e1
        exact ⟨q, q2, e1.symm⟩
      obtain ⟨p, hp, hfp⟩ := hval k hlt
      have hnot := metB_not HS2.out hlt hfp
      have d1 := hDt.cell hlt
      rw [hfp] at d1
      have m1 := hMk.cell hp
      rw [hnot] at m1
      have mf := hMk.free p
      have l1 : (k : Int) < (60 : Int) := by omega
      have l2 : (p : Int) < (60 : Int) := by omega
      have l3 : (0 : Int) ≤ (p : Int) := by omega
      have HR : Hid (∀ t, OnceRel w D w1.heap.size 60 f (.int .i64 ((k : Int) + 1)) ((wr.setCell ⟨w1.heap.size, p, none⟩ (.bool true)).drewN t)) := by
        refine Lib.hid fun t => ⟨k + 1, by go_num, by omega, hDt.keep (Below.heap_setCell _ _ _ _ hDH), ?_, ?_⟩
        · have := hMk.put hp
          have e : (fun j => if j = p then true else metB f k j) = metB f (k + 1) := by funext j; rw [metB_next hfp]
          rw [e] at this
          exact this
        · have := hW.setCell (p := ⟨w1.heap.size, p, none⟩) hHw (.bool true)
          exact ⟨this.os, this.tape, this.output, this.size, this.block⟩
      have hfar : ∀ b off, b ≠ w1.heap.size → (wr.setCell ⟨w1.heap.size, p, none⟩ (.bool true)).cell? ⟨b, off, none⟩ = wr.cell? ⟨b, off, none⟩ := fun b off hb => World.cell?_setCell_other _ _ _ _ (far_off (Ne.symm hb))
      have e1 := (hfar D k hDH).trans d1
      rcases Nat.eq_zero_or_pos k with rfl | hk0
      · clear hval hfp hnot hDt hMk hW hfar
        go_wp2
        go_quiet (fail)
        go_wp2
        go_roundw
        case rel => exact HR.out _
        case measure => first | (simp [intOf]; done) | (simp [intOf]; omega)
      · obtain ⟨j, rfl⟩ : ∃ j, k = j + 1 := ⟨k - 1, by omega⟩
        obtain ⟨q, hq, hfq⟩ := hval j (by omega)
        have d2 := hDt.cell (k := j) (by omega)
        rw [hfq] at d2
        obtain ⟨b, off, rfl, hcs⟩ := (HX.out.keep hW).2 (by omega)
        obtain ⟨b', off', eb, hcw⟩ := HX.out.2 (by omega)
        injection eb with eb; injection eb with eb1 eb2
        have hbw : b ≠ w1.heap.size := by
          have h1 := World.block_lt_of_cell? w _ (hcw p hp)
          have h2 : b' < w.heap.size := h1
          omega
        have x1 := hcs p hp
        have x2 := hcs q hq
        obtain ⟨u, hu⟩ : ∃ u, u = xs.getD q 0 := ⟨_, rfl⟩
        obtain ⟨v, hv⟩ : ∃ v, v = xs.getD p 0 := ⟨_, rfl⟩
        rw [← hv] at x1
        rw [← hu] at x2
        have e2 := (hfar D j hDH).trans d2
        have e3 := (hfar b (off + p) hbw).trans x1
        have e4 := (hfar b (off + q) hbw).trans x2
        have hT := HS2.out j (j + 1) (Nat.zero_le _) (Nat.lt_succ_self j) hlt
        rw [hfp, hfq] at hT
        unfold T keyOfI at hT
        rw [Int.toNat_natCast, Int.toNat_natCast, ← hu, ← hv] at hT
        have l4 : (j : Int) < (60 : Int) := by omega
        have l5 : (q : Int) < (60 : Int) := by omega
        have l6 : (0 : Int) ≤ (q : Int) := by omega
        have l7 : (0 : Int) < (j : Int) + 1 := by omega
        clear hval hfp hfq hnot hDt hMk hW hfar hcs hcw hu hv eb1 eb2
        rcases hT with hT | ⟨hT1, hT2⟩
        · have t1 : decide (v < u) = false := by simp; omega
          have t2 : (u == v) = false := by simp; omega
          go_wp2
          go_quiet (fail)
          go_wp2
          go_roundw
          case rel => exact HR.out _
          case measure => first | (simp [intOf]; done) | (simp [intOf]; omega)
        · subst hT1
          have t1 : decide ((p : Int) < (q : Int)) = false := by simp; omega
          have t2 : decide (p < q) = false := by simp; omega
          go_wp2
          go_quiet (fail)
          go_wp2
          go_roundw
          case rel => exact HR.out _
          case measure => first | (simp [intOf]; done) | (simp [intOf]; omega)
    · have l1 : (60 : Int) ≤ (k : Int) := by omega
      have HW := Lib.hid hW
      clear hDt hMk hW
      go_wp2_with (go_at_call 12; refine (lives_any _).mono ?_; rintro e w5 ⟨rfl, bl⟩)
      go_ret
      exact ⟨rfl, HW.out.trans (bl.mono HW.out.size)⟩
theorem once_any (A : Option Addr) (n c : Nat) (zs : List Int) (w : World) (h : Ints w A n (zs.take n) ∧ n ≤ c ∧ (∀ k, -9223372036854775808 ≤ zs.getD k 0 ∧ zs.getD k 0 ≤ 9223372036854775807) ∧ n ≤ zs.length) :
    Calls Try.prog 7 #[.slice A n c] w fun e w' => e = .returned (.bool true) ∧ Below w.heap.size w w' := by
  obtain ⟨h1, h2, h3, h4⟩ := h
  by_cases hn : 60 < n
  · have := h1.cut (k := 60) (by omega)
    rw [List.take_take, Nat.min_eq_left (by omega)] at this
    exact once_long A n c _ w this h2 hn
  · exact once_short A n c _ w h1 h2 (by omega)
end Go.Proofs.Ytgpnpopmlommaaa
