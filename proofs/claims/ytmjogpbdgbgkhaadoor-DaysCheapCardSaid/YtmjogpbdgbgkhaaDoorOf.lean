/- The document's digits of a number. -/
import Derived.Test.YtmjogpbdgbgkhaaDoorTrim
namespace Go.Proofs.YtmjogpbdgbgkhaaDoor
open Go.RowKit
set_option linter.unusedVariables false

theorem of_step {n m : Int} {zs : List Int} {d q : Int} (h : (n.natAbs : Int) = val zs + 65536 ^ zs.length * m.natAbs) (hm : (m.natAbs : Int) = 65536 * q.natAbs + d) :
    (n.natAbs : Int) = val (zs ++ [d]) + 65536 ^ (zs ++ [d]).length * q.natAbs := by
  rw [val_snoc, List.length_append, List.length_singleton, Int.pow_succ, h, hm, Int.mul_add, ← Int.mul_assoc]
  omega
theorem of_len {n m : Int} {zs : List Int} (hn : -9223372036854775808 ≤ n ∧ n ≤ 9223372036854775807) (hd : Dig zs) (hm : m ≠ 0) (h : (n.natAbs : Int) = val zs + 65536 ^ zs.length * m.natAbs) : zs.length ≤ 3 := by
  by_cases hl : zs.length ≤ 3
  · exact hl
  · have h1 := pow_le16 (a := 4) (b := zs.length) (by omega)
    have h2 := Int.mul_le_mul_of_nonneg_left (c := 65536 ^ zs.length) (a := 1) (b := m.natAbs) (by omega) (by omega)
    have h3 := (val_bd hd).1
    omega

/-- The loop's relation in Of. -/
def OfRel (w wr : World) (n m : Int) (v : Value) (zs : List Int) : Prop :=
  BlkIs wr (w.heap.size + 1) 66 #[v, .bool (decide (n < 0))] ∧ BlkIs wr w.heap.size 66 #[.slice none 0 0, .bool false] ∧
    wr.ownsRow (w.heap.size + 2) 3 1 v zs.length (zs.map (Value.int .i64)) ∧ Below w.heap.size w wr ∧ Dig zs ∧ (n.natAbs : Int) = val zs + 65536 ^ zs.length * m.natAbs ∧
    (0 ≤ n → 0 ≤ m) ∧ (n < 0 → m ≤ 0) ∧ (m = 0 → Norm zs) ∧ zs.length ≤ 4 ∧ w.heap.size + 2 ≤ wr.heap.size

theorem OfRel.step {w wr w1 : World} {n m : Int} {v v' : Value} {zs : List Int} (h : OfRel w wr n m v zs) (hn : -9223372036854775808 ≤ n ∧ n ≤ 9223372036854775807) (hm0 : m ≠ 0) {d q : Int} (hd : 0 ≤ d ∧ d ≤ 65535)
    (hm : (m.natAbs : Int) = 65536 * q.natAbs + d) (hq : (0 ≤ m → 0 ≤ q) ∧ (m ≤ 0 → q ≤ 0))
    (hown : w1.ownsRow (w.heap.size + 2) 3 1 v' (zs.length + 1) (zs.map (Value.int .i64) ++ [.int .i64 d])) (hg : (wr.alloc (.cells #[.int .i64 d] 3)).grownBy w1 v.ownBlock) :
    OfRel w (w1.setCell ⟨w.heap.size + 1, 0, none⟩ v') n q v' (zs ++ [d]) := by
  obtain ⟨h1, h2, h3, h4, h5, h6, h7, h8, h9, h10, h11⟩ := h
  have hl := of_len hn h5 hm0 h6
  have hge := own_ge h3
  have hne : ∀ g, g < w.heap.size + 2 → some g ≠ v.ownBlock := fun g hgl e => by have := hge g e.symm; omega
  have hsz : wr.heap.size + 1 ≤ w1.heap.size := by have := hg.size; simpa using this
  refine ⟨(((h1.alloc _).grown hg (hne _ (by omega))).put 0 v'), ((h2.alloc _).grown hg (hne _ (by omega))).far (by simp) _, ?_, ?_, h5.snoc hd.1 hd.2, of_step h6 hm, by omega, by omega, ?_, ?_, ?_⟩
  · refine ownsRow_setCell_below (a := ⟨w.heap.size + 1, 0, none⟩) ?_ (by simp) _
    simpa using hown
  · refine ((h4.alloc h4.size _).grown hg (by simp; omega) (fun k hk => by have := hge k hk; omega)).setCell (by simp) _
  · intro e
    right
    rw [List.length_append, List.length_singleton, Nat.add_sub_cancel, List.getD_eq_getElem?_getD, List.getElem?_append_right (Nat.le_refl _)]
    simp
    omega
  · rw [List.length_append, List.length_singleton]; omega
  · simp [World.setCell]; omega
theorem OfRel.bg {w wr w' : World} {n : Int} {v : Value} {zs : List Int} (h : OfRel w wr n 0 v zs) (hb : w'.ownsRow (w.heap.size + 2) 3 1 v zs.length (zs.map (Value.int .i64))) : Bg w' 4 (.agg #[v, .bool (decide (n < 0))]) n := by
  obtain ⟨h1, h2, h3, h4, h5, h6, h7, h8, h9, h10, h11⟩ := h
  obtain ⟨A, c, rfl, hc⟩ := own_form hb
  have e : (n.natAbs : Int) = val zs := by simpa using h6
  refine ⟨A, _, c, zs, _, rfl, Ints.of_own hb, h5, h9 rfl, ?_, ?_, h10, hc⟩
  · intro ez
    subst ez
    simp [val] at e
    simp; omega
  · unfold sg
    rw [← e]
    by_cases hn : n < 0
    · rw [if_pos (by simpa using hn)]; omega
    · rw [if_neg (by simpa using hn)]; omega

theorem tm_neg {m : Int} (h : m < 0) : m.tmod 65536 ≤ 0 ∧ -65535 ≤ m.tmod 65536 ∧ m.tdiv 65536 ≤ 0 ∧ m = 65536 * m.tdiv 65536 + m.tmod 65536 := by
  have := tparts m 65536 (by decide)
  omega

set_option maxHeartbeats 1000000 in
theorem of_any (n : Int) (wn : (Lit.int .i64 n).wf = true) (w : World) :
    Calls Tryd.prog 44 #[.int .i64 n] w fun e w' => ∃ v, e = .returned v ∧ Bg w' 4 v n ∧ Below w.heap.size w w' := by
  obtain ⟨i0, hi, hz0, hz1, hz2⟩ := info_parts info_int
  have hn := wf_iff.1 wn
  obtain ⟨n0, n1⟩ := hn
  have HN := Go.Lib.hid (And.intro n0 n1)
  go_enter Tryd.func44, Tryd.ntmps44
  go_wp2
  go_loopw [0] (fun i wr => ∃ (m : Int) (v : Value) (zs : List Int), i = .int .i64 m ∧ OfRel w wr n m v zs ∧ -9223372036854775808 ≤ m ∧ m ≤ 9223372036854775807) (fun i _ => (intOf i).natAbs)
  case atStart =>
    refine ⟨n, .slice none 0 0, [], rfl, ⟨?_, ?_, World.ownsRow_nil _ _ _ _, ?_, Dig.nil, by simp [val], fun h => h, fun h => by omega, fun _ => .inl rfl, by simp, by simp⟩, n0, n1⟩
    · have := BlkIs.fresh (w.alloc (.cells #[.slice none 0 0, .bool false] 66)) 66 #[.slice none 0 0, .bool (decide (n < 0))]
      simpa using this
    · exact (BlkIs.fresh w _ _).alloc _
    · exact ((Below.refl _ _).alloc (Nat.le_refl _) _).alloc (by simp) _
  case round =>
    obtain ⟨m, v, zs, rfl, hrel, m0, m1⟩ := hrel
    obtain ⟨A, cp, rfl, hcp⟩ := own_form hrel.2.2.1
    have hown := hrel.2.2.1
    have hlen := hrel.2.2.2.2.2.2.2.2.2.1
    have hsz := hrel.2.2.2.2.2.2.2.2.2.2
    have c0 := hrel.1.cellAt 0
    have c1 := hrel.1.cellAt 1
    simp at c0 c1
    have RR := Go.Lib.hid hrel
    by_cases hm : m = 0
    · subst hm
      have r0 := hrel.2.1.cellAt 0
      have r1 := hrel.2.1.cellAt 1
      have f0 := hrel.2.1.free 0
      have f1 := hrel.2.1.free 1
      simp at r0 r1
      have q0 := (hrel.2.1.put 0 (.slice A zs.length cp)).cellAt 0
      have q1 := ((hrel.2.1.put 0 (.slice A zs.length cp)).put 1 (.bool (decide (n < 0)))).cellAt 1
      simp at q0 q1
      have HO := Go.Lib.hid hown
      clear hrel hown
      go_wp2
      refine bodyPost_ret (v := .agg #[.slice A zs.length cp, .bool (decide (n < 0))]) (by simp [results, Tryd.results44, go_sem, q0, q1]) rfl ?_
      exact ⟨_, rfl, RR.out.bg (ownsRow_setCell_below (ownsRow_setCell_below HO.out (by simp) _) (by simp) _), (RR.out.2.2.2.1.setCell (by simp) _).setCell (by simp) _⟩
    · have hm' : (m != 0) = true := by simpa using hm
      clear hrel
      have hl3 := of_len HN.out RR.out.2.2.2.2.1 hm RR.out.2.2.2.2.2.1
      by_cases hp : 0 < m
      · go_wp2_with (at_builtin; refine wpList_append_own _ rfl _ _ 25 rfl (w.heap.size + 2) 3 i0 (.int .i64 0) 1 8 Tryd.underlying25 hi hz0 hz1 hz2 rfl (by decide) _ _ _ rfl (hown.alloc _) ⟨wr.heap.size, 0, none⟩ 1 1 [.int .i64 (m % 65536)] rfl rfl (one_cell _ _ _) (one_ok _) (by unfold maxLen; omega) (by omega) (by simp; omega) ?_)
        intro v' w1 hown' hgrow _
        obtain ⟨A', cp', rfl, _⟩ := own_form hown'
        have hne : ∀ g, g < w.heap.size + 2 → some g ≠ (Value.slice A zs.length cp).ownBlock := fun g hgl e => by have := own_ge hown g e.symm; omega
        have K1 := (RR.out.1.alloc _).grown hgrow (hne _ (by omega))
        have k1 := K1.cellAt 0
        have k2 := K1.free 0
        have R := RR.out.step HN.out hm (d := m % 65536) (q := m / 65536) (by omega) (by omega) (by omega) hown' hgrow
        clear hne K1 hown' hgrow hown RR
        go_wp2
        go_roundw
        case rel => exact ⟨m / 65536, _, _, rfl, R, by omega, by omega⟩
        case measure => simp [intOf]; omega
      · obtain ⟨t0, t1, t2, t3⟩ := tm_neg (m := m) (by omega)
        have T3 := Go.Lib.hid t3
        clear t3
        by_cases ht : m.tmod 65536 < 0
        · go_wp2_with (at_builtin; refine wpList_append_own _ rfl _ _ 25 rfl (w.heap.size + 2) 3 i0 (.int .i64 0) 1 8 Tryd.underlying25 hi hz0 hz1 hz2 rfl (by decide) _ _ _ rfl (hown.alloc _) ⟨wr.heap.size, 0, none⟩ 1 1 [.int .i64 (-m.tmod 65536)] rfl rfl (one_cell _ _ _) (one_ok _) (by unfold maxLen; omega) (by omega) (by simp; omega) ?_)
          intro v' w1 hown' hgrow _
          obtain ⟨A', cp', rfl, _⟩ := own_form hown'
          have hne : ∀ g, g < w.heap.size + 2 → some g ≠ (Value.slice A zs.length cp).ownBlock := fun g hgl e => by have := own_ge hown g e.symm; omega
          have K1 := (RR.out.1.alloc _).grown hgrow (hne _ (by omega))
          have k1 := K1.cellAt 0
          have k2 := K1.free 0
          have R := RR.out.step HN.out hm (d := -m.tmod 65536) (q := m.tdiv 65536) (by omega) (by have := T3.out; omega) (by omega) hown' hgrow
          clear hne K1 hown' hgrow hown RR
          go_wp2
          go_roundw
          case rel => exact ⟨m.tdiv 65536, _, _, rfl, R, by have := T3.out; omega, by omega⟩
          case measure => exact (show (m.tdiv 65536).natAbs < m.natAbs by have := T3.out; omega)
        · go_wp2_with (at_builtin; refine wpList_append_own _ rfl _ _ 25 rfl (w.heap.size + 2) 3 i0 (.int .i64 0) 1 8 Tryd.underlying25 hi hz0 hz1 hz2 rfl (by decide) _ _ _ rfl (hown.alloc _) ⟨wr.heap.size, 0, none⟩ 1 1 [.int .i64 (m.tmod 65536)] rfl rfl (one_cell _ _ _) (one_ok _) (by unfold maxLen; omega) (by omega) (by simp; omega) ?_)
          intro v' w1 hown' hgrow _
          obtain ⟨A', cp', rfl, _⟩ := own_form hown'
          have hne : ∀ g, g < w.heap.size + 2 → some g ≠ (Value.slice A zs.length cp).ownBlock := fun g hgl e => by have := own_ge hown g e.symm; omega
          have K1 := (RR.out.1.alloc _).grown hgrow (hne _ (by omega))
          have k1 := K1.cellAt 0
          have k2 := K1.free 0
          have R := RR.out.step HN.out hm (d := m.tmod 65536) (q := m.tdiv 65536) (by omega) (by have := T3.out; omega) (by omega) hown' hgrow
          clear hne K1 hown' hgrow hown RR
          go_wp2
          go_roundw
          case rel => exact ⟨m.tdiv 65536, _, _, rfl, R, by have := T3.out; omega, by omega⟩
          case measure => exact (show (m.tdiv 65536).natAbs < m.natAbs by have := T3.out; omega)
end Go.Proofs.YtmjogpbdgbgkhaaDoor
