import Derived.Test.YtedkhdnfbdojcaaDoorK23
import Derived.Test.YtedkhdnfbdojcaaDoorK05
import Derived.Shelf.Abstract
import Derived.Shelf.RegionOpen
import Derived.OwnWalkIn
import Derived.TacticsInMore
import Derived.LoopNIn
import Derived.LoopIn
section
/- What slices.Chunk's iterator gives: pairs of a row of numbers, one behind the other. -/
namespace Go.Proofs.YtedkhdnfbdojcaaDoor
open Go.RowKit Go.Shelf
set_option linter.unusedVariables false
attribute [local go_sem] Oper.semAt_some
/-- What lies below n₀, and two blocks, lie as they lay. -/
def KeepB (n₀ B1 B2 : Nat) (W W' : World) : Prop := Below n₀ W W' ∧ W'.heap[B1]? = W.heap[B1]? ∧ W'.heap[B2]? = W.heap[B2]?
theorem range_pre {k i : Nat} (h : i < k) : List.range i ++ [i] <+: List.range k := by
  rw [← List.range_succ, show List.range (i + 1) = (List.range k).take (i + 1) from by rw [List.take_range, Nat.min_eq_left (by omega)]]
  exact List.take_prefix _ _
set_option maxRecDepth 100000 in
set_option maxHeartbeats 4000000 in
theorem chunk_seq (n : Nat) (hn : 1 ≤ n) (B1 B2 n₀ g off k c : Nat) (w : World) (hk : k ≤ 1000) (hkc : 2 * k ≤ c) (hc : c ≤ maxLen) :
    SeqR Fence.wide n Tryd.prog 68 #[.pointer (some ⟨B1, 0, none⟩), .pointer (some ⟨B2, 0, none⟩)] (fun i : Nat => #[Value.slice (some ⟨g, off + i * 2, none⟩) 2 2]) [] n₀ (List.range k) w
      (fun W => Boxed W B1 77 (.slice (some ⟨g, off, none⟩) (2 * k) c) ∧ Boxed W B2 3 (.int .i64 2)) (KeepB n₀ B1 B2) := by
  intro l J Jx W hW hbx hJ hJx hY h0
  obtain ⟨hb1, hb2⟩ := hbx
  unfold maxLen at hc
  have HJ := Go.Lib.hid hJ
  have HY := Go.Lib.hid hY
  clear hJ hY hW
  refine callsIn_of_wp Tryd.func68 rfl trivial ?_ rfl
  simp only [Tryd.ntmps68, List.size_toArray, List.length_cons, List.length_nil, Nat.reduceAdd, Nat.reduceSub, Array.replicate_succ, Array.replicate_zero, List.push_toArray, List.append_toArray, List.nil_append, List.cons_append]
  gi_wp2
  gi_loopw [4] (fun iv wr => ∃ i : Nat, i ≤ k ∧ iv = .int .i64 ((i * 2 : Nat) : Int) ∧ J (List.range i) wr ∧ Boxed wr B1 77 (.slice (some ⟨g, off, none⟩) (2 * k) c) ∧ Boxed wr B2 3 (.int .i64 2)) (fun iv _ => 2 * k - (intOf iv).toNat)
  case atStart => exact ⟨0, Nat.zero_le _, rfl, h0, hb1, hb2⟩
  case round =>
    clear hb1 hb2 h0
    obtain ⟨i, hi, rfl, hJs, hb1, hb2⟩ := hrel
    have HB1 := Go.Lib.hid hb1
    have HB2 := Go.Lib.hid hb2
    have c1 := hb1.cell
    have c2 := hb2.cell
    clear hb1 hb2
    by_cases hlt : i < k
    · have k1 : i * 2 < 2 * k := by omega
      have k2 : ((i * 2 : Nat) : Int) < ((2 * k : Nat) : Int) := by omega
      have HJd := Go.Lib.hid (HJ.out _ _ _ hJs (Only.refl [] wr).drew)
      have HPR := Go.Lib.hid (range_pre hlt)
      clear hJs
      gi_wp2
      gi_region
      have hc2 : ((i * 2 : Nat) : Int) + 2 ≤ (c : Int) := by omega
      have hc3 : ((i * 2 : Nat) : Int) ≤ (c : Int) := by omega
      have hq1 := HB1.out.cell
      obtain ⟨fn, tmps, assign, body, hy, hR⟩ := HY.out _ _ _ HPR.out HJd.out
      gi_wp2
      refine hR.mono ?_
      rintro e W3 (⟨rfl, hJ3, hk3⟩ | ⟨rfl, hJx3⟩)
      · have HJ3 := Go.Lib.hid hJ3
        have hb1 : Boxed W3 B1 77 (.slice (some ⟨g, off, none⟩) (2 * k) c) := hk3.2.1.trans HB1.out
        have hb2 : Boxed W3 B2 3 (.int .i64 2) := hk3.2.2.trans HB2.out
        have d1 := hb1.cell
        have d2 := hb2.cell
        have HD := Go.Lib.hid (And.intro hb1 hb2)
        have HPE : Hid (List.range i ++ [i] = List.range (i + 1)) := List.range_succ.symm
        clear hJ3 hk3 hb1 hb2
        gi_wp2
        go_roundw
        case rel => exact ⟨i + 1, by omega, by go_num, by rw [← HPE.out]; exact HJ3.out, HD.out.1, HD.out.2⟩
        case measure => simp [intOf]; omega
      · gi_wp2
        refine bodyPost_ret (results_none rfl _ _ _) rfl ?_
        exact ⟨⟨_, rfl⟩, .inr ⟨_, HPR.out, hJx3⟩⟩
    · obtain rfl : i = k := by omega
      gi_wp2
      go_end0
      exact ⟨⟨_, rfl⟩, .inl hJs⟩
end Go.Proofs.YtedkhdnfbdojcaaDoor
end
