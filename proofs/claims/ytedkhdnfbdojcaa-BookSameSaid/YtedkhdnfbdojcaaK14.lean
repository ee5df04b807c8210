import Derived.Test.YtedkhdnfbdojcaaK05
import Derived.Test.YtedkhdnfbdojcaaK01
import Derived.Test.YtedkhdnfbdojcaaK13
import Derived.Shelf.Abstract
import Derived.Shelf.RegionOpen
import Derived.OwnWalkIn
import Derived.TacticsInMore
import Derived.LoopNIn
import Derived.LoopIn
import Derived.Test.YtedkhdnfbdojcaaK08
import Derived.Test.YtedkhdnfbdojcaaK12
import Derived.Test.YtedkhdnfbdojcaaK09
section
/- What the library's iterators give: slices.Values, strings.Lines, strings.SplitSeq. -/
namespace Go.Proofs.Ytedkhdnfbdojcaa
open Go.RowKit Go.Shelf
set_option linter.unusedVariables false
attribute [local go_sem] Oper.semAt_some

theorem take_more {α : Type} {xs : List α} {k : Nat} (hk : k < xs.length) : xs.take k ++ [xs[k]] = xs.take (k + 1) := by rw [List.take_succ_eq_append_getElem hk]
theorem take_pre {α : Type} {xs : List α} {k : Nat} (hk : k < xs.length) : xs.take k ++ [xs[k]] <+: xs := by rw [take_more hk]; exact List.take_prefix _ _

set_option maxRecDepth 100000 in
set_option maxHeartbeats 2000000 in
/-- slices.Values's closure, over numbers. -/
theorem valsI_seq (n : Nat) (hn : 1 ≤ n) (Bs n₀ : Nat) (A : Option Addr) (cap : Nat) (xs : List Int) (w : World) (hlen : xs.length ≤ 1000) (hB : Bs < n₀) (hBs : w.cell? ⟨Bs, 0, none⟩ = some (.slice A xs.length cap))
    (hr : 0 < xs.length → ∃ b off, A = some ⟨b, off, none⟩ ∧ b < n₀ ∧ ∀ (j : Nat) (hj : j < xs.length), w.cell? ⟨b, off + j, none⟩ = some (.int .i64 xs[j])) :
    SeqC Fence.wide n Try.prog 42 #[.pointer (some ⟨Bs, 0, none⟩)] (fun x : Int => #[Value.int .i64 x]) [] n₀ xs w := by
  intro l J Jx W hW hJ hJx hY h0
  have hBs' := (hW.cell (p := ⟨Bs, 0, none⟩) hB).trans hBs
  obtain ⟨N, hN⟩ : ∃ N, N = xs.length := ⟨_, rfl⟩
  rw [← hN] at hBs'
  have HN := Go.Lib.hid hN
  have HR := Go.Lib.hid hr
  have hlen' : N ≤ 1000 := by rw [hN]; exact hlen
  clear hN hr hBs hlen
  refine callsIn_of_wp Try.func42 rfl trivial ?_ rfl
  simp only [Try.ntmps42, List.size_toArray, List.length_cons, List.length_nil, Nat.reduceAdd, Nat.reduceSub, Array.replicate_succ, Array.replicate_zero, List.push_toArray, List.append_toArray, List.nil_append, List.cons_append]
  gi_wp2
  gi_loopw [7] (fun i wr => ∃ k : Nat, k ≤ N ∧ i = .int .i64 k ∧ J (xs.take k) wr ∧ Below n₀ W wr) (fun i _ => N - (intOf i).toNat)
  case atStart => exact ⟨0, Nat.zero_le _, rfl, h0, Below.refl _ _⟩
  case round =>
    obtain ⟨k, hk, rfl, hJs, hnx⟩ := hrel
    by_cases hlt : k < N
    · have hlt' : k < xs.length := by rw [← HN.out]; exact hlt
      obtain ⟨b, off, rfl, hb, hcs⟩ := HR.out (by omega)
      have hck : wr.cell? ⟨b, off + k, none⟩ = some (.int .i64 xs[k]) := (hnx.cell (p := ⟨b, off + k, none⟩) hb).trans ((hW.cell (p := ⟨b, off + k, none⟩) hb).trans (hcs k hlt'))
      obtain ⟨fn, tmps, assign, body, hy, hR⟩ := hY _ _ wr (take_pre hlt') hJs
      have HT := Go.Lib.hid (take_more hlt')
      generalize xs[k] = x at *
      clear hcs hlt'
      gi_wp2
      refine hR.mono ?_
      rintro e W3 (⟨rfl, hJ3, hk3⟩ | ⟨rfl, hJx3⟩)
      · gi_wp2
        go_roundw
        case rel => exact ⟨k + 1, by omega, by simp, by rw [← HT.out]; exact hJ3, hnx.trans hk3⟩
        case measure => simp [intOf]; omega
      · gi_wp2
        refine bodyPost_ret (results_none rfl _ _ _) rfl ?_
        exact ⟨⟨_, rfl⟩, .inr ⟨_, by rw [HT.out]; exact List.take_prefix _ _, hJx3⟩⟩
    · obtain rfl : k = N := by omega
      have e : xs.take k = xs := List.take_of_length_le (by rw [← HN.out]; exact Nat.le_refl _)
      rw [e] at hJs
      gi_wp2
      go_end0
      exact ⟨⟨_, rfl⟩, .inl hJs⟩

set_option maxHeartbeats 1000000 in
theorem valsI_make (a : Option Addr) (len cap : Nat) (w : World) :
    Calls Try.prog 39 #[.slice a len cap] w fun e w' => e = .returned (.func (.func 42) #[] #[.pointer (some ⟨w.heap.size, 0, none⟩)]) ∧ w' = w.alloc (.cells #[.slice a len cap] 77) := by
  go_enter Try.func39, Try.ntmps39
  go_wp2
  go_ret
  exact ⟨rfl, rfl⟩

end Go.Proofs.Ytedkhdnfbdojcaa
end
section
/- What text.Words answers, off its code. -/
namespace Go.Proofs.Ytedkhdnfbdojcaa
open Go.RowKit Go.Shelf
set_option linter.unusedVariables false
set_option maxHeartbeats 2000000 in
theorem words_each (A : Option Addr) (xs : List Int) (c : Nat) (w : World) (hA : NumsIn w A xs) (hn : xs.length ≤ 1000) (hz : ∀ x ∈ xs, -9223372036854775808 ≤ x ∧ x ≤ 9223372036854775807) :
    Calls Try.prog 38 #[.func (.func 42) #[] #[.pointer (some ⟨w.heap.size, 0, none⟩)], .func (.func 40) #[] #[]] (w.alloc (.cells #[.slice A xs.length c] 77)) fun e W' =>
      ∃ v, e = .returned (.tuple #[v, .bool true]) ∧ RowS W' w.heap.size v (xs.map decI) ∧ Below w.heap.size w W' := by
  obtain ⟨w1, hw1⟩ : ∃ w1, w1 = w.alloc (.cells #[.slice A xs.length c] 77) := ⟨_, rfl⟩
  have bC : Boxed w1 w.heap.size 77 (.slice A xs.length c) := by rw [hw1]; exact Boxed.new w _ _
  have hsz : w1.heap.size = w.heap.size + 1 := by rw [hw1]; simp
  have hb : Below w.heap.size w w1 := by rw [hw1]; exact below_alloc w _
  rw [← hw1]
  have hA1 := hA.keep hb
  have hall : xs.all (fun _ => true) = true := by simp
  refine (eachD 42 _ [] xs (fun _ => true) (fun _ x u => u = .string (strL (decI x))) 1 w1 (by omega) (enters_of Try.func42 (by kernel_rfl) rfl)
    (valsI_seq 8 (by omega) w.heap.size w1.heap.size A c xs w1 hn (by omega) bC.cell (fun h0 => by
      obtain ⟨b, off, e, hc⟩ := hA1 h0
      exact ⟨b, off, e, World.block_lt_of_cell? w1 _ (hc 0 h0), hc⟩)) (by simp)
    (fun x hx W _ => (decimal_made x (hz x hx) W).mono fun e W' ⟨h1, h2⟩ => ⟨_, h1, fun _ => rfl, h2⟩)
    (fun _ x u h => ⟨_, h⟩) (fun _ _ _ _ h _ => h) (by decide) (by decide) (by decide) (by decide)).mono ?_
  rintro e W' ⟨v, rfl, hy, _, ho⟩
  rw [hall] at hy ⊢
  refine ⟨v, rfl, ?_, ho.over hb (by simp)⟩
  obtain ⟨us, hrow, hf⟩ := hy rfl
  rw [Fit.fn hf] at hrow
  unfold RowS
  rw [List.length_map, List.map_map]
  exact own_base hrow (by omega)
set_option maxHeartbeats 2000000 in
theorem words_code (A : Option Addr) (xs : List Int) (c : Nat) (w : World) (hA : NumsIn w A xs) (hn : xs.length ≤ 1000) (hz : ∀ x ∈ xs, -9223372036854775808 ≤ x ∧ x ≤ 9223372036854775807) :
    Calls Try.prog 34 #[.slice A xs.length c] w fun e W' => ∃ v, e = .returned v ∧ RowS W' w.heap.size v (xs.map decI) ∧ Below w.heap.size w W' := by
  have CE := words_each A xs c w hA hn hz
  have CM := fun W => valsI_make A xs.length c W
  clear hA hn hz
  generalize xs.map decI = ds at *
  generalize xs.length = n at *
  go_enter Try.func34, Try.ntmps34
  go_wp2_with (first
    | (go_at_call 39; refine (CM _).mono ?_; rintro e w' ⟨rfl, rfl⟩)
    | (go_at_call 38; refine CE.mono ?_; rintro e w4 ⟨v, rfl, hy, hb⟩))
  go_ret
  exact ⟨v, rfl, hy, hb⟩
end Go.Proofs.Ytedkhdnfbdojcaa
end
