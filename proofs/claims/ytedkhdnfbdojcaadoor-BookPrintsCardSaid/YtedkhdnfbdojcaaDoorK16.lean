import Derived.Test.YtedkhdnfbdojcaaDoorK05
import Derived.Test.YtedkhdnfbdojcaaDoorK01
import Derived.Test.YtedkhdnfbdojcaaDoorK15
import Derived.Shelf.Abstract
import Derived.Shelf.RegionOpen
import Derived.OwnWalkIn
import Derived.TacticsInMore
import Derived.LoopNIn
import Derived.LoopIn
import Derived.Test.YtedkhdnfbdojcaaDoorK06
import Derived.Test.YtedkhdnfbdojcaaDoorK14
import Derived.Test.YtedkhdnfbdojcaaDoorK08
import Derived.Test.YtedkhdnfbdojcaaDoorK09
import Derived.Test.YtedkhdnfbdojcaaDoorK11
section
/- What the library's iterators give: slices.Values, strings.Lines, strings.SplitSeq. -/
namespace Go.Proofs.YtedkhdnfbdojcaaDoor
open Go.RowKit Go.Shelf
set_option linter.unusedVariables false
attribute [local go_sem] Oper.semAt_some

theorem take_more {α : Type} {xs : List α} {k : Nat} (hk : k < xs.length) : xs.take k ++ [xs[k]] = xs.take (k + 1) := by rw [List.take_succ_eq_append_getElem hk]
theorem take_pre {α : Type} {xs : List α} {k : Nat} (hk : k < xs.length) : xs.take k ++ [xs[k]] <+: xs := by rw [take_more hk]; exact List.take_prefix _ _

set_option maxRecDepth 100000 in
set_option maxHeartbeats 2000000 in
/-- slices.Values's closure, over texts. -/
theorem valsS_seq (n : Nat) (hn : 1 ≤ n) (Bs n₀ : Nat) (A : Option Addr) (cap : Nat) (xs : List ByteArray) (w : World) (hlen : xs.length ≤ 1000) (hB : Bs < n₀) (hBs : w.cell? ⟨Bs, 0, none⟩ = some (.slice A xs.length cap))
    (hr : 0 < xs.length → ∃ b off, A = some ⟨b, off, none⟩ ∧ b < n₀ ∧ ∀ (j : Nat) (hj : j < xs.length), w.cell? ⟨b, off + j, none⟩ = some (.string xs[j])) :
    SeqC Fence.wide n Tryd.prog 71 #[.pointer (some ⟨Bs, 0, none⟩)] (fun x : ByteArray => #[Value.string x]) [] n₀ xs w := by
  intro l J Jx W hW hJ hJx hY h0
  have hBs' := (hW.cell (p := ⟨Bs, 0, none⟩) hB).trans hBs
  obtain ⟨N, hN⟩ : ∃ N, N = xs.length := ⟨_, rfl⟩
  rw [← hN] at hBs'
  have HN := Go.Lib.hid hN
  have HR := Go.Lib.hid hr
  have hlen' : N ≤ 1000 := by rw [hN]; exact hlen
  clear hN hr hBs hlen
  refine callsIn_of_wp Tryd.func71 rfl trivial ?_ rfl
  simp only [Tryd.ntmps71, List.size_toArray, List.length_cons, List.length_nil, Nat.reduceAdd, Nat.reduceSub, Array.replicate_succ, Array.replicate_zero, List.push_toArray, List.append_toArray, List.nil_append, List.cons_append]
  gi_wp2
  gi_loopw [7] (fun i wr => ∃ k : Nat, k ≤ N ∧ i = .int .i64 k ∧ J (xs.take k) wr ∧ Below n₀ W wr) (fun i _ => N - (intOf i).toNat)
  case atStart => exact ⟨0, Nat.zero_le _, rfl, h0, Below.refl _ _⟩
  case round =>
    obtain ⟨k, hk, rfl, hJs, hnx⟩ := hrel
    by_cases hlt : k < N
    · have hlt' : k < xs.length := by rw [← HN.out]; exact hlt
      obtain ⟨b, off, rfl, hb, hcs⟩ := HR.out (by omega)
      have hck : wr.cell? ⟨b, off + k, none⟩ = some (.string xs[k]) := (hnx.cell (p := ⟨b, off + k, none⟩) hb).trans ((hW.cell (p := ⟨b, off + k, none⟩) hb).trans (hcs k hlt'))
      obtain ⟨fn, tmps, assign, body, hy, hR⟩ := hY _ _ wr (take_pre hlt') hJs
      have HT := Go.Lib.hid (take_more hlt')
      generalize xs[k] = x at *
      clear hcs hlt'
      gi_wp2
      refine hR.mono ?_
      rintro e W3 (⟨rfl, hJ3, hk3⟩ | ⟨rfl, hJx3⟩)
      · gi_wp2
        go_roundw
        case rel => exact ⟨k + 1, by omega, by simp, by rw [← HT.out]; exact hJ3, hnx.trans hk3⟩
        case measure => simp [intOf]; omega
      · gi_wp2
        refine bodyPost_ret (results_none rfl _ _ _) rfl ?_
        exact ⟨⟨_, rfl⟩, .inr ⟨_, by rw [HT.out]; exact List.take_prefix _ _, hJx3⟩⟩
    · obtain rfl : k = N := by omega
      have e : xs.take k = xs := List.take_of_length_le (by rw [← HN.out]; exact Nat.le_refl _)
      rw [e] at hJs
      gi_wp2
      go_end0
      exact ⟨⟨_, rfl⟩, .inl hJs⟩

set_option maxHeartbeats 1000000 in
theorem valsS_make (a : Option Addr) (len cap : Nat) (w : World) :
    Calls Tryd.prog 67 #[.slice a len cap] w fun e w' => e = .returned (.func (.func 71) #[] #[.pointer (some ⟨w.heap.size, 0, none⟩)]) ∧ w' = w.alloc (.cells #[.slice a len cap] 48) := by
  go_enter Tryd.func67, Tryd.ntmps67
  go_wp2
  go_ret
  exact ⟨rfl, rfl⟩
set_option maxRecDepth 100000 in
set_option maxHeartbeats 2000000 in
/-- slices.Values's closure, over numbers. -/
theorem valsI_seq (n : Nat) (hn : 1 ≤ n) (Bs n₀ : Nat) (A : Option Addr) (cap : Nat) (xs : List Int) (w : World) (hlen : xs.length ≤ 1000) (hB : Bs < n₀) (hBs : w.cell? ⟨Bs, 0, none⟩ = some (.slice A xs.length cap))
    (hr : 0 < xs.length → ∃ b off, A = some ⟨b, off, none⟩ ∧ b < n₀ ∧ ∀ (j : Nat) (hj : j < xs.length), w.cell? ⟨b, off + j, none⟩ = some (.int .i64 xs[j])) :
    SeqC Fence.wide n Tryd.prog 53 #[.pointer (some ⟨Bs, 0, none⟩)] (fun x : Int => #[Value.int .i64 x]) [] n₀ xs w := by
  intro l J Jx W hW hJ hJx hY h0
  have hBs' := (hW.cell (p := ⟨Bs, 0, none⟩) hB).trans hBs
  obtain ⟨N, hN⟩ : ∃ N, N = xs.length := ⟨_, rfl⟩
  rw [← hN] at hBs'
  have HN := Go.Lib.hid hN
  have HR := Go.Lib.hid hr
  have hlen' : N ≤ 1000 := by rw [hN]; exact hlen
  clear hN hr hBs hlen
  refine callsIn_of_wp Tryd.func53 rfl trivial ?_ rfl
  simp only [Tryd.ntmps53, List.size_toArray, List.length_cons, List.length_nil, Nat.reduceAdd, Nat.reduceSub, Array.replicate_succ, Array.replicate_zero, List.push_toArray, List.append_toArray, List.nil_append, List.cons_append]
  gi_wp2
  gi_loopw [7] (fun i wr => ∃ k : Nat, k ≤ N ∧ i = .int .i64 k ∧ J (xs.take k) wr ∧ Below n₀ W wr) (fun i _ => N - (intOf i).toNat)
  case atStart => exact ⟨0, Nat.zero_le _, rfl, h0, Below.refl _ _⟩
  case round =>
    obtain ⟨k, hk, rfl, hJs, hnx⟩ := hrel
    by_cases hlt : k < N
    · have hlt' : k < xs.length := by rw [← HN.out]; exact hlt
      obtain ⟨b, off, rfl, hb, hcs⟩ := HR.out (by omega)
      have hck : wr.cell? ⟨b, off + k, none⟩ = some (.int .i64 xs[k]) := (hnx.cell (p := ⟨b, off + k, none⟩) hb).trans ((hW.cell (p := ⟨b, off + k, none⟩) hb).trans (hcs k hlt'))
      obtain ⟨fn, tmps, assign, body, hy, hR⟩ := hY _ _ wr (take_pre hlt') hJs
      have HT := Go.Lib.hid (take_more hlt')
      generalize xs[k] = x at *
      clear hcs hlt'
      gi_wp2
      refine hR.mono ?_
      rintro e W3 (⟨rfl, hJ3, hk3⟩ | ⟨rfl, hJx3⟩)
      · gi_wp2
        go_roundw
        case rel => exact ⟨k + 1, by omega, by simp, by rw [← HT.out]; exact hJ3, hnx.trans hk3⟩
        case measure => simp [intOf]; omega
      · gi_wp2
        refine bodyPost_ret (results_none rfl _ _ _) rfl ?_
        exact ⟨⟨_, rfl⟩, .inr ⟨_, by rw [HT.out]; exact List.take_prefix _ _, hJx3⟩⟩
    · obtain rfl : k = N := by omega
      have e : xs.take k = xs := List.take_of_length_le (by rw [← HN.out]; exact Nat.le_refl _)
      rw [e] at hJs
      gi_wp2
      go_end0
      exact ⟨⟨_, rfl⟩, .inl hJs⟩

set_option maxHeartbeats 1000000 in
theorem valsI_make (a : Option Addr) (len cap : Nat) (w : World) :
    Calls Tryd.prog 39 #[.slice a len cap] w fun e w' => e = .returned (.func (.func 53) #[] #[.pointer (some ⟨w.heap.size, 0, none⟩)]) ∧ w' = w.alloc (.cells #[.slice a len cap] 77) := by
  go_enter Tryd.func39, Tryd.ntmps39
  go_wp2
  go_ret
  exact ⟨rfl, rfl⟩

/-- How many bytes the text in a box has. -/
def boxLen (w : World) (C : Nat) : Nat := match w.cell? ⟨C, 0, none⟩ with | some (.string s) => s.size | _ => 0
theorem boxLen_is {w : World} {C : Nat} {t : TypeId} {s : List UInt8} (h : Boxed w C t (.string (strL s))) : boxLen w C = s.length := by
  unfold boxLen
  rw [h.cell]
  exact strL_size s
set_option maxRecDepth 100000 in
set_option maxHeartbeats 4000000 in
/-- strings.Lines's closure. -/
theorem lines_seq (n : Nat) (hn : 1 ≤ n) (C n₀ : Nat) (t : List UInt8) (w : World) (hlen : t.length ≤ 1000000000) (hC : C < n₀) (hBx : Boxed w C 9 (.string (strL t))) :
    SeqC Fence.wide n Tryd.prog 43 #[.pointer (some ⟨C, 0, none⟩)] (fun x : List UInt8 => #[Value.string (strL x)]) [C] n₀ (chunks t) w := by
  intro l J Jx W hW hJ hJx hY h0
  have hBx' : Boxed W C 9 (.string (strL t)) := (hW.block C hC).trans hBx
  refine callsIn_of_wp Tryd.func43 rfl trivial ?_ rfl
  simp only [Tryd.ntmps43, List.size_toArray, List.length_cons, List.length_nil, Nat.reduceAdd, Nat.reduceSub, Array.replicate_succ, Array.replicate_zero, List.push_toArray, List.append_toArray, List.nil_append, List.cons_append]
  gi_wp2
  gi_loopw [3] (fun v wr => ∃ pre s, chunks t = pre ++ chunks s ∧ s.length ≤ 1000000000 ∧ Boxed wr C 9 (.string (strL s)) ∧ J pre wr) (fun _ wr => boxLen wr C)
  case atStart => exact ⟨[], t, rfl, hlen, hBx', h0⟩
  case round =>
    obtain ⟨pre, s, he, hs, hb, hJs⟩ := hrel
    have hc := hb.cell
    have hfz := hb.frozen
    have hsz := strL_size s
    have HE := Go.Lib.hid he
    have HB := Go.Lib.hid hb
    have HM := Go.Lib.hid (boxLen_is hb)
    have hidx : ∀ W, Calls Tryd.prog 44 #[.string (strL s), .int .u8 10] W fun e w' => e = .returned (.int .i64 (Lib.indexByte s 10)) ∧ w' = W := fun W => by
      have := Tryd.strings_IndexByte (strL s) 10 W
      rw [strL_list] at this
      exact this
    clear he hb
    by_cases h0 : s = []
    · subst h0
      have e : chunks t = pre := by rw [HE.out]; simp [chunks]
      gi_wp2
      go_end0
      exact ⟨⟨_, rfl⟩, .inl (by rw [e]; exact hJs)⟩
    · have hpos : 0 < s.length := by cases s with | nil => exact absurd rfl h0 | cons _ _ => simp
      by_cases hi : Lib.indexByte s 10 = -1
      · rw [hi] at hidx
        have HX := Go.Lib.hid (chunks_miss hi h0)
        obtain ⟨fn, tmps, assign, body, hy, hR⟩ := hY pre s (wr.setCell ⟨C, 0, none⟩ (.string ⟨#[]⟩)) (by rw [HE.out, HX.out]; exact List.prefix_refl _) (hJ _ _ _ hJs ((Only.refl [C] wr).setCell (p := ⟨C, 0, none⟩) (by simp) _))
        clear h0 hi
        gi_wp2_with (refine ⟨trivial, ?_⟩; gi_at_call 44; refine (callsIn_wide.2 (hidx _)).mono ?_; rintro e w' ⟨rfl, rfl⟩)
        refine hR.mono ?_
        rintro e W3 (⟨rfl, hJ3, hk3⟩ | ⟨rfl, hJx3⟩)
        · have hb3 : Boxed W3 C 9 (.string (strL [])) := (hk3.block C hC).trans (HB.out.set _)
          have HM3 := Go.Lib.hid (boxLen_is hb3)
          gi_wp2
          go_roundw
          case rel => exact ⟨pre ++ [s], [], by rw [HE.out, HX.out]; simp [chunks], by simp, hb3, hJ3⟩
          case measure => rw [HM3.out, HM.out]; exact hpos
        · gi_wp2
          refine bodyPost_ret (results_none rfl _ _ _) rfl ?_
          exact ⟨⟨_, rfl⟩, .inr ⟨_, by rw [HE.out, HX.out]; exact List.prefix_refl _, hJx3⟩⟩
      · obtain ⟨i, hin⟩ : ∃ i : Nat, Lib.indexByte s 10 = (i : Int) := ⟨(Lib.indexByte s 10).toNat, by have := idx_pos hi; omega⟩
        have hil : i < s.length := by have := idx_lt (l := s) (c := 10); omega
        rw [hin] at hidx
        have HX := Go.Lib.hid (chunks_hit hin)
        have ex0 := ext_head s (i + 1)
        have ex1 := ext_tail s (i + 1)
        obtain ⟨fn, tmps, assign, body, hy, hR⟩ := hY pre (s.take (i + 1)) ((wr.setCell ⟨C, 0, none⟩ (.string (strL (s.drop (i + 1))))).drew) (by rw [HE.out, HX.out]; simp) (hJ _ _ _ hJs (((Only.refl [C] wr).setCell (p := ⟨C, 0, none⟩) (by simp) _).drew))
        clear h0 hi hin
        gi_wp2_with (refine ⟨trivial, ?_⟩; gi_at_call 44; refine (callsIn_wide.2 (hidx _)).mono ?_; rintro e w' ⟨rfl, rfl⟩)
        gi_region
        gi_wp2
        refine hR.mono ?_
        clear ex0 ex1
        rintro e W3 (⟨rfl, hJ3, hk3⟩ | ⟨rfl, hJx3⟩)
        · have hb3 : Boxed W3 C 9 (.string (strL (s.drop (i + 1)))) := (hk3.block C hC).trans (HB.out.set _)
          have HM3 := Go.Lib.hid (boxLen_is hb3)
          have HL : Hid ((s.drop (i + 1)).length < s.length) := by show _ < _; rw [List.length_drop]; omega
          gi_wp2
          go_roundw
          case rel => exact ⟨pre ++ [s.take (i + 1)], s.drop (i + 1), by rw [HE.out, HX.out]; simp, by have := HL.out; omega, hb3, hJ3⟩
          case measure => rw [HM3.out, HM.out]; exact HL.out
        · gi_wp2
          refine bodyPost_ret (results_none rfl _ _ _) rfl ?_
          exact ⟨⟨_, rfl⟩, .inr ⟨_, by rw [HE.out, HX.out]; simp, hJx3⟩⟩
set_option maxRecDepth 100000 in
set_option maxHeartbeats 4000000 in
/-- strings.SplitSeq's closure, where a blank is between. -/
theorem split_seq (n : Nat) (hn : 1 ≤ n) (C D E n₀ : Nat) (t : List UInt8) (w : World) (hlen : t.length ≤ 1000000000) (hC : C < n₀) (hD : D < n₀) (hE : E < n₀) (hCD : C ≠ D) (hCE : C ≠ E)
    (hBx : Boxed w C 9 (.string (strL t))) (hBd : Boxed w D 9 (.string ⟨#[32]⟩)) (hBe : Boxed w E 3 (.int .i64 0)) :
    SeqC Fence.wide n Tryd.prog 63 #[.pointer (some ⟨D, 0, none⟩), .pointer (some ⟨C, 0, none⟩), .pointer (some ⟨E, 0, none⟩)] (fun x : List UInt8 => #[Value.string (strL x)]) [C] n₀ (fields t) w := by
  intro l J Jx W hW hJ hJx hY h0
  have hBx' : Boxed W C 9 (.string (strL t)) := (hW.block C hC).trans hBx
  have hBd' : Boxed W D 9 (.string ⟨#[32]⟩) := (hW.block D hD).trans hBd
  have hBe' : Boxed W E 3 (.int .i64 0) := (hW.block E hE).trans hBe
  have hcd := hBd'.cell
  refine callsIn_of_wp Tryd.func63 rfl trivial ?_ rfl
  simp only [Tryd.ntmps63, List.size_toArray, List.length_cons, List.length_nil, Nat.reduceAdd, Nat.reduceSub, Array.replicate_succ, Array.replicate_zero, List.push_toArray, List.append_toArray, List.nil_append, List.cons_append]
  gi_wp2
  clear hcd
  gi_loopw [8] (fun v wr => ∃ pre s, fields t = pre ++ fields s ∧ s.length ≤ 1000000000 ∧ Boxed wr C 9 (.string (strL s)) ∧ Below n₀ wr wr ∧ Boxed wr D 9 (.string ⟨#[32]⟩) ∧ Boxed wr E 3 (.int .i64 0) ∧ J pre wr) (fun _ wr => boxLen wr C)
  case atStart => exact ⟨[], t, rfl, hlen, hBx', Below.refl _ _, hBd', hBe', h0⟩
  case round =>
    obtain ⟨pre, s, he, hs, hb, _, hbd, hbe, hJs⟩ := hrel
    have hc := hb.cell
    have hfz := hb.frozen
    have hcd := hbd.cell
    have hce := hbe.cell
    have hsz := strL_size s
    have HE := Go.Lib.hid he
    have HB := Go.Lib.hid hb
    have HBD := Go.Lib.hid hbd
    have HBE := Go.Lib.hid hbe
    have HM := Go.Lib.hid (boxLen_is hb)
    have hidx : ∀ W, Calls Tryd.prog 65 #[.string (strL s), .string ⟨#[32]⟩] W fun e w' => e = .returned (.int .i64 (Lib.indexByte s 32)) ∧ w' = W := fun W => by
      have := Tryd.strings_Index_one (strL s) 32 W
      rw [strL_list] at this
      exact this
    clear he hb hbd hbe
    by_cases hi : Lib.indexByte s 32 = -1
    · rw [hi] at hidx
      have HX := Go.Lib.hid (fields_miss hi)
      obtain ⟨fn, tmps, assign, body, hy, hR⟩ := hY pre s wr (by rw [HE.out, HX.out]; exact List.prefix_refl _) hJs
      clear hi
      gi_wp2_with (refine ⟨trivial, ?_⟩; gi_at_call 65; refine (callsIn_wide.2 (hidx _)).mono ?_; rintro e w' ⟨rfl, rfl⟩)
      refine hR.mono ?_
      rintro e W3 (⟨rfl, hJ3, hk3⟩ | ⟨rfl, hJx3⟩)
      · gi_wp2
        go_end0
        exact ⟨⟨_, rfl⟩, .inl (by rw [HE.out, HX.out]; exact hJ3)⟩
      · gi_wp2
        go_end0
        exact ⟨⟨_, rfl⟩, .inr ⟨_, by rw [HE.out, HX.out]; exact List.prefix_refl _, hJx3⟩⟩
    · obtain ⟨i, hin⟩ : ∃ i : Nat, Lib.indexByte s 32 = (i : Int) := ⟨(Lib.indexByte s 32).toNat, by have := idx_pos hi; omega⟩
      have hil : i < s.length := by have := idx_lt (l := s) (c := 32); omega
      rw [hin] at hidx
      have HX := Go.Lib.hid (fields_hit hin)
      have ex0 := ext_head s i
      have ex1 := ext_tail s (i + 1)
      obtain ⟨fn, tmps, assign, body, hy, hR⟩ := hY pre (s.take i) wr (by rw [HE.out, HX.out]; simp) hJs
      clear hi hin
      gi_wp2_with (refine ⟨trivial, ?_⟩; gi_at_call 65; refine (callsIn_wide.2 (hidx _)).mono ?_; rintro e w' ⟨rfl, rfl⟩)
      refine hR.mono ?_
      rintro e W3 (⟨rfl, hJ3, hk3⟩ | ⟨rfl, hJx3⟩)
      · have hb3 : Boxed W3 C 9 (.string (strL s)) := (hk3.block C hC).trans HB.out
        have hbd3 : Boxed W3 D 9 (.string ⟨#[32]⟩) := (hk3.block D hD).trans HBD.out
        have hbe3 : Boxed W3 E 3 (.int .i64 0) := (hk3.block E hE).trans HBE.out
        have hc3 := hb3.cell
        have hf3 := hb3.frozen
        have hcd3 := hbd3.cell
        have hJ4 := hJ _ _ _ hJ3 ((Only.refl [C] W3).setCell (p := ⟨C, 0, none⟩) (by simp) (.string (strL (s.drop (i + 1)))))
        have HB4 := Go.Lib.hid (hb3.set (.string (strL (s.drop (i + 1)))))
        have HM4 := Go.Lib.hid (boxLen_is HB4.out)
        have HD4 := Go.Lib.hid (hbd3.other (Ne.symm hCD) (.string (strL (s.drop (i + 1)))))
        have HE4 := Go.Lib.hid (hbe3.other (Ne.symm hCE) (.string (strL (s.drop (i + 1)))))
        have HL : Hid ((s.drop (i + 1)).length < s.length) := by show _ < _; rw [List.length_drop]; omega
        clear hb3 hbd3 hbe3
        gi_wp2
        go_roundw
        case rel => exact ⟨pre ++ [s.take i], s.drop (i + 1), by rw [HE.out, HX.out]; simp, by have := HL.out; omega, HB4.out, Below.refl _ _, HD4.out, HE4.out, hJ4⟩
        case measure => rw [HM4.out, HM.out]; exact HL.out
      · gi_wp2
        refine bodyPost_ret (results_none rfl _ _ _) rfl ?_
        exact ⟨⟨_, rfl⟩, .inr ⟨_, by rw [HE.out, HX.out]; simp, hJx3⟩⟩
set_option maxHeartbeats 1000000 in
theorem lines_make (s : ByteArray) (w : World) :
    Calls Tryd.prog 31 #[.string s] w fun e w' => e = .returned (.func (.func 43) #[] #[.pointer (some ⟨w.heap.size, 0, none⟩)]) ∧ w' = w.alloc (.cells #[.string s] 9) := by
  go_enter Tryd.func31, Tryd.ntmps31
  go_wp2
  go_ret
  exact ⟨rfl, rfl⟩
set_option maxHeartbeats 1000000 in
theorem split_make (s p : ByteArray) (w : World) :
    Calls Tryd.prog 47 #[.string s, .string p] w fun e w' => e = .returned (.func (.func 63) #[] #[.pointer (some ⟨w.heap.size + 1, 0, none⟩), .pointer (some ⟨w.heap.size, 0, none⟩), .pointer (some ⟨w.heap.size + 2, 0, none⟩)]) ∧ w' = ((w.alloc (.cells #[.string s] 9)).alloc (.cells #[.string p] 9)).alloc (.cells #[.int .i64 0] 3) := by
  go_enter Tryd.func47, Tryd.ntmps47
  go_wp2
  go_ret
  exact ⟨rfl, rfl⟩
end Go.Proofs.YtedkhdnfbdojcaaDoor
end
section
/- What text.Words answers, off its code. -/
namespace Go.Proofs.YtedkhdnfbdojcaaDoor
open Go.RowKit Go.Shelf
set_option linter.unusedVariables false
set_option maxHeartbeats 2000000 in
theorem words_each (A : Option Addr) (xs : List Int) (c : Nat) (w : World) (hA : NumsIn w A xs) (hn : xs.length ≤ 1000) (hz : ∀ x ∈ xs, -9223372036854775808 ≤ x ∧ x ≤ 9223372036854775807) :
    Calls Tryd.prog 38 #[.func (.func 53) #[] #[.pointer (some ⟨w.heap.size, 0, none⟩)], .func (.func 40) #[] #[]] (w.alloc (.cells #[.slice A xs.length c] 77)) fun e W' =>
      ∃ v, e = .returned (.tuple #[v, .bool true]) ∧ RowS W' w.heap.size v (xs.map decI) ∧ Below w.heap.size w W' := by
  obtain ⟨w1, hw1⟩ : ∃ w1, w1 = w.alloc (.cells #[.slice A xs.length c] 77) := ⟨_, rfl⟩
  have bC : Boxed w1 w.heap.size 77 (.slice A xs.length c) := by rw [hw1]; exact Boxed.new w _ _
  have hsz : w1.heap.size = w.heap.size + 1 := by rw [hw1]; simp
  have hb : Below w.heap.size w w1 := by rw [hw1]; exact below_alloc w _
  rw [← hw1]
  have hA1 := hA.keep hb
  have hall : xs.all (fun _ => true) = true := by simp
  refine (eachD 53 _ [] xs (fun _ => true) (fun _ x u => u = .string (strL (decI x))) 1 w1 (by omega) (enters_of Tryd.func53 (by kernel_rfl) rfl)
    (valsI_seq 8 (by omega) w.heap.size w1.heap.size A c xs w1 hn (by omega) bC.cell (fun h0 => by
      obtain ⟨b, off, e, hc⟩ := hA1 h0
      exact ⟨b, off, e, World.block_lt_of_cell? w1 _ (hc 0 h0), hc⟩)) (by simp)
    (fun x hx W _ => (decimal_made x (hz x hx) W).mono fun e W' ⟨h1, h2⟩ => ⟨_, h1, fun _ => rfl, h2⟩)
    (fun _ x u h => ⟨_, h⟩) (fun _ _ _ _ h _ => h) (by decide) (by decide) (by decide) (by decide)).mono ?_
  rintro e W' ⟨v, rfl, hy, _, ho⟩
  rw [hall] at hy ⊢
  refine ⟨v, rfl, ?_, ho.over hb (by simp)⟩
  obtain ⟨us, hrow, hf⟩ := hy rfl
  rw [Fit.fn hf] at hrow
  unfold RowS
  rw [List.length_map, List.map_map]
  exact own_base hrow (by omega)
set_option maxHeartbeats 2000000 in
theorem words_code (A : Option Addr) (xs : List Int) (c : Nat) (w : World) (hA : NumsIn w A xs) (hn : xs.length ≤ 1000) (hz : ∀ x ∈ xs, -9223372036854775808 ≤ x ∧ x ≤ 9223372036854775807) :
    Calls Tryd.prog 27 #[.slice A xs.length c] w fun e W' => ∃ v, e = .returned v ∧ RowS W' w.heap.size v (xs.map decI) ∧ Below w.heap.size w W' := by
  have CE := words_each A xs c w hA hn hz
  have CM := fun W => valsI_make A xs.length c W
  clear hA hn hz
  generalize xs.map decI = ds at *
  generalize xs.length = n at *
  go_enter Tryd.func27, Tryd.ntmps27
  go_wp2_with (first
    | (go_at_call 39; refine (CM _).mono ?_; rintro e w' ⟨rfl, rfl⟩)
    | (go_at_call 38; refine CE.mono ?_; rintro e w4 ⟨v, rfl, hy, hb⟩))
  go_ret
  exact ⟨v, rfl, hy, hb⟩
end Go.Proofs.YtedkhdnfbdojcaaDoor
end
section
/- What book's words answers, off its code: a tour's words. -/
namespace Go.Proofs.YtedkhdnfbdojcaaDoor
open Go.RowKit
set_option linter.unusedVariables false
set_option maxRecDepth 20000
def stopN (s : StopD) : List Int := [s.1, s.2]
def tourN (t : TourD) : List Int := (t.length : Int) :: t.flatMap stopN
theorem tourN_len (t : TourD) : (tourN t).length = 1 + 2 * t.length := by
  have : ∀ l : TourD, (l.flatMap stopN).length = 2 * l.length := fun l => by
    induction l with
    | nil => rfl
    | cons a r ih => rw [List.flatMap_cons, List.length_append, ih, List.length_cons]; show 2 + _ = _; omega
  unfold tourN
  rw [List.length_cons, this]
  omega
theorem tourN_words (t : TourD) : wTour :: (tourN t).map decI = tourW t := by
  unfold tourN tourW
  rw [List.map_cons, List.map_flatMap]
  rfl
theorem tourN_ok {t : TourD} (hn : t.length ≤ 400) (h : ∀ s ∈ t, W64 s.1 ∧ W64 s.2) : ∀ x ∈ tourN t, W64 x := fun x hx => by
  unfold tourN at hx
  rcases List.mem_cons.1 hx with rfl | hx
  · exact len_w (by omega)
  · obtain ⟨s, hs, hx⟩ := List.mem_flatMap.1 hx
    obtain ⟨h1, h2⟩ := h s hs
    simp only [stopN, List.mem_cons, List.not_mem_nil, or_false] at hx
    rcases hx with rfl | rfl
    · exact h1
    · exact h2
/-- A row of numbers of the call's own. -/
def RowN (W : World) (base : Nat) (v : Value) (l : List Int) : Prop := W.ownsRow base 3 1 v l.length (l.map (Value.int .i64))
theorem RowN.nums {w : World} {base : Nat} {A : Option Addr} {n c : Nat} {l : List Int} (h : RowN w base (.slice A n c) l) : NumsIn w A l := fun h0 => by
  obtain ⟨g, cap, hv, _, _⟩ := World.ownsRow.form h h0
  injection hv with hA hn hc
  subst hA; subst hn; subst hc
  refine ⟨g, 0, rfl, fun j hj => ?_⟩
  rw [Nat.zero_add, World.ownsRow.cellAt h j (by omega), List.getElem?_map, List.getElem?_eq_getElem hj]
  rfl
theorem two_allocs (w : World) (o o' : Obj) : Below w.heap.size w ((w.alloc o).alloc o') := (below_alloc w o).alloc (by simp) o'
theorem own_cellsB {w : World} {base : Nat} {e : TypeId} {size n cap g : Nat} {news : List Value} (h : w.ownsRow base e size (.slice (some ⟨g, 0, none⟩) n cap) n news) : ∀ j u, news[j]? = some u → w.cell? ((⟨g, 0, none⟩ : Addr).add j) = some u := fun j u hj => by
  have := World.ownsRow.cells h (g := g) rfl j u hj
  exact this
theorem two_nums (W : World) (a b : Int) (j : Nat) (u : Value) (h : [Value.int .i64 a, Value.int .i64 b][j]? = some u) : (W.alloc (.cells #[.int .i64 a, .int .i64 b] 3)).cell? ((⟨W.heap.size, 0, none⟩ : Addr).add j) = some u := by
  match j, h with
  | 0, h => injection h with h; rw [← h]; simp [Addr.add, go_sem]
  | 1, h => injection h with h; rw [← h]; simp [Addr.add, go_sem]
theorem RowN.lit (w : World) (z : Int) : RowN (w.alloc (.cells #[.int .i64 z] 3)) w.heap.size (.slice (some ⟨w.heap.size, 0, none⟩) 1 1) [z] := World.ownsRow_lit w #[.int .i64 z] 1 (Nat.le_refl _) (by decide) rfl
set_option maxHeartbeats 4000000 in
theorem bookWords_any (t : TourD) (P : Option Addr) (k : Nat) (w : World) (hP : RowAt 2 StopAt w P t) (hn : t.length ≤ 400) (hW : ∀ s ∈ t, W64 s.1 ∧ W64 s.2) :
    Calls Tryd.prog 15 #[.agg #[.slice P t.length k]] w fun e w' => ∃ v, e = .returned v ∧ RowS w' w.heap.size v (tourW t) ∧ Below w.heap.size w w' := by
  obtain ⟨i0, hi, hz0, hz1, hz2⟩ := info_parts info_int
  obtain ⟨s0, si, sz0, sz1, sz2⟩ := info_parts info_str
  obtain ⟨W0, hW0⟩ : ∃ W0, W0 = w.alloc (.cells #[.slice P t.length k] 41) := ⟨_, rfl⟩
  have hb0 : Below w.heap.size w W0 := by rw [hW0]; exact below_alloc w _
  have K0 : Boxed W0 w.heap.size 41 (.slice P t.length k) := by rw [hW0]; exact Boxed.new w _ _
  have hs0 : W0.heap.size = w.heap.size + 1 := by rw [hW0]; simp
  have HP := Go.Lib.hid (hP.keep' StopAt.keep hb0)
  have HB0 := Go.Lib.hid hb0
  have HR0 : Hid (RowN (W0.alloc (.cells #[.int .i64 (t.length : Int)] 3)) W0.heap.size (.slice (some ⟨w.heap.size + 1, 0, none⟩) 1 1) [(t.length : Int)]) := by
    show RowN _ _ _ _
    rw [← hs0]
    exact RowN.lit W0 _
  have HL0 := Go.Lib.hid (below_alloc W0 (.cells #[.int .i64 (t.length : Int)] 3))
  have HW := Go.Lib.hid hW
  have k0 := K0.cell
  have k1 := cell_keep k0 HL0.out
  clear hP hW hb0 K0
  go_enter Tryd.func15, Tryd.ntmps15
  go_wp2_with fail
  rw [← hW0]
  clear hW0
  go_wp2
  clear k0 k1
  go_loopw [3, 13] (fun lv iv wr => ∃ (j : Nat) (A : Option Addr) (c : Nat), j ≤ t.length ∧ iv = .int .i64 j ∧ lv = .slice A (1 + 2 * j) c ∧ RowN wr W0.heap.size (.slice A (1 + 2 * j) c) ((t.length : Int) :: (t.take j).flatMap stopN) ∧ Below W0.heap.size W0 wr) (fun _ iv _ => t.length - (intOf iv).toNat)
  case atStart => exact ⟨0, _, _, Nat.zero_le _, rfl, rfl, HR0.out, HL0.out⟩
  case round =>
    clear HR0 HL0
    obtain ⟨j, A, c, hj, rfl, rfl, hrow, hbw⟩ := hrel
    have HRW := Go.Lib.hid hrow
    have HBW := Go.Lib.hid hbw
    clear hrow hbw
    by_cases hlt : j < t.length
    · obtain ⟨b, off, rfl, c0, c1⟩ := HP.out j hlt
      have v0 := cell_keep c0 HBW.out
      have v1 := cell_keep c1 HBW.out
      have HN : Hid ((t.length : Int) :: (t.take (j + 1)).flatMap stopN = ((t.length : Int) :: (t.take j).flatMap stopN) ++ [t[j].1, t[j].2]) := by
        show _ = _
        rw [List.take_succ_eq_append_getElem hlt, List.flatMap_append]
        simp [stopN]
      have hll : ((t.length : Int) :: (t.take j).flatMap stopN).length = 1 + 2 * j := by
        have := tourN_len (t.take j)
        unfold tourN at this
        rw [List.length_cons] at this ⊢
        rw [List.length_take_of_le (by omega)] at this
        omega
      obtain ⟨⟨y1, y2⟩, hy⟩ : ∃ s, s = t[j] := ⟨_, rfl⟩
      rw [← hy] at v0 v1 HN
      obtain ⟨ws, hws⟩ : ∃ ws, ws = (t.length : Int) :: (t.take j).flatMap stopN := ⟨_, rfl⟩
      rw [← hws] at HRW hll HN
      have hrow : wr.ownsRow W0.heap.size 3 1 (.slice A (1 + 2 * j) c) (1 + 2 * j) (ws.map (Value.int .i64)) := by
        have := HRW.out
        unfold RowN at this
        rw [hll] at this
        exact this
      have HRO := Go.Lib.hid hrow
      have HLL := Go.Lib.hid hll
      have hs1 : W0.heap.size ≤ wr.heap.size := HBW.out.size
      clear hy hws hll hrow c0 c1
      go_wp2_with (at_builtin; refine wpList_append_own _ rfl _ _ 77 rfl W0.heap.size 3 i0 (.int .i64 0) 1 8 Tryd.underlying77 hi hz0 hz1 hz2 rfl (by decide) _ _ _ rfl (own_keep HRO.out (two_allocs wr _ _)) ⟨wr.heap.size + 1, 0, none⟩ 2 2 [.int .i64 y1, .int .i64 y2] rfl rfl (fun j u hj => by have := two_nums (wr.alloc (.cells #[.int .i64 y1, .int .i64 y2] 43)) y1 y2 j u hj; rw [World.size_alloc] at this; exact this) (by intro u hu; simp at hu; rcases hu with rfl | rfl <;> rfl) (by unfold maxLen; omega) (by omega) (by simp; omega) ?_; intro v' w3 hown' hgrow _; have R := (HBW.out.trans ((two_allocs wr (.cells #[.int .i64 y1, .int .i64 y2] 43) (.cells #[.int .i64 y1, .int .i64 y2] 3)).mono HBW.out.size)).grown hgrow (by have := HBW.out.size; simp; omega) (own_ge HRO.out); obtain ⟨A3, c3, rfl, _⟩ := own_form hown'; have HO3 := Go.Lib.hid hown'; clear hgrow hown')
      refine ⟨⟨j + 1, A3, c3, by omega, by go_num, by rw [show 1 + 2 * (j + 1) = 1 + 2 * j + 2 by omega], ?_, R⟩, by simp [intOf]; omega⟩
      rw [HN.out, show 1 + 2 * (j + 1) = 1 + 2 * j + 2 by omega]
      unfold RowN
      rw [List.length_append, HLL.out, List.map_append]
      exact HO3.out
    · obtain rfl : j = t.length := by omega
      have hr : RowN wr W0.heap.size (.slice A (1 + 2 * t.length) c) (tourN t) := by
        have := HRW.out
        rw [List.take_length] at this
        exact this
      have hl := tourN_len t
      have HOK := Go.Lib.hid (tourN_ok hn HW.out)
      have HWD := Go.Lib.hid (tourN_words t)
      obtain ⟨ns, hns⟩ : ∃ ns, ns = tourN t := ⟨_, rfl⟩
      rw [← hns] at hr hl HOK HWD
      obtain ⟨w7, hw7⟩ : ∃ w7, w7 = wr.alloc (.cells #[.string ⟨#[116, 111, 117, 114]⟩] 9) := ⟨_, rfl⟩
      have hb7 : Below wr.heap.size wr w7 := by rw [hw7]; exact below_alloc wr _
      have hs7 : w7.heap.size = wr.heap.size + 1 := by rw [hw7]; simp
      have hs8 : w.heap.size ≤ wr.heap.size := Nat.le_trans HB0.out.size HBW.out.size
      have hr7 : w7.ownsRow w.heap.size 9 1 (.slice (some ⟨wr.heap.size, 0, none⟩) 1 1) 1 [.string ⟨#[116, 111, 117, 114]⟩] := by
        rw [hw7]
        exact row_lit wr hs8 [wTour] rfl (by decide)
      have HR7 := Go.Lib.hid hr7
      have CW := words_code A ns c w7 (hr.nums.keep hb7) (by omega) HOK.out
      have hwl : (ns.map decI).length = 1 + 2 * t.length := by rw [List.length_map, hl]
      rw [hl] at CW
      generalize ns.map decI = ws at *
      have HWL := Go.Lib.hid hwl
      have HBZ := Go.Lib.hid ((HB0.out.trans (HBW.out.mono HB0.out.size)).trans (hb7.mono hs8))
      clear hr hns hb7 hr7 HP hwl hl
      go_wp2_with fail
      rw [← hw7]
      clear hw7
      go_wp2_with (first
        | (go_at_call 27; refine CW.mono ?_; rintro e w8 ⟨v2, rfl, hr8, hb8⟩; unfold RowS at hr8; rw [HWL.out] at hr8; obtain ⟨g8, c8, rfl, _, _⟩ := World.ownsRow.form hr8 (by omega); have HR8 := Go.Lib.hid hr8; have HB8 := Go.Lib.hid hb8; have hs9 := hb8.size; clear hr8 hb8)
        | (at_builtin; refine wpList_append_own _ rfl _ _ 48 rfl w.heap.size 9 s0 (.string ByteArray.empty) 1 16 Tryd.underlying48 si sz0 sz1 sz2 rfl (by decide) _ _ _ rfl (own_keep HR7.out HB8.out) ⟨g8, 0, none⟩ (1 + 2 * t.length) c8 (ws.map fun f => Value.string (strL f)) rfl (by rw [List.length_map, HWL.out, Nat.mul_one]) (own_cellsB HR8.out) (by intro u hu; obtain ⟨x, _, rfl⟩ := List.mem_map.1 hu; rfl) (by unfold maxLen; omega) (by omega) (by omega) ?_; intro v' w3 hown' hgrow _; have R := (HBZ.out.trans (HB8.out.mono HBZ.out.size)).grown hgrow (by omega) (own_ge HR7.out); have HO3 := Go.Lib.hid hown'; clear hgrow hown'))
      go_ret
      refine ⟨_, rfl, ?_, R⟩
      rw [← HWD.out]
      unfold RowS
      rw [List.length_cons, HWL.out, List.map_cons, Nat.add_comm (1 + 2 * t.length) 1]
      exact HO3.out
end Go.Proofs.YtedkhdnfbdojcaaDoor
end
section
/- What the functions of package text answer, off their code: word, words, Lines. -/
namespace Go.Proofs.YtedkhdnfbdojcaaDoor
open Go.RowKit
set_option linter.unusedVariables false

theorem good_lo {c : UInt8} (h : goodC c = true) : decide ((c.toNat : Int) < 33) = false ∧ decide (126 < (c.toNat : Int)) = false := by
  unfold goodC at h
  simp only [Bool.and_eq_true, decide_eq_true_iff] at h
  exact ⟨decide_eq_false (by omega), decide_eq_false (by omega)⟩
theorem good_no {c : UInt8} (h : goodC c = false) : decide ((c.toNat : Int) < 33) = true ∨ (decide ((c.toNat : Int) < 33) = false ∧ decide (126 < (c.toNat : Int)) = true) := by
  unfold goodC at h
  by_cases h1 : (c.toNat : Int) < 33
  · exact .inl (decide_eq_true h1)
  · refine .inr ⟨decide_eq_false h1, decide_eq_true ?_⟩
    rw [decide_eq_true (by omega : 33 ≤ c.toNat), Bool.true_and, decide_eq_false_iff_not] at h
    omega

set_option maxHeartbeats 1000000 in
theorem word_yes (s : ByteArray) (w : World) (hs : s.size ≤ maxLen) (h : wordB s.data.toList = true) :
    Calls Tryd.prog 48 #[.string s] w fun e w' => e = .returned (.tuple #[.string s, .bool true]) ∧ w' = w := by
  unfold maxLen at hs
  obtain ⟨h0, hg⟩ := wordB_pos h
  have hsz : s.data.toList.length = s.size := Array.length_toList
  have hemp := empty_size s
  rw [decide_eq_false (fun e => h0 (List.length_eq_zero_iff.1 (by rw [hsz]; exact e)))] at hemp
  have HG : Hid (∀ k (hk : k < s.size), decide ((s[k].toNat : Int) < 33) = false ∧ decide (126 < (s[k].toNat : Int)) = false) := fun k hk => good_lo (hg k (by rw [hsz]; exact hk))
  clear h hg h0 hsz
  go_enter Tryd.func48, Tryd.ntmps48
  go_wp2
  go_loop [9] (fun iv => ∃ k : Nat, k ≤ s.size ∧ iv = .int .i64 k) (fun iv => s.size - (intOf iv).toNat)
  case atStart => exact ⟨0, Nat.zero_le _, rfl⟩
  case round =>
    obtain ⟨k, hk, rfl⟩ := hrel
    by_cases hlt : k < s.size
    · obtain ⟨g1, g2⟩ := HG.out k hlt
      go_wp2
      go_round
      case rel => exact ⟨k + 1, by omega, by go_num⟩
      case measure => simp [intOf]; omega
    · obtain rfl : k = s.size := by omega
      go_wp2
      go_ret2
      exact ⟨rfl, rfl⟩
set_option maxHeartbeats 2000000 in
theorem word_no (s : ByteArray) (w : World) (hs : s.size ≤ maxLen) (h : wordB s.data.toList = false) :
    Calls Tryd.prog 48 #[.string s] w fun e w' => e = .returned (.tuple #[.string ⟨#[]⟩, .bool false]) ∧ w' = w := by
  unfold maxLen at hs
  have hsz : s.data.toList.length = s.size := Array.length_toList
  have hemp := empty_size s
  by_cases h0 : s.data.toList = []
  · rw [decide_eq_true (show s.size = 0 by rw [← hsz, h0]; rfl)] at hemp
    clear h hsz h0
    go_enter Tryd.func48, Tryd.ntmps48
    go_wp2
    go_ret2
    exact ⟨rfl, rfl⟩
  · rw [decide_eq_false (fun e => h0 (List.length_eq_zero_iff.1 (by rw [hsz]; exact e)))] at hemp
    obtain ⟨j, hj, hb⟩ := wordB_neg h h0
    have HB := Go.Lib.hid (good_no hb)
    have HJ : Hid (j < s.size) := by show _ < _; rw [← hsz]; exact hj
    have HG : Hid (∀ k (hk : k < s.size), goodC s[k] = true → decide ((s[k].toNat : Int) < 33) = false ∧ decide (126 < (s[k].toNat : Int)) = false) := fun k hk hh => good_lo hh
    have HN : Hid (∀ k (hk : k < s.size), goodC s[k] = false → decide ((s[k].toNat : Int) < 33) = true ∨ (decide ((s[k].toNat : Int) < 33) = false ∧ decide (126 < (s[k].toNat : Int)) = true)) := fun k hk hh => good_no hh
    have HX : Hid (∀ k, k = j → ∀ (hk : k < s.size), goodC s[k] = false) := fun k e hk => by subst e; exact hb
    clear h h0 hsz hb HB hj
    go_enter Tryd.func48, Tryd.ntmps48
    go_wp2
    go_loop [9] (fun iv => ∃ k : Nat, k ≤ j ∧ iv = .int .i64 k) (fun iv => s.size - (intOf iv).toNat)
    case atStart => exact ⟨0, Nat.zero_le _, rfl⟩
    case round =>
      obtain ⟨k, hk, rfl⟩ := hrel
      have hlt : k < s.size := by have := HJ.out; omega
      cases hg : goodC s[k]
      · rcases HN.out k hlt hg with g1 | ⟨g1, g2⟩
        · clear hg
          go_wp2
          go_ret2
          exact ⟨rfl, rfl⟩
        · clear hg
          go_wp2
          go_ret2
          exact ⟨rfl, rfl⟩
      · have hkj : k < j := by
          rcases Nat.lt_or_ge k j with a | a
          · exact a
          · have := HX.out k (by omega) hlt
            rw [hg] at this
            cases this
        obtain ⟨g1, g2⟩ := HG.out k hlt hg
        clear hg
        go_wp2
        go_round
        case rel => exact ⟨k + 1, by omega, by go_num⟩
        case measure => simp [intOf]; omega
end Go.Proofs.YtedkhdnfbdojcaaDoor
end
section
/- What the functions of package text answer, off their code: words, Lines. -/
namespace Go.Proofs.YtedkhdnfbdojcaaDoor
open Go.RowKit Go.Shelf
set_option linter.unusedVariables false

theorem fields_le (l : List UInt8) : ∀ c ∈ fields l, c.length ≤ l.length := by
  induction l with
  | nil => simp [fields]
  | cons b r ih =>
    rw [fields]
    split
    · intro c hc
      rcases List.mem_cons.1 hc with rfl | hc
      · simp
      · have := ih c hc; simp; omega
    · split
      · intro c hc; simp at hc; subst hc; simp
      · rename_i d ds h
        rw [h] at ih
        intro c hc
        rcases List.mem_cons.1 hc with rfl | hc
        · have := ih d (by simp); simp; omega
        · have := ih c (by simp [hc]); simp; omega
theorem word_any (f : List UInt8) (hf : f.length ≤ 2000000000) (W : World) :
    Calls Tryd.prog 48 #[.string (strL f)] W fun e W' => ∃ u, e = .returned (.tuple #[u, .bool (wordB f)]) ∧ (wordB f = true → u = .string (strL f)) ∧ Below W.heap.size W W' := by
  have hs : (strL f).size ≤ maxLen := by rw [strL_size]; unfold maxLen; omega
  cases h : wordB f
  · refine (word_no (strL f) W hs (by rw [strL_list]; exact h)).mono ?_
    rintro e W' ⟨rfl, rfl⟩
    exact ⟨_, rfl, (fun h => by cases h), Below.refl _ _⟩
  · refine (word_yes (strL f) W hs (by rw [strL_list]; exact h)).mono ?_
    rintro e W' ⟨rfl, rfl⟩
    exact ⟨_, rfl, fun _ => rfl, Below.refl _ _⟩
set_option maxHeartbeats 2000000 in
/-- The pieces of a line between blanks. -/
theorem split_each (s : List UInt8) (hs : s.length ≤ 1000000000) (w : World) :
    Calls Tryd.prog 46 #[.func (.func 63) #[] #[.pointer (some ⟨w.heap.size + 1, 0, none⟩), .pointer (some ⟨w.heap.size, 0, none⟩), .pointer (some ⟨w.heap.size + 2, 0, none⟩)], .func (.func 48) #[] #[]]
      (((w.alloc (.cells #[.string (strL s)] 9)).alloc (.cells #[.string ⟨#[32]⟩] 9)).alloc (.cells #[.int .i64 0] 3)) fun e W' =>
      ∃ v, e = .returned (.tuple #[v, .bool ((fields s).all wordB)]) ∧ ((fields s).all wordB = true → RowS W' w.heap.size v (fields s)) ∧ Below w.heap.size w W' := by
  obtain ⟨w3, hw3⟩ : ∃ w3, w3 = (((w.alloc (.cells #[.string (strL s)] 9)).alloc (.cells #[.string ⟨#[32]⟩] 9)).alloc (.cells #[.int .i64 0] 3)) := ⟨_, rfl⟩
  have bC : Boxed w3 w.heap.size 9 (.string (strL s)) := by rw [hw3]; exact ((Boxed.new w _ _).alloc _).alloc _
  have bD : Boxed w3 (w.heap.size + 1) 9 (.string ⟨#[32]⟩) := by
    have a1 := Boxed.new (w.alloc (.cells #[.string (strL s)] 9)) 9 (.string ⟨#[32]⟩)
    rw [World.size_alloc] at a1
    rw [hw3]; exact a1.alloc _
  have bE : Boxed w3 (w.heap.size + 2) 3 (.int .i64 0) := by
    have a2 := Boxed.new ((w.alloc (.cells #[.string (strL s)] 9)).alloc (.cells #[.string ⟨#[32]⟩] 9)) 3 (.int .i64 0)
    rw [World.size_alloc, World.size_alloc] at a2
    rw [hw3]; exact a2
  have hsz : w3.heap.size = w.heap.size + 3 := by rw [hw3]; simp
  have hb : Below w.heap.size w w3 := by rw [hw3]; exact below3 w _ _ _
  rw [← hw3]
  have hfl := fields_len s
  refine (eachW 63 _ [w.heap.size] (fields s) wordB (fun _ f u => u = .string (strL f)) 1 w3 (by omega) (enters_of Tryd.func63 (by kernel_rfl) rfl)
    (split_seq 8 (by omega) w.heap.size (w.heap.size + 1) (w.heap.size + 2) w3.heap.size s w3 hs (by omega) (by omega) (by omega) (by omega) (by omega) bC bD bE) (by simp; omega)
    (fun f hf W _ => word_any f (by have := fields_le s f hf; omega) W) (fun _ x u h => ⟨_, h⟩) (fun _ _ _ _ h _ => h) (by decide) (by decide) (by decide) (by decide)).mono ?_
  rintro e W' ⟨v, rfl, hy, _, ho⟩
  refine ⟨v, rfl, fun h => ?_, ho.over hb (by simp)⟩
  obtain ⟨us, hrow, hf⟩ := hy h
  rw [Fit.fn hf] at hrow
  exact own_base hrow (by omega)
set_option maxHeartbeats 2000000 in
theorem words_any (x : List UInt8) (hx : x.length ≤ 1000000000) (w : World) :
    Calls Tryd.prog 32 #[.string (strL x)] w fun e W' => ∃ u, e = .returned (.tuple #[u, .bool (lineB x)]) ∧ (lineB x = true → RowS W' w.heap.size u (fields x.dropLast)) ∧ Below w.heap.size w W' := by
  have hcut : ∀ W, Calls Tryd.prog 45 #[.string (strL x), .string ⟨#[10]⟩] W fun e w' => e = .returned (.tuple #[.string (strL (Lib.trimSuffix x [10])), .bool (Lib.hasSuffix x [10])]) ∧ w' = W := fun W => by
    have := Tryd.strings_CutSuffix (strL x) ⟨#[10]⟩ W (by rw [strL_size]; omega)
    rw [strL_list] at this
    exact this
  cases hsuf : Lib.hasSuffix x [10]
  · have hl : lineB x = false := by unfold lineB; rw [hsuf]; rfl
    rw [hl]
    rw [hsuf] at hcut
    clear hsuf
    go_enter Tryd.func32, Tryd.ntmps32
    go_wp2_with (go_at_call 45; refine (hcut _).mono ?_; rintro e w' ⟨rfl, rfl⟩)
    go_ret2
    exact ⟨_, rfl, (fun h => by cases h), Below.refl _ _⟩
  · have hl : lineB x = (fields x.dropLast).all wordB := by unfold lineB; rw [hsuf]; rfl
    rw [hl]
    rw [hsuf, trim_ten hsuf] at hcut
    have hd : x.dropLast.length ≤ 1000000000 := by rw [List.length_dropLast]; omega
    clear hsuf hl
    generalize x.dropLast = s at *
    have CE := split_each s hd w
    have CM := fun W => split_make (strL s) ⟨#[32]⟩ W
    go_enter Tryd.func32, Tryd.ntmps32
    go_wp2_with (first
      | (go_at_call 45; refine (hcut _).mono ?_; rintro e w' ⟨rfl, rfl⟩)
      | (go_at_call 47; refine (CM _).mono ?_; rintro e w' ⟨rfl, rfl⟩)
      | (go_at_call 46; refine CE.mono ?_; rintro e w4 ⟨v, rfl, hy, hb⟩))
    go_ret2
    exact ⟨v, rfl, hy, hb⟩
end Go.Proofs.YtedkhdnfbdojcaaDoor
end
section
/- What text.Lines answers, off its code. -/
namespace Go.Proofs.YtedkhdnfbdojcaaDoor
open Go.RowKit Go.Shelf
set_option linter.unusedVariables false

/-- A value that reads as these lines. -/
def LinesOf (W : World) (v : Value) (ls : List (List (List UInt8))) : Prop :=
  ∃ us, W.ownsRow 0 48 1 v ls.length us ∧ Fit (fun l u => RowS W 0 u l) ls us
theorem LinesOf.keep {w w' : World} {v : Value} {ls : List (List (List UInt8))} (h : LinesOf w v ls) (hb : Below w.heap.size w w') : LinesOf w' v ls := by
  obtain ⟨us, h1, h2⟩ := h
  exact ⟨us, own_keep h1 hb, h2.mono fun x u hx => own_keep hx hb⟩
set_option maxHeartbeats 2000000 in
theorem lines_each (t : List UInt8) (ht : t.length ≤ 1000000000) (w : World) :
    Calls Tryd.prog 30 #[.func (.func 43) #[] #[.pointer (some ⟨w.heap.size, 0, none⟩)], .func (.func 32) #[] #[]]
      (w.alloc (.cells #[.string (strL t)] 9)) fun e W' =>
      ∃ v, e = .returned (.tuple #[v, .bool ((chunks t).all lineB)]) ∧ ((chunks t).all lineB = true → LinesOf W' v ((chunks t).map fun c => fields c.dropLast)) ∧ Below w.heap.size w W' := by
  obtain ⟨w1, hw1⟩ : ∃ w1, w1 = w.alloc (.cells #[.string (strL t)] 9) := ⟨_, rfl⟩
  have bC : Boxed w1 w.heap.size 9 (.string (strL t)) := by rw [hw1]; exact Boxed.new w _ _
  have hsz : w1.heap.size = w.heap.size + 1 := by rw [hw1]; simp
  have hb : Below w.heap.size w w1 := by rw [hw1]; exact below_alloc w _
  rw [← hw1]
  have hcl := chunks_len t
  refine (eachL 43 _ [w.heap.size] (chunks t) lineB (fun W x u => RowS W w1.heap.size u (fields x.dropLast)) 9 w1 (by omega) (enters_of Tryd.func43 (by kernel_rfl) rfl)
    (lines_seq 8 (by omega) w.heap.size w1.heap.size t w1 ht (by omega) bC) (by simp; omega)
    (fun x hx W hW => (words_any x (by have := chunks_le t x hx; omega) W).mono fun e W' ⟨u, h1, h2, h3⟩ => ⟨u, h1, fun h => own_base (h2 h) hW, h3⟩)
    (fun W x u h => by obtain ⟨A, c, e, _⟩ := own_form h; exact ⟨A, _, c, e⟩) (fun W W' x u h hs => own_same h hs (by simp; omega)) (by decide) (by decide) (by decide) (by decide)).mono ?_
  rintro e W' ⟨v, rfl, hy, _, ho⟩
  refine ⟨v, rfl, fun h => ?_, ho.over hb (by simp)⟩
  obtain ⟨us, hrow, hf⟩ := hy h
  refine ⟨us, by rw [List.length_map]; exact own_base hrow (by omega), Fit.map (hf.mono fun x u hx => own_base hx (by omega))⟩
set_option maxHeartbeats 2000000 in
theorem lines_yes (t : List UInt8) (ht : t.length ≤ 1000000000) (ls : List (List (List UInt8))) (h : linesD t = some ls) (w : World) :
    Calls Tryd.prog 19 #[.string (strL t)] w fun e W' => ∃ v, e = .returned (.tuple #[v, .int .i64 0]) ∧ LinesOf W' v ls ∧ Below w.heap.size w W' := by
  obtain ⟨h1, rfl⟩ := linesD_some h
  have CE := lines_each t ht w
  have CM := fun W => lines_make (strL t) W
  rw [h1] at CE
  clear h h1
  generalize ((chunks t).map fun c => fields c.dropLast) = ls at *
  go_enter Tryd.func19, Tryd.ntmps19
  go_wp2_with (first
    | (go_at_call 31; refine (CM _).mono ?_; rintro e w' ⟨rfl, rfl⟩)
    | (go_at_call 30; refine CE.mono ?_; rintro e w4 ⟨v, rfl, hy, hb⟩))
  go_ret2
  exact ⟨v, rfl, hy trivial, hb⟩
set_option maxHeartbeats 2000000 in
theorem lines_no (t : List UInt8) (ht : t.length ≤ 1000000000) (h : linesD t = none) (w : World) :
    Calls Tryd.prog 19 #[.string (strL t)] w fun e W' => e = .returned (.tuple #[.slice none 0 0, .int .i64 2]) ∧ Below w.heap.size w W' := by
  have h1 := linesD_none h
  have CE := lines_each t ht w
  have CM := fun W => lines_make (strL t) W
  rw [h1] at CE
  clear h h1
  go_enter Tryd.func19, Tryd.ntmps19
  go_wp2_with (first
    | (go_at_call 31; refine (CM _).mono ?_; rintro e w' ⟨rfl, rfl⟩)
    | (go_at_call 30; refine CE.mono ?_; rintro e w4 ⟨v, rfl, hy, hb⟩))
  go_ret2
  exact ⟨rfl, hb⟩
end Go.Proofs.YtedkhdnfbdojcaaDoor
end
section
/- What the document's functions on texts answer, off their code: Lines. -/
namespace Go.Proofs.YtedkhdnfbdojcaaDoor
open Go.RowKit
set_option linter.unusedVariables false

theorem info_row : (Tryd.prog.info? 48).map (fun i => (i.zero, i.size, i.bytes)) = some (some (.slice none 0 0), 1, 24) := by kernel_rfl
/-- A row whose block lies below L, where nothing below L has turned. -/
theorem own_lt {w w' : World} {base L size n : Nat} {t : TypeId} {v : Value} {xs : List Value} (h : w.ownsRow base t size v n xs) (hl : ∀ b, v.ownBlock = some b → b < L) (hb : Below L w w') : w'.ownsRow base t size v n xs := by
  refine ⟨h.1, ?_⟩
  rcases h.2 with h0 | ⟨g, cap, cur, rfl, hg, hh, r⟩
  · exact .inl h0
  · exact .inr ⟨g, cap, cur, rfl, hg, (hb.block g (hl g rfl)).trans hh, r⟩
theorem own_blk {w : World} {base size n : Nat} {t : TypeId} {v : Value} {xs : List Value} (h : w.ownsRow base t size v n xs) : ∀ b, v.ownBlock = some b → b < w.heap.size := fun b hb => by
  rcases h.2 with ⟨rfl, _⟩ | ⟨g, cap, cur, rfl, hg, hh, r⟩
  · simp [Value.ownBlock] at hb
  · obtain rfl : g = b := by simpa [Value.ownBlock] using hb
    exact (Array.getElem?_eq_some_iff.1 hh).1
/-- Lines that are collected, and the words of the one that is under way. -/
structure RefM (w : World) (outs : List (List (List UInt8))) (line : List (List UInt8)) (L : Nat) (ov lv : Value) (us : List Value) (wr : World) : Prop where
  b1 : w.heap.size ≤ L
  b2 : L ≤ wr.heap.size
  out : wr.ownsRow w.heap.size 48 1 ov outs.length us
  fit : Fit (fun l u => RowS wr w.heap.size u l ∧ ∀ b, u.ownBlock = some b → b < L) outs us
  line : RowS wr L lv line
  low : Below w.heap.size w wr
section
variable {w wr w1 : World} {outs : List (List (List UInt8))} {line : List (List UInt8)} {L : Nat} {ov lv v' : Value} {us : List Value} {tmp : Obj}
theorem RefM.start (w : World) : RefM w [] [] w.heap.size (.slice none 0 0) (.slice none 0 0) [] w :=
  ⟨Nat.le_refl _, Nat.le_refl _, World.ownsRow_nil _ _ _ _, .nil, World.ownsRow_nil _ _ _ _, Below.refl _ _⟩
theorem RefM.keep (h : RefM w outs line L ov lv us wr) (hb : Below wr.heap.size wr w1) : RefM w outs line L ov lv us w1 :=
  ⟨h.b1, Nat.le_trans h.b2 hb.size, own_keep h.out hb, h.fit.mono fun l u hu => ⟨own_keep hu.1 hb, hu.2⟩, own_keep h.line hb, h.low.trans (hb.mono h.low.size)⟩
theorem RefM.word (h : RefM w outs line L ov lv us wr) {cur : List UInt8} (hown : w1.ownsRow L 9 1 v' (line.length + 1) (line.map (fun f => Value.string (strL f)) ++ [.string (strL cur)])) (hgrow : (wr.alloc tmp).grownBy w1 lv.ownBlock) :
    RefM w outs (line ++ [cur]) L ov v' us w1 := by
  have hl : (wr.alloc tmp).ownsRow L 9 1 lv line.length (line.map fun f => Value.string (strL f)) := World.ownsRow.alloc h.line tmp
  have bl : Below L wr w1 := ((Below.refl L wr).alloc h.b2 tmp).grown hgrow (by have := h.b2; simp; omega) (own_ge hl)
  have st : SameT 48 [] wr w1 := (SameT.alloc _ _ wr tmp).trans (.grown hl (by decide) hgrow)
  refine ⟨h.b1, Nat.le_trans h.b2 bl.size, own_same h.out st (by simp), h.fit.mono fun l u hu => ⟨own_lt hu.1 hu.2 bl, hu.2⟩, ?_, h.low.trans (bl.mono h.b1)⟩
  unfold RowS
  rw [List.length_append, List.map_append]
  exact hown
theorem RefM.push (h : RefM w outs line L ov lv us wr) (hown : w1.ownsRow w.heap.size 48 1 v' (outs.length + 1) (us ++ [lv])) (hgrow : (wr.alloc tmp).grownBy w1 ov.ownBlock) :
    RefM w (outs ++ [line]) [] w1.heap.size v' (.slice none 0 0) (us ++ [lv]) w1 := by
  have ho : (wr.alloc tmp).ownsRow w.heap.size 48 1 ov outs.length us := World.ownsRow.alloc h.out tmp
  have bl : Below w.heap.size wr w1 := ((Below.refl _ wr).alloc h.low.size tmp).grown hgrow (by have := h.low.size; simp; omega) (own_ge ho)
  have st : SameT 9 [] wr w1 := (SameT.alloc _ _ wr tmp).trans (.grown ho (by decide) hgrow)
  have hls := own_same h.line st (by simp)
  refine ⟨Nat.le_trans h.low.size bl.size, Nat.le_refl _, by rw [List.length_append]; exact hown, ?_, World.ownsRow_nil _ _ _ _, h.low.trans bl⟩
  refine (h.fit.mono fun l u hu => ⟨own_same hu.1 st (by simp), fun b hb => ?_⟩).snoc ⟨own_base hls h.b1, own_blk hls⟩
  have := hu.2 b hb
  have := h.b2
  have := bl.size
  omega
theorem RefM.lines (h : RefM w outs line L ov lv us wr) : LinesOf wr ov outs := ⟨us, own_base h.out (Nat.zero_le _), h.fit.mono fun l u hu => own_base hu.1 (Nat.zero_le _)⟩
end
end Go.Proofs.YtedkhdnfbdojcaaDoor
end
section
/- What the document's Same answers on two lists of the same lines, off its code; and what each law asks at its end (lives). -/
namespace Go.Proofs.YtedkhdnfbdojcaaDoor
open Go.RowKit
set_option linter.unusedVariables false

theorem LinesOf.at {w : World} {v : Value} {ls : List (List (List UInt8))} (h : LinesOf w v ls) {i : Nat} (hi : i < ls.length) :
    ∃ g cap A c, v = .slice (some ⟨g, 0, none⟩) ls.length cap ∧ w.cell? ⟨g, i, none⟩ = some (.slice A ls[i].length c) ∧
      ∀ j (hj : j < ls[i].length), ∃ b, A = some ⟨b, 0, none⟩ ∧ w.cell? ⟨b, j, none⟩ = some (.string (strL (ls[i][j]))) := by
  obtain ⟨us, hrow, hf⟩ := h
  obtain ⟨hu, hr⟩ := hf.at i hi
  obtain ⟨g, cap, hv, _, _⟩ := World.ownsRow.form hrow (by omega)
  subst hv
  obtain ⟨A, c, e, _⟩ := own_form hr
  refine ⟨g, cap, A, c, rfl, ?_, fun j hj => ?_⟩
  · rw [World.ownsRow.cellAt hrow i (by omega), List.getElem?_eq_getElem hu, e]
  · obtain ⟨b, c', e', hc⟩ := RowS.at hr hj
    rw [e] at e'
    injection e' with e1 _ _
    exact ⟨b, e1, hc⟩
theorem LinesOf.form {w : World} {v : Value} {ls : List (List (List UInt8))} (h : LinesOf w v ls) : ∃ A c, v = .slice A ls.length c := by
  obtain ⟨us, hrow, _⟩ := h
  obtain ⟨A, c, e, _⟩ := own_form hrow
  exact ⟨A, c, e⟩
theorem getD_at {α : Type} (l : List α) (d : α) {i : Nat} (hi : i < l.length) : l.getD i d = l[i] := by rw [List.getD_eq_getElem?_getD, List.getElem?_eq_getElem hi]; rfl
end Go.Proofs.YtedkhdnfbdojcaaDoor
end
section
/- What text.Numbers and text.Words answer, off their code. -/
namespace Go.Proofs.YtedkhdnfbdojcaaDoor
open Go.RowKit Go.Shelf
set_option linter.unusedVariables false
set_option maxHeartbeats 2000000 in
theorem numbers_each (A : Option Addr) (xs : List ByteArray) (c : Nat) (w : World) (hA : TextsIn w A xs) (hn : xs.length ≤ 1000) (hz : ∀ x ∈ xs, x.size ≤ maxLen) :
    Calls Tryd.prog 66 #[.func (.func 71) #[] #[.pointer (some ⟨w.heap.size, 0, none⟩)], .func (.func 50) #[] #[]] (w.alloc (.cells #[.slice A xs.length c] 48)) fun e W' =>
      ∃ v, e = .returned (.tuple #[v, .bool (xs.all fun x => decB x.data.toList)]) ∧ ((xs.all fun x => decB x.data.toList) = true → W'.ownsRow w.heap.size 3 1 v xs.length (xs.map fun x => Value.int .i64 (numV x.data.toList))) ∧ ((xs.all fun x => decB x.data.toList) = false → v = .slice none 0 0) ∧ Below w.heap.size w W' := by
  obtain ⟨w1, hw1⟩ : ∃ w1, w1 = w.alloc (.cells #[.slice A xs.length c] 48) := ⟨_, rfl⟩
  have bC : Boxed w1 w.heap.size 48 (.slice A xs.length c) := by rw [hw1]; exact Boxed.new w _ _
  have hsz : w1.heap.size = w.heap.size + 1 := by rw [hw1]; simp
  have hb : Below w.heap.size w w1 := by rw [hw1]; exact below_alloc w _
  rw [← hw1]
  have hA1 := hA.keep hb
  refine (eachN 71 _ [] xs (fun x => decB x.data.toList) (fun _ x u => u = .int .i64 (numV x.data.toList)) 1 w1 (by omega) (enters_of Tryd.func71 (by kernel_rfl) rfl)
    (valsS_seq 8 (by omega) w.heap.size w1.heap.size A c xs w1 hn (by omega) bC.cell (fun h0 => by
      obtain ⟨b, off, e, hc⟩ := hA1 h0
      exact ⟨b, off, e, World.block_lt_of_cell? w1 _ (hc 0 h0), hc⟩)) (by simp)
    (fun x hx W _ => (number_any x W (hz x hx)).mono fun e W' ⟨h1, h2⟩ => ⟨_, h1, fun _ => rfl, by rw [h2]; exact Below.refl _ _⟩)
    (fun _ x u h => ⟨_, h⟩) (fun _ _ _ _ h _ => h) (by decide) (by decide) (by decide) (by decide)).mono ?_
  rintro e W' ⟨v, rfl, hy, hno, ho⟩
  refine ⟨v, rfl, fun h => ?_, hno, ho.over hb (by simp)⟩
  obtain ⟨us, hrow, hf⟩ := hy h
  rw [Fit.fn hf] at hrow
  exact own_base hrow (by omega)
set_option maxHeartbeats 2000000 in
theorem numbers_code (A : Option Addr) (xs : List ByteArray) (c : Nat) (w : World) (hA : TextsIn w A xs) (hn : xs.length ≤ 1000) (hz : ∀ x ∈ xs, x.size ≤ maxLen) :
    Calls Tryd.prog 58 #[.slice A xs.length c] w fun e W' =>
      ∃ v, e = .returned (.tuple #[v, .bool (xs.all fun x => decB x.data.toList)]) ∧ ((xs.all fun x => decB x.data.toList) = true → W'.ownsRow w.heap.size 3 1 v xs.length (xs.map fun x => Value.int .i64 (numV x.data.toList))) ∧ ((xs.all fun x => decB x.data.toList) = false → v = .slice none 0 0) ∧ Below w.heap.size w W' := by
  have CE := numbers_each A xs c w hA hn hz
  have CM := fun W => valsS_make A xs.length c W
  clear hA hn hz
  generalize (xs.all fun x => decB x.data.toList) = ok at *
  generalize (xs.map fun x => Value.int .i64 (numV x.data.toList)) = us at *
  generalize xs.length = n at *
  go_enter Tryd.func58, Tryd.ntmps58
  go_wp2_with (first
    | (go_at_call 67; refine (CM _).mono ?_; rintro e w' ⟨rfl, rfl⟩)
    | (go_at_call 66; refine CE.mono ?_; rintro e w4 ⟨v, rfl, hy, hno, hb⟩))
  go_ret2
  exact ⟨v, rfl, hy, hno, hb⟩
end Go.Proofs.YtedkhdnfbdojcaaDoor
end
section
/- Lines that are left: book's rest, its cut and its count, off its code, where the lines are as they must be. -/
namespace Go.Proofs.YtedkhdnfbdojcaaDoor
open Go.RowKit
set_option linter.unusedVariables false
set_option maxRecDepth 20000
/-- A line at its place. -/
def LineAt (w : World) (g i : Nat) (l : List (List UInt8)) : Prop := ∃ P k, w.cell? ⟨g, i, none⟩ = some (.slice P l.length k) ∧ l.length ≤ k ∧ k ≤ maxLen ∧ WordsIn w P l
theorem LineAt.keep {w w' : World} {g i : Nat} {l : List (List UInt8)} (h : LineAt w g i l) (hb : Below w.heap.size w w') : LineAt w' g i l := by
  obtain ⟨P, k, h1, h2, h4, h3⟩ := h
  exact ⟨P, k, cell_keep h1 hb, h2, h4, h3.keep hb⟩
theorem lines_at {w : World} {v : Value} {ls : List (List (List UInt8))} (h : LinesOf w v ls) (h0 : 0 < ls.length) : ∃ g c, v = .slice (some ⟨g, 0, none⟩) ls.length c ∧ ls.length ≤ c ∧ c ≤ maxLen ∧ ∀ (i : Nat) (l : List (List UInt8)), ls[i]? = some l → LineAt w g i l := by
  obtain ⟨us, hrow, hf⟩ := h
  obtain ⟨g, c, hv, _, _⟩ := World.ownsRow.form hrow h0
  subst hv
  refine ⟨g, c, rfl, ?_, ?_, fun i l hi => ?_⟩
  · obtain ⟨A, c', e, hc⟩ := own_form hrow
    injection e with _ _ e3
    omega
  · rcases hrow.2 with ⟨e, _⟩ | ⟨_, _, _, e, _, _, _, hm, _⟩
    · simp at e
    · injection e with _ _ e3
      omega
  · obtain ⟨hl, rfl⟩ := List.getElem?_eq_some_iff.1 hi
    obtain ⟨hu, hr⟩ := hf.at i hl
    obtain ⟨A, k, e, hk⟩ := own_form hr
    have hc : w.cell? ⟨g, i, none⟩ = some us[i] := by rw [hrow.cellAt i (by omega), List.getElem?_eq_getElem hu]
    rw [e] at hc hr
    have hkm : k ≤ maxLen := by
      rcases hr.2 with ⟨e', _⟩ | ⟨_, _, _, e', _, _, _, hm, _⟩
      · injection e' with _ _ e3
        rw [e3]; exact Nat.zero_le _
      · injection e' with _ _ e3
        omega
    exact ⟨A, k, hc, hk, hkm, RowS.words hr⟩
set_option maxHeartbeats 2000000 in
theorem cut_code (R g o n L C : Nat) (w : World) (hb : Boxed w R 63 (.slice (some ⟨g, o, none⟩) L C)) (hn : n ≤ L) (hL : L ≤ C) (hC : C ≤ maxLen) :
    Calls Tryd.prog 49 #[.pointer (some ⟨R, 0, none⟩), .int .i64 n] w fun e w' => e = .returned (.tuple #[.slice (some ⟨g, o, none⟩) n n, .bool true]) ∧ ∃ o', (0 < L - n → o' = o + n) ∧ w' = w.setCell ⟨R, 0, none⟩ (.slice (some ⟨g, o', none⟩) (L - n) (C - n)) := by
  unfold maxLen at hC
  have c0 := hb.cell
  have f0 := hb.frozen
  have h1 : ¬ (L : Int) < (n : Int) := by omega
  have h2 : (n : Int) ≤ (L : Int) := by omega
  have h3 : (n : Int) ≤ (C : Int) := by omega
  clear hb
  by_cases hnc : C = n
  · subst hnc
    obtain rfl : L = C := by omega
    have HT : Hid (∃ o', (0 < L - L → o' = o + L) ∧ w.setCell ⟨R, 0, none⟩ (.slice (some ⟨g, o, none⟩) 0 0) = w.setCell ⟨R, 0, none⟩ (.slice (some ⟨g, o', none⟩) (L - L) (L - L))) := ⟨o, fun h => by omega, by rw [Nat.sub_self]⟩
    go_enter Tryd.func49, Tryd.ntmps49
    go_wp2
    go_ret2
    exact ⟨rfl, by simpa using HT.out⟩
  · have h5 : C - n ≠ 0 := by omega
    have h6 : ¬ n = C := fun e => hnc e.symm
    have h7 : ¬ C ≤ n := by omega
    have h8 : ¬ C - n = 0 := h5
    go_enter Tryd.func49, Tryd.ntmps49
    go_wp2
    go_ret2
    exact ⟨rfl, o + n, fun _ => rfl, rfl⟩
theorem words_two {w : World} {P : Option Addr} {a b : List UInt8} (h : WordsIn w P [a, b]) : ∃ bl off, P = some ⟨bl, off, none⟩ ∧ w.cell? ⟨bl, off, none⟩ = some (.string (strL a)) ∧ w.cell? ⟨bl, off + 1, none⟩ = some (.string (strL b)) := by
  obtain ⟨bl, off, e, hc⟩ := h.at (by simp)
  exact ⟨bl, off, e, (hc 0 (by simp)).1, (hc 1 (by simp)).1⟩
theorem strL_self (a : List UInt8) : ((strL a).toList != (strL a).toList) = false := by simp
set_option maxHeartbeats 2000000 in
theorem count_code (U : World) (R g o L C : Nat) (w : World) (head : List UInt8) (H : ByteArray) (hH : H = strL head) (z : Int) (hb : Boxed w R 63 (.slice (some ⟨g, o, none⟩) L C)) (hL0 : 0 < L) (hL : L ≤ C) (hC : C ≤ maxLen)
    (hl : LineAt U g o [head, decI z]) (hU : Below U.heap.size U w) (hR : U.heap.size ≤ R) (h0 : 0 ≤ z) (h1 : z ≤ 1000000000000000000) :
    Calls Tryd.prog 33 #[.pointer (some ⟨R, 0, none⟩), .string H] w fun e w' => e = .returned (.tuple #[.int .i64 z, .bool true]) ∧ ∃ o', (0 < L - 1 → o' = o + 1) ∧ w' = w.setCell ⟨R, 0, none⟩ (.slice (some ⟨g, o', none⟩) (L - 1) (C - 1)) := by
  have CC := cut_code R g o 1 L C w hb (by omega) hL hC
  have HL2 := Go.Lib.hid (fun o' => hl.keep (hU.setCell (p := ⟨R, 0, none⟩) hR (.slice (some ⟨g, o', none⟩) (L - 1) (C - 1))))
  have hsm := strL_self head
  obtain ⟨hdb, hdv⟩ := dec_num h0 h1
  have hsz : (strL (decI z)).size ≤ maxLen := by
    rw [strL_size]
    exact Nat.le_trans (decI_bd ⟨by omega, by omega⟩) (by decide)
  have CN := fun W => number_yes (strL (decI z)) W hsz (by rw [strL_list]; exact hdb)
  rw [strL_list, hdv] at CN
  generalize hDD : strL (decI z) = D at *
  have HHD := Go.Lib.hid hH
  have HE : Hid (∀ o', ∃ (P : Option Addr) (k bl off : Nat), (w.setCell ⟨R, 0, none⟩ (.slice (some ⟨g, o', none⟩) (L - 1) (C - 1))).cell? ⟨g, o, none⟩ = some (.slice (some ⟨bl, off, none⟩) 2 k) ∧ 2 ≤ k ∧ (w.setCell ⟨R, 0, none⟩ (.slice (some ⟨g, o', none⟩) (L - 1) (C - 1))).cell? ⟨bl, off, none⟩ = some (.string H) ∧ (w.setCell ⟨R, 0, none⟩ (.slice (some ⟨g, o', none⟩) (L - 1) (C - 1))).cell? ⟨bl, off + 1, none⟩ = some (.string D)) := fun o' => by
    obtain ⟨P, k, hc, hk, _, hw⟩ := HL2.out o'
    obtain ⟨bl, off, rfl, s0, s1⟩ := words_two hw
    rw [← hH] at s0
    rw [hDD] at s1
    exact ⟨none, k, bl, off, hc, hk, s0, s1⟩
  rw [← hH] at hsm
  clear hb hl hU hdb hdv hH hDD HL2
  go_enter Tryd.func33, Tryd.ntmps33
  go_wp2_with (first
    | (go_at_call 49; refine CC.mono ?_; rintro e w1 ⟨rfl, o', ho', rfl⟩; obtain ⟨_, k, bl, off, hc, hk, s0, s1⟩ := HE.out o'; have HO := Go.Lib.hid ho'; clear ho')
    | (go_at_call 50; refine (CN _).mono ?_; rintro e w2 ⟨rfl, rfl⟩))
  go_ret2
  exact ⟨rfl, o', HO.out, rfl⟩
end Go.Proofs.YtedkhdnfbdojcaaDoor
end
