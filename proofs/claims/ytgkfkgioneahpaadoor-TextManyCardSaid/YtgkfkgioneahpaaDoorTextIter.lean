/- What the library's iterators give: slices.Values, strings.Lines, strings.SplitSeq. -/
import Derived.Test.YtgkfkgioneahpaaDoorSeq
import Derived.Test.YtgkfkgioneahpaaDoorTextPure
import Derived.Test.YtgkfkgioneahpaaDoorShelf
import Derived.Shelf.Abstract
import Derived.Shelf.RegionOpen
import Derived.OwnWalkIn
import Derived.TacticsInMore
import Derived.LoopNIn
import Derived.LoopIn
namespace Go.Proofs.YtgkfkgioneahpaaDoor
open Go.RowKit Go.Shelf
set_option linter.unusedVariables false
attribute [local go_sem] Oper.semAt_some

theorem take_more {α : Type} {xs : List α} {k : Nat} (hk : k < xs.length) : xs.take k ++ [xs[k]] = xs.take (k + 1) := by rw [List.take_succ_eq_append_getElem hk]
theorem take_pre {α : Type} {xs : List α} {k : Nat} (hk : k < xs.length) : xs.take k ++ [xs[k]] <+: xs := by rw [take_more hk]; exact List.take_prefix _ _

set_option maxRecDepth 100000 in
set_option maxHeartbeats 2000000 in
/-- slices.Values's closure, over texts. -/
theorem valsS_seq (n : Nat) (hn : 1 ≤ n) (Bs n₀ : Nat) (A : Option Addr) (cap : Nat) (xs : List ByteArray) (w : World) (hlen : xs.length ≤ 1000) (hB : Bs < n₀) (hBs : w.cell? ⟨Bs, 0, none⟩ = some (.slice A xs.length cap))
    (hr : 0 < xs.length → ∃ b off, A = some ⟨b, off, none⟩ ∧ b < n₀ ∧ ∀ (j : Nat) (hj : j < xs.length), w.cell? ⟨b, off + j, none⟩ = some (.string xs[j])) :
    SeqC Fence.wide n Tryd.prog 42 #[.pointer (some ⟨Bs, 0, none⟩)] (fun x : ByteArray => #[Value.string x]) [] n₀ xs w := by
  intro l J Jx W hW hJ hJx hY h0
  have hBs' := (hW.cell (p := ⟨Bs, 0, none⟩) hB).trans hBs
  obtain ⟨N, hN⟩ : ∃ N, N = xs.length := ⟨_, rfl⟩
  rw [← hN] at hBs'
  have HN := Go.Lib.hid hN
  have HR := Go.Lib.hid hr
  have hlen' : N ≤ 1000 := by rw [hN]; exact hlen
  clear hN hr hBs hlen
  refine callsIn_of_wp Tryd.func42 rfl trivial ?_ rfl
  simp only [Tryd.ntmps42, List.size_toArray, List.length_cons, List.length_nil, Nat.reduceAdd, Nat.reduceSub, Array.replicate_succ, Array.replicate_zero, List.push_toArray, List.append_toArray, List.nil_append, List.cons_append]
  gi_wp2
  gi_loopw [7] (fun i wr => ∃ k : Nat, k ≤ N ∧ i = .int .i64 k ∧ J (xs.take k) wr ∧ Below n₀ W wr) (fun i _ => N - (intOf i).toNat)
  case atStart => exact ⟨0, Nat.zero_le _, rfl, h0, Below.refl _ _⟩
  case round =>
    obtain ⟨k, hk, rfl, hJs, hnx⟩ := hrel
    by_cases hlt : k < N
    · have hlt' : k < xs.length := by rw [← HN.out]; exact hlt
      obtain ⟨b, off, rfl, hb, hcs⟩ := HR.out (by omega)
      have hck : wr.cell? ⟨b, off + k, none⟩ = some (.string xs[k]) := (hnx.cell (p := ⟨b, off + k, none⟩) hb).trans ((hW.cell (p := ⟨b, off + k, none⟩) hb).trans (hcs k hlt'))
      obtain ⟨fn, tmps, assign, body, hy, hR⟩ := hY _ _ wr (take_pre hlt') hJs
      have HT := Go.Lib.hid (take_more hlt')
      generalize xs[k] = x at *
      clear hcs hlt'
      gi_wp2
      refine hR.mono ?_
      rintro e W3 (⟨rfl, hJ3, hk3⟩ | ⟨rfl, hJx3⟩)
      · gi_wp2
        go_roundw
        case rel => exact ⟨k + 1, by omega, by simp, by rw [← HT.out]; exact hJ3, hnx.trans hk3⟩
        case measure => simp [intOf]; omega
      · gi_wp2
        refine bodyPost_ret (results_none rfl _ _ _) rfl ?_
        exact ⟨⟨_, rfl⟩, .inr ⟨_, by rw [HT.out]; exact List.take_prefix _ _, hJx3⟩⟩
    · obtain rfl : k = N := by omega
      have e : xs.take k = xs := List.take_of_length_le (by rw [← HN.out]; exact Nat.le_refl _)
      rw [e] at hJs
      gi_wp2
      go_end0
      exact ⟨⟨_, rfl⟩, .inl hJs⟩

set_option maxHeartbeats 1000000 in
theorem valsS_make (a : Option Addr) (len cap : Nat) (w : World) :
    Calls Tryd.prog 29 #[.slice a len cap] w fun e w' => e = .returned (.func (.func 42) #[] #[.pointer (some ⟨w.heap.size, 0, none⟩)]) ∧ w' = w.alloc (.cells #[.slice a len cap] 29) := by
  go_enter Tryd.func29, Tryd.ntmps29
  go_wp2
  go_ret
  exact ⟨rfl, rfl⟩
set_option maxRecDepth 100000 in
set_option maxHeartbeats 2000000 in
/-- slices.Values's closure, over numbers. -/
theorem valsI_seq (n : Nat) (hn : 1 ≤ n) (Bs n₀ : Nat) (A : Option Addr) (cap : Nat) (xs : List Int) (w : World) (hlen : xs.length ≤ 1000) (hB : Bs < n₀) (hBs : w.cell? ⟨Bs, 0, none⟩ = some (.slice A xs.length cap))
    (hr : 0 < xs.length → ∃ b off, A = some ⟨b, off, none⟩ ∧ b < n₀ ∧ ∀ (j : Nat) (hj : j < xs.length), w.cell? ⟨b, off + j, none⟩ = some (.int .i64 xs[j])) :
    SeqC Fence.wide n Tryd.prog 43 #[.pointer (some ⟨Bs, 0, none⟩)] (fun x : Int => #[Value.int .i64 x]) [] n₀ xs w := by
  intro l J Jx W hW hJ hJx hY h0
  have hBs' := (hW.cell (p := ⟨Bs, 0, none⟩) hB).trans hBs
  obtain ⟨N, hN⟩ : ∃ N, N = xs.length := ⟨_, rfl⟩
  rw [← hN] at hBs'
  have HN := Go.Lib.hid hN
  have HR := Go.Lib.hid hr
  have hlen' : N ≤ 1000 := by rw [hN]; exact hlen
  clear hN hr hBs hlen
  refine callsIn_of_wp Tryd.func43 rfl trivial ?_ rfl
  simp only [Tryd.ntmps43, List.size_toArray, List.length_cons, List.length_nil, Nat.reduceAdd, Nat.reduceSub, Array.replicate_succ, Array.replicate_zero, List.push_toArray, List.append_toArray, List.nil_append, List.cons_append]
  gi_wp2
  gi_loopw [7] (fun i wr => ∃ k : Nat, k ≤ N ∧ i = .int .i64 k ∧ J (xs.take k) wr ∧ Below n₀ W wr) (fun i _ => N - (intOf i).toNat)
  case atStart => exact ⟨0, Nat.zero_le _, rfl, h0, Below.refl _ _⟩
  case round =>
    obtain ⟨k, hk, rfl, hJs, hnx⟩ := hrel
    by_cases hlt : k < N
    · have hlt' : k < xs.length := by rw [← HN.out]; exact hlt
      obtain ⟨b, off, rfl, hb, hcs⟩ := HR.out (by omega)
      have hck : wr.cell? ⟨b, off + k, none⟩ = some (.int .i64 xs[k]) := (hnx.cell (p := ⟨b, off + k, none⟩) hb).trans ((hW.cell (p := ⟨b, off + k, none⟩) hb).trans (hcs k hlt'))
      obtain ⟨fn, tmps, assign, body, hy, hR⟩ := hY _ _ wr (take_pre hlt') hJs
      have HT := Go.Lib.hid (take_more hlt')
      generalize xs[k] = x at *
      clear hcs hlt'
      gi_wp2
      refine hR.mono ?_
      rintro e W3 (⟨rfl, hJ3, hk3⟩ | ⟨rfl, hJx3⟩)
      · gi_wp2
        go_roundw
        case rel => exact ⟨k + 1, by omega, by simp, by rw [← HT.out]; exact hJ3, hnx.trans hk3⟩
        case measure => simp [intOf]; omega
      · gi_wp2
        refine bodyPost_ret (results_none rfl _ _ _) rfl ?_
        exact ⟨⟨_, rfl⟩, .inr ⟨_, by rw [HT.out]; exact List.take_prefix _ _, hJx3⟩⟩
    · obtain rfl : k = N := by omega
      have e : xs.take k = xs := List.take_of_length_le (by rw [← HN.out]; exact Nat.le_refl _)
      rw [e] at hJs
      gi_wp2
      go_end0
      exact ⟨⟨_, rfl⟩, .inl hJs⟩

set_option maxHeartbeats 1000000 in
theorem valsI_make (a : Option Addr) (len cap : Nat) (w : World) :
    Calls Tryd.prog 31 #[.slice a len cap] w fun e w' => e = .returned (.func (.func 43) #[] #[.pointer (some ⟨w.heap.size, 0, none⟩)]) ∧ w' = w.alloc (.cells #[.slice a len cap] 38) := by
  go_enter Tryd.func31, Tryd.ntmps31
  go_wp2
  go_ret
  exact ⟨rfl, rfl⟩

/-- How many bytes the text in a box has. -/
def boxLen (w : World) (C : Nat) : Nat := match w.cell? ⟨C, 0, none⟩ with | some (.string s) => s.size | _ => 0
theorem boxLen_is {w : World} {C : Nat} {t : TypeId} {s : List UInt8} (h : Boxed w C t (.string (strL s))) : boxLen w C = s.length := by
  unfold boxLen
  rw [h.cell]
  exact strL_size s
set_option maxRecDepth 100000 in
set_option maxHeartbeats 4000000 in
/-- strings.Lines's closure. -/
theorem lines_seq (n : Nat) (hn : 1 ≤ n) (C n₀ : Nat) (t : List UInt8) (w : World) (hlen : t.length ≤ 1000) (hC : C < n₀) (hBx : Boxed w C 9 (.string (strL t))) :
    SeqC Fence.wide n Tryd.prog 33 #[.pointer (some ⟨C, 0, none⟩)] (fun x : List UInt8 => #[Value.string (strL x)]) [C] n₀ (chunks t) w := by
  intro l J Jx W hW hJ hJx hY h0
  have hBx' : Boxed W C 9 (.string (strL t)) := (hW.block C hC).trans hBx
  refine callsIn_of_wp Tryd.func33 rfl trivial ?_ rfl
  simp only [Tryd.ntmps33, List.size_toArray, List.length_cons, List.length_nil, Nat.reduceAdd, Nat.reduceSub, Array.replicate_succ, Array.replicate_zero, List.push_toArray, List.append_toArray, List.nil_append, List.cons_append]
  gi_wp2
  gi_loopw [3] (fun v wr => ∃ pre s, chunks t = pre ++ chunks s ∧ s.length ≤ 1000 ∧ Boxed wr C 9 (.string (strL s)) ∧ J pre wr) (fun _ wr => boxLen wr C)
  case atStart => exact ⟨[], t, rfl, hlen, hBx', h0⟩
  case round =>
    obtain ⟨pre, s, he, hs, hb, hJs⟩ := hrel
    have hc := hb.cell
    have hfz := hb.frozen
    have hsz := strL_size s
    have HE := Go.Lib.hid he
    have HB := Go.Lib.hid hb
    have HM := Go.Lib.hid (boxLen_is hb)
    have hidx : ∀ W, Calls Tryd.prog 34 #[.string (strL s), .int .u8 10] W fun e w' => e = .returned (.int .i64 (Lib.indexByte s 10)) ∧ w' = W := fun W => by
      have := Tryd.strings_IndexByte (strL s) 10 W
      rw [strL_list] at this
      exact this
    clear he hb
    by_cases h0 : s = []
    · subst h0
      have e : chunks t = pre := by rw [HE.out]; simp [chunks]
      gi_wp2
      go_end0
      exact ⟨⟨_, rfl⟩, .inl (by rw [e]; exact hJs)⟩
    · have hpos : 0 < s.length := by cases s with | nil => exact absurd rfl h0 | cons _ _ => simp
      by_cases hi : Lib.indexByte s 10 = -1
      · rw [hi] at hidx
        have HX := Go.Lib.hid (chunks_miss hi h0)
        obtain ⟨fn, tmps, assign, body, hy, hR⟩ := hY pre s (wr.setCell ⟨C, 0, none⟩ (.string ⟨#[]⟩)) (by rw [HE.out, HX.out]; exact List.prefix_refl _) (hJ _ _ _ hJs ((Only.refl [C] wr).setCell (p := ⟨C, 0, none⟩) (by simp) _))
        clear h0 hi
        gi_wp2_with (refine ⟨trivial, ?_⟩; gi_at_call 34; refine (callsIn_wide.2 (hidx _)).mono ?_; rintro e w' ⟨rfl, rfl⟩)
        refine hR.mono ?_
        rintro e W3 (⟨rfl, hJ3, hk3⟩ | ⟨rfl, hJx3⟩)
        · have hb3 : Boxed W3 C 9 (.string (strL [])) := (hk3.block C hC).trans (HB.out.set _)
          have HM3 := Go.Lib.hid (boxLen_is hb3)
          gi_wp2
          go_roundw
          case rel => exact ⟨pre ++ [s], [], by rw [HE.out, HX.out]; simp [chunks], by simp, hb3, hJ3⟩
          case measure => rw [HM3.out, HM.out]; exact hpos
        · gi_wp2
          refine bodyPost_ret (results_none rfl _ _ _) rfl ?_
          exact ⟨⟨_, rfl⟩, .inr ⟨_, by rw [HE.out, HX.out]; exact List.prefix_refl _, hJx3⟩⟩
      · obtain ⟨i, hin⟩ : ∃ i : Nat, Lib.indexByte s 10 = (i : Int) := ⟨(Lib.indexByte s 10).toNat, by have := idx_pos hi; omega⟩
        have hil : i < s.length := by have := idx_lt (l := s) (c := 10); omega
        rw [hin] at hidx
        have HX := Go.Lib.hid (chunks_hit hin)
        have ex0 := ext_head s (i + 1)
        have ex1 := ext_tail s (i + 1)
        obtain ⟨fn, tmps, assign, body, hy, hR⟩ := hY pre (s.take (i + 1)) ((wr.setCell ⟨C, 0, none⟩ (.string (strL (s.drop (i + 1))))).drew) (by rw [HE.out, HX.out]; simp) (hJ _ _ _ hJs (((Only.refl [C] wr).setCell (p := ⟨C, 0, none⟩) (by simp) _).drew))
        clear h0 hi hin
        gi_wp2_with (refine ⟨trivial, ?_⟩; gi_at_call 34; refine (callsIn_wide.2 (hidx _)).mono ?_; rintro e w' ⟨rfl, rfl⟩)
        gi_region
        gi_wp2
        refine hR.mono ?_
        clear ex0 ex1
        rintro e W3 (⟨rfl, hJ3, hk3⟩ | ⟨rfl, hJx3⟩)
        · have hb3 : Boxed W3 C 9 (.string (strL (s.drop (i + 1)))) := (hk3.block C hC).trans (HB.out.set _)
          have HM3 := Go.Lib.hid (boxLen_is hb3)
          have HL : Hid ((s.drop (i + 1)).length < s.length) := by show _ < _; rw [List.length_drop]; omega
          gi_wp2
          go_roundw
          case rel => exact ⟨pre ++ [s.take (i + 1)], s.drop (i + 1), by rw [HE.out, HX.out]; simp, by have := HL.out; omega, hb3, hJ3⟩
          case measure => rw [HM3.out, HM.out]; exact HL.out
        · gi_wp2
          refine bodyPost_ret (results_none rfl _ _ _) rfl ?_
          exact ⟨⟨_, rfl⟩, .inr ⟨_, by rw [HE.out, HX.out]; simp, hJx3⟩⟩
set_option maxRecDepth 100000 in
set_option maxHeartbeats 4000000 in
/-- strings.SplitSeq's closure, where a blank is between. -/
theorem split_seq (n : Nat) (hn : 1 ≤ n) (C D E n₀ : Nat) (t : List UInt8) (w : World) (hlen : t.length ≤ 1000) (hC : C < n₀) (hD : D < n₀) (hE : E < n₀) (hCD : C ≠ D) (hCE : C ≠ E)
    (hBx : Boxed w C 9 (.string (strL t))) (hBd : Boxed w D 9 (.string ⟨#[32]⟩)) (hBe : Boxed w E 3 (.int .i64 0)) :
    SeqC Fence.wide n Tryd.prog 51 #[.pointer (some ⟨D, 0, none⟩), .pointer (some ⟨C, 0, none⟩), .pointer (some ⟨E, 0, none⟩)] (fun x : List UInt8 => #[Value.string (strL x)]) [C] n₀ (fields t) w := by
  intro l J Jx W hW hJ hJx hY h0
  have hBx' : Boxed W C 9 (.string (strL t)) := (hW.block C hC).trans hBx
  have hBd' : Boxed W D 9 (.string ⟨#[32]⟩) := (hW.block D hD).trans hBd
  have hBe' : Boxed W E 3 (.int .i64 0) := (hW.block E hE).trans hBe
  have hcd := hBd'.cell
  refine callsIn_of_wp Tryd.func51 rfl trivial ?_ rfl
  simp only [Tryd.ntmps51, List.size_toArray, List.length_cons, List.length_nil, Nat.reduceAdd, Nat.reduceSub, Array.replicate_succ, Array.replicate_zero, List.push_toArray, List.append_toArray, List.nil_append, List.cons_append]
  gi_wp2
  clear hcd
  gi_loopw [8] (fun v wr => ∃ pre s, fields t = pre ++ fields s ∧ s.length ≤ 1000 ∧ Boxed wr C 9 (.string (strL s)) ∧ Below n₀ wr wr ∧ Boxed wr D 9 (.string ⟨#[32]⟩) ∧ Boxed wr E 3 (.int .i64 0) ∧ J pre wr) (fun _ wr => boxLen wr C)
  case atStart => exact ⟨[], t, rfl, hlen, hBx', Below.refl _ _, hBd', hBe', h0⟩
  case round =>
    obtain ⟨pre, s, he, hs, hb, _, hbd, hbe, hJs⟩ := hrel
    have hc := hb.cell
    have hfz := hb.frozen
    have hcd := hbd.cell
    have hce := hbe.cell
    have hsz := strL_size s
    have HE := Go.Lib.hid he
    have HB := Go.Lib.hid hb
    have HBD := Go.Lib.hid hbd
    have HBE := Go.Lib.hid hbe
    have HM := Go.Lib.hid (boxLen_is hb)
    have hidx : ∀ W, Calls Tryd.prog 53 #[.string (strL s), .string ⟨#[32]⟩] W fun e w' => e = .returned (.int .i64 (Lib.indexByte s 32)) ∧ w' = W := fun W => by
      have := Tryd.strings_Index_one (strL s) 32 W
      rw [strL_list] at this
      exact this
    clear he hb hbd hbe
    by_cases hi : Lib.indexByte s 32 = -1
    · rw [hi] at hidx
      have HX := Go.Lib.hid (fields_miss hi)
      obtain ⟨fn, tmps, assign, body, hy, hR⟩ := hY pre s wr (by rw [HE.out, HX.out]; exact List.prefix_refl _) hJs
      clear hi
      gi_wp2_with (refine ⟨trivial, ?_⟩; gi_at_call 53; refine (callsIn_wide.2 (hidx _)).mono ?_; rintro e w' ⟨rfl, rfl⟩)
      refine hR.mono ?_
      rintro e W3 (⟨rfl, hJ3, hk3⟩ | ⟨rfl, hJx3⟩)
      · gi_wp2
        go_end0
        exact ⟨⟨_, rfl⟩, .inl (by rw [HE.out, HX.out]; exact hJ3)⟩
      · gi_wp2
        go_end0
        exact ⟨⟨_, rfl⟩, .inr ⟨_, by rw [HE.out, HX.out]; exact List.prefix_refl _, hJx3⟩⟩
    · obtain ⟨i, hin⟩ : ∃ i : Nat, Lib.indexByte s 32 = (i : Int) := ⟨(Lib.indexByte s 32).toNat, by have := idx_pos hi; omega⟩
      have hil : i < s.length := by have := idx_lt (l := s) (c := 32); omega
      rw [hin] at hidx
      have HX := Go.Lib.hid (fields_hit hin)
      have ex0 := ext_head s i
      have ex1 := ext_tail s (i + 1)
      obtain ⟨fn, tmps, assign, body, hy, hR⟩ := hY pre (s.take i) wr (by rw [HE.out, HX.out]; simp) hJs
      clear hi hin
      gi_wp2_with (refine ⟨trivial, ?_⟩; gi_at_call 53; refine (callsIn_wide.2 (hidx _)).mono ?_; rintro e w' ⟨rfl, rfl⟩)
      refine hR.mono ?_
      rintro e W3 (⟨rfl, hJ3, hk3⟩ | ⟨rfl, hJx3⟩)
      · have hb3 : Boxed W3 C 9 (.string (strL s)) := (hk3.block C hC).trans HB.out
        have hbd3 : Boxed W3 D 9 (.string ⟨#[32]⟩) := (hk3.block D hD).trans HBD.out
        have hbe3 : Boxed W3 E 3 (.int .i64 0) := (hk3.block E hE).trans HBE.out
        have hc3 := hb3.cell
        have hf3 := hb3.frozen
        have hcd3 := hbd3.cell
        have hJ4 := hJ _ _ _ hJ3 ((Only.refl [C] W3).setCell (p := ⟨C, 0, none⟩) (by simp) (.string (strL (s.drop (i + 1)))))
        have HB4 := Go.Lib.hid (hb3.set (.string (strL (s.drop (i + 1)))))
        have HM4 := Go.Lib.hid (boxLen_is HB4.out)
        have HD4 := Go.Lib.hid (hbd3.other (Ne.symm hCD) (.string (strL (s.drop (i + 1)))))
        have HE4 := Go.Lib.hid (hbe3.other (Ne.symm hCE) (.string (strL (s.drop (i + 1)))))
        have HL : Hid ((s.drop (i + 1)).length < s.length) := by show _ < _; rw [List.length_drop]; omega
        clear hb3 hbd3 hbe3
        gi_wp2
        go_roundw
        case rel => exact ⟨pre ++ [s.take i], s.drop (i + 1), by rw [HE.out, HX.out]; simp, by have := HL.out; omega, HB4.out, Below.refl _ _, HD4.out, HE4.out, hJ4⟩
        case measure => rw [HM4.out, HM.out]; exact HL.out
      · gi_wp2
        refine bodyPost_ret (results_none rfl _ _ _) rfl ?_
        exact ⟨⟨_, rfl⟩, .inr ⟨_, by rw [HE.out, HX.out]; simp, hJx3⟩⟩
set_option maxHeartbeats 1000000 in
theorem lines_make (s : ByteArray) (w : World) :
    Calls Tryd.prog 23 #[.string s] w fun e w' => e = .returned (.func (.func 33) #[] #[.pointer (some ⟨w.heap.size, 0, none⟩)]) ∧ w' = w.alloc (.cells #[.string s] 9) := by
  go_enter Tryd.func23, Tryd.ntmps23
  go_wp2
  go_ret
  exact ⟨rfl, rfl⟩
set_option maxHeartbeats 1000000 in
theorem split_make (s p : ByteArray) (w : World) :
    Calls Tryd.prog 37 #[.string s, .string p] w fun e w' => e = .returned (.func (.func 51) #[] #[.pointer (some ⟨w.heap.size + 1, 0, none⟩), .pointer (some ⟨w.heap.size, 0, none⟩), .pointer (some ⟨w.heap.size + 2, 0, none⟩)]) ∧ w' = ((w.alloc (.cells #[.string s] 9)).alloc (.cells #[.string p] 9)).alloc (.cells #[.int .i64 0] 3) := by
  go_enter Tryd.func37, Tryd.ntmps37
  go_wp2
  go_ret
  exact ⟨rfl, rfl⟩
end Go.Proofs.YtgkfkgioneahpaaDoor
