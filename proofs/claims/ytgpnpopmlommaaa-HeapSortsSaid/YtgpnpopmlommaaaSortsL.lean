/- The document's Sorted, and HeapSorts' walk. -/
import Derived.Test.YtgpnpopmlommaaaSorted
import Derived.Test.YtgpnpopmlommaaaHeapDocC
import Derived.Test.YtgpnpopmlommaaaHeapTwo
import Derived.Test.YtgpnpopmlommaaaSameI
namespace Go.Proofs.Ytgpnpopmlommaaa
open Go.RowKit Go.Maps
set_option linter.unusedVariables false
def RefFill (w : World) (xs : List Int) (n : Nat) (l i : Value) (wr : World) : Prop :=
  ∃ (k : Nat) (A : Option Addr) (m c : Nat) (r : List (Thing Int)), l = .slice A m c ∧ i = .int .i64 k ∧ k ≤ n ∧ Items wr A m c r [] ∧ Has LtI r ∧ r.Perm (row (upQ xs) k) ∧ Below w.heap.size w wr
def RefOut (w wa : World) (r : List (Thing Int)) (out i : Value) (wr : World) : Prop :=
  ∃ k : Nat, i = .int .i64 k ∧ k ≤ r.length ∧ wr.ownsRow wa.heap.size 3 1 out k ((r.take k).map fun x => Value.int .i64 x.1) ∧ Below wa.heap.size wa wr ∧ Below w.heap.size w wa
def RefSorted (w : World) (xs : List Int) (n : Nat) (e : Ending) (w' : World) : Prop :=
  ∃ (A : Option Addr) (c : Nat) (r : List (Thing Int)), e = .returned (.slice A n c) ∧ Ints w' A n (r.map (·.1)) ∧ Has LtI r ∧ r.Perm (row (upQ xs) n) ∧ Below w.heap.size w w'
set_option maxHeartbeats 4000000 in
theorem ref_sorted (A : Option Addr) (n c : Nat) (xs : List Int) (w : World) (h : Ints w A n xs) (hb : ∀ k, -9223372036854775808 ≤ xs.getD k 0 ∧ xs.getD k 0 ≤ 9223372036854775807) (hn60 : n ≤ 60) :
    Calls Try.prog 15 #[.slice A n c] w (RefSorted w xs n) := by
  obtain ⟨i0, hi, hz0, hz1, hz2⟩ := info_parts info_i
  have HX := Lib.hid h
  have HB := Lib.hid hb
  have H0 : RefFill w xs n (.slice none 0 0) (.int .i64 0) w := ⟨0, none, 0, 0, [], rfl, rfl, by omega, Items.nil _ _, Has.nil, List.Perm.refl _, Below.refl _ _⟩
  clear h hb
  go_enter Try.func15, Try.ntmps15
  go_wp2
  go_loopw [3, 4] (fun l i wr => RefFill w xs n l i wr) (fun _ i _ => n - (intOf i).toNat)
  case atStart => exact H0
  case round =>
    clear H0
    obtain ⟨k, A1, m, c1, r, rfl, rfl, hk, hI, hHas, hP, hW⟩ := hrel
    have hlen : r.length = k := by rw [hP.length_eq, rowq_len]
    by_cases hlt : k < n
    · obtain ⟨b, off, rfl, hcs⟩ := (HX.out.keep hW).2 (by omega)
      have d1 := hcs k hlt
      have hin : isIn r (k : Int) = false := by
        refine isIn_false.2 fun y hy e => ?_
        obtain ⟨i, hi, rfl⟩ := mem_row.1 (hP.subset hy)
        simp [upQ] at e; omega
      obtain ⟨x, hx⟩ : ∃ x, x = xs.getD k 0 := ⟨_, rfl⟩
      have wx : (Lit.int .i64 x).wf = true := wf_iff.2 (hx ▸ HB.out k)
      have wk : (Lit.int .i64 (k : Int)).wf = true := wf_iff.2 ⟨by omega, by omega⟩
      rw [← hx] at d1
      have HR : Hid (Calls Try.prog 24 #[.slice A1 m c1, .int .i64 k, .int .i64 x] wr fun e w' => ∃ A2 m2 c2, e = .returned (.tuple #[.slice A2 m2 c2, .bool true]) ∧ RefFill w xs n (.slice A2 m2 c2) (.int .i64 ((k : Int) + 1)) w') := by
        refine Lib.hid ((ref_put hI (by simp) (x := ((k : Int), x)) ⟨wk, wx⟩ (by omega)).mono ?_)
        intro e w' hR
        unfold RefPut at hR
        rw [hin] at hR
        obtain ⟨A2, m2, c2, rfl, g1, g2⟩ := hR
        refine ⟨A2, m2, c2, rfl, k + 1, A2, m2, c2, _, rfl, by go_num, by omega, g1, ?_, ?_, hW.trans (g2.mono hW.size)⟩
        · simpa using hHas.ins order_I (x := ((k : Int), x)) hin
        · rw [row_succ]
          have : upQ xs k = ((k : Int), x) := by unfold upQ; rw [hx]
          rw [this]
          have h3 := ((ins_perm (lt := LtI) ((k : Int), x) r).trans (hP.cons _)).trans (List.perm_append_singleton _ _).symm
          simpa using h3
      have l1 : (k : Int) < (n : Int) := by omega
      clear hcs hin hx hI hHas hP hW hlen
      go_wp2_with (go_at_call 24; refine HR.out.mono ?_; rintro e w1 ⟨A2, m2, c2, rfl, h5⟩; clear HR)
      go_roundw
      case rel => exact h5
      case measure => simp [intOf]; omega
    · obtain rfl : n = k := by omega
      have hm : m = n := by rw [← hI.1]; exact hlen
      subst hm
      have H1 : RefOut w wr r (.slice none 0 0) (.int .i64 0) wr := ⟨0, rfl, by omega, by simpa using World.ownsRow_nil _ _ _ _, Below.refl _ _, hW⟩
      have l1 : decide ((m : Int) < (m : Int)) = false := by simp
      have HI2 := Lib.hid hI
      have HH := Lib.hid hHas
      have HPP := Lib.hid hP
      have HLN := Lib.hid hlen
      clear hI hHas hP hW hlen
      go_wp2
      obtain ⟨wa, hwa⟩ : ∃ wa : World, wa = wr := ⟨_, rfl⟩
      have H2 : RefOut w wa r (.slice none 0 0) (.int .i64 0) wr := by rw [hwa]; exact H1
      have HI3 : Hid (Items wa A1 m c1 r []) := by rw [hwa]; exact HI2
      clear H1 HI2
      go_loopw [5, 6] (fun out i wr => RefOut w wa r out i wr) (fun _ i _ => m - (intOf i).toNat)
      case atStart => exact H2
      case round =>
        clear H2 hwa
        obtain ⟨k, rfl, hk, hown, hbw, hWa⟩ := hrel
        have hll := HLN.out
        by_cases hlt : k < m
        · obtain ⟨b, off, rfl, _, hbl, hcs⟩ := HI3.out.2.2.2.2 (by omega)
          obtain ⟨z, hz, hzl⟩ := get_is (l := r) (k := k) (by omega)
          have d1 := (hbw.cell (p := ⟨b, off + k * 2, none⟩) hbl).trans (hcs k z hz).1
          obtain ⟨zi, zw⟩ := z
          have HT := Lib.hid (take_one hz)
          have l2 : (k : Int) < (m : Int) := by omega
          have hsz := hbw.size
          clear hcs hz hzl hll
          go_wp2_with (at_builtin; refine wpList_append_own _ rfl _ _ 33 rfl wa.heap.size 3 i0 (.int .i64 0) 1 8 Try.underlying33 hi hz0 hz1 hz2 rfl (by decide) _ _ _ rfl (hown.alloc _) ⟨wr.heap.size, 0, none⟩ 1 1 [.int .i64 zi] rfl rfl (one_cell _ _ _) (one_ok _) (by unfold maxLen; omega) (by omega) (by simp; omega) ?_; intro v1 w1 hown1 hg1 _; have hb1 := (hbw.alloc hbw.size _).grown hg1 (by simp; omega) (fun k hk => (hown.lt k hk).1))
          go_roundw
          case rel => exact ⟨k + 1, by go_num, by have := HLN.out; omega, by rw [HT.out, List.map_append]; exact hown1, hb1, hWa⟩
          case measure => simp [intOf]; omega
        · obtain rfl : k = m := by omega
          have e1 : r.take k = r := List.take_of_length_le (by omega)
          rw [e1] at hown
          obtain ⟨A2, c2, rfl, hc2⟩ := own_form hown
          have hit : Ints wr A2 k (r.map (·.1)) := Ints.of_own (by rw [List.map_map]; exact hown)
          have HE : RefSorted w xs k (.returned (.slice A2 k c2)) wr := ⟨A2, c2, r, rfl, hit, HH.out, HPP.out, hWa.trans (hbw.mono hWa.size)⟩
          clear hown hit e1
          go_wp2
          go_ret
          exact HE
/-- Whatever is in order, and has all places, is the document's list. -/
theorem sorted_is {xs : List Int} {n : Nat} {f : Nat → Int} {r : List (Thing Int)} (hs : SortedOn (keyOfI xs) f 0 n) (hm : Moved 0 n (filled n) f) (hH : Has LtI r) (hP : r.Perm (row (upQ xs) n)) : (List.range n).map f = r.map (·.1) := by
  have key : (row (fun k => (f k, keyOfI xs (f k))) n) = r := by
    refine sorted_unique order_I ?_ hH.1 ?_
    · unfold row
      rw [List.pairwise_map]
      refine List.Pairwise.imp_of_mem ?_ (List.pairwise_lt_range (n := n))
      intro i j hi hj hij
      have := hs i j (Nat.zero_le _) hij (List.mem_range.1 hj)
      unfold T at this
      exact this
    · refine List.Perm.trans ?_ hP.symm
      refine (List.perm_ext_iff_of_nodup ?_ ?_).2 ?_
      · unfold row
        rw [List.nodup_iff_pairwise_ne, List.pairwise_map]
        refine List.Pairwise.imp_of_mem ?_ (List.pairwise_lt_range (n := n))
        intro i j hi hj hij e
        have h1 := hs i j (Nat.zero_le _) hij (List.mem_range.1 hj)
        have e2 := congrArg Prod.fst e
        simp only at e2
        rw [e2] at h1
        exact h1.irrefl
      · unfold row
        rw [List.nodup_iff_pairwise_ne, List.pairwise_map]
        refine List.Pairwise.imp_of_mem ?_ (List.pairwise_lt_range (n := n))
        intro i j hi hj hij e
        have e2 := congrArg Prod.fst e
        simp only [upQ] at e2
        omega
      · intro x
        rw [mem_row, mem_row]
        constructor
        · rintro ⟨k, hk, rfl⟩
          obtain ⟨j, _, j2, e1⟩ := hm.back k (Nat.zero_le _) hk
          unfold filled at e1
          rw [if_pos j2] at e1
          refine ⟨j, j2, ?_⟩
          show ((j : Int), xs.getD j 0) = (f k, keyOfI xs (f k))
          rw [← e1]
          unfold keyOfI
          rw [Int.toNat_natCast]
        · rintro ⟨k, hk, rfl⟩
          obtain ⟨j, _, j2, e1⟩ := hm.to k (Nat.zero_le _) hk
          unfold filled at e1
          rw [if_pos hk] at e1
          refine ⟨j, j2, ?_⟩
          show (f j, keyOfI xs (f j)) = ((k : Int), xs.getD k 0)
          rw [e1]
          unfold keyOfI
          rw [Int.toNat_natCast]
  rw [← key]
  unfold row
  rw [List.map_map]; rfl
theorem DataIs.ints {w : World} {D C n : Nat} {f : Nat → Int} (h : DataIs w D C n f) : Ints w (some ⟨D, 0, none⟩) n ((List.range n).map f) := by
  refine ⟨by simp, fun hn => ⟨D, 0, rfl, fun k hk => ?_⟩⟩
  rw [Nat.zero_add, h.cell hk, List.getD_eq_getElem?_getD]
  simp [hk]
end Go.Proofs.Ytgpnpopmlommaaa
