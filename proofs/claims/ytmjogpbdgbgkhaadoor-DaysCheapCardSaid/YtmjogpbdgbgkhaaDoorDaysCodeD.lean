/- What the functions of package days answer, off their code: Text. -/
import Derived.Test.YtmjogpbdgbgkhaaDoorDaysCodeC
namespace Go.Proofs.YtmjogpbdgbgkhaaDoor
open Go.RowKit
set_option linter.unusedVariables false

def ByteAt (w : World) (base g n : Nat) (xs : List Int) : Prop := w.ownsRow base 5 1 (.slice (some ⟨g, 0, none⟩) n n) n (xs.map (Value.int .u8))
theorem ByteAt.len {w : World} {base g n : Nat} {xs : List Int} (h : ByteAt w base g n xs) : xs.length = n := by simpa using h.1
theorem ByteAt.cellIn {w : World} {base g n : Nat} {xs : List Int} (h : ByteAt w base g n xs) {j : Nat} (hj : j < n) : w.cell? ⟨g, j, none⟩ = some (.int .u8 (xs.getD j 0)) ∧ w.frozen? ⟨g, j, none⟩ = false := by
  refine ⟨?_, h.frozenAt j⟩
  rw [h.cellAt j (by omega), List.getElem?_map, List.getD_eq_getElem?_getD, List.getElem?_eq_getElem (by rw [h.len]; exact hj)]
  rfl
theorem ByteAt.put {w : World} {base g n : Nat} {xs : List Int} (h : ByteAt w base g n xs) (j : Nat) (u : Int) : ByteAt (w.setCell ⟨g, j, none⟩ (.int .u8 u)) base g n (xs.set j u) := by
  unfold ByteAt
  rw [List.map_set]
  exact (h.stored j (.int .u8 u)).1
theorem ByteAt.made {w : World} {base g n : Nat} (h : w.ownsRow base 5 1 (.slice (some ⟨g, 0, none⟩) n n) n (madeCells (Value.int .u8 0).cells (n * 1)).toList) : ByteAt w base g n (List.replicate n 0) := by
  unfold ByteAt
  rw [List.map_replicate, ← toList_madeCells_one]
  simpa [Value.cells] using h
/-- The text so far, the rest still empty. -/
def signsAt (s m d : Nat) : List Int := textI s d ++ List.replicate (m - d) 0
theorem signsAt_succ {s m d : Nat} (hd : d < m) : signsAt s m (d + 1) = (signsAt s m d).set d (if s.testBit d then 49 else 48) := by
  unfold signsAt
  rw [List.set_append, if_neg (by rw [textI_len]; omega), textI_len, Nat.sub_self, textI_succ, List.append_assoc]
  obtain ⟨k, hk⟩ : ∃ k, m - d = k + 1 := ⟨m - d - 1, by omega⟩
  rw [hk, show m - (d + 1) = k by omega, List.replicate_succ]
  rfl
theorem set_set_same (xs : List Int) (d : Nat) (a b : Int) : (xs.set d a).set d b = xs.set d b := List.set_set ..

set_option maxHeartbeats 1000000 in
theorem signs_code (s : Nat) (hs : s < 2 ^ 64) (m : Nat) (n0 : 1 ≤ m) (n1 : m ≤ 64) (w : World) :
    Calls Tryd.prog 37 #[.int .i64 m, hasV s] w fun e w' => e = .returned (.string (strOfNums (textI s m))) ∧ Below w.heap.size w w' := by
  obtain ⟨i0, hi, hz0, hz1, hz2⟩ := info_parts info_byte
  have HH := Go.Lib.hid (fun (d : Nat) (hd : d < 64) W => has_quiet s (d : Int) hs (wf_iff.2 (by omega)) W)
  clear hs
  unfold hasV
  go_enter Tryd.func37, Tryd.ntmps37
  go_wp2_with (at_make; refine wpList_make_full _ rfl _ _ 57 rfl w.heap.size 5 i0 (.int .u8 0) 1 Tryd.underlying57 hi hz0 hz1 _ _ _ _ m rfl rfl (by omega) (by omega) (by rw [hz2]; omega) (by unfold maxLen; omega) (Nat.le_refl _) ?_; intro wm hown hgm)
  have M := ByteAt.made hown
  have B : Below w.heap.size w wm := (Below.refl _ _).grown hgm (Nat.le_refl _) (by simp)
  clear hown hgm
  go_loopw [11] (fun iv wr => ∃ d : Nat, d ≤ m ∧ iv = .int .i64 d ∧ ByteAt wr w.heap.size w.heap.size m (signsAt s m d) ∧ Below w.heap.size w wr) (fun iv _ => m - (intOf iv).toNat)
  case atStart => exact ⟨0, Nat.zero_le _, rfl, by simpa [signsAt, textI] using M, B⟩
  case round =>
    clear M B
    obtain ⟨d, hd, rfl, M, B⟩ := hrel
    by_cases hlt : d < m
    · have hc := HH.out d (by omega)
      have eh : hasB s (d : Int) = s.testBit d := by unfold hasB; rw [decide_eq_true (by omega), Int.toNat_natCast]; rfl
      rw [eh] at hc
      obtain ⟨c0, c1⟩ := M.cellIn hlt
      have HU := Go.Lib.hid (signsAt_succ (s := s) hlt)
      have M1 := M.put d 48
      have B1 : Below w.heap.size w (wr.setCell ⟨w.heap.size, d, none⟩ (.int .u8 48)) := B.setCell (by simp) _
      obtain ⟨c2, c3⟩ := M1.cellIn hlt
      have MM := Go.Lib.hid M1
      have M2 := Go.Lib.hid (M1.put d 49)
      have BB := Go.Lib.hid B1
      have B2 : Hid (Below w.heap.size w ((wr.setCell ⟨w.heap.size, d, none⟩ (.int .u8 48)).setCell ⟨w.heap.size, d, none⟩ (.int .u8 49))) := B1.setCell (by simp) _
      clear M M1 B B1 eh
      cases hbit : s.testBit d
      · have HT := Go.Lib.hid hbit
        rw [hbit] at hc
        clear hbit
        go_wp2_with (go_at_call 14; (with_reducible refine (hc _).mono ?_); rintro e w2 ⟨rfl, rfl⟩)
        go_roundw
        case rel => exact ⟨d + 1, by omega, by go_num, by rw [HU.out, HT.out, if_neg (by decide)]; exact MM.out, BB.out⟩
        case measure => simp [intOf]; omega
      · have HT := Go.Lib.hid hbit
        rw [hbit] at hc
        clear hbit
        go_wp2_with (go_at_call 14; (with_reducible refine (hc _).mono ?_); rintro e w2 ⟨rfl, rfl⟩)
        go_roundw
        case rel => exact ⟨d + 1, by omega, by go_num, by rw [HU.out, HT.out, if_pos rfl, ← set_set_same _ _ 48]; exact M2.out, B2.out⟩
        case measure => simp [intOf]; omega
    · obtain rfl : d = m := by omega
      have e : signsAt s d d = textI s d := by simp [signsAt]
      rw [e] at M
      have hcs := (Nums.of_own M).2 (by omega)
      obtain ⟨b, off, hb, hcs⟩ := hcs
      injection hb with hb
      injection hb with hb1 hb2 hb3
      subst hb1; subst hb2
      have hcv := run_convert_bytes_arg (P := Tryd.prog) wr 57 5 Tryd.underlying57 Tryd.underlying5 w.heap.size 0 d d (textI s d) (textI_len s d) hcs 9 Tryd.underlying9
      clear hcs M e
      go_wp2
      go_ret
      exact ⟨rfl, B⟩
theorem text_code : TextOk := by
  intro s n w hs wn
  have hmf : ∀ (fn : Fn) (first cap : Array Value) (w : World), (Instr.makeFunc fn first cap).run Tryd.prog w = .ok (.func fn first cap) w := fun _ _ _ _ => rfl
  by_cases hn : 1 ≤ n ∧ n ≤ 64
  · have e : textB s n = strOfNums (textI s n.toNat) := by unfold textB; rw [if_pos hn]
    rw [e]
    obtain ⟨n0, n1⟩ := hn
    obtain ⟨m, rfl⟩ : ∃ m : Nat, n = (m : Int) := ⟨n.toNat, by omega⟩
    rw [Int.toNat_natCast]
    have c1 := fun W => signs_code s hs m (by omega) (by omega) W
    unfold hasV at c1
    clear hs e wn
    generalize strOfNums (textI s m) = T at *
    go_enter Tryd.func24, Tryd.ntmps24
    go_wp2_with (go_at_call 37; refine (c1 _).mono ?_; rintro e x1 ⟨rfl, hb⟩)
    go_ret
    exact ⟨rfl, hb⟩
  · rw [textB_none hn]
    by_cases h0 : n < 1
    · go_enter Tryd.func24, Tryd.ntmps24
      go_wp2_with fail
      go_ret
      exact ⟨rfl, Below.refl _ _⟩
    · have h1 : 64 < n := by omega
      go_enter Tryd.func24, Tryd.ntmps24
      go_wp2_with fail
      go_ret
      exact ⟨rfl, Below.refl _ _⟩
end Go.Proofs.YtmjogpbdgbgkhaaDoor
