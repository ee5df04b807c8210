/- What the functions of package days answer, off their code: Best, with a set's prices together. -/
import Derived.Test.YtmjogpbdgbgkhaaDoorDaysCodeB
import Derived.Test.YtmjogpbdgbgkhaaDoorNum
namespace Go.Proofs.YtmjogpbdgbgkhaaDoor
open Go.RowKit
set_option linter.unusedVariables false

theorem satV_zero {a : Int} (h : -9223372036854775808 ≤ a ∧ a ≤ 9223372036854775807) : satV a 0 = a := by
  unfold satV
  rw [Int.add_zero, fitB_iff.2 h, if_pos rfl]
/-- One day's price; nothing beyond the prices. -/
def priceAt (ps : List Int) (x : Nat) : Int := ps.getD x 0
theorem addPrice_sat (ps : List Int) {acc : Int} (x : Nat) (h : -9223372036854775808 ≤ acc ∧ acc ≤ 9223372036854775807) : addPrice ps acc (x : Int) = satV acc (ps.getD x 0) := by
  unfold addPrice
  by_cases hx : x < ps.length
  · rw [if_pos (by omega), Int.toNat_natCast]
  · rw [if_neg (by omega), List.getD_eq_getElem?_getD, List.getElem?_eq_none (by omega)]
    exact (satV_zero h).symm
theorem of_price (C : Option Addr) (m d : Nat) (ps : List Int) (w : World) (hp : Ints w C m ps) (x : Nat) (hx : x < 64) (hm : m ≤ 1000) :
    Calls Tryd.prog 39 #[.slice C m d, .int .i64 x] w fun e w' => e = .returned (.int .i64 (ps.getD x 0)) ∧ w' = w := by
  by_cases h : x < m
  · obtain ⟨b, off, rfl, hcs⟩ := hp.2 (by omega)
    have hc := hcs x h
    generalize ps.getD x 0 = y at *
    clear hcs hp
    go_enter Tryd.func39, Tryd.ntmps39
    go_wp2
    go_ret
    exact ⟨rfl, rfl⟩
  · have e : ps.getD x 0 = 0 := by rw [List.getD_eq_getElem?_getD, List.getElem?_eq_none (by rw [hp.1]; omega)]; rfl
    rw [e]
    clear hp e
    go_enter Tryd.func39, Tryd.ntmps39
    go_wp2
    go_ret
    exact ⟨rfl, rfl⟩
/-- How many days may still come. -/
def downM (v : Value) : Nat := if intOf v < 0 then 0 else 65 - (intOf v).toNat
theorem downM_lt {y z : Int} (h : z < 0 ∨ y < z) (h0 : 0 ≤ y) (h1 : y < 64) : downM (.int .i64 z) < downM (.int .i64 y) := by
  unfold downM
  rw [if_neg (show ¬ intOf (.int .i64 y) < 0 by show ¬ y < 0; omega)]
  show (if z < 0 then 0 else 65 - z.toNat) < 65 - y.toNat
  split <;> omega
/-- The prices, as a value: the method of one row. -/
def ofV (C : Option Addr) (m d : Nat) : Value := .func (.func 39) #[.slice C m d] #[]
set_option maxHeartbeats 2000000 in
theorem together_code (s : Nat) (hs : s < 2 ^ 64) (C : Option Addr) (m d : Nat) (ps : List Int) (w : World) (hT : Tab w) (hp : Ints w C m ps) (hm : m ≤ 1000) (hw : ∀ k, -9223372036854775808 ≤ ps.getD k 0 ∧ ps.getD k 0 ≤ 9223372036854775807) :
    Calls Tryd.prog 38 #[.int .u64 s, ofV C m d] w fun e w' => e = .returned (.int .i64 (priceI s ps)) ∧ Below w.heap.size w w' := by
  have e : priceI s ps = sumPrice ps (allI s) := rfl
  rw [e]
  have c3 := fun W hw => next_code s 0 W hw hs (by decide)
  have c4 := fun (k : Nat) (hk : k < (allI s).length) W hw => next_code s ((allI s).getD k 0 + 1) W hw hs (wf_iff.2 (by have := allI_mem hk; omega))
  rw [next_first] at c3
  have hmem := fun (k : Nat) (hk : k < (allI s).length) => allI_mem (s := s) hk
  have hnx := fun (k : Nat) (hk : k < (allI s).length) => next_next (s := s) hk
  have hneg := fun (k : Nat) => getD_neg (xs := allI s) (k := k) (fun j hj => (allI_mem hj).1)
  have hinc := fun (k : Nat) (h : k + 1 < (allI s).length) => allI_lt (s := s) (i := k) (j := k + 1) (by omega) h
  obtain ⟨n, hn⟩ : ∃ n, (allI s).length = n := ⟨_, rfl⟩
  rw [hn] at c4 hmem hnx hneg hinc
  have HINC := Go.Lib.hid hinc
  clear hinc
  have c6 := fun k hk W hw => (hnx k hk) ▸ c4 k hk W hw
  have HNN := Go.Lib.hid hn
  have HMEM := Go.Lib.hid hmem
  have HNEG := Go.Lib.hid hneg
  have C6 := Go.Lib.hid c6
  have TT := Go.Lib.hid hT
  have HP := Go.Lib.hid hp
  have HW := Go.Lib.hid hw
  clear hn hs c4 c6 hmem hneg hnx e hT hp hw
  generalize allI s = xs at *
  unfold ofV
  go_enter Tryd.func38, Tryd.ntmps38
  go_wp2_with (go_at_call 20; (with_reducible refine (c3 _ TT.out).mono ?_); rintro e x1 ⟨rfl, hb⟩)
  have CC := Go.Lib.hid hb
  clear hb c3
  go_loopw [5, 6] (fun sv dv wr => ∃ k : Nat, k ≤ n ∧ sv = .int .i64 (sumPrice ps (xs.take k)) ∧ dv = .int .i64 (xs.getD k (-1)) ∧ Below w.heap.size w wr) (fun _ dv _ => downM dv)
  case atStart => exact ⟨0, Nat.zero_le _, rfl, rfl, CC.out⟩
  case round =>
    obtain ⟨k, hk, rfl, rfl, B⟩ := hrel
    by_cases hlt : k < n
    · have e1 := (HNEG.out k).2 hlt
      have hm2 := HMEM.out k hlt
      have c6 := C6.out k hlt
      have HS := Go.Lib.hid (sumPrice_succ ps xs (k := k) (by rw [HNN.out]; exact hlt))
      have hrg := sumPrice_rng ps (xs.take k)
      rw [e1]
      obtain ⟨y, hy⟩ : ∃ y : Nat, xs.getD k 0 = (y : Int) := ⟨(xs.getD k 0).toNat, by omega⟩
      rw [hy] at hm2 c6 HS ⊢
      obtain ⟨acc, hacc⟩ : ∃ acc, sumPrice ps (xs.take k) = acc := ⟨_, rfl⟩
      rw [hacc] at HS hrg ⊢
      have HE : Hid (addPrice ps acc (y : Int) = satV acc (ps.getD y 0)) := addPrice_sat ps y hrg
      have wacc : (Lit.int .i64 acc).wf = true := wf_iff.2 hrg
      have hy64 : y < 64 := by omega
      have wz : (Lit.int .i64 (ps.getD y 0)).wf = true := wf_iff.2 (HW.out y)
      have cp := fun W h => of_price C m d ps W h y hy64 hm
      have HLT : Hid (xs.getD (k + 1) (-1) < 0 ∨ (y : Int) < xs.getD (k + 1) (-1)) := by
        rcases Nat.lt_or_ge (k + 1) n with h | h
        · refine .inr ?_
          have h1 := HINC.out k h
          rw [← (HNEG.out (k + 1)).2 h, hy] at h1
          exact h1
        · exact .inl ((HNEG.out (k + 1)).1.2 h)
      generalize ps.getD y 0 = z at *
      have B2 := Go.Lib.hid B
      clear e1 hy hacc hrg
      go_wp2_with (first
        | (go_at_call 39; (with_reducible refine (cp _ (HP.out.keep B)).mono ?_); rintro e x4 ⟨rfl, rfl⟩)
        | (go_at_call 41; (with_reducible refine (sat_any _ _ wacc wz _).mono ?_); rintro e x5 ⟨rfl, rfl⟩)
        | (go_at_call 20; (with_reducible refine (c6 _ (TT.out.keep B)).mono ?_); rintro e x6 ⟨rfl, hb⟩; replace B := B.trans (hb.mono B.size); clear hb))
      go_roundw
      case rel => exact ⟨k + 1, by omega, by rw [HS.out, HE.out], rfl, B⟩
      case measure => exact downM_lt HLT.out (by omega) (by omega)
    · obtain rfl : k = n := by omega
      have e1 : xs.getD k (-1) = -1 := by rw [List.getD_eq_getElem?_getD, List.getElem?_eq_none (by rw [HNN.out]; exact Nat.le_refl _)]; rfl
      have e2 : xs.take k = xs := List.take_of_length_le (by rw [HNN.out]; exact Nat.le_refl _)
      rw [e1, e2]
      clear e1 e2
      go_wp2
      go_ret
      exact ⟨rfl, B⟩
set_option maxHeartbeats 1000000 in
theorem best_code : BestOk := by
  intro A C n c m d ls ps w hT ha hp hn hm hl hw
  have hmf : ∀ (fn : Fn) (first cap : Array Value) (w : World), (Instr.makeFunc fn first cap).run Tryd.prog w = .ok (.func fn first cap) w := fun _ _ _ _ => rfl
  have HA := Go.Lib.hid ha
  have HP := Go.Lib.hid hp
  have HL := Go.Lib.hid hl
  have HW := Go.Lib.hid hw
  have TT := Go.Lib.hid hT
  have HM := Go.Lib.hid hm
  clear ha hp hl hw hT hm
  go_enter Tryd.func28, Tryd.ntmps28
  go_wp2
  go_loopw [6, 7, 13] (fun av lv iv wr => ∃ (k : Nat) (a l : Int), k ≤ n ∧ iv = .int .i64 k ∧ av = .int .i64 a ∧ lv = .int .i64 l ∧ bestI ls ps k = (a, l) ∧ Below w.heap.size w wr) (fun _ _ iv _ => n - (intOf iv).toNat)
  case atStart => exact ⟨0, -1, 0, Nat.zero_le _, rfl, rfl, rfl, rfl, Below.refl _ _⟩
  case round =>
    obtain ⟨k, a, l, hk, rfl, rfl, rfl, hb, B⟩ := hrel
    have HBI := Go.Lib.hid hb
    clear hb
    by_cases hlt : k < n
    · obtain ⟨b, off, rfl, hcs⟩ := (HA.out.keep B).2 (by omega)
      have hck := hcs k hlt
      have hs2 : (ls.getD k 0).toNat < 2 ^ 64 := by have := HL.out k; omega
      obtain ⟨s, hs⟩ : ∃ s, (ls.getD k 0).toNat = s := ⟨_, rfl⟩
      have hx : ls.getD k 0 = (s : Int) := by have := HL.out k; omega
      rw [hs] at hs2
      rw [hx] at hck
      have PR := together_code s hs2 C m d ps wr (TT.out.keep B) (HP.out.keep B) HM.out HW.out
      unfold ofV at PR
      obtain ⟨p, hpp⟩ : ∃ p, priceI s ps = p := ⟨_, rfl⟩
      rw [hpp] at PR
      have HE : Hid (priceI (ls.getD k 0).toNat ps = p) := by show _ = _; rw [hs, hpp]
      clear hcs hs hx hpp hs2
      by_cases h1 : a < 0
      · have HU : Hid (bestI ls ps (k + 1) = ((k : Int), p)) := by
          show _ = _
          rw [best_upd (by rw [HBI.out]; exact .inl h1), HE.out]
        go_wp2_with (go_at_call 38; refine PR.mono ?_; rintro e w2 ⟨rfl, hb2⟩; have B2 := B.trans (hb2.mono B.size))
        go_roundw
        case rel => exact ⟨k + 1, _, _, by omega, by go_num, rfl, rfl, HU.out, B2⟩
        case measure => simp [intOf]; omega
      · by_cases h2 : p < l
        · have HU : Hid (bestI ls ps (k + 1) = ((k : Int), p)) := by
            show _ = _
            rw [best_upd (by rw [HBI.out, HE.out]; exact .inr h2), HE.out]
          go_wp2_with (go_at_call 38; refine PR.mono ?_; rintro e w2 ⟨rfl, hb2⟩; have B2 := B.trans (hb2.mono B.size))
          go_roundw
          case rel => exact ⟨k + 1, _, _, by omega, by go_num, rfl, rfl, HU.out, B2⟩
          case measure => simp [intOf]; omega
        · have HU : Hid (bestI ls ps (k + 1) = (a, l)) := by
            show _ = _
            rw [best_stay (by rw [HBI.out, HE.out]; exact not_or.2 ⟨h1, h2⟩), HBI.out]
          go_wp2_with (go_at_call 38; refine PR.mono ?_; rintro e w2 ⟨rfl, hb2⟩; have B2 := B.trans (hb2.mono B.size))
          go_roundw
          case rel => exact ⟨k + 1, _, _, by omega, by go_num, rfl, rfl, HU.out, B2⟩
          case measure => simp [intOf]; omega
    · obtain rfl : k = n := by omega
      go_wp2
      go_ret2
      exact ⟨by rw [HBI.out]; rfl, B⟩
end Go.Proofs.YtmjogpbdgbgkhaaDoor
