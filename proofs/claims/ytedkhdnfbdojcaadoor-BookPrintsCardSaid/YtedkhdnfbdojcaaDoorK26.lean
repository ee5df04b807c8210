import Derived.Test.YtedkhdnfbdojcaaDoorK08
import Derived.RangeFuncBox
section
/- What the document's Decimal answers, off its code. -/
namespace Go.Proofs.YtedkhdnfbdojcaaDoor
open Go.RowKit
set_option linter.unusedVariables false

theorem strL_app (a b : List UInt8) : strL a ++ strL b = strL (a ++ b) := by
  apply ByteArray.ext
  simp [strL]
theorem one_byte (w : World) (d : Nat) : ∀ dst, Tryd.prog.underlying dst = some .string → (convert 45 dst (.slice (some ⟨w.heap.size, 0, none⟩) 1 1)).run Tryd.prog (w.alloc (.cells #[.int .u8 (48 + (d : Int) % 10)] 5)) = .ok (.string (strL [UInt8.ofNat (48 + d % 10)])) (w.alloc (.cells #[.int .u8 (48 + (d : Int) % 10)] 5)) := by
  have hc : ∀ i, i < 1 → (w.alloc (.cells #[.int .u8 (48 + (d : Int) % 10)] 5)).cell? ⟨w.heap.size, 0 + i, none⟩ = some (.int .u8 ([48 + (d : Int) % 10].getD i 0)) := fun i hi => by
    obtain rfl : i = 0 := by omega
    exact (Boxed.new w 5 (.int .u8 (48 + (d : Int) % 10))).cell
  have h := run_convert_bytes_arg (P := Tryd.prog) (w.alloc (.cells #[.int .u8 (48 + (d : Int) % 10)] 5)) 45 5 Tryd.underlying45 Tryd.underlying5 w.heap.size 0 1 1 [48 + (d : Int) % 10] rfl hc
  have e : strOfNums [48 + (d : Int) % 10] = strL [UInt8.ofNat (48 + d % 10)] := by
    rw [← str_bytes]
    congr 1
    simp only [bytesI, List.map_cons, List.map_nil]
    rw [dig_toNat (Nat.mod_lt _ (by decide))]
    rfl
  rwa [e] at h
set_option maxHeartbeats 2000000 in
theorem dec_ref_nat (n : Nat) : ∀ (hn : n ≤ 9223372036854775807) (w : World), Calls Tryd.prog 17 #[.int .i64 n] w fun e w' => e = .returned (.string (strL (decN n))) ∧ Below w.heap.size w w' := by
  induction n using Nat.strongRecOn with
  | _ n ih =>
    intro hn w
    have hcv := one_byte w n
    by_cases h : n < 10
    · have e : decN n = [UInt8.ofNat (48 + n % 10)] := by rw [decN_small h, Nat.mod_eq_of_lt h]
      rw [e]
      generalize strL [UInt8.ofNat (48 + n % 10)] = s at *
      clear ih e
      go_enter Tryd.func17, Tryd.ntmps17
      go_wp2
      go_ret
      exact ⟨rfl, below_alloc w _⟩
    · have e : strL (decN n) = strL (decN (n / 10)) ++ strL [UInt8.ofNat (48 + n % 10)] := by rw [strL_app, ← decN_big h]
      have CR := fun W => ih (n / 10) (by omega) (by omega) W
      rw [show ((n / 10 : Nat) : Int) = (n : Int) / 10 by omega] at CR
      have hs1 : (strL [UInt8.ofNat (48 + n % 10)]).size ≤ 100 := by rw [strL_size]; simp
      have hr1 : (strL (decN (n / 10))).size ≤ 100 := by
        rw [strL_size]
        have := decN_len_lt (n := n / 10) (k := 18) (by omega)
        omega
      rw [e]
      generalize strL [UInt8.ofNat (48 + n % 10)] = s at *
      generalize strL (decN (n / 10)) = r at *
      clear ih e
      go_enter Tryd.func17, Tryd.ntmps17
      go_wp2_with (go_at_call 17; refine (CR _).mono ?_; rintro e x1 ⟨rfl, hb⟩)
      go_ret
      exact ⟨rfl, (below_alloc w _).trans (hb.mono (by simp))⟩
set_option maxHeartbeats 2000000 in
theorem dec_ref (n : Int) (wn : -9223372036854775808 ≤ n ∧ n ≤ 9223372036854775807) (w : World) :
    Calls Tryd.prog 17 #[.int .i64 n] w fun e w' => e = .returned (.string (strL (decI n))) ∧ Below w.heap.size w w' := by
  obtain ⟨w0, w1⟩ := wn
  by_cases hneg : n < 0
  · by_cases hmin : n = -9223372036854775808
    · have e : strL (decI n) = ⟨#[45, 57, 50, 50, 51, 51, 55, 50, 48, 51, 54, 56, 53, 52, 55, 55, 53, 56, 48, 56]⟩ := by
        subst hmin
        rw [decI_neg (by decide)]
        rw [show (-9223372036854775808 : Int).natAbs = 9223372036854775808 by rfl]
        iterate 18 rw [decN_big (by decide)]
        rw [decN_small (by decide)]
        rfl
      rw [e]
      clear e
      go_enter Tryd.func17, Tryd.ntmps17
      go_wp2
      go_ret
      exact ⟨rfl, Below.refl _ _⟩
    · obtain ⟨m, rfl⟩ : ∃ m : Nat, n = -(m : Int) := ⟨n.natAbs, by omega⟩
      have CR := fun W => dec_ref_nat m (by omega) W
      have e : strL (decI (-(m : Int))) = strL [45] ++ strL (decN m) := by
        rw [decI_neg hneg, strL_app]
        rw [show (-(m : Int)).natAbs = m by omega]
        rfl
      have e45 : strL [45] = ⟨#[45]⟩ := rfl
      have hs1 : (strL (decN m)).size ≤ 100 := by
        rw [strL_size]
        have := decN_len_lt (n := m) (k := 18) (by omega)
        omega
      rw [e, e45]
      generalize strL (decN m) = s at *
      clear e e45
      have hmb : ((-(m : Int)) == -9223372036854775808) = false := beq_eq_false_iff_ne.2 hmin
      go_enter Tryd.func17, Tryd.ntmps17
      go_wp2_with (go_at_call 17; refine (CR _).mono ?_; rintro e x1 ⟨rfl, hb⟩)
      go_ret
      exact ⟨rfl, hb⟩
  · obtain ⟨m, rfl⟩ : ∃ m : Nat, n = (m : Int) := ⟨n.toNat, by omega⟩
    rw [decI_nat]
    exact dec_ref_nat m (by omega) w
end Go.Proofs.YtedkhdnfbdojcaaDoor
end
