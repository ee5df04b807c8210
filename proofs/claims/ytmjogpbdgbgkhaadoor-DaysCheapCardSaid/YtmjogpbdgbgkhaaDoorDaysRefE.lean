/- What the document's functions Best and Parse on sets of days answer. -/
import Derived.Test.YtmjogpbdgbgkhaaDoorDaysRefC
import Derived.Test.YtmjogpbdgbgkhaaDoorDaysRefD
namespace Go.Proofs.YtmjogpbdgbgkhaaDoor
open Go.RowKit
set_option linter.unusedVariables false

theorem best_upd {ls ps : List Int} {k : Nat} (h : (bestI ls ps k).1 < 0 ∨ priceI (ls.getD k 0).toNat ps < (bestI ls ps k).2) : bestI ls ps (k + 1) = ((k : Int), priceI (ls.getD k 0).toNat ps) := by rw [bestI, if_pos h]
theorem best_stay {ls ps : List Int} {k : Nat} (h : ¬ ((bestI ls ps k).1 < 0 ∨ priceI (ls.getD k 0).toNat ps < (bestI ls ps k).2)) : bestI ls ps (k + 1) = bestI ls ps k := by rw [bestI, if_neg h]

set_option maxHeartbeats 1000000 in
theorem best_ref (A C : Option Addr) (n c m d : Nat) (ls ps : List Int) (w : World) (ha : Nums .u64 w A n ls) (hp : Ints w C m ps) (hn : n ≤ maxLen) (hm : m ≤ maxLen) (hl : ∀ k, 0 ≤ ls.getD k 0 ∧ ls.getD k 0 ≤ 18446744073709551615)
    (hw : ∀ k, -9223372036854775808 ≤ ps.getD k 0 ∧ ps.getD k 0 ≤ 9223372036854775807) :
    Calls Tryd.prog 29 #[.slice A n c, .slice C m d] w fun e w' => e = .returned (.tuple #[.int .i64 (bestI ls ps n).1, .int .i64 (bestI ls ps n).2]) ∧ Below w.heap.size w w' := by
  have hn' := hn
  unfold maxLen at hn'
  have HA := Go.Lib.hid ha
  have HP := Go.Lib.hid hp
  have HL := Go.Lib.hid hl
  have HW := Go.Lib.hid hw
  have HM := Go.Lib.hid hm
  clear ha hp hl hw hm hn
  go_enter Tryd.func29, Tryd.ntmps29
  go_wp2
  go_loopw [6, 7, 8] (fun av lv iv wr => ∃ (k : Nat) (a l : Int), k ≤ n ∧ iv = .int .i64 k ∧ av = .int .i64 a ∧ lv = .int .i64 l ∧ bestI ls ps k = (a, l) ∧ Below w.heap.size w wr) (fun _ _ iv _ => n - (intOf iv).toNat)
  case atStart => exact ⟨0, -1, 0, Nat.zero_le _, rfl, rfl, rfl, rfl, Below.refl _ _⟩
  case round =>
    obtain ⟨k, a, l, hk, rfl, rfl, rfl, hb, B⟩ := hrel
    have HBI := Go.Lib.hid hb
    clear hb
    by_cases hlt : k < n
    · obtain ⟨b, off, rfl, hcs⟩ := (HA.out.keep B).2 (by omega)
      have hck := hcs k hlt
      have hs2 : (ls.getD k 0).toNat < 2 ^ 64 := by have := HL.out k; omega
      obtain ⟨s, hs⟩ : ∃ s, (ls.getD k 0).toNat = s := ⟨_, rfl⟩
      have hx : ls.getD k 0 = (s : Int) := by have := HL.out k; omega
      rw [hs] at hs2
      rw [hx] at hck
      have PR := price_ref s hs2 C m d ps wr (HP.out.keep B) HM.out HW.out
      obtain ⟨p, hpp⟩ : ∃ p, priceI s ps = p := ⟨_, rfl⟩
      rw [hpp] at PR
      have HE : Hid (priceI (ls.getD k 0).toNat ps = p) := by show _ = _; rw [hs, hpp]
      clear hcs hs hx hs2 hpp
      by_cases h1 : a < 0
      · have HU : Hid (bestI ls ps (k + 1) = ((k : Int), p)) := by
          show _ = _
          rw [best_upd (by rw [HBI.out]; exact .inl h1), HE.out]
        go_wp2_with (go_at_call 30; refine PR.mono ?_; rintro e w2 ⟨rfl, hb2⟩; have B2 := B.trans (hb2.mono B.size))
        go_roundw
        case rel => exact ⟨k + 1, _, _, by omega, by go_num, rfl, rfl, HU.out, B2⟩
        case measure => simp [intOf]; omega
      · by_cases h2 : p < l
        · have HU : Hid (bestI ls ps (k + 1) = ((k : Int), p)) := by
            show _ = _
            rw [best_upd (by rw [HBI.out, HE.out]; exact .inr h2), HE.out]
          go_wp2_with (go_at_call 30; refine PR.mono ?_; rintro e w2 ⟨rfl, hb2⟩; have B2 := B.trans (hb2.mono B.size))
          go_roundw
          case rel => exact ⟨k + 1, _, _, by omega, by go_num, rfl, rfl, HU.out, B2⟩
          case measure => simp [intOf]; omega
        · have HU : Hid (bestI ls ps (k + 1) = (a, l)) := by
            show _ = _
            rw [best_stay (by rw [HBI.out, HE.out]; exact not_or.2 ⟨h1, h2⟩), HBI.out]
          go_wp2_with (go_at_call 30; refine PR.mono ?_; rintro e w2 ⟨rfl, hb2⟩; have B2 := B.trans (hb2.mono B.size))
          go_roundw
          case rel => exact ⟨k + 1, _, _, by omega, by go_num, rfl, rfl, HU.out, B2⟩
          case measure => simp [intOf]; omega
    · obtain rfl : k = n := by omega
      go_wp2
      go_ret2
      exact ⟨by rw [HBI.out]; rfl, B⟩

/-! ### Parse -/
/-- The signs are all 0 and 1. -/
def okB (l : List UInt8) : Bool := l.all fun c => c == 48 || c == 49
/-- The bits of a text. -/
def bitsT (l : List UInt8) : List Int := l.map fun c => (c.toNat : Int) - 48
/-- What a text is read as: the set, and the error's number. -/
def parseV (l : List UInt8) : Nat × Int := if l = [] ∨ okB l = false then (0, 2) else if 64 < l.length then (0, 3) else (num2 (bitsT l), 0)
theorem okB_take {l : List UInt8} {k : Nat} (hk : k < l.length) (h : okB (l.take k) = true) (hc : l[k] = 48 ∨ l[k] = 49) : okB (l.take (k + 1)) = true := by
  unfold okB at h ⊢
  rw [List.take_succ_eq_append_getElem hk, List.all_append, h]
  rcases hc with e | e <;> simp [e]
theorem okB_bad {l : List UInt8} {k : Nat} (hk : k < l.length) (hc : ¬ (l[k] = 48 ∨ l[k] = 49)) : okB l = false := by
  unfold okB
  rw [List.all_eq_false]
  exact ⟨l[k], List.getElem_mem hk, by simpa using hc⟩
theorem num2_zeros (xs : List Int) (n : Nat) : num2 (xs ++ List.replicate n 0) = num2 xs := by
  induction xs with
  | nil =>
    induction n with
    | zero => rfl
    | succ n ih => simp only [List.nil_append, List.replicate_succ, num2] at ih ⊢; rw [ih]; rfl
  | cons b r ih => simp only [List.cons_append, num2, ih]
theorem bitsT_len (l : List UInt8) : (bitsT l).length = l.length := by simp [bitsT]
theorem bitsT_bin {l : List UInt8} (h : okB l = true) : Bin (bitsT l) := by
  intro b hb
  obtain ⟨c, hc, rfl⟩ := List.mem_map.1 hb
  have := (List.all_eq_true.1 h) c hc
  simp at this
  rcases this with rfl | rfl
  · exact .inl rfl
  · exact .inr rfl
theorem byte_48 {c : UInt8} : (c.toNat : Int) = 48 ↔ c = 48 := by
  constructor
  · intro h; apply UInt8.toNat_inj.1; show c.toNat = 48; omega
  · rintro rfl; rfl
theorem byte_49 {c : UInt8} : (c.toNat : Int) = 49 ↔ c = 49 := by
  constructor
  · intro h; apply UInt8.toNat_inj.1; show c.toNat = 49; omega
  · rintro rfl; rfl
theorem bits_fill (l : List UInt8) (k : Nat) (hk : k < l.length) (hl : l.length ≤ 64) :
    ((bitsT l).take (k + 1) ++ List.replicate (64 - (k + 1)) 0) = ((bitsT l).take k ++ List.replicate (64 - k) 0).set k ((l[k].toNat : Int) - 48) := by
  have hkb : k < (bitsT l).length := by rw [bitsT_len]; exact hk
  rw [List.take_succ_eq_append_getElem hkb, List.append_assoc, List.set_append_right _ _ (by rw [List.length_take_of_le (by omega)]; exact Nat.le_refl _), List.length_take_of_le (by omega), Nat.sub_self]
  congr 1
  rw [show 64 - k = (64 - (k + 1)) + 1 by omega, List.replicate_succ]
  simp [bitsT]

set_option maxHeartbeats 1000000 in
theorem parse_ref_bad (t : ByteArray) (w : World) (hs : t.size ≤ maxLen) (h : t.data.toList = [] ∨ okB t.data.toList = false) :
    Calls Tryd.prog 27 #[.string t] w fun e w' => e = .returned (.tuple #[.int .u64 0, .int .i64 2]) ∧ Below w.heap.size w w' := by
  unfold maxLen at hs
  have hsz : t.data.toList.length = t.size := Array.length_toList
  by_cases h0 : t.size = 0
  · have h0' : ((t.size : Int) == 0) = true := beq_iff_eq.2 (by omega)
    clear h hsz h0
    go_enter Tryd.func27, Tryd.ntmps27
    go_wp2
    go_ret2
    exact ⟨rfl, Below.refl _ _⟩
  · have hb : okB t.data.toList = false := h.resolve_left (fun e => h0 (by have := congrArg List.length e; rw [hsz] at this; exact this))
    have h0' : ((t.size : Int) == 0) = false := beq_eq_false_iff_ne.2 (by omega)
    have HB := Go.Lib.hid hb
    have HS := Go.Lib.hid hsz
    clear h hb hsz h0
    go_enter Tryd.func27, Tryd.ntmps27
    go_wp2
    go_loop [4] (fun iv => ∃ k : Nat, k ≤ t.size ∧ iv = .int .i64 k ∧ okB (t.data.toList.take k) = true) (fun iv => t.size - (intOf iv).toNat)
    case atStart => exact ⟨0, Nat.zero_le _, rfl, by simp [okB]⟩
    case round =>
      obtain ⟨k, hk, rfl, hok⟩ := hrel
      by_cases hlt : k < t.size
      · have HO := Go.Lib.hid hok
        clear hok
        by_cases hc : (t[k].toNat : Int) = 48 ∨ (t[k].toNat : Int) = 49
        · have HC : Hid (t.data.toList[k]'(by rw [HS.out]; exact hlt) = 48 ∨ t.data.toList[k]'(by rw [HS.out]; exact hlt) = 49) := hc.imp byte_48.1 byte_49.1
          have HT := okB_take (by rw [HS.out]; exact hlt) HO.out HC.out
          have HTT := Go.Lib.hid HT
          clear HT
          rcases hc with hc | hc
          · have b0 : ((t[k].toNat : Int) != 48) = false := by simpa using hc
            clear hc
            go_wp2
            go_round
            case rel => exact ⟨k + 1, by omega, by go_num, HTT.out⟩
            case measure => simp [intOf]; omega
          · have b0 : ((t[k].toNat : Int) != 48) = true := by rw [hc]; rfl
            have b1 : ((t[k].toNat : Int) != 49) = false := by simpa using hc
            clear hc
            go_wp2
            go_round
            case rel => exact ⟨k + 1, by omega, by go_num, HTT.out⟩
            case measure => simp [intOf]; omega
        · have b0 : ((t[k].toNat : Int) != 48) = true := by simpa using (not_or.1 hc).1
          have b1 : ((t[k].toNat : Int) != 49) = true := by simpa using (not_or.1 hc).2
          clear hc
          go_wp2
          go_ret2
          exact ⟨rfl, Below.refl _ _⟩
      · exfalso
        rw [List.take_of_length_le (by rw [HS.out]; omega), HB.out] at hok
        cases hok

set_option maxHeartbeats 1000000 in
theorem parse_ref_good (t : ByteArray) (w : World) (hs : t.size ≤ maxLen) (hne : 0 < t.size) (hb : okB t.data.toList = true) :
    Calls Tryd.prog 27 #[.string t] w fun e w' => e = .returned (.tuple #[.int .u64 ((parseV t.data.toList).1 : Int), .int .i64 (parseV t.data.toList).2]) ∧ Below w.heap.size w w' := by
  unfold maxLen at hs
  obtain ⟨i0, hi0, hz0, hz1, hz2⟩ := info_parts info_int
  have hsz : t.data.toList.length = t.size := Array.length_toList
  have h0' : ((t.size : Int) == 0) = false := beq_eq_false_iff_ne.2 (by omega)
  have hbyte : ∀ k (h : k < t.size), (t[k].toNat : Int) = 48 ∨ (t[k].toNat : Int) = 49 := by
    intro k h
    have := (List.all_eq_true.1 hb) (t.data.toList[k]'(by rw [hsz]; exact h)) (List.getElem_mem _)
    simp only [Bool.or_eq_true, beq_iff_eq] at this
    exact this.imp byte_48.2 byte_49.2
  have hv : parseV t.data.toList = if 64 < t.size then (0, 3) else (num2 (bitsT t.data.toList), 0) := by
    unfold parseV
    rw [if_neg (not_or.2 ⟨fun e => by have h1 := congrArg List.length e; rw [hsz] at h1; exact absurd h1 (by show t.size ≠ 0; omega), by rw [hb]; decide⟩), hsz]
  obtain ⟨rs, re, hr⟩ : ∃ rs re, parseV t.data.toList = (rs, re) := ⟨_, _, rfl⟩
  rw [hr]
  rw [hr] at hv
  have HR := Go.Lib.hid hv
  clear hr
  have HB := Go.Lib.hid hb
  have HS := Go.Lib.hid hsz
  have HY := Go.Lib.hid hbyte
  clear hb hsz hbyte hv
  go_enter Tryd.func27, Tryd.ntmps27
  go_wp2
  go_loop [4] (fun iv => ∃ k : Nat, k ≤ t.size ∧ iv = .int .i64 k) (fun iv => t.size - (intOf iv).toNat)
  case atStart => exact ⟨0, Nat.zero_le _, rfl⟩
  case round =>
    obtain ⟨k, hk, rfl⟩ := hrel
    by_cases hlt : k < t.size
    · rcases HY.out k hlt with hc | hc
      · have b0 : ((t[k].toNat : Int) != 48) = false := by simpa using hc
        clear hc
        go_wp2
        go_round
        case rel => exact ⟨k + 1, by omega, by go_num⟩
        case measure => simp [intOf]; omega
      · have b0 : ((t[k].toNat : Int) != 48) = true := by rw [hc]; rfl
        have b1 : ((t[k].toNat : Int) != 49) = false := by simpa using hc
        clear hc
        go_wp2
        go_round
        case rel => exact ⟨k + 1, by omega, by go_num⟩
        case measure => simp [intOf]; omega
    · by_cases h64 : 64 < t.size
      · go_wp2
        go_ret2
        have hv := HR.out
        rw [if_pos h64] at hv
        obtain ⟨rfl, rfl⟩ := Prod.mk.inj hv
        exact ⟨rfl, Below.refl _ _⟩
      · go_wp2_with (at_make; refine wpList_make_full _ rfl _ _ 25 rfl w.heap.size 3 i0 (.int .i64 0) 1 Tryd.underlying25 hi0 hz0 hz1 _ _ _ _ 64 rfl rfl (by omega) (by omega) (by rw [hz2]; omega) (by unfold maxLen; omega) (Nat.le_refl _) ?_; intro wm hown hgm)
        have M := OwnAt.made hown
        have B : Below w.heap.size w wm := (Below.refl _ _).grown hgm (Nat.le_refl _) (by simp)
        clear hown hgm
        go_loopw [6] (fun iv wr => ∃ j : Nat, j ≤ t.size ∧ iv = .int .i64 j ∧ OwnAt wr w.heap.size w.heap.size 64 ((bitsT t.data.toList).take j ++ List.replicate (64 - j) 0) ∧ Below w.heap.size w wr) (fun iv _ => t.size - (intOf iv).toNat)
        case atStart => exact ⟨0, Nat.zero_le _, rfl, by simpa using M, B⟩
        case round =>
          clear M B
          obtain ⟨j, hj, rfl, M, B⟩ := hrel
          by_cases hlj : j < t.size
          · obtain ⟨c0, c1⟩ := M.cellIn (j := j) (by omega)
            have MM := Go.Lib.hid M
            have HF := Go.Lib.hid (bits_fill t.data.toList j (by rw [HS.out]; exact hlj) (by rw [HS.out]; omega))
            have hbd : 48 ≤ (t[j].toNat : Int) ∧ (t[j].toNat : Int) ≤ 49 := by rcases HY.out j hlj with e | e <;> omega
            obtain ⟨b0, b1⟩ := hbd
            obtain ⟨old, hold⟩ : ∃ old, ((bitsT t.data.toList).take j ++ List.replicate (64 - j) 0).getD j 0 = old := ⟨_, rfl⟩
            rw [hold] at c0
            clear M hold
            go_wp2
            go_roundw
            case rel => exact ⟨j + 1, by omega, by go_num, by rw [HF.out]; exact MM.out.put j _, B.setCell (by simp) _⟩
            case measure => simp [intOf]; omega
          · have e : (bitsT t.data.toList).take j = bitsT t.data.toList := List.take_of_length_le (by rw [bitsT_len, HS.out]; omega)
            rw [e] at M
            have MM := Go.Lib.hid M
            have HN : Hid (num2 (bitsT t.data.toList ++ List.replicate (64 - j) 0) = num2 (bitsT t.data.toList)) := num2_zeros _ _
            have HBI : Hid (Bin (bitsT t.data.toList ++ List.replicate (64 - j) 0)) := by
              intro x hx
              rcases List.mem_append.1 hx with h | h
              · exact bitsT_bin HB.out x h
              · exact .inl (List.mem_replicate.1 h).2
            clear M e
            go_wp2_with (go_at_call 34; refine (number_any _ _ _ _ MM.out.ints HBI.out).mono ?_; rintro e w' ⟨rfl, rfl⟩)
            go_ret2
            have hv := HR.out
            rw [if_neg h64] at hv
            obtain ⟨rfl, rfl⟩ := Prod.mk.inj hv
            exact ⟨by rw [← HN.out]; rfl, B⟩

/-- What a text is read as. -/
theorem parse_ref (t : ByteArray) (w : World) (hs : t.size ≤ maxLen) :
    Calls Tryd.prog 27 #[.string t] w fun e w' => e = .returned (.tuple #[.int .u64 ((parseV t.data.toList).1 : Int), .int .i64 (parseV t.data.toList).2]) ∧ Below w.heap.size w w' := by
  by_cases h : t.data.toList = [] ∨ okB t.data.toList = false
  · have e : parseV t.data.toList = (0, 2) := by unfold parseV; rw [if_pos h]
    rw [e]
    exact parse_ref_bad t w hs h
  · obtain ⟨h1, h2⟩ := not_or.1 h
    refine parse_ref_good t w hs ?_ (by simpa using h2)
    rcases Nat.eq_zero_or_pos t.size with h0 | h0
    · exact absurd (List.eq_nil_of_length_eq_zero ((Array.length_toList (xs := t.data)).trans h0)) h1
    · exact h0
end Go.Proofs.YtmjogpbdgbgkhaaDoor
