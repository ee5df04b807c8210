/- The walks of layer 2's laws DaysNexts and DaysTexts, off what the functions of package days answer. -/
import Derived.Test.YtmjogpbdgbgkhaaDoorDaysApi
namespace Go.Proofs.YtmjogpbdgbgkhaaDoor
open Go.RowKit
set_option linter.unusedVariables false

set_option maxHeartbeats 2000000 in
theorem nexts_any (HH : HasOk) (HL : LenOk) (HA : AllOk) (HN : NextOk) (HO : OfOk) (HT : TextOk) (s : Nat) (hs : s < 2 ^ 64) (w : World) (ht : Tab w) :
    Calls Tryd.prog 8 #[.int .u64 s] w fun e w' => e = .returned (.bool true) ∧ Below w.heap.size w w' := by
  have TT := Go.Lib.hid ht
  clear ht
  have L := lives2_any HO HT HN
  have c1 := fun W => HA s W hs
  have c2 := fun W => HL s W hs
  have c3 := fun W hw => HN s 0 W hw hs (by decide)
  have c4 := fun (k : Nat) (hk : k < (allI s).length) W hw => HN s ((allI s).getD k 0 + 1) W hw hs (wf_iff.2 (by have := allI_mem hk; omega))
  have c5 := fun (k : Nat) (hk : k < (allI s).length) W => HH s ((allI s).getD k 0) W hs (wf_iff.2 (by have := allI_mem hk; omega))
  rw [next_first] at c3
  have hmem := fun (k : Nat) (hk : k < (allI s).length) => allI_mem (s := s) hk
  have hnx := fun (k : Nat) (hk : k < (allI s).length) => next_next (s := s) hk
  have hneg := fun (k : Nat) => getD_neg (xs := allI s) (k := k) (fun j hj => (allI_mem hj).1)
  have hl : (allI s).length ≤ 64 := upTo_len s 64
  obtain ⟨n, hn⟩ : ∃ n, (allI s).length = n := ⟨_, rfl⟩
  rw [hn] at c2 c4 c5 hmem hnx hneg hl
  have c6 := fun k hk W hw => (hnx k hk) ▸ c4 k hk W hw
  have c7 := fun k hk W => (hmem k hk).2.2 ▸ c5 k hk W
  have HNN := Go.Lib.hid hn
  have HMEM := Go.Lib.hid hmem
  have HNEG := Go.Lib.hid hneg
  have C6 := Go.Lib.hid c6
  have C7 := Go.Lib.hid c7
  clear hn hs HH HL HA HN HO HT c4 c5 c6 c7 hmem hneg hnx
  generalize allI s = xs at *
  have CW := Below.refl w.heap.size w
  go_enter Tryd.func8, Tryd.ntmps8
  go_wp2_with (first
    | (go_at_call 12; (with_reducible refine (c1 _).mono ?_); rintro e x1 ⟨A1, k1, rfl, M1, _, hb⟩; rw [HNN.out] at M1 ⊢; replace CW := CW.trans (hb.mono CW.size); clear hb)
    | (go_at_call 20; (with_reducible refine (c3 _ (TT.out.keep CW)).mono ?_); rintro e x2 ⟨rfl, hb⟩; replace M1 := M1.keep hb; replace CW := CW.trans (hb.mono CW.size); clear hb))
  have MM := Go.Lib.hid M1
  have CC := Go.Lib.hid CW
  clear M1 CW c1 c3
  go_loopw [5, 6] (fun av dv wr => ∃ k : Nat, k ≤ n ∧ av = .int .i64 k ∧ dv = .int .i64 (xs.getD k (-1)) ∧ Below x2.heap.size x2 wr) (fun av _ _ => n - (intOf av).toNat)
  case atStart => exact ⟨0, Nat.zero_le _, rfl, rfl, Below.refl _ _⟩
  case round =>
    obtain ⟨k, hk, rfl, rfl, B⟩ := hrel
    by_cases hlt : k < n
    · have e1 := (HNEG.out k).2 hlt
      have hm := HMEM.out k hlt
      obtain ⟨b, off, rfl, hcs⟩ := (MM.out.keep B).2 (by omega)
      have hck := hcs k hlt
      have c6 := C6.out k hlt
      have c7 := C7.out k hlt
      rw [e1]
      generalize xs.getD k 0 = y at *
      obtain ⟨y0, y1, _⟩ := hm
      clear e1 hcs
      go_wp2_with (first
        | (go_at_call 14; (with_reducible refine (c7 _).mono ?_); rintro e x4 ⟨rfl, hb⟩; replace B := B.trans (hb.mono B.size); clear hb)
        | (go_at_call 20; (with_reducible refine (c6 _ (TT.out.keep (CC.out.trans (B.mono CC.out.size)))).mono ?_); rintro e x5 ⟨rfl, hb⟩; replace B := B.trans (hb.mono B.size); clear hb))
      go_roundw
      case rel => exact ⟨k + 1, by omega, by go_num, rfl, B⟩
      case measure => simp [intOf]; omega
    · obtain rfl : k = n := by omega
      have e1 : xs.getD k (-1) = -1 := by rw [List.getD_eq_getElem?_getD, List.getElem?_eq_none (by rw [HNN.out]; exact Nat.le_refl _)]; rfl
      rw [e1]
      have CW := CC.out.trans (B.mono CC.out.size)
      clear e1 B
      go_wp2_with (first
        | (go_at_call 19; (with_reducible refine (c2 _).mono ?_); rintro e x6 ⟨rfl, hb⟩; replace CW := CW.trans (hb.mono CW.size); clear hb)
        | (go_at_call 22; refine (L _ (TT.out.keep CW)).mono ?_; rintro e x13 ⟨rfl, hb⟩; replace CW := CW.trans (hb.mono CW.size); clear hb))
      go_ret
      exact ⟨rfl, CW⟩

set_option maxHeartbeats 2000000 in
theorem texts_out (HP : ParseOk) (HT : TextOk) (L : ∀ w, Tab w → Calls Tryd.prog 22 #[] w fun e w' => e = .returned (.bool true) ∧ Below w.heap.size w w') (s : Nat) (hs : s < 2 ^ 64) (n : Int) (wn : (Lit.int .i64 n).wf = true) (hn : n < 1 ∨ 64 < n) (w : World) (ht : Tab w) :
    Calls Tryd.prog 5 #[.int .u64 s, .int .i64 n] w fun e w' => e = .returned (.bool true) ∧ Below w.heap.size w w' := by
  have TT := Go.Lib.hid ht
  clear ht
  have e : textB s n = ⟨#[]⟩ := textB_none (by omega)
  have c1 := fun W => HT s n W hs wn
  have c2 := text_ref s hs n
  have c3 := fun W => HP ⟨#[]⟩ W (by decide)
  have e3 : parseV (⟨#[]⟩ : ByteArray).data.toList = (0, 2) := rfl
  rw [e] at c1 c2
  rw [e3] at c3
  clear e e3 hs wn HP HT
  have CW := Below.refl w.heap.size w
  rcases hn with hn | hn
  all_goals
    go_enter Tryd.func5, Tryd.ntmps5
    go_wp2_with (first
      | (go_at_call 24; (with_reducible refine (c1 _).mono ?_); rintro e x1 ⟨rfl, hb⟩; replace CW := CW.trans (hb.mono CW.size); clear hb)
      | (go_at_call 25; (with_reducible refine (c2 _).mono ?_); rintro e x2 ⟨rfl, hb⟩; replace CW := CW.trans (hb.mono CW.size); clear hb)
      | (go_at_call 26; (with_reducible refine (c3 _).mono ?_); rintro e x3 ⟨rfl, hb⟩; replace CW := CW.trans (hb.mono CW.size); clear hb)
      | (go_at_call 22; refine (L _ (TT.out.keep CW)).mono ?_; rintro e x13 ⟨rfl, hb⟩; replace CW := CW.trans (hb.mono CW.size); clear hb))
    go_ret
    exact ⟨rfl, CW⟩

set_option maxHeartbeats 2000000 in
theorem texts_in (HH : HasOk) (HP : ParseOk) (HT : TextOk) (L : ∀ w, Tab w → Calls Tryd.prog 22 #[] w fun e w' => e = .returned (.bool true) ∧ Below w.heap.size w w') (s : Nat) (hs : s < 2 ^ 64) (m : Nat) (hm : 1 ≤ m) (hm2 : m ≤ 64) (w : World) (ht : Tab w) :
    Calls Tryd.prog 5 #[.int .u64 s, .int .i64 m] w fun e w' => e = .returned (.bool true) ∧ Below w.heap.size w w' := by
  have TT := Go.Lib.hid ht
  clear ht
  obtain ⟨x, hx, hxl, hxb⟩ := parse_text (s := s) hm hm2
  have hsz : (textB s (m : Int)).size ≤ maxLen := by
    have h1 : (textB s (m : Int)).data.toList.length = m := by rw [textB_list hm hm2, List.length_map, textI_len]
    have h2 : (textB s (m : Int)).size = (textB s (m : Int)).data.toList.length := Array.length_toList.symm
    unfold maxLen; omega
  have c1 := fun W => HT s m W hs (wf_iff.2 (by omega))
  have c2 := text_ref s hs (m : Int)
  have c3 := fun W => HP (textB s (m : Int)) W hsz
  rw [hx] at c3
  have c4 := fun (d : Nat) (hd : d < 64) W => HH x (d : Int) W hxl (wf_iff.2 (by omega))
  have c5 := fun (d : Nat) => has_ref s hs (d : Int)
  have c6 := fun d hd W => (hxb d hd) ▸ c4 d hd W
  generalize textB s (m : Int) = T at *
  have C6 := Go.Lib.hid c6
  have C5 := Go.Lib.hid c5
  clear c6 c5 c4 hx hxl hxb hsz hs HH HP HT
  have CW := Below.refl w.heap.size w
  go_enter Tryd.func5, Tryd.ntmps5
  go_wp2_with (first
    | (go_at_call 24; (with_reducible refine (c1 _).mono ?_); rintro e x1 ⟨rfl, hb⟩; replace CW := CW.trans (hb.mono CW.size); clear hb)
    | (go_at_call 25; (with_reducible refine (c2 _).mono ?_); rintro e x2 ⟨rfl, hb⟩; replace CW := CW.trans (hb.mono CW.size); clear hb)
    | (go_at_call 26; (with_reducible refine (c3 _).mono ?_); rintro e x3 ⟨rfl, hb⟩; replace CW := CW.trans (hb.mono CW.size); clear hb))
  have CC := Go.Lib.hid CW
  clear CW c1 c2 c3
  go_loopw [8] (fun dv wr => ∃ d : Nat, d ≤ 64 ∧ dv = .int .i64 d ∧ Below x3.heap.size x3 wr) (fun dv _ => 64 - (intOf dv).toNat)
  case atStart => exact ⟨0, Nat.zero_le _, rfl, Below.refl _ _⟩
  case round =>
    obtain ⟨d, hd, rfl, B⟩ := hrel
    by_cases hlt : d < 64
    · have c6 := C6.out d hlt
      have c5 := C5.out d
      by_cases hdm : d < m
      · rw [decide_eq_true (show (d : Int) < (m : Int) by omega), Bool.true_and] at c6
        generalize hasB s (d : Int) = bb at *
        go_wp2_with (first
          | (go_at_call 14; (with_reducible refine (c6 _).mono ?_); rintro e x4 ⟨rfl, hb⟩; replace B := B.trans (hb.mono B.size); clear hb)
          | (go_at_call 15; (with_reducible refine (c5 _).mono ?_); rintro e x5 ⟨rfl, hb⟩; replace B := B.trans (hb.mono B.size); clear hb))
        go_roundw
        case rel => exact ⟨d + 1, by omega, by go_num, B⟩
        case measure => simp [intOf]; omega
      · rw [decide_eq_false (show ¬ (d : Int) < (m : Int) by omega), Bool.false_and] at c6
        clear c5
        go_wp2_with (go_at_call 14; (with_reducible refine (c6 _).mono ?_); rintro e x4 ⟨rfl, hb⟩; replace B := B.trans (hb.mono B.size); clear hb)
        go_roundw
        case rel => exact ⟨d + 1, by omega, by go_num, B⟩
        case measure => simp [intOf]; omega
    · have CW := CC.out.trans (B.mono CC.out.size)
      clear B
      go_wp2_with (go_at_call 22; refine (L _ (TT.out.keep CW)).mono ?_; rintro e x13 ⟨rfl, hb⟩; replace CW := CW.trans (hb.mono CW.size); clear hb)
      go_ret
      exact ⟨rfl, CW⟩

theorem texts_any (HH : HasOk) (HP : ParseOk) (HT : TextOk) (HO : OfOk) (HN : NextOk) (s : Nat) (hs : s < 2 ^ 64) (n : Int) (wn : (Lit.int .i64 n).wf = true) (w : World) (ht : Tab w) :
    Calls Tryd.prog 5 #[.int .u64 s, .int .i64 n] w fun e w' => e = .returned (.bool true) ∧ Below w.heap.size w w' := by
  have TT := Go.Lib.hid ht
  by_cases hn : 1 ≤ n ∧ n ≤ 64
  · obtain ⟨m, rfl⟩ : ∃ m : Nat, n = (m : Int) := ⟨n.toNat, by omega⟩
    exact texts_in HH HP HT (lives2_any HO HT HN) s hs m (by omega) (by omega) w ht
  · exact texts_out HP HT (lives2_any HO HT HN) s hs n wn (by omega) w ht
end Go.Proofs.YtmjogpbdgbgkhaaDoor
