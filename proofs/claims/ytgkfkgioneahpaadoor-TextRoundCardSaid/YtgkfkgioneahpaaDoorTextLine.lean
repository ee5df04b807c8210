/- What text.Line, and the document's Line and Word, answer, off their code. -/
import Derived.Test.YtgkfkgioneahpaaDoorTextSame
import Derived.Test.YtgkfkgioneahpaaDoorTextPureC
import Derived.Test.YtgkfkgioneahpaaDoorTextDecRef
namespace Go.Proofs.YtgkfkgioneahpaaDoor
open Go.RowKit
set_option linter.unusedVariables false
set_option maxHeartbeats 2000000 in
theorem line_code (u : Value) (ws : List (List UInt8)) (w : World) (base : Nat) (hu : RowS w base u ws) (h0 : ws ≠ []) (hn : ws.length ≤ 100) (h12 : ∀ x ∈ ws, x.length ≤ 12) :
    Calls Tryd.prog 14 #[u] w fun e W' => e = .returned (.string (strL (lineT ws))) ∧ Below w.heap.size w W' := by
  have hpos : 0 < ws.length := by cases ws with | nil => exact absurd rfl h0 | cons _ _ => simp
  obtain ⟨g, c, rfl, _⟩ := RowS.at hu hpos
  have hg : g < w.heap.size := own_blk hu g rfl
  have hcap : ws.length ≤ c := by obtain ⟨_, _, e, h⟩ := own_form hu; injection e with _ _ e3; omega
  have hm : (ws.map strL).map (·.data.toList) = ws := by
    rw [List.map_map]
    refine (List.map_congr_left fun x _ => ?_).trans (List.map_id _)
    exact strL_list x
  have hbd := lineT_bd h0 h12
  have CJ := Tryd.strings_Join g 0 c (ws.map strL) ⟨#[32]⟩ w (fun j x hj => by
      rw [List.getElem?_map] at hj
      cases hx : ws[j]? with
      | none => rw [hx] at hj; cases hj
      | some y =>
        rw [hx] at hj
        obtain ⟨hjl, hy⟩ := List.getElem?_eq_some_iff.1 hx
        obtain ⟨b, c', e, hc⟩ := RowS.at hu hjl
        injection e with e1 _ _
        injection e1 with e1
        injection e1 with e1
        subst e1
        rw [Nat.zero_add, hc, hy]
        exact congrArg _ (congrArg _ (Option.some.inj hj))) hg (by rw [List.length_map]; omega) (by rw [List.length_map]; exact hcap)
    (by rw [hm]; unfold lineT at hbd; rw [List.length_append] at hbd; show (Lib.join ws [32]).length ≤ _; omega)
  rw [hm, List.length_map] at CJ
  have hsz : (⟨(Lib.join ws [32]).toArray⟩ : ByteArray).size ≤ 1400 := by
    show (strL (Lib.join ws [32])).size ≤ _
    rw [strL_size]; unfold lineT at hbd; rw [List.length_append] at hbd; omega
  have he : strL (lineT ws) = (⟨(Lib.join ws [32]).toArray⟩ : ByteArray) ++ ⟨#[10]⟩ := (strL_app _ _).symm
  rw [he]
  have CJ2 : Calls Tryd.prog 25 #[.slice (some ⟨g, 0, none⟩) ws.length c, .string ⟨#[32]⟩] w fun e w' => e = .returned (.string ⟨(Lib.join ws [32]).toArray⟩) ∧ Below w.heap.size w w' := CJ
  clear CJ he hbd hm hu
  generalize (⟨(Lib.join ws [32]).toArray⟩ : ByteArray) = s at *
  go_enter Tryd.func14, Tryd.ntmps14
  go_wp2_with (go_at_call 25; refine CJ2.mono ?_; rintro e w1 ⟨rfl, hb⟩)
  go_ret
  exact ⟨rfl, hb⟩
set_option maxHeartbeats 2000000 in
theorem line_ref (u : Value) (ws : List (List UInt8)) (w : World) (base : Nat) (hu : RowS w base u ws) (h0 : ws ≠ []) (hn : ws.length ≤ 100) (h12 : ∀ x ∈ ws, x.length ≤ 12) :
    Calls Tryd.prog 15 #[u] w fun e W' => e = .returned (.string (strL (lineT ws))) ∧ w = W' := by
  have hpos : 0 < ws.length := by cases ws with | nil => exact absurd rfl h0 | cons _ _ => simp
  obtain ⟨g, c, rfl, _⟩ := RowS.at hu hpos
  have HC : Hid (∀ j (hj : j < ws.length), w.cell? ⟨g, j, none⟩ = some (.string (strL ws[j]))) := fun j hj => by
    obtain ⟨b, c', e, hc⟩ := RowS.at hu hj
    injection e with e1 _ _
    injection e1 with e1
    injection e1 with e1
    subst e1
    exact hc
  have HJ : Hid (∀ k, k ≤ ws.length → (strL (Lib.join (ws.take k) [32])).size ≤ 1400) := fun k hk => by
    rw [strL_size]
    by_cases hk0 : k = 0
    · subst hk0; simp [Lib.join]
    · have h1 := lineT_bd (ws := ws.take k) (fun e => by have := congrArg List.length e; rw [List.length_take_of_le hk] at this; simp at this; omega) (fun x hx => h12 x (List.mem_of_mem_take hx))
      unfold lineT at h1
      rw [List.length_append, List.length_take_of_le hk] at h1
      omega
  have HS : Hid (∀ k (hk : k < ws.length), 0 < k → strL (Lib.join (ws.take (k + 1)) [32]) = strL (Lib.join (ws.take k) [32]) ++ ⟨#[32]⟩ ++ strL ws[k]) := fun k hk hp => by
    rw [List.take_succ_eq_append_getElem hk, join_snoc (fun e => by have := congrArg List.length e; rw [List.length_take_of_le (by omega)] at this; simp at this; omega)]
    rw [show (⟨#[32]⟩ : ByteArray) = strL [32] from rfl, strL_app, strL_app]
    simp
  have H1 : Hid (strL (Lib.join (ws.take 1) [32]) = ⟨#[]⟩ ++ strL (ws[0]'hpos)) := by
    show _ = _
    rw [List.take_succ_eq_append_getElem hpos, show (⟨#[]⟩ : ByteArray) = strL [] from rfl, strL_app]
    simp [Lib.join_one]
  obtain ⟨T, hT⟩ : ∃ T, strL (lineT ws) = T := ⟨_, rfl⟩
  rw [hT]
  have HE : Hid (∀ k, k = ws.length → T = strL (Lib.join (ws.take k) [32]) ++ ⟨#[10]⟩) := fun k hk => by
    rw [hk, List.take_length, ← hT]
    exact (strL_app _ _).symm
  have H12 : Hid (∀ j (hj : j < ws.length), (strL ws[j]).size ≤ 12) := fun j hj => by rw [strL_size]; exact h12 _ (List.getElem_mem _)
  have H0 : Hid (strL (Lib.join (ws.take 0) [32]) = ⟨#[]⟩) := rfl
  obtain ⟨n, hnn⟩ : ∃ n, n = ws.length := ⟨_, rfl⟩
  have HN := Go.Lib.hid hnn
  rw [← hnn] at hpos hn ⊢
  clear hu hnn h12 h0 hT
  go_enter Tryd.func15, Tryd.ntmps15
  go_wp2
  go_loop [3, 4] (fun sv iv => ∃ k : Nat, k ≤ n ∧ iv = .int .i64 k ∧ sv = .string (strL (Lib.join (ws.take k) [32]))) (fun _ iv => n - (intOf iv).toNat)
  case atStart => exact ⟨0, Nat.zero_le _, rfl, by rw [H0.out]⟩
  case round =>
    obtain ⟨k, hk, rfl, rfl⟩ := hrel
    have hj := HJ.out k (by rw [← HN.out]; exact hk)
    by_cases hlt : k < n
    · have hlt' : k < ws.length := by rw [← HN.out]; exact hlt
      have hck := HC.out k hlt'
      have h12 := H12.out k hlt'
      by_cases hk0 : k = 0
      · subst hk0
        have HX : Hid (strL (Lib.join (ws.take 1) [32]) = strL (Lib.join (ws.take 0) [32]) ++ strL (ws[0]'hlt')) := by show _ = _; rw [H1.out, H0.out]
        generalize strL (Lib.join (ws.take 0) [32]) = s at *
        generalize strL (ws[0]'hlt') = y at *
        go_wp2
        exact ⟨⟨1, by omega, by first | rfl | trivial | go_num, by rw [HX.out]⟩, by simp [intOf]; omega⟩
      · have HX := Go.Lib.hid (HS.out k hlt' (by omega))
        have hkp : (0 : Int) < (k : Int) := by omega
        generalize strL (Lib.join (ws.take k) [32]) = s at *
        generalize strL (ws[k]'hlt') = y at *
        go_wp2
        exact ⟨⟨k + 1, by omega, by go_num, by rw [HX.out]⟩, by simp [intOf]; omega⟩
    · obtain rfl : k = n := by omega
      have HE2 := Go.Lib.hid (HE.out k HN.out)
      generalize strL (Lib.join (ws.take k) [32]) = s at *
      go_wp2
      go_ret
      exact ⟨by rw [HE2.out]; rfl, rfl⟩
theorem info_u8 : (Tryd.prog.info? 5).map (fun i => (i.zero, i.size, i.bytes)) = some (some (.int .u8 0), 1, 1) := by kernel_rfl
set_option maxHeartbeats 4000000 in
theorem word_ref (s : ByteArray) (hs : s.size ≤ maxLen) (w : World) :
    Calls Tryd.prog 13 #[.string s] w fun e W' => ∃ l : List UInt8, wordB l = true ∧ l.length ≤ 12 ∧ e = .returned (.string (strL l)) ∧ Below w.heap.size w W' := by
  obtain ⟨i0, hi, hz0, hz1, hz2⟩ := info_parts info_u8
  unfold maxLen at hs
  go_enter Tryd.func13, Tryd.ntmps13
  go_wp2
  go_loopw [3, 4] (fun ov iv wr => ∃ (k : Nat) (bs : List UInt8), k ≤ s.size ∧ k ≤ 12 ∧ iv = .int .i64 k ∧ bs.length = k ∧ bs.all goodC = true ∧ wr.ownsRow w.heap.size 5 1 ov k ((bytesI bs).map (Value.int .u8)) ∧ Below w.heap.size w wr) (fun _ iv _ => s.size - (intOf iv).toNat)
  case atStart => exact ⟨0, [], Nat.zero_le _, by omega, rfl, rfl, rfl, World.ownsRow_nil _ _ _ _, Below.refl _ _⟩
  case round =>
    obtain ⟨k, bs, hks, hk12, rfl, hbl, hbg, hown, hb⟩ := hrel
    obtain ⟨A, c, rfl, hc⟩ := own_form hown
    have HBL := Go.Lib.hid hbl
    have HBG := Go.Lib.hid hbg
    clear hbl hbg
    by_cases hgo : k < s.size ∧ k < 12
    · obtain ⟨h1, h2⟩ := hgo
      have h2' : (k : Int) < 12 := by omega
      have hrow : ∀ b : UInt8, goodC b = true → ∀ v' w3, w3.ownsRow w.heap.size 5 1 v' (k + 1) ((bytesI bs).map (Value.int .u8) ++ [.int .u8 b.toNat]) → Below w.heap.size w w3 →
          ∃ bs' : List UInt8, bs'.length = k + 1 ∧ bs'.all goodC = true ∧ w3.ownsRow w.heap.size 5 1 v' (k + 1) ((bytesI bs').map (Value.int .u8)) := fun b hb v' w3 h _ =>
        ⟨bs ++ [b], by rw [List.length_append, HBL.out]; rfl, by rw [List.all_append, HBG.out]; simpa using hb, by simpa [bytesI] using h⟩
      have HR := Go.Lib.hid hrow
      clear hrow
      cases hg : goodC s[k]
      · have hgn := good_no hg
        clear hg
        rcases hgn with g1 | ⟨g1, g2⟩
        all_goals
          go_wp2_with (at_builtin; refine wpList_append_own _ rfl _ _ 51 rfl w.heap.size 5 i0 (.int .u8 0) 1 1 Tryd.underlying51 hi hz0 hz1 hz2 rfl (by decide) _ _ _ rfl (hown.alloc _) ⟨wr.heap.size, 0, none⟩ 1 1 [.int .u8 120] rfl rfl (one_cell _ _ _) (one_okK _ _) (by unfold maxLen; omega) (by omega) (by have := hb.size; simp; omega) ?_; intro v' w3 hown' hgrow _; have R := (hb.alloc hb.size _).grown hgrow (by have := hb.size; simp; omega) (own_ge hown); clear hgrow hown hb)
          obtain ⟨bs', e1, e2, e3⟩ := HR.out 120 (by decide) v' w3 hown' R
          exact ⟨⟨k + 1, bs', by omega, by omega, by go_num, e1, e2, e3, R⟩, by simp [intOf]; omega⟩
      · obtain ⟨g1, g2⟩ := good_lo hg
        have HG := Go.Lib.hid hg
        clear hg
        go_wp2_with (at_builtin; refine wpList_append_own _ rfl _ _ 51 rfl w.heap.size 5 i0 (.int .u8 0) 1 1 Tryd.underlying51 hi hz0 hz1 hz2 rfl (by decide) _ _ _ rfl (hown.alloc _) ⟨wr.heap.size, 0, none⟩ 1 1 [.int .u8 (s[k]).toNat] rfl rfl (one_cell _ _ _) (one_okK _ _) (by unfold maxLen; omega) (by omega) (by have := hb.size; simp; omega) ?_; intro v' w3 hown' hgrow _; have R := (hb.alloc hb.size _).grown hgrow (by have := hb.size; simp; omega) (own_ge hown); clear hgrow hown hb)
        obtain ⟨bs', e1, e2, e3⟩ := HR.out (s[k]) HG.out v' w3 hown' R
        exact ⟨⟨k + 1, bs', by omega, by omega, by go_num, e1, e2, e3, R⟩, by simp [intOf]; omega⟩
    · have hst : (¬ k < s.size ∧ k ≤ 12) ∨ (k < s.size ∧ (12 : Int) ≤ (k : Int) ∧ k ≤ 12) := by
        by_cases h : k < s.size
        · exact .inr ⟨h, by have : ¬ k < 12 := fun h2 => hgo ⟨h, h2⟩; omega, hk12⟩
        · exact .inl ⟨h, hk12⟩
      by_cases hk0 : k = 0
      · have hz : ((k : Int) == 0) = true := beq_iff_eq.2 (by omega)
        rcases hst with ⟨a1, a2⟩ | ⟨a1, a2, a3⟩
        · go_wp2
          go_ret
          exact ⟨[120], by decide, by decide, rfl, hb⟩
        · omega
      · have hz : ((k : Int) == 0) = false := beq_eq_false_iff_ne.2 (by omega)
        obtain ⟨g, cap, hv, _, _⟩ := hown.form (by omega)
        have hA : A = some ⟨g, 0, none⟩ := by injection hv
        subst hA
        have hlen : (bytesI bs).length = k := by unfold bytesI; rw [List.length_map, HBL.out]
        have hcells : ∀ i, i < k → wr.cell? ⟨g, 0 + i, none⟩ = some (.int .u8 ((bytesI bs).getD i 0)) := fun i hi => by
          have := hown.cellAt i (by omega)
          rw [Nat.zero_add, this, List.getElem?_map, List.getD_eq_getElem?_getD, List.getElem?_eq_getElem (by omega)]
          rfl
        have hcv := run_convert_bytes_arg (P := Tryd.prog) wr 51 5 Tryd.underlying51 Tryd.underlying5 g 0 k c (bytesI bs) hlen hcells 9 Tryd.underlying9
        rw [str_bytes] at hcv
        have HW : Hid (wordB bs = true) := by
          show _ = _
          unfold wordB
          rw [HBG.out]
          have : bs ≠ [] := fun e => by have := HBL.out; rw [e] at this; simp at this; omega
          cases bs with
          | nil => exact absurd rfl this
          | cons _ _ => rfl
        have hv2 : wr.ownsRow w.heap.size 5 1 (.slice (some ⟨g, 0, none⟩) k c) k ((bytesI bs).map (Value.int .u8)) := hown
        clear hcells hlen hv
        rcases hst with ⟨a1, a2⟩ | ⟨a1, a2, a3⟩
        all_goals
          go_wp2
          go_ret
          exact ⟨bs, HW.out, by rw [HBL.out]; omega, rfl, hb⟩
end Go.Proofs.YtgkfkgioneahpaaDoor
