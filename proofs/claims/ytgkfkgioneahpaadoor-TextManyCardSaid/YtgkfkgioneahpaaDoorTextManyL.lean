/- TextMany, off its code. -/
import Derived.Test.YtgkfkgioneahpaaDoorTextMany
import Derived.Test.YtgkfkgioneahpaaDoorTextDecRef
import Derived.Test.YtgkfkgioneahpaaDoorTextLives
import Derived.Deep.RegionWith
import Derived.Test.YtgkfkgioneahpaaDoorOpen
import Derived.ChangeSlices
namespace Go.Proofs.YtgkfkgioneahpaaDoor
open Go.RowKit
set_option linter.unusedVariables false
/-- A text's first 25 bytes. -/
def cut25 (x : ByteArray) : ByteArray := if 25 < x.size then x.extract 0 25 else x
theorem cut25_size (x : ByteArray) : (cut25 x).size ≤ 25 := by
  unfold cut25
  split
  · simp; omega
  · omega
def preT (S : Nat → ByteArray) (k : Nat) : List ByteArray := (List.range k).map fun j => cut25 (S j)
theorem preT_succ (S : Nat → ByteArray) (k : Nat) : preT S (k + 1) = preT S k ++ [cut25 (S k)] := by simp [preT, List.range_succ]
theorem preT_len (S : Nat → ByteArray) (k : Nat) : (preT S k).length = k := by simp [preT]
theorem preT_mem (S : Nat → ByteArray) (k : Nat) : ∀ x ∈ preT S k, x.size ≤ 25 := by
  intro x hx
  obtain ⟨j, _, rfl⟩ := List.mem_map.1 hx
  exact cut25_size _
def allD (xs : List ByteArray) : Bool := xs.all fun x => decB x.data.toList
theorem allD_snoc (xs : List ByteArray) (x : ByteArray) : allD (xs ++ [x]) = (allD xs && decB x.data.toList) := by simp [allD]
/-- A row of texts of the call's own. -/
def RowB (W : World) (base : Nat) (v : Value) (xs : List ByteArray) : Prop := W.ownsRow base 9 1 v xs.length (xs.map Value.string)
theorem RowB.texts {W : World} {base c : Nat} {A : Option Addr} {n : Nat} {xs : List ByteArray} (h : RowB W base (.slice A n c) xs) : TextsIn W A xs := fun h0 => by
  obtain ⟨g, cap, hv, _, _⟩ := World.ownsRow.form h h0
  cases hv
  refine ⟨g, 0, rfl, fun j hj => ?_⟩
  rw [Nat.zero_add, World.ownsRow.cellAt h j (by omega), List.getElem?_map, List.getElem?_eq_getElem hj]
  rfl
set_option maxRecDepth 100000 in
set_option maxHeartbeats 8000000 in
theorem many_any (A : Option Addr) (n c : Nat) (S : Nat → ByteArray) (B : Option Addr) (m d : Nat) (ys : List Int) (w : World) (hn : n ≤ maxLen) (hS : ∀ k, k < n → ∃ b off, A = some ⟨b, off, none⟩ ∧ w.cell? ⟨b, off + k, none⟩ = some (.string (S k))) (hz : ∀ k, k < n → (S k).size ≤ maxLen)
    (hm : m ≤ maxLen) (hmd : m ≤ d) (hd : d ≤ maxLen) (hB : NumsIn w B ys) (hy : ys.length = m) (hyw : ∀ x ∈ ys, -9223372036854775808 ≤ x ∧ x ≤ 9223372036854775807) :
    Calls Tryd.prog 6 #[.slice A n c, .slice B m d] w fun e W' => e = .returned (.bool true) ∧ Below w.heap.size w W' := by
  obtain ⟨i0, hi, hz0, hz1, hz2⟩ := info_parts info_str
  have CL := fun W => lives5_any W
  have HS := Go.Lib.hid hS
  have HZ := Go.Lib.hid hz
  have HB := Go.Lib.hid hB
  have HY := Go.Lib.hid hy
  have HW := Go.Lib.hid hyw
  unfold maxLen at hn hm hd
  clear hS hz hB hy hyw
  go_enter Tryd.func6, Tryd.ntmps6
  go_wp2
  go_loopw [5, 6, 7] (fun ov av iv wr => ∃ (k : Nat), k ≤ n ∧ k ≤ 8 ∧ iv = .int .i64 k ∧ av = .bool (allD (preT S k)) ∧ RowB wr w.heap.size ov (preT S k) ∧ Below w.heap.size w wr) (fun _ _ iv _ => n - (intOf iv).toNat)
  case atStart => exact ⟨0, Nat.zero_le _, by omega, rfl, rfl, World.ownsRow_nil _ _ _ _, Below.refl _ _⟩
  case round =>
    obtain ⟨k, hkn, hk8, rfl, rfl, hR, hb⟩ := hrel
    have hown := hR
    unfold RowB at hown
    rw [preT_len] at hown
    obtain ⟨Ao, co, rfl, hco⟩ := own_form hown
    have HR := Go.Lib.hid hR
    by_cases hgo : k < n ∧ k < 8
    · obtain ⟨h1, h2⟩ := hgo
      have h2' : (k : Int) < 8 := by omega
      obtain ⟨b, off, rfl, hck⟩ := HS.out k h1
      have hcx := (hb.cell (p := ⟨b, off + k, none⟩) (World.block_lt_of_cell? w _ hck)).trans hck
      have hsk := HZ.out k h1
      have hX : ∃ X : ByteArray, cut25 (S k) = X ∧ ((25 < (S k).size ∧ (S k).extract 0 25 = X) ∨ (¬ 25 < (S k).size ∧ S k = X)) := by
        refine ⟨_, rfl, ?_⟩
        unfold cut25
        by_cases h : 25 < (S k).size
        · rw [if_pos h]; exact .inl ⟨h, rfl⟩
        · rw [if_neg h]; exact .inr ⟨h, rfl⟩
      obtain ⟨X, hXe, hcut⟩ := hX
      have hXs : X.size ≤ 25 := by rw [← hXe]; exact cut25_size _
      have CR := fun W => number_ref X W (by unfold maxLen; omega)
      have HP : Hid (preT S (k + 1) = preT S k ++ [X]) := by show _ = _; rw [preT_succ, hXe]
      have HA : Hid (allD (preT S (k + 1)) = (allD (preT S k) && decB X.data.toList)) := by show _ = _; rw [HP.out, allD_snoc]
      clear hck hXe hR
      unfold maxLen at hsk
      generalize S k = s at *
      generalize allD (preT S k) = al at *
      generalize decB X.data.toList = dx at *
      generalize numV X.data.toList = nx at *
      cases al
      all_goals
        rcases hcut with ⟨hl, hXc⟩ | ⟨hl, hEq⟩
        all_goals
          first | (have hXd := hEq.symm; subst hXd) | skip
          go_wp2_with (first
            | (go_at_call 17; refine (CR _).mono ?_; rintro e w1 ⟨rfl, rfl⟩)
            | (at_builtin; refine wpList_append_own _ rfl _ _ 29 rfl w.heap.size 9 i0 (.string ByteArray.empty) 1 16 Tryd.underlying29 hi hz0 hz1 hz2 rfl (by decide) _ _ _ rfl (hown.alloc _) ⟨w1.heap.size, 0, none⟩ 1 1 [.string X] rfl rfl (one_cell _ _ _) (by simp [Value.oneCell']) (by unfold maxLen; omega) (by omega) (by have := hb.size; simp; omega) ?_; intro v' w3 hown' hgrow _; have R := (hb.alloc hb.size _).grown hgrow (by have := hb.size; simp; omega) (own_ge hown)))
          refine ⟨⟨k + 1, by omega, by omega, by go_num, by rw [HA.out]; rfl, ?_, R⟩, by simp [intOf]; omega⟩
          unfold RowB
          rw [HP.out, List.length_append, List.map_append, preT_len]
          exact hown'
    · have hst : (¬ k < n ∧ k ≤ 8) ∨ (k < n ∧ (8 : Int) ≤ (k : Int) ∧ k ≤ 8) := by
        by_cases h : k < n
        · exact .inr ⟨h, by have : ¬ k < 8 := fun h2 => hgo ⟨h, h2⟩; omega, hk8⟩
        · exact .inl ⟨h, hk8⟩
      obtain ⟨M, hM⟩ : ∃ M : Nat, M ≤ 8 ∧ ((8 < m ∧ M = 8) ∨ (¬ 8 < m ∧ M = m)) := by
        by_cases h : 8 < m
        · exact ⟨8, by omega, .inl ⟨h, rfl⟩⟩
        · exact ⟨m, by omega, .inr ⟨h, rfl⟩⟩
      obtain ⟨hM8, hM⟩ := hM
      have hyl : (ys.take M).length = M := by rw [List.length_take_of_le]; rw [HY.out]; omega
      have hNI : NumsIn w B (ys.take M) := fun h0 => by
        obtain ⟨b, off, e, hc⟩ := HB.out (by rw [HY.out]; omega)
        exact ⟨b, off, e, fun j hj => by rw [List.getElem_take]; exact hc j _⟩
      have HNI := Go.Lib.hid hNI
      have HYL := Go.Lib.hid hyl
      have HYW : Hid (∀ x ∈ ys.take M, -9223372036854775808 ≤ x ∧ x ≤ 9223372036854775807) := fun x hx => HW.out x (List.mem_of_mem_take hx)
      clear hNI hyl
      generalize ys.take M = zs at *
      have CN : Calls Tryd.prog 20 #[.slice Ao k co] wr fun e W' => ∃ v, e = .returned (.tuple #[v, .bool (allD (preT S k))]) ∧ (allD (preT S k) = true → W'.ownsRow wr.heap.size 3 1 v k ((preT S k).map fun x => Value.int .i64 (numV x.data.toList))) ∧ (allD (preT S k) = false → v = .slice none 0 0) ∧ Below wr.heap.size wr W' := by
        have h := numbers_code Ao (preT S k) co wr (HR.out.texts) (by rw [preT_len]; omega) (fun x hx => by have := preT_mem S k x hx; unfold maxLen; omega)
        rw [preT_len] at h
        exact h
      have HT := Go.Lib.hid (HR.out.texts)
      have HPL := Go.Lib.hid (preT_len S k)
      have HPM := Go.Lib.hid (preT_mem S k)
      clear hR hown hgo hk8
      generalize preT S k = ps at *
      generalize allD ps = al at *
      rcases hst with ⟨h1, h2⟩ | ⟨h1, h2, h3⟩
      all_goals
        rcases hM with ⟨h4, hM1⟩ | ⟨h4, hM1⟩
        · subst hM1
          cases al
          · go_wp2_with (first
              | (go_at_call 20; refine CN.mono ?_; rintro e w2 ⟨v2, rfl, hyes, hno, hb2⟩; obtain rfl := hno rfl))
            have hB2 := hb.trans (hb2.mono hb.size)
            clear hyes hno hb2 hb
            go_loopw [13] (fun iv wr => iv = .int .i64 0 ∧ Below w.heap.size w wr) (fun _ _ => 0)
            case atStart => exact ⟨rfl, hB2⟩
            case round =>
              clear hB2
              obtain ⟨rfl, hB2⟩ := hrel
              have HB3 := Go.Lib.hid hB2
              have CW : Calls Tryd.prog 21 #[.slice B 8 d] wr fun e W' => ∃ v, e = .returned v ∧ W'.ownsRow wr.heap.size 9 1 v 8 ((zs.map decI).map fun f => Value.string (strL f)) ∧ Below wr.heap.size wr W' := by
                have h := words_code B zs d wr (HNI.out.keep hB2) (by rw [HYL.out]; omega) HYW.out
                rw [HYL.out] at h
                exact h.mono fun e W' ⟨v, h1, h2, h3⟩ => ⟨v, h1, by unfold RowS at h2; rw [List.length_map, HYL.out] at h2; exact h2, h3⟩
              clear hB2
              go_wp2_with (first
                | (go_at_call 21; refine CW.mono ?_; rintro e w3 ⟨v3, rfl, hrow3, hb3⟩; obtain ⟨A3, c3, rfl, _⟩ := own_form hrow3))
              have HR3 := Go.Lib.hid hrow3
              have HB4 := Go.Lib.hid (HB3.out.trans (hb3.mono HB3.out.size))
              clear hrow3 hb3
              go_loopw [17] (fun iv wr => ∃ i : Nat, i ≤ 8 ∧ iv = .int .i64 i ∧ Below w3.heap.size w3 wr) (fun iv _ => 8 - (intOf iv).toNat)
              case atStart => exact ⟨0, Nat.zero_le _, rfl, Below.refl _ _⟩
              case round =>
                obtain ⟨i, hi, rfl, hb5⟩ := hrel
                have HB5 := Go.Lib.hid (HB4.out.trans (hb5.mono HB4.out.size))
                by_cases hlt : i < 8
                · have hzi : i < zs.length := by rw [HYL.out]; exact hlt
                  have hrow5 := own_keep HR3.out hb5
                  obtain ⟨g, cap, hv, _, _⟩ := World.ownsRow.form hrow5 (by omega)
                  have hA3 : A3 = some ⟨g, 0, none⟩ := by injection hv
                  subst hA3
                  have hcv : wr.cell? ⟨g, i, none⟩ = some (.string (strL (decI zs[i]))) := by
                    have := World.ownsRow.cellAt (hv ▸ hrow5) i (by omega)
                    rw [this, List.getElem?_map, List.getElem?_map, List.getElem?_eq_getElem hzi]
                    rfl
                  obtain ⟨b, off, rfl, hcs⟩ := (HNI.out.keep HB5.out) (by omega)
                  have hcz := hcs i hzi
                  have CE := fun W => dec_ref zs[i] (HYW.out _ (List.getElem_mem _)) W
                  generalize strL (decI zs[i]) = t at *
                  generalize zs[i] = z at *
                  have CVS : ∀ W, Below wr.heap.size wr W → W.cell? ⟨g, i, none⟩ = some (.string t) := fun W h => (h.cell (World.block_lt_of_cell? wr _ hcv)).trans hcv
                  have CZS : ∀ W, Below wr.heap.size wr W → W.cell? ⟨b, off + i, none⟩ = some (.int .i64 z) := fun W h => (h.cell (World.block_lt_of_cell? wr _ hcz)).trans hcz
                  have HCVS := Go.Lib.hid CVS
                  have HCZS := Go.Lib.hid CZS
                  clear hcs hrow5 hv CVS CZS
                  go_wp2_with fail
                  go_region_with (go_at_call 19; refine (CE _).mono ?_; rintro e w5 ⟨rfl, hb6⟩; have c5 := HCVS.out w5 ((Below.refl _ _).drew.trans hb6); have HB6 := Go.Lib.hid (hb5.trans (((Below.refl wr.heap.size wr).drew.trans hb6).mono hb5.size)); clear hb6)
                  all_goals go_wp2
                  all_goals exact ⟨⟨i + 1, by omega, by go_num, HB6.out⟩, by simp [intOf]; omega⟩
                · obtain ⟨q, hq⟩ : ∃ q, i = q := ⟨_, rfl⟩
                  have hge : ¬ (i : Int) < ((8 : Nat) : Int) := by omega
                  go_wp2_with (go_at_call 12; refine (CL _).mono ?_; rintro e w7 ⟨rfl, hb7⟩)
                  go_ret
                  exact ⟨rfl, HB5.out.trans (hb7.mono HB5.out.size)⟩
          · go_wp2_with (first
              | (go_at_call 20; refine CN.mono ?_; rintro e w2 ⟨v2, rfl, hyes, hno, hb2⟩; have hx := hyes rfl; obtain ⟨Ax, cx, rfl, _⟩ := own_form hx))
            have HX := Go.Lib.hid hx
            have HT2 := Go.Lib.hid (HT.out.keep hb2)
            have hB2 := hb.trans (hb2.mono hb.size)
            clear hyes hno hb2 hx hb
            go_loopw [13] (fun iv wr => ∃ i : Nat, i ≤ k ∧ iv = .int .i64 i ∧ w2 = wr) (fun iv _ => k - (intOf iv).toNat)
            case atStart => exact ⟨0, Nat.zero_le _, rfl, rfl⟩
            case round =>
              obtain ⟨i, hik, rfl, rfl⟩ := hrel
              by_cases hlt : i < k
              · have hpi : i < ps.length := by rw [HPL.out]; exact hlt
                obtain ⟨g, cap, hv, _, _⟩ := World.ownsRow.form HX.out (by omega)
                have hAx : Ax = some ⟨g, 0, none⟩ := by injection hv
                subst hAx
                have hcv : w2.cell? ⟨g, i, none⟩ = some (.int .i64 (numV (ps[i]).data.toList)) := by
                  have := World.ownsRow.cellAt (hv ▸ HX.out) i (by omega)
                  rw [this, List.getElem?_map, List.getElem?_eq_getElem hpi]
                  rfl
                obtain ⟨b, off, rfl, hcs⟩ := HT2.out (by omega)
                have hcz := hcs i hpi
                have CR := fun W => number_ref ps[i] W (by have := HPM.out _ (List.getElem_mem hpi); unfold maxLen; omega)
                generalize numV (ps[i]).data.toList = nv at *
                generalize decB (ps[i]).data.toList = dv at *
                generalize ps[i] = px at *
                clear hcs hv
                go_wp2_with (go_at_call 17; refine (CR _).mono ?_; rintro e w5 ⟨rfl, rfl⟩)
                exact ⟨⟨i + 1, by omega, by go_num, by first | rfl | trivial⟩, by simp [intOf]; omega⟩
              · have hge : ¬ (i : Int) < (k : Int) := by omega
                have HB3 := Go.Lib.hid hB2
                have CW : Calls Tryd.prog 21 #[.slice B 8 d] w2 fun e W' => ∃ v, e = .returned v ∧ W'.ownsRow w2.heap.size 9 1 v 8 ((zs.map decI).map fun f => Value.string (strL f)) ∧ Below w2.heap.size w2 W' := by
                  have h := words_code B zs d w2 (HNI.out.keep hB2) (by rw [HYL.out]; omega) HYW.out
                  rw [HYL.out] at h
                  exact h.mono fun e W' ⟨v, h1, h2, h3⟩ => ⟨v, h1, by unfold RowS at h2; rw [List.length_map, HYL.out] at h2; exact h2, h3⟩
                clear hB2
                go_wp2_with (first
                  | (go_at_call 21; refine CW.mono ?_; rintro e w3 ⟨v3, rfl, hrow3, hb3⟩; obtain ⟨A3, c3, rfl, _⟩ := own_form hrow3))
                have HR3 := Go.Lib.hid hrow3
                have HB4 := Go.Lib.hid (HB3.out.trans (hb3.mono HB3.out.size))
                clear hrow3 hb3
                go_loopw [17] (fun iv wr => ∃ i : Nat, i ≤ 8 ∧ iv = .int .i64 i ∧ Below w3.heap.size w3 wr) (fun iv _ => 8 - (intOf iv).toNat)
                case atStart => exact ⟨0, Nat.zero_le _, rfl, Below.refl _ _⟩
                case round =>
                  obtain ⟨i, hi, rfl, hb5⟩ := hrel
                  have HB5 := Go.Lib.hid (HB4.out.trans (hb5.mono HB4.out.size))
                  by_cases hlt : i < 8
                  · have hzi : i < zs.length := by rw [HYL.out]; exact hlt
                    have hrow5 := own_keep HR3.out hb5
                    obtain ⟨g, cap, hv, _, _⟩ := World.ownsRow.form hrow5 (by omega)
                    have hA3 : A3 = some ⟨g, 0, none⟩ := by injection hv
                    subst hA3
                    have hcv : wr.cell? ⟨g, i, none⟩ = some (.string (strL (decI zs[i]))) := by
                      have := World.ownsRow.cellAt (hv ▸ hrow5) i (by omega)
                      rw [this, List.getElem?_map, List.getElem?_map, List.getElem?_eq_getElem hzi]
                      rfl
                    obtain ⟨b, off, rfl, hcs⟩ := (HNI.out.keep HB5.out) (by omega)
                    have hcz := hcs i hzi
                    have CE := fun W => dec_ref zs[i] (HYW.out _ (List.getElem_mem _)) W
                    generalize strL (decI zs[i]) = t at *
                    generalize zs[i] = z at *
                    have CVS : ∀ W, Below wr.heap.size wr W → W.cell? ⟨g, i, none⟩ = some (.string t) := fun W h => (h.cell (World.block_lt_of_cell? wr _ hcv)).trans hcv
                    have CZS : ∀ W, Below wr.heap.size wr W → W.cell? ⟨b, off + i, none⟩ = some (.int .i64 z) := fun W h => (h.cell (World.block_lt_of_cell? wr _ hcz)).trans hcz
                    have HCVS := Go.Lib.hid CVS
                    have HCZS := Go.Lib.hid CZS
                    clear hcs hrow5 hv CVS CZS
                    go_wp2_with fail
                    go_region_with (go_at_call 19; refine (CE _).mono ?_; rintro e w5 ⟨rfl, hb6⟩; have c5 := HCVS.out w5 ((Below.refl _ _).drew.trans hb6); have HB6 := Go.Lib.hid (hb5.trans (((Below.refl wr.heap.size wr).drew.trans hb6).mono hb5.size)); clear hb6)
                    all_goals go_wp2
                    all_goals exact ⟨⟨i + 1, by omega, by go_num, HB6.out⟩, by simp [intOf]; omega⟩
                  · obtain ⟨q, hq⟩ : ∃ q, i = q := ⟨_, rfl⟩
                    have hge : ¬ (i : Int) < ((8 : Nat) : Int) := by omega
                    go_wp2_with (go_at_call 12; refine (CL _).mono ?_; rintro e w7 ⟨rfl, hb7⟩)
                    go_ret
                    exact ⟨rfl, HB5.out.trans (hb7.mono HB5.out.size)⟩
        · subst hM1
          cases al
          · go_wp2_with (first
              | (go_at_call 20; refine CN.mono ?_; rintro e w2 ⟨v2, rfl, hyes, hno, hb2⟩; obtain rfl := hno rfl))
            have hB2 := hb.trans (hb2.mono hb.size)
            clear hyes hno hb2 hb
            go_loopw [13] (fun iv wr => iv = .int .i64 0 ∧ Below w.heap.size w wr) (fun _ _ => 0)
            case atStart => exact ⟨rfl, hB2⟩
            case round =>
              clear hB2
              obtain ⟨rfl, hB2⟩ := hrel
              have HB3 := Go.Lib.hid hB2
              have CW : Calls Tryd.prog 21 #[.slice B M d] wr fun e W' => ∃ v, e = .returned v ∧ W'.ownsRow wr.heap.size 9 1 v M ((zs.map decI).map fun f => Value.string (strL f)) ∧ Below wr.heap.size wr W' := by
                have h := words_code B zs d wr (HNI.out.keep hB2) (by rw [HYL.out]; omega) HYW.out
                rw [HYL.out] at h
                exact h.mono fun e W' ⟨v, h1, h2, h3⟩ => ⟨v, h1, by unfold RowS at h2; rw [List.length_map, HYL.out] at h2; exact h2, h3⟩
              clear hB2
              go_wp2_with (first
                | (go_at_call 21; refine CW.mono ?_; rintro e w3 ⟨v3, rfl, hrow3, hb3⟩; obtain ⟨A3, c3, rfl, _⟩ := own_form hrow3))
              have HR3 := Go.Lib.hid hrow3
              have HB4 := Go.Lib.hid (HB3.out.trans (hb3.mono HB3.out.size))
              clear hrow3 hb3
              go_loopw [17] (fun iv wr => ∃ i : Nat, i ≤ M ∧ iv = .int .i64 i ∧ Below w3.heap.size w3 wr) (fun iv _ => M - (intOf iv).toNat)
              case atStart => exact ⟨0, Nat.zero_le _, rfl, Below.refl _ _⟩
              case round =>
                obtain ⟨i, hi, rfl, hb5⟩ := hrel
                have HB5 := Go.Lib.hid (HB4.out.trans (hb5.mono HB4.out.size))
                by_cases hlt : i < M
                · have hzi : i < zs.length := by rw [HYL.out]; exact hlt
                  have hrow5 := own_keep HR3.out hb5
                  obtain ⟨g, cap, hv, _, _⟩ := World.ownsRow.form hrow5 (by omega)
                  have hA3 : A3 = some ⟨g, 0, none⟩ := by injection hv
                  subst hA3
                  have hcv : wr.cell? ⟨g, i, none⟩ = some (.string (strL (decI zs[i]))) := by
                    have := World.ownsRow.cellAt (hv ▸ hrow5) i (by omega)
                    rw [this, List.getElem?_map, List.getElem?_map, List.getElem?_eq_getElem hzi]
                    rfl
                  obtain ⟨b, off, rfl, hcs⟩ := (HNI.out.keep HB5.out) (by omega)
                  have hcz := hcs i hzi
                  have CE := fun W => dec_ref zs[i] (HYW.out _ (List.getElem_mem _)) W
                  generalize strL (decI zs[i]) = t at *
                  generalize zs[i] = z at *
                  have CVS : ∀ W, Below wr.heap.size wr W → W.cell? ⟨g, i, none⟩ = some (.string t) := fun W h => (h.cell (World.block_lt_of_cell? wr _ hcv)).trans hcv
                  have CZS : ∀ W, Below wr.heap.size wr W → W.cell? ⟨b, off + i, none⟩ = some (.int .i64 z) := fun W h => (h.cell (World.block_lt_of_cell? wr _ hcz)).trans hcz
                  have HCVS := Go.Lib.hid CVS
                  have HCZS := Go.Lib.hid CZS
                  clear hcs hrow5 hv CVS CZS
                  go_wp2_with fail
                  go_region_with (go_at_call 19; refine (CE _).mono ?_; rintro e w5 ⟨rfl, hb6⟩; have c5 := HCVS.out w5 ((Below.refl _ _).drew.trans hb6); have HB6 := Go.Lib.hid (hb5.trans (((Below.refl wr.heap.size wr).drew.trans hb6).mono hb5.size)); clear hb6)
                  all_goals go_wp2
                  all_goals exact ⟨⟨i + 1, by omega, by go_num, HB6.out⟩, by simp [intOf]; omega⟩
                · obtain ⟨q, hq⟩ : ∃ q, i = q := ⟨_, rfl⟩
                  have hge : ¬ (i : Int) < ((M : Nat) : Int) := by omega
                  go_wp2_with (go_at_call 12; refine (CL _).mono ?_; rintro e w7 ⟨rfl, hb7⟩)
                  go_ret
                  exact ⟨rfl, HB5.out.trans (hb7.mono HB5.out.size)⟩
          · go_wp2_with (first
              | (go_at_call 20; refine CN.mono ?_; rintro e w2 ⟨v2, rfl, hyes, hno, hb2⟩; have hx := hyes rfl; obtain ⟨Ax, cx, rfl, _⟩ := own_form hx))
            have HX := Go.Lib.hid hx
            have HT2 := Go.Lib.hid (HT.out.keep hb2)
            have hB2 := hb.trans (hb2.mono hb.size)
            clear hyes hno hb2 hx hb
            go_loopw [13] (fun iv wr => ∃ i : Nat, i ≤ k ∧ iv = .int .i64 i ∧ w2 = wr) (fun iv _ => k - (intOf iv).toNat)
            case atStart => exact ⟨0, Nat.zero_le _, rfl, rfl⟩
            case round =>
              obtain ⟨i, hik, rfl, rfl⟩ := hrel
              by_cases hlt : i < k
              · have hpi : i < ps.length := by rw [HPL.out]; exact hlt
                obtain ⟨g, cap, hv, _, _⟩ := World.ownsRow.form HX.out (by omega)
                have hAx : Ax = some ⟨g, 0, none⟩ := by injection hv
                subst hAx
                have hcv : w2.cell? ⟨g, i, none⟩ = some (.int .i64 (numV (ps[i]).data.toList)) := by
                  have := World.ownsRow.cellAt (hv ▸ HX.out) i (by omega)
                  rw [this, List.getElem?_map, List.getElem?_eq_getElem hpi]
                  rfl
                obtain ⟨b, off, rfl, hcs⟩ := HT2.out (by omega)
                have hcz := hcs i hpi
                have CR := fun W => number_ref ps[i] W (by have := HPM.out _ (List.getElem_mem hpi); unfold maxLen; omega)
                generalize numV (ps[i]).data.toList = nv at *
                generalize decB (ps[i]).data.toList = dv at *
                generalize ps[i] = px at *
                clear hcs hv
                go_wp2_with (go_at_call 17; refine (CR _).mono ?_; rintro e w5 ⟨rfl, rfl⟩)
                exact ⟨⟨i + 1, by omega, by go_num, by first | rfl | trivial⟩, by simp [intOf]; omega⟩
              · have hge : ¬ (i : Int) < (k : Int) := by omega
                have HB3 := Go.Lib.hid hB2
                have CW : Calls Tryd.prog 21 #[.slice B M d] w2 fun e W' => ∃ v, e = .returned v ∧ W'.ownsRow w2.heap.size 9 1 v M ((zs.map decI).map fun f => Value.string (strL f)) ∧ Below w2.heap.size w2 W' := by
                  have h := words_code B zs d w2 (HNI.out.keep hB2) (by rw [HYL.out]; omega) HYW.out
                  rw [HYL.out] at h
                  exact h.mono fun e W' ⟨v, h1, h2, h3⟩ => ⟨v, h1, by unfold RowS at h2; rw [List.length_map, HYL.out] at h2; exact h2, h3⟩
                clear hB2
                go_wp2_with (first
                  | (go_at_call 21; refine CW.mono ?_; rintro e w3 ⟨v3, rfl, hrow3, hb3⟩; obtain ⟨A3, c3, rfl, _⟩ := own_form hrow3))
                have HR3 := Go.Lib.hid hrow3
                have HB4 := Go.Lib.hid (HB3.out.trans (hb3.mono HB3.out.size))
                clear hrow3 hb3
                go_loopw [17] (fun iv wr => ∃ i : Nat, i ≤ M ∧ iv = .int .i64 i ∧ Below w3.heap.size w3 wr) (fun iv _ => M - (intOf iv).toNat)
                case atStart => exact ⟨0, Nat.zero_le _, rfl, Below.refl _ _⟩
                case round =>
                  obtain ⟨i, hi, rfl, hb5⟩ := hrel
                  have HB5 := Go.Lib.hid (HB4.out.trans (hb5.mono HB4.out.size))
                  by_cases hlt : i < M
                  · have hzi : i < zs.length := by rw [HYL.out]; exact hlt
                    have hrow5 := own_keep HR3.out hb5
                    obtain ⟨g, cap, hv, _, _⟩ := World.ownsRow.form hrow5 (by omega)
                    have hA3 : A3 = some ⟨g, 0, none⟩ := by injection hv
                    subst hA3
                    have hcv : wr.cell? ⟨g, i, none⟩ = some (.string (strL (decI zs[i]))) := by
                      have := World.ownsRow.cellAt (hv ▸ hrow5) i (by omega)
                      rw [this, List.getElem?_map, List.getElem?_map, List.getElem?_eq_getElem hzi]
                      rfl
                    obtain ⟨b, off, rfl, hcs⟩ := (HNI.out.keep HB5.out) (by omega)
                    have hcz := hcs i hzi
                    have CE := fun W => dec_ref zs[i] (HYW.out _ (List.getElem_mem _)) W
                    generalize strL (decI zs[i]) = t at *
                    generalize zs[i] = z at *
                    have CVS : ∀ W, Below wr.heap.size wr W → W.cell? ⟨g, i, none⟩ = some (.string t) := fun W h => (h.cell (World.block_lt_of_cell? wr _ hcv)).trans hcv
                    have CZS : ∀ W, Below wr.heap.size wr W → W.cell? ⟨b, off + i, none⟩ = some (.int .i64 z) := fun W h => (h.cell (World.block_lt_of_cell? wr _ hcz)).trans hcz
                    have HCVS := Go.Lib.hid CVS
                    have HCZS := Go.Lib.hid CZS
                    clear hcs hrow5 hv CVS CZS
                    go_wp2_with fail
                    go_region_with (go_at_call 19; refine (CE _).mono ?_; rintro e w5 ⟨rfl, hb6⟩; have c5 := HCVS.out w5 ((Below.refl _ _).drew.trans hb6); have HB6 := Go.Lib.hid (hb5.trans (((Below.refl wr.heap.size wr).drew.trans hb6).mono hb5.size)); clear hb6)
                    all_goals go_wp2
                    all_goals exact ⟨⟨i + 1, by omega, by go_num, HB6.out⟩, by simp [intOf]; omega⟩
                  · obtain ⟨q, hq⟩ : ∃ q, i = q := ⟨_, rfl⟩
                    have hge : ¬ (i : Int) < ((M : Nat) : Int) := by omega
                    go_wp2_with (go_at_call 12; refine (CL _).mono ?_; rintro e w7 ⟨rfl, hb7⟩)
                    go_ret
                    exact ⟨rfl, HB5.out.trans (hb7.mono HB5.out.size)⟩
section
variable {H : Type} {enc : TypeId × Value → H} {base : Nat}
theorem nums_of_trod {W : World} {v : Value} {dd : DataW H} {p : List MemPlace} (h : DataW.Trod enc Tryd.prog W 0 (fun _ => true) true 38 v dd p) (hv : ∃ A n c, v = .slice A n c) :
    ∃ A n c ys, v = .slice A n c ∧ n ≤ c ∧ c ≤ maxLen ∧ NumsIn W A ys ∧ ys.length = n ∧ ∀ x ∈ ys, -9223372036854775808 ≤ x ∧ x ≤ 9223372036854775807 := by
  obtain ⟨A, n, c, rfl⟩ := hv
  obtain ⟨fuel, hf⟩ := h
  rcases Go.ChangeShapes.open_ints Tryd.underlying38 Tryd.underlying3 (by kernel_rfl) hf with ⟨hcs, _⟩ | ⟨a, len, cap, zs, hcs, _, h1, h2, h3, _, h4, h5⟩
  · simp [Value.cells] at hcs
    obtain ⟨rfl, rfl, rfl⟩ := hcs
    exact ⟨none, 0, 0, [], rfl, Nat.le_refl _, Nat.zero_le _, (fun h => absurd h (by simp)), rfl, fun x hx => by simp at hx⟩
  · simp [Value.cells] at hcs
    obtain ⟨rfl, rfl, rfl⟩ := hcs
    rw [if_pos rfl] at h3
    refine ⟨some a, n, c, zs.take n, rfl, h1, h2, fun h0 => ?_, by rw [List.length_take_of_le (by omega)], fun x hx => wf_iff.1 (h5 x (List.mem_of_mem_take hx))⟩
    rw [List.length_take_of_le (by omega)] at h0
    obtain ⟨b, off, rfl⟩ := addr_plain (h4 0 (by omega)) rfl
    refine ⟨b, off, rfl, fun j hj => ?_⟩
    have hj' : j < zs.length := by rw [List.length_take] at hj; omega
    have := h4 j hj'
    rw [plain_add] at this
    rw [this, List.getElem_take, List.getD_eq_getElem?_getD, List.getElem?_eq_getElem hj']
    rfl
theorem many_frame (W : World) {v0 v1 : Value} {d0 d1 : DataW H} {p0 p1 : List MemPlace} (k0 : DataW.Trod enc Tryd.prog W 0 (fun _ => true) true 29 v0 d0 p0) (o0 : Value.okWide Tryd.prog W .any base 29 v0)
    (k1 : DataW.Trod enc Tryd.prog W 0 (fun _ => true) true 38 v1 d1 p1) (o1 : Value.okWide Tryd.prog W .any base 38 v1) :
    Calls Tryd.prog 6 #[v0, v1] W fun e w' => e = .returned (.bool true) ∧ Below W.heap.size W w' := by
  obtain ⟨A, n, c, S, rfl, h1, h2, h3, h4⟩ := texts_of_trod Tryd.underlying29 Tryd.underlying9 (by kernel_rfl) k0 (Go.WideShapes.okWide_slice Tryd.underlying29 o0)
  obtain ⟨B, m, d, ys, rfl, g1, g2, g3, g4, g5⟩ := nums_of_trod k1 (Go.WideShapes.okWide_slice Tryd.underlying38 o1)
  exact many_any A n c S B m d ys W (by omega) (fun k hk => by obtain ⟨b, off, e, hc⟩ := h3 (by omega); exact ⟨b, off, e, hc k hk⟩) h4 (by omega) g1 g2 g3 g4 g5
end
end Go.Proofs.YtgkfkgioneahpaaDoor
