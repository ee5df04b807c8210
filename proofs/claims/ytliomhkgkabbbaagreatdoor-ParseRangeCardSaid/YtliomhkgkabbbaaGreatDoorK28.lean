import Derived.Test.YtliomhkgkabbbaaGreatDoorK15
import Derived.Test.YtliomhkgkabbbaaGreatDoorK16
import Derived.Test.YtliomhkgkabbbaaGreatDoorK27
section
/- What text.Line, and the document's Line and Word, answer, off their code. -/
namespace Go.Proofs.YtliomhkgkabbbaaGreatDoor
open Go.RowKit
set_option linter.unusedVariables false
set_option maxHeartbeats 2000000 in
theorem line_code (u : Value) (ws : List (List UInt8)) (w : World) (base : Nat) (hu : RowS w base u ws) (h0 : ws ≠ []) (hn : ws.length ≤ 100) (h12 : ∀ x ∈ ws, x.length ≤ 12) :
    Calls Tryz.prog 21 #[u] w fun e W' => e = .returned (.string (strL (lineT ws))) ∧ Below w.heap.size w W' := by
  have hpos : 0 < ws.length := by cases ws with | nil => exact absurd rfl h0 | cons _ _ => simp
  obtain ⟨g, c, rfl, _⟩ := RowS.at hu hpos
  have hg : g < w.heap.size := own_blk hu g rfl
  have hcap : ws.length ≤ c := by obtain ⟨_, _, e, h⟩ := own_form hu; injection e with _ _ e3; omega
  have hm : (ws.map strL).map (·.data.toList) = ws := by
    rw [List.map_map]
    refine (List.map_congr_left fun x _ => ?_).trans (List.map_id _)
    exact strL_list x
  have hbd := lineT_bd h0 h12
  have CJ := Tryz.strings_Join g 0 c (ws.map strL) ⟨#[32]⟩ w (fun j x hj => by
      rw [List.getElem?_map] at hj
      cases hx : ws[j]? with
      | none => rw [hx] at hj; cases hj
      | some y =>
        rw [hx] at hj
        obtain ⟨hjl, hy⟩ := List.getElem?_eq_some_iff.1 hx
        obtain ⟨b, c', e, hc⟩ := RowS.at hu hjl
        injection e with e1 _ _
        injection e1 with e1
        injection e1 with e1
        subst e1
        rw [Nat.zero_add, hc, hy]
        exact congrArg _ (congrArg _ (Option.some.inj hj))) hg (by rw [List.length_map]; omega) (by rw [List.length_map]; exact hcap)
    (by rw [hm]; unfold lineT at hbd; rw [List.length_append] at hbd; show (Lib.join ws [32]).length ≤ _; omega)
  rw [hm, List.length_map] at CJ
  have hsz : (⟨(Lib.join ws [32]).toArray⟩ : ByteArray).size ≤ 1400 := by
    show (strL (Lib.join ws [32])).size ≤ _
    rw [strL_size]; unfold lineT at hbd; rw [List.length_append] at hbd; omega
  have he : strL (lineT ws) = (⟨(Lib.join ws [32]).toArray⟩ : ByteArray) ++ ⟨#[10]⟩ := (strL_app _ _).symm
  rw [he]
  have CJ2 : Calls Tryz.prog 42 #[.slice (some ⟨g, 0, none⟩) ws.length c, .string ⟨#[32]⟩] w fun e w' => e = .returned (.string ⟨(Lib.join ws [32]).toArray⟩) ∧ Below w.heap.size w w' := CJ
  clear CJ he hbd hm hu
  generalize (⟨(Lib.join ws [32]).toArray⟩ : ByteArray) = s at *
  go_enter Tryz.func21, Tryz.ntmps21
  go_wp2_with (go_at_call 42; refine CJ2.mono ?_; rintro e w1 ⟨rfl, hb⟩)
  go_ret
  exact ⟨rfl, hb⟩
set_option maxHeartbeats 2000000 in
theorem line_ref (u : Value) (ws : List (List UInt8)) (w : World) (base : Nat) (hu : RowS w base u ws) (h0 : ws ≠ []) (hn : ws.length ≤ 100) (h12 : ∀ x ∈ ws, x.length ≤ 12) :
    Calls Tryz.prog 32 #[u] w fun e W' => e = .returned (.string (strL (lineT ws))) ∧ w = W' := by
  have hpos : 0 < ws.length := by cases ws with | nil => exact absurd rfl h0 | cons _ _ => simp
  obtain ⟨g, c, rfl, _⟩ := RowS.at hu hpos
  have HC : Hid (∀ j (hj : j < ws.length), w.cell? ⟨g, j, none⟩ = some (.string (strL ws[j]))) := fun j hj => by
    obtain ⟨b, c', e, hc⟩ := RowS.at hu hj
    injection e with e1 _ _
    injection e1 with e1
    injection e1 with e1
    subst e1
    exact hc
  have HJ : Hid (∀ k, k ≤ ws.length → (strL (Lib.join (ws.take k) [32])).size ≤ 1400) := fun k hk => by
    rw [strL_size]
    by_cases hk0 : k = 0
    · subst hk0; simp [Lib.join]
    · have h1 := lineT_bd (ws := ws.take k) (fun e => by have := congrArg List.length e; rw [List.length_take_of_le hk] at this; simp at this; omega) (fun x hx => h12 x (List.mem_of_mem_take hx))
      unfold lineT at h1
      rw [List.length_append, List.length_take_of_le hk] at h1
      omega
  have HS : Hid (∀ k (hk : k < ws.length), 0 < k → strL (Lib.join (ws.take (k + 1)) [32]) = strL (Lib.join (ws.take k) [32]) ++ ⟨#[32]⟩ ++ strL ws[k]) := fun k hk hp => by
    rw [List.take_succ_eq_append_getElem hk, join_snoc (fun e => by have := congrArg List.length e; rw [List.length_take_of_le (by omega)] at this; simp at this; omega)]
    rw [show (⟨#[32]⟩ : ByteArray) = strL [32] from rfl, strL_app, strL_app]
    simp
  have H1 : Hid (strL (Lib.join (ws.take 1) [32]) = ⟨#[]⟩ ++ strL (ws[0]'hpos)) := by
    show _ = _
    rw [List.take_succ_eq_append_getElem hpos, show (⟨#[]⟩ : ByteArray) = strL [] from rfl, strL_app]
    simp [Lib.join_one]
  obtain ⟨T, hT⟩ : ∃ T, strL (lineT ws) = T := ⟨_, rfl⟩
  rw [hT]
  have HE : Hid (∀ k, k = ws.length → T = strL (Lib.join (ws.take k) [32]) ++ ⟨#[10]⟩) := fun k hk => by
    rw [hk, List.take_length, ← hT]
    exact (strL_app _ _).symm
  have H12 : Hid (∀ j (hj : j < ws.length), (strL ws[j]).size ≤ 12) := fun j hj => by rw [strL_size]; exact h12 _ (List.getElem_mem _)
  have H0 : Hid (strL (Lib.join (ws.take 0) [32]) = ⟨#[]⟩) := rfl
  obtain ⟨n, hnn⟩ : ∃ n, n = ws.length := ⟨_, rfl⟩
  have HN := Go.Lib.hid hnn
  rw [← hnn] at hpos hn ⊢
  clear hu hnn h12 h0 hT
  go_enter Tryz.func32, Tryz.ntmps32
  go_wp2
  go_loop [3, 4] (fun sv iv => ∃ k : Nat, k ≤ n ∧ iv = .int .i64 k ∧ sv = .string (strL (Lib.join (ws.take k) [32]))) (fun _ iv => n - (intOf iv).toNat)
  case atStart => exact ⟨0, Nat.zero_le _, rfl, by rw [H0.out]⟩
  case round =>
    obtain ⟨k, hk, rfl, rfl⟩ := hrel
    have hj := HJ.out k (by rw [← HN.out]; exact hk)
    by_cases hlt : k < n
    · have hlt' : k < ws.length := by rw [← HN.out]; exact hlt
      have hck := HC.out k hlt'
      have h12 := H12.out k hlt'
      by_cases hk0 : k = 0
      · subst hk0
        have HX : Hid (strL (Lib.join (ws.take 1) [32]) = strL (Lib.join (ws.take 0) [32]) ++ strL (ws[0]'hlt')) := by show _ = _; rw [H1.out, H0.out]
        generalize strL (Lib.join (ws.take 0) [32]) = s at *
        generalize strL (ws[0]'hlt') = y at *
        go_wp2
        exact ⟨⟨1, by omega, by first | rfl | trivial | go_num, by rw [HX.out]⟩, by simp [intOf]; omega⟩
      · have HX := Go.Lib.hid (HS.out k hlt' (by omega))
        have hkp : (0 : Int) < (k : Int) := by omega
        generalize strL (Lib.join (ws.take k) [32]) = s at *
        generalize strL (ws[k]'hlt') = y at *
        go_wp2
        exact ⟨⟨k + 1, by omega, by go_num, by rw [HX.out]⟩, by simp [intOf]; omega⟩
    · obtain rfl : k = n := by omega
      have HE2 := Go.Lib.hid (HE.out k HN.out)
      generalize strL (Lib.join (ws.take k) [32]) = s at *
      go_wp2
      go_ret
      exact ⟨by rw [HE2.out]; rfl, rfl⟩
theorem info_u8 : (Tryz.prog.info? 5).map (fun i => (i.zero, i.size, i.bytes)) = some (some (.int .u8 0), 1, 1) := by kernel_rfl
end Go.Proofs.YtliomhkgkabbbaaGreatDoor
end
section
/- What text.Line and the document's Line answer, of longer words and rows. -/
namespace Go.Proofs.YtliomhkgkabbbaaGreatDoor
open Go.RowKit
set_option linter.unusedVariables false
set_option maxRecDepth 20000
theorem joinTail_bdK {K : Nat} {r : List (List UInt8)} (h : ∀ x ∈ r, x.length ≤ K) : (Lib.joinTail [32] r).length ≤ (K + 1) * r.length := by
  induction r with
  | nil => simp [Lib.joinTail]
  | cons y r ih =>
    rw [joinTail_cons]
    have h1 := ih fun x hx => h x (List.mem_cons_of_mem _ hx)
    have h2 := h y (by simp)
    have h3 : (K + 1) * (r.length + 1) = (K + 1) * r.length + (K + 1) := by rw [Nat.mul_succ]
    simp only [List.length_cons, List.length_append]
    omega
theorem lineT_bdK {K : Nat} {ws : List (List UInt8)} (h0 : ws ≠ []) (h : ∀ x ∈ ws, x.length ≤ K) : (lineT ws).length ≤ (K + 1) * ws.length := by
  cases ws with
  | nil => exact absurd rfl h0
  | cons w r =>
    unfold lineT
    rw [Lib.join_cons, List.length_append, List.length_append, List.length_singleton, List.length_cons]
    have h1 := joinTail_bdK fun x hx => h x (List.mem_cons_of_mem _ hx)
    have h2 := h w (by simp)
    have h3 : (K + 1) * (r.length + 1) = (K + 1) * r.length + (K + 1) := by rw [Nat.mul_succ]
    omega
set_option maxHeartbeats 2000000 in
theorem line_words (g c n : Nat) (ws : List (List UInt8)) (w : World) (hu : WordsIn w (some ⟨g, 0, none⟩) ws) (hnl : ws.length = n) (hcap : n ≤ c) (h0 : 0 < n) (hn : n ≤ 1000) (h12 : ∀ x ∈ ws, x.length ≤ 64) (T : ByteArray) (hTT : strL (lineT ws) = T) :
    Calls Tryz.prog 21 #[.slice (some ⟨g, 0, none⟩) n c] w fun e W' => e = .returned (.string T) ∧ Below w.heap.size w W' := by
  subst hnl
  subst hTT
  have hne : ws ≠ [] := fun e => by rw [e] at h0; simp at h0
  have hcell : ∀ (j : Nat) (hj : j < ws.length), w.cell? ⟨g, j, none⟩ = some (.string (strL ws[j])) ∧ g < w.heap.size := fun j hj => by
    obtain ⟨b, off, e, hc⟩ := hu j hj
    injection e with e
    injection e with e1 e2
    subst e1; subst e2
    rw [Nat.zero_add] at hc
    exact ⟨hc, World.block_lt_of_cell? w _ hc⟩
  have hg : g < w.heap.size := (hcell 0 h0).2
  have hm : (ws.map strL).map (·.data.toList) = ws := by
    rw [List.map_map]
    refine (List.map_congr_left fun x _ => ?_).trans (List.map_id _)
    exact strL_list x
  have hbd := lineT_bdK hne h12
  have CJ := Tryz.strings_Join g 0 c (ws.map strL) ⟨#[32]⟩ w (fun j x hj => by
      rw [List.getElem?_map] at hj
      cases hx : ws[j]? with
      | none => rw [hx] at hj; cases hj
      | some y =>
        rw [hx] at hj
        obtain ⟨hjl, hy⟩ := List.getElem?_eq_some_iff.1 hx
        rw [Nat.zero_add, (hcell j hjl).1, hy]
        exact congrArg _ (congrArg _ (Option.some.inj hj))) hg (by rw [List.length_map]; omega) (by rw [List.length_map]; exact hcap)
    (by rw [hm]; unfold lineT at hbd; rw [List.length_append] at hbd; show (Lib.join ws [32]).length ≤ _; omega)
  rw [hm, List.length_map] at CJ
  have hsz : (⟨(Lib.join ws [32]).toArray⟩ : ByteArray).size ≤ 65100 := by
    show (strL (Lib.join ws [32])).size ≤ _
    rw [strL_size]; unfold lineT at hbd; rw [List.length_append] at hbd; omega
  have he : strL (lineT ws) = (⟨(Lib.join ws [32]).toArray⟩ : ByteArray) ++ ⟨#[10]⟩ := (strL_app _ _).symm
  rw [he]
  have CJ2 : Calls Tryz.prog 42 #[.slice (some ⟨g, 0, none⟩) ws.length c, .string ⟨#[32]⟩] w fun e w' => e = .returned (.string ⟨(Lib.join ws [32]).toArray⟩) ∧ Below w.heap.size w w' := CJ
  clear CJ he hbd hm hu hcell hne h12
  generalize (⟨(Lib.join ws [32]).toArray⟩ : ByteArray) = s at *
  go_enter Tryz.func21, Tryz.ntmps21
  go_wp2_with (go_at_call 42; refine CJ2.mono ?_; rintro e w1 ⟨rfl, hb⟩)
  go_ret
  exact ⟨rfl, hb⟩
set_option maxHeartbeats 2000000 in
theorem line_refK (u : Value) (ws : List (List UInt8)) (w : World) (base : Nat) (hu : RowS w base u ws) (h0 : ws ≠ []) (hn : ws.length ≤ 1000) (h12 : ∀ x ∈ ws, x.length ≤ 64) :
    Calls Tryz.prog 32 #[u] w fun e W' => e = .returned (.string (strL (lineT ws))) ∧ w = W' := by
  have hpos : 0 < ws.length := by cases ws with | nil => exact absurd rfl h0 | cons _ _ => simp
  obtain ⟨g, c, rfl, _⟩ := RowS.at hu hpos
  have HC : Hid (∀ j (hj : j < ws.length), w.cell? ⟨g, j, none⟩ = some (.string (strL ws[j]))) := fun j hj => by
    obtain ⟨b, c', e, hc⟩ := RowS.at hu hj
    injection e with e1 _ _
    injection e1 with e1
    injection e1 with e1
    subst e1
    exact hc
  have HJ : Hid (∀ k, k ≤ ws.length → (strL (Lib.join (ws.take k) [32])).size ≤ 65100) := fun k hk => by
    rw [strL_size]
    by_cases hk0 : k = 0
    · subst hk0; simp [Lib.join]
    · have h1 := lineT_bdK (ws := ws.take k) (fun e => by have := congrArg List.length e; rw [List.length_take_of_le hk] at this; simp at this; omega) (fun x hx => h12 x (List.mem_of_mem_take hx))
      unfold lineT at h1
      rw [List.length_append, List.length_take_of_le hk] at h1
      omega
  have HS : Hid (∀ k (hk : k < ws.length), 0 < k → strL (Lib.join (ws.take (k + 1)) [32]) = strL (Lib.join (ws.take k) [32]) ++ ⟨#[32]⟩ ++ strL ws[k]) := fun k hk hp => by
    rw [List.take_succ_eq_append_getElem hk, join_snoc (fun e => by have := congrArg List.length e; rw [List.length_take_of_le (by omega)] at this; simp at this; omega)]
    rw [show (⟨#[32]⟩ : ByteArray) = strL [32] from rfl, strL_app, strL_app]
    simp
  have H1 : Hid (strL (Lib.join (ws.take 1) [32]) = ⟨#[]⟩ ++ strL (ws[0]'hpos)) := by
    show _ = _
    rw [List.take_succ_eq_append_getElem hpos, show (⟨#[]⟩ : ByteArray) = strL [] from rfl, strL_app]
    simp [Lib.join_one]
  obtain ⟨T, hT⟩ : ∃ T, strL (lineT ws) = T := ⟨_, rfl⟩
  rw [hT]
  have HE : Hid (∀ k, k = ws.length → T = strL (Lib.join (ws.take k) [32]) ++ ⟨#[10]⟩) := fun k hk => by
    rw [hk, List.take_length, ← hT]
    exact (strL_app _ _).symm
  have H12 : Hid (∀ j (hj : j < ws.length), (strL ws[j]).size ≤ 64) := fun j hj => by rw [strL_size]; exact h12 _ (List.getElem_mem _)
  have H0 : Hid (strL (Lib.join (ws.take 0) [32]) = ⟨#[]⟩) := rfl
  obtain ⟨n, hnn⟩ : ∃ n, n = ws.length := ⟨_, rfl⟩
  have HN := Go.Lib.hid hnn
  rw [← hnn] at hpos hn ⊢
  clear hu hnn h12 h0 hT
  go_enter Tryz.func32, Tryz.ntmps32
  go_wp2
  go_loop [3, 4] (fun sv iv => ∃ k : Nat, k ≤ n ∧ iv = .int .i64 k ∧ sv = .string (strL (Lib.join (ws.take k) [32]))) (fun _ iv => n - (intOf iv).toNat)
  case atStart => exact ⟨0, Nat.zero_le _, rfl, by rw [H0.out]⟩
  case round =>
    obtain ⟨k, hk, rfl, rfl⟩ := hrel
    have hj := HJ.out k (by rw [← HN.out]; exact hk)
    by_cases hlt : k < n
    · have hlt' : k < ws.length := by rw [← HN.out]; exact hlt
      have hck := HC.out k hlt'
      have h12 := H12.out k hlt'
      by_cases hk0 : k = 0
      · subst hk0
        have HX : Hid (strL (Lib.join (ws.take 1) [32]) = strL (Lib.join (ws.take 0) [32]) ++ strL (ws[0]'hlt')) := by show _ = _; rw [H1.out, H0.out]
        generalize strL (Lib.join (ws.take 0) [32]) = s at *
        generalize strL (ws[0]'hlt') = y at *
        go_wp2
        exact ⟨⟨1, by omega, by first | rfl | trivial | go_num, by rw [HX.out]⟩, by simp [intOf]; omega⟩
      · have HX := Go.Lib.hid (HS.out k hlt' (by omega))
        have hkp : (0 : Int) < (k : Int) := by omega
        generalize strL (Lib.join (ws.take k) [32]) = s at *
        generalize strL (ws[k]'hlt') = y at *
        go_wp2
        exact ⟨⟨k + 1, by omega, by go_num, by rw [HX.out]⟩, by simp [intOf]; omega⟩
    · obtain rfl : k = n := by omega
      have HE2 := Go.Lib.hid (HE.out k HN.out)
      generalize strL (Lib.join (ws.take k) [32]) = s at *
      go_wp2
      go_ret
      exact ⟨by rw [HE2.out]; rfl, rfl⟩
end Go.Proofs.YtliomhkgkabbbaaGreatDoor
end
