/- What the document's Same answers on two lists of the same lines, off its code; and what each law asks at its end (lives). -/
import Derived.Test.YtgkfkgioneahpaaDoorTextRef
namespace Go.Proofs.YtgkfkgioneahpaaDoor
open Go.RowKit
set_option linter.unusedVariables false

theorem RowS.at {w : World} {base : Nat} {u : Value} {fs : List (List UInt8)} (h : RowS w base u fs) {j : Nat} (hj : j < fs.length) : ∃ b c, u = .slice (some ⟨b, 0, none⟩) fs.length c ∧ w.cell? ⟨b, j, none⟩ = some (.string (strL fs[j])) := by
  obtain ⟨g, cap, hv, _, _⟩ := World.ownsRow.form h (by omega)
  subst hv
  refine ⟨g, cap, rfl, ?_⟩
  rw [World.ownsRow.cellAt h j (by omega), List.getElem?_map, List.getElem?_eq_getElem hj]
  rfl
theorem LinesOf.at {w : World} {v : Value} {ls : List (List (List UInt8))} (h : LinesOf w v ls) {i : Nat} (hi : i < ls.length) :
    ∃ g cap A c, v = .slice (some ⟨g, 0, none⟩) ls.length cap ∧ w.cell? ⟨g, i, none⟩ = some (.slice A ls[i].length c) ∧
      ∀ j (hj : j < ls[i].length), ∃ b, A = some ⟨b, 0, none⟩ ∧ w.cell? ⟨b, j, none⟩ = some (.string (strL (ls[i][j]))) := by
  obtain ⟨us, hrow, hf⟩ := h
  obtain ⟨hu, hr⟩ := hf.at i hi
  obtain ⟨g, cap, hv, _, _⟩ := World.ownsRow.form hrow (by omega)
  subst hv
  obtain ⟨A, c, e, _⟩ := own_form hr
  refine ⟨g, cap, A, c, rfl, ?_, fun j hj => ?_⟩
  · rw [World.ownsRow.cellAt hrow i (by omega), List.getElem?_eq_getElem hu, e]
  · obtain ⟨b, c', e', hc⟩ := RowS.at hr hj
    rw [e] at e'
    injection e' with e1 _ _
    exact ⟨b, e1, hc⟩
theorem LinesOf.form {w : World} {v : Value} {ls : List (List (List UInt8))} (h : LinesOf w v ls) : ∃ A c, v = .slice A ls.length c := by
  obtain ⟨us, hrow, _⟩ := h
  obtain ⟨A, c, e, _⟩ := own_form hrow
  exact ⟨A, c, e⟩
theorem getD_at {α : Type} (l : List α) (d : α) {i : Nat} (hi : i < l.length) : l.getD i d = l[i] := by rw [List.getD_eq_getElem?_getD, List.getElem?_eq_getElem hi]; rfl
set_option maxRecDepth 100000 in
set_option maxHeartbeats 4000000 in
theorem same_yes (a b : Value) (ls : List (List (List UInt8))) (w : World) (ha : LinesOf w a ls) (hb : LinesOf w b ls) (hn : ls.length ≤ 2000) (hm : ∀ l ∈ ls, l.length ≤ 2000) :
    Calls Tryd.prog 11 #[a, b] w fun e W' => e = .returned (.bool true) ∧ Below w.heap.size w W' := by
  obtain ⟨A, c, rfl⟩ := ha.form
  obtain ⟨B, d, rfl⟩ := hb.form
  obtain ⟨n, hnn⟩ : ∃ n, n = ls.length := ⟨_, rfl⟩
  have HA : Hid (∀ i (hi : i < n), ∃ g A' c', A = some ⟨g, 0, none⟩ ∧ w.cell? ⟨g, i, none⟩ = some (.slice A' (ls.getD i []).length c') ∧ ∀ j (hj : j < (ls.getD i []).length), ∃ b, A' = some ⟨b, 0, none⟩ ∧ w.cell? ⟨b, j, none⟩ = some (.string (strL ((ls.getD i []).getD j [])))) := fun i hi => by
    obtain ⟨g, cap, A', c', e, h1, h2⟩ := ha.at (i := i) (by omega)
    injection e with e1 _ _
    have hd := getD_at ls [] (show i < ls.length by omega)
    exact ⟨g, A', c', e1, by rw [hd]; exact h1, fun j hj => by rw [hd] at hj ⊢; rw [getD_at _ [] hj]; exact h2 j hj⟩
  have HB : Hid (∀ i (hi : i < n), ∃ g A' c', B = some ⟨g, 0, none⟩ ∧ w.cell? ⟨g, i, none⟩ = some (.slice A' (ls.getD i []).length c') ∧ ∀ j (hj : j < (ls.getD i []).length), ∃ b, A' = some ⟨b, 0, none⟩ ∧ w.cell? ⟨b, j, none⟩ = some (.string (strL ((ls.getD i []).getD j [])))) := fun i hi => by
    obtain ⟨g, cap, A', c', e, h1, h2⟩ := hb.at (i := i) (by omega)
    injection e with e1 _ _
    have hd := getD_at ls [] (show i < ls.length by omega)
    exact ⟨g, A', c', e1, by rw [hd]; exact h1, fun j hj => by rw [hd] at hj ⊢; rw [getD_at _ [] hj]; exact h2 j hj⟩
  have HM : Hid (∀ i (hi : i < n), (ls.getD i []).length ≤ 2000) := fun i hi => by rw [getD_at ls [] (show i < ls.length by omega)]; exact hm _ (List.getElem_mem _)
  have hn' : n ≤ 2000 := by omega
  rw [← hnn]
  clear ha hb hm hn hnn
  go_enter Tryd.func11, Tryd.ntmps11
  go_wp2
  go_loopw [5] (fun iv wr => ∃ i : Nat, i ≤ n ∧ iv = .int .i64 i ∧ Below w.heap.size w wr) (fun iv _ => n - (intOf iv).toNat)
  case atStart => exact ⟨0, Nat.zero_le _, rfl, Below.refl _ _⟩
  case round =>
    obtain ⟨i, hi, rfl, hbl⟩ := hrel
    by_cases hlt : i < n
    · obtain ⟨g, A', c', rfl, ca, cas⟩ := HA.out i hlt
      obtain ⟨g2, B', d', rfl, cb, cbs⟩ := HB.out i hlt
      have hm1 := HM.out i hlt
      generalize ls.getD i [] = r at ca cas cb cbs hm1
      have la := World.block_lt_of_cell? w _ ca
      have lb := World.block_lt_of_cell? w _ cb
      have ka := (hbl.cell (p := ⟨g, i, none⟩) la).trans ca
      have kb := (hbl.cell (p := ⟨g2, i, none⟩) lb).trans cb
      have CA := Go.Lib.hid ca
      have CB := Go.Lib.hid cb
      have CAS := Go.Lib.hid cas
      have CBS := Go.Lib.hid cbs
      clear ca cb cas cbs
      generalize hrl : r.length = m at *
      have HRL := Go.Lib.hid hrl
      clear hrl
      go_wp2
      go_region
      go_wp2
      go_loopw [6] (fun kv wr => ∃ k : Nat, k ≤ m ∧ kv = .int .i64 k ∧ Below w.heap.size w wr) (fun kv _ => m - (intOf kv).toNat)
      case atStart => exact ⟨0, Nat.zero_le _, rfl, hbl.drew⟩
      case round =>
        clear ka kb hbl
        obtain ⟨k, hk, rfl, hbl⟩ := hrel
        have ka := (hbl.cell (p := ⟨g, i, none⟩) la).trans CA.out
        have kb := (hbl.cell (p := ⟨g2, i, none⟩) lb).trans CB.out
        by_cases hkm : k < m
        · obtain ⟨x, rfl, cx⟩ := CAS.out k hkm
          obtain ⟨y, rfl, cy⟩ := CBS.out k hkm
          have lx := World.block_lt_of_cell? w _ cx
          have ly := World.block_lt_of_cell? w _ cy
          have kx := (hbl.cell (p := ⟨x, k, none⟩) lx).trans cx
          have ky := (hbl.cell (p := ⟨y, k, none⟩) ly).trans cy
          clear cx cy lx ly
          generalize strL (r.getD k []) = z at kx ky
          go_wp2
          go_region
          go_wp2
          go_roundw
          case rel => exact ⟨k + 1, by omega, by go_num, hbl.drew⟩
          case measure => simp [intOf]; omega
        · obtain rfl : k = m := by omega
          go_wp2
          exact ⟨⟨i + 1, by omega, by go_num, hbl⟩, by simp [intOf]; omega⟩
    · obtain rfl : i = n := by omega
      go_wp2
      go_ret
      exact ⟨rfl, hbl⟩
end Go.Proofs.YtgkfkgioneahpaaDoor
