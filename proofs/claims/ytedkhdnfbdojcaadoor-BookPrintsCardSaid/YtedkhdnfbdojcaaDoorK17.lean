import Derived.Test.YtedkhdnfbdojcaaDoorK14
import Derived.Test.YtedkhdnfbdojcaaDoorK02
import Derived.Test.YtedkhdnfbdojcaaDoorK15
section
/- What text.Line answers, of longer words and rows. -/
namespace Go.Proofs.YtedkhdnfbdojcaaDoor
open Go.RowKit Go.Shelf
set_option linter.unusedVariables false
set_option maxRecDepth 20000
set_option maxHeartbeats 2000000 in
theorem line_words (g c n : Nat) (ws : List (List UInt8)) (w : World) (hu : WordsIn w (some ⟨g, 0, none⟩) ws) (hnl : ws.length = n) (hcap : n ≤ c) (h0 : 0 < n) (hn : n ≤ 1000) (h12 : ∀ x ∈ ws, x.length ≤ 64) (T : ByteArray) (hTT : strL (lineT ws) = T) :
    Calls Tryd.prog 13 #[.slice (some ⟨g, 0, none⟩) n c] w fun e W' => e = .returned (.string T) ∧ Below w.heap.size w W' := by
  subst hnl
  subst hTT
  have hne : ws ≠ [] := fun e => by rw [e] at h0; simp at h0
  have hcell : ∀ (j : Nat) (hj : j < ws.length), w.cell? ⟨g, j, none⟩ = some (.string (strL ws[j])) ∧ g < w.heap.size := fun j hj => by
    obtain ⟨b, off, e, hc⟩ := hu j hj
    injection e with e
    injection e with e1 e2
    subst e1; subst e2
    rw [Nat.zero_add] at hc
    exact ⟨hc, World.block_lt_of_cell? w _ hc⟩
  have hg : g < w.heap.size := (hcell 0 h0).2
  have hm : (ws.map strL).map (·.data.toList) = ws := by
    rw [List.map_map]
    refine (List.map_congr_left fun x _ => ?_).trans (List.map_id _)
    exact strL_list x
  have hbd := lineT_bdK hne h12
  have CJ := Tryd.strings_Join g 0 c (ws.map strL) ⟨#[32]⟩ w (fun j x hj => by
      rw [List.getElem?_map] at hj
      cases hx : ws[j]? with
      | none => rw [hx] at hj; cases hj
      | some y =>
        rw [hx] at hj
        obtain ⟨hjl, hy⟩ := List.getElem?_eq_some_iff.1 hx
        rw [Nat.zero_add, (hcell j hjl).1, hy]
        exact congrArg _ (congrArg _ (Option.some.inj hj))) hg (by rw [List.length_map]; omega) (by rw [List.length_map]; exact hcap)
    (by rw [hm]; unfold lineT at hbd; rw [List.length_append] at hbd; show (Lib.join ws [32]).length ≤ _; omega)
  rw [hm, List.length_map] at CJ
  have hsz : (⟨(Lib.join ws [32]).toArray⟩ : ByteArray).size ≤ 65100 := by
    show (strL (Lib.join ws [32])).size ≤ _
    rw [strL_size]; unfold lineT at hbd; rw [List.length_append] at hbd; omega
  have he : strL (lineT ws) = (⟨(Lib.join ws [32]).toArray⟩ : ByteArray) ++ ⟨#[10]⟩ := (strL_cat _ _).symm
  rw [he]
  have CJ2 : Calls Tryd.prog 24 #[.slice (some ⟨g, 0, none⟩) ws.length c, .string ⟨#[32]⟩] w fun e w' => e = .returned (.string ⟨(Lib.join ws [32]).toArray⟩) ∧ Below w.heap.size w w' := CJ
  clear CJ he hbd hm hu hcell hne h12
  generalize (⟨(Lib.join ws [32]).toArray⟩ : ByteArray) = s at *
  go_enter Tryd.func13, Tryd.ntmps13
  go_wp2_with (go_at_call 24; refine CJ2.mono ?_; rintro e w1 ⟨rfl, hb⟩)
  go_ret
  exact ⟨rfl, hb⟩
end Go.Proofs.YtedkhdnfbdojcaaDoor
end
