import Derived.Test.YtliomhkgkabbbaaGreatDoorK28
import Derived.Test.YtliomhkgkabbbaaGreatDoorK29
import Derived.Test.YtliomhkgkabbbaaGreatDoorK17
import Derived.Test.YtliomhkgkabbbaaGreatDoorK20
section
/- What Print's closure does, off its code: one more line is written into the builder. -/
namespace Go.Proofs.YtliomhkgkabbbaaGreatDoor
open Go.RowKit
set_option linter.unusedVariables false
set_option maxRecDepth 20000
/-- A builder of the call's own in block b, holding these bytes. -/
def BuildsAt (W : World) (b : Nat) (l : List UInt8) : Prop := Lib.IsBuilder 49 5 b b (Lib.byteCells l) W
theorem BuildsAt.keep {W W' : World} {b : Nat} {l : List UInt8} (h : BuildsAt W b l) (hb : Below W.heap.size W W') : BuildsAt W' b l := by
  have k : ∀ {p : Value} {bs : List Value}, Lib.BuilderAt 49 5 b b p bs W → Lib.BuilderAt 49 5 b b p bs W' := fun {p bs} h => by
    obtain ⟨h1, v, h2, h3, h4⟩ := h
    exact ⟨h1, v, (hb.block b (Array.getElem?_eq_some_iff.1 h2).1).trans h2, own_keep h3 hb, h4⟩
  exact h.imp k k
theorem BuildsAt.lt {W : World} {b : Nat} {l : List UInt8} (h : BuildsAt W b l) : b < W.heap.size := by
  rcases h with h | h <;> exact h.lt
theorem BuildsAt.fresh (w : World) : BuildsAt (w.alloc (.cells #[.pointer none, .slice none 0 0] 49)) w.heap.size [] :=
  .inl ⟨Nat.le_refl _, .slice none 0 0, heap_alloc_new w _, World.ownsRow_nil _ _ _ _, by simp [Value.ownBlock]⟩
theorem cells_app (a b : List UInt8) : Lib.byteCells a ++ Lib.strCells (strL b) = Lib.byteCells (a ++ b) := by
  rw [Lib.byteCells_append, Lib.strCells_eq, strL_list]
theorem cells_len (a : List UInt8) : (Lib.byteCells a).length = a.length := Lib.byteCells_length a
set_option maxHeartbeats 2000000 in
theorem told_any (b g c n : Nat) (l : List UInt8) (ws : List (List UInt8)) (w : World) (hB : BuildsAt w b l) (hl : l.length ≤ 1000000000) (hu : WordsIn w (some ⟨g, 0, none⟩) ws) (hnl : ws.length = n) (hcap : n ≤ c) (h0 : 0 < n) (hn : n ≤ 1000) (h12 : ∀ x ∈ ws, x.length ≤ 64) :
    Calls Tryz.prog 19 #[.slice (some ⟨g, 0, none⟩) n c, .pointer (some ⟨b, 0, none⟩)] w fun e W' => e = .returned (.tuple #[]) ∧ BuildsAt W' b (l ++ lineT ws) ∧ Below b w W' := by
  obtain ⟨T, hT⟩ : ∃ T, strL (lineT ws) = T := ⟨_, rfl⟩
  have hTs : T.size ≤ 65100 := by
    rw [← hT, strL_size]
    have := lineT_bdK (ws := ws) (fun e => by rw [e] at hnl; simp at hnl; omega) h12
    omega
  have CL := line_words g c n ws w hu hnl hcap h0 hn h12 T hT
  have HB := Go.Lib.hid hB
  have HF : Hid (∀ W, Lib.BuilderAt 49 5 b b (.pointer (some ⟨b, 0, none⟩)) (Lib.byteCells l ++ Lib.strCells T) W → BuildsAt W b (l ++ lineT ws)) := fun W h => by
    rw [← hT, cells_app] at h
    exact .inr h
  have hbl : (Lib.byteCells l).length + T.size ≤ 140737488355328 := by rw [cells_len]; omega
  clear hB hu hnl h12 hT hl
  go_enter Tryz.func19, Tryz.ntmps19
  go_wp2_with (first
    | (go_at_call 21; refine CL.mono ?_; rintro e w1 ⟨rfl, hb1⟩; have HB1 := Go.Lib.hid (HB.out.keep hb1))
    | (go_at_call 20; refine (write_string b b _ T _ HB1.out hbl (Nat.le_of_lt HB1.out.lt)).mono ?_; rintro e w2 ⟨rfl, h2, hb2⟩))
  go_end0
  exact ⟨rfl, HF.out _ h2, (hb1.mono (Nat.le_of_lt HB.out.lt)).trans hb2⟩
/-- .. of words that have just been laid. -/
theorem told_lit (b H n : Nat) (l : List UInt8) (ws : List (List UInt8)) (w : World) (hB : BuildsAt w b l) (hH : w.heap.size = H) (hl : l.length ≤ 1000000000) (hnl : ws.length = n) (h0 : 0 < n) (hn : n ≤ 1000) (h12 : ∀ x ∈ ws, x.length ≤ 64) :
    Calls Tryz.prog 19 #[.slice (some ⟨H, 0, none⟩) n n, .pointer (some ⟨b, 0, none⟩)] (w.alloc (.cells (ws.map fun x => Value.string (strL x)).toArray 9)) fun e W' => e = .returned (.tuple #[]) ∧ BuildsAt W' b (l ++ lineT ws) ∧ Below b w W' := by
  subst hH
  refine (told_any b w.heap.size n n l ws _ (hB.keep (below_alloc _ _)) hl (words_lit w 9 ws) hnl (Nat.le_refl _) h0 hn h12).mono fun e W' ⟨h1, h2, h3⟩ => ⟨h1, h2, ?_⟩
  exact ((below_alloc w _).mono (Nat.le_of_lt hB.lt)).trans h3
theorem told_litD (b H n : Nat) (l : List UInt8) (ws : List (List UInt8)) (w : World) (hB : BuildsAt w b l) (hH : w.heap.size = H) (hl : l.length ≤ 1000000000) (hnl : ws.length = n) (h0 : 0 < n) (hn : n ≤ 1000) (h12 : ∀ x ∈ ws, x.length ≤ 64) :
    Calls Tryz.prog 19 #[.slice (some ⟨H, 0, none⟩) n n, .pointer (some ⟨b, 0, none⟩)] (w.alloc (.cells (ws.map fun x => Value.string (strL x)).toArray 9)).drew fun e W' => e = .returned (.tuple #[]) ∧ BuildsAt W' b (l ++ lineT ws) ∧ Below b w W' := by
  subst hH
  refine (told_any b w.heap.size n n l ws _ (hB.keep (below_alloc _ _).drew) hl ((words_lit w 9 ws).keep (below_drew _)) hnl (Nat.le_refl _) h0 hn h12).mono fun e W' ⟨h1, h2, h3⟩ => ⟨h1, h2, ?_⟩
  exact ((below_alloc w _).drew.mono (Nat.le_of_lt hB.lt)).trans h3
/-- .. of words that came out of a call. -/
theorem told_row (b base : Nat) (l : List UInt8) (v : Value) (ws : List (List UInt8)) (w : World) (hB : BuildsAt w b l) (hr : RowS w base v ws) (hl : l.length ≤ 1000000000) (h0 : ws ≠ []) (hn : ws.length ≤ 1000) (h12 : ∀ x ∈ ws, x.length ≤ 64) :
    Calls Tryz.prog 19 #[v, .pointer (some ⟨b, 0, none⟩)] w fun e W' => e = .returned (.tuple #[]) ∧ BuildsAt W' b (l ++ lineT ws) ∧ Below b w W' := by
  have hpos : 0 < ws.length := by cases ws with | nil => exact absurd rfl h0 | cons _ _ => simp
  obtain ⟨g, c, rfl, _⟩ := RowS.at hr hpos
  have hcap : ws.length ≤ c := by obtain ⟨_, _, e, h⟩ := own_form hr; injection e with _ _ e3; omega
  exact told_any b g c _ l ws w hB hl hr.words rfl hcap hpos hn h12
end Go.Proofs.YtliomhkgkabbbaaGreatDoor
end
