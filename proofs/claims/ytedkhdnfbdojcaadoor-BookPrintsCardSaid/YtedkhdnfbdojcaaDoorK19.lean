import Derived.Test.YtedkhdnfbdojcaaDoorK17
import Derived.Test.YtedkhdnfbdojcaaDoorK18
import Derived.Shelf.Strings.BuilderK
section
/- A builder of the call's own, and what is kept beside it: the form that reaches above the builder. -/
namespace Go.Proofs.YtedkhdnfbdojcaaDoor
open Go.RowKit
set_option linter.unusedVariables false
set_option maxRecDepth 20000
/-- A builder of the call's own in block b, holding these bytes. -/
def BuildsF (W : World) (b : Nat) (l : List UInt8) : Prop := Lib.IsBuilderF 47 5 b b (Lib.byteCells l) W
theorem own_keepF {w w' : World} {base n size : Nat} {e : TypeId} {v : Value} {xs : List Value} (h : w.ownsRowF base e size v n xs) (hb : Below w.heap.size w w') : w'.ownsRowF base e size v n xs := by
  refine ⟨h.1, ?_⟩
  rcases h.2 with h0 | ⟨g, cap, cur, fz, hv, hg, hh, r⟩
  · exact .inl h0
  · exact .inr ⟨g, cap, cur, fz, hv, hg, (hb.block g (Array.getElem?_eq_some_iff.1 hh).1).trans hh, r⟩
theorem BuildsF.keep {W W' : World} {b : Nat} {l : List UInt8} (h : BuildsF W b l) (hb : Below W.heap.size W W') : BuildsF W' b l := by
  have k : ∀ {p : Value} {bs : List Value}, Lib.BuilderAtF 47 5 b b p bs W → Lib.BuilderAtF 47 5 b b p bs W' := fun {p bs} h => by
    obtain ⟨h1, v, h2, h3, h4⟩ := h
    exact ⟨h1, v, (hb.block b (Array.getElem?_eq_some_iff.1 h2).1).trans h2, own_keepF h3 hb, h4⟩
  exact h.imp k k
theorem BuildsF.lt {W : World} {b : Nat} {l : List UInt8} (h : BuildsF W b l) : b < W.heap.size := by
  rcases h with h | h <;> exact h.lt
theorem BuildsF.fresh (w : World) : BuildsF (w.alloc (.cells #[.pointer none, .slice none 0 0] 47)) w.heap.size [] :=
  Lib.IsBuilderF.of (.inl ⟨Nat.le_refl _, .slice none 0 0, heap_alloc_new w _, World.ownsRow_nil _ _ _ _, by simp [Value.ownBlock]⟩)
theorem cells_appF (a b : List UInt8) : Lib.byteCells a ++ Lib.strCells (strL b) = Lib.byteCells (a ++ b) := by
  rw [Lib.byteCells_append, Lib.strCells_eq, strL_list]
theorem others_below {e : TypeId} {b : Option Nat} {w w' : World} (h : Below w.heap.size w w') : Lib.OthersKept e b w w' := fun k o hk _ _ => (h.block k (Array.getElem?_eq_some_iff.1 hk).1).trans hk
theorem box_others {e t : TypeId} {b g : Nat} {w w' : World} {v : Value} (h : Lib.OthersKept e (some b) w w') (hx : Boxed w g t v) (hg : g ≠ b) (ht : t ≠ e) : Boxed w' g t v :=
  h g _ hx (fun e => hg (Option.some.inj e)) (fun c fz e => by injection e with _ e _; exact ht e)
theorem write_stringF (b : Nat) (l : List UInt8) (x : List UInt8) (T : ByteArray) (hT : strL x = T) (w : World) (h : BuildsF w b l) (hlen : l.length + T.size ≤ 140737488355328) :
    Calls Tryd.prog 12 #[.pointer (some ⟨b, 0, none⟩), .string T] w fun e w' => e = .returned (.tuple #[.int .i64 T.size, .nilIface]) ∧ BuildsF w' b (l ++ x) ∧ Below b w w' ∧ Lib.OthersKept 5 (some b) w w' := by
  subst hT
  refine (Any.Builder_WriteString_k layW layW_extra b b (Lib.byteCells l) (strL x) w h (by rw [Lib.byteCells_length]; exact hlen) (Nat.le_of_lt h.lt)).mono ?_
  rintro e w' ⟨rfl, h1, h2, h3⟩
  rw [cells_appF] at h1
  exact ⟨rfl, .inr h1, h2, h3⟩
end Go.Proofs.YtedkhdnfbdojcaaDoor
end
section
/- What the closure of book's Print does, off its code: one more line is written into the builder. -/
namespace Go.Proofs.YtedkhdnfbdojcaaDoor
open Go.RowKit
set_option linter.unusedVariables false
set_option maxRecDepth 20000
/-- A line more, and nothing else beside the builder. -/
def PTold (b : Nat) (l : List UInt8) (ws : List (List UInt8)) (w : World) (e : Ending) (W' : World) : Prop := e = .returned (.tuple #[]) ∧ BuildsF W' b (l ++ lineT ws) ∧ Below b w W' ∧ Lib.OthersKept 5 (some b) w W'
set_option maxHeartbeats 2000000 in
theorem ptold_any (b g c n : Nat) (l : List UInt8) (ws : List (List UInt8)) (w : World) (hB : BuildsF w b l) (hl : l.length ≤ 1000000000) (hu : WordsIn w (some ⟨g, 0, none⟩) ws) (hnl : ws.length = n) (hcap : n ≤ c) (h0 : 0 < n) (hn : n ≤ 1000) (h12 : ∀ x ∈ ws, x.length ≤ 64) :
    Calls Tryd.prog 11 #[.slice (some ⟨g, 0, none⟩) n c, .pointer (some ⟨b, 0, none⟩)] w (PTold b l ws w) := by
  obtain ⟨T, hT⟩ : ∃ T, strL (lineT ws) = T := ⟨_, rfl⟩
  have hTs : T.size ≤ 65100 := by
    rw [← hT, strL_size]
    have := lineT_bdK (ws := ws) (fun e => by rw [e] at hnl; simp at hnl; omega) h12
    omega
  have CL := line_words g c n ws w hu hnl hcap h0 hn h12 T hT
  have HB := Go.Lib.hid hB
  have CWR := fun W h => write_stringF b l (lineT ws) T hT W h (by omega)
  clear hB hu hnl h12 hT hl
  go_enter Tryd.func11, Tryd.ntmps11
  go_wp2_with (first
    | (go_at_call 13; refine CL.mono ?_; rintro e w1 ⟨rfl, hb1⟩; have HB1 := Go.Lib.hid (HB.out.keep hb1))
    | (go_at_call 12; refine (CWR _ HB1.out).mono ?_; rintro e w2 ⟨rfl, h2, hb2, ho2⟩))
  go_end0
  exact ⟨rfl, h2, (hb1.mono (Nat.le_of_lt HB.out.lt)).trans hb2, (others_below hb1).trans ho2⟩
/-- .. of words that have just been laid. -/
theorem ptold_lit (b H n : Nat) (l : List UInt8) (ws : List (List UInt8)) (w : World) (hB : BuildsF w b l) (hH : w.heap.size = H) (hl : l.length ≤ 1000000000) (hnl : ws.length = n) (h0 : 0 < n) (hn : n ≤ 1000) (h12 : ∀ x ∈ ws, x.length ≤ 64) :
    Calls Tryd.prog 11 #[.slice (some ⟨H, 0, none⟩) n n, .pointer (some ⟨b, 0, none⟩)] (w.alloc (.cells (ws.map fun x => Value.string (strL x)).toArray 9)) (PTold b l ws w) := by
  subst hH
  refine (ptold_any b w.heap.size n n l ws _ (hB.keep (below_alloc _ _)) hl (words_lit w 9 ws) hnl (Nat.le_refl _) h0 hn h12).mono fun e W' ⟨h1, h2, h3, h4⟩ => ⟨h1, h2, ?_, (others_below (below_alloc w _)).trans h4⟩
  exact ((below_alloc w _).mono (Nat.le_of_lt hB.lt)).trans h3
/-- .. of words that came out of a call. -/
theorem ptold_row (b base : Nat) (l : List UInt8) (v : Value) (ws : List (List UInt8)) (w : World) (hB : BuildsF w b l) (hr : RowS w base v ws) (hl : l.length ≤ 1000000000) (h0 : ws ≠ []) (hn : ws.length ≤ 1000) (h12 : ∀ x ∈ ws, x.length ≤ 64) :
    Calls Tryd.prog 11 #[v, .pointer (some ⟨b, 0, none⟩)] w (PTold b l ws w) := by
  have hpos : 0 < ws.length := by cases ws with | nil => exact absurd rfl h0 | cons _ _ => simp
  obtain ⟨g, c, rfl, _⟩ := RowS.at hr hpos
  have hcap : ws.length ≤ c := by obtain ⟨_, _, e, h⟩ := own_form hr; injection e with _ _ e3; omega
  exact ptold_any b g c _ l ws w hB hl hr.words rfl hcap hpos hn h12
end Go.Proofs.YtedkhdnfbdojcaaDoor
end
