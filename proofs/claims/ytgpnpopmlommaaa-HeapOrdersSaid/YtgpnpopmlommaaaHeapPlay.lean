/- A heap beside the document's list: like and does. -/
import Derived.Test.YtgpnpopmlommaaaHeapDocC
import Derived.Test.YtgpnpopmlommaaaHeapTwo
namespace Go.Proofs.Ytgpnpopmlommaaa
open Go.RowKit Go.Maps
set_option linter.unusedVariables false
/-- A heap that has l, beside a list that is r; w0: where the law began. -/
def PlayMid (w0 : World) (g : Nat) (l r : List (Thing Int)) (A : Option Addr) (n c : Nat) (w : World) : Prop :=
  ∃ F, HoldsI w g F l ∧ Items w A n c r F ∧ Below w0.heap.size w0 w ∧ ∀ b ∈ F, w0.heap.size ≤ b
theorem PlayMid.below {w0 w w' : World} {g n c : Nat} {l r : List (Thing Int)} {A : Option Addr} (h : PlayMid w0 g l r A n c w) (hb : Below w.heap.size w w') : PlayMid w0 g l r A n c w' := by
  obtain ⟨F, h1, h2, h3, h4⟩ := h
  exact ⟨F, h1.below hb, h2.below hb, h3.trans (hb.mono h3.size), h4⟩
theorem PlayMid.base {w0 w : World} {g n c : Nat} {l r : List (Thing Int)} {A : Option Addr} (h : PlayMid w0 g l r A n c w) : Below w0.heap.size w0 w := by
  obtain ⟨F, h1, h2, h3, h4⟩ := h
  exact h3
theorem PlayMid.turn {w0 w w' : World} {g n c : Nat} {l l' r : List (Thing Int)} {A : Option Addr} {F F' : List Nat} (h2 : Items w A n c r F) (h3 : Below w0.heap.size w0 w) (h4 : ∀ b ∈ F, w0.heap.size ≤ b) (h : HoldsI w' g F' l') (ht : Turned F F' w w') : PlayMid w0 g l' r A n c w' :=
  ⟨F', h, h2.only ht.1 ht.2, ht.1.over h3 h4, fun b hb => by rcases ht.2 b hb with e | e; exact h4 b e; have := h3.size; omega⟩
section
variable {w0 : World} {g n c : Nat} {l : List (Thing Int)} {A : Option Addr}
theorem play_ref {f : FuncId} {args : Array Value} {l' : List (Thing Int)} {b : Bool} {w1 : World} (h : PlayMid w0 g l l A n c w1)
    (hc : ∀ F, Items w1 A n c l F → (∀ b ∈ F, b < w1.heap.size) → Calls Try.prog f args w1 (RefPost w1 l' b F)) :
    Calls Try.prog f args w1 fun e w' => ∃ A' n' c', e = .returned (.tuple #[.slice A' n' c', .bool b]) ∧ PlayMid w0 g l l' A' n' c' w' ∧ Below w1.heap.size w1 w' := by
  obtain ⟨F, h1, h2, h3, h4⟩ := h
  refine (hc F h2 h1.blocks).mono ?_
  rintro e w' ⟨A', n', c', rfl, g1, g2⟩
  exact ⟨A', n', c', rfl, ⟨F, h1.below g2, g1, h3.trans (g2.mono h3.size), h4⟩, g2⟩
theorem play_heap {f : FuncId} {args : Array Value} {l' r : List (Thing Int)} {b : Bool} {w1 : World} (h : PlayMid w0 g l r A n c w1)
    (hc : ∀ F, HoldsI w1 g F l → Calls Try.prog f args w1 fun e w' => e = .returned (.bool b) ∧ PutPost w1 g F l' w') :
    Calls Try.prog f args w1 fun e w' => e = .returned (.bool b) ∧ PlayMid w0 g l' r A n c w' := by
  obtain ⟨F, h1, h2, h3, h4⟩ := h
  refine (hc F h1).mono ?_
  rintro e w' ⟨rfl, F', g1, g2⟩
  exact ⟨rfl, .turn (l := l) h2 h3 h4 g1 g2⟩
end
def DoesPost (w0 : World) (g : Nat) (l : List (Thing Int)) (e : Ending) (w' : World) : Prop := ∃ A n c l', e = .returned (.tuple #[.slice A n c, .bool true]) ∧ PlayMid w0 g l' l' A n c w' ∧ l'.length ≤ l.length + 1
theorem len_put {l : List (Thing Int)} {x : Thing Int} : (if isIn l x.1 = true then l else ins LtI x l).length ≤ l.length + 1 := by
  split
  · omega
  · rw [ins_len]; exact Nat.le_refl _
theorem len_change {l : List (Thing Int)} {x : Thing Int} : (if isIn l x.1 = true then ins LtI x (del l x.1) else l).length ≤ l.length + 1 := by
  split
  · rw [ins_len]; have : (del l x.1).length ≤ l.length := List.length_filter_le _ _; omega
  · omega
theorem len_del {l : List (Thing Int)} {id : Int} : (del l id).length ≤ l.length + 1 := by have : (del l id).length ≤ l.length := List.length_filter_le _ _; omega
theorem box_two {w w2 : World} {a b d : Value} {t : TypeId} (h : Below (w.alloc (.cells #[a, b, d] t)).heap.size (w.alloc (.cells #[a, b, d] t)) w2) : w2.cell? ⟨w.heap.size, 1, none⟩ = some b ∧ w2.cell? ⟨w.heap.size, 2, none⟩ = some d := by
  have h1 := (BlkIs.fresh w t #[a, b, d]).below h (by simp)
  have c1 := h1.cellAt 1
  have c2 := h1.cellAt 2
  simp at c1 c2
  exact ⟨c1, c2⟩
section
variable {w0 w : World} {g n c : Nat} {l : List (Thing Int)} {A : Option Addr} {kd id wv : Int}
theorem does_0 (h : PlayMid w0 g l l A n c w) (hid : (Lit.int .i64 id).wf = true) (hwv : (Lit.int .i64 wv).wf = true) (hroom : l.length < 1000000) :
    Calls Try.prog 10 #[.pointer (some ⟨g, 0, none⟩), .slice A n c, .agg #[.int .i64 0, .int .i64 id, .int .i64 wv]] w (DoesPost w0 g l) := by
  have HM := Lib.hid h
  obtain ⟨b, hb⟩ : ∃ b, b = !isIn l id := ⟨_, rfl⟩
  obtain ⟨l', hl'⟩ : ∃ l', l' = if isIn l id = true then l else ins LtI (id, wv) l := ⟨_, rfl⟩
  have HR : Hid (∀ w1, PlayMid w0 g l l A n c w1 → Calls Try.prog 24 #[.slice A n c, .int .i64 id, .int .i64 wv] w1 fun e w' => ∃ A' n' c', e = .returned (.tuple #[.slice A' n' c', .bool b]) ∧ PlayMid w0 g l l' A' n' c' w' ∧ Below w1.heap.size w1 w') :=
    Lib.hid fun w1 h1 => play_ref h1 fun F h2 h3 => by rw [hb, hl']; exact ref_put h2 h3 (x := (id, wv)) ⟨hid, hwv⟩ hroom
  have HP : Hid (∀ w1 A' n' c', PlayMid w0 g l l' A' n' c' w1 → Calls Try.prog 22 #[.pointer (some ⟨g, 0, none⟩), .int .i64 id, .int .i64 wv] w1 fun e w' => e = .returned (.bool b) ∧ PlayMid w0 g l' l' A' n' c' w') :=
    Lib.hid fun w1 A' n' c' h1 => play_heap h1 fun F h2 => by rw [hb, hl']; exact put_I h2 hid hwv (by omega)
  have HL : Hid (l'.length ≤ l.length + 1) := Lib.hid (by rw [hl']; exact len_put (x := (id, wv)))
  clear hb hl' h
  go_enter Try.func10, Try.ntmps10
  go_wp2_with (first
    | (go_at_call 24; refine (HR.out _ (HM.out.below (below_alloc _ _))).mono ?_; rintro e w2 ⟨A2, n2, c2, rfl, h2, hb2⟩; obtain ⟨x1, x2⟩ := box_two hb2; clear hb2)
    | (go_at_call 22; refine (HP.out _ _ _ _ h2).mono ?_; rintro e w3 ⟨rfl, h3⟩))
  go_ret2
  exact ⟨_, _, _, _, rfl, h3, HL.out⟩
theorem does_1 (h : PlayMid w0 g l l A n c w) (hid : (Lit.int .i64 id).wf = true) (hwv : (Lit.int .i64 wv).wf = true) (hroom : l.length < 1000000) :
    Calls Try.prog 10 #[.pointer (some ⟨g, 0, none⟩), .slice A n c, .agg #[.int .i64 1, .int .i64 id, .int .i64 wv]] w (DoesPost w0 g l) := by
  have HM := Lib.hid h
  obtain ⟨b, hb⟩ : ∃ b, b = isIn l id := ⟨_, rfl⟩
  obtain ⟨l', hl'⟩ : ∃ l', l' = if isIn l id = true then ins LtI (id, wv) (del l id) else l := ⟨_, rfl⟩
  have HR : Hid (∀ w1, PlayMid w0 g l l A n c w1 → Calls Try.prog 25 #[.slice A n c, .int .i64 id, .int .i64 wv] w1 fun e w' => ∃ A' n' c', e = .returned (.tuple #[.slice A' n' c', .bool b]) ∧ PlayMid w0 g l l' A' n' c' w' ∧ Below w1.heap.size w1 w') :=
    Lib.hid fun w1 h1 => play_ref h1 fun F h2 h3 => by rw [hb, hl']; exact ref_change h2 h3 (x := (id, wv)) ⟨hid, hwv⟩ hroom
  have HP : Hid (∀ w1 A' n' c', PlayMid w0 g l l' A' n' c' w1 → Calls Try.prog 23 #[.pointer (some ⟨g, 0, none⟩), .int .i64 id, .int .i64 wv] w1 fun e w' => e = .returned (.bool b) ∧ PlayMid w0 g l' l' A' n' c' w') :=
    Lib.hid fun w1 A' n' c' h1 => play_heap h1 fun F h2 => by rw [hb, hl']; exact change_I h2 hid hwv
  have HL : Hid (l'.length ≤ l.length + 1) := Lib.hid (by rw [hl']; exact len_change (x := (id, wv)))
  clear hb hl' h
  go_enter Try.func10, Try.ntmps10
  go_wp2_with (first
    | (go_at_call 25; refine (HR.out _ (HM.out.below (below_alloc _ _))).mono ?_; rintro e w2 ⟨A2, n2, c2, rfl, h2, hb2⟩; obtain ⟨x1, x2⟩ := box_two hb2; clear hb2)
    | (go_at_call 23; refine (HP.out _ _ _ _ h2).mono ?_; rintro e w3 ⟨rfl, h3⟩))
  go_ret2
  exact ⟨_, _, _, _, rfl, h3, HL.out⟩
theorem does_2 (h : PlayMid w0 g l l A n c w) (hid : (Lit.int .i64 id).wf = true) (hwv : (Lit.int .i64 wv).wf = true) (hroom : l.length < 1000000) :
    Calls Try.prog 10 #[.pointer (some ⟨g, 0, none⟩), .slice A n c, .agg #[.int .i64 2, .int .i64 id, .int .i64 wv]] w (DoesPost w0 g l) := by
  have HM := Lib.hid h
  obtain ⟨b, hb⟩ : ∃ b, b = isIn l id := ⟨_, rfl⟩
  obtain ⟨l', hl'⟩ : ∃ l', l' = del l id := ⟨_, rfl⟩
  have HR : Hid (∀ w1, PlayMid w0 g l l A n c w1 → Calls Try.prog 26 #[.slice A n c, .int .i64 id] w1 fun e w' => ∃ A' n' c', e = .returned (.tuple #[.slice A' n' c', .bool b]) ∧ PlayMid w0 g l l' A' n' c' w' ∧ Below w1.heap.size w1 w') :=
    Lib.hid fun w1 h1 => play_ref h1 fun F h2 h3 => by rw [hb, hl']; exact ref_drop h2 h3 hid hroom
  have HP : Hid (∀ w1 A' n' c', PlayMid w0 g l l' A' n' c' w1 → Calls Try.prog 27 #[.pointer (some ⟨g, 0, none⟩), .int .i64 id] w1 fun e w' => e = .returned (.bool b) ∧ PlayMid w0 g l' l' A' n' c' w') :=
    Lib.hid fun w1 A' n' c' h1 => play_heap h1 fun F h2 => by rw [hb, hl']; exact drop_I h2 hid
  have HL : Hid (l'.length ≤ l.length + 1) := Lib.hid (by rw [hl']; exact len_del)
  clear hb hl' h
  go_enter Try.func10, Try.ntmps10
  go_wp2_with (first
    | (go_at_call 26; refine (HR.out _ (HM.out.below (below_alloc _ _))).mono ?_; rintro e w2 ⟨A2, n2, c2, rfl, h2, hb2⟩; obtain ⟨x1, x2⟩ := box_two hb2; clear hb2)
    | (go_at_call 27; refine (HP.out _ _ _ _ h2).mono ?_; rintro e w3 ⟨rfl, h3⟩))
  go_ret2
  exact ⟨_, _, _, _, rfl, h3, HL.out⟩
end
end Go.Proofs.Ytgpnpopmlommaaa
