import Derived.Test.YtliomhkgkabbbaaGreatDoorK19
import Derived.Test.YtliomhkgkabbbaaGreatDoorK10
section
/- A reader in memory: the lines that are left, its map of functions, and the instance so far, in lists of the call's own. -/
namespace Go.Proofs.YtliomhkgkabbbaaGreatDoor
open Go.RowKit
set_option linter.unusedVariables false
set_option maxRecDepth 20000
/-- A value that reads as a line. -/
def LineIn (w : World) (u : Value) (l : List (List UInt8)) : Prop := ∃ P k, u = .slice P l.length k ∧ l.length ≤ k ∧ WordsIn w P l
/-- A value that reads as these lines. -/
def LeftIs (w : World) (v : Value) (ls : List (List (List UInt8))) : Prop :=
  ∃ A c, v = .slice A ls.length c ∧ ls.length ≤ c ∧ ((A = none ∧ c = 0) ∨ ∃ b off, A = some ⟨b, off, none⟩) ∧ ∀ i (hi : i < ls.length), ∃ b off u, A = some ⟨b, off, none⟩ ∧ w.cell? ⟨b, off + i, none⟩ = some u ∧ LineIn w u ls[i]
/-- What is known of a line's words. -/
structure LineOk (l : List (List UInt8)) : Prop where
  ne : l ≠ []
  n : l.length ≤ 1000
  z : ∀ x ∈ l, x.length ≤ 1000
theorem LineIn.keep {w w' : World} {u : Value} {l : List (List UInt8)} (h : LineIn w u l) (hb : Below w.heap.size w w') : LineIn w' u l := by
  obtain ⟨P, k, h1, h2, h3⟩ := h
  exact ⟨P, k, h1, h2, h3.keep hb⟩
/-- The map of functions: one for each kind of a customer. -/
def kindsM (g : Nat) : Array MapEntry := #[⟨.string (strL wVisit), .func (.func 53) #[.pointer (some ⟨g, 0, none⟩)] #[], 0⟩, ⟨.string (strL wTank), .func (.func 54) #[.pointer (some ⟨g, 0, none⟩)] #[], 1⟩]
/-- What is known of an instance while it is read. -/
structure St.Wf (s : St) : Prop where
  days : 0 ≤ s.x.days ∧ s.x.days ≤ 1000000000000000000
  veh : 0 ≤ s.x.veh ∧ s.x.veh ≤ 1000000000000000000
  cap : 0 ≤ s.x.cap ∧ s.x.cap ≤ 1000000000000000000
  len : 0 ≤ s.x.len ∧ s.x.len ≤ 1000000000000000000
  n : 0 ≤ s.n ∧ s.n ≤ 1000000000000000000
  custs : ∀ c ∈ s.x.custs, c.Wf
  dist : ∀ r ∈ s.x.dist, r.length ≤ maxLen ∧ ∀ n ∈ r, W64 n
/-- There are not many customers and rows yet. -/
def St.Few (s : St) (N : Nat) : Prop := s.x.custs.length ≤ N ∧ s.x.dist.length ≤ N
/-- A reader in block g. -/
structure RAt (w0 : World) (g m b1 : Nat) (lv v u : Value) (l : CRow) (s : St) (W : World) : Prop where
  box : BlkIs W g 68 #[lv, .map (some m), .int .i64 s.x.days, .int .i64 s.x.veh, .int .i64 s.x.cap, .int .i64 s.x.len, v, u, .int .i64 s.n, .bool s.am]
  left : LeftIs w0 lv s.left
  kinds : W.heap[m]? = some (.map (kindsM g) 2)
  custs : OwnCusts b1 W v l
  cl : l.map (·.1) = s.x.custs
  dist : OwnDist b1 W u s.x.dist
  wf : s.Wf
  g0 : w0.heap.size ≤ g
  m0 : w0.heap.size ≤ m
  g1 : g < b1
  m1 : m < b1
  low : Below w0.heap.size w0 W
  sz : b1 ≤ W.heap.size
section
variable {w0 W W' : World} {g m b1 : Nat} {lv v u : Value} {l : CRow} {s : St}
theorem BlkIs.cells10 {w : World} {g : Nat} {t : TypeId} {a b c d e f h i j k : Value} (K : BlkIs w g t #[a, b, c, d, e, f, h, i, j, k]) :
    w.cell? ⟨g, 0, none⟩ = some a ∧ w.cell? ⟨g, 1, none⟩ = some b ∧ w.cell? ⟨g, 2, none⟩ = some c ∧ w.cell? ⟨g, 3, none⟩ = some d ∧ w.cell? ⟨g, 4, none⟩ = some e ∧ w.cell? ⟨g, 5, none⟩ = some f ∧ w.cell? ⟨g, 6, none⟩ = some h ∧ w.cell? ⟨g, 7, none⟩ = some i ∧ w.cell? ⟨g, 8, none⟩ = some j ∧ w.cell? ⟨g, 9, none⟩ = some k :=
  ⟨K.cellAt 0, K.cellAt 1, K.cellAt 2, K.cellAt 3, K.cellAt 4, K.cellAt 5, K.cellAt 6, K.cellAt 7, K.cellAt 8, K.cellAt 9⟩
theorem BlkIs.thaw {w : World} {g : Nat} {t : TypeId} {cs : Array Value} (h : BlkIs w g t cs) (i : Nat) : w.frozen? ⟨g, i, none⟩ = false := by
  unfold BlkIs at h
  simp [World.frozen?, h]
theorem RAt.keep (h : RAt w0 g m b1 lv v u l s W) (hb : Below W.heap.size W W') : RAt w0 g m b1 lv v u l s W' := by
  have hm : m < W.heap.size := (Array.getElem?_eq_some_iff.1 h.kinds).1
  exact ⟨h.box.below hb h.box.lt, h.left, (hb.block m hm).trans h.kinds, h.custs.keep hb, h.cl, h.dist.keep hb, h.wf, h.g0, h.m0, h.g1, h.m1, h.low.trans (hb.mono h.low.size), Nat.le_trans h.sz hb.size⟩
theorem RAt.ne (h : RAt w0 g m b1 lv v u l s W) : m ≠ g := fun e => by
  have h1 := h.kinds
  have h2 := h.box
  unfold BlkIs at h2
  rw [e, h2] at h1
  injection h1 with h1
  cases h1
theorem RAt.map_put (h : RAt w0 g m b1 lv v u l s W) (i : Nat) (x : Value) : (W.setCell ⟨g, i, none⟩ x).heap[m]? = some (.map (kindsM g) 2) := (Below.heap_setCell W ⟨g, i, none⟩ x m h.ne).trans h.kinds
/-- A store into the reader's block. -/
theorem RAt.put (h : RAt w0 g m b1 lv v u l s W) (i : Nat) (x : Value) (s' : St) (lv' v' u' : Value) (l' : CRow)
    (hc : #[lv, .map (some m), .int .i64 s.x.days, .int .i64 s.x.veh, .int .i64 s.x.cap, .int .i64 s.x.len, v, u, .int .i64 s.n, .bool s.am].setIfInBounds i x =
      #[lv', .map (some m), .int .i64 s'.x.days, .int .i64 s'.x.veh, .int .i64 s'.x.cap, .int .i64 s'.x.len, v', u', .int .i64 s'.n, .bool s'.am])
    (hl : LeftIs w0 lv' s'.left) (hcu : OwnCusts b1 (W.setCell ⟨g, i, none⟩ x) v' l') (hcl : l'.map (·.1) = s'.x.custs) (hd : OwnDist b1 (W.setCell ⟨g, i, none⟩ x) u' s'.x.dist) (hw : s'.Wf) :
    RAt w0 g m b1 lv' v' u' l' s' (W.setCell ⟨g, i, none⟩ x) := by
  refine ⟨?_, hl, h.map_put i x, hcu, hcl, hd, hw, h.g0, h.m0, h.g1, h.m1, h.low.setCell h.g0 _, by simpa using h.sz⟩
  rw [← hc]
  exact h.box.put i x
theorem RAt.put' (h : RAt w0 g m b1 lv v u l s W) (i : Nat) (x : Value) (s' : St) (lv' : Value)
    (hc : #[lv, .map (some m), .int .i64 s.x.days, .int .i64 s.x.veh, .int .i64 s.x.cap, .int .i64 s.x.len, v, u, .int .i64 s.n, .bool s.am].setIfInBounds i x =
      #[lv', .map (some m), .int .i64 s'.x.days, .int .i64 s'.x.veh, .int .i64 s'.x.cap, .int .i64 s'.x.len, v, u, .int .i64 s'.n, .bool s'.am])
    (hl : LeftIs w0 lv' s'.left) (hcl : s'.x.custs = s.x.custs) (hd : s'.x.dist = s.x.dist) (hw : s'.Wf) :
    RAt w0 g m b1 lv' v u l s' (W.setCell ⟨g, i, none⟩ x) :=
  h.put i x s' lv' v u l hc hl (h.custs.far h.g1 x) (by rw [hcl]; exact h.cl) (by rw [hd]; exact h.dist.far h.g1 x) hw
end
/-- A reader in block g, wherever its lists lie. -/
def RdAt (w0 : World) (g m b1 : Nat) (s : St) (W : World) : Prop := ∃ lv v u l, RAt w0 g m b1 lv v u l s W
theorem RdAt.keep {w0 W W' : World} {g m b1 : Nat} {s : St} (h : RdAt w0 g m b1 s W) (hb : Below W.heap.size W W') : RdAt w0 g m b1 s W' := by
  obtain ⟨lv, v, u, l, h⟩ := h
  exact ⟨lv, v, u, l, h.keep hb⟩
theorem RdAt.low {w0 W : World} {g m b1 : Nat} {s : St} (h : RdAt w0 g m b1 s W) : Below w0.heap.size w0 W := by
  obtain ⟨lv, v, u, l, h⟩ := h
  exact h.low
/-- A line that is none. -/
def StepNo (w0 : World) (e : Ending) (w' : World) : Prop := e = .returned (.bool false) ∧ Below w0.heap.size w0 w'
/-- A line that is one. -/
def StepYes (w0 : World) (g m b1 : Nat) (s' : St) (e : Ending) (w' : World) : Prop := e = .returned (.bool true) ∧ RdAt w0 g m b1 s' w'
/-- What a function that reads a line answers. -/
structure StepOk (F : Nat) (f : St → List (List UInt8) → Option St) : Prop where
  left : ∀ {s s' : St} {l : List (List UInt8)}, f s l = some s' → s'.left = s.left
  few : ∀ {s s' : St} {l : List (List UInt8)} {N : Nat}, f s l = some s' → s.Few N → s'.Few (N + 1)
  no : ∀ {w0 W : World} {g m b1 : Nat} {s : St} {u : Value} {l : List (List UInt8)}, RdAt w0 g m b1 s W → LineIn w0 u l → LineOk l → s.Few 100000 → f s l = none →
    Calls Tryz.prog F #[.pointer (some ⟨g, 0, none⟩), u] W (StepNo w0)
  yes : ∀ {w0 W : World} {g m b1 : Nat} {s s' : St} {u : Value} {l : List (List UInt8)}, RdAt w0 g m b1 s W → LineIn w0 u l → LineOk l → s.Few 100000 → f s l = some s' →
    Calls Tryz.prog F #[.pointer (some ⟨g, 0, none⟩), u] W (StepYes w0 g m b1 s')
/-- A row of words that has just been laid. -/
theorem words_lit (w : World) (t : TypeId) (ws : List (List UInt8)) : WordsIn (w.alloc (.cells (ws.map fun x => Value.string (strL x)).toArray t)) (some ⟨w.heap.size, 0, none⟩) ws := fun j hj => by
  refine ⟨_, _, rfl, ?_⟩
  rw [(BlkIs.fresh w t (ws.map fun x => Value.string (strL x)).toArray).cellAt, Nat.zero_add]
  simp [List.getElem?_eq_getElem hj]
end Go.Proofs.YtliomhkgkabbbaaGreatDoor
end
section
/- What head, table and people answer, off their code. -/
namespace Go.Proofs.YtliomhkgkabbbaaGreatDoor
open Go.RowKit
set_option linter.unusedVariables false
set_option maxRecDepth 20000
set_option maxHeartbeats 4000000 in
theorem head_any {w0 W : World} {g m b1 : Nat} {s : St} {P : Option Addr} {n k : Nat} {l : List (List UInt8)} (h : RdAt w0 g m b1 s W) (hl : WordsIn w0 P l) (hn : l.length = n) (h1 : n ≤ 1000) (q : Bool) (hq : decide (l = [wProgram, wEdition]) = q) :
    Calls Tryz.prog 56 #[.pointer (some ⟨g, 0, none⟩), .slice P n k] W fun e w' => e = .returned (.bool q) ∧ Below W.heap.size W w' := by
  have HB := Go.Lib.hid (below_alloc W (.cells #[.string (strL wProgram), .string (strL wEdition)] 9))
  have CE := equal_s P (some ⟨W.heap.size, 0, none⟩) n 2 k 2 l [wProgram, wEdition] _ ((hl.keep h.low).keep HB.out) (words_lit W 9 [wProgram, wEdition]) hn rfl (by unfold maxLen; omega) (by decide) q hq
  clear h hl hn hq
  go_enter Tryz.func56, Tryz.ntmps56
  go_wp2_with (go_at_call 86; refine CE.mono ?_; rintro e w2 ⟨rfl, hb2⟩)
  go_ret
  exact ⟨rfl, HB.out.trans (hb2.mono HB.out.size)⟩
theorem head_ok : StepOk 56 headP := by
  have e : ∀ {s s' : St} {l : List (List UInt8)}, headP s l = some s' → s' = s ∧ l = [wProgram, wEdition] := fun {s s' l} h => by
    unfold headP at h
    split at h
    · rename_i hl; injection h with h; exact ⟨h.symm, hl⟩
    · cases h
  refine ⟨fun h => by rw [(e h).1], fun h hf => by rw [(e h).1]; exact ⟨Nat.le_succ_of_le hf.1, Nat.le_succ_of_le hf.2⟩, fun hr hl ho _ hf => ?_, fun hr hl ho _ hf => ?_⟩
  · obtain ⟨P, k, rfl, _, hw⟩ := hl
    refine (head_any hr hw rfl ho.n false (decide_eq_false fun e => ?_)).mono fun e w' ⟨h1, h2⟩ => ⟨h1, hr.low.trans (h2.mono hr.low.size)⟩
    unfold headP at hf
    rw [if_pos e] at hf
    cases hf
  · obtain ⟨P, k, rfl, _, hw⟩ := hl
    obtain ⟨rfl, h2⟩ := e hf
    exact (head_any hr hw rfl ho.n true (decide_eq_true h2)).mono fun e w' ⟨h1, h2⟩ => ⟨h1, hr.keep h2⟩
set_option maxHeartbeats 4000000 in
theorem table_any {w0 W : World} {g m b1 : Nat} {s : St} {P : Option Addr} {n k : Nat} {l : List (List UInt8)} (h : RdAt w0 g m b1 s W) (hl : WordsIn w0 P l) (hn : l.length = n) (h1 : n ≤ 1000) (q : Bool) (hq : decide (l = [wDistances]) = q) :
    Calls Tryz.prog 60 #[.pointer (some ⟨g, 0, none⟩), .slice P n k] W fun e w' => e = .returned (.bool q) ∧ Below W.heap.size W w' := by
  have HB := Go.Lib.hid (below_alloc W (.cells #[.string (strL wDistances)] 9))
  have CE := equal_s P (some ⟨W.heap.size, 0, none⟩) n 1 k 1 l [wDistances] _ ((hl.keep h.low).keep HB.out) (words_lit W 9 [wDistances]) hn rfl (by unfold maxLen; omega) (by decide) q hq
  clear h hl hn hq
  go_enter Tryz.func60, Tryz.ntmps60
  go_wp2_with (go_at_call 86; refine CE.mono ?_; rintro e w2 ⟨rfl, hb2⟩)
  go_ret
  exact ⟨rfl, HB.out.trans (hb2.mono HB.out.size)⟩
theorem table_ok : StepOk 60 tableP := by
  have e : ∀ {s s' : St} {l : List (List UInt8)}, tableP s l = some s' → s' = s ∧ l = [wDistances] := fun {s s' l} h => by
    unfold tableP at h
    split at h
    · rename_i hl; injection h with h; exact ⟨h.symm, hl⟩
    · cases h
  refine ⟨fun h => by rw [(e h).1], fun h hf => by rw [(e h).1]; exact ⟨Nat.le_succ_of_le hf.1, Nat.le_succ_of_le hf.2⟩, fun hr hl ho _ hf => ?_, fun hr hl ho _ hf => ?_⟩
  · obtain ⟨P, k, rfl, _, hw⟩ := hl
    refine (table_any hr hw rfl ho.n false (decide_eq_false fun e => ?_)).mono fun e w' ⟨h1, h2⟩ => ⟨h1, hr.low.trans (h2.mono hr.low.size)⟩
    unfold tableP at hf
    rw [if_pos e] at hf
    cases hf
  · obtain ⟨P, k, rfl, _, hw⟩ := hl
    obtain ⟨rfl, h2⟩ := e hf
    exact (table_any hr hw rfl ho.n true (decide_eq_true h2)).mono fun e w' ⟨h1, h2⟩ => ⟨h1, hr.keep h2⟩
end Go.Proofs.YtliomhkgkabbbaaGreatDoor
end
