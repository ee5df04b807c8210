import Derived.Test.YtliomhkgkabbbaaGreatDoorK09
import Derived.Test.YtliomhkgkabbbaaGreatDoorK05
import Derived.Deep.AppendLies
section
/- Instances whose lists are the call's own: rows of customers with rows of patterns, rows of rows of numbers; that they stay so, and that they read as instances. -/
namespace Go.Proofs.YtliomhkgkabbbaaGreatDoor
open Go.RowKit
set_option linter.unusedVariables false
/-- A customer's eight cells. -/
def cell8 (c : Cust) (P : Option Addr) (k : Nat) : List Value := [.int .i64 c.kind, .int .i64 c.demand, .slice P c.pats.length k, .int .i64 c.rate, .int .i64 c.size, .int .i64 c.start, .int .i64 c.rule, .int .i64 c.hold]
/-- Customers, and where their patterns lie. -/
abbrev CRow := List (Cust × Option Addr × Nat)
def cellsC (l : CRow) : List Value := l.flatMap fun t => cell8 t.1 t.2.1 t.2.2
theorem cellsC_snoc (l : CRow) (t : Cust × Option Addr × Nat) : cellsC (l ++ [t]) = cellsC l ++ cell8 t.1 t.2.1 t.2.2 := by simp [cellsC]
theorem cellsC_at : ∀ {l : CRow} {i : Nat} (hi : i < l.length) (j : Nat), j < 8 → (cellsC l)[i * 8 + j]? = (cell8 (l[i]).1 (l[i]).2.1 (l[i]).2.2)[j]?
  | t :: r, 0, _, j, hj => by
    show (cell8 t.1 t.2.1 t.2.2 ++ cellsC r)[0 * 8 + j]? = _
    rw [Nat.zero_mul, Nat.zero_add, List.getElem?_append_left (by show j < 8; exact hj)]
    rfl
  | t :: r, i + 1, hi, j, hj => by
    have := cellsC_at (l := r) (i := i) (by simpa using hi) j hj
    show (cell8 t.1 t.2.1 t.2.2 ++ cellsC r)[(i + 1) * 8 + j]? = _
    rw [List.getElem?_append_right (by show 8 ≤ _; omega)]
    have e : (i + 1) * 8 + j - (cell8 t.1 t.2.1 t.2.2).length = i * 8 + j := by show (i + 1) * 8 + j - 8 = _; omega
    rw [e, this]
    rfl
structure OwnCusts (base : Nat) (W : World) (v : Value) (l : CRow) : Prop where
  row : W.ownsRow base 41 8 v l.length (cellsC l)
  pats : ∀ t ∈ l, OwnP W base (.slice t.2.1 t.1.pats.length t.2.2) t.1.pats
structure OwnDist (base : Nat) (W : World) (v : Value) (rows : List (List Int)) : Prop where
  row : ∃ us, W.ownsRow base 43 1 v rows.length us ∧ Fit (fun r u => W.ownsRow base 3 1 u r.length (r.map (Value.int .i64))) rows us
theorem OwnCusts.nil (base : Nat) (W : World) : OwnCusts base W (.slice none 0 0) [] := ⟨World.ownsRow_nil _ _ _ _, fun t ht => by simp at ht⟩
theorem OwnDist.nil (base : Nat) (W : World) : OwnDist base W (.slice none 0 0) [] := ⟨[], World.ownsRow_nil _ _ _ _, .nil⟩
section
variable {base : Nat} {W W' : World} {v u : Value} {l : CRow} {rows : List (List Int)}
theorem OwnCusts.keep (h : OwnCusts base W v l) (hb : Below W.heap.size W W') : OwnCusts base W' v l := ⟨own_keep h.row hb, fun t ht => own_keep (h.pats t ht) hb⟩
theorem OwnDist.keep (h : OwnDist base W v rows) (hb : Below W.heap.size W W') : OwnDist base W' v rows := by
  obtain ⟨us, h1, h2⟩ := h.row
  exact ⟨us, own_keep h1 hb, h2.mono fun r u hr => own_keep hr hb⟩
theorem OwnCusts.far (h : OwnCusts base W v l) {p : Addr} (hp : p.block < base) (x : Value) : OwnCusts base (W.setCell p x) v l := ⟨own_far h.row hp x, fun t ht => own_far (h.pats t ht) hp x⟩
theorem OwnDist.far (h : OwnDist base W v rows) {p : Addr} (hp : p.block < base) (x : Value) : OwnDist base (W.setCell p x) v rows := by
  obtain ⟨us, h1, h2⟩ := h.row
  exact ⟨us, own_far h1 hp x, h2.mono fun r u hr => own_far hr hp x⟩
theorem OwnCusts.down {base' : Nat} (h : OwnCusts base W v l) (hb : base' ≤ base) : OwnCusts base' W v l := ⟨own_down h.row hb, fun t ht => own_down (h.pats t ht) hb⟩
theorem OwnDist.down {base' : Nat} (h : OwnDist base W v rows) (hb : base' ≤ base) : OwnDist base' W v rows := by
  obtain ⟨us, h1, h2⟩ := h.row
  exact ⟨us, own_down h1 hb, h2.mono fun r u hr => own_down hr hb⟩
/-- Another row grows. -/
theorem OwnDist.grown_c (h : OwnDist base W u rows) (hv : W.ownsRow base 41 8 v l.length (cellsC l)) (hg : W.grownBy W' v.ownBlock) : OwnDist base W' u rows := by
  obtain ⟨us, h1, h2⟩ := h.row
  exact ⟨us, own_same h1 (.grown (Cs := []) hv (by decide) hg) (by simp), h2.mono fun r u hr => own_same hr (.grown (Cs := []) hv (by decide) hg) (by simp)⟩
theorem OwnCusts.pats_grown (h : OwnCusts base W v l) (hg : W.grownBy W' v.ownBlock) : ∀ t ∈ l, OwnP W' base (.slice t.2.1 t.1.pats.length t.2.2) t.1.pats := fun t ht => own_same (h.pats t ht) (.grown (Cs := []) h.row (by decide) hg) (by simp)
theorem OwnCusts.more (h : OwnCusts base W v l) (hg : W.grownBy W' v.ownBlock) {v' : Value} {t : Cust × Option Addr × Nat} (ht : OwnP W base (.slice t.2.1 t.1.pats.length t.2.2) t.1.pats)
    (hown : W'.ownsRow base 41 8 v' (l.length + 1) (cellsC l ++ cell8 t.1 t.2.1 t.2.2)) : OwnCusts base W' v' (l ++ [t]) := by
  refine ⟨?_, fun s hs => ?_⟩
  · rw [List.length_append, cellsC_snoc]; exact hown
  · rcases List.mem_append.1 hs with e | e
    · exact h.pats_grown hg s e
    · simp at e; subst e
      exact own_same ht (.grown (Cs := []) h.row (by decide) hg) (by simp)
theorem OwnCusts.grown_d (h : OwnCusts base W v l) {us : List Value} {n : Nat} (hv : W.ownsRow base 43 1 u n us) (hg : W.grownBy W' u.ownBlock) : OwnCusts base W' v l :=
  ⟨own_same h.row (.grown (Cs := []) hv (by decide) hg) (by simp), fun t ht => own_same (h.pats t ht) (.grown (Cs := []) hv (by decide) hg) (by simp)⟩
theorem own_alloc {w : World} {b n size : Nat} {e : TypeId} {x : Value} {xs : List Value} (h : w.ownsRow b e size x n xs) (o : Obj) : (w.alloc o).ownsRow b e size x n xs := own_keep h (below_alloc _ _)
/-- What an own row of patterns reads as. -/
theorem OwnP.nums {ps : List Int} {P : Option Addr} {n k : Nat} (h : OwnP W base (.slice P n k) ps) (hn : n = ps.length) : Nums .u64 W P ps.length ps := by
  subst hn
  exact Nums.of_own h
theorem OwnCusts.len (h : OwnCusts base W v l) : ∃ A k, v = .slice A l.length k ∧ l.length ≤ k := by
  rcases h.row.2 with ⟨rfl, h0⟩ | ⟨g, cap, cur, rfl, _, _, hc, _⟩
  · exact ⟨none, 0, by rw [h0], by rw [h0]; exact Nat.le_refl _⟩
  · exact ⟨_, _, rfl, hc⟩
theorem OwnDist.len (h : OwnDist base W v rows) : ∃ A k, v = .slice A rows.length k ∧ rows.length ≤ k := by
  obtain ⟨us, h1, _⟩ := h.row
  rcases h1.2 with ⟨rfl, h0⟩ | ⟨g, cap, cur, rfl, _, _, hc, _⟩
  · exact ⟨none, 0, by rw [h0], by rw [h0]; exact Nat.le_refl _⟩
  · exact ⟨_, _, rfl, hc⟩
end
end Go.Proofs.YtliomhkgkabbbaaGreatDoor
end
section
/- An instance that may be, made of any: what is made, and what lies in memory meanwhile. -/
namespace Go.Proofs.YtliomhkgkabbbaaGreatDoor
open Go.RowKit
set_option linter.unusedVariables false
set_option maxRecDepth 20000
/-- An arc of the instance that is made. -/
def gd (x : Inst) (i k : Nat) : Int := if i = k then 0 else roundD (arcD x i k) 0 60
theorem gd_bd (x : Inst) (i k : Nat) : 0 ≤ gd x i k ∧ gd x i k ≤ 60 := by
  unfold gd
  split
  · omega
  · exact roundD_bd _ (by omega)
def goodRow (x : Inst) (n i : Nat) : List Int := (List.range (n + 1)).map (gd x i)
theorem goodRow_len (x : Inst) (n i : Nat) : (goodRow x n i).length = n + 1 := by simp [goodRow]
/-- A row, as far as it has been filled. -/
def partRow (x : Inst) (n i k : Nat) : List Int := (List.range (n + 1)).map fun j => if j < k then gd x i j else 0
theorem partRow_len (x : Inst) (n i k : Nat) : (partRow x n i k).length = n + 1 := by simp [partRow]
theorem partRow_zero (x : Inst) (n i : Nat) : partRow x n i 0 = List.replicate (n + 1) 0 := by
  refine List.eq_replicate_iff.2 ⟨partRow_len _ _ _ _, fun b hb => ?_⟩
  obtain ⟨j, _, rfl⟩ := List.mem_map.1 hb
  rw [if_neg (by omega)]
theorem partRow_all (x : Inst) (n i k : Nat) (hk : n < k) : partRow x n i k = goodRow x n i := by
  unfold partRow goodRow
  refine List.map_congr_left fun j hj => ?_
  have := List.mem_range.1 hj
  rw [if_pos (by omega)]
theorem partRow_set (x : Inst) (n i k : Nat) (hk : k < n + 1) : (partRow x n i k).set k (gd x i k) = partRow x n i (k + 1) := by
  refine List.ext_getElem (by simp [partRow]) fun j h1 h2 => ?_
  simp only [partRow, List.getElem_set, List.getElem_map, List.getElem_range]
  by_cases e : k = j
  · subst e; rw [if_pos rfl, if_pos (by omega)]
  · rw [if_neg e]
    by_cases h : j < k
    · rw [if_pos h, if_pos (by omega)]
    · rw [if_neg h, if_neg (by omega)]
theorem partRow_same (x : Inst) (n i : Nat) : partRow x n i (i + 1) = partRow x n i i := by
  unfold partRow
  refine List.map_congr_left fun j hj => ?_
  by_cases h : j < i
  · rw [if_pos h, if_pos (by omega)]
  · by_cases e : j = i
    · subst e; rw [if_pos (by omega), if_neg (by omega)]; unfold gd; rw [if_pos rfl]
    · rw [if_neg h, if_neg (by omega)]
def goodCs (x : Inst) : List Cust := (x.custs.take 6).map fun c => goodCu c (roundD x.days 1 7)
/-- An instance that may be, made of any. -/
def goodI (x : Inst) : Inst := { days := roundD x.days 1 7, veh := roundD x.veh 0 5, cap := roundD x.cap 0 40, len := roundD x.len 0 300, custs := goodCs x, dist := (List.range ((goodCs x).length + 1)).map (goodRow x (goodCs x).length) }
theorem goodCs_len (x : Inst) : (goodCs x).length = min 6 x.custs.length := by simp [goodCs]
/-- While it is made. -/
structure GoodAt (w : World) (x : Inst) (A : Option Addr) (c : Nat) (B : Option Addr) (d : Nat) (g1 g2 g3 g4 : Int) (l : CRow) (rows : List (List Int)) (v u : Value) (wr : World) : Prop where
  box : InstBox wr w.heap.size x A c B d
  res : BlkIs wr (w.heap.size + 1) 25 #[.int .i64 0, .int .i64 0, .int .i64 0, .int .i64 0, .slice none 0 0, .slice none 0 0]
  out : BlkIs wr (w.heap.size + 1 + 1) 25 #[.int .i64 g1, .int .i64 g2, .int .i64 g3, .int .i64 g4, v, u]
  custs : OwnCusts (w.heap.size + 3) wr v l
  dist : OwnDist (w.heap.size + 3) wr u rows
  low : Below w.heap.size w wr
section
variable {w wr w2 : World} {x : Inst} {A : Option Addr} {c : Nat} {B : Option Addr} {d : Nat} {g1 g2 g3 g4 : Int} {l : CRow} {rows : List (List Int)} {v u : Value}
theorem GoodAt.keep (h : GoodAt w x A c B d g1 g2 g3 g4 l rows v u wr) (hb : Below wr.heap.size wr w2) : GoodAt w x A c B d g1 g2 g3 g4 l rows v u w2 :=
  ⟨h.box.keep hb, h.res.below hb h.res.lt, h.out.below hb h.out.lt, h.custs.keep hb, h.dist.keep hb, h.low.trans (hb.mono h.low.size)⟩
theorem GoodAt.size (h : GoodAt w x A c B d g1 g2 g3 g4 l rows v u wr) : w.heap.size + 3 ≤ wr.heap.size := h.out.lt
theorem set6_4 {X : World} {g : Nat} {t : TypeId} {a b e f i j y : Value} (h : BlkIs X g t #[a, b, e, f, i, j]) : BlkIs (X.setCell ⟨g, 4, none⟩ y) g t #[a, b, e, f, y, j] := by
  have := h.put 4 y
  simpa using this
theorem set6_5 {X : World} {g : Nat} {t : TypeId} {a b e f i j y : Value} (h : BlkIs X g t #[a, b, e, f, i, j]) : BlkIs (X.setCell ⟨g, 5, none⟩ y) g t #[a, b, e, f, i, y] := by
  have := h.put 5 y
  simpa using this
/-- One more customer is appended, and the new row stored. -/
theorem GoodAt.push_c (h : GoodAt w x A c B d g1 g2 g3 g4 l rows v u wr) {tmp : Obj} {w3 : World} {v' : Value} {t : Cust × Option Addr × Nat} (ht : OwnP wr (w.heap.size + 3) (.slice t.2.1 t.1.pats.length t.2.2) t.1.pats)
    (hgrow : (wr.alloc tmp).grownBy w3 v.ownBlock) (hown : w3.ownsRow (w.heap.size + 3) 41 8 v' (l.length + 1) (cellsC l ++ cell8 t.1 t.2.1 t.2.2)) :
    BlkIs w3 (w.heap.size + 1 + 1) 25 #[.int .i64 g1, .int .i64 g2, .int .i64 g3, .int .i64 g4, v, u] ∧ InstBox w3 w.heap.size x A c B d ∧ Below w.heap.size w w3 ∧
      GoodAt w x A c B d g1 g2 g3 g4 (l ++ [t]) rows v' u (w3.setCell ⟨w.heap.size + 1 + 1, 4, none⟩ v') := by
  have hge := fun k hk => (World.ownsRow.lt h.custs.row k hk).1
  have ne : ∀ g, g < w.heap.size + 3 → some g ≠ v.ownBlock := fun g hg e => by have := hge g e.symm; omega
  have hz := h.size
  have o3 := (h.out.alloc tmp).grown hgrow (ne _ (by omega))
  have b3 : InstBox w3 w.heap.size x A c B d := BlkIs.grown (BlkIs.alloc h.box tmp) hgrow (ne _ (by omega))
  have l3 : Below w.heap.size w w3 := (h.low.alloc h.low.size tmp).grown hgrow (by have := h.low.size; simp; omega) (fun g hg => by have := hge g hg; omega)
  have hc' : OwnCusts (w.heap.size + 3) (wr.alloc tmp) v l := h.custs.keep (below_alloc _ _)
  have hd' : OwnDist (w.heap.size + 3) (wr.alloc tmp) u rows := h.dist.keep (below_alloc _ _)
  refine ⟨o3, b3, l3, ?_, ?_, set6_4 o3, ?_, ?_, ?_⟩
  · exact BlkIs.far (p := ⟨w.heap.size + 1 + 1, 4, none⟩) b3 (by show w.heap.size ≠ w.heap.size + 1 + 1; omega) _
  · exact ((h.res.alloc tmp).grown hgrow (ne _ (by omega))).far (p := ⟨w.heap.size + 1 + 1, 4, none⟩) (by show w.heap.size + 1 ≠ w.heap.size + 1 + 1; omega) _
  · exact (hc'.more hgrow (own_alloc ht tmp) hown).far (by show w.heap.size + 1 + 1 < w.heap.size + 3; omega) _
  · exact (hd'.grown_c hc'.row hgrow).far (by show w.heap.size + 1 + 1 < w.heap.size + 3; omega) _
  · exact l3.setCell (by show w.heap.size ≤ w.heap.size + 1 + 1; omega) _
/-- One more row is appended, and the new row of rows stored. -/
theorem GoodAt.push_d (h : GoodAt w x A c B d g1 g2 g3 g4 l rows v u wr) {tmp : Obj} {w3 : World} {u' y : Value} {us : List Value} {r : List Int} (hu : wr.ownsRow (w.heap.size + 3) 43 1 u rows.length us)
    (hf : Fit (fun r y => wr.ownsRow (w.heap.size + 3) 3 1 y r.length (r.map (Value.int .i64))) rows us) (hy : wr.ownsRow (w.heap.size + 3) 3 1 y r.length (r.map (Value.int .i64)))
    (hgrow : (wr.alloc tmp).grownBy w3 u.ownBlock) (hown : w3.ownsRow (w.heap.size + 3) 43 1 u' (rows.length + 1) (us ++ [y])) :
    BlkIs w3 (w.heap.size + 1 + 1) 25 #[.int .i64 g1, .int .i64 g2, .int .i64 g3, .int .i64 g4, v, u] ∧ GoodAt w x A c B d g1 g2 g3 g4 l (rows ++ [r]) v u' (w3.setCell ⟨w.heap.size + 1 + 1, 5, none⟩ u') := by
  have hge := own_ge hu
  have ne : ∀ g, g < w.heap.size + 3 → some g ≠ u.ownBlock := fun g hg e => by have := hge g e.symm; omega
  have hz := h.size
  have hu' := own_alloc hu tmp
  have o3 := (h.out.alloc tmp).grown hgrow (ne _ (by omega))
  have b3 : InstBox w3 w.heap.size x A c B d := BlkIs.grown (BlkIs.alloc h.box tmp) hgrow (ne _ (by omega))
  have l3 : Below w.heap.size w w3 := (h.low.alloc h.low.size tmp).grown hgrow (by have := h.low.size; simp; omega) (fun g hg => by have := hge g hg; omega)
  have hc' : OwnCusts (w.heap.size + 3) (wr.alloc tmp) v l := h.custs.keep (below_alloc _ _)
  have st : SameT 3 [] (wr.alloc tmp) w3 := .grown hu' (by decide) hgrow
  refine ⟨o3, ?_, ?_, set6_5 o3, ?_, ?_, ?_⟩
  · exact BlkIs.far (p := ⟨w.heap.size + 1 + 1, 5, none⟩) b3 (by show w.heap.size ≠ w.heap.size + 1 + 1; omega) _
  · exact ((h.res.alloc tmp).grown hgrow (ne _ (by omega))).far (p := ⟨w.heap.size + 1 + 1, 5, none⟩) (by show w.heap.size + 1 ≠ w.heap.size + 1 + 1; omega) _
  · exact (hc'.grown_d hu' hgrow).far (by show w.heap.size + 1 + 1 < w.heap.size + 3; omega) _
  · refine OwnDist.far ⟨us ++ [y], by rw [List.length_append]; exact hown, ?_⟩ (by show w.heap.size + 1 + 1 < w.heap.size + 3; omega) _
    exact (hf.mono fun r z hz => own_same (own_alloc hz tmp) st (by simp)).snoc (own_same (own_alloc hy tmp) st (by simp))
  · exact l3.setCell (by show w.heap.size ≤ w.heap.size + 1 + 1; omega) _
end
/-- An instance of the call's own. -/
structure OwnInst (base : Nat) (W : World) (y : Inst) (A : Option Addr) (c : Nat) (B : Option Addr) (d : Nat) : Prop where
  custs : ∃ l : CRow, l.map (·.1) = y.custs ∧ OwnCusts base W (.slice A y.custs.length c) l
  dist : OwnDist base W (.slice B y.dist.length d) y.dist
theorem OwnInst.keep {base : Nat} {W W' : World} {y : Inst} {A : Option Addr} {c : Nat} {B : Option Addr} {d : Nat} (h : OwnInst base W y A c B d) (hb : Below W.heap.size W W') : OwnInst base W' y A c B d := by
  obtain ⟨⟨l, h1, h2⟩, h3⟩ := h
  exact ⟨⟨l, h1, h2.keep hb⟩, h3.keep hb⟩
theorem add_plain (b off i : Nat) : (⟨b, off, none⟩ : Addr).add i = ⟨b, off + i, none⟩ := by
  unfold Addr.add; split <;> simp_all
theorem OwnInst.inst {base : Nat} {W : World} {y : Inst} {A : Option Addr} {c : Nat} {B : Option Addr} {d : Nat} (h : OwnInst base W y A c B d) (hw : y.Wf) : InstIs W y A B := by
  obtain ⟨⟨l, h1, h2⟩, us, h3, h4⟩ := h
  refine ⟨fun i hi => ?_, fun i hi => ?_, hw⟩
  · have hll : l.length = y.custs.length := by rw [← h1, List.length_map]
    have hil : i < l.length := by omega
    have hc : y.custs[i] = (l[i]).1 := by
      have : (l.map (·.1))[i]'(by rw [List.length_map]; exact hil) = y.custs[i] := by simp only [h1]
      rw [← this, List.getElem_map]
    obtain ⟨g, cap, hv, _, _⟩ := World.ownsRow.form h2.row (by omega)
    injection hv with hA hn hcap
    subst hA
    subst hcap
    have hcell : ∀ j, j < 8 → W.cell? ⟨g, 0 + i * 8 + j, none⟩ = (cell8 (l[i]).1 (l[i]).2.1 (l[i]).2.2)[j]? := fun j hj => by
      have hx := cellsC_at hil j hj
      have hj' : ∃ z, (cell8 (l[i]).1 (l[i]).2.1 (l[i]).2.2)[j]? = some z := ⟨_, List.getElem?_eq_getElem (show j < (cell8 (l[i]).1 (l[i]).2.1 (l[i]).2.2).length from hj)⟩
      obtain ⟨z, hz⟩ := hj'
      have := World.ownsRow.cells h2.row (g := g) rfl (i * 8 + j) z (by rw [hx, hz])
      rw [add_plain] at this
      rw [hz, Nat.zero_add, ← this, Nat.zero_add]
    have hp := h2.pats _ (List.getElem_mem hil)
    refine ⟨g, 0, (l[i]).2.1, (l[i]).2.2, rfl, ?_, ?_, ?_⟩
    · rw [hc]
      exact ⟨hcell 0 (by omega), hcell 1 (by omega), hcell 2 (by omega), hcell 3 (by omega), hcell 4 (by omega), hcell 5 (by omega), hcell 6 (by omega), hcell 7 (by omega)⟩
    · rw [hc]; exact hp.nums rfl
    · rw [hc]
      obtain ⟨_, _, e, hk⟩ := own_form hp
      injection e with _ _ e
      omega
  · obtain ⟨hu, hr⟩ := h4.at i hi
    obtain ⟨g, cap, hv, _, _⟩ := World.ownsRow.form h3 (by omega)
    cases hv
    obtain ⟨P, k, e, hk⟩ := own_form hr
    refine ⟨g, 0, P, k, rfl, ?_, ?_, hk⟩
    · rw [Nat.zero_add, World.ownsRow.cellAt h3 i (by omega), List.getElem?_eq_getElem hu, e]
    · rw [e] at hr
      exact Ints.of_own hr
end Go.Proofs.YtliomhkgkabbbaaGreatDoor
end
section
/- Plain facts on the instances that the document makes: they may be what they must be, all arcs are there and small, none from a place to itself. -/
namespace Go.Proofs.YtliomhkgkabbbaaGreatDoor
open Go.RowKit
set_option linter.unusedVariables false
theorem z64 {n : Int} (h : 0 ≤ n) (h' : n ≤ 2) : W64 n := ⟨by omega, by omega⟩
theorem goodC_wf (c : Cust) (d : Int) : (goodCu c d).Wf := by
  have w : ∀ n l m : Int, 0 ≤ l → l ≤ m → m ≤ 1000 → W64 (roundD n l m) := fun n l m h1 h2 h3 => by
    have := roundD_bd n h2
    exact ⟨by omega, by omega⟩
  unfold goodCu
  split
  · have := roundD_bd c.size (l := 1) (m := 30) (by omega)
    exact ⟨z64 (n := 2) (by decide) (by decide), z64 (n := 0) (by decide) (by decide), w _ _ _ (by omega) (by omega) (by omega), w _ _ _ (by omega) (by omega) (by omega), w _ _ _ (by omega) (by omega) (by omega), w _ _ _ (by omega) (by omega) (by omega), w _ _ _ (by omega) (by omega) (by omega), (fun p hp => by simp at hp), Nat.zero_le _⟩
  · refine ⟨z64 (n := 1) (by decide) (by decide), w _ _ _ (by omega) (by omega) (by omega), z64 (n := 0) (by decide) (by decide), z64 (n := 0) (by decide) (by decide), z64 (n := 0) (by decide) (by decide), z64 (n := 0) (by decide) (by decide), z64 (n := 0) (by decide) (by decide), fun p hp => ?_, ?_⟩
    · show 0 ≤ p ∧ p ≤ _
      dsimp only at hp
      split at hp
      · simp at hp; subst hp; exact ⟨by decide, by decide⟩
      · obtain ⟨q, _, rfl⟩ := List.mem_map.1 hp
        have := cutN_lt q.toNat d.toNat
        unfold cutP
        omega
    · dsimp only
      split
      · decide
      · rw [List.length_map, List.length_take]; unfold maxLen; omega
theorem goodI_dist_len (x : Inst) : (goodI x).dist.length = (goodI x).custs.length + 1 := by simp [goodI]
theorem goodI_n (x : Inst) : (goodI x).custs.length ≤ 6 := by
  show (goodCs x).length ≤ 6
  rw [goodCs_len]; omega
theorem goodI_square (x : Inst) : Square (goodI x) := by
  refine ⟨goodI_dist_len x, fun r hr => ?_⟩
  obtain ⟨i, _, rfl⟩ := List.mem_map.1 hr
  exact goodRow_len _ _ _
theorem goodI_arc (x : Inst) (a b : Nat) : arcD (goodI x) a b = if a ≤ (goodCs x).length ∧ b ≤ (goodCs x).length then gd x a b else 0 := by
  by_cases ha : a ≤ (goodCs x).length
  · have hl : a < (goodI x).dist.length := by rw [goodI_dist_len]; show a < (goodCs x).length + 1; omega
    rw [arcD_at hl]
    have e : (goodI x).dist[a] = goodRow x (goodCs x).length a := by simp [goodI]
    rw [e]
    unfold goodRow
    by_cases hb : b ≤ (goodCs x).length
    · rw [if_pos ⟨ha, hb⟩, getD_in _ _ (by simp; omega)]
      simp
    · rw [if_neg (fun h => hb h.2), getD_out _ _ (by simp; omega)]
  · rw [if_neg (fun h => ha h.1), arcD_row (by rw [goodI_dist_len]; show (goodCs x).length + 1 ≤ a; omega)]
theorem goodI_small (x : Inst) : SmallD (goodI x) := by
  intro a b
  by_cases ha : a < 0
  · rw [arcD_neg (.inl ha)]; omega
  by_cases hb : b < 0
  · rw [arcD_neg (.inr hb)]; omega
  obtain ⟨i, rfl⟩ : ∃ i : Nat, a = (i : Int) := ⟨a.toNat, by omega⟩
  obtain ⟨k, rfl⟩ : ∃ k : Nat, b = (k : Int) := ⟨b.toNat, by omega⟩
  rw [goodI_arc]
  split
  · exact gd_bd x i k
  · omega
theorem goodI_diag (x : Inst) (a : Int) : arcD (goodI x) a a = 0 := by
  by_cases ha : a < 0
  · exact arcD_neg (.inl ha)
  obtain ⟨i, rfl⟩ : ∃ i : Nat, a = (i : Int) := ⟨a.toNat, by omega⟩
  rw [goodI_arc]
  split
  · exact if_pos rfl
  · rfl
theorem goodI_wf (x : Inst) : (goodI x).Wf := by
  have w : ∀ n l m : Int, 0 ≤ l → l ≤ m → m ≤ 1000 → W64 (roundD n l m) := fun n l m h1 h2 h3 => by
    have := roundD_bd n h2
    exact ⟨by omega, by omega⟩
  refine ⟨w _ _ _ (by omega) (by omega) (by omega), w _ _ _ (by omega) (by omega) (by omega), w _ _ _ (by omega) (by omega) (by omega), w _ _ _ (by omega) (by omega) (by omega), fun c hc => ?_, fun r hr => ?_, ?_, ?_⟩
  · obtain ⟨c', _, rfl⟩ := List.mem_map.1 hc
    exact goodC_wf _ _
  · obtain ⟨i, _, rfl⟩ := List.mem_map.1 hr
    refine ⟨by rw [goodRow_len, goodCs_len]; unfold maxLen; omega, fun n hn => ?_⟩
    obtain ⟨k, _, rfl⟩ := List.mem_map.1 hn
    have := gd_bd x i k
    exact ⟨by omega, by omega⟩
  · have := goodI_n x; unfold maxLen; omega
  · rw [goodI_dist_len]; have := goodI_n x; unfold maxLen; omega
end Go.Proofs.YtliomhkgkabbbaaGreatDoor
end
