/- An instance that may be, made of any: what is made, and what lies in memory meanwhile. -/
import Derived.Test.YtmfahjghfpckeaaDoorInstOwn
namespace Go.Proofs.YtmfahjghfpckeaaDoor
open Go.RowKit
set_option linter.unusedVariables false
/-- An arc of the instance that is made. -/
def gd (x : Inst) (i k : Nat) : Int := if i = k then 0 else roundD (arcD x i k) 0 60
theorem gd_bd (x : Inst) (i k : Nat) : 0 ≤ gd x i k ∧ gd x i k ≤ 60 := by
  unfold gd
  split
  · omega
  · exact roundD_bd _ (by omega)
def goodRow (x : Inst) (n i : Nat) : List Int := (List.range (n + 1)).map (gd x i)
theorem goodRow_len (x : Inst) (n i : Nat) : (goodRow x n i).length = n + 1 := by simp [goodRow]
/-- A row, as far as it has been filled. -/
def partRow (x : Inst) (n i k : Nat) : List Int := (List.range (n + 1)).map fun j => if j < k then gd x i j else 0
theorem partRow_len (x : Inst) (n i k : Nat) : (partRow x n i k).length = n + 1 := by simp [partRow]
theorem partRow_zero (x : Inst) (n i : Nat) : partRow x n i 0 = List.replicate (n + 1) 0 := by
  refine List.eq_replicate_iff.2 ⟨partRow_len _ _ _ _, fun b hb => ?_⟩
  obtain ⟨j, _, rfl⟩ := List.mem_map.1 hb
  rw [if_neg (by omega)]
theorem partRow_all (x : Inst) (n i k : Nat) (hk : n < k) : partRow x n i k = goodRow x n i := by
  unfold partRow goodRow
  refine List.map_congr_left fun j hj => ?_
  have := List.mem_range.1 hj
  rw [if_pos (by omega)]
theorem partRow_set (x : Inst) (n i k : Nat) (hk : k < n + 1) : (partRow x n i k).set k (gd x i k) = partRow x n i (k + 1) := by
  refine List.ext_getElem (by simp [partRow]) fun j h1 h2 => ?_
  simp only [partRow, List.getElem_set, List.getElem_map, List.getElem_range]
  by_cases e : k = j
  · subst e; rw [if_pos rfl, if_pos (by omega)]
  · rw [if_neg e]
    by_cases h : j < k
    · rw [if_pos h, if_pos (by omega)]
    · rw [if_neg h, if_neg (by omega)]
theorem partRow_same (x : Inst) (n i : Nat) : partRow x n i (i + 1) = partRow x n i i := by
  unfold partRow
  refine List.map_congr_left fun j hj => ?_
  by_cases h : j < i
  · rw [if_pos h, if_pos (by omega)]
  · by_cases e : j = i
    · subst e; rw [if_pos (by omega), if_neg (by omega)]; unfold gd; rw [if_pos rfl]
    · rw [if_neg h, if_neg (by omega)]
def goodCs (x : Inst) : List Cust := (x.custs.take 6).map fun c => goodC c (roundD x.days 1 7)
/-- An instance that may be, made of any. -/
def goodI (x : Inst) : Inst := { days := roundD x.days 1 7, veh := roundD x.veh 0 5, cap := roundD x.cap 0 40, len := roundD x.len 0 300, custs := goodCs x, dist := (List.range ((goodCs x).length + 1)).map (goodRow x (goodCs x).length) }
theorem goodCs_len (x : Inst) : (goodCs x).length = min 6 x.custs.length := by simp [goodCs]
/-- While it is made. -/
structure GoodAt (w : World) (x : Inst) (A : Option Addr) (c : Nat) (B : Option Addr) (d : Nat) (g1 g2 g3 g4 : Int) (l : CRow) (rows : List (List Int)) (v u : Value) (wr : World) : Prop where
  box : InstBox wr w.heap.size x A c B d
  res : BlkIs wr (w.heap.size + 1) 25 #[.int .i64 0, .int .i64 0, .int .i64 0, .int .i64 0, .slice none 0 0, .slice none 0 0]
  out : BlkIs wr (w.heap.size + 1 + 1) 25 #[.int .i64 g1, .int .i64 g2, .int .i64 g3, .int .i64 g4, v, u]
  custs : OwnCusts (w.heap.size + 3) wr v l
  dist : OwnDist (w.heap.size + 3) wr u rows
  low : Below w.heap.size w wr
section
variable {w wr w2 : World} {x : Inst} {A : Option Addr} {c : Nat} {B : Option Addr} {d : Nat} {g1 g2 g3 g4 : Int} {l : CRow} {rows : List (List Int)} {v u : Value}
theorem GoodAt.keep (h : GoodAt w x A c B d g1 g2 g3 g4 l rows v u wr) (hb : Below wr.heap.size wr w2) : GoodAt w x A c B d g1 g2 g3 g4 l rows v u w2 :=
  ⟨h.box.keep hb, h.res.below hb h.res.lt, h.out.below hb h.out.lt, h.custs.keep hb, h.dist.keep hb, h.low.trans (hb.mono h.low.size)⟩
theorem GoodAt.size (h : GoodAt w x A c B d g1 g2 g3 g4 l rows v u wr) : w.heap.size + 3 ≤ wr.heap.size := h.out.lt
theorem set6_4 {X : World} {g : Nat} {t : TypeId} {a b e f i j y : Value} (h : BlkIs X g t #[a, b, e, f, i, j]) : BlkIs (X.setCell ⟨g, 4, none⟩ y) g t #[a, b, e, f, y, j] := by
  have := h.put 4 y
  simpa using this
theorem set6_5 {X : World} {g : Nat} {t : TypeId} {a b e f i j y : Value} (h : BlkIs X g t #[a, b, e, f, i, j]) : BlkIs (X.setCell ⟨g, 5, none⟩ y) g t #[a, b, e, f, i, y] := by
  have := h.put 5 y
  simpa using this
/-- One more customer is appended, and the new row stored. -/
theorem GoodAt.push_c (h : GoodAt w x A c B d g1 g2 g3 g4 l rows v u wr) {tmp : Obj} {w3 : World} {v' : Value} {t : Cust × Option Addr × Nat} (ht : OwnP wr (w.heap.size + 3) (.slice t.2.1 t.1.pats.length t.2.2) t.1.pats)
    (hgrow : (wr.alloc tmp).grownBy w3 v.ownBlock) (hown : w3.ownsRow (w.heap.size + 3) 45 8 v' (l.length + 1) (cellsC l ++ cell8 t.1 t.2.1 t.2.2)) :
    BlkIs w3 (w.heap.size + 1 + 1) 25 #[.int .i64 g1, .int .i64 g2, .int .i64 g3, .int .i64 g4, v, u] ∧ InstBox w3 w.heap.size x A c B d ∧ Below w.heap.size w w3 ∧
      GoodAt w x A c B d g1 g2 g3 g4 (l ++ [t]) rows v' u (w3.setCell ⟨w.heap.size + 1 + 1, 4, none⟩ v') := by
  have hge := fun k hk => (World.ownsRow.lt h.custs.row k hk).1
  have ne : ∀ g, g < w.heap.size + 3 → some g ≠ v.ownBlock := fun g hg e => by have := hge g e.symm; omega
  have hz := h.size
  have o3 := (h.out.alloc tmp).grown hgrow (ne _ (by omega))
  have b3 : InstBox w3 w.heap.size x A c B d := BlkIs.grown (BlkIs.alloc h.box tmp) hgrow (ne _ (by omega))
  have l3 : Below w.heap.size w w3 := (h.low.alloc h.low.size tmp).grown hgrow (by have := h.low.size; simp; omega) (fun g hg => by have := hge g hg; omega)
  have hc' : OwnCusts (w.heap.size + 3) (wr.alloc tmp) v l := h.custs.keep (below_alloc _ _)
  have hd' : OwnDist (w.heap.size + 3) (wr.alloc tmp) u rows := h.dist.keep (below_alloc _ _)
  refine ⟨o3, b3, l3, ?_, ?_, set6_4 o3, ?_, ?_, ?_⟩
  · exact BlkIs.far (p := ⟨w.heap.size + 1 + 1, 4, none⟩) b3 (by show w.heap.size ≠ w.heap.size + 1 + 1; omega) _
  · exact ((h.res.alloc tmp).grown hgrow (ne _ (by omega))).far (p := ⟨w.heap.size + 1 + 1, 4, none⟩) (by show w.heap.size + 1 ≠ w.heap.size + 1 + 1; omega) _
  · exact (hc'.more hgrow (own_alloc ht tmp) hown).far (by show w.heap.size + 1 + 1 < w.heap.size + 3; omega) _
  · exact (hd'.grown_c hc'.row hgrow).far (by show w.heap.size + 1 + 1 < w.heap.size + 3; omega) _
  · exact l3.setCell (by show w.heap.size ≤ w.heap.size + 1 + 1; omega) _
/-- One more row is appended, and the new row of rows stored. -/
theorem GoodAt.push_d (h : GoodAt w x A c B d g1 g2 g3 g4 l rows v u wr) {tmp : Obj} {w3 : World} {u' y : Value} {us : List Value} {r : List Int} (hu : wr.ownsRow (w.heap.size + 3) 33 1 u rows.length us)
    (hf : Fit (fun r y => wr.ownsRow (w.heap.size + 3) 3 1 y r.length (r.map (Value.int .i64))) rows us) (hy : wr.ownsRow (w.heap.size + 3) 3 1 y r.length (r.map (Value.int .i64)))
    (hgrow : (wr.alloc tmp).grownBy w3 u.ownBlock) (hown : w3.ownsRow (w.heap.size + 3) 33 1 u' (rows.length + 1) (us ++ [y])) :
    BlkIs w3 (w.heap.size + 1 + 1) 25 #[.int .i64 g1, .int .i64 g2, .int .i64 g3, .int .i64 g4, v, u] ∧ GoodAt w x A c B d g1 g2 g3 g4 l (rows ++ [r]) v u' (w3.setCell ⟨w.heap.size + 1 + 1, 5, none⟩ u') := by
  have hge := own_ge hu
  have ne : ∀ g, g < w.heap.size + 3 → some g ≠ u.ownBlock := fun g hg e => by have := hge g e.symm; omega
  have hz := h.size
  have hu' := own_alloc hu tmp
  have o3 := (h.out.alloc tmp).grown hgrow (ne _ (by omega))
  have b3 : InstBox w3 w.heap.size x A c B d := BlkIs.grown (BlkIs.alloc h.box tmp) hgrow (ne _ (by omega))
  have l3 : Below w.heap.size w w3 := (h.low.alloc h.low.size tmp).grown hgrow (by have := h.low.size; simp; omega) (fun g hg => by have := hge g hg; omega)
  have hc' : OwnCusts (w.heap.size + 3) (wr.alloc tmp) v l := h.custs.keep (below_alloc _ _)
  have st : SameT 3 [] (wr.alloc tmp) w3 := .grown hu' (by decide) hgrow
  refine ⟨o3, ?_, ?_, set6_5 o3, ?_, ?_, ?_⟩
  · exact BlkIs.far (p := ⟨w.heap.size + 1 + 1, 5, none⟩) b3 (by show w.heap.size ≠ w.heap.size + 1 + 1; omega) _
  · exact ((h.res.alloc tmp).grown hgrow (ne _ (by omega))).far (p := ⟨w.heap.size + 1 + 1, 5, none⟩) (by show w.heap.size + 1 ≠ w.heap.size + 1 + 1; omega) _
  · exact (hc'.grown_d hu' hgrow).far (by show w.heap.size + 1 + 1 < w.heap.size + 3; omega) _
  · refine OwnDist.far ⟨us ++ [y], by rw [List.length_append]; exact hown, ?_⟩ (by show w.heap.size + 1 + 1 < w.heap.size + 3; omega) _
    exact (hf.mono fun r z hz => own_same (own_alloc hz tmp) st (by simp)).snoc (own_same (own_alloc hy tmp) st (by simp))
  · exact l3.setCell (by show w.heap.size ≤ w.heap.size + 1 + 1; omega) _
end
/-- An instance of the call's own. -/
structure OwnInst (base : Nat) (W : World) (y : Inst) (A : Option Addr) (c : Nat) (B : Option Addr) (d : Nat) : Prop where
  custs : ∃ l : CRow, l.map (·.1) = y.custs ∧ OwnCusts base W (.slice A y.custs.length c) l
  dist : OwnDist base W (.slice B y.dist.length d) y.dist
theorem OwnInst.keep {base : Nat} {W W' : World} {y : Inst} {A : Option Addr} {c : Nat} {B : Option Addr} {d : Nat} (h : OwnInst base W y A c B d) (hb : Below W.heap.size W W') : OwnInst base W' y A c B d := by
  obtain ⟨⟨l, h1, h2⟩, h3⟩ := h
  exact ⟨⟨l, h1, h2.keep hb⟩, h3.keep hb⟩
theorem add_plain (b off i : Nat) : (⟨b, off, none⟩ : Addr).add i = ⟨b, off + i, none⟩ := by
  unfold Addr.add; split <;> simp_all
theorem OwnInst.inst {base : Nat} {W : World} {y : Inst} {A : Option Addr} {c : Nat} {B : Option Addr} {d : Nat} (h : OwnInst base W y A c B d) (hw : y.Wf) : InstIs W y A B := by
  obtain ⟨⟨l, h1, h2⟩, us, h3, h4⟩ := h
  refine ⟨fun i hi => ?_, fun i hi => ?_, hw⟩
  · have hll : l.length = y.custs.length := by rw [← h1, List.length_map]
    have hil : i < l.length := by omega
    have hc : y.custs[i] = (l[i]).1 := by
      have : (l.map (·.1))[i]'(by rw [List.length_map]; exact hil) = y.custs[i] := by simp only [h1]
      rw [← this, List.getElem_map]
    obtain ⟨g, cap, hv, _, _⟩ := World.ownsRow.form h2.row (by omega)
    injection hv with hA hn hcap
    subst hA
    subst hcap
    have hcell : ∀ j, j < 8 → W.cell? ⟨g, 0 + i * 8 + j, none⟩ = (cell8 (l[i]).1 (l[i]).2.1 (l[i]).2.2)[j]? := fun j hj => by
      have hx := cellsC_at hil j hj
      have hj' : ∃ z, (cell8 (l[i]).1 (l[i]).2.1 (l[i]).2.2)[j]? = some z := ⟨_, List.getElem?_eq_getElem (show j < (cell8 (l[i]).1 (l[i]).2.1 (l[i]).2.2).length from hj)⟩
      obtain ⟨z, hz⟩ := hj'
      have := World.ownsRow.cells h2.row (g := g) rfl (i * 8 + j) z (by rw [hx, hz])
      rw [add_plain] at this
      rw [hz, Nat.zero_add, ← this, Nat.zero_add]
    have hp := h2.pats _ (List.getElem_mem hil)
    refine ⟨g, 0, (l[i]).2.1, (l[i]).2.2, rfl, ?_, ?_, ?_⟩
    · rw [hc]
      exact ⟨hcell 0 (by omega), hcell 1 (by omega), hcell 2 (by omega), hcell 3 (by omega), hcell 4 (by omega), hcell 5 (by omega), hcell 6 (by omega), hcell 7 (by omega)⟩
    · rw [hc]; exact hp.nums rfl
    · rw [hc]
      obtain ⟨_, _, e, hk⟩ := own_form hp
      injection e with _ _ e
      omega
  · obtain ⟨hu, hr⟩ := h4.at i hi
    obtain ⟨g, cap, hv, _, _⟩ := World.ownsRow.form h3 (by omega)
    cases hv
    obtain ⟨P, k, e, hk⟩ := own_form hr
    refine ⟨g, 0, P, k, rfl, ?_, ?_, hk⟩
    · rw [Nat.zero_add, World.ownsRow.cellAt h3 i (by omega), List.getElem?_eq_getElem hu, e]
    · rw [e] at hr
      exact Ints.of_own hr
end Go.Proofs.YtmfahjghfpckeaaDoor
