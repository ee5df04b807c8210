/- Instances, as data and in memory: what a slice of customers, a row of rows of numbers, and a whole instance read as, and that it stays so. -/
import Derived.Test.YtmfahjghfpckeaaDoorOnly
import Derived.BigQuiet
import Derived.Deep.RegionHeld3
namespace Go.Proofs.YtmfahjghfpckeaaDoor
open Go.RowKit
set_option linter.unusedVariables false
/-- A customer. -/
structure Cust where
  kind : Int
  demand : Int
  pats : List Int
  rate : Int
  size : Int
  start : Int
  rule : Int
  hold : Int
  deriving DecidableEq
/-- An instance. -/
structure Inst where
  days : Int
  veh : Int
  cap : Int
  len : Int
  custs : List Cust
  dist : List (List Int)
  deriving DecidableEq
/-- A number of 64 bits with sign. -/
def W64 (n : Int) : Prop := -9223372036854775808 ≤ n ∧ n ≤ 9223372036854775807
theorem W64.lo {n : Int} (h : W64 n) : -9223372036854775808 ≤ n := h.1
theorem W64.hi {n : Int} (h : W64 n) : n ≤ 9223372036854775807 := h.2
theorem W64.wf {n : Int} (h : W64 n) : (Lit.int .i64 n).wf = true := wf_iff.2 h
/-- The eight cells of a customer whose patterns lie at A, with room for k. -/
structure CustAt (w : World) (b o : Nat) (c : Cust) (A : Option Addr) (k : Nat) : Prop where
  c0 : w.cell? ⟨b, o, none⟩ = some (.int .i64 c.kind)
  c1 : w.cell? ⟨b, o + 1, none⟩ = some (.int .i64 c.demand)
  c2 : w.cell? ⟨b, o + 2, none⟩ = some (.slice A c.pats.length k)
  c3 : w.cell? ⟨b, o + 3, none⟩ = some (.int .i64 c.rate)
  c4 : w.cell? ⟨b, o + 4, none⟩ = some (.int .i64 c.size)
  c5 : w.cell? ⟨b, o + 5, none⟩ = some (.int .i64 c.start)
  c6 : w.cell? ⟨b, o + 6, none⟩ = some (.int .i64 c.rule)
  c7 : w.cell? ⟨b, o + 7, none⟩ = some (.int .i64 c.hold)
/-- A customer's numbers are numbers of the machine's. -/
structure Cust.Wf (c : Cust) : Prop where
  kind : W64 c.kind
  demand : W64 c.demand
  rate : W64 c.rate
  size : W64 c.size
  start : W64 c.start
  rule : W64 c.rule
  hold : W64 c.hold
  pats : ∀ p ∈ c.pats, 0 ≤ p ∧ p ≤ 18446744073709551615
  len : c.pats.length ≤ maxLen
theorem keep_cell {w w' : World} (hb : Below w.heap.size w w') {p : Addr} {v : Value} (h : w.cell? p = some v) : w'.cell? p = some v := (hb.cell (World.block_lt_of_cell? w _ h)).trans h
theorem CustAt.keep {w w' : World} {b o : Nat} {c : Cust} {A : Option Addr} {k : Nat} (h : CustAt w b o c A k) (hb : Below w.heap.size w w') : CustAt w' b o c A k :=
  ⟨keep_cell hb h.c0, keep_cell hb h.c1, keep_cell hb h.c2, keep_cell hb h.c3, keep_cell hb h.c4, keep_cell hb h.c5, keep_cell hb h.c6, keep_cell hb h.c7⟩
/-- A slice that reads as these customers. -/
def CustsIs (w : World) (A : Option Addr) (l : List Cust) : Prop :=
  ∀ i (hi : i < l.length), ∃ b off P k, A = some ⟨b, off, none⟩ ∧ CustAt w b (off + i * 8) l[i] P k ∧ Nums .u64 w P l[i].pats.length l[i].pats ∧ l[i].pats.length ≤ k
/-- A slice that reads as these rows of numbers. -/
def DistIs (w : World) (B : Option Addr) (l : List (List Int)) : Prop :=
  ∀ i (hi : i < l.length), ∃ b off P k, B = some ⟨b, off, none⟩ ∧ w.cell? ⟨b, off + i, none⟩ = some (.slice P l[i].length k) ∧ Ints w P l[i].length l[i] ∧ l[i].length ≤ k
theorem CustsIs.keep {w w' : World} {A : Option Addr} {l : List Cust} (h : CustsIs w A l) (hb : Below w.heap.size w w') : CustsIs w' A l := fun i hi => by
  obtain ⟨b, off, P, k, e, h1, h2, h3⟩ := h i hi
  exact ⟨b, off, P, k, e, h1.keep hb, h2.keep hb, h3⟩
theorem DistIs.keep {w w' : World} {B : Option Addr} {l : List (List Int)} (h : DistIs w B l) (hb : Below w.heap.size w w') : DistIs w' B l := fun i hi => by
  obtain ⟨b, off, P, k, e, h1, h2, h3⟩ := h i hi
  exact ⟨b, off, P, k, e, keep_cell hb h1, h2.keep hb, h3⟩
theorem CustsIs.cut {w : World} {A : Option Addr} {l : List Cust} (h : CustsIs w A l) (n : Nat) : CustsIs w A (l.take n) := fun i hi => by
  rw [List.length_take] at hi
  obtain ⟨b, off, P, k, e, h1, h2, h3⟩ := h i (by omega)
  rw [List.getElem_take]
  exact ⟨b, off, P, k, e, h1, h2, h3⟩
/-- An instance's numbers are numbers of the machine's. -/
structure Inst.Wf (x : Inst) : Prop where
  days : W64 x.days
  veh : W64 x.veh
  cap : W64 x.cap
  len : W64 x.len
  custs : ∀ c ∈ x.custs, c.Wf
  dist : ∀ r ∈ x.dist, r.length ≤ maxLen ∧ ∀ n ∈ r, W64 n
  n : x.custs.length ≤ maxLen
  m : x.dist.length ≤ maxLen
/-- The lists of an instance lie at A and B. -/
structure InstIs (w : World) (x : Inst) (A B : Option Addr) : Prop where
  custs : CustsIs w A x.custs
  dist : DistIs w B x.dist
  wf : x.Wf
theorem InstIs.keep {w w' : World} {x : Inst} {A B : Option Addr} (h : InstIs w x A B) (hb : Below w.heap.size w w') : InstIs w' x A B := ⟨h.custs.keep hb, h.dist.keep hb, h.wf⟩
/-- An instance as it is handed over. -/
def instV (x : Inst) (A : Option Addr) (c : Nat) (B : Option Addr) (d : Nat) : Value :=
  .agg #[.int .i64 x.days, .int .i64 x.veh, .int .i64 x.cap, .int .i64 x.len, .slice A x.custs.length c, .slice B x.dist.length d]
/-- A customer as it is handed over. -/
def custV (c : Cust) (A : Option Addr) (k : Nat) : Value :=
  .agg #[.int .i64 c.kind, .int .i64 c.demand, .slice A c.pats.length k, .int .i64 c.rate, .int .i64 c.size, .int .i64 c.start, .int .i64 c.rule, .int .i64 c.hold]
/-- The block of an instance that came in. -/
def instC (x : Inst) (A : Option Addr) (c : Nat) (B : Option Addr) (d : Nat) : Array Value :=
  #[.int .i64 x.days, .int .i64 x.veh, .int .i64 x.cap, .int .i64 x.len, .slice A x.custs.length c, .slice B x.dist.length d]
theorem getD_in {α : Type} (l : List α) (d : α) {i : Nat} (hi : i < l.length) : l.getD i d = l[i] := by rw [List.getD_eq_getElem?_getD, List.getElem?_eq_getElem hi]; rfl
theorem getD_out {α : Type} (l : List α) (d : α) {i : Nat} (hi : l.length ≤ i) : l.getD i d = d := by rw [List.getD_eq_getElem?_getD, List.getElem?_eq_none hi]; rfl

/-! ### What the document tells of an instance -/
/-- An arc; 0, if it is not there. -/
def arcD (x : Inst) (a b : Int) : Int := if a < 0 ∨ b < 0 then 0 else (x.dist.getD a.toNat []).getD b.toNat 0
theorem arcD_neg {x : Inst} {a b : Int} (h : a < 0 ∨ b < 0) : arcD x a b = 0 := if_pos h
theorem arcD_row {x : Inst} {a b : Nat} (h : x.dist.length ≤ a) : arcD x a b = 0 := by
  unfold arcD
  rw [if_neg (by omega), Int.toNat_natCast, getD_out _ _ h]
  rfl
theorem arcD_at {x : Inst} {a b : Nat} (ha : a < x.dist.length) : arcD x a b = x.dist[a].getD b 0 := by
  unfold arcD
  rw [if_neg (by omega), Int.toNat_natCast, Int.toNat_natCast, getD_in _ _ ha]
/-- There is a row for each place, and an arc for each place in it. -/
def Square (x : Inst) : Prop := x.dist.length = x.custs.length + 1 ∧ ∀ r ∈ x.dist, r.length = x.custs.length + 1
/-- All arcs are small. -/
def SmallD (x : Inst) : Prop := ∀ a b, 0 ≤ arcD x a b ∧ arcD x a b ≤ 60
/-- Where an arc stands: its row's cell, and its own. -/
theorem InstIs.arc {w : World} {x : Inst} {A B : Option Addr} (h : InstIs w x A B) {i : Nat} (hi : i < x.dist.length) : ∃ g off P rl r, B = some ⟨g, off, none⟩ ∧ w.cell? ⟨g, off + i, none⟩ = some (.slice P rl r) ∧ g < w.heap.size ∧ rl = (x.dist.getD i []).length ∧ rl ≤ maxLen ∧ rl ≤ r ∧
    (∀ k : Nat, rl ≤ k → arcD x i k = 0) ∧ ∀ k : Nat, k < rl → ∃ g2 off2, P = some ⟨g2, off2, none⟩ ∧ w.cell? ⟨g2, off2 + k, none⟩ = some (.int .i64 (arcD x i k)) ∧ g2 < w.heap.size ∧ W64 (arcD x i k) := by
  obtain ⟨g, off, P, r, rfl, h1, h2, h3⟩ := h.dist i hi
  refine ⟨g, off, P, _, r, rfl, h1, World.block_lt_of_cell? w _ h1, by rw [getD_in _ _ hi], (h.wf.dist _ (List.getElem_mem hi)).1, h3, fun k hk => ?_, fun k hk => ?_⟩
  · rw [arcD_at hi, getD_out _ _ hk]
  · obtain ⟨g2, off2, rfl, h4⟩ := h2.2 (by omega)
    have h5 := h4 k hk
    rw [arcD_at hi]
    refine ⟨g2, off2, rfl, h5, World.block_lt_of_cell? w _ h5, ?_⟩
    rw [getD_in _ _ hk]
    exact (h.wf.dist _ (List.getElem_mem hi)).2 _ (List.getElem_mem hk)
/-- The cells of a block of six. -/
theorem BlkIs.cells6 {w : World} {g : Nat} {t : TypeId} {a b c d e f : Value} (K : BlkIs w g t #[a, b, c, d, e, f]) :
    w.cell? ⟨g, 0, none⟩ = some a ∧ w.cell? ⟨g, 1, none⟩ = some b ∧ w.cell? ⟨g, 2, none⟩ = some c ∧ w.cell? ⟨g, 3, none⟩ = some d ∧ w.cell? ⟨g, 4, none⟩ = some e ∧ w.cell? ⟨g, 5, none⟩ = some f :=
  ⟨K.cellAt 0, K.cellAt 1, K.cellAt 2, K.cellAt 3, K.cellAt 4, K.cellAt 5⟩
/-- The cells of a block of eight. -/
theorem BlkIs.cells8 {w : World} {g : Nat} {t : TypeId} {a b c d e f h i : Value} (K : BlkIs w g t #[a, b, c, d, e, f, h, i]) :
    w.cell? ⟨g, 0, none⟩ = some a ∧ w.cell? ⟨g, 1, none⟩ = some b ∧ w.cell? ⟨g, 2, none⟩ = some c ∧ w.cell? ⟨g, 3, none⟩ = some d ∧ w.cell? ⟨g, 4, none⟩ = some e ∧ w.cell? ⟨g, 5, none⟩ = some f ∧ w.cell? ⟨g, 6, none⟩ = some h ∧ w.cell? ⟨g, 7, none⟩ = some i :=
  ⟨K.cellAt 0, K.cellAt 1, K.cellAt 2, K.cellAt 3, K.cellAt 4, K.cellAt 5, K.cellAt 6, K.cellAt 7⟩
/-- The cells of a block of nine. -/
theorem BlkIs.cells9 {w : World} {g : Nat} {t : TypeId} {a b c d e f h i j : Value} (K : BlkIs w g t #[a, b, c, d, e, f, h, i, j]) :
    w.cell? ⟨g, 0, none⟩ = some a ∧ w.cell? ⟨g, 1, none⟩ = some b ∧ w.cell? ⟨g, 2, none⟩ = some c ∧ w.cell? ⟨g, 3, none⟩ = some d ∧ w.cell? ⟨g, 4, none⟩ = some e ∧ w.cell? ⟨g, 5, none⟩ = some f ∧ w.cell? ⟨g, 6, none⟩ = some h ∧ w.cell? ⟨g, 7, none⟩ = some i ∧ w.cell? ⟨g, 8, none⟩ = some j :=
  ⟨K.cellAt 0, K.cellAt 1, K.cellAt 2, K.cellAt 3, K.cellAt 4, K.cellAt 5, K.cellAt 6, K.cellAt 7, K.cellAt 8⟩
/-- The block of an instance that was handed over. -/
def InstBox (W : World) (g : Nat) (x : Inst) (A : Option Addr) (c : Nat) (B : Option Addr) (d : Nat) : Prop :=
  BlkIs W g 25 #[.int .i64 x.days, .int .i64 x.veh, .int .i64 x.cap, .int .i64 x.len, .slice A x.custs.length c, .slice B x.dist.length d]
theorem InstBox.fresh (w : World) (x : Inst) (A : Option Addr) (c : Nat) (B : Option Addr) (d : Nat) : InstBox (w.alloc (.cells #[.int .i64 x.days, .int .i64 x.veh, .int .i64 x.cap, .int .i64 x.len, .slice A x.custs.length c, .slice B x.dist.length d] 25)) w.heap.size x A c B d := BlkIs.fresh _ _ _
theorem InstBox.keep {W W' : World} {g : Nat} {x : Inst} {A : Option Addr} {c : Nat} {B : Option Addr} {d : Nat} (h : InstBox W g x A c B d) (hb : Below W.heap.size W W') : InstBox W' g x A c B d := BlkIs.below h hb h.lt
theorem InstBox.cells {W : World} {g : Nat} {x : Inst} {A : Option Addr} {c : Nat} {B : Option Addr} {d : Nat} (h : InstBox W g x A c B d) :
    W.cell? ⟨g, 0, none⟩ = some (.int .i64 x.days) ∧ W.cell? ⟨g, 1, none⟩ = some (.int .i64 x.veh) ∧ W.cell? ⟨g, 2, none⟩ = some (.int .i64 x.cap) ∧ W.cell? ⟨g, 3, none⟩ = some (.int .i64 x.len) ∧ W.cell? ⟨g, 4, none⟩ = some (.slice A x.custs.length c) ∧ W.cell? ⟨g, 5, none⟩ = some (.slice B x.dist.length d) := BlkIs.cells6 h
/-- A block of 6 cells, all of which are stored anew. -/
theorem BlkIs.store6 {w : World} {g : Nat} {t : TypeId} {a0 a1 a2 a3 a4 a5 : Value} (h : BlkIs w g t #[a0, a1, a2, a3, a4, a5]) (v0 v1 v2 v3 v4 v5 : Value) : BlkIs ((((((w.setCell ⟨g, 0, none⟩ v0).setCell ⟨g, 1, none⟩ v1).setCell ⟨g, 2, none⟩ v2).setCell ⟨g, 3, none⟩ v3).setCell ⟨g, 4, none⟩ v4).setCell ⟨g, 5, none⟩ v5) g t #[v0, v1, v2, v3, v4, v5] := by
  have := ((((((h.put 0 v0).put 1 v1).put 2 v2).put 3 v3).put 4 v4).put 5 v5)
  simpa using this
theorem Below.store6 {B : Nat} {a w : World} {g : Nat} (h : Below B a w) (hg : B ≤ g) (v0 v1 v2 v3 v4 v5 : Value) : Below B a ((((((w.setCell ⟨g, 0, none⟩ v0).setCell ⟨g, 1, none⟩ v1).setCell ⟨g, 2, none⟩ v2).setCell ⟨g, 3, none⟩ v3).setCell ⟨g, 4, none⟩ v4).setCell ⟨g, 5, none⟩ v5) :=
  ((((((h.setCell (p := ⟨g, 0, none⟩) hg v0).setCell (p := ⟨g, 1, none⟩) hg v1).setCell (p := ⟨g, 2, none⟩) hg v2).setCell (p := ⟨g, 3, none⟩) hg v3).setCell (p := ⟨g, 4, none⟩) hg v4).setCell (p := ⟨g, 5, none⟩) hg v5)
/-- A block of 8 cells, all of which are stored anew. -/
theorem BlkIs.store8 {w : World} {g : Nat} {t : TypeId} {a0 a1 a2 a3 a4 a5 a6 a7 : Value} (h : BlkIs w g t #[a0, a1, a2, a3, a4, a5, a6, a7]) (v0 v1 v2 v3 v4 v5 v6 v7 : Value) : BlkIs ((((((((w.setCell ⟨g, 0, none⟩ v0).setCell ⟨g, 1, none⟩ v1).setCell ⟨g, 2, none⟩ v2).setCell ⟨g, 3, none⟩ v3).setCell ⟨g, 4, none⟩ v4).setCell ⟨g, 5, none⟩ v5).setCell ⟨g, 6, none⟩ v6).setCell ⟨g, 7, none⟩ v7) g t #[v0, v1, v2, v3, v4, v5, v6, v7] := by
  have := ((((((((h.put 0 v0).put 1 v1).put 2 v2).put 3 v3).put 4 v4).put 5 v5).put 6 v6).put 7 v7)
  simpa using this
theorem Below.store8 {B : Nat} {a w : World} {g : Nat} (h : Below B a w) (hg : B ≤ g) (v0 v1 v2 v3 v4 v5 v6 v7 : Value) : Below B a ((((((((w.setCell ⟨g, 0, none⟩ v0).setCell ⟨g, 1, none⟩ v1).setCell ⟨g, 2, none⟩ v2).setCell ⟨g, 3, none⟩ v3).setCell ⟨g, 4, none⟩ v4).setCell ⟨g, 5, none⟩ v5).setCell ⟨g, 6, none⟩ v6).setCell ⟨g, 7, none⟩ v7) :=
  ((((((((h.setCell (p := ⟨g, 0, none⟩) hg v0).setCell (p := ⟨g, 1, none⟩) hg v1).setCell (p := ⟨g, 2, none⟩) hg v2).setCell (p := ⟨g, 3, none⟩) hg v3).setCell (p := ⟨g, 4, none⟩) hg v4).setCell (p := ⟨g, 5, none⟩) hg v5).setCell (p := ⟨g, 6, none⟩) hg v6).setCell (p := ⟨g, 7, none⟩) hg v7)
end Go.Proofs.YtmfahjghfpckeaaDoor
