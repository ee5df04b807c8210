import Derived.Test.YtliomhkgkabbbaaGreatDoorK03
import Derived.BigQuiet
import Derived.Deep.RegionHeld3
section
/- Instances, as data and in memory: what a slice of customers, a row of rows of numbers, and a whole instance read as, and that it stays so. -/
namespace Go.Proofs.YtliomhkgkabbbaaGreatDoor
open Go.RowKit
set_option linter.unusedVariables false
/-- A customer. -/
structure Cust where
  kind : Int
  demand : Int
  pats : List Int
  rate : Int
  size : Int
  start : Int
  rule : Int
  hold : Int
  deriving DecidableEq
/-- An instance. -/
structure Inst where
  days : Int
  veh : Int
  cap : Int
  len : Int
  custs : List Cust
  dist : List (List Int)
  deriving DecidableEq
/-- A number of 64 bits with sign. -/
def W64 (n : Int) : Prop := -9223372036854775808 ≤ n ∧ n ≤ 9223372036854775807
theorem W64.lo {n : Int} (h : W64 n) : -9223372036854775808 ≤ n := h.1
theorem W64.hi {n : Int} (h : W64 n) : n ≤ 9223372036854775807 := h.2
theorem W64.wf {n : Int} (h : W64 n) : (Lit.int .i64 n).wf = true := wf_iff.2 h
/-- The eight cells of a customer whose patterns lie at A, with room for k. -/
structure CustAt (w : World) (b o : Nat) (c : Cust) (A : Option Addr) (k : Nat) : Prop where
  c0 : w.cell? ⟨b, o, none⟩ = some (.int .i64 c.kind)
  c1 : w.cell? ⟨b, o + 1, none⟩ = some (.int .i64 c.demand)
  c2 : w.cell? ⟨b, o + 2, none⟩ = some (.slice A c.pats.length k)
  c3 : w.cell? ⟨b, o + 3, none⟩ = some (.int .i64 c.rate)
  c4 : w.cell? ⟨b, o + 4, none⟩ = some (.int .i64 c.size)
  c5 : w.cell? ⟨b, o + 5, none⟩ = some (.int .i64 c.start)
  c6 : w.cell? ⟨b, o + 6, none⟩ = some (.int .i64 c.rule)
  c7 : w.cell? ⟨b, o + 7, none⟩ = some (.int .i64 c.hold)
/-- A customer's numbers are numbers of the machine's. -/
structure Cust.Wf (c : Cust) : Prop where
  kind : W64 c.kind
  demand : W64 c.demand
  rate : W64 c.rate
  size : W64 c.size
  start : W64 c.start
  rule : W64 c.rule
  hold : W64 c.hold
  pats : ∀ p ∈ c.pats, 0 ≤ p ∧ p ≤ 18446744073709551615
  len : c.pats.length ≤ maxLen
theorem keep_cell {w w' : World} (hb : Below w.heap.size w w') {p : Addr} {v : Value} (h : w.cell? p = some v) : w'.cell? p = some v := (hb.cell (World.block_lt_of_cell? w _ h)).trans h
theorem CustAt.keep {w w' : World} {b o : Nat} {c : Cust} {A : Option Addr} {k : Nat} (h : CustAt w b o c A k) (hb : Below w.heap.size w w') : CustAt w' b o c A k :=
  ⟨keep_cell hb h.c0, keep_cell hb h.c1, keep_cell hb h.c2, keep_cell hb h.c3, keep_cell hb h.c4, keep_cell hb h.c5, keep_cell hb h.c6, keep_cell hb h.c7⟩
/-- A slice that reads as these customers. -/
def CustsIs (w : World) (A : Option Addr) (l : List Cust) : Prop :=
  ∀ i (hi : i < l.length), ∃ b off P k, A = some ⟨b, off, none⟩ ∧ CustAt w b (off + i * 8) l[i] P k ∧ Nums .u64 w P l[i].pats.length l[i].pats ∧ l[i].pats.length ≤ k
/-- A slice that reads as these rows of numbers. -/
def DistIs (w : World) (B : Option Addr) (l : List (List Int)) : Prop :=
  ∀ i (hi : i < l.length), ∃ b off P k, B = some ⟨b, off, none⟩ ∧ w.cell? ⟨b, off + i, none⟩ = some (.slice P l[i].length k) ∧ Ints w P l[i].length l[i] ∧ l[i].length ≤ k
theorem CustsIs.keep {w w' : World} {A : Option Addr} {l : List Cust} (h : CustsIs w A l) (hb : Below w.heap.size w w') : CustsIs w' A l := fun i hi => by
  obtain ⟨b, off, P, k, e, h1, h2, h3⟩ := h i hi
  exact ⟨b, off, P, k, e, h1.keep hb, h2.keep hb, h3⟩
theorem DistIs.keep {w w' : World} {B : Option Addr} {l : List (List Int)} (h : DistIs w B l) (hb : Below w.heap.size w w') : DistIs w' B l := fun i hi => by
  obtain ⟨b, off, P, k, e, h1, h2, h3⟩ := h i hi
  exact ⟨b, off, P, k, e, keep_cell hb h1, h2.keep hb, h3⟩
theorem CustsIs.cut {w : World} {A : Option Addr} {l : List Cust} (h : CustsIs w A l) (n : Nat) : CustsIs w A (l.take n) := fun i hi => by
  rw [List.length_take] at hi
  obtain ⟨b, off, P, k, e, h1, h2, h3⟩ := h i (by omega)
  rw [List.getElem_take]
  exact ⟨b, off, P, k, e, h1, h2, h3⟩
/-- An instance's numbers are numbers of the machine's. -/
structure Inst.Wf (x : Inst) : Prop where
  days : W64 x.days
  veh : W64 x.veh
  cap : W64 x.cap
  len : W64 x.len
  custs : ∀ c ∈ x.custs, c.Wf
  dist : ∀ r ∈ x.dist, r.length ≤ maxLen ∧ ∀ n ∈ r, W64 n
  n : x.custs.length ≤ maxLen
  m : x.dist.length ≤ maxLen
/-- The lists of an instance lie at A and B. -/
structure InstIs (w : World) (x : Inst) (A B : Option Addr) : Prop where
  custs : CustsIs w A x.custs
  dist : DistIs w B x.dist
  wf : x.Wf
theorem InstIs.keep {w w' : World} {x : Inst} {A B : Option Addr} (h : InstIs w x A B) (hb : Below w.heap.size w w') : InstIs w' x A B := ⟨h.custs.keep hb, h.dist.keep hb, h.wf⟩
/-- An instance as it is handed over. -/
def instV (x : Inst) (A : Option Addr) (c : Nat) (B : Option Addr) (d : Nat) : Value :=
  .agg #[.int .i64 x.days, .int .i64 x.veh, .int .i64 x.cap, .int .i64 x.len, .slice A x.custs.length c, .slice B x.dist.length d]
/-- A customer as it is handed over. -/
def custV (c : Cust) (A : Option Addr) (k : Nat) : Value :=
  .agg #[.int .i64 c.kind, .int .i64 c.demand, .slice A c.pats.length k, .int .i64 c.rate, .int .i64 c.size, .int .i64 c.start, .int .i64 c.rule, .int .i64 c.hold]
/-- The block of an instance that came in. -/
def instC (x : Inst) (A : Option Addr) (c : Nat) (B : Option Addr) (d : Nat) : Array Value :=
  #[.int .i64 x.days, .int .i64 x.veh, .int .i64 x.cap, .int .i64 x.len, .slice A x.custs.length c, .slice B x.dist.length d]
theorem getD_in {α : Type} (l : List α) (d : α) {i : Nat} (hi : i < l.length) : l.getD i d = l[i] := by rw [List.getD_eq_getElem?_getD, List.getElem?_eq_getElem hi]; rfl
theorem getD_out {α : Type} (l : List α) (d : α) {i : Nat} (hi : l.length ≤ i) : l.getD i d = d := by rw [List.getD_eq_getElem?_getD, List.getElem?_eq_none hi]; rfl

/-! ### What the document tells of an instance -/
/-- An arc; 0, if it is not there. -/
def arcD (x : Inst) (a b : Int) : Int := if a < 0 ∨ b < 0 then 0 else (x.dist.getD a.toNat []).getD b.toNat 0
theorem arcD_neg {x : Inst} {a b : Int} (h : a < 0 ∨ b < 0) : arcD x a b = 0 := if_pos h
theorem arcD_row {x : Inst} {a b : Nat} (h : x.dist.length ≤ a) : arcD x a b = 0 := by
  unfold arcD
  rw [if_neg (by omega), Int.toNat_natCast, getD_out _ _ h]
  rfl
theorem arcD_at {x : Inst} {a b : Nat} (ha : a < x.dist.length) : arcD x a b = x.dist[a].getD b 0 := by
  unfold arcD
  rw [if_neg (by omega), Int.toNat_natCast, Int.toNat_natCast, getD_in _ _ ha]
/-- There is a row for each place, and an arc for each place in it. -/
def Square (x : Inst) : Prop := x.dist.length = x.custs.length + 1 ∧ ∀ r ∈ x.dist, r.length = x.custs.length + 1
/-- All arcs are small. -/
def SmallD (x : Inst) : Prop := ∀ a b, 0 ≤ arcD x a b ∧ arcD x a b ≤ 60
/-- Where an arc stands: its row's cell, and its own. -/
theorem InstIs.arc {w : World} {x : Inst} {A B : Option Addr} (h : InstIs w x A B) {i : Nat} (hi : i < x.dist.length) : ∃ g off P rl r, B = some ⟨g, off, none⟩ ∧ w.cell? ⟨g, off + i, none⟩ = some (.slice P rl r) ∧ g < w.heap.size ∧ rl = (x.dist.getD i []).length ∧ rl ≤ maxLen ∧ rl ≤ r ∧
    (∀ k : Nat, rl ≤ k → arcD x i k = 0) ∧ ∀ k : Nat, k < rl → ∃ g2 off2, P = some ⟨g2, off2, none⟩ ∧ w.cell? ⟨g2, off2 + k, none⟩ = some (.int .i64 (arcD x i k)) ∧ g2 < w.heap.size ∧ W64 (arcD x i k) := by
  obtain ⟨g, off, P, r, rfl, h1, h2, h3⟩ := h.dist i hi
  refine ⟨g, off, P, _, r, rfl, h1, World.block_lt_of_cell? w _ h1, by rw [getD_in _ _ hi], (h.wf.dist _ (List.getElem_mem hi)).1, h3, fun k hk => ?_, fun k hk => ?_⟩
  · rw [arcD_at hi, getD_out _ _ hk]
  · obtain ⟨g2, off2, rfl, h4⟩ := h2.2 (by omega)
    have h5 := h4 k hk
    rw [arcD_at hi]
    refine ⟨g2, off2, rfl, h5, World.block_lt_of_cell? w _ h5, ?_⟩
    rw [getD_in _ _ hk]
    exact (h.wf.dist _ (List.getElem_mem hi)).2 _ (List.getElem_mem hk)
/-- The cells of a block of six. -/
theorem BlkIs.cells6 {w : World} {g : Nat} {t : TypeId} {a b c d e f : Value} (K : BlkIs w g t #[a, b, c, d, e, f]) :
    w.cell? ⟨g, 0, none⟩ = some a ∧ w.cell? ⟨g, 1, none⟩ = some b ∧ w.cell? ⟨g, 2, none⟩ = some c ∧ w.cell? ⟨g, 3, none⟩ = some d ∧ w.cell? ⟨g, 4, none⟩ = some e ∧ w.cell? ⟨g, 5, none⟩ = some f :=
  ⟨K.cellAt 0, K.cellAt 1, K.cellAt 2, K.cellAt 3, K.cellAt 4, K.cellAt 5⟩
/-- The cells of a block of eight. -/
theorem BlkIs.cells8 {w : World} {g : Nat} {t : TypeId} {a b c d e f h i : Value} (K : BlkIs w g t #[a, b, c, d, e, f, h, i]) :
    w.cell? ⟨g, 0, none⟩ = some a ∧ w.cell? ⟨g, 1, none⟩ = some b ∧ w.cell? ⟨g, 2, none⟩ = some c ∧ w.cell? ⟨g, 3, none⟩ = some d ∧ w.cell? ⟨g, 4, none⟩ = some e ∧ w.cell? ⟨g, 5, none⟩ = some f ∧ w.cell? ⟨g, 6, none⟩ = some h ∧ w.cell? ⟨g, 7, none⟩ = some i :=
  ⟨K.cellAt 0, K.cellAt 1, K.cellAt 2, K.cellAt 3, K.cellAt 4, K.cellAt 5, K.cellAt 6, K.cellAt 7⟩
/-- The cells of a block of nine. -/
theorem BlkIs.cells9 {w : World} {g : Nat} {t : TypeId} {a b c d e f h i j : Value} (K : BlkIs w g t #[a, b, c, d, e, f, h, i, j]) :
    w.cell? ⟨g, 0, none⟩ = some a ∧ w.cell? ⟨g, 1, none⟩ = some b ∧ w.cell? ⟨g, 2, none⟩ = some c ∧ w.cell? ⟨g, 3, none⟩ = some d ∧ w.cell? ⟨g, 4, none⟩ = some e ∧ w.cell? ⟨g, 5, none⟩ = some f ∧ w.cell? ⟨g, 6, none⟩ = some h ∧ w.cell? ⟨g, 7, none⟩ = some i ∧ w.cell? ⟨g, 8, none⟩ = some j :=
  ⟨K.cellAt 0, K.cellAt 1, K.cellAt 2, K.cellAt 3, K.cellAt 4, K.cellAt 5, K.cellAt 6, K.cellAt 7, K.cellAt 8⟩
/-- The block of an instance that was handed over. -/
def InstBox (W : World) (g : Nat) (x : Inst) (A : Option Addr) (c : Nat) (B : Option Addr) (d : Nat) : Prop :=
  BlkIs W g 25 #[.int .i64 x.days, .int .i64 x.veh, .int .i64 x.cap, .int .i64 x.len, .slice A x.custs.length c, .slice B x.dist.length d]
theorem InstBox.fresh (w : World) (x : Inst) (A : Option Addr) (c : Nat) (B : Option Addr) (d : Nat) : InstBox (w.alloc (.cells #[.int .i64 x.days, .int .i64 x.veh, .int .i64 x.cap, .int .i64 x.len, .slice A x.custs.length c, .slice B x.dist.length d] 25)) w.heap.size x A c B d := BlkIs.fresh _ _ _
theorem InstBox.keep {W W' : World} {g : Nat} {x : Inst} {A : Option Addr} {c : Nat} {B : Option Addr} {d : Nat} (h : InstBox W g x A c B d) (hb : Below W.heap.size W W') : InstBox W' g x A c B d := BlkIs.below h hb h.lt
theorem InstBox.cells {W : World} {g : Nat} {x : Inst} {A : Option Addr} {c : Nat} {B : Option Addr} {d : Nat} (h : InstBox W g x A c B d) :
    W.cell? ⟨g, 0, none⟩ = some (.int .i64 x.days) ∧ W.cell? ⟨g, 1, none⟩ = some (.int .i64 x.veh) ∧ W.cell? ⟨g, 2, none⟩ = some (.int .i64 x.cap) ∧ W.cell? ⟨g, 3, none⟩ = some (.int .i64 x.len) ∧ W.cell? ⟨g, 4, none⟩ = some (.slice A x.custs.length c) ∧ W.cell? ⟨g, 5, none⟩ = some (.slice B x.dist.length d) := BlkIs.cells6 h
/-- A block of 6 cells, all of which are stored anew. -/
theorem BlkIs.store6 {w : World} {g : Nat} {t : TypeId} {a0 a1 a2 a3 a4 a5 : Value} (h : BlkIs w g t #[a0, a1, a2, a3, a4, a5]) (v0 v1 v2 v3 v4 v5 : Value) : BlkIs ((((((w.setCell ⟨g, 0, none⟩ v0).setCell ⟨g, 1, none⟩ v1).setCell ⟨g, 2, none⟩ v2).setCell ⟨g, 3, none⟩ v3).setCell ⟨g, 4, none⟩ v4).setCell ⟨g, 5, none⟩ v5) g t #[v0, v1, v2, v3, v4, v5] := by
  have := ((((((h.put 0 v0).put 1 v1).put 2 v2).put 3 v3).put 4 v4).put 5 v5)
  simpa using this
theorem Below.store6 {B : Nat} {a w : World} {g : Nat} (h : Below B a w) (hg : B ≤ g) (v0 v1 v2 v3 v4 v5 : Value) : Below B a ((((((w.setCell ⟨g, 0, none⟩ v0).setCell ⟨g, 1, none⟩ v1).setCell ⟨g, 2, none⟩ v2).setCell ⟨g, 3, none⟩ v3).setCell ⟨g, 4, none⟩ v4).setCell ⟨g, 5, none⟩ v5) :=
  ((((((h.setCell (p := ⟨g, 0, none⟩) hg v0).setCell (p := ⟨g, 1, none⟩) hg v1).setCell (p := ⟨g, 2, none⟩) hg v2).setCell (p := ⟨g, 3, none⟩) hg v3).setCell (p := ⟨g, 4, none⟩) hg v4).setCell (p := ⟨g, 5, none⟩) hg v5)
/-- A block of 8 cells, all of which are stored anew. -/
theorem BlkIs.store8 {w : World} {g : Nat} {t : TypeId} {a0 a1 a2 a3 a4 a5 a6 a7 : Value} (h : BlkIs w g t #[a0, a1, a2, a3, a4, a5, a6, a7]) (v0 v1 v2 v3 v4 v5 v6 v7 : Value) : BlkIs ((((((((w.setCell ⟨g, 0, none⟩ v0).setCell ⟨g, 1, none⟩ v1).setCell ⟨g, 2, none⟩ v2).setCell ⟨g, 3, none⟩ v3).setCell ⟨g, 4, none⟩ v4).setCell ⟨g, 5, none⟩ v5).setCell ⟨g, 6, none⟩ v6).setCell ⟨g, 7, none⟩ v7) g t #[v0, v1, v2, v3, v4, v5, v6, v7] := by
  have := ((((((((h.put 0 v0).put 1 v1).put 2 v2).put 3 v3).put 4 v4).put 5 v5).put 6 v6).put 7 v7)
  simpa using this
theorem Below.store8 {B : Nat} {a w : World} {g : Nat} (h : Below B a w) (hg : B ≤ g) (v0 v1 v2 v3 v4 v5 v6 v7 : Value) : Below B a ((((((((w.setCell ⟨g, 0, none⟩ v0).setCell ⟨g, 1, none⟩ v1).setCell ⟨g, 2, none⟩ v2).setCell ⟨g, 3, none⟩ v3).setCell ⟨g, 4, none⟩ v4).setCell ⟨g, 5, none⟩ v5).setCell ⟨g, 6, none⟩ v6).setCell ⟨g, 7, none⟩ v7) :=
  ((((((((h.setCell (p := ⟨g, 0, none⟩) hg v0).setCell (p := ⟨g, 1, none⟩) hg v1).setCell (p := ⟨g, 2, none⟩) hg v2).setCell (p := ⟨g, 3, none⟩) hg v3).setCell (p := ⟨g, 4, none⟩) hg v4).setCell (p := ⟨g, 5, none⟩) hg v5).setCell (p := ⟨g, 6, none⟩) hg v6).setCell (p := ⟨g, 7, none⟩) hg v7)
end Go.Proofs.YtliomhkgkabbbaaGreatDoor
end
section
/- What the small functions of package inst answer, off their code: within, size, place, there, Arc. -/
namespace Go.Proofs.YtliomhkgkabbbaaGreatDoor
open Go.RowKit
set_option linter.unusedVariables false
theorem bcell {W w1 : World} (hb : Below W.heap.size W w1) : (∀ b o, b < W.heap.size → w1.cell? ⟨b, o, none⟩ = W.cell? ⟨b, o, none⟩) ∧ (∀ b o, b < W.heap.size → w1.frozen? ⟨b, o, none⟩ = W.frozen? ⟨b, o, none⟩) :=
  ⟨fun b o h => hb.cell (p := ⟨b, o, none⟩) h, fun b o h => hb.frozen (p := ⟨b, o, none⟩) h⟩
def withinB (n l m : Int) : Bool := decide (l ≤ n) && decide (n ≤ m)
theorem withinB_true {n l m : Int} (h : l ≤ n ∧ n ≤ m) : withinB n l m = true := by unfold withinB; simp [h]
theorem withinB_false {n l m : Int} (h : ¬ (l ≤ n ∧ n ≤ m)) : withinB n l m = false := by unfold withinB; simp; omega
theorem withinB_iff {n l m : Int} : withinB n l m = true ↔ l ≤ n ∧ n ≤ m := by unfold withinB; simp
theorem within_any (n l m : Int) (w : World) : Calls Tryz.prog 65 #[.int .i64 n, .int .i64 l, .int .i64 m] w fun e w' => e = .returned (.bool (withinB n l m)) ∧ w = w' := by
  go_enter Tryz.func65, Tryz.ntmps65
  go_wp2
  all_goals
    go_ret
    exact ⟨ret_bool (by unfold withinB; simp; omega), rfl⟩
end Go.Proofs.YtliomhkgkabbbaaGreatDoor
end
section
/- What the document's functions on instances answer, off their code: round, Arc, Way. -/
namespace Go.Proofs.YtliomhkgkabbbaaGreatDoor
open Go.RowKit
set_option linter.unusedVariables false
/-- A number counted round. -/
def roundD (n l m : Int) : Int := l + (if n < 0 then -(n + 1) else n) % (m - l + 1)
theorem roundD_bd (n : Int) {l m : Int} (h : l ≤ m) : l ≤ roundD n l m ∧ roundD n l m ≤ m := by
  unfold roundD
  generalize (if n < 0 then -(n + 1) else n) = q
  have h1 := Int.emod_nonneg q (b := m - l + 1) (by omega)
  have h2 := Int.emod_lt_of_pos q (b := m - l + 1) (by omega)
  omega
set_option maxHeartbeats 1000000 in
theorem round_any (n l m : Int) (wn : W64 n) (h0 : 0 ≤ l) (h1 : l ≤ m) (h2 : m ≤ 1000) (w : World) :
    Calls Tryz.prog 15 #[.int .i64 n, .int .i64 l, .int .i64 m] w fun e w' => e = .returned (.int .i64 (roundD n l m)) ∧ w = w' := by
  obtain ⟨b0, b1⟩ := wn
  have hr := roundD_bd n h1
  by_cases hn : n < 0
  · have e : roundD n l m = l + (-(n + 1)) % (m - l + 1) := by unfold roundD; rw [if_pos hn]
    have h3 := Int.emod_nonneg (-(n + 1)) (b := m - l + 1) (by omega)
    have h4 := Int.emod_lt_of_pos (-(n + 1)) (b := m - l + 1) (by omega)
    rw [e]
    clear e hr
    go_enter Tryz.func15, Tryz.ntmps15
    go_wp2
    go_ret
    exact ⟨ret_int (by rw [← Int.neg_tmod, Int.tmod_eq_emod_of_nonneg (by omega), IntWalk.wrap64_in _ ⟨by omega, by omega⟩]), rfl⟩
  · have e : roundD n l m = l + n % (m - l + 1) := by unfold roundD; rw [if_neg hn]
    have h3 := Int.emod_nonneg n (b := m - l + 1) (by omega)
    have h4 := Int.emod_lt_of_pos n (b := m - l + 1) (by omega)
    rw [e]
    clear e hr
    go_enter Tryz.func15, Tryz.ntmps15
    go_wp2
    go_ret
    exact ⟨ret_int (by rfl), rfl⟩
set_option maxHeartbeats 1000000 in
theorem arc_ref (x : Inst) (A : Option Addr) (c : Nat) (B : Option Addr) (d : Nat) (a b : Int) (w : World) (h : InstIs w x A B) :
    Calls Tryz.prog 17 #[instV x A c B d, .int .i64 a, .int .i64 b] w fun e w' => e = .returned (.int .i64 (arcD x a b)) ∧ Below w.heap.size w w' := by
  have hm := h.wf.m
  have HB := Go.Lib.hid (below_alloc w (.cells #[.int .i64 x.days, .int .i64 x.veh, .int .i64 x.cap, .int .i64 x.len, .slice A x.custs.length c, .slice B x.dist.length d] 25))
  unfold instV at *
  unfold maxLen at hm
  by_cases ha : a < 0
  · rw [arcD_neg (.inl ha)]
    go_enter Tryz.func17, Tryz.ntmps17
    go_wp2
    go_ret
    exact ⟨rfl, HB.out⟩
  by_cases hb : b < 0
  · rw [arcD_neg (.inr hb)]
    go_enter Tryz.func17, Tryz.ntmps17
    go_wp2
    go_ret
    exact ⟨rfl, HB.out⟩
  obtain ⟨i, rfl⟩ : ∃ i : Nat, a = (i : Int) := ⟨a.toNat, by omega⟩
  obtain ⟨k, rfl⟩ : ∃ k : Nat, b = (k : Int) := ⟨b.toNat, by omega⟩
  by_cases hi : i < x.dist.length
  · obtain ⟨g, off, P, rl, r, rfl, h1, h2, h3, h4, h5, h6, h7⟩ := h.arc hi
    clear h3
    unfold maxLen at h4
    have k1 := keep_cell HB.out h1
    by_cases hk : k < rl
    · obtain ⟨g2, off2, rfl, g3, g4, g5⟩ := h7 k hk
      have k2 := keep_cell HB.out g3
      clear h6 h7 h
      generalize arcD x i k = v at *
      go_enter Tryz.func17, Tryz.ntmps17
      go_wp2
      go_ret
      exact ⟨rfl, HB.out⟩
    · rw [h6 k (by omega)]
      clear h6 h7 h
      go_enter Tryz.func17, Tryz.ntmps17
      go_wp2
      go_ret
      exact ⟨rfl, HB.out⟩
  · rw [arcD_row (by omega)]
    clear h
    go_enter Tryz.func17, Tryz.ntmps17
    go_wp2
    go_ret
    exact ⟨rfl, HB.out⟩
theorem arc_ref_from {w : World} {x : Inst} {A B : Option Addr} (h : InstIs w x A B) (c d : Nat) (a b : Int) (W : World) (hb : Below w.heap.size w W) :
    Calls Tryz.prog 17 #[instV x A c B d, .int .i64 a, .int .i64 b] W fun e w' => e = .returned (.int .i64 (arcD x a b)) ∧ Below W.heap.size W w' ∧ Below w.heap.size w w' :=
  (arc_ref x A c B d a b W (h.keep hb)).mono fun _ _ ⟨e, hb'⟩ => ⟨e, hb', hb.trans (hb'.mono hb.size)⟩
end Go.Proofs.YtliomhkgkabbbaaGreatDoor
end
section
/- Two customers, and two instances, are the same: off the code. -/
namespace Go.Proofs.YtliomhkgkabbbaaGreatDoor
open Go.RowKit
set_option linter.unusedVariables false
theorem cust_dec (a b : Cust) : decide (a = b) = ((a.kind == b.kind) && ((a.demand == b.demand) && (decide (a.pats = b.pats) && ((a.rate == b.rate) && ((a.size == b.size) && ((a.start == b.start) && ((a.rule == b.rule) && (a.hold == b.hold)))))))) := by
  cases a
  cases b
  refine Bool.eq_iff_iff.2 ?_
  simp only [Cust.mk.injEq, decide_eq_true_iff, Bool.and_eq_true, beq_iff_eq]
theorem inst_dec (a b : Inst) : decide (a = b) = ((a.days == b.days) && ((a.veh == b.veh) && ((a.cap == b.cap) && ((a.len == b.len) && (decide (a.custs = b.custs) && decide (a.dist = b.dist)))))) := by
  cases a
  cases b
  refine Bool.eq_iff_iff.2 ?_
  simp only [Inst.mk.injEq, decide_eq_true_iff, Bool.and_eq_true, beq_iff_eq]
end Go.Proofs.YtliomhkgkabbbaaGreatDoor
end
section
/- Two instances are the same: the code's Same. -/
namespace Go.Proofs.YtliomhkgkabbbaaGreatDoor
open Go.RowKit
set_option linter.unusedVariables false
theorem take_eq_succ {α : Type} {xs ys : List α} {k : Nat} (h : xs.take k = ys.take k) (hk : k < xs.length) (hk' : k < ys.length) (he : xs[k] = ys[k]) : xs.take (k + 1) = ys.take (k + 1) := by
  rw [List.take_succ_eq_append_getElem hk, List.take_succ_eq_append_getElem hk', h, he]
theorem ne_of_at {α : Type} {xs ys : List α} {k : Nat} (hk : k < xs.length) (hk' : k < ys.length) (he : xs[k] ≠ ys[k]) : xs ≠ ys := by
  rintro rfl
  exact he rfl
end Go.Proofs.YtliomhkgkabbbaaGreatDoor
end
section
/- Two instances are the same: the code's Same, and the document's same. -/
namespace Go.Proofs.YtliomhkgkabbbaaGreatDoor
open Go.RowKit
set_option linter.unusedVariables false
theorem cust_dec2 (a b : Cust) : decide (a = b) = ((a.kind == b.kind) && ((a.demand == b.demand) && ((a.rate == b.rate) && ((a.size == b.size) && ((a.start == b.start) && ((a.rule == b.rule) && ((a.hold == b.hold) && decide (a.pats = b.pats)))))))) := by
  cases a
  cases b
  refine Bool.eq_iff_iff.2 ?_
  simp only [Cust.mk.injEq, decide_eq_true_iff, Bool.and_eq_true, beq_iff_eq]
  constructor
  · rintro ⟨a1, a2, a3, a4, a5, a6, a7, a8⟩
    exact ⟨a1, a2, a4, a5, a6, a7, a8, a3⟩
  · rintro ⟨a1, a2, a4, a5, a6, a7, a8, a3⟩
    exact ⟨a1, a2, a3, a4, a5, a6, a7, a8⟩
set_option maxHeartbeats 4000000 in
theorem same_any (p q : Cust) (A : Option Addr) (k : Nat) (B : Option Addr) (m : Nat) (w : World) (h1 : Nums .u64 w A p.pats.length p.pats) (h2 : Nums .u64 w B q.pats.length q.pats) (l1 : p.pats.length ≤ maxLen) (l2 : q.pats.length ≤ maxLen) :
    Calls Tryz.prog 33 #[custV p A k, custV q B m] w fun e w' => e = .returned (.bool (decide (p = q))) ∧ Below w.heap.size w w' := by
  have hb := (below_alloc w (.cells #[.int .i64 p.kind, .int .i64 p.demand, .slice A p.pats.length k, .int .i64 p.rate, .int .i64 p.size, .int .i64 p.start, .int .i64 p.rule, .int .i64 p.hold] 41)).trans ((below_alloc _ (.cells #[.int .i64 q.kind, .int .i64 q.demand, .slice B q.pats.length m, .int .i64 q.rate, .int .i64 q.size, .int .i64 q.start, .int .i64 q.rule, .int .i64 q.hold] 41)).mono (by simp))
  have HB := Go.Lib.hid hb
  have HA := Go.Lib.hid (h1.keep hb)
  have HC := Go.Lib.hid (h2.keep hb)
  have KP := Go.Lib.hid ((BlkIs.fresh w 41 #[.int .i64 p.kind, .int .i64 p.demand, .slice A p.pats.length k, .int .i64 p.rate, .int .i64 p.size, .int .i64 p.start, .int .i64 p.rule, .int .i64 p.hold]).alloc (.cells #[.int .i64 q.kind, .int .i64 q.demand, .slice B q.pats.length m, .int .i64 q.rate, .int .i64 q.size, .int .i64 q.start, .int .i64 q.rule, .int .i64 q.hold] 41))
  have KQ := Go.Lib.hid (BlkIs.fresh (w.alloc (.cells #[.int .i64 p.kind, .int .i64 p.demand, .slice A p.pats.length k, .int .i64 p.rate, .int .i64 p.size, .int .i64 p.start, .int .i64 p.rule, .int .i64 p.hold] 41)) 41 #[.int .i64 q.kind, .int .i64 q.demand, .slice B q.pats.length m, .int .i64 q.rate, .int .i64 q.size, .int .i64 q.start, .int .i64 q.rule, .int .i64 q.hold])
  unfold custV
  unfold maxLen at l1 l2
  clear hb h1 h2
  rcases Bool.eq_false_or_eq_true (p.kind == q.kind) with t0 | t0
  rotate_left
  · skip
    have hd : decide (p = q) = false := by rw [cust_dec2, t0]; rfl
    rw [hd]
    have b0 : (p.kind != q.kind) = true := by rw [bne, t0]; rfl
    clear hd t0
    go_enter Tryz.func33, Tryz.ntmps33
    go_wp2
    go_ret
    exact ⟨rfl, HB.out⟩
  rcases Bool.eq_false_or_eq_true (p.demand == q.demand) with t1 | t1
  rotate_left
  · skip
    have hd : decide (p = q) = false := by rw [cust_dec2, t0, t1]; rfl
    rw [hd]
    have b0 : (p.kind != q.kind) = false := by rw [bne, t0]; rfl
    have b1 : (p.demand != q.demand) = true := by rw [bne, t1]; rfl
    clear hd t0 t1
    go_enter Tryz.func33, Tryz.ntmps33
    go_wp2
    go_ret
    exact ⟨rfl, HB.out⟩
  rcases Bool.eq_false_or_eq_true (p.rate == q.rate) with t2 | t2
  rotate_left
  · skip
    have hd : decide (p = q) = false := by rw [cust_dec2, t0, t1, t2]; rfl
    rw [hd]
    have b0 : (p.kind != q.kind) = false := by rw [bne, t0]; rfl
    have b1 : (p.demand != q.demand) = false := by rw [bne, t1]; rfl
    have b2 : (p.rate != q.rate) = true := by rw [bne, t2]; rfl
    clear hd t0 t1 t2
    go_enter Tryz.func33, Tryz.ntmps33
    go_wp2
    go_ret
    exact ⟨rfl, HB.out⟩
  rcases Bool.eq_false_or_eq_true (p.size == q.size) with t3 | t3
  rotate_left
  · skip
    have hd : decide (p = q) = false := by rw [cust_dec2, t0, t1, t2, t3]; rfl
    rw [hd]
    have b0 : (p.kind != q.kind) = false := by rw [bne, t0]; rfl
    have b1 : (p.demand != q.demand) = false := by rw [bne, t1]; rfl
    have b2 : (p.rate != q.rate) = false := by rw [bne, t2]; rfl
    have b3 : (p.size != q.size) = true := by rw [bne, t3]; rfl
    clear hd t0 t1 t2 t3
    go_enter Tryz.func33, Tryz.ntmps33
    go_wp2
    go_ret
    exact ⟨rfl, HB.out⟩
  rcases Bool.eq_false_or_eq_true (p.start == q.start) with t4 | t4
  rotate_left
  · skip
    have hd : decide (p = q) = false := by rw [cust_dec2, t0, t1, t2, t3, t4]; rfl
    rw [hd]
    have b0 : (p.kind != q.kind) = false := by rw [bne, t0]; rfl
    have b1 : (p.demand != q.demand) = false := by rw [bne, t1]; rfl
    have b2 : (p.rate != q.rate) = false := by rw [bne, t2]; rfl
    have b3 : (p.size != q.size) = false := by rw [bne, t3]; rfl
    have b4 : (p.start != q.start) = true := by rw [bne, t4]; rfl
    clear hd t0 t1 t2 t3 t4
    go_enter Tryz.func33, Tryz.ntmps33
    go_wp2
    go_ret
    exact ⟨rfl, HB.out⟩
  rcases Bool.eq_false_or_eq_true (p.rule == q.rule) with t5 | t5
  rotate_left
  · skip
    have hd : decide (p = q) = false := by rw [cust_dec2, t0, t1, t2, t3, t4, t5]; rfl
    rw [hd]
    have b0 : (p.kind != q.kind) = false := by rw [bne, t0]; rfl
    have b1 : (p.demand != q.demand) = false := by rw [bne, t1]; rfl
    have b2 : (p.rate != q.rate) = false := by rw [bne, t2]; rfl
    have b3 : (p.size != q.size) = false := by rw [bne, t3]; rfl
    have b4 : (p.start != q.start) = false := by rw [bne, t4]; rfl
    have b5 : (p.rule != q.rule) = true := by rw [bne, t5]; rfl
    clear hd t0 t1 t2 t3 t4 t5
    go_enter Tryz.func33, Tryz.ntmps33
    go_wp2
    go_ret
    exact ⟨rfl, HB.out⟩
  rcases Bool.eq_false_or_eq_true (p.hold == q.hold) with t6 | t6
  rotate_left
  · skip
    have hd : decide (p = q) = false := by rw [cust_dec2, t0, t1, t2, t3, t4, t5, t6]; rfl
    rw [hd]
    have b0 : (p.kind != q.kind) = false := by rw [bne, t0]; rfl
    have b1 : (p.demand != q.demand) = false := by rw [bne, t1]; rfl
    have b2 : (p.rate != q.rate) = false := by rw [bne, t2]; rfl
    have b3 : (p.size != q.size) = false := by rw [bne, t3]; rfl
    have b4 : (p.start != q.start) = false := by rw [bne, t4]; rfl
    have b5 : (p.rule != q.rule) = false := by rw [bne, t5]; rfl
    have b6 : (p.hold != q.hold) = true := by rw [bne, t6]; rfl
    clear hd t0 t1 t2 t3 t4 t5 t6
    go_enter Tryz.func33, Tryz.ntmps33
    go_wp2
    go_ret
    exact ⟨rfl, HB.out⟩
  have hdq : decide (p = q) = decide (p.pats = q.pats) := by rw [cust_dec2, t0, t1, t2, t3, t4, t5, t6]; rfl
  rw [hdq]
  clear hdq
  have b0 : (p.kind != q.kind) = false := by rw [bne, t0]; rfl
  have b1 : (p.demand != q.demand) = false := by rw [bne, t1]; rfl
  have b2 : (p.rate != q.rate) = false := by rw [bne, t2]; rfl
  have b3 : (p.size != q.size) = false := by rw [bne, t3]; rfl
  have b4 : (p.start != q.start) = false := by rw [bne, t4]; rfl
  have b5 : (p.rule != q.rule) = false := by rw [bne, t5]; rfl
  have b6 : (p.hold != q.hold) = false := by rw [bne, t6]; rfl
  clear t0 t1 t2 t3 t4 t5 t6
  by_cases hlen : p.pats.length = q.pats.length
  rotate_left
  · have hli : ((p.pats.length : Int) != (q.pats.length : Int)) = true := by rw [bne, beq_eq_false_iff_ne.2 (by omega)]; rfl
    have hd : decide (p.pats = q.pats) = false := decide_eq_false (by intro e; exact hlen (by rw [e]))
    rw [hd]
    clear hd hlen
    go_enter Tryz.func33, Tryz.ntmps33
    go_wp2
    go_ret
    exact ⟨rfl, HB.out⟩
  have hli : ((p.pats.length : Int) != (q.pats.length : Int)) = false := by rw [bne, beq_iff_eq.2 (by omega)]; rfl
  have HLN := Go.Lib.hid hlen
  clear hlen
  obtain ⟨W0, hW0⟩ : ∃ W, W = (w.alloc (.cells #[.int .i64 p.kind, .int .i64 p.demand, .slice A p.pats.length k, .int .i64 p.rate, .int .i64 p.size, .int .i64 p.start, .int .i64 p.rule, .int .i64 p.hold] 41)).alloc (.cells #[.int .i64 q.kind, .int .i64 q.demand, .slice B q.pats.length m, .int .i64 q.rate, .int .i64 q.size, .int .i64 q.start, .int .i64 q.rule, .int .i64 q.hold] 41) := ⟨_, rfl⟩
  go_enter Tryz.func33, Tryz.ntmps33
  go_wp2
  rw [← hW0] at HB HA HC KP KQ
  rw [← hW0]
  obtain ⟨xs, hxs⟩ : ∃ xs, xs = p.pats := ⟨_, rfl⟩
  obtain ⟨ys, hys⟩ : ∃ ys, ys = q.pats := ⟨_, rfl⟩
  have HXL : Hid (xs.length = p.pats.length) := by show _ = _; rw [hxs]
  have HYL : Hid (ys.length = p.pats.length) := by show _ = _; rw [hys, HLN.out]
  have HA2 : Hid (Nums .u64 W0 A p.pats.length xs) := by show Nums .u64 W0 A p.pats.length xs; rw [hxs]; exact HA.out
  have HC2 : Hid (Nums .u64 W0 B q.pats.length ys) := by show Nums .u64 W0 B q.pats.length ys; rw [hys]; exact HC.out
  have HXS : Hid (decide (xs = ys) = decide (p.pats = q.pats)) := by show _ = _; rw [hxs, hys]
  clear hxs hys HA HC
  go_loopw [5] (fun iv wr => ∃ j : Nat, j ≤ p.pats.length ∧ iv = .int .i64 j ∧ xs.take j = ys.take j ∧ Below W0.heap.size W0 wr) (fun iv _ => p.pats.length - (intOf iv).toNat)
  case atStart => exact ⟨0, Nat.zero_le _, rfl, by simp, Below.refl _ _⟩
  case round =>
    obtain ⟨j, hj, rfl, he, hB⟩ := hrel
    have HE := Go.Lib.hid he
    have HBr := Go.Lib.hid hB
    clear he hB
    obtain ⟨d0, d1, d2, d3, d4, d5, d6, d7⟩ := (KP.out.below HBr.out KP.out.lt).cells8
    obtain ⟨e0, e1, e2, e3, e4, e5, e6, e7⟩ := (KQ.out.below HBr.out KQ.out.lt).cells8
    rw [World.size_alloc] at e0 e1 e2 e3 e4 e5 e6 e7
    have HEx := Go.Lib.hid (HB.out.trans (HBr.out.mono HB.out.size))
    by_cases hlt : j < p.pats.length
    · obtain ⟨x, hx⟩ : ∃ x, xs.getD j 0 = x := ⟨_, rfl⟩
      obtain ⟨y, hy⟩ : ∃ y, ys.getD j 0 = y := ⟨_, rfl⟩
      have hjq : j < q.pats.length := by rw [← HLN.out]; exact hlt
      obtain ⟨b1, o1, rfl, h1⟩ := (HA2.out.keep HBr.out).2 (by omega)
      obtain ⟨b2, o2, rfl, h2⟩ := (HC2.out.keep HBr.out).2 (by omega)
      have f1 := h1 j hlt
      have f2 := h2 j hjq
      rw [hx] at f1
      rw [hy] at f2
      have HX := Go.Lib.hid hx
      have HY := Go.Lib.hid hy
      have k0 : (0 : Int) ≤ (j : Int) := Int.natCast_nonneg _
      have k1 : (j : Int) < (p.pats.length : Int) := by omega
      have k2 : (j : Int) < (q.pats.length : Int) := by omega
      clear h1 h2 hx hy
      by_cases hxy : x = y
      · subst hxy
        go_wp2
        go_quiet (fail)
        go_wp2
        go_roundw
        case rel => exact ⟨j + 1, by omega, by go_num, SameI.eq_take_succ HE.out (by rw [HXL.out]; exact hlt) (by rw [HYL.out]; exact hlt) (by rw [HX.out, HY.out]), below_drewN HBr.out _⟩
        case measure => simp [intOf]; omega
      · have hb2 : (x == y) = false := beq_eq_false_iff_ne.2 hxy
        have HN := Go.Lib.hid hxy
        clear hxy
        go_wp2
        go_quiet (fail)
        go_wp2
        go_ret
        refine ⟨ret_bool (((HXS.out.symm).trans (decide_eq_false ?_)).symm), below_drewN HEx.out _⟩
        rintro rfl
        exact HN.out (HX.out.symm.trans HY.out)
    · go_wp2
      go_ret
      refine ⟨ret_bool (((HXS.out.symm).trans (decide_eq_true ?_)).symm), HEx.out⟩
      have := HE.out
      rwa [List.take_of_length_le (by rw [HXL.out]; omega), List.take_of_length_le (by rw [HYL.out]; omega)] at this
end Go.Proofs.YtliomhkgkabbbaaGreatDoor
end
section
/- Two instances are the same: the document's Same. -/
namespace Go.Proofs.YtliomhkgkabbbaaGreatDoor
open Go.RowKit
set_option linter.unusedVariables false
theorem same_from {w : World} {p q : Cust} {A B : Option Addr} {r : Bool} (hr : decide (p = q) = r) (h1 : Nums .u64 w A p.pats.length p.pats) (h2 : Nums .u64 w B q.pats.length q.pats) (l1 : p.pats.length ≤ maxLen) (l2 : q.pats.length ≤ maxLen) (k m : Nat) (W : World) (h : Below w.heap.size w W) :
    Calls Tryz.prog 33 #[custV p A k, custV q B m] W fun e w' => e = .returned (.bool r) ∧ Below W.heap.size W w' := by
  subst hr
  exact same_any p q A k B m W (h1.keep h) (h2.keep h) l1 l2
theorem same2_from {w : World} {A C : Option Addr} {n m : Nat} {xs ys : List Int} {q : Bool} (hq : decide (xs = ys) = q) (ha : Ints w A n xs) (hb : Ints w C m ys) (hn : n ≤ maxLen) (hm : m ≤ maxLen) (c d : Nat) (W : World) (h : Below w.heap.size w W) :
    Calls Tryz.prog 34 #[.slice A n c, .slice C m d] W fun e w' => e = .returned (.bool q) ∧ Below W.heap.size W w' := by
  subst hq
  exact SameI.same_ref A C n m c d xs ys W (ha.keep h) (hb.keep h) hn hm
set_option maxHeartbeats 8000000 in
theorem Same_ref (x y : Inst) (A : Option Addr) (c : Nat) (B : Option Addr) (d : Nat) (C : Option Addr) (e : Nat) (D : Option Addr) (f : Nat) (w : World) (hx : InstIs w x A B) (hy : InstIs w y C D) :
    Calls Tryz.prog 12 #[instV x A c B d, instV y C e D f] w fun e w' => e = .returned (.bool (decide (x = y))) ∧ Below w.heap.size w w' := by
  have hb := (below_alloc w (.cells #[.int .i64 x.days, .int .i64 x.veh, .int .i64 x.cap, .int .i64 x.len, .slice A x.custs.length c, .slice B x.dist.length d] 25)).trans ((below_alloc _ (.cells #[.int .i64 y.days, .int .i64 y.veh, .int .i64 y.cap, .int .i64 y.len, .slice C y.custs.length e, .slice D y.dist.length f] 25)).mono (by simp))
  have HB := Go.Lib.hid hb
  have HX := Go.Lib.hid (hx.keep hb)
  have HY := Go.Lib.hid (hy.keep hb)
  have KP := Go.Lib.hid ((InstBox.fresh w x A c B d).keep (below_alloc _ (.cells #[.int .i64 y.days, .int .i64 y.veh, .int .i64 y.cap, .int .i64 y.len, .slice C y.custs.length e, .slice D y.dist.length f] 25)))
  have KQ := Go.Lib.hid (InstBox.fresh (w.alloc (.cells #[.int .i64 x.days, .int .i64 x.veh, .int .i64 x.cap, .int .i64 x.len, .slice A x.custs.length c, .slice B x.dist.length d] 25)) y C e D f)
  have l1 := hx.wf.n
  have l2 := hy.wf.n
  have l3 := hx.wf.m
  have l4 := hy.wf.m
  unfold maxLen at l1 l2 l3 l4
  unfold instV
  clear hb hx hy
  rcases Bool.eq_false_or_eq_true (x.days == y.days) with t0 | t0
  rotate_left
  · skip
    have hd : decide (x = y) = false := by rw [inst_dec, t0]; rfl
    rw [hd]
    have b0 : (x.days != y.days) = true := by rw [bne, t0]; rfl
    clear hd t0
    go_enter Tryz.func12, Tryz.ntmps12
    go_wp2
    go_ret
    exact ⟨rfl, HB.out⟩
  rcases Bool.eq_false_or_eq_true (x.veh == y.veh) with t1 | t1
  rotate_left
  · skip
    have hd : decide (x = y) = false := by rw [inst_dec, t0, t1]; rfl
    rw [hd]
    have b0 : (x.days != y.days) = false := by rw [bne, t0]; rfl
    have b1 : (x.veh != y.veh) = true := by rw [bne, t1]; rfl
    clear hd t0 t1
    go_enter Tryz.func12, Tryz.ntmps12
    go_wp2
    go_ret
    exact ⟨rfl, HB.out⟩
  rcases Bool.eq_false_or_eq_true (x.cap == y.cap) with t2 | t2
  rotate_left
  · skip
    have hd : decide (x = y) = false := by rw [inst_dec, t0, t1, t2]; rfl
    rw [hd]
    have b0 : (x.days != y.days) = false := by rw [bne, t0]; rfl
    have b1 : (x.veh != y.veh) = false := by rw [bne, t1]; rfl
    have b2 : (x.cap != y.cap) = true := by rw [bne, t2]; rfl
    clear hd t0 t1 t2
    go_enter Tryz.func12, Tryz.ntmps12
    go_wp2
    go_ret
    exact ⟨rfl, HB.out⟩
  rcases Bool.eq_false_or_eq_true (x.len == y.len) with t3 | t3
  rotate_left
  · skip
    have hd : decide (x = y) = false := by rw [inst_dec, t0, t1, t2, t3]; rfl
    rw [hd]
    have b0 : (x.days != y.days) = false := by rw [bne, t0]; rfl
    have b1 : (x.veh != y.veh) = false := by rw [bne, t1]; rfl
    have b2 : (x.cap != y.cap) = false := by rw [bne, t2]; rfl
    have b3 : (x.len != y.len) = true := by rw [bne, t3]; rfl
    clear hd t0 t1 t2 t3
    go_enter Tryz.func12, Tryz.ntmps12
    go_wp2
    go_ret
    exact ⟨rfl, HB.out⟩
  have hdq : decide (x = y) = (decide (x.custs = y.custs) && decide (x.dist = y.dist)) := by rw [inst_dec, t0, t1, t2, t3]; rfl
  have b0 : (x.days != y.days) = false := by rw [bne, t0]; rfl
  have b1 : (x.veh != y.veh) = false := by rw [bne, t1]; rfl
  have b2 : (x.cap != y.cap) = false := by rw [bne, t2]; rfl
  have b3 : (x.len != y.len) = false := by rw [bne, t3]; rfl
  clear t0 t1 t2 t3
  have HDQ := Go.Lib.hid hdq
  clear hdq
  by_cases hlcusts : x.custs.length = y.custs.length
  rotate_left
  · have hde : decide (x.custs = y.custs) = false := decide_eq_false (by intro h; exact hlcusts (by rw [h]))
    have hd : decide (x = y) = false := by rw [HDQ.out, hde]; rfl
    have hli : ((x.custs.length : Int) != (y.custs.length : Int)) = true := by rw [bne, beq_eq_false_iff_ne.2 (by omega)]; rfl
    have HD := Go.Lib.hid hd
    clear hd hlcusts hde
    go_enter Tryz.func12, Tryz.ntmps12
    go_wp2
    go_ret
    exact ⟨ret_bool HD.out.symm, HB.out⟩
  have n1 : ((x.custs.length : Int) != (y.custs.length : Int)) = false := by rw [bne, beq_iff_eq.2 (by omega)]; rfl
  have HLcusts := Go.Lib.hid hlcusts
  clear hlcusts
  by_cases hldist : x.dist.length = y.dist.length
  rotate_left
  · have hde : decide (x.dist = y.dist) = false := decide_eq_false (by intro h; exact hldist (by rw [h]))
    have hd : decide (x = y) = false := by rw [HDQ.out, hde, Bool.and_false]
    have hli : ((x.dist.length : Int) != (y.dist.length : Int)) = true := by rw [bne, beq_eq_false_iff_ne.2 (by omega)]; rfl
    have HD := Go.Lib.hid hd
    clear hd hldist hde
    go_enter Tryz.func12, Tryz.ntmps12
    go_wp2
    go_ret
    exact ⟨ret_bool HD.out.symm, HB.out⟩
  have n2 : ((x.dist.length : Int) != (y.dist.length : Int)) = false := by rw [bne, beq_iff_eq.2 (by omega)]; rfl
  have HLdist := Go.Lib.hid hldist
  clear hldist
  obtain ⟨W0, hW0⟩ : ∃ W, W = (w.alloc (.cells #[.int .i64 x.days, .int .i64 x.veh, .int .i64 x.cap, .int .i64 x.len, .slice A x.custs.length c, .slice B x.dist.length d] 25)).alloc (.cells #[.int .i64 y.days, .int .i64 y.veh, .int .i64 y.cap, .int .i64 y.len, .slice C y.custs.length e, .slice D y.dist.length f] 25) := ⟨_, rfl⟩
  go_enter Tryz.func12, Tryz.ntmps12
  go_wp2
  rw [← hW0] at HB HX HY KP KQ
  rw [← hW0]
  clear hW0
  go_loopw [5] (fun iv wr => ∃ k : Nat, k ≤ x.custs.length ∧ iv = .int .i64 k ∧ x.custs.take k = y.custs.take k ∧ Below W0.heap.size W0 wr) (fun iv _ => x.custs.length - (intOf iv).toNat)
  case atStart => exact ⟨0, Nat.zero_le _, rfl, by simp, Below.refl _ _⟩
  case round =>
    obtain ⟨k, hk, rfl, he, hB⟩ := hrel
    have HE := Go.Lib.hid he
    have HBr := Go.Lib.hid hB
    clear he hB
    obtain ⟨d0, d1, d2, d3, d4, d5⟩ := (KP.out.keep HBr.out).cells
    obtain ⟨e0, e1, e2, e3, e4, e5⟩ := (KQ.out.keep HBr.out).cells
    rw [World.size_alloc] at e0 e1 e2 e3 e4 e5
    have HEx := Go.Lib.hid (HB.out.trans (HBr.out.mono HB.out.size))
    by_cases hlt : k < x.custs.length
    · have hkx : k < x.custs.length := hlt
      have hky : k < y.custs.length := by rw [← HLcusts.out]; exact hlt
      have k1 : (k : Int) < (x.custs.length : Int) := by omega
      have k2 : (k : Int) < (y.custs.length : Int) := by omega
      obtain ⟨b1, o1, P, kp, hA, hca, hna, hka⟩ := HX.out.custs k hkx
      obtain ⟨b2, o2, Q, kq, hC, hcb, hnb, hkb⟩ := HY.out.custs k hky
      subst hA
      subst hC
      have hwa := HX.out.wf.custs _ (List.getElem_mem hkx)
      have hwb := HY.out.wf.custs _ (List.getElem_mem hky)
      obtain ⟨p, hp⟩ : ∃ p, p = x.custs[k] := ⟨_, rfl⟩
      obtain ⟨q, hq⟩ : ∃ q, q = y.custs[k] := ⟨_, rfl⟩
      rw [← hp] at hca hna hka hwa
      rw [← hq] at hcb hnb hkb hwb
      obtain ⟨f0, f1, f2, f3, f4, f5, f6, f7⟩ := hca.keep HBr.out
      obtain ⟨g0, g1, g2, g3, g4, g5, g6, g7⟩ := hcb.keep HBr.out
      have CAL := fun r hr W h => same_from (r := r) hr hna hnb hwa.len hwb.len kp kq W h
      unfold custV at CAL
      have HBd := Go.Lib.hid (HBr.out.drew)
      have HSd : Hid ((fun w' => w'.cell? ⟨w.heap.size, 4, none⟩ = some (.slice (some ⟨b1, o1, none⟩) x.custs.length c) ∧ w'.cell? ⟨w.heap.size + 1, 4, none⟩ = some (.slice (some ⟨b2, o2, none⟩) y.custs.length e) ∧ w'.cell? ⟨b1, o1 + k * 8, none⟩ = some (.int .i64 p.kind) ∧ w'.cell? ⟨b1, o1 + k * 8 + 1, none⟩ = some (.int .i64 p.demand) ∧ w'.cell? ⟨b1, o1 + k * 8 + 2, none⟩ = some (.slice P p.pats.length kp) ∧ w'.cell? ⟨b1, o1 + k * 8 + 3, none⟩ = some (.int .i64 p.rate) ∧ w'.cell? ⟨b1, o1 + k * 8 + 4, none⟩ = some (.int .i64 p.size) ∧ w'.cell? ⟨b1, o1 + k * 8 + 5, none⟩ = some (.int .i64 p.start) ∧ w'.cell? ⟨b1, o1 + k * 8 + 6, none⟩ = some (.int .i64 p.rule) ∧ w'.cell? ⟨b1, o1 + k * 8 + 7, none⟩ = some (.int .i64 p.hold) ∧ w'.cell? ⟨b2, o2 + k * 8, none⟩ = some (.int .i64 q.kind) ∧ w'.cell? ⟨b2, o2 + k * 8 + 1, none⟩ = some (.int .i64 q.demand) ∧ w'.cell? ⟨b2, o2 + k * 8 + 2, none⟩ = some (.slice Q q.pats.length kq) ∧ w'.cell? ⟨b2, o2 + k * 8 + 3, none⟩ = some (.int .i64 q.rate) ∧ w'.cell? ⟨b2, o2 + k * 8 + 4, none⟩ = some (.int .i64 q.size) ∧ w'.cell? ⟨b2, o2 + k * 8 + 5, none⟩ = some (.int .i64 q.start) ∧ w'.cell? ⟨b2, o2 + k * 8 + 6, none⟩ = some (.int .i64 q.rule) ∧ w'.cell? ⟨b2, o2 + k * 8 + 7, none⟩ = some (.int .i64 q.hold)) wr.drew) := Go.Lib.hid ⟨d4, e4, f0, f1, f2, f3, f4, f5, f6, f7, g0, g1, g2, g3, g4, g5, g6, g7⟩
      clear d4 e4 f0 f1 f2 f3 f4 f5 f6 f7 g0 g1 g2 g3 g4 g5 g6 g7
      obtain ⟨d4, e4, f0, f1, f2, f3, f4, f5, f6, f7, g0, g1, g2, g3, g4, g5, g6, g7⟩ : (fun w' => w'.cell? ⟨w.heap.size, 4, none⟩ = some (.slice (some ⟨b1, o1, none⟩) x.custs.length c) ∧ w'.cell? ⟨w.heap.size + 1, 4, none⟩ = some (.slice (some ⟨b2, o2, none⟩) y.custs.length e) ∧ w'.cell? ⟨b1, o1 + k * 8, none⟩ = some (.int .i64 p.kind) ∧ w'.cell? ⟨b1, o1 + k * 8 + 1, none⟩ = some (.int .i64 p.demand) ∧ w'.cell? ⟨b1, o1 + k * 8 + 2, none⟩ = some (.slice P p.pats.length kp) ∧ w'.cell? ⟨b1, o1 + k * 8 + 3, none⟩ = some (.int .i64 p.rate) ∧ w'.cell? ⟨b1, o1 + k * 8 + 4, none⟩ = some (.int .i64 p.size) ∧ w'.cell? ⟨b1, o1 + k * 8 + 5, none⟩ = some (.int .i64 p.start) ∧ w'.cell? ⟨b1, o1 + k * 8 + 6, none⟩ = some (.int .i64 p.rule) ∧ w'.cell? ⟨b1, o1 + k * 8 + 7, none⟩ = some (.int .i64 p.hold) ∧ w'.cell? ⟨b2, o2 + k * 8, none⟩ = some (.int .i64 q.kind) ∧ w'.cell? ⟨b2, o2 + k * 8 + 1, none⟩ = some (.int .i64 q.demand) ∧ w'.cell? ⟨b2, o2 + k * 8 + 2, none⟩ = some (.slice Q q.pats.length kq) ∧ w'.cell? ⟨b2, o2 + k * 8 + 3, none⟩ = some (.int .i64 q.rate) ∧ w'.cell? ⟨b2, o2 + k * 8 + 4, none⟩ = some (.int .i64 q.size) ∧ w'.cell? ⟨b2, o2 + k * 8 + 5, none⟩ = some (.int .i64 q.start) ∧ w'.cell? ⟨b2, o2 + k * 8 + 6, none⟩ = some (.int .i64 q.rule) ∧ w'.cell? ⟨b2, o2 + k * 8 + 7, none⟩ = some (.int .i64 q.hold)) wr := HSd.out
      clear hca hna hka hwa hcb hnb hkb hwb
      cases hr : decide (p = q)
      · have hne : x.custs ≠ y.custs := ne_of_at hkx hky (by rw [← hp, ← hq]; exact of_decide_eq_false hr)
        have HD : Hid (decide (x = y) = false) := by show _ = _; rw [HDQ.out, decide_eq_false hne]; rfl
        have CA := CAL _ hr
        clear hne hr CAL hp hq hkx hky
        go_wp2
        go_region_held3 (fun w' => w'.cell? ⟨w.heap.size, 4, none⟩ = some (.slice (some ⟨b1, o1, none⟩) x.custs.length c) ∧ w'.cell? ⟨w.heap.size + 1, 4, none⟩ = some (.slice (some ⟨b2, o2, none⟩) y.custs.length e) ∧ w'.cell? ⟨b1, o1 + k * 8, none⟩ = some (.int .i64 p.kind) ∧ w'.cell? ⟨b1, o1 + k * 8 + 1, none⟩ = some (.int .i64 p.demand) ∧ w'.cell? ⟨b1, o1 + k * 8 + 2, none⟩ = some (.slice P p.pats.length kp) ∧ w'.cell? ⟨b1, o1 + k * 8 + 3, none⟩ = some (.int .i64 p.rate) ∧ w'.cell? ⟨b1, o1 + k * 8 + 4, none⟩ = some (.int .i64 p.size) ∧ w'.cell? ⟨b1, o1 + k * 8 + 5, none⟩ = some (.int .i64 p.start) ∧ w'.cell? ⟨b1, o1 + k * 8 + 6, none⟩ = some (.int .i64 p.rule) ∧ w'.cell? ⟨b1, o1 + k * 8 + 7, none⟩ = some (.int .i64 p.hold) ∧ w'.cell? ⟨b2, o2 + k * 8, none⟩ = some (.int .i64 q.kind) ∧ w'.cell? ⟨b2, o2 + k * 8 + 1, none⟩ = some (.int .i64 q.demand) ∧ w'.cell? ⟨b2, o2 + k * 8 + 2, none⟩ = some (.slice Q q.pats.length kq) ∧ w'.cell? ⟨b2, o2 + k * 8 + 3, none⟩ = some (.int .i64 q.rate) ∧ w'.cell? ⟨b2, o2 + k * 8 + 4, none⟩ = some (.int .i64 q.size) ∧ w'.cell? ⟨b2, o2 + k * 8 + 5, none⟩ = some (.int .i64 q.start) ∧ w'.cell? ⟨b2, o2 + k * 8 + 6, none⟩ = some (.int .i64 q.rule) ∧ w'.cell? ⟨b2, o2 + k * 8 + 7, none⟩ = some (.int .i64 q.hold)) (first | exact HSd.out | go_keep)
          ((go_at_call 33; (with_reducible refine (CA _ HBd.out).mono ?_); rintro e w3 ⟨rfl, hb3⟩; have HB3 := Go.Lib.hid (HBd.out.trans (hb3.mono HBd.out.size)); obtain ⟨s0, s1, s2, s3, s4, s5, s6, s7, s8, s9, s10, s11, s12, s13, s14, s15, s16, s17⟩ := HSd.out; clear HSd; have HSd : Hid ((fun w' => w'.cell? ⟨w.heap.size, 4, none⟩ = some (.slice (some ⟨b1, o1, none⟩) x.custs.length c) ∧ w'.cell? ⟨w.heap.size + 1, 4, none⟩ = some (.slice (some ⟨b2, o2, none⟩) y.custs.length e) ∧ w'.cell? ⟨b1, o1 + k * 8, none⟩ = some (.int .i64 p.kind) ∧ w'.cell? ⟨b1, o1 + k * 8 + 1, none⟩ = some (.int .i64 p.demand) ∧ w'.cell? ⟨b1, o1 + k * 8 + 2, none⟩ = some (.slice P p.pats.length kp) ∧ w'.cell? ⟨b1, o1 + k * 8 + 3, none⟩ = some (.int .i64 p.rate) ∧ w'.cell? ⟨b1, o1 + k * 8 + 4, none⟩ = some (.int .i64 p.size) ∧ w'.cell? ⟨b1, o1 + k * 8 + 5, none⟩ = some (.int .i64 p.start) ∧ w'.cell? ⟨b1, o1 + k * 8 + 6, none⟩ = some (.int .i64 p.rule) ∧ w'.cell? ⟨b1, o1 + k * 8 + 7, none⟩ = some (.int .i64 p.hold) ∧ w'.cell? ⟨b2, o2 + k * 8, none⟩ = some (.int .i64 q.kind) ∧ w'.cell? ⟨b2, o2 + k * 8 + 1, none⟩ = some (.int .i64 q.demand) ∧ w'.cell? ⟨b2, o2 + k * 8 + 2, none⟩ = some (.slice Q q.pats.length kq) ∧ w'.cell? ⟨b2, o2 + k * 8 + 3, none⟩ = some (.int .i64 q.rate) ∧ w'.cell? ⟨b2, o2 + k * 8 + 4, none⟩ = some (.int .i64 q.size) ∧ w'.cell? ⟨b2, o2 + k * 8 + 5, none⟩ = some (.int .i64 q.start) ∧ w'.cell? ⟨b2, o2 + k * 8 + 6, none⟩ = some (.int .i64 q.rule) ∧ w'.cell? ⟨b2, o2 + k * 8 + 7, none⟩ = some (.int .i64 q.hold)) w3) := Go.Lib.hid ⟨keep_cell hb3 s0, keep_cell hb3 s1, keep_cell hb3 s2, keep_cell hb3 s3, keep_cell hb3 s4, keep_cell hb3 s5, keep_cell hb3 s6, keep_cell hb3 s7, keep_cell hb3 s8, keep_cell hb3 s9, keep_cell hb3 s10, keep_cell hb3 s11, keep_cell hb3 s12, keep_cell hb3 s13, keep_cell hb3 s14, keep_cell hb3 s15, keep_cell hb3 s16, keep_cell hb3 s17⟩; clear hb3))
        all_goals
          go_wp2
          go_ret
          exact ⟨ret_bool HD.out.symm, HB.out.trans (HB3.out.mono HB.out.size)⟩
      · have hpq : x.custs[k] = y.custs[k] := by rw [← hp, ← hq]; exact of_decide_eq_true hr
        have HT : Hid (x.custs.take (k + 1) = y.custs.take (k + 1)) := take_eq_succ HE.out hkx hky hpq
        have CA := CAL _ hr
        clear hpq hr CAL hp hq hkx hky
        go_wp2
        go_region_held3 (fun w' => w'.cell? ⟨w.heap.size, 4, none⟩ = some (.slice (some ⟨b1, o1, none⟩) x.custs.length c) ∧ w'.cell? ⟨w.heap.size + 1, 4, none⟩ = some (.slice (some ⟨b2, o2, none⟩) y.custs.length e) ∧ w'.cell? ⟨b1, o1 + k * 8, none⟩ = some (.int .i64 p.kind) ∧ w'.cell? ⟨b1, o1 + k * 8 + 1, none⟩ = some (.int .i64 p.demand) ∧ w'.cell? ⟨b1, o1 + k * 8 + 2, none⟩ = some (.slice P p.pats.length kp) ∧ w'.cell? ⟨b1, o1 + k * 8 + 3, none⟩ = some (.int .i64 p.rate) ∧ w'.cell? ⟨b1, o1 + k * 8 + 4, none⟩ = some (.int .i64 p.size) ∧ w'.cell? ⟨b1, o1 + k * 8 + 5, none⟩ = some (.int .i64 p.start) ∧ w'.cell? ⟨b1, o1 + k * 8 + 6, none⟩ = some (.int .i64 p.rule) ∧ w'.cell? ⟨b1, o1 + k * 8 + 7, none⟩ = some (.int .i64 p.hold) ∧ w'.cell? ⟨b2, o2 + k * 8, none⟩ = some (.int .i64 q.kind) ∧ w'.cell? ⟨b2, o2 + k * 8 + 1, none⟩ = some (.int .i64 q.demand) ∧ w'.cell? ⟨b2, o2 + k * 8 + 2, none⟩ = some (.slice Q q.pats.length kq) ∧ w'.cell? ⟨b2, o2 + k * 8 + 3, none⟩ = some (.int .i64 q.rate) ∧ w'.cell? ⟨b2, o2 + k * 8 + 4, none⟩ = some (.int .i64 q.size) ∧ w'.cell? ⟨b2, o2 + k * 8 + 5, none⟩ = some (.int .i64 q.start) ∧ w'.cell? ⟨b2, o2 + k * 8 + 6, none⟩ = some (.int .i64 q.rule) ∧ w'.cell? ⟨b2, o2 + k * 8 + 7, none⟩ = some (.int .i64 q.hold)) (first | exact HSd.out | go_keep)
          ((go_at_call 33; (with_reducible refine (CA _ HBd.out).mono ?_); rintro e w3 ⟨rfl, hb3⟩; have HB3 := Go.Lib.hid (HBd.out.trans (hb3.mono HBd.out.size)); obtain ⟨s0, s1, s2, s3, s4, s5, s6, s7, s8, s9, s10, s11, s12, s13, s14, s15, s16, s17⟩ := HSd.out; clear HSd; have HSd : Hid ((fun w' => w'.cell? ⟨w.heap.size, 4, none⟩ = some (.slice (some ⟨b1, o1, none⟩) x.custs.length c) ∧ w'.cell? ⟨w.heap.size + 1, 4, none⟩ = some (.slice (some ⟨b2, o2, none⟩) y.custs.length e) ∧ w'.cell? ⟨b1, o1 + k * 8, none⟩ = some (.int .i64 p.kind) ∧ w'.cell? ⟨b1, o1 + k * 8 + 1, none⟩ = some (.int .i64 p.demand) ∧ w'.cell? ⟨b1, o1 + k * 8 + 2, none⟩ = some (.slice P p.pats.length kp) ∧ w'.cell? ⟨b1, o1 + k * 8 + 3, none⟩ = some (.int .i64 p.rate) ∧ w'.cell? ⟨b1, o1 + k * 8 + 4, none⟩ = some (.int .i64 p.size) ∧ w'.cell? ⟨b1, o1 + k * 8 + 5, none⟩ = some (.int .i64 p.start) ∧ w'.cell? ⟨b1, o1 + k * 8 + 6, none⟩ = some (.int .i64 p.rule) ∧ w'.cell? ⟨b1, o1 + k * 8 + 7, none⟩ = some (.int .i64 p.hold) ∧ w'.cell? ⟨b2, o2 + k * 8, none⟩ = some (.int .i64 q.kind) ∧ w'.cell? ⟨b2, o2 + k * 8 + 1, none⟩ = some (.int .i64 q.demand) ∧ w'.cell? ⟨b2, o2 + k * 8 + 2, none⟩ = some (.slice Q q.pats.length kq) ∧ w'.cell? ⟨b2, o2 + k * 8 + 3, none⟩ = some (.int .i64 q.rate) ∧ w'.cell? ⟨b2, o2 + k * 8 + 4, none⟩ = some (.int .i64 q.size) ∧ w'.cell? ⟨b2, o2 + k * 8 + 5, none⟩ = some (.int .i64 q.start) ∧ w'.cell? ⟨b2, o2 + k * 8 + 6, none⟩ = some (.int .i64 q.rule) ∧ w'.cell? ⟨b2, o2 + k * 8 + 7, none⟩ = some (.int .i64 q.hold)) w3) := Go.Lib.hid ⟨keep_cell hb3 s0, keep_cell hb3 s1, keep_cell hb3 s2, keep_cell hb3 s3, keep_cell hb3 s4, keep_cell hb3 s5, keep_cell hb3 s6, keep_cell hb3 s7, keep_cell hb3 s8, keep_cell hb3 s9, keep_cell hb3 s10, keep_cell hb3 s11, keep_cell hb3 s12, keep_cell hb3 s13, keep_cell hb3 s14, keep_cell hb3 s15, keep_cell hb3 s16, keep_cell hb3 s17⟩; clear hb3))
        all_goals
          go_wp2
          go_roundw
          case rel => exact ⟨k + 1, by omega, by go_num, HT.out, HB3.out⟩
          case measure => simp [intOf]; omega
    · have hce : x.custs = y.custs := by have := HE.out; rwa [List.take_of_length_le (by omega), List.take_of_length_le (by rw [← HLcusts.out]; omega)] at this
      have HD2 : Hid (decide (x = y) = decide (x.dist = y.dist)) := by show _ = _; rw [HDQ.out, decide_eq_true hce, Bool.true_and]
      clear hce HDQ HE
      clear n1 b0 b1 b2 b3
      go_wp2
      clear d0 d1 d2 d3 d4 d5 e0 e1 e2 e3 e4 e5
      go_loopw [7] (fun iv wr => ∃ k : Nat, k ≤ x.dist.length ∧ iv = .int .i64 k ∧ x.dist.take k = y.dist.take k ∧ Below W0.heap.size W0 wr) (fun iv _ => x.dist.length - (intOf iv).toNat)
      case atStart => exact ⟨0, Nat.zero_le _, rfl, by simp, HBr.out⟩
      case round =>
        clear HBr HEx
        obtain ⟨k, hk, rfl, he, hB⟩ := hrel
        have HE := Go.Lib.hid he
        have HBr := Go.Lib.hid hB
        clear he hB
        obtain ⟨d0, d1, d2, d3, d4, d5⟩ := (KP.out.keep HBr.out).cells
        obtain ⟨e0, e1, e2, e3, e4, e5⟩ := (KQ.out.keep HBr.out).cells
        rw [World.size_alloc] at e0 e1 e2 e3 e4 e5
        have HEx := Go.Lib.hid (HB.out.trans (HBr.out.mono HB.out.size))
        by_cases hlt : k < x.dist.length
        · have hkx : k < x.dist.length := hlt
          have hky : k < y.dist.length := by rw [← HLdist.out]; exact hlt
          have k1 : (k : Int) < (x.dist.length : Int) := by omega
          have k2 : (k : Int) < (y.dist.length : Int) := by omega
          obtain ⟨b1, o1, P, kp, hA, hca, hna, hka⟩ := HX.out.dist k hkx
          obtain ⟨b2, o2, Q, kq, hC, hcb, hnb, hkb⟩ := HY.out.dist k hky
          subst hA
          subst hC
          have hwa := (HX.out.wf.dist _ (List.getElem_mem hkx)).1
          have hwb := (HY.out.wf.dist _ (List.getElem_mem hky)).1
          obtain ⟨p, hp⟩ : ∃ p, p = x.dist[k] := ⟨_, rfl⟩
          obtain ⟨q, hq⟩ : ∃ q, q = y.dist[k] := ⟨_, rfl⟩
          rw [← hp] at hca hna hka hwa
          rw [← hq] at hcb hnb hkb hwb
          have f0 := keep_cell HBr.out hca
          have g0 := keep_cell HBr.out hcb
          have CAL := fun r hr W h => same2_from (q := r) hr hna hnb hwa hwb kp kq W h
          have HBd := Go.Lib.hid (HBr.out.drew)
          have HSd : Hid ((fun w' => w'.cell? ⟨w.heap.size, 5, none⟩ = some (.slice (some ⟨b1, o1, none⟩) x.dist.length d) ∧ w'.cell? ⟨w.heap.size + 1, 5, none⟩ = some (.slice (some ⟨b2, o2, none⟩) y.dist.length f) ∧ w'.cell? ⟨b1, o1 + k, none⟩ = some (.slice P p.length kp) ∧ w'.cell? ⟨b2, o2 + k, none⟩ = some (.slice Q q.length kq)) wr.drew) := Go.Lib.hid ⟨d5, e5, f0, g0⟩
          clear d5 e5 f0 g0
          obtain ⟨d5, e5, f0, g0⟩ : (fun w' => w'.cell? ⟨w.heap.size, 5, none⟩ = some (.slice (some ⟨b1, o1, none⟩) x.dist.length d) ∧ w'.cell? ⟨w.heap.size + 1, 5, none⟩ = some (.slice (some ⟨b2, o2, none⟩) y.dist.length f) ∧ w'.cell? ⟨b1, o1 + k, none⟩ = some (.slice P p.length kp) ∧ w'.cell? ⟨b2, o2 + k, none⟩ = some (.slice Q q.length kq)) wr := HSd.out
          clear hca hna hka hwa hcb hnb hkb hwb
          cases hr : decide (p = q)
          · have hne : x.dist ≠ y.dist := ne_of_at hkx hky (by rw [← hp, ← hq]; exact of_decide_eq_false hr)
            have HD : Hid (decide (x = y) = false) := by show _ = _; rw [HD2.out, decide_eq_false hne]
            have CA := CAL _ hr
            clear hne hr CAL hp hq hkx hky
            go_wp2
            go_region_held3 (fun w' => w'.cell? ⟨w.heap.size, 5, none⟩ = some (.slice (some ⟨b1, o1, none⟩) x.dist.length d) ∧ w'.cell? ⟨w.heap.size + 1, 5, none⟩ = some (.slice (some ⟨b2, o2, none⟩) y.dist.length f) ∧ w'.cell? ⟨b1, o1 + k, none⟩ = some (.slice P p.length kp) ∧ w'.cell? ⟨b2, o2 + k, none⟩ = some (.slice Q q.length kq)) (first | exact HSd.out | go_keep)
              ((go_at_call 34; (with_reducible refine (CA _ HBd.out).mono ?_); rintro e w3 ⟨rfl, hb3⟩; have HB3 := Go.Lib.hid (HBd.out.trans (hb3.mono HBd.out.size)); obtain ⟨s0, s1, s2, s3⟩ := HSd.out; clear HSd; have HSd : Hid ((fun w' => w'.cell? ⟨w.heap.size, 5, none⟩ = some (.slice (some ⟨b1, o1, none⟩) x.dist.length d) ∧ w'.cell? ⟨w.heap.size + 1, 5, none⟩ = some (.slice (some ⟨b2, o2, none⟩) y.dist.length f) ∧ w'.cell? ⟨b1, o1 + k, none⟩ = some (.slice P p.length kp) ∧ w'.cell? ⟨b2, o2 + k, none⟩ = some (.slice Q q.length kq)) w3) := Go.Lib.hid ⟨keep_cell hb3 s0, keep_cell hb3 s1, keep_cell hb3 s2, keep_cell hb3 s3⟩; clear hb3))
            all_goals
              go_wp2
              go_ret
              exact ⟨ret_bool HD.out.symm, HB.out.trans (HB3.out.mono HB.out.size)⟩
          · have hpq : x.dist[k] = y.dist[k] := by rw [← hp, ← hq]; exact of_decide_eq_true hr
            have HT : Hid (x.dist.take (k + 1) = y.dist.take (k + 1)) := take_eq_succ HE.out hkx hky hpq
            have CA := CAL _ hr
            clear hpq hr CAL hp hq hkx hky
            go_wp2
            go_region_held3 (fun w' => w'.cell? ⟨w.heap.size, 5, none⟩ = some (.slice (some ⟨b1, o1, none⟩) x.dist.length d) ∧ w'.cell? ⟨w.heap.size + 1, 5, none⟩ = some (.slice (some ⟨b2, o2, none⟩) y.dist.length f) ∧ w'.cell? ⟨b1, o1 + k, none⟩ = some (.slice P p.length kp) ∧ w'.cell? ⟨b2, o2 + k, none⟩ = some (.slice Q q.length kq)) (first | exact HSd.out | go_keep)
              ((go_at_call 34; (with_reducible refine (CA _ HBd.out).mono ?_); rintro e w3 ⟨rfl, hb3⟩; have HB3 := Go.Lib.hid (HBd.out.trans (hb3.mono HBd.out.size)); obtain ⟨s0, s1, s2, s3⟩ := HSd.out; clear HSd; have HSd : Hid ((fun w' => w'.cell? ⟨w.heap.size, 5, none⟩ = some (.slice (some ⟨b1, o1, none⟩) x.dist.length d) ∧ w'.cell? ⟨w.heap.size + 1, 5, none⟩ = some (.slice (some ⟨b2, o2, none⟩) y.dist.length f) ∧ w'.cell? ⟨b1, o1 + k, none⟩ = some (.slice P p.length kp) ∧ w'.cell? ⟨b2, o2 + k, none⟩ = some (.slice Q q.length kq)) w3) := Go.Lib.hid ⟨keep_cell hb3 s0, keep_cell hb3 s1, keep_cell hb3 s2, keep_cell hb3 s3⟩; clear hb3))
            all_goals
              go_wp2
              go_roundw
              case rel => exact ⟨k + 1, by omega, by go_num, HT.out, HB3.out⟩
              case measure => simp [intOf]; omega
        · have hce : x.dist = y.dist := by have := HE.out; rwa [List.take_of_length_le (by omega), List.take_of_length_le (by rw [← HLdist.out]; omega)] at this
          have HD : Hid (decide (x = y) = true) := by show _ = _; rw [HD2.out]; exact decide_eq_true hce
          clear hce HE
          go_wp2
          go_ret
          exact ⟨ret_bool HD.out.symm, HEx.out⟩
end Go.Proofs.YtliomhkgkabbbaaGreatDoor
end
