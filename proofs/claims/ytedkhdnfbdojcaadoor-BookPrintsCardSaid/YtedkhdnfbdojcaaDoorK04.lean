import Derived.Test.YtedkhdnfbdojcaaDoorRows
import Derived.Test.YtedkhdnfbdojcaaDoorK03
import Derived.WalkKit
import Derived.WalkSpells
import Derived.WalkLawsBesides
import Derived.WalkSmall
import Derived.Handy
import Derived.OpenShut
import Derived.Lib.Hide
import Derived.Deep.AppendLies
import Derived.Deep.QuietTactic
import Derived.BigQuiet
section
/- Memory, for every seat: slices of numbers, blocks that are known whole, what is kept from world to world; nothing of the program. -/
namespace Go.Proofs.YtedkhdnfbdojcaaDoor
open Go.RowKit
set_option linter.unusedVariables false

/-- A slice that reads as these numbers (nil too). -/
def Ints (w : World) (A : Option Addr) (n : Nat) (xs : List Int) : Prop :=
  xs.length = n ∧ (0 < n → ∃ b off, A = some ⟨b, off, none⟩ ∧ ∀ k, k < n → w.cell? ⟨b, off + k, none⟩ = some (.int .i64 (xs.getD k 0)))
theorem below_alloc (w : World) (o : Obj) : Below w.heap.size w (w.alloc o) := (Below.refl _ _).alloc (Nat.le_refl _) o
theorem info_int : (Tryd.prog.info? 3).map (fun i => (i.zero, i.size, i.bytes)) = some (some (.int .i64 0), 1, 8) := by kernel_rfl

theorem Ints.keep {w w' : World} {A : Option Addr} {n : Nat} {xs : List Int} (h : Ints w A n xs) (hb : Below w.heap.size w w') : Ints w' A n xs := by
  refine ⟨h.1, fun hn => ?_⟩
  obtain ⟨b, off, e, hc⟩ := h.2 hn
  refine ⟨b, off, e, fun k hk => ?_⟩
  have hl := World.block_lt_of_cell? w _ (hc k hk)
  exact (hb.cell (p := ⟨b, off + k, none⟩) hl).trans (hc k hk)
theorem Ints.nil (w : World) (A : Option Addr) : Ints w A 0 [] := ⟨rfl, fun h => absurd h (by decide)⟩
theorem own_form {w : World} {base : Nat} {e : TypeId} {v : Value} {n : Nat} {xs : List Value} (h : w.ownsRow base e 1 v n xs) : ∃ A c, v = .slice A n c ∧ n ≤ c := by
  rcases h.2 with ⟨rfl, rfl⟩ | ⟨g, cap, cur, rfl, _, _, hc, _⟩
  · exact ⟨_, _, rfl, Nat.le_refl _⟩
  · exact ⟨_, _, rfl, hc⟩
theorem Ints.of_own {w : World} {base : Nat} {e : TypeId} {A : Option Addr} {n c : Nat} {xs : List Int} (h : w.ownsRow base e 1 (.slice A n c) n (xs.map (Value.int .i64))) : Ints w A n xs := by
  refine ⟨by simpa using h.1, fun hn => ?_⟩
  obtain ⟨g, cap, hv, _, _⟩ := h.form hn
  injection hv with hA _ hc
  subst hA; subst hc
  refine ⟨g, 0, rfl, fun k hk => ?_⟩
  have := h.cellAt k (by omega)
  have hl : xs.length = n := by simpa using h.1
  rw [Nat.zero_add, this, List.getElem?_map, List.getD_eq_getElem?_getD, List.getElem?_eq_getElem (by omega)]
  rfl
theorem own_ge {w : World} {base : Nat} {e : TypeId} {v : Value} {n : Nat} {xs : List Value} (h : w.ownsRow base e 1 v n xs) : ∀ k, v.ownBlock = some k → base ≤ k := fun k hk => (h.lt k hk).1

theorem one_cell (w : World) (x : Value) (t : TypeId) : ∀ (j : Nat) (u : Value), [x][j]? = some u → (w.alloc (.cells #[x] t)).cell? ((⟨w.heap.size, 0, none⟩ : Addr).add j) = some u := by
  intro j u hj
  match j, hj with
  | 0, hj => simp at hj; subst hj; simp [Addr.add]
theorem one_ok (x : Int) : ∀ u ∈ [Value.int .i64 x], u.oneCell' = true := by intro u hu; simp at hu; subst hu; rfl
theorem Ints.cut {w : World} {A : Option Addr} {n : Nat} {xs : List Int} (h : Ints w A n xs) {k : Nat} (hk : k ≤ n) : Ints w A k (xs.take k) := by
  refine ⟨by rw [List.length_take_of_le (by rw [h.1]; exact hk)], fun h0 => ?_⟩
  obtain ⟨b, off, e, hc⟩ := h.2 (by omega)
  refine ⟨b, off, e, fun j hj => ?_⟩
  rw [hc j (by omega), List.getD_eq_getElem?_getD, List.getD_eq_getElem?_getD, List.getElem?_take_of_lt hj]
/-- The length of a slice that a cell holds. -/
def lenAt : Option Value → Nat | some (.slice _ k _) => k | _ => 0
/-- The whole of block g is these cells. -/
def BlkIs (w : World) (g : Nat) (t : TypeId) (cs : Array Value) : Prop := w.heap[g]? = some (.cells cs t (0, 0))
section
variable {w w' : World} {g : Nat} {t : TypeId} {cs : Array Value}
theorem BlkIs.lt (h : BlkIs w g t cs) : g < w.heap.size := by
  rcases Nat.lt_or_ge g w.heap.size with hlt | hge
  · exact hlt
  · unfold BlkIs at h; rw [Array.getElem?_eq_none hge] at h; cases h
theorem BlkIs.cellAt (h : BlkIs w g t cs) (i : Nat) : w.cell? ⟨g, i, none⟩ = cs[i]? := by
  unfold BlkIs at h
  simp [World.cell?, h]
theorem BlkIs.free (h : BlkIs w g t cs) (i : Nat) : w.frozen? ⟨g, i, none⟩ = false := by
  unfold BlkIs at h
  simp [World.frozen?, h]
theorem BlkIs.fresh (w : World) (t : TypeId) (cs : Array Value) : BlkIs (w.alloc (.cells cs t)) w.heap.size t cs := heap_alloc_new w _
theorem BlkIs.alloc (h : BlkIs w g t cs) (o : Obj) : BlkIs (w.alloc o) g t cs := (Below.heap_alloc w o g h.lt).trans h
theorem BlkIs.put (h : BlkIs w g t cs) (i : Nat) (u : Value) : BlkIs (w.setCell ⟨g, i, none⟩ u) g t (cs.setIfInBounds i u) := by
  unfold BlkIs at h ⊢
  simp [World.setCell, Array.getElem?_modify, h]
theorem BlkIs.far (h : BlkIs w g t cs) {p : Addr} (hp : g ≠ p.block) (u : Value) : BlkIs (w.setCell p u) g t cs := (Below.heap_setCell w p u g hp).trans h
theorem BlkIs.below {B : Nat} (h : BlkIs w g t cs) (hb : Below B w w') (hg : g < B) : BlkIs w' g t cs := (hb.block g hg).trans h
theorem BlkIs.grown {row : Option Nat} (h : BlkIs w g t cs) (hb : w.grownBy w' row) (hg : some g ≠ row) : BlkIs w' g t cs := (hb.block g h.lt hg).trans h
end
/-- Numbers in memory do not lie in a struct's block. -/
theorem Ints.store2 {w : World} {A A0 A1 : Option Addr} {n n0 c0 n1 c1 : Nat} {b0 b1 : Bool} {xs : List Int} {g : Nat} {t : TypeId} (h : Ints w A n xs) (K : BlkIs w g t #[.slice A0 n0 c0, .bool b0]) :
    Ints ((w.setCell ⟨g, 0, none⟩ (.slice A1 n1 c1)).setCell ⟨g, 1, none⟩ (.bool b1)) A n xs := by
  refine ⟨h.1, fun hn => ?_⟩
  obtain ⟨b, off, e, hc⟩ := h.2 hn
  refine ⟨b, off, e, fun k hk => ?_⟩
  have hne : b ≠ g := by
    intro e
    subst e
    have := hc k hk
    rw [K.cellAt] at this
    rcases hk' : off + k with _ | _ | j <;> rw [hk'] at this <;> simp at this
  rw [World.cell?_setCell_other _ _ _ _ (by simp), World.cell?_setCell_other _ _ _ _ (by simp)]
  exact hc k hk
/-- What a result's block reads behind the store. -/
theorem BlkIs.two {w : World} {A0 A1 : Option Addr} {n0 c0 n1 c1 : Nat} {b0 b1 : Bool} {g : Nat} {t : TypeId} (K : BlkIs w g t #[.slice A0 n0 c0, .bool b0]) :
    (w.setCell ⟨g, 0, none⟩ (.slice A1 n1 c1)).cell? ⟨g, 0, none⟩ = some (.slice A1 n1 c1) ∧
      ((w.setCell ⟨g, 0, none⟩ (.slice A1 n1 c1)).setCell ⟨g, 1, none⟩ (.bool b1)).cell? ⟨g, 1, none⟩ = some (.bool b1) := by
  have q0 := (K.put 0 (.slice A1 n1 c1)).cellAt 0
  have q1 := ((K.put 0 (.slice A1 n1 c1)).put 1 (.bool b1)).cellAt 1
  simp at q0 q1
  exact ⟨q0, q1⟩
theorem BlkIs.cells2 {w : World} {A0 : Option Addr} {n0 c0 : Nat} {b0 : Bool} {g : Nat} {t : TypeId} (K : BlkIs w g t #[.slice A0 n0 c0, .bool b0]) :
    w.cell? ⟨g, 0, none⟩ = some (.slice A0 n0 c0) ∧ w.cell? ⟨g, 1, none⟩ = some (.bool b0) ∧ w.frozen? ⟨g, 0, none⟩ = false ∧ w.frozen? ⟨g, 1, none⟩ = false := by
  have q0 := K.cellAt 0
  have q1 := K.cellAt 1
  simp at q0 q1
  exact ⟨q0, q1, K.free 0, K.free 1⟩
theorem far_off {b b' o o' : Nat} (h : b ≠ b') : (⟨b, o, none⟩ : Addr) ≠ ⟨b', o', none⟩ := fun e => h (congrArg Addr.block e)
theorem far_two {w : World} {g b o : Nat} {u v : Value} (h : g ≠ b) : ((w.setCell ⟨g, 0, none⟩ u).setCell ⟨g, 1, none⟩ v).cell? ⟨b, o, none⟩ = w.cell? ⟨b, o, none⟩ := by
  rw [World.cell?_setCell_other _ _ _ _ (far_off h), World.cell?_setCell_other _ _ _ _ (far_off h)]
theorem below3 (w : World) (o o' o'' : Obj) : Below w.heap.size w (((w.alloc o).alloc o').alloc o'') := (((Below.refl _ _).alloc (Nat.le_refl _) o).alloc (by simp) o').alloc (by simp; omega) o''
/-- The three blocks of Add in any later world. -/
theorem three_blks {w w1 : World} {a b r : Array Value} {t : TypeId} (hb : Below (((w.alloc (.cells a t)).alloc (.cells b t)).alloc (.cells r t)).heap.size (((w.alloc (.cells a t)).alloc (.cells b t)).alloc (.cells r t)) w1) :
    BlkIs w1 w.heap.size t a ∧ BlkIs w1 (w.heap.size + 1) t b ∧ BlkIs w1 (w.heap.size + 2) t r ∧ Below w.heap.size w w1 := by
  refine ⟨(((BlkIs.fresh w t a).alloc _).alloc _).below hb (by simp; omega), ?_, ?_, (below3 w _ _ _).trans (hb.mono (by simp; omega))⟩
  · have := ((BlkIs.fresh (w.alloc (.cells a t)) t b).alloc (.cells r t)).below hb (by simp)
    rw [World.size_alloc] at this
    exact this
  · have := (BlkIs.fresh ((w.alloc (.cells a t)).alloc (.cells b t)) t r).below hb (by simp)
    rw [World.size_alloc, World.size_alloc] at this
    exact this
/-- What a slice of numbers that came in reads as. -/
theorem ints_of_row {w : World} {a : Option Addr} {len cap : Nat} {zs : List Int}
    (h : (a = none ∧ len = 0 ∧ cap = 0 ∧ zs = []) ∨ ∃ x, a = some x ∧ len ≤ cap ∧ cap ≤ maxLen ∧ zs.length = cap ∧ (∀ i, i < zs.length → w.cell? (x.add i) = some (.int .i64 (zs.getD i 0))) ∧ ∀ n ∈ zs, (Lit.int .i64 n).wf = true) :
    Ints w a len (zs.take len) ∧ len ≤ cap ∧ (∀ k, -9223372036854775808 ≤ zs.getD k 0 ∧ zs.getD k 0 ≤ 9223372036854775807) ∧ len ≤ zs.length := by
  rcases h with ⟨rfl, rfl, rfl, rfl⟩ | ⟨x, rfl, h1, h2, h3, h4, h5⟩
  · exact ⟨Ints.nil _ _, Nat.le_refl _, fun k => by simp, Nat.le_refl _⟩
  · refine ⟨⟨by rw [List.length_take_of_le (by omega)], fun h0 => ?_⟩, h1, fun k => ?_, by omega⟩
    · obtain ⟨b, off, rfl, hc⟩ := Go.ints_at h4 (by omega)
      refine ⟨b, off, rfl, fun j hj => ?_⟩
      rw [hc j (by omega), List.getD_eq_getElem?_getD, List.getD_eq_getElem?_getD, List.getElem?_take_of_lt hj]
    · rw [List.getD_eq_getElem?_getD]
      rcases Nat.lt_or_ge k zs.length with hk | hk
      · rw [List.getElem?_eq_getElem hk]; exact wf_iff.1 (h5 _ (List.getElem_mem hk))
      · rw [List.getElem?_eq_none hk]; decide
theorem take_bd {zs : List Int} (h : ∀ k, -9223372036854775808 ≤ zs.getD k 0 ∧ zs.getD k 0 ≤ 9223372036854775807) (n k : Nat) : -9223372036854775808 ≤ (zs.take n).getD k 0 ∧ (zs.take n).getD k 0 ≤ 9223372036854775807 := by
  rw [List.getD_eq_getElem?_getD]
  rcases Nat.lt_or_ge k n with hk | hk
  · rw [List.getElem?_take_of_lt hk, ← List.getD_eq_getElem?_getD]; exact h k
  · rw [List.getElem?_take_eq_none hk]; decide
/-- How far a loop that counts down has come: k are left. -/
def DownAt (k : Nat) (i : Value) : Prop := (k = 0 ∧ i = .int .i64 (-1)) ∨ ∃ j : Nat, k = j + 1 ∧ i = .int .i64 j
theorem DownAt.next (j : Nat) : DownAt j (.int .i64 ((j : Int) - 1)) := by
  rcases j with _ | j
  · exact .inl ⟨rfl, rfl⟩
  · exact .inr ⟨j, rfl, by congr 1; omega⟩
/-- A call that leaves the world alone, behind draws. -/
theorem quiet_more {P : Program} {f : FuncId} {args : Array Value} {w : World} {a n : Nat} {v : Value} (h : ∀ W, Calls P f args W fun e w' => e = .returned v ∧ w' = W) :
    Calls P f args (w.drewN (a + n)) fun e w'' => e = .returned v ∧ ∃ m, w'' = w.drewN (a + m) :=
  (h _).mono fun _ _ ⟨he, hm⟩ => ⟨he, n, hm⟩
theorem below_drew (w : World) : Below w.heap.size w w.drew := (Below.refl _ _).drew
theorem below_drew_alloc (w : World) (o : Obj) : Below w.heap.size w (w.alloc o).drew := (below_alloc w o).drew
theorem below_drew_alloc' (w : World) (o : Obj) : Below w.heap.size w (w.drew.alloc o) := (below_drew w).alloc (Nat.le_refl _) o

/-- A slice that reads as these numbers of kind k (nil too). -/
def Nums (k : IntKind) (w : World) (A : Option Addr) (n : Nat) (xs : List Int) : Prop :=
  xs.length = n ∧ (0 < n → ∃ b off, A = some ⟨b, off, none⟩ ∧ ∀ j, j < n → w.cell? ⟨b, off + j, none⟩ = some (.int k (xs.getD j 0)))
theorem Nums.keep {k : IntKind} {w w' : World} {A : Option Addr} {n : Nat} {xs : List Int} (h : Nums k w A n xs) (hb : Below w.heap.size w w') : Nums k w' A n xs := by
  refine ⟨h.1, fun hn => ?_⟩
  obtain ⟨b, off, e, hc⟩ := h.2 hn
  refine ⟨b, off, e, fun j hj => ?_⟩
  have hl := World.block_lt_of_cell? w _ (hc j hj)
  exact (hb.cell (p := ⟨b, off + j, none⟩) hl).trans (hc j hj)
theorem Nums.nil (k : IntKind) (w : World) (A : Option Addr) : Nums k w A 0 [] := ⟨rfl, fun h => absurd h (by decide)⟩
theorem Nums.of_own {k : IntKind} {w : World} {base : Nat} {e : TypeId} {A : Option Addr} {n c : Nat} {xs : List Int} (h : w.ownsRow base e 1 (.slice A n c) n (xs.map (Value.int k))) : Nums k w A n xs := by
  refine ⟨by simpa using h.1, fun hn => ?_⟩
  obtain ⟨g, cap, hv, _, _⟩ := h.form hn
  injection hv with hA _ hc
  subst hA; subst hc
  refine ⟨g, 0, rfl, fun j hj => ?_⟩
  have := h.cellAt j (by omega)
  have hl : xs.length = n := by simpa using h.1
  rw [Nat.zero_add, this, List.getElem?_map, List.getD_eq_getElem?_getD, List.getElem?_eq_getElem (by omega)]
  rfl
theorem Nums.cut {k : IntKind} {w : World} {A : Option Addr} {n : Nat} {xs : List Int} (h : Nums k w A n xs) {m : Nat} (hm : m ≤ n) : Nums k w A m (xs.take m) := by
  refine ⟨by rw [List.length_take_of_le (by rw [h.1]; exact hm)], fun h0 => ?_⟩
  obtain ⟨b, off, e, hc⟩ := h.2 (by omega)
  refine ⟨b, off, e, fun j hj => ?_⟩
  rw [hc j (by omega), List.getD_eq_getElem?_getD, List.getD_eq_getElem?_getD, List.getElem?_take_of_lt hj]
theorem Ints.nums {w : World} {A : Option Addr} {n : Nat} {xs : List Int} (h : Ints w A n xs) : Nums .i64 w A n xs := h
theorem nums_of_row {k : IntKind} {w : World} {a : Option Addr} {len cap : Nat} {zs : List Int}
    (h : (a = none ∧ len = 0 ∧ cap = 0 ∧ zs = []) ∨ ∃ x, a = some x ∧ len ≤ cap ∧ cap ≤ maxLen ∧ zs.length = cap ∧ (∀ i, i < zs.length → w.cell? (x.add i) = some (.int k (zs.getD i 0))) ∧ ∀ n ∈ zs, (Lit.int k n).wf = true) :
    Nums k w a len (zs.take len) ∧ len ≤ cap ∧ (∀ n ∈ zs, (Lit.int k n).wf = true) ∧ len ≤ zs.length := by
  rcases h with ⟨rfl, rfl, rfl, rfl⟩ | ⟨x, rfl, h1, h2, h3, h4, h5⟩
  · exact ⟨Nums.nil _ _ _, Nat.le_refl _, (fun n hn => absurd hn (by simp)), Nat.le_refl _⟩
  · refine ⟨⟨by rw [List.length_take_of_le (by omega)], fun h0 => ?_⟩, h1, h5, by omega⟩
    obtain ⟨b, off, rfl, hc⟩ := Go.ints_at h4 (by omega)
    refine ⟨b, off, rfl, fun j hj => ?_⟩
    rw [hc j (by omega), List.getD_eq_getElem?_getD, List.getD_eq_getElem?_getD, List.getElem?_take_of_lt hj]
/-- The bytes that append lays for one. -/
theorem one_okK (k : IntKind) (x : Int) : ∀ u ∈ [Value.int k x], u.oneCell' = true := by intro u hu; simp at hu; subst hu; rfl
/-- A row of the call's own, behind a call that writes nothing that was there. -/
theorem own_keep {w w' : World} {base : Nat} {e : TypeId} {size n : Nat} {v : Value} {xs : List Value} (h : w.ownsRow base e size v n xs) (hb : Below w.heap.size w w') : w'.ownsRow base e size v n xs := by
  refine ⟨h.1, ?_⟩
  rcases h.2 with h0 | ⟨g, cap, cur, hv, hg, hh, r⟩
  · exact .inl h0
  · have hl : g < w.heap.size := by
      rcases Nat.lt_or_ge g w.heap.size with a | a
      · exact a
      · rw [Array.getElem?_eq_none a] at hh; cases hh
    exact .inr ⟨g, cap, cur, hv, hg, (hb.block g hl).trans hh, r⟩
theorem row_len {k : IntKind} {w : World} {a : Option Addr} {len cap : Nat} {zs : List Int}
    (h : (a = none ∧ len = 0 ∧ cap = 0 ∧ zs = []) ∨ ∃ x, a = some x ∧ len ≤ cap ∧ cap ≤ maxLen ∧ zs.length = cap ∧ (∀ i, i < zs.length → w.cell? (x.add i) = some (.int k (zs.getD i 0))) ∧ ∀ n ∈ zs, (Lit.int k n).wf = true) : len ≤ maxLen := by
  rcases h with ⟨_, rfl, _⟩ | ⟨x, _, h1, h2, _⟩
  · exact Nat.zero_le _
  · exact Nat.le_trans h1 h2
end Go.Proofs.YtedkhdnfbdojcaaDoor
end
section
/- What a call leaves: nothing but the blocks of a list, and new ones, has turned; nothing of the program. -/
namespace Go.Proofs.YtedkhdnfbdojcaaDoor
open Go.RowKit
set_option linter.unusedVariables false
/-- Nothing but the blocks of F, and new ones, has turned. -/
structure Only (F : List Nat) (w w' : World) : Prop where
  os : w'.os = w.os
  tape : w'.tape = w.tape
  output : w'.output = w.output
  size : w.heap.size ≤ w'.heap.size
  block : ∀ k, k < w.heap.size → k ∉ F → w'.heap[k]? = w.heap[k]?
theorem Only.refl (F : List Nat) (w : World) : Only F w w := ⟨rfl, rfl, rfl, Nat.le_refl _, fun _ _ _ => rfl⟩
theorem Only.trans {F F' : List Nat} {a b c : World} (h : Only F a b) (k : Only F' b c) (hF : ∀ x ∈ F', x ∈ F ∨ a.heap.size ≤ x) : Only F a c :=
  ⟨k.os.trans h.os, k.tape.trans h.tape, k.output.trans h.output, Nat.le_trans h.size k.size, fun i hi hn => (k.block i (Nat.lt_of_lt_of_le hi h.size) (fun hm => by rcases hF i hm with e | e; exact hn e; omega)).trans (h.block i hi hn)⟩
theorem Only.trans' {F : List Nat} {a b c : World} (h : Only F a b) (k : Only F b c) : Only F a c := h.trans k fun x hx => .inl hx
theorem Only.of_below {F : List Nat} {w w' : World} (h : Below w.heap.size w w') : Only F w w' := ⟨h.os, h.tape, h.output, h.size, fun k hk _ => h.block k hk⟩
theorem Only.of_grown {F : List Nat} {w w' : World} {r : Nat} (h : w.grownBy w' (some r)) (hr : r ∈ F) : Only F w w' := ⟨h.os, h.tape, h.output, h.size, fun k hk hn => h.block k hk (fun e => hn (by cases e; exact hr))⟩
theorem Only.of_grown' {F : List Nat} {w w' : World} {r : Option Nat} (h : w.grownBy w' r) (hr : ∀ k, r = some k → k ∈ F) : Only F w w' := ⟨h.os, h.tape, h.output, h.size, fun k hk hn => h.block k hk (fun e => hn (hr k e.symm))⟩
theorem Only.setCell {F : List Nat} {a w : World} (h : Only F a w) {p : Addr} (hp : p.block ∈ F) (u : Value) : Only F a (w.setCell p u) :=
  h.trans' ⟨rfl, rfl, rfl, by simp [World.setCell], fun k hk hn => Below.heap_setCell _ _ _ _ (fun e => hn (e ▸ hp))⟩
theorem Only.alloc {F : List Nat} {a w : World} (h : Only F a w) (o : Obj) : Only F a (w.alloc o) := h.trans' (.of_below (below_alloc w o))
theorem Only.drew {F : List Nat} {a w : World} (h : Only F a w) : Only F a w.drew := ⟨h.os, h.tape, h.output, h.size, h.block⟩
theorem Only.below {F : List Nat} {a w w' : World} (h : Only F a w) (hb : Below w.heap.size w w') : Only F a w' := h.trans' (.of_below hb)
theorem Only.to_below {F : List Nat} {B : Nat} {w w' : World} (h : Only F w w') (hB : B ≤ w.heap.size) (hF : ∀ x ∈ F, B ≤ x) : Below B w w' :=
  ⟨h.os, h.tape, h.output, h.size, fun k hk => h.block k (by omega) (fun hm => by have := hF k hm; omega)⟩
theorem Only.over {F : List Nat} {w w1 w2 : World} (h : Only F w1 w2) (hb : Below w.heap.size w w1) (hF : ∀ b ∈ F, w.heap.size ≤ b) : Below w.heap.size w w2 := hb.trans (h.to_below hb.size hF)
theorem Only.more {F F' : List Nat} {w w' : World} (h : Only F w w') (hF : ∀ x ∈ F, x ∈ F') : Only F' w w' := ⟨h.os, h.tape, h.output, h.size, fun k hk hn => h.block k hk (fun hm => hn (hF k hm))⟩
section
variable {w w' : World} {g : Nat}
theorem BlkIs.only {F' : List Nat} {t : TypeId} {cs : Array Value} (h : BlkIs w g t cs) (ho : Only F' w w') (hd : g ∉ F') : BlkIs w' g t cs := (ho.block g h.lt hd).trans h
end
theorem only_drewN (F : List Nat) (w : World) (m : Nat) : Only F w (w.drewN m) := ⟨rfl, rfl, rfl, Nat.le_refl _, fun _ _ _ => rfl⟩
theorem two_only (w : World) (D i j : Nat) (u v : Value) : Only [D] w (((w.setCell ⟨D, i, none⟩ u).setCell ⟨D, j, none⟩ v).drew) :=
  (((Only.refl [D] w).setCell (p := ⟨D, i, none⟩) (by simp) _).setCell (p := ⟨D, j, none⟩) (by simp) _).drew
/-! Rows of one's own: stores into other blocks, and a lower base. -/
theorem own_far {w : World} {base n size : Nat} {e : TypeId} {v : Value} {xs : List Value} (h : w.ownsRow base e size v n xs) {p : Addr} (hp : p.block < base) (u : Value) : (w.setCell p u).ownsRow base e size v n xs := by
  refine ⟨h.1, ?_⟩
  rcases h.2 with h0 | ⟨g, cap, cur, hv, hg, hh, r⟩
  · exact .inl h0
  · exact .inr ⟨g, cap, cur, hv, hg, (Below.heap_setCell w p u g (by omega)).trans hh, r⟩
theorem own_down {w : World} {base base' n size : Nat} {e : TypeId} {v : Value} {xs : List Value} (h : w.ownsRow base e size v n xs) (hb : base' ≤ base) : w.ownsRow base' e size v n xs := by
  refine ⟨h.1, ?_⟩
  rcases h.2 with h0 | ⟨g, cap, cur, hv, hg, r⟩
  · exact .inl h0
  · exact .inr ⟨g, cap, cur, hv, Nat.le_trans hb hg, r⟩
end Go.Proofs.YtedkhdnfbdojcaaDoor
end
