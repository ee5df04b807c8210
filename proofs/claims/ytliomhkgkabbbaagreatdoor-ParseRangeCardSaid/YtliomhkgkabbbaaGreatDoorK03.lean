import Derived.Test.YtliomhkgkabbbaaGreatDoorRows
import Derived.Test.YtliomhkgkabbbaaGreatDoorK02
import Derived.WalkKit
import Derived.WalkSpells
import Derived.WalkLawsBesides
import Derived.WalkSmall
import Derived.Handy
import Derived.OpenShut
import Derived.Lib.Hide
import Derived.Deep.AppendLies
import Derived.Deep.QuietTactic
import Derived.BigQuiet
import Derived.Laws.BytesArg
section
/- Memory, for every seat: slices of numbers, blocks that are known whole, what is kept from world to world; nothing of the program. -/
namespace Go.Proofs.YtliomhkgkabbbaaGreatDoor
open Go.RowKit
set_option linter.unusedVariables false

/-- A slice that reads as these numbers (nil too). -/
def Ints (w : World) (A : Option Addr) (n : Nat) (xs : List Int) : Prop :=
  xs.length = n ∧ (0 < n → ∃ b off, A = some ⟨b, off, none⟩ ∧ ∀ k, k < n → w.cell? ⟨b, off + k, none⟩ = some (.int .i64 (xs.getD k 0)))
theorem below_alloc (w : World) (o : Obj) : Below w.heap.size w (w.alloc o) := (Below.refl _ _).alloc (Nat.le_refl _) o
theorem info_int : (Tryz.prog.info? 3).map (fun i => (i.zero, i.size, i.bytes)) = some (some (.int .i64 0), 1, 8) := by kernel_rfl

theorem Ints.keep {w w' : World} {A : Option Addr} {n : Nat} {xs : List Int} (h : Ints w A n xs) (hb : Below w.heap.size w w') : Ints w' A n xs := by
  refine ⟨h.1, fun hn => ?_⟩
  obtain ⟨b, off, e, hc⟩ := h.2 hn
  refine ⟨b, off, e, fun k hk => ?_⟩
  have hl := World.block_lt_of_cell? w _ (hc k hk)
  exact (hb.cell (p := ⟨b, off + k, none⟩) hl).trans (hc k hk)
theorem Ints.nil (w : World) (A : Option Addr) : Ints w A 0 [] := ⟨rfl, fun h => absurd h (by decide)⟩
theorem own_form {w : World} {base : Nat} {e : TypeId} {v : Value} {n : Nat} {xs : List Value} (h : w.ownsRow base e 1 v n xs) : ∃ A c, v = .slice A n c ∧ n ≤ c := by
  rcases h.2 with ⟨rfl, rfl⟩ | ⟨g, cap, cur, rfl, _, _, hc, _⟩
  · exact ⟨_, _, rfl, Nat.le_refl _⟩
  · exact ⟨_, _, rfl, hc⟩
theorem Ints.of_own {w : World} {base : Nat} {e : TypeId} {A : Option Addr} {n c : Nat} {xs : List Int} (h : w.ownsRow base e 1 (.slice A n c) n (xs.map (Value.int .i64))) : Ints w A n xs := by
  refine ⟨by simpa using h.1, fun hn => ?_⟩
  obtain ⟨g, cap, hv, _, _⟩ := h.form hn
  injection hv with hA _ hc
  subst hA; subst hc
  refine ⟨g, 0, rfl, fun k hk => ?_⟩
  have := h.cellAt k (by omega)
  have hl : xs.length = n := by simpa using h.1
  rw [Nat.zero_add, this, List.getElem?_map, List.getD_eq_getElem?_getD, List.getElem?_eq_getElem (by omega)]
  rfl
theorem own_ge {w : World} {base : Nat} {e : TypeId} {v : Value} {n : Nat} {xs : List Value} (h : w.ownsRow base e 1 v n xs) : ∀ k, v.ownBlock = some k → base ≤ k := fun k hk => (h.lt k hk).1

theorem one_cell (w : World) (x : Value) (t : TypeId) : ∀ (j : Nat) (u : Value), [x][j]? = some u → (w.alloc (.cells #[x] t)).cell? ((⟨w.heap.size, 0, none⟩ : Addr).add j) = some u := by
  intro j u hj
  match j, hj with
  | 0, hj => simp at hj; subst hj; simp [Addr.add]
theorem one_ok (x : Int) : ∀ u ∈ [Value.int .i64 x], u.oneCell' = true := by intro u hu; simp at hu; subst hu; rfl
theorem Ints.cut {w : World} {A : Option Addr} {n : Nat} {xs : List Int} (h : Ints w A n xs) {k : Nat} (hk : k ≤ n) : Ints w A k (xs.take k) := by
  refine ⟨by rw [List.length_take_of_le (by rw [h.1]; exact hk)], fun h0 => ?_⟩
  obtain ⟨b, off, e, hc⟩ := h.2 (by omega)
  refine ⟨b, off, e, fun j hj => ?_⟩
  rw [hc j (by omega), List.getD_eq_getElem?_getD, List.getD_eq_getElem?_getD, List.getElem?_take_of_lt hj]
/-- The length of a slice that a cell holds. -/
def lenAt : Option Value → Nat | some (.slice _ k _) => k | _ => 0
/-- The whole of block g is these cells. -/
def BlkIs (w : World) (g : Nat) (t : TypeId) (cs : Array Value) : Prop := w.heap[g]? = some (.cells cs t (0, 0))
section
variable {w w' : World} {g : Nat} {t : TypeId} {cs : Array Value}
theorem BlkIs.lt (h : BlkIs w g t cs) : g < w.heap.size := by
  rcases Nat.lt_or_ge g w.heap.size with hlt | hge
  · exact hlt
  · unfold BlkIs at h; rw [Array.getElem?_eq_none hge] at h; cases h
theorem BlkIs.cellAt (h : BlkIs w g t cs) (i : Nat) : w.cell? ⟨g, i, none⟩ = cs[i]? := by
  unfold BlkIs at h
  simp [World.cell?, h]
theorem BlkIs.free (h : BlkIs w g t cs) (i : Nat) : w.frozen? ⟨g, i, none⟩ = false := by
  unfold BlkIs at h
  simp [World.frozen?, h]
theorem BlkIs.fresh (w : World) (t : TypeId) (cs : Array Value) : BlkIs (w.alloc (.cells cs t)) w.heap.size t cs := heap_alloc_new w _
theorem BlkIs.alloc (h : BlkIs w g t cs) (o : Obj) : BlkIs (w.alloc o) g t cs := (Below.heap_alloc w o g h.lt).trans h
theorem BlkIs.put (h : BlkIs w g t cs) (i : Nat) (u : Value) : BlkIs (w.setCell ⟨g, i, none⟩ u) g t (cs.setIfInBounds i u) := by
  unfold BlkIs at h ⊢
  simp [World.setCell, Array.getElem?_modify, h]
theorem BlkIs.far (h : BlkIs w g t cs) {p : Addr} (hp : g ≠ p.block) (u : Value) : BlkIs (w.setCell p u) g t cs := (Below.heap_setCell w p u g hp).trans h
theorem BlkIs.below {B : Nat} (h : BlkIs w g t cs) (hb : Below B w w') (hg : g < B) : BlkIs w' g t cs := (hb.block g hg).trans h
theorem BlkIs.grown {row : Option Nat} (h : BlkIs w g t cs) (hb : w.grownBy w' row) (hg : some g ≠ row) : BlkIs w' g t cs := (hb.block g h.lt hg).trans h
end
/-- Numbers in memory do not lie in a struct's block. -/
theorem Ints.store2 {w : World} {A A0 A1 : Option Addr} {n n0 c0 n1 c1 : Nat} {b0 b1 : Bool} {xs : List Int} {g : Nat} {t : TypeId} (h : Ints w A n xs) (K : BlkIs w g t #[.slice A0 n0 c0, .bool b0]) :
    Ints ((w.setCell ⟨g, 0, none⟩ (.slice A1 n1 c1)).setCell ⟨g, 1, none⟩ (.bool b1)) A n xs := by
  refine ⟨h.1, fun hn => ?_⟩
  obtain ⟨b, off, e, hc⟩ := h.2 hn
  refine ⟨b, off, e, fun k hk => ?_⟩
  have hne : b ≠ g := by
    intro e
    subst e
    have := hc k hk
    rw [K.cellAt] at this
    rcases hk' : off + k with _ | _ | j <;> rw [hk'] at this <;> simp at this
  rw [World.cell?_setCell_other _ _ _ _ (by simp), World.cell?_setCell_other _ _ _ _ (by simp)]
  exact hc k hk
/-- What a result's block reads behind the store. -/
theorem BlkIs.two {w : World} {A0 A1 : Option Addr} {n0 c0 n1 c1 : Nat} {b0 b1 : Bool} {g : Nat} {t : TypeId} (K : BlkIs w g t #[.slice A0 n0 c0, .bool b0]) :
    (w.setCell ⟨g, 0, none⟩ (.slice A1 n1 c1)).cell? ⟨g, 0, none⟩ = some (.slice A1 n1 c1) ∧
      ((w.setCell ⟨g, 0, none⟩ (.slice A1 n1 c1)).setCell ⟨g, 1, none⟩ (.bool b1)).cell? ⟨g, 1, none⟩ = some (.bool b1) := by
  have q0 := (K.put 0 (.slice A1 n1 c1)).cellAt 0
  have q1 := ((K.put 0 (.slice A1 n1 c1)).put 1 (.bool b1)).cellAt 1
  simp at q0 q1
  exact ⟨q0, q1⟩
theorem BlkIs.cells2 {w : World} {A0 : Option Addr} {n0 c0 : Nat} {b0 : Bool} {g : Nat} {t : TypeId} (K : BlkIs w g t #[.slice A0 n0 c0, .bool b0]) :
    w.cell? ⟨g, 0, none⟩ = some (.slice A0 n0 c0) ∧ w.cell? ⟨g, 1, none⟩ = some (.bool b0) ∧ w.frozen? ⟨g, 0, none⟩ = false ∧ w.frozen? ⟨g, 1, none⟩ = false := by
  have q0 := K.cellAt 0
  have q1 := K.cellAt 1
  simp at q0 q1
  exact ⟨q0, q1, K.free 0, K.free 1⟩
theorem far_off {b b' o o' : Nat} (h : b ≠ b') : (⟨b, o, none⟩ : Addr) ≠ ⟨b', o', none⟩ := fun e => h (congrArg Addr.block e)
theorem far_two {w : World} {g b o : Nat} {u v : Value} (h : g ≠ b) : ((w.setCell ⟨g, 0, none⟩ u).setCell ⟨g, 1, none⟩ v).cell? ⟨b, o, none⟩ = w.cell? ⟨b, o, none⟩ := by
  rw [World.cell?_setCell_other _ _ _ _ (far_off h), World.cell?_setCell_other _ _ _ _ (far_off h)]
theorem below3 (w : World) (o o' o'' : Obj) : Below w.heap.size w (((w.alloc o).alloc o').alloc o'') := (((Below.refl _ _).alloc (Nat.le_refl _) o).alloc (by simp) o').alloc (by simp; omega) o''
/-- The three blocks of Add in any later world. -/
theorem three_blks {w w1 : World} {a b r : Array Value} {t : TypeId} (hb : Below (((w.alloc (.cells a t)).alloc (.cells b t)).alloc (.cells r t)).heap.size (((w.alloc (.cells a t)).alloc (.cells b t)).alloc (.cells r t)) w1) :
    BlkIs w1 w.heap.size t a ∧ BlkIs w1 (w.heap.size + 1) t b ∧ BlkIs w1 (w.heap.size + 2) t r ∧ Below w.heap.size w w1 := by
  refine ⟨(((BlkIs.fresh w t a).alloc _).alloc _).below hb (by simp; omega), ?_, ?_, (below3 w _ _ _).trans (hb.mono (by simp; omega))⟩
  · have := ((BlkIs.fresh (w.alloc (.cells a t)) t b).alloc (.cells r t)).below hb (by simp)
    rw [World.size_alloc] at this
    exact this
  · have := (BlkIs.fresh ((w.alloc (.cells a t)).alloc (.cells b t)) t r).below hb (by simp)
    rw [World.size_alloc, World.size_alloc] at this
    exact this
/-- What a slice of numbers that came in reads as. -/
theorem ints_of_row {w : World} {a : Option Addr} {len cap : Nat} {zs : List Int}
    (h : (a = none ∧ len = 0 ∧ cap = 0 ∧ zs = []) ∨ ∃ x, a = some x ∧ len ≤ cap ∧ cap ≤ maxLen ∧ zs.length = cap ∧ (∀ i, i < zs.length → w.cell? (x.add i) = some (.int .i64 (zs.getD i 0))) ∧ ∀ n ∈ zs, (Lit.int .i64 n).wf = true) :
    Ints w a len (zs.take len) ∧ len ≤ cap ∧ (∀ k, -9223372036854775808 ≤ zs.getD k 0 ∧ zs.getD k 0 ≤ 9223372036854775807) ∧ len ≤ zs.length := by
  rcases h with ⟨rfl, rfl, rfl, rfl⟩ | ⟨x, rfl, h1, h2, h3, h4, h5⟩
  · exact ⟨Ints.nil _ _, Nat.le_refl _, fun k => by simp, Nat.le_refl _⟩
  · refine ⟨⟨by rw [List.length_take_of_le (by omega)], fun h0 => ?_⟩, h1, fun k => ?_, by omega⟩
    · obtain ⟨b, off, rfl, hc⟩ := Go.ints_at h4 (by omega)
      refine ⟨b, off, rfl, fun j hj => ?_⟩
      rw [hc j (by omega), List.getD_eq_getElem?_getD, List.getD_eq_getElem?_getD, List.getElem?_take_of_lt hj]
    · rw [List.getD_eq_getElem?_getD]
      rcases Nat.lt_or_ge k zs.length with hk | hk
      · rw [List.getElem?_eq_getElem hk]; exact wf_iff.1 (h5 _ (List.getElem_mem hk))
      · rw [List.getElem?_eq_none hk]; decide
theorem take_bd {zs : List Int} (h : ∀ k, -9223372036854775808 ≤ zs.getD k 0 ∧ zs.getD k 0 ≤ 9223372036854775807) (n k : Nat) : -9223372036854775808 ≤ (zs.take n).getD k 0 ∧ (zs.take n).getD k 0 ≤ 9223372036854775807 := by
  rw [List.getD_eq_getElem?_getD]
  rcases Nat.lt_or_ge k n with hk | hk
  · rw [List.getElem?_take_of_lt hk, ← List.getD_eq_getElem?_getD]; exact h k
  · rw [List.getElem?_take_eq_none hk]; decide
/-- How far a loop that counts down has come: k are left. -/
def DownAt (k : Nat) (i : Value) : Prop := (k = 0 ∧ i = .int .i64 (-1)) ∨ ∃ j : Nat, k = j + 1 ∧ i = .int .i64 j
theorem DownAt.next (j : Nat) : DownAt j (.int .i64 ((j : Int) - 1)) := by
  rcases j with _ | j
  · exact .inl ⟨rfl, rfl⟩
  · exact .inr ⟨j, rfl, by congr 1; omega⟩
/-- A call that leaves the world alone, behind draws. -/
theorem quiet_more {P : Program} {f : FuncId} {args : Array Value} {w : World} {a n : Nat} {v : Value} (h : ∀ W, Calls P f args W fun e w' => e = .returned v ∧ w' = W) :
    Calls P f args (w.drewN (a + n)) fun e w'' => e = .returned v ∧ ∃ m, w'' = w.drewN (a + m) :=
  (h _).mono fun _ _ ⟨he, hm⟩ => ⟨he, n, hm⟩
theorem below_drew (w : World) : Below w.heap.size w w.drew := (Below.refl _ _).drew
theorem below_drew_alloc (w : World) (o : Obj) : Below w.heap.size w (w.alloc o).drew := (below_alloc w o).drew
theorem below_drew_alloc' (w : World) (o : Obj) : Below w.heap.size w (w.drew.alloc o) := (below_drew w).alloc (Nat.le_refl _) o

/-- A slice that reads as these numbers of kind k (nil too). -/
def Nums (k : IntKind) (w : World) (A : Option Addr) (n : Nat) (xs : List Int) : Prop :=
  xs.length = n ∧ (0 < n → ∃ b off, A = some ⟨b, off, none⟩ ∧ ∀ j, j < n → w.cell? ⟨b, off + j, none⟩ = some (.int k (xs.getD j 0)))
theorem Nums.keep {k : IntKind} {w w' : World} {A : Option Addr} {n : Nat} {xs : List Int} (h : Nums k w A n xs) (hb : Below w.heap.size w w') : Nums k w' A n xs := by
  refine ⟨h.1, fun hn => ?_⟩
  obtain ⟨b, off, e, hc⟩ := h.2 hn
  refine ⟨b, off, e, fun j hj => ?_⟩
  have hl := World.block_lt_of_cell? w _ (hc j hj)
  exact (hb.cell (p := ⟨b, off + j, none⟩) hl).trans (hc j hj)
theorem Nums.nil (k : IntKind) (w : World) (A : Option Addr) : Nums k w A 0 [] := ⟨rfl, fun h => absurd h (by decide)⟩
theorem Nums.of_own {k : IntKind} {w : World} {base : Nat} {e : TypeId} {A : Option Addr} {n c : Nat} {xs : List Int} (h : w.ownsRow base e 1 (.slice A n c) n (xs.map (Value.int k))) : Nums k w A n xs := by
  refine ⟨by simpa using h.1, fun hn => ?_⟩
  obtain ⟨g, cap, hv, _, _⟩ := h.form hn
  injection hv with hA _ hc
  subst hA; subst hc
  refine ⟨g, 0, rfl, fun j hj => ?_⟩
  have := h.cellAt j (by omega)
  have hl : xs.length = n := by simpa using h.1
  rw [Nat.zero_add, this, List.getElem?_map, List.getD_eq_getElem?_getD, List.getElem?_eq_getElem (by omega)]
  rfl
theorem Nums.cut {k : IntKind} {w : World} {A : Option Addr} {n : Nat} {xs : List Int} (h : Nums k w A n xs) {m : Nat} (hm : m ≤ n) : Nums k w A m (xs.take m) := by
  refine ⟨by rw [List.length_take_of_le (by rw [h.1]; exact hm)], fun h0 => ?_⟩
  obtain ⟨b, off, e, hc⟩ := h.2 (by omega)
  refine ⟨b, off, e, fun j hj => ?_⟩
  rw [hc j (by omega), List.getD_eq_getElem?_getD, List.getD_eq_getElem?_getD, List.getElem?_take_of_lt hj]
theorem Ints.nums {w : World} {A : Option Addr} {n : Nat} {xs : List Int} (h : Ints w A n xs) : Nums .i64 w A n xs := h
theorem nums_of_row {k : IntKind} {w : World} {a : Option Addr} {len cap : Nat} {zs : List Int}
    (h : (a = none ∧ len = 0 ∧ cap = 0 ∧ zs = []) ∨ ∃ x, a = some x ∧ len ≤ cap ∧ cap ≤ maxLen ∧ zs.length = cap ∧ (∀ i, i < zs.length → w.cell? (x.add i) = some (.int k (zs.getD i 0))) ∧ ∀ n ∈ zs, (Lit.int k n).wf = true) :
    Nums k w a len (zs.take len) ∧ len ≤ cap ∧ (∀ n ∈ zs, (Lit.int k n).wf = true) ∧ len ≤ zs.length := by
  rcases h with ⟨rfl, rfl, rfl, rfl⟩ | ⟨x, rfl, h1, h2, h3, h4, h5⟩
  · exact ⟨Nums.nil _ _ _, Nat.le_refl _, (fun n hn => absurd hn (by simp)), Nat.le_refl _⟩
  · refine ⟨⟨by rw [List.length_take_of_le (by omega)], fun h0 => ?_⟩, h1, h5, by omega⟩
    obtain ⟨b, off, rfl, hc⟩ := Go.ints_at h4 (by omega)
    refine ⟨b, off, rfl, fun j hj => ?_⟩
    rw [hc j (by omega), List.getD_eq_getElem?_getD, List.getD_eq_getElem?_getD, List.getElem?_take_of_lt hj]
/-- The bytes that append lays for one. -/
theorem one_okK (k : IntKind) (x : Int) : ∀ u ∈ [Value.int k x], u.oneCell' = true := by intro u hu; simp at hu; subst hu; rfl
/-- A row of the call's own, behind a call that writes nothing that was there. -/
theorem own_keep {w w' : World} {base : Nat} {e : TypeId} {size n : Nat} {v : Value} {xs : List Value} (h : w.ownsRow base e size v n xs) (hb : Below w.heap.size w w') : w'.ownsRow base e size v n xs := by
  refine ⟨h.1, ?_⟩
  rcases h.2 with h0 | ⟨g, cap, cur, hv, hg, hh, r⟩
  · exact .inl h0
  · have hl : g < w.heap.size := by
      rcases Nat.lt_or_ge g w.heap.size with a | a
      · exact a
      · rw [Array.getElem?_eq_none a] at hh; cases hh
    exact .inr ⟨g, cap, cur, hv, hg, (hb.block g hl).trans hh, r⟩
theorem row_len {k : IntKind} {w : World} {a : Option Addr} {len cap : Nat} {zs : List Int}
    (h : (a = none ∧ len = 0 ∧ cap = 0 ∧ zs = []) ∨ ∃ x, a = some x ∧ len ≤ cap ∧ cap ≤ maxLen ∧ zs.length = cap ∧ (∀ i, i < zs.length → w.cell? (x.add i) = some (.int k (zs.getD i 0))) ∧ ∀ n ∈ zs, (Lit.int k n).wf = true) : len ≤ maxLen := by
  rcases h with ⟨_, rfl, _⟩ | ⟨x, _, h1, h2, _⟩
  · exact Nat.zero_le _
  · exact Nat.le_trans h1 h2
end Go.Proofs.YtliomhkgkabbbaaGreatDoor
end
section
/- What a call leaves: nothing but the blocks of a list, and new ones, has turned; nothing of the program. -/
namespace Go.Proofs.YtliomhkgkabbbaaGreatDoor
open Go.RowKit
set_option linter.unusedVariables false
/-- Nothing but the blocks of F, and new ones, has turned. -/
structure Only (F : List Nat) (w w' : World) : Prop where
  os : w'.os = w.os
  tape : w'.tape = w.tape
  output : w'.output = w.output
  size : w.heap.size ≤ w'.heap.size
  block : ∀ k, k < w.heap.size → k ∉ F → w'.heap[k]? = w.heap[k]?
theorem Only.refl (F : List Nat) (w : World) : Only F w w := ⟨rfl, rfl, rfl, Nat.le_refl _, fun _ _ _ => rfl⟩
theorem Only.trans {F F' : List Nat} {a b c : World} (h : Only F a b) (k : Only F' b c) (hF : ∀ x ∈ F', x ∈ F ∨ a.heap.size ≤ x) : Only F a c :=
  ⟨k.os.trans h.os, k.tape.trans h.tape, k.output.trans h.output, Nat.le_trans h.size k.size, fun i hi hn => (k.block i (Nat.lt_of_lt_of_le hi h.size) (fun hm => by rcases hF i hm with e | e; exact hn e; omega)).trans (h.block i hi hn)⟩
theorem Only.trans' {F : List Nat} {a b c : World} (h : Only F a b) (k : Only F b c) : Only F a c := h.trans k fun x hx => .inl hx
theorem Only.of_below {F : List Nat} {w w' : World} (h : Below w.heap.size w w') : Only F w w' := ⟨h.os, h.tape, h.output, h.size, fun k hk _ => h.block k hk⟩
theorem Only.of_grown {F : List Nat} {w w' : World} {r : Nat} (h : w.grownBy w' (some r)) (hr : r ∈ F) : Only F w w' := ⟨h.os, h.tape, h.output, h.size, fun k hk hn => h.block k hk (fun e => hn (by cases e; exact hr))⟩
theorem Only.of_grown' {F : List Nat} {w w' : World} {r : Option Nat} (h : w.grownBy w' r) (hr : ∀ k, r = some k → k ∈ F) : Only F w w' := ⟨h.os, h.tape, h.output, h.size, fun k hk hn => h.block k hk (fun e => hn (hr k e.symm))⟩
theorem Only.setCell {F : List Nat} {a w : World} (h : Only F a w) {p : Addr} (hp : p.block ∈ F) (u : Value) : Only F a (w.setCell p u) :=
  h.trans' ⟨rfl, rfl, rfl, by simp [World.setCell], fun k hk hn => Below.heap_setCell _ _ _ _ (fun e => hn (e ▸ hp))⟩
theorem Only.alloc {F : List Nat} {a w : World} (h : Only F a w) (o : Obj) : Only F a (w.alloc o) := h.trans' (.of_below (below_alloc w o))
theorem Only.drew {F : List Nat} {a w : World} (h : Only F a w) : Only F a w.drew := ⟨h.os, h.tape, h.output, h.size, h.block⟩
theorem Only.below {F : List Nat} {a w w' : World} (h : Only F a w) (hb : Below w.heap.size w w') : Only F a w' := h.trans' (.of_below hb)
theorem Only.to_below {F : List Nat} {B : Nat} {w w' : World} (h : Only F w w') (hB : B ≤ w.heap.size) (hF : ∀ x ∈ F, B ≤ x) : Below B w w' :=
  ⟨h.os, h.tape, h.output, h.size, fun k hk => h.block k (by omega) (fun hm => by have := hF k hm; omega)⟩
theorem Only.over {F : List Nat} {w w1 w2 : World} (h : Only F w1 w2) (hb : Below w.heap.size w w1) (hF : ∀ b ∈ F, w.heap.size ≤ b) : Below w.heap.size w w2 := hb.trans (h.to_below hb.size hF)
theorem Only.more {F F' : List Nat} {w w' : World} (h : Only F w w') (hF : ∀ x ∈ F, x ∈ F') : Only F' w w' := ⟨h.os, h.tape, h.output, h.size, fun k hk hn => h.block k hk (fun hm => hn (hF k hm))⟩
section
variable {w w' : World} {g : Nat}
theorem BlkIs.only {F' : List Nat} {t : TypeId} {cs : Array Value} (h : BlkIs w g t cs) (ho : Only F' w w') (hd : g ∉ F') : BlkIs w' g t cs := (ho.block g h.lt hd).trans h
end
theorem only_drewN (F : List Nat) (w : World) (m : Nat) : Only F w (w.drewN m) := ⟨rfl, rfl, rfl, Nat.le_refl _, fun _ _ _ => rfl⟩
theorem two_only (w : World) (D i j : Nat) (u v : Value) : Only [D] w (((w.setCell ⟨D, i, none⟩ u).setCell ⟨D, j, none⟩ v).drew) :=
  (((Only.refl [D] w).setCell (p := ⟨D, i, none⟩) (by simp) _).setCell (p := ⟨D, j, none⟩) (by simp) _).drew
end Go.Proofs.YtliomhkgkabbbaaGreatDoor
end
section
/- What the document's functions on sets of days answer: bits, numbers, all days, the next one, and whether two lists are the same. -/
namespace Go.Proofs.YtliomhkgkabbbaaGreatDoor
open Go.RowKit
set_option linter.unusedVariables false
set_option maxRecDepth 20000

theorem wfu_iff {n : Int} : (Lit.int .u64 n).wf = true ↔ (0 ≤ n ∧ n ≤ 18446744073709551615) := by
  simp [Lit.wf, IntKind.min, IntKind.max, IntKind.signed, IntKind.bits]
/-- Of a set that came in: its number. -/
theorem nat_of_u64 {n : Int} (h : (Lit.int .u64 n).wf = true) : ∃ s : Nat, n = (s : Int) ∧ s < 2 ^ 64 := by
  have := wfu_iff.1 h
  exact ⟨n.toNat, by omega, by omega⟩

/-- A row of the call's own, of n numbers, from its block's head on. -/
def OwnAt (w : World) (base g n : Nat) (xs : List Int) : Prop := w.ownsRow base 3 1 (.slice (some ⟨g, 0, none⟩) n n) n (xs.map (Value.int .i64))
theorem OwnAt.len {w : World} {base g n : Nat} {xs : List Int} (h : OwnAt w base g n xs) : xs.length = n := by simpa using h.1
theorem OwnAt.ints {w : World} {base g n : Nat} {xs : List Int} (h : OwnAt w base g n xs) : Ints w (some ⟨g, 0, none⟩) n xs := Ints.of_own h
theorem OwnAt.cellIn {w : World} {base g n : Nat} {xs : List Int} (h : OwnAt w base g n xs) {j : Nat} (hj : j < n) : w.cell? ⟨g, j, none⟩ = some (.int .i64 (xs.getD j 0)) ∧ w.frozen? ⟨g, j, none⟩ = false := by
  refine ⟨?_, h.frozenAt j⟩
  rw [h.cellAt j (by omega), List.getElem?_map, List.getD_eq_getElem?_getD, List.getElem?_eq_getElem (by rw [h.len]; exact hj)]
  rfl
theorem OwnAt.ge {w : World} {base g n : Nat} {xs : List Int} (h : OwnAt w base g n xs) : base ≤ g := own_ge h g rfl
theorem OwnAt.put {w : World} {base g n : Nat} {xs : List Int} (h : OwnAt w base g n xs) (j : Nat) (u : Int) : OwnAt (w.setCell ⟨g, j, none⟩ (.int .i64 u)) base g n (xs.set j u) := by
  unfold OwnAt
  rw [List.map_set]
  exact (h.stored j (.int .i64 u)).1
theorem OwnAt.made {w : World} {base g n : Nat} (h : w.ownsRow base 3 1 (.slice (some ⟨g, 0, none⟩) n n) n (madeCells (Value.int .i64 0).cells (n * 1)).toList) : OwnAt w base g n (List.replicate n 0) := by
  unfold OwnAt
  rw [List.map_replicate, ← toList_madeCells_one]
  simpa [Value.cells] using h

/-- The bits that the loop of Bits has laid. -/
def BitsAt (s d : Nat) : List Int := (List.range 64).map fun j => if j < d then (if s.testBit j then 1 else 0) else 0
theorem bitsAt_zero (s : Nat) : BitsAt s 0 = List.replicate 64 0 := by
  refine List.eq_replicate_iff.2 ⟨by simp [BitsAt], fun b hb => ?_⟩
  obtain ⟨j, _, rfl⟩ := List.mem_map.1 hb
  rw [if_neg (by omega)]

set_option maxRecDepth 100000 in
set_option maxHeartbeats 1000000 in
theorem bits_any (s : Nat) (hs : s < 2 ^ 64) (w : World) :
    Calls Tryz.prog 62 #[.int .u64 s] w fun e w' => ∃ g, e = .returned (.slice (some ⟨g, 0, none⟩) 64 64) ∧ OwnAt w' w.heap.size g 64 (bitsL s) ∧ Below w.heap.size w w' := by
  obtain ⟨i0, hi0, hz0, hz1, hz2⟩ := info_parts info_int
  have HSS := Go.Lib.hid hs
  clear hs
  go_enter Tryz.func62, Tryz.ntmps62
  go_wp2_with (at_make; refine wpList_make_full _ rfl _ _ 43 rfl w.heap.size 3 i0 (.int .i64 0) 1 Tryz.underlying43 hi0 hz0 hz1 _ _ _ _ 64 rfl rfl (by omega) (by omega) (by rw [hz2]; omega) (by unfold maxLen; omega) (Nat.le_refl _) ?_; intro wm hown hgm)
  have M := OwnAt.made hown
  have B : Below w.heap.size w wm := (Below.refl _ _).grown hgm (Nat.le_refl _) (by simp)
  clear hown hgm
  go_loopw [0, 4] (fun sv iv wr => ∃ d : Nat, d ≤ 64 ∧ iv = .int .i64 d ∧ sv = .int .u64 ((s / 2 ^ d : Nat) : Int) ∧ OwnAt wr w.heap.size w.heap.size 64 (BitsAt s d) ∧ Below w.heap.size w wr) (fun _ iv _ => 64 - (intOf iv).toNat)
  case atStart => exact ⟨0, Nat.zero_le _, rfl, by simp, by rw [bitsAt_zero]; exact M, B⟩
  case round =>
    clear M B
    obtain ⟨d, hd, rfl, rfl, M, B⟩ := hrel
    by_cases hlt : d < 64
    · obtain ⟨c0, c1⟩ := M.cellIn hlt
      have MM := Go.Lib.hid M
      have HS := Go.Lib.hid (bit_mod s d)
      have HH := Go.Lib.hid (half_step s d)
      obtain ⟨q, hq⟩ : ∃ q : Nat, s / 2 ^ d = q := ⟨_, rfl⟩
      have hqb : (q : Int) ≤ 18446744073709551615 := by have := Nat.div_le_self s (2 ^ d); have := HSS.out; omega
      rw [hq] at HS HH ⊢
      clear M hq
      go_wp2
      go_roundw
      case rel => exact ⟨d + 1, by omega, by go_num, by rw [← HH.out], by
        show OwnAt _ _ _ _ _
        unfold BitsAt
        rw [bits_step, ← HS.out]
        exact MM.out.put d _, B.setCell (by simp) _⟩
      case measure => simp [intOf]; omega
    · obtain rfl : d = 64 := by omega
      go_wp2
      go_ret
      refine ⟨_, rfl, ?_, B⟩
      have e : BitsAt s 64 = bitsL s := by
        unfold BitsAt bitsL
        apply List.map_congr_left
        intro j hj
        rw [if_pos (List.mem_range.1 hj)]
      rw [← e]
      exact M
end Go.Proofs.YtliomhkgkabbbaaGreatDoor
end
section
/- What the document's functions on sets of days answer: numbers, days put in and out, all days, the next one, and whether two lists are the same. -/
namespace Go.Proofs.YtliomhkgkabbbaaGreatDoor
open Go.RowKit
set_option linter.unusedVariables false
set_option maxRecDepth 20000

theorem num2_drop {xs : List Int} {k : Nat} (hk : k < xs.length) : num2 (xs.drop k) = (if xs.getD k 0 = 1 then 1 else 0) + 2 * num2 (xs.drop (k + 1)) := by
  rw [List.drop_eq_getElem_cons hk, List.getD_eq_getElem?_getD, List.getElem?_eq_getElem hk]; rfl

set_option maxHeartbeats 1000000 in
theorem bnum_any (A : Option Addr) (c : Nat) (xs : List Int) (w : World) (hx : Ints w A 64 xs) (hb : Bin xs) :
    Calls Tryz.prog 64 #[.slice A 64 c] w fun e w' => e = .returned (.int .u64 (num2 xs : Int)) ∧ w = w' := by
  obtain ⟨b, off, rfl, hcs⟩ := hx.2 (by decide)
  have HL := Go.Lib.hid hx.1
  have HB := Go.Lib.hid hb
  have HC := Go.Lib.hid hcs
  clear hx hb hcs
  go_enter Tryz.func64, Tryz.ntmps64
  go_wp2
  go_loop [3, 4] (fun nv iv => ∃ k : Nat, k ≤ 64 ∧ DownAt k iv ∧ nv = .int .u64 ((num2 (xs.drop k) : Nat) : Int)) (fun _ iv => (intOf iv + 1).toNat)
  case atStart => exact ⟨64, Nat.le_refl _, .inr ⟨63, rfl, rfl⟩, by rw [List.drop_of_length_le (by rw [HL.out]; exact Nat.le_refl _)]; rfl⟩
  case round =>
    obtain ⟨k, hk, hi, rfl⟩ := hrel
    rcases hi with ⟨rfl, rfl⟩ | ⟨j, rfl, rfl⟩
    · go_wp2
      go_ret
      exact ⟨by simp, rfl⟩
    · have hcj := HC.out j (by omega)
      have hbj := HB.out.getD j
      obtain ⟨x, hx⟩ : ∃ x, xs.getD j 0 = x := ⟨_, rfl⟩
      obtain ⟨q, hq⟩ : ∃ q, num2 (xs.drop (j + 1)) = q := ⟨_, rfl⟩
      have hqb : (q : Int) ≤ 9223372036854775807 := by
        have := num2_lt (xs.drop (j + 1))
        rw [List.length_drop, HL.out, hq] at this
        have h2 : 2 ^ (64 - (j + 1)) ≤ 2 ^ 63 := Nat.pow_le_pow_right (by decide) (by omega)
        omega
      have HN := Go.Lib.hid (num2_drop (xs := xs) (k := j) (by rw [HL.out]; omega))
      rw [hx] at hcj hbj HN
      rw [hq] at HN ⊢
      have x0 : 0 ≤ x := by omega
      have x1 : x ≤ 1 := by omega
      have HX := Go.Lib.hid hbj
      clear hbj hx hq
      go_wp2
      go_round
      case rel => exact ⟨j, by omega, DownAt.next j, by
        rw [HN.out]
        rcases HX.out with rfl | rfl
        · simp
        · simp; omega⟩
      case measure => simp [intOf]

theorem has_ref (s : Nat) (hs : s < 2 ^ 64) (d : Int) (w : World) :
    Calls Tryz.prog 36 #[.int .u64 s, .int .i64 d] w fun e w' => e = .returned (.bool (hasB s d)) ∧ Below w.heap.size w w' := by
  by_cases hd : 0 ≤ d ∧ d ≤ 63
  · obtain ⟨d0, d1⟩ := hd
    obtain ⟨k, rfl⟩ : ∃ k : Nat, d = (k : Int) := ⟨d.toNat, by omega⟩
    have hk : k < 64 := by omega
    have HB := Go.Lib.hid (bits_any s hs)
    have HV := Go.Lib.hid (bitsL_getD (s := s) hk)
    go_enter Tryz.func36, Tryz.ntmps36
    go_wp2_with (go_at_call 62; refine (HB.out _).mono ?_; rintro e w1 ⟨g, rfl, M, B⟩; have c0 := (M.cellIn hk).1; obtain ⟨x, hx⟩ : ∃ x, (bitsL s).getD k 0 = x := ⟨_, rfl⟩; rw [hx] at c0; have HX := Go.Lib.hid hx; clear hx)
    go_ret
    refine ⟨ret_bool ?_, B⟩
    have := HX.out
    rw [HV.out] at this
    rw [← this]
    unfold hasB
    rw [decide_eq_true (by omega), Int.toNat_natCast]
    cases s.testBit k <;> rfl
  · have e : hasB s d = false := by unfold hasB; rw [decide_eq_false hd]; rfl
    rw [e]
    clear e
    by_cases h0 : d < 0
    · go_enter Tryz.func36, Tryz.ntmps36
      go_wp2_with fail
      go_ret
      exact ⟨rfl, Below.refl _ _⟩
    · have h1 : 63 < d := by omega
      go_enter Tryz.func36, Tryz.ntmps36
      go_wp2_with fail
      go_ret
      exact ⟨rfl, Below.refl _ _⟩

theorem put_ref (s : Nat) (hs : s < 2 ^ 64) (d b : Int) (hb : b = 0 ∨ b = 1) (w : World) :
    Calls Tryz.prog 37 #[.int .u64 s, .int .i64 d, .int .i64 b] w fun e w' => e = .returned (.int .u64 (putN s d b : Int)) ∧ Below w.heap.size w w' := by
  by_cases hd : 0 ≤ d ∧ d ≤ 63
  · have e : putN s d b = num2 ((bitsL s).set d.toNat b) := by unfold putN; rw [if_pos hd]
    rw [e]
    clear e
    obtain ⟨d0, d1⟩ := hd
    obtain ⟨k, rfl⟩ : ∃ k : Nat, d = (k : Int) := ⟨d.toNat, by omega⟩
    have hk : k < 64 := by omega
    have HB := Go.Lib.hid (bits_any s hs)
    have HBB := Go.Lib.hid hb
    clear hb
    rw [Int.toNat_natCast]
    go_enter Tryz.func37, Tryz.ntmps37
    go_wp2_with (first
      | (go_at_call 62; refine (HB.out _).mono ?_; rintro e w1 ⟨g, rfl, M, B⟩; obtain ⟨c0, c1⟩ := M.cellIn hk; have hg := M.ge; have MM := Go.Lib.hid (M.put k b); clear M)
      | (go_at_call 64; refine (bnum_any _ _ _ _ MM.out.ints ((bitsL_bin s).put k HBB.out)).mono ?_; rintro e w' ⟨rfl, rfl⟩))
    go_ret
    exact ⟨rfl, B.setCell hg _⟩
  · have e : putN s d b = s := by unfold putN; rw [if_neg hd]
    rw [e]
    clear e
    by_cases h0 : d < 0
    · go_enter Tryz.func37, Tryz.ntmps37
      go_wp2_with fail
      go_ret
      exact ⟨rfl, Below.refl _ _⟩
    · have h1 : 63 < d := by omega
      go_enter Tryz.func37, Tryz.ntmps37
      go_wp2_with fail
      go_ret
      exact ⟨rfl, Below.refl _ _⟩

/-- A slice of these numbers comes back, new memory. -/
def IntsEnd (w : World) (xs : List Int) (e : Ending) (w' : World) : Prop := ∃ A c, e = .returned (.slice A xs.length c) ∧ Ints w' A xs.length xs ∧ xs.length ≤ c ∧ Below w.heap.size w w'

set_option maxHeartbeats 1000000 in
theorem all_ref (s : Nat) (hs : s < 2 ^ 64) (w : World) :
    Calls Tryz.prog 88 #[.int .u64 s] w (IntsEnd w (allI s)) := by
  obtain ⟨i0, hi, hz0, hz1, hz2⟩ := info_parts info_int
  have HB := Go.Lib.hid (bits_any s hs)
  clear hs
  go_enter Tryz.func88, Tryz.ntmps88
  go_wp2_with (go_at_call 62; refine (HB.out _).mono ?_; rintro e w1 ⟨g, rfl, M, B⟩)
  go_loopw [3, 5] (fun v iv wr => ∃ d : Nat, d ≤ 64 ∧ iv = .int .i64 d ∧ wr.ownsRow w1.heap.size 3 1 v (upTo s d).length ((upTo s d).map (Value.int .i64)) ∧ Below w1.heap.size w1 wr) (fun _ iv _ => 64 - (intOf iv).toNat)
  case atStart => exact ⟨0, Nat.zero_le _, rfl, World.ownsRow_nil _ _ _ _, Below.refl _ _⟩
  case round =>
    obtain ⟨d, hd, rfl, hown, hbl⟩ := hrel
    have hbz := hbl.size
    have hlen := upTo_len s d
    by_cases hlt : d < 64
    · have c0 := (hbl.cell (p := ⟨g, d, none⟩) (World.block_lt_of_cell? w1 _ (M.cellIn hlt).1)).trans (M.cellIn hlt).1
      rw [bitsL_getD hlt] at c0
      have HU := Go.Lib.hid (upTo_succ s d)
      obtain ⟨L, hL⟩ : ∃ L, (upTo s d).map (Value.int .i64) = L := ⟨_, rfl⟩
      obtain ⟨m, hm⟩ : ∃ m, (upTo s d).length = m := ⟨_, rfl⟩
      rw [hL, hm] at hown
      rw [hm] at hlen
      have HL := Go.Lib.hid hL
      have HM := Go.Lib.hid hm
      have MH := Go.Lib.hid M
      clear hL hm M
      cases hbit : s.testBit d
      · have HT := Go.Lib.hid hbit
        rw [hbit] at c0
        simp only [Bool.false_eq_true, if_false] at c0
        clear hbit
        go_wp2
        go_roundw
        case rel => exact ⟨d + 1, by omega, by go_num, by rw [HU.out, HT.out, if_neg (by decide), List.append_nil, HL.out, HM.out]; exact hown, hbl⟩
        case measure => simp [intOf]; omega
      · have HT := Go.Lib.hid hbit
        rw [hbit] at c0
        simp only [if_true] at c0
        clear hbit
        go_wp2_with (at_builtin; refine wpList_append_own _ rfl _ _ 43 rfl w1.heap.size 3 i0 (.int .i64 0) 1 8 Tryz.underlying43 hi hz0 hz1 hz2 rfl (by decide) _ _ _ rfl (hown.alloc _) ⟨wr.heap.size, 0, none⟩ 1 1 [.int .i64 d] rfl rfl (one_cell _ _ _) (one_ok _) (by unfold maxLen; omega) (by omega) (by simp; omega) ?_)
        intro v' w2 hown' hgrow _
        have R := (hbl.alloc hbz _).grown hgrow (by simp; omega) (own_ge hown)
        clear hgrow hown c0 hbl
        go_wp2
        go_roundw
        case rel => exact ⟨d + 1, by omega, by go_num, by rw [HU.out, HT.out, if_pos rfl, List.length_append, List.map_append, HL.out, HM.out]; exact hown', R⟩
        case measure => simp [intOf]; omega
    · obtain rfl : d = 64 := by omega
      obtain ⟨A, cp, rfl, hcp⟩ := own_form hown
      have hi2 := Ints.of_own hown
      go_wp2
      go_ret
      exact ⟨A, cp, rfl, hi2, hcp, B.trans (hbl.mono B.size)⟩
end Go.Proofs.YtliomhkgkabbbaaGreatDoor
end
section
/- What the document's functions on sets of days answer: the next day, a set's text, and whether two lists are the same. -/
namespace Go.Proofs.YtliomhkgkabbbaaGreatDoor
open Go.RowKit
set_option linter.unusedVariables false
set_option maxRecDepth 20000

theorem find_none_succ {xs : List Int} {k : Nat} {p : Int → Bool} (hk : k < xs.length) (h : (xs.take k).find? p = none) (hx : p (xs.getD k 0) = false) : (xs.take (k + 1)).find? p = none := by
  rw [List.getD_eq_getElem?_getD, List.getElem?_eq_getElem hk] at hx
  rw [List.take_succ_eq_append_getElem hk, List.find?_append, h]
  simpa using hx
theorem find_some_at {xs : List Int} {k : Nat} {p : Int → Bool} (hk : k < xs.length) (h : (xs.take k).find? p = none) (hx : p (xs.getD k 0) = true) : xs.find? p = some (xs.getD k 0) := by
  rw [List.getD_eq_getElem?_getD, List.getElem?_eq_getElem hk] at hx ⊢
  conv => lhs; rw [← List.take_append_drop k xs, List.drop_eq_getElem_cons hk]
  rw [List.find?_append, h, List.find?_cons]
  simp only [Option.getD_some] at hx
  rw [hx]
  rfl

set_option maxHeartbeats 1000000 in
theorem next_ref (s : Nat) (hs : s < 2 ^ 64) (d : Int) (w : World) :
    Calls Tryz.prog 63 #[.int .u64 s, .int .i64 d] w fun e w' => e = .returned (.int .i64 (nextI s d)) ∧ Below w.heap.size w w' := by
  have HA := Go.Lib.hid (all_ref s hs)
  have hlen := upTo_len s 64
  obtain ⟨xs, hxs⟩ : ∃ xs, allI s = xs := ⟨_, rfl⟩
  have hl : xs.length ≤ 64 := by rw [← hxs]; exact hlen
  have HX := Go.Lib.hid hxs
  rw [hxs] at HA
  clear hs hlen hxs
  go_enter Tryz.func63, Tryz.ntmps63
  go_wp2_with (go_at_call 88; refine (HA.out _).mono ?_; rintro e w1 ⟨A, c, rfl, M, hc, B⟩; obtain ⟨n, hn⟩ : ∃ n, xs.length = n := ⟨_, rfl⟩; rw [hn] at M hc hl ⊢; have HN := Go.Lib.hid hn; clear hn)
  go_loop [6] (fun iv => ∃ k : Nat, k ≤ n ∧ iv = .int .i64 k ∧ (xs.take k).find? (fun x => decide (d ≤ x)) = none) (fun iv => n - (intOf iv).toNat)
  case atStart => exact ⟨0, Nat.zero_le _, rfl, by simp⟩
  case round =>
    obtain ⟨k, hk, rfl, hf⟩ := hrel
    have HF := Go.Lib.hid hf
    clear hf
    by_cases hlt : k < n
    · obtain ⟨b, off, rfl, hcs⟩ := M.2 (by omega)
      have hck := hcs k hlt
      obtain ⟨x, hx⟩ : ∃ x, xs.getD k 0 = x := ⟨_, rfl⟩
      rw [hx] at hck
      have HXX := Go.Lib.hid hx
      have MM := Go.Lib.hid M
      clear hcs hx M
      by_cases hd : d ≤ x
      · go_wp2
        go_ret
        refine ⟨ret_int ?_, B⟩
        have := find_some_at (p := fun x => decide (d ≤ x)) (by rw [HN.out]; exact hlt) HF.out (by rw [HXX.out]; exact decide_eq_true hd)
        unfold nextI
        rw [HX.out, this, HXX.out]; rfl
      · go_wp2
        go_round
        case rel => exact ⟨k + 1, by omega, by go_num, find_none_succ (by rw [HN.out]; exact hlt) HF.out (by rw [HXX.out]; exact decide_eq_false hd)⟩
        case measure => simp [intOf]; omega
    · have MM := Go.Lib.hid M
      clear M
      go_wp2
      go_ret
      refine ⟨ret_int ?_, B⟩
      have := HF.out
      rw [List.take_of_length_le (by rw [HN.out]; omega)] at this
      unfold nextI
      rw [HX.out, this]; rfl

theorem eq_take_succ {xs ys : List Int} {k : Nat} (h : xs.take k = ys.take k) (hk : k < xs.length) (hk' : k < ys.length) (he : xs.getD k 0 = ys.getD k 0) : xs.take (k + 1) = ys.take (k + 1) := by
  rw [List.getD_eq_getElem?_getD, List.getD_eq_getElem?_getD, List.getElem?_eq_getElem hk, List.getElem?_eq_getElem hk'] at he
  have he' : xs[k] = ys[k] := by simpa using he
  rw [List.take_succ_eq_append_getElem hk, List.take_succ_eq_append_getElem hk', h, he']

set_option maxHeartbeats 1000000 in
theorem same_ref (A C : Option Addr) (n m c d : Nat) (xs ys : List Int) (w : World) (ha : Ints w A n xs) (hb : Ints w C m ys) (hn : n ≤ maxLen) (hm : m ≤ maxLen) :
    Calls Tryz.prog 34 #[.slice A n c, .slice C m d] w fun e w' => e = .returned (.bool (decide (xs = ys))) ∧ Below w.heap.size w w' := by
  unfold maxLen at hn hm
  by_cases hnm : n = m
  · subst hnm
    have HA := Go.Lib.hid ha
    have HC := Go.Lib.hid hb
    clear ha hb
    go_enter Tryz.func34, Tryz.ntmps34
    go_wp2
    go_loopw [5] (fun iv wr => ∃ k : Nat, k ≤ n ∧ iv = .int .i64 k ∧ xs.take k = ys.take k ∧ Below w.heap.size w wr) (fun iv _ => n - (intOf iv).toNat)
    case atStart => exact ⟨0, Nat.zero_le _, rfl, by simp, Below.refl _ _⟩
    case round =>
      obtain ⟨k, hk, rfl, he, B⟩ := hrel
      have HE := Go.Lib.hid he
      clear he
      by_cases hlt : k < n
      · obtain ⟨x, hx⟩ : ∃ x, xs.getD k 0 = x := ⟨_, rfl⟩
        obtain ⟨y, hy⟩ : ∃ y, ys.getD k 0 = y := ⟨_, rfl⟩
        obtain ⟨b1, o1, rfl, h1⟩ := (HA.out.keep B).2 (by omega)
        obtain ⟨b2, o2, rfl, h2⟩ := (HC.out.keep B).2 (by omega)
        have e1 := h1 k hlt
        have e2 := h2 k hlt
        rw [hx] at e1
        rw [hy] at e2
        have HX := Go.Lib.hid hx
        have HY := Go.Lib.hid hy
        have k0 : (0 : Int) ≤ (k : Int) := Int.natCast_nonneg _
        have k1 : (k : Int) < (n : Int) := by omega
        clear h1 h2 hx hy
        by_cases hxy : x = y
        · subst hxy
          go_wp2
          go_quiet (fail)
          go_wp2
          go_roundw
          case rel => exact ⟨k + 1, by omega, by go_num, eq_take_succ HE.out (by rw [HA.out.1]; exact hlt) (by rw [HC.out.1]; exact hlt) (by rw [HX.out, HY.out]), below_drewN B _⟩
          case measure => simp [intOf]; omega
        · have hb2 : (x == y) = false := beq_eq_false_iff_ne.2 hxy
          have HN := Go.Lib.hid hxy
          clear hxy
          go_wp2
          go_quiet (fail)
          go_wp2
          go_ret
          refine ⟨ret_bool (decide_eq_false ?_).symm, below_drewN B _⟩
          rintro rfl
          exact HN.out (HX.out.symm.trans HY.out)
      · go_wp2
        go_ret
        refine ⟨ret_bool (decide_eq_true ?_).symm, B⟩
        have := HE.out
        rwa [List.take_of_length_le (by rw [HA.out.1]; omega), List.take_of_length_le (by rw [HC.out.1]; omega)] at this
  · have e : decide (xs = ys) = false := decide_eq_false (by rintro rfl; exact hnm (ha.1.symm.trans hb.1))
    have hne : ((n : Int) == (m : Int)) = false := beq_eq_false_iff_ne.2 (by omega)
    rw [e]
    clear ha hb e
    go_enter Tryz.func34, Tryz.ntmps34
    go_wp2
    go_ret
    exact ⟨rfl, Below.refl _ _⟩

/-- A set's text for n days, as numbers. -/
def textI (s : Nat) (n : Nat) : List Int := (List.range n).map fun d => if s.testBit d then 49 else 48
theorem textI_succ (s n : Nat) : textI s (n + 1) = textI s n ++ [if s.testBit n then 49 else 48] := by
  unfold textI
  rw [List.range_succ, List.map_append]; rfl
theorem textI_len (s n : Nat) : (textI s n).length = n := by simp [textI]
/-- A set's text for n days. -/
def textB (s : Nat) (n : Int) : ByteArray := if 1 ≤ n ∧ n ≤ 64 then strOfNums (textI s n.toNat) else ByteArray.empty
theorem info_byte : (Tryz.prog.info? 5).map (fun i => (i.zero, i.size, i.bytes)) = some (some (.int .u8 0), 1, 1) := by kernel_rfl

set_option maxHeartbeats 1000000 in
theorem text_ref (s : Nat) (hs : s < 2 ^ 64) (n : Int) (w : World) :
    Calls Tryz.prog 31 #[.int .u64 s, .int .i64 n] w fun e w' => e = .returned (.string (textB s n)) ∧ Below w.heap.size w w' := by
  by_cases hn : 1 ≤ n ∧ n ≤ 64
  · have e : textB s n = strOfNums (textI s n.toNat) := by unfold textB; rw [if_pos hn]
    rw [e]
    clear e
    obtain ⟨n0, n1⟩ := hn
    obtain ⟨m, rfl⟩ : ∃ m : Nat, n = (m : Int) := ⟨n.toNat, by omega⟩
    rw [Int.toNat_natCast]
    obtain ⟨i0, hi, hz0, hz1, hz2⟩ := info_parts info_byte
    have HB := Go.Lib.hid (bits_any s hs)
    clear hs
    go_enter Tryz.func31, Tryz.ntmps31
    go_wp2_with (go_at_call 62; refine (HB.out _).mono ?_; rintro e w1 ⟨g, rfl, M, B⟩)
    go_loopw [5, 7] (fun v iv wr => ∃ d : Nat, d ≤ m ∧ iv = .int .i64 d ∧ wr.ownsRow w1.heap.size 5 1 v d ((textI s d).map (Value.int .u8)) ∧ Below w1.heap.size w1 wr) (fun _ iv _ => m - (intOf iv).toNat)
    case atStart => exact ⟨0, Nat.zero_le _, rfl, World.ownsRow_nil _ _ _ _, Below.refl _ _⟩
    case round =>
      obtain ⟨d, hd, rfl, hown, hbl⟩ := hrel
      have hbz := hbl.size
      by_cases hlt : d < m
      · have c0 := (hbl.cell (p := ⟨g, d, none⟩) (World.block_lt_of_cell? w1 _ (M.cellIn (j := d) (by omega)).1)).trans (M.cellIn (j := d) (by omega)).1
        rw [bitsL_getD (by omega)] at c0
        have HU := Go.Lib.hid (textI_succ s d)
        obtain ⟨L, hL⟩ : ∃ L, (textI s d).map (Value.int .u8) = L := ⟨_, rfl⟩
        rw [hL] at hown
        have HL := Go.Lib.hid hL
        have MH := Go.Lib.hid M
        clear hL M
        obtain ⟨x, hx⟩ : ∃ x : Int, (if s.testBit d then (1 : Int) else 0) = x := ⟨_, rfl⟩
        have hx2 : (if s.testBit d then (49 : Int) else 48) = 48 + x := by rw [← hx]; split <;> rfl
        have hxb : 0 ≤ x ∧ x ≤ 1 := by rw [← hx]; split <;> decide
        obtain ⟨x0, x1⟩ := hxb
        rw [hx] at c0
        have HX := Go.Lib.hid hx2
        clear hx hx2
        go_wp2_with (at_builtin; refine wpList_append_own _ rfl _ _ 47 rfl w1.heap.size 5 i0 (.int .u8 0) 1 1 Tryz.underlying47 hi hz0 hz1 hz2 rfl (by decide) _ _ _ rfl (hown.alloc _) ⟨wr.heap.size, 0, none⟩ 1 1 [.int .u8 (48 + x)] rfl rfl (one_cell _ _ _) (one_okK _ _) (by unfold maxLen; omega) (by omega) (by simp; omega) ?_)
        intro v' w2 hown' hgrow _
        have R := (hbl.alloc hbz _).grown hgrow (by simp; omega) (own_ge hown)
        clear hgrow hown c0 hbl
        go_wp2
        go_roundw
        case rel => exact ⟨d + 1, by omega, by go_num, by rw [HU.out, HX.out, List.map_append, HL.out]; exact hown', R⟩
        case measure => simp [intOf]; omega
      · obtain rfl : d = m := by omega
        obtain ⟨A, cp, rfl, hcp⟩ := own_form hown
        obtain ⟨b, off, rfl, hcs⟩ := (Nums.of_own hown).2 (by omega)
        have hcv := run_convert_bytes_arg (P := Tryz.prog) wr 47 5 Tryz.underlying47 Tryz.underlying5 b off d cp (textI s d) (textI_len s d) hcs 9 Tryz.underlying9
        clear hown hcs M
        go_wp2
        go_ret
        exact ⟨rfl, B.trans (hbl.mono B.size)⟩
  · have e : textB s n = ByteArray.empty := by unfold textB; rw [if_neg hn]
    rw [e]
    clear e
    by_cases h0 : n < 1
    · go_enter Tryz.func31, Tryz.ntmps31
      go_wp2_with fail
      go_ret
      exact ⟨rfl, Below.refl _ _⟩
    · have h1 : 64 < n := by omega
      go_enter Tryz.func31, Tryz.ntmps31
      go_wp2_with fail
      go_ret
      exact ⟨rfl, Below.refl _ _⟩
end Go.Proofs.YtliomhkgkabbbaaGreatDoor
end
section
/- Sets' texts: signs, what they are read as, and that a set's text is read as the set; nothing of the program. -/
namespace Go.Proofs.YtliomhkgkabbbaaGreatDoor
open Go.RowKit
set_option linter.unusedVariables false

theorem putN_out {s : Nat} {d b : Int} (hd : ¬ (0 ≤ d ∧ d ≤ 63)) : putN s d b = s := by unfold putN; rw [if_neg hd]
/-- The signs are all 0 and 1. -/
def okB (l : List UInt8) : Bool := l.all fun c => c == 48 || c == 49
/-- The bits of a text. -/
def bitsT (l : List UInt8) : List Int := l.map fun c => (c.toNat : Int) - 48
/-- What a text is read as: the set, and the error's number. -/
def parseV (l : List UInt8) : Nat × Int := if l = [] ∨ okB l = false then (0, 2) else if 64 < l.length then (0, 3) else (num2 (bitsT l), 0)
theorem okB_take {l : List UInt8} {k : Nat} (hk : k < l.length) (h : okB (l.take k) = true) (hc : l[k] = 48 ∨ l[k] = 49) : okB (l.take (k + 1)) = true := by
  unfold okB at h ⊢
  rw [List.take_succ_eq_append_getElem hk, List.all_append, h]
  rcases hc with e | e <;> simp [e]
theorem okB_bad {l : List UInt8} {k : Nat} (hk : k < l.length) (hc : ¬ (l[k] = 48 ∨ l[k] = 49)) : okB l = false := by
  unfold okB
  rw [List.all_eq_false]
  exact ⟨l[k], List.getElem_mem hk, by simpa using hc⟩
theorem num2_zeros (xs : List Int) (n : Nat) : num2 (xs ++ List.replicate n 0) = num2 xs := by
  induction xs with
  | nil =>
    induction n with
    | zero => rfl
    | succ n ih => simp only [List.nil_append, List.replicate_succ, num2] at ih ⊢; rw [ih]; rfl
  | cons b r ih => simp only [List.cons_append, num2, ih]
theorem bitsT_len (l : List UInt8) : (bitsT l).length = l.length := by simp [bitsT]
theorem bitsT_bin {l : List UInt8} (h : okB l = true) : Bin (bitsT l) := by
  intro b hb
  obtain ⟨c, hc, rfl⟩ := List.mem_map.1 hb
  have := (List.all_eq_true.1 h) c hc
  simp at this
  rcases this with rfl | rfl
  · exact .inl rfl
  · exact .inr rfl
theorem byte_48 {c : UInt8} : (c.toNat : Int) = 48 ↔ c = 48 := by
  constructor
  · intro h; apply UInt8.toNat_inj.1; show c.toNat = 48; omega
  · rintro rfl; rfl
theorem byte_49 {c : UInt8} : (c.toNat : Int) = 49 ↔ c = 49 := by
  constructor
  · intro h; apply UInt8.toNat_inj.1; show c.toNat = 49; omega
  · rintro rfl; rfl
theorem bits_fill (l : List UInt8) (k : Nat) (hk : k < l.length) (hl : l.length ≤ 64) :
    ((bitsT l).take (k + 1) ++ List.replicate (64 - (k + 1)) 0) = ((bitsT l).take k ++ List.replicate (64 - k) 0).set k ((l[k].toNat : Int) - 48) := by
  have hkb : k < (bitsT l).length := by rw [bitsT_len]; exact hk
  rw [List.take_succ_eq_append_getElem hkb, List.append_assoc, List.set_append_right _ _ (by rw [List.length_take_of_le (by omega)]; exact Nat.le_refl _), List.length_take_of_le (by omega), Nat.sub_self]
  congr 1
  rw [show 64 - k = (64 - (k + 1)) + 1 by omega, List.replicate_succ]
  simp [bitsT]

/-! ### A set's text is read from it -/
theorem textB_list {s m : Nat} (h : 1 ≤ m) (h' : m ≤ 64) : (textB s (m : Int)).data.toList = (textI s m).map fun n => UInt8.ofNat n.toNat := by
  unfold textB
  rw [if_pos ⟨by omega, by omega⟩, Int.toNat_natCast]; rfl
theorem textB_none {s : Nat} {n : Int} (h : ¬ (1 ≤ n ∧ n ≤ 64)) : textB s n = ByteArray.empty := by unfold textB; rw [if_neg h]
theorem textB_ok {s m : Nat} (h : 1 ≤ m) (h' : m ≤ 64) : okB (textB s (m : Int)).data.toList = true := by
  rw [textB_list h h', okB, List.all_eq_true]
  intro c hc
  obtain ⟨n, hn, rfl⟩ := List.mem_map.1 hc
  obtain ⟨d, _, rfl⟩ := List.mem_map.1 hn
  cases s.testBit d <;> rfl
theorem textB_bits {s m : Nat} (h : 1 ≤ m) (h' : m ≤ 64) : bitsT (textB s (m : Int)).data.toList = (List.range m).map fun d => if s.testBit d then 1 else 0 := by
  rw [textB_list h h', bitsT, textI, List.map_map, List.map_map]
  apply List.map_congr_left
  intro d _
  show ((UInt8.ofNat (if s.testBit d = true then (49 : Int) else 48).toNat).toNat : Int) - 48 = _
  cases s.testBit d <;> rfl
theorem parse_text {s m : Nat} (h : 1 ≤ m) (h' : m ≤ 64) : ∃ x : Nat, parseV (textB s (m : Int)).data.toList = (x, 0) ∧ x < 2 ^ 64 ∧ ∀ d : Nat, d < 64 → hasB x (d : Int) = (decide ((d : Int) < (m : Int)) && hasB s (d : Int)) := by
  have hl : (textB s (m : Int)).data.toList.length = m := by rw [textB_list h h', List.length_map, textI_len]
  refine ⟨num2 (bitsT (textB s (m : Int)).data.toList), ?_, ?_, ?_⟩
  · unfold parseV
    rw [if_neg (not_or.2 ⟨fun e => by rw [e] at hl; simp at hl; omega, by rw [textB_ok h h']; decide⟩), if_neg (by omega)]
  · have := num2_lt (bitsT (textB s (m : Int)).data.toList)
    rw [bitsT_len, hl] at this
    exact Nat.lt_of_lt_of_le this (Nat.pow_le_pow_right (by decide) h')
  · intro d hd
    unfold hasB
    rw [num2_bit, textB_bits h h', Int.toNat_natCast, decide_eq_true (show 0 ≤ (d : Int) ∧ (d : Int) ≤ 63 by omega), Bool.true_and, Bool.true_and, List.getD_eq_getElem?_getD]
    by_cases hdm : d < m
    · rw [List.getElem?_map, List.getElem?_range hdm, decide_eq_true (show (d : Int) < (m : Int) by omega)]
      show decide ((if s.testBit d = true then (1 : Int) else 0) = 1) = (true && s.testBit d)
      cases s.testBit d <;> rfl
    · rw [List.getElem?_eq_none (by simp; omega), decide_eq_false (show ¬ (d : Int) < (m : Int) by omega)]; rfl

end Go.Proofs.YtliomhkgkabbbaaGreatDoor
end
section
/- What Has, With, Without, Text and Parse of package days must answer: each as a statement of its own. -/
namespace Go.Proofs.YtliomhkgkabbbaaGreatDoor
open Go.RowKit
set_option linter.unusedVariables false
def HasOk : Prop := ∀ (s : Nat) (d : Int) (w : World), s < 2 ^ 64 → (Lit.int .i64 d).wf = true →
  Calls Tryz.prog 74 #[.int .u64 s, .int .i64 d] w fun e w' => e = .returned (.bool (hasB s d)) ∧ Below w.heap.size w w'
def WithOk : Prop := ∀ (s : Nat) (d : Int) (w : World), s < 2 ^ 64 → (Lit.int .i64 d).wf = true →
  Calls Tryz.prog 97 #[.int .u64 s, .int .i64 d] w fun e w' => e = .returned (.int .u64 (putN s d 1 : Int)) ∧ Below w.heap.size w w'
def TextOk : Prop := ∀ (s : Nat) (n : Int) (w : World), s < 2 ^ 64 → (Lit.int .i64 n).wf = true →
  Calls Tryz.prog 46 #[.int .u64 s, .int .i64 n] w fun e w' => e = .returned (.string (textB s n)) ∧ Below w.heap.size w w'
def ParseOk : Prop := ∀ (t : ByteArray) (w : World), t.size ≤ maxLen →
  Calls Tryz.prog 83 #[.string t] w fun e w' => e = .returned (.tuple #[.int .u64 ((parseV t.data.toList).1 : Int), .int .i64 (parseV t.data.toList).2]) ∧ Below w.heap.size w w'
end Go.Proofs.YtliomhkgkabbbaaGreatDoor
end
section
/- The document's Same, for two slices of numbers. -/
namespace Go.Proofs.YtliomhkgkabbbaaGreatDoor.SameI
open Go.RowKit
set_option linter.unusedVariables false
theorem below_drewN {B : Nat} {a w : World} (h : Below B a w) (n : Nat) : Below B a (w.drewN n) := ⟨h.os, h.tape, h.output, h.size, h.block⟩
theorem eq_take_succ {xs ys : List Int} {k : Nat} (h : xs.take k = ys.take k) (hk : k < xs.length) (hk' : k < ys.length) (he : xs.getD k 0 = ys.getD k 0) : xs.take (k + 1) = ys.take (k + 1) := by
  rw [List.getD_eq_getElem?_getD, List.getD_eq_getElem?_getD, List.getElem?_eq_getElem hk, List.getElem?_eq_getElem hk'] at he
  have he' : xs[k] = ys[k] := by simpa using he
  rw [List.take_succ_eq_append_getElem hk, List.take_succ_eq_append_getElem hk', h, he']

set_option maxHeartbeats 1000000 in
theorem same_ref (A C : Option Addr) (n m c d : Nat) (xs ys : List Int) (w : World) (ha : Ints w A n xs) (hb : Ints w C m ys) (hn : n ≤ maxLen) (hm : m ≤ maxLen) :
    Calls Tryz.prog 34 #[.slice A n c, .slice C m d] w fun e w' => e = .returned (.bool (decide (xs = ys))) ∧ Below w.heap.size w w' := by
  unfold maxLen at hn hm
  by_cases hnm : n = m
  · subst hnm
    have HA := Go.Lib.hid ha
    have HC := Go.Lib.hid hb
    clear ha hb
    go_enter Tryz.func34, Tryz.ntmps34
    go_wp2
    go_loopw [5] (fun iv wr => ∃ k : Nat, k ≤ n ∧ iv = .int .i64 k ∧ xs.take k = ys.take k ∧ Below w.heap.size w wr) (fun iv _ => n - (intOf iv).toNat)
    case atStart => exact ⟨0, Nat.zero_le _, rfl, by simp, Below.refl _ _⟩
    case round =>
      obtain ⟨k, hk, rfl, he, B⟩ := hrel
      have HE := Go.Lib.hid he
      clear he
      by_cases hlt : k < n
      · obtain ⟨x, hx⟩ : ∃ x, xs.getD k 0 = x := ⟨_, rfl⟩
        obtain ⟨y, hy⟩ : ∃ y, ys.getD k 0 = y := ⟨_, rfl⟩
        obtain ⟨b1, o1, rfl, h1⟩ := (HA.out.keep B).2 (by omega)
        obtain ⟨b2, o2, rfl, h2⟩ := (HC.out.keep B).2 (by omega)
        have e1 := h1 k hlt
        have e2 := h2 k hlt
        rw [hx] at e1
        rw [hy] at e2
        have HX := Go.Lib.hid hx
        have HY := Go.Lib.hid hy
        have k0 : (0 : Int) ≤ (k : Int) := Int.natCast_nonneg _
        have k1 : (k : Int) < (n : Int) := by omega
        clear h1 h2 hx hy
        by_cases hxy : x = y
        · subst hxy
          go_wp2
          go_quiet (fail)
          go_wp2
          go_roundw
          case rel => exact ⟨k + 1, by omega, by go_num, eq_take_succ HE.out (by rw [HA.out.1]; exact hlt) (by rw [HC.out.1]; exact hlt) (by rw [HX.out, HY.out]), below_drewN B _⟩
          case measure => simp [intOf]; omega
        · have hb2 : (x == y) = false := beq_eq_false_iff_ne.2 hxy
          have HN := Go.Lib.hid hxy
          clear hxy
          go_wp2
          go_quiet (fail)
          go_wp2
          go_ret
          refine ⟨ret_bool (decide_eq_false ?_).symm, below_drewN B _⟩
          rintro rfl
          exact HN.out (HX.out.symm.trans HY.out)
      · go_wp2
        go_ret
        refine ⟨ret_bool (decide_eq_true ?_).symm, B⟩
        have := HE.out
        rwa [List.take_of_length_le (by rw [HA.out.1]; omega), List.take_of_length_le (by rw [HC.out.1]; omega)] at this
  · have e : decide (xs = ys) = false := decide_eq_false (by rintro rfl; exact hnm (ha.1.symm.trans hb.1))
    have hne : ((n : Int) == (m : Int)) = false := beq_eq_false_iff_ne.2 (by omega)
    rw [e]
    clear ha hb e
    go_enter Tryz.func34, Tryz.ntmps34
    go_wp2
    go_ret
    exact ⟨rfl, Below.refl _ _⟩

end Go.Proofs.YtliomhkgkabbbaaGreatDoor.SameI
end
