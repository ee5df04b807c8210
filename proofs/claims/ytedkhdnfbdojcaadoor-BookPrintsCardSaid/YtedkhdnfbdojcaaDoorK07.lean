import Derived.Test.YtedkhdnfbdojcaaDoorK04
import Derived.Deep.Strs
import Derived.Deep.Fields
import Derived.Deep.Slices
import Derived.ChangeArms
section
/- Arguments opened: slices of texts, slices of records of numbers; nothing of the program. -/
namespace Go.Proofs.YtedkhdnfbdojcaaDoor
open Go.RowKit Go.ChangeShapes Go.WideShapes
set_option linter.unusedVariables false
/-- A slice that reads as these texts. -/
def Texts (w : World) (A : Option Addr) (n : Nat) (S : Nat → ByteArray) : Prop :=
  (0 < n → ∃ b off, A = some ⟨b, off, none⟩ ∧ ∀ k, k < n → w.cell? ⟨b, off + k, none⟩ = some (.string (S k))) ∧ ∀ k, k < n → (S k).size ≤ maxLen
theorem Texts.keep {w w' : World} {A : Option Addr} {n : Nat} {S : Nat → ByteArray} (h : Texts w A n S) (hb : Below w.heap.size w w') : Texts w' A n S := by
  refine ⟨fun hn => ?_, h.2⟩
  obtain ⟨b, off, e, hc⟩ := h.1 hn
  refine ⟨b, off, e, fun k hk => ?_⟩
  have hl := World.block_lt_of_cell? w _ (hc k hk)
  exact (hb.cell (p := ⟨b, off + k, none⟩) hl).trans (hc k hk)
theorem Texts.cut {w : World} {A : Option Addr} {n m : Nat} {S : Nat → ByteArray} (h : Texts w A n S) (hm : m ≤ n) : Texts w A m S :=
  ⟨fun h0 => by obtain ⟨b, off, e, hc⟩ := h.1 (by omega); exact ⟨b, off, e, fun k hk => hc k (by omega)⟩, fun k hk => h.2 k (by omega)⟩
/-- A slice that reads as these records of s numbers each: record k's number j is f k j. -/
def Recs (s : Nat) (w : World) (A : Option Addr) (n : Nat) (f : Nat → Nat → Int) : Prop :=
  (0 < n → ∃ b off, A = some ⟨b, off, none⟩ ∧ ∀ k j, k < n → j < s → w.cell? ⟨b, off + k * s + j, none⟩ = some (.int .i64 (f k j))) ∧ ∀ k j, k < n → j < s → (Lit.int .i64 (f k j)).wf = true
theorem Recs.keep {s : Nat} {w w' : World} {A : Option Addr} {n : Nat} {f : Nat → Nat → Int} (h : Recs s w A n f) (hb : Below w.heap.size w w') : Recs s w' A n f := by
  refine ⟨fun hn => ?_, h.2⟩
  obtain ⟨b, off, e, hc⟩ := h.1 hn
  refine ⟨b, off, e, fun k j hk hj => ?_⟩
  have hl := World.block_lt_of_cell? w _ (hc k j hk hj)
  exact (hb.cell (p := ⟨b, off + k * s + j, none⟩) hl).trans (hc k j hk hj)
theorem Recs.cut {s : Nat} {w : World} {A : Option Addr} {n m : Nat} {f : Nat → Nat → Int} (h : Recs s w A n f) (hm : m ≤ n) : Recs s w A m f :=
  ⟨fun h0 => by obtain ⟨b, off, e, hc⟩ := h.1 (by omega); exact ⟨b, off, e, fun k j hk => hc k j (by omega)⟩, fun k j hk => h.2 k j (by omega)⟩
section
variable {H : Type} {enc : TypeId × Value → H} {P : Program} {w : World} {base : Nat}
theorem addr_plain {a : Addr} {i : Nat} {v : Value} (h : w.cell? (a.add i) = some v) (hi : i = 0) : ∃ b off, a = ⟨b, off, none⟩ := by
  obtain ⟨b, off, spot⟩ := a
  subst hi
  have hspot : spot = none := by simpa [Addr.add] using World.cell?_spot h
  subst hspot
  exact ⟨b, off, rfl⟩
theorem plain_add (b off i : Nat) : (⟨b, off, none⟩ : Addr).add i = ⟨b, off + i, none⟩ := by
  unfold Addr.add; split <;> simp_all
/-- Whatever a slice of texts reads as. -/
theorem texts_of_trod {t e : TypeId} {v : Value} {d : DataW H} {p : List MemPlace} (ht : P.underlying t = some (.slice e)) (he : P.underlying e = some .string) (hc : P.cellsOf e = 1)
    (h : DataW.Trod enc P w base (fun _ => true) true t v d p) (hv : ∃ A n c, v = .slice A n c) : ∃ A n c S, v = .slice A n c ∧ n ≤ c ∧ c ≤ maxLen ∧ Texts w A n S := by
  obtain ⟨A, n, c, rfl⟩ := hv
  obtain ⟨fuel, hf⟩ := h
  rcases Go.Deep.open_strs ht he hc hf with ⟨hcs, _⟩ | ⟨a, len, cap, m, Sx, hcs, _, hl, hm, hmm, _, hx⟩
  · simp [Value.cells] at hcs
    obtain ⟨rfl, rfl, rfl⟩ := hcs
    exact ⟨none, 0, 0, fun _ => ⟨#[]⟩, rfl, Nat.le_refl _, Nat.zero_le _, (fun h => absurd h (by omega)), fun k hk => absurd hk (by omega)⟩
  · simp [Value.cells] at hcs
    obtain ⟨rfl, rfl, rfl⟩ := hcs
    rw [if_pos rfl] at hmm
    refine ⟨some a, n, c, Sx, rfl, hl, hm, fun hn => ?_, fun k hk => (hx k (by omega)).2⟩
    obtain ⟨b, off, rfl⟩ := addr_plain (hx 0 (by omega)).1 rfl
    refine ⟨b, off, rfl, fun k hk => ?_⟩
    rw [← plain_add]
    exact (hx k (by omega)).1
/-- Whatever a slice of records of numbers reads as. -/
theorem recs_of_trod {t e : TypeId} {fs : Array Field} {v : Value} {d : DataW H} {p : List MemPlace} (ht : P.underlying t = some (.slice e)) (he : P.underlying e = some (.struct fs)) (hc : P.cellsOf e = fs.size) (h0 : 0 < fs.size)
    (hfs : ∀ (j : Nat) (f : Field), fs[j]? = some f → P.underlying f.type = some (.int .i64) ∧ f.offset = j ∧ P.cellsOf f.type = 1)
    (h : DataW.Trod enc P w base (fun _ => true) true t v d p) (hv : ∃ A n c, v = .slice A n c) : ∃ A n c f, v = .slice A n c ∧ n ≤ c ∧ c ≤ maxLen ∧ Recs fs.size w A n f := by
  obtain ⟨A, n, c, rfl⟩ := hv
  obtain ⟨fuel, hf⟩ := h
  rcases Go.Deep.open_slice ht hf with ⟨hcs, _⟩ | ⟨a, len, cap, m, fu, D, Pl, hcs, _, hl, hm, hmm, _, hx⟩
  · simp [Value.cells] at hcs
    obtain ⟨rfl, rfl, rfl⟩ := hcs
    exact ⟨none, 0, 0, fun _ _ => 0, rfl, Nat.le_refl _, Nat.zero_le _, (fun h => absurd h (by omega)), fun k j hk => absurd hk (by omega)⟩
  · simp [Value.cells] at hcs
    obtain ⟨rfl, rfl, rfl⟩ := hcs
    rw [if_pos rfl] at hmm
    have each : ∀ k j, k < n → j < fs.size → ∃ z, w.cell? (a.add (k * fs.size + j)) = some (.int .i64 z) ∧ (Lit.int .i64 z).wf = true := by
      intro k j hk hj
      obtain ⟨cs', h1, h2⟩ := hx k (by omega)
      rw [hc] at h1
      obtain ⟨_, g1, g2⟩ := World.cells?_some h1
      obtain ⟨ys, n', _, _, _, hyl, hg⟩ := DataW.trod_struct he h2
      have hfj : fs[j]? = some fs[j] := Array.getElem?_eq_getElem hj
      obtain ⟨f1, f2, f3⟩ := hfs j _ hfj
      have h3 := hg j _ hfj
      rw [f2, f3, List.getElem?_eq_getElem (by omega : j < ys.length)] at h3
      obtain ⟨z, e1, _, e3⟩ := DataW.trod_int f1 h3
      refine ⟨z, ?_, e3⟩
      have h4 := g2 j hj
      have h5 : cs'[j]? = some (.int .i64 z) := by
        have := congrArg (·[0]?) e1
        simpa using this
      rw [h5] at h4
      rw [← h4, ← Go.Deep.add_add]
    have hch : ∃ f : Nat → Nat → Int, ∀ k j, k < n → j < fs.size → w.cell? (a.add (k * fs.size + j)) = some (.int .i64 (f k j)) ∧ (Lit.int .i64 (f k j)).wf = true := by
      refine ⟨fun k j => match w.cell? (a.add (k * fs.size + j)) with | some (.int _ z) => z | _ => 0, fun k j hk hj => ?_⟩
      obtain ⟨z, h1, h2⟩ := each k j hk hj
      simp only [h1]
      exact ⟨trivial, h2⟩
    obtain ⟨f, hf⟩ := hch
    refine ⟨some a, n, c, f, rfl, hl, hm, fun hn => ?_, fun k j hk hj => (hf k j hk hj).2⟩
    obtain ⟨b, off, rfl⟩ := addr_plain (hf 0 0 hn h0).1 (by simp)
    refine ⟨b, off, rfl, fun k j hk hj => ?_⟩
    have := (hf k j hk hj).1
    rw [plain_add, ← Nat.add_assoc] at this
    exact this
end
end Go.Proofs.YtedkhdnfbdojcaaDoor
end
section
/- Arguments opened: slices of structs, whatever their cells read as. -/
namespace Go.Proofs.YtedkhdnfbdojcaaDoor
open Go.RowKit Go.ChangeShapes Go.WideShapes
set_option linter.unusedVariables false
theorem list_of {α : Type} : ∀ {n : Nat} {Q : Nat → α → Prop}, (∀ i, i < n → ∃ a, Q i a) → ∃ l : List α, l.length = n ∧ ∀ i (hi : i < l.length), Q i l[i]
  | 0, _, _ => ⟨[], rfl, fun i hi => absurd hi (by simp)⟩
  | n + 1, Q, h => by
    obtain ⟨l, h1, h2⟩ := list_of (n := n) (Q := Q) fun i hi => h i (by omega)
    obtain ⟨a, ha⟩ := h n (by omega)
    refine ⟨l ++ [a], by simp [h1], fun i hi => ?_⟩
    by_cases e : i < l.length
    · rw [List.getElem_append_left e]; exact h2 i e
    · have : i = n := by simp at hi; omega
      subst this
      rw [List.getElem_append_right (by omega)]
      simpa [h1] using ha
section
variable {H : Type} {enc : TypeId × Value → H} {w : World}
/-- Whatever a slice of numbers reads as. -/
theorem nums_open {t e : TypeId} {k : IntKind} {v : Value} {fuel : Nat} {x : DataW H × List MemPlace} (ht : Tryd.prog.underlying t = some (.slice e)) (he : Tryd.prog.underlying e = some (.int k)) (hc : Tryd.prog.cellsOf e = 1)
    (h : DataW.trod enc Tryd.prog w 0 (fun _ => true) true fuel t [v] = some x) : ∃ A n c xs, v = .slice A n c ∧ n ≤ c ∧ c ≤ maxLen ∧ Nums k w A n xs ∧ ∀ z ∈ xs, (Lit.int k z).wf = true := by
  rcases Go.Deep.open_slice1 ht hc h with ⟨hcs, _⟩ | ⟨a, len, cap, m, n, V, D, Pl, hcs, _, hl, hm, hmm, _, hx⟩
  · simp at hcs
    subst hcs
    exact ⟨none, 0, 0, [], rfl, Nat.le_refl _, Nat.zero_le _, Nums.nil _ _ _, fun z hz => by simp at hz⟩
  · simp at hcs
    subst hcs
    rw [if_pos rfl] at hmm
    have each : ∀ i, i < len → ∃ z, w.cell? (a.add i) = some (.int k z) ∧ (Lit.int k z).wf = true := fun i hi => by
      obtain ⟨h1, h2⟩ := hx i (by omega)
      obtain ⟨z, e1, _, e3⟩ := DataW.trod_int he h2
      simp at e1
      exact ⟨z, by rw [h1, e1], e3⟩
    obtain ⟨xs, hxl, hxs⟩ := list_of each
    refine ⟨some a, len, cap, xs, rfl, hl, hm, ⟨hxl, fun h0 => ?_⟩, fun z hz => ?_⟩
    · obtain ⟨b, off, rfl⟩ := addr_plain (hxs 0 (by omega)).1 rfl
      refine ⟨b, off, rfl, fun j hj => ?_⟩
      have := (hxs j (by omega)).1
      rw [plain_add] at this
      rw [getD_in _ _ (by omega)]
      exact this
    · obtain ⟨i, hi, rfl⟩ := List.getElem_of_mem hz
      exact (hxs i hi).2
theorem take_one_at {cs : List Value} {i : Nat} (hi : i < cs.length) : (cs.drop i).take 1 = [cs[i]] := by
  rw [List.drop_eq_getElem_cons hi]; rfl
/-- One field of one cell. -/
theorem field_one {T : TypeId} {fs : Array Field} {cs : List Value} {xs : List (DataW H × List MemPlace)} {n : Nat} (hl : xs.length = fs.size)
    (hf : ∀ (i : Nat) (f : Field), fs[i]? = some f → DataW.trod enc Tryd.prog w 0 (fun _ => true) true n f.type (List.take (Tryd.prog.cellsOf f.type) (List.drop f.offset cs)) = xs[i]?)
    {i : Nat} {f : Field} (h1 : fs[i]? = some f) (ho : f.offset = i) (hc : Tryd.prog.cellsOf f.type = 1) (hi : i < cs.length) : ∃ x, DataW.trod enc Tryd.prog w 0 (fun _ => true) true n f.type [cs[i]] = some x := by
  have h2 := hf i f h1
  rw [ho, hc, take_one_at hi] at h2
  have : i < xs.length := by rw [hl]; exact (Array.getElem?_eq_some_iff.1 h1).1
  rw [List.getElem?_eq_getElem this] at h2
  exact ⟨_, h2⟩
/-- A slice whose things, of z cells each, read as some. -/
theorem slice_open {α : Type} (z : Nat) (R : Nat → Nat → α → Prop) {t e : TypeId} {v : Value} {fuel : Nat} {x : DataW H × List MemPlace} (ht : Tryd.prog.underlying t = some (.slice e)) (hz : Tryd.prog.cellsOf e = z) (h0 : 0 < z)
    (h : DataW.trod enc Tryd.prog w 0 (fun _ => true) true fuel t [v] = some x)
    (hR : ∀ (b o fuel : Nat) (cs : List Value) (x : DataW H × List MemPlace), cs.length = z → (∀ j, j < z → w.cell? ⟨b, o + j, none⟩ = cs[j]?) → DataW.trod enc Tryd.prog w 0 (fun _ => true) true fuel e cs = some x → ∃ a, R b o a) :
    ∃ (A : Option Addr) (c : Nat) (l : List α), v = .slice A l.length c ∧ l.length ≤ c ∧ c ≤ maxLen ∧ ∀ i (hi : i < l.length), ∃ b off, A = some ⟨b, off, none⟩ ∧ R b (off + i * z) l[i] := by
  rcases Go.Deep.open_slice ht h with ⟨hcs, _⟩ | ⟨a, len, cap, m, n, D, Pl, hcs, _, hl, hm, hmm, _, hx⟩
  · simp only [List.cons.injEq, and_true] at hcs
    exact ⟨none, 0, [], hcs, Nat.le_refl _, Nat.zero_le _, fun i hi => absurd hi (by simp)⟩
  · simp only [List.cons.injEq, and_true] at hcs
    rw [if_pos rfl] at hmm
    have len_of : ∀ i, i < len → ∃ cs' x', cs'.length = z ∧ (∀ j, j < z → w.cell? ((a.add (i * z)).add j) = cs'[j]?) ∧ DataW.trod enc Tryd.prog w 0 (fun _ => true) true n e cs' = some x' := fun i hi => by
      obtain ⟨cs', h1, h2⟩ := hx i (by omega)
      rw [hz] at h1
      obtain ⟨_, g1, g2⟩ := World.cells?_some h1
      exact ⟨cs', _, g1, g2, h2⟩
    have hp : 0 < len → ∃ b off, a = ⟨b, off, none⟩ := fun hl0 => by
      obtain ⟨cs', _, g1, g2, _⟩ := len_of 0 hl0
      have g0 := g2 0 h0
      rw [Go.Deep.add_add, List.getElem?_eq_getElem (by omega : 0 < cs'.length)] at g0
      exact addr_plain g0 (by omega)
    have each : ∀ i, i < len → ∃ q : α, ∃ b off, a = ⟨b, off, none⟩ ∧ R b (off + i * z) q := fun i hi => by
      obtain ⟨cs', x', g1, g2, g3⟩ := len_of i hi
      obtain ⟨b, off, rfl⟩ := hp (by omega)
      obtain ⟨q, hq⟩ := hR b (off + i * z) n cs' x' g1 (fun j hj => by
        have := g2 j hj
        rw [plain_add, plain_add] at this
        exact this) g3
      exact ⟨q, b, off, rfl, hq⟩
    obtain ⟨l, hll, hls⟩ := list_of each
    subst hll
    refine ⟨some a, cap, l, hcs, hl, hm, fun i hi => ?_⟩
    obtain ⟨b, off, q0, q1⟩ := hls i hi
    exact ⟨b, off, by rw [q0], q1⟩
end
end Go.Proofs.YtedkhdnfbdojcaaDoor
end
