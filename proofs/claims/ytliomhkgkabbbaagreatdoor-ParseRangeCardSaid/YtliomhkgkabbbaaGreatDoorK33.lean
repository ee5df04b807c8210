import Derived.Test.YtliomhkgkabbbaaGreatDoorK04
import Derived.Test.YtliomhkgkabbbaaGreatDoorK32
import Derived.Deep.Slices
import Derived.ChangeArms
section
/- An instance that comes in, opened: whatever it reads as is an instance in memory. -/
namespace Go.Proofs.YtliomhkgkabbbaaGreatDoor
open Go.RowKit Go.ChangeShapes Go.WideShapes
set_option linter.unusedVariables false
set_option maxRecDepth 20000
theorem list_of {α : Type} : ∀ {n : Nat} {Q : Nat → α → Prop}, (∀ i, i < n → ∃ a, Q i a) → ∃ l : List α, l.length = n ∧ ∀ i (hi : i < l.length), Q i l[i]
  | 0, _, _ => ⟨[], rfl, fun i hi => absurd hi (by simp)⟩
  | n + 1, Q, h => by
    obtain ⟨l, h1, h2⟩ := list_of (n := n) (Q := Q) fun i hi => h i (by omega)
    obtain ⟨a, ha⟩ := h n (by omega)
    refine ⟨l ++ [a], by simp [h1], fun i hi => ?_⟩
    by_cases e : i < l.length
    · rw [List.getElem_append_left e]; exact h2 i e
    · have : i = n := by simp at hi; omega
      subst this
      rw [List.getElem_append_right (by omega)]
      simpa [h1] using ha
section
variable {H : Type} {enc : TypeId × Value → H} {w : World}
/-- Whatever a slice of numbers reads as. -/
theorem nums_open {t e : TypeId} {k : IntKind} {v : Value} {fuel : Nat} {x : DataW H × List MemPlace} (ht : Tryz.prog.underlying t = some (.slice e)) (he : Tryz.prog.underlying e = some (.int k)) (hc : Tryz.prog.cellsOf e = 1)
    (h : DataW.trod enc Tryz.prog w 0 (fun _ => true) true fuel t [v] = some x) : ∃ A n c xs, v = .slice A n c ∧ n ≤ c ∧ c ≤ maxLen ∧ Nums k w A n xs ∧ ∀ z ∈ xs, (Lit.int k z).wf = true := by
  rcases Go.Deep.open_slice1 ht hc h with ⟨hcs, _⟩ | ⟨a, len, cap, m, n, V, D, Pl, hcs, _, hl, hm, hmm, _, hx⟩
  · simp at hcs
    subst hcs
    exact ⟨none, 0, 0, [], rfl, Nat.le_refl _, Nat.zero_le _, Nums.nil _ _ _, fun z hz => by simp at hz⟩
  · simp at hcs
    subst hcs
    rw [if_pos rfl] at hmm
    have each : ∀ i, i < len → ∃ z, w.cell? (a.add i) = some (.int k z) ∧ (Lit.int k z).wf = true := fun i hi => by
      obtain ⟨h1, h2⟩ := hx i (by omega)
      obtain ⟨z, e1, _, e3⟩ := DataW.trod_int he h2
      simp at e1
      exact ⟨z, by rw [h1, e1], e3⟩
    obtain ⟨xs, hxl, hxs⟩ := list_of each
    refine ⟨some a, len, cap, xs, rfl, hl, hm, ⟨hxl, fun h0 => ?_⟩, fun z hz => ?_⟩
    · obtain ⟨b, off, rfl⟩ := addr_plain (hxs 0 (by omega)).1 rfl
      refine ⟨b, off, rfl, fun j hj => ?_⟩
      have := (hxs j (by omega)).1
      rw [plain_add] at this
      rw [getD_in _ _ (by omega)]
      exact this
    · obtain ⟨i, hi, rfl⟩ := List.getElem_of_mem hz
      exact (hxs i hi).2
theorem take_one_at {cs : List Value} {i : Nat} (hi : i < cs.length) : (cs.drop i).take 1 = [cs[i]] := by
  rw [List.drop_eq_getElem_cons hi]; rfl
/-- One field of one cell. -/
theorem field_one {T : TypeId} {fs : Array Field} {cs : List Value} {xs : List (DataW H × List MemPlace)} {n : Nat} (hl : xs.length = fs.size)
    (hf : ∀ (i : Nat) (f : Field), fs[i]? = some f → DataW.trod enc Tryz.prog w 0 (fun _ => true) true n f.type (List.take (Tryz.prog.cellsOf f.type) (List.drop f.offset cs)) = xs[i]?)
    {i : Nat} {f : Field} (h1 : fs[i]? = some f) (ho : f.offset = i) (hc : Tryz.prog.cellsOf f.type = 1) (hi : i < cs.length) : ∃ x, DataW.trod enc Tryz.prog w 0 (fun _ => true) true n f.type [cs[i]] = some x := by
  have h2 := hf i f h1
  rw [ho, hc, take_one_at hi] at h2
  have : i < xs.length := by rw [hl]; exact (Array.getElem?_eq_some_iff.1 h1).1
  rw [List.getElem?_eq_getElem this] at h2
  exact ⟨_, h2⟩
theorem cust_open {b o fuel : Nat} {cs : List Value} {x : DataW H × List MemPlace} (hl : cs.length = 8) (hc : ∀ j, j < 8 → w.cell? ⟨b, o + j, none⟩ = cs[j]?)
    (h : DataW.trod enc Tryz.prog w 0 (fun _ => true) true fuel 41 cs = some x) : ∃ c P k, CustAt w b o c P k ∧ Nums .u64 w P c.pats.length c.pats ∧ c.pats.length ≤ k ∧ c.Wf := by
  obtain ⟨xs, n, _, _, _, hxl, hf⟩ := DataW.trod_struct Tryz.underlying41 h
  have F := fun i f h1 ho hc' hi => field_one (T := 41) hxl hf (i := i) (f := f) h1 ho hc' hi
  have I : ∀ i (hi : i < cs.length) f, (Tryz.prog.underlying f = some (.int .i64)) → (∃ x, DataW.trod enc Tryz.prog w 0 (fun _ => true) true n f [cs[i]] = some x) → ∃ z, cs[i] = .int .i64 z ∧ W64 z := fun i hi f hu ⟨x, hx⟩ => by
    obtain ⟨z, e1, _, e3⟩ := DataW.trod_int hu hx
    exact ⟨z, by simpa using e1, wf_iff.1 e3⟩
  obtain ⟨z0, e0, w0⟩ := I 0 (by omega) _ Tryz.underlying3 (F 0 _ rfl (by kernel_rfl) (by kernel_rfl) (by omega))
  obtain ⟨z1, e1, w1⟩ := I 1 (by omega) _ Tryz.underlying3 (F 1 _ rfl (by kernel_rfl) (by kernel_rfl) (by omega))
  obtain ⟨z3, e3, w3⟩ := I 3 (by omega) _ Tryz.underlying3 (F 3 _ rfl (by kernel_rfl) (by kernel_rfl) (by omega))
  obtain ⟨z4, e4, w4⟩ := I 4 (by omega) _ Tryz.underlying3 (F 4 _ rfl (by kernel_rfl) (by kernel_rfl) (by omega))
  obtain ⟨z5, e5, w5⟩ := I 5 (by omega) _ Tryz.underlying3 (F 5 _ rfl (by kernel_rfl) (by kernel_rfl) (by omega))
  obtain ⟨z6, e6, w6⟩ := I 6 (by omega) _ Tryz.underlying3 (F 6 _ rfl (by kernel_rfl) (by kernel_rfl) (by omega))
  obtain ⟨z7, e7, w7⟩ := I 7 (by omega) _ Tryz.underlying3 (F 7 _ rfl (by kernel_rfl) (by kernel_rfl) (by omega))
  obtain ⟨x2, hx2⟩ := F 2 _ rfl (by kernel_rfl) (by kernel_rfl) (by omega)
  obtain ⟨A, m, k, ps, e2, hk, hm, hn, hp⟩ := nums_open Tryz.underlying39 Tryz.underlying70 (by kernel_rfl) hx2
  have hml := hn.1
  have G : ∀ j (hj : j < cs.length), w.cell? ⟨b, o + j, none⟩ = some cs[j] := fun j hj => by rw [hc j (by omega), List.getElem?_eq_getElem hj]
  refine ⟨{ kind := z0, demand := z1, pats := ps, rate := z3, size := z4, start := z5, rule := z6, hold := z7 }, A, k, ⟨?_, ?_, ?_, ?_, ?_, ?_, ?_, ?_⟩, by show Nums .u64 w A ps.length ps; rw [hml]; exact hn, by show ps.length ≤ k; omega, ⟨w0, w1, w3, w4, w5, w6, w7, fun p hp' => ?_, by show ps.length ≤ maxLen; omega⟩⟩
  · have := G 0 (by omega); rw [e0] at this; exact this
  · have := G 1 (by omega); rw [e1] at this; exact this
  · have := G 2 (by omega); rw [e2, ← hml] at this; exact this
  · have := G 3 (by omega); rw [e3] at this; exact this
  · have := G 4 (by omega); rw [e4] at this; exact this
  · have := G 5 (by omega); rw [e5] at this; exact this
  · have := G 6 (by omega); rw [e6] at this; exact this
  · have := G 7 (by omega); rw [e7] at this; exact this
  · have := hp p hp'
    simp [Lit.wf, IntKind.min, IntKind.max, IntKind.signed, IntKind.bits] at this
    omega
/-- Whatever an instance reads as. -/
theorem inst_open {base : Nat} {v : Value} {d : DataW H} {p : List MemPlace} (k : DataW.Trod enc Tryz.prog w 0 (fun _ => true) true 25 v d p) (o : Value.okWide Tryz.prog w .any base 25 v) :
    ∃ x A c B e, v = instV x A c B e ∧ InstIs w x A B := by
  obtain ⟨cs, rfl, hsz⟩ := okWide_struct Tryz.underlying25 o
  obtain ⟨fuel, h⟩ := k
  have hcl : cs.toList.length = 6 := by rw [Array.length_toList, hsz]; kernel_rfl
  have hcc : (Value.agg cs).cells.toList = cs.toList := rfl
  rw [hcc] at h
  obtain ⟨xs, n, _, _, _, hxl, hf⟩ := DataW.trod_struct Tryz.underlying25 h
  have F := fun i f h1 ho hc' hi => field_one (T := 25) hxl hf (i := i) (f := f) h1 ho hc' hi
  have I : ∀ i (hi : i < cs.toList.length) f, (Tryz.prog.underlying f = some (.int .i64)) → (∃ x, DataW.trod enc Tryz.prog w 0 (fun _ => true) true n f [cs.toList[i]] = some x) → ∃ z, cs.toList[i] = .int .i64 z ∧ W64 z := fun i hi f hu ⟨x, hx⟩ => by
    obtain ⟨z, e1, _, e3⟩ := DataW.trod_int hu hx
    exact ⟨z, by simpa using e1, wf_iff.1 e3⟩
  obtain ⟨z0, e0, w0⟩ := I 0 (by omega) _ Tryz.underlying3 (F 0 _ rfl (by kernel_rfl) (by kernel_rfl) (by omega))
  obtain ⟨z1, e1, w1⟩ := I 1 (by omega) _ Tryz.underlying3 (F 1 _ rfl (by kernel_rfl) (by kernel_rfl) (by omega))
  obtain ⟨z2, e2, w2⟩ := I 2 (by omega) _ Tryz.underlying3 (F 2 _ rfl (by kernel_rfl) (by kernel_rfl) (by omega))
  obtain ⟨z3, e3, w3⟩ := I 3 (by omega) _ Tryz.underlying3 (F 3 _ rfl (by kernel_rfl) (by kernel_rfl) (by omega))
  obtain ⟨x4, hx4⟩ := F 4 _ rfl (by kernel_rfl) (by kernel_rfl) (by omega)
  obtain ⟨x5, hx5⟩ := F 5 _ rfl (by kernel_rfl) (by kernel_rfl) (by omega)
  have HC : ∃ A c l, cs.toList[4] = .slice A l.length c ∧ CustsIs w A l ∧ (∀ q ∈ l, q.Wf) ∧ l.length ≤ maxLen := by
    rcases Go.Deep.open_slice Tryz.underlying22 hx4 with ⟨hcs, _⟩ | ⟨a, len, cap, m, n, D, Pl, hcs, _, hl, hm, hmm, _, hx⟩
    · simp only [List.cons.injEq, and_true] at hcs
      exact ⟨none, 0, [], hcs, (fun i hi => absurd hi (by simp)), (fun q hq => by simp at hq), Nat.zero_le _⟩
    · simp only [List.cons.injEq, and_true] at hcs
      rw [if_pos rfl] at hmm
      have hp : 0 < len → ∃ b off, a = ⟨b, off, none⟩ := fun h0 => by
        obtain ⟨cs', h1, h2⟩ := hx 0 (by omega)
        rw [show Tryz.prog.cellsOf 41 = 8 by kernel_rfl] at h1
        obtain ⟨_, g1, g2⟩ := World.cells?_some h1
        have g0 := g2 0 (by omega)
        rw [Go.Deep.add_add, List.getElem?_eq_getElem (by omega : 0 < cs'.length)] at g0
        exact addr_plain g0 rfl
      have each : ∀ i, i < len → ∃ q : Cust, ∃ b off P k, a = ⟨b, off, none⟩ ∧ CustAt w b (off + i * 8) q P k ∧ Nums .u64 w P q.pats.length q.pats ∧ q.pats.length ≤ k ∧ q.Wf := fun i hi => by
        obtain ⟨cs', h1, h2⟩ := hx i (by omega)
        rw [show Tryz.prog.cellsOf 41 = 8 by kernel_rfl] at h1
        obtain ⟨_, g1, g2⟩ := World.cells?_some h1
        obtain ⟨b, off, rfl⟩ := hp (by omega)
        obtain ⟨q, P, k, q1, q2, q3, q4⟩ := cust_open (b := b) (o := off + i * 8) g1 (fun j hj => by
          have := g2 j hj
          rw [plain_add, plain_add] at this
          exact this) h2
        exact ⟨q, b, off, P, k, rfl, q1, q2, q3, q4⟩
      obtain ⟨l, hll, hls⟩ := list_of each
      subst hll
      refine ⟨some a, cap, l, hcs, fun i hi => ?_, fun q hq => ?_, by omega⟩
      · obtain ⟨b, off, P, k, q0, q1, q2, q3, q4⟩ := hls i hi
        exact ⟨b, off, P, k, by rw [q0], q1, q2, q3⟩
      · obtain ⟨i, hi, rfl⟩ := List.getElem_of_mem hq
        obtain ⟨b, off, P, k, q0, q1, q2, q3, q4⟩ := hls i hi
        exact q4
  have HD : ∃ B e l, cs.toList[5] = .slice B l.length e ∧ DistIs w B l ∧ (∀ r ∈ l, r.length ≤ maxLen ∧ ∀ z ∈ r, W64 z) ∧ l.length ≤ maxLen := by
    rcases Go.Deep.open_slice1 Tryz.underlying23 (by kernel_rfl) hx5 with ⟨hcs, _⟩ | ⟨a, len, cap, m, n, V, D, Pl, hcs, _, hl, hm, hmm, _, hx⟩
    · simp only [List.cons.injEq, and_true] at hcs
      exact ⟨none, 0, [], hcs, (fun i hi => absurd hi (by simp)), (fun q hq => by simp at hq), Nat.zero_le _⟩
    · simp only [List.cons.injEq, and_true] at hcs
      rw [if_pos rfl] at hmm
      have each : ∀ i, i < len → ∃ r : List Int, ∃ P k, w.cell? (a.add i) = some (.slice P r.length k) ∧ Ints w P r.length r ∧ r.length ≤ k ∧ k ≤ maxLen ∧ ∀ z ∈ r, W64 z := fun i hi => by
        obtain ⟨h1, h2⟩ := hx i (by omega)
        obtain ⟨P, q, k, r, q1, q2, q3, q4, q5⟩ := nums_open Tryz.underlying43 Tryz.underlying3 (by kernel_rfl) h2
        have := q4.1
        subst this
        exact ⟨r, P, k, by rw [h1, q1], q4, q2, q3, fun z hz => wf_iff.1 (q5 z hz)⟩
      obtain ⟨l, hll, hls⟩ := list_of each
      subst hll
      refine ⟨some a, cap, l, hcs, fun i hi => ?_, fun r hr => ?_, by omega⟩
      · obtain ⟨P, k, q1, q2, q3, q4, q5⟩ := hls i hi
        obtain ⟨P0, k0, q10, _⟩ := hls 0 (by omega)
        obtain ⟨b, off, rfl⟩ := addr_plain q10 rfl
        rw [plain_add] at q1
        exact ⟨b, off, P, k, rfl, q1, q2, q3⟩
      · obtain ⟨i, hi, rfl⟩ := List.getElem_of_mem hr
        obtain ⟨P, k, q1, q2, q3, q4, q5⟩ := hls i hi
        exact ⟨by omega, q5⟩
  obtain ⟨A, c, l, e4, hC, hCw, hCl⟩ := HC
  obtain ⟨B, e, m, e5, hD, hDw, hDl⟩ := HD
  refine ⟨{ days := z0, veh := z1, cap := z2, len := z3, custs := l, dist := m }, A, c, B, e, ?_, ⟨hC, hD, ⟨w0, w1, w2, w3, hCw, hDw, hCl, hDl⟩⟩⟩
  unfold instV
  have hcs : cs = #[cs.toList[0], cs.toList[1], cs.toList[2], cs.toList[3], cs.toList[4], cs.toList[5]] := by
    apply Array.ext'
    refine List.ext_getElem (hcl.trans rfl) fun i h1 h2 => ?_
    have : i < 6 := by omega
    match i, this with
    | 0, _ => rfl
    | 1, _ => rfl
    | 2, _ => rfl
    | 3, _ => rfl
    | 4, _ => rfl
    | 5, _ => rfl
  refine (congrArg Value.agg hcs).trans ?_
  rw [e0, e1, e2, e3, e4, e5]
end
end Go.Proofs.YtliomhkgkabbbaaGreatDoor
end
