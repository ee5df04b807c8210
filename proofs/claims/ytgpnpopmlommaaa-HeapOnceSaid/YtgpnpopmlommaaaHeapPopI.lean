/- The row's Pop. -/
import Derived.Test.YtgpnpopmlommaaaHeapPushI
namespace Go.Proofs.Ytgpnpopmlommaaa
open Go.RowKit Go.Maps
set_option linter.unusedVariables false
theorem wpList_delete_map {P : Program} (hP : P = Try.prog) {ops : Array Oper} {rest : List Oper} {o : Oper} {a : Act} {Q : Exit → Act → World → Prop} {w : World} {m n : Nat} {f : Int → Option Int} (h : MapIs w m n f) (hg : o.guard = none) (mo x : Operand)
    (hop : o.op = Op.call { callee := Callee.builtin Builtin.delete, args := #[mo, x], argTypes := #[49, 3] }) {id : Int} (hm : a.eval mo = .map (some m)) (hx : a.eval x = .int .i64 id) (hid : (Lit.int .i64 id).wf = true)
    (hK : ∀ w', MapIs w' m (if (f id).isSome then n - 1 else n) (updF f id none) → w.mapTurned w' m → wpList P ops Q rest (a.put o.dst (.tuple #[])) w') :
    wpList P ops Q (o :: rest) a w := by
  subst hP
  refine wpList_plain hg fun K' hK' => ?_
  obtain ⟨w', hrun, r1, r2⟩ := h.drop hid o.type
  unfold Oper.wp
  simp [execOp, hop, resolve, invoke, builtin, hm, hx, hrun, Result.andThen]
  exact hK' _ _ (hK w' r1 r2)
theorem zero_thing_I (w : World) : (zeroValue 77).run Try.prog w = .ok (.agg #[.int .i64 0, .int .i64 0]) w := by kernel_rfl
theorem run_clear_I {w : World} {b off c : Nat} (ty : TypeId) {u0 u1 : Value}
    (h0 : w.cell? ⟨b, off, none⟩ = some u0) (h1 : w.cell? ⟨b, off + 1, none⟩ = some u1) (f0 : w.frozen? ⟨b, off, none⟩ = false) (f1 : w.frozen? ⟨b, off + 1, none⟩ = false) :
    (Builtin.clear_ #[50] ty #[.slice (some ⟨b, off, none⟩) 1 c]).run Try.prog w = .ok (.tuple #[]) ((w.setCell ⟨b, off, none⟩ (.int .i64 0)).setCell ⟨b, off + 1, none⟩ (.int .i64 0)) := by
  have hst := run_storeCells_cells (P := Try.prog) b off [.int .i64 0, .int .i64 0] 0 w (by intro j hj; match j, hj with | 0, _ => simpa using (by rw [h0]; rfl) | 1, _ => simpa using (by rw [h1]; rfl)) (by intro j hj; match j, hj with | 0, _ => simpa using f0 | 1, _ => simpa using f1) (by intro v hv'; simp at hv'; first | (rw [hv']; rfl) | (rcases hv' with rfl | rfl <;> rfl))
  simp only [Nat.add_zero] at hst
  have hz := zero_thing_I w
  have hzc : (Builtin.zeroCells (Value.agg #[.int .i64 0, .int .i64 0]).cells 1).toList = [.int .i64 0, .int .i64 0] := by kernel_rfl
  simp [Builtin.clear_, run_underlying Try.underlying50, hz, hzc, hst]
  rfl
theorem pop_I {w : World} {g : Nat} {F : List Nat} {q : Nat → Thing Int} {n : Nat} (h : HI w g F q (n + 1)) :
    Calls Try.prog 69 #[.pointer (some ⟨g, 0, none⟩)] w fun e w' => e = .returned (.iface 77 (.agg #[.int .i64 (q n).1, .int .i64 (q n).2])) ∧ HI w' g F q n ∧ Only F w w' := by
  obtain ⟨s, m, G, f, hb, ht, hm, hp, rfl, hn, hw⟩ := h
  have c0 := hb.cellAt 0
  have c1 := hb.cellAt 1
  simp at c0 c1
  rcases ht with ⟨rfl, h0, rfl⟩ | ⟨a, c, rfl, rfl, hr⟩
  · omega
  obtain ⟨c2, c3⟩ := hr.cell (k := n) (by omega)
  obtain ⟨ap1, ap2, ap3⟩ := three_apart hb hm hr (by decide)
  obtain ⟨x, hx⟩ : ∃ x, x = q n := ⟨_, rfl⟩
  rw [← hx] at c2 c3 ⊢
  have hwx := hw n (by omega)
  rw [← hx] at hwx
  have hc1 : n + 1 ≤ c := by obtain ⟨_, _, h1, _⟩ := hr; exact h1
  have HB := Lib.hid hb
  have HR := Lib.hid hr
  have HM := Lib.hid hm
  have HP := Lib.hid hp
  have HW := Lib.hid hw
  have HX := Lib.hid hx
  clear hb hr hm hp hw hx
  go_enter Try.func69, Try.ntmps69
  go_wp2
  generalize hw1 : w.alloc _ = w1
  have lb1 : Below w.heap.size w w1 := by rw [← hw1]; exact below_alloc _ _
  have X1 : BlkIs w1 w.heap.size 77 #[.int .i64 x.1, .int .i64 x.2] := by rw [← hw1]; exact BlkIs.fresh _ _ _
  clear hw1 c0 c1 c2 c3
  have B1 := HB.out.below lb1 HB.out.lt
  have R1 := HR.out.keep (lb1.block a HR.out.lt)
  have M1 := HM.out.keep (lb1.block m HM.out.lt)
  have hmlt : m < w.heap.size := HM.out.lt
  have hglt : g < w.heap.size := HB.out.lt
  have halt : a < w.heap.size := HR.out.lt
  have a1 := B1.cellAt 1
  have a2 := X1.cellAt 0
  simp at a1 a2
  have fx := HP.out.at (k := n) (by omega)
  rw [← HX.out] at fx
  have hfx := Lib.hid fx
  have HX1 := Lib.hid X1
  have HB1 := Lib.hid B1
  have HR1 := Lib.hid R1
  have HM1 := Lib.hid (M1.keep (w' := w1.drew) rfl)
  have HL1 := Lib.hid lb1
  clear fx X1 B1 R1 M1 lb1
  go_still_tail 6, (by kernel_rfl)
  change wpList _ _ _ _ _ w1.drew
  go_wp2_with (first
    | (at_delete; refine wpList_delete_map rfl HM1.out rfl _ _ rfl rfl rfl hwx.1 ?_; intro w2 M2 t2; rw [hfx.out, Option.isSome_some, if_pos rfl, Nat.add_sub_cancel] at M2; have o2 : Only [m] w1 w2 := (Only.drew (Only.refl _ _)).trans' (.of_grown t2.grown (by simp)); have B2 := HB1.out.only o2 (by simpa using ap1); have R2 := HR1.out.only o2 (by simpa using fun e => ap3 e.symm); have X2 := HX1.out.only o2 (by simp; omega); have b0 := B2.cellAt 0; have b1 := B2.free 0; obtain ⟨b2, b3⟩ := R2.cell (k := n) (by omega); have b4 := R2.free (n * 2); have b5 := R2.free (n * 2 + 1); have b6 := X2.cellAt 0; have b7 := X2.cellAt 1; simp at b0 b6 b7; have hclr := run_clear_I (c := c - n) 0 b2 b3 b4 b5; have HO2 := Lib.hid o2; have HB2 := Lib.hid B2; have HR2 := Lib.hid R2; have HX2 := Lib.hid X2; have HM2 := Lib.hid M2; clear o2 B2 R2 X2 M2 t2))
  go_ret
  have o3 : Only [a] w2 ((w2.setCell ⟨a, n * 2, none⟩ (.int .i64 0)).setCell ⟨a, n * 2 + 1, none⟩ (.int .i64 0)) := ((Only.refl _ _).setCell (p := ⟨a, n * 2, none⟩) (by simp) _).setCell (p := ⟨a, n * 2 + 1, none⟩) (by simp) _
  have R3 := (HR2.out.put (k := n) (0, 0))
  have o4 := (Only.refl [g] ((w2.setCell ⟨a, n * 2, none⟩ (.int .i64 0)).setCell ⟨a, n * 2 + 1, none⟩ (.int .i64 0))).setCell (p := ⟨g, 0, none⟩) (by simp) (.slice (some ⟨a, 0, none⟩) n c)
  have R4 := (R3.only o4 (by simpa using fun e => ap2 e.symm))
  have B4 := (HB2.out.only o3 (by simpa using ap2)).put 0 (.slice (some ⟨a, 0, none⟩) n c)
  have M4 := (HM2.out.only o3 (by simpa using ap3)).only o4 (by simpa using fun e => ap1 e.symm)
  refine ⟨rfl, ⟨_, m, [a], _, B4, .inr ⟨a, c, rfl, rfl, R4.cut⟩, M4, by rw [HX.out]; exact HP.out.pop, rfl, by omega, fun k hk => HW.out k (by omega)⟩, ?_⟩
  exact (((Only.of_below HL1.out).trans' (HO2.out.more (by simp))).trans' (o3.more (by simp))).trans' (o4.more (by simp))
end Go.Proofs.Ytgpnpopmlommaaa
