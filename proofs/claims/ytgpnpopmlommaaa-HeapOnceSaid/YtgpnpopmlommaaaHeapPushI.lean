/- The row's Push and Pop. -/
import Derived.Test.YtgpnpopmlommaaaHeapRowI
import Derived.Test.YtgpnpopmlommaaaHeapMemB
namespace Go.Proofs.Ytgpnpopmlommaaa
open Go.RowKit Go.Maps
set_option linter.unusedVariables false
theorem assert_I (v : Value) (w : World) : (Instr.typeAssert (.iface 77 v) 20 77 false).run Try.prog w = .ok v w := by kernel_rfl
theorem info_thing_I : (Try.prog.info? 77).map (fun i => (i.zero, i.size, i.bytes)) = some (some (.agg #[.int .i64 0, .int .i64 0]), 2, 16) := by kernel_rfl
theorem two_new (w : World) (x y : Value) (t : TypeId) : ∀ j u, [x, y][j]? = some u → (w.alloc (.cells #[x, y] t)).cell? ((⟨w.heap.size, 0, none⟩ : Addr).add j) = some u := by
  intro j u hj
  match j, hj with
  | 0, hj => simp at hj; subst hj; simp [Addr.add]
  | 1, hj => simp at hj; subst hj; simp [Addr.add]
theorem two_cells (a b : Int) : ∀ u ∈ [Value.int .i64 a, .int .i64 b], u.oneCell' = true := by intro u hu; simp at hu; rcases hu with rfl | rfl <;> rfl
theorem push_I {w : World} {g : Nat} {F : List Nat} {q : Nat → Thing Int} {n : Nat} (h : HI w g F q n) {x : Thing Int} (hx : (Lit.int .i64 x.1).wf = true ∧ (Lit.int .i64 x.2).wf = true) (hnew : ∀ k, k < n → (q k).1 ≠ x.1) (hroom : n < 1048576) :
    Calls Try.prog 70 #[.pointer (some ⟨g, 0, none⟩), .iface 77 (.agg #[.int .i64 x.1, .int .i64 x.2])] w fun e w' => e = .returned (.tuple #[]) ∧ ∃ F', HI w' g F' (upd q n x) (n + 1) ∧ Only F w w' ∧ ∀ b ∈ F', b ∈ F ∨ w.heap.size ≤ b := by
  obtain ⟨s, m, G, f, hb, ht, hm, hp, rfl, hn, hw⟩ := h
  obtain ⟨A, c, rfl⟩ := ht.form
  obtain ⟨ap1, ap2, ap3⟩ := ht.apart hb hm (by decide)
  have hta := assert_I
  have HB := Lib.hid hb
  have HT := Lib.hid ht
  have HM := Lib.hid hm
  have HP := Lib.hid hp
  have HW := Lib.hid hw
  clear hb ht hm hp hw
  go_enter Try.func70, Try.ntmps70
  go_wp2
  clear hta
  generalize hw1 : w.alloc _ = w1
  have lb1 : Below w.heap.size w w1 := by rw [← hw1]; exact below_alloc _ _
  have X1 : BlkIs w1 w.heap.size 77 #[.int .i64 x.1, .int .i64 x.2] := by rw [← hw1]; exact BlkIs.fresh _ _ _
  clear hw1
  have B1 := HB.out.below lb1 HB.out.lt
  have T1 := HT.out.below lb1
  have M1 := HM.out.keep (lb1.block m HM.out.lt)
  have fx : f x.1 = none := by
    cases hf : f x.1 with
    | none => rfl
    | some y =>
      obtain ⟨k, hk, _, e⟩ := (HP.out x.1 y).1 hf
      exact absurd e (hnew k hk)
  have wfn : (Lit.int .i64 (n : Int)).wf = true := wf_iff.2 ⟨by omega, by omega⟩
  obtain ⟨w2, e2, M2, t2⟩ := (M1.keep (w' := w1.drew) rfl).store (by unfold maxLen; omega) hx.1 wfn
  rw [fx] at M2
  simp only [Option.isSome_none, Bool.false_eq_true, if_false] at M2
  have o2 : Only [m] w1 w2 := (Only.drew (Only.refl _ _)).trans' (.of_grown t2.grown (by simp))
  have hmlt : m < w.heap.size := HM.out.lt
  have hglt : g < w.heap.size := HB.out.lt
  have hGlt : ∀ b ∈ G, b < w.heap.size := by
    intro b hb
    rcases HT.out with ⟨_, _, rfl⟩ | ⟨a, _, _, rfl, hr⟩
    · cases hb
    · rw [List.mem_singleton] at hb; subst hb; exact hr.lt
  have X2 := X1.only o2 (by simp; omega)
  have B2 := B1.only o2 (by simpa using ap3)
  have T2 := T1.only o2 (by intro b hb; simp; intro e; subst e; exact ap2 hb)
  have a1 := B1.cellAt 0
  have a2 := B1.cellAt 1
  have a3 := X1.cellAt 0
  simp at a1 a2 a3
  have h2size : w.heap.size < w2.heap.size := X2.lt
  have HO := Lib.hid ((Only.of_below (F := g :: m :: G) lb1).trans' (o2.more (by simp)))
  have HT2 := Lib.hid T2
  have HM2 := Lib.hid M2
  have HB2 := Lib.hid B2
  have HX2 := Lib.hid X2
  have hfx := Lib.hid fx
  clear lb1 X1 B1 T1 M1 fx o2 X2 B2 T2 M2 t2
  go_still_tail 11, (by kernel_rfl)
  change wpList _ _ _ _ _ w1.drew
  go_wp2
  clear e2 a1 a2 a3
  have b0 := HB2.out.cellAt 0
  have b1 := HB2.out.free 0
  have b2 := HX2.out.cellAt 0
  have b3 := HX2.out.cellAt 1
  have b4 := (HB2.out.alloc (.cells #[.int .i64 x.1, .int .i64 x.2] 77)).cellAt 0
  simp at b0 b2 b3 b4
  obtain ⟨i0, hi, hz0, hz1, hz2⟩ := info_parts info_thing_I
  obtain ⟨xs, hown, hxs, hG⟩ := HT2.out.own
  go_region_law (refine step_append_own rfl (.tmp 22) (.tmp 24) 50 rfl 0 77 i0 (.agg #[.int .i64 0, .int .i64 0]) 2 16 Try.underlying50 hi hz0 hz1 hz2 rfl (by decide) (.slice A n c) n xs rfl (hown.alloc _) ⟨w2.heap.size, 0, none⟩ 1 1 [.int .i64 x.1, .int .i64 x.2] rfl rfl (two_new _ _ _ _) (two_cells _ _) (by unfold maxLen; omega) (by omega) (Nat.zero_le _) ?_; intro v' w3 hown3 hgrow3 hloc3; obtain ⟨a', c', rfl, d0, d1, d2, d3, d4, d5, d6⟩ := push_end HB2.out HT2.out HM2.out (below_drew_alloc _ _) hgrow3 hown3 hxs hown.1 (by show w2.heap.size ≤ (w2.alloc _).heap.size; simp) hloc3 (by decide); have D2 := Lib.hid d2; have D3 := Lib.hid d3; have D4 := Lib.hid d4; have D5 := Lib.hid d5; have D6 := Lib.hid d6; clear d2 d3 d4 d5 d6 hown3 hgrow3 hloc3)
  all_goals go_end0
  all_goals
    refine ⟨rfl, g :: m :: [a'], ⟨_, m, [a'], _, D2.out, D3.out, D4.out, HP.out.push hfx.out, rfl, by omega, fun k hk => ?_⟩, HO.out.trans' D5.out, ?_⟩
    · unfold upd
      split
      · exact hx
      · exact HW.out k (by omega)
    · intro b hb
      simp only [List.mem_cons, List.not_mem_nil, or_false] at hb
      rcases hb with rfl | rfl | rfl
      · exact .inl (by simp)
      · exact .inl (by simp)
      · rcases D6.out with h | h
        · exact .inl (by simp [h])
        · exact .inr (by omega)
end Go.Proofs.Ytgpnpopmlommaaa
