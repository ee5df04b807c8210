/- container/heap's Push, Pop, Fix and Remove, over the row. -/
import Derived.Test.YtgpnpopmlommaaaHeapDownI
import Derived.Test.YtgpnpopmlommaaaHeapPushI
import Derived.Test.YtgpnpopmlommaaaHeapPopI
namespace Go.Proofs.Ytgpnpopmlommaaa
open Go.RowKit Go.Maps
set_option linter.unusedVariables false
/-- What a heap at g has: the things of l, in their order. -/
def HoldsI (w : World) (g : Nat) (F : List Nat) (l : List (Thing Int)) : Prop := ∃ q n, HI w g F q n ∧ Heaped LtI q n ∧ l.Perm (row q n) ∧ Has LtI l
def FixPost (w : World) (g : Nat) (F : List Nat) (q : Nat → Thing Int) (n : Nat) (w' : World) : Prop := ∃ r, HI w' g F r n ∧ Heaped LtI r n ∧ (row r n).Perm (row q n) ∧ Only F w w'
theorem fix_I {w : World} {g : Nat} {F : List Nat} {q : Nat → Thing Int} {n : Nat} (h : HI w g F q n) {i : Nat} (hi : i < n) (hu : OffAt LtI q n i) :
    Calls Try.prog 39 #[.iface 66 (.pointer (some ⟨g, 0, none⟩)), .int .i64 i] w fun e w' => e = .returned (.tuple #[]) ∧ FixPost w g F q n w' := by
  have hlen := len_I h
  have hdown := down_I h (Nat.le_refl _) (Nat.le_of_lt hi) hu
  have hup : ∀ w1, DownEnd w g F q n n i false w1 → Calls Try.prog 44 #[.iface 66 (.pointer (some ⟨g, 0, none⟩)), .int .i64 i] w1 fun e w' => e = .returned (.tuple #[]) ∧ FixPost w g F q n w' := by
    rintro w1 ⟨r, h1, h2, h3, h4, _, h5, _⟩
    refine (up_I h1 (Nat.le_refl _) hi (h5 rfl)).mono ?_
    rintro e w' ⟨rfl, s, g1, g2, g3, g4, g5⟩
    exact ⟨rfl, s, g1, g2, g3.trans h2, h4.trans' g5⟩
  have hdone : ∀ w1, DownEnd w g F q n n i true w1 → FixPost w g F q n w1 := by
    rintro w1 ⟨r, h1, h2, h3, h4, h5, _, _⟩
    exact ⟨r, h1, h5 rfl, h2, h4⟩
  have HL := Lib.hid hlen
  have HD := Lib.hid hdown
  have HU := Lib.hid hup
  have HO := Lib.hid hdone
  clear hlen hdown hup hdone h hu
  go_enter Try.func39, Try.ntmps39
  go_wp2_with (first
    | (go_at_call 34; refine HL.out.mono ?_; rintro e w1 ⟨rfl, rfl⟩)
    | (go_at_call 43; refine HD.out.mono ?_; rintro e w1 ⟨b, rfl, hb⟩; cases b)
    | (go_at_call 44; refine (HU.out _ hb).mono ?_; rintro e w2 ⟨rfl, hR⟩))
  · go_end0
    exact ⟨rfl, hR⟩
  · go_end0
    exact ⟨rfl, HO.out _ hb⟩
def PushMid (w : World) (g : Nat) (F : List Nat) (q : Nat → Thing Int) (n : Nat) (w' : World) : Prop := ∃ F', HI w' g F' q n ∧ Turned F F' w w'
def PutPost (w : World) (g : Nat) (F : List Nat) (l : List (Thing Int)) (w' : World) : Prop := ∃ F', HoldsI w' g F' l ∧ Turned F F' w w'
theorem row_upd (q : Nat → Thing Int) (n : Nat) (x : Thing Int) : row (upd q n x) (n + 1) = row q n ++ [x] := by
  rw [row_succ]
  congr 1
  · exact row_congr fun k hk => by unfold upd; rw [if_neg (by omega)]
  · unfold upd; rw [if_pos rfl]
theorem hpush_I {w : World} {g : Nat} {F : List Nat} {l : List (Thing Int)} (h : HoldsI w g F l) {x : Thing Int} (hx : (Lit.int .i64 x.1).wf = true ∧ (Lit.int .i64 x.2).wf = true) (hnew : isIn l x.1 = false) (hroom : l.length < 1048576) :
    Calls Try.prog 36 #[.iface 66 (.pointer (some ⟨g, 0, none⟩)), .iface 77 (.agg #[.int .i64 x.1, .int .i64 x.2])] w fun e w' => e = .returned (.tuple #[]) ∧ PutPost w g F (ins LtI x l) w' := by
  obtain ⟨q, n, hI, hH, hP, hS⟩ := h
  have hl : l.length = n := by rw [hP.length_eq, rowq_len]
  have hn : ∀ k, k < n → (q k).1 ≠ x.1 := fun k hk => isIn_false.1 hnew _ (hP.symm.subset (mem_row.2 ⟨k, hk, rfl⟩))
  have HPu : Hid (Calls Try.prog 70 #[.pointer (some ⟨g, 0, none⟩), .iface 77 (.agg #[.int .i64 x.1, .int .i64 x.2])] w fun e w' => e = .returned (.tuple #[]) ∧ PushMid w g F (upd q n x) (n + 1) w') :=
    Lib.hid ((push_I hI hx hn (by omega)).mono fun e w' ⟨h1, F', h2, h3, h4⟩ => ⟨h1, F', h2, h3, h4⟩)
  have HLe : Hid (∀ w1, PushMid w g F (upd q n x) (n + 1) w1 → Calls Try.prog 34 #[.pointer (some ⟨g, 0, none⟩)] w1 fun e w' => e = .returned (.int .i64 ((n : Int) + 1)) ∧ w1 = w') :=
    Lib.hid fun w1 ⟨F', h1, _⟩ => len_I h1
  have HUp : Hid (∀ w1, PushMid w g F (upd q n x) (n + 1) w1 → Calls Try.prog 44 #[.iface 66 (.pointer (some ⟨g, 0, none⟩)), .int .i64 n] w1 fun e w' => e = .returned (.tuple #[]) ∧ PutPost w g F (ins LtI x l) w') := by
    refine Lib.hid fun w1 ⟨F', h1, h2⟩ => ?_
    have hq : Heaped LtI (upd q n x) n := hH.congr fun k hk => by unfold upd; rw [if_neg (by omega)]
    refine (up_I h1 (Nat.le_refl _) (by omega) hq.upAt).mono ?_
    rintro e w' ⟨rfl, r, g1, g2, g3, _, g5⟩
    refine ⟨rfl, F', ⟨r, n + 1, g1, g2, ?_, hS.ins order_I hnew⟩, h2.trans (.of_only g5)⟩
    rw [row_upd] at g3
    exact (((ins_perm x l).trans (List.Perm.cons x hP)).trans (List.perm_append_singleton x _).symm).trans g3.symm
  have hn' : (n : Int) ≤ 1048576 := by omega
  clear hI hH hP hS hl hn hnew hroom
  go_enter Try.func36, Try.ntmps36
  go_wp2_with (first
    | (go_at_call 70; refine HPu.out.mono ?_; rintro e w1 ⟨rfl, hm⟩)
    | (go_at_call 34; refine (HLe.out _ hm).mono ?_; rintro e w2 ⟨rfl, rfl⟩)
    | (go_at_call 44; refine (HUp.out _ hm).mono ?_; rintro e w3 ⟨rfl, hR⟩))
  go_end0
  exact ⟨rfl, hR⟩
/-- What a removal leaves. -/
def Gone (w : World) (g : Nat) (F : List Nat) (q : Nat → Thing Int) (n i : Nat) (w' : World) : Prop :=
  ∃ r, HI w' g F r n ∧ Heaped LtI r n ∧ (q i :: row r n).Perm (row q (n + 1)) ∧ Only F w w'
/-- .. ahead of its last step. -/
def Going (w : World) (g : Nat) (F : List Nat) (q : Nat → Thing Int) (n i : Nat) (w' : World) : Prop :=
  ∃ r, HI w' g F r (n + 1) ∧ Heaped LtI r n ∧ (q i :: row r n).Perm (row q (n + 1)) ∧ Only F w w'
theorem going_pop {w : World} {g : Nat} {F : List Nat} {q : Nat → Thing Int} {n i : Nat} :
    ∀ w1, Going w g F q n i w1 → Calls Try.prog 69 #[.pointer (some ⟨g, 0, none⟩)] w1 fun e w' => ∃ v, e = .returned v ∧ Gone w g F q n i w' := by
  rintro w1 ⟨r, h1, h2, h3, h4⟩
  refine (pop_I h1).mono ?_
  rintro e w' ⟨rfl, g1, g2⟩
  exact ⟨_, rfl, r, g1, h2, h3, h4.trans' g2⟩
theorem sw_upd {q : Nat → Thing Int} {i n k : Nat} (hk : k < n) : sw q i n k = upd q i (q n) k := by
  unfold sw upd
  by_cases e : k = i
  · rw [if_pos e, if_pos e]
  · rw [if_neg e, if_neg e, if_neg (by omega)]
theorem off_sw {q : Nat → Thing Int} {i n : Nat} (h : Heaped LtI q (n + 1)) : OffAt LtI (sw q i n) n i :=
  (((h.less (Nat.le_succ n)).offAt order_I (r := upd q i (q n)) (fun k hk => by unfold upd; rw [if_neg hk])).congr fun k hk => sw_upd hk)
theorem perm_sw {q r : Nat → Thing Int} {i n : Nat} (hi : i < n + 1) (h : (row r n).Perm (row (sw q i n) n)) : (q i :: row r n).Perm (row q (n + 1)) := by
  have h1 := row_sw q hi (Nat.lt_succ_self n)
  rw [row_succ, sw_right] at h1
  exact ((List.Perm.cons _ h).trans (List.perm_append_singleton _ _).symm).trans h1
theorem hremove_I {w : World} {g : Nat} {F : List Nat} {q : Nat → Thing Int} {n i : Nat} (h : HI w g F q (n + 1)) (hH : Heaped LtI q (n + 1)) (hi : i < n + 1) :
    Calls Try.prog 40 #[.iface 66 (.pointer (some ⟨g, 0, none⟩)), .int .i64 i] w fun e w' => ∃ v, e = .returned v ∧ Gone w g F q n i w' := by
  have HL := Lib.hid (len_I h)
  have hn := h.size
  have HPo := Lib.hid (going_pop (w := w) (g := g) (F := F) (q := q) (n := n) (i := i))
  rcases Nat.lt_or_ge i n with hin | hin
  · have HSw : Hid (Calls Try.prog 71 #[.pointer (some ⟨g, 0, none⟩), .int .i64 i, .int .i64 n] w fun e w' => e = .returned (.tuple #[]) ∧ HI w' g F (sw q i n) (n + 1) ∧ Only F w w') := Lib.hid (swap_I h hi (by omega))
    have HDo : Hid (∀ w1, HI w1 g F (sw q i n) (n + 1) → Calls Try.prog 43 #[.iface 66 (.pointer (some ⟨g, 0, none⟩)), .int .i64 i, .int .i64 n] w1 (DownPost w1 g F (sw q i n) (n + 1) n i)) :=
      Lib.hid fun w1 h1 => down_I h1 (by omega) (by omega) (off_sw hH)
    have HUp : Hid (∀ w1 w2, Only F w w1 → DownEnd w1 g F (sw q i n) (n + 1) n i false w2 → Calls Try.prog 44 #[.iface 66 (.pointer (some ⟨g, 0, none⟩)), .int .i64 i] w2 fun e w' => e = .returned (.tuple #[]) ∧ Going w g F q n i w') := by
      refine Lib.hid ?_
      rintro w1 w2 o1 ⟨r, h1, h2, h3, h4, _, h5, _⟩
      refine (up_I h1 (Nat.le_succ n) hin (h5 rfl)).mono ?_
      rintro e w' ⟨rfl, s, g1, g2, g3, g4, g5⟩
      exact ⟨rfl, s, g1, g2, perm_sw hi (g3.trans h2), (o1.trans' h4).trans' g5⟩
    have HOk : Hid (∀ w1 w2, Only F w w1 → DownEnd w1 g F (sw q i n) (n + 1) n i true w2 → Going w g F q n i w2) := by
      refine Lib.hid ?_
      rintro w1 w2 o1 ⟨r, h1, h2, h3, h4, h5, _, _⟩
      exact ⟨r, h1, h5 rfl, perm_sw hi h2, o1.trans' h4⟩
    have hne1 : ((n : Int) == (i : Int)) = false := by simp; omega
    have hne2 : ((n : Int) != (i : Int)) = true := by simp; omega
    clear h hH
    go_enter Try.func40, Try.ntmps40
    go_wp2_with (first
      | (go_at_call 34; refine HL.out.mono ?_; rintro e w1 ⟨rfl, rfl⟩)
      | (go_at_call 71; refine HSw.out.mono ?_; rintro e w1 ⟨rfl, hI1, hO1⟩)
      | (go_at_call 43; refine (HDo.out _ hI1).mono ?_; rintro e w2 ⟨b, rfl, hb⟩; cases b)
      | (go_at_call 44; refine (HUp.out _ _ hO1 hb).mono ?_; rintro e w3 ⟨rfl, hR⟩)
      | (go_at_call 69; (first | refine (HPo.out _ hR).mono ?_ | refine (HPo.out _ (HOk.out _ _ hO1 hb)).mono ?_); rintro e w4 ⟨v, rfl, hG⟩))
    all_goals
      go_ret
      exact ⟨_, rfl, hG⟩
  · obtain rfl : i = n := by omega
    have hR : Going w g F q i i w := ⟨q, h, hH.less (Nat.le_succ _), by rw [row_succ]; exact (List.perm_append_singleton _ _).symm, Only.refl _ _⟩
    clear h hH
    go_enter Try.func40, Try.ntmps40
    go_wp2_with (first
      | (go_at_call 34; refine HL.out.mono ?_; rintro e w1 ⟨rfl, rfl⟩)
      | (go_at_call 69; refine (HPo.out _ hR).mono ?_; rintro e w4 ⟨v, rfl, hG⟩))
    go_ret
    exact ⟨_, rfl, hG⟩
theorem hpop_I {w : World} {g : Nat} {F : List Nat} {x : Thing Int} {l : List (Thing Int)} (h : HoldsI w g F (x :: l)) :
    Calls Try.prog 35 #[.iface 66 (.pointer (some ⟨g, 0, none⟩))] w fun e w' => ∃ v, e = .returned v ∧ HoldsI w' g F l ∧ Only F w w' := by
  obtain ⟨q, n', hI, hH, hP, hS⟩ := h
  obtain ⟨h0, rfl⟩ := first_is order_I hH hS.1 hP
  obtain ⟨n, hn⟩ : ∃ n, n = l.length := ⟨_, rfl⟩
  rw [← hn] at hI hH hP
  have hsz := hI.size
  have HL := Lib.hid (len_I hI)
  have HPo := Lib.hid (going_pop (w := w) (g := g) (F := F) (q := q) (n := n) (i := 0))
  have HSw : Hid (Calls Try.prog 71 #[.pointer (some ⟨g, 0, none⟩), .int .i64 0, .int .i64 n] w fun e w' => e = .returned (.tuple #[]) ∧ HI w' g F (sw q 0 n) (n + 1) ∧ Only F w w') := Lib.hid (swap_I hI (i := 0) (by omega) (by omega))
  have HDo : Hid (∀ w1, HI w1 g F (sw q 0 n) (n + 1) → Calls Try.prog 43 #[.iface 66 (.pointer (some ⟨g, 0, none⟩)), .int .i64 0, .int .i64 n] w1 (DownPost w1 g F (sw q 0 n) (n + 1) n 0)) :=
    Lib.hid fun w1 h1 => down_I h1 (i0 := 0) (by omega) (by omega) (off_sw hH)
  have HOk : Hid (∀ b w1 w2, Only F w w1 → DownEnd w1 g F (sw q 0 n) (n + 1) n 0 b w2 → Going w g F q n 0 w2) := by
    refine Lib.hid ?_
    rintro b w1 w2 o1 ⟨r, h1, h2, h3, h4, _, _, h5⟩
    exact ⟨r, h1, h5 rfl, perm_sw (Nat.succ_pos n) h2, o1.trans' h4⟩
  have HEnd : Hid (∀ w', Gone w g F q n 0 w' → HoldsI w' g F l ∧ Only F w w') := by
    refine Lib.hid ?_
    rintro w' ⟨r, h1, h2, h3, h4⟩
    refine ⟨⟨r, n, h1, h2, ?_, hS.tail⟩, h4⟩
    rw [h0] at h3
    exact (List.Perm.cons_inv (h3.trans hP.symm)).symm
  clear hI hH hP hS h0 hn
  go_enter Try.func35, Try.ntmps35
  go_wp2_with (first
    | (go_at_call 34; refine HL.out.mono ?_; rintro e w1 ⟨rfl, rfl⟩)
    | (go_at_call 71; refine HSw.out.mono ?_; rintro e w1 ⟨rfl, hI1, hO1⟩)
    | (go_at_call 43; refine (HDo.out _ hI1).mono ?_; rintro e w2 ⟨b, rfl, hb⟩)
    | (go_at_call 69; refine (HPo.out _ (HOk.out _ _ _ hO1 hb)).mono ?_; rintro e w4 ⟨v, rfl, hG⟩))
  go_ret
  exact ⟨_, rfl, HEnd.out _ hG⟩
end Go.Proofs.Ytgpnpopmlommaaa
