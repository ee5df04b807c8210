/- The heap's own functions: what each tells, and leaves. -/
import Derived.Test.YtgpnpopmlommaaaHeapOpsI
namespace Go.Proofs.Ytgpnpopmlommaaa
open Go.RowKit Go.Maps
set_option linter.unusedVariables false
theorem worthOf_in {α : Type} {d : α} {l : List (Thing α)} (hn : (l.map (·.1)).Nodup) {x : Thing α} (hx : x ∈ l) : worthOf d l x.1 = (x.2, true) := by
  unfold worthOf
  induction l with
  | nil => cases hx
  | cons y r ih =>
    have hn2 := List.nodup_cons.1 (show (y.1 :: r.map (·.1)).Nodup by simpa using hn)
    rcases List.mem_cons.1 hx with e | e
    · subst e; simp
    · have hne : y.1 ≠ x.1 := fun e2 => hn2.1 (List.mem_map.2 ⟨x, e, e2.symm⟩)
      rw [List.find?_cons_of_neg (by simpa using hne)]
      exact ih hn2.2 e
theorem worthOf_out {α : Type} {d : α} {l : List (Thing α)} {id : Int} (h : isIn l id = false) : worthOf d l id = (d, false) := by
  unfold worthOf
  rw [List.find?_eq_none.2 (fun y hy => by simpa using isIn_false.1 h y hy)]
theorem perm_upd {α : Type} {q : Nat → Thing α} {k : Nat} (y : Thing α) : ∀ {n : Nat}, k < n → (q k :: row (upd q k y) n).Perm (y :: row q n)
  | 0, h => by omega
  | n + 1, h => by
    rw [row_succ, row_succ]
    by_cases e : k = n
    · subst e
      have e1 : upd q k y k = y := by unfold upd; rw [if_pos rfl]
      have e2 : row (upd q k y) k = row q k := row_congr fun j hj => by unfold upd; rw [if_neg (by omega)]
      rw [e1, e2]
      exact ((List.perm_append_singleton y (row q k)).cons _).trans ((List.Perm.swap y (q k) _).trans ((List.perm_append_singleton (q k) (row q k)).symm.cons _))
    · have e1 : upd q k y n = q n := by unfold upd; rw [if_neg (by omega)]
      rw [e1]
      exact (perm_upd y (by omega : k < n)).append_right [q n]
/-- Where a number is looked up. -/
structure Found (w : World) (g : Nat) (F : List Nat) (l : List (Thing Int)) (id : Int) (m : Nat) (x : Option Int) : Prop where
  map : w.cell? ⟨g, 1, none⟩ = some (.map (some m))
  look : (Instr.lookup 49 (.map (some m)) (.int .i64 id) true).run Try.prog w = .ok (.tuple #[.int .i64 (x.getD 0), .bool x.isSome]) w
  is : isIn l id = x.isSome
theorem found {w : World} {g : Nat} {F : List Nat} {l : List (Thing Int)} {q : Nat → Thing Int} {n : Nat} (hI : HI w g F q n) (hP : l.Perm (row q n)) {id : Int} (hid : (Lit.int .i64 id).wf = true) :
    ∃ m x, Found w g F l id m x ∧ ∀ y, x = some y → ∃ k : Nat, k < n ∧ y = (k : Int) ∧ (q k).1 = id := by
  obtain ⟨s, m, G, f, hb, ht, hm, hp, rfl, hn, hw⟩ := hI
  have c1 := hb.cellAt 1
  simp at c1
  refine ⟨m, f id, ⟨c1, hm.look hid, ?_⟩, fun y hy => (hp id y).1 hy⟩
  cases hf : f id with
  | none =>
    rw [isIn_false.2 fun y hy e => ?_]; rfl
    obtain ⟨k, hk, e2⟩ := mem_row.1 (hP.subset hy)
    exact hp.none hf k hk (by rw [e2]; exact e)
  | some y =>
    obtain ⟨k, hk, _, e⟩ := (hp id y).1 hf
    rw [isIn_iff.2 (List.mem_map.2 ⟨q k, hP.symm.subset (mem_row.2 ⟨k, hk, rfl⟩), e⟩)]; rfl
def NewPost (w : World) (e : Ending) (w' : World) : Prop := ∃ g F, e = .returned (.pointer (some ⟨g, 0, none⟩)) ∧ HoldsI w' g F [] ∧ Below w.heap.size w w' ∧ ∀ b ∈ F, w.heap.size ≤ b
theorem new_I (w : World) : Calls Try.prog 9 #[] w (NewPost w) := by
  have hmm := @run_makeMap Try.prog
  go_enter Try.func9, Try.ntmps9
  go_wp2
  go_ret
  have M := MapIs.fresh w
  have B := BlkIs.fresh (w.alloc (.map #[] 0)) 54 #[.slice none 0 0, .map (some w.heap.size)]
  refine ⟨w.heap.size + 1, [w.heap.size + 1, w.heap.size], rfl, ⟨fun _ => (0, 0), 0, ⟨_, w.heap.size, [], _, by simpa using B, .inl ⟨rfl, rfl, rfl⟩, M.keep (Below.heap_alloc _ _ _ (by simp)), PlaceOf.fresh _, rfl, by omega, fun k hk => by omega⟩, fun k _ hk => by omega, List.Perm.refl _, Has.nil⟩, ?_, by simp⟩
  exact (below_alloc _ _).trans ((below_alloc _ _).mono (by simp))
theorem hlen_I {w : World} {g : Nat} {F : List Nat} {l : List (Thing Int)} (h : HoldsI w g F l) : Calls Try.prog 16 #[.pointer (some ⟨g, 0, none⟩)] w fun e w' => e = .returned (.int .i64 l.length) ∧ w = w' := by
  obtain ⟨q, n, hI, hH, hP, hS⟩ := h
  have hl : l.length = n := by rw [hP.length_eq, rowq_len]
  rw [hl]
  have HL := Lib.hid (len_I hI)
  clear hI hH hP hS hl
  go_enter Try.func16, Try.ntmps16
  go_wp2_with (go_at_call 34; refine HL.out.mono ?_; rintro e w1 ⟨rfl, rfl⟩)
  go_ret
  exact ⟨rfl, rfl⟩
theorem put_I {w : World} {g : Nat} {F : List Nat} {l : List (Thing Int)} (h : HoldsI w g F l) {id x : Int} (hid : (Lit.int .i64 id).wf = true) (hx : (Lit.int .i64 x).wf = true) (hroom : l.length < 1048576) :
    Calls Try.prog 22 #[.pointer (some ⟨g, 0, none⟩), .int .i64 id, .int .i64 x] w fun e w' => e = .returned (.bool (!isIn l id)) ∧ PutPost w g F (if isIn l id = true then l else ins LtI (id, x) l) w' := by
  have h' := h
  obtain ⟨q, n, hI, hH, hP, hS⟩ := h'
  obtain ⟨m, o, hf, ho⟩ := found hI hP hid
  have c1 := hf.map
  have hlook := hf.look
  cases o with
  | none =>
    have hin : isIn l id = false := hf.is
    rw [hin]
    have HPu := Lib.hid (hpush_I h (x := (id, x)) ⟨hid, hx⟩ hin hroom)
    simp only [Option.getD_none, Option.isSome_none] at hlook
    clear h hI hH hP hS hf ho hin
    go_enter Try.func22, Try.ntmps22
    go_wp2_with (go_at_call 36; refine HPu.out.mono ?_; rintro e w1 ⟨rfl, hR⟩)
    go_ret
    exact ⟨rfl, hR⟩
  | some y =>
    have hin : isIn l id = true := hf.is
    rw [hin]
    have HR : PutPost w g F l w := ⟨F, h, Turned.refl _ _⟩
    simp only [Option.getD_some, Option.isSome_some] at hlook
    clear h hI hH hP hS hf ho hin
    go_enter Try.func22, Try.ntmps22
    go_wp2
    go_ret
    exact ⟨rfl, HR⟩
theorem found_row {w : World} {g : Nat} {F : List Nat} {q : Nat → Thing Int} {n k : Nat} (hI : HI w g F q n) (hk : k < n) :
    ∃ a c, w.cell? ⟨g, 0, none⟩ = some (.slice (some ⟨a, 0, none⟩) n c) ∧ w.cell? ⟨a, k * 2 + 1, none⟩ = some (.int .i64 (q k).2) ∧ w.frozen? ⟨a, k * 2 + 1, none⟩ = false ∧
      ∀ y, (Lit.int .i64 y).wf = true → HI (w.setCell ⟨a, k * 2 + 1, none⟩ (.int .i64 y)) g F (upd q k ((q k).1, y)) n ∧ Only F w (w.setCell ⟨a, k * 2 + 1, none⟩ (.int .i64 y)) := by
  obtain ⟨s, m, G, f, hb, ht, hm, hp, rfl, hn, hw⟩ := hI
  rcases ht with ⟨rfl, rfl, rfl⟩ | ⟨a, c, rfl, rfl, hr⟩
  · omega
  have c0 := hb.cellAt 0
  simp at c0
  obtain ⟨ap1, ap2, ap3⟩ := three_apart hb hm hr (by decide)
  refine ⟨a, c, c0, (hr.cell hk).2, hr.free _, fun y hy => ?_⟩
  have o : Only [a] w (w.setCell ⟨a, k * 2 + 1, none⟩ (.int .i64 y)) := (Only.refl _ _).setCell (p := ⟨a, k * 2 + 1, none⟩) (by simp) _
  refine ⟨⟨_, m, [a], f, hb.only o (by simpa using ap2), .inr ⟨a, c, rfl, rfl, hr.put2 hk y⟩, hm.only o (by simpa using ap3), ?_, rfl, hn, fun j hj => ?_⟩, o.more (by simp)⟩
  · intro id x
    rw [hp id x]
    constructor
    · rintro ⟨j, hj, rfl, e⟩
      refine ⟨j, hj, rfl, ?_⟩
      unfold upd; split
      · rename_i e2; subst e2; exact e
      · exact e
    · rintro ⟨j, hj, rfl, e⟩
      refine ⟨j, hj, rfl, ?_⟩
      unfold upd at e; split at e
      · rename_i e2; subst e2; exact e
      · exact e
  · unfold upd; split
    · exact ⟨(hw k hk).1, hy⟩
    · exact hw j hj
theorem change_I {w : World} {g : Nat} {F : List Nat} {l : List (Thing Int)} (h : HoldsI w g F l) {id x : Int} (hid : (Lit.int .i64 id).wf = true) (hx : (Lit.int .i64 x).wf = true) :
    Calls Try.prog 23 #[.pointer (some ⟨g, 0, none⟩), .int .i64 id, .int .i64 x] w fun e w' => e = .returned (.bool (isIn l id)) ∧ PutPost w g F (if isIn l id = true then ins LtI (id, x) (del l id) else l) w' := by
  have h' := h
  obtain ⟨q, n, hI, hH, hP, hS⟩ := h'
  obtain ⟨m, o, hf, ho⟩ := found hI hP hid
  have c1 := hf.map
  have hlook := hf.look
  have hsz := hI.size
  cases o with
  | none =>
    have hin : isIn l id = false := hf.is
    rw [hin]
    have HR : PutPost w g F l w := ⟨F, h, Turned.refl _ _⟩
    simp only [Option.getD_none, Option.isSome_none] at hlook
    clear h hI hH hP hS hf ho hin
    go_enter Try.func23, Try.ntmps23
    go_wp2
    go_ret
    exact ⟨rfl, HR⟩
  | some y =>
    have hin : isIn l id = true := hf.is
    rw [hin]
    obtain ⟨k, hk, rfl, he⟩ := ho y rfl
    obtain ⟨a, c, d0, d1, d2, d3⟩ := found_row hI hk
    obtain ⟨d4, d5⟩ := d3 x hx
    rw [he] at d4
    have hoff : OffAt LtI (upd q k (id, x)) n k := hH.offAt order_I (fun j hj => by unfold upd; rw [if_neg hj])
    have HF : Hid (Calls Try.prog 39 #[.iface 66 (.pointer (some ⟨g, 0, none⟩)), .int .i64 k] (w.setCell ⟨a, k * 2 + 1, none⟩ (.int .i64 x)) fun e w' => e = .returned (.tuple #[]) ∧ PutPost w g F (ins LtI (id, x) (del l id)) w') := by
      refine Lib.hid ((fix_I d4 hk hoff).mono ?_)
      rintro e w' ⟨rfl, r, g1, g2, g3, g4⟩
      refine ⟨rfl, F, ⟨r, n, g1, g2, ?_, (hS.del id).ins order_I (del_isIn l id)⟩, .of_only (d5.trans' g4)⟩
      have hql : q k ∈ l := hP.symm.subset (mem_row.2 ⟨k, hk, rfl⟩)
      have p1 := del_perm hS.2 hql
      rw [he] at p1
      have p2 := perm_upd (q := q) (id, x) hk
      have p3 : (q k :: row r n).Perm (q k :: (id, x) :: del l id) := ((g3.cons (q k)).trans (p2.trans ((hP.symm.cons _).trans (p1.cons _)))).trans (List.Perm.swap _ _ _)
      exact (ins_perm _ _).trans (List.Perm.cons_inv p3).symm
    simp only [Option.getD_some, Option.isSome_some] at hlook
    have hkn : (k : Int) < (n : Int) := by omega
    have hk0 : (0 : Int) ≤ (k : Int) := by omega
    clear h hI hH hP hS hf ho hin d3 d4 d5 hoff he
    go_enter Try.func23, Try.ntmps23
    go_wp2_with (go_at_call 39; refine HF.out.mono ?_; rintro e w1 ⟨rfl, hR⟩)
    go_ret
    exact ⟨rfl, hR⟩
theorem drop_I {w : World} {g : Nat} {F : List Nat} {l : List (Thing Int)} (h : HoldsI w g F l) {id : Int} (hid : (Lit.int .i64 id).wf = true) :
    Calls Try.prog 27 #[.pointer (some ⟨g, 0, none⟩), .int .i64 id] w fun e w' => e = .returned (.bool (isIn l id)) ∧ PutPost w g F (del l id) w' := by
  have h' := h
  obtain ⟨q, n, hI, hH, hP, hS⟩ := h'
  obtain ⟨m, o, hf, ho⟩ := found hI hP hid
  have c1 := hf.map
  have hlook := hf.look
  cases o with
  | none =>
    have hin : isIn l id = false := hf.is
    rw [hin, del_none hin]
    have HR : PutPost w g F l w := ⟨F, h, Turned.refl _ _⟩
    simp only [Option.getD_none, Option.isSome_none] at hlook
    clear h hI hH hP hS hf ho hin
    go_enter Try.func27, Try.ntmps27
    go_wp2
    go_ret
    exact ⟨rfl, HR⟩
  | some y =>
    have hin : isIn l id = true := hf.is
    rw [hin]
    obtain ⟨k, hk, rfl, he⟩ := ho y rfl
    obtain ⟨n, rfl⟩ : ∃ n', n = n' + 1 := ⟨n - 1, by omega⟩
    have HF : Hid (Calls Try.prog 40 #[.iface 66 (.pointer (some ⟨g, 0, none⟩)), .int .i64 k] w fun e w' => ∃ v, e = .returned v ∧ PutPost w g F (del l id) w') := by
      refine Lib.hid ((hremove_I hI hH hk).mono ?_)
      rintro e w' ⟨v, rfl, r, g1, g2, g3, g4⟩
      refine ⟨v, rfl, F, ⟨r, n, g1, g2, ?_, hS.del id⟩, .of_only g4⟩
      have hql : q k ∈ l := hP.symm.subset (mem_row.2 ⟨k, hk, rfl⟩)
      have p1 := del_perm hS.2 hql
      rw [he] at p1
      exact (List.Perm.cons_inv (g3.trans (hP.symm.trans p1))).symm
    simp only [Option.getD_some, Option.isSome_some] at hlook
    clear h hI hH hP hS hf ho hin he
    go_enter Try.func27, Try.ntmps27
    go_wp2_with (go_at_call 40; refine HF.out.mono ?_; rintro e w1 ⟨v, rfl, hR⟩)
    go_ret
    exact ⟨rfl, hR⟩
theorem worth_I {w : World} {g : Nat} {F : List Nat} {l : List (Thing Int)} (h : HoldsI w g F l) {id : Int} (hid : (Lit.int .i64 id).wf = true) :
    Calls Try.prog 29 #[.pointer (some ⟨g, 0, none⟩), .int .i64 id] w fun e w' => e = .returned (.tuple #[.int .i64 (worthOf 0 l id).1, .bool (worthOf 0 l id).2]) ∧ w = w' := by
  obtain ⟨q, n, hI, hH, hP, hS⟩ := h
  obtain ⟨m, o, hf, ho⟩ := found hI hP hid
  have c1 := hf.map
  have hlook := hf.look
  cases o with
  | none =>
    have hin : isIn l id = false := hf.is
    rw [worthOf_out hin]
    simp only [Option.getD_none, Option.isSome_none] at hlook
    clear hI hH hP hS hf ho hin
    go_enter Try.func29, Try.ntmps29
    go_wp2
    go_ret2
    exact ⟨rfl, rfl⟩
  | some y =>
    obtain ⟨k, hk, rfl, he⟩ := ho y rfl
    obtain ⟨a, c, d0, d1, d2, d3⟩ := found_row hI hk
    have hw := worthOf_in (d := 0) hS.2 (hP.symm.subset (mem_row.2 ⟨k, hk, rfl⟩))
    rw [he] at hw
    rw [hw]
    have hsz := hI.size
    simp only [Option.getD_some, Option.isSome_some] at hlook
    have hkn : (k : Int) < (n : Int) := by omega
    have hk0 : (0 : Int) ≤ (k : Int) := by omega
    obtain ⟨x, hx⟩ : ∃ x, x = (q k).2 := ⟨_, rfl⟩
    rw [← hx] at d1 ⊢
    clear hI hH hP hS hf ho d3 he hw hx
    go_enter Try.func29, Try.ntmps29
    go_wp2
    go_ret2
    exact ⟨rfl, rfl⟩
theorem first_none_I {w : World} {g : Nat} {F : List Nat} (h : HoldsI w g F []) :
    Calls Try.prog 28 #[.pointer (some ⟨g, 0, none⟩)] w fun e w' => e = .returned (.tuple #[.int .i64 0, .int .i64 0, .bool false]) ∧ w = w' := by
  have HL : Hid (Calls Try.prog 16 #[.pointer (some ⟨g, 0, none⟩)] w fun e w' => e = .returned (.int .i64 0) ∧ w = w') := Lib.hid (hlen_I h)
  clear h
  go_enter Try.func28, Try.ntmps28
  go_wp2_with (go_at_call 16; refine HL.out.mono ?_; rintro e w1 ⟨rfl, rfl⟩)
  go_ret3
  exact ⟨rfl, rfl⟩
theorem first_some_I {w : World} {g : Nat} {F : List Nat} {x : Thing Int} {l : List (Thing Int)} (h : HoldsI w g F (x :: l)) :
    Calls Try.prog 28 #[.pointer (some ⟨g, 0, none⟩)] w fun e w' => e = .returned (.tuple #[.int .i64 x.1, .int .i64 x.2, .bool true]) ∧ Below w.heap.size w w' := by
  have hL := hlen_I h
  obtain ⟨n, hn⟩ : ∃ n, n = l.length := ⟨_, rfl⟩
  rw [List.length_cons, ← hn] at hL
  obtain ⟨q, n', hI, hH, hP, hS⟩ := h
  obtain ⟨h0, rfl⟩ := first_is order_I hH hS.1 hP
  rw [← hn] at hI
  have hsz := hI.size
  obtain ⟨s, m, G, f, hb, ht, hm, hp, rfl, _, hw⟩ := hI
  rcases ht with ⟨rfl, h2, rfl⟩ | ⟨a, c, rfl, rfl, hr⟩
  · omega
  have c0 := hb.cellAt 0
  obtain ⟨c1, c2⟩ := hr.cell (k := 0) (by omega)
  rw [h0] at c1 c2
  simp at c0 c1 c2
  have HL : Hid (Calls Try.prog 16 #[.pointer (some ⟨g, 0, none⟩)] w fun e w' => e = .returned (.int .i64 ((n : Int) + 1)) ∧ w = w') := Lib.hid hL
  have hne : ((n : Int) + 1 == 0) = false := by simp; omega
  have hlt : (0 : Int) < (n : Int) + 1 := by omega
  clear hL hH hP hS hn h0 hb hm hp hw hr
  go_enter Try.func28, Try.ntmps28
  go_wp2_with (go_at_call 16; refine HL.out.mono ?_; rintro e w1 ⟨rfl, rfl⟩)
  go_quiet (fail)
  go_wp2
  go_ret3
  exact ⟨rfl, (below_alloc w _).trans ⟨rfl, rfl, rfl, Nat.le_refl _, fun _ _ => rfl⟩⟩
theorem take_none_I {w : World} {g : Nat} {F : List Nat} (h : HoldsI w g F []) :
    Calls Try.prog 17 #[.pointer (some ⟨g, 0, none⟩)] w fun e w' => e = .returned (.tuple #[.int .i64 0, .int .i64 0, .bool false]) ∧ w = w' := by
  have HL := Lib.hid (first_none_I h)
  clear h
  go_enter Try.func17, Try.ntmps17
  go_wp2_with (go_at_call 28; refine HL.out.mono ?_; rintro e w1 ⟨rfl, rfl⟩)
  go_ret3
  exact ⟨rfl, rfl⟩
theorem take_some_I {w : World} {g : Nat} {F : List Nat} {x : Thing Int} {l : List (Thing Int)} (h : HoldsI w g F (x :: l)) :
    Calls Try.prog 17 #[.pointer (some ⟨g, 0, none⟩)] w fun e w' => e = .returned (.tuple #[.int .i64 x.1, .int .i64 x.2, .bool true]) ∧ HoldsI w' g F l ∧ Only F w w' := by
  have HL := Lib.hid (first_some_I h)
  have HP : Hid (∀ w1, Below w.heap.size w w1 → Calls Try.prog 35 #[.iface 66 (.pointer (some ⟨g, 0, none⟩))] w1 fun e w' => ∃ v, e = .returned v ∧ HoldsI w' g F l ∧ Only F w w') := by
    refine Lib.hid fun w1 hb => ?_
    obtain ⟨q, n, h1, h2, h3, h4⟩ := h
    refine (hpop_I ⟨q, n, h1.below hb, h2, h3, h4⟩).mono ?_
    rintro e w' ⟨v, rfl, g1, g2⟩
    exact ⟨v, rfl, g1, (Only.of_below hb).trans' g2⟩
  clear h
  go_enter Try.func17, Try.ntmps17
  go_wp2_with (first
    | (go_at_call 28; refine HL.out.mono ?_; rintro e w1 ⟨rfl, hb⟩)
    | (go_at_call 35; refine (HP.out _ hb).mono ?_; rintro e w2 ⟨v, rfl, hR, hO⟩))
  go_ret3
  exact ⟨rfl, hR, hO⟩
end Go.Proofs.Ytgpnpopmlommaaa
