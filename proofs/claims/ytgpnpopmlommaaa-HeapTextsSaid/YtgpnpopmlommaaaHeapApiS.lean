/- The heap's own functions: what each tells, and leaves. -/
import Derived.Test.YtgpnpopmlommaaaHeapOpsS
namespace Go.Proofs.Ytgpnpopmlommaaa.Txt
open Go.RowKit Go.Maps
set_option linter.unusedVariables false
theorem worthOf_in {α : Type} {d : α} {l : List (Thing α)} (hn : (l.map (·.1)).Nodup) {x : Thing α} (hx : x ∈ l) : worthOf d l x.1 = (x.2, true) := by
  unfold worthOf
  induction l with
  | nil => cases hx
  | cons y r ih =>
    have hn2 := List.nodup_cons.1 (show (y.1 :: r.map (·.1)).Nodup by simpa using hn)
    rcases List.mem_cons.1 hx with e | e
    · subst e; simp
    · have hne : y.1 ≠ x.1 := fun e2 => hn2.1 (List.mem_map.2 ⟨x, e, e2.symm⟩)
      rw [List.find?_cons_of_neg (by simpa using hne)]
      exact ih hn2.2 e
theorem worthOf_out {α : Type} {d : α} {l : List (Thing α)} {id : Int} (h : isIn l id = false) : worthOf d l id = (d, false) := by
  unfold worthOf
  rw [List.find?_eq_none.2 (fun y hy => by simpa using isIn_false.1 h y hy)]
theorem perm_upd {α : Type} {q : Nat → Thing α} {k : Nat} (y : Thing α) : ∀ {n : Nat}, k < n → (q k :: row (upd q k y) n).Perm (y :: row q n)
  | 0, h => by omega
  | n + 1, h => by
    rw [row_succ, row_succ]
    by_cases e : k = n
    · subst e
      have e1 : upd q k y k = y := by unfold upd; rw [if_pos rfl]
      have e2 : row (upd q k y) k = row q k := row_congr fun j hj => by unfold upd; rw [if_neg (by omega)]
      rw [e1, e2]
      exact ((List.perm_append_singleton y (row q k)).cons _).trans ((List.Perm.swap y (q k) _).trans ((List.perm_append_singleton (q k) (row q k)).symm.cons _))
    · have e1 : upd q k y n = q n := by unfold upd; rw [if_neg (by omega)]
      rw [e1]
      exact (perm_upd y (by omega : k < n)).append_right [q n]
/-- Where a number is looked up. -/
structure Found (w : World) (g : Nat) (F : List Nat) (l : List (Thing ByteArray)) (id : Int) (m : Nat) (x : Option Int) : Prop where
  map : w.cell? ⟨g, 1, none⟩ = some (.map (some m))
  look : (Instr.lookup 49 (.map (some m)) (.int .i64 id) true).run Try.prog w = .ok (.tuple #[.int .i64 (x.getD 0), .bool x.isSome]) w
  is : isIn l id = x.isSome
theorem found {w : World} {g : Nat} {F : List Nat} {l : List (Thing ByteArray)} {q : Nat → Thing ByteArray} {n : Nat} (hI : HI w g F q n) (hP : l.Perm (row q n)) {id : Int} (hid : (Lit.int .i64 id).wf = true) :
    ∃ m x, Found w g F l id m x ∧ ∀ y, x = some y → ∃ k : Nat, k < n ∧ y = (k : Int) ∧ (q k).1 = id := by
  obtain ⟨s, m, G, f, hb, ht, hm, hp, rfl, hn, hw⟩ := hI
  have c1 := hb.cellAt 1
  simp at c1
  refine ⟨m, f id, ⟨c1, hm.look hid, ?_⟩, fun y hy => (hp id y).1 hy⟩
  cases hf : f id with
  | none =>
    rw [isIn_false.2 fun y hy e => ?_]; rfl
    obtain ⟨k, hk, e2⟩ := mem_row.1 (hP.subset hy)
    exact hp.none hf k hk (by rw [e2]; exact e)
  | some y =>
    obtain ⟨k, hk, _, e⟩ := (hp id y).1 hf
    rw [isIn_iff.2 (List.mem_map.2 ⟨q k, hP.symm.subset (mem_row.2 ⟨k, hk, rfl⟩), e⟩)]; rfl
def NewPost (w : World) (e : Ending) (w' : World) : Prop := ∃ g F, e = .returned (.pointer (some ⟨g, 0, none⟩)) ∧ HoldsI w' g F [] ∧ Below w.heap.size w w' ∧ ∀ b ∈ F, w.heap.size ≤ b
theorem new_I (w : World) : Calls Try.prog 18 #[] w (NewPost w) := by
  have hmm := @run_makeMap Try.prog
  go_enter Try.func18, Try.ntmps18
  go_wp2
  go_ret
  have M := MapIs.fresh w
  have B := BlkIs.fresh (w.alloc (.map #[] 0)) 71 #[.slice none 0 0, .map (some w.heap.size)]
  refine ⟨w.heap.size + 1, [w.heap.size + 1, w.heap.size], rfl, ⟨fun _ => (0, ⟨#[]⟩), 0, ⟨_, w.heap.size, [], _, by simpa using B, .inl ⟨rfl, rfl, rfl⟩, M.keep (Below.heap_alloc _ _ _ (by simp)), PlaceOf.fresh _, rfl, by omega, fun k hk => by omega⟩, fun k _ hk => by omega, List.Perm.refl _, Has.nil⟩, ?_, by simp⟩
  exact (below_alloc _ _).trans ((below_alloc _ _).mono (by simp))
theorem hlen_I {w : World} {g : Nat} {F : List Nat} {l : List (Thing ByteArray)} (h : HoldsI w g F l) : Calls Try.prog 21 #[.pointer (some ⟨g, 0, none⟩)] w fun e w' => e = .returned (.int .i64 l.length) ∧ w = w' := by
  obtain ⟨q, n, hI, hH, hP, hS⟩ := h
  have hl : l.length = n := by rw [hP.length_eq, rowq_len]
  rw [hl]
  have HL := Lib.hid (len_I hI)
  clear hI hH hP hS hl
  go_enter Try.func21, Try.ntmps21
  go_wp2_with (go_at_call 38; refine HL.out.mono ?_; rintro e w1 ⟨rfl, rfl⟩)
  go_ret
  exact ⟨rfl, rfl⟩
theorem put_I {w : World} {g : Nat} {F : List Nat} {l : List (Thing ByteArray)} (h : HoldsI w g F l) {id : Int} {x : ByteArray} (hid : (Lit.int .i64 id).wf = true) (hx : True) (hroom : l.length < 1048576) :
    Calls Try.prog 19 #[.pointer (some ⟨g, 0, none⟩), .int .i64 id, .string x] w fun e w' => e = .returned (.bool (!isIn l id)) ∧ PutPost w g F (if isIn l id = true then l else ins LtS (id, x) l) w' := by
  have h' := h
  obtain ⟨q, n, hI, hH, hP, hS⟩ := h'
  obtain ⟨m, o, hf, ho⟩ := found hI hP hid
  have c1 := hf.map
  have hlook := hf.look
  cases o with
  | none =>
    have hin : isIn l id = false := hf.is
    rw [hin]
    have HPu := Lib.hid (hpush_I h (x := (id, x)) ⟨hid, hx⟩ hin hroom)
    simp only [Option.getD_none, Option.isSome_none] at hlook
    clear h hI hH hP hS hf ho hin
    go_enter Try.func19, Try.ntmps19
    go_wp2_with (go_at_call 36; refine HPu.out.mono ?_; rintro e w1 ⟨rfl, hR⟩)
    go_ret
    exact ⟨rfl, hR⟩
  | some y =>
    have hin : isIn l id = true := hf.is
    rw [hin]
    have HR : PutPost w g F l w := ⟨F, h, Turned.refl _ _⟩
    simp only [Option.getD_some, Option.isSome_some] at hlook
    clear h hI hH hP hS hf ho hin
    go_enter Try.func19, Try.ntmps19
    go_wp2
    go_ret
    exact ⟨rfl, HR⟩
theorem first_none_I {w : World} {g : Nat} {F : List Nat} (h : HoldsI w g F []) :
    Calls Try.prog 37 #[.pointer (some ⟨g, 0, none⟩)] w fun e w' => e = .returned (.tuple #[.int .i64 0, .string ⟨#[]⟩, .bool false]) ∧ w = w' := by
  have HL : Hid (Calls Try.prog 21 #[.pointer (some ⟨g, 0, none⟩)] w fun e w' => e = .returned (.int .i64 0) ∧ w = w') := Lib.hid (hlen_I h)
  clear h
  go_enter Try.func37, Try.ntmps37
  go_wp2_with (go_at_call 21; refine HL.out.mono ?_; rintro e w1 ⟨rfl, rfl⟩)
  go_ret3
  exact ⟨rfl, rfl⟩
theorem first_some_I {w : World} {g : Nat} {F : List Nat} {x : Thing ByteArray} {l : List (Thing ByteArray)} (h : HoldsI w g F (x :: l)) :
    Calls Try.prog 37 #[.pointer (some ⟨g, 0, none⟩)] w fun e w' => e = .returned (.tuple #[.int .i64 x.1, .string x.2, .bool true]) ∧ Below w.heap.size w w' := by
  have hL := hlen_I h
  obtain ⟨n, hn⟩ : ∃ n, n = l.length := ⟨_, rfl⟩
  rw [List.length_cons, ← hn] at hL
  obtain ⟨q, n', hI, hH, hP, hS⟩ := h
  obtain ⟨h0, rfl⟩ := first_is order_I hH hS.1 hP
  rw [← hn] at hI
  have hsz := hI.size
  obtain ⟨s, m, G, f, hb, ht, hm, hp, rfl, _, hw⟩ := hI
  rcases ht with ⟨rfl, h2, rfl⟩ | ⟨a, c, rfl, rfl, hr⟩
  · omega
  have c0 := hb.cellAt 0
  obtain ⟨c1, c2⟩ := hr.cell (k := 0) (by omega)
  rw [h0] at c1 c2
  simp at c0 c1 c2
  have HL : Hid (Calls Try.prog 21 #[.pointer (some ⟨g, 0, none⟩)] w fun e w' => e = .returned (.int .i64 ((n : Int) + 1)) ∧ w = w') := Lib.hid hL
  have hne : ((n : Int) + 1 == 0) = false := by simp; omega
  have hlt : (0 : Int) < (n : Int) + 1 := by omega
  clear hL hH hP hS hn h0 hb hm hp hw hr
  go_enter Try.func37, Try.ntmps37
  go_wp2_with (go_at_call 21; refine HL.out.mono ?_; rintro e w1 ⟨rfl, rfl⟩)
  go_quiet (fail)
  go_wp2
  go_ret3
  exact ⟨rfl, (below_alloc w _).trans ⟨rfl, rfl, rfl, Nat.le_refl _, fun _ _ => rfl⟩⟩
theorem take_none_I {w : World} {g : Nat} {F : List Nat} (h : HoldsI w g F []) :
    Calls Try.prog 20 #[.pointer (some ⟨g, 0, none⟩)] w fun e w' => e = .returned (.tuple #[.int .i64 0, .string ⟨#[]⟩, .bool false]) ∧ w = w' := by
  have HL := Lib.hid (first_none_I h)
  clear h
  go_enter Try.func20, Try.ntmps20
  go_wp2_with (go_at_call 37; refine HL.out.mono ?_; rintro e w1 ⟨rfl, rfl⟩)
  go_ret3
  exact ⟨rfl, rfl⟩
theorem take_some_I {w : World} {g : Nat} {F : List Nat} {x : Thing ByteArray} {l : List (Thing ByteArray)} (h : HoldsI w g F (x :: l)) :
    Calls Try.prog 20 #[.pointer (some ⟨g, 0, none⟩)] w fun e w' => e = .returned (.tuple #[.int .i64 x.1, .string x.2, .bool true]) ∧ HoldsI w' g F l ∧ Only F w w' := by
  have HL := Lib.hid (first_some_I h)
  have HP : Hid (∀ w1, Below w.heap.size w w1 → Calls Try.prog 35 #[.iface 73 (.pointer (some ⟨g, 0, none⟩))] w1 fun e w' => ∃ v, e = .returned v ∧ HoldsI w' g F l ∧ Only F w w') := by
    refine Lib.hid fun w1 hb => ?_
    obtain ⟨q, n, h1, h2, h3, h4⟩ := h
    refine (hpop_I ⟨q, n, h1.below hb, h2, h3, h4⟩).mono ?_
    rintro e w' ⟨v, rfl, g1, g2⟩
    exact ⟨v, rfl, g1, (Only.of_below hb).trans' g2⟩
  clear h
  go_enter Try.func20, Try.ntmps20
  go_wp2_with (first
    | (go_at_call 37; refine HL.out.mono ?_; rintro e w1 ⟨rfl, hb⟩)
    | (go_at_call 35; refine (HP.out _ hb).mono ?_; rintro e w2 ⟨v, rfl, hR, hO⟩))
  go_ret3
  exact ⟨rfl, hR, hO⟩
end Go.Proofs.Ytgpnpopmlommaaa.Txt
