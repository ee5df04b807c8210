/- TextJoins, off its code. -/
import Derived.Test.YtgkfkgioneahpaaDoorTextLinesL
import Derived.Test.YtgkfkgioneahpaaDoorTextPureC
import Derived.Deep.Upon
namespace Go.Proofs.YtgkfkgioneahpaaDoor
open Go.RowKit Go.ChangeShapes Go.WideShapes
open Go.ChangeMaps (open_string shut_string)
set_option linter.unusedVariables false
theorem run_append_none (w : World) (ty : TypeId) (A : Option Addr) (n c : Nat) (h : n ≤ c) :
    (Builtin.append_ #[22, 22] ty #[.slice A n c, .slice none 0 0]).run Tryd.prog w = .ok (.slice A n c) w := by
  obtain ⟨j0, hj, jz0, jz1, jz2⟩ := info_parts info_row
  cases A <;> simp [Builtin.append_, run_underlying Tryd.underlying22, sizeOf, typeInfo, hj, h, storeCells, Builtin.lenOf, Builtin.firstCells]
/-- Rows of lines are put behind a row of the caller's own. -/
theorem wpList_append_lines {ops : Array Oper} {rest : List Oper} {o : Oper} {a : Act} {Q : Exit → Act → World → Prop} {w : World} (hgd : o.guard = none) (s x : Operand)
    (ho : o.op = .call { callee := .builtin .append, args := #[s, x], argTypes := #[22, 22] }) (base : Nat) (v xv : Value) (us ms : List Value) (hs : a.eval s = v) (hown : w.ownsRow base 29 1 v us.length us)
    (hx : a.eval x = xv) (hxr : w.ownsRow 0 29 1 xv ms.length ms) (h63 : us.length + ms.length ≤ 1000) (hbase : base ≤ w.heap.size) (hms : ∀ u ∈ ms, u.oneCell' = true)
    (h : ∀ v' w', w'.ownsRow base 29 1 v' (us.length + ms.length) (us ++ ms) → w.grownBy w' v.ownBlock → wpList Tryd.prog ops Q rest (a.put o.dst v') w') : wpList Tryd.prog ops Q (o :: rest) a w := by
  obtain ⟨j0, hj, jz0, jz1, jz2⟩ := info_parts info_row
  rcases hxr.2 with ⟨rfl, h0⟩ | ⟨g, cap, cur, rfl, _, hg, hc, hm, hcs, htk⟩
  · obtain rfl : ms = [] := List.length_eq_zero_iff.1 h0
    obtain ⟨A, c, e, hle⟩ := own_form hown
    refine wpList_plain hgd fun K hK => ?_
    have hrun := run_append_none w o.type A us.length c hle
    unfold Oper.wp
    simp [execOp, ho, resolve, invoke, builtin, hs, hx, e, hrun, Result.andThen]
    rw [← e]
    exact hK _ _ (h v w (by simpa using hown) ⟨rfl, rfl, rfl, Nat.le_refl _, fun _ _ _ => rfl⟩)
  · refine wpList_append_own _ hgd s x 22 ho base 29 j0 (.slice none 0 0) 1 24 Tryd.underlying22 hj jz0 jz1 jz2 rfl (by decide) v _ us hs hown ⟨g, 0, none⟩ ms.length cap ms hx (by omega) ?_ hms (by unfold maxLen; omega) (by omega) hbase fun v' w' h1 h2 _ => h v' w' h1 h2
    intro j u hu
    have hjl : j < ms.length := (List.getElem?_eq_some_iff.1 hu).1
    have := World.ownsRow.cellAt hxr j (by omega)
    have ea : (⟨g, 0, none⟩ : Addr).add j = ⟨g, j, none⟩ := by unfold Addr.add; split <;> simp_all
    rw [ea, this]
    exact hu
theorem rows_one {W : World} {ls : List (List (List UInt8))} {us : List Value} (h : Fit (fun l u => RowS W 0 u l) ls us) : ∀ u ∈ us, u.oneCell' = true := by
  intro u hu
  obtain ⟨k, hk, rfl⟩ := List.getElem_of_mem hu
  have hl : ls.length = us.length := by
    clear hk hu
    induction ls generalizing us with
    | nil => cases us with | nil => rfl | cons _ _ => exact h.elim
    | cons l ls ih => cases us with | nil => exact h.elim | cons u us => simp only [List.length_cons]; rw [ih h.2]
  obtain ⟨hu2, hr⟩ := h.at k (by omega)
  obtain ⟨A, c, e, _⟩ := own_form hr
  rw [e]
  rfl
theorem fit_app {W : World} : ∀ {la lb : List (List (List UInt8))} {ua ub : List Value}, Fit (fun l u => RowS W 0 u l) la ua → Fit (fun l u => RowS W 0 u l) lb ub → Fit (fun l u => RowS W 0 u l) (la ++ lb) (ua ++ ub)
  | [], _, [], _, _, h => h
  | _ :: _, _, _ :: _, _, h, h' => ⟨h.1, fit_app h.2 h'⟩
theorem lines_code_any (X : ByteArray) (hX : X.size ≤ 1000) (w : World) :
    Calls Tryd.prog 9 #[.string X] w fun e W' => ∃ v z, e = .returned (.tuple #[v, .int .i64 z]) ∧ Below w.heap.size w W' := by
  cases h : linesD X.data.toList with
  | none => exact (lines_code_no X hX h w).mono fun e W' ⟨h1, h2⟩ => ⟨_, _, h1, h2⟩
  | some ls => exact (lines_code_yes X hX ls h w).mono fun e W' ⟨v, h1, _, h2⟩ => ⟨v, _, h1, h2⟩
theorem app_list (X Y : ByteArray) : (X ++ Y).data.toList = X.data.toList ++ Y.data.toList := by simp
theorem app_size (X Y : ByteArray) : (X ++ Y).size = X.size + Y.size := by rw [← list_len, ← list_len, ← list_len, app_list, List.length_append]
set_option maxRecDepth 100000 in
set_option maxHeartbeats 8000000 in
theorem joins_no (s t X Y : ByteArray) (hs : s.size ≤ maxLen) (ht : t.size ≤ maxLen) (hX : X.size ≤ 100) (hY : Y.size ≤ 100) (c1 : (100 < s.size ∧ s.extract 0 100 = X) ∨ (¬ 100 < s.size ∧ s = X)) (c2 : (100 < t.size ∧ t.extract 0 100 = Y) ∨ (¬ 100 < t.size ∧ t = Y))
    (h : linesD X.data.toList = none ∨ linesD Y.data.toList = none) (w : World) :
    Calls Tryd.prog 7 #[.string s, .string t] w fun e W' => e = .returned (.bool true) ∧ Below w.heap.size w W' := by
  have CL := fun W => lives5_any W
  have C3 := fun W => lines_code_any (X ++ Y) (by rw [app_size]; omega) W
  have hsz := app_size X Y
  unfold maxLen at hs ht
  have C12 : (∃ z1 z2 : Int, (∀ W, Calls Tryd.prog 9 #[.string X] W fun e W' => ∃ v, e = .returned (.tuple #[v, .int .i64 z1]) ∧ Below W.heap.size W W') ∧
      (∀ W, Calls Tryd.prog 9 #[.string Y] W fun e W' => ∃ v, e = .returned (.tuple #[v, .int .i64 z2]) ∧ Below W.heap.size W W') ∧ ((z1 != 0) = true ∨ ((z1 != 0) = false ∧ (z2 != 0) = true))) := by
    rcases h1 : linesD X.data.toList with _ | lx
    · rcases h2 : linesD Y.data.toList with _ | ly
      · exact ⟨2, 2, fun W => (lines_code_no X (by omega) h1 W).mono fun e W' ⟨a, b⟩ => ⟨_, a, b⟩, fun W => (lines_code_no Y (by omega) h2 W).mono fun e W' ⟨a, b⟩ => ⟨_, a, b⟩, .inl (by decide)⟩
      · exact ⟨2, 0, fun W => (lines_code_no X (by omega) h1 W).mono fun e W' ⟨a, b⟩ => ⟨_, a, b⟩, fun W => (lines_code_yes Y (by omega) ly h2 W).mono fun e W' ⟨v, a, _, b⟩ => ⟨v, a, b⟩, .inl (by decide)⟩
    · rcases h2 : linesD Y.data.toList with _ | ly
      · exact ⟨0, 2, fun W => (lines_code_yes X (by omega) lx h1 W).mono fun e W' ⟨v, a, _, b⟩ => ⟨v, a, b⟩, fun W => (lines_code_no Y (by omega) h2 W).mono fun e W' ⟨a, b⟩ => ⟨_, a, b⟩, .inr (by decide)⟩
      · rcases h with h | h
        · rw [h1] at h; cases h
        · rw [h2] at h; cases h
  obtain ⟨z1, z2, C1, C2, hz⟩ := C12
  clear h
  rcases hz with hz | ⟨hz, hz2⟩
  all_goals
    rcases c1 with ⟨hl1, hX1⟩ | ⟨hl1, rfl⟩
    all_goals
      rcases c2 with ⟨hl2, hY1⟩ | ⟨hl2, rfl⟩
      all_goals
        go_enter Tryd.func7, Tryd.ntmps7
        go_wp2_with (first
          | (go_at_call 9; with_reducible refine (C1 _).mono ?_; clear C1; rintro e w1 ⟨v1, rfl, hb1⟩)
          | (go_at_call 9; with_reducible refine (C2 _).mono ?_; clear C2; rintro e w2 ⟨v2, rfl, hb2⟩)
          | (go_at_call 9; with_reducible refine (C3 _).mono ?_; clear C3; rintro e w3 ⟨v3, z3, rfl, hb3⟩)
          | (go_at_call 12; refine (CL _).mono ?_; clear CL; rintro e w4 ⟨rfl, hb4⟩))
        go_ret
        exact ⟨rfl, ((hb1.trans (hb2.mono hb1.size)).trans (hb3.mono (by have := hb1.size; have := hb2.size; omega))).trans (hb4.mono (by have := hb1.size; have := hb2.size; have := hb3.size; omega))⟩
/-- What is known of the rows of a text's lines. -/
theorem LinesOf.rows {W : World} {v : Value} {ls : List (List (List UInt8))} (h : LinesOf W v ls) : ∃ us, us.length = ls.length ∧ W.ownsRow 0 29 1 v us.length us ∧ Fit (fun l u => RowS W 0 u l) ls us := by
  obtain ⟨us, h1, h2⟩ := h
  have hl : us.length = ls.length := by simpa using h1.1
  exact ⟨us, hl, by rw [hl]; exact h1, h2⟩
set_option maxRecDepth 100000 in
set_option maxHeartbeats 8000000 in
theorem joins_yes (s t X Y : ByteArray) (hs : s.size ≤ maxLen) (ht : t.size ≤ maxLen) (hX : X.size ≤ 100) (hY : Y.size ≤ 100) (c1 : (100 < s.size ∧ s.extract 0 100 = X) ∨ (¬ 100 < s.size ∧ s = X)) (c2 : (100 < t.size ∧ t.extract 0 100 = Y) ∨ (¬ 100 < t.size ∧ t = Y))
    (lx ly : List (List (List UInt8))) (h1 : linesD X.data.toList = some lx) (h2 : linesD Y.data.toList = some ly) (w : World) :
    Calls Tryd.prog 7 #[.string s, .string t] w fun e W' => e = .returned (.bool true) ∧ Below w.heap.size w W' := by
  have CL := fun W => lives5_any W
  have C1 := fun W => lines_code_yes X (by omega) lx h1 W
  have C2 := fun W => lines_code_yes Y (by omega) ly h2 W
  have h3 : linesD (X ++ Y).data.toList = some (lx ++ ly) := by rw [app_list]; exact linesD_app h1 h2
  have C3 := fun W => lines_code_yes (X ++ Y) (by rw [app_size]; omega) _ h3 W
  have hsz := app_size X Y
  obtain ⟨bx, _⟩ := linesD_bd h1
  obtain ⟨by', _⟩ := linesD_bd h2
  rw [list_len] at bx by'
  obtain ⟨_, b2⟩ := linesD_bd h3
  have C4 := fun a b W (ha : LinesOf W a (lx ++ ly)) (hb : LinesOf W b (lx ++ ly)) => same_yes a b _ W ha hb (by rw [List.length_append]; omega) (fun l hl => by have := b2 l hl; rw [list_len, hsz] at this; omega)
  unfold maxLen at hs ht
  clear h1 h2 h3 b2
  rcases c1 with ⟨hl1, hX1⟩ | ⟨hl1, rfl⟩
  all_goals
    rcases c2 with ⟨hl2, hY1⟩ | ⟨hl2, rfl⟩
    all_goals
      go_enter Tryd.func7, Tryd.ntmps7
      go_wp2_with (first
        | (go_at_call 9; with_reducible refine (C1 _).mono ?_; clear C1; rintro e w1 ⟨v1, rfl, hL1, hb1⟩)
        | (go_at_call 9; with_reducible refine (C2 _).mono ?_; clear C2; rintro e w2 ⟨v2, rfl, hL2, hb2⟩)
        | (go_at_call 9; with_reducible refine (C3 _).mono ?_; clear C3; rintro e w3 ⟨v3, rfl, hL3, hb3⟩; obtain ⟨us1, n1, r1, f1⟩ := ((hL1.keep hb2).keep hb3).rows; obtain ⟨us2, n2, r2, f2⟩ := (hL2.keep hb3).rows; have o1 := rows_one f1; have o2 := rows_one f2; have B0 := (hb1.trans (hb2.mono hb1.size)).trans (hb3.mono (by have := hb1.size; have := hb2.size; omega)))
        | (at_builtin; refine wpList_append_lines rfl _ _ rfl w3.heap.size (.slice none 0 0) v1 [] us1 rfl (World.ownsRow_nil _ _ _ _) rfl r1 (by simp; omega) (Nat.le_refl _) o1 ?_; clear o1; intro v4 w4 hown4 hgrow4; have B4 : Below w3.heap.size w3 w4 := (Below.refl _ _).grown hgrow4 (Nat.le_refl _) (fun k hk => by simp [Value.ownBlock] at hk); rw [List.nil_append, List.length_nil, Nat.zero_add] at hown4; have r2' := own_keep r2 B4; clear hgrow4 r1 r2)
        | (at_builtin; refine wpList_append_lines rfl _ _ rfl w3.heap.size v4 v2 us1 us2 rfl hown4 rfl r2' (by omega) B4.size o2 ?_; clear o2; intro v5 w5 hown5 hgrow5; have B5 : Below w3.heap.size w3 w5 := B4.grown hgrow5 B4.size (own_ge hown4); have hL5 : LinesOf w5 v5 (lx ++ ly) := ⟨us1 ++ us2, by rw [List.length_append, ← n1, ← n2]; exact own_base hown5 (Nat.zero_le _), fit_app (f1.mono fun l u hu => own_keep hu B5) (f2.mono fun l u hu => own_keep hu B5)⟩; have HL3 := Go.Lib.hid (hL3.keep B5); have HB5 := Go.Lib.hid (B0.trans (B5.mono B0.size)); clear hgrow5 hown5 hown4 r2' B4 B5)
        | (go_at_call 11; refine (C4 _ _ _ HL3.out hL5).mono ?_; rintro e w6 ⟨rfl, hb6⟩)
        | (go_at_call 12; refine (CL _).mono ?_; clear CL; rintro e w7 ⟨rfl, hb7⟩))
      go_ret
      exact ⟨rfl, (HB5.out.trans (hb6.mono HB5.out.size)).trans (hb7.mono (by have := HB5.out.size; have := hb6.size; omega))⟩
theorem joins_any (s t : ByteArray) (hs : s.size ≤ maxLen) (ht : t.size ≤ maxLen) (w : World) :
    Calls Tryd.prog 7 #[.string s, .string t] w fun e W' => e = .returned (.bool true) ∧ Below w.heap.size w W' := by
  obtain ⟨X, hX, c1⟩ := cut_cases s 100
  obtain ⟨Y, hY, c2⟩ := cut_cases t 100
  rcases h1 : linesD X.data.toList with _ | lx
  · exact joins_no s t X Y hs ht hX hY c1 c2 (.inl h1) w
  · rcases h2 : linesD Y.data.toList with _ | ly
    · exact joins_no s t X Y hs ht hX hY c1 c2 (.inr h2) w
    · exact joins_yes s t X Y hs ht hX hY c1 c2 lx ly h1 h2 w
section
variable {H : Type} {enc : TypeId × Value → H} {base : Nat}
theorem joins_frame (W : World) {v0 v1 : Value} {d0 d1 : DataW H} {p0 p1 : List MemPlace} (k0 : DataW.Trod enc Tryd.prog W 0 (fun _ => true) true 9 v0 d0 p0) (o0 : Value.okWide Tryd.prog W .any base 9 v0)
    (k1 : DataW.Trod enc Tryd.prog W 0 (fun _ => true) true 9 v1 d1 p1) (o1 : Value.okWide Tryd.prog W .any base 9 v1) :
    Calls Tryd.prog 7 #[v0, v1] W fun e w' => e = .returned (.bool true) ∧ Below W.heap.size W w' := by
  obtain ⟨s, rfl, _, _, hs⟩ := open_string Tryd.underlying9 o0 k0
  obtain ⟨t, rfl, _, _, ht⟩ := open_string Tryd.underlying9 o1 k1
  exact joins_any s t hs ht W
end
end Go.Proofs.YtgkfkgioneahpaaDoor
