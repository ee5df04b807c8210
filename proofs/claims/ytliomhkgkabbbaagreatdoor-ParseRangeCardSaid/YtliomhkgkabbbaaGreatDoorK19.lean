import Derived.Test.YtliomhkgkabbbaaGreatDoorK15
import Derived.Test.YtliomhkgkabbbaaGreatDoorK17
import Derived.Maps.AppendAt
section
/- What named answers, off its code: the numbers of a line with these names, each ahead of its number. -/
namespace Go.Proofs.YtliomhkgkabbbaaGreatDoor
open Go.RowKit
set_option linter.unusedVariables false
set_option maxRecDepth 20000
/-- append onto a slice of the call's own, and where it lies then. -/
theorem wpList_append_at {P : Program} {w : World} {ops : Array Oper} {rest : List Oper} {o : Oper} {a : Act} {Q : Exit → Act → World → Prop} (hgd : o.guard = none) (s x : Operand) (t : TypeId)
    (hop : o.op = .call { callee := .builtin .append, args := #[s, x], argTypes := #[t, t] })
    (base : Nat) (e : TypeId) (i : TypeInfo) (z : Value) (size bytes : Nat) (h1 : P.underlying t = some (.slice e)) (h2 : P.info? e = some i) (h3 : i.zero = some z) (h4 : i.size = size) (h5 : i.bytes = bytes) (h6 : z.cells.size = size) (h7 : 0 < size)
    (v : Value) (n : Nat) (xs : List Value) (hs : a.eval s = v) (hown : w.ownsRow base e size v n xs)
    (ad : Addr) (m c : Nat) (news : List Value) (hx : a.eval x = .slice (some ad) m c) (hn : news.length = m * size) (hc : ∀ j u, news[j]? = some u → w.cell? (ad.add j) = some u) (h1c : ∀ u ∈ news, u.oneCell' = true)
    (b1 : n + m ≤ maxLen) (b2 : (n + m) * bytes ≤ 140737488355328) (hbase : base ≤ w.heap.size)
    (h : ∀ v' w', w'.ownsRow base e size v' (n + m) (xs ++ news) → w.grownBy w' v.ownBlock → (v'.ownBlock = v.ownBlock ∨ v'.ownBlock = some w.heap.size) → wpList P ops Q rest (a.put o.dst v') w') : wpList P ops Q (o :: rest) a w :=
  wpList_plain hgd fun K hK => by
    obtain ⟨v', w', hrun, r1, r2, _, r3⟩ := run_append_own_at (P := P) w base t o.type e i z size bytes h1 h2 h3 h4 h5 h6 h7 v n xs hown ad m c news hn hc h1c b1 b2 hbase
    unfold Oper.wp
    simp [execOp, hop, resolve, invoke, builtin, hs, hx, hrun, Result.andThen]
    exact hK _ _ (h v' w' r1 r2 r3)
theorem evens_more : ∀ (l : List (List UInt8)) (x : List UInt8), evens (l ++ [x]) = (if l.length % 2 = 0 then evens l ++ [x] else evens l)
  | [], x => rfl
  | [a], x => rfl
  | a :: b :: r, x => by
    have ih := evens_more r x
    have e : evens (a :: b :: r ++ [x]) = a :: evens (r ++ [x]) := rfl
    rw [e, ih]
    have e2 : (a :: b :: r).length % 2 = r.length % 2 := by simp only [List.length_cons]; omega
    rw [e2]
    split <;> rfl
theorem odds_more : ∀ (l : List (List UInt8)) (x : List UInt8), odds (l ++ [x]) = (if l.length % 2 = 0 then odds l else odds l ++ [x])
  | [], x => rfl
  | [a], x => rfl
  | a :: b :: r, x => by
    have ih := odds_more r x
    have e : odds (a :: b :: r ++ [x]) = b :: odds (r ++ [x]) := rfl
    rw [e, ih]
    have e2 : (a :: b :: r).length % 2 = r.length % 2 := by simp only [List.length_cons]; omega
    rw [e2]
    split <;> rfl
theorem evens_len : ∀ l : List (List UInt8), (evens l).length ≤ l.length
  | [] => by simp [evens]
  | [a] => by simp [evens]
  | a :: b :: r => by have := evens_len r; simp [evens]; omega
theorem odds_len : ∀ l : List (List UInt8), (odds l).length ≤ l.length
  | [] => by simp [odds]
  | [a] => by simp [odds]
  | a :: b :: r => by have := odds_len r; simp [odds]; omega
theorem odds_mem : ∀ {l : List (List UInt8)} {x : List UInt8}, x ∈ odds l → x ∈ l
  | [], _, h => by simp [odds] at h
  | [a], _, h => by simp [odds] at h
  | a :: b :: r, x, h => by
    simp only [odds, List.mem_cons] at h
    rcases h with rfl | h
    · simp
    · simp [odds_mem h]
/-- Two rows of words of the call's own, in blocks of their own. -/
structure TwoRows (base : Nat) (av dv : Value) (xa xd : List (List UInt8)) (W : World) : Prop where
  a : RowS W base av xa
  d : RowS W base dv xd
  ne : ∀ b, av.ownBlock = some b → dv.ownBlock ≠ some b
theorem TwoRows.keep {base : Nat} {av dv : Value} {xa xd : List (List UInt8)} {W W' : World} (h : TwoRows base av dv xa xd W) (hb : Below W.heap.size W W') : TwoRows base av dv xa xd W' := ⟨own_keep h.a hb, own_keep h.d hb, h.ne⟩
theorem own_other {W W' : World} {base size n m : Nat} {t s : TypeId} {v u : Value} {xs ys : List Value} {size' : Nat} (h : W.ownsRow base t size u m ys) (hg : W.grownBy W' v.ownBlock) (hne : ∀ b, v.ownBlock = some b → u.ownBlock ≠ some b) : W'.ownsRow base t size u m ys := by
  refine h.kept hg ?_
  cases e : v.ownBlock with
  | none =>
    cases e2 : u.ownBlock with
    | none => exact .inl rfl
    | some b => exact .inr (by simp)
  | some b => exact .inr (hne b e)
theorem TwoRows.pushA {base : Nat} {av dv v' : Value} {xa xd : List (List UInt8)} {W W' : World} {x : List UInt8} (h : TwoRows base av dv xa xd W) (hown : W'.ownsRow base 9 1 v' (xa.length + 1) (xa.map (fun f => Value.string (strL f)) ++ [.string (strL x)]))
    (hg : W.grownBy W' av.ownBlock) (hl : v'.ownBlock = av.ownBlock ∨ v'.ownBlock = some W.heap.size) : TwoRows base v' dv (xa ++ [x]) xd W' := by
  refine ⟨?_, own_other (n := 0) (s := 0) (xs := []) (size' := 0) h.d hg h.ne, fun b hb => ?_⟩
  · unfold RowS
    rw [List.length_append, List.map_append]
    exact hown
  · rcases hl with e | e
    · rw [e] at hb; exact h.ne b hb
    · rw [e] at hb
      injection hb with hb
      subst hb
      intro e2
      exact absurd (own_blk h.d _ e2) (Nat.lt_irrefl _)
theorem TwoRows.pushD {base : Nat} {av dv v' : Value} {xa xd : List (List UInt8)} {W W' : World} {x : List UInt8} (h : TwoRows base av dv xa xd W) (hown : W'.ownsRow base 9 1 v' (xd.length + 1) (xd.map (fun f => Value.string (strL f)) ++ [.string (strL x)]))
    (hg : W.grownBy W' dv.ownBlock) (hl : v'.ownBlock = dv.ownBlock ∨ v'.ownBlock = some W.heap.size) : TwoRows base av v' xa (xd ++ [x]) W' := by
  refine ⟨own_other (n := 0) (s := 0) (xs := []) (size' := 0) h.a hg (fun b hb e => h.ne b e hb), ?_, fun b hb => ?_⟩
  · unfold RowS
    rw [List.length_append, List.map_append]
    exact hown
  · rcases hl with e | e
    · rw [e]; exact h.ne b hb
    · rw [e]
      intro e2
      injection e2 with e2
      have := own_blk h.a _ hb
      omega
theorem one_text (W : World) (x : List UInt8) (j : Nat) (u : Value) (h : [Value.string (strL x)][j]? = some u) : (W.alloc (.cells #[.string (strL x)] 9)).cell? ((⟨W.heap.size, 0, none⟩ : Addr).add j) = some u := by
  match j, h with
  | 0, h => injection h with h; rw [← h]; simp [Addr.add, go_sem]
/-- What named hands back. -/
def NamedEnd (w : World) (R : Option (List Int)) (e : Ending) (w' : World) : Prop :=
  ∃ v, e = .returned (.tuple #[v, .bool R.isSome]) ∧ (∀ vs, R = some vs → w'.ownsRow w.heap.size 3 1 v vs.length (vs.map (Value.int .i64))) ∧ (R = none → v = .slice none 0 0) ∧ Below w.heap.size w w'
theorem NamedEnd.no {w w' : World} {R : Option (List Int)} (h : R = none) (hb : Below w.heap.size w w') : NamedEnd w R (.returned (.tuple #[.slice none 0 0, .bool false])) w' := by
  subst h
  exact ⟨_, rfl, (fun vs e => by cases e), fun _ => rfl, hb⟩
theorem rows_form {W : World} {base : Nat} {v : Value} {xs : List (List UInt8)} (h : RowS W base v xs) : ∃ A c, v = .slice A xs.length c ∧ xs.length ≤ c := own_form h
theorem numsV_is (l : List (List UInt8)) : numsV l = if ((l.map strL).all fun x => decB x.data.toList) = true then some (l.map numV) else none := by
  unfold numsV
  have : ((l.map strL).all fun x => decB x.data.toList) = l.all decB := by
    rw [List.all_map]
    congr 1
  rw [this]
theorem numbers_end {w w4 w0 : World} {o : List (List UInt8)} {v : Value} {k : Nat} (hk : Hid (k = o.length)) (hb0 : Below w0.heap.size w0 w) (hy : ((o.map strL).all fun x => decB x.data.toList) = true → w4.ownsRow w.heap.size 3 1 v k ((o.map strL).map fun x => Value.int .i64 (numV x.data.toList)))
    (hno : ((o.map strL).all fun x => decB x.data.toList) = false → v = .slice none 0 0) (hb : Below w.heap.size w w4) : NamedEnd w0 (numsV o) (.returned (.tuple #[v, .bool ((o.map strL).all fun x => decB x.data.toList)])) w4 := by
  have hbb : Below w0.heap.size w0 w4 := hb0.trans (hb.mono hb0.size)
  rw [numsV_is]
  cases h : ((o.map strL).all fun x => decB x.data.toList) with
  | true =>
    rw [if_pos rfl]
    refine ⟨v, rfl, fun vs e => ?_, (fun e => by cases e), hbb⟩
    injection e with e
    subst e
    have h2 := hy h
    rw [hk.out, List.map_map] at h2
    rw [List.length_map, List.map_map]
    have e2 : ((fun x => Value.int .i64 (numV x.data.toList)) ∘ strL) = (Value.int .i64 ∘ numV) := by
      funext x
      show Value.int .i64 (numV (strL x).data.toList) = _
      rw [strL_list]; rfl
    rw [e2] at h2
    exact own_base h2 hb0.size
  | false =>
    rw [if_neg (by decide)]
    exact ⟨v, rfl, (fun vs e => by cases e), (fun _ => hno h), hbb⟩
theorem numbers_words (A : Option Addr) (c k : Nat) (o : List (List UInt8)) (w : World) (hA : WordsIn w A o) (hk : o.length = k) (hn : k ≤ 1000) (hz : ∀ x ∈ o, x.length ≤ 100000) (R : Option (List Int)) (hR : numsV o = R) :
    Calls Tryz.prog 85 #[.slice A k c] w (NamedEnd w R) := by
  have C := numbers_code A (o.map strL) c w hA.texts (by rw [List.length_map]; omega) (fun x hx => by
    obtain ⟨y, hy, rfl⟩ := List.mem_map.1 hx
    have := hz y hy
    rw [strL_size]; unfold maxLen; omega)
  rw [List.length_map, hk] at C
  refine C.mono fun e w4 ⟨v, he, hy, hno, hb⟩ => ?_
  rw [he, ← hR]
  exact numbers_end (Go.Lib.hid hk.symm) (Below.refl _ _) hy hno hb
theorem NamedEnd.of {w0 w2 w4 : World} {R : Option (List Int)} {v : Value} (hb : Below w0.heap.size w0 w2) (hy : ∀ vs, R = some vs → w4.ownsRow w2.heap.size 3 1 v vs.length (vs.map (Value.int .i64))) (hno : R = none → v = .slice none 0 0) (hb4 : Below w2.heap.size w2 w4) :
    NamedEnd w0 R (.returned (.tuple #[v, .bool R.isSome])) w4 := ⟨v, rfl, fun vs e => own_base (hy vs e) hb.size, hno, hb.trans (hb4.mono hb.size)⟩
theorem parity {k : Nat} (h : k % 2 = 0) : ((k : Int) % 2 == 0) = true := beq_iff_eq.2 (by omega)
theorem parity' {k : Nat} (h : ¬ k % 2 = 0) : ((k : Int) % 2 == 0) = false := beq_eq_false_iff_ne.2 (by omega)
set_option maxHeartbeats 8000000 in
theorem named_code (A C : Option Addr) (l names : List (List UInt8)) (c d n m : Nat) (w : World) (hA : WordsIn w A l) (hC : WordsIn w C names) (hl : l.length = n) (hm : names.length = m) (hn : n ≤ 1000) (hmn : m ≤ 1000) (hz : ∀ x ∈ l, x.length ≤ 100000) :
    Calls Tryz.prog 87 #[.slice A n c, .slice C m d] w (NamedEnd w (namedV names l)) := by
  obtain ⟨i0, hi, hz0, hz1, hz2⟩ := info_parts info_str
  have HL := Go.Lib.hid hl
  have HM := Go.Lib.hid hm
  have HA := Go.Lib.hid hA
  have HC := Go.Lib.hid hC
  have HZ := Go.Lib.hid hz
  clear hA hC hl hm hz
  go_enter Tryz.func87, Tryz.ntmps87
  go_wp2
  go_loopw [6, 7, 12] (fun dv av iv wr => ∃ (k : Nat) (A1 : Option Addr) (c1 : Nat) (A2 : Option Addr) (c2 : Nat), k ≤ n ∧ iv = .int .i64 k ∧ av = .slice A1 (evens (l.take k)).length c1 ∧ dv = .slice A2 (odds (l.take k)).length c2 ∧ TwoRows w.heap.size (.slice A1 (evens (l.take k)).length c1) (.slice A2 (odds (l.take k)).length c2) (evens (l.take k)) (odds (l.take k)) wr ∧ Below w.heap.size w wr) (fun _ _ iv _ => n - (intOf iv).toNat)
  case atStart => exact ⟨0, none, 0, none, 0, Nat.zero_le _, rfl, by rw [List.take_zero]; rfl, by rw [List.take_zero]; rfl, by rw [List.take_zero]; exact ⟨World.ownsRow_nil _ _ _ _, World.ownsRow_nil _ _ _ _, fun b hb => by cases hb⟩, Below.refl _ _⟩
  case round =>
    obtain ⟨k, A1, c1, A2, c2, hk, rfl, rfl, rfl, hT, B⟩ := hrel
    have HT := Go.Lib.hid hT
    clear hT
    by_cases hlt : k < n
    · have hkl : k < l.length := by rw [HL.out]; exact hlt
      obtain ⟨b, o, rfl, hcell⟩ := (HA.out.keep B) k hkl
      have htk := List.take_succ_eq_append_getElem hkl
      have hlen : (l.take k).length = k := List.length_take_of_le (by omega)
      have e1 := evens_more (l.take k) l[k]
      have e2 := odds_more (l.take k) l[k]
      have l1 := evens_len (l.take k)
      have l2 := odds_len (l.take k)
      rw [hlen] at e1 e2 l1 l2
      rw [← htk] at e1 e2
      by_cases hp : k % 2 = 0
      · have hq := parity hp
        rw [if_pos hp] at e1 e2
        have E1 := Go.Lib.hid e1
        have E2 := Go.Lib.hid e2
        clear e1 e2 htk hlen hp
        obtain ⟨x, hx⟩ : ∃ x, x = l[k] := ⟨_, rfl⟩
        rw [← hx] at hcell E1
        obtain ⟨ea, hea⟩ : ∃ ea, ea = evens (l.take k) := ⟨_, rfl⟩
        obtain ⟨od, hod⟩ : ∃ od, od = odds (l.take k) := ⟨_, rfl⟩
        rw [← hea] at HT E1 l1 ⊢
        rw [← hod] at HT E2 l2 ⊢
        obtain ⟨k1, hk1⟩ : ∃ k1, k1 = ea.length := ⟨_, rfl⟩
        obtain ⟨k2, hk2⟩ : ∃ k2, k2 = od.length := ⟨_, rfl⟩
        rw [← hk1] at HT l1 ⊢
        rw [← hk2] at HT l2 ⊢
        have hown := HT.out.a
        unfold RowS at hown
        rw [← hk1] at hown
        have HK1 := Go.Lib.hid hk1
        have HK2 := Go.Lib.hid hk2
        clear hx hea hod hkl hk1 hk2
        go_wp2_with (at_builtin; refine wpList_append_at rfl _ _ 50 rfl w.heap.size 9 i0 (.string ByteArray.empty) 1 16 Tryz.underlying50 hi hz0 hz1 hz2 rfl (by decide) _ _ _ rfl (hown.alloc _) ⟨wr.heap.size, 0, none⟩ 1 1 [.string (strL x)] rfl rfl (one_text _ _) (by intro u hu; simp at hu; subst hu; rfl) (by unfold maxLen; omega) (by omega) (by have := B.size; simp; omega) ?_; intro v' w3 hown' hgrow hloc; have R := (B.alloc B.size _).grown hgrow (by have := B.size; simp; omega) (own_ge hown); have HP := Go.Lib.hid ((HT.out.keep (below_alloc _ _)).pushA (x := x) (by rw [← HK1.out]; exact hown') hgrow hloc); obtain ⟨A3, c3, rfl, _⟩ := own_form hown'; clear hgrow hown hown' hloc)
        refine ⟨⟨k + 1, A3, c3, A2, c2, by omega, by go_num, ?_, ?_, ?_, R⟩, by simp [intOf]; omega⟩
        · rw [E1.out, List.length_append, List.length_singleton, ← HK1.out]
        · rw [E2.out, ← HK2.out]
        · have e3 : (evens (l.take (k + 1))).length = k1 + 1 := by rw [E1.out, List.length_append, List.length_singleton, ← HK1.out]
          have e4 : (odds (l.take (k + 1))).length = k2 := by rw [E2.out, ← HK2.out]
          rw [e3, e4, E1.out, E2.out]
          exact HP.out
      · have hq := parity' hp
        rw [if_neg hp] at e1 e2
        have E1 := Go.Lib.hid e1
        have E2 := Go.Lib.hid e2
        clear e1 e2 htk hlen hp
        obtain ⟨x, hx⟩ : ∃ x, x = l[k] := ⟨_, rfl⟩
        rw [← hx] at hcell E2
        obtain ⟨ea, hea⟩ : ∃ ea, ea = evens (l.take k) := ⟨_, rfl⟩
        obtain ⟨od, hod⟩ : ∃ od, od = odds (l.take k) := ⟨_, rfl⟩
        rw [← hea] at HT E1 l1 ⊢
        rw [← hod] at HT E2 l2 ⊢
        obtain ⟨k1, hk1⟩ : ∃ k1, k1 = ea.length := ⟨_, rfl⟩
        obtain ⟨k2, hk2⟩ : ∃ k2, k2 = od.length := ⟨_, rfl⟩
        rw [← hk1] at HT l1 ⊢
        rw [← hk2] at HT l2 ⊢
        have hown := HT.out.d
        unfold RowS at hown
        rw [← hk2] at hown
        have HK1 := Go.Lib.hid hk1
        have HK2 := Go.Lib.hid hk2
        clear hx hea hod hkl hk1 hk2
        go_wp2_with (at_builtin; refine wpList_append_at rfl _ _ 50 rfl w.heap.size 9 i0 (.string ByteArray.empty) 1 16 Tryz.underlying50 hi hz0 hz1 hz2 rfl (by decide) _ _ _ rfl (hown.alloc _) ⟨wr.heap.size, 0, none⟩ 1 1 [.string (strL x)] rfl rfl (one_text _ _) (by intro u hu; simp at hu; subst hu; rfl) (by unfold maxLen; omega) (by omega) (by have := B.size; simp; omega) ?_; intro v' w3 hown' hgrow hloc; have R := (B.alloc B.size _).grown hgrow (by have := B.size; simp; omega) (own_ge hown); have HP := Go.Lib.hid ((HT.out.keep (below_alloc _ _)).pushD (x := x) (by rw [← HK2.out]; exact hown') hgrow hloc); obtain ⟨A3, c3, rfl, _⟩ := own_form hown'; clear hgrow hown hown' hloc)
        refine ⟨⟨k + 1, A1, c1, A3, c3, by omega, by go_num, ?_, ?_, ?_, R⟩, by simp [intOf]; omega⟩
        · rw [E1.out, ← HK1.out]
        · rw [E2.out, List.length_append, List.length_singleton, ← HK2.out]
        · have e3 : (evens (l.take (k + 1))).length = k1 := by rw [E1.out, ← HK1.out]
          have e4 : (odds (l.take (k + 1))).length = k2 + 1 := by rw [E2.out, List.length_append, List.length_singleton, ← HK2.out]
          rw [e3, e4, E1.out, E2.out]
          exact HP.out
    · obtain rfl : k = n := by omega
      have hall : l.take k = l := List.take_of_length_le (by rw [HL.out]; exact Nat.le_refl _)
      rw [hall] at HT ⊢
      have l1 := evens_len l
      have l2 := odds_len l
      rw [HL.out] at l1 l2
      have HW1 := Go.Lib.hid (HT.out.a.words)
      have HW2 := Go.Lib.hid (HT.out.d.words)
      have HZ2 : Hid (∀ x ∈ odds l, x.length ≤ 100000) := fun x hx => HZ.out x (odds_mem hx)
      have CE := fun q hq => equal_s A1 C _ m c1 d (evens l) names wr HW1.out (HC.out.keep B) rfl HM.out (by unfold maxLen; omega) (by unfold maxLen; omega) q hq
      obtain ⟨R, hR⟩ : ∃ R, numsV (odds l) = R := ⟨_, rfl⟩
      have CN := fun W (hb : Below wr.heap.size wr W) => numbers_words A2 c2 _ (odds l) W (HW2.out.keep hb) rfl (by omega) HZ2.out R hR
      have HN : Hid (namedV names l = if evens l = names ∧ (odds l).length = m then R else none) := by show _ = _; rw [← HM.out, ← hR]; rfl
      obtain ⟨k1, hk1⟩ : ∃ k1, k1 = (evens l).length := ⟨_, rfl⟩
      obtain ⟨k2, hk2⟩ : ∃ k2, k2 = (odds l).length := ⟨_, rfl⟩
      rw [← hk1] at CE l1 ⊢
      rw [← hk2] at CN HN l2 ⊢
      clear hk1 hk2 hall hR
      by_cases he : evens l = names
      · have CE1 := CE true (decide_eq_true he)
        clear CE
        by_cases hlen : k2 = m
        · subst hlen
          have hne : ((k2 : Int) != (k2 : Int)) = false := by simp
          have HN2 : Hid (namedV names l = R) := by show _ = _; rw [HN.out, if_pos ⟨he, rfl⟩]
          clear he
          go_wp2_with (first
            | (go_at_call 86; refine CE1.mono ?_; rintro e w2 ⟨rfl, hb2⟩)
            | (go_at_call 85; refine (CN _ hb2).mono ?_; rintro e w4 ⟨v, rfl, hy, hno, hb4⟩))
          go_ret2
          rw [HN2.out]
          exact NamedEnd.of (B.trans (hb2.mono B.size)) hy hno hb4
        · have hne : ((k2 : Int) != (m : Int)) = true := by simp; omega
          have hne2 : ((k2 : Int) == (m : Int)) = false := beq_eq_false_iff_ne.2 (by omega)
          have HN2 : Hid (namedV names l = none) := by show _ = _; rw [HN.out, if_neg (fun h => hlen h.2)]
          clear he
          go_wp2_with (first
            | (go_at_call 86; refine CE1.mono ?_; rintro e w2 ⟨rfl, hb2⟩))
          go_ret2
          exact NamedEnd.no HN2.out (B.trans (hb2.mono B.size))
      · have CE1 := CE false (decide_eq_false he)
        have HN2 : Hid (namedV names l = none) := by show _ = _; rw [HN.out, if_neg (fun h => he h.1)]
        clear he CE
        go_wp2_with (first
          | (go_at_call 86; refine CE1.mono ?_; rintro e w2 ⟨rfl, hb2⟩))
        go_ret2
        exact NamedEnd.no HN2.out (B.trans (hb2.mono B.size))
end Go.Proofs.YtliomhkgkabbbaaGreatDoor
end
