import Derived.Test.YtliomhkgkabbbaaGreatDoorK21
import Derived.Test.YtliomhkgkabbbaaGreatDoorK23
import Derived.Deep.RegionHeld3
import Derived.Test.YtliomhkgkabbbaaGreatDoorK15
import Derived.Test.YtliomhkgkabbbaaGreatDoorK20
import Derived.Test.YtliomhkgkabbbaaGreatDoorK18
import Derived.Test.YtliomhkgkabbbaaGreatDoorK08
section
/- What visit answers, off its code: a customer that is visited by patterns. -/
namespace Go.Proofs.YtliomhkgkabbbaaGreatDoor
open Go.RowKit
set_option linter.unusedVariables false
set_option maxRecDepth 20000
theorem own_only {w w' : World} {base size n g : Nat} {t : TypeId} {v : Value} {xs : List Value} (h : w.ownsRow base t size v n xs) (ho : Only [g] w w') (hg : g < base) : w'.ownsRow base t size v n xs := by
  refine ⟨h.1, ?_⟩
  rcases h.2 with h0 | ⟨k, cap, cur, hv, hk, hh, r⟩
  · exact .inl h0
  · exact .inr ⟨k, cap, cur, hv, hk, (ho.block k (Array.getElem?_eq_some_iff.1 hh).1 (by simp; omega)).trans hh, r⟩
theorem RAt.only {w0 W W' : World} {g m b1 : Nat} {lv v u : Value} {l : CRow} {s : St} {am : Bool} (h : RAt w0 g m b1 lv v u l s W) (ho : Only [g] W W')
    (hb : BlkIs W' g 68 #[lv, .map (some m), .int .i64 s.x.days, .int .i64 s.x.veh, .int .i64 s.x.cap, .int .i64 s.x.len, v, u, .int .i64 s.n, .bool am]) : RAt w0 g m b1 lv v u l { s with am := am } W' := by
  have hm : m < W.heap.size := (Array.getElem?_eq_some_iff.1 h.kinds).1
  refine ⟨hb, h.left, (ho.block m hm (by simp; exact h.ne)).trans h.kinds, ⟨own_only h.custs.row ho h.g1, fun t ht => own_only (h.custs.pats t ht) ho h.g1⟩, h.cl, ?_, ⟨h.wf.days, h.wf.veh, h.wf.cap, h.wf.len, h.wf.n, h.wf.custs, h.wf.dist⟩, h.g0, h.m0, h.g1, h.m1, ?_, Nat.le_trans h.sz ho.size⟩
  · obtain ⟨us, h1, h2⟩ := h.dist.row
    exact ⟨us, own_only h1 ho h.g1, h2.mono fun r y hr => own_only hr ho h.g1⟩
  · exact ho.over h.low (by simp; exact h.g0)
/-- What a function of the map's hands back. -/
def KindEnd (w0 : World) (g m b1 : Nat) (s : St) (R : Option (Cust × Bool)) (e : Ending) (w' : World) : Prop :=
  ∃ c P k am, e = .returned (.tuple #[custV c P k, .bool R.isSome]) ∧ RdAt w0 g m b1 { s with am := am } w' ∧ OwnP w' b1 (.slice P c.pats.length k) c.pats ∧ c.Wf ∧ ∀ t, R = some t → t.1 = c ∧ am = (s.am || t.2)
/-- Whether the words so far are signs, and whether one is amiss. -/
def isF (x : List UInt8) (ps : List (List UInt8)) (j : Nat) : Bool := decB x && (ps.take j).all fun p => decide ((parseV p).2 ≠ 2)
def amF (am : Bool) (d : Int) (ps : List (List UInt8)) (j : Nat) : Bool := am || (ps.take j).any fun p => decide ((p.length : Int) ≠ d)
theorem isF_succ (x : List UInt8) (ps : List (List UInt8)) {j : Nat} (hj : j < ps.length) : isF x ps (j + 1) = (isF x ps j && (parseV ps[j]).2 != 2) := by
  unfold isF
  rw [List.take_succ_eq_append_getElem hj, List.all_append, Bool.and_assoc]
  congr 1
  simp only [List.all_cons, List.all_nil, Bool.and_true]
  congr 1
  rw [Bool.eq_iff_iff, decide_eq_true_iff, bne_iff_ne]
theorem amF_succ (am : Bool) (d : Int) (ps : List (List UInt8)) {j : Nat} (hj : j < ps.length) : amF am d ps (j + 1) = (amF am d ps j || ((ps[j]).length : Int) != d) := by
  unfold amF
  rw [List.take_succ_eq_append_getElem hj, List.any_append, Bool.or_assoc]
  congr 1
  simp only [List.any_cons, List.any_nil, Bool.or_false]
  congr 1
  rw [Bool.eq_iff_iff, decide_eq_true_iff, bne_iff_ne]
def patsF (ps : List (List UInt8)) (j : Nat) : List Int := (ps.take j).map fun p => ((parseV p).1 : Int)
theorem patsF_succ (ps : List (List UInt8)) {j : Nat} (hj : j < ps.length) : patsF ps (j + 1) = patsF ps j ++ [((parseV ps[j]).1 : Int)] := by
  unfold patsF
  rw [List.take_succ_eq_append_getElem hj, List.map_append]; rfl
theorem patsF_len (ps : List (List UInt8)) {j : Nat} (hj : j ≤ ps.length) : (patsF ps j).length = j := by
  unfold patsF
  rw [List.length_map, List.length_take_of_le hj]
def vC (d : Int) (A : Option Addr) (n k : Nat) : Array Value := #[.int .i64 1, .int .i64 d, .slice A n k, .int .i64 0, .int .i64 0, .int .i64 0, .int .i64 0, .int .i64 0]
def zC : Array Value := #[.int .i64 0, .int .i64 0, .slice none 0 0, .int .i64 0, .int .i64 0, .int .i64 0, .int .i64 0, .int .i64 0]
def rdC (s : St) (m : Nat) (lv v u : Value) (am : Bool) : Array Value := #[lv, .map (some m), .int .i64 s.x.days, .int .i64 s.x.veh, .int .i64 s.x.cap, .int .i64 s.x.len, v, u, .int .i64 s.n, .bool am]
/-- Between two words of a customer's patterns. -/
structure VisAt (W : World) (g m : Nat) (lv v u : Value) (s : St) (x : List UInt8) (ps : List (List UInt8)) (j : Nat) (A : Option Addr) (k : Nat) (wr : World) : Prop where
  only : Only [g] W wr
  box : BlkIs wr g 68 (rdC s m lv v u (amF s.am s.x.days ps j))
  c : BlkIs wr (W.heap.size + 1) 41 (vC (numV x) A j k)
  z : BlkIs wr W.heap.size 41 zC
  row : OwnP wr (W.heap.size + 2) (.slice A j k) (patsF ps j)
theorem VisAt.keep {W : World} {g m : Nat} {lv v u : Value} {s : St} {x : List UInt8} {ps : List (List UInt8)} {j : Nat} {A : Option Addr} {k : Nat} {wr w2 : World} (h : VisAt W g m lv v u s x ps j A k wr) (hb : Below wr.heap.size wr w2) : VisAt W g m lv v u s x ps j A k w2 :=
  ⟨h.only.below hb, h.box.below hb h.box.lt, h.c.below hb h.c.lt, h.z.below hb h.z.lt, own_keep h.row hb⟩
theorem visAt_start {w0 W : World} {g m b1 : Nat} {lv v u : Value} {cl : CRow} {s : St} (x : List UInt8) (ps : List (List UInt8)) (h : RAt w0 g m b1 lv v u cl s W) :
    VisAt W g m lv v u s x ps 0 none 0 ((W.alloc (.cells zC 41)).alloc (.cells (vC (numV x) none 0 0) 41)) := by
  refine ⟨((Only.refl _ _).alloc _).alloc _, ?_, ?_, (BlkIs.fresh W _ _).alloc _, World.ownsRow_nil _ _ _ _⟩
  · have e : amF s.am s.x.days ps 0 = s.am := by simp [amF]
    rw [e]
    exact (h.box.alloc _).alloc _
  · have := BlkIs.fresh (W.alloc (.cells zC 41)) 41 (vC (numV x) none 0 0)
    rw [World.size_alloc] at this
    exact this
theorem VisAt.amiss {W : World} {g m : Nat} {lv v u : Value} {s : St} {x : List UInt8} {ps : List (List UInt8)} {j : Nat} {A : Option Addr} {k : Nat} {wr w3 : World} (h : VisAt W g m lv v u s x ps j A k wr) (hg : g < W.heap.size) {q : Bool} (hj : j < ps.length) (hq : q = amF s.am s.x.days ps (j + 1))
    {A' : Option Addr} {k' : Nat} {tmp : Obj} (hown : w3.ownsRow (W.heap.size + 2) 70 1 (.slice A' (j + 1) k') (j + 1) ((patsF ps j).map (Value.int .u64) ++ [.int .u64 ((parseV ps[j]).1 : Int)]))
    (hgrow : ((wr.setCell ⟨g, 9, none⟩ (.bool q)).alloc tmp).grownBy w3 (Value.slice A j k).ownBlock) :
    BlkIs w3 (W.heap.size + 1) 41 (vC (numV x) A j k) ∧ VisAt W g m lv v u s x ps (j + 1) A' k' (w3.setCell ⟨W.heap.size + 1, 2, none⟩ (.slice A' (j + 1) k')) := by
  have hge := own_ge h.row
  have hc := h.c.lt
  have ne : ∀ b, b < W.heap.size + 2 → some b ≠ (Value.slice A j k).ownBlock := fun b hb e => by have := hge b e.symm; omega
  have hgr : (wr.setCell ⟨g, 9, none⟩ (.bool q)).heap.size = wr.heap.size := by simp [World.setCell]
  have c1 : BlkIs ((wr.setCell ⟨g, 9, none⟩ (.bool q)).alloc tmp) (W.heap.size + 1) 41 (vC (numV x) A j k) := (h.c.far (p := ⟨g, 9, none⟩) (by show W.heap.size + 1 ≠ g; omega) _).alloc tmp
  have z1 : BlkIs ((wr.setCell ⟨g, 9, none⟩ (.bool q)).alloc tmp) W.heap.size 41 zC := (h.z.far (p := ⟨g, 9, none⟩) (by show W.heap.size ≠ g; omega) _).alloc tmp
  have c3 : BlkIs w3 (W.heap.size + 1) 41 (vC (numV x) A j k) := c1.grown hgrow (ne _ (by omega))
  have z3 : BlkIs w3 W.heap.size 41 zC := z1.grown hgrow (ne _ (by omega))
  refine ⟨c3, ?_, ?_, ?_, ?_, ?_⟩
  · refine ⟨?_, ?_, ?_, ?_, ?_⟩
    · exact hgrow.os.trans h.only.os
    · exact hgrow.tape.trans h.only.tape
    · exact hgrow.output.trans h.only.output
    · have := h.only.size
      have := hgrow.size
      simp [World.setCell] at *
      omega
    · intro b hb hn
      have hbg : b ≠ g := fun e => hn (by simp [e])
      rw [Below.heap_setCell w3 ⟨W.heap.size + 1, 2, none⟩ _ b (by show b ≠ W.heap.size + 1; omega), hgrow.block b (by have := h.only.size; simp [World.setCell]; omega) (ne b (by omega)), Below.heap_alloc _ tmp b (by have := h.only.size; simp [World.setCell]; omega), Below.heap_setCell wr ⟨g, 9, none⟩ _ b hbg]
      exact h.only.block b hb hn
  · have b1 := h.box.put 9 (.bool q)
    have b2 : BlkIs w3 g 68 _ := (b1.alloc tmp).grown hgrow (ne g (by omega))
    have b3 := b2.far (p := ⟨W.heap.size + 1, 2, none⟩) (by show g ≠ W.heap.size + 1; omega) (.slice A' (j + 1) k')
    rw [← hq]
    simpa [rdC] using b3
  · have := c3.put 2 (.slice A' (j + 1) k')
    simpa [vC] using this
  · exact z3.far (p := ⟨W.heap.size + 1, 2, none⟩) (by show W.heap.size ≠ W.heap.size + 1; omega) _
  · have e : OwnP w3 (W.heap.size + 2) (.slice A' (j + 1) k') (patsF ps (j + 1)) := by
      unfold OwnP
      rw [patsF_succ ps hj, List.length_append, List.length_singleton, patsF_len ps (by omega), List.map_append]
      exact hown
    exact own_far e (p := ⟨W.heap.size + 1, 2, none⟩) (by show W.heap.size + 1 < W.heap.size + 2; omega) _
theorem one_at {W : World} {H : Nat} (hH : W.heap.size = H) (y : Value) (t : TypeId) (j : Nat) (u : Value) (h : [y][j]? = some u) : (W.alloc (.cells #[y] t)).cell? ((⟨H, 0, none⟩ : Addr).add j) = some u := by
  subst hH
  exact one_value W y t j u h
theorem VisAt.rowJ {W : World} {g m : Nat} {lv v u : Value} {s : St} {x : List UInt8} {ps : List (List UInt8)} {j : Nat} {A : Option Addr} {k : Nat} {wr : World} (h : VisAt W g m lv v u s x ps j A k wr) (hj : j ≤ ps.length) : wr.ownsRow (W.heap.size + 2) 70 1 (.slice A j k) j ((patsF ps j).map (Value.int .u64)) := by
  have := h.row
  unfold OwnP at this
  rw [patsF_len ps hj] at this
  exact this
theorem own_store8 {w : World} {base size n g : Nat} {t : TypeId} {v : Value} {xs : List Value} (h : w.ownsRow base t size v n xs) (hg : g < base) (v0 v1 v2 v3 v4 v5 v6 v7 : Value) :
    ((((((((w.setCell ⟨g, 0, none⟩ v0).setCell ⟨g, 1, none⟩ v1).setCell ⟨g, 2, none⟩ v2).setCell ⟨g, 3, none⟩ v3).setCell ⟨g, 4, none⟩ v4).setCell ⟨g, 5, none⟩ v5).setCell ⟨g, 6, none⟩ v6).setCell ⟨g, 7, none⟩ v7).ownsRow base t size v n xs :=
  own_far (own_far (own_far (own_far (own_far (own_far (own_far (own_far h (p := ⟨g, 0, none⟩) hg v0) (p := ⟨g, 1, none⟩) hg v1) (p := ⟨g, 2, none⟩) hg v2) (p := ⟨g, 3, none⟩) hg v3) (p := ⟨g, 4, none⟩) hg v4) (p := ⟨g, 5, none⟩) hg v5) (p := ⟨g, 6, none⟩) hg v6) (p := ⟨g, 7, none⟩) hg v7
def zeroC : Cust := ⟨0, 0, [], 0, 0, 0, 0, 0⟩
theorem zeroC_wf : zeroC.Wf := ⟨⟨by decide, by decide⟩, ⟨by decide, by decide⟩, ⟨by decide, by decide⟩, ⟨by decide, by decide⟩, ⟨by decide, by decide⟩, ⟨by decide, by decide⟩, ⟨by decide, by decide⟩, fun p hp => by simp [zeroC] at hp, Nat.zero_le _⟩
theorem visit_zero {w0 W : World} {g m b1 : Nat} {s : St} {P : Option Addr} {k : Nat} (hr : RdAt w0 g m b1 s W) :
    Calls Tryz.prog 53 #[.pointer (some ⟨g, 0, none⟩), .slice P 0 k] W (KindEnd w0 g m b1 s none) := by
  have HR := Go.Lib.hid hr
  have Q := Go.Lib.hid (BlkIs.fresh W 41 zC)
  have HB := Go.Lib.hid (below_alloc W (.cells zC 41))
  obtain ⟨q0, q1, q2, q3, q4, q5, q6, q7⟩ := Q.out.cells8
  unfold zC at q0 q1 q2 q3 q4 q5 q6 q7
  clear hr
  go_enter Tryz.func53, Tryz.ntmps53
  go_wp2
  refine bodyPost_ret (v := .tuple #[.agg #[.int .i64 0, .int .i64 0, .slice none 0 0, .int .i64 0, .int .i64 0, .int .i64 0, .int .i64 0, .int .i64 0], .bool false]) (by simp [results, Tryz.results53, go_sem, q0, q1, q2, q3, q4, q5, q6, q7]) rfl ?_
  exact ⟨zeroC, none, 0, s.am, rfl, HR.out.keep HB.out, World.ownsRow_nil _ _ _ _, zeroC_wf, fun t h => by cases h⟩
theorem visit_end {w0 W wr w9 : World} {g m b1 : Nat} {lv v u : Value} {cl : CRow} {s : St} {x : List UInt8} {ps : List (List UInt8)} {A : Option Addr} {k : Nat} {j : Nat} (hj : j = ps.length) (h : RAt w0 g m b1 lv v u cl s W) (hV : VisAt W g m lv v u s x ps j A k wr) (hb : Below W.heap.size wr w9) (hn : j ≤ 1000) (how : OwnP w9 (W.heap.size + 2) (.slice A j k) (patsF ps j)) :
    KindEnd w0 g m b1 s (visitV s.x.days (x :: ps)) (.returned (.tuple #[.agg #[.int .i64 1, .int .i64 (numV x), .slice A j k, .int .i64 0, .int .i64 0, .int .i64 0, .int .i64 0, .int .i64 0], .bool (isF x ps j)])) w9 := by
  subst hj
  have hpl : (patsF ps ps.length).length = ps.length := patsF_len ps (Nat.le_refl _)
  have hps : patsF ps ps.length = ps.map fun p => ((parseV p).1 : Int) := by unfold patsF; rw [List.take_length]
  have hx := numV_bd x
  refine ⟨⟨1, numV x, patsF ps ps.length, 0, 0, 0, 0, 0⟩, A, k, amF s.am s.x.days ps ps.length, ?_, ⟨lv, v, u, cl, ?_⟩, ?_, ?_, ?_⟩
  · have e : isF x ps ps.length = (visitV s.x.days (x :: ps)).isSome := by
      rw [visitV_cons]
      unfold isF
      rw [List.take_length]
      by_cases hc : decB x = true ∧ (ps.all fun p => decide ((parseV p).2 ≠ 2)) = true
      · rw [if_pos hc, hc.1, hc.2]; rfl
      · rw [if_neg hc]
        cases h1 : decB x
        · rfl
        · cases h2 : (ps.all fun p => decide ((parseV p).2 ≠ 2))
          · rfl
          · exact absurd ⟨h1, h2⟩ hc
    rw [e]
    unfold custV
    simp only [hpl]
  · have ho : Only [g] W w9 := ⟨hb.os.trans hV.only.os, hb.tape.trans hV.only.tape, hb.output.trans hV.only.output, Nat.le_trans hV.only.size hb.size, fun i hi hn => (hb.block i hi).trans (hV.only.block i hi hn)⟩
    exact h.only ho (hV.box.below hb h.box.lt)
  · show OwnP _ _ (.slice A (patsF ps ps.length).length k) _
    rw [hpl]
    exact own_down how (by have := h.sz; omega)
  · have w0 : W64 0 := z64 (by decide) (by decide)
    have w1 : W64 1 := z64 (by decide) (by decide)
    have wx : W64 (numV x) := ⟨by omega, by omega⟩
    refine ⟨w1, wx, w0, w0, w0, w0, w0, fun p hp => ?_, ?_⟩
    · have hp' : p ∈ patsF ps ps.length := hp
      rw [hps] at hp'
      obtain ⟨y, _, rfl⟩ := List.mem_map.1 hp'
      have : (parseV y).1 < 2 ^ 64 := by
        unfold parseV
        split
        · exact Nat.two_pow_pos 64
        · split
          · exact Nat.two_pow_pos 64
          · have h2 := num2_lt (bitsT y)
            rw [bitsT_len] at h2
            exact Nat.lt_of_lt_of_le h2 (Nat.pow_le_pow_right (by decide) (by omega))
      omega
    · show (patsF ps ps.length).length ≤ maxLen
      rw [hpl]; unfold maxLen; omega
  · intro t ht
    rw [visitV_cons] at ht
    split at ht
    · injection ht with ht
      subst ht
      refine ⟨by simp only [hps], ?_⟩
      unfold amF
      rw [List.take_length]
    · cases ht
set_option maxHeartbeats 16000000 in
theorem visit_more {w0 W : World} {g m b1 : Nat} {s : St} {P : Option Addr} {n k : Nat} {l : List (List UInt8)} (hr : RdAt w0 g m b1 s W) (hl : WordsIn w0 P l) (hn : l.length = n) (hnk : n ≤ k) (hk : k ≠ 1) (h1 : n ≤ 1000) (hz : ∀ x ∈ l, x.length ≤ 1000) :
    Calls Tryz.prog 53 #[.pointer (some ⟨g, 0, none⟩), .slice P n k] W (KindEnd w0 g m b1 s (visitV s.x.days l)) := by
  obtain ⟨i0, hi, hz0, hz1, hz2⟩ := info_parts info_u64
  match l, hn with
  | [], hn =>
    subst hn
    exact visit_zero hr
  | x :: ps, hn =>
    obtain ⟨lv, v, u, cl, hr⟩ := hr
    have HR := Go.Lib.hid hr
    obtain ⟨b, off, rfl, hc⟩ := hl.at (by simp)
    have hcx := keep_cell hr.low (hc 0 (by simp)).1
    have hn0 : 0 < n := by rw [← hn]; simp
    have hpn : ps.length = n - 1 := by rw [← hn]; simp
    have CN := fun W => number_any (strL x) W (by rw [strL_size]; have := hz x (by simp); unfold maxLen; omega)
    rw [strL_list] at CN
    have hcx' : W.cell? ⟨b, off, none⟩ = some (.string (strL x)) := hcx
    have hbW : b < W.heap.size := Nat.lt_of_lt_of_le (hc 0 (by simp)).2 hr.low.size
    have hgW : g < W.heap.size := hr.box.lt
    have hbg : b ≠ g := by have := (hc 0 (by simp)).2; have := hr.g0; omega
    have hgb : g ≠ b := fun e => hbg e.symm
    have HPN := Go.Lib.hid hpn
    have HZ : Hid (∀ y ∈ ps, y.length ≤ 1000) := fun y hy => hz y (by simp [hy])
    have HLW : Hid (k ≠ 1 → WordsIn W (some ⟨b, off + 1, none⟩) ps) := fun _ => (hl.drop 1).keep hr.low
    have HS := Go.Lib.hid (visAt_start x ps hr)
    have HP : Hid (∀ t : ByteArray, t.size ≤ maxLen → ∀ W, Calls Tryz.prog 83 #[.string t] W fun e w' => e = .returned (.tuple #[.int .u64 ((parseV t.data.toList).1 : Int), .int .i64 (parseV t.data.toList).2]) ∧ Below W.heap.size W w') := fun t ht W => parse_code t W ht
    clear hcx hc hl hz hn hr
    generalize strL x = sx at *
    obtain ⟨dx, hdx⟩ : ∃ dx, dx = numV x := ⟨_, rfl⟩
    obtain ⟨ox, hox⟩ : ∃ ox, ox = decB x := ⟨_, rfl⟩
    rw [← hdx, ← hox] at CN
    have HDX := Go.Lib.hid hdx
    have HOX := Go.Lib.hid hox
    clear hdx hox
    by_cases hk1 : k = 1
    · exact absurd hk1 hk
    · have HW := Go.Lib.hid (HLW.out hk1)
      clear HLW
      go_enter Tryz.func53, Tryz.ntmps53
      go_wp2_with (first
        | (go_at_call 82; refine (CN _).mono ?_; rintro e w2 ⟨rfl, rfl⟩))
      go_loopw [7, 29] (fun isv iv wr => ∃ (j : Nat) (A : Option Addr) (kj : Nat), j ≤ n - 1 ∧ iv = .int .i64 j ∧ isv = .bool (isF x ps j) ∧ VisAt W g m lv v u s x ps j A kj wr) (fun _ iv _ => (n - 1) - (intOf iv).toNat)
      case atStart => exact ⟨0, none, 0, Nat.zero_le _, rfl, by unfold isF; simp [← HOX.out], by rw [HDX.out]; exact HS.out⟩
      case round =>
        obtain ⟨j, A, kj, hj, rfl, rfl, hV⟩ := hrel
        have HV := Go.Lib.hid hV
        clear HS
        by_cases hlt : j < n - 1
        · have hjp : j < ps.length := by rw [HPN.out]; exact hlt
          have hcell0 := (HW.out j hjp)
          obtain ⟨b', off', e', hcj⟩ := hcell0
          injection e' with e'
          injection e' with e1 e2
          subst e1; subst e2
          have hcr : wr.cell? ⟨b, off + 1 + j, none⟩ = some (.string (strL ps[j])) := (World.cell?_of_block (w := W) (a := ⟨b, off + 1 + j, none⟩) (hV.only.block b hbW (by simp; exact hbg))).trans hcj
          have CP := HP.out (strL ps[j]) (by rw [strL_size]; have := HZ.out _ (List.getElem_mem hjp); unfold maxLen; omega)
          rw [strL_list] at CP
          have hsy : ((strL ps[j]).size : Int) = ((ps[j]).length : Int) := by rw [strL_size]
          have HIF := Go.Lib.hid (isF_succ x ps hjp)
          have hamS := amF_succ s.am s.x.days ps hjp
          rw [← hsy] at hamS
          have HAM := Go.Lib.hid hamS
          obtain ⟨pv, hpv⟩ : ∃ pv, pv = ((parseV ps[j]).1 : Int) := ⟨_, rfl⟩
          obtain ⟨pe, hpe⟩ : ∃ pe, pe = (parseV ps[j]).2 := ⟨_, rfl⟩
          rw [← hpv, ← hpe] at CP
          rw [← hpe] at HIF
          have HPV := Go.Lib.hid hpv
          clear hV hcj hsy hamS hpv hpe
          obtain ⟨isb, hisb⟩ : ∃ q, q = isF x ps j := ⟨_, rfl⟩
          obtain ⟨amb, hamb⟩ : ∃ q, q = amF s.am s.x.days ps j := ⟨_, rfl⟩
          rw [← hisb] at HIF ⊢
          rw [← hamb] at HAM
          have HAMB := Go.Lib.hid hamb
          clear hisb hamb
          generalize strL ps[j] = sy at *
          obtain ⟨wb, hwb⟩ : ∃ wb, wb = W.heap.size := ⟨_, rfl⟩
          have hj1000 : j ≤ 1000 := by omega
          clear hwb
          cases isb <;> cases amb
          all_goals
            go_wp2_with (first
              | (go_at_call 83; refine (CP _).mono ?_; rintro e w5 ⟨rfl, hb5⟩; have HV5 := Go.Lib.hid (HV.out.keep hb5); have f9 := HV5.out.box.thaw 9; have fc := HV5.out.c.thaw 2; have c2 := HV5.out.c.cellAt 2; obtain ⟨d0, d1, d2, d3, d4, d5, d6, d7, d8, d9⟩ := HV5.out.box.cells10; rw [← HAMB.out] at d9; simp [vC] at c2; clear d0 d1 d3 d4 d5 d6 d7 d8)
              | (at_builtin; go_loud (refine wpList_append_at rfl _ _ 39 rfl (W.heap.size + 2) 70 i0 (.int .u64 0) 1 8 Tryz.underlying39 hi hz0 hz1 hz2 rfl (by decide) _ _ _ rfl (own_alloc (own_far (HV5.out.rowJ (by omega)) (p := ⟨g, 9, none⟩) (by show g < W.heap.size + 2; omega) _) _) ⟨w5.heap.size, 0, none⟩ 1 1 [.int .u64 pv] rfl rfl (one_at (by simp [World.setCell]) _ _) (by intro u hu; simp at hu; subst hu; rfl) (by unfold maxLen; omega) (by omega) (by have := HV5.out.c.lt; simp [World.setCell]; omega) ?_; intro v' w3 hown' hgrow hloc; obtain ⟨A3, k3, rfl, _⟩ := own_form hown'; rw [HPV.out] at hown'; obtain ⟨q1, q2⟩ := HV5.out.amiss hgW hjp (by rw [HAM.out]; rfl) hown' hgrow; have Q2 := Go.Lib.hid q2; have qz := q1.thaw 2; have qc := q1.cellAt 2; simp [vC] at qc; clear q1 q2 hown' hgrow hloc)))
            exact ⟨⟨j + 1, A3, k3, by omega, by go_num, by rw [HIF.out]; rfl, Q2.out⟩, by simp [intOf]; omega⟩
        · obtain rfl : j = n - 1 := by omega
          have fz : ∀ i, wr.frozen? ⟨W.heap.size, i, none⟩ = false := fun i => hV.z.thaw i
          obtain ⟨c0, c1, c2, c3, c4, c5, c6, c7⟩ := hV.c.cells8
          obtain ⟨z0, z1, z2, z3, z4, z5, z6, z7⟩ := hV.z.cells8
          clear hV
          have hz8 : BlkIs wr W.heap.size 41 #[.int .i64 0, .int .i64 0, .slice none 0 0, .int .i64 0, .int .i64 0, .int .i64 0, .int .i64 0, .int .i64 0] := HV.out.z
          have Q := hz8.store8 (.int .i64 1) (.int .i64 (numV x)) (.slice A (n - 1) kj) (.int .i64 0) (.int .i64 0) (.int .i64 0) (.int .i64 0) (.int .i64 0)
          have QB := Below.store8 (Below.refl W.heap.size wr) (g := W.heap.size) (Nat.le_refl _) (.int .i64 1) (.int .i64 (numV x)) (.slice A (n - 1) kj) (.int .i64 0) (.int .i64 0) (.int .i64 0) (.int .i64 0) (.int .i64 0)
          have QO := own_store8 (h := HV.out.row) (g := W.heap.size) (by omega) (.int .i64 1) (.int .i64 (numV x)) (.slice A (n - 1) kj) (.int .i64 0) (.int .i64 0) (.int .i64 0) (.int .i64 0) (.int .i64 0)
          go_wp2
          generalize (World.setCell _ (⟨W.heap.size, 7, none⟩ : Addr) (.int .i64 0)) = W' at *
          obtain ⟨q0, q1, q2, q3, q4, q5, q6, q7⟩ := Q.cells8
          refine bodyPost_ret (v := .tuple #[.agg #[.int .i64 1, .int .i64 (numV x), .slice A (n - 1) kj, .int .i64 0, .int .i64 0, .int .i64 0, .int .i64 0, .int .i64 0], .bool (isF x ps (n - 1))]) (by simp [results, Tryz.results53, go_sem, q0, q1, q2, q3, q4, q5, q6, q7]) rfl ?_
          exact visit_end HPN.out.symm HR.out HV.out QB (by omega) QO
set_option maxHeartbeats 16000000 in
theorem visit_one {w0 W : World} {g m b1 : Nat} {s : St} {P : Option Addr} {x : List UInt8} (hr : RdAt w0 g m b1 s W) (hl : WordsIn w0 P [x]) (hx : x.length ≤ 1000) :
    Calls Tryz.prog 53 #[.pointer (some ⟨g, 0, none⟩), .slice P 1 1] W (KindEnd w0 g m b1 s (visitV s.x.days [x])) := by
  obtain ⟨lv, v, u, cl, hr⟩ := hr
  have HR := Go.Lib.hid hr
  obtain ⟨b, off, rfl, hc⟩ := hl.at (by simp)
  have hcx := keep_cell hr.low (hc 0 (by simp)).1
  have CN := fun W => number_any (strL x) W (by rw [strL_size]; unfold maxLen; omega)
  rw [strL_list] at CN
  have hcx' : W.cell? ⟨b, off, none⟩ = some (.string (strL x)) := hcx
  have hbW : b < W.heap.size := Nat.lt_of_lt_of_le (hc 0 (by simp)).2 hr.low.size
  have HS := Go.Lib.hid (visAt_start x [] hr)
  clear hcx hc hl hr hx
  generalize strL x = sx at *
  obtain ⟨dx, hdx⟩ : ∃ dx, dx = numV x := ⟨_, rfl⟩
  obtain ⟨ox, hox⟩ : ∃ ox, ox = decB x := ⟨_, rfl⟩
  rw [← hdx, ← hox] at CN
  rw [← hdx] at HS
  have HDX := Go.Lib.hid hdx
  have HOX := Go.Lib.hid hox
  clear hdx hox
  go_enter Tryz.func53, Tryz.ntmps53
  go_wp2_with (first
    | (go_at_call 82; refine (CN _).mono ?_; rintro e w2 ⟨rfl, rfl⟩))
  go_loopw [7, 29] (fun isv iv wr => isv = .bool (isF x [] 0) ∧ iv = .int .i64 0 ∧ VisAt W g m lv v u s x [] 0 none 0 wr) (fun _ _ _ => 0)
  case atStart => exact ⟨by unfold isF; simp [← HOX.out], rfl, HS.out⟩
  case round =>
    obtain ⟨rfl, rfl, hV⟩ := hrel
    have HV := Go.Lib.hid hV
    clear HS
    have fz : ∀ i, wr.frozen? ⟨W.heap.size, i, none⟩ = false := fun i => hV.z.thaw i
    obtain ⟨c0, c1, c2, c3, c4, c5, c6, c7⟩ := hV.c.cells8
    obtain ⟨z0, z1, z2, z3, z4, z5, z6, z7⟩ := hV.z.cells8
    have hz8 : BlkIs wr W.heap.size 41 #[.int .i64 0, .int .i64 0, .slice none 0 0, .int .i64 0, .int .i64 0, .int .i64 0, .int .i64 0, .int .i64 0] := HV.out.z
    have Q := hz8.store8 (.int .i64 1) (.int .i64 (numV x)) (.slice none 0 0) (.int .i64 0) (.int .i64 0) (.int .i64 0) (.int .i64 0) (.int .i64 0)
    have QB := Below.store8 (Below.refl W.heap.size wr) (g := W.heap.size) (Nat.le_refl _) (.int .i64 1) (.int .i64 (numV x)) (.slice none 0 0) (.int .i64 0) (.int .i64 0) (.int .i64 0) (.int .i64 0) (.int .i64 0)
    have QO := own_store8 (h := HV.out.row) (g := W.heap.size) (by omega) (.int .i64 1) (.int .i64 (numV x)) (.slice none 0 0) (.int .i64 0) (.int .i64 0) (.int .i64 0) (.int .i64 0) (.int .i64 0)
    clear hV
    go_wp2
    generalize (World.setCell _ (⟨W.heap.size, 7, none⟩ : Addr) (.int .i64 0)) = W' at *
    obtain ⟨q0, q1, q2, q3, q4, q5, q6, q7⟩ := Q.cells8
    refine bodyPost_ret (v := .tuple #[.agg #[.int .i64 1, .int .i64 (numV x), .slice none 0 0, .int .i64 0, .int .i64 0, .int .i64 0, .int .i64 0, .int .i64 0], .bool (isF x [] 0)]) (by simp [results, Tryz.results53, go_sem, q0, q1, q2, q3, q4, q5, q6, q7]) rfl ?_
    exact visit_end (j := 0) rfl HR.out HV.out QB (by omega) QO
theorem visit_any {w0 W : World} {g m b1 : Nat} {s : St} {P : Option Addr} {n k : Nat} {l : List (List UInt8)} (hr : RdAt w0 g m b1 s W) (hl : WordsIn w0 P l) (hn : l.length = n) (hnk : n ≤ k) (h1 : n ≤ 1000) (hz : ∀ x ∈ l, x.length ≤ 1000) :
    Calls Tryz.prog 53 #[.pointer (some ⟨g, 0, none⟩), .slice P n k] W (KindEnd w0 g m b1 s (visitV s.x.days l)) := by
  by_cases hk : k = 1
  · subst hk
    match l, hn with
    | [], hn => subst hn; exact visit_zero hr
    | [x], hn => subst hn; exact visit_one hr hl (hz x (by simp))
    | x :: y :: r, hn => simp at hn; omega
  · exact visit_more hr hl hn hnk hk h1 hz
end Go.Proofs.YtliomhkgkabbbaaGreatDoor
end
section
/- What ruleOf and tank answer, off their code: a customer with a tank. -/
namespace Go.Proofs.YtliomhkgkabbbaaGreatDoor
open Go.RowKit
set_option linter.unusedVariables false
set_option maxRecDepth 20000
/-- A rule's number and whether a word is one's. -/
def ruleN (w : List UInt8) : Int := if w = wFill then 1 else if w = wAny then 2 else 0
theorem ruleV_is (w : List UInt8) : ruleV w = if (w == wFill || w == wAny) = true then some (ruleN w) else none := by
  unfold ruleV ruleN
  by_cases h1 : w = wFill
  · subst h1; rfl
  · by_cases h2 : w = wAny
    · subst h2; rfl
    · rw [if_neg h1, if_neg h2, if_neg h1, if_neg h2]
      have e1 : (w == wFill) = false := beq_eq_false_iff_ne.2 h1
      have e2 : (w == wAny) = false := beq_eq_false_iff_ne.2 h2
      rw [e1, e2]; rfl
theorem ruleOf_walk (sw : ByteArray) (q1 q2 : Bool) (h1 : (sw.toList == [102, 105, 108, 108]) = q1) (h2 : (sw.toList == [97, 110, 121]) = q2) (W : World) :
    Calls Tryz.prog 84 #[.string sw] W fun e w' => e = .returned (.tuple #[.int .i64 (if q1 then 1 else if q2 then 2 else 0), .bool (q1 || q2)]) ∧ w' = W := by
  cases q1
  · cases q2
    · go_enter Tryz.func84, Tryz.ntmps84
      go_wp2
      go_ret2
      exact ⟨rfl, rfl⟩
    · go_enter Tryz.func84, Tryz.ntmps84
      go_wp2
      go_ret2
      exact ⟨rfl, rfl⟩
  · clear h2
    go_enter Tryz.func84, Tryz.ntmps84
    go_wp2
    go_ret2
    exact ⟨rfl, rfl⟩
theorem ruleOf_any (w : List UInt8) (W : World) :
    Calls Tryz.prog 84 #[.string (strL w)] W fun e w' => e = .returned (.tuple #[.int .i64 (ruleN w), .bool (w == wFill || w == wAny)]) ∧ w' = W := by
  refine (ruleOf_walk (strL w) (w == wFill) (w == wAny) (by rw [strL_tl]; rfl) (by rw [strL_tl]; rfl) W).mono fun e w' ⟨h1, h2⟩ => ⟨?_, h2⟩
  rw [h1]
  have : (if (w == wFill) = true then (1 : Int) else if (w == wAny) = true then 2 else 0) = ruleN w := by
    unfold ruleN
    simp only [beq_iff_eq]
  rw [this]
theorem KindEnd.zero {w0 W w' : World} {g m b1 : Nat} {s : St} {lv v u : Value} {cl : CRow} {R : Option (Cust × Bool)} (hR : R = none) (h : RAt w0 g m b1 lv v u cl s W) (hb : Below W.heap.size W w') :
    KindEnd w0 g m b1 s R (.returned (.tuple #[.agg #[.int .i64 0, .int .i64 0, .slice none 0 0, .int .i64 0, .int .i64 0, .int .i64 0, .int .i64 0, .int .i64 0], .bool false])) w' := by
  subst hR
  exact ⟨zeroC, none, 0, s.am, rfl, ⟨lv, v, u, cl, h.keep hb⟩, World.ownsRow_nil _ _ _ _, zeroC_wf, fun t h => by cases h⟩
theorem tank_short {w0 W : World} {g m b1 : Nat} {s : St} {P : Option Addr} {n k : Nat} (hr : RdAt w0 g m b1 s W) (hn : n ≠ 5) (h1 : n ≤ 1000) :
    Calls Tryz.prog 54 #[.pointer (some ⟨g, 0, none⟩), .slice P n k] W (KindEnd w0 g m b1 s none) := by
  obtain ⟨lv, v, u, cl, hr⟩ := hr
  have HR := Go.Lib.hid hr
  have Q := Go.Lib.hid (BlkIs.fresh W 41 zC)
  have HB := Go.Lib.hid (below_alloc W (.cells zC 41))
  obtain ⟨q0, q1, q2, q3, q4, q5, q6, q7⟩ := Q.out.cells8
  have hne : ((n : Int) != 5) = true := by simp; omega
  have hne2 : ((n : Int) == 5) = false := beq_eq_false_iff_ne.2 (by omega)
  unfold zC at q0 q1 q2 q3 q4 q5 q6 q7
  clear hr
  go_enter Tryz.func54, Tryz.ntmps54
  go_wp2
  refine bodyPost_ret (v := .tuple #[.agg #[.int .i64 0, .int .i64 0, .slice none 0 0, .int .i64 0, .int .i64 0, .int .i64 0, .int .i64 0, .int .i64 0], .bool false]) (by simp [results, Tryz.results54, go_sem, q0, q1, q2, q3, q4, q5, q6, q7]) rfl ?_
  exact KindEnd.zero rfl HR.out HB.out
set_option maxHeartbeats 8000000 in
theorem tank_five {w0 W : World} {g m b1 : Nat} {s : St} {P : Option Addr} {k : Nat} {x1 x2 x3 x4 x5 : List UInt8} (hr : RdAt w0 g m b1 s W) (hl : WordsIn w0 P [x1, x2, x3, x4, x5]) (hz : ∀ x ∈ [x1, x2, x3, x4, x5], x.length ≤ 1000) :
    Calls Tryz.prog 54 #[.pointer (some ⟨g, 0, none⟩), .slice P 5 k] W (KindEnd w0 g m b1 s ((tankV [x1, x2, x3, x4, x5]).map fun c => (c, false))) := by
  obtain ⟨lv, v, u, cl, hr⟩ := hr
  have HR := Go.Lib.hid hr
  obtain ⟨b, off, rfl, hc⟩ := hl.at (by simp)
  have hbW : b < W.heap.size := Nat.lt_of_lt_of_le (hc 0 (by simp)).2 hr.low.size
  have c1 : W.cell? ⟨b, off, none⟩ = some (.string (strL x1)) := keep_cell hr.low (hc 0 (by simp)).1
  have c2 : W.cell? ⟨b, off + 1, none⟩ = some (.string (strL x2)) := keep_cell hr.low (hc 1 (by simp)).1
  have c3 : W.cell? ⟨b, off + 2, none⟩ = some (.string (strL x3)) := keep_cell hr.low (hc 2 (by simp)).1
  have c4 : W.cell? ⟨b, off + 3, none⟩ = some (.string (strL x4)) := keep_cell hr.low (hc 3 (by simp)).1
  have c5 : W.cell? ⟨b, off + 4, none⟩ = some (.string (strL x5)) := keep_cell hr.low (hc 4 (by simp)).1
  have C4 := fun W => ruleOf_any x4 W
  clear hc hl
  go_enter Tryz.func54, Tryz.ntmps54
  go_wp2_with (first
    | (go_at_call 84; refine (C4 _).mono ?_; rintro e w2 ⟨rfl, rfl⟩))
  obtain ⟨W1, hW1⟩ : ∃ W1, W1 = W.alloc (.cells zC 41) := ⟨_, rfl⟩
  have Q1 : BlkIs W1 W.heap.size 41 zC := by rw [hW1]; exact BlkIs.fresh W _ _
  have B1 : Below W.heap.size W W1 := by rw [hW1]; exact below_alloc W _
  have d1 := keep_cell B1 c1
  have d2 := keep_cell B1 c2
  have d3 := keep_cell B1 c3
  have d5 := keep_cell B1 c5
  have HQ1 := Go.Lib.hid Q1
  have HB1 := Go.Lib.hid B1
  have hws : W.heap.size + 1 = W1.heap.size := by rw [hW1]; simp
  show Code.wp _ _ _ _ (W.alloc (.cells zC 41))
  rw [← hW1]
  clear hW1 Q1 B1 c1 c2 c3 c4 c5 C4 hr
  have HW2 := Go.Lib.hid ((words_lit W1 9 [x1, x2, x3, x5]).keep (below_drew _))
  have HB2 : Hid (Below W.heap.size W (W1.alloc (.cells #[.string (strL x1), .string (strL x2), .string (strL x3), .string (strL x5)] 9)).drew) := Go.Lib.hid ((HB1.out.alloc HB1.out.size _).drew)
  have HQ2 : Hid (BlkIs (W1.alloc (.cells #[.string (strL x1), .string (strL x2), .string (strL x3), .string (strL x5)] 9)).drew W.heap.size 41 zC) := Go.Lib.hid ((HQ1.out.alloc _).below (below_drew _) ((HQ1.out.alloc _).lt))
  have B2 : Below W1.heap.size W1 (W1.alloc (.cells #[.string (strL x1), .string (strL x2), .string (strL x3), .string (strL x5)] 9)).drew := (below_alloc W1 _).drew
  have g1 := keep_cell B2 d1
  have g2 := keep_cell B2 d2
  have g3 := keep_cell B2 d3
  have g5 := keep_cell B2 d5
  have HC := Go.Lib.hid (And.intro g1 (And.intro g2 (And.intro g3 g5)))
  clear B2 g1 g2 g3 g5
  have CN := fun R hR => numbers_words (some ⟨W1.heap.size, 0, none⟩) 4 4 [x1, x2, x3, x5] _ HW2.out rfl (by decide) (fun x hx => Nat.le_trans (hz x (by simp at hx ⊢; rcases hx with h | h | h | h <;> simp [h])) (by decide)) R hR
  have HT : Hid (tankV [x1, x2, x3, x4, x5] = match ruleV x4, numsV [x1, x2, x3, x5] with
    | some r, some v => some { kind := 2, demand := 0, pats := [], rate := v.getD 0 0, size := v.getD 1 0, start := v.getD 2 0, rule := r, hold := v.getD 3 0 }
    | _, _ => none) := Go.Lib.hid rfl
  rw [ruleV_is] at HT
  obtain ⟨rb, hrb⟩ : ∃ rb, rb = (x4 == wFill || x4 == wAny) := ⟨_, rfl⟩
  obtain ⟨rn, hrn⟩ : ∃ rn, rn = ruleN x4 := ⟨_, rfl⟩
  have hrb4 : -9223372036854775808 ≤ rn ∧ rn ≤ 9223372036854775807 := by
    rw [hrn]; unfold ruleN
    by_cases h1 : x4 = wFill
    · rw [if_pos h1]; decide
    · rw [if_neg h1]
      by_cases h2 : x4 = wAny
      · rw [if_pos h2]; decide
      · rw [if_neg h2]; decide
  rw [← hrb, ← hrn] at HT ⊢
  clear hrb hrn hz HW2
  cases hR : numsV [x1, x2, x3, x5] with
  | none =>
    have CN1 := CN none hR
    rw [hR] at HT
    have HN : Hid ((tankV [x1, x2, x3, x4, x5]).map (fun c => (c, false)) = none) := by
      show _ = _
      rw [HT.out]
      cases rb <;> rfl
    clear hR HT CN
    cases rb
    all_goals
      go_region_held3 (fun w' => w'.cell? ⟨b, off, none⟩ = some (.string (strL x1)) ∧ w'.cell? ⟨b, off + 1, none⟩ = some (.string (strL x2)) ∧ w'.cell? ⟨b, off + 2, none⟩ = some (.string (strL x3)) ∧ w'.cell? ⟨b, off + 4, none⟩ = some (.string (strL x5)))
        (first | exact ⟨d1, d2, d3, d5⟩ | exact ⟨t1, t2, t3, t5⟩ | go_keep)
        (first
          | (go_at_call 85; refine CN1.mono ?_; rintro e w6 hE; obtain ⟨rfl, hb6⟩ := hE.miss; have HQ6 : Hid (BlkIs w6 W.heap.size 41 #[.int .i64 0, .int .i64 0, .slice none 0 0, .int .i64 0, .int .i64 0, .int .i64 0, .int .i64 0, .int .i64 0]) := Go.Lib.hid (HQ2.out.below hb6 HQ2.out.lt); obtain ⟨z0, z1, z2, z3, z4, z5, z6, z7⟩ := HQ6.out.cells8; have HB6 := Go.Lib.hid (HB2.out.trans (hb6.mono HB2.out.size)); have fz : ∀ i, w6.frozen? ⟨W.heap.size, i, none⟩ = false := fun i => HQ6.out.thaw i; have t1 := keep_cell hb6 HC.out.1; have t2 := keep_cell hb6 HC.out.2.1; have t3 := keep_cell hb6 HC.out.2.2.1; have t5 := keep_cell hb6 HC.out.2.2.2; clear hE hb6))
      all_goals
        have Q := HQ6.out.store8 (.int .i64 0) (.int .i64 0) (.slice none 0 0) (.int .i64 0) (.int .i64 0) (.int .i64 0) (.int .i64 0) (.int .i64 0)
        have QB := Below.store8 HB6.out (g := W.heap.size) (Nat.le_refl _) (.int .i64 0) (.int .i64 0) (.slice none 0 0) (.int .i64 0) (.int .i64 0) (.int .i64 0) (.int .i64 0) (.int .i64 0)
        go_wp2
        generalize (World.setCell _ (⟨W.heap.size, 7, none⟩ : Addr) (.int .i64 0)) = W' at *
        obtain ⟨q0, q1, q2, q3, q4, q5, q6, q7⟩ := Q.cells8
        refine bodyPost_ret (v := .tuple #[.agg #[.int .i64 0, .int .i64 0, .slice none 0 0, .int .i64 0, .int .i64 0, .int .i64 0, .int .i64 0, .int .i64 0], .bool false]) (by simp [results, Tryz.results54, go_sem, q0, q1, q2, q3, q4, q5, q6, q7]) rfl ?_
        exact KindEnd.zero HN.out HR.out QB
  | some vs =>
    have hlen : vs.length = 4 := numsV_len hR
    have hbd := numsV_bd hR
    match vs, hlen with
    | [a1, a2, a3, a4], _ =>
    have CN1 := CN _ hR
    rw [hR] at HT
    have y1 := hbd a1 (by simp)
    have y2 := hbd a2 (by simp)
    have y3 := hbd a3 (by simp)
    have y4 := hbd a4 (by simp)
    have HY := Go.Lib.hid (And.intro y1 (And.intro y2 (And.intro y3 y4)))
    have HY4 := Go.Lib.hid hrb4
    clear hR CN hbd y1 y2 y3 y4 hrb4
    cases rb
    · have HN : Hid ((tankV [x1, x2, x3, x4, x5]).map (fun c => (c, false)) = none) := by
        show _ = _
        rw [HT.out]; rfl
      go_region_held3 (fun w' => w'.cell? ⟨b, off, none⟩ = some (.string (strL x1)) ∧ w'.cell? ⟨b, off + 1, none⟩ = some (.string (strL x2)) ∧ w'.cell? ⟨b, off + 2, none⟩ = some (.string (strL x3)) ∧ w'.cell? ⟨b, off + 4, none⟩ = some (.string (strL x5)))
        (first | exact ⟨d1, d2, d3, d5⟩ | exact ⟨t1, t2, t3, t5⟩ | go_keep)
        (first
          | (go_at_call 85; refine CN1.mono ?_; rintro e w6 hE; obtain ⟨zb, zc, rfl, hc6, hb6⟩ := hE.got (n := 4) rfl (by decide); have HQ6 : Hid (BlkIs w6 W.heap.size 41 #[.int .i64 0, .int .i64 0, .slice none 0 0, .int .i64 0, .int .i64 0, .int .i64 0, .int .i64 0, .int .i64 0]) := Go.Lib.hid (HQ2.out.below hb6 HQ2.out.lt); obtain ⟨z0, z1, z2, z3, z4, z5, z6, z7⟩ := HQ6.out.cells8; have HB6 := Go.Lib.hid (HB2.out.trans (hb6.mono HB2.out.size)); have fz : ∀ i, w6.frozen? ⟨W.heap.size, i, none⟩ = false := fun i => HQ6.out.thaw i; have t1 := keep_cell hb6 HC.out.1; have t2 := keep_cell hb6 HC.out.2.1; have t3 := keep_cell hb6 HC.out.2.2.1; have t5 := keep_cell hb6 HC.out.2.2.2; clear hE hb6))
      all_goals
        have Q := HQ6.out.store8 (.int .i64 0) (.int .i64 0) (.slice none 0 0) (.int .i64 0) (.int .i64 0) (.int .i64 0) (.int .i64 0) (.int .i64 0)
        have QB := Below.store8 HB6.out (g := W.heap.size) (Nat.le_refl _) (.int .i64 0) (.int .i64 0) (.slice none 0 0) (.int .i64 0) (.int .i64 0) (.int .i64 0) (.int .i64 0) (.int .i64 0)
        go_wp2
        generalize (World.setCell _ (⟨W.heap.size, 7, none⟩ : Addr) (.int .i64 0)) = W' at *
        obtain ⟨q0, q1, q2, q3, q4, q5, q6, q7⟩ := Q.cells8
        refine bodyPost_ret (v := .tuple #[.agg #[.int .i64 0, .int .i64 0, .slice none 0 0, .int .i64 0, .int .i64 0, .int .i64 0, .int .i64 0, .int .i64 0], .bool false]) (by simp [results, Tryz.results54, go_sem, q0, q1, q2, q3, q4, q5, q6, q7]) rfl ?_
        exact KindEnd.zero HN.out HR.out QB
    · have HN : Hid ((tankV [x1, x2, x3, x4, x5]).map (fun c => (c, false)) = some (⟨2, 0, [], a1, a2, a3, rn, a4⟩, false)) := by
        show _ = _
        rw [HT.out]; rfl
      go_region_held3 (fun w' => w'.cell? ⟨b, off, none⟩ = some (.string (strL x1)) ∧ w'.cell? ⟨b, off + 1, none⟩ = some (.string (strL x2)) ∧ w'.cell? ⟨b, off + 2, none⟩ = some (.string (strL x3)) ∧ w'.cell? ⟨b, off + 4, none⟩ = some (.string (strL x5)))
        (first | exact ⟨d1, d2, d3, d5⟩ | exact ⟨t1, t2, t3, t5⟩ | go_keep)
        (first
          | (go_at_call 85; refine CN1.mono ?_; rintro e w6 hE; obtain ⟨zb, zc, rfl, hc6, hb6⟩ := hE.got (n := 4) rfl (by decide); have m1 : w6.cell? ⟨zb, 0, none⟩ = some (.int .i64 a1) := hc6 0 (by decide); have m2 : w6.cell? ⟨zb, 1, none⟩ = some (.int .i64 a2) := hc6 1 (by decide); have m3 : w6.cell? ⟨zb, 2, none⟩ = some (.int .i64 a3) := hc6 2 (by decide); have m4 : w6.cell? ⟨zb, 3, none⟩ = some (.int .i64 a4) := hc6 3 (by decide); have HQ6 : Hid (BlkIs w6 W.heap.size 41 #[.int .i64 0, .int .i64 0, .slice none 0 0, .int .i64 0, .int .i64 0, .int .i64 0, .int .i64 0, .int .i64 0]) := Go.Lib.hid (HQ2.out.below hb6 HQ2.out.lt); obtain ⟨z0, z1, z2, z3, z4, z5, z6, z7⟩ := HQ6.out.cells8; have HB6 := Go.Lib.hid (HB2.out.trans (hb6.mono HB2.out.size)); have fz : ∀ i, w6.frozen? ⟨W.heap.size, i, none⟩ = false := fun i => HQ6.out.thaw i; have t1 := keep_cell hb6 HC.out.1; have t2 := keep_cell hb6 HC.out.2.1; have t3 := keep_cell hb6 HC.out.2.2.1; have t5 := keep_cell hb6 HC.out.2.2.2; clear hE hb6))
      all_goals
        have Q := HQ6.out.store8 (.int .i64 2) (.int .i64 0) (.slice none 0 0) (.int .i64 a1) (.int .i64 a2) (.int .i64 a3) (.int .i64 rn) (.int .i64 a4)
        have QB := (Below.store8 HB6.out (g := W.heap.size) (Nat.le_refl _) (.int .i64 2) (.int .i64 0) (.slice none 0 0) (.int .i64 a1) (.int .i64 a2) (.int .i64 a3) (.int .i64 rn) (.int .i64 a4))
        have Q' := Q.below (below_drew _) Q.lt
        have QB' := QB.drew
        clear Q QB
        go_wp2
        go_region
        go_wp2
        generalize (World.drew (World.setCell _ (⟨W.heap.size, 7, none⟩ : Addr) (.int .i64 a4))) = W' at *
        obtain ⟨q0, q1, q2, q3, q4, q5, q6, q7⟩ := Q'.cells8
        refine bodyPost_ret (v := .tuple #[.agg #[.int .i64 2, .int .i64 0, .slice none 0 0, .int .i64 a1, .int .i64 a2, .int .i64 a3, .int .i64 rn, .int .i64 a4], .bool true]) (by simp [results, Tryz.results54, go_sem, q0, q1, q2, q3, q4, q5, q6, q7]) rfl ?_
        rw [HN.out]
        obtain ⟨y1, y2, y3, y4⟩ := HY.out
        have w0' : W64 0 := z64 (by decide) (by decide)
        have w2' : W64 2 := z64 (by decide) (by decide)
        have w1'' : W64 a1 := ⟨by omega, by omega⟩
        have w2'' : W64 a2 := ⟨by omega, by omega⟩
        have w3'' : W64 a3 := ⟨by omega, by omega⟩
        have w4'' : W64 a4 := ⟨by omega, by omega⟩
        exact ⟨⟨2, 0, [], a1, a2, a3, rn, a4⟩, none, 0, s.am, rfl, ⟨lv, v, u, cl, HR.out.keep QB'⟩, World.ownsRow_nil _ _ _ _, ⟨w2', w0', w1'', w2'', w3'', HY4.out, w4'', fun p hp => by simp at hp, Nat.zero_le _⟩, fun t ht => by injection ht with ht; subst ht; exact ⟨rfl, by simp⟩⟩
theorem tankP_any {w0 W : World} {g m b1 : Nat} {s : St} {P : Option Addr} {n k : Nat} {l : List (List UInt8)} (hr : RdAt w0 g m b1 s W) (hl : WordsIn w0 P l) (hn : l.length = n) (h1 : n ≤ 1000) (hz : ∀ x ∈ l, x.length ≤ 1000) :
    Calls Tryz.prog 54 #[.pointer (some ⟨g, 0, none⟩), .slice P n k] W (KindEnd w0 g m b1 s ((tankV l).map fun c => (c, false))) := by
  by_cases h5 : n = 5
  · subst h5
    match l, hn with
    | [x1, x2, x3, x4, x5], _ => exact tank_five hr hl hz
  · have e : tankV l = none := by unfold tankV; rw [if_neg (by omega)]
    rw [e]
    exact tank_short hr h5 h1
end Go.Proofs.YtliomhkgkabbbaaGreatDoor
end
section
/- What words answers, off its code: a customer's words. -/
namespace Go.Proofs.YtliomhkgkabbbaaGreatDoor
open Go.RowKit
set_option linter.unusedVariables false
set_option maxRecDepth 20000
theorem wordOf_any (r : Int) (W : World) : Calls Tryz.prog 45 #[.int .i64 r] W fun e w' => e = .returned (.string (strL (ruleW r))) ∧ w' = W := by
  by_cases h : r = 1
  · subst h
    go_enter Tryz.func45, Tryz.ntmps45
    go_wp2
    go_ret
    exact ⟨rfl, rfl⟩
  · have e : ruleW r = wAny := by unfold ruleW; rw [if_neg h]
    have hb : (r == 1) = false := beq_eq_false_iff_ne.2 h
    rw [e]
    clear h e
    go_enter Tryz.func45, Tryz.ntmps45
    go_wp2
    go_ret
    exact ⟨rfl, rfl⟩
theorem row_lit (w : World) {base n : Nat} (hb : base ≤ w.heap.size) (ws : List (List UInt8)) (hn : ws.length = n) (hm : n ≤ maxLen) : RowS (w.alloc (.cells (ws.map fun x => Value.string (strL x)).toArray 9)) base (.slice (some ⟨w.heap.size, 0, none⟩) n n) ws := by
  subst hn
  exact ⟨by simp, .inr ⟨w.heap.size, ws.length, _, rfl, hb, heap_alloc_new w _, Nat.le_refl _, hm, by simp, by simp [List.take_of_length_le]⟩⟩
theorem dec_from {w W : World} (n : Int) (hn : W64 n) (hb : Below w.heap.size w W) : Calls Tryz.prog 22 #[.int .i64 n] W fun e w' => e = .returned (.string (strL (decI n))) ∧ Below w.heap.size w w' :=
  (decimal_any n hn W).mono fun e w' ⟨h1, h2⟩ => ⟨h1, hb.trans (h2.mono hb.size)⟩
/-- What words hands back. -/
def WordsEnd (w : World) (ws : List (List UInt8)) (e : Ending) (w' : World) : Prop := ∃ v, e = .returned v ∧ RowS w' w.heap.size v ws ∧ Below w.heap.size w w'
set_option maxHeartbeats 4000000 in
theorem words_tank (c : Cust) (P : Option Addr) (k : Nat) (d : Int) (w : World) (hc : c.Wf) (hk : c.kind = 2) :
    Calls Tryz.prog 23 #[custV c P k, .int .i64 d] w (WordsEnd w (custW d c)) := by
  have e : custW d c = [wTank, decI c.rate, decI c.size, decI c.start, ruleW c.rule, decI c.hold] := by unfold custW; rw [if_pos hk]
  rw [e]
  have CR := fun W => wordOf_any c.rule W
  unfold custV
  rw [hk]
  obtain ⟨W0, hW0⟩ : ∃ W0, W0 = w.alloc (.cells #[.int .i64 2, .int .i64 c.demand, .slice P c.pats.length k, .int .i64 c.rate, .int .i64 c.size, .int .i64 c.start, .int .i64 c.rule, .int .i64 c.hold] 41) := ⟨_, rfl⟩
  have K0 : BlkIs W0 w.heap.size 41 #[.int .i64 2, .int .i64 c.demand, .slice P c.pats.length k, .int .i64 c.rate, .int .i64 c.size, .int .i64 c.start, .int .i64 c.rule, .int .i64 c.hold] := by rw [hW0]; exact BlkIs.fresh w _ _
  have HB0 : Hid (Below w.heap.size w W0) := by show Below _ _ _; rw [hW0]; exact below_alloc _ _
  have HK0 := Go.Lib.hid K0
  obtain ⟨j0, j1, j2, j3, j4, j5, j6, j7⟩ := K0.cells8
  have lt0 := K0.lt
  go_enter Tryz.func23, Tryz.ntmps23
  go_wp2_with fail
  rw [← hW0]
  have C1 := fun W hb => dec_from (w := W0) (W := W) c.rate hc.rate hb
  have C2 := fun W hb => dec_from (w := W0) (W := W) c.size hc.size hb
  have C3 := fun W hb => dec_from (w := W0) (W := W) c.start hc.start hb
  have C4 := fun W hb => dec_from (w := W0) (W := W) c.hold hc.hold hb
  have hbx := Below.refl W0.heap.size W0
  have HJ := Go.Lib.hid (And.intro j3 (And.intro j4 (And.intro j5 (And.intro j6 j7))))
  clear hW0 K0 hc hk e j0 j1 j2
  go_cut [4] from 11 (fun p wx => RowS wx w.heap.size p [wTank, decI c.rate, decI c.size, decI c.start, ruleW c.rule, decI c.hold] ∧ Below w.heap.size w wx)
  case first =>
    go_region_held3 (fun w' => w'.cell? ⟨w.heap.size, 3, none⟩ = some (.int .i64 c.rate) ∧ w'.cell? ⟨w.heap.size, 4, none⟩ = some (.int .i64 c.size) ∧ w'.cell? ⟨w.heap.size, 5, none⟩ = some (.int .i64 c.start) ∧ w'.cell? ⟨w.heap.size, 6, none⟩ = some (.int .i64 c.rule) ∧ w'.cell? ⟨w.heap.size, 7, none⟩ = some (.int .i64 c.hold))
      (first | exact ⟨j3, j4, j5, j6, j7⟩ | exact ⟨keep_cell hbx HJ.out.1, keep_cell hbx HJ.out.2.1, keep_cell hbx HJ.out.2.2.1, keep_cell hbx HJ.out.2.2.2.1, keep_cell hbx HJ.out.2.2.2.2⟩ | exact ⟨keep_cell hbx.drew HJ.out.1, keep_cell hbx.drew HJ.out.2.1, keep_cell hbx.drew HJ.out.2.2.1, keep_cell hbx.drew HJ.out.2.2.2.1, keep_cell hbx.drew HJ.out.2.2.2.2⟩ | go_keep)
      (first
        | (go_at_call 22; (first | (with_reducible refine (C1 _ (by first | exact hbx | exact hbx.drew)).mono ?_) | (with_reducible refine (C2 _ (by first | exact hbx | exact hbx.drew)).mono ?_) | (with_reducible refine (C3 _ (by first | exact hbx | exact hbx.drew)).mono ?_) | (with_reducible refine (C4 _ (by first | exact hbx | exact hbx.drew)).mono ?_)); rintro e w6 ⟨rfl, hb6⟩; replace hbx := hb6; clear hb6)
        | (go_at_call 45; refine (CR _).mono ?_; rintro e w7 ⟨rfl, rfl⟩))
    all_goals
      go_wp2_with fail
      go_meet
      have hs6 : w.heap.size ≤ w6.heap.size := Nat.le_trans HB0.out.size hbx.size
      exact ⟨row_lit w6 hs6 [wTank, decI c.rate, decI c.size, decI c.start, ruleW c.rule, decI c.hold] rfl (by decide), (HB0.out.trans (hbx.mono HB0.out.size)).alloc hs6 _⟩
  case rest =>
    obtain ⟨hrow, hbw⟩ := hcut
    clear C1 C2 C3 C4 CR j3 j4 j5 j6 j7 hbx
    go_wp2
    go_ret
    exact ⟨_, rfl, hrow, hbw⟩
/-- A set's text, from a world on that has grown since. -/
theorem text_from {w W : World} (p d : Int) (hp : 0 ≤ p ∧ p ≤ 18446744073709551615) (hd : W64 d) (hb : Below w.heap.size w W) : Calls Tryz.prog 46 #[.int .u64 p, .int .i64 d] W fun e w' => e = .returned (.string (strL (patW d p))) ∧ Below w.heap.size w w' := by
  have e : ((p.toNat : Nat) : Int) = p := by omega
  have C := text_code p.toNat d W (by omega) hd.wf
  rw [e] at C
  refine C.mono fun e w' ⟨h1, h2⟩ => ⟨?_, hb.trans (h2.mono hb.size)⟩
  rw [h1]
  unfold patW
  rw [strL_of]
set_option maxHeartbeats 4000000 in
theorem words_walk (ck cd cr cs ct cu ch : Int) (P : Option Addr) (n k : Nat) (ps : List Int) (d : Int) (w : World) (hk : ck ≠ 2) (hcd : W64 cd) (hd : W64 d) (hnl : ps.length = n) (hP : Nums .u64 w P n ps) (hC : ∀ p ∈ ps, 0 ≤ p ∧ p ≤ 18446744073709551615) (hn : n ≤ 900) :
    Calls Tryz.prog 23 #[.agg #[.int .i64 ck, .int .i64 cd, .slice P n k, .int .i64 cr, .int .i64 cs, .int .i64 ct, .int .i64 cu, .int .i64 ch], .int .i64 d] w (WordsEnd w (wVisit :: decI cd :: ps.map (patW d))) := by
  obtain ⟨i0, hi, hz0, hz1, hz2⟩ := info_parts info_str
  have hkb : (ck == 2) = false := beq_eq_false_iff_ne.2 hk
  obtain ⟨W0, hW0⟩ : ∃ W0, W0 = w.alloc (.cells #[.int .i64 ck, .int .i64 cd, .slice P n k, .int .i64 cr, .int .i64 cs, .int .i64 ct, .int .i64 cu, .int .i64 ch] 41) := ⟨_, rfl⟩
  have K0 : BlkIs W0 w.heap.size 41 #[.int .i64 ck, .int .i64 cd, .slice P n k, .int .i64 cr, .int .i64 cs, .int .i64 ct, .int .i64 cu, .int .i64 ch] := by rw [hW0]; exact BlkIs.fresh w _ _
  have HB0 : Hid (Below w.heap.size w W0) := by show Below _ _ _; rw [hW0]; exact below_alloc _ _
  have j2 := K0.cells8.2.2.1
  have HP := Go.Lib.hid (hP.keep HB0.out)
  have C1 := dec_from (w := W0) (W := W0) cd hcd (Below.refl _ _)
  have HC := Go.Lib.hid hC
  have HD := Go.Lib.hid hd
  have HN := Go.Lib.hid hnl
  clear K0 hP hC hnl hk hcd
  go_enter Tryz.func23, Tryz.ntmps23
  go_wp2_with fail
  rw [← hW0]
  clear hW0
  refine C1.mono ?_
  rintro e w6 ⟨rfl, hb6⟩
  have g2 := keep_cell hb6 j2
  have HB6 := Go.Lib.hid hb6
  clear hb6 C1 j2
  have hs6 : w.heap.size ≤ w6.heap.size := Nat.le_trans HB0.out.size HB6.out.size
  have lt6 : w.heap.size < w6.heap.size := World.block_lt_of_cell? w6 _ g2
  have HR0 := Go.Lib.hid (row_lit w6 HB6.out.size (n := 2) [wVisit, decI cd] rfl (by decide))
  have HB7 := Go.Lib.hid ((HB0.out.trans (HB6.out.mono HB0.out.size)).alloc hs6 (.cells ([wVisit, decI cd].map fun x => Value.string (strL x)).toArray 9))
  have HW7 := Go.Lib.hid (HB6.out.alloc (Nat.le_trans (Nat.le_refl _) HB6.out.size) (.cells ([wVisit, decI cd].map fun x => Value.string (strL x)).toArray 9))
  go_wp2
  go_loopw [5, 34] (fun lv iv wr => ∃ (j : Nat) (A : Option Addr) (c : Nat), j ≤ n ∧ iv = .int .i64 j ∧ lv = .slice A (2 + j) c ∧ RowS wr W0.heap.size (.slice A (2 + j) c) (wVisit :: decI cd :: (ps.take j).map (patW d)) ∧ Below W0.heap.size W0 wr) (fun _ iv _ => n - (intOf iv).toNat)
  case atStart => exact ⟨0, _, _, Nat.zero_le _, rfl, rfl, HR0.out, HW7.out⟩
  case round =>
    obtain ⟨j, A, c, hj, rfl, rfl, hrow, hbw⟩ := hrel
    have HRW := Go.Lib.hid hrow
    have HBW := Go.Lib.hid hbw
    clear HR0 HW7 g2 HB7
    by_cases hlt : j < n
    · have hjl : j < ps.length := by rw [HN.out]; exact hlt
      obtain ⟨b, o, rfl, hcell⟩ := (HP.out.keep hbw).2 (by omega)
      have hc0 := hcell j hlt
      rw [getD_in _ _ hjl] at hc0
      have CT := fun W hb => text_from (w := wr) (W := W) ps[j] d (HC.out _ (List.getElem_mem hjl)) HD.out hb
      have htk := Go.Lib.hid (List.take_succ_eq_append_getElem hjl)
      obtain ⟨p, hp⟩ : ∃ p, p = ps[j] := ⟨_, rfl⟩
      rw [← hp] at hc0 CT htk
      have hll : (wVisit :: decI cd :: (ps.take j).map (patW d)).length = 2 + j := by simp; omega
      obtain ⟨ws, hws⟩ : ∃ ws, ws = wVisit :: decI cd :: (ps.take j).map (patW d) := ⟨_, rfl⟩
      rw [← hws] at HRW hll
      have HWS := Go.Lib.hid hws
      have HLL := Go.Lib.hid hll
      have hs8 : W0.heap.size ≤ wr.heap.size := hbw.size
      have hbr := Below.refl wr.heap.size wr
      have hrow : wr.ownsRow W0.heap.size 9 1 (.slice A (2 + j) c) (2 + j) (ws.map fun f => Value.string (strL f)) := by
        have := HRW.out
        unfold RowS at this
        rw [HLL.out] at this
        exact this
      have HRO := Go.Lib.hid hrow
      clear hcell hp hws hll hrow hbw hjl
      go_wp2_with (first
        | (go_at_call 46; refine (CT _ hbr).mono ?_; rintro e w8 ⟨rfl, hb8⟩; have HB8 := Go.Lib.hid hb8; clear hb8)
        | (at_builtin; refine wpList_append_own _ rfl _ _ 50 rfl W0.heap.size 9 i0 (.string ByteArray.empty) 1 16 Tryz.underlying50 hi hz0 hz1 hz2 rfl (by decide) _ _ _ rfl (own_keep HRO.out (HB8.out.alloc HB8.out.size _)) ⟨w8.heap.size, 0, none⟩ 1 1 [.string (strL (patW d p))] rfl rfl (one_text _ _) (by intro u hu; simp at hu; subst hu; rfl) (by unfold maxLen; omega) (by omega) (by have := HB8.out.size; simp; omega) ?_; intro v' w3 hown' hgrow _; have R := ((HBW.out.trans (HB8.out.mono HBW.out.size)).alloc (Nat.le_trans HBW.out.size HB8.out.size) _).grown hgrow (by have := HBW.out.size; have := HB8.out.size; simp; omega) (own_ge HRO.out); obtain ⟨A3, c3, rfl, _⟩ := own_form hown'; have HO3 := Go.Lib.hid hown'; clear hgrow hown'))
      refine ⟨⟨j + 1, A3, c3, by omega, by go_num, by rw [show 2 + (j + 1) = 2 + j + 1 by omega], ?_, R⟩, by simp [intOf]; omega⟩
      have e2 : wVisit :: decI cd :: (ps.take (j + 1)).map (patW d) = ws ++ [patW d p] := by rw [htk.out, List.map_append, HWS.out]; rfl
      rw [e2, show 2 + (j + 1) = 2 + j + 1 by omega]
      unfold RowS
      rw [List.length_append, HLL.out, List.map_append]
      exact HO3.out
    · obtain rfl : j = n := by omega
      have hall : ps.take j = ps := List.take_of_length_le (by rw [HN.out]; exact Nat.le_refl _)
      have HF : Hid (WordsEnd w (wVisit :: decI cd :: ps.map (patW d)) (.returned (.slice A (2 + j) c)) wr) := by
        have := HRW.out
        rw [hall] at this
        exact ⟨_, rfl, own_base this HB0.out.size, HB0.out.trans (hbw.mono HB0.out.size)⟩
      clear hall hrow hbw HRW
      go_wp2
      go_ret
      exact HF.out
/-- What words answers, of any customer whose patterns are few. -/
theorem words_any2 (c : Cust) (P : Option Addr) (k : Nat) (d : Int) (w : World) (hc : c.Wf) (hd : W64 d) (hP : Nums .u64 w P c.pats.length c.pats) (hn : c.pats.length ≤ 900) :
    Calls Tryz.prog 23 #[custV c P k, .int .i64 d] w (WordsEnd w (custW d c)) := by
  by_cases hk : c.kind = 2
  · exact words_tank c P k d w hc hk
  · have e : custW d c = wVisit :: decI c.demand :: c.pats.map (patW d) := by unfold custW; rw [if_neg hk]
    rw [e]
    exact words_walk c.kind c.demand c.rate c.size c.start c.rule c.hold P c.pats.length k c.pats d w hk hc.demand hd rfl hP hc.pats hn
end Go.Proofs.YtliomhkgkabbbaaGreatDoor
end
