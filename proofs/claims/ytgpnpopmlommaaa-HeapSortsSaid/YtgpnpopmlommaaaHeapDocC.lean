/- The document's Drop, Change and Worth, walked. -/
import Derived.Test.YtgpnpopmlommaaaHeapDocB
namespace Go.Proofs.Ytgpnpopmlommaaa
open Go.RowKit Go.Maps
set_option linter.unusedVariables false
def DropMid (id : Int) (l : List (Thing Int)) (k : Nat) (m : List (Thing Int)) (b : Bool) : Prop := m = del (l.take k) id ∧ b = isIn (l.take k) id
theorem DropMid.hit {id : Int} {l m : List (Thing Int)} {k : Nat} {b : Bool} {z : Thing Int} (h : DropMid id l k m b) (hz : l[k]? = some z) (he : z.1 = id) : DropMid id l (k + 1) m true := by
  obtain ⟨h1, h2⟩ := h
  unfold DropMid
  rw [take_one hz]
  constructor
  · rw [h1]; unfold del; rw [List.filter_append, List.filter_cons_of_neg (by simp [he])]; simp
  · unfold isIn; simp [he]
theorem DropMid.miss {id : Int} {l m : List (Thing Int)} {k : Nat} {b : Bool} {z : Thing Int} (h : DropMid id l k m b) (hz : l[k]? = some z) (he : ¬ z.1 = id) : DropMid id l (k + 1) (m ++ [z]) b := by
  obtain ⟨h1, h2⟩ := h
  unfold DropMid
  rw [take_one hz]
  constructor
  · rw [h1]; unfold del; rw [List.filter_append, List.filter_cons_of_pos (by simp [he])]; simp
  · rw [h2]; unfold isIn; simp [he]
theorem DropMid.len {id : Int} {l m : List (Thing Int)} {k : Nat} {b : Bool} (h : DropMid id l k m b) : m.length ≤ l.length := by
  rw [h.1]; unfold del
  exact Nat.le_trans (List.length_filter_le _ _) (List.length_take_le' k l)
theorem DropMid.done {id : Int} {l m : List (Thing Int)} {k : Nat} {b : Bool} (h : DropMid id l k m b) (hk : l.length ≤ k) : m = del l id ∧ b = isIn l id := by
  unfold DropMid at h
  rw [List.take_of_length_le hk] at h; exact h
theorem del_wf {id : Int} {l : List (Thing Int)} (hl : ∀ y ∈ l, (Lit.int .i64 y.1).wf = true ∧ (Lit.int .i64 y.2).wf = true) : ∀ y ∈ del l id, (Lit.int .i64 y.1).wf = true ∧ (Lit.int .i64 y.2).wf = true :=
  fun y hy => hl y (List.mem_filter.1 hy).1
def DropRel (w : World) (id : Int) (l : List (Thing Int)) (out had i : Value) (wr : World) : Prop :=
  ∃ (k : Nat) (b : Bool) (m : List (Thing Int)), i = .int .i64 k ∧ k ≤ l.length ∧ had = .bool b ∧ OwnL w.heap.size wr out m ∧ Below w.heap.size w wr ∧ DropMid id l k m b
set_option maxHeartbeats 4000000 in
theorem ref_drop {w : World} {A : Option Addr} {n c : Nat} {l : List (Thing Int)} {F : List Nat} (h : Items w A n c l F) (hF : ∀ b ∈ F, b < w.heap.size) {id : Int} (hid : (Lit.int .i64 id).wf = true) (hroom : l.length < 1000000) :
    Calls Try.prog 26 #[.slice A n c, .int .i64 id] w (RefPost w (del l id) (isIn l id) F) := by
  have hl := h.1
  have hnc := h.2.1
  have hwf := h.2.2.2.1
  have HI := Lib.hid h
  have HL := Lib.hid hl
  have HW := Lib.hid hwf
  have hn : n < 1000000 := by omega
  have H0 : DropRel w id l (.slice none 0 0) (.bool false) (.int .i64 0) w := ⟨0, false, [], rfl, Nat.zero_le _, rfl, OwnL.nil _ _, Below.refl _ _, rfl, rfl⟩
  clear h hl hwf
  go_enter Try.func26, Try.ntmps26
  go_wp2
  go_loopw [6, 7, 8] (fun out had i wr => DropRel w id l out had i wr) (fun _ _ i _ => n - (intOf i).toNat)
  case atStart => exact H0
  case round =>
    clear H0
    obtain ⟨k, d, m, rfl, hk, rfl, hown, hbw, hM⟩ := hrel
    have hmlen := hM.len
    have hll := HL.out
    have hm1 : m.length < 1048576 := by omega
    have hB := hbw.size
    by_cases hlt : k < n
    · obtain ⟨b, off, rfl, _, hbl, hcs⟩ := HI.out.2.2.2.2 (by omega)
      obtain ⟨z, hz, hzl⟩ := get_is (l := l) (k := k) (by rw [HL.out]; exact hlt)
      have c1 := (hbw.cell (p := ⟨b, off + k * 2, none⟩) hbl).trans (hcs k z hz).1
      have c2 := (hbw.cell (p := ⟨b, off + k * 2 + 1, none⟩) hbl).trans (hcs k z hz).2
      have kk : (k : Int) < (n : Int) := by omega
      have hkl : k + 1 ≤ l.length := by omega
      obtain ⟨zi, zw⟩ := z
      clear hcs hzl hmlen hll
      by_cases he : zi = id
      · have HN := Lib.hid (hM.hit hz he)
        have e1 : (zi == id) = true := by simpa using he
        clear hM hz he
        go_wp2
        go_roundw
        case rel => exact ⟨k + 1, true, _, by go_num, hkl, rfl, hown, hbw, HN.out⟩
        case measure => simp [intOf]; omega
      · have HN := Lib.hid (hM.miss hz he)
        have e1 : (zi == id) = false := by simpa using he
        clear hM hz he
        go_wp2_with (at_builtin; refine wpList_app_item (y := (zi, zw)) hown hB hm1 rfl (.tmp 22) (.tmp 27) rfl rfl rfl ?_; intro v1 w1 hown1 hb1)
        go_roundw
        case rel => exact ⟨k + 1, d, _, by go_num, hkl, rfl, hown1, hbw.trans hb1, HN.out⟩
        case measure => simp [intOf]; omega
    · have kk : (n : Int) ≤ (k : Int) := by omega
      obtain ⟨e1, e2⟩ := hM.done (by omega)
      have hwf2 := del_wf (id := id) HW.out
      rw [← e1] at hwf2
      obtain ⟨A2, c2, rfl, hit⟩ := hown.items hF hwf2
      have HR : RefPost w (del l id) (isIn l id) F (.returned (.tuple #[.slice A2 m.length c2, .bool d])) wr := ⟨A2, m.length, c2, by rw [e2], by rw [← e1]; exact hit, hbw⟩
      clear hM e1 e2 hit hwf2 hown
      go_wp2
      go_ret2
      exact HR
def RefChange (w : World) (x : Thing Int) (l : List (Thing Int)) (F : List Nat) (e : Ending) (w' : World) : Prop := RefPost w (if isIn l x.1 = true then ins LtI x (del l x.1) else l) (isIn l x.1) F e w'
theorem RefChange.yes {w w' : World} {x : Thing Int} {l : List (Thing Int)} {F : List Nat} {e : Ending} (hin : isIn l x.1 = true) (h : RefPost w (ins LtI x (del l x.1)) true F e w') : RefChange w x l F e w' := by
  unfold RefChange; rw [hin]; exact h
theorem RefChange.no {w w' : World} {x : Thing Int} {l : List (Thing Int)} {F : List Nat} {e : Ending} (hin : isIn l x.1 = false) (h : RefPost w l false F e w') : RefChange w x l F e w' := by
  unfold RefChange; rw [hin]; exact h
theorem ref_change {w : World} {A : Option Addr} {n c : Nat} {l : List (Thing Int)} {F : List Nat} (h : Items w A n c l F) (hF : ∀ b ∈ F, b < w.heap.size) {x : Thing Int} (hx : (Lit.int .i64 x.1).wf = true ∧ (Lit.int .i64 x.2).wf = true) (hroom : l.length < 1000000) :
    Calls Try.prog 25 #[.slice A n c, .int .i64 x.1, .int .i64 x.2] w (RefChange w x l F) := by
  have HD := ref_drop h hF hx.1 hroom
  have HI := Lib.hid h
  have hdl : (del l x.1).length < 1000000 := Nat.lt_of_le_of_lt (List.length_filter_le _ _) hroom
  cases hin : isIn l x.1 with
  | false =>
    rw [hin] at HD
    have HN : Hid (∀ w1, Below w.heap.size w w1 → RefChange w x l F (.returned (.tuple #[.slice A n c, .bool false])) w1) := Lib.hid fun w1 hb => .no hin ⟨_, _, _, rfl, HI.out.below hb, hb⟩
    have HD := Lib.hid HD
    clear hin h
    go_enter Try.func25, Try.ntmps25
    go_wp2_with (go_at_call 26; refine HD.out.mono ?_; rintro e w1 ⟨A1, n1, c1, rfl, hit, hb⟩)
    go_ret2
    exact HN.out _ hb
  | true =>
    rw [hin] at HD
    have HP : Hid (∀ w1 A1 n1 c1, Items w1 A1 n1 c1 (del l x.1) F → Below w.heap.size w w1 → Calls Try.prog 24 #[.slice A1 n1 c1, .int .i64 x.1, .int .i64 x.2] w1 fun e w' => ∃ A2 n2 c2, e = .returned (.tuple #[.slice A2 n2 c2, .bool true]) ∧ RefChange w x l F (.returned (.tuple #[.slice A2 n2 c2, .bool true])) w') := by
      refine Lib.hid fun w1 A1 n1 c1 hit hb => ?_
      refine (ref_put hit (fun b hb2 => Nat.lt_of_lt_of_le (hF b hb2) hb.size) hx hdl).mono ?_
      intro e w' hR
      unfold RefPut at hR
      rw [del_isIn] at hR
      obtain ⟨A2, n2, c2, rfl, hit2, hb2⟩ := hR
      exact ⟨A2, n2, c2, rfl, .yes hin ⟨_, _, _, rfl, by simpa using hit2, hb.trans (hb2.mono hb.size)⟩⟩
    have HD := Lib.hid HD
    clear hin h hdl
    go_enter Try.func25, Try.ntmps25
    go_wp2_with (first
      | (go_at_call 26; refine HD.out.mono ?_; rintro e w1 ⟨A1, n1, c1, rfl, hit, hb⟩)
      | (go_at_call 24; refine (HP.out _ _ _ _ hit hb).mono ?_; rintro e w2 ⟨A2, n2, c2, rfl, hR⟩))
    go_ret2
    exact hR
def WorthPost (w : World) (l : List (Thing Int)) (id : Int) (e : Ending) (w' : World) : Prop := e = .returned (.tuple #[.int .i64 (worthOf 0 l id).1, .bool (worthOf 0 l id).2]) ∧ w = w'
theorem ref_worth {w : World} {A : Option Addr} {n c : Nat} {l : List (Thing Int)} {F : List Nat} (h : Items w A n c l F) {id : Int} (hn2 : (l.map (·.1)).Nodup) (hroom : l.length < 1000000) :
    Calls Try.prog 30 #[.slice A n c, .int .i64 id] w (WorthPost w l id) := by
  have hl := h.1
  have hnc := h.2.1
  have HI := Lib.hid h
  have HL := Lib.hid hl
  have HN2 := Lib.hid hn2
  have hn : n < 1000000 := by omega
  clear h hl hn2
  go_enter Try.func30, Try.ntmps30
  go_wp2
  go_loopw [6] (fun i wr => NoneYet id l n w i wr) (fun i _ => n - (intOf i).toNat)
  case atStart => exact ⟨0, rfl, Nat.zero_le _, (fun j y hj => by omega), rfl⟩
  case round =>
    obtain ⟨k, rfl, hk, hno, rfl⟩ := hrel
    by_cases hlt : k < n
    · obtain ⟨b, off, rfl, _, _, hcs⟩ := HI.out.2.2.2.2 (by omega)
      obtain ⟨z, hz, hzl⟩ := get_is (l := l) (k := k) (by rw [HL.out]; exact hlt)
      obtain ⟨c1, c2⟩ := hcs k z hz
      obtain ⟨zi, zw⟩ := z
      have kk : (k : Int) < (n : Int) := by omega
      by_cases he : zi = id
      · have hw : WorthPost w l id (.returned (.tuple #[.int .i64 zw, .bool true])) w := by
          have := worthOf_in (d := (0 : Int)) HN2.out hzl
          rw [← he]
          unfold WorthPost
          rw [this]; exact ⟨rfl, rfl⟩
        have e1 : (zi == id) = true := by simpa using he
        clear hcs hz hzl he hno
        go_wp2
        go_ret2
        exact hw
      · have hno' : ∀ (j : Nat) (y : Thing Int), j < k + 1 → l[j]? = some y → y.1 ≠ id := by
          intro j y hj hy
          rcases Nat.lt_or_ge j k with a | a
          · exact hno j y a hy
          · have : j = k := by omega
            subst this
            rw [hz] at hy; cases hy
            exact he
        have HN := Lib.hid hno'
        have e1 : (zi == id) = false := by simpa using he
        clear hcs hz hzl he hno hno'
        go_wp2
        go_roundw
        case rel => exact ⟨k + 1, by go_num, by omega, HN.out, rfl⟩
        case measure => simp [intOf]; omega
    · have hin : isIn l id = false := by
        refine isIn_false.2 fun y hy => ?_
        obtain ⟨j, hj, e⟩ := List.getElem_of_mem hy
        exact hno j y (by have := HL.out; omega) (by rw [List.getElem?_eq_getElem hj, e])
      have hw : WorthPost w l id (.returned (.tuple #[.int .i64 0, .bool false])) w := by
        unfold WorthPost
        rw [worthOf_out hin]; exact ⟨rfl, rfl⟩
      have hge : (n : Int) ≤ (k : Int) := by omega
      clear hno hin
      go_wp2
      go_ret2
      exact hw
end Go.Proofs.Ytgpnpopmlommaaa
