/- The document's Put, Drop, Change and Worth, walked. -/
import Derived.Test.YtgpnpopmlommaaaHeapDoc
namespace Go.Proofs.Ytgpnpopmlommaaa
open Go.RowKit Go.Maps
set_option linter.unusedVariables false
theorem get_is {l : List (Thing Int)} {k : Nat} (hk : k < l.length) : ∃ z, l[k]? = some z ∧ z ∈ l := ⟨l[k], List.getElem?_eq_getElem hk, List.getElem_mem hk⟩
theorem ins_wf {x : Thing Int} {l : List (Thing Int)} (hx : (Lit.int .i64 x.1).wf = true ∧ (Lit.int .i64 x.2).wf = true) (hl : ∀ y ∈ l, (Lit.int .i64 y.1).wf = true ∧ (Lit.int .i64 y.2).wf = true) : ∀ y ∈ ins LtI x l, (Lit.int .i64 y.1).wf = true ∧ (Lit.int .i64 y.2).wf = true := by
  intro y hy
  rcases List.mem_cons.1 ((ins_perm x l).subset hy) with e | e
  · subst e; exact hx
  · exact hl y e
def RefPut (w : World) (x : Thing Int) (l : List (Thing Int)) (F : List Nat) (e : Ending) (w' : World) : Prop := RefPost w (if isIn l x.1 = true then l else ins LtI x l) (!isIn l x.1) F e w'
theorem RefPut.yes {w w' : World} {x : Thing Int} {l : List (Thing Int)} {F : List Nat} {e : Ending} (hin : isIn l x.1 = true) (h : RefPost w l false F e w') : RefPut w x l F e w' := by
  unfold RefPut; rw [hin]; exact h
theorem RefPut.no {w w' : World} {x : Thing Int} {l : List (Thing Int)} {F : List Nat} {e : Ending} (hin : isIn l x.1 = false) (h : RefPost w (ins LtI x l) true F e w') : RefPut w x l F e w' := by
  unfold RefPut; rw [hin]; exact h
/-- The number has not been met yet. -/
def NoneYet (id : Int) (l : List (Thing Int)) (n : Nat) (w : World) (i : Value) (wr : World) : Prop := ∃ k : Nat, i = .int .i64 k ∧ k ≤ n ∧ (∀ (j : Nat) (y : Thing Int), j < k → l[j]? = some y → y.1 ≠ id) ∧ w = wr
set_option maxHeartbeats 4000000 in
theorem ref_put {w : World} {A : Option Addr} {n c : Nat} {l : List (Thing Int)} {F : List Nat} (h : Items w A n c l F) (hF : ∀ b ∈ F, b < w.heap.size) {x : Thing Int} (hx : (Lit.int .i64 x.1).wf = true ∧ (Lit.int .i64 x.2).wf = true) (hroom : l.length < 1000000) :
    Calls Try.prog 24 #[.slice A n c, .int .i64 x.1, .int .i64 x.2] w (RefPut w x l F) := by
  have hl := h.1
  have hnc := h.2.1
  have hwf := h.2.2.2.1
  have HI := Lib.hid h
  have HL := Lib.hid hl
  have HW := Lib.hid hwf
  have hn : n < 1000000 := by omega
  clear h hl hwf
  go_enter Try.func24, Try.ntmps24
  go_wp2
  go_loopw [8] (fun i wr => NoneYet x.1 l n w i wr) (fun i _ => n - (intOf i).toNat)
  case atStart => exact ⟨0, rfl, Nat.zero_le _, (fun j y hj => by omega), rfl⟩
  case round =>
    obtain ⟨k, rfl, hk, hno, rfl⟩ := hrel
    by_cases hlt : k < n
    · obtain ⟨b, off, rfl, _, _, hcs⟩ := HI.out.2.2.2.2 (by omega)
      obtain ⟨z, hz, hzl⟩ := get_is (l := l) (k := k) (by rw [HL.out]; exact hlt)
      obtain ⟨c1, _⟩ := hcs k z hz
      obtain ⟨zi, hzi⟩ : ∃ zi, zi = z.1 := ⟨_, rfl⟩
      rw [← hzi] at c1
      have kk : (k : Int) < (n : Int) := by omega
      by_cases he : zi = x.1
      · have hin : isIn l x.1 = true := isIn_iff.2 (List.mem_map.2 ⟨z, hzl, hzi.symm.trans he⟩)
        have HR : RefPut w x l F (.returned (.tuple #[.slice (some ⟨b, off, none⟩) n c, .bool false])) w := .yes hin ⟨_, _, _, rfl, HI.out, Below.refl _ _⟩
        have e1 : (zi == x.1) = true := by simpa using he
        clear hcs hz hzl hzi hin he hno
        go_wp2
        go_ret2
        exact HR
      · have hno' : ∀ j y, j < k + 1 → l[j]? = some y → y.1 ≠ x.1 := by
          intro j y hj hy
          rcases Nat.lt_or_ge j k with a | a
          · exact hno j y a hy
          · have : j = k := by omega
            subst this
            rw [hz] at hy; cases hy
            rw [← hzi]; exact he
        have HN := Lib.hid hno'
        have e1 : (zi == x.1) = false := by simpa using he
        clear hcs hz hzl hzi he hno hno'
        go_wp2
        go_roundw
        case rel => exact ⟨k + 1, by go_num, by omega, HN.out, rfl⟩
        case measure => simp [intOf]; omega
    · have hin : isIn l x.1 = false := by
        refine isIn_false.2 fun y hy => ?_
        obtain ⟨j, hj, e⟩ := List.getElem_of_mem hy
        exact hno j y (by have := HL.out; omega) (by rw [List.getElem?_eq_getElem hj, e])
      have hge : (n : Int) ≤ (k : Int) := by omega
      have HIN := Lib.hid hin
      have H0 : PutRel w x l (.slice none 0 0) (.bool false) (.int .i64 0) w := ⟨0, false, [], rfl, Nat.zero_le _, rfl, OwnL.nil _ _, Below.refl _ _, fun _ => ⟨by simp, (fun z hz => absurd hz (by simp))⟩, (fun e => by cases e)⟩
      clear hno hin
      go_wp2
      go_loopw [9, 10, 11] (fun out done i wr => PutRel w x l out done i wr) (fun _ _ i _ => n - (intOf i).toNat)
      case atStart => exact H0
      case round =>
        clear H0
        obtain ⟨k, d, m, rfl, hk, rfl, hown, hbw, hM⟩ := hrel
        have hmlen := hM.len
        have hll := HL.out
        have hm1 : m.length < 1048576 := by omega
        have hm2 : (m ++ [x]).length < 1048576 := by simp; omega
        have hB := hbw.size
        by_cases hlt : k < n
        · obtain ⟨b, off, rfl, _, hbl, hcs⟩ := HI.out.2.2.2.2 (by omega)
          obtain ⟨z, hz, hzl⟩ := get_is (l := l) (k := k) (by rw [HL.out]; exact hlt)
          have hcw : ∀ w1, Below w.heap.size w w1 → w1.cell? ⟨b, off + k * 2, none⟩ = some (.int .i64 z.1) ∧ w1.cell? ⟨b, off + k * 2 + 1, none⟩ = some (.int .i64 z.2) := fun w1 hb1 =>
            ⟨(hb1.cell (p := ⟨b, off + k * 2, none⟩) hbl).trans (hcs k z hz).1, (hb1.cell (p := ⟨b, off + k * 2 + 1, none⟩) hbl).trans (hcs k z hz).2⟩
          have HC := Lib.hid hcw
          obtain ⟨c1, c2⟩ := hcw wr hbw
          have kk : (k : Int) < (n : Int) := by omega
          have hkl : k + 1 ≤ l.length := by omega
          clear hcs hcw hzl hmlen hll
          cases d with
          | true =>
            have HN := Lib.hid (hM.done hz)
            clear hM hz
            go_wp2_with (at_builtin; refine wpList_app_item (y := z) hown hB hm1 rfl (.tmp 67) (.tmp 72) rfl rfl rfl ?_; intro v1 w1 hown1 hb1)
            go_roundw
            case rel => exact ⟨k + 1, true, _, by go_num, hkl, rfl, hown1, hbw.trans hb1, HN.out⟩
            case measure => simp [intOf]; omega
          | false =>
            obtain ⟨zi, zw⟩ := z
            by_cases t1 : x.2 < zw
            · have HN := Lib.hid (hM.here hz (.inl t1))
              clear hM hz
              go_wp2_with (first
                | (at_builtin; refine wpList_app_item (y := x) hown hB hm1 rfl (.tmp 61) (.tmp 65) rfl rfl rfl ?_; intro v1 w1 hown1 hb1; have hb2 := hbw.trans hb1; obtain ⟨c3, c4⟩ := HC.out w1 hb2; clear c1 c2)
                | (at_builtin; refine wpList_app_item (y := (zi, zw)) hown1 hb2.size hm2 rfl (.tmp 67) (.tmp 72) rfl rfl rfl ?_; intro v2 w2 hown2 hb3))
              go_roundw
              case rel => exact ⟨k + 1, true, _, by go_num, hkl, rfl, hown2, hb2.trans hb3, HN.out⟩
              case measure => simp [intOf]; omega
            · by_cases t2 : zw = x.2
              · subst t2
                by_cases t3 : x.1 < zi
                · have HN := Lib.hid (hM.here hz (.inr ⟨rfl, t3⟩))
                  clear hM hz t1
                  go_wp2_with (first
                    | (at_builtin; refine wpList_app_item (y := x) hown hB hm1 rfl (.tmp 61) (.tmp 65) rfl rfl rfl ?_; intro v1 w1 hown1 hb1; have hb2 := hbw.trans hb1; obtain ⟨c3, c4⟩ := HC.out w1 hb2; clear c1 c2)
                    | (at_builtin; refine wpList_app_item (y := (zi, x.2)) hown1 hb2.size hm2 rfl (.tmp 67) (.tmp 72) rfl rfl rfl ?_; intro v2 w2 hown2 hb3))
                  go_roundw
                  case rel => exact ⟨k + 1, true, _, by go_num, hkl, rfl, hown2, hb2.trans hb3, HN.out⟩
                  case measure => simp [intOf]; omega
                · have HN := Lib.hid (hM.pass hz (by rintro (a | ⟨_, a⟩); exact absurd a (by unfold LtI; omega); exact t3 a))
                  clear hM hz t1
                  go_wp2_with (at_builtin; refine wpList_app_item (y := (zi, x.2)) hown hB hm1 rfl (.tmp 67) (.tmp 72) rfl rfl rfl ?_; intro v1 w1 hown1 hb1)
                  go_roundw
                  case rel => exact ⟨k + 1, false, _, by go_num, hkl, rfl, hown1, hbw.trans hb1, HN.out⟩
                  case measure => simp [intOf]; omega
              · have HN := Lib.hid (hM.pass hz (by rintro (a | ⟨a, _⟩); exact t1 a; exact t2 a.symm))
                have t4 : (zw == x.2) = false := by simpa using t2
                clear hM hz t2
                go_wp2_with (at_builtin; refine wpList_app_item (y := (zi, zw)) hown hB hm1 rfl (.tmp 67) (.tmp 72) rfl rfl rfl ?_; intro v1 w1 hown1 hb1)
                go_roundw
                case rel => exact ⟨k + 1, false, _, by go_num, hkl, rfl, hown1, hbw.trans hb1, HN.out⟩
                case measure => simp [intOf]; omega
        · have hge2 : l.length ≤ k := by omega
          have kk : (n : Int) ≤ (k : Int) := by omega
          have hwf2 := ins_wf hx HW.out
          cases d with
          | true =>
            have e1 := hM.end_yes hge2
            rw [← e1] at hwf2
            obtain ⟨A2, c2, rfl, hit⟩ := hown.items hF hwf2
            have HR : RefPut w x l F (.returned (.tuple #[.slice A2 m.length c2, .bool true])) wr := .no HIN.out ⟨_, _, _, rfl, e1 ▸ hit, hbw⟩
            clear hM e1 hit hwf2 hown
            go_wp2
            go_ret2
            exact HR
          | false =>
            have HE := Lib.hid (hM.end_no hge2)
            have HW2 := Lib.hid hwf2
            clear hM hwf2 hmlen hll
            go_wp2_with (at_builtin; refine wpList_app_item (y := x) hown hB hm1 rfl (.tmp 76) (.tmp 80) rfl rfl rfl ?_; intro v1 w1 hown1 hb1; rw [HE.out] at hown1; obtain ⟨A2, c2, rfl, hit⟩ := hown1.items hF HW2.out)
            go_ret2
            exact .no HIN.out ⟨_, _, _, rfl, hit, hbw.trans hb1⟩
end Go.Proofs.Ytgpnpopmlommaaa
