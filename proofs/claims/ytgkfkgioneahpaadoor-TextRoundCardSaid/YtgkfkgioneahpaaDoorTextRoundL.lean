/- TextRound, off its code. -/
import Derived.Test.YtgkfkgioneahpaaDoorTextLinesL
import Derived.Test.YtgkfkgioneahpaaDoorTextLine
import Derived.Test.YtgkfkgioneahpaaDoorOpen
import Derived.Deep.Slices
namespace Go.Proofs.YtgkfkgioneahpaaDoor
open Go.RowKit Go.WideShapes
set_option linter.unusedVariables false
section
variable {w wr w1 : World} {outs : List (List (List UInt8))} {line : List (List UInt8)} {L : Nat} {ov lv v' : Value} {us : List Value} {tmp : Obj}
theorem RefM.fresh (h1 : wr.ownsRow w.heap.size 29 1 ov outs.length us) (h2 : Fit (fun l u => RowS wr w.heap.size u l) outs us) (h3 : Below w.heap.size w wr) : RefM w outs [] wr.heap.size ov (.slice none 0 0) us wr :=
  ⟨h3.size, Nat.le_refl _, h1, h2.mono fun l u hu => ⟨hu, own_blk hu⟩, World.ownsRow_nil _ _ _ _, h3⟩
theorem RefM.push_line (h : RefM w outs line L ov lv us wr) (hgrow : (wr.alloc tmp).grownBy w1 ov.ownBlock) : RowS w1 L lv line := by
  have ho : (wr.alloc tmp).ownsRow w.heap.size 29 1 ov outs.length us := World.ownsRow.alloc h.out tmp
  have st : SameT 9 [] wr w1 := (SameT.alloc _ _ wr tmp).trans (.grown ho (by decide) hgrow)
  exact own_same h.line st (by simp)
end
/-- Words that are collected. -/
def WordsB (line : List (List UInt8)) : Prop := ∀ x ∈ line, wordB x = true ∧ x.length ≤ 12
theorem WordsB.snoc {line : List (List UInt8)} {x : List UInt8} (h : WordsB line) (h1 : wordB x = true) (h2 : x.length ≤ 12) : WordsB (line ++ [x]) := fun y hy =>
  (List.mem_append.1 hy).elim (h y) (fun e => by simp at e; subst e; exact ⟨h1, h2⟩)
set_option maxRecDepth 100000 in
set_option maxHeartbeats 8000000 in
theorem round_any (A : Option Addr) (n c : Nat) (w : World) (hn : n ≤ maxLen)
    (hG : ∀ i, i < n → ∃ b off Ai ni ci, A = some ⟨b, off, none⟩ ∧ w.cell? ⟨b, off + i, none⟩ = some (.slice Ai ni ci) ∧ ni ≤ maxLen ∧ ∀ k, k < ni → ∃ b' off' x, Ai = some ⟨b', off', none⟩ ∧ w.cell? ⟨b', off' + k, none⟩ = some (.string x) ∧ x.size ≤ maxLen) :
    Calls Tryd.prog 4 #[.slice A n c] w fun e W' => e = .returned (.bool true) ∧ Below w.heap.size w W' := by
  obtain ⟨i0, hi, hz0, hz1, hz2⟩ := info_parts info_str
  obtain ⟨j0, hj, jz0, jz1, jz2⟩ := info_parts info_row
  have CL := fun W => lives5_any W
  have HG := Go.Lib.hid hG
  unfold maxLen at hn
  clear hG
  go_enter Tryd.func4, Tryd.ntmps4
  go_wp2
  go_loopw [3, 4, 5] (fun ov tv iv wr => ∃ (i : Nat) (outs : List (List (List UInt8))) (us : List Value) (tt : List UInt8), i ≤ n ∧ i ≤ 6 ∧ iv = .int .i64 i ∧ tv = .string (strL tt) ∧
    wr.ownsRow w.heap.size 29 1 ov outs.length us ∧ Fit (fun l u => RowS wr w.heap.size u l) outs us ∧ Below w.heap.size w wr ∧ outs.length = i ∧ linesD tt = some outs ∧ tt.length ≤ 78 * i ∧ (∀ l ∈ outs, l.length ≤ 6)) (fun _ _ iv _ => n - (intOf iv).toNat)
  case atStart => exact ⟨0, [], [], [], Nat.zero_le _, by omega, rfl, rfl, World.ownsRow_nil _ _ _ _, .nil, Below.refl _ _, rfl, rfl, by simp, by simp⟩
  case round =>
    obtain ⟨i, outs, us, tt, hin, hi6, rfl, rfl, ho, hf, hb, hol, hld, htl, ho6⟩ := hrel
    have hM0 := RefM.fresh ho hf hb
    have HF := Go.Lib.hid hf
    have HOL := Go.Lib.hid hol
    have HLD := Go.Lib.hid hld
    have HO6 := Go.Lib.hid ho6
    have HTL := Go.Lib.hid htl
    obtain ⟨Ao, co, rfl, _⟩ := own_form ho
    have HO := Go.Lib.hid ho
    clear hf hol hld ho6 htl ho
    by_cases hgo : i < n ∧ i < 6
    · obtain ⟨h1, h2⟩ := hgo
      have h2' : (i : Int) < 6 := by omega
      obtain ⟨b, off, Ai, ni, ci, rfl, hci, hni, hrows⟩ := HG.out i h1
      have hcx := (hb.cell (p := ⟨b, off + i, none⟩) (World.block_lt_of_cell? w _ hci)).trans hci
      have HR := Go.Lib.hid hrows
      have HCI := Go.Lib.hid hci
      unfold maxLen at hni
      clear hrows hci
      go_wp2
      clear hcx
      have HM0 := Go.Lib.hid hM0
      clear hM0
      go_loopw [6, 7] (fun lv kv wr => ∃ (k L : Nat) (line : List (List UInt8)), k ≤ ni ∧ k ≤ 6 ∧ kv = .int .i64 k ∧ RefM w outs line L (.slice Ao outs.length co) lv us wr ∧ line.length = k ∧ WordsB line) (fun _ kv _ => ni - (intOf kv).toNat)
      case atStart => exact ⟨0, _, [], Nat.zero_le _, by omega, rfl, HM0.out, rfl, fun x hx => by simp at hx⟩
      case round =>
        clear hb
        obtain ⟨k, L, line, hkn, hk6, rfl, hM, hll, hwb⟩ := hrel
        have hb := hM.low
        have hcx := (hb.cell (p := ⟨b, off + i, none⟩) (World.block_lt_of_cell? w _ HCI.out)).trans HCI.out
        have hl1 := hM.line
        unfold RowS at hl1
        rw [hll] at hl1
        obtain ⟨Al, cl, rfl, _⟩ := own_form hl1
        have HWB := Go.Lib.hid hwb
        have HLL := Go.Lib.hid hll
        clear hwb hll
        by_cases hkgo : k < ni ∧ k < 6
        · obtain ⟨g1, g2⟩ := hkgo
          have g2' : (k : Int) < 6 := by omega
          obtain ⟨b', off', x, rfl, hcw, hxs⟩ := HR.out k g1
          have hcy := (hb.cell (p := ⟨b', off' + k, none⟩) (World.block_lt_of_cell? w _ hcw)).trans hcw
          have CWd := fun W => word_ref x hxs W
          have HM := Go.Lib.hid hM
          clear hcw hM
          go_wp2_with (first
            | (go_at_call 13; refine (CWd _).mono ?_; rintro e w2 ⟨y, hy1, hy2, rfl, hb2⟩; have hM2 := HM.out.keep hb2; have hl2 := own_keep hl1 hb2; have hLs := hM2.b2)
            | (at_builtin; refine wpList_append_own _ rfl _ _ 29 rfl L 9 i0 (.string ByteArray.empty) 1 16 Tryd.underlying29 hi hz0 hz1 hz2 rfl (by decide) _ _ _ rfl (hl2.alloc _) ⟨w2.heap.size, 0, none⟩ 1 1 [.string (strL y)] rfl rfl (one_cell _ _ _) (by simp [Value.oneCell']) (by unfold maxLen; omega) (by omega) (by simp; omega) ?_; intro v' w3 hown' hgrow _; have hM3 := hM2.word (by rw [HLL.out]; exact hown') hgrow))
          exact ⟨⟨k + 1, L, _, by omega, by omega, by go_num, hM3, by rw [List.length_append, HLL.out]; rfl, HWB.out.snoc hy1 hy2⟩, by simp [intOf]; omega⟩
        · have hst : (¬ k < ni ∧ k ≤ 6) ∨ (k < ni ∧ (6 : Int) ≤ (k : Int) ∧ k ≤ 6) := by
            by_cases h : k < ni
            · exact .inr ⟨h, by have : ¬ k < 6 := fun h2 => hkgo ⟨h, h2⟩; omega, hk6⟩
            · exact .inl ⟨h, hk6⟩
          have hb2 := hM.b2
          have hsz := hM.low.size
          have HM := Go.Lib.hid hM
          have hou := hM.out
          clear hM hkgo hk6
          have hob : outs.length ≤ 6 := by rw [HOL.out]; omega
          by_cases hk0 : k = 0
          · subst hk0
            obtain ⟨LN, hLN⟩ : ∃ LN, LN = line ++ [[120]] := ⟨_, rfl⟩
            have HNE : Hid (LN ≠ []) := by show _ ≠ _; rw [hLN]; simp
            have HWB2 : Hid (WordsB LN) := by show WordsB LN; rw [hLN]; exact HWB.out.snoc (x := [120]) (by decide) (by decide)
            have HLN : Hid (LN.length ≤ 6) := by show _ ≤ _; rw [hLN, List.length_append, HLL.out]; simp
            have HLE := Go.Lib.hid hLN
            clear hLN
            have HE : Hid (linesD (tt ++ lineT LN) = some (outs ++ [LN])) := linesD_app HLD.out (linesD_line HNE.out fun x hx => (HWB2.out x hx).1)
            have HS : Hid (strL tt ++ strL (lineT LN) = strL (tt ++ lineT LN)) := strL_app _ _
            have hs1 : (strL tt).size ≤ 468 := by rw [strL_size]; have := HTL.out; omega
            have hs2 : (strL (lineT LN)).size ≤ 78 := by rw [strL_size]; have h := lineT_bd HNE.out (fun x hx => (HWB2.out x hx).2); have := HLN.out; omega
            have HTL2 : Hid ((tt ++ lineT LN).length ≤ 78 * (i + 1)) := by
              show _ ≤ _
              rw [List.length_append]
              rw [strL_size] at hs2
              have := HTL.out
              omega
            have HO62 : Hid (∀ l ∈ outs ++ [LN], l.length ≤ 6) := fun l hl => (List.mem_append.1 hl).elim (HO6.out l) (fun e => by simp at e; subst e; exact HLN.out)
            have CLn := fun lv W hW => line_code lv LN W L hW HNE.out (by have := HLN.out; omega) (fun x hx => (HWB2.out x hx).2)
            have CLr := fun lv W hW => line_ref lv LN W L hW HNE.out (by have := HLN.out; omega) (fun x hx => (HWB2.out x hx).2)
            rcases hst with ⟨a1, a2⟩ | ⟨a1, a2, a3⟩
            · go_wp2_with (first
                | (at_builtin; refine wpList_append_own _ rfl _ _ 29 rfl L 9 i0 (.string ByteArray.empty) 1 16 Tryd.underlying29 hi hz0 hz1 hz2 rfl (by decide) _ _ _ rfl (hl1.alloc _) ⟨wr.heap.size, 0, none⟩ 1 1 [.string ⟨#[120]⟩] rfl rfl (one_cell _ _ _) (by simp [Value.oneCell']) (by unfold maxLen; omega) (by omega) (by simp; omega) ?_; intro v' w3 hown' hgrow _; have hM3 := HM.out.word (cur := [120]) (by rw [HLL.out]; exact hown') hgrow; rw [← HLE.out] at hM3; have hown2 : w3.ownsRow L 9 1 v' 1 (line.map (fun f => Value.string (strL f)) ++ [.string ⟨#[120]⟩]) := hown'; obtain ⟨A3, c3, rfl, _⟩ := own_form hown2; have hou3 := hM3.out; have hsz3 := hM3.low.size; clear hown' hown2 hgrow)
                | (at_builtin; refine wpList_append_own _ rfl _ _ 22 rfl w.heap.size 29 j0 (.slice none 0 0) 1 24 Tryd.underlying22 hj jz0 jz1 jz2 rfl (by decide) _ _ _ rfl (hou3.alloc _) ⟨w3.heap.size, 0, none⟩ 1 1 [(.slice A3 1 c3)] rfl rfl (one_cell _ _ _) (by simp [Value.oneCell']) (by unfold maxLen; omega) (by omega) (by simp; omega) ?_; intro v4 w4 hown4 hgrow4 _; have HM4 := Go.Lib.hid (hM3.push hown4 hgrow4); have hl4 := hM3.push_line hgrow4; obtain ⟨A4, c4, rfl, _⟩ := own_form hown4; clear hown4 hgrow4)
                | (go_at_call 14; refine (CLn _ _ hl4).mono ?_; rintro e w5 ⟨rfl, hb5⟩; have HM5 := Go.Lib.hid (HM4.out.keep hb5); have hl5 : RowS w5 L (.slice A3 1 c3) (LN) := own_keep hl4 hb5; clear hb5)
                | (go_at_call 15; refine (CLr _ _ hl5).mono ?_; rintro e w6 ⟨rfl, rfl⟩))
              exact ⟨⟨i + 1, outs ++ [LN], _, tt ++ lineT LN, by omega, by omega, by go_num, by rw [HS.out], HM5.out.out, HM5.out.fit.mono fun l u hu => hu.1, HM5.out.low, by rw [List.length_append, HOL.out]; rfl, HE.out, HTL2.out, HO62.out⟩, by simp [intOf]; omega⟩
            · omega
          · have hz : ((k : Int) == 0) = false := beq_eq_false_iff_ne.2 (by omega)
            have HNE : Hid (line ≠ []) := by show _ ≠ _; intro e; have := HLL.out; rw [e] at this; simp at this; omega
            have HWB2 := HWB
            have HLN : Hid (line.length ≤ 6) := by show _ ≤ _; rw [HLL.out]; rcases hst with ⟨_, h⟩ | ⟨_, _, h⟩ <;> exact h
            have HE : Hid (linesD (tt ++ lineT line) = some (outs ++ [line])) := linesD_app HLD.out (linesD_line HNE.out fun x hx => (HWB2.out x hx).1)
            have HS : Hid (strL tt ++ strL (lineT line) = strL (tt ++ lineT line)) := strL_app _ _
            have hs1 : (strL tt).size ≤ 468 := by rw [strL_size]; have := HTL.out; omega
            have hs2 : (strL (lineT line)).size ≤ 78 := by rw [strL_size]; have h := lineT_bd HNE.out (fun x hx => (HWB2.out x hx).2); have := HLN.out; omega
            have HTL2 : Hid ((tt ++ lineT line).length ≤ 78 * (i + 1)) := by
              show _ ≤ _
              rw [List.length_append]
              rw [strL_size] at hs2
              have := HTL.out
              omega
            have HO62 : Hid (∀ l ∈ outs ++ [line], l.length ≤ 6) := fun l hl => (List.mem_append.1 hl).elim (HO6.out l) (fun e => by simp at e; subst e; exact HLN.out)
            have CLn := fun lv W hW => line_code lv line W L hW HNE.out (by have := HLN.out; omega) (fun x hx => (HWB2.out x hx).2)
            have CLr := fun lv W hW => line_ref lv line W L hW HNE.out (by have := HLN.out; omega) (fun x hx => (HWB2.out x hx).2)
            rcases hst with ⟨a1, a2⟩ | ⟨a1, a2, a3⟩
            all_goals
              go_wp2_with (first
                | (at_builtin; refine wpList_append_own _ rfl _ _ 22 rfl w.heap.size 29 j0 (.slice none 0 0) 1 24 Tryd.underlying22 hj jz0 jz1 jz2 rfl (by decide) _ _ _ rfl (hou.alloc _) ⟨wr.heap.size, 0, none⟩ 1 1 [(.slice Al k cl)] rfl rfl (one_cell _ _ _) (by simp [Value.oneCell']) (by unfold maxLen; omega) (by omega) (by simp; omega) ?_; intro v4 w4 hown4 hgrow4 _; have HM4 := Go.Lib.hid (HM.out.push hown4 hgrow4); have hl4 := HM.out.push_line hgrow4; obtain ⟨A4, c4, rfl, _⟩ := own_form hown4; clear hown4 hgrow4)
                | (go_at_call 14; refine (CLn _ _ hl4).mono ?_; rintro e w5 ⟨rfl, hb5⟩; have HM5 := Go.Lib.hid (HM4.out.keep hb5); have hl5 : RowS w5 L (.slice Al k cl) (line) := own_keep hl4 hb5; clear hb5)
                | (go_at_call 15; refine (CLr _ _ hl5).mono ?_; rintro e w6 ⟨rfl, rfl⟩))
              exact ⟨⟨i + 1, outs ++ [line], _, tt ++ lineT line, by omega, by omega, by go_num, by rw [HS.out], HM5.out.out, HM5.out.fit.mono fun l u hu => hu.1, HM5.out.low, by rw [List.length_append, HOL.out]; rfl, HE.out, HTL2.out, HO62.out⟩, by simp [intOf]; omega⟩
    · have hst : (¬ i < n ∧ i ≤ 6) ∨ (i < n ∧ (6 : Int) ≤ (i : Int) ∧ i ≤ 6) := by
        by_cases h : i < n
        · exact .inr ⟨h, by have : ¬ i < 6 := fun h2 => hgo ⟨h, h2⟩; omega, hi6⟩
        · exact .inl ⟨h, hi6⟩
      have hLO : LinesOf wr (.slice Ao outs.length co) outs := ⟨us, own_base HO.out (Nat.zero_le _), HF.out.mono fun l u hu => own_base hu (Nat.zero_le _)⟩
      have C1 := fun W => lines_yes tt (by have := HTL.out; omega) outs HLD.out W
      have C2 := fun a b W (ha : LinesOf W a outs) (hb : LinesOf W b outs) => same_yes a b outs W ha hb (by rw [HOL.out]; omega) (fun l hl => by have := HO6.out l hl; omega)
      have HLO := Go.Lib.hid hLO
      clear hLO hM0 hgo hi6
      rcases hst with ⟨a1, a2⟩ | ⟨a1, a2, a3⟩
      all_goals
        go_wp2_with (first
          | (go_at_call 9; refine (C1 _).mono ?_; rintro e w1 ⟨v1, rfl, hL1, hb1⟩)
          | (go_at_call 11; refine (C2 _ _ _ hL1 (HLO.out.keep hb1)).mono ?_; rintro e w2 ⟨rfl, hb2⟩)
          | (go_at_call 12; refine (CL _).mono ?_; rintro e w3 ⟨rfl, hb3⟩))
        go_ret
        exact ⟨rfl, ((hb.trans (hb1.mono hb.size)).trans (hb2.mono (by have := hb.size; have := hb1.size; omega))).trans (hb3.mono (by have := hb.size; have := hb1.size; have := hb2.size; omega))⟩
section
variable {H : Type} {enc : TypeId × Value → H} {base : Nat}
theorem round_frame (W : World) {v0 : Value} {d0 : DataW H} {p0 : List MemPlace} (k0 : DataW.Trod enc Tryd.prog W 0 (fun _ => true) true 22 v0 d0 p0) (o0 : Value.okWide Tryd.prog W .any base 22 v0) :
    Calls Tryd.prog 4 #[v0] W fun e w' => e = .returned (.bool true) ∧ Below W.heap.size W w' := by
  obtain ⟨A, n, c, rfl⟩ := okWide_slice Tryd.underlying22 o0
  obtain ⟨fuel, hf⟩ := k0
  rcases Go.Deep.open_slice1 Tryd.underlying22 (by kernel_rfl) hf with ⟨hcs, _⟩ | ⟨a, len, cap, m, nn, V, D, Pl, hcs, _, hl, hm, hmm, _, hx⟩
  · simp [Value.cells] at hcs
    obtain ⟨rfl, rfl, rfl⟩ := hcs
    exact round_any none 0 0 W (Nat.zero_le _) (fun i hi => absurd hi (by omega))
  · simp [Value.cells] at hcs
    obtain ⟨rfl, rfl, rfl⟩ := hcs
    rw [if_pos rfl] at hmm
    refine round_any (some a) n c W (by omega) fun i hi => ?_
    obtain ⟨h1, h2⟩ := hx i (by omega)
    obtain ⟨b, off, rfl⟩ := addr_plain (hx 0 (by omega)).1 rfl
    have hsh : ∃ A n c, V i = .slice A n c := by
      rcases Go.Deep.open_strs Tryd.underlying29 Tryd.underlying9 (by kernel_rfl) h2 with ⟨e, _⟩ | ⟨a', n', c', m', Sx, e, _⟩
      · exact ⟨none, 0, 0, by simpa using e⟩
      · exact ⟨some a', n', c', by simpa using e⟩
    have hev : [V i] = (V i).cells.toList := by
      obtain ⟨A', n', c', e'⟩ := hsh
      rw [e']
      rfl
    obtain ⟨Ai, ni, ci, S, e, g1, g2, g3, g4⟩ := texts_of_trod (w := W) (base := 0) (enc := enc) Tryd.underlying29 Tryd.underlying9 (by kernel_rfl) ⟨nn, hev ▸ h2⟩ hsh
    rw [plain_add, e] at h1
    exact ⟨b, off, Ai, ni, ci, rfl, h1, by omega, fun k hk => by
      obtain ⟨b', off', e', hc⟩ := g3 (by omega)
      exact ⟨b', off', S k, e', hc k hk, g4 k hk⟩⟩
end
end Go.Proofs.YtgkfkgioneahpaaDoor
