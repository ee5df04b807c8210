/- What the document's functions on texts answer, off their code: Lines. -/
import Derived.Test.YtgkfkgioneahpaaDoorTextCodeC
import Derived.Test.YtgkfkgioneahpaaDoorTextPureB
namespace Go.Proofs.YtgkfkgioneahpaaDoor
open Go.RowKit
set_option linter.unusedVariables false

theorem info_str : (Tryd.prog.info? 9).map (fun i => (i.zero, i.size, i.bytes)) = some (some (.string ByteArray.empty), 1, 16) := by kernel_rfl
theorem info_row : (Tryd.prog.info? 29).map (fun i => (i.zero, i.size, i.bytes)) = some (some (.slice none 0 0), 1, 24) := by kernel_rfl
/-- A row whose block lies below L, where nothing below L has turned. -/
theorem own_lt {w w' : World} {base L size n : Nat} {t : TypeId} {v : Value} {xs : List Value} (h : w.ownsRow base t size v n xs) (hl : ∀ b, v.ownBlock = some b → b < L) (hb : Below L w w') : w'.ownsRow base t size v n xs := by
  refine ⟨h.1, ?_⟩
  rcases h.2 with h0 | ⟨g, cap, cur, rfl, hg, hh, r⟩
  · exact .inl h0
  · exact .inr ⟨g, cap, cur, rfl, hg, (hb.block g (hl g rfl)).trans hh, r⟩
theorem own_blk {w : World} {base size n : Nat} {t : TypeId} {v : Value} {xs : List Value} (h : w.ownsRow base t size v n xs) : ∀ b, v.ownBlock = some b → b < w.heap.size := fun b hb => by
  rcases h.2 with ⟨rfl, _⟩ | ⟨g, cap, cur, rfl, hg, hh, r⟩
  · simp [Value.ownBlock] at hb
  · obtain rfl : g = b := by simpa [Value.ownBlock] using hb
    exact (Array.getElem?_eq_some_iff.1 hh).1
/-- Lines that are collected, and the words of the one that is under way. -/
structure RefM (w : World) (outs : List (List (List UInt8))) (line : List (List UInt8)) (L : Nat) (ov lv : Value) (us : List Value) (wr : World) : Prop where
  b1 : w.heap.size ≤ L
  b2 : L ≤ wr.heap.size
  out : wr.ownsRow w.heap.size 29 1 ov outs.length us
  fit : Fit (fun l u => RowS wr w.heap.size u l ∧ ∀ b, u.ownBlock = some b → b < L) outs us
  line : RowS wr L lv line
  low : Below w.heap.size w wr
section
variable {w wr w1 : World} {outs : List (List (List UInt8))} {line : List (List UInt8)} {L : Nat} {ov lv v' : Value} {us : List Value} {tmp : Obj}
theorem RefM.start (w : World) : RefM w [] [] w.heap.size (.slice none 0 0) (.slice none 0 0) [] w :=
  ⟨Nat.le_refl _, Nat.le_refl _, World.ownsRow_nil _ _ _ _, .nil, World.ownsRow_nil _ _ _ _, Below.refl _ _⟩
theorem RefM.keep (h : RefM w outs line L ov lv us wr) (hb : Below wr.heap.size wr w1) : RefM w outs line L ov lv us w1 :=
  ⟨h.b1, Nat.le_trans h.b2 hb.size, own_keep h.out hb, h.fit.mono fun l u hu => ⟨own_keep hu.1 hb, hu.2⟩, own_keep h.line hb, h.low.trans (hb.mono h.low.size)⟩
theorem RefM.word (h : RefM w outs line L ov lv us wr) {cur : List UInt8} (hown : w1.ownsRow L 9 1 v' (line.length + 1) (line.map (fun f => Value.string (strL f)) ++ [.string (strL cur)])) (hgrow : (wr.alloc tmp).grownBy w1 lv.ownBlock) :
    RefM w outs (line ++ [cur]) L ov v' us w1 := by
  have hl : (wr.alloc tmp).ownsRow L 9 1 lv line.length (line.map fun f => Value.string (strL f)) := World.ownsRow.alloc h.line tmp
  have bl : Below L wr w1 := ((Below.refl L wr).alloc h.b2 tmp).grown hgrow (by have := h.b2; simp; omega) (own_ge hl)
  have st : SameT 29 [] wr w1 := (SameT.alloc _ _ wr tmp).trans (.grown hl (by decide) hgrow)
  refine ⟨h.b1, Nat.le_trans h.b2 bl.size, own_same h.out st (by simp), h.fit.mono fun l u hu => ⟨own_lt hu.1 hu.2 bl, hu.2⟩, ?_, h.low.trans (bl.mono h.b1)⟩
  unfold RowS
  rw [List.length_append, List.map_append]
  exact hown
theorem RefM.push (h : RefM w outs line L ov lv us wr) (hown : w1.ownsRow w.heap.size 29 1 v' (outs.length + 1) (us ++ [lv])) (hgrow : (wr.alloc tmp).grownBy w1 ov.ownBlock) :
    RefM w (outs ++ [line]) [] w1.heap.size v' (.slice none 0 0) (us ++ [lv]) w1 := by
  have ho : (wr.alloc tmp).ownsRow w.heap.size 29 1 ov outs.length us := World.ownsRow.alloc h.out tmp
  have bl : Below w.heap.size wr w1 := ((Below.refl _ wr).alloc h.low.size tmp).grown hgrow (by have := h.low.size; simp; omega) (own_ge ho)
  have st : SameT 9 [] wr w1 := (SameT.alloc _ _ wr tmp).trans (.grown ho (by decide) hgrow)
  have hls := own_same h.line st (by simp)
  refine ⟨Nat.le_trans h.low.size bl.size, Nat.le_refl _, by rw [List.length_append]; exact hown, ?_, World.ownsRow_nil _ _ _ _, h.low.trans bl⟩
  refine (h.fit.mono fun l u hu => ⟨own_same hu.1 st (by simp), fun b hb => ?_⟩).snoc ⟨own_base hls h.b1, own_blk hls⟩
  have := hu.2 b hb
  have := h.b2
  have := bl.size
  omega
theorem RefM.lines (h : RefM w outs line L ov lv us wr) : LinesOf wr ov outs := ⟨us, own_base h.out (Nat.zero_le _), h.fit.mono fun l u hu => own_base hu.1 (Nat.zero_le _)⟩
end
set_option maxRecDepth 100000 in
set_option maxHeartbeats 4000000 in
theorem lines_ref (t : ByteArray) (ht : t.size ≤ 1000) (w : World) (D : Option (List (List (List UInt8)))) (hD : linesD t.data.toList = D) :
    Calls Tryd.prog 10 #[.string t] w fun e W' => (∃ ls v, D = some ls ∧ e = .returned (.tuple #[v, .int .i64 0]) ∧ LinesOf W' v ls ∧ Below w.heap.size w W') ∨ (D = none ∧ e = .returned (.tuple #[.slice none 0 0, .int .i64 2]) ∧ Below w.heap.size w W') := by
  obtain ⟨i0, hi, hz0, hz1, hz2⟩ := info_parts info_str
  obtain ⟨j0, hj, jz0, jz1, jz2⟩ := info_parts info_row
  have hsz : t.data.toList.length = t.size := Array.length_toList
  obtain ⟨l, hl⟩ : ∃ l, l = t.data.toList := ⟨_, rfl⟩
  rw [← hl] at hsz hD
  rw [← contD_lines] at hD
  have HL := Go.Lib.hid hl
  have HS := Go.Lib.hid hsz
  have hext : ∀ f k, t.extract f k = strL (midT l f k) := fun f k => by rw [hl]; exact ext_mid t f k
  have HB : Hid (∀ k (hk : k < t.size), l[k]'(by rw [HS.out]; exact hk) = t[k]) := fun k hk => by subst hl; rfl
  clear hl hsz
  have HD : Hid (contD (midT l 0 0) [] [] (l.drop 0) = D) := by show _ = _; rw [midT_self, List.drop_zero]; exact hD
  clear hD
  go_enter Tryd.func10, Tryd.ntmps10
  go_wp2
  go_loopw [4, 5, 6, 7] (fun ov lv fv iv wr => ∃ (k f L : Nat) (outs : List (List (List UInt8))) (line : List (List UInt8)) (us : List Value), k ≤ t.size ∧ f ≤ k ∧ iv = .int .i64 k ∧ fv = .int .i64 f ∧ RefM w outs line L ov lv us wr ∧ outs.length ≤ k ∧ line.length ≤ k ∧ contD (midT l f k) line outs (l.drop k) = D) (fun _ _ _ iv _ => t.size - (intOf iv).toNat)
  case atStart => exact ⟨0, 0, _, [], [], [], Nat.zero_le _, Nat.le_refl _, rfl, rfl, RefM.start w, Nat.le_refl _, Nat.le_refl _, HD.out⟩
  case round =>
    obtain ⟨k, f, L, outs, line, us, hk, hfk, rfl, rfl, hM, hol, hll, hd⟩ := hrel
    obtain ⟨Ao, co, rfl, _⟩ := own_form hM.out
    obtain ⟨Al, cl, rfl, _⟩ := own_form hM.line
    have HK := Go.Lib.hid hd
    clear hd HD
    by_cases hlt : k < t.size
    · have hlk : k < l.length := by rw [HS.out]; exact hlt
      have hb := HB.out k hlt
      have hdr := drop_at hlk
      rw [hb] at hdr
      have HDR := Go.Lib.hid hdr
      have hmm := midT_more hfk hlk
      rw [hb] at hmm
      have HMM := Go.Lib.hid hmm
      clear hb hdr hmm hlk
      by_cases hc : t[k] = 32 ∨ t[k] = 10
      · by_cases he : f = k
        · -- nothing stands ahead of the blank, or the line's end
          subst he
          have HN : Hid (D = none) := by
            show _ = _
            rw [← HK.out, HDR.out, midT_self, contD]
            rcases hc with h | h
            · rw [if_pos h, if_pos rfl]
            · rw [if_neg (by rw [h]; decide), if_pos h, if_pos rfl]
          have hcb : (((t[f]).toNat : Int) != 32) = false ∨ ((((t[f]).toNat : Int) != 32) = true ∧ (((t[f]).toNat : Int) != 10) = false) := by
            rcases hc with h | h
            · left; rw [h]; rfl
            · right; rw [h]; exact ⟨rfl, rfl⟩
          clear hc
          rcases hcb with b0 | ⟨b0, b1⟩
          · go_wp2
            go_ret2
            exact .inr ⟨HN.out, rfl, hM.low⟩
          · go_wp2
            go_ret2
            exact .inr ⟨HN.out, rfl, hM.low⟩
        · have hfk' : f < k := by omega
          have HNE := Go.Lib.hid (midT_ne hfk' (by rw [HS.out]; omega : k ≤ l.length))
          have hke : ((k : Int) == (f : Int)) = false := beq_eq_false_iff_ne.2 (by omega)
          have hl1 := hM.line
          unfold RowS at hl1
          rcases hc with h | h
          · have HN : Hid (contD (midT l (k + 1) (k + 1)) (line ++ [midT l f k]) outs (l.drop (k + 1)) = D) := by
              show _ = _
              rw [← HK.out, HDR.out, contD, if_pos h, if_neg HNE.out, midT_self]
            have b0 : (((t[k]).toNat : Int) != 32) = false := by rw [h]; rfl
            have b1 : (((t[k]).toNat : Int) == 10) = false := by rw [h]; rfl
            have hm2 := hM.b2
            clear h HK HDR HMM
            go_wp2_with (at_builtin; refine wpList_append_own _ rfl _ _ 29 rfl L 9 i0 (.string ByteArray.empty) 1 16 Tryd.underlying29 hi hz0 hz1 hz2 rfl (by decide) _ _ _ rfl (hl1.alloc _) ⟨wr.heap.size, 0, none⟩ 1 1 [.string (strL (midT l f k))] rfl rfl (one_cell _ _ _) (by simp [Value.oneCell']) (by unfold maxLen; omega) (by omega) (by simp; omega) ?_; intro v' w3 hown' hgrow _; have hM2 := hM.word hown' hgrow)
            go_roundw
            case rel => exact ⟨k + 1, k + 1, L, outs, _, us, by omega, Nat.le_refl _, by go_num, by go_num, hM2, by omega, by rw [List.length_append]; simp; omega, HN.out⟩
            case measure => simp [intOf]; omega
          · have HN : Hid (contD (midT l (k + 1) (k + 1)) [] (outs ++ [line ++ [midT l f k]]) (l.drop (k + 1)) = D) := by
              show _ = _
              rw [← HK.out, HDR.out, contD, if_neg (by rw [h]; decide), if_pos h, if_neg HNE.out, midT_self]
            have b0 : (((t[k]).toNat : Int) != 32) = true := by rw [h]; rfl
            have b1 : (((t[k]).toNat : Int) == 10) = true := by rw [h]; rfl
            have b2 : (((t[k]).toNat : Int) != 10) = false := by rw [h]; rfl
            have hm2 := hM.b2
            clear h HK HDR HMM
            go_wp2_with (at_builtin; first
              | (refine wpList_append_own _ rfl _ _ 29 rfl L 9 i0 (.string ByteArray.empty) 1 16 Tryd.underlying29 hi hz0 hz1 hz2 rfl (by decide) _ _ _ rfl (hl1.alloc _) ⟨wr.heap.size, 0, none⟩ 1 1 [.string (strL (midT l f k))] rfl rfl (one_cell _ _ _) (by simp [Value.oneCell']) (by unfold maxLen; omega) (by omega) (by simp; omega) ?_; intro v' w3 hown' hgrow _; have hM2 := hM.word hown' hgrow; obtain ⟨line2, hl2⟩ : ∃ x, x = line ++ [midT l f k] := ⟨_, rfl⟩; rw [← hl2] at hM2; have HL2 := Go.Lib.hid hl2; clear hl2; obtain ⟨A2, c2, rfl, _⟩ := own_form hM2.line; have ho2 := hM2.out; have hw2 := hM2.low.size; clear hown' hgrow)
              | (refine wpList_append_own _ rfl _ _ 22 rfl w.heap.size 29 j0 (.slice none 0 0) 1 24 Tryd.underlying22 hj jz0 jz1 jz2 rfl (by decide) _ _ _ rfl (ho2.alloc _) ⟨w3.heap.size, 0, none⟩ 1 1 [.slice A2 line2.length c2] rfl rfl (one_cell _ _ _) (by simp [Value.oneCell']) (by unfold maxLen; omega) (by omega) (by simp; omega) ?_; intro v'' w4 hown'' hgrow'' _; have hM3 := hM2.push hown'' hgrow''))
            go_roundw
            case rel => exact ⟨k + 1, k + 1, _, _, [], _, by omega, Nat.le_refl _, by go_num, by go_num, hM3, by rw [List.length_append]; simp; omega, Nat.zero_le _, by rw [HL2.out]; exact HN.out⟩
            case measure => simp [intOf]; omega
      · obtain ⟨n32, n10⟩ := not_or.1 hc
        have b0 : (((t[k]).toNat : Int) != 32) = true := by
          simp only [bne_iff_ne, ne_eq]
          exact fun e => n32 (UInt8.toNat_inj.1 (by show (t[k]).toNat = 32; omega))
        have b1 : (((t[k]).toNat : Int) != 10) = true := by
          simp only [bne_iff_ne, ne_eq]
          exact fun e => n10 (UInt8.toNat_inj.1 (by show (t[k]).toNat = 10; omega))
        cases hg : goodC t[k]
        · have HN : Hid (D = none) := by
            show _ = _
            rw [← HK.out, HDR.out, contD, if_neg n32, if_neg n10, if_neg (by rw [hg]; decide)]
          have hgn := good_no hg
          clear hc n32 n10 hg
          rcases hgn with g1 | ⟨g1, g2⟩
          · go_wp2
            go_ret2
            exact .inr ⟨HN.out, rfl, hM.low⟩
          · go_wp2
            go_ret2
            exact .inr ⟨HN.out, rfl, hM.low⟩
        · have HN : Hid (contD (midT l f (k + 1)) line outs (l.drop (k + 1)) = D) := by
            show _ = _
            rw [← HK.out, HDR.out, contD, if_neg n32, if_neg n10, if_pos hg, HMM.out]
          obtain ⟨g1, g2⟩ := good_lo hg
          clear hc n32 n10 hg
          go_wp2
          go_roundw
          case rel => exact ⟨k + 1, f, L, outs, line, us, by omega, by omega, by go_num, rfl, hM, by omega, by omega, HN.out⟩
          case measure => simp [intOf]; omega
    · obtain rfl : k = t.size := by omega
      have HE : Hid (l.drop t.size = []) := by show _ = _; rw [← HS.out]; simp
      by_cases hf : f < t.size
      · have HN : Hid (D = none) := by
          show _ = _
          rw [← HK.out, HE.out, contD, if_neg]
          rintro ⟨h, _⟩
          exact midT_ne hf (by rw [HS.out]; exact Nat.le_refl _) h
        go_wp2
        go_ret2
        exact .inr ⟨HN.out, rfl, hM.low⟩
      · obtain rfl : f = t.size := by omega
        by_cases hln : line.length = 0
        · have HN : Hid (D = some outs) := by
            show _ = _
            rw [← HK.out, HE.out, contD, midT_self, if_pos ⟨rfl, List.length_eq_zero_iff.1 hln⟩]
          go_wp2
          go_ret2
          exact .inl ⟨outs, _, HN.out, rfl, hM.lines, hM.low⟩
        · have HN : Hid (D = none) := by
            show _ = _
            rw [← HK.out, HE.out, contD, if_neg]
            rintro ⟨_, h⟩
            exact hln (by rw [h]; rfl)
          have hlp : 0 < line.length := by omega
          go_wp2
          go_ret2
          exact .inr ⟨HN.out, rfl, hM.low⟩
end Go.Proofs.YtgkfkgioneahpaaDoor
