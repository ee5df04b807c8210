/- HeapTexts' walk. -/
import Derived.Test.YtgpnpopmlommaaaHeapApiS
import Derived.Test.YtgpnpopmlommaaaHeapLives
import Derived.WalkLawsBesides
import Derived.Test.YtgpnpopmlommaaaOpen
namespace Go.Proofs.Ytgpnpopmlommaaa.Txt
open Go.RowKit Go.Maps
set_option linter.unusedVariables false
/-- A heap of texts of the call's own. -/
def OwnS (w : World) (g : Nat) (l : List (Thing ByteArray)) (w1 : World) : Prop := ∃ F, HoldsI w1 g F l ∧ Below w.heap.size w w1 ∧ ∀ b ∈ F, w.heap.size ≤ b
theorem OwnS.turned {w w1 w2 : World} {g : Nat} {l' : List (Thing ByteArray)} {F F' : List Nat} (hb : Below w.heap.size w w1) (hF : ∀ b ∈ F, w.heap.size ≤ b) (h : HoldsI w2 g F' l') (ht : Turned F F' w1 w2) : OwnS w g l' w2 :=
  ⟨F', h, ht.1.over hb hF, fun b hm => by rcases ht.2 b hm with e | e; exact hF b e; have := hb.size; omega⟩
theorem OwnS.base {w w1 : World} {g : Nat} {l : List (Thing ByteArray)} (h : OwnS w g l w1) : Below w.heap.size w w1 := by
  obtain ⟨F, _, h, _⟩ := h
  exact h
theorem OwnS.has {w w1 : World} {g : Nat} {l : List (Thing ByteArray)} (h : OwnS w g l w1) : Has LtS l := by
  obtain ⟨F, ⟨q, n, _, _, _, h⟩, _⟩ := h
  exact h
theorem put_own {w w1 : World} {g : Nat} {l : List (Thing ByteArray)} (h : OwnS w g l w1) {id : Int} {x : ByteArray} (hid : (Lit.int .i64 id).wf = true) (hroom : l.length < 1048576) (hin : isIn l id = false) :
    Calls Try.prog 19 #[.pointer (some ⟨g, 0, none⟩), .int .i64 id, .string x] w1 fun e w' => e = .returned (.bool true) ∧ OwnS w g (ins LtS (id, x) l) w' := by
  obtain ⟨F, h1, h2, h3⟩ := h
  refine (put_I h1 hid trivial hroom).mono ?_
  rintro e w' ⟨rfl, F', g1, g2⟩
  rw [hin] at g1 ⊢
  exact ⟨rfl, .turned h2 h3 g1 g2⟩
theorem take_own {w w1 : World} {g : Nat} {x : Thing ByteArray} {l : List (Thing ByteArray)} (h : OwnS w g (x :: l) w1) :
    Calls Try.prog 20 #[.pointer (some ⟨g, 0, none⟩)] w1 fun e w' => e = .returned (.tuple #[.int .i64 x.1, .string x.2, .bool true]) ∧ OwnS w g l w' := by
  obtain ⟨F, h1, h2, h3⟩ := h
  refine (take_some_I h1).mono ?_
  rintro e w' ⟨rfl, g1, g2⟩
  exact ⟨rfl, .turned h2 h3 g1 (.of_only g2)⟩
theorem len_own {w w1 : World} {g : Nat} {l : List (Thing ByteArray)} (h : OwnS w g l w1) :
    Calls Try.prog 21 #[.pointer (some ⟨g, 0, none⟩)] w1 fun e w' => e = .returned (.int .i64 l.length) ∧ w1 = w' := by
  obtain ⟨F, h1, h2, h3⟩ := h
  exact hlen_I h1
def NewOwn (w : World) (e : Ending) (w' : World) : Prop := ∃ g, e = .returned (.pointer (some ⟨g, 0, none⟩)) ∧ OwnS w g [] w'
theorem new_own (w : World) : Calls Try.prog 18 #[] w (NewOwn w) := by
  refine (new_I w).mono ?_
  rintro e w' ⟨g, F, rfl, h1, h2, h3⟩
  exact ⟨g, rfl, F, h1, h2, h3⟩
def TextFill (w : World) (g n : Nat) (i : Value) (wr : World) : Prop := ∃ (k : Nat) (l : List (Thing ByteArray)), i = .int .i64 k ∧ k ≤ n ∧ l.length = k ∧ (∀ y ∈ l, 0 ≤ y.1 ∧ y.1 < (k : Int)) ∧ OwnS w g l wr
/-- What the last one taken says of those that are left. -/
def After (last : ByteArray) (lastId : Int) (l : List (Thing ByteArray)) : Prop := ∀ y ∈ l, Op.bytesLess y.2.toList last.toList = false ∧ (y.2.toList = last.toList → lastId ≤ y.1)
def TextTake (w : World) (g n : Nat) (last lastId i : Value) (wr : World) : Prop := ∃ (k : Nat) (l : List (Thing ByteArray)) (s : ByteArray) (d : Int), last = .string s ∧ lastId = .int .i64 d ∧ i = .int .i64 k ∧ k ≤ n ∧ l.length = n - k ∧ After s d l ∧ OwnS w g l wr
theorem less_empty (l : List UInt8) : Op.bytesLess l (⟨#[]⟩ : ByteArray).toList = false := by
  have e : (⟨#[]⟩ : ByteArray).toList = [] := by rw [ByteArray.toList_eq]
  rw [e]
  cases l <;> rfl
theorem TextFill.next {w w' : World} {g n k : Nat} {l : List (Thing ByteArray)} {x : ByteArray} (hk : k < n) (hl : l.length = k) (hid : ∀ y ∈ l, 0 ≤ y.1 ∧ y.1 < (k : Int)) (h : OwnS w g (ins LtS ((k : Int), x) l) w') : TextFill w g n (.int .i64 ((k : Int) + 1)) w' := by
  refine ⟨k + 1, _, by go_num, by omega, by rw [ins_len, hl], fun y hy => ?_, h⟩
  rcases List.mem_cons.1 ((ins_perm _ _).subset hy) with e | e
  · subst e; exact ⟨by show (0 : Int) ≤ (k : Int); omega, by show (k : Int) < _; omega⟩
  · have := hid y e; omega
theorem After.next {x : Thing ByteArray} {l : List (Thing ByteArray)} (h : Has LtS (x :: l)) : After x.2 x.1 l := by
  intro y hy
  have hb := (List.pairwise_cons.1 h.1).1 y hy
  rcases hb with hb | ⟨hb1, hb2⟩
  · refine ⟨?_, fun e => ?_⟩
    · cases hc : Op.bytesLess y.2.toList x.2.toList with
      | false => rfl
      | true => exact absurd hc (fun hc => order_I.irrefl _ (order_I.trans _ _ _ hb hc))
    · unfold LtS at hb
      rw [e, less_irrefl] at hb; cases hb
  · rw [hb1]
    exact ⟨less_irrefl _, fun _ => by omega⟩
set_option maxHeartbeats 4000000 in
theorem texts_short (A : Option Addr) (n c : Nat) (S : Nat → ByteArray) (w : World) (h : Texts w A n S) (hc : n ≤ c) (hn : n ≤ 20) :
    Calls Try.prog 6 #[.slice A n c] w fun e w' => e = .returned (.bool true) ∧ Below w.heap.size w w' := by
  have HX := Lib.hid h
  have HN1 := Lib.hid (new_own w)
  clear h
  have hd : decide ((20 : Int) < (n : Int)) = false := decide_eq_false (by omega)
  go_enter Try.func6, Try.ntmps6
  go_wp2_with (go_at_call 18; refine HN1.out.mono ?_; rintro e w1 ⟨g, rfl, h0⟩; clear HN1)
  go_loopw [4] (fun i wr => TextFill w g n i wr) (fun i _ => n - (intOf i).toNat)
  case atStart => exact ⟨0, [], rfl, by omega, rfl, (fun y hy => absurd hy (by simp)), h0⟩
  case round =>
    clear h0 w1
    obtain ⟨k, l, rfl, hk, hl, hid, hO⟩ := hrel
    by_cases hlt : k < n
    · obtain ⟨b, off, rfl, hcs⟩ := (HX.out.keep hO.base).1 (by omega)
      have c1 := hcs k hlt
      have hsz := HX.out.2 k hlt
      obtain ⟨s, hs⟩ : ∃ s, s = S k := ⟨_, rfl⟩
      rw [← hs] at c1 hsz
      unfold maxLen at hsz
      have wk : (Lit.int .i64 (k : Int)).wf = true := wf_iff.2 ⟨by omega, by omega⟩
      have hin : isIn l (k : Int) = false := isIn_false.2 fun y hy e => by have := hid y hy; omega
      have HP : Hid (∀ t : ByteArray, Calls Try.prog 19 #[.pointer (some ⟨g, 0, none⟩), .int .i64 k, .string t] wr fun e w' => e = .returned (.bool true) ∧ TextFill w g n (.int .i64 ((k : Int) + 1)) w') :=
        Lib.hid fun t => (put_own hO wk (by omega) hin).mono fun e w' ⟨h1, h2⟩ => ⟨h1, .next hlt hl hid h2⟩
      have kk : (k : Int) < (n : Int) := by omega
      clear hcs hs hO hin hid hl
      by_cases h3 : 3 < s.size
      all_goals
        go_wp2_with (go_at_call 19; refine (HP.out _).mono ?_; rintro e w3 ⟨rfl, h5⟩; clear HP)
        go_roundw
        case rel => exact h5
        case measure => simp [intOf]; omega
    · have hkN : k = n := by omega
      have hge : (n : Int) ≤ (k : Int) := by omega
      have h00 : TextTake w g n (.string ⟨#[]⟩) (.int .i64 (-1)) (.int .i64 0) wr := ⟨0, l, ⟨#[]⟩, -1, rfl, rfl, rfl, by omega, by omega, fun y hy => ⟨less_empty _, fun _ => by have := hid y hy; omega⟩, hO⟩
      clear hkN hid hO hl
      go_wp2
      obtain ⟨wo, hwo⟩ : ∃ wo : World, wo = wr := ⟨_, rfl⟩
      go_loopw [6, 7, 8] (fun last lastId i wr => TextTake w g n last lastId i wr) (fun _ _ i _ => n - (intOf i).toNat)
      case atStart => exact h00
      case round =>
        clear h00
        obtain ⟨k, l, s, d, rfl, rfl, rfl, hk, hl, hA, hO⟩ := hrel
        by_cases hlt : k < n
        · obtain ⟨x, l2, rfl⟩ : ∃ x l2, l = x :: l2 := by
            cases l with
            | nil => simp at hl; omega
            | cons x l2 => exact ⟨x, l2, rfl⟩
          obtain ⟨a1, a2⟩ := hA x (by simp)
          have a3 := After.next hO.has
          have hl2 : l2.length = n - (k + 1) := by simp at hl; omega
          have HT : Hid (Calls Try.prog 20 #[.pointer (some ⟨g, 0, none⟩)] wr fun e w' => e = .returned (.tuple #[.int .i64 x.1, .string x.2, .bool true]) ∧ TextTake w g n (.string x.2) (.int .i64 x.1) (.int .i64 ((k : Int) + 1)) w') :=
            Lib.hid ((take_own hO).mono fun e w' ⟨h1, h2⟩ => ⟨h1, k + 1, l2, x.2, x.1, rfl, rfl, by go_num, by omega, hl2, a3, h2⟩)
          have kk : (k : Int) < (n : Int) := by omega
          clear hl hl2 a3 hO hA
          by_cases he : x.2.toList = s.toList
          · have e1 : (x.2.toList == s.toList) = true := by simpa using he
            have e2 : decide (x.1 < d) = false := by have := a2 he; simp; omega
            clear he a2
            go_wp2_with (go_at_call 20; refine HT.out.mono ?_; rintro e w3 ⟨rfl, h5⟩; clear HT)
            go_roundw
            case rel => exact h5
            case measure => simp [intOf]; omega
          · have e1 : (x.2.toList == s.toList) = false := by simpa using he
            clear he a2
            go_wp2_with (go_at_call 20; refine HT.out.mono ?_; rintro e w3 ⟨rfl, h5⟩; clear HT)
            go_roundw
            case rel => exact h5
            case measure => simp [intOf]; omega
        · have hge : (n : Int) ≤ (k : Int) := by omega
          obtain rfl : l = [] := List.eq_nil_of_length_eq_zero (by omega)
          have HL : Hid (Calls Try.prog 21 #[.pointer (some ⟨g, 0, none⟩)] wr fun e w' => e = .returned (.int .i64 0) ∧ wr = w') := Lib.hid (len_own hO)
          have HBW := Lib.hid hO.base
          clear hA hl hO
          go_wp2_with (first
            | (go_at_call 21; refine HL.out.mono ?_; rintro e w3 ⟨rfl, rfl⟩)
            | (go_at_call 12; refine (lives_any _).mono ?_; rintro e w5 ⟨rfl, bl⟩))
          go_ret
          exact ⟨rfl, HBW.out.trans (bl.mono HBW.out.size)⟩
set_option maxHeartbeats 4000000 in
theorem texts_long (A : Option Addr) (m c : Nat) (S : Nat → ByteArray) (w : World) (h : Texts w A 20 S) (hc : m ≤ c) (hm : 20 < m) :
    Calls Try.prog 6 #[.slice A m c] w fun e w' => e = .returned (.bool true) ∧ Below w.heap.size w w' := by
  have HX := Lib.hid h
  have HN1 := Lib.hid (new_own w)
  clear h
  have hd : decide ((20 : Int) < (m : Int)) = true := decide_eq_true (by omega)
  have hmc : (20 : Int) ≤ (c : Int) := by omega
  go_enter Try.func6, Try.ntmps6
  go_wp2_with (go_at_call 18; refine HN1.out.mono ?_; rintro e w1 ⟨g, rfl, h0⟩; clear HN1)
  go_loopw [4] (fun i wr => TextFill w g 20 i wr) (fun i _ => 20 - (intOf i).toNat)
  case atStart => exact ⟨0, [], rfl, by omega, rfl, (fun y hy => absurd hy (by simp)), h0⟩
  case round =>
    clear h0 w1
    obtain ⟨k, l, rfl, hk, hl, hid, hO⟩ := hrel
    by_cases hlt : k < 20
    · obtain ⟨b, off, rfl, hcs⟩ := (HX.out.keep hO.base).1 (by omega)
      have c1 := hcs k hlt
      have hsz := HX.out.2 k hlt
      obtain ⟨s, hs⟩ : ∃ s, s = S k := ⟨_, rfl⟩
      rw [← hs] at c1 hsz
      unfold maxLen at hsz
      have wk : (Lit.int .i64 (k : Int)).wf = true := wf_iff.2 ⟨by omega, by omega⟩
      have hin : isIn l (k : Int) = false := isIn_false.2 fun y hy e => by have := hid y hy; omega
      have HP : Hid (∀ t : ByteArray, Calls Try.prog 19 #[.pointer (some ⟨g, 0, none⟩), .int .i64 k, .string t] wr fun e w' => e = .returned (.bool true) ∧ TextFill w g 20 (.int .i64 ((k : Int) + 1)) w') :=
        Lib.hid fun t => (put_own hO wk (by omega) hin).mono fun e w' ⟨h1, h2⟩ => ⟨h1, .next hlt hl hid h2⟩
      have kk : (k : Int) < (20 : Int) := by omega
      clear hcs hs hO hin hid hl
      by_cases h3 : 3 < s.size
      all_goals
        go_wp2_with (go_at_call 19; refine (HP.out _).mono ?_; rintro e w3 ⟨rfl, h5⟩; clear HP)
        go_roundw
        case rel => exact h5
        case measure => simp [intOf]; omega
    · have hkN : k = 20 := by omega
      have hge : (20 : Int) ≤ (k : Int) := by omega
      have h00 : TextTake w g 20 (.string ⟨#[]⟩) (.int .i64 (-1)) (.int .i64 0) wr := ⟨0, l, ⟨#[]⟩, -1, rfl, rfl, rfl, by omega, by omega, fun y hy => ⟨less_empty _, fun _ => by have := hid y hy; omega⟩, hO⟩
      clear hkN hid hO hl
      go_wp2
      obtain ⟨wo, hwo⟩ : ∃ wo : World, wo = wr := ⟨_, rfl⟩
      go_loopw [6, 7, 8] (fun last lastId i wr => TextTake w g 20 last lastId i wr) (fun _ _ i _ => 20 - (intOf i).toNat)
      case atStart => exact h00
      case round =>
        clear h00
        obtain ⟨k, l, s, d, rfl, rfl, rfl, hk, hl, hA, hO⟩ := hrel
        by_cases hlt : k < 20
        · obtain ⟨x, l2, rfl⟩ : ∃ x l2, l = x :: l2 := by
            cases l with
            | nil => simp at hl; omega
            | cons x l2 => exact ⟨x, l2, rfl⟩
          obtain ⟨a1, a2⟩ := hA x (by simp)
          have a3 := After.next hO.has
          have hl2 : l2.length = 20 - (k + 1) := by simp at hl; omega
          have HT : Hid (Calls Try.prog 20 #[.pointer (some ⟨g, 0, none⟩)] wr fun e w' => e = .returned (.tuple #[.int .i64 x.1, .string x.2, .bool true]) ∧ TextTake w g 20 (.string x.2) (.int .i64 x.1) (.int .i64 ((k : Int) + 1)) w') :=
            Lib.hid ((take_own hO).mono fun e w' ⟨h1, h2⟩ => ⟨h1, k + 1, l2, x.2, x.1, rfl, rfl, by go_num, by omega, hl2, a3, h2⟩)
          have kk : (k : Int) < (20 : Int) := by omega
          clear hl hl2 a3 hO hA
          by_cases he : x.2.toList = s.toList
          · have e1 : (x.2.toList == s.toList) = true := by simpa using he
            have e2 : decide (x.1 < d) = false := by have := a2 he; simp; omega
            clear he a2
            go_wp2_with (go_at_call 20; refine HT.out.mono ?_; rintro e w3 ⟨rfl, h5⟩; clear HT)
            go_roundw
            case rel => exact h5
            case measure => simp [intOf]; omega
          · have e1 : (x.2.toList == s.toList) = false := by simpa using he
            clear he a2
            go_wp2_with (go_at_call 20; refine HT.out.mono ?_; rintro e w3 ⟨rfl, h5⟩; clear HT)
            go_roundw
            case rel => exact h5
            case measure => simp [intOf]; omega
        · have hge : (20 : Int) ≤ (k : Int) := by omega
          obtain rfl : l = [] := List.eq_nil_of_length_eq_zero (by omega)
          have HL : Hid (Calls Try.prog 21 #[.pointer (some ⟨g, 0, none⟩)] wr fun e w' => e = .returned (.int .i64 0) ∧ wr = w') := Lib.hid (len_own hO)
          have HBW := Lib.hid hO.base
          clear hA hl hO
          go_wp2_with (first
            | (go_at_call 21; refine HL.out.mono ?_; rintro e w3 ⟨rfl, rfl⟩)
            | (go_at_call 12; refine (lives_any _).mono ?_; rintro e w5 ⟨rfl, bl⟩))
          go_ret
          exact ⟨rfl, HBW.out.trans (bl.mono HBW.out.size)⟩
theorem texts_any (A : Option Addr) (n c : Nat) (S : Nat → ByteArray) (w : World) (h : Texts w A n S) (hc : n ≤ c) :
    Calls Try.prog 6 #[.slice A n c] w fun e w' => e = .returned (.bool true) ∧ Below w.heap.size w w' := by
  by_cases hn : 20 < n
  · exact texts_long A n c S w (h.cut (by omega)) hc hn
  · exact texts_short A n c S w h hc (by omega)
theorem texts_frame {H : Type} {enc : TypeId × Value → H} {base b0 : Nat} {v : Value} {d : DataW H} {p : List MemPlace} (W : World) (h : DataW.Trod enc Try.prog W base (fun _ => true) true 40 v d p) (o : Value.okWide Try.prog W .any b0 40 v) :
    Calls Try.prog 6 #[v] W fun e w' => e = .returned (.bool true) ∧ Below W.heap.size W w' := by
  obtain ⟨A, n, c, S, rfl, h1, _, h2⟩ := texts_of_trod Try.underlying40 Try.underlying9 (by kernel_rfl) h (Go.WideShapes.okWide_slice Try.underlying40 o)
  exact texts_any A n c S W h2 h1
end Go.Proofs.Ytgpnpopmlommaaa.Txt
