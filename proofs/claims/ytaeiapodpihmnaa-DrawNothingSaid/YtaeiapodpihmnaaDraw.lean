/- A stream in memory, and what New, Word, Below and Fork leave and answer. -/
import Derived.Test.YtaeiapodpihmnaaNum
import Derived.Test.YtaeiapodpihmnaaData
namespace Go.Proofs.Ytaeiapodpihmnaa
open Go.RowKit
set_option linter.unusedVariables false
theorem Only.over {F : List Nat} {w w1 w2 : World} (h : Only F w1 w2) (hb : Below w.heap.size w w1) (hF : ∀ b ∈ F, w.heap.size ≤ b) : Below w.heap.size w w2 := hb.trans (h.to_below hb.size hF)
/-- Block g is a stream whose state is s. -/
def StIs (w : World) (g : Nat) (s : Int) : Prop := BlkIs w g 37 #[.int .u64 s]
theorem StIs.lt {w : World} {g : Nat} {s : Int} (h : StIs w g s) : g < w.heap.size := BlkIs.lt h
theorem StIs.only {w w' : World} {g : Nat} {s : Int} {F : List Nat} (h : StIs w g s) (ho : Only F w w') (hd : g ∉ F) : StIs w' g s := BlkIs.only h ho hd
theorem StIs.below {w w' : World} {g : Nat} {s : Int} (h : StIs w g s) (hb : Below w.heap.size w w') : StIs w' g s := BlkIs.below h hb h.lt
/-- Numbers in memory do not lie in a stream's block. -/
theorem Ints.off {w w' : World} {A : Option Addr} {n g : Nat} {xs : List Int} {s : Int} (h : Ints w A n xs) (hg : StIs w g s) (ho : Only [g] w w') : Ints w' A n xs := by
  refine ⟨h.1, fun hn => ?_⟩
  obtain ⟨b, off, e, hc⟩ := h.2 hn
  refine ⟨b, off, e, fun k hk => ?_⟩
  have hne : b ≠ g := by
    intro e
    subst e
    have := hc k hk
    rw [BlkIs.cellAt hg] at this
    rcases hk' : off + k with _ | j <;> rw [hk'] at this <;> simp at this
  have hl := World.block_lt_of_cell? w _ (hc k hk)
  exact (World.cell?_of_block (w := w) (a := ⟨b, off + k, none⟩) (ho.block b hl (by simpa using hne))).trans (hc k hk)
/-- The state that follows. -/
def nxtS (s : Int) : Int := IntKind.u64.wrap (s + 11400714819323198485)
def mixA (z : Int) : Int := IntKind.u64.wrap (bits BinOp.xor IntKind.u64 z (z / 1073741824) * 13787848793156543929)
def mixB (z : Int) : Int := IntKind.u64.wrap (bits BinOp.xor IntKind.u64 z (z / 134217728) * 10723151780598845931)
def mixC (z : Int) : Int := bits BinOp.xor IntKind.u64 z (z / 2147483648)
theorem mixC_wf (s : Int) : (Lit.int .u64 (mixC s)).wf = true := wf_bits _ _ _ _
/-- What is drawn of a state. -/
def drawS (s : Int) : Int := mixC (mixB (mixA (nxtS s)))
/-- The state that a seed makes. -/
def seedS (s : Int) : Int := IntKind.u64.wrap s
theorem drawS_wf (s : Int) : (Lit.int .u64 (drawS s)).wf = true := mixC_wf _
theorem drawS_bd (s : Int) : 0 ≤ drawS s ∧ drawS s ≤ 18446744073709551615 := bounds_u64 (drawS_wf s)
theorem drawS_0 : drawS (seedS 0) = 16294208416658607535 := by kernel_rfl
theorem word_any {w : World} {g : Nat} {s : Int} (h : StIs w g s) :
    Calls Try.prog 13 #[.pointer (some ⟨g, 0, none⟩)] w fun e w' => e = .returned (.int .u64 (drawS s)) ∧ StIs w' g (nxtS s) ∧ Only [g] w w' := by
  have h' := h
  unfold StIs at h
  have c0 := h.cellAt 0
  have f0 := h.free 0
  simp at c0
  have H := Lib.hid h'
  clear h h'
  go_enter Try.func13, Try.ntmps13
  go_wp2
  go_ret
  refine ⟨rfl, ?_, (Only.refl _ _).setCell (by simp) _⟩
  have := BlkIs.put H.out 0 (.int .u64 (nxtS s))
  exact this
theorem new_any (s : Int) (w : World) :
    Calls Try.prog 8 #[.int .i64 s] w fun e w' => ∃ g, e = .returned (.pointer (some ⟨g, 0, none⟩)) ∧ w.heap.size ≤ g ∧ StIs w' g (seedS s) ∧ Below w.heap.size w w' := by
  go_enter Try.func8, Try.ntmps8
  go_wp2
  go_ret
  exact ⟨_, rfl, Nat.le_refl _, BlkIs.fresh _ _ _, below_alloc _ _⟩
theorem fork_any {w : World} {g : Nat} {s : Int} (h : StIs w g s) :
    Calls Try.prog 14 #[.pointer (some ⟨g, 0, none⟩)] w fun e w' => ∃ k, e = .returned (.pointer (some ⟨k, 0, none⟩)) ∧ w.heap.size ≤ k ∧ StIs w' k (drawS s) ∧ StIs w' g (nxtS s) ∧ Only [g] w w' := by
  have H := Lib.hid (word_any h)
  clear h
  go_enter Try.func14, Try.ntmps14
  go_wp2_with (go_at_call 13; refine H.out.mono ?_; rintro e w1 ⟨rfl, h1, h2⟩)
  go_ret
  exact ⟨_, rfl, h2.size, BlkIs.fresh _ _ _, h1.below (below_alloc _ _), h2.alloc _⟩
theorem below_none {n : Int} (hn : n < 1) (g : Nat) (w : World) :
    Calls Try.prog 9 #[.pointer (some ⟨g, 0, none⟩), .int .i64 n] w fun e w' => e = .returned (.int .i64 0) ∧ w = w' := by
  go_enter Try.func9, Try.ntmps9
  go_wp2
  go_ret
  exact ⟨rfl, rfl⟩
/-- What is drawn below n. -/
def BelowPost (w : World) (g : Nat) (n : Int) (e : Ending) (w' : World) : Prop := ∃ (k : Nat) (s' : Int), e = .returned (.int .i64 k) ∧ (k : Int) < n ∧ StIs w' g s' ∧ Only [g] w w'
theorem below_some {w : World} {g : Nat} {s n : Int} (h : StIs w g s) (hn : 1 ≤ n) (hm : n ≤ 9223372036854775807) :
    Calls Try.prog 9 #[.pointer (some ⟨g, 0, none⟩), .int .i64 n] w (BelowPost w g n) := by
  have H := Lib.hid (word_any h)
  obtain ⟨d, ed⟩ : ∃ d, d = drawS s := ⟨_, rfl⟩
  have hd := drawS_bd s
  rw [← ed] at H hd
  clear ed
  have hw : IntKind.u64.wrap n = n := by
    simp [IntKind.wrap, IntKind.bits, IntKind.signed]; omega
  clear h
  go_enter Try.func9, Try.ntmps9
  go_wp2_with (go_at_call 13; refine H.out.mono ?_; rintro e w1 ⟨rfl, h1, h2⟩)
  go_ret
  have g1 := Int.emod_nonneg d (b := n) (by omega)
  have g2 := Int.emod_lt_of_pos d (b := n) (by omega)
  refine ⟨(d % n).toNat, _, ret_int ?_, by omega, h1, h2⟩
  rw [IntWalk.wrap64_in _ (by omega), Int.toNat_of_nonneg g1]
/-- The document's example. -/
theorem lives_any (w : World) : Calls Try.prog 11 #[] w fun e w' => e = .returned (.bool true) ∧ Below w.heap.size w w' := by
  have h0 := drawS_0
  obtain ⟨t, ht⟩ : ∃ t, t = drawS (seedS 0) := ⟨_, rfl⟩
  rw [← ht] at h0
  have HW : Hid (∀ w1 g, StIs w1 g (seedS 0) → Calls Try.prog 13 #[.pointer (some ⟨g, 0, none⟩)] w1 fun e w' => e = .returned (.int .u64 16294208416658607535) ∧ Only [g] w1 w') := by
    refine Lib.hid fun w1 g h => (word_any h).mono ?_
    rintro e w' ⟨rfl, _, h2⟩
    exact ⟨by rw [← ht, h0], h2⟩
  have HN := Lib.hid (new_any 0 w)
  clear h0 ht
  go_enter Try.func11, Try.ntmps11
  go_wp2_with (first
    | (go_at_call 8; refine HN.out.mono ?_; rintro e w1 ⟨g, rfl, h1, h2, h3⟩)
    | (go_at_call 13; refine (HW.out _ _ h2).mono ?_; rintro e w2 ⟨rfl, h4⟩))
  go_ret
  exact ⟨rfl, h4.over h3 (by simpa using h1)⟩
end Go.Proofs.Ytaeiapodpihmnaa
