/- What the functions of package days must answer for the laws of layer 2: each as a statement of its own, proved elsewhere off the code. -/
import Derived.Test.YtmjogpbdgbgkhaaDoorDaysPlain
import Derived.Test.YtmjogpbdgbgkhaaDoorTab
namespace Go.Proofs.YtmjogpbdgbgkhaaDoor
open Go.RowKit
set_option linter.unusedVariables false

def HasOk : Prop := ∀ (s : Nat) (d : Int) (w : World), s < 2 ^ 64 → (Lit.int .i64 d).wf = true →
  Calls Tryd.prog 14 #[.int .u64 s, .int .i64 d] w fun e w' => e = .returned (.bool (hasB s d)) ∧ Below w.heap.size w w'
def WithOk : Prop := ∀ (s : Nat) (d : Int) (w : World), s < 2 ^ 64 → (Lit.int .i64 d).wf = true →
  Calls Tryd.prog 16 #[.int .u64 s, .int .i64 d] w fun e w' => e = .returned (.int .u64 (putN s d 1 : Int)) ∧ Below w.heap.size w w'
def WithoutOk : Prop := ∀ (s : Nat) (d : Int) (w : World), s < 2 ^ 64 → (Lit.int .i64 d).wf = true →
  Calls Tryd.prog 18 #[.int .u64 s, .int .i64 d] w fun e w' => e = .returned (.int .u64 (putN s d 0 : Int)) ∧ Below w.heap.size w w'
def LenOk : Prop := ∀ (s : Nat) (w : World), s < 2 ^ 64 →
  Calls Tryd.prog 19 #[.int .u64 s] w fun e w' => e = .returned (.int .i64 ((allI s).length : Int)) ∧ Below w.heap.size w w'
def AllOk : Prop := ∀ (s : Nat) (w : World), s < 2 ^ 64 → Calls Tryd.prog 12 #[.int .u64 s] w (IntsEnd w (allI s))
def NextOk : Prop := ∀ (s : Nat) (d : Int) (w : World), Tab w → s < 2 ^ 64 → (Lit.int .i64 d).wf = true →
  Calls Tryd.prog 20 #[.int .u64 s, .int .i64 d] w fun e w' => e = .returned (.int .i64 (nextI s d)) ∧ Below w.heap.size w w'
def TextOk : Prop := ∀ (s : Nat) (n : Int) (w : World), s < 2 ^ 64 → (Lit.int .i64 n).wf = true →
  Calls Tryd.prog 24 #[.int .u64 s, .int .i64 n] w fun e w' => e = .returned (.string (textB s n)) ∧ Below w.heap.size w w'
def ParseOk : Prop := ∀ (t : ByteArray) (w : World), t.size ≤ maxLen →
  Calls Tryd.prog 26 #[.string t] w fun e w' => e = .returned (.tuple #[.int .u64 ((parseV t.data.toList).1 : Int), .int .i64 (parseV t.data.toList).2]) ∧ Below w.heap.size w w'
def OfOk : Prop := ∀ (A : Option Addr) (n c : Nat) (xs : List Int) (w : World), Ints w A n xs → n ≤ 1000 → (∀ k, -9223372036854775808 ≤ xs.getD k 0 ∧ xs.getD k 0 ≤ 9223372036854775807) →
  Calls Tryd.prog 23 #[.slice A n c] w fun e w' => e = .returned (.int .u64 (ofN xs : Int)) ∧ Below w.heap.size w w'
def BestOk : Prop := ∀ (A C : Option Addr) (n c m d : Nat) (ls ps : List Int) (w : World), Tab w → Nums .u64 w A n ls → Ints w C m ps → n ≤ 1000 → m ≤ 1000 → (∀ k, 0 ≤ ls.getD k 0 ∧ ls.getD k 0 ≤ 18446744073709551615) →
  (∀ k, -9223372036854775808 ≤ ps.getD k 0 ∧ ps.getD k 0 ≤ 9223372036854775807) →
  Calls Tryd.prog 28 #[.slice A n c, .slice C m d] w fun e w' => e = .returned (.tuple #[.int .i64 (bestI ls ps n).1, .int .i64 (bestI ls ps n).2]) ∧ Below w.heap.size w w'

theorem live2_ints (w : World) : Ints (w.alloc (.cells #[.int .i64 0, .int .i64 3] 3)) (some ⟨w.heap.size, 0, none⟩) 2 [0, 3] := by
  refine ⟨rfl, fun _ => ⟨_, _, rfl, fun k hk => ?_⟩⟩
  match k, hk with
  | 0, _ => simp [go_sem]
  | 1, _ => simp [go_sem]
theorem live2_of : ofN [0, 3] = 9 := by kernel_rfl
theorem live2_text : textB 9 5 = ⟨#[49, 48, 48, 49, 48]⟩ := by kernel_rfl
theorem live2_next : nextI 9 1 = 3 := by kernel_rfl

set_option maxHeartbeats 1000000 in
theorem lives2_any (HO : OfOk) (HT : TextOk) (HN : NextOk) (w : World) (ht : Tab w) : Calls Tryd.prog 22 #[] w fun e w' => e = .returned (.bool true) ∧ Below w.heap.size w w' := by
  have CO := fun (W : World) (c : Nat) (h : Ints W (some ⟨w.heap.size, 0, none⟩) 2 [0, 3]) => HO (some ⟨w.heap.size, 0, none⟩) 2 c [0, 3] W h (by decide) (by
    intro k
    match k with
    | 0 => decide
    | 1 => decide
    | k + 2 => simp)
  have CT := fun W => HT 9 5 W (by decide) (by decide)
  have CN := fun W hw => HN 9 1 W hw (by decide) (by decide)
  have TT := Go.Lib.hid ht
  rw [live2_of] at CO
  rw [live2_text] at CT
  rw [live2_next] at CN
  clear HO HT HN ht
  go_enter Tryd.func22, Tryd.ntmps22
  go_wp2_with (first
    | (go_at_call 23; refine (CO _ _ (live2_ints _)).mono ?_; rintro e w1 ⟨rfl, b1⟩; have CW := (below_alloc w (.cells #[.int .i64 0, .int .i64 3] 3)).trans (b1.mono (by simp)); clear b1)
    | (go_at_call 24; refine (CT _).mono ?_; rintro e w2 ⟨rfl, b2⟩; replace CW := CW.trans (b2.mono CW.size); clear b2)
    | (go_at_call 20; refine (CN _ (TT.out.keep CW)).mono ?_; rintro e w3 ⟨rfl, b3⟩; replace CW := CW.trans (b3.mono CW.size); clear b3))
  go_ret
  exact ⟨rfl, CW⟩
end Go.Proofs.YtmjogpbdgbgkhaaDoor
