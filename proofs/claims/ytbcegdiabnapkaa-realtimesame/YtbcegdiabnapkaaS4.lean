/-
  The library's symMergeCmpFunc: walked over any program that bears its body.
-/
import Derived.Test.YtbcegdiabnapkaaS3
namespace Go.Proofs.Ytbcegdiabnapkaa
set_option linter.unusedVariables false
set_option linter.unusedSimpArgs false
open Go.Shelf Go.RowKit Go.Lib Go.Sort
variable {P : Program} {α : Type} [Inhabited α]

theorem SortedIn.congr {lt : α → α → Bool} {a b : Nat} {d d' : Array α} (h : SortedIn lt a b d) (he : ∀ x, a ≤ x → x < b → d'[x]! = d[x]!) : SortedIn lt a b d' := fun i j h1 h2 h3 => by
  rw [he i h1 (by omega), he j (by omega) h3]
  exact h i j h1 h2 h3
theorem half_one {lt : α → α → Bool} {a s b : Nat} {d : Array α} (h1 : SortedIn lt a s d) (h2 : SortedIn lt s b d) (ha : a ≤ s) (hb : s ≤ b) (h : ¬ (a < s ∧ s < b)) : SortedIn lt a b d := by
  by_cases e : s = a
  · subst e; exact h2
  · have : s = b := by omega
    subst this
    exact h1

/-- A merge of smaller ranges. -/
def Smaller (P : Program) (enc : α → List Value) (k : Nat) (cf : α → α → Int) (g : Nat) (cb : Array Value) (blk off cap : Nat) (w0 : World) (size NN : Nat) : Prop :=
  ∀ (a m b : Nat) (dk : Array α) (wr : World), b - a < NN → a < m → m < b → b ≤ size → dk.size = size → SWK enc k w0 blk off dk wr → SortedIn (ltOf cf) a m dk → SortedIn (ltOf cf) m b dk →
    Calls P 58 #[.slice (some ⟨blk, off, none⟩) size cap, .int .i64 a, .int .i64 m, .int .i64 b, .func (.func g) #[] cb] wr fun e w' => e = .returned (.tuple #[]) ∧ MergePost enc k w0 blk off dk a b (ltOf cf) w'
theorem hid {p : Prop} (h : p) : Hid p := h
end Go.Proofs.Ytbcegdiabnapkaa
