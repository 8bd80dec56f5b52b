/-
  Places on a square spiral, plain: by bits of their parts, and as whole numbers; small laws on memory.
-/
import Derived.WalkKit
import Derived.ProofKit
import Derived.WalkLawsBesides
import Derived.Deep.AppendLies
import Derived.Deep.LoopGhost
import Derived.Deep.Draws
import Derived.Deep.RegionHeld3
import Derived.Deep.RegionLaw
import Derived.Deep.RegionWith
import Derived.Deep.QuietTactic
import Derived.BigQuiet
import Derived.Lib.Walk
import Derived.Lib.SmallJoins
import Derived.WalkSpells
import Derived.Test.YtcbflglnadmmfaaDoorProg
namespace Go.Proofs.YtcbflglnadmmfaaDoor
set_option linter.unusedVariables false
set_option linter.unusedSimpArgs false
open Go.RowKit

theorem hid {p : Prop} (h : p) : Hid p := h
theorem info_parts {P : Program} {t : TypeId} {z : Option Value} {s b : Nat} (h : (P.info? t).map (fun i => (i.zero, i.size, i.bytes)) = some (z, s, b)) : ∃ i, P.info? t = some i ∧ i.zero = z ∧ i.size = s ∧ i.bytes = b := by
  cases hi : P.info? t with
  | none => rw [hi] at h; cases h
  | some i => rw [hi] at h; simp at h; exact ⟨i, rfl, h.1, h.2.1, h.2.2⟩
theorem below_box (w : World) (o : Obj) : Below w.heap.size w (w.alloc o) := (Below.refl _ _).alloc (Nat.le_refl _) _
theorem blt {w : World} {b : Nat} {o : Obj} (h : w.heap[b]? = some o) : b < w.heap.size := (Array.getElem?_eq_some_iff.1 h).1
theorem own_same {B : Nat} {w w' : World} {e : TypeId} {z n : Nat} {v : Value} {xs : List Value} (h : w.ownsRow B e z v n xs) (hs : ∀ g, v.ownBlock = some g → w'.heap[g]? = w.heap[g]?) : w'.ownsRow B e z v n xs := by
  refine ⟨h.1, ?_⟩
  rcases h.2 with h1 | ⟨g, cap, cur, hv, hg, hh, hr⟩
  · exact .inl h1
  · exact .inr ⟨g, cap, cur, hv, hg, (hs g (by rw [hv]; rfl)).trans hh, hr⟩
theorem own_slice {B : Nat} {w : World} {e : TypeId} {z n : Nat} {v : Value} {xs : List Value} (h : w.ownsRow B e z v n xs) : ∃ a c, v = .slice a n c := by
  rcases h.2 with ⟨hv, hn⟩ | ⟨g, cap, cur, hv, _⟩
  · exact ⟨none, 0, by rw [hv, hn]⟩
  · exact ⟨_, cap, hv⟩
theorem own_block {B : Nat} {w : World} {e : TypeId} {z n g : Nat} {v : Value} {xs : List Value} (h : w.ownsRow B e z v n xs) (hg : v.ownBlock = some g) : B ≤ g ∧ g < w.heap.size ∧ ∃ cs, w.heap[g]? = some (.cells cs e) := by
  rcases h.2 with ⟨hv, hn⟩ | ⟨g', cap, cur, hv, hB, hh, hr⟩
  · rw [hv] at hg
    cases hg
  · rw [hv] at hg
    have : g' = g := by simpa [Value.ownBlock] using hg
    subst this
    exact ⟨hB, blt hh, _, hh⟩
theorem alloc_at (w : World) (o : Obj) (b : Nat) : (w.alloc o).heap[b]? = if b = w.heap.size then some o else w.heap[b]? := by
  show (w.heap.push o)[b]? = _
  rw [Array.getElem?_push]
theorem alloc_size (w : World) (o : Obj) : (w.alloc o).heap.size = w.heap.size + 1 := by
  show (w.heap.push o).size = _
  rw [Array.size_push]
theorem set_ne {w : World} {p : Addr} {v : Value} {g : Nat} (h : g ≠ p.block) : (w.setCell p v).heap[g]? = w.heap[g]? := by
  unfold World.setCell
  simp [Array.getElem?_modify]
  intro c
  exact absurd c.symm h
theorem own_mono {B B' : Nat} {w : World} {e : TypeId} {z n : Nat} {v : Value} {xs : List Value} (h : w.ownsRow B e z v n xs) (hB : B' ≤ B) : w.ownsRow B' e z v n xs := by
  refine ⟨h.1, ?_⟩
  rcases h.2 with h1 | ⟨g, cap, cur, hv, hg, hh, hr⟩
  · exact .inl h1
  · exact .inr ⟨g, cap, cur, hv, Nat.le_trans hB hg, hh, hr⟩
theorem push_b {B t : Nat} {W w1 w8 : World} {o : Obj} {v : Value} {z n : Nat} {xs : List Value} (hBW : B ≤ W.heap.size) (hB : Below B W w1) (hr : w1.ownsRow B t z v n xs) (hg : (w1.alloc o).grownBy w8 v.ownBlock) : Below B W w8 := by
  have h1 : w1.heap.size + 1 ≤ w8.heap.size := by have := hg.size; rw [alloc_size] at this; exact this
  have h0 := hB.size
  refine ⟨hg.os.trans hB.os, hg.tape.trans hB.tape, hg.output.trans hB.output, by omega, fun b hb => ?_⟩
  have hb1 : b < w1.heap.size := by omega
  refine (hg.block b (by rw [alloc_size]; omega) (fun e => ?_)).trans ((by rw [alloc_at, if_neg (by omega)] : (w1.alloc o).heap[b]? = w1.heap[b]?).trans (hB.block b hb))
  have := (own_block hr e.symm).1
  omega

/-! Plain. -/
/-- The bits of 1. -/
abbrev one : Nat := 4607182418800017408
/-- The bits of a whole number. -/
abbrev fb (n : Int) : Nat := floatOfInt .f64 n
/-- Where the walk stands, its step (both by bits), how many steps are left till it turns, how often it has turned. -/
abbrev Sp := (Nat × Nat) × (Nat × Nat) × Nat × Nat
abbrev Sp.ax (s : Sp) : Nat := s.1.1
abbrev Sp.ay (s : Sp) : Nat := s.1.2
abbrev Sp.sx (s : Sp) : Nat := s.2.1.1
abbrev Sp.sy (s : Sp) : Nat := s.2.1.2
abbrev Sp.left (s : Sp) : Nat := s.2.2.1
abbrev Sp.turns (s : Sp) : Nat := s.2.2.2
def spN (s : Sp) : Sp :=
  if s.left = 1 then ((cSumBits .add .f64 s.ax s.ay s.sx s.sy).getD (0, 0), (cMulBits s.sx s.sy 0 one).getD (0, 0), 1 + (s.turns + 1) / 2, s.turns + 1)
  else ((cSumBits .add .f64 s.ax s.ay s.sx s.sy).getD (0, 0), (s.sx, s.sy), s.left - 1, s.turns)
def spA : Nat → Sp
  | 0 => ((0, 0), (one, 0), 1, 0)
  | k + 1 => spN (spA k)
/-- The same in whole numbers. -/
abbrev Pp := (Int × Int) × (Int × Int) × Nat × Nat
def ppN (s : Pp) : Pp :=
  if s.2.2.1 = 1 then ((s.1.1 + s.2.1.1, s.1.2 + s.2.1.2), (-s.2.1.2, s.2.1.1), 1 + (s.2.2.2 + 1) / 2, s.2.2.2 + 1)
  else ((s.1.1 + s.2.1.1, s.1.2 + s.2.1.2), s.2.1, s.2.2.1 - 1, s.2.2.2)
def ppA : Nat → Pp
  | 0 => ((0, 0), (1, 0), 1, 0)
  | k + 1 => ppN (ppA k)
/-- The place of that number. -/
def plX (k : Nat) : Int := (ppA k).1.1
def plY (k : Nat) : Int := (ppA k).1.2
def okS (s : Sp) (p : Pp) : Bool :=
  (cSumBits .add .f64 s.ax s.ay s.sx s.sy).isSome && (cMulBits s.sx s.sy 0 one).isSome && decide (1 ≤ s.left) && decide (s.left ≤ 100) && decide (s.turns ≤ 100)
  && decide (s.ax = fb p.1.1) && decide (s.ay = fb p.1.2) && decide (s.left = p.2.2.1) && decide (s.turns = p.2.2.2)
  && decide (-10 ≤ p.1.1) && decide (p.1.1 ≤ 10) && decide (-10 ≤ p.1.2) && decide (p.1.2 ≤ 10)
def okAll : Nat → Sp → Pp → Bool
  | 0, s, p => okS s p
  | n + 1, s, p => okS s p && okAll n (spN s) (ppN p)
theorem okAll_at : ∀ (n : Nat) (s : Sp) (p : Pp), okAll n s p = true → okS s p = true ∧ (∀ m, n = m + 1 → okAll m (spN s) (ppN p) = true) := by
  intro n s p h
  cases n with
  | zero => exact ⟨h, fun m e => by cases e⟩
  | succ m =>
    simp only [okAll, Bool.and_eq_true] at h
    exact ⟨h.1, fun k e => by cases e; exact h.2⟩
theorem ok_all : okAll 100 (spA 0) (ppA 0) = true := by decide +kernel
theorem ok_k (k : Nat) (hk : k ≤ 100) : okAll (100 - k) (spA k) (ppA k) = true := by
  induction k with
  | zero => exact ok_all
  | succ j ih =>
    have := ih (by omega)
    obtain ⟨m, hm⟩ : ∃ m, 100 - j = m + 1 := ⟨100 - j - 1, by omega⟩
    have h2 := (okAll_at _ _ _ this).2 m hm
    have e : 100 - (j + 1) = m := by omega
    rw [e]
    exact h2
/-- What is known of the first hundred and one. -/
theorem sp_facts (k : Nat) (hk : k ≤ 100) :
    cSumBits .add .f64 (spA k).ax (spA k).ay (spA k).sx (spA k).sy = some ((spA (k + 1)).ax, (spA (k + 1)).ay)
    ∧ ((spA k).left = 1 → cMulBits (spA k).sx (spA k).sy 0 one = some ((spA (k + 1)).sx, (spA (k + 1)).sy) ∧ (spA (k + 1)).turns = (spA k).turns + 1 ∧ (spA (k + 1)).left = 1 + ((spA k).turns + 1) / 2)
    ∧ ((spA k).left ≠ 1 → (spA (k + 1)).sx = (spA k).sx ∧ (spA (k + 1)).sy = (spA k).sy ∧ (spA (k + 1)).turns = (spA k).turns ∧ (spA (k + 1)).left = (spA k).left - 1)
    ∧ 1 ≤ (spA k).left ∧ (spA k).left ≤ 100 ∧ (spA k).turns ≤ 100 ∧ (spA k).ax = fb (plX k) ∧ (spA k).ay = fb (plY k) := by
  have h := (okAll_at _ _ _ (ok_k k hk)).1
  simp only [okS, Bool.and_eq_true, decide_eq_true_eq] at h
  obtain ⟨⟨⟨⟨⟨⟨⟨⟨⟨⟨⟨⟨h1, h2⟩, h3⟩, h4⟩, h5⟩, h6⟩, h7⟩, h8⟩, h9⟩, h10⟩, h11⟩, h12⟩, h13⟩ := h
  obtain ⟨⟨x, y⟩, hxy⟩ := Option.isSome_iff_exists.1 h1
  obtain ⟨⟨u, v⟩, huv⟩ := Option.isSome_iff_exists.1 h2
  have e : spA (k + 1) = spN (spA k) := rfl
  refine ⟨?_, ?_, ?_, h3, h4, h5, h6, h7⟩
  · rw [e, hxy]
    unfold spN
    split <;> simp [hxy]
  · intro hl
    rw [e]
    unfold spN
    rw [if_pos hl]
    simp [huv]
  · intro hl
    rw [e]
    unfold spN
    rw [if_neg hl]
    simp
theorem pl_range (k : Nat) (hk : k ≤ 100) : -10 ≤ plX k ∧ plX k ≤ 10 ∧ -10 ≤ plY k ∧ plY k ≤ 10 := by
  have h := (okAll_at _ _ _ (ok_k k hk)).1
  simp only [okS, Bool.and_eq_true, decide_eq_true_eq] at h
  obtain ⟨⟨⟨⟨⟨⟨⟨⟨⟨⟨⟨⟨h1, h2⟩, h3⟩, h4⟩, h5⟩, h6⟩, h7⟩, h8⟩, h9⟩, h10⟩, h11⟩, h12⟩, h13⟩ := h
  exact ⟨h10, h11, h12, h13⟩
end Go.Proofs.YtcbflglnadmmfaaDoor
