/-
  slices.Clone of operations: a row of one's own.
-/
import Derived.Test.YtjmjjjehdgcnhaaR6
namespace Go.Proofs.Ytjmjjjehdgcnhaa
set_option linter.unusedVariables false
set_option linter.unusedSimpArgs false
open Go.RowKit Go.Lib

set_option maxRecDepth 100000 in
theorem cloneO_is (D : Nat) (w : World) (u : Value) (rd : List (MOp × Value)) (hu : w.ownsRow D 35 6 u rd.length (rowsV rd)) (hrd : ∀ r ∈ rd, ∃ a n c, r.2 = .slice a n c) (hlen : rd.length ≤ 1099511627776) :
    Calls Try.prog 7 #[u] w fun e w' => ∃ v', e = .returned v' ∧ w'.ownsRow w.heap.size 35 6 v' rd.length (rowsV rd) ∧ Below w.heap.size w w' := by
  have q22 : ∀ (w : World) (a : Option Addr) (n c n' c' : Nat), (binOp .eql 26 (.slice a n c) (.slice none n' c')).run Try.prog w = .ok (.bool a.isNone) w := fun w a n c n' c' => Lib.run_eql_slice_nil w _ _ a n c n' c' Try.underlying26
  rcases hu.2 with ⟨hv, hn⟩ | ⟨g, cap, cur, hv, hD, hh, h1, h2, h3, h4⟩
  · have e : rd = [] := List.length_eq_zero_iff.1 hn
    subst e
    subst hv
    have HU := hid hu
    clear hu
    go_enter Try.func7, Try.ntmps7
    go_wp2
    go_ret
    exact ⟨_, rfl, ⟨HU.out.1, .inl ⟨rfl, rfl⟩⟩, Below.refl _ _⟩
  · subst hv
    have HU := hid (own_same hu (w' := w.alloc (.cells #[] 35)) (fun g2 hg2 => by
      have := (own_block2 hu hg2).2
      rw [alloc_at, if_neg (by omega)]))
    clear hu hh h1 h2 h3 h4
    go_enter Try.func7, Try.ntmps7
    go_wp2_with (at_builtin; refine wpList_copyO w.heap.size D _ rfl _ _ rfl w.heap.size rfl ?q1 (Nat.le_refl _) _ rfl rd HU.out hrd hlen ?_)
    case q1 => rw [alloc_at, if_pos rfl]
    intro v' w1 hown hb
    go_wp2
    go_ret
    exact ⟨v', rfl, hown, ((Below.refl _ w).alloc (Nat.le_refl _) _).trans hb⟩
end Go.Proofs.Ytjmjjjehdgcnhaa
