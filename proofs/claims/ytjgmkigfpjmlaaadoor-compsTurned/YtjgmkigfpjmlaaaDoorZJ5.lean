/-
  The document's graphs: Turn.
-/
import Derived.Test.YtjgmkigfpjmlaaaDoorZJ4
namespace Go.Proofs.YtjgmkigfpjmlaaaDoor
set_option linter.unusedVariables false
set_option linter.unusedSimpArgs false
open Go.RowKit

/-- All blocks but those of type T stay. -/
def Stay (T : TypeId) (w w' : World) : Prop := ∀ (x : Nat) (cs : Array Value) (t : TypeId), w.heap[x]? = some (.cells cs t) → t ≠ T → w'.heap[x]? = some (.cells cs t)
theorem EdgesIn.stay {B : Nat} {w w' : World} {v : Value} {l : List (Nat × Nat × Nat)} {T : TypeId} (h : EdgesIn B w v l) (hs : Stay T w w') (hT : T ≠ 45) : EdgesIn B w' v l := by
  refine ⟨h.1, ?_⟩
  rcases h.2 with h1 | ⟨g, cap, cur, hv, hB, hg, h2⟩
  · exact .inl h1
  · exact .inr ⟨g, cap, cur, hv, hB, hs _ _ _ hg (fun e => hT e.symm), h2⟩
set_option maxRecDepth 100000 in
theorem rstep (b n : Nat) (v : Value) (rw' : Nat → Nat) (L : Nat → Nat → Nat) (f t x : Nat) (H : Nat) (w : World) (h : RefG w b n v rw' L) (hlow : ∀ i, i < n → H ≤ rw' i) (hs : H ≤ w.heap.size) :
    Calls Tryd.prog 23 #[.pointer (some ⟨b, 0, none⟩), .int .i64 f, .int .i64 t, .int .i64 x] w fun e w' => (∃ y, e = .returned (.int .i64 y)) ∧ RefG w' b n v rw' (stepE n L (f, t, x)) ∧ Below H w w' ∧ Stay 3 w w' := by
  by_cases hw : addWhy n (f : Int) (t : Int) (x : Int) = 0
  · obtain ⟨F, T, X, e1, e2, e3, hF, hT, hX1, hX, hne⟩ := addWhy_0 hw
    obtain rfl : f = F := by omega
    obtain rfl : t = T := by omega
    obtain rfl : x = X := by omega
    have e : stepE n L (f, t, x) = addL L f t x 4 := by unfold stepE; rw [if_pos hw]
    rw [e]
    refine (rgadd_ok b n v rw' L f t x w h hF hT hX1 hX hne).mono ?_
    rintro e w' ⟨rfl, s, bs, z⟩
    exact ⟨⟨_, rfl⟩, s, bs.below (hlow f hF) hs, fun x cs t hx ht => h.at hF bs hx ht⟩
  · have e : stepE n L (f, t, x) = L := by unfold stepE; rw [if_neg hw]
    rw [e]
    refine (rgadd_no b n v rw' L f t x w h hw).mono ?_
    rintro e w' ⟨rfl, rfl⟩
    exact ⟨⟨_, rfl⟩, h, Below.refl _ _, fun x cs t hx _ => hx⟩
theorem fold_take {γ : Nat × Nat × Nat → Nat × Nat × Nat} {n : Nat} {L0 : Nat → Nat → Nat} {l : List (Nat × Nat × Nat)} {j : Nat} (hj : j < l.length) : (((l.take (j + 1)).map γ).foldl (stepE n) L0) = stepE n (((l.take j).map γ).foldl (stepE n) L0) (γ (l.getD j (0, 0, 0))) := by
  rw [List.take_add_one]
  have e : l[j]? = some (l.getD j (0, 0, 0)) := by simp [List.getD, hj]
  rw [e, List.map_append, List.foldl_append]
  rfl
end Go.Proofs.YtjgmkigfpjmlaaaDoor
