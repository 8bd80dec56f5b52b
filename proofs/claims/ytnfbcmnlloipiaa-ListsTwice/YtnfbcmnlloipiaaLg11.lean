/-
  The five finds, each as what it tells of a read.
-/
import Derived.Test.YtnfbcmnlloipiaaLg10
namespace Go.Proofs.Ytnfbcmnlloipiaa
set_option linter.unusedVariables false
set_option linter.unusedSimpArgs false
open Go.RowKit Go.Lib Go.Maps

/-- What a find answers: kind, other, value. -/
def tellV : Option (Int × Int × Int) → Value
  | none => .tuple #[an0, .bool false]
  | some a => .tuple #[anV a.1 a.2.1 a.2.2, .bool true]
theorem find_none' {α : Type} (p : α → Bool) (d : α) : ∀ (l : List α), (∀ j, j < l.length → p (l.getD j d) = false) → l.find? p = none := fun l h => by
  rw [List.find?_eq_none]
  intro x hx
  obtain ⟨j, hj, rfl⟩ := List.mem_iff_getElem.1 hx
  have := h j hj
  simp [List.getD, List.getElem?_eq_getElem hj] at this
  simp [this]
theorem find_some' {α : Type} (p : α → Bool) (d : α) : ∀ (l : List α) (k : Nat), k < l.length → p (l.getD k d) = true → (∀ j, j < k → p (l.getD j d) = false) → l.find? p = some (l.getD k d)
  | [], k, hk, _, _ => by simp at hk
  | x :: l, 0, _, h1, _ => by
    have : p x = true := h1
    simp [List.find?, this]
  | x :: l, k + 1, hk, h1, h2 => by
    have h0 : p x = false := h2 0 (by omega)
    have q := find_some' p d l k (by simpa using hk) h1 (fun j hj => h2 (j + 1) (by omega))
    simp only [List.find?, h0]
    exact q
theorem Found.find {p : Int → Bool} {xs : List Int} {kd : Int} {oth : Int → Int} {e : Ending} (h : Found p xs kd oth e) : e = .returned (tellV ((xs.find? p).map fun x => (kd, oth x, x))) := by
  rcases h with ⟨h, rfl⟩ | ⟨k, hk, h1, h2, rfl⟩
  · rw [find_none' p default xs h]
    rfl
  · rw [find_some' p default xs k hk h1 h2]
    rfl
theorem FoundK.find {p : Nat → Bool} {xs : List Int} {kd : Int} {e : Ending} (h : FoundK p xs kd e) : e = .returned (tellV (((List.range xs.length).find? p).map fun k => (kd, 0, xs.getD k default))) := by
  have g : ∀ j, j < xs.length → (List.range xs.length).getD j 0 = j := fun j hj => by simp [List.getD, hj]
  rcases h with ⟨h, rfl⟩ | ⟨k, hk, h1, h2, rfl⟩
  · rw [find_none' p 0 _ (fun j hj => by simp at hj; rw [g j hj]; exact h j hj)]
    rfl
  · rw [find_some' p 0 (List.range xs.length) k (by simpa using hk) (by rw [g k hk]; exact h1) (fun j hj => by rw [g j (by omega)]; exact h2 j hj), g k hk]
    rfl
/-- What a look knows, for a find. -/
structure Knw where
  f : Int → Option MSrc
  ti : Nat
  ts : List Int
/-- What the find of number i tells of a read. -/
def findM (K : Knw) (ri rj : Nat) (xs : List Int) : Nat → Option (Int × Int × Int)
  | 0 => ((List.range xs.length).find? (twB xs)).map fun k => (3, 0, xs.getD k default)
  | 1 => (xs.find? (garB K.f ri rj)).map fun x => (2, 0, x)
  | 2 => (xs.find? (abrB K.f)).map fun x => (5, (((K.f x).getD noSrc).1 : Int), x)
  | 3 => if xs.length = 0 then none else match K.f (xs.getD (xs.length - 1) default) with
    | none => none
    | some y => if y.2.2.2 = true ∨ y.1 = ri then none else some (6, (y.1 : Int), xs.getD (xs.length - 1) default)
  | _ => if xs = K.ts.take xs.length then none else some (4, (K.ti : Int), 0)
set_option maxRecDepth 100000 in
set_option maxHeartbeats 2000000 in
theorem middle_e (kb ri rj : Nat) (la : Option Addr) (lc : Nat) (w : World) : Calls Try.prog 73 #[.pointer (some ⟨kb, 0, none⟩), .agg #[.int .i64 ri, .int .i64 rj, .slice la 0 lc]] w fun e w' => e = .returned (.tuple #[an0, .bool false]) ∧ Below w.heap.size w w' := by
  go_enter Try.func73, Try.ntmps73
  go_wp2_with (go_at_call 78; refine (last_0 _ _ _).mono ?_; rintro e w1 ⟨rfl, rfl⟩)
  exact bodyPost_ret (v := .tuple #[an0, .bool false]) (by simp [results, Try.results73, go_sem]) rfl ⟨rfl, (below_box w _).alloc (by rw [alloc_size]; omega) _⟩
/-- The find of number i. -/
theorem find_is (K : Knw) (kb sb n ri rj : Nat) {S S' : Nat → Prop} (la ta : Option Addr) (lc tc : Nat) (xs : List Int) (w : World) (h : IntsIn S w (.slice la xs.length lc) xs) (hw : ∀ x ∈ xs, (Lit.int .i64 x).wf = true) (ht : IntsIn S' w (.slice ta K.ts.length tc) K.ts) (hle : xs.length ≤ K.ts.length) (h2 : w.cell? ⟨kb, 2, none⟩ = some (.int .i64 K.ti)) (h4 : w.cell? ⟨kb, 4, none⟩ = some (.slice ta K.ts.length tc)) (h5 : w.cell? ⟨kb, 5, none⟩ = some (.map (some sb))) (hs : Sc w sb n K.f) (i : Nat) (hi : i < 5) : Calls Try.prog (70 + i) #[.pointer (some ⟨kb, 0, none⟩), .agg #[.int .i64 ri, .int .i64 rj, .slice la xs.length lc]] w fun e w' => e = .returned (tellV (findM K ri rj xs i)) ∧ Below w.heap.size w w' := by
  have hi5 : i = 0 ∨ i = 1 ∨ i = 2 ∨ i = 3 ∨ i = 4 := by omega
  rcases hi5 with rfl | rfl | rfl | rfl | rfl
  · exact (twice_is kb ri rj la lc xs w h hw).mono (fun e w' q => ⟨q.1.find, q.2⟩)
  · exact (garbage_is kb sb n ri rj K.f la lc xs w h hw h5 hs).mono (fun e w' q => ⟨q.1.find, q.2⟩)
  · exact (aborted_is kb sb n ri rj K.f la lc xs w h hw h5 hs).mono (fun e w' q => ⟨q.1.find, q.2⟩)
  · by_cases h0 : xs.length = 0
    · have e0 : findM K ri rj xs 3 = none := by simp [findM, h0]
      rw [e0, h0]
      exact middle_e kb ri rj la lc w
    · have hp : 0 < xs.length := by omega
      cases hf : K.f (xs.getD (xs.length - 1) default) with
      | none =>
        have e0 : findM K ri rj xs 3 = none := by simp only [findM, if_neg h0, hf]
        rw [e0]
        exact middle_none kb sb n ri rj K.f la lc xs w h hw h5 hs hp hf
      | some y =>
        obtain ⟨y1, y2, y3, y4⟩ := y
        cases y4 with
        | true =>
          have e0 : findM K ri rj xs 3 = none := by
            simp only [findM, if_neg h0, hf]
            rw [if_pos (.inl trivial)]
          rw [e0]
          exact middle_final kb sb n ri rj K.f la lc xs w h hw h5 hs hp y1 y2 y3 hf
        | false =>
          by_cases e : y1 = ri
          · subst e
            have e0 : findM K y1 rj xs 3 = none := by
              simp only [findM, if_neg h0, hf]
              rw [if_pos (.inr trivial)]
            rw [e0]
            exact middle_same kb sb n y1 rj K.f la lc xs w h hw h5 hs hp y2 y3 hf
          · have e0 : findM K ri rj xs 3 = some (6, (y1 : Int), xs.getD (xs.length - 1) default) := by
              simp only [findM, if_neg h0, hf]
              rw [if_neg (by simp [e])]
            rw [e0]
            exact middle_loud kb sb n ri rj K.f la lc xs w h hw h5 hs hp y1 y2 y3 hf e
  · by_cases hq : xs = K.ts.take xs.length
    · have e0 : findM K ri rj xs 4 = none := if_pos hq
      rw [e0]
      exact fork_no kb ri rj K.ti la ta lc tc xs K.ts w h ht hle h2 h4 hq
    · have e0 : findM K ri rj xs 4 = some (4, (K.ti : Int), 0) := if_neg hq
      rw [e0]
      exact fork_yes kb ri rj K.ti la ta lc tc xs K.ts w h ht hle h2 h4 hq
end Go.Proofs.Ytnfbcmnlloipiaa
