/-
  Where the values of a list come from, in memory.
-/
import Derived.Test.YtnfbcmnlloipiaaLg1
namespace Go.Proofs.Ytnfbcmnlloipiaa
set_option linter.unusedVariables false
set_option linter.unusedSimpArgs false
open Go.RowKit Go.Lib Go.Maps

/-- A source: transaction, operation, has it failed, is it final. -/
abbrev MSrc := Nat × Nat × Bool × Bool
def srcV (x : MSrc) : Value := .agg #[.int .i64 x.1, .int .i64 x.2.1, .bool x.2.2.1, .bool x.2.2.2]
abbrev noSrc : MSrc := (0, 0, false, false)
theorem keys3 : Keyed Try.prog 3 := int_keyed Try.underlying3
theorem key3 (x : Int) (hx : (Lit.int .i64 x).wf = true) : keyOf Try.prog 3 (.int .i64 x) = some (.int .i64 x) := keyOf_int_mk Try.underlying3 hx
/-- Did nobody write x when the operation rj of the transaction ri read it? -/
def garB (f : Int → Option MSrc) (ri rj : Nat) (x : Int) : Bool := match f x with
  | none => true
  | some y => decide (y.1 = ri) && decide (rj < y.2.1)
theorem zeroS (w : World) : (zeroValue 123).run Try.prog w = .ok (srcV noSrc) w := by kernel_rfl
/-- The map of sources. -/
def Sc (w : World) (sb n : Nat) (f : Int → Option MSrc) : Prop := ∃ F, MapV w Try.prog 3 sb n F ∧ ∀ x, F (.int .i64 x) = (f x).map srcV
theorem Sc.made (w : World) : Sc (w.alloc (.map #[] 0)) w.heap.size 0 (fun _ => none) := ⟨_, MapV.made w Try.prog 3, fun _ => rfl⟩
theorem Sc.same {w w' : World} {sb n : Nat} {f : Int → Option MSrc} (h : Sc w sb n f) (hb : w'.heap[sb]? = w.heap[sb]?) : Sc w' sb n f := by
  obtain ⟨F, h1, h2⟩ := h
  exact ⟨F, h1.same hb, h2⟩
theorem Sc.look {w : World} {sb n : Nat} {f : Int → Option MSrc} (h : Sc w sb n f) (x : Int) (hx : (Lit.int .i64 x).wf = true) : (Instr.lookup 78 (.map (some sb)) (.int .i64 x) false).run Try.prog w = .ok (srcV ((f x).getD noSrc)) w := by
  obtain ⟨F, h1, h2⟩ := h
  rw [h1.look keys3 Try.underlying78 (zeroS w) (key3 x hx), h2 x]
  cases f x <;> rfl
theorem Sc.look_ok {w : World} {sb n : Nat} {f : Int → Option MSrc} (h : Sc w sb n f) (x : Int) (hx : (Lit.int .i64 x).wf = true) : (Instr.lookup 78 (.map (some sb)) (.int .i64 x) true).run Try.prog w = .ok (.tuple #[srcV ((f x).getD noSrc), .bool (f x).isSome]) w := by
  obtain ⟨F, h1, h2⟩ := h
  rw [h1.look_ok keys3 Try.underlying78 (zeroS w) (key3 x hx), h2 x]
  cases f x <;> rfl
theorem Sc.put {w : World} {sb n : Nat} {f : Int → Option MSrc} (h : Sc w sb n f) (hn : n < maxLen) (x : Int) (hx : (Lit.int .i64 x).wf = true) (y : MSrc) : ∃ w', (Instr.mapUpdate 78 (.map (some sb)) (.int .i64 x) (srcV y)).run Try.prog w = .ok () w' ∧ Sc w' sb (n + 1) (fun z => if z = x then some y else f z) ∧ w.grownBy w' (some sb) := by
  obtain ⟨F, h1, h2⟩ := h
  obtain ⟨w', g, r1, hp, r2, r3⟩ := h1.put keys3 Try.underlying78 hn (srcV y) (key3 x hx)
  refine ⟨w', r1, ⟨g, r2, fun z => ?_⟩, r3⟩
  by_cases e : z = x
  · subst e
    show g _ = Option.map srcV (if z = z then some y else f z)
    rw [hp.1, if_pos rfl]
    rfl
  · show g _ = Option.map srcV (if z = x then some y else f z)
    rw [hp.2 (.int .i64 z) (fun c => e (by injection c)), h2 z, if_neg e]
/-! The closures of garbage and aborted. -/
set_option maxHeartbeats 2000000 in
set_option maxRecDepth 100000 in
theorem aborted1_is (cb kb sb n : Nat) (f : Int → Option MSrc) (x : Int) (hx : (Lit.int .i64 x).wf = true) (w : World) (hc : w.cell? ⟨cb, 0, none⟩ = some (.pointer (some ⟨kb, 0, none⟩))) (h5 : w.cell? ⟨kb, 5, none⟩ = some (.map (some sb))) (hs : Sc w sb n f) : Calls Try.prog 87 #[.int .i64 x, .pointer (some ⟨cb, 0, none⟩)] w fun e w' => e = .returned (.bool ((f x).getD noSrc).2.2.1) ∧ w = w' := by
  have LK := hs.look x hx
  clear hs
  generalize (f x).getD noSrc = y at *
  obtain ⟨y1, y2, y3, y4⟩ := y
  simp only [srcV] at LK
  have FL : ∀ W, (Instr.field 123 (.agg #[.int .i64 y1, .int .i64 y2, .bool y3, .bool y4]) 2).run Try.prog W = .ok (.bool y3) W := fun W => by kernel_rfl
  go_enter Try.func87, Try.ntmps87
  go_wp2_with fail
  go_ret
  exact ⟨rfl, rfl⟩
set_option maxHeartbeats 4000000 in
set_option maxRecDepth 100000 in
theorem garbage1_is (cb kb rb sb n ri rj : Nat) (f : Int → Option MSrc) (x : Int) (hx : (Lit.int .i64 x).wf = true) (w : World) (hc : w.cell? ⟨cb, 0, none⟩ = some (.pointer (some ⟨kb, 0, none⟩))) (h5 : w.cell? ⟨kb, 5, none⟩ = some (.map (some sb))) (hs : Sc w sb n f) (r0 : w.cell? ⟨rb, 0, none⟩ = some (.int .i64 ri)) (r1 : w.cell? ⟨rb, 1, none⟩ = some (.int .i64 rj)) : Calls Try.prog 86 #[.int .i64 x, .pointer (some ⟨cb, 0, none⟩), .pointer (some ⟨rb, 0, none⟩)] w fun e w' => e = .returned (.bool (garB f ri rj x)) ∧ Below w.heap.size w w' := by
  have LK := hs.look_ok x hx
  clear hs
  have hrb : rb < w.heap.size := World.block_lt_of_cell? _ _ r0
  have hrn : ¬ (rb = w.heap.size) := by omega
  have q0 : ∀ o, (w.alloc o).cell? ⟨rb, 0, none⟩ = some (.int .i64 ri) := fun o => Lib.cell?_alloc_some _ r0
  have q1 : ∀ o, (w.alloc o).cell? ⟨rb, 1, none⟩ = some (.int .i64 rj) := fun o => Lib.cell?_alloc_some _ r1
  cases hf : f x with
  | none =>
    have HG : Hid (garB f ri rj x = true) := by show _ = _; simp [garB, hf]
    rw [hf] at LK
    simp only [Option.getD, Option.isSome, srcV] at LK
    clear hf
    go_enter Try.func86, Try.ntmps86
    go_wp2_with fail
    go_ret
    exact ⟨by rw [HG.out]; rfl, below_box w _⟩
  | some y =>
    obtain ⟨y1, y2, y3, y4⟩ := y
    have HG : Hid (garB f ri rj x = (decide (y1 = ri) && decide (rj < y2))) := by show _ = _; simp [garB, hf]
    rw [hf] at LK
    simp only [Option.getD, Option.isSome, srcV] at LK
    clear hf
    by_cases e1 : y1 = ri
    · have e1b : ((y1 : Int) == (ri : Int)) = true := by simp [e1]
      by_cases e2 : rj < y2
      · have e2b : (rj : Int) < (y2 : Int) := by omega
        have HE : Hid (garB f ri rj x = true) := by show _ = _; rw [HG.out]; simp [e1, e2]
        clear e1 e2 HG
        go_enter Try.func86, Try.ntmps86
        go_wp2_with fail
        go_ret
        exact ⟨by rw [HE.out]; rfl, below_box w _⟩
      · have e2b : ¬ (rj : Int) < (y2 : Int) := by omega
        have HE : Hid (garB f ri rj x = false) := by show _ = _; rw [HG.out]; simp [e1, e2]
        clear e1 e2 HG
        go_enter Try.func86, Try.ntmps86
        go_wp2_with fail
        go_ret
        exact ⟨by rw [HE.out]; rfl, below_box w _⟩
    · have e1b : ((y1 : Int) == (ri : Int)) = false := by simp; omega
      have HE : Hid (garB f ri rj x = false) := by show _ = _; rw [HG.out]; simp [e1]
      clear e1 HG
      go_enter Try.func86, Try.ntmps86
      go_wp2_with fail
      go_ret
      exact ⟨by rw [HE.out]; rfl, below_box w _⟩
end Go.Proofs.Ytnfbcmnlloipiaa
