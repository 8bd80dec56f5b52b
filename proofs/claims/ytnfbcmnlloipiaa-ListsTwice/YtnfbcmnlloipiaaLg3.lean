/-
  The first value of a list with something wrong: slices.IndexFunc with the closures of garbage and aborted.
-/
import Derived.Test.YtnfbcmnlloipiaaLg2
namespace Go.Proofs.Ytnfbcmnlloipiaa
set_option linter.unusedVariables false
set_option linter.unusedSimpArgs false
open Go.RowKit Go.Lib Go.Maps

/-- The first place at which p holds, or -1. -/
def IsIdx (p : Int → Bool) (xs : List Int) (r : Int) : Prop := (r = -1 ∧ ∀ j, j < xs.length → p (xs.getD j default) = false) ∨ ∃ k, k < xs.length ∧ r = (k : Int) ∧ p (xs.getD k default) = true ∧ ∀ j, j < k → p (xs.getD j default) = false
/-- Does x come from a transaction that failed? -/
def abrB (f : Int → Option MSrc) (x : Int) : Bool := ((f x).getD noSrc).2.2.1
/-- What a closure of a find sees. -/
structure Sees (w : World) (cb kb rb sb n ri rj : Nat) (f : Int → Option MSrc) : Prop where
  hc : w.cell? ⟨cb, 0, none⟩ = some (.pointer (some ⟨kb, 0, none⟩))
  h5 : w.cell? ⟨kb, 5, none⟩ = some (.map (some sb))
  hs : Sc w sb n f
  r0 : w.cell? ⟨rb, 0, none⟩ = some (.int .i64 ri)
  r1 : w.cell? ⟨rb, 1, none⟩ = some (.int .i64 rj)
theorem Sees.later {w w' : World} {cb kb rb sb n ri rj : Nat} {f : Int → Option MSrc} (h : Sees w cb kb rb sb n ri rj f) (hb : Below w.heap.size w w') : Sees w' cb kb rb sb n ri rj f := by
  obtain ⟨F, h1, h2⟩ := h.hs
  exact ⟨(hb.cell (p := ⟨cb, 0, none⟩) (World.block_lt_of_cell? _ _ h.hc)).trans h.hc, (hb.cell (p := ⟨kb, 5, none⟩) (World.block_lt_of_cell? _ _ h.h5)).trans h.h5, h.hs.same (hb.block sb h1.lt), (hb.cell (p := ⟨rb, 0, none⟩) (World.block_lt_of_cell? _ _ h.r0)).trans h.r0, (hb.cell (p := ⟨rb, 1, none⟩) (World.block_lt_of_cell? _ _ h.r1)).trans h.r1⟩
set_option maxHeartbeats 4000000 in
set_option maxRecDepth 100000 in
theorem idx_44 (cb kb rb sb n ri rj : Nat) (f : Int → Option MSrc) {S : Nat → Prop} (v : Value) (xs : List Int) (w : World) (h : IntsIn S w v xs) (hw : ∀ x ∈ xs, (Lit.int .i64 x).wf = true) (hs : Sees w cb kb rb sb n ri rj f) : Calls Try.prog 85 #[v, .func (.func 87) #[] #[.pointer (some ⟨cb, 0, none⟩)]] w fun e w' => ∃ r, e = .returned (.int .i64 r) ∧ IsIdx (abrB f) xs r ∧ Below w.heap.size w w' := by
  obtain ⟨ao, c, rfl, ⟨hbytes, _⟩, hcells⟩ := h
  have H := hid hs
  have HW := hid hw
  have HC := hid hcells
  have CL : Hid (∀ (x : Int) (hx : (Lit.int .i64 x).wf = true) (W : World), Sees W cb kb rb sb n ri rj f → Calls Try.prog 87 #[.int .i64 x, .pointer (some ⟨cb, 0, none⟩)] W fun e w' => e = .returned (.bool ((abrB f) x)) ∧ Below W.heap.size W w') := fun x hx => (fun W S => (aborted1_is cb kb sb n f _ hx W S.hc S.h5 S.hs).mono (fun e w' h => ⟨h.1, by rw [h.2]; exact Below.refl _ _⟩))
  clear hs hw hcells
  have hli : (xs.length : Int) ≤ 17592186044416 := by omega
  go_enter Try.func85, Try.ntmps85
  go_wp2_with fail
  go_loopg [5, 8] xs.length (fun g _ i wr => ∃ k : Nat, k ≤ xs.length ∧ xs.length - k ≤ g ∧ i = .int .i64 k ∧ Aside (Below w.heap.size w wr) ∧ Aside (∀ j, j < k → (abrB f) (xs.getD j default) = false))
  case atStart => exact ⟨0, by omega, by omega, rfl, Below.refl _ _, (show Aside _ from fun j hj => by omega)⟩
  case round =>
    obtain ⟨k, hk, hg, rfl, BW, AL⟩ := hrel
    by_cases hlt : k < xs.length
    · have hlti : (k : Int) < xs.length := by omega
      obtain ⟨b, off, rfl, _, hc⟩ := HC.out (by omega)
      have x0 := hc k hlt
      have hbl := World.block_lt_of_cell? _ _ x0
      have x1 := (BW.out.cell (p := ⟨b, off + k, none⟩) hbl).trans x0
      have hx : (Lit.int .i64 (xs.getD k default)).wf = true := HW.out _ (by simp [List.getD, List.getElem?_eq_getElem hlt])
      have CK := hid (CL.out _ hx wr (H.out.later BW.out))
      clear x0 hc
      have A2 := AL
      generalize hX : xs.getD k default = X at x1 CK hx
      have HX := hid hX
      clear hX
      generalize hB : (abrB f) X = bb at CK
      have HB := hid hB
      clear hB
      cases bb with
      | true =>
        go_wp2_with (refine CK.out.mono ?_; rintro e w1 ⟨rfl, b1⟩; have B1 := hid b1; clear b1)
        go_ret
        exact ⟨_, rfl, .inr ⟨k, hlt, rfl, by rw [HX.out]; exact HB.out, A2.out⟩, BW.out.trans (B1.out.mono BW.out.size)⟩
      | false =>
        go_wp2_with (refine CK.out.mono ?_; rintro e w1 ⟨rfl, b1⟩; have B1 := hid b1; clear b1)
        go_roundg (xs.length - (k + 1))
        case measure => omega
        case rel =>
          refine ⟨k + 1, by omega, by omega, by go_num, BW.out.trans (B1.out.mono BW.out.size), (show Aside _ from fun j hj => ?_)⟩
          by_cases e : j = k
          · subst e; rw [HX.out]; exact HB.out
          · exact A2.out j (by omega)
    · have hke : k = xs.length := by omega
      have hlti : ¬ (k : Int) < xs.length := by omega
      go_wp2_with fail
      go_ret
      exact ⟨_, rfl, .inl ⟨rfl, fun j hj => AL.out j (by omega)⟩, BW.out⟩
set_option maxHeartbeats 4000000 in
set_option maxRecDepth 100000 in
theorem idx_43 (cb kb rb sb n ri rj : Nat) (f : Int → Option MSrc) {S : Nat → Prop} (v : Value) (xs : List Int) (w : World) (h : IntsIn S w v xs) (hw : ∀ x ∈ xs, (Lit.int .i64 x).wf = true) (hs : Sees w cb kb rb sb n ri rj f) : Calls Try.prog 85 #[v, .func (.func 86) #[] #[.pointer (some ⟨cb, 0, none⟩), .pointer (some ⟨rb, 0, none⟩)]] w fun e w' => ∃ r, e = .returned (.int .i64 r) ∧ IsIdx (garB f ri rj) xs r ∧ Below w.heap.size w w' := by
  obtain ⟨ao, c, rfl, ⟨hbytes, _⟩, hcells⟩ := h
  have H := hid hs
  have HW := hid hw
  have HC := hid hcells
  have CL : Hid (∀ (x : Int) (hx : (Lit.int .i64 x).wf = true) (W : World), Sees W cb kb rb sb n ri rj f → Calls Try.prog 86 #[.int .i64 x, .pointer (some ⟨cb, 0, none⟩), .pointer (some ⟨rb, 0, none⟩)] W fun e w' => e = .returned (.bool ((garB f ri rj) x)) ∧ Below W.heap.size W w') := fun x hx => (fun W S => garbage1_is cb kb rb sb n ri rj f _ hx W S.hc S.h5 S.hs S.r0 S.r1)
  clear hs hw hcells
  have hli : (xs.length : Int) ≤ 17592186044416 := by omega
  go_enter Try.func85, Try.ntmps85
  go_wp2_with fail
  go_loopg [5, 8] xs.length (fun g _ i wr => ∃ k : Nat, k ≤ xs.length ∧ xs.length - k ≤ g ∧ i = .int .i64 k ∧ Aside (Below w.heap.size w wr) ∧ Aside (∀ j, j < k → (garB f ri rj) (xs.getD j default) = false))
  case atStart => exact ⟨0, by omega, by omega, rfl, Below.refl _ _, (show Aside _ from fun j hj => by omega)⟩
  case round =>
    obtain ⟨k, hk, hg, rfl, BW, AL⟩ := hrel
    by_cases hlt : k < xs.length
    · have hlti : (k : Int) < xs.length := by omega
      obtain ⟨b, off, rfl, _, hc⟩ := HC.out (by omega)
      have x0 := hc k hlt
      have hbl := World.block_lt_of_cell? _ _ x0
      have x1 := (BW.out.cell (p := ⟨b, off + k, none⟩) hbl).trans x0
      have hx : (Lit.int .i64 (xs.getD k default)).wf = true := HW.out _ (by simp [List.getD, List.getElem?_eq_getElem hlt])
      have CK := hid (CL.out _ hx wr (H.out.later BW.out))
      clear x0 hc
      have A2 := AL
      generalize hX : xs.getD k default = X at x1 CK hx
      have HX := hid hX
      clear hX
      generalize hB : (garB f ri rj) X = bb at CK
      have HB := hid hB
      clear hB
      cases bb with
      | true =>
        go_wp2_with (refine CK.out.mono ?_; rintro e w1 ⟨rfl, b1⟩; have B1 := hid b1; clear b1)
        go_ret
        exact ⟨_, rfl, .inr ⟨k, hlt, rfl, by rw [HX.out]; exact HB.out, A2.out⟩, BW.out.trans (B1.out.mono BW.out.size)⟩
      | false =>
        go_wp2_with (refine CK.out.mono ?_; rintro e w1 ⟨rfl, b1⟩; have B1 := hid b1; clear b1)
        go_roundg (xs.length - (k + 1))
        case measure => omega
        case rel =>
          refine ⟨k + 1, by omega, by omega, by go_num, BW.out.trans (B1.out.mono BW.out.size), (show Aside _ from fun j hj => ?_)⟩
          by_cases e : j = k
          · subst e; rw [HX.out]; exact HB.out
          · exact A2.out j (by omega)
    · have hke : k = xs.length := by omega
      have hlti : ¬ (k : Int) < xs.length := by omega
      go_wp2_with fail
      go_ret
      exact ⟨_, rfl, .inl ⟨rfl, fun j hj => AL.out j (by omega)⟩, BW.out⟩
end Go.Proofs.Ytnfbcmnlloipiaa
