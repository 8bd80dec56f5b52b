/-
  slices.Contains of numbers; arrays of two strings as keys; the final writes counted.
-/
import Derived.Test.YtadlnkaphkbfdaaIn33
namespace Go.Proofs.Ytadlnkaphkbfdaa
set_option linter.unusedVariables false
set_option linter.unusedSimpArgs false
open Go.RowKit Go.Lib Go.Maps

/-- How many of the k numbers from i on have a property. -/
def ct (P : Nat → Bool) : Nat → Nat → Nat
  | _, 0 => 0
  | i, k + 1 => (if P i = true then 1 else 0) + ct P (i + 1) k
theorem ct_range (P : Nat → Bool) : ∀ (k i : Nat), ((List.range' i k).filter P).length = ct P i k
  | 0, i => rfl
  | k + 1, i => by
    rw [List.range'_succ, List.filter_cons]
    have ih := ct_range P k (i + 1)
    unfold ct
    by_cases h : P i = true
    · rw [if_pos h, if_pos h, List.length_cons, ih]; omega
    · rw [if_neg h, if_neg h, ih]; omega
theorem fins_len (l : List MOp) : (finsL l).length = ct (finB l) 0 l.length := by
  unfold finsL
  rw [List.length_map, List.range_eq_range', ← ct_range]

/-- What a row of numbers holds. -/
theorem IR.cells {B : Nat} {w : World} {v : Value} {p : List Int} (h : IR B w v p) : ∃ ao c, v = .slice ao p.length c ∧ p.length ≤ c ∧ ∀ j, j < p.length → ∃ g, ao = some ⟨g, 0, none⟩ ∧ w.cell? ⟨g, j, none⟩ = some (.int .i64 (p.getD j 0)) := by
  rcases h.2 with ⟨rfl, hn⟩ | ⟨g, cap, cur, rfl, hg, hh, h1, h2, h3, h4⟩
  · exact ⟨none, 0, by rw [hn], by omega, fun j hj => by omega⟩
  · refine ⟨some ⟨g, 0, none⟩, cap, rfl, h1, fun j hj => ⟨g, rfl, ?_⟩⟩
    rw [Lib.cell_of_heap hh, ← Array.getElem?_toList]
    have e : (cur.toList.take (p.length * 1))[j]? = some (.int .i64 (p.getD j 0)) := by
      rw [h4, List.getElem?_map, List.getElem?_eq_getElem hj]
      simp [List.getD, List.getElem?_eq_getElem hj]
    rw [List.getElem?_take, if_pos (by omega)] at e
    exact e

set_option maxHeartbeats 1000000 in
theorem indexI_is {B : Nat} (v : Value) (p : List Int) (x : Int) (w : World) (h : IR B w v p) (hlen : p.length ≤ 9223372036854775807) :
    Calls Try.prog 46 #[v, .int .i64 x] w fun e w' => (∃ r : Int, e = .returned (.int .i64 r) ∧ (0 ≤ r ↔ x ∈ p)) ∧ w = w' := by
  obtain ⟨ao, c, rfl, -, hc⟩ := h.cells
  have HC := hid hc
  clear h hc
  go_enter Try.func46, Try.ntmps46
  go_wp2_with fail
  go_loopg [5, 8] p.length (fun g _ i wr => ∃ k : Nat, k ≤ p.length ∧ p.length - k ≤ g ∧ i = .int .i64 k ∧ wr = w ∧ Aside (∀ j, j < k → x ≠ p.getD j 0))
  case atStart => exact ⟨0, Nat.zero_le _, by omega, rfl, rfl, fun j hj => absurd hj (Nat.not_lt_zero _)⟩
  case round =>
    obtain ⟨k, hk, hg, rfl, rfl, A⟩ := hrel
    by_cases hlt : k < p.length
    · have hlti : (k : Int) < (p.length : Int) := by omega
      obtain ⟨g, rfl, hc⟩ := HC.out k hlt
      have HG : Hid (p.getD k 0 ∈ p) := by
        show p.getD k 0 ∈ p
        rw [show p.getD k 0 = p[k] by simp [List.getD, List.getElem?_eq_getElem hlt]]
        exact List.getElem_mem hlt
      generalize hy : p.getD k 0 = y at *
      have HY := hid hy
      clear hy
      by_cases hx : x = y
      · have hxe : (x == y) = true := by simp [hx]
        have HX := hid hx
        clear hx
        go_wp2_with fail
        go_ret
        exact ⟨⟨_, rfl, ⟨fun _ => HX.out ▸ HG.out, fun _ => by omega⟩⟩, rfl⟩
      · have hxe : (x == y) = false := by simp [hx]
        have HX := hid hx
        clear hx
        go_wp2_with fail
        go_roundg (p.length - (k + 1))
        case measure => omega
        case rel =>
          refine ⟨k + 1, by omega, by omega, by go_num, rfl, (show Aside _ from fun j hj => ?_)⟩
          by_cases e : j = k
          · subst e; rw [HY.out]; exact HX.out
          · exact A.out j (by omega)
    · have hlti : ¬ (k : Int) < (p.length : Int) := by omega
      go_wp2_with fail
      go_ret
      refine ⟨⟨_, rfl, ⟨fun h => by simp at h, fun h => ?_⟩⟩, rfl⟩
      obtain ⟨j, hj, e⟩ := List.mem_iff_getElem.1 h
      exact absurd (by rw [← e]; simp [List.getD, List.getElem?_eq_getElem hj]) (A.out j (by omega))
theorem containsI_is {B : Nat} (v : Value) (p : List Int) (x : Int) (w : World) (h : IR B w v p) (hlen : p.length ≤ 9223372036854775807) :
    Calls Try.prog 18 #[v, .int .i64 x] w fun e w' => e = .returned (.bool (decide (x ∈ p))) ∧ w = w' := by
  have HI := hid (indexI_is v p x w h hlen)
  obtain ⟨ao, c, rfl, -⟩ := h.cells
  clear h
  go_enter Try.func18, Try.ntmps18
  go_wp2_with fail
  go_at_call 46
  refine HI.out.mono ?_
  rintro e w1 ⟨⟨r, rfl, hr⟩, rfl⟩
  by_cases hx : x ∈ p
  · have h0 : 0 ≤ r := hr.2 hx
    have HX := hid hx
    clear hr hx
    go_wp2_with fail
    go_ret
    exact ⟨by rw [decide_eq_true HX.out]; rfl, rfl⟩
  · have HR : Hid (¬ 0 ≤ r) := fun c => hx (hr.1 c)
    have HX := hid hx
    clear hr hx
    go_wp2_with fail
    go_ret
    exact ⟨by rw [decide_eq_false HX.out]; show Ending.returned (Value.bool (decide (0 ≤ r))) = _; rw [decide_eq_false (show ¬ 0 ≤ r by have := HR.out; omega)], rfl⟩
theorem keys33 : Keyed Try.prog 33 := Keyed.of_law (deep_law_gate Try.laidOut (of_decide_eq_true (by kernel_rfl)) (of_decide_eq_true (by kernel_rfl)) (by kernel_rfl) (by kernel_rfl))
def arV (a b : ByteArray) : Value := .agg #[.string a, .string b]
theorem Try.cells33 : Try.prog.cellsOf 33 = 2 := by kernel_rfl
theorem Try.key33 : Try.prog.keyType 33 = true := by kernel_rfl
theorem key_ar (a b : ByteArray) (ha : a.size ≤ maxLen) (hb : b.size ≤ maxLen) : ∃ kl, keyOf Try.prog 33 (arV a b) = some kl := by
  unfold keyOf arV
  rw [Try.underlying33]
  simp only [Try.key33, Bool.true_and, Try.types]
  have hf : (Value.agg #[.string a, .string b]).formed Try.prog 33 = true := by
    simp [Value.formed, Try.underlying33, Try.cells33]
  rw [if_pos hf]
  have hk : Try.prog.keyLits 206 33 (Value.agg #[.string a, .string b]).cells.toList = some [.string a.data.toList, .string b.data.toList] := by
    unfold Program.keyLits
    rw [Try.underlying33]
    have k9 : ∀ s : ByteArray, s.size ≤ maxLen → Try.prog.keyLits 205 9 [.string s] = some [.string s.data.toList] := fun s hs => by
      unfold Program.keyLits
      rw [Try.underlying9]
      simp [hs]
    simp [Value.cells]
    refine ⟨Try.cells33.symm, [[.string a.data.toList], [.string b.data.toList]], ?_, rfl⟩
    rw [Try.cells9]
    simp [show List.range 2 = [0, 1] from rfl, k9 a ha, k9 b hb]
  rw [hk]
  exact ⟨_, rfl⟩
theorem arV_inj {a b a' b' : ByteArray} (h : arV a b = arV a' b') : a = a' ∧ b = b' := by
  unfold arV at h
  simp at h
  exact h
end Go.Proofs.Ytadlnkaphkbfdaa
