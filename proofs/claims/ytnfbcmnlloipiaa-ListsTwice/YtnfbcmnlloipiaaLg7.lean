/-
  Rows of anomalies; are they harmless?
-/
import Derived.Test.YtnfbcmnlloipiaaLg6
namespace Go.Proofs.Ytnfbcmnlloipiaa
set_option linter.unusedVariables false
set_option linter.unusedSimpArgs false
open Go.RowKit Go.Lib Go.Maps

/-- An anomaly of a list: kind, transaction, operation, other, key, value. -/
abbrev MAn := Int × Int × Int × Int × ByteArray × Int
def anC (a : MAn) : List Value := [.int .i64 a.1, .int .i64 a.2.1, .int .i64 a.2.2.1, .int .i64 a.2.2.2.1, .string a.2.2.2.2.1, .int .i64 a.2.2.2.2.2, .slice none 0 0, .bool false, .int .i64 0]
def ansC (l : List MAn) : List Value := l.flatMap anC
theorem ansC_snoc (l : List MAn) (a : MAn) : ansC (l ++ [a]) = ansC l ++ anC a := by simp [ansC]
theorem ansC_at : ∀ (l : List MAn) (j i : Nat), j < l.length → i < 9 → (ansC l)[j * 9 + i]? = (anC (l.getD j default))[i]?
  | [], j, i, h, _ => by simp at h
  | a :: l, 0, i, _, hi => by
    show (anC a ++ ansC l)[0 * 9 + i]? = _
    rw [Nat.zero_mul, Nat.zero_add, List.getElem?_append_left (by simp [anC]; omega)]
    rfl
  | a :: l, j + 1, i, h, hi => by
    show (anC a ++ ansC l)[(j + 1) * 9 + i]? = _
    rw [List.getElem?_append_right (by simp [anC]; omega)]
    rw [show (j + 1) * 9 + i - (anC a).length = j * 9 + i from by simp [anC]; omega]
    exact ansC_at l j i (by simpa using h) hi
set_option maxRecDepth 100000 in
theorem harm1_is (a : MAn) (w : World) : Calls Try.prog 84 #[.agg #[.int .i64 a.1, .int .i64 a.2.1, .int .i64 a.2.2.1, .int .i64 a.2.2.2.1, .string a.2.2.2.2.1, .int .i64 a.2.2.2.2.2, .slice none 0 0, .bool false, .int .i64 0]] w fun e w' => e = .returned (.bool (a.1 != 6)) ∧ Below w.heap.size w w' := by
  obtain ⟨a1, a2, a3, a4, a5, a6⟩ := a
  go_enter Try.func84, Try.ntmps84
  go_wp2_with fail
  go_ret
  exact ⟨rfl, below_box w _⟩
/-- Is there one that is no middle? -/
def harmB (l : List MAn) : Bool := l.all fun a => a.1 == 6
set_option maxHeartbeats 4000000 in
set_option maxRecDepth 100000 in
theorem idxA_is (B : Nat) (v : Value) (l : List MAn) (w : World) (h : w.ownsRow B 85 9 v l.length (ansC l)) (hl : l.length ≤ 1000000) : Calls Try.prog 99 #[v, .func (.func 84) #[] #[]] w fun e w' => (∃ r, e = .returned (.int .i64 r) ∧ (r < 0 ↔ harmB l = true)) ∧ Below w.heap.size w w' := by
  obtain ⟨va, vc, hv⟩ := own_slice h
  subst hv
  have H := hid h
  clear h
  have hli : (l.length : Int) ≤ 1000000 := by omega
  go_enter Try.func99, Try.ntmps99
  go_wp2_with fail
  go_loopg [5, 8] l.length (fun g _ i wr => ∃ k : Nat, k ≤ l.length ∧ l.length - k ≤ g ∧ i = .int .i64 k ∧ Aside (Below w.heap.size w wr) ∧ Aside (∀ j, j < k → (l.getD j default).1 = 6))
  case atStart => exact ⟨0, by omega, by omega, rfl, Below.refl _ _, (show Aside _ from fun j hj => by omega)⟩
  case round =>
    obtain ⟨k, hk, hg, rfl, BW, AL⟩ := hrel
    by_cases hlt : k < l.length
    · have hlti : (k : Int) < l.length := by omega
      have O := own_same H.out (fun g hg => BW.out.block g (own_block H.out hg).2.1)
      obtain ⟨gb, rfl⟩ : ∃ gb, va = some ⟨gb, 0, none⟩ := by
        rcases H.out.2 with ⟨_, hn⟩ | ⟨g, cap, cur, hv, _⟩
        · omega
        · injection hv with hv
          exact ⟨g, hv⟩
      have ce : ∀ i u, i < 9 → (anC (l.getD k default))[i]? = some u → wr.cell? ⟨gb, k * 9 + i, none⟩ = some u := fun i u hi hu => by
        have q := O.cellAt (k * 9 + i) (by omega)
        exact q.trans ((ansC_at l k i hlt hi).trans hu)
      obtain ⟨A, hA⟩ : ∃ A, l.getD k default = A := ⟨_, rfl⟩
      rw [hA] at ce
      have HA := hid hA
      clear hA
      obtain ⟨a1, a2, a3, a4, a5, a6⟩ := A
      have x0 := ce 0 _ (by omega) rfl
      have x1 := ce 1 _ (by omega) rfl
      have x2 := ce 2 _ (by omega) rfl
      have x3 := ce 3 _ (by omega) rfl
      have x4 := ce 4 _ (by omega) rfl
      have x5 := ce 5 _ (by omega) rfl
      have x6 := ce 6 _ (by omega) rfl
      have x7 := ce 7 _ (by omega) rfl
      have x8 := ce 8 _ (by omega) rfl
      simp only [Nat.add_zero] at x0
      have CK := hid (harm1_is (a1, a2, a3, a4, a5, a6) wr)
      clear ce O
      by_cases e6 : a1 = 6
      · subst e6
        go_wp2_with (refine CK.out.mono ?_; rintro e w1 ⟨rfl, b1⟩; have B1 := hid b1; clear b1)
        go_roundg (l.length - (k + 1))
        case measure => omega
        case rel =>
          refine ⟨k + 1, by omega, by omega, by go_num, BW.out.trans (B1.out.mono BW.out.size), (show Aside _ from fun j hj => ?_)⟩
          by_cases e : j = k
          · subst e; rw [HA.out]
          · exact AL.out j (by omega)
      · have e6b : (a1 != 6) = true := by simpa using e6
        have HN : Hid (harmB l = false) := by
          show _ = _
          cases hh : harmB l with
          | false => rfl
          | true =>
            have q := List.all_eq_true.1 hh (l.getD k default) (by simp [List.getD, List.getElem?_eq_getElem hlt])
            rw [HA.out] at q
            exact absurd (by simpa using q) e6
        clear e6
        go_wp2_with (refine CK.out.mono ?_; rintro e w1 ⟨rfl, b1⟩; have B1 := hid b1; clear b1)
        go_ret
        exact ⟨⟨_, rfl, by rw [HN.out]; exact ⟨fun q => by omega, fun q => by cases q⟩⟩, BW.out.trans (B1.out.mono BW.out.size)⟩
    · have hke : k = l.length := by omega
      have hlti : ¬ (k : Int) < l.length := by omega
      have HN : Hid (harmB l = true) := by
        show _ = _
        refine List.all_eq_true.2 (fun a ha => ?_)
        obtain ⟨j, hj, rfl⟩ := List.mem_iff_getElem.1 ha
        have q := AL.out j (by omega)
        simpa [List.getD, List.getElem?_eq_getElem hj] using q
      go_wp2_with fail
      go_ret
      exact ⟨⟨_, rfl, by rw [HN.out]; simp⟩, BW.out⟩
theorem cont_is (B : Nat) (v : Value) (l : List MAn) (w : World) (h : w.ownsRow B 85 9 v l.length (ansC l)) (hl : l.length ≤ 1000000) : Calls Try.prog 83 #[v, .func (.func 84) #[] #[]] w fun e w' => e = .returned (.bool (!harmB l)) ∧ Below w.heap.size w w' := by
  have IX := hid (idxA_is B v l w h hl)
  clear h
  go_enter Try.func83, Try.ntmps83
  go_wp2_with fail
  go_at_call 99
  refine IX.out.mono ?_
  rintro e w1 ⟨⟨r, rfl, hr⟩, b1⟩
  have B1 := hid b1
  clear b1 IX
  by_cases h0 : r < 0
  · have HE : Hid (harmB l = true) := hr.1 h0
    have h0n : ¬ (0 ≤ r) := by omega
    clear hr
    go_wp2_with fail
    go_ret
    exact ⟨by rw [HE.out]; simp [h0n], B1.out⟩
  · have HE : Hid (harmB l = false) := by
      show _ = _
      cases hh : harmB l with
      | false => rfl
      | true => exact absurd (hr.2 hh) h0
    have h0n : 0 ≤ r := by omega
    clear hr
    go_wp2_with fail
    go_ret
    exact ⟨by rw [HE.out]; simp [h0n], B1.out⟩
theorem harmless_is (B : Nat) (v : Value) (l : List MAn) (w : World) (h : w.ownsRow B 85 9 v l.length (ansC l)) (hl : l.length ≤ 1000000) : Calls Try.prog 62 #[v] w fun e w' => e = .returned (.bool (harmB l)) ∧ Below w.heap.size w w' := by
  have IX := hid (cont_is B v l w h hl)
  clear h
  go_enter Try.func62, Try.ntmps62
  go_wp2_with (go_at_call 83; refine IX.out.mono ?_; rintro e w1 ⟨rfl, b1⟩; have B1 := hid b1; clear b1 IX)
  go_ret
  exact ⟨by simp, B1.out⟩
end Go.Proofs.Ytnfbcmnlloipiaa
