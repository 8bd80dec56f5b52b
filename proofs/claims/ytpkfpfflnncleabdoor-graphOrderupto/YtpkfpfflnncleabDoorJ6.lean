/-
  The document's graphs: Only.
-/
import Derived.Test.YtpkfpfflnncleabDoorJ5
namespace Go.Proofs.YtpkfpfflnncleabDoor
set_option linter.unusedVariables false
set_option linter.unusedSimpArgs false
open Go.RowKit

theorem allE_16 (L : Nat → Nat → Nat) (n : Nat) (h : ∀ f t, L f t < 16) (j : Nat) (hj : j < (allE L n n).length) : ((allE L n n).getD j (0, 0, 0)).2.2 < 16 := by
  have hm : (allE L n n).getD j (0, 0, 0) ∈ allE L n n := by
    have e : (allE L n n).getD j (0, 0, 0) = (allE L n n)[j] := by simp [List.getD, hj]
    rw [e]
    exact List.getElem_mem hj
  obtain ⟨f, t, _, _, _, e⟩ := (mem_allE L n h _).1 hm
  rw [e]
  exact h f t

set_option maxHeartbeats 4000000 in
theorem ronly_is (b n : Nat) (v : Value) (rw' : Nat → Nat) (L : Nat → Nat → Nat) (m : Int) (w : World) (h : RefG w b n v rw' L) :
    Calls Tryd.prog 13 #[.pointer (some ⟨b, 0, none⟩), .int .i64 m] w fun e w' => (∃ b' v' rw2, e = .returned (.pointer (some ⟨b', 0, none⟩)) ∧ RefG w' b' n v' rw2 (((allE L n n).map fun e => (e.1, e.2.1, e.2.2 &&& (m % 16).toNat)).foldl (stepE n) (fun _ _ => 0)) ∧ ∀ i, i < n → w.heap.size ≤ rw2 i) ∧ Below w.heap.size w w' := by
  have R := hid h
  have R0 : Hid (∀ f t, L f t < 16) := h.small
  have hn3 := h.bound
  have hni : (n : Int) ≤ 300 := by omega
  obtain ⟨ao, cap, hv, -⟩ := h.form
  have c0 := h.c0
  rw [hv] at c0
  clear h hv
  go_enter Tryd.func13, Tryd.ntmps13
  go_wp2_with fail
  clear c0
  refine (rgnew_ok n hn3 w).mono ?_
  rintro e w1 ⟨rfl, ⟨v', rw2, m1⟩, b1⟩
  have M1 := hid m1
  have B1 := hid b1
  clear m1 b1
  go_wp2_with fail
  refine (redges_is b n v rw' L w1 (R.out.later B1.out)).mono ?_
  rintro e w2 ⟨⟨u, rfl, hE⟩, b2⟩
  have E2 := hid hE
  have G2 := hid ((M1.out.graph hn3).later b2)
  have B2 := hid (B1.out.trans (b2.mono B1.out.size))
  have LOW := hid M1.out.low.2
  obtain ⟨la, lc, rfl, -⟩ := hE.arg
  have hle := allE_len L n n
  have hnn : n * n ≤ 300 * 300 := Nat.mul_le_mul hn3 hn3
  have hlen : (allE L n n).length ≤ 90000 := by omega
  have HEL : Hid (∀ w l, EdgesIn w1.heap.size w l (allE L n n) → l = .slice la (List.map intE (allE L n n)).length lc → ArgE w la ((allE L n n).map intE)) := fun w l hl el => by
    obtain ⟨la', lc', hv', hA'⟩ := hl.arg
    rw [el] at hv'
    injection hv' with e1 e2 e3
    rw [e1]
    exact hA'
  rw [List.length_map] at E2 HEL ⊢
  have hleni : ((allE L n n).length : Int) ≤ 90000 := by omega
  have S0 := hid E2.out
  clear hle hnn M1 R hE b2
  go_wp2_with fail
  go_loopg [8, 21] (allE L n n).length (fun g _ i wr => ∃ j : Nat, j ≤ (allE L n n).length ∧ (allE L n n).length - j ≤ g ∧ i = .int .i64 j ∧ Aside (EdgesIn w1.heap.size wr (.slice la (allE L n n).length lc) (allE L n n)) ∧ Aside (RefG wr w.heap.size n v' rw2 ((((allE L n n).take j).map fun e => (e.1, e.2.1, e.2.2 &&& (m % 16).toNat)).foldl (stepE n) (fun _ _ => 0))) ∧ Aside (Below w.heap.size w wr))
  case atStart => exact ⟨0, Nat.zero_le _, by omega, rfl, E2.out, (by show RefG _ _ _ _ _ _; simpa using G2.out), B2.out⟩
  case round =>
    clear E2 G2 B2 S0
    obtain ⟨j, hj, hg, rfl, EY, GX, BX⟩ := hrel
    by_cases hjl : j < (allE L n n).length
    · have hjli : (j : Int) < (allE L n n).length := by omega
      obtain ⟨ob, oo, ho, d1, d2, d3⟩ := (HEL.out wr _ EY.out rfl) j (by rw [List.length_map]; exact hjl)
      have e0 : ((allE L n n).map intE).getD j (0, 0, 0) = intE ((allE L n n).getD j (0, 0, 0)) := by simp [List.getD, hjl]
      rw [e0] at d1 d2 d3
      have FT := hid (fold_take (γ := fun e => (e.1, e.2.1, e.2.2 &&& (m % 16).toNat)) (n := n) (L0 := fun _ _ => 0) hjl)
      obtain ⟨⟨F, T, X⟩, hd⟩ : ∃ d, (allE L n n).getD j (0, 0, 0) = d := ⟨_, rfl⟩
      have HX : X < 16 := by have := allE_16 L n R0.out j hjl; rw [hd] at this; exact this
      have hand := i64_and_low X HX m
      rw [hd] at d1 d2 d3 FT
      simp only [intE] at d1 d2 d3
      clear e0 hd
      subst ho
      go_wp2_with fail
      go_at_call 25
      have BA : Hid (Below w.heap.size w (wr.alloc (.cells #[.int .i64 F, .int .i64 T, .int .i64 X] 41))) := BX.out.trans ((below_box wr _).mono BX.out.size)
      refine (rstep w.heap.size n v' rw2 _ F T (X &&& (m % 16).toNat) w.heap.size _ (GX.out.later (below_box wr _)) LOW.out BA.out.size).mono ?_
      rintro e w3 ⟨⟨y, rfl⟩, s3, b3, k3⟩
      have E3 := hid ((EY.out.later (below_box wr _)).stay k3 (by decide))
      have B3 := hid (BA.out.trans b3)
      have G3 : Hid (RefG w3 w.heap.size n v' rw2 ((((allE L n n).take (j + 1)).map fun e => (e.1, e.2.1, e.2.2 &&& (m % 16).toNat)).foldl (stepE n) (fun _ _ => 0))) := by rw [FT.out]; exact s3
      clear s3 b3 k3
      go_wp2_with fail
      go_roundg ((allE L n n).length - (j + 1))
      · exact ⟨j + 1, by omega, by omega, by go_num, E3.out, G3.out, B3.out⟩
      · omega
    · have hjli : ¬ (j : Int) < (allE L n n).length := by omega
      have GZ : Hid (RefG wr w.heap.size n v' rw2 (((allE L n n).map fun e => (e.1, e.2.1, e.2.2 &&& (m % 16).toNat)).foldl (stepE n) (fun _ _ => 0))) := by
        have h := GX.out
        rw [List.take_of_length_le (by omega)] at h
        exact h
      go_wp2_with fail
      go_ret
      first | exact ⟨⟨_, rfl, v', rw2, GZ.out, LOW.out⟩, BX.out⟩ | exact ⟨⟨_, v', rw2, rfl, GZ.out, LOW.out⟩, BX.out⟩
end Go.Proofs.YtpkfpfflnncleabDoor
