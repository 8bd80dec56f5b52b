/-
  The document's order: ahead, Less, Sure, Cyclic, Pairs.
-/
import Derived.Test.YtmnfmilgpglfcaaK7
namespace Go.Proofs.Ytmnfmilgpglfcaa
set_option linter.unusedVariables false
set_option linter.unusedSimpArgs false
open Go.RowKit

set_option maxHeartbeats 4000000 in
theorem rahead_any (H b n : Nat) (ps : List (Nat × Nat × Bool)) (x y : Int) (t : Bool) (w : World) (h : RefO H w b n ps) (hl : ps.length ≤ 1000) :
    Calls Try.prog 20 #[.pointer (some ⟨b, 0, none⟩), .int .i64 x, .int .i64 y, .bool t] w fun e w' => e = .returned (.bool (ahd (clR (sel t ps)) n x y)) ∧ Below w.heap.size w w' := by
  obtain ⟨ao, cap, c0, c1, hc⟩ := h.form
  have R := hid h
  have hn3 := h.bound
  have hni : (n : Int) ≤ 300 := by omega
  clear h hc c1
  by_cases h1 : x < 0
  · have E := hid (ahd_off1 (clR (sel t ps)) n x y (.inl h1))
    have h2 : decide (0 ≤ x) = false := by simp; omega
    have h3 : ¬ (0 : Int) ≤ x := by omega
    go_enter Try.func20, Try.ntmps20
    go_wp2
    go_ret
    exact ⟨by rw [E.out]; rfl, Below.refl _ _⟩
  · by_cases h2 : (n : Int) ≤ x
    · have E := hid (ahd_off1 (clR (sel t ps)) n x y (.inr h2))
      have h3 : (0 : Int) ≤ x := by omega
      have h4 : ¬ x < (n : Int) := by omega
      go_enter Try.func20, Try.ntmps20
      go_wp2
      go_ret
      exact ⟨by rw [E.out]; rfl, Below.refl _ _⟩
    · obtain ⟨X, rfl⟩ : ∃ X : Nat, x = X := ⟨x.toNat, by omega⟩
      have hX : X < n := by omega
      have hXi : (X : Int) < n := by omega
      have hX0 : (0 : Int) ≤ X := by omega
      clear h1 h2
      by_cases h3 : y < 0
      · have E := hid (ahd_off2 (clR (sel t ps)) n X y (.inl h3))
        have h4 : decide (0 ≤ y) = false := by simp; omega
        have h5 : ¬ (0 : Int) ≤ y := by omega
        go_enter Try.func20, Try.ntmps20
        go_wp2
        go_ret
        exact ⟨by rw [E.out]; rfl, Below.refl _ _⟩
      · by_cases h4 : (n : Int) ≤ y
        · have E := hid (ahd_off2 (clR (sel t ps)) n X y (.inr h4))
          have h5 : (0 : Int) ≤ y := by omega
          have h6 : ¬ y < (n : Int) := by omega
          go_enter Try.func20, Try.ntmps20
          go_wp2
          go_ret
          exact ⟨by rw [E.out]; rfl, Below.refl _ _⟩
        · obtain ⟨Y, rfl⟩ : ∃ Y : Nat, y = Y := ⟨y.toNat, by omega⟩
          have hY : Y < n := by omega
          have hYi : (Y : Int) < n := by omega
          have hY0 : (0 : Int) ≤ Y := by omega
          have E := hid (ahd_nat (clR (sel t ps)) n X Y hX hY)
          have BH := hid (behind_is H b n ps X t w R.out hX hl)
          clear h3 h4
          go_enter Try.func20, Try.ntmps20
          go_wp2_with (go_at_call 26; refine BH.out.mono ?_; rintro e w' ⟨⟨mk, rfl, lb⟩, bl⟩; have cy := (lb.cell Y hY).1; have BL := hid bl; clear lb bl)
          go_ret
          exact ⟨by rw [E.out]; rfl, BL.out⟩
theorem rless_any (H b n : Nat) (ps : List (Nat × Nat × Bool)) (x y : Int) (w : World) (h : RefO H w b n ps) (hl : ps.length ≤ 1000) :
    Calls Try.prog 15 #[.pointer (some ⟨b, 0, none⟩), .int .i64 x, .int .i64 y] w fun e w' => e = .returned (.bool (ahd (clR (sel false ps)) n x y)) ∧ Below w.heap.size w w' := by
  have A := hid (rahead_any H b n ps x y false w h hl)
  clear h
  generalize ahd (clR (sel false ps)) n x y = t at *
  go_enter Try.func15, Try.ntmps15
  go_wp2_with (go_at_call 20; refine A.out.mono ?_; rintro e w' ⟨rfl, bl⟩; have BL := hid bl; clear bl)
  go_ret
  exact ⟨rfl, BL.out⟩
set_option maxHeartbeats 2000000 in
theorem rcyclic_is (H b n : Nat) (ps : List (Nat × Nat × Bool)) (w : World) (h : RefO H w b n ps) (hl : ps.length ≤ 1000) :
    Calls Try.prog 7 #[.pointer (some ⟨b, 0, none⟩)] w fun e w' => e = .returned (.bool (cyc (clR (sel false ps)) n)) ∧ Below w.heap.size w w' := by
  obtain ⟨ao, cap, c0, c1, hc⟩ := h.form
  have R := hid h
  have hn3 := h.bound
  have hni : (n : Int) ≤ 300 := by omega
  clear h hc c1
  go_enter Try.func7, Try.ntmps7
  go_wp2_with fail
  go_loopg [3, 8] n (fun g _ i wr => ∃ k : Nat, k ≤ n ∧ n - k ≤ g ∧ i = .int .i64 k ∧ Aside (cyc (clR (sel false ps)) k = false) ∧ Aside (Below w.heap.size w wr))
  case atStart => exact ⟨0, Nat.zero_le _, by omega, rfl, rfl, Below.refl _ _⟩
  case round =>
    clear c0
    obtain ⟨k, hk, hg, rfl, CX, BX⟩ := hrel
    by_cases hlt : k < n
    · have hlti : (k : Int) < n := by omega
      have HA := hid (rless_any H b n ps k k wr (R.out.later BX.out) hl)
      rw [ahd_nat _ n k k hlt hlt] at HA
      cases hR : clR (sel false ps) k k with
      | true =>
        have E := hid (cyc_true hlt hR)
        rw [hR] at HA
        clear hR
        go_wp2_with (go_at_call 15; refine HA.out.mono ?_; rintro e w' ⟨rfl, bl⟩; have BL := hid (BX.out.trans (bl.mono BX.out.size)); clear bl)
        go_ret
        exact ⟨by rw [E.out]; rfl, BL.out⟩
      | false =>
        have E : Hid (cyc (clR (sel false ps)) (k + 1) = false) := by show _ = _; rw [cyc_succ, CX.out, hR]; rfl
        rw [hR] at HA
        clear hR
        go_wp2_with (go_at_call 15; refine HA.out.mono ?_; rintro e w' ⟨rfl, bl⟩; have BL := hid (BX.out.trans (bl.mono BX.out.size)); clear bl)
        go_roundg (n - (k + 1))
        · exact ⟨k + 1, by omega, by omega, by go_num, E.out, BL.out⟩
        · omega
    · have hlti : ¬ (k : Int) < n := by omega
      obtain rfl : n = k := by omega
      have E := hid CX.out
      clear CX
      go_wp2_with fail
      go_ret
      exact ⟨by rw [E.out]; rfl, BX.out⟩
end Go.Proofs.Ytmnfmilgpglfcaa
