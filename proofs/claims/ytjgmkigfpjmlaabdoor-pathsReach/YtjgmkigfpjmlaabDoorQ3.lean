/-
  The document's Distance and Shortest.
-/
import Derived.Test.YtjgmkigfpjmlaabDoorQ2
namespace Go.Proofs.YtjgmkigfpjmlaabDoor
set_option linter.unusedVariables false
set_option linter.unusedSimpArgs false
open Go.RowKit

theorem Dists.far {E : Nat → Nat → Bool} {n T : Nat} {dv : Nat → Nat} (h : Dists E n T dv) (hT : T < n) (S : Nat) (hS : S < n) : IsFar E n S T (dI dv S) := by
  by_cases h0 : dv S = 0
  · rw [dI_neg dv S h0]
    refine .inr ⟨rfl, fun S' T' e1 h1 e2 r hr hw => ?_⟩
    obtain rfl : S = S' := by omega
    obtain rfl : T = T' := by omega
    exact (h S hS).2 h0 r.length (List.length_pos_iff.2 hr) ⟨r, rfl, hw⟩
  · rw [dI_pos dv S h0]
    exact .inl ⟨S, T, dv S, rfl, hS, rfl, hT, rfl, (h S hS).1 h0⟩

set_option maxHeartbeats 4000000 in
set_option maxRecDepth 100000 in
theorem rdistance_is (b n : Nat) (v : Value) (rw' : Nat → Nat) (L : Nat → Nat → Nat) (labels s to' : Int) (w : World) (h : RefG w b n v rw' L) :
    Calls Tryd.prog 19 #[.pointer (some ⟨b, 0, none⟩), .int .i64 labels, .int .i64 s, .int .i64 to'] w fun e w' => (∃ d, e = .returned (.int .i64 d) ∧ IsFar (edge L labels) n s to' d) ∧ Below w.heap.size w w' := by
  obtain ⟨ao, cap, hv, -⟩ := h.form
  have c0 := h.c0
  rw [hv] at c0
  have hn3 := h.bound
  by_cases hs : s < 0 ∨ (n : Int) ≤ s
  · have T1 := hid (rthere_no b n cap ao s w c0 hs)
    have HS := hid hs
    clear h hv c0 hs
    go_enter Tryd.func19, Tryd.ntmps19
    go_wp2_with (go_at_call 21; refine T1.out.mono ?_; rintro e w' ⟨rfl, rfl⟩)
    go_ret
    exact ⟨⟨-1, rfl, .inr ⟨rfl, fun S T e h1 => by have := HS.out; omega⟩⟩, Below.refl _ _⟩
  · obtain ⟨S, rfl⟩ : ∃ S : Nat, s = S := ⟨s.toNat, by omega⟩
    have hS : S < n := by omega
    have hSi : (S : Int) < n := by omega
    have T1 := hid (rthere_ok b n cap ao S w c0 hS)
    by_cases ht : to' < 0 ∨ (n : Int) ≤ to'
    · have T2 := hid (rthere_no b n cap ao to' w c0 ht)
      have NW := hid (noWay_off (E := edge L labels) (s := S) ht)
      clear h hv c0 hs ht
      go_enter Tryd.func19, Tryd.ntmps19
      go_wp2_with fail
      go_at_call 21
      refine T1.out.mono ?_
      rintro e w' ⟨rfl, rfl⟩
      go_wp2_with fail
      go_at_call 21
      refine T2.out.mono ?_
      rintro e w' ⟨rfl, rfl⟩
      go_wp2_with fail
      go_ret
      exact ⟨⟨-1, rfl, .inr ⟨rfl, fun S' T e h1 e2 r hr hw => NW.out T e2 r hr (by rw [show S = S' by omega]; exact hw)⟩⟩, Below.refl _ _⟩
    · obtain ⟨T, rfl⟩ : ∃ T : Nat, to' = T := ⟨to'.toNat, by omega⟩
      have hTn : T < n := by omega
      have T2 := hid (rthere_ok b n cap ao T w c0 hTn)
      have D := hid (distances_is b n v rw' L labels T w h hTn)
      clear h hv c0 hs ht
      go_enter Tryd.func19, Tryd.ntmps19
      go_wp2_with fail
      go_at_call 21
      refine T1.out.mono ?_
      rintro e w' ⟨rfl, rfl⟩
      go_wp2_with fail
      go_at_call 21
      refine T2.out.mono ?_
      rintro e w' ⟨rfl, rfl⟩
      go_wp2_with fail
      go_at_call 48
      refine D.out.mono ?_
      rintro e w1 ⟨⟨ob, dv, rfl, -, l1, d1⟩, b1⟩
      obtain ⟨ck, fk⟩ := l1.cell S hS
      have B1 := hid b1
      have F1 := hid (d1.far hTn S hS)
      clear l1 d1 b1
      go_wp2_with fail
      go_ret
      exact ⟨⟨_, rfl, F1.out⟩, B1.out⟩
end Go.Proofs.YtjgmkigfpjmlaabDoor
