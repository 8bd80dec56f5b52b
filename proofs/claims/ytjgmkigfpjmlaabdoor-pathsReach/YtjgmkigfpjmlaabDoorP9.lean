/-
  Shortest from no node; Distance.
-/
import Derived.Test.YtjgmkigfpjmlaabDoorP8
namespace Go.Proofs.YtjgmkigfpjmlaabDoor
set_option linter.unusedVariables false
set_option linter.unusedSimpArgs false
open Go.RowKit

set_option maxHeartbeats 8000000 in
set_option maxRecDepth 100000 in
theorem shortest_off (b n r : Nat) (s : Int) (bk ck : Nat → Nat) (L : Nat → Nat → Nat) (labels to' : Int) (w : World) (h : Graph w b n r bk ck L) (hs : s < 0 ∨ (n : Int) ≤ s) (hT : Tab w) :
    Calls Tryd.prog 16 #[.pointer (some ⟨b, 0, none⟩), .int .i64 labels, .int .i64 s, .int .i64 to'] w fun e w' => e = .returned (.slice none 0 0) ∧ Below w.heap.size w w' := by
  have FO := hid (follow_off b n r s bk ck L labels to' w h hs hT)
  clear h hT
  go_enter Tryd.func16, Tryd.ntmps16
  go_wp2_with fail
  go_at_call 46
  refine FO.out.mono ?_
  rintro e w1 ⟨⟨sb, nb, bf, rfl, t1⟩, b1⟩
  obtain ⟨cb, s1⟩ := t1.set
  have B2 : Hid (Below w.heap.size w (w1.alloc (.cells #[.pointer (some ⟨sb, 0, none⟩), .slice (some ⟨nb, 0, none⟩) n n] 85))) := b1.alloc b1.size _
  have S2 : Hid (Is (w1.alloc (.cells #[.pointer (some ⟨sb, 0, none⟩), .slice (some ⟨nb, 0, none⟩) n n] 85)) sb n cb (fun v => decide ((0 : Nat) ≠ 0))) := s1.later (below_box _ _)
  clear b1 t1 s1 FO
  have HAS : Hid (Calls Tryd.prog 24 #[.pointer (some ⟨sb, 0, none⟩), .int .i64 to'] (w1.alloc (.cells #[.pointer (some ⟨sb, 0, none⟩), .slice (some ⟨nb, 0, none⟩) n n] 85)) fun e w' => e = .returned (.bool false) ∧ (w1.alloc (.cells #[.pointer (some ⟨sb, 0, none⟩), .slice (some ⟨nb, 0, none⟩) n n] 85)) = w') := by
    by_cases hto : to' < 0 ∨ (n : Int) ≤ to'
    · exact has_off sb n cb _ to' _ S2.out hto
    · obtain ⟨T, rfl⟩ : ∃ T : Nat, to' = T := ⟨to'.toNat, by omega⟩
      exact has_is sb n cb _ T _ S2.out (by omega)
  go_wp2_with fail
  go_at_call 24
  refine HAS.out.mono ?_
  rintro e w' ⟨rfl, rfl⟩
  go_wp2_with fail
  go_ret
  exact ⟨rfl, B2.out⟩

theorem pMade (b n r : Nat) (bk ck : Nat → Nat) (L : Nat → Nat → Nat) (w : World) (h : Graph w b n r bk ck L) : Calls Tryd.prog 50 #[.pointer (some ⟨b, 0, none⟩)] w fun e w' => e = .returned (.bool true) ∧ w = w' := by
  have hy : addWhy n (-1) (-1) 0 = 60 := by unfold addWhy; rw [if_pos (by left; left; decide)]
  have A := hid (gadd_no b n r bk ck L (-1) (-1) 0 w h (by rw [hy]; decide))
  rw [hy] at A
  clear h hy
  go_enter Tryd.func50, Tryd.ntmps50
  go_wp2_with fail
  go_at_call 10
  refine A.out.mono ?_
  rintro e w' ⟨rfl, rfl⟩
  go_wp2_with fail
  go_ret
  exact ⟨rfl, rfl⟩
/-- What Distance answers. -/
def IsFar (E : Nat → Nat → Bool) (n : Nat) (s to' : Int) (d : Int) : Prop :=
  (∃ (S T D : Nat), s = S ∧ S < n ∧ to' = T ∧ T < n ∧ d = D ∧ Dst E n T S D) ∨ (d = -1 ∧ ∀ S T : Nat, s = S → S < n → to' = T → ∀ r, r ≠ [] → ¬ Wl E n S r T)
theorem IsFar.uniq {E : Nat → Nat → Bool} {n : Nat} {s to' d d' : Int} (h : IsFar E n s to' d) (h' : IsFar E n s to' d') : d = d' := by
  rcases h with ⟨S, T, D, rfl, h1, rfl, h2, rfl, h3⟩ | ⟨rfl, h1⟩
  · rcases h' with ⟨S', T', D', e1, k1, e2, k2, rfl, k3⟩ | ⟨rfl, k1⟩
    · obtain rfl : S = S' := by omega
      obtain rfl : T = T' := by omega
      rw [h3.uniq k3]
    · obtain ⟨r, hr, hw⟩ := h3.2.1
      exact absurd hw (k1 S T rfl h1 rfl r (by rintro rfl; have := h3.1; simp at hr; omega))
  · rcases h' with ⟨S', T', D', e1, k1, e2, k2, rfl, k3⟩ | ⟨rfl, k1⟩
    · obtain ⟨r, hr, hw⟩ := k3.2.1
      exact absurd hw (h1 S' T' e1 k1 e2 r (by rintro rfl; have := k3.1; simp at hr; omega))
    · rfl
set_option maxHeartbeats 4000000 in
set_option maxRecDepth 100000 in
theorem distance_is (b n r : Nat) (s : Int) (bk ck : Nat → Nat) (L : Nat → Nat → Nat) (labels to' : Int) (w : World) (h : Graph w b n r bk ck L) (hT : Tab w) :
    Calls Tryd.prog 18 #[.pointer (some ⟨b, 0, none⟩), .int .i64 labels, .int .i64 s, .int .i64 to'] w fun e w' => (∃ d, e = .returned (.int .i64 d) ∧ IsFar (edge L labels) n s to' d ∧ -1 ≤ d ∧ d ≤ 300) ∧ Below w.heap.size w w' := by
  have PM := hid (pMade b n r bk ck L w h)
  have hn3 := h.bound
  by_cases hs : s < 0 ∨ (n : Int) ≤ s
  · have SO := hid (shortest_off b n r s bk ck L labels to' w h hs hT)
    have HS := hid hs
    clear h hT hs
    go_enter Tryd.func18, Tryd.ntmps18
    go_wp2_with fail
    go_at_call 50
    refine PM.out.mono ?_
    rintro e w' ⟨rfl, rfl⟩
    go_wp2_with fail
    go_at_call 16
    refine SO.out.mono ?_
    rintro e w1 ⟨rfl, b1⟩
    have B1 := hid b1
    clear b1
    go_wp2_with fail
    go_ret
    exact ⟨⟨-1, rfl, .inr ⟨rfl, fun S T e h1 => by have := HS.out; omega⟩, by decide, by decide⟩, B1.out⟩
  · obtain ⟨S, rfl⟩ : ∃ S : Nat, s = S := ⟨s.toNat, by omega⟩
    have hS : S < n := by omega
    have SO := hid (shortest_is b n r S bk ck L labels to' w h hS hT)
    clear h hT hs
    go_enter Tryd.func18, Tryd.ntmps18
    go_wp2_with fail
    go_at_call 50
    refine PM.out.mono ?_
    rintro e w' ⟨rfl, rfl⟩
    go_wp2_with fail
    go_at_call 16
    refine SO.out.mono ?_
    rintro e w1 ⟨⟨v, rfl, ⟨T, q, rfl, h1, h2, h3, h4⟩ | ⟨rfl, h1⟩⟩, b1⟩
    · obtain ⟨ao, c, rfl⟩ := h4.form
      have B1 := hid b1
      have H2 := hid h2
      have hqi : (q.length : Int) ≤ 300 := by omega
      clear b1 h2 h4
      rw [List.length_cons]
      go_wp2_with fail
      go_ret
      exact ⟨⟨q.length, by first | rfl | (congr 2; omega), .inl ⟨S, T, q.length, rfl, hS, rfl, h1, rfl, H2.out.dst hS⟩, by omega, by omega⟩, B1.out⟩
    · have B1 := hid b1
      have H1 := hid h1
      clear b1 h1
      go_wp2_with fail
      go_ret
      exact ⟨⟨-1, rfl, .inr ⟨rfl, fun S' T e1 h2 e2 q hq hw => H1.out T e2 q hq (by rw [show S = S' by omega]; exact hw)⟩, by decide, by decide⟩, B1.out⟩
end Go.Proofs.YtjgmkigfpjmlaabDoor
