/-
  The law PathsTurned.
-/
import Derived.Test.YtjgmkigfpjmlaabDoorJ9
namespace Go.Proofs.YtjgmkigfpjmlaabDoor
set_option linter.unusedVariables false
set_option linter.unusedSimpArgs false
open Go.RowKit

theorem Wl.back {E E' : Nat → Nat → Bool} {n : Nat} (hE : ∀ u v, u < n → v < n → E' u v = E v u) {t : Nat} : ∀ (r : List Nat) (s : Nat), s < n → Wl E n s r t → ∃ r', r'.length = r.length ∧ Wl E' n t r' s := by
  intro r
  induction r with
  | nil => intro s _ h; exact ⟨[], rfl, h.symm⟩
  | cons m r ih =>
    rintro s hs ⟨h1, h2, h3⟩
    obtain ⟨r', k1, k2⟩ := ih m h2 h3
    refine ⟨r' ++ [s], by simp [k1], Wl.snoc.2 ⟨m, k2, ?_, hs, rfl⟩⟩
    rw [hE m s h2 hs]
    exact h1
theorem IsFar.back {E E' : Nat → Nat → Bool} {n : Nat} (hE : ∀ u v, u < n → v < n → E' u v = E v u) {s t d : Int} (h : IsFar E n s t d) : IsFar E' n t s d := by
  have hE2 : ∀ u v, u < n → v < n → E u v = E' v u := fun u v hu hv => (hE v u hv hu).symm
  rcases h with ⟨S, T, D, rfl, h1, rfl, h2, rfl, h3⟩ | ⟨rfl, h1⟩
  · refine .inl ⟨T, S, D, rfl, h2, rfl, h1, rfl, h3.1, ?_, ?_⟩
    · obtain ⟨r, hl, hw⟩ := h3.2.1
      obtain ⟨r', k1, k2⟩ := hw.back hE r S h1
      exact ⟨r', by omega, k2⟩
    · rintro j hj ⟨r, hl, hw⟩
      obtain ⟨r', k1, k2⟩ := Wl.back hE2 r T h2 hw
      exact h3.2.2 j hj ⟨r', by omega, k2⟩
  · refine .inr ⟨rfl, ?_⟩
    rintro T S rfl hT rfl r hr hw
    have hS := hw.last hr
    obtain ⟨r', k1, k2⟩ := Wl.back hE2 r T hT hw
    exact h1 S T rfl hS rfl r' (by rintro rfl; exact hr (List.length_eq_zero_iff.1 k1.symm)) k2
theorem edge_turn (L : Nat → Nat → Nat) (n : Nat) (labels : Int) (u v : Nat) (hu : u < n) (hv : v < n) : edge (turnL L n) labels u v = edge L labels v u := by
  unfold edge endsF turnL
  rw [if_pos ⟨hu, hv⟩]

set_option maxHeartbeats 8000000 in
set_option maxRecDepth 100000 in
theorem turned_walk (n0 : Int) (ao : Option Addr) (cp : Nat) (es : List (Int × Int × Int)) (labels f t : Int) (w : World) (hz : ArgE w ao es) (hl : es.length ≤ maxLen) (hT : Tab w) :
    Calls Tryd.prog 8 #[.int .i64 n0, .slice ao es.length cp, .int .i64 labels, .int .i64 f, .int .i64 t] w fun e w' => e = .returned (.bool true) ∧ Below w.heap.size w w' := by
  obtain ⟨n, hn, hD⟩ := u64_tmod n0 60 (by decide) (by decide)
  have D := hid (drawn_P n0 n hn hD ao cp es w hz hl)
  have TB := hid hT
  clear hz hl hT hD hn
  go_enter Tryd.func8, Tryd.ntmps8
  go_wp2_with fail
  go_at_call 14
  refine D.out.mono ?_
  rintro e w1 ⟨⟨b, b2, rfl, r, bk, ck, v, rw', L, g1, r1, -, -, dg⟩, b1⟩
  have B1 := hid b1
  have G1 := hid g1
  have R1 := hid r1
  have DG := hid dg
  have T1 := hid (TB.out.later b1)
  clear b1 g1 r1 dg D TB
  go_wp2_with fail
  go_at_call 26
  refine (turn_is b n r bk ck L w1 G1.out T1.out).mono ?_
  rintro e w2 ⟨⟨b3, r3, bk3, ck3, rfl, g3, -⟩, c2⟩
  have G3 : Hid (Graph w2 b3 n r3 bk3 ck3 (turnL L n)) := g3.turned G1.out.small DG.out
  have C2 := hid c2
  clear g3 c2
  go_wp2_with fail
  go_at_call 18
  refine (distance_is b3 n r3 t bk3 ck3 (turnL L n) labels f w2 G3.out (T1.out.later C2.out)).mono ?_
  rintro e w3 ⟨⟨da, rfl, fa, la, ha⟩, c3⟩
  have FA : Hid (IsFar (edge L labels) n f t da) := fa.back (fun u v hu hv => (edge_turn L n labels v u hv hu).symm)
  have C3 := hid (C2.out.trans (c3.mono C2.out.size))
  clear fa c3 C2 G3
  go_wp2_with fail
  go_at_call 18
  refine (distance_is b n r f bk ck L labels t w3 (G1.out.later C3.out) (T1.out.later C3.out)).mono ?_
  rintro e w4 ⟨⟨db, rfl, fb, lb, hb⟩, c4⟩
  obtain rfl : da = db := FA.out.uniq fb
  have C4 := hid (C3.out.trans (c4.mono C3.out.size))
  clear fb c4 C3
  have e1 : (da == da) = true := by simp
  go_wp2_with fail
  go_at_call 19
  refine (rdistance_is b2 n v rw' L labels f t w4 (R1.out.later C4.out)).mono ?_
  rintro e w5 ⟨⟨d5, rfl, f5⟩, c5⟩
  obtain rfl : da = d5 := FA.out.uniq f5
  have C5 := hid (B1.out.trans ((C4.out.trans (c5.mono C4.out.size)).mono B1.out.size))
  clear f5 c5 C4
  go_wp2_with fail
  go_ret
  exact ⟨rfl, C5.out⟩
end Go.Proofs.YtjgmkigfpjmlaabDoor
