/-
  The law's own walk: whatever two histories it is handed, it answers true.
-/
import Derived.Test.YtodbpplgpaokjabW5
import Derived.Test.YtodbpplgpaokjabW8
namespace Go.Proofs.Ytodbpplgpaokjab
open Go.RowKit Go.Lib

set_option maxHeartbeats 2000000 in
theorem law_walk {S T : Nat → Prop} (v1 v2 : Value) (A B : List MEv) (w : World) (h1 : EvsIn S w v1 A) (h2 : EvsIn T w v2 B) :
    Calls Try.prog 3 #[v1, v2] w fun e w' => e = .returned (.bool true) ∧ Below w.heap.size w w' := by
  have S1 : ∀ w', Below w.heap.size w w' → EvsIn S w' v1 A := fun w' hb => h1.keep (keeps_below hb) (fun _ _ h => h)
  have S2 : ∀ w', Below w.heap.size w w' → EvsIn T w' v2 B := fun w' hb => h2.keep (keeps_below hb) (fun _ _ h => h)
  obtain ⟨a1, c1, rfl, -⟩ := id h1
  obtain ⟨a2, c2, rfl, -⟩ := id h2
  clear h1 h2
  have H1 := hid S1
  have H2 := hid S2
  clear S1 S2
  have hsame : Hid (evsEq A A = true) := allEq_refl _ evEq_refl A
  have hsym : Hid (evsEq B A = evsEq A B) := allEq_symm _ evEq_symm B A
  generalize hl1 : A.length = n1 at *
  generalize hl2 : B.length = n2 at *
  have HL1 := hid hl1
  have HL2 := hid hl2
  clear hl1 hl2
  go_enter Try.func3, Try.ntmps3
  go_wp2_with fail
  refine (same_any _ _ A B _ (H1.out _ (Below.refl _ _)) (H2.out _ (Below.refl _ _))).mono ?_
  rintro e w1 ⟨rfl, b1⟩
  go_wp2_with fail
  refine (refSame_any _ _ A B _ (H1.out _ b1) (H2.out _ b1)).mono ?_
  rintro e w2 ⟨rfl, b2⟩
  have b2 := hid (b1.trans (b2.mono b1.size))
  clear b1
  generalize hr : evsEq A B = r at *
  have HR := hid hr
  clear hr
  have hrr : (r == r) = true := by simp
  go_wp2_with fail
  refine (events_any _ A _ (H1.out _ b2.out)).mono ?_
  rintro e w3 ⟨v3, rfl, e3, b3⟩
  have b3' := hid (b2.out.trans (b3.mono b2.out.size))
  obtain ⟨a3, c3, rfl, -⟩ := id e3
  have E3 := hid e3
  clear e3 b3
  go_wp2_with fail
  refine (same_any _ _ A A _ (H1.out _ b3'.out) E3.out).mono ?_
  rintro e w4 ⟨rfl, b4⟩
  have b4' := hid (b3'.out.trans (b4.mono b3'.out.size))
  clear b4
  rw [hsame.out]
  go_wp2_with fail
  refine (same_any _ _ B A _ (H2.out _ b4'.out) (H1.out _ b4'.out)).mono ?_
  rintro e w5 ⟨rfl, b5⟩
  have b5' := hid (b4'.out.trans (b5.mono b4'.out.size))
  clear b5
  go_wp2_with fail
  refine (same_any _ _ A B _ (H1.out _ b5'.out) (H2.out _ b5'.out)).mono ?_
  rintro e w6 ⟨rfl, b6⟩
  have b6' := hid (b5'.out.trans (b6.mono b5'.out.size))
  clear b6
  rw [hsym.out, HR.out]
  go_wp2_with fail
  go_ret
  exact ⟨by simp, b6'.out⟩
end Go.Proofs.Ytodbpplgpaokjab
