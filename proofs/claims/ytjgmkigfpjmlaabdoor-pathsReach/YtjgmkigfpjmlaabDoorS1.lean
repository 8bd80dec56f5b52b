/-
  The law PathsBetween.
-/
import Derived.Test.YtjgmkigfpjmlaabDoorQ5
namespace Go.Proofs.YtjgmkigfpjmlaabDoor
set_option linter.unusedVariables false
set_option linter.unusedSimpArgs false
open Go.RowKit

theorem far_between {E : Nat → Nat → Bool} {n : Nat} {f y t a b c : Int} (ha : IsFar E n f y a) (hb : IsFar E n y t b) (hc : IsFar E n f t c) : a < 0 ∨ (0 ≤ a ∧ b < 0) ∨ (0 ≤ a ∧ 0 ≤ b ∧ 0 < c ∧ c ≤ a + b) := by
  rcases ha with ⟨S, M, D1, rfl, h1, rfl, h2, rfl, h3⟩ | ⟨rfl, h1⟩
  · rcases hb with ⟨M', T, D2, e1, k1, rfl, k2, rfl, k3⟩ | ⟨rfl, k1⟩
    · obtain rfl : M = M' := by omega
      obtain ⟨r1, l1, w1⟩ := h3.2.1
      obtain ⟨r2, l2, w2⟩ := k3.2.1
      have hw : Wl E n S (r1 ++ r2) T := Wl.append.2 ⟨M, w1, w2⟩
      have hl : (r1 ++ r2).length = D1 + D2 := by rw [List.length_append, l1, l2]
      have p1 := h3.1
      rcases hc with ⟨S', T', D3, e2, q1, e3, q2, rfl, q3⟩ | ⟨rfl, q1⟩
      · obtain rfl : S = S' := by omega
        obtain rfl : T = T' := by omega
        have := q3.2.2 (D1 + D2) (by omega) ⟨_, hl, hw⟩
        have := q3.1
        right; right
        omega
      · exact absurd hw (q1 S T rfl h1 rfl _ (by rintro e; rw [e] at hl; simp at hl; omega))
    · exact .inr (.inl ⟨by omega, by decide⟩)
  · exact .inl (by decide)

set_option maxHeartbeats 8000000 in
set_option maxRecDepth 100000 in
theorem between_walk (n0 : Int) (ao : Option Addr) (cp : Nat) (es : List (Int × Int × Int)) (labels f y t : Int) (w : World) (hz : ArgE w ao es) (hl : es.length ≤ maxLen) (hT : Tab w) :
    Calls Tryd.prog 7 #[.int .i64 n0, .slice ao es.length cp, .int .i64 labels, .int .i64 f, .int .i64 y, .int .i64 t] w fun e w' => e = .returned (.bool true) ∧ Below w.heap.size w w' := by
  obtain ⟨n, hn, hD⟩ := u64_tmod n0 60 (by decide) (by decide)
  have D := hid (drawn_P n0 n hn hD ao cp es w hz hl)
  have TB := hid hT
  clear hz hl hT hD hn
  go_enter Tryd.func7, Tryd.ntmps7
  go_wp2_with fail
  go_at_call 14
  refine D.out.mono ?_
  rintro e w1 ⟨⟨b, b2, rfl, r, bk, ck, v, rw', L, g1, r1, -, -, dg⟩, b1⟩
  have B1 := hid b1
  have G1 := hid g1
  have R1 := hid r1
  have T1 := hid (TB.out.later b1)
  clear b1 g1 r1 dg D TB
  go_wp2_with fail
  go_at_call 18
  refine (distance_is b n r f bk ck L labels y w1 G1.out T1.out).mono ?_
  rintro e w2 ⟨⟨da, rfl, fa, la, ha⟩, c2⟩
  have FA := hid fa
  have C2 := hid c2
  clear fa c2
  go_wp2_with fail
  go_at_call 18
  refine (distance_is b n r y bk ck L labels t w2 (G1.out.later C2.out) (T1.out.later C2.out)).mono ?_
  rintro e w3 ⟨⟨db, rfl, fb, lb, hb⟩, c3⟩
  have FB := hid fb
  have C3 := hid (C2.out.trans (c3.mono C2.out.size))
  clear fb c3 C2
  go_wp2_with fail
  go_at_call 18
  refine (distance_is b n r f bk ck L labels t w3 (G1.out.later C3.out) (T1.out.later C3.out)).mono ?_
  rintro e w4 ⟨⟨dc, rfl, fc, lc, hc⟩, c4⟩
  have FC := hid fc
  have C4 := hid (C3.out.trans (c4.mono C3.out.size))
  clear fc c4 C3
  go_wp2_with fail
  go_at_call 19
  refine (rdistance_is b2 n v rw' L labels f y w4 (R1.out.later C4.out)).mono ?_
  rintro e w5 ⟨⟨d5, rfl, f5⟩, c5⟩
  obtain rfl : da = d5 := FA.out.uniq f5
  have C5 := hid (C4.out.trans (c5.mono C4.out.size))
  clear f5 c5 C4
  have e1 : (da != da) = false := by simp
  have e2 : (db != db) = false := by simp
  go_wp2_with fail
  go_at_call 19
  refine (rdistance_is b2 n v rw' L labels y t w5 (R1.out.later C5.out)).mono ?_
  rintro e w6 ⟨⟨d6, rfl, f6⟩, c6⟩
  obtain rfl : db = d6 := FB.out.uniq f6
  have C6 := hid (B1.out.trans ((C5.out.trans (c6.mono C5.out.size)).mono B1.out.size))
  clear f6 c6 C5
  have hbt := far_between FA.out FB.out FC.out
  clear FA FB FC
  rcases hbt with h1 | ⟨h1, h2⟩ | ⟨h1, h2, h3, h4⟩
  · go_wp2_with fail
    go_ret
    exact ⟨rfl, C6.out⟩
  · have h1' : ¬ da < 0 := by omega
    go_wp2_with fail
    go_ret
    exact ⟨rfl, C6.out⟩
  · have h1' : ¬ da < 0 := by omega
    have h2' : ¬ db < 0 := by omega
    go_wp2_with fail
    go_ret
    exact ⟨rfl, C6.out⟩
end Go.Proofs.YtjgmkigfpjmlaabDoor
