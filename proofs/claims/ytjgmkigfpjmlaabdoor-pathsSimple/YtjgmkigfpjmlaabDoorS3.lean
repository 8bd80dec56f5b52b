/-
  The law PathsTell.
-/
import Derived.Test.YtjgmkigfpjmlaabDoorS1
namespace Go.Proofs.YtjgmkigfpjmlaabDoor
set_option linter.unusedVariables false
set_option linter.unusedSimpArgs false
open Go.RowKit

set_option maxHeartbeats 4000000 in
set_option maxRecDepth 100000 in
theorem rshortest_no (b n : Nat) (v : Value) (rw' : Nat → Nat) (L : Nat → Nat → Nat) (labels f t : Int) (w : World) (h : RefG w b n v rw' L) (hf : IsFar (edge L labels) n f t (-1)) :
    Calls Tryd.prog 17 #[.pointer (some ⟨b, 0, none⟩), .int .i64 labels, .int .i64 f, .int .i64 t] w fun e w' => e = .returned (.slice none 0 0) ∧ Below w.heap.size w w' := by
  have HF := hid hf
  have RD := hid (rdistance_is b n v rw' L labels f t w h)
  clear h hf
  go_enter Tryd.func17, Tryd.ntmps17
  go_wp2_with fail
  go_at_call 19
  refine RD.out.mono ?_
  rintro e w1 ⟨⟨d1, rfl, f1⟩, b1⟩
  obtain rfl : d1 = -1 := f1.uniq HF.out
  have B1 := hid b1
  clear f1 b1 RD HF
  go_wp2_with fail
  go_ret
  exact ⟨rfl, B1.out⟩
/-- What both tell of a path: the same list, or none. -/
def Alike (E : Nat → Nat → Bool) (n : Nat) (f t : Int) (l : List Nat) : Prop :=
  (∃ (S T : Nat) (q : List Nat), f = S ∧ S < n ∧ t = T ∧ T < n ∧ Best E n S T q ∧ q.length ≤ n ∧ l = S :: q) ∨ (l = [] ∧ IsFar E n f t (-1))
theorem shortest_any (b n r : Nat) (bk ck : Nat → Nat) (L : Nat → Nat → Nat) (labels f t : Int) (w : World) (h : Graph w b n r bk ck L) (hT : Tab w) :
    Calls Tryd.prog 16 #[.pointer (some ⟨b, 0, none⟩), .int .i64 labels, .int .i64 f, .int .i64 t] w fun e w' => (∃ v l, e = .returned v ∧ Ints w.heap.size w' v l ∧ Alike (edge L labels) n f t l) ∧ Below w.heap.size w w' := by
  by_cases hs : f < 0 ∨ (n : Int) ≤ f
  · refine (shortest_off b n r f bk ck L labels t w h hs hT).mono ?_
    rintro e w' ⟨rfl, b1⟩
    exact ⟨⟨_, [], rfl, World.ownsRow_nil _ _ _ _, .inr ⟨rfl, .inr ⟨rfl, fun S T e h1 => by omega⟩⟩⟩, b1⟩
  · obtain ⟨S, rfl⟩ : ∃ S : Nat, f = S := ⟨f.toNat, by omega⟩
    have hS : S < n := by omega
    refine (shortest_is b n r S bk ck L labels t w h hS hT).mono ?_
    rintro e w' ⟨⟨v, rfl, ⟨T, q, rfl, h1, h2, h3, h4⟩ | ⟨rfl, h1⟩⟩, b1⟩
    · exact ⟨⟨v, S :: q, rfl, h4, .inl ⟨S, T, q, rfl, hS, rfl, h1, h2, h3, rfl⟩⟩, b1⟩
    · exact ⟨⟨_, [], rfl, World.ownsRow_nil _ _ _ _, .inr ⟨rfl, .inr ⟨rfl, fun S' T e1 h2 e2 q hq hw => h1 T e2 q hq (by rw [show S = S' by omega]; exact hw)⟩⟩⟩, b1⟩
theorem rshortest_any (b n : Nat) (v : Value) (rw' : Nat → Nat) (L : Nat → Nat → Nat) (labels f t : Int) (l : List Nat) (w : World) (h : RefG w b n v rw' L) (ha : Alike (edge L labels) n f t l) :
    Calls Tryd.prog 17 #[.pointer (some ⟨b, 0, none⟩), .int .i64 labels, .int .i64 f, .int .i64 t] w fun e w' => (∃ v, e = .returned v ∧ Ints w.heap.size w' v l) ∧ Below w.heap.size w w' := by
  rcases ha with ⟨S, T, q, rfl, h1, rfl, h2, h3, h4, rfl⟩ | ⟨rfl, h1⟩
  · refine (rshortest_ok b n v rw' L labels S T q.length w h h1 h2 (h3.dst h1) (by have := h.bound; omega)).mono ?_
    rintro e w' ⟨⟨v', q', rfl, k1, k2⟩, b1⟩
    obtain rfl := h3.uniq h1 k1
    exact ⟨⟨v', rfl, k2⟩, b1⟩
  · refine (rshortest_no b n v rw' L labels f t w h h1).mono ?_
    rintro e w' ⟨rfl, b1⟩
    exact ⟨⟨_, rfl, World.ownsRow_nil _ _ _ _⟩, b1⟩
theorem Alike.short {E : Nat → Nat → Bool} {n : Nat} {f t : Int} {l : List Nat} (h : Alike E n f t l) : l.length ≤ n + 1 := by
  rcases h with ⟨S, T, q, _, _, _, _, _, h4, rfl⟩ | ⟨rfl, _⟩
  · simp; omega
  · simp

set_option maxHeartbeats 8000000 in
set_option maxRecDepth 100000 in
theorem tell_walk (n0 : Int) (ao : Option Addr) (cp : Nat) (es : List (Int × Int × Int)) (labels f t : Int) (w : World) (hz : ArgE w ao es) (hl : es.length ≤ maxLen) (hT : Tab w) :
    Calls Tryd.prog 4 #[.int .i64 n0, .slice ao es.length cp, .int .i64 labels, .int .i64 f, .int .i64 t] w fun e w' => e = .returned (.bool true) ∧ Below w.heap.size w w' := by
  obtain ⟨n, hn, hD⟩ := u64_tmod n0 60 (by decide) (by decide)
  have D := hid (drawn_P n0 n hn hD ao cp es w hz hl)
  have TB := hid hT
  have HN := hid hn
  clear hz hl hT hD hn
  go_enter Tryd.func4, Tryd.ntmps4
  go_wp2_with fail
  go_at_call 14
  refine D.out.mono ?_
  rintro e w1 ⟨⟨b, b2, rfl, r, bk, ck, v, rw', L, g1, r1, -, -, dg⟩, b1⟩
  have B1 := hid b1
  have G1 := hid g1
  have R1 := hid r1
  have T1 := hid (TB.out.later b1)
  clear b1 g1 r1 dg D TB
  go_wp2_with fail
  go_at_call 16
  refine (shortest_any b n r bk ck L labels f t w1 G1.out T1.out).mono ?_
  rintro e w2 ⟨⟨v2, l, rfl, i2, al⟩, c2⟩
  have AL := hid al
  have C2 := hid c2
  have I2 := hid i2
  obtain ⟨a2, k2, rfl, -⟩ := i2.arg
  clear al c2 i2
  rw [List.length_map] at I2 ⊢
  go_wp2_with fail
  go_at_call 17
  refine (rshortest_any b2 n v rw' L labels f t l w2 (R1.out.later C2.out) AL.out).mono ?_
  rintro e w3 ⟨⟨v3, rfl, i3⟩, c3⟩
  have C3 := hid (C2.out.trans (c3.mono C2.out.size))
  obtain ⟨a3, k3, rfl, ar3⟩ := i3.arg
  have I4 := I2.out.later c3
  obtain ⟨a4, k4, e4, ar4⟩ := I4.arg
  rw [List.length_map] at e4 ⊢
  injection e4 with e5 e6 e7
  subst e5
  have E3 := hid (equal_same a2 a3 k2 k3 (l.map fun x : Nat => (x : Int)) w3 ar4 ar3 (by rw [List.length_map]; have := AL.out.short; have := HN.out; unfold maxLen; omega))
  rw [List.length_map] at E3
  clear ar3 ar4 i3 c3 I4 I2 C2 e6 e7
  go_wp2_with fail
  go_at_call 15
  refine E3.out.mono ?_
  rintro e w4 ⟨rfl, q, rfl⟩
  have C4 : Hid (Below w1.heap.size w1 (w3.drewN q)) := below_drewN C3.out q
  clear E3 C3
  generalize w3.drewN q = w4 at *
  go_wp2_with fail
  go_at_call 18
  refine (distance_is b n r f bk ck L labels t w4 (G1.out.later C4.out) (T1.out.later C4.out)).mono ?_
  rintro e w5 ⟨⟨da, rfl, fa, la, ha⟩, c5⟩
  have FA := hid fa
  have C5 := hid (C4.out.trans (c5.mono C4.out.size))
  clear fa c5 C4
  go_wp2_with fail
  go_at_call 19
  refine (rdistance_is b2 n v rw' L labels f t w5 (R1.out.later C5.out)).mono ?_
  rintro e w6 ⟨⟨d6, rfl, f6⟩, c6⟩
  obtain rfl : da = d6 := FA.out.uniq f6
  have C6 := hid (B1.out.trans ((C5.out.trans (c6.mono C5.out.size)).mono B1.out.size))
  clear f6 c6 C5 FA
  have e1 : (da == da) = true := by simp
  go_wp2_with fail
  go_ret
  exact ⟨rfl, C6.out⟩
end Go.Proofs.YtjgmkigfpjmlaabDoor
