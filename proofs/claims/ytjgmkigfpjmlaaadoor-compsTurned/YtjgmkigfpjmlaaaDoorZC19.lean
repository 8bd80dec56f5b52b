/-
  The law CompsTurned.
-/
import Derived.Test.YtjgmkigfpjmlaaaDoorZC17
import Derived.Test.YtjgmkigfpjmlaaaDoorZJ9
namespace Go.Proofs.YtjgmkigfpjmlaaaDoor
set_option linter.unusedVariables false
set_option linter.unusedSimpArgs false
open Go.RowKit

/-- A walk, turned round. -/
theorem Rs.back {E E' : Nat → Nat → Bool} {n : Nat} (hE : ∀ u v, u < n → v < n → E' u v = E v u) {v : Nat} : ∀ (r : List Nat) (u : Nat), u < n → Wl E n u r v → Rs E' n v u
  | [], u, _, h => by cases h; exact Rs.refl _ _ _
  | m :: r, u, hu, h => (Rs.back hE r m h.2.1 h.2.2).trans (Rs.edge (by rw [hE m u h.2.1 hu]; exact h.1) hu)
theorem IsComp.turn {E E' : Nat → Nat → Bool} {n : Nat} (hE : ∀ u v, u < n → v < n → E' u v = E v u) {c : List Nat} (h : IsComp E n c) : IsComp E' n c := by
  obtain ⟨h1, u, hu, h2⟩ := h
  refine ⟨h1, u, hu, fun v => ?_⟩
  rw [h2 v]
  have hE' : ∀ u v, u < n → v < n → E u v = E' v u := fun u v a b => (hE v u b a).symm
  constructor
  · rintro ⟨hv, ⟨r, hr⟩, ⟨q, hq⟩⟩
    exact ⟨hv, Rs.back hE q v hv hq, Rs.back hE r u hu hr⟩
  · rintro ⟨hv, ⟨r, hr⟩, ⟨q, hq⟩⟩
    exact ⟨hv, Rs.back hE' q v hv hq, Rs.back hE' r u hu hr⟩
theorem IsComps.turn {E E' : Nat → Nat → Bool} {n : Nat} (hE : ∀ u v, u < n → v < n → E' u v = E v u) {cs : List (List Nat)} (h : IsComps E n cs) : IsComps E' n cs :=
  ⟨fun c hc => (h.1 c hc).turn hE, h.2.1, h.2.2⟩
theorem edge_turn (L : Nat → Nat → Nat) (labels : Int) (n u v : Nat) (hu : u < n) (hv : v < n) : edge L labels u v = edge (turnL L n) labels v u := by
  show endsF L u labels 4 v = endsF (turnL L n) v labels 4 u
  unfold endsF turnL
  rw [if_pos ⟨hv, hu⟩]

set_option maxHeartbeats 8000000 in
set_option maxRecDepth 100000 in
theorem turned_walk (n0 : Int) (ao : Option Addr) (cp : Nat) (es : List (Int × Int × Int)) (labels : Int) (w : World) (hz : ArgE w ao es) (hl : es.length ≤ maxLen) (hT : Tab w) :
    Calls Tryd.prog 7 #[.int .i64 n0, .slice ao es.length cp, .int .i64 labels] w fun e w' => e = .returned (.bool true) ∧ Below w.heap.size w w' := by
  obtain ⟨n, hn, hD0⟩ := u64_tmod n0 60 (by decide) (by decide)
  have hD : (IntKind.u64.wrap n0).tmod 60 = (n : Int) := hD0
  clear hD0
  have DR := hid (drawn_P n0 n hn hD ao cp es w hz hl)
  have TB := hid hT
  have hni : (n : Int) < 60 := by omega
  clear hz hT hD
  go_enter Tryd.func7, Tryd.ntmps7
  go_wp2_with (go_at_call 9; refine DR.out.mono ?_; rintro e w1 ⟨⟨b, b2, rfl, h1⟩, bl⟩; have BO := hid h1; have B1 := hid bl; clear h1 bl)
  obtain ⟨r, bk, ck, v, rw', L, hG, hR, -, -, hS⟩ := BO.out
  have G := hid hG
  have R := hid hR
  have SL := hid hS
  have T1 := hid (TB.out.later B1.out)
  clear hG hR hS BO DR
  go_at_call 11
  refine (comps_is b n r bk ck L labels w1 G.out T1.out).mono ?_
  rintro e w2 ⟨⟨v2, fs, rfl, f2, c2⟩, b2'⟩
  have F2 := hid f2
  have C2 := hid c2
  have B2 := hid b2'
  obtain ⟨oa, oc, hv2, _⟩ := f2.at
  subst hv2
  clear f2 c2 b2'
  have TU := hid (turn_is b n r bk ck L w2 (G.out.later B2.out) (T1.out.later B2.out))
  go_wp2_with fail
  go_at_call 19
  refine TU.out.mono ?_
  rintro e w3 ⟨⟨b', r', bk', ck', rfl, g3, _⟩, b3⟩
  have G3 := hid (g3.turned G.out.small SL.out)
  have B3 := hid (B2.out.trans (b3.mono B2.out.size))
  have F3 := hid (F2.out.later b3)
  have T3 := hid (T1.out.later B3.out)
  clear g3 b3 F2 TU B2
  go_wp2_with fail
  go_at_call 11
  refine (comps_is b' n r' bk' ck' _ labels w3 G3.out T3.out).mono ?_
  rintro e w4 ⟨⟨v4, fs4, rfl, f4, c4⟩, b4⟩
  have F4 := hid f4
  have C4 := hid (c4.turn (edge_turn L labels n))
  have F5 := hid (F3.out.later b4)
  have B4 := hid (B3.out.trans (b4.mono B3.out.size))
  obtain ⟨pa, pc, hv4, _⟩ := f4.at
  subst hv4
  have hlen := C2.out.len
  rw [List.length_map] at hlen
  have EQ := hid (equalF_is w4 _ _ _ _ fs fs4 F5.out F4.out (C2.out.uniq C4.out) (by omega) (fun p hp => by have := hlen.2 p.1 (List.mem_map_of_mem hp); omega))
  clear f4 c4 b4 F3 F4 F5 C4 B3 hlen G3 T3
  go_wp2_with fail
  go_at_call 10
  refine EQ.out.mono ?_
  rintro e w5 ⟨rfl, b5⟩
  have B5 := hid (B4.out.trans (b5.mono B4.out.size))
  clear b5 EQ B4
  have RC := hid (rcomps_is b2 n v rw' L labels w5 (R.out.later B5.out) hn)
  go_wp2_with fail
  go_at_call 12
  refine RC.out.mono ?_
  rintro e w6 ⟨⟨v6, fs6, rfl, f6, c6⟩, b6⟩
  have hq : fs.length = fs6.length := by have := congrArg List.length (C2.out.uniq c6); simpa using this
  obtain ⟨qa, qc, hv6, _⟩ := f6.at
  subst hv6
  have hqb : ((fs.length : Int) == (fs6.length : Int)) = true := by rw [hq]; simp
  have B6 : Hid (Below w.heap.size w w6) := B1.out.trans ((B5.out.trans (b6.mono B5.out.size)).mono B1.out.size)
  clear hq f6 c6 b6 RC
  go_wp2_with fail
  go_ret
  exact ⟨rfl, B6.out⟩
end Go.Proofs.YtjgmkigfpjmlaaaDoor
