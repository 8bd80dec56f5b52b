/-
  The law GraphLives.
-/
import Derived.Test.YtpkfpfflnncleaaDoorI3
import Derived.Test.YtpkfpfflnncleaaDoorB11
namespace Go.Proofs.YtpkfpfflnncleaaDoor
set_option linter.unusedVariables false
set_option linter.unusedSimpArgs false
open Go.RowKit

/-- The labels of an edge, whatever is asked for. -/
def labZ (L : Nat → Nat → Nat) (n : Nat) (f t : Int) : Nat := if (0 ≤ f ∧ f < n) ∧ 0 ≤ t ∧ t < n then L f.toNat t.toNat else 0
theorem Graph.beyond {w : World} {b n r : Nat} {bk ck : Nat → Nat} {L : Nat → Nat → Nat} (h : Graph w b n r bk ck L) (f t : Nat) (hf : f < n) (ht : n ≤ t) : L f t = 0 := by
  apply Nat.eq_of_testBit_eq
  intro i
  rw [Nat.zero_testBit]
  by_cases hi : i < 4
  · have h1 := (h.sets (4 * f + i) (by omega)).top t ht
    have e1 : (4 * f + i) / 4 = f := by omega
    have e2 : (4 * f + i) % 4 = i := by omega
    rw [e1, e2] at h1
    exact h1
  · exact Nat.testBit_lt_two_pow (Nat.lt_of_lt_of_le (h.small f t) (Nat.pow_le_pow_right (n := 2) (i := 4) (by decide) (by omega)))
theorem labels_any (b n r : Nat) (f : Int) (bk ck : Nat → Nat) (L : Nat → Nat → Nat) (tt : Int) (w : World) (h : Graph w b n r bk ck L) :
    Calls Tryd.prog 34 #[.pointer (some ⟨b, 0, none⟩), .int .i64 f, .int .i64 tt] w fun e w' => e = .returned (.int .i64 (labZ L n f tt)) ∧ w = w' := by
  by_cases hf : 0 ≤ f ∧ f < n
  · obtain ⟨F, rfl⟩ : ∃ F : Nat, f = F := ⟨f.toNat, by omega⟩
    have e : labZ L n (F : Int) tt = labAt L F tt := by
      unfold labZ labAt
      by_cases h0 : 0 ≤ tt
      · rw [if_pos h0]
        by_cases h1 : tt < n
        · rw [if_pos ⟨hf, h0, h1⟩]; rfl
        · rw [if_neg (fun c => h1 c.2.2), h.beyond F tt.toNat (by omega) (by omega)]
      · rw [if_neg h0, if_neg (fun c => h0 c.2.1)]
    rw [e]
    exact labels_ok b n r F bk ck L tt w h (by omega)
  · have e : labZ L n f tt = 0 := by unfold labZ; rw [if_neg (fun c => hf c.1)]
    rw [e]
    exact labels_no b n r f bk ck L tt w h (by omega)
theorem rlabels_any (b n : Nat) (v : Value) (rw' : Nat → Nat) (L : Nat → Nat → Nat) (f t : Int) (w : World) (h : RefG w b n v rw' L) :
    Calls Tryd.prog 35 #[.pointer (some ⟨b, 0, none⟩), .int .i64 f, .int .i64 t] w fun e w' => e = .returned (.int .i64 (labZ L n f t)) ∧ w = w' := by
  by_cases hf : (0 ≤ f ∧ f < n) ∧ 0 ≤ t ∧ t < n
  · obtain ⟨F, rfl⟩ : ∃ F : Nat, f = F := ⟨f.toNat, by omega⟩
    obtain ⟨T, rfl⟩ : ∃ T : Nat, t = T := ⟨t.toNat, by omega⟩
    have e : labZ L n (F : Int) (T : Int) = L F T := by unfold labZ; rw [if_pos hf]; rfl
    rw [e]
    exact rlabels_ok b n v rw' L F T w h (by omega) (by omega)
  · have e : labZ L n f t = 0 := by unfold labZ; rw [if_neg hf]
    rw [e]
    exact rlabels_no b n v rw' L f t w h (by omega)
/-- The ends of a node's edges, whatever is asked for. -/
def outZ (L : Nat → Nat → Nat) (n : Nat) (f l : Int) : List Int := if 0 ≤ f ∧ f < n then (lst (endsF L f.toNat l 4) n).map (fun x : Nat => (x : Int)) else []
theorem outZ_len (L : Nat → Nat → Nat) (n : Nat) (f l : Int) : (outZ L n f l).length ≤ n := by
  unfold outZ
  split
  · rw [List.length_map]; exact lst_le _ _
  · simp
theorem out_any (b n r : Nat) (f : Int) (bk ck : Nat → Nat) (L : Nat → Nat → Nat) (l : Int) (w : World) (h : Graph w b n r bk ck L) (hT : Tab w) :
    Calls Tryd.prog 36 #[.pointer (some ⟨b, 0, none⟩), .int .i64 f, .int .i64 l] w fun e w' => (∃ ao cp, e = .returned (.slice ao (outZ L n f l).length cp) ∧ ArgIn w' ao (outZ L n f l)) ∧ Below w.heap.size w w' := by
  by_cases hf : 0 ≤ f ∧ f < n
  · obtain ⟨F, rfl⟩ : ∃ F : Nat, f = F := ⟨f.toNat, by omega⟩
    have e : outZ L n (F : Int) l = (lst (endsF L F l 4) n).map (fun x : Nat => (x : Int)) := by unfold outZ; rw [if_pos hf]; rfl
    rw [e]
    refine (out_ok b n r F bk ck L l w h (by omega) hT).mono ?_
    rintro e w' ⟨⟨v, rfl, hI⟩, bl⟩
    obtain ⟨ao, cp, hv, hA⟩ := hI.arg
    exact ⟨⟨ao, cp, by rw [hv], hA⟩, bl⟩
  · have e : outZ L n f l = [] := by unfold outZ; rw [if_neg hf]
    rw [e]
    refine (out_no b n r f bk ck L l w h (by omega)).mono ?_
    rintro e w' ⟨rfl, rfl⟩
    exact ⟨⟨none, 0, rfl, fun j hj => by simp at hj⟩, Below.refl _ _⟩
theorem rout_any (b n : Nat) (v : Value) (rw' : Nat → Nat) (L : Nat → Nat → Nat) (f l : Int) (w : World) (h : RefG w b n v rw' L) :
    Calls Tryd.prog 37 #[.pointer (some ⟨b, 0, none⟩), .int .i64 f, .int .i64 l] w fun e w' => (∃ ao cp, e = .returned (.slice ao (outZ L n f l).length cp) ∧ ArgIn w' ao (outZ L n f l)) ∧ Below w.heap.size w w' := by
  by_cases hf : 0 ≤ f ∧ f < n
  · obtain ⟨F, rfl⟩ : ∃ F : Nat, f = F := ⟨f.toNat, by omega⟩
    have e : outZ L n (F : Int) l = (lst (endsF L F l 4) n).map (fun x : Nat => (x : Int)) := by unfold outZ; rw [if_pos hf]; rfl
    rw [e]
    refine (rout_ok b n v rw' L F l w h (by omega)).mono ?_
    rintro e w' ⟨⟨v, rfl, hI⟩, bl⟩
    obtain ⟨ao, cp, hv, hA⟩ := hI.arg
    exact ⟨⟨ao, cp, by rw [hv], hA⟩, bl⟩
  · have e : outZ L n f l = [] := by unfold outZ; rw [if_neg hf]
    rw [e]
    refine (rout_no b n v rw' L f l w h (by omega)).mono ?_
    rintro e w' ⟨⟨v, rfl, hI⟩, bl⟩
    obtain ⟨ao, cp, hv, hA⟩ := hI.arg
    exact ⟨⟨ao, cp, by rw [hv]; rfl, hA⟩, bl⟩

set_option maxHeartbeats 4000000 in
theorem glives_no (n : Int) (hn : n < 0 ∨ 300 < n) (ao : Option Addr) (cp : Nat) (es : List (Int × Int × Int)) (f t l : Int) (w : World) (hz : ArgE w ao es) (hl : es.length ≤ maxLen) :
    Calls Tryd.prog 7 #[.int .i64 n, .slice ao es.length cp, .int .i64 f, .int .i64 t, .int .i64 l] w fun e w' => e = .returned (.bool true) ∧ Below w.heap.size w w' := by
  have D := hid (drawn_no n hn ao cp es w hz hl)
  clear hn hz hl
  go_enter Tryd.func7, Tryd.ntmps7
  go_wp2_with fail
  refine D.out.mono ?_
  rintro e w1 ⟨rfl, b1⟩
  have B1 := hid b1
  clear b1
  go_wp2_with fail
  go_ret
  exact ⟨rfl, B1.out⟩

set_option maxHeartbeats 4000000 in
theorem glives_ok (n : Nat) (hn : n ≤ 300) (ao : Option Addr) (cp : Nat) (es : List (Int × Int × Int)) (f t l : Int) (w : World) (hz : ArgE w ao es) (hl : es.length ≤ maxLen) (hT : Tab w) :
    Calls Tryd.prog 7 #[.int .i64 n, .slice ao es.length cp, .int .i64 f, .int .i64 t, .int .i64 l] w fun e w' => e = .returned (.bool true) ∧ Below w.heap.size w w' := by
  have D := hid (drawn_ok n hn ao cp es w hz hl)
  have TB := hid hT
  clear hz hl hT
  go_enter Tryd.func7, Tryd.ntmps7
  go_wp2_with fail
  refine D.out.mono ?_
  rintro e w1 ⟨⟨b, b2, rfl, r, bk, ck, v, rw', L, g1, r1, -, -⟩, b1⟩
  have B1 := hid b1
  have G1 := hid g1
  have R1 := hid r1
  have T1 := hid (TB.out.later b1)
  clear b1 g1 r1 D
  go_wp2_with fail
  go_at_call 33
  refine (gsame_is b n r bk ck L b2 v rw' w1 G1.out R1.out T1.out).mono ?_
  rintro e w2 ⟨rfl, bl⟩
  have B2 := hid (B1.out.trans (bl.mono B1.out.size))
  have G2 := hid (G1.out.later bl)
  have R2 := hid (R1.out.later bl)
  have T2 := hid (T1.out.later bl)
  clear bl B1 G1 R1 T1
  go_wp2_with fail
  go_at_call 34
  refine (labels_any b n r f bk ck L t w2 G2.out).mono ?_
  rintro e w' ⟨rfl, rfl⟩
  go_wp2_with fail
  go_at_call 35
  refine (rlabels_any b2 n v rw' L f t _ R2.out).mono ?_
  rintro e w' ⟨rfl, rfl⟩
  generalize labZ L n f t = z
  have hzz : ((z : Int) == (z : Int)) = true := by simp
  go_wp2_with fail
  go_at_call 36
  refine (out_any b n r f bk ck L l _ G2.out T2.out).mono ?_
  rintro e w3 ⟨⟨a3, c3, rfl, hA⟩, bl⟩
  have B3 := hid (B2.out.trans (bl.mono B2.out.size))
  have R3 := hid (R2.out.later bl)
  have LA := hid hA
  clear hA bl B2 R2 T2 G2
  go_wp2_with fail
  go_at_call 37
  refine (rout_any b2 n v rw' L f l _ R3.out).mono ?_
  rintro e w4 ⟨⟨a4, c4, rfl, hA⟩, bl⟩
  have B4 := hid (B3.out.trans (bl.mono B3.out.size))
  have LB := hid hA
  have LA4 := hid (LA.out.later bl)
  clear hA bl B3 R3 LA
  go_wp2_with fail
  go_at_call 22
  refine (equal_same a3 a4 c3 c4 (outZ L n f l) _ LA4.out LB.out (by have := outZ_len L n f l; unfold maxLen; omega)).mono ?_
  rintro e w' ⟨rfl, q, rfl⟩
  go_wp2_with fail
  go_ret
  exact ⟨rfl, below_drewN B4.out q⟩
theorem glives_walk (n : Int) (ao : Option Addr) (cp : Nat) (es : List (Int × Int × Int)) (f t l : Int) (w : World) (hz : ArgE w ao es) (hl : es.length ≤ maxLen) (hT : Tab w) :
    Calls Tryd.prog 7 #[.int .i64 n, .slice ao es.length cp, .int .i64 f, .int .i64 t, .int .i64 l] w fun e w' => e = .returned (.bool true) ∧ Below w.heap.size w w' := by
  by_cases hn : 0 ≤ n ∧ n ≤ 300
  · obtain ⟨N, rfl⟩ : ∃ N : Nat, n = N := ⟨n.toNat, by omega⟩
    exact glives_ok N (by omega) ao cp es f t l w hz hl hT
  · exact glives_no n (by omega) ao cp es f t l w hz hl
end Go.Proofs.YtpkfpfflnncleaaDoor
