/-
  The walk of the law BitsMeets.
-/
import Derived.Test.YtpkfpfflnncleaaB11
import Derived.Test.YtpkfpfflnncleaaB13
import Derived.Test.YtpkfpfflnncleaaB15
namespace Go.Proofs.Ytpkfpfflnncleaa
set_option linter.unusedVariables false
set_option linter.unusedSimpArgs false
open Go.RowKit

theorem filled_ex (N : Nat) (ao : Option Addr) (cp : Nat) (zs : List Int) (w : World) (hz : ArgIn w ao zs) (hl : zs.length ≤ maxLen) (hN1 : 1 ≤ N) (hN2 : N ≤ 4096) :
    Calls Try.prog 4 #[.int .i64 N, .slice ao zs.length cp] w fun e w' => (∃ b c, e = .returned (.pointer (some ⟨b, 0, none⟩)) ∧ Is w' b N c (hits N zs) ∧ w.heap.size ≤ b ∧ w.heap.size ≤ c ∧ b < w'.heap.size ∧ c < w'.heap.size) ∧ Below w.heap.size w w' := by
  refine (filled_is N ao cp zs w hz hl hN1 hN2).mono ?_
  rintro e w' ⟨rfl, i, bl, z⟩
  exact ⟨⟨_, _, rfl, i, by omega, by omega, by omega, by omega⟩, bl⟩
theorem copy_ex (b n c : Nat) (f : Nat → Bool) (w : World) (h : Is w b n c f) :
    Calls Try.prog 6 #[.pointer (some ⟨b, 0, none⟩)] w fun e w' => (∃ b' c', e = .returned (.pointer (some ⟨b', 0, none⟩)) ∧ Is w' b' n c' f ∧ w.heap.size ≤ b' ∧ w.heap.size ≤ c' ∧ b' < w'.heap.size ∧ c' < w'.heap.size) ∧ Below w.heap.size w w' := by
  refine (copy_is b n c f w h).mono ?_
  rintro e w' ⟨rfl, i, bl, z⟩
  exact ⟨⟨_, _, rfl, i, by omega, by omega, by omega, by omega⟩, bl⟩
theorem cnt_both (f g : Nat → Bool) (n : Nat) : Pop.cnt (fun i => f i || g i) n + Pop.cnt (fun i => f i && g i) n = Pop.cnt f n + Pop.cnt g n := by
  induction n with
  | zero => rfl
  | succ n ih =>
    show Pop.cnt _ n + (f n || g n).toNat + (Pop.cnt _ n + (f n && g n).toNat) = Pop.cnt f n + (f n).toNat + (Pop.cnt g n + (g n).toNat)
    have : (f n || g n).toNat + (f n && g n).toNat = (f n).toNat + (g n).toNat := by cases f n <;> cases g n <;> rfl
    omega

set_option maxHeartbeats 8000000 in
theorem meets_walk (n : Int) (a1 a2 : Option Addr) (cp1 cp2 : Nat) (zs ys : List Int) (w : World) (hz : ArgIn w a1 zs) (hy : ArgIn w a2 ys) (hl : zs.length ≤ maxLen) (hl2 : ys.length ≤ maxLen) :
    Calls Try.prog 3 #[.int .i64 n, .slice a1 zs.length cp1, .slice a2 ys.length cp2] w fun e w' => e = .returned (.bool true) ∧ Below w.heap.size w w' := by
  obtain ⟨N, hN1, hN2, hN0⟩ := mod_one n 200 (by decide) (by decide)
  have hN : wrap64 (1 + wrap64 ((IntKind.u64.wrap n).tmod 200)) = (N : Int) := hN0
  clear hN0
  have HZ := hid hz
  have HY := hid hy
  have HL := hid hl
  have HL2 := hid hl2
  clear hz hy hl hl2
  have hNi : (N : Int) ≤ 200 := by omega
  have hNN : ((N : Int) == (N : Int)) = true := by simp
  have B : Hid (Below w.heap.size w w) := Below.refl _ _
  go_enter Try.func3, Try.ntmps3
  go_wp2_with fail
  go_at_call 4
  refine (filled_ex N a1 cp1 zs w (HZ.out.later B.out) HL.out (by omega) (by omega)).mono ?_
  rintro e w1 ⟨⟨b_s, c_s, rfl, i_s, p1_s, p2_s, p3_s, p4_s⟩, bl⟩
  have I_s : Hid (Is w1 b_s N c_s (hits N zs)) := i_s
  replace B : Hid (Below w.heap.size w w1) := B.out.trans (bl.mono B.out.size)
  have szw1 : w.heap.size ≤ w1.heap.size := B.out.size
  have syw1 : w.heap.size ≤ w1.heap.size := bl.size
  clear i_s bl
  go_wp2_with fail
  go_at_call 4
  refine (filled_ex N a2 cp2 ys w1 (HY.out.later B.out) HL2.out (by omega) (by omega)).mono ?_
  rintro e w2 ⟨⟨b_t, c_t, rfl, i_t, p1_t, p2_t, p3_t, p4_t⟩, bl⟩
  replace I_s : Hid (Is w2 b_s N c_s (hits N zs)) := I_s.out.later bl
  have I_t : Hid (Is w2 b_t N c_t (hits N ys)) := i_t
  replace B : Hid (Below w.heap.size w w2) := B.out.trans (bl.mono B.out.size)
  have szw2 : w.heap.size ≤ w2.heap.size := B.out.size
  have syw2 : w1.heap.size ≤ w2.heap.size := bl.size
  clear i_t bl
  go_wp2_with fail
  go_at_call 4
  refine (filled_ex N a2 cp2 ys w2 (HY.out.later B.out) HL2.out (by omega) (by omega)).mono ?_
  rintro e w3 ⟨⟨b_x, c_x, rfl, i_x, p1_x, p2_x, p3_x, p4_x⟩, bl⟩
  replace I_s : Hid (Is w3 b_s N c_s (hits N zs)) := I_s.out.later bl
  replace I_t : Hid (Is w3 b_t N c_t (hits N ys)) := I_t.out.later bl
  have I_x : Hid (Is w3 b_x N c_x (hits N ys)) := i_x
  replace B : Hid (Below w.heap.size w w3) := B.out.trans (bl.mono B.out.size)
  have szw3 : w.heap.size ≤ w3.heap.size := B.out.size
  have syw3 : w2.heap.size ≤ w3.heap.size := bl.size
  clear i_x bl
  go_wp2_with fail
  go_at_call 4
  refine (filled_ex N a1 cp1 zs w3 (HZ.out.later B.out) HL.out (by omega) (by omega)).mono ?_
  rintro e w4 ⟨⟨b_y, c_y, rfl, i_y, p1_y, p2_y, p3_y, p4_y⟩, bl⟩
  replace I_s : Hid (Is w4 b_s N c_s (hits N zs)) := I_s.out.later bl
  replace I_t : Hid (Is w4 b_t N c_t (hits N ys)) := I_t.out.later bl
  replace I_x : Hid (Is w4 b_x N c_x (hits N ys)) := I_x.out.later bl
  have I_y : Hid (Is w4 b_y N c_y (hits N zs)) := i_y
  replace B : Hid (Below w.heap.size w w4) := B.out.trans (bl.mono B.out.size)
  have szw4 : w.heap.size ≤ w4.heap.size := B.out.size
  have syw4 : w3.heap.size ≤ w4.heap.size := bl.size
  clear i_y bl
  go_wp2_with (go_at_call 5; refine (bound_is _ _ _ _ _ I_s.out).mono ?_; rintro e w' ⟨rfl, rfl⟩)
  go_wp2_with fail
  go_at_call 6
  refine (copy_ex b_s N c_s (hits N zs) w4 I_s.out).mono ?_
  rintro e w5 ⟨⟨b_u, c_u, rfl, i_u, p1_u, p2_u, p3_u, p4_u⟩, bl⟩
  replace I_s : Hid (Is w5 b_s N c_s (hits N zs)) := I_s.out.later bl
  replace I_t : Hid (Is w5 b_t N c_t (hits N ys)) := I_t.out.later bl
  replace I_x : Hid (Is w5 b_x N c_x (hits N ys)) := I_x.out.later bl
  replace I_y : Hid (Is w5 b_y N c_y (hits N zs)) := I_y.out.later bl
  have I_u : Hid (Is w5 b_u N c_u (hits N zs)) := i_u
  replace B : Hid (Below w.heap.size w w5) := B.out.trans (bl.mono B.out.size)
  have szw5 : w.heap.size ≤ w5.heap.size := B.out.size
  have syw5 : w4.heap.size ≤ w5.heap.size := bl.size
  clear i_u bl
  go_wp2_with fail
  go_at_call 6
  refine (copy_ex b_t N c_t (hits N ys) w5 I_t.out).mono ?_
  rintro e w6 ⟨⟨b_v, c_v, rfl, i_v, p1_v, p2_v, p3_v, p4_v⟩, bl⟩
  replace I_s : Hid (Is w6 b_s N c_s (hits N zs)) := I_s.out.later bl
  replace I_t : Hid (Is w6 b_t N c_t (hits N ys)) := I_t.out.later bl
  replace I_x : Hid (Is w6 b_x N c_x (hits N ys)) := I_x.out.later bl
  replace I_y : Hid (Is w6 b_y N c_y (hits N zs)) := I_y.out.later bl
  replace I_u : Hid (Is w6 b_u N c_u (hits N zs)) := I_u.out.later bl
  have I_v : Hid (Is w6 b_v N c_v (hits N ys)) := i_v
  replace B : Hid (Below w.heap.size w w6) := B.out.trans (bl.mono B.out.size)
  have szw6 : w.heap.size ≤ w6.heap.size := B.out.size
  have syw6 : w5.heap.size ≤ w6.heap.size := bl.size
  clear i_v bl
  go_wp2_with fail
  go_at_call 7
  refine (or_is b_s N c_s (hits N zs) b_t c_t (hits N ys) w6 I_s.out I_t.out (by omega) (by omega)).mono ?_
  rintro e w7 ⟨⟨tw7, rfl, htw7⟩, i_s, be, z⟩
  replace I_t : Hid (Is w7 b_t N c_t (hits N ys)) := I_t.out.beside be (by omega) (by omega)
  replace I_x : Hid (Is w7 b_x N c_x (hits N ys)) := I_x.out.beside be (by omega) (by omega)
  replace I_y : Hid (Is w7 b_y N c_y (hits N zs)) := I_y.out.beside be (by omega) (by omega)
  replace I_u : Hid (Is w7 b_u N c_u (hits N zs)) := I_u.out.beside be (by omega) (by omega)
  replace I_v : Hid (Is w7 b_v N c_v (hits N ys)) := I_v.out.beside be (by omega) (by omega)
  replace I_s : Hid (Is w7 b_s N c_s (fun i => hits N zs i || hits N ys i)) := i_s
  replace B : Hid (Below w.heap.size w w7) := B.out.trans (be.below (by omega) B.out.size)
  have szw7 : w.heap.size ≤ w7.heap.size := B.out.size
  have syw7 : w6.heap.size ≤ w7.heap.size := be.size
  have HTw7 := hid htw7
  clear i_s be z htw7
  go_wp2_with fail
  go_at_call 7
  refine (or_is b_x N c_x (hits N ys) b_y c_y (hits N zs) w7 I_x.out I_y.out (by omega) (by omega)).mono ?_
  rintro e w8 ⟨⟨tw8, rfl, htw8⟩, i_x, be, z⟩
  replace I_s : Hid (Is w8 b_s N c_s (fun i => hits N zs i || hits N ys i)) := I_s.out.beside be (by omega) (by omega)
  replace I_t : Hid (Is w8 b_t N c_t (hits N ys)) := I_t.out.beside be (by omega) (by omega)
  replace I_y : Hid (Is w8 b_y N c_y (hits N zs)) := I_y.out.beside be (by omega) (by omega)
  replace I_u : Hid (Is w8 b_u N c_u (hits N zs)) := I_u.out.beside be (by omega) (by omega)
  replace I_v : Hid (Is w8 b_v N c_v (hits N ys)) := I_v.out.beside be (by omega) (by omega)
  replace I_x : Hid (Is w8 b_x N c_x (fun i => hits N zs i || hits N ys i)) := i_x.congr (fun k => Bool.or_comm _ _)
  replace B : Hid (Below w.heap.size w w8) := B.out.trans (be.below (by omega) B.out.size)
  have szw8 : w.heap.size ≤ w8.heap.size := B.out.size
  have syw8 : w7.heap.size ≤ w8.heap.size := be.size
  have HTw8 := hid htw8
  clear i_x be z htw8
  go_wp2_with fail
  go_at_call 8
  refine (and_is b_u N c_u (hits N zs) b_v c_v (hits N ys) w8 I_u.out I_v.out (by omega) (by omega)).mono ?_
  rintro e w9 ⟨⟨tw9, rfl, htw9⟩, i_u, be, z⟩
  replace I_s : Hid (Is w9 b_s N c_s (fun i => hits N zs i || hits N ys i)) := I_s.out.beside be (by omega) (by omega)
  replace I_t : Hid (Is w9 b_t N c_t (hits N ys)) := I_t.out.beside be (by omega) (by omega)
  replace I_x : Hid (Is w9 b_x N c_x (fun i => hits N zs i || hits N ys i)) := I_x.out.beside be (by omega) (by omega)
  replace I_y : Hid (Is w9 b_y N c_y (hits N zs)) := I_y.out.beside be (by omega) (by omega)
  replace I_v : Hid (Is w9 b_v N c_v (hits N ys)) := I_v.out.beside be (by omega) (by omega)
  replace I_u : Hid (Is w9 b_u N c_u (fun i => hits N zs i && hits N ys i)) := i_u
  replace B : Hid (Below w.heap.size w w9) := B.out.trans (be.below (by omega) B.out.size)
  have szw9 : w.heap.size ≤ w9.heap.size := B.out.size
  have syw9 : w8.heap.size ≤ w9.heap.size := be.size
  have HTw9 := hid htw9
  clear i_u be z htw9
  go_wp2_with fail
  go_at_call 4
  refine (filled_ex N a1 cp1 zs w9 (HZ.out.later B.out) HL.out (by omega) (by omega)).mono ?_
  rintro e w10 ⟨⟨b_p, c_p, rfl, i_p, p1_p, p2_p, p3_p, p4_p⟩, bl⟩
  replace I_s : Hid (Is w10 b_s N c_s (fun i => hits N zs i || hits N ys i)) := I_s.out.later bl
  replace I_t : Hid (Is w10 b_t N c_t (hits N ys)) := I_t.out.later bl
  replace I_x : Hid (Is w10 b_x N c_x (fun i => hits N zs i || hits N ys i)) := I_x.out.later bl
  replace I_y : Hid (Is w10 b_y N c_y (hits N zs)) := I_y.out.later bl
  replace I_u : Hid (Is w10 b_u N c_u (fun i => hits N zs i && hits N ys i)) := I_u.out.later bl
  replace I_v : Hid (Is w10 b_v N c_v (hits N ys)) := I_v.out.later bl
  have I_p : Hid (Is w10 b_p N c_p (hits N zs)) := i_p
  replace B : Hid (Below w.heap.size w w10) := B.out.trans (bl.mono B.out.size)
  have szw10 : w.heap.size ≤ w10.heap.size := B.out.size
  have syw10 : w9.heap.size ≤ w10.heap.size := bl.size
  clear i_p bl
  go_wp2_with fail
  go_at_call 8
  refine (and_is b_v N c_v (hits N ys) b_p c_p (hits N zs) w10 I_v.out I_p.out (by omega) (by omega)).mono ?_
  rintro e w11 ⟨⟨tw11, rfl, htw11⟩, i_v, be, z⟩
  replace I_s : Hid (Is w11 b_s N c_s (fun i => hits N zs i || hits N ys i)) := I_s.out.beside be (by omega) (by omega)
  replace I_t : Hid (Is w11 b_t N c_t (hits N ys)) := I_t.out.beside be (by omega) (by omega)
  replace I_x : Hid (Is w11 b_x N c_x (fun i => hits N zs i || hits N ys i)) := I_x.out.beside be (by omega) (by omega)
  replace I_y : Hid (Is w11 b_y N c_y (hits N zs)) := I_y.out.beside be (by omega) (by omega)
  replace I_u : Hid (Is w11 b_u N c_u (fun i => hits N zs i && hits N ys i)) := I_u.out.beside be (by omega) (by omega)
  replace I_p : Hid (Is w11 b_p N c_p (hits N zs)) := I_p.out.beside be (by omega) (by omega)
  replace I_v : Hid (Is w11 b_v N c_v (fun i => hits N zs i && hits N ys i)) := i_v.congr (fun k => Bool.and_comm _ _)
  replace B : Hid (Below w.heap.size w w11) := B.out.trans (be.below (by omega) B.out.size)
  have szw11 : w.heap.size ≤ w11.heap.size := B.out.size
  have syw11 : w10.heap.size ≤ w11.heap.size := be.size
  have HTw11 := hid htw11
  clear i_v be z htw11
  go_wp2_with fail
  go_at_call 7
  refine (or_is b_s N c_s (fun i => hits N zs i || hits N ys i) b_t c_t (hits N ys) w11 I_s.out I_t.out (by omega) (by omega)).mono ?_
  rintro e w12 ⟨⟨tw12, rfl, htw12⟩, i_s, be, z⟩
  replace I_t : Hid (Is w12 b_t N c_t (hits N ys)) := I_t.out.beside be (by omega) (by omega)
  replace I_x : Hid (Is w12 b_x N c_x (fun i => hits N zs i || hits N ys i)) := I_x.out.beside be (by omega) (by omega)
  replace I_y : Hid (Is w12 b_y N c_y (hits N zs)) := I_y.out.beside be (by omega) (by omega)
  replace I_u : Hid (Is w12 b_u N c_u (fun i => hits N zs i && hits N ys i)) := I_u.out.beside be (by omega) (by omega)
  replace I_v : Hid (Is w12 b_v N c_v (fun i => hits N zs i && hits N ys i)) := I_v.out.beside be (by omega) (by omega)
  replace I_p : Hid (Is w12 b_p N c_p (hits N zs)) := I_p.out.beside be (by omega) (by omega)
  replace I_s : Hid (Is w12 b_s N c_s (fun i => hits N zs i || hits N ys i)) := i_s.congr (fun k => by cases hits N zs k <;> cases hits N ys k <;> rfl)
  replace B : Hid (Below w.heap.size w w12) := B.out.trans (be.below (by omega) B.out.size)
  have szw12 : w.heap.size ≤ w12.heap.size := B.out.size
  have syw12 : w11.heap.size ≤ w12.heap.size := be.size
  have HTw12 := hid htw12
  clear i_s be z htw12
  obtain rfl : tw12 = false := by
    cases ht : tw12
    · rfl
    · exact absurd (HTw12.out.1 ht) (by rintro ⟨i, hi⟩; apply hi; cases hits N zs i <;> cases hits N ys i <;> rfl)
  go_wp2_with fail
  go_at_call 4
  refine (filled_ex N a2 cp2 ys w12 (HY.out.later B.out) HL2.out (by omega) (by omega)).mono ?_
  rintro e w13 ⟨⟨b_q, c_q, rfl, i_q, p1_q, p2_q, p3_q, p4_q⟩, bl⟩
  replace I_s : Hid (Is w13 b_s N c_s (fun i => hits N zs i || hits N ys i)) := I_s.out.later bl
  replace I_t : Hid (Is w13 b_t N c_t (hits N ys)) := I_t.out.later bl
  replace I_x : Hid (Is w13 b_x N c_x (fun i => hits N zs i || hits N ys i)) := I_x.out.later bl
  replace I_y : Hid (Is w13 b_y N c_y (hits N zs)) := I_y.out.later bl
  replace I_u : Hid (Is w13 b_u N c_u (fun i => hits N zs i && hits N ys i)) := I_u.out.later bl
  replace I_v : Hid (Is w13 b_v N c_v (fun i => hits N zs i && hits N ys i)) := I_v.out.later bl
  replace I_p : Hid (Is w13 b_p N c_p (hits N zs)) := I_p.out.later bl
  have I_q : Hid (Is w13 b_q N c_q (hits N ys)) := i_q
  replace B : Hid (Below w.heap.size w w13) := B.out.trans (bl.mono B.out.size)
  have szw13 : w.heap.size ≤ w13.heap.size := B.out.size
  have syw13 : w12.heap.size ≤ w13.heap.size := bl.size
  clear i_q bl
  go_wp2_with fail
  go_at_call 8
  refine (and_is b_u N c_u (fun i => hits N zs i && hits N ys i) b_q c_q (hits N ys) w13 I_u.out I_q.out (by omega) (by omega)).mono ?_
  rintro e w14 ⟨⟨tw14, rfl, htw14⟩, i_u, be, z⟩
  replace I_s : Hid (Is w14 b_s N c_s (fun i => hits N zs i || hits N ys i)) := I_s.out.beside be (by omega) (by omega)
  replace I_t : Hid (Is w14 b_t N c_t (hits N ys)) := I_t.out.beside be (by omega) (by omega)
  replace I_x : Hid (Is w14 b_x N c_x (fun i => hits N zs i || hits N ys i)) := I_x.out.beside be (by omega) (by omega)
  replace I_y : Hid (Is w14 b_y N c_y (hits N zs)) := I_y.out.beside be (by omega) (by omega)
  replace I_v : Hid (Is w14 b_v N c_v (fun i => hits N zs i && hits N ys i)) := I_v.out.beside be (by omega) (by omega)
  replace I_p : Hid (Is w14 b_p N c_p (hits N zs)) := I_p.out.beside be (by omega) (by omega)
  replace I_q : Hid (Is w14 b_q N c_q (hits N ys)) := I_q.out.beside be (by omega) (by omega)
  replace I_u : Hid (Is w14 b_u N c_u (fun i => hits N zs i && hits N ys i)) := i_u.congr (fun k => by cases hits N zs k <;> cases hits N ys k <;> rfl)
  replace B : Hid (Below w.heap.size w w14) := B.out.trans (be.below (by omega) B.out.size)
  have szw14 : w.heap.size ≤ w14.heap.size := B.out.size
  have syw14 : w13.heap.size ≤ w14.heap.size := be.size
  have HTw14 := hid htw14
  clear i_u be z htw14
  obtain rfl : tw14 = false := by
    cases ht : tw14
    · rfl
    · exact absurd (HTw14.out.1 ht) (by rintro ⟨i, hi⟩; apply hi; cases hits N zs i <;> cases hits N ys i <;> rfl)
  go_wp2_with fail
  go_at_call 9
  refine (same_is b_s N c_s (fun i => hits N zs i || hits N ys i) b_x N c_x (fun i => hits N zs i || hits N ys i) _ I_s.out I_x.out).mono ?_
  rintro e w15 ⟨⟨tw15, rfl, htw15⟩, qw15, hqw15⟩
  obtain rfl : tw15 = true := htw15.2 ⟨rfl, fun i => rfl⟩
  have bl : Below w14.heap.size w14 w15 := by rw [hqw15]; exact below_drewN (Below.refl _ _) _
  replace I_s : Hid (Is w15 b_s N c_s (fun i => hits N zs i || hits N ys i)) := I_s.out.later bl
  replace I_t : Hid (Is w15 b_t N c_t (hits N ys)) := I_t.out.later bl
  replace I_x : Hid (Is w15 b_x N c_x (fun i => hits N zs i || hits N ys i)) := I_x.out.later bl
  replace I_y : Hid (Is w15 b_y N c_y (hits N zs)) := I_y.out.later bl
  replace I_u : Hid (Is w15 b_u N c_u (fun i => hits N zs i && hits N ys i)) := I_u.out.later bl
  replace I_v : Hid (Is w15 b_v N c_v (fun i => hits N zs i && hits N ys i)) := I_v.out.later bl
  replace I_p : Hid (Is w15 b_p N c_p (hits N zs)) := I_p.out.later bl
  replace I_q : Hid (Is w15 b_q N c_q (hits N ys)) := I_q.out.later bl
  replace B : Hid (Below w.heap.size w w15) := B.out.trans (bl.mono B.out.size)
  have szw15 : w.heap.size ≤ w15.heap.size := B.out.size
  have syw15 : w14.heap.size ≤ w15.heap.size := bl.size
  clear bl hqw15 htw15
  go_wp2_with fail
  go_at_call 9
  refine (same_is b_u N c_u (fun i => hits N zs i && hits N ys i) b_v N c_v (fun i => hits N zs i && hits N ys i) _ I_u.out I_v.out).mono ?_
  rintro e w16 ⟨⟨tw16, rfl, htw16⟩, qw16, hqw16⟩
  obtain rfl : tw16 = true := htw16.2 ⟨rfl, fun i => rfl⟩
  have bl : Below w15.heap.size w15 w16 := by rw [hqw16]; exact below_drewN (Below.refl _ _) _
  replace I_s : Hid (Is w16 b_s N c_s (fun i => hits N zs i || hits N ys i)) := I_s.out.later bl
  replace I_t : Hid (Is w16 b_t N c_t (hits N ys)) := I_t.out.later bl
  replace I_x : Hid (Is w16 b_x N c_x (fun i => hits N zs i || hits N ys i)) := I_x.out.later bl
  replace I_y : Hid (Is w16 b_y N c_y (hits N zs)) := I_y.out.later bl
  replace I_u : Hid (Is w16 b_u N c_u (fun i => hits N zs i && hits N ys i)) := I_u.out.later bl
  replace I_v : Hid (Is w16 b_v N c_v (fun i => hits N zs i && hits N ys i)) := I_v.out.later bl
  replace I_p : Hid (Is w16 b_p N c_p (hits N zs)) := I_p.out.later bl
  replace I_q : Hid (Is w16 b_q N c_q (hits N ys)) := I_q.out.later bl
  replace B : Hid (Below w.heap.size w w16) := B.out.trans (bl.mono B.out.size)
  have szw16 : w.heap.size ≤ w16.heap.size := B.out.size
  have syw16 : w15.heap.size ≤ w16.heap.size := bl.size
  clear bl hqw16 htw16
  have CS := count_is _ _ _ _ _ I_s.out
  have CU := count_is _ _ _ _ _ I_u.out
  have HCS := hid CS
  have HCU := hid CU
  clear CS CU
  have CB := hid (cnt_both (hits N zs) (hits N ys) N)
  have hS : Pop.cnt (fun i => hits N zs i || hits N ys i) N ≤ 200 := Nat.le_trans (Pop.cnt_le _ _) (by omega)
  have hU : Pop.cnt (fun i => hits N zs i && hits N ys i) N ≤ 200 := Nat.le_trans (Pop.cnt_le _ _) (by omega)
  have hA : Pop.cnt (hits N zs) N ≤ 200 := Nat.le_trans (Pop.cnt_le _ _) (by omega)
  have hB : Pop.cnt (hits N ys) N ≤ 200 := Nat.le_trans (Pop.cnt_le _ _) (by omega)
  have hQ : ((Pop.cnt (fun i => hits N zs i || hits N ys i) N : Int) + (Pop.cnt (fun i => hits N zs i && hits N ys i) N : Int) == (Pop.cnt (hits N zs) N : Int) + (Pop.cnt (hits N ys) N : Int)) = true := by have := CB.out; simp; omega
  obtain ⟨KS, eKS⟩ : ∃ m, Pop.cnt (fun i => hits N zs i || hits N ys i) N = m := ⟨_, rfl⟩
  rw [eKS] at hS hQ HCS
  obtain ⟨KU, eKU⟩ : ∃ m, Pop.cnt (fun i => hits N zs i && hits N ys i) N = m := ⟨_, rfl⟩
  rw [eKU] at hU hQ HCU
  obtain ⟨KA, eKA⟩ : ∃ m, Pop.cnt (hits N zs) N = m := ⟨_, rfl⟩
  rw [eKA] at hA hQ
  obtain ⟨KB, eKB⟩ : ∃ m, Pop.cnt (hits N ys) N = m := ⟨_, rfl⟩
  rw [eKB] at hB hQ
  have EA := hid eKA
  have EB := hid eKB
  clear eKS eKU eKA eKB CB
  go_wp2_with fail
  refine HCS.out.mono ?_
  rintro e w' ⟨rfl, rfl⟩
  go_wp2_with fail
  refine HCU.out.mono ?_
  rintro e w' ⟨rfl, rfl⟩
  clear HCS HCU
  go_wp2_with fail
  go_at_call 4
  refine (filled_ex N a1 cp1 zs w16 (HZ.out.later B.out) HL.out (by omega) (by omega)).mono ?_
  rintro e w17 ⟨⟨b_g, c_g, rfl, i_g, p1_g, p2_g, p3_g, p4_g⟩, bl⟩
  replace I_s : Hid (Is w17 b_s N c_s (fun i => hits N zs i || hits N ys i)) := I_s.out.later bl
  replace I_t : Hid (Is w17 b_t N c_t (hits N ys)) := I_t.out.later bl
  replace I_x : Hid (Is w17 b_x N c_x (fun i => hits N zs i || hits N ys i)) := I_x.out.later bl
  replace I_y : Hid (Is w17 b_y N c_y (hits N zs)) := I_y.out.later bl
  replace I_u : Hid (Is w17 b_u N c_u (fun i => hits N zs i && hits N ys i)) := I_u.out.later bl
  replace I_v : Hid (Is w17 b_v N c_v (fun i => hits N zs i && hits N ys i)) := I_v.out.later bl
  replace I_p : Hid (Is w17 b_p N c_p (hits N zs)) := I_p.out.later bl
  replace I_q : Hid (Is w17 b_q N c_q (hits N ys)) := I_q.out.later bl
  have I_g : Hid (Is w17 b_g N c_g (hits N zs)) := i_g
  replace B : Hid (Below w.heap.size w w17) := B.out.trans (bl.mono B.out.size)
  have szw17 : w.heap.size ≤ w17.heap.size := B.out.size
  have syw17 : w16.heap.size ≤ w17.heap.size := bl.size
  clear i_g bl
  have CG := count_is _ _ _ _ _ I_g.out
  rw [EA.out] at CG
  have HCG := hid CG
  clear CG
  go_wp2_with fail
  refine HCG.out.mono ?_
  rintro e w' ⟨rfl, rfl⟩
  clear HCG
  go_wp2_with fail
  go_at_call 4
  refine (filled_ex N a2 cp2 ys w17 (HY.out.later B.out) HL2.out (by omega) (by omega)).mono ?_
  rintro e w18 ⟨⟨b_h, c_h, rfl, i_h, p1_h, p2_h, p3_h, p4_h⟩, bl⟩
  replace I_s : Hid (Is w18 b_s N c_s (fun i => hits N zs i || hits N ys i)) := I_s.out.later bl
  replace I_t : Hid (Is w18 b_t N c_t (hits N ys)) := I_t.out.later bl
  replace I_x : Hid (Is w18 b_x N c_x (fun i => hits N zs i || hits N ys i)) := I_x.out.later bl
  replace I_y : Hid (Is w18 b_y N c_y (hits N zs)) := I_y.out.later bl
  replace I_u : Hid (Is w18 b_u N c_u (fun i => hits N zs i && hits N ys i)) := I_u.out.later bl
  replace I_v : Hid (Is w18 b_v N c_v (fun i => hits N zs i && hits N ys i)) := I_v.out.later bl
  replace I_p : Hid (Is w18 b_p N c_p (hits N zs)) := I_p.out.later bl
  replace I_q : Hid (Is w18 b_q N c_q (hits N ys)) := I_q.out.later bl
  replace I_g : Hid (Is w18 b_g N c_g (hits N zs)) := I_g.out.later bl
  have I_h : Hid (Is w18 b_h N c_h (hits N ys)) := i_h
  replace B : Hid (Below w.heap.size w w18) := B.out.trans (bl.mono B.out.size)
  have szw18 : w.heap.size ≤ w18.heap.size := B.out.size
  have syw18 : w17.heap.size ≤ w18.heap.size := bl.size
  clear i_h bl
  have CH := count_is _ _ _ _ _ I_h.out
  rw [EB.out] at CH
  have HCH := hid CH
  clear CH
  go_wp2_with fail
  refine HCH.out.mono ?_
  rintro e w' ⟨rfl, rfl⟩
  clear HCH
  go_wp2_with fail
  go_ret
  exact ⟨rfl, B.out⟩
end Go.Proofs.Ytpkfpfflnncleaa
