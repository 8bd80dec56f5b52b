/-
  The walk of the law BitsEdges.
-/
import Derived.Test.YtpkfpfflnncleaaDoorB9
namespace Go.Proofs.YtpkfpfflnncleaaDoor
set_option linter.unusedVariables false
set_option linter.unusedSimpArgs false
open Go.RowKit

/-- A slice of numbers that was handed in. -/
def ArgIn (w : World) (ao : Option Addr) (zs : List Int) : Prop :=
  ∀ j, j < zs.length → ∃ b off, ao = some ⟨b, off, none⟩ ∧ w.cell? ⟨b, off + j, none⟩ = some (.int .i64 (zs.getD j 0))
theorem ArgIn.later {w w' : World} {ao : Option Addr} {zs : List Int} (h : ArgIn w ao zs) (hb : Below w.heap.size w w') : ArgIn w' ao zs := fun j hj => by
  obtain ⟨b, off, e, hc⟩ := h j hj
  exact ⟨b, off, e, (hb.cell (p := ⟨b, off + j, none⟩) (World.block_lt_of_cell? _ _ hc)).trans hc⟩

theorem u64_tmod (n : Int) (m : Nat) (hm : 0 < m) (hm2 : m ≤ 4294967296) : ∃ N : Nat, N < m ∧ (IntKind.u64.wrap n).tmod m = N := by
  rw [IntKind.wrap_u64, tmod_of_emod]
  have h1 := Int.emod_nonneg (n % 18446744073709551616) (show (m : Int) ≠ 0 by omega)
  have h2 := Int.emod_lt_of_pos (n % 18446744073709551616) (show (0 : Int) < m by omega)
  exact ⟨(n % 18446744073709551616 % m).toNat, by omega, by omega⟩
theorem mod_one (n : Int) (m : Nat) (hm : 0 < m) (hm2 : m ≤ 4000) : ∃ N : Nat, 1 ≤ N ∧ N ≤ m ∧ wrap64 (1 + wrap64 ((IntKind.u64.wrap n).tmod m)) = N := by
  obtain ⟨N, h1, h2⟩ := u64_tmod n m hm (by omega)
  refine ⟨N + 1, by omega, by omega, ?_⟩
  rw [h2]
  unfold wrap64
  omega
theorem cnt_drop (f : Nat → Bool) (k n : Nat) (hk : k < n) : Pop.cnt (fun j => !(j == k) && f j) n + (f k).toNat = Pop.cnt f n := by
  induction n with
  | zero => omega
  | succ n ih =>
    show Pop.cnt _ n + (!(n == k) && f n).toNat + _ = Pop.cnt f n + (f n).toNat
    by_cases h : n = k
    · subst h
      have e : Pop.cnt (fun j => !(j == n) && f j) n = Pop.cnt f n := Pop.cnt_congr _ _ _ fun i hi => by
        have : (i == n) = false := by simp; omega
        simp [this]
      rw [e]
      simp
    · have h1 := ih (by omega)
      have : (n == k) = false := by simp [h]
      rw [this]
      simp
      omega
theorem cnt_all (n : Nat) : Pop.cnt (fun j => decide (j < n)) n = n := by
  have : ∀ m, m ≤ n → Pop.cnt (fun j => decide (j < n)) m = m := by
    intro m
    induction m with
    | zero => intro _; rfl
    | succ m ih =>
      intro h
      show Pop.cnt _ m + (decide (m < n)).toNat = m + 1
      rw [ih (by omega)]
      have : decide (m < n) = true := by simp; omega
      rw [this]
      rfl
  exact this n (Nat.le_refl _)
theorem Is.congr {w : World} {b n c : Nat} {f g : Nat → Bool} (h : Is w b n c f) (e : ∀ k, f k = g k) : Is w b n c g := by
  have : f = g := funext e
  rw [← this]
  exact h

theorem Ints.form {B : Nat} {w : World} {v : Value} {l : List Nat} (h : Ints B w v l) : ∃ ao c, v = .slice ao l.length c := by
  rcases h.2 with ⟨hv, hn⟩ | ⟨g, cap, cur, hv, _⟩
  · exact ⟨none, 0, by rw [hv, hn]⟩
  · exact ⟨_, _, hv⟩

set_option maxHeartbeats 2000000 in
theorem edges_walk (n : Int) (ao : Option Addr) (cp : Nat) (zs : List Int) (w : World) (hz : ArgIn w ao zs) (hl : zs.length ≤ maxLen) (hT : Tab w) :
    Calls Tryd.prog 6 #[.int .i64 n, .slice ao zs.length cp] w fun e w' => e = .returned (.bool true) ∧ Below w.heap.size w w' := by
  unfold maxLen at hl
  obtain ⟨N, hN1, hN2, hN0⟩ := mod_one n 300 (by decide) (by decide)
  have hN : wrap64 (1 + wrap64 ((IntKind.u64.wrap n).tmod 300)) = (N : Int) := hN0
  clear hN0
  have HZ := hid hz
  have HT := hid hT
  clear hz hT
  have hNi : (N : Int) ≤ 300 := by omega
  have hNi1 : (1 : Int) ≤ N := by omega
  go_enter Tryd.func6, Tryd.ntmps6
  go_wp2_with fail
  go_at_call 8
  refine (new_is N (by omega) w).mono ?_
  rintro e w1 ⟨rfl, s1, b1, z1⟩
  have S1 := hid s1
  have B1 := hid b1
  clear s1 b1
  go_wp2_with fail
  go_loopg [7, 25] N (fun g _ i wr => ∃ k : Nat, k ≤ N ∧ N - k ≤ g ∧ i = .int .i64 k ∧ Aside (Is wr (w.heap.size + 1) N w.heap.size (fun j => decide (j < k))) ∧ Aside (Below w.heap.size w wr))
  case atStart => exact ⟨0, Nat.zero_le _, by omega, rfl, S1.out.congr (fun k => by simp), B1.out⟩
  case round =>
    obtain ⟨k, hk, hg, rfl, SX, BX⟩ := hrel
    by_cases hlt : k < N
    · have hlti : (k : Int) < N := by omega
      go_wp2_with fail
      go_at_call 10
      refine (add_is _ _ _ _ k _ SX.out hlt).mono ?_
      rintro e w2 ⟨rfl, s2, b2, z2⟩
      have B2 : Hid (Below w.heap.size w w2) := BX.out.trans (b2.below (Nat.le_refl _) BX.out.size)
      have S2 : Hid (Is w2 (w.heap.size + 1) N w.heap.size (fun j => decide (j < k + 1))) := s2.congr (fun j => by rw [Bool.eq_iff_iff]; simp; omega)
      clear s2 b2
      go_wp2_with fail
      go_roundg (N - (k + 1))
      · exact ⟨k + 1, by omega, by omega, by go_num, S2.out, B2.out⟩
      · omega
    · have hlti : ¬ (k : Int) < N := by omega
      have ek : N = k := by omega
      subst ek
      have hlen : (zs.length : Int) ≤ 9223372036854775807 := by omega
      go_wp2_with fail
      have hw : IntKind.u64.wrap (N : Int) = (N : Int) := wrap_nat N (by omega)
      have EA := hid (cnt_all N)
      go_loopg [8, 10, 11, 35] zs.length (fun g left _ _ i wr2 => ∃ (j : Nat) (f : Nat → Bool), j ≤ zs.length ∧ zs.length - j ≤ g ∧ i = .int .i64 j ∧ left = .int .i64 (Pop.cnt f N) ∧ Aside (Is wr2 (w.heap.size + 1) N w.heap.size f) ∧ Aside (Below w.heap.size w wr2))
      case atStart => exact ⟨0, _, Nat.zero_le _, by omega, rfl, by rw [EA.out], SX.out, BX.out⟩
      case round =>
        clear SX BX hlti
        obtain ⟨j, f, hj, hg2, rfl, rfl, SY, BY⟩ := hrel
        by_cases hjl : j < zs.length
        · obtain ⟨bz, oz, rfl, hc⟩ := HZ.out.later BY.out j hjl
          generalize zs.getD j 0 = z at *
          obtain ⟨M, hM, hMz⟩ := u64_tmod z N (by omega) (by omega)
          have hjli : (j : Int) < zs.length := by omega
          have hMi : (M : Int) ≤ 300 := by omega
          have CD := hid (cnt_drop f M N hM)
          have CL := hid (Pop.cnt_le f N)
          have CL2 : (Pop.cnt f N : Int) ≤ 300 := by have := CL.out; omega
          cases hfM : f M
          · go_wp2_with (go_at_call 27; refine (has_is _ _ _ _ M _ SY.out hM).mono ?_; rintro e w' ⟨rfl, rfl⟩)
            go_at_call 12
            refine (drop_is _ _ _ _ M _ SY.out hM).mono ?_
            rintro e w2 ⟨rfl, s2, b2, z2⟩
            obtain ⟨g, hg⟩ : ∃ g : Nat → Bool, (fun k => !(k == M) && f k) = g := ⟨_, rfl⟩
            rw [hg] at s2 CD
            have gM : g M = false := by rw [← hg]; simp
            have S2 := hid s2
            have B2 : Hid (Below w.heap.size w w2) := BY.out.trans (b2.below (Nat.le_refl _) BY.out.size)
            clear s2 b2 hg hc
            have hq : ((Pop.cnt g N : Int) == (Pop.cnt f N : Int)) = true := by have := CD.out; rw [hfM] at this; simp at this ⊢; omega
            have le : (Pop.cnt f N : Int) = (Pop.cnt g N : Int) := by have := CD.out; rw [hfM] at this; simp at this; omega
            have LE := hid le
            clear le
            go_wp2_with (first | (go_at_call 27; refine (has_is _ _ _ _ M _ S2.out hM).mono ?_; rintro e w' ⟨rfl, rfl⟩) | (go_at_call 25; refine (count_is _ _ _ _ _ S2.out).mono ?_; rintro e w' ⟨rfl, rfl⟩))
            go_roundg (zs.length - (j + 1))
            · exact ⟨j + 1, g, by omega, by omega, by go_num, by rw [LE.out], S2.out, B2.out⟩
            · omega
          · have CG : (1 : Int) ≤ Pop.cnt f N := by have := CD.out; rw [hfM] at this; simp at this; omega
            go_wp2_with (go_at_call 27; refine (has_is _ _ _ _ M _ SY.out hM).mono ?_; rintro e w' ⟨rfl, rfl⟩)
            go_at_call 12
            refine (drop_is _ _ _ _ M _ SY.out hM).mono ?_
            rintro e w2 ⟨rfl, s2, b2, z2⟩
            obtain ⟨g, hg⟩ : ∃ g : Nat → Bool, (fun k => !(k == M) && f k) = g := ⟨_, rfl⟩
            rw [hg] at s2 CD
            have gM : g M = false := by rw [← hg]; simp
            have S2 := hid s2
            have B2 : Hid (Below w.heap.size w w2) := BY.out.trans (b2.below (Nat.le_refl _) BY.out.size)
            clear s2 b2 hg hc
            have hq : ((Pop.cnt g N : Int) == ((Pop.cnt f N : Int) - 1)) = true := by have := CD.out; rw [hfM] at this; simp at this ⊢; omega
            have le : ((Pop.cnt f N : Int) - 1) = (Pop.cnt g N : Int) := by have := CD.out; rw [hfM] at this; simp at this; omega
            have LE := hid le
            clear le
            go_wp2_with (first | (go_at_call 27; refine (has_is _ _ _ _ M _ S2.out hM).mono ?_; rintro e w' ⟨rfl, rfl⟩) | (go_at_call 25; refine (count_is _ _ _ _ _ S2.out).mono ?_; rintro e w' ⟨rfl, rfl⟩))
            go_roundg (zs.length - (j + 1))
            · exact ⟨j + 1, g, by omega, by omega, by go_num, by rw [LE.out], S2.out, B2.out⟩
            · omega
        · have hjli : ¬ (j : Int) < zs.length := by omega
          have HLL := hid (lst_len f N)
          go_wp2_with (first | (go_at_call 10; refine (add_off _ _ _ _ _ _ SY.out (.inr (Int.le_refl _))).mono ?_; rintro e w' ⟨rfl, rfl⟩) | (go_at_call 12; refine (drop_off _ _ _ _ _ _ SY.out (.inl (by decide))).mono ?_; rintro e w' ⟨rfl, rfl⟩) | (go_at_call 27; refine (has_off _ _ _ _ _ _ SY.out (.inr (Int.le_refl _))).mono ?_; rintro e w' ⟨rfl, rfl⟩))
          go_at_call 23
          refine (list_is _ _ _ _ _ SY.out (HT.out.later BY.out)).mono ?_
          rintro e w3 ⟨⟨v, rfl, hI⟩, b3⟩
          obtain ⟨av, cv, rfl⟩ := hI.form
          have B3 : Hid (Below w.heap.size w w3) := BY.out.trans (b3.mono BY.out.size)
          rw [HLL.out]
          clear hI b3
          go_wp2_with fail
          go_ret
          exact ⟨rfl, B3.out⟩
end Go.Proofs.YtpkfpfflnncleaaDoor
