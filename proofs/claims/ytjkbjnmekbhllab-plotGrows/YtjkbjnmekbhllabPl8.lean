/-
  A spiral of more places begins with the one of fewer, and its corners never shrink: PlotGrows.
-/
import Derived.Test.YtjkbjnmekbhllabPl7
namespace Go.Proofs.Ytjkbjnmekbhllab
set_option linter.unusedVariables false
set_option linter.unusedSimpArgs false
open Go.RowKit

theorem corners_any {B : Nat} {w : World} {v : Value} {f : Nat → Int × Int} {m : Nat} (h : CF B w v f m) (hn : Near f m) (hf : f 0 = (0, 0)) :
    Calls Try.prog 6 #[v] w fun e w' => e = .returned (.tuple #[cP (lo f m), cP (hi f m)]) ∧ Below w.heap.size w w' := by
  by_cases h0 : 0 < m
  · exact corners_is h hn h0
  · obtain rfl : m = 0 := by omega
    obtain ⟨va, vc, rfl⟩ := own_slice h
    refine (corners_none w va vc).mono ?_
    rintro e w' ⟨rfl, rfl⟩
    refine ⟨?_, Below.refl _ _⟩
    show _ = Ending.returned (.tuple #[cP (f 0), cP (f 0)])
    rw [hf]
    have h0 : fb 0 = 0 := by decide +kernel
    unfold cP
    simp only
    rw [h0]
theorem lo_mono (f : Nat → Int × Int) (n m : Nat) (h : n ≤ m) : (lo f m).1 ≤ (lo f n).1 ∧ (lo f m).2 ≤ (lo f n).2 := by
  induction m with
  | zero => obtain rfl : n = 0 := by omega
            omega
  | succ k ih =>
    by_cases e : n = k + 1
    · subst e; omega
    · have := ih (by omega)
      simp only [lo]
      omega
theorem hi_mono (f : Nat → Int × Int) (n m : Nat) (h : n ≤ m) : (hi f n).1 ≤ (hi f m).1 ∧ (hi f n).2 ≤ (hi f m).2 := by
  induction m with
  | zero => obtain rfl : n = 0 := by omega
            omega
  | succ k ih =>
    by_cases e : n = k + 1
    · subst e; omega
    · have := ih (by omega)
      simp only [hi]
      omega
theorem leB (x y : Int) (h : -10 ≤ x ∧ x ≤ 10) (k : -10 ≤ y ∧ y ≤ 10) (hle : x ≤ y) : (FloatKind.f64.format.order (fb x) (fb y) == some .lt || FloatKind.f64.format.order (fb x) (fb y) == some .eq) = true := by
  rw [(pair_at x y h k).1]
  simp only [compare, compareOfLessAndEq]
  by_cases a : x < y
  · rw [if_pos a]; rfl
  · rw [if_neg a, if_pos (by omega)]; rfl
theorem geB (x y : Int) (h : -10 ≤ x ∧ x ≤ 10) (k : -10 ≤ y ∧ y ≤ 10) (hle : y ≤ x) : (FloatKind.f64.format.order (fb x) (fb y) == some .gt || FloatKind.f64.format.order (fb x) (fb y) == some .eq) = true := by
  rw [(pair_at x y h k).1]
  simp only [compare, compareOfLessAndEq]
  by_cases a : x = y
  · rw [if_neg (by omega), if_pos a]; rfl
  · rw [if_neg (by omega), if_neg a]; rfl
/-- The cells of a slice's first places. -/
def CAt (w : World) (a : Option Addr) (f : Nat → Int × Int) (n : Nat) : Prop := ∀ k, k < n → ∃ g, a = some ⟨g, 0, none⟩ ∧ w.cell? ⟨g, k, none⟩ = some (.complex .f64 (fb (f k).1) (fb (f k).2))
theorem CF.at {B : Nat} {w : World} {a : Option Addr} {c : Nat} {f : Nat → Int × Int} {m n : Nat} (h : CF B w (.slice a m c) f m) (hn : n ≤ m) : CAt w a f n := by
  intro k hk
  obtain ⟨vg, vcap, hvf, hvl⟩ := World.ownsRow.form h (by omega)
  cases hvf
  exact ⟨vg, rfl, h.cell k (by omega)⟩
set_option maxHeartbeats 4000000 in
set_option maxRecDepth 100000 in
theorem eqC_is {w : World} {a b : Option Addr} {c d n : Nat} {f : Nat → Int × Int} (ha : CAt w a f n) (hb : CAt w b f n) (hn : Near f n) :
    Calls Try.prog 5 #[.slice a n c, .slice b n d] w fun e w' => e = .returned (.bool true) ∧ Below w.heap.size w w' := by
  have HA := hid ha
  have HB := hid hb
  have HN := hid hn
  have hn100 := hn.1
  clear ha hb hn
  go_enter Try.func5, Try.ntmps5
  go_wp2_with fail
  go_loopg [13] n (fun gg i wr => ∃ k : Nat, k ≤ n ∧ n - k ≤ gg ∧ i = .int .i64 k ∧ Aside (Below w.heap.size w wr))
  case atStart => exact ⟨0, Nat.zero_le _, by omega, rfl, Below.refl _ _⟩
  case round =>
    obtain ⟨k, hk, hgk, rfl, BK⟩ := hrel
    by_cases hlt : k < n
    · have hlti : (k : Int) < n := by omega
      obtain ⟨g1, rfl, c1⟩ := HA.out k hlt
      obtain ⟨g2, rfl, c2⟩ := HB.out k hlt
      have d1 := (BK.out.cell (p := ⟨g1, k, none⟩) (World.block_lt_of_cell? _ _ c1)).trans c1
      have d2 := (BK.out.cell (p := ⟨g2, k, none⟩) (World.block_lt_of_cell? _ _ c2)).trans c2
      have hr := HN.out.2 k hlt
      have o1 : (FloatKind.f64.format.order (fb (f k).1) (fb (f k).1) == some .eq) = true := by
        rw [(pair_at _ _ (by omega) (by omega)).1]; simp [compare, compareOfLessAndEq]
      have o2 : (FloatKind.f64.format.order (fb (f k).2) (fb (f k).2) == some .eq) = true := by
        rw [(pair_at _ _ (by omega) (by omega)).1]; simp [compare, compareOfLessAndEq]
      clear c1 c2 hr
      generalize fb (f k).1 = x1 at *
      generalize fb (f k).2 = x2 at *
      go_wp2_with fail
      go_region
      go_wp2_with fail
      go_roundg (n - (k + 1))
      case measure => omega
      case rel => exact ⟨k + 1, by omega, by omega, by go_num, BK.out.drew⟩
    · have hlti : ¬ (k : Int) < n := by omega
      go_wp2_with fail
      go_ret
      exact ⟨rfl, BK.out⟩
theorem u64_tmod (n : Int) (m : Nat) (hm : 0 < m) (hm2 : m < 9223372036854775808) : ∃ N : Nat, N < m ∧ wrap64 ((IntKind.u64.wrap n).tmod m) = N := by
  have h0 : 0 ≤ IntKind.u64.wrap n := by simp [IntKind.wrap, IntKind.bits, IntKind.signed]; omega
  have e : (IntKind.u64.wrap n).tmod m = (IntKind.u64.wrap n) % m := Int.tmod_eq_emod_of_nonneg h0
  have h1 : 0 ≤ (IntKind.u64.wrap n) % (m : Int) := Int.emod_nonneg _ (by omega)
  have h2 : (IntKind.u64.wrap n) % (m : Int) < m := Int.emod_lt_of_pos _ (by omega)
  refine ⟨((IntKind.u64.wrap n) % (m : Int)).toNat, by omega, ?_⟩
  rw [e]
  unfold wrap64
  omega
theorem spM_nat (n : Nat) (h : n ≤ 100) : spM (n : Int) = n := by unfold spM; omega
theorem pl0 : pl 0 = (0, 0) := rfl
theorem two_facts (N M : Nat) (hNM : N ≤ M) (hM : M ≤ 100) :
    (FloatKind.f64.format.order (fb (lo pl M).1) (fb (lo pl N).1) == some .lt || FloatKind.f64.format.order (fb (lo pl M).1) (fb (lo pl N).1) == some .eq) = true
    ∧ (FloatKind.f64.format.order (fb (lo pl M).2) (fb (lo pl N).2) == some .lt || FloatKind.f64.format.order (fb (lo pl M).2) (fb (lo pl N).2) == some .eq) = true
    ∧ (FloatKind.f64.format.order (fb (hi pl M).1) (fb (hi pl N).1) == some .gt || FloatKind.f64.format.order (fb (hi pl M).1) (fb (hi pl N).1) == some .eq) = true
    ∧ (FloatKind.f64.format.order (fb (hi pl M).2) (fb (hi pl N).2) == some .gt || FloatKind.f64.format.order (fb (hi pl M).2) (fb (hi pl N).2) == some .eq) = true := by
  have a := lo_range pl 100 (pl_near 100 (by omega)) (by omega) M hM
  have b := lo_range pl 100 (pl_near 100 (by omega)) (by omega) N (by omega)
  have c := hi_range pl 100 (pl_near 100 (by omega)) (by omega) M hM
  have d := hi_range pl 100 (pl_near 100 (by omega)) (by omega) N (by omega)
  have e := lo_mono pl N M hNM
  have g := hi_mono pl N M hNM
  exact ⟨leB _ _ (by omega) (by omega) e.1, leB _ _ (by omega) (by omega) e.2, geB _ _ (by omega) (by omega) g.1, geB _ _ (by omega) (by omega) g.2⟩
set_option maxHeartbeats 8000000 in
set_option maxRecDepth 100000 in
/-- PlotGrows. -/
theorem grows_walk (n m : Int) (w : World) :
    Calls Try.prog 3 #[.int .i64 n, .int .i64 m] w fun e w' => e = .returned (.bool true) ∧ Below w.heap.size w w' := by
  obtain ⟨N, hN1, hN⟩ := u64_tmod n 101 (by decide) (by decide)
  obtain ⟨M, hM1, hM⟩ := u64_tmod m 101 (by decide) (by decide)
  have hN' : wrap64 ((IntKind.u64.wrap n).tmod 101) = (N : Int) := hN
  have hM' : wrap64 ((IntKind.u64.wrap m).tmod 101) = (M : Int) := hM
  clear hN hM
  by_cases hgt : M < N
  · have hgti : (M : Int) < N := by omega
    have HAB : M ≤ N := by omega
    obtain ⟨q1, q2, q3, q4⟩ := two_facts M N HAB (by omega)
    have HP1 : Hid (cP (lo pl M) = .complex .f64 (fb (lo pl M).1) (fb (lo pl M).2)) := rfl
    have HP2 : Hid (cP (hi pl M) = .complex .f64 (fb (hi pl M).1) (fb (hi pl M).2)) := rfl
    have HP3 : Hid (cP (lo pl N) = .complex .f64 (fb (lo pl N).1) (fb (lo pl N).2)) := rfl
    have HP4 : Hid (cP (hi pl N) = .complex .f64 (fb (hi pl N).1) (fb (hi pl N).2)) := rfl
    generalize fb (lo pl M).1 = x1 at *
    generalize fb (lo pl M).2 = x2 at *
    generalize fb (hi pl M).1 = x3 at *
    generalize fb (hi pl M).2 = x4 at *
    generalize fb (lo pl N).1 = x5 at *
    generalize fb (lo pl N).2 = x6 at *
    generalize fb (hi pl N).1 = x7 at *
    generalize fb (hi pl N).2 = x8 at *
    go_enter Try.func3, Try.ntmps3
    go_wp2_with fail
    try simp only [hN', hM']
    refine (pSpiral_is _ _).mono ?_
    rintro e w1 ⟨v1, rfl, hr1, hb1⟩
    rw [spM_nat M (by omega)] at hr1
    obtain ⟨va, vc, rfl⟩ := own_slice hr1
    have R1 := hid (hr1.cf (by omega))
    have B1 := hid hb1
    have s1 := hb1.size
    clear hr1 hb1
    go_wp2_with fail
    refine (pSpiral_is _ _).mono ?_
    rintro e w2 ⟨v2, rfl, hr2, hb2⟩
    rw [spM_nat N (by omega)] at hr2
    obtain ⟨ua, uc, rfl⟩ := own_slice hr2
    have R2 := hid (hr2.cf (by omega))
    have R1' : Hid (CF w.heap.size w2 (.slice va M vc) pl M) := own_same R1.out (fun g hg => hb2.block g (own_block R1.out hg).2.1)
    have B2 := hid hb2
    have s2 := hb2.size
    have hcap : N ≤ uc := by
      rcases hr2.2 with ⟨hv, hn⟩ | ⟨g', cap, cur, hv, hB, hh, hc, _⟩
      · cases hv; omega
      · cases hv; exact hc
    have hcap1 : (M : Int) ≤ uc := by omega
    have hcap2 : (0 : Int) ≤ M := by omega
    clear hr2 hb2
    go_wp2_with fail
    refine (eqC_is (R1'.out.at (Nat.le_refl _)) (R2.out.at HAB) (pl_near M (by omega))).mono ?_
    rintro e w3 ⟨rfl, hb3⟩
    have B3 := hid hb3
    have s3 := hb3.size
    have R1'' : Hid (CF w.heap.size w3 (.slice va M vc) pl M) := own_same R1'.out (fun g hg => hb3.block g (own_block R1'.out hg).2.1)
    have R2' : Hid (CF w1.heap.size w3 (.slice ua N uc) pl N) := own_same R2.out (fun g hg => hb3.block g (own_block R2.out hg).2.1)
    clear hb3
    go_wp2_with fail
    refine (corners_any R1''.out (pl_near M (by omega)) pl0).mono ?_
    rintro e w4 ⟨rfl, hb4⟩
    rw [HP1.out, HP2.out]
    have B4 := hid hb4
    have s4 := hb4.size
    have R2'' : Hid (CF w1.heap.size w4 (.slice ua N uc) pl N) := own_same R2'.out (fun g hg => hb4.block g (own_block R2'.out hg).2.1)
    clear hb4
    go_wp2_with fail
    refine (corners_any R2''.out (pl_near N (by omega)) pl0).mono ?_
    rintro e w5 ⟨rfl, hb5⟩
    rw [HP3.out, HP4.out]
    have B5 := hid hb5
    clear hb5
    go_wp2_with fail
    go_ret
    exact ⟨rfl, (((B1.out.trans (B2.out.mono s1)).trans (B3.out.mono (by omega))).trans (B4.out.mono (by omega))).trans (B5.out.mono (by omega))⟩
  · have hgti : ¬ (M : Int) < N := by omega
    have HAB : N ≤ M := by omega
    obtain ⟨q1, q2, q3, q4⟩ := two_facts N M HAB (by omega)
    have HP1 : Hid (cP (lo pl N) = .complex .f64 (fb (lo pl N).1) (fb (lo pl N).2)) := rfl
    have HP2 : Hid (cP (hi pl N) = .complex .f64 (fb (hi pl N).1) (fb (hi pl N).2)) := rfl
    have HP3 : Hid (cP (lo pl M) = .complex .f64 (fb (lo pl M).1) (fb (lo pl M).2)) := rfl
    have HP4 : Hid (cP (hi pl M) = .complex .f64 (fb (hi pl M).1) (fb (hi pl M).2)) := rfl
    generalize fb (lo pl N).1 = x1 at *
    generalize fb (lo pl N).2 = x2 at *
    generalize fb (hi pl N).1 = x3 at *
    generalize fb (hi pl N).2 = x4 at *
    generalize fb (lo pl M).1 = x5 at *
    generalize fb (lo pl M).2 = x6 at *
    generalize fb (hi pl M).1 = x7 at *
    generalize fb (hi pl M).2 = x8 at *
    go_enter Try.func3, Try.ntmps3
    go_wp2_with fail
    try simp only [hN', hM']
    refine (pSpiral_is _ _).mono ?_
    rintro e w1 ⟨v1, rfl, hr1, hb1⟩
    rw [spM_nat N (by omega)] at hr1
    obtain ⟨va, vc, rfl⟩ := own_slice hr1
    have R1 := hid (hr1.cf (by omega))
    have B1 := hid hb1
    have s1 := hb1.size
    clear hr1 hb1
    go_wp2_with fail
    refine (pSpiral_is _ _).mono ?_
    rintro e w2 ⟨v2, rfl, hr2, hb2⟩
    rw [spM_nat M (by omega)] at hr2
    obtain ⟨ua, uc, rfl⟩ := own_slice hr2
    have R2 := hid (hr2.cf (by omega))
    have R1' : Hid (CF w.heap.size w2 (.slice va N vc) pl N) := own_same R1.out (fun g hg => hb2.block g (own_block R1.out hg).2.1)
    have B2 := hid hb2
    have s2 := hb2.size
    have hcap : M ≤ uc := by
      rcases hr2.2 with ⟨hv, hn⟩ | ⟨g', cap, cur, hv, hB, hh, hc, _⟩
      · cases hv; omega
      · cases hv; exact hc
    have hcap1 : (N : Int) ≤ uc := by omega
    have hcap2 : (0 : Int) ≤ N := by omega
    clear hr2 hb2
    go_wp2_with fail
    refine (eqC_is (R1'.out.at (Nat.le_refl _)) (R2.out.at HAB) (pl_near N (by omega))).mono ?_
    rintro e w3 ⟨rfl, hb3⟩
    have B3 := hid hb3
    have s3 := hb3.size
    have R1'' : Hid (CF w.heap.size w3 (.slice va N vc) pl N) := own_same R1'.out (fun g hg => hb3.block g (own_block R1'.out hg).2.1)
    have R2' : Hid (CF w1.heap.size w3 (.slice ua M uc) pl M) := own_same R2.out (fun g hg => hb3.block g (own_block R2.out hg).2.1)
    clear hb3
    go_wp2_with fail
    refine (corners_any R1''.out (pl_near N (by omega)) pl0).mono ?_
    rintro e w4 ⟨rfl, hb4⟩
    rw [HP1.out, HP2.out]
    have B4 := hid hb4
    have s4 := hb4.size
    have R2'' : Hid (CF w1.heap.size w4 (.slice ua M uc) pl M) := own_same R2'.out (fun g hg => hb4.block g (own_block R2'.out hg).2.1)
    clear hb4
    go_wp2_with fail
    refine (corners_any R2''.out (pl_near M (by omega)) pl0).mono ?_
    rintro e w5 ⟨rfl, hb5⟩
    rw [HP3.out, HP4.out]
    have B5 := hid hb5
    clear hb5
    go_wp2_with fail
    go_ret
    exact ⟨rfl, (((B1.out.trans (B2.out.mono s1)).trans (B3.out.mono (by omega))).trans (B4.out.mono (by omega))).trans (B5.out.mono (by omega))⟩
end Go.Proofs.Ytjkbjnmekbhllab
