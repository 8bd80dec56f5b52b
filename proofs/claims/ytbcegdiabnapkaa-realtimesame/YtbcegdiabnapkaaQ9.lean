/-
  Full and Sparse.
-/
import Derived.Test.YtbcegdiabnapkaaQ8
namespace Go.Proofs.Ytbcegdiabnapkaa
set_option linter.unusedVariables false
set_option linter.unusedSimpArgs false
open Go.RowKit Go.Lib

/-- Those that transaction i is before. -/
def fullRow (f : Nat → LT) (n i : Nat) : List Nat := (List.range n).filter (fun x => bef (f i) (f x))
/-- Whether there is a third one between. -/
def btw (f : Nat → LT) (n i x : Nat) : Bool := (List.range n).any (fun c => bef (f i) (f c) && bef (f c) (f x))
/-- .. of which there is no third one between. -/
def sparseRow (f : Nat → LT) (n i : Nat) : List Nat := (List.range n).filter (fun x => bef (f i) (f x) && !btw f n i x)
theorem inc_filter (p : Nat → Bool) (n : Nat) : ((List.range n).filter p).Pairwise (· < ·) := List.Pairwise.filter _ List.pairwise_lt_range
theorem len_filter (p : Nat → Bool) (n : Nat) : ((List.range n).filter p).length ≤ n := by
  have := List.length_filter_le p (List.range n)
  simpa using this
theorem range_from (q k r : Nat) (p : Nat → Bool) (hk : k + r ≤ q) (hp : ∀ j, j < q → (p j = true ↔ k ≤ j ∧ j < k + r)) : (List.range q).filter p = (List.range r).map (fun j => k + j) := by
  refine List.Perm.eq_of_pairwise (le := fun a b => a ≤ b) (fun a b _ _ h1 h2 => by omega) ((inc_filter p q).imp (fun h => by omega)) ?_ ?_
  · rw [List.pairwise_map]
    exact List.pairwise_lt_range.imp (fun h => by omega)
  · refine (List.perm_ext_iff_of_nodup ?_ ?_).2 (fun a => ?_)
    · exact (inc_filter p q).imp (fun h => by omega)
    · rw [List.nodup_iff_pairwise_ne, List.pairwise_map]
      exact List.pairwise_lt_range.imp (fun h => by omega)
    · simp only [List.mem_filter, List.mem_range, List.mem_map]
      constructor
      · rintro ⟨h1, h2⟩
        have := (hp a h1).1 h2
        exact ⟨a - k, by omega, by omega⟩
      · rintro ⟨j, h1, rfl⟩
        exact ⟨by omega, (hp _ (by omega)).2 (by omega)⟩
/-- What is kept of the ok ones, out of the order of beginnings. -/
theorem Sts.part {f : Nat → LT} {n q : Nat} {t : Nat → Nat} {fs : Nat → Int} (h : Sts f n q t fs) (p : Nat → Bool) (hok : ∀ x, p x = true → (f x).state = 1) (k r : Nat) (hk : k + r ≤ q) (hp : ∀ j, j < q → (p (t j) = true ↔ k ≤ j ∧ j < k + r)) : ((List.range r).map (fun j => t (k + j))).Perm ((List.range n).filter p) := by
  have e1 : (List.range n).filter p = (okL f n).filter p := by
    unfold okL
    rw [List.filter_filter]
    apply List.filter_congr
    intro x _
    cases hx : p x with
    | false => simp
    | true => simp [hok x hx]
  have e2 : ((List.range q).map t).filter p = (List.range r).map (fun j => t (k + j)) := by
    rw [List.filter_map]
    rw [range_from q k r (p ∘ t) hk hp, List.map_map]
    rfl
  rw [e1, ← e2]
  exact h.perm.filter p
section
variable {f : Nat → LT} {n q : Nat} {t : Nat → Nat} {fs : Nat → Int}
theorem Sts.at_cnt (h : Sts f n q t fs) (i j : Nat) (hj : j < q) : bef (f i) (f (t j)) = true ↔ cnt f t q i ≤ j :=
  count_at (fun j => bef (f i) (f (t j))) q (fun a b h1 h2 => h.mono (f i) a b h1 h2) j hj
theorem Sts.full (h : Sts f n q t fs) (i : Nat) : ((List.range (q - cnt f t q i)).map (fun j => t (cnt f t q i + j))).Perm (fullRow f n i) := by
  have hc := cnt_le f t q i
  refine h.part _ (fun x hx => ((bef_iff _ _).1 hx).2.1) _ _ (by omega) (fun j hj => ?_)
  rw [h.at_cnt i j hj]
  omega
/-- An ok transaction that comes behind i stands in the tail. -/
theorem Sts.inv (h : Sts f n q t fs) {x : Nat} (hx : x < n) (hs : (f x).state = 1) : ∃ j, j < q ∧ t j = x := by
  have : x ∈ okL f n := (okL_mem f n x).2 ⟨hx, hs⟩
  obtain ⟨j, hj, e⟩ := List.mem_map.1 (h.perm.symm.subset this)
  exact ⟨j, List.mem_range.1 hj, e⟩
theorem btw_iff (f : Nat → LT) (n i x : Nat) : btw f n i x = true ↔ ∃ c, c < n ∧ bef (f i) (f c) = true ∧ bef (f c) (f x) = true := by
  simp [btw]
theorem Sts.sparse_all (h : Sts f n q t fs) (i : Nat) (hn : ∀ j, cnt f t q i ≤ j → j < q → (f (t j)).till < 0) : ((List.range (q - cnt f t q i)).map (fun j => t (cnt f t q i + j))).Perm (sparseRow f n i) := by
  have hc := cnt_le f t q i
  refine h.part _ (fun x hx => ?_) _ _ (by omega) (fun j hj => ?_)
  · simp only [Bool.and_eq_true] at hx
    exact ((bef_iff _ _).1 hx.1).2.1
  · simp only [Bool.and_eq_true, h.at_cnt i j hj]
    constructor
    · intro h1; omega
    · intro h1
      refine ⟨h1.1, ?_⟩
      cases hb : btw f n i (t j) with
      | false => rfl
      | true =>
        obtain ⟨c, h2, h3, h4⟩ := (btw_iff f n i (t j)).1 hb
        obtain ⟨k, h5, rfl⟩ := h.inv h2 ((bef_iff _ _).1 h3).2.1
        have h6 := hn k ((h.at_cnt i k h5).1 h3) h5
        have h7 := ((bef_iff _ _).1 h4).2.2.1
        omega
theorem Sts.sparse_some (h : Sts f n q t fs) (i j0 : Nat) (hj0 : cnt f t q i ≤ j0) (hj1 : j0 < q) (h0 : 0 ≤ (f (t j0)).till) (hmin : ∀ k, cnt f t q i ≤ k → k < q → 0 ≤ (f (t k)).till → (f (t j0)).till ≤ (f (t k)).till) (r : Nat)
    (hr : r = (List.range (q - cnt f t q i)).countP (fun j => !bef (f (t j0)) (f (t (cnt f t q i + j))))) : ((List.range r).map (fun j => t (cnt f t q i + j))).Perm (sparseRow f n i) := by
  have hc := cnt_le f t q i
  have hrl : r ≤ q - cnt f t q i := by
    have := List.countP_le_length (p := fun j => !bef (f (t j0)) (f (t (cnt f t q i + j)))) (l := List.range (q - cnt f t q i))
    rw [hr]
    simpa using this
  have hat : ∀ j, j < q - cnt f t q i → (bef (f (t j0)) (f (t (cnt f t q i + j))) = true ↔ r ≤ j) := fun j hj => by
    rw [hr]
    exact count_at (fun j => bef (f (t j0)) (f (t (cnt f t q i + j)))) (q - cnt f t q i) (fun a b h1 h2 => h.mono _ _ _ (by omega) (by omega)) j hj
  refine h.part _ (fun x hx => ?_) _ _ (by omega) (fun j hj => ?_)
  · simp only [Bool.and_eq_true] at hx
    exact ((bef_iff _ _).1 hx.1).2.1
  · simp only [Bool.and_eq_true, h.at_cnt i j hj]
    have key : cnt f t q i ≤ j → (btw f n i (t j) = true ↔ r ≤ j - cnt f t q i) := fun hkj => by
      have := hat (j - cnt f t q i) (by omega)
      rw [show cnt f t q i + (j - cnt f t q i) = j by omega] at this
      rw [← this, btw_iff]
      constructor
      · rintro ⟨c, h2, h3, h4⟩
        obtain ⟨k, h5, rfl⟩ := h.inv h2 ((bef_iff _ _).1 h3).2.1
        have h6 := hmin k ((h.at_cnt i k h5).1 h3) h5 ((bef_iff _ _).1 h4).2.2.1
        rw [bef_iff] at h4 ⊢
        exact ⟨(h.ok hj1).2, h4.2.1, h0, by omega⟩
      · intro h2
        exact ⟨t j0, (h.ok hj1).1, (h.at_cnt i j0 hj1).2 hj0, h2⟩
    constructor
    · rintro ⟨h1, h2⟩
      refine ⟨h1, ?_⟩
      have h3 : btw f n i (t j) = false := by simpa using h2
      apply Classical.byContradiction
      intro h4
      rw [(key h1).2 (by omega)] at h3
      cases h3
    · rintro ⟨h1, h2⟩
      refine ⟨h1, ?_⟩
      cases hb : btw f n i (t j) with
      | false => rfl
      | true => have := (key h1).1 hb; omega
end
set_option maxHeartbeats 1000000 in
theorem full_picks (f : Nat → LT) (n : Nat) (w : World) : Picks f n w 24 #[] (fullRow f n) := fun so cs q t fs W hqc hqn hS hL hb i hi => by
  have PO := hid (hS.full i)
  generalize tailA so cs (cnt f t q i) = ta
  generalize cnt f t q i = k at *
  show Calls Try.prog 24 #[.slice ta (q - k) (cs - k)] W _
  have E : Hid (∃ r, r ≤ q - k ∧ Ending.returned (.slice ta (q - k) (cs - k)) = .returned (.slice ta r (cs - k)) ∧ ((List.range r).map (fun j => t (k + j))).Perm (fullRow f n i) ∧ Below W.heap.size W W) := ⟨_, Nat.le_refl _, rfl, PO.out, Below.refl _ _⟩
  generalize q - k = m at *
  generalize cs - k = c9 at *
  refine Calls.mono (R := fun e w' => e = .returned (.slice ta m c9) ∧ W = w') ?_ (fun e w' ⟨h1, h2⟩ => by rw [h1, ← h2]; exact E.out)
  clear E PO
  go_enter Try.func24, Try.ntmps24
  go_wp2
  go_ret
  exact ⟨rfl, rfl⟩

/-- What Full hands back. -/
theorem full_is (ao : Option Addr) (c n : Nat) (f : Nat → LT) (w : World) (hn : n ≤ 40) (hl : Lt w ao n f) : Calls Try.prog 13 #[.slice ao n c] w fun e w' => PairsPost (fullRow f n) n w e w' := by
  have C := pairs_is ao c n 24 #[] f (fullRow f n) w hn hl (full_picks f n w) (fun i => inc_filter _ _) (fun i => Nat.le_trans (len_filter _ _) hn) (enters_of Try.func24 (by kernel_rfl) rfl)
  clear hl
  go_enter Try.func13, Try.ntmps13
  go_wp2_with fail
  go_at_call 23
  refine C.mono ?_
  rintro e w5 ⟨v, rfl, hO, hB⟩
  have PO : Hid (PairsPost (fullRow f n) n w (.returned v) w5) := ⟨v, rfl, hO, hB⟩
  clear hO hB
  go_wp2_with fail
  go_ret
  exact PO.out

set_option maxHeartbeats 4000000 in
set_option maxRecDepth 100000 in
/-- Sparse$1 -/
theorem sparsePick_is (pb c n m c9 : Nat) (ao ta : Option Addr) (f : Nat → LT) (t : Nat → Nat) (fs : Nat → Int) (W : World) (hm : m ≤ 40) (hmc : m ≤ c9) (hbx : W.cell? ⟨pb, 0, none⟩ = some (.slice ao n c)) (hl : Lt W ao n f) (hs : Ls W ta m (fun j => ((t j : Int), fs j))) (htn : ∀ j, j < m → t j < n)
    (hfs : m = 0 ∨ fs 0 = -1 ∨ ∃ j0, j0 < m ∧ fs 0 = (t j0 : Int)) (hmono : ∀ X a b, a ≤ b → b < m → bef X (f (t a)) = true → bef X (f (t b)) = true) :
    Calls Try.prog 25 #[.slice ta m c9, .pointer (some ⟨pb, 0, none⟩)] W fun e w' => ∃ r, r ≤ m ∧ e = .returned (.slice ta r c9) ∧ ((m = 0 ∨ fs 0 = -1) → r = m) ∧ (∀ j0, 0 < m → fs 0 = (t j0 : Int) → j0 < m → r = (List.range m).countP (fun j => !bef (f (t j0)) (f (t j)))) ∧ Below W.heap.size W w' := by
  have key : ∀ r, r ≤ m → ((m = 0 ∨ fs 0 = -1) → r = m) → (∀ j0, 0 < m → fs 0 = (t j0 : Int) → j0 < m → r = (List.range m).countP (fun j => !bef (f (t j0)) (f (t j)))) → (Calls Try.prog 25 #[.slice ta m c9, .pointer (some ⟨pb, 0, none⟩)] W fun e w' => e = .returned (.slice ta r c9) ∧ Below W.heap.size W w') → Calls Try.prog 25 #[.slice ta m c9, .pointer (some ⟨pb, 0, none⟩)] W fun e w' => ∃ r, r ≤ m ∧ e = .returned (.slice ta r c9) ∧ ((m = 0 ∨ fs 0 = -1) → r = m) ∧ (∀ j0, 0 < m → fs 0 = (t j0 : Int) → j0 < m → r = (List.range m).countP (fun j => !bef (f (t j0)) (f (t j)))) ∧ Below W.heap.size W w' :=
    fun r h1 h2 h3 h4 => h4.mono fun e w' ⟨q1, q2⟩ => ⟨r, h1, q1, h2, h3, q2⟩
  by_cases hm0 : m = 0
  · subst hm0
    refine key 0 (Nat.le_refl _) (fun _ => rfl) (fun j0 h => by omega) ?_
    clear key hs hl hmono htn hfs
    go_enter Try.func25, Try.ntmps25
    go_wp2
    go_ret
    exact ⟨rfl, Below.refl _ _⟩
  · have hmi : ((m : Int) == 0) = false := by rw [beq_eq_false_iff_ne]; omega
    have hmi2 : ¬ (m : Int) = 0 := by omega
    have hmp : (0 : Int) < (m : Int) := by omega
    obtain ⟨bs, bo, rfl, lbs, s1, s2⟩ := hs 0 (by omega)
    simp only [Nat.zero_mul, Nat.add_zero] at s1 s2
    rcases hfs with h0 | h0 | ⟨j0, hj0, h0⟩
    · omega
    · refine key m (Nat.le_refl _) (fun _ => rfl) (fun j1 h1 h2 h3 => by omega) ?_
      rw [h0] at s2
      clear key hs hl hmono htn
      go_enter Try.func25, Try.ntmps25
      go_wp2
      go_ret
      exact ⟨rfl, Below.refl _ _⟩
    · rw [h0] at s2
      obtain ⟨R, hR⟩ : ∃ R, (List.range m).countP (fun j => !bef (f (t j0)) (f (t j))) = R := ⟨_, rfl⟩
      have hRm : R ≤ m := by
        have := List.countP_le_length (p := fun j => !bef (f (t j0)) (f (t j))) (l := List.range m)
        rw [hR] at this
        simpa using this
      refine key R hRm (fun h => by omega) (fun j1 h1 h2 h3 => ?_) ?_
      · have : t j1 = t j0 := by omega
        rw [this, hR]
      · have htj := htn j0 hj0
        obtain ⟨b, o, rfl, lb, ⟨xa, xn, xc, hx⟩, d0, d1, d2, d3, d4⟩ := hl.five (t j0) htj
        have hLt := hid hl
        have hLs := hid hs
        have HB : Hid (∀ n' os', Calls Try.prog 26 #[.slice (some ⟨b, o, none⟩) n c, .agg (encT (f (t j0))).toArray, .slice (some ⟨bs, bo, none⟩) m c9] (Sort.grow (W.drewN n') os') fun e w' => e = .returned (.int .i64 (R : Nat)) ∧ ∃ q os, w' = Sort.grow ((Sort.grow (W.drewN n') os').drewN q) os) := fun n' os' => by
          have hg := below_grown_sl W.heap.size W n' os' (Nat.le_refl _)
          have := firstBehind_is (some ⟨b, o, none⟩) (some ⟨bs, bo, none⟩) c c9 n m f _ t (f (t j0)) (Sort.grow (W.drewN n') os') (fun j hj => rfl) htn ⟨xa, xn, xc, hx⟩ (hl.later hg) (hs.later hg) hm (hmono _)
          rw [hR] at this
          exact this
        generalize f (t j0) = X at *
        obtain ⟨xp, xs, xf, xt, xv⟩ := X
        simp only [LT.proc, LT.state, LT.since, LT.till, LT.ov] at d0 d1 d2 d3 d4 hx
        subst hx
        have HB2 : Hid (∀ n' os', Calls Try.prog 26 #[.slice (some ⟨b, o, none⟩) n c, .agg #[.int .i64 xp, .int .i64 xs, .int .i64 xf, .int .i64 xt, .slice xa xn xc], .slice (some ⟨bs, bo, none⟩) m c9] (Sort.grow (W.drewN n') os') fun e w' => e = .returned (.int .i64 (R : Nat)) ∧ ∃ q os, w' = Sort.grow ((Sort.grow (W.drewN n') os').drewN q) os) := HB.out
        obtain ⟨T1, hT1⟩ : ∃ T1, t j0 = T1 := ⟨_, rfl⟩
        rw [hT1] at s2 htj d0 d1 d2 d3 d4
        have hti : (T1 : Int) < (n : Int) := by omega
        have hne : ((T1 : Int) == -1) = false := by rw [beq_eq_false_iff_ne]; omega
        have hne2 : ¬ (T1 : Int) = -1 := by omega
        have hRi : (R : Int) ≤ (m : Int) := by omega
        have hRc : (R : Int) ≤ (c9 : Int) := by omega
        have lpb : pb < W.heap.size := World.block_lt_of_cell? _ _ hbx
        have g0 : ∀ n os, (Sort.grow (W.drewN n) os).cell? ⟨pb, 0, none⟩ = _ := cell_grown lpb hbx
        have gs : ∀ n os, (Sort.grow (W.drewN n) os).cell? ⟨bs, bo + 1, none⟩ = _ := cell_grown lbs s2
        have e0 : ∀ n os, (Sort.grow (W.drewN n) os).cell? ⟨b, o + T1 * 5, none⟩ = _ := cell_grown lb d0
        have e1 : ∀ n os, (Sort.grow (W.drewN n) os).cell? ⟨b, o + T1 * 5 + 1, none⟩ = _ := cell_grown lb d1
        have e2 : ∀ n os, (Sort.grow (W.drewN n) os).cell? ⟨b, o + T1 * 5 + 2, none⟩ = _ := cell_grown lb d2
        have e3 : ∀ n os, (Sort.grow (W.drewN n) os).cell? ⟨b, o + T1 * 5 + 3, none⟩ = _ := cell_grown lb d3
        have e4 : ∀ n os, (Sort.grow (W.drewN n) os).cell? ⟨b, o + T1 * 5 + 4, none⟩ = _ := cell_grown lb d4
        have mixed : Try.prog.follows .mixedOrders = true := by kernel_rfl
        clear key hs hl hmono htn HB h0 hR hT1 s1 d0 d1 d2 d3 d4 hbx hLt hLs
        go_enter Try.func25, Try.ntmps25
        go_wp2_with fail
        refine wp_region_quiet_grown (by assumption) (by kernel_rfl) ?_
        repeat (go_big_quiet_step (first | (go_at_call 26; exact Calls.grown_of (HB2.out _ _))))
        refine wpQuiet_nil ?_
        intro w9 hw9
        obtain ⟨⟨nq, osq⟩, hw8⟩ := hw9
        subst hw8
        go_wp2_with fail
        go_ret
        exact ⟨rfl, below_grown_sl _ _ _ _ (Nat.le_refl _)⟩
end Go.Proofs.Ytbcegdiabnapkaa
