/-
  Whole places in a slice: areWhole, Corners.
-/
import Derived.Test.YtcbflglnadmmfaaDoorPl6
namespace Go.Proofs.YtcbflglnadmmfaaDoor
set_option linter.unusedVariables false
set_option linter.unusedSimpArgs false
open Go.RowKit

def minB (x y : Nat) : Option Nat := match FloatKind.f64.format.order x y with
  | none => none
  | some .lt => some x
  | some .gt => some y
  | some .eq => some (if (FloatKind.f64.decode x).neg then x else y)
def maxB (x y : Nat) : Option Nat := match FloatKind.f64.format.order x y with
  | none => none
  | some .lt => some y
  | some .gt => some x
  | some .eq => some (if (FloatKind.f64.decode x).neg then y else x)
def pairAll : Bool := (List.range 21).all fun i => (List.range 21).all fun j =>
  FloatKind.f64.format.order (fb ((i : Int) - 10)) (fb ((j : Int) - 10)) == some (compare i j)
  && minB (fb ((i : Int) - 10)) (fb ((j : Int) - 10)) == some (fb (min ((i : Int) - 10) ((j : Int) - 10)))
  && maxB (fb ((i : Int) - 10)) (fb ((j : Int) - 10)) == some (fb (max ((i : Int) - 10) ((j : Int) - 10)))
theorem pairAll_true : pairAll = true := by decide +kernel
theorem pair_at (x y : Int) (h : -10 ≤ x ∧ x ≤ 10) (k : -10 ≤ y ∧ y ≤ 10) :
    FloatKind.f64.format.order (fb x) (fb y) = some (compare x y) ∧ minB (fb x) (fb y) = some (fb (min x y)) ∧ maxB (fb x) (fb y) = some (fb (max x y)) := by
  have h1 := pairAll_true
  unfold pairAll at h1
  rw [List.all_eq_true] at h1
  have h2 := h1 (x + 10).toNat (List.mem_range.2 (by omega))
  rw [List.all_eq_true] at h2
  have h3 := h2 (y + 10).toNat (List.mem_range.2 (by omega))
  have e : (((x + 10).toNat : Nat) : Int) - 10 = x := by omega
  have e' : (((y + 10).toNat : Nat) : Int) - 10 = y := by omega
  simp only [e, e', Bool.and_eq_true, beq_iff_eq] at h3
  have ec : compare (x + 10).toNat (y + 10).toNat = compare x y := by
    simp only [compare, compareOfLessAndEq]
    by_cases a : x < y
    · rw [if_pos a, if_pos (by omega)]
    · rw [if_neg a, if_neg (by omega)]
      by_cases b : x = y
      · rw [if_pos b, if_pos (by omega)]
      · rw [if_neg b, if_neg (by omega)]
  rw [ec] at h3
  exact ⟨h3.1.1, h3.1.2, h3.2⟩
theorem run_minB {x y r : Nat} (h : minB x y = some r) (ts : Array TypeId) (t : TypeId) (w : World) : (Builtin.min_ ts t #[.float .f64 x, .float .f64 y]).run Tryd.prog w = .ok (.float .f64 r) w := by
  unfold minB at h
  simp only [Builtin.min_, List.foldlM, Sem.run_bind, Builtin.min2]
  split at h
  · cases h
  · rename_i e; rw [e]; cases h; rfl
  · rename_i e; rw [e]; cases h; rfl
  · rename_i e; rw [e]; cases h; rfl
theorem run_maxB {x y r : Nat} (h : maxB x y = some r) (ts : Array TypeId) (t : TypeId) (w : World) : (Builtin.max_ ts t #[.float .f64 x, .float .f64 y]).run Tryd.prog w = .ok (.float .f64 r) w := by
  unfold maxB at h
  simp only [Builtin.max_, List.foldlM, Sem.run_bind, Builtin.max2]
  split at h
  · cases h
  · rename_i e; rw [e]; cases h; rfl
  · rename_i e; rw [e]; cases h; rfl
  · rename_i e; rw [e]; cases h; rfl
/-- A whole place, as a number in memory. -/
def cP (p : Int × Int) : Value := .complex .f64 (fb p.1) (fb p.2)
/-- Places that are not far off. -/
def Near (f : Nat → Int × Int) (m : Nat) : Prop := m ≤ 100 ∧ ∀ k, k < m → -10 ≤ (f k).1 ∧ (f k).1 ≤ 10 ∧ -10 ≤ (f k).2 ∧ (f k).2 ≤ 10
def cFs (f : Nat → Int × Int) (m : Nat) : List Value := (List.range m).map fun k => cP (f k)
theorem cFs_at (f : Nat → Int × Int) (m k : Nat) (hk : k < m) : (cFs f m)[k]? = some (cP (f k)) := by simp [cFs, hk]
theorem cFs_succ (f : Nat → Int × Int) (m : Nat) : cFs f (m + 1) = cFs f m ++ [cP (f m)] := by simp [cFs, List.range_succ]
/-- A slice of one's own that holds such places. -/
def CF (B : Nat) (w : World) (v : Value) (f : Nat → Int × Int) (m : Nat) : Prop := w.ownsRow B 33 1 v m (cFs f m)
def pl (k : Nat) : Int × Int := (plX k, plY k)
theorem pl_near (m : Nat) (hm : m ≤ 100) : Near pl m := ⟨hm, fun k hk => pl_range k (by omega)⟩
theorem cVs_cFs (m : Nat) (hm : m ≤ 100) : cVs m = cFs pl m := by
  unfold cVs cFs
  refine List.map_congr_left fun k hk => ?_
  have := List.mem_range.1 hk
  obtain ⟨_, _, _, _, _, _, e1, e2⟩ := sp_facts k (by omega)
  unfold cV cP pl
  rw [e1, e2]
theorem CRow.cf {B : Nat} {w : World} {v : Value} {m : Nat} (h : CRow B w v m) (hm : m ≤ 100) : CF B w v pl m := by
  unfold CF
  rw [← cVs_cFs m hm]
  exact h
theorem CF.cell {B : Nat} {w : World} {g c : Nat} {f : Nat → Int × Int} {m : Nat} (h : CF B w (.slice (some ⟨g, 0, none⟩) m c) f m) (k : Nat) (hk : k < m) : w.cell? ⟨g, k, none⟩ = some (.complex .f64 (fb (f k).1) (fb (f k).2)) := by
  rw [World.ownsRow.cellAt h k (by omega), cFs_at f m k hk]
  rfl
set_option maxHeartbeats 4000000 in
set_option maxRecDepth 100000 in
theorem idxF_is {B : Nat} {w : World} {v : Value} {f : Nat → Int × Int} {m : Nat} (h : CF B w v f m) (hn : Near f m) :
    Calls Tryd.prog 30 #[v, .func (.func 23) #[] #[]] w fun e w' => e = .returned (.int .i64 (-1)) ∧ w = w' := by
  have H := hid h
  have HN := hid hn
  obtain ⟨va, vc, rfl⟩ := own_slice h
  have hm := hn.1
  clear h hn
  go_enter Tryd.func30, Tryd.ntmps30
  go_wp2_with fail
  go_loopg [8] m (fun gg i wr => ∃ k : Nat, k ≤ m ∧ m - k ≤ gg ∧ i = .int .i64 k ∧ wr = w)
  case atStart => exact ⟨0, Nat.zero_le _, by omega, rfl, rfl⟩
  case round =>
    obtain ⟨k, hk, hgk, rfl, rfl⟩ := hrel
    by_cases hlt : k < m
    · have hlti : (k : Int) < m := by omega
      obtain ⟨vg, vcap, hvf, hvl⟩ := World.ownsRow.form H.out (by omega)
      cases hvf
      have c0 := H.out.cell k hlt
      have hr := HN.out.2 k hlt
      have w1 := wh_at (f k).1 (by omega)
      have w2 := wh_at (f k).2 (by omega)
      go_wp2_with (go_at_call 23; refine (whole1_is _ _ _ w1 w2).mono ?_; rintro e w1 ⟨rfl, rfl⟩)
      go_roundg (m - (k + 1))
      case measure => omega
      case rel => exact ⟨k + 1, by omega, by omega, by go_num, rfl⟩
    · have hlti : ¬ (k : Int) < m := by omega
      go_wp2_with fail
      go_ret
      exact ⟨rfl, rfl⟩
set_option maxHeartbeats 4000000 in
set_option maxRecDepth 100000 in
theorem areWhole_is {B : Nat} {w : World} {v : Value} {f : Nat → Int × Int} {m : Nat} (h : CF B w v f m) (hn : Near f m) :
    Calls Tryd.prog 12 #[v] w fun e w' => e = .returned (.bool true) ∧ w = w' := by
  have hc : Calls Tryd.prog 22 #[v, .func (.func 23) #[] #[]] w fun e w' => e = .returned (.bool false) ∧ w = w' := by
    go_enter Tryd.func22, Tryd.ntmps22
    go_wp2_with (go_at_call 30; refine (idxF_is h hn).mono ?_; rintro e w1 ⟨rfl, rfl⟩)
    go_ret
    exact ⟨rfl, rfl⟩
  go_enter Tryd.func12, Tryd.ntmps12
  go_wp2_with (go_at_call 22; refine hc.mono ?_; rintro e w1 ⟨rfl, rfl⟩)
  go_ret
  exact ⟨rfl, rfl⟩
set_option maxHeartbeats 4000000 in
set_option maxRecDepth 100000 in
theorem plainP_is (x : Int) (h : -10 ≤ x ∧ x ≤ 10) (w : World) : Calls Tryd.prog 29 #[.float .f64 (fb x)] w fun e w' => e = .returned (.float .f64 (fb x)) ∧ w = w' := by
  have h0 : fb 0 = 0 := by decide +kernel
  have hp := (pair_at x 0 h (by omega)).1
  rw [h0] at hp
  by_cases hx : x = 0
  · subst hx
    rw [h0]
    have ho : (FloatKind.f64.format.order 0 0 == some .eq) = true := by decide +kernel
    clear hp
    go_enter Tryd.func29, Tryd.ntmps29
    go_wp2_with fail
    go_ret
    exact ⟨rfl, rfl⟩
  · have ho : (FloatKind.f64.format.order (fb x) 0 == some .eq) = false := by
      rw [hp]
      simp only [compare, compareOfLessAndEq]
      by_cases a : x < 0
      · rw [if_pos a]; rfl
      · rw [if_neg a, if_neg hx]; rfl
    clear hp h0
    generalize fb x = b at *
    go_enter Tryd.func29, Tryd.ntmps29
    go_wp2_with fail
    go_ret
    exact ⟨rfl, rfl⟩
/-- The bits of a whole number that is not far off. -/
def Tidy (b : Nat) : Prop := ∃ x : Int, (-10 ≤ x ∧ x ≤ 10) ∧ b = fb x
theorem plainT_is (b : Nat) (h : Tidy b) (w : World) : Calls Tryd.prog 29 #[.float .f64 b] w fun e w' => e = .returned (.float .f64 b) ∧ w = w' := by
  obtain ⟨x, hx, rfl⟩ := h
  exact plainP_is x hx w
set_option maxHeartbeats 4000000 in
set_option maxRecDepth 100000 in
theorem plain_is (a b : Nat) (h : Tidy a) (k : Tidy b) (w : World) : Calls Tryd.prog 20 #[.complex .f64 a b] w fun e w' => e = .returned (.complex .f64 a b) ∧ w = w' := by
  go_enter Tryd.func20, Tryd.ntmps20
  go_wp2_with (go_at_call 29; refine (plainT_is _ (by first | exact h | exact k) _).mono ?_; rintro e w1 ⟨rfl, rfl⟩)
  go_ret
  exact ⟨rfl, rfl⟩
def lo (f : Nat → Int × Int) : Nat → Int × Int
  | 0 => f 0
  | k + 1 => (min (lo f k).1 (f k).1, min (lo f k).2 (f k).2)
def hi (f : Nat → Int × Int) : Nat → Int × Int
  | 0 => f 0
  | k + 1 => (max (hi f k).1 (f k).1, max (hi f k).2 (f k).2)
theorem lo_range (f : Nat → Int × Int) (m : Nat) (h : Near f m) (h0 : 0 < m) : ∀ k, k ≤ m → -10 ≤ (lo f k).1 ∧ (lo f k).1 ≤ 10 ∧ -10 ≤ (lo f k).2 ∧ (lo f k).2 ≤ 10 := by
  intro k
  induction k with
  | zero => intro _; exact h.2 0 h0
  | succ j ih =>
    intro hj
    have h1 := ih (by omega)
    have h2 := h.2 j (by omega)
    simp only [lo]
    omega
theorem hi_range (f : Nat → Int × Int) (m : Nat) (h : Near f m) (h0 : 0 < m) : ∀ k, k ≤ m → -10 ≤ (hi f k).1 ∧ (hi f k).1 ≤ 10 ∧ -10 ≤ (hi f k).2 ∧ (hi f k).2 ≤ 10 := by
  intro k
  induction k with
  | zero => intro _; exact h.2 0 h0
  | succ j ih =>
    intro hj
    have h1 := ih (by omega)
    have h2 := h.2 j (by omega)
    simp only [hi]
    omega
set_option maxHeartbeats 8000000 in
set_option maxRecDepth 100000 in
theorem corners_none (w : World) (a : Option Addr) (c : Nat) : Calls Tryd.prog 13 #[.slice a 0 c] w fun e w' => e = .returned (.tuple #[.complex .f64 0 0, .complex .f64 0 0]) ∧ w = w' := by
  go_enter Tryd.func13, Tryd.ntmps13
  go_wp2_with fail
  exact bodyPost_ret (v := .tuple #[.complex .f64 0 0, .complex .f64 0 0]) (by simp [results, Tryd.results13, go_sem]) rfl ⟨rfl, rfl⟩
set_option maxHeartbeats 8000000 in
set_option maxRecDepth 100000 in
theorem corners_is {B : Nat} {w : World} {v : Value} {f : Nat → Int × Int} {m : Nat} (h : CF B w v f m) (hn : Near f m) (h0 : 0 < m) :
    Calls Tryd.prog 13 #[v] w fun e w' => e = .returned (.tuple #[cP (lo f m), cP (hi f m)]) ∧ Below w.heap.size w w' := by
  have H := hid h
  have HN := hid hn
  obtain ⟨va, vc, rfl⟩ := own_slice h
  have hm := hn.1
  obtain ⟨vg, vcap, hvf, hvl⟩ := World.ownsRow.form h (by omega)
  cases hvf
  have h0i : (0 : Int) < m := by omega
  have hm0 : ((m : Int) == 0) = false := by simp; omega
  have hm0p : ¬ ((m : Int) = 0) := by omega
  have cz := h.cell 0 h0
  clear h hn
  go_enter Tryd.func13, Tryd.ntmps13
  go_wp2_with (go_at_call 12; refine (areWhole_is H.out HN.out).mono ?_; rintro e w1 ⟨rfl, rfl⟩)
  go_region
  go_wp2_with fail
  go_loopg [4, 5, 24] m (fun gg a b i wr => ∃ k : Nat, k ≤ m ∧ m - k ≤ gg ∧ i = .int .i64 k ∧ a = .complex .f64 (fb (lo f k).1) (fb (lo f k).2) ∧ b = .complex .f64 (fb (hi f k).1) (fb (hi f k).2) ∧ wr = w.drew)
  case atStart => exact ⟨0, Nat.zero_le _, by omega, rfl, rfl, rfl, rfl⟩
  case round =>
    obtain ⟨k, hk, hgk, rfl, rfl, rfl, rfl⟩ := hrel
    by_cases hlt : k < m
    · have hlti : (k : Int) < m := by omega
      have c0 : w.drew.cell? ⟨vg, k, none⟩ = some (.complex .f64 (fb (f k).1) (fb (f k).2)) := H.out.cell k hlt
      have hr := HN.out.2 k hlt
      have hl := lo_range f m HN.out h0 k hk
      have hh := hi_range f m HN.out h0 k hk
      have m1 := run_minB (pair_at (lo f k).1 (f k).1 (by omega) (by omega)).2.1
      have m2 := run_minB (pair_at (lo f k).2 (f k).2 (by omega) (by omega)).2.1
      have m3 := run_maxB (pair_at (hi f k).1 (f k).1 (by omega) (by omega)).2.2
      have m4 := run_maxB (pair_at (hi f k).2 (f k).2 (by omega) (by omega)).2.2
      have HL : Hid (lo f (k + 1) = (min (lo f k).1 (f k).1, min (lo f k).2 (f k).2)) := rfl
      have HH : Hid (hi f (k + 1) = (max (hi f k).1 (f k).1, max (hi f k).2 (f k).2)) := rfl
      obtain ⟨A1, hA1⟩ : ∃ A, A = fb (min (lo f k).1 (f k).1) := ⟨_, rfl⟩
      obtain ⟨A2, hA2⟩ : ∃ A, A = fb (min (lo f k).2 (f k).2) := ⟨_, rfl⟩
      obtain ⟨A3, hA3⟩ : ∃ A, A = fb (max (hi f k).1 (f k).1) := ⟨_, rfl⟩
      obtain ⟨A4, hA4⟩ : ∃ A, A = fb (max (hi f k).2 (f k).2) := ⟨_, rfl⟩
      rw [← hA1] at m1
      rw [← hA2] at m2
      rw [← hA3] at m3
      rw [← hA4] at m4
      have HA1 := hid hA1
      have HA2 := hid hA2
      have HA3 := hid hA3
      have HA4 := hid hA4
      clear hA1 hA2 hA3 hA4 hr hl hh
      generalize fb (lo f k).1 = x1 at *
      generalize fb (lo f k).2 = x2 at *
      generalize fb (hi f k).1 = x3 at *
      generalize fb (hi f k).2 = x4 at *
      generalize fb (f k).1 = x5 at *
      generalize fb (f k).2 = x6 at *
      go_wp2_with fail
      go_roundg (m - (k + 1))
      case measure => omega
      case rel => exact ⟨k + 1, by omega, by omega, by go_num, by rw [HL.out, ← HA1.out, ← HA2.out], by rw [HH.out, ← HA3.out, ← HA4.out], rfl⟩
    · have hlti : ¬ (k : Int) < m := by omega
      have e : k = m := by omega
      subst e
      have hl := lo_range f k HN.out h0 k hk
      have hh := hi_range f k HN.out h0 k hk
      have t1 : Tidy (fb (lo f k).1) := ⟨_, by omega, rfl⟩
      have t2 : Tidy (fb (lo f k).2) := ⟨_, by omega, rfl⟩
      have t3 : Tidy (fb (hi f k).1) := ⟨_, by omega, rfl⟩
      have t4 : Tidy (fb (hi f k).2) := ⟨_, by omega, rfl⟩
      have HP : Hid (cP (lo f k) = .complex .f64 (fb (lo f k).1) (fb (lo f k).2) ∧ cP (hi f k) = .complex .f64 (fb (hi f k).1) (fb (hi f k).2)) := ⟨rfl, rfl⟩
      clear hl hh
      generalize fb (lo f k).1 = x1 at *
      generalize fb (lo f k).2 = x2 at *
      generalize fb (hi f k).1 = x3 at *
      generalize fb (hi f k).2 = x4 at *
      go_wp2_with (go_at_call 20; refine (plain_is _ _ (by first | exact t1 | exact t3) (by first | exact t2 | exact t4) _).mono ?_; rintro e w1 ⟨rfl, rfl⟩)
      refine bodyPost_ret (v := .tuple #[.complex .f64 x1 x2, .complex .f64 x3 x4]) (by simp [results, Tryd.results13, go_sem]) rfl ⟨?_, (Below.refl _ _).drew⟩
      rw [HP.out.1, HP.out.2]
end Go.Proofs.YtcbflglnadmmfaaDoor
