/-
  The document's sets: Or and And; sets of unlike bounds.
-/
import Derived.Test.YtpkfpfflnncleaaDoorR2
import Derived.Test.YtpkfpfflnncleaaDoorB13
namespace Go.Proofs.YtpkfpfflnncleaaDoor
set_option linter.unusedVariables false
set_option linter.unusedSimpArgs false
open Go.RowKit

/-- Some number below k is other than it was. -/
def chB (f h : Nat → Bool) (k : Nat) : Bool := (List.range k).any fun j => f j != h j
theorem chB_succ (f h : Nat → Bool) (k : Nat) : chB f h (k + 1) = (chB f h k || f k != h k) := by
  unfold chB
  rw [List.range_succ, List.any_append]
  simp
theorem chB_iff (f h : Nat → Bool) (n : Nat) (h1 : ∀ i, n ≤ i → f i = h i) : chB f h n = true ↔ ∃ i, h i ≠ f i := by
  unfold chB
  rw [List.any_eq_true]
  constructor
  · rintro ⟨j, _, hj⟩
    exact ⟨j, fun e => by simp [e] at hj⟩
  · rintro ⟨j, hj⟩
    have : j < n := by
      rcases Nat.lt_or_ge j n with h | h
      · exact h
      · exact absurd (h1 j h).symm hj
    exact ⟨j, List.mem_range.2 this, by simp; exact fun e => hj e.symm⟩
theorem Ref.congr {w : World} {b n c : Nat} {f g : Nat → Bool} (h : Ref w b n c f) (e : ∀ k, f k = g k) : Ref w b n c g := by
  have : f = g := funext e
  rw [← this]
  exact h

theorem with_off (b n c : Nat) (f : Nat → Bool) (b2 n2 c2 : Nat) (g : Nat → Bool) (w : World) (t : Bool) (h : Ref w b n c f) (h' : Ref w b2 n2 c2 g) (hn : n ≠ n2) :
    Calls Tryd.prog 43 #[.pointer (some ⟨b, 0, none⟩), .pointer (some ⟨b2, 0, none⟩), .bool t] w fun e w' => e = .returned (.tuple #[.bool false, .int .i64 1]) ∧ ∃ q, w' = w.drewN q := by
  obtain ⟨cap, hcap, c0, cj, fr⟩ := h.cells
  obtain ⟨cap2, hcap2, d0, dj, fr2⟩ := h'.cells
  have hnn : ((n2 : Int) == (n : Int)) = false := by simp; omega
  clear h h' cj dj fr fr2 hn
  go_enter Tryd.func43, Tryd.ntmps43
  go_wp2_with fail
  go_quiet (fail)
  go_wp2_with fail
  go_ret2
  exact ⟨rfl, _, rfl⟩
theorem merge_off (b n c : Nat) (f : Nat → Bool) (b2 n2 c2 : Nat) (g : Nat → Bool) (w : World) (v : Value) (h : Is w b n c f) (h' : Is w b2 n2 c2 g) (hn : n ≠ n2) :
    Calls Tryd.prog 41 #[.pointer (some ⟨b, 0, none⟩), .pointer (some ⟨b2, 0, none⟩), v] w fun e w' => e = .returned (.tuple #[.bool false, .int .i64 1]) ∧ ∃ q, w' = w.drewN q := by
  obtain ⟨ws, s1, s2⟩ := h.ex
  obtain ⟨vs, v1, v2⟩ := h'.ex
  have c1 := s1.c1
  have d1 := v1.c1
  have hnn : ((n : Int) == (n2 : Int)) = false := by simp; omega
  have M0 := hid (isMade_at b true w s1.c0)
  have M1 := hid (isMade_at b2 true w v1.c0)
  clear h h' s1 v1 s2 v2 hn
  go_enter Tryd.func41, Tryd.ntmps41
  go_wp2_with fail
  refine M0.out.mono ?_
  rintro e w' ⟨rfl, rfl⟩
  go_wp2_with fail
  refine M1.out.mono ?_
  rintro e w' ⟨rfl, rfl⟩
  go_wp2_with fail
  go_quiet (fail)
  go_wp2_with fail
  go_ret2
  exact ⟨rfl, _, rfl⟩
theorem or_off (b n c : Nat) (f : Nat → Bool) (b2 n2 c2 : Nat) (g : Nat → Bool) (w : World) (h : Is w b n c f) (h' : Is w b2 n2 c2 g) (hn : n ≠ n2) :
    Calls Tryd.prog 14 #[.pointer (some ⟨b, 0, none⟩), .pointer (some ⟨b2, 0, none⟩)] w fun e w' => e = .returned (.tuple #[.bool false, .int .i64 1]) ∧ ∃ q, w' = w.drewN q := by
  have M := hid (fun v => merge_off b n c f b2 n2 c2 g w v h h' hn)
  clear h h'
  go_enter Tryd.func14, Tryd.ntmps14
  go_wp2_with (go_at_call 41; refine (M.out _).mono ?_; rintro e w' ⟨rfl, q, rfl⟩)
  go_ret2
  exact ⟨rfl, _, rfl⟩
theorem and_off (b n c : Nat) (f : Nat → Bool) (b2 n2 c2 : Nat) (g : Nat → Bool) (w : World) (h : Is w b n c f) (h' : Is w b2 n2 c2 g) (hn : n ≠ n2) :
    Calls Tryd.prog 16 #[.pointer (some ⟨b, 0, none⟩), .pointer (some ⟨b2, 0, none⟩)] w fun e w' => e = .returned (.tuple #[.bool false, .int .i64 1]) ∧ ∃ q, w' = w.drewN q := by
  have M := hid (fun v => merge_off b n c f b2 n2 c2 g w v h h' hn)
  clear h h'
  go_enter Tryd.func16, Tryd.ntmps16
  go_wp2_with (go_at_call 41; refine (M.out _).mono ?_; rintro e w' ⟨rfl, q, rfl⟩)
  go_ret2
  exact ⟨rfl, _, rfl⟩

set_option maxHeartbeats 4000000 in
theorem with_or (b n c : Nat) (f : Nat → Bool) (b2 c2 : Nat) (g : Nat → Bool) (w : World) (h : Ref w b n c f) (h' : Ref w b2 n c2 g) (hc : c2 ≠ c) :
    Calls Tryd.prog 43 #[.pointer (some ⟨b, 0, none⟩), .pointer (some ⟨b2, 0, none⟩), .bool true] w fun e w' => e = .returned (.tuple #[.bool (chB f (fun i => f i || g i) n), .int .i64 0]) ∧ Ref w' b n c (fun i => f i || g i) ∧ Beside c w w' ∧ w'.heap.size = w.heap.size := by
  obtain ⟨cap, hcap, c0, cj, fr⟩ := h.cells
  obtain ⟨cap2, hcap2, d0, dj, fr2⟩ := h'.cells
  have hbd := h.bound
  have hni : (n : Int) ≤ 4096 := by omega
  have hnn : ((n : Int) == (n : Int)) = true := by simp
  have R := hid h
  have R' := hid h'
  clear h h' cj dj fr fr2
  go_enter Tryd.func43, Tryd.ntmps43
  go_wp2_with fail
  go_quiet (fail)
  go_wp2_with fail
  clear c0 d0
  go_loopg [8, 9, 10, 11, 30] n (fun gg ch _ _ _ i wr => ∃ k : Nat, k ≤ n ∧ n - k ≤ gg ∧ i = .int .i64 k ∧ ch = .bool (chB f (fun i => f i || g i) k) ∧ Aside (Ref wr b n c (fun i => if i < k then (f i || g i) else f i)) ∧ Aside (Beside c w wr) ∧ Aside (wr.heap.size = w.heap.size))
  case atStart => exact ⟨0, Nat.zero_le _, by omega, rfl, rfl, (R.out.drewN _).congr (fun k => by rw [if_neg (by omega)]), (Beside.refl _ _).drewN _, rfl⟩
  case round =>
    obtain ⟨k, hk, hg, rfl, rfl, RX, BX, ZX⟩ := hrel
    by_cases hlt : k < n
    · have hlti : (k : Int) < n := by omega
      obtain ⟨cap3, hcap3, e0, ej, efr⟩ := RX.out.cells
      have RY : Ref wr b2 n c2 g := R'.out.beside_ref R.out hc BX.out
      obtain ⟨cap4, hcap4, q0, qj, qfr⟩ := RY.cells
      have ek := ej k hlt
      rw [if_neg (by omega)] at ek
      have qk := qj k hlt
      have efk := efr k
      have P := hid (RX.out.put k (f k || g k) hlt)
      have BP := hid (BX.out.setCell (p := ⟨c, k, none⟩) rfl (.bool (f k || g k)))
      have HC := hid (chB_succ f (fun i => f i || g i) k)
      clear ej qj efr qfr RY
      obtain ⟨x, hx⟩ : ∃ x, f k = x := ⟨_, rfl⟩
      obtain ⟨y, hy⟩ : ∃ y, g k = y := ⟨_, rfl⟩
      have HX := hid hx
      have HY := hid hy
      rw [hx] at ek
      rw [hy] at qk
      simp only [hx, hy] at HC
      rw [hx, hy] at P BP
      clear hx hy
      generalize chB f (fun i => f i || g i) k = t at *
      cases t <;> cases x <;> cases y
      all_goals
        go_wp2_with fail
        go_roundg (n - (k + 1))
        · refine ⟨k + 1, by omega, by omega, by go_num, by rw [HC.out]; rfl, P.out.congr (fun i => ?_), BP.out, by simp [World.setCell]; exact ZX.out⟩
          by_cases e : i = k
          · rw [if_pos e, e, if_pos (by omega), HX.out, HY.out]
          · rw [if_neg e]
            by_cases e2 : i < k
            · rw [if_pos e2, if_pos (by omega)]
            · rw [if_neg e2, if_neg (by omega)]
        · omega
    · have hlti : ¬ (k : Int) < n := by omega
      have ek : n = k := by omega
      subst ek
      have key : Ref wr b n c (fun i => f i || g i) := RX.out.congr (fun i => by
        by_cases e : i < n
        · rw [if_pos e]
        · rw [if_neg e, R.out.top i (by omega), R'.out.top i (by omega)]
          rfl)
      have KEY := hid key
      clear key
      go_wp2_with fail
      go_ret2
      exact ⟨rfl, KEY.out, BX.out, ZX.out⟩
theorem ror_is (b n c : Nat) (f : Nat → Bool) (b2 c2 : Nat) (g : Nat → Bool) (w : World) (h : Ref w b n c f) (h' : Ref w b2 n c2 g) (hc : c2 ≠ c) :
    Calls Tryd.prog 15 #[.pointer (some ⟨b, 0, none⟩), .pointer (some ⟨b2, 0, none⟩)] w fun e w' => e = .returned (.tuple #[.bool (chB f (fun i => f i || g i) n), .int .i64 0]) ∧ Ref w' b n c (fun i => f i || g i) ∧ Beside c w w' ∧ w'.heap.size = w.heap.size := by
  have M := hid (with_or b n c f b2 c2 g w h h' hc)
  clear h h'
  generalize chB f (fun i => f i || g i) n = t at *
  go_enter Tryd.func15, Tryd.ntmps15
  go_wp2_with (go_at_call 43; refine M.out.mono ?_; rintro e w' ⟨rfl, r, bs, z⟩)
  go_ret2
  exact ⟨rfl, r, bs, z⟩
theorem ror_off (b n c : Nat) (f : Nat → Bool) (b2 n2 c2 : Nat) (g : Nat → Bool) (w : World) (h : Ref w b n c f) (h' : Ref w b2 n2 c2 g) (hn : n ≠ n2) :
    Calls Tryd.prog 15 #[.pointer (some ⟨b, 0, none⟩), .pointer (some ⟨b2, 0, none⟩)] w fun e w' => e = .returned (.tuple #[.bool false, .int .i64 1]) ∧ ∃ q, w' = w.drewN q := by
  have M := hid (with_off b n c f b2 n2 c2 g w true h h' hn)
  clear h h'
  go_enter Tryd.func15, Tryd.ntmps15
  go_wp2_with (go_at_call 43; refine M.out.mono ?_; rintro e w' ⟨rfl, q, rfl⟩)
  go_ret2
  exact ⟨rfl, _, rfl⟩

set_option maxHeartbeats 4000000 in
theorem with_and (b n c : Nat) (f : Nat → Bool) (b2 c2 : Nat) (g : Nat → Bool) (w : World) (h : Ref w b n c f) (h' : Ref w b2 n c2 g) (hc : c2 ≠ c) :
    Calls Tryd.prog 43 #[.pointer (some ⟨b, 0, none⟩), .pointer (some ⟨b2, 0, none⟩), .bool false] w fun e w' => e = .returned (.tuple #[.bool (chB f (fun i => f i && g i) n), .int .i64 0]) ∧ Ref w' b n c (fun i => f i && g i) ∧ Beside c w w' ∧ w'.heap.size = w.heap.size := by
  obtain ⟨cap, hcap, c0, cj, fr⟩ := h.cells
  obtain ⟨cap2, hcap2, d0, dj, fr2⟩ := h'.cells
  have hbd := h.bound
  have hni : (n : Int) ≤ 4096 := by omega
  have hnn : ((n : Int) == (n : Int)) = true := by simp
  have R := hid h
  have R' := hid h'
  clear h h' cj dj fr fr2
  go_enter Tryd.func43, Tryd.ntmps43
  go_wp2_with fail
  go_quiet (fail)
  go_wp2_with fail
  clear c0 d0
  go_loopg [8, 9, 10, 11, 30] n (fun gg ch _ _ _ i wr => ∃ k : Nat, k ≤ n ∧ n - k ≤ gg ∧ i = .int .i64 k ∧ ch = .bool (chB f (fun i => f i && g i) k) ∧ Aside (Ref wr b n c (fun i => if i < k then (f i && g i) else f i)) ∧ Aside (Beside c w wr) ∧ Aside (wr.heap.size = w.heap.size))
  case atStart => exact ⟨0, Nat.zero_le _, by omega, rfl, rfl, (R.out.drewN _).congr (fun k => by rw [if_neg (by omega)]), (Beside.refl _ _).drewN _, rfl⟩
  case round =>
    obtain ⟨k, hk, hg, rfl, rfl, RX, BX, ZX⟩ := hrel
    by_cases hlt : k < n
    · have hlti : (k : Int) < n := by omega
      obtain ⟨cap3, hcap3, e0, ej, efr⟩ := RX.out.cells
      have RY : Ref wr b2 n c2 g := R'.out.beside_ref R.out hc BX.out
      obtain ⟨cap4, hcap4, q0, qj, qfr⟩ := RY.cells
      have ek := ej k hlt
      rw [if_neg (by omega)] at ek
      have qk := qj k hlt
      have efk := efr k
      have P := hid (RX.out.put k (f k && g k) hlt)
      have BP := hid (BX.out.setCell (p := ⟨c, k, none⟩) rfl (.bool (f k && g k)))
      have HC := hid (chB_succ f (fun i => f i && g i) k)
      clear ej qj efr qfr RY
      obtain ⟨x, hx⟩ : ∃ x, f k = x := ⟨_, rfl⟩
      obtain ⟨y, hy⟩ : ∃ y, g k = y := ⟨_, rfl⟩
      have HX := hid hx
      have HY := hid hy
      rw [hx] at ek
      rw [hy] at qk
      simp only [hx, hy] at HC
      rw [hx, hy] at P BP
      clear hx hy
      generalize chB f (fun i => f i && g i) k = t at *
      cases t <;> cases x <;> cases y
      all_goals
        go_wp2_with fail
        go_roundg (n - (k + 1))
        · refine ⟨k + 1, by omega, by omega, by go_num, by rw [HC.out]; rfl, P.out.congr (fun i => ?_), BP.out, by simp [World.setCell]; exact ZX.out⟩
          by_cases e : i = k
          · rw [if_pos e, e, if_pos (by omega), HX.out, HY.out]
          · rw [if_neg e]
            by_cases e2 : i < k
            · rw [if_pos e2, if_pos (by omega)]
            · rw [if_neg e2, if_neg (by omega)]
        · omega
    · have hlti : ¬ (k : Int) < n := by omega
      have ek : n = k := by omega
      subst ek
      have key : Ref wr b n c (fun i => f i && g i) := RX.out.congr (fun i => by
        by_cases e : i < n
        · rw [if_pos e]
        · rw [if_neg e, R.out.top i (by omega), R'.out.top i (by omega)]
          rfl)
      have KEY := hid key
      clear key
      go_wp2_with fail
      go_ret2
      exact ⟨rfl, KEY.out, BX.out, ZX.out⟩
theorem rand_is (b n c : Nat) (f : Nat → Bool) (b2 c2 : Nat) (g : Nat → Bool) (w : World) (h : Ref w b n c f) (h' : Ref w b2 n c2 g) (hc : c2 ≠ c) :
    Calls Tryd.prog 17 #[.pointer (some ⟨b, 0, none⟩), .pointer (some ⟨b2, 0, none⟩)] w fun e w' => e = .returned (.tuple #[.bool (chB f (fun i => f i && g i) n), .int .i64 0]) ∧ Ref w' b n c (fun i => f i && g i) ∧ Beside c w w' ∧ w'.heap.size = w.heap.size := by
  have M := hid (with_and b n c f b2 c2 g w h h' hc)
  clear h h'
  generalize chB f (fun i => f i && g i) n = t at *
  go_enter Tryd.func17, Tryd.ntmps17
  go_wp2_with (go_at_call 43; refine M.out.mono ?_; rintro e w' ⟨rfl, r, bs, z⟩)
  go_ret2
  exact ⟨rfl, r, bs, z⟩
theorem rand_off (b n c : Nat) (f : Nat → Bool) (b2 n2 c2 : Nat) (g : Nat → Bool) (w : World) (h : Ref w b n c f) (h' : Ref w b2 n2 c2 g) (hn : n ≠ n2) :
    Calls Tryd.prog 17 #[.pointer (some ⟨b, 0, none⟩), .pointer (some ⟨b2, 0, none⟩)] w fun e w' => e = .returned (.tuple #[.bool false, .int .i64 1]) ∧ ∃ q, w' = w.drewN q := by
  have M := hid (with_off b n c f b2 n2 c2 g w false h h' hn)
  clear h h'
  go_enter Tryd.func17, Tryd.ntmps17
  go_wp2_with (go_at_call 43; refine M.out.mono ?_; rintro e w' ⟨rfl, q, rfl⟩)
  go_ret2
  exact ⟨rfl, _, rfl⟩
end Go.Proofs.YtpkfpfflnncleaaDoor
