/-
  Same of two sets.
-/
import Derived.Test.YtpkfpfflnncleaaDoorB14
namespace Go.Proofs.YtpkfpfflnncleaaDoor
set_option linter.unusedVariables false
set_option linter.unusedSimpArgs false
open Go.RowKit

/-- The first k words of two lists are alike. -/
def Alike (ws vs : List Nat) (k : Nat) : Prop := ∀ j, j < k → ws.getD j 0 = vs.getD j 0
theorem Alike.eq {ws vs : List Nat} (h : Alike ws vs ws.length) (hl : vs.length = ws.length) : ws = vs := by
  apply List.ext_getElem hl.symm
  intro i h1 h2
  have := h i h1
  rw [List.getD_eq_getElem?_getD, List.getD_eq_getElem?_getD, List.getElem?_eq_getElem h1, List.getElem?_eq_getElem h2] at this
  exact this
theorem bits_ext (ws vs : List Nat) (hl : vs.length = ws.length) (h1 : ∀ j, ws.getD j 0 < 18446744073709551616) (h2 : ∀ j, vs.getD j 0 < 18446744073709551616) : ws = vs ↔ ∀ i, bit ws i = bit vs i := by
  constructor
  · rintro rfl i
    rfl
  · intro h
    refine Alike.eq (fun j hj => ?_) hl
    apply Nat.eq_of_testBit_eq
    intro k
    by_cases hk : k < 64
    · have h3 := h (64 * j + k)
      have e1 : (64 * j + k) / 64 = j := by omega
      have e2 : (64 * j + k) % 64 = k := by omega
      unfold bit at h3
      rw [e1, e2] at h3
      exact h3
    · rw [Nat.testBit_lt_two_pow (Nat.lt_of_lt_of_le (h1 j) (Nat.pow_le_pow_right (n := 2) (i := 64) (by decide) (by omega))), Nat.testBit_lt_two_pow (Nat.lt_of_lt_of_le (h2 j) (Nat.pow_le_pow_right (n := 2) (i := 64) (by decide) (by omega)))]

set_option maxHeartbeats 2000000 in
theorem equal64 (c c2 : Nat) (ws vs : List Nat) (w : World) (h1 : ∀ j, j < ws.length → w.cell? ⟨c, j, none⟩ = some (.int .u64 (ws.getD j 0 : Nat))) (h2 : ∀ j, j < vs.length → w.cell? ⟨c2, j, none⟩ = some (.int .u64 (vs.getD j 0 : Nat))) (hl : vs.length = ws.length) (hm : ws.length ≤ 64) :
    Calls Tryd.prog 48 #[.slice (some ⟨c, 0, none⟩) ws.length ws.length, .slice (some ⟨c2, 0, none⟩) ws.length ws.length] w fun e w' => e = .returned (.bool (decide (ws = vs))) ∧ ∃ q, w' = w.drewN q := by
  have H1 := hid h1
  have H2 := hid h2
  have HL := hid hl
  clear h1 h2 hl
  have hmi : (ws.length : Int) ≤ 64 := by omega
  have hq : ((ws.length : Int) == (ws.length : Int)) = true := by simp
  go_enter Tryd.func48, Tryd.ntmps48
  go_wp2_with fail
  go_loopg [5, 13] ws.length (fun g _ i wr => ∃ k : Nat, k ≤ ws.length ∧ ws.length - k ≤ g ∧ i = .int .i64 k ∧ Aside (Alike ws vs k) ∧ Aside (∃ q, wr = w.drewN q))
  case atStart => exact ⟨0, Nat.zero_le _, by omega, rfl, fun j hj => by omega, 0, rfl⟩
  case round =>
    obtain ⟨k, hk, hg, rfl, AX, QX⟩ := hrel
    obtain ⟨q, rfl⟩ := QX.out
    by_cases hlt : k < ws.length
    · have hlti : (k : Int) < ws.length := by omega
      have d1 := H1.out k hlt
      have d2 := H2.out k (by have := HL.out; omega)
      by_cases he : ws.getD k 0 = vs.getD k 0
      · have HE0 : Hid (ws.getD k 0 = vs.getD k 0) := he
        rw [← he] at d2
        clear he
        obtain ⟨x, hx⟩ : ∃ x, ws.getD k 0 = x := ⟨_, rfl⟩
        rw [hx] at d1 d2
        clear hx
        have hxx : ((x : Int) == (x : Int)) = true := by simp
        go_wp2_with fail
        go_quiet (fail)
        go_wp2_with fail
        go_roundg (ws.length - (k + 1))
        · refine ⟨k + 1, by omega, by omega, by go_num, ?_, _, rfl⟩
          intro j hj
          by_cases e : j = k
          · subst e
            exact HE0.out
          · exact AX.out j (by omega)
        · omega
      · have hne : ((ws.getD k 0 : Int) == (vs.getD k 0 : Int)) = false := by simp at he ⊢; omega
        have HD : Hid (decide (ws = vs) = false) := by
          show _ = _
          simp
          rintro rfl
          exact he rfl
        clear he
        generalize ws.getD k 0 = x at *
        generalize vs.getD k 0 = y at *
        go_wp2_with fail
        go_quiet (fail)
        go_wp2_with fail
        go_ret
        exact ⟨by rw [HD.out]; rfl, q + nq, by simp [World.drewN, Nat.add_assoc]⟩
    · have hlti : ¬ (k : Int) < ws.length := by omega
      have ek : ws.length = k := by omega
      have HD : Hid (decide (ws = vs) = true) := by
        show _ = _
        have A := AX.out
        rw [← ek] at A
        simp
        exact A.eq HL.out
      clear ek
      go_wp2_with fail
      go_ret
      exact ⟨by rw [HD.out]; rfl, _, rfl⟩

theorem SetAt.words {w : World} {b n c : Nat} {ws : List Nat} (h : SetAt w b n c ws) (q : Nat) : ∀ j, j < ws.length → (w.drewN q).cell? ⟨c, j, none⟩ = some (.int .u64 (ws.getD j 0 : Nat)) := fun j hj => h.word j hj
set_option maxHeartbeats 2000000 in
theorem same_at (b n c : Nat) (ws : List Nat) (b2 n2 c2 : Nat) (vs : List Nat) (w : World) (h : SetAt w b n c ws) (h' : SetAt w b2 n2 c2 vs) :
    Calls Tryd.prog 29 #[.pointer (some ⟨b, 0, none⟩), .pointer (some ⟨b2, 0, none⟩)] w fun e w' => e = .returned (.bool (decide (n = n2 ∧ ws = vs))) ∧ ∃ q, w' = w.drewN q := by
  have M : Hid (∀ q, Calls Tryd.prog 45 #[.pointer (some ⟨b, 0, none⟩)] (w.drewN q) fun e w'' => e = .returned (.bool true) ∧ ∃ m, w'' = w.drewN m) := fun q => quietly (isMade_at b true (w.drewN q) h.c0)
  have N : Hid (∀ q, Calls Tryd.prog 45 #[.pointer (some ⟨b2, 0, none⟩)] (w.drewN q) fun e w'' => e = .returned (.bool true) ∧ ∃ m, w'' = w.drewN m) := fun q => quietly (isMade_at b2 true (w.drewN q) h'.c0)
  have c1 := h.c1
  have d1 := h'.c1
  have c2' := h.c2
  have d2' := h'.c2
  by_cases hn : n = n2
  · subst hn
    have hl : vs.length = ws.length := by rw [h.len, h'.len]
    rw [hl] at d2'
    have hm : ws.length ≤ 64 := by have := h.len; have := h.bound; omega
    have E : Hid (∀ q, Calls Tryd.prog 48 #[.slice (some ⟨c, 0, none⟩) ws.length ws.length, .slice (some ⟨c2, 0, none⟩) ws.length ws.length] (w.drewN q) fun e w'' => e = .returned (.bool (decide (ws = vs))) ∧ ∃ m, w'' = w.drewN m) := fun q =>
      (equal64 c c2 ws vs (w.drewN q) (h.words q) (h'.words q) hl hm).mono fun _ _ ⟨he, r, hr⟩ => ⟨he, q + r, by rw [hr]; simp [World.drewN, Nat.add_assoc]⟩
    have hnn : ((n : Int) == (n : Int)) = true := by simp
    clear h h'
    go_enter Tryd.func29, Tryd.ntmps29
    go_wp2_with fail
    refine wp_region_quiet_lit (by kernel_rfl) (by kernel_rfl) ?_
    iterate 2 (go_big_quiet_step ((go_at_call 45; exact M.out _)))
    clear M
    iterate 3 (go_big_quiet_step ((go_at_call 45; exact N.out _)))
    clear N
    repeat (go_big_quiet_step ((go_at_call 48; exact E.out _)))
    refine wpQuiet_nil ?_
    intro _ hw'
    obtain ⟨nq, hw''⟩ := hw'
    subst hw''
    go_wp2
    go_ret
    exact ⟨by simp, _, rfl⟩
  · have hnn : ((n : Int) == (n2 : Int)) = false := by simp; omega
    have HD : Hid (decide (n = n2 ∧ ws = vs) = false) := by
      show _ = _
      simp [hn]
    clear h h' hn
    go_enter Tryd.func29, Tryd.ntmps29
    go_wp2_with fail
    refine wp_region_quiet_lit (by kernel_rfl) (by kernel_rfl) ?_
    iterate 2 (go_big_quiet_step ((go_at_call 45; exact M.out _)))
    clear M
    repeat (go_big_quiet_step ((go_at_call 45; exact N.out _)))
    refine wpQuiet_nil ?_
    intro _ hw'
    obtain ⟨nq, hw''⟩ := hw'
    subst hw''
    go_wp2
    go_ret
    exact ⟨by rw [HD.out]; rfl, _, rfl⟩
theorem same_is (b n c : Nat) (f : Nat → Bool) (b2 n2 c2 : Nat) (g : Nat → Bool) (w : World) (h : Is w b n c f) (h' : Is w b2 n2 c2 g) :
    Calls Tryd.prog 29 #[.pointer (some ⟨b, 0, none⟩), .pointer (some ⟨b2, 0, none⟩)] w fun e w' => (∃ t : Bool, e = .returned (.bool t) ∧ (t = true ↔ n = n2 ∧ ∀ i, f i = g i)) ∧ ∃ q, w' = w.drewN q := by
  obtain ⟨ws, s1, s2⟩ := h.ex
  obtain ⟨vs, v1, v2⟩ := h'.ex
  refine (same_at b n c ws b2 n2 c2 vs w s1 v1).mono ?_
  rintro e w' ⟨rfl, q, rfl⟩
  refine ⟨⟨_, rfl, ?_⟩, q, rfl⟩
  rw [decide_eq_true_eq]
  constructor
  · rintro ⟨rfl, rfl⟩
    exact ⟨rfl, fun i => by rw [← s2, ← v2]⟩
  · rintro ⟨rfl, hi⟩
    refine ⟨rfl, (bits_ext ws vs (by rw [s1.len, v1.len]) s1.lt v1.lt).2 fun i => ?_⟩
    rw [s2, v2, hi]
end Go.Proofs.YtpkfpfflnncleaaDoor
