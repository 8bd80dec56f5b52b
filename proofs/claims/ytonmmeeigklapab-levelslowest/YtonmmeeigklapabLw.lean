/-
  Lowest: the lower of two levels, and the document's.
-/
import Derived.Test.YtonmmeeigklapabLv
import Derived.LoopTactic
namespace Go.Proofs.Ytonmmeeigklapab
open Go.RowKit
set_option linter.unusedVariables false
set_option linter.unusedSimpArgs false

/-- A number as a level that counts; 0: none. -/
def nl (a : Int) : Int := if 1 ≤ a ∧ a ≤ 5 then a else 0
/-- The lower one. -/
def lowL (a b : Int) : Int := if nl a = 0 then nl b else if nl b = 0 then nl a else if nl b < nl a then nl b else nl a
theorem nl_cases (a : Int) : (1 ≤ a ∧ a ≤ 5 ∧ nl a = a) ∨ (¬ (1 ≤ a ∧ a ≤ 5) ∧ nl a = 0) := by
  unfold nl
  by_cases h : 1 ≤ a ∧ a ≤ 5
  · exact .inl ⟨h.1, h.2, if_pos h⟩
  · exact .inr ⟨h, if_neg h⟩
theorem nl_nl (a : Int) : nl (nl a) = nl a := by rcases nl_cases a with h | h <;> rcases nl_cases (nl a) with k | k <;> omega
theorem lowL_range (a b : Int) : nl (lowL a b) = lowL a b := by
  unfold lowL
  split
  · exact nl_nl b
  · split
    · exact nl_nl a
    · split
      · exact nl_nl b
      · exact nl_nl a
theorem lowL_comm (a b : Int) : lowL a b = lowL b a := by
  unfold lowL
  generalize nl a = x
  generalize nl b = y
  split <;> split <;> (try split) <;> (try split) <;> omega
theorem lowL_val (a b : Int) : lowL a b = if nl a = 0 then nl b else if nl b = 0 then nl a else if nl b < nl a then nl b else nl a := rfl
theorem lowL_assoc (a b c : Int) : lowL (lowL a b) c = lowL a (lowL b c) := by
  have h1 := lowL_range a b
  have h2 := lowL_range b c
  rw [lowL_val (lowL a b) c, lowL_val a (lowL b c), h1, h2, lowL_val a b, lowL_val b c]
  have n1 : 0 ≤ nl a := by rcases nl_cases a with h | h <;> omega
  have n2 : 0 ≤ nl b := by rcases nl_cases b with h | h <;> omega
  have n3 : 0 ≤ nl c := by rcases nl_cases c with h | h <;> omega
  generalize nl a = x at *
  generalize nl b = y at *
  generalize nl c = z at *
  clear h1 h2
  by_cases hx : x = 0 <;> by_cases hy : y = 0 <;> by_cases hz : z = 0 <;> by_cases h3 : y < x <;> by_cases h4 : z < y <;> by_cases h5 : z < x <;> simp [hx, hy, hz, h3, h4, h5] <;> omega

set_option maxHeartbeats 8000000 in
theorem low_is (a b : Int) (w : World) : Calls Try.prog 11 #[.int .i64 a, .int .i64 b] w fun e w' => e = .returned (.int .i64 (lowL a b)) ∧ w = w' := by
  have i0 : ∀ w : World, (Instr.index 29 (.agg #[.int .i64 a, .int .i64 b]) (.int .i64 0)).run Try.prog w = .ok (.int .i64 a) w := fun _ => by kernel_rfl
  have i1 : ∀ w : World, (Instr.index 29 (.agg #[.int .i64 a, .int .i64 b]) (.int .i64 1)).run Try.prog w = .ok (.int .i64 b) w := fun _ => by kernel_rfl
  go_enter Try.func11, Try.ntmps11
  go_wp2
  go_loop [5, 11] (fun l i => ∃ k : Nat, k ≤ 2 ∧ i = .int .i64 k ∧ l = .int .i64 (if k = 0 then 0 else if k = 1 then nl a else lowL a b)) (fun _ i => 2 - (intOf i).toNat)
  case atStart => exact ⟨0, by omega, rfl, rfl⟩
  case round =>
    obtain ⟨k, hk, rfl, rfl⟩ := hrel
    have hk3 : k = 0 ∨ k = 1 ∨ k = 2 := by omega
    rcases hk3 with rfl | rfl | rfl
    · rw [if_pos rfl]
      rcases nl_cases a with ⟨h1, h2, h3⟩ | ⟨h1, h3⟩
      · have hl := lvB_yes (n := a) (by omega) (by omega)
        have hne : ¬ a = 0 := by omega
        have hneb : (a != 0) = true := by simp; omega
        have H3 : Hid (nl a = a) := h3
        clear h3
        go_wp2_with (go_at_call 14; refine (isLevel_is _ _).mono ?_; rintro e w' ⟨rfl, rfl⟩)
        go_round
        case rel => exact ⟨1, by omega, rfl, by rw [if_neg (by omega), if_pos rfl, H3.out]⟩
        case measure => simp [intOf]
      · have H3 : Hid (nl a = 0) := h3
        clear h3
        by_cases h0 : a = 0
        · have hl : lvB a = true := lvB_yes (by omega) (by omega)
          subst h0
          go_wp2_with (go_at_call 14; refine (isLevel_is _ _).mono ?_; rintro e w' ⟨rfl, rfl⟩)
          go_round
          case rel => exact ⟨1, by omega, rfl, by rw [if_neg (by omega), if_pos rfl, H3.out]⟩
          case measure => simp [intOf]
        · have hl : lvB a = false := lvB_no (by omega)
          go_wp2_with (go_at_call 14; refine (isLevel_is _ _).mono ?_; rintro e w' ⟨rfl, rfl⟩)
          go_round
          case rel => exact ⟨1, by omega, rfl, by rw [if_neg (by omega), if_pos rfl, H3.out]⟩
          case measure => simp [intOf]
    · rw [if_neg (by omega), if_pos rfl]
      have HV := lowL_val a b
      have ha0 : nl a = 0 ∨ (1 ≤ nl a ∧ nl a ≤ 5) := by rcases nl_cases a with h | h <;> omega
      obtain ⟨x, hx⟩ : ∃ x, nl a = x := ⟨_, rfl⟩
      rw [hx] at HV ha0 ⊢
      clear hx
      rcases nl_cases b with ⟨h1, h2, h3⟩ | ⟨h1, h3⟩
      · have hl := lvB_yes (n := b) (by omega) (by omega)
        have hne : ¬ b = 0 := by omega
        have hneb : (b != 0) = true := by simp; omega
        rw [h3] at HV
        have H3 : Hid (nl b = b) := h3
        clear h3
        by_cases hx0 : x = 0
        · subst hx0
          rw [if_pos rfl] at HV
          have HH : Hid (lowL a b = b) := HV
          clear HV
          go_wp2_with (go_at_call 14; refine (isLevel_is _ _).mono ?_; rintro e w' ⟨rfl, rfl⟩)
          go_round
          case rel => exact ⟨2, by omega, rfl, by rw [if_neg (by omega), if_neg (by omega), HH.out]⟩
          case measure => simp [intOf]
        · have hxb : (x == 0) = false := by simpa using hx0
          rw [if_neg hx0, if_neg hne] at HV
          by_cases hbx : b < x
          · rw [if_pos hbx] at HV
            have HH : Hid (lowL a b = b) := HV
            clear HV
            go_wp2_with (go_at_call 14; refine (isLevel_is _ _).mono ?_; rintro e w' ⟨rfl, rfl⟩)
            go_round
            case rel => exact ⟨2, by omega, rfl, by rw [if_neg (by omega), if_neg (by omega), HH.out]⟩
            case measure => simp [intOf]
          · rw [if_neg hbx] at HV
            have HH : Hid (lowL a b = x) := HV
            clear HV
            go_wp2_with (go_at_call 14; refine (isLevel_is _ _).mono ?_; rintro e w' ⟨rfl, rfl⟩)
            go_round
            case rel => exact ⟨2, by omega, rfl, by rw [if_neg (by omega), if_neg (by omega), HH.out]⟩
            case measure => simp [intOf]
      · rw [h3] at HV
        have HH : Hid (lowL a b = x) := by
          show lowL a b = x
          rw [HV]
          by_cases hx0 : x = 0
          · rw [if_pos hx0, hx0]
          · rw [if_neg hx0, if_pos rfl]
        clear HV h3
        by_cases h0 : b = 0
        · have hl : lvB b = true := lvB_yes (by omega) (by omega)
          subst h0
          go_wp2_with (go_at_call 14; refine (isLevel_is _ _).mono ?_; rintro e w' ⟨rfl, rfl⟩)
          go_round
          case rel => exact ⟨2, by omega, rfl, by rw [if_neg (by omega), if_neg (by omega), HH.out]⟩
          case measure => simp [intOf]
        · have hl : lvB b = false := lvB_no (by omega)
          go_wp2_with (go_at_call 14; refine (isLevel_is _ _).mono ?_; rintro e w' ⟨rfl, rfl⟩)
          go_round
          case rel => exact ⟨2, by omega, rfl, by rw [if_neg (by omega), if_neg (by omega), HH.out]⟩
          case measure => simp [intOf]
    · rw [if_neg (by omega), if_neg (by omega)]
      go_wp2
      go_ret
      exact ⟨rfl, rfl⟩

set_option maxHeartbeats 8000000 in
theorem rlow_is (a b : Int) (w : World) : Calls Try.prog 12 #[.int .i64 a, .int .i64 b] w fun e w' => e = .returned (.int .i64 (lowL a b)) ∧ w = w' := by
  have HV := lowL_val a b
  by_cases la : a < 1
  · have na : nl a = 0 := by rcases nl_cases a with h | h <;> omega
    rw [na] at HV
    clear na
    by_cases lb : b < 1
    · have nb : nl b = 0 := by rcases nl_cases b with h | h <;> omega
      rw [nb] at HV
      clear nb
      have HH : Hid (lowL a b = 0) := by show lowL a b = 0; rw [HV]; simp [*]
      clear HV
      go_enter Try.func12, Try.ntmps12
      go_wp2
      go_ret
      exact ⟨ret_int (by rw [HH.out]), rfl⟩
    · by_cases gb : b > 5
      · have nb : nl b = 0 := by rcases nl_cases b with h | h <;> omega
        rw [nb] at HV
        clear nb
        have HH : Hid (lowL a b = 0) := by show lowL a b = 0; rw [HV]; simp [*]
        clear HV
        go_enter Try.func12, Try.ntmps12
        go_wp2
        go_ret
        exact ⟨ret_int (by rw [HH.out]), rfl⟩
      · have nb : nl b = b := by rcases nl_cases b with h | h <;> omega
        rw [nb] at HV
        clear nb
        have zb : ¬ b = 0 := by omega
        have yb : (b == 0) = false := by simpa using zb
        have xb : (b != 0) = true := by simpa using zb
        have HH : Hid (lowL a b = b) := by show lowL a b = b; rw [HV]; simp [*]
        clear HV
        go_enter Try.func12, Try.ntmps12
        go_wp2
        go_ret
        exact ⟨ret_int (by rw [HH.out]), rfl⟩
  · by_cases ga : a > 5
    · have na : nl a = 0 := by rcases nl_cases a with h | h <;> omega
      rw [na] at HV
      clear na
      by_cases lb : b < 1
      · have nb : nl b = 0 := by rcases nl_cases b with h | h <;> omega
        rw [nb] at HV
        clear nb
        have HH : Hid (lowL a b = 0) := by show lowL a b = 0; rw [HV]; simp [*]
        clear HV
        go_enter Try.func12, Try.ntmps12
        go_wp2
        go_ret
        exact ⟨ret_int (by rw [HH.out]), rfl⟩
      · by_cases gb : b > 5
        · have nb : nl b = 0 := by rcases nl_cases b with h | h <;> omega
          rw [nb] at HV
          clear nb
          have HH : Hid (lowL a b = 0) := by show lowL a b = 0; rw [HV]; simp [*]
          clear HV
          go_enter Try.func12, Try.ntmps12
          go_wp2
          go_ret
          exact ⟨ret_int (by rw [HH.out]), rfl⟩
        · have nb : nl b = b := by rcases nl_cases b with h | h <;> omega
          rw [nb] at HV
          clear nb
          have zb : ¬ b = 0 := by omega
          have yb : (b == 0) = false := by simpa using zb
          have xb : (b != 0) = true := by simpa using zb
          have HH : Hid (lowL a b = b) := by show lowL a b = b; rw [HV]; simp [*]
          clear HV
          go_enter Try.func12, Try.ntmps12
          go_wp2
          go_ret
          exact ⟨ret_int (by rw [HH.out]), rfl⟩
    · have na : nl a = a := by rcases nl_cases a with h | h <;> omega
      rw [na] at HV
      clear na
      have za : ¬ a = 0 := by omega
      have ya : (a == 0) = false := by simpa using za
      have xa : (a != 0) = true := by simpa using za
      by_cases lb : b < 1
      · have nb : nl b = 0 := by rcases nl_cases b with h | h <;> omega
        rw [nb] at HV
        clear nb
        have HH : Hid (lowL a b = a) := by show lowL a b = a; rw [HV]; simp [*]
        clear HV
        go_enter Try.func12, Try.ntmps12
        go_wp2
        go_ret
        exact ⟨ret_int (by rw [HH.out]), rfl⟩
      · by_cases gb : b > 5
        · have nb : nl b = 0 := by rcases nl_cases b with h | h <;> omega
          rw [nb] at HV
          clear nb
          have HH : Hid (lowL a b = a) := by show lowL a b = a; rw [HV]; simp [*]
          clear HV
          go_enter Try.func12, Try.ntmps12
          go_wp2
          go_ret
          exact ⟨ret_int (by rw [HH.out]), rfl⟩
        · have nb : nl b = b := by rcases nl_cases b with h | h <;> omega
          rw [nb] at HV
          clear nb
          have zb : ¬ b = 0 := by omega
          have yb : (b == 0) = false := by simpa using zb
          have xb : (b != 0) = true := by simpa using zb
          by_cases lt : b < a
          · have HH : Hid (lowL a b = b) := by show lowL a b = b; rw [HV]; simp [*]
            clear HV
            go_enter Try.func12, Try.ntmps12
            go_wp2
            go_ret
            exact ⟨ret_int (by rw [HH.out]), rfl⟩
          · have HH : Hid (lowL a b = a) := by show lowL a b = a; rw [HV]; simp [*]
            clear HV
            go_enter Try.func12, Try.ntmps12
            go_wp2
            go_ret
            exact ⟨ret_int (by rw [HH.out]), rfl⟩
end Go.Proofs.Ytonmmeeigklapab
