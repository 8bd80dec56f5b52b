/-
  The document's right, whole.
-/
import Derived.Test.YtjeheknhpfkaiaaDoorR3
namespace Go.Proofs.YtjeheknhpfkaiaaDoor
set_option linter.unusedVariables false
set_option linter.unusedSimpArgs false
open Go.RowKit Go.Lib

set_option maxHeartbeats 2000000 in
theorem rright_get (B : Nat) (w : World) (xb : Nat) (v : Value) (L : List MOp) (h : Rst B w xb v L) (hL : L.length ≤ 1099511627776) (o : MOp) (la : Option Addr) (ln lc : Nat) (ho : o.has = true) (h2 : o.kind = 4) :
    Calls Tryd.prog 26 #[.pointer (some ⟨xb, 0, none⟩), opV o (.slice la ln lc)] w fun e w' => e = .returned (.bool (gets (regM L o.key) o)) ∧ Below w.heap.size w w' := by
  have HR := hid h
  clear h
  obtain ⟨ok, os, ox, ol, oh, on⟩ := o
  unfold opV
  simp only [MOp.kind, MOp.key, MOp.value, MOp.list, MOp.has, MOp.nl] at *
  subst ho h2
  obtain ⟨x, hx⟩ : ∃ x, rgV (regM L os) = x := ⟨_, rfl⟩
  obtain ⟨t, ht⟩ : ∃ t, (regM L os).isSome = t := ⟨_, rfl⟩
  have HG : Hid (gets (regM L os) (4, os, ox, ol, true, on) = ((t != on) && (on || x == ox))) := by unfold gets; rw [hx, ht]; rfl
  have HX := hid hx
  have HT := hid ht
  clear hx ht
  rw [HG.out]
  cases t with
  | true =>
    cases on with
    | true =>
      go_enter Tryd.func26, Tryd.ntmps26
      have BW : Hid (Below w.heap.size w (w.alloc (.cells #[.int .i64 4, .string os, .int .i64 ox, .slice la ln lc, .bool true, .bool true] 56))) := below_box w _
      have RW : Hid (Calls Tryd.prog 18 #[.pointer (some ⟨xb, 0, none⟩), .string os] (w.alloc (.cells #[.int .i64 4, .string os, .int .i64 ox, .slice la ln lc, .bool true, .bool true] 56)) fun e w' => e = .returned (.tuple #[.int .i64 x, .bool true]) ∧ w.alloc (.cells #[.int .i64 4, .string os, .int .i64 ox, .slice la ln lc, .bool true, .bool true] 56) = w') := by
        have q := rvalue_is B _ xb v L os (HR.out.later BW.out) hL
        rw [HX.out, HT.out] at q
        exact q
      go_wp2_with (go_at_call 18; refine RW.out.mono ?_; rintro e w5 ⟨rfl, rfl⟩)
      all_goals (go_ret; exact ⟨rfl, BW.out⟩)
    | false =>
      go_enter Tryd.func26, Tryd.ntmps26
      have BW : Hid (Below w.heap.size w (w.alloc (.cells #[.int .i64 4, .string os, .int .i64 ox, .slice la ln lc, .bool true, .bool false] 56))) := below_box w _
      have RW : Hid (Calls Tryd.prog 18 #[.pointer (some ⟨xb, 0, none⟩), .string os] (w.alloc (.cells #[.int .i64 4, .string os, .int .i64 ox, .slice la ln lc, .bool true, .bool false] 56)) fun e w' => e = .returned (.tuple #[.int .i64 x, .bool true]) ∧ w.alloc (.cells #[.int .i64 4, .string os, .int .i64 ox, .slice la ln lc, .bool true, .bool false] 56) = w') := by
        have q := rvalue_is B _ xb v L os (HR.out.later BW.out) hL
        rw [HX.out, HT.out] at q
        exact q
      go_wp2_with (go_at_call 18; refine RW.out.mono ?_; rintro e w5 ⟨rfl, rfl⟩)
      all_goals (go_ret; exact ⟨rfl, BW.out⟩)
  | false =>
    cases on with
    | true =>
      go_enter Tryd.func26, Tryd.ntmps26
      have BW : Hid (Below w.heap.size w (w.alloc (.cells #[.int .i64 4, .string os, .int .i64 ox, .slice la ln lc, .bool true, .bool true] 56))) := below_box w _
      have RW : Hid (Calls Tryd.prog 18 #[.pointer (some ⟨xb, 0, none⟩), .string os] (w.alloc (.cells #[.int .i64 4, .string os, .int .i64 ox, .slice la ln lc, .bool true, .bool true] 56)) fun e w' => e = .returned (.tuple #[.int .i64 x, .bool false]) ∧ w.alloc (.cells #[.int .i64 4, .string os, .int .i64 ox, .slice la ln lc, .bool true, .bool true] 56) = w') := by
        have q := rvalue_is B _ xb v L os (HR.out.later BW.out) hL
        rw [HX.out, HT.out] at q
        exact q
      go_wp2_with (go_at_call 18; refine RW.out.mono ?_; rintro e w5 ⟨rfl, rfl⟩)
      all_goals (go_ret; exact ⟨rfl, BW.out⟩)
    | false =>
      go_enter Tryd.func26, Tryd.ntmps26
      have BW : Hid (Below w.heap.size w (w.alloc (.cells #[.int .i64 4, .string os, .int .i64 ox, .slice la ln lc, .bool true, .bool false] 56))) := below_box w _
      have RW : Hid (Calls Tryd.prog 18 #[.pointer (some ⟨xb, 0, none⟩), .string os] (w.alloc (.cells #[.int .i64 4, .string os, .int .i64 ox, .slice la ln lc, .bool true, .bool false] 56)) fun e w' => e = .returned (.tuple #[.int .i64 x, .bool false]) ∧ w.alloc (.cells #[.int .i64 4, .string os, .int .i64 ox, .slice la ln lc, .bool true, .bool false] 56) = w') := by
        have q := rvalue_is B _ xb v L os (HR.out.later BW.out) hL
        rw [HX.out, HT.out] at q
        exact q
      go_wp2_with (go_at_call 18; refine RW.out.mono ?_; rintro e w5 ⟨rfl, rfl⟩)
      all_goals (go_ret; exact ⟨rfl, BW.out⟩)
/-- The document's word: an operation reads what there is, or nothing. -/
theorem rright_is (B : Nat) (w : World) (xb : Nat) (v : Value) (L : List MOp) (h : Rst B w xb v L) (hL : L.length ≤ 1099511627776) (o : MOp) (lv : Value) (hl : IntsIn Any w lv o.list) :
    Calls Tryd.prog 26 #[.pointer (some ⟨xb, 0, none⟩), opV o lv] w fun e w' => e = .returned (.bool (rightM L o)) ∧ Below w.heap.size w w' := by
  have hl0 := hl
  obtain ⟨la, lc, rfl, _, _⟩ := hl0.cells
  unfold rightM
  cases hh : o.has with
  | false => exact rright_has w _ o la _ lc hh
  | true =>
    simp only [Bool.not_true, Bool.false_or]
    by_cases h2 : o.kind = 2
    · rw [if_pos h2]
      exact rright_read B w xb v L h hL o _ hl hh h2
    · rw [if_neg h2]
      by_cases h4 : o.kind = 4
      · rw [if_pos h4]
        exact rright_get B w xb v L h hL o la _ lc hh h4
      · rw [if_neg h4]
        exact rright_none w _ o la _ lc hh h2 h4
end Go.Proofs.YtjeheknhpfkaiaaDoor
