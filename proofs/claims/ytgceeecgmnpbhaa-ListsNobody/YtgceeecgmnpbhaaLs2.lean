/-
  The anomalies of a look at one empty read: none.
-/
import Derived.Test.YtgceeecgmnpbhaaLs1f
namespace Go.Proofs.Ytgceeecgmnpbhaa
set_option linter.unusedVariables false
set_option linter.unusedSimpArgs false
open Go.RowKit Go.Lib Go.Maps

abbrev fnV (f kb : Nat) : Value := .func (.func f) #[.pointer (some ⟨kb, 0, none⟩)] #[]
abbrev fns (kb : Nat) : Array Value := #[fnV 26 kb, fnV 27 kb, fnV 28 kb, fnV 29 kb, fnV 30 kb]
/-- Each of the finds finds nothing in an empty read. -/
theorem find_0 (kb sb : Nat) (s : ByteArray) (rs : Value) (la : Option Addr) (lc : Nat) (w : World) (h : Lk w kb s rs sb) (f : Nat) (hf : f = 26 ∨ f = 27 ∨ f = 28 ∨ f = 29 ∨ f = 30) : Calls Try.prog f #[.pointer (some ⟨kb, 0, none⟩), rd0 la lc] w fun e w' => e = .returned (.tuple #[an0, .bool false]) ∧ Below w.heap.size w w' := by
  rcases hf with rfl | rfl | rfl | rfl | rfl
  · exact twice_0 kb la lc w
  · exact garbage_0 kb la lc w
  · exact aborted_0 kb la lc w
  · exact middle_0 kb la lc w
  · exact fork_0 kb sb s rs la lc w h
set_option maxHeartbeats 4000000 in
set_option maxRecDepth 100000 in
theorem anomalies_0 (kb sb rb ro rc : Nat) (s : ByteArray) (la : Option Addr) (lc : Nat) (w : World) (h : Lk w kb s (.slice (some ⟨rb, ro, none⟩) 1 rc) sb) (r0 : w.cell? ⟨rb, ro, none⟩ = some (.int .i64 0)) (r1 : w.cell? ⟨rb, ro + 1, none⟩ = some (.int .i64 0)) (r2 : w.cell? ⟨rb, ro + 2, none⟩ = some (.slice la 0 lc)) : Calls Try.prog 10 #[.pointer (some ⟨kb, 0, none⟩)] w fun e w' => e = .returned (.slice none 0 0) ∧ Below w.heap.size w w' := by
  have H := hid h
  have hrb : rb < w.heap.size := World.block_lt_of_cell? _ _ r0
  have R0 := hid r0
  have R1 := hid r1
  have R2 := hid r2
  clear h r0 r1 r2
  go_enter Try.func10, Try.ntmps10
  go_wp2_with fail
  have B0 : Hid (Below w.heap.size w (w.alloc (.cells (fns kb) 80))) := below_box w _
  have hs0 : (w.alloc (.cells (fns kb) 80)).heap.size = w.heap.size + 1 := by rw [alloc_size]
  have F0 : Hid (∀ i, (w.alloc (.cells (fns kb) 80)).cell? ⟨w.heap.size, i, none⟩ = (fns kb)[i]?) := fun i => new_cells w _ 80 i
  obtain ⟨W0, hW0⟩ : ∃ W0, w.alloc (.cells (fns kb) 80) = W0 := ⟨_, rfl⟩
  rw [hW0] at B0 hs0 F0
  rw [show w.alloc (.cells #[.func (.func 26) #[.pointer (some ⟨kb, 0, none⟩)] #[], .func (.func 27) #[.pointer (some ⟨kb, 0, none⟩)] #[], .func (.func 28) #[.pointer (some ⟨kb, 0, none⟩)] #[], .func (.func 29) #[.pointer (some ⟨kb, 0, none⟩)] #[], .func (.func 30) #[.pointer (some ⟨kb, 0, none⟩)] #[]] 80) = W0 from hW0]
  clear hW0
  go_loopg [3, 5, 7, 8, 9, 22] 5 (fun g l _ _ _ _ i wr => ∃ k : Nat, k ≤ 5 ∧ 5 - k ≤ g ∧ l = .slice none 0 0 ∧ i = .int .i64 k ∧ Aside (Below W0.heap.size W0 wr))
  case atStart => exact ⟨0, by omega, by omega, rfl, rfl, Below.refl _ _⟩
  case round =>
    obtain ⟨k, hk, hg, rfl, rfl, BW⟩ := hrel
    have BR : Hid (Below w.heap.size w wr) := B0.out.trans (BW.out.mono B0.out.size)
    have LR : Hid (Lk wr kb s (.slice (some ⟨rb, ro, none⟩) 1 rc) sb) := H.out.later BR.out
    by_cases hlt : k < 5
    · have hlti : (k : Int) < 5 := by omega
      obtain ⟨f, HF, cv⟩ : ∃ f, Hid (f = 26 ∨ f = 27 ∨ f = 28 ∨ f = 29 ∨ f = 30) ∧ wr.cell? ⟨w.heap.size, k, none⟩ = some (fnV f kb) := by
        have hc := (BW.out.cell (p := ⟨w.heap.size, k, none⟩) (by show w.heap.size < W0.heap.size; omega)).trans (F0.out k)
        have hk5 : k = 0 ∨ k = 1 ∨ k = 2 ∨ k = 3 ∨ k = 4 := by omega
        rcases hk5 with rfl | rfl | rfl | rfl | rfl
        · exact ⟨26, .inl rfl, hc⟩
        · exact ⟨27, .inr (.inl rfl), hc⟩
        · exact ⟨28, .inr (.inr (.inl rfl)), hc⟩
        · exact ⟨29, .inr (.inr (.inr (.inl rfl))), hc⟩
        · exact ⟨30, .inr (.inr (.inr (.inr rfl))), hc⟩
      have c1 := LR.out.c1
      go_wp2_with fail
      clear cv c1
      go_loopg [3, 7, 8, 9, 31] 1 (fun g l _ _ _ i wi => ∃ q : Nat, q ≤ 1 ∧ 1 - q ≤ g ∧ l = .slice none 0 0 ∧ i = .int .i64 q ∧ Aside (Below w.heap.size w wi) ∧ Aside (Below W0.heap.size W0 wi))
      case atStart => exact ⟨0, by omega, by omega, rfl, rfl, BR.out, BW.out⟩
      case round =>
        obtain ⟨q, hq, hgq, rfl, rfl, BI, BJ⟩ := hrel
        by_cases hq1 : q < 1
        · have hq0 : q = 0 := by omega
          subst hq0
          have y0 := (BI.out.cell (p := ⟨rb, ro, none⟩) hrb).trans R0.out
          have y1 := (BI.out.cell (p := ⟨rb, ro + 1, none⟩) hrb).trans R1.out
          have y2 := (BI.out.cell (p := ⟨rb, ro + 2, none⟩) hrb).trans R2.out
          have LI : ∀ o, Hid (Lk (wr.alloc o) kb s (.slice (some ⟨rb, ro, none⟩) 1 rc) sb) := fun o => (H.out.later BI.out).later (below_box wr o)
          have hf := HF.out
          clear HF
          have FI : Hid (∀ f W, (f = 26 ∨ f = 27 ∨ f = 28 ∨ f = 29 ∨ f = 30) → Lk W kb s (.slice (some ⟨rb, ro, none⟩) 1 rc) sb → Calls Try.prog f #[.pointer (some ⟨kb, 0, none⟩), rd0 la lc] W fun e w' => e = .returned (.tuple #[an0, .bool false]) ∧ Below W.heap.size W w') := fun f W hf h => find_0 kb sb s _ la lc W h f hf
          rcases hf with rfl | rfl | rfl | rfl | rfl
          all_goals
            go_wp2_with (refine (FI.out _ _ (by decide) (LI _).out).mono ?_; rintro e w1 ⟨rfl, b1⟩; have N1 : Hid (Below wr.heap.size wr w1) := (box_later b1).2.2.2; clear b1)
            go_roundg 0
            case measure => omega
            case rel => exact ⟨1, by omega, by omega, rfl, by go_num, (BI.out.trans (N1.out.mono BI.out.size)).trans ((below_box w1 _).mono (Nat.le_trans BI.out.size N1.out.size)), (BJ.out.trans (N1.out.mono BJ.out.size)).trans ((below_box w1 _).mono (Nat.le_trans BJ.out.size N1.out.size))⟩
        · have hqe : q = 1 := by omega
          subst hqe
          go_wp2_with fail
          go_roundg (5 - (k + 1))
          case measure => omega
          case rel => exact ⟨k + 1, by omega, by omega, rfl, by go_num, BJ.out⟩
    · have hlti : ¬ (k : Int) < 5 := by omega
      go_wp2_with (first | (go_at_call 18; refine (harmless_0 _).mono ?_; rintro e w1 ⟨rfl, rfl⟩) | (go_at_call 31; refine (disorder_0 kb sb s _ _ LR.out).mono ?_; rintro e w1 ⟨rfl, b1⟩; have B1 : Hid (Below w.heap.size w w1) := BR.out.trans (b1.mono BR.out.size); clear b1))
      go_ret
      exact ⟨rfl, B1.out⟩
end Go.Proofs.Ytgceeecgmnpbhaa
