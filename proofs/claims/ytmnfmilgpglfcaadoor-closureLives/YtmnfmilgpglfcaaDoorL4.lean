/-
  The laws ClosureLives, whole, and ClosureNobody.
-/
import Derived.Test.YtmnfmilgpglfcaaDoorL3
namespace Go.Proofs.YtmnfmilgpglfcaaDoor
set_option linter.unusedVariables false
set_option linter.unusedSimpArgs false
open Go.RowKit

theorem lives_walk (n x y : Int) (ao : Option Addr) (cp : Nat) (zs : List (Int × Int × Bool)) (w : World) (hz : ArgP w ao zs) (hl : zs.length ≤ maxLen) (hcap : zs.length ≤ cp) (hcm : cp ≤ maxLen) (hnil : ao = none → cp = 0) (hT : Tab w) :
    Calls Tryd.prog 3 #[.int .i64 n, .slice ao zs.length cp, .int .i64 x, .int .i64 y] w fun e w' => e = .returned (.bool true) ∧ Below w.heap.size w w' := by
  by_cases hn : n < 0 ∨ 300 < n
  · exact lives_off n x y ao cp zs w hz hl hn
  · obtain ⟨N, rfl⟩ : ∃ N : Nat, n = N := ⟨n.toNat, by omega⟩
    exact lives_on N x y ao cp zs w hz hl hcap hcm hnil (by omega) hT

/-- nil, or an Order that no call made. -/
def NoOrd (w : World) (v : Value) : Prop := v = .pointer none ∨ ∃ b, v = .pointer (some ⟨b, 0, none⟩) ∧ w.cell? ⟨b, 2, none⟩ = some (.bool false)
theorem NoOrd.ptr {w : World} {v : Value} (h : NoOrd w v) : ∃ p, v = .pointer p := by
  rcases h with h | ⟨b, h, c0⟩
  · exact ⟨_, h⟩
  · exact ⟨_, h⟩
theorem omade_no (v : Value) (w : World) (h : NoOrd w v) : Calls Tryd.prog 23 #[v] w fun e w' => e = .returned (.bool false) ∧ w = w' := by
  rcases h with rfl | ⟨b, rfl, c0⟩
  · exact omade_nil w
  · exact omade_at b false w c0
theorem cadd_no (v : Value) (x y : Int) (t : Bool) (w : World) (h : NoOrd w v) : Calls Tryd.prog 19 #[v, .int .i64 x, .int .i64 y, .bool t] w fun e w' => e = .returned (.int .i64 2) ∧ w = w' := by
  obtain ⟨p, rfl⟩ := h.ptr
  have H := hid h
  clear h
  go_enter Tryd.func19, Tryd.ntmps19
  go_wp2_with (go_at_call 23; refine (omade_no _ _ H.out).mono ?_; rintro e w' ⟨rfl, rfl⟩)
  go_ret
  exact ⟨rfl, rfl⟩
theorem less_no (v : Value) (x y : Int) (w : World) (h : NoOrd w v) : Calls Tryd.prog 8 #[v, .int .i64 x, .int .i64 y] w fun e w' => e = .returned (.bool false) ∧ w = w' := by
  obtain ⟨p, rfl⟩ := h.ptr
  have H := hid h
  clear h
  go_enter Tryd.func8, Tryd.ntmps8
  go_wp2_with (go_at_call 23; refine (omade_no _ _ H.out).mono ?_; rintro e w' ⟨rfl, rfl⟩)
  go_ret
  exact ⟨rfl, rfl⟩
theorem sure_no (v : Value) (x y : Int) (w : World) (h : NoOrd w v) : Calls Tryd.prog 10 #[v, .int .i64 x, .int .i64 y] w fun e w' => e = .returned (.bool false) ∧ w = w' := by
  obtain ⟨p, rfl⟩ := h.ptr
  have H := hid h
  clear h
  go_enter Tryd.func10, Tryd.ntmps10
  go_wp2_with (go_at_call 23; refine (omade_no _ _ H.out).mono ?_; rintro e w' ⟨rfl, rfl⟩)
  go_ret
  exact ⟨rfl, rfl⟩
theorem cyclic_no (v : Value) (w : World) (h : NoOrd w v) : Calls Tryd.prog 15 #[v] w fun e w' => e = .returned (.bool false) ∧ w = w' := by
  obtain ⟨p, rfl⟩ := h.ptr
  have H := hid h
  clear h
  go_enter Tryd.func15, Tryd.ntmps15
  go_wp2_with (go_at_call 23; refine (omade_no _ _ H.out).mono ?_; rintro e w' ⟨rfl, rfl⟩)
  go_ret
  exact ⟨rfl, rfl⟩
theorem pairs_no (v : Value) (w : World) (h : NoOrd w v) : Calls Tryd.prog 13 #[v] w fun e w' => e = .returned (.slice none 0 0) ∧ w = w' := by
  obtain ⟨p, rfl⟩ := h.ptr
  have H := hid h
  clear h
  go_enter Tryd.func13, Tryd.ntmps13
  go_wp2_with (go_at_call 23; refine (omade_no _ _ H.out).mono ?_; rintro e w' ⟨rfl, rfl⟩)
  go_ret
  exact ⟨rfl, rfl⟩

set_option maxHeartbeats 4000000 in
set_option maxRecDepth 100000 in
theorem cnobody_walk (x y : Int) (w : World) (hT : Tab w) :
    Calls Tryd.prog 6 #[.int .i64 x, .int .i64 y] w fun e w' => e = .returned (.bool true) ∧ Below w.heap.size w w' := by
  have TB := hid hT
  clear hT
  go_enter Tryd.func6, Tryd.ntmps6
  go_wp2_with fail
  have B0 : Hid (Below w.heap.size w ((w.alloc (.cells #[.slice none 0 0, .slice none 0 0, .bool false] 43)).alloc (.cells #[.pointer none, .pointer (some ⟨w.heap.size, 0, none⟩)] 23))) := (below_box _ _).alloc (by simp) _
  have BB : Hid (((w.alloc (.cells #[.slice none 0 0, .slice none 0 0, .bool false] 43)).alloc (.cells #[.pointer none, .pointer (some ⟨w.heap.size, 0, none⟩)] 23)).heap[w.heap.size]? = some (.cells #[.slice none 0 0, .slice none 0 0, .bool false] 43)) := (Lib.alloc_old _ _ w.heap.size (by simp)).trans (heap_alloc_new w _)
  have BR : Hid (((w.alloc (.cells #[.slice none 0 0, .slice none 0 0, .bool false] 43)).alloc (.cells #[.pointer none, .pointer (some ⟨w.heap.size, 0, none⟩)] 23)).heap[w.heap.size + 1]? = some (.cells #[.pointer none, .pointer (some ⟨w.heap.size, 0, none⟩)] 23)) := by
    have := heap_alloc_new (w.alloc (.cells #[.slice none 0 0, .slice none 0 0, .bool false] 43)) (.cells #[.pointer none, .pointer (some ⟨w.heap.size, 0, none⟩)] 23)
    show _ = _
    simpa using this
  generalize (w.alloc (.cells #[.slice none 0 0, .slice none 0 0, .bool false] 43)).alloc (.cells #[.pointer none, .pointer (some ⟨w.heap.size, 0, none⟩)] 23) = W at *
  go_loopg [6, 11] 2 (fun g _ i wr => ∃ k : Nat, k ≤ 2 ∧ 2 - k ≤ g ∧ i = .int .i64 k ∧ W = wr)
  case atStart => exact ⟨0, by omega, by omega, rfl, rfl⟩
  case round =>
    obtain ⟨k, hk, hg, rfl, rfl⟩ := hrel
    by_cases hlt : k < 2
    · have hlti : (k : Int) < 2 := by omega
      obtain ⟨v, hv, hc⟩ : ∃ v, NoOrd W v ∧ W.cell? ⟨w.heap.size + 1, k, none⟩ = some v := by
        have hk2 : k = 0 ∨ k = 1 := by omega
        rcases hk2 with rfl | rfl
        · exact ⟨_, .inl rfl, Lib.cell_of_heap BR.out 0⟩
        · exact ⟨_, .inr ⟨w.heap.size, rfl, Lib.cell_of_heap BB.out 2⟩, Lib.cell_of_heap BR.out 1⟩
      obtain ⟨p, rfl⟩ := hv.ptr
      have V := hid hv
      clear hv
      go_wp2_with (first | (go_at_call 19; refine (cadd_no _ _ _ _ _ V.out).mono ?_; rintro e w' ⟨rfl, rfl⟩) | (go_at_call 8; refine (less_no _ _ _ _ V.out).mono ?_; rintro e w' ⟨rfl, rfl⟩) | (go_at_call 10; refine (sure_no _ _ _ _ V.out).mono ?_; rintro e w' ⟨rfl, rfl⟩) | (go_at_call 15; refine (cyclic_no _ _ V.out).mono ?_; rintro e w' ⟨rfl, rfl⟩) | (go_at_call 13; refine (pairs_no _ _ V.out).mono ?_; rintro e w' ⟨rfl, rfl⟩))
      go_roundg (2 - (k + 1))
      · exact ⟨k + 1, by omega, by omega, by go_num, rfl⟩
      · omega
    · have hlti : ¬ (k : Int) < 2 := by omega
      have BL : Hid (Below w.heap.size w (W.alloc (.cells #[.int .i64 0, .int .i64 1, .bool true] 28))) := B0.out.trans ((below_box W _).mono B0.out.size)
      have AR : Hid (ArgP (W.alloc (.cells #[.int .i64 0, .int .i64 1, .bool true] 28)) (some ⟨W.heap.size, 0, none⟩) [(0, 1, true)]) := fun j hj => by
        obtain rfl : j = 0 := by simpa using hj
        exact ⟨W.heap.size, 0, rfl, Lib.cell_of_heap (heap_alloc_new W _) 0, Lib.cell_of_heap (heap_alloc_new W _) 1, Lib.cell_of_heap (heap_alloc_new W _) 2⟩
      have LW := hid (lives_walk 2 0 1 (some ⟨W.heap.size, 0, none⟩) 1 [(0, 1, true)] _ AR.out (by simp [maxLen]) (by simp) (by simp [maxLen]) (fun h => by cases h) (TB.out.later BL.out))
      go_wp2_with fail
      go_at_call 3
      refine LW.out.mono ?_
      rintro e w' ⟨rfl, bl⟩
      have B9 := hid (BL.out.trans (bl.mono BL.out.size))
      clear bl
      go_wp2_with fail
      go_ret
      exact ⟨rfl, B9.out⟩
end Go.Proofs.YtmnfmilgpglfcaaDoor
