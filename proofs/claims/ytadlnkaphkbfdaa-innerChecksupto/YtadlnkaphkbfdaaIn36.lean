/-
  The document's like of two writes.
-/
import Derived.Test.YtadlnkaphkbfdaaIn14
import Derived.BigQuiet
namespace Go.Proofs.Ytadlnkaphkbfdaa
set_option linter.unusedVariables false
set_option linter.unusedSimpArgs false
open Go.RowKit Go.Lib Go.Sort

set_option maxHeartbeats 2000000 in
set_option maxRecDepth 100000 in
theorem like_1_1_e (sa bs : ByteArray) (ax bx : Int) (aa ba : Option Addr) (am bm ac bc : Nat) (ah an bh bn : Bool) (w : World) (hke : (sa.toList == bs.toList) = true) :
    Calls Try.prog 41 #[.agg #[.int .i64 1, .string sa, .int .i64 ax, .slice aa am ac, .bool ah, .bool an], .agg #[.int .i64 1, .string bs, .int .i64 bx, .slice ba bm bc, .bool bh, .bool bn]] w fun e w' => e = .returned (.bool true) ∧ ∃ q os, w' = grow (w.drewN q) os := by
  have mixed := Try.mixed
  have HWA : Hid (∀ w, Calls Try.prog 42 #[.agg #[.int .i64 1, .string sa, .int .i64 ax, .slice aa am ac, .bool ah, .bool an]] w fun e w' => e = .returned (.bool true) ∧ ∃ q os, w' = grow (w.drewN q) os) := fun w => by
    have h := write_g 1 sa ax (.slice aa am ac) ah an w
    skip
    exact h
  have HWB : Hid (∀ w, Calls Try.prog 42 #[.agg #[.int .i64 1, .string bs, .int .i64 bx, .slice ba bm bc, .bool bh, .bool bn]] w fun e w' => e = .returned (.bool true) ∧ ∃ q os, w' = grow (w.drewN q) os) := fun w => by
    have h := write_g 1 bs bx (.slice ba bm bc) bh bn w
    skip
    exact h
  have HLA : Hid (∀ w, Calls Try.prog 71 #[.agg #[.int .i64 1, .string sa, .int .i64 ax, .slice aa am ac, .bool ah, .bool an]] w fun e w' => e = .returned (.bool true) ∧ ∃ q os, w' = grow (w.drewN q) os) := fun w => by
    have h := isList_g 1 sa ax (.slice aa am ac) ah an w
    skip
    exact h
  have HLB : Hid (∀ w, Calls Try.prog 71 #[.agg #[.int .i64 1, .string bs, .int .i64 bx, .slice ba bm bc, .bool bh, .bool bn]] w fun e w' => e = .returned (.bool true) ∧ ∃ q os, w' = grow (w.drewN q) os) := fun w => by
    have h := isList_g 1 bs bx (.slice ba bm bc) bh bn w
    skip
    exact h
  have TBM := TB.made w (.cells #[.int .i64 1, .string sa, .int .i64 ax, .slice aa am ac, .bool ah, .bool an] 31) (.cells #[.int .i64 1, .string bs, .int .i64 bx, .slice ba bm bc, .bool bh, .bool bn] 31)
  go_enter Try.func41, Try.ntmps41
  go_wp2_with fail
  generalize hW : (w.alloc (.cells #[.int .i64 1, .string sa, .int .i64 ax, .slice aa am ac, .bool ah, .bool an] 31)).alloc (.cells #[.int .i64 1, .string bs, .int .i64 bx, .slice ba bm bc, .bool bh, .bool bn] 31) = W at *
  have HW := hid hW
  clear hW
  have c00 := grow_cell TBM.2.1 0 (.int .i64 1) rfl
  have c01 := grow_cell TBM.2.1 1 (.string sa) rfl
  have c02 := grow_cell TBM.2.1 2 (.int .i64 ax) rfl
  have c03 := grow_cell TBM.2.1 3 (.slice aa am ac) rfl
  have c04 := grow_cell TBM.2.1 4 (.bool ah) rfl
  have c05 := grow_cell TBM.2.1 5 (.bool an) rfl
  have c10 := grow_cell TBM.2.2 0 (.int .i64 1) rfl
  have c11 := grow_cell TBM.2.2 1 (.string bs) rfl
  have c12 := grow_cell TBM.2.2 2 (.int .i64 bx) rfl
  have c13 := grow_cell TBM.2.2 3 (.slice ba bm bc) rfl
  have c14 := grow_cell TBM.2.2 4 (.bool bh) rfl
  have c15 := grow_cell TBM.2.2 5 (.bool bn) rfl
  clear TBM
  refine wp_region_quiet_grown (by assumption) (by kernel_rfl) ?_
  repeat (go_big_quiet_step (first | (go_at_call_of 42 (Value.agg #[.int .i64 1, .string sa, .int .i64 ax, .slice aa am ac, .bool ah, .bool an]); exact Calls.grown_of (HWA.out _)) | (go_at_call_of 42 (Value.agg #[.int .i64 1, .string bs, .int .i64 bx, .slice ba bm bc, .bool bh, .bool bn]); exact Calls.grown_of (HWB.out _)) | (go_at_call_of 71 (Value.agg #[.int .i64 1, .string sa, .int .i64 ax, .slice aa am ac, .bool ah, .bool an]); exact Calls.grown_of (HLA.out _)) | (go_at_call_of 71 (Value.agg #[.int .i64 1, .string bs, .int .i64 bx, .slice ba bm bc, .bool bh, .bool bn]); exact Calls.grown_of (HLB.out _))))
  refine wpQuiet_nil ?_
  intro w9 hw9
  obtain ⟨⟨nq, osq⟩, hw8⟩ := hw9
  subst hw8
  go_wp2_with fail
  go_ret
  exact ⟨rfl, nq, #[.cells #[.int .i64 1, .string sa, .int .i64 ax, .slice aa am ac, .bool ah, .bool an] 31, .cells #[.int .i64 1, .string bs, .int .i64 bx, .slice ba bm bc, .bool bh, .bool bn] 31] ++ osq, two_grow HW.out nq osq⟩
set_option maxHeartbeats 2000000 in
set_option maxRecDepth 100000 in
theorem like_1_1_n (sa bs : ByteArray) (ax bx : Int) (aa ba : Option Addr) (am bm ac bc : Nat) (ah an bh bn : Bool) (w : World) (hke : (sa.toList == bs.toList) = false) :
    Calls Try.prog 41 #[.agg #[.int .i64 1, .string sa, .int .i64 ax, .slice aa am ac, .bool ah, .bool an], .agg #[.int .i64 1, .string bs, .int .i64 bx, .slice ba bm bc, .bool bh, .bool bn]] w fun e w' => e = .returned (.bool false) ∧ ∃ q os, w' = grow (w.drewN q) os := by
  have mixed := Try.mixed
  have HWA : Hid (∀ w, Calls Try.prog 42 #[.agg #[.int .i64 1, .string sa, .int .i64 ax, .slice aa am ac, .bool ah, .bool an]] w fun e w' => e = .returned (.bool true) ∧ ∃ q os, w' = grow (w.drewN q) os) := fun w => by
    have h := write_g 1 sa ax (.slice aa am ac) ah an w
    skip
    exact h
  have HWB : Hid (∀ w, Calls Try.prog 42 #[.agg #[.int .i64 1, .string bs, .int .i64 bx, .slice ba bm bc, .bool bh, .bool bn]] w fun e w' => e = .returned (.bool true) ∧ ∃ q os, w' = grow (w.drewN q) os) := fun w => by
    have h := write_g 1 bs bx (.slice ba bm bc) bh bn w
    skip
    exact h
  have HLA : Hid (∀ w, Calls Try.prog 71 #[.agg #[.int .i64 1, .string sa, .int .i64 ax, .slice aa am ac, .bool ah, .bool an]] w fun e w' => e = .returned (.bool true) ∧ ∃ q os, w' = grow (w.drewN q) os) := fun w => by
    have h := isList_g 1 sa ax (.slice aa am ac) ah an w
    skip
    exact h
  have HLB : Hid (∀ w, Calls Try.prog 71 #[.agg #[.int .i64 1, .string bs, .int .i64 bx, .slice ba bm bc, .bool bh, .bool bn]] w fun e w' => e = .returned (.bool true) ∧ ∃ q os, w' = grow (w.drewN q) os) := fun w => by
    have h := isList_g 1 bs bx (.slice ba bm bc) bh bn w
    skip
    exact h
  have TBM := TB.made w (.cells #[.int .i64 1, .string sa, .int .i64 ax, .slice aa am ac, .bool ah, .bool an] 31) (.cells #[.int .i64 1, .string bs, .int .i64 bx, .slice ba bm bc, .bool bh, .bool bn] 31)
  go_enter Try.func41, Try.ntmps41
  go_wp2_with fail
  generalize hW : (w.alloc (.cells #[.int .i64 1, .string sa, .int .i64 ax, .slice aa am ac, .bool ah, .bool an] 31)).alloc (.cells #[.int .i64 1, .string bs, .int .i64 bx, .slice ba bm bc, .bool bh, .bool bn] 31) = W at *
  have HW := hid hW
  clear hW
  have c00 := grow_cell TBM.2.1 0 (.int .i64 1) rfl
  have c01 := grow_cell TBM.2.1 1 (.string sa) rfl
  have c02 := grow_cell TBM.2.1 2 (.int .i64 ax) rfl
  have c03 := grow_cell TBM.2.1 3 (.slice aa am ac) rfl
  have c04 := grow_cell TBM.2.1 4 (.bool ah) rfl
  have c05 := grow_cell TBM.2.1 5 (.bool an) rfl
  have c10 := grow_cell TBM.2.2 0 (.int .i64 1) rfl
  have c11 := grow_cell TBM.2.2 1 (.string bs) rfl
  have c12 := grow_cell TBM.2.2 2 (.int .i64 bx) rfl
  have c13 := grow_cell TBM.2.2 3 (.slice ba bm bc) rfl
  have c14 := grow_cell TBM.2.2 4 (.bool bh) rfl
  have c15 := grow_cell TBM.2.2 5 (.bool bn) rfl
  clear TBM
  refine wp_region_quiet_grown (by assumption) (by kernel_rfl) ?_
  repeat (go_big_quiet_step (first | (go_at_call_of 42 (Value.agg #[.int .i64 1, .string sa, .int .i64 ax, .slice aa am ac, .bool ah, .bool an]); exact Calls.grown_of (HWA.out _)) | (go_at_call_of 42 (Value.agg #[.int .i64 1, .string bs, .int .i64 bx, .slice ba bm bc, .bool bh, .bool bn]); exact Calls.grown_of (HWB.out _)) | (go_at_call_of 71 (Value.agg #[.int .i64 1, .string sa, .int .i64 ax, .slice aa am ac, .bool ah, .bool an]); exact Calls.grown_of (HLA.out _)) | (go_at_call_of 71 (Value.agg #[.int .i64 1, .string bs, .int .i64 bx, .slice ba bm bc, .bool bh, .bool bn]); exact Calls.grown_of (HLB.out _))))
  refine wpQuiet_nil ?_
  intro w9 hw9
  obtain ⟨⟨nq, osq⟩, hw8⟩ := hw9
  subst hw8
  go_wp2_with fail
  go_ret
  exact ⟨rfl, nq, #[.cells #[.int .i64 1, .string sa, .int .i64 ax, .slice aa am ac, .bool ah, .bool an] 31, .cells #[.int .i64 1, .string bs, .int .i64 bx, .slice ba bm bc, .bool bh, .bool bn] 31] ++ osq, two_grow HW.out nq osq⟩
set_option maxHeartbeats 2000000 in
set_option maxRecDepth 100000 in
theorem like_1_3_e (sa bs : ByteArray) (ax bx : Int) (aa ba : Option Addr) (am bm ac bc : Nat) (ah an bh bn : Bool) (w : World) (hke : (sa.toList == bs.toList) = true) :
    Calls Try.prog 41 #[.agg #[.int .i64 1, .string sa, .int .i64 ax, .slice aa am ac, .bool ah, .bool an], .agg #[.int .i64 3, .string bs, .int .i64 bx, .slice ba bm bc, .bool bh, .bool bn]] w fun e w' => e = .returned (.bool false) ∧ ∃ q os, w' = grow (w.drewN q) os := by
  have mixed := Try.mixed
  have HWA : Hid (∀ w, Calls Try.prog 42 #[.agg #[.int .i64 1, .string sa, .int .i64 ax, .slice aa am ac, .bool ah, .bool an]] w fun e w' => e = .returned (.bool true) ∧ ∃ q os, w' = grow (w.drewN q) os) := fun w => by
    have h := write_g 1 sa ax (.slice aa am ac) ah an w
    skip
    exact h
  have HWB : Hid (∀ w, Calls Try.prog 42 #[.agg #[.int .i64 3, .string bs, .int .i64 bx, .slice ba bm bc, .bool bh, .bool bn]] w fun e w' => e = .returned (.bool true) ∧ ∃ q os, w' = grow (w.drewN q) os) := fun w => by
    have h := write_g 3 bs bx (.slice ba bm bc) bh bn w
    skip
    exact h
  have HLA : Hid (∀ w, Calls Try.prog 71 #[.agg #[.int .i64 1, .string sa, .int .i64 ax, .slice aa am ac, .bool ah, .bool an]] w fun e w' => e = .returned (.bool true) ∧ ∃ q os, w' = grow (w.drewN q) os) := fun w => by
    have h := isList_g 1 sa ax (.slice aa am ac) ah an w
    skip
    exact h
  have HLB : Hid (∀ w, Calls Try.prog 71 #[.agg #[.int .i64 3, .string bs, .int .i64 bx, .slice ba bm bc, .bool bh, .bool bn]] w fun e w' => e = .returned (.bool false) ∧ ∃ q os, w' = grow (w.drewN q) os) := fun w => by
    have h := isList_g 3 bs bx (.slice ba bm bc) bh bn w
    skip
    exact h
  have TBM := TB.made w (.cells #[.int .i64 1, .string sa, .int .i64 ax, .slice aa am ac, .bool ah, .bool an] 31) (.cells #[.int .i64 3, .string bs, .int .i64 bx, .slice ba bm bc, .bool bh, .bool bn] 31)
  go_enter Try.func41, Try.ntmps41
  go_wp2_with fail
  generalize hW : (w.alloc (.cells #[.int .i64 1, .string sa, .int .i64 ax, .slice aa am ac, .bool ah, .bool an] 31)).alloc (.cells #[.int .i64 3, .string bs, .int .i64 bx, .slice ba bm bc, .bool bh, .bool bn] 31) = W at *
  have HW := hid hW
  clear hW
  have c00 := grow_cell TBM.2.1 0 (.int .i64 1) rfl
  have c01 := grow_cell TBM.2.1 1 (.string sa) rfl
  have c02 := grow_cell TBM.2.1 2 (.int .i64 ax) rfl
  have c03 := grow_cell TBM.2.1 3 (.slice aa am ac) rfl
  have c04 := grow_cell TBM.2.1 4 (.bool ah) rfl
  have c05 := grow_cell TBM.2.1 5 (.bool an) rfl
  have c10 := grow_cell TBM.2.2 0 (.int .i64 3) rfl
  have c11 := grow_cell TBM.2.2 1 (.string bs) rfl
  have c12 := grow_cell TBM.2.2 2 (.int .i64 bx) rfl
  have c13 := grow_cell TBM.2.2 3 (.slice ba bm bc) rfl
  have c14 := grow_cell TBM.2.2 4 (.bool bh) rfl
  have c15 := grow_cell TBM.2.2 5 (.bool bn) rfl
  clear TBM
  refine wp_region_quiet_grown (by assumption) (by kernel_rfl) ?_
  repeat (go_big_quiet_step (first | (go_at_call_of 42 (Value.agg #[.int .i64 1, .string sa, .int .i64 ax, .slice aa am ac, .bool ah, .bool an]); exact Calls.grown_of (HWA.out _)) | (go_at_call_of 42 (Value.agg #[.int .i64 3, .string bs, .int .i64 bx, .slice ba bm bc, .bool bh, .bool bn]); exact Calls.grown_of (HWB.out _)) | (go_at_call_of 71 (Value.agg #[.int .i64 1, .string sa, .int .i64 ax, .slice aa am ac, .bool ah, .bool an]); exact Calls.grown_of (HLA.out _)) | (go_at_call_of 71 (Value.agg #[.int .i64 3, .string bs, .int .i64 bx, .slice ba bm bc, .bool bh, .bool bn]); exact Calls.grown_of (HLB.out _))))
  refine wpQuiet_nil ?_
  intro w9 hw9
  obtain ⟨⟨nq, osq⟩, hw8⟩ := hw9
  subst hw8
  go_wp2_with fail
  go_ret
  exact ⟨rfl, nq, #[.cells #[.int .i64 1, .string sa, .int .i64 ax, .slice aa am ac, .bool ah, .bool an] 31, .cells #[.int .i64 3, .string bs, .int .i64 bx, .slice ba bm bc, .bool bh, .bool bn] 31] ++ osq, two_grow HW.out nq osq⟩
set_option maxHeartbeats 2000000 in
set_option maxRecDepth 100000 in
theorem like_1_3_n (sa bs : ByteArray) (ax bx : Int) (aa ba : Option Addr) (am bm ac bc : Nat) (ah an bh bn : Bool) (w : World) (hke : (sa.toList == bs.toList) = false) :
    Calls Try.prog 41 #[.agg #[.int .i64 1, .string sa, .int .i64 ax, .slice aa am ac, .bool ah, .bool an], .agg #[.int .i64 3, .string bs, .int .i64 bx, .slice ba bm bc, .bool bh, .bool bn]] w fun e w' => e = .returned (.bool false) ∧ ∃ q os, w' = grow (w.drewN q) os := by
  have mixed := Try.mixed
  have HWA : Hid (∀ w, Calls Try.prog 42 #[.agg #[.int .i64 1, .string sa, .int .i64 ax, .slice aa am ac, .bool ah, .bool an]] w fun e w' => e = .returned (.bool true) ∧ ∃ q os, w' = grow (w.drewN q) os) := fun w => by
    have h := write_g 1 sa ax (.slice aa am ac) ah an w
    skip
    exact h
  have HWB : Hid (∀ w, Calls Try.prog 42 #[.agg #[.int .i64 3, .string bs, .int .i64 bx, .slice ba bm bc, .bool bh, .bool bn]] w fun e w' => e = .returned (.bool true) ∧ ∃ q os, w' = grow (w.drewN q) os) := fun w => by
    have h := write_g 3 bs bx (.slice ba bm bc) bh bn w
    skip
    exact h
  have HLA : Hid (∀ w, Calls Try.prog 71 #[.agg #[.int .i64 1, .string sa, .int .i64 ax, .slice aa am ac, .bool ah, .bool an]] w fun e w' => e = .returned (.bool true) ∧ ∃ q os, w' = grow (w.drewN q) os) := fun w => by
    have h := isList_g 1 sa ax (.slice aa am ac) ah an w
    skip
    exact h
  have HLB : Hid (∀ w, Calls Try.prog 71 #[.agg #[.int .i64 3, .string bs, .int .i64 bx, .slice ba bm bc, .bool bh, .bool bn]] w fun e w' => e = .returned (.bool false) ∧ ∃ q os, w' = grow (w.drewN q) os) := fun w => by
    have h := isList_g 3 bs bx (.slice ba bm bc) bh bn w
    skip
    exact h
  have TBM := TB.made w (.cells #[.int .i64 1, .string sa, .int .i64 ax, .slice aa am ac, .bool ah, .bool an] 31) (.cells #[.int .i64 3, .string bs, .int .i64 bx, .slice ba bm bc, .bool bh, .bool bn] 31)
  go_enter Try.func41, Try.ntmps41
  go_wp2_with fail
  generalize hW : (w.alloc (.cells #[.int .i64 1, .string sa, .int .i64 ax, .slice aa am ac, .bool ah, .bool an] 31)).alloc (.cells #[.int .i64 3, .string bs, .int .i64 bx, .slice ba bm bc, .bool bh, .bool bn] 31) = W at *
  have HW := hid hW
  clear hW
  have c00 := grow_cell TBM.2.1 0 (.int .i64 1) rfl
  have c01 := grow_cell TBM.2.1 1 (.string sa) rfl
  have c02 := grow_cell TBM.2.1 2 (.int .i64 ax) rfl
  have c03 := grow_cell TBM.2.1 3 (.slice aa am ac) rfl
  have c04 := grow_cell TBM.2.1 4 (.bool ah) rfl
  have c05 := grow_cell TBM.2.1 5 (.bool an) rfl
  have c10 := grow_cell TBM.2.2 0 (.int .i64 3) rfl
  have c11 := grow_cell TBM.2.2 1 (.string bs) rfl
  have c12 := grow_cell TBM.2.2 2 (.int .i64 bx) rfl
  have c13 := grow_cell TBM.2.2 3 (.slice ba bm bc) rfl
  have c14 := grow_cell TBM.2.2 4 (.bool bh) rfl
  have c15 := grow_cell TBM.2.2 5 (.bool bn) rfl
  clear TBM
  refine wp_region_quiet_grown (by assumption) (by kernel_rfl) ?_
  repeat (go_big_quiet_step (first | (go_at_call_of 42 (Value.agg #[.int .i64 1, .string sa, .int .i64 ax, .slice aa am ac, .bool ah, .bool an]); exact Calls.grown_of (HWA.out _)) | (go_at_call_of 42 (Value.agg #[.int .i64 3, .string bs, .int .i64 bx, .slice ba bm bc, .bool bh, .bool bn]); exact Calls.grown_of (HWB.out _)) | (go_at_call_of 71 (Value.agg #[.int .i64 1, .string sa, .int .i64 ax, .slice aa am ac, .bool ah, .bool an]); exact Calls.grown_of (HLA.out _)) | (go_at_call_of 71 (Value.agg #[.int .i64 3, .string bs, .int .i64 bx, .slice ba bm bc, .bool bh, .bool bn]); exact Calls.grown_of (HLB.out _))))
  refine wpQuiet_nil ?_
  intro w9 hw9
  obtain ⟨⟨nq, osq⟩, hw8⟩ := hw9
  subst hw8
  go_wp2_with fail
  go_ret
  exact ⟨rfl, nq, #[.cells #[.int .i64 1, .string sa, .int .i64 ax, .slice aa am ac, .bool ah, .bool an] 31, .cells #[.int .i64 3, .string bs, .int .i64 bx, .slice ba bm bc, .bool bh, .bool bn] 31] ++ osq, two_grow HW.out nq osq⟩
set_option maxHeartbeats 2000000 in
set_option maxRecDepth 100000 in
theorem like_3_1_e (sa bs : ByteArray) (ax bx : Int) (aa ba : Option Addr) (am bm ac bc : Nat) (ah an bh bn : Bool) (w : World) (hke : (sa.toList == bs.toList) = true) :
    Calls Try.prog 41 #[.agg #[.int .i64 3, .string sa, .int .i64 ax, .slice aa am ac, .bool ah, .bool an], .agg #[.int .i64 1, .string bs, .int .i64 bx, .slice ba bm bc, .bool bh, .bool bn]] w fun e w' => e = .returned (.bool false) ∧ ∃ q os, w' = grow (w.drewN q) os := by
  have mixed := Try.mixed
  have HWA : Hid (∀ w, Calls Try.prog 42 #[.agg #[.int .i64 3, .string sa, .int .i64 ax, .slice aa am ac, .bool ah, .bool an]] w fun e w' => e = .returned (.bool true) ∧ ∃ q os, w' = grow (w.drewN q) os) := fun w => by
    have h := write_g 3 sa ax (.slice aa am ac) ah an w
    skip
    exact h
  have HWB : Hid (∀ w, Calls Try.prog 42 #[.agg #[.int .i64 1, .string bs, .int .i64 bx, .slice ba bm bc, .bool bh, .bool bn]] w fun e w' => e = .returned (.bool true) ∧ ∃ q os, w' = grow (w.drewN q) os) := fun w => by
    have h := write_g 1 bs bx (.slice ba bm bc) bh bn w
    skip
    exact h
  have HLA : Hid (∀ w, Calls Try.prog 71 #[.agg #[.int .i64 3, .string sa, .int .i64 ax, .slice aa am ac, .bool ah, .bool an]] w fun e w' => e = .returned (.bool false) ∧ ∃ q os, w' = grow (w.drewN q) os) := fun w => by
    have h := isList_g 3 sa ax (.slice aa am ac) ah an w
    skip
    exact h
  have HLB : Hid (∀ w, Calls Try.prog 71 #[.agg #[.int .i64 1, .string bs, .int .i64 bx, .slice ba bm bc, .bool bh, .bool bn]] w fun e w' => e = .returned (.bool true) ∧ ∃ q os, w' = grow (w.drewN q) os) := fun w => by
    have h := isList_g 1 bs bx (.slice ba bm bc) bh bn w
    skip
    exact h
  have TBM := TB.made w (.cells #[.int .i64 3, .string sa, .int .i64 ax, .slice aa am ac, .bool ah, .bool an] 31) (.cells #[.int .i64 1, .string bs, .int .i64 bx, .slice ba bm bc, .bool bh, .bool bn] 31)
  go_enter Try.func41, Try.ntmps41
  go_wp2_with fail
  generalize hW : (w.alloc (.cells #[.int .i64 3, .string sa, .int .i64 ax, .slice aa am ac, .bool ah, .bool an] 31)).alloc (.cells #[.int .i64 1, .string bs, .int .i64 bx, .slice ba bm bc, .bool bh, .bool bn] 31) = W at *
  have HW := hid hW
  clear hW
  have c00 := grow_cell TBM.2.1 0 (.int .i64 3) rfl
  have c01 := grow_cell TBM.2.1 1 (.string sa) rfl
  have c02 := grow_cell TBM.2.1 2 (.int .i64 ax) rfl
  have c03 := grow_cell TBM.2.1 3 (.slice aa am ac) rfl
  have c04 := grow_cell TBM.2.1 4 (.bool ah) rfl
  have c05 := grow_cell TBM.2.1 5 (.bool an) rfl
  have c10 := grow_cell TBM.2.2 0 (.int .i64 1) rfl
  have c11 := grow_cell TBM.2.2 1 (.string bs) rfl
  have c12 := grow_cell TBM.2.2 2 (.int .i64 bx) rfl
  have c13 := grow_cell TBM.2.2 3 (.slice ba bm bc) rfl
  have c14 := grow_cell TBM.2.2 4 (.bool bh) rfl
  have c15 := grow_cell TBM.2.2 5 (.bool bn) rfl
  clear TBM
  refine wp_region_quiet_grown (by assumption) (by kernel_rfl) ?_
  repeat (go_big_quiet_step (first | (go_at_call_of 42 (Value.agg #[.int .i64 3, .string sa, .int .i64 ax, .slice aa am ac, .bool ah, .bool an]); exact Calls.grown_of (HWA.out _)) | (go_at_call_of 42 (Value.agg #[.int .i64 1, .string bs, .int .i64 bx, .slice ba bm bc, .bool bh, .bool bn]); exact Calls.grown_of (HWB.out _)) | (go_at_call_of 71 (Value.agg #[.int .i64 3, .string sa, .int .i64 ax, .slice aa am ac, .bool ah, .bool an]); exact Calls.grown_of (HLA.out _)) | (go_at_call_of 71 (Value.agg #[.int .i64 1, .string bs, .int .i64 bx, .slice ba bm bc, .bool bh, .bool bn]); exact Calls.grown_of (HLB.out _))))
  refine wpQuiet_nil ?_
  intro w9 hw9
  obtain ⟨⟨nq, osq⟩, hw8⟩ := hw9
  subst hw8
  go_wp2_with fail
  go_ret
  exact ⟨rfl, nq, #[.cells #[.int .i64 3, .string sa, .int .i64 ax, .slice aa am ac, .bool ah, .bool an] 31, .cells #[.int .i64 1, .string bs, .int .i64 bx, .slice ba bm bc, .bool bh, .bool bn] 31] ++ osq, two_grow HW.out nq osq⟩
set_option maxHeartbeats 2000000 in
set_option maxRecDepth 100000 in
theorem like_3_1_n (sa bs : ByteArray) (ax bx : Int) (aa ba : Option Addr) (am bm ac bc : Nat) (ah an bh bn : Bool) (w : World) (hke : (sa.toList == bs.toList) = false) :
    Calls Try.prog 41 #[.agg #[.int .i64 3, .string sa, .int .i64 ax, .slice aa am ac, .bool ah, .bool an], .agg #[.int .i64 1, .string bs, .int .i64 bx, .slice ba bm bc, .bool bh, .bool bn]] w fun e w' => e = .returned (.bool false) ∧ ∃ q os, w' = grow (w.drewN q) os := by
  have mixed := Try.mixed
  have HWA : Hid (∀ w, Calls Try.prog 42 #[.agg #[.int .i64 3, .string sa, .int .i64 ax, .slice aa am ac, .bool ah, .bool an]] w fun e w' => e = .returned (.bool true) ∧ ∃ q os, w' = grow (w.drewN q) os) := fun w => by
    have h := write_g 3 sa ax (.slice aa am ac) ah an w
    skip
    exact h
  have HWB : Hid (∀ w, Calls Try.prog 42 #[.agg #[.int .i64 1, .string bs, .int .i64 bx, .slice ba bm bc, .bool bh, .bool bn]] w fun e w' => e = .returned (.bool true) ∧ ∃ q os, w' = grow (w.drewN q) os) := fun w => by
    have h := write_g 1 bs bx (.slice ba bm bc) bh bn w
    skip
    exact h
  have HLA : Hid (∀ w, Calls Try.prog 71 #[.agg #[.int .i64 3, .string sa, .int .i64 ax, .slice aa am ac, .bool ah, .bool an]] w fun e w' => e = .returned (.bool false) ∧ ∃ q os, w' = grow (w.drewN q) os) := fun w => by
    have h := isList_g 3 sa ax (.slice aa am ac) ah an w
    skip
    exact h
  have HLB : Hid (∀ w, Calls Try.prog 71 #[.agg #[.int .i64 1, .string bs, .int .i64 bx, .slice ba bm bc, .bool bh, .bool bn]] w fun e w' => e = .returned (.bool true) ∧ ∃ q os, w' = grow (w.drewN q) os) := fun w => by
    have h := isList_g 1 bs bx (.slice ba bm bc) bh bn w
    skip
    exact h
  have TBM := TB.made w (.cells #[.int .i64 3, .string sa, .int .i64 ax, .slice aa am ac, .bool ah, .bool an] 31) (.cells #[.int .i64 1, .string bs, .int .i64 bx, .slice ba bm bc, .bool bh, .bool bn] 31)
  go_enter Try.func41, Try.ntmps41
  go_wp2_with fail
  generalize hW : (w.alloc (.cells #[.int .i64 3, .string sa, .int .i64 ax, .slice aa am ac, .bool ah, .bool an] 31)).alloc (.cells #[.int .i64 1, .string bs, .int .i64 bx, .slice ba bm bc, .bool bh, .bool bn] 31) = W at *
  have HW := hid hW
  clear hW
  have c00 := grow_cell TBM.2.1 0 (.int .i64 3) rfl
  have c01 := grow_cell TBM.2.1 1 (.string sa) rfl
  have c02 := grow_cell TBM.2.1 2 (.int .i64 ax) rfl
  have c03 := grow_cell TBM.2.1 3 (.slice aa am ac) rfl
  have c04 := grow_cell TBM.2.1 4 (.bool ah) rfl
  have c05 := grow_cell TBM.2.1 5 (.bool an) rfl
  have c10 := grow_cell TBM.2.2 0 (.int .i64 1) rfl
  have c11 := grow_cell TBM.2.2 1 (.string bs) rfl
  have c12 := grow_cell TBM.2.2 2 (.int .i64 bx) rfl
  have c13 := grow_cell TBM.2.2 3 (.slice ba bm bc) rfl
  have c14 := grow_cell TBM.2.2 4 (.bool bh) rfl
  have c15 := grow_cell TBM.2.2 5 (.bool bn) rfl
  clear TBM
  refine wp_region_quiet_grown (by assumption) (by kernel_rfl) ?_
  repeat (go_big_quiet_step (first | (go_at_call_of 42 (Value.agg #[.int .i64 3, .string sa, .int .i64 ax, .slice aa am ac, .bool ah, .bool an]); exact Calls.grown_of (HWA.out _)) | (go_at_call_of 42 (Value.agg #[.int .i64 1, .string bs, .int .i64 bx, .slice ba bm bc, .bool bh, .bool bn]); exact Calls.grown_of (HWB.out _)) | (go_at_call_of 71 (Value.agg #[.int .i64 3, .string sa, .int .i64 ax, .slice aa am ac, .bool ah, .bool an]); exact Calls.grown_of (HLA.out _)) | (go_at_call_of 71 (Value.agg #[.int .i64 1, .string bs, .int .i64 bx, .slice ba bm bc, .bool bh, .bool bn]); exact Calls.grown_of (HLB.out _))))
  refine wpQuiet_nil ?_
  intro w9 hw9
  obtain ⟨⟨nq, osq⟩, hw8⟩ := hw9
  subst hw8
  go_wp2_with fail
  go_ret
  exact ⟨rfl, nq, #[.cells #[.int .i64 3, .string sa, .int .i64 ax, .slice aa am ac, .bool ah, .bool an] 31, .cells #[.int .i64 1, .string bs, .int .i64 bx, .slice ba bm bc, .bool bh, .bool bn] 31] ++ osq, two_grow HW.out nq osq⟩
set_option maxHeartbeats 2000000 in
set_option maxRecDepth 100000 in
theorem like_3_3_e (sa bs : ByteArray) (ax bx : Int) (aa ba : Option Addr) (am bm ac bc : Nat) (ah an bh bn : Bool) (w : World) (hke : (sa.toList == bs.toList) = true) :
    Calls Try.prog 41 #[.agg #[.int .i64 3, .string sa, .int .i64 ax, .slice aa am ac, .bool ah, .bool an], .agg #[.int .i64 3, .string bs, .int .i64 bx, .slice ba bm bc, .bool bh, .bool bn]] w fun e w' => e = .returned (.bool true) ∧ ∃ q os, w' = grow (w.drewN q) os := by
  have mixed := Try.mixed
  have HWA : Hid (∀ w, Calls Try.prog 42 #[.agg #[.int .i64 3, .string sa, .int .i64 ax, .slice aa am ac, .bool ah, .bool an]] w fun e w' => e = .returned (.bool true) ∧ ∃ q os, w' = grow (w.drewN q) os) := fun w => by
    have h := write_g 3 sa ax (.slice aa am ac) ah an w
    skip
    exact h
  have HWB : Hid (∀ w, Calls Try.prog 42 #[.agg #[.int .i64 3, .string bs, .int .i64 bx, .slice ba bm bc, .bool bh, .bool bn]] w fun e w' => e = .returned (.bool true) ∧ ∃ q os, w' = grow (w.drewN q) os) := fun w => by
    have h := write_g 3 bs bx (.slice ba bm bc) bh bn w
    skip
    exact h
  have HLA : Hid (∀ w, Calls Try.prog 71 #[.agg #[.int .i64 3, .string sa, .int .i64 ax, .slice aa am ac, .bool ah, .bool an]] w fun e w' => e = .returned (.bool false) ∧ ∃ q os, w' = grow (w.drewN q) os) := fun w => by
    have h := isList_g 3 sa ax (.slice aa am ac) ah an w
    skip
    exact h
  have HLB : Hid (∀ w, Calls Try.prog 71 #[.agg #[.int .i64 3, .string bs, .int .i64 bx, .slice ba bm bc, .bool bh, .bool bn]] w fun e w' => e = .returned (.bool false) ∧ ∃ q os, w' = grow (w.drewN q) os) := fun w => by
    have h := isList_g 3 bs bx (.slice ba bm bc) bh bn w
    skip
    exact h
  have TBM := TB.made w (.cells #[.int .i64 3, .string sa, .int .i64 ax, .slice aa am ac, .bool ah, .bool an] 31) (.cells #[.int .i64 3, .string bs, .int .i64 bx, .slice ba bm bc, .bool bh, .bool bn] 31)
  go_enter Try.func41, Try.ntmps41
  go_wp2_with fail
  generalize hW : (w.alloc (.cells #[.int .i64 3, .string sa, .int .i64 ax, .slice aa am ac, .bool ah, .bool an] 31)).alloc (.cells #[.int .i64 3, .string bs, .int .i64 bx, .slice ba bm bc, .bool bh, .bool bn] 31) = W at *
  have HW := hid hW
  clear hW
  have c00 := grow_cell TBM.2.1 0 (.int .i64 3) rfl
  have c01 := grow_cell TBM.2.1 1 (.string sa) rfl
  have c02 := grow_cell TBM.2.1 2 (.int .i64 ax) rfl
  have c03 := grow_cell TBM.2.1 3 (.slice aa am ac) rfl
  have c04 := grow_cell TBM.2.1 4 (.bool ah) rfl
  have c05 := grow_cell TBM.2.1 5 (.bool an) rfl
  have c10 := grow_cell TBM.2.2 0 (.int .i64 3) rfl
  have c11 := grow_cell TBM.2.2 1 (.string bs) rfl
  have c12 := grow_cell TBM.2.2 2 (.int .i64 bx) rfl
  have c13 := grow_cell TBM.2.2 3 (.slice ba bm bc) rfl
  have c14 := grow_cell TBM.2.2 4 (.bool bh) rfl
  have c15 := grow_cell TBM.2.2 5 (.bool bn) rfl
  clear TBM
  refine wp_region_quiet_grown (by assumption) (by kernel_rfl) ?_
  repeat (go_big_quiet_step (first | (go_at_call_of 42 (Value.agg #[.int .i64 3, .string sa, .int .i64 ax, .slice aa am ac, .bool ah, .bool an]); exact Calls.grown_of (HWA.out _)) | (go_at_call_of 42 (Value.agg #[.int .i64 3, .string bs, .int .i64 bx, .slice ba bm bc, .bool bh, .bool bn]); exact Calls.grown_of (HWB.out _)) | (go_at_call_of 71 (Value.agg #[.int .i64 3, .string sa, .int .i64 ax, .slice aa am ac, .bool ah, .bool an]); exact Calls.grown_of (HLA.out _)) | (go_at_call_of 71 (Value.agg #[.int .i64 3, .string bs, .int .i64 bx, .slice ba bm bc, .bool bh, .bool bn]); exact Calls.grown_of (HLB.out _))))
  refine wpQuiet_nil ?_
  intro w9 hw9
  obtain ⟨⟨nq, osq⟩, hw8⟩ := hw9
  subst hw8
  go_wp2_with fail
  go_ret
  exact ⟨rfl, nq, #[.cells #[.int .i64 3, .string sa, .int .i64 ax, .slice aa am ac, .bool ah, .bool an] 31, .cells #[.int .i64 3, .string bs, .int .i64 bx, .slice ba bm bc, .bool bh, .bool bn] 31] ++ osq, two_grow HW.out nq osq⟩
set_option maxHeartbeats 2000000 in
set_option maxRecDepth 100000 in
theorem like_3_3_n (sa bs : ByteArray) (ax bx : Int) (aa ba : Option Addr) (am bm ac bc : Nat) (ah an bh bn : Bool) (w : World) (hke : (sa.toList == bs.toList) = false) :
    Calls Try.prog 41 #[.agg #[.int .i64 3, .string sa, .int .i64 ax, .slice aa am ac, .bool ah, .bool an], .agg #[.int .i64 3, .string bs, .int .i64 bx, .slice ba bm bc, .bool bh, .bool bn]] w fun e w' => e = .returned (.bool false) ∧ ∃ q os, w' = grow (w.drewN q) os := by
  have mixed := Try.mixed
  have HWA : Hid (∀ w, Calls Try.prog 42 #[.agg #[.int .i64 3, .string sa, .int .i64 ax, .slice aa am ac, .bool ah, .bool an]] w fun e w' => e = .returned (.bool true) ∧ ∃ q os, w' = grow (w.drewN q) os) := fun w => by
    have h := write_g 3 sa ax (.slice aa am ac) ah an w
    skip
    exact h
  have HWB : Hid (∀ w, Calls Try.prog 42 #[.agg #[.int .i64 3, .string bs, .int .i64 bx, .slice ba bm bc, .bool bh, .bool bn]] w fun e w' => e = .returned (.bool true) ∧ ∃ q os, w' = grow (w.drewN q) os) := fun w => by
    have h := write_g 3 bs bx (.slice ba bm bc) bh bn w
    skip
    exact h
  have HLA : Hid (∀ w, Calls Try.prog 71 #[.agg #[.int .i64 3, .string sa, .int .i64 ax, .slice aa am ac, .bool ah, .bool an]] w fun e w' => e = .returned (.bool false) ∧ ∃ q os, w' = grow (w.drewN q) os) := fun w => by
    have h := isList_g 3 sa ax (.slice aa am ac) ah an w
    skip
    exact h
  have HLB : Hid (∀ w, Calls Try.prog 71 #[.agg #[.int .i64 3, .string bs, .int .i64 bx, .slice ba bm bc, .bool bh, .bool bn]] w fun e w' => e = .returned (.bool false) ∧ ∃ q os, w' = grow (w.drewN q) os) := fun w => by
    have h := isList_g 3 bs bx (.slice ba bm bc) bh bn w
    skip
    exact h
  have TBM := TB.made w (.cells #[.int .i64 3, .string sa, .int .i64 ax, .slice aa am ac, .bool ah, .bool an] 31) (.cells #[.int .i64 3, .string bs, .int .i64 bx, .slice ba bm bc, .bool bh, .bool bn] 31)
  go_enter Try.func41, Try.ntmps41
  go_wp2_with fail
  generalize hW : (w.alloc (.cells #[.int .i64 3, .string sa, .int .i64 ax, .slice aa am ac, .bool ah, .bool an] 31)).alloc (.cells #[.int .i64 3, .string bs, .int .i64 bx, .slice ba bm bc, .bool bh, .bool bn] 31) = W at *
  have HW := hid hW
  clear hW
  have c00 := grow_cell TBM.2.1 0 (.int .i64 3) rfl
  have c01 := grow_cell TBM.2.1 1 (.string sa) rfl
  have c02 := grow_cell TBM.2.1 2 (.int .i64 ax) rfl
  have c03 := grow_cell TBM.2.1 3 (.slice aa am ac) rfl
  have c04 := grow_cell TBM.2.1 4 (.bool ah) rfl
  have c05 := grow_cell TBM.2.1 5 (.bool an) rfl
  have c10 := grow_cell TBM.2.2 0 (.int .i64 3) rfl
  have c11 := grow_cell TBM.2.2 1 (.string bs) rfl
  have c12 := grow_cell TBM.2.2 2 (.int .i64 bx) rfl
  have c13 := grow_cell TBM.2.2 3 (.slice ba bm bc) rfl
  have c14 := grow_cell TBM.2.2 4 (.bool bh) rfl
  have c15 := grow_cell TBM.2.2 5 (.bool bn) rfl
  clear TBM
  refine wp_region_quiet_grown (by assumption) (by kernel_rfl) ?_
  repeat (go_big_quiet_step (first | (go_at_call_of 42 (Value.agg #[.int .i64 3, .string sa, .int .i64 ax, .slice aa am ac, .bool ah, .bool an]); exact Calls.grown_of (HWA.out _)) | (go_at_call_of 42 (Value.agg #[.int .i64 3, .string bs, .int .i64 bx, .slice ba bm bc, .bool bh, .bool bn]); exact Calls.grown_of (HWB.out _)) | (go_at_call_of 71 (Value.agg #[.int .i64 3, .string sa, .int .i64 ax, .slice aa am ac, .bool ah, .bool an]); exact Calls.grown_of (HLA.out _)) | (go_at_call_of 71 (Value.agg #[.int .i64 3, .string bs, .int .i64 bx, .slice ba bm bc, .bool bh, .bool bn]); exact Calls.grown_of (HLB.out _))))
  refine wpQuiet_nil ?_
  intro w9 hw9
  obtain ⟨⟨nq, osq⟩, hw8⟩ := hw9
  subst hw8
  go_wp2_with fail
  go_ret
  exact ⟨rfl, nq, #[.cells #[.int .i64 3, .string sa, .int .i64 ax, .slice aa am ac, .bool ah, .bool an] 31, .cells #[.int .i64 3, .string bs, .int .i64 bx, .slice ba bm bc, .bool bh, .bool bn] 31] ++ osq, two_grow HW.out nq osq⟩
theorem like_w (a b : MOp) (la lb : Value) (w : World) (hla : ∃ x m c, la = .slice x m c) (hlb : ∃ x m c, lb = .slice x m c) (ha : wrt a = true) (hb : wrt b = true) :
    Calls Try.prog 41 #[opV a la, opV b lb] w fun e w' => e = .returned (.bool (lik a b)) ∧ ∃ q os, w' = grow (w.drewN q) os := by
  obtain ⟨aa, am, ac, rfl⟩ := hla
  obtain ⟨ba, bm, bc, rfl⟩ := hlb
  obtain ⟨ak, sa, ax, al, ah, an⟩ := a
  obtain ⟨bk, bs, bx, bl, bh, bn⟩ := b
  unfold wrt at ha hb
  unfold opV lik wrt isL
  simp only [MOp.kind, MOp.key, MOp.value, MOp.list, MOp.has, MOp.nl, Bool.or_eq_true, beq_iff_eq] at *
  by_cases hk : sa = bs
  · have hke : (sa.toList == bs.toList) = true := by rw [key_beq']; exact decide_eq_true hk
    rw [decide_eq_true hk]
    rcases ha with rfl | rfl <;> rcases hb with rfl | rfl
    · exact like_1_1_e sa bs ax bx aa ba am bm ac bc ah an bh bn w hke
    · exact like_1_3_e sa bs ax bx aa ba am bm ac bc ah an bh bn w hke
    · exact like_3_1_e sa bs ax bx aa ba am bm ac bc ah an bh bn w hke
    · exact like_3_3_e sa bs ax bx aa ba am bm ac bc ah an bh bn w hke
  · have hke : (sa.toList == bs.toList) = false := by rw [key_beq']; exact decide_eq_false hk
    rw [decide_eq_false hk]
    rcases ha with rfl | rfl <;> rcases hb with rfl | rfl
    · exact like_1_1_n sa bs ax bx aa ba am bm ac bc ah an bh bn w hke
    · exact like_1_3_n sa bs ax bx aa ba am bm ac bc ah an bh bn w hke
    · exact like_3_1_n sa bs ax bx aa ba am bm ac bc ah an bh bn w hke
    · exact like_3_3_n sa bs ax bx aa ba am bm ac bc ah an bh bn w hke
end Go.Proofs.Ytadlnkaphkbfdaa
