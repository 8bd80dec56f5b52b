/-
  The law CyclesFind.
-/
import Derived.Test.YtdihbeffomibeaaGreatDoorY22
import Derived.Test.YtdihbeffomibeaaGreatDoorY23
namespace Go.Proofs.YtdihbeffomibeaaGreatDoor
set_option linter.unusedVariables false
set_option linter.unusedSimpArgs false
open Go.RowKit Go.Lib Go.Maps

set_option maxHeartbeats 4000000 in
set_option maxRecDepth 100000 in
/-- slices.Equal of a list and itself. -/
theorem equal_big (a1 a2 : Option Addr) (c1 c2 n : Nat) (f : Nat → MW) (w : World) (h1 : Lw w a1 n f) (h2 : Lw w a2 n f) (hn : n ≤ 1000) :
    Calls Tryz.prog 10 #[.slice a1 n c1, .slice a2 n c2] w fun e w' => e = .returned (.bool true) ∧ ∃ q, w' = w.drewN q := by
  have H1 := hid h1
  have H2 := hid h2
  clear h1 h2
  have hlen : (n : Int) ≤ 1000 := by omega
  have hq : ((n : Int) == (n : Int)) = true := by simp
  go_enter Tryz.func10, Tryz.ntmps10
  go_wp2_with fail
  go_loopg [5, 13] n (fun g _ i wr => ∃ k : Nat, k ≤ n ∧ n - k ≤ g ∧ i = .int .i64 k ∧ Aside (∃ q, wr = w.drewN q))
  case atStart => exact ⟨0, Nat.zero_le _, by omega, rfl, 0, rfl⟩
  case round =>
    obtain ⟨k, hk, hg, rfl, QX⟩ := hrel
    obtain ⟨q, rfl⟩ := QX.out
    by_cases hlt : k < n
    · have hlti : (k : Int) < (n : Int) := by omega
      obtain ⟨b1, o1, rfl, -, d0, d1, d2, d3, d4, d5, d6, d7⟩ := H1.out.eight k hlt
      obtain ⟨b2, o2, rfl, -, e0, e1, e2, e3, e4, e5, e6, e7⟩ := H2.out.eight k hlt
      generalize f k = X at *
      obtain ⟨x0, x1, x2, x3, x4, x5, x6, x7⟩ := X
      simp only [MW.src, MW.dst, MW.lab, MW.key, MW.va, MW.vb, MW.nl, MW.cond] at d0 d1 d2 d3 d4 d5 d6 d7 e0 e1 e2 e3 e4 e5 e6 e7
      go_wp2_with fail
      go_region
      go_wp2_with fail
      go_roundg (n - (k + 1))
      case measure => omega
      case rel => exact ⟨k + 1, by omega, by omega, by go_num, ⟨q + 1, rfl⟩⟩
    · have hlti : ¬ (k : Int) < (n : Int) := by omega
      go_wp2_with fail
      go_ret
      exact ⟨rfl, q, rfl⟩
theorem TellA.short {f : Nat → MW} {m : Nat} {N c : Int} {real : Bool} {k : Nat} {g : Nat → MW} {ok : Bool} (h : TellA f m N c real k g ok) : k ≤ 301 := by
  rcases h with ⟨_, _, rfl⟩ | ⟨_, n, _, hn, ⟨_, F, T, q, _, _, hq, rfl, _⟩ | ⟨_, rfl, _⟩⟩ <;> omega

set_option maxHeartbeats 8000000 in
set_option maxRecDepth 100000 in
theorem cyfind_walk (N : Int) (ao : Option Addr) (cp len : Nat) (f : Nat → MW) (c : Int) (real : Bool) (w : World) (hl : Lw w ao len f) (hlc : len ≤ cp) (hT : Tab w) (hC : Cls w) :
    Calls Tryz.prog 3 #[.int .i64 N, .slice ao len cp, .int .i64 c, .bool real] w fun e w' => e = .returned (.bool true) ∧ Below w.heap.size w w' := by
  obtain ⟨m, hm⟩ : ∃ m, m = min len 60 := ⟨_, rfl⟩
  have hmi : min (len : Int) 60 = (m : Int) := by omega
  have hmc : (m : Int) ≤ (cp : Int) := by omega
  have hm60 : m ≤ 60 := by omega
  have HL := hid (hl.take (show m ≤ len by omega))
  have TB := hid hT
  have CB := hid hC
  clear hl hlc hm hT hC
  go_enter Tryz.func3, Tryz.ntmps3
  go_wp2_with fail
  go_at_call 7
  refine (clone_any ao cp m f w (by omega) HL.out).mono ?_
  rintro e w1 ⟨gao, gc, rfl, hgc, hG, b1⟩
  have B1 := hid b1
  have G1 := hid hG
  have FI := hid (cfind_is N gao gc m f c real w1 hG hm60 (TB.out.later b1) (CB.out.later b1))
  clear b1 hG hmi
  go_wp2_with fail
  go_at_call 8
  refine FI.out.mono ?_
  rintro e w2 ⟨⟨v, k, g, ok, rfl, ht, ho⟩, b2⟩
  have B2 := hid (B1.out.trans (b2.mono B1.out.size))
  have G2 := hid (G1.out.later b2)
  have RF := hid (rcfind_is N ao cp m f c real w2 (HL.out.later B2.out) hm60)
  have H1 := hid ht
  have O2 := hid ho
  clear b2 G1 FI ht ho
  go_wp2_with fail
  go_at_call 9
  refine RF.out.mono ?_
  rintro e w3 ⟨⟨v', k', g', ok', rfl, ht, ho⟩, b3⟩
  obtain ⟨rfl, rfl, hgg⟩ := H1.out.uniq ht
  have hk : k ≤ 301 := ht.short
  have B3 := hid (B2.out.trans (b3.mono B2.out.size))
  have G3 := hid (G2.out.later b3)
  obtain ⟨va, vc, rfl, _, hL1⟩ := owns_lw (m := 0) (own_gro O2.out (Gro.of_below (P := fun _ => False) b3) (fun _ _ h => h))
  obtain ⟨va', vc', rfl, _, hL2⟩ := owns_lw (m := 0) ho
  have E1 := hid (equal_big va va' vc vc' k g w3 hL1 (hL2.congr (fun j hj => hgg j hj)) (by omega))
  clear b3 G2 RF ht ho H1 O2 hgg hL1 hL2
  go_wp2_with fail
  go_at_call 10
  refine E1.out.mono ?_
  rintro e w4 ⟨rfl, q4, rfl⟩
  have E2 := hid (equal_big gao ao gc cp m f (w3.drewN q4) (G3.out.later (below_drewN (Below.refl _ _) q4)) (HL.out.later (below_drewN B3.out q4)) (by omega))
  have B4 := hid (below_drewN B3.out q4)
  clear E1
  generalize w3.drewN q4 = w4 at *
  have hok : (ok == ok) = true := by simp
  have EQ : ∀ W : World, (binOp .eql 4 (.bool ok) (.bool ok)).run Tryz.prog W = .ok (.bool true) W := fun W => by cases ok <;> rfl
  go_wp2_with fail
  go_at_call 10
  refine E2.out.mono ?_
  rintro e w5 ⟨rfl, q5, rfl⟩
  have B5 := hid (below_drewN B4.out q5)
  have AW := hid (awake_is (w4.drewN q5) (TB.out.later B5.out) (CB.out.later B5.out))
  clear E2
  go_wp2_with fail
  go_at_call 11
  refine AW.out.mono ?_
  rintro e w6 ⟨rfl, b6⟩
  have B6 := hid (B5.out.trans (b6.mono B5.out.size))
  clear b6 AW
  go_wp2_with fail
  go_ret
  exact ⟨rfl, B6.out⟩
end Go.Proofs.YtdihbeffomibeaaGreatDoor
