/-
  The law CyclesFind.
  Index and Contains of a dependency.
  The document's Is: it is true of a cycle of the class.
  The law CyclesSimple.
  The law CyclesSimple: its walk.
  Plain: more labels, more cycles; a cycle with one rw is one with some, and none of all ww.
-/
import Derived.Test.YtdihbeffomibeaaGreatDoorY22
import Derived.Test.YtdihbeffomibeaaGreatDoorY23
namespace Go.Proofs.YtdihbeffomibeaaGreatDoor
set_option linter.unusedVariables false
set_option linter.unusedSimpArgs false
open Go.RowKit Go.Lib Go.Maps

set_option maxHeartbeats 4000000 in
set_option maxRecDepth 100000 in
/-- slices.Equal of a list and itself. -/
theorem equal_big (a1 a2 : Option Addr) (c1 c2 n : Nat) (f : Nat → MW) (w : World) (h1 : Lw w a1 n f) (h2 : Lw w a2 n f) (hn : n ≤ 1000) :
    Calls Tryz.prog 10 #[.slice a1 n c1, .slice a2 n c2] w fun e w' => e = .returned (.bool true) ∧ ∃ q, w' = w.drewN q := by
  have H1 := hid h1
  have H2 := hid h2
  clear h1 h2
  have hlen : (n : Int) ≤ 1000 := by omega
  have hq : ((n : Int) == (n : Int)) = true := by simp
  go_enter Tryz.func10, Tryz.ntmps10
  go_wp2_with fail
  go_loopg [5, 13] n (fun g _ i wr => ∃ k : Nat, k ≤ n ∧ n - k ≤ g ∧ i = .int .i64 k ∧ Aside (∃ q, wr = w.drewN q))
  case atStart => exact ⟨0, Nat.zero_le _, by omega, rfl, 0, rfl⟩
  case round =>
    obtain ⟨k, hk, hg, rfl, QX⟩ := hrel
    obtain ⟨q, rfl⟩ := QX.out
    by_cases hlt : k < n
    · have hlti : (k : Int) < (n : Int) := by omega
      obtain ⟨b1, o1, rfl, -, d0, d1, d2, d3, d4, d5, d6, d7⟩ := H1.out.eight k hlt
      obtain ⟨b2, o2, rfl, -, e0, e1, e2, e3, e4, e5, e6, e7⟩ := H2.out.eight k hlt
      generalize f k = X at *
      obtain ⟨x0, x1, x2, x3, x4, x5, x6, x7⟩ := X
      simp only [MW.src, MW.dst, MW.lab, MW.key, MW.va, MW.vb, MW.nl, MW.cond] at d0 d1 d2 d3 d4 d5 d6 d7 e0 e1 e2 e3 e4 e5 e6 e7
      go_wp2_with fail
      go_region
      go_wp2_with fail
      go_roundg (n - (k + 1))
      case measure => omega
      case rel => exact ⟨k + 1, by omega, by omega, by go_num, ⟨q + 1, rfl⟩⟩
    · have hlti : ¬ (k : Int) < (n : Int) := by omega
      go_wp2_with fail
      go_ret
      exact ⟨rfl, q, rfl⟩
theorem TellA.short {f : Nat → MW} {m : Nat} {N c : Int} {real : Bool} {k : Nat} {g : Nat → MW} {ok : Bool} (h : TellA f m N c real k g ok) : k ≤ 301 := by
  rcases h with ⟨_, _, rfl⟩ | ⟨_, n, _, hn, ⟨_, F, T, q, _, _, hq, rfl, _⟩ | ⟨_, rfl, _⟩⟩ <;> omega

set_option maxHeartbeats 8000000 in
set_option maxRecDepth 100000 in
theorem cyfind_walk (N : Int) (ao : Option Addr) (cp len : Nat) (f : Nat → MW) (c : Int) (real : Bool) (w : World) (hl : Lw w ao len f) (hlc : len ≤ cp) (hT : Tab w) (hC : Cls w) :
    Calls Tryz.prog 3 #[.int .i64 N, .slice ao len cp, .int .i64 c, .bool real] w fun e w' => e = .returned (.bool true) ∧ Below w.heap.size w w' := by
  obtain ⟨m, hm⟩ : ∃ m, m = min len 60 := ⟨_, rfl⟩
  have hmi : min (len : Int) 60 = (m : Int) := by omega
  have hmc : (m : Int) ≤ (cp : Int) := by omega
  have hm60 : m ≤ 60 := by omega
  have HL := hid (hl.take (show m ≤ len by omega))
  have TB := hid hT
  have CB := hid hC
  clear hl hlc hm hT hC
  go_enter Tryz.func3, Tryz.ntmps3
  go_wp2_with fail
  go_at_call 7
  refine (clone_any ao cp m f w (by omega) HL.out).mono ?_
  rintro e w1 ⟨gao, gc, rfl, hgc, hG, b1⟩
  have B1 := hid b1
  have G1 := hid hG
  have FI := hid (cfind_is N gao gc m f c real w1 hG hm60 (TB.out.later b1) (CB.out.later b1))
  clear b1 hG hmi
  go_wp2_with fail
  go_at_call 8
  refine FI.out.mono ?_
  rintro e w2 ⟨⟨v, k, g, ok, rfl, ht, ho⟩, b2⟩
  have B2 := hid (B1.out.trans (b2.mono B1.out.size))
  have G2 := hid (G1.out.later b2)
  have RF := hid (rcfind_is N ao cp m f c real w2 (HL.out.later B2.out) hm60)
  have H1 := hid ht
  have O2 := hid ho
  clear b2 G1 FI ht ho
  go_wp2_with fail
  go_at_call 9
  refine RF.out.mono ?_
  rintro e w3 ⟨⟨v', k', g', ok', rfl, ht, ho⟩, b3⟩
  obtain ⟨rfl, rfl, hgg⟩ := H1.out.uniq ht
  have hk : k ≤ 301 := ht.short
  have B3 := hid (B2.out.trans (b3.mono B2.out.size))
  have G3 := hid (G2.out.later b3)
  obtain ⟨va, vc, rfl, _, hL1⟩ := owns_lw (m := 0) (own_gro O2.out (Gro.of_below (P := fun _ => False) b3) (fun _ _ h => h))
  obtain ⟨va', vc', rfl, _, hL2⟩ := owns_lw (m := 0) ho
  have E1 := hid (equal_big va va' vc vc' k g w3 hL1 (hL2.congr (fun j hj => hgg j hj)) (by omega))
  clear b3 G2 RF ht ho H1 O2 hgg hL1 hL2
  go_wp2_with fail
  go_at_call 10
  refine E1.out.mono ?_
  rintro e w4 ⟨rfl, q4, rfl⟩
  have E2 := hid (equal_big gao ao gc cp m f (w3.drewN q4) (G3.out.later (below_drewN (Below.refl _ _) q4)) (HL.out.later (below_drewN B3.out q4)) (by omega))
  have B4 := hid (below_drewN B3.out q4)
  clear E1
  generalize w3.drewN q4 = w4 at *
  have hok : (ok == ok) = true := by simp
  have EQ : ∀ W : World, (binOp .eql 4 (.bool ok) (.bool ok)).run Tryz.prog W = .ok (.bool true) W := fun W => by cases ok <;> rfl
  go_wp2_with fail
  go_at_call 10
  refine E2.out.mono ?_
  rintro e w5 ⟨rfl, q5, rfl⟩
  have B5 := hid (below_drewN B4.out q5)
  have AW := hid (awake_is (w4.drewN q5) (TB.out.later B5.out) (CB.out.later B5.out))
  clear E2
  go_wp2_with fail
  go_at_call 11
  refine AW.out.mono ?_
  rintro e w6 ⟨rfl, b6⟩
  have B6 := hid (B5.out.trans (b6.mono B5.out.size))
  clear b6 AW
  go_wp2_with fail
  go_ret
  exact ⟨rfl, B6.out⟩
end Go.Proofs.YtdihbeffomibeaaGreatDoor
namespace Go.Proofs.YtdihbeffomibeaaGreatDoor
set_option linter.unusedVariables false
set_option linter.unusedSimpArgs false
open Go.RowKit Go.Lib Go.Maps

set_option maxHeartbeats 1000000 in
set_option maxRecDepth 100000 in
/-- Two dependencies compare; the same ones are alike. -/
theorem eql_why (x0 x1 x2 : Int) (x3 : ByteArray) (x4 x5 : Int) (x6 x7 : Bool) (y : MW) : ∃ b : Bool, (∀ W : World, (binOp .eql 25 (.agg #[.int .i64 x0, .int .i64 x1, .int .i64 x2, .string x3, .int .i64 x4, .int .i64 x5, .bool x6, .bool x7]) (.agg #[.int .i64 y.src, .int .i64 y.dst, .int .i64 y.lab, .string y.key, .int .i64 y.va, .int .i64 y.vb, .bool y.nl, .bool y.cond])).run Tryz.prog W = .ok (.bool b) W) ∧ (y = (x0, x1, x2, x3, x4, x5, x6, x7) → b = true) := by
  obtain ⟨y0, y1, y2, y3, y4, y5, y6, y7⟩ := y
  simp only [MW.src, MW.dst, MW.lab, MW.key, MW.va, MW.vb, MW.nl, MW.cond]
  refine ⟨decide (x0 = y0 ∧ x1 = y1 ∧ x2 = y2 ∧ x3.toList = y3.toList ∧ x4 = y4 ∧ x5 = y5 ∧ x6 = y6 ∧ x7 = y7), fun W => ?_, ?_⟩
  · simp [go_sem]
    by_cases h0 : x0 = y0 <;> by_cases h1 : x1 = y1 <;> by_cases h2 : x2 = y2 <;> by_cases h3 : x3.toList = y3.toList <;> by_cases h4 : x4 = y4 <;> by_cases h5 : x5 = y5 <;> simp [h0, h1, h2, h3, h4, h5] <;> by_cases h6 : x6 = y6 <;> by_cases h7 : x7 = y7 <;> simp [h6, h7]
  · intro e
    simp only [Prod.mk.injEq] at e
    obtain ⟨rfl, rfl, rfl, rfl, rfl, rfl, rfl, rfl⟩ := e
    simp

set_option maxHeartbeats 4000000 in
set_option maxRecDepth 100000 in
/-- slices.Index of a dependency that is there. -/
theorem indexW_is (ao : Option Addr) (cp m : Nat) (f : Nat → MW) (x0 x1 x2 : Int) (x3 : ByteArray) (x4 x5 : Int) (x6 x7 : Bool) (j : Nat) (hj : j < m) (hx : f j = (x0, x1, x2, x3, x4, x5, x6, x7)) (w : World) (hl : Lw w ao m f) (hm : m ≤ 60) :
    Calls Tryz.prog 30 #[.slice ao m cp, .agg #[.int .i64 x0, .int .i64 x1, .int .i64 x2, .string x3, .int .i64 x4, .int .i64 x5, .bool x6, .bool x7]] w fun e w' => (∃ k : Nat, e = .returned (.int .i64 k)) ∧ Below w.heap.size w w' := by
  have HL := hid hl
  have HX := hid hx
  clear hl hx
  have hmi : (m : Int) ≤ 60 := by omega
  obtain ⟨W1, hW1⟩ : ∃ W1, w.alloc (.cells #[.int .i64 x0, .int .i64 x1, .int .i64 x2, .string x3, .int .i64 x4, .int .i64 x5, .bool x6, .bool x7] 25) = W1 := ⟨_, rfl⟩
  obtain ⟨K, hK⟩ : ∃ K, w.heap.size = K := ⟨_, rfl⟩
  have nn : ∀ j, W1.cell? ⟨K, j, none⟩ = (#[.int .i64 x0, .int .i64 x1, .int .i64 x2, .string x3, .int .i64 x4, .int .i64 x5, .bool x6, .bool x7] : Array Value)[j]? := fun j => by rw [← hW1, ← hK]; exact new_cells w _ _ j
  have n0 : W1.cell? ⟨K, 0, none⟩ = some (.int .i64 x0) := nn 0
  have n1 : W1.cell? ⟨K, 1, none⟩ = some (.int .i64 x1) := nn 1
  have n2 : W1.cell? ⟨K, 2, none⟩ = some (.int .i64 x2) := nn 2
  have n3 : W1.cell? ⟨K, 3, none⟩ = some (.string x3) := nn 3
  have n4 : W1.cell? ⟨K, 4, none⟩ = some (.int .i64 x4) := nn 4
  have n5 : W1.cell? ⟨K, 5, none⟩ = some (.int .i64 x5) := nn 5
  have n6 : W1.cell? ⟨K, 6, none⟩ = some (.bool x6) := nn 6
  have n7 : W1.cell? ⟨K, 7, none⟩ = some (.bool x7) := nn 7
  have nz : K < W1.heap.size := by rw [← hW1, ← hK]; simp
  have BA : Hid (Below w.heap.size w W1) := by rw [← hW1]; exact below_box w _
  have L1 : Hid (Lw W1 ao m f) := HL.out.later BA.out
  clear nn HL
  go_enter Tryz.func30, Tryz.ntmps30
  go_wp2_with fail
  clear hW1 hK
  go_loopg [5, 8] m (fun g _ i wr => ∃ k : Nat, k ≤ j ∧ m - k ≤ g ∧ i = .int .i64 k ∧ Aside (∃ q, wr = W1.drewN q))
  case atStart => exact ⟨0, Nat.zero_le _, by omega, rfl, 0, rfl⟩
  case round =>
    obtain ⟨k, hk, hg, rfl, QX⟩ := hrel
    obtain ⟨q, rfl⟩ := QX.out
    have hlt : k < m := by omega
    have hlti : (k : Int) < (m : Int) := by omega
    obtain ⟨b1, o1, rfl, -, d0, d1, d2, d3, d4, d5, d6, d7⟩ := L1.out.eight k hlt
    obtain ⟨b, EQ, hb⟩ := eql_why x0 x1 x2 x3 x4 x5 x6 x7 (f k)
    have HB : Hid (k = j → b = true) := fun e => hb (by rw [e]; exact HX.out)
    clear hb
    have BQ : Hid (Below w.heap.size w ((W1.drewN q).drew)) := below_drewN BA.out (q + 1)
    generalize f k = X at d0 d1 d2 d3 d4 d5 d6 d7 EQ
    obtain ⟨y0, y1, y2, y3, y4, y5, y6, y7⟩ := X
    simp only [MW.src, MW.dst, MW.lab, MW.key, MW.va, MW.vb, MW.nl, MW.cond] at d0 d1 d2 d3 d4 d5 d6 d7 EQ
    cases b with
    | true =>
      go_wp2_with fail
      go_region
      go_wp2_with fail
      go_ret
      exact ⟨⟨k, rfl⟩, BQ.out⟩
    | false =>
      have hkj : k ≠ j := fun e => by cases HB.out e
      go_wp2_with fail
      go_region
      go_wp2_with fail
      go_roundg (m - (k + 1))
      case measure => omega
      case rel => exact ⟨k + 1, by omega, by omega, by go_num, ⟨q + 1, rfl⟩⟩

set_option maxHeartbeats 4000000 in
set_option maxRecDepth 100000 in
/-- slices.Contains of a dependency that is there. -/
theorem containsW_is (ao : Option Addr) (cp m : Nat) (f : Nat → MW) (x0 x1 x2 : Int) (x3 : ByteArray) (x4 x5 : Int) (x6 x7 : Bool) (j : Nat) (hj : j < m) (hx : f j = (x0, x1, x2, x3, x4, x5, x6, x7)) (w : World) (hl : Lw w ao m f) (hm : m ≤ 60) :
    Calls Tryz.prog 13 #[.slice ao m cp, .agg #[.int .i64 x0, .int .i64 x1, .int .i64 x2, .string x3, .int .i64 x4, .int .i64 x5, .bool x6, .bool x7]] w fun e w' => e = .returned (.bool true) ∧ Below w.heap.size w w' := by
  obtain ⟨W1, hW1⟩ : ∃ W1, w.alloc (.cells #[.int .i64 x0, .int .i64 x1, .int .i64 x2, .string x3, .int .i64 x4, .int .i64 x5, .bool x6, .bool x7] 25) = W1 := ⟨_, rfl⟩
  obtain ⟨K, hK⟩ : ∃ K, w.heap.size = K := ⟨_, rfl⟩
  have nn : ∀ j, W1.cell? ⟨K, j, none⟩ = (#[.int .i64 x0, .int .i64 x1, .int .i64 x2, .string x3, .int .i64 x4, .int .i64 x5, .bool x6, .bool x7] : Array Value)[j]? := fun j => by rw [← hW1, ← hK]; exact new_cells w _ _ j
  have n0 : W1.cell? ⟨K, 0, none⟩ = some (.int .i64 x0) := nn 0
  have n1 : W1.cell? ⟨K, 1, none⟩ = some (.int .i64 x1) := nn 1
  have n2 : W1.cell? ⟨K, 2, none⟩ = some (.int .i64 x2) := nn 2
  have n3 : W1.cell? ⟨K, 3, none⟩ = some (.string x3) := nn 3
  have n4 : W1.cell? ⟨K, 4, none⟩ = some (.int .i64 x4) := nn 4
  have n5 : W1.cell? ⟨K, 5, none⟩ = some (.int .i64 x5) := nn 5
  have n6 : W1.cell? ⟨K, 6, none⟩ = some (.bool x6) := nn 6
  have n7 : W1.cell? ⟨K, 7, none⟩ = some (.bool x7) := nn 7
  have nz : K < W1.heap.size := by rw [← hW1, ← hK]; simp
  have BA : Hid (Below w.heap.size w W1) := by rw [← hW1]; exact below_box w _
  have IX := hid (indexW_is ao cp m f x0 x1 x2 x3 x4 x5 x6 x7 j hj hx W1 (hl.later BA.out) hm)
  clear nn hl hx
  go_enter Tryz.func13, Tryz.ntmps13
  go_wp2_with fail
  clear hW1 hK
  go_at_call 30
  refine IX.out.mono ?_
  rintro e w2 ⟨⟨k, rfl⟩, b2⟩
  have B2 : Hid (Below w.heap.size w w2) := BA.out.trans (b2.mono BA.out.size)
  have hk0 : (0 : Int) ≤ k := by omega
  clear b2 IX
  go_wp2_with fail
  go_ret
  exact ⟨rfl, B2.out⟩
end Go.Proofs.YtdihbeffomibeaaGreatDoor
namespace Go.Proofs.YtdihbeffomibeaaGreatDoor
set_option linter.unusedVariables false
set_option linter.unusedSimpArgs false
open Go.RowKit Go.Lib Go.Maps

/-- How many of the first k have the label. -/
def tmsN (f : Nat → MW) (want : Nat) : Nat → Nat
  | 0 => 0
  | k + 1 => tmsN f want k + if (f k).lab = want then 1 else 0
theorem tmsN_le (f : Nat → MW) (want : Nat) : ∀ k, tmsN f want k ≤ k
  | 0 => Nat.le_refl _
  | k + 1 => by have := tmsN_le f want k; unfold tmsN; split <;> omega
/-- What makes a cycle of a class, as the document says it. -/
structure GoodC (f : Nat → MW) (m : Nat) (c : Int) (want oth : Nat) : Prop where
  two : 2 ≤ m
  w0 : want ≠ 0
  one : ∀ i, i < m → one4 (f i).lab
  next : ∀ i, i < m → (f i).dst = (f ((i + 1) % m)).src
  may : ∀ i, i < m → (f i).lab = (want : Nat) ∨ bits BinOp.and IntKind.i64 (f i).lab (oth : Nat) ≠ 0
  apart : ∀ i j, i < j → j < m → (f i).src ≠ (f j).src
  times : tmsN f want m = 1 ∨ 1 < tmsN f want m ∧ c ≠ 10

set_option maxHeartbeats 3000000 in
set_option maxRecDepth 100000 in
theorem ris_is (ao : Option Addr) (cp m : Nat) (f : Nat → MW) (c : Int) (real : Bool) (w : World) (hl : Lw w ao m f) (hm : m ≤ 1000) (hmc : m ≤ cp) (hg : GoodC f m c (wantN c) (othN c real)) :
    Calls Tryz.prog 12 #[.slice ao m cp, .int .i64 c, .bool real] w fun e w' => e = .returned (.bool true) ∧ Below w.heap.size w w' := by
  have HL := hid hl
  have RW := hid (rwants_is c real w)
  have RQ := hid (fun (x : Int) (W : World) => (rone_is x W).mono (fun e w' h => (⟨h.1, h.2.symm⟩ : e = .returned (.bool (!strB x)) ∧ w' = W)))
  obtain ⟨want, hwant⟩ : ∃ want, wantN c = want := ⟨_, rfl⟩
  obtain ⟨oth, hoth⟩ : ∃ oth, othN c real = oth := ⟨_, rfl⟩
  rw [hwant] at RW hg
  rw [hoth] at RW hg
  have h2 : ¬ (m : Int) < 2 := by have := hg.two; omega
  have h2d : decide ((m : Int) < 2) = false := by simpa using h2
  have hw0 : ((want : Int) == 0) = false := by have := hg.w0; simpa using this
  have hw1 : ¬ (want : Int) = 0 := by have := hg.w0; omega
  have hmi : (m : Int) ≤ 1000 := by omega
  have hmci : (m : Int) ≤ cp := by omega
  have HG := hid hg
  have B0 := hid (Below.refl w.heap.size w)
  clear hl hg hwant hoth
  go_enter Tryz.func12, Tryz.ntmps12
  go_wp2_with fail
  go_at_call 23
  refine RW.out.mono ?_
  rintro e w' ⟨rfl, rfl⟩
  clear RW
  go_wp2_with fail
  go_loopg [9, 10, 11, 13, 29] m (fun g t9 _ _ _ i wr => ∃ k : Nat, k ≤ m ∧ m - k ≤ g ∧ i = .int .i64 k ∧ t9 = .int .i64 (tmsN f want k : Nat) ∧ Aside (Below w.heap.size w wr))
  case atStart => exact ⟨0, Nat.zero_le _, by omega, rfl, rfl, B0.out⟩
  case round =>
    clear B0
    obtain ⟨k, hk, hg, rfl, rfl, BX⟩ := hrel
    have htm := tmsN_le f want k
    obtain ⟨ts, hts⟩ : ∃ ts, tmsN f want k = ts := ⟨_, rfl⟩
    rw [hts] at htm ⊢
    have HTS := hid hts
    clear hts
    have hti : (ts : Int) ≤ 1000 := by omega
    have ht0 : (0 : Int) ≤ ts := by omega
    by_cases hlt : k < m
    · have hlti : (k : Int) < m := by omega
      have hk0 : (0 : Int) ≤ k := by omega
      have hkc : (k : Int) ≤ cp := by omega
      have LX := hid (HL.out.later BX.out)
      obtain ⟨b, o, rfl, hb, k0, k1, k2, k3, k4, k5, k6, k7⟩ := LX.out.eight k hlt
      obtain ⟨⟨x0, x1, x2, x3, x4, x5, x6, x7⟩, hx⟩ : ∃ x, f k = x := ⟨_, rfl⟩
      rw [hx] at k0 k1 k2 k3 k4 k5 k6 k7
      simp only [MW.src, MW.dst, MW.lab, MW.key, MW.va, MW.vb, MW.nl, MW.cond] at k0 k1 k2 k3 k4 k5 k6 k7
      have HX := hid hx
      have hmay := HG.out.may k hlt
      have hone := HG.out.one k hlt
      have hnext := HG.out.next k hlt
      rw [hx] at hmay hone hnext
      simp only [MW.lab, MW.dst] at hmay hone hnext
      by_cases hxw : x2 = (want : Nat)
      · subst hxw
        have hst : strB (want : Int) = false := by
          cases e : strB (want : Int) with
          | false => rfl
          | true => exact absurd hone ((strB_iff (want : Int)).1 e)
        have RO : Hid (∀ W, Calls Tryz.prog 24 #[.int .i64 (want : Int)] W fun e w' => e = .returned (.bool true) ∧ w' = W) := by
          have := RQ.out (want : Int)
          rw [hst] at this
          exact this
        have hml : (k + 1) % m < m := Nat.mod_lt _ (by omega)
        obtain ⟨j, hj⟩ : ∃ j, (k + 1) % m = j := ⟨_, rfl⟩
        rw [hj] at hml hnext
        have htm2 : ((k : Int) + 1).tmod (m : Int) = (j : Int) := by
          rw [← hj]
          exact_mod_cast Int.ofNat_tmod (k + 1) m
        obtain ⟨b', o', hbo, _, j0, _⟩ := LX.out.eight j hml
        injection hbo with hbo
        injection hbo with q1 q2
        subst q1 q2
        rw [← hnext] at j0
        have HJ := hid hj
        clear hj hnext hst hone hx
        obtain ⟨W1, hW1⟩ : ∃ W1, wr.alloc (.cells #[.int .i64 x0, .int .i64 x1, .int .i64 (want : Int), .string x3, .int .i64 x4, .int .i64 x5, .bool x6, .bool x7] 25) = W1 := ⟨_, rfl⟩
        obtain ⟨K, hK⟩ : ∃ K, wr.heap.size = K := ⟨_, rfl⟩
        have b1 : Below wr.heap.size wr W1 := by rw [← hW1]; exact below_box wr _
        have n0 : W1.cell? ⟨K, 0, none⟩ = some (.int .i64 x0) := by rw [← hW1, ← hK]; exact new_cells wr _ _ 0
        have n1 : W1.cell? ⟨K, 1, none⟩ = some (.int .i64 x1) := by rw [← hW1, ← hK]; exact new_cells wr _ _ 1
        have n2 : W1.cell? ⟨K, 2, none⟩ = some (.int .i64 (want : Int)) := by rw [← hW1, ← hK]; exact new_cells wr _ _ 2
        have nz : K < W1.heap.size := by rw [← hW1, ← hK]; simp
        have B1 : Hid (Below w.heap.size w W1) := BX.out.trans (b1.mono BX.out.size)
        have L1 : Hid (Lw W1 (some ⟨b, o, none⟩) m f) := HL.out.later B1.out
        have p0 : W1.cell? ⟨b, o + j * 8, none⟩ = some (.int .i64 x1) := (b1.cell (p := ⟨b, o + j * 8, none⟩) hb).trans j0
        have hji : (j : Int) < m := by omega
        have hj0 : (0 : Int) ≤ j := by omega
        have hm0 : ¬ (m : Int) = 0 := by omega
        have hmz : ((m : Int) == 0) = false := by simp; omega
        have hxx : (x1 != x1) = false := by simp
        clear b1 j0 LX
        have TS1 : Hid (((ts : Int) + 1 : Int) = (tmsN f want (k + 1) : Nat)) := by
          show _ = ((tmsN f want k + if (f k).lab = (want : Int) then 1 else 0 : Nat) : Int)
          rw [HTS.out, HX.out]
          simp [MW.lab]
        go_wp2_with fail
        go_quiet ((go_at_call 24; exact Calls.quiet_of_same (RO.out _)))
        go_wp2_with fail
        go_loopg [13, 67] k (fun g _ i2 wr2 => ∃ r : Nat, r ≤ k ∧ k - r ≤ g ∧ i2 = .int .i64 r ∧ Aside (Below W1.heap.size W1 wr2))
        case atStart => exact ⟨0, Nat.zero_le _, by omega, rfl, below_drewN (Below.refl _ _) _⟩
        case round =>
          obtain ⟨r, hr, hg2, rfl, CX⟩ := hrel
          by_cases hrk : r < k
          · have hrki : (r : Int) < k := by omega
            have hrm : r < m := by omega
            obtain ⟨b3, o3, hb3, hbz3, r0, r1, r2, r3, r4, r5, r6, r7⟩ := ((L1.out).later CX.out).eight r hrm
            injection hb3 with hb3
            injection hb3 with q1 q2
            subst q1 q2
            have hap : (f r).src ≠ x0 := by
              have := HG.out.apart r k hrk hlt
              rw [HX.out] at this
              exact this
            generalize f r = Y at r0 r1 r2 r3 r4 r5 r6 r7 hap
            obtain ⟨y0, y1, y2, y3, y4, y5, y6, y7⟩ := Y
            simp only [MW.src, MW.dst, MW.lab, MW.key, MW.va, MW.vb, MW.nl, MW.cond] at r0 r1 r2 r3 r4 r5 r6 r7 hap
            obtain ⟨W3, hW3⟩ : ∃ W3, wr.alloc (.cells #[.int .i64 y0, .int .i64 y1, .int .i64 y2, .string y3, .int .i64 y4, .int .i64 y5, .bool y6, .bool y7] 25) = W3 := ⟨_, rfl⟩
            obtain ⟨K3, hK3⟩ : ∃ K3, wr.heap.size = K3 := ⟨_, rfl⟩
            have B3 : Below wr.heap.size wr W3 := by rw [← hW3]; exact below_box wr _
            have g0 : W3.cell? ⟨K3, 0, none⟩ = some (.int .i64 y0) := by rw [← hW3, ← hK3]; exact new_cells wr _ _ 0
            have gz : K3 < W3.heap.size := by rw [← hW3, ← hK3]; simp
            have C3 : Hid (Below W1.heap.size W1 W3) := CX.out.trans (B3.mono CX.out.size)
            have s0 : W3.cell? ⟨K, 0, none⟩ = some (.int .i64 x0) := (C3.out.cell (p := ⟨K, 0, none⟩) nz).trans n0
            have sz : K < W3.heap.size := Nat.lt_of_lt_of_le nz C3.out.size
            have he3 : (y0 == x0) = false := by simpa using hap
            have he4 : ¬ y0 = x0 := hap
            clear B3
            go_wp2_with fail
            clear hW3 hK3 r0 r1 r2 r3 r4 r5 r6 r7
            go_roundg (k - (r + 1))
            case measure => omega
            case rel => exact ⟨r + 1, by omega, by omega, by go_num, C3.out⟩
          · have hrki : ¬ (r : Int) < k := by omega
            have BZ : Hid (Below w.heap.size w wr) := B1.out.trans (CX.out.mono B1.out.size)
            go_wp2_with fail
            go_roundg (m - (k + 1))
            case measure => omega
            case rel => exact ⟨k + 1, by omega, by omega, by go_num, (by rw [TS1.out]), BZ.out⟩
      · have hxw1 : (x2 == (want : Int)) = false := by simpa using hxw
        have hst : strB x2 = false := by
          cases e : strB x2 with
          | false => rfl
          | true => exact absurd hone ((strB_iff x2).1 e)
        have RO : Hid (∀ W, Calls Tryz.prog 24 #[.int .i64 x2] W fun e w' => e = .returned (.bool true) ∧ w' = W) := by
          have := RQ.out x2
          rw [hst] at this
          exact this
        have hml : (k + 1) % m < m := Nat.mod_lt _ (by omega)
        obtain ⟨j, hj⟩ : ∃ j, (k + 1) % m = j := ⟨_, rfl⟩
        rw [hj] at hml hnext
        have htm2 : ((k : Int) + 1).tmod (m : Int) = (j : Int) := by
          rw [← hj]
          exact_mod_cast Int.ofNat_tmod (k + 1) m
        obtain ⟨b', o', hbo, _, j0, _⟩ := LX.out.eight j hml
        injection hbo with hbo
        injection hbo with q1 q2
        subst q1 q2
        rw [← hnext] at j0
        have HJ := hid hj
        clear hj hnext hst hone hx
        obtain ⟨W1, hW1⟩ : ∃ W1, wr.alloc (.cells #[.int .i64 x0, .int .i64 x1, .int .i64 x2, .string x3, .int .i64 x4, .int .i64 x5, .bool x6, .bool x7] 25) = W1 := ⟨_, rfl⟩
        obtain ⟨K, hK⟩ : ∃ K, wr.heap.size = K := ⟨_, rfl⟩
        have b1 : Below wr.heap.size wr W1 := by rw [← hW1]; exact below_box wr _
        have n0 : W1.cell? ⟨K, 0, none⟩ = some (.int .i64 x0) := by rw [← hW1, ← hK]; exact new_cells wr _ _ 0
        have n1 : W1.cell? ⟨K, 1, none⟩ = some (.int .i64 x1) := by rw [← hW1, ← hK]; exact new_cells wr _ _ 1
        have n2 : W1.cell? ⟨K, 2, none⟩ = some (.int .i64 x2) := by rw [← hW1, ← hK]; exact new_cells wr _ _ 2
        have nz : K < W1.heap.size := by rw [← hW1, ← hK]; simp
        have B1 : Hid (Below w.heap.size w W1) := BX.out.trans (b1.mono BX.out.size)
        have L1 : Hid (Lw W1 (some ⟨b, o, none⟩) m f) := HL.out.later B1.out
        have p0 : W1.cell? ⟨b, o + j * 8, none⟩ = some (.int .i64 x1) := (b1.cell (p := ⟨b, o + j * 8, none⟩) hb).trans j0
        have hji : (j : Int) < m := by omega
        have hj0 : (0 : Int) ≤ j := by omega
        have hm0 : ¬ (m : Int) = 0 := by omega
        have hmz : ((m : Int) == 0) = false := by simp; omega
        have hxx : (x1 != x1) = false := by simp
        clear b1 j0 LX
        have hxo : bits BinOp.and IntKind.i64 x2 (oth : Nat) ≠ 0 := by
          rcases hmay with h | h
          · exact absurd h hxw
          · exact h
        have hxo1 : (bits BinOp.and IntKind.i64 x2 (oth : Nat) == 0) = false := by simpa using hxo
        have TS1 : Hid ((ts : Int) = (tmsN f want (k + 1) : Nat)) := by
          show _ = ((tmsN f want k + if (f k).lab = (want : Int) then 1 else 0 : Nat) : Int)
          rw [HTS.out, HX.out]
          simp [MW.lab, hxw]
        go_wp2_with fail
        go_quiet ((go_at_call 24; exact Calls.quiet_of_same (RO.out _)))
        go_wp2_with fail
        go_loopg [13, 67] k (fun g _ i2 wr2 => ∃ r : Nat, r ≤ k ∧ k - r ≤ g ∧ i2 = .int .i64 r ∧ Aside (Below W1.heap.size W1 wr2))
        case atStart => exact ⟨0, Nat.zero_le _, by omega, rfl, below_drewN (Below.refl _ _) _⟩
        case round =>
          obtain ⟨r, hr, hg2, rfl, CX⟩ := hrel
          by_cases hrk : r < k
          · have hrki : (r : Int) < k := by omega
            have hrm : r < m := by omega
            obtain ⟨b3, o3, hb3, hbz3, r0, r1, r2, r3, r4, r5, r6, r7⟩ := ((L1.out).later CX.out).eight r hrm
            injection hb3 with hb3
            injection hb3 with q1 q2
            subst q1 q2
            have hap : (f r).src ≠ x0 := by
              have := HG.out.apart r k hrk hlt
              rw [HX.out] at this
              exact this
            generalize f r = Y at r0 r1 r2 r3 r4 r5 r6 r7 hap
            obtain ⟨y0, y1, y2, y3, y4, y5, y6, y7⟩ := Y
            simp only [MW.src, MW.dst, MW.lab, MW.key, MW.va, MW.vb, MW.nl, MW.cond] at r0 r1 r2 r3 r4 r5 r6 r7 hap
            obtain ⟨W3, hW3⟩ : ∃ W3, wr.alloc (.cells #[.int .i64 y0, .int .i64 y1, .int .i64 y2, .string y3, .int .i64 y4, .int .i64 y5, .bool y6, .bool y7] 25) = W3 := ⟨_, rfl⟩
            obtain ⟨K3, hK3⟩ : ∃ K3, wr.heap.size = K3 := ⟨_, rfl⟩
            have B3 : Below wr.heap.size wr W3 := by rw [← hW3]; exact below_box wr _
            have g0 : W3.cell? ⟨K3, 0, none⟩ = some (.int .i64 y0) := by rw [← hW3, ← hK3]; exact new_cells wr _ _ 0
            have gz : K3 < W3.heap.size := by rw [← hW3, ← hK3]; simp
            have C3 : Hid (Below W1.heap.size W1 W3) := CX.out.trans (B3.mono CX.out.size)
            have s0 : W3.cell? ⟨K, 0, none⟩ = some (.int .i64 x0) := (C3.out.cell (p := ⟨K, 0, none⟩) nz).trans n0
            have sz : K < W3.heap.size := Nat.lt_of_lt_of_le nz C3.out.size
            have he3 : (y0 == x0) = false := by simpa using hap
            have he4 : ¬ y0 = x0 := hap
            clear B3
            go_wp2_with fail
            clear hW3 hK3 r0 r1 r2 r3 r4 r5 r6 r7
            go_roundg (k - (r + 1))
            case measure => omega
            case rel => exact ⟨r + 1, by omega, by omega, by go_num, C3.out⟩
          · have hrki : ¬ (r : Int) < k := by omega
            have BZ : Hid (Below w.heap.size w wr) := B1.out.trans (CX.out.mono B1.out.size)
            go_wp2_with fail
            go_roundg (m - (k + 1))
            case measure => omega
            case rel => exact ⟨k + 1, by omega, by omega, by go_num, (by rw [TS1.out]), BZ.out⟩
    · have hlti : ¬ (k : Int) < m := by omega
      obtain rfl : m = k := by omega
      have TM := HG.out.times
      rw [HTS.out] at TM
      rcases TM with h1 | ⟨h1, hc⟩
      · have e1 : ((ts : Int) == 1) = true := by simp [h1]
        have e2 : (ts : Int) = 1 := by omega
        have e3 : decide ((1 : Int) < ts) = false := by simp [h1]
        go_wp2_with fail
        go_ret
        exact ⟨rfl, BX.out⟩
      · have e1 : ((ts : Int) == 1) = false := by simp; omega
        have e2 : ¬ (ts : Int) = 1 := by omega
        have e3 : (1 : Int) < ts := by omega
        have e5 : (c != 10) = true := by simpa using hc
        go_wp2_with fail
        go_ret
        exact ⟨rfl, BX.out⟩
end Go.Proofs.YtdihbeffomibeaaGreatDoor
namespace Go.Proofs.YtdihbeffomibeaaGreatDoor
set_option linter.unusedVariables false
set_option linter.unusedSimpArgs false
open Go.RowKit Go.Lib Go.Maps

theorem tmsN_pos {f : Nat → MW} {want : Nat} (h : (f 0).lab = (want : Nat)) : ∀ k, 1 ≤ tmsN f want (k + 1)
  | 0 => by
    show 1 ≤ 0 + (if (f 0).lab = (want : Int) then 1 else 0)
    rw [if_pos h]
    exact Nat.le_refl _
  | k + 1 => by
    have := tmsN_pos h k
    show 1 ≤ tmsN f want (k + 1) + _
    omega
theorem tmsN_one {f : Nat → MW} {want : Nat} (h : (f 0).lab = (want : Nat)) : ∀ k, (∀ i, 0 < i → i < k + 1 → (f i).lab ≠ (want : Nat)) → tmsN f want (k + 1) = 1
  | 0, _ => by
    show 0 + (if (f 0).lab = (want : Int) then 1 else 0) = 1
    rw [if_pos h]
  | k + 1, hk => by
    have := tmsN_one h k (fun i h1 h2 => hk i h1 (by omega))
    show tmsN f want (k + 1) + (if (f (k + 1)).lab = (want : Int) then 1 else 0) = 1
    rw [if_neg (hk (k + 1) (by omega) (by omega)), this]
theorem ten_not (real : Bool) : ∀ x, x &&& othN 10 real ≠ 0 → x = wantN 10 → False := by
  intro x h1 h2
  subst h2
  cases real
  · exact absurd h1 (by decide +kernel)
  · exact absurd h1 (by decide +kernel)
theorem want_one {c : Int} (h : isCl c) : wantN c = 1 ∨ wantN c = 2 ∨ wantN c = 4 ∨ wantN c = 8 := by
  rcases h with rfl | rfl | rfl | rfl <;> decide

/-- What is told is a cycle of its class. -/
theorem good_of {f : Nat → MW} {m n : Nat} {c : Int} {real : Bool} {F T : Nat} {q : List Nat} {g : Nat → MW} (hc : isCl c) (hone : ∀ j, j < m → one4 (f j).lab) (hwhy : ∀ j, j < m → whyW n (f j) = 0)
    (hF : FstC (edge (gL f m) (wantN c : Int)) (edge (gL f m) (othN c real : Int)) n F T) (hB : Best (edge (gL f m) (othN c real : Int)) n T F q) (h : PartC f m (gL f m) (wantN c) (othN c real) F T q (q.length + 1) g) :
    GoodC g (q.length + 1) c (wantN c) (othN c real) ∧ ∀ i, i < q.length + 1 → ∃ j, j < m ∧ f j = g i := by
  have h16 := gL_16 f (fun _ => .inr trivial) m
  have hol := othN_lt c real
  have th := PartC.there hone hwhy (want_one hc) hol hF hB h
  have hne : F ≠ T := edge_diag (wantN_lt c) h16 (gL_diag hwhy) hF.e
  have hq : 0 < q.length := List.length_pos_iff.2 hB.1
  have inj := ndC_inj hF.t hne hB
  have last : ndC F T q (q.length + 1) = F := by
    have hl := (Wl.along q T hF.t hB.2.1).2
    have : (F :: T :: q).getD (q.length + 1) 0 = (T :: q).getD q.length 0 := by simp
    show (F :: T :: q).getD (q.length + 1) 0 = F
    rw [this]
    simpa using hl
  refine ⟨⟨by omega, by rcases want_one hc with e | e | e | e <;> omega, fun i hi => ?_, fun i hi => ?_, fun i hi => ?_, fun i j hij hj => ?_, ?_⟩, fun i hi => ?_⟩
  · obtain ⟨j, hj, e, _⟩ := th i hi
    rw [e]
    exact hone j hj
  · obtain ⟨j, hj, e, _, e2, _⟩ := th i hi
    rw [e, e2]
    by_cases hl : i + 1 < q.length + 1
    · rw [Nat.mod_eq_of_lt hl]
      obtain ⟨j', hj', e', e1, _⟩ := th (i + 1) hl
      rw [e', e1]
    · obtain rfl : i = q.length := by omega
      rw [Nat.mod_self, last]
      obtain ⟨j', hj', e', e1, _⟩ := th 0 (by omega)
      rw [e', e1]
      rfl
  · obtain ⟨j, hj, e, _, _, e3, e4⟩ := th i hi
    rw [e, e3]
    by_cases h0 : i = 0
    · subst h0
      exact .inl (by simp [labC])
    · refine .inr ?_
      have ha := e4 h0
      have hlt : labC (gL f m) (wantN c) (othN c real) F T q i < 16 := by
        have ho := hone j hj
        rw [e3] at ho
        unfold one4 at ho
        omega
      rw [and_16 _ hlt _ hol]
      intro z
      exact ha (by omega)
  · obtain ⟨a, ha, e, e1, _⟩ := th i (by omega)
    obtain ⟨b, hb, e', e1', _⟩ := th j hj
    rw [e, e', e1, e1']
    intro z
    exact inj i j hij hj (by omega)
  · obtain ⟨j, hj, e, _, _, e3, _⟩ := th 0 (by omega)
    have h0 : (g 0).lab = (wantN c : Nat) := by rw [e, e3]; simp [labC]
    by_cases h10 : c = 10
    · subst h10
      refine .inl (tmsN_one h0 _ (fun i h1 h2 => ?_))
      obtain ⟨j, hj, e, _, _, e3, e4⟩ := th i h2
      rw [e, e3]
      intro z
      exact ten_not real _ (e4 (by omega)) (by omega)
    · have := tmsN_pos h0 q.length
      by_cases h1 : tmsN g (wantN c) (q.length + 1) = 1
      · exact .inl h1
      · exact .inr ⟨by omega, h10⟩
  · obtain ⟨j, hj, e, _⟩ := th i hi
    exact ⟨j, hj, e.symm⟩
theorem good_tell {f : Nat → MW} {m : Nat} {N c : Int} {real : Bool} {k : Nat} {g : Nat → MW} (hc : isCl c) (h : TellA f m N c real k g true) : GoodC g k c (wantN c) (othN c real) ∧ ∀ i, i < k → ∃ j, j < m ∧ f j = g i := by
  rcases h with ⟨_, h, _⟩ | ⟨nb, n, rfl, hn, ⟨_, F, T, q, h1, h2, h3, rfl, h4⟩ | ⟨h, _⟩⟩
  · cases h
  · have ho : ∀ j, j < m → one4 (f j).lab := fun j hj => Classical.byContradiction fun z => nb (.inr (.inl ⟨j, hj, z⟩))
    have hw : ∀ j, j < m → whyW n (f j) = 0 := fun j hj => Classical.byContradiction fun z => nb (.inr (.inr (.inr (.inr ⟨n, rfl, j, hj, z⟩))))
    exact good_of hc ho hw h1 h2 h4
  · cases h
end Go.Proofs.YtdihbeffomibeaaGreatDoor
namespace Go.Proofs.YtdihbeffomibeaaGreatDoor
set_option linter.unusedVariables false
set_option linter.unusedSimpArgs false
open Go.RowKit Go.Lib Go.Maps

set_option maxHeartbeats 4000000 in
set_option maxRecDepth 100000 in
theorem cysimple_walk (N : Int) (ao : Option Addr) (cp len : Nat) (f : Nat → MW) (real : Bool) (w : World) (hl : Lw w ao len f) (hlc : len ≤ cp) (hT : Tab w) (hC : Cls w) :
    Calls Tryz.prog 4 #[.int .i64 N, .slice ao len cp, .bool real] w fun e w' => e = .returned (.bool true) ∧ Below w.heap.size w w' := by
  obtain ⟨m, hm⟩ : ∃ m, m = min len 60 := ⟨_, rfl⟩
  have hmi : min (len : Int) 60 = (m : Int) := by omega
  have hmc : (m : Int) ≤ (cp : Int) := by omega
  have hm60 : m ≤ 60 := by omega
  have HL := hid (hl.take (show m ≤ len by omega))
  have TB := hid hT
  have CB := hid hC
  have B0 := hid (Below.refl w.heap.size w)
  clear hl hlc hm hT hC
  go_enter Tryz.func4, Tryz.ntmps4
  go_wp2_with fail
  clear hmi
  go_loopg [7, 8, 9, 10, 11, 13] 4 (fun g kv _ _ _ _ _ wr => ∃ c : Int, 8 ≤ c ∧ c ≤ 12 ∧ (12 - c).toNat ≤ g ∧ kv = .int .i64 c ∧ Aside (Below w.heap.size w wr))
  case atStart => exact ⟨8, by omega, by omega, by decide, rfl, B0.out⟩
  case round =>
    clear B0
    obtain ⟨c, hc8, hc12, hg, rfl, BX⟩ := hrel
    by_cases hlt : c ≤ 11
    · have hcl : Hid (isCl c) := by unfold isCl; show _ ∨ _; omega
      have FI := hid (cfind_is N ao cp m f c real wr (HL.out.later BX.out) hm60 (TB.out.later BX.out) (CB.out.later BX.out))
      go_wp2_with fail
      go_at_call 8
      refine FI.out.mono ?_
      rintro e w2 ⟨⟨v, k, g1, ok, rfl, ht, ho⟩, b2⟩
      have B2 := hid (BX.out.trans (b2.mono BX.out.size))
      have RF := hid (rcfind_is N ao cp m f c real w2 (HL.out.later B2.out) hm60)
      have H1 := hid ht
      have O2 := hid ho
      clear b2 FI ht ho BX
      go_wp2_with fail
      go_at_call 9
      refine RF.out.mono ?_
      rintro e w3 ⟨⟨v', k', g', ok', rfl, ht, -⟩, b3⟩
      obtain ⟨rfl, rfl, hgg⟩ := H1.out.uniq ht
      have hk : k ≤ 301 := ht.short
      have B3 := hid (B2.out.trans (b3.mono B2.out.size))
      have O3 := hid (own_gro O2.out (Gro.of_below (P := fun _ => False) b3) (fun _ _ h => h))
      clear b3 RF ht hgg O2
      cases ok with
      | false =>
        clear O3 H1
        go_wp2_with fail
        go_roundg ((12 - (c + 1)).toNat)
        case measure => omega
        case rel => exact ⟨c + 1, by omega, by omega, by omega, by go_num, B3.out⟩
      | true =>
        obtain ⟨va, vc, rfl, hvc, hL1⟩ := owns_lw (m := 0) O3.out
        have GT := hid (good_tell hcl.out H1.out)
        have L3 := hid hL1
        have RI := hid (ris_is va vc k g1 c real w3 hL1 (by omega) hvc GT.out.1)
        clear O3 H1 hL1
        go_wp2_with fail
        go_at_call 12
        refine RI.out.mono ?_
        rintro e w4 ⟨rfl, b4⟩
        have B4 := hid (B3.out.trans (b4.mono B3.out.size))
        have L4 := hid (L3.out.later b4)
        have hki : (k : Int) ≤ 301 := by omega
        clear b4 RI L3 B3
        go_wp2_with fail
        go_loopg [13, 51] k (fun g _ i wr => ∃ r : Nat, r ≤ k ∧ k - r ≤ g ∧ i = .int .i64 r ∧ Aside (Below w4.heap.size w4 wr))
        case atStart => exact ⟨0, Nat.zero_le _, by omega, rfl, Below.refl _ _⟩
        case round =>
          obtain ⟨r, hr, hg2, rfl, CX⟩ := hrel
          by_cases hrk : r < k
          · have hrki : (r : Int) < k := by omega
            obtain ⟨b, o, rfl, hb, k0, k1, k2, k3, k4, k5, k6, k7⟩ := (L4.out.later CX.out).eight r hrk
            obtain ⟨j, hj, hfj⟩ := GT.out.2 r hrk
            generalize g1 r = Y at k0 k1 k2 k3 k4 k5 k6 k7 hfj
            obtain ⟨x0, x1, x2, x3, x4, x5, x6, x7⟩ := Y
            simp only [MW.src, MW.dst, MW.lab, MW.key, MW.va, MW.vb, MW.nl, MW.cond] at k0 k1 k2 k3 k4 k5 k6 k7
            obtain ⟨W1, hW1⟩ : ∃ W1, wr.alloc (.cells #[.int .i64 x0, .int .i64 x1, .int .i64 x2, .string x3, .int .i64 x4, .int .i64 x5, .bool x6, .bool x7] 25) = W1 := ⟨_, rfl⟩
            obtain ⟨K, hK⟩ : ∃ K, wr.heap.size = K := ⟨_, rfl⟩
            have nn : ∀ j, W1.cell? ⟨K, j, none⟩ = (#[.int .i64 x0, .int .i64 x1, .int .i64 x2, .string x3, .int .i64 x4, .int .i64 x5, .bool x6, .bool x7] : Array Value)[j]? := fun j => by rw [← hW1, ← hK]; exact new_cells wr _ _ j
            have n0 : W1.cell? ⟨K, 0, none⟩ = some (.int .i64 x0) := nn 0
            have n1 : W1.cell? ⟨K, 1, none⟩ = some (.int .i64 x1) := nn 1
            have n2 : W1.cell? ⟨K, 2, none⟩ = some (.int .i64 x2) := nn 2
            have n3 : W1.cell? ⟨K, 3, none⟩ = some (.string x3) := nn 3
            have n4 : W1.cell? ⟨K, 4, none⟩ = some (.int .i64 x4) := nn 4
            have n5 : W1.cell? ⟨K, 5, none⟩ = some (.int .i64 x5) := nn 5
            have n6 : W1.cell? ⟨K, 6, none⟩ = some (.bool x6) := nn 6
            have n7 : W1.cell? ⟨K, 7, none⟩ = some (.bool x7) := nn 7
            have nz : K < W1.heap.size := by rw [← hW1, ← hK]; simp
            have b1 : Below wr.heap.size wr W1 := by rw [← hW1]; exact below_box wr _
            have C1 : Hid (Below w4.heap.size w4 W1) := CX.out.trans (b1.mono CX.out.size)
            have D1 : Hid (Below w.heap.size w W1) := B4.out.trans (C1.out.mono B4.out.size)
            have CO := hid (containsW_is ao cp m f x0 x1 x2 x3 x4 x5 x6 x7 j hj hfj W1 (HL.out.later D1.out) hm60)
            clear nn b1 hfj CX D1
            go_wp2_with fail
            clear hW1 hK k0 k1 k2 k3 k4 k5 k6 k7
            go_at_call 13
            refine CO.out.mono ?_
            rintro e w5 ⟨rfl, b5⟩
            have C5 : Hid (Below w4.heap.size w4 w5) := C1.out.trans (b5.mono C1.out.size)
            clear b5 CO n0 n1 n2 n3 n4 n5 n6 n7 nz C1
            go_wp2_with fail
            go_roundg (k - (r + 1))
            case measure => omega
            case rel => exact ⟨r + 1, by omega, by omega, by go_num, C5.out⟩
          · have hrki : ¬ (r : Int) < k := by omega
            have BZ : Hid (Below w.heap.size w wr) := B4.out.trans (CX.out.mono B4.out.size)
            clear CX
            go_wp2_with fail
            go_roundg ((12 - (c + 1)).toNat)
            case measure => omega
            case rel => exact ⟨c + 1, by omega, by omega, by omega, by go_num, BZ.out⟩
    · have hlti : ¬ c ≤ 11 := hlt
      go_wp2_with fail
      go_ret
      exact ⟨rfl, BX.out⟩
end Go.Proofs.YtdihbeffomibeaaGreatDoor
namespace Go.Proofs.YtdihbeffomibeaaGreatDoor
set_option linter.unusedVariables false
set_option linter.unusedSimpArgs false
open Go.RowKit Go.Lib Go.Maps

theorem NoC.less {E1 E2 E2' : Nat → Nat → Bool} {n : Nat} (h : NoC E1 E2' n) (he : ∀ u v, E2 u v = true → E2' u v = true) : NoC E1 E2 n := fun F T hF hT e r hr hw => h F T hF hT e r hr (Wl.up he r T hw)
theorem TellA.more {f : Nat → MW} {m : Nat} {N c c' : Int} {real real' : Bool} {k k' : Nat} {g g' : Nat → MW} {ok' : Bool} (hc : isCl c) (hc' : isCl c') (hw : wantN c = wantN c') (ho : ∀ x, x < 16 → x &&& othN c real ≠ 0 → x &&& othN c' real' ≠ 0)
    (h : TellA f m N c real k g true) (h' : TellA f m N c' real' k' g' ok') : ok' = true := by
  rcases h with ⟨_, h, _⟩ | ⟨nb, n, rfl, hn, ⟨_, F, T, q, h1, _⟩ | ⟨h, _⟩⟩
  · cases h
  · rcases h' with ⟨b', _⟩ | ⟨_, n', e, _, ⟨h2, _⟩ | ⟨_, _, h2⟩⟩
    · exfalso
      rcases b' with b | b | b | b | b
      · exact b hc'
      · exact nb (.inr (.inl b))
      · exact nb (.inr (.inr (.inl b)))
      · exact nb (.inr (.inr (.inr (.inl b))))
      · exact nb (.inr (.inr (.inr (.inr b))))
    · exact h2
    · exfalso
      obtain rfl : n = n' := by omega
      rw [← hw] at h2
      have h16 := gL_16 f (fun _ => .inr trivial) m
      exact h1.no (h2.less (fun u v e => (edge_iff _ _ (othN_lt _ _) u v (h16 u v)).2 (ho _ (h16 u v) ((edge_iff _ _ (othN_lt _ _) u v (h16 u v)).1 e))))
  · cases h
theorem real_more (c : Int) (hc : isCl c) : ∀ x, x < 16 → x &&& othN c false ≠ 0 → x &&& othN c true ≠ 0 := by
  rcases hc with rfl | rfl | rfl | rfl <;> decide +kernel
theorem single_more : ∀ x, x < 16 → x &&& othN 10 false ≠ 0 → x &&& othN 11 false ≠ 0 := by decide +kernel
/-- What is told begins with the wanted label, and goes through nodes that there are. -/
theorem first_tell {f : Nat → MW} {m : Nat} {N c : Int} {real : Bool} {k : Nat} {g : Nat → MW} (hc : isCl c) (h : TellA f m N c real k g true) : (g 0).lab = (wantN c : Nat) ∧ ∀ i, i < k → ∃ s : Nat, (g i).src = s ∧ s < 1000000 := by
  rcases h with ⟨_, h, _⟩ | ⟨nb, n, rfl, hn, ⟨_, F, T, q, h1, h2, h3, rfl, h4⟩ | ⟨h, _⟩⟩
  · cases h
  · have ho : ∀ j, j < m → one4 (f j).lab := fun j hj => Classical.byContradiction fun z => nb (.inr (.inl ⟨j, hj, z⟩))
    have hw : ∀ j, j < m → whyW n (f j) = 0 := fun j hj => Classical.byContradiction fun z => nb (.inr (.inr (.inr (.inr ⟨n, rfl, j, hj, z⟩))))
    have th := PartC.there ho hw (want_one hc) (othN_lt c real) h1 h2 h4
    refine ⟨?_, fun i hi => ?_⟩
    · obtain ⟨j, hj, e, _, _, e3, _⟩ := th 0 (by omega)
      rw [e, e3]
      simp [labC]
    · obtain ⟨j, hj, e, e1, _⟩ := th i hi
      have := ndC_lt h1 h2 i (by omega)
      exact ⟨_, by rw [e, e1], by omega⟩
  · cases h
theorem some_of_single {g : Nat → MW} {k : Nat} (h : GoodC g k 10 (wantN 10) (othN 10 false)) (h0 : (g 0).lab = (wantN 10 : Nat)) : IsM g k 11 false ∧ ¬ IsM g k 8 false := by
  have h2 := h.two
  have w10 : ((wantN 10 : Nat) : Int) = 4 := by decide
  rw [w10] at h0
  refine ⟨⟨.inr (.inr (.inr rfl)), ⟨h.next, h.apart, by omega⟩, 0, by omega, by rw [h0]; decide, fun j hj => by omega, fun j hj hn => ?_⟩, ?_⟩
  · have ho := h.one j hj
    have hm := h.may j hj
    rcases ho with e | e | e | e
    · rw [e]; decide +kernel
    · rw [e]; decide +kernel
    · rw [e]; decide +kernel
    · exfalso
      rw [e] at hm
      rcases hm with z | z
      · rw [w10] at z; omega
      · exact z (by decide +kernel)
  · rintro ⟨_, _, k0, hk0, hw, _, ho⟩
    by_cases e : k0 = 0
    · subst e
      rw [h0] at hw
      exact absurd hw (by decide)
    · have := ho 0 (by omega) (fun z => e z.symm)
      rw [h0] at this
      exact absurd this (by decide +kernel)
/-- The document's Graph: a graph and no fault, or none and one. -/
def GraphBoth (w : World) (e : Ending) (w' : World) : Prop := ((∃ y : Int, y ≠ 0 ∧ e = .returned (.tuple #[.pointer none, .int .i64 y])) ∨ (∃ b : Nat, e = .returned (.tuple #[.pointer (some ⟨b, 0, none⟩), .int .i64 0]))) ∧ Below w.heap.size w w'
theorem rdgraph_any (N : Int) (ao : Option Addr) (cp m : Nat) (f : Nat → MW) (w : World) (hl : Lw w ao m f) (hm : m ≤ 60) : Calls Tryz.prog 14 #[.int .i64 N, .slice ao m cp] w fun e w' => GraphBoth w e w' := by
  by_cases hN : N < 0 ∨ 300 < N
  · refine (rdgraph_no N hN _ w).mono ?_
    rintro e w' ⟨rfl, b⟩
    exact ⟨.inl ⟨1, by decide, rfl⟩, b⟩
  · obtain ⟨n, rfl⟩ : ∃ n : Nat, N = n := ⟨N.toNat, by omega⟩
    refine (rdgraph_is n (by omega) ao cp m f w hl (by omega)).mono ?_
    rintro e w' ⟨hp, b⟩
    rcases hp with ⟨why, ⟨j, hj, _, hne, hwy⟩, rfl⟩ | ⟨_, b', v, rw', rfl, _, _⟩
    · exact ⟨.inl ⟨why, by rw [hwy]; exact hne, rfl⟩, b⟩
    · exact ⟨.inr ⟨b', rfl⟩, b⟩
/-- A list's room is no greater than an int. -/
theorem own_cap {w : World} {B n k : Nat} {va : Option Addr} {vc : Nat} {xs : List Value} {t sz : Nat} (h : w.ownsRow B t sz (.slice va k vc) n xs) : (vc : Int) ≤ 9223372036854775807 := by
  rcases h.2 with ⟨hv, _⟩ | ⟨g, cap, cur, hv, _, _, _, hm, _⟩
  · injection hv with _ _ e
    omega
  · injection hv with _ _ e
    have : maxLen ≤ 9223372036854775807 := by decide
    omega
end Go.Proofs.YtdihbeffomibeaaGreatDoor
