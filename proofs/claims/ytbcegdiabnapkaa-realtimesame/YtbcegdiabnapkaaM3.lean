/-
  slices.EqualFunc of rows of bools; RealtimeSame.
-/
import Derived.Test.YtbcegdiabnapkaaM2
import Derived.Deep.QuietTactic
import Derived.BigQuiet
namespace Go.Proofs.Ytbcegdiabnapkaa
set_option linter.unusedVariables false
set_option linter.unusedSimpArgs false
open Go.RowKit Go.Lib

set_option maxHeartbeats 4000000 in
/-- slices.Equal of two rows that are the same. -/
theorem eqBools_is (b1 b2 n : Nat) (f : Nat → Bool) (w : World) (h1 : w.rowIs b1 4 n (fun j => .bool (f j))) (h2 : w.rowIs b2 4 n (fun j => .bool (f j))) (hl : n ≤ 1000000) :
    Calls Try.prog 21 #[.slice (some ⟨b1, 0, none⟩) n n, .slice (some ⟨b2, 0, none⟩) n n] w fun e w' => e = .returned (.bool true) ∧ Below w.heap.size w w' := by
  have H1 := hid h1
  have H2 := hid h2
  clear h1 h2
  have hlen : (n : Int) ≤ 1000000 := by omega
  have hq : ((n : Int) == (n : Int)) = true := by simp
  go_enter Try.func21, Try.ntmps21
  go_wp2_with fail
  go_loopg [5, 13] n (fun gg _ i wr => ∃ k : Nat, k ≤ n ∧ n - k ≤ gg ∧ i = .int .i64 k ∧ Aside (∃ q, wr = w.drewN q))
  case atStart => exact ⟨0, Nat.zero_le _, by omega, rfl, 0, rfl⟩
  case round =>
    obtain ⟨k, hk, hg, rfl, QX⟩ := hrel
    obtain ⟨q, rfl⟩ := QX.out
    by_cases hlt : k < n
    · have hlti : (k : Int) < n := by omega
      have d1 := H1.out.cell hlt
      have f1 := H2.out.cell hlt
      generalize f k = x at *
      have hx1 : (x == x) = true := by cases x <;> rfl
      have hx2 : (x != x) = false := by cases x <;> rfl
      go_wp2_with fail
      go_quiet (fail)
      go_wp2_with fail
      go_roundg (n - (k + 1))
      · exact ⟨k + 1, by omega, by omega, by go_num, _, rfl⟩
      · omega
    · have hlti : ¬ (k : Int) < n := by omega
      go_wp2_with fail
      go_ret
      exact ⟨rfl, ⟨rfl, rfl, rfl, Nat.le_refl _, fun _ _ => rfl⟩⟩

set_option maxHeartbeats 4000000 in
/-- slices.EqualFunc of two matrices that are the same. -/
theorem eqMx_is (g1 g2 n : Nat) (P : Nat → Nat → Bool) (w : World) (h1 : Mx w g1 n n P) (h2 : Mx w g2 n n P) (hl : n ≤ 25) :
    Calls Try.prog 19 #[.slice (some ⟨g1, 0, none⟩) n n, .slice (some ⟨g2, 0, none⟩) n n, .func (.func 21) #[] #[]] w fun e w' => e = .returned (.bool true) ∧ Below w.heap.size w w' := by
  have H1 := hid h1
  have H2 := hid h2
  clear h1 h2
  have hq : ((n : Int) == (n : Int)) = true := by simp
  go_enter Try.func19, Try.ntmps19
  go_wp2_with fail
  go_loopg [7, 8, 9, 17] n (fun gg _ _ _ i wr => ∃ k : Nat, k ≤ n ∧ n - k ≤ gg ∧ i = .int .i64 k ∧ Aside (Below w.heap.size w wr))
  case atStart => exact ⟨0, Nat.zero_le _, by omega, rfl, Below.refl _ _⟩
  case round =>
    obtain ⟨k, hk, hg, rfl, BW⟩ := hrel
    by_cases hlt : k < n
    · have hlti : (k : Int) < n := by omega
      have c1 := (H1.out.later BW.out).head hlt hlt
      have c2 := (H2.out.later BW.out).head hlt hlt
      have EB := hid (eqBools_is (g1 + 1 + k) (g2 + 1 + k) n (P k) wr ((H1.out.later BW.out).2 k hlt) ((H2.out.later BW.out).2 k hlt) (by omega))
      go_wp2_with fail
      refine EB.out.mono ?_
      rintro e w5 ⟨rfl, hb5⟩
      have B5 := hid (BW.out.trans (hb5.mono BW.out.size))
      clear hb5 c1 c2 EB BW
      go_wp2_with fail
      go_roundg (n - (k + 1))
      case measure => omega
      case rel => exact ⟨k + 1, by omega, by omega, by go_num, B5.out⟩
    · have hlti : ¬ (k : Int) < n := by omega
      go_wp2_with fail
      go_ret
      exact ⟨rfl, BW.out⟩

set_option maxHeartbeats 8000000 in
set_option maxRecDepth 100000 in
theorem same_walk {S : Nat → Prop} (v : Value) (l : List MTxn) (w : World) (h : TxnsIn S w v l) :
    Calls Try.prog 4 #[v] w fun e w' => e = .returned (.bool true) ∧ Below w.heap.size w w' := by
  have H := hid h
  clear h
  go_enter Try.func4, Try.ntmps4
  go_wp2_with fail
  go_at_call 8
  refine (small_any v l w H.out).mono ?_
  rintro e w1 ⟨v1, rfl, hv1, hb1⟩
  have h40 : (smallL l).length ≤ 40 := by unfold smallL; simp; omega
  obtain ⟨ao, c, f, rfl, hlc, hby, hLt, -⟩ := hv1.lt
  generalize (smallL l).length = n at *
  have L1 := hid hLt
  have B1 := hid hb1
  clear hv1 hLt hb1 H
  go_wp2_with fail
  go_at_call 18
  refine (right_is ao c n f w1 h40 hlc L1.out).mono ?_
  rintro e w2 ⟨ao', c', m, rfl, hmc, hm, ⟨f', hL, hR⟩, hb2⟩
  have L2 := hid hL
  have R2 := hid hR
  have B2 := hid (B1.out.trans (hb2.mono B1.out.size))
  clear hL hR hb2 B1 L1
  have hm40 : m ≤ 40 := by omega
  have hF : (allL (fullRow f' m) m).length ≤ 1600 := by
    have h1 := allL_len (fullRow f' m) 40 (fun i => Nat.le_trans (len_filter _ _) hm40) m
    have h3 : m * 40 ≤ 40 * 40 := Nat.mul_le_mul_right _ (by omega)
    omega
  have hS := sparse_fewer f' m m
  have HP : Hid (∀ a c b, a < m → c < m → b < m → pbef f' a c = true → pbef f' c b = true → pbef f' a b = true) := fun a c b ha hc hb h1 h2 => bef_goes (R2.out a ha) (R2.out c hc) h1 h2
  go_wp2_with fail
  go_at_call 13
  refine (full_is ao' c' m f' w2 hm40 L2.out).mono ?_
  rintro e w3 ⟨v3, rfl, hO3, hb3⟩
  obtain ⟨a3, c3, rfl, -, hL3⟩ := owns_ls hO3
  have L3 := hid hL3
  have T3 := hid (L2.out.later hb3)
  have B3 := hid hb3
  clear hO3 hb3 hL3 L2
  go_wp2_with fail
  go_at_call 15
  refine (sparse_is ao' c' m f' w3 hm40 T3.out).mono ?_
  rintro e w4 ⟨v4, rfl, hO4, hb4⟩
  obtain ⟨a4, c4, rfl, -, hL4⟩ := owns_ls hO4
  have L4 := hid hL4
  have L34 := hid (L3.out.later hb4)
  have T4 := hid (T3.out.later hb4)
  have B4 := hid (B3.out.trans (hb4.mono B3.out.size))
  clear hO4 hb4 hL4 L3 T3 B3
  go_wp2_with fail
  go_at_call 20
  refine (reached_is a3 c3 m _ _ (pbef f') (pbef f') w4 hm (by omega) L34.out (fun t ht => pairs_read (pbef f') m t ht) (fun x y hx hy h => pairs_have (pbef f') m x y hx hy h) HP.out (fun a b _ _ h => war_le _ _ _ h m)).mono ?_
  rintro e w5 ⟨rfl, hM5, hb5⟩
  have M5 := hid hM5
  have L45 := hid (L4.out.later hb5)
  have T5 := hid (T4.out.later hb5)
  have B5 := hid (B4.out.trans (hb5.mono B4.out.size))
  clear hM5 hb5 L4 T4 B4 L34
  go_wp2_with fail
  go_at_call 20
  refine (reached_is a4 c4 m _ _ (psp f' m) (pbef f') w5 hm (by omega) L45.out (fun t ht => by
    obtain ⟨x, y, h1, h2, h3, h4⟩ := pairs_read (psp f' m) m t ht
    exact ⟨x, y, h1, h2, h3, psp_le f' m x y h4⟩) (fun x y hx hy h => pairs_have (psp f' m) m x y hx hy h) HP.out (fun a b ha hb h => sparse_reach f' m R2.out _ a b ha hb (Nat.le_refl _) h)).mono ?_
  rintro e w6 ⟨rfl, hM6, hb6⟩
  have E6 := hid (eqMx_is w4.heap.size w5.heap.size m (pbef f') w6 (M5.out.later hb6) hM6 hm)
  have T6 := hid (T5.out.later hb6)
  have B6 := hid (B5.out.trans (hb6.mono B5.out.size))
  clear hM6 hb6 M5 T5 B5 L45 R2 HP
  go_wp2_with fail
  go_at_call 19
  refine E6.out.mono ?_
  rintro e w7 ⟨rfl, hb7⟩
  have T7 := hid (T6.out.later hb7)
  have B7 := hid (B6.out.trans (hb7.mono B6.out.size))
  clear hb7 E6 T6 B6
  go_wp2_with fail
  go_at_call 14
  refine (rfull_is ao' c' m f' w7 hm40 T7.out).mono ?_
  rintro e w8 ⟨v8, rfl, hO8, hb8⟩
  obtain ⟨a8, c8, rfl, -, -⟩ := owns_ls hO8
  have B8 := hid (B2.out.trans ((B7.out.trans (hb8.mono B7.out.size)).mono B2.out.size))
  clear hO8 hb8
  generalize (allL (fullRow f' m) m).length = F at *
  generalize (allL (sparseRow f' m) m).length = G at *
  have hFF : ((F : Int) == (F : Int)) = true := by simp
  have hGF : (G : Int) ≤ (F : Int) := by omega
  go_wp2_with fail
  go_ret
  exact ⟨rfl, B8.out⟩
end Go.Proofs.Ytbcegdiabnapkaa
