/-
  The library's rotateCmpFunc: walked over any program that bears its body.
-/
import Derived.Test.YtbcegdiabnapkaaS1
namespace Go.Proofs.Ytbcegdiabnapkaa
set_option linter.unusedVariables false
set_option linter.unusedSimpArgs false
open Go.Shelf Go.RowKit Go.Lib Go.Sort
variable {P : Program} {α : Type} [Inhabited α]

/-- What a rotation leaves. -/
def RotPost (enc : α → List Value) (k : Nat) (w0 : World) (blk off : Nat) (d : Array α) (a m b : Nat) (w' : World) : Prop := ∃ d', SWK enc k w0 blk off d' w' ∧ d'.size = d.size ∧ PermIn a b d d' ∧ ∀ x, d'[x]! = rotV d a m b x
/-- What its loop knows. -/
def RotI (d dk : Array α) (a m b i j : Nat) : Prop := dk.size = d.size ∧ PermIn a b d dk ∧ (∀ x, rotV dk (m - i) m (m + j) x = rotV d a m b x) ∧ 0 < i ∧ 0 < j ∧ a + i ≤ m ∧ m + j ≤ b
theorem RotI.left {d dk : Array α} {a m b i j : Nat} (h : RotI d dk a m b i j) (hb : b ≤ d.size) (hij : j < i) : RotI d (swr dk (m - i) m j) a m b (i - j) j := by
  obtain ⟨h1, h2, h3, h4, h5, h6, h7⟩ := h
  refine ⟨by rw [swr_size, h1], permIn_trans _ _ _ _ _ h2 (swr_perm _ _ _ _ _ _ (by omega) (by omega) (by omega) (by omega) (by omega)), fun x => ?_, by omega, h5, by omega, h7⟩
  rw [rot_left dk m i j h5 hij (by omega) (by omega), h3]
theorem RotI.right {d dk : Array α} {a m b i j : Nat} (h : RotI d dk a m b i j) (hb : b ≤ d.size) (hij : i < j) : RotI d (swr dk (m - i) (m + j - i) i) a m b i (j - i) := by
  obtain ⟨h1, h2, h3, h4, h5, h6, h7⟩ := h
  refine ⟨by rw [swr_size, h1], permIn_trans _ _ _ _ _ h2 (swr_perm _ _ _ _ _ _ (by omega) (by omega) (by omega) (by omega) (by omega)), fun x => ?_, h4, by omega, h6, by omega⟩
  rw [rot_right dk m i j h4 hij (by omega) (by omega), h3]
theorem RotI.last {d dk : Array α} {a m b i : Nat} (h : RotI d dk a m b i i) (hb : b ≤ d.size) : (swr dk (m - i) m i).size = d.size ∧ PermIn a b d (swr dk (m - i) m i) ∧ ∀ x, (swr dk (m - i) m i)[x]! = rotV d a m b x := by
  obtain ⟨h1, h2, h3, h4, h5, h6, h7⟩ := h
  refine ⟨by rw [swr_size, h1], permIn_trans _ _ _ _ _ h2 (swr_perm _ _ _ _ _ _ (by omega) (by omega) (by omega) (by omega) (by omega)), fun x => ?_⟩
  rw [rot_end dk m i (by omega) (by omega), h3]

set_option maxHeartbeats 4000000 in
set_option maxRecDepth 1000000 in
theorem rotate_is (L : SL P) (k : Nat) (aE : ∀ w, (isAgg 50).run P w = .ok true w) (zE : ∀ w, (Go.sizeOf 50).run P w = .ok k w) (enc : α → List Value) (g : Nat) (cb : Array Value) (blk off cap a m b : Nat) (d0 d : Array α) (w0 w : World)
    (R : RowK enc k w0 blk off d0) (hs : d0.size = d.size) (S : SWK enc k w0 blk off d w) (ham : a < m) (hmb : m < b) (hb : b ≤ d.size) (hsz : d.size < 100000) :
    Calls P 64 #[.slice (some ⟨blk, off, none⟩) d.size cap, .int .i64 a, .int .i64 m, .int .i64 b, .func (.func g) #[] cb] w fun e w' => e = .returned (.tuple #[]) ∧ RotPost enc k w0 blk off d a m b w' := by
  have mixed := L.mixed; have t0 := L.t0; have a0 := L.a0; have z0 := L.z0; have v0 := L.v0; have t3 := L.t3; have a3 := L.a3; have z3 := L.z3; have v3 := L.v3; have t4 := L.t4; have a4 := L.a4; have z4 := L.z4; have v4 := L.v4; have t39 := L.t39; have a39 := L.a39; have z39 := L.z39; have v39 := L.v39; have t47 := L.t47; have a47 := L.a47; have z47 := L.z47; have v47 := L.v47; have t61 := L.t61; have a61 := L.a61; have z61 := L.z61; have v61 := L.v61
  have FG := L.f64
  have e66 : ∀ args w, (callFunc 66 args).run P w = .ok (.enter 66 args) w := enters_of L.f66 (by kernel_rfl) rfl
  have S0 : Aside (SWK enc k w0 blk off d w) := S
  have SW : Hid (∀ (x y n : Nat) (dk : Array α) (wr : World), dk.size = d.size → SWK enc k w0 blk off dk wr → x + n ≤ y → y + n ≤ d.size → Calls P 66 #[.slice (some ⟨blk, off, none⟩) d.size cap, .int .i64 x, .int .i64 y, .int .i64 n, .func (.func g) #[] cb] wr fun e w' => e = .returned (.tuple #[]) ∧ SWK enc k w0 blk off (swr dk x y n) w') := fun x y n dk wr hd hS h1 h2 => by
    have := swapRange_is L k aE zE enc g cb blk off cap x y n d0 dk w0 wr R (by omega) hS h1 (by omega) (by omega)
    rw [hd] at this
    exact this
  have I0 : Hid (RotI d d a m b (m - a) (b - m)) := ⟨rfl, permIn_refl _ _ _, fun x => by rw [show m - (m - a) = a by omega, show m + (b - m) = b by omega], by omega, by omega, by omega, by omega⟩
  clear S
  have hw1 : IntKind.i64.wrap ((m : Int) - (a : Int)) = ((m - a : Nat) : Int) := by rw [IntKind.wrap_i64]; omega
  have hw2 : IntKind.i64.wrap ((b : Int) - (m : Int)) = ((b - m : Nat) : Int) := by rw [IntKind.wrap_i64]; omega
  obtain ⟨i0, hi0⟩ : ∃ i0, i0 = m - a := ⟨_, rfl⟩
  obtain ⟨j0, hj0⟩ : ∃ j0, j0 = b - m := ⟨_, rfl⟩
  rw [← hi0, ← hj0] at I0
  rw [← hi0] at hw1
  rw [← hj0] at hw2
  have hi1 : i0 ≤ 100000 := by omega
  have hj1 : j0 ≤ 100000 := by omega
  clear hi0 hj0
  go_enter FG, Try.ntmps64
  go_wp2_with fail
  go_loopg [10, 11] (i0 + j0) (fun kx s10 s11 wr => ∃ (i j : Nat) (dk : Array α), s10 = .int .i64 i ∧ s11 = .int .i64 j ∧ i + j ≤ kx ∧ i ≤ 100000 ∧ j ≤ 100000 ∧ Aside (SWK enc k w0 blk off dk wr) ∧ Aside (RotI d dk a m b i j))
  case atStart => exact ⟨i0, j0, d, rfl, rfl, Nat.le_refl _, hi1, hj1, S0, I0⟩
  case round =>
    clear S0 I0 hw1 hw2
    obtain ⟨i, j, dk, rfl, rfl, hkx, hi, hj, S1, I1⟩ := hrel
    have hp1 : 0 < i := I1.out.2.2.2.1
    have hp2 : 0 < j := I1.out.2.2.2.2.1
    have hp3 : a + i ≤ m := I1.out.2.2.2.2.2.1
    have hp4 : m + j ≤ b := I1.out.2.2.2.2.2.2
    have hds : dk.size = d.size := I1.out.1
    obtain ⟨mi, hmi⟩ : ∃ mi, mi = m - i := ⟨_, rfl⟩
    have hw1 : IntKind.i64.wrap ((m : Int) - (i : Int)) = (mi : Int) := by rw [IntKind.wrap_i64]; omega
    by_cases hij : i = j
    · subst hij
      have hq : ((i : Int) == (i : Int)) = true := by simp
      have C := SW.out mi m i dk wr hds S1.out (by omega) (by omega)
      have PO : Hid (∀ w', SWK enc k w0 blk off (swr dk mi m i) w' → RotPost enc k w0 blk off d a m b w') := fun w' h => by
        rw [hmi] at h
        obtain ⟨q1, q2, q3⟩ := I1.out.last hb
        exact ⟨_, h, q1, q2, q3⟩
      clear hmi
      go_wp2_with (go_at_fn 66; refine C.mono ?_; rintro e w' ⟨rfl, hS⟩)
      go_end0
      exact ⟨rfl, PO.out _ hS⟩
    · have hq : ((i : Int) == (j : Int)) = false := by simp; omega
      have hq2 : ¬ (i : Int) = (j : Int) := by omega
      by_cases hlt : j < i
      · have hlti : (j : Int) < (i : Int) := by omega
        have C := SW.out mi m j dk wr hds S1.out (by omega) (by omega)
        have I2 : Hid (RotI d (swr dk mi m j) a m b (i - j) j) := by
          show RotI _ _ _ _ _ _ _
          rw [hmi]
          exact I1.out.left hb hlt
        obtain ⟨ni, hni⟩ : ∃ ni, ni = i - j := ⟨_, rfl⟩
        have hw3 : IntKind.i64.wrap ((i : Int) - (j : Int)) = (ni : Int) := by rw [IntKind.wrap_i64]; omega
        rw [← hni] at I2
        have hn1 : ni + j < i + j := by omega
        have hn2 : ni ≤ 100000 := by omega
        clear hmi hni hij
        go_wp2_with (go_at_fn 66; refine C.mono ?_; rintro e w' ⟨rfl, hS⟩; have S2 : Aside (SWK enc k w0 blk off (swr dk mi m j) w') := hS; clear hS)
        go_roundg (ni + j)
        case measure => omega
        case rel => exact ⟨ni, j, _, rfl, rfl, Nat.le_refl _, hn2, hj, S2, I2⟩
      · have hlti : ¬ (j : Int) < (i : Int) := by omega
        obtain ⟨mj, hmj⟩ : ∃ mj, mj = m + j - i := ⟨_, rfl⟩
        have hw4 : IntKind.i64.wrap ((m : Int) + (j : Int)) = (m : Int) + (j : Int) := by rw [IntKind.wrap_i64]; omega
        have hw5 : IntKind.i64.wrap ((m : Int) + (j : Int) - (i : Int)) = (mj : Int) := by rw [IntKind.wrap_i64]; omega
        have C := SW.out mi mj i dk wr hds S1.out (by omega) (by omega)
        have I2 : Hid (RotI d (swr dk mi mj i) a m b i (j - i)) := by
          show RotI _ _ _ _ _ _ _
          rw [hmi, hmj]
          exact I1.out.right hb (by omega)
        obtain ⟨nj, hnj⟩ : ∃ nj, nj = j - i := ⟨_, rfl⟩
        have hw3 : IntKind.i64.wrap ((j : Int) - (i : Int)) = (nj : Int) := by rw [IntKind.wrap_i64]; omega
        rw [← hnj] at I2
        have hn1 : i + nj < i + j := by omega
        have hn2 : nj ≤ 100000 := by omega
        clear hmi hmj hnj hij
        go_wp2_with (go_at_fn 66; refine C.mono ?_; rintro e w' ⟨rfl, hS⟩; have S2 : Aside (SWK enc k w0 blk off (swr dk mi mj i) w') := hS; clear hS)
        go_roundg (i + nj)
        case measure => omega
        case rel => exact ⟨i, nj, _, rfl, rfl, Nat.le_refl _, hi, hn2, S2, I2⟩
end Go.Proofs.Ytbcegdiabnapkaa
