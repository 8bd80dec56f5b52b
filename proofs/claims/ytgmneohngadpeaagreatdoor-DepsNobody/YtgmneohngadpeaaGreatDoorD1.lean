/-
  Dependencies by their cells; deps.Graph.
-/
import Derived.Test.YtgmneohngadpeaaGreatDoorG3
namespace Go.Proofs.YtgmneohngadpeaaGreatDoor
set_option linter.unusedVariables false
set_option linter.unusedSimpArgs false
open Go.RowKit

/-- A dependency, plain: from, to, label, key, the two values, nil, conditional. -/
abbrev MW := Int × Int × Int × ByteArray × Int × Int × Bool × Bool
abbrev MW.src (x : MW) : Int := x.1
abbrev MW.dst (x : MW) : Int := x.2.1
abbrev MW.lab (x : MW) : Int := x.2.2.1
abbrev MW.key (x : MW) : ByteArray := x.2.2.2.1
abbrev MW.va (x : MW) : Int := x.2.2.2.2.1
abbrev MW.vb (x : MW) : Int := x.2.2.2.2.2.1
abbrev MW.nl (x : MW) : Bool := x.2.2.2.2.2.2.1
abbrev MW.cond (x : MW) : Bool := x.2.2.2.2.2.2.2
def encW (x : MW) : List Value := [.int .i64 x.src, .int .i64 x.dst, .int .i64 x.lab, .string x.key, .int .i64 x.va, .int .i64 x.vb, .bool x.nl, .bool x.cond]
theorem encW_len (x : MW) : (encW x).length = 8 := rfl
/-- n dependencies by their cells, in a slice at ao. -/
def Lw (w : World) (ao : Option Addr) (n : Nat) (f : Nat → MW) : Prop := ∀ j, j < n → ∃ b o, ao = some ⟨b, o, none⟩ ∧ b < w.heap.size ∧ ∀ i u, (encW (f j))[i]? = some u → w.cell? ⟨b, o + j * 8 + i, none⟩ = some u
theorem Lw.later {w w' : World} {ao : Option Addr} {n : Nat} {f : Nat → MW} (h : Lw w ao n f) (hb : Below w.heap.size w w') : Lw w' ao n f := fun j hj => by
  obtain ⟨b, o, h1, h2, h4⟩ := h j hj
  exact ⟨b, o, h1, Nat.lt_of_lt_of_le h2 hb.size, fun i u hi => (hb.cell (p := ⟨b, o + j * 8 + i, none⟩) h2).trans (h4 i u hi)⟩
theorem Lw.eight {w : World} {ao : Option Addr} {n : Nat} {f : Nat → MW} (h : Lw w ao n f) (j : Nat) (hj : j < n) : ∃ b o, ao = some ⟨b, o, none⟩ ∧ b < w.heap.size ∧ w.cell? ⟨b, o + j * 8, none⟩ = some (.int .i64 (f j).src) ∧ w.cell? ⟨b, o + j * 8 + 1, none⟩ = some (.int .i64 (f j).dst) ∧ w.cell? ⟨b, o + j * 8 + 2, none⟩ = some (.int .i64 (f j).lab) ∧ w.cell? ⟨b, o + j * 8 + 3, none⟩ = some (.string (f j).key) ∧ w.cell? ⟨b, o + j * 8 + 4, none⟩ = some (.int .i64 (f j).va) ∧ w.cell? ⟨b, o + j * 8 + 5, none⟩ = some (.int .i64 (f j).vb) ∧ w.cell? ⟨b, o + j * 8 + 6, none⟩ = some (.bool (f j).nl) ∧ w.cell? ⟨b, o + j * 8 + 7, none⟩ = some (.bool (f j).cond) := by
  obtain ⟨b, o, h1, h2, h4⟩ := h j hj
  exact ⟨b, o, h1, h2, h4 0 _ rfl, h4 1 _ rfl, h4 2 _ rfl, h4 3 _ rfl, h4 4 _ rfl, h4 5 _ rfl, h4 6 _ rfl, h4 7 _ rfl⟩

/-- Why Add refuses a dependency; 0: it does not. -/
def whyW (n : Nat) (x : MW) : Int := addWhy n x.src x.dst x.lab
/-- The labels of the first k dependencies, put together. -/
def gL (f : Nat → MW) : Nat → Nat → Nat → Nat
  | 0 => fun _ _ => 0
  | k + 1 => addL (gL f k) (f k).src.toNat (f k).dst.toNat (f k).lab.toNat 4
/-- The first one that is refused, and why. -/
def Refused (n len : Nat) (f : Nat → MW) (why : Int) : Prop := ∃ j, j < len ∧ (∀ i, i < j → whyW n (f i) = 0) ∧ whyW n (f j) ≠ 0 ∧ why = whyW n (f j)
/-- What deps.Graph hands back. -/
def GraphPost (n len : Nat) (f : Nat → MW) (w : World) (e : Ending) (w' : World) : Prop :=
  ((∃ why, Refused n len f why ∧ e = .returned (.tuple #[.pointer none, .int .i64 why])) ∨ ((∀ i, i < len → whyW n (f i) = 0) ∧ ∃ b r bk ck, e = .returned (.tuple #[.pointer (some ⟨b, 0, none⟩), .int .i64 0]) ∧ Graph w' b n r bk ck (gL f len) ∧ w.heap.size ≤ b ∧ ∀ k, k < 4 * n → w.heap.size ≤ ck k)) ∧ Below w.heap.size w w'
theorem why_zero {n : Nat} {x : MW} (h : whyW n x = 0) : ∃ F T X : Nat, x.src = F ∧ x.dst = T ∧ x.lab = X ∧ F < n ∧ T < n ∧ 1 ≤ X ∧ X < 16 ∧ F ≠ T := by
  unfold whyW addWhy at h
  split at h
  · cases h
  · split at h
    · cases h
    · exact ⟨x.src.toNat, x.dst.toNat, x.lab.toNat, by omega, by omega, by omega, by omega, by omega, by omega, by omega, by omega⟩

set_option maxHeartbeats 4000000 in
/-- deps.Graph of too many nodes, or of fewer than none. -/
theorem dgraph_no (n : Int) (hn : n < 0 ∨ 300 < n) (v : Value) (w : World) : Calls Tryz.prog 5 #[.int .i64 n, v] w fun e w' => e = .returned (.tuple #[.pointer none, .int .i64 1]) ∧ Below w.heap.size w w' := by
  have N1 := hid (gnew_no n hn)
  clear hn
  go_enter Tryz.func5, Tryz.ntmps5
  go_wp2_with fail
  go_at_call 13
  refine (N1.out _).mono ?_
  rintro e w1 ⟨rfl, rfl⟩
  go_wp2_with fail
  refine bodyPost_ret (v := .tuple #[.pointer none, .int .i64 1]) (by simp [results, Tryz.results5, go_sem]) rfl ⟨rfl, Below.refl _ _⟩

set_option maxHeartbeats 8000000 in
set_option maxRecDepth 100000 in
/-- deps.Graph. -/
theorem dgraph_is (n : Nat) (hn : n ≤ 300) (ao : Option Addr) (c len : Nat) (f : Nat → MW) (w : World) (hl : Lw w ao len f) (hlen : len ≤ 9223372036854775807) : Calls Tryz.prog 5 #[.int .i64 n, .slice ao len c] w fun e w' => GraphPost n len f w e w' := by
  have N1 := hid (gnew_ok n hn)
  have HZ := hid hl
  clear hl
  have hleni : (len : Int) ≤ 9223372036854775807 := by omega
  go_enter Tryz.func5, Tryz.ntmps5
  go_wp2_with fail
  go_at_call 13
  refine (N1.out _).mono ?_
  rintro e w1 ⟨rfl, s1, b1⟩
  have S1 := hid s1
  have B1 := hid b1
  have LO : Hid (∀ k, k < 4 * n → w.heap.size ≤ w.heap.size + 2 + 2 * k) := fun k _ => by omega
  have LB : Hid (w.heap.size ≤ w.heap.size + 1) := Nat.le_succ _
  clear s1 b1 N1
  obtain ⟨ck, hck⟩ : ∃ ck : Nat → Nat, ck = fun k => w.heap.size + 2 + 2 * k := ⟨_, rfl⟩
  have LO2 : Hid (∀ k, k < 4 * n → w.heap.size ≤ ck k) := fun k hk => by rw [hck]; exact LO.out k hk
  rw [← hck] at S1
  clear hck LO
  generalize (fun k => w.heap.size + 3 + 2 * k : Nat → Nat) = bk at *
  obtain ⟨b, hb⟩ : ∃ b, w.heap.size + 1 = b := ⟨_, rfl⟩
  rw [hb] at S1 LB ⊢
  clear hb
  obtain ⟨r, hr⟩ : ∃ r, w.heap.size = r := ⟨_, rfl⟩
  have S2 : Hid (Graph w1 b n r bk ck (gL f 0)) := by rw [← hr]; exact S1.out
  clear hr S1
  go_wp2_with fail
  go_loopg [9, 10, 21] len (fun g _ _ i wr => ∃ j : Nat, j ≤ len ∧ len - j ≤ g ∧ i = .int .i64 j ∧ Aside (Graph wr b n r bk ck (gL f j)) ∧ Aside (Below w.heap.size w wr) ∧ Aside (∀ i, i < j → whyW n (f i) = 0))
  case atStart => exact ⟨0, Nat.zero_le _, by omega, rfl, S2.out, B1.out, fun i hi => absurd hi (Nat.not_lt_zero _)⟩
  case round =>
    clear S2 B1
    obtain ⟨j, hj, hg, rfl, GX, BX, OX⟩ := hrel
    by_cases hjl : j < len
    · have hjli : (j : Int) < len := by omega
      obtain ⟨bz, oz, rfl, -, k0, k1, k2, k3, k4, k5, k6, k7⟩ := (HZ.out.later BX.out).eight j hjl
      obtain ⟨X, hX⟩ : ∃ X, f j = X := ⟨_, rfl⟩
      have HX := hid hX
      rw [hX] at k0 k1 k2 k3 k4 k5 k6 k7
      clear hX
      obtain ⟨x, y, z, xk, xa, xb, xn, xc⟩ := X
      simp only [MW.src, MW.dst, MW.lab, MW.key, MW.va, MW.vb, MW.nl, MW.cond] at k0 k1 k2 k3 k4 k5 k6 k7
      have AL := hid (below_box wr (.cells #[.int .i64 x, .int .i64 y, .int .i64 z, .string xk, .int .i64 xa, .int .i64 xb, .bool xn, .bool xc] 38))
      have G2 := hid (GX.out.later AL.out)
      have B2 := hid (BX.out.trans (AL.out.mono BX.out.size))
      by_cases hw : whyW n (f j) = 0
      · have hw2 := hw
        rw [HX.out] at hw2
        obtain ⟨F, T, Xl, e1, e2, e3, hF, hT, hX1, hX2, hne⟩ := why_zero hw2
        simp only [MW.src, MW.dst, MW.lab] at e1 e2 e3
        subst e1 e2 e3
        have AD := hid (gadd_ok b n r bk ck (gL f j) F T Xl _ G2.out hF hT hX1 hX2 hne)
        have EL : Hid (addL (gL f j) F T Xl 4 = gL f (j + 1)) := by
          show _ = addL (gL f j) (f j).src.toNat (f j).dst.toNat (f j).lab.toNat 4
          rw [HX.out]
          rfl
        have HF := hid hF
        have HW := hid hw
        clear hw hw2 hF hT hX1 hX2 hne
        go_wp2_with fail
        go_at_call 14
        refine AD.out.mono ?_
        rintro e w5 ⟨rfl, s5, b5⟩
        rw [EL.out] at s5
        have S5 := hid s5
        have B5 : Hid (Below w.heap.size w w5) := B2.out.trans (b5.below w.heap.size (fun k hk => by obtain ⟨i, hi, rfl⟩ := hk; exact LO2.out _ (by have := HF.out; omega)) B2.out.size)
        have O5 : Hid (∀ i, i < j + 1 → whyW n (f i) = 0) := fun i hi => by
          by_cases e : i = j
          · rw [e]; exact HW.out
          · exact OX.out i (by omega)
        clear s5 b5 AD EL k0 k1 k2 k3 k4 k5 k6 k7
        go_wp2_with fail
        go_roundg (len - (j + 1))
        case measure => omega
        case rel => exact ⟨j + 1, by omega, by omega, by go_num, S5.out, B5.out, O5.out⟩
      · have hw2 := hw
        rw [HX.out] at hw2
        have AD := hid (gadd_no b n r bk ck (gL f j) x y z _ G2.out hw2)
        have ER : Hid (Refused n len f (addWhy n x y z)) := ⟨j, hjl, OX.out, hw, by rw [HX.out]; rfl⟩
        have hw3 : ¬ addWhy n x y z = 0 := hw2
        have hw4 : (addWhy n x y z == 0) = false := by simp [hw3]
        clear hw hw2
        generalize addWhy n x y z = why at *
        go_wp2_with fail
        go_at_call 14
        refine AD.out.mono ?_
        rintro e w5 ⟨rfl, rfl⟩
        have PO : Hid (GraphPost n len f w (.returned (.tuple #[.pointer none, .int .i64 why])) (wr.alloc (.cells #[.int .i64 x, .int .i64 y, .int .i64 z, .string xk, .int .i64 xa, .int .i64 xb, .bool xn, .bool xc] 38))) := ⟨.inl ⟨why, ER.out, rfl⟩, B2.out⟩
        clear AD k0 k1 k2 k3 k4 k5 k6 k7
        go_wp2_with fail
        refine bodyPost_ret (v := .tuple #[.pointer none, .int .i64 why]) (by simp [results, Tryz.results5, go_sem]) rfl PO.out
    · have hjli : ¬ (j : Int) < len := by omega
      have hjn : len = j := by omega
      have PO : Hid (GraphPost n len f w (.returned (.tuple #[.pointer (some ⟨b, 0, none⟩), .int .i64 0])) wr) := by
        refine ⟨.inr ⟨fun i hi => OX.out i (by omega), b, r, bk, ck, rfl, ?_, LB.out, LO2.out⟩, BX.out⟩
        rw [hjn]
        exact GX.out
      clear hjn
      go_wp2_with fail
      refine bodyPost_ret (v := .tuple #[.pointer (some ⟨b, 0, none⟩), .int .i64 0]) (by simp [results, Tryz.results5, go_sem]) rfl PO.out
end Go.Proofs.YtgmneohngadpeaaGreatDoor
