/-
  Add of a graph.
-/
import Derived.Test.YtgmneohngadpeaaGreatDoorG2
namespace Go.Proofs.YtgmneohngadpeaaGreatDoor
set_option linter.unusedVariables false
set_option linter.unusedSimpArgs false
open Go.RowKit

/-- The labels behind Add of the lowest k of some labels. -/
def addL (L : Nat → Nat → Nat) (f T x k : Nat) : Nat → Nat → Nat := fun f' t' => if f' = f ∧ t' = T then L f' t' ||| low x k else L f' t'
theorem low_bit (x k i : Nat) : (low x k).testBit i = (decide (i < k) && x.testBit i) := by
  unfold low
  exact Nat.testBit_mod_two_pow x k i
theorem addL_bit (L : Nat → Nat → Nat) (f T x k f' t' i : Nat) : (addL L f T x k f' t').testBit i = ((L f' t').testBit i || (decide (f' = f ∧ t' = T ∧ i < k) && x.testBit i)) := by
  unfold addL
  by_cases h : f' = f ∧ t' = T
  · rw [if_pos h, Nat.testBit_or, low_bit]
    simp [h.1, h.2]
  · rw [if_neg h]
    have : decide (f' = f ∧ t' = T ∧ i < k) = false := by simp; intro h1 h2; exact absurd ⟨h1, h2⟩ h
    rw [this]
    simp
theorem addL_0 (L : Nat → Nat → Nat) (f T x : Nat) : addL L f T x 0 = L := by
  funext f' t'
  apply Nat.eq_of_testBit_eq
  intro i
  rw [addL_bit]
  simp
theorem addL_skip (L : Nat → Nat → Nat) (f T x k : Nat) (h : x.testBit k = false) : addL L f T x (k + 1) = addL L f T x k := by
  funext f' t'
  apply Nat.eq_of_testBit_eq
  intro i
  rw [addL_bit, addL_bit]
  by_cases e : i = k
  · subst e
    simp [h]
  · congr 2
    rw [Bool.eq_iff_iff]
    simp
    intro _ _
    omega
theorem addL_small (L : Nat → Nat → Nat) (f T x k : Nat) (hL : ∀ f t, L f t < 16) (hx : x < 16) (f' t' : Nat) : addL L f T x k f' t' < 16 := by
  unfold addL
  split
  · exact Nat.or_lt_two_pow (n := 4) (hL _ _) (Nat.lt_of_le_of_lt (Nat.mod_le _ _) hx)
  · exact hL _ _
set_option maxRecDepth 100000 in
theorem bit_is : ∀ x : Nat, x < 16 → ∀ k : Nat, k < 4 → (bits BinOp.and IntKind.i64 ((x : Int) / 2 ^ k) 1 == 1) = x.testBit k := by decide +kernel

/-- w' is w but for blocks of P. -/
structure Save (P : Nat → Prop) (w w' : World) : Prop where
  os : w'.os = w.os
  tape : w'.tape = w.tape
  output : w'.output = w.output
  size : w'.heap.size = w.heap.size
  block : ∀ k, k < w.heap.size → ¬ P k → w'.heap[k]? = w.heap[k]?
theorem Save.refl (P : Nat → Prop) (w : World) : Save P w w := ⟨rfl, rfl, rfl, rfl, fun _ _ _ => rfl⟩
theorem Save.beside {P : Nat → Prop} {w w1 w2 : World} {c : Nat} (h : Save P w w1) (hb : Beside c w1 w2) (hz : w2.heap.size = w1.heap.size) (hc : P c) : Save P w w2 :=
  ⟨hb.os.trans h.os, hb.tape.trans h.tape, hb.output.trans h.output, hz.trans h.size, fun k hk hn => (hb.block k (by rw [h.size]; exact hk) (fun e => hn (by rw [e]; exact hc))).trans (h.block k hk hn)⟩
theorem Save.below {P : Nat → Prop} {w w' : World} (h : Save P w w') (H : Nat) (hH : ∀ k, P k → H ≤ k) (hs : H ≤ w.heap.size) : Below H w w' :=
  ⟨h.os, h.tape, h.output, by rw [h.size]; exact Nat.le_refl _, fun k hk => h.block k (by omega) (fun hp => by have := hH k hp; omega)⟩

theorem Graph.step {w wa : World} {b n r : Nat} {bk ck : Nat → Nat} {L : Nat → Nat → Nat} {f T x k : Nat} (h : Graph w b n r bk ck (addL L f T x k)) (hL : ∀ f t, L f t < 16) (hx : x < 16) (hf : f < n) (hk : k < 4) (hb : x.testBit k = true)
    (sa : Is wa (bk (4 * f + k)) n (ck (4 * f + k)) (fun t => t == T || (addL L f T x k f t).testBit k)) (ba : Beside (ck (4 * f + k)) w wa) : Graph wa b n r bk ck (addL L f T x (k + 1)) := by
  obtain ⟨cur, r1, r2, r3⟩ := h.row
  have hs := h.sets (4 * f + k) (by omega)
  obtain ⟨ws, s1, s2⟩ := hs.ex
  refine ⟨(ba.block b (blt h.box) (tags h.box s1.row (by decide))).trans h.box, ⟨cur, (ba.block r (blt r1) (tags r1 s1.row (by decide))).trans r1, r2, r3⟩, fun k' hk' => ?_, h.apart, addL_small L f T x (k + 1) hL hx, h.bound⟩
  by_cases e : k' = 4 * f + k
  · subst e
    refine sa.congr (fun t => ?_)
    have e1 : (4 * f + k) / 4 = f := by omega
    have e2 : (4 * f + k) % 4 = k := by omega
    rw [e1, e2, addL_bit, addL_bit, hb]
    by_cases e3 : t = T
    · subst e3
      simp
    · simp [e3]
  · have h1 := (h.sets k' hk').beside_set hs (h.apart k' (4 * f + k) hk' (by omega) e) ba
    refine h1.congr (fun t => ?_)
    rw [addL_bit, addL_bit]
    congr 2
    rw [Bool.eq_iff_iff]
    simp
    intro h2 h3
    omega

set_option maxHeartbeats 4000000 in
theorem gadd_ok (b n r : Nat) (bk ck : Nat → Nat) (L : Nat → Nat → Nat) (f T x : Nat) (w : World) (h : Graph w b n r bk ck L) (hf : f < n) (hT : T < n) (hx1 : 1 ≤ x) (hx : x < 16) (hne : f ≠ T) :
    Calls Tryz.prog 14 #[.pointer (some ⟨b, 0, none⟩), .int .i64 f, .int .i64 T, .int .i64 x] w fun e w' => e = .returned (.int .i64 0) ∧ Graph w' b n r bk ck (addL L f T x 4) ∧ Save (fun c => ∃ i, i < 4 ∧ c = ck (4 * f + i)) w w' := by
  have G0 := hid h
  have H0 := hid (gMade_at b true w h.c0)
  have H1 := hid (ghas_ok b n f w h.c0 h.c1 hf)
  have H2 := hid (ghas_ok b n T w h.c0 h.c1 hT)
  have H3 := hid (row_is b n r f w h.c2 hf h.bound)
  have SM := hid h.small
  have hn3 := h.bound
  clear h
  have q1 : (1 : Int) ≤ x := by omega
  have q2 : (x : Int) ≤ 15 := by omega
  have q3 : ((f : Int) == (T : Int)) = false := by simp; omega
  have q4 : (T : Int) < n := by omega
  go_enter Tryz.func14, Tryz.ntmps14
  go_wp2_with fail
  refine H0.out.mono ?_
  rintro e w' ⟨rfl, rfl⟩
  go_wp2_with fail
  refine H1.out.mono ?_
  rintro e w' ⟨rfl, rfl⟩
  go_wp2_with fail
  refine H2.out.mono ?_
  rintro e w' ⟨rfl, rfl⟩
  go_wp2_with fail
  refine H3.out.mono ?_
  rintro e w' ⟨rfl, rfl⟩
  clear H0 H1 H2 H3
  go_wp2_with fail
  go_loopg [9, 10, 39] 4 (fun g _ _ i wr => ∃ k : Nat, k ≤ 4 ∧ 4 - k ≤ g ∧ i = .int .i64 k ∧ Aside (Graph wr b n r bk ck (addL L f T x k)) ∧ Aside (Save (fun c => ∃ i, i < 4 ∧ c = ck (4 * f + i)) w wr))
  case atStart => exact ⟨0, by omega, by omega, rfl, by rw [addL_0]; exact G0.out, Save.refl _ _⟩
  case round =>
    obtain ⟨k, hk, hg, rfl, GX, SX⟩ := hrel
    by_cases hlt : k < 4
    · have hlti : (k : Int) < 4 := by omega
      have cr := GX.out.at (4 * f + k) (by omega)
      have hbit := bit_is x hx k hlt
      cases ht : x.testBit k
      · rw [ht] at hbit
        have ES := hid (addL_skip L f T x k ht)
        clear ht
        go_wp2_with fail
        go_roundg (4 - (k + 1))
        · exact ⟨k + 1, by omega, by omega, by go_num, by rw [ES.out]; exact GX.out, SX.out⟩
        · omega
      · rw [ht] at hbit
        have HB := hid ht
        have IS := GX.out.sets (4 * f + k) (by omega)
        have e1 : (4 * f + k) / 4 = f := by omega
        have e2 : (4 * f + k) % 4 = k := by omega
        rw [e1, e2] at IS
        have I1 := hid IS
        clear ht IS e1 e2
        go_wp2_with fail
        go_at_call 30
        refine (add_is _ _ _ _ T _ I1.out hT).mono ?_
        rintro e wa ⟨rfl, sa, ba, za⟩
        have GN := hid (GX.out.step SM.out hx hf hlt HB.out sa ba)
        have SN := hid (SX.out.beside ba za ⟨k, hlt, rfl⟩)
        clear sa ba za
        go_wp2_with fail
        go_roundg (4 - (k + 1))
        · exact ⟨k + 1, by omega, by omega, by go_num, GN.out, SN.out⟩
        · omega
    · have hlti : ¬ (k : Int) < 4 := by omega
      have ek : k = 4 := by omega
      subst ek
      go_wp2_with fail
      go_ret
      exact ⟨rfl, GX.out, SX.out⟩
/-- What Add answers where nothing is added. -/
def addWhy (n : Nat) (f t x : Int) : Int := if (f < 0 ∨ (n : Int) ≤ f) ∨ (t < 0 ∨ (n : Int) ≤ t) then 60 else if x < 1 ∨ 15 < x ∨ f = t then 1 else 0
theorem gadd_no (b n r : Nat) (bk ck : Nat → Nat) (L : Nat → Nat → Nat) (f t x : Int) (w : World) (h : Graph w b n r bk ck L) (hw : addWhy n f t x ≠ 0) :
    Calls Tryz.prog 14 #[.pointer (some ⟨b, 0, none⟩), .int .i64 f, .int .i64 t, .int .i64 x] w fun e w' => e = .returned (.int .i64 (addWhy n f t x)) ∧ w = w' := by
  have H0 := hid (gMade_at b true w h.c0)
  have c0 := h.c0
  have c1 := h.c1
  clear h
  by_cases hf : f < 0 ∨ (n : Int) ≤ f
  · have e : addWhy n f t x = 60 := by unfold addWhy; rw [if_pos (.inl hf)]
    rw [e]
    have H1 := hid (ghas_no b n f w c0 c1 hf)
    clear hf hw e c0 c1
    go_enter Tryz.func14, Tryz.ntmps14
    go_wp2_with fail
    refine H0.out.mono ?_
    rintro e w' ⟨rfl, rfl⟩
    go_wp2_with fail
    refine H1.out.mono ?_
    rintro e w' ⟨rfl, rfl⟩
    go_wp2_with fail
    go_ret
    exact ⟨rfl, rfl⟩
  · obtain ⟨F, rfl⟩ : ∃ F : Nat, f = F := ⟨f.toNat, by omega⟩
    have H1 := hid (ghas_ok b n F w c0 c1 (by omega))
    by_cases ht : t < 0 ∨ (n : Int) ≤ t
    · have e : addWhy n F t x = 60 := by unfold addWhy; rw [if_pos (.inr ht)]
      rw [e]
      have H2 := hid (ghas_no b n t w c0 c1 ht)
      clear hf ht hw e c0 c1
      go_enter Tryz.func14, Tryz.ntmps14
      go_wp2_with fail
      refine H0.out.mono ?_
      rintro e w' ⟨rfl, rfl⟩
      go_wp2_with fail
      refine H1.out.mono ?_
      rintro e w' ⟨rfl, rfl⟩
      go_wp2_with fail
      refine H2.out.mono ?_
      rintro e w' ⟨rfl, rfl⟩
      go_wp2_with fail
      go_ret
      exact ⟨rfl, rfl⟩
    · obtain ⟨T, rfl⟩ : ∃ T : Nat, t = T := ⟨t.toNat, by omega⟩
      have H2 := hid (ghas_ok b n T w c0 c1 (by omega))
      have hb : x < 1 ∨ 15 < x ∨ (F : Int) = T := by
        unfold addWhy at hw
        rw [if_neg (by omega)] at hw
        apply Classical.byContradiction
        intro h
        rw [if_neg h] at hw
        exact hw rfl
      have e : addWhy n F T x = 1 := by unfold addWhy; rw [if_neg (by omega), if_pos hb]
      rw [e]
      clear hw e c0 c1 hf ht
      by_cases b1 : x < 1
      · go_enter Tryz.func14, Tryz.ntmps14
        go_wp2_with fail
        refine H0.out.mono ?_
        rintro e w' ⟨rfl, rfl⟩
        go_wp2_with fail
        refine H1.out.mono ?_
        rintro e w' ⟨rfl, rfl⟩
        go_wp2_with fail
        refine H2.out.mono ?_
        rintro e w' ⟨rfl, rfl⟩
        go_wp2_with fail
        go_ret
        exact ⟨rfl, rfl⟩
      · by_cases b2 : 15 < x
        · have b3 : ¬ x < 1 := by omega
          go_enter Tryz.func14, Tryz.ntmps14
          go_wp2_with fail
          refine H0.out.mono ?_
          rintro e w' ⟨rfl, rfl⟩
          go_wp2_with fail
          refine H1.out.mono ?_
          rintro e w' ⟨rfl, rfl⟩
          go_wp2_with fail
          refine H2.out.mono ?_
          rintro e w' ⟨rfl, rfl⟩
          go_wp2_with fail
          go_ret
          exact ⟨rfl, rfl⟩
        · have b3 : (1 : Int) ≤ x := by omega
          have b4 : x ≤ 15 := by omega
          have b5 : ((F : Int) == (T : Int)) = true := by simp; omega
          clear hb b1 b2
          go_enter Tryz.func14, Tryz.ntmps14
          go_wp2_with fail
          refine H0.out.mono ?_
          rintro e w' ⟨rfl, rfl⟩
          go_wp2_with fail
          refine H1.out.mono ?_
          rintro e w' ⟨rfl, rfl⟩
          go_wp2_with fail
          refine H2.out.mono ?_
          rintro e w' ⟨rfl, rfl⟩
          go_wp2_with fail
          go_ret
          exact ⟨rfl, rfl⟩
end Go.Proofs.YtgmneohngadpeaaGreatDoor
