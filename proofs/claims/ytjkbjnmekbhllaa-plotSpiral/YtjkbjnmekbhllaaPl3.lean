/-
  The document's Spiral.
-/
import Derived.Test.YtjkbjnmekbhllaaPl2
namespace Go.Proofs.Ytjkbjnmekbhllaa
set_option linter.unusedVariables false
set_option linter.unusedSimpArgs false
open Go.RowKit

def okP (p : Pp) : Bool := decide (-30 ≤ p.1.1) && decide (p.1.1 ≤ 30) && decide (-30 ≤ p.1.2) && decide (p.1.2 ≤ 30) && decide (-1 ≤ p.2.1.1) && decide (p.2.1.1 ≤ 1) && decide (-1 ≤ p.2.1.2) && decide (p.2.1.2 ≤ 1) && decide (1 ≤ p.2.2.1) && decide (p.2.2.1 ≤ 20) && decide (p.2.2.2 ≤ 40)
def okPs : Nat → Pp → Bool
  | 0, p => okP p
  | n + 1, p => okP p && okPs n (ppN p)
theorem okPs_at : ∀ (n : Nat) (p : Pp), okPs n p = true → okP p = true ∧ (∀ m, n = m + 1 → okPs m (ppN p) = true) := by
  intro n p h
  cases n with
  | zero => exact ⟨h, fun m e => by cases e⟩
  | succ m =>
    simp only [okPs, Bool.and_eq_true] at h
    exact ⟨h.1, fun k e => by cases e; exact h.2⟩
theorem okPs_all : okPs 150 (ppA 0) = true := by decide +kernel
theorem okPs_k (k : Nat) (hk : k ≤ 150) : okPs (150 - k) (ppA k) = true := by
  induction k with
  | zero => exact okPs_all
  | succ j ih =>
    have := ih (by omega)
    obtain ⟨m, hm⟩ : ∃ m, 150 - j = m + 1 := ⟨150 - j - 1, by omega⟩
    have h2 := (okPs_at _ _ this).2 m hm
    have e : 150 - (j + 1) = m := by omega
    rw [e]
    exact h2
theorem pp_range (k : Nat) (hk : k ≤ 150) : -30 ≤ (ppA k).1.1 ∧ (ppA k).1.1 ≤ 30 ∧ -30 ≤ (ppA k).1.2 ∧ (ppA k).1.2 ≤ 30 ∧ -1 ≤ (ppA k).2.1.1 ∧ (ppA k).2.1.1 ≤ 1 ∧ -1 ≤ (ppA k).2.1.2 ∧ (ppA k).2.1.2 ≤ 1 ∧ 1 ≤ (ppA k).2.2.1 ∧ (ppA k).2.2.1 ≤ 20 ∧ (ppA k).2.2.2 ≤ 40 := by
  have h := (okPs_at _ _ (okPs_k k hk)).1
  simp only [okP, Bool.and_eq_true, decide_eq_true_eq] at h
  omega
theorem pp_at (k : Nat) : (ppA (k + 1)).1 = ((ppA k).1.1 + (ppA k).2.1.1, (ppA k).1.2 + (ppA k).2.1.2) := by
  show (ppN (ppA k)).1 = _
  unfold ppN
  split <;> rfl
theorem pp_in (j i : Nat) (hi : i < (ppA j).2.2.1) : (ppA (j + i)).2 = ((ppA j).2.1, (ppA j).2.2.1 - i, (ppA j).2.2.2) := by
  induction i with
  | zero => simp
  | succ q ih =>
    have h := ih (by omega)
    show (ppN (ppA (j + q))).2 = _
    unfold ppN
    rw [h]
    simp only
    rw [if_neg (by omega)]
    simp only [Prod.mk.injEq, true_and, and_true]
    omega
theorem pp_end (j : Nat) (h1 : 1 ≤ (ppA j).2.2.1) : (ppA (j + (ppA j).2.2.1)).2 = ((-(ppA j).2.1.2, (ppA j).2.1.1), 1 + ((ppA j).2.2.2 + 1) / 2, (ppA j).2.2.2 + 1) := by
  obtain ⟨q, hq⟩ : ∃ q, (ppA j).2.2.1 = q + 1 := ⟨(ppA j).2.2.1 - 1, by omega⟩
  have h := pp_in j q (by omega)
  rw [hq]
  show (ppN (ppA (j + q))).2 = _
  unfold ppN
  rw [h]
  simp only
  rw [if_pos (by omega)]
/-- A place of the document's. -/
def pV (k : Nat) : List Value := [.int .i64 (plX k), .int .i64 (plY k)]
def pVs (m : Nat) : List Value := (List.range m).flatMap pV
theorem pVs_succ (m : Nat) : pVs (m + 1) = pVs m ++ pV m := by simp [pVs, List.range_succ]
theorem pVs_len (m : Nat) : (pVs m).length = m * 2 := by
  induction m with
  | zero => rfl
  | succ k ih => rw [pVs_succ, List.length_append, ih]; simp [pV]; omega
theorem pVs_at (m k : Nat) (hk : k < m) : (pVs m)[k * 2]? = some (.int .i64 (plX k)) ∧ (pVs m)[k * 2 + 1]? = some (.int .i64 (plY k)) := by
  induction m with
  | zero => omega
  | succ q ih =>
    rw [pVs_succ]
    by_cases h : k < q
    · have := ih h
      have hl := pVs_len q
      rw [List.getElem?_append_left (by omega), List.getElem?_append_left (by omega)]
      exact this
    · have e : k = q := by omega
      subst e
      have hl := pVs_len k
      rw [List.getElem?_append_right (by omega), List.getElem?_append_right (by omega), hl]
      simp [pV]
def PRow (B : Nat) (w : World) (v : Value) (m : Nat) : Prop := w.ownsRow B 32 2 v m (pVs m)
theorem Try.infoP : (Try.prog.info? 32).map (fun i => (i.zero, i.size, i.bytes)) = some (some (.agg #[.int .i64 0, .int .i64 0]), 2, 16) := by kernel_rfl
/-- A place in a block. -/
def PB (w : World) (b : Nat) (x y : Int) : Prop := w.heap[b]? = some (.cells #[.int .i64 x, .int .i64 y] 32)
theorem PB.c0 {w : World} {b : Nat} {x y : Int} (h : PB w b x y) : w.cell? ⟨b, 0, none⟩ = some (.int .i64 x) := Lib.cell_of_heap h 0
theorem PB.c1 {w : World} {b : Nat} {x y : Int} (h : PB w b x y) : w.cell? ⟨b, 1, none⟩ = some (.int .i64 y) := Lib.cell_of_heap h 1
theorem PB.f {w : World} {b : Nat} {x y : Int} (h : PB w b x y) (i : Nat) : w.frozen? ⟨b, i, none⟩ = false := Lib.frozen_of_heap h i

theorem PB.set2 {w : World} {b : Nat} {x y : Int} (h : PB w b x y) (x' y' : Int) : PB ((w.setCell ⟨b, 0, none⟩ (.int .i64 x')).setCell ⟨b, 1, none⟩ (.int .i64 y')) b x' y' := by
  unfold PB
  rw [Go.Joins.block_setCell (Go.Joins.block_setCell h _) _]
  rfl
theorem set2_ne {w : World} {b g : Nat} {u v : Value} (h : g ≠ b) : ((w.setCell ⟨b, 0, none⟩ u).setCell ⟨b, 1, none⟩ v).heap[g]? = w.heap[g]? := (set_ne h).trans (set_ne h)
theorem below_set2 {W w : World} {B b : Nat} {u v : Value} (h : Below B W w) (hb : B ≤ b) : Below B W ((w.setCell ⟨b, 0, none⟩ u).setCell ⟨b, 1, none⟩ v) := (h.setCell hb _).setCell hb _
theorem set2_size {w : World} {b : Nat} {u v : Value} : ((w.setCell ⟨b, 0, none⟩ u).setCell ⟨b, 1, none⟩ v).heap.size = w.heap.size := by rw [set_size, set_size]

set_option maxHeartbeats 8000000 in
set_option maxRecDepth 100000 in
theorem rSpiral_is (n : Int) (w : World) :
    Calls Try.prog 7 #[.int .i64 n] w fun e w' => ∃ v, e = .returned v ∧ PRow w.heap.size w' v (spM n) ∧ Below w.heap.size w w' := by
  obtain ⟨i0, hi0, hz0, hz1, hz2⟩ := info_parts Try.infoP
  have HI0 := hid hi0
  have HZ0 := hid hz0
  have HZ1 := hid hz1
  have HZ2 := hid hz2
  clear hi0 hz0 hz1 hz2
  obtain ⟨m, hm⟩ : ∃ m : Nat, m = spM n := ⟨_, rfl⟩
  have hm1 : min (max n 0) 100 = (m : Int) := by rw [hm]; unfold spM; omega
  have hm100 : m ≤ 100 := by omega
  have HM := hid hm
  clear hm
  go_enter Try.func7, Try.ntmps7
  go_wp2_with fail
  obtain ⟨W0, hW0⟩ : ∃ W0, ((w.alloc (.cells #[.int .i64 0, .int .i64 0] 32)).alloc (.cells #[.int .i64 1, .int .i64 0] 32)) = W0 := ⟨_, rfl⟩
  have P4 : Hid (PB W0 w.heap.size 0 0) := by
    show _ = _
    rw [← hW0, alloc_at, if_neg (by simp only [alloc_size]; omega), alloc_at, if_pos rfl]
  have P5 : Hid (PB W0 (w.heap.size + 1) 1 0) := by
    show _ = _
    rw [← hW0, alloc_at, if_pos (by simp only [alloc_size])]
  have B0 : Hid (Below w.heap.size w W0) := by
    show Below _ _ _
    rw [← hW0]
    exact ((Below.refl _ _).alloc (Nat.le_refl _) _).alloc (by simp only [alloc_size]; omega) _
  have Z0 : Hid (W0.heap.size = w.heap.size + 1 + 1) := by
    show _ = _
    rw [← hW0, alloc_size, alloc_size]
  have z0 : w.heap.size + 1 < W0.heap.size := by have := Z0.out; omega
  rw [hW0]
  clear hW0
  go_loopg [3, 6] (m + 1) (fun gg out run wr => ∃ (j q : Nat) (x : Int), run = .int .i64 x ∧ Aside (m + 1 - j ≤ gg ∧ j ≤ m + 20 ∧ q = min j m ∧ x = ((ppA j).2.2.2 : Int) + 2 ∧ (ppA j).2.2.1 = 1 + (ppA j).2.2.2 / 2) ∧ Aside (PRow W0.heap.size wr out q) ∧ Aside (PB wr w.heap.size (plX j) (plY j)) ∧ Aside (PB wr (w.heap.size + 1) (ppA j).2.1.1 (ppA j).2.1.2) ∧ Aside (Below w.heap.size w wr ∧ W0.heap.size ≤ wr.heap.size))
  case atStart => exact ⟨0, 0, 2, rfl, (⟨by omega, by omega, by simp, rfl, rfl⟩ : _ ∧ _ ∧ _ ∧ _ ∧ _), World.ownsRow_nil _ _ _ _, P4.out, P5.out, (⟨B0.out, Nat.le_refl _⟩ : _ ∧ _)⟩
  case round =>
    obtain ⟨j, q, x, rfl, J, RQ, A4, A5, BR⟩ := hrel
    obtain ⟨oa, oc, hov⟩ := own_slice RQ.out
    subst hov
    by_cases hlt : q < m
    · have hlti : (q : Int) < m := by omega
      have hjm : j < m := by have := J.out; omega
      have R := hid (pp_range j (by omega))
      obtain ⟨L, hL⟩ : ∃ L, L = (ppA j).2.2.1 := ⟨_, rfl⟩
      have HL := hid hL
      have hL20 : L ≤ 20 := by have := R.out; omega
      have hx2 : wrap64 (x.tdiv 2) = (L : Int) := by
        have h1 := J.out
        have h2 := R.out
        have e : x.tdiv 2 = (L : Int) := by
          rw [Int.tdiv_eq_ediv_of_nonneg (by omega)]
          omega
        rw [e]; unfold wrap64; omega
      have hx3 : wrap64 (x + 1) = x + 1 := by
        have h1 := J.out
        have h2 := R.out
        unfold wrap64; omega
      have PIN := hid (pp_in j)
      have PEND := hid (pp_end j)
      rw [← hL] at PIN PEND
      clear hL
      obtain ⟨sx, hsx⟩ : ∃ sx, sx = (ppA j).2.1.1 := ⟨_, rfl⟩
      obtain ⟨sy, hsy⟩ : ∃ sy, sy = (ppA j).2.1.2 := ⟨_, rfl⟩
      have HSX := hid hsx
      have HSY := hid hsy
      have hsr : -1 ≤ sx ∧ sx ≤ 1 ∧ -1 ≤ sy ∧ sy ≤ 1 := by have := R.out; omega
      rw [← hsx, ← hsy] at A5
      clear hsx hsy
      rename World => wo
      go_wp2_with fail
      rw [hx2]
      go_loopg [3, 20] L (fun gg out i wi => ∃ (k r : Nat), k ≤ L ∧ L - k ≤ gg ∧ i = .int .i64 k ∧ Aside (r = min (j + k) m) ∧ Aside (PRow W0.heap.size wi out r) ∧ Aside (PB wi w.heap.size (plX (j + k)) (plY (j + k))) ∧ Aside (PB wi (w.heap.size + 1) sx sy) ∧ Aside (Below w.heap.size w wi ∧ W0.heap.size ≤ wi.heap.size))
      case atStart => exact ⟨0, q, Nat.zero_le _, by omega, rfl, (by have := J.out; show q = min (j + 0) m; omega), RQ.out, A4.out, A5.out, BR.out⟩
      case round =>
        clear RQ A4 A5 BR
        obtain ⟨k, r, hk, hgk, rfl, RM, RR, C4, C5, BI⟩ := hrel
        obtain ⟨ra, rc, hrv⟩ := own_slice RR.out
        subst hrv
        by_cases hkl : k < L
        · have hkli : (k : Int) < L := by omega
          have R2 := hid (pp_range (j + k) (by omega))
          have hin := hid (PIN.out k hkl)
          have HX : Hid (plX (j + k) + sx = plX (j + (k + 1)) ∧ plY (j + k) + sy = plY (j + (k + 1))) := by
            have h1 := pp_at (j + k)
            have h2 := hin.out
            unfold plX plY
            show _ = (ppA (j + k + 1)).1.1 ∧ _ = (ppA (j + k + 1)).1.2
            rw [h1, h2, HSX.out, HSY.out]
            exact ⟨rfl, rfl⟩
          have hxr : -30 ≤ plX (j + k) ∧ plX (j + k) ≤ 30 ∧ -30 ≤ plY (j + k) ∧ plY (j + k) ≤ 30 := by have := R2.out; unfold plX plY; omega
          obtain ⟨X, hXe⟩ : ∃ X, X = plX (j + k) := ⟨_, rfl⟩
          obtain ⟨Y, hYe⟩ : ∃ Y, Y = plY (j + k) := ⟨_, rfl⟩
          have HXY : Hid (X = plX (j + k) ∧ Y = plY (j + k)) := ⟨hXe, hYe⟩
          rw [← hXe, ← hYe] at C4 hxr HX
          clear hXe hYe
          have hX : wrap64 (X + sx) = X + sx := by unfold wrap64; omega
          have hY : wrap64 (Y + sy) = Y + sy := by unfold wrap64; omega
          have sI := BI.out.2
          by_cases hrm : r < m
          · have hrmi : (r : Int) < m := by omega
            have d0 := C4.out.c0
            have d1 := C4.out.c1
            have hlt4 := blt C4.out
            go_wp2_with (at_builtin; refine wpList_append_lies _ rfl _ _ 25 rfl W0.heap.size 32 i0 _ 2 16 Try.underlying25 HI0.out HZ0.out HZ1.out HZ2.out rfl (by decide) (.slice ra r rc) r (pVs r) rfl (RR.out.alloc _) ⟨wr.heap.size, 0, none⟩ 1 1 [.int .i64 X, .int .i64 Y] rfl rfl (World.news_of_block (cs := #[.int .i64 X, .int .i64 Y]) (t := 32) (fr := (0, 0)) (by rw [alloc_at, if_pos rfl])) (by simp [Value.oneCell']) (by decide) (by unfold maxLen; omega) (by omega) (by rw [alloc_size]; omega) (wr.heap.size + 1) (by simp) ?_; intro g8 cap8 w8 hown hgrow hat hglt; have O8 := hid hown; have B8 := hid (push_b (by omega) (Below.refl W0.heap.size wr) RR.out hgrow); have s8 : wr.heap.size ≤ w8.heap.size := B8.out.size; clear hown hgrow hat hglt d0 d1; have E4 : Hid (PB w8 w.heap.size X Y) := (B8.out.block _ (by omega)).trans C4.out; have E5 : Hid (PB w8 (w.heap.size + 1) sx sy) := (B8.out.block _ (by omega)).trans C5.out; have e0 := E4.out.c0; have e1 := E4.out.c1; have e2 := E5.out.c0; have e3 := E5.out.c1; have e4 := E4.out.f 0; have e5 := E4.out.f 1)
            go_roundg (L - (k + 1))
            case measure => omega
            case rel =>
              refine ⟨k + 1, r + 1, by omega, by omega, by go_num, ?_, ?_, ?_, ?_, ?_⟩
              · have := RM.out
                show r + 1 = min (j + (k + 1)) m
                omega
              · have e : Hid (PRow W0.heap.size w8 (.slice (some ⟨g8, 0, none⟩) (r + 1) cap8) (r + 1)) := by
                  show World.ownsRow _ _ _ _ _ _ _
                  rw [pVs_succ]
                  have er : r = j + k := by have := RM.out; omega
                  have h8 := O8.out
                  rw [HXY.out.1, HXY.out.2, ← er] at h8
                  exact h8
                exact own_same e.out (fun g hg => set2_ne (by have := (own_block e.out hg).1; omega))
              · have := E4.out.set2 (X + sx) (Y + sy)
                rw [← HX.out.1, ← HX.out.2]
                exact this
              · exact (set2_ne (by omega)).trans E5.out
              · show _ ∧ _; exact ⟨below_set2 (BI.out.1.trans (B8.out.mono (by omega))) (Nat.le_refl _), by rw [set2_size]; omega⟩
          · have hrmi : ¬ (r : Int) < m := by omega
            have e0 := C4.out.c0
            have e1 := C4.out.c1
            have e2 := C5.out.c0
            have e3 := C5.out.c1
            have e4 := C4.out.f 0
            have e5 := C4.out.f 1
            go_wp2_with fail
            go_roundg (L - (k + 1))
            case measure => omega
            case rel =>
              refine ⟨k + 1, r, by omega, by omega, by go_num, ?_, ?_, ?_, ?_, ?_⟩
              · have := RM.out
                show r = min (j + (k + 1)) m
                omega
              · exact own_same RR.out (fun g hg => set2_ne (by have := (own_block RR.out hg).1; omega))
              · have := C4.out.set2 (X + sx) (Y + sy)
                rw [← HX.out.1, ← HX.out.2]
                exact this
              · exact (set2_ne (by omega)).trans C5.out
              · show _ ∧ _; exact ⟨below_set2 BI.out.1 (Nat.le_refl _), by rw [set2_size]; omega⟩
        · have hkli : ¬ (k : Int) < L := by omega
          have e : k = L := by omega
          subst e
          have e2 := C5.out.c0
          have e3 := C5.out.c1
          have e4 := C5.out.f 0
          have e5 := C5.out.f 1
          have hneg : wrap64 (-sy) = -sy := by unfold wrap64; omega
          go_wp2_with fail
          go_roundg (m + 1 - (j + k))
          case measure => have := J.out; have := R.out; have := HL.out; omega
          case rel =>
            have hend := PEND.out (by have := R.out; have := HL.out; omega)
            refine ⟨j + k, r, x + 1, by go_num, ?_, ?_, ?_, ?_, ?_⟩
            · have h1 := J.out
              have h2 := RM.out
              have h3 := R.out
              have h4 := HL.out
              have h5 : (ppA (j + k)).2.2.2 = (ppA j).2.2.2 + 1 := by rw [hend]
              have h6 : (ppA (j + k)).2.2.1 = 1 + ((ppA j).2.2.2 + 1) / 2 := by rw [hend]
              show _ ∧ _ ∧ _ ∧ _ ∧ _
              exact ⟨Nat.le_refl _, by omega, by omega, by omega, by omega⟩
            · exact own_same RR.out (fun g hg => set2_ne (by have := (own_block RR.out hg).1; omega))
            · exact (set2_ne (by omega)).trans C4.out
            · have h5 : (ppA (j + k)).2.1 = (-(ppA j).2.1.2, (ppA j).2.1.1) := by rw [hend]
              rw [h5, ← HSX.out, ← HSY.out]
              exact C5.out.set2 _ _
            · show _ ∧ _; exact ⟨below_set2 BI.out.1 (Nat.le_succ _), by rw [set2_size]; exact BI.out.2⟩
    · have hlti : ¬ (q : Int) < m := by omega
      go_wp2_with fail
      go_ret
      refine ⟨_, rfl, ?_, BR.out.1⟩
      have e : q = m := by have := J.out; omega
      rw [← HM.out, ← e]
      exact own_mono RQ.out (by omega)
end Go.Proofs.Ytjkbjnmekbhllaa
