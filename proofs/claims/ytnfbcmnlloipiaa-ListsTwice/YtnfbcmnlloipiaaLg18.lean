/-
  trusted, Trace and Anomalies where something is told.
-/
import Derived.Test.YtnfbcmnlloipiaaLg17
namespace Go.Proofs.Ytnfbcmnlloipiaa
set_option linter.unusedVariables false
set_option linter.unusedSimpArgs false
open Go.RowKit Go.Lib Go.Maps
open Tx (MTxn OpsOwn RowsIn.cells)

/-- The look in its new block, and its anomalies. -/
theorem look_boxed {l : List MTxn} (hG : Good l) {s : ByteArray} {w0 w1 : World} {R : List MRd} {t2 : Nat} {ta : Option Addr} {tc n : Nat} {rv : Value} {sb : Nat} (ho : w1.ownsRow w0.heap.size 77 3 rv R.length (rdC R)) (hr : RdsD (fun b => w0.heap.size ≤ b) w1 R (rdsN l s (notes l l.length))) (hi : IntsIn (fun b => w0.heap.size ≤ b) w1 (.slice ta (knwN l s (notes l l.length)).ts.length tc) (knwN l s (notes l l.length)).ts) (hs : Sc w1 sb n (srcN l s (notes l l.length))) : Calls Try.prog 42 #[.pointer (some ⟨w1.heap.size, 0, none⟩)] (w1.alloc (.cells #[.string s, rv, .int .i64 (knwN l s (notes l l.length)).ti, .int .i64 t2, .slice ta (knwN l s (notes l l.length)).ts.length tc, .map (some sb)] 80)) fun e w' => ∃ v, e = .returned v ∧ w'.ownsRow (w1.heap.size + 1 + 1) 85 9 v (anoN l s).length (ansC (anoN l s)) ∧ Below (w1.alloc (.cells #[.string s, rv, .int .i64 (knwN l s (notes l l.length)).ti, .int .i64 t2, .slice ta (knwN l s (notes l l.length)).ts.length tc, .map (some sb)] 80)).heap.size (w1.alloc (.cells #[.string s, rv, .int .i64 (knwN l s (notes l l.length)).ti, .int .i64 t2, .slice ta (knwN l s (notes l l.length)).ts.length tc, .map (some sb)] 80)) w' := by
  have bb := below_box w1 (.cells #[.string s, rv, .int .i64 (knwN l s (notes l l.length)).ti, .int .i64 t2, .slice ta (knwN l s (notes l l.length)).ts.length tc, .map (some sb)] 80)
  obtain ⟨F, hF, _⟩ := id hs
  have h := anoms_is l hG s w0.heap.size w1.heap.size sb n rv R t2 ta tc _ ⟨heap_alloc_new w1 (.cells #[.string s, rv, .int .i64 (knwN l s (notes l l.length)).ti, .int .i64 t2, .slice ta (knwN l s (notes l l.length)).ts.length tc, .map (some sb)] 80), own_same ho (fun g hg => bb.block g (own_block ho hg).2.1)⟩ (hr.rds.later bb) ((hi.keep (fun _ _ _ => rfl) (fun _ _ _ => trivial)).below bb) (hs.same (bb.block sb hF.lt))
  have e : (w1.alloc (.cells #[.string s, rv, .int .i64 (knwN l s (notes l l.length)).ti, .int .i64 t2, .slice ta (knwN l s (notes l l.length)).ts.length tc, .map (some sb)] 80)).heap.size + 1 = w1.heap.size + 1 + 1 := by rw [alloc_size]
  rw [e] at h
  exact h
set_option maxHeartbeats 4000000 in
set_option maxRecDepth 100000 in
theorem anom_yes (B tb : Nat) (l : List MTxn) (s : ByteArray) (w : World) (h : Made B w tb l) (hs : s.size ≤ maxLen) (hG : Good l) (hT : tellN l s) : Calls Try.prog 15 #[.pointer (some ⟨tb, 0, none⟩), .string s] w fun e w' => ∃ v, e = .returned v ∧ w'.ownsRow w.heap.size 85 9 v (anoN l s).length (ansC (anoN l s)) ∧ Below w.heap.size w w' := by
  have LK := hid (look_yes B tb l s w h hs hG.len hG.ten hG.ok hG.wl hT.1 hT.2)
  have HG := hid hG
  clear h hs hG hT
  go_enter Try.func15, Try.ntmps15
  go_wp2_with (first
    | (go_at_call 41; refine LK.out.mono ?_; rintro e w1 ⟨R, t2, ta, tc, n, rv, sb, rfl, ho, hr, hi, hsc, hsb, b1⟩; obtain ⟨ra, rc, hrv⟩ := own_slice ho; subst hrv; have B1 := hid b1; have AN := hid (look_boxed (t2 := t2) HG.out ho hr hi hsc); clear b1 ho hr hi hsc LK)
    | (go_at_call 42; refine AN.out.mono ?_; rintro e w4 ⟨v, rfl, o4, b4⟩; have O4 := hid o4; have B4 := hid b4; clear o4 b4 AN))
  go_ret
  refine ⟨_, rfl, own_base O4.out (by have := B1.out.size; omega), B1.out.trans (((below_box w1 _).trans (B4.out.mono (by rw [alloc_size]; omega))).mono B1.out.size)⟩
set_option maxHeartbeats 4000000 in
set_option maxRecDepth 100000 in
theorem trusted_yes (B tb : Nat) (l : List MTxn) (s : ByteArray) (w : World) (h : Made B w tb l) (hs : s.size ≤ maxLen) (hG : Good l) (hT : tellN l s) (hA : harmB (anoN l s) = true) : Calls Try.prog 34 #[.pointer (some ⟨tb, 0, none⟩), .string s] w fun e w' => LookY l s w e w' := by
  have LK : ∀ o, Hid (Calls Try.prog 41 #[.pointer (some ⟨tb, 0, none⟩), .string s] (w.alloc o) fun e w' => LookY l s (w.alloc o) e w') := fun o => look_yes B tb l s _ (h.later (below_box w o)) hs hG.len hG.ten hG.ok hG.wl hT.1 hT.2
  have HG := hid hG
  have HA := hid hA
  clear h hs hG hT hA
  go_enter Try.func34, Try.ntmps34
  go_wp2_with (go_at_call 41; refine (LK _).out.mono ?_; rintro e w1 ⟨R, t2, ta, tc, n, rv, sb, rfl, ho, hr, hi, hsc, hsb, b1⟩; obtain ⟨ra, rc, hrv⟩ := own_slice ho; subst hrv; obtain ⟨hs1, y, fz, b1⟩ := box_later b1; have Y := hid y; have B1 := hid b1; have AN := hid (look_boxed (t2 := t2) HG.out ho hr hi hsc); have HO := hid ho; have HR := hid hr; have HI := hid hi; have HS := hid hsc; have HSB := hid hsb; clear b1 y ho hr hi hsc hsb LK)
  refine AN.out.mono ?_
  rintro e w4 ⟨v, rfl, o4, b4⟩
  have HM : Hid (Calls Try.prog 62 #[v] w4 fun e w' => e = .returned (.bool true) ∧ Below w4.heap.size w4 w') := by
    have h := harmless_is _ v (anoN l s) w4 o4 (by have := anoN_len HG.out s; omega)
    rw [HA.out] at h
    exact h
  obtain ⟨hs4, ky, kfz, b14⟩ := box_later b4
  have KY := hid ky
  have B4 := hid b14
  clear AN o4 b4 ky kfz b14
  go_wp2_with (go_at_call 62; refine HM.out.mono ?_; rintro e w5 ⟨rfl, b5⟩; have B5 := hid (B4.out.trans (b5.mono B4.out.size)); have n5 : ∀ i, w5.cell? ⟨w1.heap.size, i, none⟩ = w4.cell? ⟨w1.heap.size, i, none⟩ := (fun i => b5.cell (p := ⟨w1.heap.size, i, none⟩) hs4); have z0 := (n5 0).trans (KY.out 0); have z1 := (n5 1).trans (KY.out 1); have z2 := (n5 2).trans (KY.out 2); have z3 := (n5 3).trans (KY.out 3); have z4 := (n5 4).trans (KY.out 4); have z5 := (n5 5).trans (KY.out 5); have m5 : ∀ i, w5.cell? ⟨w.heap.size, i, none⟩ = w1.cell? ⟨w.heap.size, i, none⟩ := (fun i => B5.out.cell (p := ⟨w.heap.size, i, none⟩) hs1); have y0 := (m5 0).trans (Y.out 0); have y1 := (m5 1).trans (Y.out 1); have y2 := (m5 2).trans (Y.out 2); have y3 := (m5 3).trans (Y.out 3); have y4 := (m5 4).trans (Y.out 4); have y5 := (m5 5).trans (Y.out 5); simp only [List.getElem?_toArray, List.getElem?_cons_zero, List.getElem?_cons_succ] at y0 y1 y2 y3 y4 y5 z0 z1 z2 z3 z4 z5; have fz5 : ∀ i, w5.frozen? ⟨w.heap.size, i, none⟩ = false := (fun i => (B5.out.frozen (p := ⟨w.heap.size, i, none⟩) hs1).trans (fz i)); clear b5 n5 m5 KY Y HM)
  have hz : ∀ b, b ≠ w.heap.size → ∀ (i0 i1 i2 i3 i4 i5 : Value), ((((((w5.setCell ⟨w.heap.size, 0, none⟩ i0).setCell ⟨w.heap.size, 1, none⟩ i1).setCell ⟨w.heap.size, 2, none⟩ i2).setCell ⟨w.heap.size, 3, none⟩ i3).setCell ⟨w.heap.size, 4, none⟩ i4).setCell ⟨w.heap.size, 5, none⟩ i5).heap[b]? = w5.heap[b]? := fun b hb i0 i1 i2 i3 i4 i5 => by
    rw [set_ne hb, set_ne hb, set_ne hb, set_ne hb, set_ne hb, set_ne hb]
  have hsz : ∀ o, (w.alloc o).heap.size = w.heap.size + 1 := fun o => alloc_size w o
  have hw1 := HSB.out
  refine bodyPost_ret (v := .tuple #[lkV s (.slice ra R.length rc) (knwN l s (notes l l.length)).ti t2 ta (knwN l s (notes l l.length)).ts.length tc sb, .bool true]) (by simp [results, Try.results34, go_sem, y0, y1, y2, y3, y4, y5]) rfl ?_
  have hb5 : ∀ b, b < w1.heap.size → b ≠ w.heap.size → ∀ (i0 i1 i2 i3 i4 i5 : Value), ((((((w5.setCell ⟨w.heap.size, 0, none⟩ i0).setCell ⟨w.heap.size, 1, none⟩ i1).setCell ⟨w.heap.size, 2, none⟩ i2).setCell ⟨w.heap.size, 3, none⟩ i3).setCell ⟨w.heap.size, 4, none⟩ i4).setCell ⟨w.heap.size, 5, none⟩ i5).heap[b]? = w1.heap[b]? := fun b hb hn i0 i1 i2 i3 i4 i5 => (hz b hn _ _ _ _ _ _).trans (B5.out.block b hb)
  have BW : Below w.heap.size w w5 := B1.out.trans (B5.out.mono B1.out.size)
  obtain ⟨F, hF, _⟩ := id HS.out
  refine ⟨R, t2, ta, tc, n, .slice ra R.length rc, sb, rfl, ?_, HR.out.keep (fun b hD hb => hb5 b hb (by have : (w.alloc _).heap.size ≤ b := hD; rw [hsz] at this; omega) _ _ _ _ _ _) (fun b _ hD => by have : (w.alloc _).heap.size ≤ b := hD; rw [hsz] at this; show w.heap.size ≤ b; omega), HI.out.keep (fun b hD hb => hb5 b hb (by have : (w.alloc _).heap.size ≤ b := hD; rw [hsz] at this; omega) _ _ _ _ _ _) (fun b _ hD => by have : (w.alloc _).heap.size ≤ b := hD; rw [hsz] at this; show w.heap.size ≤ b; omega), HS.out.same (hb5 sb hF.lt (by rw [hsz] at hw1; omega) _ _ _ _ _ _), by rw [hsz] at hw1; omega, ?_⟩
  · refine own_base (own_same HO.out (fun g hg => ?_)) (by rw [hsz]; omega)
    have := own_block HO.out hg
    rw [hsz] at this
    exact hb5 g this.2.1 (by omega) _ _ _ _ _ _
  · exact (((((BW.setCell (Nat.le_refl _) _).setCell (Nat.le_refl _) _).setCell (Nat.le_refl _) _).setCell (Nat.le_refl _) _).setCell (Nat.le_refl _) _).setCell (Nat.le_refl _) _
set_option maxHeartbeats 4000000 in
set_option maxRecDepth 100000 in
theorem trusted_bad (B tb : Nat) (l : List MTxn) (s : ByteArray) (w : World) (h : Made B w tb l) (hs : s.size ≤ maxLen) (hG : Good l) (hT : tellN l s) (hA : harmB (anoN l s) = false) : Calls Try.prog 34 #[.pointer (some ⟨tb, 0, none⟩), .string s] w fun e w' => e = .returned (.tuple #[noLook, .bool false]) ∧ Below w.heap.size w w' := by
  have LK : ∀ o, Hid (Calls Try.prog 41 #[.pointer (some ⟨tb, 0, none⟩), .string s] (w.alloc o) fun e w' => LookY l s (w.alloc o) e w') := fun o => look_yes B tb l s _ (h.later (below_box w o)) hs hG.len hG.ten hG.ok hG.wl hT.1 hT.2
  have HG := hid hG
  have HA := hid hA
  clear h hs hG hT hA
  go_enter Try.func34, Try.ntmps34
  go_wp2_with (go_at_call 41; refine (LK _).out.mono ?_; rintro e w1 ⟨R, t2, ta, tc, n, rv, sb, rfl, ho, hr, hi, hsc, hsb, b1⟩; obtain ⟨ra, rc, hrv⟩ := own_slice ho; subst hrv; obtain ⟨hs1, y, fz, b1⟩ := box_later b1; have Y := hid y; have B1 := hid b1; have AN := hid (look_boxed (t2 := t2) HG.out ho hr hi hsc); clear b1 y ho hr hi hsc hsb LK)
  refine AN.out.mono ?_
  rintro e w4 ⟨v, rfl, o4, b4⟩
  have HM : Hid (Calls Try.prog 62 #[v] w4 fun e w' => e = .returned (.bool false) ∧ Below w4.heap.size w4 w') := by
    have h := harmless_is _ v (anoN l s) w4 o4 (by have := anoN_len HG.out s; omega)
    rw [HA.out] at h
    exact h
  obtain ⟨hs4, ky, kfz, b14⟩ := box_later b4
  have B4 := hid b14
  clear AN o4 b4 ky kfz b14
  go_wp2_with (go_at_call 62; refine HM.out.mono ?_; rintro e w5 ⟨rfl, b5⟩; have B5 := hid (B4.out.trans (b5.mono B4.out.size)); have m5 : ∀ i, w5.cell? ⟨w.heap.size, i, none⟩ = w1.cell? ⟨w.heap.size, i, none⟩ := (fun i => B5.out.cell (p := ⟨w.heap.size, i, none⟩) hs1); have y0 := (m5 0).trans (Y.out 0); have y1 := (m5 1).trans (Y.out 1); have y2 := (m5 2).trans (Y.out 2); have y3 := (m5 3).trans (Y.out 3); have y4 := (m5 4).trans (Y.out 4); have y5 := (m5 5).trans (Y.out 5); simp only [List.getElem?_toArray, List.getElem?_cons_zero, List.getElem?_cons_succ] at y0 y1 y2 y3 y4 y5; have fz5 : ∀ i, w5.frozen? ⟨w.heap.size, i, none⟩ = false := (fun i => (B5.out.frozen (p := ⟨w.heap.size, i, none⟩) hs1).trans (fz i)); clear b5 m5 Y HM)
  rw [Tx.setCell_self y0, Tx.setCell_self y1, Tx.setCell_self y2, Tx.setCell_self y3, Tx.setCell_self y4, Tx.setCell_self y5]
  exact bodyPost_ret (v := .tuple #[noLook, .bool false]) (by simp [results, Try.results34, go_sem, y0, y1, y2, y3, y4, y5]) rfl ⟨rfl, B1.out.trans (B5.out.mono B1.out.size)⟩
/-- What Trace answers. -/
def okN (l : List MTxn) (s : ByteArray) : Prop := tellN l s ∧ harmB (anoN l s) = true
theorem trusted_not (B tb : Nat) (l : List MTxn) (s : ByteArray) (w : World) (h : Made B w tb l) (hs : s.size ≤ maxLen) (hG : Good l) (hn : ¬ okN l s) : Untrue (.pointer (some ⟨tb, 0, none⟩)) s w := by
  intro W hb
  by_cases hT : tellN l s
  · refine trusted_bad B tb l s W (h.later hb) hs hG hT ?_
    cases hc : harmB (anoN l s) with
    | false => rfl
    | true => exact absurd ⟨hT, hc⟩ hn
  · exact trusted_un _ s W (fun W' hb' => look_un B tb l s W' ((h.later hb).later hb') hs hT)
set_option maxHeartbeats 2000000 in
set_option maxRecDepth 100000 in
theorem trace_yes (B tb : Nat) (l : List MTxn) (s : ByteArray) (w : World) (h : Made B w tb l) (hs : s.size ≤ maxLen) (hG : Good l) (ho : okN l s) : Calls Try.prog 12 #[.pointer (some ⟨tb, 0, none⟩), .string s] w fun e w' => ∃ ta tc, e = .returned (.tuple #[.slice ta (knwN l s (notes l l.length)).ts.length tc, .bool true]) ∧ IntsIn (fun b => w.heap.size ≤ b) w' (.slice ta (knwN l s (notes l l.length)).ts.length tc) (knwN l s (notes l l.length)).ts ∧ Below w.heap.size w w' := by
  have TR := hid (trusted_yes B tb l s w h hs hG ho.1 ho.2)
  clear h ho
  go_enter Try.func12, Try.ntmps12
  go_wp2_with (go_at_call 34; refine TR.out.mono ?_; rintro e w1 ⟨R, t2, ta, tc, n, rv, sb, rfl, ho, hr, hi, hsc, hsb, b1⟩; obtain ⟨ra, rc, hrv⟩ := own_slice ho; subst hrv; have B1 := hid b1; have HI := hid hi; clear b1 TR ho hr hi hsc hsb)
  go_ret2
  exact ⟨ta, tc, rfl, HI.out.keep (fun b _ hb => (below_box w1 _).block b hb) (fun _ _ h => h), B1.out.trans ((below_box w1 _).mono B1.out.size)⟩
end Go.Proofs.Ytnfbcmnlloipiaa
