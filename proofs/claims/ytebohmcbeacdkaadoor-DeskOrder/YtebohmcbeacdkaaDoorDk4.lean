/-
  Walk of the document's Parse of options.
-/
import Derived.Test.YtebohmcbeacdkaaDoorDk3
namespace Go.Proofs.YtebohmcbeacdkaaDoor
set_option linter.unusedVariables false
set_option linter.unusedSimpArgs false
open Go.RowKit

/-- The box of options. -/
structure OB (ob : Nat) (w : World) (o : MOpt) : Prop where
  c0 : w.cell? ⟨ob, 0, none⟩ = some (.bool o.real)
  c1 : w.cell? ⟨ob, 1, none⟩ = some (.bool o.search)
  c2 : w.cell? ⟨ob, 2, none⟩ = some (.int .i64 o.steps)
  z0 : w.frozen? ⟨ob, 0, none⟩ = false
  z1 : w.frozen? ⟨ob, 1, none⟩ = false
  z2 : w.frozen? ⟨ob, 2, none⟩ = false
section
variable {ob : Nat} {w : World} {o : MOpt}
theorem OB.new (w : World) : OB w.heap.size (w.alloc (.cells #[.bool false, .bool false, .int .i64 0] 23)) MOpt.none :=
  ⟨by simp [MOpt.none], by simp [MOpt.none], by simp [MOpt.none], by simp, by simp, by simp⟩
theorem OB.same {w' : World} (h : OB ob w o) (hb : w'.heap[ob]? = w.heap[ob]?) : OB ob w' o := by
  have k : ∀ i, w'.cell? ⟨ob, i, none⟩ = w.cell? ⟨ob, i, none⟩ := fun i => World.cell?_of_block (w := w) hb
  have f : ∀ i, w'.frozen? ⟨ob, i, none⟩ = w.frozen? ⟨ob, i, none⟩ := fun i => by unfold World.frozen?; rw [hb]
  exact ⟨(k 0).trans h.c0, (k 1).trans h.c1, (k 2).trans h.c2, (f 0).trans h.z0, (f 1).trans h.z1, (f 2).trans h.z2⟩
theorem OB.lt (h : OB ob w o) : ob < w.heap.size := World.block_lt_of_cell? _ _ h.c0
theorem OB.set0 (h : OB ob w o) (u : Bool) : OB ob (w.setCell ⟨ob, 0, none⟩ (.bool u)) { o with real := u } :=
  ⟨World.cell?_setCell_same _ _ _ h.c0, (World.cell?_setCell_other _ _ _ _ (by simp)).trans h.c1, (World.cell?_setCell_other _ _ _ _ (by simp)).trans h.c2, (World.frozen?_setCell _ _ _ _).trans h.z0, (World.frozen?_setCell _ _ _ _).trans h.z1, (World.frozen?_setCell _ _ _ _).trans h.z2⟩
theorem OB.set1 (h : OB ob w o) (u : Bool) : OB ob (w.setCell ⟨ob, 1, none⟩ (.bool u)) { o with search := u } :=
  ⟨(World.cell?_setCell_other _ _ _ _ (by simp)).trans h.c0, World.cell?_setCell_same _ _ _ h.c1, (World.cell?_setCell_other _ _ _ _ (by simp)).trans h.c2, (World.frozen?_setCell _ _ _ _).trans h.z0, (World.frozen?_setCell _ _ _ _).trans h.z1, (World.frozen?_setCell _ _ _ _).trans h.z2⟩
theorem OB.set2 (h : OB ob w o) (u : Int) : OB ob (w.setCell ⟨ob, 2, none⟩ (.int .i64 u)) { o with steps := u } :=
  ⟨(World.cell?_setCell_other _ _ _ _ (by simp)).trans h.c0, (World.cell?_setCell_other _ _ _ _ (by simp)).trans h.c1, World.cell?_setCell_same _ _ _ h.c2, (World.frozen?_setCell _ _ _ _).trans h.z0, (World.frozen?_setCell _ _ _ _).trans h.z1, (World.frozen?_setCell _ _ _ _).trans h.z2⟩
theorem OB.echo (h : OB ob w o) (u : Bool) : OB ob w { o with echo := u } := ⟨h.c0, h.c1, h.c2, h.z0, h.z1, h.z2⟩
end

/-- What the document's Parse answers. -/
def rparseV : Except (Int × Int) MOpt → Value
  | .ok o => .tuple #[.agg #[.bool o.real, .bool o.search, .int .i64 o.steps], .bool o.echo, .int .i64 0, .int .i64 0]
  | .error (a, y) => .tuple #[.agg #[.bool false, .bool false, .int .i64 0], .bool false, .int .i64 a, .int .i64 y]

/-- The document's way as a whole. -/
def rfin : Except Int MOpt → Except (Int × Int) MOpt
  | .error a => .error (a, 240)
  | .ok o => .ok o
theorem optM_rok {s : ByteArray} {l : List MTok} (h : scanM s = .ok l) : optM s = rfin (rtakes s.size l MOpt.none) := by
  rw [optM_ok h, takes_same _ _ _ (scanM_word h)]
  cases rtakes s.size l MOpt.none <;> rfl

theorem rtakes_at {n : Int} {l : List MTok} {k : Nat} (h : k < l.length) (o : MOpt) : rtakes n (l.drop k) o = (
    if (l.getD k default).1 = 1 then
      if (l.getD k default).2.2.1 = wReal then rtakes n (l.drop (k + 1)) { o with real := true }
      else if (l.getD k default).2.2.1 = wSearch then rtakes n (l.drop (k + 1)) { o with search := true }
      else if (l.getD k default).2.2.1 = wEcho then rtakes n (l.drop (k + 1)) { o with echo := true }
      else if (l.getD k default).2.2.1 = wSteps then
        if k + 1 < l.length then
          if (l.getD (k + 1) default).1 = 2 then rtakes n (l.drop (k + 2)) { o with steps := (l.getD (k + 1) default).2.2.2 } else .error (l.getD (k + 1) default).2.1
        else .error n
      else .error (l.getD k default).2.1
    else .error (l.getD k default).2.1) := by
  rw [List.drop_eq_getElem_cons h]
  rw [show l.getD k default = l[k] by simp [List.getD, List.getElem?_eq_getElem h]]
  by_cases h2 : k + 1 < l.length
  · rw [if_pos h2, List.drop_eq_getElem_cons h2]
    rw [show l.getD (k + 1) default = l[k + 1] by simp [List.getD, List.getElem?_eq_getElem h2]]
    conv => lhs; rw [rtakes]
  · rw [if_neg h2, List.drop_eq_nil_of_le (show l.length ≤ k + 1 by omega)]
    conv => lhs; rw [rtakes]

set_option maxRecDepth 100000 in
set_option maxHeartbeats 4000000 in
theorem rparse_err (s : ByteArray) (w : World) (a y : Nat) (hS : scanM s = .error (a, y)) (hy : ((y : Int) != 0) = true) :
    Calls Tryd.prog 6 #[.string s] w fun e w' => e = .returned (rparseV (optM s)) ∧ Below w.heap.size w w' := by
  have h9 := refScan_any s (w.alloc (.cells #[.bool false, .bool false, .int .i64 0] 23))
  rw [optM_err hS]
  rw [hS] at h9
  have H9 := hidD h9
  clear h9 hS
  go_enter Tryd.func6, Tryd.ntmps6
  go_wp2_with fail
  refine H9.out.mono ?_
  rintro e w1 ⟨he, b1⟩
  simp only [RefPost] at he
  subst he
  have hR := (RB.new w).same (b1.block _ (by simp))
  have B1 := hidD ((below_new w (.cells #[.bool false, .bool false, .int .i64 0] 23)).trans (b1.mono (by simp)))
  obtain ⟨g0, g1, g2, z0, z1, z2⟩ := hR
  clear b1
  go_wp2_with fail
  exact bodyPost_ret (v := rparseV (.error ((a : Int), (y : Int)))) (by simp [results, go_sem, g0, g1, g2, rparseV]) rfl ⟨rfl, ((B1.out.setCell (Nat.le_refl _) _).setCell (Nat.le_refl _) _).setCell (Nat.le_refl _) _⟩

set_option maxRecDepth 100000 in
set_option maxHeartbeats 8000000 in
theorem rparse_ok (s : ByteArray) (w : World) (l : List MTok) (hS : scanM s = .ok l) :
    Calls Tryd.prog 6 #[.string s] w fun e w' => e = .returned (rparseV (optM s)) ∧ Below w.heap.size w w' := by
  have h9 := refScan_any s (w.alloc (.cells #[.bool false, .bool false, .int .i64 0] 23))
  have HO := hidD (optM_rok hS)
  rw [hS] at h9
  have H9 := hidD h9
  clear h9 hS
  go_enter Tryd.func6, Tryd.ntmps6
  go_wp2_with fail
  refine H9.out.mono ?_
  rintro e w1 ⟨⟨v1, rfl, t1⟩, b1⟩
  have HR := hidD ((RB.new w).same (b1.block _ (by simp)))
  have B1 := hidD ((below_new w (.cells #[.bool false, .bool false, .int .i64 0] 23)).trans (b1.mono (by simp)))
  obtain ⟨ao, c, rfl, hlen, hcs⟩ := RowsIn.cells t1 (by omega)
  have HC := hidD hcs
  have hbig : l.length ≤ 140737488355328 := by omega
  have A1 := hidD (OB.new w1)
  have HAO : Hid (0 < l.length → ∃ b f, ao = some ⟨b, f, none⟩ ∧ w.heap.size < b) := fun h0 => by
    obtain ⟨ao', c', hv, _, hh⟩ := t1
    cases hv
    obtain ⟨b, f, e, hS, _⟩ := hh h0
    exact ⟨b, f, e, by simp at hS; omega⟩
  clear t1 b1 hcs hlen
  go_wp2_with fail
  go_loopg [10, 11, 12] l.length (fun g ec i _ wr => ∃ (k : Nat) (o : MOpt), k ≤ l.length ∧ l.length - k ≤ g ∧ i = .int .i64 k ∧ ec = .bool o.echo ∧ Aside (rtakes s.size l MOpt.none = rtakes s.size (l.drop k) o) ∧ Aside (OB w1.heap.size wr o) ∧ Aside (Beside w1.heap.size (w1.alloc (.cells #[.bool false, .bool false, .int .i64 0] 23)) wr))
  case atStart => exact ⟨0, MOpt.none, Nat.zero_le _, by omega, rfl, rfl, rfl, A1.out, Beside.refl _ _⟩
  case round =>
    obtain ⟨k, o, hk, hg, rfl, rfl, HT, HA, HB⟩ := hrel
    have hsz : w1.heap.size + 1 ≤ wr.heap.size := by have := HB.out.size; simpa using this
    have hrl := HR.out.lt
    have cells : ∀ j b f, b < w1.heap.size → (∀ i u, [Value.int .i64 (l.getD j default).1, .int .i64 (l.getD j default).2.1, .string (l.getD j default).2.2.1, .int .i64 (l.getD j default).2.2.2][i]? = some u → w1.cell? ⟨b, f + j * 4 + i, none⟩ = some u) → ∀ (wx : World), wx.heap[b]? = wr.heap[b]? → ∀ i u, [Value.int .i64 (l.getD j default).1, .int .i64 (l.getD j default).2.1, .string (l.getD j default).2.2.1, .int .i64 (l.getD j default).2.2.2][i]? = some u → wx.cell? ⟨b, f + j * 4 + i, none⟩ = some u := fun j b f hb h wx hx i u hi => by
      rw [← h i u hi]
      exact (World.cell?_of_block (w := wr) (a := ⟨b, f + j * 4 + i, none⟩) hx).trans ((World.cell?_of_block (w := (w1.alloc (.cells #[.bool false, .bool false, .int .i64 0] 23))) (a := ⟨b, f + j * 4 + i, none⟩) (HB.out.block b (by simp; omega) (by omega))).trans (World.cell?_of_block (w := w1) (a := ⟨b, f + j * 4 + i, none⟩) ((below_new w1 _).block b hb)))
    by_cases hlt : k < l.length
    · have hlti : (k : Int) < (l.length : Int) := by omega
      obtain ⟨b, f, cs, rfl, hb, _, e1, k1⟩ := HC.out k hlt
      unfold TokRow at e1
      subst e1
      have cc := cells k b f hb k1 wr rfl
      have hst := rtakes_at (n := s.size) hlt o
      have CELLS := hidD cells
      clear cells
      generalize hX : l.getD k default = X at *
      have HX := hidD hX
      clear hX k1
      obtain ⟨x0, x1, x2, x3⟩ := X
      simp only at *
      have d0 : wr.cell? ⟨b, f + k * 4, none⟩ = _ := cc 0 _ rfl
      have d1 := cc 1 _ rfl
      have d2 := cc 2 _ rfl
      have d3 := cc 3 _ rfl
      have HST := hidD (HT.out.trans hst)
      have HB2 := hidD (HB.out.alloc (.cells #[.int .i64 x0, .int .i64 x1, .string x2, .int .i64 x3] 43))
      have HA2 := hidD (HA.out.same (w' := wr.alloc (.cells #[.int .i64 x0, .int .i64 x1, .string x2, .int .i64 x3] 43)) ((below_new wr _).block _ HA.out.lt))
      have hR2 := HR.out.same (w' := wr.alloc (.cells #[.int .i64 x0, .int .i64 x1, .string x2, .int .i64 x3] 43)) ((HB2.out.block _ (by simp; omega) (by omega)).trans ((below_new w1 _).block _ HR.out.lt))
      obtain ⟨g0, g1, g2, z0, z1, z2⟩ := hR2
      obtain ⟨a0, a1, a2, y0, y1, y2⟩ := HA2.out
      have t0 : (wr.alloc (.cells #[.int .i64 x0, .int .i64 x1, .string x2, .int .i64 x3] 43)).cell? ⟨wr.heap.size, 0, none⟩ = some (.int .i64 x0) := by simp
      have t1 : (wr.alloc (.cells #[.int .i64 x0, .int .i64 x1, .string x2, .int .i64 x3] 43)).cell? ⟨wr.heap.size, 1, none⟩ = some (.int .i64 x1) := by simp
      have t2 : (wr.alloc (.cells #[.int .i64 x0, .int .i64 x1, .string x2, .int .i64 x3] 43)).cell? ⟨wr.heap.size, 2, none⟩ = some (.string x2) := by simp
      have n1 : ¬ w.heap.size = wr.heap.size := by omega
      have n2 : ¬ wr.heap.size = w.heap.size := by omega
      have n3 : ¬ w1.heap.size = wr.heap.size := by omega
      have n4 : ¬ wr.heap.size = w1.heap.size := by omega
      clear hst cc
      by_cases hk1 : x0 = 1
      · have hk1' : (x0 != 1) = false := by simp [hk1]
        rw [if_pos hk1] at HST
        clear hk1
        by_cases h0 : x2 = wReal
        · rw [if_pos h0] at HST
          have q0 := text_eq x2 [114, 101, 97, 108]
          have p0 := text_eq' x2 [114, 101, 97, 108]
          rw [decide_eq_true (show x2 = ⟨[114, 101, 97, 108].toArray⟩ from h0)] at q0 p0
          clear h0
          go_wp2_with fail
          go_roundg (l.length - (k + 1))
          case measure => omega
          case rel => exact ⟨k + 1, { o with real := true }, by omega, by omega, by go_num, rfl, HST.out, HA2.out.set0 true, HB2.out.setCell (p := ⟨w1.heap.size, 0, none⟩) rfl _⟩
        rw [if_neg h0] at HST
        have q0 := text_eq x2 [114, 101, 97, 108]
        have p0 := text_eq' x2 [114, 101, 97, 108]
        rw [decide_eq_false (show ¬ x2 = ⟨[114, 101, 97, 108].toArray⟩ from h0)] at q0 p0
        clear h0
        by_cases h1 : x2 = wSearch
        · rw [if_pos h1] at HST
          have q1 := text_eq x2 [115, 101, 97, 114, 99, 104]
          have p1 := text_eq' x2 [115, 101, 97, 114, 99, 104]
          rw [decide_eq_true (show x2 = ⟨[115, 101, 97, 114, 99, 104].toArray⟩ from h1)] at q1 p1
          clear h1
          go_wp2_with fail
          go_roundg (l.length - (k + 1))
          case measure => omega
          case rel => exact ⟨k + 1, { o with search := true }, by omega, by omega, by go_num, rfl, HST.out, HA2.out.set1 true, HB2.out.setCell (p := ⟨w1.heap.size, 1, none⟩) rfl _⟩
        rw [if_neg h1] at HST
        have q1 := text_eq x2 [115, 101, 97, 114, 99, 104]
        have p1 := text_eq' x2 [115, 101, 97, 114, 99, 104]
        rw [decide_eq_false (show ¬ x2 = ⟨[115, 101, 97, 114, 99, 104].toArray⟩ from h1)] at q1 p1
        clear h1
        by_cases h2 : x2 = wEcho
        · rw [if_pos h2] at HST
          have q2 := text_eq x2 [101, 99, 104, 111]
          have p2 := text_eq' x2 [101, 99, 104, 111]
          rw [decide_eq_true (show x2 = ⟨[101, 99, 104, 111].toArray⟩ from h2)] at q2 p2
          clear h2
          go_wp2_with fail
          go_roundg (l.length - (k + 1))
          case measure => omega
          case rel => exact ⟨k + 1, { o with echo := true }, by omega, by omega, by go_num, rfl, HST.out, HA2.out.echo true, HB2.out⟩
        rw [if_neg h2] at HST
        have q2 := text_eq x2 [101, 99, 104, 111]
        have p2 := text_eq' x2 [101, 99, 104, 111]
        rw [decide_eq_false (show ¬ x2 = ⟨[101, 99, 104, 111].toArray⟩ from h2)] at q2 p2
        clear h2
        by_cases h3 : x2 = wSteps
        · rw [if_pos h3] at HST
          have q3 := text_eq x2 [115, 116, 101, 112, 115]
          have p3 := text_eq' x2 [115, 116, 101, 112, 115]
          rw [decide_eq_true (show x2 = ⟨[115, 116, 101, 112, 115].toArray⟩ from h3)] at q3 p3
          clear h3
          by_cases h2 : k + 1 < l.length
          · have h2i : ((k : Int) + 1 == (l.length : Int)) = false := by rw [beq_eq_false_iff_ne]; omega
            have h2j : (k : Int) + 1 < (l.length : Int) := by omega
            rw [if_pos h2] at HST
            obtain ⟨b', f', cs, hbf, hb', _, e1, k1⟩ := HC.out (k + 1) h2
            cases hbf
            unfold TokRow at e1
            subst e1
            have cc := CELLS.out (k + 1) b f hb k1 (wr.alloc (.cells #[.int .i64 x0, .int .i64 x1, .string x2, .int .i64 x3] 43)) ((below_new wr _).block b (by omega))
            generalize hU : l.getD (k + 1) default = U at *
            clear hU k1
            obtain ⟨u0, u1, u2, u3⟩ := U
            simp only at *
            have v0 : (wr.alloc (.cells #[.int .i64 x0, .int .i64 x1, .string x2, .int .i64 x3] 43)).cell? ⟨b, f + (k + 1) * 4, none⟩ = _ := cc 0 _ rfl
            have v1 := cc 1 _ rfl
            have v3 := cc 3 _ rfl
            obtain ⟨b2, f2, e2, hS2⟩ := HAO.out (by omega)
            cases e2
            have n5 : ¬ b = w.heap.size := by omega
            have n6 : ¬ w.heap.size = b := by omega
            clear cc
            by_cases hu : u0 = 2
            · have hu' : (u0 != 2) = false := by simp [hu]
              rw [if_pos hu] at HST
              clear hu
              go_wp2_with fail
              go_roundg (l.length - (k + 2))
              case measure => omega
              case rel => exact ⟨k + 2, { o with steps := u3 }, by omega, by omega, by go_num, rfl, HST.out, HA2.out.set2 u3, HB2.out.setCell (p := ⟨w1.heap.size, 2, none⟩) rfl _⟩
            · have hu' : (u0 != 2) = true := by simp [hu]
              rw [if_neg hu] at HST
              clear hu
              have HE : Hid (optM s = .error (u1, 240)) := HO.out.trans (by rw [HST.out]; rfl)
              clear HST
              go_wp2_with fail
              go_region
              go_wp2_with fail
              rw [HE.out]
              exact bodyPost_ret (v := rparseV (.error (u1, 240))) (by simp [results, go_sem, g0, g1, g2, rparseV]) rfl ⟨rfl, below_drewN ((((below_ask B1.out HR.out.lt HB2.out).setCell (Nat.le_refl _) _).setCell (Nat.le_refl _) _).setCell (Nat.le_refl _) _) 1⟩
          · have h2i : ((k : Int) + 1 == (l.length : Int)) = true := by rw [beq_iff_eq]; omega
            rw [if_neg h2] at HST
            have HE : Hid (optM s = .error ((s.size : Int), 240)) := HO.out.trans (by rw [HST.out]; rfl)
            clear HST
            go_wp2_with fail
            rw [HE.out]
            exact bodyPost_ret (v := rparseV (.error ((s.size : Int), 240))) (by simp [results, go_sem, g0, g1, g2, rparseV]) rfl ⟨rfl, ((((below_ask B1.out HR.out.lt HB2.out).setCell (Nat.le_refl _) _).setCell (Nat.le_refl _) _).setCell (Nat.le_refl _) _)⟩
        rw [if_neg h3] at HST
        have q3 := text_eq x2 [115, 116, 101, 112, 115]
        have p3 := text_eq' x2 [115, 116, 101, 112, 115]
        rw [decide_eq_false (show ¬ x2 = ⟨[115, 116, 101, 112, 115].toArray⟩ from h3)] at q3 p3
        clear h3
        have HE : Hid (optM s = .error (x1, 240)) := HO.out.trans (by rw [HST.out]; rfl)
        clear HST
        go_wp2_with fail
        go_region
        go_wp2_with fail
        rw [HE.out]
        exact bodyPost_ret (v := rparseV (.error (x1, 240))) (by simp [results, go_sem, g0, g1, g2, rparseV]) rfl ⟨rfl, below_drewN ((((below_ask B1.out HR.out.lt HB2.out).setCell (Nat.le_refl _) _).setCell (Nat.le_refl _) _).setCell (Nat.le_refl _) _) 1⟩
      · have hk1' : (x0 != 1) = true := by simp [hk1]
        rw [if_neg hk1] at HST
        clear hk1
        have HE : Hid (optM s = .error (x1, 240)) := HO.out.trans (by rw [HST.out]; rfl)
        clear HST
        go_wp2_with fail
        go_region
        go_wp2_with fail
        rw [HE.out]
        exact bodyPost_ret (v := rparseV (.error (x1, 240))) (by simp [results, go_sem, g0, g1, g2, rparseV]) rfl ⟨rfl, below_drewN ((((below_ask B1.out HR.out.lt HB2.out).setCell (Nat.le_refl _) _).setCell (Nat.le_refl _) _).setCell (Nat.le_refl _) _) 1⟩
    · have hnlt : ¬ (k : Int) < (l.length : Int) := by omega
      have HF : Hid (rtakes s.size l MOpt.none = .ok o) := HT.out.trans (by rw [List.drop_eq_nil_of_le (by omega)]; rfl)
      have hR := HR.out.same (w' := wr) ((HB.out.block _ (by simp; omega) (by omega)).trans ((below_new w1 _).block _ HR.out.lt))
      obtain ⟨g0, g1, g2, z0, z1, z2⟩ := hR
      obtain ⟨c0, c1, c2, -, -, -⟩ := HA.out
      have n1 : ¬ w.heap.size = w1.heap.size := by omega
      have n2 : ¬ w1.heap.size = w.heap.size := by omega
      have HE : Hid (optM s = .ok o) := HO.out.trans (by rw [HF.out]; rfl)
      obtain ⟨o0, o1, o2, o3⟩ := o
      simp only at c0 c1 c2
      clear cells
      go_wp2_with fail
      rw [HE.out]
      exact bodyPost_ret (v := rparseV (.ok ⟨o0, o1, o2, o3⟩)) (by simp [results, go_sem, g0, g1, g2, rparseV]) rfl ⟨rfl, ((((below_ask B1.out HR.out.lt HB.out).setCell (Nat.le_refl _) _).setCell (Nat.le_refl _) _).setCell (Nat.le_refl _) _)⟩
end Go.Proofs.YtebohmcbeacdkaaDoor
