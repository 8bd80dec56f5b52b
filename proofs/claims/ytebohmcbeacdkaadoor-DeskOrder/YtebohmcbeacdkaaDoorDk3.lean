/-
  Walk of desk's Parse, where the text has tokens.
-/
import Derived.Test.YtebohmcbeacdkaaDoorDk2
namespace Go.Proofs.YtebohmcbeacdkaaDoor
set_option linter.unusedVariables false
set_option linter.unusedSimpArgs false
open Go.RowKit

theorem Beside.same {bx : Nat} {w w' : World} (h : Beside bx w w') (k : Nat) (hk : k < w.heap.size) (hn : k ≠ bx) : w'.heap[k]? = w.heap[k]? := h.block k hk hn
theorem Beside.alloc {bx : Nat} {w w' : World} (h : Beside bx w w') (o : Obj) : Beside bx w (w'.alloc o) := by
  have hb := below_new w' o
  exact ⟨hb.os.trans h.os, hb.tape.trans h.tape, hb.output.trans h.output, Nat.le_trans h.size hb.size, fun k hk hn => (hb.block k (Nat.lt_of_lt_of_le hk h.size)).trans (h.block k hk hn)⟩

theorem below_ask {B : Nat} {w w1 w2 : World} {o : Obj} (h : Below B w w1) (hB : B < w1.heap.size) (h2 : Beside w1.heap.size (w1.alloc o) w2) : Below B w w2 :=
  (h.trans ((below_new w1 o).mono (Nat.le_of_lt hB))).trans (h2.below (Nat.le_of_lt hB) (by simp; omega))

theorem fin_err {n : Int} {r : Except Int (MOpt × Bool)} {a : Int} (h : r = .error a) : fin n r = .error a := by rw [h]; rfl

set_option maxRecDepth 100000 in
set_option maxHeartbeats 8000000 in
theorem parse_ok (s : ByteArray) (w : World) (te : TypeId) (pe : Value) (hv : w.cell? ⟨2, 0, none⟩ = some (.iface te pe)) (l : List MTok) (hS : scanM s = .ok l) :
    Calls Tryd.prog 5 #[.string s] w fun e w' => e = .returned (parseV (optM s)) ∧ Below w.heap.size w w' := by
  have h9 := scan_any s (w.alloc (.cells #[.bool false, .bool false, .int .i64 0] 23)) te pe (Lib.cell?_alloc_some _ hv)
  have HO := hidD (optM_ok hS)
  rw [hS] at h9
  have H9 := hidD h9
  clear h9 hS hv
  go_enter Tryd.func5, Tryd.ntmps5
  go_wp2_with fail
  refine H9.out.mono ?_
  rintro e w1 ⟨⟨v1, rfl, t1⟩, b1⟩
  have HR := hidD ((RB.new w).same (b1.block _ (by simp)))
  have B1 := hidD ((below_new w (.cells #[.bool false, .bool false, .int .i64 0] 23)).trans (b1.mono (by simp)))
  obtain ⟨ao, c, rfl, hlen, hcs⟩ := RowsIn.cells t1 (by omega)
  have HC := hidD hcs
  have hbig : l.length ≤ 9223372036854775807 := by omega
  have A1 := hidD (AC.new w1)
  clear t1 b1 hcs hlen
  go_wp2_with fail
  go_loopg [9, 21] l.length (fun g _ i wr => ∃ (k : Nat) (o : MOpt) (op : Bool), k ≤ l.length ∧ l.length - k ≤ g ∧ i = .int .i64 k ∧ Aside (takes l MOpt.none false = takes (l.drop k) o op) ∧ Aside (AC w1.heap.size wr o op) ∧ Aside (Beside w1.heap.size (w1.alloc (.cells #[.bool false, .bool false, .int .i64 0, .bool false, .bool false] 41)) wr))
  case atStart => exact ⟨0, MOpt.none, false, Nat.zero_le _, by omega, rfl, rfl, A1.out, Beside.refl _ _⟩
  case round =>
    obtain ⟨k, o, op, hk, hg, rfl, HT, HA, HB⟩ := hrel
    have hsz : w1.heap.size + 1 ≤ wr.heap.size := by have := HB.out.size; simpa using this
    by_cases hlt : k < l.length
    · have hlti : (k : Int) < (l.length : Int) := by omega
      obtain ⟨b, f, cs, rfl, hb, _, e1, k1⟩ := HC.out k hlt
      unfold TokRow at e1
      subst e1
      have cc : ∀ i u, [Value.int .i64 (l.getD k default).1, .int .i64 (l.getD k default).2.1, .string (l.getD k default).2.2.1, .int .i64 (l.getD k default).2.2.2][i]? = some u → wr.cell? ⟨b, f + k * 4 + i, none⟩ = some u := fun i u hi => by
        rw [← k1 i u hi]
        exact (World.cell?_of_block (w := (w1.alloc (.cells #[.bool false, .bool false, .int .i64 0, .bool false, .bool false] 41))) (a := ⟨b, f + k * 4 + i, none⟩) (HB.out.block b (by simp; omega) (by omega))).trans (World.cell?_of_block (w := w1) (a := ⟨b, f + k * 4 + i, none⟩) ((below_new w1 _).block b hb))
      have hst := takes_at hlt o op
      generalize hX : l.getD k default = X at *
      have HX := hidD hX
      clear hX k1
      obtain ⟨x0, x1, x2, x3⟩ := X
      simp only at *
      have d0 : wr.cell? ⟨b, f + k * 4, none⟩ = _ := cc 0 _ rfl
      have d1 := cc 1 _ rfl
      have d2 := cc 2 _ rfl
      have d3 := cc 3 _ rfl
      have HTk := hidD (take_is w1.heap.size o op (x0, x1, x2, x3) (wr.alloc (.cells #[.int .i64 x0, .int .i64 x1, .string x2, .int .i64 x3] 43)) (HA.out.keep ((below_new wr _).mono HA.out.lt)))
      have HST := hidD hst
      clear cc hst
      go_wp2_with fail
      refine HTk.out.mono ?_
      rintro e w2 ⟨he, be, ha⟩
      have BO := hidD ((HB.out.alloc (.cells #[.int .i64 x0, .int .i64 x1, .string x2, .int .i64 x3] 43)).trans be)
      cases hT : take1 o op (x0, x1, x2, x3) with
      | none =>
        rw [hT] at he
        subst he
        have hst := HST.out
        rw [hT] at hst
        have HE : Hid (optM s = .error (x1, 240)) := HO.out.trans (by rw [fin_err (HT.out.trans hst)])
        have hR := HR.out.same (w' := w2) ((BO.out.block _ (by have := HR.out.lt; simp; omega) (by have := HR.out.lt; omega)).trans ((below_new w1 _).block _ HR.out.lt))
        obtain ⟨g0, g1, g2, z0, z1, z2⟩ := hR
        have y1 : w2.cell? ⟨wr.heap.size, 1, none⟩ = some (.int .i64 x1) := (World.cell?_of_block (w := (wr.alloc (.cells #[.int .i64 x0, .int .i64 x1, .string x2, .int .i64 x3] 43))) (a := ⟨wr.heap.size, 1, none⟩) (be.block wr.heap.size (by simp) (by omega))).trans (by simp)
        have hn1 : ¬ w.heap.size = wr.heap.size := by have := HR.out.lt; omega
        have hn2 : ¬ wr.heap.size = w.heap.size := by omega
        clear be ha hst hT d0 d1 d2 d3
        go_wp2_with fail
        go_region
        go_wp2_with fail
        rw [HE.out]
        exact bodyPost_ret (v := parseV (.error (x1, 240))) (by simp [results, go_sem, g0, g1, g2, parseV]) rfl ⟨rfl, below_drewN ((((below_ask B1.out HR.out.lt BO.out).setCell (Nat.le_refl _) _).setCell (Nat.le_refl _) _).setCell (Nat.le_refl _) _) 1⟩
      | some q =>
        obtain ⟨o', op'⟩ := q
        rw [hT] at he
        subst he
        have hst := HST.out
        rw [hT] at hst
        have HA' := hidD (ha o' op' hT)
        have HT' := hidD (HT.out.trans hst)
        clear be ha hst hT
        go_wp2_with fail
        go_roundg (l.length - (k + 1))
        case measure => omega
        case rel => exact ⟨k + 1, o', op', by omega, by omega, by go_num, HT'.out, HA'.out, BO.out⟩
    · have hnlt : ¬ (k : Int) < (l.length : Int) := by omega
      have HF : Hid (takes l MOpt.none false = .ok (o, op)) := HT.out.trans (by rw [List.drop_eq_nil_of_le (by omega)]; rfl)
      have hR := HR.out.same (w' := wr) ((HB.out.block _ (by have := HR.out.lt; simp; omega) (by have := HR.out.lt; omega)).trans ((below_new w1 _).block _ HR.out.lt))
      have hrl := HR.out.lt
      obtain ⟨g0, g1, g2, z0, z1, z2⟩ := hR
      obtain ⟨c0, c1, c2, c3, c4, -, -, -, -, -⟩ := HA.out
      have hn1 : ¬ w.heap.size = w1.heap.size := by omega
      have hn2 : ¬ w1.heap.size = w.heap.size := by omega
      cases op with
      | true =>
        have HE : Hid (optM s = .error ((s.size : Int), 240)) := HO.out.trans (by rw [HF.out]; rfl)
        go_wp2_with fail
        rw [HE.out]
        exact bodyPost_ret (v := parseV (.error ((s.size : Int), 240))) (by simp [results, go_sem, g0, g1, g2, parseV]) rfl ⟨rfl, ((((below_ask B1.out HR.out.lt HB.out).setCell (Nat.le_refl _) _).setCell (Nat.le_refl _) _).setCell (Nat.le_refl _) _)⟩
      | false =>
        have HE : Hid (optM s = .ok o) := HO.out.trans (by rw [HF.out]; rfl)
        obtain ⟨o0, o1, o2, o3⟩ := o
        simp only at c0 c1 c2 c3
        go_wp2_with fail
        go_region
        go_wp2_with fail
        rw [HE.out]
        exact bodyPost_ret (v := parseV (.ok ⟨o0, o1, o2, o3⟩)) (by simp [results, go_sem, g0, g1, g2, parseV]) rfl ⟨rfl, below_drewN ((((below_ask B1.out HR.out.lt HB.out).setCell (Nat.le_refl _) _).setCell (Nat.le_refl _) _).setCell (Nat.le_refl _) _) 1⟩
end Go.Proofs.YtebohmcbeacdkaaDoor
