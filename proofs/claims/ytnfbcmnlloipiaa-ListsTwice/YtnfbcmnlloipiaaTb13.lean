/-
  The table's Final.
-/
import Derived.Test.YtnfbcmnlloipiaaTb12
namespace Go.Proofs.Ytnfbcmnlloipiaa
set_option linter.unusedVariables false
set_option linter.unusedSimpArgs false
open Go.RowKit Go.Lib Go.Maps Go.Sort
open Tx (MTxn info_parts flatten_len flatten_get RowsIn.cells RowCells TxnRow TxnsIn TxnsOwn setCell_self cloneInts_any OpsOwn smallL cutTxn cutOp)

/-- What Final answers. -/
def FPost (l : List MTxn) (t i : Int) (w : World) (e : Ending) (w' : World) : Prop := ∃ f : Bool, e = .returned (.bool f) ∧ (f = true ↔ finL l t i) ∧ Below w.heap.size w w'
theorem below_drewN2 {B : Nat} {w W : World} (h : Below B w W) (q r : Nat) : Below B w ((W.drewN q).drewN r) := ⟨h.os, h.tape, h.output, h.size, h.block⟩
set_option maxHeartbeats 8000000 in
set_option maxRecDepth 100000 in
theorem tfinal_is (B : Nat) (w : World) (tb : Nat) (l : List MTxn) (h : Made B w tb l) (t i : Int) (hl : l.length ≤ 1000) (hten : ∀ t ∈ l, t.ops.length ≤ 10) (hok : ∀ t ∈ l, ∀ o ∈ t.ops, OpOk o) :
    Calls Try.prog 68 #[.pointer (some ⟨tb, 0, none⟩), .agg #[.int .i64 t, .int .i64 i]] w fun e w' => FPost l t i w e w' := by
  obtain ⟨W, hW⟩ : ∃ W, w.alloc (.cells #[.int .i64 t, .int .i64 i] 54) = W := ⟨_, rfl⟩
  have BW : Hid (Below w.heap.size w W) := by rw [← hW]; exact below_box w _
  have M : Hid (Made B W tb l) := h.later BW.out
  obtain ⟨xb, hxb⟩ : ∃ xb, w.heap.size = xb := ⟨_, rfl⟩
  have p0 : W.cell? ⟨xb, 0, none⟩ = some (.int .i64 t) := by rw [← hW, ← hxb]; simp
  have p1 : W.cell? ⟨xb, 1, none⟩ = some (.int .i64 i) := by rw [← hW, ← hxb]; simp
  have HW := hid hW
  have HXB := hid hxb
  have HTEN := hid hten
  have HOK := hid hok
  have hli : (l.length : Int) ≤ 1000 := by omega
  have CO : Hid (∀ q, Calls Try.prog 21 #[.pointer (some ⟨tb, 0, none⟩)] (W.drewN q) fun e w' => e = .returned (.int .i64 (l.length : Int)) ∧ (W.drewN q) = w') := fun q => count_is B (W.drewN q) tb l (M.out.later ⟨rfl, rfl, rfl, Nat.le_refl _, fun _ _ => rfl⟩)
  have QC : Hid (∀ q, Calls Try.prog 21 #[.pointer (some ⟨tb, 0, none⟩)] (W.drewN q) fun e w'' => e = .returned (.int .i64 (l.length : Int)) ∧ ∃ m, w'' = W.drewN m) := fun q => (CO.out q).mono (fun e w' ⟨h1, h2⟩ => ⟨h1, q, h2.symm⟩)
  have WR := hid (fun k W => writes_is k W)
  have BQ : ∀ q, Hid (Below w.heap.size w (W.drewN q)) := fun q => ⟨BW.out.os, BW.out.tape, BW.out.output, BW.out.size, BW.out.block⟩
  clear hW hxb h hten hok
  go_enter Try.func68, Try.ntmps68
  go_upto_region 1 with fail
  rw [show w.alloc (.cells #[.int .i64 t, .int .i64 i] 54) = W from HW.out, show w.heap.size = xb from HXB.out]
  by_cases ht0 : t < 0
  · have HF : Hid (¬ finL l t i) := fun c => by have := c.1; omega
    go_region
    go_wp2_with fail
    go_ret
    exact ⟨false, rfl, ⟨fun c => absurd c (by decide), fun c => absurd c HF.out⟩, (by first | exact (BQ _).out | exact below_drewN2 BW.out _ _)⟩
  · have ht1 : 0 ≤ t := by omega
    by_cases htl : t < l.length
    · have htg : ¬ ((l.length : Int) ≤ t) := by omega
      have htd : decide ((l.length : Int) ≤ t) = false := by simpa using htg
      obtain ⟨tn, htn⟩ : ∃ tn : Nat, t = tn := ⟨t.toNat, by omega⟩
      subst htn
      have htl2 : tn < l.length := by omega
      obtain ⟨kb, wb, lb, tv, kv, F, D, m, u, h1, _, _, _, _, h6, _⟩ := id M.out
      obtain ⟨c0, _, _, _, c4, _⟩ := h1.c
      obtain ⟨ao, cc, rfl, hbytes, hrow⟩ := RowsIn.cells h6 (by omega)
      obtain ⟨b, o, cs, rfl, hbl, _, ⟨ov, hcs, hops⟩, hcell⟩ := hrow tn htl2
      subst hcs
      have d4 := hcell 4 _ rfl
      obtain ⟨oa, oc, hov, hol, hoc⟩ := id hops
      subst hov
      have hmem : l.getD tn default ∈ l := getD_mem l tn htl2
      have hlt := h1.lt
      have HLT := hid hlt
      have hT10 : (l.getD tn default).ops.length ≤ 10 := HTEN.out _ hmem
      have HOT := hid (HOK.out _ hmem)
      have LF := hid (last_fin l tn htl2)
      have FD : Hid (finL l (tn : Int) i ↔ (0 ≤ i ∧ finT (l.getD tn default).ops i.toNat)) := ⟨fun c => ⟨c.2.2.1, c.2.2.2⟩, fun c => ⟨by omega, htl, c.1, c.2⟩⟩
      have HOC := hid hoc
      clear h1 h6 hbytes hrow hcell hops hoc hmem hlt
      generalize (l.getD tn default).ops = T at *
      have hTi : (T.length : Int) ≤ 10 := by omega
      go_quiet ((go_at_call 21; exact QC.out _))
      go_upto_region 3 with fail
      go_quiet (fail)
      by_cases hi0 : i < 0
      · have HF : Hid (¬ finL l (tn : Int) i) := fun c => by have := (FD.out.1 c).1; omega
        go_wp2_with fail
        go_ret
        exact ⟨false, rfl, ⟨fun c => absurd c (by decide), fun c => absurd c HF.out⟩, (by first | exact (BQ _).out | exact below_drewN2 BW.out _ _)⟩
      · have hi1 : 0 ≤ i := by omega
        by_cases hil : i < T.length
        · obtain ⟨n, hn⟩ : ∃ n : Nat, i = n := ⟨i.toNat, by omega⟩
          subst hn
          have hnl : n < T.length := by omega
          have hig : ¬ ((T.length : Int) ≤ n) := by omega
          have hid' : decide ((T.length : Int) ≤ n) = false := by simpa using hig
          obtain ⟨ob, oo, rfl, _, hcs⟩ := HOC.out (by omega)
          obtain ⟨cs, _, ⟨lv, hcse, _⟩, hcell⟩ := hcs n hnl
          subst hcse
          have x0 := hcell 0 _ rfl
          have x1 := hcell 1 _ rfl
          rw [Nat.add_zero] at x0
          have hkey : (T.getD n default).key.size ≤ maxLen := Nat.le_trans (HOT.out _ (getD_mem T n hnl)).1 (by decide)
          have LF2 := hid (fun hw => LF.out n hnl hw)
          have FD2 : Hid (finL l (tn : Int) (n : Int) ↔ finT T n) := FD.out.trans ⟨fun c => c.2, fun c => ⟨by omega, c⟩⟩
          have WR2 := hid (fun W => writes_is (T.getD n default).kind W)
          have LK : ∀ q, (Instr.lookup 62 (.map (some lb)) (parV tn (T.getD n default).key) false).run Try.prog (W.drewN q) = .ok (.int .i64 (((lastN (notes l l.length) tn (T.getD n default).key).getD 0 : Nat) : Int)) (W.drewN q) := fun q => (show Lt (W.drewN q) lb m (notes l l.length) from HLT.out.same rfl).look tn (T.getD n default).key hkey (by omega)
          clear hcs hcell hkey
          have HX : Hid (finT T n → isW (T.getD n default).kind = true) := fun c => c.2.1
          generalize ((lastN (notes l l.length) tn (T.getD n default).key).getD 0) = LL at *
          generalize (T.getD n default).kind = ok at *
          generalize (T.getD n default).key = os at *
          cases hw : isW ok with
          | false =>
            rw [hw] at WR2
            have HF : Hid (¬ finL l (tn : Int) (n : Int)) := fun c => by have := HX.out (FD2.out.1 c); rw [hw] at this; cases this
            clear hw LF2
            go_wp2_with (go_at_call 58; refine (WR2.out _).mono ?_; rintro e w' ⟨rfl, rfl⟩)
            go_ret
            exact ⟨false, rfl, ⟨fun c => absurd c (by decide), fun c => absurd c HF.out⟩, (by first | exact (BQ _).out | exact below_drewN2 BW.out _ _)⟩
          | true =>
            rw [hw] at WR2
            have L3 := hid (LF2.out hw)
            clear hw LF2
            unfold parV at LK
            go_wp2_with (go_at_call 58; refine (WR2.out _).mono ?_; rintro e w' ⟨rfl, rfl⟩)
            go_upto_region 6 with fail
            by_cases hLL : LL = n
            · have hle : ((LL : Int) == (n : Int)) = true := by simp [hLL]
              have HF : Hid (finL l (tn : Int) (n : Int)) := FD2.out.2 (L3.out.1 hLL)
              clear hLL
              generalize (LL : Int) = li at *
              go_quiet (fail)
              go_wp2_with fail
              go_ret
              exact ⟨true, rfl, ⟨fun _ => HF.out, fun _ => rfl⟩, (by first | exact (BQ _).out | exact below_drewN2 BW.out _ _)⟩
            · have hle : ((LL : Int) == (n : Int)) = false := by rw [beq_eq_false_iff_ne]; omega
              have HF : Hid (¬ finL l (tn : Int) (n : Int)) := fun c => hLL (L3.out.2 (FD2.out.1 c))
              clear hLL
              generalize (LL : Int) = li at *
              go_quiet (fail)
              go_wp2_with fail
              go_ret
              exact ⟨false, rfl, ⟨fun c => absurd c (by decide), fun c => absurd c HF.out⟩, (by first | exact (BQ _).out | exact below_drewN2 BW.out _ _)⟩
        · have hig : (T.length : Int) ≤ i := by omega
          have hid' : decide ((T.length : Int) ≤ i) = true := by simpa using hig
          have HF : Hid (¬ finL l (tn : Int) i) := fun c => by have := (FD.out.1 c).2.1; omega
          go_wp2_with fail
          go_ret
          exact ⟨false, rfl, ⟨fun c => absurd c (by decide), fun c => absurd c HF.out⟩, (by first | exact (BQ _).out | exact below_drewN2 BW.out _ _)⟩
    · have htg : (l.length : Int) ≤ t := by omega
      have htd : decide ((l.length : Int) ≤ t) = true := by simpa using htg
      have HF : Hid (¬ finL l t i) := fun c => by have := c.2.1; omega
      go_quiet ((go_at_call 21; exact QC.out _))
      go_wp2_with fail
      go_ret
      exact ⟨false, rfl, ⟨fun c => absurd c (by decide), fun c => absurd c HF.out⟩, (by first | exact (BQ _).out | exact below_drewN2 BW.out _ _)⟩
end Go.Proofs.Ytnfbcmnlloipiaa
