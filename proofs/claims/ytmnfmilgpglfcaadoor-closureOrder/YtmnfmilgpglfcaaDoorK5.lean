/-
  Pairs of an order.
-/
import Derived.Test.YtmnfmilgpglfcaaDoorK4
namespace Go.Proofs.YtmnfmilgpglfcaaDoor
set_option linter.unusedVariables false
set_option linter.unusedSimpArgs false
open Go.RowKit

theorem Tryd.info32 : (Tryd.prog.info? 32).map (fun i => (i.zero, i.size, i.bytes)) = some (some (.agg #[.int .i64 0, .int .i64 0]), 2, 16) := by kernel_rfl
/-- A pair's cells; pairs as cells. -/
def prV (p : Nat × Nat) : List Value := [.int .i64 p.1, .int .i64 p.2]
def prsV (l : List (Nat × Nat)) : List Value := l.flatMap prV
theorem prsV_snoc (l : List (Nat × Nat)) (e : Nat × Nat) : prsV (l ++ [e]) = prsV l ++ prV e := by
  unfold prsV
  simp
/-- A slice of pairs of one's own, in blocks from B on. -/
def PrsIn (B : Nat) (w : World) (v : Value) (l : List (Nat × Nat)) : Prop := w.ownsRow B 32 2 v l.length (prsV l)
theorem PrsIn.later {B : Nat} {w w' : World} {v : Value} {l : List (Nat × Nat)} (h : PrsIn B w v l) (hb : Below w.heap.size w w') : PrsIn B w' v l :=
  World.ownsRow.kept (row := none) h ⟨hb.os, hb.tape, hb.output, hb.size, fun k hk _ => hb.block k hk⟩ (by cases hq : v.ownBlock with | none => exact .inl rfl | some g => exact .inr (by simp))
/-- A thing's pairs; those of the first k things. -/
def rowP (F : Nat → Bool) (a p : Nat) : List (Nat × Nat) := (lst F p).map fun b => (a, b)
def allP (R : Nat → Nat → Bool) (n k : Nat) : List (Nat × Nat) := (List.range k).flatMap fun a => rowP (R a) a n
theorem rowP_len (F : Nat → Bool) (a p : Nat) : (rowP F a p).length ≤ p := by
  unfold rowP
  rw [List.length_map]
  exact lst_le F p
theorem allP_succ (R : Nat → Nat → Bool) (n k : Nat) : allP R n (k + 1) = allP R n k ++ rowP (R k) k n := by
  unfold allP
  rw [List.range_succ, List.flatMap_append]
  simp
theorem allP_len (R : Nat → Nat → Bool) (n k : Nat) : (allP R n k).length ≤ k * n := by
  induction k with
  | zero => simp [allP]
  | succ k ih =>
    rw [allP_succ, List.length_append, Nat.add_mul, Nat.one_mul]
    have := rowP_len (R k) k n
    omega
theorem Tab.from {w w' : World} {B : Nat} (h : Tab w) (hb : Below B w w') (h0 : 0 < B) : Tab w' := fun j hj => by
  have h1 := h j hj
  exact (hb.cell (p := ⟨0, j, none⟩) h0).trans h1

set_option maxHeartbeats 8000000 in
theorem pairs_is (H b n : Nat) (R S : Nat → Nat → Bool) (w : World) (h : Od H w b n R S) (hT : Tab w) :
    Calls Tryd.prog 13 #[.pointer (some ⟨b, 0, none⟩)] w fun e w' => (∃ v, e = .returned v ∧ PrsIn w.heap.size w' v (allP R n n)) ∧ Below w.heap.size w w' := by
  obtain ⟨i0, hi, hz'⟩ := Option.map_eq_some_iff.1 Tryd.info32
  simp only [Prod.mk.injEq] at hz'
  obtain ⟨hz0, hz1, hz2⟩ := hz'
  have HI := hid hi
  have HZ0 := hid hz0
  have HZ1 := hid hz1
  have HZ2 := hid hz2
  clear hi hz0 hz1 hz2
  obtain ⟨r, s, bk, ck, bs, cs, h⟩ := h
  have c0 := h.c0
  have M := hid (omade_at b true w h.c2)
  have hn3 := h.bound
  have hni : (n : Int) ≤ 300 := by omega
  have A := hid h.all
  have TB := hid hT
  clear h hT
  go_enter Tryd.func13, Tryd.ntmps13
  go_wp2_with (go_at_call 23; refine M.out.mono ?_; rintro e w' ⟨rfl, rfl⟩)
  clear c0 M
  go_loopg [3, 4, 5, 16] n (fun g l _ _ i wr => ∃ k : Nat, k ≤ n ∧ n - k ≤ g ∧ i = .int .i64 k ∧ Aside (PrsIn w.heap.size wr l (allP R n k)) ∧ Aside (Below w.heap.size w wr))
  case atStart => exact ⟨0, Nat.zero_le _, by omega, rfl, World.ownsRow_nil _ _ _ _, Below.refl _ _⟩
  case round =>
    obtain ⟨k, hk, hg, rfl, EX, BX⟩ := hrel
    by_cases hlt : k < n
    · have hlti : (k : Int) < n := by omega
      have ckk := (A.out.later BX.out).cell k hlt
      have SK := hid (A.out.sets k hlt)
      have HA := hid (allP_succ R n k)
      have HLEN : (allP R n k).length ≤ 90000 := by
        have h1 := allP_len R n k
        have h2 : k * n ≤ 300 * 300 := Nat.mul_le_mul (by omega) hn3
        omega
      go_wp2_with fail
      clear ckk
      go_at_call 26
      refine (next_is _ _ _ _ _ _ (SK.out.later BX.out) (TB.out.later BX.out)).mono ?_
      rintro e w' ⟨⟨r0, t0, rfl, hN⟩, rfl⟩
      have N0 := hid hN
      have TP := hid SK.out.top
      clear hN
      go_wp2_with fail
      generalize wr = wo at *
      obtain ⟨F, hF⟩ : ∃ F, R k = F := ⟨_, rfl⟩
      rw [hF] at HA N0 SK TP
      clear hF
      go_loopg [3, 6, 7] n (fun g l i ok wr2 => ∃ (p : Nat) (q : Int) (t : Bool), p ≤ n ∧ n - p ≤ g ∧ i = .int .i64 q ∧ ok = .bool t ∧ Aside (NextIs F p q t) ∧ Aside (PrsIn w.heap.size wr2 l (allP R n k ++ rowP F k p)) ∧ Aside (Below w.heap.size w wr2))
      case atStart => exact ⟨0, r0, t0, Nat.zero_le _, by omega, rfl, rfl, N0.out, (by show PrsIn _ _ _ (allP R n k ++ rowP F k 0); simpa [rowP, lst] using EX.out), BX.out⟩
      case round =>
        clear N0 EX
        obtain ⟨p, q, t, hp, hg2, rfl, rfl, NX, OX, BY⟩ := hrel
        rcases NX.out with ⟨rfl, j, rfl, hpj, hfj, hgap⟩ | ⟨rfl, rfl, hgap⟩
        · have hjn : j < n := by
            rcases Nat.lt_or_ge j n with h1 | h1
            · exact h1
            · have := TP.out j h1
              rw [hfj] at this
              cases this
          have hl1 := lst_step F p j hpj hfj hgap
          have HL : Hid (allP R n k ++ rowP F k (j + 1) = (allP R n k ++ rowP F k p) ++ [(k, j)]) := by
            show _ = _
            unfold rowP
            rw [hl1]
            simp
          have HLE := hid (rowP_len F k p)
          have hji : (j : Int) < 300 := by omega
          have hji0 : (0 : Int) ≤ j := by omega
          have hsz := hid BY.out.size
          clear NX hgap hfj hl1
          obtain ⟨M, hM⟩ : ∃ M, (allP R n k ++ rowP F k p).length = M := ⟨_, rfl⟩
          have O3r : Hid (wr.ownsRow w.heap.size 32 2 u3 M (prsV (allP R n k ++ rowP F k p))) := by rw [← hM]; exact OX.out
          have hMb : M ≤ 90300 := by have := HLE.out; rw [← hM, List.length_append]; omega
          have HM := hid hM
          clear hM
          go_wp2_with (at_builtin; refine wpList_append_lies _ rfl _ _ 31 rfl w.heap.size 32 i0 _ 2 16 Tryd.underlying31 HI.out HZ0.out HZ1.out HZ2.out rfl (by decide) u3 M (prsV (allP R n k ++ rowP F k p)) rfl ?hown ⟨wr.heap.size, 0, none⟩ 1 1 (prV (k, j)) rfl rfl ?hnews ?hone (by decide) ?h63 ?hby ?hbase (wr.heap.size + 1) ?hH ?_)
          case hown => exact World.ownsRow.alloc O3r.out _
          case hnews => first | exact fun _ _ h => h | exact World.news_of_block (heap_alloc_new wr (.cells #[.int .i64 k, .int .i64 j] 32))
          case hone => intro u hu; unfold prV at hu; simp at hu; rcases hu with rfl | rfl <;> rfl
          case h63 => unfold maxLen; omega
          case hby => omega
          case hbase => have := hsz.out; simp; omega
          all_goals try (case hH => simp)
          intro g cap w4 hown4 hgrow hat hglt
          have B4 : Hid (Below w.heap.size w w4) := BY.out.trans (((below_box wr _).mono hsz.out).grown hgrow (by have := hsz.out; simp; omega) (fun x hx => (O3r.out.lt x hx).1))
          have O4 : Hid (PrsIn w.heap.size w4 (.slice (some ⟨g, 0, none⟩) (M + 1) cap) (allP R n k ++ rowP F k (j + 1))) := by
            have e1 : (allP R n k ++ rowP F k (j + 1)).length = M + 1 := by rw [HL.out, List.length_append, HM.out]; rfl
            show PrsIn w.heap.size w4 _ _
            unfold PrsIn
            rw [e1, HL.out, prsV_snoc]
            exact hown4
          clear hown4 hgrow hat hglt
          go_wp2_with fail
          go_at_call 26
          refine (next_is _ _ _ _ _ _ (SK.out.later B4.out) (TB.out.later B4.out)).mono ?_
          rintro e w' ⟨⟨r2, t2, rfl, hN⟩, rfl⟩
          have ej : ((j : Int) + 1).toNat = j + 1 := by omega
          rw [ej] at hN
          have N2 := hid hN
          clear hN
          go_wp2_with fail
          go_roundg (n - (j + 1))
          · exact ⟨j + 1, r2, t2, by omega, by omega, rfl, rfl, N2.out, O4.out, B4.out⟩
          · omega
        · have e := lst_gap F p n hp (fun k h1 _ => hgap k h1)
          have O5 : Hid (PrsIn w.heap.size wr u3 (allP R n (k + 1))) := by
            have h := OX.out
            rw [HA.out]
            unfold rowP at h ⊢
            rw [e]
            exact h
          clear e hgap NX
          go_wp2_with fail
          go_roundg (n - (k + 1))
          · exact ⟨k + 1, by omega, by omega, by go_num, O5.out, BY.out⟩
          · omega
    · have hlti : ¬ (k : Int) < n := by omega
      have ek : n = k := by omega
      subst ek
      go_wp2_with fail
      go_ret
      exact ⟨⟨_, rfl, EX.out⟩, BX.out⟩
end Go.Proofs.YtmnfmilgpglfcaaDoor
