/-
  An order of the program beside one of the document: added.
-/
import Derived.Test.YtmnfmilgpglfcaaK8
import Derived.Deep.RegionHeld3
namespace Go.Proofs.Ytmnfmilgpglfcaa
set_option linter.unusedVariables false
set_option linter.unusedSimpArgs false
open Go.RowKit

/-- A slice of pairs that can be read. -/
def ArgP (w : World) (ao : Option Addr) (zs : List (Int × Int × Bool)) : Prop :=
  ∀ j, j < zs.length → ∃ b off, ao = some ⟨b, off, none⟩ ∧ w.cell? ⟨b, off + j * 3, none⟩ = some (.int .i64 (zs.getD j (0, 0, false)).1) ∧ w.cell? ⟨b, off + j * 3 + 1, none⟩ = some (.int .i64 (zs.getD j (0, 0, false)).2.1) ∧ w.cell? ⟨b, off + j * 3 + 2, none⟩ = some (.bool (zs.getD j (0, 0, false)).2.2)
theorem ArgP.later {w w' : World} {ao : Option Addr} {es : List (Int × Int × Bool)} (h : ArgP w ao es) (hb : Below w.heap.size w w') : ArgP w' ao es := fun j hj => by
  obtain ⟨b, off, e, h0, h1, h2⟩ := h j hj
  exact ⟨b, off, e, (hb.cell (p := ⟨b, off + j * 3, none⟩) (World.block_lt_of_cell? _ _ h0)).trans h0, (hb.cell (p := ⟨b, off + j * 3 + 1, none⟩) (World.block_lt_of_cell? _ _ h1)).trans h1, (hb.cell (p := ⟨b, off + j * 3 + 2, none⟩) (World.block_lt_of_cell? _ _ h2)).trans h2⟩
/-- What is added. -/
def addP (n : Nat) (ps : List (Nat × Nat × Bool)) (p : Int × Int × Bool) : List (Nat × Nat × Bool) := if inB n p.1 p.2.1 = true then ps ++ [(p.1.toNat, p.2.1.toNat, p.2.2)] else ps
def psOf (n : Nat) (l : List (Int × Int × Bool)) : List (Nat × Nat × Bool) := l.foldl (addP n) []
theorem psOf_snoc (n : Nat) (l : List (Int × Int × Bool)) (p : Int × Int × Bool) : psOf n (l ++ [p]) = addP n (psOf n l) p := by
  unfold psOf
  rw [List.foldl_append]
  rfl
theorem psOf_len (n : Nat) (l : List (Int × Int × Bool)) : (psOf n l).length ≤ l.length := by
  induction l using listSnoc with
  | h0 => simp [psOf]
  | h1 l p ih =>
    rw [psOf_snoc, List.length_append, List.length_singleton]
    unfold addP
    split
    · rw [List.length_append, List.length_singleton]
      omega
    · omega
/-- The pairs that were added when k were looked at. -/
def upTo (n : Nat) (zs : List (Int × Int × Bool)) (k : Nat) : List (Nat × Nat × Bool) := psOf n ((zs.take 100).take k)
theorem upTo_len (n : Nat) (zs : List (Int × Int × Bool)) (k : Nat) : (upTo n zs k).length ≤ 100 := by
  unfold upTo
  have h1 := psOf_len n ((zs.take 100).take k)
  have h2 : ((zs.take 100).take k).length ≤ 100 := by simp; omega
  omega
theorem upTo_succ (n : Nat) (zs : List (Int × Int × Bool)) (k : Nat) (hk : k < zs.length) (h100 : k < 100) : upTo n zs (k + 1) = addP n (upTo n zs k) (zs.getD k (0, 0, false)) := by
  unfold upTo
  have hlt : k < (zs.take 100).length := by simp; omega
  rw [List.take_succ_eq_append_getElem hlt, psOf_snoc]
  congr 1
  simp [hk]
theorem upTo_over (n : Nat) (zs : List (Int × Int × Bool)) (k : Nat) (h : 100 ≤ k) : upTo n zs (k + 1) = upTo n zs k := by
  unfold upTo
  have h1 : (zs.take 100).take (k + 1) = zs.take 100 := List.take_of_length_le (by simp; omega)
  have h2 : (zs.take 100).take k = zs.take 100 := List.take_of_length_le (by simp; omega)
  rw [h1, h2]
theorem upTo_all (n : Nat) (zs : List (Int × Int × Bool)) : upTo n zs zs.length = psOf n (zs.take 100) := by
  unfold upTo
  rw [List.take_of_length_le (by simp; omega)]
/-- Both orders. -/
def BothO (H : Nat) (w : World) (b b2 n : Nat) (ps : List (Nat × Nat × Bool)) : Prop := Od H w b n (clR (sel false ps)) (clR (sel true ps)) ∧ RefO H w b2 n ps
theorem BothO.later {H : Nat} {w w' : World} {b b2 n : Nat} {ps : List (Nat × Nat × Bool)} (h : BothO H w b b2 n ps) (hb : Below w.heap.size w w') : BothO H w' b b2 n ps := ⟨h.1.later hb, h.2.later hb⟩
theorem tri_all (ps : List (Nat × Nat × Bool)) (x y : Nat) (t : Bool) : joinR (clR (sel false ps)) x y = clR (sel false (ps ++ [(x, y, t)])) := by
  rw [sel_snoc, if_pos (by simp), clR_snoc]
theorem tri_sure (ps : List (Nat × Nat × Bool)) (x y : Nat) (t : Bool) : (if t then joinR (clR (sel true ps)) x y else clR (sel true ps)) = clR (sel true (ps ++ [(x, y, t)])) := by
  rw [sel_snoc]
  cases t with
  | true => rw [if_pos rfl, if_pos (by rfl), clR_snoc]
  | false => rw [if_neg (by decide), if_neg (by simp)]
theorem inB_nat {n : Nat} {x y : Int} (h : inB n x y = true) : ∃ X Y : Nat, x = X ∧ y = Y ∧ X < n ∧ Y < n := by
  unfold inB at h
  simp at h
  exact ⟨x.toNat, y.toNat, by omega, by omega, by omega, by omega⟩

set_option maxHeartbeats 8000000 in
set_option maxRecDepth 100000 in
theorem added_ok (n : Nat) (hn : n ≤ 300) (ao : Option Addr) (cp : Nat) (zs : List (Int × Int × Bool)) (w : World) (hz : ArgP w ao zs) (hl : zs.length ≤ maxLen) :
    Calls Try.prog 4 #[.int .i64 n, .slice ao zs.length cp] w fun e w' => (∃ b b2, e = .returned (.tuple #[.pointer (some ⟨b, 0, none⟩), .pointer (some ⟨b2, 0, none⟩), .bool true]) ∧ BothO w.heap.size w' b b2 n (psOf n (zs.take 100))) ∧ Below w.heap.size w w' := by
  unfold maxLen at hl
  have HZ := hid hz
  clear hz
  have hlen : (zs.length : Int) ≤ 9223372036854775807 := by omega
  go_enter Try.func4, Try.ntmps4
  go_wp2_with fail
  go_at_call 8
  refine (cnew_ok n hn w).mono ?_
  rintro e w1 ⟨⟨b, rfl, s1⟩, b1⟩
  have S1 := hid s1
  have B1 := hid b1
  clear s1 b1
  go_wp2_with fail
  go_at_call 9
  refine (rnew_ok n hn w1).mono ?_
  rintro e w2 ⟨rfl, s2, b2⟩
  have BO : Hid (BothO w.heap.size w2 b w1.heap.size n (upTo n zs 0)) := by
    have s3 : RefO w.heap.size w2 w1.heap.size n [] := by
      obtain ⟨v, q1, q2⟩ := s2.ex
      refine ⟨⟨v, q1, q2.1, ?_⟩, Nat.le_trans B1.out.size s2.low, s2.bound, s2.lt⟩
      rcases q2.2 with q3 | ⟨g, cap, cur, k1, k2, k3⟩
      · exact .inl q3
      · exact .inr ⟨g, cap, cur, k1, Nat.le_trans B1.out.size k2, k3⟩
    exact ⟨S1.out.later b2, s3⟩
  have B2 : Hid (Below w.heap.size w w2) := B1.out.trans (b2.mono B1.out.size)
  clear b2 s2 S1 B1
  generalize w1.heap.size = b2 at *
  go_wp2_with fail
  go_loopg [11, 12, 35] zs.length (fun g _ _ i wr => ∃ j : Nat, j ≤ zs.length ∧ zs.length - j ≤ g ∧ i = .int .i64 j ∧ Aside (BothO w.heap.size wr b b2 n (upTo n zs j)) ∧ Aside (Below w.heap.size w wr))
  case atStart => exact ⟨0, Nat.zero_le _, by omega, rfl, BO.out, B2.out⟩
  case round =>
    clear BO B2
    obtain ⟨j, hj, hg, rfl, BOX, BX⟩ := hrel
    by_cases hjl : j < zs.length
    · have hjli : (j : Int) < zs.length := by omega
      obtain ⟨bz, oz, rfl, k1, k2, k3⟩ := HZ.out.later BX.out j hjl
      have US := hid (upTo_succ n zs j hjl)
      have UO := hid (upTo_over n zs j)
      have UL := hid (upTo_len n zs j)
      obtain ⟨z0, hz0⟩ : ∃ z, zs.getD j (0, 0, false) = z := ⟨_, rfl⟩
      rw [hz0] at k1 k2 k3 US
      obtain ⟨x, y, z⟩ := z0
      dsimp only at k1 k2 k3 US
      clear hz0
      go_wp2_with fail
      have KB : Hid ((wr.alloc (.cells #[.int .i64 x, .int .i64 y, .bool z] 30)).heap[wr.heap.size]? = some (.cells #[.int .i64 x, .int .i64 y, .bool z] 30)) := heap_alloc_new wr _
      have T2 : Hid (BothO w.heap.size (wr.alloc (.cells #[.int .i64 x, .int .i64 y, .bool z] 30)) b b2 n (upTo n zs j)) := BOX.out.later (below_box wr _)
      have B2 : Hid (Below w.heap.size w (wr.alloc (.cells #[.int .i64 x, .int .i64 y, .bool z] 30))) := BX.out.trans ((below_box wr _).mono BX.out.size)
      clear BOX BX k1 k2 k3
      generalize wr.alloc (.cells #[.int .i64 x, .int .i64 y, .bool z] 30) = W at *
      generalize wr.heap.size = kb at *
      have K0 : W.cell? ⟨kb, 0, none⟩ = some (.int .i64 x) := Lib.cell_of_heap KB.out 0
      have K1 : W.cell? ⟨kb, 1, none⟩ = some (.int .i64 y) := Lib.cell_of_heap KB.out 1
      have K2 : W.cell? ⟨kb, 2, none⟩ = some (.bool z) := Lib.cell_of_heap KB.out 2
      by_cases h100 : j < 100
      · have h100i : (j : Int) < 100 := by omega
        have US2 := hid (US.out h100)
        clear US UO
        obtain ⟨ps, hps⟩ : ∃ ps, upTo n zs j = ps := ⟨_, rfl⟩
        rw [hps] at US2 UL T2
        clear hps
        cases hin : inB n x y with
        | true =>
          have HIN := hid hin
          obtain ⟨X, Y, rfl, rfl, hX, hY⟩ := inB_nat hin
          have UN : Hid (upTo n zs (j + 1) = ps ++ [(X, Y, z)]) := by
            rw [US2.out]
            show addP n ps ((X : Int), (Y : Int), z) = _
            unfold addP
            rw [if_pos hin]
            simp
          have W0 : Hid (Below W.heap.size W W.drew) := (Below.refl _ _).drew
          have B2d := hid B2.out.drew
          clear hin US2
          go_region_held3 (fun w' => w'.cell? ⟨kb, 0, none⟩ = some (.int .i64 X) ∧ w'.cell? ⟨kb, 1, none⟩ = some (.int .i64 Y) ∧ w'.cell? ⟨kb, 2, none⟩ = some (.bool z)) (go_keep) (first
            | (go_at_call 10; refine (cadd_ok w.heap.size b n _ _ X Y z _ (T2.out.later W0.out).1 hX hY (clR_trans _) (clR_trans _)).mono ?_; rintro e wa ⟨rfl, sa, ga⟩; have SA := hid (sa.congr (tri_all ps X Y z) (tri_sure ps X Y z)); have GA := hid ga; have KA : Hid (wa.heap[kb]? = some (.cells #[.int .i64 X, .int .i64 Y, .bool z] 30)) := ga.at ((W0.out.block _ (blt KB.out)).trans KB.out) (Tg.not ((W0.out.block _ (blt KB.out)).trans KB.out) (by decide)); have RA : Hid (RefO w.heap.size wa b2 n ps) := (T2.out.later W0.out).2.gro ga (fun x cs t hx ht => Tg.not hx (by rcases ht with rfl | rfl <;> decide)); have kk0 : wa.cell? ⟨kb, 0, none⟩ = some (.int .i64 X) := Lib.cell_of_heap KA.out 0; have kk1 : wa.cell? ⟨kb, 1, none⟩ = some (.int .i64 Y) := Lib.cell_of_heap KA.out 1; have kk2 : wa.cell? ⟨kb, 2, none⟩ = some (.bool z) := Lib.cell_of_heap KA.out 2; clear sa ga)
            | (go_at_call 11; refine (radd_ok w.heap.size b2 n ps X Y z _ RA.out hX hY (by have := UL.out; omega)).mono ?_; rintro e wb ⟨rfl, sb, gb⟩; have SB := hid sb; have GB := hid gb; have OB : Hid (Od w.heap.size wb b n _ _) := SA.out.gro gb (fun x cs t hx ht => Tg.not hx (by rcases ht with rfl | rfl | rfl | rfl <;> decide)); have KC : Hid (wb.heap[kb]? = some (.cells #[.int .i64 X, .int .i64 Y, .bool z] 30)) := gb.at KA.out (Tg.not KA.out (by decide)); have kk0 : wb.cell? ⟨kb, 0, none⟩ = some (.int .i64 X) := Lib.cell_of_heap KC.out 0; have kk1 : wb.cell? ⟨kb, 1, none⟩ = some (.int .i64 Y) := Lib.cell_of_heap KC.out 1; have kk2 : wb.cell? ⟨kb, 2, none⟩ = some (.bool z) := Lib.cell_of_heap KC.out 2; clear sb gb))
          all_goals (try go_wp2_with fail)
          have b1 : Below w.heap.size W.drew wa := GA.out.below w.heap.size (fun k hk => hk.1) B2d.out.size
          have BN : Hid (Below w.heap.size w wb) := (B2d.out.trans b1).trans (GB.out.below w.heap.size (fun k hk => hk.1) (B2d.out.trans b1).size)
          clear b1
          go_roundg (zs.length - (j + 1))
          · exact ⟨j + 1, by omega, by omega, by go_num, (by show BothO _ _ _ _ _ _; rw [UN.out]; exact ⟨OB.out, SB.out⟩), BN.out⟩
          · omega
        | false =>
          have UN : Hid (upTo n zs (j + 1) = ps) := by
            rw [US2.out]
            show addP n ps (x, y, z) = _
            unfold addP
            rw [if_neg (by rw [hin]; decide)]
          have Q1 : Hid (∀ q, Calls Try.prog 10 #[.pointer (some ⟨b, 0, none⟩), .int .i64 x, .int .i64 y, .bool z] (W.drewN q) fun e w'' => e = .returned (.int .i64 1) ∧ ∃ m, w'' = W.drewN m) := fun q => quietly (cadd_off w.heap.size b n _ _ x y z (W.drewN q) (T2.out.later (below_drewN (Below.refl _ _) _)).1 hin)
          have Q2 : Hid (∀ q, Calls Try.prog 11 #[.pointer (some ⟨b2, 0, none⟩), .int .i64 x, .int .i64 y, .bool z] (W.drewN q) fun e w'' => e = .returned (.int .i64 1) ∧ ∃ m, w'' = W.drewN m) := fun q => quietly (radd_off w.heap.size b2 n ps x y z (W.drewN q) (T2.out.later (below_drewN (Below.refl _ _) _)).2 hin)
          clear hin US2
          go_quiet ((first | (go_at_call 10; exact Q1.out _) | (go_at_call 11; exact Q2.out _)))
          go_wp2_with fail
          go_roundg (zs.length - (j + 1))
          · exact ⟨j + 1, by omega, by omega, by go_num, (by show BothO _ _ _ _ _ _; rw [UN.out]; exact T2.out.later (below_drewN (Below.refl _ _) _)), below_drewN B2.out _⟩
          · omega
      · have h100i : ¬ (j : Int) < 100 := by omega
        have UN := hid (UO.out (by omega))
        clear US UO
        go_quiet (fail)
        go_wp2_with fail
        go_roundg (zs.length - (j + 1))
        · exact ⟨j + 1, by omega, by omega, by go_num, (by show BothO _ _ _ _ _ _; rw [UN.out]; exact T2.out.later (below_drewN (Below.refl _ _) _)), below_drewN B2.out _⟩
        · omega
    · have hjli : ¬ (j : Int) < zs.length := by omega
      obtain rfl : j = zs.length := by omega
      go_wp2_with fail
      have BF := BOX.out
      rw [upTo_all] at BF
      refine bodyPost_ret (v := .tuple #[.pointer (some ⟨b, 0, none⟩), .pointer (some ⟨b2, 0, none⟩), .bool true]) (by simp [results, Try.results7, go_sem]) rfl ⟨⟨b, b2, rfl, BF⟩, BX.out⟩
end Go.Proofs.Ytmnfmilgpglfcaa
