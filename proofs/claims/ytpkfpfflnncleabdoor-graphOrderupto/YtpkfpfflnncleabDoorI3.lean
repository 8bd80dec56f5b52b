/-
  drawn: two graphs of the same edges.
-/
import Derived.Test.YtpkfpfflnncleabDoorI2
namespace Go.Proofs.YtpkfpfflnncleabDoor
set_option linter.unusedVariables false
set_option linter.unusedSimpArgs false
open Go.RowKit

/-- A graph of the program and one of the document, alike, in blocks from H on. -/
def Both (H : Nat) (w : World) (b n b2 : Nat) : Prop :=
  ∃ r bk ck v rw' L, Graph w b n r bk ck L ∧ RefG w b2 n v rw' L ∧ (∀ k, k < 4 * n → H ≤ ck k) ∧ (∀ i, i < n → H ≤ rw' i)
theorem Both.later {H : Nat} {w w' : World} {b n b2 : Nat} (h : Both H w b n b2) (hb : Below w.heap.size w w') : Both H w' b n b2 := by
  obtain ⟨r, bk, ck, v, rw', L, h1, h2, h3⟩ := h
  exact ⟨r, bk, ck, v, rw', L, h1.later hb, h2.later hb, h3⟩
theorem Graph.words {w : World} {b n r : Nat} {bk ck : Nat → Nat} {L : Nat → Nat → Nat} (h : Graph w b n r bk ck L) (k : Nat) (hk : k < 4 * n) : ∃ cs, w.heap[ck k]? = some (.cells cs 72) := by
  obtain ⟨ws, s1, s2⟩ := (h.sets k hk).ex
  exact ⟨_, s1.row⟩
/-- What is no block of words stays when words are written. -/
theorem Save.at {w w' : World} {b n r : Nat} {bk ck : Nat → Nat} {L : Nat → Nat → Nat} {f : Nat} (h : Graph w b n r bk ck L) (hf : f < n) (hs : Save (fun c => ∃ i, i < 4 ∧ c = ck (4 * f + i)) w w') {x : Nat} {cs : Array Value} {t : TypeId} (hx : w.heap[x]? = some (.cells cs t)) (ht : t ≠ 72) : w'.heap[x]? = some (.cells cs t) := by
  refine (hs.block x (blt hx) ?_).trans hx
  rintro ⟨i, hi, rfl⟩
  obtain ⟨cs', h1⟩ := h.words (4 * f + i) (by omega)
  exact tags hx h1 ht rfl
theorem RefG.save {w w' : World} {b n r : Nat} {bk ck : Nat → Nat} {L : Nat → Nat → Nat} {f : Nat} (h : Graph w b n r bk ck L) (hf : f < n) (hs : Save (fun c => ∃ i, i < 4 ∧ c = ck (4 * f + i)) w w') {b2 : Nat} {v : Value} {rw' : Nat → Nat} {L' : Nat → Nat → Nat} (h2 : RefG w b2 n v rw' L') : RefG w' b2 n v rw' L' := by
  refine ⟨Save.at h hf hs h2.box (by decide), ⟨h2.rows.1, ?_⟩, fun i hi => ?_, h2.apart, h2.small, h2.bound⟩
  · rcases h2.rows.2 with h1 | ⟨g, cap, cur, h1, h3, h4, h5⟩
    · exact .inl h1
    · exact .inr ⟨g, cap, cur, h1, h3, Save.at h hf hs h4 (by decide), h5⟩
  · obtain ⟨cur, h1, h3⟩ := h2.each i hi
    exact ⟨cur, Save.at h hf hs h1 (by decide), h3⟩
/-- A row of the document's graph is written: what is no block of ints stays. -/
theorem RefG.at {w w' : World} {b2 n : Nat} {v : Value} {rw' : Nat → Nat} {L : Nat → Nat → Nat} {f : Nat} (h : RefG w b2 n v rw' L) (hf : f < n) (hs : Beside (rw' f) w w') {x : Nat} {cs : Array Value} {t : TypeId} (hx : w.heap[x]? = some (.cells cs t)) (ht : t ≠ 3) : w'.heap[x]? = some (.cells cs t) := by
  obtain ⟨cur, h1, _⟩ := h.each f hf
  exact (hs.block x (blt hx) (tags hx h1 ht)).trans hx
theorem Graph.beside_row {w w' : World} {b2 n : Nat} {v : Value} {rw' : Nat → Nat} {L : Nat → Nat → Nat} {f : Nat} (h : RefG w b2 n v rw' L) (hf : f < n) (hs : Beside (rw' f) w w') {b r : Nat} {bk ck : Nat → Nat} {L' : Nat → Nat → Nat} (h2 : Graph w b n r bk ck L') : Graph w' b n r bk ck L' := by
  obtain ⟨cur, h3, h4⟩ := h2.row
  refine ⟨h.at hf hs h2.box (by decide), ⟨cur, h.at hf hs h3 (by decide), h4⟩, fun k hk => ?_, h2.apart, h2.small, h2.bound⟩
  obtain ⟨ws, s1, s2⟩ := (h2.sets k hk).ex
  exact ⟨⟨ws, ⟨h.at hf hs s1.box (by decide), h.at hf hs s1.row (by decide), s1.len, s1.small, s1.bound⟩, s2⟩, (h2.sets k hk).top⟩
theorem addWhy_0 {n : Nat} {f t x : Int} (h : addWhy n f t x = 0) : ∃ F T X : Nat, f = F ∧ t = T ∧ x = X ∧ F < n ∧ T < n ∧ 1 ≤ X ∧ X < 16 ∧ F ≠ T := by
  unfold addWhy at h
  split at h
  · cases h
  · split at h
    · cases h
    · exact ⟨f.toNat, t.toNat, x.toNat, by omega, by omega, by omega, by omega, by omega, by omega, by omega, by omega⟩

set_option maxHeartbeats 4000000 in
theorem drawn_no (n : Int) (hn : n < 0 ∨ 300 < n) (ao : Option Addr) (cp : Nat) (es : List (Int × Int × Int)) (w : World) (hz : ArgE w ao es) (hl : es.length ≤ maxLen) :
    Calls Tryd.prog 8 #[.int .i64 n, .slice ao es.length cp] w fun e w' => e = .returned (.tuple #[.pointer none, .pointer none, .bool true]) ∧ Below w.heap.size w w' := by
  unfold maxLen at hl
  have N1 := hid (gnew_no n hn)
  have N2 := hid (rgnew_no n hn)
  have HZ := hid hz
  clear hn hz
  have hlen : (es.length : Int) ≤ 9223372036854775807 := by omega
  go_enter Tryd.func8, Tryd.ntmps8
  go_wp2_with fail
  refine (N1.out _).mono ?_
  rintro e w' ⟨rfl, rfl⟩
  go_wp2_with fail
  refine (N2.out _).mono ?_
  rintro e w' ⟨rfl, rfl⟩
  go_wp2_with fail
  go_loopg [12, 35] es.length (fun g _ i wr => ∃ j : Nat, j ≤ es.length ∧ es.length - j ≤ g ∧ i = .int .i64 j ∧ Aside (Below w.heap.size w wr))
  case atStart => exact ⟨0, Nat.zero_le _, by omega, rfl, Below.refl _ _⟩
  case round =>
    obtain ⟨j, hj, hg, rfl, BX⟩ := hrel
    by_cases hjl : j < es.length
    · have hjli : (j : Int) < es.length := by omega
      obtain ⟨bz, oz, rfl, k1, k2, k3⟩ := HZ.out.later BX.out j hjl
      generalize (es.getD j (0, 0, 0)).1 = x at *
      generalize (es.getD j (0, 0, 0)).2.1 = y at *
      generalize (es.getD j (0, 0, 0)).2.2 = z at *
      go_wp2_with fail
      go_quiet (fail)
      go_wp2_with fail
      go_roundg (es.length - (j + 1))
      · exact ⟨j + 1, by omega, by omega, by go_num, below_drewN (BX.out.trans ((below_box wr _).mono BX.out.size)) _⟩
      · omega
    · have hjli : ¬ (j : Int) < es.length := by omega
      go_wp2_with fail
      refine bodyPost_ret (v := .tuple #[.pointer none, .pointer none, .bool true]) (by simp [results, Tryd.results32, go_sem]) rfl ⟨rfl, BX.out⟩

set_option maxHeartbeats 8000000 in
set_option maxRecDepth 100000 in
theorem drawn_ok (n : Nat) (hn : n ≤ 300) (ao : Option Addr) (cp : Nat) (es : List (Int × Int × Int)) (w : World) (hz : ArgE w ao es) (hl : es.length ≤ maxLen) :
    Calls Tryd.prog 8 #[.int .i64 n, .slice ao es.length cp] w fun e w' => (∃ b b2, e = .returned (.tuple #[.pointer (some ⟨b, 0, none⟩), .pointer (some ⟨b2, 0, none⟩), .bool true]) ∧ Both w.heap.size w' b n b2) ∧ Below w.heap.size w w' := by
  unfold maxLen at hl
  have N1 := hid (gnew_ok n hn)
  have N2 := hid (rgnew_ok n hn)
  have HZ := hid hz
  clear hz
  have hlen : (es.length : Int) ≤ 9223372036854775807 := by omega
  go_enter Tryd.func8, Tryd.ntmps8
  go_wp2_with fail
  refine (N1.out _).mono ?_
  rintro e w1 ⟨rfl, s1, b1⟩
  have S1 := hid s1
  have B1 := hid b1
  clear s1 b1
  go_wp2_with fail
  refine (N2.out _).mono ?_
  rintro e w2 ⟨rfl, ⟨v, rw', m2⟩, b2⟩
  have BO : Hid (Both w.heap.size w2 (w.heap.size + 1) n w1.heap.size) := ⟨_, _, _, v, rw', _, S1.out.later b2, m2.graph hn, fun k _ => by omega, fun i hi => Nat.le_trans B1.out.size (m2.low.2 i hi)⟩
  have B2 : Hid (Below w.heap.size w w2) := B1.out.trans (b2.mono B1.out.size)
  clear b2 m2 S1 B1 N1 N2
  generalize w.heap.size + 1 = b at *
  generalize w1.heap.size = b2 at *
  go_wp2_with fail
  go_loopg [12, 35] es.length (fun g _ i wr => ∃ j : Nat, j ≤ es.length ∧ es.length - j ≤ g ∧ i = .int .i64 j ∧ Aside (Both w.heap.size wr b n b2) ∧ Aside (Below w.heap.size w wr))
  case atStart => exact ⟨0, Nat.zero_le _, by omega, rfl, BO.out, B2.out⟩
  case round =>
    clear BO B2
    obtain ⟨j, hj, hg, rfl, BOX, BX⟩ := hrel
    by_cases hjl : j < es.length
    · have hjli : (j : Int) < es.length := by omega
      obtain ⟨bz, oz, rfl, k1, k2, k3⟩ := HZ.out.later BX.out j hjl
      generalize (es.getD j (0, 0, 0)).1 = x at *
      generalize (es.getD j (0, 0, 0)).2.1 = y at *
      generalize (es.getD j (0, 0, 0)).2.2 = z at *
      go_wp2_with fail
      have KB : Hid ((wr.alloc (.cells #[.int .i64 x, .int .i64 y, .int .i64 z] 41)).heap[wr.heap.size]? = some (.cells #[.int .i64 x, .int .i64 y, .int .i64 z] 41)) := heap_alloc_new wr _
      have T2 : Hid (Both w.heap.size (wr.alloc (.cells #[.int .i64 x, .int .i64 y, .int .i64 z] 41)) b n b2) := BOX.out.later (below_box wr _)
      have B2 : Hid (Below w.heap.size w (wr.alloc (.cells #[.int .i64 x, .int .i64 y, .int .i64 z] 41))) := BX.out.trans ((below_box wr _).mono BX.out.size)
      clear BOX BX k1 k2 k3
      generalize wr.alloc (.cells #[.int .i64 x, .int .i64 y, .int .i64 z] 41) = W at *
      generalize wr.heap.size = kb at *
      have K0 : W.cell? ⟨kb, 0, none⟩ = some (.int .i64 x) := Lib.cell_of_heap KB.out 0
      have K1 : W.cell? ⟨kb, 1, none⟩ = some (.int .i64 y) := Lib.cell_of_heap KB.out 1
      have K2 : W.cell? ⟨kb, 2, none⟩ = some (.int .i64 z) := Lib.cell_of_heap KB.out 2
      obtain ⟨r, bk, ck, v, rw', L, h1, h2, h3, h4⟩ := T2.out
      have G1 := hid h1
      have R1 := hid h2
      have LO1 := hid h3
      have LO2 := hid h4
      clear h1 h2 h3 h4
      by_cases hw : addWhy n x y z = 0
      · obtain ⟨F, T, X, rfl, rfl, rfl, hF, hT, hX1, hX, hne⟩ := addWhy_0 hw
        have HF := hid hF
        have HT := hid hT
        have HX1 := hid hX1
        have HX := hid hX
        have HNE := hid hne
        have W0 : Hid (Below W.heap.size W W.drew) := (Below.refl _ _).drew
        clear hw hF hT hX1 hX hne
        go_region_held3 (fun w' => w'.cell? ⟨kb, 0, none⟩ = some (.int .i64 F) ∧ w'.cell? ⟨kb, 1, none⟩ = some (.int .i64 T) ∧ w'.cell? ⟨kb, 2, none⟩ = some (.int .i64 X)) (go_keep) (first
          | (go_at_call 14; refine (gadd_ok b n r bk ck L F T X _ (G1.out.later W0.out) HF.out HT.out HX1.out HX.out HNE.out).mono ?_; rintro e wa ⟨rfl, sa, ba⟩; have SA := hid sa; have BA := hid ba; have KA := hid (Save.at (G1.out.later W0.out) HF.out ba ((W0.out.block _ (blt KB.out)).trans KB.out) (by decide)); have RA := hid (RefG.save (G1.out.later W0.out) HF.out ba (R1.out.later W0.out)); have kk0 : wa.cell? ⟨kb, 0, none⟩ = some (.int .i64 F) := Lib.cell_of_heap KA.out 0; have kk1 : wa.cell? ⟨kb, 1, none⟩ = some (.int .i64 T) := Lib.cell_of_heap KA.out 1; have kk2 : wa.cell? ⟨kb, 2, none⟩ = some (.int .i64 X) := Lib.cell_of_heap KA.out 2; clear sa ba)
          | (go_at_call 25; refine (rgadd_ok b2 n v rw' L F T X _ RA.out HF.out HT.out HX1.out HX.out HNE.out).mono ?_; rintro e wb ⟨rfl, sb, bb, zb⟩; have SB := hid sb; have BB := hid bb; have KC := hid (RA.out.at HF.out bb KA.out (by decide)); have GB := hid (Graph.beside_row RA.out HF.out bb SA.out); have kk0 : wb.cell? ⟨kb, 0, none⟩ = some (.int .i64 F) := Lib.cell_of_heap KC.out 0; have kk1 : wb.cell? ⟨kb, 1, none⟩ = some (.int .i64 T) := Lib.cell_of_heap KC.out 1; have kk2 : wb.cell? ⟨kb, 2, none⟩ = some (.int .i64 X) := Lib.cell_of_heap KC.out 2; clear sb bb zb))
        all_goals (try go_wp2_with fail)
        have b1 : Below w.heap.size W.drew wa := BA.out.below w.heap.size (fun k hk => by obtain ⟨i, hi, rfl⟩ := hk; exact LO1.out _ (by have := HF.out; omega)) B2.out.drew.size
        have BN : Hid (Below w.heap.size w wb) := (B2.out.drew.trans b1).trans (BB.out.below (LO2.out F HF.out) (B2.out.drew.trans b1).size)
        clear b1
        go_roundg (es.length - (j + 1))
        · exact ⟨j + 1, by omega, by omega, by go_num, ⟨r, bk, ck, v, rw', _, GB.out, SB.out, LO1.out, LO2.out⟩, BN.out⟩
        · omega
      · have Q1 : Hid (∀ q, Calls Tryd.prog 14 #[.pointer (some ⟨b, 0, none⟩), .int .i64 x, .int .i64 y, .int .i64 z] (W.drewN q) fun e w'' => e = .returned (.int .i64 (addWhy n x y z)) ∧ ∃ m, w'' = W.drewN m) := fun q => quietly (gadd_no b n r bk ck L x y z (W.drewN q) (G1.out.later (below_drewN (Below.refl _ _) _)) hw)
        have Q2 : Hid (∀ q, Calls Tryd.prog 25 #[.pointer (some ⟨b2, 0, none⟩), .int .i64 x, .int .i64 y, .int .i64 z] (W.drewN q) fun e w'' => e = .returned (.int .i64 (addWhy n x y z)) ∧ ∃ m, w'' = W.drewN m) := fun q => quietly (rgadd_no b2 n v rw' L x y z (W.drewN q) (R1.out.later (below_drewN (Below.refl _ _) _)) hw)
        clear hw
        generalize addWhy n x y z = why at *
        have hyy : (why == why) = true := by simp
        go_quiet ((first | (go_at_call 14; exact Q1.out _) | (go_at_call 25; exact Q2.out _)))
        go_wp2_with fail
        go_roundg (es.length - (j + 1))
        · exact ⟨j + 1, by omega, by omega, by go_num, T2.out.later (below_drewN (Below.refl _ _) _), below_drewN B2.out _⟩
        · omega
    · have hjli : ¬ (j : Int) < es.length := by omega
      go_wp2_with fail
      refine bodyPost_ret (v := .tuple #[.pointer (some ⟨b, 0, none⟩), .pointer (some ⟨b2, 0, none⟩), .bool true]) (by simp [results, Tryd.results32, go_sem]) rfl ⟨⟨b, b2, rfl, BOX.out⟩, BX.out⟩
end Go.Proofs.YtpkfpfflnncleabDoor
