/-
  An order in memory: New, Add, Less, Sure, Cyclic.
-/
import Derived.Test.YtmnfmilgpglfcaaK3
namespace Go.Proofs.Ytmnfmilgpglfcaa
set_option linter.unusedVariables false
set_option linter.unusedSimpArgs false
open Go.RowKit

/-- x is a block from H on of one of these types. -/
def Tg (ts : List TypeId) (H : Nat) (w : World) (x : Nat) : Prop := H ≤ x ∧ ∃ cs t, w.heap[x]? = some (.cells cs t) ∧ t ∈ ts
theorem Tg.not {ts : List TypeId} {H : Nat} {w : World} {x : Nat} {cs : Array Value} {t : TypeId} (h : w.heap[x]? = some (.cells cs t)) (ht : t ∉ ts) : ¬ Tg ts H w x := by
  rintro ⟨_, cs', t', h', hm⟩
  have e := h.symm.trans h'
  injection e with e
  injection e with e1 e2
  exact ht (e2 ▸ hm)
theorem Tg.trans {ts : List TypeId} {H : Nat} {w w1 w2 : World} (h1 : Gro (Tg ts H w) w w1) (h2 : Gro (Tg ts H w1) w1 w2) : Gro (Tg ts H w) w w2 :=
  ⟨h2.os.trans h1.os, h2.tape.trans h1.tape, h2.output.trans h1.output, Nat.le_trans h1.size h2.size, fun k hk hn => by
    have e := h1.block k hk hn
    exact (h2.block k (Nat.lt_of_lt_of_le hk h1.size) (fun ⟨q1, c, t, q2, q3⟩ => hn ⟨q1, c, t, e.symm.trans q2, q3⟩)).trans e⟩
/-- An order in block b. -/
structure Ord (H : Nat) (w : World) (b n r s : Nat) (bk ck bs cs : Nat → Nat) (R S : Nat → Nat → Bool) : Prop where
  box : w.heap[b]? = some (.cells #[.slice (some ⟨r, 0, none⟩) n n, .slice (some ⟨s, 0, none⟩) n n, .bool true] 42)
  all : RowsAt w r n bk ck R
  sur : RowsAt w s n bs cs S
  far : ∀ i j, i < n → j < n → ck i ≠ cs j
  low : ∀ i, i < n → H ≤ ck i ∧ H ≤ cs i
  bound : n ≤ 300
def Od (H : Nat) (w : World) (b n : Nat) (R S : Nat → Nat → Bool) : Prop := ∃ r s bk ck bs cs, Ord H w b n r s bk ck bs cs R S
theorem RowsAt.tg {P : Nat → Prop} {w w' : World} {r n : Nat} {bk ck : Nat → Nat} {R : Nat → Nat → Bool} (h : RowsAt w r n bk ck R) (hg : Gro P w w') (hP : ∀ x cs t, w.heap[x]? = some (.cells cs t) → t = 43 ∨ t = 56 ∨ t = 53 → ¬ P x) : RowsAt w' r n bk ck R := by
  obtain ⟨cur, h1, h2⟩ := h.row
  refine h.gro hg (hP _ _ _ h1 (.inl rfl)) (fun k hk => ?_) (fun k hk => ?_)
  · obtain ⟨ws, s1, _⟩ := (h.sets k hk).ex
    exact hP _ _ _ s1.box (.inr (.inl rfl))
  · obtain ⟨ws, s1, _⟩ := (h.sets k hk).ex
    exact hP _ _ _ s1.row (.inr (.inr rfl))
theorem Od.gro {P : Nat → Prop} {H : Nat} {w w' : World} {b n : Nat} {R S : Nat → Nat → Bool} (h : Od H w b n R S) (hg : Gro P w w') (hP : ∀ x cs t, w.heap[x]? = some (.cells cs t) → t = 42 ∨ t = 43 ∨ t = 56 ∨ t = 53 → ¬ P x) : Od H w' b n R S := by
  obtain ⟨r, s, bk, ck, bs, cs, h⟩ := h
  exact ⟨r, s, bk, ck, bs, cs, hg.at h.box (hP _ _ _ h.box (.inl rfl)), h.all.tg hg (fun x c t hx ht => hP x c t hx (.inr ht)), h.sur.tg hg (fun x c t hx ht => hP x c t hx (.inr ht)), h.far, h.low, h.bound⟩
theorem Od.later {H : Nat} {w w' : World} {b n : Nat} {R S : Nat → Nat → Bool} (h : Od H w b n R S) (hb : Below w.heap.size w w') : Od H w' b n R S := h.gro (Gro.of_below (P := fun _ => False) hb) (fun _ _ _ _ _ h => h)
theorem Od.bound {H : Nat} {w : World} {b n : Nat} {R S : Nat → Nat → Bool} (h : Od H w b n R S) : n ≤ 300 := by
  obtain ⟨r, s, bk, ck, bs, cs, h⟩ := h
  exact h.bound
theorem Od.congr {H : Nat} {w : World} {b n : Nat} {R S R' S' : Nat → Nat → Bool} (h : Od H w b n R S) (e1 : R = R') (e2 : S = S') : Od H w b n R' S' := by
  subst e1; subst e2; exact h

theorem omade_at (b : Nat) (m : Bool) (w : World) (h : w.cell? ⟨b, 2, none⟩ = some (.bool m)) : Calls Try.prog 12 #[.pointer (some ⟨b, 0, none⟩)] w fun e w' => e = .returned (.bool m) ∧ w = w' := by
  go_enter Try.func12, Try.ntmps12
  go_wp2
  go_ret
  exact ⟨rfl, rfl⟩
theorem omade_nil (w : World) : Calls Try.prog 12 #[.pointer none] w fun e w' => e = .returned (.bool false) ∧ w = w' := by
  go_enter Try.func12, Try.ntmps12
  go_wp2
  go_ret
  exact ⟨rfl, rfl⟩

set_option maxHeartbeats 1000000 in
theorem cnew_ok (n : Nat) (hn : n ≤ 300) (w : World) : Calls Try.prog 8 #[.int .i64 n] w fun e w' => (∃ b, e = .returned (.tuple #[.pointer (some ⟨b, 0, none⟩), .int .i64 0]) ∧ Od w.heap.size w' b n (fun _ _ => false) (fun _ _ => false)) ∧ Below w.heap.size w w' := by
  have h0 : ¬ (n : Int) < 0 := by omega
  have h1 : ¬ (300 : Int) < n := by omega
  go_enter Try.func8, Try.ntmps8
  go_wp2_with fail
  go_at_call 16
  refine (newRows_is n hn _).mono ?_
  rintro e w1 ⟨rfl, r1, b1, z1⟩
  have R1 := hid r1
  have B1 := hid b1
  have Z1 := hid z1
  clear r1 b1 z1
  go_wp2_with fail
  go_at_call 16
  refine (newRows_is n hn _).mono ?_
  rintro e w2 ⟨rfl, r2, b2, z2⟩
  have R2 := hid r2
  have B2 := hid b2
  have Z2 := hid z2
  clear r2 b2 z2
  go_wp2_with fail
  go_ret2
  refine ⟨⟨_, rfl, w.heap.size, w1.heap.size, _, _, _, _, heap_alloc_new w2 _, (R1.out.later B2.out).later (below_box _ _), R2.out.later (below_box _ _), fun i j hi hj => ?_, fun i hi => ?_, hn⟩, (B1.out.trans (B2.out.mono B1.out.size)).trans ((below_box w2 _).mono (Nat.le_trans B1.out.size B2.out.size))⟩
  · have := Z1.out
    show w.heap.size + 1 + 2 * i ≠ w1.heap.size + 1 + 2 * j
    omega
  · have := Z1.out
    show w.heap.size ≤ w.heap.size + 1 + 2 * i ∧ w.heap.size ≤ w1.heap.size + 1 + 2 * i
    omega
theorem cnew_no (n : Int) (hn : n < 0 ∨ 300 < n) (w : World) : Calls Try.prog 8 #[.int .i64 n] w fun e w' => e = .returned (.tuple #[.pointer none, .int .i64 1]) ∧ w = w' := by
  rcases hn with h | h
  · go_enter Try.func8, Try.ntmps8
    go_wp2
    go_ret2
    exact ⟨rfl, rfl⟩
  · have h0 : ¬ n < 0 := by omega
    go_enter Try.func8, Try.ntmps8
    go_wp2
    go_ret2
    exact ⟨rfl, rfl⟩

theorem Ord.c0 {H : Nat} {w : World} {b n r s : Nat} {bk ck bs cs : Nat → Nat} {R S : Nat → Nat → Bool} (h : Ord H w b n r s bk ck bs cs R S) : w.cell? ⟨b, 0, none⟩ = some (.slice (some ⟨r, 0, none⟩) n n) := Lib.cell_of_heap h.box 0
theorem Ord.c1 {H : Nat} {w : World} {b n r s : Nat} {bk ck bs cs : Nat → Nat} {R S : Nat → Nat → Bool} (h : Ord H w b n r s bk ck bs cs R S) : w.cell? ⟨b, 1, none⟩ = some (.slice (some ⟨s, 0, none⟩) n n) := Lib.cell_of_heap h.box 1
theorem Ord.c2 {H : Nat} {w : World} {b n r s : Nat} {bk ck bs cs : Nat → Nat} {R S : Nat → Nat → Bool} (h : Ord H w b n r s bk ck bs cs R S) : w.cell? ⟨b, 2, none⟩ = some (.bool true) := Lib.cell_of_heap h.box 2

set_option maxHeartbeats 1000000 in
theorem less_any (H b n : Nat) (R S : Nat → Nat → Bool) (x y : Int) (w : World) (h : Od H w b n R S) :
    Calls Try.prog 5 #[.pointer (some ⟨b, 0, none⟩), .int .i64 x, .int .i64 y] w fun e w' => e = .returned (.bool (ahd R n x y)) ∧ w = w' := by
  obtain ⟨r, s, bk, ck, bs, cs, h⟩ := h
  have c0 := h.c0
  have M := hid (omade_at b true w h.c2)
  have A := hid (ahead_any r n bk ck R x y w h.all h.bound)
  clear h
  generalize ahd R n x y = t at *
  go_enter Try.func5, Try.ntmps5
  go_wp2_with (first | (go_at_call 12; refine M.out.mono ?_; rintro e w' ⟨rfl, rfl⟩) | (go_at_call 13; refine A.out.mono ?_; rintro e w' ⟨rfl, rfl⟩))
  go_ret
  exact ⟨rfl, rfl⟩
/-- Both are there. -/
def inB (n : Nat) (a b : Int) : Bool := decide (0 ≤ a) && decide (a < n) && decide (0 ≤ b) && decide (b < n)
set_option maxHeartbeats 1000000 in
theorem cadd_off (H b n : Nat) (R S : Nat → Nat → Bool) (x y : Int) (t : Bool) (w : World) (h : Od H w b n R S) (hi : inB n x y = false) :
    Calls Try.prog 10 #[.pointer (some ⟨b, 0, none⟩), .int .i64 x, .int .i64 y, .bool t] w fun e w' => e = .returned (.int .i64 1) ∧ w = w' := by
  obtain ⟨r, s, bk, ck, bs, cs, h⟩ := h
  have c0 := h.c0
  have M := hid (omade_at b true w h.c2)
  clear h
  by_cases hx : x < 0 ∨ (n : Int) ≤ x
  · have T := hid (rthere_no (some ⟨r, 0, none⟩) n n x w hx)
    clear hx hi
    go_enter Try.func10, Try.ntmps10
    go_wp2_with (first | (go_at_call 12; refine M.out.mono ?_; rintro e w' ⟨rfl, rfl⟩) | (go_at_call 17; refine T.out.mono ?_; rintro e w' ⟨rfl, rfl⟩))
    go_ret
    exact ⟨rfl, rfl⟩
  · obtain ⟨X, rfl⟩ : ∃ X : Nat, x = X := ⟨x.toNat, by omega⟩
    have hX : X < n := by omega
    have hy : y < 0 ∨ (n : Int) ≤ y := by
      unfold inB at hi
      simp [hX] at hi
      omega
    have T := hid (rthere_ok (some ⟨r, 0, none⟩) n n X w hX)
    have T2 := hid (rthere_no (some ⟨r, 0, none⟩) n n y w hy)
    clear hx hi hy hX
    go_enter Try.func10, Try.ntmps10
    go_wp2_with (go_at_call 12; refine M.out.mono ?_; rintro e w' ⟨rfl, rfl⟩)
    go_at_call 17
    refine T.out.mono ?_
    rintro e w' ⟨rfl, rfl⟩
    go_wp2_with fail
    go_at_call 17
    refine T2.out.mono ?_
    rintro e w' ⟨rfl, rfl⟩
    go_wp2_with fail
    go_ret
    exact ⟨rfl, rfl⟩
theorem Ord.grown {H : Nat} {w w' : World} {b n r s : Nat} {bk ck bs cs : Nat → Nat} {R S R' : Nat → Nat → Bool} (h : Ord H w b n r s bk ck bs cs R S) (h2 : RowsAt w' r n bk ck R') (hg : Gro (Wds n ck) w w') : Ord H w' b n r s bk ck bs cs R' S ∧ Gro (Tg [53] H w) w w' := by
  refine ⟨⟨hg.at h.box (h.all.not_words h.box (by decide)), h2, h.sur.gro hg ?_ ?_ ?_, h.far, h.low, h.bound⟩, hg.mono ?_⟩
  · obtain ⟨cur, h1, _⟩ := h.sur.row
    exact h.all.not_words h1 (by decide)
  · intro k hk
    obtain ⟨ws, s1, _⟩ := (h.sur.sets k hk).ex
    exact h.all.not_words s1.box (by decide)
  · rintro k hk ⟨i, hi, e⟩
    exact h.far i k hi hk e.symm
  · rintro k ⟨i, hi, rfl⟩
    obtain ⟨c, h1⟩ := (h.all.sets i hi).words
    exact ⟨(h.low i hi).1, c, 53, h1, by simp⟩
theorem Ord.turn {H : Nat} {w : World} {b n r s : Nat} {bk ck bs cs : Nat → Nat} {R S : Nat → Nat → Bool} (h : Ord H w b n r s bk ck bs cs R S) {w' : World} {S' : Nat → Nat → Bool} (h2 : RowsAt w' s n bs cs S') (hg : Gro (Wds n cs) w w') : Ord H w' b n r s bk ck bs cs R S' ∧ Gro (Tg [53] H w) w w' := by
  refine ⟨⟨hg.at h.box (h.sur.not_words h.box (by decide)), h.all.gro hg ?_ ?_ ?_, h2, h.far, h.low, h.bound⟩, hg.mono ?_⟩
  · obtain ⟨cur, h1, _⟩ := h.all.row
    exact h.sur.not_words h1 (by decide)
  · intro k hk
    obtain ⟨ws, s1, _⟩ := (h.all.sets k hk).ex
    exact h.sur.not_words s1.box (by decide)
  · rintro k hk ⟨i, hi, e⟩
    exact h.far k i hk hi e
  · rintro k ⟨i, hi, rfl⟩
    obtain ⟨c, h1⟩ := (h.sur.sets i hi).words
    exact ⟨(h.low i hi).2, c, 53, h1, by simp⟩
set_option maxHeartbeats 2000000 in
theorem cadd_ok (H b n : Nat) (R S : Nat → Nat → Bool) (x y : Nat) (t : Bool) (w : World) (h : Od H w b n R S) (hx : x < n) (hy : y < n) (hT : Tr R) (hS : Tr S) :
    Calls Try.prog 10 #[.pointer (some ⟨b, 0, none⟩), .int .i64 x, .int .i64 y, .bool t] w fun e w' => e = .returned (.int .i64 0) ∧ Od H w' b n (joinR R x y) (if t then joinR S x y else S) ∧ Gro (Tg [53] H w) w w' := by
  obtain ⟨r, s, bk, ck, bs, cs, h⟩ := h
  have c0 := h.c0
  have M := hid (omade_at b true w h.c2)
  have T1 := hid (rthere_ok (some ⟨r, 0, none⟩) n n x w hx)
  have T2 := hid (rthere_ok (some ⟨r, 0, none⟩) n n y w hy)
  have J := hid (join_is r n bk ck R x y w h.all h.bound hx hy hT)
  have HO := hid h
  have HS := hid hS
  clear h hT hS
  go_enter Try.func10, Try.ntmps10
  go_wp2_with (go_at_call 12; refine M.out.mono ?_; rintro e w' ⟨rfl, rfl⟩)
  go_at_call 17
  refine T1.out.mono ?_
  rintro e w' ⟨rfl, rfl⟩
  go_wp2_with fail
  go_at_call 17
  refine T2.out.mono ?_
  rintro e w' ⟨rfl, rfl⟩
  go_wp2_with fail
  go_at_call 18
  refine J.out.mono ?_
  rintro e w1 ⟨rfl, r1, g1⟩
  obtain ⟨o1, k1⟩ := HO.out.grown r1 g1
  have c1 := o1.c1
  have O1 := hid o1
  have K1 := hid k1
  clear r1 g1 o1 k1 c0 T1 T2 M J HO
  cases t with
  | false =>
    go_wp2_with fail
    go_ret
    exact ⟨rfl, ⟨r, s, bk, ck, bs, cs, O1.out⟩, K1.out⟩
  | true =>
    go_wp2_with fail
    go_at_call 18
    refine (join_is s n bs cs S x y w1 O1.out.sur O1.out.bound hx hy HS.out).mono ?_
    rintro e w2 ⟨rfl, r2, g2⟩
    obtain ⟨o2, k2⟩ := O1.out.turn r2 g2
    have O2 := hid o2
    have K2 := hid k2
    clear r2 g2 o2 k2
    go_wp2_with fail
    go_ret
    exact ⟨rfl, ⟨r, s, bk, ck, bs, cs, O2.out⟩, Tg.trans K1.out K2.out⟩
/-- A thing stands ahead of itself. -/
def cyc (R : Nat → Nat → Bool) (n : Nat) : Bool := (List.range n).any fun i => R i i
theorem cyc_succ (R : Nat → Nat → Bool) (n : Nat) : cyc R (n + 1) = (cyc R n || R n n) := by
  unfold cyc
  rw [List.range_succ, List.any_append]
  simp
theorem cyc_true {R : Nat → Nat → Bool} {n k : Nat} (hk : k < n) (h : R k k = true) : cyc R n = true := by
  unfold cyc
  rw [List.any_eq_true]
  exact ⟨k, List.mem_range.2 hk, h⟩
set_option maxHeartbeats 1000000 in
theorem cyclic_is (H b n : Nat) (R S : Nat → Nat → Bool) (w : World) (h : Od H w b n R S) :
    Calls Try.prog 6 #[.pointer (some ⟨b, 0, none⟩)] w fun e w' => e = .returned (.bool (cyc R n)) ∧ w = w' := by
  obtain ⟨r, s, bk, ck, bs, cs, h⟩ := h
  have c0 := h.c0
  have M := hid (omade_at b true w h.c2)
  have hni : (n : Int) ≤ 300 := by have := h.bound; omega
  have A := hid h.all
  clear h
  go_enter Try.func6, Try.ntmps6
  go_wp2_with (go_at_call 12; refine M.out.mono ?_; rintro e w' ⟨rfl, rfl⟩)
  go_loopg [3, 4, 13] n (fun g _ _ i wr => ∃ k : Nat, k ≤ n ∧ n - k ≤ g ∧ i = .int .i64 k ∧ Aside (cyc R k = false) ∧ w = wr)
  case atStart => exact ⟨0, Nat.zero_le _, by omega, rfl, rfl, rfl⟩
  case round =>
    obtain ⟨k, hk, hg, rfl, CX, rfl⟩ := hrel
    by_cases hlt : k < n
    · have hlti : (k : Int) < n := by omega
      have ckk := A.out.cell k hlt
      have HA := hid (has_is _ _ _ _ k _ (A.out.sets k hlt) hlt)
      cases hR : R k k with
      | true =>
        have E := hid (cyc_true hlt hR)
        rw [hR] at HA
        clear hR
        go_wp2_with (go_at_call 14; refine HA.out.mono ?_; rintro e w' ⟨rfl, rfl⟩)
        go_ret
        exact ⟨by rw [E.out]; rfl, rfl⟩
      | false =>
        have E : Hid (cyc R (k + 1) = false) := by show _ = _; rw [cyc_succ, CX.out, hR]; rfl
        rw [hR] at HA
        clear hR
        go_wp2_with (go_at_call 14; refine HA.out.mono ?_; rintro e w' ⟨rfl, rfl⟩)
        go_roundg (n - (k + 1))
        · exact ⟨k + 1, by omega, by omega, by go_num, E.out, rfl⟩
        · omega
    · have hlti : ¬ (k : Int) < n := by omega
      obtain rfl : n = k := by omega
      have E := hid CX.out
      clear CX
      go_wp2_with fail
      go_ret
      exact ⟨by rw [E.out]; rfl, rfl⟩
end Go.Proofs.Ytmnfmilgpglfcaa
