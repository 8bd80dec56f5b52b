/-
  slices.Clone and slices.Equal of dependencies; the program's Find.
-/
import Derived.Test.YtdihbeffomibeaaGreatDoorY3
namespace Go.Proofs.YtdihbeffomibeaaGreatDoor
set_option linter.unusedVariables false
set_option linter.unusedSimpArgs false
open Go.RowKit Go.Lib

theorem Tryz.infoW : (Tryz.prog.info? 25).map (fun i => (i.zero, i.size, i.bytes)) = some (some (.agg #[.int .i64 0, .int .i64 0, .int .i64 0, .string ByteArray.empty, .int .i64 0, .int .i64 0, .bool false, .bool false]), 8, 64) := by kernel_rfl

theorem clone_nil (n c : Nat) (w : World) :
    Calls Tryz.prog 7 #[.slice none n c] w fun e w' => e = .returned (.slice none 0 0) ∧ w' = w := by
  have q22 : ∀ (w : World) (a : Option Addr) (n c n' c' : Nat), (binOp .eql 22 (.slice a n c) (.slice none n' c')).run Tryz.prog w = .ok (.bool a.isNone) w := fun w a n c n' c' => Lib.run_eql_slice_nil w _ _ a n c n' c' Tryz.underlying22
  go_enter Tryz.func7, Tryz.ntmps7
  go_wp2
  go_ret
  exact ⟨rfl, rfl⟩

set_option maxHeartbeats 2000000 in
set_option maxRecDepth 100000 in
theorem clone_some (ad : Addr) (c n : Nat) (f : Nat → MW) (w : World) (hbig : n * 64 ≤ 140737488355328) (hc : Lw w (some ad) n f) :
    Calls Tryz.prog 7 #[.slice (some ad) n c] w fun e w' => ∃ v', e = .returned v' ∧ w'.ownsRow w.heap.size 25 8 v' n (rowsW f n).flatten ∧ Below w.heap.size w w' := by
  obtain ⟨i0, hi, hz0, hz1, hz2⟩ := info_parts Tryz.infoW
  have q22 : ∀ (w : World) (a : Option Addr) (n c n' c' : Nat), (binOp .eql 22 (.slice a n c) (.slice none n' c')).run Tryz.prog w = .ok (.bool a.isNone) w := fun w a n c n' c' => Lib.run_eql_slice_nil w _ _ a n c n' c' Tryz.underlying22
  have u22 : ∀ w, Sem.run Tryz.prog (underlying 22) w = .ok (TypeDesc.slice 25) w := run_underlying Tryz.underlying22
  have A := hid hc
  clear hc
  go_enter Tryz.func7, Tryz.ntmps7
  go_wp2_with (at_builtin; refine wpList_append_own _ rfl _ _ 22 rfl w.heap.size 25 i0 _ 8 64 Tryz.underlying22 hi hz0 hz1 hz2 rfl (by decide) _ _ _ rfl (World.ownsRow_made w #[] 0 (Nat.le_refl _) (Nat.zero_le _) rfl) ad n c (rowsW f n).flatten rfl ?qc1 ?qc2 ?qc3 ?qc4 ?qc5 ?qc6 ?_)
  case qc1 => rw [flatten_len 8 _ (rowsW_size f n), rowsW_len]
  case qc2 => exact fun j u hj => Lib.cell?_alloc_some _ (A.out.news j u hj)
  case qc3 => exact rowsW_one f n
  case qc4 => unfold maxLen; omega
  case qc5 => omega
  case qc6 => simp
  intro v' w1 hown hgrow hnil
  go_wp2
  go_ret
  refine ⟨v', rfl, by simpa using hown, ?_⟩
  exact ((Below.refl _ w).alloc (Nat.le_refl _) _).grown hgrow (by simp) (by intro k hk; simp [Value.ownBlock] at hk; omega)

/-- slices.Clone of dependencies. -/
theorem clone_any (ao : Option Addr) (c n : Nat) (f : Nat → MW) (w : World) (hbig : n * 64 ≤ 140737488355328) (hc : Lw w ao n f) :
    Calls Tryz.prog 7 #[.slice ao n c] w fun e w' => ∃ ao' c', e = .returned (.slice ao' n c') ∧ n ≤ c' ∧ Lw w' ao' n f ∧ Below w.heap.size w w' := by
  cases ao with
  | none =>
    have h0 : n = 0 := by
      by_cases h : 0 < n
      · obtain ⟨b, off, ha, _⟩ := hc 0 h; cases ha
      · omega
    subst h0
    refine (clone_nil _ c w).mono fun e w' ⟨he, hw⟩ => ⟨_, _, he, Nat.le_refl _, fun j hj => by omega, ?_⟩
    rw [hw]; exact Below.refl _ _
  | some ad =>
    refine (clone_some ad c n f w hbig hc).mono fun e w' ⟨v', he, hown, hb⟩ => ?_
    obtain ⟨ao, c, rfl, h1, h2⟩ := owns_lw (m := 0) hown
    exact ⟨ao, c, he, h1, h2, hb⟩

set_option maxHeartbeats 4000000 in
set_option maxRecDepth 100000 in
/-- slices.Equal of a list and itself. -/
theorem equal_is (a1 a2 : Option Addr) (c1 c2 n : Nat) (f : Nat → MW) (w : World) (h1 : Lw w a1 n f) (h2 : Lw w a2 n f) (hn : n ≤ 100) :
    Calls Tryz.prog 10 #[.slice a1 n c1, .slice a2 n c2] w fun e w' => e = .returned (.bool true) ∧ ∃ q, w' = w.drewN q := by
  have H1 := hid h1
  have H2 := hid h2
  clear h1 h2
  have hlen : (n : Int) ≤ 100 := by omega
  have hq : ((n : Int) == (n : Int)) = true := by simp
  go_enter Tryz.func10, Tryz.ntmps10
  go_wp2_with fail
  go_loopg [5, 13] n (fun g _ i wr => ∃ k : Nat, k ≤ n ∧ n - k ≤ g ∧ i = .int .i64 k ∧ Aside (∃ q, wr = w.drewN q))
  case atStart => exact ⟨0, Nat.zero_le _, by omega, rfl, 0, rfl⟩
  case round =>
    obtain ⟨k, hk, hg, rfl, QX⟩ := hrel
    obtain ⟨q, rfl⟩ := QX.out
    by_cases hlt : k < n
    · have hlti : (k : Int) < (n : Int) := by omega
      obtain ⟨b1, o1, rfl, -, d0, d1, d2, d3, d4, d5, d6, d7⟩ := H1.out.eight k hlt
      obtain ⟨b2, o2, rfl, -, e0, e1, e2, e3, e4, e5, e6, e7⟩ := H2.out.eight k hlt
      generalize f k = X at *
      obtain ⟨x0, x1, x2, x3, x4, x5, x6, x7⟩ := X
      simp only [MW.src, MW.dst, MW.lab, MW.key, MW.va, MW.vb, MW.nl, MW.cond] at d0 d1 d2 d3 d4 d5 d6 d7 e0 e1 e2 e3 e4 e5 e6 e7
      go_wp2_with fail
      go_region
      go_wp2_with fail
      go_roundg (n - (k + 1))
      case measure => omega
      case rel => exact ⟨k + 1, by omega, by omega, by go_num, ⟨q + 1, rfl⟩⟩
    · have hlti : ¬ (k : Int) < (n : Int) := by omega
      go_wp2_with fail
      go_ret
      exact ⟨rfl, q, rfl⟩

/-- A dependency in a box. -/
def Bw (w : World) (p : Nat) (x : MW) : Prop := p < w.heap.size ∧ (∀ o, w.frozen? ⟨p, o, none⟩ = false) ∧ ∀ i u, (encW x)[i]? = some u → w.cell? ⟨p, i, none⟩ = some u
theorem Bw.later {w w' : World} {p : Nat} {x : MW} (h : Bw w p x) (hb : Below w.heap.size w w') : Bw w' p x :=
  ⟨Nat.lt_of_lt_of_le h.1 hb.size, fun o => (hb.frozen (p := ⟨p, o, none⟩) h.1).trans (h.2.1 o), fun i u hi => (hb.cell (p := ⟨p, i, none⟩) h.1).trans (h.2.2 i u hi)⟩
theorem Bw.eight {w : World} {p : Nat} {x : MW} (h : Bw w p x) : w.cell? ⟨p, 0, none⟩ = some (.int .i64 x.src) ∧ w.cell? ⟨p, 1, none⟩ = some (.int .i64 x.dst) ∧ w.cell? ⟨p, 2, none⟩ = some (.int .i64 x.lab) ∧ w.cell? ⟨p, 3, none⟩ = some (.string x.key) ∧ w.cell? ⟨p, 4, none⟩ = some (.int .i64 x.va) ∧ w.cell? ⟨p, 5, none⟩ = some (.int .i64 x.vb) ∧ w.cell? ⟨p, 6, none⟩ = some (.bool x.nl) ∧ w.cell? ⟨p, 7, none⟩ = some (.bool x.cond) :=
  ⟨h.2.2 0 _ rfl, h.2.2 1 _ rfl, h.2.2 2 _ rfl, h.2.2 3 _ rfl, h.2.2 4 _ rfl, h.2.2 5 _ rfl, h.2.2 6 _ rfl, h.2.2 7 _ rfl⟩
theorem Bw.made (w : World) (x0 x1 x2 : Int) (x3 : ByteArray) (x4 x5 : Int) (x6 x7 : Bool) (ty : TypeId) : Bw (w.alloc (.cells #[.int .i64 x0, .int .i64 x1, .int .i64 x2, .string x3, .int .i64 x4, .int .i64 x5, .bool x6, .bool x7] ty)) w.heap.size (x0, x1, x2, x3, x4, x5, x6, x7) := by
  refine ⟨by simp, fun o => by simp, fun i u hi => ?_⟩
  match i with
  | 0 => simp [encW] at hi; subst hi; simp
  | 1 => simp [encW] at hi; subst hi; simp
  | 2 => simp [encW] at hi; subst hi; simp
  | 3 => simp [encW] at hi; subst hi; simp
  | 4 => simp [encW] at hi; subst hi; simp
  | 5 => simp [encW] at hi; subst hi; simp
  | 6 => simp [encW] at hi; subst hi; simp
  | 7 => simp [encW] at hi; subst hi; simp
  | n + 8 => simp [encW] at hi

theorem size_put (b : Nat) : ∀ (vs : List Value) (o : Nat) (w : World), (w.setCells b o vs).heap.size = w.heap.size
  | [], _, _ => rfl
  | v :: vs, o, w => (size_put b vs (o + 1) _).trans (by simp [World.setCell])
theorem Bw.put {w : World} {p : Nat} {y : MW} (h : Bw w p y) (x : MW) : Bw (w.setCells p 0 (encW x)) p x := by
  refine ⟨by rw [size_put]; exact h.1, fun o => by rw [World.frozen?_setCells]; exact h.2.1 o, fun i u hi => ?_⟩
  have hi8 : i < (encW x).length := (List.getElem?_eq_some_iff.1 hi).1
  have := World.cell?_setCells_in p (encW x) 0 w (fun j hj => by
    obtain ⟨u0, hu0⟩ : ∃ u0, (encW y)[j]? = some u0 := ⟨_, List.getElem?_eq_getElem (show j < (encW y).length from hj)⟩
    rw [Nat.zero_add, h.2.2 j u0 hu0]
    rfl) i hi8
  rw [Nat.zero_add] at this
  rw [this, ← hi, List.getElem?_eq_getElem hi8]
theorem Bw.far {w : World} {p q : Nat} {y : MW} (h : Bw w q y) (l : List Value) (hne : q ≠ p) : Bw (w.setCells p 0 l) q y := by
  refine ⟨by rw [size_put]; exact h.1, fun o => by rw [World.frozen?_setCells]; exact h.2.1 o, fun i u hi => ?_⟩
  rw [World.cell?_setCells_out p _ _ _ _ (fun e _ => absurd e hne)]
  exact h.2.2 i u hi
theorem below_put {B : Nat} {w : World} (p : Nat) (hp : B ≤ p) : ∀ (l : List Value) (o : Nat) (w1 : World), Below B w w1 → Below B w (w1.setCells p o l)
  | [], _, _, h => h
  | v :: l, o, w1, h => below_put p hp l (o + 1) _ (h.setCell hp v)

/-- What a call of Find comes to. -/
def FindPost (f : Nat → MW) (n : Nat) (a b c : Int) (w : World) (e : Ending) (w' : World) : Prop := ∃ x ok, e = .returned (.tuple #[.agg (encW x).toArray, .bool ok]) ∧ IsFind f n a b c x ok ∧ Below w.heap.size w w'

set_option maxHeartbeats 4000000 in
set_option maxRecDepth 100000 in
theorem find_is (ao : Option Addr) (cp n : Nat) (f : Nat → MW) (a b c : Int) (w : World) (hl : Lw w ao n f) (hn : n ≤ 100) :
    Calls Tryz.prog 21 #[.slice ao n cp, .int .i64 a, .int .i64 b, .int .i64 c] w fun e w' => FindPost f n a b c w e w' := by
  have H := hid hl
  clear hl
  go_enter Tryz.func21, Tryz.ntmps21
  go_wp2_with fail
  obtain ⟨w0, hw0⟩ : ∃ w0, ((w.alloc (.cells #[.int .i64 0, .int .i64 0, .int .i64 0, .string ⟨#[]⟩, .int .i64 0, .int .i64 0, .bool false, .bool false] 25)).alloc (.cells #[.int .i64 0, .int .i64 0, .int .i64 0, .string ⟨#[]⟩, .int .i64 0, .int .i64 0, .bool false, .bool false] 25)) = w0 := ⟨_, rfl⟩
  have B0 : Hid (Below w.heap.size w w0) := by
    show Below _ _ _
    rw [← hw0]
    exact ((Below.refl _ w).alloc (Nat.le_refl _) _).alloc (by simp) _
  have R0 : Hid (Bw w0 w.heap.size MW.zero) := by
    show Bw _ _ _
    rw [← hw0]
    exact (Bw.made w 0 0 0 ⟨#[]⟩ 0 0 false false 25).later ((Below.refl _ _).alloc (Nat.le_refl _) _)
  have F0 : Hid (Bw w0 (w.heap.size + 1) MW.zero) := by
    show Bw _ _ _
    rw [← hw0]
    have := Bw.made (w.alloc (.cells #[.int .i64 0, .int .i64 0, .int .i64 0, .string ⟨#[]⟩, .int .i64 0, .int .i64 0, .bool false, .bool false] 25)) 0 0 0 ⟨#[]⟩ 0 0 false false 25
    rw [show (w.alloc (.cells #[.int .i64 0, .int .i64 0, .int .i64 0, .string ⟨#[]⟩, .int .i64 0, .int .i64 0, .bool false, .bool false] 25)).heap.size = w.heap.size + 1 by simp] at this
    exact this
  rw [hw0]
  clear hw0
  obtain ⟨N, hN⟩ : ∃ N, w.heap.size = N := ⟨_, rfl⟩
  rw [hN] at B0 R0 F0 ⊢
  have HN := hid hN
  clear hN
  go_loopg [11, 13, 16] n (fun g okv _ i wr => ∃ (k : Nat) (x : MW) (okb : Bool), k ≤ n ∧ n - k ≤ g ∧ i = .int .i64 k ∧ okv = .bool okb ∧ Aside (Below N w wr ∧ Bw wr N MW.zero ∧ Bw wr (N + 1) x ∧ Fs f k a b c x okb))
  case atStart => exact ⟨0, MW.zero, false, Nat.zero_le _, by omega, rfl, rfl, (⟨B0.out, R0.out, F0.out, Fs.first _ _ _ _⟩ : _ ∧ _ ∧ _ ∧ _)⟩
  case round =>
    obtain ⟨k, x, okb, hk, hg, rfl, rfl, T⟩ := hrel
    by_cases hlt : k < n
    · have hlti : (k : Int) < (n : Int) := by omega
      have HL : Hid (Lw wr ao n f) := H.out.later (by rw [HN.out]; exact T.out.1)
      obtain ⟨bb, o, rfl, hbl, d0, d1, d2, d3, d4, d5, d6, d7⟩ := HL.out.eight k hlt
      obtain ⟨r0, r1, r2, r3, r4, r5, r6, r7⟩ := T.out.2.1.eight
      obtain ⟨f0, f1, f2, f3, f4, f5, f6, f7⟩ := T.out.2.2.1.eight
      have zr := T.out.2.1.2.1
      have zf := T.out.2.2.1.2.1
      have l1 : N < wr.heap.size := T.out.2.1.1
      have l2 : N + 1 < wr.heap.size := T.out.2.2.1.1
      obtain ⟨X, hX⟩ : ∃ X, f k = X := ⟨_, rfl⟩
      have HX := hid hX
      rw [hX] at d0 d1 d2 d3 d4 d5 d6 d7
      clear hX
      obtain ⟨x0, x1, x2, x3, x4, x5, x6, x7⟩ := X
      obtain ⟨y0, y1, y2, y3, y4, y5, y6, y7⟩ := x
      simp only [MW.src, MW.dst, MW.lab, MW.key, MW.va, MW.vb, MW.nl, MW.cond, MW.zero] at d0 d1 d2 d3 d4 d5 d6 d7 r0 r1 r2 r3 r4 r5 r6 r7 f0 f1 f2 f3 f4 f5 f6 f7
      by_cases h1 : x0 = a
      · by_cases h2 : x1 = b
        · by_cases h3 : x2 = c
          · have hm : Hid (mt f a b c k) := ⟨by rw [HX.out]; exact h1, by rw [HX.out]; exact h2, by rw [HX.out]; exact h3⟩
            subst h1 h2 h3
            cases x7 with
            | false =>
              have FI := hid (T.out.2.2.2.found hlt hm.out (by rw [HX.out]))
              rw [HX.out] at FI
              have G1 : Hid (Bw ((wr.setCells N 0 (encW (x0, x1, x2, x3, x4, x5, x6, false))).alloc (.cells #[.int .i64 x0, .int .i64 x1, .int .i64 x2, .string x3, .int .i64 x4, .int .i64 x5, .bool x6, .bool false] 25)) N (x0, x1, x2, x3, x4, x5, x6, false)) := (T.out.2.1.put _).later ((Below.refl _ _).alloc (Nat.le_refl _) _)
              have G2 : Hid (Below N w ((wr.setCells N 0 (encW (x0, x1, x2, x3, x4, x5, x6, false))).alloc (.cells #[.int .i64 x0, .int .i64 x1, .int .i64 x2, .string x3, .int .i64 x4, .int .i64 x5, .bool x6, .bool false] 25))) := (below_put N (Nat.le_refl _) _ _ _ T.out.1).alloc (by rw [size_put]; omega) _
              go_wp2_with fail
              change bodyPost Tryz.prog Tryz.f21 _ Exit.ret _ ((wr.setCells N 0 (encW (x0, x1, x2, x3, x4, x5, x6, false))).alloc (.cells #[.int .i64 x0, .int .i64 x1, .int .i64 x2, .string x3, .int .i64 x4, .int .i64 x5, .bool x6, .bool false] 25))
              generalize (wr.setCells N 0 (encW (x0, x1, x2, x3, x4, x5, x6, false))).alloc (.cells #[.int .i64 x0, .int .i64 x1, .int .i64 x2, .string x3, .int .i64 x4, .int .i64 x5, .bool x6, .bool false] 25) = w9 at *
              obtain ⟨q0, q1, q2, q3, q4, q5, q6, q7⟩ := G1.out.eight
              simp only [MW.src, MW.dst, MW.lab, MW.key, MW.va, MW.vb, MW.nl, MW.cond] at q0 q1 q2 q3 q4 q5 q6 q7
              refine bodyPost_ret (v := .tuple #[.agg (encW (x0, x1, x2, x3, x4, x5, x6, false)).toArray, .bool true]) (by simp [results, Tryz.results21, go_sem, q0, q1, q2, q3, q4, q5, q6, q7, encW]) rfl ⟨_, _, rfl, FI.out, by rw [HN.out]; exact G2.out⟩
            | true =>
              cases okb with
              | false =>
                have FI := hid (T.out.2.2.2.take hm.out (by rw [HX.out]))
                rw [HX.out] at FI
                have G1 : Hid (Bw ((wr.setCells (N + 1) 0 (encW (x0, x1, x2, x3, x4, x5, x6, true))).alloc (.cells #[.int .i64 x0, .int .i64 x1, .int .i64 x2, .string x3, .int .i64 x4, .int .i64 x5, .bool x6, .bool true] 25)) (N + 1) (x0, x1, x2, x3, x4, x5, x6, true)) := (T.out.2.2.1.put _).later ((Below.refl _ _).alloc (Nat.le_refl _) _)
                have G0 : Hid (Bw ((wr.setCells (N + 1) 0 (encW (x0, x1, x2, x3, x4, x5, x6, true))).alloc (.cells #[.int .i64 x0, .int .i64 x1, .int .i64 x2, .string x3, .int .i64 x4, .int .i64 x5, .bool x6, .bool true] 25)) N MW.zero) := (T.out.2.1.far _ (by omega)).later ((Below.refl _ _).alloc (Nat.le_refl _) _)
                have G2 : Hid (Below N w ((wr.setCells (N + 1) 0 (encW (x0, x1, x2, x3, x4, x5, x6, true))).alloc (.cells #[.int .i64 x0, .int .i64 x1, .int .i64 x2, .string x3, .int .i64 x4, .int .i64 x5, .bool x6, .bool true] 25))) := (below_put (N + 1) (by omega) _ _ _ T.out.1).alloc (by rw [size_put]; omega) _
                go_wp2_with fail
                go_roundg (n - (k + 1))
                case measure => omega
                case rel => exact ⟨k + 1, (x0, x1, x2, x3, x4, x5, x6, true), true, by omega, by omega, by go_num, rfl, (⟨G2.out, G0.out, G1.out, FI.out⟩ : _ ∧ _ ∧ _ ∧ _)⟩
              | true =>
                have FI := hid (T.out.2.2.2.more (by rw [HX.out]))
                have G2 : Hid (Below N w (wr.alloc (.cells #[.int .i64 x0, .int .i64 x1, .int .i64 x2, .string x3, .int .i64 x4, .int .i64 x5, .bool x6, .bool true] 25))) := T.out.1.alloc (by omega) _
                have G0 : Hid (Bw (wr.alloc (.cells #[.int .i64 x0, .int .i64 x1, .int .i64 x2, .string x3, .int .i64 x4, .int .i64 x5, .bool x6, .bool true] 25)) N MW.zero) := T.out.2.1.later ((Below.refl _ _).alloc (Nat.le_refl _) _)
                have G1 : Hid (Bw (wr.alloc (.cells #[.int .i64 x0, .int .i64 x1, .int .i64 x2, .string x3, .int .i64 x4, .int .i64 x5, .bool x6, .bool true] 25)) (N + 1) (y0, y1, y2, y3, y4, y5, y6, y7)) := T.out.2.2.1.later ((Below.refl _ _).alloc (Nat.le_refl _) _)
                go_wp2_with fail
                go_roundg (n - (k + 1))
                case measure => omega
                case rel => exact ⟨k + 1, (y0, y1, y2, y3, y4, y5, y6, y7), true, by omega, by omega, by go_num, rfl, (⟨G2.out, G0.out, G1.out, FI.out⟩ : _ ∧ _ ∧ _ ∧ _)⟩
          · subst h1 h2
            have hq : (x2 == c) = false := by simp [h3]
            have hq2 : ¬ x2 = c := h3
            have FI := hid (T.out.2.2.2.no (fun hm => h3 (by rw [← hm.2.2, HX.out])))
            have G2 : Hid (Below N w (wr.alloc (.cells #[.int .i64 x0, .int .i64 x1, .int .i64 x2, .string x3, .int .i64 x4, .int .i64 x5, .bool x6, .bool x7] 25))) := T.out.1.alloc (by omega) _
            have G0 : Hid (Bw (wr.alloc (.cells #[.int .i64 x0, .int .i64 x1, .int .i64 x2, .string x3, .int .i64 x4, .int .i64 x5, .bool x6, .bool x7] 25)) N MW.zero) := T.out.2.1.later ((Below.refl _ _).alloc (Nat.le_refl _) _)
            have G1 : Hid (Bw (wr.alloc (.cells #[.int .i64 x0, .int .i64 x1, .int .i64 x2, .string x3, .int .i64 x4, .int .i64 x5, .bool x6, .bool x7] 25)) (N + 1) (y0, y1, y2, y3, y4, y5, y6, y7)) := T.out.2.2.1.later ((Below.refl _ _).alloc (Nat.le_refl _) _)
            go_wp2_with fail
            go_roundg (n - (k + 1))
            case measure => omega
            case rel => exact ⟨k + 1, (y0, y1, y2, y3, y4, y5, y6, y7), okb, by omega, by omega, by go_num, rfl, (⟨G2.out, G0.out, G1.out, FI.out⟩ : _ ∧ _ ∧ _ ∧ _)⟩
        · subst h1
          have hq : (x1 == b) = false := by simp [h2]
          have hq2 : ¬ x1 = b := h2
          have FI := hid (T.out.2.2.2.no (fun hm => h2 (by rw [← hm.2.1, HX.out])))
          have G2 : Hid (Below N w (wr.alloc (.cells #[.int .i64 x0, .int .i64 x1, .int .i64 x2, .string x3, .int .i64 x4, .int .i64 x5, .bool x6, .bool x7] 25))) := T.out.1.alloc (by omega) _
          have G0 : Hid (Bw (wr.alloc (.cells #[.int .i64 x0, .int .i64 x1, .int .i64 x2, .string x3, .int .i64 x4, .int .i64 x5, .bool x6, .bool x7] 25)) N MW.zero) := T.out.2.1.later ((Below.refl _ _).alloc (Nat.le_refl _) _)
          have G1 : Hid (Bw (wr.alloc (.cells #[.int .i64 x0, .int .i64 x1, .int .i64 x2, .string x3, .int .i64 x4, .int .i64 x5, .bool x6, .bool x7] 25)) (N + 1) (y0, y1, y2, y3, y4, y5, y6, y7)) := T.out.2.2.1.later ((Below.refl _ _).alloc (Nat.le_refl _) _)
          go_wp2_with fail
          go_roundg (n - (k + 1))
          case measure => omega
          case rel => exact ⟨k + 1, (y0, y1, y2, y3, y4, y5, y6, y7), okb, by omega, by omega, by go_num, rfl, (⟨G2.out, G0.out, G1.out, FI.out⟩ : _ ∧ _ ∧ _ ∧ _)⟩
      · skip
        have hq : (x0 == a) = false := by simp [h1]
        have hq2 : ¬ x0 = a := h1
        have FI := hid (T.out.2.2.2.no (fun hm => h1 (by rw [← hm.1, HX.out])))
        have G2 : Hid (Below N w (wr.alloc (.cells #[.int .i64 x0, .int .i64 x1, .int .i64 x2, .string x3, .int .i64 x4, .int .i64 x5, .bool x6, .bool x7] 25))) := T.out.1.alloc (by omega) _
        have G0 : Hid (Bw (wr.alloc (.cells #[.int .i64 x0, .int .i64 x1, .int .i64 x2, .string x3, .int .i64 x4, .int .i64 x5, .bool x6, .bool x7] 25)) N MW.zero) := T.out.2.1.later ((Below.refl _ _).alloc (Nat.le_refl _) _)
        have G1 : Hid (Bw (wr.alloc (.cells #[.int .i64 x0, .int .i64 x1, .int .i64 x2, .string x3, .int .i64 x4, .int .i64 x5, .bool x6, .bool x7] 25)) (N + 1) (y0, y1, y2, y3, y4, y5, y6, y7)) := T.out.2.2.1.later ((Below.refl _ _).alloc (Nat.le_refl _) _)
        go_wp2_with fail
        go_roundg (n - (k + 1))
        case measure => omega
        case rel => exact ⟨k + 1, (y0, y1, y2, y3, y4, y5, y6, y7), okb, by omega, by omega, by go_num, rfl, (⟨G2.out, G0.out, G1.out, FI.out⟩ : _ ∧ _ ∧ _ ∧ _)⟩
    · have hlti : ¬ (k : Int) < (n : Int) := by omega
      have hkn : k = n := by omega
      subst hkn
      have FI := hid T.out.2.2.2.done
      obtain ⟨r0, r1, r2, r3, r4, r5, r6, r7⟩ := T.out.2.1.eight
      obtain ⟨f0, f1, f2, f3, f4, f5, f6, f7⟩ := T.out.2.2.1.eight
      have zr := T.out.2.1.2.1
      obtain ⟨y0, y1, y2, y3, y4, y5, y6, y7⟩ := x
      simp only [MW.src, MW.dst, MW.lab, MW.key, MW.va, MW.vb, MW.nl, MW.cond, MW.zero] at r0 r1 r2 r3 r4 r5 r6 r7 f0 f1 f2 f3 f4 f5 f6 f7
      have G1 : Hid (Bw (wr.setCells N 0 (encW (y0, y1, y2, y3, y4, y5, y6, y7))) N (y0, y1, y2, y3, y4, y5, y6, y7)) := T.out.2.1.put _
      have G2 : Hid (Below N w (wr.setCells N 0 (encW (y0, y1, y2, y3, y4, y5, y6, y7)))) := below_put N (Nat.le_refl _) _ _ _ T.out.1
      go_wp2_with fail
      change bodyPost Tryz.prog Tryz.f21 _ Exit.ret _ (wr.setCells N 0 (encW (y0, y1, y2, y3, y4, y5, y6, y7)))
      generalize (wr.setCells N 0 (encW (y0, y1, y2, y3, y4, y5, y6, y7))) = w9 at *
      obtain ⟨q0, q1, q2, q3, q4, q5, q6, q7⟩ := G1.out.eight
      simp only [MW.src, MW.dst, MW.lab, MW.key, MW.va, MW.vb, MW.nl, MW.cond] at q0 q1 q2 q3 q4 q5 q6 q7
      refine bodyPost_ret (v := .tuple #[.agg (encW (y0, y1, y2, y3, y4, y5, y6, y7)).toArray, .bool okb]) (by simp [results, Tryz.results21, go_sem, q0, q1, q2, q3, q4, q5, q6, q7, encW]) rfl ⟨_, _, rfl, FI.out, by rw [HN.out]; exact G2.out⟩
end Go.Proofs.YtdihbeffomibeaaGreatDoor
