/-
  The document's Find.
-/
import Derived.Test.YtdihbeffomibeaaGreatDoorYF2
namespace Go.Proofs.YtdihbeffomibeaaGreatDoor
set_option linter.unusedVariables false
set_option linter.unusedSimpArgs false
open Go.RowKit Go.Lib

/-- What the document's search knows ahead of its q-th way through. -/
def Ps (f : Nat → MW) (n : Nat) (a b c : Int) (q : Nat) : Prop := (1 ≤ q → ∀ j, j < n → mt f a b c j → (f j).cond = true) ∧ (2 ≤ q → ∀ j, j < n → ¬ mt f a b c j)
/-- .. and behind k of them on that way. -/
def PkF (f : Nat → MW) (a b c : Int) (t : Bool) (k : Nat) : Prop := ∀ j, j < k → mt f a b c j → (f j).cond = !t
theorem PkF.next {f : Nat → MW} {a b c : Int} {t : Bool} {k : Nat} (h : PkF f a b c t k) (hn : mt f a b c k → (f k).cond = !t) : PkF f a b c t (k + 1) := fun j hj hm => by
  by_cases e : j = k
  · subst e; exact hn hm
  · exact h j (by omega) hm
theorem Ps.step {f : Nat → MW} {n : Nat} {a b c : Int} {q : Nat} (h : Ps f n a b c q) (hq : q < 2) (hk : PkF f a b c (decide (q = 1)) n) : Ps f n a b c (q + 1) := by
  by_cases e : q = 1
  · subst e
    refine ⟨fun _ => h.1 (by omega), fun _ j hj hm => ?_⟩
    have h1 := h.1 (by omega) j hj hm
    have h2 := hk j hj hm
    rw [h1] at h2
    simp at h2
  · have : q = 0 := by omega
    subst this
    refine ⟨fun _ j hj hm => ?_, fun h => by omega⟩
    have h2 := hk j hj hm
    simpa using h2
theorem Ps.hit {f : Nat → MW} {n : Nat} {a b c : Int} {q k : Nat} (h : Ps f n a b c q) (hq : q < 2) (hk : PkF f a b c (decide (q = 1)) k) (hl : k < n) (hm : mt f a b c k) (hc : (f k).cond = decide (q = 1)) : IsFind f n a b c (f k) true := by
  by_cases e : q = 1
  · subst e
    refine .inr ⟨h.1 (by omega), .inl ⟨k, hl, hm, fun j hj hmj => ?_, rfl, rfl⟩⟩
    have h1 := h.1 (by omega) j (by omega) hmj
    have h2 := hk j hj hmj
    rw [h1] at h2
    simp at h2
  · have : q = 0 := by omega
    subst this
    exact .inl ⟨k, hl, hm, by simpa using hc, fun j hj hmj => by simpa using hk j hj hmj, rfl, rfl⟩
theorem Ps.last {f : Nat → MW} {n : Nat} {a b c : Int} {q : Nat} (h : Ps f n a b c q) (hq : 2 ≤ q) : IsFind f n a b c MW.zero false :=
  .inr ⟨h.1 (by omega), .inr ⟨h.2 hq, rfl, rfl⟩⟩

set_option maxHeartbeats 4000000 in
set_option maxRecDepth 100000 in
theorem rfind_is (ao : Option Addr) (cp n : Nat) (f : Nat → MW) (a b c : Int) (w : World) (hl : Lw w ao n f) (hn : n ≤ 100) :
    Calls Tryz.prog 27 #[.slice ao n cp, .int .i64 a, .int .i64 b, .int .i64 c] w fun e w' => FindPost f n a b c w e w' := by
  have H := hid hl
  clear hl
  go_enter Tryz.func27, Tryz.ntmps27
  go_wp2_with fail
  obtain ⟨w0, hw0⟩ : ∃ w0, ((w.alloc (.cells #[.int .i64 0, .int .i64 0, .int .i64 0, .string ⟨#[]⟩, .int .i64 0, .int .i64 0, .bool false, .bool false] 25)).alloc (.cells #[.bool false, .bool true] 4)) = w0 := ⟨_, rfl⟩
  have B0 : Hid (Below w.heap.size w w0) := by
    show Below _ _ _
    rw [← hw0]
    exact ((Below.refl _ w).alloc (Nat.le_refl _) _).alloc (by simp) _
  have R0 : Hid (Bw w0 w.heap.size MW.zero) := by
    show Bw _ _ _
    rw [← hw0]
    exact (Bw.made w 0 0 0 ⟨#[]⟩ 0 0 false false 25).later ((Below.refl _ _).alloc (Nat.le_refl _) _)
  have C0 : Hid (w0.cell? ⟨w.heap.size + 1, 0, none⟩ = some (.bool false) ∧ w0.cell? ⟨w.heap.size + 1, 1, none⟩ = some (.bool true) ∧ w.heap.size + 1 < w0.heap.size) := by
    show _ ∧ _ ∧ _
    rw [← hw0]
    refine ⟨?_, ?_, by simp⟩
    · rw [World.cell?_alloc_at _ _ _ _ (by simp)]; rfl
    · rw [World.cell?_alloc_at _ _ _ _ (by simp)]; rfl
  rw [hw0]
  clear hw0
  obtain ⟨N, hN⟩ : ∃ N, w.heap.size = N := ⟨_, rfl⟩
  rw [hN] at B0 R0 C0 ⊢
  have HN := hid hN
  clear hN
  go_loopg [11, 16] 2 (fun g _ i wr => ∃ q : Nat, q ≤ 2 ∧ 2 - q ≤ g ∧ i = .int .i64 q ∧ Aside (Below w0.heap.size w0 wr ∧ Ps f n a b c q))
  case atStart => exact ⟨0, Nat.zero_le _, by omega, rfl, (⟨Below.refl _ _, ⟨fun h => by omega, fun h => by omega⟩⟩ : _ ∧ _)⟩
  case round =>
    obtain ⟨q, hq, hg, rfl, T⟩ := hrel
    by_cases hq2 : q < 2
    · have hq2i : (q : Int) < 2 := by omega
      obtain ⟨t, ht⟩ : ∃ t : Bool, t = decide (q = 1) := ⟨_, rfl⟩
      have c1 : wr.cell? ⟨N + 1, q, none⟩ = some (.bool t) := by
        refine (T.out.1.cell (p := ⟨N + 1, q, none⟩) C0.out.2.2).trans ?_
        by_cases h1 : q = 1
        · subst h1; rw [ht]; exact C0.out.2.1
        · have h0 : q = 0 := by omega
          subst h0; rw [ht]; exact C0.out.1
      have HT := hid ht
      clear ht
      go_wp2_with fail
      go_loopg [13, 22] n (fun g _ i wr => ∃ k : Nat, k ≤ n ∧ n - k ≤ g ∧ i = .int .i64 k ∧ Aside (Below w0.heap.size w0 wr ∧ PkF f a b c t k))
      case atStart => exact ⟨0, Nat.zero_le _, by omega, rfl, (⟨T.out.1, fun j h => by omega⟩ : _ ∧ _)⟩
      case round =>
        clear c1
        have PS := hid T.out.2
        clear T
        obtain ⟨k, hk, hgk, rfl, T⟩ := hrel
        by_cases hlt : k < n
        · have hlti : (k : Int) < (n : Int) := by omega
          have BX : Hid (Below N w wr) := B0.out.trans (T.out.1.mono (by have := C0.out.2.2; omega))
          have HL : Hid (Lw wr ao n f) := H.out.later (by rw [HN.out]; exact BX.out)
          have RX : Hid (Bw wr N MW.zero) := R0.out.later T.out.1
          obtain ⟨bb, oo, rfl, hbl, d0, d1, d2, d3, d4, d5, d6, d7⟩ := HL.out.eight k hlt
          obtain ⟨r0, r1, r2, r3, r4, r5, r6, r7⟩ := RX.out.eight
          have zr := RX.out.2.1
          have l1 : N < wr.heap.size := RX.out.1
          obtain ⟨X, hX⟩ : ∃ X, f k = X := ⟨_, rfl⟩
          have HX := hid hX
          rw [hX] at d0 d1 d2 d3 d4 d5 d6 d7
          clear hX
          obtain ⟨x0, x1, x2, x3, x4, x5, x6, x7⟩ := X
          simp only [MW.src, MW.dst, MW.lab, MW.key, MW.va, MW.vb, MW.nl, MW.cond, MW.zero] at d0 d1 d2 d3 d4 d5 d6 d7 r0 r1 r2 r3 r4 r5 r6 r7
          by_cases h1 : x0 = a
          · by_cases h2 : x1 = b
            · by_cases h3 : x2 = c
              · have hm : Hid (mt f a b c k) := ⟨by rw [HX.out]; exact h1, by rw [HX.out]; exact h2, by rw [HX.out]; exact h3⟩
                subst h1 h2 h3
                by_cases h4 : x7 = t
                · subst h4
                  have FI : Hid (IsFind f n x0 x1 x2 (x0, x1, x2, x3, x4, x5, x6, x7) true) := by
                    have := PS.out.hit hq2 (by rw [← HT.out]; exact T.out.2) hlt hm.out (by rw [HX.out]; exact HT.out)
                    rw [HX.out] at this
                    exact this
                  have hbb : (x7 == x7) = true := by simp
                  have G1 : Hid (Bw ((wr.setCells N 0 (encW (x0, x1, x2, x3, x4, x5, x6, x7))).alloc (.cells #[.int .i64 x0, .int .i64 x1, .int .i64 x2, .string x3, .int .i64 x4, .int .i64 x5, .bool x6, .bool x7] 25)) N (x0, x1, x2, x3, x4, x5, x6, x7)) := (RX.out.put _).later ((Below.refl _ _).alloc (Nat.le_refl _) _)
                  have G2 : Hid (Below N w ((wr.setCells N 0 (encW (x0, x1, x2, x3, x4, x5, x6, x7))).alloc (.cells #[.int .i64 x0, .int .i64 x1, .int .i64 x2, .string x3, .int .i64 x4, .int .i64 x5, .bool x6, .bool x7] 25))) := (below_put N (Nat.le_refl _) _ _ _ BX.out).alloc (by rw [size_put]; omega) _
                  go_wp2_with fail
                  change bodyPost Tryz.prog Tryz.f27 _ Exit.ret _ ((wr.setCells N 0 (encW (x0, x1, x2, x3, x4, x5, x6, x7))).alloc (.cells #[.int .i64 x0, .int .i64 x1, .int .i64 x2, .string x3, .int .i64 x4, .int .i64 x5, .bool x6, .bool x7] 25))
                  generalize (wr.setCells N 0 (encW (x0, x1, x2, x3, x4, x5, x6, x7))).alloc (.cells #[.int .i64 x0, .int .i64 x1, .int .i64 x2, .string x3, .int .i64 x4, .int .i64 x5, .bool x6, .bool x7] 25) = w9 at *
                  obtain ⟨q0, q1, q2, q3, q4, q5, q6, q7⟩ := G1.out.eight
                  simp only [MW.src, MW.dst, MW.lab, MW.key, MW.va, MW.vb, MW.nl, MW.cond] at q0 q1 q2 q3 q4 q5 q6 q7
                  refine bodyPost_ret (v := .tuple #[.agg (encW (x0, x1, x2, x3, x4, x5, x6, x7)).toArray, .bool true]) (by simp [results, Tryz.results27, go_sem, q0, q1, q2, q3, q4, q5, q6, q7, encW]) rfl ⟨_, _, rfl, FI.out, by rw [HN.out]; exact G2.out⟩
                · have hbb : (x7 == t) = false := by simp [h4]
                  have FI := hid (T.out.2.next (fun _ => by rw [HX.out]; show x7 = !t; cases x7 <;> cases t <;> simp_all))
                  have G2 : Hid (Below w0.heap.size w0 (wr.alloc (.cells #[.int .i64 x0, .int .i64 x1, .int .i64 x2, .string x3, .int .i64 x4, .int .i64 x5, .bool x6, .bool x7] 25))) := T.out.1.alloc T.out.1.size _
                  go_wp2_with fail
                  go_roundg (n - (k + 1))
                  case measure => omega
                  case rel => exact ⟨k + 1, by omega, by omega, by go_num, (⟨G2.out, FI.out⟩ : _ ∧ _)⟩
              · subst h1 h2
                have hq1 : (x2 == c) = false := by simp [h3]
                have hq3 : ¬ x2 = c := h3
                have FI := hid (T.out.2.next (fun hm => absurd (by rw [← hm.2.2, HX.out]) h3))
                have G2 : Hid (Below w0.heap.size w0 (wr.alloc (.cells #[.int .i64 x0, .int .i64 x1, .int .i64 x2, .string x3, .int .i64 x4, .int .i64 x5, .bool x6, .bool x7] 25))) := T.out.1.alloc T.out.1.size _
                go_wp2_with fail
                go_roundg (n - (k + 1))
                case measure => omega
                case rel => exact ⟨k + 1, by omega, by omega, by go_num, (⟨G2.out, FI.out⟩ : _ ∧ _)⟩
            · subst h1
              have hq1 : (x1 == b) = false := by simp [h2]
              have hq3 : ¬ x1 = b := h2
              have FI := hid (T.out.2.next (fun hm => absurd (by rw [← hm.2.1, HX.out]) h2))
              have G2 : Hid (Below w0.heap.size w0 (wr.alloc (.cells #[.int .i64 x0, .int .i64 x1, .int .i64 x2, .string x3, .int .i64 x4, .int .i64 x5, .bool x6, .bool x7] 25))) := T.out.1.alloc T.out.1.size _
              go_wp2_with fail
              go_roundg (n - (k + 1))
              case measure => omega
              case rel => exact ⟨k + 1, by omega, by omega, by go_num, (⟨G2.out, FI.out⟩ : _ ∧ _)⟩
          · skip
            have hq1 : (x0 == a) = false := by simp [h1]
            have hq3 : ¬ x0 = a := h1
            have FI := hid (T.out.2.next (fun hm => absurd (by rw [← hm.1, HX.out]) h1))
            have G2 : Hid (Below w0.heap.size w0 (wr.alloc (.cells #[.int .i64 x0, .int .i64 x1, .int .i64 x2, .string x3, .int .i64 x4, .int .i64 x5, .bool x6, .bool x7] 25))) := T.out.1.alloc T.out.1.size _
            go_wp2_with fail
            go_roundg (n - (k + 1))
            case measure => omega
            case rel => exact ⟨k + 1, by omega, by omega, by go_num, (⟨G2.out, FI.out⟩ : _ ∧ _)⟩
        · have hlti : ¬ (k : Int) < (n : Int) := by omega
          have hkn : k = n := by omega
          have PN : Hid (Ps f n a b c (q + 1)) := PS.out.step hq2 (by rw [← HT.out, ← hkn]; exact T.out.2)
          go_wp2_with fail
          go_roundg (2 - (q + 1))
          case measure => omega
          case rel => exact ⟨q + 1, by omega, by omega, by go_num, (⟨T.out.1, PN.out⟩ : _ ∧ _)⟩
    · have hq2i : ¬ (q : Int) < 2 := by omega
      have FI := hid (T.out.2.last (by omega))
      have BX : Hid (Below N w wr) := B0.out.trans (T.out.1.mono (by have := C0.out.2.2; omega))
      have RX : Hid (Bw wr N MW.zero) := R0.out.later T.out.1
      obtain ⟨r0, r1, r2, r3, r4, r5, r6, r7⟩ := RX.out.eight
      have zr := RX.out.2.1
      simp only [MW.src, MW.dst, MW.lab, MW.key, MW.va, MW.vb, MW.nl, MW.cond, MW.zero] at r0 r1 r2 r3 r4 r5 r6 r7
      have G1 : Hid (Bw (wr.setCells N 0 (encW MW.zero)) N MW.zero) := RX.out.put _
      have G2 : Hid (Below N w (wr.setCells N 0 (encW MW.zero))) := below_put N (Nat.le_refl _) _ _ _ BX.out
      go_wp2_with fail
      change bodyPost Tryz.prog Tryz.f27 _ Exit.ret _ (wr.setCells N 0 (encW MW.zero))
      generalize (wr.setCells N 0 (encW MW.zero)) = w9 at *
      obtain ⟨q0, q1, q2, q3, q4, q5, q6, q7⟩ := G1.out.eight
      simp only [MW.src, MW.dst, MW.lab, MW.key, MW.va, MW.vb, MW.nl, MW.cond, MW.zero] at q0 q1 q2 q3 q4 q5 q6 q7
      refine bodyPost_ret (v := .tuple #[.agg (encW MW.zero).toArray, .bool false]) (by simp [results, Tryz.results27, go_sem, q0, q1, q2, q3, q4, q5, q6, q7, encW, MW.zero]) rfl ⟨_, _, rfl, FI.out, by rw [HN.out]; exact G2.out⟩
end Go.Proofs.YtdihbeffomibeaaGreatDoor
