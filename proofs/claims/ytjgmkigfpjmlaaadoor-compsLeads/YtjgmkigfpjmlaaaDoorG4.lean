/-
  Out of a graph: gather at numbers.
-/
import Derived.Test.YtjgmkigfpjmlaaaDoorG3
namespace Go.Proofs.YtjgmkigfpjmlaaaDoor
set_option linter.unusedVariables false
set_option linter.unusedSimpArgs false
open Go.RowKit

theorem outC (a b : Int) (w : World) : Calls Tryd.prog 47 #[.int .i64 a, .int .i64 b] w fun e w' => e = .returned (.int .i64 a) ∧ w = w' := by
  go_enter Tryd.func47, Tryd.ntmps47
  go_wp2
  go_ret
  exact ⟨rfl, rfl⟩

theorem ints_mono {B B' : Nat} {w : World} {v : Value} {l : List Nat} (h : Ints B w v l) (hb : B' ≤ B) : Ints B' w v l := by
  refine ⟨h.1, ?_⟩
  rcases h.2 with h1 | ⟨g, cap, cur, h1, h2, h3⟩
  · exact .inl h1
  · exact .inr ⟨g, cap, cur, h1, Nat.le_trans hb h2, h3⟩
/-- The label i is among some. -/
def lbit (labels : Int) (i : Nat) : Bool := bits BinOp.and IntKind.i64 (labels / 2 ^ i) 1 == 1
/-- One of the first k labels is among some, and an edge's. -/
def endsF (L : Nat → Nat → Nat) (f : Nat) (labels : Int) (k : Nat) : Nat → Bool := fun t => (List.range k).any fun i => lbit labels i && (L f t).testBit i
theorem endsF_succ (L : Nat → Nat → Nat) (f : Nat) (labels : Int) (k t : Nat) : endsF L f labels (k + 1) t = (endsF L f labels k t || (lbit labels k && (L f t).testBit k)) := by
  unfold endsF
  rw [List.range_succ, List.any_append]
  simp
theorem Graph.setAt {w : World} {b n r : Nat} {bk ck : Nat → Nat} {L : Nat → Nat → Nat} (h : Graph w b n r bk ck L) (f k : Nat) (hf : f < n) (hk : k < 4) : Is w (bk (4 * f + k)) n (ck (4 * f + k)) (fun t => (L f t).testBit k) := by
  have hs := h.sets (4 * f + k) (by omega)
  have e1 : (4 * f + k) / 4 = f := by omega
  have e2 : (4 * f + k) % 4 = k := by omega
  rw [e1, e2] at hs
  exact hs

set_option maxHeartbeats 4000000 in
set_option maxRecDepth 100000 in
theorem gather_is (b n r f : Nat) (bk ck : Nat → Nat) (L : Nat → Nat → Nat) (labels : Int) (w : World) (h : Graph w b n r bk ck L) (hf : f < n) (hT : Tab w) :
    Calls Tryd.prog 46 #[.slice none 0 0, .slice (some ⟨r, 4 * f, none⟩) 4 4, .int .i64 labels, .func (.func 47) #[] #[]] w fun e w' => (∃ v, e = .returned v ∧ Ints w.heap.size w' v (lst (endsF L f labels 4) n)) ∧ Below w.heap.size w w' := by
  obtain ⟨i0, hi, hz'⟩ := Option.map_eq_some_iff.1 Tryd.info3
  simp only [Prod.mk.injEq] at hz'
  obtain ⟨hz0, hz1, hz2⟩ := hz'
  have HI := hid hi
  have HZ0 := hid hz0
  have HZ1 := hid hz1
  have HZ2 := hid hz2
  clear hi hz0 hz1 hz2
  have c0 := h.at (4 * f) (by omega)
  have I0 := hid (h.sets (4 * f) (by omega))
  have hn3 := h.bound
  have hni : (n : Int) ≤ 300 := by omega
  have G := hid h
  have TB := hid hT
  clear h hT
  go_enter Tryd.func46, Tryd.ntmps46
  go_wp2_with (go_at_call 60; refine (bound_is _ _ _ _ _ I0.out).mono ?_; rintro e w' ⟨rfl, rfl⟩)
  go_at_call 40
  refine (new_is n (by omega) w).mono ?_
  rintro e w1 ⟨rfl, s1, b1, z1⟩
  have S1 := hid s1
  have B1 := hid b1
  clear s1 b1 z1
  go_wp2_with fail
  go_loopg [11, 12, 25] 4 (fun g _ _ i wr => ∃ k : Nat, k ≤ 4 ∧ 4 - k ≤ g ∧ i = .int .i64 k ∧ Aside (Is wr (w.heap.size + 1) n w.heap.size (endsF L f labels k)) ∧ Aside (Below w.heap.size w wr))
  case atStart => exact ⟨0, by omega, by omega, rfl, S1.out, B1.out⟩
  case round =>
    obtain ⟨k, hk, hg, rfl, SX, BX⟩ := hrel
    by_cases hlt : k < 4
    · have hlti : (k : Int) < 4 := by omega
      have GX := G.out.later BX.out
      have cr := GX.at (4 * f + k) (by omega)
      have IK := hid (GX.setAt f k hf hlt)
      have hlb : bk (4 * f + k) < w.heap.size ∧ ck (4 * f + k) < w.heap.size := (G.out.setAt f k hf hlt).blt
      have ES := hid (endsF_succ L f labels k)
      clear GX
      cases hb : lbit labels k
      · have q : (bits BinOp.and IntKind.i64 (labels / 2 ^ k) 1 == 1) = false := hb
        rw [hb] at ES
        clear hb
        go_wp2_with fail
        go_roundg (4 - (k + 1))
        · exact ⟨k + 1, by omega, by omega, by go_num, SX.out.congr (fun t => by rw [ES.out]; simp), BX.out⟩
        · omega
      · have q : (bits BinOp.and IntKind.i64 (labels / 2 ^ k) 1 == 1) = true := hb
        rw [hb] at ES
        clear hb
        go_wp2_with fail
        go_at_call 61
        refine (or_is _ n _ _ _ _ _ _ SX.out IK.out (by omega) (by omega)).mono ?_
        rintro e wa ⟨⟨t, rfl, ht⟩, sa, ba, za⟩
        have SN : Hid (Is wa (w.heap.size + 1) n w.heap.size (endsF L f labels (k + 1))) := sa.congr (fun t => by rw [ES.out]; simp)
        have BN : Hid (Below w.heap.size w wa) := BX.out.trans (ba.below (Nat.le_refl _) BX.out.size)
        clear sa ba za ht
        go_wp2_with fail
        go_roundg (4 - (k + 1))
        · exact ⟨k + 1, by omega, by omega, by go_num, SN.out, BN.out⟩
        · omega
    · have hlti : ¬ (k : Int) < 4 := by omega
      have ek : k = 4 := by omega
      subst ek
      have TX : Hid (Tab wr) := TB.out.later BX.out
      have TP := hid SX.out.top
      obtain ⟨F, hF⟩ : ∃ F, endsF L f labels 4 = F := ⟨_, rfl⟩
      rw [hF] at SX TP
      have HF := hid hF
      clear hF
      generalize wr = wo at *
      go_wp2_with fail
      go_at_call 62
      refine (next_is _ _ _ _ _ _ SX.out TX.out).mono ?_
      rintro e w' ⟨⟨r0, t0, rfl, hN⟩, rfl⟩
      have N0 := hid hN
      clear hN
      go_wp2_with fail
      go_loopg [0, 13, 14] n (fun g l i ok wr2 => ∃ (p : Nat) (q : Int) (t : Bool), p ≤ n ∧ n - p ≤ g ∧ i = .int .i64 q ∧ ok = .bool t ∧ Aside (NextIs F p q t) ∧ Aside (Ints wo.heap.size wr2 l (lst F p)) ∧ Aside (Below wo.heap.size wo wr2))
      case atStart => exact ⟨0, r0, t0, Nat.zero_le _, by omega, rfl, rfl, N0.out, World.ownsRow_nil _ _ _ _, Below.refl _ _⟩
      case round =>
        clear N0
        obtain ⟨p, q, t, hp, hg2, rfl, rfl, NX, OX, BY⟩ := hrel
        rcases NX.out with ⟨rfl, j, rfl, hpj, hfj, hgap⟩ | ⟨rfl, rfl, hgap⟩
        · have hjn : j < n := by
            rcases Nat.lt_or_ge j n with h1 | h1
            · exact h1
            · have := TP.out j h1
              rw [hfj] at this
              cases this
          have HL := hid (lst_step F p j hpj hfj hgap)
          have HLE := hid (lst_le F p)
          have hji : (j : Int) < 300 := by omega
          have hji0 : (0 : Int) ≤ j := by omega
          have hsz := hid BY.out.size
          have LB := hid (labelsIn_at b n r f bk ck L j wr ((G.out.later BX.out).later BY.out) hf)
          clear NX hgap hfj
          generalize labAt L f j = lab at *
          go_wp2_with fail
          refine LB.out.mono ?_
          rintro e w' ⟨rfl, rfl⟩
          go_wp2_with fail
          go_at_call 47
          refine (outC _ _ _).mono ?_
          rintro e w' ⟨rfl, rfl⟩
          go_wp2_with (at_builtin; refine wpList_append_lies _ rfl _ _ 29 rfl wo.heap.size 3 i0 _ 1 8 Tryd.underlying29 HI.out HZ0.out HZ1.out HZ2.out rfl (by decide) u0 (lst F p).length (intsV (lst F p)) rfl ?hown ⟨wr.heap.size, 0, none⟩ 1 1 [.int .i64 j] rfl rfl ?hnews ?hone (by decide) ?h63 ?hby ?hbase (wr.heap.size + 1) ?hH ?_)
          case hown => exact World.ownsRow.alloc OX.out _
          case hnews => exact World.news_of_block (heap_alloc_new wr (.cells #[.int .i64 j] 3))
          case hone => intro u hu; simp at hu; subst hu; rfl
          case h63 => have := HLE.out; unfold maxLen; omega
          case hby => have := HLE.out; omega
          case hbase => have := hsz.out; simp; omega
          case hH => simp
          intro g cap w4 hown4 hgrow hat hglt
          have B4 : Hid (Below wo.heap.size wo w4) := BY.out.trans (((below_box wr _).mono hsz.out).grown hgrow (by have := hsz.out; simp; omega) (fun x hx => (OX.out.lt x hx).1))
          have O4 : Hid (Ints wo.heap.size w4 (.slice (some ⟨g, 0, none⟩) ((lst F p).length + 1) cap) (lst F (j + 1))) := by
            unfold Ints intsV at *
            rw [HL.out, List.map_append, List.length_append]
            exact hown4
          clear hown4 hgrow hat hglt
          go_wp2_with fail
          go_at_call 62
          refine (next_is _ _ _ _ _ _ (SX.out.later B4.out) (TX.out.later B4.out)).mono ?_
          rintro e w' ⟨⟨r2, t2, rfl, hN⟩, rfl⟩
          have ej : ((j : Int) + 1).toNat = j + 1 := by omega
          rw [ej] at hN
          have N2 := hid hN
          clear hN
          go_wp2_with fail
          go_roundg (n - (j + 1))
          · exact ⟨j + 1, r2, t2, by omega, by omega, rfl, rfl, N2.out, O4.out, B4.out⟩
          · omega
        · have e := lst_gap F p n hp (fun k h1 _ => hgap k h1)
          have O5 : Hid (Ints w.heap.size wr u0 (lst F n)) := by
            rw [e]
            exact ints_mono OX.out BX.out.size
          clear e hgap NX
          go_wp2_with fail
          go_ret
          exact ⟨⟨_, rfl, by rw [HF.out]; exact O5.out⟩, BX.out.trans (BY.out.mono BX.out.size)⟩
theorem out_ok (b n r f : Nat) (bk ck : Nat → Nat) (L : Nat → Nat → Nat) (labels : Int) (w : World) (h : Graph w b n r bk ck L) (hf : f < n) (hT : Tab w) :
    Calls Tryd.prog 25 #[.pointer (some ⟨b, 0, none⟩), .int .i64 f, .int .i64 labels] w fun e w' => (∃ v, e = .returned v ∧ Ints w.heap.size w' v (lst (endsF L f labels 4) n)) ∧ Below w.heap.size w w' := by
  have H1 := hid (ghas_ok b n f w h.c0 h.c1 hf)
  have H2 := hid (row_is b n r f w h.c2 hf h.bound)
  have H3 := hid (gather_is b n r f bk ck L labels w h hf hT)
  clear h hT
  go_enter Tryd.func25, Tryd.ntmps25
  go_wp2_with fail
  refine H1.out.mono ?_
  rintro e w' ⟨rfl, rfl⟩
  go_wp2_with fail
  refine H2.out.mono ?_
  rintro e w' ⟨rfl, rfl⟩
  go_wp2_with fail
  refine H3.out.mono ?_
  rintro e w' ⟨⟨v, rfl, hI⟩, bl⟩
  have HI := hid hI
  have BL := hid bl
  clear hI bl
  go_wp2_with fail
  go_ret
  exact ⟨⟨_, rfl, HI.out⟩, BL.out⟩
theorem out_no (b n r : Nat) (f : Int) (bk ck : Nat → Nat) (L : Nat → Nat → Nat) (labels : Int) (w : World) (h : Graph w b n r bk ck L) (hf : f < 0 ∨ (n : Int) ≤ f) :
    Calls Tryd.prog 25 #[.pointer (some ⟨b, 0, none⟩), .int .i64 f, .int .i64 labels] w fun e w' => e = .returned (.slice none 0 0) ∧ w = w' := by
  have H1 := hid (ghas_no b n f w h.c0 h.c1 hf)
  clear h
  go_enter Tryd.func25, Tryd.ntmps25
  go_wp2_with fail
  refine H1.out.mono ?_
  rintro e w' ⟨rfl, rfl⟩
  go_wp2_with fail
  go_ret
  exact ⟨rfl, rfl⟩
end Go.Proofs.YtjgmkigfpjmlaaaDoor
