/-
  Out of a graph: gather at numbers.
  Edges of a graph: gather at edges.
  gather at edges.
  Edges of a graph.
  The document's graphs: what they look like in memory; There, Labels, Add.
-/
import Derived.Test.YtdihbeffomibeaaGreatDoorY3
import Derived.BigRegion
namespace Go.Proofs.YtdihbeffomibeaaGreatDoor
set_option linter.unusedVariables false
set_option linter.unusedSimpArgs false
open Go.RowKit

theorem outC (a b : Int) (w : World) : Calls Tryz.prog 62 #[.int .i64 a, .int .i64 b] w fun e w' => e = .returned (.int .i64 a) ∧ w = w' := by
  go_enter Tryz.func62, Tryz.ntmps62
  go_wp2
  go_ret
  exact ⟨rfl, rfl⟩

theorem ints_mono {B B' : Nat} {w : World} {v : Value} {l : List Nat} (h : Ints B w v l) (hb : B' ≤ B) : Ints B' w v l := by
  refine ⟨h.1, ?_⟩
  rcases h.2 with h1 | ⟨g, cap, cur, h1, h2, h3⟩
  · exact .inl h1
  · exact .inr ⟨g, cap, cur, h1, Nat.le_trans hb h2, h3⟩
/-- The label i is among some. -/
def lbit (labels : Int) (i : Nat) : Bool := bits BinOp.and IntKind.i64 (labels / 2 ^ i) 1 == 1
/-- One of the first k labels is among some, and an edge's. -/
def endsF (L : Nat → Nat → Nat) (f : Nat) (labels : Int) (k : Nat) : Nat → Bool := fun t => (List.range k).any fun i => lbit labels i && (L f t).testBit i
theorem endsF_succ (L : Nat → Nat → Nat) (f : Nat) (labels : Int) (k t : Nat) : endsF L f labels (k + 1) t = (endsF L f labels k t || (lbit labels k && (L f t).testBit k)) := by
  unfold endsF
  rw [List.range_succ, List.any_append]
  simp
theorem Graph.setAt {w : World} {b n r : Nat} {bk ck : Nat → Nat} {L : Nat → Nat → Nat} (h : Graph w b n r bk ck L) (f k : Nat) (hf : f < n) (hk : k < 4) : Is w (bk (4 * f + k)) n (ck (4 * f + k)) (fun t => (L f t).testBit k) := by
  have hs := h.sets (4 * f + k) (by omega)
  have e1 : (4 * f + k) / 4 = f := by omega
  have e2 : (4 * f + k) % 4 = k := by omega
  rw [e1, e2] at hs
  exact hs

set_option maxHeartbeats 4000000 in
theorem gather_is (b n r f : Nat) (bk ck : Nat → Nat) (L : Nat → Nat → Nat) (labels : Int) (w : World) (h : Graph w b n r bk ck L) (hf : f < n) (hT : Tab w) :
    Calls Tryz.prog 61 #[.slice none 0 0, .slice (some ⟨r, 4 * f, none⟩) 4 4, .int .i64 labels, .func (.func 62) #[] #[]] w fun e w' => (∃ v, e = .returned v ∧ Ints w.heap.size w' v (lst (endsF L f labels 4) n)) ∧ Below w.heap.size w w' := by
  obtain ⟨i0, hi, hz'⟩ := Option.map_eq_some_iff.1 Tryz.info3
  simp only [Prod.mk.injEq] at hz'
  obtain ⟨hz0, hz1, hz2⟩ := hz'
  have HI := hid hi
  have HZ0 := hid hz0
  have HZ1 := hid hz1
  have HZ2 := hid hz2
  clear hi hz0 hz1 hz2
  have c0 := h.at (4 * f) (by omega)
  have I0 := hid (h.sets (4 * f) (by omega))
  have hn3 := h.bound
  have hni : (n : Int) ≤ 300 := by omega
  have G := hid h
  have TB := hid hT
  clear h hT
  go_enter Tryz.func61, Tryz.ntmps61
  go_wp2_with (go_at_call 75; refine (bound_is _ _ _ _ _ I0.out).mono ?_; rintro e w' ⟨rfl, rfl⟩)
  go_at_call 53
  refine (new_is n (by omega) w).mono ?_
  rintro e w1 ⟨rfl, s1, b1, z1⟩
  have S1 := hid s1
  have B1 := hid b1
  clear s1 b1 z1
  go_wp2_with fail
  go_loopg [11, 12, 25] 4 (fun g _ _ i wr => ∃ k : Nat, k ≤ 4 ∧ 4 - k ≤ g ∧ i = .int .i64 k ∧ Aside (Is wr (w.heap.size + 1) n w.heap.size (endsF L f labels k)) ∧ Aside (Below w.heap.size w wr))
  case atStart => exact ⟨0, by omega, by omega, rfl, S1.out, B1.out⟩
  case round =>
    obtain ⟨k, hk, hg, rfl, SX, BX⟩ := hrel
    by_cases hlt : k < 4
    · have hlti : (k : Int) < 4 := by omega
      have GX := G.out.later BX.out
      have cr := GX.at (4 * f + k) (by omega)
      have IK := hid (GX.setAt f k hf hlt)
      have hlb : bk (4 * f + k) < w.heap.size ∧ ck (4 * f + k) < w.heap.size := (G.out.setAt f k hf hlt).blt
      have ES := hid (endsF_succ L f labels k)
      clear GX
      cases hb : lbit labels k
      · have q : (bits BinOp.and IntKind.i64 (labels / 2 ^ k) 1 == 1) = false := hb
        rw [hb] at ES
        clear hb
        go_wp2_with fail
        go_roundg (4 - (k + 1))
        · exact ⟨k + 1, by omega, by omega, by go_num, SX.out.congr (fun t => by rw [ES.out]; simp), BX.out⟩
        · omega
      · have q : (bits BinOp.and IntKind.i64 (labels / 2 ^ k) 1 == 1) = true := hb
        rw [hb] at ES
        clear hb
        go_wp2_with fail
        go_at_call 76
        refine (or_is _ n _ _ _ _ _ _ SX.out IK.out (by omega) (by omega)).mono ?_
        rintro e wa ⟨⟨t, rfl, ht⟩, sa, ba, za⟩
        have SN : Hid (Is wa (w.heap.size + 1) n w.heap.size (endsF L f labels (k + 1))) := sa.congr (fun t => by rw [ES.out]; simp)
        have BN : Hid (Below w.heap.size w wa) := BX.out.trans (ba.below (Nat.le_refl _) BX.out.size)
        clear sa ba za ht
        go_wp2_with fail
        go_roundg (4 - (k + 1))
        · exact ⟨k + 1, by omega, by omega, by go_num, SN.out, BN.out⟩
        · omega
    · have hlti : ¬ (k : Int) < 4 := by omega
      have ek : k = 4 := by omega
      subst ek
      have TX : Hid (Tab wr) := TB.out.later BX.out
      have TP := hid SX.out.top
      obtain ⟨F, hF⟩ : ∃ F, endsF L f labels 4 = F := ⟨_, rfl⟩
      rw [hF] at SX TP
      have HF := hid hF
      clear hF
      generalize wr = wo at *
      go_wp2_with fail
      go_at_call 77
      refine (next_is _ _ _ _ _ _ SX.out TX.out).mono ?_
      rintro e w' ⟨⟨r0, t0, rfl, hN⟩, rfl⟩
      have N0 := hid hN
      clear hN
      go_wp2_with fail
      go_loopg [0, 13, 14] n (fun g l i ok wr2 => ∃ (p : Nat) (q : Int) (t : Bool), p ≤ n ∧ n - p ≤ g ∧ i = .int .i64 q ∧ ok = .bool t ∧ Aside (NextIs F p q t) ∧ Aside (Ints wo.heap.size wr2 l (lst F p)) ∧ Aside (Below wo.heap.size wo wr2))
      case atStart => exact ⟨0, r0, t0, Nat.zero_le _, by omega, rfl, rfl, N0.out, World.ownsRow_nil _ _ _ _, Below.refl _ _⟩
      case round =>
        clear N0
        obtain ⟨p, q, t, hp, hg2, rfl, rfl, NX, OX, BY⟩ := hrel
        rcases NX.out with ⟨rfl, j, rfl, hpj, hfj, hgap⟩ | ⟨rfl, rfl, hgap⟩
        · have hjn : j < n := by
            rcases Nat.lt_or_ge j n with h1 | h1
            · exact h1
            · have := TP.out j h1
              rw [hfj] at this
              cases this
          have HL := hid (lst_step F p j hpj hfj hgap)
          have HLE := hid (lst_le F p)
          have hji : (j : Int) < 300 := by omega
          have hji0 : (0 : Int) ≤ j := by omega
          have hsz := hid BY.out.size
          have LB := hid (labelsIn_at b n r f bk ck L j wr ((G.out.later BX.out).later BY.out) hf)
          clear NX hgap hfj
          generalize labAt L f j = lab at *
          go_wp2_with fail
          refine LB.out.mono ?_
          rintro e w' ⟨rfl, rfl⟩
          go_wp2_with fail
          go_at_call 62
          refine (outC _ _ _).mono ?_
          rintro e w' ⟨rfl, rfl⟩
          go_wp2_with (at_builtin; refine wpList_append_lies _ rfl _ _ 40 rfl wo.heap.size 3 i0 _ 1 8 Tryz.underlying40 HI.out HZ0.out HZ1.out HZ2.out rfl (by decide) u0 (lst F p).length (intsV (lst F p)) rfl ?hown ⟨wr.heap.size, 0, none⟩ 1 1 [.int .i64 j] rfl rfl ?hnews ?hone (by decide) ?h63 ?hby ?hbase (wr.heap.size + 1) ?hH ?_)
          case hown => exact World.ownsRow.alloc OX.out _
          case hnews => exact World.news_of_block (heap_alloc_new wr (.cells #[.int .i64 j] 3))
          case hone => intro u hu; simp at hu; subst hu; rfl
          case h63 => have := HLE.out; unfold maxLen; omega
          case hby => have := HLE.out; omega
          case hbase => have := hsz.out; simp; omega
          case hH => simp
          intro g cap w4 hown4 hgrow hat hglt
          have B4 : Hid (Below wo.heap.size wo w4) := BY.out.trans (((below_box wr _).mono hsz.out).grown hgrow (by have := hsz.out; simp; omega) (fun x hx => (OX.out.lt x hx).1))
          have O4 : Hid (Ints wo.heap.size w4 (.slice (some ⟨g, 0, none⟩) ((lst F p).length + 1) cap) (lst F (j + 1))) := by
            unfold Ints intsV at *
            rw [HL.out, List.map_append, List.length_append]
            exact hown4
          clear hown4 hgrow hat hglt
          go_wp2_with fail
          go_at_call 77
          refine (next_is _ _ _ _ _ _ (SX.out.later B4.out) (TX.out.later B4.out)).mono ?_
          rintro e w' ⟨⟨r2, t2, rfl, hN⟩, rfl⟩
          have ej : ((j : Int) + 1).toNat = j + 1 := by omega
          rw [ej] at hN
          have N2 := hid hN
          clear hN
          go_wp2_with fail
          go_roundg (n - (j + 1))
          · exact ⟨j + 1, r2, t2, by omega, by omega, rfl, rfl, N2.out, O4.out, B4.out⟩
          · omega
        · have e := lst_gap F p n hp (fun k h1 _ => hgap k h1)
          have O5 : Hid (Ints w.heap.size wr u0 (lst F n)) := by
            rw [e]
            exact ints_mono OX.out BX.out.size
          clear e hgap NX
          go_wp2_with fail
          go_ret
          exact ⟨⟨_, rfl, by rw [HF.out]; exact O5.out⟩, BX.out.trans (BY.out.mono BX.out.size)⟩
theorem out_ok (b n r f : Nat) (bk ck : Nat → Nat) (L : Nat → Nat → Nat) (labels : Int) (w : World) (h : Graph w b n r bk ck L) (hf : f < n) (hT : Tab w) :
    Calls Tryz.prog 42 #[.pointer (some ⟨b, 0, none⟩), .int .i64 f, .int .i64 labels] w fun e w' => (∃ v, e = .returned v ∧ Ints w.heap.size w' v (lst (endsF L f labels 4) n)) ∧ Below w.heap.size w w' := by
  have H1 := hid (ghas_ok b n f w h.c0 h.c1 hf)
  have H2 := hid (row_is b n r f w h.c2 hf h.bound)
  have H3 := hid (gather_is b n r f bk ck L labels w h hf hT)
  clear h hT
  go_enter Tryz.func42, Tryz.ntmps42
  go_wp2_with fail
  refine H1.out.mono ?_
  rintro e w' ⟨rfl, rfl⟩
  go_wp2_with fail
  refine H2.out.mono ?_
  rintro e w' ⟨rfl, rfl⟩
  go_wp2_with fail
  refine H3.out.mono ?_
  rintro e w' ⟨⟨v, rfl, hI⟩, bl⟩
  have HI := hid hI
  have BL := hid bl
  clear hI bl
  go_wp2_with fail
  go_ret
  exact ⟨⟨_, rfl, HI.out⟩, BL.out⟩
theorem out_no (b n r : Nat) (f : Int) (bk ck : Nat → Nat) (L : Nat → Nat → Nat) (labels : Int) (w : World) (h : Graph w b n r bk ck L) (hf : f < 0 ∨ (n : Int) ≤ f) :
    Calls Tryz.prog 42 #[.pointer (some ⟨b, 0, none⟩), .int .i64 f, .int .i64 labels] w fun e w' => e = .returned (.slice none 0 0) ∧ w = w' := by
  have H1 := hid (ghas_no b n f w h.c0 h.c1 hf)
  clear h
  go_enter Tryz.func42, Tryz.ntmps42
  go_wp2_with fail
  refine H1.out.mono ?_
  rintro e w' ⟨rfl, rfl⟩
  go_wp2_with fail
  go_ret
  exact ⟨rfl, rfl⟩
end Go.Proofs.YtdihbeffomibeaaGreatDoor
namespace Go.Proofs.YtdihbeffomibeaaGreatDoor
set_option linter.unusedVariables false
set_option linter.unusedSimpArgs false
open Go.RowKit

theorem Tryz.info80 : (Tryz.prog.info? 61).map (fun i => (i.zero, i.size, i.bytes)) = some (some (.agg #[.int .i64 0, .int .i64 0, .int .i64 0]), 3, 24) := by kernel_rfl
theorem edgeC (f t x : Int) (kb : Nat) (w : World) (hk : w.cell? ⟨kb, 0, none⟩ = some (.int .i64 f)) :
    Calls Tryz.prog 88 #[.int .i64 t, .int .i64 x, .pointer (some ⟨kb, 0, none⟩)] w fun e w' => e = .returned (.agg #[.int .i64 f, .int .i64 t, .int .i64 x]) ∧ Below w.heap.size w w' := by
  have hlt : kb < w.heap.size := World.block_lt_of_cell? _ _ hk
  have hk' : ∀ o, (w.alloc o).cell? ⟨kb, 0, none⟩ = some (.int .i64 f) := fun o => Lib.cell?_alloc_some _ hk
  go_enter Tryz.func88, Tryz.ntmps88
  go_wp2_with fail
  refine bodyPost_ret (v := .agg #[.int .i64 f, .int .i64 t, .int .i64 x]) (by simp [results, Tryz.results78, go_sem]) rfl ⟨rfl, ?_⟩
  exact below_box _ _

/-- w' is w but for blocks of edges and new ones. -/
structure Past (w w' : World) : Prop where
  os : w'.os = w.os
  tape : w'.tape = w.tape
  output : w'.output = w.output
  size : w.heap.size ≤ w'.heap.size
  block : ∀ k, k < w.heap.size → (∀ cs fr, w.heap[k]? ≠ some (.cells cs 61 fr)) → w'.heap[k]? = w.heap[k]?
theorem Past.refl (w : World) : Past w w := ⟨rfl, rfl, rfl, Nat.le_refl _, fun _ _ _ => rfl⟩
theorem Past.of_below {w w' : World} (h : Below w.heap.size w w') : Past w w' := ⟨h.os, h.tape, h.output, h.size, fun k hk _ => h.block k hk⟩
theorem Past.trans {a b c : World} (h1 : Past a b) (h2 : Past b c) : Past a c :=
  ⟨h2.os.trans h1.os, h2.tape.trans h1.tape, h2.output.trans h1.output, Nat.le_trans h1.size h2.size, fun k hk hn => by
    have e := h1.block k hk hn
    exact (h2.block k (Nat.lt_of_lt_of_le hk h1.size) (fun cs fr h => hn cs fr (e.symm.trans h))).trans e⟩
theorem Past.grown {w w' : World} {B : Nat} {v : Value} {n : Nat} {xs : List Value} (own : w.ownsRow B 61 3 v n xs) (hg : w.grownBy w' v.ownBlock) : Past w w' :=
  ⟨hg.os, hg.tape, hg.output, hg.size, fun k hk hn => hg.block k hk (fun e => by
    rcases own.2 with ⟨hv, _⟩ | ⟨g, cap, cur, hv, _, h2, _⟩
    · rw [hv] at e; simp [Value.ownBlock] at e
    · rw [hv] at e
      simp [Value.ownBlock] at e
      subst e
      exact hn cur (0, 0) h2)⟩
theorem Past.at {w w' : World} (h : Past w w') {k : Nat} {cs : Array Value} {t : TypeId} (hk : w.heap[k]? = some (.cells cs t)) (ht : t ≠ 61) : w'.heap[k]? = some (.cells cs t) :=
  (h.block k (blt hk) (fun cs' fr e => by
    have := hk.symm.trans e
    injection this with this
    injection this with _ h2
    exact ht h2)).trans hk
theorem Is.past {w w' : World} {b n c : Nat} {f : Nat → Bool} (h : Is w b n c f) (hp : Past w w') : Is w' b n c f := by
  obtain ⟨ws, s1, s2⟩ := h.ex
  exact ⟨⟨ws, ⟨hp.at s1.box (by decide), hp.at s1.row (by decide), s1.len, s1.small, s1.bound⟩, s2⟩, h.top⟩
theorem Graph.past {w w' : World} {b n r : Nat} {bk ck : Nat → Nat} {L : Nat → Nat → Nat} (h : Graph w b n r bk ck L) (hp : Past w w') : Graph w' b n r bk ck L := by
  obtain ⟨cur, h1, h2, h3⟩ := h.row
  exact ⟨hp.at h.box (by decide), ⟨cur, hp.at h1 (by decide), h2, h3⟩, fun k hk => (h.sets k hk).past hp, h.apart, h.small, h.bound⟩
/-- An edge's cells; edges as cells. -/
def edgeV (e : Nat × Nat × Nat) : List Value := [.int .i64 e.1, .int .i64 e.2.1, .int .i64 e.2.2]
def edgesV (l : List (Nat × Nat × Nat)) : List Value := l.flatMap edgeV
theorem edgesV_snoc (l : List (Nat × Nat × Nat)) (e : Nat × Nat × Nat) : edgesV (l ++ [e]) = edgesV l ++ edgeV e := by
  unfold edgesV
  simp
/-- A slice of edges of one's own, in blocks from B on. -/
def EdgesIn (B : Nat) (w : World) (v : Value) (l : List (Nat × Nat × Nat)) : Prop := w.ownsRow B 61 3 v l.length (edgesV l)
theorem EdgesIn.later {B : Nat} {w w' : World} {v : Value} {l : List (Nat × Nat × Nat)} (h : EdgesIn B w v l) (hb : Below w.heap.size w w') : EdgesIn B w' v l :=
  World.ownsRow.kept (row := none) h ⟨hb.os, hb.tape, hb.output, hb.size, fun k hk _ => hb.block k hk⟩ (by cases hq : v.ownBlock with | none => exact .inl rfl | some g => exact .inr (by simp))
theorem EdgesIn.beside {B : Nat} {w w' : World} {v : Value} {l : List (Nat × Nat × Nat)} {b n c : Nat} {f : Nat → Bool} (h : EdgesIn B w v l) (hs : Is w b n c f) (hb : Beside c w w') : EdgesIn B w' v l := by
  refine World.ownsRow.kept (row := some c) h ⟨hb.os, hb.tape, hb.output, hb.size, fun k hk hn => hb.block k hk (fun e => hn (by rw [e]))⟩ ?_
  obtain ⟨ws, s1, s2⟩ := hs.ex
  rcases h.2 with ⟨hv, _⟩ | ⟨g, cap, cur, hv, _, h2, _⟩
  · rw [hv]; exact .inl rfl
  · rw [hv]
    right
    simp [Value.ownBlock]
    exact tags h2 s1.row (by decide)
end Go.Proofs.YtdihbeffomibeaaGreatDoor
namespace Go.Proofs.YtdihbeffomibeaaGreatDoor
set_option linter.unusedVariables false
set_option linter.unusedSimpArgs false
open Go.RowKit

theorem Tab.from {w w' : World} {B : Nat} (h : Tab w) (hb : Below B w w') (h0 : 1 < B) : Tab w' := fun j hj => by
  have h1 := h j hj
  exact (hb.cell (p := ⟨1, j, none⟩) h0).trans h1
/-- A node's edges of some labels. -/
def rowE (L : Nat → Nat → Nat) (f : Nat) (F : Nat → Bool) (p : Nat) : List (Nat × Nat × Nat) := (lst F p).map fun t => (f, t, L f t)
theorem rowE_len (L : Nat → Nat → Nat) (f : Nat) (F : Nat → Bool) (p : Nat) : (rowE L f F p).length ≤ p := by
  unfold rowE
  rw [List.length_map]
  exact lst_le F p

set_option maxHeartbeats 8000000 in
theorem gatherE_is (b n r f : Nat) (bk ck : Nat → Nat) (L : Nat → Nat → Nat) (labels : Int) (kb B : Nat) (v0 : Value) (l0 : List (Nat × Nat × Nat)) (w : World) (h : Graph w b n r bk ck L) (hf : f < n) (hT : Tab w) (hk : w.heap[kb]? = some (.cells #[.int .i64 f] 3)) (hv : EdgesIn B w v0 l0) (hB : B ≤ w.heap.size) (hB0 : 1 < B) (hl0 : l0.length ≤ 1000000) :
    Calls Tryz.prog 87 #[v0, .slice (some ⟨r, 4 * f, none⟩) 4 4, .int .i64 labels, .func (.func 88) #[] #[.pointer (some ⟨kb, 0, none⟩)]] w fun e w' => (∃ v, e = .returned v ∧ EdgesIn B w' v (l0 ++ rowE L f (endsF L f labels 4) n)) ∧ Past w w' ∧ Below B w w' := by
  obtain ⟨i0, hi, hz'⟩ := Option.map_eq_some_iff.1 Tryz.info80
  simp only [Prod.mk.injEq] at hz'
  obtain ⟨hz0, hz1, hz2⟩ := hz'
  have HI := hid hi
  have HZ0 := hid hz0
  have HZ1 := hid hz1
  have HZ2 := hid hz2
  clear hi hz0 hz1 hz2
  have c0 := h.at (4 * f) (by omega)
  have I0 := hid (h.sets (4 * f) (by omega))
  have hn3 := h.bound
  have hni : (n : Int) ≤ 300 := by omega
  have G := hid h
  have TB := hid hT
  have KB := hid hk
  have EV := hid hv
  clear h hT hk hv
  go_enter Tryz.func87, Tryz.ntmps87
  go_wp2_with (go_at_call 75; refine (bound_is _ _ _ _ _ I0.out).mono ?_; rintro e w' ⟨rfl, rfl⟩)
  go_at_call 53
  refine (new_is n (by omega) w).mono ?_
  rintro e w1 ⟨rfl, s1, b1, z1⟩
  have S1 := hid s1
  have B1 := hid b1
  clear s1 b1 z1
  go_wp2_with fail
  go_loopg [11, 12, 25] 4 (fun g _ _ i wr => ∃ k : Nat, k ≤ 4 ∧ 4 - k ≤ g ∧ i = .int .i64 k ∧ Aside (Is wr (w.heap.size + 1) n w.heap.size (endsF L f labels k)) ∧ Aside (EdgesIn B wr v0 l0) ∧ Aside (Below w.heap.size w wr))
  case atStart => exact ⟨0, by omega, by omega, rfl, S1.out, EV.out.later B1.out, B1.out⟩
  case round =>
    obtain ⟨k, hk, hg, rfl, SX, EX, BX⟩ := hrel
    by_cases hlt : k < 4
    · have hlti : (k : Int) < 4 := by omega
      have GX := G.out.later BX.out
      have cr := GX.at (4 * f + k) (by omega)
      have IK := hid (GX.setAt f k hf hlt)
      have hlb : bk (4 * f + k) < w.heap.size ∧ ck (4 * f + k) < w.heap.size := (G.out.setAt f k hf hlt).blt
      have ES := hid (endsF_succ L f labels k)
      clear GX
      cases hb : lbit labels k
      · have q : (bits BinOp.and IntKind.i64 (labels / 2 ^ k) 1 == 1) = false := hb
        rw [hb] at ES
        clear hb
        go_wp2_with fail
        go_roundg (4 - (k + 1))
        · exact ⟨k + 1, by omega, by omega, by go_num, SX.out.congr (fun t => by rw [ES.out]; simp), EX.out, BX.out⟩
        · omega
      · have q : (bits BinOp.and IntKind.i64 (labels / 2 ^ k) 1 == 1) = true := hb
        rw [hb] at ES
        clear hb
        go_wp2_with fail
        go_at_call 76
        refine (or_is _ n _ _ _ _ _ _ SX.out IK.out (by omega) (by omega)).mono ?_
        rintro e wa ⟨⟨t, rfl, ht⟩, sa, ba, za⟩
        have SN : Hid (Is wa (w.heap.size + 1) n w.heap.size (endsF L f labels (k + 1))) := sa.congr (fun t => by rw [ES.out]; simp)
        have EN : Hid (EdgesIn B wa v0 l0) := EX.out.beside SX.out ba
        have BN : Hid (Below w.heap.size w wa) := BX.out.trans (ba.below (Nat.le_refl _) BX.out.size)
        clear sa ba za ht
        go_wp2_with fail
        go_roundg (4 - (k + 1))
        · exact ⟨k + 1, by omega, by omega, by go_num, SN.out, EN.out, BN.out⟩
        · omega
    · have hlti : ¬ (k : Int) < 4 := by omega
      have ek : k = 4 := by omega
      subst ek
      have TX : Hid (Tab wr) := TB.out.later BX.out
      have TP := hid SX.out.top
      obtain ⟨F, hF⟩ : ∃ F, endsF L f labels 4 = F := ⟨_, rfl⟩
      rw [hF] at SX TP
      have HF := hid hF
      have GX := hid (G.out.later BX.out)
      have KX : Hid (wr.heap[kb]? = some (.cells #[.int .i64 f] 3)) := (BX.out.block kb (blt KB.out)).trans KB.out
      have PX := hid (Past.of_below BX.out)
      have BB : Hid (Below B w wr) := BX.out.mono hB
      have hwo : B ≤ wr.heap.size := Nat.le_trans hB BX.out.size
      clear hF BX S1 B1
      generalize wr = wo at *
      go_wp2_with fail
      go_at_call 77
      refine (next_is _ _ _ _ _ _ SX.out TX.out).mono ?_
      rintro e w' ⟨⟨r0, t0, rfl, hN⟩, rfl⟩
      have N0 := hid hN
      clear hN
      go_wp2_with fail
      go_loopg [0, 13, 14] n (fun g l i ok wr2 => ∃ (p : Nat) (q : Int) (t : Bool), p ≤ n ∧ n - p ≤ g ∧ i = .int .i64 q ∧ ok = .bool t ∧ Aside (NextIs F p q t) ∧ Aside (EdgesIn B wr2 l (l0 ++ rowE L f F p)) ∧ Aside (Past wo wr2) ∧ Aside (Below B wo wr2))
      case atStart => exact ⟨0, r0, t0, Nat.zero_le _, by omega, rfl, rfl, N0.out, (by show EdgesIn B wo v0 (l0 ++ rowE L f F 0); simpa [rowE, lst] using EX.out), Past.refl _, Below.refl _ _⟩
      case round =>
        clear N0 EX
        obtain ⟨p, q, t, hp, hg2, rfl, rfl, NX, OX, PY, BY⟩ := hrel
        rcases NX.out with ⟨rfl, j, rfl, hpj, hfj, hgap⟩ | ⟨rfl, rfl, hgap⟩
        · have hjn : j < n := by
            rcases Nat.lt_or_ge j n with h1 | h1
            · exact h1
            · have := TP.out j h1
              rw [hfj] at this
              cases this
          have hl1 := lst_step F p j hpj hfj hgap
          have HL : Hid (l0 ++ rowE L f F (j + 1) = (l0 ++ rowE L f F p) ++ [(f, j, L f j)]) := by
            show _ = _
            unfold rowE
            rw [hl1]
            simp
          have HLE := hid (rowE_len L f F p)
          have hji : (j : Int) < 300 := by omega
          have hji0 : (0 : Int) ≤ j := by omega
          have hsz : Hid (B ≤ wr.heap.size) := Nat.le_trans hwo BY.out.size
          have LB0 := labelsIn_at b n r f bk ck L j wr (GX.out.past PY.out) hf
          have el : labAt L f (j : Int) = L f j := by unfold labAt; simp
          rw [el] at LB0
          have LB := hid LB0
          have KY := PY.out.at KX.out (by decide)
          have KC := hid (edgeC f j (L f j : Nat) kb wr (Lib.cell_of_heap KY 0))
          clear NX hgap hfj hl1 LB0 el KY
          obtain ⟨lab, hlab⟩ : ∃ x, L f j = x := ⟨_, rfl⟩
          rw [hlab] at HL LB KC
          clear hlab
          go_wp2_with fail
          refine LB.out.mono ?_
          rintro e w' ⟨rfl, rfl⟩
          go_wp2_with fail
          refine KC.out.mono ?_
          rintro e w3 ⟨rfl, b3⟩
          have B3 := hid b3
          have O3 : Hid (EdgesIn B w3 u0 (l0 ++ rowE L f F p)) := OX.out.later b3
          clear b3
          obtain ⟨M, hM⟩ : ∃ M, (l0 ++ rowE L f F p).length = M := ⟨_, rfl⟩
          have O3r : Hid (w3.ownsRow B 61 3 u0 M (edgesV (l0 ++ rowE L f F p))) := by rw [← hM]; exact O3.out
          have hMb : M ≤ 1000300 := by have := HLE.out; rw [← hM, List.length_append]; omega
          have HM := hid hM
          clear hM
          go_wp2_with (at_builtin; refine wpList_append_lies _ rfl _ _ 58 rfl B 61 i0 _ 3 24 Tryz.underlying58 HI.out HZ0.out HZ1.out HZ2.out rfl (by decide) u0 M (edgesV (l0 ++ rowE L f F p)) rfl ?hown ⟨w3.heap.size, 0, none⟩ 1 1 (edgeV (f, j, lab)) rfl rfl ?hnews ?hone (by decide) ?h63 ?hby ?hbase (w3.heap.size + 1) ?hH ?_)
          case hown => exact World.ownsRow.alloc O3r.out _
          case hnews => exact World.news_of_block (heap_alloc_new w3 (.cells #[.int .i64 f, .int .i64 j, .int .i64 lab] 61))
          case hone => intro u hu; unfold edgeV at hu; simp at hu; rcases hu with rfl | rfl | rfl <;> rfl
          case h63 => unfold maxLen; omega
          case hby => omega
          case hbase => have := hsz.out; have := B3.out.size; simp; omega
          case hH => simp
          intro g cap w4 hown4 hgrow hat hglt
          have P4 : Hid (Past wo w4) := PY.out.trans ((Past.of_below (B3.out.trans ((below_box w3 _).mono B3.out.size))).trans (Past.grown (World.ownsRow.alloc O3r.out _) hgrow))
          have B4 : Hid (Below B wo w4) := BY.out.trans (((B3.out.mono hsz.out).trans ((below_box w3 _).mono (Nat.le_trans hsz.out B3.out.size))).grown hgrow (by have := hsz.out; have := B3.out.size; simp; omega) (fun x hx => (O3r.out.lt x hx).1))
          have O4 : Hid (EdgesIn B w4 (.slice (some ⟨g, 0, none⟩) (M + 1) cap) (l0 ++ rowE L f F (j + 1))) := by
            have e1 : (l0 ++ rowE L f F (j + 1)).length = M + 1 := by rw [HL.out, List.length_append, HM.out]; rfl
            show EdgesIn B w4 _ _
            unfold EdgesIn
            rw [e1, HL.out, edgesV_snoc]
            exact hown4
          clear hown4 hgrow hat hglt
          go_wp2_with fail
          go_at_call 77
          refine (next_is _ _ _ _ _ _ (SX.out.past P4.out) (TX.out.from B4.out hB0)).mono ?_
          rintro e w' ⟨⟨r2, t2, rfl, hN⟩, rfl⟩
          have ej : ((j : Int) + 1).toNat = j + 1 := by omega
          rw [ej] at hN
          have N2 := hid hN
          clear hN
          go_wp2_with fail
          go_roundg (n - (j + 1))
          · exact ⟨j + 1, r2, t2, by omega, by omega, rfl, rfl, N2.out, O4.out, P4.out, B4.out⟩
          · omega
        · have e := lst_gap F p n hp (fun k h1 _ => hgap k h1)
          have O5 : Hid (EdgesIn B wr u0 (l0 ++ rowE L f F n)) := by
            unfold rowE
            rw [e]
            exact OX.out
          clear e hgap NX
          go_wp2_with fail
          go_ret
          exact ⟨⟨_, rfl, by rw [HF.out]; exact O5.out⟩, PX.out.trans PY.out, BB.out.trans BY.out⟩
end Go.Proofs.YtdihbeffomibeaaGreatDoor
namespace Go.Proofs.YtdihbeffomibeaaGreatDoor
set_option linter.unusedVariables false
set_option linter.unusedSimpArgs false
open Go.RowKit

/-- The edges of the first k nodes. -/
def allE (L : Nat → Nat → Nat) (n k : Nat) : List (Nat × Nat × Nat) := (List.range k).flatMap fun f => rowE L f (endsF L f 15 4) n
theorem allE_succ (L : Nat → Nat → Nat) (n k : Nat) : allE L n (k + 1) = allE L n k ++ rowE L k (endsF L k 15 4) n := by
  unfold allE
  rw [List.range_succ, List.flatMap_append]
  simp
theorem allE_len (L : Nat → Nat → Nat) (n k : Nat) : (allE L n k).length ≤ k * n := by
  induction k with
  | zero => simp [allE]
  | succ k ih =>
    rw [allE_succ, List.length_append]
    have := rowE_len L k (endsF L k 15 4) n
    rw [Nat.succ_mul]
    omega
theorem Tab.pos {w : World} (h : Tab w) : 1 < w.heap.size := World.block_lt_of_cell? _ _ (h 0 (by decide))

set_option maxHeartbeats 8000000 in
theorem edges_is (b n r : Nat) (bk ck : Nat → Nat) (L : Nat → Nat → Nat) (w : World) (h : Graph w b n r bk ck L) (hT : Tab w) :
    Calls Tryz.prog 74 #[.pointer (some ⟨b, 0, none⟩)] w fun e w' => (∃ v, e = .returned v ∧ EdgesIn w.heap.size w' v (allE L n n)) ∧ Below w.heap.size w w' := by
  have N := hid (nodes_is b n w h.c0 h.c1)
  have G := hid h
  have TB := hid hT
  have hn3 := h.bound
  have hni : (n : Int) ≤ 300 := by omega
  have hpos := hT.pos
  clear h hT
  go_enter Tryz.func74, Tryz.ntmps74
  go_wp2_with (go_at_call 40; refine N.out.mono ?_; rintro e w' ⟨rfl, rfl⟩)
  go_loopg [3, 4, 7] n (fun g l _ i wr => ∃ k : Nat, k ≤ n ∧ n - k ≤ g ∧ i = .int .i64 k ∧ Aside (EdgesIn w.heap.size wr l (allE L n k)) ∧ Aside (Past w wr) ∧ Aside (Below w.heap.size w wr))
  case atStart => exact ⟨0, Nat.zero_le _, by omega, rfl, World.ownsRow_nil _ _ _ _, Past.refl _, Below.refl _ _⟩
  case round =>
    obtain ⟨k, hk, hg, rfl, EX, PX, BX⟩ := hrel
    by_cases hlt : k < n
    · have hlti : (k : Int) < n := by omega
      have W1 := below_box wr (.cells #[.int .i64 k] 3)
      have KB : Hid ((wr.alloc (.cells #[.int .i64 k] 3)).heap[wr.heap.size]? = some (.cells #[.int .i64 k] 3)) := heap_alloc_new wr _
      have G1 : Hid (Graph (wr.alloc (.cells #[.int .i64 k] 3)) b n r bk ck L) := (G.out.past PX.out).later W1
      have E1 : Hid (EdgesIn w.heap.size (wr.alloc (.cells #[.int .i64 k] 3)) u3 (allE L n k)) := EX.out.later W1
      have B1 : Hid (Below w.heap.size w (wr.alloc (.cells #[.int .i64 k] 3))) := BX.out.trans (W1.mono BX.out.size)
      have P1 : Hid (Past w (wr.alloc (.cells #[.int .i64 k] 3))) := PX.out.trans (Past.of_below W1)
      have hkb : (wr.alloc (.cells #[.int .i64 k] 3)).cell? ⟨wr.heap.size, 0, none⟩ = some (.int .i64 k) := Lib.cell_of_heap KB.out 0
      have HA := hid (allE_succ L n k)
      have HLEN : (allE L n k).length ≤ 1000000 := by
        have h1 := allE_len L n k
        have h2 : k * n ≤ 300 * 300 := Nat.mul_le_mul (by omega) hn3
        omega
      clear W1
      go_wp2_with fail
      have HR := hid (row_is b n r k _ G1.out.c2 hlt hn3)
      have HG := hid (gatherE_is b n r k bk ck L 15 wr.heap.size w.heap.size u3 (allE L n k) _ G1.out hlt (TB.out.later B1.out) KB.out E1.out B1.out.size hpos HLEN)
      clear KB E1
      refine HR.out.mono ?_
      rintro e w' ⟨rfl, rfl⟩
      go_wp2_with fail
      refine HG.out.mono ?_
      rintro e w3 ⟨⟨v, rfl, e3⟩, p3, b3⟩
      have E3 : Hid (EdgesIn w.heap.size w3 v (allE L n (k + 1))) := by rw [HA.out]; exact e3
      have P3 := hid (P1.out.trans p3)
      have B3 := hid (B1.out.trans b3)
      clear e3 p3 b3
      go_wp2_with fail
      go_roundg (n - (k + 1))
      · exact ⟨k + 1, by omega, by omega, by go_num, E3.out, P3.out, B3.out⟩
      · omega
    · have hlti : ¬ (k : Int) < n := by omega
      have ek : n = k := by omega
      subst ek
      go_wp2_with fail
      go_ret
      exact ⟨⟨_, rfl, EX.out⟩, BX.out⟩
end Go.Proofs.YtdihbeffomibeaaGreatDoor
namespace Go.Proofs.YtdihbeffomibeaaGreatDoor
set_option linter.unusedVariables false
set_option linter.unusedSimpArgs false
open Go.RowKit

/-- The document's graph of n nodes in block b, its rows' places in the slice v, the row i in block rw i; L tells an edge's labels. -/
structure RefG (w : World) (b n : Nat) (v : Value) (rw' : Nat → Nat) (L : Nat → Nat → Nat) : Prop where
  box : w.heap[b]? = some (.cells #[v] 83)
  rows : w.ownsRow 0 40 1 v n ((List.range n).map fun i => Value.slice (some ⟨rw' i, 0, none⟩) n n)
  each : ∀ i, i < n → ∃ cur : Array Value, w.heap[rw' i]? = some (.cells cur 3) ∧ cur.size = n ∧ ∀ j, j < n → cur[j]? = some (.int .i64 (L i j))
  apart : ∀ i j, i < n → j < n → i ≠ j → rw' i ≠ rw' j
  small : ∀ f t, L f t < 16
  bound : n ≤ 300
theorem RefG.later {w w' : World} {b n : Nat} {v : Value} {rw' : Nat → Nat} {L : Nat → Nat → Nat} (h : RefG w b n v rw' L) (hb : Below w.heap.size w w') : RefG w' b n v rw' L := by
  refine ⟨(hb.block b (blt h.box)).trans h.box, ?_, fun i hi => ?_, h.apart, h.small, h.bound⟩
  · exact World.ownsRow.kept (row := none) h.rows ⟨hb.os, hb.tape, hb.output, hb.size, fun k hk _ => hb.block k hk⟩ (by cases hq : v.ownBlock with | none => exact .inl rfl | some g => exact .inr (by simp))
  · obtain ⟨cur, h1, h2⟩ := h.each i hi
    exact ⟨cur, (hb.block _ (blt h1)).trans h1, h2⟩
/-- What a walk reads of it: the slice of rows, a row's place, a cell. -/
theorem RefG.form {w : World} {b n : Nat} {v : Value} {rw' : Nat → Nat} {L : Nat → Nat → Nat} (h : RefG w b n v rw' L) : ∃ ao cap, v = .slice ao n cap ∧ ∀ i, i < n → ∃ R, ao = some ⟨R, 0, none⟩ ∧ w.cell? ⟨R, i, none⟩ = some (.slice (some ⟨rw' i, 0, none⟩) n n) := by
  rcases h.rows.2 with ⟨hv, hn⟩ | ⟨g, cap, cur, hv, _, h2, h3, h4, h5, h6⟩
  · exact ⟨none, 0, by rw [hv, hn], fun i hi => by omega⟩
  · refine ⟨_, _, hv, fun i hi => ⟨g, rfl, ?_⟩⟩
    rw [Lib.cell_of_heap h2]
    have e : ((List.range n).map fun i => Value.slice (some ⟨rw' i, 0, none⟩) n n)[i]? = some (.slice (some ⟨rw' i, 0, none⟩) n n) := by simp [hi]
    rw [← h6, List.getElem?_take, if_pos (by omega)] at e
    simpa using e
theorem RefG.cell {w : World} {b n : Nat} {v : Value} {rw' : Nat → Nat} {L : Nat → Nat → Nat} (h : RefG w b n v rw' L) (i j : Nat) (hi : i < n) (hj : j < n) : w.cell? ⟨rw' i, j, none⟩ = some (.int .i64 (L i j)) ∧ w.frozen? ⟨rw' i, j, none⟩ = false := by
  obtain ⟨cur, h1, h2, h3⟩ := h.each i hi
  exact ⟨(Lib.cell_of_heap h1 j).trans (h3 j hj), Lib.frozen_of_heap h1 j⟩
theorem RefG.c0 {w : World} {b n : Nat} {v : Value} {rw' : Nat → Nat} {L : Nat → Nat → Nat} (h : RefG w b n v rw' L) : w.cell? ⟨b, 0, none⟩ = some v := Lib.cell_of_heap h.box 0

theorem rthere_ok (b n cap : Nat) (ao : Option Addr) (i : Nat) (w : World) (c0 : w.cell? ⟨b, 0, none⟩ = some (.slice ao n cap)) (hi : i < n) : Calls Tryz.prog 50 #[.pointer (some ⟨b, 0, none⟩), .int .i64 i] w fun e w' => e = .returned (.bool true) ∧ w = w' := by
  have h1 : (0 : Int) ≤ i := by omega
  have h2 : (i : Int) < n := by omega
  go_enter Tryz.func50, Tryz.ntmps50
  go_wp2
  go_ret
  exact ⟨rfl, rfl⟩
theorem rthere_no (b n cap : Nat) (ao : Option Addr) (i : Int) (w : World) (c0 : w.cell? ⟨b, 0, none⟩ = some (.slice ao n cap)) (hi : i < 0 ∨ (n : Int) ≤ i) : Calls Tryz.prog 50 #[.pointer (some ⟨b, 0, none⟩), .int .i64 i] w fun e w' => e = .returned (.bool false) ∧ w = w' := by
  rcases hi with h | h
  · have h1 : ¬ (0 : Int) ≤ i := by omega
    have h2 : decide (0 ≤ i) = false := by simp; omega
    go_enter Tryz.func50, Tryz.ntmps50
    go_wp2
    go_ret
    exact ⟨rfl, rfl⟩
  · have h1 : (0 : Int) ≤ i := by omega
    have h2 : ¬ i < (n : Int) := by omega
    go_enter Tryz.func50, Tryz.ntmps50
    go_wp2
    go_ret
    first | exact ⟨rfl, rfl⟩ | exact ⟨ret_bool (by simp; omega), rfl⟩
theorem rlabels_ok (b n : Nat) (v : Value) (rw' : Nat → Nat) (L : Nat → Nat → Nat) (f t : Nat) (w : World) (h : RefG w b n v rw' L) (hf : f < n) (ht : t < n) :
    Calls Tryz.prog 29 #[.pointer (some ⟨b, 0, none⟩), .int .i64 f, .int .i64 t] w fun e w' => e = .returned (.int .i64 (L f t)) ∧ w = w' := by
  obtain ⟨ao, cap, rfl, hr⟩ := h.form
  have c0 := h.c0
  obtain ⟨R, rfl, c1⟩ := hr f hf
  have c2 := (h.cell f t hf ht).1
  have T1 := hid (rthere_ok b n cap _ f w c0 hf)
  have T2 := hid (rthere_ok b n cap _ t w c0 ht)
  have h1 : (f : Int) < n := by omega
  have h2 : (t : Int) < n := by omega
  have hn3 := h.bound
  clear h hr
  go_enter Tryz.func29, Tryz.ntmps29
  go_wp2_with fail
  refine T1.out.mono ?_
  rintro e w' ⟨rfl, rfl⟩
  go_wp2_with fail
  refine T2.out.mono ?_
  rintro e w' ⟨rfl, rfl⟩
  go_wp2_with fail
  go_ret
  exact ⟨rfl, rfl⟩
theorem rlabels_no (b n : Nat) (v : Value) (rw' : Nat → Nat) (L : Nat → Nat → Nat) (f t : Int) (w : World) (h : RefG w b n v rw' L) (hb : (f < 0 ∨ (n : Int) ≤ f) ∨ (t < 0 ∨ (n : Int) ≤ t)) :
    Calls Tryz.prog 29 #[.pointer (some ⟨b, 0, none⟩), .int .i64 f, .int .i64 t] w fun e w' => e = .returned (.int .i64 0) ∧ w = w' := by
  obtain ⟨ao, cap, rfl, hr⟩ := h.form
  have c0 := h.c0
  clear h hr
  by_cases hf : f < 0 ∨ (n : Int) ≤ f
  · have T1 := hid (rthere_no b n cap _ f w c0 hf)
    clear hb hf
    go_enter Tryz.func29, Tryz.ntmps29
    go_wp2_with fail
    refine T1.out.mono ?_
    rintro e w' ⟨rfl, rfl⟩
    go_wp2_with fail
    go_ret
    exact ⟨rfl, rfl⟩
  · obtain ⟨F, rfl⟩ : ∃ F : Nat, f = F := ⟨f.toNat, by omega⟩
    have T1 := hid (rthere_ok b n cap _ F w c0 (by omega))
    have T2 := hid (rthere_no b n cap _ t w c0 (by omega))
    clear hb hf
    go_enter Tryz.func29, Tryz.ntmps29
    go_wp2_with fail
    refine T1.out.mono ?_
    rintro e w' ⟨rfl, rfl⟩
    go_wp2_with fail
    refine T2.out.mono ?_
    rintro e w' ⟨rfl, rfl⟩
    go_wp2_with fail
    go_ret
    exact ⟨rfl, rfl⟩
set_option maxRecDepth 100000 in
theorem or_16 : ∀ a : Nat, a < 16 → ∀ x : Nat, x < 16 → bits BinOp.or IntKind.i64 (a : Int) (x : Int) = ((a ||| x : Nat) : Int) := by decide +kernel
theorem RefG.put {w : World} {b n : Nat} {v : Value} {rw' : Nat → Nat} {L : Nat → Nat → Nat} (h : RefG w b n v rw' L) (f t x : Nat) (hf : f < n) (ht : t < n) (hx : x < 16) :
    RefG (w.setCell ⟨rw' f, t, none⟩ (.int .i64 (L f t ||| x : Nat))) b n v rw' (addL L f t x 4) := by
  obtain ⟨cur, h1, h2, h3⟩ := h.each f hf
  have hb : Beside (rw' f) w (w.setCell ⟨rw' f, t, none⟩ (.int .i64 (L f t ||| x : Nat))) := (Beside.refl _ w).setCell (p := ⟨rw' f, t, none⟩) rfl _
  refine ⟨(hb.block b (blt h.box) (tags h.box h1 (by decide))).trans h.box, ?_, fun i hi => ?_, h.apart, addL_small L f t x 4 h.small hx, h.bound⟩
  · refine World.ownsRow.kept (row := some (rw' f)) h.rows ⟨hb.os, hb.tape, hb.output, hb.size, fun k hk hn => hb.block k hk (fun e => hn (by rw [e]))⟩ ?_
    rcases h.rows.2 with ⟨hv, _⟩ | ⟨g, cap, cur', hv, _, k2, _⟩
    · rw [hv]; exact .inl rfl
    · rw [hv]
      right
      simp [Value.ownBlock]
      exact tags k2 h1 (by decide)
  · by_cases e : i = f
    · subst e
      refine ⟨cur.setIfInBounds t (.int .i64 (L i t ||| x : Nat)), Go.Joins.block_setCell h1 _, by simpa using h2, fun j hj => ?_⟩
      rw [Array.getElem?_setIfInBounds]
      unfold addL
      by_cases e2 : t = j
      · subst e2
        rw [if_pos rfl, if_pos (by omega), if_pos ⟨rfl, rfl⟩, low_4 x hx]
      · rw [if_neg e2, if_neg (fun h => e2 h.2.symm)]
        exact h3 j hj
    · obtain ⟨cur2, k1, k2, k3⟩ := h.each i hi
      refine ⟨cur2, (hb.block _ (blt k1) (h.apart i f hi hf e)).trans k1, k2, fun j hj => ?_⟩
      unfold addL
      rw [if_neg (fun h => e h.1)]
      exact k3 j hj

set_option maxHeartbeats 4000000 in
theorem rgadd_ok (b n : Nat) (v : Value) (rw' : Nat → Nat) (L : Nat → Nat → Nat) (f T x : Nat) (w : World) (h : RefG w b n v rw' L) (hf : f < n) (hT : T < n) (hx1 : 1 ≤ x) (hx : x < 16) (hne : f ≠ T) :
    Calls Tryz.prog 32 #[.pointer (some ⟨b, 0, none⟩), .int .i64 f, .int .i64 T, .int .i64 x] w fun e w' => e = .returned (.int .i64 0) ∧ RefG w' b n v rw' (addL L f T x 4) ∧ Beside (rw' f) w w' ∧ w'.heap.size = w.heap.size := by
  have P := hid (h.put f T x hf hT hx)
  have ho := or_16 (L f T) (h.small f T) x hx
  obtain ⟨ao, cap, rfl, hr⟩ := h.form
  have c0 := h.c0
  obtain ⟨R, rfl, c1⟩ := hr f hf
  obtain ⟨c2, f2⟩ := h.cell f T hf hT
  have T1 := hid (rthere_ok b n cap _ f w c0 hf)
  have T2 := hid (rthere_ok b n cap _ T w c0 hT)
  have h1 : (f : Int) < n := by omega
  have h2 : (T : Int) < n := by omega
  have hn3 := h.bound
  have q1 : (1 : Int) ≤ x := by omega
  have q2 : (x : Int) ≤ 15 := by omega
  have q3 : ((f : Int) == (T : Int)) = false := by simp; omega
  clear h hr
  obtain ⟨y, hy⟩ : ∃ y, L f T = y := ⟨_, rfl⟩
  rw [hy] at c2 ho P
  clear hy
  obtain ⟨z, hz⟩ : ∃ z, y ||| x = z := ⟨_, rfl⟩
  rw [hz] at ho P
  clear hz
  go_enter Tryz.func32, Tryz.ntmps32
  go_wp2_with fail
  refine T1.out.mono ?_
  rintro e w' ⟨rfl, rfl⟩
  go_wp2_with fail
  refine T2.out.mono ?_
  rintro e w' ⟨rfl, rfl⟩
  go_wp2_with fail
  go_region
  all_goals (try go_wp2_with fail)
  all_goals
    go_ret
    exact ⟨rfl, P.out.later ((Below.refl _ _).drew), ((Beside.refl (rw' f) w).setCell (p := ⟨rw' f, T, none⟩) rfl _).drewN 1, by simp [World.setCell]⟩
theorem rgadd_no (b n : Nat) (v : Value) (rw' : Nat → Nat) (L : Nat → Nat → Nat) (f t x : Int) (w : World) (h : RefG w b n v rw' L) (hw : addWhy n f t x ≠ 0) :
    Calls Tryz.prog 32 #[.pointer (some ⟨b, 0, none⟩), .int .i64 f, .int .i64 t, .int .i64 x] w fun e w' => e = .returned (.int .i64 (addWhy n f t x)) ∧ w = w' := by
  obtain ⟨ao, cap, rfl, hr⟩ := h.form
  have c0 := h.c0
  clear h hr
  by_cases hf : f < 0 ∨ (n : Int) ≤ f
  · have e : addWhy n f t x = 60 := by unfold addWhy; rw [if_pos (.inl hf)]
    rw [e]
    have H1 := hid (rthere_no b n cap _ f w c0 hf)
    clear hf hw e c0
    go_enter Tryz.func32, Tryz.ntmps32
    go_wp2_with fail
    refine H1.out.mono ?_
    rintro e w' ⟨rfl, rfl⟩
    go_wp2_with fail
    go_ret
    exact ⟨rfl, rfl⟩
  · obtain ⟨F, rfl⟩ : ∃ F : Nat, f = F := ⟨f.toNat, by omega⟩
    have H1 := hid (rthere_ok b n cap _ F w c0 (by omega))
    by_cases ht : t < 0 ∨ (n : Int) ≤ t
    · have e : addWhy n F t x = 60 := by unfold addWhy; rw [if_pos (.inr ht)]
      rw [e]
      have H2 := hid (rthere_no b n cap _ t w c0 ht)
      clear hf ht hw e c0
      go_enter Tryz.func32, Tryz.ntmps32
      go_wp2_with fail
      refine H1.out.mono ?_
      rintro e w' ⟨rfl, rfl⟩
      go_wp2_with fail
      refine H2.out.mono ?_
      rintro e w' ⟨rfl, rfl⟩
      go_wp2_with fail
      go_ret
      exact ⟨rfl, rfl⟩
    · obtain ⟨T, rfl⟩ : ∃ T : Nat, t = T := ⟨t.toNat, by omega⟩
      have H2 := hid (rthere_ok b n cap _ T w c0 (by omega))
      have hb : x < 1 ∨ 15 < x ∨ (F : Int) = T := by
        unfold addWhy at hw
        rw [if_neg (by omega)] at hw
        apply Classical.byContradiction
        intro h
        rw [if_neg h] at hw
        exact hw rfl
      have e : addWhy n F T x = 1 := by unfold addWhy; rw [if_neg (by omega), if_pos hb]
      rw [e]
      clear hw e c0 hf ht
      by_cases b1 : x < 1
      · go_enter Tryz.func32, Tryz.ntmps32
        go_wp2_with fail
        refine H1.out.mono ?_
        rintro e w' ⟨rfl, rfl⟩
        go_wp2_with fail
        refine H2.out.mono ?_
        rintro e w' ⟨rfl, rfl⟩
        go_wp2_with fail
        go_ret
        exact ⟨rfl, rfl⟩
      · by_cases b2 : 15 < x
        · have b3 : ¬ x < 1 := by omega
          go_enter Tryz.func32, Tryz.ntmps32
          go_wp2_with fail
          refine H1.out.mono ?_
          rintro e w' ⟨rfl, rfl⟩
          go_wp2_with fail
          refine H2.out.mono ?_
          rintro e w' ⟨rfl, rfl⟩
          go_wp2_with fail
          go_ret
          exact ⟨rfl, rfl⟩
        · have b3 : (1 : Int) ≤ x := by omega
          have b4 : x ≤ 15 := by omega
          have b5 : ((F : Int) == (T : Int)) = true := by simp; omega
          clear hb b1 b2
          go_enter Tryz.func32, Tryz.ntmps32
          go_wp2_with fail
          refine H1.out.mono ?_
          rintro e w' ⟨rfl, rfl⟩
          go_wp2_with fail
          refine H2.out.mono ?_
          rintro e w' ⟨rfl, rfl⟩
          go_wp2_with fail
          go_ret
          exact ⟨rfl, rfl⟩
end Go.Proofs.YtdihbeffomibeaaGreatDoor
