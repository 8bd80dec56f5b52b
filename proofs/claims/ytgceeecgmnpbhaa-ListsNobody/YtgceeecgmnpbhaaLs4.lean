/-
  lookAt of a table of one transaction that reads nothing of a list.
-/
import Derived.Test.YtgceeecgmnpbhaaLs3
import Derived.Test.YtgceeecgmnpbhaaTb17
namespace Go.Proofs.Ytgceeecgmnpbhaa
set_option linter.unusedVariables false
set_option linter.unusedSimpArgs false
open Go.RowKit Go.Lib Go.Maps
open Tx (MTxn OpsOwn RowsIn.cells)

abbrev kx : ByteArray := ⟨#[120]⟩
/-- One transaction, which reads nothing of a list. -/
abbrev l1 : List MTxn := [(0, 1, 0, 0, [(2, kx, 0, [], true, false)])]
theorem kind_1 : kindN (notes l1 l1.length) kx = 1 := by decide
theorem uniq_1 : uniqN (notes l1 l1.length) := by
  intro s v
  have h : writersN (notes l1 l1.length) s v = [] := by
    unfold writersN
    rw [List.map_eq_nil_iff, List.filter_eq_nil_iff]
    intro x hx
    have hx' : x ∈ [((0 : Nat), (0 : Nat), (((2 : Int), kx, (0 : Int), ([] : List Int), true, false) : MOp))] := hx
    simp only [List.mem_cons, List.not_mem_nil, or_false] at hx'
    subst hx'
    simp [hitW, isW, MOp.kind]
  rw [h]
  simp
theorem ok_1 : ∀ t ∈ l1, ∀ o ∈ t.ops, OpOk o := by
  intro t ht o ho
  simp only [List.mem_cons, List.not_mem_nil, or_false] at ht
  subst ht
  simp only [MTxn.ops, List.mem_cons, List.not_mem_nil, or_false] at ho
  subst ho
  exact ⟨by decide, by decide⟩
/-- The one transaction, copied. -/
theorem tx_1 (B tb : Nat) (w : World) (h : Made B w tb l1) : Calls Try.prog 22 #[.pointer (some ⟨tb, 0, none⟩), .int .i64 0] w fun e w' => ∃ ob oo c la lc, e = .returned (.agg #[.int .i64 0, .int .i64 1, .int .i64 0, .int .i64 0, .slice (some ⟨ob, oo, none⟩) 1 c]) ∧ (w'.cell? ⟨ob, oo, none⟩ = some (.int .i64 2) ∧ w'.cell? ⟨ob, oo + 1, none⟩ = some (.string kx) ∧ w'.cell? ⟨ob, oo + 2, none⟩ = some (.int .i64 0) ∧ w'.cell? ⟨ob, oo + 3, none⟩ = some (.slice la 0 lc) ∧ w'.cell? ⟨ob, oo + 4, none⟩ = some (.bool true) ∧ w'.cell? ⟨ob, oo + 5, none⟩ = some (.bool false)) ∧ Below w.heap.size w w' := by
  have h0 : Calls Try.prog 22 #[.pointer (some ⟨tb, 0, none⟩), .int .i64 0] w fun e w' => TxPost (l1.getD 0 default) w e w' := ttx_in B w tb l1 h 0 (by decide) (by decide) ok_1
  refine h0.mono ?_
  rintro e w2 ⟨a2, n2, c2, rfl, o2, b2⟩
  obtain ⟨ao, c, hv, _, hrow⟩ := RowsIn.cells o2.ops (by omega)
  cases hv
  obtain ⟨b, o, cs, rfl, hbl, _, ⟨lv, hcs, hli⟩, hcell⟩ := hrow 0 (by decide)
  subst hcs
  obtain ⟨la, lc, rfl, _⟩ := hli
  have d0 := hcell 0 _ rfl
  have d1 := hcell 1 _ rfl
  have d2 := hcell 2 _ rfl
  have d3 := hcell 3 _ rfl
  have d4 := hcell 4 _ rfl
  have d5 := hcell 5 _ rfl
  rw [Nat.zero_mul, Nat.add_zero] at d0 d1 d2 d3 d4 d5
  exact ⟨b, o, _, la, lc, rfl, ⟨d0, d1, d2, d3, d4, d5⟩, b2⟩
/-- The look and the result stand, while lookAt goes on. -/
def St (w wr : World) (rs : Value) : Prop := Lk wr (w.heap.size + 1 + 1) kx rs (w.heap.size + 1) ∧ Below w.heap.size w wr ∧ (∀ i, wr.frozen? ⟨w.heap.size + 1 + 1, i, none⟩ = false) ∧ (∀ i, wr.cell? ⟨w.heap.size, i, none⟩ = (#[.string ⟨#[]⟩, .slice none 0 0, .int .i64 0, .int .i64 0, .slice none 0 0, .map none] : Array Value)[i]?) ∧ (∀ i, wr.frozen? ⟨w.heap.size, i, none⟩ = false)
/-- One empty read. -/
def Rd (wr : World) (rs : Value) : Prop := ∃ la lc g cap, rs = .slice (some ⟨g, 0, none⟩) 1 cap ∧ wr.cell? ⟨g, 0, none⟩ = some (.int .i64 0) ∧ wr.cell? ⟨g, 1, none⟩ = some (.int .i64 0) ∧ wr.cell? ⟨g, 2, none⟩ = some (.slice la 0 lc)
theorem St.later {w wr wr' : World} {rs : Value} (h : St w wr rs) (hb : Below wr.heap.size wr wr') : St w wr' rs := by
  obtain ⟨h1, h2, h3, h4, h5⟩ := h
  have l1 : w.heap.size + 1 + 1 < wr.heap.size := World.block_lt_of_cell? _ _ h1.c0
  have l0 : w.heap.size < wr.heap.size := by omega
  exact ⟨h1.later hb, h2.trans (hb.mono h2.size), fun i => (hb.frozen (p := ⟨_, i, none⟩) l1).trans (h3 i), fun i => (hb.cell (p := ⟨_, i, none⟩) l0).trans (h4 i), fun i => (hb.frozen (p := ⟨_, i, none⟩) l0).trans (h5 i)⟩
theorem Rd.later {wr wr' : World} {rs : Value} (h : Rd wr rs) (hb : Below wr.heap.size wr wr') : Rd wr' rs := by
  obtain ⟨la, lc, g, cap, h0, h1, h2, h3⟩ := h
  have l1 : g < wr.heap.size := World.block_lt_of_cell? _ _ h1
  exact ⟨la, lc, g, cap, h0, (hb.cell (p := ⟨g, 0, none⟩) l1).trans h1, (hb.cell (p := ⟨g, 1, none⟩) l1).trans h2, (hb.cell (p := ⟨g, 2, none⟩) l1).trans h3⟩
/-- The look notes an empty read. -/
theorem St.noted {w W : World} (h : St w W (.slice none 0 0)) (la : Option Addr) (lc : Nat) : Calls Try.prog 25 #[.pointer (some ⟨w.heap.size + 1 + 1, 0, none⟩), rd0 la lc] W fun e w' => e = .returned (.tuple #[]) ∧ ∃ rs, St w w' rs ∧ Rd w' rs := by
  obtain ⟨h1, h2, h3, h4, h5⟩ := h
  have hlt : w.heap.size + 1 + 1 < W.heap.size := World.block_lt_of_cell? _ _ h1.c0
  refine (note_0 _ _ kx la lc W h1 h3).mono ?_
  rintro e w' ⟨rfl, ⟨g, cap, r1, hg, g0, g1, g2⟩, G, oth, fz⟩
  have kb0 : w'.heap[w.heap.size]? = W.heap[w.heap.size]? := G.block _ (by omega) (by omega)
  refine ⟨rfl, _, ⟨⟨(oth 0 (by decide)).trans h1.c0, r1, (oth 2 (by decide)).trans h1.c2, (oth 3 (by decide)).trans h1.c3, (oth 4 (by decide)).trans h1.c4, (oth 5 (by decide)).trans h1.c5⟩, h2.trans (G.below h2.size (fun i hi hn => by omega)), fz, fun i => (World.cell?_of_block (a := ⟨w.heap.size, i, none⟩) kb0).trans (h4 i), fun i => (Tx.frozen_of_block kb0 i).trans (h5 i)⟩, la, lc, g, cap, rfl, g0, g1, g2⟩
/-- What lookAt leaves behind. -/
def LookP (w : World) (e : Ending) (w' : World) : Prop := ∃ la lc g cap sb, e = .returned (.tuple #[.agg #[.string kx, .slice (some ⟨g, 0, none⟩) 1 cap, .int .i64 0, .int .i64 0, .slice none 0 0, .map (some sb)], .bool true]) ∧ w'.cell? ⟨g, 0, none⟩ = some (.int .i64 0) ∧ w'.cell? ⟨g, 1, none⟩ = some (.int .i64 0) ∧ w'.cell? ⟨g, 2, none⟩ = some (.slice la 0 lc) ∧ Below w.heap.size w w'
set_option maxHeartbeats 8000000 in
set_option maxRecDepth 100000 in
theorem look_1 (B tb : Nat) (w : World) (h : Made B w tb l1) : Calls Try.prog 9 #[.pointer (some ⟨tb, 0, none⟩), .string kx] w fun e w' => LookP w e w' := by
  have hmm := @run_makeMap Try.prog
  have M := hid h
  clear h
  have KI : Hid (∀ W, Below w.heap.size w W → Calls Try.prog 19 #[.pointer (some ⟨tb, 0, none⟩), .string kx] W fun e w' => e = .returned (.int .i64 1) ∧ W = w') := fun W hb => by
    have h := tkind_is B W tb l1 (M.out.later hb) kx (by decide)
    rw [kind_1] at h
    exact h
  have UN : Hid (∀ W, Below w.heap.size w W → Calls Try.prog 20 #[.pointer (some ⟨tb, 0, none⟩)] W fun e w' => e = .returned (.bool true) ∧ W = w') := fun W hb => by
    refine (uniq_is B W tb l1 (M.out.later hb)).mono ?_
    rintro e w' ⟨u, rfl, hu, rfl⟩
    rw [hu.2 uniq_1]
    exact ⟨rfl, rfl⟩
  have CO : Hid (∀ W, Below w.heap.size w W → Calls Try.prog 21 #[.pointer (some ⟨tb, 0, none⟩)] W fun e w' => e = .returned (.int .i64 1) ∧ W = w') := fun W hb => count_is B W tb l1 (M.out.later hb)
  have TXX := hid (fun W (hb : Below w.heap.size w W) => tx_1 B tb W (M.out.later hb))
  have b1 : ∀ o, Hid (Below w.heap.size w (w.alloc o)) := fun o => below_box w o
  have b3 : ∀ o p q, Hid (Below w.heap.size w (((w.alloc o).alloc p).alloc q)) := fun o p q => ((below_box w o).alloc (by rw [alloc_size]; omega) p).alloc (by rw [alloc_size, alloc_size]; omega) q
  go_enter Try.func9, Try.ntmps9
  go_wp2_with (first | (go_at_call 19; refine (KI.out _ (b1 _).out).mono ?_; rintro e w' ⟨rfl, rfl⟩) | (go_at_call 20; refine (UN.out _ (b1 _).out).mono ?_; rintro e w' ⟨rfl, rfl⟩) | (go_at_call 21; refine (CO.out _ (b3 _ _ _).out).mono ?_; rintro e w' ⟨rfl, rfl⟩))
  have S0 : Hid (St w (((w.alloc (.cells #[.string ⟨#[]⟩, .slice none 0 0, .int .i64 0, .int .i64 0, .slice none 0 0, .map none] 50)).alloc (.map #[] 0)).alloc (.cells #[.string kx, .slice none 0 0, .int .i64 0, .int .i64 0, .slice none 0 0, .map (some (w.heap.size + 1))] 50)) (.slice none 0 0)) := by
    have hs2 : ((w.alloc (.cells #[.string ⟨#[]⟩, .slice none 0 0, .int .i64 0, .int .i64 0, .slice none 0 0, .map none] 50)).alloc (.map #[] 0)).heap.size = w.heap.size + 1 + 1 := by rw [alloc_size, alloc_size]
    have nb := box_later (w := w) (w1 := ((w.alloc (.cells #[.string ⟨#[]⟩, .slice none 0 0, .int .i64 0, .int .i64 0, .slice none 0 0, .map none] 50)).alloc (.map #[] 0)).alloc (.cells #[.string kx, .slice none 0 0, .int .i64 0, .int .i64 0, .slice none 0 0, .map (some (w.heap.size + 1))] 50)) (cs := #[.string ⟨#[]⟩, .slice none 0 0, .int .i64 0, .int .i64 0, .slice none 0 0, .map none]) (t := 50) ((below_box _ _).alloc (by rw [alloc_size]; omega) _)
    have nk := fun i => new_cells ((w.alloc (.cells #[.string ⟨#[]⟩, .slice none 0 0, .int .i64 0, .int .i64 0, .slice none 0 0, .map none] 50)).alloc (.map #[] 0)) #[.string kx, .slice none 0 0, .int .i64 0, .int .i64 0, .slice none 0 0, .map (some (w.heap.size + 1))] 50 i
    have nf := fun i => Lib.frozen_of_heap (heap_alloc_new ((w.alloc (.cells #[.string ⟨#[]⟩, .slice none 0 0, .int .i64 0, .int .i64 0, .slice none 0 0, .map none] 50)).alloc (.map #[] 0)) (.cells #[.string kx, .slice none 0 0, .int .i64 0, .int .i64 0, .slice none 0 0, .map (some (w.heap.size + 1))] 50)) i
    rw [hs2] at nk nf
    exact ⟨⟨nk 0, nk 1, nk 2, nk 3, nk 4, nk 5⟩, nb.2.2.2, nf, nb.2.1, nb.2.2.1⟩
  generalize ((w.alloc (.cells #[.string ⟨#[]⟩, .slice none 0 0, .int .i64 0, .int .i64 0, .slice none 0 0, .map none] 50)).alloc (.map #[] 0)).alloc (.cells #[.string kx, .slice none 0 0, .int .i64 0, .int .i64 0, .slice none 0 0, .map (some (w.heap.size + 1))] 50) = W0 at *
  clear hmm b1 b3 KI UN CO
  go_loopg [7, 8, 9, 10, 11, 27] 1 (fun gg _ _ _ _ _ i wr => (i = .int .i64 0 ∧ 1 ≤ gg ∧ Aside (St w wr (.slice none 0 0))) ∨ (i = .int .i64 1 ∧ Aside (∃ rs, St w wr rs ∧ Rd wr rs)))
  case atStart => exact .inl ⟨rfl, Nat.le_refl _, S0.out⟩
  case round =>
    rcases hrel with ⟨rfl, hgg, SR⟩ | ⟨rfl, SR⟩
    · go_wp2_with (go_at_call 22; refine (TXX.out _ SR.out.2.1).mono ?_; rintro e w2 ⟨ob, oo, c2, la, lc, rfl, ⟨p0, p1, p2, p3, p4, p5⟩, b2⟩; have S2 : Hid (St w w2 (.slice none 0 0)) := SR.out.later b2; clear b2)
      have S3 : Hid (St w (w2.alloc (.cells #[.int .i64 0, .int .i64 1, .int .i64 0, .int .i64 0, .slice (some ⟨ob, oo, none⟩) 1 c2] 43)) (.slice none 0 0)) := S2.out.later (below_box w2 _)
      have X1 : Hid ((w2.alloc (.cells #[.int .i64 0, .int .i64 1, .int .i64 0, .int .i64 0, .slice (some ⟨ob, oo, none⟩) 1 c2] 43)).cell? ⟨w2.heap.size, 1, none⟩ = some (.int .i64 1)) := new_cells w2 _ 43 1
      have al : ∀ (a : Addr) (u : Value), w2.cell? a = some u → (w2.alloc (.cells #[.int .i64 0, .int .i64 1, .int .i64 0, .int .i64 0, .slice (some ⟨ob, oo, none⟩) 1 c2] 43)).cell? a = some u := fun a u h => Lib.cell?_alloc_some _ h
      have q0 := al _ _ p0
      have q1 := al _ _ p1
      have q2 := al _ _ p2
      have q3 := al _ _ p3
      have q4 := al _ _ p4
      have q5 := al _ _ p5
      have x1 := X1.out
      clear p0 p1 p2 p3 p4 p5 al X1 S2 SR
      generalize w2.alloc (.cells #[.int .i64 0, .int .i64 1, .int .i64 0, .int .i64 0, .slice (some ⟨ob, oo, none⟩) 1 c2] 43) = W3 at *
      have Q : Hid (W3.cell? ⟨ob, oo, none⟩ = some (.int .i64 2) ∧ W3.cell? ⟨ob, oo + 1, none⟩ = some (.string kx) ∧ W3.cell? ⟨ob, oo + 2, none⟩ = some (.int .i64 0) ∧ W3.cell? ⟨ob, oo + 3, none⟩ = some (.slice la 0 lc) ∧ W3.cell? ⟨ob, oo + 4, none⟩ = some (.bool true) ∧ W3.cell? ⟨ob, oo + 5, none⟩ = some (.bool false) ∧ W3.cell? ⟨w2.heap.size, 1, none⟩ = some (.int .i64 1)) := ⟨q0, q1, q2, q3, q4, q5, x1⟩
      clear q0 q1 q2 q3 q4 q5 x1
      go_loopg [9, 10, 11, 36] 1 (fun gg _ _ _ i wr => (i = .int .i64 0 ∧ 1 ≤ gg ∧ Aside (wr = W3)) ∨ (i = .int .i64 1 ∧ Aside (∃ rs, St w wr rs ∧ Rd wr rs)))
      case atStart => exact .inl ⟨rfl, Nat.le_refl _, rfl⟩
      case round =>
        rcases hrel with ⟨rfl, hgg2, SE⟩ | ⟨rfl, SE⟩
        · have e3 : wr = W3 := SE.out
          subst e3
          obtain ⟨q0, q1, q2, q3, q4, q5, x1⟩ := Q.out
          have hxl : w2.heap.size < wr.heap.size := World.block_lt_of_cell? _ _ x1
          have hne : ¬ (w2.heap.size = wr.heap.size) := by omega
          have xa : ∀ o, (wr.alloc o).cell? ⟨w2.heap.size, 1, none⟩ = some (.int .i64 1) := fun o => Lib.cell?_alloc_some _ x1
          have NT : Hid (∀ o, Calls Try.prog 25 #[.pointer (some ⟨w.heap.size + 1 + 1, 0, none⟩), rd0 la lc] (wr.alloc o) fun e w' => e = .returned (.tuple #[]) ∧ ∃ rs, St w w' rs ∧ Rd w' rs) := fun o => (S3.out.later (below_box wr o)).noted la lc
          go_wp2_with (first | (go_at_call 23; refine (writes_is _ _).mono ?_; rintro e w' ⟨rfl, rfl⟩) | (go_at_call 25; refine (NT.out _).mono ?_; rintro e w6 ⟨rfl, s6⟩; have S6 := hid s6; clear s6))
          go_roundg 0
          case measure => omega
          case rel => exact .inr ⟨by go_num, S6.out⟩
        · go_wp2_with fail
          go_roundg 0
          case measure => omega
          case rel => exact .inr ⟨by go_num, SE.out⟩
    · obtain ⟨rs, S1, R1⟩ := SR.out
      obtain ⟨la, lc, g, cap, rfl, g0, g1, g2⟩ := R1
      obtain ⟨k1, k2, k3, k4, k5⟩ := S1
      obtain ⟨c0, c1, c2, c3, c4, c5⟩ := k1
      have y0 := k4 0
      have y1 := k4 1
      have y2 := k4 2
      have y3 := k4 3
      have y4 := k4 4
      have y5 := k4 5
      simp only [List.getElem?_toArray, List.getElem?_cons_zero, List.getElem?_cons_succ] at y0 y1 y2 y3 y4 y5
      have BB := hid k2
      have GG := hid (show wr.cell? ⟨g, 0, none⟩ = some (.int .i64 0) ∧ wr.cell? ⟨g, 1, none⟩ = some (.int .i64 0) ∧ wr.cell? ⟨g, 2, none⟩ = some (.slice la 0 lc) from ⟨g0, g1, g2⟩)
      clear k2 k3 k4 g0 g1 g2 SR
      go_wp2_with fail
      have hgn : g ≠ w.heap.size := fun e => by
        have h := GG.out.1
        rw [e, y0] at h
        cases h
      have oth : ∀ (W : World) (j i : Nat) (v : Value), (W.setCell ⟨w.heap.size, j, none⟩ v).cell? ⟨g, i, none⟩ = W.cell? ⟨g, i, none⟩ := fun W j i v => World.cell?_setCell_other _ _ _ _ (fun c => hgn (by have := congrArg Addr.block c; simp only [] at this; omega))
      have gi : ∀ (i : Nat), ((((((wr.setCell ⟨w.heap.size, 0, none⟩ (.string kx)).setCell ⟨w.heap.size, 1, none⟩ (.slice (some ⟨g, 0, none⟩) 1 cap)).setCell ⟨w.heap.size, 2, none⟩ (.int .i64 0)).setCell ⟨w.heap.size, 3, none⟩ (.int .i64 0)).setCell ⟨w.heap.size, 4, none⟩ (.slice none 0 0)).setCell ⟨w.heap.size, 5, none⟩ (.map (some (w.heap.size + 1)))).cell? ⟨g, i, none⟩ = wr.cell? ⟨g, i, none⟩ := fun i => (oth _ _ _ _).trans ((oth _ _ _ _).trans ((oth _ _ _ _).trans ((oth _ _ _ _).trans ((oth _ _ _ _).trans (oth _ _ _ _)))))
      refine bodyPost_ret (v := .tuple #[.agg #[.string kx, .slice (some ⟨g, 0, none⟩) 1 cap, .int .i64 0, .int .i64 0, .slice none 0 0, .map (some (w.heap.size + 1))], .bool true]) (by simp [results, Try.results9, go_sem, y0, y1, y2, y3, y4, y5]) rfl ?_
      refine ⟨la, lc, g, cap, w.heap.size + 1, rfl, (gi 0).trans GG.out.1, (gi 1).trans GG.out.2.1, (gi 2).trans GG.out.2.2, ?_⟩
      exact (((((BB.out.setCell (Nat.le_refl _) _).setCell (Nat.le_refl _) _).setCell (Nat.le_refl _) _).setCell (Nat.le_refl _) _).setCell (Nat.le_refl _) _).setCell (Nat.le_refl _) _
end Go.Proofs.Ytgceeecgmnpbhaa
