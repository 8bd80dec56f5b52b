/-
  List: a set's numbers, rising.
-/
import Derived.Test.YtpkfpfflnncleaaDoorB8
import Derived.Deep.AppendLies
namespace Go.Proofs.YtpkfpfflnncleaaDoor
set_option linter.unusedVariables false
set_option linter.unusedSimpArgs false
open Go.RowKit

theorem Tryd.info3 : (Tryd.prog.info? 3).map (fun i => (i.zero, i.size, i.bytes)) = some (some (.int .i64 0), 1, 8) := by kernel_rfl
/-- The numbers below n that f tells, rising. -/
def lst (f : Nat → Bool) (n : Nat) : List Nat := (List.range n).filter f
theorem lst_len (f : Nat → Bool) (n : Nat) : (lst f n).length = Pop.cnt f n := by
  induction n with
  | zero => rfl
  | succ n ih =>
    unfold lst at *
    rw [List.range_succ, List.filter_append, List.length_append, ih]
    show _ = Pop.cnt f n + (f n).toNat
    congr 1
    cases h : f n
    · rw [List.filter_cons_of_neg (by simp [h])]; rfl
    · rw [List.filter_cons_of_pos h]; rfl
theorem lst_le (f : Nat → Bool) (n : Nat) : (lst f n).length ≤ n := by rw [lst_len]; exact Pop.cnt_le f n
theorem lst_gap (f : Nat → Bool) (p q : Nat) (h : p ≤ q) (hn : ∀ k, p ≤ k → k < q → f k = false) : lst f q = lst f p := by
  obtain ⟨m, rfl⟩ : ∃ m, q = p + m := ⟨q - p, by omega⟩
  clear h
  induction m with
  | zero => rfl
  | succ m ih =>
    have h1 := ih fun k h1 h2 => hn k h1 (by omega)
    have h2 := hn (p + m) (by omega) (by omega)
    unfold lst at *
    rw [← Nat.add_assoc, List.range_succ, List.filter_append, h1]
    simp [h2]
theorem lst_step (f : Nat → Bool) (p j : Nat) (h : p ≤ j) (hj : f j = true) (hn : ∀ k, p ≤ k → k < j → f k = false) : lst f (j + 1) = lst f p ++ [j] := by
  have h1 := lst_gap f p j h hn
  unfold lst at *
  rw [List.range_succ, List.filter_append, h1]
  simp [hj]

/-- Numbers as cells. -/
def intsV (l : List Nat) : List Value := l.map fun x : Nat => Value.int .i64 x
/-- A slice of numbers of one's own, in blocks from B on. -/
def Ints (B : Nat) (w : World) (v : Value) (l : List Nat) : Prop := w.ownsRow B 3 1 v l.length (intsV l)
theorem Ints.later {B : Nat} {w w' : World} {v : Value} {l : List Nat} (h : Ints B w v l) (hb : Below w.heap.size w w') : Ints B w' v l :=
  World.ownsRow.kept (row := none) h ⟨hb.os, hb.tape, hb.output, hb.size, fun k hk _ => hb.block k hk⟩ (by cases hq : v.ownBlock with | none => exact .inl rfl | some g => exact .inr (by simp))

set_option maxHeartbeats 2000000 in
theorem list_is (b n c : Nat) (f : Nat → Bool) (w : World) (h : Is w b n c f) (hT : Tab w) :
    Calls Tryd.prog 23 #[.pointer (some ⟨b, 0, none⟩)] w fun e w' => (∃ v, e = .returned v ∧ Ints w.heap.size w' v (lst f n)) ∧ Below w.heap.size w w' := by
  obtain ⟨i0, hi, hz⟩ := Option.map_eq_some_iff.1 Tryd.info3
  simp only [Prod.mk.injEq] at hz
  obtain ⟨hz0, hz1, hz2⟩ := hz
  have hbd := h.bound
  have hcl := Pop.cnt_le f n
  have hmk : ∀ W : World, (Instr.makeSlice 42 (.int .i64 0) (.int .i64 (Pop.cnt f n : Nat))).run Tryd.prog W = .ok (.slice (some ⟨W.heap.size, 0, none⟩) 0 (Pop.cnt f n)) (W.alloc (.cells (madeCells #[.int .i64 0] (Pop.cnt f n)) 3)) := fun W => by
    have := run_make (P := Tryd.prog) W 42 3 i0 (.int .i64 0) Tryd.underlying42 hi hz0 .i64 .i64 0 (Pop.cnt f n : Nat) (by omega) (by omega) (by rw [hz2]; omega) (by omega)
    simpa [hz1, Value.cells] using this
  have c0 : w.cell? ⟨b, 0, none⟩ = some (.bool true) := by
    obtain ⟨ws, h1, h2⟩ := h.ex
    exact h1.c0
  have HS := hid h
  have HT := hid hT
  have HI := hid hi
  have HZ0 := hid hz0
  have HZ1 := hid hz1
  have HZ2 := hid hz2
  clear h hT hi hz0 hz1 hz2
  go_enter Tryd.func23, Tryd.ntmps23
  go_wp2_with (first | (go_at_call 45; refine (isMade_at _ _ _ c0).mono ?_; rintro e w' ⟨rfl, rfl⟩) | (go_at_call 25; refine (count_is _ _ _ _ _ HS.out).mono ?_; rintro e w' ⟨rfl, rfl⟩))
  have O0 : Hid (Ints w.heap.size (w.alloc (.cells (madeCells #[.int .i64 0] (Pop.cnt f n)) 3)) (.slice (some ⟨w.heap.size, 0, none⟩) 0 (Pop.cnt f n)) (lst f 0)) :=
    World.ownsRow_made w _ _ (Nat.le_refl _) (by unfold maxLen; omega) (by rw [size_madeCells]; omega)
  have B0 : Hid (Below w.heap.size w (w.alloc (.cells (madeCells #[.int .i64 0] (Pop.cnt f n)) 3))) := below_box w _
  clear hmk
  generalize w.alloc (.cells (madeCells #[.int .i64 0] (Pop.cnt f n)) 3) = W0 at *
  go_at_call 20
  refine (next_is _ _ _ _ _ _ (HS.out.later B0.out) (HT.out.later B0.out)).mono ?_
  rintro e w' ⟨⟨r, t, rfl, hN⟩, rfl⟩
  have N0 := hid hN
  clear hN
  go_wp2_with fail
  go_loopg [3, 4, 5] n (fun g l i ok wr => ∃ (p : Nat) (r : Int) (t : Bool), p ≤ n ∧ n - p ≤ g ∧ i = .int .i64 r ∧ ok = .bool t ∧ Aside (NextIs f p r t) ∧ Aside (Ints w.heap.size wr l (lst f p)) ∧ Aside (Below w.heap.size w wr))
  case atStart => exact ⟨0, r, t, Nat.zero_le _, by omega, rfl, rfl, N0.out, O0.out, B0.out⟩
  case round =>
    obtain ⟨p, r, t, hp, hg, rfl, rfl, NX, OX, BX⟩ := hrel
    rcases NX.out with ⟨rfl, j, rfl, hpj, hfj, hgap⟩ | ⟨rfl, rfl, hgap⟩
    · have hjn : j < n := by
        rcases Nat.lt_or_ge j n with h1 | h1
        · exact h1
        · have := HS.out.top j h1
          rw [hfj] at this
          cases this
      have HL := hid (lst_step f p j hpj hfj hgap)
      have HLE := hid (lst_le f p)
      have hji : (j : Int) < 4096 := by omega
      have hji0 : (0 : Int) ≤ j := by omega
      have hsz := hid BX.out.size
      clear NX hgap hfj
      go_wp2_with (at_builtin; refine wpList_append_lies _ rfl _ _ 42 rfl w.heap.size 3 i0 _ 1 8 Tryd.underlying42 HI.out HZ0.out HZ1.out HZ2.out rfl (by decide) u3 (lst f p).length (intsV (lst f p)) rfl ?hown ⟨wr.heap.size, 0, none⟩ 1 1 [.int .i64 j] rfl rfl ?hnews ?hone (by decide) ?h63 ?hby ?hbase (wr.heap.size + 1) ?hH ?_)
      case hown => exact World.ownsRow.alloc OX.out _
      case hnews => exact World.news_of_block (heap_alloc_new wr (.cells #[.int .i64 j] 3))
      case hone => intro u hu; simp at hu; subst hu; rfl
      case h63 => have := HLE.out; unfold maxLen; omega
      case hby => have := HLE.out; omega
      case hbase => have := hsz.out; simp; omega
      case hH => simp
      intro g cap w4 hown4 hgrow hat hglt
      have B4 : Hid (Below w.heap.size w w4) := BX.out.trans (((below_box wr _).mono hsz.out).grown hgrow (by have := hsz.out; simp; omega) (fun x hx => (OX.out.lt x hx).1))
      have O4 : Hid (Ints w.heap.size w4 (.slice (some ⟨g, 0, none⟩) ((lst f p).length + 1) cap) (lst f (j + 1))) := by
        unfold Ints intsV at *
        rw [HL.out, List.map_append, List.length_append]
        exact hown4
      clear hown4 hgrow hat hglt
      go_wp2_with fail
      go_at_call 20
      refine (next_is _ _ _ _ _ _ (HS.out.later B4.out) (HT.out.later B4.out)).mono ?_
      rintro e w' ⟨⟨r2, t2, rfl, hN⟩, rfl⟩
      have ej : ((j : Int) + 1).toNat = j + 1 := by omega
      rw [ej] at hN
      have N2 := hid hN
      clear hN
      go_wp2_with fail
      go_roundg (n - (j + 1))
      · exact ⟨j + 1, r2, t2, by omega, by omega, rfl, rfl, N2.out, O4.out, B4.out⟩
      · omega
    · go_wp2_with fail
      go_ret
      have e := lst_gap f p n hp (fun k h1 _ => hgap k h1)
      exact ⟨⟨_, rfl, by rw [e]; exact OX.out⟩, BX.out⟩
end Go.Proofs.YtpkfpfflnncleaaDoor
