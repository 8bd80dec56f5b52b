/-
  Sparse; the document's Before and Full.
-/
import Derived.Test.YtbcegdiabnapkaaQ9
namespace Go.Proofs.Ytbcegdiabnapkaa
set_option linter.unusedVariables false
set_option linter.unusedSimpArgs false
open Go.RowKit Go.Lib

theorem sparse_picks (f : Nat → LT) (n c pb : Nat) (ao : Option Addr) (w : World) (hn : n ≤ 40) (hpb : pb < w.heap.size) (hbx : w.cell? ⟨pb, 0, none⟩ = some (.slice ao n c)) (hl : Lt w ao n f) : Picks f n w 25 #[.pointer (some ⟨pb, 0, none⟩)] (sparseRow f n) := fun so cs q t fs W hqc hqn hS hL hb i hi => by
  have hc := cnt_le f t q i
  have C := sparsePick_is pb c n (q - cnt f t q i) (cs - cnt f t q i) ao (tailA so cs (cnt f t q i)) f (fun j => t (cnt f t q i + j)) (fun j => fs (cnt f t q i + j)) W (by omega) (by omega) ((hb.cell (p := ⟨pb, 0, none⟩) hpb).trans hbx) (hl.later hb) (hL.tail hc hqc) (fun j hj => (hS.ok (show cnt f t q i + j < q by omega)).1)
    (by
      by_cases h0 : q - cnt f t q i = 0
      · exact .inl h0
      · rcases (hS.first (cnt f t q i) (by omega)).cases with h | ⟨j, h1, h2, h3⟩
        · exact .inr (.inl h)
        · refine .inr (.inr ⟨j - cnt f t q i, by omega, ?_⟩)
          show fs (cnt f t q i + 0) = (t (cnt f t q i + (j - cnt f t q i)) : Int)
          rw [Nat.add_zero, h3, show cnt f t q i + (j - cnt f t q i) = j by omega])
    (fun X a b h1 h2 => hS.mono X _ _ (by omega) (by omega))
  refine C.mono fun e w' ⟨r, h1, h2, h3, h4, h5⟩ => ⟨r, h1, h2, ?_, h5⟩
  by_cases h0 : q - cnt f t q i = 0
  · rw [h3 (.inl h0)]
    exact hS.sparse_all i (fun j h6 h7 => by omega)
  · rcases hS.first (cnt f t q i) (by omega) with ⟨h6, h7⟩ | ⟨j, h6, h7, h8, h9, h10⟩
    · rw [h3 (.inr (by rw [Nat.add_zero]; exact h6))]
      exact hS.sparse_all i (fun j => h7 j)
    · refine hS.sparse_some i j h6 h7 h9 h10 r ?_
      have := h4 (j - cnt f t q i) (by omega) (by
        show fs (cnt f t q i + 0) = (t (cnt f t q i + (j - cnt f t q i)) : Int)
        rw [Nat.add_zero, h8, show cnt f t q i + (j - cnt f t q i) = j by omega]) (by omega)
      rw [this]
      show (List.range (q - cnt f t q i)).countP (fun k => !bef (f (t (cnt f t q i + (j - cnt f t q i)))) (f (t (cnt f t q i + k)))) = _
      rw [show cnt f t q i + (j - cnt f t q i) = j by omega]

/-- What Sparse hands back. -/
theorem sparse_is (ao : Option Addr) (c n : Nat) (f : Nat → LT) (w : World) (hn : n ≤ 40) (hl : Lt w ao n f) : Calls Try.prog 15 #[.slice ao n c] w fun e w' => PairsPost (sparseRow f n) n w e w' := by
  obtain ⟨wB, hwB⟩ : ∃ wB, w.alloc (.cells #[.slice ao n c] 22) = wB := ⟨_, rfl⟩
  have hB : Hid (Below w.heap.size w wB ∧ wB.heap.size = w.heap.size + 1) := by
    show _ ∧ _
    rw [← hwB]
    exact ⟨(Below.refl _ w).alloc (Nat.le_refl _) _, by simp⟩
  have hbx : wB.cell? ⟨w.heap.size, 0, none⟩ = some (.slice ao n c) := by rw [← hwB]; simp
  have C := pairs_is ao c n 25 #[.pointer (some ⟨w.heap.size, 0, none⟩)] f (sparseRow f n) wB hn (hl.later hB.out.1) (sparse_picks f n c w.heap.size ao wB hn (by have := hB.out.2; omega) hbx (hl.later hB.out.1)) (fun i => inc_filter _ _) (fun i => Nat.le_trans (len_filter _ _) hn) (enters_of Try.func25 (by kernel_rfl) rfl)
  clear hl
  go_enter Try.func15, Try.ntmps15
  go_wp2_with fail
  go_at_call 23
  refine C.mono ?_
  rintro e w5 ⟨v, rfl, hO, hb5⟩
  have PO : Hid (PairsPost (sparseRow f n) n w (.returned v) w5) := ⟨v, rfl, owns_base hO hB.out.1.size, hB.out.1.trans (hb5.mono hB.out.1.size)⟩
  clear hO hb5
  go_wp2_with fail
  go_ret
  exact PO.out

set_option maxHeartbeats 2000000 in
set_option maxRecDepth 100000 in
/-- The document's Before. -/
theorem rbefore_at (ap ast af att : Int) (ao : Value) (bp bst bf btt : Int) (bo : Value) (r : Bool) (hr : bef (ap, ast, af, att, ao) (bp, bst, bf, btt, bo) = r) (w : World) :
    Calls Try.prog 11 #[.agg #[.int .i64 ap, .int .i64 ast, .int .i64 af, .int .i64 att, ao], .agg #[.int .i64 bp, .int .i64 bst, .int .i64 bf, .int .i64 btt, bo]] w fun e w' => e = .returned (.bool r) ∧ Below w.heap.size w w' := by
  have HB := hid (bef_iff (ap, ast, af, att, ao) (bp, bst, bf, btt, bo))
  rw [hr] at HB
  simp only [LT.state, LT.till, LT.since, LT.ov] at HB
  clear hr
  have TWO : Hid (∀ A B, Below w.heap.size w ((w.alloc A).alloc B)) := fun A B => ((Below.refl _ w).alloc (Nat.le_refl _) _).alloc (by simp) _
  by_cases h1 : ast = 1
  · by_cases h2 : bst = 1
    · by_cases h3 : 0 ≤ att
      · by_cases h4 : att < bf
        · have hr : r = true := HB.out.2 ⟨h1, h2, h3, h4⟩
          subst hr h1 h2
          clear HB
          go_enter Try.func11, Try.ntmps11
          go_wp2
          go_ret
          exact ⟨rfl, TWO.out _ _⟩
        · have hr : r = false := by cases r with
            | false => rfl
            | true => exact absurd (HB.out.1 rfl).2.2.2 h4
          subst hr h1 h2
          clear HB
          go_enter Try.func11, Try.ntmps11
          go_wp2
          go_ret
          exact ⟨rfl, TWO.out _ _⟩
      · have hr : r = false := by cases r with
          | false => rfl
          | true => exact absurd (HB.out.1 rfl).2.2.1 h3
        have hd : decide (0 ≤ att) = false := decide_eq_false h3
        subst hr h1 h2
        clear HB
        go_enter Try.func11, Try.ntmps11
        go_wp2
        go_ret
        exact ⟨rfl, TWO.out _ _⟩
    · have hr : r = false := by cases r with
        | false => rfl
        | true => exact absurd (HB.out.1 rfl).2.1 h2
      have hq : (bst == 1) = false := by simp [h2]
      subst hr h1
      clear HB
      go_enter Try.func11, Try.ntmps11
      go_wp2
      go_ret
      exact ⟨rfl, TWO.out _ _⟩
  · have hr : r = false := by cases r with
      | false => rfl
      | true => exact absurd (HB.out.1 rfl).1 h1
    have hq : (ast == 1) = false := by simp [h1]
    subst hr
    clear HB
    go_enter Try.func11, Try.ntmps11
    go_wp2
    go_ret
    exact ⟨rfl, TWO.out _ _⟩

/-- The pairs of the first i transactions, with those of the next one among the first k. -/
def partP (p : Nat → Nat → Bool) (n i k : Nat) : List (Int × Int) := allL (fun j => (List.range n).filter (p j)) i ++ ((List.range k).filter (p i)).map (fun x : Nat => ((i : Int), (x : Int)))
theorem partP_succ (p : Nat → Nat → Bool) (n i k : Nat) : partP p n i (k + 1) = partP p n i k ++ (if p i k = true then [((i : Int), (k : Int))] else []) := by
  unfold partP
  rw [List.range_succ, List.filter_append, List.map_append, List.append_assoc]
  congr 1
  cases h : p i k <;> simp [h]
theorem partP_zero (p : Nat → Nat → Bool) (n i : Nat) : partP p n i 0 = allL (fun j => (List.range n).filter (p j)) i := by simp [partP]
theorem partP_row (p : Nat → Nat → Bool) (n i : Nat) : partP p n i n = allL (fun j => (List.range n).filter (p j)) (i + 1) := by rw [allL_succ]; rfl
theorem partP_len (p : Nat → Nat → Bool) (n i k : Nat) (hn : n ≤ 40) (hk : k ≤ n) (hi : i ≤ n) : (partP p n i k).length ≤ 2000 := by
  unfold partP
  rw [List.length_append, List.length_map]
  have h1 := allL_len (fun j => (List.range n).filter (p j)) 40 (fun j => Nat.le_trans (len_filter _ _) hn) i
  have h2 := len_filter (p i) k
  have h3 : i * 40 ≤ 40 * 40 := Nat.mul_le_mul_right _ (by omega)
  omega
end Go.Proofs.Ytbcegdiabnapkaa
