/-
  slices.Equal of pairs; transactions that were made here as transactions that are handed in; rows that say the same.
-/
import Derived.Test.YtbcegdiabnapkaaR5
import Derived.Test.YtbcegdiabnapkaaSm
namespace Go.Proofs.Ytbcegdiabnapkaa
set_option linter.unusedVariables false
set_option linter.unusedSimpArgs false
open Go.RowKit Go.Lib

theorem TxnsOwn.ins {B : Nat} {w : World} {v : Value} {l : List MTxn} (h : TxnsOwn B w v l) : TxnsIn Any w v l := by
  obtain ⟨ao, c, hv, hl, hc⟩ := h
  refine ⟨ao, c, hv, hl, fun h0 => ?_⟩
  obtain ⟨b, D, rfl, hT⟩ := hc h0
  refine ⟨b, 0, rfl, trivial, fun j hj => ?_⟩
  obtain ⟨ov, h1, h2⟩ := hT.row j hj
  refine ⟨_, rfl, ⟨ov, rfl, h2.ops.keep (fun _ _ _ => rfl) (fun _ _ _ => trivial)⟩, fun i u hi => ?_⟩
  have := h1 i u hi
  simpa using this

theorem allL_congr {r1 r2 : Nat → List Nat} : ∀ (k : Nat), (∀ i, i < k → r1 i = r2 i) → allL r1 k = allL r2 k
  | 0, _ => rfl
  | k + 1, h => by rw [allL_succ, allL_succ, allL_congr k (fun i hi => h i (by omega)), h k (by omega)]
/-- Two rows of transactions that say the same of state, beginning and end. -/
def Alike (f g : Nat → LT) (n : Nat) : Prop := ∀ j, j < n → (f j).state = (g j).state ∧ (f j).since = (g j).since ∧ (f j).till = (g j).till
theorem Alike.bef {f g : Nat → LT} {n : Nat} (h : Alike f g n) {i j : Nat} (hi : i < n) (hj : j < n) : Ytbcegdiabnapkaa.bef (f i) (f j) = Ytbcegdiabnapkaa.bef (g i) (g j) := by
  unfold Ytbcegdiabnapkaa.bef
  rw [(h i hi).1, (h i hi).2.2, (h j hj).1, (h j hj).2.1]
theorem Alike.full {f g : Nat → LT} {n : Nat} (h : Alike f g n) : allL (fullRow f n) n = allL (fullRow g n) n := allL_congr n (fun i hi => by
  unfold fullRow
  exact List.filter_congr (fun x hx => h.bef hi (List.mem_range.1 hx)))
theorem Alike.btw {f g : Nat → LT} {n : Nat} (h : Alike f g n) {i x : Nat} (hi : i < n) (hx : x < n) : Ytbcegdiabnapkaa.btw f n i x = Ytbcegdiabnapkaa.btw g n i x := by
  rw [Bool.eq_iff_iff, btw_iff, btw_iff]
  constructor
  · rintro ⟨c, hc, h1, h2⟩
    exact ⟨c, hc, by rw [← h.bef hi hc]; exact h1, by rw [← h.bef hc hx]; exact h2⟩
  · rintro ⟨c, hc, h1, h2⟩
    exact ⟨c, hc, by rw [h.bef hi hc]; exact h1, by rw [h.bef hc hx]; exact h2⟩
theorem Alike.sparse {f g : Nat → LT} {n : Nat} (h : Alike f g n) : allL (sparseRow f n) n = allL (sparseRow g n) n := allL_congr n (fun i hi => by
  unfold sparseRow
  exact List.filter_congr (fun x hx => by rw [h.bef hi (List.mem_range.1 hx), h.btw hi (List.mem_range.1 hx)]))

set_option maxHeartbeats 4000000 in
/-- slices.Equal of pairs that are the same. -/
theorem eqPairs_is (a1 a2 : Option Addr) (c1 c2 n : Nat) (g : Nat → Int × Int) (w : World) (h1 : Ls w a1 n g) (h2 : Ls w a2 n g) (hl : n ≤ 1000000) :
    Calls Try.prog 12 #[.slice a1 n c1, .slice a2 n c2] w fun e w' => e = .returned (.bool true) ∧ Below w.heap.size w w' := by
  have H1 := hid h1
  have H2 := hid h2
  clear h1 h2
  have hlen : (n : Int) ≤ 1000000 := by omega
  have hq : ((n : Int) == (n : Int)) = true := by simp
  go_enter Try.func12, Try.ntmps12
  go_wp2_with fail
  go_loopg [5, 13] n (fun gg _ i wr => ∃ k : Nat, k ≤ n ∧ n - k ≤ gg ∧ i = .int .i64 k ∧ Aside (∃ q, wr = w.drewN q))
  case atStart => exact ⟨0, Nat.zero_le _, by omega, rfl, 0, rfl⟩
  case round =>
    obtain ⟨k, hk, hg, rfl, QX⟩ := hrel
    obtain ⟨q, rfl⟩ := QX.out
    by_cases hlt : k < n
    · have hlti : (k : Int) < n := by omega
      obtain ⟨b1, o1, rfl, -, d1, d2⟩ := H1.out k hlt
      obtain ⟨b2, o2, rfl, -, f1, f2⟩ := H2.out k hlt
      generalize g k = xy at *
      obtain ⟨x, y⟩ := xy
      dsimp only at d1 d2 f1 f2
      have hee := eq30 x y
      go_wp2_with fail
      go_quiet (fail)
      go_wp2_with fail
      go_roundg (n - (k + 1))
      · exact ⟨k + 1, by omega, by omega, by go_num, _, rfl⟩
      · omega
    · have hlti : ¬ (k : Int) < n := by omega
      go_wp2_with fail
      go_ret
      exact ⟨rfl, ⟨rfl, rfl, rfl, Nat.le_refl _, fun _ _ => rfl⟩⟩

set_option maxHeartbeats 2000000 in
set_option maxRecDepth 100000 in
/-- The document's Before, with what it leaves. -/
theorem rbefore_grown (ap ast af att : Int) (ao : Value) (bp bst bf btt : Int) (bo : Value) (r : Bool) (hr : bef (ap, ast, af, att, ao) (bp, bst, bf, btt, bo) = r) (w : World) :
    Calls Try.prog 11 #[.agg #[.int .i64 ap, .int .i64 ast, .int .i64 af, .int .i64 att, ao], .agg #[.int .i64 bp, .int .i64 bst, .int .i64 bf, .int .i64 btt, bo]] w fun e w' => e = .returned (.bool r) ∧ ∃ q os, w' = Sort.grow (w.drewN q) os := by
  have HB := hid (bef_iff (ap, ast, af, att, ao) (bp, bst, bf, btt, bo))
  rw [hr] at HB
  simp only [LT.state, LT.till, LT.since, LT.ov] at HB
  clear hr
  have TWO : Hid (∀ A B, ∃ q os, (w.alloc A).alloc B = Sort.grow (w.drewN q) os) := fun A B => ⟨0, #[A, B], grow_two w A B⟩
  by_cases h1 : ast = 1
  · by_cases h2 : bst = 1
    · by_cases h3 : 0 ≤ att
      · by_cases h4 : att < bf
        · have hr : r = true := HB.out.2 ⟨h1, h2, h3, h4⟩
          subst hr h1 h2
          clear HB
          go_enter Try.func11, Try.ntmps11
          go_wp2
          go_ret
          exact ⟨rfl, TWO.out _ _⟩
        · have hr : r = false := by cases r with
            | false => rfl
            | true => exact absurd (HB.out.1 rfl).2.2.2 h4
          subst hr h1 h2
          clear HB
          go_enter Try.func11, Try.ntmps11
          go_wp2
          go_ret
          exact ⟨rfl, TWO.out _ _⟩
      · have hr : r = false := by cases r with
          | false => rfl
          | true => exact absurd (HB.out.1 rfl).2.2.1 h3
        have hd : decide (0 ≤ att) = false := decide_eq_false h3
        subst hr h1 h2
        clear HB
        go_enter Try.func11, Try.ntmps11
        go_wp2
        go_ret
        exact ⟨rfl, TWO.out _ _⟩
    · have hr : r = false := by cases r with
        | false => rfl
        | true => exact absurd (HB.out.1 rfl).2.1 h2
      have hq : (bst == 1) = false := by simp [h2]
      subst hr h1
      clear HB
      go_enter Try.func11, Try.ntmps11
      go_wp2
      go_ret
      exact ⟨rfl, TWO.out _ _⟩
  · have hr : r = false := by cases r with
      | false => rfl
      | true => exact absurd (HB.out.1 rfl).1 h1
    have hq : (ast == 1) = false := by simp [h1]
    subst hr
    clear HB
    go_enter Try.func11, Try.ntmps11
    go_wp2
    go_ret
    exact ⟨rfl, TWO.out _ _⟩

end Go.Proofs.Ytbcegdiabnapkaa
