/-
  The document's graphs: Edges.
-/
import Derived.Test.YtbcegdiabnapkabDoorH3
namespace Go.Proofs.YtbcegdiabnapkabDoor
set_option linter.unusedVariables false
set_option linter.unusedSimpArgs false
open Go.RowKit

set_option maxRecDepth 100000 in
theorem and_15 : ∀ x : Nat, x < 16 → x &&& 15 = x := by decide +kernel
theorem ends_15 (L : Nat → Nat → Nat) (f t : Nat) (hx : L f t < 16) : ((L f t : Int) == 0) = !endsF L f 15 4 t := by
  have h := ends_and L f t 15 hx
  rw [i64_and_low _ hx] at h
  have e : ((15 : Int) % 16).toNat = 15 := by decide
  rw [e, and_15 _ hx] at h
  exact h
theorem rowE_one (L : Nat → Nat → Nat) (f : Nat) (F : Nat → Bool) (j : Nat) : rowE L f F (j + 1) = if F j then rowE L f F j ++ [(f, j, L f j)] else rowE L f F j := by
  unfold rowE
  rw [lst_one]
  split <;> simp

set_option maxHeartbeats 8000000 in
theorem redges_is (b n : Nat) (v : Value) (rw' : Nat → Nat) (L : Nat → Nat → Nat) (w : World) (h : RefG w b n v rw' L) :
    Calls Tryd.prog 8 #[.pointer (some ⟨b, 0, none⟩)] w fun e w' => (∃ u, e = .returned u ∧ EdgesIn w.heap.size w' u (allE L n n)) ∧ Below w.heap.size w w' := by
  obtain ⟨i0, hi, hz'⟩ := Option.map_eq_some_iff.1 Tryd.info80
  simp only [Prod.mk.injEq] at hz'
  obtain ⟨hz0, hz1, hz2⟩ := hz'
  have HI := hid hi
  have HZ0 := hid hz0
  have HZ1 := hid hz1
  have HZ2 := hid hz2
  clear hi hz0 hz1 hz2
  have R := hid h
  have hn3 := h.bound
  have hni : (n : Int) ≤ 300 := by omega
  obtain ⟨ao, cap, hv, hr⟩ := h.form
  have c0 := h.c0
  rw [hv] at c0
  have HR := hid hr
  have C0 := hid c0
  clear h hr hv
  go_enter Tryd.func8, Tryd.ntmps8
  go_wp2_with fail
  clear c0
  go_loopg [3, 4, 12] n (fun g l _ i wr => ∃ k : Nat, k ≤ n ∧ n - k ≤ g ∧ i = .int .i64 k ∧ Aside (EdgesIn w.heap.size wr l (allE L n k)) ∧ Aside (Below w.heap.size w wr))
  case atStart => exact ⟨0, Nat.zero_le _, by omega, rfl, World.ownsRow_nil _ _ _ _, Below.refl _ _⟩
  case round =>
    obtain ⟨k, hk, hg, rfl, EX, BX⟩ := hrel
    by_cases hlt : k < n
    · have hlti : (k : Int) < n := by omega
      obtain ⟨RR, rfl, d1⟩ := HR.out k hlt
      have hd1 : wr.cell? ⟨RR, k, none⟩ = some (.slice (some ⟨rw' k, 0, none⟩) n n) := (BX.out.cell (p := ⟨RR, k, none⟩) (World.block_lt_of_cell? _ _ d1)).trans d1
      have hc0 : wr.cell? ⟨b, 0, none⟩ = some (.slice (some ⟨RR, 0, none⟩) n cap) := (BX.out.cell (p := ⟨b, 0, none⟩) (World.block_lt_of_cell? _ _ C0.out)).trans C0.out
      have HA := hid (allE_succ L n k)
      have HLEN : (allE L n k).length ≤ 90000 := by
        have h1 := allE_len L n k
        have h2 : k * n ≤ 300 * 300 := Nat.mul_le_mul (by omega) hn3
        omega
      have RX := hid (R.out.later BX.out)
      clear d1
      go_wp2_with fail
      clear hd1 hc0
      generalize wr = wo at *
      obtain ⟨F, hF⟩ : ∃ F, endsF L k 15 4 = F := ⟨_, rfl⟩
      have HF := hid (fun t => by have := ends_15 L k t (R.out.small k t); rw [hF] at this; exact this)
      rw [hF] at HA
      clear hF
      go_loopg [3, 5, 6, 23] n (fun g l _ _ i wr2 => ∃ j : Nat, j ≤ n ∧ n - j ≤ g ∧ i = .int .i64 j ∧ Aside (EdgesIn w.heap.size wr2 l (allE L n k ++ rowE L k F j)) ∧ Aside (Below w.heap.size w wr2))
      case atStart => exact ⟨0, Nat.zero_le _, by omega, rfl, (by show EdgesIn _ _ _ (allE L n k ++ rowE L k F 0); simpa [rowE, lst] using EX.out), BX.out⟩
      case round =>
        clear EX RX
        obtain ⟨j, hj, hg2, rfl, EY, BY⟩ := hrel
        by_cases hjl : j < n
        · have hjli : (j : Int) < n := by omega
          have cx := ((R.out.later BY.out).cell k j hlt hjl).1
          have q := HF.out j
          have HO := hid (rowE_one L k F j)
          obtain ⟨y, hy⟩ : ∃ y, L k j = y := ⟨_, rfl⟩
          rw [hy] at cx q HO
          clear hy
          cases hfk : F j
          · rw [hfk] at q HO
            simp only [Bool.not_false] at q
            clear hfk
            go_wp2_with fail
            go_roundg (n - (j + 1))
            · exact ⟨j + 1, by omega, by omega, by go_num, (by show EdgesIn _ _ _ _; have h := HO.out; simp at h; rw [h]; exact EY.out), BY.out⟩
            · omega
          · rw [hfk] at q HO
            simp only [Bool.not_true] at q
            clear hfk
            have HLE := hid (rowE_len L k F j)
            have hsz := hid BY.out.size
            obtain ⟨M, hM⟩ : ∃ M, (allE L n k ++ rowE L k F j).length = M := ⟨_, rfl⟩
            have O3r : Hid (wr.ownsRow w.heap.size 37 3 u3 M (edgesV (allE L n k ++ rowE L k F j))) := by rw [← hM]; exact EY.out
            have hMb : M ≤ 90300 := by have := HLE.out; rw [← hM, List.length_append]; omega
            have HM := hid hM
            clear hM
            go_wp2_with (at_builtin; refine wpList_append_lies _ rfl _ _ 34 rfl w.heap.size 37 i0 _ 3 24 Tryd.underlying34 HI.out HZ0.out HZ1.out HZ2.out rfl (by decide) u3 M (edgesV (allE L n k ++ rowE L k F j)) rfl ?hown ⟨wr.heap.size, 0, none⟩ 1 1 (edgeV (k, j, y)) rfl rfl ?hnews ?hone (by decide) ?h63 ?hby ?hbase (wr.heap.size + 1) ?hH ?_)
            case hown => exact World.ownsRow.alloc O3r.out _
            case hnews => exact fun _ _ h => h
            case hone => intro u hu; unfold edgeV at hu; simp at hu; rcases hu with rfl | rfl | rfl <;> rfl
            case h63 => unfold maxLen; omega
            case hby => omega
            case hbase => have := hsz.out; simp; omega
            intro g cap' w4 hown4 hgrow hat hglt
            have B4 : Hid (Below w.heap.size w w4) := BY.out.trans (((below_box wr _).mono hsz.out).grown hgrow (by have := hsz.out; simp; omega) (fun x hx => (O3r.out.lt x hx).1))
            have O4 : Hid (EdgesIn w.heap.size w4 (.slice (some ⟨g, 0, none⟩) (M + 1) cap') (allE L n k ++ rowE L k F (j + 1))) := by
              have h := HO.out
              simp at h
              have e0 : allE L n k ++ rowE L k F (j + 1) = (allE L n k ++ rowE L k F j) ++ [(k, j, y)] := by rw [h, List.append_assoc]
              have e1 : (allE L n k ++ rowE L k F (j + 1)).length = M + 1 := by rw [e0, List.length_append, HM.out]; rfl
              show EdgesIn w.heap.size w4 _ _
              unfold EdgesIn
              rw [e1, e0, edgesV_snoc]
              exact hown4
            clear hown4 hgrow hat hglt
            go_wp2_with fail
            go_roundg (n - (j + 1))
            · exact ⟨j + 1, by omega, by omega, by go_num, O4.out, B4.out⟩
            · omega
        · have hjli : ¬ (j : Int) < n := by omega
          have ej : n = j := by omega
          have EZ : Hid (EdgesIn w.heap.size wr u3 (allE L n (k + 1))) := by
            rw [HA.out]
            have h := EY.out
            rw [← ej] at h
            exact h
          clear ej
          go_wp2_with fail
          go_roundg (n - (k + 1))
          · exact ⟨k + 1, by omega, by omega, by go_num, EZ.out, BY.out⟩
          · omega
    · have hlti : ¬ (k : Int) < n := by omega
      have ek : n = k := by omega
      subst ek
      go_wp2_with fail
      go_ret
      exact ⟨⟨_, rfl, EX.out⟩, BX.out⟩
end Go.Proofs.YtbcegdiabnapkabDoor
