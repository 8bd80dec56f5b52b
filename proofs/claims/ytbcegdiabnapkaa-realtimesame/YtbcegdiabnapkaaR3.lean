/-
  The document's Full.
-/
import Derived.Test.YtbcegdiabnapkaaR2
namespace Go.Proofs.Ytbcegdiabnapkaa
set_option linter.unusedVariables false
set_option linter.unusedSimpArgs false
open Go.RowKit Go.Lib

theorem Bx.grown {w w' : World} {p : Nat} {t : LT} {row : Option Nat} (h : Bx w p t) (hg : w.grownBy w' row) (hr : row ≠ some p) : Bx w' p t :=
  ⟨Nat.lt_of_lt_of_le h.1 hg.size, fun i u hi => (World.cell?_of_block (w := w) (hg.block p h.1 (fun e => hr e.symm))).trans (h.2 i u hi)⟩
/-- Which is before which. -/
def pbef (f : Nat → LT) : Nat → Nat → Bool := fun i x => bef (f i) (f x)
theorem pbef_part (f : Nat → LT) (n i : Nat) : partP (pbef f) n i 0 = allL (fullRow f n) i := partP_zero _ _ _
theorem pbef_row (f : Nat → LT) (n i : Nat) : partP (pbef f) n i n = allL (fullRow f n) (i + 1) := partP_row _ _ _

set_option maxHeartbeats 4000000 in
set_option maxRecDepth 100000 in
/-- What the document's Full hands back. -/
theorem rfull_is (ao : Option Addr) (c n : Nat) (f : Nat → LT) (w : World) (hn : n ≤ 40) (hl : Lt w ao n f) : Calls Try.prog 14 #[.slice ao n c] w fun e w' => PairsPost (fullRow f n) n w e w' := by
  obtain ⟨i0, hi0, hz0, hz1, hz2⟩ := info_parts Try.infoPr
  have L0 := hid hl
  clear hl
  go_enter Try.func14, Try.ntmps14
  go_wp2_with fail
  go_loopg [3, 4, 5, 10] n (fun gg v _ _ i wr => ∃ k : Nat, k ≤ n ∧ n - k ≤ gg ∧ i = .int .i64 k ∧ Aside (Below w.heap.size w wr) ∧ Aside (wr.ownsRow w.heap.size 30 2 v (allL (fullRow f n) k).length (rowsP (allL (fullRow f n) k)).flatten))
  case atStart => exact ⟨0, Nat.zero_le _, by omega, rfl, Below.refl _ _, World.ownsRow_nil _ _ _ _⟩
  case round =>
    obtain ⟨i, hi, hg, rfl, BW, OW⟩ := hrel
    by_cases hlt : i < n
    · have hlti : (i : Int) < (n : Int) := by omega
      obtain ⟨b, o, rfl, hbl, ⟨xa, xn, xc, hx⟩, d0, d1, d2, d3, d4⟩ := (L0.out.later BW.out).five i hlt
      obtain ⟨X, hX⟩ : ∃ X, f i = X := ⟨_, rfl⟩
      have HX := hid hX
      rw [hX] at hx d0 d1 d2 d3 d4
      clear hX
      obtain ⟨ap, ast, af, att, av⟩ := X
      simp only [LT.proc, LT.state, LT.since, LT.till, LT.ov] at d0 d1 d2 d3 d4 hx
      subst hx
      go_wp2_with fail
      have BA : Hid (Bx (wr.alloc (.cells #[.int .i64 ap, .int .i64 ast, .int .i64 af, .int .i64 att, .slice xa xn xc] 26)) wr.heap.size (ap, ast, af, att, .slice xa xn xc)) := (Bx.made wr (ap, ast, af, att, .slice xa xn xc) 26)
      have BWA := hid (BW.out.alloc BW.out.size (.cells #[.int .i64 ap, .int .i64 ast, .int .i64 af, .int .i64 att, .slice xa xn xc] 26))
      have NA : Hid (u3.ownBlock ≠ some wr.heap.size) := fun e => by have := (OW.out.lt _ e).2; omega
      have OA : Hid ((wr.alloc (.cells #[.int .i64 ap, .int .i64 ast, .int .i64 af, .int .i64 att, .slice xa xn xc] 26)).ownsRow w.heap.size 30 2 u3 (partP (pbef f) n i 0).length (rowsP (partP (pbef f) n i 0)).flatten) := by
        show World.ownsRow _ _ _ _ _ _ _
        rw [pbef_part]
        exact owns_keep OW.out (fun g hg => ((Below.refl wr.heap.size wr).alloc (Nat.le_refl _) _).block g (OW.out.lt g hg).2)
      clear d0 d1 d2 d3 d4 BW OW
      generalize wr.alloc (.cells #[.int .i64 ap, .int .i64 ast, .int .i64 af, .int .i64 att, .slice xa xn xc] 26) = wa at *
      generalize wr.heap.size = pa at *
      go_loopg [3, 6, 7, 17] n (fun gg v _ _ i2 wr => ∃ k : Nat, k ≤ n ∧ n - k ≤ gg ∧ i2 = .int .i64 k ∧ Aside (Below w.heap.size w wr) ∧ Aside (wr.ownsRow w.heap.size 30 2 v (partP (pbef f) n i k).length (rowsP (partP (pbef f) n i k)).flatten) ∧ Aside (Bx wr pa (ap, ast, af, att, .slice xa xn xc)) ∧ Aside (v.ownBlock ≠ some pa))
      case atStart => exact ⟨0, Nat.zero_le _, by omega, rfl, BWA.out, OA.out, BA.out, NA.out⟩
      case round =>
        clear BWA OA BA NA
        obtain ⟨j, hj, hgj, rfl, BW, OW, BA, NA⟩ := hrel
        by_cases hltj : j < n
        · have hltji : (j : Int) < (n : Int) := by omega
          obtain ⟨b', o', e', -, ⟨xa', xn', xc', hx⟩, d0, d1, d2, d3, d4⟩ := (L0.out.later BW.out).five j hltj
          cases e'
          obtain ⟨Y, hY⟩ : ∃ Y, f j = Y := ⟨_, rfl⟩
          have HY := hid hY
          rw [hY] at hx d0 d1 d2 d3 d4
          clear hY
          obtain ⟨bp, bst, bf, btt, bv⟩ := Y
          simp only [LT.proc, LT.state, LT.since, LT.till, LT.ov] at d0 d1 d2 d3 d4 hx
          subst hx
          obtain ⟨a0, a1, a2, a3, a4⟩ := BA.out.five
          simp only [LT.proc, LT.state, LT.since, LT.till, LT.ov] at a0 a1 a2 a3 a4
          have la : pa < wr.heap.size := BA.out.1
          obtain ⟨r, hr⟩ : ∃ r, bef (ap, ast, af, att, .slice xa xn xc) (bp, bst, bf, btt, .slice xa' xn' xc') = r := ⟨_, rfl⟩
          have HR : Hid (pbef f i j = r) := by
            show bef (f i) (f j) = r
            rw [HX.out, HY.out]
            exact hr
          have RB := fun W => rbefore_at ap ast af att (.slice xa xn xc) bp bst bf btt (.slice xa' xn' xc') r hr W
          have HL := hid (partP_len (pbef f) n i j hn hj hi)
          have PS := hid (partP_succ (pbef f) n i j)
          rw [HR.out] at PS
          clear hr HR HX HY
          have AL := hid ((Below.refl wr.heap.size wr).alloc (Nat.le_refl _) (.cells #[.int .i64 bp, .int .i64 bst, .int .i64 bf, .int .i64 btt, .slice xa' xn' xc'] 26))
          go_wp2_with fail
          clear d0 d1 d2 d3 d4 a0 a1 a2 a3 a4
          go_at_call 11
          refine (RB _).mono ?_
          rintro e w5 ⟨rfl, hb5⟩
          have AB : Hid (Below wr.heap.size wr w5) := AL.out.trans (hb5.mono AL.out.size)
          have B5 := hid (BW.out.trans (AB.out.mono BW.out.size))
          have A5 := hid (BA.out.later AB.out)
          have O5 : Hid (w5.ownsRow w.heap.size 30 2 u3 (partP (pbef f) n i j).length (rowsP (partP (pbef f) n i j)).flatten) := owns_keep OW.out (fun g hg => AB.out.block g (OW.out.lt g hg).2)
          clear hb5 AB AL BW OW BA RB
          cases r with
          | false =>
            have O6 : Hid (w5.ownsRow w.heap.size 30 2 u3 (partP (pbef f) n i (j + 1)).length (rowsP (partP (pbef f) n i (j + 1))).flatten) := by
              show World.ownsRow _ _ _ _ _ _ _
              rw [PS.out]
              simpa using O5.out
            go_wp2_with fail
            go_roundg (n - (j + 1))
            case measure => omega
            case rel => exact ⟨j + 1, by omega, by omega, by go_num, B5.out, O6.out, A5.out, NA.out⟩
          | true =>
            have hLL := HL.out
            obtain ⟨Lg, hLg⟩ : ∃ Lg, (partP (pbef f) n i j).length = Lg := ⟨_, rfl⟩
            rw [hLg] at O5 hLL
            have HLG := hid hLg
            clear hLg
            have PT : Hid (partP (pbef f) n i (j + 1) = partP (pbef f) n i j ++ [((i : Int), (j : Int))]) := by
              show _ = _
              rw [PS.out]
              simp
            clear PS
            generalize hlj : partP (pbef f) n i j = lj at *
            go_wp2_with (at_builtin; refine wpList_append_lies _ rfl _ _ 29 rfl w.heap.size 30 i0 _ 2 16 Try.underlying29 hi0 hz0 hz1 hz2 rfl (by decide) u3 Lg (rowsP lj).flatten rfl ?hown ⟨w5.heap.size, 0, none⟩ 1 1 [.int .i64 i, .int .i64 j] rfl rfl ?hnews ?hone (by decide) ?h63 ?hby ?hbase (w5.heap.size + 1) ?hH ?_)
            case hown => exact owns_keep O5.out (fun g hg => ((Below.refl w5.heap.size w5).alloc (Nat.le_refl _) _).block g (O5.out.lt g hg).2)
            case hnews => exact World.news_of_block (heap_alloc_new w5 _)
            case hone => intro u hu; simp at hu; rcases hu with rfl | rfl <;> rfl
            case h63 => unfold maxLen; omega
            case hby => omega
            case hbase => have := B5.out.size; simp; omega
            case hH => simp
            intro g cap w8 hown8 hgrow hat hglt
            have B8 : Hid (Below w.heap.size w w8) := (B5.out.alloc B5.out.size _).grown hgrow (by have := B5.out.size; simp; omega) (fun x hx => (O5.out.lt x hx).1)
            have A8 : Hid (Bx w8 pa (ap, ast, af, att, .slice xa xn xc)) := (A5.out.later ((Below.refl w5.heap.size w5).alloc (Nat.le_refl _) _)).grown hgrow NA.out
            have N8 : Hid ((Value.slice (some ⟨g, 0, none⟩) (Lg + 1) cap).ownBlock ≠ some pa) := fun e => by
              have e2 : g = pa := by simpa [Value.ownBlock] using e
              rcases hat with h1 | h1
              · exact NA.out (h1.trans (congrArg some e2))
              · have := A5.out.1
                omega
            have O8 : Hid (w8.ownsRow w.heap.size 30 2 (.slice (some ⟨g, 0, none⟩) (Lg + 1) cap) (partP (pbef f) n i (j + 1)).length (rowsP (partP (pbef f) n i (j + 1))).flatten) := by
              show World.ownsRow _ _ _ _ _ _ _
              rw [PT.out, List.length_append, HLG.out, rowsP_append]
              exact hown8
            clear hown8 hgrow hat hglt O5 B5 A5 NA
            go_wp2_with fail
            go_roundg (n - (j + 1))
            case measure => omega
            case rel => exact ⟨j + 1, by omega, by omega, by go_num, B8.out, O8.out, A8.out, N8.out⟩
        · have hltji : ¬ (j : Int) < (n : Int) := by omega
          have hjn : j = n := by omega
          subst hjn
          have O9 : Hid (wr.ownsRow w.heap.size 30 2 u3 (allL (fullRow f j) (i + 1)).length (rowsP (allL (fullRow f j) (i + 1))).flatten) := by
            show World.ownsRow _ _ _ _ _ _ _
            rw [← pbef_row]
            exact OW.out
          go_wp2_with fail
          go_roundg (j - (i + 1))
          case measure => omega
          case rel => exact ⟨i + 1, by omega, by omega, by go_num, BW.out, O9.out⟩
    · have hlti : ¬ (i : Int) < (n : Int) := by omega
      have hin : i = n := by omega
      subst hin
      have PO : Hid (PairsPost (fullRow f i) i w (.returned u3) wr) := ⟨_, rfl, OW.out, BW.out⟩
      go_wp2_with fail
      go_ret
      exact PO.out
end Go.Proofs.Ytbcegdiabnapkaa
