/-
  The document's Sparse.
-/
import Derived.Test.YtbcegdiabnapkaaR3
namespace Go.Proofs.Ytbcegdiabnapkaa
set_option linter.unusedVariables false
set_option linter.unusedSimpArgs false
open Go.RowKit Go.Lib

/-- Which is before which with no third one between. -/
def psp (f : Nat → LT) (n : Nat) : Nat → Nat → Bool := fun i x => bef (f i) (f x) && !btw f n i x
/-- Whether there is a third one between, among the first k. -/
def btk (f : Nat → LT) (i x k : Nat) : Bool := (List.range k).any (fun c => bef (f i) (f c) && bef (f c) (f x))
theorem btk_succ (f : Nat → LT) (i x k : Nat) : btk f i x (k + 1) = (btk f i x k || (bef (f i) (f k) && bef (f k) (f x))) := by simp [btk, List.range_succ]
theorem btk_all (f : Nat → LT) (i x n : Nat) : btk f i x n = btw f n i x := rfl
theorem psp_part (f : Nat → LT) (n i : Nat) : partP (psp f n) n i 0 = allL (sparseRow f n) i := partP_zero _ _ _
theorem psp_row (f : Nat → LT) (n i : Nat) : partP (psp f n) n i n = allL (sparseRow f n) (i + 1) := partP_row _ _ _

set_option maxHeartbeats 8000000 in
set_option maxRecDepth 100000 in
/-- What the document's Sparse hands back. -/
theorem rsparse_is (ao : Option Addr) (c n : Nat) (f : Nat → LT) (w : World) (hn : n ≤ 40) (hl : Lt w ao n f) : Calls Try.prog 16 #[.slice ao n c] w fun e w' => PairsPost (sparseRow f n) n w e w' := by
  obtain ⟨i0, hi0, hz0, hz1, hz2⟩ := info_parts Try.infoPr
  have L0 := hid hl
  clear hl
  go_enter Try.func16, Try.ntmps16
  go_wp2_with fail
  go_loopg [3, 4, 5, 13] n (fun gg v _ _ i wr => ∃ k : Nat, k ≤ n ∧ n - k ≤ gg ∧ i = .int .i64 k ∧ Aside (Below w.heap.size w wr) ∧ Aside (wr.ownsRow w.heap.size 30 2 v (allL (sparseRow f n) k).length (rowsP (allL (sparseRow f n) k)).flatten))
  case atStart => exact ⟨0, Nat.zero_le _, by omega, rfl, Below.refl _ _, World.ownsRow_nil _ _ _ _⟩
  case round =>
    obtain ⟨i, hi, hg, rfl, BW, OW⟩ := hrel
    by_cases hlt : i < n
    · have hlti : (i : Int) < (n : Int) := by omega
      obtain ⟨b, o, rfl, hbl, ⟨xa, xn, xc, hx⟩, d0, d1, d2, d3, d4⟩ := (L0.out.later BW.out).five i hlt
      obtain ⟨X, hX⟩ : ∃ X, f i = X := ⟨_, rfl⟩
      have HX := hid hX
      rw [hX] at hx d0 d1 d2 d3 d4
      clear hX
      obtain ⟨ap, ast, af, att, av⟩ := X
      simp only [LT.proc, LT.state, LT.since, LT.till, LT.ov] at d0 d1 d2 d3 d4 hx
      subst hx
      go_wp2_with fail
      have BA : Hid (Bx (wr.alloc (.cells #[.int .i64 ap, .int .i64 ast, .int .i64 af, .int .i64 att, .slice xa xn xc] 26)) wr.heap.size (ap, ast, af, att, .slice xa xn xc)) := (Bx.made wr (ap, ast, af, att, .slice xa xn xc) 26)
      have BWA := hid (BW.out.alloc BW.out.size (.cells #[.int .i64 ap, .int .i64 ast, .int .i64 af, .int .i64 att, .slice xa xn xc] 26))
      have NA : Hid (u3.ownBlock ≠ some wr.heap.size) := fun e => by have := (OW.out.lt _ e).2; omega
      have OA : Hid ((wr.alloc (.cells #[.int .i64 ap, .int .i64 ast, .int .i64 af, .int .i64 att, .slice xa xn xc] 26)).ownsRow w.heap.size 30 2 u3 (partP (psp f n) n i 0).length (rowsP (partP (psp f n) n i 0)).flatten) := by
        show World.ownsRow _ _ _ _ _ _ _
        rw [psp_part]
        exact owns_keep OW.out (fun g hg => ((Below.refl wr.heap.size wr).alloc (Nat.le_refl _) _).block g (OW.out.lt g hg).2)
      clear d0 d1 d2 d3 d4 BW OW
      generalize wr.alloc (.cells #[.int .i64 ap, .int .i64 ast, .int .i64 af, .int .i64 att, .slice xa xn xc] 26) = wa at *
      generalize wr.heap.size = pa at *
      go_loopg [3, 6, 7, 8, 20] n (fun gg v _ _ _ i2 wr => ∃ k : Nat, k ≤ n ∧ n - k ≤ gg ∧ i2 = .int .i64 k ∧ Aside (Below w.heap.size w wr) ∧ Aside (wr.ownsRow w.heap.size 30 2 v (partP (psp f n) n i k).length (rowsP (partP (psp f n) n i k)).flatten) ∧ Aside (Bx wr pa (ap, ast, af, att, .slice xa xn xc)) ∧ Aside (v.ownBlock ≠ some pa))
      case atStart => exact ⟨0, Nat.zero_le _, by omega, rfl, BWA.out, OA.out, BA.out, NA.out⟩
      case round =>
        clear BWA OA BA NA
        obtain ⟨j, hj, hgj, rfl, BW, OW, BA, NA⟩ := hrel
        by_cases hltj : j < n
        · have hltji : (j : Int) < (n : Int) := by omega
          obtain ⟨b', o', e', -, ⟨xa', xn', xc', hx⟩, d0, d1, d2, d3, d4⟩ := (L0.out.later BW.out).five j hltj
          cases e'
          obtain ⟨Y, hY⟩ : ∃ Y, f j = Y := ⟨_, rfl⟩
          have HY := hid hY
          rw [hY] at hx d0 d1 d2 d3 d4
          clear hY
          obtain ⟨bp, bst, bf, btt, bv⟩ := Y
          simp only [LT.proc, LT.state, LT.since, LT.till, LT.ov] at d0 d1 d2 d3 d4 hx
          subst hx
          go_wp2_with fail
          have ALB := hid ((Below.refl wr.heap.size wr).alloc (Nat.le_refl _) (.cells #[.int .i64 bp, .int .i64 bst, .int .i64 bf, .int .i64 btt, .slice xa' xn' xc'] 26))
          have XB : Hid (Bx (wr.alloc (.cells #[.int .i64 bp, .int .i64 bst, .int .i64 bf, .int .i64 btt, .slice xa' xn' xc'] 26)) wr.heap.size (bp, bst, bf, btt, .slice xa' xn' xc')) := (Bx.made wr (bp, bst, bf, btt, .slice xa' xn' xc') 26)
          have XA := hid (BA.out.later ALB.out)
          have BWB := hid (BW.out.trans (ALB.out.mono BW.out.size))
          have OB : Hid ((wr.alloc (.cells #[.int .i64 bp, .int .i64 bst, .int .i64 bf, .int .i64 btt, .slice xa' xn' xc'] 26)).ownsRow w.heap.size 30 2 u3 (partP (psp f n) n i j).length (rowsP (partP (psp f n) n i j)).flatten) := owns_keep OW.out (fun g hg => ALB.out.block g (OW.out.lt g hg).2)
          clear d0 d1 d2 d3 d4 BW OW BA ALB
          generalize wr.alloc (.cells #[.int .i64 bp, .int .i64 bst, .int .i64 bf, .int .i64 btt, .slice xa' xn' xc'] 26) = wb at *
          generalize wr.heap.size = pb at *
          go_loopg [8, 10, 27] n (fun gg bt _ i3 wr => ∃ k : Nat, k ≤ n ∧ n - k ≤ gg ∧ i3 = .int .i64 k ∧ bt = .bool (btk f i j k) ∧ Aside (Below wb.heap.size wb wr))
          case atStart => exact ⟨0, Nat.zero_le _, by omega, rfl, rfl, Below.refl _ _⟩
          case round =>
            obtain ⟨k, hk, hgk, rfl, rfl, BW⟩ := hrel
            have BWW := hid (BWB.out.trans (BW.out.mono BWB.out.size))
            have XA0 := hid (XA.out.later BW.out)
            have XB0 := hid (XB.out.later BW.out)
            obtain ⟨a0, a1, a2, a3, a4⟩ := XA0.out.five
            obtain ⟨b0, b1, b2, b3, b4⟩ := XB0.out.five
            simp only [LT.proc, LT.state, LT.since, LT.till, LT.ov] at a0 a1 a2 a3 a4 b0 b1 b2 b3 b4
            have la : pa < wr.heap.size := XA0.out.1
            have lb : pb < wr.heap.size := XB0.out.1
            by_cases hltk : k < n
            · have hltki : (k : Int) < (n : Int) := by omega
              obtain ⟨b', o', e', -, ⟨ya, yn, yc, hx⟩, d0, d1, d2, d3, d4⟩ := (L0.out.later BWW.out).five k hltk
              cases e'
              obtain ⟨Z, hZ⟩ : ∃ Z, f k = Z := ⟨_, rfl⟩
              have HZ := hid hZ
              rw [hZ] at hx d0 d1 d2 d3 d4
              clear hZ
              obtain ⟨cp, cst, cf, ctt, cv⟩ := Z
              simp only [LT.proc, LT.state, LT.since, LT.till, LT.ov] at d0 d1 d2 d3 d4 hx
              subst hx
              have ALC := hid ((Below.refl wr.heap.size wr).alloc (Nat.le_refl _) (.cells #[.int .i64 cp, .int .i64 cst, .int .i64 cf, .int .i64 ctt, .slice ya yn yc] 26))
              have XC : Hid (Bx (wr.alloc (.cells #[.int .i64 cp, .int .i64 cst, .int .i64 cf, .int .i64 ctt, .slice ya yn yc] 26)) wr.heap.size (cp, cst, cf, ctt, .slice ya yn yc)) := (Bx.made wr (cp, cst, cf, ctt, .slice ya yn yc) 26)
              have BC := hid (BW.out.trans (ALC.out.mono BW.out.size))
              obtain ⟨r1, hr1⟩ : ∃ r1, bef (ap, ast, af, att, .slice xa xn xc) (cp, cst, cf, ctt, .slice ya yn yc) = r1 := ⟨_, rfl⟩
              obtain ⟨r2, hr2⟩ : ∃ r2, bef (cp, cst, cf, ctt, .slice ya yn yc) (bp, bst, bf, btt, .slice xa' xn' xc') = r2 := ⟨_, rfl⟩
              have BS := hid (btk_succ f i j k)
              rw [HX.out, HY.out, HZ.out, hr1, hr2] at BS
              have R1 := fun W => rbefore_at ap ast af att (.slice xa xn xc) cp cst cf ctt (.slice ya yn yc) r1 hr1 W
              have R2 := fun W => rbefore_at cp cst cf ctt (.slice ya yn yc) bp bst bf btt (.slice xa' xn' xc') r2 hr2 W
              clear hr1 hr2
              obtain ⟨bt, hbt⟩ : ∃ bt, btk f i j k = bt := ⟨_, rfl⟩
              rw [hbt] at BS ⊢
              clear hbt
              cases bt with
              | true =>
                clear R1 R2
                go_wp2_with fail
                go_roundg (n - (k + 1))
                case measure => omega
                case rel => exact ⟨k + 1, by omega, by omega, by go_num, by rw [BS.out]; rfl, BC.out⟩
              | false =>
                go_wp2_with fail
                have XB1 := hid (XB0.out.later ALC.out)
                clear d0 d1 d2 d3 d4 a0 a1 a2 a3 a4 b0 b1 b2 b3 b4 la lb
                go_at_call 11
                refine (R1 _).mono ?_
                rintro e w6 ⟨rfl, hb6⟩
                have B6 := hid (BC.out.trans (hb6.mono BC.out.size))
                have XC6 := hid (XC.out.later hb6)
                have XB6 := hid (XB1.out.later hb6)
                obtain ⟨b0, b1, b2, b3, b4⟩ := XB6.out.five
                obtain ⟨c0, c1, c2, c3, c4⟩ := XC6.out.five
                simp only [LT.proc, LT.state, LT.since, LT.till, LT.ov] at b0 b1 b2 b3 b4 c0 c1 c2 c3 c4
                clear hb6 R1
                cases r1 with
                | false =>
                  clear R2
                  go_wp2_with fail
                  go_roundg (n - (k + 1))
                  case measure => omega
                  case rel => exact ⟨k + 1, by omega, by omega, by go_num, by rw [BS.out]; rfl, B6.out⟩
                | true =>
                  go_wp2_with fail
                  clear b0 b1 b2 b3 b4 c0 c1 c2 c3 c4
                  go_at_call 11
                  refine (R2 _).mono ?_
                  rintro e w7 ⟨rfl, hb7⟩
                  have B7 := hid (B6.out.trans (hb7.mono B6.out.size))
                  clear hb7 R2
                  cases r2 with
                  | false =>
                    go_wp2_with fail
                    go_roundg (n - (k + 1))
                    case measure => omega
                    case rel => exact ⟨k + 1, by omega, by omega, by go_num, by rw [BS.out]; rfl, B7.out⟩
                  | true =>
                    go_wp2_with fail
                    go_roundg (n - (k + 1))
                    case measure => omega
                    case rel => exact ⟨k + 1, by omega, by omega, by go_num, by rw [BS.out]; rfl, B7.out⟩
            · have hltki : ¬ (k : Int) < (n : Int) := by omega
              have hkn : k = n := by omega
              have OBW : Hid (wr.ownsRow w.heap.size 30 2 u3 (partP (psp f n) n i j).length (rowsP (partP (psp f n) n i j)).flatten) := owns_keep OB.out (fun g hg => BW.out.block g (OB.out.lt g hg).2)
              obtain ⟨r, hr⟩ : ∃ r, bef (ap, ast, af, att, .slice xa xn xc) (bp, bst, bf, btt, .slice xa' xn' xc') = r := ⟨_, rfl⟩
              have RB := fun W => rbefore_at ap ast af att (.slice xa xn xc) bp bst bf btt (.slice xa' xn' xc') r hr W
              have HL := hid (partP_len (psp f n) n i j hn hj hi)
              have PS := hid (partP_succ (psp f n) n i j)
              have HR : Hid (psp f n i j = (r && !btk f i j k)) := by
                show (bef (f i) (f j) && !btw f n i j) = _
                rw [HX.out, HY.out, hr, hkn, btk_all]
              rw [HR.out] at PS
              obtain ⟨bt, hbt⟩ : ∃ bt, btk f i j k = bt := ⟨_, rfl⟩
              rw [hbt] at PS ⊢
              clear hr HR hbt OB
              go_wp2_with fail
              clear a0 a1 a2 a3 a4 b0 b1 b2 b3 b4 la lb
              go_at_call 11
              refine (RB _).mono ?_
              rintro e w5 ⟨rfl, hb5⟩
              have B5 := hid (BWW.out.trans (hb5.mono BWW.out.size))
              have A5 := hid (XA0.out.later hb5)
              have O5 : Hid (w5.ownsRow w.heap.size 30 2 u3 (partP (psp f n) n i j).length (rowsP (partP (psp f n) n i j)).flatten) := owns_keep OBW.out (fun g hg => hb5.block g (OBW.out.lt g hg).2)
              clear hb5 OBW BW BWW XA0 XB0 RB
              have NO : Hid ((r && !bt) = false → w5.ownsRow w.heap.size 30 2 u3 (partP (psp f n) n i (j + 1)).length (rowsP (partP (psp f n) n i (j + 1))).flatten) := fun h => by
                rw [PS.out, h]
                simpa using O5.out
              cases r with
              | false =>
                have O6 := hid (NO.out rfl)
                go_wp2_with fail
                go_roundg (n - (j + 1))
                case measure => omega
                case rel => exact ⟨j + 1, by omega, by omega, by go_num, B5.out, O6.out, A5.out, NA.out⟩
              | true =>
                cases bt with
                | true =>
                  have O6 := hid (NO.out rfl)
                  go_wp2_with fail
                  go_roundg (n - (j + 1))
                  case measure => omega
                  case rel => exact ⟨j + 1, by omega, by omega, by go_num, B5.out, O6.out, A5.out, NA.out⟩
                | false =>
                  clear NO
                  have hLL := HL.out
                  obtain ⟨Lg, hLg⟩ : ∃ Lg, (partP (psp f n) n i j).length = Lg := ⟨_, rfl⟩
                  rw [hLg] at O5 hLL
                  have HLG := hid hLg
                  clear hLg
                  have PT : Hid (partP (psp f n) n i (j + 1) = partP (psp f n) n i j ++ [((i : Int), (j : Int))]) := by
                    show _ = _
                    rw [PS.out]
                    simp
                  clear PS
                  generalize hlj : partP (psp f n) n i j = lj at *
                  go_wp2_with (at_builtin; refine wpList_append_lies _ rfl _ _ 29 rfl w.heap.size 30 i0 _ 2 16 Try.underlying29 hi0 hz0 hz1 hz2 rfl (by decide) u3 Lg (rowsP lj).flatten rfl ?hown ⟨w5.heap.size, 0, none⟩ 1 1 [.int .i64 i, .int .i64 j] rfl rfl ?hnews ?hone (by decide) ?h63 ?hby ?hbase (w5.heap.size + 1) ?hH ?_)
                  case hown => exact owns_keep O5.out (fun g hg => ((Below.refl w5.heap.size w5).alloc (Nat.le_refl _) _).block g (O5.out.lt g hg).2)
                  case hnews => exact World.news_of_block (heap_alloc_new w5 _)
                  case hone => intro u hu; simp at hu; rcases hu with rfl | rfl <;> rfl
                  case h63 => unfold maxLen; omega
                  case hby => omega
                  case hbase => have := B5.out.size; simp; omega
                  case hH => simp
                  intro g cap w8 hown8 hgrow hat hglt
                  have B8 : Hid (Below w.heap.size w w8) := (B5.out.alloc B5.out.size _).grown hgrow (by have := B5.out.size; simp; omega) (fun x hx => (O5.out.lt x hx).1)
                  have A8 : Hid (Bx w8 pa (ap, ast, af, att, .slice xa xn xc)) := (A5.out.later ((Below.refl w5.heap.size w5).alloc (Nat.le_refl _) _)).grown hgrow NA.out
                  have N8 : Hid ((Value.slice (some ⟨g, 0, none⟩) (Lg + 1) cap).ownBlock ≠ some pa) := fun e => by
                    have e2 : g = pa := by simpa [Value.ownBlock] using e
                    rcases hat with h1 | h1
                    · exact NA.out (h1.trans (congrArg some e2))
                    · have := A5.out.1
                      omega
                  have O8 : Hid (w8.ownsRow w.heap.size 30 2 (.slice (some ⟨g, 0, none⟩) (Lg + 1) cap) (partP (psp f n) n i (j + 1)).length (rowsP (partP (psp f n) n i (j + 1))).flatten) := by
                    show World.ownsRow _ _ _ _ _ _ _
                    rw [PT.out, List.length_append, HLG.out, rowsP_append]
                    exact hown8
                  clear hown8 hgrow hat hglt O5 B5 A5 NA
                  go_wp2_with fail
                  go_roundg (n - (j + 1))
                  case measure => omega
                  case rel => exact ⟨j + 1, by omega, by omega, by go_num, B8.out, O8.out, A8.out, N8.out⟩
        · have hltji : ¬ (j : Int) < (n : Int) := by omega
          have hjn : j = n := by omega
          subst hjn
          have O9 : Hid (wr.ownsRow w.heap.size 30 2 u3 (allL (sparseRow f j) (i + 1)).length (rowsP (allL (sparseRow f j) (i + 1))).flatten) := by
            show World.ownsRow _ _ _ _ _ _ _
            rw [← psp_row]
            exact OW.out
          go_wp2_with fail
          go_roundg (j - (i + 1))
          case measure => omega
          case rel => exact ⟨i + 1, by omega, by omega, by go_num, BW.out, O9.out⟩
    · have hlti : ¬ (i : Int) < (n : Int) := by omega
      have hin : i = n := by omega
      subst hin
      have PO : Hid (PairsPost (sparseRow f i) i w (.returned u3) wr) := ⟨_, rfl, OW.out, BW.out⟩
      go_wp2_with fail
      go_ret
      exact PO.out
end Go.Proofs.Ytbcegdiabnapkaa
