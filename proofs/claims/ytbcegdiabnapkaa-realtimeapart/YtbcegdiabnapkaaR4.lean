/-
  RealtimeApart.
-/
import Derived.Test.YtbcegdiabnapkaaR3
import Derived.Laws.AppendOwnNone
namespace Go.Proofs.Ytbcegdiabnapkaa
set_option linter.unusedVariables false
set_option linter.unusedSimpArgs false
open Go.RowKit Go.Lib

theorem allL_mem (rowL : Nat → List Nat) (k : Nat) (x : Int × Int) (h : x ∈ allL rowL k) : ∃ i y : Nat, i < k ∧ y ∈ rowL i ∧ x = ((i : Int), (y : Int)) := by
  simp only [allL, List.mem_flatMap, List.mem_range, List.mem_map] at h
  obtain ⟨i, hi, y, hy, rfl⟩ := h
  exact ⟨i, y, hi, hy, rfl⟩
theorem pair_ok (f : Nat → LT) (n j : Nat) (h : j < (allL (fullRow f n) n ++ allL (sparseRow f n) n).length) : ∃ x y : Nat, x < n ∧ y < n ∧ bef (f x) (f y) = true ∧ (allL (fullRow f n) n ++ allL (sparseRow f n) n).getD j default = ((x : Int), (y : Int)) := by
  have hm : (allL (fullRow f n) n ++ allL (sparseRow f n) n).getD j default ∈ (allL (fullRow f n) n ++ allL (sparseRow f n) n) := by
    have e : (allL (fullRow f n) n ++ allL (sparseRow f n) n).getD j default = (allL (fullRow f n) n ++ allL (sparseRow f n) n)[j] := by
      simp only [List.getD, List.getElem?_eq_getElem h, Option.getD_some]
    rw [e]
    exact List.getElem_mem h
  rcases List.mem_append.1 hm with h1 | h1
  · obtain ⟨x, y, hx, hy, e⟩ := allL_mem _ _ _ h1
    simp only [fullRow, List.mem_filter, List.mem_range] at hy
    exact ⟨x, y, hx, hy.1, hy.2, e⟩
  · obtain ⟨x, y, hx, hy, e⟩ := allL_mem _ _ _ h1
    simp only [sparseRow, List.mem_filter, List.mem_range, Bool.and_eq_true] at hy
    exact ⟨x, y, hx, hy.1, hy.2.1, e⟩
theorem rowsP_one (l : List (Int × Int)) : ∀ u ∈ (rowsP l).flatten, u.oneCell' = true := fun u hu => by
  simp only [rowsP, List.mem_flatten, List.mem_map] at hu
  obtain ⟨r, ⟨x, _, rfl⟩, hu⟩ := hu
  exact encP_one x u hu

set_option maxHeartbeats 4000000 in
set_option maxRecDepth 100000 in
theorem apart_walk {S : Nat → Prop} (v : Value) (l : List MTxn) (w : World) (h : TxnsIn S w v l) :
    Calls Try.prog 6 #[v] w fun e w' => e = .returned (.bool true) ∧ Below w.heap.size w w' := by
  obtain ⟨i0, hi0, hz0, hz1, hz2⟩ := info_parts Try.infoPr
  have H := hid h
  clear h
  go_enter Try.func6, Try.ntmps6
  go_wp2_with fail
  go_at_call 8
  refine (small_any v l w H.out).mono ?_
  rintro e w1 ⟨v1, rfl, hv1, hb1⟩
  have h40 : (smallL l).length ≤ 40 := by unfold smallL; simp; omega
  obtain ⟨ao, c, f, rfl, hlc, hby, hLt, -⟩ := hv1.lt
  generalize (smallL l).length = n at *
  have L1 := hid hLt
  have B1 := hid hb1
  clear hv1 hLt hb1 H
  have hF : (allL (fullRow f n) n).length ≤ 1600 := by
    have h1 := allL_len (fullRow f n) 40 (fun i => Nat.le_trans (len_filter _ _) h40) n
    have h3 : n * 40 ≤ 40 * 40 := Nat.mul_le_mul_right _ (by omega)
    omega
  have hS : (allL (sparseRow f n) n).length ≤ 1600 := by
    have h1 := allL_len (sparseRow f n) 40 (fun i => Nat.le_trans (len_filter _ _) h40) n
    have h3 : n * 40 ≤ 40 * 40 := Nat.mul_le_mul_right _ (by omega)
    omega
  go_wp2_with fail
  go_at_call 13
  refine (full_is ao c n f w1 h40 L1.out).mono ?_
  rintro e w2 ⟨v2, rfl, hO2, hb2⟩
  have L2 := hid (L1.out.later hb2)
  have O2 := hid hO2
  have B2 := hid hb2
  clear hO2 hb2
  go_wp2_with fail
  go_at_call 15
  refine (sparse_is ao c n f w2 h40 L2.out).mono ?_
  rintro e w3 ⟨v3, rfl, hO3, hb3⟩
  have O23 : Hid (w3.ownsRow w1.heap.size 30 2 v2 (allL (fullRow f n) n).length (rowsP (allL (fullRow f n) n)).flatten) := owns_keep O2.out (fun g hg => hb3.block g (O2.out.lt g hg).2)
  have B3 := hid (B2.out.trans (hb3.mono B2.out.size))
  clear O2 B2 L2 hb3
  rcases hO3.2 with ⟨hv3, hn3⟩ | ⟨g3, cap3, cur3, hv3, hrest⟩
  · have e3 : allL (sparseRow f n) n = [] := List.length_eq_zero_iff.1 hn3
    subst hv3
    have hO4 : w3.ownsRow w1.heap.size 30 2 v2 (allL (fullRow f n) n ++ allL (sparseRow f n) n).length (rowsP (allL (fullRow f n) n ++ allL (sparseRow f n) n)).flatten := by
      rw [e3, List.append_nil]
      exact O23.out
    have hB4 := B3.out
    clear hO3 hn3 e3
    revert hB4 hO4 O23 B3
    generalize w3 = w4
    generalize v2 = v4
    intro O23 B3 hO4 hB4
    have B4 := hid hB4
    have hO4' : w4.ownsRow w1.heap.size 30 2 v4 (allL (fullRow f n) n ++ allL (sparseRow f n) n).length (rowsP (allL (fullRow f n) n ++ allL (sparseRow f n) n)).flatten := hO4
    obtain ⟨a4, c4, rfl, hc4, hLs⟩ := owns_ls hO4'
    have LS := hid hLs
    have PK := hid (pair_ok f n)
    obtain ⟨K, hK⟩ : ∃ K, (allL (fullRow f n) n ++ allL (sparseRow f n) n).length = K := ⟨_, rfl⟩
    have hK2 : K ≤ 4000 := by
      rw [← hK, List.length_append]
      omega
    rw [hK] at LS PK ⊢
    try rw [hK] at O23
    generalize hLL : allL (fullRow f n) n ++ allL (sparseRow f n) n = LL at *
    clear hK hLs hO4' hO4 hB4 hc4 hLL hF hS B3
    go_wp2_with (at_builtin; refine wpList_append_own_none rfl _ _ 29 rfl w1.heap.size 30 i0 2 Try.underlying29 hi0 _ _ _ rfl O23.out rfl ?_)
    clear O23
    go_loopg [4, 13] K (fun gg _ i wr => ∃ j : Nat, j ≤ K ∧ K - j ≤ gg ∧ i = .int .i64 j ∧ Aside (Below w4.heap.size w4 wr))
    case atStart => exact ⟨0, Nat.zero_le _, by omega, rfl, Below.refl _ _⟩
    case round =>
      obtain ⟨j, hj, hgj, rfl, BW⟩ := hrel
      have BE := hid (B4.out.trans (BW.out.mono B4.out.size))
      by_cases hjk : j < K
      · have hjki : (j : Int) < (K : Int) := by omega
        obtain ⟨b, o, rfl, hbl, s1, s2⟩ := (LS.out.later BW.out) j hjk
        obtain ⟨x, y, hx, hy, hb, eg⟩ := PK.out j hjk
        dsimp only at s1 s2
        rw [eg] at s1 s2
        clear eg
        dsimp only at s1 s2
        obtain ⟨bx, ox, rfl, hbx, hxs, dx0, dx1, dx2, dx3, dx4⟩ := (L1.out.later BE.out).five x hx
        obtain ⟨by', oy, ey, hby', hys, dy0, dy1, dy2, dy3, dy4⟩ := (L1.out.later BE.out).five y hy
        cases ey
        obtain ⟨q1, q2, q3, q4⟩ := (bef_iff _ _).1 hb
        rw [q1] at dx1
        rw [q2] at dy1
        generalize (f x).till = tx at dx3 q3 q4
        have hxi : (x : Int) < (n : Int) := by omega
        have hyi : (y : Int) < (n : Int) := by omega
        have htx : ¬ tx < 0 := by omega
        have BX := hid (BW.out.alloc BW.out.size (.cells #[.int .i64 x, .int .i64 y] 30))
        clear dx0 dx2 dx4 dy0 dy2 dy3 dy4 hxs hys q4 hb
        go_wp2_with fail
        go_roundg (K - (j + 1))
        case measure => omega
        case rel => exact ⟨j + 1, by omega, by omega, by go_num, BX.out⟩
      · have hjki : ¬ (j : Int) < (K : Int) := by omega
        have LE := hid (L1.out.later BE.out)
        clear LS PK BW
        go_wp2_with fail
        go_at_call 13
        refine (full_is ao c n f wr h40 LE.out).mono ?_
        rintro e w6 ⟨v6, rfl, hO6, hb6⟩
        obtain ⟨a6, c6, rfl, -, -⟩ := owns_ls hO6
        have L6 := hid (LE.out.later hb6)
        have B6 := hid (BE.out.trans (hb6.mono BE.out.size))
        clear hO6 hb6 LE BE
        go_wp2_with fail
        go_at_call 14
        refine (rfull_is ao c n f w6 h40 L6.out).mono ?_
        rintro e w7 ⟨v7, rfl, hO7, hb7⟩
        obtain ⟨a7, c7, rfl, -, -⟩ := owns_ls hO7
        have B7 := hid (B1.out.trans ((B6.out.trans (hb7.mono B6.out.size)).mono B1.out.size))
        clear hO7 hb7
        generalize (allL (fullRow f n) n).length = F at *
        have hFF : ((F : Int) == (F : Int)) = true := by simp
        go_wp2_with fail
        go_ret
        exact ⟨rfl, B7.out⟩
  · have hcells := hO3.cells (g := g3) (by rw [hv3]; rfl)
    subst hv3
    clear hrest
    go_wp2_with (at_builtin; refine wpList_append_own _ rfl _ _ 29 rfl w1.heap.size 30 i0 _ 2 16 Try.underlying29 hi0 hz0 hz1 hz2 rfl (by decide) v2 _ _ rfl O23.out ⟨g3, 0, none⟩ (allL (sparseRow f n) n).length cap3 (rowsP (allL (sparseRow f n) n)).flatten rfl (rowsP_flen _) ?hnews (rowsP_one _) ?h63 ?hby ?hbase ?_)
    case hnews => exact hcells
    case h63 => unfold maxLen; omega
    case hby => omega
    case hbase => exact B3.out.size
    intro v4 w4 hown4 hgrow hnil
    have hB4 : Below w1.heap.size w1 w4 := B3.out.grown hgrow B3.out.size (fun x hx => (O23.out.lt x hx).1)
    have hO4 : w4.ownsRow w1.heap.size 30 2 v4 (allL (fullRow f n) n ++ allL (sparseRow f n) n).length (rowsP (allL (fullRow f n) n ++ allL (sparseRow f n) n)).flatten := by
      rw [List.length_append, rowsP_append]
      exact hown4
    clear hown4 hgrow hnil hcells hO3
    have B4 := hid hB4
    have hO4' : w4.ownsRow w1.heap.size 30 2 v4 (allL (fullRow f n) n ++ allL (sparseRow f n) n).length (rowsP (allL (fullRow f n) n ++ allL (sparseRow f n) n)).flatten := hO4
    obtain ⟨a4, c4, rfl, hc4, hLs⟩ := owns_ls hO4'
    have LS := hid hLs
    have PK := hid (pair_ok f n)
    obtain ⟨K, hK⟩ : ∃ K, (allL (fullRow f n) n ++ allL (sparseRow f n) n).length = K := ⟨_, rfl⟩
    have hK2 : K ≤ 4000 := by
      rw [← hK, List.length_append]
      omega
    rw [hK] at LS PK ⊢
    try rw [hK] at O23
    generalize hLL : allL (fullRow f n) n ++ allL (sparseRow f n) n = LL at *
    clear hK hLs hO4' hO4 hB4 hc4 hLL hF hS B3
    go_wp2_with fail
    clear O23
    go_loopg [4, 13] K (fun gg _ i wr => ∃ j : Nat, j ≤ K ∧ K - j ≤ gg ∧ i = .int .i64 j ∧ Aside (Below w4.heap.size w4 wr))
    case atStart => exact ⟨0, Nat.zero_le _, by omega, rfl, Below.refl _ _⟩
    case round =>
      obtain ⟨j, hj, hgj, rfl, BW⟩ := hrel
      have BE := hid (B4.out.trans (BW.out.mono B4.out.size))
      by_cases hjk : j < K
      · have hjki : (j : Int) < (K : Int) := by omega
        obtain ⟨b, o, rfl, hbl, s1, s2⟩ := (LS.out.later BW.out) j hjk
        obtain ⟨x, y, hx, hy, hb, eg⟩ := PK.out j hjk
        dsimp only at s1 s2
        rw [eg] at s1 s2
        clear eg
        dsimp only at s1 s2
        obtain ⟨bx, ox, rfl, hbx, hxs, dx0, dx1, dx2, dx3, dx4⟩ := (L1.out.later BE.out).five x hx
        obtain ⟨by', oy, ey, hby', hys, dy0, dy1, dy2, dy3, dy4⟩ := (L1.out.later BE.out).five y hy
        cases ey
        obtain ⟨q1, q2, q3, q4⟩ := (bef_iff _ _).1 hb
        rw [q1] at dx1
        rw [q2] at dy1
        generalize (f x).till = tx at dx3 q3 q4
        have hxi : (x : Int) < (n : Int) := by omega
        have hyi : (y : Int) < (n : Int) := by omega
        have htx : ¬ tx < 0 := by omega
        have BX := hid (BW.out.alloc BW.out.size (.cells #[.int .i64 x, .int .i64 y] 30))
        clear dx0 dx2 dx4 dy0 dy2 dy3 dy4 hxs hys q4 hb
        go_wp2_with fail
        go_roundg (K - (j + 1))
        case measure => omega
        case rel => exact ⟨j + 1, by omega, by omega, by go_num, BX.out⟩
      · have hjki : ¬ (j : Int) < (K : Int) := by omega
        have LE := hid (L1.out.later BE.out)
        clear LS PK BW
        go_wp2_with fail
        go_at_call 13
        refine (full_is ao c n f wr h40 LE.out).mono ?_
        rintro e w6 ⟨v6, rfl, hO6, hb6⟩
        obtain ⟨a6, c6, rfl, -, -⟩ := owns_ls hO6
        have L6 := hid (LE.out.later hb6)
        have B6 := hid (BE.out.trans (hb6.mono BE.out.size))
        clear hO6 hb6 LE BE
        go_wp2_with fail
        go_at_call 14
        refine (rfull_is ao c n f w6 h40 L6.out).mono ?_
        rintro e w7 ⟨v7, rfl, hO7, hb7⟩
        obtain ⟨a7, c7, rfl, -, -⟩ := owns_ls hO7
        have B7 := hid (B1.out.trans ((B6.out.trans (hb7.mono B6.out.size)).mono B1.out.size))
        clear hO7 hb7
        generalize (allL (fullRow f n) n).length = F at *
        have hFF : ((F : Int) == (F : Int)) = true := by simp
        go_wp2_with fail
        go_ret
        exact ⟨rfl, B7.out⟩
end Go.Proofs.Ytbcegdiabnapkaa
