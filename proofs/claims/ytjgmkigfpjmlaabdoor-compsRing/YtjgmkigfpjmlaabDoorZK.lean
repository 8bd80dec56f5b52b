/-
  slices.Sorted of slices.Values.
-/
import Derived.Lib.SlKeysI
import Derived.Shelf.SortM.Plain
import Derived.Deep.QuietTactic
import Derived.BigQuiet
import Derived.Test.YtjgmkigfpjmlaabDoorZI
import Derived.Test.YtjgmkigfpjmlaabDoorZJ
import Derived.Test.YtjgmkigfpjmlaabDoorZShC
namespace Go.Proofs.YtjgmkigfpjmlaabDoor
set_option linter.unusedVariables false
set_option linter.unusedSimpArgs false
open Go.RowKit Go.Shelf Go.Sort

theorem sort_call (blk cap : Nat) (zs : List Int) (w : World) (hH : Holds (Value.int .i64) w blk 0 zs.toArray) (hblk : blk < w.heap.size) (hsz : zs.length < 4611686018427387904) :
    Calls Tryd.prog 96 #[.slice (some ⟨blk, 0, none⟩) zs.length cap] w fun e w' =>
      e = .returned (.tuple #[]) ∧ ∃ n os, w' = grow (putRow (Value.int .i64) (Sort.ahead w n) blk 0 (zs.mergeSort fun x y => decide (x ≤ y)).toArray) os := AnyM.slices_Sort_int Tryd.soI blk 0 cap zs w hH hblk hsz
/-- Numbers sorted. -/
def srt (l : List Nat) : List Nat := l.mergeSort fun x y => decide (x ≤ y)
theorem srt_map (l : List Nat) : (natI l).mergeSort (fun x y => decide (x ≤ y)) = natI (srt l) := by
  unfold natI srt
  rw [List.map_mergeSort]
  intro a _ b _
  simp
theorem srt_mem (l : List Nat) (v : Nat) : v ∈ srt l ↔ v ∈ l := by unfold srt; exact (List.mergeSort_perm l _).mem_iff
theorem srt_len (l : List Nat) : (srt l).length = l.length := by unfold srt; exact List.length_mergeSort l
theorem srt_pair {l : List Nat} (h : l.Nodup) : (srt l).Pairwise (· < ·) := by
  have h1 : (srt l).Pairwise (fun x y => decide (x ≤ y) = true) := List.pairwise_mergeSort (fun a b c h1 h2 => by simp at *; omega) (fun a b => by simp; omega) l
  have h2 : (srt l).Nodup := (List.mergeSort_perm l _).nodup_iff.2 h
  refine (h1.and h2).imp (fun {a b} hab => ?_)
  have := of_decide_eq_true hab.1
  have := hab.2
  omega
set_option maxHeartbeats 4000000 in
theorem sorted_is (Bs : Nat) (a : Option Addr) (l : List Nat) (cap : Nat) (w : World) (h0 : 0 < l.length) (hlen : l.length ≤ 1000) (hcap : l.length ≤ cap) (hBs : w.cell? ⟨Bs, 0, none⟩ = some (.slice a l.length cap)) (hB1 : Bs < w.heap.size) (hc : IntsAt w w.heap.size a l) :
    Calls Tryd.prog 88 #[.func (.func 97) #[] #[.pointer (some ⟨Bs, 0, none⟩)]] w fun e w' => (∃ v, e = .returned v ∧ Ints w.heap.size w' v (srt l)) ∧ Below w.heap.size w w' := by
  have CO := hid (collect_is Bs a l cap w hlen hcap hBs hB1 hc)
  clear hBs hB1 hc
  go_enter Tryd.func88, Tryd.ntmps88
  go_wp2_with fail
  go_at_call 95
  refine CO.out.mono ?_
  rintro e w1 ⟨⟨v, rfl, i4⟩, b4⟩
  have B4 := hid b4
  rcases i4.2 with ⟨_, h1⟩ | ⟨g, vc, cur, rfl, hB, hh, r1, r2, r3, r4⟩
  · omega
  have e1 : (natI l).length = l.length := by simp [natI]
  have hH : Holds encZ w1 g 0 (natI l).toArray := holds_of_block_i hh (by
    rw [e1]
    rw [Nat.mul_one] at r4
    rw [r4]
    simp [intsV, natI, encZ])
  have SC := sort_call g vc (natI l) w1 hH (blt hh) (by rw [e1]; omega)
  rw [e1, srt_map] at SC
  have RES : Hid (∀ n os, Ints w.heap.size (grow (putRow encZ (Sort.ahead w1 n) g 0 (natI (srt l)).toArray) os) (.slice (some ⟨g, 0, none⟩) l.length vc) (srt l) ∧ Below w.heap.size w (grow (putRow encZ (Sort.ahead w1 n) g 0 (natI (srt l)).toArray) os)) := fun n os => by
    refine ⟨?_, B4.out.grown (grownBy_sorted_i _) B4.out.size (fun j hj => by cases hj; exact hB)⟩
    have q := ownsRow_sorted_i (w := w1) (n := n) (os := os) (ss := natI l) (ts := natI (srt l)) (base := w.heap.size) (by simp [natI, srt_len]) hB hh (by rw [e1]; exact r1) r2 r3
    rw [e1] at q
    show World.ownsRow _ _ _ _ _ (srt l).length _
    rw [srt_len]
    have e2 : (natI (srt l)).map encZ = intsV (srt l) := by simp [natI, intsV, encZ]
    rw [← e2]
    exact q
  have SH := hid SC
  clear SC hH i4 b4 hh r1 r3 r4 e1
  go_wp2_with fail
  go_at_call 96
  refine SH.out.mono ?_
  rintro e w2 ⟨rfl, n, os, rfl⟩
  have R := hid (RES.out n os)
  go_wp2_with fail
  go_ret
  exact ⟨⟨_, rfl, R.out.1⟩, R.out.2⟩
end Go.Proofs.YtjgmkigfpjmlaabDoor

/-
  The search for components: close.
-/
namespace Go.Proofs.YtjgmkigfpjmlaabDoor
set_option linter.unusedVariables false
set_option linter.unusedSimpArgs false
open Go.RowKit

theorem putN_snoc (f : Nat → Nat) (l : List Nat) (v x : Nat) : updN (putN f l x) v x = putN f (l ++ [v]) x := by
  funext k
  unfold updN putN
  by_cases h1 : k = v
  · rw [if_pos h1, if_pos (by simp [h1])]
  · rw [if_neg h1]
    by_cases h2 : k ∈ l
    · rw [if_pos h2, if_pos (by simp [h2])]
    · rw [if_neg h2, if_neg (by simp [h1, h2])]
theorem putN_nil (f : Nat → Nat) (x : Nat) : putN f [] x = f := by
  funext k
  unfold putN
  rw [if_neg (by simp)]
theorem Tryd.infoInts : (Tryd.prog.info? 28).map (fun i => (i.zero, i.size, i.bytes)) = some (some (.slice none 0 0), 1, 24) := by kernel_rfl
/-- The nodes of a row from a place on. -/
theorem Sr.openAt {w : World} {H sb mk : Nat} {outf wv fv : Value} {n come : Nat} {num low : Nat → Nat} {ws : List Stp} {O1 S : List Nat} {fs : List (List Nat × Value)} {g N cap : Nat} (h : Sr w H sb mk outf wv (.slice (some ⟨g, 0, none⟩) N cap) fv n come num low ws (O1 ++ S) fs) (j : Nat) (hj : j < S.length) :
    w.cell? ⟨g, O1.length + j, none⟩ = some (.int .i64 ((S.getD j 0 : Nat) : Int)) := by
  have hr := h.opnR
  have h1 : (intsV (O1 ++ S))[O1.length + j]? = some (.int .i64 ((S.getD j 0 : Nat) : Int)) := by
    simp [intsV, List.getElem?_append_right, List.getD, hj]
  have := hr.cells (g := g) rfl (O1.length + j) _ h1
  rw [Addr.add_lit, Nat.zero_add] at this
  exact this

set_option maxHeartbeats 8000000 in
set_option maxRecDepth 100000 in
theorem close_is {Wb w : World} (hB : Below Wb.heap.size Wb w) {sb mk : Nat} {outf wv fv : Value} {n come : Nat} {num low : Nat → Nat} {ws : List Stp} {O1 S : List Nat} {fs : List (List Nat × Value)} {g N cap : Nat}
    (h : Sr w Wb.heap.size sb mk outf wv (.slice (some ⟨g, 0, none⟩) N cap) fv n come num low ws (O1 ++ S) fs) (hS : ∀ v ∈ S, v < n) (h0 : 0 < S.length) (hl : S.length ≤ 300) (hf : fs.length ≤ 300) (c' : Nat) (hc' : S.length ≤ c') :
    Calls Tryd.prog 71 #[.pointer (some ⟨sb, 0, none⟩), .slice (some ⟨g, O1.length, none⟩) S.length c'] w fun e w' => e = .returned (.tuple #[]) ∧ (∃ cv fv', Sr w' Wb.heap.size sb mk outf wv (.slice (some ⟨g, 0, none⟩) N cap) fv' n come (putN num S KK) (putN low S KK) ws (O1 ++ S) (fs ++ [(srt S, cv)])) ∧ Below Wb.heap.size Wb w' := by
  obtain ⟨iI, hiI, hzI⟩ := Option.map_eq_some_iff.1 Tryd.infoInts
  simp only [Prod.mk.injEq] at hzI
  obtain ⟨zI0, zI1, zI2⟩ := hzI
  have HII := hid hiI
  have HZ0 := hid zI0
  have HZ1 := hid zI1
  have HZ2 := hid zI2
  clear hiI zI0 zI1 zI2
  have hhi := h.high
  have HS := hid hS
  have S0 := hid h
  have B0 := hid hB
  have hli : (S.length : Int) ≤ 300 := by omega
  clear h hB hS
  go_enter Tryd.func71, Tryd.ntmps71
  go_wp2_with fail
  go_loopg [8] S.length (fun gg i wr => ∃ k : Nat, k ≤ S.length ∧ S.length - k ≤ gg ∧ i = .int .i64 k ∧ Aside (Sr wr Wb.heap.size sb mk outf wv (.slice (some ⟨g, 0, none⟩) N cap) fv n come (putN num (S.take k) KK) (putN low (S.take k) KK) ws (O1 ++ S) fs) ∧ Aside (Below Wb.heap.size Wb wr))
  case atStart => exact ⟨0, Nat.zero_le _, by omega, rfl, by show Sr _ _ _ _ _ _ _ _ _ _ _ _ _ _ _; rw [List.take_zero, putN_nil, putN_nil]; exact S0.out, B0.out⟩
  case round =>
    clear S0 B0
    obtain ⟨k, hk, hg, rfl, SX, BX⟩ := hrel
    by_cases hlt : k < S.length
    · have hlti : (k : Int) < S.length := by omega
      have hk0 : (0 : Int) ≤ k := by omega
      have cx := SX.out.openAt k hlt
      have hxn : S.getD k 0 < n := HS.out _ (by simp [List.getD, hlt])
      have hx : S.take (k + 1) = S.take k ++ [S.getD k 0] := by
        rw [List.take_succ_eq_append_getElem hlt]
        simp [List.getD, hlt]
      have HX := hid hx
      generalize S.getD k 0 = x at *
      clear hx
      obtain ⟨c0, c1, c2, c3, c4, c5⟩ := SX.out.cells
      obtain ⟨m0, m1, g0, g1⟩ := SX.out.marks.cell x hxn
      have hxi : (x : Int) < n := by omega
      have hx0 : (0 : Int) ≤ x := by omega
      have SN : Hid (Sr ((wr.setCell ⟨mk, x * 2, none⟩ (.int .i64 9223372036854775807)).setCell ⟨mk, x * 2 + 1, none⟩ (.int .i64 9223372036854775807)) Wb.heap.size sb mk outf wv (.slice (some ⟨g, 0, none⟩) N cap) fv n come (putN num (S.take (k + 1)) KK) (putN low (S.take (k + 1)) KK) ws (O1 ++ S) fs) := by
        have q1 := SX.out.mark (x * 2) (.int .i64 ((KK : Nat) : Int)) (SX.out.marks.num x KK hxn)
        have q2 := q1.mark (x * 2 + 1) (.int .i64 ((KK : Nat) : Int)) (q1.marks.low x KK hxn)
        rw [putN_snoc, putN_snoc, ← HX.out] at q2
        exact q2
      have BN : Hid (Below Wb.heap.size Wb ((wr.setCell ⟨mk, x * 2, none⟩ (.int .i64 9223372036854775807)).setCell ⟨mk, x * 2 + 1, none⟩ (.int .i64 9223372036854775807))) := (BX.out.setCell hhi.2 _).setCell hhi.2 _
      clear c0 c2 c3 c4 c5 SX BX
      go_wp2_with fail
      go_roundg (S.length - (k + 1))
      · exact ⟨k + 1, by omega, by omega, by go_num, SN.out, BN.out⟩
      · omega
    · have hlti : ¬ (k : Int) < S.length := by omega
      have hkk : k = S.length := by omega
      subst hkk
      have S1 : Hid (Sr wr Wb.heap.size sb mk outf wv (.slice (some ⟨g, 0, none⟩) N cap) fv n come (putN num S KK) (putN low S KK) ws (O1 ++ S) fs) := by
        have := SX.out
        rw [List.take_length] at this
        exact this
      clear SX
      obtain ⟨c0, c1, c2, c3, c4, c5⟩ := S1.out.cells
      have f5 := S1.out.fz 5
      clear c0 c1 c2 c3 c4
      have hsl : sb < wr.heap.size := blt S1.out.box
      have B2 : Hid (Below wr.heap.size wr (wr.alloc (.cells #[.slice (some ⟨g, O1.length, none⟩) S.length c'] 28)).drew) := (below_box wr _).drew
      have SO : Hid (Calls Tryd.prog 88 #[.func (.func 97) #[] #[.pointer (some ⟨wr.heap.size, 0, none⟩)]] (wr.alloc (.cells #[.slice (some ⟨g, O1.length, none⟩) S.length c'] 28)).drew fun e w' => (∃ v, e = .returned v ∧ Ints (wr.alloc (.cells #[.slice (some ⟨g, O1.length, none⟩) S.length c'] 28)).drew.heap.size w' v (srt S)) ∧ Below (wr.alloc (.cells #[.slice (some ⟨g, O1.length, none⟩) S.length c'] 28)).drew.heap.size (wr.alloc (.cells #[.slice (some ⟨g, O1.length, none⟩) S.length c'] 28)).drew w') :=
        sorted_is wr.heap.size _ S c' _ h0 (by omega) hc' (new_cells wr #[.slice (some ⟨g, O1.length, none⟩) S.length c'] 28 0) (by show wr.heap.size < (wr.alloc _).heap.size; simp) (fun j hj => by
          have := S1.out.openAt j hj
          have hgl : g < wr.heap.size := World.block_lt_of_cell? _ _ this
          exact ⟨g, O1.length, rfl, by show g < (wr.alloc _).heap.size; simp; omega, (B2.out.cell (p := ⟨g, O1.length + j, none⟩) hgl).trans this⟩)
      go_wp2_with fail
      go_region_law (first
        | (refine step_append_lies _ rfl (.tmp 24) (.tmp 28) 31 rfl Wb.heap.size 28 iI _ 1 24 Tryd.underlying31 HII.out HZ0.out HZ1.out HZ2.out rfl (by decide) fv fs.length (fs.map Prod.snd) (by simp [Act.eval, Act.put]) S7.out.fndR ⟨w6.heap.size, 0, none⟩ 1 1 [.slice va S.length vc] (by simp [Act.eval, Act.put]) rfl N7.out X7.out (by decide) (by unfold maxLen; omega) (by omega) Z7.out (w6.heap.size + 1) (by simp) ?_; intro g8 cap8 w8 hown8 hgrow8 hat8 hglt8; have G8 := hid (gro_of_grown hgrow8); have O8 := hid hown8; have c5'' : w8.cell? ⟨sb, 5, none⟩ = some fv := Lib.cell_of_heap (G8.out.at S7.out.box S7.out.apart.2.2.2.2.2.1) 5; have f5'' : w8.frozen? ⟨sb, 5, none⟩ = false := Lib.frozen_of_heap (G8.out.at S7.out.box S7.out.apart.2.2.2.2.2.1) 5; clear hown8 hgrow8 hat8 hglt8)
        | (rw [if_pos (by simp [Region.wanted])]; go_simp; refine (values_is _ _ _ _).mono ?_; rintro e w5 ⟨rfl, rfl⟩)
        | (rw [if_pos (by simp [Region.wanted])]; go_simp; refine SO.out.mono ?_; rintro e w6 ⟨⟨cv, rfl, i6⟩, b6⟩; obtain ⟨va, vc, hcv⟩ := i6.form; rw [srt_len] at hcv; subst hcv; have I6 := hid i6; have B6 : Hid (Below wr.heap.size wr w6) := (B2.out.trans (b6.mono B2.out.size)); have c5' : w6.cell? ⟨sb, 5, none⟩ = some fv := (S1.out.later B6.out).cells.2.2.2.2.2; have f5' : w6.frozen? ⟨sb, 5, none⟩ = false := (S1.out.later B6.out).fz 5; have S7 : Hid (Sr (w6.alloc (.cells #[.slice va S.length vc] 28)) Wb.heap.size sb mk outf wv (.slice (some ⟨g, 0, none⟩) N cap) fv n come (putN num S KK) (putN low S KK) ws (O1 ++ S) fs) := ((S1.out.later B6.out).later (below_box w6 _)); have B7 : Hid (Below Wb.heap.size Wb (w6.alloc (.cells #[.slice va S.length vc] 28))) := (BX.out.trans ((B6.out.trans ((below_box w6 _).mono B6.out.size)).mono BX.out.size)); have Z7 : Hid (Wb.heap.size ≤ (w6.alloc (.cells #[.slice va S.length vc] 28)).heap.size) := B7.out.size; have N7 : Hid (∀ j u, ([.slice va S.length vc] : List Value)[j]? = some u → (w6.alloc (.cells #[.slice va S.length vc] 28)).cell? ((⟨w6.heap.size, 0, none⟩ : Addr).add j) = some u) := (World.news_of_block (cs := #[.slice va S.length vc]) (t := 28) (fr := (0, 0)) (heap_alloc_new w6 _)); have P7 : Hid (Part (OffB Wb.heap.size (.slice (some ⟨g, 0, none⟩) N cap)) (w6.alloc (.cells #[.slice va S.length vc] 28)) (.slice va S.length vc) (natI (srt S))) := ((I6.out.later (below_box w6 _)).partOff (fun g7 hg7 => ⟨by have h1 := BX.out.size; have h2 := B2.out.size; omega, fun e => by have h2 := B2.out.size; obtain ⟨_, c, hc⟩ := own_tag S1.out.opnR e; have := blt hc; omega⟩)); have X7 : Hid (∀ u ∈ ([.slice va S.length vc] : List Value), u.oneCell' = true) := (by intro u hu; simp only [List.mem_cons, List.not_mem_nil, or_false] at hu; subst hu; rfl); have hl6 : sb < w6.heap.size := blt (S1.out.later B6.out).box; clear i6 b6))
      all_goals (try go_wp2_with fail)
      all_goals
        go_end0
        exact ⟨rfl, ⟨_, _, S7.out.pushFound (srt S) _ _ G8.out O8.out P7.out⟩, (B7.out.trans (G8.out.below Wb.heap.size (fun k hk => (own_tag S7.out.fndR hk).1) B7.out.size)).setCell hhi.1 _⟩
end Go.Proofs.YtjgmkigfpjmlaabDoor

/-
  The search for components: leave.
-/
namespace Go.Proofs.YtjgmkigfpjmlaabDoor
set_option linter.unusedVariables false
set_option linter.unusedSimpArgs false
open Go.RowKit

theorem Sr.lay {w : World} {H sb mk : Nat} {outf wv fv : Value} {n come : Nat} {num low : Nat → Nat} {ws : List Stp} {opn : List Nat} {fs : List (List Nat × Value)} {g N cap : Nat} (h : Sr w H sb mk outf wv (.slice (some ⟨g, 0, none⟩) N cap) fv n come num low ws opn fs) : N = opn.length ∧ opn.length ≤ cap ∧ cap ≤ maxLen ∧ Lay1 w g cap opn.length (fun j => ((opn.getD j 0 : Nat) : Int)) := by
  have hr := h.opnR
  rcases hr.2 with ⟨hv, _⟩ | ⟨g', cap', cur, hv, hB, hh, h1, h2, h3, h4⟩
  · cases hv
  injection hv with e1 e2 e3
  injection e1 with e1
  injection e1 with e1
  subst e1
  subst e3
  refine ⟨e2, h1, h2, cur, hh, ⟨by omega, h1⟩, fun j hj => ?_⟩
  have e : cur.toList[j]? = (cur.toList.take (opn.length * 1))[j]? := by rw [List.getElem?_take, if_pos (by omega)]
  rw [← Array.getElem?_toList, e, h4]
  simp [intsV, List.getElem?_map, List.getD, hj]

set_option maxHeartbeats 8000000 in
set_option maxRecDepth 100000 in
theorem leave_stay {Wb w : World} (hB : Below Wb.heap.size Wb w) {sb mk : Nat} {outf ov fv : Value} {n come : Nat} {num low : Nat → Nat} {A : List Stp} {p : Stp} {opn : List Nat} {fs : List (List Nat × Value)} {gw cw : Nat}
    (h : Sr w Wb.heap.size sb mk outf (.slice (some ⟨gw, 0, none⟩) (A.length + 1) cw) ov fv n come num low (A ++ [p]) opn fs) (u : Nat) (hu : u < n) (hl : low u < num u) (hcw : A.length + 1 ≤ cw) (hcm : cw ≤ maxLen) :
    Calls Tryd.prog 60 #[.pointer (some ⟨sb, 0, none⟩), .int .i64 u] w fun e w' => e = .returned (.tuple #[]) ∧ Sr w' Wb.heap.size sb mk outf (.slice (some ⟨gw, 0, none⟩) A.length cw) ov fv n come num low A opn fs ∧ Below Wb.heap.size Wb w' := by
  have S1 : Hid (Sr (w.setCell ⟨sb, 3, none⟩ (.slice (some ⟨gw, 0, none⟩) A.length cw)).drew Wb.heap.size sb mk outf (.slice (some ⟨gw, 0, none⟩) A.length cw) ov fv n come num low A opn fs) := h.cutWay.later (Below.refl _ _).drew
  have B1 : Hid (Below Wb.heap.size Wb (w.setCell ⟨sb, 3, none⟩ (.slice (some ⟨gw, 0, none⟩) A.length cw)).drew) := (hB.setCell h.high.1 _).drew
  obtain ⟨c0, c1, c2, c3, c4, c5⟩ := h.cells
  have f3 := h.fz 3
  clear c0 c1 c2 c4 c5 h hB
  unfold maxLen at hcm
  generalize A.length = N at *
  have hN0 : (0 : Int) ≤ N := by omega
  have hNc : (N : Int) ≤ cw := by omega
  have hNc2 : (N : Int) + 1 ≤ cw := by omega
  have hcw2 : (cw : Int) ≤ 9223372036854775807 := by omega
  have hN1 : ((N : Int) + 1 - 1) = N := by omega
  have hui : (u : Int) < n := by omega
  have hu0 : (0 : Int) ≤ u := by omega
  have hli : (low u : Int) < num u := by omega
  go_enter Tryd.func60, Tryd.ntmps60
  go_wp2_with fail
  go_region
  clear c3 f3
  generalize (w.setCell ⟨sb, 3, none⟩ (.slice (some ⟨gw, 0, none⟩) N cw)).drew = w1 at *
  obtain ⟨c0, c1, c2, c3, c4, c5⟩ := S1.out.cells
  obtain ⟨m0, m1, _, _⟩ := S1.out.marks.cell u hu
  clear c0 c2 c3 c4 c5
  generalize low u = a at *
  generalize num u = b at *
  go_wp2_with fail
  go_quiet (fail)
  go_wp2_with fail
  (try simp only [Exit.inBlock, Exit.then])
  refine bodyPost_ret (results_none rfl _ _ _) rfl ?_
  exact ⟨rfl, S1.out.later (below_drewN (Below.refl _ _) _), below_drewN B1.out _⟩
theorem index_of {O1 O2 : List Nat} {u : Nat} {r : Int} (hu : u ∉ O1) (h : IsIndex (O1 ++ u :: O2).length (fun j => (((O1 ++ u :: O2).getD j 0 : Nat) : Int)) (u : Int) r) : r = (O1.length : Int) := by
  have hat : (O1 ++ u :: O2).getD O1.length 0 = u := by simp [List.getD]
  rcases h with ⟨k, rfl, hk, h1, h2⟩ | ⟨rfl, h1⟩
  · rcases Nat.lt_trichotomy k O1.length with c | c | c
    · exfalso
      apply hu
      have e : (O1 ++ u :: O2).getD k 0 = O1[k] := by simp [List.getD, List.getElem?_append_left c, List.getElem?_eq_getElem c]
      have h1' : (((O1 ++ u :: O2).getD k 0 : Nat) : Int) = u := h1
      rw [e] at h1'
      have : O1[k] = u := by omega
      rw [← this]
      exact List.getElem_mem c
    · rw [c]
    · exact absurd (by show (((O1 ++ u :: O2).getD O1.length 0 : Nat) : Int) = (u : Int); rw [hat]) (h2 O1.length c)
  · exact absurd (by show (((O1 ++ u :: O2).getD O1.length 0 : Nat) : Int) = (u : Int); rw [hat]) (h1 O1.length (by simp))

set_option maxHeartbeats 8000000 in
set_option maxRecDepth 100000 in
theorem leave_close {Wb w : World} (hB : Below Wb.heap.size Wb w) {sb mk : Nat} {outf fv : Value} {n come : Nat} {num low : Nat → Nat} {A : List Stp} {p : Stp} {O1 O2 : List Nat} {fs : List (List Nat × Value)} {gw cw g N cap : Nat} (u : Nat)
    (h : Sr w Wb.heap.size sb mk outf (.slice (some ⟨gw, 0, none⟩) (A.length + 1) cw) (.slice (some ⟨g, 0, none⟩) N cap) fv n come num low (A ++ [p]) (O1 ++ u :: O2) fs) (hu : u < n) (hl : ¬ low u < num u) (hcw : A.length + 1 ≤ cw) (hcm : cw ≤ maxLen) (hO : u ∉ O1) (hS : ∀ v ∈ u :: O2, v < n) (hlen : (O1 ++ u :: O2).length ≤ 300) (hf : fs.length ≤ 300) :
    Calls Tryd.prog 60 #[.pointer (some ⟨sb, 0, none⟩), .int .i64 u] w fun e w' => e = .returned (.tuple #[]) ∧ (∃ cv fv', Sr w' Wb.heap.size sb mk outf (.slice (some ⟨gw, 0, none⟩) A.length cw) (.slice (some ⟨g, 0, none⟩) O1.length cap) fv' n come (putN num (u :: O2) KK) (putN low (u :: O2) KK) A O1 (fs ++ [(srt (u :: O2), cv)])) ∧ Below Wb.heap.size Wb w' := by
  have S1 : Hid (Sr (w.setCell ⟨sb, 3, none⟩ (.slice (some ⟨gw, 0, none⟩) A.length cw)).drew Wb.heap.size sb mk outf (.slice (some ⟨gw, 0, none⟩) A.length cw) (.slice (some ⟨g, 0, none⟩) N cap) fv n come num low A (O1 ++ u :: O2) fs) := h.cutWay.later (Below.refl _ _).drew
  have B1 : Hid (Below Wb.heap.size Wb (w.setCell ⟨sb, 3, none⟩ (.slice (some ⟨gw, 0, none⟩) A.length cw)).drew) := (hB.setCell h.high.1 _).drew
  obtain ⟨c0, c1, c2, c3, c4, c5⟩ := h.cells
  have f3 := h.fz 3
  have hhi := h.high
  obtain ⟨hNl, hcap, hcapm, _⟩ := h.lay
  clear c0 c1 c2 c4 c5 h hB
  unfold maxLen at hcm hcapm
  generalize hAL : A.length = M at *
  have HAL := hid hAL
  clear hAL
  have hN0 : (0 : Int) ≤ M := by omega
  have hNc : (M : Int) ≤ cw := by omega
  have hNc2 : (M : Int) + 1 ≤ cw := by omega
  have hcw2 : (cw : Int) ≤ 9223372036854775807 := by omega
  have hN1 : ((M : Int) + 1 - 1) = M := by omega
  have hui : (u : Int) < n := by omega
  have hu0 : (0 : Int) ≤ u := by omega
  have hli : ¬ (low u : Int) < num u := by omega
  have HS := hid hS
  have HO := hid hO
  rw [List.length_append, List.length_cons] at hNl hlen hcap
  clear hS hO
  go_enter Tryd.func60, Tryd.ntmps60
  go_wp2_with fail
  go_region
  clear c3 f3
  generalize (w.setCell ⟨sb, 3, none⟩ (.slice (some ⟨gw, 0, none⟩) M cw)).drew = w1 at *
  obtain ⟨c0, c1, c2, c3, c4, c5⟩ := S1.out.cells
  obtain ⟨m0, m1, _, _⟩ := S1.out.marks.cell u hu
  clear c0 c2 c3 c4 c5
  generalize low u = a at *
  generalize num u = b at *
  go_wp2_with fail
  go_quiet (fail)
  clear m0 m1 c1 hl
  have S2 := fun q => S1.out.later (below_drewN (Below.refl _ w1) q)
  have B2 := fun q => below_drewN B1.out q
  have HS2 := hid S2
  have HB2 := hid B2
  clear S2 B2 S1 B1
  generalize hw2 : w1.drewN nq = w2 at *
  have S3 : Hid (Sr w2 Wb.heap.size sb mk outf (.slice (some ⟨gw, 0, none⟩) M cw) (.slice (some ⟨g, 0, none⟩) N cap) fv n come num low A (O1 ++ u :: O2) fs) := by rw [← hw2]; exact HS2.out nq
  have B3 : Hid (Below Wb.heap.size Wb w2) := by rw [← hw2]; exact HB2.out nq
  clear hw2 HS2 HB2
  obtain ⟨c0, c1, c2, c3, c4, c5⟩ := S3.out.cells
  have f4 := S3.out.fz 4
  have IX := hid (index_is g cap (O1 ++ u :: O2).length cap _ (u : Int) w2 S3.out.lay.2.2.2 (by rw [List.length_append, List.length_cons]; omega))
  have HL : Hid ((O1 ++ u :: O2).length = N) := by show (O1 ++ u :: O2).length = N; rw [List.length_append, List.length_cons]; omega
  have IX2 : Hid (Calls Tryd.prog 34 #[.slice (some ⟨g, 0, none⟩) N cap, .int .i64 u] w2 fun e w' => e = .returned (.int .i64 ((O1.length : Nat) : Int)) ∧ w2 = w') := by
    have q := IX.out
    rw [HL.out] at q
    refine q.mono ?_
    rintro e w' ⟨⟨ri, rfl, hix⟩, rfl⟩
    rw [← HL.out] at hix
    rw [index_of HO.out hix]
    exact ⟨rfl, rfl⟩
  obtain ⟨K1, hK1⟩ : ∃ K1, O1.length = K1 := ⟨_, rfl⟩
  have HK1 := hid hK1
  rw [hK1] at IX2 hNl hlen hcap
  have hKi0 : (0 : Int) ≤ K1 := by omega
  have hKiN : (K1 : Int) ≤ N := by omega
  have hKic : (K1 : Int) ≤ cap := by omega
  have hNic : (N : Int) ≤ cap := by omega
  have hcapi : (cap : Int) ≤ 9223372036854775807 := by omega
  have hne : ¬ cap = K1 := by omega
  have hne2 : ¬ (cap - K1 = 0) := by omega
  have hne3 : K1 < cap := by omega
  have hNb : (N : Int) ≤ 300 := by omega
  have HNL := hid hNl
  clear hK1 hNl IX c0 c1 c2 c3 c5 hlen hcap
  go_wp2_with fail
  go_at_call 34
  refine IX2.out.mono ?_
  rintro e w' ⟨rfl, rfl⟩
  clear IX2
  have hlS : (u :: O2).length = N - K1 := by have := HNL.out; rw [List.length_cons]; omega
  have CL : Hid (Calls Tryd.prog 71 #[.pointer (some ⟨sb, 0, none⟩), .slice (some ⟨g, K1, none⟩) (N - K1) (cap - K1)] w2 fun e w' => e = .returned (.tuple #[]) ∧ (∃ cv fv', Sr w' Wb.heap.size sb mk outf (.slice (some ⟨gw, 0, none⟩) M cw) (.slice (some ⟨g, 0, none⟩) N cap) fv' n come (putN num (u :: O2) KK) (putN low (u :: O2) KK) A (O1 ++ u :: O2) (fs ++ [(srt (u :: O2), cv)])) ∧ Below Wb.heap.size Wb w') := by
    have q := close_is B3.out S3.out HS.out (by simp) (by rw [hlS]; omega) hf (cap - K1) (by rw [hlS]; omega)
    rw [hlS, HK1.out] at q
    exact q
  have HLS := hid hlS
  clear hlS B3 S3
  go_wp2_with fail
  go_at_call 71
  refine CL.out.mono ?_
  rintro e w3 ⟨rfl, ⟨cv, fv', s3⟩, b3⟩
  clear c4 f4
  obtain ⟨c0, c1, c2, c3, c4, c5⟩ := s3.cells
  have f4 := s3.fz 4
  have S4 : Hid (Sr (w3.setCell ⟨sb, 4, none⟩ (.slice (some ⟨g, 0, none⟩) K1 cap)) Wb.heap.size sb mk outf (.slice (some ⟨gw, 0, none⟩) M cw) (.slice (some ⟨g, 0, none⟩) K1 cap) fv' n come (putN num (u :: O2) KK) (putN low (u :: O2) KK) A O1 (fs ++ [(srt (u :: O2), cv)])) := by
    have q := s3.cutOpen (by have := HNL.out; rw [HLS.out, HK1.out]; omega) (by have := HNL.out; omega)
    rw [HK1.out] at q
    exact q
  have B4 : Hid (Below Wb.heap.size Wb (w3.setCell ⟨sb, 4, none⟩ (.slice (some ⟨g, 0, none⟩) K1 cap))) := b3.setCell hhi.1 _
  clear c0 c1 c2 c3 c5 s3 b3 CL
  go_wp2_with fail
  go_end0
  refine ⟨rfl, ⟨cv, fv', ?_⟩, B4.out⟩
  rw [HK1.out]
  exact S4.out
end Go.Proofs.YtjgmkigfpjmlaabDoor
