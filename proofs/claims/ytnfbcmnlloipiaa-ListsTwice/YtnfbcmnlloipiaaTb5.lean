/-
  The walk of New.
-/
import Derived.Test.YtnfbcmnlloipiaaTb4
namespace Go.Proofs.Ytnfbcmnlloipiaa
set_option linter.unusedVariables false
set_option linter.unusedSimpArgs false
open Go.RowKit Go.Lib Go.Maps Go.Sort
open Tx (MTxn info_parts flatten_len flatten_get RowsIn.cells RowCells TxnRow TxnsIn setCell_self cloneInts_any OpsOwn)

/-- The four new blocks of a table without transactions noted. -/
theorem nw_start {S : Nat → Prop} {B : Nat} {w w1 : World} {l : List MTxn} {v1 : Value} {g : Nat} (hB : B ≤ w1.heap.size) (hr : ∀ j, j < l.length → ∃ ov, (∀ i u, ([.int .i64 (l.getD j default).proc, .int .i64 (l.getD j default).state, .int .i64 (l.getD j default).since, .int .i64 (l.getD j default).till, ov] : List Value)[i]? = some u → w1.cell? ⟨g, j * 5 + i, none⟩ = some u) ∧ OpsIn (fun b => S b ∧ b < B) w1 ov (l.getD j default).ops) (hg : 0 < l.length → B ≤ g ∧ g < w1.heap.size ∧ ∀ o, w1.frozen? ⟨g, o, none⟩ = false) :
    Nw S B g (w1.heap.size + 3) w1.heap.size (w1.heap.size + 1) (w1.heap.size + 2) v1 (fun b => w1.heap.size ≤ b ∧ b < w1.heap.size + 4) (fun b => b = g ∧ 0 < l.length) ((((w1.alloc (.map #[] 0)).alloc (.map #[] 0)).alloc (.map #[] 0)).alloc (.cells #[v1, .slice none 0 0, .map (some w1.heap.size), .map (some (w1.heap.size + 1)), .map (some (w1.heap.size + 2)), .bool true] 64)) 0 true [] l 0 := by
  obtain ⟨W, hW⟩ : ∃ W, ((((w1.alloc (.map #[] 0)).alloc (.map #[] 0)).alloc (.map #[] 0)).alloc (.cells #[v1, .slice none 0 0, .map (some w1.heap.size), .map (some (w1.heap.size + 1)), .map (some (w1.heap.size + 2)), .bool true] 64)) = W := ⟨_, rfl⟩
  have z1 := alloc_size w1 (.map #[] 0)
  have z2 := alloc_size (w1.alloc (.map #[] 0)) (.map #[] 0)
  have z3 := alloc_size ((w1.alloc (.map #[] 0)).alloc (.map #[] 0)) (.map #[] 0)
  have z4 := alloc_size (((w1.alloc (.map #[] 0)).alloc (.map #[] 0)).alloc (.map #[] 0)) (.cells #[v1, .slice none 0 0, .map (some w1.heap.size), .map (some (w1.heap.size + 1)), .map (some (w1.heap.size + 2)), .bool true] 64)
  have hs : W.heap.size = w1.heap.size + 4 := by rw [← hW]; omega
  have m0 : MapV W Try.prog 9 w1.heap.size 0 (fun _ => none) := (MapV.made w1 Try.prog 9).same (by rw [← hW, alloc_at, if_neg (by omega), alloc_at, if_neg (by omega), alloc_at, if_neg (by omega)])
  have m1 : MapV W Try.prog 107 (w1.heap.size + 1) 0 (fun _ => none) := by
    have h := MapV.made (w1.alloc (.map #[] 0)) Try.prog 107
    rw [z1] at h
    exact h.same (by rw [← hW, alloc_at, if_neg (by omega), alloc_at, if_neg (by omega)])
  have m2 : MapV W Try.prog 114 (w1.heap.size + 2) 0 (fun _ => none) := by
    have h := MapV.made ((w1.alloc (.map #[] 0)).alloc (.map #[] 0)) Try.prog 114
    rw [z2, z1] at h
    exact h.same (by rw [← hW, alloc_at, if_neg (by omega)])
  have hb : Below w1.heap.size w1 W := by rw [← hW]; exact (((below_box w1 _).alloc (by omega) _).alloc (by omega) _).alloc (by omega) _
  have hbox : W.heap[w1.heap.size + 3]? = some (.cells #[v1, .slice none 0 0, .map (some w1.heap.size), .map (some (w1.heap.size + 1)), .map (some (w1.heap.size + 2)), .bool true] 64) := by rw [← hW, alloc_at, if_pos (by omega)]
  rw [hW]
  refine ⟨⟨hbox, by omega, by omega, by omega, ⟨by omega, by omega⟩, ⟨by omega, by omega⟩, ⟨by omega, by omega⟩, ⟨by omega, by omega⟩, fun b hb2 => ⟨by omega, by omega⟩, ⟨_, m0, fun s => by simp [kindN]⟩, ⟨fun _ _ => .slice none 0 0, ⟨_, m1, fun s v => by simp [writersN]⟩, fun _ _ _ => rfl, fun s v => World.ownsRow_nil _ _ _ _, fun s v g hg => by simp [Value.ownBlock] at hg, fun _ _ _ _ g hg => by simp [Value.ownBlock] at hg⟩, ⟨_, m2, fun t s => by simp [lastN]⟩⟩, ⟨fun _ s v => by simp [writersN], fun _ => rfl⟩, fun h0 => ⟨rfl, h0⟩, fun b hb2 => ?_, fun h0 o => ?_, fun j hj => ?_⟩
  · obtain ⟨rfl, h0⟩ := hb2
    obtain ⟨q1, q2, _⟩ := hg h0
    exact ⟨q1, by omega, fun c => by have := c.1; omega⟩
  · obtain ⟨_, q2, q3⟩ := hg h0
    exact (hb.frozen (p := ⟨g, o, none⟩) q2).trans (q3 o)
  · obtain ⟨ov, h1, h2⟩ := hr j hj
    obtain ⟨_, q2, _⟩ := hg (by omega)
    exact ⟨ov, fun i u hi => (hb.cell (p := ⟨g, j * 5 + i, none⟩) q2).trans (h1 i u hi), h2.keep (keeps_below hb) (fun b _ hb2 => by rw [if_neg (Nat.not_lt_zero _)]; exact hb2)⟩
/-- The rows that a clone of transactions laid. -/
theorem clone_rows {S : Nat → Prop} {w w1 : World} {v1 : Value} {l : List MTxn} (h : Rows1 5 47 (TxnRow S w) w.heap.size w1 v1 l) (hb : Below w.heap.size w w1) :
    ∃ g ao c, v1 = .slice ao l.length c ∧ l.length ≤ c ∧ (0 < l.length → ao = some ⟨g, 0, none⟩) ∧ (0 < l.length → w.heap.size ≤ g ∧ g < w1.heap.size ∧ ∀ o, w1.frozen? ⟨g, o, none⟩ = false) ∧ ∀ j, j < l.length → ∃ ov, (∀ i u, ([.int .i64 (l.getD j default).proc, .int .i64 (l.getD j default).state, .int .i64 (l.getD j default).since, .int .i64 (l.getD j default).till, ov] : List Value)[i]? = some u → w1.cell? ⟨g, j * 5 + i, none⟩ = some u) ∧ OpsIn (fun b => S b ∧ b < w.heap.size) w1 ov (l.getD j default).ops := by
  by_cases h0 : 0 < l.length
  · obtain ⟨g, c, hv, hc, hB, hgl, ⟨cs0, hg0⟩, hrow⟩ := h.cell h0
    refine ⟨g, _, c, hv, hc, fun _ => rfl, fun _ => ⟨hB, hgl, fun o => Lib.frozen_of_heap hg0 o⟩, fun j hj => ?_⟩
    obtain ⟨cs, e1, ⟨ov, e2, e3⟩, e4⟩ := hrow j hj
    subst e2
    exact ⟨ov, e4, (e3.keep (T := fun b => S b ∧ b < w.heap.size) (fun _ _ _ => rfl) (fun b hb2 hs => ⟨hs, hb2⟩)).keep (keeps_below hb) (fun _ _ h => h)⟩
  · obtain ⟨rows, _, _, _, h4⟩ := h
    obtain ⟨a, c, hv⟩ := own_slice h4
    exact ⟨0, a, c, hv, by omega, fun c => absurd c h0, fun c => absurd c h0, fun j hj => by omega⟩
set_option maxHeartbeats 8000000 in
set_option maxRecDepth 100000 in
theorem tnew_is {S : Nat → Prop} (w : World) (v : Value) (l : List MTxn) (h : TxnsIn S w v l) (hl : l.length ≤ 1000) (hten : ∀ t ∈ l, t.ops.length ≤ 10) (hok : ∀ t ∈ l, ∀ o ∈ t.ops, OpOk o) :
    Calls Try.prog 10 #[v] w fun e w' => ∃ tb, e = .returned (.pointer (some ⟨tb, 0, none⟩)) ∧ Made w.heap.size w' tb l ∧ Below w.heap.size w w' := by
  have CL := hid (cloneT_any (α := MTxn) v l w h txnRow_one)
  have hmm := @run_makeMap Try.prog
  have HOK := hid hok
  have HTEN := hid hten
  have hli : (l.length : Int) ≤ 1000 := by omega
  clear h hok hten
  go_enter Try.func10, Try.ntmps10
  go_wp2_with (go_at_call 26; refine CL.out.mono ?_; rintro e w1 ⟨v1, rfl, h1, b1⟩; obtain ⟨g, ao, c, rfl, hc, ha, hg, hr⟩ := clone_rows h1 b1; have HA := hid ha; have HG := hid hg; have HR := hid hr; have B1 := hid b1; clear h1 ha hg hr b1 CL)
  have N0 := hid (nw_start (S := S) (w := w) (v1 := .slice ao l.length c) B1.out.size HR.out HG.out)
  have hsz1 := B1.out.size
  have B2 : Hid (Below w.heap.size w ((((w1.alloc (.map #[] 0)).alloc (.map #[] 0)).alloc (.map #[] 0)).alloc (.cells #[.slice ao l.length c, .slice none 0 0, .map (some w1.heap.size), .map (some (w1.heap.size + 1)), .map (some (w1.heap.size + 2)), .bool true] 64))) := (((B1.out.alloc (by omega) _).alloc (by rw [alloc_size]; omega) _).alloc (by rw [alloc_size, alloc_size]; omega) _).alloc (by rw [alloc_size, alloc_size, alloc_size]; omega) _
  clear hmm HG HR B1
  generalize w1.heap.size = q at *
  generalize ((((w1.alloc (.map #[] 0)).alloc (.map #[] 0)).alloc (.map #[] 0)).alloc (.cells #[.slice ao l.length c, .slice none 0 0, .map (some q), .map (some (q + 1)), .map (some (q + 2)), .bool true] 64)) = W0 at *
  go_loopg [4, 5, 6, 7, 20] l.length (fun gg _ _ _ _ i wr => ∃ k : Nat, k ≤ l.length ∧ l.length - k ≤ gg ∧ i = .int .i64 k ∧ Aside (Below w.heap.size w wr) ∧ Aside (∃ F D m u, m ≤ 3 * (notes l k).length ∧ Nw S w.heap.size g (q + 3) q (q + 1) (q + 2) (.slice ao l.length c) F D wr m u (notes l k) l k))
  case atStart => exact ⟨0, Nat.zero_le _, by omega, rfl, B2.out, ⟨_, _, 0, true, Nat.zero_le _, N0.out⟩⟩
  case round =>
    clear N0 B2
    obtain ⟨k, hk, hgk, rfl, BR, NR⟩ := hrel
    by_cases hlt : k < l.length
    · have hlti : (k : Int) < l.length := by omega
      have hao := HA.out (by omega)
      subst hao
      obtain ⟨F, D, m, u, hm, hN⟩ := NR.out
      obtain ⟨c0, _⟩ := hN.tab.c
      obtain ⟨ov, hrow, hops⟩ := hN.row k hlt
      have c4 := hrow 4 _ rfl
      have hgl : g < wr.heap.size := (hN.dlt g (hN.dg (by omega))).2.1
      have FR := hid (hN.fz (by omega))
      have HN := hid hN
      have hmem : l.getD k default ∈ l := by simp [List.getD, List.getElem?_eq_getElem hlt]
      have CP := hid (copy_is ov (l.getD k default).ops wr hops (fun o ho => (HOK.out _ hmem o ho).1))
      obtain ⟨oa, oc, hov, _⟩ := id hops
      subst hov
      have hten : (l.getD k default).ops.length ≤ 10 := HTEN.out _ hmem
      have HOT := hid (HOK.out _ hmem)
      have hNl := notes_len l HTEN.out k
      have HNT : Hid (notes l (k + 1) = notes l k ++ notesT k (l.getD k default).ops) := rfl
      generalize hTo : (l.getD k default).ops = T at *
      have HTO := hid hTo
      have hwl : w.heap.size ≤ wr.heap.size := BR.out.size
      clear hN hrow hops NR hTo hmem
      go_wp2_with (go_at_call 30; refine CP.out.mono ?_; rintro e w2 ⟨v2, rfl, h2, b2⟩; obtain ⟨na, nc, rfl, hn2⟩ := id h2; have d4 := (b2.cell (p := ⟨g, k * 5 + 4, none⟩) hgl).trans c4; have f4 : w2.frozen? ⟨g, k * 5 + 4, none⟩ = false := (b2.frozen (p := ⟨g, k * 5 + 4, none⟩) hgl).trans (FR.out _); have N2 : Hid (Nw S w.heap.size g (q + 3) q (q + 1) (q + 2) (.slice (some ⟨g, 0, none⟩) l.length c) F (fun b => D b ∨ (wr.heap.size ≤ b ∧ b < w2.heap.size)) (w2.setCell ⟨g, k * 5 + 4, none⟩ (.slice na T.length nc)) m u (notes l k) l (k + 1)) := HN.out.copied hwl hlt b2 (by rw [show (l.getD k default).ops = T from HTO.out]; exact h2); have B3 : Hid (Below w.heap.size w (w2.setCell ⟨g, k * 5 + 4, none⟩ (.slice na T.length nc))) := (BR.out.trans (b2.mono BR.out.size)).setCell (HN.out.dlt g (HN.out.dg (by omega))).1 _; have C3 : Hid ((w2.setCell ⟨g, k * 5 + 4, none⟩ (.slice na T.length nc)).cell? ⟨g, k * 5 + 4, none⟩ = some (.slice na T.length nc)) := World.cell?_setCell_same _ _ _ d4; clear h2 b2 hn2 CP)
      clear c4 FR HN d4 f4 c0
      generalize w2.setCell ⟨g, k * 5 + 4, none⟩ (.slice na T.length nc) = W3 at *
      have hTi : (T.length : Int) ≤ 10 := by omega
      go_loopg [6, 7, 42] T.length (fun gg _ _ i wi => ∃ j : Nat, j ≤ T.length ∧ T.length - j ≤ gg ∧ i = .int .i64 j ∧ Aside (Below w.heap.size w wi) ∧ Aside (wi.cell? ⟨g, k * 5 + 4, none⟩ = some (.slice na T.length nc)) ∧ Aside (∃ F D m u, m ≤ 3 * ((notes l k).length + j) ∧ Nw S w.heap.size g (q + 3) q (q + 1) (q + 2) (.slice (some ⟨g, 0, none⟩) l.length c) F D wi m u (notes l k ++ (notesT k T).take j) l (k + 1)))
      case atStart => exact ⟨0, Nat.zero_le _, by omega, rfl, B3.out, C3.out, ⟨_, _, m, u, by omega, (by rw [List.take_zero, List.append_nil]; exact N2.out)⟩⟩
      case round =>
        clear N2 B3 C3 hgl
        obtain ⟨j, hj, hgj, rfl, BJ, CJ, NJ⟩ := hrel
        by_cases hjl : j < T.length
        · have hjli : (j : Int) < T.length := by omega
          obtain ⟨F, D, m, u, hm, hN⟩ := NJ.out
          obtain ⟨ov, hrow, hops⟩ := hN.row k hlt
          have e4 : ov = .slice na T.length nc := by
            have := (hrow 4 _ rfl).symm.trans CJ.out
            injection this
          subst e4
          rw [show (l.getD k default).ops = T from HTO.out] at hops
          obtain ⟨oa2, oc2, hoe, _, hcells⟩ := hops
          obtain ⟨ob, oo, hob, _, hcs⟩ := hcells (by omega)
          obtain ⟨cs, _, ⟨lv, hcse, hli2⟩, hcell⟩ := hcs j hjl
          have e5 : na = oa2 := by injection hoe
          subst e5
          subst hob
          subst hcse
          obtain ⟨la, lc, rfl, _⟩ := id hli2
          have x0 := hcell 0 _ rfl
          have x1 := hcell 1 _ rfl
          have x2 := hcell 2 _ rfl
          have x3 := hcell 3 _ rfl
          have x4 := hcell 4 _ rfl
          have x5 := hcell 5 _ rfl
          rw [Nat.add_zero] at x0
          have hmem2 : T.getD j default ∈ T := by simp [List.getD, List.getElem?_eq_getElem hjl]
          have hOP := HOT.out _ hmem2
          have hTK : (notesT k T).take (j + 1) = (notesT k T).take j ++ [(k, j, T.getD j default)] := notesT_take k T j hjl
          have hNlen : (notes l k ++ (notesT k T).take j).length ≤ 100000 := by
            rw [List.length_append, List.length_take, notesT_len]
            omega
          obtain ⟨O, hO⟩ : ∃ O, T.getD j default = O := ⟨_, rfl⟩
          rw [hO] at x0 x1 x2 x3 x4 x5 hOP hTK
          obtain ⟨ok, os, ovv, ol, oh, on⟩ := O
          simp only [MOp.kind, MOp.key, MOp.value, MOp.list, MOp.has, MOp.nl] at x0 x1 x2 x3 x4 x5
          have NB : Hid (Nw S w.heap.size g (q + 3) q (q + 1) (q + 2) (.slice (some ⟨g, 0, none⟩) l.length c) F D (wr.alloc (.cells #[.int .i64 ok, .string os, .int .i64 ovv, .slice la ol.length lc, .bool oh, .bool on] 49)) m u (notes l k ++ (notesT k T).take j) l (k + 1)) := hN.later (below_box wr _)
          have NT := hid (note_is w.heap.size (wr.alloc (.cells #[.int .i64 ok, .string os, .int .i64 ovv, .slice la ol.length lc, .bool oh, .bool on] 49)) (q + 3) q (q + 1) (q + 2) _ _ F m u (notes l k ++ (notesT k T).take j) (k, j, (ok, os, ovv, ol, oh, on)) la lc NB.out.tab NB.out.uq (Nat.le_trans hOP.1 (by decide)) hOP.2 (by omega) hNlen (by unfold maxLen; omega) (by have := BJ.out.size; rw [alloc_size]; omega))
          simp only [opV, MOp.kind, MOp.key, MOp.value, MOp.list, MOp.has, MOp.nl] at NT
          have HTK := hid hTK
          have hwrs : w.heap.size ≤ wr.heap.size := BJ.out.size
          have HM := hid hm
          have CB : Hid ((wr.alloc (.cells #[.int .i64 ok, .string os, .int .i64 ovv, .slice la ol.length lc, .bool oh, .bool on] 49)).cell? ⟨g, k * 5 + 4, none⟩ = some (.slice (some ⟨ob, oo, none⟩) T.length nc)) := Lib.cell?_alloc_some _ CJ.out
          have BB : Hid (Below w.heap.size w (wr.alloc (.cells #[.int .i64 ok, .string os, .int .i64 ovv, .slice la ol.length lc, .bool oh, .bool on] 49))) := BJ.out.trans ((below_box wr _).mono hwrs)
          clear hN hrow hoe hcells hcs hcell hli2 hO hTK hOP hmem2 hNlen hm NJ
          go_wp2_with fail
          go_at_call 31
          refine NT.out.mono ?_
          rintro e w5 hp
          obtain ⟨rfl, _, G5⟩ := id hp
          obtain ⟨u', N5'⟩ := NB.out.noted hp
          have N5 : Hid (∃ F D m u, m ≤ 3 * ((notes l k).length + (j + 1)) ∧ Nw S w.heap.size g (q + 3) q (q + 1) (q + 2) (.slice (some ⟨g, 0, none⟩) l.length c) F D w5 m u (notes l k ++ (notesT k T).take (j + 1)) l (k + 1)) := ⟨_, _, m + 3, u', by have := HM.out; omega, by rw [HTK.out, ← List.append_assoc]; exact N5'⟩
          have C5 : Hid (w5.cell? ⟨g, k * 5 + 4, none⟩ = some (.slice (some ⟨ob, oo, none⟩) T.length nc)) := (World.cell?_of_block (a := ⟨g, k * 5 + 4, none⟩) (G5.block g (NB.out.dlt g (NB.out.dg (by omega))).2.1 (NB.out.dlt g (NB.out.dg (by omega))).2.2)).trans CB.out
          have B5 : Hid (Below w.heap.size w w5) := BB.out.trans (G5.below BB.out.size (fun i hi c => by have := (NB.out.low c).1; omega))
          clear hp G5 N5'
          go_wp2_with fail
          go_roundg (T.length - (j + 1))
          case measure => omega
          case rel => exact ⟨j + 1, by omega, by omega, by go_num, B5.out, C5.out, N5.out⟩
        · have N6 : Hid (∃ F D m u, m ≤ 3 * (notes l (k + 1)).length ∧ Nw S w.heap.size g (q + 3) q (q + 1) (q + 2) (.slice (some ⟨g, 0, none⟩) l.length c) F D wr m u (notes l (k + 1)) l (k + 1)) := by
            obtain ⟨F, D, m, u, hm, hN⟩ := NJ.out
            have hje : j = T.length := by omega
            rw [hje, List.take_of_length_le (by rw [notesT_len]; exact Nat.le_refl _)] at hN
            refine ⟨F, D, m, u, ?_, ?_⟩
            · rw [HNT.out, List.length_append, notesT_len]
              omega
            · rw [HNT.out]
              exact hN
          go_wp2_with fail
          go_roundg (l.length - (k + 1))
          case measure => omega
          case rel => exact ⟨k + 1, by omega, by omega, by go_num, BJ.out, N6.out⟩
    · have hke : k = l.length := by omega
      obtain ⟨F, D, m, u, hm, hN⟩ := NR.out
      have hNl := notes_len l HTEN.out k
      obtain ⟨c0, c1, c2, _⟩ := hN.tab.c
      have f1 : wr.frozen? ⟨q + 3, 1, none⟩ = false := Lib.frozen_of_heap hN.tab.box 1
      have htl := (hN.tab.flt _ hN.tab.ft).2
      have HK := hid (sorted_c q m (notes l k) wr hN.tab.ks (by omega))
      have HN := hid hN
      have HM := hid hm
      have HKE := hid hke
      have hwl := BR.out.size
      clear hN hm hke NR c0
      go_wp2_with fail
      refine (keys_c _ _).mono ?_
      rintro e w3 ⟨rfl, rfl⟩
      go_wp2_with fail
      refine HK.out.mono ?_
      rintro e w4 ⟨kv, rfl, KR, b4⟩
      have B4 : Hid (Below wr.heap.size wr w4) := (below_box wr _).trans (b4.mono (by simp))
      have d1 := (B4.out.cell (p := ⟨q + 3, 1, none⟩) htl).trans c1
      have g1 : w4.frozen? ⟨q + 3, 1, none⟩ = false := (B4.out.frozen (p := ⟨q + 3, 1, none⟩) htl).trans f1
      obtain ⟨ss, hss, hkr⟩ := KR
      have HKR := hid hkr
      clear hkr
      obtain ⟨ka, kc, rfl⟩ := own_slice hss
      have HSS := hid hss
      have FIN : Hid (Made w.heap.size (w4.setCell ⟨q + 3, 1, none⟩ (.slice ka ss.length kc)) (q + 3) l) := by
        have hke := HKE.out
        have N4 := HN.out.later B4.out
        have hkb : ∀ y, (Value.slice ka ss.length kc).ownBlock = some y → wr.heap.size ≤ y ∧ y < w4.heap.size := fun y hy => ⟨(own_block HSS.out hy).1, (own_block HSS.out hy).2.1⟩
        have hT := N4.tab.setKeys (.slice ka ss.length kc)
        have hs4 : (w4.setCell ⟨q + 3, 1, none⟩ (.slice ka ss.length kc)).heap.size = w4.heap.size := by simp [World.setCell]
        have hB4 := B4.out.size
        refine ⟨q, q + 1, q + 2, .slice ao l.length c, .slice ka ss.length kc, F, (fun b => D b ∨ (wr.heap.size ≤ b ∧ b < w4.heap.size)), m, u, ?_, ?_, ⟨ss, ?_, (by rw [show notes l l.length = notes l k from by rw [hke]]; exact HKR.out)⟩, fun y hy => .inr (hkb y hy), fun b hb => ?_, ?_, ?_⟩
        · rw [show notes l l.length = notes l k from by rw [hke]]
          exact hT
        · rw [show notes l l.length = notes l k from by rw [hke]]
          exact N4.uq
        · refine ⟨HSS.out.1, ?_⟩
          rcases HSS.out.2 with h1 | ⟨y, cap, cur, hv, hg, hh, hr⟩
          · exact .inl h1
          · have hy : wr.heap.size ≤ y := hg
            exact .inr ⟨y, cap, cur, hv, by omega, (set_ne (by show y ≠ q + 3; omega)).trans hh, hr⟩
        · rw [hs4]
          rcases hb with hb | hb
          · obtain ⟨a1, a2, a3⟩ := N4.dlt b hb
            exact ⟨a1, a2, a3⟩
          · exact ⟨by omega, hb.2, fun c => by have := (HN.out.low c).2; omega⟩
        · refine ⟨ao, c, rfl, ⟨by omega, hc⟩, fun h0 => ⟨g, 0, HA.out h0, .inl (N4.dg h0), fun j hj => ?_⟩⟩
          obtain ⟨ov, r1, r2⟩ := N4.row j hj
          have hgF := (N4.dlt g (N4.dg h0)).2.2
          have hgt : g ≠ q + 3 := fun e => hgF (e ▸ N4.tab.ft)
          refine ⟨_, rfl, ⟨ov, rfl, r2.keep (fun b hb2 _ => set_ne ?_) (fun b _ hb2 => ?_)⟩, fun i u hi => ?_⟩
          · dsimp only at hb2
            rw [if_pos (by omega)] at hb2
            exact fun e => (N4.dlt b hb2.1).2.2 (e ▸ N4.tab.ft)
          · rw [if_pos (by omega)] at hb2
            exact .inl hb2.1
          · rw [Nat.zero_add]
            exact (World.cell?_setCell_other _ _ _ _ (fun e => hgt (congrArg Addr.block e).symm)).trans (r1 i u hi)
        · have := HM.out
          omega
      have BF : Hid (Below w.heap.size w (w4.setCell ⟨q + 3, 1, none⟩ (.slice ka ss.length kc))) := (BR.out.trans (B4.out.mono hwl)).setCell (HN.out.tab.flt _ HN.out.tab.ft).1 _
      clear hss b4
      go_wp2_with fail
      go_ret
      exact ⟨q + 3, rfl, FIN.out, BF.out⟩
end Go.Proofs.Ytnfbcmnlloipiaa
