/-
  The walk of New.
  Unique, Count; the document's Writers and Unique.
  The document's Unique.
  What TableUnique's walk is made of.
-/
import Derived.Test.YtnfbcmnlloipiaaV7
namespace Go.Proofs.Ytnfbcmnlloipiaa
set_option linter.unusedVariables false
set_option linter.unusedSimpArgs false
open Go.RowKit Go.Lib Go.Maps Go.Sort
open Tx (MTxn info_parts flatten_len flatten_get RowsIn.cells RowCells TxnRow TxnsIn setCell_self cloneInts_any OpsOwn)

/-- The four new blocks of a table without transactions noted. -/
theorem nw_start {S : Nat → Prop} {B : Nat} {w w1 : World} {l : List MTxn} {v1 : Value} {g : Nat} (hB : B ≤ w1.heap.size) (hr : ∀ j, j < l.length → ∃ ov, (∀ i u, ([.int .i64 (l.getD j default).proc, .int .i64 (l.getD j default).state, .int .i64 (l.getD j default).since, .int .i64 (l.getD j default).till, ov] : List Value)[i]? = some u → w1.cell? ⟨g, j * 5 + i, none⟩ = some u) ∧ OpsIn (fun b => S b ∧ b < B) w1 ov (l.getD j default).ops) (hg : 0 < l.length → B ≤ g ∧ g < w1.heap.size ∧ ∀ o, w1.frozen? ⟨g, o, none⟩ = false) :
    Nw S B g (w1.heap.size + 3) w1.heap.size (w1.heap.size + 1) (w1.heap.size + 2) v1 (fun b => w1.heap.size ≤ b ∧ b < w1.heap.size + 4) (fun b => b = g ∧ 0 < l.length) ((((w1.alloc (.map #[] 0)).alloc (.map #[] 0)).alloc (.map #[] 0)).alloc (.cells #[v1, .slice none 0 0, .map (some w1.heap.size), .map (some (w1.heap.size + 1)), .map (some (w1.heap.size + 2)), .bool true] 64)) 0 true [] l 0 := by
  obtain ⟨W, hW⟩ : ∃ W, ((((w1.alloc (.map #[] 0)).alloc (.map #[] 0)).alloc (.map #[] 0)).alloc (.cells #[v1, .slice none 0 0, .map (some w1.heap.size), .map (some (w1.heap.size + 1)), .map (some (w1.heap.size + 2)), .bool true] 64)) = W := ⟨_, rfl⟩
  have z1 := alloc_size w1 (.map #[] 0)
  have z2 := alloc_size (w1.alloc (.map #[] 0)) (.map #[] 0)
  have z3 := alloc_size ((w1.alloc (.map #[] 0)).alloc (.map #[] 0)) (.map #[] 0)
  have z4 := alloc_size (((w1.alloc (.map #[] 0)).alloc (.map #[] 0)).alloc (.map #[] 0)) (.cells #[v1, .slice none 0 0, .map (some w1.heap.size), .map (some (w1.heap.size + 1)), .map (some (w1.heap.size + 2)), .bool true] 64)
  have hs : W.heap.size = w1.heap.size + 4 := by rw [← hW]; omega
  have m0 : MapV W Try.prog 9 w1.heap.size 0 (fun _ => none) := (MapV.made w1 Try.prog 9).same (by rw [← hW, alloc_at, if_neg (by omega), alloc_at, if_neg (by omega), alloc_at, if_neg (by omega)])
  have m1 : MapV W Try.prog 107 (w1.heap.size + 1) 0 (fun _ => none) := by
    have h := MapV.made (w1.alloc (.map #[] 0)) Try.prog 107
    rw [z1] at h
    exact h.same (by rw [← hW, alloc_at, if_neg (by omega), alloc_at, if_neg (by omega)])
  have m2 : MapV W Try.prog 114 (w1.heap.size + 2) 0 (fun _ => none) := by
    have h := MapV.made ((w1.alloc (.map #[] 0)).alloc (.map #[] 0)) Try.prog 114
    rw [z2, z1] at h
    exact h.same (by rw [← hW, alloc_at, if_neg (by omega)])
  have hb : Below w1.heap.size w1 W := by rw [← hW]; exact (((below_box w1 _).alloc (by omega) _).alloc (by omega) _).alloc (by omega) _
  have hbox : W.heap[w1.heap.size + 3]? = some (.cells #[v1, .slice none 0 0, .map (some w1.heap.size), .map (some (w1.heap.size + 1)), .map (some (w1.heap.size + 2)), .bool true] 64) := by rw [← hW, alloc_at, if_pos (by omega)]
  rw [hW]
  refine ⟨⟨hbox, by omega, by omega, by omega, ⟨by omega, by omega⟩, ⟨by omega, by omega⟩, ⟨by omega, by omega⟩, ⟨by omega, by omega⟩, fun b hb2 => ⟨by omega, by omega⟩, ⟨_, m0, fun s => by simp [kindN]⟩, ⟨fun _ _ => .slice none 0 0, ⟨_, m1, fun s v => by simp [writersN]⟩, fun _ _ _ => rfl, fun s v => World.ownsRow_nil _ _ _ _, fun s v g hg => by simp [Value.ownBlock] at hg, fun _ _ _ _ g hg => by simp [Value.ownBlock] at hg⟩, ⟨_, m2, fun t s => by simp [lastN]⟩⟩, ⟨fun _ s v => by simp [writersN], fun _ => rfl⟩, fun h0 => ⟨rfl, h0⟩, fun b hb2 => ?_, fun h0 o => ?_, fun j hj => ?_⟩
  · obtain ⟨rfl, h0⟩ := hb2
    obtain ⟨q1, q2, _⟩ := hg h0
    exact ⟨q1, by omega, fun c => by have := c.1; omega⟩
  · obtain ⟨_, q2, q3⟩ := hg h0
    exact (hb.frozen (p := ⟨g, o, none⟩) q2).trans (q3 o)
  · obtain ⟨ov, h1, h2⟩ := hr j hj
    obtain ⟨_, q2, _⟩ := hg (by omega)
    exact ⟨ov, fun i u hi => (hb.cell (p := ⟨g, j * 5 + i, none⟩) q2).trans (h1 i u hi), h2.keep (keeps_below hb) (fun b _ hb2 => by rw [if_neg (Nat.not_lt_zero _)]; exact hb2)⟩
/-- The rows that a clone of transactions laid. -/
theorem clone_rows {S : Nat → Prop} {w w1 : World} {v1 : Value} {l : List MTxn} (h : Rows1 5 47 (TxnRow S w) w.heap.size w1 v1 l) (hb : Below w.heap.size w w1) :
    ∃ g ao c, v1 = .slice ao l.length c ∧ l.length ≤ c ∧ (0 < l.length → ao = some ⟨g, 0, none⟩) ∧ (0 < l.length → w.heap.size ≤ g ∧ g < w1.heap.size ∧ ∀ o, w1.frozen? ⟨g, o, none⟩ = false) ∧ ∀ j, j < l.length → ∃ ov, (∀ i u, ([.int .i64 (l.getD j default).proc, .int .i64 (l.getD j default).state, .int .i64 (l.getD j default).since, .int .i64 (l.getD j default).till, ov] : List Value)[i]? = some u → w1.cell? ⟨g, j * 5 + i, none⟩ = some u) ∧ OpsIn (fun b => S b ∧ b < w.heap.size) w1 ov (l.getD j default).ops := by
  by_cases h0 : 0 < l.length
  · obtain ⟨g, c, hv, hc, hB, hgl, ⟨cs0, hg0⟩, hrow⟩ := h.cell h0
    refine ⟨g, _, c, hv, hc, fun _ => rfl, fun _ => ⟨hB, hgl, fun o => Lib.frozen_of_heap hg0 o⟩, fun j hj => ?_⟩
    obtain ⟨cs, e1, ⟨ov, e2, e3⟩, e4⟩ := hrow j hj
    subst e2
    exact ⟨ov, e4, (e3.keep (T := fun b => S b ∧ b < w.heap.size) (fun _ _ _ => rfl) (fun b hb2 hs => ⟨hs, hb2⟩)).keep (keeps_below hb) (fun _ _ h => h)⟩
  · obtain ⟨rows, _, _, _, h4⟩ := h
    obtain ⟨a, c, hv⟩ := own_slice h4
    exact ⟨0, a, c, hv, by omega, fun c => absurd c h0, fun c => absurd c h0, fun j hj => by omega⟩
set_option maxHeartbeats 8000000 in
set_option maxRecDepth 100000 in
theorem tnew_is {S : Nat → Prop} (w : World) (v : Value) (l : List MTxn) (h : TxnsIn S w v l) (hl : l.length ≤ 1000) (hten : ∀ t ∈ l, t.ops.length ≤ 10) (hok : ∀ t ∈ l, ∀ o ∈ t.ops, OpOk o) :
    Calls Try.prog 10 #[v] w fun e w' => ∃ tb, e = .returned (.pointer (some ⟨tb, 0, none⟩)) ∧ Made w.heap.size w' tb l ∧ Below w.heap.size w w' := by
  have CL := hid (cloneT_any (α := MTxn) v l w h txnRow_one)
  have hmm := @run_makeMap Try.prog
  have HOK := hid hok
  have HTEN := hid hten
  have hli : (l.length : Int) ≤ 1000 := by omega
  clear h hok hten
  go_enter Try.func10, Try.ntmps10
  go_wp2_with (go_at_call 26; refine CL.out.mono ?_; rintro e w1 ⟨v1, rfl, h1, b1⟩; obtain ⟨g, ao, c, rfl, hc, ha, hg, hr⟩ := clone_rows h1 b1; have HA := hid ha; have HG := hid hg; have HR := hid hr; have B1 := hid b1; clear h1 ha hg hr b1 CL)
  have N0 := hid (nw_start (S := S) (w := w) (v1 := .slice ao l.length c) B1.out.size HR.out HG.out)
  have hsz1 := B1.out.size
  have B2 : Hid (Below w.heap.size w ((((w1.alloc (.map #[] 0)).alloc (.map #[] 0)).alloc (.map #[] 0)).alloc (.cells #[.slice ao l.length c, .slice none 0 0, .map (some w1.heap.size), .map (some (w1.heap.size + 1)), .map (some (w1.heap.size + 2)), .bool true] 64))) := (((B1.out.alloc (by omega) _).alloc (by rw [alloc_size]; omega) _).alloc (by rw [alloc_size, alloc_size]; omega) _).alloc (by rw [alloc_size, alloc_size, alloc_size]; omega) _
  clear hmm HG HR B1
  generalize w1.heap.size = q at *
  generalize ((((w1.alloc (.map #[] 0)).alloc (.map #[] 0)).alloc (.map #[] 0)).alloc (.cells #[.slice ao l.length c, .slice none 0 0, .map (some q), .map (some (q + 1)), .map (some (q + 2)), .bool true] 64)) = W0 at *
  go_loopg [4, 5, 6, 7, 20] l.length (fun gg _ _ _ _ i wr => ∃ k : Nat, k ≤ l.length ∧ l.length - k ≤ gg ∧ i = .int .i64 k ∧ Aside (Below w.heap.size w wr) ∧ Aside (∃ F D m u, m ≤ 3 * (notes l k).length ∧ Nw S w.heap.size g (q + 3) q (q + 1) (q + 2) (.slice ao l.length c) F D wr m u (notes l k) l k))
  case atStart => exact ⟨0, Nat.zero_le _, by omega, rfl, B2.out, ⟨_, _, 0, true, Nat.zero_le _, N0.out⟩⟩
  case round =>
    clear N0 B2
    obtain ⟨k, hk, hgk, rfl, BR, NR⟩ := hrel
    by_cases hlt : k < l.length
    · have hlti : (k : Int) < l.length := by omega
      have hao := HA.out (by omega)
      subst hao
      obtain ⟨F, D, m, u, hm, hN⟩ := NR.out
      obtain ⟨c0, _⟩ := hN.tab.c
      obtain ⟨ov, hrow, hops⟩ := hN.row k hlt
      have c4 := hrow 4 _ rfl
      have hgl : g < wr.heap.size := (hN.dlt g (hN.dg (by omega))).2.1
      have FR := hid (hN.fz (by omega))
      have HN := hid hN
      have hmem : l.getD k default ∈ l := by simp [List.getD, List.getElem?_eq_getElem hlt]
      have CP := hid (copy_is ov (l.getD k default).ops wr hops (fun o ho => (HOK.out _ hmem o ho).1))
      obtain ⟨oa, oc, hov, _⟩ := id hops
      subst hov
      have hten : (l.getD k default).ops.length ≤ 10 := HTEN.out _ hmem
      have HOT := hid (HOK.out _ hmem)
      have hNl := notes_len l HTEN.out k
      have HNT : Hid (notes l (k + 1) = notes l k ++ notesT k (l.getD k default).ops) := rfl
      generalize hTo : (l.getD k default).ops = T at *
      have HTO := hid hTo
      have hwl : w.heap.size ≤ wr.heap.size := BR.out.size
      clear hN hrow hops NR hTo hmem
      go_wp2_with (go_at_call 30; refine CP.out.mono ?_; rintro e w2 ⟨v2, rfl, h2, b2⟩; obtain ⟨na, nc, rfl, hn2⟩ := id h2; have d4 := (b2.cell (p := ⟨g, k * 5 + 4, none⟩) hgl).trans c4; have f4 : w2.frozen? ⟨g, k * 5 + 4, none⟩ = false := (b2.frozen (p := ⟨g, k * 5 + 4, none⟩) hgl).trans (FR.out _); have N2 : Hid (Nw S w.heap.size g (q + 3) q (q + 1) (q + 2) (.slice (some ⟨g, 0, none⟩) l.length c) F (fun b => D b ∨ (wr.heap.size ≤ b ∧ b < w2.heap.size)) (w2.setCell ⟨g, k * 5 + 4, none⟩ (.slice na T.length nc)) m u (notes l k) l (k + 1)) := HN.out.copied hwl hlt b2 (by rw [show (l.getD k default).ops = T from HTO.out]; exact h2); have B3 : Hid (Below w.heap.size w (w2.setCell ⟨g, k * 5 + 4, none⟩ (.slice na T.length nc))) := (BR.out.trans (b2.mono BR.out.size)).setCell (HN.out.dlt g (HN.out.dg (by omega))).1 _; have C3 : Hid ((w2.setCell ⟨g, k * 5 + 4, none⟩ (.slice na T.length nc)).cell? ⟨g, k * 5 + 4, none⟩ = some (.slice na T.length nc)) := World.cell?_setCell_same _ _ _ d4; clear h2 b2 hn2 CP)
      clear c4 FR HN d4 f4 c0
      generalize w2.setCell ⟨g, k * 5 + 4, none⟩ (.slice na T.length nc) = W3 at *
      have hTi : (T.length : Int) ≤ 10 := by omega
      go_loopg [6, 7, 42] T.length (fun gg _ _ i wi => ∃ j : Nat, j ≤ T.length ∧ T.length - j ≤ gg ∧ i = .int .i64 j ∧ Aside (Below w.heap.size w wi) ∧ Aside (wi.cell? ⟨g, k * 5 + 4, none⟩ = some (.slice na T.length nc)) ∧ Aside (∃ F D m u, m ≤ 3 * ((notes l k).length + j) ∧ Nw S w.heap.size g (q + 3) q (q + 1) (q + 2) (.slice (some ⟨g, 0, none⟩) l.length c) F D wi m u (notes l k ++ (notesT k T).take j) l (k + 1)))
      case atStart => exact ⟨0, Nat.zero_le _, by omega, rfl, B3.out, C3.out, ⟨_, _, m, u, by omega, (by rw [List.take_zero, List.append_nil]; exact N2.out)⟩⟩
      case round =>
        clear N2 B3 C3 hgl
        obtain ⟨j, hj, hgj, rfl, BJ, CJ, NJ⟩ := hrel
        by_cases hjl : j < T.length
        · have hjli : (j : Int) < T.length := by omega
          obtain ⟨F, D, m, u, hm, hN⟩ := NJ.out
          obtain ⟨ov, hrow, hops⟩ := hN.row k hlt
          have e4 : ov = .slice na T.length nc := by
            have := (hrow 4 _ rfl).symm.trans CJ.out
            injection this
          subst e4
          rw [show (l.getD k default).ops = T from HTO.out] at hops
          obtain ⟨oa2, oc2, hoe, _, hcells⟩ := hops
          obtain ⟨ob, oo, hob, _, hcs⟩ := hcells (by omega)
          obtain ⟨cs, _, ⟨lv, hcse, hli2⟩, hcell⟩ := hcs j hjl
          have e5 : na = oa2 := by injection hoe
          subst e5
          subst hob
          subst hcse
          obtain ⟨la, lc, rfl, _⟩ := id hli2
          have x0 := hcell 0 _ rfl
          have x1 := hcell 1 _ rfl
          have x2 := hcell 2 _ rfl
          have x3 := hcell 3 _ rfl
          have x4 := hcell 4 _ rfl
          have x5 := hcell 5 _ rfl
          rw [Nat.add_zero] at x0
          have hmem2 : T.getD j default ∈ T := by simp [List.getD, List.getElem?_eq_getElem hjl]
          have hOP := HOT.out _ hmem2
          have hTK : (notesT k T).take (j + 1) = (notesT k T).take j ++ [(k, j, T.getD j default)] := notesT_take k T j hjl
          have hNlen : (notes l k ++ (notesT k T).take j).length ≤ 100000 := by
            rw [List.length_append, List.length_take, notesT_len]
            omega
          obtain ⟨O, hO⟩ : ∃ O, T.getD j default = O := ⟨_, rfl⟩
          rw [hO] at x0 x1 x2 x3 x4 x5 hOP hTK
          obtain ⟨ok, os, ovv, ol, oh, on⟩ := O
          simp only [MOp.kind, MOp.key, MOp.value, MOp.list, MOp.has, MOp.nl] at x0 x1 x2 x3 x4 x5
          have NB : Hid (Nw S w.heap.size g (q + 3) q (q + 1) (q + 2) (.slice (some ⟨g, 0, none⟩) l.length c) F D (wr.alloc (.cells #[.int .i64 ok, .string os, .int .i64 ovv, .slice la ol.length lc, .bool oh, .bool on] 49)) m u (notes l k ++ (notesT k T).take j) l (k + 1)) := hN.later (below_box wr _)
          have NT := hid (note_is w.heap.size (wr.alloc (.cells #[.int .i64 ok, .string os, .int .i64 ovv, .slice la ol.length lc, .bool oh, .bool on] 49)) (q + 3) q (q + 1) (q + 2) _ _ F m u (notes l k ++ (notesT k T).take j) (k, j, (ok, os, ovv, ol, oh, on)) la lc NB.out.tab NB.out.uq (Nat.le_trans hOP.1 (by decide)) hOP.2 (by omega) hNlen (by unfold maxLen; omega) (by have := BJ.out.size; rw [alloc_size]; omega))
          simp only [opV, MOp.kind, MOp.key, MOp.value, MOp.list, MOp.has, MOp.nl] at NT
          have HTK := hid hTK
          have hwrs : w.heap.size ≤ wr.heap.size := BJ.out.size
          have HM := hid hm
          have CB : Hid ((wr.alloc (.cells #[.int .i64 ok, .string os, .int .i64 ovv, .slice la ol.length lc, .bool oh, .bool on] 49)).cell? ⟨g, k * 5 + 4, none⟩ = some (.slice (some ⟨ob, oo, none⟩) T.length nc)) := Lib.cell?_alloc_some _ CJ.out
          have BB : Hid (Below w.heap.size w (wr.alloc (.cells #[.int .i64 ok, .string os, .int .i64 ovv, .slice la ol.length lc, .bool oh, .bool on] 49))) := BJ.out.trans ((below_box wr _).mono hwrs)
          clear hN hrow hoe hcells hcs hcell hli2 hO hTK hOP hmem2 hNlen hm NJ
          go_wp2_with fail
          go_at_call 31
          refine NT.out.mono ?_
          rintro e w5 hp
          obtain ⟨rfl, _, G5⟩ := id hp
          obtain ⟨u', N5'⟩ := NB.out.noted hp
          have N5 : Hid (∃ F D m u, m ≤ 3 * ((notes l k).length + (j + 1)) ∧ Nw S w.heap.size g (q + 3) q (q + 1) (q + 2) (.slice (some ⟨g, 0, none⟩) l.length c) F D w5 m u (notes l k ++ (notesT k T).take (j + 1)) l (k + 1)) := ⟨_, _, m + 3, u', by have := HM.out; omega, by rw [HTK.out, ← List.append_assoc]; exact N5'⟩
          have C5 : Hid (w5.cell? ⟨g, k * 5 + 4, none⟩ = some (.slice (some ⟨ob, oo, none⟩) T.length nc)) := (World.cell?_of_block (a := ⟨g, k * 5 + 4, none⟩) (G5.block g (NB.out.dlt g (NB.out.dg (by omega))).2.1 (NB.out.dlt g (NB.out.dg (by omega))).2.2)).trans CB.out
          have B5 : Hid (Below w.heap.size w w5) := BB.out.trans (G5.below BB.out.size (fun i hi c => by have := (NB.out.low c).1; omega))
          clear hp G5 N5'
          go_wp2_with fail
          go_roundg (T.length - (j + 1))
          case measure => omega
          case rel => exact ⟨j + 1, by omega, by omega, by go_num, B5.out, C5.out, N5.out⟩
        · have N6 : Hid (∃ F D m u, m ≤ 3 * (notes l (k + 1)).length ∧ Nw S w.heap.size g (q + 3) q (q + 1) (q + 2) (.slice (some ⟨g, 0, none⟩) l.length c) F D wr m u (notes l (k + 1)) l (k + 1)) := by
            obtain ⟨F, D, m, u, hm, hN⟩ := NJ.out
            have hje : j = T.length := by omega
            rw [hje, List.take_of_length_le (by rw [notesT_len]; exact Nat.le_refl _)] at hN
            refine ⟨F, D, m, u, ?_, ?_⟩
            · rw [HNT.out, List.length_append, notesT_len]
              omega
            · rw [HNT.out]
              exact hN
          go_wp2_with fail
          go_roundg (l.length - (k + 1))
          case measure => omega
          case rel => exact ⟨k + 1, by omega, by omega, by go_num, BJ.out, N6.out⟩
    · have hke : k = l.length := by omega
      obtain ⟨F, D, m, u, hm, hN⟩ := NR.out
      have hNl := notes_len l HTEN.out k
      obtain ⟨c0, c1, c2, _⟩ := hN.tab.c
      have f1 : wr.frozen? ⟨q + 3, 1, none⟩ = false := Lib.frozen_of_heap hN.tab.box 1
      have htl := (hN.tab.flt _ hN.tab.ft).2
      have HK := hid (sorted_c q m (notes l k) wr hN.tab.ks (by omega))
      have HN := hid hN
      have HM := hid hm
      have HKE := hid hke
      have hwl := BR.out.size
      clear hN hm hke NR c0
      go_wp2_with fail
      refine (keys_c _ _).mono ?_
      rintro e w3 ⟨rfl, rfl⟩
      go_wp2_with fail
      refine HK.out.mono ?_
      rintro e w4 ⟨kv, rfl, KR, b4⟩
      have B4 : Hid (Below wr.heap.size wr w4) := (below_box wr _).trans (b4.mono (by simp))
      have d1 := (B4.out.cell (p := ⟨q + 3, 1, none⟩) htl).trans c1
      have g1 : w4.frozen? ⟨q + 3, 1, none⟩ = false := (B4.out.frozen (p := ⟨q + 3, 1, none⟩) htl).trans f1
      obtain ⟨ss, hss, hkr⟩ := KR
      have HKR := hid hkr
      clear hkr
      obtain ⟨ka, kc, rfl⟩ := own_slice hss
      have HSS := hid hss
      have FIN : Hid (Made w.heap.size (w4.setCell ⟨q + 3, 1, none⟩ (.slice ka ss.length kc)) (q + 3) l) := by
        have hke := HKE.out
        have N4 := HN.out.later B4.out
        have hkb : ∀ y, (Value.slice ka ss.length kc).ownBlock = some y → wr.heap.size ≤ y ∧ y < w4.heap.size := fun y hy => ⟨(own_block HSS.out hy).1, (own_block HSS.out hy).2.1⟩
        have hT := N4.tab.setKeys (.slice ka ss.length kc)
        have hs4 : (w4.setCell ⟨q + 3, 1, none⟩ (.slice ka ss.length kc)).heap.size = w4.heap.size := by simp [World.setCell]
        have hB4 := B4.out.size
        refine ⟨q, q + 1, q + 2, .slice ao l.length c, .slice ka ss.length kc, F, (fun b => D b ∨ (wr.heap.size ≤ b ∧ b < w4.heap.size)), m, u, ?_, ?_, ⟨ss, ?_, (by rw [show notes l l.length = notes l k from by rw [hke]]; exact HKR.out)⟩, fun y hy => .inr (hkb y hy), fun b hb => ?_, ?_, ?_⟩
        · rw [show notes l l.length = notes l k from by rw [hke]]
          exact hT
        · rw [show notes l l.length = notes l k from by rw [hke]]
          exact N4.uq
        · refine ⟨HSS.out.1, ?_⟩
          rcases HSS.out.2 with h1 | ⟨y, cap, cur, hv, hg, hh, hr⟩
          · exact .inl h1
          · have hy : wr.heap.size ≤ y := hg
            exact .inr ⟨y, cap, cur, hv, by omega, (set_ne (by show y ≠ q + 3; omega)).trans hh, hr⟩
        · rw [hs4]
          rcases hb with hb | hb
          · obtain ⟨a1, a2, a3⟩ := N4.dlt b hb
            exact ⟨a1, a2, a3⟩
          · exact ⟨by omega, hb.2, fun c => by have := (HN.out.low c).2; omega⟩
        · refine ⟨ao, c, rfl, ⟨by omega, hc⟩, fun h0 => ⟨g, 0, HA.out h0, .inl (N4.dg h0), fun j hj => ?_⟩⟩
          obtain ⟨ov, r1, r2⟩ := N4.row j hj
          have hgF := (N4.dlt g (N4.dg h0)).2.2
          have hgt : g ≠ q + 3 := fun e => hgF (e ▸ N4.tab.ft)
          refine ⟨_, rfl, ⟨ov, rfl, r2.keep (fun b hb2 _ => set_ne ?_) (fun b _ hb2 => ?_)⟩, fun i u hi => ?_⟩
          · dsimp only at hb2
            rw [if_pos (by omega)] at hb2
            exact fun e => (N4.dlt b hb2.1).2.2 (e ▸ N4.tab.ft)
          · rw [if_pos (by omega)] at hb2
            exact .inl hb2.1
          · rw [Nat.zero_add]
            exact (World.cell?_setCell_other _ _ _ _ (fun e => hgt (congrArg Addr.block e).symm)).trans (r1 i u hi)
        · have := HM.out
          omega
      have BF : Hid (Below w.heap.size w (w4.setCell ⟨q + 3, 1, none⟩ (.slice ka ss.length kc))) := (BR.out.trans (B4.out.mono hwl)).setCell (HN.out.tab.flt _ HN.out.tab.ft).1 _
      clear hss b4
      go_wp2_with fail
      go_ret
      exact ⟨q + 3, rfl, FIN.out, BF.out⟩
end Go.Proofs.Ytnfbcmnlloipiaa
namespace Go.Proofs.Ytnfbcmnlloipiaa
set_option linter.unusedVariables false
set_option linter.unusedSimpArgs false
open Go.RowKit Go.Lib Go.Maps Go.Sort
open Tx (MTxn info_parts flatten_len flatten_get RowsIn.cells RowCells TxnRow TxnsIn setCell_self cloneInts_any OpsOwn)

/-- Are the values unique. -/
theorem uniq_is (B : Nat) (w : World) (tb : Nat) (l : List MTxn) (h : Made B w tb l) : Calls Try.prog 66 #[.pointer (some ⟨tb, 0, none⟩)] w fun e w' => ∃ u : Bool, e = .returned (.bool u) ∧ (u = true ↔ uniqN (notes l l.length)) ∧ w = w' := by
  obtain ⟨kb, wb, lb, tv, kv, F, D, m, u, h1, h2, _⟩ := h
  obtain ⟨_, _, _, _, _, c5⟩ := h1.c
  have HU := hid h2
  clear h1 h2
  go_enter Try.func66, Try.ntmps66
  go_wp2
  go_ret
  exact ⟨u, rfl, HU.out, rfl⟩
theorem count_is (B : Nat) (w : World) (tb : Nat) (l : List MTxn) (h : Made B w tb l) : Calls Try.prog 21 #[.pointer (some ⟨tb, 0, none⟩)] w fun e w' => e = .returned (.int .i64 (l.length : Int)) ∧ w = w' := by
  obtain ⟨kb, wb, lb, tv, kv, F, D, m, u, h1, _, _, _, _, h6, _⟩ := h
  obtain ⟨c0, _⟩ := h1.c
  obtain ⟨ao, c, rfl, _⟩ := h6
  clear h1
  go_enter Try.func21, Try.ntmps21
  go_wp2
  go_ret
  exact ⟨rfl, rfl⟩
theorem Made.later {B : Nat} {w w' : World} {tb : Nat} {l : List MTxn} (h : Made B w tb l) (hb : Below w.heap.size w w') : Made B w' tb l := by
  obtain ⟨kb, wb, lb, tv, kv, F, D, m, u, h1, h2, ⟨ss, h3, h3b⟩, h4, h5, h6, h7⟩ := h
  refine ⟨kb, wb, lb, tv, kv, F, D, m, u, h1.later hb, h2, ⟨ss, own_same h3 (fun g hg => hb.block g (own_block h3 hg).2.1), h3b⟩, h4, fun b hD => ⟨(h5 b hD).1, by have := hb.size; have := (h5 b hD).2.1; omega, (h5 b hD).2.2⟩, h6.keep (keeps_below hb) (fun _ _ x => x), h7⟩

/-! The document's writers. -/
theorem cond_ws {x s : ByteArray} : ((x.toList == s.toList) = true) = (x = s) := by
  apply propext
  rw [beq_iff_eq]
  constructor
  · intro h
    cases x
    cases s
    congr
    rw [ByteArray.toList_eq, ByteArray.toList_eq] at h
    exact Array.ext' h
  · intro h
    rw [h]
set_option maxHeartbeats 8000000 in
set_option maxRecDepth 100000 in
theorem rwriters_is {S : Nat → Prop} (w : World) (v : Value) (l : List MTxn) (s : ByteArray) (x : Int) (h : TxnsIn S w v l) (hl : l.length ≤ 1000) (hten : ∀ t ∈ l, t.ops.length ≤ 10) :
    Calls Try.prog 64 #[v, .string s, .int .i64 x] w fun e w' => ∃ v', e = .returned v' ∧ w'.ownsRow w.heap.size 54 2 v' (writersN (notes l l.length) s x).length (wrC (writersN (notes l l.length) s x)) ∧ Below w.heap.size w w' := by
  obtain ⟨i0, hi0, hz0, hz1, hz2⟩ := info_parts Try.infoWrite
  obtain ⟨a1, c1, rfl, l1, k1⟩ := RowsIn.cells h (by omega)
  have HI0 := hid hi0
  have HZ0 := hid hz0
  have HZ1 := hid hz1
  have HZ2 := hid hz2
  have HC := hid k1
  have HTEN := hid hten
  have hli : (l.length : Int) ≤ 1000 := by omega
  clear h hi0 hz0 hz1 hz2 k1 hten
  go_enter Try.func64, Try.ntmps64
  go_wp2_with fail
  go_loopg [7, 8, 9, 10, 11, 14] l.length (fun gg out _ _ _ _ i wr => ∃ k : Nat, k ≤ l.length ∧ l.length - k ≤ gg ∧ i = .int .i64 k ∧ Aside (Below w.heap.size w wr) ∧ Aside (wr.ownsRow w.heap.size 54 2 out (writersN (notes l k) s x).length (wrC (writersN (notes l k) s x))))
  case atStart => exact ⟨0, Nat.zero_le _, by omega, rfl, Below.refl _ _, World.ownsRow_nil _ _ _ _⟩
  case round =>
    obtain ⟨k, hk, hgk, rfl, BR, OR⟩ := hrel
    by_cases hlt : k < l.length
    · have hlti : (k : Int) < l.length := by omega
      obtain ⟨b, o, cs, rfl, hbl, _, ⟨ov, hcs, hops⟩, hcell⟩ := HC.out k hlt
      subst hcs
      obtain ⟨oa, oc, hov, hol, hoc⟩ := id hops
      subst hov
      have hmem : l.getD k default ∈ l := by simp [List.getD, List.getElem?_eq_getElem hlt]
      have d0 := (BR.out.cell (p := ⟨b, o + k * 5 + 0, none⟩) hbl).trans (hcell 0 _ rfl)
      have d1 := (BR.out.cell (p := ⟨b, o + k * 5 + 1, none⟩) hbl).trans (hcell 1 _ rfl)
      have d2 := (BR.out.cell (p := ⟨b, o + k * 5 + 2, none⟩) hbl).trans (hcell 2 _ rfl)
      have d3 := (BR.out.cell (p := ⟨b, o + k * 5 + 3, none⟩) hbl).trans (hcell 3 _ rfl)
      have d4 := (BR.out.cell (p := ⟨b, o + k * 5 + 4, none⟩) hbl).trans (hcell 4 _ rfl)
      rw [Nat.add_zero] at d0
      have hten : (l.getD k default).ops.length ≤ 10 := HTEN.out _ hmem
      have hNl := notes_len l HTEN.out k
      have HNT : Hid (notes l (k + 1) = notes l k ++ notesT k (l.getD k default).ops) := rfl
      have HOC := hid hoc
      have BN : ∀ x, Hid (Below w.heap.size w (wr.alloc x)) := fun x => BR.out.trans ((below_box wr _).mono BR.out.size)
      have ON : ∀ y, Hid ((wr.alloc y).ownsRow w.heap.size 54 2 u7 (writersN (notes l k) s x).length (wrC (writersN (notes l k) s x))) := fun y => own_same OR.out (fun g hg => by rw [alloc_at, if_neg (by have := (own_block OR.out hg).2.1; omega)])
      generalize (l.getD k default).ops = T at *
      generalize l.getD k default = TX at *
      clear hcell hops hoc hmem
      go_wp2_with fail
      have hTi : (T.length : Int) ≤ 10 := by omega
      go_loopg [7, 10, 11, 22] T.length (fun gg out _ _ i wi => ∃ j : Nat, j ≤ T.length ∧ T.length - j ≤ gg ∧ i = .int .i64 j ∧ Aside (Below w.heap.size w wi) ∧ Aside (wi.ownsRow w.heap.size 54 2 out (writersN (notes l k ++ (notesT k T).take j) s x).length (wrC (writersN (notes l k ++ (notesT k T).take j) s x))))
      case atStart => exact ⟨0, Nat.zero_le _, by omega, rfl, (BN _).out, (by rw [List.take_zero, List.append_nil]; exact (ON _).out)⟩
      case round =>
        clear BN ON BR OR d0 d1 d2 d3 d4
        obtain ⟨j, hj, hgj, rfl, BJ, OJ⟩ := hrel
        by_cases hjl : j < T.length
        · have hjli : (j : Int) < T.length := by omega
          obtain ⟨ob, oo, rfl, _, hcs⟩ := HOC.out (by omega)
          obtain ⟨cs, _, ⟨lv, hcse, hli2⟩, hcell⟩ := hcs j hjl
          subst hcse
          obtain ⟨la, lc, rfl, _⟩ := id hli2
          have hobl := World.block_lt_of_cell? _ _ (hcell 0 _ rfl)
          have x0 := (BJ.out.cell (p := ⟨ob, oo + j * 6 + 0, none⟩) hobl).trans (hcell 0 _ rfl)
          have x1 := (BJ.out.cell (p := ⟨ob, oo + j * 6 + 1, none⟩) hobl).trans (hcell 1 _ rfl)
          have x2 := (BJ.out.cell (p := ⟨ob, oo + j * 6 + 2, none⟩) hobl).trans (hcell 2 _ rfl)
          have x3 := (BJ.out.cell (p := ⟨ob, oo + j * 6 + 3, none⟩) hobl).trans (hcell 3 _ rfl)
          have x4 := (BJ.out.cell (p := ⟨ob, oo + j * 6 + 4, none⟩) hobl).trans (hcell 4 _ rfl)
          have x5 := (BJ.out.cell (p := ⟨ob, oo + j * 6 + 5, none⟩) hobl).trans (hcell 5 _ rfl)
          rw [Nat.add_zero] at x0
          have hTK : Hid (writersN (notes l k ++ (notesT k T).take (j + 1)) s x = writersN (notes l k ++ (notesT k T).take j) s x ++ (if hitW s x (k, j, T.getD j default) then [(k, j)] else [])) := by
            show _ = _
            rw [notesT_take k T j hjl, ← List.append_assoc, writers_snoc]
          have hWl : (writersN (notes l k ++ (notesT k T).take j) s x).length ≤ 10 * k + j := by
            have := writers_len (notes l k ++ (notesT k T).take j) s x
            rw [List.length_append, List.length_take, notesT_len] at this
            omega
          have hcell2 := hcs
          clear hcell hcs hli2 hcell2
          obtain ⟨WN, hWN⟩ : ∃ WN, writersN (notes l k ++ (notesT k T).take (j + 1)) s x = WN := ⟨_, rfl⟩
          have HWN := hid hWN
          rw [hWN] at hTK
          clear hWN
          generalize writersN (notes l k ++ (notesT k T).take j) s x = WJ at *
          generalize T.getD j default = O at *
          obtain ⟨ok, os, ovv, ol, oh, on⟩ := O
          simp only [MOp.kind, MOp.key, MOp.value, MOp.list, MOp.has, MOp.nl] at x0 x1 x2 x3 x4 x5
          have RW := hid (fun W => rwrite_is (ok, os, ovv, ol, oh, on) la lc W)
          simp only [opV, MOp.kind, MOp.key, MOp.value, MOp.list, MOp.has, MOp.nl] at RW
          have hwrs : w.heap.size ≤ wr.heap.size := BJ.out.size
          have STEP : ∀ w2, Hid (Below (wr.alloc (.cells #[.int .i64 ok, .string os, .int .i64 ovv, .slice la ol.length lc, .bool oh, .bool on] 49)).heap.size (wr.alloc (.cells #[.int .i64 ok, .string os, .int .i64 ovv, .slice la ol.length lc, .bool oh, .bool on] 49)) w2 → Below w.heap.size w w2 ∧ w2.ownsRow w.heap.size 54 2 u7 WJ.length (wrC WJ) ∧ wr.heap.size < w2.heap.size ∧ w2.cell? ⟨wr.heap.size, 1, none⟩ = some (.string os) ∧ w2.cell? ⟨wr.heap.size, 2, none⟩ = some (.int .i64 ovv)) := fun w2 hb => by
            have hb1 : Below wr.heap.size wr w2 := (below_box wr _).trans (hb.mono (by rw [alloc_size]; omega))
            have hs1 := hb.size
            rw [alloc_size] at hs1
            exact ⟨BJ.out.trans (hb1.mono hwrs), own_same OJ.out (fun g hg => hb1.block g (own_block OJ.out hg).2.1), by omega, (hb.cell (p := ⟨wr.heap.size, 1, none⟩) (by simp)).trans (by simp), (hb.cell (p := ⟨wr.heap.size, 2, none⟩) (by simp)).trans (by simp)⟩
          clear BJ OJ
          cases hw : isW ok with
          | false =>
            have hh : Hid (WN = WJ) := by show WN = WJ; rw [hTK.out, if_neg (by simp [hitW, hw])]; simp
            rw [hw] at RW
            clear hTK hw
            go_wp2_with (go_at_call 63; refine (RW.out _).mono ?_; rintro e w2 ⟨rfl, b2⟩; obtain ⟨p1, p2, p3, p4, p5⟩ := (STEP w2).out b2; have B2 := hid p1; have O2 := hid p2; clear p1 p2 b2 STEP RW)
            go_roundg (T.length - (j + 1))
            case measure => omega
            case rel => exact ⟨j + 1, by omega, by omega, by go_num, B2.out, (by rw [HWN.out, hh.out]; exact O2.out)⟩
          | true =>
            rw [hw] at RW
            by_cases hks : os = s
            · have hkb : (os.toList == s.toList) = true := by rw [hks]; simp
              by_cases hvx : ovv = x
              · have hvb : (ovv == x) = true := by simp [hvx]
                have hh : Hid (WN = WJ ++ [(k, j)]) := by show WN = _; rw [hTK.out, if_pos (by simp [hitW, hw, hks, hvx])]
                clear hTK hw hks hvx
                go_upto_region 9 with (go_at_call 63; refine (RW.out _).mono ?_; rintro e w2 ⟨rfl, b2⟩; obtain ⟨p1, p2, p3, p4, p5⟩ := (STEP w2).out b2; have B2 := hid p1; have O2 := hid p2; clear p1 p2 b2 STEP RW)
                have O3 : Hid ((w2.alloc (.cells #[.int .i64 (k : Int), .int .i64 (j : Int)] 54)).ownsRow w.heap.size 54 2 u7 WJ.length (wrC WJ)) := own_same O2.out (fun g hg => by rw [alloc_at, if_neg (by have := (own_block O2.out hg).2.1; omega)])
                have NN : Hid (∀ i u, ([.int .i64 (k : Int), .int .i64 (j : Int)] : List Value)[i]? = some u → (w2.alloc (.cells #[.int .i64 (k : Int), .int .i64 (j : Int)] 54)).cell? ((⟨w2.heap.size, 0, none⟩ : Addr).add i) = some u) := World.news_of_block (cs := #[.int .i64 (k : Int), .int .i64 (j : Int)]) (t := 54) (fr := (0, 0)) (heap_alloc_new w2 _)
                have XN : Hid (∀ u ∈ ([.int .i64 (k : Int), .int .i64 (j : Int)] : List Value), u.oneCell' = true) := by
                  intro u hu
                  simp only [List.mem_cons, List.not_mem_nil, or_false] at hu
                  rcases hu with rfl | rfl <;> rfl
                have hw2 := B2.out.size
                go_wp2_with (at_builtin; refine wpList_append_lies _ rfl _ _ 51 rfl w.heap.size 54 i0 _ 2 16 Try.underlying51 HI0.out HZ0.out HZ1.out HZ2.out rfl (by decide) u7 WJ.length (wrC WJ) rfl O3.out ⟨w2.heap.size, 0, none⟩ 1 1 [.int .i64 (k : Int), .int .i64 (j : Int)] rfl rfl NN.out XN.out (by decide) (by unfold maxLen; omega) (by omega) (by rw [alloc_size]; omega) (w2.heap.size + 1) (by simp) ?_; intro g cap w4 hown4 hgrow hat hglt; have O4 : Hid (w4.ownsRow w.heap.size 54 2 (.slice (some ⟨g, 0, none⟩) (WJ.length + 1) cap) (WJ ++ [(k, j)]).length (wrC (WJ ++ [(k, j)]))) := (by show World.ownsRow _ _ _ _ _ _ _; rw [wrC_append, List.length_append]; exact hown4); have B4 : Hid (Below w.heap.size w w4) := (B2.out.alloc hw2 _).grown hgrow (by rw [alloc_size]; omega) (fun y hy => (own_block O2.out hy).1); clear hown4 hgrow hat hglt)
                go_roundg (T.length - (j + 1))
                case measure => omega
                case rel => exact ⟨j + 1, by omega, by omega, by go_num, B4.out, (by rw [HWN.out, hh.out]; exact O4.out)⟩
              · have hvb : (ovv == x) = false := by simpa using hvx
                have hh : Hid (WN = WJ) := by show WN = WJ; rw [hTK.out, if_neg (by simp [hitW, hvx])]; simp
                clear hTK hw hks
                go_wp2_with (go_at_call 63; refine (RW.out _).mono ?_; rintro e w2 ⟨rfl, b2⟩; obtain ⟨p1, p2, p3, p4, p5⟩ := (STEP w2).out b2; have B2 := hid p1; have O2 := hid p2; clear p1 p2 b2 STEP RW)
                go_roundg (T.length - (j + 1))
                case measure => omega
                case rel => exact ⟨j + 1, by omega, by omega, by go_num, B2.out, (by rw [HWN.out, hh.out]; exact O2.out)⟩
            · have hkb : (os.toList == s.toList) = false := by
                cases hc : (os.toList == s.toList) with
                | false => rfl
                | true => exact absurd (cond_ws ▸ hc) hks
              have hh : Hid (WN = WJ) := by show WN = WJ; rw [hTK.out, if_neg (by simp [hitW, hks])]; simp
              clear hTK hw
              go_wp2_with (go_at_call 63; refine (RW.out _).mono ?_; rintro e w2 ⟨rfl, b2⟩; obtain ⟨p1, p2, p3, p4, p5⟩ := (STEP w2).out b2; have B2 := hid p1; have O2 := hid p2; clear p1 p2 b2 STEP RW)
              go_roundg (T.length - (j + 1))
              case measure => omega
              case rel => exact ⟨j + 1, by omega, by omega, by go_num, B2.out, (by rw [HWN.out, hh.out]; exact O2.out)⟩
        · have hje : j = T.length := by omega
          rw [hje, List.take_of_length_le (by rw [notesT_len]; exact Nat.le_refl _)] at OJ
          clear hje
          go_wp2_with fail
          go_roundg (l.length - (k + 1))
          case measure => omega
          case rel => exact ⟨k + 1, by omega, by omega, by go_num, BJ.out, (by rw [HNT.out]; exact OJ.out)⟩
    · have hke : k = l.length := by omega
      have OE : Hid (wr.ownsRow w.heap.size 54 2 u7 (writersN (notes l l.length) s x).length (wrC (writersN (notes l l.length) s x))) := by rw [hke] at OR; exact OR.out
      clear hke
      go_wp2_with fail
      go_ret
      exact ⟨_, rfl, OE.out, BR.out⟩
end Go.Proofs.Ytnfbcmnlloipiaa
namespace Go.Proofs.Ytnfbcmnlloipiaa
set_option linter.unusedVariables false
set_option linter.unusedSimpArgs false
open Go.RowKit Go.Lib Go.Maps Go.Sort
open Tx (MTxn info_parts flatten_len flatten_get RowsIn.cells RowCells TxnRow TxnsIn setCell_self cloneInts_any OpsOwn)

/-- Each write's value is written once. -/
def onceN (N M : List MN) : Prop := ∀ x ∈ M, isW x.2.2.kind = true → (writersN N x.2.2.key x.2.2.value).length ≤ 1
theorem uniq_once (N : List MN) : uniqN N ↔ onceN N N := by
  constructor
  · intro h x _ _
    exact h _ _
  · intro h s v
    by_cases e : writersN N s v = []
    · rw [e]
      exact Nat.zero_le _
    · unfold writersN at e
      rw [List.map_eq_nil_iff] at e
      obtain ⟨x, hx⟩ := List.exists_mem_of_ne_nil _ e
      obtain ⟨h1, h2⟩ := List.mem_filter.1 hx
      unfold hitW at h2
      simp only [Bool.and_eq_true, decide_eq_true_eq] at h2
      obtain ⟨⟨a, rfl⟩, rfl⟩ := h2
      exact h x h1 a
theorem once_nil (N : List MN) : onceN N [] := fun x hx => by simp at hx
theorem once_snoc (N M : List MN) (x : MN) (h : onceN N M) (hx : isW x.2.2.kind = true → (writersN N x.2.2.key x.2.2.value).length ≤ 1) : onceN N (M ++ [x]) := fun y hy hw => by
  rcases List.mem_append.1 hy with hy | hy
  · exact h y hy hw
  · obtain rfl : y = x := by simpa using hy
    exact hx hw
theorem notes_mem (l : List MTxn) (k j : Nat) (hj : j < (l.getD k default).ops.length) : ∀ n, k < n → (k, j, (l.getD k default).ops.getD j default) ∈ notes l n
  | 0, h => absurd h (Nat.not_lt_zero _)
  | n + 1, h => by
    rw [notes]
    by_cases e : k = n
    · subst e
      refine List.mem_append_right _ (List.mem_map.2 ⟨j, by simpa using hj, rfl⟩)
    · exact List.mem_append_left _ (notes_mem l k j hj n (by omega))
set_option maxHeartbeats 8000000 in
set_option maxRecDepth 100000 in
theorem runiq_is {S : Nat → Prop} (w : World) (v : Value) (l : List MTxn) (h : TxnsIn S w v l) (hl : l.length ≤ 1000) (hten : ∀ t ∈ l, t.ops.length ≤ 10) :
    Calls Try.prog 36 #[v] w fun e w' => ∃ u : Bool, e = .returned (.bool u) ∧ (u = true ↔ uniqN (notes l l.length)) ∧ Below w.heap.size w w' := by
  have HT := hid h
  obtain ⟨a1, c1, rfl, l1, k1⟩ := RowsIn.cells h (by omega)
  have HC := hid k1
  have HTEN := hid hten
  have hli : (l.length : Int) ≤ 1000 := by omega
  clear h k1 hten
  go_enter Try.func36, Try.ntmps36
  go_wp2_with fail
  go_loopg [4, 6, 9] l.length (fun gg _ _ i wr => ∃ k : Nat, k ≤ l.length ∧ l.length - k ≤ gg ∧ i = .int .i64 k ∧ Aside (Below w.heap.size w wr) ∧ Aside (onceN (notes l l.length) (notes l k)))
  case atStart => exact ⟨0, Nat.zero_le _, by omega, rfl, Below.refl _ _, once_nil _⟩
  case round =>
    obtain ⟨k, hk, hgk, rfl, BR, OR⟩ := hrel
    by_cases hlt : k < l.length
    · have hlti : (k : Int) < l.length := by omega
      obtain ⟨b, o, cs, rfl, hbl, _, ⟨ov, hcs, hops⟩, hcell⟩ := HC.out k hlt
      subst hcs
      obtain ⟨oa, oc, hov, hol, hoc⟩ := id hops
      subst hov
      have hmem : l.getD k default ∈ l := by simp [List.getD, List.getElem?_eq_getElem hlt]
      have d0 := (BR.out.cell (p := ⟨b, o + k * 5 + 0, none⟩) hbl).trans (hcell 0 _ rfl)
      have d1 := (BR.out.cell (p := ⟨b, o + k * 5 + 1, none⟩) hbl).trans (hcell 1 _ rfl)
      have d2 := (BR.out.cell (p := ⟨b, o + k * 5 + 2, none⟩) hbl).trans (hcell 2 _ rfl)
      have d3 := (BR.out.cell (p := ⟨b, o + k * 5 + 3, none⟩) hbl).trans (hcell 3 _ rfl)
      have d4 := (BR.out.cell (p := ⟨b, o + k * 5 + 4, none⟩) hbl).trans (hcell 4 _ rfl)
      rw [Nat.add_zero] at d0
      have hten : (l.getD k default).ops.length ≤ 10 := HTEN.out _ hmem
      have HNT : Hid (notes l (k + 1) = notes l k ++ notesT k (l.getD k default).ops) := rfl
      have HME : Hid (∀ j, j < (l.getD k default).ops.length → (k, j, (l.getD k default).ops.getD j default) ∈ notes l l.length) := fun j hj => notes_mem l k j hj l.length hlt
      have HOC := hid hoc
      have BN : ∀ x, Hid (Below w.heap.size w (wr.alloc x)) := fun x => BR.out.trans ((below_box wr _).mono BR.out.size)
      generalize (l.getD k default).ops = T at *
      generalize l.getD k default = TX at *
      clear hcell hops hoc hmem
      go_wp2_with fail
      have hTi : (T.length : Int) ≤ 10 := by omega
      have OR2 := hid OR.out
      go_loopg [6, 16] T.length (fun gg _ i wi => ∃ j : Nat, j ≤ T.length ∧ T.length - j ≤ gg ∧ i = .int .i64 j ∧ Aside (Below w.heap.size w wi) ∧ Aside (onceN (notes l l.length) (notes l k ++ (notesT k T).take j)))
      case atStart => exact ⟨0, Nat.zero_le _, by omega, rfl, (BN _).out, (by rw [List.take_zero, List.append_nil]; exact OR2.out)⟩
      case round =>
        clear BN BR OR OR2 d0 d1 d2 d3 d4
        obtain ⟨j, hj, hgj, rfl, BJ, OJ⟩ := hrel
        by_cases hjl : j < T.length
        · have hjli : (j : Int) < T.length := by omega
          obtain ⟨ob, oo, rfl, _, hcs⟩ := HOC.out (by omega)
          obtain ⟨cs, _, ⟨lv, hcse, hli2⟩, hcell⟩ := hcs j hjl
          subst hcse
          obtain ⟨la, lc, rfl, _⟩ := id hli2
          have hobl := World.block_lt_of_cell? _ _ (hcell 0 _ rfl)
          have x0 := (BJ.out.cell (p := ⟨ob, oo + j * 6 + 0, none⟩) hobl).trans (hcell 0 _ rfl)
          have x1 := (BJ.out.cell (p := ⟨ob, oo + j * 6 + 1, none⟩) hobl).trans (hcell 1 _ rfl)
          have x2 := (BJ.out.cell (p := ⟨ob, oo + j * 6 + 2, none⟩) hobl).trans (hcell 2 _ rfl)
          have x3 := (BJ.out.cell (p := ⟨ob, oo + j * 6 + 3, none⟩) hobl).trans (hcell 3 _ rfl)
          have x4 := (BJ.out.cell (p := ⟨ob, oo + j * 6 + 4, none⟩) hobl).trans (hcell 4 _ rfl)
          have x5 := (BJ.out.cell (p := ⟨ob, oo + j * 6 + 5, none⟩) hobl).trans (hcell 5 _ rfl)
          rw [Nat.add_zero] at x0
          have hTK : Hid ((isW (T.getD j default).kind = true → (writersN (notes l l.length) (T.getD j default).key (T.getD j default).value).length ≤ 1) → onceN (notes l l.length) (notes l k ++ (notesT k T).take (j + 1))) := fun hx => by
            rw [notesT_take k T j hjl, ← List.append_assoc]
            exact once_snoc _ _ _ OJ.out hx
          have HBAD : Hid (isW (T.getD j default).kind = true → ¬ (writersN (notes l l.length) (T.getD j default).key (T.getD j default).value).length ≤ 1 → ¬ uniqN (notes l l.length)) := fun h1 h2 h3 => h2 (h3 _ _)
          clear hcell hcs hli2
          generalize T.getD j default = O at *
          obtain ⟨ok, os, ovv, ol, oh, on⟩ := O
          simp only [MOp.kind, MOp.key, MOp.value, MOp.list, MOp.has, MOp.nl] at x0 x1 x2 x3 x4 x5 hTK HBAD
          have RW := hid (fun W => rwrite_is (ok, os, ovv, ol, oh, on) la lc W)
          simp only [opV, MOp.kind, MOp.key, MOp.value, MOp.list, MOp.has, MOp.nl] at RW
          have hwrs : w.heap.size ≤ wr.heap.size := BJ.out.size
          have STEP : ∀ w2, Hid (Below (wr.alloc (.cells #[.int .i64 ok, .string os, .int .i64 ovv, .slice la ol.length lc, .bool oh, .bool on] 49)).heap.size (wr.alloc (.cells #[.int .i64 ok, .string os, .int .i64 ovv, .slice la ol.length lc, .bool oh, .bool on] 49)) w2 → Below w.heap.size w w2 ∧ wr.heap.size < w2.heap.size ∧ w2.cell? ⟨wr.heap.size, 1, none⟩ = some (.string os) ∧ w2.cell? ⟨wr.heap.size, 2, none⟩ = some (.int .i64 ovv)) := fun w2 hb => by
            have hb1 : Below wr.heap.size wr w2 := (below_box wr _).trans (hb.mono (by rw [alloc_size]; omega))
            have hs1 := hb.size
            rw [alloc_size] at hs1
            exact ⟨BJ.out.trans (hb1.mono hwrs), by omega, (hb.cell (p := ⟨wr.heap.size, 1, none⟩) (by simp)).trans (by simp), (hb.cell (p := ⟨wr.heap.size, 2, none⟩) (by simp)).trans (by simp)⟩
          clear BJ OJ
          cases hw : isW ok with
          | false =>
            have hh := hid (hTK.out (fun c => absurd c (by rw [hw]; decide)))
            rw [hw] at RW
            clear hTK hw HBAD
            go_wp2_with (go_at_call 63; refine (RW.out _).mono ?_; rintro e w2 ⟨rfl, b2⟩; obtain ⟨p1, p3, p4, p5⟩ := (STEP w2).out b2; have B2 := hid p1; clear p1 b2 STEP RW)
            go_roundg (T.length - (j + 1))
            case measure => omega
            case rel => exact ⟨j + 1, by omega, by omega, by go_num, B2.out, hh.out⟩
          | true =>
            rw [hw] at RW
            have HW := hid hw
            clear hw
            by_cases hone : (writersN (notes l l.length) os ovv).length ≤ 1
            · have hh := hid (hTK.out (fun _ => hone))
              have hgt : ¬ (1 < ((writersN (notes l l.length) os ovv).length : Int)) := by omega
              have hgd : decide (1 < ((writersN (notes l l.length) os ovv).length : Int)) = false := by simpa using hgt
              clear hTK HBAD
              go_wp2_with (first
                | (go_at_call 63; refine (RW.out _).mono ?_; rintro e w2 ⟨rfl, b2⟩; obtain ⟨p1, p3, p4, p5⟩ := (STEP w2).out b2; have B2 := hid p1; clear p1 b2 STEP RW)
                | (go_at_call 64; refine (rwriters_is w2 _ l os ovv (HT.out.keep (keeps_below (B2.out.mono (Nat.le_refl _))) (fun _ _ h => h)) (by omega) HTEN.out).mono ?_; rintro e w3 ⟨v3, rfl, h3, b3⟩; obtain ⟨va, vc, rfl⟩ := own_slice h3; have B3 : Hid (Below w.heap.size w w3) := B2.out.trans (b3.mono B2.out.size); clear h3 b3))
              go_roundg (T.length - (j + 1))
              case measure => omega
              case rel => exact ⟨j + 1, by omega, by omega, by go_num, B3.out, hh.out⟩
            · have hN := hid (HBAD.out HW.out hone)
              have hgt : 1 < ((writersN (notes l l.length) os ovv).length : Int) := by omega
              have hgd : decide (1 < ((writersN (notes l l.length) os ovv).length : Int)) = true := by simpa using hgt
              clear hTK HBAD
              go_wp2_with (first
                | (go_at_call 63; refine (RW.out _).mono ?_; rintro e w2 ⟨rfl, b2⟩; obtain ⟨p1, p3, p4, p5⟩ := (STEP w2).out b2; have B2 := hid p1; clear p1 b2 STEP RW)
                | (go_at_call 64; refine (rwriters_is w2 _ l os ovv (HT.out.keep (keeps_below (B2.out.mono (Nat.le_refl _))) (fun _ _ h => h)) (by omega) HTEN.out).mono ?_; rintro e w3 ⟨v3, rfl, h3, b3⟩; obtain ⟨va, vc, rfl⟩ := own_slice h3; have B3 : Hid (Below w.heap.size w w3) := B2.out.trans (b3.mono B2.out.size); clear h3 b3))
              go_ret
              exact ⟨false, rfl, ⟨fun c => absurd c (by decide), fun c => absurd c hN.out⟩, B3.out⟩
        · have hje : j = T.length := by omega
          rw [hje, List.take_of_length_le (by rw [notesT_len]; exact Nat.le_refl _)] at OJ
          clear hje
          go_wp2_with fail
          go_roundg (l.length - (k + 1))
          case measure => omega
          case rel => exact ⟨k + 1, by omega, by omega, by go_num, BJ.out, (by rw [HNT.out]; exact OJ.out)⟩
    · have hke : k = l.length := by omega
      have OE : Hid (uniqN (notes l l.length)) := by rw [hke] at OR; exact (uniq_once _).2 OR.out
      clear hke
      go_wp2_with fail
      go_ret
      exact ⟨true, rfl, ⟨fun _ => OE.out, fun _ => rfl⟩, BR.out⟩
end Go.Proofs.Ytnfbcmnlloipiaa
namespace Go.Proofs.Ytnfbcmnlloipiaa
set_option linter.unusedVariables false
set_option linter.unusedSimpArgs false
open Go.RowKit Go.Lib Go.Maps Go.Sort
open Tx (MTxn info_parts flatten_len flatten_get RowsIn.cells RowCells TxnRow TxnsIn TxnsOwn setCell_self cloneInts_any OpsOwn smallL cutTxn cutOp)

theorem u64_mod (n : Int) (m : Nat) (hm : 0 < m) (hm2 : m ≤ 4294967296) : ∃ N : Nat, N < m ∧ wrap64 ((IntKind.u64.wrap n).tmod m) = N := by
  rw [IntKind.wrap_u64]
  have h0 : 0 ≤ n % 18446744073709551616 := Int.emod_nonneg _ (by decide)
  rw [Int.tmod_eq_emod_of_nonneg h0]
  have h1 := Int.emod_nonneg (n % 18446744073709551616) (show (m : Int) ≠ 0 by omega)
  have h2 := Int.emod_lt_of_pos (n % 18446744073709551616) (show (0 : Int) < m by omega)
  refine ⟨(n % 18446744073709551616 % m).toNat, by omega, ?_⟩
  unfold wrap64
  omega
theorem txns_ins {B : Nat} {w : World} {v : Value} {l : List MTxn} (h : TxnsOwn B w v l) : TxnsIn Any w v l := by
  obtain ⟨ao, c, hv, hl, hc⟩ := h
  refine ⟨ao, c, hv, hl, fun h0 => ?_⟩
  obtain ⟨b, D, rfl, hT⟩ := hc h0
  refine ⟨b, 0, rfl, trivial, fun j hj => ?_⟩
  obtain ⟨ov, h1, h2⟩ := hT.row j hj
  refine ⟨_, rfl, ⟨ov, rfl, h2.ops.keep (fun _ _ _ => rfl) (fun _ _ _ => trivial)⟩, fun i u hi => ?_⟩
  have := h1 i u hi
  simpa using this
theorem small_len (l : List MTxn) : (smallL l).length ≤ 40 := by
  unfold smallL
  rw [List.length_map, List.length_take]
  omega
theorem small_mem {l : List MTxn} {t : MTxn} (h : t ∈ smallL l) : ∃ t0 ∈ l, t = cutTxn t0 := by
  unfold smallL at h
  obtain ⟨t0, h1, h2⟩ := List.mem_map.1 h
  exact ⟨t0, List.mem_of_mem_take h1, h2.symm⟩
theorem small_ten {l : List MTxn} {t : MTxn} (h : t ∈ smallL l) : t.ops.length ≤ 10 := by
  obtain ⟨t0, _, rfl⟩ := small_mem h
  show ((t0.ops.take 10).map cutOp).length ≤ 10
  rw [List.length_map, List.length_take]
  omega
theorem small_ok {l : List MTxn} (hl : ∀ t ∈ l, ∀ o ∈ t.ops, OpOk o) {t : MTxn} (h : t ∈ smallL l) : ∀ o ∈ t.ops, OpOk o := by
  obtain ⟨t0, h0, rfl⟩ := small_mem h
  intro o ho
  have ho' : o ∈ (t0.ops.take 10).map cutOp := ho
  obtain ⟨o0, h1, rfl⟩ := List.mem_map.1 ho'
  exact hl t0 h0 o0 (List.mem_of_mem_take h1)

theorem getD_at {α : Type} [Inhabited α] (l : List α) (j : Nat) (h : j < l.length) : l.getD j default = l[j] := by simp [List.getD, List.getElem?_eq_getElem h]
theorem getD_mem {α : Type} [Inhabited α] (l : List α) (j : Nat) (h : j < l.length) : l.getD j default ∈ l := by rw [getD_at l j h]; exact List.getElem_mem h
/-! Twice the same transaction. -/
theorem notes_left (l m : List MTxn) : ∀ k, k ≤ l.length → notes (l ++ m) k = notes l k
  | 0, _ => rfl
  | k + 1, h => by
    rw [notes, notes, notes_left l m k (by omega)]
    have e : (l ++ m).getD k default = l.getD k default := by simp [List.getD, List.getElem?_append_left (show k < l.length by omega)]
    rw [e]
theorem notes_twice (l : List MTxn) (x : MTxn) : notes (l ++ [x]) (l ++ [x]).length = notes l l.length ++ notesT l.length x.ops := by
  rw [List.length_append, List.length_singleton, notes, notes_left l [x] l.length (Nat.le_refl _)]
  have e : (l ++ [x]).getD l.length default = x := by simp [List.getD]
  rw [e]
theorem writers_append (N M : List MN) (s : ByteArray) (v : Int) : writersN (N ++ M) s v = writersN N s v ++ writersN M s v := by
  unfold writersN
  rw [List.filter_append, List.map_append]
theorem writers_pos {N : List MN} {x : MN} (h : x ∈ N) (hw : isW x.2.2.kind = true) : 0 < (writersN N x.2.2.key x.2.2.value).length := by
  unfold writersN
  rw [List.length_map]
  exact List.length_pos_of_mem (List.mem_filter.2 ⟨h, by simp [hitW, hw]⟩)
theorem twice_uniq (l : List MTxn) (i : Nat) (hi : i < l.length) : uniqN (notes (l ++ [l.getD i default]) (l ++ [l.getD i default]).length) ↔ ((l.getD i default).ops.any (fun o => isW o.kind) = false ∧ uniqN (notes l l.length)) := by
  rw [notes_twice]
  constructor
  · intro h
    refine ⟨?_, fun s v => ?_⟩
    · rw [← Bool.not_eq_true]
      intro hc
      obtain ⟨o, ho, hw⟩ := List.any_eq_true.1 hc
      obtain ⟨j, hj, e⟩ := List.mem_iff_getElem.1 ho
      have ej : (l.getD i default).ops.getD j default = o := (getD_at _ j hj).trans e
      have h1 := notes_mem l i j hj l.length hi
      have h2 : (l.length, j, (l.getD i default).ops.getD j default) ∈ notesT l.length (l.getD i default).ops := List.mem_map.2 ⟨j, by simpa using hj, rfl⟩
      rw [ej] at h1 h2
      have p1 := writers_pos h1 hw
      have p2 := writers_pos h2 hw
      have := h o.key o.value
      rw [writers_append, List.length_append] at this
      have q1 : 0 < (writersN (notes l l.length) o.key o.value).length := p1
      have q2 : 0 < (writersN (notesT l.length (l.getD i default).ops) o.key o.value).length := p2
      omega
    · have := h s v
      rw [writers_append, List.length_append] at this
      omega
  · rintro ⟨h1, h2⟩ s v
    rw [writers_append]
    have e : writersN (notesT l.length (l.getD i default).ops) s v = [] := by
      unfold writersN
      rw [List.map_eq_nil_iff, List.filter_eq_nil_iff]
      intro x hx
      obtain ⟨j, hj, rfl⟩ := List.mem_map.1 hx
      have hj2 : j < (l.getD i default).ops.length := by simpa using hj
      have hm : (l.getD i default).ops.getD j default ∈ (l.getD i default).ops := getD_mem _ j hj2
      have : isW ((l.getD i default).ops.getD j default).kind = false := by
        cases hc : isW ((l.getD i default).ops.getD j default).kind with
        | false => rfl
        | true =>
          have h3 : (l.getD i default).ops.any (fun o => isW o.kind) = true := List.any_eq_true.2 ⟨_, hm, hc⟩
          rw [h1] at h3
          cases h3
      show ¬ hitW s v (l.length, j, (l.getD i default).ops.getD j default) = true
      unfold hitW
      rw [show isW (l.length, j, (l.getD i default).ops.getD j default).2.2.kind = false from this]
      simp
    rw [e, List.append_nil]
    exact h2 s v
theorem any_take (T : List MOp) (j : Nat) (h : j < T.length) : (T.take (j + 1)).any (fun o => isW o.kind) = ((T.take j).any (fun o => isW o.kind) || isW (T.getD j default).kind) := by
  rw [List.take_succ_eq_append_getElem h, List.any_append]
  simp [List.getD, List.getElem?_eq_getElem h]
/-! Does a transaction write. -/
theorem tu1_is (o : MOp) (a : Option Addr) (c : Nat) (w : World) : Calls Try.prog 28 #[opV o a c] w fun e w' => e = .returned (.bool (isW o.kind)) ∧ Below w.heap.size w w' := by
  have BB : ∀ x, Hid (Below w.heap.size w (w.alloc x)) := fun x => below_box w x
  obtain ⟨k, s, v, l, p, q⟩ := o
  simp only [MOp.kind, MOp.key, MOp.value, MOp.list, MOp.has, MOp.nl, opV] at *
  by_cases h1 : k = 1
  · subst h1
    go_enter Try.func28, Try.ntmps28
    go_wp2_with fail
    go_ret
    exact ⟨rfl, (BB _).out⟩
  · by_cases h3 : k = 3
    · subst h3
      go_enter Try.func28, Try.ntmps28
      go_wp2_with fail
      go_ret
      exact ⟨rfl, (BB _).out⟩
    · have b1 : (k == 1) = false := by simpa using h1
      have b3 : (k == 3) = false := by simpa using h3
      have e : Hid (isW k = false) := by show isW k = false; simp [isW, h1, h3]
      go_enter Try.func28, Try.ntmps28
      go_wp2_with fail
      go_ret
      exact ⟨by rw [e.out]; rfl, (BB _).out⟩
set_option maxHeartbeats 4000000 in
set_option maxRecDepth 100000 in
theorem idxFO_is {S : Nat → Prop} (w : World) (v : Value) (T : List MOp) (h : OpsIn S w v T) (hT : T.length ≤ 1000) :
    Calls Try.prog 53 #[v, .func (.func 28) #[] #[]] w fun e w' => ∃ n : Int, e = .returned (.int .i64 n) ∧ ((0 ≤ n) ↔ T.any (fun o => isW o.kind) = true) ∧ Below w.heap.size w w' := by
  obtain ⟨a1, c1, rfl, l1, k1⟩ := RowsIn.cells h (by omega)
  have HC := hid k1
  have hTi : (T.length : Int) ≤ 1000 := by omega
  clear h k1
  go_enter Try.func53, Try.ntmps53
  go_wp2_with fail
  go_loopg [5, 8] T.length (fun gg _ i wr => ∃ j : Nat, j ≤ T.length ∧ T.length - j ≤ gg ∧ i = .int .i64 j ∧ Aside (Below w.heap.size w wr) ∧ Aside ((T.take j).any (fun o => isW o.kind) = false))
  case atStart => exact ⟨0, Nat.zero_le _, by omega, rfl, Below.refl _ _, rfl⟩
  case round =>
    obtain ⟨j, hj, hgj, rfl, BJ, AJ⟩ := hrel
    by_cases hjl : j < T.length
    · have hjli : (j : Int) < T.length := by omega
      obtain ⟨ob, oo, cs, rfl, hobl, _, ⟨lv, hcse, hli2⟩, hcell⟩ := HC.out j hjl
      subst hcse
      obtain ⟨la, lc, rfl, _⟩ := id hli2
      have x0 := (BJ.out.cell (p := ⟨ob, oo + j * 6 + 0, none⟩) hobl).trans (hcell 0 _ rfl)
      have x1 := (BJ.out.cell (p := ⟨ob, oo + j * 6 + 1, none⟩) hobl).trans (hcell 1 _ rfl)
      have x2 := (BJ.out.cell (p := ⟨ob, oo + j * 6 + 2, none⟩) hobl).trans (hcell 2 _ rfl)
      have x3 := (BJ.out.cell (p := ⟨ob, oo + j * 6 + 3, none⟩) hobl).trans (hcell 3 _ rfl)
      have x4 := (BJ.out.cell (p := ⟨ob, oo + j * 6 + 4, none⟩) hobl).trans (hcell 4 _ rfl)
      have x5 := (BJ.out.cell (p := ⟨ob, oo + j * 6 + 5, none⟩) hobl).trans (hcell 5 _ rfl)
      rw [Nat.add_zero] at x0
      have HTK : Hid ((T.take (j + 1)).any (fun o => isW o.kind) = ((T.take j).any (fun o => isW o.kind) || isW (T.getD j default).kind)) := any_take T j hjl
      have HMM : Hid (isW (T.getD j default).kind = true → T.any (fun o => isW o.kind) = true) := fun h => List.any_eq_true.2 ⟨_, by simp [List.getD, List.getElem?_eq_getElem hjl], h⟩
      clear hcell hli2
      generalize T.getD j default = O at *
      obtain ⟨ok, os, ovv, ol, oh, on⟩ := O
      simp only [MOp.kind, MOp.key, MOp.value, MOp.list, MOp.has, MOp.nl] at x0 x1 x2 x3 x4 x5 HTK HMM
      have RW := hid (fun W => tu1_is (ok, os, ovv, ol, oh, on) la lc W)
      simp only [opV, MOp.kind, MOp.key, MOp.value, MOp.list, MOp.has, MOp.nl] at RW
      cases hw : isW ok with
      | false =>
        rw [hw] at RW
        have A2 : Hid ((T.take (j + 1)).any (fun o => isW o.kind) = false) := by
          show _ = _
          rw [HTK.out, hw, AJ.out]
          rfl
        clear hw HTK HMM
        go_wp2_with (go_at_call 28; refine (RW.out _).mono ?_; rintro e w2 ⟨rfl, b2⟩; have B2 : Hid (Below w.heap.size w w2) := BJ.out.trans (b2.mono BJ.out.size); clear b2)
        go_roundg (T.length - (j + 1))
        case measure => omega
        case rel => exact ⟨j + 1, by omega, by omega, by go_num, B2.out, A2.out⟩
      | true =>
        rw [hw] at RW
        have HA := hid (HMM.out hw)
        clear hw HTK HMM
        go_wp2_with (go_at_call 28; refine (RW.out _).mono ?_; rintro e w2 ⟨rfl, b2⟩; have B2 : Hid (Below w.heap.size w w2) := BJ.out.trans (b2.mono BJ.out.size); clear b2)
        go_ret
        exact ⟨j, rfl, ⟨fun _ => HA.out, fun _ => by omega⟩, B2.out⟩
    · have hje : j = T.length := by omega
      have AE : Hid (T.any (fun o => isW o.kind) = false) := by rw [hje, List.take_of_length_le (Nat.le_refl _)] at AJ; exact AJ.out
      clear hje
      go_wp2_with fail
      go_ret
      exact ⟨-1, rfl, ⟨fun c => absurd c (by decide), fun c => absurd (c.symm.trans AE.out) (by decide)⟩, BJ.out⟩
theorem contFO_is {S : Nat → Prop} (w : World) (v : Value) (T : List MOp) (h : OpsIn S w v T) (hT : T.length ≤ 1000) :
    Calls Try.prog 27 #[v, .func (.func 28) #[] #[]] w fun e w' => e = .returned (.bool (T.any (fun o => isW o.kind))) ∧ Below w.heap.size w w' := by
  have HI := hid (fun W (hb : Below w.heap.size w W) => idxFO_is W v T (h.keep (keeps_below hb) (fun _ _ x => x)) hT)
  clear h
  cases ha : T.any (fun o => isW o.kind) with
  | false =>
    go_enter Try.func27, Try.ntmps27
    go_wp2_with (go_at_call 53; refine (HI.out _ (Below.refl _ _)).mono ?_; rintro e w2 ⟨n, rfl, hn, b2⟩; have hlt : n < 0 := (by have hc : ¬ 0 ≤ n := fun c => absurd (ha.symm.trans (hn.1 c)) (by decide); omega); have hd : decide (0 ≤ n) = false := (by simp; omega); have B2 := hid b2; clear hn b2)
    go_ret
    exact ⟨rfl, B2.out⟩
  | true =>
    go_enter Try.func27, Try.ntmps27
    go_wp2_with (go_at_call 53; refine (HI.out _ (Below.refl _ _)).mono ?_; rintro e w2 ⟨n, rfl, hn, b2⟩; have hlt : 0 ≤ n := hn.2 ha; have hd : decide (0 ≤ n) = true := (by simpa using hlt); have B2 := hid b2; clear hn b2)
    go_ret
    exact ⟨rfl, B2.out⟩
end Go.Proofs.Ytnfbcmnlloipiaa
