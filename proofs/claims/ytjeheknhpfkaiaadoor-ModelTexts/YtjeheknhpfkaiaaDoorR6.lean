/-
  The document's Apply, whole.
-/
import Derived.Test.YtjeheknhpfkaiaaDoorR5
namespace Go.Proofs.YtjeheknhpfkaiaaDoor
set_option linter.unusedVariables false
set_option linter.unusedSimpArgs false
open Go.RowKit Go.Lib

theorem st_most (L l : List MOp) (k : Nat) (h : k < l.length) : (stM L l k).length + 1 ≤ L.length + l.length := by
  unfold stM
  rw [List.length_append]
  have h1 := List.length_filter_le wrB (l.take k)
  have h2 : (l.take k).length ≤ k := List.length_take_le _ _
  omega
set_option maxHeartbeats 8000000 in
set_option maxRecDepth 100000 in
theorem rapply_is (B : Nat) (w : World) (xb : Nat) (v : Value) (L l : List MOp) (lvv : Value) (blind : Bool) (h : Rst B w xb v L) (hB : B ≤ w.heap.size) (hl : OpsIn Any w lvv l) (hL : L.length + l.length ≤ 1099511627776) :
    Calls Tryd.prog 10 #[.pointer (some ⟨xb, 0, none⟩), lvv, .bool blind] w fun e w' => ∃ b v', e = .returned (.bool b) ∧ (b = true ↔ okM L l blind) ∧ Rst B w' xb v' (if b = true then stM L l l.length else L) ∧ (∀ g, v'.ownBlock = some g → v.ownBlock = some g ∨ w.heap.size ≤ g) ∧ Gro (fun b => b = xb) w w' := by
  obtain ⟨ao, c, lv, rfl, ⟨hby, hcap⟩, hc, hi⟩ := ops_cells hl
  obtain ⟨i0, hi0, hz0, hz1, hz2⟩ := info_parts Tryd.infoOp
  obtain ⟨rd0, r1, r2, r3⟩ := h.row
  have hob := Lib.cell_of_heap h.ob 0
  have hrl0 : rd0.length = L.length := by rw [← r2, List.length_map]
  obtain ⟨va, vc, hvs⟩ := own_slice r1
  have HC := hid hc
  have HI := hid hi
  have H0 := hid h
  have HI0 := hid hi0
  have HZ0 := hid hz0
  have HZ1 := hid hz1
  have HZ2 := hid hz2
  have R1 := hid r1
  have R2 := hid r2
  have R3 := hid r3
  have hxl : xb < w.heap.size := h.lt
  have HVS := hid hvs
  rw [hvs] at hob
  have hlen : (l.length : Int) ≤ 1099511627776 := by omega
  have hrl1 : rd0.length ≤ 1099511627776 := by omega
  clear hc hi h hl hi0 hz0 hz1 hz2 r1 r2 r3 hvs hrl0
  go_enter Tryd.func10, Tryd.ntmps10
  go_wp2_with (at_builtin; refine wpList_copyO w.heap.size B (w.alloc (.cells #[] 56)) rfl _ _ rfl w.heap.size rfl (by rw [alloc_at, if_pos rfl]) (Nat.le_refl _) (.slice va rd0.length vc) rfl rd0 (by have := R1.out.alloc (.cells #[] 56); rw [HVS.out] at this; exact this) R3.out hrl1 ?_; intro u0 w4 ho4 hb4; obtain ⟨a4, c4, hu4⟩ := own_slice ho4; have O4 := hid ho4; have B4 : Hid (Below w.heap.size w w4) := (below_box w _).trans hb4; clear ho4 hb4; subst hu4)
  obtain ⟨x2, hx2⟩ : ∃ x2, w4.heap.size = x2 := ⟨_, rfl⟩
  obtain ⟨w1, hw1⟩ : ∃ w1, w4.alloc (.cells #[.slice a4 rd0.length c4] 35) = w1 := ⟨_, rfl⟩
  have B1 : Hid (Below w.heap.size w w1) := by rw [← hw1]; exact B4.out.trans ((below_box w4 _).mono B4.out.size)
  have RX1 : Hid (Rst w.heap.size w1 x2 (.slice a4 rd0.length c4) L) := by
    refine ⟨by rw [← hw1, ← hx2, alloc_at, if_pos rfl], ⟨rd0, ?_, R2.out, R3.out⟩⟩
    rw [← hw1]
    exact O4.out.alloc _
  have hx2w : w.heap.size ≤ x2 := by have := B4.out.size; omega
  rw [hx2, hw1]
  clear hx2 hw1
  go_loopg [20] l.length (fun g i wr => ∃ k : Nat, k ≤ l.length ∧ l.length - k ≤ g ∧ i = .int .i64 k ∧ Aside (Below w.heap.size w wr) ∧ Aside (∃ u, Rst w.heap.size wr x2 u (stM L l k)) ∧ Aside (∀ j, j < k → blind = true ∨ rightM (stM L l j) (l.getD j default) = true))
  case atStart => exact ⟨0, Nat.zero_le _, by omega, rfl, B1.out, ⟨_, by rw [st_zero]; exact RX1.out⟩, fun j hj => absurd hj (Nat.not_lt_zero _)⟩
  case round =>
    obtain ⟨k, hk, hg, rfl, BR, RX, OK⟩ := hrel
    by_cases hlt : k < l.length
    · have hlti : (k : Int) < l.length := by omega
      obtain ⟨bz, oz, rfl, ⟨hbl, _⟩, k0, k1, k2, k3, k4, k5⟩ := HC.out k hlt
      have hL2 : IntsIn Any wr (lv k) (l.getD k default).list := (HI.out k hlt).keep (keeps_below BR.out) (fun _ _ _ => trivial)
      have q : ∀ i v, w.cell? ⟨bz, i, none⟩ = some v → wr.cell? ⟨bz, i, none⟩ = some v := fun i v hc => (BR.out.cell (p := ⟨bz, i, none⟩) hbl).trans hc
      have d0 := q _ _ k0
      have d1 := q _ _ k1
      have d2 := q _ _ k2
      have d3 := q _ _ k3
      have d4 := q _ _ k4
      have d5 := q _ _ k5
      obtain ⟨la, lc, hlv, _, _⟩ := hL2.cells
      obtain ⟨ln, hln⟩ : ∃ ln, (l.getD k default).list.length = ln := ⟨_, rfl⟩
      rw [hln] at hlv
      rw [hlv] at hL2 d3
      clear k0 k1 k2 k3 k4 k5 q hln
      obtain ⟨O, hO⟩ : ∃ O, l.getD k default = O := ⟨_, rfl⟩
      have HO := hid hO
      rw [hO] at d0 d1 d2 d4 d5 hL2
      clear hO hlv
      have LI := hid hL2
      clear hL2
      have hsk := st_len L l k
      cases blind with
      | true =>
        have RT : Hid (true = true ∨ rightM (stM L l k) O = true) := .inl rfl
        obtain ⟨W, hW⟩ : ∃ W, wr.alloc (.cells #[.int .i64 O.kind, .string O.key, .int .i64 O.value, .slice la ln lc, .bool O.has, .bool O.nl] 56) = W := ⟨_, rfl⟩
        have BW : Hid (Below wr.heap.size wr W) := by rw [← hW]; exact below_box wr _
        have HBx : Hid (W.heap[wr.heap.size]? = some (.cells #[.int .i64 O.kind, .string O.key, .int .i64 O.value, .slice la ln lc, .bool O.has, .bool O.nl] 56)) := by rw [← hW]; show (wr.alloc _).heap[wr.heap.size]? = _; rw [alloc_at, if_pos rfl]
        have HWW := hid hW
        clear hW
        by_cases h1 : O.kind = 1
        · have e1 : (O.kind == 1) = true := by simp [h1]
          have HWR : Hid (wrB O = true) := by show wrB O = true; simp [wrB, h1]
          clear h1
          obtain ⟨u, hu⟩ := RX.out
          have hob := hu.ob
          obtain ⟨rd, q1, q2, q3⟩ := hu.row
          have RW : Hid (Rst w.heap.size W x2 u (stM L l k)) := hu.later BW.out
          obtain ⟨ua, uc, hus⟩ := own_slice q1
          have hrl : rd.length = (stM L l k).length := by rw [← q2, List.length_map]
          have hsl : (stM L l k).length ≤ 1099511627775 := by have := st_most L l k hlt; omega
          have hrl2 : rd.length ≤ 1099511627775 := by omega
          have ROWW : Hid (W.ownsRow w.heap.size 56 6 u rd.length (rowsV rd)) := own_same q1 (fun g hg => BW.out.block g (own_block2 q1 hg).2)
          subst hus
          have OWN : Hid (∀ o, (W.alloc o).drew.ownsRow w.heap.size 56 6 (.slice ua rd.length uc) rd.length (rowsV rd)) := fun o => own_same ROWW.out (fun g hg => (below_box W o).block g (own_block2 ROWW.out hg).2)
          have NEWS : Hid (∀ o, (W.alloc o).drew.heap[W.heap.size]? = some o) := fun o => by show (W.alloc o).heap[W.heap.size]? = _; rw [alloc_at, if_pos rfl]
          have cb : W.cell? ⟨x2, 0, none⟩ = some (.slice ua rd.length uc) := Lib.cell_of_heap RW.out.ob 0
          have fb : W.frozen? ⟨x2, 0, none⟩ = false := Lib.frozen_of_heap RW.out.ob 0
          have hx2l : x2 < W.heap.size := blt RW.out.ob
          have hxb2 : wr.heap.size < W.heap.size := blt HBx.out
          have NE : Hid ((Value.slice ua rd.length uc).ownBlock ≠ some x2) := row_tag2 ROWW.out RW.out.ob (by decide)
          have HQ2 := hid q2
          have HQ3 := hid q3
          have hwz : w.heap.size ≤ W.heap.size := by have := BR.out.size; omega
          have y0 := Lib.cell_of_heap HBx.out 0
          have y1 := Lib.cell_of_heap HBx.out 1
          have y2 := Lib.cell_of_heap HBx.out 2
          have y3 := Lib.cell_of_heap HBx.out 3
          have y4 := Lib.cell_of_heap HBx.out 4
          have y5 := Lib.cell_of_heap HBx.out 5
          clear hu hob q1 q2 q3 hrl
          go_wp2_with fail
          rw [show wr.alloc (.cells #[.int .i64 O.kind, .string O.key, .int .i64 O.value, .slice la ln lc, .bool O.has, .bool O.nl] 56) = W from HWW.out]
          go_region_law (refine step_append_lies _ rfl (.tmp 44) (.tmp 46) 22 rfl w.heap.size 56 i0 (.agg #[.int .i64 0, .string ⟨#[]⟩, .int .i64 0, .slice none 0 0, .bool false, .bool false]) 6 64 Tryd.underlying22 HI0.out HZ0.out HZ1.out HZ2.out rfl (by decide) (.slice ua rd.length uc) rd.length (rowsV rd) (by simp [Act.eval, Act.put]) (OWN.out _) ⟨W.heap.size, 0, none⟩ 1 1 (opC O (.slice la ln lc)) (by simp [Act.eval, Act.put]) rfl (World.news_of_block (cs := #[.int .i64 O.kind, .string O.key, .int .i64 O.value, .slice la ln lc, .bool O.has, .bool O.nl]) (t := 56) (fr := (0, 0)) (NEWS.out _)) (opC_one O la ln lc) (by decide) (by unfold maxLen; omega) (by omega) (by show w.heap.size ≤ (W.alloc _).heap.size; rw [alloc_size]; omega) (W.heap.size + 1) (by simp) ?_; intro g cap w6 hown hgrow hat hglt; have G6 : Hid (∀ b, b < W.heap.size → (Value.slice ua rd.length uc).ownBlock ≠ some b → w6.heap[b]? = W.heap[b]?) := (fun b hb hne => (hgrow.block b (by show b < (W.alloc _).heap.size; rw [alloc_size]; exact Nat.lt_succ_of_lt hb) (fun e => hne e.symm)).trans ((below_box W _).block b hb)); have Z6 : Hid (W.heap.size + 1 ≤ w6.heap.size) := (by have := (show (W.alloc (.cells #[.int .i64 O.kind, .string O.key, .int .i64 O.value, .slice la ln lc, .bool O.has, .bool O.nl] 56)).heap.size ≤ w6.heap.size from hgrow.size); rw [alloc_size] at this; exact this); have X6 : Hid (w6.heap[x2]? = some (.cells #[.slice ua rd.length uc] 35 (0, 0))) := (G6.out x2 hx2l NE.out).trans RW.out.ob; have cb6 : w6.cell? ⟨x2, 0, none⟩ = some (.slice ua rd.length uc) := Lib.cell_of_heap X6.out 0; have fb6 : w6.frozen? ⟨x2, 0, none⟩ = false := Lib.frozen_of_heap X6.out 0; have O6 := hid hown; have T6 : Hid (w6.os = W.os ∧ w6.tape = W.tape ∧ w6.output = W.output) := ⟨hgrow.os, hgrow.tape, hgrow.output⟩; have A6 := hid hat; clear hown hgrow hat hglt)
          all_goals
            go_wp2_with fail
            go_roundg (l.length - (k + 1))
            case measure => omega
            case rel =>
              have hsn : stM L l (k + 1) = stM L l k ++ [O] := by rw [st_next L l k hlt, HO.out, if_pos HWR.out]
              have hne2 : (Value.slice (some ⟨g, 0, none⟩) (rd.length + 1) cap).ownBlock ≠ some x2 := fun e => by
                have e' : g = x2 := by simpa [Value.ownBlock] using e
                rcases A6.out with q | q
                · exact NE.out (by rw [q, e'])
                · omega
              refine ⟨k + 1, by omega, by omega, by go_num, (show Aside _ from ?_), (show Aside _ from ⟨_, ⟨set_same X6.out, ⟨rd ++ [(O, .slice la ln lc)], ?_, ?_, ?_⟩⟩⟩), (show Aside _ from fun j hj => ?_)⟩
              · refine ⟨T6.out.1.trans (BW.out.os.trans BR.out.os), T6.out.2.1.trans (BW.out.tape.trans BR.out.tape), T6.out.2.2.trans (BW.out.output.trans BR.out.output), ?_, fun b hb => ?_⟩
                · have h1 := Z6.out
                  show w.heap.size ≤ (w6.setCell _ _).heap.size
                  simp only [World.setCell, Array.size_modify]
                  omega
                · rw [set_ne (by show b ≠ x2; omega), G6.out b (by omega) (fun e => by have := (own_block2 ROWW.out e).1; omega)]
                  exact (BW.out.block b (by have := BR.out.size; omega)).trans (BR.out.block b hb)
              · rw [List.length_append, rowsV_snoc]
                refine own_same O6.out (fun q hq => set_ne (fun e => ?_))
                exact hne2 (by rw [hq, e])
              · rw [List.map_append, HQ2.out, hsn]
                rfl
              · intro r hr
                rcases List.mem_append.1 hr with q | q
                · exact HQ3.out r q
                · simp at q
                  subst q
                  exact ⟨_, _, _, rfl⟩
              · by_cases e : j = k
                · subst e
                  rw [HO.out]
                  exact RT.out
                · exact OK.out j (by omega)
        · have e1 : (O.kind == 1) = false := by simp [h1]
          by_cases h3 : O.kind = 3
          · have e3 : (O.kind == 3) = true := by simp [h3]
            have HWR : Hid (wrB O = true) := by show wrB O = true; simp [wrB, h3]
            clear h1 h3
            obtain ⟨u, hu⟩ := RX.out
            have hob := hu.ob
            obtain ⟨rd, q1, q2, q3⟩ := hu.row
            have RW : Hid (Rst w.heap.size W x2 u (stM L l k)) := hu.later BW.out
            obtain ⟨ua, uc, hus⟩ := own_slice q1
            have hrl : rd.length = (stM L l k).length := by rw [← q2, List.length_map]
            have hsl : (stM L l k).length ≤ 1099511627775 := by have := st_most L l k hlt; omega
            have hrl2 : rd.length ≤ 1099511627775 := by omega
            have ROWW : Hid (W.ownsRow w.heap.size 56 6 u rd.length (rowsV rd)) := own_same q1 (fun g hg => BW.out.block g (own_block2 q1 hg).2)
            subst hus
            have OWN : Hid (∀ o, (W.alloc o).drew.ownsRow w.heap.size 56 6 (.slice ua rd.length uc) rd.length (rowsV rd)) := fun o => own_same ROWW.out (fun g hg => (below_box W o).block g (own_block2 ROWW.out hg).2)
            have NEWS : Hid (∀ o, (W.alloc o).drew.heap[W.heap.size]? = some o) := fun o => by show (W.alloc o).heap[W.heap.size]? = _; rw [alloc_at, if_pos rfl]
            have cb : W.cell? ⟨x2, 0, none⟩ = some (.slice ua rd.length uc) := Lib.cell_of_heap RW.out.ob 0
            have fb : W.frozen? ⟨x2, 0, none⟩ = false := Lib.frozen_of_heap RW.out.ob 0
            have hx2l : x2 < W.heap.size := blt RW.out.ob
            have hxb2 : wr.heap.size < W.heap.size := blt HBx.out
            have NE : Hid ((Value.slice ua rd.length uc).ownBlock ≠ some x2) := row_tag2 ROWW.out RW.out.ob (by decide)
            have HQ2 := hid q2
            have HQ3 := hid q3
            have hwz : w.heap.size ≤ W.heap.size := by have := BR.out.size; omega
            have y0 := Lib.cell_of_heap HBx.out 0
            have y1 := Lib.cell_of_heap HBx.out 1
            have y2 := Lib.cell_of_heap HBx.out 2
            have y3 := Lib.cell_of_heap HBx.out 3
            have y4 := Lib.cell_of_heap HBx.out 4
            have y5 := Lib.cell_of_heap HBx.out 5
            clear hu hob q1 q2 q3 hrl
            go_wp2_with fail
            rw [show wr.alloc (.cells #[.int .i64 O.kind, .string O.key, .int .i64 O.value, .slice la ln lc, .bool O.has, .bool O.nl] 56) = W from HWW.out]
            go_region_law (refine step_append_lies _ rfl (.tmp 44) (.tmp 46) 22 rfl w.heap.size 56 i0 (.agg #[.int .i64 0, .string ⟨#[]⟩, .int .i64 0, .slice none 0 0, .bool false, .bool false]) 6 64 Tryd.underlying22 HI0.out HZ0.out HZ1.out HZ2.out rfl (by decide) (.slice ua rd.length uc) rd.length (rowsV rd) (by simp [Act.eval, Act.put]) (OWN.out _) ⟨W.heap.size, 0, none⟩ 1 1 (opC O (.slice la ln lc)) (by simp [Act.eval, Act.put]) rfl (World.news_of_block (cs := #[.int .i64 O.kind, .string O.key, .int .i64 O.value, .slice la ln lc, .bool O.has, .bool O.nl]) (t := 56) (fr := (0, 0)) (NEWS.out _)) (opC_one O la ln lc) (by decide) (by unfold maxLen; omega) (by omega) (by show w.heap.size ≤ (W.alloc _).heap.size; rw [alloc_size]; omega) (W.heap.size + 1) (by simp) ?_; intro g cap w6 hown hgrow hat hglt; have G6 : Hid (∀ b, b < W.heap.size → (Value.slice ua rd.length uc).ownBlock ≠ some b → w6.heap[b]? = W.heap[b]?) := (fun b hb hne => (hgrow.block b (by show b < (W.alloc _).heap.size; rw [alloc_size]; exact Nat.lt_succ_of_lt hb) (fun e => hne e.symm)).trans ((below_box W _).block b hb)); have Z6 : Hid (W.heap.size + 1 ≤ w6.heap.size) := (by have := (show (W.alloc (.cells #[.int .i64 O.kind, .string O.key, .int .i64 O.value, .slice la ln lc, .bool O.has, .bool O.nl] 56)).heap.size ≤ w6.heap.size from hgrow.size); rw [alloc_size] at this; exact this); have X6 : Hid (w6.heap[x2]? = some (.cells #[.slice ua rd.length uc] 35 (0, 0))) := (G6.out x2 hx2l NE.out).trans RW.out.ob; have cb6 : w6.cell? ⟨x2, 0, none⟩ = some (.slice ua rd.length uc) := Lib.cell_of_heap X6.out 0; have fb6 : w6.frozen? ⟨x2, 0, none⟩ = false := Lib.frozen_of_heap X6.out 0; have O6 := hid hown; have T6 : Hid (w6.os = W.os ∧ w6.tape = W.tape ∧ w6.output = W.output) := ⟨hgrow.os, hgrow.tape, hgrow.output⟩; have A6 := hid hat; clear hown hgrow hat hglt)
            all_goals
              go_wp2_with fail
              go_roundg (l.length - (k + 1))
              case measure => omega
              case rel =>
                have hsn : stM L l (k + 1) = stM L l k ++ [O] := by rw [st_next L l k hlt, HO.out, if_pos HWR.out]
                have hne2 : (Value.slice (some ⟨g, 0, none⟩) (rd.length + 1) cap).ownBlock ≠ some x2 := fun e => by
                  have e' : g = x2 := by simpa [Value.ownBlock] using e
                  rcases A6.out with q | q
                  · exact NE.out (by rw [q, e'])
                  · omega
                refine ⟨k + 1, by omega, by omega, by go_num, (show Aside _ from ?_), (show Aside _ from ⟨_, ⟨set_same X6.out, ⟨rd ++ [(O, .slice la ln lc)], ?_, ?_, ?_⟩⟩⟩), (show Aside _ from fun j hj => ?_)⟩
                · refine ⟨T6.out.1.trans (BW.out.os.trans BR.out.os), T6.out.2.1.trans (BW.out.tape.trans BR.out.tape), T6.out.2.2.trans (BW.out.output.trans BR.out.output), ?_, fun b hb => ?_⟩
                  · have h1 := Z6.out
                    show w.heap.size ≤ (w6.setCell _ _).heap.size
                    simp only [World.setCell, Array.size_modify]
                    omega
                  · rw [set_ne (by show b ≠ x2; omega), G6.out b (by omega) (fun e => by have := (own_block2 ROWW.out e).1; omega)]
                    exact (BW.out.block b (by have := BR.out.size; omega)).trans (BR.out.block b hb)
                · rw [List.length_append, rowsV_snoc]
                  refine own_same O6.out (fun q hq => set_ne (fun e => ?_))
                  exact hne2 (by rw [hq, e])
                · rw [List.map_append, HQ2.out, hsn]
                  rfl
                · intro r hr
                  rcases List.mem_append.1 hr with q | q
                  · exact HQ3.out r q
                  · simp at q
                    subst q
                    exact ⟨_, _, _, rfl⟩
                · by_cases e : j = k
                  · subst e
                    rw [HO.out]
                    exact RT.out
                  · exact OK.out j (by omega)
          · have e3 : (O.kind == 3) = false := by simp [h3]
            have HWR : Hid (wrB O = false) := by show wrB O = false; simp [wrB, h1, h3]
            have y0 := Lib.cell_of_heap HBx.out 0
            clear h1 h3
            go_wp2_with fail
            rw [show wr.alloc (.cells #[.int .i64 O.kind, .string O.key, .int .i64 O.value, .slice la ln lc, .bool O.has, .bool O.nl] 56) = W from HWW.out]
            go_roundg (l.length - (k + 1))
            case measure => omega
            case rel =>
              have hsn : stM L l (k + 1) = stM L l k := by rw [st_next L l k hlt, HO.out, HWR.out]; rfl
              refine ⟨k + 1, by omega, by omega, by go_num, (show Aside _ from BR.out.trans (BW.out.mono BR.out.size)), (show Aside _ from ?_), (show Aside _ from fun j hj => ?_)⟩
              · obtain ⟨u, hu⟩ := RX.out
                exact ⟨u, by rw [hsn]; exact hu.later BW.out⟩
              · by_cases e : j = k
                · subst e
                  rw [HO.out]
                  exact RT.out
                · exact OK.out j (by omega)
      | false =>
        obtain ⟨W, hW⟩ : ∃ W, wr.alloc (.cells #[.int .i64 O.kind, .string O.key, .int .i64 O.value, .slice la ln lc, .bool O.has, .bool O.nl] 56) = W := ⟨_, rfl⟩
        have BW : Hid (Below wr.heap.size wr W) := by rw [← hW]; exact below_box wr _
        have HBx : Hid (W.heap[wr.heap.size]? = some (.cells #[.int .i64 O.kind, .string O.key, .int .i64 O.value, .slice la ln lc, .bool O.has, .bool O.nl] 56)) := by rw [← hW]; show (wr.alloc _).heap[wr.heap.size]? = _; rw [alloc_at, if_pos rfl]
        have hR := RX.out
        obtain ⟨u0, hu0⟩ := hR
        have hL0 : IntsIn Any W (.slice la ln lc) O.list := LI.out.keep (keeps_below BW.out) (fun _ _ x => x)
        have hskl : (stM L l k).length ≤ 1099511627776 := by omega
        have htl := rright_is w.heap.size W x2 u0 (stM L l k) (hu0.later BW.out) hskl O (.slice la ln lc) hL0
        unfold opV at htl
        have HWW := hid hW
        clear hW
        cases hr : rightM (stM L l k) O with
        | true =>
          rw [hr] at htl
          have RT : Hid (false = true ∨ rightM (stM L l k) O = true) := .inr hr
          have HTL := hid htl
          clear htl hr hu0 hL0
          go_wp2_with fail
          rw [show wr.alloc (.cells #[.int .i64 O.kind, .string O.key, .int .i64 O.value, .slice la ln lc, .bool O.has, .bool O.nl] 56) = W from HWW.out]
          refine HTL.out.mono ?_
          rintro e w5 ⟨rfl, b4⟩
          have BW4 : Hid (Below wr.heap.size wr w5) := BW.out.trans (b4.mono BW.out.size)
          have HBx4 : Hid (w5.heap[wr.heap.size]? = some (.cells #[.int .i64 O.kind, .string O.key, .int .i64 O.value, .slice la ln lc, .bool O.has, .bool O.nl] 56)) := (b4.block _ (blt HBx.out)).trans HBx.out
          clear BW HBx b4
          have BW := BW4
          have HBx := HBx4
          have z0 := Lib.cell_of_heap HBx.out 0
          clear BW4 HBx4 HTL
          by_cases h1 : O.kind = 1
          · have e1 : (O.kind == 1) = true := by simp [h1]
            have HWR : Hid (wrB O = true) := by show wrB O = true; simp [wrB, h1]
            clear h1
            obtain ⟨u, hu⟩ := RX.out
            have hob := hu.ob
            obtain ⟨rd, q1, q2, q3⟩ := hu.row
            have RW : Hid (Rst w.heap.size w5 x2 u (stM L l k)) := hu.later BW.out
            obtain ⟨ua, uc, hus⟩ := own_slice q1
            have hrl : rd.length = (stM L l k).length := by rw [← q2, List.length_map]
            have hsl : (stM L l k).length ≤ 1099511627775 := by have := st_most L l k hlt; omega
            have hrl2 : rd.length ≤ 1099511627775 := by omega
            have ROWW : Hid (w5.ownsRow w.heap.size 56 6 u rd.length (rowsV rd)) := own_same q1 (fun g hg => BW.out.block g (own_block2 q1 hg).2)
            subst hus
            have OWN : Hid (∀ o, (w5.alloc o).drew.ownsRow w.heap.size 56 6 (.slice ua rd.length uc) rd.length (rowsV rd)) := fun o => own_same ROWW.out (fun g hg => (below_box w5 o).block g (own_block2 ROWW.out hg).2)
            have NEWS : Hid (∀ o, (w5.alloc o).drew.heap[w5.heap.size]? = some o) := fun o => by show (w5.alloc o).heap[w5.heap.size]? = _; rw [alloc_at, if_pos rfl]
            have cb : w5.cell? ⟨x2, 0, none⟩ = some (.slice ua rd.length uc) := Lib.cell_of_heap RW.out.ob 0
            have fb : w5.frozen? ⟨x2, 0, none⟩ = false := Lib.frozen_of_heap RW.out.ob 0
            have hx2l : x2 < w5.heap.size := blt RW.out.ob
            have hxb2 : wr.heap.size < w5.heap.size := blt HBx.out
            have NE : Hid ((Value.slice ua rd.length uc).ownBlock ≠ some x2) := row_tag2 ROWW.out RW.out.ob (by decide)
            have HQ2 := hid q2
            have HQ3 := hid q3
            have hwz : w.heap.size ≤ w5.heap.size := by have := BR.out.size; omega
            have y0 := Lib.cell_of_heap HBx.out 0
            have y1 := Lib.cell_of_heap HBx.out 1
            have y2 := Lib.cell_of_heap HBx.out 2
            have y3 := Lib.cell_of_heap HBx.out 3
            have y4 := Lib.cell_of_heap HBx.out 4
            have y5 := Lib.cell_of_heap HBx.out 5
            clear hu hob q1 q2 q3 hrl
            go_wp2_with fail
            skip
            go_region_law (refine step_append_lies _ rfl (.tmp 44) (.tmp 46) 22 rfl w.heap.size 56 i0 (.agg #[.int .i64 0, .string ⟨#[]⟩, .int .i64 0, .slice none 0 0, .bool false, .bool false]) 6 64 Tryd.underlying22 HI0.out HZ0.out HZ1.out HZ2.out rfl (by decide) (.slice ua rd.length uc) rd.length (rowsV rd) (by simp [Act.eval, Act.put]) (OWN.out _) ⟨w5.heap.size, 0, none⟩ 1 1 (opC O (.slice la ln lc)) (by simp [Act.eval, Act.put]) rfl (World.news_of_block (cs := #[.int .i64 O.kind, .string O.key, .int .i64 O.value, .slice la ln lc, .bool O.has, .bool O.nl]) (t := 56) (fr := (0, 0)) (NEWS.out _)) (opC_one O la ln lc) (by decide) (by unfold maxLen; omega) (by omega) (by show w.heap.size ≤ (w5.alloc _).heap.size; rw [alloc_size]; omega) (w5.heap.size + 1) (by simp) ?_; intro g cap w6 hown hgrow hat hglt; have G6 : Hid (∀ b, b < w5.heap.size → (Value.slice ua rd.length uc).ownBlock ≠ some b → w6.heap[b]? = w5.heap[b]?) := (fun b hb hne => (hgrow.block b (by show b < (w5.alloc _).heap.size; rw [alloc_size]; exact Nat.lt_succ_of_lt hb) (fun e => hne e.symm)).trans ((below_box w5 _).block b hb)); have Z6 : Hid (w5.heap.size + 1 ≤ w6.heap.size) := (by have := (show (w5.alloc (.cells #[.int .i64 O.kind, .string O.key, .int .i64 O.value, .slice la ln lc, .bool O.has, .bool O.nl] 56)).heap.size ≤ w6.heap.size from hgrow.size); rw [alloc_size] at this; exact this); have X6 : Hid (w6.heap[x2]? = some (.cells #[.slice ua rd.length uc] 35 (0, 0))) := (G6.out x2 hx2l NE.out).trans RW.out.ob; have cb6 : w6.cell? ⟨x2, 0, none⟩ = some (.slice ua rd.length uc) := Lib.cell_of_heap X6.out 0; have fb6 : w6.frozen? ⟨x2, 0, none⟩ = false := Lib.frozen_of_heap X6.out 0; have O6 := hid hown; have T6 : Hid (w6.os = w5.os ∧ w6.tape = w5.tape ∧ w6.output = w5.output) := ⟨hgrow.os, hgrow.tape, hgrow.output⟩; have A6 := hid hat; clear hown hgrow hat hglt)
            all_goals
              go_wp2_with fail
              go_roundg (l.length - (k + 1))
              case measure => omega
              case rel =>
                have hsn : stM L l (k + 1) = stM L l k ++ [O] := by rw [st_next L l k hlt, HO.out, if_pos HWR.out]
                have hne2 : (Value.slice (some ⟨g, 0, none⟩) (rd.length + 1) cap).ownBlock ≠ some x2 := fun e => by
                  have e' : g = x2 := by simpa [Value.ownBlock] using e
                  rcases A6.out with q | q
                  · exact NE.out (by rw [q, e'])
                  · omega
                refine ⟨k + 1, by omega, by omega, by go_num, (show Aside _ from ?_), (show Aside _ from ⟨_, ⟨set_same X6.out, ⟨rd ++ [(O, .slice la ln lc)], ?_, ?_, ?_⟩⟩⟩), (show Aside _ from fun j hj => ?_)⟩
                · refine ⟨T6.out.1.trans (BW.out.os.trans BR.out.os), T6.out.2.1.trans (BW.out.tape.trans BR.out.tape), T6.out.2.2.trans (BW.out.output.trans BR.out.output), ?_, fun b hb => ?_⟩
                  · have h1 := Z6.out
                    show w.heap.size ≤ (w6.setCell _ _).heap.size
                    simp only [World.setCell, Array.size_modify]
                    omega
                  · rw [set_ne (by show b ≠ x2; omega), G6.out b (by omega) (fun e => by have := (own_block2 ROWW.out e).1; omega)]
                    exact (BW.out.block b (by have := BR.out.size; omega)).trans (BR.out.block b hb)
                · rw [List.length_append, rowsV_snoc]
                  refine own_same O6.out (fun q hq => set_ne (fun e => ?_))
                  exact hne2 (by rw [hq, e])
                · rw [List.map_append, HQ2.out, hsn]
                  rfl
                · intro r hr
                  rcases List.mem_append.1 hr with q | q
                  · exact HQ3.out r q
                  · simp at q
                    subst q
                    exact ⟨_, _, _, rfl⟩
                · by_cases e : j = k
                  · subst e
                    rw [HO.out]
                    exact RT.out
                  · exact OK.out j (by omega)
          · have e1 : (O.kind == 1) = false := by simp [h1]
            by_cases h3 : O.kind = 3
            · have e3 : (O.kind == 3) = true := by simp [h3]
              have HWR : Hid (wrB O = true) := by show wrB O = true; simp [wrB, h3]
              clear h1 h3
              obtain ⟨u, hu⟩ := RX.out
              have hob := hu.ob
              obtain ⟨rd, q1, q2, q3⟩ := hu.row
              have RW : Hid (Rst w.heap.size w5 x2 u (stM L l k)) := hu.later BW.out
              obtain ⟨ua, uc, hus⟩ := own_slice q1
              have hrl : rd.length = (stM L l k).length := by rw [← q2, List.length_map]
              have hsl : (stM L l k).length ≤ 1099511627775 := by have := st_most L l k hlt; omega
              have hrl2 : rd.length ≤ 1099511627775 := by omega
              have ROWW : Hid (w5.ownsRow w.heap.size 56 6 u rd.length (rowsV rd)) := own_same q1 (fun g hg => BW.out.block g (own_block2 q1 hg).2)
              subst hus
              have OWN : Hid (∀ o, (w5.alloc o).drew.ownsRow w.heap.size 56 6 (.slice ua rd.length uc) rd.length (rowsV rd)) := fun o => own_same ROWW.out (fun g hg => (below_box w5 o).block g (own_block2 ROWW.out hg).2)
              have NEWS : Hid (∀ o, (w5.alloc o).drew.heap[w5.heap.size]? = some o) := fun o => by show (w5.alloc o).heap[w5.heap.size]? = _; rw [alloc_at, if_pos rfl]
              have cb : w5.cell? ⟨x2, 0, none⟩ = some (.slice ua rd.length uc) := Lib.cell_of_heap RW.out.ob 0
              have fb : w5.frozen? ⟨x2, 0, none⟩ = false := Lib.frozen_of_heap RW.out.ob 0
              have hx2l : x2 < w5.heap.size := blt RW.out.ob
              have hxb2 : wr.heap.size < w5.heap.size := blt HBx.out
              have NE : Hid ((Value.slice ua rd.length uc).ownBlock ≠ some x2) := row_tag2 ROWW.out RW.out.ob (by decide)
              have HQ2 := hid q2
              have HQ3 := hid q3
              have hwz : w.heap.size ≤ w5.heap.size := by have := BR.out.size; omega
              have y0 := Lib.cell_of_heap HBx.out 0
              have y1 := Lib.cell_of_heap HBx.out 1
              have y2 := Lib.cell_of_heap HBx.out 2
              have y3 := Lib.cell_of_heap HBx.out 3
              have y4 := Lib.cell_of_heap HBx.out 4
              have y5 := Lib.cell_of_heap HBx.out 5
              clear hu hob q1 q2 q3 hrl
              go_wp2_with fail
              skip
              go_region_law (refine step_append_lies _ rfl (.tmp 44) (.tmp 46) 22 rfl w.heap.size 56 i0 (.agg #[.int .i64 0, .string ⟨#[]⟩, .int .i64 0, .slice none 0 0, .bool false, .bool false]) 6 64 Tryd.underlying22 HI0.out HZ0.out HZ1.out HZ2.out rfl (by decide) (.slice ua rd.length uc) rd.length (rowsV rd) (by simp [Act.eval, Act.put]) (OWN.out _) ⟨w5.heap.size, 0, none⟩ 1 1 (opC O (.slice la ln lc)) (by simp [Act.eval, Act.put]) rfl (World.news_of_block (cs := #[.int .i64 O.kind, .string O.key, .int .i64 O.value, .slice la ln lc, .bool O.has, .bool O.nl]) (t := 56) (fr := (0, 0)) (NEWS.out _)) (opC_one O la ln lc) (by decide) (by unfold maxLen; omega) (by omega) (by show w.heap.size ≤ (w5.alloc _).heap.size; rw [alloc_size]; omega) (w5.heap.size + 1) (by simp) ?_; intro g cap w6 hown hgrow hat hglt; have G6 : Hid (∀ b, b < w5.heap.size → (Value.slice ua rd.length uc).ownBlock ≠ some b → w6.heap[b]? = w5.heap[b]?) := (fun b hb hne => (hgrow.block b (by show b < (w5.alloc _).heap.size; rw [alloc_size]; exact Nat.lt_succ_of_lt hb) (fun e => hne e.symm)).trans ((below_box w5 _).block b hb)); have Z6 : Hid (w5.heap.size + 1 ≤ w6.heap.size) := (by have := (show (w5.alloc (.cells #[.int .i64 O.kind, .string O.key, .int .i64 O.value, .slice la ln lc, .bool O.has, .bool O.nl] 56)).heap.size ≤ w6.heap.size from hgrow.size); rw [alloc_size] at this; exact this); have X6 : Hid (w6.heap[x2]? = some (.cells #[.slice ua rd.length uc] 35 (0, 0))) := (G6.out x2 hx2l NE.out).trans RW.out.ob; have cb6 : w6.cell? ⟨x2, 0, none⟩ = some (.slice ua rd.length uc) := Lib.cell_of_heap X6.out 0; have fb6 : w6.frozen? ⟨x2, 0, none⟩ = false := Lib.frozen_of_heap X6.out 0; have O6 := hid hown; have T6 : Hid (w6.os = w5.os ∧ w6.tape = w5.tape ∧ w6.output = w5.output) := ⟨hgrow.os, hgrow.tape, hgrow.output⟩; have A6 := hid hat; clear hown hgrow hat hglt)
              all_goals
                go_wp2_with fail
                go_roundg (l.length - (k + 1))
                case measure => omega
                case rel =>
                  have hsn : stM L l (k + 1) = stM L l k ++ [O] := by rw [st_next L l k hlt, HO.out, if_pos HWR.out]
                  have hne2 : (Value.slice (some ⟨g, 0, none⟩) (rd.length + 1) cap).ownBlock ≠ some x2 := fun e => by
                    have e' : g = x2 := by simpa [Value.ownBlock] using e
                    rcases A6.out with q | q
                    · exact NE.out (by rw [q, e'])
                    · omega
                  refine ⟨k + 1, by omega, by omega, by go_num, (show Aside _ from ?_), (show Aside _ from ⟨_, ⟨set_same X6.out, ⟨rd ++ [(O, .slice la ln lc)], ?_, ?_, ?_⟩⟩⟩), (show Aside _ from fun j hj => ?_)⟩
                  · refine ⟨T6.out.1.trans (BW.out.os.trans BR.out.os), T6.out.2.1.trans (BW.out.tape.trans BR.out.tape), T6.out.2.2.trans (BW.out.output.trans BR.out.output), ?_, fun b hb => ?_⟩
                    · have h1 := Z6.out
                      show w.heap.size ≤ (w6.setCell _ _).heap.size
                      simp only [World.setCell, Array.size_modify]
                      omega
                    · rw [set_ne (by show b ≠ x2; omega), G6.out b (by omega) (fun e => by have := (own_block2 ROWW.out e).1; omega)]
                      exact (BW.out.block b (by have := BR.out.size; omega)).trans (BR.out.block b hb)
                  · rw [List.length_append, rowsV_snoc]
                    refine own_same O6.out (fun q hq => set_ne (fun e => ?_))
                    exact hne2 (by rw [hq, e])
                  · rw [List.map_append, HQ2.out, hsn]
                    rfl
                  · intro r hr
                    rcases List.mem_append.1 hr with q | q
                    · exact HQ3.out r q
                    · simp at q
                      subst q
                      exact ⟨_, _, _, rfl⟩
                  · by_cases e : j = k
                    · subst e
                      rw [HO.out]
                      exact RT.out
                    · exact OK.out j (by omega)
            · have e3 : (O.kind == 3) = false := by simp [h3]
              have HWR : Hid (wrB O = false) := by show wrB O = false; simp [wrB, h1, h3]
              have y0 := Lib.cell_of_heap HBx.out 0
              clear h1 h3
              go_wp2_with fail
              skip
              go_roundg (l.length - (k + 1))
              case measure => omega
              case rel =>
                have hsn : stM L l (k + 1) = stM L l k := by rw [st_next L l k hlt, HO.out, HWR.out]; rfl
                refine ⟨k + 1, by omega, by omega, by go_num, (show Aside _ from BR.out.trans (BW.out.mono BR.out.size)), (show Aside _ from ?_), (show Aside _ from fun j hj => ?_)⟩
                · obtain ⟨u, hu⟩ := RX.out
                  exact ⟨u, by rw [hsn]; exact hu.later BW.out⟩
                · by_cases e : j = k
                  · subst e
                    rw [HO.out]
                    exact RT.out
                  · exact OK.out j (by omega)
        | false =>
          rw [hr] at htl
          have HTL := hid htl
          have HR := hid hr
          clear htl hr hu0 hL0
          go_wp2_with fail
          rw [show wr.alloc (.cells #[.int .i64 O.kind, .string O.key, .int .i64 O.value, .slice la ln lc, .bool O.has, .bool O.nl] 56) = W from HWW.out]
          refine HTL.out.mono ?_
          rintro e w5 ⟨rfl, b4⟩
          have B5 : Hid (Below w.heap.size w w5) := BR.out.trans ((BW.out.trans (b4.mono BW.out.size)).mono BR.out.size)
          clear b4 HTL
          go_wp2_with fail
          go_ret
          refine ⟨false, v, rfl, ⟨fun c => absurd c (by decide), fun c => ?_⟩, ?_, fun g hg => .inl hg, Gro.of_below B5.out⟩
          · rcases c k hlt with d | d
            · cases d
            · rw [HO.out, HR.out] at d
              cases d
          · simp only [Bool.false_eq_true, if_false]
            exact H0.out.later B5.out
    · have HLL : Hid (l.length = k) := by show l.length = k; omega
      obtain ⟨u, hu⟩ := RX.out
      obtain ⟨rd, q1, q2, q3⟩ := hu.row
      obtain ⟨ua, uc, hus⟩ := own_slice q1
      subst hus
      have cb := Lib.cell_of_heap hu.ob 0
      have hxb : wr.heap[xb]? = w.heap[xb]? := BR.out.block xb hxl
      have cx : wr.cell? ⟨xb, 0, none⟩ = some v := (World.cell?_of_block (a := ⟨xb, 0, none⟩) hxb).trans (Lib.cell_of_heap H0.out.ob 0)
      have fx : wr.frozen? ⟨xb, 0, none⟩ = false := Lib.frozen_of_heap (hxb.trans H0.out.ob) 0
      have HU := hid hu
      have HQ1 := hid q1
      have HQ2 := hid q2
      have HQ3 := hid q3
      have HXB := hid hxb
      clear hu q1 q2 q3 hxb
      go_wp2_with fail
      go_ret
      refine ⟨true, .slice ua rd.length uc, rfl, ⟨fun _ j hj => OK.out j (by have := HLL.out; omega), fun _ => rfl⟩, ?_, fun g hg => .inr ?_, ?_⟩
      · simp only [if_true]
        refine ⟨set_same (HXB.out.trans H0.out.ob), ⟨rd, ?_, by rw [HQ2.out, HLL.out], HQ3.out⟩⟩
        refine own_same (own_mono HQ1.out hB) (fun g hg => set_ne (fun e => ?_))
        have e' : g = xb := e
        have := (own_block2 HQ1.out hg).1
        omega
      · exact (own_block2 HQ1.out hg).1
      · refine ⟨BR.out.os, BR.out.tape, BR.out.output, ?_, fun b hb hn => ?_⟩
        · have := BR.out.size
          show w.heap.size ≤ (wr.setCell _ _).heap.size
          simp only [World.setCell, Array.size_modify]
          exact this
        · rw [set_ne (by show b ≠ xb; exact hn)]
          exact BR.out.block b hb
end Go.Proofs.YtjeheknhpfkaiaaDoor
