/-
  Apply.
-/
import Derived.Test.YtjeheknhpfkaiaaDoorUd
namespace Go.Proofs.YtjeheknhpfkaiaaDoor
set_option linter.unusedVariables false
set_option linter.unusedSimpArgs false
open Go.RowKit Go.Lib Go.Maps

theorem Tryd.infoReg : (Tryd.prog.info? 54).map (fun i => (i.zero, i.size, i.bytes)) = some (some (.agg #[.int .i64 0, .bool false]), 2, 16) := by kernel_rfl
/-- What Apply holds behind k operations. -/
structure Ap (B : Nat) (w : World) (sb lb rb : Nat) (F : Nat → Prop) (n : Nat) (L l : List MOp) (ov : Value) (k : Nat) (wr : World) : Prop where
  st : ∃ F', St B wr sb lb rb F' (n + k) (stM L l k) ∧ (∀ b, F' b → wide F w wr b) ∧ (∀ g, ov.ownBlock = some g → ¬ F' g)
  row : wr.ownsRow w.heap.size 54 2 ov k (oldV L l k)
  gro : Gro F w wr
theorem own_block2 {B : Nat} {w : World} {e : TypeId} {z n g : Nat} {v : Value} {xs : List Value} (h : w.ownsRow B e z v n xs) (hg : v.ownBlock = some g) : B ≤ g ∧ g < w.heap.size := h.lt g hg
theorem row_tag2 {B : Nat} {w : World} {e : TypeId} {z n g : Nat} {v : Value} {xs : List Value} {cs : Array Value} {t : TypeId} {fr : Nat × Nat} (h : w.ownsRow B e z v n xs) (hc : w.heap[g]? = some (.cells cs t fr)) (ht : t ≠ e) : v.ownBlock ≠ some g := fun hg => by
  obtain ⟨_, _, cs', hc'⟩ := own_block h hg
  rw [hc] at hc'
  cases hc'
  exact ht rfl
theorem Ap.later {B : Nat} {w : World} {sb lb rb : Nat} {F : Nat → Prop} {n : Nat} {L l : List MOp} {ov : Value} {k : Nat} {wr W : World} (h : Ap B w sb lb rb F n L l ov k wr) (hb : Below wr.heap.size wr W) : Ap B w sb lb rb F n L l ov k W := by
  obtain ⟨F', h1, h2, h3⟩ := h.st
  refine ⟨⟨F', h1.later hb, fun b hb' => ?_, h3⟩, own_same h.row (fun g hg => hb.block g (own_block2 h.row hg).2), ⟨hb.os.trans h.gro.os, hb.tape.trans h.gro.tape, hb.output.trans h.gro.output, Nat.le_trans h.gro.size hb.size, fun b hlt hn => (hb.block b (Nat.lt_of_lt_of_le hlt h.gro.size)).trans (h.gro.block b hlt hn)⟩⟩
  rcases h2 b hb' with q | q
  · exact .inl q
  · exact .inr ⟨q.1, by have := hb.size; omega⟩
set_option maxHeartbeats 4000000 in
set_option maxRecDepth 100000 in
theorem apply_is (B : Nat) (w : World) (sb lb rb : Nat) (F : Nat → Prop) (n : Nat) (L l : List MOp) (v : Value) (blind : Bool) (h : St B w sb lb rb F n L) (hB : B ≤ w.heap.size) (hl : OpsIn (fun b => ¬ F b) w v l) (hks : ∀ o ∈ l, o.key.size ≤ 281474976710656) (hn : n + 2 * l.length < maxLen) (hL : ∀ i, i < l.length → (lstM (stM L l i) (l.getD i default).key).length ≤ 17592186044414) :
    Calls Tryd.prog 9 #[.pointer (some ⟨sb, 0, none⟩), v, .bool blind] w fun e w' => ∃ b, e = .returned (.bool b) ∧ (b = true ↔ okM L l blind) ∧ St B w' sb lb rb (wide F w w') (n + 2 * l.length) (if b = true then stM L l l.length else L) ∧ Gro F w w' := by
  obtain ⟨ao, c, lv, rfl, ⟨hby, hcap⟩, hc, hi⟩ := ops_cells hl
  obtain ⟨i0, hi0, hz0, hz1, hz2⟩ := info_parts Tryd.infoReg
  have hks2 : ∀ j, j < l.length → (l.getD j default).key.size ≤ 281474976710656 := fun j hj => hks _ (by simp [List.getD, List.getElem?_eq_getElem hj])
  have hc0 := h.c0
  have HC := hid hc
  have HI := hid hi
  have HKS := hid hks2
  have H0 := hid h
  have HI0 := hid hi0
  have HZ0 := hid hz0
  have HZ1 := hid hz1
  have HZ2 := hid hz2
  have hlen : (l.length : Int) ≤ 2199023255552 := by omega
  have HLB := hid hL
  clear hc hi hks hks2 h hl hi0 hz0 hz1 hz2 hL
  go_enter Tryd.func9, Tryd.ntmps9
  go_wp2_with (go_at_call 12; refine (isMade_yes _ _ _ hc0).mono ?_; rintro e w' ⟨rfl, rfl⟩)
  go_loopg [7, 15] l.length (fun g ov i wr => ∃ k : Nat, k ≤ l.length ∧ l.length - k ≤ g ∧ i = .int .i64 k ∧ Aside (Ap B w sb lb rb F n L l ov k wr) ∧ Aside (∀ j, j < k → blind = true ∨ rightM (stM L l j) (l.getD j default) = true))
  case atStart => exact ⟨0, Nat.zero_le _, by omega, rfl, ⟨⟨F, by rw [st_zero]; exact H0.out, fun b hb => .inl hb, fun g hg => by simp [Value.ownBlock] at hg⟩, World.ownsRow_nil _ _ _ _, Gro.refl _ _⟩, fun j hj => absurd hj (Nat.not_lt_zero _)⟩
  case round =>
    obtain ⟨k, hk, hg, rfl, AP, OK⟩ := hrel
    by_cases hlt : k < l.length
    · have hlti : (k : Int) < l.length := by omega
      obtain ⟨bz, oz, rfl, ⟨hbl, hbF⟩, k0, k1, k2, k3, k4, k5⟩ := HC.out k hlt
      have hLI := HI.out k hlt
      have q : ∀ i v, w.cell? ⟨bz, i, none⟩ = some v → wr.cell? ⟨bz, i, none⟩ = some v := fun i v hc => (World.cell?_of_block (a := ⟨bz, i, none⟩) (AP.out.gro.block bz hbl hbF)).trans hc
      have d0 := q _ _ k0
      have d1 := q _ _ k1
      have d2 := q _ _ k2
      have d3 := q _ _ k3
      have d4 := q _ _ k4
      have d5 := q _ _ k5
      have hko := HKS.out k hlt
      have hL2 : IntsIn Any wr (lv k) (l.getD k default).list := hLI.keep (fun b hb hlt => AP.out.gro.block b hlt hb) (fun _ _ _ => trivial)
      obtain ⟨la, lc, hlv, _, _⟩ := hL2.cells
      obtain ⟨ln, hln⟩ : ∃ ln, (l.getD k default).list.length = ln := ⟨_, rfl⟩
      rw [hln] at hlv
      rw [hlv] at hL2 d3
      clear k0 k1 k2 k3 k4 k5 q hLI hln
      obtain ⟨O, hO⟩ : ∃ O, l.getD k default = O := ⟨_, rfl⟩
      have HO := hid hO
      rw [hO] at d0 d1 d2 d4 d5 hko hL2
      clear hO hlv
      have LI := hid hL2
      clear hL2
      cases blind with
      | true =>
        have RT : Hid (true = true ∨ rightM (stM L l k) O = true) := .inl rfl
        go_wp2_with fail
        obtain ⟨W, hW⟩ : ∃ W, wr.alloc (.cells #[.int .i64 O.kind, .string O.key, .int .i64 O.value, .slice la ln lc, .bool O.has, .bool O.nl] 56) = W := ⟨_, rfl⟩
        have BW : Hid (Below wr.heap.size wr W) := by rw [← hW]; exact below_box wr _
        have HBx : Hid (W.heap[wr.heap.size]? = some (.cells #[.int .i64 O.kind, .string O.key, .int .i64 O.value, .slice la ln lc, .bool O.has, .bool O.nl] 56)) := by rw [← hW]; show (wr.alloc _).heap[wr.heap.size]? = _; rw [alloc_at, if_pos rfl]
        rw [hW]
        clear hW
        have AW : Hid (Ap B w sb lb rb F n L l u7 k W) := AP.out.later BW.out
        obtain ⟨F', hst, hF', hov⟩ := AW.out.st
        obtain ⟨f, hm, hf⟩ := hst.rs
        obtain ⟨oa, oc, hovs⟩ := own_slice AW.out.row
        have hlook : ∀ (w1 : World), w1.heap[rb]? = W.heap[rb]? → (Instr.lookup 48 (.map (some rb)) (.string O.key) false).run Tryd.prog w1 = .ok (rgVal (regM (stM L l k) O.key)) w1 := fun w1 h1 => by
          have q := (hm.same h1).look keys9 Tryd.underlying48 (zeroR w1) (key9 O.key (key_max hko))
          rw [q, hf]
          cases regM (stM L l k) O.key <;> rfl
        unfold rgVal at hlook
        obtain ⟨x, hx⟩ : ∃ x, rgV (regM (stM L l k) O.key) = x := ⟨_, rfl⟩
        obtain ⟨t, ht⟩ : ∃ t, (regM (stM L l k) O.key).isSome = t := ⟨_, rfl⟩
        rw [hx, ht] at hlook
        have HOLD : Hid (oldV L l (k + 1) = oldV L l k ++ [.int .i64 x, .bool t]) := by show _ = _; rw [oldV, HO.out, hx, ht]
        have q1 := hlook W.drew rfl
        have q2 := fun o => hlook (W.alloc o).drew ((below_box W o).block _ hm.lt)
        have e1 := hst.c1
        have b1 := Lib.cell_of_heap HBx.out 1
        have hsbl := World.block_lt_of_cell? _ _ e1
        have hbxl := blt HBx.out
        subst hovs
        have ROW := hid AW.out.row
        have ROW2 : Hid (∀ o, (W.alloc o).drew.ownsRow w.heap.size 54 2 (.slice oa k oc) k (oldV L l k)) := fun o => own_same ROW.out (fun g hg => (below_box W o).block g (own_block2 ROW.out hg).2)
        have NEWS : Hid (∀ o, (W.alloc o).drew.heap[W.heap.size]? = some o) := fun o => by show (W.alloc o).heap[W.heap.size]? = _; rw [alloc_at, if_pos rfl]
        have HST := hid hst
        have HF := hid hF'
        have HOV := hid hov
        have HM := hid hm
        have hws := AW.out.gro.size
        clear hst hF' hov hm hf hlook hx ht
        go_wp2_with fail
        go_region_held3 (fun w' => w'.cell? ⟨sb, 1, none⟩ = some (.map (some rb)) ∧ w'.cell? ⟨wr.heap.size, 1, none⟩ = some (.string O.key)) (go_keep) (first
          | (refine step_append_lies _ (by rfl) _ _ 63 (by rfl) w.heap.size 54 i0 (.agg #[.int .i64 0, .bool false]) 2 16 Tryd.underlying63 HI0.out HZ0.out HZ1.out HZ2.out rfl (by decide) (.slice oa k oc) k (oldV L l k) (by rfl) (ROW2.out _) ⟨W.heap.size, 0, none⟩ 1 1 [.int .i64 x, .bool t] (by rfl) (by rfl) (World.news_of_block (cs := #[.int .i64 x, .bool t]) (t := 54) (fr := (0, 0)) (NEWS.out _)) (by simp [Value.oneCell']) (by decide) (by unfold maxLen; omega) (by omega) (by show w.heap.size ≤ (W.alloc _).heap.size; rw [alloc_size]; omega) (W.heap.size + 1) (by simp) ?_
             intro g cap w6 hown hgrow hat hglt
             have G6 : Hid (∀ b, b < W.heap.size → (Value.slice oa k oc).ownBlock ≠ some b → w6.heap[b]? = W.heap[b]?) := fun b hb hne => (hgrow.block b (by show b < (W.alloc _).heap.size; rw [alloc_size]; exact Nat.lt_succ_of_lt hb) (fun e => hne e.symm)).trans ((below_box W _).block b hb)
             have Z6 : Hid (W.heap.size + 1 ≤ w6.heap.size) := by
               have := (show (W.alloc (.cells #[.int .i64 x, .bool t] 54)).heap.size ≤ w6.heap.size from hgrow.size)
               rw [alloc_size] at this
               exact this
             have X6 : Hid (w6.heap[wr.heap.size]? = some (.cells #[.int .i64 O.kind, .string O.key, .int .i64 O.value, .slice la ln lc, .bool O.has, .bool O.nl] 56)) := (G6.out wr.heap.size hbxl (row_tag2 ROW.out HBx.out (by decide))).trans HBx.out
             have OW6 : Hid (w6.ownsRow w.heap.size 54 2 (.slice (some ⟨g, 0, none⟩) (k + 1) cap) (k + 1) (oldV L l (k + 1))) := by
               show w6.ownsRow _ _ _ _ _ _
               rw [HOLD.out]
               exact hown
             have GR6 : Hid (Gro (fun b => (Value.slice oa k oc).ownBlock = some b) W w6) := ⟨hgrow.os, hgrow.tape, hgrow.output, by have := Z6.out; omega, fun b hb hne => G6.out b hb hne⟩
             have ST6 : Hid (St B w6 sb lb rb F' (n + k) (stM L l k)) := HST.out.keep GR6.out (fun b hb e => HOV.out b e hb)
             have OV6 : Hid (∀ g', (Value.slice (some ⟨g, 0, none⟩) (k + 1) cap).ownBlock = some g' → ¬ F' g' ∧ g' < w6.heap.size) := fun g' hg' => by
               have e : g = g' := by simpa [Value.ownBlock] using hg'
               subst e
               refine ⟨fun c => ?_, hglt⟩
               rcases hat with q | q
               · exact HOV.out g q c
               · have := (HST.out.flt g c).2
                 omega
             have k61 : w6.cell? ⟨wr.heap.size, 1, none⟩ = some (.string O.key) := Lib.cell_of_heap X6.out 1
             have k6 : w6.cell? ⟨sb, 1, none⟩ = some (.map (some rb)) := ST6.out.c1
             clear hown hgrow hat hglt))
        all_goals
          have y0 := Lib.cell_of_heap X6.out 0
          have y1 := Lib.cell_of_heap X6.out 1
          have y2 := Lib.cell_of_heap X6.out 2
          have y3 := Lib.cell_of_heap X6.out 3
          have y4 := Lib.cell_of_heap X6.out 4
          have y5 := Lib.cell_of_heap X6.out 5
          have hll : (lstM (stM L l k) O.key).length ≤ 17592186044414 := by have := HLB.out k hlt; rwa [HO.out] at this
          have hnk : n + k < maxLen := by omega
          have hB6 : B ≤ w6.heap.size := by have := Z6.out; omega
          go_wp2_with (go_at_call 25; refine (do_is B w6 sb lb rb F' (n + k) (stM L l k) O la ln lc ST6.out hB6 hko hnk hll).mono ?_; rintro e w7 ⟨⟨v7, rfl⟩, hS7, hg7⟩; have S7 := hid hS7; have G7 := hid hg7; clear hS7 hg7)
          go_roundg (l.length - (k + 1))
          case measure => omega
          case rel =>
            have hsn : stM L l (k + 1) = if wrB O = true then stM L l k ++ [O] else stM L l k := by rw [st_next L l k hlt, HO.out]
            refine ⟨k + 1, by omega, by omega, by go_num, (show Aside _ from ⟨⟨wide F' w6 w7, ?_, fun b hb => ?_, fun g' hg' c => ?_⟩, ?_, ?_⟩), (show Aside _ from fun j hj => ?_)⟩
            · rw [hsn, show n + (k + 1) = n + k + 1 from by omega]
              exact S7.out
            · have h1 := Z6.out
              have h2 := G7.out.size
              rcases hb with c | c
              · rcases HF.out b c with d | d
                · exact .inl d
                · exact .inr ⟨d.1, by omega⟩
              · exact .inr ⟨by omega, c.2⟩
            · have h1 := OV6.out g' hg'
              rcases c with c | c
              · exact h1.1 c
              · omega
            · exact own_same OW6.out (fun g' hg' => G7.out.block g' (OV6.out g' hg').2 (OV6.out g' hg').1)
            · have h1 := Z6.out
              refine ⟨G7.out.os.trans (GR6.out.os.trans AW.out.gro.os), G7.out.tape.trans (GR6.out.tape.trans AW.out.gro.tape), G7.out.output.trans (GR6.out.output.trans AW.out.gro.output), by have h2 := G7.out.size; omega, fun b hb hn => ?_⟩
              refine (G7.out.block b (by omega) (fun c => ?_)).trans ((GR6.out.block b (by omega) (fun c => ?_)).trans (AW.out.gro.block b hb hn))
              · rcases HF.out b c with d | d
                · exact hn d
                · omega
              · have := (own_block2 ROW.out c).1
                omega
            · by_cases e : j = k
              · subst e
                rw [HO.out]
                exact RT.out
              · exact OK.out j (by omega)
      | false =>
        go_wp2_with fail
        obtain ⟨W, hW⟩ : ∃ W, wr.alloc (.cells #[.int .i64 O.kind, .string O.key, .int .i64 O.value, .slice la ln lc, .bool O.has, .bool O.nl] 56) = W := ⟨_, rfl⟩
        have BW : Hid (Below wr.heap.size wr W) := by rw [← hW]; exact below_box wr _
        have HBx : Hid (W.heap[wr.heap.size]? = some (.cells #[.int .i64 O.kind, .string O.key, .int .i64 O.value, .slice la ln lc, .bool O.has, .bool O.nl] 56)) := by rw [← hW]; show (wr.alloc _).heap[wr.heap.size]? = _; rw [alloc_at, if_pos rfl]
        rw [hW]
        clear hW
        obtain ⟨F0, hst0, hF0, hov0⟩ := AP.out.st
        have hL0 : IntsIn Any W (.slice la ln lc) O.list := LI.out.keep (keeps_below BW.out) (fun _ _ x => x)
        have htl := tells_is B W sb lb rb F0 (n + k) (stM L l k) (hst0.later BW.out) O (.slice la ln lc) hL0 hko
        unfold opV at htl
        cases hr : rightM (stM L l k) O with
        | true =>
          rw [hr] at htl
          have RT : Hid (false = true ∨ rightM (stM L l k) O = true) := .inr hr
          have HTL := hid htl
          clear htl hr hst0 hF0 hov0 hL0
          refine HTL.out.mono ?_
          rintro e w4 ⟨rfl, b4⟩
          have BW4 : Hid (Below wr.heap.size wr w4) := BW.out.trans (b4.mono BW.out.size)
          have HBx4 : Hid (w4.heap[wr.heap.size]? = some (.cells #[.int .i64 O.kind, .string O.key, .int .i64 O.value, .slice la ln lc, .bool O.has, .bool O.nl] 56)) := (b4.block _ (blt HBx.out)).trans HBx.out
          clear BW HBx b4
          have BW := BW4
          have HBx := HBx4
          clear BW4 HBx4 HTL
          obtain ⟨W', hW'⟩ : ∃ W', w4 = W' := ⟨_, rfl⟩
          subst hW'
          go_wp2_with fail
          have AW : Hid (Ap B w sb lb rb F n L l u7 k w4) := AP.out.later BW.out
          obtain ⟨F', hst, hF', hov⟩ := AW.out.st
          obtain ⟨f, hm, hf⟩ := hst.rs
          obtain ⟨oa, oc, hovs⟩ := own_slice AW.out.row
          have hlook : ∀ (w1 : World), w1.heap[rb]? = w4.heap[rb]? → (Instr.lookup 48 (.map (some rb)) (.string O.key) false).run Tryd.prog w1 = .ok (rgVal (regM (stM L l k) O.key)) w1 := fun w1 h1 => by
            have q := (hm.same h1).look keys9 Tryd.underlying48 (zeroR w1) (key9 O.key (key_max hko))
            rw [q, hf]
            cases regM (stM L l k) O.key <;> rfl
          unfold rgVal at hlook
          obtain ⟨x, hx⟩ : ∃ x, rgV (regM (stM L l k) O.key) = x := ⟨_, rfl⟩
          obtain ⟨t, ht⟩ : ∃ t, (regM (stM L l k) O.key).isSome = t := ⟨_, rfl⟩
          rw [hx, ht] at hlook
          have HOLD : Hid (oldV L l (k + 1) = oldV L l k ++ [.int .i64 x, .bool t]) := by show _ = _; rw [oldV, HO.out, hx, ht]
          have q1 := hlook w4.drew rfl
          have q2 := fun o => hlook (w4.alloc o).drew ((below_box w4 o).block _ hm.lt)
          have e1 := hst.c1
          have b1 := Lib.cell_of_heap HBx.out 1
          have hsbl := World.block_lt_of_cell? _ _ e1
          have hbxl := blt HBx.out
          subst hovs
          have ROW := hid AW.out.row
          have ROW2 : Hid (∀ o, (w4.alloc o).drew.ownsRow w.heap.size 54 2 (.slice oa k oc) k (oldV L l k)) := fun o => own_same ROW.out (fun g hg => (below_box w4 o).block g (own_block2 ROW.out hg).2)
          have NEWS : Hid (∀ o, (w4.alloc o).drew.heap[w4.heap.size]? = some o) := fun o => by show (w4.alloc o).heap[w4.heap.size]? = _; rw [alloc_at, if_pos rfl]
          have HST := hid hst
          have HF := hid hF'
          have HOV := hid hov
          have HM := hid hm
          have hws := AW.out.gro.size
          clear hst hF' hov hm hf hlook hx ht
          go_wp2_with fail
          go_region_held3 (fun w' => w'.cell? ⟨sb, 1, none⟩ = some (.map (some rb)) ∧ w'.cell? ⟨wr.heap.size, 1, none⟩ = some (.string O.key)) (go_keep) (first
            | (refine step_append_lies _ (by rfl) _ _ 63 (by rfl) w.heap.size 54 i0 (.agg #[.int .i64 0, .bool false]) 2 16 Tryd.underlying63 HI0.out HZ0.out HZ1.out HZ2.out rfl (by decide) (.slice oa k oc) k (oldV L l k) (by rfl) (ROW2.out _) ⟨w4.heap.size, 0, none⟩ 1 1 [.int .i64 x, .bool t] (by rfl) (by rfl) (World.news_of_block (cs := #[.int .i64 x, .bool t]) (t := 54) (fr := (0, 0)) (NEWS.out _)) (by simp [Value.oneCell']) (by decide) (by unfold maxLen; omega) (by omega) (by show w.heap.size ≤ (w4.alloc _).heap.size; rw [alloc_size]; omega) (w4.heap.size + 1) (by simp) ?_
               intro g cap w6 hown hgrow hat hglt
               have G6 : Hid (∀ b, b < w4.heap.size → (Value.slice oa k oc).ownBlock ≠ some b → w6.heap[b]? = w4.heap[b]?) := fun b hb hne => (hgrow.block b (by show b < (w4.alloc _).heap.size; rw [alloc_size]; exact Nat.lt_succ_of_lt hb) (fun e => hne e.symm)).trans ((below_box w4 _).block b hb)
               have Z6 : Hid (w4.heap.size + 1 ≤ w6.heap.size) := by
                 have := (show (w4.alloc (.cells #[.int .i64 x, .bool t] 54)).heap.size ≤ w6.heap.size from hgrow.size)
                 rw [alloc_size] at this
                 exact this
               have X6 : Hid (w6.heap[wr.heap.size]? = some (.cells #[.int .i64 O.kind, .string O.key, .int .i64 O.value, .slice la ln lc, .bool O.has, .bool O.nl] 56)) := (G6.out wr.heap.size hbxl (row_tag2 ROW.out HBx.out (by decide))).trans HBx.out
               have OW6 : Hid (w6.ownsRow w.heap.size 54 2 (.slice (some ⟨g, 0, none⟩) (k + 1) cap) (k + 1) (oldV L l (k + 1))) := by
                 show w6.ownsRow _ _ _ _ _ _
                 rw [HOLD.out]
                 exact hown
               have GR6 : Hid (Gro (fun b => (Value.slice oa k oc).ownBlock = some b) w4 w6) := ⟨hgrow.os, hgrow.tape, hgrow.output, by have := Z6.out; omega, fun b hb hne => G6.out b hb hne⟩
               have ST6 : Hid (St B w6 sb lb rb F' (n + k) (stM L l k)) := HST.out.keep GR6.out (fun b hb e => HOV.out b e hb)
               have OV6 : Hid (∀ g', (Value.slice (some ⟨g, 0, none⟩) (k + 1) cap).ownBlock = some g' → ¬ F' g' ∧ g' < w6.heap.size) := fun g' hg' => by
                 have e : g = g' := by simpa [Value.ownBlock] using hg'
                 subst e
                 refine ⟨fun c => ?_, hglt⟩
                 rcases hat with q | q
                 · exact HOV.out g q c
                 · have := (HST.out.flt g c).2
                   omega
               have k61 : w6.cell? ⟨wr.heap.size, 1, none⟩ = some (.string O.key) := Lib.cell_of_heap X6.out 1
               have k6 : w6.cell? ⟨sb, 1, none⟩ = some (.map (some rb)) := ST6.out.c1
               clear hown hgrow hat hglt))
          all_goals
            have y0 := Lib.cell_of_heap X6.out 0
            have y1 := Lib.cell_of_heap X6.out 1
            have y2 := Lib.cell_of_heap X6.out 2
            have y3 := Lib.cell_of_heap X6.out 3
            have y4 := Lib.cell_of_heap X6.out 4
            have y5 := Lib.cell_of_heap X6.out 5
            have hll : (lstM (stM L l k) O.key).length ≤ 17592186044414 := by have := HLB.out k hlt; rwa [HO.out] at this
            have hnk : n + k < maxLen := by omega
            have hB6 : B ≤ w6.heap.size := by have := Z6.out; omega
            go_wp2_with (go_at_call 25; refine (do_is B w6 sb lb rb F' (n + k) (stM L l k) O la ln lc ST6.out hB6 hko hnk hll).mono ?_; rintro e w7 ⟨⟨v7, rfl⟩, hS7, hg7⟩; have S7 := hid hS7; have G7 := hid hg7; clear hS7 hg7)
            go_roundg (l.length - (k + 1))
            case measure => omega
            case rel =>
              have hsn : stM L l (k + 1) = if wrB O = true then stM L l k ++ [O] else stM L l k := by rw [st_next L l k hlt, HO.out]
              refine ⟨k + 1, by omega, by omega, by go_num, (show Aside _ from ⟨⟨wide F' w6 w7, ?_, fun b hb => ?_, fun g' hg' c => ?_⟩, ?_, ?_⟩), (show Aside _ from fun j hj => ?_)⟩
              · rw [hsn, show n + (k + 1) = n + k + 1 from by omega]
                exact S7.out
              · have h1 := Z6.out
                have h2 := G7.out.size
                rcases hb with c | c
                · rcases HF.out b c with d | d
                  · exact .inl d
                  · exact .inr ⟨d.1, by omega⟩
                · exact .inr ⟨by omega, c.2⟩
              · have h1 := OV6.out g' hg'
                rcases c with c | c
                · exact h1.1 c
                · omega
              · exact own_same OW6.out (fun g' hg' => G7.out.block g' (OV6.out g' hg').2 (OV6.out g' hg').1)
              · have h1 := Z6.out
                refine ⟨G7.out.os.trans (GR6.out.os.trans AW.out.gro.os), G7.out.tape.trans (GR6.out.tape.trans AW.out.gro.tape), G7.out.output.trans (GR6.out.output.trans AW.out.gro.output), by have h2 := G7.out.size; omega, fun b hb hn => ?_⟩
                refine (G7.out.block b (by omega) (fun c => ?_)).trans ((GR6.out.block b (by omega) (fun c => ?_)).trans (AW.out.gro.block b hb hn))
                · rcases HF.out b c with d | d
                  · exact hn d
                  · omega
                · have := (own_block2 ROW.out c).1
                  omega
              · by_cases e : j = k
                · subst e
                  rw [HO.out]
                  exact RT.out
                · exact OK.out j (by omega)
        | false =>
          rw [hr] at htl
          have HTL := hid htl
          have HR := hid hr
          have hw0 := AP.out.gro.size
          obtain ⟨oa, oc, hovs, hoc, hold⟩ := old_row (P := fun g => g < wr.heap.size ∧ ¬ F0 g) AP.out.row (fun g hg => ⟨(own_block2 AP.out.row hg).2, hov0 g hg⟩)
          have HOLD := hid hold
          have HST0 := hid hst0
          have HF0 := hid hF0
          clear htl hr hst0 hF0 hov0 hL0 hold
          have GRO := hid AP.out.gro
          clear AP
          subst hovs
          refine HTL.out.mono ?_
          rintro e w4 ⟨rfl, b4⟩
          have BW4 : Hid (Below wr.heap.size wr w4) := BW.out.trans (b4.mono BW.out.size)
          clear b4 HTL
          have hkc : (k : Int) ≤ c := by omega
          have hk0 : (0 : Int) ≤ k := by omega
          have hc0' : ¬ c = 0 := by omega
          have HOC : Hid (OpCells w4 (some ⟨bz, oz, none⟩) l k lv (fun b => b < w4.heap.size ∧ ¬ F0 b)) := fun j hj => by
            obtain ⟨b, off, ha, hp, r⟩ := (HC.out.keep (w' := w4) (fun b hb => (BW4.out.block b (by omega)).trans (GRO.out.block b hb.1 hb.2))) j (by omega)
            refine ⟨b, off, ha, ⟨by have := BW4.out.size; omega, fun c => ?_⟩, r⟩
            rcases HF0.out b c with d | d
            · exact hp.2 d
            · omega
          have HOL : Hid (OldRow w4 oa L l k (fun b => b < w4.heap.size ∧ ¬ F0 b)) := fun j hj => by
            obtain ⟨b, off, ha, hp, r⟩ := (HOLD.out.keep (w' := w4) (fun b hb => BW4.out.block b hb.1)) j hj
            exact ⟨b, off, ha, ⟨by have := BW4.out.size; omega, hp.2⟩, r⟩
          have HLV : Hid (∀ j, j < k → ∃ a n c, lv j = .slice a n c) := fun j hj => by
            obtain ⟨a, c, h, _⟩ := (HI.out j (by omega)).cells
            exact ⟨a, _, c, h⟩
          go_wp2_with (go_at_call 24; refine (undo_is B w4 sb lb rb F0 (n + k) L l k (some ⟨bz, oz, none⟩) c lv oa oc (HST0.out.later BW4.out) (by have := BW4.out.size; omega) hk (by omega) (by omega) hoc HLV.out HOC.out HOL.out (fun j hj => HKS.out j (by omega)) (by omega)).mono ?_; rintro e w5 ⟨⟨v5, rfl⟩, hS5, hg5⟩; have S5 := hid hS5; have G5 := hid hg5; clear hS5 hg5)
          go_ret
          have hz4 := BW4.out.size
          have hz5 := G5.out.size
          have hG : Gro F w w5 := ⟨G5.out.os.trans (BW4.out.os.trans GRO.out.os), G5.out.tape.trans (BW4.out.tape.trans GRO.out.tape), G5.out.output.trans (BW4.out.output.trans GRO.out.output), by omega, fun b hb hn => (G5.out.block b (by omega) (fun c => by
            rcases HF0.out b c with d | d
            · exact hn d
            · omega)).trans ((BW4.out.block b (by omega)).trans (GRO.out.block b hb hn))⟩
          refine ⟨false, rfl, ⟨fun c => absurd c (by decide), fun c => ?_⟩, ?_, hG⟩
          · rcases c k hlt with d | d
            · cases d
            · rw [HO.out, HR.out] at d
              cases d
          · simp only [Bool.false_eq_true, if_false]
            refine S5.out.wider (fun b hb => ?_) (wide_lt H0.out.flt hB hG.size) (by omega)
            rcases hb with c | c
            · rcases HF0.out b c with d | d
              · exact .inl d
              · exact .inr ⟨d.1, by omega⟩
            · exact .inr ⟨by omega, c.2⟩
    · have HLL : Hid (l.length = k) := by show l.length = k; omega
      go_wp2_with fail
      go_ret
      obtain ⟨F', hst, hF', hov⟩ := AP.out.st
      refine ⟨true, rfl, ⟨fun _ j hj => OK.out j (by have := HLL.out; omega), fun _ => rfl⟩, ?_, AP.out.gro⟩
      simp only [if_true]
      rw [HLL.out]
      exact hst.wider hF' (wide_lt H0.out.flt hB AP.out.gro.size) (by omega)
end Go.Proofs.YtjeheknhpfkaiaaDoor
