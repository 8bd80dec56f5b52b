/-
  Transactions, in an order: plain; and Replay.
-/
import Derived.Test.YtgfnjebnfhgimaaM7
import Derived.Test.YtgfnjebnfhgimaaSx
import Derived.Deep.OwnRows
namespace Go.Proofs.Ytgfnjebnfhgimaa
set_option linter.unusedVariables false
set_option linter.unusedSimpArgs false
open Go.RowKit Go.Lib Go.Maps
open Tx (MTxn TxnsIn TxnRow)

/-- The transaction at a place. -/
def txO (l : List MTxn) (x : Int) : MTxn := l.getD x.toNat default
/-- What was written behind k of them. -/
def rpL (l : List MTxn) (ord : List Int) : Nat → List MOp
  | 0 => []
  | k + 1 => stM (rpL l ord k) (txO l (ord.getD k 0)).ops (txO l (ord.getD k 0)).ops.length
/-- The one at k is a place, for the first time, and applies. -/
def goodR (l : List MTxn) (ord : List Int) (k : Nat) : Prop :=
  0 ≤ ord.getD k 0 ∧ ord.getD k 0 < l.length ∧ (∀ j, j < k → ord.getD j 0 ≠ ord.getD k 0) ∧ okM (rpL l ord k) (txO l (ord.getD k 0)).ops ((txO l (ord.getD k 0)).state == 3)
def okR (l : List MTxn) (ord : List Int) : Prop := ∀ k, k < ord.length → goodR l ord k
theorem holes : ∀ (m k : Nat) (f : Nat → Nat), (∀ j, j < k → f j < m) → (∀ i j, i < j → j < k → f i ≠ f j) → k ≤ m
  | 0, k, f, h1, _ => by
    cases k with
    | zero => exact Nat.le_refl _
    | succ k => exact absurd (h1 0 (by omega)) (Nat.not_lt_zero _)
  | m + 1, k, f, h1, h2 => by
    by_cases hx : ∃ j, j < k ∧ f j = m
    · obtain ⟨j0, hj0, he⟩ := hx
      have := holes m (k - 1) (fun j => if j < j0 then f j else f (j + 1)) (fun j hj => by
        show (if j < j0 then f j else f (j + 1)) < m
        split
        · have a := h1 j (by omega)
          have b := h2 j j0 (by omega) (by omega)
          omega
        · have a := h1 (j + 1) (by omega)
          have b := h2 j0 (j + 1) (by omega) (by omega)
          omega) (fun i j hij hj => by
        show (if i < j0 then f i else f (i + 1)) ≠ (if j < j0 then f j else f (j + 1))
        by_cases a : i < j0
        · rw [if_pos a]
          by_cases b : j < j0
          · rw [if_pos b]
            exact h2 i j hij (by omega)
          · rw [if_neg b]
            exact h2 i (j + 1) (by omega) (by omega)
        · rw [if_neg a, if_neg (by omega)]
          exact h2 (i + 1) (j + 1) (by omega) (by omega))
      omega
    · have := holes m k f (fun j hj => by
        have a := h1 j hj
        have b : f j ≠ m := fun e => hx ⟨j, hj, e⟩
        omega) h2
      omega
theorem good_le (l : List MTxn) (ord : List Int) (k : Nat) (h : ∀ j, j < k → goodR l ord j) : k ≤ l.length :=
  holes l.length k (fun j => (ord.getD j 0).toNat) (fun j hj => by
    have a := (h j hj).1
    have b := (h j hj).2.1
    show (ord.getD j 0).toNat < l.length
    omega) (fun i j hij hj e => by
    have a := (h i (by omega)).1
    have b := (h j hj).1
    have c := (h j hj).2.2.1 i hij
    have e' : (ord.getD i 0).toNat = (ord.getD j 0).toNat := e
    exact c (by omega))
theorem st_full (L l : List MOp) : (stM L l l.length).length ≤ L.length + l.length := st_len L l l.length
theorem rp_len (l : List MTxn) (ord : List Int) (hl : ∀ t ∈ l, t.ops.length ≤ 1048576) : ∀ k, (rpL l ord k).length ≤ 1048576 * k
  | 0 => Nat.le_refl _
  | k + 1 => by
    have ih := rp_len l ord hl k
    rw [rpL]
    have h1 := st_full (rpL l ord k) (txO l (ord.getD k 0)).ops
    have h2 : (txO l (ord.getD k 0)).ops.length ≤ 1048576 := by
      unfold txO
      by_cases hb : (ord.getD k 0).toNat < l.length
      · have e : l.getD (ord.getD k 0).toNat default = l[(ord.getD k 0).toNat] := by rw [List.getD, List.getElem?_eq_getElem hb]; rfl
        rw [e]
        exact hl _ (List.getElem_mem hb)
      · have e : l.getD (ord.getD k 0).toNat default = default := by rw [List.getD, List.getElem?_eq_none (by omega)]; rfl
        rw [e]
        exact Nat.zero_le _
    omega
/-- Has a place come already. -/
def doneB (ord : List Int) (k j : Nat) : Bool := (List.range k).any fun i => ord.getD i 0 == (j : Int)
theorem done_zero (ord : List Int) (j : Nat) : doneB ord 0 j = false := rfl
theorem done_succ (ord : List Int) (k j : Nat) : doneB ord (k + 1) j = (doneB ord k j || ord.getD k 0 == (j : Int)) := by
  unfold doneB
  rw [List.range_succ, List.any_append]
  simp
theorem done_true (ord : List Int) (k j : Nat) : doneB ord k j = true ↔ ∃ i, i < k ∧ ord.getD i 0 = (j : Int) := by
  unfold doneB
  simp [List.any_eq_true]
theorem Try.infoBool : (Try.prog.info? 4).map (fun i => (i.zero, i.size, i.bytes)) = some (some (.bool false), 1, 1) := by kernel_rfl

theorem row_done {w : World} {g m k j : Nat} {ord : List Int} (h : w.rowIs g 4 m (fun j => .bool (doneB ord k j))) (hj : ord.getD k 0 = (j : Int)) (hjm : j < m) : (w.setCell ⟨g, j, none⟩ (.bool true)).rowIs g 4 m (fun j => .bool (doneB ord (k + 1) j)) := by
  obtain ⟨c, h1, h2, h3⟩ := h
  refine ⟨c.setIfInBounds j (.bool true), ?_, by simp [h2], fun i hi => ?_⟩
  · unfold World.setCell
    simp [Array.getElem?_modify, h1]
  · show _ = some (Value.bool (doneB ord (k + 1) i))
    rw [done_succ, hj]
    by_cases e : j = i
    · subst e
      rw [Array.getElem?_setIfInBounds_self_of_lt (by omega)]
      simp
    · rw [Array.getElem?_setIfInBounds_ne e, h3 i hi]
      have : ((j : Int) == (i : Int)) = false := by rw [beq_eq_false_iff_ne]; omega
      rw [this, Bool.or_false]
/-- The cells of transactions that came in. -/
def TxC (w : World) (ta : Option Addr) (l : List MTxn) : Prop := ∀ j, j < l.length → ∃ tb tf ov, ta = some ⟨tb, tf, none⟩ ∧ (∀ i u, ([.int .i64 (l.getD j default).proc, .int .i64 (l.getD j default).state, .int .i64 (l.getD j default).since, .int .i64 (l.getD j default).till, ov] : List Value)[i]? = some u → w.cell? ⟨tb, tf + j * 5 + i, none⟩ = some u) ∧ OpsIn Any w ov (l.getD j default).ops
theorem txns_cells {w : World} {v : Value} {l : List MTxn} (h : TxnsIn Any w v l) : ∃ ta tc, v = .slice ta l.length tc ∧ (l.length * 56 ≤ 140737488355328 ∧ l.length ≤ tc) ∧ TxC w ta l := by
  obtain ⟨ta, tc, hv, hl, hc⟩ := h
  refine ⟨ta, tc, hv, hl, fun j hj => ?_⟩
  obtain ⟨b, off, ha, _, hcc⟩ := hc (by omega)
  obtain ⟨cs, _, ⟨ov, rfl, ho⟩, hcell⟩ := hcc j hj
  exact ⟨b, off, ov, ha, hcell, ho⟩
/-- What Replay answers. -/
def RPost (l : List MTxn) (ord : List Int) (w : World) (e : Ending) (w' : World) : Prop := ∃ b : Bool, e = .returned (.bool b) ∧ (b = true ↔ okR l ord) ∧ Below w.heap.size w w'
set_option maxHeartbeats 4000000 in
set_option maxRecDepth 100000 in
theorem replay_is (w : World) (tv ov : Value) (l : List MTxn) (ord : List Int) (ht : TxnsIn Any w tv l) (ho : IntsIn Any w ov ord) (hl40 : l.length ≤ 262144) (hl10 : ∀ t ∈ l, t.ops.length ≤ 1048576) (hks : ∀ t ∈ l, ∀ o ∈ t.ops, o.key.size ≤ 281474976710656) :
    Calls Try.prog 6 #[tv, ov] w fun e w' => RPost l ord w e w' := by
  obtain ⟨ta, tc, rfl, ⟨hby, hcap⟩, hT⟩ := txns_cells ht
  obtain ⟨oa, oc, rfl, ⟨ob1, ob2⟩, hO⟩ := ho.cells
  obtain ⟨i0, hi0, hz0, hz1, hz2⟩ := info_parts Try.infoBool
  have HT := hid hT
  have HO := hid hO
  have hlen : (l.length : Int) ≤ 262144 := by omega
  have holen : (ord.length : Int) ≤ 17592186044416 := by omega
  clear hT hO ho
  have hmk : ∀ W : World, (Instr.makeSlice 25 (.int .i64 (l.length : Int)) (.int .i64 (l.length : Int))).run Try.prog W = .ok (.slice (some ⟨W.heap.size, 0, none⟩) l.length l.length) (W.alloc (.cells (madeCells #[.bool false] l.length) 4)) := fun W => run_make_row' 25 4 (.bool false) 1 Try.underlying25 Try.infoBool rfl .i64 .i64 l.length (by omega) (by omega) W
  have HL10 := hid hl10
  have HKS := hid hks
  clear hi0 hz0 hz1 hz2 hl10 hks
  go_enter Try.func6, Try.ntmps6
  go_wp2_with (go_at_call 11; refine (new_is _).mono ?_; rintro e w0 ⟨sb, lb, rb, rfl, hst0, hb0⟩; have ST0 := hid hst0; have B0 := hid hb0; clear hst0 hb0)
  obtain ⟨g, hg0⟩ : ∃ g, w0.heap.size = g := ⟨_, rfl⟩
  obtain ⟨w1, hw1⟩ : ∃ w1, w0.alloc (.cells (madeCells #[.bool false] l.length) 4) = w1 := ⟨_, rfl⟩
  have R1 : Hid (w1.rowIs g 4 l.length (fun j => .bool (doneB ord 0 j))) := by rw [← hw1, ← hg0]; exact World.rowIs_made w0 _ _ _
  have B1 : Hid (Below w.heap.size w w1) := by rw [← hw1]; exact B0.out.trans ((below_box w0 _).mono B0.out.size)
  have S1 : Hid (St w.heap.size w1 sb lb rb (fun b => w.heap.size ≤ b ∧ b < w0.heap.size) 0 []) := by rw [← hw1]; exact ST0.out.later (below_box w0 _)
  have hgw : w.heap.size ≤ g := by have := B0.out.size; omega
  rw [hg0, hw1]
  have NF : Hid (¬ (w.heap.size ≤ g ∧ g < w0.heap.size)) := fun c => by omega
  clear hw1 hg0
  go_loopg [15] ord.length (fun gg i wr => ∃ k : Nat, k ≤ ord.length ∧ ord.length - k ≤ gg ∧ i = .int .i64 k ∧ Aside (Below w.heap.size w wr) ∧ Aside (∃ F n, n ≤ 2097152 * k ∧ St w.heap.size wr sb lb rb F n (rpL l ord k) ∧ ¬ F g) ∧ Aside (wr.rowIs g 4 l.length (fun j => .bool (doneB ord k j))) ∧ Aside (∀ j, j < k → goodR l ord j))
  case atStart => exact ⟨0, Nat.zero_le _, by omega, rfl, B1.out, ⟨_, 0, Nat.le_refl _, S1.out, NF.out⟩, R1.out, fun j hj => absurd hj (Nat.not_lt_zero _)⟩
  case round =>
    obtain ⟨k, hk, hgk, rfl, BR, SR, RR, GD⟩ := hrel
    by_cases hlt : k < ord.length
    · have hlti : (k : Int) < ord.length := by omega
      obtain ⟨ob, oo, rfl, k0⟩ := HO.out k hlt
      have d0 := (BR.out.cell (p := ⟨ob, oo + k, none⟩) (World.block_lt_of_cell? _ _ k0)).trans k0
      obtain ⟨x, hx⟩ : ∃ x, ord.getD k default = x := ⟨_, rfl⟩
      have HX : Hid (ord.getD k 0 = x) := hx
      rw [hx] at d0
      clear k0 hx
      by_cases hx0 : x < 0
      · have HN : Hid (¬ goodR l ord k) := fun c => by have := c.1; rw [HX.out] at this; omega
        go_wp2_with fail
        go_ret
        exact ⟨false, rfl, ⟨fun c => absurd c (by decide), fun c => absurd (c k hlt) HN.out⟩, BR.out⟩
      · have hx0' : 0 ≤ x := by omega
        by_cases hxl : x < l.length
        · obtain ⟨j, hj⟩ : ∃ j : Nat, x = j := ⟨x.toNat, by omega⟩
          subst hj
          have hjl : j < l.length := by omega
          have hjd : ¬ ((l.length : Int) ≤ j) := by omega
          obtain ⟨cs, hcs, hcz, hci⟩ := RR.out
          have dj : wr.cell? ⟨g, j, none⟩ = some (.bool (doneB ord k j)) := (Lib.cell_of_heap hcs j).trans (hci j hjl)
          have fj : wr.frozen? ⟨g, j, none⟩ = false := Lib.frozen_of_heap hcs j
          have HCS := hid hcs
          clear hcs hcz hci
          cases hdn : doneB ord k j with
          | true =>
            rw [hdn] at dj
            have HN : Hid (¬ goodR l ord k) := fun c => by
              obtain ⟨i, hi, he⟩ := (done_true ord k j).1 hdn
              exact c.2.2.1 i hi (by rw [he, HX.out])
            clear hdn
            go_wp2_with fail
            go_ret
            exact ⟨false, rfl, ⟨fun c => absurd c (by decide), fun c => absurd (c k hlt) HN.out⟩, BR.out⟩
          | false =>
            rw [hdn] at dj
            have HD : Hid (∀ i, i < k → ord.getD i 0 ≠ ord.getD k 0) := fun i hi he => by
              rw [HX.out] at he
              have q := (done_true ord k j).2 ⟨i, hi, he⟩
              rw [hdn] at q
              cases q
            clear hdn
            obtain ⟨F, n, hnk, hst, hFg⟩ := SR.out
            obtain ⟨tb, tf, ov, hta, hrow, hops⟩ := HT.out j hjl
            subst hta
            have hkl := good_le l ord k GD.out
            have c1 := hrow 1 _ rfl
            have c4 := hrow 4 _ rfl
            have htb := World.block_lt_of_cell? _ _ c1
            have hop0 : OpsIn Any w ov (l.getD j default).ops := hops
            obtain ⟨W, hW⟩ : ∃ W, wr.setCell ⟨g, j, none⟩ (.bool true) = W := ⟨_, rfl⟩
            have hWo : ∀ b, b ≠ g → W.heap[b]? = wr.heap[b]? := fun b hb => by rw [← hW]; exact set_ne hb
            have hWs : W.heap.size = wr.heap.size := by rw [← hW]; simp [World.setCell]
            have hGW : Gro (fun b => b = g) wr W := by rw [← hW]; exact ⟨rfl, rfl, rfl, by simp [World.setCell], fun b _ hb => set_ne hb⟩
            have BW : Hid (Below w.heap.size w W) := ⟨by rw [← hW]; exact BR.out.os, by rw [← hW]; exact BR.out.tape, by rw [← hW]; exact BR.out.output, by have := BR.out.size; omega, fun b hb => (hWo b (by omega)).trans (BR.out.block b hb)⟩
            have SW : Hid (St w.heap.size W sb lb rb F n (rpL l ord k)) := hst.keep hGW (fun b hb e => hFg (e ▸ hb))
            have RWW : Hid (W.rowIs g 4 l.length (fun j => .bool (doneB ord (k + 1) j))) := by rw [← hW]; exact row_done RR.out HX.out hjl
            have d1 : W.cell? ⟨tb, tf + j * 5 + 1, none⟩ = some (.int .i64 (l.getD j default).state) := (BW.out.cell (p := ⟨tb, tf + j * 5 + 1, none⟩) htb).trans c1
            have d4 : W.cell? ⟨tb, tf + j * 5 + 4, none⟩ = some ov := (BW.out.cell (p := ⟨tb, tf + j * 5 + 4, none⟩) htb).trans c4
            obtain ⟨oa2, oc2, hov, _⟩ := hop0
            have HOP : Hid (OpsIn (fun b => ¬ F b) W ov (l.getD j default).ops) := hops.keep (keeps_below BW.out) (fun b hb _ c => by have := (hst.flt b c).1; omega)
            obtain ⟨T, hTt⟩ : ∃ T, l.getD j default = T := ⟨_, rfl⟩
            have hTm : T ∈ l := by rw [← hTt, List.getD, List.getElem?_eq_getElem hjl]; exact List.getElem_mem hjl
            have hT10 := HL10.out T hTm
            have HTO : Hid (txO l (ord.getD k 0) = T) := by show txO l _ = T; rw [HX.out]; exact hTt
            rw [hTt] at d1 hov HOP
            have hrl := rp_len l ord HL10.out k
            have AP := apply_is w.heap.size W.drew sb lb rb F n (rpL l ord k) T.ops ov (T.state == 3) (SW.out.later (below_drewN (Below.refl _ _) 1)) BW.out.size (HOP.out.keep (fun _ _ _ => rfl) (fun _ _ x => x)) (HKS.out T hTm) (by unfold maxLen; omega) (fun i hi => Nat.le_trans (lst_len _ _) (Nat.le_trans (st_len _ _ i) (by omega)))
            subst hov
            have APH := hid AP
            have HW := hid hW
            have HFG := hid hFg
            have hgz : g < W.heap.size := by have := blt HCS.out; omega
            clear AP hW hst hrow hops c1 c4 hWo hGW hFg SR RR hTt
            go_wp2_with fail
            rw [show wr.setCell ⟨g, j, none⟩ (.bool true) = W from HW.out]
            go_region_held3 (fun w' => w'.cell? ⟨tb, tf + j * 5 + 1, none⟩ = some (.int .i64 T.state) ∧ w'.cell? ⟨tb, tf + j * 5 + 4, none⟩ = some (.slice oa2 T.ops.length oc2)) (go_keep) (first
              | (go_at_call 12
                 refine APH.out.mono ?_
                 rintro e w5 ⟨b5, rfl, hb5, hs5, hg5⟩
                 have OK5 := hid hb5
                 have S5 := hid hs5
                 have G5 := hid hg5
                 clear hb5 hs5 hg5
                 have hbl5 : W.heap.size ≤ w5.heap.size := G5.out.size
                 have e1 : w5.cell? ⟨tb, tf + j * 5 + 1, none⟩ = some (.int .i64 T.state) := (World.cell?_of_block (a := ⟨tb, tf + j * 5 + 1, none⟩) (G5.out.block tb (by show tb < W.heap.size; have := BW.out.size; omega) (fun c => by have := (SW.out.flt tb c).1; omega))).trans d1
                 have e4 : w5.cell? ⟨tb, tf + j * 5 + 4, none⟩ = some (.slice oa2 T.ops.length oc2) := (World.cell?_of_block (a := ⟨tb, tf + j * 5 + 4, none⟩) (G5.out.block tb (by show tb < W.heap.size; have := BW.out.size; omega) (fun c => by have := (SW.out.flt tb c).1; omega))).trans d4))
            all_goals
              have B5 : Hid (Below w.heap.size w w5) := ⟨G5.out.os.trans BW.out.os, G5.out.tape.trans BW.out.tape, G5.out.output.trans BW.out.output, by have := BW.out.size; omega, fun b hb => (G5.out.block b (by show b < W.heap.size; have := BW.out.size; omega) (fun c => by have := (SW.out.flt b c).1; omega)).trans (BW.out.block b hb)⟩
              cases b5 with
              | true =>
                go_wp2_with fail
                go_roundg (ord.length - (k + 1))
                case measure => omega
                case rel =>
                  refine ⟨k + 1, by omega, by omega, by go_num, B5.out, (show Aside _ from ⟨wide F W.drew w5, n + 2 * T.ops.length, by omega, ?_, fun c => ?_⟩), (show Aside _ from ?_), (show Aside _ from fun i hi => ?_)⟩
                  · have hS := S5.out
                    simp only [if_true] at hS
                    rw [rpL, HTO.out]
                    exact hS
                  · rcases c with c | c
                    · exact HFG.out c
                    · have h1 : W.heap.size ≤ g := c.1
                      omega
                  · obtain ⟨c, q1, q2, q3⟩ := RWW.out
                    exact ⟨c, (G5.out.block g hgz HFG.out).trans q1, q2, q3⟩
                  · by_cases e : i = k
                    · subst e
                      refine ⟨by rw [HX.out]; omega, by rw [HX.out]; omega, HD.out, ?_⟩
                      rw [HTO.out]
                      exact OK5.out.1 (by first | rfl | trivial)
                    · exact GD.out i (by omega)
              | false =>
                have HN : Hid (¬ goodR l ord k) := fun c => by
                  have q := c.2.2.2
                  rw [HTO.out] at q
                  exact absurd (OK5.out.2 q) (by decide)
                go_wp2_with fail
                go_ret
                exact ⟨false, rfl, ⟨fun c => absurd c (by decide), fun c => absurd (c k hlt) HN.out⟩, B5.out⟩
        · have hxl' : (l.length : Int) ≤ x := by omega
          have HN : Hid (¬ goodR l ord k) := fun c => by have := c.2.1; rw [HX.out] at this; omega
          go_wp2_with fail
          go_ret
          exact ⟨false, rfl, ⟨fun c => absurd c (by decide), fun c => absurd (c k hlt) HN.out⟩, BR.out⟩
    · go_wp2_with fail
      go_ret
      exact ⟨true, rfl, ⟨fun _ j hj => GD.out j (by omega), fun _ => rfl⟩, BR.out⟩
end Go.Proofs.Ytgfnjebnfhgimaa
