/-
  The law CyclesRing: its walk, for the label 1.
-/
import Derived.Test.YtdihbeffomibeaaGreatDoorCy23
namespace Go.Proofs.YtdihbeffomibeaaGreatDoor
set_option linter.unusedVariables false
set_option linter.unusedSimpArgs false
open Go.RowKit Go.Lib Go.Maps

set_option maxHeartbeats 16000000 in
set_option maxRecDepth 200000 in
theorem ring_a (n0 lab cut0 : Int) (w : World) (hT : Tab w) (hC : Cls w) (hk : wrap64 ((IntKind.u64.wrap lab).tmod 3) = 0) :
    Calls Tryz.prog 6 #[.int .i64 n0, .int .i64 lab, .int .i64 cut0] w fun e w' => e = .returned (.bool true) ∧ Below w.heap.size w w' := by
  obtain ⟨N, hN, hn⟩ : ∃ N : Nat, N < 30 ∧ wrap64 ((IntKind.u64.wrap n0).tmod 30) = N := u64_mod n0 30 (by decide) (by decide)
  obtain ⟨n, hnN⟩ : ∃ n : Nat, N + 2 = n := ⟨_, rfl⟩
  have hn2 : wrap64 (2 + (N : Int)) = (n : Int) := by unfold wrap64; omega
  obtain ⟨cut, hcut, hcm⟩ := u64_mod cut0 n (by omega) (by omega)
  have hun : IntKind.u64.wrap (n : Int) = (n : Int) := by rw [IntKind.wrap_u64]; omega
  have hn0 : ¬ (n : Int) = 0 := by omega
  have hmin : ¬ ((n : Int) = -1) := by omega
  have h2n : 2 ≤ n := by omega
  have h31 : n ≤ 31 := by omega
  have RKc : Hid (RK 8 1) := by unfold RK; show _ ∨ _; simp
  have TB := hid hT
  have CB := hid hC
  obtain ⟨W1, hW1⟩ : ∃ W1, w.alloc (.cells #[.int .i64 8, .int .i64 9, .int .i64 11] 3) = W1 := ⟨_, rfl⟩
  have B1 : Hid (Below w.heap.size w W1) := by rw [← hW1]; exact below_box w _
  have c0 : W1.cell? ⟨w.heap.size, 0, none⟩ = some (.int .i64 8) := by rw [← hW1]; exact new_cells w _ 3 0
  obtain ⟨B, hB⟩ : ∃ B, W1.heap.size = B := ⟨_, rfl⟩
  have HBS : Hid (∀ V, Below B W1 V → B ≤ V.heap.size) := fun V h => by rw [← hB]; exact h.size
  have BB0 : Hid (Below B W1 W1) := by rw [← hB]; exact Below.refl _ _
  have O0 : Hid (W1.ownsRow B 25 8 (.slice none 0 0) 0 (rowsW (ringF n 1) 0).flatten) := World.ownsRow_nil _ _ _ _
  clear hT hC hN hnN
  go_enter Tryz.func6, Tryz.ntmps6
  go_wp2_with fail
  simp only [hk, hn, hn2]
  clear c0 hW1 hk hn hn2
  go_loopg [9, 10, 31] n (fun g v9 _ v31 wr => ∃ m : Nat, m ≤ n ∧ n - m ≤ g ∧ v31 = .int .i64 m ∧ Aside (Below B W1 wr ∧ wr.ownsRow B 25 8 v9 m (rowsW (ringF n 1) m).flatten))
  case atStart => exact ⟨0, Nat.zero_le _, by omega, rfl, BB0.out, O0.out⟩
  case round =>
    clear O0 BB0
    obtain ⟨m, hi, hg, rfl, BX⟩ := hrel
    by_cases hlt : m < n
    · have hlti : (m : Int) < (n : Int) := by omega
      have hi1 := ring_wrap (n := n) hlt h31
      have hmodU := ring_modU hlt h31
      have hi2 := ring_wrap2 (n := n) hlt h31
      have hnN0 : ¬ n = 0 := by omega
      go_wp2_with fail
      refine wp_region_gen2 Tryz.mixedOrders (by kernel_rfl) (fun val => { tmps := #[_, _, _, _, _, _, _, _, _, val 11, _, _, _, _, _, _, _, _, _, _, _, _, _, _, _, _, _, _, _, _, _, _, _, _, val 0, val 1, val 2, val 3, val 4, val 5, val 6, val 7, val 8, val 9, val 10, _, _, _, _, _, _, _, _, _, _, _, _, _, _, _, _, _, _, _, _, _, _, _, _, _, _, _, _, _, _, _, _, _, _, _, _, _, _, _, _, _, _, _, _, _, _, _, _, _, _, _, _, _, _, _, _, _, _, _, _], defers := [] }) (fun i => match i with | 0 => u34 | 1 => u35 | 2 => u36 | 3 => u37 | 4 => u38 | 5 => u39 | 6 => u40 | 7 => u41 | 8 => u42 | 9 => u43 | 10 => u44 | 11 => u9 | _ => undef) rfl (fun L V => Below B W1 V ∧ (L 10 = false → V.ownsRow B 25 8 u9 m (rowsW (ringF n 1) m).flatten)) (fun L i y V => match i with | 0 => y = u9 | 1 => y = .int .i64 (m : Nat) | 2 => y = .int .i64 (m : Nat) | 3 => y = .int .i64 ((m : Int) + 1) | 4 => y = .int .i64 (n : Nat) | 5 => y = .int .i64 (nxt n m : Nat) | 6 => y = .int .i64 0 | 7 => y = .int .i64 1 | 8 => y = .agg (encW (ringF n 1 m)).toArray | 9 => ∃ nb, y = .slice (some ⟨nb, 0, none⟩) 1 1 ∧ (L 10 = false → Lw V (some ⟨nb, 0, none⟩) 1 (fun _ => ringF n 1 m)) | 10 => V.ownsRow B 25 8 y (m + 1) (rowsW (ringF n 1) (m + 1)).flatten | 11 => V.ownsRow B 25 8 y (m + 1) (rowsW (ringF n 1) (m + 1)).flatten | _ => True) ⟨BX.out.1.drew, fun _ => BX.out.2.drew⟩ _ rfl ⟨?_, ?_, ?_, ?_, ?_, ?_, ?_, ?_, ?_, ?_, ?_, ?_, trivial⟩ ?_
      · refine gen_plain2 rfl (fun _ _ => rfl) (fun L val V hc hi hu hg hd => ?_)
        have h11 : L 11 = false := wants_back hc 12 11 0 (by kernel_rfl) hi
        have e : val 11 = u9 := hu 11 h11
        refine gdoes2_value (v := u9) ?_ rfl hg (fun j hj hr => hr)
        simp [execOp, Act.eval, go_sem, e]
      · refine gen_plain2 rfl (fun _ _ => rfl) (fun L val V hc hi hu hg hd => ?_)
        refine gdoes2_value (v := .int .i64 (m : Nat)) ?_ rfl hg (fun j hj hr => hr)
        simp [execOp, Act.eval, go_sem]
      · refine gen_plain2 rfl (fun _ _ => rfl) (fun L val V hc hi hu hg hd => ?_)
        refine gdoes2_value (v := .int .i64 (m : Nat)) ?_ rfl hg (fun j hj hr => hr)
        simp [execOp, Act.eval, go_sem]
      · refine gen_plain2 rfl (fun _ _ => rfl) (fun L val V hc hi hu hg hd => ?_)
        have h2 : val 2 = .int .i64 (m : Nat) := depsG_get hd 2 (by kernel_rfl)
        refine gdoes2_value (v := .int .i64 ((m : Int) + 1)) ?_ rfl hg (fun j hj hr => hr)
        simp [execOp, Act.eval, go_sem, h2, hi2]
      · refine gen_plain2 rfl (fun _ _ => rfl) (fun L val V hc hi hu hg hd => ?_)
        refine gdoes2_value (v := .int .i64 (n : Nat)) ?_ rfl hg (fun j hj hr => hr)
        simp [execOp, Act.eval, go_sem]
      · refine gen_plain2 rfl (fun _ _ => rfl) (fun L val V hc hi hu hg hd => ?_)
        have h3 : val 3 = .int .i64 ((m : Int) + 1) := depsG_get hd 3 (by kernel_rfl)
        have h4 : val 4 = .int .i64 (n : Nat) := depsG_get hd 4 (by kernel_rfl)
        refine gdoes2_value (v := .int .i64 (nxt n m : Nat)) ?_ rfl hg (fun j hj hr => hr)
        simp [execOp, Act.eval, go_sem, h3, h4, hmodU, hnN0]
      · refine gen_plain2 rfl (fun _ _ => rfl) (fun L val V hc hi hu hg hd => ?_)
        refine gdoes2_value (v := .int .i64 0) ?_ rfl hg (fun j hj hr => hr)
        simp [execOp, Act.eval, go_sem]
      · refine gen_plain2 rfl (fun _ _ => rfl) (fun L val V hc hi hu hg hd => ?_)
        have h6 : val 6 = .int .i64 0 := depsG_get hd 6 (by kernel_rfl)
        refine gdoes2_value (v := .int .i64 1) ?_ rfl hg (fun j hj hr => hr)
        simp [execOp, Act.eval, go_sem, h6]
        rfl
      · refine gen_plain2 rfl (fun _ _ => rfl) (fun L val V hc hi hu hg hd => ?_)
        have h1 : val 1 = .int .i64 (m : Nat) := depsG_get hd 1 (by kernel_rfl)
        have h5 : val 5 = .int .i64 (nxt n m : Nat) := depsG_get hd 5 (by kernel_rfl)
        have h7 : val 7 = .int .i64 1 := depsG_get hd 7 (by kernel_rfl)
        refine gdoes2_value (v := .agg (encW (ringF n 1 m)).toArray) ?_ rfl hg (fun j hj hr => hr)
        simp [execOp, Act.eval, go_sem, h1, h5, h7, Tryz.infoW]
        rfl
      · refine gen_plain2 rfl (fun _ _ => rfl) (fun L val V hc hi hu hg hd => ?_)
        have h8 : val 8 = .agg (encW (ringF n 1 m)).toArray := depsG_get hd 8 (by kernel_rfl)
        have h10 : L 10 = false := wants_back hc 12 10 9 (by kernel_rfl) hi
        have hbv : Below V.heap.size V (V.alloc (.cells (encW (ringF n 1 m)).toArray 25)) := below_box V _
        have hlw : Lw (V.alloc (.cells (encW (ringF n 1 m)).toArray 25)) (some ⟨V.heap.size, 0, none⟩) 1 (fun _ => ringF n 1 m) := lw_one (Bw.made V _ _ _ _ _ _ _ _ 25)
        refine gdoes2_turn (v := .slice (some ⟨V.heap.size, 0, none⟩) 1 1) (w' := V.alloc (.cells (encW (ringF n 1 m)).toArray 25)) ?_ ⟨V.heap.size, rfl, fun _ => hlw⟩ ⟨hg.1.trans (hbv.mono (HBS.out V hg.1)), fun _ => (hg.2 h10).alloc _⟩ (fun j hj hr => ?_)
        · simp [execOp, Act.eval, go_sem, h8, encW, ringF]
        · match j, hj, hr with
          | 0, hj, hr => exact hr
          | 1, hj, hr => exact hr
          | 2, hj, hr => exact hr
          | 3, hj, hr => exact hr
          | 4, hj, hr => exact hr
          | 5, hj, hr => exact hr
          | 6, hj, hr => exact hr
          | 7, hj, hr => exact hr
          | 8, hj, hr => exact hr
          | 9, hj, hr => rw [hi] at hj; cases hj
          | 10, hj, hr => rw [h10] at hj; cases hj
          | 11, hj, hr => (have h11 := wants_back hc 12 11 9 (by kernel_rfl) hi; rw [h11] at hj; cases hj)
          | _ + 12, hj, hr => trivial
      · refine gen_plain2 rfl (fun _ _ => rfl) (fun L val V hc hi hu hg hd => ?_)
        have h0 : val 0 = u9 := depsG_get hd 0 (by kernel_rfl)
        obtain ⟨nb, h9, hl9⟩ := depsG_get hd 9 (by kernel_rfl)
        have hl9 := hl9 hi
        have ho9 := hg.2 hi
        intro K hK
        refine wp_append_why V _ _ rfl B u9 m (rowsW (ringF n 1) m).flatten (show val 0 = _ from h0) ho9 ⟨nb, 0, none⟩ 1 1 (fun _ => ringF n 1 m) (show val 9 = _ from h9) hl9 (by omega) (HBS.out V hg.1) (fun v' w' q1 q2 => ?_)
        have q3 : w'.ownsRow B 25 8 v' (m + 1) (rowsW (ringF n 1) (m + 1)).flatten := by
          have e := rowsW_snoc (ringF n 1) (ringF n 1 m) m
          rw [e] at q1
          have e2 : rowsW (fun j => if j < m then ringF n 1 j else ringF n 1 m) (m + 1) = rowsW (ringF n 1) (m + 1) := rowsW_congr (fun j hj => by by_cases c : j < m; rw [if_pos c]; rw [if_neg c, show j = m by omega])
          rwa [e2] at q1
        refine hK v' w' q3 ⟨hg.1.grown q2 (HBS.out V hg.1) (fun k hk => (ho9.lt k hk).1), fun c => (by rw [show upB L 10 10 = true from upB_self L 10] at c; cases c)⟩ (fun j hj hr => ?_)
        match j, hj, hr with
        | 0, hj, hr => exact hr
        | 1, hj, hr => exact hr
        | 2, hj, hr => exact hr
        | 3, hj, hr => exact hr
        | 4, hj, hr => exact hr
        | 5, hj, hr => exact hr
        | 6, hj, hr => exact hr
        | 7, hj, hr => exact hr
        | 8, hj, hr => exact hr
        | 9, hj, hr => exact (let ⟨nb, e, _⟩ := hr; ⟨nb, e, fun c => (by rw [show upB L 10 10 = true from upB_self L 10] at c; cases c)⟩)
        | 10, hj, hr => rw [hi] at hj; cases hj
        | 11, hj, hr => (have h11 := wants_back hc 12 11 10 (by kernel_rfl) hi; rw [h11] at hj; cases hj)
        | _ + 12, hj, hr => trivial
      · refine gen_plain2 rfl (fun _ _ => rfl) (fun L val V hc hi hu hg hd => ?_)
        have h10 := depsG_get hd 10 (by kernel_rfl)
        refine gdoes2_value (v := val 10) ?_ h10 hg (fun j hj hr => hr)
        simp [execOp, Act.eval, go_sem]
      intro L val V hL hg hR
      have o11 := hR 11 (by decide)
      have B8 := hid hg.1
      have O8 := hid o11
      clear hR hg o11 hmodU hi2 hnN0
      dsimp only
      generalize val 11 = v11 at *
      go_wp2_with fail
      go_roundg (n - (m + 1))
      case measure => omega
      case rel => exact ⟨m + 1, by omega, by omega, by go_num, B8.out, O8.out⟩
    · have hlti : ¬ (m : Int) < (n : Int) := by omega
      obtain rfl : n = m := by omega
      obtain ⟨va, cap0, hv, hcap, hL⟩ := owns_lw (m := 0) BX.out.2
      obtain ⟨g, cap, hv', hg1, hg2⟩ := BX.out.2.form (by omega)
      rw [hv'] at hv
      injection hv with e1 e2 e3
      subst e1
      subst e3
      subst hv'
      have hcapm : Hid ((cap : Int) ≤ 9223372036854775807) := own_cap BX.out.2
      have B2 : Hid (Below w.heap.size w wr) := B1.out.trans (BX.out.1.mono (by rw [← hB]; exact B1.out.size))
      have L2 := hid hL
      have FI := hid (cfind_is (n : Nat) (some ⟨g, 0, none⟩) cap n (ringF n 1) 8 false wr hL (by omega) (TB.out.later B2.out) (CB.out.later B2.out))
      have hcut' := hid hcut
      clear BX hL B1 hg1 hg2
      go_wp2_with fail
      go_at_call 8
      refine FI.out.mono ?_
      rintro e w5 ⟨⟨v1, k, gk, ok, rfl, ht, ho⟩, b5⟩
      obtain ⟨rfl, hkn, hgg⟩ := ring_find h2n (by omega) RKc.out ht
      have hkn2 := hkn.symm
      subst hkn2
      have L5 := hid (L2.out.later b5)
      have B5 := hid (B2.out.trans (b5.mono B2.out.size))
      have O5 := hid ho
      have GG := hid hgg
      have hc1 := ring_wrap2 (n := n) hcut h31
      have hcc : cut ≤ cap := by omega
      obtain ⟨ad, had, SX0⟩ : ∃ ad : Addr, (cap = cut + 1 ∨ ad = ⟨g, (cut + 1) * 8, none⟩) ∧ (if cap = cut + 1 then some (⟨g, 0, none⟩ : Addr) else some ⟨g, (cut + 1) * 8, none⟩) = some ad := by
        by_cases hq : cap = cut + 1
        · exact ⟨_, .inl hq, if_pos hq⟩
        · exact ⟨_, .inr rfl, if_neg hq⟩
      have hcn : (0 : Int) ≤ (cut : Int) + 1 ∧ (cut : Int) + 1 ≤ (n : Int) := by omega
      have SXR := hid SX0
      have LX : Hid (Lw w5 (some ad) (n - (cut + 1)) (fun j => ringF n 1 (cut + 1 + j))) := by
        show Lw _ _ _ _
        rcases had with h | h
        · rw [show n - (cut + 1) = 0 by omega]; exact Lw.none0
        · rw [h]
          have q := L5.out.shift (cut + 1)
          rw [Nat.zero_add] at q
          exact q.congr (fun j hj => by rw [Nat.add_comm])
      clear b5 L2 FI ht ho hgg B2 SX0 had
      go_wp2_with fail
      simp only [hcm]
      refine wp_region_gen2 Tryz.mixedOrders (by kernel_rfl) (fun val => { tmps := #[_, _, _, _, _, _, _, _, _, _, _, _, _, val 15, val 16, _, _, _, _, _, _, _, _, _, _, _, _, _, _, _, _, _, _, _, _, _, _, _, _, _, _, _, _, _, _, _, _, _, _, _, _, _, _, _, _, _, _, _, _, val 12, val 0, val 1, val 2, val 3, val 4, val 5, val 6, val 7, val 8, val 9, val 10, val 11, val 13, val 14, _, _, _, _, _, _, _, _, _, _, _, _, _, _, _, _, _, _, _, _, _, _, _, _, _, _, _, _, _, _, _], defers := [] }) (fun i => match i with | 0 => undef | 1 => undef | 2 => undef | 3 => undef | 4 => undef | 5 => undef | 6 => undef | 7 => undef | 8 => undef | 9 => undef | 10 => undef | 11 => undef | 12 => undef | 13 => undef | 14 => undef | 15 => undef | 16 => undef | _ => undef) rfl (fun L V => Below w5.heap.size w5 V) (fun L i y V => match i with | 0 => y = .int .i64 (n : Nat) | 1 => y = .slice (some ⟨g, 0, none⟩) n cap | 2 => y = .int .i64 (cut : Nat) | 3 => y = .slice (some ⟨g, 0, none⟩) cut cap | 4 => (L 9 = false → V.ownsRow w5.heap.size 25 8 y cut (rowsW (ringF n 1) cut).flatten) | 5 => y = .slice (some ⟨g, 0, none⟩) n cap | 6 => y = .int .i64 (cut : Nat) | 7 => y = .int .i64 ((cut : Int) + 1) | 8 => y = .slice (some ad) (n - (cut + 1)) (cap - (cut + 1)) | 9 => (L 11 = false → V.ownsRow w5.heap.size 25 8 y (n - 1) (rowsW (cutF n 1 cut) (n - 1)).flatten) | 10 => y = .int .i64 8 | 11 => ∃ v, y = .tuple #[v, .bool false] | 12 => ∃ v, y = .tuple #[v, .bool false] | 13 => True | 14 => y = .bool false | 15 => True | 16 => y = .bool false | _ => True) (Below.refl _ _).drew _ rfl ⟨?_, ?_, ?_, ?_, ?_, ?_, ?_, ?_, ?_, ?_, ?_, ?_, ?_, ?_, ?_, ?_, ?_, trivial⟩ ?_
      · refine gen_plain2 rfl (fun _ _ => rfl) (fun L val V hc hi hu hg hd => ?_)
        refine gdoes2_value (v := .int .i64 (n : Nat)) ?_ rfl hg (fun j hj hr => hr)
        simp [execOp, Act.eval, go_sem]
      · refine gen_plain2 rfl (fun _ _ => rfl) (fun L val V hc hi hu hg hd => ?_)
        refine gdoes2_value (v := .slice (some ⟨g, 0, none⟩) n cap) ?_ rfl hg (fun j hj hr => hr)
        simp [execOp, Act.eval, go_sem]
      · refine gen_plain2 rfl (fun _ _ => rfl) (fun L val V hc hi hu hg hd => ?_)
        refine gdoes2_value (v := .int .i64 (cut : Nat)) ?_ rfl hg (fun j hj hr => hr)
        simp [execOp, Act.eval, go_sem]
      · refine gen_plain2 rfl (fun _ _ => rfl) (fun L val V hc hi hu hg hd => ?_)
        have h1 : val 1 = .slice (some ⟨g, 0, none⟩) n cap := depsG_get hd 1 (by kernel_rfl)
        have h2 : val 2 = .int .i64 (cut : Nat) := depsG_get hd 2 (by kernel_rfl)
        refine gdoes2_value (v := .slice (some ⟨g, 0, none⟩) cut cap) ?_ rfl hg (fun j hj hr => hr)
        simp [execOp, Act.eval, go_sem, h1, h2, slice_to _ _ _ _ _ hcc]
      · refine gen_plain2 rfl (fun _ _ => rfl) (fun L val V hc hi hu hg hd => ?_)
        have h3 : val 3 = .slice (some ⟨g, 0, none⟩) cut cap := depsG_get hd 3 (by kernel_rfl)
        refine gdoes2_call (f := 7) (args := #[.slice (some ⟨g, 0, none⟩) cut cap]) ?_ (clone_some ⟨g, 0, none⟩ cap cut (ringF n 1) V (by omega) ((L5.out.later hg).take (by omega))) ?_
        · simp [execOp, Act.eval, go_sem, resolve, invoke, h3]
        · rintro e w' ⟨v', rfl, ho, hb3⟩
          have hbv : Below V.heap.size V w' := hb3
          refine ⟨_, rfl, fun _ => own_low ho hg.size, hg.trans (hb3.mono hg.size), fun j hj hr => ?_⟩
          match j, hj, hr with
          | 0, hj, hr => exact hr
          | 1, hj, hr => exact hr
          | 2, hj, hr => exact hr
          | 3, hj, hr => exact hr
          | 4, hj, hr => rw [hi] at hj; cases hj
          | 5, hj, hr => exact hr
          | 6, hj, hr => exact hr
          | 7, hj, hr => exact hr
          | 8, hj, hr => exact hr
          | 9, hj, hr => exact (fun c => own_gro (hr c) (Gro.of_below (P := fun _ => False) hbv) (fun _ _ h => h))
          | 10, hj, hr => exact hr
          | 11, hj, hr => exact hr
          | 12, hj, hr => exact hr
          | 13, hj, hr => exact hr
          | 14, hj, hr => exact hr
          | 15, hj, hr => exact hr
          | 16, hj, hr => exact hr
          | _ + 17, hj, hr => trivial
      · refine gen_plain2 rfl (fun _ _ => rfl) (fun L val V hc hi hu hg hd => ?_)
        refine gdoes2_value (v := .slice (some ⟨g, 0, none⟩) n cap) ?_ rfl hg (fun j hj hr => hr)
        simp [execOp, Act.eval, go_sem]
      · refine gen_plain2 rfl (fun _ _ => rfl) (fun L val V hc hi hu hg hd => ?_)
        refine gdoes2_value (v := .int .i64 (cut : Nat)) ?_ rfl hg (fun j hj hr => hr)
        simp [execOp, Act.eval, go_sem]
      · refine gen_plain2 rfl (fun _ _ => rfl) (fun L val V hc hi hu hg hd => ?_)
        have h6 : val 6 = .int .i64 (cut : Nat) := depsG_get hd 6 (by kernel_rfl)
        refine gdoes2_value (v := .int .i64 ((cut : Int) + 1)) ?_ rfl hg (fun j hj hr => hr)
        simp [execOp, Act.eval, go_sem, h6, hc1]
      · refine gen_plain2 rfl (fun _ _ => rfl) (fun L val V hc hi hu hg hd => ?_)
        have h5 : val 5 = .slice (some ⟨g, 0, none⟩) n cap := depsG_get hd 5 (by kernel_rfl)
        have h7 : val 7 = .int .i64 ((cut : Int) + 1) := depsG_get hd 7 (by kernel_rfl)
        refine gdoes2_value (v := .slice (some ad) (n - (cut + 1)) (cap - (cut + 1))) ?_ rfl hg (fun j hj hr => hr)
        simp [execOp, Act.eval, go_sem, h5, h7]
        rw [if_pos hcn, SXR.out]
      · refine gen_plain2 rfl (fun _ _ => rfl) (fun L val V hc hi hu hg hd => ?_)
        have h4 := depsG_get hd 4 (by kernel_rfl) hi
        have h8 : val 8 = .slice (some ad) (n - (cut + 1)) (cap - (cut + 1)) := depsG_get hd 8 (by kernel_rfl)
        intro K hK
        refine wp_append_why V _ _ rfl w5.heap.size (val 4) cut (rowsW (ringF n 1) cut).flatten rfl h4 ad (n - (cut + 1)) (cap - (cut + 1)) (fun j => ringF n 1 (cut + 1 + j)) (show val 8 = _ from h8) (LX.out.later hg) (by omega) hg.size (fun v' w' q1 q2 => ?_)
        have hbv : Below w5.heap.size w5 w' := hg.grown q2 hg.size (fun k hk => (h4.lt k hk).1)
        have q3 : w'.ownsRow w5.heap.size 25 8 v' (n - 1) (rowsW (cutF n 1 cut) (n - 1)).flatten := by
          rw [← rows_cat, show cut + (n - (cut + 1)) = n - 1 by omega] at q1
          have e2 : rowsW (catF cut (ringF n 1) (fun j => ringF n 1 (cut + 1 + j))) (n - 1) = rowsW (cutF n 1 cut) (n - 1) := rowsW_congr (fun j hj => cut_cat j)
          rwa [e2] at q1
        refine hK v' w' (fun _ => q3) hbv (fun j hj hr => ?_)
        match j, hj, hr with
        | 0, hj, hr => exact hr
        | 1, hj, hr => exact hr
        | 2, hj, hr => exact hr
        | 3, hj, hr => exact hr
        | 4, hj, hr => exact (fun c => (by rw [show upB L 9 9 = true from upB_self L 9] at c; cases c))
        | 5, hj, hr => exact hr
        | 6, hj, hr => exact hr
        | 7, hj, hr => exact hr
        | 8, hj, hr => exact hr
        | 9, hj, hr => rw [hi] at hj; cases hj
        | 10, hj, hr => exact hr
        | 11, hj, hr => exact hr
        | 12, hj, hr => exact hr
        | 13, hj, hr => exact hr
        | 14, hj, hr => exact hr
        | 15, hj, hr => exact hr
        | 16, hj, hr => exact hr
        | _ + 17, hj, hr => trivial
      · refine gen_plain2 rfl (fun _ _ => rfl) (fun L val V hc hi hu hg hd => ?_)
        refine gdoes2_value (v := .int .i64 8) ?_ rfl hg (fun j hj hr => hr)
        simp [execOp, Act.eval, go_sem]
      · refine gen_plain2 rfl (fun _ _ => rfl) (fun L val V hc hi hu hg hd => ?_)
        have h0 : val 0 = .int .i64 (n : Nat) := depsG_get hd 0 (by kernel_rfl)
        have h9 := depsG_get hd 9 (by kernel_rfl) hi
        have h10 : val 10 = .int .i64 8 := depsG_get hd 10 (by kernel_rfl)
        obtain ⟨ao, cp, e9, _, l9⟩ := owns_lw (m := 0) h9
        have hbw : Below w.heap.size w V := B5.out.trans (hg.mono B5.out.size)
        refine gdoes2_call (f := 8) (args := #[.int .i64 (n : Nat), .slice ao (n - 1) cp, .int .i64 8, .bool true]) ?_ (cfind_is (n : Nat) ao cp (n - 1) (cutF n 1 cut) 8 true V l9 (by omega) (TB.out.later hbw) (CB.out.later hbw)) ?_
        · simp [execOp, Act.eval, go_sem, resolve, invoke, h0, e9, h10]
        · rintro e w' ⟨⟨v, k, g1, ok, rfl, ht, -⟩, hb3⟩
          obtain rfl := ring_cut hcut RKc.out ht
          have hbv : Below V.heap.size V w' := hb3
          refine ⟨_, rfl, ⟨v, rfl⟩, hg.trans (hb3.mono hg.size), fun j hj hr => ?_⟩
          match j, hj, hr with
          | 0, hj, hr => exact hr
          | 1, hj, hr => exact hr
          | 2, hj, hr => exact hr
          | 3, hj, hr => exact hr
          | 4, hj, hr => exact (fun c => own_gro (hr c) (Gro.of_below (P := fun _ => False) hbv) (fun _ _ h => h))
          | 5, hj, hr => exact hr
          | 6, hj, hr => exact hr
          | 7, hj, hr => exact hr
          | 8, hj, hr => exact hr
          | 9, hj, hr => exact (fun c => (by rw [show upB L 11 11 = true from upB_self L 11] at c; cases c))
          | 10, hj, hr => exact hr
          | 11, hj, hr => exact hr
          | 12, hj, hr => exact hr
          | 13, hj, hr => exact hr
          | 14, hj, hr => exact hr
          | 15, hj, hr => exact hr
          | 16, hj, hr => exact hr
          | _ + 17, hj, hr => trivial
      · refine gen_plain2 rfl (fun _ _ => rfl) (fun L val V hc hi hu hg hd => ?_)
        obtain ⟨v, h11⟩ := depsG_get hd 11 (by kernel_rfl)
        refine gdoes2_value (v := .tuple #[v, .bool false]) ?_ ⟨v, rfl⟩ hg (fun j hj hr => hr)
        simp [execOp, Act.eval, go_sem, h11]
      · refine gen_plain2 rfl (fun _ _ => rfl) (fun L val V hc hi hu hg hd => ?_)
        obtain ⟨v, h11⟩ := depsG_get hd 12 (by kernel_rfl)
        refine gdoes2_value (v := v) ?_ trivial hg (fun j hj hr => hr)
        simp [execOp, Act.eval, go_sem, h11]
      · refine gen_plain2 rfl (fun _ _ => rfl) (fun L val V hc hi hu hg hd => ?_)
        obtain ⟨v, h11⟩ := depsG_get hd 12 (by kernel_rfl)
        refine gdoes2_value (v := .bool false) ?_ rfl hg (fun j hj hr => hr)
        simp [execOp, Act.eval, go_sem, h11]
      · refine gen_plain2 rfl (fun _ _ => rfl) (fun L val V hc hi hu hg hd => ?_)
        refine gdoes2_value (v := val 13) ?_ trivial hg (fun j hj hr => hr)
        simp [execOp, Act.eval, go_sem]
      · refine gen_plain2 rfl (fun _ _ => rfl) (fun L val V hc hi hu hg hd => ?_)
        have h14 : val 14 = .bool false := depsG_get hd 14 (by kernel_rfl)
        refine gdoes2_value (v := .bool false) ?_ rfl hg (fun j hj hr => hr)
        simp [execOp, Act.eval, go_sem, h14]
      intro L val V hL hg hR
      have e16 : val 16 = .bool false := hR 16 (by decide)
      have B12 : Hid (Below w.heap.size w V) := B5.out.trans (hg.mono B5.out.size)
      have L12 := hid (L5.out.later hg)
      have O12 := hid (own_gro O5.out (Gro.of_below (P := fun _ => False) hg) (fun _ _ h => h))
      have FI := hid (cfind_is (n : Nat) (some ⟨g, 0, none⟩) cap n (ringF n 1) 10 false V L12.out (by omega) (TB.out.later B12.out) (CB.out.later B12.out))
      clear hR hg hL L5 B5 O5 LX SXR hc1 hcc
      dsimp only
      rw [e16]
      go_wp2_with fail
      go_at_call 8
      refine FI.out.mono ?_
      rintro e w6 ⟨⟨v3, k3, g3, ok3, rfl, ht, -⟩, b6⟩
      obtain rfl := ring_single RKc.out ht
      have B6 := hid (B12.out.trans (b6.mono B12.out.size))
      have L6 := hid (L12.out.later b6)
      have O6 := hid (own_gro O12.out (Gro.of_below (P := fun _ => False) b6) (fun _ _ h => h))
      obtain ⟨va1, vc1, rfl, hvc1, hL1⟩ := owns_lw (m := 0) O6.out
      have hvcm : (vc1 : Int) ≤ 9223372036854775807 := own_cap O6.out
      have LL := hid (hL1.congr (f' := ringF n 1) (fun j hj => (GG.out j hj).symm))
      have IS := hid (cis_is va1 n vc1 (ringF n 1) 8 false w6 LL.out (by omega) hvc1 hvcm (fun i hi => ⟨i, rfl, by omega⟩) (CB.out.later B6.out))
      have hnn : ((n : Int) == (n : Int)) = true := by simp
      clear ht b6 FI B12 L12 O12 hL1 hvc1 hvcm O6 GG
      go_wp2_with fail
      go_at_call 15
      refine IS.out.mono ?_
      rintro e w7 ⟨⟨t, rfl, ht⟩, b7⟩
      obtain rfl : t = true := ht.2 (ring_is h2n RKc.out)
      have EQ := hid (equal_big va1 (some ⟨g, 0, none⟩) vc1 cap n (ringF n 1) w7 (LL.out.later b7) (L6.out.later b7) (by omega))
      have B7 := hid (B6.out.trans (b7.mono B6.out.size))
      clear ht b7 IS LL L6 B6
      go_wp2_with fail
      go_at_call 10
      refine EQ.out.mono ?_
      rintro e w8 ⟨rfl, q, rfl⟩
      go_wp2_with fail
      go_ret
      exact ⟨rfl, below_drewN B7.out q⟩
end Go.Proofs.YtdihbeffomibeaaGreatDoor
