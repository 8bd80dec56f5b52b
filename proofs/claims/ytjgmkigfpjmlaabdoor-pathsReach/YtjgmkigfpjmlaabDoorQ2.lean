/-
  The document's distances: the walk.
-/
import Derived.Test.YtjgmkigfpjmlaabDoorQ1
namespace Go.Proofs.YtjgmkigfpjmlaabDoor
set_option linter.unusedVariables false
set_option linter.unusedSimpArgs false
open Go.RowKit

set_option maxHeartbeats 8000000 in
set_option maxRecDepth 100000 in
theorem distances_is (b n : Nat) (v : Value) (rw' : Nat → Nat) (L : Nat → Nat → Nat) (labels : Int) (T : Nat) (w : World) (h : RefG w b n v rw' L) (hT : T < n) :
    Calls Tryd.prog 48 #[.pointer (some ⟨b, 0, none⟩), .int .i64 labels, .int .i64 T] w fun e w' => (∃ ob dv, e = .returned (.slice (some ⟨ob, 0, none⟩) n n) ∧ w.heap.size ≤ ob ∧ Lay1 w' ob n n (dI dv) ∧ Dists (edge L labels) n T dv) ∧ Below w.heap.size w w' := by
  have hmk := run_make_row' (P := Tryd.prog) 28 3 (.int .i64 0) 8 Tryd.underlying28 Tryd.info3 rfl .i64 .i64 n (by have := h.bound; omega) (by have := h.bound; omega)
  rw [made_ints] at hmk
  have R := hid h
  have hn3 := h.bound
  have hni : (n : Int) ≤ 300 := by omega
  have hn0 : (0 : Int) ≤ n := by omega
  obtain ⟨ao, cap, hv, -⟩ := h.form
  have c0 := h.c0
  rw [hv] at c0
  have C0 := hid c0
  have CB : Hid (∀ w', Below w.heap.size w w' → w'.cell? ⟨b, 0, none⟩ = some (.slice ao n cap)) := fun w' hb => by
    rw [← hv]
    exact (h.later hb).c0
  clear h hv
  go_enter Tryd.func48, Tryd.ntmps48
  go_wp2_with fail
  clear hmk
  have B0 : Hid (Below w.heap.size w (w.alloc (.cells (Array.replicate n (.int .i64 0)) 3))) := below_box _ _
  have L0 : Hid (Lay1 (w.alloc (.cells (Array.replicate n (.int .i64 0)) 3)) w.heap.size n n (fun j => if j < 0 then -1 else 0)) := ⟨_, heap_alloc_new w _, ⟨by simp, Nat.le_refl _⟩, fun j hj => by simp [hj]⟩
  have SZ0 : Hid (w.heap.size ≤ w.heap.size) := Nat.le_refl w.heap.size
  go_loopg [8, 23] n (fun g _ i wr => ∃ k : Nat, k ≤ n ∧ n - k ≤ g ∧ i = .int .i64 k ∧ Aside (Lay1 wr w.heap.size n n (fun j => if j < k then -1 else 0)) ∧ Aside (Below w.heap.size w wr))
  case atStart => exact ⟨0, Nat.zero_le _, by omega, rfl, L0.out, B0.out⟩
  case round =>
    clear L0 B0 c0
    obtain ⟨k, hk, hg, rfl, LX, BX⟩ := hrel
    by_cases hlt : k < n
    · have hlti : (k : Int) < n := by omega
      obtain ⟨ck, fk⟩ := LX.out.cell k hlt
      have LN : Hid (Lay1 (wr.setCell ⟨w.heap.size, k, none⟩ (.int .i64 (-1))) w.heap.size n n (fun j => if j < k + 1 then -1 else 0)) := (LX.out.put k (-1) hlt).congr (fun j hj => by
        by_cases e : j = k
        · simp [e]
        · by_cases e2 : j < k
          · simp [e, e2, show j < k + 1 by omega]
          · simp [e, e2, show ¬ j < k + 1 by omega])
      have BN : Hid (Below w.heap.size w (wr.setCell ⟨w.heap.size, k, none⟩ (.int .i64 (-1)))) := BX.out.setCell (Nat.le_refl _) _
      clear LX BX
      go_wp2_with fail
      go_roundg (n - (k + 1))
      · exact ⟨k + 1, by omega, by omega, by go_num, LN.out, BN.out⟩
      · omega
    · have hlti : ¬ (k : Int) < n := by omega
      obtain rfl : n = k := by omega
      have L1 : Hid (Lay1 (wr.alloc (.cells #[.int .i64 T] 3)) w.heap.size n n (dI (fun _ => 0))) := (LX.out.congr (fun j hj => by simp [dI, hj])).later (below_box _ _)
      have B1 : Hid (Below w.heap.size w (wr.alloc (.cells #[.int .i64 T] 3))) := BX.out.alloc BX.out.size _
      have OBL : Hid (w.heap.size < wr.heap.size) := by obtain ⟨cur, h1, _⟩ := LX.out; exact blt h1
      have P1 : Hid (Part (fun g => g ≠ w.heap.size) (wr.alloc (.cells #[.int .i64 T] 3)) (.slice (some ⟨wr.heap.size, 0, none⟩) 1 1) [(T : Int)]) := .inr ⟨wr.heap.size, 0, 1, _, rfl, by have := OBL.out; omega, heap_alloc_new wr _, by simp, by simp [maxLen], by simp, fun j hj => by simp at hj; subst hj; simp⟩
      clear LX BX hg hk
      go_wp2_with fail
      go_loopg [9, 10] (n + 2) (fun g lv dval wr => ∃ (d : Nat) (dv : Nat → Nat) (Ly : List Nat), dval = .int .i64 (d : Nat) ∧ left2 n dv Ly ≤ g ∧ d + left2 n dv Ly ≤ n + 2 ∧ Ly.length ≤ n ∧ Aside (Lay (edge L labels) n T d dv Ly) ∧ Aside (Part (fun g => g ≠ w.heap.size) wr lv (Ly.map fun x : Nat => (x : Int))) ∧ Aside (Lay1 wr w.heap.size n n (dI dv)) ∧ Aside (Below w.heap.size w wr))
      case atStart =>
        have hc : Pop.cnt (fun v => decide ((0 : Nat) = 0)) n ≤ n := Pop.cnt_le _ _
        exact ⟨1, fun _ => 0, [T], rfl, by show Pop.cnt (fun v => decide ((0 : Nat) = 0)) n + 1 ≤ n + 2; omega, by show 1 + (Pop.cnt (fun v => decide ((0 : Nat) = 0)) n + 1) ≤ n + 2; omega, by show 1 ≤ n; omega, Lay.first _ n T, P1.out, L1.out, B1.out⟩
      case round =>
        clear P1 L1 B1
        obtain ⟨d, dv, Ly, rfl, hg, hd, hly, LAY, PX, LX, BX⟩ := hrel
        obtain ⟨lao, lcap, hlv⟩ := PX.out.form
        rw [List.length_map] at hlv
        subst hlv
        have hdp := LAY.out.pos
        by_cases hne : Ly = []
        · subst hne
          have DD := hid LAY.out.dists
          have hlen : ¬ ((0 : Nat) : Int) > 0 := by decide
          go_wp2_with fail
          go_ret
          first | exact ⟨⟨_, dv, rfl, Nat.le_refl _, LX.out, DD.out⟩, BX.out⟩ | exact ⟨⟨_, rfl, Nat.le_refl _, dv, LX.out, DD.out⟩, BX.out⟩
        · have hpos : 0 < Ly.length := List.length_pos_iff.2 hne
          have hposi : (0 : Int) < Ly.length := by omega
          have hlyi : (Ly.length : Int) ≤ 300 := by omega
          have hdi : (d : Int) ≤ 302 := by omega
          have HLESS := hid (left_less (edge L labels) n d dv Ly (by omega) hne)
          have cb := CB.out wr BX.out
          have OBL2 : Hid (w.heap.size < wr.heap.size) := by obtain ⟨cur, h1, _⟩ := LX.out; exact blt h1
          obtain ⟨W, hW⟩ : ∃ W, W = wr := ⟨_, rfl⟩
          have PW : Hid (Part (fun g => g ≠ w.heap.size ∧ g < W.heap.size) W (.slice lao Ly.length lcap) (Ly.map fun x : Nat => (x : Int))) := by rw [hW]; exact PX.out.mono (fun k h1 h2 => ⟨h2, h1⟩)
          have LW : Hid (Lay1 W w.heap.size n n (dI (dq (edge L labels) dv Ly d 0 false))) := by rw [hW, dq_zero]; exact LX.out
          have BW : Hid (Below w.heap.size w W) := by rw [hW]; exact BX.out
          have OBW : Hid (w.heap.size < W.heap.size) := by rw [hW]; exact OBL2.out
          clear PX LX BX OBL2
          subst hW
          go_wp2_with fail
          clear cb
          go_loopg [11, 42] n (fun g3 nv i wr => ∃ k : Nat, k ≤ n ∧ n - k ≤ g3 ∧ i = .int .i64 k ∧ Aside (Part (fun g => W.heap.size ≤ g) wr nv ((lst (hitF (edge L labels) dv Ly) k).map fun x : Nat => (x : Int))) ∧ Aside (Lay1 wr w.heap.size n n (dI (dq (edge L labels) dv Ly d k false))) ∧ Aside (Gro (fun x => x = w.heap.size ∨ W.heap.size ≤ x) W wr))
          case atStart => exact ⟨0, Nat.zero_le _, by omega, rfl, .inl ⟨rfl, rfl⟩, LW.out, Gro.refl _ _⟩
          case round =>
            clear LW
            obtain ⟨k, hk', hg3, rfl, NX, LX, GX⟩ := hrel
            obtain ⟨nao, nl, ncap, rfl⟩ : ∃ nao nl ncap, u11 = .slice nao nl ncap := by obtain ⟨x, y, e⟩ := NX.out.form; exact ⟨x, _, y, e⟩
            by_cases hkn : k < n
            · have hkni : (k : Int) < n := by omega
              go_wp2_with fail
              go_loopg [11, 47] Ly.length (fun g4 nv i wr => ∃ j : Nat, j ≤ Ly.length ∧ Ly.length - j ≤ g4 ∧ i = .int .i64 j ∧ Aside (Part (fun g => W.heap.size ≤ g) wr nv ((lst (hitF (edge L labels) dv Ly) k ++ (if hk (edge L labels) dv Ly k j = true then [k] else [])).map fun x : Nat => (x : Int))) ∧ Aside (Lay1 wr w.heap.size n n (dI (dq (edge L labels) dv Ly d k (hk (edge L labels) dv Ly k j)))) ∧ Aside (Gro (fun x => x = w.heap.size ∨ W.heap.size ≤ x) W wr))
              case atStart => exact ⟨0, Nat.zero_le _, by omega, rfl, by show Part _ _ _ _; rw [hk_zero]; simp; exact NX.out, by show Lay1 _ _ _ _ _; rw [hk_zero]; exact LX.out, GX.out⟩
              case round =>
                clear NX LX GX
                obtain ⟨j, hj, hg4, rfl, NX, LX, GX⟩ := hrel
                obtain ⟨nao, nl, ncap, rfl⟩ : ∃ nao nl ncap, u11 = .slice nao nl ncap := by obtain ⟨x, y, e⟩ := NX.out.form; exact ⟨x, _, y, e⟩
                by_cases hjl : j < Ly.length
                · have hjli : (j : Int) < Ly.length := by omega
                  have HS := hid (hk_succ (edge L labels) dv Ly k j hjl)
                  obtain ⟨pg, poff, pcap, pv, pc⟩ := (PW.out.gro GX.out (fun x h1 h2 => by rcases h2 with h2 | h2; exact h1.1 h2; have := h1.2; omega)).cell j (by rw [List.length_map]; exact hjl)
                  rw [List.length_map] at pv
                  injection pv with pv1 pv2 pv3
                  subst pv1
                  clear pv2 pv3
                  have hm := LAY.out.node hT j hjl
                  have pe : (Ly.map fun x : Nat => (x : Int)).getD j 0 = ((Ly.getD j 0 : Nat) : Int) := by simp [List.getD, hjl]
                  rw [pe] at pc
                  generalize Ly.getD j 0 = m at *
                  obtain ⟨ck, fk⟩ := LX.out.cell k hkn
                  have HLE := hid (lst_le (hitF (edge L labels) dv Ly) k)
                  have BQ : Hid (Below w.heap.size w wr) := BW.out.trans (GX.out.below w.heap.size (fun x hx => by have := OBW.out; rcases hx with hx | hx <;> omega) BW.out.size)
                  clear pe
                  cases hkj : hk (edge L labels) dv Ly k j with
                  | true =>
                    have HN : Hid (hk (edge L labels) dv Ly k (j + 1) = true) := by rw [HS.out, hkj]; rfl
                    have ev : dI (dq (edge L labels) dv Ly d k true) k = (d : Int) := by unfold dI; rw [dq_at, if_pos rfl, if_neg (by omega)]
                    rw [hkj] at ck NX LX
                    rw [ev] at ck
                    have hnn : ¬ ((d : Int) < 0) := by omega
                    go_wp2_with fail
                    go_roundg (Ly.length - (j + 1))
                    · exact ⟨j + 1, by omega, by omega, by go_num, by show Part _ _ _ _; rw [HN.out]; exact NX.out, by show Lay1 _ _ _ _ _; rw [HN.out]; exact LX.out, GX.out⟩
                    · omega
                  | false =>
                    rw [hkj] at ck NX LX HS
                    simp only [Bool.false_or] at HS
                    by_cases hdk : dv k = 0
                    · have ev : dI (dq (edge L labels) dv Ly d k false) k = -1 := by unfold dI; rw [dq_at]; simp [hdk]
                      rw [ev] at ck
                      have RL := hid (rlabels_ok b n v rw' L k m wr (R.out.later BQ.out) hkn hm)
                      have hmi : (m : Int) < n := by omega
                      have hen := ends_and L k m labels (R.out.small k m)
                      have HS2 : Hid (hk (edge L labels) dv Ly k (j + 1) = endsF L k labels 4 m) := by rw [HS.out]; simp [hdk]; rfl
                      clear HS ev
                      obtain ⟨y, hy⟩ : ∃ y, L k m = y := ⟨_, rfl⟩
                      rw [hy] at RL hen
                      clear hy
                      cases hE : endsF L k labels 4 m with
                      | false =>
                        rw [hE] at hen HS2
                        simp only [Bool.not_false] at hen
                        clear hE
                        go_wp2_with (go_at_call 25; refine RL.out.mono ?_; rintro e w' ⟨rfl, rfl⟩)
                        go_roundg (Ly.length - (j + 1))
                        · exact ⟨j + 1, by omega, by omega, by go_num, by show Part _ _ _ _; rw [HS2.out]; exact NX.out, by show Lay1 _ _ _ _ _; rw [HS2.out]; exact LX.out, GX.out⟩
                        · omega
                      | true =>
                        rw [hE] at hen HS2
                        simp only [Bool.not_true] at hen
                        clear hE
                        have LN : Hid (Lay1 (wr.setCell ⟨w.heap.size, k, none⟩ (.int .i64 d)) w.heap.size n n (dI (dq (edge L labels) dv Ly d k true))) := (LX.out.put k d hkn).congr (fun x hx => dq_set (edge L labels) dv Ly d k (by omega) x)
                        have LA : Hid (Lay1 ((wr.setCell ⟨w.heap.size, k, none⟩ (.int .i64 d)).alloc (.cells #[.int .i64 k] 3)) w.heap.size n n (dI (dq (edge L labels) dv Ly d k true))) := LN.out.later (below_box _ _)
                        have NA : Hid (Part (fun g => W.heap.size ≤ g) ((wr.setCell ⟨w.heap.size, k, none⟩ (.int .i64 d)).alloc (.cells #[.int .i64 k] 3)) _ _) := (NX.out.gro (gro_set wr ⟨w.heap.size, k, none⟩ (.int .i64 d)) (fun x h1 h2 => by have := OBW.out; have e : x = w.heap.size := h2; omega)).later (below_box _ _)
                        have GA : Hid (Gro (fun x => x = w.heap.size ∨ W.heap.size ≤ x) W ((wr.setCell ⟨w.heap.size, k, none⟩ (.int .i64 d)).alloc (.cells #[.int .i64 k] 3))) := (GX.out.trans (show Gro (fun x => x = w.heap.size ∨ W.heap.size ≤ x) wr (wr.setCell ⟨w.heap.size, k, none⟩ (.int .i64 d)) from ⟨rfl, rfl, rfl, by simp, fun x _ hn => Below.heap_setCell wr ⟨w.heap.size, k, none⟩ (.int .i64 d) x (fun e => hn (.inl e))⟩)).trans (Gro.of_below (below_box _ _))
                        have CA : Hid (((wr.setCell ⟨w.heap.size, k, none⟩ (.int .i64 d)).alloc (.cells #[.int .i64 k] 3)).cell? ⟨wr.heap.size, 0, none⟩ = some (.int .i64 k)) := by
                          have := new_cells (wr.setCell ⟨w.heap.size, k, none⟩ (.int .i64 d)) #[.int .i64 k] 3 0
                          exact hid (by simpa using this)
                        have HP : Hid (∀ g, ((wr.setCell ⟨w.heap.size, k, none⟩ (.int .i64 d)).alloc (.cells #[.int .i64 k] 3)).heap.size ≤ g → W.heap.size ≤ g) := fun g hg => Nat.le_trans GA.out.size hg
                        clear NX LX GX LN
                        go_wp2_with (first | (go_at_call 25; refine RL.out.mono ?_; rintro e w' ⟨rfl, rfl⟩) | (at_builtin; refine wpList_append_part _ rfl _ _ rfl (fun g => W.heap.size ≤ g) HP.out _ _ rfl NA.out wr.heap.size k 1 rfl CA.out (by have := HLE.out; simp; omega) ?_; intro v' w4 q1 q2; obtain ⟨ao', nl', cp', rfl⟩ : ∃ x y z, v' = .slice x y z := (by obtain ⟨x, y, e⟩ := q1.form; exact ⟨x, _, y, e⟩); have Q1 := hid q1; have Q2 := hid (GA.out.trans ⟨q2.os, q2.tape, q2.output, q2.size, fun x hx hn => q2.block x hx (fun h => hn (.inr h))⟩); have Q3 := hid (LA.out.gro q2 (by have := OBW.out; omega)); clear q1 q2))
                        go_roundg (Ly.length - (j + 1))
                        · exact ⟨j + 1, by omega, by omega, by go_num, by show Part _ _ _ _; rw [HS2.out]; have := Q1.out; simpa using this, by show Lay1 _ _ _ _ _; rw [HS2.out]; exact Q3.out, Q2.out⟩
                        · omega
                    · have ev : dI (dq (edge L labels) dv Ly d k false) k = (dv k : Int) := by unfold dI; rw [dq_at]; simp [hdk]
                      rw [ev] at ck
                      have HN : Hid (hk (edge L labels) dv Ly k (j + 1) = false) := hid (by rw [HS.out]; simp [hdk])
                      have hnn : ¬ ((dv k : Int) < 0) := by omega
                      clear HS ev
                      go_wp2_with fail
                      go_roundg (Ly.length - (j + 1))
                      · exact ⟨j + 1, by omega, by omega, by go_num, by show Part _ _ _ _; rw [HN.out]; exact NX.out, by show Lay1 _ _ _ _ _; rw [HN.out]; exact LX.out, GX.out⟩
                      · omega
                · have hjli : ¬ (j : Int) < Ly.length := by omega
                  have ha := hk_all (edge L labels) dv Ly k j hjl
                  rw [ha] at NX LX
                  rw [dq_next] at LX
                  have ho := lst_one (hitF (edge L labels) dv Ly) k
                  have N2 : Hid (Part (fun g => W.heap.size ≤ g) wr (.slice nao nl ncap) ((lst (hitF (edge L labels) dv Ly) (k + 1)).map fun x : Nat => (x : Int))) := by
                    have h2 : lst (hitF (edge L labels) dv Ly) (k + 1) = lst (hitF (edge L labels) dv Ly) k ++ (if hitF (edge L labels) dv Ly k = true then [k] else []) := by
                      rw [ho]
                      cases hitF (edge L labels) dv Ly k <;> simp
                    rw [h2]
                    exact NX.out
                  clear NX ho
                  go_wp2_with fail
                  go_roundg (n - (k + 1))
                  · exact ⟨k + 1, by omega, by omega, by go_num, N2.out, LX.out, GX.out⟩
                  · omega
            · have hkni : ¬ (k : Int) < n := by omega
              obtain rfl : n = k := by omega
              have BQ : Hid (Below w.heap.size w wr) := BW.out.trans (GX.out.below w.heap.size (fun x hx => by have := OBW.out; rcases hx with hx | hx <;> omega) BW.out.size)
              have LR := hid (lay_round LAY.out hT)
              have N2 : Hid (Part (fun g => g ≠ w.heap.size) wr (.slice nao nl ncap) ((lst (hitF (edge L labels) dv Ly) n).map fun x : Nat => (x : Int))) := NX.out.mono (fun x h1 h2 => by have := OBW.out; omega)
              have hless := HLESS.out
              clear NX
              go_wp2_with fail
              go_roundg (left2 n (dq (edge L labels) dv Ly d n false) (lst (hitF (edge L labels) dv Ly) n))
              · exact ⟨d + 1, _, _, by go_num, Nat.le_refl _, by omega, lst_le _ _, LR.out, N2.out, LX.out, BQ.out⟩
              · omega
end Go.Proofs.YtjgmkigfpjmlaabDoor
