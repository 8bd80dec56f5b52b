/-
  The law InnerServed.
-/
import Derived.Test.YtadlnkaphkbfdaaIn12
namespace Go.Proofs.Ytadlnkaphkbfdaa
set_option linter.unusedVariables false
set_option linter.unusedSimpArgs false
open Go.RowKit Go.Lib

set_option maxHeartbeats 8000000 in
set_option maxRecDepth 100000 in
theorem served_walk (v v2 : Value) (bf l : List MOp) (w : World) (h : OpsIn Any w v bf) (h2 : OpsIn Any w v2 l) (hk : ∀ o ∈ l, OpKey o) (hln : bf.length + l.length ≤ 1073741824) :
    Calls Try.prog 5 #[v, v2] w fun e w' => e = .returned (.bool true) ∧ Below w.heap.size w w' := by
  obtain ⟨ao, c, rfl, ⟨hby, hcap⟩, hc⟩ := ops_at h
  obtain ⟨ao2, c2, rfl, ⟨hby2, hcap2⟩, hc2⟩ := ops_at h2
  have HC := hid hc
  have HC2 := hid hc2
  have HK := hid hk
  have hlen1 : (bf.length : Int) ≤ 1073741824 := by omega
  have hlen2 : (l.length : Int) ≤ 1073741824 := by omega
  clear hc hc2 hk h h2
  go_enter Try.func5, Try.ntmps5
  go_wp2_with fail
  go_loopg [5, 17] bf.length (fun g dv i wr => ∃ k : Nat, k ≤ bf.length ∧ bf.length - k ≤ g ∧ i = .int .i64 k ∧ Aside (Sv w wr dv (.slice none 0 0) ((bf.take k).filter wrt) []))
  case atStart => exact ⟨0, Nat.zero_le _, by omega, rfl, Sv.begin w⟩
  case round =>
    obtain ⟨k, hk, hg, rfl, SX⟩ := hrel
    by_cases kl : k < bf.length
    · have hkli : (k : Int) < bf.length := by omega
      obtain ⟨bz, oz, lv, rfl, hi, k0, k1, k2, k3, k4, k5⟩ := HC.out k kl
      have LI := hid hi
      have d0 := (SX.out.below.cell (p := ⟨bz, oz + k * 6, none⟩) (World.block_lt_of_cell? _ _ k0)).trans k0
      have d1 := (SX.out.below.cell (p := ⟨bz, oz + k * 6 + 1, none⟩) (World.block_lt_of_cell? _ _ k1)).trans k1
      have d2 := (SX.out.below.cell (p := ⟨bz, oz + k * 6 + 2, none⟩) (World.block_lt_of_cell? _ _ k2)).trans k2
      have d3 := (SX.out.below.cell (p := ⟨bz, oz + k * 6 + 3, none⟩) (World.block_lt_of_cell? _ _ k3)).trans k3
      have d4 := (SX.out.below.cell (p := ⟨bz, oz + k * 6 + 4, none⟩) (World.block_lt_of_cell? _ _ k4)).trans k4
      have d5 := (SX.out.below.cell (p := ⟨bz, oz + k * 6 + 5, none⟩) (World.block_lt_of_cell? _ _ k5)).trans k5
      clear k0 k1 k2 k3 k4 k5 hi
      have HG : Hid (bf.getD k default = bf.getD k default) := rfl

      have HT : Hid (bf.take (k + 1) = bf.take k ++ [bf.getD k default]) := by
        show bf.take (k + 1) = _
        rw [List.take_succ_eq_append_getElem kl]
        simp [List.getD, kl]
      obtain ⟨O, hO⟩ : ∃ O, bf.getD k default = O := ⟨_, rfl⟩
      clear HG
      rw [hO] at LI d0 d1 d2 d4 d5 HT
      clear hO
      obtain ⟨la, ln, lc, hlv⟩ : ∃ a n c, lv = .slice a n c := by obtain ⟨a, c, h, _⟩ := LI.out; exact ⟨a, _, c, h⟩
      subst hlv
      have HD : Hid (((bf.take k).filter wrt).length + 1 ≤ 2199023255552) := by
        have h1 := List.length_filter_le wrt (bf.take k)
        have h2 := List.length_take_le k bf
        show _ ≤ _
        omega
      have HF : Hid ((bf.take (k + 1)).filter wrt = if wrt O then (bf.take k).filter wrt ++ [O] else (bf.take k).filter wrt) := by
        show _ = _
        rw [HT.out, List.filter_append]
        cases hw : wrt O with
        | true => simp [hw]
        | false => simp [hw]
      clear HT
      generalize (bf.take k).filter wrt = D at *
      cases hw : wrt O with
      | false =>
        have e1 : (O.kind == 1) = false := by unfold wrt at hw; simp at hw; simp [hw]
        have e3 : (O.kind == 3) = false := by unfold wrt at hw; simp at hw; simp [hw]
        have HE : Hid ((bf.take (k + 1)).filter wrt = D) := by show _ = _; rw [HF.out, hw]; rfl
        clear HF hw
        go_wp2_with fail
        go_roundg (bf.length - (k + 1))
        · exact ⟨k + 1, by omega, by omega, by go_num, (by show Sv _ _ _ _ _ _; rw [HE.out]; exact SX.out.later (below_box wr _))⟩
        · omega
      | true =>
        have HE : Hid ((bf.take (k + 1)).filter wrt = D ++ [O]) := by show _ = _; rw [HF.out, hw]; rfl
        by_cases h1 : O.kind = 1
        · have e1 : (O.kind == 1) = true := by simp [h1]
          clear HF hw h1
          go_wp2_with (at_builtin; refine wpList_done w _ rfl _ _ rfl u5 _ D [] (SX.out.later (two_box wr _ _)) rfl (wr.heap.size + 1) 1 rfl O la ln lc (by have h := heap_alloc_new (wr.alloc (.cells #[.int .i64 O.kind, .string O.key, .int .i64 O.value, .slice la ln lc, .bool O.has, .bool O.nl] 31)) (.cells #[.int .i64 O.kind, .string O.key, .int .i64 O.value, .slice la ln lc, .bool O.has, .bool O.nl] 31); rw [alloc_size] at h; exact h) LI.out HD.out ?_; intro ud' w4 q1 q2 q3; have Q1 := hid q1; clear q1 q2 q3)
          go_roundg (bf.length - (k + 1))
          · exact ⟨k + 1, by omega, by omega, by go_num, (by show Sv _ _ _ _ _ _; rw [HE.out]; exact Q1.out)⟩
          · omega
        · have e1 : (O.kind == 1) = false := by simp [h1]
          have e3 : (O.kind == 3) = true := by unfold wrt at hw; simp [h1] at hw; simp [hw]
          clear HF hw h1
          go_wp2_with (at_builtin; refine wpList_done w _ rfl _ _ rfl u5 _ D [] (SX.out.later (two_box wr _ _)) rfl (wr.heap.size + 1) 1 rfl O la ln lc (by have h := heap_alloc_new (wr.alloc (.cells #[.int .i64 O.kind, .string O.key, .int .i64 O.value, .slice la ln lc, .bool O.has, .bool O.nl] 31)) (.cells #[.int .i64 O.kind, .string O.key, .int .i64 O.value, .slice la ln lc, .bool O.has, .bool O.nl] 31); rw [alloc_size] at h; exact h) LI.out HD.out ?_; intro ud' w4 q1 q2 q3; have Q1 := hid q1; clear q1 q2 q3)
          go_roundg (bf.length - (k + 1))
          · exact ⟨k + 1, by omega, by omega, by go_num, (by show Sv _ _ _ _ _ _; rw [HE.out]; exact Q1.out)⟩
          · omega
    · have hkli : ¬ (k : Int) < bf.length := by omega
      have S0 : Hid (Sv w wr u5 (.slice none 0 0) (bf.filter wrt) []) := by
        have h := SX.out
        rw [List.take_of_length_le (by omega)] at h
        exact h
      have HD0 : (bf.filter wrt).length ≤ bf.length := List.length_filter_le _ _
      clear SX HC
      generalize bf.filter wrt = D0 at *
      go_wp2_with fail
      have hD0i : (D0.length : Int) ≤ 1073741824 := by omega
      generalize wr = wa at *
      go_loopg [5, 6, 36] l.length (fun g dv tv i wr => ∃ k : Nat, k ≤ l.length ∧ l.length - k ≤ g ∧ i = .int .i64 k ∧ Aside (Sv w wr dv tv (dn D0 l k) (tl D0 l k)))
      case atStart => exact ⟨0, Nat.zero_le _, by omega, rfl, (by show Sv _ _ _ _ _ _; have e : dn D0 l 0 = D0 := (by unfold dn; simp); rw [e]; exact S0.out)⟩
      case round =>
        clear S0
        obtain ⟨k, hk, hg, rfl, SX⟩ := hrel
        by_cases kl : k < l.length
        · have hkli : (k : Int) < l.length := by omega
          obtain ⟨bz, oz, lv, rfl, hi, k0, k1, k2, k3, k4, k5⟩ := HC2.out k kl
          have LI := hid hi
          have d0 := (SX.out.below.cell (p := ⟨bz, oz + k * 6, none⟩) (World.block_lt_of_cell? _ _ k0)).trans k0
          have d1 := (SX.out.below.cell (p := ⟨bz, oz + k * 6 + 1, none⟩) (World.block_lt_of_cell? _ _ k1)).trans k1
          have d2 := (SX.out.below.cell (p := ⟨bz, oz + k * 6 + 2, none⟩) (World.block_lt_of_cell? _ _ k2)).trans k2
          have d3 := (SX.out.below.cell (p := ⟨bz, oz + k * 6 + 3, none⟩) (World.block_lt_of_cell? _ _ k3)).trans k3
          have d4 := (SX.out.below.cell (p := ⟨bz, oz + k * 6 + 4, none⟩) (World.block_lt_of_cell? _ _ k4)).trans k4
          have d5 := (SX.out.below.cell (p := ⟨bz, oz + k * 6 + 5, none⟩) (World.block_lt_of_cell? _ _ k5)).trans k5
          clear k0 k1 k2 k3 k4 k5 hi
          have HG : Hid (l.getD k default = l.getD k default) := rfl
          clear HG
          have DS := hid (dn_succ D0 l k kl)
          have TS := hid (tl_succ D0 l k)
          have DL := hid (dn_len D0 l k)
          have TL := hid (tl_len D0 l k)
          obtain ⟨O, hO⟩ : ∃ O, l.getD k default = O := ⟨_, rfl⟩
          rw [hO] at LI d0 d1 d2 d4 d5 DS TS
          clear hO
          obtain ⟨la, ln, lc, hlv⟩ : ∃ a n c, lv = .slice a n c := by obtain ⟨a, c, h, _⟩ := LI.out; exact ⟨a, _, c, h⟩
          subst hlv
          generalize dn D0 l k = D at *
          generalize tl D0 l k = T at *
          have DL1 : Hid (D.length + 1 ≤ 2199023255552) := by have := DL.out; show _ ≤ _; omega
          have TL1 : Hid (T.length + 1 ≤ 2199023255552) := by have := TL.out; show _ ≤ _; omega
          by_cases h1 : O.kind = 1
          · have e1 : (O.kind == 1) = true := by simp [h1]
            have DE : Hid (dn D0 l (k + 1) = D ++ [O]) := by show _ = _; rw [DS.out]; simp [wrt, h1]
            have TE : Hid (tl D0 l (k + 1) = T ++ [O]) := by show _ = _; rw [TS.out, tell_write D O (by omega) (by omega)]
            clear h1 DS TS
            go_wp2_with (at_builtin; first
              | (refine wpList_told w _ rfl _ _ rfl ud' u6 (D ++ [O]) T (Q1.out.later (below_box w4 _)) rfl w4.heap.size 1 rfl O la ln lc (heap_alloc_new w4 _) ((Q1.out.later (below_box w4 _)).old LI.out) TL1.out ?_; intro ut' w6 q1 q2 q3; have P1 := hid q1; clear q1 q2 q3 f0 f1 f2 f3 f4 f5)
              | (refine wpList_done w _ rfl _ _ rfl u5 u6 D T (SX.out.later (two_box wr _ _)) rfl (wr.heap.size + 1) 1 rfl O la ln lc (by have h := heap_alloc_new (wr.alloc (.cells #[.int .i64 O.kind, .string O.key, .int .i64 O.value, .slice la ln lc, .bool O.has, .bool O.nl] 31)) (.cells #[.int .i64 O.kind, .string O.key, .int .i64 O.value, .slice la ln lc, .bool O.has, .bool O.nl] 31); rw [alloc_size] at h; exact h) LI.out DL1.out ?_; intro ud' w4 q1 q2 q3; have Q1 := hid q1; have Q3 : Hid (w4.heap[wr.heap.size]? = some (.cells #[.int .i64 O.kind, .string O.key, .int .i64 O.value, .slice la ln lc, .bool O.has, .bool O.nl] 31 (0, 0))) := (by refine (q3 wr.heap.size (by rw [alloc_size, alloc_size]; omega) (fun e => by have := (SX.out.lt1 _ e).2; omega)).trans ?_; exact heap_old (heap_alloc_new wr _)); clear q1 q2 q3; obtain ⟨f0, f1, f2, f3, f4, f5⟩ := box6 Q3.out))
            go_roundg (l.length - (k + 1))
            · exact ⟨k + 1, by omega, by omega, by go_num, (by show Sv _ _ _ _ _ _; rw [DE.out, TE.out]; exact P1.out)⟩
            · omega
          · by_cases h3 : O.kind = 3
            · have e1 : (O.kind == 1) = false := by simp [h1]
              have e3 : (O.kind == 3) = true := by simp [h3]
              have DE : Hid (dn D0 l (k + 1) = D ++ [O]) := by show _ = _; rw [DS.out]; simp [wrt, h3]
              have TE : Hid (tl D0 l (k + 1) = T ++ [O]) := by show _ = _; rw [TS.out, tell_write D O (by omega) (by omega)]
              clear h1 h3 DS TS
              go_wp2_with (at_builtin; first
                | (refine wpList_told w _ rfl _ _ rfl ud' u6 (D ++ [O]) T (Q1.out.later (below_box w4 _)) rfl w4.heap.size 1 rfl O la ln lc (heap_alloc_new w4 _) ((Q1.out.later (below_box w4 _)).old LI.out) TL1.out ?_; intro ut' w6 q1 q2 q3; have P1 := hid q1; clear q1 q2 q3 f0 f1 f2 f3 f4 f5)
                | (refine wpList_done w _ rfl _ _ rfl u5 u6 D T (SX.out.later (two_box wr _ _)) rfl (wr.heap.size + 1) 1 rfl O la ln lc (by have h := heap_alloc_new (wr.alloc (.cells #[.int .i64 O.kind, .string O.key, .int .i64 O.value, .slice la ln lc, .bool O.has, .bool O.nl] 31)) (.cells #[.int .i64 O.kind, .string O.key, .int .i64 O.value, .slice la ln lc, .bool O.has, .bool O.nl] 31); rw [alloc_size] at h; exact h) LI.out DL1.out ?_; intro ud' w4 q1 q2 q3; have Q1 := hid q1; have Q3 : Hid (w4.heap[wr.heap.size]? = some (.cells #[.int .i64 O.kind, .string O.key, .int .i64 O.value, .slice la ln lc, .bool O.has, .bool O.nl] 31 (0, 0))) := (by refine (q3 wr.heap.size (by rw [alloc_size, alloc_size]; omega) (fun e => by have := (SX.out.lt1 _ e).2; omega)).trans ?_; exact heap_old (heap_alloc_new wr _)); clear q1 q2 q3; obtain ⟨f0, f1, f2, f3, f4, f5⟩ := box6 Q3.out))
              go_roundg (l.length - (k + 1))
              · exact ⟨k + 1, by omega, by omega, by go_num, (by show Sv _ _ _ _ _ _; rw [DE.out, TE.out]; exact P1.out)⟩
              · omega
            · have DE : Hid (dn D0 l (k + 1) = D) := by show _ = _; rw [DS.out]; simp [wrt, h1, h3]
              by_cases h2 : O.kind = 2
              · have e1 : (O.kind == 1) = false := by simp [h1]
                have e3 : (O.kind == 3) = false := by simp [h3]
                have e2 : (O.kind == 2) = true := by simp [h2]
                have TE : Hid (tl D0 l (k + 1) = T ++ [(O.kind, O.key, O.value, lstv D O.key, true, O.nl)]) := by show _ = _; rw [TS.out]; unfold tell; rw [if_pos h2, h2]
                have ODN : Hid (OpsIn Any wr u5 D) := by
                  obtain ⟨rd, t1, t2, t3⟩ := SX.out.done
                  have ht : rd.length = D.length := by rw [← t2, List.length_map]
                  show OpsIn _ _ _ _
                  rw [← t2]
                  exact own_ops t1 (fun r hr => (t3 r hr).below SX.out.below) (by have := DL.out; omega)
                obtain ⟨da, dc, hdu, ⟨dby, dcap⟩, dcells⟩ := ops_at ODN.out
                have DC := hid dcells
                subst hdu
                clear dcells ODN
                have hDl : (D.length : Int) ≤ 2147483648 := by have := DL.out; omega
                have hDn : D.length ≤ 2147483648 := by omega

                clear h1 h2 h3 DS TS
                have X0 := hid (Bx.begin wr O.kind O.key O.value true O.nl)
                go_wp2_with fail
                clear d0 d1 d2 d3 d4 d5
                generalize hW : wr.alloc (.cells #[.int .i64 O.kind, .string O.key, .int .i64 O.value, .slice none 0 0, .bool true, .bool O.nl] 31) = W1 at *
                clear hW
                generalize wr = wq at *
                go_loopg [55] D.length (fun g i wr => ∃ (q : Nat) (lv : Value), q ≤ D.length ∧ D.length - q ≤ g ∧ i = .int .i64 q ∧ Aside (Bx wq wr O.kind O.key O.value lv true O.nl (lstv (D.take q) O.key)))
                case atStart => exact ⟨0, .slice none 0 0, Nat.zero_le _, by omega, rfl, X0.out⟩
                case round =>
                  clear X0
                  obtain ⟨q, lv, hq, hgq, rfl, XX⟩ := hrel
                  have BB := hid XX.out.below
                  obtain ⟨f0, f1, f2, f3, f4, f5⟩ := box6 XX.out.box
                  have FA1 : ∀ B, (wr.alloc B).cell? ⟨wq.heap.size, 1, none⟩ = some (.string O.key) := fun B => (box6 (heap_old (o := B) XX.out.box)).2.1
                  have FA3 : ∀ B, (wr.alloc B).cell? ⟨wq.heap.size, 3, none⟩ = some lv := fun B => (box6 (heap_old (o := B) XX.out.box)).2.2.2.1
                  have FLT : wq.heap.size < wr.heap.size := (Array.getElem?_eq_some_iff.1 XX.out.box).1
                  by_cases hql : q < D.length
                  · have hqli : (q : Int) < D.length := by omega
                    obtain ⟨b1, o1, lv1, hda, hI, m0, m1, m2, m3, m4, m5⟩ := DC.out q hql
                    subst hda
                    have p0 := (BB.out.cell (p := ⟨b1, o1 + q * 6, none⟩) (World.block_lt_of_cell? _ _ m0)).trans m0
                    have p1 := (BB.out.cell (p := ⟨b1, o1 + q * 6 + 1, none⟩) (World.block_lt_of_cell? _ _ m1)).trans m1
                    have p2 := (BB.out.cell (p := ⟨b1, o1 + q * 6 + 2, none⟩) (World.block_lt_of_cell? _ _ m2)).trans m2
                    have p3 := (BB.out.cell (p := ⟨b1, o1 + q * 6 + 3, none⟩) (World.block_lt_of_cell? _ _ m3)).trans m3
                    have p4 := (BB.out.cell (p := ⟨b1, o1 + q * 6 + 4, none⟩) (World.block_lt_of_cell? _ _ m4)).trans m4
                    have p5 := (BB.out.cell (p := ⟨b1, o1 + q * 6 + 5, none⟩) (World.block_lt_of_cell? _ _ m5)).trans m5
                    clear m0 m1 m2 m3 m4 m5
                    obtain ⟨la1, ln1, lc1, hl1⟩ : ∃ a n c, lv1 = .slice a n c := by obtain ⟨a, c, h, _⟩ := hI; exact ⟨a, _, c, h⟩
                    subst hl1
                    have TK := hid (take_snoc D q hql)
                    obtain ⟨P, hP⟩ : ∃ P, D.getD q default = P := ⟨_, rfl⟩
                    rw [hP] at p0 p1 p2 p4 p5 TK
                    clear hP hI
                    have LS := hid (lstv_snoc (D.take q) P O.key)
                    rw [← TK.out] at LS
                    have LL := hid (lstv_len (D.take q) O.key)
                    have LT : Hid ((D.take q).length = q) := by show _ = _; rw [List.length_take]; omega
                    clear TK
                    by_cases hp1 : P.kind = 1
                    · have g1 : (P.kind == 1) = true := by simp [hp1]
                      by_cases hpk : P.key = O.key
                      · have g2 : (P.key.toList == O.key.toList) = true := by rw [key_beq]; exact decide_eq_true hpk
                        have LE : Hid (lstv (D.take (q + 1)) O.key = lstv (D.take q) O.key ++ [P.value]) := by show _ = _; rw [LS.out, if_pos ⟨hp1, hpk⟩]
                        clear LS hp1 hpk
                        have XL : Hid ((lstv (D.take q) O.key).length ≤ 2147483648) := by have := LL.out; have := LT.out; show _ ≤ _; omega
                        generalize lstv (D.take q) O.key = xs at *
                        obtain ⟨xa, xc, hx⟩ := own_slice XX.out.row
                        subst hx
                        go_wp2_with (at_builtin; refine wpList_bx wq _ rfl _ _ rfl O.kind O.key O.value _ true O.nl xs (XX.out.later (two_box wr _ _)) rfl (wr.heap.size + 1) 1 rfl P.value (by have h := heap_alloc_new (wr.alloc (.cells #[.int .i64 P.kind, .string P.key, .int .i64 P.value, .slice la1 ln1 lc1, .bool P.has, .bool P.nl] 31)) (.cells #[.int .i64 P.value] 3); rw [alloc_size] at h; exact h) XL.out ?_; intro g cap w4 q0 q1 q2 q3; have Z0 := hid q1; have Z1 := hid q2; have Z2 := hid q3; have z3 := (box6 q2).2.2.2.1; have z4 := frozen_of_row _ _ 3 _ _ q2; clear q0 q1 q2 q3)
                        go_roundg (D.length - (q + 1))
                        · exact ⟨q + 1, .slice (some ⟨g, 0, none⟩) (xs.length + 1) cap, by omega, by omega, by go_num, (by show Bx _ _ _ _ _ _ _ _ _; rw [LE.out]; exact Bx.set Z0.out Z1.out Z2.out)⟩
                        · omega
                      · have g2 : (P.key.toList == O.key.toList) = false := by rw [key_beq]; exact decide_eq_false hpk
                        have LE : Hid (lstv (D.take (q + 1)) O.key = lstv (D.take q) O.key) := by show _ = _; rw [LS.out, if_neg (fun c => hpk c.2)]
                        clear LS hp1 hpk
                        go_wp2_with fail
                        go_roundg (D.length - (q + 1))
                        · exact ⟨q + 1, lv, by omega, by omega, by go_num, (by show Bx _ _ _ _ _ _ _ _ _; rw [LE.out]; exact XX.out.later (below_box wr _))⟩
                        · omega
                    · have g1 : (P.kind == 1) = false := by simp [hp1]
                      have LE : Hid (lstv (D.take (q + 1)) O.key = lstv (D.take q) O.key) := by show _ = _; rw [LS.out, if_neg (fun c => hp1 c.1)]
                      clear LS hp1
                      go_wp2_with fail
                      go_roundg (D.length - (q + 1))
                      · exact ⟨q + 1, lv, by omega, by omega, by go_num, (by show Bx _ _ _ _ _ _ _ _ _; rw [LE.out]; exact XX.out.later (below_box wr _))⟩
                      · omega
                  · have hqli : ¬ (q : Int) < D.length := by omega
                    have XE : Hid (Bx wq wr O.kind O.key O.value lv true O.nl (lstv D O.key)) := by
                      have h := XX.out
                      rw [List.take_of_length_le (by omega)] at h
                      exact h
                    have XL : Hid ((lstv D O.key).length ≤ 2147483648) := by have := lstv_len D O.key; show _ ≤ _; omega
                    clear XX
                    have SY := hid (SX.out.later XE.out.below)
                    have YI := hid (SX.out.new (XE.out.ints XL.out))
                    obtain ⟨xa, xc, hx⟩ := own_slice XE.out.row
                    have XN := hid hx
                    clear hx
                    generalize lstv D O.key = xs at *
                    subst XN
                    go_wp2_with (at_builtin; refine wpList_told w _ rfl _ _ rfl _ u6 D T (SY.out.later (below_box wr _)) rfl wr.heap.size 1 rfl (O.kind, O.key, O.value, xs, true, O.nl) xa xs.length xc (heap_alloc_new wr _) (YI.out.keep (keeps_below (below_box wr _)) (fun _ _ h => h)) TL1.out ?_; intro ut' w6 q1 q2 q3; have P1 := hid q1; clear q1 q2 q3)
                    go_roundg (l.length - (k + 1))
                    · exact ⟨k + 1, by omega, by omega, by go_num, (by show Sv _ _ _ _ _ _; rw [DE.out, TE.out]; exact P1.out)⟩
                    · omega
              · by_cases h4 : O.kind = 4
                · have e1 : (O.kind == 1) = false := by simp [h1]
                  have e3 : (O.kind == 3) = false := by simp [h3]
                  have e2 : (O.kind == 2) = false := by simp [h2]
                  have e4 : (O.kind == 4) = true := by simp [h4]
                  have TE : Hid (tl D0 l (k + 1) = T ++ [(O.kind, O.key, (regv D O.key).getD O.value, O.list, true, (regv D O.key).isNone)]) := by show _ = _; rw [TS.out]; unfold tell; rw [if_neg h2, if_pos h4, h4]
                  have ODN : Hid (OpsIn Any wr u5 D) := by
                    obtain ⟨rd, t1, t2, t3⟩ := SX.out.done
                    have ht : rd.length = D.length := by rw [← t2, List.length_map]
                    show OpsIn _ _ _ _
                    rw [← t2]
                    exact own_ops t1 (fun r hr => (t3 r hr).below SX.out.below) (by have := DL.out; omega)
                  obtain ⟨da, dc, hdu, ⟨dby, dcap⟩, dcells⟩ := ops_at ODN.out
                  have DC := hid dcells
                  subst hdu
                  clear dcells ODN
                  have hDl : (D.length : Int) ≤ 2147483648 := by have := DL.out; omega
                  have hDn : D.length ≤ 2147483648 := by omega

                  clear h1 h2 h3 h4 DS TS
                  have X0 : Hid (Bg wr (wr.alloc (.cells #[.int .i64 O.kind, .string O.key, .int .i64 O.value, .slice la ln lc, .bool true, .bool true] 31)) O.kind O.key O.value (.slice la ln lc) true true) := ⟨below_box wr _, heap_alloc_new wr _⟩
                  go_wp2_with fail
                  clear d0 d1 d2 d3 d4 d5
                  generalize hW : wr.alloc (.cells #[.int .i64 O.kind, .string O.key, .int .i64 O.value, .slice la ln lc, .bool true, .bool true] 31) = W1 at *
                  clear hW
                  generalize wr = wq at *
                  go_loopg [83] D.length (fun g i wr => ∃ q : Nat, q ≤ D.length ∧ D.length - q ≤ g ∧ i = .int .i64 q ∧ Aside (Bg wq wr O.kind O.key ((regv (D.take q) O.key).getD O.value) (.slice la ln lc) true (regv (D.take q) O.key).isNone))
                  case atStart => exact ⟨0, Nat.zero_le _, by omega, rfl, X0.out⟩
                  case round =>
                    clear X0
                    obtain ⟨q, hq, hgq, rfl, XX⟩ := hrel
                    have BB := hid XX.out.below
                    obtain ⟨f0, f1, f2, f3, f4, f5⟩ := box6 XX.out.box
                    by_cases hql : q < D.length
                    · have hqli : (q : Int) < D.length := by omega
                      have FA1 : ∀ B, (wr.alloc B).cell? ⟨wq.heap.size, 1, none⟩ = some (.string O.key) := fun B => (box6 (heap_old (o := B) XX.out.box)).2.1
                      have FLT : wq.heap.size < wr.heap.size := (Array.getElem?_eq_some_iff.1 XX.out.box).1
                      obtain ⟨b1, o1, lv1, hda, hI, m0, m1, m2, m3, m4, m5⟩ := DC.out q hql
                      subst hda
                      have p0 := (BB.out.cell (p := ⟨b1, o1 + q * 6, none⟩) (World.block_lt_of_cell? _ _ m0)).trans m0
                      have p1 := (BB.out.cell (p := ⟨b1, o1 + q * 6 + 1, none⟩) (World.block_lt_of_cell? _ _ m1)).trans m1
                      have p2 := (BB.out.cell (p := ⟨b1, o1 + q * 6 + 2, none⟩) (World.block_lt_of_cell? _ _ m2)).trans m2
                      have p3 := (BB.out.cell (p := ⟨b1, o1 + q * 6 + 3, none⟩) (World.block_lt_of_cell? _ _ m3)).trans m3
                      have p4 := (BB.out.cell (p := ⟨b1, o1 + q * 6 + 4, none⟩) (World.block_lt_of_cell? _ _ m4)).trans m4
                      have p5 := (BB.out.cell (p := ⟨b1, o1 + q * 6 + 5, none⟩) (World.block_lt_of_cell? _ _ m5)).trans m5
                      clear m0 m1 m2 m3 m4 m5
                      obtain ⟨la1, ln1, lc1, hl1⟩ : ∃ a n c, lv1 = .slice a n c := by obtain ⟨a, c, h, _⟩ := hI; exact ⟨a, _, c, h⟩
                      subst hl1
                      have TK := hid (take_snoc D q hql)
                      obtain ⟨P, hP⟩ : ∃ P, D.getD q default = P := ⟨_, rfl⟩
                      rw [hP] at p0 p1 p2 p4 p5 TK
                      clear hP hI
                      have LS := hid (regv_snoc (D.take q) P O.key)
                      rw [← TK.out] at LS
                      clear TK
                      by_cases hp1 : P.kind = 3
                      · have g1 : (P.kind == 3) = true := by simp [hp1]
                        by_cases hpk : P.key = O.key
                        · have g2 : (P.key.toList == O.key.toList) = true := by rw [key_beq]; exact decide_eq_true hpk
                          have LE : Hid (regv (D.take (q + 1)) O.key = some P.value) := by show _ = _; rw [LS.out, if_pos ⟨hp1, hpk⟩]
                          clear LS hp1 hpk
                          generalize (regv (D.take q) O.key).getD O.value = rx at *
                          generalize (regv (D.take q) O.key).isNone = rn at *
                          have z2 := frozen_of_row _ _ 2 _ _ XX.out.box
                          have z5 := frozen_of_row _ _ 5 _ _ XX.out.box
                          have Y2 : ∀ B, (wr.alloc B).frozen? ⟨wq.heap.size, 2, none⟩ = false := fun B => frozen_of_row _ _ 2 _ _ (heap_old (o := B) XX.out.box)
                          have Y5 : ∀ B, (wr.alloc B).frozen? ⟨wq.heap.size, 5, none⟩ = false := fun B => frozen_of_row _ _ 5 _ _ (heap_old (o := B) XX.out.box)
                          have FA2 : ∀ B, (wr.alloc B).cell? ⟨wq.heap.size, 2, none⟩ = some (.int .i64 rx) := fun B => (box6 (heap_old (o := B) XX.out.box)).2.2.1
                          have FA5 : ∀ B, (wr.alloc B).cell? ⟨wq.heap.size, 5, none⟩ = some (.bool rn) := fun B => (box6 (heap_old (o := B) XX.out.box)).2.2.2.2.2
                          go_wp2_with fail
                          go_region
                          all_goals
                            go_wp2_with fail
                            go_roundg (D.length - (q + 1))
                            · exact ⟨q + 1, by omega, by omega, by go_num, (by show Bg _ _ _ _ _ _ _ _; rw [LE.out]; exact (XX.out.set P.value false).later ((below_box _ _).drew))⟩
                            · omega
                        · have g2 : (P.key.toList == O.key.toList) = false := by rw [key_beq]; exact decide_eq_false hpk
                          have LE : Hid (regv (D.take (q + 1)) O.key = regv (D.take q) O.key) := by show _ = _; rw [LS.out, if_neg (fun c => hpk c.2)]
                          clear LS hp1 hpk
                          go_wp2_with fail
                          go_roundg (D.length - (q + 1))
                          · exact ⟨q + 1, by omega, by omega, by go_num, (by show Bg _ _ _ _ _ _ _ _; rw [LE.out]; exact XX.out.later (below_box wr _))⟩
                          · omega
                      · have g1 : (P.kind == 3) = false := by simp [hp1]
                        have LE : Hid (regv (D.take (q + 1)) O.key = regv (D.take q) O.key) := by show _ = _; rw [LS.out, if_neg (fun c => hp1 c.1)]
                        clear LS hp1
                        go_wp2_with fail
                        go_roundg (D.length - (q + 1))
                        · exact ⟨q + 1, by omega, by omega, by go_num, (by show Bg _ _ _ _ _ _ _ _; rw [LE.out]; exact XX.out.later (below_box wr _))⟩
                        · omega
                    · have hqli : ¬ (q : Int) < D.length := by omega
                      rw [List.take_of_length_le (show D.length ≤ q by omega)] at XX f2 f5
                      have SY := hid (SX.out.later XX.out.below)
                      generalize (regv D O.key).getD O.value = rx at *
                      generalize (regv D O.key).isNone = rn at *
                      go_wp2_with (at_builtin; refine wpList_told w _ rfl _ _ rfl _ u6 D T (SY.out.later (below_box wr _)) rfl wr.heap.size 1 rfl (O.kind, O.key, rx, O.list, true, rn) la ln lc (heap_alloc_new wr _) ((SY.out.later (below_box wr _)).old LI.out) TL1.out ?_; intro ut' w6 q1 q2 q3; have P1 := hid q1; clear q1 q2 q3)
                      go_roundg (l.length - (k + 1))
                      · exact ⟨k + 1, by omega, by omega, by go_num, (by show Sv _ _ _ _ _ _; rw [DE.out, TE.out]; exact P1.out)⟩
                      · omega
                · have e1 : (O.kind == 1) = false := by simp [h1]
                  have e3 : (O.kind == 3) = false := by simp [h3]
                  have e2 : (O.kind == 2) = false := by simp [h2]
                  have e4 : (O.kind == 4) = false := by simp [h4]
                  have TE : Hid (tl D0 l (k + 1) = T ++ [O]) := by show _ = _; rw [TS.out, tell_write D O h2 h4]
                  clear h1 h2 h3 h4 DS TS
                  go_wp2_with (at_builtin; refine wpList_told w _ rfl _ _ rfl u5 u6 D T (SX.out.later (two_box wr _ _)) rfl (wr.heap.size + 1) 1 rfl O la ln lc (by have h := heap_alloc_new (wr.alloc (.cells #[.int .i64 O.kind, .string O.key, .int .i64 O.value, .slice la ln lc, .bool O.has, .bool O.nl] 31)) (.cells #[.int .i64 O.kind, .string O.key, .int .i64 O.value, .slice la ln lc, .bool O.has, .bool O.nl] 31); rw [alloc_size] at h; exact h) ((SX.out.later (two_box wr _ _)).old LI.out) TL1.out ?_; intro ut' w6 q1 q2 q3; have P1 := hid q1; clear q1 q2 q3)
                  go_roundg (l.length - (k + 1))
                  · exact ⟨k + 1, by omega, by omega, by go_num, (by show Sv _ _ _ _ _ _; rw [DE.out, TE.out]; exact P1.out)⟩
                  · omega
        · have hkli : ¬ (k : Int) < l.length := by omega
          have ek : k = l.length := by omega
          have SE : Hid (Sv w wr u5 u6 (dn D0 l k) (tl D0 l l.length)) := by rw [← ek]; exact SX.out
          clear SX
          have OPS : Hid (OpsIn Any wr u6 (tl D0 l l.length)) := by
            obtain ⟨rt, t1, t2, t3⟩ := SE.out.told
            have ht : rt.length = l.length := by rw [← tl_len D0 l l.length, ← t2, List.length_map]
            show OpsIn _ _ _ _
            rw [← t2]
            exact own_ops t1 (fun r hr => (t3 r hr).keep (fun _ _ _ => rfl) (fun _ _ _ => trivial)) (by omega)
          have B9 := hid SE.out.below
          have HKT := hid (tl_key D0 l HK.out)
          have SM := hid (st_most (tl D0 l l.length) _ (tl_list D0 l))
          have TLL := hid (tl_len D0 l l.length)
          have SR := hid (served_right D0 l)
          generalize tl D0 l l.length = TT at *
          go_wp2_with fail
          go_at_call 10
          refine (check_is u6 TT wr OPS.out HKT.out (fun i t s => by have := SM.out i t s; have := TLL.out; omega) (fun i t s _ => by have := SM.out i t s; have := TLL.out; omega) (by rw [TLL.out]; omega)).mono ?_
          rintro e w9 ⟨r, rfl, hf, hb9⟩
          rw [TLL.out] at hf
          obtain rfl := SR.out r hf
          have B10 := hid (B9.out.trans (hb9.mono B9.out.size))
          clear hf hb9
          go_wp2_with fail
          go_ret
          exact ⟨rfl, B10.out⟩
end Go.Proofs.Ytadlnkaphkbfdaa
