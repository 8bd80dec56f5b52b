/-
  The law ClosureOrder.
-/
import Derived.Test.YtmnfmilgpglfcaaDoorM4
import Derived.Test.YtmnfmilgpglfcaaDoorL3
namespace Go.Proofs.YtmnfmilgpglfcaaDoor
set_option linter.unusedVariables false
set_option linter.unusedSimpArgs false
open Go.RowKit Go.Lib

theorem psOf_mem (n : Nat) (l : List (Int × Int × Bool)) (p : Nat × Nat × Bool) : p ∈ psOf n l ↔ ∃ z ∈ l, inB n z.1 z.2.1 = true ∧ p = (z.1.toNat, z.2.1.toNat, z.2.2) := by
  induction l using listSnoc with
  | h0 => simp [psOf]
  | h1 l q ih =>
    rw [psOf_snoc]
    unfold addP
    split
    · next h =>
      rw [List.mem_append, ih]
      constructor
      · rintro (⟨z, h1, h2⟩ | h1)
        · exact ⟨z, List.mem_append_left _ h1, h2⟩
        · exact ⟨q, by simp, h, by simpa using h1⟩
      · rintro ⟨z, h1, h2, h3⟩
        rcases List.mem_append.1 h1 with h1 | h1
        · exact .inl ⟨z, h1, h2, h3⟩
        · have e : z = q := by simpa using h1
          subst e
          exact .inr (by simp [h3])
    · next h =>
      rw [ih]
      constructor
      · rintro ⟨z, h1, h2⟩
        exact ⟨z, List.mem_append_left _ h1, h2⟩
      · rintro ⟨z, h1, h2, h3⟩
        rcases List.mem_append.1 h1 with h1 | h1
        · exact ⟨z, h1, h2, h3⟩
        · have e : z = q := by simpa using h1
          subst e
          exact absurd h2 h
theorem psOf_back (n : Nat) (l : List (Int × Int × Bool)) (t : Bool) : clR (sel t (psOf n (l.reverse ++ l))) = clR (sel t (psOf n l)) :=
  clR_same (sel_same fun p => by rw [psOf_mem, psOf_mem]; simp)
theorem own_below {B : Nat} {w w' : World} {v : Value} {n : Nat} {xs : List Value} (h : w.ownsRow B 28 3 v n xs) (hb : Below w.heap.size w w') : w'.ownsRow B 28 3 v n xs := by
  refine ⟨h.1, ?_⟩
  rcases h.2 with h1 | ⟨g, cap, cur, hv, hg, hh, hr⟩
  · exact .inl h1
  · exact .inr ⟨g, cap, cur, hv, hg, (hb.block g (blt hh)).trans hh, hr⟩
theorem own_lt {B : Nat} {w : World} {v : Value} {n g : Nat} {xs : List Value} (h : w.ownsRow B 28 3 v n xs) (hg : v.ownBlock = some g) : B ≤ g ∧ ∃ cs, w.heap[g]? = some (.cells cs 28) := by
  rcases h.2 with ⟨hv, hn⟩ | ⟨g', cap, cur, hv, hB, hh, hr⟩
  · rw [hv] at hg; simp [Value.ownBlock] at hg
  · rw [hv] at hg
    have : g' = g := by simpa [Value.ownBlock] using hg
    subst this
    exact ⟨hB, _, hh⟩
theorem Gro.grown28 {B : Nat} {w w' : World} {v : Value} {n : Nat} {xs : List Value} (h : w.ownsRow B 28 3 v n xs) (hg : w.grownBy w' v.ownBlock) : Gro (Tg [28] B w) w w' :=
  ⟨hg.os, hg.tape, hg.output, hg.size, fun k hk hn => hg.block k hk (fun e => by
    obtain ⟨q1, cs, q2⟩ := own_lt h e.symm
    exact hn ⟨q1, cs, 28, q2, by simp⟩)⟩

set_option maxHeartbeats 8000000 in
set_option maxRecDepth 100000 in
theorem corder_walk (n : Int) (ao : Option Addr) (cp : Nat) (zs : List (Int × Int × Bool)) (w : World) (hz : ArgP w ao zs) (hl : zs.length ≤ maxLen) (hcap : zs.length ≤ cp) (hcm : cp ≤ maxLen) (hnil : ao = none → cp = 0) (hT : Tab w) :
    Calls Tryd.prog 5 #[.int .i64 n, .slice ao zs.length cp] w fun e w' => e = .returned (.bool true) ∧ Below w.heap.size w w' := by
  obtain ⟨i0, hi, hz'⟩ := Option.map_eq_some_iff.1 Tryd.info28
  simp only [Prod.mk.injEq] at hz'
  obtain ⟨hz0, hz1, hz2⟩ := hz'
  have HI := hid hi
  have HZ0 := hid hz0
  have HZ1 := hid hz1
  have HZ2 := hid hz2
  clear hi hz0 hz1 hz2
  obtain ⟨N, hN1, hN2, hN⟩ := mod_one n 25 (by decide) (by decide)
  have hN' : wrap64 (1 + wrap64 ((IntKind.u64.wrap n).tmod 25)) = (N : Int) := hN
  clear hN
  have hNi : (N : Int) ≤ 25 := by omega
  have hNi1 : (1 : Int) ≤ N := by omega
  unfold maxLen at hl hcm
  obtain ⟨ls, hls⟩ : ∃ ls, zs.take (min zs.length 50) = ls := ⟨_, rfl⟩
  have hll : ls.length = min zs.length 50 := by rw [← hls, List.length_take]; omega
  have hm : min (zs.length : Int) 50 = (ls.length : Int) := by omega
  have hl50 : ls.length ≤ 50 := by omega
  have hl50i : (ls.length : Int) ≤ 50 := by omega
  have hlzi : (ls.length : Int) ≤ zs.length := by omega
  have hlcp : (ls.length : Int) ≤ cp := by omega
  have hzcp : (zs.length : Int) ≤ cp := by omega
  have hcpi : (cp : Int) ≤ 9223372036854775807 := by omega
  have hl0 : (0 : Int) ≤ ls.length := by omega
  have Z0 : Hid (ArgP w ao ls) := by rw [← hls]; exact hz.take _
  have TB := hid hT
  have NC : Hid (ao = none → cp = 0 ∧ ls = []) := fun h => by
    have h1 := hnil h
    refine ⟨h1, List.length_eq_zero_iff.1 (by omega)⟩
  have BK := hid (psOf_back N ls)
  have PL1 : Hid ((psOf N ls).length ≤ 1000) := by have := psOf_len N ls; show _ ≤ _; omega
  have T1 : Hid (psOf N (ls.take 100) = psOf N ls) := by show _ = _; rw [List.take_of_length_le (by omega)]
  have T2 : Hid (psOf N ((ls.reverse ++ ls).take 100) = psOf N (ls.reverse ++ ls)) := by
    show _ = _
    rw [List.take_of_length_le (by rw [List.length_append, List.length_reverse]; omega)]
  clear hz hT hnil hls hll
  go_enter Tryd.func5, Tryd.ntmps5
  go_wp2_with fail
  go_at_call 17
  refine (cloneE_any ao cp ls w (by omega) Z0.out).mono ?_
  rintro e w1 ⟨v1, rfl, o1, b1⟩
  have O1 := hid o1
  have B1 := hid b1
  obtain ⟨va, vc, hv1, -⟩ := own_arg o1
  clear o1 b1
  subst hv1
  go_wp2_with fail
  go_at_call 18
  refine (reverseE_own w.heap.size (.slice va ls.length vc) ls w1 O1.out (by omega) B1.out.size).mono ?_
  rintro e w2 ⟨rfl, o2, b2⟩
  have O2 := hid o2
  have B2 := hid (B1.out.trans b2)
  have Z2 := hid (Z0.out.later (B1.out.trans b2))
  clear o2 b2 O1 B1
  go_wp2_with fail
  go_at_call 7
  refine (added_ok N (by omega) ao cp ls w2 Z2.out (by unfold maxLen; omega)).mono ?_
  rintro e w3 ⟨⟨b, bx, rfl, g3⟩, bl3⟩
  rw [T1.out] at g3
  have G3 := hid g3
  have O3 : Hid (w3.ownsRow w.heap.size 28 3 (.slice va ls.length vc) ls.length (esV ls.reverse)) := by
    have h := own_below O2.out bl3
    rw [List.length_reverse] at h
    exact h
  have B3 := hid (B2.out.trans (bl3.mono B2.out.size))
  have Z3 := hid (Z2.out.later bl3)
  have HS3 : Hid (w2.heap.size ≤ w3.heap.size) := bl3.size
  clear g3 bl3 O2 B2 Z2 T1
  have KEY : Hid (∀ v4 w4, w4.ownsRow w.heap.size 28 3 v4 (ls.length + ls.length) (esV ls.reverse ++ esV ls) → w3.grownBy w4 (Value.slice va ls.length vc).ownBlock → Calls Tryd.prog 7 #[.int .i64 N, v4] w4 fun e w5 => (∃ c cx, e = .returned (.tuple #[.pointer (some ⟨c, 0, none⟩), .pointer (some ⟨cx, 0, none⟩), .bool true]) ∧ BothO 0 w5 b bx N (psOf N ls) ∧ Od 0 w5 c N (clR (sel false (psOf N ls))) (clR (sel true (psOf N ls)))) ∧ Tab w5 ∧ Below w.heap.size w w5) := by
    intro v4 w4 o4 g4
    have hb4 : Below w.heap.size w3 w4 := ⟨g4.os, g4.tape, g4.output, g4.size, fun k hk => g4.block k (Nat.lt_of_lt_of_le hk B3.out.size) (fun e => by have := (own_lt O3.out e.symm).1; omega)⟩
    have gg := Gro.grown28 O3.out g4
    have bo : BothO w2.heap.size w4 b bx N (psOf N ls) := ⟨G3.out.1.gro gg (fun x cs t hx ht => Tg.not hx (by rcases ht with rfl | rfl | rfl | rfl <;> decide)), G3.out.2.gro gg (fun x cs t hx ht => Tg.not hx (by rcases ht with rfl | rfl <;> decide))⟩
    rw [← esV_app] at o4
    have hlen : (ls.reverse ++ ls).length = ls.length + ls.length := by rw [List.length_append, List.length_reverse]
    rw [← hlen] at o4
    obtain ⟨a4, c4, rfl, q4⟩ := own_arg o4
    refine (added_ok N (by omega) a4 c4 (ls.reverse ++ ls) w4 q4 (by rw [hlen]; unfold maxLen; omega)).mono ?_
    rintro e w5 ⟨⟨c, cx, rfl, g5⟩, bl5⟩
    rw [T2.out] at g5
    have od := g5.1
    rw [BK.out, BK.out] at od
    have low : ∀ {H : Nat} {u b n R S}, Od H u b n R S → Od 0 u b n R S := fun ⟨r, s, bk, ck, bs, cs, h⟩ => ⟨r, s, bk, ck, bs, cs, h.box, h.all, h.sur, h.far, fun i hi => ⟨Nat.zero_le _, Nat.zero_le _⟩, h.bound⟩
    have lowR : ∀ {H : Nat} {u b n ps}, RefO H u b n ps → RefO 0 u b n ps := fun h => by
      obtain ⟨v, q1, q2⟩ := h.ex
      refine ⟨⟨v, q1, q2.1, ?_⟩, Nat.zero_le _, h.bound, h.lt⟩
      rcases q2.2 with q3 | ⟨g, cap, cur, k1, k2, k3⟩
      · exact .inl q3
      · exact .inr ⟨g, cap, cur, k1, Nat.zero_le _, k3⟩
    have bo5 := bo.later bl5
    have b45 := B3.out.trans hb4
    exact ⟨⟨c, cx, rfl, ⟨low bo5.1, lowR bo5.2⟩, low od⟩, TB.out.later (b45.trans (bl5.mono b45.size)), b45.trans (bl5.mono b45.size)⟩
  clear G3 BK T2
  obtain ⟨ps, hps⟩ : ∃ ps, psOf N ls = ps := ⟨_, rfl⟩
  rw [hps] at KEY PL1
  clear hps
  rcases ao with _ | ad
  focus
    obtain ⟨rfl, hes⟩ := NC.out rfl
    subst hes
    have CALL := hid (KEY.out (.slice va 0 vc) w3 O3.out ⟨rfl, rfl, rfl, Nat.le_refl _, fun _ _ _ => rfl⟩)
    clear KEY
    go_wp2_with (at_builtin; refine wpList_append_own_none rfl _ _ 22 rfl w.heap.size 28 i0 3 Tryd.underlying22 HI.out (.slice va 0 vc) 0 [] rfl O3.out rfl ?_)
  rotate_left
  focus
    have AC : Hid (∀ j u, (esV ls)[j]? = some u → w3.cell? (ad.add j) = some u) := by
      intro j u hj
      have hlt : j < ls.length * 3 := by rw [← esV_len]; exact (List.getElem?_eq_some_iff.1 hj).1
      obtain ⟨bz, oz, hbz, -⟩ := Z3.out 0 (by omega)
      cases hbz
      rw [Addr.add_lit]
      exact esV_cell Z3.out j u hj
    go_wp2_with (at_builtin; refine wpList_append_own _ rfl _ _ 22 rfl w.heap.size 28 i0 (.agg #[.int .i64 0, .int .i64 0, .bool false]) 3 24 Tryd.underlying22 HI.out HZ0.out HZ1.out HZ2.out rfl (by decide) (.slice va ls.length vc) ls.length (esV ls.reverse) rfl O3.out ad ls.length cp (esV ls) rfl (esV_len ls) AC.out (esV_one ls) (by unfold maxLen; omega) (by omega) B3.out.size ?_; intro v4 w4 o4 g4 h4; have CALL := hid (KEY.out v4 w4 o4 g4); clear o4 g4 h4)
    clear KEY AC
  all_goals
    go_at_call 7
    refine CALL.out.mono ?_
    rintro e w5 ⟨⟨c, cx, rfl, h5, k5⟩, t5, b5⟩
    have H5 := hid h5
    have K5 := hid k5
    have T5 := hid t5
    have B5 := hid b5
    clear h5 k5 t5 b5 CALL O3 Z3 B3
    have LP := hid (allP_le (clR (sel false ps)) (show N ≤ 300 by omega))
    have hlP : ((allP (clR (sel false ps)) N N).length : Int) ≤ 1000000 := by have := LP.out; omega
    have hqq : (((allP (clR (sel false ps)) N N).length : Int) == ((allP (clR (sel false ps)) N N).length : Int)) = true := by simp
    have P1 := hid (pairs_is _ b N _ _ _ H5.out.1 T5.out)
    go_wp2_with fail
    go_at_call 13
    refine P1.out.mono ?_
    rintro e w6 ⟨⟨v6, rfl, p6⟩, bl⟩
    have B6 := hid bl
    obtain ⟨a6, c6, rfl, q6⟩ := p6.arg
    have Q6 := hid q6
    clear bl p6 q6 P1
    have P2 := hid (pairs_is _ c N _ _ _ (K5.out.later B6.out) (T5.out.later B6.out))
    go_wp2_with fail
    go_at_call 13
    refine P2.out.mono ?_
    rintro e w7 ⟨⟨v7, rfl, p7⟩, bl⟩
    have B7 := hid (B6.out.trans (bl.mono B6.out.size))
    obtain ⟨a7, c7, rfl, q7⟩ := p7.arg
    have Q7 := hid q7
    have Q67 := hid (Q6.out.later bl)
    clear bl p7 q7 P2 B6 Q6
    go_wp2_with fail
    go_at_call 12
    refine (equal_prs a6 a7 c6 c7 _ w7 Q67.out Q7.out LP.out).mono ?_
    rintro e w8 ⟨rfl, q, rfl⟩
    have B8 := hid (below_drewN B7.out q)
    clear Q67 Q7 B7
    generalize w7.drewN q = w8 at *
    have P3 := hid (pairs_is _ b N _ _ _ (H5.out.1.later B8.out) (T5.out.later B8.out))
    go_wp2_with fail
    go_at_call 13
    refine P3.out.mono ?_
    rintro e w9 ⟨⟨v9, rfl, p9⟩, bl⟩
    have B9 := hid (B8.out.trans (bl.mono B8.out.size))
    obtain ⟨a9, c9, rfl, -⟩ := p9.arg
    clear bl p9 P3 B8
    have P4 := hid (rpairs_is _ bx N ps w9 (H5.out.2.later B9.out) PL1.out)
    go_wp2_with fail
    go_at_call 14
    refine P4.out.mono ?_
    rintro e w10 ⟨⟨v10, rfl, p10⟩, bl⟩
    have B10 := hid (B9.out.trans (bl.mono B9.out.size))
    obtain ⟨a10, c10, rfl, -⟩ := p10.arg
    clear bl p10 P4 B9
    have P5 := hid (pairs_is _ b N _ _ _ (H5.out.1.later B10.out) (T5.out.later B10.out))
    go_wp2_with fail
    go_at_call 13
    refine P5.out.mono ?_
    rintro e w11 ⟨⟨v11, rfl, p11⟩, bl⟩
    have B11 := hid (B10.out.trans (bl.mono B10.out.size))
    obtain ⟨a11, c11, rfl, q11⟩ := p11.arg
    have Q11 := hid q11
    clear bl p11 q11 P5 B10
    obtain ⟨pr, hpr⟩ : ∃ pr, allP (clR (sel false ps)) N N = pr := ⟨_, rfl⟩
    rw [hpr] at Q11 hlP hqq
    rw [hpr]
    clear hpr LP
    go_wp2_with fail
    go_loopg [13, 70] pr.length (fun g _ i wr => ∃ j : Nat, j ≤ pr.length ∧ pr.length - j ≤ g ∧ i = .int .i64 j ∧ Aside (Below w11.heap.size w11 wr))
    case atStart => exact ⟨0, Nat.zero_le _, by omega, rfl, Below.refl _ _⟩
    case round =>
      obtain ⟨j, hj, hg, rfl, BX⟩ := hrel
      by_cases hjl : j < pr.length
      · have hjli : (j : Int) < pr.length := by omega
        obtain ⟨bz, oz, rfl, k1, k2⟩ := Q11.out.later BX.out j hjl
        generalize (pr.getD j (0, 0)).1 = x at *
        generalize (pr.getD j (0, 0)).2 = y at *
        go_wp2_with fail
        have KB : Hid ((wr.alloc (.cells #[.int .i64 x, .int .i64 y] 32)).heap[wr.heap.size]? = some (.cells #[.int .i64 x, .int .i64 y] 32)) := heap_alloc_new wr _
        have B2 : Hid (Below w11.heap.size w11 (wr.alloc (.cells #[.int .i64 x, .int .i64 y] 32))) := BX.out.trans ((below_box wr _).mono BX.out.size)
        clear BX k1 k2
        generalize wr.alloc (.cells #[.int .i64 x, .int .i64 y] 32) = W at *
        generalize wr.heap.size = kb at *
        have K0 : W.cell? ⟨kb, 0, none⟩ = some (.int .i64 x) := Lib.cell_of_heap KB.out 0
        have K1 : W.cell? ⟨kb, 1, none⟩ = some (.int .i64 y) := Lib.cell_of_heap KB.out 1
        have B12 := hid (B11.out.trans (B2.out.mono B11.out.size))
        have SURE : Hid (∀ (q : Nat) (o : Nat) (u v : Int), (o = b ∨ o = c) → Calls Tryd.prog 10 #[.pointer (some ⟨o, 0, none⟩), .int .i64 u, .int .i64 v] (W.drewN q) fun e w'' => e = .returned (.bool (ahd (clR (sel true ps)) N u v)) ∧ ∃ m, w'' = W.drewN m) := fun q o u v ho => by
          have hd := below_drewN B12.out q
          rcases ho with rfl | rfl
          · exact quietly (sure_any _ _ N _ _ u v (W.drewN q) (H5.out.1.later hd))
          · exact quietly (sure_any _ _ N _ _ u v (W.drewN q) (K5.out.later hd))
        obtain ⟨sf, hsf⟩ : ∃ f, ahd (clR (sel true ps)) N = f := ⟨_, rfl⟩
        rw [hsf] at SURE
        clear hsf
        have e2 : (sf x y == sf x y) = true := by simp
        go_quiet ((go_at_call 10; exact SURE.out _ _ _ _ (by first | exact .inl rfl | exact .inr rfl)))
        go_wp2_with fail
        go_roundg (pr.length - (j + 1))
        · exact ⟨j + 1, by omega, by omega, by go_num, below_drewN B2.out _⟩
        · omega
      · have hjli : ¬ (j : Int) < pr.length := by omega
        go_wp2_with fail
        go_ret
        exact ⟨rfl, B5.out.trans ((B11.out.trans (BX.out.mono B11.out.size)).mono B5.out.size)⟩
end Go.Proofs.YtmnfmilgpglfcaaDoor
