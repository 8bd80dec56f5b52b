/-
  The document's words of a read: rightList.
-/
import Derived.Test.YtadlnkaphkbfdaaIn21
import Derived.Test.YtadlnkaphkbfdaaIn12
import Derived.BigQuiet
namespace Go.Proofs.Ytadlnkaphkbfdaa
set_option linter.unusedVariables false
set_option linter.unusedSimpArgs false
open Go.RowKit Go.Lib Go.Sort

theorem own_intsA {B : Nat} {w : World} {v : Value} {xs : List Int} (h : w.ownsRow B 3 1 v xs.length (xs.map (Value.int .i64))) (hl : xs.length ≤ 1099511627776) : IntsIn Any w v xs := by
  rcases h.2 with ⟨hv, hn⟩ | ⟨g, cap, cur, hv, hg, hh, hcap, hm, hsz, ht⟩
  · exact ⟨none, 0, by rw [hv, hn], ⟨by omega, by omega⟩, fun c => by omega⟩
  · refine ⟨some ⟨g, 0, none⟩, cap, hv, ⟨by omega, hcap⟩, fun _ => ⟨g, 0, rfl, trivial, fun j hj => ?_⟩⟩
    have h1 := h.cells (g := g) (by rw [hv]; rfl) j (.int .i64 (xs.getD j default)) (by simp [List.getD, hj])
    rw [Addr.add_lit] at h1
    exact h1
theorem rvw_next (l : List MOp) (o P : MOp) (m : Nat) (hP : l.getD m default = P) : rvw l o (m + 1) = if lik P o then (if P.kind = 1 then ((rvw l o m).1, (rvw l o m).2 ++ [P.value]) else if P.has then (true, P.list) else rvw l o m) else rvw l o m := by
  subst hP
  rfl

theorem right_yes {l : List MOp} {O : MOp} {i d : Nat} {kn : Bool} {xs : List Int} (h : rvw l O i = (kn, xs)) (hd : O.list.length = d + xs.length) (hk : kn = true → O.list.length ≠ xs.length → False) (he : ∀ k, k < xs.length → O.list.getD (d + k) default = xs.getD k default) : rightL l O i = true := by
  unfold rightL
  rw [h, if_neg (by rintro (c | ⟨c1, c2⟩); (· simp only at c; omega); (· exact hk c1 c2))]
  apply decide_eq_true
  have e : O.list.length - xs.length = d := by omega
  rw [show O.list.length - (kn, xs).2.length = d from e]
  apply List.ext_getElem
  · rw [List.length_drop]; show _ = xs.length; omega
  · intro k h1 h2
    have h2' : k < xs.length := h2
    have h3 := he k h2'
    have h4 : d + k < O.list.length := by omega
    simp [List.getD, h2', h4] at h3
    simpa using h3
theorem right_no {l : List MOp} {O : MOp} {i d : Nat} {kn : Bool} {xs : List Int} (h : rvw l O i = (kn, xs)) (hd : O.list.length = d + xs.length) (hk : kn = true → O.list.length ≠ xs.length → False) (q : Nat) (hq : q < xs.length) (he : ¬ O.list.getD (d + q) default = xs.getD q default) : rightL l O i = false := by
  unfold rightL
  rw [h, if_neg (by rintro (c | ⟨c1, c2⟩); (· simp only at c; omega); (· exact hk c1 c2))]
  apply decide_eq_false
  have e : O.list.length - xs.length = d := by omega
  rw [show O.list.length - (kn, xs).2.length = d from e]
  intro c
  apply he
  have h4 : d + q < O.list.length := by omega
  have c' : O.list.drop d = xs := c
  rw [← c']
  simp [List.getD, h4]

set_option maxHeartbeats 3000000 in
set_option maxRecDepth 100000 in
theorem rlist_is (v : Value) (l : List MOp) (w : World) (h : OpsIn Any w v l) (i : Nat) (hi : i < l.length) (hk2 : (l.getD i default).kind = 2) (hv : ∀ m, (rvw l (l.getD i default) m).2.length ≤ 1099511627776) :
    Calls Try.prog 37 #[v, .int .i64 i] w fun e w' => e = .returned (.bool (rightL l (l.getD i default) i)) ∧ Below w.heap.size w w' := by
  obtain ⟨ao, c, rfl, ⟨hby, hcap⟩, hc⟩ := ops_at h
  obtain ⟨bz, oz, lv, rfl, hI, k0, k1, k2, k3, k4, k5⟩ := hc i hi
  have HC := hid hc
  have HV := hid hv
  have hlen2 : (l.length : Int) ≤ 2199023255552 := by omega
  have hii : (i : Int) < l.length := by omega
  have hcp : (i : Int) ≤ c := by omega
  have hbl : bz < w.heap.size := World.block_lt_of_cell? _ _ k0
  obtain ⟨O, hO⟩ : ∃ O, l.getD i default = O := ⟨_, rfl⟩
  rw [hO] at hI k0 k1 k2 k4 k5 hk2 HV
  rw [hO]
  have LI := hid hI
  obtain ⟨la, ln, lc, hlv⟩ : ∃ a n c, lv = .slice a n c := by obtain ⟨a, c, h, _⟩ := hI; exact ⟨a, _, c, h⟩
  subst hlv
  have mixed := Try.mixed
  have HK2 := hid hk2
  clear h hc hI hO hk2 hv
  go_enter Try.func37, Try.ntmps37
  go_wp2_with fail
  go_loopg [5, 6, 16] i (fun g kv vv iv wr => ∃ (m : Nat) (kn : Bool) (xs : List Int), m ≤ i ∧ i - m ≤ g ∧ iv = .int .i64 m ∧ kv = .bool kn ∧ Aside (rvw l O m = (kn, xs)) ∧ Aside (Below w.heap.size w wr) ∧ Aside (wr.ownsRow w.heap.size 3 1 vv xs.length (xs.map (Value.int .i64))))
  case atStart => exact ⟨0, false, [], Nat.zero_le _, by omega, rfl, rfl, rfl, Below.refl _ _, World.ownsRow_nil _ _ _ _⟩
  case round =>
    obtain ⟨m, kn, xs, hm, hg, rfl, rfl, RV, BX, OX⟩ := hrel
    by_cases hml : m < i
    · have hmi : (m : Int) < i := by omega
      have hmc : (m : Int) < c := by omega
      obtain ⟨b1, o1, lv1, hda, hI, m0, m1, m2, m3, m4, m5⟩ := HC.out m (by omega)
      cases hda
      have PI := hid (hI.below BX.out)
      have p0 := (BX.out.cell (p := ⟨bz, oz + m * 6, none⟩) (World.block_lt_of_cell? _ _ m0)).trans m0
      have p1 := (BX.out.cell (p := ⟨bz, oz + m * 6 + 1, none⟩) (World.block_lt_of_cell? _ _ m1)).trans m1
      have p2 := (BX.out.cell (p := ⟨bz, oz + m * 6 + 2, none⟩) (World.block_lt_of_cell? _ _ m2)).trans m2
      have p3 := (BX.out.cell (p := ⟨bz, oz + m * 6 + 3, none⟩) (World.block_lt_of_cell? _ _ m3)).trans m3
      have p4 := (BX.out.cell (p := ⟨bz, oz + m * 6 + 4, none⟩) (World.block_lt_of_cell? _ _ m4)).trans m4
      have p5 := (BX.out.cell (p := ⟨bz, oz + m * 6 + 5, none⟩) (World.block_lt_of_cell? _ _ m5)).trans m5
      clear m0 m1 m2 m3 m4 m5
      obtain ⟨pa, pm, pc, hl1⟩ : ∃ a n c, lv1 = .slice a n c := by obtain ⟨a, c, h, _⟩ := hI; exact ⟨a, _, c, h⟩
      subst hl1
      obtain ⟨P, hP⟩ : ∃ P, l.getD m default = P := ⟨_, rfl⟩
      rw [hP] at p0 p1 p2 p4 p5 PI
      have RN0 := hid (rvw_next l O P m hP)
      clear hP hI
      have VL : Hid (xs.length ≤ 1099511627776) := by have h := HV.out m; rw [RV.out] at h; exact h
      have BW : Hid (Below wr.heap.size wr (wr.alloc (.cells #[.int .i64 P.kind, .string P.key, .int .i64 P.value, .slice pa pm pc, .bool P.has, .bool P.nl] 31))) := below_box wr _
      have HB := heap_alloc_new wr (.cells #[.int .i64 P.kind, .string P.key, .int .i64 P.value, .slice pa pm pc, .bool P.has, .bool P.nl] 31)
      have c00 := grow_cell HB 0 (.int .i64 P.kind) rfl
      have c01 := grow_cell HB 1 (.string P.key) rfl
      have c02 := grow_cell HB 2 (.int .i64 P.value) rfl
      have c03 := grow_cell HB 3 (.slice pa pm pc) rfl
      have c04 := grow_cell HB 4 (.bool P.has) rfl
      have c05 := grow_cell HB 5 (.bool P.nl) rfl
      have c10 := oldc k0 (BX.out.trans (BW.out.mono BX.out.size))
      have c11 := oldc k1 (BX.out.trans (BW.out.mono BX.out.size))
      have c12 := oldc k2 (BX.out.trans (BW.out.mono BX.out.size))
      have c13 := oldc k3 (BX.out.trans (BW.out.mono BX.out.size))
      have c14 := oldc k4 (BX.out.trans (BW.out.mono BX.out.size))
      have c15 := oldc k5 (BX.out.trans (BW.out.mono BX.out.size))
      clear HB
      have LK0 := fun w => like_is P O (.slice pa pm pc) (.slice la ln lc) w ⟨_, _, _, rfl⟩ ⟨_, _, _, rfl⟩ (.inl HK2.out)
      unfold opV at LK0
      go_wp2_with fail
      clear p0 p1 p2 p3 p4 p5
      generalize wr.alloc (.cells #[.int .i64 P.kind, .string P.key, .int .i64 P.value, .slice pa pm pc, .bool P.has, .bool P.nl] 31) = W at *
      cases hL : lik P O with
      | false =>
        rw [hL] at LK0
        have RN : Hid (rvw l O (m + 1) = rvw l O m) := by show _ = _; rw [RN0.out, hL]; rfl
        have LK := hid LK0
        clear LK0
        refine wp_region_quiet_grown (by assumption) (by kernel_rfl) ?_
        repeat (go_big_quiet_step (exact Calls.grown_of (LK.out _)))
        refine wpQuiet_nil ?_
        intro w9 hw9
        obtain ⟨⟨nq, osq⟩, hw8⟩ := hw9
        subst hw8
        have B2 : Hid (Below wr.heap.size wr (grow (W.drewN nq) osq)) := BW.out.trans ((below_grow W nq osq).mono BW.out.size)
        have y00 := c00 nq osq
        have y01 := c01 nq osq
        have y02 := c02 nq osq
        have y03 := c03 nq osq
        have y04 := c04 nq osq
        have y05 := c05 nq osq
        have y10 := c10 nq osq
        have y11 := c11 nq osq
        have y12 := c12 nq osq
        have y13 := c13 nq osq
        have y14 := c14 nq osq
        have y15 := c15 nq osq
        clear c00 c01 c02 c03 c04 c05 c10 c11 c12 c13 c14 c15
        generalize grow (W.drewN nq) osq = W2 at *

        go_wp2_with fail
        go_roundg (i - (m + 1))
        · exact ⟨m + 1, kn, xs, by omega, by omega, by go_num, rfl, (by rw [RN.out]; exact RV.out), BX.out.trans (B2.out.mono BX.out.size), row_later OX.out B2.out⟩
        · omega
      | true =>
        rw [hL] at LK0
        by_cases h1 : P.kind = 1
        · have e1 : (P.kind == 1) = true := by simp [h1]
          have RN : Hid (rvw l O (m + 1) = (kn, xs ++ [P.value])) := by show _ = _; rw [RN0.out, hL, if_pos rfl, if_pos h1, RV.out]
          clear h1
          have LK := hid LK0
          clear LK0
          refine wp_region_quiet_grown (by assumption) (by kernel_rfl) ?_
          repeat (go_big_quiet_step (exact Calls.grown_of (LK.out _)))
          refine wpQuiet_nil ?_
          intro w9 hw9
          obtain ⟨⟨nq, osq⟩, hw8⟩ := hw9
          subst hw8
          have B2 : Hid (Below wr.heap.size wr (grow (W.drewN nq) osq)) := BW.out.trans ((below_grow W nq osq).mono BW.out.size)
          have y00 := c00 nq osq
          have y01 := c01 nq osq
          have y02 := c02 nq osq
          have y03 := c03 nq osq
          have y04 := c04 nq osq
          have y05 := c05 nq osq
          have y10 := c10 nq osq
          have y11 := c11 nq osq
          have y12 := c12 nq osq
          have y13 := c13 nq osq
          have y14 := c14 nq osq
          have y15 := c15 nq osq
          clear c00 c01 c02 c03 c04 c05 c10 c11 c12 c13 c14 c15
          generalize grow (W.drewN nq) osq = W2 at *

          have BO : Hid (W2.ownsRow w.heap.size 3 1 u6 xs.length (xs.map (Value.int .i64))) := row_later OX.out B2.out
          have B3 : Hid (Below w.heap.size w W2) := BX.out.trans (B2.out.mono BX.out.size)
          obtain ⟨i0, hi0, hz0, hz1, hz2⟩ := info_parts Try.infoInt
          have HI := hid hi0
          have HZ0 := hid hz0
          have HZ1 := hid hz1
          have HZ2 := hid hz2
          clear hi0 hz0 hz1 hz2
          go_wp2_with (at_builtin; refine wpList_append_lies _ rfl _ _ 26 rfl w.heap.size 3 i0 (.int .i64 0) 1 8 Try.underlying26 HI.out HZ0.out HZ1.out HZ2.out rfl (by decide) u6 xs.length (xs.map (Value.int .i64)) rfl (World.ownsRow.alloc BO.out _) ⟨W2.heap.size, 0, none⟩ 1 1 [.int .i64 P.value] rfl rfl (World.news_of_block (cs := #[.int .i64 P.value]) (t := 3) (fr := (0, 0)) (heap_alloc_new W2 _)) (by intro u hu; simp at hu; rw [hu]; rfl) (by decide) (by have := VL.out; unfold maxLen; omega) (by have := VL.out; omega) (by have := B3.out.size; rw [alloc_size]; omega) (W2.heap.size + 1) (alloc_size _ _) ?_; intro g cap w4 q1 q2 q3 q4; have Q1 := hid q1; have Q2 : Hid (Below w.heap.size w w4) := (B3.out.trans ((below_box W2 _).mono B3.out.size)).grown q2 (by have := B3.out.size; rw [alloc_size]; omega) (fun x hx => (BO.out.lt x hx).1); clear q1 q2 q3 q4)
          go_roundg (i - (m + 1))
          · exact ⟨m + 1, kn, xs ++ [P.value], by omega, by omega, by go_num, rfl, RN.out, Q2.out, (by show World.ownsRow _ _ _ _ _ _ _; rw [List.length_append, List.map_append]; exact Q1.out)⟩
          · omega
        · have e1 : (P.kind == 1) = false := by simp [h1]
          cases hh : P.has with
          | false =>
            have RN : Hid (rvw l O (m + 1) = rvw l O m) := by show _ = _; rw [RN0.out, hL, if_pos rfl, if_neg h1, hh]; rfl
            rw [hh] at c04 LK0
            clear h1
            have LK := hid LK0
            clear LK0
            refine wp_region_quiet_grown (by assumption) (by kernel_rfl) ?_
            repeat (go_big_quiet_step (exact Calls.grown_of (LK.out _)))
            refine wpQuiet_nil ?_
            intro w9 hw9
            obtain ⟨⟨nq, osq⟩, hw8⟩ := hw9
            subst hw8
            have B2 : Hid (Below wr.heap.size wr (grow (W.drewN nq) osq)) := BW.out.trans ((below_grow W nq osq).mono BW.out.size)
            have y00 := c00 nq osq
            have y01 := c01 nq osq
            have y02 := c02 nq osq
            have y03 := c03 nq osq
            have y04 := c04 nq osq
            have y05 := c05 nq osq
            have y10 := c10 nq osq
            have y11 := c11 nq osq
            have y12 := c12 nq osq
            have y13 := c13 nq osq
            have y14 := c14 nq osq
            have y15 := c15 nq osq
            clear c00 c01 c02 c03 c04 c05 c10 c11 c12 c13 c14 c15
            generalize grow (W.drewN nq) osq = W2 at *

            go_wp2_with fail
            go_roundg (i - (m + 1))
            · exact ⟨m + 1, kn, xs, by omega, by omega, by go_num, rfl, (by rw [RN.out]; exact RV.out), BX.out.trans (B2.out.mono BX.out.size), row_later OX.out B2.out⟩
            · omega
          | true =>
            have RN : Hid (rvw l O (m + 1) = (true, P.list)) := by show _ = _; rw [RN0.out, hL, if_pos rfl, if_neg h1, hh]; rfl
            rw [hh] at c04 LK0
            clear h1
            have LK := hid LK0
            clear LK0
            refine wp_region_quiet_grown (by assumption) (by kernel_rfl) ?_
            repeat (go_big_quiet_step (exact Calls.grown_of (LK.out _)))
            refine wpQuiet_nil ?_
            intro w9 hw9
            obtain ⟨⟨nq, osq⟩, hw8⟩ := hw9
            subst hw8
            have B2 : Hid (Below wr.heap.size wr (grow (W.drewN nq) osq)) := BW.out.trans ((below_grow W nq osq).mono BW.out.size)
            have y00 := c00 nq osq
            have y01 := c01 nq osq
            have y02 := c02 nq osq
            have y03 := c03 nq osq
            have y04 := c04 nq osq
            have y05 := c05 nq osq
            have y10 := c10 nq osq
            have y11 := c11 nq osq
            have y12 := c12 nq osq
            have y13 := c13 nq osq
            have y14 := c14 nq osq
            have y15 := c15 nq osq
            clear c00 c01 c02 c03 c04 c05 c10 c11 c12 c13 c14 c15
            generalize grow (W.drewN nq) osq = W2 at *

            have B3 : Hid (Below w.heap.size w W2) := BX.out.trans (B2.out.mono BX.out.size)
            have Y3 : ∀ B, (W2.alloc B).cell? ⟨wr.heap.size, 3, none⟩ = some (.slice pa pm pc) := fun B => Lib.cell?_alloc_some _ y03
            go_wp2_with (at_builtin; refine wpList_copyL w.heap.size _ rfl _ _ rfl W2.heap.size rfl (heap_alloc_new W2 _) B3.out.size pa pm pc rfl P.list ((PI.out.below B2.out).below (below_box W2 _)) ?_; intro v' w4 q1 q2; have Q1 := hid q1; have Q2 : Hid (Below w.heap.size w w4) := (B3.out.trans ((below_box W2 _).mono B3.out.size)).trans (q2.mono B3.out.size); clear q1 q2)
            go_roundg (i - (m + 1))
            · exact ⟨m + 1, true, P.list, by omega, by omega, by go_num, rfl, RN.out, Q2.out, Q1.out⟩
            · omega
    · have hmi : ¬ (m : Int) < i := by omega
      have em : m = i := by omega
      have RI : Hid (rvw l O i = (kn, xs)) := by rw [← em]; exact RV.out
      have VL : xs.length ≤ 1099511627776 := by have h := HV.out m; rw [RV.out] at h; exact h
      clear RV em
      have GI := LI.out.below BX.out
      obtain ⟨ga, gc, hgv, ⟨gby, gcap⟩, gE⟩ := GI.cells
      cases hgv
      have YI := own_intsA OX.out VL
      obtain ⟨xa, xc, hx, ⟨xby, xcap⟩, xE⟩ := YI.cells
      subst hx
      have GE := hid gE
      have XE := hid xE
      have z3 := (BX.out.cell (p := ⟨bz, oz + i * 6 + 3, none⟩) (World.block_lt_of_cell? _ _ k3)).trans k3
      have VLi : (xs.length : Int) ≤ 1099511627776 := by omega
      have GLi : (O.list.length : Int) ≤ 17592186044416 := by omega
      clear gE xE GI YI OX
      by_cases hlt : O.list.length < xs.length
      · have hlti : (O.list.length : Int) < xs.length := by omega
        have RR : Hid (rightL l O i = false) := by show _ = _; unfold rightL; rw [RI.out]; exact if_pos (.inl hlt)
        clear k0 k1 k2 k3 k4 k5
        go_wp2_with fail
        go_ret
        exact ⟨by rw [RR.out]; rfl, BX.out⟩
        
      · have hlti : ¬ (O.list.length : Int) < xs.length := by omega
        by_cases heq : O.list.length = xs.length
        · cases kn with
          | false =>
            have HD := hid heq
            rw [heq] at z3 GE
            clear heq hlt hlti GLi gby gcap k0 k1 k2 k3 k4 k5
            go_wp2_with fail
            generalize wr = wa at *
            go_loopg [64] xs.length (fun g iv wr => ∃ q : Nat, q ≤ xs.length ∧ xs.length - q ≤ g ∧ iv = .int .i64 q ∧ wr = wa ∧ Aside (∀ k, k < q → O.list.getD k default = xs.getD k default))
            case atStart => exact ⟨0, Nat.zero_le _, by omega, rfl, rfl, fun k hk => by omega⟩
            case round =>
              obtain ⟨q, hq, hgq, rfl, rfl, EQ⟩ := hrel
              by_cases hql : q < xs.length
              · have hqi : (q : Int) < xs.length := by omega
                obtain ⟨b2, o2, e2, v2⟩ := XE.out q hql
                subst e2
                obtain ⟨b3, o3, e3, v3⟩ := GE.out q (by omega)
                subst e3
                by_cases hv : O.list.getD q default = xs.getD q default
                · rw [hv] at v3
                  have EN : Hid (∀ k, k < q + 1 → O.list.getD k default = xs.getD k default) := fun k hk => by
                    by_cases hkq : k < q
                    · exact EQ.out k hkq
                    · obtain rfl : k = q := by omega
                      exact hv
                  clear hv
                  go_wp2_with fail
                  go_roundg (xs.length - (q + 1))
                  · exact ⟨q + 1, by omega, by omega, by go_num, rfl, EN.out⟩
                  · omega
                · have RR : Hid (rightL l O i = false) := right_no (d := 0) RI.out (by rw [HD.out]; omega) (fun c e => e HD.out) q hql (by rw [Nat.zero_add]; exact hv)
                  have hvb : (O.list.getD q default == xs.getD q default) = false := by simpa using hv
                  generalize O.list.getD q default = x1 at *
                  generalize xs.getD q default = x2 at *
                  go_wp2_with fail
                  go_ret
                  exact ⟨by rw [RR.out]; rfl, BX.out⟩
              · have hqi : ¬ (q : Int) < xs.length := by omega
                have RR : Hid (rightL l O i = true) := right_yes (d := 0) RI.out (by rw [HD.out]; omega) (fun c e => e HD.out) (fun k hk => by rw [Nat.zero_add]; exact EQ.out k (by omega))
                go_wp2_with fail
                go_ret
                exact ⟨by rw [RR.out]; rfl, BX.out⟩
          | true =>
            have HD := hid heq
            rw [heq] at z3 GE
            clear heq hlt hlti GLi gby gcap k0 k1 k2 k3 k4 k5
            go_wp2_with fail
            generalize wr = wa at *
            go_loopg [64] xs.length (fun g iv wr => ∃ q : Nat, q ≤ xs.length ∧ xs.length - q ≤ g ∧ iv = .int .i64 q ∧ wr = wa ∧ Aside (∀ k, k < q → O.list.getD k default = xs.getD k default))
            case atStart => exact ⟨0, Nat.zero_le _, by omega, rfl, rfl, fun k hk => by omega⟩
            case round =>
              obtain ⟨q, hq, hgq, rfl, rfl, EQ⟩ := hrel
              by_cases hql : q < xs.length
              · have hqi : (q : Int) < xs.length := by omega
                obtain ⟨b2, o2, e2, v2⟩ := XE.out q hql
                subst e2
                obtain ⟨b3, o3, e3, v3⟩ := GE.out q (by omega)
                subst e3
                by_cases hv : O.list.getD q default = xs.getD q default
                · rw [hv] at v3
                  have EN : Hid (∀ k, k < q + 1 → O.list.getD k default = xs.getD k default) := fun k hk => by
                    by_cases hkq : k < q
                    · exact EQ.out k hkq
                    · obtain rfl : k = q := by omega
                      exact hv
                  clear hv
                  go_wp2_with fail
                  go_roundg (xs.length - (q + 1))
                  · exact ⟨q + 1, by omega, by omega, by go_num, rfl, EN.out⟩
                  · omega
                · have RR : Hid (rightL l O i = false) := right_no (d := 0) RI.out (by rw [HD.out]; omega) (fun c e => e HD.out) q hql (by rw [Nat.zero_add]; exact hv)
                  have hvb : (O.list.getD q default == xs.getD q default) = false := by simpa using hv
                  generalize O.list.getD q default = x1 at *
                  generalize xs.getD q default = x2 at *
                  go_wp2_with fail
                  go_ret
                  exact ⟨by rw [RR.out]; rfl, BX.out⟩
              · have hqi : ¬ (q : Int) < xs.length := by omega
                have RR : Hid (rightL l O i = true) := right_yes (d := 0) RI.out (by rw [HD.out]; omega) (fun c e => e HD.out) (fun k hk => by rw [Nat.zero_add]; exact EQ.out k (by omega))
                go_wp2_with fail
                go_ret
                exact ⟨by rw [RR.out]; rfl, BX.out⟩
        · cases kn with
          | true =>
            have hnb : ((O.list.length : Int) != (xs.length : Int)) = true := by simp; omega
            have hnp : ¬ (O.list.length : Int) = xs.length := by omega
            have RR : Hid (rightL l O i = false) := by show _ = _; unfold rightL; rw [RI.out]; exact if_pos (.inr ⟨rfl, heq⟩)
            clear k0 k1 k2 k3 k4 k5
            go_wp2_with fail
            go_ret
            exact ⟨by rw [RR.out]; rfl, BX.out⟩
            
          | false =>
            obtain ⟨d, hd⟩ : ∃ d, O.list.length = d + xs.length := ⟨O.list.length - xs.length, by omega⟩
            have HD := hid hd
            rw [hd] at z3 GE
            have GLd : ((d + xs.length : Nat) : Int) ≤ 17592186044416 := by omega
            have DLi : (d : Int) ≤ 17592186044416 := by omega
            clear heq hlt hlti
            have hlti : ¬ ((d + xs.length : Nat) : Int) < xs.length := by omega
            clear hd k0 k1 k2 k3 k4 k5
            go_wp2_with fail
            generalize wr = wa at *
            go_loopg [64] xs.length (fun g iv wr => ∃ q : Nat, q ≤ xs.length ∧ xs.length - q ≤ g ∧ iv = .int .i64 q ∧ wr = wa ∧ Aside (∀ k, k < q → O.list.getD (d + k) default = xs.getD k default))
            case atStart => exact ⟨0, Nat.zero_le _, by omega, rfl, rfl, fun k hk => by omega⟩
            case round =>
              obtain ⟨q, hq, hgq, rfl, rfl, EQ⟩ := hrel
              by_cases hql : q < xs.length
              · have hqi : (q : Int) < xs.length := by omega
                have hqd : ((d + q : Nat) : Int) < ((d + xs.length : Nat) : Int) := by omega
                obtain ⟨b2, o2, e2, v2⟩ := XE.out q hql
                subst e2
                obtain ⟨b3, o3, e3, v3⟩ := GE.out (d + q) (by omega)
                subst e3
                by_cases hv : O.list.getD (d + q) default = xs.getD q default
                · rw [hv] at v3
                  have EN : Hid (∀ k, k < q + 1 → O.list.getD (d + k) default = xs.getD k default) := fun k hk => by
                    by_cases hkq : k < q
                    · exact EQ.out k hkq
                    · obtain rfl : k = q := by omega
                      exact hv
                  clear hv
                  go_wp2_with fail
                  go_roundg (xs.length - (q + 1))
                  · exact ⟨q + 1, by omega, by omega, by go_num, rfl, EN.out⟩
                  · omega
                · have RR : Hid (rightL l O i = false) := right_no RI.out HD.out (fun c e => by cases c) q hql hv
                  have hvb : (O.list.getD (d + q) default == xs.getD q default) = false := by simpa using hv
                  generalize O.list.getD (d + q) default = x1 at *
                  generalize xs.getD q default = x2 at *
                  go_wp2_with fail
                  go_ret
                  exact ⟨by rw [RR.out]; rfl, BX.out⟩
              · have hqi : ¬ (q : Int) < xs.length := by omega
                have RR : Hid (rightL l O i = true) := right_yes RI.out HD.out (fun c e => by cases c) (fun k hk => EQ.out k (by omega))
                go_wp2_with fail
                go_ret
                exact ⟨by rw [RR.out]; rfl, BX.out⟩
end Go.Proofs.Ytadlnkaphkbfdaa
