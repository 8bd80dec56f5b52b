/-
  The document's Find.
-/
import Derived.Test.YtdihbeffomibeaaGreatDoorY21
namespace Go.Proofs.YtdihbeffomibeaaGreatDoor
set_option linter.unusedVariables false
set_option linter.unusedSimpArgs false
open Go.RowKit Go.Lib

theorem edge_at {B : Nat} {w : World} {u : Value} {l : List (Nat × Nat × Nat)} (h : EdgesIn B w u l) (j : Nat) (hj : j < l.length) : ∃ g c, u = .slice (some ⟨g, 0, none⟩) l.length c ∧ g < w.heap.size ∧ w.cell? ⟨g, j * 3, none⟩ = some (.int .i64 (l.getD j (0, 0, 0)).1) ∧ w.cell? ⟨g, j * 3 + 1, none⟩ = some (.int .i64 (l.getD j (0, 0, 0)).2.1) ∧ w.cell? ⟨g, j * 3 + 2, none⟩ = some (.int .i64 (l.getD j (0, 0, 0)).2.2) := by
  rcases h.2 with ⟨_, hn⟩ | ⟨g, cap, cur, hv, hB, hh, h1, h2, h3, h4⟩
  · omega
  · have key : ∀ i, i < 3 → w.cell? ⟨g, j * 3 + i, none⟩ = (edgeV (l.getD j (0, 0, 0)))[i]? := fun i hi => by
      have e1 : (edgesV l)[j * 3 + i]? = ((l.map edgeV).getD j [])[i]? := by
        unfold edgesV
        rw [List.flatMap_def]
        exact flatten_get 3 (l.map edgeV) j i (fun r hr => by obtain ⟨x, _, rfl⟩ := List.mem_map.1 hr; rfl) (by simpa using hj) hi
      have e2 : (l.map edgeV).getD j [] = edgeV (l.getD j (0, 0, 0)) := by simp [List.getD, hj]
      rw [e2] at e1
      have e3 : cur.toList[j * 3 + i]? = (cur.toList.take (l.length * 3))[j * 3 + i]? := by rw [List.getElem?_take, if_pos (by omega)]
      rw [Lib.cell_of_heap hh, ← Array.getElem?_toList, e3, h4, e1]
    exact ⟨g, cap, hv, blt hh, key 0 (by decide), key 1 (by decide), key 2 (by decide)⟩
theorem wantN_cl {c : Int} : wantN c = 0 ↔ ¬ isCl c := by
  unfold wantN isCl
  constructor
  · intro h
    rintro (rfl | rfl | rfl | rfl) <;> simp at h
  · intro h
    have h8 : c ≠ 8 := fun e => h (.inl e)
    have h9 : c ≠ 9 := fun e => h (.inr (.inl e))
    have h10 : c ≠ 10 := fun e => h (.inr (.inr (.inl e)))
    have h11 : c ≠ 11 := fun e => h (.inr (.inr (.inr e)))
    simp [h8, h9, h10, h11]

set_option maxHeartbeats 16000000 in
set_option maxRecDepth 100000 in
theorem rcfind_is (N : Int) (ao : Option Addr) (cp m : Nat) (f : Nat → MW) (c : Int) (real : Bool) (w : World) (hl : Lw w ao m f) (hm : m ≤ 60) :
    Calls Tryz.prog 9 #[.int .i64 N, .slice ao m cp, .int .i64 c, .bool real] w fun e w' => FindCPost f m N c real w e w' := by
  have HL := hid hl
  have RW := hid (rwants_is c real w)
  have hmi : (m : Int) ≤ 60 := by omega
  have B0 := hid (Below.refl w.heap.size w)
  clear hl
  have hwl := wantN_lt c
  have hol := othN_lt c real
  have WL := hid hwl
  have OL := hid hol
  obtain ⟨want, hwant⟩ : ∃ want, wantN c = want := ⟨_, rfl⟩
  obtain ⟨oth, hoth⟩ : ∃ oth, othN c real = oth := ⟨_, rfl⟩
  rw [hwant] at WL RW
  rw [hoth] at OL RW
  have HW := hid hwant
  have HO := hid hoth
  clear hwl hol hwant hoth
  go_enter Tryz.func9, Tryz.ntmps9
  go_wp2_with fail
  go_at_call 23
  refine RW.out.mono ?_
  rintro e w' ⟨rfl, rfl⟩
  clear RW
  go_wp2_with fail
  go_loopg [13, 33] m (fun g _ i wr => ∃ k : Nat, k ≤ m ∧ m - k ≤ g ∧ i = .int .i64 k ∧ Aside (∀ j, j < k → one4 (f j).lab) ∧ Aside (Below w.heap.size w wr))
  case atStart => exact ⟨0, Nat.zero_le _, by omega, rfl, fun j hj => by omega, B0.out⟩
  case round =>
    clear B0
    obtain ⟨k, hk, hg, rfl, NX, BX⟩ := hrel
    by_cases hlt : k < m
    · have hlti : (k : Int) < m := by omega
      have hk0 : (0 : Int) ≤ k := by omega
      obtain ⟨b, o, rfl, hb, k0, k1, k2, k3, k4, k5, k6, k7⟩ := (HL.out.later BX.out).eight k hlt
      obtain ⟨⟨x0, x1, x2, x3, x4, x5, x6, x7⟩, hx⟩ : ∃ x, f k = x := ⟨_, rfl⟩
      rw [hx] at k0 k1 k2 k3 k4 k5 k6 k7
      simp only [MW.src, MW.dst, MW.lab, MW.key, MW.va, MW.vb, MW.nl, MW.cond] at k0 k1 k2 k3 k4 k5 k6 k7
      have HX := hid hx
      clear hx
      have BA : Hid (Below w.heap.size w (wr.alloc (.cells #[.int .i64 x0, .int .i64 x1, .int .i64 x2, .string x3, .int .i64 x4, .int .i64 x5, .bool x6, .bool x7] 25))) := BX.out.trans ((below_box wr _).mono BX.out.size)
      have RO := hid (fun W => rone_is x2 W)
      obtain ⟨t, ht⟩ : ∃ t, strB x2 = t := ⟨_, rfl⟩
      rw [ht] at RO
      have HT := hid ht
      clear ht
      cases t with
      | true =>
        have NB : Hid (Bars f m N c) := .inr (.inl ⟨k, hlt, by rw [HX.out]; exact (strB_iff x2).1 HT.out⟩)
        clear NX HT
        go_wp2_with fail
        go_at_call 24
        refine (RO.out _).mono ?_
        rintro e w' ⟨rfl, rfl⟩
        go_wp2_with fail
        exact bodyPost_ret (v := .tuple #[.slice none 0 0, .bool false]) (by simp [results, Tryz.results9, go_sem]) rfl (findC_none NB.out BA.out)
      | false =>
        have EX : Hid (∀ j, j < k + 1 → one4 (f j).lab) := fun j hj => by
          by_cases e : j = k
          · subst e
            rw [HX.out]
            exact Classical.byContradiction fun c => by have := (strB_iff x2).2 c; rw [HT.out] at this; cases this
          · exact NX.out j (by omega)
        clear NX HT
        go_wp2_with fail
        go_at_call 24
        refine (RO.out _).mono ?_
        rintro e w' ⟨rfl, rfl⟩
        clear k0 k1 k2 k3 k4 k5 k6 k7
        go_wp2_with fail
        go_roundg (m - (k + 1))
        case measure => omega
        case rel => exact ⟨k + 1, by omega, by omega, by go_num, EX.out, BA.out⟩
    · have hlti : ¬ (k : Int) < m := by omega
      obtain rfl : m = k := by omega
      have ON : Hid (∀ j, j < m → one4 (f j).lab) := NX.out
      clear NX
      by_cases hN : N < 0 ∨ 300 < N
      · have GN := hid (rdgraph_no N hN (.slice ao m cp) wr)
        have NB : Hid (Bars f m N c) := .inr (.inr (by rcases hN with h | h; exact .inl h; exact .inr (.inl h)))
        clear hN
        go_wp2_with fail
        go_at_call 14
        refine GN.out.mono ?_
        rintro e w4 ⟨rfl, b4⟩
        have B4 : Hid (Below w.heap.size w w4) := BX.out.trans (b4.mono BX.out.size)
        clear b4 GN
        go_wp2_with fail
        exact bodyPost_ret (v := .tuple #[.slice none 0 0, .bool false]) (by simp [results, Tryz.results9, go_sem]) rfl (findC_none NB.out B4.out)
      · obtain ⟨n, rfl⟩ : ∃ n : Nat, N = n := ⟨N.toNat, by omega⟩
        have hn : n ≤ 300 := by omega
        have DG := hid (rdgraph_is n hn ao cp m f wr (HL.out.later BX.out) (by omega))
        clear hN
        go_wp2_with fail
        go_at_call 14
        refine DG.out.mono ?_
        rintro e w4 ⟨hpost, b4⟩
        have B4 : Hid (Below w.heap.size w w4) := BX.out.trans (b4.mono BX.out.size)
        rcases hpost with ⟨why, ⟨j, hj, _, hne, hwy⟩, rfl⟩ | ⟨hall, b, v, rw', rfl, hgr, _⟩
        · have NB : Hid (Bars f m (n : Int) c) := .inr (.inr (.inr (.inr ⟨n, rfl, j, hj, hne⟩)))
          have y1 : (why != 0) = true := by rw [hwy]; simpa using hne
          have y2 : ¬ why = 0 := by rw [hwy]; exact hne
          clear hwy hne b4 DG
          go_wp2_with fail
          exact bodyPost_ret (v := .tuple #[.slice none 0 0, .bool false]) (by simp [results, Tryz.results9, go_sem]) rfl (findC_none NB.out B4.out)
        · have G4 := hid hgr
          have AL := hid hall
          clear b4 DG BX hgr hall
          by_cases hw0 : want = 0
          · subst hw0
            have NB : Hid (Bars f m (n : Int) c) := .inl (wantN_cl.1 HW.out)
            go_wp2_with fail
            exact bodyPost_ret (v := .tuple #[.slice none 0 0, .bool false]) (by simp [results, Tryz.results9, go_sem]) rfl (findC_none NB.out B4.out)
          · have hwz : ((want : Int) == 0) = false := by simpa using hw0
            have hwz2 : ¬ (want : Int) = 0 := by omega
            have HCL : Hid (isCl c) := Classical.byContradiction fun h => hw0 (HW.out.symm.trans (wantN_cl.2 h))
            have NBR : Hid (¬ Bars f m (n : Int) c) := by
              rintro (h | ⟨i, hi, h⟩ | h | h | ⟨n', e, i, hi, h⟩)
              · exact h HCL.out
              · exact h (ON.out i hi)
              · omega
              · omega
              · obtain rfl : n = n' := by omega
                exact h (AL.out i hi)
            have RE := hid (redges_is b n v rw' (gL f m) w4 G4.out)
            have h16 := hid (gL_16 f (fun _ => .inr trivial) m)
            have hoi : (oth : Int) < 16 := by have := OL.out; omega
            have hwi : (want : Int) < 16 := by have := WL.out; omega
            go_wp2_with fail
            go_at_call 25
            refine RE.out.mono ?_
            rintro e w5 ⟨⟨u, rfl, hu⟩, b5⟩
            have G5 := hid (G4.out.later b5)
            have B5 : Hid (Below w.heap.size w w5) := B4.out.trans (b5.mono B4.out.size)
            have U5 := hid hu
            have hal := allE_len (gL f m) n n
            have hnn : n * n ≤ 90000 := Nat.mul_le_mul hn hn
            have hali : ((allE (gL f m) n n).length : Int) ≤ 90000 := by omega
            obtain ⟨ua, uc, hue⟩ := own_form hu
            obtain ⟨hue, _⟩ := hue
            subst hue
            clear b5 RE hu G4 B4 hal hnn
            have C0 := hid (Below.refl w5.heap.size w5)
            go_wp2_with fail
            go_loopg [17, 18, 19, 20, 21, 22, 23, 24, 57] (allE (gL f m) n n).length (fun g _ _ _ _ _ _ _ _ i wr => ∃ j : Nat, j ≤ (allE (gL f m) n n).length ∧ (allE (gL f m) n n).length - j ≤ g ∧ i = .int .i64 j ∧ Aside (∀ i, i < j → edge (gL f m) (want : Int) ((allE (gL f m) n n).getD i (0, 0, 0)).1 ((allE (gL f m) n n).getD i (0, 0, 0)).2.1 = true → ∀ r, r ≠ [] → ¬ Wl (edge (gL f m) (oth : Int)) n ((allE (gL f m) n n).getD i (0, 0, 0)).2.1 r ((allE (gL f m) n n).getD i (0, 0, 0)).1) ∧ Aside (Below w5.heap.size w5 wr))
            case atStart => exact ⟨0, Nat.zero_le _, by omega, rfl, fun i hi => by omega, C0.out⟩
            case round =>
              clear C0
              obtain ⟨j, hj, hg, rfl, NX, BX⟩ := hrel
              by_cases hlt : j < (allE (gL f m) n n).length
              · have hlti : (j : Int) < (allE (gL f m) n n).length := by omega
                obtain ⟨eg, ec, heq, hegl, e0, e1, e2⟩ := edge_at U5.out j hlt
                injection heq with q1 q2 q3
                subst q1
                clear q2 q3
                have hm1 : (allE (gL f m) n n).getD j (0, 0, 0) ∈ allE (gL f m) n n := by simp [List.getD, hlt]
                obtain ⟨F, T, hF, hT, hne, hFT⟩ := (mem_allE (gL f m) n h16.out _).1 hm1
                rw [hFT] at e0 e1 e2
                simp only at e0 e1 e2
                have hbe := ends_and (gL f m) F T (want : Int) (h16.out F T)
                have HFT := hid hFT
                obtain ⟨X, hX⟩ : ∃ X, gL f m F T = X := ⟨_, rfl⟩
                rw [hX] at e2 hbe
                have HXX := hid hX
                have p0 : wr.cell? ⟨eg, j * 3, none⟩ = some (.int .i64 (F : Nat)) := (BX.out.cell (p := ⟨eg, j * 3, none⟩) hegl).trans e0
                have p1 : wr.cell? ⟨eg, j * 3 + 1, none⟩ = some (.int .i64 (T : Nat)) := (BX.out.cell (p := ⟨eg, j * 3 + 1, none⟩) hegl).trans e1
                have p2 : wr.cell? ⟨eg, j * 3 + 2, none⟩ = some (.int .i64 (X : Nat)) := (BX.out.cell (p := ⟨eg, j * 3 + 2, none⟩) hegl).trans e2
                have hez : eg < wr.heap.size := Nat.lt_of_lt_of_le hegl BX.out.size
                have hFi : (F : Int) < n := by omega
                have hTi : (T : Int) < n := by omega
                have HF := hid hF
                have HT := hid hT
                obtain ⟨W1, hW1⟩ : ∃ W1, wr.alloc (.cells #[.int .i64 (F : Nat), .int .i64 (T : Nat), .int .i64 (X : Nat)] 61) = W1 := ⟨_, rfl⟩
                obtain ⟨K, hK⟩ : ∃ K, wr.heap.size = K := ⟨_, rfl⟩
                have nw := fun i => new_cells wr #[.int .i64 (F : Nat), .int .i64 (T : Nat), .int .i64 (X : Nat)] 61 i
                rw [hW1, hK] at nw
                have n0 : W1.cell? ⟨K, 0, none⟩ = some (.int .i64 (F : Nat)) := nw 0
                have n1 : W1.cell? ⟨K, 1, none⟩ = some (.int .i64 (T : Nat)) := nw 1
                have n2 : W1.cell? ⟨K, 2, none⟩ = some (.int .i64 (X : Nat)) := nw 2
                have nz : K < W1.heap.size := by rw [← hW1, ← hK]; simp
                have C1 : Hid (Below w5.heap.size w5 W1) := by rw [← hW1]; exact BX.out.trans ((below_box wr _).mono BX.out.size)
                clear nw hX hFT hm1 hne e0 e1 e2 hF hT hegl BX
                cases hed : edge (gL f m) (want : Int) F T with
                | false =>
                  have hed2 : endsF (gL f m) F (want : Int) 4 T = false := hed
                  rw [hed2] at hbe
                  have NN : Hid (∀ i, i < j + 1 → edge (gL f m) (want : Int) ((allE (gL f m) n n).getD i (0, 0, 0)).1 ((allE (gL f m) n n).getD i (0, 0, 0)).2.1 = true → ∀ r, r ≠ [] → ¬ Wl (edge (gL f m) (oth : Int)) n ((allE (gL f m) n n).getD i (0, 0, 0)).2.1 r ((allE (gL f m) n n).getD i (0, 0, 0)).1) := fun i hi => by
                    by_cases e : i = j
                    · subst e
                      rw [HFT.out]
                      intro hc
                      rw [hed] at hc
                      cases hc
                    · exact NX.out i (by omega)
                  have hbe1 : (bits BinOp.and IntKind.i64 (X : Int) (want : Int) == 0) = true := by simpa using hbe
                  have hbe2 : bits BinOp.and IntKind.i64 (X : Int) (want : Int) = 0 := by simpa using hbe1
                  clear hed hed2 NX hbe hbe1
                  go_wp2_with fail
                  go_roundg ((allE (gL f m) n n).length - (j + 1))
                  case measure => omega
                  case rel => exact ⟨j + 1, by omega, by omega, by go_num, NN.out, C1.out⟩
                | true =>
                  have hed2 : endsF (gL f m) F (want : Int) 4 T = true := hed
                  rw [hed2] at hbe
                  have hbe1 : (bits BinOp.and IntKind.i64 (X : Int) (want : Int) == 0) = false := by simpa using hbe
                  have hbe2 : ¬ bits BinOp.and IntKind.i64 (X : Int) (want : Int) = 0 := by simpa using hbe1
                  have HED := hid hed
                  obtain ⟨l, hal, hcase⟩ := alike_ex (edge (gL f m) (oth : Int)) n T F HT.out HF.out
                  have RS := hid (rshortest_any b n v rw' (gL f m) (oth : Int) (T : Int) (F : Int) l W1 (G5.out.later C1.out) hal)
                  clear hed hed2 hbe hal
                  go_wp2_with fail
                  go_at_call 26
                  refine RS.out.mono ?_
                  rintro e w6 ⟨⟨pv, rfl, hp6⟩, b6⟩
                  have z0 : w6.cell? ⟨K, 0, none⟩ = some (.int .i64 (F : Nat)) := (b6.cell (p := ⟨K, 0, none⟩) nz).trans n0
                  have z1 : w6.cell? ⟨K, 1, none⟩ = some (.int .i64 (T : Nat)) := (b6.cell (p := ⟨K, 1, none⟩) nz).trans n1
                  have zz : K < w6.heap.size := Nat.lt_of_lt_of_le nz b6.size
                  have C6 : Hid (Below w5.heap.size w5 w6) := C1.out.trans (b6.mono C1.out.size)
                  rcases hcase with ⟨rfl, hno⟩ | ⟨q, rfl, hbest, hql⟩
                  · have NN : Hid (∀ i, i < j + 1 → edge (gL f m) (want : Int) ((allE (gL f m) n n).getD i (0, 0, 0)).1 ((allE (gL f m) n n).getD i (0, 0, 0)).2.1 = true → ∀ r, r ≠ [] → ¬ Wl (edge (gL f m) (oth : Int)) n ((allE (gL f m) n n).getD i (0, 0, 0)).2.1 r ((allE (gL f m) n n).getD i (0, 0, 0)).1) := fun i hi => by
                      by_cases e : i = j
                      · subst e
                        rw [HFT.out]
                        exact fun _ => hno
                      · exact NX.out i (by omega)
                    obtain ⟨pa, pcc, hpe⟩ := hp6.form
                    rw [List.length_nil] at hpe
                    subst hpe
                    clear NX hno hp6 b6 RS n0 n1 n2 nz hW1 hK C1 p0 p1 p2 hbe1 hbe2
                    go_wp2_with fail
                    go_roundg ((allE (gL f m) n n).length - (j + 1))
                    case measure => omega
                    case rel => exact ⟨j + 1, by omega, by omega, by go_num, NN.out, C6.out⟩
                  · have FST := hid (fst_of_place h16.out WL.out hlt HFT.out HF.out HT.out HED.out ⟨q, hbest.1, hbest.2.1⟩ NX.out)
                    have HBE := hid hbest
                    have HQL := hid hql
                    obtain ⟨pa, pc, hpe, hA⟩ := hp6.arg
                    have hlen : (List.map (fun x : Nat => (x : Int)) (T :: q)).length = q.length + 1 := by simp
                    obtain ⟨pg, po, hpa, hc0⟩ := hA 0 (by rw [hlen]; omega)
                    subst hpa
                    rw [hlen] at hpe
                    have HAT : Hid (∀ i, i < q.length + 1 → w6.cell? ⟨pg, po + i, none⟩ = some (.int .i64 (ndC F T q (i + 1) : Nat))) := fun i hi => by
                      obtain ⟨pg', po', e, hc⟩ := hA i (by rw [hlen]; exact hi)
                      injection e with e
                      injection e with e1 e2
                      subst e1 e2
                      rw [hc, nat_getD (T :: q) i (by simpa using hi)]
                      simp [ndC]
                    have pgl : pg < w6.heap.size := World.block_lt_of_cell? _ _ hc0
                    have hpc : q.length + 1 ≤ pc := by
                      obtain ⟨a9, c9, e9, h9⟩ := own_form hp6
                      rw [hpe] at e9
                      injection e9 with s1 s2 s3
                      rw [List.length_cons] at h9
                      omega
                    subst hpe
                    have L6 := hid (HL.out.later (B5.out.trans (C6.out.mono B5.out.size)))
                    have G6 := hid (G5.out.later C6.out)
                    have RF := hid (rfind_is ao cp m f (F : Nat) (T : Nat) (want : Nat) w6 L6.out (by omega))
                    have PGL := hid pgl
                    have hqi : (q.length : Int) ≤ 300 := by omega
                    have hpci : (q.length : Int) + 1 ≤ pc := by omega
                    have hq0 : ¬ (q.length : Int) + 1 = 0 := by omega
                    have hq1 : ((q.length : Int) + 1 == 0) = false := by simp; omega
                    clear hp6 hA hc0 hlen pgl hpc hbest hql NX b6 RS n0 n1 n2 nz hW1 hK C1 p0 p1 p2 hbe1 hbe2
                    go_wp2_with fail
                    go_at_call 27
                    refine RF.out.mono ?_
                    rintro e w7 ⟨x, okx, rfl, hfx, b7⟩
                    have FX := hid hfx
                    obtain ⟨x0, x1, x2, x3, x4, x5, x6, x7⟩ := x
                    rw [toArr]
                    obtain ⟨W8, hW8⟩ : ∃ W8, w7.alloc (.cells #[.int .i64 x0, .int .i64 x1, .int .i64 x2, .string x3, .int .i64 x4, .int .i64 x5, .bool x6, .bool x7] 25) = W8 := ⟨_, rfl⟩
                    obtain ⟨K7, hK7⟩ : ∃ K7, w7.heap.size = K7 := ⟨_, rfl⟩
                    obtain ⟨W9, hW9⟩ : ∃ W9, W8.alloc (.cells #[.int .i64 x0, .int .i64 x1, .int .i64 x2, .string x3, .int .i64 x4, .int .i64 x5, .bool x6, .bool x7] 25) = W9 := ⟨_, rfl⟩
                    have B7 : Hid (Below w6.heap.size w6 W9) := by
                      rw [← hW9, ← hW8]
                      have q1 : Below w6.heap.size w6 (w7.alloc (.cells #[.int .i64 x0, .int .i64 x1, .int .i64 x2, .string x3, .int .i64 x4, .int .i64 x5, .bool x6, .bool x7] 25)) := b7.trans ((below_box w7 _).mono b7.size)
                      exact q1.trans ((below_box _ _).mono q1.size)
                    have hz8 : W8.heap.size = K7 + 1 := by rw [← hW8, ← hK7]; simp
                    have O9 : Hid (W9.ownsRow w6.heap.size 25 8 (.slice (some ⟨K7 + 1, 0, none⟩) 1 1) 1 (rowsW (fun _ => (x0, x1, x2, x3, x4, x5, x6, x7)) 1).flatten) := by
                      rw [← hW9, ← hz8]
                      refine own_low (owns_one W8 x0 x1 x2 x3 x4 x5 x6 x7) ?_
                      have := b7.size
                      omega
                    have P0 : Hid (PartC f m (gL f m) want oth F T q 1 (fun _ => (x0, x1, x2, x3, x4, x5, x6, x7))) := fun i hi => by
                      obtain rfl : i = 0 := by omega
                      exact ⟨okx, by simpa [ndC, labC] using FX.out⟩
                    have ne := fun i => new_cells w7 #[.int .i64 x0, .int .i64 x1, .int .i64 x2, .string x3, .int .i64 x4, .int .i64 x5, .bool x6, .bool x7] 25 i
                    rw [hW8, hK7] at ne
                    have f0 : W8.cell? ⟨K7, 0, none⟩ = some (.int .i64 x0) := ne 0
                    have f1 : W8.cell? ⟨K7, 1, none⟩ = some (.int .i64 x1) := ne 1
                    have f2 : W8.cell? ⟨K7, 2, none⟩ = some (.int .i64 x2) := ne 2
                    have f3 : W8.cell? ⟨K7, 3, none⟩ = some (.string x3) := ne 3
                    have f4 : W8.cell? ⟨K7, 4, none⟩ = some (.int .i64 x4) := ne 4
                    have f5 : W8.cell? ⟨K7, 5, none⟩ = some (.int .i64 x5) := ne 5
                    have f6 : W8.cell? ⟨K7, 6, none⟩ = some (.bool x6) := ne 6
                    have f7 : W8.cell? ⟨K7, 7, none⟩ = some (.bool x7) := ne 7
                    have fz : K7 < W8.heap.size := by omega
                    clear ne FX b7 RF hfx
                    go_wp2_with fail
                    clear hW8 hW9 hK7 hz8 f0 f1 f2 f3 f4 f5 f6 f7 fz z0 z1 zz
                    go_loopg [21, 22, 23, 24] (q.length + 1) (fun g2 cv iv _ _ wq => ∃ (k : Nat) (G : Nat → MW), k ≤ q.length ∧ q.length - k ≤ g2 ∧ iv = .int .i64 k ∧ Aside (wq.ownsRow w6.heap.size 25 8 cv (k + 1) (rowsW G (k + 1)).flatten) ∧ Aside (PartC f m (gL f m) want oth F T q (k + 1) G) ∧ Aside (Below w6.heap.size w6 wq))
                    case atStart => exact ⟨0, fun _ => (x0, x1, x2, x3, x4, x5, x6, x7), Nat.zero_le _, by omega, rfl, O9.out, P0.out, B7.out⟩
                    case round =>
                      clear O9 P0 B7
                      obtain ⟨k, G, hk, hg2, rfl, OX, PX, BX⟩ := hrel
                      obtain ⟨ca, cc, hcv⟩ := own_form OX.out
                      obtain ⟨hcv, hkc⟩ := hcv
                      subst hcv
                      have hki : (k : Int) ≤ 300 := by omega
                      have hk0 : (0 : Int) ≤ k := by omega
                      by_cases hkl : k < q.length
                      · have hkli : (k : Int) + 1 < (q.length : Int) + 1 := by omega
                        have p0 : wr.cell? ⟨pg, po + k, none⟩ = some (.int .i64 (ndC F T q (k + 1) : Nat)) := (BX.out.cell (p := ⟨pg, po + k, none⟩) PGL.out).trans (HAT.out k (by omega))
                        have p1 : wr.cell? ⟨pg, po + (k + 1), none⟩ = some (.int .i64 (ndC F T q (k + 1 + 1) : Nat)) := (BX.out.cell (p := ⟨pg, po + (k + 1), none⟩) PGL.out).trans (HAT.out (k + 1) (by omega))
                        have hnl := ndC_lt FST.out HBE.out (k + 1) (by omega)
                        have hnl2 := ndC_lt FST.out HBE.out (k + 1 + 1) (by omega)
                        have GLA := hid (fun V (hV : Below wr.heap.size wr V) => rlabels_ok b n v rw' (gL f m) (ndC F T q (k + 1)) (ndC F T q (k + 1 + 1)) V (G6.out.later (BX.out.trans (hV.mono BX.out.size))) hnl hnl2)
                        obtain ⟨na, hna⟩ : ∃ na, ndC F T q (k + 1) = na := ⟨_, rfl⟩
                        obtain ⟨nb, hnb⟩ : ∃ nb, ndC F T q (k + 1 + 1) = nb := ⟨_, rfl⟩
                        rw [hna] at p0 GLA
                        rw [hnb] at p1 GLA
                        have HNA := hid hna
                        have HNB := hid hnb
                        obtain ⟨lb, hlb⟩ : ∃ lb, gL f m na nb = lb := ⟨_, rfl⟩
                        have hl16 : lb < 16 := by rw [← hlb]; exact h16.out na nb
                        rw [hlb] at GLA
                        have HLB := hid hlb
                        have ha16 := and_16 lb hl16 oth OL.out
                        obtain ⟨lo, hlo⟩ : ∃ lo, lb &&& oth = lo := ⟨_, rfl⟩
                        rw [hlo] at ha16
                        have hlo16 : lo < 16 := by rw [← hlo]; exact Nat.lt_of_le_of_lt Nat.and_le_left hl16
                        have RL := hid (fun V => rleast_is lo hlo16 V)
                        have HLO := hid hlo
                        clear hna hnb hlb hlo hnl hnl2
                        have hloi : (lo : Int) < 16 := by omega
                        have hlbi : (lb : Int) < 16 := by omega
                        have wk : IntKind.i64.wrap ((k : Int) + 1) = (k : Int) + 1 := by
                          rw [IntKind.wrap_i64]
                          omega
                        have ix0 : ¬ (q.length : Int) + 1 ≤ (k : Int) := by omega
                        have ix1 : ¬ (q.length : Int) + 1 ≤ (k : Int) + 1 := by omega
                        have kp : (0 : Int) ≤ (k : Int) + 1 := by omega
                        have ix2 : ¬ q.length ≤ k := by omega
                        go_upto_region 22 with fail
                        refine wp_region_gen2 Tryz.mixedOrders (by kernel_rfl) (fun val => { tmps := #[_, _, _, _, _, _, _, _, _, _, _, _, _, _, _, _, _, _, _, _, _, _, _, val 28, val 30, _, _, _, _, _, _, _, _, _, _, _, _, _, _, _, _, _, _, _, _, _, _, _, _, _, _, _, _, _, _, _, _, _, _, _, _, _, _, _, _, _, _, _, _, _, _, _, _, _, _, _, _, _, _, _, _, _, _, _, _, _, _, _, _, _, _, _, _, _, _, val 25, val 0, val 1, val 2, val 3, val 4, val 5, val 6, val 7, val 8, val 9, val 10, val 11, val 12, val 13, val 14, val 15, val 16, val 17, val 18, val 19, val 20, val 21, val 22, val 23, val 24, val 26, val 27, _, _, _, _, _, _], defers := [] }) (fun i => match i with | 0 => u96 | 1 => u97 | 2 => u98 | 3 => u99 | 4 => u100 | 5 => u101 | 6 => u102 | 7 => u103 | 8 => u104 | 9 => u105 | 10 => u106 | 11 => u107 | 12 => u108 | 13 => u109 | 14 => u110 | 15 => u111 | 16 => u112 | 17 => u113 | 18 => u114 | 19 => u115 | 20 => u116 | 21 => u117 | 22 => u118 | 23 => u119 | 24 => u120 | 25 => u95 | 26 => u121 | 27 => u122 | 28 => u23 | 29 => undef | 30 => u24 | _ => undef) rfl (fun L V => Below wr.heap.size wr V) (fun L i y V => match i with | 0 => y = .slice ao m cp | 1 => y = .slice (some ⟨pg, po, none⟩) (q.length + 1) pc | 2 => y = .int .i64 (k : Int) | 3 => y = .pointer (some ⟨pg, po + k, none⟩) | 4 => y = .int .i64 (na : Nat) | 5 => y = .slice (some ⟨pg, po, none⟩) (q.length + 1) pc | 6 => y = .int .i64 (k : Int) | 7 => y = .int .i64 ((k : Int) + 1) | 8 => y = .pointer (some ⟨pg, po + (k + 1), none⟩) | 9 => y = .int .i64 (nb : Nat) | 10 => y = .pointer (some ⟨b, 0, none⟩) | 11 => y = .slice (some ⟨pg, po, none⟩) (q.length + 1) pc | 12 => y = .int .i64 (k : Int) | 13 => y = .pointer (some ⟨pg, po + k, none⟩) | 14 => y = .int .i64 (na : Nat) | 15 => y = .slice (some ⟨pg, po, none⟩) (q.length + 1) pc | 16 => y = .int .i64 (k : Int) | 17 => y = .int .i64 ((k : Int) + 1) | 18 => y = .pointer (some ⟨pg, po + (k + 1), none⟩) | 19 => y = .int .i64 (nb : Nat) | 20 => y = .int .i64 (lb : Nat) | 21 => y = .int .i64 (oth : Nat) | 22 => y = .int .i64 (lo : Nat) | 23 => y = .int .i64 (lowb lo : Nat) | 24 => ∃ x ok, y = .tuple #[.agg (encW x).toArray, .bool ok] ∧ IsFind f m (na : Nat) (nb : Nat) (lowb lo : Nat) x ok | 25 => ∃ x ok, y = .tuple #[.agg (encW x).toArray, .bool ok] ∧ IsFind f m (na : Nat) (nb : Nat) (lowb lo : Nat) x ok | 26 => ∃ x ok, y = .agg (encW x).toArray ∧ IsFind f m (na : Nat) (nb : Nat) (lowb lo : Nat) x ok | 27 => ∃ ok : Bool, y = .bool ok | 28 => ∃ p, y = .pointer (some ⟨p, 0, none⟩) ∧ wr.heap.size ≤ p ∧ (L 29 = false → ∃ x0, Bw V p x0) ∧ (L 29 = true → ∃ x ok, IsFind f m (na : Nat) (nb : Nat) (lowb lo : Nat) x ok ∧ Bw V p x) | 29 => True | 30 => ∃ ok : Bool, y = .bool ok | _ => True) (Below.refl _ _).drew _ rfl ⟨?_, ?_, ?_, ?_, ?_, ?_, ?_, ?_, ?_, ?_, ?_, ?_, ?_, ?_, ?_, ?_, ?_, ?_, ?_, ?_, ?_, ?_, ?_, ?_, ?_, ?_, ?_, ?_, ?_, ?_, ?_, trivial⟩ ?_
                        · refine gen_plain2 rfl (fun _ _ => rfl) (fun L val V hc hi hu hg hd => ?_)
                          refine gdoes2_value (v := .slice ao m cp) ?_ rfl hg (fun j hj hr => hr)
                          simp [execOp, Act.eval, go_sem]
                        · refine gen_plain2 rfl (fun _ _ => rfl) (fun L val V hc hi hu hg hd => ?_)
                          refine gdoes2_value (v := .slice (some ⟨pg, po, none⟩) (q.length + 1) pc) ?_ rfl hg (fun j hj hr => hr)
                          simp [execOp, Act.eval, go_sem]
                        · refine gen_plain2 rfl (fun _ _ => rfl) (fun L val V hc hi hu hg hd => ?_)
                          refine gdoes2_value (v := .int .i64 (k : Int)) ?_ rfl hg (fun j hj hr => hr)
                          simp [execOp, Act.eval, go_sem]
                        · refine gen_plain2 rfl (fun _ _ => rfl) (fun L val V hc hi hu hg hd => ?_)
                          have h1 : val 1 = .slice (some ⟨pg, po, none⟩) (q.length + 1) pc := depsG_get hd 1 (by kernel_rfl)
                          have h2 : val 2 = .int .i64 (k : Int) := depsG_get hd 2 (by kernel_rfl)
                          refine gdoes2_value (v := .pointer (some ⟨pg, po + k, none⟩)) ?_ rfl hg (fun j hj hr => hr)
                          simp [execOp, Act.eval, go_sem, h1, h2, ix0]
                        · refine gen_plain2 rfl (fun _ _ => rfl) (fun L val V hc hi hu hg hd => ?_)
                          have h3 : val 3 = .pointer (some ⟨pg, po + k, none⟩) := depsG_get hd 3 (by kernel_rfl)
                          have e2 : V.cell? ⟨pg, po + k, none⟩ = some (.int .i64 (na : Nat)) := (hg.cell (p := ⟨pg, po + k, none⟩) (Nat.lt_of_lt_of_le PGL.out BX.out.size)).trans p0
                          refine gdoes2_value (v := .int .i64 (na : Nat)) ?_ rfl hg (fun j hj hr => hr)
                          simp [execOp, Act.eval, go_sem, h3, e2]
                        · refine gen_plain2 rfl (fun _ _ => rfl) (fun L val V hc hi hu hg hd => ?_)
                          refine gdoes2_value (v := .slice (some ⟨pg, po, none⟩) (q.length + 1) pc) ?_ rfl hg (fun j hj hr => hr)
                          simp [execOp, Act.eval, go_sem]
                        · refine gen_plain2 rfl (fun _ _ => rfl) (fun L val V hc hi hu hg hd => ?_)
                          refine gdoes2_value (v := .int .i64 (k : Int)) ?_ rfl hg (fun j hj hr => hr)
                          simp [execOp, Act.eval, go_sem]
                        · refine gen_plain2 rfl (fun _ _ => rfl) (fun L val V hc hi hu hg hd => ?_)
                          have h6 : val 6 = .int .i64 (k : Int) := depsG_get hd 6 (by kernel_rfl)
                          refine gdoes2_value (v := .int .i64 ((k : Int) + 1)) ?_ rfl hg (fun j hj hr => hr)
                          simp [execOp, Act.eval, go_sem, h6, wk]
                        · refine gen_plain2 rfl (fun _ _ => rfl) (fun L val V hc hi hu hg hd => ?_)
                          have h5 : val 5 = .slice (some ⟨pg, po, none⟩) (q.length + 1) pc := depsG_get hd 5 (by kernel_rfl)
                          have h7 : val 7 = .int .i64 ((k : Int) + 1) := depsG_get hd 7 (by kernel_rfl)
                          refine gdoes2_value (v := .pointer (some ⟨pg, po + (k + 1), none⟩)) ?_ rfl hg (fun j hj hr => hr)
                          simp [execOp, Act.eval, go_sem, h5, h7, kp, ix1, ix2]
                        · refine gen_plain2 rfl (fun _ _ => rfl) (fun L val V hc hi hu hg hd => ?_)
                          have h8 : val 8 = .pointer (some ⟨pg, po + (k + 1), none⟩) := depsG_get hd 8 (by kernel_rfl)
                          have e2 : V.cell? ⟨pg, po + (k + 1), none⟩ = some (.int .i64 (nb : Nat)) := (hg.cell (p := ⟨pg, po + (k + 1), none⟩) (Nat.lt_of_lt_of_le PGL.out BX.out.size)).trans p1
                          refine gdoes2_value (v := .int .i64 (nb : Nat)) ?_ rfl hg (fun j hj hr => hr)
                          simp [execOp, Act.eval, go_sem, h8, e2]
                        · refine gen_plain2 rfl (fun _ _ => rfl) (fun L val V hc hi hu hg hd => ?_)
                          refine gdoes2_value (v := .pointer (some ⟨b, 0, none⟩)) ?_ rfl hg (fun j hj hr => hr)
                          simp [execOp, Act.eval, go_sem]
                        · refine gen_plain2 rfl (fun _ _ => rfl) (fun L val V hc hi hu hg hd => ?_)
                          refine gdoes2_value (v := .slice (some ⟨pg, po, none⟩) (q.length + 1) pc) ?_ rfl hg (fun j hj hr => hr)
                          simp [execOp, Act.eval, go_sem]
                        · refine gen_plain2 rfl (fun _ _ => rfl) (fun L val V hc hi hu hg hd => ?_)
                          refine gdoes2_value (v := .int .i64 (k : Int)) ?_ rfl hg (fun j hj hr => hr)
                          simp [execOp, Act.eval, go_sem]
                        · refine gen_plain2 rfl (fun _ _ => rfl) (fun L val V hc hi hu hg hd => ?_)
                          have h11 : val 11 = .slice (some ⟨pg, po, none⟩) (q.length + 1) pc := depsG_get hd 11 (by kernel_rfl)
                          have h12 : val 12 = .int .i64 (k : Int) := depsG_get hd 12 (by kernel_rfl)
                          refine gdoes2_value (v := .pointer (some ⟨pg, po + k, none⟩)) ?_ rfl hg (fun j hj hr => hr)
                          simp [execOp, Act.eval, go_sem, h11, h12, ix0]
                        · refine gen_plain2 rfl (fun _ _ => rfl) (fun L val V hc hi hu hg hd => ?_)
                          have h13 : val 13 = .pointer (some ⟨pg, po + k, none⟩) := depsG_get hd 13 (by kernel_rfl)
                          have e2 : V.cell? ⟨pg, po + k, none⟩ = some (.int .i64 (na : Nat)) := (hg.cell (p := ⟨pg, po + k, none⟩) (Nat.lt_of_lt_of_le PGL.out BX.out.size)).trans p0
                          refine gdoes2_value (v := .int .i64 (na : Nat)) ?_ rfl hg (fun j hj hr => hr)
                          simp [execOp, Act.eval, go_sem, h13, e2]
                        · refine gen_plain2 rfl (fun _ _ => rfl) (fun L val V hc hi hu hg hd => ?_)
                          refine gdoes2_value (v := .slice (some ⟨pg, po, none⟩) (q.length + 1) pc) ?_ rfl hg (fun j hj hr => hr)
                          simp [execOp, Act.eval, go_sem]
                        · refine gen_plain2 rfl (fun _ _ => rfl) (fun L val V hc hi hu hg hd => ?_)
                          refine gdoes2_value (v := .int .i64 (k : Int)) ?_ rfl hg (fun j hj hr => hr)
                          simp [execOp, Act.eval, go_sem]
                        · refine gen_plain2 rfl (fun _ _ => rfl) (fun L val V hc hi hu hg hd => ?_)
                          have h16 : val 16 = .int .i64 (k : Int) := depsG_get hd 16 (by kernel_rfl)
                          refine gdoes2_value (v := .int .i64 ((k : Int) + 1)) ?_ rfl hg (fun j hj hr => hr)
                          simp [execOp, Act.eval, go_sem, h16, wk]
                        · refine gen_plain2 rfl (fun _ _ => rfl) (fun L val V hc hi hu hg hd => ?_)
                          have h15 : val 15 = .slice (some ⟨pg, po, none⟩) (q.length + 1) pc := depsG_get hd 15 (by kernel_rfl)
                          have h17 : val 17 = .int .i64 ((k : Int) + 1) := depsG_get hd 17 (by kernel_rfl)
                          refine gdoes2_value (v := .pointer (some ⟨pg, po + (k + 1), none⟩)) ?_ rfl hg (fun j hj hr => hr)
                          simp [execOp, Act.eval, go_sem, h15, h17, kp, ix1, ix2]
                        · refine gen_plain2 rfl (fun _ _ => rfl) (fun L val V hc hi hu hg hd => ?_)
                          have h18 : val 18 = .pointer (some ⟨pg, po + (k + 1), none⟩) := depsG_get hd 18 (by kernel_rfl)
                          have e2 : V.cell? ⟨pg, po + (k + 1), none⟩ = some (.int .i64 (nb : Nat)) := (hg.cell (p := ⟨pg, po + (k + 1), none⟩) (Nat.lt_of_lt_of_le PGL.out BX.out.size)).trans p1
                          refine gdoes2_value (v := .int .i64 (nb : Nat)) ?_ rfl hg (fun j hj hr => hr)
                          simp [execOp, Act.eval, go_sem, h18, e2]
                        · refine gen_plain2 rfl (fun _ _ => rfl) (fun L val V hc hi hu hg hd => ?_)
                          have h10 : val 10 = .pointer (some ⟨b, 0, none⟩) := depsG_get hd 10 (by kernel_rfl)
                          have h14 : val 14 = .int .i64 (na : Nat) := depsG_get hd 14 (by kernel_rfl)
                          have h19 : val 19 = .int .i64 (nb : Nat) := depsG_get hd 19 (by kernel_rfl)
                          refine gdoes2_call (f := 29) (args := #[.pointer (some ⟨b, 0, none⟩), .int .i64 (na : Nat), .int .i64 (nb : Nat)]) ?_ (GLA.out V hg) ?_
                          · simp [execOp, Act.eval, go_sem, resolve, invoke, h10, h14, h19]
                          · rintro e w' ⟨rfl, rfl⟩
                            exact ⟨_, rfl, rfl, hg, fun j hj hr => hr⟩
                        · refine gen_plain2 rfl (fun _ _ => rfl) (fun L val V hc hi hu hg hd => ?_)
                          refine gdoes2_value (v := .int .i64 (oth : Nat)) ?_ rfl hg (fun j hj hr => hr)
                          simp [execOp, Act.eval, go_sem]
                        · refine gen_plain2 rfl (fun _ _ => rfl) (fun L val V hc hi hu hg hd => ?_)
                          have h20 : val 20 = .int .i64 (lb : Nat) := depsG_get hd 20 (by kernel_rfl)
                          have h21 : val 21 = .int .i64 (oth : Nat) := depsG_get hd 21 (by kernel_rfl)
                          refine gdoes2_value (v := .int .i64 (lo : Nat)) ?_ rfl hg (fun j hj hr => hr)
                          simp [execOp, Act.eval, go_sem, h20, h21, ha16]
                        · refine gen_plain2 rfl (fun _ _ => rfl) (fun L val V hc hi hu hg hd => ?_)
                          have h22 : val 22 = .int .i64 (lo : Nat) := depsG_get hd 22 (by kernel_rfl)
                          refine gdoes2_call (f := 28) (args := #[.int .i64 (lo : Nat)]) ?_ (RL.out V) ?_
                          · simp [execOp, Act.eval, go_sem, resolve, invoke, h22]
                          · rintro e w' ⟨rfl, rfl⟩
                            exact ⟨_, rfl, rfl, hg, fun j hj hr => hr⟩
                        · refine gen_plain2 rfl (fun _ _ => rfl) (fun L val V hc hi hu hg hd => ?_)
                          have h0 : val 0 = .slice ao m cp := depsG_get hd 0 (by kernel_rfl)
                          have h4 : val 4 = .int .i64 (na : Nat) := depsG_get hd 4 (by kernel_rfl)
                          have h9 : val 9 = .int .i64 (nb : Nat) := depsG_get hd 9 (by kernel_rfl)
                          have h23 : val 23 = .int .i64 (lowb lo : Nat) := depsG_get hd 23 (by kernel_rfl)
                          refine gdoes2_call (f := 27) (args := #[.slice ao m cp, .int .i64 (na : Nat), .int .i64 (nb : Nat), .int .i64 (lowb lo : Nat)]) ?_ (rfind_is ao cp m f (na : Nat) (nb : Nat) (lowb lo : Nat) V (L6.out.later (BX.out.trans (hg.mono BX.out.size))) (by omega)) ?_
                          · simp [execOp, Act.eval, go_sem, resolve, invoke, h0, h4, h9, h23]
                          · rintro e w' ⟨x, ok, rfl, hx, hb3⟩
                            have hbv : Below V.heap.size V w' := hb3
                            refine ⟨_, rfl, ⟨x, ok, rfl, hx⟩, hg.trans (hb3.mono hg.size), fun j hj hr => ?_⟩
                            match j, hj, hr with
                            | 0, hj, hr => exact hr
                            | 1, hj, hr => exact hr
                            | 2, hj, hr => exact hr
                            | 3, hj, hr => exact hr
                            | 4, hj, hr => exact hr
                            | 5, hj, hr => exact hr
                            | 6, hj, hr => exact hr
                            | 7, hj, hr => exact hr
                            | 8, hj, hr => exact hr
                            | 9, hj, hr => exact hr
                            | 10, hj, hr => exact hr
                            | 11, hj, hr => exact hr
                            | 12, hj, hr => exact hr
                            | 13, hj, hr => exact hr
                            | 14, hj, hr => exact hr
                            | 15, hj, hr => exact hr
                            | 16, hj, hr => exact hr
                            | 17, hj, hr => exact hr
                            | 18, hj, hr => exact hr
                            | 19, hj, hr => exact hr
                            | 20, hj, hr => exact hr
                            | 21, hj, hr => exact hr
                            | 22, hj, hr => exact hr
                            | 23, hj, hr => exact hr
                            | 24, hj, hr => exact hr
                            | 25, hj, hr => exact hr
                            | 26, hj, hr => exact hr
                            | 27, hj, hr => exact hr
                            | 28, hj, hr => exact (let ⟨p, e, hp, h1, h2⟩ := hr; ⟨p, e, hp, fun c => (let ⟨x0, hx⟩ := h1 c; ⟨x0, hx.later hbv⟩), fun c => (let ⟨x, ok, hf, hx⟩ := h2 c; ⟨x, ok, hf, hx.later hbv⟩)⟩)
                            | 29, hj, hr => exact hr
                            | 30, hj, hr => exact hr
                            | _ + 31, hj, hr => trivial
                        · refine gen_plain2 rfl (fun _ _ => rfl) (fun L val V hc hi hu hg hd => ?_)
                          obtain ⟨x, ok, h9, hx⟩ := depsG_get hd 24 (by kernel_rfl)
                          refine gdoes2_value (v := .tuple #[.agg (encW x).toArray, .bool ok]) ?_ ⟨x, ok, rfl, hx⟩ hg (fun j hj hr => hr)
                          simp [execOp, Act.eval, go_sem, h9]
                        · refine gen_plain2 rfl (fun _ _ => rfl) (fun L val V hc hi hu hg hd => ?_)
                          obtain ⟨x, ok, h9, hx⟩ := depsG_get hd 25 (by kernel_rfl)
                          refine gdoes2_value (v := .agg (encW x).toArray) ?_ ⟨x, ok, rfl, hx⟩ hg (fun j hj hr => hr)
                          simp [execOp, Act.eval, go_sem, h9]
                        · refine gen_plain2 rfl (fun _ _ => rfl) (fun L val V hc hi hu hg hd => ?_)
                          obtain ⟨x, ok, h9, hx⟩ := depsG_get hd 25 (by kernel_rfl)
                          refine gdoes2_value (v := .bool ok) ?_ ⟨ok, rfl⟩ hg (fun j hj hr => hr)
                          simp [execOp, Act.eval, go_sem, h9]
                        · refine gen_plain2 rfl (fun _ _ => rfl) (fun L val V hc hi hu hg hd => ?_)
                          have h29 : L 29 = false := wants_back hc 31 29 28 (by kernel_rfl) hi
                          have hbv : Below V.heap.size V (V.alloc (.cells #[.int .i64 0, .int .i64 0, .int .i64 0, .string ⟨#[]⟩, .int .i64 0, .int .i64 0, .bool false, .bool false] 25)) := below_box V _
                          refine gdoes2_turn (v := .pointer (some ⟨V.heap.size, 0, none⟩)) (w' := V.alloc (.cells #[.int .i64 0, .int .i64 0, .int .i64 0, .string ⟨#[]⟩, .int .i64 0, .int .i64 0, .bool false, .bool false] 25)) ?_ ⟨V.heap.size, rfl, hg.size, fun _ => ⟨_, Bw.made V 0 0 0 ⟨#[]⟩ 0 0 false false 25⟩, fun c => (by rw [show upB L 28 29 = L 29 from rfl, h29] at c; cases c)⟩ (hg.trans (hbv.mono hg.size)) (fun j hj hr => ?_)
                          · simp [execOp, Act.eval, go_sem, Tryz.infoW]
                          · match j, hj, hr with
                            | 0, hj, hr => exact hr
                            | 1, hj, hr => exact hr
                            | 2, hj, hr => exact hr
                            | 3, hj, hr => exact hr
                            | 4, hj, hr => exact hr
                            | 5, hj, hr => exact hr
                            | 6, hj, hr => exact hr
                            | 7, hj, hr => exact hr
                            | 8, hj, hr => exact hr
                            | 9, hj, hr => exact hr
                            | 10, hj, hr => exact hr
                            | 11, hj, hr => exact hr
                            | 12, hj, hr => exact hr
                            | 13, hj, hr => exact hr
                            | 14, hj, hr => exact hr
                            | 15, hj, hr => exact hr
                            | 16, hj, hr => exact hr
                            | 17, hj, hr => exact hr
                            | 18, hj, hr => exact hr
                            | 19, hj, hr => exact hr
                            | 20, hj, hr => exact hr
                            | 21, hj, hr => exact hr
                            | 22, hj, hr => exact hr
                            | 23, hj, hr => exact hr
                            | 24, hj, hr => exact hr
                            | 25, hj, hr => exact hr
                            | 26, hj, hr => exact hr
                            | 27, hj, hr => exact hr
                            | 28, hj, hr => rw [hi] at hj; cases hj
                            | 29, hj, hr => exact hr
                            | 30, hj, hr => exact hr
                            | _ + 31, hj, hr => trivial
                        · refine gen_plain2 rfl (fun _ _ => rfl) (fun L val V hc hi hu hg hd => ?_)
                          obtain ⟨x, ok, h11, hx⟩ := depsG_get hd 26 (by kernel_rfl)
                          obtain ⟨p, h13, hp, h1, h2⟩ := depsG_get hd 28 (by kernel_rfl)
                          obtain ⟨x0, hbw⟩ := h1 hi
                          refine gdoes2_skip (w' := V.setCells p 0 (encW x)) ?_ trivial (below_put p hp _ _ _ hg) (fun j hj hr => ?_)
                          · obtain ⟨y0, y1, y2, y3, y4, y5, y6, y7⟩ := x
                            obtain ⟨z0, z1, z2, z3, z4, z5, z6, z7⟩ := hbw.eight
                            have fr := hbw.2.1
                            simp only [MW.src, MW.dst, MW.lab, MW.key, MW.va, MW.vb, MW.nl, MW.cond] at z0 z1 z2 z3 z4 z5 z6 z7
                            simp [execOp, Act.eval, go_sem, h11, h13, encW, fr, z0, z1, z2, z3, z4, z5, z6, z7]
                            rfl
                          · match j, hj, hr with
                            | 0, hj, hr => exact hr
                            | 1, hj, hr => exact hr
                            | 2, hj, hr => exact hr
                            | 3, hj, hr => exact hr
                            | 4, hj, hr => exact hr
                            | 5, hj, hr => exact hr
                            | 6, hj, hr => exact hr
                            | 7, hj, hr => exact hr
                            | 8, hj, hr => exact hr
                            | 9, hj, hr => exact hr
                            | 10, hj, hr => exact hr
                            | 11, hj, hr => exact hr
                            | 12, hj, hr => exact hr
                            | 13, hj, hr => exact hr
                            | 14, hj, hr => exact hr
                            | 15, hj, hr => exact hr
                            | 16, hj, hr => exact hr
                            | 17, hj, hr => exact hr
                            | 18, hj, hr => exact hr
                            | 19, hj, hr => exact hr
                            | 20, hj, hr => exact hr
                            | 21, hj, hr => exact hr
                            | 22, hj, hr => exact hr
                            | 23, hj, hr => exact hr
                            | 24, hj, hr => exact hr
                            | 25, hj, hr => exact hr
                            | 26, hj, hr => exact hr
                            | 27, hj, hr => exact hr
                            | 28, hj, hr => exact ⟨p, h13, hp, fun c => (by rw [show upB L 29 29 = true from upB_self L 29] at c; cases c), fun _ => ⟨x, ok, hx, hbw.put x⟩⟩
                            | 29, hj, hr => exact hr
                            | 30, hj, hr => exact hr
                            | _ + 31, hj, hr => trivial
                        · refine gen_plain2 rfl (fun _ _ => rfl) (fun L val V hc hi hu hg hd => ?_)
                          obtain ⟨ok, h12⟩ := depsG_get hd 27 (by kernel_rfl)
                          refine gdoes2_value (v := .bool ok) ?_ ⟨ok, rfl⟩ hg (fun j hj hr => hr)
                          simp [execOp, Act.eval, go_sem, h12]
                        intro L2 val2 V hL hg hR
                        obtain ⟨p2, hv28, hp2, _, hx2⟩ := hR 28 (by decide)
                        obtain ⟨x, okx, hfx, hbx⟩ := hx2 (hL 29 (by decide))
                        have BV := hid hg
                        have BXX := hid hbx
                        have FX := hid hfx
                        clear hR hx2 hbx hfx hg hp2 p0 p1 wk ix0 ix1 ix2 kp ha16 hlo16 hl16
                        dsimp only
                        rw [hv28]
                        obtain ⟨y0, y1, y2, y3, y4, y5, y6, y7⟩ := x
                        obtain ⟨d0, d1, d2, d3, d4, d5, d6, d7⟩ := BXX.out.eight
                        simp only [MW.src, MW.dst, MW.lab, MW.key, MW.va, MW.vb, MW.nl, MW.cond] at d0 d1 d2 d3 d4 d5 d6 d7
                        generalize val2 30 = y30
                        have dz : p2 < V.heap.size := BXX.out.1
                        have OV : Hid ((V.alloc (.cells #[.int .i64 y0, .int .i64 y1, .int .i64 y2, .string y3, .int .i64 y4, .int .i64 y5, .bool y6, .bool y7] 25)).ownsRow w6.heap.size 25 8 (.slice ca (k + 1) cc) (k + 1) (rowsW G (k + 1)).flatten) := own_gro (own_gro OX.out (Gro.of_below (P := fun _ => False) BV.out) (fun _ _ h => h)) (Gro.of_below (P := fun _ => False) (below_box V _)) (fun _ _ h => h)
                        have B8 : Hid (Below w6.heap.size w6 (V.alloc (.cells #[.int .i64 y0, .int .i64 y1, .int .i64 y2, .string y3, .int .i64 y4, .int .i64 y5, .bool y6, .bool y7] 25))) := by
                          have q1 := BX.out.trans (BV.out.mono BX.out.size)
                          exact q1.trans ((below_box V _).mono q1.size)
                        have LX : Hid (Lw (V.alloc (.cells #[.int .i64 y0, .int .i64 y1, .int .i64 y2, .string y3, .int .i64 y4, .int .i64 y5, .bool y6, .bool y7] 25)) (some ⟨V.heap.size, 0, none⟩) 1 (fun _ => (y0, y1, y2, y3, y4, y5, y6, y7))) := lw_one (Bw.made V y0 y1 y2 y3 y4 y5 y6 y7 25)
                        have PN : Hid (PartC f m (gL f m) want oth F T q (k + 1 + 1) (fun i => if i < k + 1 then G i else (y0, y1, y2, y3, y4, y5, y6, y7))) := fun i hi => by
                          by_cases h1 : i < k + 1
                          · obtain ⟨ok, h2⟩ := PX.out i h1
                            exact ⟨ok, by simpa [h1] using h2⟩
                          · obtain rfl : i = k + 1 := by omega
                            refine ⟨okx, ?_⟩
                            have e : labC (gL f m) want oth F T q (k + 1) = lowb lo := by
                              unfold labC
                              rw [if_neg (by omega), HNA.out, HNB.out, HLB.out, HLO.out]
                            rw [e, HNA.out, HNB.out]
                            simpa using FX.out
                        have HKL := hid hkl
                        clear hL hv28 BXX FX BV OX PX hkl
                        go_wp2_with (at_builtin; refine wpList_append_why _ rfl _ _ rfl w6.heap.size (.slice ca (k + 1) cc) (k + 1) (rowsW G (k + 1)).flatten rfl OV.out _ 1 1 (fun _ => (y0, y1, y2, y3, y4, y5, y6, y7)) rfl LX.out (by intro h; cases h) (by omega) B8.out.size ?_)
                        intro v8 w8 hown hgro
                        rw [rowsW_snoc] at hown
                        have O8 : Hid (w8.ownsRow w6.heap.size 25 8 v8 (k + 1 + 1) (rowsW (fun i => if i < k + 1 then G i else (y0, y1, y2, y3, y4, y5, y6, y7)) (k + 1 + 1)).flatten) := hown
                        have B9 : Hid (Below w6.heap.size w6 w8) := B8.out.trans ((gro_of_grown hgro).below w6.heap.size (fun k' hk' => (own_tag OV.out hk').1) B8.out.size)
                        clear hown hgro OV B8 LX
                        go_wp2_with fail
                        go_roundg (q.length - (k + 1))
                        case measure => have := HKL.out; omega
                        case rel => exact ⟨k + 1, fun i => if i < k + 1 then G i else (y0, y1, y2, y3, y4, y5, y6, y7), by have := HKL.out; omega, by omega, by go_num, O8.out, PN.out, B9.out⟩
                      · have hkli : ¬ (k : Int) + 1 < (q.length : Int) + 1 := by omega
                        obtain rfl : q.length = k := by omega
                        have BW9 : Below w.heap.size w wr := by
                          have q1 := B5.out.trans (C6.out.mono B5.out.size)
                          exact q1.trans (BX.out.mono q1.size)
                        have FP : Hid (FindCPost f m (n : Int) c real w (.returned (.tuple #[.slice ca (q.length + 1) cc, .bool true])) wr) := ⟨⟨_, q.length + 1, G, true, rfl, .inr ⟨NBR.out, n, rfl, hn, .inl ⟨rfl, F, T, q, by rw [HW.out, HO.out]; exact FST.out, by rw [HO.out]; exact HBE.out, HQL.out, rfl, by rw [HW.out, HO.out]; exact PX.out⟩⟩, own_low OX.out (B5.out.trans (C6.out.mono B5.out.size)).size⟩, BW9⟩
                        clear OX PX BX BW9
                        go_wp2_with fail
                        exact bodyPost_ret (v := .tuple #[.slice ca (q.length + 1) cc, .bool true]) (by simp [results, Tryz.results9, go_sem]) rfl FP.out
              · have hlti : ¬ (j : Int) < (allE (gL f m) n n).length := by omega
                have NC := hid (noC_of_places (o := oth) h16.out WL.out (fun i hi => NX.out i (by omega)))
                have FP : Hid (FindCPost f m (n : Int) c real w (.returned (.tuple #[.slice none 0 0, .bool false])) wr) := ⟨⟨_, 0, fun _ => MW.zero, false, rfl, .inr ⟨NBR.out, n, rfl, hn, .inr ⟨rfl, rfl, by rw [HW.out, HO.out]; exact NC.out⟩⟩, World.ownsRow_nil _ _ _ _⟩, B5.out.trans (BX.out.mono B5.out.size)⟩
                clear NX
                go_wp2_with fail
                exact bodyPost_ret (v := .tuple #[.slice none 0 0, .bool false]) (by simp [results, Tryz.results9, go_sem]) rfl FP.out
end Go.Proofs.YtdihbeffomibeaaGreatDoor
