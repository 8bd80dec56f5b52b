/-
  The law DepsGraph, where there is no graph.
-/
import Derived.Test.YtbcegdiabnapkabDoorD7
import Derived.Test.YtbcegdiabnapkabDoorI2
import Derived.BigRegion
namespace Go.Proofs.YtbcegdiabnapkabDoor
set_option linter.unusedVariables false
set_option linter.unusedSimpArgs false
open Go.RowKit

theorem gL_small (f : Nat → MW) : ∀ k F T, gL f k F T < 16
  | 0, _, _ => by show 0 < 16; omega
  | k + 1, F, T => by
    have ih := gL_small f k F T
    show addL (gL f k) _ _ _ 4 F T < 16
    unfold addL
    split
    · exact Nat.or_lt_two_pow (n := 4) ih (by unfold low; exact Nat.mod_lt _ (by decide))
    · exact ih
theorem i64_or (a b : Nat) (ha : a < 16) (hb : b < 16) : bits .or .i64 (a : Int) (b : Int) = ((a ||| b : Nat) : Int) := by
  have : ∀ a : Fin 16, ∀ b : Fin 16, bits .or .i64 ((a : Nat) : Int) ((b : Nat) : Int) = ((a.val ||| b.val : Nat) : Int) := by decide +kernel
  exact this ⟨a, ha⟩ ⟨b, hb⟩

theorem ed_at (L : Nat → Nat → Nat) (n i : Nat) (hi : i < (ed L n).length) : ∃ F T : Nat, F < n ∧ T < n ∧ (ed L n).getD i (0, 0, 0) = ((F : Int), (T : Int), (L F T : Int)) := by
  have hm : (ed L n).getD i (0, 0, 0) ∈ ed L n := by simp [List.getD, hi]
  unfold ed at hm
  obtain ⟨e, he, h2⟩ := List.mem_map.1 hm
  unfold allE at he
  obtain ⟨F, hF, h3⟩ := List.mem_flatMap.1 he
  unfold rowE at h3
  obtain ⟨T, hT, rfl⟩ := List.mem_map.1 h3
  unfold lst at hT
  exact ⟨F, T, List.mem_range.1 hF, List.mem_range.1 (List.mem_filter.1 hT).1, h2.symm⟩

set_option maxHeartbeats 8000000 in
set_option maxRecDepth 100000 in
theorem dglaw_is (n : Nat) (hn : n ≤ 300) (ao : Option Addr) (c len : Nat) (f : Nat → MW) (w : World) (hl : Lw w ao len f) (hlen : len ≤ maxLen) (hT : Tab w) : Calls Tryd.prog 3 #[.int .i64 n, .slice ao len c] w fun e w' => e = .returned (.bool true) ∧ Below w.heap.size w w' := by
  have L0 := hid hl
  have T0 := hid hT
  have HLN := hid hlen
  unfold maxLen at hlen
  have hleni : (len : Int) ≤ 9223372036854775807 := by omega
  clear hl hT
  go_enter Tryd.func3, Tryd.ntmps3
  go_wp2_with fail
  go_at_call 4
  refine (dgraph_is n hn ao c len f w L0.out (by omega)).mono ?_
  rintro e w1 ⟨h1, b1⟩
  have B1 := hid b1
  clear b1
  rcases h1 with ⟨why, hr, rfl⟩ | ⟨ho, b, r, bk, ck, rfl, hG, hb, hck⟩
  · have HR := hid hr
    clear hr
    go_wp2_with fail
    go_at_call 5
    refine (rdgraph_is n hn ao c len f w1 (L0.out.later B1.out) (by omega)).mono ?_
    rintro e w2 ⟨h2, b2⟩
    have B2 := hid (B1.out.trans (b2.mono B1.out.size))
    clear b2
    rcases h2 with ⟨why', hr', rfl⟩ | ⟨ho, -⟩
    · obtain ⟨e1, e2⟩ := hr'.one HR.out
      subst e1
      clear hr' HR
      have q1 : (why' == why') = true := by simp
      go_wp2_with fail
      go_ret
      exact ⟨rfl, B2.out⟩
    · exact absurd (HR.out.not_ok ho) id
  · have HO := hid ho
    have G1 := hid hG
    have LB := hid hb
    have LC := hid hck
    clear ho hG hb hck
    go_wp2_with fail
    go_at_call 5
    refine (rdgraph_is n hn ao c len f w1 (L0.out.later B1.out) (by omega)).mono ?_
    rintro e w2 ⟨h2, b2⟩
    have B2 := hid (B1.out.trans (b2.mono B1.out.size))
    have G2 := hid (G1.out.later b2)
    clear b2
    rcases h2 with ⟨why', hr', -⟩ | ⟨-, b2, v2, rw2, rfl, hR, hb2, hrw⟩
    · exact absurd (hr'.not_ok HO.out) id
    · have R2 := hid hR
      clear hR hb2 hrw G1
      have M16 : Hid (∀ k F T, gL f k F T < 16) := fun k F T => gL_small f k F T
      have hmk : ∀ W : World, (Instr.makeMap 30 none).run Tryd.prog W = .ok (.map (some W.heap.size)) (W.alloc (.map #[] 0)) := fun W => run_makeMap 30 W
      go_wp2_with fail
      have M0 := hid (ML.made w2)
      have A0 := hid ((Below.refl w2.heap.size w2).alloc (Nat.le_refl _) (.map #[] 0))
      clear hmk
      generalize w2.alloc (.map #[] 0) = w3 at *
      obtain ⟨mb, hmb⟩ : ∃ mb, w2.heap.size = mb := ⟨_, rfl⟩
      rw [hmb] at M0 A0 ⊢
      have HMB := hid hmb
      clear hmb
      go_loopg [11, 41] len (fun g _ i wr => ∃ (j : Nat) (l : List (Nat × Nat)), j ≤ len ∧ len - j ≤ g ∧ i = .int .i64 j ∧ Aside (Below mb w2 wr) ∧ Aside (ML wr mb j l (gL f j)) ∧ Aside (l.Nodup ∧ ∀ p, p ∈ l ↔ p.1 < n ∧ p.2 < n ∧ gL f j p.1 p.2 ≠ 0))
      case atStart => exact ⟨0, [], Nat.zero_le _, by omega, rfl, A0.out, M0.out, (⟨List.nodup_nil, fun p => ⟨fun h => (by cases h), fun h => absurd rfl h.2.2⟩⟩ : _ ∧ _)⟩
      case round =>
        clear A0 M0
        obtain ⟨j, l, hj, hg, rfl, BY, MX, KX⟩ := hrel
        have BX := hid (B2.out.trans ((show Below w2.heap.size w2 wr by rw [HMB.out]; exact BY.out).mono B2.out.size))
        by_cases hjl : j < len
        · have hjli : (j : Int) < len := by omega
          obtain ⟨bz, oz, rfl, -, k0, k1, k2, k3, k4, k5, k6, k7⟩ := (L0.out.later BX.out).eight j hjl
          obtain ⟨F, T, X, e1, e2, e3, hF, hT, hX1, hX2, hne⟩ := why_zero (HO.out j hjl)
          rw [e1] at k0
          rw [e2] at k1
          rw [e3] at k2
          generalize (f j).key = xk at *
          generalize (f j).va = xa at *
          generalize (f j).vb = xb at *
          generalize (f j).nl = xn at *
          generalize (f j).cond = xc at *
          have hF3 : F ≤ 300 := by omega
          have hT3 : T ≤ 300 := by omega
          go_wp2_with fail
          have AL := hid (below_box wr (.cells #[.int .i64 F, .int .i64 T, .int .i64 X, .string xk, .int .i64 xa, .int .i64 xb, .bool xn, .bool xc] 32))
          have M2 := hid (MX.out.later AL.out)
          have BZ := hid (BY.out.trans (AL.out.mono (by have h1 := BY.out.size; have h2 := HMB.out; omega)))
          have K0 : (wr.alloc (.cells #[.int .i64 F, .int .i64 T, .int .i64 X, .string xk, .int .i64 xa, .int .i64 xb, .bool xn, .bool xc] 32)).cell? ⟨wr.heap.size, 0, none⟩ = some (.int .i64 F) := by simp
          have K1 : (wr.alloc (.cells #[.int .i64 F, .int .i64 T, .int .i64 X, .string xk, .int .i64 xa, .int .i64 xb, .bool xn, .bool xc] 32)).cell? ⟨wr.heap.size, 1, none⟩ = some (.int .i64 T) := by simp
          have K2 : (wr.alloc (.cells #[.int .i64 F, .int .i64 T, .int .i64 X, .string xk, .int .i64 xa, .int .i64 xb, .bool xn, .bool xc] 32)).cell? ⟨wr.heap.size, 2, none⟩ = some (.int .i64 X) := by simp
          clear k0 k1 k2 k3 k4 k5 k6 k7
          generalize wr.alloc (.cells #[.int .i64 F, .int .i64 T, .int .i64 X, .string xk, .int .i64 xa, .int .i64 xb, .bool xn, .bool xc] 32) = W at *
          generalize wr.heap.size = pb at *
          have hX16 : gL f j F T < 16 := M16.out j F T
          have hor16 : gL f j F T ||| X < 16 := Nat.or_lt_two_pow (n := 4) hX16 hX2
          obtain ⟨v0, st, W1, ME, LK1, ST⟩ := (show ML W.drew mb j l (gL f j) from M2.out.same rfl).entry (by have := HLN.out; omega) F T hF3 hT3
          obtain ⟨W3, ES, GR, ML3⟩ := ST (gL f j F T ||| X) (by omega)
          have LK0 : (Instr.lookup 30 (.map (some mb)) (kv F T) false).run Tryd.prog W.drew = .ok (.int .i64 (gL f j F T)) W.drew := (show ML W.drew mb j l (gL f j) from M2.out.same rfl).look F T hF3 hT3
          have hor : bits .or .i64 (gL f j F T : Int) (X : Int) = ((gL f j F T ||| X : Nat) : Int) := i64_or _ _ hX16 hX2
          unfold kv at ME LK0 LK1
          unfold goInt at ME ES
          have GRH := hid GR
          have ML3H := hid ML3
          clear GR ML3 ST
          go_region
          have EL : Hid (gL f (j + 1) = fun f' t' => if f' = F ∧ t' = T then gL f j F T ||| X else gL f j f' t') := by
            show addL (gL f j) (f j).src.toNat (f j).dst.toNat (f j).lab.toNat 4 = _
            rw [e1, e2, e3]
            funext f' t'
            unfold addL
            simp only [Int.toNat_natCast]
            by_cases e : f' = F ∧ t' = T
            · rw [if_pos e, if_pos e, e.1, e.2]
              congr 1
              exact Nat.mod_eq_of_lt hX2
            · rw [if_neg e, if_neg e]
          have ML4 : Hid (ML W3 mb (j + 1) (if (F, T) ∈ l then l else l ++ [(F, T)]) (gL f (j + 1))) := by
            show ML _ _ _ _ _
            rw [EL.out]
            exact ML3H.out
          have KX4 : Hid ((if (F, T) ∈ l then l else l ++ [(F, T)]).Nodup ∧ ∀ p, p ∈ (if (F, T) ∈ l then l else l ++ [(F, T)]) ↔ p.1 < n ∧ p.2 < n ∧ gL f (j + 1) p.1 p.2 ≠ 0) := by
            have hp : ∀ p : Nat × Nat, gL f (j + 1) p.1 p.2 ≠ 0 ↔ (p = (F, T) ∨ gL f j p.1 p.2 ≠ 0) := fun p => by
              rw [EL.out]
              dsimp only
              by_cases e : p.1 = F ∧ p.2 = T
              · rw [if_pos e]
                have hz : gL f j F T ||| X ≠ 0 := fun h0 => by
                  have : X ≤ gL f j F T ||| X := Nat.right_le_or
                  omega
                exact ⟨fun _ => .inl (Prod.ext e.1 e.2), fun _ => hz⟩
              · rw [if_neg e]
                exact ⟨.inr, fun h => h.elim (fun h => absurd ⟨congrArg Prod.fst h, congrArg Prod.snd h⟩ e) id⟩
            by_cases hm : (F, T) ∈ l
            · rw [if_pos hm]
              refine ⟨KX.out.1, fun p => ?_⟩
              rw [KX.out.2 p, hp p]
              constructor
              · rintro ⟨q1, q2, q3⟩
                exact ⟨q1, q2, .inr q3⟩
              · rintro ⟨q1, q2, q3 | q3⟩
                · rw [q3]; exact (KX.out.2 (F, T)).1 hm
                · exact ⟨q1, q2, q3⟩
            · rw [if_neg hm]
              refine ⟨List.nodup_append.2 ⟨KX.out.1, by simp, fun a ha b hb e => ?_⟩, fun p => ?_⟩
              · simp at hb
                rw [e, hb] at ha
                exact hm ha
              · rw [List.mem_append, KX.out.2 p, hp p]
                simp only [List.mem_singleton]
                constructor
                · rintro (⟨q1, q2, q3⟩ | q)
                  · exact ⟨q1, q2, .inr q3⟩
                  · rw [q]; exact ⟨hF, hT, .inl rfl⟩
                · rintro ⟨q1, q2, q3 | q3⟩
                  · exact .inr q3
                  · exact .inl ⟨q1, q2, q3⟩
          have BN : Hid (Below mb w2 W3) := BZ.out.drew.grown GRH.out (by have h1 := BZ.out.drew.size; have h2 := HMB.out; omega) (fun k hk => by injection hk with hk; omega)
          go_wp2_with fail
          go_roundg (len - (j + 1))
          case measure => omega
          case rel => exact ⟨j + 1, _, by omega, by omega, by go_num, BN.out, ML4.out, KX4.out⟩
        · have hjli : ¬ (j : Int) < len := by omega
          have hjn : j = len := by omega
          have BW2 : Below w2.heap.size w2 wr := by rw [HMB.out]; exact BY.out
          have ME := hid (show ML wr mb j l (gL f len) by have := MX.out; rw [hjn] at this ⊢; exact this)
          have KE : Hid (l.length = (ed (gL f len) n).length) := by
            show _ = _
            rw [keys_count (gL f len) n (gL_small f len) l KX.out.1 (fun p => by rw [← hjn]; exact KX.out.2 p)]
            unfold ed
            rw [List.length_map]
          have GE := hid (G2.out.later BW2)
          have RE := hid (R2.out.later BW2)
          have TE := hid (T0.out.later BX.out)
          have EM : Hid (∀ i, i < (ed (gL f len) n).length → ∃ F T : Nat, F < n ∧ T < n ∧ (ed (gL f len) n).getD i (0, 0, 0) = ((F : Int), (T : Int), (gL f len F T : Int))) := fun i hi => ed_at _ _ i hi
          have hEL := ed_len (gL f len) n hn
          clear hjn BW2 MX KX G2 R2 M16 HO L0 T0
          generalize gL f len = L at *
          obtain ⟨E, hE⟩ : ∃ E, (ed L n).length = E := ⟨_, rfl⟩
          have HE := hid hE
          go_wp2_with fail
          go_at_call 6
          refine (edges_ed b n r bk ck L wr GE.out TE.out).mono ?_
          rintro e w4 ⟨⟨a4, c4, rfl, h4⟩, b4⟩
          rw [hE] at hEL KE EM ⊢
          have A4 := hid h4
          have M4 := hid (ME.out.later b4)
          have G4 := hid (GE.out.later b4)
          have R4 := hid (RE.out.later b4)
          have T4 := hid (TE.out.later b4)
          have B4 := hid (BX.out.trans (b4.mono BX.out.size))
          clear h4 b4 ME GE RE TE BX BY hE
          go_wp2_with fail
          go_loopg [13, 61] E (fun g _ iv wr => ∃ i : Nat, i ≤ E ∧ E - i ≤ g ∧ iv = .int .i64 i ∧ Aside (Below w4.heap.size w4 wr))
          case atStart => exact ⟨0, Nat.zero_le _, by omega, rfl, Below.refl _ _⟩
          case round =>
            obtain ⟨i, hi, hgi, rfl, BY⟩ := hrel
            by_cases hil : i < E
            · have hili : (i : Int) < E := by omega
              obtain ⟨bz, oz, rfl, k1, k2, k3⟩ := (A4.out.later BY.out) i (by rw [HE.out]; exact hil)
              obtain ⟨F, T, hF, hT, eg⟩ := EM.out i hil
              rw [eg] at k1 k2 k3
              dsimp only at k1 k2 k3
              clear eg
              have AL := hid (below_box wr (.cells #[.int .i64 F, .int .i64 T, .int .i64 (L F T)] 37))
              have M5 := hid ((M4.out.later BY.out).later AL.out)
              have B5 := hid (BY.out.trans (AL.out.mono BY.out.size))
              have K0 : (wr.alloc (.cells #[.int .i64 F, .int .i64 T, .int .i64 (L F T)] 37)).cell? ⟨wr.heap.size, 0, none⟩ = some (.int .i64 F) := by simp
              have K1 : (wr.alloc (.cells #[.int .i64 F, .int .i64 T, .int .i64 (L F T)] 37)).cell? ⟨wr.heap.size, 1, none⟩ = some (.int .i64 T) := by simp
              have K2 : (wr.alloc (.cells #[.int .i64 F, .int .i64 T, .int .i64 (L F T)] 37)).cell? ⟨wr.heap.size, 2, none⟩ = some (.int .i64 (L F T)) := by simp
              go_wp2_with fail
              clear k1 k2 k3
              generalize wr.alloc (.cells #[.int .i64 F, .int .i64 T, .int .i64 (L F T)] 37) = W at *
              generalize wr.heap.size = pb at *
              have LK : ∀ q, (Instr.lookup 30 (.map (some mb)) (.agg #[.int .i64 (F : Int), .int .i64 (T : Int)]) false).run Tryd.prog (W.drewN q) = .ok (.int .i64 (L F T)) (W.drewN q) := fun q => (show ML (W.drewN q) mb j l L from M5.out.same rfl).look F T (by omega) (by omega)
              go_quiet (fail)
              go_wp2_with fail
              go_roundg (E - (i + 1))
              case measure => omega
              case rel => exact ⟨i + 1, by omega, by omega, by go_num, below_drewN B5.out _⟩
            · have hili : ¬ (i : Int) < E := by omega
              have G6 := hid (G4.out.later BY.out)
              have R6 := hid (R4.out.later BY.out)
              have T6 := hid (T4.out.later BY.out)
              have M6 := hid (M4.out.later BY.out)
              have B6 := hid (B4.out.trans (BY.out.mono B4.out.size))
              clear G4 R4 T4 M4 B4 BY A4 EM
              go_wp2_with fail
              go_at_call 6
              refine (edges_ed b n r bk ck L wr G6.out T6.out).mono ?_
              rintro e w7 ⟨⟨a7, c7, rfl, h7⟩, b7⟩
              have A7 := hid h7
              have G7 := hid (G6.out.later b7)
              have R7 := hid (R6.out.later b7)
              have M7 := hid (M6.out.later b7)
              have B7 := hid (B6.out.trans (b7.mono B6.out.size))
              clear h7 b7 G6 R6 T6 M6 B6
              go_wp2_with fail
              go_at_call 8
              refine (redges_ed b2 n v2 rw2 L w7 R7.out).mono ?_
              rintro e w8 ⟨⟨a8, c8, rfl, h8⟩, b8⟩
              have EQ := hid (equal_edges a7 a8 c7 c8 (ed L n) w8 (A7.out.later b8) h8 (by rw [HE.out]; exact hEL))
              have G8 := hid (G7.out.later b8)
              have R8 := hid (R7.out.later b8)
              have M8 := hid (M7.out.later b8)
              have B8 := hid (B7.out.trans (b8.mono B7.out.size))
              clear h8 b8 A7 G7 R7 M7 B7
              go_wp2_with fail
              go_at_call 7
              refine EQ.out.mono ?_
              rintro e w9 ⟨rfl, q, rfl⟩
              have D9 := hid (below_drewN (Below.refl w8.heap.size w8) q)
              have G9 := hid (G8.out.later D9.out)
              have R9 := hid (R8.out.later D9.out)
              have M9 := hid (M8.out.later D9.out)
              have B9 := hid (B8.out.trans (D9.out.mono B8.out.size))
              clear D9 G8 R8 M8 B8 EQ
              generalize w8.drewN q = w9 at *
              go_wp2_with fail
              go_at_call 8
              refine (redges_ed b2 n v2 rw2 L w9 R9.out).mono ?_
              rintro e w10 ⟨⟨a10, c10, rfl, -⟩, b10⟩
              rw [HE.out]
              have G10 := hid (G9.out.later b10)
              have B10 := hid (B9.out.trans (b10.mono B9.out.size))
              have LN : ∀ ty, (Builtin.len_ #[30] ty #[.map (some mb)]).run Tryd.prog w10 = .ok (.int .i64 E) w10 := fun ty => by
                have h := (M9.out.later b10).len ty
                rw [KE.out] at h
                exact h
              clear b10 G9 R9 M9 B9
              have NO := hid (nodes_is b n w10 G10.out.c0 G10.out.c1)
              have hEE : ((E : Int) == (E : Int)) = true := by simp
              have hNN : ((n : Int) == (n : Int)) = true := by simp
              go_wp2_with fail
              go_at_call 9
              refine NO.out.mono ?_
              rintro e w11 ⟨rfl, rfl⟩
              go_wp2_with fail
              go_ret
              exact ⟨rfl, B10.out⟩
end Go.Proofs.YtbcegdiabnapkabDoor
