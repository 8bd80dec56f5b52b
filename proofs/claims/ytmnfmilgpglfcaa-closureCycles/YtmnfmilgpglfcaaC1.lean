/-
  The law ClosureCycles.
-/
import Derived.Test.YtmnfmilgpglfcaaK9
namespace Go.Proofs.Ytmnfmilgpglfcaa
set_option linter.unusedVariables false
set_option linter.unusedSimpArgs false
open Go.RowKit

theorem psOf_mem (n : Nat) (l : List (Int × Int × Bool)) (p : Nat × Nat × Bool) : p ∈ psOf n l ↔ ∃ z ∈ l, inB n z.1 z.2.1 = true ∧ p = (z.1.toNat, z.2.1.toNat, z.2.2) := by
  induction l using listSnoc with
  | h0 => simp [psOf]
  | h1 l q ih =>
    rw [psOf_snoc]
    unfold addP
    split
    · next h =>
      rw [List.mem_append, ih]
      constructor
      · rintro (⟨z, h1, h2⟩ | h1)
        · exact ⟨z, List.mem_append_left _ h1, h2⟩
        · exact ⟨q, by simp, h, by simpa using h1⟩
      · rintro ⟨z, h1, h2, h3⟩
        rcases List.mem_append.1 h1 with h1 | h1
        · exact .inl ⟨z, h1, h2, h3⟩
        · have e : z = q := by simpa using h1
          subst e
          exact .inr (by simp [h3])
    · next h =>
      rw [ih]
      constructor
      · rintro ⟨z, h1, h2⟩
        exact ⟨z, List.mem_append_left _ h1, h2⟩
      · rintro ⟨z, h1, h2, h3⟩
        rcases List.mem_append.1 h1 with h1 | h1
        · exact ⟨z, h1, h2, h3⟩
        · have e : z = q := by simpa using h1
          subst e
          exact absurd h2 h
/-- What the two loops over the things know. -/
def RngI (R : Nat → Nat → Bool) (N k j : Nat) (t : Bool) : Prop := (t = true → cyc R N = true) ∧ ∀ a c, a < N → c < N → (a < k ∨ (a = k ∧ c < j)) → a ≠ c → R a c = true → R c a = true → t = true
theorem RngI.first (R : Nat → Nat → Bool) (N : Nat) : RngI R N 0 0 false := ⟨fun h => (by cases h), fun a c _ _ h => (by omega)⟩
theorem RngI.yes {R : Nat → Nat → Bool} {N k j k' j' : Nat} (h : RngI R N k j true) : RngI R N k' j' true := ⟨h.1, fun _ _ _ _ _ _ _ _ => rfl⟩
theorem RngI.no {R : Nat → Nat → Bool} {N k j : Nat} {t : Bool} (h : RngI R N k j t) (hn : ¬ (k ≠ j ∧ R k j = true ∧ R j k = true)) : RngI R N k (j + 1) t := by
  refine ⟨h.1, fun a c ha hc hd hne h1 h2 => ?_⟩
  by_cases e : a = k ∧ c = j
  · exfalso
    obtain ⟨rfl, rfl⟩ := e
    exact hn ⟨hne, h1, h2⟩
  · exact h.2 a c ha hc (by omega) hne h1 h2
theorem RngI.on {R : Nat → Nat → Bool} {N k j : Nat} {t : Bool} (h : RngI R N k j t) (hT : Tr R) (hk : k < N) (h1 : R k j = true) (h2 : R j k = true) : RngI R N k (j + 1) true :=
  ⟨fun _ => cyc_true hk (hT _ _ _ h1 h2), fun _ _ _ _ _ _ _ _ => rfl⟩
theorem RngI.row {R : Nat → Nat → Bool} {N k : Nat} {t : Bool} (h : RngI R N k N t) : RngI R N (k + 1) 0 t :=
  ⟨h.1, fun a c ha hc hd hne h1 h2 => h.2 a c ha hc (by omega) hne h1 h2⟩
/-- The same with the pairs that were looked at. -/
def RngL (R : Nat → Nat → Bool) (N : Nat) (zs : List (Int × Int × Bool)) (j : Nat) (t : Bool) : Prop := RngI R N N 0 t ∧ ∀ i, i < j → i < 100 → (zs.getD i (0, 0, false)).1 = (zs.getD i (0, 0, false)).2.1 → inB N (zs.getD i (0, 0, false)).1 (zs.getD i (0, 0, false)).2.1 = true → t = true
theorem RngL.yes {R : Nat → Nat → Bool} {N j j' : Nat} {zs : List (Int × Int × Bool)} (h : RngL R N zs j true) : RngL R N zs j' true := ⟨h.1.yes, fun _ _ _ _ _ => rfl⟩
theorem RngL.no {R : Nat → Nat → Bool} {N j : Nat} {t : Bool} {zs : List (Int × Int × Bool)} (h : RngL R N zs j t) (hn : ¬ (j < 100 ∧ (zs.getD j (0, 0, false)).1 = (zs.getD j (0, 0, false)).2.1 ∧ inB N (zs.getD j (0, 0, false)).1 (zs.getD j (0, 0, false)).2.1 = true)) : RngL R N zs (j + 1) t := by
  refine ⟨h.1, fun i hi h100 he hb => ?_⟩
  by_cases e : i = j
  · exfalso
    subst e
    exact hn ⟨h100, he, hb⟩
  · exact h.2 i (by omega) h100 he hb
theorem RngL.end' {N : Nat} {zs : List (Int × Int × Bool)} {t : Bool} (h : RngL (clR (sel false (psOf N (zs.take 100)))) N zs zs.length t) : t = cyc (clR (sel false (psOf N (zs.take 100)))) N := by
  rw [Bool.eq_iff_iff]
  refine ⟨h.1.1, fun hc => ?_⟩
  unfold cyc at hc
  rw [List.any_eq_true] at hc
  obtain ⟨a, ha, hr⟩ := hc
  have hlt : ∀ p ∈ sel false (psOf N (zs.take 100)), p.1 < N ∧ p.2 < N := sel_lt (fun p hp => by
    obtain ⟨z, _, hb, rfl⟩ := (psOf_mem N _ p).1 hp
    obtain ⟨X, Y, e1, e2, h1, h2⟩ := inB_nat hb
    simp only [e1, e2]
    exact ⟨by simpa using h1, by simpa using h2⟩)
  rcases clR_cyc hr with ⟨p, hp, he⟩ | ⟨i, j, hne, h1, h2⟩
  · unfold sel at hp
    obtain ⟨q, hq, rfl⟩ := List.mem_map.1 hp
    obtain ⟨z, hz, hb, rfl⟩ := (psOf_mem N _ q).1 (List.mem_filter.1 hq).1
    obtain ⟨k, hk, hkz⟩ := List.getElem_of_mem hz
    have hk2 : k < zs.length ∧ k < 100 := by rw [List.length_take] at hk; omega
    have eg : zs.getD k (0, 0, false) = z := by
      rw [List.getElem_take] at hkz
      simp [List.getD, hk2.1, hkz]
    obtain ⟨X, Y, e1, e2, h1, h2⟩ := inB_nat hb
    have he2 : z.1 = z.2.1 := by
      simp only [e1, e2] at he ⊢
      have : X = Y := by simpa using he
      omega
    exact h.2 k hk2.1 hk2.2 (by rw [eg]; exact he2) (by rw [eg]; exact hb)
  · obtain ⟨l1, l2⟩ := clR_lt hlt i j h1
    exact h.1.2 i j l1 l2 (.inl l1) hne h1 h2
theorem RngL.on {N j : Nat} {zs : List (Int × Int × Bool)} {t : Bool} (h : RngL (clR (sel false (psOf N (zs.take 100)))) N zs j t) (hj : j < zs.length) (h100 : j < 100) (he : (zs.getD j (0, 0, false)).1 = (zs.getD j (0, 0, false)).2.1) (hb : inB N (zs.getD j (0, 0, false)).1 (zs.getD j (0, 0, false)).2.1 = true) : RngL (clR (sel false (psOf N (zs.take 100)))) N zs (j + 1) true := by
  refine ⟨⟨fun _ => ?_, fun _ _ _ _ _ _ _ _ => rfl⟩, fun _ _ _ _ _ => rfl⟩
  obtain ⟨X, Y, e1, e2, h1, h2⟩ := inB_nat hb
  have hm : zs.getD j (0, 0, false) ∈ zs.take 100 := by
    have hl : j < (zs.take 100).length := by rw [List.length_take]; omega
    have e : (zs.take 100)[j] = zs.getD j (0, 0, false) := by rw [List.getElem_take]; simp [List.getD, hj]
    rw [← e]
    exact List.getElem_mem hl
  have hp := (psOf_mem N (zs.take 100) _).2 ⟨_, hm, hb, rfl⟩
  have hs := clR_has _ _ (sel_mem (t := false) hp (by simp))
  simp only [e1, e2] at hs
  have hxy : X = Y := by rw [e1, e2] at he; omega
  subst hxy
  exact cyc_true h1 (by simpa using hs)

theorem int_ne {a b : Int} (h : ¬ a = b) : (a != b) = true := by simp [h]
theorem mod_one25 (n : Int) : ∃ N : Nat, 1 ≤ N ∧ N ≤ 25 ∧ wrap64 (1 + wrap64 ((IntKind.u64.wrap n).tmod 25)) = N := mod_one n 25 (by decide) (by decide)
set_option maxHeartbeats 8000000 in
set_option maxRecDepth 100000 in
theorem cycles_walk (n : Int) (ao : Option Addr) (cp : Nat) (zs : List (Int × Int × Bool)) (w : World) (hz : ArgP w ao zs) (hl : zs.length ≤ maxLen) :
    Calls Try.prog 3 #[.int .i64 n, .slice ao zs.length cp] w fun e w' => e = .returned (.bool true) ∧ Below w.heap.size w w' := by
  obtain ⟨N, hN1, hN2, hN⟩ := mod_one25 n
  have HZ := hid hz
  have HL := hid hl
  unfold maxLen at hl
  have hlen : (zs.length : Int) ≤ 9223372036854775807 := by omega
  clear hz
  have hNi : (N : Int) ≤ 25 := by omega
  have hNi1 : (1 : Int) ≤ N := by omega
  go_enter Try.func3, Try.ntmps3
  go_wp2_with fail
  go_at_call 4
  refine (added_ok N (by omega) ao cp zs w HZ.out HL.out).mono ?_
  rintro e w1 ⟨⟨b, b2, rfl, h1⟩, bl⟩
  have BO := hid h1
  have B1 := hid bl
  have Z1 := hid (HZ.out.later bl)
  clear h1 bl
  have PL : Hid ((psOf N (zs.take 100)).length ≤ 1000) := by
    show _ ≤ _
    have h1 := psOf_len N (zs.take 100)
    have h2 : (zs.take 100).length ≤ 100 := by simp; omega
    omega
  have HTR := hid (clR_trans (sel false (psOf N (zs.take 100))))
  have LON : Hid (∀ j t, RngL (clR (sel false (psOf N (zs.take 100)))) N zs j t → j < zs.length → j < 100 → (zs.getD j (0, 0, false)).1 = (zs.getD j (0, 0, false)).2.1 → inB N (zs.getD j (0, 0, false)).1 (zs.getD j (0, 0, false)).2.1 = true → RngL (clR (sel false (psOf N (zs.take 100)))) N zs (j + 1) true) := fun j t h => h.on
  have LEND : Hid (∀ t, RngL (clR (sel false (psOf N (zs.take 100)))) N zs zs.length t → t = cyc (clR (sel false (psOf N (zs.take 100)))) N) := fun t h => h.end'
  have LESS : Hid (∀ (x y : Nat), x < N → y < N → Calls Try.prog 5 #[.pointer (some ⟨b, 0, none⟩), .int .i64 x, .int .i64 y] w1 fun e w' => e = .returned (.bool (clR (sel false (psOf N (zs.take 100))) x y)) ∧ w1 = w') := fun x y hx hy => by
    have := less_any _ b N _ _ x y w1 BO.out.1
    rw [ahd_nat _ N x y hx hy] at this
    exact this
  have CY : Hid (∀ wr, Below w1.heap.size w1 wr → Calls Try.prog 6 #[.pointer (some ⟨b, 0, none⟩)] wr fun e w' => e = .returned (.bool (cyc (clR (sel false (psOf N (zs.take 100)))) N)) ∧ wr = w') := fun wr hb => cyclic_is _ b N _ _ wr (BO.out.1.later hb)
  have RCY : Hid (∀ wr, Below w1.heap.size w1 wr → Calls Try.prog 7 #[.pointer (some ⟨b2, 0, none⟩)] wr fun e w' => e = .returned (.bool (cyc (clR (sel false (psOf N (zs.take 100)))) N)) ∧ Below wr.heap.size wr w') := fun wr hb => rcyclic_is _ b2 N _ wr (BO.out.2.later hb) PL.out
  clear BO
  obtain ⟨R, hR⟩ : ∃ R, clR (sel false (psOf N (zs.take 100))) = R := ⟨_, rfl⟩
  rw [hR] at HTR LON LEND LESS CY RCY
  clear hR HZ
  go_wp2_with fail
  go_loopg [8, 9, 32] N (fun g t _ i wr => ∃ (k : Nat) (tb : Bool), k ≤ N ∧ N - k ≤ g ∧ i = .int .i64 k ∧ t = .bool tb ∧ Aside (RngI R N k 0 tb) ∧ w1 = wr)
  case atStart => exact ⟨0, false, Nat.zero_le _, by omega, rfl, rfl, RngI.first _ _, rfl⟩
  case round =>
    obtain ⟨k, tb, hk, hg, rfl, rfl, TX, rfl⟩ := hrel
    by_cases hkl : k < N
    · have hkli : (k : Int) < N := by omega
      go_wp2_with fail
      go_loopg [8, 10, 36] N (fun g t _ i wr => ∃ (j : Nat) (tb : Bool), j ≤ N ∧ N - j ≤ g ∧ i = .int .i64 j ∧ t = .bool tb ∧ Aside (RngI R N k j tb) ∧ w1 = wr)
      case atStart => exact ⟨0, tb, Nat.zero_le _, by omega, rfl, rfl, TX.out, rfl⟩
      case round =>
        clear TX
        obtain ⟨j, tb, hj, hg2, rfl, rfl, TX, rfl⟩ := hrel
        by_cases hjl : j < N
        · have hjli : (j : Int) < N := by omega
          cases tb with
          | true =>
            go_wp2_with fail
            go_roundg (N - (j + 1))
            · exact ⟨j + 1, true, by omega, by omega, by go_num, rfl, TX.out.yes, rfl⟩
            · omega
          | false =>
            by_cases hkj : k = j
            · have T2 := hid (TX.out.no (fun h => h.1 hkj))
              subst hkj
              go_wp2_with fail
              go_roundg (N - (k + 1))
              · exact ⟨k + 1, false, by omega, by omega, by go_num, rfl, T2.out, rfl⟩
              · omega
            · have hq : ((k : Int) == (j : Int)) = false := by simp; omega
              have hq2 : ¬ (k : Int) = (j : Int) := by omega
              have hq3 : ¬ k = j := hkj
              have L1 := hid (LESS.out k j hkl hjl)
              have L2 := hid (LESS.out j k hjl hkl)
              cases e1 : R k j with
              | false =>
                have T2 := hid (TX.out.no (fun h => by rw [e1] at h; cases h.2.1))
                rw [e1] at L1
                clear e1 hkj L2
                go_wp2_with (go_at_call 5; refine L1.out.mono ?_; rintro e w' ⟨rfl, rfl⟩)
                go_roundg (N - (j + 1))
                · exact ⟨j + 1, false, by omega, by omega, by go_num, rfl, T2.out, rfl⟩
                · omega
              | true =>
                cases e2 : R j k with
                | false =>
                  have T2 := hid (TX.out.no (fun h => by rw [e2] at h; cases h.2.2))
                  rw [e1] at L1
                  rw [e2] at L2
                  clear e1 e2 hkj
                  go_wp2_with fail
                  go_at_call 5
                  refine L1.out.mono ?_
                  rintro e w' ⟨rfl, rfl⟩
                  go_wp2_with fail
                  go_at_call 5
                  refine L2.out.mono ?_
                  rintro e w' ⟨rfl, rfl⟩
                  go_wp2_with fail
                  go_roundg (N - (j + 1))
                  · exact ⟨j + 1, false, by omega, by omega, by go_num, rfl, T2.out, rfl⟩
                  · omega
                | true =>
                  have T2 := hid (TX.out.on HTR.out hkl e1 e2)
                  rw [e1] at L1
                  rw [e2] at L2
                  clear e1 e2 hkj
                  go_wp2_with fail
                  go_at_call 5
                  refine L1.out.mono ?_
                  rintro e w' ⟨rfl, rfl⟩
                  go_wp2_with fail
                  go_at_call 5
                  refine L2.out.mono ?_
                  rintro e w' ⟨rfl, rfl⟩
                  go_wp2_with fail
                  go_roundg (N - (j + 1))
                  · exact ⟨j + 1, true, by omega, by omega, by go_num, congrArg Value.bool (int_ne hq2), T2.out, rfl⟩
                  · omega
        · have hjli : ¬ (j : Int) < N := by omega
          have T2 : Hid (RngI R N (k + 1) 0 tb) := by
            have ej : j = N := by omega
            have h := TX.out
            rw [ej] at h
            exact h.row
          go_wp2_with fail
          go_roundg (N - (k + 1))
          · exact ⟨k + 1, tb, by omega, by omega, by go_num, rfl, T2.out, rfl⟩
          · omega
    · have hkli : ¬ (k : Int) < N := by omega
      have T2 : Hid (RngL R N zs 0 tb) := by
        have ek : k = N := by omega
        have h := TX.out
        rw [ek] at h
        exact ⟨h, fun i hi => by omega⟩
      clear TX
      go_wp2_with fail
      go_loopg [8, 11, 12, 61] zs.length (fun g t _ _ i wr => ∃ (j : Nat) (tb : Bool), j ≤ zs.length ∧ zs.length - j ≤ g ∧ i = .int .i64 j ∧ t = .bool tb ∧ Aside (RngL R N zs j tb) ∧ Aside (Below w1.heap.size w1 wr))
      case atStart => exact ⟨0, tb, Nat.zero_le _, by omega, rfl, rfl, T2.out, Below.refl _ _⟩
      case round =>
        clear T2
        obtain ⟨j, tb, hj, hg2, rfl, rfl, TX, BX⟩ := hrel
        by_cases hjl : j < zs.length
        · have hjli : (j : Int) < zs.length := by omega
          obtain ⟨bz, oz, rfl, k1, k2, k3⟩ := Z1.out.later BX.out j hjl
          have BN : ∀ B, Hid (Below w1.heap.size w1 (wr.alloc B)) := fun B => BX.out.trans ((below_box wr _).mono BX.out.size)
          have NO := hid (fun (t : Bool) (h : RngL R N zs j t) hn => h.no hn)
          have ON := hid (fun (t : Bool) (h : RngL R N zs j t) h100 => LON.out j t h hjl h100)
          generalize zs.getD j (0, 0, false) = z0 at *
          obtain ⟨x, y, z⟩ := z0
          dsimp only at k1 k2 k3 NO ON
          cases tb with
          | true =>
            go_wp2_with fail
            go_roundg (zs.length - (j + 1))
            · exact ⟨j + 1, true, by omega, by omega, by go_num, rfl, TX.out.yes, (BN _).out⟩
            · omega
          | false =>
            by_cases h100 : j < 100
            · have h100i : (j : Int) < 100 := by omega
              by_cases hxy : x = y
              · by_cases hx0 : 0 ≤ x
                · by_cases hxn : x < N
                  · have hq : (x == y) = true := by simp [hxy]
                    have T2 := hid (ON.out false TX.out h100 hxy (by unfold inB; simp; omega))
                    clear hxy ON NO TX
                    go_wp2_with fail
                    go_roundg (zs.length - (j + 1))
                    · exact ⟨j + 1, true, by omega, by omega, by go_num, rfl, T2.out, (BN _).out⟩
                    · omega
                  · have hq : (x == y) = true := by simp [hxy]
                    have T2 := hid (NO.out false TX.out (fun h => by obtain ⟨_, _, h⟩ := h; unfold inB at h; simp at h; omega))
                    clear hxy ON NO TX
                    go_wp2_with fail
                    go_roundg (zs.length - (j + 1))
                    · exact ⟨j + 1, false, by omega, by omega, by go_num, rfl, T2.out, (BN _).out⟩
                    · omega
                · have hq : (x == y) = true := by simp [hxy]
                  have hd : decide (0 ≤ x) = false := by simp; omega
                  have T2 := hid (NO.out false TX.out (fun h => by obtain ⟨_, _, h⟩ := h; unfold inB at h; simp at h; omega))
                  clear hxy ON NO TX
                  go_wp2_with fail
                  go_roundg (zs.length - (j + 1))
                  · exact ⟨j + 1, false, by omega, by omega, by go_num, rfl, T2.out, (BN _).out⟩
                  · omega
              · have hq : (x == y) = false := by simp [hxy]
                have T2 := hid (NO.out false TX.out (fun h => hxy h.2.1))
                clear hxy ON NO TX
                go_wp2_with fail
                go_roundg (zs.length - (j + 1))
                · exact ⟨j + 1, false, by omega, by omega, by go_num, rfl, T2.out, (BN _).out⟩
                · omega
            · have h100i : ¬ (j : Int) < 100 := by omega
              have T2 := hid (NO.out false TX.out (fun h => h100 h.1))
              clear ON NO TX
              go_wp2_with fail
              go_roundg (zs.length - (j + 1))
              · exact ⟨j + 1, false, by omega, by omega, by go_num, rfl, T2.out, (BN _).out⟩
              · omega
        · have hjli : ¬ (j : Int) < zs.length := by omega
          have E : Hid (tb = cyc R N) := LEND.out tb (by
            have ej : j = zs.length := by omega
            have h := TX.out
            rw [ej] at h
            exact h)
          have C1 := hid (CY.out _ BX.out)
          have C2 := hid (RCY.out _ BX.out)
          rw [← E.out] at C1 C2
          clear E TX
          have htt : (tb == tb) = true := by simp
          go_wp2_with fail
          go_at_call 6
          refine C1.out.mono ?_
          rintro e w' ⟨rfl, rfl⟩
          go_wp2_with fail
          go_at_call 7
          refine C2.out.mono ?_
          rintro e w3 ⟨rfl, bl⟩
          have B3 := hid (B1.out.trans ((BX.out.trans (bl.mono BX.out.size)).mono B1.out.size))
          clear bl
          go_wp2_with fail
          go_ret
          exact ⟨rfl, B3.out⟩
end Go.Proofs.Ytmnfmilgpglfcaa
