/-
  symMergeCmpFunc, where the middle lies ahead of the second range.
-/
import Derived.Test.YtbcegdiabnapkaaS4
namespace Go.Proofs.Ytbcegdiabnapkaa
set_option linter.unusedVariables false
set_option linter.unusedSimpArgs false
open Go.Shelf Go.RowKit Go.Lib Go.Sort
variable {P : Program} {α : Type} [Inhabited α]

set_option maxHeartbeats 16000000 in
set_option maxRecDepth 1000000 in
theorem merge_gt (L : SL P) (k : Nat) (aE : ∀ w, (isAgg 50).run P w = .ok true w) (zE : ∀ w, (Go.sizeOf 50).run P w = .ok k w) (enc : α → List Value) (cf : α → α → Int) (hO : SWO (ltOf cf)) (g : Nat) (cb : Array Value) (blk off cap a m b : Nat) (d0 d : Array α) (w0 w : World)
    (eg : ∀ args w, (callFunc g args).run P w = .ok (.enter g args) w) (hcmp : CmpLays P g cb enc k cf blk off d0.size w0) (R : RowK enc k w0 blk off d0) (hs : d0.size = d.size) (S : SWK enc k w0 blk off d w) (ham : a < m) (hmb : m < b) (hb : b ≤ d.size) (hsz : d.size < 100000) (hs1 : SortedIn (ltOf cf) a m d) (hs2 : SortedIn (ltOf cf) m b d) (h0 : a + 1 < m) (h1 : m + 1 < b) (IH0 : Smaller P enc k cf g cb blk off cap w0 d.size (b - a)) (hmm : (a + b) / 2 < m) :
    Calls P 58 #[.slice (some ⟨blk, off, none⟩) d.size cap, .int .i64 a, .int .i64 m, .int .i64 b, .func (.func g) #[] cb] w fun e w' => e = .returned (.tuple #[]) ∧ MergePost enc k w0 blk off d a b (ltOf cf) w' := by
  have mixed := L.mixed; have t0 := L.t0; have a0 := L.a0; have z0 := L.z0; have v0 := L.v0; have t3 := L.t3; have a3 := L.a3; have z3 := L.z3; have v3 := L.v3; have t4 := L.t4; have a4 := L.a4; have z4 := L.z4; have v4 := L.v4; have t39 := L.t39; have a39 := L.a39; have z39 := L.z39; have v39 := L.v39; have t47 := L.t47; have a47 := L.a47; have z47 := L.z47; have v47 := L.v47; have t61 := L.t61; have a61 := L.a61; have z61 := L.z61; have v61 := L.v61
  have FG := L.f58
  have HC : Aside _ := hcmp
  have S0 : Aside (SWK enc k w0 blk off d w) := S
  have HS1 : Hid (SortedIn (ltOf cf) a m d) := hs1
  have HS2 : Hid (SortedIn (ltOf cf) m b d) := hs2
  clear S hcmp hs1 hs2
  have IH : Aside _ := IH0
  have ROT : Hid (∀ (s e : Nat) (wr : World), SWK enc k w0 blk off d wr → s < m → m < e → e ≤ d.size → Calls P 64 #[.slice (some ⟨blk, off, none⟩) d.size cap, .int .i64 s, .int .i64 m, .int .i64 e, .func (.func g) #[] cb] wr fun e' w' => e' = .returned (.tuple #[]) ∧ RotPost enc k w0 blk off d s m e w') := fun s e wr hS q1 q2 q3 => rotate_is L k aE zE enc g cb blk off cap s m e d0 d w0 wr R hs hS q1 q2 q3 hsz
  have e64 : ∀ args w, (callFunc 64 args).run P w = .ok (.enter 64 args) w := enters_of L.f64 (by kernel_rfl) rfl
  have e58 : ∀ args w, (callFunc 58 args).run P w = .ok (.enter 58 args) w := enters_of L.f58 (by kernel_rfl) rfl
  clear IH0
  have hq0 : IntKind.i64.wrap ((m : Int) - (a : Int)) = (m : Int) - (a : Int) := by rw [IntKind.wrap_i64]; omega
  have hq1 : (((m : Int) - (a : Int)) == 1) = false := by simp; omega
  have hq2 : ¬ ((m : Int) - (a : Int)) = 1 := by omega
  have hq3 : IntKind.i64.wrap ((b : Int) - (m : Int)) = (b : Int) - (m : Int) := by rw [IntKind.wrap_i64]; omega
  have hq4 : (((b : Int) - (m : Int)) == 1) = false := by simp; omega
  have hq5 : ¬ ((b : Int) - (m : Int)) = 1 := by omega
  obtain ⟨mid, hmid⟩ : ∃ mid, mid = (a + b) / 2 := ⟨_, rfl⟩
  rw [← hmid] at hmm
  have hmi : ((a : Int) + (b : Int)) / 2 = (mid : Int) := by omega
  have hm1 : a < mid := by omega
  have hm2 : mid < b := by omega
  have hm3 : mid - a ≤ b - mid := by omega
  have hm4 : b - mid ≤ mid - a + 1 := by omega
  clear hmid
  have hwn : IntKind.i64.wrap ((mid : Int) + (m : Int)) = (mid : Int) + (m : Int) := by rw [IntKind.wrap_i64]; omega
  obtain ⟨p, hp⟩ : ∃ p, p + 1 = mid + m := ⟨mid + m - 1, by omega⟩
  have hwp : IntKind.i64.wrap ((mid : Int) + (m : Int) - 1) = (p : Int) := by rw [IntKind.wrap_i64]; omega
  obtain ⟨s0, hs0⟩ : ∃ s0, s0 = mid + m - b := ⟨_, rfl⟩
  obtain ⟨r0, hr0⟩ : ∃ r0, r0 = mid := ⟨_, rfl⟩
  have hb1 : a ≤ s0 := by omega
  have hb2 : s0 ≤ r0 := by omega
  have hb3 : r0 ≤ m := by omega
  have hb4 : r0 ≤ mid := by omega
  have hb5 : mid + m ≤ s0 + b := by omega
  have hb6 : s0 = a ∨ mid + m = s0 + b := by omega
  have hb7 : r0 = m ∨ r0 = mid := by omega
  have hmmi : (mid : Int) < (m : Int) := by omega
  have hws : IntKind.i64.wrap ((mid : Int) + (m : Int) - (b : Int)) = (s0 : Int) := by rw [IntKind.wrap_i64]; omega
  have hrr0 : r0 = mid := hr0
  clear hs0 hr0
  go_enter FG, Try.ntmps58
  go_wp2_with fail
  go_loopg [20, 21, 23] (b - a) (fun kx s10 s11 _ wr => ∃ (s r : Nat), s10 = .int .i64 s ∧ s11 = .int .i64 r ∧ s0 ≤ s ∧ s ≤ r ∧ r ≤ r0 ∧ r - s ≤ kx ∧ Aside (SWK enc k w0 blk off d wr) ∧ Aside ((s = s0 ∨ ltOf cf d[p - (s - 1)]! d[s - 1]! = false) ∧ (r = r0 ∨ ltOf cf d[p - r]! d[r]! = true)))
  case atStart => exact ⟨s0, r0, by first | rfl | go_num, by first | rfl | go_num, Nat.le_refl _, hb2, Nat.le_refl _, by omega, S0, (⟨.inl rfl, .inl rfl⟩ : _ ∧ _)⟩
  case round =>
    clear S0
    obtain ⟨s, r, rfl, rfl, hsa, hsr, hrr, hkx, S1, I1⟩ := hrel
    by_cases hlt : s < r
    · have hlti : (s : Int) < (r : Int) := by omega
      obtain ⟨c, hc⟩ : ∃ c, c = (s + r) / 2 := ⟨_, rfl⟩
      have hci : ((s : Int) + (r : Int)) / 2 = (c : Int) := by omega
      have hc1 : s ≤ c := by omega
      have hc2 : c < r := by omega
      clear hc
      obtain ⟨q, hq⟩ : ∃ q, q = p - c := ⟨_, rfl⟩
      have hwq : IntKind.i64.wrap ((p : Int) - (c : Int)) = (q : Int) := by rw [IntKind.wrap_i64]; omega
      have hq6 : q < d.size := by omega
      have HQ : Hid (p - c = q) := hq.symm
      clear hq
      cases hL : ltOf cf d[q]! d[c]! with
      | false =>
        have ea24 : ((q : Int)).toNat = q := by omega
        have pa24 : (0 : Int) ≤ (q : Int) := by omega
        have ba24 : (q : Int) < (d.size : Int) := by omega
        have ra24 : IntKind.i64.wrap ((q : Int)) = (q : Int) := by rw [IntKind.wrap_i64]; omega
        have ec24 : ((c : Int)).toNat = c := by omega
        have pc24 : (0 : Int) ≤ (c : Int) := by omega
        have bc24 : (c : Int) < (d.size : Int) := by omega
        have rc24 : IntKind.i64.wrap ((c : Int)) = (c : Int) := by rw [IntKind.wrap_i64]; omega
        obtain ⟨x24, hx24⟩ : ∃ x, x = d[q]! := ⟨_, rfl⟩
        obtain ⟨y24, hy24⟩ : ∃ x, x = d[c]! := ⟨_, rfl⟩
        have l24a := S1.out.ld R (by omega) P (q) (by omega)
        have l24b := S1.out.ld R (by omega) P (c) (by omega)
        rw [← hx24] at l24a
        rw [← hy24] at l24b
        have hc24 := S1.out.cmp HC.out (by omega) x24 y24
        have hv24 : ¬ cf x24 y24 < 0 := by rw [hx24, hy24]; exact of_decide_eq_false hL
        have hd24 : decide (cf x24 y24 < 0) = false := decide_eq_false hv24
        clear hx24 hy24
        go_wp2_with fail
        go_quiet_grown (first | (go_at_fn g; refine Calls.grown_of (hc24 _ _)))
        have S2 : Aside (SWK enc k w0 blk off d (grow (wr.drewN nq) osq)) := S1.out.grown nq osq
        clear l24a l24b hc24 S1
        generalize grow (wr.drewN nq) osq = w2 at S2 ⊢
        clear nq osq
        have I2 : Aside ((c + 1 = s0 ∨ ltOf cf d[p - (c + 1 - 1)]! d[c + 1 - 1]! = false) ∧ (r = r0 ∨ ltOf cf d[p - r]! d[r]! = true)) := ⟨.inr (by rw [Nat.add_sub_cancel, HQ.out]; exact hL), I1.out.2⟩
        clear hL I1
        go_wp2_with fail
        go_roundg (r - (c + 1))
        case measure => omega
        case rel => exact ⟨c + 1, r, by go_num, rfl, by omega, by omega, hrr, Nat.le_refl _, S2, I2⟩
      | true =>
        have ea25 : ((q : Int)).toNat = q := by omega
        have pa25 : (0 : Int) ≤ (q : Int) := by omega
        have ba25 : (q : Int) < (d.size : Int) := by omega
        have ra25 : IntKind.i64.wrap ((q : Int)) = (q : Int) := by rw [IntKind.wrap_i64]; omega
        have ec25 : ((c : Int)).toNat = c := by omega
        have pc25 : (0 : Int) ≤ (c : Int) := by omega
        have bc25 : (c : Int) < (d.size : Int) := by omega
        have rc25 : IntKind.i64.wrap ((c : Int)) = (c : Int) := by rw [IntKind.wrap_i64]; omega
        obtain ⟨x25, hx25⟩ : ∃ x, x = d[q]! := ⟨_, rfl⟩
        obtain ⟨y25, hy25⟩ : ∃ x, x = d[c]! := ⟨_, rfl⟩
        have l25a := S1.out.ld R (by omega) P (q) (by omega)
        have l25b := S1.out.ld R (by omega) P (c) (by omega)
        rw [← hx25] at l25a
        rw [← hy25] at l25b
        have hc25 := S1.out.cmp HC.out (by omega) x25 y25
        have hv25 : cf x25 y25 < 0 := by rw [hx25, hy25]; exact of_decide_eq_true hL
        have hd25 : decide (cf x25 y25 < 0) = true := decide_eq_true hv25
        clear hx25 hy25
        go_wp2_with fail
        go_quiet_grown (first | (go_at_fn g; refine Calls.grown_of (hc25 _ _)))
        have S2 : Aside (SWK enc k w0 blk off d (grow (wr.drewN nq) osq)) := S1.out.grown nq osq
        clear l25a l25b hc25 S1
        generalize grow (wr.drewN nq) osq = w2 at S2 ⊢
        clear nq osq
        have I2 : Aside ((s = s0 ∨ ltOf cf d[p - (s - 1)]! d[s - 1]! = false) ∧ (c = r0 ∨ ltOf cf d[p - c]! d[c]! = true)) := ⟨I1.out.1, .inr (by rw [HQ.out]; exact hL)⟩
        clear hL I1
        go_wp2_with fail
        go_roundg (c - s)
        case measure => omega
        case rel => exact ⟨s, c, rfl, rfl, by omega, by omega, by omega, Nat.le_refl _, S2, I2⟩
    · have hlti : ¬ (s : Int) < (r : Int) := by omega
      have hsr2 : s = r := by omega
      obtain ⟨e, he⟩ : ∃ e, e + s = mid + m := ⟨mid + m - s, by omega⟩
      have hwe : IntKind.i64.wrap ((mid : Int) + (m : Int) - (s : Int)) = (e : Int) := by rw [IntKind.wrap_i64]; omega
      have he1 : m ≤ e := by omega
      have he2 : e ≤ b := by omega
      have he3 : mid ≤ e := by omega
      have he4 : s ≤ mid := by omega
      have he5 : a ≤ s := by omega
      have he6 : s ≤ m := by omega
      have HALF : Hid (∀ d1 : Array α, (∀ x, d1[x]! = rotV d s m e x) → SortedIn (ltOf cf) a s d1 ∧ SortedIn (ltOf cf) s mid d1 ∧ SortedIn (ltOf cf) mid e d1 ∧ SortedIn (ltOf cf) e b d1 ∧ ∀ i j, a ≤ i → i < mid → mid ≤ j → j < b → ltOf cf d1[j]! d1[i]! = false) := fun d1 hd => by
        have I := I1.out
        rw [← hsr2] at I
        refine sym_halves hO HS1.out HS2.out he5 he6 he1 he2 (by omega) ?_ ?_ hd
        · rcases I.1 with h | h
          · rcases hb6 with h6 | h6
            · exact .inl (by omega)
            · exact .inr (.inl (by omega))
          · by_cases hs0 : s = a
            · exact .inl hs0
            · refine .inr (.inr ?_)
              rw [show p - (s - 1) = e by omega] at h
              exact h
        · rcases I.2 with h | h
          · rcases hb7 with h7 | h7
            · exact .inl (by omega)
            · exact .inr (.inl (by omega))
          · by_cases hem : e = m
            · exact .inr (.inl hem)
            · refine .inr (.inr ?_)
              rw [show p - s = e - 1 by omega] at h
              exact h
      have STAY : Hid (¬ (s < m ∧ m < e) → ∀ x, d[x]! = rotV d s m e x) := fun h => rot_stay d s m e h he6 he1
      subst hsr2
      clear I1 hlti hb6 hb7
      by_cases hA1 : s < m
      · have hA1i : (s : Int) < (m : Int) := by omega
        by_cases hA2 : m < e
        · have hA2i : (m : Int) < (e : Int) := by omega
          have CC := ROT.out s e wr S1.out hA1 hA2 (by omega)
          go_wp2_with fail
          go_at_fn 64
          refine CC.mono ?_
          rintro e7 w7 ⟨rfl, d1, hS, hz1, hp1, hd1⟩
          have S5 : Aside (SWK enc k w0 blk off d1 w7) := hS
          have Z1 : Hid (d1.size = d.size) := hz1
          have P1 : Hid (PermIn a b d d1) := permIn_mono _ _ _ _ _ _ he5 he2 hb hp1
          have HV := hid (HALF.out d1 hd1)
          clear CC hS hz1 hp1 hd1 S1
          by_cases hB1 : a < s
          · have hB1i : (a : Int) < (s : Int) := by omega
            by_cases hB2 : s < mid
            · have hB2i : (s : Int) < (mid : Int) := by omega
              have CC := IH.out a s mid d1 w7 (by omega) hB1 hB2 (by omega) Z1.out S5.out HV.out.1 HV.out.2.1
              go_wp2_with fail
              go_at_fn 58
              refine CC.mono ?_
              rintro e8 w8 ⟨rfl, d2, hS, hz2, hp2, hs2⟩
              have S6 : Aside (SWK enc k w0 blk off d2 w8) := hS
              have Z2 : Hid (d2.size = d.size) := hz2.trans Z1.out
              have P2 : Hid (PermIn a mid d1 d2) := hp2
              have SS2 : Hid (SortedIn (ltOf cf) a mid d2) := hs2
              clear CC hS hz2 hp2 hs2 S5
              have B1 : Hid (SortedIn (ltOf cf) mid e d2) := HV.out.2.2.1.congr (fun x h1 h2 => P2.out.2.1 x (by omega))
              have B2 : Hid (SortedIn (ltOf cf) e b d2) := HV.out.2.2.2.1.congr (fun x h1 h2 => P2.out.2.1 x (by omega))
              have JOIN : Hid (∀ (wx : World) (d3 : Array α), SWK enc k w0 blk off d3 wx → d3.size = d.size → PermIn mid b d2 d3 → SortedIn (ltOf cf) mid b d3 → MergePost enc k w0 blk off d a b (ltOf cf) wx) := fun wx d3 q1 q2 q3 q4 => by
                obtain ⟨j1, j2⟩ := sym_join (by have := Z1.out; omega) (by omega) (by omega) HV.out.2.2.2.2 P2.out SS2.out q3 q4
                exact ⟨d3, q1, q2, permIn_trans _ _ _ _ _ P1.out j1, j2⟩
              by_cases hC1 : mid < e
              · have hC1i : (mid : Int) < (e : Int) := by omega
                by_cases hC2 : e < b
                · have hC2i : (e : Int) < (b : Int) := by omega
                  have CC := IH.out mid e b d2 w8 (by omega) hC1 hC2 hb Z2.out S6.out B1.out B2.out
                  go_wp2_with fail
                  go_at_fn 58
                  refine CC.mono ?_
                  rintro e9 w9 ⟨rfl, d3, S9, z3, p3, s3⟩
                  have PO : Hid (MergePost enc k w0 blk off d a b (ltOf cf) w9) := JOIN.out w9 d3 S9 (z3.trans Z2.out) p3 s3
                  clear CC S9 z3 p3 s3
                  go_wp2_with fail
                  go_end0
                  exact ⟨rfl, PO.out⟩
                · have hC2i : ¬ (e : Int) < (b : Int) := by omega
                  have PO : Hid (MergePost enc k w0 blk off d a b (ltOf cf) w8) := JOIN.out w8 d2 S6.out Z2.out (permIn_refl _ _ _) (half_one B1.out B2.out he3 he2 (by omega))
                  go_wp2_with fail
                  go_end0
                  exact ⟨rfl, PO.out⟩
              · have hC1i : ¬ (mid : Int) < (e : Int) := by omega
                have PO : Hid (MergePost enc k w0 blk off d a b (ltOf cf) w8) := JOIN.out w8 d2 S6.out Z2.out (permIn_refl _ _ _) (half_one B1.out B2.out he3 he2 (by omega))
                go_wp2_with fail
                go_end0
                exact ⟨rfl, PO.out⟩
            · have hB2i : ¬ (s : Int) < (mid : Int) := by omega
              obtain ⟨d2, hd2⟩ : ∃ d2, d2 = d1 := ⟨_, rfl⟩
              have S6 : Aside (SWK enc k w0 blk off d2 w7) := by rw [hd2]; exact S5
              have Z2 : Hid (d2.size = d.size) := by rw [hd2]; exact Z1
              have P2 : Hid (PermIn a mid d1 d2) := by rw [hd2]; exact permIn_refl _ _ _
              have SS2 : Hid (SortedIn (ltOf cf) a mid d2) := by rw [hd2]; exact half_one HV.out.1 HV.out.2.1 he5 he4 (by omega)
              clear hd2 S5
              have B1 : Hid (SortedIn (ltOf cf) mid e d2) := HV.out.2.2.1.congr (fun x h1 h2 => P2.out.2.1 x (by omega))
              have B2 : Hid (SortedIn (ltOf cf) e b d2) := HV.out.2.2.2.1.congr (fun x h1 h2 => P2.out.2.1 x (by omega))
              have JOIN : Hid (∀ (wx : World) (d3 : Array α), SWK enc k w0 blk off d3 wx → d3.size = d.size → PermIn mid b d2 d3 → SortedIn (ltOf cf) mid b d3 → MergePost enc k w0 blk off d a b (ltOf cf) wx) := fun wx d3 q1 q2 q3 q4 => by
                obtain ⟨j1, j2⟩ := sym_join (by have := Z1.out; omega) (by omega) (by omega) HV.out.2.2.2.2 P2.out SS2.out q3 q4
                exact ⟨d3, q1, q2, permIn_trans _ _ _ _ _ P1.out j1, j2⟩
              by_cases hC1 : mid < e
              · have hC1i : (mid : Int) < (e : Int) := by omega
                by_cases hC2 : e < b
                · have hC2i : (e : Int) < (b : Int) := by omega
                  have CC := IH.out mid e b d2 w7 (by omega) hC1 hC2 hb Z2.out S6.out B1.out B2.out
                  go_wp2_with fail
                  go_at_fn 58
                  refine CC.mono ?_
                  rintro e9 w9 ⟨rfl, d3, S9, z3, p3, s3⟩
                  have PO : Hid (MergePost enc k w0 blk off d a b (ltOf cf) w9) := JOIN.out w9 d3 S9 (z3.trans Z2.out) p3 s3
                  clear CC S9 z3 p3 s3
                  go_wp2_with fail
                  go_end0
                  exact ⟨rfl, PO.out⟩
                · have hC2i : ¬ (e : Int) < (b : Int) := by omega
                  have PO : Hid (MergePost enc k w0 blk off d a b (ltOf cf) w7) := JOIN.out w7 d2 S6.out Z2.out (permIn_refl _ _ _) (half_one B1.out B2.out he3 he2 (by omega))
                  go_wp2_with fail
                  go_end0
                  exact ⟨rfl, PO.out⟩
              · have hC1i : ¬ (mid : Int) < (e : Int) := by omega
                have PO : Hid (MergePost enc k w0 blk off d a b (ltOf cf) w7) := JOIN.out w7 d2 S6.out Z2.out (permIn_refl _ _ _) (half_one B1.out B2.out he3 he2 (by omega))
                go_wp2_with fail
                go_end0
                exact ⟨rfl, PO.out⟩
          · have hB1i : ¬ (a : Int) < (s : Int) := by omega
            obtain ⟨d2, hd2⟩ : ∃ d2, d2 = d1 := ⟨_, rfl⟩
            have S6 : Aside (SWK enc k w0 blk off d2 w7) := by rw [hd2]; exact S5
            have Z2 : Hid (d2.size = d.size) := by rw [hd2]; exact Z1
            have P2 : Hid (PermIn a mid d1 d2) := by rw [hd2]; exact permIn_refl _ _ _
            have SS2 : Hid (SortedIn (ltOf cf) a mid d2) := by rw [hd2]; exact half_one HV.out.1 HV.out.2.1 he5 he4 (by omega)
            clear hd2 S5
            have B1 : Hid (SortedIn (ltOf cf) mid e d2) := HV.out.2.2.1.congr (fun x h1 h2 => P2.out.2.1 x (by omega))
            have B2 : Hid (SortedIn (ltOf cf) e b d2) := HV.out.2.2.2.1.congr (fun x h1 h2 => P2.out.2.1 x (by omega))
            have JOIN : Hid (∀ (wx : World) (d3 : Array α), SWK enc k w0 blk off d3 wx → d3.size = d.size → PermIn mid b d2 d3 → SortedIn (ltOf cf) mid b d3 → MergePost enc k w0 blk off d a b (ltOf cf) wx) := fun wx d3 q1 q2 q3 q4 => by
              obtain ⟨j1, j2⟩ := sym_join (by have := Z1.out; omega) (by omega) (by omega) HV.out.2.2.2.2 P2.out SS2.out q3 q4
              exact ⟨d3, q1, q2, permIn_trans _ _ _ _ _ P1.out j1, j2⟩
            by_cases hC1 : mid < e
            · have hC1i : (mid : Int) < (e : Int) := by omega
              by_cases hC2 : e < b
              · have hC2i : (e : Int) < (b : Int) := by omega
                have CC := IH.out mid e b d2 w7 (by omega) hC1 hC2 hb Z2.out S6.out B1.out B2.out
                go_wp2_with fail
                go_at_fn 58
                refine CC.mono ?_
                rintro e9 w9 ⟨rfl, d3, S9, z3, p3, s3⟩
                have PO : Hid (MergePost enc k w0 blk off d a b (ltOf cf) w9) := JOIN.out w9 d3 S9 (z3.trans Z2.out) p3 s3
                clear CC S9 z3 p3 s3
                go_wp2_with fail
                go_end0
                exact ⟨rfl, PO.out⟩
              · have hC2i : ¬ (e : Int) < (b : Int) := by omega
                have PO : Hid (MergePost enc k w0 blk off d a b (ltOf cf) w7) := JOIN.out w7 d2 S6.out Z2.out (permIn_refl _ _ _) (half_one B1.out B2.out he3 he2 (by omega))
                go_wp2_with fail
                go_end0
                exact ⟨rfl, PO.out⟩
            · have hC1i : ¬ (mid : Int) < (e : Int) := by omega
              have PO : Hid (MergePost enc k w0 blk off d a b (ltOf cf) w7) := JOIN.out w7 d2 S6.out Z2.out (permIn_refl _ _ _) (half_one B1.out B2.out he3 he2 (by omega))
              go_wp2_with fail
              go_end0
              exact ⟨rfl, PO.out⟩
        · have hA2i : ¬ (m : Int) < (e : Int) := by omega
          obtain ⟨d1, hd1⟩ : ∃ d1, d1 = d := ⟨_, rfl⟩
          have S5 : Aside (SWK enc k w0 blk off d1 wr) := by rw [hd1]; exact S1
          have Z1 : Hid (d1.size = d.size) := by show _ = _; rw [hd1]
          have P1 : Hid (PermIn a b d d1) := by rw [hd1]; exact permIn_refl _ _ _
          have HV : Hid (SortedIn (ltOf cf) a s d1 ∧ SortedIn (ltOf cf) s mid d1 ∧ SortedIn (ltOf cf) mid e d1 ∧ SortedIn (ltOf cf) e b d1 ∧ ∀ i j, a ≤ i → i < mid → mid ≤ j → j < b → ltOf cf d1[j]! d1[i]! = false) := HALF.out d1 (by rw [hd1]; exact STAY.out (by omega))
          clear hd1 S1
          by_cases hB1 : a < s
          · have hB1i : (a : Int) < (s : Int) := by omega
            by_cases hB2 : s < mid
            · have hB2i : (s : Int) < (mid : Int) := by omega
              have CC := IH.out a s mid d1 wr (by omega) hB1 hB2 (by omega) Z1.out S5.out HV.out.1 HV.out.2.1
              go_wp2_with fail
              go_at_fn 58
              refine CC.mono ?_
              rintro e8 w8 ⟨rfl, d2, hS, hz2, hp2, hs2⟩
              have S6 : Aside (SWK enc k w0 blk off d2 w8) := hS
              have Z2 : Hid (d2.size = d.size) := hz2.trans Z1.out
              have P2 : Hid (PermIn a mid d1 d2) := hp2
              have SS2 : Hid (SortedIn (ltOf cf) a mid d2) := hs2
              clear CC hS hz2 hp2 hs2 S5
              have B1 : Hid (SortedIn (ltOf cf) mid e d2) := HV.out.2.2.1.congr (fun x h1 h2 => P2.out.2.1 x (by omega))
              have B2 : Hid (SortedIn (ltOf cf) e b d2) := HV.out.2.2.2.1.congr (fun x h1 h2 => P2.out.2.1 x (by omega))
              have JOIN : Hid (∀ (wx : World) (d3 : Array α), SWK enc k w0 blk off d3 wx → d3.size = d.size → PermIn mid b d2 d3 → SortedIn (ltOf cf) mid b d3 → MergePost enc k w0 blk off d a b (ltOf cf) wx) := fun wx d3 q1 q2 q3 q4 => by
                obtain ⟨j1, j2⟩ := sym_join (by have := Z1.out; omega) (by omega) (by omega) HV.out.2.2.2.2 P2.out SS2.out q3 q4
                exact ⟨d3, q1, q2, permIn_trans _ _ _ _ _ P1.out j1, j2⟩
              by_cases hC1 : mid < e
              · have hC1i : (mid : Int) < (e : Int) := by omega
                by_cases hC2 : e < b
                · have hC2i : (e : Int) < (b : Int) := by omega
                  have CC := IH.out mid e b d2 w8 (by omega) hC1 hC2 hb Z2.out S6.out B1.out B2.out
                  go_wp2_with fail
                  go_at_fn 58
                  refine CC.mono ?_
                  rintro e9 w9 ⟨rfl, d3, S9, z3, p3, s3⟩
                  have PO : Hid (MergePost enc k w0 blk off d a b (ltOf cf) w9) := JOIN.out w9 d3 S9 (z3.trans Z2.out) p3 s3
                  clear CC S9 z3 p3 s3
                  go_wp2_with fail
                  go_end0
                  exact ⟨rfl, PO.out⟩
                · have hC2i : ¬ (e : Int) < (b : Int) := by omega
                  have PO : Hid (MergePost enc k w0 blk off d a b (ltOf cf) w8) := JOIN.out w8 d2 S6.out Z2.out (permIn_refl _ _ _) (half_one B1.out B2.out he3 he2 (by omega))
                  go_wp2_with fail
                  go_end0
                  exact ⟨rfl, PO.out⟩
              · have hC1i : ¬ (mid : Int) < (e : Int) := by omega
                have PO : Hid (MergePost enc k w0 blk off d a b (ltOf cf) w8) := JOIN.out w8 d2 S6.out Z2.out (permIn_refl _ _ _) (half_one B1.out B2.out he3 he2 (by omega))
                go_wp2_with fail
                go_end0
                exact ⟨rfl, PO.out⟩
            · have hB2i : ¬ (s : Int) < (mid : Int) := by omega
              obtain ⟨d2, hd2⟩ : ∃ d2, d2 = d1 := ⟨_, rfl⟩
              have S6 : Aside (SWK enc k w0 blk off d2 wr) := by rw [hd2]; exact S5
              have Z2 : Hid (d2.size = d.size) := by rw [hd2]; exact Z1
              have P2 : Hid (PermIn a mid d1 d2) := by rw [hd2]; exact permIn_refl _ _ _
              have SS2 : Hid (SortedIn (ltOf cf) a mid d2) := by rw [hd2]; exact half_one HV.out.1 HV.out.2.1 he5 he4 (by omega)
              clear hd2 S5
              have B1 : Hid (SortedIn (ltOf cf) mid e d2) := HV.out.2.2.1.congr (fun x h1 h2 => P2.out.2.1 x (by omega))
              have B2 : Hid (SortedIn (ltOf cf) e b d2) := HV.out.2.2.2.1.congr (fun x h1 h2 => P2.out.2.1 x (by omega))
              have JOIN : Hid (∀ (wx : World) (d3 : Array α), SWK enc k w0 blk off d3 wx → d3.size = d.size → PermIn mid b d2 d3 → SortedIn (ltOf cf) mid b d3 → MergePost enc k w0 blk off d a b (ltOf cf) wx) := fun wx d3 q1 q2 q3 q4 => by
                obtain ⟨j1, j2⟩ := sym_join (by have := Z1.out; omega) (by omega) (by omega) HV.out.2.2.2.2 P2.out SS2.out q3 q4
                exact ⟨d3, q1, q2, permIn_trans _ _ _ _ _ P1.out j1, j2⟩
              by_cases hC1 : mid < e
              · have hC1i : (mid : Int) < (e : Int) := by omega
                by_cases hC2 : e < b
                · have hC2i : (e : Int) < (b : Int) := by omega
                  have CC := IH.out mid e b d2 wr (by omega) hC1 hC2 hb Z2.out S6.out B1.out B2.out
                  go_wp2_with fail
                  go_at_fn 58
                  refine CC.mono ?_
                  rintro e9 w9 ⟨rfl, d3, S9, z3, p3, s3⟩
                  have PO : Hid (MergePost enc k w0 blk off d a b (ltOf cf) w9) := JOIN.out w9 d3 S9 (z3.trans Z2.out) p3 s3
                  clear CC S9 z3 p3 s3
                  go_wp2_with fail
                  go_end0
                  exact ⟨rfl, PO.out⟩
                · have hC2i : ¬ (e : Int) < (b : Int) := by omega
                  have PO : Hid (MergePost enc k w0 blk off d a b (ltOf cf) wr) := JOIN.out wr d2 S6.out Z2.out (permIn_refl _ _ _) (half_one B1.out B2.out he3 he2 (by omega))
                  go_wp2_with fail
                  go_end0
                  exact ⟨rfl, PO.out⟩
              · have hC1i : ¬ (mid : Int) < (e : Int) := by omega
                have PO : Hid (MergePost enc k w0 blk off d a b (ltOf cf) wr) := JOIN.out wr d2 S6.out Z2.out (permIn_refl _ _ _) (half_one B1.out B2.out he3 he2 (by omega))
                go_wp2_with fail
                go_end0
                exact ⟨rfl, PO.out⟩
          · have hB1i : ¬ (a : Int) < (s : Int) := by omega
            obtain ⟨d2, hd2⟩ : ∃ d2, d2 = d1 := ⟨_, rfl⟩
            have S6 : Aside (SWK enc k w0 blk off d2 wr) := by rw [hd2]; exact S5
            have Z2 : Hid (d2.size = d.size) := by rw [hd2]; exact Z1
            have P2 : Hid (PermIn a mid d1 d2) := by rw [hd2]; exact permIn_refl _ _ _
            have SS2 : Hid (SortedIn (ltOf cf) a mid d2) := by rw [hd2]; exact half_one HV.out.1 HV.out.2.1 he5 he4 (by omega)
            clear hd2 S5
            have B1 : Hid (SortedIn (ltOf cf) mid e d2) := HV.out.2.2.1.congr (fun x h1 h2 => P2.out.2.1 x (by omega))
            have B2 : Hid (SortedIn (ltOf cf) e b d2) := HV.out.2.2.2.1.congr (fun x h1 h2 => P2.out.2.1 x (by omega))
            have JOIN : Hid (∀ (wx : World) (d3 : Array α), SWK enc k w0 blk off d3 wx → d3.size = d.size → PermIn mid b d2 d3 → SortedIn (ltOf cf) mid b d3 → MergePost enc k w0 blk off d a b (ltOf cf) wx) := fun wx d3 q1 q2 q3 q4 => by
              obtain ⟨j1, j2⟩ := sym_join (by have := Z1.out; omega) (by omega) (by omega) HV.out.2.2.2.2 P2.out SS2.out q3 q4
              exact ⟨d3, q1, q2, permIn_trans _ _ _ _ _ P1.out j1, j2⟩
            by_cases hC1 : mid < e
            · have hC1i : (mid : Int) < (e : Int) := by omega
              by_cases hC2 : e < b
              · have hC2i : (e : Int) < (b : Int) := by omega
                have CC := IH.out mid e b d2 wr (by omega) hC1 hC2 hb Z2.out S6.out B1.out B2.out
                go_wp2_with fail
                go_at_fn 58
                refine CC.mono ?_
                rintro e9 w9 ⟨rfl, d3, S9, z3, p3, s3⟩
                have PO : Hid (MergePost enc k w0 blk off d a b (ltOf cf) w9) := JOIN.out w9 d3 S9 (z3.trans Z2.out) p3 s3
                clear CC S9 z3 p3 s3
                go_wp2_with fail
                go_end0
                exact ⟨rfl, PO.out⟩
              · have hC2i : ¬ (e : Int) < (b : Int) := by omega
                have PO : Hid (MergePost enc k w0 blk off d a b (ltOf cf) wr) := JOIN.out wr d2 S6.out Z2.out (permIn_refl _ _ _) (half_one B1.out B2.out he3 he2 (by omega))
                go_wp2_with fail
                go_end0
                exact ⟨rfl, PO.out⟩
            · have hC1i : ¬ (mid : Int) < (e : Int) := by omega
              have PO : Hid (MergePost enc k w0 blk off d a b (ltOf cf) wr) := JOIN.out wr d2 S6.out Z2.out (permIn_refl _ _ _) (half_one B1.out B2.out he3 he2 (by omega))
              go_wp2_with fail
              go_end0
              exact ⟨rfl, PO.out⟩
      · have hA1i : ¬ (s : Int) < (m : Int) := by omega
        obtain ⟨d1, hd1⟩ : ∃ d1, d1 = d := ⟨_, rfl⟩
        have S5 : Aside (SWK enc k w0 blk off d1 wr) := by rw [hd1]; exact S1
        have Z1 : Hid (d1.size = d.size) := by show _ = _; rw [hd1]
        have P1 : Hid (PermIn a b d d1) := by rw [hd1]; exact permIn_refl _ _ _
        have HV : Hid (SortedIn (ltOf cf) a s d1 ∧ SortedIn (ltOf cf) s mid d1 ∧ SortedIn (ltOf cf) mid e d1 ∧ SortedIn (ltOf cf) e b d1 ∧ ∀ i j, a ≤ i → i < mid → mid ≤ j → j < b → ltOf cf d1[j]! d1[i]! = false) := HALF.out d1 (by rw [hd1]; exact STAY.out (by omega))
        clear hd1 S1
        by_cases hB1 : a < s
        · have hB1i : (a : Int) < (s : Int) := by omega
          by_cases hB2 : s < mid
          · have hB2i : (s : Int) < (mid : Int) := by omega
            have CC := IH.out a s mid d1 wr (by omega) hB1 hB2 (by omega) Z1.out S5.out HV.out.1 HV.out.2.1
            go_wp2_with fail
            go_at_fn 58
            refine CC.mono ?_
            rintro e8 w8 ⟨rfl, d2, hS, hz2, hp2, hs2⟩
            have S6 : Aside (SWK enc k w0 blk off d2 w8) := hS
            have Z2 : Hid (d2.size = d.size) := hz2.trans Z1.out
            have P2 : Hid (PermIn a mid d1 d2) := hp2
            have SS2 : Hid (SortedIn (ltOf cf) a mid d2) := hs2
            clear CC hS hz2 hp2 hs2 S5
            have B1 : Hid (SortedIn (ltOf cf) mid e d2) := HV.out.2.2.1.congr (fun x h1 h2 => P2.out.2.1 x (by omega))
            have B2 : Hid (SortedIn (ltOf cf) e b d2) := HV.out.2.2.2.1.congr (fun x h1 h2 => P2.out.2.1 x (by omega))
            have JOIN : Hid (∀ (wx : World) (d3 : Array α), SWK enc k w0 blk off d3 wx → d3.size = d.size → PermIn mid b d2 d3 → SortedIn (ltOf cf) mid b d3 → MergePost enc k w0 blk off d a b (ltOf cf) wx) := fun wx d3 q1 q2 q3 q4 => by
              obtain ⟨j1, j2⟩ := sym_join (by have := Z1.out; omega) (by omega) (by omega) HV.out.2.2.2.2 P2.out SS2.out q3 q4
              exact ⟨d3, q1, q2, permIn_trans _ _ _ _ _ P1.out j1, j2⟩
            by_cases hC1 : mid < e
            · have hC1i : (mid : Int) < (e : Int) := by omega
              by_cases hC2 : e < b
              · have hC2i : (e : Int) < (b : Int) := by omega
                have CC := IH.out mid e b d2 w8 (by omega) hC1 hC2 hb Z2.out S6.out B1.out B2.out
                go_wp2_with fail
                go_at_fn 58
                refine CC.mono ?_
                rintro e9 w9 ⟨rfl, d3, S9, z3, p3, s3⟩
                have PO : Hid (MergePost enc k w0 blk off d a b (ltOf cf) w9) := JOIN.out w9 d3 S9 (z3.trans Z2.out) p3 s3
                clear CC S9 z3 p3 s3
                go_wp2_with fail
                go_end0
                exact ⟨rfl, PO.out⟩
              · have hC2i : ¬ (e : Int) < (b : Int) := by omega
                have PO : Hid (MergePost enc k w0 blk off d a b (ltOf cf) w8) := JOIN.out w8 d2 S6.out Z2.out (permIn_refl _ _ _) (half_one B1.out B2.out he3 he2 (by omega))
                go_wp2_with fail
                go_end0
                exact ⟨rfl, PO.out⟩
            · have hC1i : ¬ (mid : Int) < (e : Int) := by omega
              have PO : Hid (MergePost enc k w0 blk off d a b (ltOf cf) w8) := JOIN.out w8 d2 S6.out Z2.out (permIn_refl _ _ _) (half_one B1.out B2.out he3 he2 (by omega))
              go_wp2_with fail
              go_end0
              exact ⟨rfl, PO.out⟩
          · have hB2i : ¬ (s : Int) < (mid : Int) := by omega
            obtain ⟨d2, hd2⟩ : ∃ d2, d2 = d1 := ⟨_, rfl⟩
            have S6 : Aside (SWK enc k w0 blk off d2 wr) := by rw [hd2]; exact S5
            have Z2 : Hid (d2.size = d.size) := by rw [hd2]; exact Z1
            have P2 : Hid (PermIn a mid d1 d2) := by rw [hd2]; exact permIn_refl _ _ _
            have SS2 : Hid (SortedIn (ltOf cf) a mid d2) := by rw [hd2]; exact half_one HV.out.1 HV.out.2.1 he5 he4 (by omega)
            clear hd2 S5
            have B1 : Hid (SortedIn (ltOf cf) mid e d2) := HV.out.2.2.1.congr (fun x h1 h2 => P2.out.2.1 x (by omega))
            have B2 : Hid (SortedIn (ltOf cf) e b d2) := HV.out.2.2.2.1.congr (fun x h1 h2 => P2.out.2.1 x (by omega))
            have JOIN : Hid (∀ (wx : World) (d3 : Array α), SWK enc k w0 blk off d3 wx → d3.size = d.size → PermIn mid b d2 d3 → SortedIn (ltOf cf) mid b d3 → MergePost enc k w0 blk off d a b (ltOf cf) wx) := fun wx d3 q1 q2 q3 q4 => by
              obtain ⟨j1, j2⟩ := sym_join (by have := Z1.out; omega) (by omega) (by omega) HV.out.2.2.2.2 P2.out SS2.out q3 q4
              exact ⟨d3, q1, q2, permIn_trans _ _ _ _ _ P1.out j1, j2⟩
            by_cases hC1 : mid < e
            · have hC1i : (mid : Int) < (e : Int) := by omega
              by_cases hC2 : e < b
              · have hC2i : (e : Int) < (b : Int) := by omega
                have CC := IH.out mid e b d2 wr (by omega) hC1 hC2 hb Z2.out S6.out B1.out B2.out
                go_wp2_with fail
                go_at_fn 58
                refine CC.mono ?_
                rintro e9 w9 ⟨rfl, d3, S9, z3, p3, s3⟩
                have PO : Hid (MergePost enc k w0 blk off d a b (ltOf cf) w9) := JOIN.out w9 d3 S9 (z3.trans Z2.out) p3 s3
                clear CC S9 z3 p3 s3
                go_wp2_with fail
                go_end0
                exact ⟨rfl, PO.out⟩
              · have hC2i : ¬ (e : Int) < (b : Int) := by omega
                have PO : Hid (MergePost enc k w0 blk off d a b (ltOf cf) wr) := JOIN.out wr d2 S6.out Z2.out (permIn_refl _ _ _) (half_one B1.out B2.out he3 he2 (by omega))
                go_wp2_with fail
                go_end0
                exact ⟨rfl, PO.out⟩
            · have hC1i : ¬ (mid : Int) < (e : Int) := by omega
              have PO : Hid (MergePost enc k w0 blk off d a b (ltOf cf) wr) := JOIN.out wr d2 S6.out Z2.out (permIn_refl _ _ _) (half_one B1.out B2.out he3 he2 (by omega))
              go_wp2_with fail
              go_end0
              exact ⟨rfl, PO.out⟩
        · have hB1i : ¬ (a : Int) < (s : Int) := by omega
          obtain ⟨d2, hd2⟩ : ∃ d2, d2 = d1 := ⟨_, rfl⟩
          have S6 : Aside (SWK enc k w0 blk off d2 wr) := by rw [hd2]; exact S5
          have Z2 : Hid (d2.size = d.size) := by rw [hd2]; exact Z1
          have P2 : Hid (PermIn a mid d1 d2) := by rw [hd2]; exact permIn_refl _ _ _
          have SS2 : Hid (SortedIn (ltOf cf) a mid d2) := by rw [hd2]; exact half_one HV.out.1 HV.out.2.1 he5 he4 (by omega)
          clear hd2 S5
          have B1 : Hid (SortedIn (ltOf cf) mid e d2) := HV.out.2.2.1.congr (fun x h1 h2 => P2.out.2.1 x (by omega))
          have B2 : Hid (SortedIn (ltOf cf) e b d2) := HV.out.2.2.2.1.congr (fun x h1 h2 => P2.out.2.1 x (by omega))
          have JOIN : Hid (∀ (wx : World) (d3 : Array α), SWK enc k w0 blk off d3 wx → d3.size = d.size → PermIn mid b d2 d3 → SortedIn (ltOf cf) mid b d3 → MergePost enc k w0 blk off d a b (ltOf cf) wx) := fun wx d3 q1 q2 q3 q4 => by
            obtain ⟨j1, j2⟩ := sym_join (by have := Z1.out; omega) (by omega) (by omega) HV.out.2.2.2.2 P2.out SS2.out q3 q4
            exact ⟨d3, q1, q2, permIn_trans _ _ _ _ _ P1.out j1, j2⟩
          by_cases hC1 : mid < e
          · have hC1i : (mid : Int) < (e : Int) := by omega
            by_cases hC2 : e < b
            · have hC2i : (e : Int) < (b : Int) := by omega
              have CC := IH.out mid e b d2 wr (by omega) hC1 hC2 hb Z2.out S6.out B1.out B2.out
              go_wp2_with fail
              go_at_fn 58
              refine CC.mono ?_
              rintro e9 w9 ⟨rfl, d3, S9, z3, p3, s3⟩
              have PO : Hid (MergePost enc k w0 blk off d a b (ltOf cf) w9) := JOIN.out w9 d3 S9 (z3.trans Z2.out) p3 s3
              clear CC S9 z3 p3 s3
              go_wp2_with fail
              go_end0
              exact ⟨rfl, PO.out⟩
            · have hC2i : ¬ (e : Int) < (b : Int) := by omega
              have PO : Hid (MergePost enc k w0 blk off d a b (ltOf cf) wr) := JOIN.out wr d2 S6.out Z2.out (permIn_refl _ _ _) (half_one B1.out B2.out he3 he2 (by omega))
              go_wp2_with fail
              go_end0
              exact ⟨rfl, PO.out⟩
          · have hC1i : ¬ (mid : Int) < (e : Int) := by omega
            have PO : Hid (MergePost enc k w0 blk off d a b (ltOf cf) wr) := JOIN.out wr d2 S6.out Z2.out (permIn_refl _ _ _) (half_one B1.out B2.out he3 he2 (by omega))
            go_wp2_with fail
            go_end0
            exact ⟨rfl, PO.out⟩
end Go.Proofs.Ytbcegdiabnapkaa
