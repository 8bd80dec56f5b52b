/-
  The document's Distance and Shortest.
-/
import Derived.Test.YtjgmkigfpjmlaabDoorZM
namespace Go.Proofs.YtjgmkigfpjmlaabDoor
set_option linter.unusedVariables false
set_option linter.unusedSimpArgs false
open Go.RowKit

theorem Dists.far {E : Nat → Nat → Bool} {n T : Nat} {dv : Nat → Nat} (h : Dists E n T dv) (hT : T < n) (S : Nat) (hS : S < n) : IsFar E n S T (dI dv S) := by
  by_cases h0 : dv S = 0
  · rw [dI_neg dv S h0]
    refine .inr ⟨rfl, fun S' T' e1 h1 e2 r hr hw => ?_⟩
    obtain rfl : S = S' := by omega
    obtain rfl : T = T' := by omega
    exact (h S hS).2 h0 r.length (List.length_pos_iff.2 hr) ⟨r, rfl, hw⟩
  · rw [dI_pos dv S h0]
    exact .inl ⟨S, T, dv S, rfl, hS, rfl, hT, rfl, (h S hS).1 h0⟩

set_option maxHeartbeats 4000000 in
set_option maxRecDepth 100000 in
theorem rdistance_is (b n : Nat) (v : Value) (rw' : Nat → Nat) (L : Nat → Nat → Nat) (labels s to' : Int) (w : World) (h : RefG w b n v rw' L) :
    Calls Tryd.prog 19 #[.pointer (some ⟨b, 0, none⟩), .int .i64 labels, .int .i64 s, .int .i64 to'] w fun e w' => (∃ d, e = .returned (.int .i64 d) ∧ IsFar (edge L labels) n s to' d) ∧ Below w.heap.size w w' := by
  obtain ⟨ao, cap, hv, -⟩ := h.form
  have c0 := h.c0
  rw [hv] at c0
  have hn3 := h.bound
  by_cases hs : s < 0 ∨ (n : Int) ≤ s
  · have T1 := hid (rthere_no b n cap ao s w c0 hs)
    have HS := hid hs
    clear h hv c0 hs
    go_enter Tryd.func19, Tryd.ntmps19
    go_wp2_with (go_at_call 21; refine T1.out.mono ?_; rintro e w' ⟨rfl, rfl⟩)
    go_ret
    exact ⟨⟨-1, rfl, .inr ⟨rfl, fun S T e h1 => by have := HS.out; omega⟩⟩, Below.refl _ _⟩
  · obtain ⟨S, rfl⟩ : ∃ S : Nat, s = S := ⟨s.toNat, by omega⟩
    have hS : S < n := by omega
    have hSi : (S : Int) < n := by omega
    have T1 := hid (rthere_ok b n cap ao S w c0 hS)
    by_cases ht : to' < 0 ∨ (n : Int) ≤ to'
    · have T2 := hid (rthere_no b n cap ao to' w c0 ht)
      have NW := hid (noWay_off (E := edge L labels) (s := S) ht)
      clear h hv c0 hs ht
      go_enter Tryd.func19, Tryd.ntmps19
      go_wp2_with fail
      go_at_call 21
      refine T1.out.mono ?_
      rintro e w' ⟨rfl, rfl⟩
      go_wp2_with fail
      go_at_call 21
      refine T2.out.mono ?_
      rintro e w' ⟨rfl, rfl⟩
      go_wp2_with fail
      go_ret
      exact ⟨⟨-1, rfl, .inr ⟨rfl, fun S' T e h1 e2 r hr hw => NW.out T e2 r hr (by rw [show S = S' by omega]; exact hw)⟩⟩, Below.refl _ _⟩
    · obtain ⟨T, rfl⟩ : ∃ T : Nat, to' = T := ⟨to'.toNat, by omega⟩
      have hTn : T < n := by omega
      have T2 := hid (rthere_ok b n cap ao T w c0 hTn)
      have D := hid (distances_is b n v rw' L labels T w h hTn)
      clear h hv c0 hs ht
      go_enter Tryd.func19, Tryd.ntmps19
      go_wp2_with fail
      go_at_call 21
      refine T1.out.mono ?_
      rintro e w' ⟨rfl, rfl⟩
      go_wp2_with fail
      go_at_call 21
      refine T2.out.mono ?_
      rintro e w' ⟨rfl, rfl⟩
      go_wp2_with fail
      go_at_call 48
      refine D.out.mono ?_
      rintro e w1 ⟨⟨ob, dv, rfl, -, l1, d1⟩, b1⟩
      obtain ⟨ck, fk⟩ := l1.cell S hS
      have B1 := hid b1
      have F1 := hid (d1.far hTn S hS)
      clear l1 d1 b1
      go_wp2_with fail
      go_ret
      exact ⟨⟨_, rfl, F1.out⟩, B1.out⟩
end Go.Proofs.YtjgmkigfpjmlaabDoor

/-
  The document's Shortest.
-/
namespace Go.Proofs.YtjgmkigfpjmlaabDoor
set_option linter.unusedVariables false
set_option linter.unusedSimpArgs false
open Go.RowKit

theorem Ints.mono {B B' : Nat} {w : World} {v : Value} {l : List Nat} (h : Ints B w v l) (hb : B' ≤ B) : Ints B' w v l :=
  ⟨h.1, h.2.imp id fun ⟨g, cap, cur, h1, h2, h3⟩ => ⟨g, cap, cur, h1, Nat.le_trans hb h2, h3⟩⟩
theorem Rk_of_far {E : Nat → Nat → Bool} {n : Nat} {S T : Nat} {d : Int} (h : IsFar E n S T d) (hS : S < n) (hT : T < n) : (d < 0 ∧ ∀ T' : Nat, (T : Int) = T' → ∀ r, r ≠ [] → ¬ Wl E n S r T') ∨ ∃ D : Nat, d = D ∧ Dst E n T S D := by
  rcases h with ⟨S', T', D, e1, h1, e2, h2, rfl, h3⟩ | ⟨rfl, h1⟩
  · obtain rfl : S = S' := by omega
    obtain rfl : T = T' := by omega
    exact .inr ⟨D, rfl, h3⟩
  · exact .inl ⟨by decide, fun T' e r hr hw => h1 S T' rfl hS e r hr hw⟩
/-- The distance of a node that has one is no greater than n. -/
theorem fits_dec (T : Nat) (dv : Nat → Nat) (e m : Nat) : Fits T dv (e + 1 + 1) m ↔ dI dv m = ((e : Int) + 1) := by
  unfold Fits dI
  by_cases h0 : dv m = 0
  · rw [if_pos h0]
    constructor
    · rintro (⟨h1, _⟩ | ⟨_, h1⟩) <;> omega
    · intro h; omega
  · rw [if_neg h0]
    constructor
    · rintro (⟨h1, _⟩ | ⟨_, h1⟩) <;> omega
    · intro h; exact .inr ⟨by omega, by omega⟩
theorem fits_one (T : Nat) (dv : Nat → Nat) (m : Nat) : Fits T dv (0 + 1) m ↔ m = T := by
  unfold Fits
  constructor
  · rintro (⟨_, h1⟩ | ⟨h1, _⟩)
    · exact h1
    · omega
  · intro h; exact .inl ⟨rfl, h⟩

set_option maxHeartbeats 8000000 in
set_option maxRecDepth 100000 in
theorem rshortest_ok (b n : Nat) (v : Value) (rw' : Nat → Nat) (L : Nat → Nat → Nat) (labels : Int) (S T D : Nat) (w : World) (h : RefG w b n v rw' L) (hS : S < n) (hT : T < n) (hD : Dst (edge L labels) n T S D) (hDn : D ≤ 300) :
    Calls Tryd.prog 17 #[.pointer (some ⟨b, 0, none⟩), .int .i64 labels, .int .i64 S, .int .i64 T] w fun e w' => (∃ v q, e = .returned v ∧ Best (edge L labels) n S T q ∧ Ints w.heap.size w' v (S :: q)) ∧ Below w.heap.size w w' := by
  have R := hid h
  have HD := hid hD
  have hn3 := h.bound
  have hD1 := hD.1
  have RD := hid (rdistance_is b n v rw' L labels S T w h)
  clear h hD
  go_enter Tryd.func17, Tryd.ntmps17
  go_wp2_with fail
  go_at_call 19
  refine RD.out.mono ?_
  rintro e w1 ⟨⟨d1, rfl, f1⟩, b1⟩
  obtain rfl : d1 = (D : Int) := by
    rcases Rk_of_far f1 hS hT with ⟨_, h1⟩ | ⟨D', rfl, h1⟩
    · exfalso
      obtain ⟨r, hr, hw⟩ := HD.out.2.1
      exact h1 T rfl r (by rintro rfl; simp at hr; omega) hw
    · rw [h1.uniq HD.out]
  have B1 := hid b1
  have hDi : ¬ ((D : Int) < 0) := by omega
  have hDi2 : (D : Int) ≤ 300 := by omega
  clear f1 b1 RD
  go_wp2_with fail
  go_at_call 48
  refine (distances_is b n v rw' L labels T w1 (R.out.later B1.out) hT).mono ?_
  rintro e w2 ⟨⟨ob, dv, rfl, -, l2, d2⟩, b2⟩
  have L2 := hid l2
  have D2 := hid d2
  have B2 := hid (B1.out.trans (b2.mono B1.out.size))
  have OBL : Hid (ob < w2.heap.size) := by obtain ⟨cur, h1, _⟩ := l2; exact blt h1
  clear l2 d2 b2 B1
  go_wp2_with fail
  have P0 : Hid (Ints w2.heap.size (w2.alloc (.cells #[.int .i64 S] 3)) (.slice (some ⟨w2.heap.size, 0, none⟩) 1 1) [S]) := ints_made w2.heap.size w2 [S] (Nat.le_refl _) (by simp [maxLen])
  go_loopg [9, 11, 12] D (fun g dval path node wr => ∃ (p : List Nat) (u d gb cap : Nat), dval = .int .i64 (d : Nat) ∧ d ≤ g ∧ d ≤ D ∧ path = .slice (some ⟨gb, 0, none⟩) (p.length + 1) cap ∧ node = .int .i64 (u : Nat) ∧ p.length ≤ D ∧ Aside (Gre (edge L labels) n S T D p u d) ∧ Aside (Ints w2.heap.size wr (.slice (some ⟨gb, 0, none⟩) (p.length + 1) cap) (S :: p)) ∧ Aside (Gro (fun k => w2.heap.size ≤ k) w2 wr))
  case atStart => exact ⟨[], S, D, w2.heap.size, 1, rfl, Nat.le_refl _, Nat.le_refl _, rfl, rfl, by simp, Gre.first hS HD.out, P0.out, Gro.of_below (below_box w2 _)⟩
  case round =>
    clear P0
    obtain ⟨p, u, d, gb, cap, rfl, hg, hdD, rfl, rfl, hpl, GR, PX, GX⟩ := hrel
    have BX : Hid (Below w.heap.size w wr) := B2.out.trans (GX.out.below w.heap.size (fun k hk => Nat.le_trans B2.out.size hk) B2.out.size)
    have hun := GR.out.hu
    by_cases hd0 : d = 0
    · subst hd0
      have BE := hid (GR.out.best HD.out)
      have IR := hid (PX.out.mono B2.out.size)
      have hneg : ¬ (((0 : Nat) : Int) > 0) := by decide
      clear GR PX GX
      go_wp2_with fail
      go_ret
      first | exact ⟨⟨_, p, rfl, BE.out, IR.out⟩, BX.out⟩ | exact ⟨⟨_, rfl, p, BE.out, IR.out⟩, BX.out⟩
    · obtain ⟨e, rfl⟩ : ∃ e, d = e + 1 := ⟨d - 1, by omega⟩
      have hpos : (0 : Int) < ((e + 1 : Nat) : Int) := by omega
      have L3 := hid (L2.out.gro GX.out (by have := OBL.out; omega))
      go_wp2_with fail
      go_at_call 49
      refine (rout_ok b n v rw' L u labels wr (R.out.later BX.out) hun).mono ?_
      rintro e4 w4 ⟨⟨v4, rfl, i4⟩, b4⟩
      obtain ⟨ao, cap4, o, rfl, ro, -⟩ := i4.rowO (HQ := 0) (Nat.zero_le _)
      have RO := hid ro
      have L4 := hid (L3.out.later b4)
      have P4 := hid (PX.out.later b4)
      have G4 := hid (GX.out.trans (Gro.of_below b4))
      have B4 := hid (BX.out.trans (b4.mono BX.out.size))
      have hll := lst_le (endsF L u labels 4) n
      have hlli : ((lst (endsF L u labels 4) n).length : Int) ≤ 300 := by omega
      clear i4 ro b4 PX GX BX L3
      go_wp2_with fail
      go_loopg [12, 38] (lst (endsF L u labels 4) n).length (fun g2 node i wq => ∃ (j t : Nat), j ≤ (lst (endsF L u labels 4) n).length ∧ (lst (endsF L u labels 4) n).length - j ≤ g2 ∧ i = .int .i64 j ∧ node = .int .i64 (u : Nat) ∧ t ≤ n ∧ Aside (lst (endsF L u labels 4) t = (lst (endsF L u labels 4) n).take j) ∧ Aside (∀ x, x < t → edge L labels u x = true → ¬ Fits T dv (e + 1) x) ∧ w4 = wq)
      case atStart => exact ⟨0, 0, Nat.zero_le _, by omega, rfl, rfl, Nat.zero_le _, by show lst _ 0 = List.take 0 _; simp [lst], fun x hx => by omega, rfl⟩
      case round =>
        obtain ⟨j, t, hj, hg2, rfl, rfl, htn, LT, NF, rfl⟩ := hrel
        by_cases hjl : j < (lst (endsF L u labels 4) n).length
        · have hjli : (j : Int) < (lst (endsF L u labels 4) n).length := by omega
          obtain ⟨rfl, -, cur, hcur, hcj⟩ := RO.out j hjl
          have cj : w4.cell? ⟨o, j, none⟩ = some (.int .i64 ((lst (endsF L u labels 4) n).getD j 0)) := (Lib.cell_of_heap hcur j).trans hcj
          obtain ⟨m1, m2, m3, m4, m5⟩ := lst_next (endsF L u labels 4) n t j htn LT.out hjl
          generalize (lst (endsF L u labels 4) n).getD j 0 = m at *
          have M1 := hid m1
          have M3 := hid m3
          have M4 := hid m4
          have M5 := hid m5
          obtain ⟨cm, fm⟩ := L4.out.cell m m2
          have hmi : (m : Int) < n := by omega
          have NF2 : Hid (¬ Fits T dv (e + 1) m → ∀ x, x < m + 1 → edge L labels u x = true → ¬ Fits T dv (e + 1) x) := fun hm x hx hE hf => by
            by_cases h1 : x < t
            · exact NF.out x h1 hE hf
            · by_cases h2 : x = m
              · subst h2; exact hm hf
              · have := M4.out x (by omega) (by omega)
                have hE' : endsF L u labels 4 x = true := hE
                rw [this] at hE'
                cases hE'
          have NF3 : Hid (∀ x, x < m → edge L labels u x = true → ¬ Fits T dv (e + 1) x) := fun x hx hE hf => by
            by_cases h1 : x < t
            · exact NF.out x h1 hE hf
            · have := M4.out x (by omega) hx
              have hE' : endsF L u labels 4 x = true := hE
              rw [this] at hE'
              cases hE'
          clear m1 m3 m4 m5 hcur hcj LT NF
          have hpD : p.length < D := by have := GR.out.len; omega
          have hszp : p.length ≤ 300 := by omega
          have PA : Hid (Ints w2.heap.size (w4.alloc (.cells #[.int .i64 m] 3)) (.slice (some ⟨gb, 0, none⟩) (p.length + 1) cap) (S :: p)) := P4.out.later (below_box _ _)
          have CA : Hid ((w4.alloc (.cells #[.int .i64 m] 3)).cell? ⟨w4.heap.size, 0, none⟩ = some (.int .i64 m)) := new_cells w4 #[.int .i64 m] 3 0
          have GA : Hid (Gro (fun k => w2.heap.size ≤ k) w2 (w4.alloc (.cells #[.int .i64 m] 3))) := G4.out.trans (Gro.of_below (below_box _ _))
          have GS : Hid (Fits T dv (e + 1) m → Gre (edge L labels) n S T D (p ++ [m]) m e) := fun hf => GR.out.step D2.out m2 M3.out hf NF3.out
          clear NF3 GR P4 M1 M4
          cases e with
          | zero =>
            by_cases hmT : m = T
            · subst hmT
              have GN := hid (GS.out ((fits_one m dv m).2 rfl))
              have hmm : ((m : Int) == (m : Int)) = true := by simp
              clear GS NF2 cm fm
              go_wp2_with (at_builtin; refine wpList_append_ints _ rfl _ _ rfl w2.heap.size (by have := G4.out.size; simp; omega) _ (S :: p) rfl PA.out w4.heap.size m 1 rfl CA.out (by simp; omega) ?_; intro g5 cap5 w5 q1 q2; have Q1 := hid q1; have Q2 := hid (GA.out.trans q2); clear q1 q2)
              go_roundg (0)
              · exact ⟨p ++ [m], m, 0, g5, cap5, by go_num, by omega, by omega, by simp, rfl, by simp; omega, GN.out, by show Ints _ _ _ _; have := Q1.out; simpa using this, Q2.out⟩
              · omega
            · have hne : ((m : Int) == (T : Int)) = false := by simp; omega
              have hne2 : ¬ ((m : Int) = (T : Int)) := by omega
              have NFX := hid (NF2.out (fun hf => hmT ((fits_one T dv m).1 hf)))
              clear GS NF2 cm fm
              go_wp2_with fail
              go_roundg ((lst (endsF L u labels 4) n).length - (j + 1))
              · exact ⟨j + 1, m + 1, by omega, by omega, by go_num, rfl, by omega, M5.out, NFX.out, rfl⟩
              · omega
          | succ e =>
            have hgt : (1 : Int) < (e : Int) + 1 + 1 := by omega
            have hn1 : ¬ ((e : Int) + 1 + 1 = 1) := by omega
            have hei : (e : Int) + 1 + 1 ≤ 300 := by omega
            by_cases hx : dI dv m = (e : Int) + 1
            · have GN := hid (GS.out ((fits_dec T dv e m).2 hx))
              rw [hx] at cm
              have hxx : ((e : Int) + 1 == (e : Int) + 1) = true := by simp
              clear GS NF2 fm hx
              go_wp2_with (at_builtin; refine wpList_append_ints _ rfl _ _ rfl w2.heap.size (by have := G4.out.size; simp; omega) _ (S :: p) rfl PA.out w4.heap.size m 1 rfl CA.out (by simp; omega) ?_; intro g5 cap5 w5 q1 q2; have Q1 := hid q1; have Q2 := hid (GA.out.trans q2); clear q1 q2)
              go_roundg (e + 1)
              · exact ⟨p ++ [m], m, e + 1, g5, cap5, by go_num, by omega, by omega, by simp, rfl, by simp; omega, GN.out, by show Ints _ _ _ _; have := Q1.out; simpa using this, Q2.out⟩
              · omega
            · have NFX := hid (NF2.out (fun hf => hx ((fits_dec T dv e m).1 hf)))
              generalize dI dv m = X at *
              have hxf : (X == (e : Int) + 1) = false := by simp; exact hx
              clear GS NF2 fm
              go_wp2_with fail
              go_roundg ((lst (endsF L u labels 4) n).length - (j + 1))
              · exact ⟨j + 1, m + 1, by omega, by omega, by go_num, rfl, by omega, M5.out, NFX.out, rfl⟩
              · omega
        · exfalso
          have hE := lst_end (endsF L u labels 4) n t j htn LT.out hjl
          obtain ⟨m, h1, h2, h3⟩ := GR.out.fits D2.out
          by_cases hmt : m < t
          · exact NF.out m hmt h2 h3
          · have := hE m (by omega) h1
            have h2' : endsF L u labels 4 m = true := h2
            rw [this] at h2'
            cases h2'
end Go.Proofs.YtjgmkigfpjmlaabDoor
