/-
  join, New, isMade, Add, Less, Sure.
-/
import Derived.Test.YtmnfmilgpglfcaaK2
import Derived.Test.YtmnfmilgpglfcaaB13
namespace Go.Proofs.Ytmnfmilgpglfcaa
set_option linter.unusedVariables false
set_option linter.unusedSimpArgs false
open Go.RowKit

theorem Gro.beside {P : Nat → Prop} {w w' : World} {c : Nat} (h : Beside c w w') (hc : P c) : Gro P w w' := ⟨h.os, h.tape, h.output, h.size, fun k hk hn => h.block k hk (fun e => hn (e ▸ hc))⟩
theorem Gro.mono {P Q : Nat → Prop} {w w' : World} (h : Gro P w w') (hq : ∀ k, P k → Q k) : Gro Q w w' := ⟨h.os, h.tape, h.output, h.size, fun k hk hn => h.block k hk (fun hp => hn (hq k hp))⟩
theorem RowsAt.step {w w' : World} {r n : Nat} {bk ck : Nat → Nat} {R : Nat → Nat → Bool} (h : RowsAt w r n bk ck R) (k : Nat) (hk : k < n) {f : Nat → Bool} (hs : Is w' (bk k) n (ck k) f) (hb : Beside (ck k) w w') : RowsAt w' r n bk ck (fun i => if i = k then f else R i) := by
  obtain ⟨cur, h1, h2⟩ := h.row
  obtain ⟨cs, h3⟩ := (h.sets k hk).words
  refine ⟨⟨cur, (hb.block r (blt h1) (tags h1 h3 (by decide))).trans h1, h2⟩, fun j hj => ?_, h.apart⟩
  by_cases e : j = k
  · subst e
    rw [if_pos rfl]
    exact hs
  · rw [if_neg e]
    exact (h.sets j hj).beside_set (h.sets k hk) (h.apart j k hj hk e) hb
/-- The first k rows are joined. -/
def rj (R : Nat → Nat → Bool) (a b k : Nat) : Nat → Nat → Bool := fun i j => if i < k then joinR R a b i j else R i j
theorem rj_yes (R : Nat → Nat → Bool) (a b k : Nat) (h : (k == a || R k a) = true) (i j : Nat) : (if i = k then (fun j => rj R a b k k j || (j == b || R b j)) else rj R a b k i) j = rj R a b (k + 1) i j := by
  unfold rj
  by_cases e : i = k
  · subst e
    rw [if_pos rfl, if_neg (by omega), if_pos (by omega)]
    unfold joinR
    rw [h, Bool.true_and]
  · rw [if_neg e]
    by_cases e2 : i < k
    · rw [if_pos e2, if_pos (by omega)]
    · rw [if_neg e2, if_neg (by omega)]
theorem rj_no (R : Nat → Nat → Bool) (a b k : Nat) (h : (k == a || R k a) = false) (i j : Nat) : rj R a b k i j = rj R a b (k + 1) i j := by
  unfold rj
  by_cases e : i = k
  · subst e
    rw [if_neg (by omega), if_pos (by omega)]
    unfold joinR
    rw [h, Bool.false_and, Bool.or_false]
  · by_cases e2 : i < k
    · rw [if_pos e2, if_pos (by omega)]
    · rw [if_neg e2, if_neg (by omega)]
theorem rj_row (R : Nat → Nat → Bool) (a b k j : Nat) : rj R a b k k j = R k j := by
  unfold rj
  rw [if_neg (by omega)]

set_option maxHeartbeats 4000000 in
theorem join_is (r n : Nat) (bk ck : Nat → Nat) (R : Nat → Nat → Bool) (a b : Nat) (w : World) (h : RowsAt w r n bk ck R) (hn : n ≤ 300) (ha : a < n) (hb : b < n) (hT : Tr R) :
    Calls Try.prog 18 #[.slice (some ⟨r, 0, none⟩) n n, .int .i64 a, .int .i64 b] w fun e w' => e = .returned (.tuple #[]) ∧ RowsAt w' r n bk ck (joinR R a b) ∧ Gro (Wds n ck) w w' := by
  have HR := hid h
  have HT := hid hT
  clear h hT
  have A := hid (ahead_any r n bk ck R a b w HR.out hn)
  rw [ahd_nat R n a b ha hb] at A
  cases hab : R a b with
  | true =>
    have E := hid (joinR_same HT.out hab)
    rw [hab] at A
    clear hab
    go_enter Try.func18, Try.ntmps18
    go_wp2_with (go_at_call 13; refine A.out.mono ?_; rintro e w' ⟨rfl, rfl⟩)
    refine bodyPost_ret (v := .tuple #[]) (by simp [results, go_sem]) rfl ⟨rfl, by rw [E.out]; exact HR.out, Gro.refl _ _⟩
  | false =>
    rw [hab] at A
    clear hab HT
    have cb := HR.out.cell b hb
    have hbi : (b : Int) < n := by omega
    have hni : (n : Int) ≤ 300 := by omega
    have SB := hid (HR.out.sets b hb)
    go_enter Try.func18, Try.ntmps18
    go_wp2_with (go_at_call 13; refine A.out.mono ?_; rintro e w' ⟨rfl, rfl⟩)
    go_at_call 22
    refine (copy_is _ _ _ _ _ SB.out).mono ?_
    rintro e w1 ⟨rfl, s1, b1, z1⟩
    have S1 := hid s1
    have B1 := hid b1
    have R1 := hid (HR.out.later b1)
    clear s1 b1 SB A cb z1
    go_wp2_with fail
    go_at_call 23
    refine (add_is _ _ _ _ b _ S1.out hb).mono ?_
    rintro e w2 ⟨rfl, s2, b2, z2⟩
    have S2 := hid s2
    have FAR : Hid (∀ k, k < n → ck k < w.heap.size ∧ bk k < w.heap.size) := fun k hk => ⟨(HR.out.sets k hk).blt.2, (HR.out.sets k hk).blt.1⟩
    have RLT : Hid (r < w.heap.size) := by obtain ⟨cur, h1, _⟩ := HR.out.row; exact blt h1
    have G2 : Hid (Gro (Wds n ck) w w2) := ⟨b2.os.trans B1.out.os, b2.tape.trans B1.out.tape, b2.output.trans B1.out.output, Nat.le_trans B1.out.size b2.size, fun k hk _ => (b2.block k (Nat.lt_of_lt_of_le hk B1.out.size) (by omega)).trans (B1.out.block k hk)⟩
    have R2 : Hid (RowsAt w2 r n bk ck (rj R a b 0)) := by
      have g : Gro (fun x => x = w.heap.size) w1 w2 := Gro.beside b2 rfl
      exact (R1.out.gro g (by have := RLT.out; omega) (fun k hk => by have := (FAR.out k hk).2; omega) (fun k hk => by have := (FAR.out k hk).1; omega)).congr (fun i j _ => by unfold rj; rw [if_neg (by omega)])
    clear s2 b2 z2 S1 B1 R1 HR
    go_wp2_with fail
    go_loopg [7, 8, 23] n (fun g _ _ i wr => ∃ k : Nat, k ≤ n ∧ n - k ≤ g ∧ i = .int .i64 k ∧ Aside (RowsAt wr r n bk ck (rj R a b k)) ∧ Aside (Is wr (w.heap.size + 1) n w.heap.size (fun j => j == b || R b j)) ∧ Aside (Gro (Wds n ck) w wr))
    case atStart => exact ⟨0, Nat.zero_le _, by omega, rfl, R2.out, S2.out, G2.out⟩
    case round =>
      clear R2 S2 G2
      obtain ⟨k, hk, hg, rfl, RX, SX, GX⟩ := hrel
      by_cases hlt : k < n
      · have hlti : (k : Int) < n := by omega
        have ckk := RX.out.cell k hlt
        have SK := hid (RX.out.sets k hlt)
        have OR := hid (or_is _ _ _ _ _ _ _ _ SK.out SX.out (by have := (FAR.out k hlt).1; omega) (by have := (FAR.out k hlt).1; omega))
        have HA := hid (has_is _ _ _ _ a _ SK.out ha)
        rw [rj_row] at HA
        by_cases hka : k = a
        · have hq : ((k : Int) == (a : Int)) = true := by simp [hka]
          have YES := hid (rj_yes R a b k (by simp [hka]))
          clear hka
          go_wp2_with fail
          go_at_call 24
          refine OR.out.mono ?_
          rintro e w3 ⟨⟨t, rfl, -⟩, s3, b3, z3⟩
          have R3 := hid ((RX.out.step k hlt s3 b3).congr (fun i j _ => YES.out i j))
          have S3 := hid (SX.out.beside_set SK.out (by have := (FAR.out k hlt).1; omega) b3)
          have G3 := hid (GX.out.trans (Gro.beside b3 ⟨k, hlt, rfl⟩))
          clear s3 b3 z3 RX SX GX YES OR HA SK
          go_wp2_with fail
          go_roundg (n - (k + 1))
          · exact ⟨k + 1, by omega, by omega, by go_num, R3.out, S3.out, G3.out⟩
          · omega
        · have hq : ((k : Int) == (a : Int)) = false := by simp; omega
          cases hR : R k a with
          | true =>
            have YES := hid (rj_yes R a b k (by simp [hR]))
            rw [hR] at HA
            clear hR hka
            go_wp2_with (go_at_call 14; refine HA.out.mono ?_; rintro e w' ⟨rfl, rfl⟩)
            go_at_call 24
            refine OR.out.mono ?_
            rintro e w3 ⟨⟨t, rfl, -⟩, s3, b3, z3⟩
            have R3 := hid ((RX.out.step k hlt s3 b3).congr (fun i j _ => YES.out i j))
            have S3 := hid (SX.out.beside_set SK.out (by have := (FAR.out k hlt).1; omega) b3)
            have G3 := hid (GX.out.trans (Gro.beside b3 ⟨k, hlt, rfl⟩))
            clear s3 b3 z3 RX SX GX YES OR HA SK
            go_wp2_with fail
            go_roundg (n - (k + 1))
            · exact ⟨k + 1, by omega, by omega, by go_num, R3.out, S3.out, G3.out⟩
            · omega
          | false =>
            have NO := hid (rj_no R a b k (by simp [hR]; exact hka))
            rw [hR] at HA
            clear hR hka
            go_wp2_with (go_at_call 14; refine HA.out.mono ?_; rintro e w' ⟨rfl, rfl⟩)
            go_roundg (n - (k + 1))
            · exact ⟨k + 1, by omega, by omega, by go_num, RX.out.congr (fun i j _ => NO.out i j), SX.out, GX.out⟩
            · omega
      · have hlti : ¬ (k : Int) < n := by omega
        obtain rfl : n = k := by omega
        have E : Hid (RowsAt wr r n bk ck (joinR R a b)) := RX.out.congr (fun i j hi => by unfold rj; rw [if_pos hi])
        go_wp2_with fail
        refine bodyPost_end (results_none rfl _ _ _) rfl ⟨rfl, E.out, GX.out⟩
end Go.Proofs.Ytmnfmilgpglfcaa
