/-
  The law ClosureLives.
-/
import Derived.Test.YtmnfmilgpglfcaaDoorL0
namespace Go.Proofs.YtmnfmilgpglfcaaDoor
set_option linter.unusedVariables false
set_option linter.unusedSimpArgs false
open Go.RowKit

/-- Nothing that was there has turned. -/
def Beh (w w' : World) : Prop := Below w.heap.size w w'
theorem allP_le {n : Nat} (R : Nat → Nat → Bool) (hn : n ≤ 300) : (allP R n n).length ≤ 1000000 := by
  have h1 := allP_len R n n
  have h2 : n * n ≤ 300 * 300 := Nat.mul_le_mul hn hn
  omega
theorem lives_off (n x y : Int) (ao : Option Addr) (cp : Nat) (zs : List (Int × Int × Bool)) (w : World) (hz : ArgP w ao zs) (hl : zs.length ≤ maxLen) (hn : n < 0 ∨ 300 < n) :
    Calls Tryd.prog 3 #[.int .i64 n, .slice ao zs.length cp, .int .i64 x, .int .i64 y] w fun e w' => e = .returned (.bool true) ∧ Below w.heap.size w w' := by
  have A := hid (added_no n hn ao cp zs w hz hl)
  clear hn hz
  go_enter Tryd.func3, Tryd.ntmps3
  go_wp2_with (go_at_call 7; refine A.out.mono ?_; rintro e w1 ⟨rfl, bl⟩; have BL := hid bl; clear bl)
  go_ret
  exact ⟨rfl, BL.out⟩

set_option maxHeartbeats 8000000 in
set_option maxRecDepth 100000 in
theorem lives_on (n : Nat) (x0 y0 : Int) (ao : Option Addr) (cp : Nat) (zs : List (Int × Int × Bool)) (w : World) (hz : ArgP w ao zs) (hl : zs.length ≤ maxLen) (hcap : zs.length ≤ cp) (hcm : cp ≤ maxLen) (hnil : ao = none → cp = 0) (hn : n ≤ 300) (hT : Tab w) :
    Calls Tryd.prog 3 #[.int .i64 n, .slice ao zs.length cp, .int .i64 x0, .int .i64 y0] w fun e w' => e = .returned (.bool true) ∧ Below w.heap.size w w' := by
  obtain ⟨i0, hi, hz'⟩ := Option.map_eq_some_iff.1 Tryd.info28
  simp only [Prod.mk.injEq] at hz'
  obtain ⟨hz0, hz1, hz2⟩ := hz'
  have HI := hid hi
  have HZ0 := hid hz0
  have HZ1 := hid hz1
  have HZ2 := hid hz2
  clear hi hz0 hz1 hz2
  have HZ := hid hz
  have TB := hid hT
  have HL := hid hl
  have HN := hid hnil
  unfold maxLen at hl hcm
  have hcpi : (cp : Int) ≤ 9223372036854775807 := by omega
  have hlcp : (zs.length : Int) ≤ cp := by omega
  have hl0 : (0 : Int) ≤ zs.length := by omega
  clear hz hT hnil
  go_enter Tryd.func3, Tryd.ntmps3
  go_wp2_with fail
  go_at_call 7
  refine (added_ok n hn ao cp zs w HZ.out HL.out).mono ?_
  rintro e w1 ⟨⟨b, b2, rfl, h1⟩, bl⟩
  have BO := hid h1
  have B1 := hid bl
  have T1 := hid (TB.out.later bl)
  have Z1 := hid (HZ.out.later bl)
  clear h1 bl
  have PL : Hid ((psOf n (zs.take 100)).length ≤ 1000) := by
    show _ ≤ _
    have h1 := psOf_len n (zs.take 100)
    have h2 : (zs.take 100).length ≤ 100 := by simp; omega
    omega
  obtain ⟨ps, hps⟩ : ∃ ps, psOf n (zs.take 100) = ps := ⟨_, rfl⟩
  rw [hps] at BO PL
  clear hps HZ TB HL
  obtain ⟨m, hm⟩ : ∃ m : Nat, min (zs.length : Int) 30 = (m : Int) := ⟨min zs.length 30, by omega⟩
  have hmle : m ≤ 30 := by omega
  have hmz : m ≤ zs.length := by omega
  have hmi : (m : Int) ≤ zs.length := by omega
  have hmi0 : (0 : Int) ≤ m := by omega
  have hmcp : (m : Int) ≤ cp := by omega
  have hm30 : (m : Int) ≤ 30 := by omega
  obtain ⟨qs, hqs⟩ : ∃ qs, (x0, y0, false) :: zs.take m = qs := ⟨_, rfl⟩
  have EV : Hid (esV [(x0, y0, false)] ++ esV (zs.take m) = esV qs) := by
    show _ = _
    rw [← hqs, ← esV_app]
    rfl
  have EL : Hid (1 + m = qs.length) := by
    show _ = _
    rw [← hqs, List.length_cons, List.length_take]
    omega
  have hq31 : qs.length ≤ 31 := by have := EL.out; omega
  have hq31i : (qs.length : Int) ≤ 31 := by omega
  have OWN : Hid (∀ v4 w4, w4.ownsRow w1.heap.size 28 3 v4 (1 + m) (esV [(x0, y0, false)] ++ esV (zs.take m)) → ∃ a4 c4, v4 = .slice a4 qs.length c4 ∧ ArgP w4 a4 qs) := fun v4 w4 h => by
    have h2 : w4.ownsRow w1.heap.size 28 3 v4 qs.length (esV qs) := by rw [← EL.out, ← EV.out]; exact h
    exact own_arg h2
  clear hqs EV EL
  have O1 := hid (own_one28 w1 w1.heap.size (Nat.le_refl _) x0 y0 false)
  have AL : Hid (Below w1.heap.size w1 (w1.alloc (.cells #[.int .i64 x0, .int .i64 y0, .bool false] 28))) := below_box w1 _
  have GOAL : Hid (∀ w4, Below w1.heap.size w1 w4 → BothO w.heap.size w4 b b2 n ps ∧ Tab w4 ∧ Below w.heap.size w w4) := fun w4 hb => ⟨BO.out.later hb, T1.out.later hb, B1.out.trans (hb.mono B1.out.size)⟩
  rcases ao with _ | ad
  focus
    have hcp0 := HN.out rfl
    subst hcp0
    have hzl : zs = [] := List.length_eq_zero_iff.1 (by omega)
    have hm0 : m = 0 := by omega
    subst hzl
    subst hm0
    clear hcpi hlcp hl0 hmle hmz hmi hmi0 hmcp hm30 hm hl hcap hcm Z1 HN
    obtain ⟨a4, c4, hv, q4⟩ := OWN.out (.slice (some ⟨w1.heap.size, 0, none⟩) 1 1) _ (by simpa [esV] using O1.out)
    have HV := hid hv
    have Q4 := hid q4
    have G4 := hid (GOAL.out _ AL.out)
    clear hv q4 OWN GOAL AL
    go_wp2_with (at_builtin; refine wpList_append_own_none rfl _ _ 22 rfl w1.heap.size 28 i0 3 Tryd.underlying22 HI.out (.slice (some ⟨w1.heap.size, 0, none⟩) 1 1) 1 (esV [(x0, y0, false)]) rfl O1.out rfl ?_; rw [HV.out]; clear HV O1; generalize w1.alloc (.cells #[.int .i64 x0, .int .i64 y0, .bool false] 28) = w4 at *)
  rotate_left
  focus
    have AC : Hid (∀ j u, (esV (zs.take m))[j]? = some u → (w1.alloc (.cells #[.int .i64 x0, .int .i64 y0, .bool false] 28)).cell? (ad.add j) = some u) := by
      intro j u hj
      have hlt : j < (zs.take m).length * 3 := by rw [← esV_len]; exact (List.getElem?_eq_some_iff.1 hj).1
      have hlt2 : 0 < zs.length := by rw [List.length_take] at hlt; omega
      obtain ⟨bz, oz, hbz, -⟩ := Z1.out 0 hlt2
      cases hbz
      rw [Addr.add_lit]
      exact Lib.cell?_alloc_some _ (esV_cell (Z1.out.take m) j u hj)
    have LE : Hid ((esV (zs.take m)).length = m * 3) := by show _ = _; rw [esV_len, List.length_take]; omega
    clear HN hl hcap hcm
    go_wp2_with (at_builtin; refine wpList_append_own _ rfl _ _ 22 rfl w1.heap.size 28 i0 (.agg #[.int .i64 0, .int .i64 0, .bool false]) 3 24 Tryd.underlying22 HI.out HZ0.out HZ1.out HZ2.out rfl (by decide) (.slice (some ⟨w1.heap.size, 0, none⟩) 1 1) 1 (esV [(x0, y0, false)]) rfl O1.out ad m cp (esV (zs.take m)) rfl LE.out AC.out (esV_one _) (by unfold maxLen; omega) (by omega) (by simp) ?_; intro v4 w4 o4 g4 h4; obtain ⟨a4, c4, rfl, q4⟩ := OWN.out v4 w4 o4; have Q4 := hid q4; have G4 := hid (GOAL.out w4 (AL.out.grown g4 (by simp) (by intro k hk; simp [Value.ownBlock] at hk; omega))); clear o4 g4 h4 q4)
    clear AC LE OWN O1 AL GOAL hmi hmi0 hmcp hm30 hm hcpi hlcp hl0 hmle hmz
  all_goals
    obtain ⟨bo4, t4, b4⟩ := G4.out
    have BO4 := hid bo4
    have T4 := hid t4
    have B4 := hid b4
    clear bo4 t4 b4 G4 BO T1 B1
    go_loopg [13, 39] qs.length (fun g _ i wr => ∃ j : Nat, j ≤ qs.length ∧ qs.length - j ≤ g ∧ i = .int .i64 j ∧ Aside (Below w4.heap.size w4 wr))
    case atStart => exact ⟨0, Nat.zero_le _, by omega, rfl, Below.refl _ _⟩
    case round =>
      obtain ⟨j, hj, hg, rfl, BX⟩ := hrel
      by_cases hjl : j < qs.length
      · have hjli : (j : Int) < qs.length := by omega
        obtain ⟨bz, oz, rfl, k1, k2, k3⟩ := Q4.out.later BX.out j hjl
        generalize (qs.getD j (0, 0, false)).1 = x at *
        generalize (qs.getD j (0, 0, false)).2.1 = y at *
        generalize (qs.getD j (0, 0, false)).2.2 = z at *
        go_wp2_with fail
        have KB : Hid ((wr.alloc (.cells #[.int .i64 x, .int .i64 y, .bool z] 28)).heap[wr.heap.size]? = some (.cells #[.int .i64 x, .int .i64 y, .bool z] 28)) := heap_alloc_new wr _
        have B2 : Hid (Below w4.heap.size w4 (wr.alloc (.cells #[.int .i64 x, .int .i64 y, .bool z] 28))) := BX.out.trans ((below_box wr _).mono BX.out.size)
        clear BX k1 k2 k3
        generalize wr.alloc (.cells #[.int .i64 x, .int .i64 y, .bool z] 28) = W at *
        generalize wr.heap.size = kb at *
        have K0 : W.cell? ⟨kb, 0, none⟩ = some (.int .i64 x) := Lib.cell_of_heap KB.out 0
        have K1 : W.cell? ⟨kb, 1, none⟩ = some (.int .i64 y) := Lib.cell_of_heap KB.out 1
        have TWO := hid (BO4.out.later B2.out)
        have CK : Hid (∀ w', Beh W w' → w'.cell? ⟨kb, 0, none⟩ = some (.int .i64 x) ∧ w'.cell? ⟨kb, 1, none⟩ = some (.int .i64 y)) := fun w' hb => ⟨Lib.cell_of_heap ((hb.block kb (blt KB.out)).trans KB.out) 0, Lib.cell_of_heap ((hb.block kb (blt KB.out)).trans KB.out) 1⟩
        have LESS : Hid (∀ (w' : World) (u v : Int), Beh W w' → Calls Tryd.prog 8 #[.pointer (some ⟨b, 0, none⟩), .int .i64 u, .int .i64 v] w' fun e w'' => e = .returned (.bool (ahd (clR (sel false ps)) n u v)) ∧ w' = w'') := fun w' u v hb => less_any _ b n _ _ u v w' (TWO.out.1.later hb)
        have SURE : Hid (∀ (w' : World) (u v : Int), Beh W w' → Calls Tryd.prog 10 #[.pointer (some ⟨b, 0, none⟩), .int .i64 u, .int .i64 v] w' fun e w'' => e = .returned (.bool (ahd (clR (sel true ps)) n u v)) ∧ w' = w'') := fun w' u v hb => sure_any _ b n _ _ u v w' (TWO.out.1.later hb)
        have RLESS : Hid (∀ (w' : World) (u v : Int), Beh W w' → Calls Tryd.prog 9 #[.pointer (some ⟨b2, 0, none⟩), .int .i64 u, .int .i64 v] w' fun e w'' => e = .returned (.bool (ahd (clR (sel false ps)) n u v)) ∧ Beh W w'') := fun w' u v hb => (rless_any _ b2 n ps u v w' (TWO.out.2.later hb) PL.out).mono fun e w'' ⟨h1, h2⟩ => ⟨h1, Below.trans hb (h2.mono hb.size)⟩
        have RSURE : Hid (∀ (w' : World) (u v : Int), Beh W w' → Calls Tryd.prog 11 #[.pointer (some ⟨b2, 0, none⟩), .int .i64 u, .int .i64 v] w' fun e w'' => e = .returned (.bool (ahd (clR (sel true ps)) n u v)) ∧ Beh W w'') := fun w' u v hb => (rsure_any _ b2 n ps u v w' (TWO.out.2.later hb) PL.out).mono fun e w'' ⟨h1, h2⟩ => ⟨h1, Below.trans hb (h2.mono hb.size)⟩
        have BD : Beh W W.drew := (Below.refl _ _).drew
        obtain ⟨lf, hlf⟩ : ∃ f, ahd (clR (sel false ps)) n = f := ⟨_, rfl⟩
        obtain ⟨sf, hsf⟩ : ∃ f, ahd (clR (sel true ps)) n = f := ⟨_, rfl⟩
        rw [hlf] at LESS RLESS
        rw [hsf] at SURE RSURE
        clear hlf hsf
        have e1 : (lf x y == lf x y) = true := by simp
        have e2 : (sf x y == sf x y) = true := by simp
        have e3 : (lf y x == lf y x) = true := by simp
        go_region_held3 (fun w' => w'.cell? ⟨kb, 0, none⟩ = some (.int .i64 x) ∧ w'.cell? ⟨kb, 1, none⟩ = some (.int .i64 y)) (go_keep) (first
          | (go_at_call 8; refine (LESS.out _ _ _ (by assumption)).mono ?_; rintro e w' ⟨rfl, rfl⟩)
          | (go_at_call 9; refine (RLESS.out _ _ _ (by assumption)).mono ?_; rintro e w' ⟨rfl, bb⟩; obtain ⟨q0, q1⟩ := CK.out _ bb)
          | (go_at_call 10; refine (SURE.out _ _ _ (by assumption)).mono ?_; rintro e w' ⟨rfl, rfl⟩)
          | (go_at_call 11; refine (RSURE.out _ _ _ (by assumption)).mono ?_; rintro e w' ⟨rfl, bb⟩; obtain ⟨q0, q1⟩ := CK.out _ bb))
        all_goals (try go_wp2_with fail)
        have BN := hid (B2.out.trans (Below.mono bb B2.out.size))
        go_roundg (qs.length - (j + 1))
        · exact ⟨j + 1, by omega, by omega, by go_num, BN.out⟩
        · omega
      · have hjli : ¬ (j : Int) < qs.length := by omega
        have P1 := hid (pairs_is _ b n _ _ _ (BO4.out.1.later BX.out) (T4.out.later BX.out))
        have LP := hid (allP_le (clR (sel false ps)) hn)
        go_wp2_with fail
        go_at_call 13
        refine P1.out.mono ?_
        rintro e w5 ⟨⟨v5, rfl, p5⟩, bl⟩
        have B5 := hid (BX.out.trans (bl.mono BX.out.size))
        obtain ⟨a5, c5, rfl, q5⟩ := p5.arg
        have Q5 := hid q5
        clear bl p5 q5 P1 BX
        have P2 := hid (rpairs_is _ b2 n ps w5 (BO4.out.2.later B5.out) PL.out)
        go_wp2_with fail
        go_at_call 14
        refine P2.out.mono ?_
        rintro e w6 ⟨⟨v6, rfl, p6⟩, bl⟩
        have B6 := hid (B5.out.trans (bl.mono B5.out.size))
        obtain ⟨a6, c6, rfl, q6⟩ := p6.arg
        have Q6 := hid q6
        have Q56 := hid (Q5.out.later bl)
        clear bl p6 q6 P2 B5 Q5
        go_wp2_with fail
        go_at_call 12
        refine (equal_prs a5 a6 c5 c6 _ w6 Q56.out Q6.out LP.out).mono ?_
        rintro e w7 ⟨rfl, q, rfl⟩
        have B7 := hid (below_drewN B6.out q)
        clear Q56 Q6 B6 LP
        generalize w6.drewN q = w7 at *
        have C1 := hid (cyclic_is _ b n _ _ w7 (BO4.out.1.later B7.out))
        have C2 := hid (rcyclic_is _ b2 n ps w7 (BO4.out.2.later B7.out) PL.out)
        generalize cyc (clR (sel false ps)) n = cc at *
        have hcc : (cc == cc) = true := by simp
        go_wp2_with fail
        go_at_call 15
        refine C1.out.mono ?_
        rintro e w' ⟨rfl, rfl⟩
        go_wp2_with fail
        go_at_call 16
        refine C2.out.mono ?_
        rintro e w8 ⟨rfl, bl⟩
        have B8 := hid (B4.out.trans ((B7.out.trans (bl.mono B7.out.size)).mono B4.out.size))
        clear bl
        go_wp2_with fail
        go_ret
        exact ⟨rfl, B8.out⟩
end Go.Proofs.YtmnfmilgpglfcaaDoor
