/-
  The law CompsLeads.
-/
import Derived.Test.YtjgmkigfpjmlaaaDoorO6
namespace Go.Proofs.YtjgmkigfpjmlaaaDoor
set_option linter.unusedVariables false
set_option linter.unusedSimpArgs false
open Go.RowKit Go.Maps

set_option maxHeartbeats 8000000 in
set_option maxRecDepth 100000 in
theorem leads_walk (n0 : Int) (ao : Option Addr) (cp : Nat) (es : List (Int × Int × Int)) (labels : Int) (w : World) (hz : ArgE w ao es) (hl : es.length ≤ maxLen) (hT : Tab w) :
    Calls Tryd.prog 6 #[.int .i64 n0, .slice ao es.length cp, .int .i64 labels] w fun e w' => e = .returned (.bool true) ∧ Below w.heap.size w w' := by
  obtain ⟨n, hn, hD0⟩ := u64_tmod n0 60 (by decide) (by decide)
  have hD : (IntKind.u64.wrap n0).tmod 60 = (n : Int) := hD0
  clear hD0
  have DR := hid (drawn_P n0 n hn hD ao cp es w hz hl)
  have TB := hid hT
  have hni : (n : Int) < 60 := by omega
  have hmm := @run_makeMap Tryd.prog
  clear hz hT hD
  go_enter Tryd.func6, Tryd.ntmps6
  go_wp2_with (go_at_call 9; refine DR.out.mono ?_; rintro e w1 ⟨⟨b, b2, rfl, h1⟩, bl⟩; have BO := hid h1; have B1 := hid bl; clear h1 bl)
  obtain ⟨r, bk, ck, v, rw', L, hG, hR, -, -, -⟩ := BO.out
  have G := hid hG
  have R := hid hR
  have T1 := hid (TB.out.later B1.out)
  clear hG hR BO DR TB
  go_at_call 14
  refine (order_is b n r bk ck L labels w1 G.out T1.out).mono ?_
  rintro e w2 ⟨⟨v2, l, ok, rfl, i2, io⟩, b2'⟩
  have I2 := hid i2
  have IOx := hid io
  have B2 := hid b2'
  obtain ⟨oa, oc, hv2⟩ := i2.form
  subst hv2
  clear i2 io b2' T1 G
  go_wp2_with fail
  go_at_call 17
  refine (rcyc_is b2 n v rw' L labels w2 (R.out.later B2.out)).mono ?_
  rintro e w3 ⟨⟨l', ok', rfl, io'⟩, b3⟩
  obtain ⟨-, rfl⟩ := io'.uniq IOx.out
  have B3 := hid (B2.out.trans (b3.mono B2.out.size))
  have I3 := hid (I2.out.later b3)
  clear io' b3 I2 B2
  have R3 := hid (R.out.later B3.out)
  obtain ⟨ga, gc, hgv, -⟩ := R3.out.form
  have c0 := R3.out.c0
  rw [hgv] at c0
  clear hgv
  have hll : l.length ≤ n := by
    rcases IOx.out with ⟨_, h1, h2⟩ | ⟨_, h1, _⟩
    · omega
    · rw [h1]; exact Nat.zero_le _
  have hlli : (l.length : Int) < 60 := by omega
  have BG : Hid (Beg (edge L labels) n l) := by
    rcases IOx.out with ⟨_, h1, h2⟩ | ⟨_, h1, _⟩
    · exact h1
    · rw [h1]; exact Beg.nil _ _
  have OKL : Hid (ok' = true → l.length = n) := fun e => by
    rcases IOx.out with ⟨_, _, h2⟩ | ⟨h1, _⟩
    · exact h2
    · rw [h1] at e; cases e
  have hok : (ok' == !ok') = false := by cases ok' <;> rfl
  have SM : Hid (∀ z ∈ l, z ≤ 300) := fun z hz => by have := BG.out.at z hz; omega
  have ND : Hid (∀ i, i < l.length → l.getD i 0 ∉ l.take i) := fun i hi => (BG.out i hi).1.2.1
  have LQ : Hid (ok' = true → ((l.length : Int) == (n : Int)) = true) := fun e => by have := OKL.out e; simp [this]
  have M0 := hid (MI.made w3)
  have B4 : Hid (Below w1.heap.size w1 (w3.alloc (.map #[] 0))) := B3.out.trans ((below_box w3 _).mono B3.out.size)
  have I4 : Hid (Ints w1.heap.size (w3.alloc (.map #[] 0)) (.slice oa l.length oc) l) := I3.out.later (below_box w3 _)
  have Z4 : Hid (w3.heap.size < (w3.alloc (.map #[] 0)).heap.size) := by show _ < _; simp
  have MB1 : Hid (w1.heap.size ≤ w3.heap.size) := B3.out.size
  have R4 := hid (R.out.later B4.out)
  clear I3
  cases ok'
  · clear OKL LQ
    go_wp2_with fail
    clear hmm c0
    generalize w3.alloc (.map #[] 0) = W0 at *
    go_loopg [13, 14, 53] l.length (fun g _ _ i wr => ∃ j : Nat, j ≤ l.length ∧ l.length - j ≤ g ∧ i = .int .i64 j ∧ Aside (MI wr w3.heap.size j (l.take j)) ∧ Aside (Below w1.heap.size w1 wr) ∧ Aside (Ints w1.heap.size wr (.slice oa l.length oc) l))
    case atStart => exact ⟨0, Nat.zero_le _, by omega, rfl, M0.out, B4.out, I4.out⟩
    case round =>
      clear M0 B4 I4 R4 Z4
      obtain ⟨j, hj, hg, rfl, MX, BX, IX⟩ := hrel
      by_cases hjl : j < l.length
      · have hjli : (j : Int) < l.length := by omega
        obtain ⟨a', c', e', hA⟩ := IX.out.arg
        obtain ⟨bz, oz, hbz, hc⟩ := hA j (by rw [List.length_map]; exact hjl)
        have em : (l.map fun x : Nat => (x : Int)).getD j 0 = ((l.getD j 0 : Nat) : Int) := by simp [hjl]
        rw [em] at hc
        injection e' with e1 e2 e3
        subst e1
        subst hbz
        have HNW := ND.out j hjl
        have HSM : ∀ z ∈ l.take j, z ≤ 300 := fun z hz => SM.out z (List.mem_of_mem_take hz)
        have HLN : (l.take j).length = j := by rw [List.length_take]; omega
        have HM3 := SM.out _ (getD_mem (d := 0) hjl)
        have TG := hid (take_get l j hjl)
        have KM := hid (fun w' (g : Gro (fun b => b = w3.heap.size) wr w') => IX.out.keepM MX.out g)
        generalize l.getD j 0 = m at *
        generalize l.take j = lt at *
        have NW := hid HNW
        have HS := hid HSM
        have HLE := hid HLN
        clear HNW HSM HLN hA em e2 e3 IX
        go_wp2_with (at_mapUpdate; refine wpList_mi _ rfl _ _ _ rfl w3.heap.size j lt rfl MX.out (by omega) m rfl (by rw [HLE.out]; rfl) HM3 NW.out (by rw [HLE.out]; omega) HS.out ?_; intro w5 q1 q2; have Q1 := hid q1; have Q2 := hid (BX.out.trans (q2.below w1.heap.size (fun k hk => by have := MB1.out; omega) BX.out.size)); have Q3 := hid (KM.out w5 q2); clear q1 q2)
        go_roundg (l.length - (j + 1))
        · exact ⟨j + 1, by omega, by omega, by go_num, (by show MI _ _ _ _; rw [TG.out]; exact Q1.out), Q2.out, Q3.out⟩
        · omega
      · have hjli : ¬ (j : Int) < l.length := by omega
        have hjeq : j = l.length := by omega
        have ML : Hid (MI wr w3.heap.size j l) := by
          have h := MX.out
          rw [List.take_of_length_le (by omega)] at h
          exact h
        clear MX IX hjeq
        go_wp2_with fail
        go_at_call 18
        refine (redges_is b2 n v rw' L wr (R.out.later BX.out)).mono ?_
        rintro e w5 ⟨⟨u, rfl, hE⟩, b5⟩
        obtain ⟨ea, ec, rfl, hEA⟩ := hE.arg
        have EA := hid hEA
        have M5 := hid (ML.out.later b5)
        have B5 := hid (BX.out.trans (b5.mono BX.out.size))
        have EL : (allE L n n).length ≤ 90000 := by
          have h1 := allE_len L n n
          have h2 : n * n ≤ 300 * 300 := Nat.mul_le_mul (by omega) (by omega)
          omega
        rw [List.length_map]
        have ELi : ((allE L n n).length : Int) ≤ 90000 := by omega
        have EM := hid (fun j (hj : j < (allE L n n).length) => allE_mem (getD_mem (d := ((0, 0, 0) : Nat × Nat × Nat)) hj))
        clear hE hEA b5 ML BX
        generalize allE L n n = A at *
        go_wp2_with fail
        go_loopg [16, 65] A.length (fun g _ i wr2 => ∃ q : Nat, q ≤ A.length ∧ A.length - q ≤ g ∧ i = .int .i64 q ∧ Aside (Below w5.heap.size w5 wr2))
        case atStart => exact ⟨0, Nat.zero_le _, by omega, rfl, Below.refl _ _⟩
        case round =>
          obtain ⟨q, hq, hgq, rfl, BY⟩ := hrel
          by_cases hql : q < A.length
          · have hqli : (q : Int) < A.length := by omega
            obtain ⟨bz, oz, rfl, k1, k2, k3⟩ := EA.out.later BY.out q (by rw [List.length_map]; exact hql)
            have eg : (A.map intE).getD q (0, 0, 0) = intE (A.getD q (0, 0, 0)) := by simp [List.getD, hql]
            rw [eg] at k1 k2 k3
            obtain ⟨m1, m2, m3⟩ := EM.out q hql
            generalize A.getD q (0, 0, 0) = e0 at *
            obtain ⟨f, t, x⟩ := e0
            dsimp only [intE] at k1 k2 k3 m1 m2 m3
            have BN : ∀ B, Hid (Below w5.heap.size w5 (wr.alloc B)) := fun B => BY.out.trans ((below_box wr _).mono BY.out.size)
            clear m3 eg
            go_wp2_with fail
            go_roundg (A.length - (q + 1))
            · exact ⟨q + 1, by omega, by omega, by go_num, (BN _).out⟩
            · omega
          · have hqli : ¬ (q : Int) < A.length := by omega
            have B6 : Hid (Below w.heap.size w wr) := B1.out.trans ((B5.out.trans (BY.out.mono B5.out.size)).mono B1.out.size)
            go_wp2_with fail
            go_quiet (fail)
            go_wp2_with fail
            go_ret
            exact ⟨rfl, below_drewN B6.out _⟩
  · have hnl := OKL.out rfl
    clear OKL LQ
    subst hnl
    go_wp2_with fail
    clear hmm c0
    generalize w3.alloc (.map #[] 0) = W0 at *
    go_loopg [13, 14, 53] l.length (fun g _ _ i wr => ∃ j : Nat, j ≤ l.length ∧ l.length - j ≤ g ∧ i = .int .i64 j ∧ Aside (MI wr w3.heap.size j (l.take j)) ∧ Aside (Below w1.heap.size w1 wr) ∧ Aside (Ints w1.heap.size wr (.slice oa l.length oc) l))
    case atStart => exact ⟨0, Nat.zero_le _, by omega, rfl, M0.out, B4.out, I4.out⟩
    case round =>
      clear M0 B4 I4 R4 Z4
      obtain ⟨j, hj, hg, rfl, MX, BX, IX⟩ := hrel
      by_cases hjl : j < l.length
      · have hjli : (j : Int) < l.length := by omega
        obtain ⟨a', c', e', hA⟩ := IX.out.arg
        obtain ⟨bz, oz, hbz, hc⟩ := hA j (by rw [List.length_map]; exact hjl)
        have em : (l.map fun x : Nat => (x : Int)).getD j 0 = ((l.getD j 0 : Nat) : Int) := by simp [hjl]
        rw [em] at hc
        injection e' with e1 e2 e3
        subst e1
        subst hbz
        have HNW := ND.out j hjl
        have HSM : ∀ z ∈ l.take j, z ≤ 300 := fun z hz => SM.out z (List.mem_of_mem_take hz)
        have HLN : (l.take j).length = j := by rw [List.length_take]; omega
        have HM3 := SM.out _ (getD_mem (d := 0) hjl)
        have TG := hid (take_get l j hjl)
        have KM := hid (fun w' (g : Gro (fun b => b = w3.heap.size) wr w') => IX.out.keepM MX.out g)
        generalize l.getD j 0 = m at *
        generalize l.take j = lt at *
        have NW := hid HNW
        have HS := hid HSM
        have HLE := hid HLN
        clear HNW HSM HLN hA em e2 e3 IX
        go_wp2_with (at_mapUpdate; refine wpList_mi _ rfl _ _ _ rfl w3.heap.size j lt rfl MX.out (by omega) m rfl (by rw [HLE.out]; rfl) HM3 NW.out (by rw [HLE.out]; omega) HS.out ?_; intro w5 q1 q2; have Q1 := hid q1; have Q2 := hid (BX.out.trans (q2.below w1.heap.size (fun k hk => by have := MB1.out; omega) BX.out.size)); have Q3 := hid (KM.out w5 q2); clear q1 q2)
        go_roundg (l.length - (j + 1))
        · exact ⟨j + 1, by omega, by omega, by go_num, (by show MI _ _ _ _; rw [TG.out]; exact Q1.out), Q2.out, Q3.out⟩
        · omega
      · have hjli : ¬ (j : Int) < l.length := by omega
        have hjeq : j = l.length := by omega
        have ML : Hid (MI wr w3.heap.size j l) := by
          have h := MX.out
          rw [List.take_of_length_le (by omega)] at h
          exact h
        clear MX IX hjeq
        go_wp2_with fail
        go_at_call 18
        refine (redges_is b2 l.length v rw' L wr (R.out.later BX.out)).mono ?_
        rintro e w5 ⟨⟨u, rfl, hE⟩, b5⟩
        obtain ⟨ea, ec, rfl, hEA⟩ := hE.arg
        have EA := hid hEA
        have M5 := hid (ML.out.later b5)
        have B5 := hid (BX.out.trans (b5.mono BX.out.size))
        have EL : (allE L l.length l.length).length ≤ 90000 := by
          have h1 := allE_len L l.length l.length
          have h2 : l.length * l.length ≤ 300 * 300 := Nat.mul_le_mul (by omega) (by omega)
          omega
        rw [List.length_map]
        have ELi : ((allE L l.length l.length).length : Int) ≤ 90000 := by omega
        have EM := hid (fun j (hj : j < (allE L l.length l.length).length) => allE_mem (getD_mem (d := ((0, 0, 0) : Nat × Nat × Nat)) hj))
        clear hE hEA b5 ML BX
        generalize allE L l.length l.length = A at *
        go_wp2_with fail
        go_loopg [16, 65] A.length (fun g _ i wr2 => ∃ q : Nat, q ≤ A.length ∧ A.length - q ≤ g ∧ i = .int .i64 q ∧ Aside (Below w5.heap.size w5 wr2))
        case atStart => exact ⟨0, Nat.zero_le _, by omega, rfl, Below.refl _ _⟩
        case round =>
          obtain ⟨q, hq, hgq, rfl, BY⟩ := hrel
          by_cases hql : q < A.length
          · have hqli : (q : Int) < A.length := by omega
            obtain ⟨bz, oz, rfl, k1, k2, k3⟩ := EA.out.later BY.out q (by rw [List.length_map]; exact hql)
            have eg : (A.map intE).getD q (0, 0, 0) = intE (A.getD q (0, 0, 0)) := by simp [List.getD, hql]
            rw [eg] at k1 k2 k3
            obtain ⟨m1, m2, m3⟩ := EM.out q hql
            generalize A.getD q (0, 0, 0) = e0 at *
            obtain ⟨f, t, x⟩ := e0
            dsimp only [intE] at k1 k2 k3 m1 m2 m3
            have BN : ∀ B, Hid (Below w5.heap.size w5 (wr.alloc B)) := fun B => BY.out.trans ((below_box wr _).mono BY.out.size)
            have MN : ∀ B, Hid (MI (wr.alloc B) w3.heap.size j l) := fun B => (M5.out.later BY.out).later (below_box wr _)
            have hen := ends_and L f t labels (R.out.small f t)
            rw [← m3] at hen
            cases hE : endsF L f labels 4 t with
            | false =>
              rw [hE] at hen
              simp only [Bool.not_false] at hen
              have henP : bits BinOp.and IntKind.i64 (x : Int) labels = 0 := by simpa using hen
              clear hE m3 MN eg
              go_wp2_with fail
              go_roundg (A.length - (q + 1))
              · exact ⟨q + 1, by omega, by omega, by go_num, (BN _).out⟩
              · omega
            | true =>
              rw [hE] at hen
              simp only [Bool.not_true] at hen
              have henP : ¬ bits BinOp.and IntKind.i64 (x : Int) labels = 0 := by simpa using hen
              obtain ⟨i1, i2, hlt, hl2, e1, e2⟩ := BG.out.places rfl f t m1 m2 hE
              have LK1 : ∀ B, (Instr.lookup 42 (.map (some w3.heap.size)) (.int .i64 f) false).run Tryd.prog (wr.alloc B) = .ok (.int .i64 i1) (wr.alloc B) := fun B => by
                have := (MN B).out.look i1 (by omega) (by rw [e1]; omega)
                rw [e1] at this
                exact this
              have LK2 : ∀ B, (Instr.lookup 42 (.map (some w3.heap.size)) (.int .i64 t) false).run Tryd.prog (wr.alloc B) = .ok (.int .i64 i2) (wr.alloc B) := fun B => by
                have := (MN B).out.look i2 (by omega) (by rw [e2]; omega)
                rw [e2] at this
                exact this
              have hge : ¬ (i2 : Int) ≤ i1 := by omega
              clear hE m3 e1 e2 hlt MN eg
              go_wp2_with fail
              go_roundg (A.length - (q + 1))
              · exact ⟨q + 1, by omega, by omega, by go_num, (BN _).out⟩
              · omega
          · have hqli : ¬ (q : Int) < A.length := by omega
            have B6 : Hid (Below w.heap.size w wr) := B1.out.trans ((B5.out.trans (BY.out.mono B5.out.size)).mono B1.out.size)
            have MY := hid (M5.out.later BY.out)
            have RY := hid (R.out.later (B5.out.trans (BY.out.mono B5.out.size)))
            obtain ⟨ga2, gc2, hgv2, -⟩ := RY.out.form
            have c2 := RY.out.c0
            rw [hgv2] at c2
            have ml : ∀ (k : Nat) ty, (Builtin.len_ #[42] ty #[.map (some w3.heap.size)]).run Tryd.prog (wr.drewN k) = .ok (.int .i64 l.length) (wr.drewN k) := fun k ty => (MY.out.later (below_drewN (Below.refl _ _) k)).len ty
            clear hgv2
            go_wp2_with fail
            go_quiet (fail)
            go_wp2_with fail
            go_ret
            exact ⟨rfl, below_drewN B6.out _⟩
end Go.Proofs.YtjgmkigfpjmlaaaDoor
