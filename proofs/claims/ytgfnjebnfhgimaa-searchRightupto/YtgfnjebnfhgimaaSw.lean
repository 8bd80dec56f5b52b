/-
  Which of two transactions ended ahead of the other's beginning; isWhole.
-/
import Derived.Test.YtgfnjebnfhgimaaSq
namespace Go.Proofs.Ytgfnjebnfhgimaa
set_option linter.unusedVariables false
set_option linter.unusedSimpArgs false
open Go.RowKit Go.Lib Go.Maps
open Tx (MTxn TxnsIn TxnRow)

/-- A transaction as a value. -/
def txV (t : MTxn) (a : Option Addr) (n c : Nat) : Value := .agg #[.int .i64 t.proc, .int .i64 t.state, .int .i64 t.since, .int .i64 t.till, .slice a n c]
def endM (a : MTxn) : Bool := a.state == 1 && decide (0 ≤ a.till)
def aheadM (a b : MTxn) : Bool := a.state == 1 && decide (0 ≤ a.till) && decide (a.till < b.since)

set_option maxHeartbeats 2000000 in
theorem ahead_is (p s f t p2 s2 f2 t2 : Int) (a a2 : Option Addr) (n c n2 c2 : Nat) (w : World) (r : Bool) (hr : r = (s == 1 && decide (0 ≤ t) && decide (t < f2))) :
    Calls Try.prog 10 #[.agg #[.int .i64 p, .int .i64 s, .int .i64 f, .int .i64 t, .slice a n c], .agg #[.int .i64 p2, .int .i64 s2, .int .i64 f2, .int .i64 t2, .slice a2 n2 c2]] w fun e w' => e = .returned (.bool r) ∧ Below w.heap.size w w' := by
  have BB : Hid (Below w.heap.size w ((w.alloc (.cells #[.int .i64 p, .int .i64 s, .int .i64 f, .int .i64 t, .slice a n c] 28)).alloc (.cells #[.int .i64 p2, .int .i64 s2, .int .i64 f2, .int .i64 t2, .slice a2 n2 c2] 28))) := ((Below.refl _ w).alloc (Nat.le_refl _) _).alloc (by simp) _
  by_cases h1 : s = 1
  · subst h1
    by_cases h2 : 0 ≤ t
    · by_cases h3 : t < f2
      · have e : r = true := by rw [hr]; simp [h2, h3]
        subst e
        clear hr
        go_enter Try.func10, Try.ntmps10
        go_wp2_with fail
        go_ret
        exact ⟨rfl, BB.out⟩
      · have e : r = false := by rw [hr]; simp [h3]
        subst e
        clear hr
        have h3' : f2 ≤ t := by omega
        go_enter Try.func10, Try.ntmps10
        go_wp2_with fail
        go_ret
        exact ⟨rfl, BB.out⟩
    · have e : r = false := by rw [hr]; simp [h2]
      subst e
      clear hr
      have h2' : t < 0 := by omega
      go_enter Try.func10, Try.ntmps10
      go_wp2_with fail
      go_ret
      exact ⟨rfl, BB.out⟩
  · have hb : (s == 1) = false := by simp [h1]
    have e : r = false := by rw [hr, hb]; rfl
    subst e
    clear hr
    go_enter Try.func10, Try.ntmps10
    go_wp2_with fail
    go_ret
    exact ⟨rfl, BB.out⟩
set_option maxHeartbeats 2000000 in
theorem hasEnd_is (p s f t : Int) (a : Option Addr) (n c : Nat) (w : World) (r : Bool) (hr : r = (s == 1 && decide (0 ≤ t))) :
    Calls Try.prog 15 #[.agg #[.int .i64 p, .int .i64 s, .int .i64 f, .int .i64 t, .slice a n c]] w fun e w' => e = .returned (.bool r) ∧ Below w.heap.size w w' := by
  have BB : Hid (Below w.heap.size w (w.alloc (.cells #[.int .i64 p, .int .i64 s, .int .i64 f, .int .i64 t, .slice a n c] 28))) := below_box w _
  by_cases h1 : s = 1
  · subst h1
    by_cases h2 : 0 ≤ t
    · have e : r = true := by rw [hr]; simp [h2]
      subst e
      clear hr
      go_enter Try.func15, Try.ntmps15
      go_wp2_with fail
      go_ret
      exact ⟨rfl, BB.out⟩
    · have e : r = false := by rw [hr]; simp [h2]
      subst e
      clear hr
      have h2' : t < 0 := by omega
      go_enter Try.func15, Try.ntmps15
      go_wp2_with fail
      go_ret
      exact ⟨rfl, BB.out⟩
  · have hb : (s == 1) = false := by simp [h1]
    have e : r = false := by rw [hr, hb]; rfl
    subst e
    clear hr
    go_enter Try.func15, Try.ntmps15
    go_wp2_with fail
    go_ret
    exact ⟨rfl, BB.out⟩
/-- realtime.Before, where the second is ok. -/
theorem before_ok (p s f t p2 f2 t2 : Int) (a a2 : Option Addr) (n c n2 c2 : Nat) (w : World) (r : Bool) (hr : r = (s == 1 && decide (0 ≤ t) && decide (t < f2))) :
    Calls Try.prog 22 #[.agg #[.int .i64 p, .int .i64 s, .int .i64 f, .int .i64 t, .slice a n c], .agg #[.int .i64 p2, .int .i64 1, .int .i64 f2, .int .i64 t2, .slice a2 n2 c2]] w fun e w' => e = .returned (.bool r) ∧ Below w.heap.size w w' := by
  have BB : Hid (Below w.heap.size w ((w.alloc (.cells #[.int .i64 p, .int .i64 s, .int .i64 f, .int .i64 t, .slice a n c] 28)).alloc (.cells #[.int .i64 p2, .int .i64 1, .int .i64 f2, .int .i64 t2, .slice a2 n2 c2] 28))) := ((Below.refl _ w).alloc (Nat.le_refl _) _).alloc (by simp) _
  by_cases h1 : s = 1
  · subst h1
    by_cases h2 : 0 ≤ t
    · by_cases h3 : t < f2
      · have e : r = true := by rw [hr]; simp [h2, h3]
        subst e
        clear hr
        go_enter Try.func22, Try.ntmps22
        go_wp2_with fail
        go_ret
        exact ⟨rfl, BB.out⟩
      · have e : r = false := by rw [hr]; simp [h3]
        subst e
        clear hr
        have h3' : f2 ≤ t := by omega
        go_enter Try.func22, Try.ntmps22
        go_wp2_with fail
        go_ret
        exact ⟨rfl, BB.out⟩
    · have e : r = false := by rw [hr]; simp [h2]
      subst e
      clear hr
      have h2' : t < 0 := by omega
      go_enter Try.func22, Try.ntmps22
      go_wp2_with fail
      go_ret
      exact ⟨rfl, BB.out⟩
  · have hb : (s == 1) = false := by simp [h1]
    have e : r = false := by rw [hr, hb]; rfl
    subst e
    clear hr
    go_enter Try.func22, Try.ntmps22
    go_wp2_with fail
    go_ret
    exact ⟨rfl, BB.out⟩
set_option maxHeartbeats 2000000 in
theorem before_is (p s f t p2 s2 f2 t2 : Int) (a a2 : Option Addr) (n c n2 c2 : Nat) (w : World) (r : Bool) (hr : r = (s == 1 && decide (0 ≤ t) && decide (t < f2))) :
    Calls Try.prog 14 #[.agg #[.int .i64 p, .int .i64 s, .int .i64 f, .int .i64 t, .slice a n c], .agg #[.int .i64 p2, .int .i64 s2, .int .i64 f2, .int .i64 t2, .slice a2 n2 c2]] w fun e w' => e = .returned (.bool r) ∧ Below w.heap.size w w' := by
  have BK := hid (fun W => before_ok p s f t p2 f2 t2 a a2 n c n2 c2 W r hr)
  have BB : Hid (Below w.heap.size w ((w.alloc (.cells #[.int .i64 p, .int .i64 s, .int .i64 f, .int .i64 t, .slice a n c] 28)).alloc (.cells #[.int .i64 p2, .int .i64 1, .int .i64 f2, .int .i64 t2, .slice a2 n2 c2] 28))) := ((Below.refl _ w).alloc (Nat.le_refl _) _).alloc (by simp) _
  clear hr
  go_enter Try.func14, Try.ntmps14
  go_wp2_with fail
  go_at_call 22
  refine (BK.out _).mono ?_
  rintro e w' ⟨rfl, b'⟩
  have B2 : Hid (Below w.heap.size w w') := BB.out.trans (b'.mono BB.out.size)
  clear b' BK
  go_wp2_with fail
  go_ret
  exact ⟨rfl, B2.out⟩

/-- How many of the first k are ok. -/
def okN (l : List MTxn) : Nat → Nat
  | 0 => 0
  | k + 1 => okN l k + if (l.getD k default).state = 1 then 1 else 0
theorem okN_le (l : List MTxn) : ∀ k, okN l k ≤ k
  | 0 => Nat.le_refl _
  | k + 1 => by have := okN_le l k; unfold okN; split <;> omega
/-- How many of the first k places of an order are of ones that are ok. -/
def okO (l : List MTxn) (ord : List Int) : Nat → Nat
  | 0 => 0
  | k + 1 => okO l ord k + if (txO l (ord.getD k 0)).state = 1 then 1 else 0
theorem okO_le (l : List MTxn) (ord : List Int) : ∀ k, okO l ord k ≤ k
  | 0 => Nat.le_refl _
  | k + 1 => by have := okO_le l ord k; unfold okO; split <;> omega
/-- What isWhole answers. -/
def WPost (l : List MTxn) (ord : List Int) (w : World) (e : Ending) (w' : World) : Prop := ∃ b : Bool, e = .returned (.bool b) ∧ (b = true ↔ (∀ k, k < ord.length → (txO l (ord.getD k 0)).state = 1 ∨ (txO l (ord.getD k 0)).state = 3) ∧ okN l l.length = okO l ord ord.length) ∧ Below w.heap.size w w'
set_option maxHeartbeats 8000000 in
set_option maxRecDepth 100000 in
theorem isWhole_is (w : World) (tv ov : Value) (l : List MTxn) (ord : List Int) (ht : TxnsIn Any w tv l) (ho : IntsIn Any w ov ord) (hl : l.length ≤ 262144) (hpl : ∀ k, k < ord.length → 0 ≤ ord.getD k 0 ∧ ord.getD k 0 < l.length) (hol : ord.length ≤ l.length) :
    Calls Try.prog 7 #[tv, ov] w fun e w' => WPost l ord w e w' := by
  obtain ⟨ta, tc, rfl, ⟨hby, hcap⟩, hT⟩ := txns_cells ht
  obtain ⟨oa, oc, rfl, ⟨ob1, ob2⟩, hO⟩ := ho.cells
  have HT := hid hT
  have HO := hid hO
  have HPL := hid hpl
  have hlen : (l.length : Int) ≤ 262144 := by omega
  have holen : (ord.length : Int) ≤ 262144 := by omega
  clear hT hO ht ho hpl
  go_enter Try.func7, Try.ntmps7
  go_wp2_with fail
  go_loopg [5, 7, 12] l.length (fun g x _ i wr => ∃ k : Nat, k ≤ l.length ∧ l.length - k ≤ g ∧ i = .int .i64 k ∧ x = .int .i64 (okN l k) ∧ Aside (Below w.heap.size w wr))
  case atStart => exact ⟨0, Nat.zero_le _, by omega, rfl, rfl, Below.refl _ _⟩
  case round =>
    obtain ⟨k, hk, hg, rfl, rfl, BX⟩ := hrel
    have hok := okN_le l k
    by_cases hlt : k < l.length
    · have hlti : (k : Int) < l.length := by omega
      obtain ⟨tb, tf, ov, rfl, hrow, hops⟩ := HT.out k hlt
      obtain ⟨oa2, oc2, hov, _⟩ := hops
      subst hov
      have htb := World.block_lt_of_cell? _ _ (hrow 0 _ rfl)
      have d0 := (BX.out.cell (p := ⟨tb, tf + k * 5 + 0, none⟩) htb).trans (hrow 0 _ rfl)
      have d1 := (BX.out.cell (p := ⟨tb, tf + k * 5 + 1, none⟩) htb).trans (hrow 1 _ rfl)
      have d2 := (BX.out.cell (p := ⟨tb, tf + k * 5 + 2, none⟩) htb).trans (hrow 2 _ rfl)
      have d3 := (BX.out.cell (p := ⟨tb, tf + k * 5 + 3, none⟩) htb).trans (hrow 3 _ rfl)
      have d4 := (BX.out.cell (p := ⟨tb, tf + k * 5 + 4, none⟩) htb).trans (hrow 4 _ rfl)
      rw [Nat.add_zero] at d0
      have OS : Hid (okN l (k + 1) = okN l k + if (l.getD k default).state = 1 then 1 else 0) := rfl
      have BN : ∀ o, Hid (Below w.heap.size w (wr.alloc o)) := fun o => BX.out.trans ((below_box wr _).mono BX.out.size)
      clear hrow
      generalize l.getD k default = T at *
      generalize okN l k = m at *
      by_cases hs : T.state = 1
      · have hO2 : Hid (okN l (k + 1) = m + 1) := by have := OS.out; rw [if_pos hs] at this; exact this
        have hs' : T.2.1 = 1 := hs
        clear OS hs
        go_wp2_with fail
        go_roundg (l.length - (k + 1))
        · exact ⟨k + 1, by omega, by omega, by go_num, by rw [hO2.out]; go_num, (BN _).out⟩
        · omega
      · have hO2 : Hid (okN l (k + 1) = m) := by have := OS.out; rw [if_neg hs] at this; exact this
        have hs' : ¬ T.2.1 = 1 := hs
        have hsb : (T.2.1 == 1) = false := by simpa using hs
        clear OS hs
        go_wp2_with fail
        go_roundg (l.length - (k + 1))
        · exact ⟨k + 1, by omega, by omega, by go_num, by rw [hO2.out], (BN _).out⟩
        · omega
    · have hlti : ¬ (k : Int) < l.length := by omega
      have hkl : k = l.length := by omega
      have HKL := hid hkl
      clear hkl
      go_wp2_with fail
      generalize hM : okN l k = M at *
      have HM := hid hM
      have hMi : (M : Int) ≤ 262144 := by omega
      clear hM
      have BO := hid BX.out
      clear BX
      generalize wr = wo at *
      go_loopg [5, 9, 24] ord.length (fun g x _ i wr => ∃ q : Nat, q ≤ ord.length ∧ ord.length - q ≤ g ∧ i = .int .i64 q ∧ x = .int .i64 ((M : Int) - (okO l ord q : Nat)) ∧ Aside (∀ j, j < q → (txO l (ord.getD j 0)).state = 1 ∨ (txO l (ord.getD j 0)).state = 3) ∧ Aside (wr = wo))
      case atStart => exact ⟨0, Nat.zero_le _, by omega, rfl, by simp [okO], fun j hj => absurd hj (Nat.not_lt_zero _), rfl⟩
      case round =>
        obtain ⟨q, hq, hg2, rfl, rfl, AL, hwo⟩ := hrel
        have hwo2 : wr = wo := hwo
        subst hwo2
        clear hwo
        have hoo := okO_le l ord q
        by_cases hql : q < ord.length
        · have hqli : (q : Int) < ord.length := by omega
          obtain ⟨ob, oo, rfl, k0⟩ := HO.out q hql
          have hobl := World.block_lt_of_cell? _ _ k0
          have e0 := (BO.out.cell (p := ⟨ob, oo + q, none⟩) hobl).trans k0
          obtain ⟨p1, p2⟩ := HPL.out q hql
          obtain ⟨j, hj⟩ : ∃ j : Nat, ord.getD q 0 = j := ⟨(ord.getD q 0).toNat, by omega⟩
          have hj' : ord.getD q default = (j : Int) := hj
          rw [hj'] at e0
          have hjl : j < l.length := by omega
          have hjli : (j : Int) < l.length := by omega
          have HTX : Hid (txO l (ord.getD q 0) = l.getD j default) := by show txO l _ = _; unfold txO; rw [hj]; rfl
          obtain ⟨tb, tf, ov, hta, hrow, hops⟩ := HT.out j hjl
          subst hta
          have htb := World.block_lt_of_cell? _ _ (hrow 1 _ rfl)
          have d1 := (BO.out.cell (p := ⟨tb, tf + j * 5 + 1, none⟩) htb).trans (hrow 1 _ rfl)
          have OS : Hid (okO l ord (q + 1) = okO l ord q + if (l.getD j default).state = 1 then 1 else 0) := by show okO l ord (q + 1) = _; rw [← HTX.out]; rfl
          clear hrow hops k0 hj hj' p1 p2
          generalize l.getD j default = T at *
          generalize okO l ord q = m at *
          by_cases hs : T.state = 1
          · have hO2 : Hid (okO l ord (q + 1) = m + 1) := by have := OS.out; rw [if_pos hs] at this; exact this
            have AL2 : Hid (∀ j, j < q + 1 → (txO l (ord.getD j 0)).state = 1 ∨ (txO l (ord.getD j 0)).state = 3) := fun i hi => by
              by_cases e : i = q
              · rw [e, HTX.out]; exact .inl hs
              · exact AL.out i (by omega)
            have hs' : T.2.1 = 1 := hs
            clear OS hs
            go_wp2_with fail
            go_roundg (ord.length - (q + 1))
            · exact ⟨q + 1, by omega, by omega, by go_num, by rw [hO2.out]; go_num, AL2.out, rfl⟩
            · omega
          · have hO2 : Hid (okO l ord (q + 1) = m) := by have := OS.out; rw [if_neg hs] at this; exact this
            have hs' : ¬ T.2.1 = 1 := hs
            have hsb : (T.2.1 == 1) = false := by simpa using hs
            by_cases hs3 : T.state = 3
            · have AL2 : Hid (∀ j, j < q + 1 → (txO l (ord.getD j 0)).state = 1 ∨ (txO l (ord.getD j 0)).state = 3) := fun i hi => by
                by_cases e : i = q
                · rw [e, HTX.out]; exact .inr hs3
                · exact AL.out i (by omega)
              have hs3' : T.2.1 = 3 := hs3
              clear OS hs hs3
              go_wp2_with fail
              go_roundg (ord.length - (q + 1))
              · exact ⟨q + 1, by omega, by omega, by go_num, by rw [hO2.out], AL2.out, rfl⟩
              · omega
            · have HN : Hid (¬ ∀ k, k < ord.length → (txO l (ord.getD k 0)).state = 1 ∨ (txO l (ord.getD k 0)).state = 3) := fun h => by
                have := h q hql
                rw [HTX.out] at this
                rcases this with h | h
                · exact hs h
                · exact hs3 h
              have hs3' : ¬ T.2.1 = 3 := hs3
              have hs3b : (T.2.1 == 3) = false := by simpa using hs3
              clear OS hs hs3
              go_wp2_with fail
              go_ret
              exact ⟨false, rfl, ⟨fun c => absurd c (by decide), fun c => absurd c.1 HN.out⟩, BO.out⟩
        · have hqli : ¬ (q : Int) < ord.length := by omega
          have hqe : q = ord.length := by omega
          have FIN : Hid (∀ b : Bool, b = decide ((M : Int) - (okO l ord q : Nat) = 0) → WPost l ord w (.returned (.bool b)) wr) := fun b hb => by
            refine ⟨b, rfl, ?_, BO.out⟩
            rw [hb, decide_eq_true_eq, ← HKL.out, HM.out, ← hqe]
            exact ⟨fun h => ⟨fun i hi => AL.out i hi, by omega⟩, fun h => by omega⟩
          clear hqe AL
          generalize okO l ord q = m at *
          by_cases he : (M : Int) - m = 0
          · have hb := FIN.out true (by simp [he])
            have HB := hid hb
            clear hb FIN
            go_wp2_with fail
            go_ret
            exact HB.out
          · have hb := FIN.out false (by simp [he])
            have HB := hid hb
            have heb : (((M : Int) - (m : Int)) == 0) = false := by simpa using he
            clear hb FIN
            go_wp2_with fail
            go_ret
            exact HB.out
end Go.Proofs.Ytgfnjebnfhgimaa
