/-
  report.Can: a list of which one is wrong; a wrong anomaly.
-/
import Derived.Test.YtkpomcimaofkkaaDoorV3
namespace Go.Proofs.YtkpomcimaofkkaaDoor.Rp
set_option linter.unusedVariables false
set_option linter.unusedSimpArgs false
open Go.RowKit Go.Lib

theorem any_at {α : Type} [Inhabited α] {f : α → Bool} {l : List α} {i : Nat} (h : i < l.length) (hf : f (l.getD i default) = true) : l.any f = true := List.any_eq_true.2 ⟨l.getD i default, by simp [List.getD, List.getElem?_eq_getElem h], hf⟩
theorem any_none {α : Type} [Inhabited α] {f : α → Bool} {l : List α} (h : ∀ i, i < l.length → f (l.getD i default) = false) : l.any f = false := by
  rw [List.any_eq_false]
  intro x hx
  obtain ⟨i, hi, rfl⟩ := List.mem_iff_getElem.1 hx
  have := h i hi
  rw [List.getD, List.getElem?_eq_getElem hi] at this
  simpa using this
set_option maxHeartbeats 8000000 in
set_option maxRecDepth 100000 in
theorem idxD_is {S : Nat → Prop} (v : Value) (l : List MW) (w : World) (hl : WhysS S w v l) (hm : l.length ≤ 20000) :
    Calls Tryd.prog 50 #[v, .func (.func 43) #[] #[]] w fun e w' => (∃ r : Int, e = .returned (.int .i64 r) ∧ decide (0 ≤ r) = l.any wrongD) ∧ Below w.heap.size w w' := by
  have H := hid hl
  obtain ⟨va, vc, rfl, _⟩ := id hl
  have hmi : (l.length : Int) ≤ 20000 := by omega
  have B0 := hid (Below.refl w.heap.size w)
  clear hl
  go_enter Tryd.func50, Tryd.ntmps50
  go_wp2_with fail
  go_loopg [5, 8] l.length (fun gg _ i wr => ∃ k : Nat, k ≤ l.length ∧ l.length - k ≤ gg ∧ i = .int .i64 k ∧ Aside (∀ j, j < k → wrongD (l.getD j default) = false) ∧ Aside (Below w.heap.size w wr))
  case atStart => exact ⟨0, Nat.zero_le _, by omega, rfl, fun j hj => by omega, B0.out⟩
  case round =>
    clear B0
    obtain ⟨k, hk, hg, rfl, NX, BX⟩ := hrel
    by_cases hlt : k < l.length
    · have hlti : (k : Int) < l.length := by omega
      have hk0 : (0 : Int) ≤ k := by omega
      have HR := RowsIn.keep H.out (by omega) (R' := fun cs x => cs = encW x) (fun _ _ h => h) (keeps_below BX.out) (fun _ _ h => h)
      obtain ⟨ao2, c2, e2, _, hrc⟩ := Tx.RowsIn.cells HR (by omega)
      obtain ⟨b, off, cs, hab, hbl, hlen, hrow, hcs⟩ := hrc k hlt
      simp only [Value.slice.injEq, true_and] at e2
      obtain ⟨e2, e3⟩ := e2
      subst hab
      subst e2
      subst e3
      obtain ⟨⟨x0, x1, x2, x3, x4, x5, x6, x7⟩, hx⟩ : ∃ x, l.getD k default = x := ⟨_, rfl⟩
      rw [hx] at hrow
      subst hrow
      have HX := hid hx
      clear hx HR hrc
      have k0 : wr.cell? ⟨b, off + k * 8, none⟩ = some (.int .i64 x0) := by simpa using hcs 0 (.int .i64 x0) rfl
      have k1 : wr.cell? ⟨b, off + k * 8 + 1, none⟩ = some (.int .i64 x1) := by simpa using hcs 1 (.int .i64 x1) rfl
      have k2 : wr.cell? ⟨b, off + k * 8 + 2, none⟩ = some (.int .i64 x2) := by simpa using hcs 2 (.int .i64 x2) rfl
      have k3 : wr.cell? ⟨b, off + k * 8 + 3, none⟩ = some (.string x3) := by simpa using hcs 3 (.string x3) rfl
      have k4 : wr.cell? ⟨b, off + k * 8 + 4, none⟩ = some (.int .i64 x4) := by simpa using hcs 4 (.int .i64 x4) rfl
      have k5 : wr.cell? ⟨b, off + k * 8 + 5, none⟩ = some (.int .i64 x5) := by simpa using hcs 5 (.int .i64 x5) rfl
      have k6 : wr.cell? ⟨b, off + k * 8 + 6, none⟩ = some (.bool x6) := by simpa using hcs 6 (.bool x6) rfl
      have k7 : wr.cell? ⟨b, off + k * 8 + 7, none⟩ = some (.bool x7) := by simpa using hcs 7 (.bool x7) rfl
      clear hcs hlen
      have ST := hid (wrongD_is x0 x1 x2 x3 x4 x5 x6 x7 wr)
      obtain ⟨t, ht⟩ : ∃ t, wrongD (x0, x1, x2, x3, x4, x5, x6, x7) = t := ⟨_, rfl⟩
      rw [ht] at ST
      have EV : Hid (wrongD (l.getD k default) = t) := by
        show _ = _
        rw [HX.out]
        exact ht
      clear ht
      cases t with
      | true =>
        have EA : Hid (l.any wrongD = true) := any_at hlt EV.out
        go_wp2_with fail
        go_at_call 43
        refine ST.out.mono ?_
        rintro e w' ⟨rfl, b1⟩
        have B1 := hid (BX.out.trans (b1.mono BX.out.size))
        clear b1 k0 k1 k2 k3 k4 k5 k6 k7
        go_wp2_with fail
        go_ret
        exact ⟨⟨_, rfl, by rw [EA.out]; simp⟩, B1.out⟩
      | false =>
        have EX : Hid (∀ j, j < k + 1 → wrongD (l.getD j default) = false) := fun j hj => by
          by_cases e : j = k
          · subst e
            exact EV.out
          · exact NX.out j (by omega)
        clear NX EV
        go_wp2_with fail
        go_at_call 43
        refine ST.out.mono ?_
        rintro e w' ⟨rfl, b1⟩
        have B1 := hid (BX.out.trans (b1.mono BX.out.size))
        clear b1 k0 k1 k2 k3 k4 k5 k6 k7
        go_wp2_with fail
        go_roundg (l.length - (k + 1))
        case measure => omega
        case rel => exact ⟨k + 1, by omega, by omega, by go_num, EX.out, B1.out⟩
    · have hlti : ¬ (k : Int) < l.length := by omega
      have EA : Hid (l.any wrongD = false) := any_none (fun j hj => NX.out j (by omega))
      clear NX
      go_wp2_with fail
      go_ret
      exact ⟨⟨_, rfl, by rw [EA.out]; rfl⟩, BX.out⟩
set_option maxHeartbeats 2000000 in
set_option maxRecDepth 100000 in
theorem cfD_is {S : Nat → Prop} (v : Value) (l : List MW) (w : World) (hl : WhysS S w v l) (hm : l.length ≤ 20000) :
    Calls Tryd.prog 42 #[v, .func (.func 43) #[] #[]] w fun e w' => e = .returned (.bool (l.any wrongD)) ∧ Below w.heap.size w w' := by
  have I := hid (idxD_is v l w hl hm)
  clear hl
  go_enter Tryd.func42, Tryd.ntmps42
  go_wp2_with fail
  go_at_call 50
  refine I.out.mono ?_
  rintro e w' ⟨⟨r, rfl, hr⟩, b⟩
  have B := hid b
  have HR := hid hr
  clear b hr
  go_wp2_with fail
  go_ret
  exact ⟨by rw [← HR.out]; rfl, B.out⟩
/-- Whether an anomaly may not be. -/
def wrongA (a : MA) : Bool := ((((((wordN kindWs a.1).toList == (⟨#[]⟩ : ByteArray).toList) || !keyN a.2.2.2.2.1) || !levelN a.2.2.2.2.2.2.2.2) || decide ((300 : Int) < (a.cyc.length : Int))) || a.cyc.any wrongD)
set_option maxHeartbeats 4000000 in
set_option maxRecDepth 100000 in
theorem wrongA_is {S : Nat → Prop} (x0 x1 x2 x3 : Int) (x4 : ByteArray) (x5 : Int) (ca : Option Addr) (cyc : List MW) (cc : Nat) (x7 : Bool) (x8 : Int) (w : World) (hcy : WhysS S w (.slice ca cyc.length cc) cyc) (hN : NamesAt w) :
    Calls Tryd.prog 23 #[.agg #[.int .i64 x0, .int .i64 x1, .int .i64 x2, .int .i64 x3, .string x4, .int .i64 x5, .slice ca cyc.length cc, .bool x7, .int .i64 x8]] w fun e w' => e = .returned (.bool (wrongA (x0, x1, x2, x3, x4, x5, cyc, x7, x8))) ∧ Below w.heap.size w w' := by
  have A1 := hid (below_box w (.cells #[.int .i64 x0, .int .i64 x1, .int .i64 x2, .int .i64 x3, .string x4, .int .i64 x5, .slice ca cyc.length cc, .bool x7, .int .i64 x8] 46))
  have BX := box_new w #[.int .i64 x0, .int .i64 x1, .int .i64 x2, .int .i64 x3, .string x4, .int .i64 x5, .slice ca cyc.length cc, .bool x7, .int .i64 x8] 46
  obtain ⟨W, hW⟩ : ∃ W, w.alloc (.cells #[.int .i64 x0, .int .i64 x1, .int .i64 x2, .int .i64 x3, .string x4, .int .i64 x5, .slice ca cyc.length cc, .bool x7, .int .i64 x8] 46) = W := ⟨_, rfl⟩
  obtain ⟨o, ho⟩ : ∃ o, w.heap.size = o := ⟨_, rfl⟩
  have BW1 : Hid (Below w.heap.size w W) := by rw [← hW]; exact A1.out
  rw [hW, ho] at BX
  have c0 : W.cell? ⟨o, 0, none⟩ = some (.int .i64 x0) := BX.cell 0
  have c4 : W.cell? ⟨o, 4, none⟩ = some (.string x4) := BX.cell 4
  have c6 : W.cell? ⟨o, 6, none⟩ = some (.slice ca cyc.length cc) := BX.cell 6
  have c8 : W.cell? ⟨o, 8, none⟩ = some (.int .i64 x8) := BX.cell 8
  obtain ⟨lb, hlb⟩ : ∃ lb, wordN kindWs x0 = lb := ⟨_, rfl⟩
  obtain ⟨p1, ep1⟩ : ∃ p, (lb.toList == (⟨#[]⟩ : ByteArray).toList) = p := ⟨_, rfl⟩
  obtain ⟨q2, eq2⟩ : ∃ q, keyN x4 = q := ⟨_, rfl⟩
  obtain ⟨n2, en2⟩ : ∃ n, (!q2) = n := ⟨_, rfl⟩
  obtain ⟨r2, er2⟩ : ∃ r, (p1 || n2) = r := ⟨_, rfl⟩
  obtain ⟨q3, eq3⟩ : ∃ q, levelN x8 = q := ⟨_, rfl⟩
  obtain ⟨n3, en3⟩ : ∃ n, (!q3) = n := ⟨_, rfl⟩
  obtain ⟨r3, er3⟩ : ∃ r, (r2 || n3) = r := ⟨_, rfl⟩
  obtain ⟨n4, en4⟩ : ∃ n, decide ((300 : Int) < (cyc.length : Int)) = n := ⟨_, rfl⟩
  obtain ⟨r4, er4⟩ : ∃ r, (r3 || n4) = r := ⟨_, rfl⟩
  obtain ⟨q5, eq5⟩ : ∃ q, cyc.any wrongD = q := ⟨_, rfl⟩
  obtain ⟨r5, er5⟩ : ∃ r, (r4 || q5) = r := ⟨_, rfl⟩
  have HR : Hid (wrongA (x0, x1, x2, x3, x4, x5, cyc, x7, x8) = r5) := by show ((((((wordN kindWs x0).toList == (⟨#[]⟩ : ByteArray).toList) || !keyN x4) || !levelN x8) || decide ((300 : Int) < (cyc.length : Int))) || cyc.any wrongD) = _; rw [hlb, ep1, eq2, en2, er2, eq3, en3, er3, en4, er4, eq5, er5]
  have HLB := hid hlb
  have NW : Hid (∀ V, Below W.heap.size W V → NamesAt V) := fun V hb => hN.later (BW1.out.trans (hb.mono BW1.out.size))
  have KN : Hid (∀ V, Calls Tryd.prog 41 #[.string x4] V fun e w' => e = .returned (.bool q2) ∧ Below V.heap.size V w') := fun V => by rw [← eq2]; exact keyNone_is x4 V
  have LV : Hid (∀ V, Below W.heap.size W V → Calls Tryd.prog 24 #[.int .i64 x8] V fun e w' => e = .returned (.bool q3) ∧ V = w') := fun V hb => by rw [← eq3]; exact isLevel_is x8 V (NW.out V hb)
  have CF : Hid (r4 = false → ∀ V, Below W.heap.size W V → Calls Tryd.prog 42 #[.slice ca cyc.length cc, .func (.func 43) #[] #[]] V fun e w' => e = .returned (.bool q5) ∧ Below V.heap.size V w') := fun hr V hb => by
    have h4 : n4 = false := by rw [← er4] at hr; exact (Bool.or_eq_false_iff.1 hr).2
    rw [← en4] at h4
    have h5 := of_decide_eq_false h4
    rw [← eq5]; exact cfD_is _ cyc V (RowsIn.keep hcy (by omega) (fun _ _ h => h) (keeps_below (BW1.out.trans (hb.mono BW1.out.size))) (fun _ _ h => h)) (by omega)
  rw [HR.out]
  clear BX hlb eq2 eq3 eq5 HR A1 hcy hN
  go_enter Tryd.func23, Tryd.ntmps23
  go_wp2_with fail
  clear hW ho
  refine wp_region_ask Tryd.mixedOrders (by kernel_rfl) (fun val => { tmps := #[_, _, val 28, val 0, val 1, val 2, val 3, val 4, val 5, val 6, val 7, val 8, val 9, val 10, val 11, val 12, val 13, val 14, val 15, val 16, val 17, val 18, val 19, val 20, val 21, val 22, val 23, val 24, val 25, val 26, val 27], defers := [] }) (fun i y V => match i with | 0 => ∃ g, y = .slice (some ⟨g, 0, none⟩) 12 12 ∧ WordsAt V g kindWs | 1 => y = .pointer (some ⟨o, 0, none⟩) | 2 => y = .int .i64 x0 | 3 => y = .string lb | 4 => y = .bool p1 | 5 => y = .bool p1 | 6 => (!p1) = true → y = .pointer (some ⟨o, 4, none⟩) | 7 => (!p1) = true → y = .string x4 | 8 => (!p1) = true → y = .bool q2 | 9 => (!p1) = true → y = .bool n2 | 10 => y = .bool r2 | 11 => y = .bool r2 | 12 => (!r2) = true → y = .pointer (some ⟨o, 8, none⟩) | 13 => (!r2) = true → y = .int .i64 x8 | 14 => (!r2) = true → y = .bool q3 | 15 => (!r2) = true → y = .bool n3 | 16 => y = .bool r3 | 17 => y = .bool r3 | 18 => (!r3) = true → y = .pointer (some ⟨o, 6, none⟩) | 19 => (!r3) = true → y = .slice ca cyc.length cc | 20 => (!r3) = true → y = .int .i64 (cyc.length : Nat) | 21 => (!r3) = true → y = .bool n4 | 22 => y = .bool r4 | 23 => y = .bool r4 | 24 => (!r4) = true → y = .pointer (some ⟨o, 6, none⟩) | 25 => (!r4) = true → y = .slice ca cyc.length cc | 26 => (!r4) = true → y = .bool q5 | 27 => y = .bool r5 | 28 => y = .bool r5 | _ => True) (fun i => match i with | 0 => undef | 1 => undef | 2 => undef | 3 => undef | 4 => undef | 5 => undef | 6 => undef | 7 => undef | 8 => undef | 9 => undef | 10 => undef | 11 => undef | 12 => undef | 13 => undef | 14 => undef | 15 => undef | 16 => undef | 17 => undef | 18 => undef | 19 => undef | 20 => undef | 21 => undef | 22 => undef | 23 => undef | 24 => undef | 25 => undef | 26 => undef | 27 => undef | 28 => .bool false | _ => undef) rfl ?_ _ rfl ⟨?_, ?_, ?_, ?_, ?_, ?_, ?_, ?_, ?_, ?_, ?_, ?_, ?_, ?_, ?_, ?_, ?_, ?_, ?_, ?_, ?_, ?_, ?_, ?_, ?_, ?_, ?_, ?_, ?_, trivial⟩ ?_
  · intro i v w w' h hb
    match i, h with
    | 0, h => exact h.imp fun g q => ⟨q.1, q.2.below hb⟩
    | 1, h => exact h
    | 2, h => exact h
    | 3, h => exact h
    | 4, h => exact h
    | 5, h => exact h
    | 6, h => exact h
    | 7, h => exact h
    | 8, h => exact h
    | 9, h => exact h
    | 10, h => exact h
    | 11, h => exact h
    | 12, h => exact h
    | 13, h => exact h
    | 14, h => exact h
    | 15, h => exact h
    | 16, h => exact h
    | 17, h => exact h
    | 18, h => exact h
    | 19, h => exact h
    | 20, h => exact h
    | 21, h => exact h
    | 22, h => exact h
    | 23, h => exact h
    | 24, h => exact h
    | 25, h => exact h
    | 26, h => exact h
    | 27, h => exact h
    | 28, h => exact h
    | _ + 29, h => trivial
  · refine ask_plain rfl (fun _ _ => rfl) (fun val V hb hd => ?_)
    refine does_call (f := 31) (args := #[]) ?_ (kinds_is V) ?_
    · simp [execOp, Act.eval, go_sem, resolve, invoke]
    · rintro e w2 ⟨rfl, rfl⟩
      exact ⟨_, rfl, ⟨_, rfl, words_is V kindWs⟩, below_box V _⟩
  · refine ask_plain rfl (fun _ _ => rfl) (fun val V hb hd => ?_)
    refine does_value (v := .pointer (some ⟨o, 0, none⟩)) ?_ rfl
    simp [execOp, Act.eval, go_sem]
  · refine ask_plain rfl (fun _ _ => rfl) (fun val V hb hd => ?_)
    have h1 : val 1 = .pointer (some ⟨o, 0, none⟩) := depsAll_get hd 1 (by kernel_rfl)
    have e_ := rx_later hb c0
    refine does_value (v := .int .i64 x0) ?_ rfl
    simp [execOp, Act.eval, go_sem, h1, e_]
  · refine ask_plain rfl (fun _ _ => rfl) (fun val V hb hd => ?_)
    obtain ⟨g, h0, hg⟩ := depsAll_get hd 0 (by kernel_rfl)
    have h2 : val 2 = .int .i64 x0 := depsAll_get hd 2 (by kernel_rfl)
    refine does_call (f := 25) (args := #[.slice (some ⟨g, 0, none⟩) 12 12, .int .i64 x0]) ?_ (wordOf_is g 12 kindWs _ V hg (by decide)) ?_
    · simp [execOp, Act.eval, go_sem, resolve, invoke, h0, h2]
    · rintro e w2 ⟨rfl, rfl⟩
      exact ⟨_, rfl, by show _ = _; rw [HLB.out], Below.refl _ _⟩
  · refine ask_plain rfl (fun _ _ => rfl) (fun val V hb hd => ?_)
    have h3 : val 3 = .string lb := depsAll_get hd 3 (by kernel_rfl)
    subst ep1
    refine does_value ?_ rfl
    simp [execOp, Act.eval, go_sem, h3]
  · refine ask_plain rfl (fun _ _ => rfl) (fun val V hb hd => ?_)
    have h4 : val 4 = .bool p1 := depsAll_get hd 4 (by kernel_rfl)
    refine does_value (v := .bool p1) ?_ rfl
    simp [execOp, Act.eval, go_sem, h4]
  · refine ask_if (!p1) (fun _ _ => rfl) (fun val V hd => ?_) (fun hc val V hb hd => ?_) (fun hc W h => by rw [hc] at h; cases h)
    · have hj : val 5 = .bool p1 := depsAll_get hd 5 (by kernel_rfl)
      cases p1 <;> simp [Region.wanted, yielded, hj]
    refine does_value (v := .pointer (some ⟨o, 4, none⟩)) ?_ (fun _ => rfl)
    simp [execOp, Act.eval, go_sem]
  · refine ask_if (!p1) (fun _ _ => rfl) (fun val V hd => ?_) (fun hc val V hb hd => ?_) (fun hc W h => by rw [hc] at h; cases h)
    · have hj : val 5 = .bool p1 := depsAll_get hd 5 (by kernel_rfl)
      cases p1 <;> simp [Region.wanted, yielded, hj]
    have h6 : val 6 = .pointer (some ⟨o, 4, none⟩) := depsAll_get hd 6 (by kernel_rfl) hc
    have e_ := rx_later hb c4
    refine does_value (v := .string x4) ?_ (fun _ => rfl)
    simp [execOp, Act.eval, go_sem, h6, e_]
  · refine ask_if (!p1) (fun _ _ => rfl) (fun val V hd => ?_) (fun hc val V hb hd => ?_) (fun hc W h => by rw [hc] at h; cases h)
    · have hj : val 5 = .bool p1 := depsAll_get hd 5 (by kernel_rfl)
      cases p1 <;> simp [Region.wanted, yielded, hj]
    have h7 : val 7 = .string x4 := depsAll_get hd 7 (by kernel_rfl) hc
    refine does_call (f := 41) (args := #[.string x4]) ?_ (KN.out V) ?_
    · simp [execOp, Act.eval, go_sem, resolve, invoke, h7]
    · rintro e w2 ⟨rfl, hb2⟩
      exact ⟨_, rfl, fun _ => rfl, hb2⟩
  · refine ask_if (!p1) (fun _ _ => rfl) (fun val V hd => ?_) (fun hc val V hb hd => ?_) (fun hc W h => by rw [hc] at h; cases h)
    · have hj : val 5 = .bool p1 := depsAll_get hd 5 (by kernel_rfl)
      cases p1 <;> simp [Region.wanted, yielded, hj]
    have h8 : val 8 = .bool q2 := depsAll_get hd 8 (by kernel_rfl) hc
    subst en2
    refine does_value ?_ (fun _ => rfl)
    simp [execOp, Act.eval, go_sem, h8]
  · refine ask_plain rfl (fun _ _ => rfl) (fun val V hb hd => ?_)
    have h5 : val 5 = .bool p1 := depsAll_get hd 5 (by kernel_rfl)
    have q9 := depsAll_get hd 9 (by kernel_rfl)
    exact does_value (pick_or rfl rfl h5 (fun hp => q9 (by simpa using hp)) er2) rfl
  · refine ask_plain rfl (fun _ _ => rfl) (fun val V hb hd => ?_)
    have h10 : val 10 = .bool r2 := depsAll_get hd 10 (by kernel_rfl)
    refine does_value (v := .bool r2) ?_ rfl
    simp [execOp, Act.eval, go_sem, h10]
  · refine ask_if (!r2) (fun _ _ => rfl) (fun val V hd => ?_) (fun hc val V hb hd => ?_) (fun hc W h => by rw [hc] at h; cases h)
    · have hj : val 11 = .bool r2 := depsAll_get hd 11 (by kernel_rfl)
      cases r2 <;> simp [Region.wanted, yielded, hj]
    refine does_value (v := .pointer (some ⟨o, 8, none⟩)) ?_ (fun _ => rfl)
    simp [execOp, Act.eval, go_sem]
  · refine ask_if (!r2) (fun _ _ => rfl) (fun val V hd => ?_) (fun hc val V hb hd => ?_) (fun hc W h => by rw [hc] at h; cases h)
    · have hj : val 11 = .bool r2 := depsAll_get hd 11 (by kernel_rfl)
      cases r2 <;> simp [Region.wanted, yielded, hj]
    have h12 : val 12 = .pointer (some ⟨o, 8, none⟩) := depsAll_get hd 12 (by kernel_rfl) hc
    have e_ := rx_later hb c8
    refine does_value (v := .int .i64 x8) ?_ (fun _ => rfl)
    simp [execOp, Act.eval, go_sem, h12, e_]
  · refine ask_if (!r2) (fun _ _ => rfl) (fun val V hd => ?_) (fun hc val V hb hd => ?_) (fun hc W h => by rw [hc] at h; cases h)
    · have hj : val 11 = .bool r2 := depsAll_get hd 11 (by kernel_rfl)
      cases r2 <;> simp [Region.wanted, yielded, hj]
    have h13 : val 13 = .int .i64 x8 := depsAll_get hd 13 (by kernel_rfl) hc
    refine does_call (f := 24) (args := #[.int .i64 x8]) ?_ (LV.out V hb) ?_
    · simp [execOp, Act.eval, go_sem, resolve, invoke, h13]
    · rintro e w2 ⟨rfl, rfl⟩
      exact ⟨_, rfl, fun _ => rfl, Below.refl _ _⟩
  · refine ask_if (!r2) (fun _ _ => rfl) (fun val V hd => ?_) (fun hc val V hb hd => ?_) (fun hc W h => by rw [hc] at h; cases h)
    · have hj : val 11 = .bool r2 := depsAll_get hd 11 (by kernel_rfl)
      cases r2 <;> simp [Region.wanted, yielded, hj]
    have h14 : val 14 = .bool q3 := depsAll_get hd 14 (by kernel_rfl) hc
    subst en3
    refine does_value ?_ (fun _ => rfl)
    simp [execOp, Act.eval, go_sem, h14]
  · refine ask_plain rfl (fun _ _ => rfl) (fun val V hb hd => ?_)
    have h11 : val 11 = .bool r2 := depsAll_get hd 11 (by kernel_rfl)
    have q15 := depsAll_get hd 15 (by kernel_rfl)
    exact does_value (pick_or rfl rfl h11 (fun hp => q15 (by simpa using hp)) er3) rfl
  · refine ask_plain rfl (fun _ _ => rfl) (fun val V hb hd => ?_)
    have h16 : val 16 = .bool r3 := depsAll_get hd 16 (by kernel_rfl)
    refine does_value (v := .bool r3) ?_ rfl
    simp [execOp, Act.eval, go_sem, h16]
  · refine ask_if (!r3) (fun _ _ => rfl) (fun val V hd => ?_) (fun hc val V hb hd => ?_) (fun hc W h => by rw [hc] at h; cases h)
    · have hj : val 17 = .bool r3 := depsAll_get hd 17 (by kernel_rfl)
      cases r3 <;> simp [Region.wanted, yielded, hj]
    refine does_value (v := .pointer (some ⟨o, 6, none⟩)) ?_ (fun _ => rfl)
    simp [execOp, Act.eval, go_sem]
  · refine ask_if (!r3) (fun _ _ => rfl) (fun val V hd => ?_) (fun hc val V hb hd => ?_) (fun hc W h => by rw [hc] at h; cases h)
    · have hj : val 17 = .bool r3 := depsAll_get hd 17 (by kernel_rfl)
      cases r3 <;> simp [Region.wanted, yielded, hj]
    have h18 : val 18 = .pointer (some ⟨o, 6, none⟩) := depsAll_get hd 18 (by kernel_rfl) hc
    have e_ := rx_later hb c6
    refine does_value (v := .slice ca cyc.length cc) ?_ (fun _ => rfl)
    simp [execOp, Act.eval, go_sem, h18, e_]
  · refine ask_if (!r3) (fun _ _ => rfl) (fun val V hd => ?_) (fun hc val V hb hd => ?_) (fun hc W h => by rw [hc] at h; cases h)
    · have hj : val 17 = .bool r3 := depsAll_get hd 17 (by kernel_rfl)
      cases r3 <;> simp [Region.wanted, yielded, hj]
    have h19 : val 19 = .slice ca cyc.length cc := depsAll_get hd 19 (by kernel_rfl) hc
    refine does_value (v := .int .i64 (cyc.length : Nat)) ?_ (fun _ => rfl)
    simp [execOp, Act.eval, go_sem, h19]
  · refine ask_if (!r3) (fun _ _ => rfl) (fun val V hd => ?_) (fun hc val V hb hd => ?_) (fun hc W h => by rw [hc] at h; cases h)
    · have hj : val 17 = .bool r3 := depsAll_get hd 17 (by kernel_rfl)
      cases r3 <;> simp [Region.wanted, yielded, hj]
    have h20 : val 20 = .int .i64 (cyc.length : Nat) := depsAll_get hd 20 (by kernel_rfl) hc
    subst en4
    refine does_value ?_ (fun _ => rfl)
    simp [execOp, Act.eval, go_sem, h20]
  · refine ask_plain rfl (fun _ _ => rfl) (fun val V hb hd => ?_)
    have h17 : val 17 = .bool r3 := depsAll_get hd 17 (by kernel_rfl)
    have q21 := depsAll_get hd 21 (by kernel_rfl)
    exact does_value (pick_or rfl rfl h17 (fun hp => q21 (by simpa using hp)) er4) rfl
  · refine ask_plain rfl (fun _ _ => rfl) (fun val V hb hd => ?_)
    have h22 : val 22 = .bool r4 := depsAll_get hd 22 (by kernel_rfl)
    refine does_value (v := .bool r4) ?_ rfl
    simp [execOp, Act.eval, go_sem, h22]
  · refine ask_if (!r4) (fun _ _ => rfl) (fun val V hd => ?_) (fun hc val V hb hd => ?_) (fun hc W h => by rw [hc] at h; cases h)
    · have hj : val 23 = .bool r4 := depsAll_get hd 23 (by kernel_rfl)
      cases r4 <;> simp [Region.wanted, yielded, hj]
    refine does_value (v := .pointer (some ⟨o, 6, none⟩)) ?_ (fun _ => rfl)
    simp [execOp, Act.eval, go_sem]
  · refine ask_if (!r4) (fun _ _ => rfl) (fun val V hd => ?_) (fun hc val V hb hd => ?_) (fun hc W h => by rw [hc] at h; cases h)
    · have hj : val 23 = .bool r4 := depsAll_get hd 23 (by kernel_rfl)
      cases r4 <;> simp [Region.wanted, yielded, hj]
    have h24 : val 24 = .pointer (some ⟨o, 6, none⟩) := depsAll_get hd 24 (by kernel_rfl) hc
    have e_ := rx_later hb c6
    refine does_value (v := .slice ca cyc.length cc) ?_ (fun _ => rfl)
    simp [execOp, Act.eval, go_sem, h24, e_]
  · refine ask_if (!r4) (fun _ _ => rfl) (fun val V hd => ?_) (fun hc val V hb hd => ?_) (fun hc W h => by rw [hc] at h; cases h)
    · have hj : val 23 = .bool r4 := depsAll_get hd 23 (by kernel_rfl)
      cases r4 <;> simp [Region.wanted, yielded, hj]
    have h25 : val 25 = .slice ca cyc.length cc := depsAll_get hd 25 (by kernel_rfl) hc
    refine does_call (f := 42) (args := #[.slice ca cyc.length cc, .func (.func 43) #[] #[]]) ?_ (CF.out (by simpa using hc) V hb) ?_
    · simp [execOp, Act.eval, go_sem, resolve, invoke, h25]
    · rintro e w2 ⟨rfl, hb2⟩
      exact ⟨_, rfl, fun _ => rfl, hb2⟩
  · refine ask_plain rfl (fun _ _ => rfl) (fun val V hb hd => ?_)
    have h23 : val 23 = .bool r4 := depsAll_get hd 23 (by kernel_rfl)
    have q26 := depsAll_get hd 26 (by kernel_rfl)
    exact does_value (pick_or rfl rfl h23 (fun hp => q26 (by simpa using hp)) er5) rfl
  · refine ask_plain rfl (fun _ _ => rfl) (fun val V hb hd => ?_)
    have h27 : val 27 = .bool r5 := depsAll_get hd 27 (by kernel_rfl)
    refine does_value (v := .bool r5) ?_ rfl
    simp [execOp, Act.eval, go_sem, h27]
  · intro val V hb hR
    have hr : val 28 = .bool r5 := hR 28 (by decide)
    have BV := hid hb
    clear hR hb
    simp only [hr]
    go_wp2_with fail
    go_ret
    exact ⟨rfl, BW1.out.trans (BV.out.mono BW1.out.size)⟩
set_option maxHeartbeats 8000000 in
set_option maxRecDepth 100000 in
theorem idxA_is {S : Nat → Prop} (v : Value) (l : List MA) (w : World) (hl : AnsS S w v l) (hm : l.length ≤ 20000) (hN : NamesAt w) :
    Calls Tryd.prog 40 #[v, .func (.func 23) #[] #[]] w fun e w' => (∃ r : Int, e = .returned (.int .i64 r) ∧ decide (0 ≤ r) = l.any wrongA) ∧ Below w.heap.size w w' := by
  have H := hid hl
  have NM := hid hN
  clear hN
  obtain ⟨va, vc, rfl, _⟩ := id hl
  have hmi : (l.length : Int) ≤ 20000 := by omega
  have B0 := hid (Below.refl w.heap.size w)
  clear hl
  go_enter Tryd.func40, Tryd.ntmps40
  go_wp2_with fail
  go_loopg [5, 8] l.length (fun gg _ i wr => ∃ k : Nat, k ≤ l.length ∧ l.length - k ≤ gg ∧ i = .int .i64 k ∧ Aside (∀ j, j < k → wrongA (l.getD j default) = false) ∧ Aside (Below w.heap.size w wr))
  case atStart => exact ⟨0, Nat.zero_le _, by omega, rfl, fun j hj => by omega, B0.out⟩
  case round =>
    clear B0
    obtain ⟨k, hk, hg, rfl, NX, BX⟩ := hrel
    by_cases hlt : k < l.length
    · have hlti : (k : Int) < l.length := by omega
      have hk0 : (0 : Int) ≤ k := by omega
      have HR := RowsIn.keep H.out (by omega) (R' := AnS S wr) (fun _ _ h => anS_keep _ _ _ _ _ _ h (keeps_below BX.out) (fun _ _ h => h)) (keeps_below BX.out) (fun _ _ h => h)
      obtain ⟨ao2, c2, e2, _, hrc⟩ := Tx.RowsIn.cells HR (by omega)
      obtain ⟨b, off, cs, hab, hbl, hlen, hrow, hcs⟩ := hrc k hlt
      simp only [Value.slice.injEq, true_and] at e2
      obtain ⟨e2, e3⟩ := e2
      subst hab
      subst e2
      subst e3
      obtain ⟨⟨x0, x1, x2, x3, x4, x5, cyc, x7, x8⟩, hx⟩ : ∃ x, l.getD k default = x := ⟨_, rfl⟩
      rw [hx] at hrow
      obtain ⟨cv, hcv, hcyc⟩ := hrow
      obtain ⟨ca, cc, rfl, _⟩ := id hcyc
      have hrow : cs = encA (x0, x1, x2, x3, x4, x5, cyc, x7, x8) (.slice ca cyc.length cc) := hcv
      replace hcyc : WhysS S wr (.slice ca cyc.length cc) cyc := hcyc
      clear hcv
      subst hrow
      have HX := hid hx
      clear hx HR hrc
      have k0 : wr.cell? ⟨b, off + k * 9, none⟩ = some (.int .i64 x0) := by simpa using hcs 0 (.int .i64 x0) rfl
      have k1 : wr.cell? ⟨b, off + k * 9 + 1, none⟩ = some (.int .i64 x1) := by simpa using hcs 1 (.int .i64 x1) rfl
      have k2 : wr.cell? ⟨b, off + k * 9 + 2, none⟩ = some (.int .i64 x2) := by simpa using hcs 2 (.int .i64 x2) rfl
      have k3 : wr.cell? ⟨b, off + k * 9 + 3, none⟩ = some (.int .i64 x3) := by simpa using hcs 3 (.int .i64 x3) rfl
      have k4 : wr.cell? ⟨b, off + k * 9 + 4, none⟩ = some (.string x4) := by simpa using hcs 4 (.string x4) rfl
      have k5 : wr.cell? ⟨b, off + k * 9 + 5, none⟩ = some (.int .i64 x5) := by simpa using hcs 5 (.int .i64 x5) rfl
      have k6 : wr.cell? ⟨b, off + k * 9 + 6, none⟩ = some (.slice ca cyc.length cc) := by simpa using hcs 6 (.slice ca cyc.length cc) rfl
      have k7 : wr.cell? ⟨b, off + k * 9 + 7, none⟩ = some (.bool x7) := by simpa using hcs 7 (.bool x7) rfl
      have k8 : wr.cell? ⟨b, off + k * 9 + 8, none⟩ = some (.int .i64 x8) := by simpa using hcs 8 (.int .i64 x8) rfl
      clear hcs hlen
      have ST := hid (wrongA_is x0 x1 x2 x3 x4 x5 ca cyc cc x7 x8 wr hcyc (NM.out.later BX.out))
      obtain ⟨t, ht⟩ : ∃ t, wrongA (x0, x1, x2, x3, x4, x5, cyc, x7, x8) = t := ⟨_, rfl⟩
      rw [ht] at ST
      have EV : Hid (wrongA (l.getD k default) = t) := by
        show _ = _
        rw [HX.out]
        exact ht
      clear ht
      cases t with
      | true =>
        have EA : Hid (l.any wrongA = true) := any_at hlt EV.out
        go_wp2_with fail
        go_at_call 23
        refine ST.out.mono ?_
        rintro e w' ⟨rfl, b1⟩
        have B1 := hid (BX.out.trans (b1.mono BX.out.size))
        clear b1 k0 k1 k2 k3 k4 k5 k6 k7 k8
        go_wp2_with fail
        go_ret
        exact ⟨⟨_, rfl, by rw [EA.out]; simp⟩, B1.out⟩
      | false =>
        have EX : Hid (∀ j, j < k + 1 → wrongA (l.getD j default) = false) := fun j hj => by
          by_cases e : j = k
          · subst e
            exact EV.out
          · exact NX.out j (by omega)
        clear NX EV
        go_wp2_with fail
        go_at_call 23
        refine ST.out.mono ?_
        rintro e w' ⟨rfl, b1⟩
        have B1 := hid (BX.out.trans (b1.mono BX.out.size))
        clear b1 k0 k1 k2 k3 k4 k5 k6 k7 k8
        go_wp2_with fail
        go_roundg (l.length - (k + 1))
        case measure => omega
        case rel => exact ⟨k + 1, by omega, by omega, by go_num, EX.out, B1.out⟩
    · have hlti : ¬ (k : Int) < l.length := by omega
      have EA : Hid (l.any wrongA = false) := any_none (fun j hj => NX.out j (by omega))
      clear NX
      go_wp2_with fail
      go_ret
      exact ⟨⟨_, rfl, by rw [EA.out]; rfl⟩, BX.out⟩
set_option maxHeartbeats 2000000 in
set_option maxRecDepth 100000 in
theorem cfA_is {S : Nat → Prop} (v : Value) (l : List MA) (w : World) (hl : AnsS S w v l) (hm : l.length ≤ 20000) (hN : NamesAt w) :
    Calls Tryd.prog 22 #[v, .func (.func 23) #[] #[]] w fun e w' => e = .returned (.bool (l.any wrongA)) ∧ Below w.heap.size w w' := by
  have I := hid (idxA_is v l w hl hm hN)
  clear hl
  go_enter Tryd.func22, Tryd.ntmps22
  go_wp2_with fail
  go_at_call 40
  refine I.out.mono ?_
  rintro e w' ⟨⟨r, rfl, hr⟩, b⟩
  have B := hid b
  have HR := hid hr
  clear b hr
  go_wp2_with fail
  go_ret
  exact ⟨by rw [← HR.out]; rfl, B.out⟩
end Go.Proofs.YtkpomcimaofkkaaDoor.Rp
