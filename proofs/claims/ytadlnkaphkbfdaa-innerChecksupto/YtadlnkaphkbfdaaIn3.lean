/-
  slices.Equal and slices.Clone of ints; fits.
-/
import Derived.Test.YtadlnkaphkbfdaaIn2
import Derived.Deep.QuietTactic
import Derived.BigQuiet
import Derived.Outline
namespace Go.Proofs.Ytadlnkaphkbfdaa
set_option linter.unusedVariables false
set_option linter.unusedSimpArgs false
open Go.RowKit Go.Lib

/-- The int at each place of a slice of length n. -/
def IntCells (w : World) (ao : Option Addr) (xs : List Int) (n : Nat) : Prop := ∀ j, j < n → ∃ b o, ao = some ⟨b, o, none⟩ ∧ w.cell? ⟨b, o + j, none⟩ = some (.int .i64 (xs.getD j default))
theorem IntsIn.cells {S : Nat → Prop} {w : World} {v : Value} {l : List Int} (h : IntsIn S w v l) : ∃ ao c, v = .slice ao l.length c ∧ (l.length * 8 ≤ 140737488355328 ∧ l.length ≤ c) ∧ IntCells w ao l l.length := by
  obtain ⟨ao, c, hv, hl, hc⟩ := h
  refine ⟨ao, c, hv, hl, fun j hj => ?_⟩
  obtain ⟨b, off, ha, _, hcc⟩ := hc (by omega)
  exact ⟨b, off, ha, hcc j hj⟩
theorem IntCells.later {w w' : World} {ao : Option Addr} {xs : List Int} {n : Nat} (h : IntCells w ao xs n) (hb : Below w.heap.size w w') : IntCells w' ao xs n := fun j hj => by
  obtain ⟨b, o, ha, hc⟩ := h j hj
  exact ⟨b, o, ha, (hb.cell (p := ⟨b, o + j, none⟩) (World.block_lt_of_cell? _ _ hc)).trans hc⟩
theorem IntCells.dropped {w : World} {ao : Option Addr} {xs : List Int} {m c d : Nat} (h : IntCells w ao xs m) (hd : d ≤ m) (hc : m ≤ c) : IntCells w (if c = d then ao else Option.map (fun x => x.add d) ao) (xs.drop d) (m - d) := fun j hj => by
  rw [if_neg (by omega)]
  obtain ⟨b, o, rfl, hc⟩ := h (d + j) (by omega)
  refine ⟨b, o + d, by simp [Addr.add], ?_⟩
  have e : (xs.drop d).getD j default = xs.getD (d + j) default := by simp [List.getD]
  rw [e, Nat.add_assoc]
  exact hc
theorem drew_drew (w : World) (q n : Nat) : (w.drewN q).drewN n = w.drewN (q + n) := by
  unfold World.drewN
  simp [Nat.add_assoc]
theorem intsEq_dec (xs ys : List Int) : intsEq xs ys = decide (xs = ys) := by
  by_cases h : xs = ys
  · rw [h, intsEq_refl]
    simp
  · rw [decide_eq_false h]
    by_cases hl : xs.length = ys.length
    · obtain ⟨j, hj, hne⟩ : ∃ j, j < xs.length ∧ xs.getD j default ≠ ys.getD j default := by
        apply Classical.byContradiction
        intro c
        apply h
        apply List.ext_getElem hl
        intro j h1 h2
        apply Classical.byContradiction
        intro c2
        exact c ⟨j, h1, by simpa [List.getD, h1, h2] using c2⟩
      exact allEq_miss _ xs ys j hj (by simpa using hne)
    · exact allEq_len _ xs ys hl

set_option maxHeartbeats 400000 in
theorem slicesEqual_walk (a1 a2 : Option Addr) (c1 c2 n : Nat) (xs ys : List Int) (w : World) (hx : xs.length = n) (hy : ys.length = n) (_hbig : n ≤ 9223372036854775807)
    (h1 : IntCells w a1 xs n) (h2 : IntCells w a2 ys n) :
    Calls Try.prog 12 #[.slice a1 n c1, .slice a2 n c2] w fun e w' => e = .returned (.bool (intsEq xs ys)) ∧ ∃ q, w' = w.drewN q := by
  have HX : Hid (xs.length = n) := hx
  have HY : Hid (ys.length = n) := hy
  clear hx hy
  go_enter Try.func12, Try.ntmps12
  go_wp2
  go_loopg [5, 13] n (fun g _ i wr => ∃ k : Nat, k ≤ n ∧ n - k ≤ g ∧ i = .int .i64 k ∧ Aside (∃ q, wr = w.drewN q) ∧ Aside (∀ j, j < k → (xs.getD j default == ys.getD j default) = true))
  case atStart => exact ⟨0, Nat.zero_le _, by omega, rfl, ⟨0, rfl⟩, fun j hj => absurd hj (Nat.not_lt_zero _)⟩
  case round =>
    obtain ⟨k, hk, hg, rfl, ⟨q, rfl⟩, A⟩ := hrel
    by_cases hlt : k < n
    · have hlti : (k : Int) < (n : Int) := by omega
      obtain ⟨b1, o1, rfl, k1⟩ := h1 k hlt
      obtain ⟨b2, o2, rfl, k2⟩ := h2 k hlt
      clear h1 h2
      generalize hX : xs.getD k default = X at k1
      generalize hY : ys.getD k default = Y at k2
      have HX' : Hid (xs.getD k default = X) := hX
      have HY' : Hid (ys.getD k default = Y) := hY
      clear hX hY
      cases hq : (X == Y) with
      | true =>
        have hne : (X != Y) = false := by simp [bne, hq]
        have HQ : Hid ((X == Y) = true) := hq
        clear hq
        go_wp2
        go_quiet (fail)
        go_wp2
        go_roundg (n - (k + 1))
        case measure => omega
        case rel =>
          refine ⟨k + 1, by omega, by omega, by go_num, ⟨_, rfl⟩, (show Aside _ from fun j hj => ?_)⟩
          by_cases e : j = k
          · subst e; rw [HX'.out, HY'.out]; exact HQ.out
          · exact A.out j (by omega)
      | false =>
        have hne : (X != Y) = true := by simp [bne, hq]
        have HQ : Hid ((X == Y) = false) := hq
        clear hq
        go_wp2
        go_quiet (fail)
        go_wp2
        go_ret
        refine ⟨?_, ⟨_, drew_drew _ _ _⟩⟩
        rw [show intsEq xs ys = false from allEq_miss _ xs ys k (by rw [HX.out]; exact hlt) (by rw [HX'.out, HY'.out]; exact HQ.out)]
        rfl
    · go_wp2
      go_ret
      refine ⟨?_, ⟨_, rfl⟩⟩
      rw [show intsEq xs ys = true from allEq_hit _ xs ys (by rw [HX.out, HY.out]) (fun j hj => A.out j (by rw [HX.out] at hj; omega))]
      rfl

theorem slicesEqual_lens (a1 a2 : Option Addr) (c1 c2 n m : Nat) (w : World) (hnm : n ≠ m) :
    Calls Try.prog 12 #[.slice a1 n c1, .slice a2 m c2] w fun e w' => e = .returned (.bool false) ∧ ∃ q, w' = w.drewN q := by
  have hne : ((n : Int) != (m : Int)) = true := by rw [bne_iff_ne]; omega
  go_enter Try.func12, Try.ntmps12
  go_wp2
  go_ret
  exact ⟨rfl, 0, rfl⟩


/-- slices.Equal tells whether two lists of ints are the same. -/
theorem slicesEqual_cells (a1 a2 : Option Addr) (c1 c2 n m : Nat) (xs ys : List Int) (w : World) (hn : xs.length = n) (hm : ys.length = m) (hb : n ≤ 9223372036854775807) (h1 : IntCells w a1 xs n) (h2 : IntCells w a2 ys m) :
    Calls Try.prog 12 #[.slice a1 n c1, .slice a2 m c2] w fun e w' => e = .returned (.bool (decide (xs = ys))) ∧ ∃ q, w' = w.drewN q := by
  rw [← intsEq_dec]
  subst hn hm
  by_cases h : xs.length = ys.length
  · rw [← h] at h2 ⊢
    exact slicesEqual_walk a1 a2 c1 c2 xs.length xs ys w rfl h.symm hb h1 h2
  · rw [show intsEq xs ys = false from allEq_len _ xs ys h]
    exact slicesEqual_lens a1 a2 c1 c2 _ _ w h

theorem Try.infoInt : (Try.prog.info? 3).map (fun i => (i.zero, i.size, i.bytes)) = some (some (.int .i64 0), 1, 8) := by kernel_rfl

theorem clone_nil (n c : Nat) (w : World) :
    Calls Try.prog 31 #[.slice none n c] w fun e w' => e = .returned (.slice none 0 0) ∧ w' = w := by
  have q22 : ∀ (w : World) (a : Option Addr) (n c n' c' : Nat), (binOp .eql 26 (.slice a n c) (.slice none n' c')).run Try.prog w = .ok (.bool a.isNone) w := fun w a n c n' c' => Lib.run_eql_slice_nil w _ _ a n c n' c' Try.underlying26
  go_enter Try.func31, Try.ntmps31
  go_wp2
  go_ret
  exact ⟨rfl, rfl⟩

set_option maxHeartbeats 2000000 in
set_option maxRecDepth 100000 in
theorem clone_some (ad : Addr) (c : Nat) (l : List Int) (w : World) (hbig : l.length * 8 ≤ 140737488355328) (hc : ∀ j, j < l.length → w.cell? (ad.add j) = some (.int .i64 (l.getD j default))) :
    Calls Try.prog 31 #[.slice (some ad) l.length c] w fun e w' => ∃ v', e = .returned v' ∧ w'.ownsRow w.heap.size 3 1 v' l.length (l.map (Value.int .i64)) ∧ Below w.heap.size w w' := by
  obtain ⟨i0, hi, hz0, hz1, hz2⟩ := info_parts Try.infoInt
  have q22 : ∀ (w : World) (a : Option Addr) (n c n' c' : Nat), (binOp .eql 26 (.slice a n c) (.slice none n' c')).run Try.prog w = .ok (.bool a.isNone) w := fun w a n c n' c' => Lib.run_eql_slice_nil w _ _ a n c n' c' Try.underlying26
  have u22 : ∀ w, Sem.run Try.prog (underlying 26) w = .ok (TypeDesc.slice 3) w := run_underlying Try.underlying26
  have A := hid hc
  clear hc
  go_enter Try.func31, Try.ntmps31
  go_wp2_with (at_builtin; refine wpList_append_own _ rfl _ _ 26 rfl w.heap.size 3 i0 (.int .i64 0) 1 8 Try.underlying26 hi hz0 hz1 hz2 rfl (by decide) _ _ _ rfl (World.ownsRow_made w #[] 0 (Nat.le_refl _) (Nat.zero_le _) rfl) ad l.length c (l.map (Value.int .i64)) rfl ?qc1 ?qc2 ?qc3 ?qc4 ?qc5 ?qc6 ?_)
  case qc1 => simp
  case qc2 =>
    intro j u hj
    have hjn : j < l.length := by simpa using (List.getElem?_eq_some_iff.1 hj).1
    refine Lib.cell?_alloc_some _ ?_
    rw [A.out j hjn]
    have e : (l.map (Value.int .i64))[j]? = some (Value.int .i64 (l.getD j default)) := by simp [List.getD, List.getElem?_eq_getElem hjn]
    rw [e] at hj
    exact hj
  case qc3 => intro u hu; obtain ⟨x, _, rfl⟩ := List.mem_map.1 hu; rfl
  case qc4 => unfold maxLen; omega
  case qc5 => omega
  case qc6 => simp
  intro v' w1 hown hgrow hnil
  go_wp2
  go_ret
  refine ⟨v', rfl, by simpa using hown, ?_⟩
  exact ((Below.refl _ w).alloc (Nat.le_refl _) _).grown hgrow (by simp) (by intro k hk; simp [Value.ownBlock] at hk; omega)


/-- A row of ints of one's own, as ints. -/
theorem own_ints {B : Nat} {w : World} {v : Value} {l : List Int} (h : w.ownsRow B 3 1 v l.length (l.map (Value.int .i64))) (hb : l.length * 8 ≤ 140737488355328) : IntsIn Any w v l := by
  rcases h.2 with ⟨hv, hn⟩ | ⟨g, cap, cur, hv, hg, hh, hcap, hm, hsz, ht⟩
  · exact ⟨none, 0, by rw [hv, hn], ⟨hb, by omega⟩, fun h => by omega⟩
  · refine ⟨some ⟨g, 0, none⟩, cap, hv, ⟨hb, hcap⟩, fun _ => ⟨g, 0, rfl, trivial, fun j hj => ?_⟩⟩
    have := h.cells (g := g) (by rw [hv]; rfl) j (.int .i64 (l.getD j default)) (by simp [List.getD, List.getElem?_eq_getElem hj])
    rw [Addr.add_lit] at this
    exact this
theorem clone_own {S : Nat → Prop} (v : Value) (l : List Int) (w : World) (h : IntsIn S w v l) :
    Calls Try.prog 31 #[v] w fun e w' => ∃ v', e = .returned v' ∧ w'.ownsRow w.heap.size 3 1 v' l.length (l.map (Value.int .i64)) ∧ Below w.heap.size w w' := by
  obtain ⟨ao, c, rfl, hl, hc⟩ := h
  cases ao with
  | none =>
    have h0 : l.length = 0 := by
      by_cases h : 0 < l.length
      · obtain ⟨b, off, ha, _⟩ := hc h; cases ha
      · omega
    have hn : l = [] := List.length_eq_zero_iff.1 h0
    subst hn
    refine (clone_nil _ c w).mono fun e w' ⟨he, hw⟩ => ⟨_, he, World.ownsRow_nil _ _ _ _, ?_⟩
    rw [hw]; exact Below.refl _ _
  | some ad =>
    refine clone_some ad c l w hl.1 (fun j hj => ?_)
    obtain ⟨b, off, ha, _, hcc⟩ := hc (by omega)
    cases ha
    rw [Addr.add_lit]
    exact hcc j hj

theorem two_box (w : World) (o1 o2 : Obj) : Below w.heap.size w ((w.alloc o1).alloc o2) := (below_box w _).trans ((below_box _ _).mono (by simp))
theorem below_drewN {B : Nat} {w w' : World} (h : Below B w w') (q : Nat) : Below B w (w'.drewN q) := ⟨h.os, h.tape, h.output, h.size, h.block⟩

set_option maxHeartbeats 2000000 in
theorem fits_is (k : Kn) (sl : Value) (o : MOp) (lv : Value) (w : World) (h1 : IntsIn Any w sl k.list) (h2 : IntsIn Any w lv o.list) :
    Calls Try.prog 34 #[knV k sl, opV o lv] w fun e w' => e = .returned (.bool (k.fits o)) ∧ Below w.heap.size w w' := by
  obtain ⟨a1, c1, rfl, ⟨b1, g1⟩, k1⟩ := h1.cells
  obtain ⟨a2, c2, rfl, ⟨b2, g2⟩, k2⟩ := h2.cells
  obtain ⟨ok, os, ox, ol, oh, on⟩ := o
  obtain ⟨kw, kl, kn, kv⟩ := k
  unfold opV knV Kn.fits
  simp only [MOp.kind, MOp.key, MOp.value, MOp.list, MOp.has, MOp.nl] at *
  have E1 := hid k1
  have E2 := hid k2
  clear h1 h2 k1 k2
  obtain ⟨n, hn⟩ : ∃ n, kl.length = n := ⟨_, rfl⟩
  obtain ⟨m, hm⟩ : ∃ m, ol.length = m := ⟨_, rfl⟩
  rw [hn] at E1 b1 g1 ⊢
  rw [hm] at E2 b2 g2 ⊢
  have HN := hid hn
  have HM := hid hm
  clear hn hm
  by_cases h2 : ok = 2
  · subst h2
    simp only [if_true]
    cases kw with
    | true =>
      simp only [if_true]
      have BB := hid (two_box w (.cells #[.bool true, .slice a1 n c1, .bool kn, .int .i64 kv] 61) (.cells #[.int .i64 2, .string os, .int .i64 ox, .slice a2 m c2, .bool oh, .bool on] 31))
      go_enter Try.func34, Try.ntmps34
      go_wp2_with fail
      go_at_call 12
      refine (slicesEqual_cells a2 a1 c2 c1 m n ol kl _ HM.out HN.out (by omega) (E2.out.later BB.out) (E1.out.later BB.out)).mono ?_
      rintro e w' ⟨rfl, q, rfl⟩
      go_wp2_with fail
      go_ret
      exact ⟨rfl, below_drewN BB.out q⟩
    | false =>
      simp only [Bool.false_eq_true, if_false]
      have BB := hid (two_box w (.cells #[.bool false, .slice a1 n c1, .bool kn, .int .i64 kv] 61) (.cells #[.int .i64 2, .string os, .int .i64 ox, .slice a2 m c2, .bool oh, .bool on] 31))

      have C1 := hid (E1.out.later BB.out)
      have C2 := hid (E2.out.later BB.out)
      by_cases hle : n ≤ m
      · obtain ⟨d, hd⟩ : ∃ d : Nat, (m : Int) - n = d := ⟨m - n, by omega⟩
        have hd2 : m - n = d := by omega
        rw [hd2, decide_eq_true hle, Bool.true_and]
        have h0 : ¬ ((d : Int) < 0) := by omega
        have h3 : (d : Int) ≤ m := by omega
        have hdm : d ≤ m := by omega
        obtain ⟨W, hW⟩ : ∃ W, W = ((w.alloc (.cells #[.bool false, .slice a1 n c1, .bool kn, .int .i64 kv] 61)).alloc (.cells #[.int .i64 2, .string os, .int .i64 ox, .slice a2 m c2, .bool oh, .bool on] 31)) := ⟨_, rfl⟩
        have QQ : Hid (∀ q, Calls Try.prog 12 #[.slice (if c2 = d then a2 else Option.map (fun x => x.add d) a2) (m - d) (c2 - d), .slice a1 n c1] (W.drewN q) fun e w'' => e = .returned (.bool (decide (ol.drop d = kl))) ∧ ∃ q', w'' = W.drewN q') := fun q => by
          rw [← hW] at C1 C2
          refine (slicesEqual_cells _ a1 _ c1 (m - d) n (ol.drop d) kl (W.drewN q) (by rw [List.length_drop, HM.out]) HN.out (by omega) ((C2.out.dropped hdm g2).later (below_drewN (Below.refl _ _) q)) (C1.out.later (below_drewN (Below.refl _ _) q))).mono ?_
          rintro e w' ⟨rfl, q', rfl⟩
          exact ⟨rfl, _, drew_drew _ _ _⟩
        rw [hW] at QQ
        clear hW C1 C2 hle hd2
        go_enter Try.func34, Try.ntmps34
        go_wp2_with fail
        go_quiet ((go_at_call 12; exact QQ.out _))
        go_wp2_with fail
        all_goals (go_ret; exact ⟨rfl, below_drewN (two_box w _ _) _⟩)
      · obtain ⟨d, hd⟩ : ∃ d : Int, (m : Int) - n = d := ⟨_, rfl⟩
        rw [decide_eq_false hle, Bool.false_and]
        have h0 : d < 0 := by omega
        have h1 : ¬ (0 ≤ d) := by omega
        have h4 : decide (0 ≤ d) = false := decide_eq_false h1
        have h3 : -9223372036854775808 ≤ d := by omega
        go_enter Try.func34, Try.ntmps34
        go_wp2_with fail
        go_quiet (fail)
        go_wp2_with fail
        go_ret
        exact ⟨rfl, below_drewN BB.out _⟩
  · have e2 : (ok == 2) = false := by simp [h2]
    rw [if_neg h2]
    clear h2
    cases kw with
    | false =>
      simp only [Bool.false_eq_true, if_false]
      go_enter Try.func34, Try.ntmps34
      go_wp2_with fail
      go_ret
      exact ⟨rfl, (below_box w _).trans ((below_box _ _).mono (by simp))⟩
    | true =>
      simp only [if_true]
      have BB := hid (two_box w (.cells #[.bool true, .slice a1 n c1, .bool kn, .int .i64 kv] 61) (.cells #[.int .i64 ok, .string os, .int .i64 ox, .slice a2 m c2, .bool oh, .bool on] 31))
      cases he : (on == kn) with
      | false =>
        simp only [Bool.false_and]
        go_enter Try.func34, Try.ntmps34
        go_wp2_with fail
        go_ret
        exact ⟨rfl, BB.out⟩
      | true =>
        simp only [Bool.true_and]
        cases on with
        | true =>
          go_enter Try.func34, Try.ntmps34
          go_wp2_with fail
          go_ret
          exact ⟨rfl, BB.out⟩
        | false =>
          simp only [Bool.false_or]
          go_enter Try.func34, Try.ntmps34
          go_wp2_with fail
          go_ret
          exact ⟨rfl, BB.out⟩
end Go.Proofs.Ytadlnkaphkbfdaa
