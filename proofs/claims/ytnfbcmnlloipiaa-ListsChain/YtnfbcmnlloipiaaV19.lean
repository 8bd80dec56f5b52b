/-
  The document's Once.
  Who wrote a value.
  Along the trace each writer leads to the next one: the walk of the law.
-/
import Derived.Test.YtnfbcmnlloipiaaV12
import Derived.Test.YtnfbcmnlloipiaaV18
import Derived.Laws.StructEq
import Derived.Test.YtnfbcmnlloipiaaV8
import Derived.Test.YtnfbcmnlloipiaaV14
namespace Go.Proofs.Ytnfbcmnlloipiaa
set_option linter.unusedVariables false
set_option linter.unusedSimpArgs false
open Go.RowKit Go.Lib Go.Maps
open Tx (info_parts)

theorem whysC_at : ∀ (l : List MWy) (j i : Nat), j < l.length → i < 8 → (whysC l)[j * 8 + i]? = (whyCs (l.getD j default))[i]?
  | [], j, i, h, _ => by simp at h
  | a :: l, 0, i, _, hi => by
    show (whyCs a ++ whysC l)[0 * 8 + i]? = _
    rw [Nat.zero_mul, Nat.zero_add, List.getElem?_append_left (by simpa [whyCs] using hi)]
    rfl
  | a :: l, j + 1, i, h, hi => by
    show (whyCs a ++ whysC l)[(j + 1) * 8 + i]? = _
    rw [List.getElem?_append_right (by simp [whyCs]; omega)]
    have e : (j + 1) * 8 + i - (whyCs a).length = j * 8 + i := by simp [whyCs]; omega
    rw [e, whysC_at l j i (by simpa using h) hi]
    rfl
theorem eqW_comm (x y : MWy) : eqW x y = eqW y x := by
  rw [Bool.eq_iff_iff, eqW_iff, eqW_iff]
  exact eq_comm
set_option maxHeartbeats 2000000 in
set_option maxRecDepth 100000 in
/-- Struct equality of two dependencies. -/
theorem why_eql (x y : MWy) (w : World) : (binOp .eql 40 (whyV x) (whyV y)).run Try.prog w = .ok (.bool (eqW x y)) w := by
  obtain ⟨x1, x2, x3, x4, x5, x6, x7⟩ := x
  obtain ⟨y1, y2, y3, y4, y5, y6, y7⟩ := y
  have hs : decide (x4 = y4) = (x4.toList == y4.toList) := by
    by_cases c : x4 = y4
    · subst c
      simp
    · rw [decide_eq_false c]
      cases hc : (x4.toList == y4.toList) with
      | false => rfl
      | true => exact absurd (cond_ws ▸ hc) c
  have e : eqW (x1, x2, x3, x4, x5, x6, x7) (y1, y2, y3, y4, y5, y6, y7) = ((x1 == y1) && ((x2 == y2) && ((x3 == y3) && ((x4.toList == y4.toList) && ((x5 == y5) && ((x6 == y6) && (x7 == y7))))))) := by
    simp only [eqW, hs]
    have bi : ∀ a b : Int, decide (a = b) = (a == b) := fun a b => by rw [Bool.eq_iff_iff]; simp
    have bb : ∀ a b : Bool, decide (a = b) = (a == b) := fun a b => by cases a <;> cases b <;> rfl
    rw [bi, bi, bi, bi, bi, bb]
  rw [e]
  unfold whyV
  simp only
  generalize h1 : (x1 == y1) = b1
  generalize h2 : (x2 == y2) = b2
  generalize h3 : (x3 == y3) = b3
  generalize h4 : (x4.toList == y4.toList) = b4
  generalize h5 : (x5 == y5) = b5
  generalize h6 : (x6 == y6) = b6
  generalize h7 : (x7 == y7) = b7
  cases b1
  · simp [go_sem, h1]
  cases b2
  · simp [go_sem, h1, h2]
  cases b3
  · simp [go_sem, h1, h2, h3]
  cases b4
  · simp [go_sem, h1, h2, h3, h4]
  cases b5
  · simp [go_sem, h1, h2, h3, h4, h5]
  cases b6
  · simp [go_sem, h1, h2, h3, h4, h5, h6]
  cases b7
  · simp [go_sem, h1, h2, h3, h4, h5, h6, h7]
  simp [go_sem, h1, h2, h3, h4, h5, h6, h7]
def onceK (ws : List MWy) (k : Nat) : List MWy := (ws.take k).foldl stepW []
theorem onceK_next (ws : List MWy) (k : Nat) (hk : k < ws.length) : onceK ws (k + 1) = stepW (onceK ws k) (ws.getD k default) := by
  unfold onceK
  rw [List.take_add_one, List.foldl_append, List.getElem?_eq_getElem hk]
  simp [List.getD, List.getElem?_eq_getElem hk]
theorem onceK_all (ws : List MWy) : onceK ws ws.length = onceW ws := by
  unfold onceK onceW
  rw [List.take_length]
theorem onceK_len (ws : List MWy) : ∀ k, (onceK ws k).length ≤ k
  | 0 => by simp [onceK]
  | k + 1 => by
    by_cases hk : k < ws.length
    · rw [onceK_next ws k hk]
      have := step_len (onceK ws k) (ws.getD k default)
      have := onceK_len ws k
      omega
    · have e : onceK ws (k + 1) = onceK ws k := by
        unfold onceK
        rw [List.take_of_length_le (by omega), List.take_of_length_le (by omega)]
      rw [e]
      have := onceK_len ws k
      omega
/-- Among the first q. -/
def hadB (out : List MWy) (y : MWy) (q : Nat) : Bool := decide (y.1 = y.2.1) || (out.take q).any (eqW y)
theorem had_next (out : List MWy) (y : MWy) (q : Nat) (hq : q < out.length) : hadB out y (q + 1) = (hadB out y q || eqW (out.getD q default) y) := by
  unfold hadB
  rw [List.take_add_one, List.any_append, List.getElem?_eq_getElem hq, eqW_comm (out.getD q default) y]
  simp [List.getD, List.getElem?_eq_getElem hq, Bool.or_assoc]
theorem had_all (out : List MWy) (y : MWy) : hadB out y out.length = (decide (y.1 = y.2.1) || inW out y) := by
  unfold hadB inW
  rw [List.take_length]
set_option maxHeartbeats 8000000 in
set_option maxRecDepth 100000 in
theorem once_is (B : Nat) (v : Value) (ws : List MWy) (w : World) (h : w.ownsRow B 40 8 v ws.length (whysC ws)) (hl : ws.length ≤ 500000) : Calls Try.prog 48 #[v] w fun e w' => ∃ v', e = .returned v' ∧ w'.ownsRow w.heap.size 40 8 v' (onceW ws).length (whysC (onceW ws)) ∧ Below w.heap.size w w' := by
  obtain ⟨i0, hi0, hz0, hz1, hz2⟩ := info_parts Try.infoWy
  have HI0 := hid hi0
  have HZ0 := hid hz0
  have HZ1 := hid hz1
  have HZ2 := hid hz2
  obtain ⟨ra, rc, hrv⟩ := own_slice h
  subst hrv
  have HO := hid h
  have hli : (ws.length : Int) ≤ 500000 := by omega
  clear h hi0 hz0 hz1 hz2
  go_enter Try.func48, Try.ntmps48
  go_wp2_with fail
  go_loopg [3, 5, 6, 8, 11] ws.length (fun gg out _ _ _ i wr => ∃ k : Nat, k ≤ ws.length ∧ ws.length - k ≤ gg ∧ i = .int .i64 k ∧ Aside (Below w.heap.size w wr) ∧ Aside (wr.ownsRow w.heap.size 40 8 out (onceK ws k).length (whysC (onceK ws k))))
  case atStart => exact ⟨0, Nat.zero_le _, by omega, rfl, Below.refl _ _, World.ownsRow_nil _ _ _ _⟩
  case round =>
    obtain ⟨k, hk, hgk, rfl, BR, OR⟩ := hrel
    have hol := onceK_len ws k
    obtain ⟨OU, hOU⟩ : ∃ OU, onceK ws k = OU := ⟨_, rfl⟩
    rw [hOU] at OR hol
    obtain ⟨oa, oc, hov⟩ := own_slice OR.out
    subst hov
    by_cases hlt : k < ws.length
    · have hlti : (k : Int) < ws.length := by omega
      have HN := hid (onceK_next ws k hlt)
      obtain ⟨g, c', hv⟩ := own_some HO.out (by omega)
      cases hv
      have hgl : g < w.heap.size := (own_block HO.out rfl).2.1
      have ce : ∀ i u, i < 8 → (whyCs (ws.getD k default))[i]? = some u → wr.cell? ⟨g, k * 8 + i, none⟩ = some u := fun i u hi hu => (BR.out.cell (p := ⟨g, k * 8 + i, none⟩) hgl).trans ((HO.out.cellAt (k * 8 + i) (by omega)).trans ((whysC_at ws k i hlt hi).trans hu))
      rw [hOU] at HN
      obtain ⟨ON, hON⟩ : ∃ ON, onceK ws (k + 1) = ON := ⟨_, rfl⟩
      rw [hON] at HN
      have HON := hid hON
      have HHA := hid (had_all OU (ws.getD k default))
      have HH := hid (fun q (hq : q < OU.length) => had_next OU (ws.getD k default) q hq)
      have EQ := hid (fun (x : MWy) (W : World) => why_eql x (ws.getD k default) W)
      have H0 : Hid (hadB OU (ws.getD k default) 0 = decide ((ws.getD k default).1 = (ws.getD k default).2.1)) := by show _ = _; simp [hadB]
      have HST : Hid (stepW OU (ws.getD k default) = if (decide ((ws.getD k default).1 = (ws.getD k default).2.1) || inW OU (ws.getD k default)) = true then OU else OU ++ [ws.getD k default]) := rfl
      obtain ⟨y, hy⟩ : ∃ y, ws.getD k default = y := ⟨_, rfl⟩
      rw [hy] at ce HN HHA HH EQ H0 HST
      have HY := hid hy
      have HCS : Hid (whyCs y = [.int .i64 y.1, .int .i64 y.2.1, .int .i64 y.2.2.1, .string y.2.2.2.1, .int .i64 y.2.2.2.2.1, .int .i64 y.2.2.2.2.2.1, .bool y.2.2.2.2.2.2, .bool false]) := rfl
      clear hy hON hOU
      have x0 := ce 0 _ (by omega) rfl
      have x1 := ce 1 _ (by omega) rfl
      have x2 := ce 2 _ (by omega) rfl
      have x3 := ce 3 _ (by omega) rfl
      have x4 := ce 4 _ (by omega) rfl
      have x5 := ce 5 _ (by omega) rfl
      have x6 := ce 6 _ (by omega) rfl
      have x7 := ce 7 _ (by omega) rfl
      simp only [Nat.add_zero] at x0 x1 x2 x3 x4 x5 x6 x7
      clear ce
      obtain ⟨a, b, lbl, s, ya, yb, nl⟩ := y
      simp only at x0 x1 x2 x3 x4 x5 x6 x7 H0
      have hdec : (a == b) = decide (a = b) := by rw [Bool.eq_iff_iff]; simp
      go_wp2_with fail
      have PB := hid (heap_alloc_new wr (.cells #[.int .i64 a, .int .i64 b, .int .i64 lbl, .string s, .int .i64 ya, .int .i64 yb, .bool nl, .bool false] 40))
      have B2 : Hid (Below w.heap.size w (wr.alloc (.cells #[.int .i64 a, .int .i64 b, .int .i64 lbl, .string s, .int .i64 ya, .int .i64 yb, .bool nl, .bool false] 40))) := BR.out.trans ((below_box wr _).mono BR.out.size)
      have O2 : Hid ((wr.alloc (.cells #[.int .i64 a, .int .i64 b, .int .i64 lbl, .string s, .int .i64 ya, .int .i64 yb, .bool nl, .bool false] 40)).ownsRow w.heap.size 40 8 (.slice oa OU.length oc) OU.length (whysC OU)) := own_same OR.out (fun g hg => by rw [alloc_at, if_neg (by have := (own_block OR.out hg).2.1; omega)])
      clear x0 x1 x2 x3 x4 x5 x6 x7 OR BR
      generalize wr.alloc (.cells #[.int .i64 a, .int .i64 b, .int .i64 lbl, .string s, .int .i64 ya, .int .i64 yb, .bool nl, .bool false] 40) = W2 at *
      generalize wr.heap.size = pb at *
      obtain ⟨HD, hHD⟩ : ∃ HD : Nat → Bool, ∀ q, hadB OU (a, b, lbl, s, ya, yb, nl) q = HD q := ⟨_, fun _ => rfl⟩
      have HH2 : Hid (∀ q, q < OU.length → HD (q + 1) = (HD q || eqW (OU.getD q default) (a, b, lbl, s, ya, yb, nl))) := fun q hq => by
        rw [← hHD, ← hHD]
        exact HH.out q hq
      have H02 : Hid (HD 0 = decide (a = b)) := by rw [← hHD]; exact H0.out
      have HA2 : Hid (HD OU.length = (decide (a = b) || inW OU (a, b, lbl, s, ya, yb, nl))) := by rw [← hHD]; exact HHA.out
      clear HH HHA H0 hHD
      go_loopg [6, 8, 22] OU.length (fun gg hb _ i wi => ∃ q : Nat, q ≤ OU.length ∧ OU.length - q ≤ gg ∧ i = .int .i64 q ∧ hb = .bool (HD q) ∧ Aside (Below W2.heap.size W2 wi))
      case atStart => exact ⟨0, Nat.zero_le _, by omega, rfl, (by rw [H02.out]), Below.refl _ _⟩
      case round =>
        obtain ⟨q, hq, hgq, rfl, rfl, BJ⟩ := hrel
        by_cases hq1 : q < OU.length
        · have hq1i : (q : Int) < OU.length := by omega
          obtain ⟨og, c', hv⟩ := own_some O2.out (by omega)
          cases hv
          have hogl : og < W2.heap.size := (own_block O2.out rfl).2.1
          have ce : ∀ i u, i < 8 → (whyCs (OU.getD q default))[i]? = some u → wr.cell? ⟨og, q * 8 + i, none⟩ = some u := fun i u hi hu => (BJ.out.cell (p := ⟨og, q * 8 + i, none⟩) hogl).trans ((O2.out.cellAt (q * 8 + i) (by omega)).trans ((whysC_at OU q i hq1 hi).trans hu))
          have HNX := hid (HH2.out q hq1)
          have EQq := EQ.out (OU.getD q default)
          generalize OU.getD q default = z at *
          have z0 := ce 0 _ (by omega) rfl
          have z1 := ce 1 _ (by omega) rfl
          have z2 := ce 2 _ (by omega) rfl
          have z3 := ce 3 _ (by omega) rfl
          have z4 := ce 4 _ (by omega) rfl
          have z5 := ce 5 _ (by omega) rfl
          have z6 := ce 6 _ (by omega) rfl
          have z7 := ce 7 _ (by omega) rfl
          simp only [Nat.add_zero] at z0 z1 z2 z3 z4 z5 z6 z7
          clear ce
          obtain ⟨EQB, hEQB⟩ : ∃ E, eqW z (a, b, lbl, s, ya, yb, nl) = E := ⟨_, rfl⟩
          rw [hEQB] at HNX EQq
          clear hEQB
          obtain ⟨c0, c1, c2, c3, c4, c5, c6⟩ := z
          simp only [whyV] at z0 z1 z2 z3 z4 z5 z6 z7 EQq
          have pq : ∀ i u, (#[.int .i64 a, .int .i64 b, .int .i64 lbl, .string s, .int .i64 ya, .int .i64 yb, .bool nl, .bool false] : Array Value)[i]? = some u → ∀ o, (wr.alloc o).cell? ⟨pb, i, none⟩ = some u := fun i u hu o => Lib.cell?_alloc_some _ ((BJ.out.cell (p := ⟨pb, i, none⟩) (blt PB.out)).trans ((Lib.cell_of_heap PB.out i).trans hu))
          have p0 := pq 0 _ rfl
          have p1 := pq 1 _ rfl
          have p2 := pq 2 _ rfl
          have p3 := pq 3 _ rfl
          have p4 := pq 4 _ rfl
          have p5 := pq 5 _ rfl
          have p6 := pq 6 _ rfl
          have p7 := pq 7 _ rfl
          have BN : ∀ o, Hid (Below W2.heap.size W2 (wr.alloc o)) := fun o => BJ.out.trans ((below_box wr o).mono BJ.out.size)
          have hpl : pb < wr.heap.size := Nat.lt_of_lt_of_le (blt PB.out) BJ.out.size
          have hpn : ¬ (pb = wr.heap.size) := by omega
          clear pq
          cases hd : HD q with
          | true =>
            have HT : Hid (HD (q + 1) = true) := by show _ = _; rw [HNX.out, hd]; rfl
            clear hd HNX
            go_wp2_with fail
            go_roundg (OU.length - (q + 1))
            case measure => omega
            case rel => exact ⟨q + 1, by omega, by omega, by go_num, (by rw [HT.out]), (BN _).out⟩
          | false =>
            have HT : Hid (HD (q + 1) = EQB) := by show _ = _; rw [HNX.out, hd]; rfl
            clear hd HNX
            go_wp2_with fail
            go_roundg (OU.length - (q + 1))
            case measure => omega
            case rel => exact ⟨q + 1, by omega, by omega, by go_num, (by rw [HT.out]), (BN _).out⟩
        · have hqe : q = OU.length := by omega
          have hq1i : ¬ (q : Int) < OU.length := by omega
          subst hqe
          have BWJ : Hid (Below w.heap.size w wr) := B2.out.trans (BJ.out.mono B2.out.size)
          have OJ : Hid (wr.ownsRow w.heap.size 40 8 (.slice oa OU.length oc) OU.length (whysC OU)) := own_same O2.out (fun g hg => BJ.out.block g (own_block O2.out hg).2.1)
          have pq : ∀ i u, (#[.int .i64 a, .int .i64 b, .int .i64 lbl, .string s, .int .i64 ya, .int .i64 yb, .bool nl, .bool false] : Array Value)[i]? = some u → wr.cell? ⟨pb, i, none⟩ = some u := fun i u hu => (BJ.out.cell (p := ⟨pb, i, none⟩) (blt PB.out)).trans ((Lib.cell_of_heap PB.out i).trans hu)
          have p0 := pq 0 _ rfl
          have p1 := pq 1 _ rfl
          have p2 := pq 2 _ rfl
          have p3 := pq 3 _ rfl
          have p4 := pq 4 _ rfl
          have p5 := pq 5 _ rfl
          have p6 := pq 6 _ rfl
          have p7 := pq 7 _ rfl
          clear pq
          cases hd : HD OU.length with
          | true =>
            have HNN : Hid (ON = OU) := by show _ = _; rw [HN.out, HST.out, ← HA2.out, hd]; rfl
            clear hd
            go_wp2_with fail
            go_roundg (ws.length - (k + 1))
            case measure => omega
            case rel => exact ⟨k + 1, by omega, by omega, by go_num, BWJ.out, (show Aside _ from by rw [HON.out, HNN.out]; exact OJ.out)⟩
          | false =>
            have HNN : Hid (ON = OU ++ [(a, b, lbl, s, ya, yb, nl)]) := by show _ = _; rw [HN.out, HST.out, ← HA2.out, hd]; rfl
            clear hd
            have SZ : Hid ((wr.alloc (.cells #[.int .i64 a, .int .i64 b, .int .i64 lbl, .string s, .int .i64 ya, .int .i64 yb, .bool nl, .bool false] 40)).heap.size = wr.heap.size + 1) := alloc_size _ _
            have B9 : Hid (∀ b', b' < wr.heap.size → (wr.alloc (.cells #[.int .i64 a, .int .i64 b, .int .i64 lbl, .string s, .int .i64 ya, .int .i64 yb, .bool nl, .bool false] 40)).heap[b']? = wr.heap[b']?) := fun b' hb' => by rw [alloc_at, if_neg (by omega)]
            have OX : Hid ((wr.alloc (.cells #[.int .i64 a, .int .i64 b, .int .i64 lbl, .string s, .int .i64 ya, .int .i64 yb, .bool nl, .bool false] 40)).ownsRow w.heap.size 40 8 (.slice oa OU.length oc) OU.length (whysC OU)) := own_same OJ.out (fun g hg => B9.out g (own_block OJ.out hg).2.1)
            have NEW : Hid (∀ j u, ([.int .i64 a, .int .i64 b, .int .i64 lbl, .string s, .int .i64 ya, .int .i64 yb, .bool nl, .bool false] : List Value)[j]? = some u → (wr.alloc (.cells #[.int .i64 a, .int .i64 b, .int .i64 lbl, .string s, .int .i64 ya, .int .i64 yb, .bool nl, .bool false] 40)).cell? ((⟨wr.heap.size, 0, none⟩ : Addr).add j) = some u) := World.news_of_block (cs := #[.int .i64 a, .int .i64 b, .int .i64 lbl, .string s, .int .i64 ya, .int .i64 yb, .bool nl, .bool false]) (t := 40) (fr := (0, 0)) (heap_alloc_new wr _)
            have ONE : Hid (∀ u ∈ ([.int .i64 a, .int .i64 b, .int .i64 lbl, .string s, .int .i64 ya, .int .i64 yb, .bool nl, .bool false] : List Value), u.oneCell' = true) := by
              intro u hu
              simp only [List.mem_cons, List.not_mem_nil, or_false] at hu
              rcases hu with rfl | rfl | rfl | rfl | rfl | rfl | rfl | rfl <;> rfl
            have hsz := BWJ.out.size
            go_wp2_with (at_builtin; refine wpList_append_lies _ rfl _ _ 38 rfl w.heap.size 40 i0 _ 8 64 Try.underlying38 HI0.out HZ0.out HZ1.out HZ2.out rfl (by decide) (.slice oa OU.length oc) OU.length (whysC OU) rfl OX.out ⟨wr.heap.size, 0, none⟩ 1 1 [.int .i64 a, .int .i64 b, .int .i64 lbl, .string s, .int .i64 ya, .int .i64 yb, .bool nl, .bool false] rfl rfl NEW.out ONE.out (by decide) (by unfold maxLen; omega) (by omega) (by rw [SZ.out]; omega) (wr.heap.size + 1) SZ.out ?_; intro g8 cap8 w8 hown8 hgrow8 hat8 hglt8; have O8 := hid hown8; have G8 := hid hgrow8; clear hown8 hgrow8 hat8 hglt8)
            go_roundg (ws.length - (k + 1))
            case measure => omega
            case rel =>
              refine ⟨k + 1, by omega, by omega, by go_num, (show Aside _ from ⟨G8.out.os.trans BWJ.out.os, G8.out.tape.trans BWJ.out.tape, G8.out.output.trans BWJ.out.output, Nat.le_trans (by rw [SZ.out]; omega) G8.out.size, fun b' hb' => (G8.out.block b' (by rw [SZ.out]; omega) (fun e => by have := (own_block OJ.out e.symm).1; omega)).trans ((B9.out b' (by omega)).trans (BWJ.out.block b' hb'))⟩), (show Aside _ from ?_)⟩
              rw [HON.out, HNN.out, List.length_append, whysC_snoc]
              exact O8.out
    · have hke : k = ws.length := by omega
      have hlti : ¬ (k : Int) < ws.length := by omega
      have HOU : Hid (onceW ws = OU) := by show _ = _; rw [← onceK_all, ← hke]; exact hOU
      clear hOU hke
      go_wp2_with fail
      go_ret
      exact ⟨_, rfl, (by rw [HOU.out]; exact OR.out), BR.out⟩
end Go.Proofs.Ytnfbcmnlloipiaa
namespace Go.Proofs.Ytnfbcmnlloipiaa
set_option linter.unusedVariables false
set_option linter.unusedSimpArgs false
open Go.RowKit Go.Lib Go.Maps
open Tx (MTxn info_parts)

theorem wrC_at : ∀ (l : List (Nat × Nat)) (j : Nat), j < l.length → (wrC l)[j * 2]? = some (.int .i64 ((l.getD j default).1 : Int)) ∧ (wrC l)[j * 2 + 1]? = some (.int .i64 ((l.getD j default).2 : Int))
  | [], j, h => by simp at h
  | x :: l, 0, _ => by
    have e : wrC (x :: l) = [.int .i64 (x.1 : Int), .int .i64 (x.2 : Int)] ++ wrC l := by simp [wrC]
    rw [e]
    exact ⟨rfl, rfl⟩
  | x :: l, j + 1, h => by
    have e : wrC (x :: l) = [.int .i64 (x.1 : Int), .int .i64 (x.2 : Int)] ++ wrC l := by simp [wrC]
    obtain ⟨h1, h2⟩ := wrC_at l j (by simpa using h)
    rw [e, List.getElem?_append_right (by simp; omega), List.getElem?_append_right (by simp; omega)]
    have a1 : (j + 1) * 2 - [Value.int .i64 (x.1 : Int), Value.int .i64 (x.2 : Int)].length = j * 2 := by simp; omega
    have a2 : (j + 1) * 2 + 1 - [Value.int .i64 (x.1 : Int), Value.int .i64 (x.2 : Int)].length = j * 2 + 1 := by simp; omega
    rw [a1, a2, h1, h2]
    simp [List.getD]
theorem wrC_len (l : List (Nat × Nat)) : (wrC l).length = l.length * 2 := by
  induction l with
  | nil => rfl
  | cons x l ih =>
    have e : wrC (x :: l) = [.int .i64 (x.1 : Int), .int .i64 (x.2 : Int)] ++ wrC l := by simp [wrC]
    rw [e, List.length_append, ih]
    simp
    omega
theorem wrC_one (l : List (Nat × Nat)) : ∀ u ∈ wrC l, u.oneCell' = true := by
  intro u hu
  obtain ⟨x, _, hx⟩ := List.mem_flatMap.1 hu
  simp only [List.mem_cons, List.not_mem_nil, or_false] at hx
  rcases hx with rfl | rfl <;> rfl
set_option maxHeartbeats 4000000 in
set_option maxRecDepth 100000 in
theorem twriters_is (B : Nat) (w : World) (tb : Nat) (l : List MTxn) (h : Made B w tb l) (s : ByteArray) (x : Int) (hs : s.size ≤ maxLen) (hx : (Lit.int .i64 x).wf = true) (hN : (notes l l.length).length ≤ 100000) :
    Calls Try.prog 24 #[.pointer (some ⟨tb, 0, none⟩), .string s, .int .i64 x] w fun e w' => ∃ v', e = .returned v' ∧ w'.ownsRow w.heap.size 54 2 v' (writersN (notes l l.length) s x).length (wrC (writersN (notes l l.length) s x)) ∧ Below w.heap.size w w' := by
  obtain ⟨kb, wb, lb, tv, kv, F, D, m, u, h1, _⟩ := h
  obtain ⟨_, _, _, c3, _, _⟩ := h1.c
  obtain ⟨S, hS⟩ := h1.ws
  have LW := hS.look s x hs hx
  unfold verV at LW
  have hwl := writers_len (notes l l.length) s x
  have ho := hS.own s x
  clear h1 hS
  rcases ho.2 with ⟨hv, hn⟩ | ⟨g, cap, cur, hv, hB, hh, hr⟩
  · rw [hv] at LW
    have CN := hid (cloneW_nil 0 0 w)
    have hnil : writersN (notes l l.length) s x = [] := List.length_eq_zero_iff.1 hn
    have FIN : Hid (w.ownsRow w.heap.size 54 2 (.slice none 0 0) (writersN (notes l l.length) s x).length (wrC (writersN (notes l l.length) s x))) := by
      show World.ownsRow _ _ _ _ _ _ _
      rw [hnil]
      exact World.ownsRow_nil _ _ _ _
    clear ho hv hn hnil
    go_enter Try.func24, Try.ntmps24
    go_wp2_with (go_at_call 51; refine CN.out.mono ?_; rintro e w2 ⟨rfl, rfl⟩)
    go_ret
    exact ⟨_, rfl, FIN.out, Below.refl _ _⟩
  · rw [hv] at LW ho
    have CS := hid (cloneW_some ⟨g, 0, none⟩ (writersN (notes l l.length) s x).length cap (wrC (writersN (notes l l.length) s x)) w (wrC_len _) (by omega) (wrC_one _) (fun j u hj => ho.cells (g := g) rfl j u hj))
    clear ho hv hh hr
    go_enter Try.func24, Try.ntmps24
    go_wp2_with (go_at_call 51; refine CS.out.mono ?_; rintro e w2 ⟨v2, rfl, h2, b2⟩; have H2 := hid h2; have B2 := hid b2; clear h2 b2)
    go_ret
    exact ⟨_, rfl, H2.out, B2.out⟩
end Go.Proofs.Ytnfbcmnlloipiaa
namespace Go.Proofs.Ytnfbcmnlloipiaa
set_option linter.unusedVariables false
set_option linter.unusedSimpArgs false
open Go.RowKit Go.Lib Go.Maps Go.Sort
open Tx (MTxn info_parts RowsIn.cells RowCells TxnRow TxnsIn smallL)

/-- Dependencies in memory. -/
def ArgY (w : World) (ao : Option Addr) (E : List MWy) : Prop := ∀ q, q < E.length → ∃ g o, ao = some ⟨g, o, none⟩ ∧ ∀ i u, i < 8 → (whyCs (E.getD q default))[i]? = some u → w.cell? ⟨g, o + q * 8 + i, none⟩ = some u
theorem ArgY.later {w w' : World} {ao : Option Addr} {E : List MWy} (h : ArgY w ao E) (hb : Below w.heap.size w w') : ArgY w' ao E := fun q hq => by
  obtain ⟨g, o, e, hc⟩ := h q hq
  exact ⟨g, o, e, fun i u hi hu => (hb.cell (p := ⟨g, o + q * 8 + i, none⟩) (World.block_lt_of_cell? _ _ (hc i u hi hu))).trans (hc i u hi hu)⟩
theorem own_argY {B : Nat} {w : World} {a : Option Addr} {c : Nat} {E : List MWy} (h : w.ownsRow B 40 8 (.slice a E.length c) E.length (whysC E)) : ArgY w a E := fun q hq => by
  obtain ⟨eg, ec', hv⟩ := own_some h (by omega)
  cases hv
  refine ⟨eg, 0, rfl, fun i u hi hu => ?_⟩
  rw [Nat.zero_add]
  exact (h.cellAt (q * 8 + i) (by omega)).trans ((whysE_at E q i hq hi).trans hu)
set_option maxHeartbeats 8000000 in
set_option maxRecDepth 100000 in
/-- slices.Index of a dependency that is there. -/
theorem idxW_is (a1 : Option Addr) (c1 : Nat) (E : List MWy) (y : MWy) (w : World) (h1 : ArgY w a1 E) (hl : E.length ≤ 1000000) (hy : y ∈ E) :
    Calls Try.prog 52 #[.slice a1 E.length c1, whyV y] w fun e w' => ∃ n : Nat, e = .returned (.int .i64 (n : Int)) ∧ Below w.heap.size w w' := by
  have HM := hid hy
  have hlen : (E.length : Int) ≤ 1000000 := by omega
  have EQ := hid (fun (x : MWy) (W : World) => why_eql y x W)
  have EI := hid (fun (x : MWy) => eqW_iff y x)
  obtain ⟨W, hW⟩ : ∃ W, w.alloc (.cells (whyCs y).toArray 40) = W := ⟨_, rfl⟩
  have BW : Hid (Below w.heap.size w W) := by rw [← hW]; exact below_box w _
  have A1 : Hid (ArgY W a1 E) := h1.later BW.out
  obtain ⟨xb, hxb⟩ : ∃ xb, w.heap.size = xb := ⟨_, rfl⟩
  have PB : Hid (W.heap[xb]? = some (.cells (whyCs y).toArray 40)) := by rw [← hW, ← hxb]; exact heap_alloc_new w _
  have HY : Hid (∀ m, m < E.length → eqW y (E.getD m default) = true → y = E.getD m default) := fun m _ he => (eqW_iff _ _).1 he
  obtain ⟨y1, y2, y3, y4, y5, y6, y7⟩ := y
  simp only [whyCs, whyV] at hW PB EQ ⊢
  have p0 : W.cell? ⟨xb, 0, none⟩ = some (.int .i64 y1) := Lib.cell_of_heap PB.out 0
  have p1 : W.cell? ⟨xb, 1, none⟩ = some (.int .i64 y2) := Lib.cell_of_heap PB.out 1
  have p2 : W.cell? ⟨xb, 2, none⟩ = some (.int .i64 y3) := Lib.cell_of_heap PB.out 2
  have p3 : W.cell? ⟨xb, 3, none⟩ = some (.string y4) := Lib.cell_of_heap PB.out 3
  have p4 : W.cell? ⟨xb, 4, none⟩ = some (.int .i64 y5) := Lib.cell_of_heap PB.out 4
  have p5 : W.cell? ⟨xb, 5, none⟩ = some (.int .i64 y6) := Lib.cell_of_heap PB.out 5
  have p6 : W.cell? ⟨xb, 6, none⟩ = some (.bool y7) := Lib.cell_of_heap PB.out 6
  have p7 : W.cell? ⟨xb, 7, none⟩ = some (.bool false) := Lib.cell_of_heap PB.out 7
  have HW := hid hW
  have HXB := hid hxb
  clear hW hxb h1 hy PB
  go_enter Try.func52, Try.ntmps52
  go_upto_region 1 with fail
  rw [show w.alloc (.cells #[.int .i64 y1, .int .i64 y2, .int .i64 y3, .string y4, .int .i64 y5, .int .i64 y6, .bool y7, .bool false] 40) = W from HW.out, show w.heap.size = xb from HXB.out]
  go_wp2_with fail
  go_loopg [5, 8] E.length (fun g _ i' wr => ∃ k : Nat, k ≤ E.length ∧ E.length - k ≤ g ∧ i' = .int .i64 k ∧ Aside (∃ q, wr = W.drewN q) ∧ Aside (∀ m, m < k → eqW (y1, y2, y3, y4, y5, y6, y7) (E.getD m default) = false))
  case atStart => exact ⟨0, Nat.zero_le _, by omega, rfl, ⟨0, rfl⟩, fun m hm => absurd hm (Nat.not_lt_zero _)⟩
  case round =>
    obtain ⟨k, hk, hg, rfl, QX, NX⟩ := hrel
    obtain ⟨q, rfl⟩ := QX.out
    have BQ : ∀ q, Hid (Below w.heap.size w (W.drewN q)) := fun q => ⟨BW.out.os, BW.out.tape, BW.out.output, BW.out.size, BW.out.block⟩
    by_cases hlt : k < E.length
    · have hlti : (k : Int) < E.length := by omega
      obtain ⟨b1, bo, rfl, hc⟩ := A1.out k hlt
      have N2 : Hid (eqW (y1, y2, y3, y4, y5, y6, y7) (E.getD k default) = false → ∀ m, m < k + 1 → eqW (y1, y2, y3, y4, y5, y6, y7) (E.getD m default) = false) := fun hne m hm => by
        by_cases e : m = k
        · rw [e]
          exact hne
        · exact NX.out m (by omega)
      have EQq := EQ.out (E.getD k default)
      generalize E.getD k default = z at *
      have z0 := hc 0 _ (by omega) rfl
      have z1 := hc 1 _ (by omega) rfl
      have z2 := hc 2 _ (by omega) rfl
      have z3 := hc 3 _ (by omega) rfl
      have z4 := hc 4 _ (by omega) rfl
      have z5 := hc 5 _ (by omega) rfl
      have z6 := hc 6 _ (by omega) rfl
      have z7 := hc 7 _ (by omega) rfl
      rw [Nat.add_zero] at z0
      clear hc
      obtain ⟨EB, hEB⟩ : ∃ B, eqW (y1, y2, y3, y4, y5, y6, y7) z = B := ⟨_, rfl⟩
      rw [hEB] at EQq N2
      clear hEB
      obtain ⟨c0, c1, c2, c3, c4, c5, c6⟩ := z
      simp only at z0 z1 z2 z3 z4 z5 z6 z7 EQq
      cases EB with
      | true =>
        go_wp2_with fail
        go_quiet (fail)
        go_wp2_with fail
        go_ret
        exact ⟨k, rfl, ⟨BW.out.os, BW.out.tape, BW.out.output, BW.out.size, BW.out.block⟩⟩
      | false =>
        have N3 := hid (N2.out rfl)
        clear N2
        go_wp2_with fail
        go_quiet (fail)
        go_wp2_with fail
        go_roundg (E.length - (k + 1))
        · exact ⟨k + 1, by omega, by omega, by go_num, ⟨_, rfl⟩, N3.out⟩
        · omega
    · exfalso
      obtain ⟨m, hm, e⟩ := List.mem_iff_getElem.1 HM.out
      have := NX.out m (by omega)
      rw [getD_is hm, e, (eqW_iff _ _).2 rfl] at this
      cases this
set_option maxHeartbeats 4000000 in
set_option maxRecDepth 100000 in
theorem contW_is (a1 : Option Addr) (c1 : Nat) (E : List MWy) (y : MWy) (w : World) (h1 : ArgY w a1 E) (hl : E.length ≤ 1000000) (hy : y ∈ E) :
    Calls Try.prog 25 #[.slice a1 E.length c1, whyV y] w fun e w' => e = .returned (.bool true) ∧ Below w.heap.size w w' := by
  have HI := hid (fun W (hb : Below w.heap.size w W) => idxW_is a1 c1 E y W (h1.later hb) hl hy)
  have BX : Hid (Below w.heap.size w (w.alloc (.cells (whyCs y).toArray 40))) := below_box w _
  clear h1 hy
  obtain ⟨y1, y2, y3, y4, y5, y6, y7⟩ := y
  simp only [whyCs, whyV] at BX HI ⊢
  go_enter Try.func25, Try.ntmps25
  go_wp2_with (go_at_call 52; refine (HI.out _ BX.out).mono ?_; rintro e w2 ⟨n, rfl, b2⟩; have hd : decide ((0 : Int) ≤ (n : Int)) = true := (by simp); have hd2 : (0 : Int) ≤ (n : Int) := (by omega); have B2 : Hid (Below w.heap.size w w2) := BX.out.trans (b2.mono BX.out.size); clear b2)
  go_ret
  exact ⟨rfl, B2.out⟩
end Go.Proofs.Ytnfbcmnlloipiaa
