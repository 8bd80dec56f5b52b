/-
  The law InnerBegins.
-/
import Derived.Test.YtadlnkaphkbfdaaIn23
import Derived.Test.YtadlnkaphkbfdaaIn12
namespace Go.Proofs.Ytadlnkaphkbfdaa
set_option linter.unusedVariables false
set_option linter.unusedSimpArgs false
open Go.RowKit Go.Lib Go.Sort

theorem u64_mod (n : Int) (m : Nat) (hm : 0 < m) (hm2 : m ≤ 4294967296) : ∃ N : Nat, N < m ∧ wrap64 ((IntKind.u64.wrap n).tmod m) = N := by
  rw [IntKind.wrap_u64]
  have h0 : 0 ≤ n % 18446744073709551616 := Int.emod_nonneg _ (by decide)
  rw [Int.tmod_eq_emod_of_nonneg h0]
  have h1 := Int.emod_nonneg (n % 18446744073709551616) (show (m : Int) ≠ 0 by omega)
  have h2 := Int.emod_lt_of_pos (n % 18446744073709551616) (show (0 : Int) < m by omega)
  refine ⟨(n % 18446744073709551616 % m).toNat, by omega, ?_⟩
  unfold wrap64
  omega
theorem ops_take {w : World} {ao : Option Addr} {c : Nat} {l : List MOp} (h : OpsIn Any w (.slice ao l.length c) l) (N : Nat) (hN : N ≤ l.length) : OpsIn Any w (.slice ao N c) (l.take N) := by
  obtain ⟨ao', c', e, ⟨hb, hcp⟩, hc⟩ := h
  injection e with e1 e2 e3
  subst e1 e3
  have hl : (l.take N).length = N := by rw [List.length_take]; omega
  refine ⟨ao, c, by rw [hl], ⟨by rw [hl]; omega, by rw [hl]; omega⟩, fun h0 => ?_⟩
  rw [hl] at h0
  obtain ⟨b, off, e1, s1, h1⟩ := hc (by omega)
  refine ⟨b, off, e1, s1, fun j hj => ?_⟩
  rw [hl] at hj
  have eg : (l.take N).getD j default = l.getD j default := by simp [List.getD, List.getElem?_take, hj]
  rw [eg]
  exact h1 j (by omega)
theorem rvw_most (l : List MOp) (o : MOp) (K : Nat) (h : ∀ j, (l.getD j default).list.length ≤ K) (m : Nat) : (rvw l o m).2.length ≤ K + min m l.length := by
  induction m with
  | zero => exact Nat.zero_le _
  | succ m ih =>
    by_cases hm : m < l.length
    · show (if lik (l.getD m default) o then (if (l.getD m default).kind = 1 then ((rvw l o m).1, (rvw l o m).2 ++ [(l.getD m default).value]) else if (l.getD m default).has then (true, (l.getD m default).list) else rvw l o m) else rvw l o m).2.length ≤ _
      have h1 := h m
      split
      · split
        · simp only [List.length_append, List.length_singleton]; omega
        · split
          · show (l.getD m default).list.length ≤ _; omega
          · omega
      · omega
    · have e : l.getD m default = default := by simp [List.getD, List.getElem?_eq_none (Nat.le_of_not_lt hm)]
      have e2 : rvw l o (m + 1) = rvw l o m := by
        show (if lik (l.getD m default) o then _ else rvw l o m) = _
        rw [e, show lik default o = false from rfl]
        rfl
      rw [e2]
      omega
theorem getD_list (l : List MOp) (K : Nat) (h : ∀ o ∈ l, o.list.length ≤ K) (j : Nat) : (l.getD j default).list.length ≤ K := by
  by_cases hj : j < l.length
  · exact h _ (by simp [List.getD, hj])
  · have e : l.getD j default = default := by simp [List.getD, List.getElem?_eq_none (Nat.le_of_not_lt hj)]
    rw [e]
    exact Nat.zero_le _
theorem getD_key (l : List MOp) (h : ∀ o ∈ l, OpKey o) (j : Nat) : OpKey (l.getD j default) := by
  by_cases hj : j < l.length
  · exact h _ (by simp [List.getD, hj])
  · have e : l.getD j default = default := by simp [List.getD, List.getElem?_eq_none (Nat.le_of_not_lt hj)]
    rw [e]
    exact opKey default (by decide)
theorem check_any (v : Value) (l : List MOp) (w : World) (h : OpsIn Any w v l) (hk : ∀ o ∈ l, OpKey o) (hl : l.length ≤ 1048576) (hll : ∀ o ∈ l, o.list.length ≤ 1048576) :
    Calls Try.prog 10 #[v] w fun e w' => ∃ r, e = .returned (.int .i64 r) ∧ IsFirst (bad l) l.length r ∧ Below w.heap.size w w' := by
  have hs := st_most l 1048576 (fun j _ => getD_list l 1048576 hll j)
  exact check_is v l w h (getD_key l hk) (fun i t s => by have := hs i t s; omega) (fun i t s _ => by have := hs i t s; omega) (by omega)
theorem rcheck_any (v : Value) (l : List MOp) (w : World) (h : OpsIn Any w v l) (hl : l.length ≤ 1048576) (hll : ∀ o ∈ l, o.list.length ≤ 1048576) :
    Calls Try.prog 11 #[v] w fun e w' => ∃ r, e = .returned (.int .i64 r) ∧ IsFirst (rbad l) l.length r ∧ Below w.heap.size w w' :=
  rcheck_is v l w h (fun i m => by have := rvw_most l (l.getD i default) 1048576 (getD_list l 1048576 hll) m; omega)

theorem first_part (l : List MOp) (N : Nat) (ra rb : Int) (ha : IsFirst (bad (l.take N)) N ra) (hb : IsFirst (bad l) l.length rb) (hN : N ≤ l.length) :
    (ra = -1 ∧ rb = -1) ∨ (ra = -1 ∧ ∃ j : Nat, rb = j ∧ N ≤ j) ∨ ∃ i : Nat, ra = i ∧ rb = i ∧ i < N := by
  have ha' : IsFirst (bad l) N ra := ha.congr (fun i hi => bad_take l N i hi)
  rcases ha' with ⟨rfl, h⟩ | ⟨i, hi, rfl, h1, h2⟩
  · rcases hb with ⟨rfl, _⟩ | ⟨j, hj, rfl, k1, k2⟩
    · exact .inl ⟨rfl, rfl⟩
    · refine .inr (.inl ⟨rfl, j, rfl, ?_⟩)
      by_cases hjN : j < N
      · rw [h j hjN] at k1; cases k1
      · omega
  · have : IsFirst (bad l) l.length (i : Int) := .inr ⟨i, by omega, rfl, h1, h2⟩
    exact .inr (.inr ⟨i, rfl, hb.uniq this, hi⟩)

set_option maxHeartbeats 2000000 in
set_option maxRecDepth 100000 in
theorem begins_walk (v : Value) (l : List MOp) (n0 : Int) (w : World) (h : OpsIn Any w v l) (hk : ∀ o ∈ l, OpKey o) (hl : l.length ≤ 1048576) (hll : ∀ o ∈ l, o.list.length ≤ 1048576) :
    Calls Try.prog 7 #[v, .int .i64 n0] w fun e w' => e = .returned (.bool true) ∧ Below w.heap.size w w' := by
  obtain ⟨ao, c, hv, ⟨hby, hcap⟩, hc⟩ := ops_at h
  have HH := hid h
  subst hv
  have hli : (l.length : Int) ≤ 1048576 := by omega
  have hci : (l.length : Int) ≤ c := by omega
  obtain ⟨N, hN, hD0⟩ := u64_mod n0 (l.length + 1) (by omega) (by omega)
  have hD : wrap64 ((IntKind.u64.wrap n0).tmod ((l.length : Int) + 1)) = (N : Int) := by
    have e : ((l.length + 1 : Nat) : Int) = (l.length : Int) + 1 := by omega
    rw [e] at hD0
    exact hD0
  have hNc : (N : Int) ≤ c := by omega
  have hNl : (N : Int) ≤ l.length := by omega
  have HT := hid (fun (w' : World) (hb : Below w.heap.size w w') => ops_take (h.below hb) N (by omega))
  have CA := hid (fun (w' : World) (hb : Below w.heap.size w w') => check_any _ (l.take N) w' (ops_take (h.below hb) N (by omega)) (fun o ho => hk o (List.mem_of_mem_take ho)) (by rw [List.length_take]; omega) (fun o ho => hll o (List.mem_of_mem_take ho)))
  have CB := hid (fun (w' : World) (hb : Below w.heap.size w w') => check_any _ l w' (h.below hb) hk hl hll)
  have CR := hid (fun (w' : World) (hb : Below w.heap.size w w') => rcheck_any _ l w' (h.below hb) hl hll)
  have LT : Hid ((l.take N).length = N) := by show _ = _; rw [List.length_take]; omega
  clear hD0 hc h hk hll
  go_enter Try.func7, Try.ntmps7
  go_wp2_with fail
  go_at_call 10
  refine (CA.out w (Below.refl _ _)).mono ?_
  rintro e w1 ⟨ra, rfl, fa, b1⟩
  have B1 := hid b1
  clear b1
  go_wp2_with fail
  go_at_call 10
  refine (CB.out w1 B1.out).mono ?_
  rintro e w2 ⟨rb, rfl, fb, b2⟩
  have B2 := hid (B1.out.trans (b2.mono B1.out.size))
  rw [LT.out] at fa
  have FP := first_part l N ra rb fa fb (by omega)
  have FB := hid fb
  clear fa fb b2
  rcases FP with ⟨e1, e2⟩ | ⟨e1, j, e2, hj⟩ | ⟨j, e1, e2, hj⟩
  · subst e1 e2
    go_wp2_with fail
    go_at_call 11
    refine (CR.out w2 B2.out).mono ?_
    rintro e w3 ⟨rc, rfl, fc, b3⟩
    have erc := (fc.congr (fun i _ => (bad_rbad l i).symm)).uniq FB.out
    subst erc
    have B3 := hid (B2.out.trans (b3.mono B2.out.size))
    clear fc b3
    go_wp2_with fail
    go_ret
    exact ⟨rfl, B3.out⟩
  · subst e1 e2
    have hj0 : (0 : Int) ≤ (j : Int) := by omega
    have hjd : decide (j < N) = false := decide_eq_false (by omega)
    have hjN : ¬ (j : Int) < N := by omega
    go_wp2_with fail
    go_at_call 11
    refine (CR.out w2 B2.out).mono ?_
    rintro e w3 ⟨rc, rfl, fc, b3⟩
    have erc := (fc.congr (fun i _ => (bad_rbad l i).symm)).uniq FB.out
    subst erc
    have B3 := hid (B2.out.trans (b3.mono B2.out.size))
    clear fc b3
    go_wp2_with fail
    go_ret
    exact ⟨by first | rfl | (simp [hjd]), B3.out⟩
  · subst e1 e2
    have hj0 : (0 : Int) ≤ (j : Int) := by omega
    have hjn0 : ¬ (j : Int) < 0 := by omega
    have hjN : (j : Int) < N := by omega
    go_wp2_with fail
    go_at_call 11
    refine (CR.out w2 B2.out).mono ?_
    rintro e w3 ⟨rc, rfl, fc, b3⟩
    have erc := (fc.congr (fun i _ => (bad_rbad l i).symm)).uniq FB.out
    subst erc
    have B3 := hid (B2.out.trans (b3.mono B2.out.size))
    clear fc b3
    go_wp2_with fail
    go_ret
    exact ⟨rfl, B3.out⟩
end Go.Proofs.Ytadlnkaphkbfdaa
