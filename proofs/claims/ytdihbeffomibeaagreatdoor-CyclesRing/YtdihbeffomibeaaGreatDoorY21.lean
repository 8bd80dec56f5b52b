/-
  The document's wants, one, least.
  Plain: the edges in their order; there is a shortest way if there is any.
-/
import Derived.Test.YtdihbeffomibeaaGreatDoorY20
import Derived.Test.YtdihbeffomibeaaGreatDoorYD2
namespace Go.Proofs.YtdihbeffomibeaaGreatDoor
set_option linter.unusedVariables false
set_option linter.unusedSimpArgs false
open Go.RowKit Go.Lib

theorem rwants_is (c : Int) (real : Bool) (w : World) : Calls Tryz.prog 23 #[.int .i64 c, .bool real] w fun e w' => e = .returned (.tuple #[.int .i64 (wantN c : Nat), .int .i64 (othN c real : Nat)]) ∧ w = w' := by
  by_cases h8 : c = 8
  · subst h8
    have q : bits BinOp.or IntKind.i64 1 8 = 9 := by decide
    cases real
    · go_enter Tryz.func23, Tryz.ntmps23
      go_wp2
      exact bodyPost_ret (v := .tuple #[.int .i64 1, .int .i64 1]) (by simp [results, Tryz.results23, go_sem]) rfl ⟨rfl, rfl⟩
    · go_enter Tryz.func23, Tryz.ntmps23
      go_wp2
      exact bodyPost_ret (v := .tuple #[.int .i64 1, .int .i64 9]) (by simp [results, Tryz.results23, go_sem]) rfl ⟨rfl, rfl⟩
  have b8 : (c == 8) = false := by simpa using h8
  by_cases h9 : c = 9
  · subst h9
    have q : bits BinOp.or IntKind.i64 3 8 = 11 := by decide
    cases real
    · go_enter Tryz.func23, Tryz.ntmps23
      go_wp2
      exact bodyPost_ret (v := .tuple #[.int .i64 2, .int .i64 3]) (by simp [results, Tryz.results23, go_sem]) rfl ⟨rfl, rfl⟩
    · go_enter Tryz.func23, Tryz.ntmps23
      go_wp2
      exact bodyPost_ret (v := .tuple #[.int .i64 2, .int .i64 11]) (by simp [results, Tryz.results23, go_sem]) rfl ⟨rfl, rfl⟩
  have b9 : (c == 9) = false := by simpa using h9
  by_cases h10 : c = 10
  · subst h10
    have q : bits BinOp.or IntKind.i64 3 8 = 11 := by decide
    cases real
    · go_enter Tryz.func23, Tryz.ntmps23
      go_wp2
      exact bodyPost_ret (v := .tuple #[.int .i64 4, .int .i64 3]) (by simp [results, Tryz.results23, go_sem]) rfl ⟨rfl, rfl⟩
    · go_enter Tryz.func23, Tryz.ntmps23
      go_wp2
      exact bodyPost_ret (v := .tuple #[.int .i64 4, .int .i64 11]) (by simp [results, Tryz.results23, go_sem]) rfl ⟨rfl, rfl⟩
  have b10 : (c == 10) = false := by simpa using h10
  by_cases h11 : c = 11
  · subst h11
    have q : bits BinOp.or IntKind.i64 7 8 = 15 := by decide
    cases real
    · go_enter Tryz.func23, Tryz.ntmps23
      go_wp2
      exact bodyPost_ret (v := .tuple #[.int .i64 4, .int .i64 7]) (by simp [results, Tryz.results23, go_sem]) rfl ⟨rfl, rfl⟩
    · go_enter Tryz.func23, Tryz.ntmps23
      go_wp2
      exact bodyPost_ret (v := .tuple #[.int .i64 4, .int .i64 15]) (by simp [results, Tryz.results23, go_sem]) rfl ⟨rfl, rfl⟩
  have b11 : (c == 11) = false := by simpa using h11
  have e1 : wantN c = 0 := by unfold wantN; simp [h8, h9, h10, h11]
  have q : bits BinOp.or IntKind.i64 0 8 = 8 := by decide
  cases real
  · have e2 : othN c false = 0 := by unfold othN; simp [h8, h9, h10, h11]
    rw [e1, e2]
    go_enter Tryz.func23, Tryz.ntmps23
    go_wp2
    exact bodyPost_ret (v := .tuple #[.int .i64 0, .int .i64 0]) (by simp [results, Tryz.results23, go_sem]) rfl ⟨rfl, rfl⟩
  · have e2 : othN c true = 8 := by unfold othN; simp [h8, h9, h10, h11]
    rw [e1, e2]
    go_enter Tryz.func23, Tryz.ntmps23
    go_wp2
    exact bodyPost_ret (v := .tuple #[.int .i64 0, .int .i64 8]) (by simp [results, Tryz.results23, go_sem]) rfl ⟨rfl, rfl⟩
theorem rone_is (x : Int) (w : World) : Calls Tryz.prog 24 #[.int .i64 x] w fun e w' => e = .returned (.bool (!strB x)) ∧ w = w' := by
  by_cases h1 : x = 1
  · subst h1
    go_enter Tryz.func24, Tryz.ntmps24
    go_wp2
    go_ret
    exact ⟨rfl, rfl⟩
  have b1 : (x == 1) = false := by simpa using h1
  by_cases h2 : x = 2
  · subst h2
    go_enter Tryz.func24, Tryz.ntmps24
    go_wp2
    go_ret
    exact ⟨rfl, rfl⟩
  have b2 : (x == 2) = false := by simpa using h2
  by_cases h4 : x = 4
  · subst h4
    go_enter Tryz.func24, Tryz.ntmps24
    go_wp2
    go_ret
    exact ⟨rfl, rfl⟩
  have b4 : (x == 4) = false := by simpa using h4
  by_cases h8 : x = 8
  · subst h8
    go_enter Tryz.func24, Tryz.ntmps24
    go_wp2
    go_ret
    exact ⟨rfl, rfl⟩
  have b8 : (x == 8) = false := by simpa using h8
  go_enter Tryz.func24, Tryz.ntmps24
  go_wp2
  go_ret
  exact ⟨by simp [strB, b1, b2, b4, b8], rfl⟩
theorem and_bit : ∀ m : Nat, m < 16 → ∀ k : Nat, k < 4 → bits BinOp.and IntKind.i64 (m : Int) ((2 ^ k : Nat) : Int) = if m.testBit k then ((2 ^ k : Nat) : Int) else 0 := by decide +kernel
theorem lowb_at : ∀ m : Nat, m < 16 → ∀ k : Nat, k < 4 → (∀ j, j < k → m.testBit j = false) → m.testBit k = true → lowb m = 2 ^ k := by decide +kernel
theorem lowb_0 : ∀ m : Nat, m < 16 → (∀ j, j < 4 → m.testBit j = false) → lowb m = 0 := by decide +kernel
set_option maxHeartbeats 4000000 in
theorem rleast_is (m : Nat) (hm : m < 16) (w : World) : Calls Tryz.prog 28 #[.int .i64 m] w fun e w' => e = .returned (.int .i64 (lowb m : Nat)) ∧ w = w' := by
  obtain ⟨R, hR⟩ : ∃ R : Nat, lowb m = R := ⟨_, rfl⟩
  rw [hR]
  have HR := hid hR
  clear hR
  go_enter Tryz.func28, Tryz.ntmps28
  go_wp2_with fail
  go_loopg [3] 4 (fun gg i wr => ∃ k : Nat, k ≤ 4 ∧ 4 - k ≤ gg ∧ i = .int .i64 ((2 ^ k : Nat) : Int) ∧ Aside (∀ j, j < k → m.testBit j = false) ∧ w = wr)
  case atStart => exact ⟨0, by omega, by omega, rfl, fun j hj => by omega, rfl⟩
  case round =>
    obtain ⟨k, hk, hg, rfl, NX, rfl⟩ := hrel
    rcases (by omega : k = 0 ∨ k = 1 ∨ k = 2 ∨ k = 3 ∨ k = 4) with rfl | rfl | rfl | rfl | rfl
    · have ab := and_bit m hm 0 (by decide)
      cases hb : m.testBit 0 with
      | true =>
        have lo := lowb_at m hm 0 (by decide) NX.out hb
        rw [hb] at ab
        simp only [if_true] at ab
        obtain rfl : R = 1 := HR.out.symm.trans lo
        have q : bits BinOp.and IntKind.i64 (m : Int) 1 = 1 := ab
        clear ab lo NX hb
        go_wp2_with fail
        go_ret
        exact ⟨rfl, rfl⟩
      | false =>
        rw [hb] at ab
        have q : bits BinOp.and IntKind.i64 (m : Int) 1 = 0 := by simpa using ab
        have NN : Hid (∀ j, j < 0 + 1 → m.testBit j = false) := fun j hj => by
          by_cases e : j = 0
          · subst e; exact hb
          · exact NX.out j (by omega)
        clear ab NX hb
        go_wp2_with fail
        go_roundg (4 - (0 + 1))
        case measure => omega
        case rel => exact ⟨0 + 1, by omega, by omega, rfl, NN.out, rfl⟩
    · have ab := and_bit m hm 1 (by decide)
      cases hb : m.testBit 1 with
      | true =>
        have lo := lowb_at m hm 1 (by decide) NX.out hb
        rw [hb] at ab
        simp only [if_true] at ab
        obtain rfl : R = 2 := HR.out.symm.trans lo
        have q : bits BinOp.and IntKind.i64 (m : Int) 2 = 2 := ab
        clear ab lo NX hb
        go_wp2_with fail
        go_ret
        exact ⟨rfl, rfl⟩
      | false =>
        rw [hb] at ab
        have q : bits BinOp.and IntKind.i64 (m : Int) 2 = 0 := by simpa using ab
        have NN : Hid (∀ j, j < 1 + 1 → m.testBit j = false) := fun j hj => by
          by_cases e : j = 1
          · subst e; exact hb
          · exact NX.out j (by omega)
        clear ab NX hb
        go_wp2_with fail
        go_roundg (4 - (1 + 1))
        case measure => omega
        case rel => exact ⟨1 + 1, by omega, by omega, rfl, NN.out, rfl⟩
    · have ab := and_bit m hm 2 (by decide)
      cases hb : m.testBit 2 with
      | true =>
        have lo := lowb_at m hm 2 (by decide) NX.out hb
        rw [hb] at ab
        simp only [if_true] at ab
        obtain rfl : R = 4 := HR.out.symm.trans lo
        have q : bits BinOp.and IntKind.i64 (m : Int) 4 = 4 := ab
        clear ab lo NX hb
        go_wp2_with fail
        go_ret
        exact ⟨rfl, rfl⟩
      | false =>
        rw [hb] at ab
        have q : bits BinOp.and IntKind.i64 (m : Int) 4 = 0 := by simpa using ab
        have NN : Hid (∀ j, j < 2 + 1 → m.testBit j = false) := fun j hj => by
          by_cases e : j = 2
          · subst e; exact hb
          · exact NX.out j (by omega)
        clear ab NX hb
        go_wp2_with fail
        go_roundg (4 - (2 + 1))
        case measure => omega
        case rel => exact ⟨2 + 1, by omega, by omega, rfl, NN.out, rfl⟩
    · have ab := and_bit m hm 3 (by decide)
      cases hb : m.testBit 3 with
      | true =>
        have lo := lowb_at m hm 3 (by decide) NX.out hb
        rw [hb] at ab
        simp only [if_true] at ab
        obtain rfl : R = 8 := HR.out.symm.trans lo
        have q : bits BinOp.and IntKind.i64 (m : Int) 8 = 8 := ab
        clear ab lo NX hb
        go_wp2_with fail
        go_ret
        exact ⟨rfl, rfl⟩
      | false =>
        rw [hb] at ab
        have q : bits BinOp.and IntKind.i64 (m : Int) 8 = 0 := by simpa using ab
        have NN : Hid (∀ j, j < 3 + 1 → m.testBit j = false) := fun j hj => by
          by_cases e : j = 3
          · subst e; exact hb
          · exact NX.out j (by omega)
        clear ab NX hb
        go_wp2_with fail
        go_roundg (4 - (3 + 1))
        case measure => omega
        case rel => exact ⟨3 + 1, by omega, by omega, rfl, NN.out, rfl⟩
    · have lo := lowb_0 m hm NX.out
      obtain rfl : R = 0 := HR.out.symm.trans lo
      clear NX lo
      go_wp2_with fail
      go_ret
      exact ⟨rfl, rfl⟩
end Go.Proofs.YtdihbeffomibeaaGreatDoor
namespace Go.Proofs.YtdihbeffomibeaaGreatDoor
set_option linter.unusedVariables false
set_option linter.unusedSimpArgs false
open Go.RowKit Go.Lib

/-- One edge is ahead of another. -/
def lexE (a b : Nat × Nat × Nat) : Prop := a.1 < b.1 ∨ a.1 = b.1 ∧ a.2.1 < b.2.1
theorem range_sorted (n : Nat) : (List.range n).Pairwise (· < ·) := by
  induction n with
  | zero => simp
  | succ n ih =>
    rw [List.range_succ, List.pairwise_append]
    exact ⟨ih, by simp, fun a ha b hb => by rw [List.mem_singleton] at hb; subst hb; exact List.mem_range.1 ha⟩
theorem allE_first (L : Nat → Nat → Nat) (n : Nat) : ∀ k, ∀ e ∈ allE L n k, e.1 < k
  | 0, e, h => by simp [allE] at h
  | k + 1, e, h => by
    rw [allE_succ, List.mem_append] at h
    rcases h with h | h
    · have := allE_first L n k e h; omega
    · unfold rowE at h
      obtain ⟨t, _, rfl⟩ := List.mem_map.1 h
      exact Nat.lt_succ_self k
theorem allE_sorted (L : Nat → Nat → Nat) (n : Nat) : ∀ k, (allE L n k).Pairwise lexE
  | 0 => by simp [allE]
  | k + 1 => by
    rw [allE_succ, List.pairwise_append]
    refine ⟨allE_sorted L n k, ?_, fun a ha b hb => ?_⟩
    · unfold rowE
      rw [List.pairwise_map]
      have h1 : (lst (endsF L k 15 4) n).Pairwise (· < ·) := by
        unfold lst
        exact (range_sorted n).filter _
      exact h1.imp (fun {a b} h => .inr ⟨rfl, h⟩)
    · have h1 := allE_first L n k a ha
      unfold rowE at hb
      obtain ⟨t, _, rfl⟩ := List.mem_map.1 hb
      exact .inl h1
theorem sorted_at {l : List (Nat × Nat × Nat)} (h : l.Pairwise lexE) {i j : Nat} (hi : i < l.length) (hj : j < l.length) (hl : lexE (l.getD i (0, 0, 0)) (l.getD j (0, 0, 0))) : i < j := by
  have gi : l.getD i (0, 0, 0) = l[i] := by simp [List.getD, hi]
  have gj : l.getD j (0, 0, 0) = l[j] := by simp [List.getD, hj]
  rw [gi, gj] at hl
  rcases Nat.lt_trichotomy i j with h1 | h1 | h1
  · exact h1
  · subst h1
    rcases hl with h2 | ⟨_, h2⟩ <;> exact absurd h2 (Nat.lt_irrefl _)
  · have h2 := List.pairwise_iff_getElem.1 h j i hj hi h1
    rcases hl with h3 | ⟨h3, h4⟩ <;> rcases h2 with h5 | ⟨h5, h6⟩ <;> omega
theorem min_ex {P : Nat → Prop} (h : ∃ k, P k) : ∃ k, P k ∧ ∀ j, P j → k ≤ j := by
  obtain ⟨k, hk⟩ := h
  induction k using Nat.strongRecOn with
  | _ k ih =>
    by_cases hs : ∃ j, j < k ∧ P j
    · obtain ⟨j, h1, h2⟩ := hs
      exact ih j h1 h2
    · exact ⟨k, hk, fun j hj => Nat.le_of_not_lt fun c => hs ⟨j, c, hj⟩⟩
theorem best_ex {E : Nat → Nat → Bool} {n s T : Nat} (hs : s < n) (h : ∃ r, r ≠ [] ∧ Wl E n s r T) : ∃ q, Best E n s T q ∧ q.length ≤ n := by
  obtain ⟨r, hr, hw⟩ := h
  obtain ⟨k, ⟨q, hq, hwq, hk⟩, hmin⟩ := min_ex (P := fun k => ∃ q, q ≠ [] ∧ Wl E n s q T ∧ cod n (s + 1) q = k) ⟨_, r, hr, hw, rfl⟩
  have hB : Best E n s T q := ⟨hq, hwq, fun q' h1 h2 => by rw [hk]; exact hmin _ ⟨q', h1, h2, rfl⟩⟩
  refine ⟨q, hB, ?_⟩
  obtain ⟨s1, _⟩ := hB.simple hs
  have hn : q.Nodup := by
    rw [List.nodup_iff_pairwise_ne, List.pairwise_iff_getElem]
    intro i j hi hj hij
    have := s1 i j hij hj
    simpa [List.getD, hi, hj] using this
  exact len_of_sub (n := n) hn (fun v hv => hwq.digits v hv)
theorem alike_ex (E : Nat → Nat → Bool) (n T F : Nat) (hT : T < n) (hF : F < n) : ∃ l, Alike E n (T : Int) (F : Int) l ∧ ((l = [] ∧ ∀ r, r ≠ [] → ¬ Wl E n T r F) ∨ ∃ q, l = T :: q ∧ Best E n T F q ∧ q.length ≤ n) := by
  by_cases h : ∃ r, r ≠ [] ∧ Wl E n T r F
  · obtain ⟨q, hB, hq⟩ := best_ex hT h
    exact ⟨T :: q, .inl ⟨T, F, q, rfl, hT, rfl, hF, hB, hq, rfl⟩, .inr ⟨q, rfl, hB, hq⟩⟩
  · have hno : ∀ r, r ≠ [] → ¬ Wl E n T r F := fun r hr hw => h ⟨r, hr, hw⟩
    exact ⟨[], .inr ⟨rfl, .inr ⟨rfl, fun S T' e1 h1 e2 r hr hw => hno r hr (by
      obtain rfl : T = S := by omega
      obtain rfl : F = T' := by omega
      exact hw)⟩⟩, .inl ⟨rfl, hno⟩⟩
/-- The first edge that leads back, by its place among the edges. -/
theorem fst_of_place {L : Nat → Nat → Nat} {n want o : Nat} (hs : ∀ f t, L f t < 16) (hw : want < 16) {j : Nat} (hj : j < (allE L n n).length) {F T X : Nat} (he : (allE L n n).getD j (0, 0, 0) = (F, T, X)) (hF : F < n) (hT : T < n) (hE : edge L (want : Int) F T = true) (hb : ∃ r, r ≠ [] ∧ Wl (edge L (o : Int)) n T r F)
    (hno : ∀ i, i < j → edge L (want : Int) ((allE L n n).getD i (0, 0, 0)).1 ((allE L n n).getD i (0, 0, 0)).2.1 = true → ∀ r, r ≠ [] → ¬ Wl (edge L (o : Int)) n ((allE L n n).getD i (0, 0, 0)).2.1 r ((allE L n n).getD i (0, 0, 0)).1) : FstC (edge L (want : Int)) (edge L (o : Int)) n F T := by
  refine ⟨hF, hT, hE, hb, fun F' T' h1 h2 h3 h4 r hr hwl => ?_⟩
  have hne : L F' T' ≠ 0 := by
    have := (edge_iff L want hw F' T' (hs F' T')).1 h4
    intro c
    rw [c] at this
    simp at this
  have hm : (F', T', L F' T') ∈ allE L n n := (mem_allE L n hs _).2 ⟨F', T', h1, h2, hne, rfl⟩
  obtain ⟨i, hi, hie⟩ := List.getElem_of_mem hm
  have hgi : (allE L n n).getD i (0, 0, 0) = (F', T', L F' T') := by simp [List.getD, hi, hie]
  have hij : i < j := sorted_at (allE_sorted L n n) hi hj (by rw [hgi, he]; exact h3)
  have := hno i hij
  rw [hgi] at this
  exact this h4 r hr hwl
theorem noC_of_places {L : Nat → Nat → Nat} {n want o : Nat} (hs : ∀ f t, L f t < 16) (hw : want < 16)
    (hno : ∀ i, i < (allE L n n).length → edge L (want : Int) ((allE L n n).getD i (0, 0, 0)).1 ((allE L n n).getD i (0, 0, 0)).2.1 = true → ∀ r, r ≠ [] → ¬ Wl (edge L (o : Int)) n ((allE L n n).getD i (0, 0, 0)).2.1 r ((allE L n n).getD i (0, 0, 0)).1) : NoC (edge L (want : Int)) (edge L (o : Int)) n := by
  intro F' T' h1 h2 h4 r hr hwl
  have hne : L F' T' ≠ 0 := by
    have := (edge_iff L want hw F' T' (hs F' T')).1 h4
    intro c
    rw [c] at this
    simp at this
  have hm : (F', T', L F' T') ∈ allE L n n := (mem_allE L n hs _).2 ⟨F', T', h1, h2, hne, rfl⟩
  obtain ⟨i, hi, hie⟩ := List.getElem_of_mem hm
  have hgi : (allE L n n).getD i (0, 0, 0) = (F', T', L F' T') := by simp [List.getD, hi, hie]
  have := hno i hi
  rw [hgi] at this
  exact this h4 r hr hwl
end Go.Proofs.YtdihbeffomibeaaGreatDoor
