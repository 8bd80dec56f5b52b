/-
  A ring of nodes, whole or cut: plain; two graphs beside each other.
-/
import Derived.Deep.CutBlock
import Derived.Test.YtjgmkigfpjmlaabDoorZC14
import Derived.Test.YtjgmkigfpjmlaabDoorZO
namespace Go.Proofs.YtjgmkigfpjmlaabDoor
set_option linter.unusedVariables false
set_option linter.unusedSimpArgs false
open Go.RowKit

/-- The labels of a ring of n nodes, of which the edges of k nodes are drawn, but for that of c. -/
def rgL (n k c : Nat) : Nat → Nat → Nat := fun f t => if f < k ∧ f ≠ c ∧ t = (f + 1) % n then 1 else 0
theorem rg_0 (n c : Nat) : (fun _ _ => 0 : Nat → Nat → Nat) = rgL n 0 c := by
  funext f t
  unfold rgL
  rw [if_neg (by omega)]
theorem low_14 : low 1 4 = 1 := by decide
theorem rg_step (n k c : Nat) (hc : k ≠ c) : addL (rgL n k c) k ((k + 1) % n) 1 4 = rgL n (k + 1) c := by
  funext f t
  unfold addL rgL
  rw [low_14]
  by_cases h1 : f = k ∧ t = (k + 1) % n
  · obtain ⟨rfl, rfl⟩ := h1
    rw [if_pos ⟨rfl, rfl⟩, if_neg (by omega), if_pos ⟨by omega, hc, rfl⟩]
    decide
  · rw [if_neg h1]
    by_cases h2 : f < k ∧ f ≠ c ∧ t = (f + 1) % n
    · rw [if_pos h2, if_pos ⟨by omega, h2.2⟩]
    · rw [if_neg h2, if_neg]
      rintro ⟨h3, h4, h5⟩
      by_cases h6 : f = k
      · subst h6; exact h1 ⟨rfl, h5⟩
      · exact h2 ⟨by omega, h4, h5⟩
theorem rg_skip (n c : Nat) : rgL n c c = rgL n (c + 1) c := by
  funext f t
  unfold rgL
  by_cases h : f < c ∧ f ≠ c ∧ t = (f + 1) % n
  · rw [if_pos h, if_pos ⟨by omega, h.2⟩]
  · rw [if_neg h, if_neg (fun k => h ⟨by omega, k.2⟩)]
theorem rg_any1 : ((List.range 4).any fun i => lbit 1 i && (1 : Nat).testBit i) = true := by decide +kernel
theorem rg_any0 (m : Int) : ((List.range 4).any fun i => lbit m i && (0 : Nat).testBit i) = false := by simp
theorem rg_any2 : ((List.range 4).any fun i => lbit 2 i && (1 : Nat).testBit i) = false := by decide +kernel
theorem rg_edge (n c u v : Nat) (hu : u < n) : edge (rgL n n c) 1 u v = true ↔ u ≠ c ∧ v = (u + 1) % n := by
  unfold edge endsF rgL
  by_cases h : u ≠ c ∧ v = (u + 1) % n
  · rw [if_pos ⟨hu, h⟩]
    exact ⟨fun _ => h, fun _ => rg_any1⟩
  · rw [if_neg (fun c => h c.2)]
    constructor
    · intro c; rw [rg_any0] at c; cases c
    · intro c; exact absurd c h
theorem rg_none (n c u v : Nat) : edge (rgL n n c) 2 u v = false := by
  unfold edge endsF rgL
  split
  · exact rg_any2
  · exact rg_any0 2
theorem rg_ne (n i : Nat) (hn : 2 ≤ n) (hi : i < n) : i ≠ (i + 1) % n := by
  rcases Nat.lt_or_ge (i + 1) n with h | h
  · rw [Nat.mod_eq_of_lt h]; omega
  · have e : i + 1 = n := by omega
    rw [e, Nat.mod_self]; omega
theorem rg_self (n c : Nat) (hn : 2 ≤ n) (m : Int) (f : Nat) : edge (rgL n n c) m f f = false := by
  unfold edge endsF rgL
  rw [if_neg (fun h => rg_ne n f hn h.1 h.2.2)]
  exact rg_any0 m
/-- What stands at place j of a row that begins behind c. -/
theorem rg_at (n c j : Nat) (hc : c < n) (hj : j < n) : (c + 1 + j) % n = if c + 1 + j < n then c + 1 + j else c + 1 + j - n := by
  split
  · exact Nat.mod_eq_of_lt (by assumption)
  · rw [Nat.mod_eq_sub_mod (by omega), Nat.mod_eq_of_lt (by omega)]
theorem rg_next (n u : Nat) (hu : u < n) : (u + 1) % n = if u + 1 < n then u + 1 else 0 := by
  split
  · exact Nat.mod_eq_of_lt (by assumption)
  · rw [show u + 1 = n by omega, Nat.mod_self]
def rgRow (n c : Nat) : List Nat := (List.range n).map fun j => (c + 1 + j) % n
theorem rgRow_len (n c : Nat) : (rgRow n c).length = n := by simp [rgRow]
theorem rgRow_get (n c j : Nat) (hj : j < n) : (rgRow n c).getD j 0 = (c + 1 + j) % n := by simp [rgRow, List.getD, hj]
theorem rgRow_mem (n c k u : Nat) (hk : k ≤ n) : u ∈ (rgRow n c).take k ↔ ∃ j, j < k ∧ (c + 1 + j) % n = u := by
  unfold rgRow
  rw [← List.map_take, List.take_range, Nat.min_eq_left hk]
  simp [List.mem_map]
theorem rg_order (n c : Nat) (hn : 2 ≤ n) (hc : c < n) : IsOrder (edge (rgL n n c) 1) n (rgRow n c) true := by
  refine .inl ⟨rfl, fun k hk => ?_, rgRow_len n c⟩
  rw [rgRow_len] at hk
  rw [rgRow_get n c k hk]
  have free : Free (edge (rgL n n c) 1) n ((rgRow n c).take k) ((c + 1 + k) % n) := by
    refine ⟨Nat.mod_lt _ (by omega), fun hm => ?_, fun m hm hml => ?_⟩
    · obtain ⟨j, hj, e⟩ := (rgRow_mem n c k _ (by omega)).1 hm
      rw [rg_at n c j hc (by omega), rg_at n c k hc hk] at e
      split at e <;> split at e <;> omega
    · cases he : edge (rgL n n c) 1 m ((c + 1 + k) % n) with
      | false => rfl
      | true =>
        exfalso
        obtain ⟨h1, h2⟩ := (rg_edge n c m _ hm).1 he
        rw [rg_at n c k hc hk, rg_next n m hm] at h2
        refine hml ((rgRow_mem n c k m (by omega)).2 ⟨k - 1, ?_, ?_⟩)
        · split at h2 <;> split at h2 <;> omega
        · rw [rg_at n c (k - 1) hc (by omega)]
          split at h2 <;> split at h2 <;> split <;> omega
  refine ⟨free, fun x hx hf => ?_⟩
  obtain ⟨f1, f2, f3⟩ := hf
  obtain ⟨j, hj, ej⟩ : ∃ j, j < n ∧ (c + 1 + j) % n = x := by
    by_cases h : c + 1 ≤ x
    · exact ⟨x - (c + 1), by omega, by rw [rg_at n c _ hc (by omega)]; split <;> omega⟩
    · exact ⟨x + n - (c + 1), by omega, by rw [rg_at n c _ hc (by omega)]; split <;> omega⟩
  have hjk : k ≤ j := Nat.le_of_not_lt fun h => f2 ((rgRow_mem n c k x (by omega)).2 ⟨j, h, ej⟩)
  by_cases hjk2 : j = k
  · subst hjk2; omega
  have h1 : (c + 1 + (j - 1)) % n < n := Nat.mod_lt _ (by omega)
  have h2 : (c + 1 + (j - 1)) % n ∉ (rgRow n c).take k := fun hm => by
    obtain ⟨i, hi, e⟩ := (rgRow_mem n c k _ (by omega)).1 hm
    rw [rg_at n c i hc (by omega), rg_at n c (j - 1) hc (by omega)] at e
    split at e <;> split at e <;> omega
  have h3 : edge (rgL n n c) 1 ((c + 1 + (j - 1)) % n) x = true := by
    refine (rg_edge n c _ x h1).2 ⟨?_, ?_⟩
    · rw [rg_at n c (j - 1) hc (by omega)]
      split <;> omega
    · rw [rg_next n _ h1, ← ej, rg_at n c (j - 1) hc (by omega), rg_at n c j hc hj]
      split <;> split <;> split <;> omega
  rw [f3 _ h1 h2] at h3
  cases h3
theorem rg_reach (n u : Nat) (hu : u < n) : ∀ j, Rs (edge (rgL n n n) 1) n u ((u + j) % n)
  | 0 => by rw [Nat.add_zero, Nat.mod_eq_of_lt hu]; exact Rs.refl _ _ _
  | j + 1 => by
    have hm : (u + j) % n < n := Nat.mod_lt _ (by omega)
    refine (rg_reach n u hu j).trans (Rs.edge ((rg_edge n n _ _ hm).2 ⟨by omega, ?_⟩) (Nat.mod_lt _ (by omega)))
    rw [Nat.mod_add_mod]
    rfl
theorem rg_to (n u v : Nat) (hu : u < n) (hv : v < n) : Rs (edge (rgL n n n) 1) n u v := by
  have := rg_reach n u hu (v + n - u)
  have e : (u + (v + n - u)) % n = v := by
    rw [show u + (v + n - u) = v + n by omega, Nat.add_mod_right, Nat.mod_eq_of_lt hv]
  rwa [e] at this
/-- The whole ring is one component. -/
theorem rg_comps (n : Nat) (hn : 2 ≤ n) : IsComps (edge (rgL n n n) 1) n [List.range n] := by
  refine ⟨fun c hc => ?_, fun v hv => ⟨_, List.mem_singleton.2 rfl, List.mem_range.2 hv⟩, List.pairwise_singleton _ _⟩
  rw [List.mem_singleton.1 hc]
  refine ⟨List.pairwise_lt_range, 0, by omega, fun v => ?_⟩
  rw [List.mem_range]
  exact ⟨fun hv => ⟨hv, rg_to n 0 v (by omega) hv, rg_to n v 0 hv (by omega)⟩, fun h => h.1⟩
theorem rg_great (n : Nat) (hn : 2 ≤ n) : great [List.range n] = true := by
  unfold great
  simp
  omega
theorem rg_great2 (n c : Nat) {cs : List (List Nat)} (h : IsComps (edge (rgL n n c) 2) n cs) : great cs = false := by
  cases hg : great cs with
  | false => rfl
  | true =>
    exfalso
    obtain ⟨u, v, hne, hu, hv, h1, h2⟩ := (great_iff h).1 hg
    have := Rs.stay (Q := fun x => x = u) (fun x y _ _ he => by rw [rg_none] at he; cases he) h1 rfl
    exact hne this.symm
theorem rg_all : ∀ (n : Nat) (l : List Nat), (∀ v, v < n → v ∈ l) → n ≤ l.length
  | 0, l, _ => Nat.zero_le _
  | n + 1, l, h => by
    have h1 := h n (by omega)
    have h2 := rg_all n (l.erase n) (fun v hv => (List.mem_erase_of_ne (by omega)).2 (h v (by omega)))
    rw [List.length_erase_of_mem h1] at h2
    have := List.length_pos_of_mem h1
    omega
/-- Where there is no component of two nodes, there are as many as nodes. -/
theorem IsComps.many {E : Nat → Nat → Bool} {n : Nat} {cs : List (List Nat)} (h : IsComps E n cs) (hg : great cs = false) : cs.length = n := by
  have h1 := h.len.1
  have h2 := rg_all n (cs.map fun c => c.headD 0) (fun v hv => by
    obtain ⟨c, hc, hvc⟩ := h.2.1 v hv
    refine List.mem_map.2 ⟨c, hc, ?_⟩
    have hl : ¬ 1 < c.length := fun hl => by
      have : great cs = true := by
        unfold great
        rw [List.any_eq_true]
        exact ⟨c, hc, by simpa using hl⟩
      rw [hg] at this
      cases this
    match c, hvc, hl with
    | [], hvc, _ => cases hvc
    | [x], hvc, _ => rw [List.mem_singleton.1 hvc]; rfl
    | _ :: _ :: _, _, hl => simp at hl)
  rw [List.length_map] at h2
  omega
/-- A graph stays where an edge is added to another one. -/
theorem Graph.saved {w w' : World} {b n r : Nat} {bk ck : Nat → Nat} {L : Nat → Nat → Nat} {f : Nat} (h : Graph w b n r bk ck L) (hf : f < n) (hs : Save (fun c => ∃ i, i < 4 ∧ c = ck (4 * f + i)) w w')
    {b' n' r' : Nat} {bk' ck' : Nat → Nat} {L' : Nat → Nat → Nat} (h' : Graph w b' n' r' bk' ck' L') (hd : ∀ k k', k < 4 * n → k' < 4 * n' → ck k ≠ ck' k') : Graph w' b' n' r' bk' ck' L' := by
  obtain ⟨cur, r1, r2, r3⟩ := h'.row
  refine ⟨Save.at h hf hs h'.box (by decide), ⟨cur, Save.at h hf hs r1 (by decide), r2, r3⟩, fun k hk => ?_, h'.apart, h'.small, h'.bound⟩
  obtain ⟨ws, s1, s2⟩ := (h'.sets k hk).ex
  refine ⟨⟨ws, ⟨Save.at h hf hs s1.box (by decide), (hs.block _ (blt s1.row) ?_).trans s1.row, s1.len, s1.small, s1.bound⟩, s2⟩, (h'.sets k hk).top⟩
  rintro ⟨i, hi, e⟩
  exact hd (4 * f + i) k (by omega) hk e.symm
theorem rg_tmod (a n : Nat) : ((a : Int)).tmod (n : Int) = ((a % n : Nat) : Int) := by
  rw [Int.tmod_eq_emod_of_nonneg (by omega)]
  simp
end Go.Proofs.YtjgmkigfpjmlaabDoor

/-
  The law CompsRing.
-/
namespace Go.Proofs.YtjgmkigfpjmlaabDoor
set_option linter.unusedVariables false
set_option linter.unusedSimpArgs false
open Go.RowKit

set_option maxHeartbeats 16000000 in
set_option maxRecDepth 100000 in
theorem rings_walk (n0 c0 : Int) (w : World) (hT : Tab w) :
    Calls Tryd.prog 3 #[.int .i64 n0, .int .i64 c0] w fun e w' => e = .returned (.bool true) ∧ Below w.heap.size w w' := by
  obtain ⟨N, hN, hD0⟩ := u64_tmod n0 50 (by decide) (by decide)
  have hD : (IntKind.u64.wrap n0).tmod 50 = (N : Int) := hD0
  clear hD0
  have TB := hid hT
  have hNi : (N : Int) < 50 := by omega
  clear hT
  go_enter Tryd.func3, Tryd.ntmps3
  go_upto_region 2 with fail
  have e2 : (2 + (N : Int)) = ((N + 2 : Nat) : Int) := by omega
  rw [e2]
  have hn2 : 2 ≤ N + 2 := by omega
  have hn52 : N + 2 < 52 := by omega
  clear hD e2 hNi hN
  generalize N + 2 = n at *
  obtain ⟨C, hC, hCe⟩ := u64_tmod c0 n (by omega) (by omega)
  have hwn : IntKind.u64.wrap (n : Int) = (n : Int) := by rw [IntKind.wrap_u64]; omega
  have hnz : (n : Int) ≠ 0 := by omega
  have hni : (n : Int) < 52 := by omega
  have hCi : (C : Int) < 52 := by omega
  go_wp2_with fail
  clear hCe hwn
  go_at_call 9
  refine (gnew_ok n (by omega) w).mono ?_
  rintro e w1 ⟨rfl, g1, b1⟩
  have B1 := hid b1
  have CK1 : Hid (∀ k, k < 4 * n → (fun k => w.heap.size + 2 + 2 * k) k < w1.heap.size) := fun k hk => by
    obtain ⟨cs, h1⟩ := g1.words k hk
    exact blt h1
  have LOW : Hid (∀ k, k < 4 * n → w.heap.size ≤ (fun k => w.heap.size + 2 + 2 * k) k) := fun k _ => by show w.heap.size ≤ w.heap.size + 2 + 2 * k; omega
  have G1 : Hid (Graph w1 (w.heap.size + 1) n w.heap.size (fun k => w.heap.size + 3 + 2 * k) (fun k => w.heap.size + 2 + 2 * k) (rgL n 0 n)) := by
    rw [← rg_0 n n]
    exact g1
  clear g1 b1
  generalize (fun k => w.heap.size + 2 + 2 * k) = ck at *
  generalize (fun k => w.heap.size + 3 + 2 * k) = bk at *
  generalize hbb : w.heap.size + 1 = b at *
  clear hbb
  generalize hrr : w.heap.size = r at G1
  clear hrr
  go_wp2_with fail
  go_at_call 9
  refine (gnew_ok n (by omega) w1).mono ?_
  rintro e w2 ⟨rfl, g2, b2⟩
  have B2 := hid (B1.out.trans (b2.mono B1.out.size))
  have G2 := hid (G1.out.later b2)
  have AP : Hid (∀ k k', k < 4 * n → k' < 4 * n → ck k ≠ (fun k => w1.heap.size + 2 + 2 * k) k') := fun k k' hk hk' => by
    have := CK1.out k hk
    show ck k ≠ w1.heap.size + 2 + 2 * k'
    omega
  have LOW2 : Hid (∀ k, k < 4 * n → w.heap.size ≤ (fun k => w1.heap.size + 2 + 2 * k) k) := fun k _ => by
    have := B1.out.size
    show w.heap.size ≤ w1.heap.size + 2 + 2 * k
    omega
  have H2 : Hid (Graph w2 (w1.heap.size + 1) n w1.heap.size (fun k => w1.heap.size + 3 + 2 * k) (fun k => w1.heap.size + 2 + 2 * k) (rgL n 0 C)) := by
    rw [← rg_0 n C]
    exact g2
  clear g2 b2 B1 G1 CK1
  generalize (fun k => w1.heap.size + 2 + 2 * k) = ck' at *
  generalize (fun k => w1.heap.size + 3 + 2 * k) = bk' at *
  generalize hbb : w1.heap.size + 1 = b' at *
  clear hbb
  generalize hrr : w1.heap.size = r' at H2
  clear hrr
  go_wp2_with fail
  go_loopg [9, 42] n (fun g _ i wr => ∃ k : Nat, k ≤ n ∧ n - k ≤ g ∧ i = .int .i64 k ∧ Aside (Graph wr b n r bk ck (rgL n k n)) ∧ Aside (Graph wr b' n r' bk' ck' (rgL n k C)) ∧ Aside (Below w.heap.size w wr))
  case atStart => exact ⟨0, Nat.zero_le _, by omega, rfl, G2.out, H2.out, B2.out⟩
  case round =>
    clear G2 H2 B2
    obtain ⟨k, hk, hg, rfl, GX, HX, BX⟩ := hrel
    by_cases hlt : k < n
    · have hlti : (k : Int) < n := by omega
      have hmod : ((k : Int) + 1).tmod (n : Int) = (((k + 1) % n : Nat) : Int) := rg_tmod (k + 1) n
      have hne := rg_ne n k hn2 hlt
      have hml := Nat.mod_lt (k + 1) (show 0 < n by omega)
      have hmli : ((((k + 1) % n : Nat)) : Int) < 52 := by omega
      have RS := hid (rg_step n k n (by omega))
      have RC := hid (rg_step n k C)
      have AD := hid (gadd_ok b n r bk ck (rgL n k n) k ((k + 1) % n) 1 wr GX.out hlt hml (by decide) (by decide) hne)
      have AH := hid (fun W (h : Graph W b' n r' bk' ck' (rgL n k C)) => gadd_ok b' n r' bk' ck' (rgL n k C) k ((k + 1) % n) 1 W h hlt hml (by decide) (by decide) hne)
      generalize (k + 1) % n = m at *
      go_wp2_with fail
      go_at_call 10
      refine AD.out.mono ?_
      rintro e w3 ⟨rfl, s3, v3⟩
      have G3 : Hid (Graph w3 b n r bk ck (rgL n (k + 1) n)) := by rw [← RS.out]; exact s3
      have H3 := hid (GX.out.saved hlt v3 HX.out AP.out)
      have B3 : Hid (Below w.heap.size w w3) := BX.out.trans (v3.below w.heap.size (fun x hx => by obtain ⟨i, hi, rfl⟩ := hx; exact LOW.out _ (by omega)) BX.out.size)
      clear s3 v3 AD GX BX HX RS
      by_cases hkc : k = C
      · have hkb : ((k : Int) != (C : Int)) = false := by simp [hkc]
        have H4 : Hid (Graph w3 b' n r' bk' ck' (rgL n (k + 1) C)) := by
          have h := H3.out
          show Graph _ _ _ _ _ _ _
          rw [hkc, ← rg_skip, ← hkc]
          rw [hkc] at h ⊢
          exact h
        clear hkc H3 AH RC
        go_wp2_with fail
        go_roundg (n - (k + 1))
        · exact ⟨k + 1, by omega, by omega, by go_num, G3.out, H4.out, B3.out⟩
        · omega
      · have hkb : ((k : Int) != (C : Int)) = true := by simp; omega
        have hkn : ¬ (k : Int) = C := by omega
        have AH3 := hid (AH.out w3 H3.out)
        have RC2 := hid (RC.out hkc)
        clear hkc AH RC
        go_wp2_with fail
        go_at_call 10
        refine AH3.out.mono ?_
        rintro e w4 ⟨rfl, s4, v4⟩
        have H4 : Hid (Graph w4 b' n r' bk' ck' (rgL n (k + 1) C)) := by rw [← RC2.out]; exact s4
        have G4 := hid (H3.out.saved hlt v4 G3.out (fun x y hx hy e => AP.out y x hy hx e.symm))
        have B4 : Hid (Below w.heap.size w w4) := B3.out.trans (v4.below w.heap.size (fun x hx => by obtain ⟨i, hi, rfl⟩ := hx; exact LOW2.out _ (by omega)) B3.out.size)
        clear s4 v4 AH3 RC2 hmod
        go_wp2_with fail
        go_roundg (n - (k + 1))
        · exact ⟨k + 1, by omega, by omega, by go_num, G4.out, H4.out, B4.out⟩
        · omega
    · have hlti : ¬ (k : Int) < n := by omega
      obtain rfl : n = k := by omega
      have T1 := hid (TB.out.later BX.out)
      have OD := hid (order_is b' n r' bk' ck' (rgL n n C) 1 wr HX.out T1.out)
      have hnn : ((n : Int) != (n : Int)) = false := by simp
      go_wp2_with fail
      go_at_call 11
      refine OD.out.mono ?_
      rintro e w2 ⟨⟨v2, l, ok, rfl, i2, io⟩, c2⟩
      obtain ⟨hl, rfl⟩ := io.uniq (rg_order n C hn2 hC)
      have hll : l.length = n := by rw [hl, rgRow_len]
      have LG : Hid (∀ j, j < n → l.getD j 0 = (C + 1 + j) % n) := fun j hj => by rw [hl]; exact rgRow_get n C j hj
      have IOx := hid io
      have I2 := hid i2
      obtain ⟨oa, oc, hv2⟩ := i2.form
      rw [hll] at hv2
      subst hv2
      have HLL := hid hll
      have C2 := hid c2
      clear i2 io c2 OD hl hll
      have CH := hid (comps_is b' n r' bk' ck' (rgL n n C) 1 w2 (HX.out.later C2.out) (T1.out.later C2.out))
      go_wp2_with fail
      go_at_call 12
      refine CH.out.mono ?_
      rintro e w3 ⟨⟨v3, fs, rfl, f3, q3⟩, c3⟩
      have hfl : fs.length = n := by
        have h := q3.many (by rw [IOx.out.great q3 (rg_self n C hn2 1)]; rfl)
        simpa using h
      obtain ⟨pa, pc, hv3, _⟩ := f3.at
      rw [hfl] at hv3
      subst hv3
      have C3 := hid (C2.out.trans (c3.mono C2.out.size))
      have I3 := hid (I2.out.later c3)
      clear f3 q3 c3 CH hfl I2 C2
      have CG := hid (comps_is b n r bk ck (rgL n n n) 1 w3 (GX.out.later C3.out) (T1.out.later C3.out))
      go_wp2_with fail
      go_at_call 12
      refine CG.out.mono ?_
      rintro e w4 ⟨⟨v4, fs4, rfl, f4, q4⟩, c4⟩
      have hfl : fs4.length = 1 := by
        have h := congrArg List.length (q4.uniq (rg_comps n hn2))
        simpa using h
      obtain ⟨qa, qc, hv4, _⟩ := f4.at
      rw [hfl] at hv4
      subst hv4
      have C4 := hid (C3.out.trans (c4.mono C3.out.size))
      have I4 := hid (I3.out.later c4)
      clear f4 q4 c4 CG hfl I3 C3
      have CY := hid (cyclic_is b n r bk ck (rgL n n n) 1 w4 (GX.out.later C4.out) (T1.out.later C4.out))
      go_wp2_with fail
      go_at_call 13
      refine CY.out.mono ?_
      rintro e w5 ⟨⟨cs5, rfl, q5⟩, c5⟩
      rw [q5.uniq (rg_comps n hn2), rg_great n hn2]
      have C5 := hid (C4.out.trans (c5.mono C4.out.size))
      have I5 := hid (I4.out.later c5)
      clear q5 c5 CY I4 C4
      have CZ := hid (cyclic_is b n r bk ck (rgL n n n) 2 w5 (GX.out.later C5.out) (T1.out.later C5.out))
      go_wp2_with fail
      go_at_call 13
      refine CZ.out.mono ?_
      rintro e w6 ⟨⟨cs6, rfl, q6⟩, c6⟩
      rw [rg_great2 n n q6]
      have C6 := hid (C5.out.trans (c6.mono C5.out.size))
      have I6 := hid (I5.out.later c6)
      have B6 : Hid (Below w.heap.size w w6) := BX.out.trans (C6.out.mono BX.out.size)
      clear q6 c6 CZ I5 C5 C6 GX HX BX T1 IOx
      obtain ⟨a', c', e', hA⟩ := I6.out.arg
      have HA : Hid (∀ j, j < n → ∃ bz oz, oa = some ⟨bz, oz, none⟩ ∧ w6.cell? ⟨bz, oz + j, none⟩ = some (.int .i64 (((C + 1 + j) % n : Nat) : Int))) := fun j hj => by
        injection e' with e1 e2 e3
        obtain ⟨bz, oz, h1, h2⟩ := hA j (by rw [List.length_map, HLL.out]; exact hj)
        refine ⟨bz, oz, by rw [e1]; exact h1, ?_⟩
        rw [h2, ← LG.out j hj]
        congr 2
        simp [List.getD, show j < l.length by rw [HLL.out]; exact hj]
      clear hA e' I6
      go_wp2_with fail
      go_loopg [12, 13, 100] n (fun g _ _ i wq => ∃ j : Nat, j ≤ n ∧ n - j ≤ g ∧ i = .int .i64 j ∧ w6 = wq)
      case atStart => exact ⟨0, Nat.zero_le _, by omega, rfl, rfl⟩
      case round =>
        obtain ⟨j, hj, hg2, rfl, rfl⟩ := hrel
        by_cases hjl : j < n
        · have hjli : (j : Int) < n := by omega
          obtain ⟨bz, oz, rfl, hcz⟩ := HA.out j hjl
          have hmod : ((C : Int) + 1 + (j : Int)).tmod (n : Int) = (((C + 1 + j) % n : Nat) : Int) := by
            have h := rg_tmod (C + 1 + j) n
            have e : ((C + 1 + j : Nat) : Int) = (C : Int) + 1 + (j : Int) := by omega
            rw [e] at h
            exact h
          have hml := Nat.mod_lt (C + 1 + j) (show 0 < n by omega)
          have hmli : ((((C + 1 + j) % n : Nat)) : Int) < 52 := by omega
          generalize (C + 1 + j) % n = m at *
          have hmm : ((m : Int) != (m : Int)) = false := by simp
          go_wp2_with fail
          go_roundg (n - (j + 1))
          · exact ⟨j + 1, by omega, by omega, by go_num, rfl⟩
          · omega
        · have hjli : ¬ (j : Int) < n := by omega
          go_wp2_with fail
          go_ret
          exact ⟨rfl, B6.out⟩
end Go.Proofs.YtjgmkigfpjmlaabDoor
