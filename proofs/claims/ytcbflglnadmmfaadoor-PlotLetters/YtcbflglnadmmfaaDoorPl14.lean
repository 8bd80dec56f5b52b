/-
  A drawing's rows and letters, plain.
-/
import Derived.Test.YtcbflglnadmmfaaDoorPl13
import Derived.Lib.Split
namespace Go.Proofs.YtcbflglnadmmfaaDoor
set_option linter.unusedVariables false
set_option linter.unusedSimpArgs false
open Go.RowKit Go.Lib

/-- Rows, each with its end. -/
def flat (rs : List (List UInt8)) : List UInt8 := (rs.map fun r => r ++ [10]).flatten
theorem flat_cons (r : List UInt8) (rs : List (List UInt8)) : flat (r :: rs) = r ++ 10 :: flat rs := by simp [flat]
theorem idx_row : ∀ (a r : List UInt8), (10 : UInt8) ∉ a → index (a ++ 10 :: r) [10] = (a.length : Int)
  | [], r, _ => by simp [index]
  | b :: a, r, h => by
    have hb : ¬ (10 : UInt8) = b := fun e => h (by simp [e])
    have ih := idx_row a r (fun c => h (by simp [c]))
    have hne : ¬ ((a.length : Int) = -1) := by omega
    rw [List.cons_append, index, ih]
    simp [hb, hne]
theorem idx_nil : index [] [10] = -1 := rfl
theorem split_flat : ∀ (rs : List (List UInt8)), (∀ r ∈ rs, (10 : UInt8) ∉ r) → splitK [10] 0 rs.length (flat rs) = rs ++ [[]]
  | [], _ => rfl
  | r :: rs, h => by
    have e := idx_row r (flat rs) (h r (by simp))
    have ih := split_flat rs (fun x hx => h x (by simp [hx]))
    rw [List.length_cons, splitK, flat_cons, e]
    have hne : ((r.length : Int) == -1) = false := by simp
    rw [hne]
    have e1 : ((r.length : Int).toNat + 0) = r.length := by omega
    have e2 : (r.length : Int).toNat + [(10 : UInt8)].length = r.length + 1 := by simp
    rw [e1, e2]
    have e3 : (r ++ 10 :: flat rs).take r.length = r := by simp
    have e4 : (r ++ 10 :: flat rs).drop (r.length + 1) = flat rs := by
      rw [show r ++ 10 :: flat rs = (r ++ [10]) ++ flat rs by simp, List.drop_append_of_le_length (by simp), List.drop_of_length_le (by simp), List.nil_append]
    rw [e3, e4, ih]
    rfl
theorem count_flat : ∀ (rs : List (List UInt8)), (∀ r ∈ rs, (10 : UInt8) ∉ r) → count (flat rs) [10] = rs.length
  | [], _ => rfl
  | r :: rs, h => by
    have e := idx_row r (flat rs) (h r (by simp))
    have ih := count_flat rs (fun x hx => h x (by simp [hx]))
    rw [flat_cons, count_hit (sub := [10]) (i := r.length) (by simp) e, List.length_cons]
    have e4 : (r ++ 10 :: flat rs).drop (r.length + 1) = flat rs := by
      rw [show r ++ 10 :: flat rs = (r ++ [10]) ++ flat rs by simp, List.drop_append_of_le_length (by simp), List.drop_of_length_le (by simp), List.nil_append]
    show 1 + count ((r ++ 10 :: flat rs).drop (r.length + 1)) [10] = _
    rw [e4, ih, List.length_cons]
    omega
/-- A sheet of n rows, each w wide. -/
def RowsOf (wd n : Nat) (S : List UInt8) : Prop := ∃ rs : List (List UInt8), rs.length = n ∧ (∀ r ∈ rs, r.length = wd ∧ (10 : UInt8) ∉ r) ∧ S = flat rs
theorem flat_set (wd : Nat) (x : UInt8) (c : Nat) (hc : c < wd) : ∀ (rs : List (List UInt8)) (d : Nat), (∀ r ∈ rs, r.length = wd) → d < rs.length → (flat rs).set (d * (wd + 1) + c) x = flat (rs.set d ((rs.getD d []).set c x))
  | [], d, _, h => by simp at h
  | r :: rs, 0, h, _ => by
    have hr := h r (by simp)
    rw [flat_cons, Nat.zero_mul, Nat.zero_add, List.set_append_left _ _ (by omega)]
    simp [flat]
  | r :: rs, d + 1, h, hd => by
    have hr := h r (by simp)
    have ih := flat_set wd x c hc rs d (fun q hq => h q (by simp [hq])) (by simpa using hd)
    rw [flat_cons, show r ++ 10 :: flat rs = (r ++ [10]) ++ flat rs by simp, List.set_append_right _ _ (by simp; rw [Nat.succ_mul]; omega)]
    have e : (d + 1) * (wd + 1) + c - (r ++ [10]).length = d * (wd + 1) + c := by simp; rw [Nat.succ_mul]; omega
    rw [e, ih]
    simp [flat]
theorem RowsOf.set {wd n : Nat} {S : List UInt8} (h : RowsOf wd n S) (d c : Nat) (hd : d < n) (hc : c < wd) (x : UInt8) (hx : x ≠ 10) : RowsOf wd n (S.set (d * (wd + 1) + c) x) := by
  obtain ⟨rs, h1, h2, rfl⟩ := h
  refine ⟨rs.set d ((rs.getD d []).set c x), by simp [h1], fun r hr => ?_, flat_set wd x c hc rs d (fun r hr => (h2 r hr).1) (by omega)⟩
  rcases List.mem_or_eq_of_mem_set hr with q | q
  · exact h2 r q
  · have hm : rs.getD d [] ∈ rs := by
      rw [List.getD, List.getElem?_eq_getElem (by omega)]
      exact List.getElem_mem _
    subst q
    refine ⟨by rw [List.length_set]; exact (h2 _ hm).1, fun hc10 => ?_⟩
    rcases List.mem_or_eq_of_mem_set hc10 with q | q
    · exact (h2 _ hm).2 q
    · exact hx q.symm
theorem rows_start (wd n : Nat) : RowsOf wd n (repL (rowM wd) n) := by
  refine ⟨List.replicate n (List.replicate wd 46), by simp, fun r hr => ?_, ?_⟩
  · obtain ⟨_, rfl⟩ := List.mem_replicate.1 hr
    refine ⟨by simp, fun h => ?_⟩
    obtain ⟨_, h⟩ := List.mem_replicate.1 h
    exact absurd h (by decide)
  · unfold repL flat rowM
    rw [List.map_replicate]
theorem let_ne (k : Nat) : letM k ≠ 10 ∧ letM k ≠ 46 := by
  have e : (letM k).toNat = 97 + k % 26 := by unfold letM; rw [UInt8.toNat_ofNat']; omega
  constructor
  · intro h; rw [h] at e; have : (10 : UInt8).toNat = 10 := rfl; omega
  · intro h; rw [h] at e; have : (46 : UInt8).toNat = 46 := rfl; omega
theorem pos_parts (f : Nat → Int × Int) (m k : Nat) (hk : k < m) : ((hi f m).2 - (f k).2).toNat < hei f m ∧ ((f k).1 - (lo f m).1).toNat < wid f m := by
  have h1 := lo_le f m k hk
  have h2 := hi_ge f m k hk
  unfold hei wid
  omega
theorem sheet_rows (f : Nat → Int × Int) (m : Nat) : ∀ k, k ≤ m → RowsOf (wid f m) (hei f m) (sheetM f m k)
  | 0, _ => by rw [sheetM]; exact rows_start _ _
  | k + 1, h => by
    have hp := pos_parts f m k (by omega)
    rw [sheetM]
    exact (sheet_rows f m k (by omega)).set _ _ hp.1 hp.2 _ (let_ne k).1
/-- Unlike places lie at unlike spots. -/
theorem pos_inj (f : Nat → Int × Int) (m i j : Nat) (hi' : i < m) (hj : j < m) (h : posM f m i = posM f m j) : f i = f j := by
  have h1 := lo_le f m i hi'
  have h2 := hi_ge f m i hi'
  have h3 := lo_le f m j hj
  have h4 := hi_ge f m j hj
  have p1 := pos_parts f m i hi'
  have p2 := pos_parts f m j hj
  unfold posM at h
  have hd : ((hi f m).2 - (f i).2).toNat = ((hi f m).2 - (f j).2).toNat := by
    have a : (((f i).1 - (lo f m).1).toNat + ((hi f m).2 - (f i).2).toNat * (wid f m + 1)) / (wid f m + 1) = (((f j).1 - (lo f m).1).toNat + ((hi f m).2 - (f j).2).toNat * (wid f m + 1)) / (wid f m + 1) := by rw [Nat.add_comm, h, Nat.add_comm]
    rw [Nat.add_mul_div_right _ _ (by omega), Nat.add_mul_div_right _ _ (by omega), Nat.div_eq_of_lt (by omega), Nat.div_eq_of_lt (by omega)] at a
    omega
  rw [hd] at h
  have e1 : (f i).1 = (f j).1 := by omega
  have e2 : (f i).2 = (f j).2 := by omega
  exact Prod.ext e1 e2
theorem sheet_at (f : Nat → Int × Int) (m j : Nat) : ∀ k, (∀ i, i < k → posM f m i ≠ j) → (sheetM f m k)[j]? = (sheetM f m 0)[j]?
  | 0, _ => rfl
  | k + 1, h => by
    show ((sheetM f m k).set (posM f m k) (letM k))[j]? = _
    rw [List.getElem?_set_ne (h k (by omega))]
    exact sheet_at f m j k (fun i hi => h i (by omega))
theorem sheet_zero (f : Nat → Int × Int) (m k : Nat) (hk : k < m) : (sheetM f m 0)[posM f m k]? = some 46 := by
  have hp := pos_lt f m k hk
  have h2 := pos_parts f m k hk
  rw [sheetM, repL_at _ (by rw [rowM_len]; omega) _ _ (by rw [rowM_len]; exact hp), rowM_len]
  have e : posM f m k % (wid f m + 1) = ((f k).1 - (lo f m).1).toNat := by
    unfold posM
    rw [Nat.mul_comm, Nat.mul_add_mod, Nat.mod_eq_of_lt (by omega)]
  rw [e]
  unfold rowM
  rw [List.getElem?_append_left (by simpa using h2.2), List.getElem?_replicate, if_pos h2.2]
theorem count_start (wd n : Nat) : (repL (rowM wd) n).count 46 = n * wd ∧ (repL (rowM wd) n).count 10 = n := by
  induction n with
  | zero => simp [repL]
  | succ n ih =>
    unfold repL at *
    rw [List.replicate_succ, List.flatten_cons, List.count_append, List.count_append, ih.1, ih.2]
    unfold rowM
    rw [List.count_append, List.count_append, List.count_replicate, List.count_replicate, Nat.succ_mul]
    simp
    omega
theorem sheet_count (f : Nat → Int × Int) (m : Nat) (hinj : ∀ i j, i < m → j < m → f i = f j → i = j) : ∀ k, k ≤ m → (sheetM f m k).count 46 + k = hei f m * wid f m ∧ (sheetM f m k).count 10 = hei f m
  | 0, _ => by rw [sheetM]; have := count_start (wid f m) (hei f m); omega
  | k + 1, h => by
    have ih := sheet_count f m hinj k (by omega)
    have hp := pos_lt f m k (by omega)
    have hl := sheetM_len f m k
    have hold : (sheetM f m k)[posM f m k]? = some 46 := by
      rw [sheet_at f m _ k (fun i hi e => by
        have := hinj i k (by omega) (by omega) (pos_inj f m i k (by omega) (by omega) e)
        omega)]
      exact sheet_zero f m k (by omega)
    have hlt : posM f m k < (sheetM f m k).length := by omega
    rw [List.getElem?_eq_getElem hlt] at hold
    injection hold with hold
    have n1 := let_ne k
    have pos46 : 0 < (sheetM f m k).count 46 := List.count_pos_iff.2 (by rw [← hold]; exact List.getElem_mem _)
    rw [sheetM, List.count_set (h := hlt), List.count_set (h := hlt), hold]
    have a1 : (letM k == 46) = false := by simp [n1.2]
    have a2 : (letM k == 10) = false := by simp [n1.1]
    have a3 : ((46 : UInt8) == 10) = false := by decide
    simp [a1, a2, a3, n1.1, n1.2]
    omega
/-- The spiral's places are unlike. -/
theorem pl_nodup : ((List.range 100).map pl).Nodup := by decide +kernel
theorem pl_inj (i j : Nat) (hi : i < 100) (hj : j < 100) (h : pl i = pl j) : i = j := by
  have h1 := List.pairwise_iff_getElem.1 pl_nodup
  rcases Nat.lt_trichotomy i j with c | c | c
  · have := h1 i j (by simpa using hi) (by simpa using hj) c
    simp at this
    exact absurd h this
  · exact c
  · have := h1 j i (by simpa using hj) (by simpa using hi) c
    simp at this
    exact absurd h.symm this
theorem tuP_inj : ∀ (r : Nat) (p q : Int × Int), tuP r p = tuP r q → p = q
  | 0, p, q, h => h
  | r + 1, p, q, h => by
    have h1 := congrArg Prod.fst h
    have h2 := congrArg Prod.snd h
    simp only [tuP] at h1 h2
    exact tuP_inj r p q (Prod.ext h2 (by omega))
end Go.Proofs.YtcbflglnadmmfaaDoor
