/-
  Merging in place, plain: exchanges of ranges, rotations, and why the merge of two sorted ranges is sorted.
-/
import Derived.Sort.Lot0
import Derived.Sort.LotA
namespace Go.Proofs.Ytbcegdiabnapkaa
set_option linter.unusedVariables false
set_option linter.unusedSimpArgs false
open Go.Sort (swp swp_left swp_right swp_other size_swp PermIn SortedIn SWO swp_permIn permIn_refl permIn_trans permIn_mono permIn_all)
/-- Not less, by way of another one. -/
theorem nl_trans {β : Type} {lt : β → β → Bool} (hS : SWO lt) {x y z : β} (h1 : lt x y = false) (h2 : lt y z = false) : lt x z = false := hS.ntrans x y z h1 h2
theorem nl_of {β : Type} {lt : β → β → Bool} (hS : SWO lt) {x y : β} (h : lt x y = true) : lt y x = false := by
  cases h2 : lt y x with
  | false => rfl
  | true => have := hS.trans x y x h h2; rw [hS.irrefl] at this; cases this
variable {α : Type} [Inhabited α]

/-- n places from a on and n from b on, exchanged one by one. -/
def swr (d : Array α) (a b : Nat) : Nat → Array α
  | 0 => d
  | n + 1 => swp (swr d a b n) (a + n) (b + n)
theorem swr_size (d : Array α) (a b n : Nat) : (swr d a b n).size = d.size := by
  induction n with
  | zero => rfl
  | succ n ih => rw [swr, size_swp, ih]
theorem swr_at (d : Array α) (a b : Nat) : ∀ (n : Nat) (hab : a + n ≤ b) (hb : b + n ≤ d.size) (x : Nat), (swr d a b n)[x]! = if a ≤ x ∧ x < a + n then d[b + (x - a)]! else if b ≤ x ∧ x < b + n then d[a + (x - b)]! else d[x]!
  | 0, hab, hb, x => by rw [if_neg (by omega), if_neg (by omega)]; rfl
  | n + 1, hab, hb, x => by
    have ih := swr_at d a b n (by omega) (by omega)
    rw [swr]
    by_cases h1 : x = a + n
    · rw [h1, swp_left _ _ _ (by rw [swr_size]; omega) (by omega), ih, if_neg (by omega), if_neg (by omega), if_pos (by omega)]
      congr 1; omega
    · by_cases h2 : x = b + n
      · rw [h2, swp_right _ _ _ (by rw [swr_size]; omega), ih, if_neg (by omega), if_neg (by omega), if_neg (by omega), if_pos (by omega)]
        congr 1; omega
      · rw [swp_other _ _ _ _ h1 h2, ih]
        by_cases h3 : a ≤ x ∧ x < a + n
        · rw [if_pos h3, if_pos (by omega)]
        · rw [if_neg h3, if_neg (show ¬ (a ≤ x ∧ x < a + (n + 1)) by omega)]
          by_cases h4 : b ≤ x ∧ x < b + n
          · rw [if_pos h4, if_pos (show b ≤ x ∧ x < b + (n + 1) by omega)]
          · rw [if_neg h4, if_neg (show ¬ (b ≤ x ∧ x < b + (n + 1)) by omega)]
theorem swr_perm (d : Array α) (a b lo hi : Nat) : ∀ (n : Nat), lo ≤ a → a + n ≤ hi → lo ≤ b → b + n ≤ hi → hi ≤ d.size → PermIn lo hi d (swr d a b n)
  | 0, _, _, _, _, _ => permIn_refl _ _ _
  | n + 1, h1, h2, h3, h4, h5 => permIn_trans _ _ _ _ _ (swr_perm d a b lo hi n h1 (by omega) h3 (by omega) h5) (swp_permIn _ _ _ _ _ (by omega) (by omega) (by omega) (by omega) (by rw [swr_size]; exact h5))

/-- What stands at x when the places from a to m and those from m to b have changed sides. -/
def rotV (d : Array α) (a m b x : Nat) : α := if x < a ∨ b ≤ x then d[x]! else if x < a + (b - m) then d[x - a + m]! else d[x - (b - m)]!
theorem rot_left (d : Array α) (m i j : Nat) (hj : 0 < j) (hij : j < i) (him : i ≤ m) (hb : m + j ≤ d.size) (x : Nat) : rotV (swr d (m - i) m j) (m - (i - j)) m (m + j) x = rotV d (m - i) m (m + j) x := by
  have h := swr_at d (m - i) m j (by omega) (by omega)
  unfold rotV
  by_cases h1 : x < m - i ∨ m + j ≤ x
  · rw [if_pos (show x < m - (i - j) ∨ m + j ≤ x by omega), if_pos h1, h, if_neg (by omega), if_neg (by omega)]
  · rw [if_neg h1]
    by_cases h2 : x < m - i + (m + j - m)
    · rw [if_pos h2, if_pos (show x < m - (i - j) ∨ m + j ≤ x by omega), h, if_pos (by omega)]
      congr 1; omega
    · rw [if_neg h2, if_neg (show ¬ (x < m - (i - j) ∨ m + j ≤ x) by omega)]
      by_cases h3 : x < m - (i - j) + (m + j - m)
      · rw [if_pos h3, h, if_neg (by omega), if_pos (by omega)]
        congr 1; omega
      · rw [if_neg h3, h, if_neg (by omega), if_neg (by omega)]
theorem rot_right (d : Array α) (m i j : Nat) (hi : 0 < i) (hij : i < j) (him : i ≤ m) (hb : m + j ≤ d.size) (x : Nat) : rotV (swr d (m - i) (m + j - i) i) (m - i) m (m + (j - i)) x = rotV d (m - i) m (m + j) x := by
  have h := swr_at d (m - i) (m + j - i) i (by omega) (by omega)
  unfold rotV
  by_cases h1 : x < m - i ∨ m + j ≤ x
  · rw [if_pos (show x < m - i ∨ m + (j - i) ≤ x by omega), if_pos h1, h, if_neg (by omega), if_neg (by omega)]
  · rw [if_neg h1]
    by_cases h2 : x < m - i + (m + j - m)
    · rw [if_pos h2, if_neg (show ¬ (x < m - i ∨ m + (j - i) ≤ x) by omega)]
      by_cases h3 : x < m - i + (m + (j - i) - m)
      · rw [if_pos h3, h, if_neg (by omega), if_neg (by omega)]
      · rw [if_neg h3, h, if_pos (by omega)]
        congr 1; omega
    · rw [if_neg h2, if_pos (show x < m - i ∨ m + (j - i) ≤ x by omega), h, if_neg (by omega), if_pos (by omega)]
      congr 1; omega
theorem rot_end (d : Array α) (m i : Nat) (him : i ≤ m) (hb : m + i ≤ d.size) (x : Nat) : (swr d (m - i) m i)[x]! = rotV d (m - i) m (m + i) x := by
  have h := swr_at d (m - i) m i (by omega) (by omega) x
  rw [h]
  unfold rotV
  by_cases h1 : x < m - i ∨ m + i ≤ x
  · rw [if_pos h1, if_neg (by omega), if_neg (by omega)]
  · rw [if_neg h1]
    by_cases h2 : x < m - i + (m + i - m)
    · rw [if_pos h2, if_pos (by omega)]
      congr 1; omega
    · rw [if_neg h2, if_neg (by omega), if_pos (by omega)]
      congr 1; omega
/-- One step of a place to the right. -/
theorem rot_up (d dk : Array α) (a k : Nat) (hk : a ≤ k) (hs : dk.size = d.size) (hb : k + 1 < d.size) (h : ∀ x, dk[x]! = rotV d a (a + 1) (k + 1) x) (x : Nat) : (swp dk k (k + 1))[x]! = rotV d a (a + 1) (k + 2) x := by
  by_cases h1 : x = k
  · rw [h1, swp_left _ _ _ (by omega) (by omega), h]
    unfold rotV
    rw [if_pos (by omega), if_neg (by omega), if_pos (by omega)]
    congr 1; omega
  · by_cases h2 : x = k + 1
    · rw [h2, swp_right _ _ _ (by omega), h]
      unfold rotV
      rw [if_neg (by omega), if_neg (by omega), if_neg (by omega), if_neg (by omega)]
      congr 1; omega
    · rw [swp_other _ _ _ _ h1 h2, h]
      unfold rotV
      by_cases h3 : x < a ∨ k + 1 ≤ x
      · rw [if_pos h3, if_pos (by omega)]
      · rw [if_neg h3, if_pos (show x < a + (k + 1 - (a + 1)) by omega), if_neg (show ¬ (x < a ∨ k + 2 ≤ x) by omega), if_pos (show x < a + (k + 2 - (a + 1)) by omega)]
/-- .. and to the left. -/
theorem rot_down (d dk : Array α) (m k : Nat) (hk : k < m) (hs : dk.size = d.size) (hb : m < d.size) (h : ∀ x, dk[x]! = rotV d (k + 1) m (m + 1) x) (x : Nat) : (swp dk (k + 1) k)[x]! = rotV d k m (m + 1) x := by
  by_cases h1 : x = k + 1
  · rw [h1, swp_left _ _ _ (by omega) (by omega), h]
    unfold rotV
    rw [if_pos (by omega), if_neg (by omega), if_neg (by omega)]
    congr 1; omega
  · by_cases h2 : x = k
    · rw [h2, swp_right _ _ _ (by omega), h]
      unfold rotV
      rw [if_neg (by omega), if_pos (by omega), if_neg (by omega), if_pos (by omega)]
      congr 1; omega
    · rw [swp_other _ _ _ _ h1 h2, h]
      unfold rotV
      by_cases h3 : x < k + 1 ∨ m + 1 ≤ x
      · rw [if_pos h3, if_pos (by omega)]
      · rw [if_neg h3, if_neg (by omega), if_neg (by omega), if_neg (by omega)]
theorem rot_none (d : Array α) (a x : Nat) : rotV d a (a + 1) (a + 1) x = d[x]! := by
  unfold rotV
  by_cases h : x < a ∨ a + 1 ≤ x
  · rw [if_pos h]
  · rw [if_neg h, if_neg (by omega)]; congr 1; omega
theorem rot_none2 (d : Array α) (m x : Nat) : rotV d m m (m + 1) x = d[x]! := by
  unfold rotV
  by_cases h : x < m ∨ m + 1 ≤ x
  · rw [if_pos h]
  · rw [if_neg h, if_pos (by omega)]; congr 1; omega
/-- Nothing to rotate. -/
theorem rot_stay (d : Array α) (s m e : Nat) (h : ¬ (s < m ∧ m < e)) (h1 : s ≤ m) (h2 : m ≤ e) (x : Nat) : d[x]! = rotV d s m e x := by
  unfold rotV
  by_cases h3 : x < s ∨ e ≤ x
  · rw [if_pos h3]
  · rw [if_neg h3]
    by_cases h4 : x < s + (e - m)
    · rw [if_pos h4]; congr 1; omega
    · rw [if_neg h4]; congr 1; omega

section
variable {lt : α → α → Bool}
/-- In a sorted range a later one is not less, the same one neither. -/
theorem SortedIn.le (hS : SWO lt) {a b : Nat} {d : Array α} (h : SortedIn lt a b d) {i j : Nat} (h1 : a ≤ i) (h2 : i ≤ j) (h3 : j < b) : lt d[j]! d[i]! = false := by
  rcases Nat.lt_or_eq_of_le h2 with h4 | h4
  · exact h i j h1 h4 h3
  · subst h4; exact hS.irrefl _

/-- One element into a sorted range behind it. -/
theorem ins_left (hS : SWO lt) {a b i : Nat} {d d' : Array α} (hs : SortedIn lt (a + 1) b d) (hi : a + 1 ≤ i) (hib : i ≤ b) (h1 : i = a + 1 ∨ lt d[i - 1]! d[a]! = true) (h2 : i = b ∨ lt d[i]! d[a]! = false) (hd : ∀ x, d'[x]! = rotV d a (a + 1) i x) : SortedIn lt a b d' := by
  have lo : ∀ t, a + 1 ≤ t → t < i → lt d[a]! d[t]! = false := fun t h3 h4 => by
    rcases h1 with h1 | h1
    · omega
    · exact nl_trans hS (nl_of hS h1) (SortedIn.le hS hs h3 (show t ≤ i - 1 by omega) (by omega))
  have hi' : ∀ t, i ≤ t → t < b → lt d[t]! d[a]! = false := fun t h3 h4 => by
    rcases h2 with h2 | h2
    · omega
    · exact nl_trans hS (SortedIn.le hS hs (by omega) h3 h4) h2
  intro x y hx hxy hy
  rw [hd, hd]
  unfold rotV
  by_cases c1 : x < i - 1
  · rw [if_neg (show ¬ (x < a ∨ i ≤ x) by omega), if_pos (show x < a + (i - (a + 1)) by omega)]
    by_cases c2 : y < i - 1
    · rw [if_neg (by omega), if_pos (by omega)]
      exact hs _ _ (by omega) (by omega) (by omega)
    · by_cases c3 : y = i - 1
      · rw [if_neg (by omega), if_neg (by omega)]
        have : y - (i - (a + 1)) = a := by omega
        rw [this]
        exact lo _ (by omega) (by omega)
      · rw [if_pos (by omega)]
        exact hs _ _ (by omega) (by omega) (by omega)
  · by_cases c2 : x = i - 1
    · rw [if_neg (show ¬ (x < a ∨ i ≤ x) by omega), if_neg (show ¬ x < a + (i - (a + 1)) by omega), if_pos (by omega)]
      have : x - (i - (a + 1)) = a := by omega
      rw [this]
      exact hi' _ (by omega) (by omega)
    · rw [if_pos (show x < a ∨ i ≤ x by omega), if_pos (by omega)]
      exact hs _ _ (by omega) (by omega) (by omega)
/-- One element into a sorted range ahead of it. -/
theorem ins_right (hS : SWO lt) {a m i : Nat} {d d' : Array α} (hs : SortedIn lt a m d) (hi : a ≤ i) (him : i ≤ m) (h1 : i = a ∨ lt d[m]! d[i - 1]! = false) (h2 : i = m ∨ lt d[m]! d[i]! = true) (hd : ∀ x, d'[x]! = rotV d i m (m + 1) x) : SortedIn lt a (m + 1) d' := by
  have lo : ∀ t, a ≤ t → t < i → lt d[m]! d[t]! = false := fun t h3 h4 => by
    rcases h1 with h1 | h1
    · omega
    · exact nl_trans hS h1 (SortedIn.le hS hs h3 (show t ≤ i - 1 by omega) (by omega))
  have hi' : ∀ t, i ≤ t → t < m → lt d[t]! d[m]! = false := fun t h3 h4 => by
    rcases h2 with h2 | h2
    · omega
    · exact nl_trans hS (SortedIn.le hS hs (by omega) h3 h4) (nl_of hS h2)
  intro x y hx hxy hy
  rw [hd, hd]
  unfold rotV
  by_cases c1 : x < i
  · rw [if_pos (show x < i ∨ m + 1 ≤ x by omega)]
    by_cases c2 : y < i
    · rw [if_pos (by omega)]
      exact hs _ _ (by omega) (by omega) (by omega)
    · by_cases c3 : y = i
      · rw [if_neg (by omega), if_pos (by omega)]
        have : y - i + m = m := by omega
        rw [this]
        exact lo _ (by omega) (by omega)
      · rw [if_neg (by omega), if_neg (by omega)]
        exact hs _ _ (by omega) (by omega) (by omega)
  · by_cases c2 : x = i
    · rw [if_neg (show ¬ (x < i ∨ m + 1 ≤ x) by omega), if_pos (show x < i + (m + 1 - m) by omega), if_neg (by omega), if_neg (by omega)]
      have : x - i + m = m := by omega
      rw [this]
      exact hi' _ (by omega) (by omega)
    · rw [if_neg (show ¬ (x < i ∨ m + 1 ≤ x) by omega), if_neg (show ¬ x < i + (m + 1 - m) by omega), if_neg (by omega), if_neg (by omega)]
      exact hs _ _ (by omega) (by omega) (by omega)

/-- What the rotation leaves: four sorted ranges, and the left half not above the right one. -/
theorem sym_halves (hS : SWO lt) {a m b s e mid : Nat} {d d1 : Array α} (h1 : SortedIn lt a m d) (h2 : SortedIn lt m b d) (has : a ≤ s) (hsm : s ≤ m) (hme : m ≤ e) (heb : e ≤ b) (hmid : s + (e - m) = mid)
    (hF : s = a ∨ e = b ∨ lt d[e]! d[s - 1]! = false) (hT : s = m ∨ e = m ∨ lt d[e - 1]! d[s]! = true) (hd : ∀ x, d1[x]! = rotV d s m e x) :
    SortedIn lt a s d1 ∧ SortedIn lt s mid d1 ∧ SortedIn lt mid e d1 ∧ SortedIn lt e b d1 ∧ ∀ i j, a ≤ i → i < mid → mid ≤ j → j < b → lt d1[j]! d1[i]! = false := by
  have eA : ∀ x, x < s → d1[x]! = d[x]! := fun x hx => by rw [hd]; unfold rotV; rw [if_pos (by omega)]
  have eB : ∀ x, s ≤ x → x < mid → d1[x]! = d[x - s + m]! := fun x h3 h4 => by rw [hd]; unfold rotV; rw [if_neg (by omega), if_pos (by omega)]
  have eC : ∀ x, mid ≤ x → x < e → d1[x]! = d[x - (e - m)]! := fun x h3 h4 => by rw [hd]; unfold rotV; rw [if_neg (by omega), if_neg (by omega)]
  have eD : ∀ x, e ≤ x → d1[x]! = d[x]! := fun x h3 => by rw [hd]; unfold rotV; rw [if_pos (by omega)]
  refine ⟨fun i j h3 h4 h5 => ?_, fun i j h3 h4 h5 => ?_, fun i j h3 h4 h5 => ?_, fun i j h3 h4 h5 => ?_, fun i j h3 h4 h5 h6 => ?_⟩
  · rw [eA i (by omega), eA j (by omega)]; exact h1 i j h3 h4 (by omega)
  · rw [eB i (by omega) (by omega), eB j (by omega) (by omega)]; exact h2 _ _ (by omega) (by omega) (by omega)
  · rw [eC i (by omega) (by omega), eC j (by omega) (by omega)]; exact h1 _ _ (by omega) (by omega) (by omega)
  · rw [eD i (by omega), eD j (by omega)]; exact h2 _ _ (by omega) (by omega) (by omega)
  · by_cases c1 : i < s
    · rw [eA i c1]
      by_cases c2 : j < e
      · rw [eC j h5 c2]; exact h1 _ _ h3 (by omega) (by omega)
      · rw [eD j (by omega)]
        rcases hF with hF | hF | hF
        · omega
        · omega
        · exact nl_trans hS (SortedIn.le hS h2 (by omega) (show e ≤ j by omega) h6) (nl_trans hS hF (SortedIn.le hS h1 h3 (show i ≤ s - 1 by omega) (by omega)))
    · rw [eB i (by omega) h4]
      by_cases c2 : j < e
      · rw [eC j h5 c2]
        rcases hT with hT | hT | hT
        · omega
        · omega
        · exact nl_trans hS (SortedIn.le hS h1 (by omega) (show s ≤ j - (e - m) by omega) (by omega)) (nl_trans hS (nl_of hS hT) (SortedIn.le hS h2 (by omega) (show i - s + m ≤ e - 1 by omega) (by omega)))
      · rw [eD j (by omega)]
        exact SortedIn.le hS h2 (by omega) (by omega) h6
/-- Both halves sorted by themselves: all is. -/
theorem sym_join {a mid b : Nat} {d1 d2 d3 : Array α} (hb : b ≤ d1.size) (ham : a ≤ mid) (hmb : mid ≤ b) (hx : ∀ i j, a ≤ i → i < mid → mid ≤ j → j < b → lt d1[j]! d1[i]! = false)
    (p2 : PermIn a mid d1 d2) (s2 : SortedIn lt a mid d2) (p3 : PermIn mid b d2 d3) (s3 : SortedIn lt mid b d3) : PermIn a b d1 d3 ∧ SortedIn lt a b d3 := by
  have z2 : d2.size = d1.size := p2.1
  have c2 : ∀ i, a ≤ i → i < mid → ∀ j, mid ≤ j → j < b → lt d1[j]! d2[i]! = false := permIn_all d1 d2 a mid (fun x => ∀ j, mid ≤ j → j < b → lt d1[j]! x = false) (by omega) p2 (fun i h1 h2 j h3 h4 => hx i j h1 h2 h3 h4)
  have c3 : ∀ j, mid ≤ j → j < b → ∀ i, a ≤ i → i < mid → lt d3[j]! d2[i]! = false := permIn_all d2 d3 mid b (fun y => ∀ i, a ≤ i → i < mid → lt y d2[i]! = false) (by omega) p3 (fun j h3 h4 i h1 h2 => by rw [p2.2.1 j (by omega)]; exact c2 i h1 h2 j h3 h4)
  refine ⟨permIn_trans _ _ _ _ _ (permIn_mono _ _ _ _ _ _ (Nat.le_refl _) hmb hb p2) (permIn_mono _ _ _ _ _ _ ham (Nat.le_refl _) (by omega) p3), fun i j h1 h2 h3 => ?_⟩
  by_cases c : j < mid
  · rw [p3.2.1 i (by omega), p3.2.1 j (by omega)]
    exact s2 i j h1 h2 c
  · by_cases c4 : mid ≤ i
    · exact s3 i j c4 h2 h3
    · rw [p3.2.1 i (by omega)]
      exact c3 j (by omega) h3 i h1 (by omega)
end
end Go.Proofs.Ytbcegdiabnapkaa
