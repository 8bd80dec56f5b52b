/-
  The keys of a state's maps, sorted.
-/
import Derived.Test.YtjeheknhpfkaiaaDoorTt1
import Derived.Test.YtjeheknhpfkaiaaDoorSh2
import Derived.Test.YtjeheknhpfkaiaaDoorM9
namespace Go.Proofs.YtjeheknhpfkaiaaDoor
set_option linter.unusedVariables false
set_option linter.unusedSimpArgs false
open Go.RowKit Go.Lib Go.Maps Go.Sort

theorem lt_of_le_ne {a b : Bs} (h : a ≤ b) (hne : a ≠ b) : a < b := by
  apply Classical.byContradiction
  intro c
  exact hne (List.le_antisymm h (List.not_lt.1 c))
/-- A map, and its keys, sorted. -/
def KM (w : World) (b n : Nat) (f : Value → Option Value) (ks : List Bs) : Prop :=
  ∃ D : DataW Value, w.ownsMap Tryd.prog 9 rawR b n D ∧ (∀ key k, keyOf Tryd.prog 9 key = some k → ∀ zd, D.atKey k zd = ((f key).map DataW.held).getD zd) ∧ ks = (strKeys D).mergeSort leB
theorem KM.of {w : World} {b n : Nat} {f : Value → Option Value} (h : MapV w Tryd.prog 9 b n f) : ∃ ks, KM w b n f ks := by
  obtain ⟨D, h1, h2⟩ := h
  exact ⟨_, D, h1, h2, rfl⟩
theorem KM.same {w w' : World} {b n : Nat} {f : Value → Option Value} {ks : List Bs} (h : KM w b n f ks) (hb : w'.heap[b]? = w.heap[b]?) : KM w' b n f ks := by
  obtain ⟨D, ⟨es, clock, q1, q2, q3, q4⟩, h2, h3⟩ := h
  exact ⟨D, ⟨es, clock, hb.trans q1, q2, q3, q4⟩, h2, h3⟩
theorem KM.is {w : World} {b n : Nat} {f : Value → Option Value} {ks : List Bs} (h : KM w b n f ks) : Ris ks ∧ (∀ x, x ∈ ks ↔ x.length ≤ maxLen ∧ (f (.string (ba x))).isSome = true) ∧ ks.length ≤ n := by
  obtain ⟨D, hown, hD, rfl⟩ := h
  obtain ⟨es, hDe, hpw, _⟩ := hown.entries keys9
  obtain ⟨es', hDe', hko⟩ := hown.keysOf
  obtain rfl : es = es' := by rw [hDe] at hDe'; simpa using hDe'
  have hstr : ∀ p ∈ es, ∃ x, p.1 = .string x ∧ x.length ≤ maxLen := fun p hp => by
    obtain ⟨v, hv⟩ := hko p hp
    obtain ⟨x, _, hx, hl⟩ := Maps.keyOf_str Tryd.underlying9 hv
    exact ⟨x, hx, hl⟩
  have hnd : (strKeys D).Nodup := by
    subst hDe
    show (es.map fun p => strOf p.1).Nodup
    refine List.pairwise_map.2 (hpw.imp_of_mem fun {p q} hp' hq' hne e => hne ?_)
    obtain ⟨a, ha, _⟩ := hstr p hp'
    obtain ⟨b, hb, _⟩ := hstr q hq'
    rw [ha, hb] at e ⊢
    exact congrArg _ e
  have hmem : ∀ x, x ∈ strKeys D ↔ has D (.string x) = true := fun x => by
    subst hDe
    rw [has_eq, List.any_eq_true]
    show x ∈ es.map (fun p => strOf p.1) ↔ _
    rw [List.mem_map]
    constructor
    · rintro ⟨p, hp', rfl⟩
      obtain ⟨a, ha, _⟩ := hstr p hp'
      exact ⟨p, hp', by rw [ha]; simp [Lit.sameKey, strOf]⟩
    · rintro ⟨p, hp', hs⟩
      obtain ⟨a, ha, _⟩ := hstr p hp'
      rw [ha] at hs
      exact ⟨p, hp', by rw [ha]; simpa [Lit.sameKey, strOf] using hs⟩
  have tr : ∀ a b c : Bs, leB a b = true → leB b c = true → leB a c = true := fun a b c h1 h2 => by simp only [leB, decide_eq_true_eq] at *; exact List.le_trans h1 h2
  have ttl : ∀ a b : Bs, (leB a b || leB b a) = true := fun a b => by simp only [leB, Bool.or_eq_true, decide_eq_true_eq]; exact List.le_total a b
  have hperm := List.mergeSort_perm (strKeys D) leB
  refine ⟨?_, fun x => ?_, ?_⟩
  · have h1 := List.pairwise_mergeSort tr ttl (strKeys D)
    have h2 : ((strKeys D).mergeSort leB).Nodup := hperm.nodup_iff.2 hnd
    refine List.Pairwise.imp ?_ (h1.and h2)
    rintro a b ⟨h3, h4⟩
    simp only [leB, decide_eq_true_eq] at h3
    exact lt_of_le_ne h3 h4
  · rw [hperm.mem_iff, hmem]
    constructor
    · intro hh
      have hl : x.length ≤ maxLen := by
        have := (hmem x).2 hh
        exact strKeys_le hown Tryd.underlying9 x this
      have hat := hD _ _ (key9 (ba x) (by rw [ba_size]; exact hl))
      refine ⟨hl, ?_⟩
      cases hf : f (.string (ba x)) with
      | some v => rfl
      | none =>
        rw [hf] at hat
        have := Maps.has_false_of_atKey hat
        have h9 : has D (.string x) = false := by simpa [ba] using this
        rw [h9] at hh
        cases hh
    · rintro ⟨hl, hs⟩
      have hat := hD _ _ (key9 (ba x) (by rw [ba_size]; exact hl))
      cases hf : f (.string (ba x)) with
      | none => rw [hf] at hs; cases hs
      | some v =>
        rw [hf] at hat
        have := Maps.has_true_of_atKey (y := DataW.held v) hat
        simpa [ba] using this
  · have h1 : Maps.size D ≤ n := size_le hown
    rw [hperm.length_eq]
    subst hDe
    have : Maps.size (DataW.map es) = es.length := Maps.size_eq es
    show (es.map _).length ≤ n
    rw [List.length_map]
    omega
/-- The sorted keys in a row. -/
theorem sortedL_c (b n : Nat) (f : Value → Option Value) (ks : List Bs) (w : World) (m : Nat) (hm : w.heap.size = m) (h : KM w b n f ks) (hn : n ≤ 8796093022208) : Calls Tryd.prog 13 #[.func (.func 29) #[] #[.pointer (some ⟨m, 0, none⟩)]] (w.alloc (.cells #[.map (some b)] 46)) fun e w' => ∃ v, e = .returned v ∧ w'.ownsRow (m + 1) 9 1 v ks.length (ks.map encStr) ∧ Below (m + 1) (w.alloc (.cells #[.map (some b)] 46)) w' := by
  subst hm
  obtain ⟨D, hown, hD, rfl⟩ := h
  have hs : Maps.size D ≤ n := size_le hown
  refine ((callsIn_wide (n := 5)).1 (Tryd.slices_Sorted_keys_13_14 b n D _ w hown (by unfold maxLen; omega) (by omega))).mono ?_
  rintro e w' ⟨v, ss, rfl, hS, hrow, hnil, hb⟩
  rw [alloc_size] at hrow hb
  have e1 : ss.mergeSort leB = (strKeys D).mergeSort leB := mergeSort_of_perm hS
  have e2 : ss.length = ((strKeys D).mergeSort leB).length := by rw [← e1, List.length_mergeSort]
  have e3 : ss.mergeSort (fun x y => decide (x ≤ y)) = (strKeys D).mergeSort leB := e1
  rw [e3, e2] at hrow
  exact ⟨v, rfl, hrow, hb⟩
theorem sortedR_c (b n : Nat) (f : Value → Option Value) (ks : List Bs) (w : World) (m : Nat) (hm : w.heap.size = m) (h : KM w b n f ks) (hn : n ≤ 8796093022208) : Calls Tryd.prog 13 #[.func (.func 32) #[] #[.pointer (some ⟨m, 0, none⟩)]] (w.alloc (.cells #[.map (some b)] 48)) fun e w' => ∃ v, e = .returned v ∧ w'.ownsRow (m + 1) 9 1 v ks.length (ks.map encStr) ∧ Below (m + 1) (w.alloc (.cells #[.map (some b)] 48)) w' := by
  subst hm
  obtain ⟨D, hown, hD, rfl⟩ := h
  have hs : Maps.size D ≤ n := size_le hown
  refine ((callsIn_wide (n := 5)).1 (Tryd.slices_Sorted_keys_13_16 b n D _ w hown (by unfold maxLen; omega) (by omega))).mono ?_
  rintro e w' ⟨v, ss, rfl, hS, hrow, hnil, hb⟩
  rw [alloc_size] at hrow hb
  have e1 : ss.mergeSort leB = (strKeys D).mergeSort leB := mergeSort_of_perm hS
  have e2 : ss.length = ((strKeys D).mergeSort leB).length := by rw [← e1, List.length_mergeSort]
  have e3 : ss.mergeSort (fun x y => decide (x ≤ y)) = (strKeys D).mergeSort leB := e1
  rw [e3, e2] at hrow
  exact ⟨v, rfl, hrow, hb⟩
theorem keysL_c (mb : Option Nat) (W : World) : Calls Tryd.prog 14 #[.map mb] W fun e w' => e = .returned (.func (.func 29) #[] #[.pointer (some ⟨W.heap.size, 0, none⟩)]) ∧ w' = W.alloc (.cells #[.map mb] 46) :=
  (callsIn_wide (n := 5)).1 (Tryd.maps_Keys_14 mb W)
theorem keysR_c (mb : Option Nat) (W : World) : Calls Tryd.prog 16 #[.map mb] W fun e w' => e = .returned (.func (.func 32) #[] #[.pointer (some ⟨W.heap.size, 0, none⟩)]) ∧ w' = W.alloc (.cells #[.map mb] 48) :=
  (callsIn_wide (n := 5)).1 (Tryd.maps_Keys_16 mb W)
/-- A state's two maps and their keys. -/
theorem St.texts {B : Nat} {w : World} {sb lb rb : Nat} {F : Nat → Prop} {n : Nat} {L : List MOp} (h : St B w sb lb rb F n L) (hv : OkV L) : ∃ S fl fr ks rs, Ls B w lb F n (lstM L) S ∧ (∀ s, fl (.string s) = if lstM L s = [] then none else some (S s)) ∧ (∀ s, fr (.string s) = (regM L s).map (fun v => .agg #[.int .i64 v, .bool true])) ∧ KM w lb n fl ks ∧ KM w rb n fr rs ∧ MapV w Tryd.prog 9 lb n fl ∧ MapV w Tryd.prog 9 rb n fr ∧ IsText (lstM L) (regM L) ks rs ∧ ks.length ≤ n ∧ rs.length ≤ n := by
  obtain ⟨S, hS⟩ := h.ls
  obtain ⟨fl, h1, h2⟩ := hS.map
  obtain ⟨fr, h3, h4⟩ := h.rs
  obtain ⟨ks, hk⟩ := KM.of h1
  obtain ⟨rs, hr⟩ := KM.of h3
  obtain ⟨a1, a2, a3⟩ := hk.is
  obtain ⟨b1, b2, b3⟩ := hr.is
  refine ⟨S, fl, fr, ks, rs, hS, h2, h4, hk, hr, h1, h3, ⟨a1, b1, fun k => ?_, fun k => ?_⟩, a3, b3⟩
  · rw [a2, h2]
    constructor
    · rintro ⟨_, q⟩ c
      rw [if_pos c] at q
      cases q
    · intro c
      rw [if_neg c]
      have := lst_key hv _ c
      rw [ba_size] at this
      exact ⟨by unfold maxLen; omega, rfl⟩
  · rw [b2, h4]
    constructor
    · rintro ⟨_, q⟩ c
      rw [c] at q
      cases q
    · intro c
      have := reg_key hv _ c
      rw [ba_size] at this
      refine ⟨by unfold maxLen; omega, ?_⟩
      cases e : regM L (ba k) with
      | none => exact absurd e c
      | some v => rfl
end Go.Proofs.YtjeheknhpfkaiaaDoor
