/-
  The text of a state, plain: a line for each list and for each register, by their keys; which states have one text.
-/
import Derived.Test.YtjeheknhpfkaiaaDoorMp
import Derived.Lib.ItoaMem
import Derived.Sort.KeysCollected
namespace Go.Proofs.YtjeheknhpfkaiaaDoor
set_option linter.unusedVariables false
set_option linter.unusedSimpArgs false

abbrev Bs := List UInt8
/-- Strictly rising. -/
abbrev Ris (l : List Bs) : Prop := l.Pairwise (· < ·)

/-- What digits spell. -/
def valD (l : Bs) : Nat := l.foldl (fun a b => a * 10 + (b.toNat - 48)) 0
theorem valD_snoc (l : Bs) (b : UInt8) : valD (l ++ [b]) = valD l * 10 + (b.toNat - 48) := by simp [valD, List.foldl_append]
theorem dig_val (u : Nat) : valD (Lib.decDigits u) = u ∧ ∀ c ∈ Lib.decDigits u, 48 ≤ c.toNat ∧ c.toNat ≤ 57 := by
  induction u using Nat.strongRecOn with
  | _ u ih =>
    by_cases h : u < 10
    · rw [Lib.decDigits_one h]
      have e : (UInt8.ofNat (48 + u)).toNat = 48 + u := by rw [UInt8.toNat_ofNat']; omega
      refine ⟨?_, fun c hc => ?_⟩
      · simp only [valD, List.foldl_cons, List.foldl_nil, e]; omega
      · obtain rfl : c = UInt8.ofNat (48 + u) := by simpa using hc
        rw [e]; omega
    · obtain ⟨h1, h2⟩ := ih (u / 10) (by omega)
      have e : (UInt8.ofNat (48 + u % 10)).toNat = 48 + u % 10 := by rw [UInt8.toNat_ofNat']; omega
      rw [Lib.decDigits, dif_neg h]
      refine ⟨?_, fun c hc => ?_⟩
      · rw [valD_snoc, h1, e]; omega
      · rcases List.mem_append.1 hc with hc | hc
        · exact h2 c hc
        · obtain rfl : c = UInt8.ofNat (48 + u % 10) := by simpa using hc
          rw [e]; omega
theorem dig_inj {u v : Nat} (h : Lib.decDigits u = Lib.decDigits v) : u = v := by
  rw [← (dig_val u).1, ← (dig_val v).1, h]
/-- No blank and no line's end. -/
def endB (c : UInt8) : Prop := c = 32 ∨ c = 10
theorem itoa_plain (n : Int) : ∀ c ∈ Lib.itoa n, ¬ endB c := by
  have hd : ∀ u, ∀ c ∈ Lib.decDigits u, ¬ endB c := fun u c hc e => by
    have := (dig_val u).2 c hc
    rcases e with rfl | rfl
    · exact absurd this.1 (by decide)
    · exact absurd this.1 (by decide)
  intro c hc
  unfold Lib.itoa at hc
  split at hc
  · rcases List.mem_cons.1 hc with rfl | hc
    · intro e; rcases e with e | e <;> exact absurd e (by decide)
    · exact hd _ c hc
  · exact hd _ c hc
theorem itoa_inj {n m : Int} (h : Lib.itoa n = Lib.itoa m) : n = m := by
  have no45 : ∀ u (l : Bs), (45 : UInt8) :: l ≠ Lib.decDigits u := fun u l e => by
    have := (dig_val u).2 45 (by rw [← e]; simp)
    exact absurd this.1 (by decide)
  unfold Lib.itoa at h
  by_cases hn : n < 0 <;> by_cases hm : m < 0
  · rw [if_pos hn, if_pos hm] at h
    injection h with _ h
    have := dig_inj h
    omega
  · rw [if_pos hn, if_neg hm] at h
    exact absurd h (no45 _ _)
  · rw [if_neg hn, if_pos hm] at h
    exact absurd h.symm (no45 _ _)
  · rw [if_neg hn, if_neg hm] at h
    have := dig_inj h
    omega
theorem dig_len (u : Nat) : ∀ f, u < 10 ^ (f + 1) → (Lib.decDigits u).length ≤ f + 1 := by
  induction u using Nat.strongRecOn with
  | _ u ih =>
    intro f hf
    by_cases h : u < 10
    · rw [Lib.decDigits_one h]; simp
    · rw [Lib.decDigits, dif_neg h, List.length_append]
      cases f with
      | zero => simp at hf; omega
      | succ f =>
        have := ih (u / 10) (by omega) f (by rw [Nat.pow_succ] at hf; omega)
        simp; omega
theorem itoa_len {n : Int} (h0 : -9223372036854775808 ≤ n) (h1 : n ≤ 9223372036854775807) : (Lib.itoa n).length ≤ 20 := by
  unfold Lib.itoa
  split
  · have := dig_len n.natAbs 18 (by omega)
    simp; omega
  · have := dig_len n.toNat 18 (by omega)
    omega

/-- Two texts that are cut at the first blank or line's end. -/
theorem cut_eq : ∀ {a b : Bs} {x y : UInt8} {r r' : Bs}, (∀ c ∈ a, ¬ endB c) → (∀ c ∈ b, ¬ endB c) → endB x → endB y → a ++ x :: r = b ++ y :: r' → a = b ∧ x = y ∧ r = r'
  | [], [], x, y, r, r', _, _, _, _, h => by
    simp only [List.nil_append] at h
    injection h with h1 h2
    exact ⟨rfl, h1, h2⟩
  | [], b :: bs, x, y, r, r', _, hb, hx, _, h => by
    simp only [List.nil_append, List.cons_append] at h
    injection h with h1 h2
    exact absurd (h1 ▸ hx) (hb b (by simp))
  | a :: as, [], x, y, r, r', ha, _, _, hy, h => by
    simp only [List.nil_append, List.cons_append] at h
    injection h with h1 h2
    exact absurd (h1 ▸ hy) (ha a (by simp))
  | a :: as, b :: bs, x, y, r, r', ha, hb, hx, hy, h => by
    simp only [List.cons_append] at h
    injection h with h1 h2
    obtain ⟨e1, e2, e3⟩ := cut_eq (fun c hc => ha c (by simp [hc])) (fun c hc => hb c (by simp [hc])) hx hy h2
    exact ⟨by rw [h1, e1], e2, e3⟩
/-- The values of a line. -/
def valsM (vs : List Int) : Bs := (vs.map fun v => 32 :: Lib.itoa v).flatten
theorem vals_eq : ∀ {vs vs' : List Int} {r r' : Bs}, valsM vs ++ 10 :: r = valsM vs' ++ 10 :: r' → vs = vs' ∧ r = r'
  | [], [], r, r', h => by
    simp [valsM] at h
    exact ⟨rfl, h⟩
  | [], v :: vs, r, r', h => by simp [valsM] at h
  | v :: vs, [], r, r', h => by simp [valsM] at h
  | v :: vs, u :: us, r, r', h => by
    have e : ∀ (v : Int) (vs : List Int) (r : Bs), valsM (v :: vs) ++ 10 :: r = 32 :: (Lib.itoa v ++ (valsM vs ++ 10 :: r)) := fun v vs r => by simp [valsM]
    rw [e, e] at h
    injection h with _ h
    have hs : ∀ (vs : List Int) (r : Bs), ∃ x q, endB x ∧ valsM vs ++ 10 :: r = x :: q := fun vs r => by
      cases vs with
      | nil => exact ⟨10, r, .inr rfl, rfl⟩
      | cons v vs => exact ⟨32, _, .inl rfl, e v vs r⟩
    obtain ⟨x, q, hx, ex⟩ := hs vs r
    obtain ⟨y, q', hy, ey⟩ := hs us r'
    rw [ex, ey] at h
    obtain ⟨h1, h2, h3⟩ := cut_eq (itoa_plain v) (itoa_plain u) hx hy h
    obtain ⟨h4, h5⟩ := vals_eq (show valsM vs ++ 10 :: r = valsM us ++ 10 :: r' by rw [ex, ey, h2, h3])
    exact ⟨by rw [itoa_inj h1, h4], h5⟩
/-- A line: what it is, its key, its values. -/
def lineM (kd key : Bs) (vs : List Int) : Bs := (kd ++ 32 :: (Lib.itoa key.length ++ 32 :: key)) ++ valsM vs ++ [10]
theorem line_eq {kd kd' key key' : Bs} {vs vs' : List Int} {r r' : Bs} (hk : ∀ c ∈ kd, ¬ endB c) (hk' : ∀ c ∈ kd', ¬ endB c) (h : lineM kd key vs ++ r = lineM kd' key' vs' ++ r') : kd = kd' ∧ key = key' ∧ vs = vs' ∧ r = r' := by
  unfold lineM at h
  simp only [List.append_assoc, List.cons_append, List.nil_append] at h
  obtain ⟨h1, _, h2⟩ := cut_eq hk hk' (.inl rfl) (.inl rfl) h
  obtain ⟨h3, _, h4⟩ := cut_eq (itoa_plain _) (itoa_plain _) (.inl rfl) (.inl rfl) h2
  have hl : key.length = key'.length := by have := itoa_inj h3; omega
  obtain ⟨h5, h6⟩ := List.append_inj h4 hl
  obtain ⟨h7, h8⟩ := vals_eq h6
  exact ⟨h1, h5, h7, h8⟩
/-- Lines, one behind the other. -/
abbrev Item := Bs × Bs × List Int
def itemsM (l : List Item) : Bs := (l.map fun i => lineM i.1 i.2.1 i.2.2).flatten
theorem items_cons (i : Item) (l : List Item) : itemsM (i :: l) = lineM i.1 i.2.1 i.2.2 ++ itemsM l := rfl
theorem items_append (l l' : List Item) : itemsM (l ++ l') = itemsM l ++ itemsM l' := by simp [itemsM]
theorem items_eq : ∀ {l l' : List Item}, (∀ i ∈ l, ∀ c ∈ i.1, ¬ endB c) → (∀ i ∈ l', ∀ c ∈ i.1, ¬ endB c) → itemsM l = itemsM l' → l = l'
  | [], [], _, _, _ => rfl
  | [], i :: l, _, _, h => by
    have := congrArg List.length h
    rw [items_cons] at this
    simp [itemsM, lineM] at this
  | i :: l, [], _, _, h => by
    have := congrArg List.length h
    rw [items_cons] at this
    simp [itemsM, lineM] at this
  | i :: l, j :: l', hi, hj, h => by
    rw [items_cons, items_cons] at h
    obtain ⟨h1, h2, h3, h4⟩ := line_eq (hi i (by simp)) (hj j (by simp)) h
    have h5 := items_eq (fun x hx => hi x (by simp [hx])) (fun x hx => hj x (by simp [hx])) h4
    obtain ⟨a, b, c⟩ := i
    obtain ⟨a', b', c'⟩ := j
    simp only at h1 h2 h3
    rw [h1, h2, h3, h5]
def kdL : Bs := [108, 105, 115, 116]
def kdR : Bs := [114, 101, 103, 105, 115, 116, 101, 114]
theorem kdL_plain : ∀ c ∈ kdL, ¬ endB c := by
  intro c hc e
  simp [kdL] at hc
  rcases e with rfl | rfl <;> exact absurd hc (by decide)
theorem kdR_plain : ∀ c ∈ kdR, ¬ endB c := by
  intro c hc e
  simp [kdR] at hc
  rcases e with rfl | rfl <;> exact absurd hc (by decide)
/-- A key of bytes. -/
def ba (k : Bs) : ByteArray := ⟨k.toArray⟩
theorem ba_list (s : ByteArray) : ba s.data.toList = s := by
  obtain ⟨a⟩ := s
  simp [ba]
theorem ba_inj {a b : Bs} (h : ba a = ba b) : a = b := by
  have := congrArg (fun x : ByteArray => x.data.toList) h
  simpa [ba] using this
theorem ba_size (k : Bs) : (ba k).size = k.length := by
  show (k.toArray).size = _
  simp
/-- The lines of lists and of registers. -/
def linesL (L : ByteArray → List Int) (ks : List Bs) : List Item := ks.map fun k => (kdL, k, L (ba k))
def linesR (R : ByteArray → Option Int) (rs : List Bs) : List Item := rs.map fun k => (kdR, k, [rgV (R (ba k))])
def txtM (L : ByteArray → List Int) (R : ByteArray → Option Int) (ks rs : List Bs) : Bs := itemsM (linesL L ks ++ linesR R rs)
/-- A text of lists and registers. -/
structure IsText (L : ByteArray → List Int) (R : ByteArray → Option Int) (ks rs : List Bs) : Prop where
  rl : Ris ks
  rr : Ris rs
  ml : ∀ k, k ∈ ks ↔ L (ba k) ≠ []
  mr : ∀ k, k ∈ rs ↔ R (ba k) ≠ none
theorem ris_nodup {l : List Bs} (h : Ris l) : l.Nodup := h.imp (fun {a b} hab e => by
  rw [e] at hab
  exact List.lt_irrefl _ hab)
theorem ris_ext {l l' : List Bs} (h : Ris l) (h' : Ris l') (hm : ∀ k, k ∈ l ↔ k ∈ l') : l = l' := by
  have hp : l.Perm l' := (List.perm_ext_iff_of_nodup (ris_nodup h) (ris_nodup h')).2 hm
  exact List.Perm.eq_of_pairwise (le := fun a b => a < b) (fun a b _ _ h1 h2 => absurd (List.lt_trans h1 h2) (List.lt_irrefl _)) h h' hp
section
variable {L L' : ByteArray → List Int} {R R' : ByteArray → Option Int} {ks ks' rs rs' : List Bs}
theorem IsText.same (h : IsText L R ks rs) (h' : IsText L' R' ks' rs') (hL : ∀ s, L s = L' s) (hR : ∀ s, R s = R' s) : txtM L R ks rs = txtM L' R' ks' rs' := by
  obtain rfl : L = L' := funext hL
  obtain rfl : R = R' := funext hR
  rw [ris_ext h.rl h'.rl (fun k => by rw [h.ml, h'.ml]), ris_ext h.rr h'.rr (fun k => by rw [h.mr, h'.mr])]
theorem lines_plain (i : Item) (hi : i ∈ linesL L ks ++ linesR R rs) : ∀ c ∈ i.1, ¬ endB c := by
  rcases List.mem_append.1 hi with hi | hi
  · obtain ⟨k, _, rfl⟩ := List.mem_map.1 hi
    exact kdL_plain
  · obtain ⟨k, _, rfl⟩ := List.mem_map.1 hi
    exact kdR_plain
theorem IsText.back (h : IsText L R ks rs) (h' : IsText L' R' ks' rs') (e : txtM L R ks rs = txtM L' R' ks' rs') : (∀ s, L s = L' s) ∧ ∀ s, R s = R' s := by
  have hi := items_eq lines_plain lines_plain e
  have fL : ∀ (L : ByteArray → List Int) (R : ByteArray → Option Int) (ks rs : List Bs), (linesL L ks ++ linesR R rs).filter (fun i => decide (i.1 = kdL)) = linesL L ks := fun L R ks rs => by
    rw [List.filter_append, List.filter_eq_self.2 (fun i hi => by obtain ⟨k, _, rfl⟩ := List.mem_map.1 hi; simp), List.filter_eq_nil_iff.2 (fun i hi => by obtain ⟨k, _, rfl⟩ := List.mem_map.1 hi; simp [kdL, kdR]), List.append_nil]
  have fR : ∀ (L : ByteArray → List Int) (R : ByteArray → Option Int) (ks rs : List Bs), (linesL L ks ++ linesR R rs).filter (fun i => decide (i.1 = kdR)) = linesR R rs := fun L R ks rs => by
    rw [List.filter_append, List.filter_eq_nil_iff.2 (fun i hi => by obtain ⟨k, _, rfl⟩ := List.mem_map.1 hi; simp [kdL, kdR]), List.filter_eq_self.2 (fun i hi => by obtain ⟨k, _, rfl⟩ := List.mem_map.1 hi; simp), List.nil_append]
  have eL : linesL L ks = linesL L' ks' := by rw [← fL L R ks rs, hi, fL]
  have eR : linesR R rs = linesR R' rs' := by rw [← fR L R ks rs, hi, fR]
  have kL : ks = ks' := by
    have := congrArg (List.map fun i : Item => i.2.1) eL
    simpa [linesL, Function.comp_def] using this
  have kR : rs = rs' := by
    have := congrArg (List.map fun i : Item => i.2.1) eR
    simpa [linesR, Function.comp_def] using this
  subst kL kR
  have aL := List.map_inj_left.1 eL
  have aR := List.map_inj_left.1 eR
  constructor
  · intro s
    by_cases hs : s.data.toList ∈ ks
    · have := aL _ hs
      simp only [Prod.mk.injEq, true_and] at this
      rw [ba_list] at this
      exact this
    · have h1 : L s = [] := Classical.byContradiction (fun c => hs ((h.ml _).2 (by rw [ba_list]; exact c)))
      have h2 : L' s = [] := Classical.byContradiction (fun c => hs ((h'.ml _).2 (by rw [ba_list]; exact c)))
      rw [h1, h2]
  · intro s
    by_cases hs : s.data.toList ∈ rs
    · have := aR _ hs
      simp only [Prod.mk.injEq, true_and, List.cons.injEq, and_true] at this
      rw [ba_list] at this
      have n1 := (h.mr _).1 hs
      have n2 := (h'.mr _).1 hs
      rw [ba_list] at n1 n2
      cases e1 : R s with
      | none => exact absurd e1 n1
      | some x =>
        cases e2 : R' s with
        | none => exact absurd e2 n2
        | some y =>
          rw [e1, e2] at this
          simp only [rgV, Option.getD] at this
          rw [this]
    · have h1 : R s = none := Classical.byContradiction (fun c => hs ((h.mr _).2 (by rw [ba_list]; exact c)))
      have h2 : R' s = none := Classical.byContradiction (fun c => hs ((h'.mr _).2 (by rw [ba_list]; exact c)))
      rw [h1, h2]
end
/-- The one text: as long as what was written. -/
def costs (L : List MOp) : Nat := (L.map fun o => o.key.size + 60).sum
/-- What the operations of a key are worth. -/
def costK (L : List MOp) (p : MOp → Bool) (k : Bs) : Nat := (L.map fun o => if p o = true ∧ o.key = ba k then o.key.size + 60 else 0).sum
theorem costK_cons (o : MOp) (L : List MOp) (p : MOp → Bool) (k : Bs) : costK (o :: L) p k = (if p o = true ∧ o.key = ba k then o.key.size + 60 else 0) + costK L p k := by
  simp [costK]
theorem sum_one (o : MOp) (p : MOp → Bool) : ∀ (ks : List Bs), ks.Nodup → (ks.map fun k => if p o = true ∧ o.key = ba k then o.key.size + 60 else 0).sum ≤ if p o = true then o.key.size + 60 else 0
  | [], _ => by simp
  | k :: ks, h => by
    have ih := sum_one o p ks (List.nodup_cons.1 h).2
    rw [List.map_cons, List.sum_cons]
    by_cases hp : p o = true
    · by_cases hk : o.key = ba k
      · have hz : (ks.map fun k => if p o = true ∧ o.key = ba k then o.key.size + 60 else 0) = ks.map fun _ => 0 := List.map_inj_left.2 (fun k' hk' => by
          rw [if_neg]
          rintro ⟨_, e⟩
          have : k = k' := ba_inj (hk.symm.trans e)
          subst this
          exact (List.nodup_cons.1 h).1 hk')
        rw [hz, if_pos ⟨hp, hk⟩, if_pos hp]
        have : ∀ ks : List Bs, (ks.map fun _ => 0).sum = 0 := fun ks => by induction ks with
          | nil => rfl
          | cons _ _ ih => simpa using ih
        rw [this]
        omega
      · rw [if_neg (fun c => hk c.2)]
        omega
    · rw [if_neg (fun c => hp c.1)]
      omega
theorem sum_add (f g : Bs → Nat) : ∀ ks : List Bs, (ks.map fun k => f k + g k).sum = (ks.map f).sum + (ks.map g).sum
  | [] => rfl
  | k :: ks => by simp [sum_add f g ks]; omega
theorem costK_all (p : MOp → Bool) (ks : List Bs) (h : ks.Nodup) : ∀ L : List MOp, (ks.map (costK L p)).sum ≤ (L.map fun o => if p o = true then o.key.size + 60 else 0).sum
  | [] => by
    have : ∀ ks : List Bs, (ks.map (costK [] p)).sum = 0 := fun ks => by induction ks with
      | nil => rfl
      | cons _ _ ih => rw [List.map_cons, List.sum_cons, ih]; simp [costK]
    rw [this]
    omega
  | o :: L => by
    have e : ks.map (costK (o :: L) p) = ks.map (fun k => (if p o = true ∧ o.key = ba k then o.key.size + 60 else 0) + costK L p k) := List.map_inj_left.2 (fun k _ => costK_cons o L p k)
    rw [e, sum_add]
    have h1 := sum_one o p ks h
    have h2 := costK_all p ks h L
    rw [List.map_cons, List.sum_cons]
    omega
theorem vals_len (vs : List Int) (h : ∀ v ∈ vs, -9223372036854775808 ≤ v ∧ v ≤ 9223372036854775807) : (valsM vs).length ≤ 21 * vs.length := by
  induction vs with
  | nil => simp [valsM]
  | cons v vs ih =>
    have h1 := itoa_len (h v (by simp)).1 (h v (by simp)).2
    have h2 := ih (fun x hx => h x (by simp [hx]))
    have e : valsM (v :: vs) = 32 :: Lib.itoa v ++ valsM vs := by simp [valsM]
    rw [e]
    simp only [List.length_append, List.length_cons]
    omega
theorem line_len (kd key : Bs) (vs : List Int) (hk : key.length ≤ 281474976710656) (h : ∀ v ∈ vs, -9223372036854775808 ≤ v ∧ v ≤ 9223372036854775807) : (lineM kd key vs).length ≤ kd.length + key.length + 21 * vs.length + 23 := by
  have h1 := itoa_len (n := (key.length : Int)) (by omega) (by omega)
  have h2 := vals_len vs h
  unfold lineM
  simp only [List.length_append, List.length_cons, List.length_nil]
  omega
theorem lst_cost (L : List MOp) (k : Bs) : (lstM L (ba k)).length * (k.length + 60) ≤ costK L (fun o => decide (o.kind = 1)) k := by
  induction L with
  | nil => simp [lstM, costK]
  | cons o L ih =>
    rw [costK_cons]
    unfold lstM at *
    rw [List.filter_cons]
    by_cases h : o.kind = 1 ∧ o.key = ba k
    · have hs : o.key.size = k.length := by rw [h.2, ba_size]
      rw [if_pos (by simp [apB, h]), if_pos (by simp [h.1, h.2]), List.map_cons, List.length_cons, Nat.succ_mul, hs]
      omega
    · rw [if_neg (by simpa [apB] using h), if_neg (by simpa using h)]
      omega
theorem reg_cost (L : List MOp) (k : Bs) (h : regM L (ba k) ≠ none) : k.length + 60 ≤ costK L (fun o => decide (o.kind = 3)) k := by
  have : ∃ o ∈ L, o.kind = 3 ∧ o.key = ba k := by
    apply Classical.byContradiction
    intro c
    apply h
    unfold regM
    rw [(List.find?_eq_none (p := rgB (ba k))).2 (fun o ho q => c ⟨o, List.mem_reverse.1 ho, of_decide_eq_true (show decide (o.kind = 3 ∧ o.key = ba k) = true from q)⟩)]
    rfl
  obtain ⟨o, ho, h3, hk⟩ := this
  clear h
  induction L with
  | nil => cases ho
  | cons x L ih =>
    rw [costK_cons]
    rcases List.mem_cons.1 ho with rfl | ho
    · have hs : o.key.size = k.length := by rw [hk, ba_size]
      rw [if_pos ⟨by simp [h3], hk⟩, hs]
      omega
    · have := ih ho
      omega
theorem items_len (f : Item → Nat) : ∀ l : List Item, (∀ i ∈ l, (lineM i.1 i.2.1 i.2.2).length ≤ f i) → (itemsM l).length ≤ (l.map f).sum
  | [], _ => by simp [itemsM]
  | i :: l, h => by
    rw [items_cons, List.length_append, List.map_cons, List.sum_cons]
    have h1 := h i (by simp)
    have h2 := items_len f l (fun x hx => h x (by simp [hx]))
    omega
def OkV (L : List MOp) : Prop := ∀ o ∈ L, (-9223372036854775808 ≤ o.value ∧ o.value ≤ 9223372036854775807) ∧ o.key.size ≤ 281474976710656
theorem lst_vals {L : List MOp} (h : OkV L) (s : ByteArray) : ∀ v ∈ lstM L s, -9223372036854775808 ≤ v ∧ v ≤ 9223372036854775807 := by
  intro v hv
  obtain ⟨o, ho, rfl⟩ := List.mem_map.1 hv
  exact (h o (List.mem_filter.1 ho).1).1
theorem reg_val {L : List MOp} (h : OkV L) (s : ByteArray) : -9223372036854775808 ≤ rgV (regM L s) ∧ rgV (regM L s) ≤ 9223372036854775807 := by
  unfold regM
  cases e : L.reverse.find? (rgB s) with
  | none => simp [rgV]
  | some o => exact (h o (List.mem_reverse.1 (List.mem_of_find?_eq_some e))).1
theorem lst_key {L : List MOp} (h : OkV L) (s : ByteArray) (hs : lstM L s ≠ []) : s.size ≤ 281474976710656 := by
  have : (lstM L s) ≠ [] := hs
  unfold lstM at this
  cases e : L.filter (apB s) with
  | nil => rw [e] at this; exact absurd rfl this
  | cons o r =>
    have ho : o ∈ L.filter (apB s) := by rw [e]; simp
    have q := List.mem_filter.1 ho
    have hk := (of_decide_eq_true q.2 : o.kind = 1 ∧ o.key = s).2
    rw [← hk]
    exact (h o q.1).2
theorem reg_key {L : List MOp} (h : OkV L) (s : ByteArray) (hs : regM L s ≠ none) : s.size ≤ 281474976710656 := by
  unfold regM at hs
  cases e : L.reverse.find? (rgB s) with
  | none => rw [e] at hs; exact absurd rfl hs
  | some o =>
    have q : rgB s o = true := List.find?_some e
    have hk := (of_decide_eq_true q : o.kind = 3 ∧ o.key = s).2
    rw [← hk]
    exact (h o (List.mem_reverse.1 (List.mem_of_find?_eq_some e))).2
theorem sum_le_sum (f g : Bs → Nat) : ∀ ks : List Bs, (∀ k ∈ ks, f k ≤ g k) → (ks.map f).sum ≤ (ks.map g).sum
  | [], _ => by simp
  | k :: ks, h => by
    have h1 := h k (by simp)
    have h2 := sum_le_sum f g ks (fun x hx => h x (by simp [hx]))
    simp; omega
theorem costs_split : ∀ L : List MOp, (L.map fun o => if decide (o.kind = 1) = true then o.key.size + 60 else 0).sum + (L.map fun o => if decide (o.kind = 3) = true then o.key.size + 60 else 0).sum ≤ costs L
  | [] => by simp [costs]
  | o :: L => by
    have ih := costs_split L
    unfold costs at *
    simp only [List.map_cons, List.sum_cons]
    by_cases h1 : o.kind = 1
    · simp only [h1, decide_true, if_true] at *
      have : ¬ ((1 : Int) = 3) := by decide
      simp only [this, decide_false, Bool.false_eq_true, if_false] at *
      omega
    · by_cases h3 : o.kind = 3
      · simp only [h3, decide_true, if_true] at *
        have : ¬ ((3 : Int) = 1) := by decide
        simp only [this, decide_false, Bool.false_eq_true, if_false] at *
        omega
      · simp only [h1, h3, decide_false, Bool.false_eq_true, if_false] at *
        omega
/-- How long a text is. -/
theorem txt_len {L : List MOp} (hv : OkV L) {ks rs : List Bs} (h : IsText (lstM L) (regM L) ks rs) : (txtM (lstM L) (regM L) ks rs).length ≤ costs L := by
  unfold txtM
  rw [items_append, List.length_append]
  have h1 : (itemsM (linesL (lstM L) ks)).length ≤ (ks.map (costK L (fun o => decide (o.kind = 1)))).sum := by
    refine Nat.le_trans (items_len (fun i => costK L (fun o => decide (o.kind = 1)) i.2.1) _ (fun i hi => ?_)) (by simp [linesL, Function.comp_def])
    obtain ⟨k, hk, rfl⟩ := List.mem_map.1 hi
    have hne := (h.ml k).1 hk
    have hks := lst_key hv _ hne
    rw [ba_size] at hks
    have q := line_len kdL k (lstM L (ba k)) hks (lst_vals hv _)
    have c := lst_cost L k
    have hpos : 1 ≤ (lstM L (ba k)).length := by
      cases e : lstM L (ba k) with
      | nil => exact absurd e hne
      | cons _ _ => simp
    have hmul : (lstM L (ba k)).length * (k.length + 60) = (lstM L (ba k)).length * k.length + (lstM L (ba k)).length * 60 := Nat.mul_add _ _ _
    have hge : k.length ≤ (lstM L (ba k)).length * k.length := Nat.le_mul_of_pos_left _ hpos
    have h4 : kdL.length = 4 := rfl
    simp only
    omega
  have h2 : (itemsM (linesR (regM L) rs)).length ≤ (rs.map (costK L (fun o => decide (o.kind = 3)))).sum := by
    refine Nat.le_trans (items_len (fun i => costK L (fun o => decide (o.kind = 3)) i.2.1) _ (fun i hi => ?_)) (by simp [linesR, Function.comp_def])
    obtain ⟨k, hk, rfl⟩ := List.mem_map.1 hi
    have hne := (h.mr k).1 hk
    have hks := reg_key hv _ hne
    rw [ba_size] at hks
    have q := line_len kdR k [rgV (regM L (ba k))] hks (fun v hv' => by
      obtain rfl : v = _ := by simpa using hv'
      exact reg_val hv _)
    have c := reg_cost L k hne
    have h8 : kdR.length = 8 := rfl
    simp only [List.length_cons, List.length_nil] at q ⊢
    omega
  have h3 := costK_all (fun o => decide (o.kind = 1)) ks (ris_nodup h.rl) L
  have h4 := costK_all (fun o => decide (o.kind = 3)) rs (ris_nodup h.rr) L
  have h5 := costs_split L
  omega
end Go.Proofs.YtjeheknhpfkaiaaDoor
