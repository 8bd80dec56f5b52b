/-
  Plain: what a store reads for a transaction that is alone is right.
-/
import Derived.Test.YtadlnkaphkbfdaaIn6
namespace Go.Proofs.Ytadlnkaphkbfdaa
set_option linter.unusedVariables false
set_option linter.unusedSimpArgs false
open Go.RowKit Go.Lib

/-- What a store has: the values of a list, and of a register the last one. -/
def lstv (D : List MOp) (s : ByteArray) : List Int := (D.filter fun p => p.kind == 1 && decide (p.key = s)).map fun p => p.value
def regv (D : List MOp) (s : ByteArray) : Option Int := ((D.filter fun p => p.kind == 3 && decide (p.key = s)).map fun p => p.value).getLast?
/-- What it tells of an operation. -/
def tell (D : List MOp) (o : MOp) : MOp :=
  if o.kind = 2 then (2, o.key, o.value, lstv D o.key, true, o.nl)
  else if o.kind = 4 then (4, o.key, (regv D o.key).getD o.value, o.list, true, (regv D o.key).isNone)
  else o
def dn (D0 l : List MOp) (i : Nat) : List MOp := D0 ++ (l.take i).filter wrt
def tl (D0 l : List MOp) (n : Nat) : List MOp := (List.range n).map fun i => tell (dn D0 l i) (l.getD i default)
theorem tl_len (D0 l : List MOp) (n : Nat) : (tl D0 l n).length = n := by unfold tl; simp
theorem tl_at (D0 l : List MOp) (n i : Nat) (h : i < n) : (tl D0 l n).getD i default = tell (dn D0 l i) (l.getD i default) := by
  unfold tl
  simp [List.getD, h]
theorem tl_succ (D0 l : List MOp) (n : Nat) : tl D0 l (n + 1) = tl D0 l n ++ [tell (dn D0 l n) (l.getD n default)] := by
  unfold tl
  rw [List.range_succ, List.map_append]
  rfl
theorem dn_succ (D0 l : List MOp) (i : Nat) (h : i < l.length) : dn D0 l (i + 1) = if wrt (l.getD i default) then dn D0 l i ++ [l.getD i default] else dn D0 l i := by
  have e : l.take (i + 1) = l.take i ++ [l.getD i default] := by
    rw [List.take_succ_eq_append_getElem h]
    simp [List.getD, h]
  unfold dn
  rw [e, List.filter_append]
  cases hw : wrt (l.getD i default) with
  | true => simp only [List.filter_cons, hw, if_true, List.filter_nil]; rw [List.append_assoc]
  | false => simp only [List.filter_cons, hw, List.filter_nil]; simp
theorem tell_kind (D : List MOp) (o : MOp) : (tell D o).kind = o.kind ∧ (tell D o).key = o.key := by
  unfold tell
  split
  · rename_i h; exact ⟨h.symm, rfl⟩
  · split
    · rename_i h; exact ⟨h.symm, rfl⟩
    · exact ⟨rfl, rfl⟩
theorem tell_write (D : List MOp) (o : MOp) (h : o.kind ≠ 2) (h' : o.kind ≠ 4) : tell D o = o := by
  unfold tell
  rw [if_neg h, if_neg h']
theorem lstv_snoc (D : List MOp) (o : MOp) (s : ByteArray) : lstv (D ++ [o]) s = if o.kind = 1 ∧ o.key = s then lstv D s ++ [o.value] else lstv D s := by
  unfold lstv
  rw [List.filter_append]
  by_cases h : o.kind = 1 ∧ o.key = s
  · rw [if_pos h]; simp [h.1, h.2]
  · rw [if_neg h]
    have : (o.kind == 1 && decide (o.key = s)) = false := by
      rw [Bool.and_eq_false_iff]
      by_cases h1 : o.kind = 1
      · exact .inr (decide_eq_false (fun c => h ⟨h1, c⟩))
      · exact .inl (by simpa using h1)
    simp [List.filter_cons, this]
theorem regv_snoc (D : List MOp) (o : MOp) (s : ByteArray) : regv (D ++ [o]) s = if o.kind = 3 ∧ o.key = s then some o.value else regv D s := by
  unfold regv
  rw [List.filter_append]
  by_cases h : o.kind = 3 ∧ o.key = s
  · rw [if_pos h]; simp [h.1, h.2]
  · rw [if_neg h]
    have : (o.kind == 3 && decide (o.key = s)) = false := by
      rw [Bool.and_eq_false_iff]
      by_cases h1 : o.kind = 3
      · exact .inr (decide_eq_false (fun c => h ⟨h1, c⟩))
      · exact .inl (by simpa using h1)
    simp [List.filter_cons, this]
/-- What the transaction knows fits what the store has. -/
structure Fit2 (D : List MOp) (K : St) : Prop where
  lists : ∀ s, ((K 1 s).whole = true ∧ (K 1 s).list = lstv D s) ∨ ((K 1 s).whole = false ∧ ∃ pre, lstv D s = pre ++ (K 1 s).list)
  regs : ∀ s, (K 3 s).whole = false ∨ ((K 3 s).whole = true ∧ (K 3 s).none = (regv D s).isNone ∧ ∀ v, regv D s = some v → (K 3 s).value = v)
theorem fit_tell (D : List MOp) (K : St) (o : MOp) (h : Fit2 D K) : (rds (tell D o) && !(K (thg (tell D o).kind) (tell D o).key).fits (tell D o)) = false := by
  obtain ⟨ek, es⟩ := tell_kind D o
  rw [ek, es]
  by_cases h2 : o.kind = 2
  · have et : thg o.kind = 1 := by rw [h2]; rfl
    have eT : tell D o = (2, o.key, o.value, lstv D o.key, true, o.nl) := by unfold tell; rw [if_pos h2]
    rw [et, eT]
    rcases h.lists o.key with ⟨a, b⟩ | ⟨a, pre, b⟩
    · simp [Kn.fits, rds, MOp.kind, MOp.value, MOp.list, MOp.has, MOp.nl, a, b]
    · have hl : (lstv D o.key).length = pre.length + (K 1 o.key).list.length := by rw [b, List.length_append]
      simp [Kn.fits, rds, MOp.kind, MOp.value, MOp.list, MOp.has, MOp.nl, a]
      refine ⟨by omega, ?_⟩
      rw [b, List.length_append, Nat.add_sub_cancel, List.drop_left]
  · by_cases h4 : o.kind = 4
    · have et : thg o.kind = 3 := by rw [h4]; rfl
      have eT : tell D o = (4, o.key, (regv D o.key).getD o.value, o.list, true, (regv D o.key).isNone) := by unfold tell; rw [if_neg h2, if_pos h4]
      rw [et, eT]
      rcases h.regs o.key with a | ⟨a, b, c⟩
      · simp [Kn.fits, rds, MOp.kind, MOp.value, MOp.list, MOp.has, MOp.nl, a]
      · cases hr : regv D o.key with
        | none => rw [hr] at b; simp [Kn.fits, rds, MOp.kind, MOp.value, MOp.list, MOp.has, MOp.nl, a, b]
        | some v => rw [hr] at b; simp [Kn.fits, rds, MOp.kind, MOp.value, MOp.list, MOp.has, MOp.nl, a, b, c v hr]
    · rw [tell_write D o h2 h4]
      have : rds o = false := by simp [rds, h2, h4]
      rw [this]
      rfl
theorem fit_next (D : List MOp) (K : St) (o : MOp) (h : Fit2 D K) : Fit2 (if wrt o then D ++ [o] else D) (K.on (tell D o)) := by
  obtain ⟨ek, es⟩ := tell_kind D o
  have oth : ∀ t s, ¬ (thg o.kind = t ∧ o.key = s) → K.on (tell D o) t s = K t s := fun t s hn => St.on_other _ _ _ _ (by rw [ek, es]; exact hn)
  have sam' : ∀ t s, thg o.kind = t → o.key = s → K.on (tell D o) t s = (K t s).wit (tell D o) := fun t s h1 h2 => St.on_same _ _ _ _ (by rw [ek]; exact h1) (by rw [es]; exact h2)
  by_cases h1 : o.kind = 1
  · have hw : wrt o = true := by simp [wrt, h1]
    have et : thg o.kind = 1 := by rw [h1]; rfl
    rw [hw, if_pos rfl]
    have eT := tell_write D o (by omega) (by omega)
    refine ⟨fun s => ?_, fun s => ?_⟩
    · rw [lstv_snoc]
      by_cases e : o.key = s
      · rw [if_pos ⟨h1, e⟩, sam' 1 s et e, eT]
        have ew : (K 1 s).wit o = ⟨(K 1 s).whole, (K 1 s).list ++ [o.value], (K 1 s).none, (K 1 s).value⟩ := by unfold Kn.wit; rw [if_pos h1]
        rw [ew]
        rcases h.lists s with ⟨a, b⟩ | ⟨a, pre, b⟩
        · exact .inl ⟨a, by simp only; rw [b]⟩
        · exact .inr ⟨a, pre, by simp only; rw [b, List.append_assoc]⟩
      · rw [if_neg (fun c => e c.2), oth 1 s (fun c => e c.2)]
        exact h.lists s
    · rw [regv_snoc, if_neg (by omega), oth 3 s (by rw [et]; omega)]
      exact h.regs s
  · by_cases h3 : o.kind = 3
    · have hw : wrt o = true := by simp [wrt, h3]
      have et : thg o.kind = 3 := by rw [h3]; rfl
      rw [hw, if_pos rfl]
      have eT := tell_write D o (by omega) (by omega)
      refine ⟨fun s => ?_, fun s => ?_⟩
      · rw [lstv_snoc, if_neg (by omega), oth 1 s (by rw [et]; omega)]
        exact h.lists s
      · rw [regv_snoc]
        by_cases e : o.key = s
        · rw [if_pos ⟨h3, e⟩, sam' 3 s et e, eT]
          have ew : (K 3 s).wit o = ⟨true, [], false, o.value⟩ := by unfold Kn.wit; rw [if_neg h1, if_pos h3]
          rw [ew]
          exact .inr ⟨rfl, rfl, fun v hv => by injection hv⟩
        · rw [if_neg (fun c => e c.2), oth 3 s (fun c => e c.2)]
          exact h.regs s
    · have hw : wrt o = false := by simp [wrt, h1, h3]
      rw [hw]
      simp only [Bool.false_eq_true, if_false]
      by_cases h2 : o.kind = 2
      · have et : thg o.kind = 1 := by rw [h2]; rfl
        have eT : tell D o = (2, o.key, o.value, lstv D o.key, true, o.nl) := by unfold tell; rw [if_pos h2]
        refine ⟨fun s => ?_, fun s => ?_⟩
        · by_cases e : o.key = s
          · rw [sam' 1 s et e, eT]
            subst e
            exact .inl ⟨by simp [Kn.wit, rds, MOp.kind, MOp.value, MOp.list, MOp.has, MOp.nl], by simp [Kn.wit, rds, MOp.kind, MOp.value, MOp.list, MOp.has, MOp.nl]⟩
          · rw [oth 1 s (fun c => e c.2)]
            exact h.lists s
        · rw [oth 3 s (by rw [et]; omega)]
          exact h.regs s
      · by_cases h4 : o.kind = 4
        · have et : thg o.kind = 3 := by rw [h4]; rfl
          have eT : tell D o = (4, o.key, (regv D o.key).getD o.value, o.list, true, (regv D o.key).isNone) := by unfold tell; rw [if_neg h2, if_pos h4]
          refine ⟨fun s => ?_, fun s => ?_⟩
          · rw [oth 1 s (by rw [et]; omega)]
            exact h.lists s
          · by_cases e : o.key = s
            · rw [sam' 3 s et e, eT]
              subst e
              refine .inr ⟨by simp [Kn.wit, rds, MOp.kind, MOp.value, MOp.list, MOp.has, MOp.nl], by simp [Kn.wit, rds, MOp.kind, MOp.value, MOp.list, MOp.has, MOp.nl], fun v hv => ?_⟩
              simp [Kn.wit, rds, MOp.kind, MOp.value, MOp.list, MOp.has, MOp.nl, hv]
            · rw [oth 3 s (fun c => e c.2)]
              exact h.regs s
        · have et : thg o.kind = 0 := by unfold thg; rw [if_neg (by omega), if_neg (by omega)]
          refine ⟨fun s => ?_, fun s => ?_⟩
          · rw [oth 1 s (by rw [et]; omega)]
            exact h.lists s
          · rw [oth 3 s (by rw [et]; omega)]
            exact h.regs s
theorem served_fit (D0 l : List MOp) (i : Nat) (h : i ≤ l.length) : Fit2 (dn D0 l i) (stAt (tl D0 l l.length) i) := by
  induction i with
  | zero => exact ⟨fun s => .inr ⟨rfl, lstv (dn D0 l 0) s, by simp [stAt, Kn.zero]⟩, fun s => .inl rfl⟩
  | succ i ih =>
    have eS : stAt (tl D0 l l.length) (i + 1) = (stAt (tl D0 l l.length) i).on ((tl D0 l l.length).getD i default) := rfl
    rw [eS, tl_at D0 l l.length i (by omega), dn_succ D0 l i (by omega)]
    exact fit_next _ _ _ (ih (by omega))
/-- Nothing that is told is wrong. -/
theorem served_right (D0 l : List MOp) (r : Int) (h : IsFirst (bad (tl D0 l l.length)) l.length r) : r = -1 := by
  rcases h with ⟨rfl, _⟩ | ⟨i, hi, _, h1, _⟩
  · rfl
  · have hb : bad (tl D0 l l.length) i = false := by
      unfold bad
      rw [tl_at D0 l l.length i hi]
      exact fit_tell _ _ _ (served_fit D0 l i (by omega))
    rw [hb] at h1
    cases h1
end Go.Proofs.Ytadlnkaphkbfdaa
