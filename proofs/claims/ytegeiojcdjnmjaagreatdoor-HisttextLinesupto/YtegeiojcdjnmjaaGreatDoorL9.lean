/-
  The code's reader of a history's text answers as the document's: operations, events, the whole.
  The parser of a history's text, plain: it looks at kinds, at the texts of words and marks, and at numbers; places play no part.
  Scanning looks no further than a line: two texts that are alike from two places on up to a line's end have alike tokens there.
  Tokens at a place, where two texts are alike up to a line's end.
-/
import Derived.Test.YtegeiojcdjnmjaaGreatDoorL8
import Derived.Test.YtegeiojcdjnmjaaGreatDoorL5
namespace Go.Proofs.YtegeiojcdjnmjaaGreatDoor
set_option linter.unusedVariables false
set_option linter.unusedSimpArgs false
open Go.RowKit

theorem n40 : (ByteArray.toList ⟨#[40]⟩).isEmpty = false := by rw [ByteArray.toList_eq]; rfl
theorem n41 : (ByteArray.toList ⟨#[41]⟩).isEmpty = false := by rw [ByteArray.toList_eq]; rfl
theorem n91 : (ByteArray.toList ⟨#[91]⟩).isEmpty = false := by rw [ByteArray.toList_eq]; rfl
theorem n93 : (ByteArray.toList ⟨#[93]⟩).isEmpty = false := by rw [ByteArray.toList_eq]; rfl
theorem nnil : (ByteArray.toList ⟨#[110, 105, 108]⟩).isEmpty = false := by rw [ByteArray.toList_eq]; rfl
theorem nops : ∀ x ∈ rOpWords, x.toList.isEmpty = false := by
  intro x hx
  rw [ByteArray.toList_eq]
  simp only [rOpWords, List.mem_cons, List.not_mem_nil, or_false] at hx
  rcases hx with h | h | h | h <;> subst h <;> rfl
theorem nevs : ∀ x ∈ rEvWords, x.toList.isEmpty = false := by
  intro x hx
  rw [ByteArray.toList_eq]
  simp only [rEvWords, List.mem_cons, List.not_mem_nil, or_false] at hx
  rcases hx with h | h | h | h <;> subst h <;> rfl
theorem sim_list {en : Int} {l : List MTok} (h : seesP l 3 ⟨#[40]⟩ = true) :
    Sim l (pList en l) ((rList (rWant en (l, none) 3 ⟨#[40]⟩).2.1 []).1, (rWant en (rList (rWant en (l, none) 3 ⟨#[40]⟩).2.1 []).2 3 ⟨#[41]⟩).2) := by
  rw [want_sees n40 h]
  have h1 : pMark en ⟨#[40]⟩ l = .ok ((), l.tail) := by unfold pMark; rw [if_pos h]
  have h2 : Sim l.tail (andP (pNums en l.tail []) fun xs l2 => andP (pMark en ⟨#[41]⟩ l2) fun _ l3 => .ok (xs, l3)) ((rList l.tail []).1, (rWant en (rList l.tail []).2 3 ⟨#[41]⟩).2) := by
    refine Sim.bind _ (fun xs r => (xs, (rWant en r 3 ⟨#[41]⟩).2)) (sim_nums l.tail []) (fun xs l' _ => ?_) (fun x r e => by simp [rWant_st])
    exact Sim.bind _ (fun _ r => (xs, r)) (sim_mark (x := ⟨#[41]⟩) n41) (fun _ l' _ => ⟨rfl, List.suffix_refl _⟩) (fun _ _ _ => rfl)
  unfold pList
  rw [h1]
  show Sim l (andP (pNums en l.tail []) fun xs l2 => andP (pMark en ⟨#[41]⟩ l2) fun _ l3 => .ok (xs, l3)) ((rList l.tail []).1, (rWant en (rList l.tail []).2 3 ⟨#[41]⟩).2)
  revert h2
  generalize (andP (pNums en l.tail []) fun xs l2 => andP (pMark en ⟨#[41]⟩ l2) fun _ l3 => .ok (xs, l3)) = pf
  intro h2
  cases pf with
  | error e => exact h2
  | ok z => exact ⟨h2.1, h2.2.trans (List.tail_suffix l)⟩
theorem sim_mid {en k : Int} {s : ByteArray} {l : List MTok} : Sim l (pMid en k s l) (rMid en k s (l, none)) := by
  unfold pMid rMid
  by_cases h13 : k = 1 ∨ k = 3
  · rw [if_pos h13, if_pos h13]
    exact Sim.bind _ (fun x r => ((k, s, x, [], false, false), r)) (sim_num (en := en) (l := l)) (fun x l' _ => ⟨rfl, List.suffix_refl _⟩) (fun _ _ _ => rfl)
  · rw [if_neg h13, if_neg h13]
    by_cases h4 : k = 4
    · rw [if_pos h4, if_pos h4, rIs_sees nnil]
      cases hs : seesP l 1 ⟨#[110, 105, 108]⟩ with
      | true => refine ⟨?_, List.tail_suffix l⟩; simp [want_sees nnil hs]
      | false =>
        cases l with
        | nil => exact ⟨rfl, List.suffix_refl _⟩
        | cons t r =>
          by_cases h : t.1 = 2
          · refine sim_of (x := (k, s, t.2.2.2, [], true, false)) (l' := r) (by simp [h]) (by simp [is_tok h, want_tok h]) (List.suffix_cons _ _)
          · refine sim_of (x := (k, s, 0, [], false, false)) (l' := t :: r) (by simp [h]) (by simp [is_no h]) (List.suffix_refl _)
    · rw [if_neg h4, if_neg h4]
      by_cases h2 : k = 2
      · rw [if_pos h2, if_pos h2, rIs_sees n40]
        cases hs : seesP l 3 ⟨#[40]⟩ with
        | true => exact Sim.bind (fun xs l1 => .ok ((k, s, 0, xs, true, false), l1)) (fun xs r => ((k, s, 0, xs, true, false), r)) (sim_list hs) (fun x l' _ => ⟨rfl, List.suffix_refl _⟩) (fun _ _ _ => rfl)
        | false => exact ⟨rfl, List.suffix_refl _⟩
      · rw [if_neg h2, if_neg h2]
        exact ⟨rfl, List.suffix_refl _⟩
theorem sim_op {en : Int} {l : List MTok} (hw : Wds l) : Sim l (pOp en l) (rOp en (l, none)) := by
  refine Sim.bind _ (fun _ r1 => ((rMid en (rWordFrom en r1 0 rOpWords).1 (rKey en (rWordFrom en r1 0 rOpWords).2).1 (rKey en (rWordFrom en r1 0 rOpWords).2).2).1, (rWant en (rMid en (rWordFrom en r1 0 rOpWords).1 (rKey en (rWordFrom en r1 0 rOpWords).2).1 (rKey en (rWordFrom en r1 0 rOpWords).2).2).2 3 ⟨#[93]⟩).2)) (sim_mark (x := ⟨#[91]⟩) n91) (fun _ l1 hs1 => ?_) (fun _ r e => by simp only [rWord_st, rKey_st, rMid_st, rWant_st])
  have hw1 := hw.suf hs1
  refine Sim.bind _ (fun k r2 => ((rMid en k (rKey en r2).1 (rKey en r2).2).1, (rWant en (rMid en k (rKey en r2).1 (rKey en r2).2).2 3 ⟨#[93]⟩).2)) (sim_kind rOpWords hw1 nops) (fun k l2 hs2 => ?_) (fun _ r e => by simp only [rKey_st, rMid_st, rWant_st])
  have hw2 := hw1.suf hs2
  refine Sim.bind _ (fun s r3 => ((rMid en k s r3).1, (rWant en (rMid en k s r3).2 3 ⟨#[93]⟩).2)) (sim_key hw2) (fun s l3 hs3 => ?_) (fun _ r e => by simp only [rMid_st, rWant_st])
  refine Sim.bind _ (fun o r4 => (o, (rWant en r4 3 ⟨#[93]⟩).2)) (sim_mid (en := en) (k := k) (s := s) (l := l3)) (fun o l4 hs4 => ?_) (fun _ r e => by simp only [rWant_st])
  exact Sim.bind _ (fun _ r5 => (o, r5)) (sim_mark (x := ⟨#[93]⟩) n93) (fun _ l' _ => ⟨rfl, List.suffix_refl _⟩) (fun _ _ _ => rfl)
theorem rOps_two {en : Int} {l : List MTok} {e : Int × Int} (f : Nat) (acc : List MOp) (q : MOp × Rd) (h : q.2 = (l, some e)) : (rOps en f q.2 (acc ++ [q.1])).2.2 = some e := by
  rw [h, rOps_st]
theorem sim_ops {en : Int} : ∀ (f : Nat) (l : List MTok) (acc : List MOp), Wds l → Sim l (pOps en f l acc) (rOps en f (l, none) acc)
  | 0, l, acc, _ => ⟨rfl, List.suffix_refl _⟩
  | f + 1, l, acc, hw => by
    unfold pOps rOps
    rw [rIs_sees n91]
    cases hs : seesP l 3 ⟨#[91]⟩ with
    | false => exact ⟨rfl, List.suffix_refl _⟩
    | true =>
      by_cases h8 : acc.length = 8
      · simp only [h8, if_true]
        exact rOps_two f acc _ rOp_st
      · simp only [if_neg h8, if_true]
        exact Sim.bind (fun o l1 => pOps en f l1 (acc ++ [o])) (fun o r => rOps en f r (acc ++ [o])) (sim_op hw) (fun o l' hs' => sim_ops f l' _ (hw.suf hs')) (fun _ _ _ => by rw [rOps_st])
/-- An event without its end. -/
def rEvB (en k : Int) (r : Rd) : MEv × Rd := ((k, (rProc en r).1, (rOps en 10 (rOp en (rProc en r).2).2 [(rOp en (rProc en r).2).1]).1), (rOps en 10 (rOp en (rProc en r).2).2 [(rOp en (rProc en r).2).1]).2)
theorem rOps_one {en : Int} {l : List MTok} {e : Int × Int} (f : Nat) (q : MOp × Rd) (h : q.2 = (l, some e)) : (rOps en f q.2 [q.1]).2.2 = some e := by
  rw [h, rOps_st]
theorem rEvB_st {en k : Int} {l : List MTok} {e : Int × Int} : (rEvB en k (l, some e)).2.2 = some e := by
  unfold rEvB
  rw [rProc_st]
  exact rOps_one 10 _ rOp_st
theorem sim_evB {en k : Int} {l : List MTok} (hw : Wds l) : Sim l (pEvB en k l) (rEvB en k (l, none)) := by
  refine Sim.bind _ (fun p r => ((k, p, (rOps en 10 (rOp en r).2 [(rOp en r).1]).1), (rOps en 10 (rOp en r).2 [(rOp en r).1]).2)) (sim_proc (en := en) (l := l)) (fun p l2 hs2 => ?_) (fun _ r e => rOps_one 10 _ rOp_st)
  have hw2 := hw.suf hs2
  refine Sim.bind _ (fun o r => ((k, p, (rOps en 10 r [o]).1), (rOps en 10 r [o]).2)) (sim_op (en := en) hw2) (fun o l3 hs3 => ?_) (fun _ r e => by simp only [rOps_st])
  have hw3 := hw2.suf hs3
  exact Sim.bind _ (fun os r => ((k, p, os), r)) (sim_ops (en := en) 10 l3 [o] hw3) (fun os l4 hs4 => ⟨rfl, List.suffix_refl _⟩) (fun _ _ _ => rfl)
theorem sim_evA {en : Int} {l : List MTok} (hw : Wds l) : Sim l (pEvA en l) (rEvB en (rWordFrom en (l, none) 0 rEvWords).1 (rWordFrom en (l, none) 0 rEvWords).2) :=
  Sim.bind _ (fun k r => rEvB en k r) (sim_kind rEvWords hw nevs) (fun k l1 hs => sim_evB (hw.suf hs)) (fun _ _ _ => rEvB_st)
theorem pKind_lt {en : Int} {l : List MTok} {z : Int × List MTok} : ∀ (ws : List ByteArray) (k : Nat), pKind en l k ws = .ok z → z.2.length < l.length
  | [], k, h => by cases h
  | x :: xs, k, h => by
    unfold pKind at h
    cases hs : seesP l 1 x with
    | true =>
      rw [hs] at h
      cases h
      cases l with
      | nil => cases hs
      | cons t r => simp
    | false =>
      rw [hs] at h
      exact pKind_lt xs (k + 1) h
theorem pEvA_lt {en : Int} {l : List MTok} {z : MEv × List MTok} (hw : Wds l) (h : pEvA en l = .ok z) : z.2.length < l.length := by
  unfold pEvA at h
  have hk := sim_kind (en := en) rEvWords hw nevs
  cases hq : pKind en l 0 pEvWords with
  | error e => rw [hq] at h; cases h
  | ok y =>
    rw [hq] at h
    rw [hq] at hk
    have h1 := pKind_lt _ _ hq
    have h2 : pEvB en y.1 y.2 = .ok z := h
    have h3 := sim_evB (en := en) (k := y.1) (hw.suf hk.2)
    rw [h2] at h3
    have := h3.2.length_le
    omega
theorem rSkip_le : ∀ (l : List MTok), (rSkip l).length ≤ l.length
  | [] => Nat.le_refl _
  | t :: l => by
    unfold rSkip
    split
    · have := rSkip_le l; simp; omega
    · exact Nat.le_refl _
theorem sim_ev {en : Int} {l : List MTok} (hw : Wds l) :
    match pEv en l with
    | .ok z => ∃ l', rEv en (l, none) = (z.1, (l', none)) ∧ rSkip l' = rSkip z.2 ∧ z.2 <:+ l ∧ z.2.length < l.length
    | .error e => (rEv en (l, none)).2.2 = some e := by
  have h := sim_evA (en := en) hw
  have hr : rEv en (l, none) = ((rEvB en (rWordFrom en (l, none) 0 rEvWords).1 (rWordFrom en (l, none) 0 rEvWords).2).1, rEnd en (rEvB en (rWordFrom en (l, none) 0 rEvWords).1 (rWordFrom en (l, none) 0 rEvWords).2).2) := rfl
  rw [hr]
  generalize rEvB en (rWordFrom en (l, none) 0 rEvWords).1 (rWordFrom en (l, none) 0 rEvWords).2 = q at h ⊢
  unfold pEv
  cases hp : pEvA en l with
  | error e =>
    rw [hp] at h
    obtain ⟨q1, q2, q3⟩ := q
    simp only [Sim] at h
    subst h
    show (rEnd en (q2, some e)).2 = some e
    rw [rEnd_st]
  | ok z =>
    have hlt := pEvA_lt hw hp
    rw [hp] at h
    obtain ⟨hq, hs⟩ := h
    subst hq
    obtain ⟨x, l4⟩ := z
    cases l4 with
    | nil => exact ⟨[], rfl, rfl, hs, hlt⟩
    | cons t r =>
      by_cases h4 : t.1 = 4
      · have he : pEnd en (t :: r) = .ok ((), t :: r) := if_pos h4
        have hx : (andP (.ok (x, t :: r) : Ps MEv) fun e l4 => andP (pEnd en l4) fun _ l5 => .ok (e, l5)) = .ok (x, t :: r) := by
          show (andP (pEnd en (t :: r)) fun _ l5 => .ok (x, l5)) = _
          rw [he]; rfl
        rw [hx]
        refine ⟨r, ?_, ?_, hs, hlt⟩
        · simp [rEnd, want_tok h4]
        · simp [rSkip, h4]
      · have he : pEnd en (t :: r) = .error (t.2.1, 20) := if_neg h4
        have hx : (andP (.ok (x, t :: r) : Ps MEv) fun e l4 => andP (pEnd en l4) fun _ l5 => .ok (e, l5)) = .error (t.2.1, 20) := by
          show (andP (pEnd en (t :: r)) fun _ l5 => .ok (x, l5)) = _
          rw [he]; rfl
        rw [hx]
        simp [rEnd, want_no h4]
theorem pHist_nil {en : Int} (f : Nat) (out : List MEv) : pHist en (f + 1) [] out = .ok out := by rw [pHist]
theorem pHist_line {en : Int} (f : Nat) (t : MTok) (r : List MTok) (out : List MEv) (h : t.1 = 4) : pHist en (f + 1) (t :: r) out = pHist en f r out := by rw [pHist, if_pos h]
theorem pHist_full {en : Int} (f : Nat) (t : MTok) (r : List MTok) (out : List MEv) (h : ¬ t.1 = 4) (h3 : out.length = 300) : pHist en (f + 1) (t :: r) out = .error (t.2.1, 4) := by rw [pHist, if_neg h, if_pos h3]
theorem pHist_bad {en : Int} (f : Nat) (t : MTok) (r : List MTok) (out : List MEv) (e : Int × Int) (h : ¬ t.1 = 4) (h3 : ¬ out.length = 300) (hp : pEv en (t :: r) = .error e) : pHist en (f + 1) (t :: r) out = .error e := by rw [pHist, if_neg h, if_neg h3, hp]
theorem pHist_more {en : Int} (f : Nat) (t : MTok) (r : List MTok) (out : List MEv) (z : MEv × List MTok) (h : ¬ t.1 = 4) (h3 : ¬ out.length = 300) (hp : pEv en (t :: r) = .ok z) : pHist en (f + 1) (t :: r) out = pHist en f z.2 (out ++ [z.1]) := by rw [pHist, if_neg h, if_neg h3, hp]
theorem rHist_at {en : Int} (g : Nat) (l : List MTok) (out : List MEv) : rHist en (g + 1) l out = if rSkip l = [] then .ok out else rNext (rEv en (if out.length = 300 then rFail en 4 (rSkip l, none) else (rSkip l, none))) fun x l' => rHist en g l' (out ++ [x]) := rfl
theorem rHist_nil {en : Int} (g : Nat) (l : List MTok) (out : List MEv) (h : rSkip l = []) : rHist en (g + 1) l out = .ok out := by rw [rHist_at, if_pos h]
theorem rHist_bad {en : Int} (g : Nat) (l : List MTok) (out : List MEv) (e : Int × Int) (h : ¬ rSkip l = []) (q : MEv × Rd) (hq : rEv en (if out.length = 300 then rFail en 4 (rSkip l, none) else (rSkip l, none)) = q) (he : q.2.2 = some e) : rHist en (g + 1) l out = .error e := by
  rw [rHist_at, if_neg h, hq]
  unfold rNext
  rw [he]
theorem rHist_more {en : Int} (g : Nat) (l : List MTok) (out : List MEv) (x : MEv) (l' : List MTok) (h : ¬ rSkip l = []) (hq : rEv en (if out.length = 300 then rFail en 4 (rSkip l, none) else (rSkip l, none)) = (x, (l', none))) : rHist en (g + 1) l out = rHist en g l' (out ++ [x]) := by
  rw [rHist_at, if_neg h, hq]
  rfl
/-- The code's reader answers as the document's. -/
theorem sim_hist {en : Int} : ∀ (n : Nat) (l l' : List MTok) (out : List MEv) (f g : Nat), Wds l → l.length ≤ n → rSkip l' = rSkip l → l.length < f → (rSkip l).length < g → pHist en f l out = rHist en g l' out := by
  intro n
  induction n with
  | zero =>
    intro l l' out f g hw hn hs hf hg
    have hl : l = [] := List.eq_nil_of_length_eq_zero (by omega)
    subst hl
    obtain ⟨f, rfl⟩ := Nat.exists_eq_succ_of_ne_zero (n := f) (by omega)
    obtain ⟨g, rfl⟩ := Nat.exists_eq_succ_of_ne_zero (n := g) (by omega)
    rw [pHist_nil, rHist_nil _ _ _ hs]
  | succ n ih =>
    intro l l' out f g hw hn hs hf hg
    obtain ⟨f, rfl⟩ := Nat.exists_eq_succ_of_ne_zero (n := f) (by omega)
    obtain ⟨g, rfl⟩ := Nat.exists_eq_succ_of_ne_zero (n := g) (by omega)
    cases l with
    | nil => rw [pHist_nil, rHist_nil _ _ _ hs]
    | cons t r =>
      have hn' : r.length ≤ n := by rw [List.length_cons] at hn; omega
      have hf' : r.length < f := by rw [List.length_cons] at hf; omega
      by_cases h4 : t.1 = 4
      · have hk : rSkip (t :: r) = rSkip r := by rw [rSkip, if_pos h4]
        rw [hk] at hs hg
        rw [pHist_line _ _ _ _ h4]
        exact ih r l' out f (g + 1) (fun x hx => hw x (List.mem_cons_of_mem _ hx)) hn' hs hf' hg
      · have hk : rSkip (t :: r) = t :: r := by rw [rSkip, if_neg h4]
        rw [hk] at hs hg
        have hg' : r.length < g := by rw [List.length_cons] at hg; omega
        have hne : ¬ rSkip l' = [] := by rw [hs]; exact List.cons_ne_nil _ _
        by_cases h3 : out.length = 300
        · rw [pHist_full _ _ _ _ h4 h3]
          refine (rHist_bad g l' out _ hne _ rfl ?_).symm
          rw [if_pos h3, hs]
          have hfl : rFail en 4 (t :: r, none) = (t :: r, some (t.2.1, 4)) := rfl
          rw [hfl, rEv_st]
        · have he := sim_ev (en := en) hw
          cases hp : pEv en (t :: r) with
          | error e =>
            rw [hp] at he
            rw [pHist_bad _ _ _ _ e h4 h3 hp]
            refine (rHist_bad g l' out _ hne _ rfl ?_).symm
            rw [if_neg h3, hs]
            exact he
          | ok z =>
            rw [hp] at he
            obtain ⟨l'', h1, h2, h5, h6⟩ := he
            rw [pHist_more _ _ _ _ z h4 h3 hp, rHist_more g l' out z.1 l'' hne (by rw [if_neg h3, hs]; exact h1)]
            have hz : z.2.length ≤ r.length := by rw [List.length_cons] at h6; omega
            exact ih z.2 l'' _ f g (hw.suf h5) (by omega) h2 (by omega) (by have := rSkip_le z.2; omega)
theorem hist_alike {en : Int} {l : List MTok} (hw : Wds l) : pHist en (l.length + 1) l [] = rHist en (l.length + 1) l [] :=
  sim_hist l.length l l [] _ _ hw (Nat.le_refl _) rfl (by omega) (by have := rSkip_le l; omega)
theorem wds_scan {s : ByteArray} {l : List MTok} (h : scanM s = .ok l) : Wds l := by
  intro t ht h1
  rcases scanM_form h t ht with ⟨_, _, b, r, hx, hb, hr⟩ | h | h | h
  · exact word_of hx hb hr
  · omega
  · omega
  · omega
end Go.Proofs.YtegeiojcdjnmjaaGreatDoor
namespace Go.Proofs.YtegeiojcdjnmjaaGreatDoor
set_option linter.unusedVariables false
set_option linter.unusedSimpArgs false
open Go.RowKit

/-- What the parser looks at. -/
def skel (t : MTok) : MTok := (t.1, 0, if t.1 = 1 ∨ t.1 = 3 then t.2.2.1 else ByteArray.empty, if t.1 = 2 then t.2.2.2 else 0)
def Eqv (l l' : List MTok) : Prop := l.map skel = l'.map skel
theorem Eqv.refl (l : List MTok) : Eqv l l := rfl
theorem Eqv.tail {l l' : List MTok} (h : Eqv l l') : Eqv l.tail l'.tail := by
  unfold Eqv at *
  rw [List.map_tail, List.map_tail, h]
theorem eqv_nil {l' : List MTok} (h : Eqv [] l') : l' = [] := by
  unfold Eqv at h
  cases l' with
  | nil => rfl
  | cons t r => cases h
theorem eqv_cons {t : MTok} {r l' : List MTok} (h : Eqv (t :: r) l') : ∃ t' r', l' = t' :: r' ∧ skel t = skel t' ∧ Eqv r r' := by
  unfold Eqv at h
  cases l' with
  | nil => cases h
  | cons t' r' =>
    simp only [List.map_cons, List.cons.injEq] at h
    exact ⟨t', r', rfl, h.1, h.2⟩
theorem skel_kind {t t' : MTok} (h : skel t = skel t') : t.1 = t'.1 := congrArg (fun x => x.1) h
theorem skel_text {t t' : MTok} (h : skel t = skel t') (hk : t.1 = 1 ∨ t.1 = 3) : t.2.2.1 = t'.2.2.1 := by
  have e := congrArg (fun x => x.2.2.1) h
  have k := skel_kind h
  simp only [skel] at e
  rw [if_pos hk, if_pos (by rw [← k]; exact hk)] at e
  exact e
theorem skel_num {t t' : MTok} (h : skel t = skel t') (hk : t.1 = 2) : t.2.2.2 = t'.2.2.2 := by
  have e := congrArg (fun x => x.2.2.2) h
  have k := skel_kind h
  simp only [skel] at e
  rw [if_pos hk, if_pos (by rw [← k]; exact hk)] at e
  exact e
/-- Both take the same and leave alike; or both give up for the same reason. -/
def Sm {α : Type} (p q : Ps α) : Prop := match p, q with
  | .ok z, .ok z' => z.1 = z'.1 ∧ Eqv z.2 z'.2
  | .error e, .error e' => e.2 = e'.2
  | _, _ => False
theorem Sm.bind {α β : Type} {p q : Ps α} {f g : α → List MTok → Ps β} (h : Sm p q) (hf : ∀ x l l', Eqv l l' → Sm (f x l) (g x l')) : Sm (andP p f) (andP q g) := by
  cases p with
  | error e =>
    cases q with
    | error e' => exact h
    | ok z => exact h.elim
  | ok z =>
    cases q with
    | error e' => exact h.elim
    | ok z' =>
      obtain ⟨x, l⟩ := z
      obtain ⟨x', l'⟩ := z'
      obtain ⟨h1, h2⟩ := h
      have h1' : x = x' := h1
      subst h1'
      exact hf x l l' h2
theorem sm_fail {α : Type} (en en' why : Int) (l l' : List MTok) : Sm (pFail en why l : Ps α) (pFail en' why l') := rfl
theorem sm_ok {α : Type} (x : α) {l l' : List MTok} (h : Eqv l l') : Sm (.ok (x, l) : Ps α) (.ok (x, l')) := ⟨rfl, h⟩
theorem sees_eqv {l l' : List MTok} {k : Int} {x : ByteArray} (hk : k = 1 ∨ k = 3) (h : Eqv l l') : seesP l k x = seesP l' k x := by
  cases l with
  | nil => rw [eqv_nil h]
  | cons t r =>
    obtain ⟨t', r', rfl, h1, h2⟩ := eqv_cons h
    show (t.1 == k && t.2.2.1.toList == x.toList) = (t'.1 == k && t'.2.2.1.toList == x.toList)
    rw [← skel_kind h1]
    by_cases e : t.1 = k
    · rw [skel_text h1 (by rw [e]; exact hk)]
    · have : (t.1 == k) = false := by simpa using e
      rw [this, Bool.false_and, Bool.false_and]
section
variable {en en' : Int}
theorem sm_mark (x : ByteArray) {l l' : List MTok} (h : Eqv l l') : Sm (pMark en x l) (pMark en' x l') := by
  unfold pMark
  rw [← sees_eqv (.inr rfl) h]
  split
  · exact sm_ok () h.tail
  · exact sm_fail _ _ _ _ _
theorem sm_num {l l' : List MTok} (h : Eqv l l') : Sm (pNum en l) (pNum en' l') := by
  cases l with
  | nil => rw [eqv_nil h]; exact sm_fail _ _ _ _ _
  | cons t r =>
    obtain ⟨t', r', rfl, h1, h2⟩ := eqv_cons h
    unfold pNum
    try dsimp only
    rw [← skel_kind h1]
    split
    · rename_i e
      rw [skel_num h1 e]
      exact sm_ok _ h2
    · exact sm_fail _ _ _ _ _
theorem sm_proc {l l' : List MTok} (h : Eqv l l') : Sm (pProc en l) (pProc en' l') := by
  cases l with
  | nil => rw [eqv_nil h]; exact sm_fail _ _ _ _ _
  | cons t r =>
    obtain ⟨t', r', rfl, h1, h2⟩ := eqv_cons h
    unfold pProc
    try dsimp only
    rw [← skel_kind h1]
    by_cases e : t.1 = 2
    · rw [skel_num h1 e]
      split
      · exact sm_ok _ h2
      · exact sm_fail _ _ _ _ _
    · rw [if_neg (fun c => e c.1), if_neg (fun c => e c.1)]
      exact sm_fail _ _ _ _ _
theorem sm_key {l l' : List MTok} (h : Eqv l l') : Sm (pKey en l) (pKey en' l') := by
  cases l with
  | nil => rw [eqv_nil h]; exact sm_fail _ _ _ _ _
  | cons t r =>
    obtain ⟨t', r', rfl, h1, h2⟩ := eqv_cons h
    unfold pKey
    try dsimp only
    rw [← skel_kind h1]
    by_cases e : t.1 = 1
    · rw [skel_text h1 (.inl e)]
      split
      · exact sm_ok _ h2
      · exact sm_fail _ _ _ _ _
    · rw [if_neg (fun c => e c.1), if_neg (fun c => e c.1)]
      exact sm_fail _ _ _ _ _
theorem sm_kind {l l' : List MTok} (h : Eqv l l') : ∀ (ws : List ByteArray) (k : Nat), Sm (pKind en l k ws) (pKind en' l' k ws)
  | [], k => sm_fail _ _ _ _ _
  | x :: xs, k => by
    unfold pKind
    rw [← sees_eqv (.inl rfl) h]
    split
    · exact sm_ok _ h.tail
    · exact sm_kind h xs (k + 1)
theorem sm_nums : ∀ {l l' : List MTok} (acc : List Int), Eqv l l' → Sm (pNums en l acc) (pNums en' l' acc)
  | [], l', acc, h => by rw [eqv_nil h]; exact sm_ok _ (Eqv.refl _)
  | t :: r, l', acc, h => by
    obtain ⟨t', r', rfl, h1, h2⟩ := eqv_cons h
    unfold pNums
    try dsimp only
    rw [← skel_kind h1]
    by_cases e : t.1 = 2
    · rw [if_pos e, if_pos e, skel_num h1 e]
      split
      · exact sm_fail _ _ _ _ _
      · exact sm_nums _ h2
    · rw [if_neg e, if_neg e]
      exact sm_ok _ h
theorem sm_list {l l' : List MTok} (h : Eqv l l') : Sm (pList en l) (pList en' l') :=
  (sm_mark _ h).bind fun _ _ _ h1 => (sm_nums [] h1).bind fun xs _ _ h2 => (sm_mark _ h2).bind fun _ _ _ h3 => sm_ok xs h3
theorem sm_mid (k : Int) (s : ByteArray) {l l' : List MTok} (h : Eqv l l') : Sm (pMid en k s l) (pMid en' k s l') := by
  unfold pMid
  split
  · exact (sm_num h).bind fun x _ _ h1 => sm_ok _ h1
  · split
    · rw [← sees_eqv (.inl rfl) h]
      split
      · exact sm_ok _ h.tail
      · cases l with
        | nil => rw [eqv_nil h]; exact sm_ok _ (Eqv.refl _)
        | cons t r =>
          obtain ⟨t', r', rfl, h1, h2⟩ := eqv_cons h
          simp only
          rw [← skel_kind h1]
          by_cases e : t.1 = 2
          · rw [if_pos e, if_pos e, skel_num h1 e]
            exact sm_ok _ h2
          · rw [if_neg e, if_neg e]
            exact sm_ok _ h
    · split
      · rw [← sees_eqv (.inr rfl) h]
        split
        · exact (sm_list h).bind fun xs _ _ h1 => sm_ok _ h1
        · exact sm_ok _ h
      · exact sm_ok _ h
theorem sm_op {l l' : List MTok} (h : Eqv l l') : Sm (pOp en l) (pOp en' l') :=
  (sm_mark _ h).bind fun _ _ _ h1 => (sm_kind h1 _ _).bind fun k _ _ h2 => (sm_key h2).bind fun s _ _ h3 => (sm_mid k s h3).bind fun o _ _ h4 => (sm_mark _ h4).bind fun _ _ _ h5 => sm_ok o h5
theorem sm_ops : ∀ (f : Nat) {l l' : List MTok} (acc : List MOp), Eqv l l' → Sm (pOps en f l acc) (pOps en' f l' acc)
  | 0, l, l', acc, h => sm_ok _ h
  | f + 1, l, l', acc, h => by
    unfold pOps
    rw [← sees_eqv (.inr rfl) h]
    split
    · split
      · exact sm_fail _ _ _ _ _
      · exact (sm_op h).bind fun o _ _ h1 => sm_ops f _ h1
    · exact sm_ok _ h
theorem sm_end {l l' : List MTok} (h : Eqv l l') : Sm (pEnd en l) (pEnd en' l') := by
  cases l with
  | nil => rw [eqv_nil h]; exact sm_ok _ (Eqv.refl _)
  | cons t r =>
    obtain ⟨t', r', rfl, h1, h2⟩ := eqv_cons h
    unfold pEnd
    try dsimp only
    rw [← skel_kind h1]
    split
    · exact sm_ok _ h
    · exact sm_fail _ _ _ _ _
theorem sm_ev {l l' : List MTok} (h : Eqv l l') : Sm (pEv en l) (pEv en' l') := by
  have hb : ∀ k m m', Eqv m m' → Sm (pEvB en k m) (pEvB en' k m') := fun k m m' hm =>
    (sm_proc hm).bind fun p _ _ h2 => (sm_op h2).bind fun o _ _ h3 => (sm_ops 10 [o] h3).bind fun os _ _ h4 => sm_ok _ h4
  exact ((sm_kind h _ _).bind fun k _ _ h1 => hb k _ _ h1).bind fun e _ _ h4 => (sm_end h4).bind fun _ _ _ h5 => sm_ok e h5
end
/-- Both are the same history, or both a fault for the same reason. -/
def SmH (p q : Except (Int × Int) (List MEv)) : Prop := match p, q with
  | .ok l, .ok l' => l = l'
  | .error e, .error e' => e.2 = e'.2
  | _, _ => False
theorem sm_hist {en en' : Int} : ∀ (f : Nat) {l l' : List MTok} (out : List MEv), Eqv l l' → SmH (pHist en f l out) (pHist en' f l' out)
  | 0, l, l', out, h => rfl
  | f + 1, [], l', out, h => by rw [eqv_nil h, pHist_nil, pHist_nil]; exact rfl
  | f + 1, t :: r, l', out, h => by
    obtain ⟨t', r', rfl, h1, h2⟩ := eqv_cons h
    have hk := skel_kind h1
    by_cases h4 : t.1 = 4
    · rw [pHist_line _ _ _ _ h4, pHist_line _ _ _ _ (by rw [← hk]; exact h4)]
      exact sm_hist f out h2
    · have h4' : ¬ t'.1 = 4 := by rw [← hk]; exact h4
      by_cases h3 : out.length = 300
      · rw [pHist_full _ _ _ _ h4 h3, pHist_full _ _ _ _ h4' h3]
        exact rfl
      · have he := sm_ev (en := en) (en' := en') h
        cases hp : pEv en (t :: r) with
        | error e =>
          cases hq : pEv en' (t' :: r') with
          | error e' =>
            rw [hp, hq] at he
            rw [pHist_bad _ _ _ _ e h4 h3 hp, pHist_bad _ _ _ _ e' h4' h3 hq]
            exact he
          | ok z => rw [hp, hq] at he; exact he.elim
        | ok z =>
          cases hq : pEv en' (t' :: r') with
          | error e' => rw [hp, hq] at he; exact he.elim
          | ok z' =>
            rw [hp, hq] at he
            rw [pHist_more _ _ _ _ z h4 h3 hp, pHist_more _ _ _ _ z' h4' h3 hq]
            obtain ⟨e1, e2⟩ := he
            rw [e1]
            exact sm_hist f _ e2
end Go.Proofs.YtegeiojcdjnmjaaGreatDoor
namespace Go.Proofs.YtegeiojcdjnmjaaGreatDoor
set_option linter.unusedVariables false
set_option linter.unusedSimpArgs false


/-- From i on in s and from p on in t the same bytes stand, up to N, where a line or the text ends. -/
structure Alk (s t : ByteArray) (i p N : Nat) : Prop where
  same : ∀ j, j ≤ N → bt t (p + j) = bt s (i + j)
  stop : bt s (i + N) = 10 ∨ bt s (i + N) = 0
section
variable {s t : ByteArray} {i p N : Nat}
theorem Alk.run (h : Alk s t i p N) {q : Nat → Bool} (h10 : q 10 = false) (h0 : q 0 = false) {u v : Nat} (hr : RunEnd q s (i + u) (i + v)) (hu : u ≤ N) : v ≤ N ∧ RunEnd q t (p + u) (p + v) := by
  have hv : v ≤ N := by
    by_cases hc : v ≤ N
    · exact hc
    · have := hr.2.1 (i + N) (by omega) (by omega)
      rcases h.stop with e | e
      · rw [e, h10] at this; cases this
      · rw [e, h0] at this; cases this
  refine ⟨hv, by have := hr.1; omega, fun j h1 h2 => ?_, ?_⟩
  · have e := h.same (j - p) (by omega)
    rw [show p + (j - p) = j by omega] at e
    rw [e]
    exact hr.2.1 (i + (j - p)) (by omega) (by omega)
  · rw [h.same v hv]
    exact hr.2.2
theorem Alk.dEnds (h : Alk s t i p N) {u : Nat} (hu : u ≤ N) : ∃ v, u ≤ v ∧ v ≤ N ∧ dEnd s (i + u) = i + v ∧ dEnd t (p + u) = p + v := by
  have hr := dEnd_is s (i + u)
  obtain ⟨v, hv⟩ : ∃ v, dEnd s (i + u) = i + v := ⟨dEnd s (i + u) - i, by have := hr.1; omega⟩
  rw [hv] at hr
  obtain ⟨h1, h2⟩ := h.run rfl rfl hr hu
  exact ⟨v, by have := hr.1; omega, h1, hv, (dEnd_is t (p + u)).uniq h2⟩
theorem Alk.wEnds (h : Alk s t i p N) : ∃ v, v ≤ N ∧ wEnd s i = i + v ∧ wEnd t p = p + v := by
  have hr := wEnd_is s i
  obtain ⟨v, hv⟩ : ∃ v, wEnd s i = i + v := ⟨wEnd s i - i, by have := hr.1; omega⟩
  rw [hv] at hr
  obtain ⟨h1, h2⟩ := h.run (u := 0) rfl rfl hr (Nat.zero_le _)
  exact ⟨v, h1, hv, (wEnd_is t p).uniq h2⟩
theorem Alk.dvs (h : Alk s t i p N) {f : Nat} : ∀ k, f + k ≤ N + 1 → dv t (p + f) k = dv s (i + f) k
  | 0, _ => rfl
  | k + 1, hk => by
    have ih := Alk.dvs (f := f) h k (by omega)
    have e := h.same (f + k) (by omega)
    simp only [dv]
    rw [ih, show p + f + k = p + (f + k) by omega, show i + f + k = i + (f + k) by omega, e]
/-- A number's parts, from i and from p on alike. -/
theorem Alk.num (h : Alk s t i p N) (hb : bt s i = 45 ∨ isDg (bt s i) = true) :
    ∃ f, f ≤ N ∧ f ≤ 1 ∧ nF s i = i + f ∧ nF t p = p + f ∧ bt t (p + f) = bt s (i + f) ∧ (bt t p = bt s i) := by
  have e0 := h.same 0 (Nat.zero_le _)
  rw [Nat.add_zero, Nat.add_zero] at e0
  have hN : 1 ≤ N := by
    by_cases hc : N = 0
    · have hs := h.stop
      rw [hc, Nat.add_zero] at hs
      rcases hb with e | e
      · omega
      · rw [isDg_iff] at e; omega
    · omega
  by_cases h45 : bt s i = 45
  · exact ⟨1, hN, Nat.le_refl _, by unfold nF; rw [if_pos h45], by unfold nF; rw [if_pos (by rw [e0]; exact h45)], h.same 1 hN, e0⟩
  · exact ⟨0, Nat.zero_le _, by omega, by unfold nF; rw [if_neg h45]; rfl, by unfold nF; rw [if_neg (by rw [e0]; exact h45)]; rfl, h.same 0 (Nat.zero_le _), e0⟩
theorem Alk.nums (h : Alk s t i p N) (hb : bt s i = 45 ∨ isDg (bt s i) = true) (hbad : ¬ nBad s i) :
    ∃ v, v ≤ N ∧ nE s i = i + v ∧ nE t p = p + v ∧ nV t p = nV s i ∧ bt t p = bt s i ∧ ¬ nBad t p := by
  obtain ⟨f, hf, hf1, f1, f2, f3, e0⟩ := h.num hb
  have hd : 48 ≤ bt s (i + f) ∧ bt s (i + f) ≤ 57 := by
    unfold nBad at hbad
    rw [f1] at hbad
    by_cases h45 : bt s i = 45
    · omega
    · have hf0 : f = 0 := by
        have : nF s i = i := by unfold nF; rw [if_neg h45]
        omega
      rcases hb with e | e
      · exact absurd e h45
      · rw [isDg_iff] at e
        rw [hf0]; exact e
  have hfN : f + 1 ≤ N := by
    by_cases hc : f = N
    · have hs := h.stop
      rw [← hc] at hs
      omega
    · omega
  have hbt : ¬ nBad t p := by
    unfold nBad at *
    rw [f2, f3, e0]
    rw [f1] at hbad
    exact hbad
  by_cases h48 : bt s (i + f) = 48
  · refine ⟨f + 1, hfN, ?_, ?_, ?_, e0, hbt⟩
    · unfold nE; rw [f1, if_pos h48]; omega
    · unfold nE; rw [f2, if_pos (by rw [f3]; exact h48)]; omega
    · unfold nV nE
      rw [f1, f2, if_pos h48, if_pos (by rw [f3]; exact h48)]
      rw [show p + f + 1 - (p + f) = 1 by omega, show i + f + 1 - (i + f) = 1 by omega]
      exact h.dvs 1 (by omega)
  · obtain ⟨v, v1, v2, v3, v4⟩ := h.dEnds (u := f + 1) hfN
    have g1 : nE s i = i + v := by unfold nE; rw [f1, if_neg h48, show i + f + 1 = i + (f + 1) by omega]; exact v3
    have g2 : nE t p = p + v := by unfold nE; rw [f2, if_neg (by rw [f3]; exact h48), show p + f + 1 = p + (f + 1) by omega]; exact v4
    refine ⟨v, v2, g1, g2, ?_, e0, hbt⟩
    unfold nV
    rw [g1, g2, f1, f2, show p + v - (p + f) = v - f by omega, show i + v - (i + f) = v - f by omega]
    exact h.dvs (v - f) (by omega)
/-- The same number, or a fault of the same number. -/
theorem Alk.numMs (h : Alk s t i p N) (hb : bt s i = 45 ∨ isDg (bt s i) = true) :
    (∃ a a' y, numM s i = .error (a, y) ∧ numM t p = .error (a', y)) ∨ (∃ n v, v ≤ N ∧ 1 ≤ v ∧ numM s i = .ok (n, i + v) ∧ numM t p = .ok (n, p + v)) := by
  by_cases hbad : nBad s i
  · obtain ⟨f, hf, hf1, f1, f2, f3, e0⟩ := h.num hb
    have hbt : nBad t p := by
      unfold nBad at *
      rw [f2, f3, e0]
      rw [f1] at hbad
      exact hbad
    exact .inl ⟨_, _, _, numM_bad hbad, numM_bad hbt⟩
  · obtain ⟨v, v1, g1, g2, gV, e0, hbt⟩ := h.nums hb hbad
    by_cases hbig : nBig s i
    · have hbg : nBig t p := by unfold nBig at *; rw [gV, e0]; exact hbig
      exact .inl ⟨_, _, _, numM_big hbad hbig, numM_big hbt hbg⟩
    · have hbg : ¬ nBig t p := by unfold nBig at *; rw [gV, e0]; exact hbig
      cases hw : isWd (bt s (nE s i)) with
      | true =>
        have hw2 : isWd (bt t (nE t p)) = true := by rw [g2, h.same v v1, ← g1]; exact hw
        exact .inl ⟨_, _, _, numM_wd hbad hbig hw, numM_wd hbt hbg hw2⟩
      | false =>
        have hw2 : isWd (bt t (nE t p)) = false := by rw [g2, h.same v v1, ← g1]; exact hw
        have hn : nN t p = nN s i := by unfold nN; rw [gV, e0]
        have hi : i < s.size := by
          by_cases hc : i < s.size
          · exact hc
          · rw [bt_out hc] at hb
            rcases hb with e | e
            · omega
            · cases e
        have hgt := nE_gt hbad hi
        refine .inr ⟨nN s i, v, v1, by omega, ?_, ?_⟩
        · rw [numM_ok hbad hbig hw, g1]
        · rw [numM_ok hbt hbg hw2, g2, hn]
end
end Go.Proofs.YtegeiojcdjnmjaaGreatDoor
namespace Go.Proofs.YtegeiojcdjnmjaaGreatDoor
set_option linter.unusedVariables false
set_option linter.unusedSimpArgs false

theorem bl_alike {s t : ByteArray} : ∀ (n i p : Nat), (∀ j, j < n → bt t (p + j) = bt s (i + j)) → bl t p n = bl s i n
  | 0, i, p, _ => rfl
  | n + 1, i, p, h => by
    have h0 := h 0 (by omega)
    rw [Nat.add_zero, Nat.add_zero] at h0
    show UInt8.ofNat (bt t p) :: bl t (p + 1) n = UInt8.ofNat (bt s i) :: bl s (i + 1) n
    rw [h0, bl_alike n (i + 1) (p + 1) (fun j hj => by rw [show p + 1 + j = p + (j + 1) by omega, show i + 1 + j = i + (j + 1) by omega]; exact h (j + 1) (by omega))]
theorem extract_alike {s t : ByteArray} {i p v : Nat} (h : ∀ j, j < v → bt t (p + j) = bt s (i + j)) (h1 : i + v ≤ s.size) (h2 : p + v ≤ t.size) : t.extract p (p + v) = s.extract i (i + v) := by
  rw [ByteArray.ext_iff, ← Array.toList_inj, extract_bl t p (p + v) h2, extract_bl s i (i + v) h1, show p + v - p = v by omega, show i + v - i = v by omega]
  exact bl_alike v i p h
theorem in_of_bt {s : ByteArray} {i : Nat} (h : bt s i ≠ 0) : i < s.size := by
  by_cases hc : i < s.size
  · exact hc
  · exact absurd (bt_out hc) h
/-- The same token behind the same bytes, or a fault of the same number. -/
theorem Alk.tok {s t : ByteArray} {i p N : Nat} (h : Alk s t i p N) (hi : i < s.size) (hp : p < t.size) (h10 : bt s i ≠ 10) :
    (∃ a a' y, tokM s i = .error (a, y) ∧ tokM t p = .error (a', y)) ∨ (∃ τ τ' v, 1 ≤ v ∧ v ≤ N ∧ tokM s i = .ok (τ, i + v) ∧ tokM t p = .ok (τ', p + v) ∧ skel τ' = skel τ ∧ τ.1 ≠ 4) := by
  have e0 := h.same 0 (Nat.zero_le _)
  rw [Nat.add_zero, Nat.add_zero] at e0
  by_cases hsm : isSm (bt s i) = true
  · obtain ⟨v, v1, g1, g2⟩ := h.wEnds
    have hr := wEnd_is s i
    have hv1 : 1 ≤ v := by
      by_cases hc : v = 0
      · rw [g1, hc, Nat.add_zero] at hr
        have := hr.2.2
        unfold isWd at this
        rw [hsm] at this
        cases this
      · omega
    have hsz : i + v ≤ s.size := by rw [← g1]; exact hr.le_size rfl (Nat.le_of_lt hi)
    have htz : p + v ≤ t.size := by rw [← g2]; exact (wEnd_is t p).le_size rfl (Nat.le_of_lt hp)
    have hx := extract_alike (s := s) (t := t) (i := i) (p := p) (v := v) (fun j hj => h.same j (by omega)) hsz htz
    refine .inr ⟨(1, (i : Int), s.extract i (i + v), 0), (1, (p : Int), t.extract p (p + v), 0), v, hv1, v1, ?_, ?_, ?_, (show (1 : Int) ≠ 4 by decide)⟩
    · unfold tokM; rw [if_pos hsm, g1]
    · unfold tokM; rw [if_pos (by rw [e0]; exact hsm), g2]
    · rw [hx]; rfl
  · by_cases hnm : bt s i = 45 ∨ isDg (bt s i) = true
    · rcases h.numMs hnm with ⟨a, a', y, n1, n2⟩ | ⟨n, v, v1, v2, n1, n2⟩
      · refine .inl ⟨a, a', y, ?_, ?_⟩
        · unfold tokM; rw [if_neg hsm, if_pos hnm, n1]
        · unfold tokM; rw [if_neg (by rw [e0]; exact hsm), if_pos (by rw [e0]; exact hnm), n2]
      · refine .inr ⟨(2, (i : Int), s.extract i (i + v), n), (2, (p : Int), t.extract p (p + v), n), v, v2, v1, ?_, ?_, rfl, (show (2 : Int) ≠ 4 by decide)⟩
        · unfold tokM; rw [if_neg hsm, if_pos hnm, n1]
        · unfold tokM; rw [if_neg (by rw [e0]; exact hsm), if_pos (by rw [e0]; exact hnm), n2]
    · by_cases hmk : bt s i = 40 ∨ bt s i = 41 ∨ bt s i = 91 ∨ bt s i = 93
      · have hN : 1 ≤ N := by
          by_cases hc : N = 0
          · have hs := h.stop
            rw [hc, Nat.add_zero] at hs
            omega
          · omega
        have hx := extract_alike (s := s) (t := t) (i := i) (p := p) (v := 1) (fun j hj => h.same j (by omega)) (by omega) (by omega)
        refine .inr ⟨(3, (i : Int), s.extract i (i + 1), 0), (3, (p : Int), t.extract p (p + 1), 0), 1, Nat.le_refl _, hN, ?_, ?_, ?_, (show (3 : Int) ≠ 4 by decide)⟩
        · unfold tokM; rw [if_neg hsm, if_neg hnm, if_pos hmk]
        · unfold tokM; rw [if_neg (by rw [e0]; exact hsm), if_neg (by rw [e0]; exact hnm), if_pos (by rw [e0]; exact hmk)]
        · rw [hx]; rfl
      · refine .inl ⟨i, p, 10, ?_, ?_⟩
        · unfold tokM; rw [if_neg hsm, if_neg hnm, if_neg hmk, if_neg h10]
        · unfold tokM; rw [if_neg (by rw [e0]; exact hsm), if_neg (by rw [e0]; exact hnm), if_neg (by rw [e0]; exact hmk), if_neg (by rw [e0]; exact h10)]
theorem tok_line10 {s : ByteArray} {i : Nat} (h : bt s i = 10) : tokM s i = .ok ((4, (i : Int), s.extract i (i + 1), 0), i + 1) := by
  unfold tokM
  rw [h]
  rfl
end Go.Proofs.YtegeiojcdjnmjaaGreatDoor
