/-
  A serial history of lists, plain: no anomaly, and dependencies that lead on.
  A region that draws its order and whose operations write into what it has made itself: what is known of an operation's value holds until the operation that uses it up.
  A region that draws its order, reads, and has two operations that change the memory: what the memory is like is told by which of the two have come.
  What serial holds in memory: a map of rows of ints, each a block of its own; rows of operations and transactions whose lists lie in blocks that no longer change.
  What serial has done so far: plain, and in memory.
-/
import Derived.Test.YtnfbcmnlloipiaaV13
import Derived.Test.YtnfbcmnlloipiaaV12
namespace Go.Proofs.Ytnfbcmnlloipiaa
set_option linter.unusedVariables false
set_option linter.unusedSimpArgs false
open Go.RowKit Go.Lib Go.Maps
open Tx (MTxn)
section
variable {l : List MTxn} {s : ByteArray}
theorem Ser.val (h : Ser l) {i j : Nat} (hij : i < j) (hj : j < (apN l s).length) : (apK l s i).2.2.value < (apK l s j).2.2.value := by
  have hp := (serF_rises _ _ h.ser).filter (isA s)
  have := List.pairwise_iff_getElem.1 hp i j (by show i < (apN l s).length; omega) hj hij
  unfold apK
  rw [getD_is hj, getD_is (show i < (apN l s).length by omega)]
  refine this ?_ ?_
  · exact (isA_kind (apN_mem (l := l) (s := s) (List.getElem_mem _)).2).1
  · exact (isA_kind (apN_mem (l := l) (s := s) (List.getElem_mem _)).2).1
theorem apK_left {A1 A2 : List MN} (e : apN l s = A1 ++ A2) {k : Nat} (hk : k < A1.length) : apK l s k ∈ A1 := by
  unfold apK
  rw [e, List.getD, List.getElem?_append_left hk, List.getElem?_eq_getElem hk]
  exact List.getElem_mem hk
theorem apK_right {A1 A2 : List MN} (e : apN l s = A1 ++ A2) {k : Nat} (hk : A1.length ≤ k) (hl : k < (apN l s).length) : apK l s k ∈ A2 := by
  have h2 : k - A1.length < A2.length := by
    rw [e, List.length_append] at hl
    omega
  unfold apK
  rw [e, List.getD, List.getElem?_append_right hk, List.getElem?_eq_getElem h2]
  exact List.getElem_mem h2
theorem Ser.state (h : Ser l) {x : MN} (hx : x ∈ notes l l.length) : failB (l.getD x.1 default).state = false := by
  rw [h.st _ (getD_mem l _ (notes_at _ hx).1)]
  rfl
theorem Ser.twice (h : Ser l) {xs : List Int} (hp : xs <+: (apN l s).map (fun x => x.2.2.value)) {k : Nat} (hk : k < xs.length) : twB xs k = false := by
  unfold twB cntK
  rw [decide_eq_false_iff_not]
  have : (xs.take k).count (xs.getD k default) = 0 := by
    rw [List.count_eq_zero]
    intro c
    obtain ⟨j, hj, e⟩ := List.mem_iff_getElem.1 c
    have hj2 : j < k := by rw [List.length_take] at hj; omega
    rw [List.getElem_take] at e
    have e1 := (pre_at hp (show j < xs.length by omega)).1
    rw [List.getD, List.getElem?_eq_getElem (show j < xs.length by omega)] at e1
    have e2 := pre_at hp hk
    have := h.val hj2 e2.2
    rw [← e2.1, ← e1, ← e] at this
    exact absurd this (Int.lt_irrefl _)
  omega
theorem Ser.final (h : Ser l) {A1 A2 : List MN} (e : apN l s = A1 ++ A2) {ri rj : Nat} (h1 : ∀ a ∈ A1, a.1 < ri ∨ (a.1 = ri ∧ a.2.1 < rj)) (h2 : ∀ a ∈ A2, ri < a.1 ∨ (ri = a.1 ∧ rj < a.2.1)) {k : Nat} (hk : A1.length = k + 1) : finB (l.getD (apK l s k).1 default).ops (apK l s k).2.1 = true ∨ (apK l s k).1 = ri := by
  by_cases hri : (apK l s k).1 = ri
  · exact .inr hri
  · refine .inl ((finB_is _ _).2 ?_)
    have hin := apK_left e (show k < A1.length by omega)
    have hA := apN_mem (l := l) (s := s) (x := apK l s k) (by rw [e]; exact List.mem_append_left _ hin)
    obtain ⟨n1, n2, n3⟩ := notes_at _ hA.1
    have hlt := h1 _ hin
    refine ⟨n2, ?_, fun j hj hjl c => ?_⟩
    · rw [← n3]
      unfold isW
      rw [(isA_kind hA.2).1]
      rfl
    · have hy := notes_has l l.length (apK l s k).1 j n1 hjl
      have hyA : ((apK l s k).1, j, (l.getD (apK l s k).1 default).ops.getD j default) ∈ apN l s := by
        refine List.mem_filter.2 ⟨hy, ?_⟩
        unfold isA
        have hkd : ((l.getD (apK l s k).1 default).ops.getD j default).kind = 1 := by
          rcases h.kind hy with q | q
          · exact q
          · have c1 := c.1
            unfold isW at c1
            have q' : ((l.getD (apK l s k).1 default).ops.getD j default).kind = 2 := q
            rw [q'] at c1
            exact absurd c1 (by decide)
        have hky : ((l.getD (apK l s k).1 default).ops.getD j default).key = s := by
          rw [c.2, ← n3]
          exact (isA_kind hA.2).2
        simp only [Bool.and_eq_true, beq_iff_eq, decide_eq_true_eq]
        exact ⟨hkd, hky⟩
      obtain ⟨i, hi, ei⟩ := List.mem_iff_getElem.1 hyA
      have ei2 : apK l s i = ((apK l s k).1, j, (l.getD (apK l s k).1 default).ops.getD j default) := by
        rw [← ei]
        show (apN l s).getD i default = _
        rw [List.getD, List.getElem?_eq_getElem hi]
        rfl
      have ei3 : (apK l s i).1 = (apK l s k).1 := by rw [ei2]
      have ei4 : (apK l s i).2.1 = j := by rw [ei2]
      by_cases hik : i < k + 1
      · by_cases hik2 : i = k
        · subst hik2
          omega
        · have := apK_lx (l := l) (s := s) (show i < k by omega) (by rw [e, List.length_append]; omega)
          unfold lx at this
          omega
      · have := h2 _ (apK_right e (show A1.length ≤ i by omega) hi)
        omega
theorem Ser.find (h : Ser l) {r : MRx} (hr : r ∈ rdsN l s (notes l l.length)) (i : Nat) : findM (knwN l s (notes l l.length)) r.1 r.2.1 r.2.2 i = none := by
  have hp := h.starts hr
  obtain ⟨A1, A2, e, e2, h1, h2⟩ := h.read hr
  have el : r.2.2.length = A1.length := by rw [e2, List.length_map]
  match i with
  | 0 =>
    show ((List.range r.2.2.length).find? (twB r.2.2)).map _ = none
    rw [find_none fun k hk => h.twice hp (List.mem_range.1 hk)]
    rfl
  | 1 =>
    show (r.2.2.find? (garB (srcN l s (notes l l.length)) r.1 r.2.1)).map _ = none
    rw [find_none fun x hx => ?_]
    · rfl
    · obtain ⟨k, hk, rfl⟩ := mem_getD hx
      unfold garB
      rw [h.srcK hp hk]
      have := h1 _ (apK_left e (show k < A1.length by omega))
      have c1 : (srcOf l (apK l s k)).1 = (apK l s k).1 := rfl
      have c2 : (srcOf l (apK l s k)).2.1 = (apK l s k).2.1 := rfl
      simp only [c1, c2, Bool.and_eq_false_iff, decide_eq_false_iff_not]
      omega
  | 2 =>
    show (r.2.2.find? (abrB (srcN l s (notes l l.length)))).map _ = none
    rw [find_none fun x hx => ?_]
    · rfl
    · obtain ⟨k, hk, rfl⟩ := mem_getD hx
      unfold abrB
      rw [h.srcK hp hk]
      exact h.state (apN_mem (apK_mem (pre_at hp hk).2)).1
  | 3 =>
    simp only [findM]
    by_cases h0 : r.2.2.length = 0
    · rw [if_pos h0]
    · rw [if_neg h0, show (knwN l s (notes l l.length)).f = srcN l s (notes l l.length) from rfl, h.srcK hp (show r.2.2.length - 1 < r.2.2.length by omega)]
      have := h.final e h1 h2 (k := r.2.2.length - 1) (by omega)
      exact if_pos this
  | n + 4 =>
    show (if r.2.2 = (knwN l s (notes l l.length)).ts.take r.2.2.length then none else _) = none
    refine if_pos ?_
    have hm : r.2.2.length ≤ (knwN l s (notes l l.length)).ts.length := long_max hr
    exact List.prefix_iff_eq_take.1 (List.prefix_of_prefix_length_le hp h.trace hm)
theorem flat_nil {α β : Type} {g : α → List β} {xs : List α} (h : ∀ x ∈ xs, g x = []) : xs.flatMap g = [] := by
  rw [List.flatMap_eq_nil_iff]
  exact h
theorem Ser.upto (h : Ser l) : uptoA (knwN l s (notes l l.length)) s (rdsN l s (notes l l.length)) 5 0 = [] := by
  unfold uptoA
  simp only [List.take_zero, List.flatMap_nil, List.append_nil]
  refine flat_nil fun i _ => flat_nil fun r hr => ?_
  unfold oneA
  rw [h.find hr i]
theorem Ser.ano (h : Ser l) : anoN l s = [] := by
  unfold anoN anoM
  rw [h.upto, if_pos (show harmB [] = true from rfl), List.nil_append]
  exact h.dis h.trace _ (Nat.le_refl _)
theorem Ser.ok (h : Ser l) (hk : Go.Proofs.Ytnfbcmnlloipiaa.kindN (notes l l.length) s ≠ 0) : okN l s := ⟨h.tell hk, by rw [h.ano]; rfl⟩
/-- What is told once. -/
theorem fold_mem : ∀ (ws out : List MWy) (y : MWy), y ∈ ws.foldl stepW out → y ∈ out ∨ (y ∈ ws ∧ y.1 ≠ y.2.1)
  | [], out, y, h => .inl h
  | a :: ws, out, y, h => by
    rcases fold_mem ws (stepW out a) y h with q | q
    · unfold stepW at q
      split at q
      · exact .inl q
      · rename_i c
        rcases List.mem_append.1 q with q | q
        · exact .inl q
        · rw [List.mem_singleton] at q
          subst q
          refine .inr ⟨by simp, fun e => c ?_⟩
          rw [decide_eq_true e]
          rfl
    · exact .inr ⟨List.mem_cons_of_mem _ q.1, q.2⟩
theorem fold_keep : ∀ (ws out : List MWy) (y : MWy), y ∈ out → y ∈ ws.foldl stepW out
  | [], out, y, h => h
  | a :: ws, out, y, h => fold_keep ws _ y (by
      unfold stepW
      split
      · exact h
      · exact List.mem_append_left _ h)
theorem fold_in : ∀ (ws out : List MWy) (y : MWy), y ∈ ws → y.1 ≠ y.2.1 → y ∈ ws.foldl stepW out
  | [], out, y, h, _ => by cases h
  | a :: ws, out, y, h, hn => by
    rcases List.mem_cons.1 h with rfl | h
    · refine fold_keep ws _ y ?_
      unfold stepW
      split
      · rename_i c
        rw [Bool.or_eq_true, decide_eq_true_eq] at c
        rcases c with c | c
        · exact absurd c hn
        · exact (inW_iff _ _).1 c
      · simp
    · exact fold_in ws _ y h hn
theorem Ser.leads (h : Ser l) {y : MWy} (hy : y ∈ edgN l s) : 0 ≤ y.1 ∧ y.1 < y.2.1 ∧ y.2.1 < (l.length : Int) := by
  unfold edgN onceW at hy
  rcases fold_mem _ _ _ hy with q | ⟨q, hne⟩
  · cases q
  have lt : ∀ {k}, k < (apN l s).length → (apK l s k).1 < l.length := fun hk => (notes_at _ (apN_mem (apK_mem hk)).1).1
  unfold depsL at q
  rcases List.mem_append.1 q with q | q
  · obtain ⟨i, hi, rfl⟩ := List.mem_map.1 q
    have hi := List.mem_range.1 hi
    have e1 := h.srcT h.trace (s := s) (k := i) (by omega)
    have e2 := h.srcT h.trace (s := s) (k := i + 1) (by omega)
    have l2 := (pre_at (h.trace (s := s)) (k := i + 1) (by omega)).2
    have := apK_lx (l := l) (s := s) (show i < i + 1 by omega) l2
    have := lt l2
    unfold wwE at hne ⊢
    simp only [e1, e2] at hne ⊢
    unfold lx at *
    omega
  · rcases List.mem_append.1 q with q | q
    · obtain ⟨r, hr, q⟩ := List.mem_flatMap.1 q
      have hp := h.starts hr
      obtain ⟨A1, A2, e, e2, h1, h2⟩ := h.read hr
      have el : r.2.2.length = A1.length := by rw [e2, List.length_map]
      have rl : r.1 < l.length := by
        obtain ⟨x, hx, rfl⟩ := rds_mem hr
        exact (notes_at _ hx).1
      unfold wrE at q
      split at q
      · cases q
      · rw [List.mem_singleton] at q
        subst q
        have e1 := h.srcT hp (k := r.2.2.length - 1) (by omega)
        have := h1 _ (apK_left e (show r.2.2.length - 1 < A1.length by omega))
        simp only [e1] at hne ⊢
        omega
    · obtain ⟨r, hr, q⟩ := List.mem_flatMap.1 q
      have hp := h.starts hr
      obtain ⟨A1, A2, e, e2, h1, h2⟩ := h.read hr
      have el : r.2.2.length = A1.length := by rw [e2, List.length_map]
      unfold rwE at q
      split at q
      · rename_i hlt
        rw [List.mem_singleton] at q
        subst q
        have e1 := h.srcT h.trace (s := s) (k := r.2.2.length) hlt
        have l2 := (pre_at (h.trace (s := s)) (k := r.2.2.length) hlt).2
        have := h2 _ (apK_right e (show A1.length ≤ r.2.2.length by omega) l2)
        have := lt l2
        simp only [e1] at hne ⊢
        omega
      · cases q
/-- Along the trace. -/
theorem Ser.chain (h : Ser l) {i : Nat} (hi : i + 1 < (knwN l s (notes l l.length)).ts.length) : wwE (srcN l s (notes l l.length)) s (knwN l s (notes l l.length)).ts i = (((apK l s i).1 : Int), ((apK l s (i + 1)).1 : Int), 1, s, (knwN l s (notes l l.length)).ts.getD i default, (knwN l s (notes l l.length)).ts.getD (i + 1) default, false) := by
  unfold wwE
  rw [h.srcT h.trace (by omega), h.srcT h.trace hi]
theorem Ser.chained (h : Ser l) {i : Nat} (hi : i + 1 < (knwN l s (notes l l.length)).ts.length) (hne : (apK l s i).1 ≠ (apK l s (i + 1)).1) : (((apK l s i).1 : Int), ((apK l s (i + 1)).1 : Int), (1 : Int), s, (knwN l s (notes l l.length)).ts.getD i default, (knwN l s (notes l l.length)).ts.getD (i + 1) default, false) ∈ edgN l s := by
  rw [← h.chain hi]
  unfold edgN onceW
  refine fold_in _ _ _ ?_ ?_
  · unfold depsL
    exact List.mem_append_left _ (List.mem_map.2 ⟨i, List.mem_range.2 (by omega), rfl⟩)
  · rw [h.chain hi]
    show ((apK l s i).1 : Int) ≠ ((apK l s (i + 1)).1 : Int)
    omega
theorem Ser.wrote (h : Ser l) {i : Nat} (hi : i < (knwN l s (notes l l.length)).ts.length) : writersN (notes l l.length) s ((knwN l s (notes l l.length)).ts.getD i default) = [((apK l s i).1, (apK l s i).2.1)] := by
  have q := pre_at (h.trace (s := s)) hi
  rw [q.1]
  exact h.writers (apN_mem (apK_mem q.2)).1 (apN_mem (apK_mem q.2)).2
end
end Go.Proofs.Ytnfbcmnlloipiaa
namespace Go.Proofs.Ytnfbcmnlloipiaa
set_option linter.unusedVariables false
set_option linter.unusedSimpArgs false
open Go.RowKit

/-- Operation j has come, and what is known of it is not used up, when operation i comes. -/
def liveB (ops : Array Oper) (til : Nat → Option Nat) (i j : Nat) : Bool :=
  decide (j ≠ i) &&
  (match til j with
   | none => true
   | some k => decide (k ≠ i) && (match ops[i]? with | none => true | some o => o.after.all fun e => !Region.binds .any e || decide (e.on ≠ k))) &&
  (match ops[j]? with | none => true | some o => o.after.all fun e => !Region.binds .any e || decide (e.on ≠ i))
/-- What an operation must come to. -/
def OpDoesT (P : Program) (ops : Array Oper) (Q : Exit → Act → World → Prop) (til : Nat → Option Nat) (G : World → Prop) (R : Nat → Value → World → Prop) (i : Nat) (o : Oper) (A : Act) (w : World) : Prop :=
  ∀ K : Act → World → Prop, (∀ v w', R i v w' → G w' → (∀ j u, j < ops.size → liveB ops til i j = true → R j u w → R j u w') → K (A.put o.dst v) w') → o.wp P A w K Q
/-- What is known of those that an operation waits for. -/
def depsT (R : Nat → Value → World → Prop) (til : Nat → Option Nat) (i : Nat) (val : Nat → Value) (w : World) (l : List Edge) : Prop :=
  ∀ e ∈ l, Region.binds .any e = true → (til e.on = none ∨ til e.on = some i) → R e.on (val e.on) w
theorem depsT_get {R : Nat → Value → World → Prop} {til : Nat → Option Nat} {i : Nat} {val : Nat → Value} {w : World} {l : List Edge} (h : depsT R til i val w l) (j : Nat) (hj : (l.any fun e => Region.binds .any e && e.on == j) = true) (ht : til j = none ∨ til j = some i) : R j (val j) w := by
  rw [List.any_eq_true] at hj
  obtain ⟨e, he, hb⟩ := hj
  simp only [Bool.and_eq_true, beq_iff_eq] at hb
  obtain ⟨h1, rfl⟩ := hb
  exact h e he h1 ht
def OpAskT (P : Program) (ops : Array Oper) (Q : Exit → Act → World → Prop) (til : Nat → Option Nat) (G : World → Prop) (frame : (Nat → Value) → Act) (R : Nat → Value → World → Prop) (i : Nat) (o : Oper) : Prop :=
  o.guard = none ∧ (∀ val v, (frame val).put o.dst v = frame (upV val i v)) ∧ ∀ val w, G w → depsT R til i val w o.after.toList → OpDoesT P ops Q til G R i o (frame val) w
theorem wp_region_til {P : Program} {ops : Array Oper} {Q : Exit → Act → World → Prop} {id : Nat} {a0 : Act} {w0 : World} (hm : P.follows .mixedOrders = true) (hah : aheadB ops = true)
    (til : Nat → Option Nat) (G : World → Prop) (hG : G w0.drew) (frame : (Nat → Value) → Act) (R : Nat → Value → World → Prop) (val0 : Nat → Value) (h0 : a0 = frame val0)
    (l : List Oper) (hl : ops.toList = l) (hop : allOps (OpAskT P ops Q til G frame R) 0 l)
    (hend : ∀ val w, G w → (∀ i, i < ops.size → til i = none → R i (val i) w) → Q .normal (frame val) w) : (Code.region id ops true).wp P Q a0 w0 := by
  refine wp_region_any hm ?_
  refine wpAny_inv (fun listed a w => listed.size = ops.size ∧ (∀ i o, ops[i]? = some o → listed.getD i false = true → ∀ e ∈ o.after, Region.binds .any e = true → listed.getD e.on false = true) ∧ ∃ val, a = frame val ∧ G w ∧ ∀ i, i < ops.size → listed.getD i false = true → (∀ k, til i = some k → listed.getD k false = false) → R i (val i) w) ?_ ?_ _ _ _ _ ?_ ?_
  · rintro listed a w ⟨hs, hdep, val, rfl, hg, hR⟩ i hi
    rw [mem_ready] at hi
    obtain ⟨h1, o, ho, h2⟩ := hi
    have hio : i < ops.size := (Array.getElem?_eq_some_iff.1 ho).1
    have hil : i < listed.size := by omega
    have hif : listed.getD i false = false := by
      rw [Array.getD_eq_getD_getElem?, Array.getElem?_eq_getElem hil] at h1 ⊢
      exact h1
    obtain ⟨g1, g2, g3⟩ := allOps_at l 0 i o hop (by rw [← hl]; simpa using ho)
    rw [Nat.zero_add] at g2 g3
    unfold wpOp
    rw [ho]
    simp only
    rw [if_pos (by simp [Region.wanted, g1])]
    have dep : depsT R til i val w o.after.toList := fun e he hb ht => by
      have hea : e ∈ o.after := by simpa using he
      have hlt := ahead_of hah ho e hea hb
      refine hR e.on (by omega) (h2 e hea hb) (fun k hk => ?_)
      rcases ht with q | q
      · rw [q] at hk; cases hk
      · rw [q] at hk
        injection hk with hk
        rw [← hk]
        exact hif
    refine .inl (g3 val w hg dep _ (fun v w' hv hg' hpres => ?_))
    rw [g2]
    refine ⟨by simpa using hs, fun j oj hoj hl2 e he hb => ?_, upV val i v, rfl, hg', fun j hj hl2 ht => ?_⟩
    · by_cases eji : e.on = i
      · rw [eji, Array.getD_eq_getD_getElem?, Array.getElem?_setIfInBounds_self_of_lt hil]
        rfl
      · rw [getD_set_ne false (fun c => eji c.symm)]
        by_cases ji : j = i
        · subst ji
          rw [ho] at hoj
          injection hoj with hoj
          subst hoj
          exact h2 e he hb
        · rw [getD_set_ne false (fun c => ji c.symm)] at hl2
          exact hdep j oj hoj hl2 e he hb
    · by_cases e : j = i
      · subst e
        rw [upV_self]
        exact hv
      · rw [upV_ne _ _ _ _ e]
        rw [getD_set_ne false (fun c => e c.symm)] at hl2
        refine hpres j _ hj ?_ (hR j hj hl2 (fun k hk => ?_))
        · unfold liveB
          simp only [Bool.and_eq_true, decide_eq_true_eq]
          refine ⟨⟨e, ?_⟩, ?_⟩
          · cases hk : til j with
            | none => rfl
            | some k =>
              have hkf := ht k hk
              rw [ho]
              simp only [Bool.and_eq_true, decide_eq_true_eq, Array.all_eq_true_iff_forall_mem, Bool.or_eq_true, Bool.not_eq_true']
              have hki : k ≠ i := fun c => by
                subst c
                rw [Array.getD_eq_getD_getElem?, Array.getElem?_setIfInBounds_self_of_lt hil] at hkf
                cases hkf
              refine ⟨hki, fun x hx => ?_⟩
              cases hb : Region.binds .any x with
              | false => exact .inl rfl
              | true =>
                refine .inr (fun c => ?_)
                have := h2 x hx hb
                rw [c] at this
                rw [getD_set_ne false (fun c => hki c.symm)] at hkf
                rw [this] at hkf
                cases hkf
          · have hoj : ops[j]? = some ops[j] := Array.getElem?_eq_getElem hj
            rw [hoj]
            simp only [Array.all_eq_true_iff_forall_mem, Bool.or_eq_true, Bool.not_eq_true', decide_eq_true_eq]
            intro x hx
            cases hb : Region.binds .any x with
            | false => exact .inl rfl
            | true =>
              refine .inr (fun c => ?_)
              have := hdep j _ hoj hl2 x hx hb
              rw [c, hif] at this
              cases this
        · have hkf := ht k hk
          by_cases ki : k = i
          · subst ki; exact hif
          · rw [getD_set_ne false (fun c => ki c.symm)] at hkf
            exact hkf
  · rintro listed a w ⟨hs, hdep, val, rfl, hg, hR⟩ hr
    exact hend val w hg (fun i hi ht => hR i hi (all_listed hah hs hr i hi) (fun k hk => by rw [ht] at hk; cases hk))
  · unfold leftN
    exact Nat.le_trans (List.length_filter_le _ _) (by simp)
  · refine ⟨by simp, fun i o ho hl2 => ?_, val0, h0, hG, fun i hi hl2 => ?_⟩
    · have hi := (Array.getElem?_eq_some_iff.1 ho).1
      simp [Array.getD_eq_getD_getElem?, hi] at hl2
    · simp [Array.getD_eq_getD_getElem?, hi] at hl2
section
variable {P : Program} {ops : Array Oper} {Q : Exit → Act → World → Prop} {til : Nat → Option Nat} {G : World → Prop} {R : Nat → Value → World → Prop} {i : Nat} {o : Oper}
theorem doesT_value {A : Act} {w : World} {v : Value} (hG : G w) (h : (execOp A.eval o).run P w = .ok (.value v) w) (hR : R i v w) : OpDoesT P ops Q til G R i o A w := by
  intro K hK
  unfold Oper.wp
  rw [h]
  exact hK v w hR hG (fun _ _ _ _ x => x)
theorem doesT_grown {A : Act} {w w' : World} {v : Value} (h : (execOp A.eval o).run P w = .ok (.value v) w') (hR : R i v w') (hG : G w') (hp : ∀ j u, j < ops.size → liveB ops til i j = true → R j u w → R j u w') : OpDoesT P ops Q til G R i o A w := by
  intro K hK
  unfold Oper.wp
  rw [h]
  exact hK v w' hR hG hp
end
end Go.Proofs.Ytnfbcmnlloipiaa
namespace Go.Proofs.Ytnfbcmnlloipiaa
set_option linter.unusedVariables false
set_option linter.unusedSimpArgs false
open Go.RowKit

/-- Operation m waits for operation i, maybe by way of others. -/
def needB (ops : Array Oper) : Nat → Nat → Nat → Bool
  | 0, _, _ => false
  | f + 1, m, i => match ops[m]? with
    | none => false
    | some o => o.after.toList.any fun e => Region.binds .any e && (e.on == i || needB ops f e.on i)
theorem need_listed {ops : Array Oper} {listed : Array Bool} (hc : ∀ i o, ops[i]? = some o → listed.getD i false = true → ∀ e ∈ o.after, Region.binds .any e = true → listed.getD e.on false = true) : ∀ f m i, needB ops f m i = true → listed.getD m false = true → listed.getD i false = true
  | 0, m, i, h, _ => by cases h
  | f + 1, m, i, h, hl => by
    unfold needB at h
    cases ho : ops[m]? with
    | none => rw [ho] at h; cases h
    | some o =>
      rw [ho] at h
      simp only [List.any_eq_true, Bool.and_eq_true, Bool.or_eq_true, beq_iff_eq] at h
      obtain ⟨e, he, hb, h2⟩ := h
      have q := hc m o ho hl e (by simpa using he) hb
      rcases h2 with rfl | h2
      · exact q
      · exact need_listed hc f e.on i h2 q
section
variable (P : Program) (ops : Array Oper) (Q : Exit → Act → World → Prop) (f m1 m2 : Nat) (G : Bool → Bool → World → Prop) (frame : (Nat → Value) → Act) (R : Nat → Value → World → Prop) (val0 : Nat → Value)
/-- What an operation must come to. -/
def OpDoes2 (b1 b2 : Bool) (i : Nat) (o : Oper) (A : Act) (w : World) : Prop :=
  ∀ K : Act → World → Prop, (∀ v w', R i v w' → G (b1 || decide (i = m1)) (b2 || decide (i = m2)) w' → (∀ j u, j < ops.size → j ≠ i → needB ops f j i = false → R j u w → R j u w') → K (A.put o.dst v) w') → o.wp P A w K Q
def OpAsk2 (i : Nat) (o : Oper) : Prop :=
  o.guard = none ∧ (∀ val v, (frame val).put o.dst v = frame (upV val i v)) ∧ ∀ val w b1 b2, G b1 b2 w → ((decide (i = m1) || needB ops f m1 i) = true → b1 = false) → ((decide (i = m2) || needB ops f m2 i) = true → b2 = false) → (needB ops f i m1 = true → b1 = true) → (∀ j, needB ops f j i = true → val j = val0 j) → depsAll R val w o.after.toList → OpDoes2 P ops Q f m1 m2 G R b1 b2 i o (frame val) w
end
theorem wp_region_two {P : Program} {ops : Array Oper} {Q : Exit → Act → World → Prop} {id : Nat} {a0 : Act} {w0 : World} (hm : P.follows .mixedOrders = true) (hah : aheadB ops = true)
    (f m1 m2 : Nat) (hm1 : m1 < ops.size) (hm2 : m2 < ops.size) (G : Bool → Bool → World → Prop) (hG : G false false w0.drew) (frame : (Nat → Value) → Act) (R : Nat → Value → World → Prop) (val0 : Nat → Value) (h0 : a0 = frame val0)
    (l : List Oper) (hl : ops.toList = l) (hop : allOps (OpAsk2 P ops Q f m1 m2 G frame R val0) 0 l)
    (hend : ∀ val w, G true true w → (∀ i, i < ops.size → R i (val i) w) → Q .normal (frame val) w) : (Code.region id ops true).wp P Q a0 w0 := by
  refine wp_region_any hm ?_
  refine wpAny_inv (fun listed a w => listed.size = ops.size ∧ (∀ i o, ops[i]? = some o → listed.getD i false = true → ∀ e ∈ o.after, Region.binds .any e = true → listed.getD e.on false = true) ∧ ∃ val, a = frame val ∧ (∀ j, listed.getD j false = false → val j = val0 j) ∧ G (listed.getD m1 false) (listed.getD m2 false) w ∧ ∀ i, i < ops.size → listed.getD i false = true → R i (val i) w) ?_ ?_ _ _ _ _ ?_ ?_
  · rintro listed a w ⟨hs, hdep, val, rfl, hv0, hg, hR⟩ i hi
    rw [mem_ready] at hi
    obtain ⟨h1, o, ho, h2⟩ := hi
    have hio : i < ops.size := (Array.getElem?_eq_some_iff.1 ho).1
    have hil : i < listed.size := by omega
    have hif : listed.getD i false = false := by
      rw [Array.getD_eq_getD_getElem?, Array.getElem?_eq_getElem hil] at h1 ⊢
      exact h1
    obtain ⟨g1, g2, g3⟩ := allOps_at l 0 i o hop (by rw [← hl]; simpa using ho)
    rw [Nat.zero_add] at g2 g3
    unfold wpOp
    rw [ho]
    simp only
    rw [if_pos (by simp [Region.wanted, g1])]
    have notYet : ∀ m, (decide (i = m) || needB ops f m i) = true → listed.getD m false = false := fun m hx => by
      simp only [Bool.or_eq_true, decide_eq_true_eq] at hx
      rcases hx with rfl | hx
      · exact hif
      · cases hc : listed.getD m false with
        | false => rfl
        | true =>
          have := need_listed hdep f m i hx hc
          rw [hif] at this
          cases this
    have already : needB ops f i m1 = true → listed.getD m1 false = true := fun hx => by
      cases f with
      | zero => cases hx
      | succ f =>
        unfold needB at hx
        rw [ho] at hx
        simp only [List.any_eq_true, Bool.and_eq_true, Bool.or_eq_true, beq_iff_eq] at hx
        obtain ⟨e, he, hb, hx2⟩ := hx
        have q := h2 e (by simpa using he) hb
        rcases hx2 with hx2 | hx2
        · rw [← hx2]; exact q
        · exact need_listed hdep f e.on m1 hx2 q
    refine .inl (g3 val w _ _ hg (notYet m1) (notYet m2) already (fun j hj => hv0 j (notYet j (by rw [hj, Bool.or_true]))) (depsAll_of _ fun e he hb => hR e.on (by have := ahead_of hah ho e (by simpa using he) hb; omega) (h2 e (by simpa using he) hb)) _ (fun v w' hv hg' hpres => ?_))
    rw [g2]
    have flag : ∀ m, m < ops.size → (listed.setIfInBounds i true).getD m false = (listed.getD m false || decide (i = m)) := fun m hmm => by
      by_cases e : i = m
      · subst e
        rw [Array.getD_eq_getD_getElem?, Array.getElem?_setIfInBounds_self_of_lt hil]
        simp
      · rw [getD_set_ne false e]
        simp [e]
    refine ⟨by simpa using hs, fun j oj hoj hl2 e he hb => ?_, upV val i v, rfl, fun j hj => ?_, (by rw [flag m1 hm1, flag m2 hm2]; exact hg'), fun j hj hl2 => ?_⟩
    · by_cases eji : e.on = i
      · rw [eji, Array.getD_eq_getD_getElem?, Array.getElem?_setIfInBounds_self_of_lt hil]
        rfl
      · rw [getD_set_ne false (fun c => eji c.symm)]
        by_cases ji : j = i
        · subst ji
          rw [ho] at hoj
          injection hoj with hoj
          subst hoj
          exact h2 e he hb
        · rw [getD_set_ne false (fun c => ji c.symm)] at hl2
          exact hdep j oj hoj hl2 e he hb
    · by_cases e : j = i
      · subst e
        rw [Array.getD_eq_getD_getElem?, Array.getElem?_setIfInBounds_self_of_lt hil] at hj
        cases hj
      · rw [upV_ne _ _ _ _ e]
        rw [getD_set_ne false (fun c => e c.symm)] at hj
        exact hv0 j hj
    · by_cases e : j = i
      · subst e
        rw [upV_self]
        exact hv
      · rw [upV_ne _ _ _ _ e]
        rw [getD_set_ne false (fun c => e c.symm)] at hl2
        refine hpres j _ hj e ?_ (hR j hj hl2)
        cases hc : needB ops f j i with
        | false => rfl
        | true =>
          have := need_listed hdep f j i hc hl2
          rw [hif] at this
          cases this
  · rintro listed a w ⟨hs, hdep, val, rfl, hv0, hg, hR⟩ hr
    rw [all_listed hah hs hr m1 hm1, all_listed hah hs hr m2 hm2] at hg
    exact hend val w hg (fun i hi => hR i hi (all_listed hah hs hr i hi))
  · unfold leftN
    exact Nat.le_trans (List.length_filter_le _ _) (by simp)
  · refine ⟨by simp, fun i o ho hl2 => ?_, val0, h0, fun _ _ => rfl, ?_, fun i hi hl2 => ?_⟩
    · have hi := (Array.getElem?_eq_some_iff.1 ho).1
      simp [Array.getD_eq_getD_getElem?, hi] at hl2
    · have e : ∀ m, m < ops.size → (Array.replicate ops.size false).getD m false = false := fun m hmm => by simp [Array.getD_eq_getD_getElem?, hmm]
      rw [e m1 hm1, e m2 hm2]
      exact hG
    · simp [Array.getD_eq_getD_getElem?, hi] at hl2
section
variable {P : Program} {ops : Array Oper} {Q : Exit → Act → World → Prop} {f m1 m2 : Nat} {G : Bool → Bool → World → Prop} {R : Nat → Value → World → Prop} {i : Nat} {o : Oper} {b1 b2 : Bool}
theorem does2_value {A : Act} {w : World} {v : Value} (hG : G b1 b2 w) (n1 : decide (i = m1) = false) (n2 : decide (i = m2) = false) (h : (execOp A.eval o).run P w = .ok (.value v) w) (hR : R i v w) : OpDoes2 P ops Q f m1 m2 G R b1 b2 i o A w := by
  intro K hK
  unfold Oper.wp
  rw [h]
  exact hK v w hR (by rw [n1, n2, Bool.or_false, Bool.or_false]; exact hG) (fun _ _ _ _ _ x => x)
theorem does2_grown {A : Act} {w w' : World} {v : Value} (h : (execOp A.eval o).run P w = .ok (.value v) w') (hR : R i v w') (hG : G (b1 || decide (i = m1)) (b2 || decide (i = m2)) w') (hp : ∀ j u, j < ops.size → j ≠ i → needB ops f j i = false → R j u w → R j u w') : OpDoes2 P ops Q f m1 m2 G R b1 b2 i o A w := by
  intro K hK
  unfold Oper.wp
  rw [h]
  exact hK v w' hR hG hp
theorem does2_skip {A : Act} {w w' : World} (h : (execOp A.eval o).run P w = .ok .skip w') (hR : R i undef w') (hG : G (b1 || decide (i = m1)) (b2 || decide (i = m2)) w') (hp : ∀ j u, j < ops.size → j ≠ i → needB ops f j i = false → R j u w → R j u w') : OpDoes2 P ops Q f m1 m2 G R b1 b2 i o A w := by
  intro K hK
  unfold Oper.wp
  rw [h]
  exact hK undef w' hR hG hp
end
end Go.Proofs.Ytnfbcmnlloipiaa
namespace Go.Proofs.Ytnfbcmnlloipiaa
set_option linter.unusedVariables false
set_option linter.unusedSimpArgs false
open Go.RowKit Go.Lib Go.Maps
open Tx (MTxn info_parts RowsIn.cells RowCells TxnRow TxnsIn flatten_get flatten_len)

/-- A row of one's own whose elements lead into blocks of P. -/
structure OutP {α : Type} [Inhabited α] (e size : Nat) (R : (Nat → Prop) → World → List Value → α → Prop) (P : Nat → Prop) (B : Nat) (w : World) (v : Value) (rows : List (List Value)) (l : List α) : Prop where
  ln : rows.length = l.length
  own : w.ownsRow B e size v l.length rows.flatten
  sizes : ∀ r ∈ rows, r.length = size
  each : ∀ j, j < l.length → R P w (rows.getD j []) (l.getD j default)
  np : ∀ g, v.ownBlock = some g → ¬ P g
section
variable {α : Type} [Inhabited α] {e size : Nat} {R : (Nat → Prop) → World → List Value → α → Prop} {P P' : Nat → Prop} {B : Nat} {w w' : World} {v : Value} {rows : List (List Value)} {l : List α}
theorem OutP.nil : OutP e size R P B w (.slice none 0 0) [] ([] : List α) := ⟨rfl, World.ownsRow_nil _ _ _ _, fun _ h => by simp at h, fun j h => absurd h (by simp), fun g h => by cases h⟩
theorem OutP.keep (hkeep : ∀ (S T : Nat → Prop) w w' cs x, R S w cs x → KeepsIn S w w' → (∀ b, b < w.heap.size → S b → T b) → R T w' cs x) (h : OutP e size R P B w v rows l) (hP : KeepsIn P w w') (hv : ∀ g, v.ownBlock = some g → w'.heap[g]? = w.heap[g]?) (hs : ∀ b, b < w.heap.size → P b → P' b) (hn : ∀ g, v.ownBlock = some g → ¬ P' g) : OutP e size R P' B w' v rows l :=
  ⟨h.ln, own_same h.own hv, h.sizes, fun j hj => hkeep _ _ _ _ _ _ (h.each j hj) hP hs, hn⟩
theorem OutP.step (hkeep : ∀ (S T : Nat → Prop) w w' cs x, R S w cs x → KeepsIn S w w' → (∀ b, b < w.heap.size → S b → T b) → R T w' cs x) (h : OutP e size R P B w v rows l) (hP : KeepsIn P w w') (hs : ∀ b, b < w.heap.size → P b → P' b) {row : List Value} {x : α} (hrow : R P' w' row x) (hlen : row.length = size)
    {g cap : Nat} (hown : w'.ownsRow B e size (.slice (some ⟨g, 0, none⟩) (l.length + 1) cap) (l.length + 1) (rows.flatten ++ row)) (hn : ¬ P' g) : OutP e size R P' B w' (.slice (some ⟨g, 0, none⟩) (l.length + 1) cap) (rows ++ [row]) (l ++ [x]) := by
  refine ⟨by simp [h.ln], by simpa using hown, ?_, fun j hj => ?_, fun g' hg => ?_⟩
  · intro r hr
    rcases List.mem_append.1 hr with hr | hr
    · exact h.sizes r hr
    · simp at hr; rw [hr]; exact hlen
  · by_cases hjn : j < l.length
    · have e1 : (rows ++ [row]).getD j [] = rows.getD j [] := by simp [List.getD, List.getElem?_append_left (show j < rows.length by rw [h.ln]; exact hjn)]
      have e2 : (l ++ [x]).getD j default = l.getD j default := by simp [List.getD, List.getElem?_append_left hjn]
      rw [e1, e2]
      exact hkeep _ _ _ _ _ _ (h.each j hjn) hP hs
    · have hj2 : j = l.length := by simp at hj; omega
      subst hj2
      have e1 : (rows ++ [row]).getD l.length [] = row := by simp [List.getD, ← h.ln]
      have e2 : (l ++ [x]).getD l.length default = x := by simp [List.getD]
      rw [e1, e2]
      exact hrow
  · simp only [Value.ownBlock] at hg
    cases hg
    exact hn
theorem OutP.rows_in {bytes : Nat} (hkeep : ∀ (S T : Nat → Prop) w w' cs x, R S w cs x → KeepsIn S w w' → (∀ b, b < w.heap.size → S b → T b) → R T w' cs x) (h : OutP e size R P B w v rows l) (hbytes : l.length * bytes ≤ 140737488355328) {T : Nat → Prop} (hT : ∀ b, P b → T b) (hvT : ∀ g, v.ownBlock = some g → T g) : RowsIn size bytes (R T w) T w v l := by
  rcases h.own.2 with ⟨hv, hn⟩ | ⟨g, cap, cur, hv, hg, hgg, hcap, _⟩
  · exact ⟨none, 0, by rw [hv, hn], ⟨hbytes, by omega⟩, fun h0 => by omega⟩
  · refine ⟨some ⟨g, 0, none⟩, cap, hv, ⟨hbytes, hcap⟩, fun _ => ⟨g, 0, rfl, hvT g (by rw [hv]; rfl), fun j hj => ?_⟩⟩
    have hjr : j < rows.length := by rw [h.ln]; exact hj
    have hmem : rows.getD j [] ∈ rows := by simp [List.getD, List.getElem?_eq_getElem hjr]
    refine ⟨rows.getD j [], h.sizes _ hmem, hkeep _ _ w w _ _ (h.each j hj) (fun _ _ _ => rfl) (fun b _ hb => hT b hb), fun i u hi => ?_⟩
    have hil : i < size := by rw [← h.sizes _ hmem]; exact (List.getElem?_eq_some_iff.1 hi).1
    have := h.own.cells (g := g) (by rw [hv]; rfl) (j * size + i) u (by rw [flatten_get size rows j i h.sizes hjr hil]; exact hi)
    rw [Addr.add_lit] at this
    simpa [Nat.add_assoc] using this
end
theorem txnRow_keep (S T : Nat → Prop) (w w' : World) (cs : List Value) (x : MTxn) (h : TxnRow S w cs x) (hk : KeepsIn S w w') (hT : ∀ b, b < w.heap.size → S b → T b) : TxnRow T w' cs x := by
  obtain ⟨ov, h1, h2⟩ := h
  exact ⟨ov, h1, h2.keep hk hT⟩
/-- The map of rows. -/
structure DM (B mb : Nat) (P : Nat → Prop) (D : ByteArray → Value) (w : World) (m : Nat) (g : ByteArray → List Int) : Prop where
  map : ∃ f, MapV w Try.prog 9 mb m f ∧ ∀ s, f (.string s) = if g s = [] then none else some (D s)
  nil : ∀ s, g s = [] → D s = .slice none 0 0
  own : ∀ s, w.ownsRow B 3 1 (D s) (g s).length ((g s).map (Value.int .i64))
  np : ∀ s gb, (D s).ownBlock = some gb → ¬ P gb
  apart : ∀ s s' gb, (D s).ownBlock = some gb → (D s').ownBlock = some gb → s = s'
  low : B ≤ mb
  npm : ¬ P mb
theorem zeroIs (w : World) : (zeroValue 28).run Try.prog w = .ok (.slice none 0 0) w := by kernel_rfl
section
variable {B mb : Nat} {P P' : Nat → Prop} {D : ByteArray → Value} {w w' : World} {m : Nat} {g : ByteArray → List Int}
theorem DM.look (h : DM B mb P D w m g) (s : ByteArray) (hs : s.size ≤ maxLen) : (Instr.lookup 103 (.map (some mb)) (.string s) false).run Try.prog w = .ok (D s) w := by
  obtain ⟨f, h1, h2⟩ := h.map
  rw [h1.look keys9 Try.underlying103 (zeroIs w) (key9 s hs), h2 s]
  by_cases e : g s = []
  · rw [if_pos e, h.nil s e]; rfl
  · rw [if_neg e]; rfl
theorem DM.ints (h : DM B mb P D w m g) (s : ByteArray) (hl : (g s).length ≤ 100000) : IntsIn Any w (D s) (g s) := by
  rcases (h.own s).2 with ⟨hv, hn⟩ | ⟨gb, cap, cur, hv, hg, hgg, hcap, _⟩
  · exact ⟨none, 0, by rw [hv, hn], ⟨by omega, by omega⟩, fun h0 => by omega⟩
  · refine ⟨some ⟨gb, 0, none⟩, cap, hv, ⟨by omega, hcap⟩, fun _ => ⟨gb, 0, rfl, trivial, fun j hj => ?_⟩⟩
    have := (h.own s).cells (g := gb) (by rw [hv]; rfl) j (.int .i64 ((g s).getD j default)) (by rw [List.getElem?_map, List.getElem?_eq_getElem hj, List.getD, List.getElem?_eq_getElem hj]; rfl)
    rw [Addr.add_lit] at this
    exact this
theorem DM.mlt (h : DM B mb P D w m g) : mb < w.heap.size := by
  obtain ⟨f, h1, _⟩ := h.map
  exact h1.lt
theorem DM.noCells (h : DM B mb P D w m g) {cs : Array Value} {e : Nat} {fr : Nat × Nat} : w.heap[mb]? ≠ some (.cells cs e fr) := fun c => by
  obtain ⟨f, h1, _⟩ := h.map
  obtain ⟨es, cl, q⟩ := h1.block
  rw [q] at c
  cases c
theorem DM.keep (h : DM B mb P D w m g) (hm : w'.heap[mb]? = w.heap[mb]?) (hd : ∀ s gb, (D s).ownBlock = some gb → w'.heap[gb]? = w.heap[gb]?) (hn : ∀ s gb, (D s).ownBlock = some gb → ¬ P' gb) (hnm : ¬ P' mb) : DM B mb P' D w' m g := by
  obtain ⟨f, h1, h2⟩ := h.map
  exact ⟨⟨f, h1.same hm, h2⟩, h.nil, fun s => own_same (h.own s) (hd s), hn, h.apart, h.low, hnm⟩
theorem DM.cells (h : DM B mb P D w m g) {s : ByteArray} {gb : Nat} (hg : (D s).ownBlock = some gb) : B ≤ gb ∧ gb < w.heap.size ∧ ∃ cs, w.heap[gb]? = some (.cells cs 3) := own_block (h.own s) hg
/-- m[s] = append(m[s], x): behind the append (w3) and the store (w4). -/
theorem DM.put (h : DM B mb P D w m g) (hm : m < maxLen) (s : ByteArray) (hs : s.size ≤ maxLen) (x : Int) {w3 : World} {g3 cap : Nat} (hP : ∀ b, P b → b < w.heap.size)
    (hown : w3.ownsRow B 3 1 (.slice (some ⟨g3, 0, none⟩) ((g s).length + 1) cap) ((g s).length + 1) ((g s).map (Value.int .i64) ++ [.int .i64 x])) (hkp : ∀ b, b < w.heap.size → (D s).ownBlock ≠ some b → w3.heap[b]? = w.heap[b]?) (hat : (D s).ownBlock = some g3 ∨ w.heap.size ≤ g3) (hz : w.heap.size ≤ w3.heap.size) :
    ∃ w4 D', (Instr.mapUpdate 103 (.map (some mb)) (.string s) (.slice (some ⟨g3, 0, none⟩) ((g s).length + 1) cap)).run Try.prog w3 = .ok () w4 ∧ DM B mb P D' w4 (m + 1) (fun t => if t = s then g s ++ [x] else g t) ∧ w3.grownBy w4 (some mb) := by
  have hmb : w3.heap[mb]? = w.heap[mb]? := hkp mb h.mlt (fun c => by
    obtain ⟨_, _, cs, q⟩ := h.cells c
    exact h.noCells q)
  obtain ⟨f, h1, h2⟩ := h.map
  obtain ⟨w4, f4, r1, r2, r3, r4⟩ := (h1.same hmb).put keys9 Try.underlying103 hm (.slice (some ⟨g3, 0, none⟩) ((g s).length + 1) cap) (key9 s hs)
  have hl3 : g3 < w3.heap.size := (own_block hown rfl).2.1
  have n3 : g3 ≠ mb := fun c => by
    obtain ⟨_, _, cs, q⟩ := own_block hown (g := g3) rfl
    rw [c, hmb] at q
    exact h.noCells q
  refine ⟨w4, fun t => if t = s then .slice (some ⟨g3, 0, none⟩) ((g s).length + 1) cap else D t, r1, ⟨⟨f4, r3, fun t => ?_⟩, fun t ht => ?_, fun t => ?_, fun t gb hg => ?_, fun t t' gb hg hg' => ?_, h.low, h.npm⟩, r4⟩
  · by_cases e : t = s
    · subst e
      rw [if_pos rfl, if_pos rfl, if_neg (by simp), r2.1]
    · rw [if_neg e, if_neg e, r2.2 _ (fun c => e (by injection c)), h2 t]
  · by_cases e : t = s
    · rw [if_pos e] at ht
      simp at ht
    · rw [if_neg e] at ht ⊢
      exact h.nil t ht
  · by_cases e : t = s
    · subst e
      rw [if_pos rfl, if_pos rfl]
      have : w4.ownsRow B 3 1 (.slice (some ⟨g3, 0, none⟩) ((g t).length + 1) cap) ((g t).length + 1) ((g t).map (Value.int .i64) ++ [.int .i64 x]) := own_same hown (fun k hk => by
        simp only [Value.ownBlock] at hk
        cases hk
        exact r4.block g3 hl3 (fun c => n3 (by injection c)))
      rw [List.map_append, List.length_append]
      exact this
    · rw [if_neg e, if_neg e]
      refine own_same (h.own t) (fun k hk => ?_)
      obtain ⟨_, k2, cs, k3⟩ := h.cells hk
      exact (r4.block k (Nat.lt_of_lt_of_le k2 hz) (fun c => by injection c with c; rw [c] at k3; exact h.noCells k3)).trans (hkp k k2 (fun c => e (h.apart t s k hk c)))
  · by_cases e : t = s
    · rw [if_pos e] at hg
      simp only [Value.ownBlock] at hg
      cases hg
      intro c
      rcases hat with q | q
      · exact h.np s _ q c
      · have := hP _ c
        omega
    · rw [if_neg e] at hg
      exact h.np t gb hg
  · by_cases e : t = s <;> by_cases e' : t' = s
    · rw [e, e']
    · rw [if_pos e] at hg
      rw [if_neg e'] at hg'
      simp only [Value.ownBlock] at hg
      cases hg
      rcases hat with q | q
      · exact absurd (h.apart t' s _ hg' q) e'
      · have := (h.cells hg').2.1
        omega
    · rw [if_neg e] at hg
      rw [if_pos e'] at hg'
      simp only [Value.ownBlock] at hg'
      cases hg'
      rcases hat with q | q
      · exact absurd (h.apart t s _ hg q) e
      · have := (h.cells hg).2.1
        omega
    · rw [if_neg e] at hg
      rw [if_neg e'] at hg'
      exact h.apart t t' gb hg hg'
end
end Go.Proofs.Ytnfbcmnlloipiaa
namespace Go.Proofs.Ytnfbcmnlloipiaa
set_option linter.unusedVariables false
set_option linter.unusedSimpArgs false
open Go.RowKit Go.Lib Go.Maps
open Tx (MTxn info_parts RowsIn.cells RowCells TxnRow TxnsIn flatten_get flatten_len opRow_keep)

def GOp (o : MOp) : Prop := OpOk o ∧ (∀ x ∈ o.list, (Lit.int .i64 x).wf = true) ∧ o.list.length ≤ 100000
/-- The notes of transactions that are done, and of one that is under way. -/
def ntL (L : List MTxn) (O : List MOp) : List MN := notes L L.length ++ notesT L.length O
theorem notesT_more (k : Nat) (O : List MOp) (o : MOp) : notesT k (O ++ [o]) = notesT k O ++ [(k, O.length, o)] := by
  unfold notesT
  rw [List.length_append, List.length_singleton, List.range_succ, List.map_append]
  congr 1
  · refine List.map_congr_left fun i hi => ?_
    have hi := List.mem_range.1 hi
    rw [List.getD, List.getD, List.getElem?_append_left hi]
  · simp [List.getD]
theorem ntL_more (L : List MTxn) (O : List MOp) (o : MOp) : ntL L (O ++ [o]) = ntL L O ++ [(L.length, O.length, o)] := by
  unfold ntL
  rw [notesT_more, List.append_assoc]
theorem notes_ext (L : List MTxn) (t : MTxn) : ∀ k, k ≤ L.length → notes (L ++ [t]) k = notes L k
  | 0, _ => rfl
  | k + 1, h => by
    show notes (L ++ [t]) k ++ notesT k ((L ++ [t]).getD k default).ops = notes L k ++ notesT k (L.getD k default).ops
    rw [notes_ext L t k (by omega), List.getD, List.getD, List.getElem?_append_left (by omega)]
theorem ntL_txn (L : List MTxn) (t : MTxn) : ntL (L ++ [t]) [] = ntL L t.ops := by
  unfold ntL
  rw [List.length_append, List.length_singleton]
  show (notes (L ++ [t]) L.length ++ notesT L.length ((L ++ [t]).getD L.length default).ops) ++ [] = _
  rw [notes_ext L t _ (Nat.le_refl _), List.append_nil]
  simp [List.getD]
structure PI (L : List MTxn) (O : List MOp) (n : Nat) : Prop where
  ser : serF [] (ntL L O)
  st : ∀ t ∈ L, t.state = 1
  cnt : apC (ntL L O) = n
  ten : ∀ t ∈ L, t.ops.length ≤ 10
  gop : ∀ t ∈ L, ∀ o ∈ t.ops, GOp o
  gO : ∀ o ∈ O, GOp o
theorem serF_le : ∀ (P N : List MN), serF P N → ∀ b ∈ N, b.2.2.kind = 1 → b.2.2.value ≤ (apC (P ++ N) : Int) ∧ 0 < b.2.2.value
  | P, [], _, x, hx, _ => by cases hx
  | P, a :: N, h, x, hx, hk => by
    rcases List.mem_cons.1 hx with rfl | hx
    · rcases h.1 with q | q
      · rw [q.2]
        have : apC (P ++ x :: N) = apC P + apC (x :: N) := by unfold apC; rw [List.filter_append, List.length_append]
        have h2 : 0 < apC (x :: N) := by unfold apC; rw [List.filter_cons, if_pos (by simp [hk])]; simp
        omega
      · rw [hk] at q; exact absurd q.1 (by decide)
    · have := serF_le _ N h.2 x hx hk
      rw [List.append_assoc] at this
      exact this
section
variable {L : List MTxn} {O : List MOp} {n : Nat}
theorem PI.nil : PI [] [] 0 := ⟨trivial, fun _ h => (by cases h), rfl, fun _ h => (by cases h), fun _ h => (by cases h), fun _ h => (by cases h)⟩
theorem PI.size (h : PI L O n) : n ≤ 10 * L.length + O.length := by
  rw [← h.cnt]
  unfold apC
  refine Nat.le_trans (List.length_filter_le _ _) ?_
  unfold ntL
  rw [List.length_append, notesT_len]
  have := notes_len L h.ten L.length
  omega
theorem wf_int (x : Int) (h : 0 ≤ x) (h2 : x < 1000000) : (Lit.int .i64 x).wf = true := by
  obtain ⟨k, rfl⟩ := Int.eq_ofNat_of_zero_le h
  exact wf_nat k (by omega)
theorem PI.app (h : PI L O n) (hL : L.length ≤ 40) (hO : O.length < 10) (key : ByteArray) (hk : key.size ≤ 281474976710656) : PI L (O ++ [((1 : Int), key, ((n : Int) + 1), [], false, false)]) (n + 1) := by
  have hs := h.size
  refine ⟨?_, h.st, ?_, h.ten, h.gop, fun o ho => ?_⟩
  · rw [ntL_more]
    refine serF_snoc _ _ _ h.ser (.inl ⟨rfl, ?_⟩)
    show (n : Int) + 1 = _
    rw [List.nil_append, h.cnt]
  · rw [ntL_more, apC_snoc, h.cnt]
    rfl
  · rcases List.mem_append.1 ho with ho | ho
    · exact h.gO o ho
    · rw [List.mem_singleton] at ho
      subst ho
      exact ⟨⟨hk, wf_int ((n : Int) + 1) (by omega) (by omega)⟩, fun x hx => (by cases hx), Nat.zero_le _⟩
theorem apV_len (s : ByteArray) (N : List MN) : (apV s N).length ≤ N.length := by
  unfold apV
  rw [List.length_map]
  exact List.length_filter_le _ _
theorem PI.nlen (h : PI L O n) : (ntL L O).length ≤ 10 * L.length + O.length := by
  unfold ntL
  rw [List.length_append, notesT_len]
  have := notes_len L h.ten L.length
  omega
theorem PI.read (h : PI L O n) (hL : L.length ≤ 40) (hO : O.length < 10) (key : ByteArray) (hk : key.size ≤ 281474976710656) : PI L (O ++ [((2 : Int), key, (0 : Int), apV key (ntL L O), true, false)]) n := by
  have hs := h.size
  have hn := h.nlen
  refine ⟨?_, h.st, ?_, h.ten, h.gop, fun o ho => ?_⟩
  · rw [ntL_more]
    exact serF_snoc _ _ _ h.ser (.inr ⟨rfl, rfl, rfl⟩)
  · rw [ntL_more, apC_snoc, h.cnt]
    rfl
  · rcases List.mem_append.1 ho with ho | ho
    · exact h.gO o ho
    · rw [List.mem_singleton] at ho
      subst ho
      refine ⟨⟨hk, wf_int 0 (by decide) (by decide)⟩, fun x hx => ?_, ?_⟩
      · have hx : x ∈ apV key (ntL L O) := hx
        unfold apV at hx
        obtain ⟨y, hy, rfl⟩ := List.mem_map.1 hx
        rw [List.mem_filter] at hy
        have := serF_le [] _ h.ser y hy.1 (isA_kind hy.2).1
        rw [List.nil_append, h.cnt] at this
        exact wf_int _ (by omega) (by omega)
      · have := apV_len key (ntL L O)
        show (apV key (ntL L O)).length ≤ 100000
        omega
theorem PI.txn (h : PI L O n) (hO : O.length ≤ 10) (a b : Int) : PI (L ++ [((0 : Int), (1 : Int), a, b, O)]) [] n := by
  have e : ntL (L ++ [((0 : Int), (1 : Int), a, b, O)]) [] = ntL L O := ntL_txn L _
  refine ⟨by rw [e]; exact h.ser, fun t ht => ?_, by rw [e]; exact h.cnt, fun t ht => ?_, fun t ht => ?_, fun o ho => (by cases ho)⟩
  · rcases List.mem_append.1 ht with ht | ht
    · exact h.st t ht
    · rw [List.mem_singleton] at ht; subst ht; rfl
  · rcases List.mem_append.1 ht with ht | ht
    · exact h.ten t ht
    · rw [List.mem_singleton] at ht; subst ht; exact hO
  · rcases List.mem_append.1 ht with ht | ht
    · exact h.gop t ht
    · rw [List.mem_singleton] at ht; subst ht; exact h.gO
theorem PI.over (h : PI L [] n) (hL : L.length ≤ 40) : Ser L ∧ Good L := by
  have e : ntL L [] = notes L L.length := by unfold ntL; exact List.append_nil _
  exact ⟨⟨by rw [← e]; exact h.ser, h.st⟩, ⟨by omega, h.ten, fun t ht o ho => (h.gop t ht o ho).1, fun t ht o ho => (h.gop t ht o ho).2.1, fun t ht o ho => (h.gop t ht o ho).2.2⟩⟩
end
/-- The transactions that are done, and the map. -/
structure MI (B mb : Nat) (P : Nat → Prop) (D : ByteArray → Value) (w : World) (m : Nat) (outv : Value) (rT : List (List Value)) (L : List MTxn) (g : ByteArray → List Int) : Prop where
  plt : ∀ b, P b → B ≤ b ∧ b < w.heap.size
  dm : DM B mb P D w m g
  out : OutP 47 5 TxnRow P B w outv rT L
/-- One more under way, in a box. -/
structure MY (B mb yb : Nat) (P : Nat → Prop) (D : ByteArray → Value) (w : World) (m : Nat) (outv : Value) (rT : List (List Value)) (L : List MTxn) (g : ByteArray → List Int) (opsv : Value) (rO : List (List Value)) (O : List MOp) (a b : Int) : Prop where
  mi : MI B mb P D w m outv rT L g
  ops : OutP 49 6 OpRow P B w opsv rO O
  box : w.heap[yb]? = some (.cells #[.int .i64 0, .int .i64 1, .int .i64 a, .int .i64 b, opsv] 47)
  yl : B ≤ yb
  yP : ¬ P yb
  yo : outv.ownBlock ≠ some yb
section
variable {B mb yb : Nat} {P P' : Nat → Prop} {D : ByteArray → Value} {w w' : World} {m : Nat} {outv : Value} {rT : List (List Value)} {L : List MTxn} {g : ByteArray → List Int} {opsv : Value} {rO : List (List Value)} {O : List MOp} {a b : Int}
theorem MI.keep (h : MI B mb P D w m outv rT L g) (hz : w.heap.size ≤ w'.heap.size) (hP : KeepsIn P w w') (hm : w'.heap[mb]? = w.heap[mb]?) (hd : ∀ s gb, (D s).ownBlock = some gb → w'.heap[gb]? = w.heap[gb]?) (ho : ∀ gb, outv.ownBlock = some gb → w'.heap[gb]? = w.heap[gb]?) : MI B mb P D w' m outv rT L g :=
  ⟨fun b hb => ⟨(h.plt b hb).1, Nat.lt_of_lt_of_le (h.plt b hb).2 hz⟩, h.dm.keep hm hd h.dm.np h.dm.npm, h.out.keep txnRow_keep hP ho (fun _ _ x => x) h.out.np⟩
theorem MI.later (h : MI B mb P D w m outv rT L g) (hb : Below w.heap.size w w') : MI B mb P D w' m outv rT L g :=
  h.keep hb.size (fun b hp hl => hb.block b hl) (hb.block _ h.dm.mlt) (fun s gb hg => hb.block gb (h.dm.cells hg).2.1) (fun gb hg => hb.block gb (own_block h.out.own hg).2.1)
theorem MY.later (h : MY B mb yb P D w m outv rT L g opsv rO O a b) (hb : Below w.heap.size w w') : MY B mb yb P D w' m outv rT L g opsv rO O a b :=
  ⟨h.mi.later hb, h.ops.keep opRow_keep (fun b hp hl => hb.block b hl) (fun gb hg => hb.block gb (own_block h.ops.own hg).2.1) (fun _ _ x => x) h.ops.np, (hb.block yb (blt h.box)).trans h.box, h.yl, h.yP, h.yo⟩
/-- Behind m[s] = append(m[s], x). -/
theorem MY.put (h : MY B mb yb P D w m outv rT L g opsv rO O a b) (s : ByteArray) {w4 : World} {D' : ByteArray → Value} {m' : Nat} {g' : ByteArray → List Int} (hz : w.heap.size ≤ w4.heap.size) (hdm : DM B mb P D' w4 m' g') (hkp : ∀ b, b < w.heap.size → (D s).ownBlock ≠ some b → b ≠ mb → w4.heap[b]? = w.heap[b]?) : MY B mb yb P D' w4 m' outv rT L g' opsv rO O a b := by
  have ty : ∀ (gb : Nat) (cs : Array Value) (e : Nat), e ≠ 3 → w.heap[gb]? = some (.cells cs e) → w4.heap[gb]? = w.heap[gb]? := fun gb cs e he hc => hkp gb (blt hc) (fun c => by
    obtain ⟨_, _, cs', q⟩ := h.mi.dm.cells c
    rw [hc] at q
    injection q with q
    injection q with _ q
    exact he q) (fun c => by rw [c] at hc; exact h.mi.dm.noCells hc)
  have kP : KeepsIn P w w4 := fun k hk hl => hkp k hl (fun c => h.mi.dm.np s k c hk) (fun c => by rw [c] at hk; exact h.mi.dm.npm hk)
  refine ⟨⟨fun k hk => ⟨(h.mi.plt k hk).1, Nat.lt_of_lt_of_le (h.mi.plt k hk).2 hz⟩, hdm, h.mi.out.keep txnRow_keep kP (fun gb hg => ?_) (fun _ _ x => x) h.mi.out.np⟩, h.ops.keep opRow_keep kP (fun gb hg => ?_) (fun _ _ x => x) h.ops.np, (ty yb _ 47 (by decide) h.box).trans h.box, h.yl, h.yP, h.yo⟩
  · obtain ⟨_, _, cs, q⟩ := own_block h.mi.out.own hg
    exact ty gb cs 47 (by decide) q
  · obtain ⟨_, _, cs, q⟩ := own_block h.ops.own hg
    exact ty gb cs 49 (by decide) q
/-- Behind y.Ops = append(y.Ops, ..): w' with what was laid beside, w3 behind the append. -/
theorem MY.push (h : MY B mb yb P D w m outv rT L g opsv rO O a b) (hb : Below w.heap.size w w') (hB : B ≤ w.heap.size) (c : Nat) (hc1 : w.heap.size ≤ c) (hc2 : c ≤ w'.heap.size) {w3 : World} {g3 cap : Nat} {row : List Value} {x : MOp}
    (hrow : OpRow (fun k => P k ∨ (w.heap.size ≤ k ∧ k < c)) w' row x) (hlen : row.length = 6) (hown : w3.ownsRow B 49 6 (.slice (some ⟨g3, 0, none⟩) (O.length + 1) cap) (O.length + 1) (rO.flatten ++ row)) (hgr : w'.grownBy w3 opsv.ownBlock) (hat : opsv.ownBlock = some g3 ∨ g3 = w'.heap.size) :
    MY B mb yb (fun k => P k ∨ (w.heap.size ≤ k ∧ k < c)) D (w3.setCell ⟨yb, 4, none⟩ (.slice (some ⟨g3, 0, none⟩) (O.length + 1) cap)) m outv rT L g (.slice (some ⟨g3, 0, none⟩) (O.length + 1) cap) (rO ++ [row]) (O ++ [x]) a b := by
  have h' := h.later hb
  have hyl := blt h.box
  have hyo : opsv.ownBlock ≠ some yb := fun e => by
    obtain ⟨_, _, cs, q⟩ := own_block h.ops.own e
    rw [h.box] at q
    injection q with q
    injection q with _ q
    exact absurd q (by decide)
  have hg3 : g3 ≠ yb := fun e => by
    rcases hat with q | q
    · rw [e] at q; exact hyo q
    · have := hb.size; omega
  have kp : ∀ k, k < w'.heap.size → opsv.ownBlock ≠ some k → k ≠ yb → (w3.setCell ⟨yb, 4, none⟩ (.slice (some ⟨g3, 0, none⟩) (O.length + 1) cap)).heap[k]? = w'.heap[k]? := fun k hk h1 h2 => (set_ne h2).trans (hgr.block k hk (fun e => h1 e.symm))
  have sz : (w3.setCell ⟨yb, 4, none⟩ (.slice (some ⟨g3, 0, none⟩) (O.length + 1) cap)).heap.size = w3.heap.size := by simp [World.setCell]
  have ty : ∀ (gb : Nat) (cs : Array Value) (e : Nat), e ≠ 49 → gb ≠ yb → w'.heap[gb]? = some (.cells cs e) → (w3.setCell ⟨yb, 4, none⟩ (.slice (some ⟨g3, 0, none⟩) (O.length + 1) cap)).heap[gb]? = w'.heap[gb]? := fun gb cs e he hy hc => kp gb (blt hc) (fun c => by
    obtain ⟨_, _, cs', q⟩ := own_block h'.ops.own c
    rw [hc] at q
    injection q with q
    injection q with _ q
    exact he q) hy
  have kP : KeepsIn (fun k => P k ∨ (w.heap.size ≤ k ∧ k < c)) w' (w3.setCell ⟨yb, 4, none⟩ (.slice (some ⟨g3, 0, none⟩) (O.length + 1) cap)) := fun k hk hl => by
    rcases hk with hk | hk
    · exact kp k hl (fun e => h.ops.np k e hk) (fun e => by rw [e] at hk; exact h.yP hk)
    · exact kp k hl (fun e => by have := (own_block h.ops.own e).2.1; omega) (by omega)
  have mbk : (w3.setCell ⟨yb, 4, none⟩ (.slice (some ⟨g3, 0, none⟩) (O.length + 1) cap)).heap[mb]? = w'.heap[mb]? := kp mb h'.mi.dm.mlt (fun e => by
    obtain ⟨_, _, cs, q⟩ := own_block h'.ops.own e
    exact h'.mi.dm.noCells q) (fun e => by
    have q := h'.box
    rw [← e] at q
    exact h'.mi.dm.noCells q)
  refine ⟨⟨fun k hk => ?_, h'.mi.dm.keep mbk (fun s gb hg => ?_) (fun s gb hg c' => ?_) (fun c' => ?_), h'.mi.out.keep txnRow_keep (fun k hk hl => kP k (.inl hk) hl) (fun gb hg => ?_) (fun _ _ x => .inl x) (fun gb hg c' => ?_)⟩, ?_, ?_, h.yl, fun c' => ?_, h.yo⟩
  · rw [sz]
    have := hgr.size
    rcases hk with hk | hk
    · have q := h'.mi.plt k hk
      exact ⟨q.1, by omega⟩
    · exact ⟨by omega, by omega⟩
  · obtain ⟨_, _, cs, q⟩ := h'.mi.dm.cells hg
    refine ty gb cs 3 (by decide) (fun e => ?_) q
    rw [e, h'.box] at q
    injection q with q
    injection q with _ q
    exact absurd q (by decide)
  · rcases c' with c' | c'
    · exact h.mi.dm.np s gb hg c'
    · have := (h.mi.dm.cells hg).2.1
      omega
  · rcases c' with c' | c'
    · exact h.mi.dm.npm c'
    · have := h.mi.dm.mlt
      omega
  · obtain ⟨_, _, cs, q⟩ := own_block h'.mi.out.own hg
    exact ty gb cs 47 (by decide) (fun e => h.yo (by rw [← e]; exact hg)) q
  · rcases c' with c' | c'
    · exact h.mi.out.np gb hg c'
    · have := (own_block h.mi.out.own hg).2.1
      omega
  · refine h'.ops.step opRow_keep (P' := fun k => P k ∨ (w.heap.size ≤ k ∧ k < c)) (fun k hk hl => kP k (.inl hk) hl) (fun _ _ x => .inl x) (hrow.keep kP (fun _ _ x => x)) hlen (own_same hown (fun k hk => ?_)) (fun c' => ?_)
    · simp only [Value.ownBlock] at hk
      cases hk
      exact set_ne hg3
    · rcases c' with c' | c'
      · rcases hat with q | q
        · exact h.ops.np g3 q c'
        · have := (h'.mi.plt g3 c').2
          omega
      · rcases hat with q | q
        · have := (own_block h.ops.own q).2.1
          omega
        · omega
  · have q : w3.heap[yb]? = some (.cells #[.int .i64 0, .int .i64 1, .int .i64 a, .int .i64 b, opsv] 47) := (hgr.block yb (by have := hb.size; omega) (fun e => hyo e.symm)).trans h'.box
    simp only [World.setCell, Array.getElem?_modify, if_true]
    rw [q]
    rfl
  · rcases c' with c' | c'
    · exact h.yP c'
    · omega
/-- Behind out = append(out, y). -/
theorem MY.done (h : MY B mb yb P D w m outv rT L g opsv rO O a b) (hb : Below w.heap.size w w') (hO : O.length ≤ 10) {w3 : World} {g3 cap : Nat}
    (hown : w3.ownsRow B 47 5 (.slice (some ⟨g3, 0, none⟩) (L.length + 1) cap) (L.length + 1) (rT.flatten ++ [.int .i64 0, .int .i64 1, .int .i64 a, .int .i64 b, opsv])) (hgr : w'.grownBy w3 outv.ownBlock) (hat : outv.ownBlock = some g3 ∨ g3 = w'.heap.size) :
    MI B mb (fun k => P k ∨ opsv.ownBlock = some k) D w3 m (.slice (some ⟨g3, 0, none⟩) (L.length + 1) cap) (rT ++ [[.int .i64 0, .int .i64 1, .int .i64 a, .int .i64 b, opsv]]) (L ++ [((0 : Int), (1 : Int), a, b, O)]) g := by
  have h' := h.later hb
  have hoo : ∀ k, opsv.ownBlock = some k → outv.ownBlock ≠ some k := fun k hk e => by
    obtain ⟨_, _, cs, q⟩ := own_block h.ops.own hk
    obtain ⟨_, _, cs', q'⟩ := own_block h.mi.out.own e
    rw [q] at q'
    injection q' with q'
    injection q' with _ q'
    exact absurd q' (by decide)
  have kP : KeepsIn (fun k => P k ∨ opsv.ownBlock = some k) w' w3 := fun k hk hl => hgr.block k hl (fun e => by
    rcases hk with hk | hk
    · exact h.mi.out.np k e.symm hk
    · exact hoo k hk e.symm)
  have ty : ∀ (gb : Nat) (cs : Array Value) (e : Nat), e ≠ 47 → w'.heap[gb]? = some (.cells cs e) → w3.heap[gb]? = w'.heap[gb]? := fun gb cs e he hc => hgr.block gb (blt hc) (fun c => by
    obtain ⟨_, _, cs', q⟩ := own_block h'.mi.out.own c.symm
    rw [hc] at q
    injection q with q
    injection q with _ q
    exact he q)
  have mbk : w3.heap[mb]? = w'.heap[mb]? := hgr.block mb h'.mi.dm.mlt (fun e => by
    obtain ⟨_, _, cs, q⟩ := own_block h'.mi.out.own e.symm
    exact h'.mi.dm.noCells q)
  have hrow : TxnRow (fun k => P k ∨ opsv.ownBlock = some k) w3 [.int .i64 0, .int .i64 1, .int .i64 a, .int .i64 b, opsv] ((0 : Int), (1 : Int), a, b, O) := by
    refine ⟨opsv, rfl, ?_⟩
    have q : OpsIn (fun k => P k ∨ opsv.ownBlock = some k) w' opsv O := h'.ops.rows_in opRow_keep (by show O.length * 64 ≤ _; omega) (fun _ x => .inl x) (fun _ x => .inr x)
    exact q.keep kP (fun _ _ x => x)
  refine ⟨fun k hk => ?_, h'.mi.dm.keep mbk (fun s gb hg => ?_) (fun s gb hg c => ?_) (fun c => ?_), h'.mi.out.step txnRow_keep (fun k hk hl => kP k (.inl hk) hl) (fun _ _ x => .inl x) hrow rfl hown (fun c => ?_)⟩
  · have := hgr.size
    rcases hk with hk | hk
    · have q := h'.mi.plt k hk
      exact ⟨q.1, by omega⟩
    · have q := own_block h'.ops.own hk
      exact ⟨q.1, by omega⟩
  · obtain ⟨_, _, cs, q⟩ := h'.mi.dm.cells hg
    exact ty gb cs 3 (by decide) q
  · rcases c with c | c
    · exact h.mi.dm.np s gb hg c
    · obtain ⟨_, _, cs, q⟩ := h'.mi.dm.cells hg
      obtain ⟨_, _, cs', q'⟩ := own_block h'.ops.own c
      rw [q] at q'
      injection q' with q'
      injection q' with _ q'
      exact absurd q' (by decide)
  · rcases c with c | c
    · exact h.mi.dm.npm c
    · obtain ⟨_, _, cs, q⟩ := own_block h'.ops.own c
      exact h'.mi.dm.noCells q
  · rcases hat with q | q
    · rcases c with c | c
      · exact h.mi.out.np g3 q c
      · exact hoo g3 c q
    · rcases c with c | c
      · have := (h'.mi.plt g3 c).2
        omega
      · have := (own_block h'.ops.own c).2.1
        omega
end
end Go.Proofs.Ytnfbcmnlloipiaa
