/-
  The document's transactions, plain: they are what the code tells.
  The document's Txns.
  PairTells.
  From a reading of a history as data to the history in memory.
-/
import Derived.Test.YtjobdfgcgnpppaaDoorJ11
import Derived.Test.YtjobdfgcgnpppaaDoorJ9
import Derived.Test.YtjobdfgcgnpppaaDoorJ2
import Derived.Deep.Slices
import Derived.OpenShut
import Derived.SizedLaws
namespace Go.Proofs.YtjobdfgcgnpppaaDoor
set_option linter.unusedVariables false
set_option linter.unusedSimpArgs false
open Go.RowKit Go.Lib

/-- The first event of event i's process behind it, among the first n. -/
def fstK (l : List MEv) (i : Nat) : Nat → Option Nat
  | 0 => none
  | n + 1 => match fstK l i n with
    | some k => some k
    | none => if i < n ∧ (l.getD n default).proc = (l.getD i default).proc then some n else none
theorem fstK_succ (l : List MEv) (i n : Nat) : fstK l i (n + 1) = (match fstK l i n with | some k => some k | none => if i < n ∧ (l.getD n default).proc = (l.getD i default).proc then some n else none) := rfl
theorem fstK_le (l : List MEv) (i : Nat) : ∀ n, n ≤ i + 1 → fstK l i n = none
  | 0, _ => rfl
  | n + 1, h => by
    rw [fstK_succ, fstK_le l i n (by omega)]
    simp only
    rw [if_neg (by omega)]
theorem fstK_on {l : List MEv} {i k : Nat} : ∀ {n m}, n ≤ m → fstK l i n = some k → fstK l i m = some k
  | n, 0, h, hk => by
    have : n = 0 := by omega
    subst this
    exact hk
  | n, m + 1, h, hk => by
    by_cases e : n = m + 1
    · subst e; exact hk
    · rw [fstK_succ, fstK_on (show n ≤ m by omega) hk]
/-- A transaction, as the document tells it of the first n events. -/
def docT (l : List MEv) (i n : Nat) : MTx := match fstK l i n with
  | none => ((l.getD i default).proc, 3, (i : Int), -1, (l.getD i default).ops)
  | some k => ((l.getD i default).proc, (l.getD k default).kind - 1, (i : Int), (k : Int), (l.getD k default).ops)
theorem docT_none {l : List MEv} {i n : Nat} (h : fstK l i n = none) : docT l i n = ((l.getD i default).proc, 3, (i : Int), -1, (l.getD i default).ops) := by unfold docT; rw [h]
theorem docT_some {l : List MEv} {i n k : Nat} (h : fstK l i n = some k) : docT l i n = ((l.getD i default).proc, (l.getD k default).kind - 1, (i : Int), (k : Int), (l.getD k default).ops) := by unfold docT; rw [h]
def docL (l : List MEv) : Nat → List MTx
  | 0 => []
  | k + 1 => if (l.getD k default).kind = 1 then docL l k ++ [docT l k l.length] else docL l k
theorem docL_len (l : List MEv) : ∀ k, (docL l k).length = invN l k
  | 0 => rfl
  | k + 1 => by
    unfold docL
    rw [invN_succ]
    by_cases h : (l.getD k default).kind = 1
    · rw [if_pos h, if_pos h, List.length_append, docL_len l k]
      rfl
    · rw [if_neg h, if_neg h]
      exact docL_len l k
theorem docL_at {l : List MEv} {i : Nat} (h1 : (l.getD i default).kind = 1) : ∀ k, i < k → (docL l k).getD (invN l i) default = docT l i l.length
  | 0, h => absurd h (Nat.not_lt_zero _)
  | k + 1, h => by
    unfold docL
    by_cases e : i = k
    · subst e
      rw [if_pos h1, getD_snoc_new (docL_len l i).symm]
    · have ih := docL_at h1 k (by omega)
      by_cases hk : (l.getD k default).kind = 1
      · rw [if_pos hk, getD_snoc_old (by rw [docL_len]; exact invN_lt (by omega) h1)]
        exact ih
      · rw [if_neg hk]
        exact ih
theorem opn_fst {l : List MEv} {p : Int} {i : Nat} : ∀ {n}, opnP l n p = some i → fstK l i n = none
  | 0, h => by cases h
  | n + 1, h => by
    have hat := opnP_at h
    unfold opnP at h
    by_cases h1 : (l.getD n default).proc = p
    · rw [if_pos h1] at h
      by_cases h2 : (l.getD n default).kind = 1
      · rw [if_pos h2] at h
        injection h with h
        subst h
        exact fstK_le l n _ (Nat.le_refl _)
      · rw [if_neg h2] at h
        cases h
    · rw [if_neg h1] at h
      rw [fstK_succ, opn_fst h]
      simp only
      rw [if_neg (fun c => h1 (c.2.trans hat.2.1))]
theorem fst_opn {l : List MEv} {i : Nat} (h1 : (l.getD i default).kind = 1) : ∀ {n}, i < n → fstK l i n = none → opnP l n (l.getD i default).proc = some i
  | 0, h, _ => absurd h (Nat.not_lt_zero _)
  | n + 1, h, hf => by
    rw [fstK_succ] at hf
    cases hq : fstK l i n with
    | some k => rw [hq] at hf; cases hf
    | none =>
      rw [hq] at hf
      simp only at hf
      unfold opnP
      by_cases e : i = n
      · subst e
        rw [if_pos rfl, if_pos h1]
      · by_cases c : (l.getD n default).proc = (l.getD i default).proc
        · rw [if_pos ⟨by omega, c⟩] at hf
          cases hf
        · rw [if_neg c]
          exact fst_opn h1 (by omega) hq
theorem tx_doc {l : List MEv} (hk : ∀ j, j < l.length → 1 ≤ (l.getD j default).kind ∧ (l.getD j default).kind ≤ 4) {i : Nat} (h1 : (l.getD i default).kind = 1) : ∀ n, n ≤ l.length → (∀ j, j < n → stepE l j = 0) → i < n → (txL l n).getD (invN l i) default = docT l i n
  | 0, _, _, h => absurd h (Nat.not_lt_zero _)
  | n + 1, hn, hz, h => by
    by_cases e : i = n
    · subst e
      rw [txL_one h1, getD_snoc_new (txL_len l i).symm, docT_none (fstK_le l i _ (Nat.le_refl _))]
    · have hin : i < n := by omega
      have ih := tx_doc hk h1 n (by omega) (fun j hj => hz j (by omega)) hin
      have hlt := invN_lt hin h1
      have hsn := hz n (by omega)
      have other : ∀ i', opnP l n (l.getD n default).proc = some i' → i' ≠ i → ((txL l n).set (invN l i') ((l.getD n default).proc, staT (l.getD n default).kind, (i' : Int), (n : Int), (l.getD n default).ops)).getD (invN l i) default = (txL l n).getD (invN l i) default := fun i' hi' hne => by
        have hat := opnP_at hi'
        rw [getD_set_old (fun c => hne (invN_inj hat.2.2 h1 c))]
      cases hf : fstK l i n with
      | some k0 =>
        have hd : docT l i (n + 1) = docT l i n := by rw [docT_some (fstK_on (Nat.le_succ n) hf), docT_some hf]
        rw [hd, ← ih]
        by_cases hkn : (l.getD n default).kind = 1
        · rw [txL_one hkn, getD_snoc_old (by rw [txL_len]; exact hlt)]
        · obtain ⟨i', hi'⟩ := step_opn hsn hkn
          rw [txL_end hkn hi', other i' hi' (fun c => by
            subst c
            rw [opn_fst hi'] at hf
            cases hf)]
      | none =>
        have ho := fst_opn h1 hin hf
        by_cases c : (l.getD n default).proc = (l.getD i default).proc
        · have hf1 : fstK l i (n + 1) = some n := by
            rw [fstK_succ, hf]
            simp only
            rw [if_pos ⟨hin, c⟩]
          have hkn : (l.getD n default).kind ≠ 1 := fun hkn => by
            unfold stepE at hsn
            rw [if_pos hkn, c, ho] at hsn
            simp at hsn
          rw [txL_end (i := i) hkn (by rw [c]; exact ho), getD_set_new (by rw [txL_len]; exact hlt), docT_some hf1, c]
          have hb := hk n (by omega)
          have e3 : staT (l.getD n default).kind = (l.getD n default).kind - 1 := by
            unfold staT
            by_cases a2 : (l.getD n default).kind = 2
            · rw [if_pos a2, a2]; rfl
            · rw [if_neg a2]
              by_cases a3 : (l.getD n default).kind = 3
              · rw [if_pos a3, a3]; rfl
              · rw [if_neg a3]
                omega
          rw [e3]
        · have hf1 : fstK l i (n + 1) = none := by
            rw [fstK_succ, hf]
            simp only
            rw [if_neg (fun q => c q.2)]
          have hd : docT l i (n + 1) = docT l i n := by rw [docT_none hf1, docT_none hf]
          rw [hd, ← ih]
          by_cases hkn : (l.getD n default).kind = 1
          · rw [txL_one hkn, getD_snoc_old (by rw [txL_len]; exact hlt)]
          · obtain ⟨i', hi'⟩ := step_opn hsn hkn
            rw [txL_end hkn hi', other i' hi' (fun q => by
              subst q
              exact c (opnP_at hi').2.1.symm)]
theorem doc_is {l : List MEv} (hk : ∀ j, j < l.length → 1 ≤ (l.getD j default).kind ∧ (l.getD j default).kind ≤ 4) (hz : ∀ j, j < l.length → stepE l j = 0) : docL l l.length = txL l l.length := by
  apply List.ext_getElem
  · rw [docL_len, txL_len]
  · intro j g1 g2
    rw [docL_len] at g1
    obtain ⟨i, a1, a2, a3, _⟩ := tx_at l.length hz j g1
    have q1 := docL_at a3 l.length a1
    have q2 := tx_doc hk a3 l.length (Nat.le_refl _) hz a1
    rw [a2, List.getD, List.getElem?_eq_getElem (by rw [docL_len]; exact g1)] at q1
    rw [a2, List.getD, List.getElem?_eq_getElem (by rw [txL_len]; exact g1)] at q2
    exact q1.trans q2.symm
end Go.Proofs.YtjobdfgcgnpppaaDoor
namespace Go.Proofs.YtjobdfgcgnpppaaDoor
set_option linter.unusedVariables false
set_option linter.unusedSimpArgs false
open Go.RowKit Go.Lib Go.Maps

/-- A transaction's cells, its operations in memory that stays. -/
def TxD (w0 : World) (S : Nat → Prop) (w : World) (cs : List Value) (t : MTx) : Prop := ∃ ov, cs = [.int .i64 t.proc, .int .i64 t.state, .int .i64 t.since, .int .i64 t.till, ov] ∧ OpsIn (fun b => b < w0.heap.size) w0 ov t.ops
theorem txD_keep (w0 : World) (S T : Nat → Prop) (w w' : World) (cs : List Value) (x : MTx) (h : TxD w0 S w cs x) (hk : KeepsIn S w w') (hT : ∀ b, b < w.heap.size → S b → T b) : TxD w0 T w' cs x := h
theorem OutInv.docs {B n : Nat} {w0 w : World} {v : Value} {rows : List (List Value)} {l : List MTx} (h : OutInv 44 5 (TxD w0) B w v n rows l) (hb : Below w0.heap.size w0 w) (hn : n ≤ 1000) : TxnsIn Any w v l := by
  have q := OutInv.rows_in (bytes := 56) (txD_keep w0) h (by omega)
  exact RowsIn.keep q (by omega) (fun cs x ⟨ov, h1, h2⟩ => ⟨ov, h1, h2.keep (keeps_below hb) (fun _ _ _ => trivial)⟩) (fun _ _ _ => rfl) (fun _ _ _ => trivial)
/-- The box in which a transaction is told. -/
def BoxT (w0 w : World) (tb : Nat) (t : MTx) : Prop := ∃ ov, w.cell? ⟨tb, 0, none⟩ = some (.int .i64 t.proc) ∧ w.cell? ⟨tb, 1, none⟩ = some (.int .i64 t.state) ∧ w.cell? ⟨tb, 2, none⟩ = some (.int .i64 t.since) ∧ w.cell? ⟨tb, 3, none⟩ = some (.int .i64 t.till) ∧ w.cell? ⟨tb, 4, none⟩ = some ov ∧ OpsIn (fun b => b < w0.heap.size) w0 ov t.ops ∧ ∀ o, w.frozen? ⟨tb, o, none⟩ = false
theorem BoxT.same {w0 w w' : World} {tb : Nat} {t : MTx} (h : BoxT w0 w tb t) (e : w'.heap[tb]? = w.heap[tb]?) : BoxT w0 w' tb t := by
  obtain ⟨ov, a0, a1, a2, a3, a4, a5, a6⟩ := h
  exact ⟨ov, cell_same e a0, cell_same e a1, cell_same e a2, cell_same e a3, cell_same e a4, a5, fun o => (frozen_same e o).trans (a6 o)⟩
theorem BoxT.fill {w0 w : World} {tb : Nat} {p s f t s2 t2 : Int} {O O2 : List MOp} {ov2 : Value} (h : BoxT w0 w tb (p, s, f, t, O)) (ho : OpsIn (fun b => b < w0.heap.size) w0 ov2 O2) : BoxT w0 (((w.setCell ⟨tb, 3, none⟩ (.int .i64 t2)).setCell ⟨tb, 1, none⟩ (.int .i64 s2)).setCell ⟨tb, 4, none⟩ ov2) tb (p, s2, f, t2, O2) := by
  obtain ⟨ov, a0, a1, a2, a3, a4, a5, a6⟩ := h
  have oth : ∀ (V : World) (o o' : Nat) (u u' : Value), o ≠ o' → V.cell? ⟨tb, o, none⟩ = some u → (V.setCell ⟨tb, o', none⟩ u').cell? ⟨tb, o, none⟩ = some u := fun V o o' u u' hne hu => (World.cell?_setCell_other _ _ _ _ (fun c => hne (by have := congrArg Addr.off c; simpa using this.symm))).trans hu
  refine ⟨ov2, ?_, ?_, ?_, ?_, ?_, ho, fun o => by rw [World.frozen?_setCell, World.frozen?_setCell, World.frozen?_setCell]; exact a6 o⟩
  · exact oth _ _ _ _ _ (by decide) (oth _ _ _ _ _ (by decide) (oth _ _ _ _ _ (by decide) a0))
  · exact oth _ _ _ _ _ (by decide) (World.cell?_setCell_same _ _ _ (oth _ _ _ _ _ (by decide) a1))
  · exact oth _ _ _ _ _ (by decide) (oth _ _ _ _ _ (by decide) (oth _ _ _ _ _ (by decide) a2))
  · exact oth _ _ _ _ _ (by decide) (oth _ _ _ _ _ (by decide) (World.cell?_setCell_same _ _ _ a3))
  · exact World.cell?_setCell_same _ _ _ (oth _ _ _ _ _ (by decide) (oth _ _ _ _ _ (by decide) a4))
set_option maxHeartbeats 8000000 in
set_option maxRecDepth 100000 in
theorem rtxns_is {S : Nat → Prop} (w : World) (v : Value) (l : List MEv) (h : EvsIn S w v l) (hkf : KeysFit l) :
    Calls Tryd.prog 15 #[v] w fun e w' => ∃ xv a y, e = .returned (.tuple #[xv, .int .i64 a, .int .i64 y]) ∧ Below w.heap.size w w' ∧ ChkR l a y ∧ (y ≠ 0 → xv = .slice none 0 0) ∧ (y = 0 → (∃ xa xc, xv = .slice xa (invN l l.length) xc) ∧ TxnsIn Any w' xv (docL l l.length)) := by
  have HE := hid h
  have RC := hid (rcheck_is w v l h hkf)
  obtain ⟨va, vc, rfl, hbig, k0⟩ := RowsIn.cells h (by decide)
  have HR := hid k0
  clear h hkf k0
  obtain ⟨i0, hi0, hz0, hz1, hz2⟩ := info_parts Tryd.infoTx
  have HI0 := hid hi0
  have HZ0 := hid hz0
  have HZ1 := hid hz1
  have HZ2 := hid hz2
  clear hi0 hz0 hz1 hz2
  go_enter Tryd.func15, Tryd.ntmps15
  go_upto_region 2 with (go_at_call 11; refine RC.out.mono ?_; rintro e w1 ⟨a, y, rfl, b1, t1⟩; have B1 := hid b1; have T1 := hid t1; clear b1 t1)
  by_cases hy : y = 0
  · have q1 : (y != (0 : Int)) = false := by simpa using hy
    have q2 : (y == (0 : Int)) = true := by simpa using hy
    have HY := hid hy
    have hl300 : l.length ≤ 300 := by
      rcases T1.out with ⟨_, _, c⟩ | ⟨_, k, _, _, hs, _, c⟩ | ⟨hc, _⟩
      · rw [hy] at c; cases c
      · exact absurd (c.symm.trans hy) hs
      · unfold canM at hc
        rw [Bool.and_eq_true, decide_eq_true_eq] at hc
        exact hc.1
    have KD : Hid (∀ j, j < l.length → 1 ≤ (l.getD j default).kind ∧ (l.getD j default).kind ≤ 4) := fun j hj => by
      rcases T1.out with ⟨_, _, c⟩ | ⟨_, k, _, _, hs, _, c⟩ | ⟨hc, _⟩
      · rw [hy] at c; cases c
      · exact absurd (c.symm.trans hy) hs
      · obtain ⟨⟨k1, k2, _⟩, _⟩ := can_ev hc hj
        exact ⟨k1, k2⟩
    have hli : (l.length : Int) ≤ 300 := by omega
    clear hy RC
    go_wp2_with fail
    go_loopg [7, 8, 9, 10, 11, 23] l.length (fun gg ov _ _ _ _ i wr => ∃ k : Nat, k ≤ l.length ∧ l.length - k ≤ gg ∧ i = .int .i64 k ∧ Aside (Below w.heap.size w wr) ∧ Aside (∃ rows, OutInv 44 5 (TxD w) w.heap.size wr ov (invN l k) rows (docL l k)))
    case atStart => exact ⟨0, Nat.zero_le _, by omega, rfl, B1.out, ⟨[], OutInv.nil _ _ _ _ _⟩⟩
    case round =>
      obtain ⟨k, hk, hgk, rfl, BR, AR⟩ := hrel
      by_cases hlt : k < l.length
      · have hlti : (k : Int) < (l.length : Int) := by omega
        obtain ⟨b1, o1, cs, rfl, hb1, _, ⟨ov, rfl, hov⟩, hcs⟩ := HR.out k hlt
        have d0 : wr.cell? ⟨b1, o1 + k * 3, none⟩ = _ := cell_later BR.out (hcs 0 _ rfl)
        have d1 := cell_later BR.out (hcs 1 _ rfl)
        have d2 := cell_later BR.out (hcs 2 _ rfl)
        have hov2 : OpsIn (fun b => b < w.heap.size) w ov (l.getD k default).ops := hov.keep (fun _ _ _ => rfl) (fun b hb _ => hb)
        obtain ⟨oa, oc, rfl, _⟩ := id hov
        have BN : ∀ o, Hid (Below w.heap.size w (wr.alloc o)) := fun o => bstep (below_box _ _) BR.out
        have AN : ∀ o, Hid (∃ rows, OutInv 44 5 (TxD w) w.heap.size (wr.alloc o) u7 (invN l k) rows (docL l k)) := fun o => by
          obtain ⟨rows, ho⟩ := AR.out
          exact ⟨rows, ho.later (txD_keep w) (below_box wr o)⟩
        by_cases h1 : (l.getD k default).kind = 1
        · rw [h1] at d0
          have H1 := hid h1
          have DL : Hid (docL l (k + 1) = docL l k ++ [docT l k l.length]) := by show (if _ then _ else _) = _; rw [if_pos h1]
          have IN : Hid (invN l (k + 1) = invN l k + 1) := by show _ = _; rw [invN_succ, if_pos h1]
          have FN : Hid (docT l k (k + 1) = ((l.getD k default).proc, 3, (k : Int), -1, (l.getD k default).ops)) := docT_none (fstK_le l k _ (Nat.le_refl _))
          have DN : Hid (∀ n, fstK l k n = none → docT l k n = ((l.getD k default).proc, 3, (k : Int), -1, (l.getD k default).ops)) := fun n hn => docT_none hn
          have DS : Hid (∀ n j, fstK l k n = some j → docT l k n = ((l.getD k default).proc, (l.getD j default).kind - 1, (k : Int), (j : Int), (l.getD j default).ops)) := fun n j hn => docT_some hn
          have FSt : Hid (∀ n, fstK l k n = none → k < n → fstK l k (n + 1) = if (l.getD n default).proc = (l.getD k default).proc then some n else none) := fun n hn hk' => by
            rw [fstK_succ, hn]
            simp only
            by_cases c : (l.getD n default).proc = (l.getD k default).proc
            · rw [if_pos ⟨hk', c⟩, if_pos c]
            · rw [if_neg (fun q => c q.2), if_neg c]
          obtain ⟨O, hO⟩ : ∃ O, (l.getD k default).ops = O := ⟨_, rfl⟩
          obtain ⟨pk, hpk⟩ : ∃ pk, (l.getD k default).proc = pk := ⟨_, rfl⟩
          rw [hO] at d2 hov2 FN DN
          rw [hpk] at d1 FN DN DS FSt
          have HOV := hid hov2
          clear hO hpk hcs hov hov2 h1
          obtain ⟨W3, hW3⟩ : ∃ W3, (wr.alloc (.cells #[.int .i64 1, .int .i64 pk, .slice oa O.length oc] 42)).alloc (.cells #[.int .i64 pk, .int .i64 3, .int .i64 (k : Int), .int .i64 (-1), .slice oa O.length oc] 44) = W3 := ⟨_, rfl⟩
          have BV3 : Hid (Below wr.heap.size wr W3) := by rw [← hW3]; exact bstep (below_box _ _) (below_box _ _)
          obtain ⟨xb, hxb⟩ : ∃ xb, wr.heap.size = xb := ⟨_, rfl⟩
          have e1 : (wr.alloc (.cells #[.int .i64 1, .int .i64 pk, .slice oa O.length oc] 42)).heap.size = xb + 1 := by simp [hxb]
          have x1 : W3.cell? ⟨xb, 1, none⟩ = some (.int .i64 pk) := by
            rw [← hW3, ← hxb]
            exact Lib.cell?_alloc_some _ (new_cells wr _ 42 1)
          have zc : ∀ i, W3.cell? ⟨xb + 1, i, none⟩ = (#[.int .i64 pk, .int .i64 3, .int .i64 (k : Int), .int .i64 (-1), .slice oa O.length oc] : Array Value)[i]? := fun i => by
            rw [← hW3, ← e1]
            exact new_cells _ _ 44 i
          have BX : Hid (BoxT w W3 (xb + 1) (docT l k (k + 1))) := by
            show BoxT _ _ _ _
            rw [FN.out]
            refine ⟨_, zc 0, zc 1, zc 2, zc 3, zc 4, HOV.out, fun o => ?_⟩
            rw [← hW3, ← e1]
            exact Lib.frozen_of_heap (heap_alloc_new _ _) o
          have hxw : w.heap.size ≤ xb := by rw [← hxb]; exact BR.out.size
          have hxl : xb < W3.heap.size := World.block_lt_of_cell? _ _ x1
          have htl : xb + 1 < W3.heap.size := World.block_lt_of_cell? _ _ (zc 0)
          clear zc e1 FN BN AN
          go_wp2_with fail
          clear hW3 d0 d1 d2
          go_loopg [11] l.length (fun gg i wr' => ∃ j : Nat, k + 1 ≤ j ∧ j ≤ l.length ∧ l.length - j ≤ gg ∧ i = .int .i64 j ∧ Aside (ButB (xb + 1) W3 wr') ∧ Aside (BoxT w wr' (xb + 1) (docT l k j)))
          case atStart => exact ⟨k + 1, Nat.le_refl _, by omega, by omega, by go_num, ButB.refl _ _, BX.out⟩
          case round =>
            rename World => wt
            obtain ⟨j, hkj, hj, hgj, rfl, BT, XT⟩ := hrel
            have BWT : Hid (Below w.heap.size w wt) := ⟨BT.out.1.trans (BV3.out.os.trans BR.out.os), BT.out.2.1.trans (BV3.out.tape.trans BR.out.tape), BT.out.2.2.1.trans (BV3.out.output.trans BR.out.output), Nat.le_trans BR.out.size (Nat.le_trans BV3.out.size BT.out.2.2.2.1), fun b hb => (BT.out.2.2.2.2 b (by have := BR.out.size; have := BV3.out.size; omega) (by omega)).trans ((BV3.out.block b (by have := BR.out.size; omega)).trans (BR.out.block b hb))⟩
            cases hf : fstK l k j with
            | none =>
              have XT1 := XT.out
              rw [DN.out j hf] at XT1
              by_cases hltj : j < l.length
              · have hltji : (j : Int) < (l.length : Int) := by omega
                have NX := FSt.out j hf (by omega)
                obtain ⟨b2, o2, cs2, hab, hb2, _, ⟨ov2, rfl, hov2⟩, hcs2⟩ := HR.out j hltj
                injection hab with hab
                injection hab with hb' ho'
                subst hb' ho'
                have y0 : wt.cell? ⟨b1, o1 + j * 3, none⟩ = _ := cell_later BWT.out (hcs2 0 _ rfl)
                have y1 := cell_later BWT.out (hcs2 1 _ rfl)
                have y2 := cell_later BWT.out (hcs2 2 _ rfl)
                have hov3 : OpsIn (fun b => b < w.heap.size) w ov2 (l.getD j default).ops := hov2.keep (fun _ _ _ => rfl) (fun b hb _ => hb)
                obtain ⟨pa, pc, rfl, _⟩ := id hov2
                obtain ⟨ov, a0, a1, a2, a3, a4, a5, a6⟩ := id XT1
                have x1t := cell_same (BT.out.2.2.2.2 xb hxl (by omega)) x1
                have hkd := KD.out j hltj
                have DJ := hid (DS.out (j + 1) j)
                have XT2 := hid XT1
                have HO3 := hid hov3
                clear hcs2 hov2 hov3 XT XT1
                obtain ⟨ej, hej⟩ : ∃ ej, (l.getD j default).kind = ej := ⟨_, rfl⟩
                obtain ⟨pj, hpj⟩ : ∃ pj, (l.getD j default).proc = pj := ⟨_, rfl⟩
                obtain ⟨Oj, hOj⟩ : ∃ Oj, (l.getD j default).ops = Oj := ⟨_, rfl⟩
                rw [hej] at y0 hkd DJ
                rw [hpj] at y1 NX
                rw [hOj] at y2 HO3 DJ
                clear hej hpj hOj
                obtain ⟨qa, qc, rfl, _⟩ := id a5
                have hnb1 : b1 ≠ xb + 1 := by omega
                have hnb2 : xb + 1 ≠ b1 := by omega
                have hnx : xb ≠ xb + 1 := by omega
                have f1 := a6 1
                have f3 := a6 3
                have f4 := a6 4
                have hk1 := hkd.1
                have hk4 := hkd.2
                by_cases hpp : pj = pk
                · rw [if_pos hpp] at NX
                  have hpq : (pj == pk) = true := by simpa using hpp
                  have DE := DJ.out NX
                  have NB : Hid (∀ V : World, V.heap = wt.heap → V.os = wt.os → V.tape = wt.tape → V.output = wt.output → BoxT w (((V.setCell ⟨xb + 1, 3, none⟩ (.int .i64 (j : Int))).setCell ⟨xb + 1, 1, none⟩ (.int .i64 (ej - 1))).setCell ⟨xb + 1, 4, none⟩ (.slice pa Oj.length pc)) (xb + 1) (docT l k (j + 1)) ∧ ButB (xb + 1) W3 (((V.setCell ⟨xb + 1, 3, none⟩ (.int .i64 (j : Int))).setCell ⟨xb + 1, 1, none⟩ (.int .i64 (ej - 1))).setCell ⟨xb + 1, 4, none⟩ (.slice pa Oj.length pc))) := fun V hV v1 v2 v3 => by
                    rw [DE]
                    refine ⟨BoxT.fill (XT2.out.same (by rw [hV])) HO3.out, ⟨v1.trans BT.out.1, v2.trans BT.out.2.1, v3.trans BT.out.2.2.1, ?_, fun b hb hn => ?_⟩⟩
                    · simp [World.setCell]
                      rw [hV]
                      exact BT.out.2.2.2.1
                    · refine (set_ne hn).trans ((set_ne hn).trans ((set_ne hn).trans ?_))
                      rw [hV]
                      exact BT.out.2.2.2.2 b hb hn
                  clear NX DE DJ XT2 HO3 DS DN FSt a5 a6 hkd
                  subst hpp
                  go_wp2_with fail
                  go_quiet (fail)
                  go_wp2_with fail
                  go_roundg (l.length - (j + 1))
                  case measure => omega
                  case rel => exact ⟨j + 1, by omega, by omega, by omega, by go_num, (NB.out _ rfl rfl rfl rfl).2, (NB.out _ rfl rfl rfl rfl).1⟩
                · rw [if_neg hpp] at NX
                  have hpq : (pj == pk) = false := by simpa using hpp
                  have DE : Hid (docT l k (j + 1) = (pk, 3, (k : Int), -1, O)) := DN.out (j + 1) NX
                  clear NX DJ HO3 DS DN FSt a5 a6 hkd hpp
                  go_wp2_with fail
                  go_quiet (fail)
                  go_wp2_with fail
                  go_roundg (l.length - (j + 1))
                  case measure => omega
                  case rel => exact ⟨j + 1, by omega, by omega, by omega, by go_num, ⟨BT.out.1, BT.out.2.1, BT.out.2.2.1, BT.out.2.2.2.1, BT.out.2.2.2.2⟩, by rw [DE.out]; exact XT2.out.same rfl⟩
              · have hltji : ¬ ((j : Int) < (l.length : Int)) := by omega
                have hje : j = l.length := by omega
                have DE : docT l k j = docT l k l.length := by rw [hje]
                clear XT1 hf hje
                have XF := XT.out
                rw [DE] at XF
                obtain ⟨rows, ho⟩ := AR.out
                have ho2 := OutInv.stay (w' := wt) (txD_keep w) ho (fun b hl _ => (BT.out.2.2.2.2 b (by have := BV3.out.size; omega) (by omega)).trans (BV3.out.block b (by omega)))
                have OW := hid ho2
                have OWA : ∀ o, Hid ((wt.alloc o).ownsRow w.heap.size 44 5 u7 (invN l k) rows.flatten) := fun o => OW.out.own3 (below_box wt o)
                obtain ⟨ov, a0, a1, a2, a3, a4, a5, a6⟩ := id XF
                have A5 := hid a5
                obtain ⟨fa, fc, rfl, _⟩ := id a5
                have hinv := invN_le l k
                have LESS := hid (fun o => (below_box wt o))
                have EDT : Hid (docT l k l.length = docT l k l.length) := rfl
                obtain ⟨D, hD⟩ : ∃ D, docT l k l.length = D := ⟨_, rfl⟩
                rw [hD] at a0 a1 a2 a3 a4 A5 DL
                clear ho ho2 XF a5 a6 XT hD EDT
                have ONE : Hid (∀ u ∈ ([.int .i64 D.proc, .int .i64 D.state, .int .i64 D.since, .int .i64 D.till, .slice fa D.ops.length fc] : List Value), u.oneCell' = true) := fun u hu => by
                  simp only [List.mem_cons, List.not_mem_nil, or_false] at hu
                  rcases hu with rfl | rfl | rfl | rfl | rfl <;> rfl
                go_wp2_with (at_builtin; refine wpList_append_lies _ rfl _ _ 33 rfl w.heap.size 44 i0 _ 5 56 Tryd.underlying33 HI0.out HZ0.out HZ1.out HZ2.out rfl (by decide) u7 (invN l k) rows.flatten rfl (OWA _).out ⟨wt.heap.size, 0, none⟩ 1 1 [.int .i64 D.proc, .int .i64 D.state, .int .i64 D.since, .int .i64 D.till, .slice fa D.ops.length fc] rfl rfl (World.news_of_block (cs := #[.int .i64 D.proc, .int .i64 D.state, .int .i64 D.since, .int .i64 D.till, .slice fa D.ops.length fc]) (t := 44) (fr := (0, 0)) (heap_alloc_new wt _)) ONE.out (by decide) (by unfold maxLen; omega) (by omega) (by have := BWT.out.size; simp; omega) _ rfl ?_; intro g cap W5 hown5 hgr5 hat5 hgl5; have O5 := hid hown5; have G5 := hid hgr5; have A6 := hid hat5; clear hown5 hgr5 hat5 hgl5)
                go_roundg (l.length - (k + 1))
                case measure => omega
                case rel =>
                  refine ⟨k + 1, by omega, by omega, by go_num, ?_, ?_⟩
                  · have hbx := bstep (below_box wt (.cells #[.int .i64 D.proc, .int .i64 D.state, .int .i64 D.since, .int .i64 D.till, .slice fa D.ops.length fc] 44)) BWT.out
                    exact ⟨G5.out.os.trans hbx.os, G5.out.tape.trans hbx.tape, G5.out.output.trans hbx.output, Nat.le_trans hbx.size G5.out.size, fun b hb => (G5.out.block b (Nat.lt_of_lt_of_le hb hbx.size) (fun e => by have := (OW.out.own.lt b e.symm).1; omega)).trans (hbx.block b hb)⟩
                  · rw [DL.out, IN.out]
                    exact ⟨_, OutInv.more (txD_keep w) OW.out BWT.out.size (below_box wt _) (x := D) ⟨_, rfl, A5.out⟩ rfl O5.out G5.out A6.out⟩
            | some j0 =>
              have DE : docT l k j = docT l k l.length := by rw [docT_some hf, docT_some (fstK_on hj hf)]
              have htl0 : Hid (∀ D, docT l k l.length = D → (0 : Int) ≤ D.till) := fun D hD => by
                rw [← hD, docT_some (fstK_on hj hf)]
                show (0 : Int) ≤ (j0 : Int)
                omega
              clear hf
              by_cases hltji : (j : Int) < (l.length : Int)
              · have hdummy : True := trivial
                have XF := XT.out
                rw [DE] at XF
                obtain ⟨rows, ho⟩ := AR.out
                have ho2 := OutInv.stay (w' := wt) (txD_keep w) ho (fun b hl _ => (BT.out.2.2.2.2 b (by have := BV3.out.size; omega) (by omega)).trans (BV3.out.block b (by omega)))
                have OW := hid ho2
                have OWA : ∀ o, Hid ((wt.alloc o).ownsRow w.heap.size 44 5 u7 (invN l k) rows.flatten) := fun o => OW.out.own3 (below_box wt o)
                obtain ⟨ov, a0, a1, a2, a3, a4, a5, a6⟩ := id XF
                have A5 := hid a5
                obtain ⟨fa, fc, rfl, _⟩ := id a5
                have hinv := invN_le l k
                have LESS := hid (fun o => (below_box wt o))
                have EDT : Hid (docT l k l.length = docT l k l.length) := rfl
                obtain ⟨D, hD⟩ : ∃ D, docT l k l.length = D := ⟨_, rfl⟩
                rw [hD] at a0 a1 a2 a3 a4 A5 DL
                have htn := htl0.out D hD
                have htn2 : ¬ (D.till < 0) := by omega
                clear ho ho2 XF a5 a6 XT hD EDT htl0
                have ONE : Hid (∀ u ∈ ([.int .i64 D.proc, .int .i64 D.state, .int .i64 D.since, .int .i64 D.till, .slice fa D.ops.length fc] : List Value), u.oneCell' = true) := fun u hu => by
                  simp only [List.mem_cons, List.not_mem_nil, or_false] at hu
                  rcases hu with rfl | rfl | rfl | rfl | rfl <;> rfl
                go_wp2_with (at_builtin; refine wpList_append_lies _ rfl _ _ 33 rfl w.heap.size 44 i0 _ 5 56 Tryd.underlying33 HI0.out HZ0.out HZ1.out HZ2.out rfl (by decide) u7 (invN l k) rows.flatten rfl (OWA _).out ⟨wt.heap.size, 0, none⟩ 1 1 [.int .i64 D.proc, .int .i64 D.state, .int .i64 D.since, .int .i64 D.till, .slice fa D.ops.length fc] rfl rfl (World.news_of_block (cs := #[.int .i64 D.proc, .int .i64 D.state, .int .i64 D.since, .int .i64 D.till, .slice fa D.ops.length fc]) (t := 44) (fr := (0, 0)) (heap_alloc_new wt _)) ONE.out (by decide) (by unfold maxLen; omega) (by omega) (by have := BWT.out.size; simp; omega) _ rfl ?_; intro g cap W5 hown5 hgr5 hat5 hgl5; have O5 := hid hown5; have G5 := hid hgr5; have A6 := hid hat5; clear hown5 hgr5 hat5 hgl5)
                go_roundg (l.length - (k + 1))
                case measure => omega
                case rel =>
                  refine ⟨k + 1, by omega, by omega, by go_num, ?_, ?_⟩
                  · have hbx := bstep (below_box wt (.cells #[.int .i64 D.proc, .int .i64 D.state, .int .i64 D.since, .int .i64 D.till, .slice fa D.ops.length fc] 44)) BWT.out
                    exact ⟨G5.out.os.trans hbx.os, G5.out.tape.trans hbx.tape, G5.out.output.trans hbx.output, Nat.le_trans hbx.size G5.out.size, fun b hb => (G5.out.block b (Nat.lt_of_lt_of_le hb hbx.size) (fun e => by have := (OW.out.own.lt b e.symm).1; omega)).trans (hbx.block b hb)⟩
                  · rw [DL.out, IN.out]
                    exact ⟨_, OutInv.more (txD_keep w) OW.out BWT.out.size (below_box wt _) (x := D) ⟨_, rfl, A5.out⟩ rfl O5.out G5.out A6.out⟩
              · have hdummy : True := trivial
                have XF := XT.out
                rw [DE] at XF
                obtain ⟨rows, ho⟩ := AR.out
                have ho2 := OutInv.stay (w' := wt) (txD_keep w) ho (fun b hl _ => (BT.out.2.2.2.2 b (by have := BV3.out.size; omega) (by omega)).trans (BV3.out.block b (by omega)))
                have OW := hid ho2
                have OWA : ∀ o, Hid ((wt.alloc o).ownsRow w.heap.size 44 5 u7 (invN l k) rows.flatten) := fun o => OW.out.own3 (below_box wt o)
                obtain ⟨ov, a0, a1, a2, a3, a4, a5, a6⟩ := id XF
                have A5 := hid a5
                obtain ⟨fa, fc, rfl, _⟩ := id a5
                have hinv := invN_le l k
                have LESS := hid (fun o => (below_box wt o))
                have EDT : Hid (docT l k l.length = docT l k l.length) := rfl
                obtain ⟨D, hD⟩ : ∃ D, docT l k l.length = D := ⟨_, rfl⟩
                rw [hD] at a0 a1 a2 a3 a4 A5 DL
                have htn := htl0.out D hD
                have htn2 : ¬ (D.till < 0) := by omega
                clear ho ho2 XF a5 a6 XT hD EDT htl0
                have ONE : Hid (∀ u ∈ ([.int .i64 D.proc, .int .i64 D.state, .int .i64 D.since, .int .i64 D.till, .slice fa D.ops.length fc] : List Value), u.oneCell' = true) := fun u hu => by
                  simp only [List.mem_cons, List.not_mem_nil, or_false] at hu
                  rcases hu with rfl | rfl | rfl | rfl | rfl <;> rfl
                go_wp2_with (at_builtin; refine wpList_append_lies _ rfl _ _ 33 rfl w.heap.size 44 i0 _ 5 56 Tryd.underlying33 HI0.out HZ0.out HZ1.out HZ2.out rfl (by decide) u7 (invN l k) rows.flatten rfl (OWA _).out ⟨wt.heap.size, 0, none⟩ 1 1 [.int .i64 D.proc, .int .i64 D.state, .int .i64 D.since, .int .i64 D.till, .slice fa D.ops.length fc] rfl rfl (World.news_of_block (cs := #[.int .i64 D.proc, .int .i64 D.state, .int .i64 D.since, .int .i64 D.till, .slice fa D.ops.length fc]) (t := 44) (fr := (0, 0)) (heap_alloc_new wt _)) ONE.out (by decide) (by unfold maxLen; omega) (by omega) (by have := BWT.out.size; simp; omega) _ rfl ?_; intro g cap W5 hown5 hgr5 hat5 hgl5; have O5 := hid hown5; have G5 := hid hgr5; have A6 := hid hat5; clear hown5 hgr5 hat5 hgl5)
                go_roundg (l.length - (k + 1))
                case measure => omega
                case rel =>
                  refine ⟨k + 1, by omega, by omega, by go_num, ?_, ?_⟩
                  · have hbx := bstep (below_box wt (.cells #[.int .i64 D.proc, .int .i64 D.state, .int .i64 D.since, .int .i64 D.till, .slice fa D.ops.length fc] 44)) BWT.out
                    exact ⟨G5.out.os.trans hbx.os, G5.out.tape.trans hbx.tape, G5.out.output.trans hbx.output, Nat.le_trans hbx.size G5.out.size, fun b hb => (G5.out.block b (Nat.lt_of_lt_of_le hb hbx.size) (fun e => by have := (OW.out.own.lt b e.symm).1; omega)).trans (hbx.block b hb)⟩
                  · rw [DL.out, IN.out]
                    exact ⟨_, OutInv.more (txD_keep w) OW.out BWT.out.size (below_box wt _) (x := D) ⟨_, rfl, A5.out⟩ rfl O5.out G5.out A6.out⟩
        · have q3 : ((l.getD k default).kind != (1 : Int)) = true := by simpa using h1
          have q4 : ((l.getD k default).kind == (1 : Int)) = false := by simpa using h1
          have DL : Hid (docL l (k + 1) = docL l k) := by show (if _ then _ else _) = _; rw [if_neg h1]
          have IN : Hid (invN l (k + 1) = invN l k) := by show _ = _; rw [invN_succ, if_neg h1]
          generalize (l.getD k default).kind = ek at *
          generalize (l.getD k default).proc = pp at *
          generalize (l.getD k default).ops.length = ol at *
          clear hcs hov hov2 h1
          go_wp2_with fail
          go_roundg (l.length - (k + 1))
          case measure => omega
          case rel => exact ⟨k + 1, by omega, by omega, by go_num, (BN _).out, by rw [DL.out, IN.out]; exact (AN _).out⟩
      · have hlti : ¬ ((k : Int) < (l.length : Int)) := by omega
        have hke : k = l.length := by omega
        subst hke
        obtain ⟨rows, hout⟩ := AR.out
        obtain ⟨xa, xc, rfl⟩ := own_slice hout.own
        have hinv := invN_le l l.length
        have FIN := hid (hout.docs BR.out (by omega))
        clear hout AR
        go_wp2_with fail
        refine bodyPost_ret (v := .tuple #[.slice xa (invN l l.length) xc, .int .i64 0, .int .i64 0]) (by simp [results, Tryd.results15, go_sem]) rfl ?_
        have HT := T1.out
        have ha : a = 0 := HT.zero HY.out
        rw [HY.out, ha] at HT
        exact ⟨_, 0, 0, rfl, BR.out, HT, fun c => absurd rfl c, fun _ => ⟨⟨xa, xc, rfl⟩, FIN.out⟩⟩
  · have q1 : (y != (0 : Int)) = true := by simpa using hy
    have q2 : (y == (0 : Int)) = false := by simpa using hy
    have HY := hid hy
    clear hy
    go_wp2_with fail
    refine bodyPost_ret (v := .tuple #[.slice none 0 0, .int .i64 a, .int .i64 y]) (by simp [results, Tryd.results15, go_sem]) rfl ?_
    exact ⟨_, a, y, rfl, B1.out, T1.out, fun _ => rfl, fun c => absurd c HY.out⟩
end Go.Proofs.YtjobdfgcgnpppaaDoor
namespace Go.Proofs.YtjobdfgcgnpppaaDoor
set_option linter.unusedVariables false
set_option linter.unusedSimpArgs false
open Go.RowKit Go.Lib Go.Maps

/-- A transaction's operations are those of an event. -/
theorem tx_ops (l : List MEv) : ∀ k, ∀ t ∈ txL l k, ∃ j, j < k ∧ t.ops = (l.getD j default).ops
  | 0, t, h => by cases h
  | k + 1, t, h => by
    have up : t ∈ txL l k → ∃ j, j < k + 1 ∧ t.ops = (l.getD j default).ops := fun q => by
      obtain ⟨j, h1, h2⟩ := tx_ops l k t q
      exact ⟨j, by omega, h2⟩
    by_cases h1 : (l.getD k default).kind = 1
    · rw [txL_one h1] at h
      rcases List.mem_append.1 h with q | q
      · exact up q
      · rw [List.mem_singleton] at q
        exact ⟨k, by omega, by rw [q]⟩
    · have e : txL l (k + 1) = (match opnP l k (l.getD k default).proc with | none => txL l k | some i => (txL l k).set (invN l i) ((l.getD k default).proc, staT (l.getD k default).kind, (i : Int), (k : Int), (l.getD k default).ops)) := by
        show (if (l.getD k default).kind = 1 then _ else _) = _
        rw [if_neg h1]
        cases opnP l k (l.getD k default).proc <;> rfl
      rw [e] at h
      cases hq : opnP l k (l.getD k default).proc with
      | none => rw [hq] at h; exact up h
      | some i =>
        rw [hq] at h
        rcases List.mem_or_eq_of_mem_set h with q | q
        · exact up q
        · exact ⟨k, by omega, by rw [q]⟩
set_option maxHeartbeats 8000000 in
set_option maxRecDepth 100000 in
theorem tells_walk {S : Nat → Prop} (w : World) (v : Value) (l : List MEv) (h : EvsIn S w v l) (hkf : KeysFit l) (hg : w.cell? ⟨0, 0, none⟩ = some (.iface 104 (.agg #[.pointer (some ⟨1, 25, none⟩)]))) :
    Calls Tryd.prog 4 #[v] w fun e w' => e = .returned (.bool true) ∧ Below w.heap.size w w' := by
  have HE := hid h
  have HG := hid hg
  have HK := hid hkf
  have EV := hid (events_any v l w h)
  obtain ⟨va, vc, rfl, _⟩ := id h
  clear h hg hkf
  go_enter Tryd.func4, Tryd.ntmps4
  go_upto_region 4 with (first
    | (go_at_call 9; refine EV.out.mono ?_; rintro e w1 ⟨v1, rfl, h1, b1⟩; have H1 := hid (EvsIn.keep (T := fun b => b < w1.heap.size) h1 (fun _ _ _ => rfl) (fun b hb _ => hb)); have B1 := hid b1; have CK := hid (txns_is w1 v1 l h1 (cell_later b1 HG.out)); clear h1 b1)
    | (go_at_call 14; refine CK.out.mono ?_; rintro e w2 ⟨tv, a, y, rfl, b2, t2⟩; have B12 := hid b2; have B2 := hid (bstep b2 B1.out); have T2 := hid t2; have RC := hid (rtxns_is w2 (.slice va l.length vc) l (EvsIn.keep (T := Any) HE.out (keeps_below (bstep b2 B1.out)) (fun _ _ _ => trivial)) HK.out); clear b2 t2)
    | (go_at_call 15; refine RC.out.mono ?_; rintro e w3 ⟨xv, a', y', rfl, b3, t3, n3, g3⟩; have B23 := hid b3; have B13 := hid (bstep b3 B12.out); have B3 := hid (bstep b3 B2.out); obtain ⟨ea, ey⟩ := T2.out.chk.one t3; subst ea; subst ey; have IS : Hid (Calls Tryd.prog 12 #[errV a y, .int .i64 a, .int .i64 y] w3 fun e w' => e = .returned (.bool true) ∧ Below w3.heap.size w3 w') := (is_is a y a y T2.out.chk.zero w3).mono (fun e w' ⟨h1, h2⟩ => ⟨by rw [h1]; simp, h2⟩); have N3 := hid n3; have G3 := hid g3; clear b3 t3 n3 g3))
  have FIN : Hid (∀ w5 w6, Below w1.heap.size w1 w5 → Gro (fun b => w1.heap.size ≤ b) w5 w6 → Below w.heap.size w w6 ∧ Calls Tryd.prog 13 #[v1, .slice va l.length vc] w6 fun e w' => e = .returned (.bool true) ∧ Below w6.heap.size w6 w') := fun w5 w6 q1 q2 => by
    have s1 := B1.out.size
    have k1 : ∀ b, b < w1.heap.size → w6.heap[b]? = w1.heap[b]? := fun b hb => (q2.block b (Nat.lt_of_lt_of_le hb q1.size) (fun c => by omega)).trans (q1.block b hb)
    have bw : Below w.heap.size w w6 := ⟨q2.os.trans (q1.os.trans B1.out.os), q2.tape.trans (q1.tape.trans B1.out.tape), q2.output.trans (q1.output.trans B1.out.output), Nat.le_trans s1 (Nat.le_trans q1.size q2.size), fun b hb => (k1 b (by omega)).trans (B1.out.block b hb)⟩
    refine ⟨bw, (same_any v1 (.slice va l.length vc) l l w6 (EvsIn.keep (T := Any) H1.out (fun b hb _ => k1 b hb) (fun _ _ _ => trivial)) (EvsIn.keep (T := Any) HE.out (keeps_below bw) (fun _ _ _ => trivial))).mono (fun e w' ⟨h1, h2⟩ => ⟨by rw [h1, evsEq_refl], h2⟩)⟩
  have CASE : Hid ((tv = .slice none 0 0 ∧ xv = .slice none 0 0) ∨ (l.length ≤ 300 ∧ (∃ ta tc, tv = .slice ta (invN l l.length) tc) ∧ (∃ xa xc, xv = .slice xa (invN l l.length) xc) ∧ (∃ rows, OutInv 44 5 TxR w1.heap.size w2 tv (invN l l.length) rows (txL l l.length)) ∧ TxnsIn Any w3 xv (txL l l.length) ∧ ∀ t ∈ txL l l.length, t.ops.length ≤ 10 ∧ ∀ o ∈ t.ops, o.key.size ≤ 281474976710656)) := by
    rcases T2.out with ⟨_, c1, _, c2⟩ | ⟨_, k, _, _, hs, c1, _, c2⟩ | ⟨hc, hz, ⟨rows, hr⟩, _, c2⟩
    · exact .inl ⟨c1, N3.out (by rw [c2]; decide)⟩
    · exact .inl ⟨c1, N3.out (by rw [c2]; exact hs)⟩
    · obtain ⟨q1, q2⟩ := G3.out c2
      rw [doc_is (fun j hj => by obtain ⟨⟨k1, k2, _⟩, _⟩ := can_ev hc hj; exact ⟨k1, k2⟩) hz] at q2
      have hl : l.length ≤ 300 := by
        unfold canM at hc
        rw [Bool.and_eq_true, decide_eq_true_eq] at hc
        exact hc.1
      refine .inr ⟨hl, own_slice hr.own, q1, ⟨rows, hr⟩, q2, fun t ht => ?_⟩
      obtain ⟨j, h1, h2⟩ := tx_ops l l.length t ht
      obtain ⟨⟨_, _, _, _, _, k6⟩, k7⟩ := can_ev hc h1
      rw [h2]
      exact ⟨by omega, fun o ho => Nat.le_trans (k7 o ho).2 (by decide)⟩
  clear CK RC EV N3 G3
  rcases CASE.out with ⟨rfl, rfl⟩ | ⟨hl, ⟨ta, tc, rfl⟩, ⟨xa, xc, rfl⟩, ⟨rows, hr⟩, hx, hten⟩
  · have SAM : Hid (∀ W, Calls Tryd.prog 16 #[.slice none 0 0, .slice none 0 0] W fun e w' => e = .returned (.bool true) ∧ Below W.heap.size W w') := fun W => sameTxns_is (S := Any) (T := Any) W [] none none 0 0 (by decide) ⟨none, 0, rfl, by decide, fun h => absurd h (by decide)⟩ ⟨none, 0, rfl, by decide, fun h => absurd h (by decide)⟩
    have SPL : Hid (∀ W, Calls Tryd.prog 17 #[.slice none 0 0] W fun e w' => e = .returned (.tuple #[]) ∧ Gro (fun b => w1.heap.size ≤ b) W w') := fun W => spoil_is _ W _ 0 ⟨none, 0, rfl, by decide, Nat.le_refl _, fun i hi => absurd hi (Nat.not_lt_zero _)⟩
    clear CASE
    go_wp2_with (first
      | (go_at_call 12; refine IS.out.mono ?_; rintro e w4 ⟨rfl, b4⟩; have B14 := hid (bstep b4 B13.out); clear b4)
      | (go_at_call 16; refine (SAM.out _).mono ?_; rintro e w5 ⟨rfl, b5⟩; have B15 := hid (bstep b5 B14.out); clear b5)
      | (go_at_call 17; refine (SPL.out _).mono ?_; rintro e w6 ⟨rfl, b6⟩; have F6 := hid (FIN.out w5 w6 B15.out b6); clear b6)
      | (go_at_call 13; refine F6.out.2.mono ?_; rintro e w7 ⟨rfl, b7⟩; have B7 := hid (bstep b7 F6.out.1); clear b7))
    go_ret
    exact ⟨rfl, B7.out⟩
  · have hinv := invN_le l l.length
    have LL : Hid ((txL l l.length).length = invN l l.length) := txL_len l l.length
    have SAM : Hid (∀ W, Below w3.heap.size w3 W → Calls Tryd.prog 16 #[.slice ta (invN l l.length) tc, .slice xa (invN l l.length) xc] W fun e w' => e = .returned (.bool true) ∧ Below W.heap.size W w') := fun W hW => by
      have q := sameTxns_is W (txL l l.length) ta xa tc xc (by rw [LL.out]; omega) (by rw [LL.out]; exact (hr.later txR_keep (bstep hW B23.out)).txns (by omega)) (by rw [LL.out]; exact hx.keep (T := Any) (keeps_below hW) (fun _ _ _ => trivial))
      rw [show (txL l l.length).length = invN l l.length from LL.out] at q
      exact q
    have SPL : Hid (∀ W, Below w2.heap.size w2 W → Calls Tryd.prog 17 #[.slice ta (invN l l.length) tc] W fun e w' => e = .returned (.tuple #[]) ∧ Gro (fun b => w1.heap.size ≤ b) W w') := fun W hW => spoil_is _ W _ _ (spt_of (hr.later txR_keep hW) (by omega) hten)
    clear CASE hr hx hten
    go_wp2_with (first
      | (go_at_call 12; refine IS.out.mono ?_; rintro e w4 ⟨rfl, b4⟩; have B34 := hid b4; have B24 := hid (bstep b4 B23.out); have B14 := hid (bstep b4 B13.out); clear b4)
      | (go_at_call 16; refine (SAM.out _ B34.out).mono ?_; rintro e w5 ⟨rfl, b5⟩; have B25 := hid (bstep b5 B24.out); have B15 := hid (bstep b5 B14.out); clear b5)
      | (go_at_call 17; refine (SPL.out _ B25.out).mono ?_; rintro e w6 ⟨rfl, b6⟩; have F6 := hid (FIN.out w5 w6 B15.out b6); clear b6)
      | (go_at_call 13; refine F6.out.2.mono ?_; rintro e w7 ⟨rfl, b7⟩; have B7 := hid (bstep b7 F6.out.1); clear b7))
    go_ret
    exact ⟨rfl, B7.out⟩
end Go.Proofs.YtjobdfgcgnpppaaDoor
namespace Go.Proofs.YtjobdfgcgnpppaaDoor
set_option linter.unusedVariables false
set_option linter.unusedSimpArgs false
open Go.RowKit Go.ChangeShapes Go.WideShapes

def inI (n : Int) : Prop := -9223372036854775808 ≤ n ∧ n ≤ 9223372036854775807
theorem Tryd.cells3 : Tryd.prog.cellsOf 3 = 1 := by kernel_rfl
theorem Tryd.cells4 : Tryd.prog.cellsOf 4 = 1 := by kernel_rfl
theorem Tryd.cells9 : Tryd.prog.cellsOf 9 = 1 := by kernel_rfl
theorem Tryd.cells67 : Tryd.prog.cellsOf 74 = 1 := by kernel_rfl
theorem Tryd.cells56 : Tryd.prog.cellsOf 40 = 1 := by kernel_rfl
theorem Tryd.cells69 : Tryd.prog.cellsOf 76 = 6 := by kernel_rfl
theorem Tryd.cells58 : Tryd.prog.cellsOf 42 = 3 := by kernel_rfl
theorem Tryd.bytes3 : Tryd.prog.bytesOf 3 = 8 := by kernel_rfl
theorem Tryd.bytes69 : Tryd.prog.bytesOf 76 = 64 := by kernel_rfl
theorem Tryd.bytes58 : Tryd.prog.bytesOf 42 = 40 := by kernel_rfl

section
variable {H : Type} {enc : TypeId × Value → H} {P : Program} {w : World} {base : Nat} {spare : Nat → Bool} {held : Bool}

theorem weightsAll_mem {e : TypeId} {n : Nat} {d : DataW H} : ∀ {ds : List (DataW H)}, d ∈ ds → n ∈ d.weights P e → n ∈ DataW.weightsAll P e ds
  | [], hd, _ => by simp at hd
  | x :: ds, hd, hn => by
    simp only [DataW.weightsAll, List.mem_append]
    rcases List.mem_cons.1 hd with rfl | hd
    · exact Or.inl hn
    · exact Or.inr (weightsAll_mem hd hn)

/-- A slice of elements of k cells, each of which can be read. -/
theorem rows_of_trod {α : Type} [Inhabited α] {t e : TypeId} {k bytes fuel : Nat} {R : List Value → α → Prop} {cs : List Value} {x : DataW H × List MemPlace}
    (ht : P.underlying t = some (.slice e)) (hk : P.cellsOf e = k) (hk0 : 0 < k) (hby : P.bytesOf e = bytes)
    (h : DataW.trod enc P w base spare held fuel t cs = some x) (hw : ∀ n ∈ x.1.weights P t, n ≤ reachBytes)
    (he : ∀ (n : Nat) (cs' : List Value) (y : DataW H × List MemPlace), cs'.length = k → DataW.trod enc P w base spare held n e cs' = some y → (∀ n ∈ y.1.weights P e, n ≤ reachBytes) → ∃ a : α, R cs' a) :
    ∃ v l, cs = [v] ∧ RowsIn k bytes R Any w v l := by
  rcases Deep.open_slice ht h with ⟨rfl, rfl⟩ | ⟨a, len, cap, m, n, D, Pl, rfl, hb, hl, hm, hmm, rfl, hx⟩
  · exact ⟨_, [], rfl, none, 0, rfl, by simp, fun h => by simp at h⟩
  · have hlm : len ≤ m := by rw [hmm]; split <;> omega
    rw [hk] at hx
    have key : ∀ i, i < len → ∃ q : α × List Value, q.2.length = k ∧ R q.2 q.1 ∧ ∀ j, j < k → w.cell? (a.add (i * k + j)) = q.2[j]? := fun i hi => by
      obtain ⟨cs', h1, h2⟩ := hx i (by omega)
      obtain ⟨_, hlen, hc⟩ := World.cells?_some h1
      obtain ⟨y, hy⟩ := he n cs' _ hlen h2 (fun q hq => hw q (by
        simp only [DataW.weights, ht, List.mem_cons, List.mem_append]
        exact Or.inr (Or.inl (weightsAll_mem (d := D i) (by simp; exact ⟨i, hi, rfl⟩) hq))))
      exact ⟨(y, cs'), hlen, hy, fun j hj => by rw [← Deep.add_add]; exact hc j hj⟩
    obtain ⟨f, hf⟩ := Deep.choose_lt (α := α × List Value) key
    refine ⟨_, (List.range len).map (fun i => (f i).1), rfl, some a, cap, by simp, ?_, fun h0 => ?_⟩
    · have := hw ((len + (m - len)) * P.bytesOf e) (by simp [DataW.weights, ht])
      rw [hby] at this
      simp only [List.length_map, List.length_range]
      have h2 : len * bytes ≤ (len + (m - len)) * bytes := Nat.mul_le_mul_right _ (by omega)
      have h3 : reachBytes ≤ 140737488355328 := by decide
      omega
    · simp only [List.length_map, List.length_range] at h0
      obtain ⟨b, off, spot⟩ := a
      have hspot : spot = none := by
        obtain ⟨h1, _, h3⟩ := hf 0 h0
        have := h3 0 hk0
        rw [List.getElem?_eq_getElem (by omega)] at this
        simpa [Addr.add] using World.cell?_spot this
      subst hspot
      refine ⟨b, off, rfl, trivial, fun j hj => ?_⟩
      simp only [List.length_map, List.length_range] at hj
      obtain ⟨h1, h2, h3⟩ := hf j hj
      refine ⟨(f j).2, h1, ?_, fun i u hi => ?_⟩
      · simpa [List.getD, hj] using h2
      · have hik : i < k := by rw [← h1]; exact (List.getElem?_eq_some_iff.1 hi).1
        have := h3 i hik
        rw [Addr.add_lit, hi] at this
        simpa [Nat.add_assoc] using this
end

theorem wf_range {n : Int} (h : (Lit.int .i64 n).wf = true) : inI n := by
  simp only [Lit.wf, Bool.and_eq_true, decide_eq_true_eq] at h
  exact h
/-- What holds of each row's element holds of each element. -/
theorem rows_all {α : Type} [Inhabited α] {k bytes : Nat} {R : List Value → α → Prop} {C : α → Prop} {S : Nat → Prop} {w : World} {v : Value} {l : List α} (h : RowsIn k bytes (fun cs a => R cs a ∧ C a) S w v l) : RowsIn k bytes R S w v l ∧ ∀ a ∈ l, C a := by
  obtain ⟨ao, c, hv, hl, hc⟩ := h
  refine ⟨⟨ao, c, hv, hl, fun h0 => ?_⟩, fun a ha => ?_⟩
  · obtain ⟨b, off, e1, e2, hj⟩ := hc h0
    refine ⟨b, off, e1, e2, fun j hlt => ?_⟩
    obtain ⟨cs, q1, q2, q3⟩ := hj j hlt
    exact ⟨cs, q1, q2.1, q3⟩
  · obtain ⟨j, hj, e⟩ := List.mem_iff_getElem.1 ha
    obtain ⟨b, off, _, _, hcc⟩ := hc (by omega)
    obtain ⟨cs, _, q2, _⟩ := hcc j hj
    have : l.getD j default = a := by simp [List.getD, List.getElem?_eq_getElem hj, e]
    rw [this] at q2
    exact q2.2

/-- An operation that a machine can hold. -/
def OpFit (o : MOp) : Prop := (inI o.value ∧ ∀ x ∈ o.list, inI x) ∧ o.key.size ≤ 9223372036854775806
def EvFit (e : MEv) : Prop := (Lit.int .i64 e.proc).wf = true ∧ ∀ o ∈ e.ops, OpFit o

section
variable {H : Type} {enc : TypeId × Value → H} {w : World} {base : Nat} {spare : Nat → Bool} {held : Bool}

/-- A list of ints. -/
theorem ints_of_trod {fuel : Nat} {cs : List Value} {x : DataW H × List MemPlace} (h : DataW.trod enc Tryd.prog w base spare held fuel 74 cs = some x) (hw : ∀ n ∈ x.1.weights Tryd.prog 74, n ≤ reachBytes) :
    ∃ v l, cs = [v] ∧ IntsIn Any w v l ∧ ∀ a ∈ l, inI a := by
  obtain ⟨v, l, hv, hr⟩ := rows_of_trod (R := fun cs (a : Int) => cs = [.int .i64 a] ∧ inI a) (k := 1) (bytes := 8) Tryd.underlying74 Tryd.cells3 (by omega) Tryd.bytes3 h hw (fun n cs' y hlen hy _ => by
    obtain ⟨z, hz, _, hz2⟩ := DataW.trod_int Tryd.underlying3 hy
    exact ⟨z, hz, wf_range hz2⟩)
  obtain ⟨⟨ao, c, hvv, hl, hc⟩, hall⟩ := rows_all hr
  refine ⟨v, l, hv, ⟨ao, c, hvv, hl, fun h0 => ?_⟩, hall⟩
  obtain ⟨b, off, ha, _, hj⟩ := hc h0
  refine ⟨b, off, ha, trivial, fun j hlt => ?_⟩
  obtain ⟨cs', _, hcs, hcc⟩ := hj j hlt
  have := hcc 0 (.int .i64 (l.getD j default)) (by rw [hcs]; rfl)
  simpa using this

set_option maxRecDepth 10000 in
/-- An operation's six cells. -/
theorem op_of_trod (n : Nat) (cs : List Value) (y : DataW H × List MemPlace) (hlen : cs.length = 6) (h : DataW.trod enc Tryd.prog w base spare held n 76 cs = some y) (hw : ∀ n ∈ y.1.weights Tryd.prog 76, n ≤ reachBytes) :
    ∃ a : MOp, OpRow Any w cs a ∧ OpFit a := by
  obtain ⟨xs, m, rfl, rfl, _, hxl, hf⟩ := DataW.trod_struct Tryd.underlying76 h
  match cs, hlen with
  | [c0, c1, c2, c3, c4, c5], _ =>
    match xs, hxl with
    | [x0, x1, x2, x3, x4, x5], _ =>
      have f0 := hf 0 _ rfl
      have f1 := hf 1 _ rfl
      have f2 := hf 2 _ rfl
      have f3 := hf 3 _ rfl
      have f4 := hf 4 _ rfl
      have f5 := hf 5 _ rfl
      simp [Tryd.cells3, Tryd.cells4, Tryd.cells9, Tryd.cells67] at f0 f1 f2 f3 f4 f5
      obtain ⟨k, e0, _⟩ := DataW.trod_int Tryd.underlying3 f0
      obtain ⟨s, e1, g1, _⟩ := DataW.trod_string Tryd.underlying9 f1
      obtain ⟨v, e2, _, wv⟩ := DataW.trod_int Tryd.underlying3 f2
      obtain ⟨lv, l, e3, hl, hli⟩ := ints_of_trod f3 (fun n hn => hw n (by
        simp only [DataW.weights, Tryd.underlying76]
        exact DataW.weights_mem_each (j := 3) rfl rfl n hn))
      have hks : s.size ≤ reachBytes := by
        have := hw s.data.toList.length (by
          simp only [DataW.weights, Tryd.underlying76]
          exact DataW.weights_mem_each (j := 1) rfl rfl _ (by rw [g1]; simp [DataW.weights, Tryd.underlying9]))
        rw [Array.length_toList] at this
        exact this
      obtain ⟨p, e4, _⟩ := DataW.trod_bool Tryd.underlying4 f4
      obtain ⟨q, e5, _⟩ := DataW.trod_bool Tryd.underlying4 f5
      simp at e0 e1 e2 e3 e4 e5
      subst e0 e1 e2 e3 e4 e5
      exact ⟨⟨k, s, v, l, p, q⟩, ⟨c3, rfl, hl⟩, ⟨wf_range wv, hli⟩, Nat.le_trans hks (by decide)⟩

set_option maxRecDepth 10000 in
/-- An event's three cells. -/
theorem ev_of_trod (n : Nat) (cs : List Value) (y : DataW H × List MemPlace) (hlen : cs.length = 3) (h : DataW.trod enc Tryd.prog w base spare held n 42 cs = some y) (hw : ∀ n ∈ y.1.weights Tryd.prog 42, n ≤ reachBytes) :
    ∃ a : MEv, EvRow Any w cs a ∧ EvFit a := by
  obtain ⟨xs, m, rfl, rfl, _, hxl, hf⟩ := DataW.trod_struct Tryd.underlying42 h
  match cs, hlen with
  | [c0, c1, c2], _ =>
    match xs, hxl with
    | [x0, x1, x2], _ =>
      have f0 := hf 0 _ rfl
      have f1 := hf 1 _ rfl
      have f2 := hf 2 _ rfl
      simp [Tryd.cells3, Tryd.cells56] at f0 f1 f2
      obtain ⟨k, e0, _⟩ := DataW.trod_int Tryd.underlying3 f0
      obtain ⟨p, e1, _, hwp⟩ := DataW.trod_int Tryd.underlying3 f1
      obtain ⟨ov, l, e2, hr⟩ := rows_of_trod (R := fun cs a => OpRow Any w cs a ∧ OpFit a) (k := 6) (bytes := 64) Tryd.underlying40 Tryd.cells69 (by omega) Tryd.bytes69 f2 (fun n hn => hw n (by
        simp only [DataW.weights, Tryd.underlying42]
        exact DataW.weights_mem_each (j := 2) rfl rfl n hn)) op_of_trod
      obtain ⟨hl, hfit⟩ := rows_all hr
      simp at e0 e1 e2
      subst e0 e1 e2
      exact ⟨⟨k, p, l⟩, ⟨c2, rfl, hl⟩, hwp, hfit⟩

/-- A slice's length is within its capacity. -/
theorem cap_of_trod {fuel : Nat} {cs : List Value} {x : DataW H × List MemPlace} (h : DataW.trod enc Tryd.prog w base spare held fuel 22 cs = some x) (a0 : Option Addr) (n0 c0 : Nat) (e : cs = [.slice a0 n0 c0]) : n0 ≤ c0 := by
  rcases Deep.open_slice Tryd.underlying22 h with ⟨rfl, rfl⟩ | ⟨a, len, cap, m, n, D, Pl, rfl, hb, hl, hm, hmm, rfl, hx⟩
  · injection e with e
    injection e with _ e1 e2
    omega
  · injection e with e
    injection e with _ e1 e2
    omega

/-- A history. -/
theorem evs_of_trod {fuel : Nat} {cs : List Value} {x : DataW H × List MemPlace} (h : DataW.trod enc Tryd.prog w base spare held fuel 22 cs = some x) (hw : ∀ n ∈ x.1.weights Tryd.prog 22, n ≤ reachBytes) :
    ∃ v l, cs = [v] ∧ EvsIn Any w v l ∧ ∀ e ∈ l, EvFit e := by
  obtain ⟨v, l, hv, hr⟩ := rows_of_trod (R := fun cs a => EvRow Any w cs a ∧ EvFit a) (k := 3) (bytes := 40) Tryd.underlying22 Tryd.cells58 (by omega) Tryd.bytes58 h hw ev_of_trod
  obtain ⟨h1, h2⟩ := rows_all hr
  exact ⟨v, l, hv, h1, h2⟩
end
end Go.Proofs.YtjobdfgcgnpppaaDoor
