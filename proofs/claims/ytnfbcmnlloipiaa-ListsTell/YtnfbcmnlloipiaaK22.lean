/-
  What is wrong with a list, its trace and the dependencies that it forces: the walk of the law.
  From a reading of transactions as data to the transactions in memory.
-/
import Derived.Test.YtnfbcmnlloipiaaK21
import Derived.Test.YtnfbcmnlloipiaaK1
import Derived.Deep.Slices
import Derived.OpenShut
import Derived.SizedLaws
namespace Go.Proofs.Ytnfbcmnlloipiaa
set_option linter.unusedVariables false
set_option linter.unusedSimpArgs false
open Go.RowKit Go.Lib Go.Maps Go.Sort
open Tx (MTxn info_parts RowsIn.cells RowCells TxnRow TxnsIn smallL)

set_option maxHeartbeats 16000000 in
set_option maxRecDepth 100000 in
theorem ltell_walk (tv : Value) (l0 : List MTxn) (key : ByteArray) (w : World) (ht : TxnsIn Any w tv l0) (hok : ∀ t ∈ l0, ∀ o ∈ t.ops, OpOk o) (hwl : ∀ t ∈ l0, ∀ o ∈ t.ops, ∀ x ∈ o.list, (Lit.int .i64 x).wf = true) (hks : key.size ≤ maxLen) :
    Calls Try.prog 3 #[tv, .string key] w fun e w' => e = .returned (.bool true) ∧ Below w.heap.size w w' := by
  obtain ⟨i0, hi0, hz0, hz1, hz2⟩ := info_parts Try.infoS
  have HI0 := hid hi0
  have HZ0 := hid hz0
  have HZ1 := hid hz1
  have HZ2 := hid hz2
  have HT := hid ht
  have HKS := hid hks
  have hG0 := small_good hok hwl
  obtain ⟨L, hL⟩ : ∃ L, smallL l0 = L := ⟨_, rfl⟩
  have hlen : L.length ≤ 40 := by rw [← hL]; exact small_len l0
  rw [hL] at hG0
  have HG := hid hG0
  have HL := hid hL
  have hli : (L.length : Int) ≤ 40 := by omega
  clear ht hok hwl hL hG0 hks hi0 hz0 hz1 hz2
  go_enter Try.func3, Try.ntmps3
  go_upto_region 3 with (first
    | (go_at_call 9; refine (Tx.small_any _ l0 _ HT.out).mono ?_; rintro e w1 ⟨v1, rfl, h1, b1⟩; rw [show smallL l0 = L from HL.out] at h1; have T1 : Hid (TxnsIn Any w1 v1 L) := txns_ins h1; have B1 := hid b1; obtain ⟨a1, c1, rfl, _⟩ := RowsIn.cells T1.out (by omega); clear h1 b1)
    | (go_at_call 10; refine (tnew_is w1 _ L T1.out HG.out.len HG.out.ten HG.out.ok).mono ?_; rintro e w2 ⟨tb, rfl, hm2, b2⟩; have M2 := hid hm2; have B2 := hid b2; clear hm2 b2))
  have hkl : (keysN (notes L L.length) []).length ≤ 10000 := Nat.le_trans (keys_len _) HG.out.nlen
  go_wp2_with (first
    | (go_at_call 11; refine (rkeys_is w2 _ L (T1.out.below B2.out) HG.out.len HG.out.ten).mono ?_; rintro e w10 ⟨kv, rfl, hsr, b10⟩; obtain ⟨ka, kc, hkv⟩ := own_slice hsr; subst hkv; have SR := hid hsr; have M10 : Hid (Made w1.heap.size w10 tb L) := M2.out.later b10; have B10 : Hid (Below w1.heap.size w1 w10) := B2.out.trans (b10.mono B2.out.size); have BK := hid b10; clear hsr b10)
    | (at_builtin; refine wpList_append_lies _ rfl _ _ 26 rfl w2.heap.size 9 i0 _ 1 16 Try.underlying26 HI0.out HZ0.out HZ1.out HZ2.out rfl (by decide) (.slice ka (keysN (notes L L.length) []).length kc) (keysN (notes L L.length) []).length ((keysN (notes L L.length) []).map encStr) rfl (own_same SR.out (fun g hg => (below_box w10 _).block g (own_block SR.out hg).2.1)) ⟨w10.heap.size, 0, none⟩ 1 1 [.string key] rfl rfl (World.news_of_block (cs := #[.string key]) (t := 9) (fr := (0, 0)) (heap_alloc_new w10 _)) (fun u hu => by simp only [List.mem_cons, List.not_mem_nil, or_false] at hu; subst hu; rfl) (by decide) (by unfold maxLen; omega) (by omega) (by rw [alloc_size]; exact Nat.le_succ_of_le BK.out.size) (w10.heap.size + 1) (alloc_size _ _) ?_; intro g8 cap8 w8 hown8 hgrow8 hat8 hglt8; have O8 := hid hown8; have G8 := hid hgrow8; clear hown8 hgrow8 hat8 hglt8))
  have B8 : Hid (Below w2.heap.size w2 w8) := by
    have q1 : Below w2.heap.size w2 (w10.alloc (.cells #[.string key] 9)) := BK.out.trans ((below_box w10 _).mono BK.out.size)
    exact ⟨G8.out.os.trans q1.os, G8.out.tape.trans q1.tape, G8.out.output.trans q1.output, Nat.le_trans q1.size G8.out.size, fun b hb => (G8.out.block b (Nat.lt_of_lt_of_le hb q1.size) (fun e => by have := (own_block SR.out e.symm).1; omega)).trans (q1.block b hb)⟩
  have M8 : Hid (Made w1.heap.size w8 tb L) := M2.out.later B8.out
  have B18 : Hid (Below w1.heap.size w1 w8) := B2.out.trans (B8.out.mono B2.out.size)
  have CO : Hid (∀ W, Below w8.heap.size w8 W → Calls Try.prog 21 #[.pointer (some ⟨tb, 0, none⟩)] W fun e w' => e = .returned (.int .i64 (L.length : Int)) ∧ W = w') := fun W hb => count_is _ W tb L (M8.out.later hb)
  obtain ⟨KN, hKN⟩ : ∃ KN, (keysN (notes L L.length) []).length = KN := ⟨_, rfl⟩
  have KEY : Hid (∀ q, q < KN + 1 → ∃ s : ByteArray, w8.cell? ⟨g8, q, none⟩ = some (.string s) ∧ s.size ≤ maxLen) := fun q hq => by
    have hc := O8.out.cellAt q (by omega)
    by_cases hlt : q < KN
    · obtain ⟨gk, c', hv⟩ := own_some SR.out (by omega)
      cases hv
      obtain ⟨s, h1, h2, _⟩ := key_at HG.out SR.out q (by omega)
      have hc2 := SR.out.cellAt q (by omega)
      rw [List.getElem?_append_left (by rw [List.length_map]; omega)] at hc
      exact ⟨s, hc.trans (hc2.symm.trans h1), h2⟩
    · rw [List.getElem?_append_right (by rw [List.length_map]; omega), List.length_map, hKN, show q - KN = 0 by omega] at hc
      exact ⟨key, hc, HKS.out⟩
  rw [hKN] at hkl
  rw [show (keysN (notes L L.length) []).length = KN from hKN]
  have hkli : (KN : Int) ≤ 10000 := by omega
  clear hKN SR O8 G8 BK M2 B2 M10 B10 B8
  go_loopg [7, 8, 9, 10, 11, 22] (KN + 1) (fun gg _ _ _ _ _ i wr => ∃ k : Nat, k ≤ KN + 1 ∧ KN + 1 - k ≤ gg ∧ i = .int .i64 k ∧ Aside (Below w8.heap.size w8 wr))
  case atStart => exact ⟨0, Nat.zero_le _, by omega, rfl, Below.refl _ _⟩
  case round =>
    obtain ⟨k, hk, hgk, rfl, BR⟩ := hrel
    by_cases hlt : k < KN + 1
    · have hlti : (k : Int) < ((KN + 1 : Nat) : Int) := by omega
      obtain ⟨s, hc, hss⟩ := KEY.out k hlt
      have cv := (BR.out.cell (p := ⟨g8, k, none⟩) (World.block_lt_of_cell? _ _ hc)).trans hc
      obtain ⟨ts, b, tl, tq1, tq2⟩ := both_trace L s HG.out hss
      obtain ⟨A, al, aq1, aq2⟩ := both_anom L s HG.out hss
      obtain ⟨E, el, eq1, eq2⟩ := both_edges L s HG.out hss
      have TQ1 : Hid (∀ W, Below w8.heap.size w8 W → Calls Try.prog 12 #[.pointer (some ⟨tb, 0, none⟩), .string s] W fun e w' => ∃ v', e = .returned (.tuple #[v', .bool b]) ∧ IntsIn Any w' v' ts ∧ Below W.heap.size W w') := fun W hb => tq1 _ tb W (M8.out.later hb)
      have AQ1 : Hid (∀ W, Below w8.heap.size w8 W → Calls Try.prog 15 #[.pointer (some ⟨tb, 0, none⟩), .string s] W fun e w' => ∃ v', e = .returned v' ∧ w'.ownsRow W.heap.size 85 9 v' A.length (ansC A) ∧ Below W.heap.size W w') := fun W hb => aq1 _ tb W (M8.out.later hb)
      have EQ1 : Hid (∀ W, Below w8.heap.size w8 W → Calls Try.prog 19 #[.pointer (some ⟨tb, 0, none⟩), .string s] W fun e w' => ∃ v', e = .returned v' ∧ w'.ownsRow W.heap.size 40 8 v' E.length (whysC E) ∧ Below W.heap.size W w') := fun W hb => eq1 _ tb W (M8.out.later hb)
      have TQ2 : Hid (∀ W, Below w8.heap.size w8 W → Calls Try.prog 13 #[.slice a1 L.length c1, .string s] W fun e w' => ∃ v', e = .returned (.tuple #[v', .bool b]) ∧ IntsIn Any w' v' ts ∧ Below W.heap.size W w') := fun W hb => tq2 W _ (T1.out.below (B18.out.trans (hb.mono B18.out.size)))
      have AQ2 : Hid (∀ W, Below w8.heap.size w8 W → Calls Try.prog 16 #[.slice a1 L.length c1, .string s] W fun e w' => ∃ v', e = .returned v' ∧ w'.ownsRow W.heap.size 85 9 v' A.length (ansC A) ∧ Below W.heap.size W w') := fun W hb => aq2 W _ (T1.out.below (B18.out.trans (hb.mono B18.out.size)))
      have EQ2 : Hid (∀ W, Below w8.heap.size w8 W → Calls Try.prog 20 #[.slice a1 L.length c1, .string s] W fun e w' => ∃ v', e = .returned v' ∧ w'.ownsRow W.heap.size 40 8 v' E.length (whysC E) ∧ Below W.heap.size W w') := fun W hb => eq2 W _ (T1.out.below (B18.out.trans (hb.mono B18.out.size)))
      have hbb : (b != b) = false := by cases b <;> rfl
      clear hc hss tq1 tq2 aq1 aq2 eq1 eq2
      go_wp2_with (first
        | (go_at_call 12; refine (TQ1.out _ BR.out).mono ?_; rintro e w11 ⟨v11, rfl, i11, b11⟩; obtain ⟨xa, xc, hx11, _⟩ := id i11; subst hx11; have I11 := hid i11; have B11 := hid (BR.out.trans (b11.mono BR.out.size)); clear i11 b11)
        | (go_at_call 13; refine (TQ2.out _ B11.out).mono ?_; rintro e w12 ⟨v12, rfl, i12, b12⟩; obtain ⟨ya, yc, hx12, _⟩ := id i12; subst hx12; have J11 := hid (I11.out.below b12); have J12 := hid i12; have B12 := hid (B11.out.trans (b12.mono B11.out.size)); clear i12 b12 I11)
        | (go_at_call 15; refine (AQ1.out _ B12.out).mono ?_; rintro e w13 ⟨v13, rfl, o13, b13⟩; obtain ⟨za, zc, hx13⟩ := own_slice o13; subst hx13; have K11 := hid (J11.out.below b13); have K12 := hid (J12.out.below b13); have O13 := hid o13; have B13 := hid (B12.out.trans (b13.mono B12.out.size)); clear o13 b13 J11 J12)
        | (go_at_call 16; refine (AQ2.out _ B13.out).mono ?_; rintro e w14 ⟨v14, rfl, o14, b14⟩; obtain ⟨ua, uc, hx14⟩ := own_slice o14; subst hx14; have L11 := hid (K11.out.below b14); have L12 := hid (K12.out.below b14); have P13 := hid (own_same O13.out (fun g hg => b14.block g (own_block O13.out hg).2.1)); have O14 := hid o14; have B14 := hid (B13.out.trans (b14.mono B13.out.size)); clear o14 b14 K11 K12 O13)
        | (go_at_call 14; refine (sameAns_same _ _ A _ ⟨_, P13.out⟩ ⟨_, O14.out⟩ al).mono ?_; rintro e w15 ⟨rfl, b15⟩; have N11 := hid (L11.out.below b15); have N12 := hid (L12.out.below b15); have B15 := hid (B14.out.trans (b15.mono B14.out.size)); clear b15 L11 L12 P13 O14)
        | (go_at_call 17; refine (eqInts_same _ _ ts _ N11.out N12.out tl).mono ?_; rintro e w16 ⟨rfl, b16⟩; have B16 := hid (B15.out.trans (b16.mono B15.out.size)); clear b16 N11 N12)
        | (go_at_call 19; refine (EQ1.out _ B16.out).mono ?_; rintro e w17 ⟨v17, rfl, o17, b17⟩; obtain ⟨ea, ec, hx17⟩ := own_slice o17; subst hx17; have O17 := hid o17; have B17 := hid (B16.out.trans (b17.mono B16.out.size)); clear o17 b17)
        | (go_at_call 20; refine (EQ2.out _ B17.out).mono ?_; rintro e w18 ⟨v18, rfl, o18, b18⟩; obtain ⟨fa, fc, hx18⟩ := own_slice o18; subst hx18; have P17 := hid (own_same O17.out (fun g hg => b18.block g (own_block O17.out hg).2.1)); have O18 := hid o18; have B18' := hid (B17.out.trans (b18.mono B17.out.size)); clear o18 b18 O17)
        | (go_at_call 18; refine (eqWhy_same _ _ E _ ⟨_, P17.out⟩ ⟨_, O18.out⟩ el).mono ?_; rintro e w19 ⟨rfl, b19⟩; have B19 := hid (B18'.out.trans (b19.mono B18'.out.size)); clear b19 P17 O18))
      go_roundg (KN + 1 - (k + 1))
      case measure => omega
      case rel => exact ⟨k + 1, by omega, by omega, by go_num, B19.out⟩
    · have hke : k = KN + 1 := by omega
      have hlti : ¬ (k : Int) < ((KN + 1 : Nat) : Int) := by omega
      have hce : ((L.length : Int) == (L.length : Int)) = true := by simp
      go_wp2_with (go_at_call 21; refine (CO.out _ BR.out).mono ?_; rintro e w11 ⟨rfl, rfl⟩)
      go_ret
      have B8w : Below w.heap.size w w8 := B1.out.trans (B18.out.mono B1.out.size)
      exact ⟨rfl, B8w.trans (BR.out.mono B8w.size)⟩
end Go.Proofs.Ytnfbcmnlloipiaa
namespace Go.Proofs.Ytnfbcmnlloipiaa.Tx
set_option linter.unusedVariables false
set_option linter.unusedSimpArgs false
open Go.RowKit Go.ChangeShapes Go.WideShapes

theorem Try.cells4 : Try.prog.cellsOf 4 = 1 := by kernel_rfl
theorem Try.cells28 : Try.prog.cellsOf 28 = 1 := by kernel_rfl
theorem Try.cells49 : Try.prog.cellsOf 49 = 6 := by kernel_rfl
theorem Try.cells3 : Try.prog.cellsOf 3 = 1 := by kernel_rfl
theorem Try.cells9 : Try.prog.cellsOf 9 = 1 := by kernel_rfl
theorem Try.cells45 : Try.prog.cellsOf 45 = 1 := by kernel_rfl
theorem Try.cells47 : Try.prog.cellsOf 47 = 5 := by kernel_rfl
theorem Try.bytes47 : Try.prog.bytesOf 47 = 56 := by kernel_rfl
theorem Try.bytes3 : Try.prog.bytesOf 3 = 8 := by kernel_rfl
theorem Try.bytes49 : Try.prog.bytesOf 49 = 64 := by kernel_rfl

section
variable {H : Type} {enc : TypeId × Value → H} {P : Program} {w : World} {base : Nat} {spare : Nat → Bool} {held : Bool}

theorem weightsAll_mem {e : TypeId} {n : Nat} {d : DataW H} : ∀ {ds : List (DataW H)}, d ∈ ds → n ∈ d.weights P e → n ∈ DataW.weightsAll P e ds
  | [], hd, _ => by simp at hd
  | x :: ds, hd, hn => by
    simp only [DataW.weightsAll, List.mem_append]
    rcases List.mem_cons.1 hd with rfl | hd
    · exact Or.inl hn
    · exact Or.inr (weightsAll_mem hd hn)

/-- A slice of elements of k cells, each of which can be read. -/
theorem rows_of_trod {α : Type} [Inhabited α] {t e : TypeId} {k bytes fuel : Nat} {R : List Value → α → Prop} {cs : List Value} {x : DataW H × List MemPlace}
    (ht : P.underlying t = some (.slice e)) (hk : P.cellsOf e = k) (hk0 : 0 < k) (hby : P.bytesOf e = bytes)
    (h : DataW.trod enc P w base spare held fuel t cs = some x) (hw : ∀ n ∈ x.1.weights P t, n ≤ reachBytes)
    (he : ∀ (n : Nat) (cs' : List Value) (y : DataW H × List MemPlace), cs'.length = k → DataW.trod enc P w base spare held n e cs' = some y → (∀ n ∈ y.1.weights P e, n ≤ reachBytes) → ∃ a : α, R cs' a) :
    ∃ v l, cs = [v] ∧ RowsIn k bytes R Any w v l := by
  rcases Deep.open_slice ht h with ⟨rfl, rfl⟩ | ⟨a, len, cap, m, n, D, Pl, rfl, hb, hl, hm, hmm, rfl, hx⟩
  · exact ⟨_, [], rfl, none, 0, rfl, ⟨by simp, Nat.le_refl _⟩, fun h => by simp at h⟩
  · have hlm : len ≤ m := by rw [hmm]; split <;> omega
    rw [hk] at hx
    have key : ∀ i, i < len → ∃ q : α × List Value, q.2.length = k ∧ R q.2 q.1 ∧ ∀ j, j < k → w.cell? (a.add (i * k + j)) = q.2[j]? := fun i hi => by
      obtain ⟨cs', h1, h2⟩ := hx i (by omega)
      obtain ⟨_, hlen, hc⟩ := World.cells?_some h1
      obtain ⟨y, hy⟩ := he n cs' _ hlen h2 (fun q hq => hw q (by
        simp only [DataW.weights, ht, List.mem_cons, List.mem_append]
        exact Or.inr (Or.inl (weightsAll_mem (d := D i) (by simp; exact ⟨i, hi, rfl⟩) hq))))
      exact ⟨(y, cs'), hlen, hy, fun j hj => by rw [← Deep.add_add]; exact hc j hj⟩
    obtain ⟨f, hf⟩ := Deep.choose_lt (α := α × List Value) key
    refine ⟨_, (List.range len).map (fun i => (f i).1), rfl, some a, cap, by simp, ⟨?_, by simpa using hl⟩, fun h0 => ?_⟩
    · have := hw ((len + (m - len)) * P.bytesOf e) (by simp [DataW.weights, ht])
      rw [hby] at this
      simp only [List.length_map, List.length_range]
      have h2 : len * bytes ≤ (len + (m - len)) * bytes := Nat.mul_le_mul_right _ (by omega)
      have h3 : reachBytes ≤ 140737488355328 := by decide
      omega
    · simp only [List.length_map, List.length_range] at h0
      obtain ⟨b, off, spot⟩ := a
      have hspot : spot = none := by
        obtain ⟨h1, _, h3⟩ := hf 0 h0
        have := h3 0 hk0
        rw [List.getElem?_eq_getElem (by omega)] at this
        simpa [Addr.add] using World.cell?_spot this
      subst hspot
      refine ⟨b, off, rfl, trivial, fun j hj => ?_⟩
      simp only [List.length_map, List.length_range] at hj
      obtain ⟨h1, h2, h3⟩ := hf j hj
      refine ⟨(f j).2, h1, ?_, fun i u hi => ?_⟩
      · simpa [List.getD, hj] using h2
      · have hik : i < k := by rw [← h1]; exact (List.getElem?_eq_some_iff.1 hi).1
        have := h3 i hik
        rw [Addr.add_lit, hi] at this
        simpa [Nat.add_assoc] using this
end

/-- What holds of each row's element holds of each element. -/
theorem rows_all {α : Type} [Inhabited α] {k bytes : Nat} {R : List Value → α → Prop} {C : α → Prop} {S : Nat → Prop} {w : World} {v : Value} {l : List α} (h : RowsIn k bytes (fun cs a => R cs a ∧ C a) S w v l) : RowsIn k bytes R S w v l ∧ ∀ a ∈ l, C a := by
  obtain ⟨ao, c, hv, hl, hc⟩ := h
  refine ⟨⟨ao, c, hv, hl, fun h0 => ?_⟩, fun a ha => ?_⟩
  · obtain ⟨b, off, e1, e2, hj⟩ := hc h0
    refine ⟨b, off, e1, e2, fun j hlt => ?_⟩
    obtain ⟨cs, q1, q2, q3⟩ := hj j hlt
    exact ⟨cs, q1, q2.1, q3⟩
  · obtain ⟨j, hj, e⟩ := List.mem_iff_getElem.1 ha
    obtain ⟨b, off, _, _, hcc⟩ := hc (by omega)
    obtain ⟨cs, _, q2, _⟩ := hcc j hj
    have : l.getD j default = a := by simp [List.getD, List.getElem?_eq_getElem hj, e]
    rw [this] at q2
    exact q2.2


/-- An operation that a machine can hold. -/
def OpFit (o : MOp) : Prop := o.key.size ≤ 281474976710656 ∧ o.list.length * 8 ≤ 140737488355328 ∧ (Lit.int .i64 o.value).wf = true ∧ ∀ x ∈ o.list, (Lit.int .i64 x).wf = true

section
variable {H : Type} {enc : TypeId × Value → H} {w : World} {base : Nat} {spare : Nat → Bool} {held : Bool}

/-- A list of ints. -/
theorem ints_of_trod {fuel : Nat} {cs : List Value} {x : DataW H × List MemPlace} (h : DataW.trod enc Try.prog w base spare held fuel 28 cs = some x) (hw : ∀ n ∈ x.1.weights Try.prog 28, n ≤ reachBytes) :
    ∃ v l, cs = [v] ∧ IntsIn Any w v l ∧ ∀ x ∈ l, (Lit.int .i64 x).wf = true := by
  obtain ⟨v, l, hv, hr⟩ := rows_of_trod (R := fun cs (a : Int) => cs = [.int .i64 a] ∧ (Lit.int .i64 a).wf = true) (k := 1) (bytes := 8) Try.underlying28 Try.cells3 (by omega) Try.bytes3 h hw (fun n cs' y hlen hy _ => by
    obtain ⟨z, hz, _, hz2⟩ := DataW.trod_int Try.underlying3 hy
    exact ⟨z, hz, hz2⟩)
  obtain ⟨hr, hwf⟩ := rows_all hr
  obtain ⟨ao, c, hvv, hl, hc⟩ := hr
  refine ⟨v, l, hv, ⟨ao, c, hvv, hl, fun h0 => ?_⟩, hwf⟩
  obtain ⟨b, off, ha, _, hj⟩ := hc h0
  refine ⟨b, off, ha, trivial, fun j hlt => ?_⟩
  obtain ⟨cs', _, hcs, hcc⟩ := hj j hlt
  have := hcc 0 (.int .i64 (l.getD j default)) (by rw [hcs]; rfl)
  simpa using this

set_option maxRecDepth 10000 in
/-- An operation's six cells. -/
theorem op_of_trod (n : Nat) (cs : List Value) (y : DataW H × List MemPlace) (hlen : cs.length = 6) (h : DataW.trod enc Try.prog w base spare held n 49 cs = some y) (hw : ∀ n ∈ y.1.weights Try.prog 49, n ≤ reachBytes) :
    ∃ a : MOp, OpRow Any w cs a ∧ OpFit a := by
  obtain ⟨xs, m, rfl, rfl, _, hxl, hf⟩ := DataW.trod_struct Try.underlying49 h
  match cs, hlen with
  | [c0, c1, c2, c3, c4, c5], _ =>
    match xs, hxl with
    | [x0, x1, x2, x3, x4, x5], _ =>
      have f0 := hf 0 _ rfl
      have f1 := hf 1 _ rfl
      have f2 := hf 2 _ rfl
      have f3 := hf 3 _ rfl
      have f4 := hf 4 _ rfl
      have f5 := hf 5 _ rfl
      simp [Try.cells3, Try.cells4, Try.cells9, Try.cells28] at f0 f1 f2 f3 f4 f5
      obtain ⟨k, e0, _⟩ := DataW.trod_int Try.underlying3 f0
      obtain ⟨s, e1, g1, _⟩ := DataW.trod_string Try.underlying9 f1
      obtain ⟨v, e2, _, wv⟩ := DataW.trod_int Try.underlying3 f2
      obtain ⟨lv, l, e3, hl, hlw⟩ := ints_of_trod f3 (fun n hn => hw n (by
        simp only [DataW.weights, Try.underlying49]
        exact DataW.weights_mem_each (j := 3) rfl rfl n hn))
      have hks : s.size ≤ reachBytes := by
        have := hw s.data.toList.length (by
          simp only [DataW.weights, Try.underlying49]
          exact DataW.weights_mem_each (j := 1) rfl rfl _ (by rw [g1]; simp [DataW.weights, Try.underlying9]))
        rw [Array.length_toList] at this
        exact this
      obtain ⟨p, e4, _⟩ := DataW.trod_bool Try.underlying4 f4
      obtain ⟨q, e5, _⟩ := DataW.trod_bool Try.underlying4 f5
      simp at e0 e1 e2 e3 e4 e5
      subst e0 e1 e2 e3 e4 e5
      have hll : l.length * 8 ≤ 140737488355328 := by obtain ⟨_, _, _, h, _⟩ := hl; exact h.1
      exact ⟨⟨k, s, v, l, p, q⟩, ⟨c3, rfl, hl⟩, Nat.le_trans hks (by decide), hll, wv, hlw⟩

/-- Operations. -/
theorem ops_of_trod {fuel : Nat} {cs : List Value} {x : DataW H × List MemPlace} (h : DataW.trod enc Try.prog w base spare held fuel 45 cs = some x) (hw : ∀ n ∈ x.1.weights Try.prog 45, n ≤ reachBytes) :
    ∃ v l, cs = [v] ∧ OpsIn Any w v l ∧ ∀ o ∈ l, OpFit o := by
  obtain ⟨v, l, hv, hr⟩ := rows_of_trod (R := fun cs a => OpRow Any w cs a ∧ OpFit a) (k := 6) (bytes := 64) Try.underlying45 Try.cells49 (by omega) Try.bytes49 h hw op_of_trod
  obtain ⟨h1, h2⟩ := rows_all hr
  exact ⟨v, l, hv, h1, h2⟩

set_option maxRecDepth 10000 in
/-- A transaction's five cells. -/
theorem txn_of_trod (n : Nat) (cs : List Value) (y : DataW H × List MemPlace) (hlen : cs.length = 5) (h : DataW.trod enc Try.prog w base spare held n 47 cs = some y) (hw : ∀ n ∈ y.1.weights Try.prog 47, n ≤ reachBytes) :
    ∃ a : MTxn, TxnRow Any w cs a ∧ ∀ o ∈ a.ops, OpFit o := by
  obtain ⟨xs, m, rfl, rfl, _, hxl, hf⟩ := DataW.trod_struct Try.underlying47 h
  match cs, hlen with
  | [c0, c1, c2, c3, c4], _ =>
    match xs, hxl with
    | [x0, x1, x2, x3, x4], _ =>
      have f0 := hf 0 _ rfl
      have f1 := hf 1 _ rfl
      have f2 := hf 2 _ rfl
      have f3 := hf 3 _ rfl
      have f4 := hf 4 _ rfl
      simp [Try.cells3, Try.cells45] at f0 f1 f2 f3 f4
      obtain ⟨k, e0, _⟩ := DataW.trod_int Try.underlying3 f0
      obtain ⟨s, e1, _⟩ := DataW.trod_int Try.underlying3 f1
      obtain ⟨v, e2, _⟩ := DataW.trod_int Try.underlying3 f2
      obtain ⟨q, e3, _⟩ := DataW.trod_int Try.underlying3 f3
      obtain ⟨lv, l, e4, hl, hfit⟩ := ops_of_trod f4 (fun n hn => hw n (by
        simp only [DataW.weights, Try.underlying47]
        exact DataW.weights_mem_each (j := 4) rfl rfl n hn))
      simp at e0 e1 e2 e3 e4
      subst e0 e1 e2 e3 e4
      exact ⟨⟨k, s, v, q, l⟩, ⟨c4, rfl, hl⟩, hfit⟩

/-- Transactions. -/
theorem txns_of_trod {fuel : Nat} {cs : List Value} {x : DataW H × List MemPlace} (h : DataW.trod enc Try.prog w base spare held fuel 22 cs = some x) (hw : ∀ n ∈ x.1.weights Try.prog 22, n ≤ reachBytes) :
    ∃ v l, cs = [v] ∧ TxnsIn Any w v l ∧ ∀ t ∈ l, ∀ o ∈ t.ops, OpFit o := by
  obtain ⟨v, l, hv, hr⟩ := rows_of_trod (R := fun cs a => TxnRow Any w cs a ∧ ∀ o ∈ a.ops, OpFit o) (k := 5) (bytes := 56) Try.underlying22 Try.cells47 (by omega) Try.bytes47 h hw txn_of_trod
  obtain ⟨h1, h2⟩ := rows_all hr
  exact ⟨v, l, hv, h1, h2⟩
end
end Go.Proofs.Ytnfbcmnlloipiaa.Tx
