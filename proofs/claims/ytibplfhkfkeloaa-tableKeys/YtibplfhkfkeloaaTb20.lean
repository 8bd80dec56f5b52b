/-
  Keys, the table's and the document's.
-/
import Derived.Test.YtibplfhkfkeloaaTb19
namespace Go.Proofs.Ytibplfhkfkeloaa
set_option linter.unusedVariables false
set_option linter.unusedSimpArgs false
open Go.RowKit Go.Lib Go.Maps
open Tx (MTxn info_parts flatten_len flatten_get RowsIn.cells RowCells TxnRow TxnsIn TxnsOwn setCell_self cloneInts_any OpsOwn smallL cutTxn cutOp)

theorem kind_size (N : List MN) (hs : ∀ x ∈ N, x.2.2.key.size ≤ maxLen) (s : ByteArray) (h : kindN N s ≠ 0) : s.size ≤ maxLen := by
  unfold kindN at h
  cases hf : N.find? (fun x => decide (x.2.2.key = s ∧ thing x.2.2.kind ≠ 0)) with
  | none =>
    rw [hf] at h
    simp at h
  | some y =>
    have hh := List.find?_some hf
    have h1 := (of_decide_eq_true hh).1
    rw [← h1]
    exact hs y (List.mem_of_find?_eq_some hf)
/-- The keys of a map that holds the kinds, sorted, are all keys, rising. -/
theorem keyset_is {ss : List Bs} {N : List MN} (h : KeySet ss N) (hs : ∀ x ∈ N, x.2.2.key.size ≤ maxLen) : ss.mergeSort (fun x y => decide (x ≤ y)) = keysN N [] := by
  obtain ⟨D, w0, b, n, f, hp, hown, hD, hf⟩ := h
  obtain ⟨h1, h2⟩ := keysN_is N
  have hnd : (keysN N []).Nodup := h1.imp (fun {a b} hab e => by rw [e] at hab; exact List.lt_irrefl _ hab)
  have hlong : ∀ x : Bs, has D (.string x) = true → x.length ≤ maxLen := fun x hx => by
    obtain ⟨es, hDe, hk⟩ := hown.keysOf
    subst hDe
    rw [has_eq, List.any_eq_true] at hx
    obtain ⟨p, hp', hsk⟩ := hx
    obtain ⟨v, hv⟩ := hk p hp'
    obtain ⟨y, _, hy, hl⟩ := Maps.keyOf_str Try.underlying9 hv
    rw [hy] at hsk
    have : y = x := by simpa [Lit.sameKey] using hsk
    rw [← this]
    exact hl
  have hperm : (keysN N []).Perm (strKeys D) := by
    refine Collected.perm (left := fun _ => false) ⟨hnd, fun x => ?_⟩ hown keys9 Try.underlying9 (fun _ => rfl)
    have hx : x = (⟨x.toArray⟩ : ByteArray).data.toList := by simp
    constructor
    · intro hm
      rw [hx] at hm
      have hk0 := (h2 ⟨x.toArray⟩).1 hm
      have hsz : (⟨x.toArray⟩ : ByteArray).size ≤ maxLen := kind_size N hs _ hk0
      have hat := hD _ _ (key9 ⟨x.toArray⟩ hsz)
      rw [hf, if_neg hk0] at hat
      have := Maps.has_true_of_atKey (y := DataW.held (Value.int .i64 (kindN N ⟨x.toArray⟩))) hat
      refine ⟨?_, rfl⟩
      simpa using this
    · rintro ⟨hh, _⟩
      have hsz : (⟨x.toArray⟩ : ByteArray).size ≤ maxLen := by have := hlong x hh; simpa [ByteArray.size] using this
      have hat := hD _ _ (key9 ⟨x.toArray⟩ hsz)
      rw [hf] at hat
      by_cases hk0 : kindN N ⟨x.toArray⟩ = 0
      · rw [if_pos hk0] at hat
        have := Maps.has_false_of_atKey hat
        have h9 : has D (.string x) = false := by simpa using this
        rw [h9] at hh
        cases hh
      · have := (h2 ⟨x.toArray⟩).2 hk0
        simpa using this
  have e1 : ss.mergeSort leB = (keysN N []).mergeSort leB := mergeSort_of_perm (hp.trans hperm.symm)
  show ss.mergeSort leB = _
  rw [e1]
  refine List.mergeSort_of_pairwise (h1.imp (fun {a b} hab => ?_))
  simp only [leB, decide_eq_true_eq]
  exact List.le_of_lt hab
theorem Try.infoS : (Try.prog.info? 9).map (fun i => (i.zero, i.size, i.bytes)) = some (some (.string ByteArray.empty), 1, 16) := by kernel_rfl
theorem cloneS_nil (n c : Nat) (w : World) :
    Calls Try.prog 36 #[.slice none n c] w fun e w' => e = .returned (.slice none 0 0) ∧ w' = w := by
  have q22 : ∀ (w : World) (a : Option Addr) (n c n' c' : Nat), (binOp .eql 27 (.slice a n c) (.slice none n' c')).run Try.prog w = .ok (.bool a.isNone) w := fun w a n c n' c' => Lib.run_eql_slice_nil w _ _ a n c n' c' Try.underlying27
  go_enter Try.func36, Try.ntmps36
  go_wp2
  go_ret
  exact ⟨rfl, rfl⟩
set_option maxHeartbeats 2000000 in
set_option maxRecDepth 100000 in
theorem cloneS_some (ad : Addr) (n c : Nat) (xs : List Value) (w : World) (hx : xs.length = n * 1) (hbig : n * 16 ≤ 140737488355328) (hone : ∀ u ∈ xs, u.oneCell' = true) (hc : ∀ j u, xs[j]? = some u → w.cell? (ad.add j) = some u) :
    Calls Try.prog 36 #[.slice (some ad) n c] w fun e w' => ∃ v', e = .returned v' ∧ w'.ownsRow w.heap.size 9 1 v' n xs ∧ Below w.heap.size w w' := by
  obtain ⟨i0, hi, hz0, hz1, hz2⟩ := info_parts Try.infoS
  have q22 : ∀ (w : World) (a : Option Addr) (n c n' c' : Nat), (binOp .eql 27 (.slice a n c) (.slice none n' c')).run Try.prog w = .ok (.bool a.isNone) w := fun w a n c n' c' => Lib.run_eql_slice_nil w _ _ a n c n' c' Try.underlying27
  have A := hid hc
  have O := hid hone
  clear hc hone
  go_enter Try.func36, Try.ntmps36
  go_wp2_with (at_builtin; refine wpList_append_own _ rfl _ _ 27 rfl w.heap.size 9 i0 _ 1 16 Try.underlying27 hi hz0 hz1 hz2 rfl (by decide) _ _ _ rfl (World.ownsRow_made w #[] 0 (Nat.le_refl _) (Nat.zero_le _) rfl) ad n c xs rfl ?qc1 ?qc2 ?qc3 ?qc4 ?qc5 ?qc6 ?_)
  case qc1 => exact hx
  case qc2 => exact fun j u hj => Lib.cell?_alloc_some _ (A.out j u hj)
  case qc3 => exact O.out
  case qc4 => unfold maxLen; omega
  case qc5 => omega
  case qc6 => simp
  intro v' w1 hown hgrow hnil
  go_wp2
  go_ret
  refine ⟨v', rfl, by simpa using hown, ?_⟩
  exact ((Below.refl _ w).alloc (Nat.le_refl _) _).grown hgrow (by simp) (by intro k hk; simp [Value.ownBlock] at hk; omega)
/-- A slice of strings that can be read. -/
def ArgS (w : World) (ao : Option Addr) (ks : List Bs) : Prop := ∀ j, j < ks.length → ∃ b, ao = some ⟨b, 0, none⟩ ∧ w.cell? ⟨b, j, none⟩ = some (.string ⟨(ks.getD j default).toArray⟩)
theorem ArgS.later {w w' : World} {ao : Option Addr} {ks : List Bs} (h : ArgS w ao ks) (hb : Below w.heap.size w w') : ArgS w' ao ks := fun j hj => by
  obtain ⟨b, e, h0⟩ := h j hj
  exact ⟨b, e, (hb.cell (p := ⟨b, j, none⟩) (World.block_lt_of_cell? _ _ h0)).trans h0⟩
theorem own_argS {B : Nat} {w : World} {v : Value} {ks : List Bs} (h : w.ownsRow B 9 1 v ks.length (ks.map encStr)) : ∃ ao c, v = .slice ao ks.length c ∧ ArgS w ao ks := by
  have h' := h
  rcases h.2 with ⟨hv, hn⟩ | ⟨g, cap, cur, hv, hB, hh, _⟩
  · exact ⟨none, 0, by rw [hv, hn], fun j hj => by omega⟩
  · subst hv
    refine ⟨_, cap, rfl, fun j hj => ⟨g, rfl, ?_⟩⟩
    have := h'.cells (g := g) rfl j (encStr (ks.getD j default)) (by simp [List.getD, hj])
    rw [Addr.add_lit] at this
    simpa using this
theorem enc_one (ks : List Bs) : ∀ u ∈ ks.map encStr, u.oneCell' = true := by
  intro u hu
  obtain ⟨x, _, rfl⟩ := List.mem_map.1 hu
  rfl
theorem keys_len (N : List MN) : (keysN N []).length ≤ N.length := by
  rw [← List.reverse_reverse N]
  generalize N.reverse = M
  induction M with
  | nil => simp [keysN]
  | cons x M ih =>
    rw [List.reverse_cons, keysN_snoc, List.length_append]
    split
    · simp at ih ⊢
      omega
    · have hl := ins_len x.2.2.key.data.toList (keysN M.reverse [])
      simp at ih ⊢
      omega
/-- The table's keys, in memory of their own. -/
theorem tkeys_is (B : Nat) (w : World) (tb : Nat) (l : List MTxn) (h : Made B w tb l) (hs : ∀ x ∈ notes l l.length, x.2.2.key.size ≤ maxLen) (hN : (notes l l.length).length ≤ 100000) :
    Calls Try.prog 11 #[.pointer (some ⟨tb, 0, none⟩)] w fun e w' => ∃ v', e = .returned v' ∧ w'.ownsRow w.heap.size 9 1 v' (keysN (notes l l.length) []).length ((keysN (notes l l.length) []).map encStr) ∧ Below w.heap.size w w' := by
  obtain ⟨kb, wb, lb, tv, kv, F, D, m, u, h1, _, ⟨ss, hrow, hks⟩, _⟩ := h
  obtain ⟨_, c1, _, _, _, _⟩ := h1.c
  have hlen : ss.length = (keysN (notes l l.length) []).length := by rw [← keyset_is hks hs, List.length_mergeSort]
  rw [keyset_is hks hs, hlen] at hrow
  have hkl := keys_len (notes l l.length)
  generalize keysN (notes l l.length) [] = KS at *
  clear h1 hks hlen
  rcases hrow.2 with ⟨hv, hn⟩ | ⟨g, cap, cur, hv, hB, hh, hr⟩
  · subst hv
    have CN := hid (cloneS_nil 0 0 w)
    have FIN : Hid (w.ownsRow w.heap.size 9 1 (.slice none 0 0) KS.length (KS.map encStr)) := by
      show World.ownsRow _ _ _ _ _ _ _
      rw [List.length_eq_zero_iff.1 hn]
      exact World.ownsRow_nil _ _ _ _
    clear hrow hn
    go_enter Try.func11, Try.ntmps11
    go_wp2_with (go_at_call 36; refine CN.out.mono ?_; rintro e w2 ⟨rfl, rfl⟩)
    go_ret
    exact ⟨_, rfl, FIN.out, Below.refl _ _⟩
  · subst hv
    have CS := hid (cloneS_some ⟨g, 0, none⟩ KS.length cap (KS.map encStr) w (by simp) (by omega) (enc_one _) (fun j u hj => hrow.cells (g := g) rfl j u hj))
    clear hrow hh hr
    go_enter Try.func11, Try.ntmps11
    go_wp2_with (go_at_call 36; refine CS.out.mono ?_; rintro e w2 ⟨v2, rfl, h2, b2⟩; have H2 := hid h2; have B2 := hid b2; clear h2 b2)
    go_ret
    exact ⟨_, rfl, H2.out, B2.out⟩
set_option maxHeartbeats 4000000 in
theorem equal_strs (a1 a2 : Option Addr) (c1 c2 : Nat) (l : List Bs) (w : World) (h1 : ArgS w a1 l) (h2 : ArgS w a2 l) (hl : l.length ≤ 1000000) :
    Calls Try.prog 12 #[.slice a1 l.length c1, .slice a2 l.length c2] w fun e w' => e = .returned (.bool true) ∧ ∃ q, w' = w.drewN q := by
  have H1 := hid h1
  have H2 := hid h2
  clear h1 h2
  have hlen : (l.length : Int) ≤ 1000000 := by omega
  have hq : ((l.length : Int) == (l.length : Int)) = true := by simp
  go_enter Try.func12, Try.ntmps12
  go_wp2_with fail
  go_loopg [5, 13] l.length (fun g _ i wr => ∃ k : Nat, k ≤ l.length ∧ l.length - k ≤ g ∧ i = .int .i64 k ∧ Aside (∃ q, wr = w.drewN q))
  case atStart => exact ⟨0, Nat.zero_le _, by omega, rfl, 0, rfl⟩
  case round =>
    obtain ⟨k, hk, hg, rfl, QX⟩ := hrel
    obtain ⟨q, rfl⟩ := QX.out
    by_cases hlt : k < l.length
    · have hlti : (k : Int) < l.length := by omega
      obtain ⟨b1, rfl, d1⟩ := H1.out k hlt
      obtain ⟨b2, rfl, f1⟩ := H2.out k hlt
      generalize (⟨(l.getD k default).toArray⟩ : ByteArray) = x at *
      have hxx : (x.toList == x.toList) = true := by simp
      go_wp2_with fail
      go_quiet (fail)
      go_wp2_with fail
      go_roundg (l.length - (k + 1))
      · exact ⟨k + 1, by omega, by omega, by go_num, _, rfl⟩
      · omega
    · have hlti : ¬ (k : Int) < l.length := by omega
      go_wp2_with fail
      go_ret
      exact ⟨rfl, _, rfl⟩
end Go.Proofs.Ytibplfhkfkeloaa
