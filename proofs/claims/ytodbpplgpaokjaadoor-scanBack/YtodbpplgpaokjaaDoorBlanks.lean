/-
  The law's own walk: blanks ahead of a text.
-/
import Derived.Test.YtodbpplgpaokjaaDoorBare2
import Derived.Test.YtodbpplgpaokjaaDoorShelfB
namespace Go.Proofs.YtodbpplgpaokjaaDoor
set_option linter.unusedVariables false
set_option linter.unusedSimpArgs false
open Go.RowKit Go.Lib

theorem numM_errAt {s : ByteArray} {i a y : Nat} (hi : i < s.size) (h : numM s i = .error (a, y)) : a ≤ s.size := by
  unfold numM at h
  split at h
  · cases h; omega
  · rename_i hb
    split at h
    · cases h; omega
    · split at h
      · cases h; exact (nE_gt hb hi).2.2.1
      · cases h
theorem tokM_errAt {s : ByteArray} {i a y : Nat} (hi : i < s.size) (h : tokM s i = .error (a, y)) : a ≤ s.size := by
  unfold tokM at h
  split at h
  · cases h
  · split at h
    · split at h
      · rename_i e he; cases h; exact numM_errAt hi he
      · cases h
    · split at h
      · cases h
      · split at h
        · cases h
        · cases h; omega
theorem scanFrom_err (s : ByteArray) : ∀ (f i : Nat) (acc : List MTok) (a y : Nat), scanFrom s f i acc = .error (a, y) → a ≤ s.size ∧ ((y : Int) != 0) = true
  | 0, i, acc, a, y, h => by simp [scanFrom] at h
  | f + 1, i, acc, a, y, h => by
    unfold scanFrom at h
    split at h
    · rename_i hi
      split at h
      · exact scanFrom_err s f _ _ _ _ h
      · split at h
        · rename_i e he; cases h; exact ⟨tokM_errAt hi he, tokM_err he⟩
        · exact scanFrom_err s f _ _ _ _ h
    · cases h
/-- Where a text may be wrong. -/
theorem scanM_err {s : ByteArray} {a y : Nat} (h : scanM s = .error (a, y)) : a ≤ s.size ∧ ((y : Int) != 0) = true := by
  unfold scanM at h
  split at h
  · cases h; exact ⟨Nat.zero_le _, rfl⟩
  · exact scanFrom_err s _ _ _ _ _ h

/-- What Scan hands out, in one form. -/
def SFact (r : Except (Nat × Nat) (List MTok)) (w : World) (v er : Value) : Prop :=
  match r with
  | .ok l => er = .nilIface ∧ ToksIn Any w v l
  | .error (a, y) => v = .slice none 0 0 ∧ er = .iface 46 (.agg #[.int .i64 a, .int .i64 y])
theorem ScanPost.gen {w w' : World} {r : Except (Nat × Nat) (List MTok)} {e : Ending} (h : ScanPost w r e w') : ∃ ao n c er, e = .returned (.tuple #[.slice ao n c, er]) ∧ SFact r w' (.slice ao n c) er := by
  unfold ScanPost at h
  split at h
  · obtain ⟨v, he, ht⟩ := h
    obtain ⟨ao, c, rfl, -⟩ := id ht
    exact ⟨ao, _, c, _, he, rfl, RowsIn.keep ht (by omega) (fun _ _ h => h) (fun _ _ _ => rfl) (fun _ _ _ => trivial)⟩
  · exact ⟨none, 0, 0, _, h, rfl, rfl⟩
theorem SFact.later {r : Except (Nat × Nat) (List MTok)} {w w' : World} {v er : Value} (h : SFact r w v er) (hb : Below w.heap.size w w') : SFact r w' v er := by
  unfold SFact at h ⊢
  split
  · exact ⟨h.1, h.2.later hb (fun _ _ _ => trivial)⟩
  · exact h
/-- What the reference's hands out, in one form. -/
def RFact (r : Except (Nat × Nat) (List MTok)) (w : World) (v : Value) (at_ why : Int) : Prop :=
  match r with
  | .ok l => at_ = 0 ∧ why = 0 ∧ ToksIn Any w v l
  | .error (a, y) => v = .slice none 0 0 ∧ at_ = a ∧ why = y
theorem RefPost.gen {w w' : World} {r : Except (Nat × Nat) (List MTok)} {e : Ending} (h : RefPost w r e w') : ∃ ao n c a y, e = .returned (.tuple #[.slice ao n c, .int .i64 a, .int .i64 y]) ∧ RFact r w' (.slice ao n c) a y := by
  unfold RefPost at h
  split at h
  · obtain ⟨v, he, ht⟩ := h
    obtain ⟨ao, c, rfl, -⟩ := id ht
    exact ⟨ao, _, c, 0, 0, he, rfl, rfl, RowsIn.keep ht (by omega) (fun _ _ h => h) (fun _ _ _ => rfl) (fun _ _ _ => trivial)⟩
  · exact ⟨none, 0, 0, _, _, h, rfl, rfl, rfl⟩
theorem RFact.later {r : Except (Nat × Nat) (List MTok)} {w w' : World} {v : Value} {a y : Int} (h : RFact r w v a y) (hb : Below w.heap.size w w') : RFact r w' v a y := by
  unfold RFact at h ⊢
  split
  · exact ⟨h.1, h.2.1, h.2.2.later hb (fun _ _ _ => trivial)⟩
  · exact h

/-- The count of blanks. -/
theorem count_small (k : Int) : ∃ c : Nat, wrap64 ((IntKind.u64.wrap k).tmod 5) = (c : Int) ∧ c ≤ 4 := by
  have h0 : 0 ≤ IntKind.u64.wrap k ∧ IntKind.u64.wrap k < 18446744073709551616 := by
    simp only [IntKind.wrap, IntKind.signed, IntKind.bits]
    constructor
    · simp; omega
    · simp; omega
  generalize IntKind.u64.wrap k = m at h0
  have : m.tmod 5 = m % 5 := Int.tmod_eq_emod_of_nonneg h0.1
  rw [this]
  refine ⟨(m % 5).toNat, ?_, ?_⟩
  · unfold wrap64; omega
  · omega

/-- The blanks themselves. -/
theorem blanks_are (c : Nat) : (⟨(repeatL [32] c).toArray⟩ : ByteArray).size = c ∧ ∀ i, i < (⟨(repeatL [32] c).toArray⟩ : ByteArray).size → bt ⟨(repeatL [32] c).toArray⟩ i = 32 := by
  have h1 : repeatL [32] c = List.replicate c 32 := by
    have := repeatL_replicate 32 1 c
    simpa using this
  have hs : (⟨(repeatL [32] c).toArray⟩ : ByteArray).size = c := by rw [h1]; simp [ByteArray.size]
  refine ⟨hs, fun i hi => ?_⟩
  unfold bt
  rw [dif_pos hi]
  simp only [h1]
  show ((List.replicate c (32 : UInt8)).toArray[i]'_).toNat = 32
  simp
end Go.Proofs.YtodbpplgpaokjaaDoor
