/-
  Where a text's tokens stand: in order, each where it begins, with its bytes, and blanks alone between them.
-/
import Derived.Test.YtodbpplgpaokjaaDoorBlanks
namespace Go.Proofs.YtodbpplgpaokjaaDoor
set_option linter.unusedVariables false
set_option linter.unusedSimpArgs false
open Go.RowKit Go.Lib

/-- Blanks alone from i up to k. -/
def Blk (s : ByteArray) (i k : Nat) : Prop := ∀ j, i ≤ j → j < k → bt s j = 32

/-- Tokens from a place on. -/
def Good (s : ByteArray) : Nat → List MTok → Prop
  | e, [] => e ≤ s.size ∧ Blk s e s.size
  | e, t :: l => ∃ i k : Nat, t.2.1 = (i : Int) ∧ e ≤ i ∧ i < k ∧ k ≤ s.size ∧ t.2.2.1 = s.extract i k ∧ Blk s e i ∧ Good s k l

theorem tokM_text {s : ByteArray} {i k : Nat} {t : MTok} (h : tokM s i = .ok (t, k)) : t.2.1 = (i : Int) ∧ t.2.2.1 = s.extract i k := by
  unfold tokM at h
  split at h
  · cases h; exact ⟨rfl, rfl⟩
  · split at h
    · split at h
      · cases h
      · cases h; exact ⟨rfl, rfl⟩
    · split at h
      · cases h; exact ⟨rfl, rfl⟩
      · split at h
        · cases h; exact ⟨rfl, rfl⟩
        · cases h

theorem left_places (s : ByteArray) : ∀ (n i e : Nat) (acc l : List MTok), s.size - i ≤ n → i ≤ s.size → e ≤ i → Blk s e i → left s i acc = .ok l → ∃ l', l = acc ++ l' ∧ Good s e l'
  | 0, i, e, acc, l, hn, hi, he, hb, h => by
    rw [left_end acc (by omega)] at h
    cases h
    have : i = s.size := by omega
    subst this
    exact ⟨[], by simp, he, hb⟩
  | n + 1, i, e, acc, l, hn, hi, he, hb, h => by
    by_cases hlt : i < s.size
    · by_cases h32 : bt s i = 32
      · rw [left_blank acc hlt h32] at h
        exact left_places s n (i + 1) e acc l (by omega) (by omega) (by omega) (fun j h1 h2 => by
          by_cases e1 : j = i
          · rw [e1]; exact h32
          · exact hb j h1 (by omega)) h
      · cases ht : tokM s i with
        | error q => rw [left_bad acc hlt h32 ht] at h; cases h
        | ok q =>
          obtain ⟨t, k⟩ := q
          rw [left_tok acc hlt h32 ht] at h
          obtain ⟨hik, hks⟩ := tokM_gt ht hlt
          obtain ⟨l', rfl, hg⟩ := left_places s n k k (acc ++ [t]) l (by omega) (by omega) (Nat.le_refl _) (fun j h1 h2 => by omega) h
          obtain ⟨h1, h2⟩ := tokM_text ht
          exact ⟨t :: l', by simp, i, k, h1, he, hik, hks, h2, hb, hg⟩
    · rw [left_end acc hlt] at h
      cases h
      have : i = s.size := by omega
      subst this
      exact ⟨[], by simp, he, hb⟩

theorem scanM_places {s : ByteArray} {l : List MTok} (h : scanM s = .ok l) : s.size ≤ 20000 ∧ Good s 0 l := by
  have hs : s.size ≤ 20000 := by
    unfold scanM at h
    split at h
    · cases h
    · omega
  rw [scanM_left hs] at h
  obtain ⟨l', rfl, hg⟩ := left_places s s.size 0 0 [] l (by omega) (by omega) (Nat.le_refl _) (fun j h1 h2 => by omega) h
  exact ⟨hs, by simpa using hg⟩

theorem bytes_get (s : ByteArray) (i k j : Nat) (b : UInt8) (h : (s.extract i k).data.toList[j]? = some b) (hk : k ≤ s.size) : i + j < k ∧ b.toNat = bt s (i + j) := by
  simp only [ByteArray.data_extract, Array.getElem?_toList, Array.getElem?_extract] at h
  split at h
  · rename_i hj
    have hlt : i + j < s.size := by have : s.data.size = s.size := rfl; omega
    refine ⟨by have : s.data.size = s.size := rfl; omega, ?_⟩
    unfold bt
    rw [dif_pos hlt]
    have := (Array.getElem?_eq_some_iff.1 h).2
    rw [← this]
    rfl
  · cases h

theorem drop_all (p : UInt8 → Bool) : ∀ (l : List UInt8), (∀ b ∈ l, p b = true) → l.dropWhile p = []
  | [], _ => rfl
  | b :: l, h => by
    rw [List.dropWhile_cons_of_pos (h b (by simp))]
    exact drop_all p l (fun x hx => h x (by simp [hx]))

/-- Blanks, trimmed, are nothing. -/
theorem trim_nothing (s : ByteArray) (i k : Nat) (hk : k ≤ s.size) (h : Blk s i k) : trimB (s.extract i k).data.toList 32 = [] := by
  have hall : ∀ b ∈ (s.extract i k).data.toList, (b == (32 : UInt8)) = true := by
    intro b hb
    obtain ⟨j, hj⟩ := List.mem_iff_getElem?.1 hb
    obtain ⟨h1, h2⟩ := bytes_get s i k j b hj hk
    have := h (i + j) (by omega) h1
    rw [this] at h2
    have : b = 32 := UInt8.toNat_inj.1 h2
    simp [this]
  unfold trimB trimRightB trimLeftB
  have h1 : ((s.extract i k).data.toList.reverse.dropWhile (· == (32 : UInt8))) = [] := by
    exact drop_all _ _ (fun b hb => hall b (List.mem_reverse.1 hb))
  rw [h1]
  rfl

theorem trim_walk (s : ByteArray) (i k : Nat) (hk : k ≤ s.size) (hs : s.size ≤ 20000) (h : Blk s i k) (w : World) :
    Calls Tryd.prog 20 #[.string (s.extract i k), .string ⟨#[32]⟩] w fun e w' => e = .returned (.string ⟨#[]⟩) ∧ ∃ q, w' = w.drewN q := by
  have hsz : (s.extract i k).size ≤ 9223372036854775807 := by rw [ByteArray.size_extract]; omega
  refine (Tryd.strings_Trim_one (s.extract i k) 32 (by decide) w hsz).mono ?_
  rintro e w' ⟨rfl, hw⟩
  refine ⟨by rw [trim_nothing s i k hk h], ?_⟩
  rcases hw with rfl | rfl
  · exact ⟨0, rfl⟩
  · exact ⟨1, rfl⟩

theorem pre_walk (s : ByteArray) (i k : Nat) (hik : i ≤ k) (hk : k ≤ s.size) (w : World) :
    Calls Tryd.prog 19 #[.string (s.extract i s.size), .string (s.extract i k)] w fun e w' => e = .returned (.bool true) ∧ ∃ q, w' = w.drewN q := by
  refine (Tryd.strings_HasPrefix _ _ w).mono ?_
  rintro e w' ⟨rfl, rfl⟩
  refine ⟨?_, 0, rfl⟩
  have : hasPrefix (s.extract i s.size).data.toList (s.extract i k).data.toList = true := by
    unfold hasPrefix
    rw [List.isPrefixOf_iff_prefix, List.prefix_iff_eq_take]
    have hz : s.data.size = s.size := rfl
    simp only [ByteArray.data_extract, Array.toList_extract, Array.length_toList, List.extract_eq_take_drop, List.length_take, List.length_drop, List.take_take]
    congr 1
    omega
  rw [this]
end Go.Proofs.YtodbpplgpaokjaaDoor
