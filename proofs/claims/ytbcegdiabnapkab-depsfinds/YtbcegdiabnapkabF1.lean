/-
  Dependencies, plain and by their cells; what Find finds, plain.
-/
import Derived.WalkKit
import Derived.ProofKit
import Derived.Deep.AppendLies
import Derived.Deep.LoopGhost
import Derived.Deep.Draws
import Derived.Lib.SliceRun
import Derived.Lib.Walk
import Derived.Deep.Slices
import Derived.RegionTactic
import Derived.Test.YtbcegdiabnapkabProg
namespace Go.Proofs.Ytbcegdiabnapkab
set_option linter.unusedVariables false
set_option linter.unusedSimpArgs false
open Go.RowKit Go.Lib

theorem hid {p : Prop} (h : p) : Hid p := h
theorem info_parts {P : Program} {t : TypeId} {z : Option Value} {s b : Nat} (h : (P.info? t).map (fun i => (i.zero, i.size, i.bytes)) = some (z, s, b)) : ∃ i, P.info? t = some i ∧ i.zero = z ∧ i.size = s ∧ i.bytes = b := by
  cases hi : P.info? t with
  | none => rw [hi] at h; cases h
  | some i => rw [hi] at h; simp at h; exact ⟨i, rfl, h.1, h.2.1, h.2.2⟩
theorem flatten_len {α : Type} (k : Nat) : ∀ (rows : List (List α)), (∀ r ∈ rows, r.length = k) → rows.flatten.length = rows.length * k
  | [], _ => by simp
  | r :: rows, h => by
    have := flatten_len k rows (fun x hx => h x (by simp [hx]))
    simp only [List.flatten_cons, List.length_append, List.length_cons, this, h r (by simp)]
    rw [Nat.add_mul]; omega
theorem flatten_get {α : Type} (k : Nat) : ∀ (rows : List (List α)) (j i : Nat), (∀ r ∈ rows, r.length = k) → j < rows.length → i < k → rows.flatten[j * k + i]? = (rows.getD j [])[i]?
  | [], j, i, _, h, _ => by simp at h
  | r :: rows, 0, i, h, _, hi => by
    have hr := h r (by simp)
    simp only [List.flatten_cons, Nat.zero_mul, Nat.zero_add]
    rw [List.getElem?_append_left (by omega)]
    simp
  | r :: rows, j + 1, i, h, hj, hi => by
    have hr := h r (by simp)
    have ih := flatten_get k rows j i (fun x hx => h x (by simp [hx])) (by simpa using hj) hi
    simp only [List.flatten_cons]
    rw [List.getElem?_append_right (by rw [hr, Nat.add_mul]; omega), hr, show (j + 1) * k + i - k = j * k + i by rw [Nat.add_mul]; omega, ih]
    simp

/-- A dependency, plain: from, to, label, key, the two values, nil, conditional. -/
abbrev MW := Int × Int × Int × ByteArray × Int × Int × Bool × Bool
abbrev MW.src (x : MW) : Int := x.1
abbrev MW.dst (x : MW) : Int := x.2.1
abbrev MW.lab (x : MW) : Int := x.2.2.1
abbrev MW.key (x : MW) : ByteArray := x.2.2.2.1
abbrev MW.va (x : MW) : Int := x.2.2.2.2.1
abbrev MW.vb (x : MW) : Int := x.2.2.2.2.2.1
abbrev MW.nl (x : MW) : Bool := x.2.2.2.2.2.2.1
abbrev MW.cond (x : MW) : Bool := x.2.2.2.2.2.2.2
def MW.zero : MW := (0, 0, 0, ⟨#[]⟩, 0, 0, false, false)
def encW (x : MW) : List Value := [.int .i64 x.src, .int .i64 x.dst, .int .i64 x.lab, .string x.key, .int .i64 x.va, .int .i64 x.vb, .bool x.nl, .bool x.cond]
theorem encW_len (x : MW) : (encW x).length = 8 := rfl
theorem encW_one (x : MW) : ∀ u ∈ encW x, u.oneCell' = true := fun u hu => by
  simp only [encW, List.mem_cons, List.not_mem_nil, or_false] at hu
  rcases hu with rfl | rfl | rfl | rfl | rfl | rfl | rfl | rfl <;> rfl
/-- n dependencies by their cells, in a slice at ao. -/
def Lw (w : World) (ao : Option Addr) (n : Nat) (f : Nat → MW) : Prop := ∀ j, j < n → ∃ b o, ao = some ⟨b, o, none⟩ ∧ b < w.heap.size ∧ ∀ i u, (encW (f j))[i]? = some u → w.cell? ⟨b, o + j * 8 + i, none⟩ = some u
theorem Lw.later {w w' : World} {ao : Option Addr} {n : Nat} {f : Nat → MW} (h : Lw w ao n f) (hb : Below w.heap.size w w') : Lw w' ao n f := fun j hj => by
  obtain ⟨b, o, h1, h2, h4⟩ := h j hj
  exact ⟨b, o, h1, Nat.lt_of_lt_of_le h2 hb.size, fun i u hi => (hb.cell (p := ⟨b, o + j * 8 + i, none⟩) h2).trans (h4 i u hi)⟩
theorem Lw.take {w : World} {ao : Option Addr} {n m : Nat} {f : Nat → MW} (h : Lw w ao n f) (hm : m ≤ n) : Lw w ao m f := fun j hj => h j (by omega)
theorem Lw.eight {w : World} {ao : Option Addr} {n : Nat} {f : Nat → MW} (h : Lw w ao n f) (j : Nat) (hj : j < n) : ∃ b o, ao = some ⟨b, o, none⟩ ∧ b < w.heap.size ∧ w.cell? ⟨b, o + j * 8, none⟩ = some (.int .i64 (f j).src) ∧ w.cell? ⟨b, o + j * 8 + 1, none⟩ = some (.int .i64 (f j).dst) ∧ w.cell? ⟨b, o + j * 8 + 2, none⟩ = some (.int .i64 (f j).lab) ∧ w.cell? ⟨b, o + j * 8 + 3, none⟩ = some (.string (f j).key) ∧ w.cell? ⟨b, o + j * 8 + 4, none⟩ = some (.int .i64 (f j).va) ∧ w.cell? ⟨b, o + j * 8 + 5, none⟩ = some (.int .i64 (f j).vb) ∧ w.cell? ⟨b, o + j * 8 + 6, none⟩ = some (.bool (f j).nl) ∧ w.cell? ⟨b, o + j * 8 + 7, none⟩ = some (.bool (f j).cond) := by
  obtain ⟨b, o, h1, h2, h4⟩ := h j hj
  exact ⟨b, o, h1, h2, h4 0 _ rfl, h4 1 _ rfl, h4 2 _ rfl, h4 3 _ rfl, h4 4 _ rfl, h4 5 _ rfl, h4 6 _ rfl, h4 7 _ rfl⟩
theorem Lw.congr {w : World} {ao : Option Addr} {n : Nat} {f f' : Nat → MW} (h : Lw w ao n f) (he : ∀ j, j < n → f' j = f j) : Lw w ao n f' := fun j hj => by rw [he j hj]; exact h j hj

def rowsW (f : Nat → MW) (n : Nat) : List (List Value) := (List.range n).map (fun j => encW (f j))
theorem rowsW_size (f : Nat → MW) (n : Nat) : ∀ r ∈ rowsW f n, r.length = 8 := fun r hr => by
  obtain ⟨j, _, rfl⟩ := List.mem_map.1 hr
  rfl
theorem rowsW_len (f : Nat → MW) (n : Nat) : (rowsW f n).length = n := by simp [rowsW]
theorem rowsW_at (f : Nat → MW) (n j i : Nat) (hj : j < n) (hi : i < 8) : (rowsW f n).flatten[j * 8 + i]? = (encW (f j))[i]? := by
  rw [flatten_get 8 _ j i (rowsW_size f n) (by rw [rowsW_len]; exact hj) hi]
  simp [rowsW, List.getD, hj]
theorem rowsW_get (f : Nat → MW) (n x : Nat) (u : Value) (h : (rowsW f n).flatten[x]? = some u) : x / 8 < n ∧ (encW (f (x / 8)))[x % 8]? = some u := by
  have hx := (List.getElem?_eq_some_iff.1 h).1
  rw [flatten_len 8 _ (rowsW_size f n), rowsW_len] at hx
  have h1 : x / 8 < n := by omega
  refine ⟨h1, ?_⟩
  rw [← rowsW_at f n (x / 8) (x % 8) h1 (by omega), show x / 8 * 8 + x % 8 = x by omega]
  exact h
theorem rowsW_one (f : Nat → MW) (n : Nat) : ∀ u ∈ (rowsW f n).flatten, u.oneCell' = true := fun u hu => by
  obtain ⟨r, hr, hur⟩ := List.mem_flatten.1 hu
  obtain ⟨j, hj, rfl⟩ := List.mem_map.1 hr
  exact encW_one _ u hur
theorem Lw.news {w : World} {ad : Addr} {n : Nat} {f : Nat → MW} (A : Lw w (some ad) n f) (j : Nat) (u : Value) (hj : (rowsW f n).flatten[j]? = some u) : w.cell? (ad.add j) = some u := by
  obtain ⟨h1, h2⟩ := rowsW_get f n j u hj
  obtain ⟨b, o, e, _, h3⟩ := A (j / 8) h1
  cases e
  have := h3 (j % 8) u h2
  rw [Addr.add_lit]
  rwa [Nat.add_assoc, show j / 8 * 8 + j % 8 = j by omega] at this
/-- A row of one's own, by its cells. -/
theorem owns_lw {w : World} {B n m : Nat} {v : Value} {f : Nat → MW} (h : w.ownsRow B 25 8 v n (rowsW f n).flatten) : ∃ ao c, v = .slice ao n c ∧ n ≤ c ∧ Lw w ao n f := by
  rcases h.2 with ⟨hv, hn⟩ | ⟨g, cap, cur, hv, hg, hh, hcap, hm, hsz, ht⟩
  · exact ⟨none, 0, by rw [hv, hn], by omega, fun j hj => by omega⟩
  · refine ⟨some ⟨g, 0, none⟩, cap, hv, hcap, fun j hj => ⟨g, 0, rfl, (h.lt g (by rw [hv]; rfl)).2, fun i u hi => ?_⟩⟩
    have hi8 : i < 8 := by have := (List.getElem?_eq_some_iff.1 hi).1; rwa [encW_len] at this
    have := h.cells (g := g) (by rw [hv]; rfl) (j * 8 + i) u (by rw [rowsW_at f n j i hj hi8]; exact hi)
    rw [Addr.add_lit] at this
    simpa using this

/-- Which dependencies are meant. -/
def mt (f : Nat → MW) (a b c : Int) (j : Nat) : Prop := (f j).src = a ∧ (f j).dst = b ∧ (f j).lab = c
/-- What there is to find. -/
def IsFind (f : Nat → MW) (n : Nat) (a b c : Int) (x : MW) (ok : Bool) : Prop :=
  (∃ k, k < n ∧ mt f a b c k ∧ (f k).cond = false ∧ (∀ j, j < k → mt f a b c j → (f j).cond = true) ∧ x = f k ∧ ok = true) ∨
  ((∀ j, j < n → mt f a b c j → (f j).cond = true) ∧ ((∃ k, k < n ∧ mt f a b c k ∧ (∀ j, j < k → ¬ mt f a b c j) ∧ x = f k ∧ ok = true) ∨ ((∀ j, j < n → ¬ mt f a b c j) ∧ x = MW.zero ∧ ok = false)))
theorem IsFind.one {f : Nat → MW} {n : Nat} {a b c : Int} {x y : MW} {p q : Bool} (h : IsFind f n a b c x p) (g : IsFind f n a b c y q) : x = y ∧ p = q := by
  rcases h with ⟨k, h1, h2, h3, h4, rfl, rfl⟩ | ⟨h0, h⟩
  · rcases g with ⟨m, g1, g2, g3, g4, rfl, rfl⟩ | ⟨g0, g⟩
    · have : k = m := by
        rcases Nat.lt_trichotomy k m with hl | hl | hl
        · have := g4 k hl h2; rw [h3] at this; cases this
        · exact hl
        · have := h4 m hl g2; rw [g3] at this; cases this
      subst this
      exact ⟨rfl, rfl⟩
    · have := g0 k h1 h2; rw [h3] at this; cases this
  · rcases g with ⟨m, g1, g2, g3, g4, rfl, rfl⟩ | ⟨g0, g⟩
    · have := h0 m g1 g2; rw [g3] at this; cases this
    · rcases h with ⟨k, h1, h2, h3, rfl, rfl⟩ | ⟨h1, rfl, rfl⟩
      · rcases g with ⟨m, g1, g2, g3, rfl, rfl⟩ | ⟨g1, rfl, rfl⟩
        · have : k = m := by
            rcases Nat.lt_trichotomy k m with hl | hl | hl
            · exact absurd h2 (g3 k hl)
            · exact hl
            · exact absurd g2 (h3 m hl)
          subst this
          exact ⟨rfl, rfl⟩
        · exact absurd h2 (g1 k h1)
      · rcases g with ⟨m, g1, g2, g3, rfl, rfl⟩ | ⟨g1, rfl, rfl⟩
        · exact absurd g2 (h1 m g1)
        · exact ⟨rfl, rfl⟩
/-- What the program knows behind k of them. -/
def Fs (f : Nat → MW) (k : Nat) (a b c : Int) (x : MW) (ok : Bool) : Prop := (∀ j, j < k → mt f a b c j → (f j).cond = true) ∧ ((∃ i, i < k ∧ mt f a b c i ∧ (∀ j, j < i → ¬ mt f a b c j) ∧ x = f i ∧ ok = true) ∨ ((∀ j, j < k → ¬ mt f a b c j) ∧ x = MW.zero ∧ ok = false))
theorem Fs.first (f : Nat → MW) (a b c : Int) : Fs f 0 a b c MW.zero false := ⟨fun j h => by omega, .inr ⟨fun j h => by omega, rfl, rfl⟩⟩
theorem Fs.no {f : Nat → MW} {k : Nat} {a b c : Int} {x : MW} {ok : Bool} (h : Fs f k a b c x ok) (hn : ¬ mt f a b c k) : Fs f (k + 1) a b c x ok := by
  refine ⟨fun j hj hm => ?_, ?_⟩
  · by_cases e : j = k
    · subst e; exact absurd hm hn
    · exact h.1 j (by omega) hm
  · rcases h.2 with ⟨i, h1, h2⟩ | ⟨h1, h2⟩
    · exact .inl ⟨i, by omega, h2⟩
    · refine .inr ⟨fun j hj hm => ?_, h2⟩
      by_cases e : j = k
      · subst e; exact hn hm
      · exact h1 j (by omega) hm
theorem Fs.more {f : Nat → MW} {k : Nat} {a b c : Int} {x : MW} (h : Fs f k a b c x true) (hc : (f k).cond = true) : Fs f (k + 1) a b c x true := by
  refine ⟨fun j hj hm => ?_, ?_⟩
  · by_cases e : j = k
    · subst e; exact hc
    · exact h.1 j (by omega) hm
  · rcases h.2 with ⟨i, h1, h2⟩ | ⟨h1, h2, h3⟩
    · exact .inl ⟨i, by omega, h2⟩
    · cases h3
theorem Fs.take {f : Nat → MW} {k : Nat} {a b c : Int} {x : MW} (h : Fs f k a b c x false) (hm : mt f a b c k) (hc : (f k).cond = true) : Fs f (k + 1) a b c (f k) true := by
  refine ⟨fun j hj hm => ?_, .inl ⟨k, by omega, hm, ?_, rfl, rfl⟩⟩
  · by_cases e : j = k
    · subst e; exact hc
    · exact h.1 j (by omega) hm
  · rcases h.2 with ⟨i, h1, h2, h3, h4, h5⟩ | ⟨h1, h2, h3⟩
    · cases h5
    · exact h1
theorem Fs.found {f : Nat → MW} {k n : Nat} {a b c : Int} {x : MW} {ok : Bool} (h : Fs f k a b c x ok) (hk : k < n) (hm : mt f a b c k) (hc : (f k).cond = false) : IsFind f n a b c (f k) true := .inl ⟨k, hk, hm, hc, h.1, rfl, rfl⟩
theorem Fs.done {f : Nat → MW} {n : Nat} {a b c : Int} {x : MW} {ok : Bool} (h : Fs f n a b c x ok) : IsFind f n a b c x ok := .inr h
end Go.Proofs.Ytbcegdiabnapkab
