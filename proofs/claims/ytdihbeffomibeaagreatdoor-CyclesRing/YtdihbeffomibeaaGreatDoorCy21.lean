/-
  Plain: what Find tells of a ring, whole and cut.
-/
import Derived.Test.YtdihbeffomibeaaGreatDoorCy20
namespace Go.Proofs.YtdihbeffomibeaaGreatDoor
set_option linter.unusedVariables false
set_option linter.unusedSimpArgs false
open Go.RowKit Go.Lib Go.Maps

/-- A class and its ring's label. -/
def RK (c : Int) (X : Nat) : Prop := c = 8 ∧ X = 1 ∨ c = 9 ∧ X = 2 ∨ c = 11 ∧ X = 4
theorem RK.cl {c : Int} {X : Nat} (h : RK c X) : isCl c := by rcases h with ⟨rfl, _⟩ | ⟨rfl, _⟩ | ⟨rfl, _⟩ <;> unfold isCl <;> simp
theorem RK.want {c : Int} {X : Nat} (h : RK c X) : wantN c = X := by rcases h with ⟨rfl, rfl⟩ | ⟨rfl, rfl⟩ | ⟨rfl, rfl⟩ <;> decide
theorem RK.oth {c : Int} {X : Nat} (h : RK c X) (r : Bool) : X &&& othN c r ≠ 0 := by rcases h with ⟨rfl, rfl⟩ | ⟨rfl, rfl⟩ | ⟨rfl, rfl⟩ <;> cases r <;> decide +kernel
theorem RK.lt {c : Int} {X : Nat} (h : RK c X) : X < 16 ∧ 1 ≤ X ∧ X &&& X ≠ 0 := by rcases h with ⟨_, rfl⟩ | ⟨_, rfl⟩ | ⟨_, rfl⟩ <;> decide
theorem RK.one {c : Int} {X : Nat} (h : RK c X) : one4 (X : Int) := by unfold one4; rcases h with ⟨_, rfl⟩ | ⟨_, rfl⟩ | ⟨_, rfl⟩ <;> decide
theorem RK.ten {c : Int} {X : Nat} (h : RK c X) : X &&& wantN 10 = 0 ∨ X &&& othN 10 false = 0 := by rcases h with ⟨_, rfl⟩ | ⟨_, rfl⟩ | ⟨_, rfl⟩ <;> decide
theorem nxt_lt {n u : Nat} (h : u < n) : nxt n u < n := by unfold nxt; split <;> omega
theorem nxt_ne {n u : Nat} (h2 : 2 ≤ n) (h : u < n) : nxt n u ≠ u := by unfold nxt; split <;> omega
theorem ring_why {n X : Nat} (hn : 2 ≤ n) (h1 : 1 ≤ X) (hX : X < 16) {j : Nat} (hj : j < n) : whyW n (ringF n X j) = 0 := by
  have a := nxt_lt hj
  have b := nxt_ne hn hj
  unfold whyW addWhy ringF
  simp only [MW.src, MW.dst, MW.lab]
  rw [if_neg (by omega), if_neg (by omega)]
theorem ring_edge {n X o : Nat} (hX : X < 16) (ho : o < 16) (h : X &&& o ≠ 0) (u v : Nat) : edge (gL (ringF n X) n) (o : Int) u v = true ↔ u < n ∧ v = nxt n u := by
  rw [edge_one hX (fun j _ => rfl) o ho]
  constructor
  · rintro ⟨_, j, hj, h1, h2⟩
    have e1 : j = u := by simpa [ringF, MW.src] using h1
    have e2 : nxt n j = v := by simpa [ringF, MW.dst] using h2
    subst e1
    exact ⟨hj, e2.symm⟩
  · rintro ⟨hu, rfl⟩
    exact ⟨h, u, hu, by simp [ringF, MW.src], by simp [ringF, MW.dst]⟩
theorem ring_find {n : Nat} {c : Int} {X : Nat} (hn : 2 ≤ n) (hn2 : n ≤ 300) (hc : RK c X) {k : Nat} {g : Nat → MW} {ok : Bool} (h : TellA (ringF n X) n (n : Int) c false k g ok) : ok = true ∧ k = n ∧ ∀ i, i < n → g i = ringF n X i := by
  obtain ⟨hX, hX1, hXX⟩ := hc.lt
  have E1 := fun u v => ring_edge (n := n) (o := wantN c) hX (wantN_lt c) (by rw [hc.want]; exact hXX) u v
  have E2 := fun u v => ring_edge (n := n) (o := othN c false) hX (othN_lt c false) (hc.oth false) u v
  rcases h with ⟨b, _⟩ | ⟨_, n', e, _, ⟨h0, F, T, q, h1, h2, h3, hk, h4⟩ | ⟨_, _, h0⟩⟩
  · exfalso
    rcases b with b | ⟨i, hi, b⟩ | b | b | ⟨n', e, i, hi, b⟩
    · exact b hc.cl
    · exact b hc.one
    · omega
    · omega
    · obtain rfl : n = n' := by omega
      exact b (ring_why hn hX1 hX hi)
  · obtain rfl : n = n' := by omega
    obtain ⟨rfl, rfl, hl, hnd⟩ := ring_told hn E1 E2 h1 h2
    subst hk
    refine ⟨h0, hl, fun i hi => ?_⟩
    obtain ⟨j, hj, e, e1, _⟩ := PartC.there (fun j hj => hc.one) (fun j hj => ring_why hn hX1 hX hj) (want_one hc.cl) (othN_lt c false) h1 h2 h4 i (by omega)
    rw [hnd i hi] at e1
    have : j = i := by
      have : ((j : Nat) : Int) = i := e1
      omega
    rw [e, this]
  · exfalso
    obtain rfl : n = n' := by omega
    obtain ⟨r, hr, hw⟩ := ring_way (fun u hu => (E2 u _).2 ⟨hu, rfl⟩) (n - 2) 1 (by omega)
    exact h0 0 1 (by omega) (by omega) ((E1 0 1).2 ⟨by omega, by unfold nxt; rw [if_pos (by omega)]⟩) r hr hw
def cutF (n X cut : Nat) (j : Nat) : MW := ringF n X (if j < cut then j else j + 1)
theorem ring_cut {n : Nat} {c : Int} {X cut : Nat} (hcut : cut < n) (hc : RK c X) {k : Nat} {g : Nat → MW} {ok : Bool} (h : TellA (cutF n X cut) (n - 1) (n : Int) c true k g ok) : ok = false := by
  obtain ⟨hX, hX1, hXX⟩ := hc.lt
  have E : ∀ o : Nat, o < 16 → ∀ u v, edge (gL (cutF n X cut) (n - 1)) (o : Int) u v = true → u < n ∧ u ≠ cut ∧ v = nxt n u := fun o ho u v he => by
    obtain ⟨_, j, hj, h1, h2⟩ := (edge_one hX (fun j _ => rfl) o ho u v).1 he
    have e1 : (if j < cut then j else j + 1) = u := by simpa [cutF, ringF, MW.src] using h1
    have e2 : nxt n (if j < cut then j else j + 1) = v := by simpa [cutF, ringF, MW.dst] using h2
    rw [e1] at e2
    refine ⟨?_, ?_, e2.symm⟩
    · split at e1 <;> omega
    · split at e1 <;> omega
  rcases h with ⟨_, h, _⟩ | ⟨_, n', e, _, ⟨_, F, T, q, h1, _⟩ | ⟨h, _⟩⟩
  · exact h
  · exfalso
    obtain rfl : n = n' := by omega
    exact h1.no (cut_no hcut (E _ (wantN_lt c)) (E _ (othN_lt c true)))
  · exact h
theorem ring_single {n : Nat} {c : Int} {X : Nat} (hc : RK c X) {k : Nat} {g : Nat → MW} {ok : Bool} (h : TellA (ringF n X) n (n : Int) 10 false k g ok) : ok = false := by
  obtain ⟨hX, hX1, hXX⟩ := hc.lt
  rcases h with ⟨_, h, _⟩ | ⟨_, n', e, _, ⟨_, F, T, q, h1, _⟩ | ⟨h, _⟩⟩
  · exact h
  · exfalso
    rcases hc.ten with h | h
    · exact ((edge_one hX (fun j _ => rfl) _ (wantN_lt 10) F T).1 h1.e).1 h
    · obtain ⟨r, hr, hw⟩ := h1.back
      match r, hr, hw with
      | a :: r, _, hw => exact ((edge_one hX (fun j _ => rfl) _ (othN_lt 10 false) T a).1 hw.1).1 h
  · exact h
theorem ring_is {n : Nat} {c : Int} {X : Nat} (hn : 2 ≤ n) (hc : RK c X) : IsM (ringF n X) n c false := by
  obtain ⟨hX, hX1, hXX⟩ := hc.lt
  refine ⟨hc.cl, ⟨fun i hi => ?_, fun i j hij hj => ?_, by omega⟩, 0, by omega, ?_, fun j hj => by omega, fun j hj _ => ?_⟩
  · rw [nxt_mod hi]
    rfl
  · show ((i : Nat) : Int) ≠ (j : Nat)
    omega
  · show wantB (wantN c : Nat) (X : Nat) = true
    rw [hc.want]
    simp [wantB]
  · show barsB (othN c false : Nat) (X : Nat) = false
    have h1 : strB (X : Int) = false := by
      cases e : strB (X : Int) with
      | false => rfl
      | true => exact absurd hc.one ((strB_iff _).1 e)
    unfold barsB
    rw [h1, and_16 _ hX _ (othN_lt c false)]
    have := hc.oth false
    simpa using this
end Go.Proofs.YtdihbeffomibeaaGreatDoor
