/-
  slices.Backward over numbers: from the last one to the first, and left where a round says so.
-/
import Derived.Test.YtgfnjebnfhgimaaBk
import Derived.Test.YtgfnjebnfhgimaaRg
namespace Go.Proofs.Ytgfnjebnfhgimaa
set_option linter.unusedVariables false
set_option linter.unusedSimpArgs false
open Go.RowKit Go.Shelf
attribute [local go_sem] Oper.semAt_some

set_option maxHeartbeats 1000000 in
theorem backI_in (F : Fence) (n : Nat) (hf : F.fn 13) (hro : F.round = none) (a : Option Addr) (len cap : Nat) (w : World) :
    CallsIn F n Try.prog 13 #[.slice a len cap] w fun e w' => e = .returned (.func (.func 21) #[] #[.pointer (some ⟨w.heap.size, 0, none⟩)]) ∧ w' = w.alloc (.cells #[.slice a len cap] 23) := by
  refine callsIn_of_wp Try.func13 rfl hf ?_ hro
  simp only [Try.ntmps13, List.size_toArray, List.length_cons, List.length_nil, Nat.reduceAdd, Nat.reduceSub, Array.replicate_succ, Array.replicate_zero, List.push_toArray, List.append_toArray, List.nil_append, List.cons_append]
  gi_wp2
  go_ret
  exact ⟨rfl, rfl⟩

/-- What the round k is handed. -/
def backY (l : List Int) (k : Nat) : Array Value := #[.int .i64 ((l.length - 1 - k : Nat) : Int), .int .i64 (l.getD (l.length - 1 - k) 0)]

set_option maxRecDepth 100000 in
set_option maxHeartbeats 4000000 in
theorem backI_seq (F : Fence) (n : Nat) (hf : F.fn 21) (hro : F.round = none) (hn : 1 ≤ n) (P : Nat → Prop) (Bs n1 : Nat) (a : Option Addr) (l : List Int) (cap : Nat) (w : World) (hlen : l.length ≤ 262144) (hcap : l.length ≤ cap)
    (hBs : w.cell? ⟨Bs, 0, none⟩ = some (.slice a l.length cap)) (hB1 : Bs < n1) (hBP : ¬ P Bs) (hn1 : n1 ≤ w.heap.size) (hc : ∀ j, j < l.length → ∃ b off, a = some ⟨b, off, none⟩ ∧ b < n1 ∧ ¬ P b ∧ w.cell? ⟨b, off + j, none⟩ = some (.int .i64 (l.getD j 0))) :
    SeqLv F n Try.prog 21 #[.pointer (some ⟨Bs, 0, none⟩)] (backY l) l.length (KeepP P n1) w := fun id J Jx W hW hY h0 => by
  have hbx : W.cell? ⟨Bs, 0, none⟩ = some (.slice a l.length cap) := (hW.cell (p := ⟨Bs, 0, none⟩) (show Bs < w.heap.size by omega)).trans hBs
  have HC : Hid (∀ j, j < l.length → ∃ b off, a = some ⟨b, off, none⟩ ∧ b < n1 ∧ ¬ P b ∧ W.cell? ⟨b, off + j, none⟩ = some (.int .i64 (l.getD j 0))) := fun j hj => by
    obtain ⟨b, off, h1, h2, h3, h4⟩ := hc j hj
    exact ⟨b, off, h1, h2, h3, (hW.cell (p := ⟨b, off + j, none⟩) (show b < w.heap.size by omega)).trans h4⟩
  clear hc hBs
  refine callsIn_of_wp Try.func21 rfl hf ?_ hro
  simp only [Try.ntmps21, List.size_toArray, List.length_cons, List.length_nil, Nat.reduceAdd, Nat.reduceSub, Array.replicate_succ, Array.replicate_zero, List.push_toArray, List.append_toArray, List.nil_append, List.cons_append]
  gi_wp2
  generalize hL : l.length = len at *
  gi_loopw [3] (fun i wr => ∃ k : Nat, k ≤ len ∧ i = .int .i64 ((len : Int) - 1 - k) ∧ J k wr ∧ KeepP P n1 W wr)
    (fun i _ => (intOf i + 1).toNat)
  case atStart => exact ⟨0, Nat.zero_le _, by simp, h0, KeepP.refl _ _ _⟩
  case round =>
    obtain ⟨k, hk, rfl, hJ, hkp⟩ := hrel
    by_cases hlt : k < len
    · obtain ⟨j, hj⟩ : ∃ j, len - 1 - k = j := ⟨_, rfl⟩
      have hj2 : ((len : Int) - 1 - k) = j := by omega
      have hjl : j < len := by omega
      obtain ⟨b, off, rfl, hb1, hbP, c0⟩ := HC.out j hjl
      obtain ⟨fn, tmps, assign, body, hy, hR⟩ := hY k wr hlt hJ
      unfold backY at hy
      rw [hL, hj] at hy
      have hbx2 := hkp.cell hB1 hBP hbx
      have d0 := hkp.cell hb1 hbP c0
      clear c0 hbx
      generalize l.getD j 0 = o at *
      rw [hj2]
      have hji : (j : Int) < len := by omega
      have hj0 : (0 : Int) ≤ j := by omega
      have HK := hid hkp
      have HJ2 := hid hj2
      have HJ1 := hid hj
      clear hkp hj2 hj
      gi_wp2
      refine hR.mono ?_
      rintro e W3 (⟨rfl, hJ3, hk3⟩ | ⟨rfl, hx3⟩)
      · gi_wp2
        go_roundw
        case rel => exact ⟨k + 1, by omega, by have := HJ2.out; simp; omega, hJ3, HK.out.trans hk3⟩
        case measure => simp [intOf]
      · gi_wp2
        (try simp only [Exit.inBlock, Exit.then])
        refine bodyPost_ret (results_none rfl _ _ _) rfl ?_
        exact ⟨⟨_, rfl⟩, .inr hx3⟩
    · obtain rfl : k = len := by omega
      have he : ((k : Int) - 1 - k) = -1 := by omega
      rw [he]
      gi_wp2
      go_end0
      exact ⟨⟨_, rfl⟩, .inl (by rw [hL]; exact hJ)⟩
end Go.Proofs.Ytgfnjebnfhgimaa
